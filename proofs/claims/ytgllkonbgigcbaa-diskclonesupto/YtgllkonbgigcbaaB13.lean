/- The law's own step: a file is read (5). The law's own step: all there is is told (6). The law's own step: to go on with a clone (9). The law's own step: a call that changes. The law's own step, all kinds but a crash, and stepped; a disk and its reference beside each other. -/
import Derived.Test.YtgllkonbgigcbaaB12
section
namespace Go.Proofs.Ytgllkonbgigcbaa
open Go.RowKit Go.Hay
set_option linter.unusedVariables false
set_option linter.unusedSimpArgs false

set_option maxHeartbeats 16000000 in
set_option maxRecDepth 100000 in
theorem cStep5 {w : World} {p mb : Nat} {xs : List Ent} {d : Dk} (hD : Disk w p mb xs d) {K J : Nat} (hlow : Lw K J d) (hs : d.steps < 9000000000000000000) (r : RD) (hr : RdOk w r) (hL : Like r d) (hT : ∀ k ∈ r.foot, k ∉ foot p mb xs) (o : DOp) (hok : o.ok w) (hk : o.kind = 5)
    (hK : K + o.b.bs.length ≤ 100000000000000) (hJ : J ≤ 100000000) (hoff : o.b.bs ≠ [] → ∀ k ∈ blk o.b.a, k ∉ foot p mb xs) :
    Calls Try.prog 25 #[.pointer (some ⟨p, 0, none⟩), r.v, o.v] w (StQ p mb xs r o (d) w) := by
  obtain ⟨w1, hw1, k1, bx, hsz⟩ := boxC r o w
  have hlt := hD.lt
  have hrl := hr.lt
  have hsm : Small d := hlow.small (by omega)
  have hN : xs.length ≤ 1000000000 := by have := len_of hD; have := hlow.len; omega
  have hp0 : w.heap.size ∉ foot p mb xs := fun h => by have := hlt _ h; omega
  have hp1 : w.heap.size + 1 ∉ foot p mb xs := fun h => by have := hlt _ h; omega
  have hp2 : w.heap.size + 1 + 1 ∉ foot p mb xs := fun h => by have := hlt _ h; omega
  have hr2 : w.heap.size + 1 + 1 ∉ r.foot := fun h => by have := hrl _ h; omega
  have hRd := cRead (hD.keptNew k1) hsm o.name hok.name
  have hfin : Hid (∀ w4, Kp [] w w4 → ∀ W', Kp [w.heap.size + 1 + 1] w4 W' → StQ p mb xs r o d w (.returned (.tuple #[.pointer (some ⟨p, 0, none⟩), r.v, .bool true])) W') := fun w4 k4 W' kW =>
    stFin (k4.mono (by simp)) (hD.keptNew k4) (hr.keptNew k4) hL (fun k hk => .inl hk) (fun k hk => .inl hk) hT (by omega) hp2 hr2 kW (fun _ _ => ⟨rfl, rfl⟩)
  have hAt : Hid (∀ A, Kp [] w A → Calls Try.prog 44 #[r.v, .string ⟨o.name.toArray⟩] A (AtP r.l o.name A)) := fun A kA => cAt r o.name A (hr.keptNew kA) (by have := congrArg List.length hL.files; have := hlow.len; simp at *; omega)
  have hlk := hid (hL.look o.name)
  have hrk : Hid (RdOk w r) := hr
  clear hL hr hT hrl hlow hoff hok
  obtain ⟨room, steps, fa, fc, l, armed, dead, left⟩ := r
  simp only [RD.v, DOp.v] at *
  have b0 := bx.rd.c0; have b1 := bx.rd.c1; have b2 := bx.rd.c2; have b3 := bx.rd.c3; have b4 := bx.rd.c4; have b5 := bx.rd.c5
  have o0 := bx.o0; have o1 := bx.o1; have o2 := bx.o2; have o3 := bx.o3; have o4 := bx.o4; have o5 := bx.o5
  have hw1' := hid hw1
  rw [hk] at o0 hw1 ⊢
  go_enter Try.func25, Try.ntmps25
  go_wp2_with fail
  refine hRd.mono ?_
  intro e w2 hE
  cases hx : lookG RF.name o.name l with
  | none =>
    have e1 : (lookG Fl.name o.name d.files).map Fl.bytes = none := by rw [hlk.out]; simp only [hx]; rfl
    rw [e1] at hE
    obtain ⟨rfl, rfl⟩ := hE
    clear e1
    go_wp2_with fail
    refine (hAt.out _ k1).mono ?_
    rintro e w3 ⟨k3, (⟨j, x, rfl, hxj, hxl⟩ | ⟨rfl, hno⟩)⟩
    · simp only [hx] at hxl; cases hxl
    clear b0 b1 b2 b3 b4 b5 o0 o1 o2 o3 o4 o5
    have bx3 := bx.kept k3
    have bxd := bx3.kept (w' := w3.drew) (Kp.refl _ _).drew
    have an5 := bxd.an
    obtain ⟨r0, r1, r2, r3, r4, r5, rf⟩ := an5
    have hb4 : B6 w3.drew (w.heap.size + 1 + 1) (.int .i64 0) (.int .i64 0) (.slice none 0 0) (.bool false) (.bool false) (.int .i64 0) := bxd.an
    have g0 := rf 0; have g1 := rf 1; have g2 := rf 2; have g3 := rf 3; have g4 := rf 4; have g5 := rf 5
    have kw3 : Kp [] w w3.drew := (k1.trans k3 (by simp)).drew
    clear hRd hno hx
    have hS : Hid (∀ A, Kp [w.heap.size + 1 + 1] w3.drew A → (Kp [w.heap.size + 1 + 1] w3.drew A ∧ A.cell? ⟨w.heap.size, 0, none⟩ = some (.int .i64 room) ∧ A.cell? ⟨w.heap.size, 1, none⟩ = some (.int .i64 steps) ∧ A.cell? ⟨w.heap.size, 2, none⟩ = some (.slice fa l.length fc) ∧ A.cell? ⟨w.heap.size, 3, none⟩ = some (.bool armed) ∧ A.cell? ⟨w.heap.size, 4, none⟩ = some (.bool dead) ∧ A.cell? ⟨w.heap.size, 5, none⟩ = some (.int .i64 left))) := fun A kA => by
      have b := (bxd.rd).keptS kA (by simp <;> omega)
      exact ⟨kA, b.c0, b.c1, b.c2, b.c3, b.c4, b.c5⟩
    go_wp2_with fail
    refine wp_region_held_drew (S := (fun A => Kp [w.heap.size + 1 + 1] w3.drew A ∧ A.cell? ⟨w.heap.size, 0, none⟩ = some (.int .i64 room) ∧ A.cell? ⟨w.heap.size, 1, none⟩ = some (.int .i64 steps) ∧ A.cell? ⟨w.heap.size, 2, none⟩ = some (.slice fa l.length fc) ∧ A.cell? ⟨w.heap.size, 3, none⟩ = some (.bool armed) ∧ A.cell? ⟨w.heap.size, 4, none⟩ = some (.bool dead) ∧ A.cell? ⟨w.heap.size, 5, none⟩ = some (.int .i64 left))) (by kernel_rfl) ?_ (fun hHeld => ?_)
    · exact hS.out _ (Kp.refl _ _)
    generalize w3.drew = wd at *
    refine wpAnyH_take (i := 0) (v := ?_) rfl (by kernel_rfl) (by kernel_rfl) (by kernel_rfl) (fun _ _ _ h => h) (Or.inl ⟨by rfl, ?_⟩) (by assumption) ?_
    rotate_left
    · intro w hSw; (try dsimp only at hSw); go_simp <;> with_reducible rfl
    try simp only [Act.put, List.getElem_toArray, List.getElem_cons_zero, List.getElem_cons_succ, List.setIfInBounds_toArray, List.set_cons_zero, List.set_cons_succ]
    refine wpAnyH_take (i := 1) (v := ?_) rfl (by kernel_rfl) (by kernel_rfl) (by kernel_rfl) (fun _ _ _ h => h) (Or.inl ⟨by rfl, ?_⟩) (by assumption) ?_
    rotate_left
    · intro w hSw; (try dsimp only at hSw); go_simp <;> with_reducible rfl
    try simp only [Act.put, List.getElem_toArray, List.getElem_cons_zero, List.getElem_cons_succ, List.setIfInBounds_toArray, List.set_cons_zero, List.set_cons_succ]
    refine wpAnyH_take (i := 2) (v := ?_) rfl (by kernel_rfl) (by kernel_rfl) (by kernel_rfl) (fun _ _ _ h => h) (Or.inl ⟨by rfl, ?_⟩) (by assumption) ?_
    rotate_left
    · intro w hSw; (try dsimp only at hSw); go_simp <;> with_reducible rfl
    try simp only [Act.put, List.getElem_toArray, List.getElem_cons_zero, List.getElem_cons_succ, List.setIfInBounds_toArray, List.set_cons_zero, List.set_cons_succ]
    refine wpAnyH_take (i := 3) (v := ?_) rfl (by kernel_rfl) (by kernel_rfl) (by kernel_rfl) (fun _ _ _ h => h) (Or.inl ⟨by rfl, ?_⟩) (by assumption) ?_
    rotate_left
    · intro w hSw; (try dsimp only at hSw); go_simp <;> with_reducible rfl
    try simp only [Act.put, List.getElem_toArray, List.getElem_cons_zero, List.getElem_cons_succ, List.setIfInBounds_toArray, List.set_cons_zero, List.set_cons_succ]
    refine wpAnyH_take (i := 4) (v := ?_) rfl (by kernel_rfl) (by kernel_rfl) (by kernel_rfl) (fun _ _ _ h => h) (Or.inl ⟨by rfl, ?_⟩) (by assumption) ?_
    rotate_left
    · intro w hSw; (try dsimp only at hSw); go_simp <;> with_reducible rfl
    try simp only [Act.put, List.getElem_toArray, List.getElem_cons_zero, List.getElem_cons_succ, List.setIfInBounds_toArray, List.set_cons_zero, List.set_cons_succ]
    refine wpAnyH_take (i := 5) (v := ?_) rfl (by kernel_rfl) (by kernel_rfl) (by kernel_rfl) (fun _ _ _ h => h) (Or.inl ⟨by rfl, ?_⟩) (by assumption) ?_
    rotate_left
    · intro w hSw; (try dsimp only at hSw); go_simp <;> with_reducible rfl
    try simp only [Act.put, List.getElem_toArray, List.getElem_cons_zero, List.getElem_cons_succ, List.setIfInBounds_toArray, List.set_cons_zero, List.set_cons_succ]
    refine wpAnyH_take (i := 6) (v := ?_) rfl (by kernel_rfl) (by kernel_rfl) (by kernel_rfl) (fun _ _ _ h => h) (Or.inl ⟨by rfl, ?_⟩) (by assumption) ?_
    rotate_left
    · intro w hSw; (try dsimp only at hSw); go_simp <;> with_reducible rfl
    try simp only [Act.put, List.getElem_toArray, List.getElem_cons_zero, List.getElem_cons_succ, List.setIfInBounds_toArray, List.set_cons_zero, List.set_cons_succ]
    refine wpAnyH_take (i := 7) (v := ?_) rfl (by kernel_rfl) (by kernel_rfl) (by kernel_rfl) (fun _ _ _ h => h) (Or.inl ⟨by rfl, ?_⟩) (by assumption) ?_
    rotate_left
    · intro w hSw; (try dsimp only at hSw); go_simp <;> with_reducible rfl
    try simp only [Act.put, List.getElem_toArray, List.getElem_cons_zero, List.getElem_cons_succ, List.setIfInBounds_toArray, List.set_cons_zero, List.set_cons_succ]
    refine wpAnyH_take (i := 8) (v := ?_) rfl (by kernel_rfl) (by kernel_rfl) (by kernel_rfl) (fun _ _ _ h => h) (Or.inl ⟨by rfl, ?_⟩) (by assumption) ?_
    rotate_left
    · intro w hSw; (try dsimp only at hSw); go_simp <;> with_reducible rfl
    try simp only [Act.put, List.getElem_toArray, List.getElem_cons_zero, List.getElem_cons_succ, List.setIfInBounds_toArray, List.set_cons_zero, List.set_cons_succ]
    refine wpAnyH_take (i := 9) (v := ?_) rfl (by kernel_rfl) (by kernel_rfl) (by kernel_rfl) (fun _ _ _ h => h) (Or.inl ⟨by rfl, ?_⟩) (by assumption) ?_
    rotate_left
    · intro w hSw; (try dsimp only at hSw); go_simp <;> with_reducible rfl
    try simp only [Act.put, List.getElem_toArray, List.getElem_cons_zero, List.getElem_cons_succ, List.setIfInBounds_toArray, List.set_cons_zero, List.set_cons_succ]
    refine wpAnyH_ready (rs := [10]) (by kernel_rfl) (by simp) ?_
    refine AllReadyH.cons rfl (fun K hK => ?_) AllReadyH.nil
    go_simp
    (try go_wp2_with fail)
    refine hK.out _ _ ?_ (fun hHeld => ?_)
    · exact hS.out _ (kpSet6 _ _ _ _ _ _ _ _)
    clear hK K
    try simp only [Act.put, List.getElem_toArray, List.getElem_cons_zero, List.getElem_cons_succ, List.setIfInBounds_toArray, List.set_cons_zero, List.set_cons_succ]
    refine wpAnyH_take (i := 11) (v := ?_) rfl (by kernel_rfl) (by kernel_rfl) (by kernel_rfl) (fun _ _ _ h => h) (Or.inl ⟨by rfl, ?_⟩) (by assumption) ?_
    rotate_left
    · intro w hSw; (try dsimp only at hSw); go_simp <;> with_reducible rfl
    try simp only [Act.put, List.getElem_toArray, List.getElem_cons_zero, List.getElem_cons_succ, List.setIfInBounds_toArray, List.set_cons_zero, List.set_cons_succ]
    refine wpAnyH_done (by kernel_rfl) ?_ _
    go_wp2_with fail
    obtain ⟨W', hW', hb6, kW'⟩ := set6_ex hb4 (.int .i64 room) (.int .i64 steps) (.slice fa l.length fc) (.bool armed) (.bool dead) (.int .i64 left)
    rw [hW']
    obtain ⟨z0, z1, z2, z3, z4, z5, _⟩ := hb6
    refine bodyPost_ret (v := .tuple #[.pointer (some ⟨p, 0, none⟩), .agg #[.int .i64 room, .int .i64 steps, .slice fa l.length fc, .bool armed, .bool dead, .int .i64 left], .bool true]) (by simp [results, Try.results25, go_sem, z0, z1, z2, z3, z4, z5]) rfl ?_
    exact hfin.out _ kw3 W' kW'
  | some x =>
    have e1 : (lookG Fl.name o.name d.files).map Fl.bytes = some x.bytes := by rw [hlk.out]; simp only [hx]; rfl
    rw [e1] at hE
    obtain ⟨ra, rc, rfl, hr8, k2, hn8⟩ := hE
    clear e1
    have bx2 := bx.kept k2
    clear b0 b1 b2 b3 b4 b5 o0 o1 o2 o3 o4 o5
    have b0 := bx2.rd.c0; have b1 := bx2.rd.c1; have b2 := bx2.rd.c2; have b3 := bx2.rd.c3; have b4 := bx2.rd.c4; have b5 := bx2.rd.c5
    have o1 := bx2.o1
    have k12 : Kp [] w w2 := k1.trans k2 (by simp)
    go_wp2_with fail
    refine (hAt.out _ k12).mono ?_
    rintro e w3 ⟨k3, (⟨j, y, rfl, hxj, hxl⟩ | ⟨rfl, hno⟩)⟩
    rotate_left
    · simp only [hx] at hno; cases hno
    simp only [hx] at hxl
    cases hxl
    clear b0 b1 b2 b3 b4 b5 o1 hx
    have kw3 : Kp [] w w3.drew := (k12.trans k3 (by simp)).drew
    have bx3 := bx2.kept k3
    have bxd := bx3.kept (w' := w3.drew) (Kp.refl _ _).drew
    have an5 := bxd.an
    obtain ⟨r0, r1, r2, r3, r4, r5, rf⟩ := an5
    have hb4 : B6 w3.drew (w.heap.size + 1 + 1) (.int .i64 0) (.int .i64 0) (.slice none 0 0) (.bool false) (.bool false) (.int .i64 0) := bxd.an
    have g0 := rf 0; have g1 := rf 1; have g2 := rf 2; have g3 := rf 3; have g4 := rf 4; have g5 := rf 5
    have hrd := hrk.out.keptNew kw3
    obtain ⟨g, f, ea, c0, c1, c2⟩ := hrd.fls.at hxj
    simp only at ea
    subst ea
    have hse := hrd.see x (List.mem_of_getElem? hxj)
    obtain ⟨_, _, er8, hs8, hob⟩ := hr8.sees
    cases er8
    have hs9 := (hs8.kept k3 (by simp)).drew
    have hjl : j < l.length := (List.getElem?_eq_some_iff.1 hxj).1
    have hgw : g < w.heap.size := by
      obtain ⟨g', f', ea', c0', _⟩ := hrk.out.fls.at hxj
      simp only at ea'
      cases ea'
      exact World.block_lt_of_cell? _ _ c0'
    have hse0 := (hrk.out.see x (List.mem_of_getElem? hxj)).1
    obtain ⟨str, hstr⟩ : ∃ str : ByteArray, str = ⟨x.bytes.toArray⟩ := ⟨_, rfl⟩
    obtain ⟨ln, hln⟩ : ∃ ln : Nat, ln = x.bytes.length := ⟨_, rfl⟩
    rw [← hln] at c1 ⊢
    have hcv : Hid (∀ A, Kp [w.heap.size + 1 + 1] w3.drew A → (A.cell? ⟨g, f + j * 3 + 1, none⟩ = some (.slice x.ba ln x.bc) ∧ (convert 34 9 (.slice ra ln rc)).run Try.prog A = .ok (.string str) A ∧ (convert 34 9 (.slice x.ba ln x.bc)).run Try.prog A = .ok (.string str) A)) := fun A kA => by
      refine ⟨(kA.cell (p := ⟨g, _, none⟩) (World.block_lt_of_cell? _ _ c1) (by simp; omega)).trans c1, ?_, ?_⟩
      · rw [hln, hstr]
        refine convSees (hs9.kept' kA (fun hb k hk h => ?_)) rc
        simp at h
        have := hn8 k hk
        omega
      · rw [hln, hstr]
        refine convSees (hse.1.kept' kA (fun hb k hk h => ?_)) x.bc
        simp at h
        have := hse0.lt hb k hk
        omega
    clear hRd hs8 hs9 hr8 hse hrd hrk hlk hxj hAt
    have hS : Hid (∀ A, Kp [w.heap.size + 1 + 1] w3.drew A → (Kp [w.heap.size + 1 + 1] w3.drew A ∧ A.cell? ⟨w.heap.size, 0, none⟩ = some (.int .i64 room) ∧ A.cell? ⟨w.heap.size, 1, none⟩ = some (.int .i64 steps) ∧ A.cell? ⟨w.heap.size, 2, none⟩ = some (.slice (some ⟨g, f, none⟩) l.length fc) ∧ A.cell? ⟨w.heap.size, 3, none⟩ = some (.bool armed) ∧ A.cell? ⟨w.heap.size, 4, none⟩ = some (.bool dead) ∧ A.cell? ⟨w.heap.size, 5, none⟩ = some (.int .i64 left) ∧ A.cell? ⟨g, f + j * 3 + 1, none⟩ = some (.slice x.ba ln x.bc) ∧ (convert 34 9 (.slice ra ln rc)).run Try.prog A = .ok (.string str) A ∧ (convert 34 9 (.slice x.ba ln x.bc)).run Try.prog A = .ok (.string str) A)) := fun A kA => by
      have b := (bxd.rd).keptS kA (by simp <;> omega)
      exact ⟨kA, b.c0, b.c1, b.c2, b.c3, b.c4, b.c5, (hcv.out A kA).1, (hcv.out A kA).2.1, (hcv.out A kA).2.2⟩
    clear c0 c1 c2 hln hstr
    go_wp2_with fail
    refine wp_region_held_drew (S := (fun A => Kp [w.heap.size + 1 + 1] w3.drew A ∧ A.cell? ⟨w.heap.size, 0, none⟩ = some (.int .i64 room) ∧ A.cell? ⟨w.heap.size, 1, none⟩ = some (.int .i64 steps) ∧ A.cell? ⟨w.heap.size, 2, none⟩ = some (.slice (some ⟨g, f, none⟩) l.length fc) ∧ A.cell? ⟨w.heap.size, 3, none⟩ = some (.bool armed) ∧ A.cell? ⟨w.heap.size, 4, none⟩ = some (.bool dead) ∧ A.cell? ⟨w.heap.size, 5, none⟩ = some (.int .i64 left) ∧ A.cell? ⟨g, f + j * 3 + 1, none⟩ = some (.slice x.ba ln x.bc) ∧ (convert 34 9 (.slice ra ln rc)).run Try.prog A = .ok (.string str) A ∧ (convert 34 9 (.slice x.ba ln x.bc)).run Try.prog A = .ok (.string str) A)) (by kernel_rfl) ?_ (fun hHeld => ?_)
    · exact hS.out _ (Kp.refl _ _)
    generalize w3.drew = wd at *
    refine wpAnyH_take (i := 0) (v := ?_) rfl (by kernel_rfl) (by kernel_rfl) (by kernel_rfl) (fun _ _ _ h => h) (Or.inl ⟨by rfl, ?_⟩) (by assumption) ?_
    rotate_left
    · intro w hSw; (try dsimp only at hSw); go_simp <;> with_reducible rfl
    try simp only [Act.put, List.getElem_toArray, List.getElem_cons_zero, List.getElem_cons_succ, List.setIfInBounds_toArray, List.set_cons_zero, List.set_cons_succ]
    refine wpAnyH_take (i := 1) (v := ?_) rfl (by kernel_rfl) (by kernel_rfl) (by kernel_rfl) (fun _ _ _ h => h) (Or.inl ⟨by rfl, ?_⟩) (by assumption) ?_
    rotate_left
    · intro w hSw; (try dsimp only at hSw); go_simp <;> with_reducible rfl
    try simp only [Act.put, List.getElem_toArray, List.getElem_cons_zero, List.getElem_cons_succ, List.setIfInBounds_toArray, List.set_cons_zero, List.set_cons_succ]
    refine wpAnyH_take (i := 2) (v := ?_) rfl (by kernel_rfl) (by kernel_rfl) (by kernel_rfl) (fun _ _ _ h => h) (Or.inl ⟨by rfl, ?_⟩) (by assumption) ?_
    rotate_left
    · intro w hSw; (try dsimp only at hSw); go_simp <;> with_reducible rfl
    try simp only [Act.put, List.getElem_toArray, List.getElem_cons_zero, List.getElem_cons_succ, List.setIfInBounds_toArray, List.set_cons_zero, List.set_cons_succ]
    refine wpAnyH_take (i := 3) (v := ?_) rfl (by kernel_rfl) (by kernel_rfl) (by kernel_rfl) (fun _ _ _ h => h) (Or.inl ⟨by rfl, ?_⟩) (by assumption) ?_
    rotate_left
    · intro w hSw; (try dsimp only at hSw); go_simp <;> with_reducible rfl
    try simp only [Act.put, List.getElem_toArray, List.getElem_cons_zero, List.getElem_cons_succ, List.setIfInBounds_toArray, List.set_cons_zero, List.set_cons_succ]
    refine wpAnyH_take (i := 4) (v := ?_) rfl (by kernel_rfl) (by kernel_rfl) (by kernel_rfl) (fun _ _ _ h => h) (Or.inl ⟨by rfl, ?_⟩) (by assumption) ?_
    rotate_left
    · intro w hSw; (try dsimp only at hSw); go_simp <;> with_reducible rfl
    try simp only [Act.put, List.getElem_toArray, List.getElem_cons_zero, List.getElem_cons_succ, List.setIfInBounds_toArray, List.set_cons_zero, List.set_cons_succ]
    refine wpAnyH_take (i := 5) (v := ?_) rfl (by kernel_rfl) (by kernel_rfl) (by kernel_rfl) (fun _ _ _ h => h) (Or.inl ⟨by rfl, ?_⟩) (by assumption) ?_
    rotate_left
    · intro w hSw; (try dsimp only at hSw); go_simp <;> with_reducible rfl
    try simp only [Act.put, List.getElem_toArray, List.getElem_cons_zero, List.getElem_cons_succ, List.setIfInBounds_toArray, List.set_cons_zero, List.set_cons_succ]
    refine wpAnyH_take (i := 6) (v := ?_) rfl (by kernel_rfl) (by kernel_rfl) (by kernel_rfl) (fun _ _ _ h => h) (Or.inl ⟨by rfl, ?_⟩) (by assumption) ?_
    rotate_left
    · intro w hSw; (try dsimp only at hSw); go_simp <;> with_reducible rfl
    try simp only [Act.put, List.getElem_toArray, List.getElem_cons_zero, List.getElem_cons_succ, List.setIfInBounds_toArray, List.set_cons_zero, List.set_cons_succ]
    refine wpAnyH_take (i := 7) (v := ?_) rfl (by kernel_rfl) (by kernel_rfl) (by kernel_rfl) (fun _ _ _ h => h) (Or.inl ⟨by rfl, ?_⟩) (by assumption) ?_
    rotate_left
    · intro w hSw; (try dsimp only at hSw); go_simp <;> with_reducible rfl
    try simp only [Act.put, List.getElem_toArray, List.getElem_cons_zero, List.getElem_cons_succ, List.setIfInBounds_toArray, List.set_cons_zero, List.set_cons_succ]
    refine wpAnyH_take (i := 8) (v := ?_) rfl (by kernel_rfl) (by kernel_rfl) (by kernel_rfl) (fun _ _ _ h => h) (Or.inl ⟨by rfl, ?_⟩) (by assumption) ?_
    rotate_left
    · intro w hSw; (try dsimp only at hSw); go_simp <;> with_reducible rfl
    try simp only [Act.put, List.getElem_toArray, List.getElem_cons_zero, List.getElem_cons_succ, List.setIfInBounds_toArray, List.set_cons_zero, List.set_cons_succ]
    refine wpAnyH_take (i := 9) (v := ?_) rfl (by kernel_rfl) (by kernel_rfl) (by kernel_rfl) (fun _ _ _ h => h) (Or.inl ⟨by rfl, ?_⟩) (by assumption) ?_
    rotate_left
    · intro w hSw; (try dsimp only at hSw); go_simp <;> with_reducible rfl
    try simp only [Act.put, List.getElem_toArray, List.getElem_cons_zero, List.getElem_cons_succ, List.setIfInBounds_toArray, List.set_cons_zero, List.set_cons_succ]
    refine wpAnyH_take (i := 10) (v := ?_) rfl (by kernel_rfl) (by kernel_rfl) (by kernel_rfl) (fun _ _ _ h => h) (Or.inl ⟨by rfl, ?_⟩) (by assumption) ?_
    rotate_left
    · intro w hSw; (try dsimp only at hSw); go_simp <;> with_reducible rfl
    try simp only [Act.put, List.getElem_toArray, List.getElem_cons_zero, List.getElem_cons_succ, List.setIfInBounds_toArray, List.set_cons_zero, List.set_cons_succ]
    refine wpAnyH_take (i := 11) (v := ?_) rfl (by kernel_rfl) (by kernel_rfl) (by kernel_rfl) (fun _ _ _ h => h) (Or.inl ⟨by rfl, ?_⟩) (by assumption) ?_
    rotate_left
    · intro w hSw; (try dsimp only at hSw); go_simp <;> with_reducible rfl
    try simp only [Act.put, List.getElem_toArray, List.getElem_cons_zero, List.getElem_cons_succ, List.setIfInBounds_toArray, List.set_cons_zero, List.set_cons_succ]
    refine wpAnyH_take (i := 12) (v := ?_) rfl (by kernel_rfl) (by kernel_rfl) (by kernel_rfl) (fun _ _ _ h => h) (Or.inl ⟨by rfl, ?_⟩) (by assumption) ?_
    rotate_left
    · intro w hSw; (try dsimp only at hSw); go_simp <;> with_reducible rfl
    try simp only [Act.put, List.getElem_toArray, List.getElem_cons_zero, List.getElem_cons_succ, List.setIfInBounds_toArray, List.set_cons_zero, List.set_cons_succ]
    refine wpAnyH_take (i := 13) (v := ?_) rfl (by kernel_rfl) (by kernel_rfl) (by kernel_rfl) (fun _ _ _ h => h) (Or.inl ⟨by rfl, ?_⟩) (by assumption) ?_
    rotate_left
    · intro w hSw; (try dsimp only at hSw); go_simp <;> with_reducible rfl
    try simp only [Act.put, List.getElem_toArray, List.getElem_cons_zero, List.getElem_cons_succ, List.setIfInBounds_toArray, List.set_cons_zero, List.set_cons_succ]
    refine wpAnyH_take (i := 14) (v := ?_) rfl (by kernel_rfl) (by kernel_rfl) (by kernel_rfl) (fun _ _ _ h => h) (Or.inl ⟨by rfl, ?_⟩) (by assumption) ?_
    rotate_left
    · intro w hSw; (try dsimp only at hSw); go_simp <;> with_reducible rfl
    try simp only [Act.put, List.getElem_toArray, List.getElem_cons_zero, List.getElem_cons_succ, List.setIfInBounds_toArray, List.set_cons_zero, List.set_cons_succ]
    refine wpAnyH_take (i := 15) (v := ?_) rfl (by kernel_rfl) (by kernel_rfl) (by kernel_rfl) (fun _ _ _ h => h) (Or.inl ⟨by rfl, ?_⟩) (by assumption) ?_
    rotate_left
    · intro w hSw; (try dsimp only at hSw); go_simp <;> with_reducible rfl
    try simp only [Act.put, List.getElem_toArray, List.getElem_cons_zero, List.getElem_cons_succ, List.setIfInBounds_toArray, List.set_cons_zero, List.set_cons_succ]
    refine wpAnyH_ready (rs := [16]) (by kernel_rfl) (by simp) ?_
    refine AllReadyH.cons rfl (fun K hK => ?_) AllReadyH.nil
    go_simp
    (try go_wp2_with fail)
    refine hK.out _ _ ?_ (fun hHeld => ?_)
    · exact hS.out _ (kpSet6 _ _ _ _ _ _ _ _)
    clear hK K
    try simp only [Act.put, List.getElem_toArray, List.getElem_cons_zero, List.getElem_cons_succ, List.setIfInBounds_toArray, List.set_cons_zero, List.set_cons_succ]
    refine wpAnyH_take (i := 17) (v := ?_) rfl (by kernel_rfl) (by kernel_rfl) (by kernel_rfl) (fun _ _ _ h => h) (Or.inl ⟨by rfl, ?_⟩) (by assumption) ?_
    rotate_left
    · intro w hSw; (try dsimp only at hSw); go_simp <;> with_reducible rfl
    try simp only [Act.put, List.getElem_toArray, List.getElem_cons_zero, List.getElem_cons_succ, List.setIfInBounds_toArray, List.set_cons_zero, List.set_cons_succ]
    refine wpAnyH_done (by kernel_rfl) ?_ _
    go_wp2_with fail
    obtain ⟨W', hW', hb6, kW'⟩ := set6_ex hb4 (.int .i64 room) (.int .i64 steps) (.slice (some ⟨g, f, none⟩) l.length fc) (.bool armed) (.bool dead) (.int .i64 left)
    rw [hW']
    obtain ⟨z0, z1, z2, z3, z4, z5, _⟩ := hb6
    refine bodyPost_ret (v := .tuple #[.pointer (some ⟨p, 0, none⟩), .agg #[.int .i64 room, .int .i64 steps, .slice (some ⟨g, f, none⟩) l.length fc, .bool armed, .bool dead, .int .i64 left], .bool true]) (by simp [results, Try.results25, go_sem, z0, z1, z2, z3, z4, z5]) rfl ?_
    exact hfin.out _ kw3 W' kW'
end Go.Proofs.Ytgllkonbgigcbaa
end

section
namespace Go.Proofs.Ytgllkonbgigcbaa
open Go.RowKit Go.Hay
set_option linter.unusedVariables false
set_option linter.unusedSimpArgs false

set_option maxHeartbeats 16000000 in
set_option maxRecDepth 100000 in
theorem cStep6 {w : World} {p mb : Nat} {xs : List Ent} {d : Dk} (hD : Disk w p mb xs d) {K J : Nat} (hlow : Lw K J d) (hs : d.steps < 9000000000000000000) (r : RD) (hr : RdOk w r) (hL : Like r d) (hT : ∀ k ∈ r.foot, k ∉ foot p mb xs) (o : DOp) (hok : o.ok w) (hk : o.kind = 6)
    (hK : K + o.b.bs.length ≤ 100000000000000) (hJ : J ≤ 100000000) (hoff : o.b.bs ≠ [] → ∀ k ∈ blk o.b.a, k ∉ foot p mb xs) :
    Calls Try.prog 25 #[.pointer (some ⟨p, 0, none⟩), r.v, o.v] w (StQ p mb xs r o (d) w) := by
  obtain ⟨w1, hw1, k1, bx, hsz⟩ := boxC r o w
  have hlt := hD.lt
  have hrl := hr.lt
  have hsm : Small d := hlow.small (by omega)
  have hN : xs.length ≤ 1000000000 := by have := len_of hD; have := hlow.len; omega
  have hp0 : w.heap.size ∉ foot p mb xs := fun h => by have := hlt _ h; omega
  have hp1 : w.heap.size + 1 ∉ foot p mb xs := fun h => by have := hlt _ h; omega
  have hp2 : w.heap.size + 1 + 1 ∉ foot p mb xs := fun h => by have := hlt _ h; omega
  have hr2 : w.heap.size + 1 + 1 ∉ r.foot := fun h => by have := hrl _ h; omega
  have hSt := cStands (hD.keptNew (k1.drew)) hsm hN r (hr.keptNew k1.drew) hL.room hL.steps hL.files hL.dead
  have hfin : Hid (∀ w5, Kp [] w1.drew w5 → ∀ W', Kp [w.heap.size + 1 + 1] w5 W' → StQ p mb xs r o d w (.returned (.tuple #[.pointer (some ⟨p, 0, none⟩), r.v, .bool true])) W') := fun w5 k5 W' kW => by
    have k : Kp [] w w5 := (k1.drew).trans k5 (by simp)
    exact stFin (k.mono (by simp)) (hD.keptNew k) (hr.keptNew k) hL (fun k hk => .inl hk) (fun k hk => .inl hk) hT (by omega) hp2 hr2 kW (fun _ _ => ⟨rfl, rfl⟩)
  clear hL hr hT hrl hlow
  obtain ⟨room, steps, fa, fc, l, armed, dead, left⟩ := r
  simp only [RD.v, DOp.v] at *
  have b0 := bx.rd.c0; have b1 := bx.rd.c1; have b2 := bx.rd.c2; have b3 := bx.rd.c3; have b4 := bx.rd.c4; have b5 := bx.rd.c5
  have o0 := bx.o0; have o1 := bx.o1; have o2 := bx.o2; have o3 := bx.o3; have o4 := bx.o4; have o5 := bx.o5
  have hw1' := hid hw1
  rw [hk] at o0 hw1 ⊢
  go_enter Try.func25, Try.ntmps25
  go_wp2_with fail
  clear b0 b1 b2 b3 b4 b5 o0 o1 o2 o3 o4 o5
  have bxd := bx.kept (w' := w1.drew) (Kp.refl _ _).drew
  have hS : Hid (∀ A, Kp [w.heap.size + 1 + 1] w1.drew A → (Kp [w.heap.size + 1 + 1] w1.drew A ∧ A.cell? ⟨w.heap.size, 0, none⟩ = some (.int .i64 room) ∧ A.cell? ⟨w.heap.size, 1, none⟩ = some (.int .i64 steps) ∧ A.cell? ⟨w.heap.size, 2, none⟩ = some (.slice fa l.length fc) ∧ A.cell? ⟨w.heap.size, 3, none⟩ = some (.bool armed) ∧ A.cell? ⟨w.heap.size, 4, none⟩ = some (.bool dead) ∧ A.cell? ⟨w.heap.size, 5, none⟩ = some (.int .i64 left))) := fun A kA => by
    have b := (bxd.rd).keptS kA (by simp <;> omega)
    exact ⟨kA, b.c0, b.c1, b.c2, b.c3, b.c4, b.c5⟩
  refine wp_region_held_drew (S := (fun A => Kp [w.heap.size + 1 + 1] w1.drew A ∧ A.cell? ⟨w.heap.size, 0, none⟩ = some (.int .i64 room) ∧ A.cell? ⟨w.heap.size, 1, none⟩ = some (.int .i64 steps) ∧ A.cell? ⟨w.heap.size, 2, none⟩ = some (.slice fa l.length fc) ∧ A.cell? ⟨w.heap.size, 3, none⟩ = some (.bool armed) ∧ A.cell? ⟨w.heap.size, 4, none⟩ = some (.bool dead) ∧ A.cell? ⟨w.heap.size, 5, none⟩ = some (.int .i64 left))) (by kernel_rfl) ?_ (fun hHeld => ?_)
  · exact hS.out _ (Kp.refl _ _)
  refine wpAnyH_take (i := 0) (v := ?_) rfl (by kernel_rfl) (by kernel_rfl) (by kernel_rfl) (fun _ _ _ h => h) (Or.inl ⟨by rfl, ?_⟩) (by assumption) ?_
  rotate_left
  · intro w hSw; (try dsimp only at hSw); go_simp <;> with_reducible rfl
  try simp only [Act.put, List.getElem_toArray, List.getElem_cons_zero, List.getElem_cons_succ, List.setIfInBounds_toArray, List.set_cons_zero, List.set_cons_succ]
  refine wpAnyH_take (i := 1) (v := ?_) rfl (by kernel_rfl) (by kernel_rfl) (by kernel_rfl) (fun _ _ _ h => h) (Or.inl ⟨by rfl, ?_⟩) (by assumption) ?_
  rotate_left
  · intro w hSw; (try dsimp only at hSw); go_simp <;> with_reducible rfl
  try simp only [Act.put, List.getElem_toArray, List.getElem_cons_zero, List.getElem_cons_succ, List.setIfInBounds_toArray, List.set_cons_zero, List.set_cons_succ]
  refine wpAnyH_take (i := 2) (v := ?_) rfl (by kernel_rfl) (by kernel_rfl) (by kernel_rfl) (fun _ _ _ h => h) (Or.inl ⟨by rfl, ?_⟩) (by assumption) ?_
  rotate_left
  · intro w hSw; (try dsimp only at hSw); go_simp <;> with_reducible rfl
  try simp only [Act.put, List.getElem_toArray, List.getElem_cons_zero, List.getElem_cons_succ, List.setIfInBounds_toArray, List.set_cons_zero, List.set_cons_succ]
  refine wpAnyH_take (i := 3) (v := ?_) rfl (by kernel_rfl) (by kernel_rfl) (by kernel_rfl) (fun _ _ _ h => h) (Or.inl ⟨by rfl, ?_⟩) (by assumption) ?_
  rotate_left
  · intro w hSw; (try dsimp only at hSw); go_simp <;> with_reducible rfl
  try simp only [Act.put, List.getElem_toArray, List.getElem_cons_zero, List.getElem_cons_succ, List.setIfInBounds_toArray, List.set_cons_zero, List.set_cons_succ]
  refine wpAnyH_ready (rs := [4]) (by kernel_rfl) (by simp) ?_
  refine AllReadyH.cons rfl (fun K hK => ?_) AllReadyH.nil
  go_simp
  refine hSt.mono ?_
  rintro e w5 ⟨rfl, k5⟩
  have an5 := bxd.an.kept k5
  obtain ⟨r0, r1, r2, r3, r4, r5, rf⟩ := an5
  have hb4 : B6 w5 (w.heap.size + 1 + 1) (.int .i64 0) (.int .i64 0) (.slice none 0 0) (.bool false) (.bool false) (.int .i64 0) := ⟨r0, r1, r2, r3, r4, r5, rf⟩
  have g0 := rf 0; have g1 := rf 1; have g2 := rf 2; have g3 := rf 3; have g4 := rf 4; have g5 := rf 5
  (try go_wp2_with fail)
  refine hK.out _ _ ?_ (fun hHeld => ?_)
  · exact hS.out _ (k5.mono (by simp))
  clear hK K
  try simp only [Act.put, List.getElem_toArray, List.getElem_cons_zero, List.getElem_cons_succ, List.setIfInBounds_toArray, List.set_cons_zero, List.set_cons_succ]
  refine wpAnyH_take (i := 5) (v := ?_) rfl (by kernel_rfl) (by kernel_rfl) (by kernel_rfl) (fun _ _ _ h => h) (Or.inl ⟨by rfl, ?_⟩) (by assumption) ?_
  rotate_left
  · intro w hSw; (try dsimp only at hSw); go_simp <;> with_reducible rfl
  try simp only [Act.put, List.getElem_toArray, List.getElem_cons_zero, List.getElem_cons_succ, List.setIfInBounds_toArray, List.set_cons_zero, List.set_cons_succ]
  refine wpAnyH_ready (rs := [6]) (by kernel_rfl) (by simp) ?_
  refine AllReadyH.cons rfl (fun K hK => ?_) AllReadyH.nil
  go_simp
  (try go_wp2_with fail)
  refine hK.out _ _ ?_ (fun hHeld => ?_)
  · exact hS.out _ ((k5.mono (T := [w.heap.size + 1 + 1]) (by simp)).trans (kpSet6 _ _ _ _ _ _ _ _) (fun x hx => .inl hx))
  clear hK K
  try simp only [Act.put, List.getElem_toArray, List.getElem_cons_zero, List.getElem_cons_succ, List.setIfInBounds_toArray, List.set_cons_zero, List.set_cons_succ]
  refine wpAnyH_take (i := 7) (v := ?_) rfl (by kernel_rfl) (by kernel_rfl) (by kernel_rfl) (fun _ _ _ h => h) (Or.inl ⟨by rfl, ?_⟩) (by assumption) ?_
  rotate_left
  · intro w hSw; (try dsimp only at hSw); go_simp <;> with_reducible rfl
  try simp only [Act.put, List.getElem_toArray, List.getElem_cons_zero, List.getElem_cons_succ, List.setIfInBounds_toArray, List.set_cons_zero, List.set_cons_succ]
  refine wpAnyH_done (by kernel_rfl) ?_ _
  go_wp2_with fail
  obtain ⟨W', hW', hb6, kW'⟩ := set6_ex hb4 (.int .i64 room) (.int .i64 steps) (.slice fa l.length fc) (.bool armed) (.bool dead) (.int .i64 left)
  rw [hW']
  obtain ⟨z0, z1, z2, z3, z4, z5, _⟩ := hb6
  refine bodyPost_ret (v := .tuple #[.pointer (some ⟨p, 0, none⟩), .agg #[.int .i64 room, .int .i64 steps, .slice fa l.length fc, .bool armed, .bool dead, .int .i64 left], .bool true]) (by simp [results, Try.results25, go_sem, z0, z1, z2, z3, z4, z5]) rfl ?_
  exact hfin.out w5 k5 W' kW'
end Go.Proofs.Ytgllkonbgigcbaa
end

section
namespace Go.Proofs.Ytgllkonbgigcbaa
open Go.RowKit Go.Hay
set_option linter.unusedVariables false
set_option linter.unusedSimpArgs false

set_option maxHeartbeats 16000000 in
set_option maxRecDepth 100000 in
theorem cStep9 {w : World} {p mb : Nat} {xs : List Ent} {d : Dk} (hD : Disk w p mb xs d) {K J : Nat} (hlow : Lw K J d) (hs : d.steps < 9000000000000000000) (r : RD) (hr : RdOk w r) (hL : Like r d) (hT : ∀ k ∈ r.foot, k ∉ foot p mb xs) (o : DOp) (hok : o.ok w) (hk : o.kind = 9)
    (hK : K + o.b.bs.length ≤ 100000000000000) (hJ : J ≤ 100000000) (hoff : o.b.bs ≠ [] → ∀ k ∈ blk o.b.a, k ∉ foot p mb xs) :
    Calls Try.prog 25 #[.pointer (some ⟨p, 0, none⟩), r.v, o.v] w (StQ p mb xs r o (d) w) := by
  obtain ⟨w1, hw1, k1, bx, hsz⟩ := boxC r o w
  have hlt := hD.lt
  have hrl := hr.lt
  have hsm : Small d := hlow.small (by omega)
  have hN : xs.length ≤ 1000000000 := by have := len_of hD; have := hlow.len; omega
  have hp0 : w.heap.size ∉ foot p mb xs := fun h => by have := hlt _ h; omega
  have hp1 : w.heap.size + 1 ∉ foot p mb xs := fun h => by have := hlt _ h; omega
  have hp2 : w.heap.size + 1 + 1 ∉ foot p mb xs := fun h => by have := hlt _ h; omega
  have hr2 : w.heap.size + 1 + 1 ∉ r.foot := fun h => by have := hrl _ h; omega
  have hC := cClone (hD.keptNew k1) hsm (by omega)
  have hfin : Hid (∀ w2 p' mb' xs', Kp [] w1 w2 → Disk w2 p' mb' xs' d → (∀ k ∈ foot p' mb' xs', w1.heap.size ≤ k) → ∀ W', Kp [w.heap.size + 1 + 1] w2.drew W' → StQ p mb xs r o d w (.returned (.tuple #[.pointer (some ⟨p', 0, none⟩), r.v, .bool true])) W') := fun w2 p' mb' xs' k2 hD' hn W' kW => by
    have k : Kp [] w w2.drew := (k1.trans k2 (by simp)).drew
    have hs1 := k1.size
    refine stFin (k.mono (by simp)) (hD'.keptNew (w' := w2.drew) (Kp.refl _ _).drew) (hr.keptNew k) hL (fun k hk => .inr (by have := hn k hk; omega)) (fun k hk => .inl hk) (fun k hk h => by have := hrl k hk; have := hn k h; omega) (by omega) (fun h => by have := hn _ h; omega) hr2 kW (fun h => absurd hk h)
  clear hL hr hT hrl hlow
  obtain ⟨room, steps, fa, fc, l, armed, dead, left⟩ := r
  simp only [RD.v, DOp.v] at *
  have b0 := bx.rd.c0; have b1 := bx.rd.c1; have b2 := bx.rd.c2; have b3 := bx.rd.c3; have b4 := bx.rd.c4; have b5 := bx.rd.c5
  have o0 := bx.o0; have o1 := bx.o1; have o2 := bx.o2; have o3 := bx.o3; have o4 := bx.o4; have o5 := bx.o5
  have hw1' := hid hw1
  rw [hk] at o0 hw1 ⊢
  go_enter Try.func25, Try.ntmps25
  go_wp2_with fail
  refine hC.mono ?_
  rintro e w2 ⟨p', mb', xs', rfl, hD2, k2, hn2⟩
  clear b0 b1 b2 b3 b4 b5 o0 o1 o2 o3 o4 o5
  have bxd := (bx.kept k2).kept (w' := w2.drew) (Kp.refl _ _).drew
  have an5 := bxd.an
  obtain ⟨r0, r1, r2, r3, r4, r5, rf⟩ := an5
  have hb4 : B6 w2.drew (w.heap.size + 1 + 1) (.int .i64 0) (.int .i64 0) (.slice none 0 0) (.bool false) (.bool false) (.int .i64 0) := bxd.an
  have g0 := rf 0; have g1 := rf 1; have g2 := rf 2; have g3 := rf 3; have g4 := rf 4; have g5 := rf 5
  have hfin2 : Hid (∀ W', Kp [w.heap.size + 1 + 1] w2.drew W' → StQ p mb xs _ o d w (.returned (.tuple #[.pointer (some ⟨p', 0, none⟩), _, .bool true])) W') := fun W' kW => hfin.out w2 p' mb' xs' k2 hD2 hn2 W' kW
  have hS : Hid (∀ A, Kp [w.heap.size + 1 + 1] w2.drew A → (Kp [w.heap.size + 1 + 1] w2.drew A ∧ A.cell? ⟨w.heap.size, 0, none⟩ = some (.int .i64 room) ∧ A.cell? ⟨w.heap.size, 1, none⟩ = some (.int .i64 steps) ∧ A.cell? ⟨w.heap.size, 2, none⟩ = some (.slice fa l.length fc) ∧ A.cell? ⟨w.heap.size, 3, none⟩ = some (.bool armed) ∧ A.cell? ⟨w.heap.size, 4, none⟩ = some (.bool dead) ∧ A.cell? ⟨w.heap.size, 5, none⟩ = some (.int .i64 left))) := fun A kA => by
    have b := (bxd.rd).keptS kA (by simp <;> omega)
    exact ⟨kA, b.c0, b.c1, b.c2, b.c3, b.c4, b.c5⟩
  clear hC hfin
  go_wp2_with fail
  refine wp_region_held_drew (S := (fun A => Kp [w.heap.size + 1 + 1] w2.drew A ∧ A.cell? ⟨w.heap.size, 0, none⟩ = some (.int .i64 room) ∧ A.cell? ⟨w.heap.size, 1, none⟩ = some (.int .i64 steps) ∧ A.cell? ⟨w.heap.size, 2, none⟩ = some (.slice fa l.length fc) ∧ A.cell? ⟨w.heap.size, 3, none⟩ = some (.bool armed) ∧ A.cell? ⟨w.heap.size, 4, none⟩ = some (.bool dead) ∧ A.cell? ⟨w.heap.size, 5, none⟩ = some (.int .i64 left))) (by kernel_rfl) ?_ (fun hHeld => ?_)
  · exact hS.out _ (Kp.refl _ _)
  generalize w2.drew = wd at *
  refine wpAnyH_take (i := 0) (v := ?_) rfl (by kernel_rfl) (by kernel_rfl) (by kernel_rfl) (fun _ _ _ h => h) (Or.inl ⟨by rfl, ?_⟩) (by assumption) ?_
  rotate_left
  · intro w hSw; (try dsimp only at hSw); go_simp <;> with_reducible rfl
  try simp only [Act.put, List.getElem_toArray, List.getElem_cons_zero, List.getElem_cons_succ, List.setIfInBounds_toArray, List.set_cons_zero, List.set_cons_succ]
  refine wpAnyH_take (i := 1) (v := ?_) rfl (by kernel_rfl) (by kernel_rfl) (by kernel_rfl) (fun _ _ _ h => h) (Or.inl ⟨by rfl, ?_⟩) (by assumption) ?_
  rotate_left
  · intro w hSw; (try dsimp only at hSw); go_simp <;> with_reducible rfl
  try simp only [Act.put, List.getElem_toArray, List.getElem_cons_zero, List.getElem_cons_succ, List.setIfInBounds_toArray, List.set_cons_zero, List.set_cons_succ]
  refine wpAnyH_take (i := 2) (v := ?_) rfl (by kernel_rfl) (by kernel_rfl) (by kernel_rfl) (fun _ _ _ h => h) (Or.inl ⟨by rfl, ?_⟩) (by assumption) ?_
  rotate_left
  · intro w hSw; (try dsimp only at hSw); go_simp <;> with_reducible rfl
  try simp only [Act.put, List.getElem_toArray, List.getElem_cons_zero, List.getElem_cons_succ, List.setIfInBounds_toArray, List.set_cons_zero, List.set_cons_succ]
  refine wpAnyH_take (i := 3) (v := ?_) rfl (by kernel_rfl) (by kernel_rfl) (by kernel_rfl) (fun _ _ _ h => h) (Or.inl ⟨by rfl, ?_⟩) (by assumption) ?_
  rotate_left
  · intro w hSw; (try dsimp only at hSw); go_simp <;> with_reducible rfl
  try simp only [Act.put, List.getElem_toArray, List.getElem_cons_zero, List.getElem_cons_succ, List.setIfInBounds_toArray, List.set_cons_zero, List.set_cons_succ]
  refine wpAnyH_take (i := 4) (v := ?_) rfl (by kernel_rfl) (by kernel_rfl) (by kernel_rfl) (fun _ _ _ h => h) (Or.inl ⟨by rfl, ?_⟩) (by assumption) ?_
  rotate_left
  · intro w hSw; (try dsimp only at hSw); go_simp <;> with_reducible rfl
  try simp only [Act.put, List.getElem_toArray, List.getElem_cons_zero, List.getElem_cons_succ, List.setIfInBounds_toArray, List.set_cons_zero, List.set_cons_succ]
  refine wpAnyH_ready (rs := [5]) (by kernel_rfl) (by simp) ?_
  refine AllReadyH.cons rfl (fun K hK => ?_) AllReadyH.nil
  go_simp
  (try go_wp2_with fail)
  refine hK.out _ _ ?_ (fun hHeld => ?_)
  · exact hS.out _ (kpSet6 _ _ _ _ _ _ _ _)
  clear hK K
  try simp only [Act.put, List.getElem_toArray, List.getElem_cons_zero, List.getElem_cons_succ, List.setIfInBounds_toArray, List.set_cons_zero, List.set_cons_succ]
  refine wpAnyH_take (i := 6) (v := ?_) rfl (by kernel_rfl) (by kernel_rfl) (by kernel_rfl) (fun _ _ _ h => h) (Or.inl ⟨by rfl, ?_⟩) (by assumption) ?_
  rotate_left
  · intro w hSw; (try dsimp only at hSw); go_simp <;> with_reducible rfl
  try simp only [Act.put, List.getElem_toArray, List.getElem_cons_zero, List.getElem_cons_succ, List.setIfInBounds_toArray, List.set_cons_zero, List.set_cons_succ]
  refine wpAnyH_done (by kernel_rfl) ?_ _
  go_wp2_with fail
  obtain ⟨W', hW', hb6, kW'⟩ := set6_ex hb4 (.int .i64 room) (.int .i64 steps) (.slice fa l.length fc) (.bool armed) (.bool dead) (.int .i64 left)
  rw [hW']
  obtain ⟨z0, z1, z2, z3, z4, z5, _⟩ := hb6
  refine bodyPost_ret (v := .tuple #[.pointer (some ⟨p', 0, none⟩), .agg #[.int .i64 room, .int .i64 steps, .slice fa l.length fc, .bool armed, .bool dead, .int .i64 left], .bool true]) (by simp [results, Try.results25, go_sem, z0, z1, z2, z3, z4, z5]) rfl ?_
  exact hfin2.out W' kW'
end Go.Proofs.Ytgllkonbgigcbaa
end

section
namespace Go.Proofs.Ytgllkonbgigcbaa
open Go.RowKit Go.Hay
set_option linter.unusedVariables false
set_option linter.unusedSimpArgs false

set_option maxHeartbeats 16000000 in
set_option maxRecDepth 100000 in
theorem cStepC {w : World} {p mb : Nat} {xs : List Ent} {d : Dk} (hD : Disk w p mb xs d) {K J : Nat} (hlow : Lw K J d) (hs : d.steps < 9000000000000000000) (r : RD) (hr : RdOk w r) (hL : Like r d) (hT : ∀ k ∈ r.foot, k ∉ foot p mb xs) (o : DOp) (hok : o.ok w) (h5 : o.kind ≠ 5) (h6 : o.kind ≠ 6) (h9 : o.kind ≠ 9) (h10 : o.kind ≠ 10)
    (hK : K + o.b.bs.length ≤ 100000000000000) (hJ : J ≤ 100000000) (hoff : o.b.bs ≠ [] → ∀ k ∈ blk o.b.a, k ∉ foot p mb xs) :
    Calls Try.prog 25 #[.pointer (some ⟨p, 0, none⟩), r.v, o.v] w (StQ p mb xs r o (chD d o) w) := by
  obtain ⟨w1, hw1, k1, bx, hsz⟩ := boxC r o w
  have hlt := hD.lt
  have hrl := hr.lt
  have hsm : Small d := hlow.small (by omega)
  have hN : xs.length ≤ 1000000000 := by have := len_of hD; have := hlow.len; omega
  have hp0 : w.heap.size ∉ foot p mb xs := fun h => by have := hlt _ h; omega
  have hp1 : w.heap.size + 1 ∉ foot p mb xs := fun h => by have := hlt _ h; omega
  have hp2 : w.heap.size + 1 + 1 ∉ foot p mb xs := fun h => by have := hlt _ h; omega
  have hr2 : w.heap.size + 1 + 1 ∉ r.foot := fun h => by have := hrl _ h; omega
  have hC := cChange (hD.keptNew k1) hlow hs r (hr.keptNew k1) d hL hD.ok hlow hs hT o (hok.kept k1) hK hJ hoff
  rw [show (ansD d o == ansD d o) = true by simp] at hC
  have hfin : Hid (∀ w2 (r' : RD) xs', Disk w2 p mb xs' (chD d o) → RdOk w2 r' → Like r' (chD d o) → Mv (foot p mb xs) w1 (foot p mb xs') w2 → (∀ k ∈ r'.foot, k ∈ r.foot ∨ w1.heap.size ≤ k) → (∀ k ∈ r'.foot, k ∉ foot p mb xs') → ∀ w3, Kp [] w2 w3 → ∀ W', Kp [w.heap.size + 1 + 1] w3 W' → StQ p mb xs r o (chD d o) w (.returned (.tuple #[.pointer (some ⟨p, 0, none⟩), r'.v, .bool true])) W') := fun w2 r' xs' hD2 hr2' hL2 mv n2 n3 w3 k3 W' kW => by
    have k : Kp (foot p mb xs) w w2 := (k1.mono (T := foot p mb xs) (by simp)).trans mv.kp (fun x hx => .inl hx)
    have hs1 := k1.size
    refine stFin (k.trans k3 (by simp)) (hD2.keptNew k3) (hr2'.keptNew k3) hL2 (fun k hk => ?_) (fun k hk => ?_) n3 (by omega) (fun h => ?_) (fun h => ?_) kW (fun _ _ => ⟨rfl, rfl⟩)
    · rcases mv.new k hk with h | h
      · exact .inl h
      · exact .inr (by omega)
    · rcases n2 k hk with h | h
      · exact .inl h
      · exact .inr (by omega)
    · rcases mv.new _ h with h | h
      · exact hp2 h
      · omega
    · rcases n2 _ h with h | h
      · exact hr2 h
      · omega
  clear hL hr hT hrl hlow hoff hok
  obtain ⟨room, steps, fa, fc, l, armed, dead, left⟩ := r
  simp only [RD.v, DOp.v] at *
  have b0 := bx.rd.c0; have b1 := bx.rd.c1; have b2 := bx.rd.c2; have b3 := bx.rd.c3; have b4 := bx.rd.c4; have b5 := bx.rd.c5
  have o0 := bx.o0; have o1 := bx.o1; have o2 := bx.o2; have o3 := bx.o3; have o4 := bx.o4; have o5 := bx.o5
  have hw1' := hid hw1
  have e5 : (o.kind == 5) = false := by simpa using h5
  have e6 : (o.kind == 6) = false := by simpa using h6
  have e9 : (o.kind == 9) = false := by simpa using h9
  have e10 : (o.kind == 10) = false := by simpa using h10
  have o6 := boxC6 ⟨room, steps, fa, fc, l, armed, dead, left⟩ o w hw1
  go_enter Try.func25, Try.ntmps25
  go_wp2_with fail
  clear o6 e5 e6 e9 e10
  refine hC.mono ?_
  rintro e w2 ⟨r', xs', rfl, hD2, hr2', hL2, mv2, n2, n3⟩
  clear b0 b1 b2 b3 b4 b5 o0 o1 o2 o3 o4 o5
  have an2 := bx.an.mv mv2 hp2
  obtain ⟨w3, hw3, k3, bx3, hsz3⟩ := boxR r' w2
  have an3 := an2.kept k3
  have hb4 : B6 w3.drew (w.heap.size + 1 + 1) (.int .i64 0) (.int .i64 0) (.slice none 0 0) (.bool false) (.bool false) (.int .i64 0) := an3.kept (w' := w3.drew) (Kp.refl _ _).drew
  obtain ⟨r0, r1, r2, r3, r4, r5, rf⟩ := hb4
  have hb4 := an3.kept (w' := w3.drew) (Kp.refl _ _).drew
  have g0 := rf 0; have g1 := rf 1; have g2 := rf 2; have g3 := rf 3; have g4 := rf 4; have g5 := rf 5
  have hfin2 : Hid (∀ W', Kp [w.heap.size + 1 + 1] w3.drew W' → StQ p mb xs _ o (chD d o) w (.returned (.tuple #[.pointer (some ⟨p, 0, none⟩), r'.v, .bool true])) W') := fun W' kW => hfin.out w2 r' xs' hD2 hr2' hL2 mv2 n2 n3 w3.drew k3.drew W' kW
  obtain ⟨room', steps', fa', fc', l', armed', dead', left'⟩ := r'
  simp only [RD.v] at *
  have hne : w2.heap.size ≠ w.heap.size + 1 + 1 := by have := mv2.kp.size; omega
  have bxd := bx3.kept (w' := w3.drew) (Kp.refl _ _).drew
  obtain ⟨q3, hq3⟩ : ∃ q3, q3 = w2.heap.size := ⟨_, rfl⟩
  have hw3' := hid hw3
  clear hC hfin hr2' hL2 n2 n3 hw3
  have hS : Hid (∀ A, Kp [w.heap.size + 1 + 1] w3.drew A → (Kp [w.heap.size + 1 + 1] w3.drew A ∧ A.cell? ⟨q3, 0, none⟩ = some (.int .i64 room') ∧ A.cell? ⟨q3, 1, none⟩ = some (.int .i64 steps') ∧ A.cell? ⟨q3, 2, none⟩ = some (.slice fa' l'.length fc') ∧ A.cell? ⟨q3, 3, none⟩ = some (.bool armed') ∧ A.cell? ⟨q3, 4, none⟩ = some (.bool dead') ∧ A.cell? ⟨q3, 5, none⟩ = some (.int .i64 left'))) := fun A kA => by
    have b := bxd.keptS kA (by simp; omega)
    rw [hq3]
    exact ⟨kA, b.c0, b.c1, b.c2, b.c3, b.c4, b.c5⟩
  have hq3' := hid hq3
  clear hq3
  go_wp2_with fail
  rw [hw3'.out, ← hq3'.out]
  refine wp_region_held_drew (S := (fun A => Kp [w.heap.size + 1 + 1] w3.drew A ∧ A.cell? ⟨q3, 0, none⟩ = some (.int .i64 room') ∧ A.cell? ⟨q3, 1, none⟩ = some (.int .i64 steps') ∧ A.cell? ⟨q3, 2, none⟩ = some (.slice fa' l'.length fc') ∧ A.cell? ⟨q3, 3, none⟩ = some (.bool armed') ∧ A.cell? ⟨q3, 4, none⟩ = some (.bool dead') ∧ A.cell? ⟨q3, 5, none⟩ = some (.int .i64 left'))) (by kernel_rfl) ?_ (fun hHeld => ?_)
  · exact hS.out _ (Kp.refl _ _)
  generalize w3.drew = wd at *
  refine wpAnyH_take (i := 0) (v := ?_) rfl (by kernel_rfl) (by kernel_rfl) (by kernel_rfl) (fun _ _ _ h => h) (Or.inl ⟨by rfl, ?_⟩) (by assumption) ?_
  rotate_left
  · intro w hSw; (try dsimp only at hSw); go_simp <;> with_reducible rfl
  try simp only [Act.put, List.getElem_toArray, List.getElem_cons_zero, List.getElem_cons_succ, List.setIfInBounds_toArray, List.set_cons_zero, List.set_cons_succ]
  refine wpAnyH_take (i := 1) (v := ?_) rfl (by kernel_rfl) (by kernel_rfl) (by kernel_rfl) (fun _ _ _ h => h) (Or.inl ⟨by rfl, ?_⟩) (by assumption) ?_
  rotate_left
  · intro w hSw; (try dsimp only at hSw); go_simp <;> with_reducible rfl
  try simp only [Act.put, List.getElem_toArray, List.getElem_cons_zero, List.getElem_cons_succ, List.setIfInBounds_toArray, List.set_cons_zero, List.set_cons_succ]
  refine wpAnyH_take (i := 2) (v := ?_) rfl (by kernel_rfl) (by kernel_rfl) (by kernel_rfl) (fun _ _ _ h => h) (Or.inl ⟨by rfl, ?_⟩) (by assumption) ?_
  rotate_left
  · intro w hSw; (try dsimp only at hSw); go_simp <;> with_reducible rfl
  try simp only [Act.put, List.getElem_toArray, List.getElem_cons_zero, List.getElem_cons_succ, List.setIfInBounds_toArray, List.set_cons_zero, List.set_cons_succ]
  refine wpAnyH_take (i := 3) (v := ?_) rfl (by kernel_rfl) (by kernel_rfl) (by kernel_rfl) (fun _ _ _ h => h) (Or.inl ⟨by rfl, ?_⟩) (by assumption) ?_
  rotate_left
  · intro w hSw; (try dsimp only at hSw); go_simp <;> with_reducible rfl
  try simp only [Act.put, List.getElem_toArray, List.getElem_cons_zero, List.getElem_cons_succ, List.setIfInBounds_toArray, List.set_cons_zero, List.set_cons_succ]
  refine wpAnyH_ready (rs := [4]) (by kernel_rfl) (by simp) ?_
  refine AllReadyH.cons rfl (fun K hK => ?_) AllReadyH.nil
  go_simp
  (try go_wp2_with fail)
  refine hK.out _ _ ?_ (fun hHeld => ?_)
  · exact hS.out _ (kpSet6 _ _ _ _ _ _ _ _)
  clear hK K
  try simp only [Act.put, List.getElem_toArray, List.getElem_cons_zero, List.getElem_cons_succ, List.setIfInBounds_toArray, List.set_cons_zero, List.set_cons_succ]
  refine wpAnyH_take (i := 5) (v := ?_) rfl (by kernel_rfl) (by kernel_rfl) (by kernel_rfl) (fun _ _ _ h => h) (Or.inl ⟨by rfl, ?_⟩) (by assumption) ?_
  rotate_left
  · intro w hSw; (try dsimp only at hSw); go_simp <;> with_reducible rfl
  try simp only [Act.put, List.getElem_toArray, List.getElem_cons_zero, List.getElem_cons_succ, List.setIfInBounds_toArray, List.set_cons_zero, List.set_cons_succ]
  refine wpAnyH_done (by kernel_rfl) ?_ _
  go_wp2_with fail
  obtain ⟨W', hW', hb6, kW'⟩ := set6_ex hb4 (.int .i64 room') (.int .i64 steps') (.slice fa' l'.length fc') (.bool armed') (.bool dead') (.int .i64 left')
  rw [hW']
  obtain ⟨z0, z1, z2, z3, z4, z5, _⟩ := hb6
  refine bodyPost_ret (v := .tuple #[.pointer (some ⟨p, 0, none⟩), .agg #[.int .i64 room', .int .i64 steps', .slice fa' l'.length fc', .bool armed', .bool dead', .int .i64 left'], .bool true]) (by simp [results, Try.results25, go_sem, z0, z1, z2, z3, z4, z5]) rfl ?_
  exact hfin2.out W' kW'
end Go.Proofs.Ytgllkonbgigcbaa
end

section
namespace Go.Proofs.Ytgllkonbgigcbaa
open Go.RowKit Go.Hay
set_option linter.unusedVariables false
set_option linter.unusedSimpArgs false

theorem cStepN {w : World} {p mb : Nat} {xs : List Ent} {d : Dk} (hD : Disk w p mb xs d) {K J : Nat} (hlow : Lw K J d) (hs : d.steps < 9000000000000000000) (r : RD) (hr : RdOk w r) (hL : Like r d) (hT : ∀ k ∈ r.foot, k ∉ foot p mb xs) (o : DOp) (hok : o.ok w) (h10 : o.kind ≠ 10)
    (hK : K + o.b.bs.length ≤ 100000000000000) (hJ : J ≤ 100000000) (hoff : o.b.bs ≠ [] → ∀ k ∈ blk o.b.a, k ∉ foot p mb xs) :
    Calls Try.prog 25 #[.pointer (some ⟨p, 0, none⟩), r.v, o.v] w (StQ p mb xs r o (stpD d o) w) := by
  unfold stpD
  by_cases h5 : o.kind = 5
  · rw [if_pos (.inl h5)]
    exact cStep5 hD hlow hs r hr hL hT o hok h5 hK hJ hoff
  by_cases h6 : o.kind = 6
  · rw [if_pos (.inr (.inl h6))]
    exact cStep6 hD hlow hs r hr hL hT o hok h6 hK hJ hoff
  by_cases h9 : o.kind = 9
  · rw [if_pos (.inr (.inr h9))]
    exact cStep9 hD hlow hs r hr hL hT o hok h9 hK hJ hoff
  rw [if_neg (by simp [h5, h6, h9]), if_neg h10]
  exact cStepC hD hlow hs r hr hL hT o hok h5 h6 h9 h10 hK hJ hoff

/-- A disk, and its reference beside it. -/
structure Pr (W wn : World) (p mb : Nat) (xs : List Ent) (r : RD) (d : Dk) : Prop where
  D : Disk wn p mb xs d
  R : RdOk wn r
  L : Like r d
  kp : Kp [] W wn
  nw : ∀ k ∈ foot p mb xs, W.heap.size ≤ k
  ap : ∀ k ∈ r.foot, k ∉ foot p mb xs
theorem Pr.keep {W w w' : World} {p mb : Nat} {xs : List Ent} {r : RD} {d : Dk} (h : Pr W w p mb xs r d) (k : Kp [] w w') : Pr W w' p mb xs r d := ⟨h.D.keptNew k, h.R.keptNew k, h.L, h.kp.trans k (by simp), h.nw, h.ap⟩
theorem Pr.keepS {W w w' : World} {p mb : Nat} {xs : List Ent} {r : RD} {d : Dk} {S : List Nat} (h : Pr W w p mb xs r d) (k : Kp S w w') (h1 : ∀ x ∈ S, x ∉ foot p mb xs) (h2 : ∀ x ∈ S, x ∉ r.foot) (h3 : ∀ x ∈ S, W.heap.size ≤ x) : Pr W w' p mb xs r d :=
  ⟨h.D.kept k (fun x hx hs => h1 x hs hx), h.R.kept k (fun x hx hs => h2 x hs hx), h.L, h.kp.trans k (fun x hx => .inr (h3 x hx)), h.nw, h.ap⟩
theorem Pr.step {W w w' : World} {p mb p' mb' : Nat} {xs xs' : List Ent} {r r' : RD} {d d' : Dk} (h : Pr W w p mb xs r d) (hD : Disk w' p' mb' xs' d') (hR : RdOk w' r') (hL : Like r' d') (k : Kp (foot p mb xs) w w') (n1 : ∀ k ∈ foot p' mb' xs', k ∈ foot p mb xs ∨ w.heap.size ≤ k) (n3 : ∀ k ∈ r'.foot, k ∉ foot p' mb' xs') : Pr W w' p' mb' xs' r' d' :=
  ⟨hD, hR, hL, h.kp.trans k (fun x hx => .inr (h.nw x hx)), fun k hk => by
    rcases n1 k hk with h1 | h1
    · exact h.nw k h1
    · have := h.kp.size; omega, n3⟩
theorem ch_room (d : Dk) (o : DOp) : (chD d o).room = d.room := by
  have ha : ∀ name b, (appendD d name b).1.room = d.room := fun name b => by
    unfold appendD
    split
    · rfl
    split
    · rfl
    split
    · rfl
    · exact (stepD_files _).2.1
  have hd : ∀ c name to n, (doD d c name to n).1.room = d.room := fun c name to n => by
    unfold doD
    split
    · rfl
    split
    · exact (stepD_files _).2.1
    · exact (stepD_files _).2.1
  unfold chD
  split
  · unfold armD; split <;> rfl
  split
  · rfl
  unfold chgD
  split
  · exact ha ..
  split
  · exact hd ..
  split
  · exact hd ..
  split
  · exact hd ..
  split
  · exact hd ..
  · unfold flipD; split <;> rfl
theorem stp_room (d : Dk) (o : DOp) : (stpD d o).room = d.room := by
  unfold stpD
  split
  · rfl
  split
  · rfl
  · exact ch_room d o
theorem offPr {W w : World} {p mb : Nat} {xs : List Ent} {r : RD} {d : Dk} (h : Pr W w p mb xs r d) {o : DOp} (ho : o.ok W) : o.b.bs ≠ [] → ∀ k ∈ blk o.b.a, k ∉ foot p mb xs := offArg (w := w) ho h.nw

set_option maxHeartbeats 16000000 in
set_option maxRecDepth 100000 in
theorem cStepped {w : World} {p mb : Nat} {xs : List Ent} {d : Dk} (hD : Disk w p mb xs d) {K J : Nat} (hlow : Lw K J d) (hs : d.steps < 9000000000000000000) (r : RD) (hr : RdOk w r) (hL : Like r d) (hT : ∀ k ∈ r.foot, k ∉ foot p mb xs) (o : DOp) (hok : o.ok w) (h9 : o.kind ≠ 9) (h10 : o.kind ≠ 10)
    (hK : K + o.b.bs.length ≤ 100000000000000) (hJ : J ≤ 100000000) (hoff : o.b.bs ≠ [] → ∀ k ∈ blk o.b.a, k ∉ foot p mb xs) :
    Calls Try.prog 12 #[.pointer (some ⟨p, 0, none⟩), r.v, o.v] w (ChQ p mb xs (stpD d o) r.foot (stpD d o) true w) := by
  obtain ⟨w1, hw1, k1, bx, hsz⟩ := boxC r o w
  have o6 := boxC6 r o w hw1
  have hlt := hD.lt
  have hrl := hr.lt
  have hp2 : w.heap.size + 1 + 1 ∉ foot p mb xs := fun h => by have := hlt _ h; omega
  have hr2 : w.heap.size + 1 + 1 ∉ r.foot := fun h => by have := hrl _ h; omega
  have hC := cStepN (hD.keptNew k1) hlow hs r (hr.keptNew k1) hL hT o (hok.kept k1) h10 hK hJ hoff
  have hfin : Hid (∀ w2 (r' : RD) xs', Disk w2 p mb xs' (stpD d o) → RdOk w2 r' → Like r' (stpD d o) → Kp (foot p mb xs) w1 w2 → (∀ k ∈ foot p mb xs', k ∈ foot p mb xs ∨ w1.heap.size ≤ k) → (∀ k ∈ r'.foot, k ∈ r.foot ∨ w1.heap.size ≤ k) → (∀ k ∈ r'.foot, k ∉ foot p mb xs') → ∀ w3, Kp [] w2 w3 → ∀ W', Kp [w.heap.size + 1 + 1] w3 W' → ChQ p mb xs (stpD d o) r.foot (stpD d o) true w (.returned (.tuple #[r'.v, .bool true])) W') := fun w2 r' xs' hD2 hr2' hL2 kk n1 n2 n3 w3 k3 W' kW => by
    have k : Kp (foot p mb xs) w w2 := (k1.mono (T := foot p mb xs) (by simp)).trans kk (fun x hx => .inl hx)
    have hs1 := k1.size
    refine ⟨r', xs', rfl, (hD2.keptNew k3).kept kW (fun k hk h => ?_), (hr2'.keptNew k3).kept kW (fun k hk h => ?_), hL2, ⟨(k.trans k3 (by simp)).trans kW (fun x hx => .inr (by simp at hx; omega)), fun k hk => ?_⟩, fun k hk => ?_, n3⟩
    · simp at h; subst h
      rcases n1 _ hk with h | h
      · exact hp2 h
      · omega
    · simp at h; subst h
      rcases n2 _ hk with h | h
      · exact hr2 h
      · omega
    · rcases n1 k hk with h | h
      · exact .inl h
      · exact .inr (by omega)
    · rcases n2 k hk with h | h
      · exact .inl h
      · exact .inr (by omega)
  clear hL hr hT hrl hlow hoff hok
  obtain ⟨room, steps, fa, fc, l, armed, dead, left⟩ := r
  simp only [RD.v, DOp.v] at *
  have b0 := bx.rd.c0; have b1 := bx.rd.c1; have b2 := bx.rd.c2; have b3 := bx.rd.c3; have b4 := bx.rd.c4; have b5 := bx.rd.c5
  have o0 := bx.o0; have o1 := bx.o1; have o2 := bx.o2; have o3 := bx.o3; have o4 := bx.o4; have o5 := bx.o5
  go_enter Try.func12, Try.ntmps12
  go_wp2_with fail
  refine hC.mono ?_
  rintro e w2 ⟨p', mb', xs', r', rfl, hD2, hr2', hL2, kk, n1, n2, n3, hsame⟩
  obtain ⟨rfl, rfl⟩ := hsame h9 h10
  clear b0 b1 b2 b3 b4 b5 o0 o1 o2 o3 o4 o5 o6
  have an2 := bx.an.keptS kk hp2
  obtain ⟨w3, hw3, k3, bx3, hsz3⟩ := boxR r' w2
  have an3 := an2.kept k3
  have hfin2 : Hid (∀ W', Kp [w.heap.size + 1 + 1] w3 W' → ChQ p' mb' xs (stpD d o) (RD.foot ⟨room, steps, fa, fc, l, armed, dead, left⟩) (stpD d o) true w (.returned (.tuple #[r'.v, .bool true])) W') := fun W' kW => hfin.out w2 r' xs' hD2 hr2' hL2 kk n1 n2 n3 w3 k3 W' kW
  have hb4 := an3
  obtain ⟨r0, r1, r2, r3, r4, r5, rf⟩ := an3
  have g0 := rf 0; have g1 := rf 1; have g2 := rf 2; have g3 := rf 3; have g4 := rf 4; have g5 := rf 5
  obtain ⟨room', steps', fa', fc', l', armed', dead', left'⟩ := r'
  simp only [RD.v] at *
  have c0 := bx3.c0; have c1 := bx3.c1; have c2 := bx3.c2; have c3 := bx3.c3; have c4 := bx3.c4; have c5 := bx3.c5
  clear hC hfin hr2' hL2 n1 n2 n3 hsame
  go_wp2_with fail
  obtain ⟨W', hW', hb6, kW'⟩ := set6_ex (show B6 w3 (w.heap.size + 1 + 1) _ _ _ _ _ _ from hb4) (.int .i64 room') (.int .i64 steps') (.slice fa' l'.length fc') (.bool armed') (.bool dead') (.int .i64 left')
  rw [hW']
  obtain ⟨z0, z1, z2, z3, z4, z5, _⟩ := hb6
  refine bodyPost_ret (v := .tuple #[.agg #[.int .i64 room', .int .i64 steps', .slice fa' l'.length fc', .bool armed', .bool dead', .int .i64 left'], .bool true]) (by simp [results, Try.results12, go_sem, z0, z1, z2, z3, z4, z5]) rfl ?_
  exact hfin2.out W' kW'
end Go.Proofs.Ytgllkonbgigcbaa
end

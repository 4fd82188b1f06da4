/- The reference's call Do, where it is done: Sync, Truncate, Rename, Remove. -/
import Derived.Test.YtpkoikennimonaaGreatDoorB13
section
namespace Go.Proofs.YtpkoikennimonaaGreatDoor
open Go.RowKit Go.Hay
set_option linter.unusedVariables false
set_option linter.unusedSimpArgs false

theorem rdStep {r : RD} {w : World} (hr : RdOk w r) : RdOk w (stepR r).1 := by
  obtain ⟨hf, hll⟩ := stepR_files r
  exact ⟨by rw [hf, hll]; exact hr.fls, by rw [hll]; exact hr.see⟩
theorem footStep (r : RD) : (stepR r).1.foot = r.foot := by
  obtain ⟨hf, hll⟩ := stepR_files r
  simp only [RD.foot, RD.ff, hf, hll]
theorem flsKept {w8 W' : World} {q n : Nat} {a : Option Addr} {l : List RF} (h : Fls w8 a l) (hn : ∀ k ∈ blk a, n ≤ k) (hk : Kp [q, q + 1] w8 W') (hq : q + 1 < n) : Fls W' a l :=
  h.kept hk (fun k hk' hx => by have := hn k hk'; simp at hx; omega)
theorem RefE.putDone {r1 : RD} {d1 : Dk} {w W' w8 : World} {q n : Nat} (hr : RdOk w r1) (hL : Like r1 d1) (hrise : riseG RF.name r1.l) (f1 : RF) (hf : FSee W' f1) (hft : ∀ k ∈ f1.ft, k ∈ r1.foot ∨ w.heap.size ≤ k) {a8 : Option Addr} {c8 : Nat} {L8 : List RF} (hL8 : L8 = putG RF.name f1 false r1.l) (hf8 : Fls w8 a8 L8) (hn8 : ∀ k ∈ blk a8, n ≤ k) (kW : Kp [] w W') (k9 : Kp [q, q + 1] w8 W') (hq : q + 1 < n) (hwn : w.heap.size ≤ n) {x : Dk × Int} (e : x = ({ d1 with files := putG Fl.name f1.fl false d1.files }, 0)) :
    RefE r1.foot x w (.returned (.tuple #[({ r1 with fa := a8, fc := c8, l := L8 } : RD).v, .int .i64 0])) W' := by
  subst e hL8
  exact ⟨_, rfl, _, rfl, hr.put hrise kW hf c8 (flsKept hf8 hn8 k9 hq), hL.put f1 a8 c8, kW, foot_put hrise c8 (fun k hk => Nat.le_trans hwn (hn8 k hk)) hft⟩
theorem RefE.dropDone {r1 : RD} {d1 : Dk} {w W' w8 : World} {q n : Nat} (hr : RdOk w r1) (hL : Like r1 d1) (k0 : List UInt8) {a8 : Option Addr} {c8 : Nat} {L8 : List RF} (hL8 : L8 = dropG RF.name k0 r1.l) (hf8 : Fls w8 a8 L8) (hn8 : ∀ k ∈ blk a8, n ≤ k) (kW : Kp [] w W') (k9 : Kp [q, q + 1] w8 W') (hq : q + 1 < n) (hwn : w.heap.size ≤ n) {x : Dk × Int} (e : x = ({ d1 with files := dropG Fl.name k0 d1.files }, 0)) :
    RefE r1.foot x w (.returned (.tuple #[({ r1 with fa := a8, fc := c8, l := L8 } : RD).v, .int .i64 0])) W' := by
  subst e hL8
  refine ⟨_, rfl, _, rfl, ⟨flsKept hf8 hn8 k9 hq, fun g hg => ?_⟩, hL.drop k0 a8 c8, kW, foot_drop k0 c8 (fun k hk => Nat.le_trans hwn (hn8 k hk))⟩
  have hm := (mem_dropG.1 hg).1
  exact ⟨(hr.see g hm).1.kept kW (by simp), (hr.see g hm).2⟩
theorem RefE.renDone {r1 : RD} {d1 : Dk} {w W' w8 : World} {q n : Nat} (hr : RdOk w r1) (hL : Like r1 d1) (hrise : riseG RF.name r1.l) (k0 : List UInt8) (f1 : RF) (hf : FSee W' f1) (hft : ∀ k ∈ f1.ft, k ∈ r1.foot ∨ w.heap.size ≤ k) {a7 a8 : Option Addr} {c7 c8 : Nat} {L7 L8 : List RF} (hL7 : L7 = dropG RF.name k0 r1.l) (hL8 : L8 = putG RF.name f1 false L7) (hf8 : Fls w8 a8 L8) (hn8 : ∀ k ∈ blk a8, n ≤ k) (kW : Kp [] w W') (k9 : Kp [q, q + 1] w8 W') (hq : q + 1 < n) (hwn : w.heap.size ≤ n) {x : Dk × Int} (e : x = ({ d1 with files := putG Fl.name f1.fl false (dropG Fl.name k0 d1.files) }, 0)) :
    RefE r1.foot x w (.returned (.tuple #[({ r1 with fa := a8, fc := c8, l := L8 } : RD).v, .int .i64 0])) W' := by
  subst e hL8 hL7
  have hri := riseG_drop k0 hrise
  refine ⟨_, rfl, { r1 with fa := a8, fc := c8, l := putG RF.name f1 false (dropG RF.name k0 r1.l) }, rfl, ⟨flsKept hf8 hn8 k9 hq, fun g hg => ?_⟩, (hL.drop k0 a7 c7).put f1 a8 c8, kW, fun k hk => ?_⟩
  · rcases (mem_putG hri).1 hg with rfl | ⟨hg, _⟩
    · exact hf
    · have hm := (mem_dropG.1 hg).1
      exact ⟨(hr.see g hm).1.kept kW (by simp), (hr.see g hm).2⟩
  · simp only [RD.foot, List.mem_append, List.mem_flatMap] at hk
    rcases hk with hk | ⟨g, hg, hk⟩
    · exact .inr (Nat.le_trans hwn (hn8 k (mem_ff hk)))
    · rcases (mem_putG hri).1 hg with rfl | ⟨hg, _⟩
      · exact hft k hk
      · exact .inl (by simp only [RD.foot, List.mem_append, List.mem_flatMap]; exact .inr ⟨g, (mem_dropG.1 hg).1, hk⟩)
theorem rise_inj {l : List RF} (h : riseG RF.name l) {i j : Nat} {x y : RF} (hi : l[i]? = some x) (hj : l[j]? = some y) (e : x.name = y.name) : i = j := by
  obtain ⟨hi1, rfl⟩ := List.getElem?_eq_some_iff.1 hi
  obtain ⟨hj1, rfl⟩ := List.getElem?_eq_some_iff.1 hj
  have hp := List.pairwise_iff_getElem.1 h
  rcases Nat.lt_trichotomy i j with h1 | h1 | h1
  · exact absurd e (bb_ne (hp i j hi1 hj1 h1))
  · exact h1
  · exact absurd e.symm (bb_ne (hp j i hj1 hi1 h1))
theorem B6.set {w w' : World} {q q2 : Nat} {a b c d e f : Value} (h : B6 w q a b c d e f) (hk : Kp [q2] w w') (hne : q ≠ q2) : B6 w' q a b c d e f := by
  have hq : q ∉ [q2] := by simpa using hne
  exact ⟨(hk.cell (p := ⟨_, 0, none⟩) h.lt hq).trans h.c0, (hk.cell (p := ⟨_, 1, none⟩) h.lt hq).trans h.c1, (hk.cell (p := ⟨_, 2, none⟩) h.lt hq).trans h.c2, (hk.cell (p := ⟨_, 3, none⟩) h.lt hq).trans h.c3, (hk.cell (p := ⟨_, 4, none⟩) h.lt hq).trans h.c4, (hk.cell (p := ⟨_, 5, none⟩) h.lt hq).trans h.c5, fun j => (hk.frozen (p := ⟨_, j, none⟩) h.lt hq).trans (h.free j)⟩
set_option maxHeartbeats 16000000 in
set_option maxRecDepth 100000 in
theorem cRefDo1 (r : RD) (d : Dk) (w : World) (hr : RdOk w r) (hL : Like r d) (ho : Okd d) (hl : r.l.length ≤ 1000000000) (hst : d.steps < 9000000000000000000) (name to : List UInt8) (hk : name.length ≤ maxLen) (hto : to.length ≤ maxLen) (n : Int) (e2 : refusedD d 1 name to n = 0) (e3 : (stepD d).2 = false) (hB : ∀ f ∈ r.l, f.bytes.length ≤ 140737488355328) :
    Calls Tryz.prog 40 #[r.v, .int .i64 1, .string ⟨name.toArray⟩, .string ⟨to.toArray⟩, .int .i64 n] w (RefE r.foot (doD d 1 name to n) w) := by
  obtain ⟨w1, hw1, k1, bx, br, hsz⟩ := boxRR r w
  have e1 : doD d 1 name to n = ({ (stepD d).1 with files := changedF d.files 1 name to n }, 0) := by unfold doD; rw [if_neg (by simpa using e2), e3]; simp
  have hc := cRefused r d w1 (hr.keptNew k1) hL hl 1 name to hto n
  rw [e2] at hc
  have hs : 0 ≤ r.steps ∧ r.steps < 9000000000000000000 := by rw [hL.steps]; omega
  have hcs := fun W => cRefStep r W hs
  rw [(like_step hL).2, e3] at hcs
  have hL' := (like_step hL).1
  have hr' := rdStep hr
  have hft := footStep r
  have hsl := (stepR_files r).2
  obtain ⟨f0, hlk⟩ : ∃ f0, lookG RF.name name r.l = some f0 := by
    cases hq : lookG RF.name name r.l with
    | some f0 => exact ⟨f0, rfl⟩
    | none => have := hL.look name; rw [hq] at this; unfold refusedD at e2; simp [this] at e2; split at e2 <;> cases e2
  have hld : lookG Fl.name name d.files = some f0.fl := by rw [hL.look name, hlk]; rfl
  obtain ⟨r1, hr1⟩ : ∃ r1, r1 = (stepR r).1 := ⟨_, rfl⟩
  rw [← hr1] at hcs hL' hr' hft hsl
  have hlk1 : lookG RF.name name r1.l = some f0 := by rw [hsl]; exact hlk
  have hl1 : r1.l.length ≤ 1000000000 := by rw [hsl]; exact hl
  have hB1 : ∀ f ∈ r1.l, f.bytes.length ≤ 140737488355328 := by rw [hsl]; exact hB
  rw [e1, ← hft]
  clear hr1 e1 hr e3 hs hlk hl hB hft hsl
  have hrise : riseG RF.name r1.l := hL'.rise (okStep ho)
  obtain ⟨room, steps, fa, fc, l, armed, dead, left⟩ := r
  obtain ⟨room', steps', fa', fc', l', armed', dead', left'⟩ := r1
  simp only [RD.v] at *
  have b0 := bx.c0; have b1 := bx.c1; have b2 := bx.c2; have b3 := bx.c3; have b4 := bx.c4; have b5 := bx.c5
  go_enter Tryz.func40, Tryz.ntmps40
  go_wp2_with fail
  refine hc.mono ?_
  rintro e w2 ⟨rfl, k2⟩
  have bx2 := bx.kept k2
  have br2 := br.kept k2
  have b0 := bx2.c0; have b1 := bx2.c1; have b2 := bx2.c2; have b3 := bx2.c3; have b4 := bx2.c4; have b5 := bx2.c5
  go_wp2_with fail
  refine (hcs _).mono ?_
  rintro e w3 ⟨rfl, k3⟩
  have bx3 := bx2.kept k3
  have br3 := br2.kept k3
  clear b0 b1 b2 b3 b4 b5
  have b0 := bx3.c0; have b1 := bx3.c1; have b2 := bx3.c2; have b3 := bx3.c3; have b4 := bx3.c4; have b5 := bx3.c5
  have f0' := bx3.free 0; have f1' := bx3.free 1; have f2' := bx3.free 2; have f3' := bx3.free 3; have f4' := bx3.free 4; have f5' := bx3.free 5
  obtain ⟨w4, hw4, bx4, k4⟩ := set6_ex bx3 (.int .i64 room') (.int .i64 steps') (.slice fa' l'.length fc') (.bool armed') (.bool dead') (.int .i64 left')
  have br4 := br3.set k4 (by omega)
  have kw4 : Kp [] w w4 := (((k1.trans k2 (by simp)).trans k3 (by simp)).trans k4 (fun x hx => .inr (by simp at hx; omega)))
  have hr4 := hr'.keptNew kw4
  obtain ⟨j0, hj0⟩ : ∃ j0, l'[j0]? = some f0 := List.mem_iff_getElem?.1 (lookG_some hlk1).1
  obtain ⟨g, f, hfa, x0, x1, x2⟩ := hr4.fls.at hj0
  subst hfa
  have hjl : j0 < l'.length := (List.getElem?_eq_some_iff.1 hj0).1
  have hjA : (0 : Int) ≤ (j0 : Int) := by omega
  have hjB : (j0 : Int) < (l'.length : Int) := by omega
  have hAt : Hid (∀ A, Kp [] w4.drew A → Calls Tryz.prog 38 #[.agg #[.int .i64 room', .int .i64 steps', .slice (some ⟨g, f, none⟩) l'.length fc', .bool armed', .bool dead', .int .i64 left'], .string ⟨name.toArray⟩] A fun e A' => e = .returned (.int .i64 (j0 : Int)) ∧ Kp [] A A') := fun A kA => (cAt ⟨room', steps', some ⟨g, f, none⟩, fc', l', armed', dead', left'⟩ name A (hr4.keptNew ((Kp.refl [] w4).drew.trans kA (by simp))) (by simp only; omega)).mono fun e A' h => by
    obtain ⟨hk, ⟨j, x, he, hx, hxl⟩ | ⟨_, hno⟩⟩ := h
    · have : j = j0 := rise_inj hrise hx hj0 (by simp only at hxl hlk1; rw [hxl] at hlk1; cases hlk1; rfl)
      subst this
      exact ⟨he, hk⟩
    · simp only at hno hlk1; rw [hno] at hlk1; cases hlk1
  have hsz4 : w.heap.size + 2 ≤ w4.heap.size := by have := k2.size; have := k3.size; have := k4.size; omega
  clear hc hcs
  go_wp2_with fail
  clear b0 b1 b2 b3 b4 b5 f0' f1' f2' f3' f4' f5'
  have bxd := bx4.kept (w' := w4.drew) (Kp.refl _ _).drew
  have hSk : Hid (∀ A, Kp [] w4.drew A → A.cell? ⟨w.heap.size, 0, none⟩ = some (.int .i64 room') ∧ A.cell? ⟨w.heap.size, 1, none⟩ = some (.int .i64 steps') ∧ A.cell? ⟨w.heap.size, 2, none⟩ = some (.slice (some ⟨g, f, none⟩) l'.length fc') ∧ A.cell? ⟨w.heap.size, 3, none⟩ = some (.bool armed') ∧ A.cell? ⟨w.heap.size, 4, none⟩ = some (.bool dead') ∧ A.cell? ⟨w.heap.size, 5, none⟩ = some (.int .i64 left') ∧ A.cell? ⟨g, f + j0 * 3, none⟩ = some (.string ⟨f0.name.toArray⟩) ∧ A.cell? ⟨g, f + j0 * 3 + 1, none⟩ = some (.slice f0.ba f0.bytes.length f0.bc) ∧ A.cell? ⟨g, f + j0 * 3 + 2, none⟩ = some (.int .i64 (f0.last : Int))) := fun A kA => by
    have h := bxd.kept kA
    have kk : Kp [] w4 A := (Kp.refl [] w4).drew.trans kA (by simp)
    exact ⟨h.c0, h.c1, h.c2, h.c3, h.c4, h.c5, cell_kp kk x0, cell_kp kk x1, cell_kp kk x2⟩
  refine wp_region_held_drew (S := (fun w' => w'.cell? ⟨w.heap.size, 0, none⟩ = some (.int .i64 room') ∧ w'.cell? ⟨w.heap.size, 1, none⟩ = some (.int .i64 steps') ∧ w'.cell? ⟨w.heap.size, 2, none⟩ = some (.slice (some ⟨g, f, none⟩) l'.length fc') ∧ w'.cell? ⟨w.heap.size, 3, none⟩ = some (.bool armed') ∧ w'.cell? ⟨w.heap.size, 4, none⟩ = some (.bool dead') ∧ w'.cell? ⟨w.heap.size, 5, none⟩ = some (.int .i64 left') ∧ w'.cell? ⟨g, f + j0 * 3, none⟩ = some (.string ⟨f0.name.toArray⟩) ∧ w'.cell? ⟨g, f + j0 * 3 + 1, none⟩ = some (.slice f0.ba f0.bytes.length f0.bc) ∧ w'.cell? ⟨g, f + j0 * 3 + 2, none⟩ = some (.int .i64 (f0.last : Int)))) (by kernel_rfl) ?_ (fun hHeld => ?_)
  · exact hSk.out _ (Kp.refl _ _)
  refine wpAnyH_take (i := 0) (v := ?_) rfl (by kernel_rfl) (by kernel_rfl) (by kernel_rfl) (fun _ _ _ h => h) (Or.inl ⟨by rfl, ?_⟩) (by assumption) ?_
  rotate_left
  · intro w hSw; (try dsimp only at hSw); go_simp <;> with_reducible rfl
  try simp only [Act.put, List.getElem_toArray, List.getElem_cons_zero, List.getElem_cons_succ, List.setIfInBounds_toArray, List.set_cons_zero, List.set_cons_succ]
  refine wpAnyH_take (i := 1) (v := ?_) rfl (by kernel_rfl) (by kernel_rfl) (by kernel_rfl) (fun _ _ _ h => h) (Or.inl ⟨by rfl, ?_⟩) (by assumption) ?_
  rotate_left
  · intro w hSw; (try dsimp only at hSw); go_simp <;> with_reducible rfl
  try simp only [Act.put, List.getElem_toArray, List.getElem_cons_zero, List.getElem_cons_succ, List.setIfInBounds_toArray, List.set_cons_zero, List.set_cons_succ]
  refine wpAnyH_take (i := 2) (v := ?_) rfl (by kernel_rfl) (by kernel_rfl) (by kernel_rfl) (fun _ _ _ h => h) (Or.inl ⟨by rfl, ?_⟩) (by assumption) ?_
  rotate_left
  · intro w hSw; (try dsimp only at hSw); go_simp <;> with_reducible rfl
  try simp only [Act.put, List.getElem_toArray, List.getElem_cons_zero, List.getElem_cons_succ, List.setIfInBounds_toArray, List.set_cons_zero, List.set_cons_succ]
  refine wpAnyH_take (i := 3) (v := ?_) rfl (by kernel_rfl) (by kernel_rfl) (by kernel_rfl) (fun _ _ _ h => h) (Or.inl ⟨by rfl, ?_⟩) (by assumption) ?_
  rotate_left
  · intro w hSw; (try dsimp only at hSw); go_simp <;> with_reducible rfl
  try simp only [Act.put, List.getElem_toArray, List.getElem_cons_zero, List.getElem_cons_succ, List.setIfInBounds_toArray, List.set_cons_zero, List.set_cons_succ]
  refine wpAnyH_ready (rs := [4, 7]) (by kernel_rfl) (by simp) ?_
  refine AllReadyH.cons rfl (fun K hK => ?_) (AllReadyH.cons rfl (fun K hK => ?_) AllReadyH.nil)
  · have kQ : Kp [] w4.drew w4.drew := Kp.refl _ _
    go_simp
    refine (hAt.out _ kQ).mono ?_
    rintro e w5 ⟨rfl, k5⟩
    (try go_wp2_with fail)
    refine hK.out _ _ ?_ (fun hHeld => ?_)
    · exact hSk.out _ k5
    clear hK K
    try simp only [Act.put, List.getElem_toArray, List.getElem_cons_zero, List.getElem_cons_succ, List.setIfInBounds_toArray, List.set_cons_zero, List.set_cons_succ]
    refine wpAnyH_take (i := 5) (v := ?_) rfl (by kernel_rfl) (by kernel_rfl) (by kernel_rfl) (fun _ _ _ h => h) (Or.inl ⟨by rfl, ?_⟩) (by assumption) ?_
    rotate_left
    · intro w hSw; (try dsimp only at hSw); go_simp <;> with_reducible rfl
    try simp only [Act.put, List.getElem_toArray, List.getElem_cons_zero, List.getElem_cons_succ, List.setIfInBounds_toArray, List.set_cons_zero, List.set_cons_succ]
    refine wpAnyH_take (i := 6) (v := ?_) rfl (by kernel_rfl) (by kernel_rfl) (by kernel_rfl) (fun _ _ _ h => h) (Or.inl ⟨by rfl, ?_⟩) (by assumption) ?_
    rotate_left
    · intro w hSw; (try dsimp only at hSw); go_simp <;> with_reducible rfl
    try simp only [Act.put, List.getElem_toArray, List.getElem_cons_zero, List.getElem_cons_succ, List.setIfInBounds_toArray, List.set_cons_zero, List.set_cons_succ]
    refine wpAnyH_ready (rs := [7]) (by kernel_rfl) (by simp) ?_
    refine AllReadyH.cons rfl (fun K hK => ?_) AllReadyH.nil
    go_simp
    (try go_wp2_with fail)
    refine hK.out _ _ ?_ (fun hHeld => ?_)
    · exact hSk.out _ (k5.alloc _)
    clear hK K
    try simp only [Act.put, List.getElem_toArray, List.getElem_cons_zero, List.getElem_cons_succ, List.setIfInBounds_toArray, List.set_cons_zero, List.set_cons_succ]
    refine wpAnyH_ready (rs := [8]) (by kernel_rfl) (by simp) ?_
    refine AllReadyH.cons rfl (fun K hK => ?_) AllReadyH.nil
    go_simp
    (try go_wp2_with fail)
    refine hK.out _ _ ?_ (fun hHeld => ?_)
    · exact hSk.out _ (k5.alloc _)
    clear hK K
    try simp only [Act.put, List.getElem_toArray, List.getElem_cons_zero, List.getElem_cons_succ, List.setIfInBounds_toArray, List.set_cons_zero, List.set_cons_succ]
    refine wpAnyH_done (by kernel_rfl) ?_ _
    obtain ⟨w6, hw6⟩ : ∃ w6, w5.alloc (.cells #[.string ⟨f0.name.toArray⟩, .slice f0.ba f0.bytes.length f0.bc, .int .i64 (f0.last : Int)] 68) = w6 := ⟨_, rfl⟩
    have k6 : Kp [] w4.drew w6 := by rw [← hw6]; exact k5.alloc _
    obtain ⟨qf, hqf⟩ : ∃ qf, qf = w5.heap.size := ⟨_, rfl⟩
    have b6 : B3 w6 qf (.string ⟨f0.name.toArray⟩) (.slice f0.ba f0.bytes.length f0.bc) (.int .i64 (f0.last : Int)) := by rw [← hw6]; exact B3.at qf hqf.symm _ _ _ _
    have hqf2 : w.heap.size + 2 ≤ qf := by have := k5.size; simp at this; omega
    rw [hw6, ← hqf]
    clear hw6 hqf
    have kw6 : Kp [] w w6 := (kw4.drew).trans k6 (by simp)
    have bx6 := bxd.kept k6
    have br6 := (br4.kept (w' := w4.drew) (Kp.refl _ _).drew).kept k6
    clear hHeld hSk hAt x0 x1 x2
    obtain ⟨w7, hw7⟩ : ∃ w7, w6.setCell ⟨qf, 2, none⟩ (.int .i64 (f0.bytes.length : Int)) = w7 := ⟨_, rfl⟩
    have k7 : Kp [qf] w6 w7 := by rw [← hw7]; exact kpSet _ _ _ _
    have b7 : B3 w7 qf (.string ⟨f0.name.toArray⟩) (.slice f0.ba f0.bytes.length f0.bc) (.int .i64 (f0.bytes.length : Int)) := by rw [← hw7]; exact b6.set2 _
    have bx7 := bx6.set k7 (by omega)
    have br7 := br6.set k7 (by omega)
    have kw7 : Kp [] w w7 := kw6.trans k7 (fun x hx => .inr (by simp at hx; omega))
    have y0 := b6.c0; have y1 := b6.c1; have y2 := b6.c2; have yf := b6.free 2
    have v0 := b7.c0; have v1 := b7.c1; have v2 := b7.c2
    have c0 := bx7.c0; have c1 := bx7.c1; have c2 := bx7.c2; have c3 := bx7.c3; have c4 := bx7.c4; have c5 := bx7.c5
    have hW := cWith ⟨room', steps', some ⟨g, f, none⟩, fc', l', armed', dead', left'⟩ ⟨f0.name, f0.ba, f0.bc, f0.bytes, f0.bytes.length⟩ w7 (hr'.keptNew kw7) hl1
    simp only [RD.v, RF.v] at hW
    go_wp2_with fail
    clear y0 y1 y2 yf hw7
    refine hW.mono ?_
    rintro e w8 ⟨a8, c8, rfl, hf8, k8, hn8⟩
    obtain ⟨L8, hL8⟩ : ∃ L8, L8 = putG RF.name ⟨f0.name, f0.ba, f0.bc, f0.bytes, f0.bytes.length⟩ false l' := ⟨_, rfl⟩
    rw [← hL8] at hf8
    simp only [RD.v, ← hL8]
    have hL8' := hid hL8
    clear hL8 hW
    have bx8 := bx7.kept k8
    have br8 := br7.kept k8
    clear c0 c1 c2 c3 c4 c5
    have c0 := bx8.c0; have c1 := bx8.c1; have c2 := bx8.c2; have c3 := bx8.c3; have c4 := bx8.c4; have c5 := bx8.c5
    have h0 := bx8.free 0; have h1 := bx8.free 1; have h2 := bx8.free 2; have h3 := bx8.free 3; have h4 := bx8.free 4; have h5 := bx8.free 5
    obtain ⟨w9, hw9, bx9, k9⟩ := set6_ex bx8 (.int .i64 room') (.int .i64 steps') (.slice a8 L8.length c8) (.bool armed') (.bool dead') (.int .i64 left')
    have br9 := br8.set k9 (by omega)
    have d0 := bx9.c0; have d1 := bx9.c1; have d2 := bx9.c2; have d3 := bx9.c3; have d4 := bx9.c4; have d5 := bx9.c5
    have r0 := br9.c0; have r1 := br9.c1; have r2 := br9.c2; have r3 := br9.c3; have r4 := br9.c4; have r5 := br9.c5
    have g0 := br9.free 0; have g1 := br9.free 1; have g2 := br9.free 2; have g3 := br9.free 3; have g4 := br9.free 4; have g5 := br9.free 5
    go_wp2_with fail
    obtain ⟨W', hW', hb6, kW'⟩ := set6_ex br9 (.int .i64 room') (.int .i64 steps') (.slice a8 L8.length c8) (.bool armed') (.bool dead') (.int .i64 left')
    rw [hW']
    obtain ⟨z0, z1, z2, z3, z4, z5, _⟩ := hb6
    have kWW : Kp [w.heap.size, w.heap.size + 1] w8 W' := (k9.mono (T := [w.heap.size, w.heap.size + 1]) (fun x hx => .inl (by simp at hx; simp [hx]))).trans kW' (fun x hx => .inl (by simp at hx; simp [hx]))
    have kWf : Kp [] w W' := (kw7.trans k8 (by simp)).trans kWW (fun x hx => .inr (by simp at hx; omega))
    have hsz7 : w.heap.size + 2 ≤ w7.heap.size := by have := k6.size; have := k7.size; simp at *; omega
    refine bodyPost_ret (v := .tuple #[.agg #[.int .i64 room', .int .i64 steps', .slice a8 L8.length c8, .bool armed', .bool dead', .int .i64 left'], .int .i64 0]) (by simp [results, Tryz.results40, go_sem, z0, z1, z2, z3, z4, z5]) rfl ?_
    have hfm := (lookG_some hlk1).1
    refine RefE.putDone (q := w.heap.size) (n := w7.heap.size) hr' hL' hrise ⟨f0.name, f0.ba, f0.bc, f0.bytes, f0.bytes.length⟩ ⟨(hr'.see f0 hfm).1.kept kWf (by simp), (hr'.see f0 hfm).2⟩ (fun k hk => .inl (by simp only [RD.foot, List.mem_append, List.mem_flatMap]; exact .inr ⟨f0, hfm, hk⟩)) hL8'.out hf8 hn8 kWf kWW (by omega) (by omega) ?_
    rw [(stepD_files d).1]
    simp [changedF, fileOf_some hld, RF.fl]
  · have kQ : Kp [] w4.drew (w4.drew.alloc (.cells #[.string ⟨#[]⟩, .slice none 0 0, .int .i64 0] 68)) := (Kp.refl _ _).alloc _
    go_simp
    (try go_wp2_with fail)
    refine hK.out _ _ ?_ (fun hHeld => ?_)
    · exact hSk.out _ kQ
    clear hK K
    try simp only [Act.put, List.getElem_toArray, List.getElem_cons_zero, List.getElem_cons_succ, List.setIfInBounds_toArray, List.set_cons_zero, List.set_cons_succ]
    refine wpAnyH_ready (rs := [4]) (by kernel_rfl) (by simp) ?_
    refine AllReadyH.cons rfl (fun K hK => ?_) AllReadyH.nil
    go_simp
    refine (hAt.out _ kQ).mono ?_
    rintro e w5 ⟨rfl, k5⟩
    have bz := (B3.at (w := w4.drew) w4.heap.size rfl (.string ⟨#[]⟩) (.slice none 0 0) (.int .i64 0) 68).kept k5
    have z0 := bz.c0
    have z1 := bz.c1
    have z2 := bz.c2
    have g0 := bz.free 0
    have g1 := bz.free 1
    have g2 := bz.free 2
    have kQ5 : Kp [] w4.drew w5 := kQ.trans k5 (by simp)
    (try go_wp2_with fail)
    refine hK.out _ _ ?_ (fun hHeld => ?_)
    · exact hSk.out _ (kQ.trans k5 (by simp))
    clear hK K
    try simp only [Act.put, List.getElem_toArray, List.getElem_cons_zero, List.getElem_cons_succ, List.setIfInBounds_toArray, List.set_cons_zero, List.set_cons_succ]
    refine wpAnyH_take (i := 5) (v := ?_) rfl (by kernel_rfl) (by kernel_rfl) (by kernel_rfl) (fun _ _ _ h => h) (Or.inl ⟨by rfl, ?_⟩) (by assumption) ?_
    rotate_left
    · intro w hSw; (try dsimp only at hSw); go_simp <;> with_reducible rfl
    try simp only [Act.put, List.getElem_toArray, List.getElem_cons_zero, List.getElem_cons_succ, List.setIfInBounds_toArray, List.set_cons_zero, List.set_cons_succ]
    refine wpAnyH_take (i := 6) (v := ?_) rfl (by kernel_rfl) (by kernel_rfl) (by kernel_rfl) (fun _ _ _ h => h) (Or.inl ⟨by rfl, ?_⟩) (by assumption) ?_
    rotate_left
    · intro w hSw; (try dsimp only at hSw); go_simp <;> with_reducible rfl
    try simp only [Act.put, List.getElem_toArray, List.getElem_cons_zero, List.getElem_cons_succ, List.setIfInBounds_toArray, List.set_cons_zero, List.set_cons_succ]
    refine wpAnyH_ready (rs := [8]) (by kernel_rfl) (by simp) ?_
    refine AllReadyH.cons rfl (fun K hK => ?_) AllReadyH.nil
    go_simp
    (try go_wp2_with fail)
    refine hK.out _ _ ?_ (fun hHeld => ?_)
    · exact hSk.out _ (((kQ5.setCell (p := ⟨w4.heap.size, 0, none⟩) (.inr (Nat.le_refl _)) _).setCell (p := ⟨w4.heap.size, 1, none⟩) (.inr (Nat.le_refl _)) _).setCell (p := ⟨w4.heap.size, 2, none⟩) (.inr (Nat.le_refl _)) _)
    clear hK K
    try simp only [Act.put, List.getElem_toArray, List.getElem_cons_zero, List.getElem_cons_succ, List.setIfInBounds_toArray, List.set_cons_zero, List.set_cons_succ]
    refine wpAnyH_done (by kernel_rfl) ?_ _
    obtain ⟨w6, hw6, b6, k6'⟩ := set3_ex bz (.string ⟨f0.name.toArray⟩) (.slice f0.ba f0.bytes.length f0.bc) (.int .i64 (f0.last : Int))
    have k6 : Kp [] w4.drew w6 := kQ5.trans k6' (fun x hx => .inr (by rw [List.mem_singleton] at hx; subst hx; exact Nat.le_refl _))
    rw [hw6]
    obtain ⟨qf, hqf⟩ : ∃ qf, qf = w4.heap.size := ⟨_, rfl⟩
    rw [← hqf] at b6 ⊢
    have hqf2 : w.heap.size + 2 ≤ qf := by omega
    clear hw6 hqf bz z0 z1 z2 g0 g1 g2 k6'
    have kw6 : Kp [] w w6 := (kw4.drew).trans k6 (by simp)
    have bx6 := bxd.kept k6
    have br6 := (br4.kept (w' := w4.drew) (Kp.refl _ _).drew).kept k6
    clear hHeld hSk hAt x0 x1 x2
    obtain ⟨w7, hw7⟩ : ∃ w7, w6.setCell ⟨qf, 2, none⟩ (.int .i64 (f0.bytes.length : Int)) = w7 := ⟨_, rfl⟩
    have k7 : Kp [qf] w6 w7 := by rw [← hw7]; exact kpSet _ _ _ _
    have b7 : B3 w7 qf (.string ⟨f0.name.toArray⟩) (.slice f0.ba f0.bytes.length f0.bc) (.int .i64 (f0.bytes.length : Int)) := by rw [← hw7]; exact b6.set2 _
    have bx7 := bx6.set k7 (by omega)
    have br7 := br6.set k7 (by omega)
    have kw7 : Kp [] w w7 := kw6.trans k7 (fun x hx => .inr (by simp at hx; omega))
    have y0 := b6.c0; have y1 := b6.c1; have y2 := b6.c2; have yf := b6.free 2
    have v0 := b7.c0; have v1 := b7.c1; have v2 := b7.c2
    have c0 := bx7.c0; have c1 := bx7.c1; have c2 := bx7.c2; have c3 := bx7.c3; have c4 := bx7.c4; have c5 := bx7.c5
    have hW := cWith ⟨room', steps', some ⟨g, f, none⟩, fc', l', armed', dead', left'⟩ ⟨f0.name, f0.ba, f0.bc, f0.bytes, f0.bytes.length⟩ w7 (hr'.keptNew kw7) hl1
    simp only [RD.v, RF.v] at hW
    go_wp2_with fail
    clear y0 y1 y2 yf hw7
    refine hW.mono ?_
    rintro e w8 ⟨a8, c8, rfl, hf8, k8, hn8⟩
    obtain ⟨L8, hL8⟩ : ∃ L8, L8 = putG RF.name ⟨f0.name, f0.ba, f0.bc, f0.bytes, f0.bytes.length⟩ false l' := ⟨_, rfl⟩
    rw [← hL8] at hf8
    simp only [RD.v, ← hL8]
    have hL8' := hid hL8
    clear hL8 hW
    have bx8 := bx7.kept k8
    have br8 := br7.kept k8
    clear c0 c1 c2 c3 c4 c5
    have c0 := bx8.c0; have c1 := bx8.c1; have c2 := bx8.c2; have c3 := bx8.c3; have c4 := bx8.c4; have c5 := bx8.c5
    have h0 := bx8.free 0; have h1 := bx8.free 1; have h2 := bx8.free 2; have h3 := bx8.free 3; have h4 := bx8.free 4; have h5 := bx8.free 5
    obtain ⟨w9, hw9, bx9, k9⟩ := set6_ex bx8 (.int .i64 room') (.int .i64 steps') (.slice a8 L8.length c8) (.bool armed') (.bool dead') (.int .i64 left')
    have br9 := br8.set k9 (by omega)
    have d0 := bx9.c0; have d1 := bx9.c1; have d2 := bx9.c2; have d3 := bx9.c3; have d4 := bx9.c4; have d5 := bx9.c5
    have r0 := br9.c0; have r1 := br9.c1; have r2 := br9.c2; have r3 := br9.c3; have r4 := br9.c4; have r5 := br9.c5
    have g0 := br9.free 0; have g1 := br9.free 1; have g2 := br9.free 2; have g3 := br9.free 3; have g4 := br9.free 4; have g5 := br9.free 5
    go_wp2_with fail
    obtain ⟨W', hW', hb6, kW'⟩ := set6_ex br9 (.int .i64 room') (.int .i64 steps') (.slice a8 L8.length c8) (.bool armed') (.bool dead') (.int .i64 left')
    rw [hW']
    obtain ⟨z0, z1, z2, z3, z4, z5, _⟩ := hb6
    have kWW : Kp [w.heap.size, w.heap.size + 1] w8 W' := (k9.mono (T := [w.heap.size, w.heap.size + 1]) (fun x hx => .inl (by simp at hx; simp [hx]))).trans kW' (fun x hx => .inl (by simp at hx; simp [hx]))
    have kWf : Kp [] w W' := (kw7.trans k8 (by simp)).trans kWW (fun x hx => .inr (by simp at hx; omega))
    have hsz7 : w.heap.size + 2 ≤ w7.heap.size := by have := k6.size; have := k7.size; simp at *; omega
    refine bodyPost_ret (v := .tuple #[.agg #[.int .i64 room', .int .i64 steps', .slice a8 L8.length c8, .bool armed', .bool dead', .int .i64 left'], .int .i64 0]) (by simp [results, Tryz.results40, go_sem, z0, z1, z2, z3, z4, z5]) rfl ?_
    have hfm := (lookG_some hlk1).1
    refine RefE.putDone (q := w.heap.size) (n := w7.heap.size) hr' hL' hrise ⟨f0.name, f0.ba, f0.bc, f0.bytes, f0.bytes.length⟩ ⟨(hr'.see f0 hfm).1.kept kWf (by simp), (hr'.see f0 hfm).2⟩ (fun k hk => .inl (by simp only [RD.foot, List.mem_append, List.mem_flatMap]; exact .inr ⟨f0, hfm, hk⟩)) hL8'.out hf8 hn8 kWf kWW (by omega) (by omega) ?_
    rw [(stepD_files d).1]
    simp [changedF, fileOf_some hld, RF.fl]
set_option maxHeartbeats 16000000 in
set_option maxRecDepth 100000 in
theorem cRefDo4 (r : RD) (d : Dk) (w : World) (hr : RdOk w r) (hL : Like r d) (ho : Okd d) (hl : r.l.length ≤ 1000000000) (hst : d.steps < 9000000000000000000) (name to : List UInt8) (hk : name.length ≤ maxLen) (hto : to.length ≤ maxLen) (n : Int) (e2 : refusedD d 4 name to n = 0) (e3 : (stepD d).2 = false) (hB : ∀ f ∈ r.l, f.bytes.length ≤ 140737488355328) :
    Calls Tryz.prog 40 #[r.v, .int .i64 4, .string ⟨name.toArray⟩, .string ⟨to.toArray⟩, .int .i64 n] w (RefE r.foot (doD d 4 name to n) w) := by
  obtain ⟨w1, hw1, k1, bx, br, hsz⟩ := boxRR r w
  have e1 : doD d 4 name to n = ({ (stepD d).1 with files := changedF d.files 4 name to n }, 0) := by unfold doD; rw [if_neg (by simpa using e2), e3]; simp
  have hc := cRefused r d w1 (hr.keptNew k1) hL hl 4 name to hto n
  rw [e2] at hc
  have hs : 0 ≤ r.steps ∧ r.steps < 9000000000000000000 := by rw [hL.steps]; omega
  have hcs := fun W => cRefStep r W hs
  rw [(like_step hL).2, e3] at hcs
  have hL' := (like_step hL).1
  have hr' := rdStep hr
  have hft := footStep r
  have hsl := (stepR_files r).2
  obtain ⟨f0, hlk⟩ : ∃ f0, lookG RF.name name r.l = some f0 := by
    cases hq : lookG RF.name name r.l with
    | some f0 => exact ⟨f0, rfl⟩
    | none => have := hL.look name; rw [hq] at this; unfold refusedD at e2; simp [this] at e2; split at e2 <;> cases e2
  have hld : lookG Fl.name name d.files = some f0.fl := by rw [hL.look name, hlk]; rfl
  obtain ⟨r1, hr1⟩ : ∃ r1, r1 = (stepR r).1 := ⟨_, rfl⟩
  rw [← hr1] at hcs hL' hr' hft hsl
  have hlk1 : lookG RF.name name r1.l = some f0 := by rw [hsl]; exact hlk
  have hl1 : r1.l.length ≤ 1000000000 := by rw [hsl]; exact hl
  have hB1 : ∀ f ∈ r1.l, f.bytes.length ≤ 140737488355328 := by rw [hsl]; exact hB
  rw [e1, ← hft]
  clear hr1 e1 hr e3 hs hlk hl hB hft hsl
  have hrise : riseG RF.name r1.l := hL'.rise (okStep ho)
  obtain ⟨room, steps, fa, fc, l, armed, dead, left⟩ := r
  obtain ⟨room', steps', fa', fc', l', armed', dead', left'⟩ := r1
  simp only [RD.v] at *
  have b0 := bx.c0; have b1 := bx.c1; have b2 := bx.c2; have b3 := bx.c3; have b4 := bx.c4; have b5 := bx.c5
  go_enter Tryz.func40, Tryz.ntmps40
  go_wp2_with fail
  refine hc.mono ?_
  rintro e w2 ⟨rfl, k2⟩
  have bx2 := bx.kept k2
  have br2 := br.kept k2
  have b0 := bx2.c0; have b1 := bx2.c1; have b2 := bx2.c2; have b3 := bx2.c3; have b4 := bx2.c4; have b5 := bx2.c5
  go_wp2_with fail
  refine (hcs _).mono ?_
  rintro e w3 ⟨rfl, k3⟩
  have bx3 := bx2.kept k3
  have br3 := br2.kept k3
  clear b0 b1 b2 b3 b4 b5
  have b0 := bx3.c0; have b1 := bx3.c1; have b2 := bx3.c2; have b3 := bx3.c3; have b4 := bx3.c4; have b5 := bx3.c5
  have f0' := bx3.free 0; have f1' := bx3.free 1; have f2' := bx3.free 2; have f3' := bx3.free 3; have f4' := bx3.free 4; have f5' := bx3.free 5
  obtain ⟨w4, hw4, bx4, k4⟩ := set6_ex bx3 (.int .i64 room') (.int .i64 steps') (.slice fa' l'.length fc') (.bool armed') (.bool dead') (.int .i64 left')
  have br4 := br3.set k4 (by omega)
  have kw4 : Kp [] w w4 := (((k1.trans k2 (by simp)).trans k3 (by simp)).trans k4 (fun x hx => .inr (by simp at hx; omega)))
  have hr4 := hr'.keptNew kw4
  obtain ⟨j0, hj0⟩ : ∃ j0, l'[j0]? = some f0 := List.mem_iff_getElem?.1 (lookG_some hlk1).1
  obtain ⟨g, f, hfa, x0, x1, x2⟩ := hr4.fls.at hj0
  subst hfa
  have hjl : j0 < l'.length := (List.getElem?_eq_some_iff.1 hj0).1
  have hjA : (0 : Int) ≤ (j0 : Int) := by omega
  have hjB : (j0 : Int) < (l'.length : Int) := by omega
  have hAt : Hid (∀ A, Kp [] w4.drew A → Calls Tryz.prog 38 #[.agg #[.int .i64 room', .int .i64 steps', .slice (some ⟨g, f, none⟩) l'.length fc', .bool armed', .bool dead', .int .i64 left'], .string ⟨name.toArray⟩] A fun e A' => e = .returned (.int .i64 (j0 : Int)) ∧ Kp [] A A') := fun A kA => (cAt ⟨room', steps', some ⟨g, f, none⟩, fc', l', armed', dead', left'⟩ name A (hr4.keptNew ((Kp.refl [] w4).drew.trans kA (by simp))) (by simp only; omega)).mono fun e A' h => by
    obtain ⟨hk, ⟨j, x, he, hx, hxl⟩ | ⟨_, hno⟩⟩ := h
    · have : j = j0 := rise_inj hrise hx hj0 (by simp only at hxl hlk1; rw [hxl] at hlk1; cases hlk1; rfl)
      subst this
      exact ⟨he, hk⟩
    · simp only at hno hlk1; rw [hno] at hlk1; cases hlk1
  have hsz4 : w.heap.size + 2 ≤ w4.heap.size := by have := k2.size; have := k3.size; have := k4.size; omega
  clear hc hcs
  go_wp2_with fail
  clear b0 b1 b2 b3 b4 b5 f0' f1' f2' f3' f4' f5'
  have bxd := bx4.kept (w' := w4.drew) (Kp.refl _ _).drew
  have hSk : Hid (∀ A, Kp [] w4.drew A → A.cell? ⟨w.heap.size, 0, none⟩ = some (.int .i64 room') ∧ A.cell? ⟨w.heap.size, 1, none⟩ = some (.int .i64 steps') ∧ A.cell? ⟨w.heap.size, 2, none⟩ = some (.slice (some ⟨g, f, none⟩) l'.length fc') ∧ A.cell? ⟨w.heap.size, 3, none⟩ = some (.bool armed') ∧ A.cell? ⟨w.heap.size, 4, none⟩ = some (.bool dead') ∧ A.cell? ⟨w.heap.size, 5, none⟩ = some (.int .i64 left') ∧ A.cell? ⟨g, f + j0 * 3, none⟩ = some (.string ⟨f0.name.toArray⟩) ∧ A.cell? ⟨g, f + j0 * 3 + 1, none⟩ = some (.slice f0.ba f0.bytes.length f0.bc) ∧ A.cell? ⟨g, f + j0 * 3 + 2, none⟩ = some (.int .i64 (f0.last : Int))) := fun A kA => by
    have h := bxd.kept kA
    have kk : Kp [] w4 A := (Kp.refl [] w4).drew.trans kA (by simp)
    exact ⟨h.c0, h.c1, h.c2, h.c3, h.c4, h.c5, cell_kp kk x0, cell_kp kk x1, cell_kp kk x2⟩
  refine wp_region_held_drew (S := (fun w' => w'.cell? ⟨w.heap.size, 0, none⟩ = some (.int .i64 room') ∧ w'.cell? ⟨w.heap.size, 1, none⟩ = some (.int .i64 steps') ∧ w'.cell? ⟨w.heap.size, 2, none⟩ = some (.slice (some ⟨g, f, none⟩) l'.length fc') ∧ w'.cell? ⟨w.heap.size, 3, none⟩ = some (.bool armed') ∧ w'.cell? ⟨w.heap.size, 4, none⟩ = some (.bool dead') ∧ w'.cell? ⟨w.heap.size, 5, none⟩ = some (.int .i64 left') ∧ w'.cell? ⟨g, f + j0 * 3, none⟩ = some (.string ⟨f0.name.toArray⟩) ∧ w'.cell? ⟨g, f + j0 * 3 + 1, none⟩ = some (.slice f0.ba f0.bytes.length f0.bc) ∧ w'.cell? ⟨g, f + j0 * 3 + 2, none⟩ = some (.int .i64 (f0.last : Int)))) (by kernel_rfl) ?_ (fun hHeld => ?_)
  · exact hSk.out _ (Kp.refl _ _)
  refine wpAnyH_take (i := 0) (v := ?_) rfl (by kernel_rfl) (by kernel_rfl) (by kernel_rfl) (fun _ _ _ h => h) (Or.inl ⟨by rfl, ?_⟩) (by assumption) ?_
  rotate_left
  · intro w hSw; (try dsimp only at hSw); go_simp <;> with_reducible rfl
  try simp only [Act.put, List.getElem_toArray, List.getElem_cons_zero, List.getElem_cons_succ, List.setIfInBounds_toArray, List.set_cons_zero, List.set_cons_succ]
  refine wpAnyH_take (i := 1) (v := ?_) rfl (by kernel_rfl) (by kernel_rfl) (by kernel_rfl) (fun _ _ _ h => h) (Or.inl ⟨by rfl, ?_⟩) (by assumption) ?_
  rotate_left
  · intro w hSw; (try dsimp only at hSw); go_simp <;> with_reducible rfl
  try simp only [Act.put, List.getElem_toArray, List.getElem_cons_zero, List.getElem_cons_succ, List.setIfInBounds_toArray, List.set_cons_zero, List.set_cons_succ]
  refine wpAnyH_take (i := 2) (v := ?_) rfl (by kernel_rfl) (by kernel_rfl) (by kernel_rfl) (fun _ _ _ h => h) (Or.inl ⟨by rfl, ?_⟩) (by assumption) ?_
  rotate_left
  · intro w hSw; (try dsimp only at hSw); go_simp <;> with_reducible rfl
  try simp only [Act.put, List.getElem_toArray, List.getElem_cons_zero, List.getElem_cons_succ, List.setIfInBounds_toArray, List.set_cons_zero, List.set_cons_succ]
  refine wpAnyH_take (i := 3) (v := ?_) rfl (by kernel_rfl) (by kernel_rfl) (by kernel_rfl) (fun _ _ _ h => h) (Or.inl ⟨by rfl, ?_⟩) (by assumption) ?_
  rotate_left
  · intro w hSw; (try dsimp only at hSw); go_simp <;> with_reducible rfl
  try simp only [Act.put, List.getElem_toArray, List.getElem_cons_zero, List.getElem_cons_succ, List.setIfInBounds_toArray, List.set_cons_zero, List.set_cons_succ]
  refine wpAnyH_ready (rs := [4, 7]) (by kernel_rfl) (by simp) ?_
  refine AllReadyH.cons rfl (fun K hK => ?_) (AllReadyH.cons rfl (fun K hK => ?_) AllReadyH.nil)
  · have kQ : Kp [] w4.drew w4.drew := Kp.refl _ _
    go_simp
    refine (hAt.out _ kQ).mono ?_
    rintro e w5 ⟨rfl, k5⟩
    (try go_wp2_with fail)
    refine hK.out _ _ ?_ (fun hHeld => ?_)
    · exact hSk.out _ k5
    clear hK K
    try simp only [Act.put, List.getElem_toArray, List.getElem_cons_zero, List.getElem_cons_succ, List.setIfInBounds_toArray, List.set_cons_zero, List.set_cons_succ]
    refine wpAnyH_take (i := 5) (v := ?_) rfl (by kernel_rfl) (by kernel_rfl) (by kernel_rfl) (fun _ _ _ h => h) (Or.inl ⟨by rfl, ?_⟩) (by assumption) ?_
    rotate_left
    · intro w hSw; (try dsimp only at hSw); go_simp <;> with_reducible rfl
    try simp only [Act.put, List.getElem_toArray, List.getElem_cons_zero, List.getElem_cons_succ, List.setIfInBounds_toArray, List.set_cons_zero, List.set_cons_succ]
    refine wpAnyH_take (i := 6) (v := ?_) rfl (by kernel_rfl) (by kernel_rfl) (by kernel_rfl) (fun _ _ _ h => h) (Or.inl ⟨by rfl, ?_⟩) (by assumption) ?_
    rotate_left
    · intro w hSw; (try dsimp only at hSw); go_simp <;> with_reducible rfl
    try simp only [Act.put, List.getElem_toArray, List.getElem_cons_zero, List.getElem_cons_succ, List.setIfInBounds_toArray, List.set_cons_zero, List.set_cons_succ]
    refine wpAnyH_ready (rs := [7]) (by kernel_rfl) (by simp) ?_
    refine AllReadyH.cons rfl (fun K hK => ?_) AllReadyH.nil
    go_simp
    (try go_wp2_with fail)
    refine hK.out _ _ ?_ (fun hHeld => ?_)
    · exact hSk.out _ (k5.alloc _)
    clear hK K
    try simp only [Act.put, List.getElem_toArray, List.getElem_cons_zero, List.getElem_cons_succ, List.setIfInBounds_toArray, List.set_cons_zero, List.set_cons_succ]
    refine wpAnyH_ready (rs := [8]) (by kernel_rfl) (by simp) ?_
    refine AllReadyH.cons rfl (fun K hK => ?_) AllReadyH.nil
    go_simp
    (try go_wp2_with fail)
    refine hK.out _ _ ?_ (fun hHeld => ?_)
    · exact hSk.out _ (k5.alloc _)
    clear hK K
    try simp only [Act.put, List.getElem_toArray, List.getElem_cons_zero, List.getElem_cons_succ, List.setIfInBounds_toArray, List.set_cons_zero, List.set_cons_succ]
    refine wpAnyH_done (by kernel_rfl) ?_ _
    obtain ⟨w6, hw6⟩ : ∃ w6, w5.alloc (.cells #[.string ⟨f0.name.toArray⟩, .slice f0.ba f0.bytes.length f0.bc, .int .i64 (f0.last : Int)] 68) = w6 := ⟨_, rfl⟩
    have k6 : Kp [] w4.drew w6 := by rw [← hw6]; exact k5.alloc _
    obtain ⟨qf, hqf⟩ : ∃ qf, qf = w5.heap.size := ⟨_, rfl⟩
    have b6 : B3 w6 qf (.string ⟨f0.name.toArray⟩) (.slice f0.ba f0.bytes.length f0.bc) (.int .i64 (f0.last : Int)) := by rw [← hw6]; exact B3.at qf hqf.symm _ _ _ _
    have hqf2 : w.heap.size + 2 ≤ qf := by have := k5.size; simp at this; omega
    rw [hw6, ← hqf]
    clear hw6 hqf
    have kw6 : Kp [] w w6 := (kw4.drew).trans k6 (by simp)
    have bx6 := bxd.kept k6
    have br6 := (br4.kept (w' := w4.drew) (Kp.refl _ _).drew).kept k6
    clear hHeld hSk hAt x0 x1 x2
    obtain ⟨w7, hw7⟩ : ∃ w7, w7 = w6 := ⟨_, rfl⟩
    have k7 : Kp [qf] w6 w7 := by rw [hw7]; exact Kp.refl _ _
    subst hw7
    have bx7 := bx6
    have br7 := br6
    have kw7 := kw6
    have c0 := bx7.c0; have c1 := bx7.c1; have c2 := bx7.c2; have c3 := bx7.c3; have c4 := bx7.c4; have c5 := bx7.c5
    have hW := cWithout ⟨room', steps', some ⟨g, f, none⟩, fc', l', armed', dead', left'⟩ name w7 (hr'.keptNew kw7) hl1
    simp only [RD.v] at hW
    go_wp2_with fail
    refine hW.mono ?_
    rintro e w8 ⟨a8, c8, rfl, hf8, k8, hn8⟩
    obtain ⟨L8, hL8⟩ : ∃ L8, L8 = dropG RF.name name l' := ⟨_, rfl⟩
    rw [← hL8] at hf8
    simp only [RD.v, ← hL8]
    have hL8' := hid hL8
    clear hL8 hW
    have bx8 := bx7.kept k8
    have br8 := br7.kept k8
    clear c0 c1 c2 c3 c4 c5
    have c0 := bx8.c0; have c1 := bx8.c1; have c2 := bx8.c2; have c3 := bx8.c3; have c4 := bx8.c4; have c5 := bx8.c5
    have h0 := bx8.free 0; have h1 := bx8.free 1; have h2 := bx8.free 2; have h3 := bx8.free 3; have h4 := bx8.free 4; have h5 := bx8.free 5
    obtain ⟨w9, hw9, bx9, k9⟩ := set6_ex bx8 (.int .i64 room') (.int .i64 steps') (.slice a8 L8.length c8) (.bool armed') (.bool dead') (.int .i64 left')
    have br9 := br8.set k9 (by omega)
    have d0 := bx9.c0; have d1 := bx9.c1; have d2 := bx9.c2; have d3 := bx9.c3; have d4 := bx9.c4; have d5 := bx9.c5
    have r0 := br9.c0; have r1 := br9.c1; have r2 := br9.c2; have r3 := br9.c3; have r4 := br9.c4; have r5 := br9.c5
    have g0 := br9.free 0; have g1 := br9.free 1; have g2 := br9.free 2; have g3 := br9.free 3; have g4 := br9.free 4; have g5 := br9.free 5
    go_wp2_with fail
    obtain ⟨W', hW', hb6, kW'⟩ := set6_ex br9 (.int .i64 room') (.int .i64 steps') (.slice a8 L8.length c8) (.bool armed') (.bool dead') (.int .i64 left')
    rw [hW']
    obtain ⟨z0, z1, z2, z3, z4, z5, _⟩ := hb6
    have kWW : Kp [w.heap.size, w.heap.size + 1] w8 W' := (k9.mono (T := [w.heap.size, w.heap.size + 1]) (fun x hx => .inl (by simp at hx; simp [hx]))).trans kW' (fun x hx => .inl (by simp at hx; simp [hx]))
    have kWf : Kp [] w W' := (kw7.trans k8 (by simp)).trans kWW (fun x hx => .inr (by simp at hx; omega))
    have hsz7 : w.heap.size + 2 ≤ w7.heap.size := by have := k6.size; have := k7.size; simp at *; omega
    refine bodyPost_ret (v := .tuple #[.agg #[.int .i64 room', .int .i64 steps', .slice a8 L8.length c8, .bool armed', .bool dead', .int .i64 left'], .int .i64 0]) (by simp [results, Tryz.results40, go_sem, z0, z1, z2, z3, z4, z5]) rfl ?_
    refine RefE.dropDone (q := w.heap.size) (n := w7.heap.size) hr' hL' name hL8'.out hf8 hn8 kWf kWW (by omega) (by omega) ?_
    rw [(stepD_files d).1]
    simp [changedF]
  · have kQ : Kp [] w4.drew (w4.drew.alloc (.cells #[.string ⟨#[]⟩, .slice none 0 0, .int .i64 0] 68)) := (Kp.refl _ _).alloc _
    go_simp
    (try go_wp2_with fail)
    refine hK.out _ _ ?_ (fun hHeld => ?_)
    · exact hSk.out _ kQ
    clear hK K
    try simp only [Act.put, List.getElem_toArray, List.getElem_cons_zero, List.getElem_cons_succ, List.setIfInBounds_toArray, List.set_cons_zero, List.set_cons_succ]
    refine wpAnyH_ready (rs := [4]) (by kernel_rfl) (by simp) ?_
    refine AllReadyH.cons rfl (fun K hK => ?_) AllReadyH.nil
    go_simp
    refine (hAt.out _ kQ).mono ?_
    rintro e w5 ⟨rfl, k5⟩
    have bz := (B3.at (w := w4.drew) w4.heap.size rfl (.string ⟨#[]⟩) (.slice none 0 0) (.int .i64 0) 68).kept k5
    have z0 := bz.c0
    have z1 := bz.c1
    have z2 := bz.c2
    have g0 := bz.free 0
    have g1 := bz.free 1
    have g2 := bz.free 2
    have kQ5 : Kp [] w4.drew w5 := kQ.trans k5 (by simp)
    (try go_wp2_with fail)
    refine hK.out _ _ ?_ (fun hHeld => ?_)
    · exact hSk.out _ (kQ.trans k5 (by simp))
    clear hK K
    try simp only [Act.put, List.getElem_toArray, List.getElem_cons_zero, List.getElem_cons_succ, List.setIfInBounds_toArray, List.set_cons_zero, List.set_cons_succ]
    refine wpAnyH_take (i := 5) (v := ?_) rfl (by kernel_rfl) (by kernel_rfl) (by kernel_rfl) (fun _ _ _ h => h) (Or.inl ⟨by rfl, ?_⟩) (by assumption) ?_
    rotate_left
    · intro w hSw; (try dsimp only at hSw); go_simp <;> with_reducible rfl
    try simp only [Act.put, List.getElem_toArray, List.getElem_cons_zero, List.getElem_cons_succ, List.setIfInBounds_toArray, List.set_cons_zero, List.set_cons_succ]
    refine wpAnyH_take (i := 6) (v := ?_) rfl (by kernel_rfl) (by kernel_rfl) (by kernel_rfl) (fun _ _ _ h => h) (Or.inl ⟨by rfl, ?_⟩) (by assumption) ?_
    rotate_left
    · intro w hSw; (try dsimp only at hSw); go_simp <;> with_reducible rfl
    try simp only [Act.put, List.getElem_toArray, List.getElem_cons_zero, List.getElem_cons_succ, List.setIfInBounds_toArray, List.set_cons_zero, List.set_cons_succ]
    refine wpAnyH_ready (rs := [8]) (by kernel_rfl) (by simp) ?_
    refine AllReadyH.cons rfl (fun K hK => ?_) AllReadyH.nil
    go_simp
    (try go_wp2_with fail)
    refine hK.out _ _ ?_ (fun hHeld => ?_)
    · exact hSk.out _ (((kQ5.setCell (p := ⟨w4.heap.size, 0, none⟩) (.inr (Nat.le_refl _)) _).setCell (p := ⟨w4.heap.size, 1, none⟩) (.inr (Nat.le_refl _)) _).setCell (p := ⟨w4.heap.size, 2, none⟩) (.inr (Nat.le_refl _)) _)
    clear hK K
    try simp only [Act.put, List.getElem_toArray, List.getElem_cons_zero, List.getElem_cons_succ, List.setIfInBounds_toArray, List.set_cons_zero, List.set_cons_succ]
    refine wpAnyH_done (by kernel_rfl) ?_ _
    obtain ⟨w6, hw6, b6, k6'⟩ := set3_ex bz (.string ⟨f0.name.toArray⟩) (.slice f0.ba f0.bytes.length f0.bc) (.int .i64 (f0.last : Int))
    have k6 : Kp [] w4.drew w6 := kQ5.trans k6' (fun x hx => .inr (by rw [List.mem_singleton] at hx; subst hx; exact Nat.le_refl _))
    rw [hw6]
    obtain ⟨qf, hqf⟩ : ∃ qf, qf = w4.heap.size := ⟨_, rfl⟩
    rw [← hqf] at b6 ⊢
    have hqf2 : w.heap.size + 2 ≤ qf := by omega
    clear hw6 hqf bz z0 z1 z2 g0 g1 g2 k6'
    have kw6 : Kp [] w w6 := (kw4.drew).trans k6 (by simp)
    have bx6 := bxd.kept k6
    have br6 := (br4.kept (w' := w4.drew) (Kp.refl _ _).drew).kept k6
    clear hHeld hSk hAt x0 x1 x2
    obtain ⟨w7, hw7⟩ : ∃ w7, w7 = w6 := ⟨_, rfl⟩
    have k7 : Kp [qf] w6 w7 := by rw [hw7]; exact Kp.refl _ _
    subst hw7
    have bx7 := bx6
    have br7 := br6
    have kw7 := kw6
    have c0 := bx7.c0; have c1 := bx7.c1; have c2 := bx7.c2; have c3 := bx7.c3; have c4 := bx7.c4; have c5 := bx7.c5
    have hW := cWithout ⟨room', steps', some ⟨g, f, none⟩, fc', l', armed', dead', left'⟩ name w7 (hr'.keptNew kw7) hl1
    simp only [RD.v] at hW
    go_wp2_with fail
    refine hW.mono ?_
    rintro e w8 ⟨a8, c8, rfl, hf8, k8, hn8⟩
    obtain ⟨L8, hL8⟩ : ∃ L8, L8 = dropG RF.name name l' := ⟨_, rfl⟩
    rw [← hL8] at hf8
    simp only [RD.v, ← hL8]
    have hL8' := hid hL8
    clear hL8 hW
    have bx8 := bx7.kept k8
    have br8 := br7.kept k8
    clear c0 c1 c2 c3 c4 c5
    have c0 := bx8.c0; have c1 := bx8.c1; have c2 := bx8.c2; have c3 := bx8.c3; have c4 := bx8.c4; have c5 := bx8.c5
    have h0 := bx8.free 0; have h1 := bx8.free 1; have h2 := bx8.free 2; have h3 := bx8.free 3; have h4 := bx8.free 4; have h5 := bx8.free 5
    obtain ⟨w9, hw9, bx9, k9⟩ := set6_ex bx8 (.int .i64 room') (.int .i64 steps') (.slice a8 L8.length c8) (.bool armed') (.bool dead') (.int .i64 left')
    have br9 := br8.set k9 (by omega)
    have d0 := bx9.c0; have d1 := bx9.c1; have d2 := bx9.c2; have d3 := bx9.c3; have d4 := bx9.c4; have d5 := bx9.c5
    have r0 := br9.c0; have r1 := br9.c1; have r2 := br9.c2; have r3 := br9.c3; have r4 := br9.c4; have r5 := br9.c5
    have g0 := br9.free 0; have g1 := br9.free 1; have g2 := br9.free 2; have g3 := br9.free 3; have g4 := br9.free 4; have g5 := br9.free 5
    go_wp2_with fail
    obtain ⟨W', hW', hb6, kW'⟩ := set6_ex br9 (.int .i64 room') (.int .i64 steps') (.slice a8 L8.length c8) (.bool armed') (.bool dead') (.int .i64 left')
    rw [hW']
    obtain ⟨z0, z1, z2, z3, z4, z5, _⟩ := hb6
    have kWW : Kp [w.heap.size, w.heap.size + 1] w8 W' := (k9.mono (T := [w.heap.size, w.heap.size + 1]) (fun x hx => .inl (by simp at hx; simp [hx]))).trans kW' (fun x hx => .inl (by simp at hx; simp [hx]))
    have kWf : Kp [] w W' := (kw7.trans k8 (by simp)).trans kWW (fun x hx => .inr (by simp at hx; omega))
    have hsz7 : w.heap.size + 2 ≤ w7.heap.size := by have := k6.size; have := k7.size; simp at *; omega
    refine bodyPost_ret (v := .tuple #[.agg #[.int .i64 room', .int .i64 steps', .slice a8 L8.length c8, .bool armed', .bool dead', .int .i64 left'], .int .i64 0]) (by simp [results, Tryz.results40, go_sem, z0, z1, z2, z3, z4, z5]) rfl ?_
    refine RefE.dropDone (q := w.heap.size) (n := w7.heap.size) hr' hL' name hL8'.out hf8 hn8 kWf kWW (by omega) (by omega) ?_
    rw [(stepD_files d).1]
    simp [changedF]
end Go.Proofs.YtpkoikennimonaaGreatDoor
end

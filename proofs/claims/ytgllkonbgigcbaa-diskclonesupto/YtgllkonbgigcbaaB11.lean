/- The reference's call Do, where it is done: Sync, Truncate, Rename, Remove. The reference's call Do, where it is done: Sync, Truncate, Rename, Remove. The reference's call Do. The reference's call Flip, where there is no such bit. The reference's call Flip, where there is such a bit. The reference's call Flip. -/
import Derived.Test.YtgllkonbgigcbaaB10
section
namespace Go.Proofs.Ytgllkonbgigcbaa
open Go.RowKit Go.Hay
set_option linter.unusedVariables false
set_option linter.unusedSimpArgs false

set_option maxHeartbeats 16000000 in
set_option maxRecDepth 100000 in
theorem cRefDo3 (r : RD) (d : Dk) (w : World) (hr : RdOk w r) (hL : Like r d) (ho : Okd d) (hl : r.l.length ≤ 1000000000) (hst : d.steps < 9000000000000000000) (name to : List UInt8) (hk : name.length ≤ maxLen) (hto : to.length ≤ maxLen) (n : Int) (e2 : refusedD d 3 name to n = 0) (e3 : (stepD d).2 = false) (hB : ∀ f ∈ r.l, f.bytes.length ≤ 140737488355328) :
    Calls Try.prog 32 #[r.v, .int .i64 3, .string ⟨name.toArray⟩, .string ⟨to.toArray⟩, .int .i64 n] w (RefE r.foot (doD d 3 name to n) w) := by
  obtain ⟨w1, hw1, k1, bx, br, hsz⟩ := boxRR r w
  have e1 : doD d 3 name to n = ({ (stepD d).1 with files := changedF d.files 3 name to n }, 0) := by unfold doD; rw [if_neg (by simpa using e2), e3]; simp
  have hc := cRefused r d w1 (hr.keptNew k1) hL hl 3 name to hto n
  rw [e2] at hc
  have hs : 0 ≤ r.steps ∧ r.steps < 9000000000000000000 := by rw [hL.steps]; omega
  have hcs := fun W => cRefStep r W hs
  rw [(like_step hL).2, e3] at hcs
  have hL' := (like_step hL).1
  have hr' := rdStep hr
  have hft := footStep r
  have hsl := (stepR_files r).2
  obtain ⟨f0, hlk⟩ : ∃ f0, lookG RF.name name r.l = some f0 := by
    cases hq : lookG RF.name name r.l with
    | some f0 => exact ⟨f0, rfl⟩
    | none => have := hL.look name; rw [hq] at this; unfold refusedD at e2; simp [this] at e2; split at e2 <;> cases e2
  have hld : lookG Fl.name name d.files = some f0.fl := by rw [hL.look name, hlk]; rfl
  obtain ⟨r1, hr1⟩ : ∃ r1, r1 = (stepR r).1 := ⟨_, rfl⟩
  rw [← hr1] at hcs hL' hr' hft hsl
  have hlk1 : lookG RF.name name r1.l = some f0 := by rw [hsl]; exact hlk
  have hl1 : r1.l.length ≤ 1000000000 := by rw [hsl]; exact hl
  have hB1 : ∀ f ∈ r1.l, f.bytes.length ≤ 140737488355328 := by rw [hsl]; exact hB
  rw [e1, ← hft]
  clear hr1 e1 hr e3 hs hlk hl hB hft hsl
  have hrise : riseG RF.name r1.l := hL'.rise (okStep ho)
  obtain ⟨room, steps, fa, fc, l, armed, dead, left⟩ := r
  obtain ⟨room', steps', fa', fc', l', armed', dead', left'⟩ := r1
  simp only [RD.v] at *
  have b0 := bx.c0; have b1 := bx.c1; have b2 := bx.c2; have b3 := bx.c3; have b4 := bx.c4; have b5 := bx.c5
  go_enter Try.func32, Try.ntmps32
  go_wp2_with fail
  refine hc.mono ?_
  rintro e w2 ⟨rfl, k2⟩
  have bx2 := bx.kept k2
  have br2 := br.kept k2
  have b0 := bx2.c0; have b1 := bx2.c1; have b2 := bx2.c2; have b3 := bx2.c3; have b4 := bx2.c4; have b5 := bx2.c5
  go_wp2_with fail
  refine (hcs _).mono ?_
  rintro e w3 ⟨rfl, k3⟩
  have bx3 := bx2.kept k3
  have br3 := br2.kept k3
  clear b0 b1 b2 b3 b4 b5
  have b0 := bx3.c0; have b1 := bx3.c1; have b2 := bx3.c2; have b3 := bx3.c3; have b4 := bx3.c4; have b5 := bx3.c5
  have f0' := bx3.free 0; have f1' := bx3.free 1; have f2' := bx3.free 2; have f3' := bx3.free 3; have f4' := bx3.free 4; have f5' := bx3.free 5
  obtain ⟨w4, hw4, bx4, k4⟩ := set6_ex bx3 (.int .i64 room') (.int .i64 steps') (.slice fa' l'.length fc') (.bool armed') (.bool dead') (.int .i64 left')
  have br4 := br3.set k4 (by omega)
  have kw4 : Kp [] w w4 := (((k1.trans k2 (by simp)).trans k3 (by simp)).trans k4 (fun x hx => .inr (by simp at hx; omega)))
  have hr4 := hr'.keptNew kw4
  obtain ⟨j0, hj0⟩ : ∃ j0, l'[j0]? = some f0 := List.mem_iff_getElem?.1 (lookG_some hlk1).1
  obtain ⟨g, f, hfa, x0, x1, x2⟩ := hr4.fls.at hj0
  subst hfa
  have hjl : j0 < l'.length := (List.getElem?_eq_some_iff.1 hj0).1
  have hjA : (0 : Int) ≤ (j0 : Int) := by omega
  have hjB : (j0 : Int) < (l'.length : Int) := by omega
  have hAt : Hid (∀ A, Kp [] w4.drew A → Calls Try.prog 44 #[.agg #[.int .i64 room', .int .i64 steps', .slice (some ⟨g, f, none⟩) l'.length fc', .bool armed', .bool dead', .int .i64 left'], .string ⟨name.toArray⟩] A fun e A' => e = .returned (.int .i64 (j0 : Int)) ∧ Kp [] A A') := fun A kA => (cAt ⟨room', steps', some ⟨g, f, none⟩, fc', l', armed', dead', left'⟩ name A (hr4.keptNew ((Kp.refl [] w4).drew.trans kA (by simp))) (by simp only; omega)).mono fun e A' h => by
    obtain ⟨hk, ⟨j, x, he, hx, hxl⟩ | ⟨_, hno⟩⟩ := h
    · have : j = j0 := rise_inj hrise hx hj0 (by simp only at hxl hlk1; rw [hxl] at hlk1; cases hlk1; rfl)
      subst this
      exact ⟨he, hk⟩
    · simp only at hno hlk1; rw [hno] at hlk1; cases hlk1
  have hsz4 : w.heap.size + 2 ≤ w4.heap.size := by have := k2.size; have := k3.size; have := k4.size; omega
  clear hc hcs
  go_wp2_with fail
  clear b0 b1 b2 b3 b4 b5 f0' f1' f2' f3' f4' f5'
  have bxd := bx4.kept (w' := w4.drew) (Kp.refl _ _).drew
  have hSk : Hid (∀ A, Kp [] w4.drew A → A.cell? ⟨w.heap.size, 0, none⟩ = some (.int .i64 room') ∧ A.cell? ⟨w.heap.size, 1, none⟩ = some (.int .i64 steps') ∧ A.cell? ⟨w.heap.size, 2, none⟩ = some (.slice (some ⟨g, f, none⟩) l'.length fc') ∧ A.cell? ⟨w.heap.size, 3, none⟩ = some (.bool armed') ∧ A.cell? ⟨w.heap.size, 4, none⟩ = some (.bool dead') ∧ A.cell? ⟨w.heap.size, 5, none⟩ = some (.int .i64 left') ∧ A.cell? ⟨g, f + j0 * 3, none⟩ = some (.string ⟨f0.name.toArray⟩) ∧ A.cell? ⟨g, f + j0 * 3 + 1, none⟩ = some (.slice f0.ba f0.bytes.length f0.bc) ∧ A.cell? ⟨g, f + j0 * 3 + 2, none⟩ = some (.int .i64 (f0.last : Int))) := fun A kA => by
    have h := bxd.kept kA
    have kk : Kp [] w4 A := (Kp.refl [] w4).drew.trans kA (by simp)
    exact ⟨h.c0, h.c1, h.c2, h.c3, h.c4, h.c5, cell_kp kk x0, cell_kp kk x1, cell_kp kk x2⟩
  refine wp_region_held_drew (S := (fun w' => w'.cell? ⟨w.heap.size, 0, none⟩ = some (.int .i64 room') ∧ w'.cell? ⟨w.heap.size, 1, none⟩ = some (.int .i64 steps') ∧ w'.cell? ⟨w.heap.size, 2, none⟩ = some (.slice (some ⟨g, f, none⟩) l'.length fc') ∧ w'.cell? ⟨w.heap.size, 3, none⟩ = some (.bool armed') ∧ w'.cell? ⟨w.heap.size, 4, none⟩ = some (.bool dead') ∧ w'.cell? ⟨w.heap.size, 5, none⟩ = some (.int .i64 left') ∧ w'.cell? ⟨g, f + j0 * 3, none⟩ = some (.string ⟨f0.name.toArray⟩) ∧ w'.cell? ⟨g, f + j0 * 3 + 1, none⟩ = some (.slice f0.ba f0.bytes.length f0.bc) ∧ w'.cell? ⟨g, f + j0 * 3 + 2, none⟩ = some (.int .i64 (f0.last : Int)))) (by kernel_rfl) ?_ (fun hHeld => ?_)
  · exact hSk.out _ (Kp.refl _ _)
  refine wpAnyH_take (i := 0) (v := ?_) rfl (by kernel_rfl) (by kernel_rfl) (by kernel_rfl) (fun _ _ _ h => h) (Or.inl ⟨by rfl, ?_⟩) (by assumption) ?_
  rotate_left
  · intro w hSw; (try dsimp only at hSw); go_simp <;> with_reducible rfl
  try simp only [Act.put, List.getElem_toArray, List.getElem_cons_zero, List.getElem_cons_succ, List.setIfInBounds_toArray, List.set_cons_zero, List.set_cons_succ]
  refine wpAnyH_take (i := 1) (v := ?_) rfl (by kernel_rfl) (by kernel_rfl) (by kernel_rfl) (fun _ _ _ h => h) (Or.inl ⟨by rfl, ?_⟩) (by assumption) ?_
  rotate_left
  · intro w hSw; (try dsimp only at hSw); go_simp <;> with_reducible rfl
  try simp only [Act.put, List.getElem_toArray, List.getElem_cons_zero, List.getElem_cons_succ, List.setIfInBounds_toArray, List.set_cons_zero, List.set_cons_succ]
  refine wpAnyH_take (i := 2) (v := ?_) rfl (by kernel_rfl) (by kernel_rfl) (by kernel_rfl) (fun _ _ _ h => h) (Or.inl ⟨by rfl, ?_⟩) (by assumption) ?_
  rotate_left
  · intro w hSw; (try dsimp only at hSw); go_simp <;> with_reducible rfl
  try simp only [Act.put, List.getElem_toArray, List.getElem_cons_zero, List.getElem_cons_succ, List.setIfInBounds_toArray, List.set_cons_zero, List.set_cons_succ]
  refine wpAnyH_take (i := 3) (v := ?_) rfl (by kernel_rfl) (by kernel_rfl) (by kernel_rfl) (fun _ _ _ h => h) (Or.inl ⟨by rfl, ?_⟩) (by assumption) ?_
  rotate_left
  · intro w hSw; (try dsimp only at hSw); go_simp <;> with_reducible rfl
  try simp only [Act.put, List.getElem_toArray, List.getElem_cons_zero, List.getElem_cons_succ, List.setIfInBounds_toArray, List.set_cons_zero, List.set_cons_succ]
  refine wpAnyH_ready (rs := [4, 7]) (by kernel_rfl) (by simp) ?_
  refine AllReadyH.cons rfl (fun K hK => ?_) (AllReadyH.cons rfl (fun K hK => ?_) AllReadyH.nil)
  · have kQ : Kp [] w4.drew w4.drew := Kp.refl _ _
    go_simp
    refine (hAt.out _ kQ).mono ?_
    rintro e w5 ⟨rfl, k5⟩
    (try go_wp2_with fail)
    refine hK.out _ _ ?_ (fun hHeld => ?_)
    · exact hSk.out _ k5
    clear hK K
    try simp only [Act.put, List.getElem_toArray, List.getElem_cons_zero, List.getElem_cons_succ, List.setIfInBounds_toArray, List.set_cons_zero, List.set_cons_succ]
    refine wpAnyH_take (i := 5) (v := ?_) rfl (by kernel_rfl) (by kernel_rfl) (by kernel_rfl) (fun _ _ _ h => h) (Or.inl ⟨by rfl, ?_⟩) (by assumption) ?_
    rotate_left
    · intro w hSw; (try dsimp only at hSw); go_simp <;> with_reducible rfl
    try simp only [Act.put, List.getElem_toArray, List.getElem_cons_zero, List.getElem_cons_succ, List.setIfInBounds_toArray, List.set_cons_zero, List.set_cons_succ]
    refine wpAnyH_take (i := 6) (v := ?_) rfl (by kernel_rfl) (by kernel_rfl) (by kernel_rfl) (fun _ _ _ h => h) (Or.inl ⟨by rfl, ?_⟩) (by assumption) ?_
    rotate_left
    · intro w hSw; (try dsimp only at hSw); go_simp <;> with_reducible rfl
    try simp only [Act.put, List.getElem_toArray, List.getElem_cons_zero, List.getElem_cons_succ, List.setIfInBounds_toArray, List.set_cons_zero, List.set_cons_succ]
    refine wpAnyH_ready (rs := [7]) (by kernel_rfl) (by simp) ?_
    refine AllReadyH.cons rfl (fun K hK => ?_) AllReadyH.nil
    go_simp
    (try go_wp2_with fail)
    refine hK.out _ _ ?_ (fun hHeld => ?_)
    · exact hSk.out _ (k5.alloc _)
    clear hK K
    try simp only [Act.put, List.getElem_toArray, List.getElem_cons_zero, List.getElem_cons_succ, List.setIfInBounds_toArray, List.set_cons_zero, List.set_cons_succ]
    refine wpAnyH_ready (rs := [8]) (by kernel_rfl) (by simp) ?_
    refine AllReadyH.cons rfl (fun K hK => ?_) AllReadyH.nil
    go_simp
    (try go_wp2_with fail)
    refine hK.out _ _ ?_ (fun hHeld => ?_)
    · exact hSk.out _ (k5.alloc _)
    clear hK K
    try simp only [Act.put, List.getElem_toArray, List.getElem_cons_zero, List.getElem_cons_succ, List.setIfInBounds_toArray, List.set_cons_zero, List.set_cons_succ]
    refine wpAnyH_done (by kernel_rfl) ?_ _
    obtain ⟨w6, hw6⟩ : ∃ w6, w5.alloc (.cells #[.string ⟨f0.name.toArray⟩, .slice f0.ba f0.bytes.length f0.bc, .int .i64 (f0.last : Int)] 45) = w6 := ⟨_, rfl⟩
    have k6 : Kp [] w4.drew w6 := by rw [← hw6]; exact k5.alloc _
    obtain ⟨qf, hqf⟩ : ∃ qf, qf = w5.heap.size := ⟨_, rfl⟩
    have b6 : B3 w6 qf (.string ⟨f0.name.toArray⟩) (.slice f0.ba f0.bytes.length f0.bc) (.int .i64 (f0.last : Int)) := by rw [← hw6]; exact B3.at qf hqf.symm _ _ _ _
    have hqf2 : w.heap.size + 2 ≤ qf := by have := k5.size; simp at this; omega
    rw [hw6, ← hqf]
    clear hw6 hqf
    have kw6 : Kp [] w w6 := (kw4.drew).trans k6 (by simp)
    have bx6 := bxd.kept k6
    have br6 := (br4.kept (w' := w4.drew) (Kp.refl _ _).drew).kept k6
    clear hHeld hSk hAt x0 x1 x2
    have bx7 := bx6
    have c0 := bx7.c0; have c1 := bx7.c1; have c2 := bx7.c2; have c3 := bx7.c3; have c4 := bx7.c4; have c5 := bx7.c5
    have hWo := cWithout ⟨room', steps', some ⟨g, f, none⟩, fc', l', armed', dead', left'⟩ name w6 (hr'.keptNew kw6) hl1
    simp only [RD.v] at hWo
    go_wp2_with fail
    refine hWo.mono ?_
    rintro e wa ⟨a7, c7, rfl, hf7, ka, hn7⟩
    obtain ⟨L7, hL7⟩ : ∃ L7, L7 = dropG RF.name name l' := ⟨_, rfl⟩
    rw [← hL7] at hf7
    simp only [RD.v, ← hL7]
    have hL7' := hid hL7
    clear hL7 hWo
    have bxa := bx6.kept ka
    have bra := br6.kept ka
    have b6a := b6.kept ka
    have hka := ka.size
    have hk6 := k6.size
    clear c0 c1 c2 c3 c4 c5 bx7
    have c0 := bxa.c0; have c1 := bxa.c1; have c2 := bxa.c2; have c3 := bxa.c3; have c4 := bxa.c4; have c5 := bxa.c5
    have h0 := bxa.free 0; have h1 := bxa.free 1; have h2 := bxa.free 2; have h3 := bxa.free 3; have h4 := bxa.free 4; have h5 := bxa.free 5
    obtain ⟨wc, hwc, bxc, kc⟩ := set6_ex bxa (.int .i64 room') (.int .i64 steps') (.slice a7 L7.length c7) (.bool armed') (.bool dead') (.int .i64 left')
    have hqne : qf ≠ w.heap.size := by omega
    have b6c : B3 wc qf (.string ⟨f0.name.toArray⟩) (.slice f0.ba f0.bytes.length f0.bc) (.int .i64 (f0.last : Int)) := ⟨(kc.cell (p := ⟨qf, 0, none⟩) b6a.lt (by simpa using hqne)).trans b6a.c0, (kc.cell (p := ⟨qf, 1, none⟩) b6a.lt (by simpa using hqne)).trans b6a.c1, (kc.cell (p := ⟨qf, 2, none⟩) b6a.lt (by simpa using hqne)).trans b6a.c2, fun j => (kc.frozen (p := ⟨qf, j, none⟩) b6a.lt (by simpa using hqne)).trans (b6a.free j)⟩
    have brc := bra.set kc (by omega)
    have y0 := b6c.c0; have yf := b6c.free 0
    obtain ⟨w7, hw7⟩ : ∃ w7, wc.setCell ⟨qf, 0, none⟩ (.string ⟨to.toArray⟩) = w7 := ⟨_, rfl⟩
    have k7c : Kp [qf] wc w7 := by rw [← hw7]; exact kpSet _ _ _ _
    have b7 : B3 w7 qf (.string ⟨to.toArray⟩) (.slice f0.ba f0.bytes.length f0.bc) (.int .i64 (f0.last : Int)) := by rw [← hw7]; exact b6c.set0 _
    have bx7 := bxc.set k7c (by omega)
    have br7 := brc.set k7c (by omega)
    have kw7 : Kp [] w w7 := ((kw6.trans ka (by simp)).trans kc (fun x hx => .inr (by simp at hx; omega))).trans k7c (fun x hx => .inr (by simp at hx; omega))
    have k7 : Kp [qf, w.heap.size] w6 w7 := ((ka.mono (T := [qf, w.heap.size]) (by simp)).trans kc (fun x hx => .inl (by simp at hx; simp [hx]))).trans k7c (fun x hx => .inl (by simp at hx; simp [hx]))
    have hfa7 : Fls w7 a7 L7 := hf7.kept (S := [qf, w.heap.size]) ((kc.mono (T := [qf, w.heap.size]) (fun x hx => .inl (by simp at hx; simp [hx]))).trans k7c (fun x hx => .inl (by simp at hx; simp [hx]))) (fun k hk hx => by have h1 := hn7 k hk; have h2 := b6.lt; simp at hx; omega)
    have hr7 : RdOk w7 ⟨room', steps', a7, c7, L7, armed', dead', left'⟩ := ⟨hfa7, fun y hy => by
      have hm : y ∈ l' := (mem_dropG.1 (hL7'.out ▸ hy)).1
      exact ⟨(hr'.see y hm).1.kept kw7 (by simp), (hr'.see y hm).2⟩⟩
    have hl7 : L7.length ≤ 1000000000 := by rw [hL7'.out]; exact Nat.le_trans (List.length_filter_le _ _) hl1
    have v0 := b7.c0; have v1 := b7.c1; have v2 := b7.c2
    have e0 := bx7.c0; have e1' := bx7.c1; have e2' := bx7.c2; have e3' := bx7.c3; have e4 := bx7.c4; have e5 := bx7.c5
    have hW := cWith ⟨room', steps', a7, c7, L7, armed', dead', left'⟩ ⟨to, f0.ba, f0.bc, f0.bytes, f0.last⟩ w7 hr7 hl7
    simp only [RD.v, RF.v] at hW
    go_wp2_with fail
    clear y0 yf hw7 hwc c0 c1 c2 c3 c4 c5 h0 h1 h2 h3 h4 h5 e0 e1' e2' e3' e4 e5
    have c0 := bx7.c0; have c1 := bx7.c1; have c2 := bx7.c2; have c3 := bx7.c3; have c4 := bx7.c4; have c5 := bx7.c5
    refine hW.mono ?_
    rintro e w8 ⟨a8, c8, rfl, hf8, k8, hn8⟩
    obtain ⟨L8, hL8⟩ : ∃ L8, L8 = putG RF.name ⟨to, f0.ba, f0.bc, f0.bytes, f0.last⟩ false L7 := ⟨_, rfl⟩
    rw [← hL8] at hf8
    simp only [RD.v, ← hL8]
    have hL8' := hid hL8
    clear hL8 hW
    have bx8 := bx7.kept k8
    have br8 := br7.kept k8
    clear c0 c1 c2 c3 c4 c5
    have c0 := bx8.c0; have c1 := bx8.c1; have c2 := bx8.c2; have c3 := bx8.c3; have c4 := bx8.c4; have c5 := bx8.c5
    have h0 := bx8.free 0; have h1 := bx8.free 1; have h2 := bx8.free 2; have h3 := bx8.free 3; have h4 := bx8.free 4; have h5 := bx8.free 5
    obtain ⟨w9, hw9, bx9, k9⟩ := set6_ex bx8 (.int .i64 room') (.int .i64 steps') (.slice a8 L8.length c8) (.bool armed') (.bool dead') (.int .i64 left')
    have br9 := br8.set k9 (by omega)
    have d0 := bx9.c0; have d1 := bx9.c1; have d2 := bx9.c2; have d3 := bx9.c3; have d4 := bx9.c4; have d5 := bx9.c5
    have r0 := br9.c0; have r1 := br9.c1; have r2 := br9.c2; have r3 := br9.c3; have r4 := br9.c4; have r5 := br9.c5
    have g0 := br9.free 0; have g1 := br9.free 1; have g2 := br9.free 2; have g3 := br9.free 3; have g4 := br9.free 4; have g5 := br9.free 5
    go_wp2_with fail
    obtain ⟨W', hW', hb6, kW'⟩ := set6_ex br9 (.int .i64 room') (.int .i64 steps') (.slice a8 L8.length c8) (.bool armed') (.bool dead') (.int .i64 left')
    rw [hW']
    obtain ⟨z0, z1, z2, z3, z4, z5, _⟩ := hb6
    have kWW : Kp [w.heap.size, w.heap.size + 1] w8 W' := (k9.mono (T := [w.heap.size, w.heap.size + 1]) (fun x hx => .inl (by simp at hx; simp [hx]))).trans kW' (fun x hx => .inl (by simp at hx; simp [hx]))
    have kWf : Kp [] w W' := (kw7.trans k8 (by simp)).trans kWW (fun x hx => .inr (by simp at hx; omega))
    have hsz7 : w.heap.size + 2 ≤ w7.heap.size := by have := k6.size; have := k7.size; simp at *; omega
    refine bodyPost_ret (v := .tuple #[.agg #[.int .i64 room', .int .i64 steps', .slice a8 L8.length c8, .bool armed', .bool dead', .int .i64 left'], .int .i64 0]) (by simp [results, Try.results32, go_sem, z0, z1, z2, z3, z4, z5]) rfl ?_
    have hfm := (lookG_some hlk1).1
    refine RefE.renDone (q := w.heap.size) (n := w7.heap.size) (a7 := a7) (c7 := c7) hr' hL' hrise name ⟨to, f0.ba, f0.bc, f0.bytes, f0.last⟩ ⟨(hr'.see f0 hfm).1.kept kWf (by simp), (hr'.see f0 hfm).2⟩ (fun k hk => .inl (by simp only [RD.foot, List.mem_append, List.mem_flatMap]; exact .inr ⟨f0, hfm, hk⟩)) hL7'.out hL8'.out hf8 hn8 kWf kWW (by omega) (by omega) ?_
    rw [(stepD_files d).1]
    simp [changedF, fileOf_some hld, RF.fl]
  · have kQ : Kp [] w4.drew (w4.drew.alloc (.cells #[.string ⟨#[]⟩, .slice none 0 0, .int .i64 0] 45)) := (Kp.refl _ _).alloc _
    go_simp
    (try go_wp2_with fail)
    refine hK.out _ _ ?_ (fun hHeld => ?_)
    · exact hSk.out _ kQ
    clear hK K
    try simp only [Act.put, List.getElem_toArray, List.getElem_cons_zero, List.getElem_cons_succ, List.setIfInBounds_toArray, List.set_cons_zero, List.set_cons_succ]
    refine wpAnyH_ready (rs := [4]) (by kernel_rfl) (by simp) ?_
    refine AllReadyH.cons rfl (fun K hK => ?_) AllReadyH.nil
    go_simp
    refine (hAt.out _ kQ).mono ?_
    rintro e w5 ⟨rfl, k5⟩
    have bz := (B3.at (w := w4.drew) w4.heap.size rfl (.string ⟨#[]⟩) (.slice none 0 0) (.int .i64 0) 45).kept k5
    have z0 := bz.c0
    have z1 := bz.c1
    have z2 := bz.c2
    have g0 := bz.free 0
    have g1 := bz.free 1
    have g2 := bz.free 2
    have kQ5 : Kp [] w4.drew w5 := kQ.trans k5 (by simp)
    (try go_wp2_with fail)
    refine hK.out _ _ ?_ (fun hHeld => ?_)
    · exact hSk.out _ (kQ.trans k5 (by simp))
    clear hK K
    try simp only [Act.put, List.getElem_toArray, List.getElem_cons_zero, List.getElem_cons_succ, List.setIfInBounds_toArray, List.set_cons_zero, List.set_cons_succ]
    refine wpAnyH_take (i := 5) (v := ?_) rfl (by kernel_rfl) (by kernel_rfl) (by kernel_rfl) (fun _ _ _ h => h) (Or.inl ⟨by rfl, ?_⟩) (by assumption) ?_
    rotate_left
    · intro w hSw; (try dsimp only at hSw); go_simp <;> with_reducible rfl
    try simp only [Act.put, List.getElem_toArray, List.getElem_cons_zero, List.getElem_cons_succ, List.setIfInBounds_toArray, List.set_cons_zero, List.set_cons_succ]
    refine wpAnyH_take (i := 6) (v := ?_) rfl (by kernel_rfl) (by kernel_rfl) (by kernel_rfl) (fun _ _ _ h => h) (Or.inl ⟨by rfl, ?_⟩) (by assumption) ?_
    rotate_left
    · intro w hSw; (try dsimp only at hSw); go_simp <;> with_reducible rfl
    try simp only [Act.put, List.getElem_toArray, List.getElem_cons_zero, List.getElem_cons_succ, List.setIfInBounds_toArray, List.set_cons_zero, List.set_cons_succ]
    refine wpAnyH_ready (rs := [8]) (by kernel_rfl) (by simp) ?_
    refine AllReadyH.cons rfl (fun K hK => ?_) AllReadyH.nil
    go_simp
    (try go_wp2_with fail)
    refine hK.out _ _ ?_ (fun hHeld => ?_)
    · exact hSk.out _ (((kQ5.setCell (p := ⟨w4.heap.size, 0, none⟩) (.inr (Nat.le_refl _)) _).setCell (p := ⟨w4.heap.size, 1, none⟩) (.inr (Nat.le_refl _)) _).setCell (p := ⟨w4.heap.size, 2, none⟩) (.inr (Nat.le_refl _)) _)
    clear hK K
    try simp only [Act.put, List.getElem_toArray, List.getElem_cons_zero, List.getElem_cons_succ, List.setIfInBounds_toArray, List.set_cons_zero, List.set_cons_succ]
    refine wpAnyH_done (by kernel_rfl) ?_ _
    obtain ⟨w6, hw6, b6, k6'⟩ := set3_ex bz (.string ⟨f0.name.toArray⟩) (.slice f0.ba f0.bytes.length f0.bc) (.int .i64 (f0.last : Int))
    have k6 : Kp [] w4.drew w6 := kQ5.trans k6' (fun x hx => .inr (by rw [List.mem_singleton] at hx; subst hx; exact Nat.le_refl _))
    rw [hw6]
    obtain ⟨qf, hqf⟩ : ∃ qf, qf = w4.heap.size := ⟨_, rfl⟩
    rw [← hqf] at b6 ⊢
    have hqf2 : w.heap.size + 2 ≤ qf := by omega
    clear hw6 hqf bz z0 z1 z2 g0 g1 g2 k6'
    have kw6 : Kp [] w w6 := (kw4.drew).trans k6 (by simp)
    have bx6 := bxd.kept k6
    have br6 := (br4.kept (w' := w4.drew) (Kp.refl _ _).drew).kept k6
    clear hHeld hSk hAt x0 x1 x2
    have bx7 := bx6
    have c0 := bx7.c0; have c1 := bx7.c1; have c2 := bx7.c2; have c3 := bx7.c3; have c4 := bx7.c4; have c5 := bx7.c5
    have hWo := cWithout ⟨room', steps', some ⟨g, f, none⟩, fc', l', armed', dead', left'⟩ name w6 (hr'.keptNew kw6) hl1
    simp only [RD.v] at hWo
    go_wp2_with fail
    refine hWo.mono ?_
    rintro e wa ⟨a7, c7, rfl, hf7, ka, hn7⟩
    obtain ⟨L7, hL7⟩ : ∃ L7, L7 = dropG RF.name name l' := ⟨_, rfl⟩
    rw [← hL7] at hf7
    simp only [RD.v, ← hL7]
    have hL7' := hid hL7
    clear hL7 hWo
    have bxa := bx6.kept ka
    have bra := br6.kept ka
    have b6a := b6.kept ka
    have hka := ka.size
    have hk6 := k6.size
    clear c0 c1 c2 c3 c4 c5 bx7
    have c0 := bxa.c0; have c1 := bxa.c1; have c2 := bxa.c2; have c3 := bxa.c3; have c4 := bxa.c4; have c5 := bxa.c5
    have h0 := bxa.free 0; have h1 := bxa.free 1; have h2 := bxa.free 2; have h3 := bxa.free 3; have h4 := bxa.free 4; have h5 := bxa.free 5
    obtain ⟨wc, hwc, bxc, kc⟩ := set6_ex bxa (.int .i64 room') (.int .i64 steps') (.slice a7 L7.length c7) (.bool armed') (.bool dead') (.int .i64 left')
    have hqne : qf ≠ w.heap.size := by omega
    have b6c : B3 wc qf (.string ⟨f0.name.toArray⟩) (.slice f0.ba f0.bytes.length f0.bc) (.int .i64 (f0.last : Int)) := ⟨(kc.cell (p := ⟨qf, 0, none⟩) b6a.lt (by simpa using hqne)).trans b6a.c0, (kc.cell (p := ⟨qf, 1, none⟩) b6a.lt (by simpa using hqne)).trans b6a.c1, (kc.cell (p := ⟨qf, 2, none⟩) b6a.lt (by simpa using hqne)).trans b6a.c2, fun j => (kc.frozen (p := ⟨qf, j, none⟩) b6a.lt (by simpa using hqne)).trans (b6a.free j)⟩
    have brc := bra.set kc (by omega)
    have y0 := b6c.c0; have yf := b6c.free 0
    obtain ⟨w7, hw7⟩ : ∃ w7, wc.setCell ⟨qf, 0, none⟩ (.string ⟨to.toArray⟩) = w7 := ⟨_, rfl⟩
    have k7c : Kp [qf] wc w7 := by rw [← hw7]; exact kpSet _ _ _ _
    have b7 : B3 w7 qf (.string ⟨to.toArray⟩) (.slice f0.ba f0.bytes.length f0.bc) (.int .i64 (f0.last : Int)) := by rw [← hw7]; exact b6c.set0 _
    have bx7 := bxc.set k7c (by omega)
    have br7 := brc.set k7c (by omega)
    have kw7 : Kp [] w w7 := ((kw6.trans ka (by simp)).trans kc (fun x hx => .inr (by simp at hx; omega))).trans k7c (fun x hx => .inr (by simp at hx; omega))
    have k7 : Kp [qf, w.heap.size] w6 w7 := ((ka.mono (T := [qf, w.heap.size]) (by simp)).trans kc (fun x hx => .inl (by simp at hx; simp [hx]))).trans k7c (fun x hx => .inl (by simp at hx; simp [hx]))
    have hfa7 : Fls w7 a7 L7 := hf7.kept (S := [qf, w.heap.size]) ((kc.mono (T := [qf, w.heap.size]) (fun x hx => .inl (by simp at hx; simp [hx]))).trans k7c (fun x hx => .inl (by simp at hx; simp [hx]))) (fun k hk hx => by have h1 := hn7 k hk; have h2 := b6.lt; simp at hx; omega)
    have hr7 : RdOk w7 ⟨room', steps', a7, c7, L7, armed', dead', left'⟩ := ⟨hfa7, fun y hy => by
      have hm : y ∈ l' := (mem_dropG.1 (hL7'.out ▸ hy)).1
      exact ⟨(hr'.see y hm).1.kept kw7 (by simp), (hr'.see y hm).2⟩⟩
    have hl7 : L7.length ≤ 1000000000 := by rw [hL7'.out]; exact Nat.le_trans (List.length_filter_le _ _) hl1
    have v0 := b7.c0; have v1 := b7.c1; have v2 := b7.c2
    have e0 := bx7.c0; have e1' := bx7.c1; have e2' := bx7.c2; have e3' := bx7.c3; have e4 := bx7.c4; have e5 := bx7.c5
    have hW := cWith ⟨room', steps', a7, c7, L7, armed', dead', left'⟩ ⟨to, f0.ba, f0.bc, f0.bytes, f0.last⟩ w7 hr7 hl7
    simp only [RD.v, RF.v] at hW
    go_wp2_with fail
    clear y0 yf hw7 hwc c0 c1 c2 c3 c4 c5 h0 h1 h2 h3 h4 h5 e0 e1' e2' e3' e4 e5
    have c0 := bx7.c0; have c1 := bx7.c1; have c2 := bx7.c2; have c3 := bx7.c3; have c4 := bx7.c4; have c5 := bx7.c5
    refine hW.mono ?_
    rintro e w8 ⟨a8, c8, rfl, hf8, k8, hn8⟩
    obtain ⟨L8, hL8⟩ : ∃ L8, L8 = putG RF.name ⟨to, f0.ba, f0.bc, f0.bytes, f0.last⟩ false L7 := ⟨_, rfl⟩
    rw [← hL8] at hf8
    simp only [RD.v, ← hL8]
    have hL8' := hid hL8
    clear hL8 hW
    have bx8 := bx7.kept k8
    have br8 := br7.kept k8
    clear c0 c1 c2 c3 c4 c5
    have c0 := bx8.c0; have c1 := bx8.c1; have c2 := bx8.c2; have c3 := bx8.c3; have c4 := bx8.c4; have c5 := bx8.c5
    have h0 := bx8.free 0; have h1 := bx8.free 1; have h2 := bx8.free 2; have h3 := bx8.free 3; have h4 := bx8.free 4; have h5 := bx8.free 5
    obtain ⟨w9, hw9, bx9, k9⟩ := set6_ex bx8 (.int .i64 room') (.int .i64 steps') (.slice a8 L8.length c8) (.bool armed') (.bool dead') (.int .i64 left')
    have br9 := br8.set k9 (by omega)
    have d0 := bx9.c0; have d1 := bx9.c1; have d2 := bx9.c2; have d3 := bx9.c3; have d4 := bx9.c4; have d5 := bx9.c5
    have r0 := br9.c0; have r1 := br9.c1; have r2 := br9.c2; have r3 := br9.c3; have r4 := br9.c4; have r5 := br9.c5
    have g0 := br9.free 0; have g1 := br9.free 1; have g2 := br9.free 2; have g3 := br9.free 3; have g4 := br9.free 4; have g5 := br9.free 5
    go_wp2_with fail
    obtain ⟨W', hW', hb6, kW'⟩ := set6_ex br9 (.int .i64 room') (.int .i64 steps') (.slice a8 L8.length c8) (.bool armed') (.bool dead') (.int .i64 left')
    rw [hW']
    obtain ⟨z0, z1, z2, z3, z4, z5, _⟩ := hb6
    have kWW : Kp [w.heap.size, w.heap.size + 1] w8 W' := (k9.mono (T := [w.heap.size, w.heap.size + 1]) (fun x hx => .inl (by simp at hx; simp [hx]))).trans kW' (fun x hx => .inl (by simp at hx; simp [hx]))
    have kWf : Kp [] w W' := (kw7.trans k8 (by simp)).trans kWW (fun x hx => .inr (by simp at hx; omega))
    have hsz7 : w.heap.size + 2 ≤ w7.heap.size := by have := k6.size; have := k7.size; simp at *; omega
    refine bodyPost_ret (v := .tuple #[.agg #[.int .i64 room', .int .i64 steps', .slice a8 L8.length c8, .bool armed', .bool dead', .int .i64 left'], .int .i64 0]) (by simp [results, Try.results32, go_sem, z0, z1, z2, z3, z4, z5]) rfl ?_
    have hfm := (lookG_some hlk1).1
    refine RefE.renDone (q := w.heap.size) (n := w7.heap.size) (a7 := a7) (c7 := c7) hr' hL' hrise name ⟨to, f0.ba, f0.bc, f0.bytes, f0.last⟩ ⟨(hr'.see f0 hfm).1.kept kWf (by simp), (hr'.see f0 hfm).2⟩ (fun k hk => .inl (by simp only [RD.foot, List.mem_append, List.mem_flatMap]; exact .inr ⟨f0, hfm, hk⟩)) hL7'.out hL8'.out hf8 hn8 kWf kWW (by omega) (by omega) ?_
    rw [(stepD_files d).1]
    simp [changedF, fileOf_some hld, RF.fl]
end Go.Proofs.Ytgllkonbgigcbaa
end

section
namespace Go.Proofs.Ytgllkonbgigcbaa
open Go.RowKit Go.Hay
set_option linter.unusedVariables false
set_option linter.unusedSimpArgs false

theorem trunc_range {d : Dk} {name to : List UInt8} {n : Int} {f : Fl} (hld : lookG Fl.name name d.files = some f) (e2 : refusedD d 2 name to n = 0) : 0 ≤ n ∧ n ≤ (f.bytes.length : Int) := by
  unfold refusedD at e2
  rw [hld] at e2
  by_cases h1 : n < 0
  · cases hd : d.dead <;> simp [hd, h1] at e2
  · by_cases h2 : n > (f.bytes.length : Int)
    · cases hd : d.dead <;> simp [hd, h1, h2] at e2
    · exact ⟨by omega, by omega⟩
set_option maxHeartbeats 16000000 in
set_option maxRecDepth 100000 in
theorem cRefDo2 (r : RD) (d : Dk) (w : World) (hr : RdOk w r) (hL : Like r d) (ho : Okd d) (hl : r.l.length ≤ 1000000000) (hst : d.steps < 9000000000000000000) (name to : List UInt8) (hk : name.length ≤ maxLen) (hto : to.length ≤ maxLen) (n : Int) (e2 : refusedD d 2 name to n = 0) (e3 : (stepD d).2 = false) (hB : ∀ f ∈ r.l, f.bytes.length ≤ 140737488355328) :
    Calls Try.prog 32 #[r.v, .int .i64 2, .string ⟨name.toArray⟩, .string ⟨to.toArray⟩, .int .i64 n] w (RefE r.foot (doD d 2 name to n) w) := by
  obtain ⟨w1, hw1, k1, bx, br, hsz⟩ := boxRR r w
  have e1 : doD d 2 name to n = ({ (stepD d).1 with files := changedF d.files 2 name to n }, 0) := by unfold doD; rw [if_neg (by simpa using e2), e3]; simp
  have hc := cRefused r d w1 (hr.keptNew k1) hL hl 2 name to hto n
  rw [e2] at hc
  have hs : 0 ≤ r.steps ∧ r.steps < 9000000000000000000 := by rw [hL.steps]; omega
  have hcs := fun W => cRefStep r W hs
  rw [(like_step hL).2, e3] at hcs
  have hL' := (like_step hL).1
  have hr' := rdStep hr
  have hft := footStep r
  have hsl := (stepR_files r).2
  obtain ⟨f0, hlk⟩ : ∃ f0, lookG RF.name name r.l = some f0 := by
    cases hq : lookG RF.name name r.l with
    | some f0 => exact ⟨f0, rfl⟩
    | none => have := hL.look name; rw [hq] at this; unfold refusedD at e2; simp [this] at e2; split at e2 <;> cases e2
  have hld : lookG Fl.name name d.files = some f0.fl := by rw [hL.look name, hlk]; rfl
  obtain ⟨r1, hr1⟩ : ∃ r1, r1 = (stepR r).1 := ⟨_, rfl⟩
  rw [← hr1] at hcs hL' hr' hft hsl
  have hlk1 : lookG RF.name name r1.l = some f0 := by rw [hsl]; exact hlk
  have hl1 : r1.l.length ≤ 1000000000 := by rw [hsl]; exact hl
  have hB1 : ∀ f ∈ r1.l, f.bytes.length ≤ 140737488355328 := by rw [hsl]; exact hB
  rw [e1, ← hft]
  clear hr1 e1 hr e3 hs hlk hl hB hft hsl
  have hrise : riseG RF.name r1.l := hL'.rise (okStep ho)
  obtain ⟨room, steps, fa, fc, l, armed, dead, left⟩ := r
  obtain ⟨room', steps', fa', fc', l', armed', dead', left'⟩ := r1
  simp only [RD.v] at *
  have b0 := bx.c0; have b1 := bx.c1; have b2 := bx.c2; have b3 := bx.c3; have b4 := bx.c4; have b5 := bx.c5
  go_enter Try.func32, Try.ntmps32
  go_wp2_with fail
  refine hc.mono ?_
  rintro e w2 ⟨rfl, k2⟩
  have bx2 := bx.kept k2
  have br2 := br.kept k2
  have b0 := bx2.c0; have b1 := bx2.c1; have b2 := bx2.c2; have b3 := bx2.c3; have b4 := bx2.c4; have b5 := bx2.c5
  go_wp2_with fail
  refine (hcs _).mono ?_
  rintro e w3 ⟨rfl, k3⟩
  have bx3 := bx2.kept k3
  have br3 := br2.kept k3
  clear b0 b1 b2 b3 b4 b5
  have b0 := bx3.c0; have b1 := bx3.c1; have b2 := bx3.c2; have b3 := bx3.c3; have b4 := bx3.c4; have b5 := bx3.c5
  have f0' := bx3.free 0; have f1' := bx3.free 1; have f2' := bx3.free 2; have f3' := bx3.free 3; have f4' := bx3.free 4; have f5' := bx3.free 5
  obtain ⟨w4, hw4, bx4, k4⟩ := set6_ex bx3 (.int .i64 room') (.int .i64 steps') (.slice fa' l'.length fc') (.bool armed') (.bool dead') (.int .i64 left')
  have br4 := br3.set k4 (by omega)
  have kw4 : Kp [] w w4 := (((k1.trans k2 (by simp)).trans k3 (by simp)).trans k4 (fun x hx => .inr (by simp at hx; omega)))
  have hr4 := hr'.keptNew kw4
  obtain ⟨j0, hj0⟩ : ∃ j0, l'[j0]? = some f0 := List.mem_iff_getElem?.1 (lookG_some hlk1).1
  obtain ⟨g, f, hfa, x0, x1, x2⟩ := hr4.fls.at hj0
  subst hfa
  have hjl : j0 < l'.length := (List.getElem?_eq_some_iff.1 hj0).1
  have hjA : (0 : Int) ≤ (j0 : Int) := by omega
  have hjB : (j0 : Int) < (l'.length : Int) := by omega
  have hAt : Hid (∀ A, Kp [] w4.drew A → Calls Try.prog 44 #[.agg #[.int .i64 room', .int .i64 steps', .slice (some ⟨g, f, none⟩) l'.length fc', .bool armed', .bool dead', .int .i64 left'], .string ⟨name.toArray⟩] A fun e A' => e = .returned (.int .i64 (j0 : Int)) ∧ Kp [] A A') := fun A kA => (cAt ⟨room', steps', some ⟨g, f, none⟩, fc', l', armed', dead', left'⟩ name A (hr4.keptNew ((Kp.refl [] w4).drew.trans kA (by simp))) (by simp only; omega)).mono fun e A' h => by
    obtain ⟨hk, ⟨j, x, he, hx, hxl⟩ | ⟨_, hno⟩⟩ := h
    · have : j = j0 := rise_inj hrise hx hj0 (by simp only at hxl hlk1; rw [hxl] at hlk1; cases hlk1; rfl)
      subst this
      exact ⟨he, hk⟩
    · simp only at hno hlk1; rw [hno] at hlk1; cases hlk1
  have hsz4 : w.heap.size + 2 ≤ w4.heap.size := by have := k2.size; have := k3.size; have := k4.size; omega
  clear hc hcs
  go_wp2_with fail
  clear b0 b1 b2 b3 b4 b5 f0' f1' f2' f3' f4' f5'
  have bxd := bx4.kept (w' := w4.drew) (Kp.refl _ _).drew
  have hSk : Hid (∀ A, Kp [] w4.drew A → A.cell? ⟨w.heap.size, 0, none⟩ = some (.int .i64 room') ∧ A.cell? ⟨w.heap.size, 1, none⟩ = some (.int .i64 steps') ∧ A.cell? ⟨w.heap.size, 2, none⟩ = some (.slice (some ⟨g, f, none⟩) l'.length fc') ∧ A.cell? ⟨w.heap.size, 3, none⟩ = some (.bool armed') ∧ A.cell? ⟨w.heap.size, 4, none⟩ = some (.bool dead') ∧ A.cell? ⟨w.heap.size, 5, none⟩ = some (.int .i64 left') ∧ A.cell? ⟨g, f + j0 * 3, none⟩ = some (.string ⟨f0.name.toArray⟩) ∧ A.cell? ⟨g, f + j0 * 3 + 1, none⟩ = some (.slice f0.ba f0.bytes.length f0.bc) ∧ A.cell? ⟨g, f + j0 * 3 + 2, none⟩ = some (.int .i64 (f0.last : Int))) := fun A kA => by
    have h := bxd.kept kA
    have kk : Kp [] w4 A := (Kp.refl [] w4).drew.trans kA (by simp)
    exact ⟨h.c0, h.c1, h.c2, h.c3, h.c4, h.c5, cell_kp kk x0, cell_kp kk x1, cell_kp kk x2⟩
  refine wp_region_held_drew (S := (fun w' => w'.cell? ⟨w.heap.size, 0, none⟩ = some (.int .i64 room') ∧ w'.cell? ⟨w.heap.size, 1, none⟩ = some (.int .i64 steps') ∧ w'.cell? ⟨w.heap.size, 2, none⟩ = some (.slice (some ⟨g, f, none⟩) l'.length fc') ∧ w'.cell? ⟨w.heap.size, 3, none⟩ = some (.bool armed') ∧ w'.cell? ⟨w.heap.size, 4, none⟩ = some (.bool dead') ∧ w'.cell? ⟨w.heap.size, 5, none⟩ = some (.int .i64 left') ∧ w'.cell? ⟨g, f + j0 * 3, none⟩ = some (.string ⟨f0.name.toArray⟩) ∧ w'.cell? ⟨g, f + j0 * 3 + 1, none⟩ = some (.slice f0.ba f0.bytes.length f0.bc) ∧ w'.cell? ⟨g, f + j0 * 3 + 2, none⟩ = some (.int .i64 (f0.last : Int)))) (by kernel_rfl) ?_ (fun hHeld => ?_)
  · exact hSk.out _ (Kp.refl _ _)
  refine wpAnyH_take (i := 0) (v := ?_) rfl (by kernel_rfl) (by kernel_rfl) (by kernel_rfl) (fun _ _ _ h => h) (Or.inl ⟨by rfl, ?_⟩) (by assumption) ?_
  rotate_left
  · intro w hSw; (try dsimp only at hSw); go_simp <;> with_reducible rfl
  try simp only [Act.put, List.getElem_toArray, List.getElem_cons_zero, List.getElem_cons_succ, List.setIfInBounds_toArray, List.set_cons_zero, List.set_cons_succ]
  refine wpAnyH_take (i := 1) (v := ?_) rfl (by kernel_rfl) (by kernel_rfl) (by kernel_rfl) (fun _ _ _ h => h) (Or.inl ⟨by rfl, ?_⟩) (by assumption) ?_
  rotate_left
  · intro w hSw; (try dsimp only at hSw); go_simp <;> with_reducible rfl
  try simp only [Act.put, List.getElem_toArray, List.getElem_cons_zero, List.getElem_cons_succ, List.setIfInBounds_toArray, List.set_cons_zero, List.set_cons_succ]
  refine wpAnyH_take (i := 2) (v := ?_) rfl (by kernel_rfl) (by kernel_rfl) (by kernel_rfl) (fun _ _ _ h => h) (Or.inl ⟨by rfl, ?_⟩) (by assumption) ?_
  rotate_left
  · intro w hSw; (try dsimp only at hSw); go_simp <;> with_reducible rfl
  try simp only [Act.put, List.getElem_toArray, List.getElem_cons_zero, List.getElem_cons_succ, List.setIfInBounds_toArray, List.set_cons_zero, List.set_cons_succ]
  refine wpAnyH_take (i := 3) (v := ?_) rfl (by kernel_rfl) (by kernel_rfl) (by kernel_rfl) (fun _ _ _ h => h) (Or.inl ⟨by rfl, ?_⟩) (by assumption) ?_
  rotate_left
  · intro w hSw; (try dsimp only at hSw); go_simp <;> with_reducible rfl
  try simp only [Act.put, List.getElem_toArray, List.getElem_cons_zero, List.getElem_cons_succ, List.setIfInBounds_toArray, List.set_cons_zero, List.set_cons_succ]
  refine wpAnyH_ready (rs := [4, 7]) (by kernel_rfl) (by simp) ?_
  refine AllReadyH.cons rfl (fun K hK => ?_) (AllReadyH.cons rfl (fun K hK => ?_) AllReadyH.nil)
  · have kQ : Kp [] w4.drew w4.drew := Kp.refl _ _
    go_simp
    refine (hAt.out _ kQ).mono ?_
    rintro e w5 ⟨rfl, k5⟩
    (try go_wp2_with fail)
    refine hK.out _ _ ?_ (fun hHeld => ?_)
    · exact hSk.out _ k5
    clear hK K
    try simp only [Act.put, List.getElem_toArray, List.getElem_cons_zero, List.getElem_cons_succ, List.setIfInBounds_toArray, List.set_cons_zero, List.set_cons_succ]
    refine wpAnyH_take (i := 5) (v := ?_) rfl (by kernel_rfl) (by kernel_rfl) (by kernel_rfl) (fun _ _ _ h => h) (Or.inl ⟨by rfl, ?_⟩) (by assumption) ?_
    rotate_left
    · intro w hSw; (try dsimp only at hSw); go_simp <;> with_reducible rfl
    try simp only [Act.put, List.getElem_toArray, List.getElem_cons_zero, List.getElem_cons_succ, List.setIfInBounds_toArray, List.set_cons_zero, List.set_cons_succ]
    refine wpAnyH_take (i := 6) (v := ?_) rfl (by kernel_rfl) (by kernel_rfl) (by kernel_rfl) (fun _ _ _ h => h) (Or.inl ⟨by rfl, ?_⟩) (by assumption) ?_
    rotate_left
    · intro w hSw; (try dsimp only at hSw); go_simp <;> with_reducible rfl
    try simp only [Act.put, List.getElem_toArray, List.getElem_cons_zero, List.getElem_cons_succ, List.setIfInBounds_toArray, List.set_cons_zero, List.set_cons_succ]
    refine wpAnyH_ready (rs := [7]) (by kernel_rfl) (by simp) ?_
    refine AllReadyH.cons rfl (fun K hK => ?_) AllReadyH.nil
    go_simp
    (try go_wp2_with fail)
    refine hK.out _ _ ?_ (fun hHeld => ?_)
    · exact hSk.out _ (k5.alloc _)
    clear hK K
    try simp only [Act.put, List.getElem_toArray, List.getElem_cons_zero, List.getElem_cons_succ, List.setIfInBounds_toArray, List.set_cons_zero, List.set_cons_succ]
    refine wpAnyH_ready (rs := [8]) (by kernel_rfl) (by simp) ?_
    refine AllReadyH.cons rfl (fun K hK => ?_) AllReadyH.nil
    go_simp
    (try go_wp2_with fail)
    refine hK.out _ _ ?_ (fun hHeld => ?_)
    · exact hSk.out _ (k5.alloc _)
    clear hK K
    try simp only [Act.put, List.getElem_toArray, List.getElem_cons_zero, List.getElem_cons_succ, List.setIfInBounds_toArray, List.set_cons_zero, List.set_cons_succ]
    refine wpAnyH_done (by kernel_rfl) ?_ _
    obtain ⟨w6, hw6⟩ : ∃ w6, w5.alloc (.cells #[.string ⟨f0.name.toArray⟩, .slice f0.ba f0.bytes.length f0.bc, .int .i64 (f0.last : Int)] 45) = w6 := ⟨_, rfl⟩
    have k6 : Kp [] w4.drew w6 := by rw [← hw6]; exact k5.alloc _
    obtain ⟨qf, hqf⟩ : ∃ qf, qf = w5.heap.size := ⟨_, rfl⟩
    have b6 : B3 w6 qf (.string ⟨f0.name.toArray⟩) (.slice f0.ba f0.bytes.length f0.bc) (.int .i64 (f0.last : Int)) := by rw [← hw6]; exact B3.at qf hqf.symm _ _ _ _
    have hqf2 : w.heap.size + 2 ≤ qf := by have := k5.size; simp at this; omega
    rw [hw6, ← hqf]
    clear hw6 hqf
    have kw6 : Kp [] w w6 := (kw4.drew).trans k6 (by simp)
    have bx6 := bxd.kept k6
    have br6 := (br4.kept (w' := w4.drew) (Kp.refl _ _).drew).kept k6
    clear hHeld hSk hAt x0 x1 x2
    have hfm := (lookG_some hlk1).1
    have hsee := hr'.see f0 hfm
    obtain ⟨kn, hkn⟩ : ∃ kn : Nat, n = kn ∧ kn ≤ f0.bytes.length := by
      have h := trunc_range hld e2
      simp only [RF.fl] at h
      exact ⟨n.toNat, by omega, by omega⟩
    obtain ⟨rfl, hkl⟩ := hkn
    have hbc := hsee.2.2
    have hnl := hsee.2.1
    have n0 : (0 : Int) ≤ (kn : Int) := by omega
    have n1 : (kn : Int) ≤ (f0.bc : Int) := by omega
    have y0 := b6.c0; have y1 := b6.c1; have y2 := b6.c2
    have hbf := hB1 f0 hfm
    have hjo := cJoined f0.ba none f0.bc 0 (f0.bytes.take kn) [] w6 ((hsee.1.kept kw6 (by simp)).front kn) (Sees.nil _ _) (by simp; omega)
    have etl : (f0.bytes.take kn).length = kn := by simp; omega
    rw [etl] at hjo
    simp only [List.length_nil, List.append_nil] at hjo
    clear e2
    go_wp2_with fail
    refine hjo.mono ?_
    rintro e wa ⟨ja, jc, rfl, hja, ka, hjn⟩
    obtain ⟨ys, hys⟩ : ∃ ys, Hid (ys = f0.bytes.take kn) := ⟨_, rfl⟩
    rw [← hys.out] at hja ⊢
    have b6a := b6.kept ka
    have p1 := b6a.c1
    have pf1 := b6a.free 1
    have pf2 := b6a.free 2
    obtain ⟨wc, hwc⟩ : ∃ wc, wa.setCell ⟨qf, 1, none⟩ (.slice ja ys.length jc) = wc := ⟨_, rfl⟩
    have b6c : B3 wc qf (.string ⟨f0.name.toArray⟩) (.slice ja ys.length jc) (.int .i64 (f0.last : Int)) := by rw [← hwc]; exact b6a.set1 _
    have kc : Kp [qf] wa wc := by rw [← hwc]; exact kpSet _ _ _ _
    have p2 := b6c.c2
    have pf3 := b6c.free 2
    obtain ⟨w7, hw7⟩ : ∃ w7, wc.setCell ⟨qf, 2, none⟩ (.int .i64 (min (f0.last : Int) (kn : Int))) = w7 := ⟨_, rfl⟩
    have k7c : Kp [qf] wc w7 := by rw [← hw7]; exact kpSet _ _ _ _
    have b7 : B3 w7 qf (.string ⟨f0.name.toArray⟩) (.slice ja ys.length jc) (.int .i64 (min (f0.last : Int) (kn : Int))) := by rw [← hw7]; exact b6c.set2 _
    have k7 : Kp [qf] w6 w7 := ((ka.mono (T := [qf]) (by simp)).trans kc (fun x hx => .inl hx)).trans k7c (fun x hx => .inl hx)
    have bx7 := bx6.set k7 (by omega)
    have br7 := br6.set k7 (by omega)
    have kw7 : Kp [] w w7 := kw6.trans k7 (fun x hx => .inr (by simp at hx; omega))
    have hmin : ((min f0.last kn : Nat) : Int) = min (f0.last : Int) (kn : Int) := by omega
    have hW := cWith ⟨room', steps', some ⟨g, f, none⟩, fc', l', armed', dead', left'⟩ ⟨f0.name, ja, jc, ys, min f0.last kn⟩ w7 (hr'.keptNew kw7) hl1
    simp only [RD.v, RF.v, hmin] at hW
    have v0 := b7.c0; have v1 := b7.c1; have v2 := b7.c2
    have hqf6 := b6.lt
    obtain ⟨_, _, eja, hsj, hnj, hlj⟩ := Row.parts hja
    cases eja
    have c0 := bx7.c0; have c1 := bx7.c1; have c2 := bx7.c2; have c3 := bx7.c3; have c4 := bx7.c4; have c5 := bx7.c5
    have hminh := hid hmin
    clear hjo y0 y1 y2 hmin
    go_wp2_with fail
    clear p1 pf1 p2 pf2 pf3 hw7 hwc
    refine hW.mono ?_
    rintro e w8 ⟨a8, c8, rfl, hf8, k8, hn8⟩
    obtain ⟨L8, hL8⟩ : ∃ L8, L8 = putG RF.name ⟨f0.name, ja, jc, ys, min f0.last kn⟩ false l' := ⟨_, rfl⟩
    rw [← hL8] at hf8
    simp only [RD.v, ← hL8]
    have hL8' := hid hL8
    clear hL8 hW
    have bx8 := bx7.kept k8
    have br8 := br7.kept k8
    clear c0 c1 c2 c3 c4 c5
    have c0 := bx8.c0; have c1 := bx8.c1; have c2 := bx8.c2; have c3 := bx8.c3; have c4 := bx8.c4; have c5 := bx8.c5
    have h0 := bx8.free 0; have h1 := bx8.free 1; have h2 := bx8.free 2; have h3 := bx8.free 3; have h4 := bx8.free 4; have h5 := bx8.free 5
    obtain ⟨w9, hw9, bx9, k9⟩ := set6_ex bx8 (.int .i64 room') (.int .i64 steps') (.slice a8 L8.length c8) (.bool armed') (.bool dead') (.int .i64 left')
    have br9 := br8.set k9 (by omega)
    have d0 := bx9.c0; have d1 := bx9.c1; have d2 := bx9.c2; have d3 := bx9.c3; have d4 := bx9.c4; have d5 := bx9.c5
    have r0 := br9.c0; have r1 := br9.c1; have r2 := br9.c2; have r3 := br9.c3; have r4 := br9.c4; have r5 := br9.c5
    have g0 := br9.free 0; have g1 := br9.free 1; have g2 := br9.free 2; have g3 := br9.free 3; have g4 := br9.free 4; have g5 := br9.free 5
    go_wp2_with fail
    obtain ⟨W', hW', hb6, kW'⟩ := set6_ex br9 (.int .i64 room') (.int .i64 steps') (.slice a8 L8.length c8) (.bool armed') (.bool dead') (.int .i64 left')
    rw [hW']
    obtain ⟨z0, z1, z2, z3, z4, z5, _⟩ := hb6
    have kWW : Kp [w.heap.size, w.heap.size + 1] w8 W' := (k9.mono (T := [w.heap.size, w.heap.size + 1]) (fun x hx => .inl (by simp at hx; simp [hx]))).trans kW' (fun x hx => .inl (by simp at hx; simp [hx]))
    have kWf : Kp [] w W' := (kw7.trans k8 (by simp)).trans kWW (fun x hx => .inr (by simp at hx; omega))
    have hsz7 : w.heap.size + 2 ≤ w7.heap.size := by have := k6.size; have := k7.size; simp at *; omega
    refine bodyPost_ret (v := .tuple #[.agg #[.int .i64 room', .int .i64 steps', .slice a8 L8.length c8, .bool armed', .bool dead', .int .i64 left'], .int .i64 0]) (by simp [results, Try.results32, go_sem, z0, z1, z2, z3, z4, z5]) rfl ?_
    have hka6 := ka.size
    have kaW : Kp [qf, w.heap.size, w.heap.size + 1] wa W' := (((kc.mono (T := [qf, w.heap.size, w.heap.size + 1]) (fun x hx => .inl (by simp at hx; simp [hx]))).trans k7c (fun x hx => .inl (by simp at hx; simp [hx]))).trans k8 (by simp)).trans kWW (fun x hx => .inl (by simp at hx; simp [hx]))
    refine RefE.putDone (q := w.heap.size) (n := w7.heap.size) hr' hL' hrise ⟨f0.name, ja, jc, ys, min f0.last kn⟩ ⟨hsj.kept kaW (fun k hk hx => by have := hjn k hk; simp at hx; omega), hnj, hlj⟩ (fun k hk => .inr (by have := hjn k (mem_ft hk); have := kw6.size; omega)) hL8'.out hf8 hn8 kWf kWW (by omega) (by omega) ?_
    rw [(stepD_files d).1]
    simp [changedF, fileOf_some hld, RF.fl, hys.out]
  · have kQ : Kp [] w4.drew (w4.drew.alloc (.cells #[.string ⟨#[]⟩, .slice none 0 0, .int .i64 0] 45)) := (Kp.refl _ _).alloc _
    go_simp
    (try go_wp2_with fail)
    refine hK.out _ _ ?_ (fun hHeld => ?_)
    · exact hSk.out _ kQ
    clear hK K
    try simp only [Act.put, List.getElem_toArray, List.getElem_cons_zero, List.getElem_cons_succ, List.setIfInBounds_toArray, List.set_cons_zero, List.set_cons_succ]
    refine wpAnyH_ready (rs := [4]) (by kernel_rfl) (by simp) ?_
    refine AllReadyH.cons rfl (fun K hK => ?_) AllReadyH.nil
    go_simp
    refine (hAt.out _ kQ).mono ?_
    rintro e w5 ⟨rfl, k5⟩
    have bz := (B3.at (w := w4.drew) w4.heap.size rfl (.string ⟨#[]⟩) (.slice none 0 0) (.int .i64 0) 45).kept k5
    have z0 := bz.c0
    have z1 := bz.c1
    have z2 := bz.c2
    have g0 := bz.free 0
    have g1 := bz.free 1
    have g2 := bz.free 2
    have kQ5 : Kp [] w4.drew w5 := kQ.trans k5 (by simp)
    (try go_wp2_with fail)
    refine hK.out _ _ ?_ (fun hHeld => ?_)
    · exact hSk.out _ (kQ.trans k5 (by simp))
    clear hK K
    try simp only [Act.put, List.getElem_toArray, List.getElem_cons_zero, List.getElem_cons_succ, List.setIfInBounds_toArray, List.set_cons_zero, List.set_cons_succ]
    refine wpAnyH_take (i := 5) (v := ?_) rfl (by kernel_rfl) (by kernel_rfl) (by kernel_rfl) (fun _ _ _ h => h) (Or.inl ⟨by rfl, ?_⟩) (by assumption) ?_
    rotate_left
    · intro w hSw; (try dsimp only at hSw); go_simp <;> with_reducible rfl
    try simp only [Act.put, List.getElem_toArray, List.getElem_cons_zero, List.getElem_cons_succ, List.setIfInBounds_toArray, List.set_cons_zero, List.set_cons_succ]
    refine wpAnyH_take (i := 6) (v := ?_) rfl (by kernel_rfl) (by kernel_rfl) (by kernel_rfl) (fun _ _ _ h => h) (Or.inl ⟨by rfl, ?_⟩) (by assumption) ?_
    rotate_left
    · intro w hSw; (try dsimp only at hSw); go_simp <;> with_reducible rfl
    try simp only [Act.put, List.getElem_toArray, List.getElem_cons_zero, List.getElem_cons_succ, List.setIfInBounds_toArray, List.set_cons_zero, List.set_cons_succ]
    refine wpAnyH_ready (rs := [8]) (by kernel_rfl) (by simp) ?_
    refine AllReadyH.cons rfl (fun K hK => ?_) AllReadyH.nil
    go_simp
    (try go_wp2_with fail)
    refine hK.out _ _ ?_ (fun hHeld => ?_)
    · exact hSk.out _ (((kQ5.setCell (p := ⟨w4.heap.size, 0, none⟩) (.inr (Nat.le_refl _)) _).setCell (p := ⟨w4.heap.size, 1, none⟩) (.inr (Nat.le_refl _)) _).setCell (p := ⟨w4.heap.size, 2, none⟩) (.inr (Nat.le_refl _)) _)
    clear hK K
    try simp only [Act.put, List.getElem_toArray, List.getElem_cons_zero, List.getElem_cons_succ, List.setIfInBounds_toArray, List.set_cons_zero, List.set_cons_succ]
    refine wpAnyH_done (by kernel_rfl) ?_ _
    obtain ⟨w6, hw6, b6, k6'⟩ := set3_ex bz (.string ⟨f0.name.toArray⟩) (.slice f0.ba f0.bytes.length f0.bc) (.int .i64 (f0.last : Int))
    have k6 : Kp [] w4.drew w6 := kQ5.trans k6' (fun x hx => .inr (by rw [List.mem_singleton] at hx; subst hx; exact Nat.le_refl _))
    rw [hw6]
    obtain ⟨qf, hqf⟩ : ∃ qf, qf = w4.heap.size := ⟨_, rfl⟩
    rw [← hqf] at b6 ⊢
    have hqf2 : w.heap.size + 2 ≤ qf := by omega
    clear hw6 hqf bz z0 z1 z2 g0 g1 g2 k6'
    have kw6 : Kp [] w w6 := (kw4.drew).trans k6 (by simp)
    have bx6 := bxd.kept k6
    have br6 := (br4.kept (w' := w4.drew) (Kp.refl _ _).drew).kept k6
    clear hHeld hSk hAt x0 x1 x2
    have hfm := (lookG_some hlk1).1
    have hsee := hr'.see f0 hfm
    obtain ⟨kn, hkn⟩ : ∃ kn : Nat, n = kn ∧ kn ≤ f0.bytes.length := by
      have h := trunc_range hld e2
      simp only [RF.fl] at h
      exact ⟨n.toNat, by omega, by omega⟩
    obtain ⟨rfl, hkl⟩ := hkn
    have hbc := hsee.2.2
    have hnl := hsee.2.1
    have n0 : (0 : Int) ≤ (kn : Int) := by omega
    have n1 : (kn : Int) ≤ (f0.bc : Int) := by omega
    have y0 := b6.c0; have y1 := b6.c1; have y2 := b6.c2
    have hbf := hB1 f0 hfm
    have hjo := cJoined f0.ba none f0.bc 0 (f0.bytes.take kn) [] w6 ((hsee.1.kept kw6 (by simp)).front kn) (Sees.nil _ _) (by simp; omega)
    have etl : (f0.bytes.take kn).length = kn := by simp; omega
    rw [etl] at hjo
    simp only [List.length_nil, List.append_nil] at hjo
    clear e2
    go_wp2_with fail
    refine hjo.mono ?_
    rintro e wa ⟨ja, jc, rfl, hja, ka, hjn⟩
    obtain ⟨ys, hys⟩ : ∃ ys, Hid (ys = f0.bytes.take kn) := ⟨_, rfl⟩
    rw [← hys.out] at hja ⊢
    have b6a := b6.kept ka
    have p1 := b6a.c1
    have pf1 := b6a.free 1
    have pf2 := b6a.free 2
    obtain ⟨wc, hwc⟩ : ∃ wc, wa.setCell ⟨qf, 1, none⟩ (.slice ja ys.length jc) = wc := ⟨_, rfl⟩
    have b6c : B3 wc qf (.string ⟨f0.name.toArray⟩) (.slice ja ys.length jc) (.int .i64 (f0.last : Int)) := by rw [← hwc]; exact b6a.set1 _
    have kc : Kp [qf] wa wc := by rw [← hwc]; exact kpSet _ _ _ _
    have p2 := b6c.c2
    have pf3 := b6c.free 2
    obtain ⟨w7, hw7⟩ : ∃ w7, wc.setCell ⟨qf, 2, none⟩ (.int .i64 (min (f0.last : Int) (kn : Int))) = w7 := ⟨_, rfl⟩
    have k7c : Kp [qf] wc w7 := by rw [← hw7]; exact kpSet _ _ _ _
    have b7 : B3 w7 qf (.string ⟨f0.name.toArray⟩) (.slice ja ys.length jc) (.int .i64 (min (f0.last : Int) (kn : Int))) := by rw [← hw7]; exact b6c.set2 _
    have k7 : Kp [qf] w6 w7 := ((ka.mono (T := [qf]) (by simp)).trans kc (fun x hx => .inl hx)).trans k7c (fun x hx => .inl hx)
    have bx7 := bx6.set k7 (by omega)
    have br7 := br6.set k7 (by omega)
    have kw7 : Kp [] w w7 := kw6.trans k7 (fun x hx => .inr (by simp at hx; omega))
    have hmin : ((min f0.last kn : Nat) : Int) = min (f0.last : Int) (kn : Int) := by omega
    have hW := cWith ⟨room', steps', some ⟨g, f, none⟩, fc', l', armed', dead', left'⟩ ⟨f0.name, ja, jc, ys, min f0.last kn⟩ w7 (hr'.keptNew kw7) hl1
    simp only [RD.v, RF.v, hmin] at hW
    have v0 := b7.c0; have v1 := b7.c1; have v2 := b7.c2
    have hqf6 := b6.lt
    obtain ⟨_, _, eja, hsj, hnj, hlj⟩ := Row.parts hja
    cases eja
    have c0 := bx7.c0; have c1 := bx7.c1; have c2 := bx7.c2; have c3 := bx7.c3; have c4 := bx7.c4; have c5 := bx7.c5
    have hminh := hid hmin
    clear hjo y0 y1 y2 hmin
    go_wp2_with fail
    clear p1 pf1 p2 pf2 pf3 hw7 hwc
    refine hW.mono ?_
    rintro e w8 ⟨a8, c8, rfl, hf8, k8, hn8⟩
    obtain ⟨L8, hL8⟩ : ∃ L8, L8 = putG RF.name ⟨f0.name, ja, jc, ys, min f0.last kn⟩ false l' := ⟨_, rfl⟩
    rw [← hL8] at hf8
    simp only [RD.v, ← hL8]
    have hL8' := hid hL8
    clear hL8 hW
    have bx8 := bx7.kept k8
    have br8 := br7.kept k8
    clear c0 c1 c2 c3 c4 c5
    have c0 := bx8.c0; have c1 := bx8.c1; have c2 := bx8.c2; have c3 := bx8.c3; have c4 := bx8.c4; have c5 := bx8.c5
    have h0 := bx8.free 0; have h1 := bx8.free 1; have h2 := bx8.free 2; have h3 := bx8.free 3; have h4 := bx8.free 4; have h5 := bx8.free 5
    obtain ⟨w9, hw9, bx9, k9⟩ := set6_ex bx8 (.int .i64 room') (.int .i64 steps') (.slice a8 L8.length c8) (.bool armed') (.bool dead') (.int .i64 left')
    have br9 := br8.set k9 (by omega)
    have d0 := bx9.c0; have d1 := bx9.c1; have d2 := bx9.c2; have d3 := bx9.c3; have d4 := bx9.c4; have d5 := bx9.c5
    have r0 := br9.c0; have r1 := br9.c1; have r2 := br9.c2; have r3 := br9.c3; have r4 := br9.c4; have r5 := br9.c5
    have g0 := br9.free 0; have g1 := br9.free 1; have g2 := br9.free 2; have g3 := br9.free 3; have g4 := br9.free 4; have g5 := br9.free 5
    go_wp2_with fail
    obtain ⟨W', hW', hb6, kW'⟩ := set6_ex br9 (.int .i64 room') (.int .i64 steps') (.slice a8 L8.length c8) (.bool armed') (.bool dead') (.int .i64 left')
    rw [hW']
    obtain ⟨z0, z1, z2, z3, z4, z5, _⟩ := hb6
    have kWW : Kp [w.heap.size, w.heap.size + 1] w8 W' := (k9.mono (T := [w.heap.size, w.heap.size + 1]) (fun x hx => .inl (by simp at hx; simp [hx]))).trans kW' (fun x hx => .inl (by simp at hx; simp [hx]))
    have kWf : Kp [] w W' := (kw7.trans k8 (by simp)).trans kWW (fun x hx => .inr (by simp at hx; omega))
    have hsz7 : w.heap.size + 2 ≤ w7.heap.size := by have := k6.size; have := k7.size; simp at *; omega
    refine bodyPost_ret (v := .tuple #[.agg #[.int .i64 room', .int .i64 steps', .slice a8 L8.length c8, .bool armed', .bool dead', .int .i64 left'], .int .i64 0]) (by simp [results, Try.results32, go_sem, z0, z1, z2, z3, z4, z5]) rfl ?_
    have hka6 := ka.size
    have kaW : Kp [qf, w.heap.size, w.heap.size + 1] wa W' := (((kc.mono (T := [qf, w.heap.size, w.heap.size + 1]) (fun x hx => .inl (by simp at hx; simp [hx]))).trans k7c (fun x hx => .inl (by simp at hx; simp [hx]))).trans k8 (by simp)).trans kWW (fun x hx => .inl (by simp at hx; simp [hx]))
    refine RefE.putDone (q := w.heap.size) (n := w7.heap.size) hr' hL' hrise ⟨f0.name, ja, jc, ys, min f0.last kn⟩ ⟨hsj.kept kaW (fun k hk hx => by have := hjn k hk; simp at hx; omega), hnj, hlj⟩ (fun k hk => .inr (by have := hjn k (mem_ft hk); have := kw6.size; omega)) hL8'.out hf8 hn8 kWf kWW (by omega) (by omega) ?_
    rw [(stepD_files d).1]
    simp [changedF, fileOf_some hld, RF.fl, hys.out]
end Go.Proofs.Ytgllkonbgigcbaa
end

section
namespace Go.Proofs.Ytgllkonbgigcbaa
open Go.RowKit Go.Hay
set_option linter.unusedVariables false

theorem cRefDo (r : RD) (d : Dk) (w : World) (hr : RdOk w r) (hL : Like r d) (ho : Okd d) (hl : r.l.length ≤ 1000000000) (hst : d.steps < 9000000000000000000) (call : Int) (hc : call = 1 ∨ call = 2 ∨ call = 3 ∨ call = 4) (name to : List UInt8) (hk : name.length ≤ maxLen) (hto : to.length ≤ maxLen) (n : Int) (hB : ∀ f ∈ r.l, f.bytes.length ≤ 140737488355328) :
    Calls Try.prog 32 #[r.v, .int .i64 call, .string ⟨name.toArray⟩, .string ⟨to.toArray⟩, .int .i64 n] w (RefE r.foot (doD d call name to n) w) := by
  by_cases e2 : refusedD d call name to n = 0
  · cases e3 : (stepD d).2 with
    | true => exact cRefDoS r d w hr hL hl hst call name to hto n e2 e3
    | false =>
      rcases hc with rfl | rfl | rfl | rfl
      · exact cRefDo1 r d w hr hL ho hl hst name to hk hto n e2 e3 hB
      · exact cRefDo2 r d w hr hL ho hl hst name to hk hto n e2 e3 hB
      · exact cRefDo3 r d w hr hL ho hl hst name to hk hto n e2 e3 hB
      · exact cRefDo4 r d w hr hL ho hl hst name to hk hto n e2 e3 hB
  · exact cRefDoR r d w hr hL hl call name to hto n e2
end Go.Proofs.Ytgllkonbgigcbaa
end

section
namespace Go.Proofs.Ytgllkonbgigcbaa
open Go.RowKit Go.Hay
set_option linter.unusedVariables false
set_option linter.unusedSimpArgs false

set_option maxHeartbeats 16000000 in
set_option maxRecDepth 100000 in
theorem cRefFlipR (r : RD) (d : Dk) (w : World) (hr : RdOk w r) (hL : Like r d) (hl : r.l.length ≤ 1000000000) (name : List UInt8) (i b : Int) (e : flipOk d name i b = false) :
    Calls Try.prog 39 #[r.v, .string ⟨name.toArray⟩, .int .i64 i, .int .i64 b] w (RefB r.foot (flipD d name i b) (flipOk d name i b) w) := by
  obtain ⟨w1, hw1, k1, bx, br, hsz⟩ := boxRR r w
  have e1 : flipD d name i b = d := by unfold flipD; rw [e]; simp
  have hlk := hL.look name
  have hor : ∀ x, lookG RF.name name r.l = some x → i < 0 ∨ (0 ≤ i ∧ (x.bytes.length : Int) ≤ i) ∨ (0 ≤ i ∧ i < (x.bytes.length : Int) ∧ b < 0) ∨ (0 ≤ i ∧ i < (x.bytes.length : Int) ∧ 0 ≤ b ∧ 7 < b) := fun x hx => by
    rw [hx] at hlk
    unfold flipOk at e
    rw [hlk] at e
    simp only [Option.map_some, RF.fl, Bool.and_eq_false_iff, decide_eq_false_iff_not] at e
    omega
  rw [e, e1]
  have hc := cAt r name w1 (hr.keptNew k1) (by omega)
  have hfin : ∀ W, Kp [] w W → RefB r.foot d false w (.returned (.tuple #[.agg #[.int .i64 r.room, .int .i64 r.steps, .slice r.fa r.l.length r.fc, .bool r.armed, .bool r.dead, .int .i64 r.left], .bool false])) W := fun W hkW => ⟨_, rfl, r, rfl, hr.keptNew hkW, hL, hkW, fun k hk => .inl hk⟩
  have hrw := hr.keptNew k1
  clear e1 hL hr e hlk
  obtain ⟨room, steps, fa, fc, l, armed, dead, left⟩ := r
  simp only [RD.v] at *
  have b0 := bx.c0; have b1 := bx.c1; have b2 := bx.c2; have b3 := bx.c3; have b4 := bx.c4; have b5 := bx.c5
  have r0 := br.c0; have r1 := br.c1; have r2 := br.c2; have r3 := br.c3; have r4 := br.c4; have r5 := br.c5
  have horh := hid hor
  clear hor
  go_enter Try.func39, Try.ntmps39
  go_wp2_with fail
  refine hc.mono ?_
  intro e w2 he
  obtain ⟨k2, hcase⟩ := he
  clear hc
  have bx2 := bx.kept k2
  have br2 := br.kept k2
  clear b0 b1 b2 b3 b4 b5 r0 r1 r2 r3 r4 r5
  have b0 := bx2.c0; have b1 := bx2.c1; have b2 := bx2.c2; have b3 := bx2.c3; have b4 := bx2.c4; have b5 := bx2.c5
  have r0 := br2.c0; have r1 := br2.c1; have r2 := br2.c2; have r3 := br2.c3; have r4 := br2.c4; have r5 := br2.c5
  have g0 := br2.free 0; have g1 := br2.free 1; have g2 := br2.free 2; have g3 := br2.free 3; have g4 := br2.free 4; have g5 := br2.free 5
  have hfin2 := hid hfin
  clear hfin
  rcases hcase with ⟨j, x, rfl, hx, hxl⟩ | ⟨rfl, _⟩
  · have hxs := horh.out x hxl
    obtain ⟨g, f, hfa, x0, x1, x2⟩ := (hrw.keptNew k2).fls.at hx
    simp only at hfa
    subst hfa
    have hj : j < l.length := (List.getElem?_eq_some_iff.1 hx).1
    clear hxl hx horh hrw
    rcases hxs with h | ⟨h, h'⟩ | ⟨h, h', h''⟩ | ⟨h, h', h'', h3⟩
    all_goals go_wp2_with fail
    all_goals (obtain ⟨W', hW', hb6, kW'⟩ := set6_ex br2 (.int .i64 room) (.int .i64 steps) (.slice (some ⟨g, f, none⟩) l.length fc) (.bool armed) (.bool dead) (.int .i64 left))
    all_goals rw [hW']
    all_goals (obtain ⟨z0, z1, z2, z3, z4, z5, _⟩ := hb6)
    all_goals (refine bodyPost_ret (v := .tuple #[.agg #[.int .i64 room, .int .i64 steps, .slice (some ⟨g, f, none⟩) l.length fc, .bool armed, .bool dead, .int .i64 left], .bool false]) (by simp [results, Try.results39, go_sem, z0, z1, z2, z3, z4, z5]) rfl ?_)
    all_goals exact hfin2.out _ ((k1.trans k2 (by simp)).trans kW' (fun x hx => .inr (by simp at hx; omega)))
  · clear horh hrw
    go_wp2_with fail
    obtain ⟨W', hW', hb6, kW'⟩ := set6_ex br2 (.int .i64 room) (.int .i64 steps) (.slice fa l.length fc) (.bool armed) (.bool dead) (.int .i64 left)
    rw [hW']
    obtain ⟨z0, z1, z2, z3, z4, z5, _⟩ := hb6
    refine bodyPost_ret (v := .tuple #[.agg #[.int .i64 room, .int .i64 steps, .slice fa l.length fc, .bool armed, .bool dead, .int .i64 left], .bool false]) (by simp [results, Try.results39, go_sem, z0, z1, z2, z3, z4, z5]) rfl ?_
    exact hfin2.out _ ((k1.trans k2 (by simp)).trans kW' (fun x hx => .inr (by simp at hx; omega)))
end Go.Proofs.Ytgllkonbgigcbaa
end

section
namespace Go.Proofs.Ytgllkonbgigcbaa
open Go.RowKit Go.Hay
set_option linter.unusedVariables false
set_option linter.unusedSimpArgs false

set_option maxHeartbeats 16000000 in
set_option maxRecDepth 100000 in
theorem cRefFlipY (r : RD) (d : Dk) (w : World) (hr : RdOk w r) (hL : Like r d) (ho : Okd d) (hl : r.l.length ≤ 1000000000) (hB : ∀ f ∈ r.l, f.bytes.length ≤ 140737488355328) (name : List UInt8) (m q : Nat) (f0 : RF) (hlk : lookG RF.name name r.l = some f0) (hm : m < f0.bytes.length) (hq7 : q ≤ 7) (e : flipOk d name m q = true) :
    Calls Try.prog 39 #[r.v, .string ⟨name.toArray⟩, .int .i64 (m : Int), .int .i64 (q : Int)] w (RefB r.foot (flipD d name m q) (flipOk d name m q) w) := by
  obtain ⟨w1, hw1, k1, bx, br, hsz⟩ := boxRR r w
  have hrise := hL.rise ho
  have hld : lookG Fl.name name d.files = some f0.fl := by rw [hL.look name, hlk]; rfl
  have hfm := (lookG_some hlk).1
  have hsee := hr.see f0 hfm
  have hbf := hB f0 hfm
  rw [e]
  obtain ⟨room, steps, fa, fc, l, armed, dead, left⟩ := r
  simp only at hlk hfm hl hrise
  obtain ⟨j0, hj0⟩ : ∃ j0, l[j0]? = some f0 := List.mem_iff_getElem?.1 hfm
  have hc : Calls Try.prog 44 #[(⟨room, steps, fa, fc, l, armed, dead, left⟩ : RD).v, .string ⟨name.toArray⟩] w1 fun e A' => e = .returned (.int .i64 (j0 : Int)) ∧ Kp [] w1 A' := (cAt ⟨room, steps, fa, fc, l, armed, dead, left⟩ name w1 (hr.keptNew k1) (by simp only; omega)).mono fun e A' h => by
    obtain ⟨hk, ⟨j, x, he, hx, hxl⟩ | ⟨_, hno⟩⟩ := h
    · have : j = j0 := rise_inj hrise hx hj0 (by simp only at hxl; rw [hxl] at hlk; cases hlk; rfl)
      subst this
      exact ⟨he, hk⟩
    · simp only at hno; rw [hno] at hlk; cases hlk
  have hj : j0 < l.length := (List.getElem?_eq_some_iff.1 hj0).1
  simp only [RD.v] at *
  have b0 := bx.c0; have b1 := bx.c1; have b2 := bx.c2; have b3 := bx.c3; have b4 := bx.c4; have b5 := bx.c5
  go_enter Try.func39, Try.ntmps39
  go_wp2_with fail
  refine hc.mono ?_
  rintro e w2 ⟨rfl, k2⟩
  clear hc
  have bx2 := bx.kept k2
  have br2 := br.kept k2
  have kw2 : Kp [] w w2 := k1.trans k2 (by simp)
  clear b0 b1 b2 b3 b4 b5
  have b0 := bx2.c0; have b1 := bx2.c1; have b2 := bx2.c2; have b3 := bx2.c3; have b4 := bx2.c4; have b5 := bx2.c5
  obtain ⟨g, f, hfa, x0, x1, x2⟩ := ((hr.keptNew kw2).fls.at hj0)
  simp only at hfa
  subst hfa
  obtain ⟨w3, hw3⟩ : ∃ w3, w2.alloc (.cells #[.string ⟨f0.name.toArray⟩, .slice f0.ba f0.bytes.length f0.bc, .int .i64 (f0.last : Int)] 45) = w3 := ⟨_, rfl⟩
  have k3 : Kp [] w2 w3 := by rw [← hw3]; exact (Kp.refl _ _).alloc _
  have b3' : B3 w3 w2.heap.size (.string ⟨f0.name.toArray⟩) (.slice f0.ba f0.bytes.length f0.bc) (.int .i64 (f0.last : Int)) := by rw [← hw3]; exact B3.at _ rfl _ _ _ _
  have hjo := cJoined f0.ba none f0.bc 0 f0.bytes [] w3 (hsee.1.kept (kw2.trans k3 (by simp)) (by simp)) (Sees.nil _ _) (by simp; omega)
  simp only [List.length_nil, List.append_nil] at hjo
  have hw3' := hid hw3
  have h1 : ¬ ((m : Int) < 0) := by omega
  have h2 : (m : Int) < (f0.bytes.length : Int) := by omega
  have h3 : ¬ ((q : Int) < 0) := by omega
  have h4 : ¬ (7 < (q : Int)) := by omega
  clear hw3
  go_wp2_with fail
  rw [hw3'.out]
  refine hjo.mono ?_
  rintro e wa ⟨ja, jc, rfl, hja, ka, hjn⟩
  obtain ⟨qf, hqf⟩ : ∃ qf, qf = w2.heap.size := ⟨_, rfl⟩
  rw [← hqf] at b3' ⊢
  have hqf3 := b3'.lt
  have hqf2 : w.heap.size + 2 ≤ qf := by have := k2.size; omega
  clear hqf
  have b6a := b3'.kept ka
  have p1 := b6a.c1
  have pf1 := b6a.free 1
  obtain ⟨wc, hwc⟩ : ∃ wc, wa.setCell ⟨qf, 1, none⟩ (.slice ja f0.bytes.length jc) = wc := ⟨_, rfl⟩
  have b6c : B3 wc qf (.string ⟨f0.name.toArray⟩) (.slice ja f0.bytes.length jc) (.int .i64 (f0.last : Int)) := by rw [← hwc]; exact b6a.set1 _
  have kc : Kp [qf] wa wc := by rw [← hwc]; exact kpSet _ _ _ _
  have hjac : Row wc (.slice ja f0.bytes.length jc) f0.bytes := hja.kept kc (fun k hk hx => by rw [own_slice] at hk; have := hjn k hk; simp at hx; omega)
  rcases hjac with ⟨hv, hbs⟩ | ⟨gj, oj, cap, hv, hle, hmx, hgj, hcs, hfr⟩
  · rw [hbs] at hm; simp at hm
  simp only [Value.slice.injEq, true_and] at hv
  obtain ⟨rfl, rfl⟩ := hv
  have hgj3 : w3.heap.size ≤ gj := hjn gj (by simp [blk])
  obtain ⟨y, hy⟩ : ∃ y : UInt8, f0.bytes[m]? = some y := ⟨f0.bytes[m], by simp [hm]⟩
  have cy := hcs m y hy
  have fy := (hfr m (by omega)).2
  have hrow : Row wc (.slice (some ⟨gj, oj, none⟩) f0.bytes.length jc) f0.bytes := .inr ⟨gj, oj, jc, rfl, hle, hmx, hgj, hcs, hfr⟩
  obtain ⟨w7, hw7⟩ : ∃ w7, (wc.setCell ⟨gj, oj + m, none⟩ (.int .u8 (bits BinOp.xor IntKind.u8 (y.toNat : Int) (2 ^ q % 256)))).drew = w7 := ⟨_, rfl⟩
  have k7c : Kp [gj] wc w7 := by rw [← hw7]; exact ((Kp.refl _ wc).setCell (p := ⟨gj, oj + m, none⟩) (by simp) _).drew
  have hrow7 : Row w7 (.slice (some ⟨gj, oj, none⟩) f0.bytes.length jc) (flipB f0.bytes m q) := by
    have e1 : flipB f0.bytes m q = f0.bytes.set m (y ^^^ UInt8.ofNat (2 ^ q)) := by simp [flipB, hy]
    rw [← hw7, flipBit, e1]
    exact Row.put hrow m (by omega) _
  have p2 := b6c.c1
  clear hjo hcs hfr hrow hja
  go_wp2_with fail
  go_region
  clear hw7 hwc p1 pf1 p2 cy fy
  have hne1 : w.heap.size ≠ gj := by omega
  have hne2 : w.heap.size + 1 ≠ gj := by omega
  have bx7 := (((bx2.kept k3).kept ka).set kc (by omega)).set k7c hne1
  have br7 := (((br2.kept k3).kept ka).set kc (by omega)).set k7c hne2
  have hqg : qf ∉ [gj] := by simp; omega
  have b7 : B3 w7 qf (.string ⟨f0.name.toArray⟩) (.slice (some ⟨gj, oj, none⟩) f0.bytes.length jc) (.int .i64 (f0.last : Int)) := ⟨(k7c.cell (p := ⟨qf, 0, none⟩) b6c.lt hqg).trans b6c.c0, (k7c.cell (p := ⟨qf, 1, none⟩) b6c.lt hqg).trans b6c.c1, (k7c.cell (p := ⟨qf, 2, none⟩) b6c.lt hqg).trans b6c.c2, fun j => (k7c.frozen (p := ⟨qf, j, none⟩) b6c.lt hqg).trans (b6c.free j)⟩
  have kw3 : Kp [] w w3 := kw2.trans k3 (by simp)
  have hs3 := kw3.size
  have kw7 : Kp [] w w7 := (((kw3.trans ka (by simp)).trans kc (fun x hx => .inr (by simp at hx; omega))).trans k7c (fun x hx => .inr (by simp at hx; omega)))
  have hs7 : w3.heap.size ≤ w7.heap.size := by have := ka.size; have := kc.size; have := k7c.size; omega
  have hW := cWith ⟨room, steps, some ⟨g, f, none⟩, fc, l, armed, dead, left⟩ ⟨f0.name, some ⟨gj, oj, none⟩, jc, flipB f0.bytes m q, f0.last⟩ w7 (hr.keptNew kw7) hl
  simp only [RD.v, RF.v, flipB_length] at hW
  have c0 := bx7.c0; have c1 := bx7.c1; have c2 := bx7.c2; have c3 := bx7.c3; have c4 := bx7.c4; have c5 := bx7.c5
  have v0 := b7.c0; have v1 := b7.c1; have v2 := b7.c2
  clear b0 b1 b2 b3 b4 b5 x0 x1 x2
  go_wp2_with fail
  refine hW.mono ?_
  rintro e w8 ⟨a8, c8, rfl, hf8, k8, hn8⟩
  obtain ⟨L8, hL8⟩ : ∃ L8, L8 = putG RF.name ⟨f0.name, some ⟨gj, oj, none⟩, jc, flipB f0.bytes m q, f0.last⟩ false l := ⟨_, rfl⟩
  rw [← hL8] at hf8
  simp only [RD.v, ← hL8]
  have hL8' := hid hL8
  clear hL8 hW c0 c1 c2 c3 c4 c5 v0 v1 v2
  have br8 := br7.kept k8
  have r0 := br8.c0; have r1 := br8.c1; have r2 := br8.c2; have r3 := br8.c3; have r4 := br8.c4; have r5 := br8.c5
  have g0 := br8.free 0; have g1 := br8.free 1; have g2 := br8.free 2; have g3 := br8.free 3; have g4 := br8.free 4; have g5 := br8.free 5
  go_wp2_with fail
  obtain ⟨W', hW', hb6, kW'⟩ := set6_ex br8 (.int .i64 room) (.int .i64 steps) (.slice a8 L8.length c8) (.bool armed) (.bool dead) (.int .i64 left)
  rw [hW']
  obtain ⟨z0, z1, z2, z3, z4, z5, _⟩ := hb6
  have kWW : Kp [w.heap.size, w.heap.size + 1] w8 W' := kW'.mono (fun x hx => .inl (by simp at hx; simp [hx]))
  have kWf : Kp [] w W' := (kw7.trans k8 (by simp)).trans kWW (fun x hx => .inr (by simp at hx; omega))
  refine bodyPost_ret (v := .tuple #[.agg #[.int .i64 room, .int .i64 steps, .slice a8 L8.length c8, .bool armed, .bool dead, .int .i64 left], .bool true]) (by simp [results, Try.results39, go_sem, z0, z1, z2, z3, z4, z5]) rfl ?_
  obtain ⟨_, _, ej, hsj, hnj, hlj⟩ := Row.parts (show Row w7 (.slice (some ⟨gj, oj, none⟩) (flipB f0.bytes m q).length jc) (flipB f0.bytes m q) by rw [flipB_length]; exact hrow7)
  cases ej
  have k7W : Kp [w.heap.size, w.heap.size + 1] w7 W' := (k8.mono (by simp)).trans kWW (fun x hx => .inl hx)
  obtain ⟨v, hv, hP⟩ := RefE.putDone (q := w.heap.size) (n := w7.heap.size) (c8 := c8) (x := (flipD d name m q, 0)) hr hL hrise ⟨f0.name, some ⟨gj, oj, none⟩, jc, flipB f0.bytes m q, f0.last⟩ ⟨hsj.kept k7W (fun k hk hx => by simp [blk] at hk; simp at hx; omega), hnj, hlj⟩ (fun k hk => .inr (by have hk := mem_ft hk; simp [blk] at hk; omega)) hL8'.out hf8 hn8 kWf kWW (by omega) (by omega) (by rw [flipD, if_pos (by assumption), fileOf_some hld]; rfl)
  simp only [Ending.returned.injEq, Value.tuple.injEq] at hv
  simp at hv
  exact ⟨v, by rw [← hv]; rfl, hP⟩
end Go.Proofs.Ytgllkonbgigcbaa
end

section
namespace Go.Proofs.Ytgllkonbgigcbaa
open Go.RowKit Go.Hay
set_option linter.unusedVariables false

theorem cRefFlip (r : RD) (d : Dk) (w : World) (hr : RdOk w r) (hL : Like r d) (ho : Okd d) (hl : r.l.length ≤ 1000000000) (hB : ∀ f ∈ r.l, f.bytes.length ≤ 140737488355328) (name : List UInt8) (i b : Int) :
    Calls Try.prog 39 #[r.v, .string ⟨name.toArray⟩, .int .i64 i, .int .i64 b] w (RefB r.foot (flipD d name i b) (flipOk d name i b) w) := by
  by_cases e : flipOk d name i b = true
  · have hlk := hL.look name
    cases hx : lookG RF.name name r.l with
    | none => rw [hx] at hlk; unfold flipOk at e; rw [hlk] at e; simp at e
    | some f0 =>
      have h : (0 ≤ i ∧ i < (f0.bytes.length : Int)) ∧ 0 ≤ b ∧ b ≤ 7 := by
        rw [hx] at hlk
        unfold flipOk at e
        rw [hlk] at e
        simp only [Option.map_some, RF.fl, Bool.and_eq_true, decide_eq_true_eq] at e
        exact ⟨⟨e.1.1.1, e.1.1.2⟩, e.1.2, e.2⟩
      obtain ⟨⟨h1, h2⟩, h3, h4⟩ := h
      obtain ⟨m, rfl⟩ : ∃ m : Nat, i = m := ⟨i.toNat, by omega⟩
      obtain ⟨q, rfl⟩ : ∃ q : Nat, b = q := ⟨b.toNat, by omega⟩
      exact cRefFlipY r d w hr hL ho hl hB name m q f0 hx (by omega) (by omega) e
  · exact cRefFlipR r d w hr hL hl name i b (by simpa using e)
end Go.Proofs.Ytgllkonbgigcbaa
end

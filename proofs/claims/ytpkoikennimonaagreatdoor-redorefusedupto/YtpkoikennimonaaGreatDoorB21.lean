/- The law's step: Crash, then Open. The law's step: what a log tells. The law's step, whatever the call is; the law's files; new disks. -/
import Derived.Test.YtpkoikennimonaaGreatDoorB20
import Derived.Test.YtpkoikennimonaaGreatDoorB18
section
namespace Go.Proofs.YtpkoikennimonaaGreatDoor
open Go.RowKit Go.Hay
set_option linter.unusedVariables false
set_option linter.unusedSimpArgs false
variable {Q : Prop}

set_option maxHeartbeats 16000000 in
set_option maxRecDepth 100000 in
theorem cStep5 {w W : World} {dp : Nat} {lp : Option Addr} {r : RD} {g : RL} {up : Bool} {K s : Nat} {X : List Nat} (h : StZ Q w W dp lp r g up K s X) (o : OpZ) (hk : o.kind = 5) (hK : K ≤ 4000000000000) (hT : Tab w) (hks : ∀ X, Kp [] w X → Ints X o.ka o.ks) (hkl : o.ks.length ≤ o.kc) (hkc : o.kc ≤ 9223372036854775807) (hk64 : ∀ k ∈ o.ks, -9223372036854775808 ≤ k ∧ k < 9223372036854775808) :
    Calls Tryz.prog 8 #[LWv dp lp r g up, o.v] W (StepP Q w X (K) 2 W) := by
  obtain ⟨W1, e1, k1, z1, x0, x1, x2⟩ := boxStep dp lp r g up o W
  have hXl : Hid (∀ k ∈ X, k < W.heap.size) := by
    obtain ⟨mb, xs, d, _, _, _, _, _, _, _, _, h9⟩ := h
    exact fun k hk => (h9 k hk).1
  have hkw := h.kp
  have hwz := hkw.size
  have h' := h.keepS (X' := (W.heap.size) :: (W.heap.size + 1) :: (W.heap.size + 1 + 1) :: X) k1 (by simp) (fun j hj => by
    simp only [List.mem_cons] at hj
    rcases hj with rfl | rfl | rfl | hj
    · exact ⟨.inr (Nat.le_refl _), by omega⟩
    · exact ⟨.inr (by omega), by omega⟩
    · exact ⟨.inr (by omega), by omega⟩
    · exact ⟨.inl hj, by have := hXl.out j hj; omega⟩)
  have HB := hid (And.intro x0 (And.intro x1 x2))
  have hk1 := hid k1
  have kd : Kp [] W1 W1.drew := (Kp.refl _ _).drew
  have aC := hid (h'.crash kd (by omega) o.ka o.kc o.ks hks hkl hkc hk64)
  have y0 := x0.kept kd (by omega)
  have y1 := x1.kept kd (by omega)
  have o0 := x1.get 0 _ rfl
  have d0 := y0.get 0 _ rfl
  rw [hk] at o0
  have hTT := hid hT
  have hzd : Hid (W1.drew.heap.size = W1.heap.size) := rfl
  have hSk : Hid (∀ A, Kp [] W1.drew A → Bn A (W.heap.size) [.pointer (some ⟨dp, 0, none⟩), .pointer lp, .int .i64 r.room, .int .i64 r.steps, .slice r.fa r.l.length r.fc, .bool r.armed, .bool r.dead, .int .i64 r.left, .string ⟨g.nm.toArray⟩, .slice g.a g.l.length g.c, .int .i64 g.sz, .bool up] ∧ Bn A (W.heap.size + 1) [.int .i64 o.kind, .int .i64 o.n, .slice o.a o.l.length o.c, .slice o.ka o.ks.length o.kc] ∧ Bn A (W.heap.size + 1 + 1) [.pointer none, .pointer none, .int .i64 0, .int .i64 0, .slice none 0 0, .bool false, .bool false, .int .i64 0, .string ⟨#[]⟩, .slice none 0 0, .int .i64 0, .bool false]) := fun A k => ⟨y0.kept k (by rw [hzd.out]; omega), y1.kept k (by rw [hzd.out]; omega), (HB.out.2.2.kept kd (by omega)).kept k (by rw [hzd.out]; omega)⟩
  have KD := hid kd
  clear h h' x0 x1 x2 k1 y0 y1 kd hks
  obtain ⟨kind, on, oa, oc, ol, oka, okc, oks⟩ := o
  obtain ⟨room0, steps0, fa0, fc0, lx0, armed0, dead0, left0⟩ := r
  simp only at hk
  subst hk
  simp only [LWv, OpZ.v, RD.v] at *
  have hS : Hid (∀ A, Kp [] W1.drew A → A.cell? ⟨W.heap.size + 1, 3, none⟩ = some (.slice oka oks.length okc)) := fun A k => by
    obtain ⟨h0, h1, _⟩ := hSk.out A k
    exact h1.get 3 _ rfl
  have hS0 := hS.out _ (Kp.refl _ _)
  go_enter Tryz.func8, Tryz.ntmps8
  go_wp2_with fail
  refine wp_region_held_drew (S := fun A => A.cell? ⟨W.heap.size + 1, 3, none⟩ = some (.slice oka oks.length okc)) (by kernel_rfl) ?_ (fun hHeld => ?_)
  · exact hS0
  generalize W1.drew = wd at *
  have hz0 : W.heap.size + 3 ≤ wd.heap.size := by rw [hzd.out]; omega
  clear hzd
  refine wpAnyH_take (i := 0) (v := ?_) rfl (by kernel_rfl) (by kernel_rfl) (by kernel_rfl) (fun _ _ _ h => h) (Or.inl ⟨by rfl, ?_⟩) (by assumption) ?_
  rotate_left
  · intro w hSw; (try dsimp only at hSw); go_simp <;> with_reducible rfl
  try simp only [Act.put, List.getElem_toArray, List.getElem_cons_zero, List.getElem_cons_succ, List.setIfInBounds_toArray, List.set_cons_zero, List.set_cons_succ]
  refine wpAnyH_take (i := 2) (v := ?_) rfl (by kernel_rfl) (by kernel_rfl) (by kernel_rfl) (fun _ _ _ h => h) (Or.inl ⟨by rfl, ?_⟩) (by assumption) ?_
  rotate_left
  · intro w hSw; (try dsimp only at hSw); go_simp <;> with_reducible rfl
  try simp only [Act.put, List.getElem_toArray, List.getElem_cons_zero, List.getElem_cons_succ, List.setIfInBounds_toArray, List.set_cons_zero, List.set_cons_succ]
  refine wpAnyH_take (i := 3) (v := ?_) rfl (by kernel_rfl) (by kernel_rfl) (by kernel_rfl) (fun _ _ _ h => h) (Or.inl ⟨by rfl, ?_⟩) (by assumption) ?_
  rotate_left
  · intro w hSw; (try dsimp only at hSw); go_simp <;> with_reducible rfl
  try simp only [Act.put, List.getElem_toArray, List.getElem_cons_zero, List.getElem_cons_succ, List.setIfInBounds_toArray, List.set_cons_zero, List.set_cons_succ]
  refine wpAnyH_take (i := 5) (v := ?_) rfl (by kernel_rfl) (by kernel_rfl) (by kernel_rfl) (fun _ _ _ h => h) (Or.inl ⟨by rfl, ?_⟩) (by assumption) ?_
  rotate_left
  · intro w hSw; (try dsimp only at hSw); go_simp <;> with_reducible rfl
  try simp only [Act.put, List.getElem_toArray, List.getElem_cons_zero, List.getElem_cons_succ, List.setIfInBounds_toArray, List.set_cons_zero, List.set_cons_succ]
  refine wpAnyH_take (i := 7) (v := ?_) rfl (by kernel_rfl) (by kernel_rfl) (by kernel_rfl) (fun _ _ _ h => h) (Or.inl ⟨by rfl, ?_⟩) (by assumption) ?_
  rotate_left
  · intro w hSw; (try dsimp only at hSw); go_simp <;> with_reducible rfl
  try simp only [Act.put, List.getElem_toArray, List.getElem_cons_zero, List.getElem_cons_succ, List.setIfInBounds_toArray, List.set_cons_zero, List.set_cons_succ]
  refine wpAnyH_take (i := 8) (v := ?_) rfl (by kernel_rfl) (by kernel_rfl) (by kernel_rfl) (fun _ _ _ h => h) (Or.inl ⟨by rfl, ?_⟩) (by assumption) ?_
  rotate_left
  · intro w hSw; (try dsimp only at hSw); go_simp <;> with_reducible rfl
  try simp only [Act.put, List.getElem_toArray, List.getElem_cons_zero, List.getElem_cons_succ, List.setIfInBounds_toArray, List.set_cons_zero, List.set_cons_succ]
  have a2 := (hSk.out wd (Kp.refl _ _)).1.get 2 _ rfl; have a3 := (hSk.out wd (Kp.refl _ _)).1.get 3 _ rfl; have a4 := (hSk.out wd (Kp.refl _ _)).1.get 4 _ rfl; have a5 := (hSk.out wd (Kp.refl _ _)).1.get 5 _ rfl; have a6 := (hSk.out wd (Kp.refl _ _)).1.get 6 _ rfl; have a7 := (hSk.out wd (Kp.refl _ _)).1.get 7 _ rfl
  refine wpAnyH_ready (rs := [1, 6]) (by kernel_rfl) (by simp) ?_
  refine (AllReadyH.cons rfl (fun K hK => ?_) (AllReadyH.cons rfl (fun K hK => ?_) AllReadyH.nil))
  · go_simp
    (try go_wp2_with fail)
    refine hK.out _ _ ?_ (fun hHeld => ?_)
    · exact hS.out _ (Kp.refl _ _)
    clear hK K
    try simp only [Act.put, List.getElem_toArray, List.getElem_cons_zero, List.getElem_cons_succ, List.setIfInBounds_toArray, List.set_cons_zero, List.set_cons_succ]
    refine wpAnyH_ready (rs := [4, 6]) (by kernel_rfl) (by simp) ?_
    refine (AllReadyH.cons rfl (fun K hK => ?_) (AllReadyH.cons rfl (fun K hK => ?_) AllReadyH.nil))
    · go_simp
      refine aC.out.mono ?_
      rintro e W2 ⟨dq, rfl, k2, hF⟩
      have aF := hid (hF W2 (Kp.refl _ _))
      try simp only [RD.v] at aF
      (try go_wp2_with fail)
      refine hK.out _ _ ?_ (fun hHeld => ?_)
      · exact hS.out _ k2
      clear hK K
      try simp only [Act.put, List.getElem_toArray, List.getElem_cons_zero, List.getElem_cons_succ, List.setIfInBounds_toArray, List.set_cons_zero, List.set_cons_succ]
      have b2 := (hSk.out W2 k2).1.get 2 _ rfl; have b3 := (hSk.out W2 k2).1.get 3 _ rfl; have b4 := (hSk.out W2 k2).1.get 4 _ rfl; have b5 := (hSk.out W2 k2).1.get 5 _ rfl; have b6 := (hSk.out W2 k2).1.get 6 _ rfl; have b7 := (hSk.out W2 k2).1.get 7 _ rfl
      refine wpAnyH_ready (rs := [6]) (by kernel_rfl) (by simp) ?_
      refine AllReadyH.cons rfl (fun K hK => ?_) AllReadyH.nil
      go_simp
      (try go_wp2_with fail)
      refine hK.out _ _ ?_ (fun hHeld => ?_)
      · exact hS.out _ k2
      clear hK K
      try simp only [Act.put, List.getElem_toArray, List.getElem_cons_zero, List.getElem_cons_succ, List.setIfInBounds_toArray, List.set_cons_zero, List.set_cons_succ]
      refine wpAnyH_take (i := 10) (v := ?_) rfl (by kernel_rfl) (by kernel_rfl) (by kernel_rfl) (fun _ _ _ h => h) (Or.inl ⟨by rfl, ?_⟩) (by assumption) ?_
      rotate_left
      · intro w hSw; (try dsimp only at hSw); go_simp <;> with_reducible rfl
      try simp only [Act.put, List.getElem_toArray, List.getElem_cons_zero, List.getElem_cons_succ, List.setIfInBounds_toArray, List.set_cons_zero, List.set_cons_succ]
      refine wpAnyH_ready (rs := [9]) (by kernel_rfl) (by simp) ?_
      refine AllReadyH.cons rfl (fun K hK => ?_) AllReadyH.nil
      go_simp
      refine aF.out.mono ?_
      rintro e W3 ⟨r3, rfl, k3, hSt⟩
      (try go_wp2_with fail)
      refine hK.out _ _ ?_ (fun hHeld => ?_)
      · exact hS.out _ (k2.trans k3 (by simp))
      clear hK K
      try simp only [Act.put, List.getElem_toArray, List.getElem_cons_zero, List.getElem_cons_succ, List.setIfInBounds_toArray, List.set_cons_zero, List.set_cons_succ]
      have k23 := k2.trans k3 (by simp)
      obtain ⟨y0, y1, y2⟩ := hSk.out W3 k23
      have hz3 := k23.size
      obtain ⟨W4, e4⟩ : ∃ Y, W3.setCell ⟨W.heap.size, 0, none⟩ (.pointer (some ⟨dq, 0, none⟩)) = Y := ⟨_, rfl⟩
      have k4 : Kp [W.heap.size] W3 W4 := by rw [← e4]; exact (Kp.refl _ _).setCell (by simp) _
      have x4 := y0.set 0 (by simp) (.pointer (some ⟨dq, 0, none⟩))
      rw [e4] at x4
      have hz4 := k4.size
      obtain ⟨W5, e5⟩ : ∃ Y, ((((((W4.setCell ⟨W.heap.size, 2, none⟩ (.int .i64 r3.room)).setCell ⟨W.heap.size, 3, none⟩ (.int .i64 r3.steps)).setCell ⟨W.heap.size, 4, none⟩ (.slice r3.fa r3.l.length r3.fc)).setCell ⟨W.heap.size, 5, none⟩ (.bool r3.armed)).setCell ⟨W.heap.size, 6, none⟩ (.bool r3.dead)).setCell ⟨W.heap.size, 7, none⟩ (.int .i64 r3.left)) = Y := ⟨_, rfl⟩
      have k5 : Kp [W.heap.size] W4 W5 := by rw [← e5]; exact (((((((Kp.refl _ _).setCell (by simp) _).setCell (by simp) _).setCell (by simp) _).setCell (by simp) _).setCell (by simp) _).setCell (by simp) _)
      have x5 : Bn W5 (W.heap.size) [.pointer (some ⟨dq, 0, none⟩), .pointer lp, .int .i64 r3.room, .int .i64 r3.steps, .slice r3.fa r3.l.length r3.fc, .bool r3.armed, .bool r3.dead, .int .i64 r3.left, .string ⟨g.nm.toArray⟩, .slice g.a g.l.length g.c, .int .i64 g.sz, .bool up] := by rw [← e5]; exact ((((((x4.set 2 (by simp) (.int .i64 r3.room)).set 3 (by simp) (.int .i64 r3.steps)).set 4 (by simp) (.slice r3.fa r3.l.length r3.fc)).set 5 (by simp) (.bool r3.armed)).set 6 (by simp) (.bool r3.dead)).set 7 (by simp) (.int .i64 r3.left))
      have hz5 := k5.size
      have k35 : Kp [W.heap.size] W3 W5 := k4.trans k5 (fun x hx => .inl hx)
      have w4 := (y1.keptS k4 (by simp <;> omega) (by omega)).get 3 _ rfl
      have w5 := (y1.keptS k35 (by simp <;> omega) (by omega)).get 3 _ rfl
      have y25 := y2.keptS k35 (by simp <;> omega) (by omega)
      have m0 := y0.get 0 _ rfl; have mf0 := y0.free 0
      have m2 := x4.get 2 _ rfl; have m3 := x4.get 3 _ rfl; have m4 := x4.get 4 _ rfl; have m5 := x4.get 5 _ rfl; have m6 := x4.get 6 _ rfl; have m7 := x4.get 7 _ rfl
      have mf2 := x4.free 2; have mf3 := x4.free 3; have mf4 := x4.free 4; have mf5 := x4.free 5; have mf6 := x4.free 6; have mf7 := x4.free 7
      have pc0 := x5.get 0 _ rfl; have pc1 := x5.get 1 _ rfl; have pc2 := x5.get 2 _ rfl; have pc3 := x5.get 3 _ rfl; have pc4 := x5.get 4 _ rfl; have pc5 := x5.get 5 _ rfl; have pc6 := x5.get 6 _ rfl; have pc7 := x5.get 7 _ rfl; have pc8 := x5.get 8 _ rfl; have pc9 := x5.get 9 _ rfl; have pc10 := x5.get 10 _ rfl; have pc11 := x5.get 11 _ rfl
      have HSt := hid (hSt.keepS (X' := (W.heap.size + 1 + 1) :: X) k35 (by simp) (fun j hj => by
        simp only [List.mem_cons] at hj
        rcases hj with rfl | hj
        · exact ⟨.inl (by simp), by omega⟩
        · exact ⟨.inl (by simp [hj]), by have := hXl.out j hj; omega⟩))
      have aS := hid (cStep2 (ub := up) HSt.out ⟨2, 0, none, 0, [], none, 0, []⟩ rfl hK (by omega) hTT.out)
      have HK := hid (And.intro k23 (And.intro k35 (And.intro y25 HSt.out.kp)))
      have W4' := hid w4
      have W5' := hid w5
      clear y0 y1 y2 x4 x5 k4 k5 k35 y25 hSt k3 w4 w5 aF
      obtain ⟨room3, steps3, fa3, fc3, lx3, armed3, dead3, left3⟩ := r3
      simp only [RD.v, LWv, OpZ.v, List.length_nil] at *
      refine wpAnyH_ready (rs := [11]) (by kernel_rfl) (by simp) ?_
      refine AllReadyH.cons rfl (fun K hK => ?_) AllReadyH.nil
      go_simp
      (try go_wp2_with fail)
      refine hK.out _ _ ?_ (fun hHeld => ?_)
      · exact W4'.out
      clear hK K
      try simp only [Act.put, List.getElem_toArray, List.getElem_cons_zero, List.getElem_cons_succ, List.setIfInBounds_toArray, List.set_cons_zero, List.set_cons_succ]
      refine wpAnyH_take (i := 12) (v := ?_) rfl (by kernel_rfl) (by kernel_rfl) (by kernel_rfl) (fun _ _ _ h => h) (Or.inl ⟨by rfl, ?_⟩) (by assumption) ?_
      rotate_left
      · intro w hSw; (try dsimp only at hSw); go_simp <;> with_reducible rfl
      try simp only [Act.put, List.getElem_toArray, List.getElem_cons_zero, List.getElem_cons_succ, List.setIfInBounds_toArray, List.set_cons_zero, List.set_cons_succ]
      refine wpAnyH_ready (rs := [13]) (by kernel_rfl) (by simp) ?_
      refine AllReadyH.cons rfl (fun K hK => ?_) AllReadyH.nil
      go_simp
      (try go_wp2_with fail)
      refine hK.out _ _ ?_ (fun hHeld => ?_)
      · exact W5'.out
      clear hK K
      try simp only [Act.put, List.getElem_toArray, List.getElem_cons_zero, List.getElem_cons_succ, List.setIfInBounds_toArray, List.set_cons_zero, List.set_cons_succ]
      refine wpAnyH_done (by kernel_rfl) ?_ _
      clear hHeld hS0 hS hSk
      go_wp2_with fail
      refine aS.out.mono ?_
      rintro e W6 ⟨d6, l6, r6, g6, u6, rfl, hSt6, S6, k6, hS6⟩
      have hz6 := k6.size
      have yr := HK.out.2.2.1.keptS k6 (fun hm => (hS6 _ hm).1 (by simp)) (by omega)
      obtain ⟨W9, e9, x9, k9⟩ := yr.set12 rfl (.pointer (some ⟨d6, 0, none⟩)) (.pointer l6) (.int .i64 r6.room) (.int .i64 r6.steps) (.slice r6.fa r6.l.length r6.fc) (.bool r6.armed) (.bool r6.dead) (.int .i64 r6.left) (.string ⟨g6.nm.toArray⟩) (.slice g6.a g6.l.length g6.c) (.int .i64 g6.sz) (.bool u6)
      have va0 := yr.get 0 _ rfl; have va1 := yr.get 1 _ rfl; have va2 := yr.get 2 _ rfl; have va3 := yr.get 3 _ rfl; have va4 := yr.get 4 _ rfl; have va5 := yr.get 5 _ rfl; have va6 := yr.get 6 _ rfl; have va7 := yr.get 7 _ rfl; have va8 := yr.get 8 _ rfl; have va9 := yr.get 9 _ rfl; have va10 := yr.get 10 _ rfl; have va11 := yr.get 11 _ rfl
      have vf0 := yr.free 0; have vf1 := yr.free 1; have vf2 := yr.free 2; have vf3 := yr.free 3; have vf4 := yr.free 4; have vf5 := yr.free 5; have vf6 := yr.free 6; have vf7 := yr.free 7; have vf8 := yr.free 8; have vf9 := yr.free 9; have vf10 := yr.free 10; have vf11 := yr.free 11
      have oo0 := hid (x9.get 0 _ rfl); have oo1 := hid (x9.get 1 _ rfl); have oo2 := hid (x9.get 2 _ rfl); have oo3 := hid (x9.get 3 _ rfl); have oo4 := hid (x9.get 4 _ rfl); have oo5 := hid (x9.get 5 _ rfl); have oo6 := hid (x9.get 6 _ rfl); have oo7 := hid (x9.get 7 _ rfl); have oo8 := hid (x9.get 8 _ rfl); have oo9 := hid (x9.get 9 _ rfl); have oo10 := hid (x9.get 10 _ rfl); have oo11 := hid (x9.get 11 _ rfl)
      have K9 := hid k9
      clear x9 k9
      have HS6 := hid (And.intro hSt6 (And.intro k6 hS6))
      clear yr hSt6 k6 aS
      obtain ⟨room6, steps6, fa6, fc6, lx6, armed6, dead6, left6⟩ := r6
      obtain ⟨gn6, ga6, gc6, gl6, gs6⟩ := g6
      simp only [LWv] at *
      go_wp2_with fail
      refine bodyPost_ret (v := .tuple #[.agg #[.pointer (some ⟨d6, 0, none⟩), .pointer l6, .int .i64 room6, .int .i64 steps6, .slice fa6 lx6.length fc6, .bool armed6, .bool dead6, .int .i64 left6, .string ⟨gn6.toArray⟩, .slice ga6 gl6.length gc6, .int .i64 gs6, .bool u6], .bool true]) (by simp [results, Tryz.results8, go_sem, oo0.out, oo1.out, oo2.out, oo3.out, oo4.out, oo5.out, oo6.out, oo7.out, oo8.out, oo9.out, oo10.out, oo11.out]) rfl ?_
      have z9 := K9.out.size
      have kW9 : Kp S6 W W9 := (((((hk1.out.trans KD.out (by simp)).trans HK.out.1 (by simp)).mono (by simp)).trans HK.out.2.1 (fun x hx => .inr (by simp at hx; omega))).trans HS6.out.2.1 (fun x hx => .inl hx)).trans K9.out (fun x hx => .inr (by simp at hx; omega))
      exact ⟨d6, l6, ⟨room6, steps6, fa6, fc6, lx6, armed6, dead6, left6⟩, ⟨gn6, ga6, gc6, gl6, gs6⟩, u6, rfl, HS6.out.1.keepS K9.out (by simp) (fun j hj => ⟨.inl (by simp [hj]), by have := hXl.out j hj; omega⟩), S6, kW9, fun k hk => ⟨fun hx => (HS6.out.2.2 k hk).1 (by simp [hx]), (HS6.out.2.2 k hk).2⟩⟩
    · go_simp
      (try go_wp2_with fail)
      refine hK.out _ _ ?_ (fun hHeld => ?_)
      · exact hS.out _ (Kp.refl _ _)
      clear hK K
      try simp only [Act.put, List.getElem_toArray, List.getElem_cons_zero, List.getElem_cons_succ, List.setIfInBounds_toArray, List.set_cons_zero, List.set_cons_succ]
      refine wpAnyH_ready (rs := [4]) (by kernel_rfl) (by simp) ?_
      refine AllReadyH.cons rfl (fun K hK => ?_) AllReadyH.nil
      go_simp
      refine aC.out.mono ?_
      rintro e W2 ⟨dq, rfl, k2, hF⟩
      have aF := hid (hF W2 (Kp.refl _ _))
      try simp only [RD.v] at aF
      (try go_wp2_with fail)
      refine hK.out _ _ ?_ (fun hHeld => ?_)
      · exact hS.out _ k2
      clear hK K
      try simp only [Act.put, List.getElem_toArray, List.getElem_cons_zero, List.getElem_cons_succ, List.setIfInBounds_toArray, List.set_cons_zero, List.set_cons_succ]
      refine wpAnyH_take (i := 10) (v := ?_) rfl (by kernel_rfl) (by kernel_rfl) (by kernel_rfl) (fun _ _ _ h => h) (Or.inl ⟨by rfl, ?_⟩) (by assumption) ?_
      rotate_left
      · intro w hSw; (try dsimp only at hSw); go_simp <;> with_reducible rfl
      try simp only [Act.put, List.getElem_toArray, List.getElem_cons_zero, List.getElem_cons_succ, List.setIfInBounds_toArray, List.set_cons_zero, List.set_cons_succ]
      refine wpAnyH_ready (rs := [9]) (by kernel_rfl) (by simp) ?_
      refine AllReadyH.cons rfl (fun K hK => ?_) AllReadyH.nil
      go_simp
      refine aF.out.mono ?_
      rintro e W3 ⟨r3, rfl, k3, hSt⟩
      (try go_wp2_with fail)
      refine hK.out _ _ ?_ (fun hHeld => ?_)
      · exact hS.out _ (k2.trans k3 (by simp))
      clear hK K
      try simp only [Act.put, List.getElem_toArray, List.getElem_cons_zero, List.getElem_cons_succ, List.setIfInBounds_toArray, List.set_cons_zero, List.set_cons_succ]
      have k23 := k2.trans k3 (by simp)
      obtain ⟨y0, y1, y2⟩ := hSk.out W3 k23
      have hz3 := k23.size
      obtain ⟨W4, e4⟩ : ∃ Y, W3.setCell ⟨W.heap.size, 0, none⟩ (.pointer (some ⟨dq, 0, none⟩)) = Y := ⟨_, rfl⟩
      have k4 : Kp [W.heap.size] W3 W4 := by rw [← e4]; exact (Kp.refl _ _).setCell (by simp) _
      have x4 := y0.set 0 (by simp) (.pointer (some ⟨dq, 0, none⟩))
      rw [e4] at x4
      have hz4 := k4.size
      obtain ⟨W5, e5⟩ : ∃ Y, ((((((W4.setCell ⟨W.heap.size, 2, none⟩ (.int .i64 r3.room)).setCell ⟨W.heap.size, 3, none⟩ (.int .i64 r3.steps)).setCell ⟨W.heap.size, 4, none⟩ (.slice r3.fa r3.l.length r3.fc)).setCell ⟨W.heap.size, 5, none⟩ (.bool r3.armed)).setCell ⟨W.heap.size, 6, none⟩ (.bool r3.dead)).setCell ⟨W.heap.size, 7, none⟩ (.int .i64 r3.left)) = Y := ⟨_, rfl⟩
      have k5 : Kp [W.heap.size] W4 W5 := by rw [← e5]; exact (((((((Kp.refl _ _).setCell (by simp) _).setCell (by simp) _).setCell (by simp) _).setCell (by simp) _).setCell (by simp) _).setCell (by simp) _)
      have x5 : Bn W5 (W.heap.size) [.pointer (some ⟨dq, 0, none⟩), .pointer lp, .int .i64 r3.room, .int .i64 r3.steps, .slice r3.fa r3.l.length r3.fc, .bool r3.armed, .bool r3.dead, .int .i64 r3.left, .string ⟨g.nm.toArray⟩, .slice g.a g.l.length g.c, .int .i64 g.sz, .bool up] := by rw [← e5]; exact ((((((x4.set 2 (by simp) (.int .i64 r3.room)).set 3 (by simp) (.int .i64 r3.steps)).set 4 (by simp) (.slice r3.fa r3.l.length r3.fc)).set 5 (by simp) (.bool r3.armed)).set 6 (by simp) (.bool r3.dead)).set 7 (by simp) (.int .i64 r3.left))
      have hz5 := k5.size
      have k35 : Kp [W.heap.size] W3 W5 := k4.trans k5 (fun x hx => .inl hx)
      have w4 := (y1.keptS k4 (by simp <;> omega) (by omega)).get 3 _ rfl
      have w5 := (y1.keptS k35 (by simp <;> omega) (by omega)).get 3 _ rfl
      have y25 := y2.keptS k35 (by simp <;> omega) (by omega)
      have m0 := y0.get 0 _ rfl; have mf0 := y0.free 0
      have m2 := x4.get 2 _ rfl; have m3 := x4.get 3 _ rfl; have m4 := x4.get 4 _ rfl; have m5 := x4.get 5 _ rfl; have m6 := x4.get 6 _ rfl; have m7 := x4.get 7 _ rfl
      have mf2 := x4.free 2; have mf3 := x4.free 3; have mf4 := x4.free 4; have mf5 := x4.free 5; have mf6 := x4.free 6; have mf7 := x4.free 7
      have pc0 := x5.get 0 _ rfl; have pc1 := x5.get 1 _ rfl; have pc2 := x5.get 2 _ rfl; have pc3 := x5.get 3 _ rfl; have pc4 := x5.get 4 _ rfl; have pc5 := x5.get 5 _ rfl; have pc6 := x5.get 6 _ rfl; have pc7 := x5.get 7 _ rfl; have pc8 := x5.get 8 _ rfl; have pc9 := x5.get 9 _ rfl; have pc10 := x5.get 10 _ rfl; have pc11 := x5.get 11 _ rfl
      have HSt := hid (hSt.keepS (X' := (W.heap.size + 1 + 1) :: X) k35 (by simp) (fun j hj => by
        simp only [List.mem_cons] at hj
        rcases hj with rfl | hj
        · exact ⟨.inl (by simp), by omega⟩
        · exact ⟨.inl (by simp [hj]), by have := hXl.out j hj; omega⟩))
      have aS := hid (cStep2 (ub := up) HSt.out ⟨2, 0, none, 0, [], none, 0, []⟩ rfl hK (by omega) hTT.out)
      have HK := hid (And.intro k23 (And.intro k35 (And.intro y25 HSt.out.kp)))
      have W4' := hid w4
      have W5' := hid w5
      clear y0 y1 y2 x4 x5 k4 k5 k35 y25 hSt k3 w4 w5 aF
      obtain ⟨room3, steps3, fa3, fc3, lx3, armed3, dead3, left3⟩ := r3
      simp only [RD.v, LWv, OpZ.v, List.length_nil] at *
      refine wpAnyH_ready (rs := [11]) (by kernel_rfl) (by simp) ?_
      refine AllReadyH.cons rfl (fun K hK => ?_) AllReadyH.nil
      go_simp
      (try go_wp2_with fail)
      refine hK.out _ _ ?_ (fun hHeld => ?_)
      · exact W4'.out
      clear hK K
      try simp only [Act.put, List.getElem_toArray, List.getElem_cons_zero, List.getElem_cons_succ, List.setIfInBounds_toArray, List.set_cons_zero, List.set_cons_succ]
      refine wpAnyH_take (i := 12) (v := ?_) rfl (by kernel_rfl) (by kernel_rfl) (by kernel_rfl) (fun _ _ _ h => h) (Or.inl ⟨by rfl, ?_⟩) (by assumption) ?_
      rotate_left
      · intro w hSw; (try dsimp only at hSw); go_simp <;> with_reducible rfl
      try simp only [Act.put, List.getElem_toArray, List.getElem_cons_zero, List.getElem_cons_succ, List.setIfInBounds_toArray, List.set_cons_zero, List.set_cons_succ]
      refine wpAnyH_ready (rs := [13]) (by kernel_rfl) (by simp) ?_
      refine AllReadyH.cons rfl (fun K hK => ?_) AllReadyH.nil
      go_simp
      (try go_wp2_with fail)
      refine hK.out _ _ ?_ (fun hHeld => ?_)
      · exact W5'.out
      clear hK K
      try simp only [Act.put, List.getElem_toArray, List.getElem_cons_zero, List.getElem_cons_succ, List.setIfInBounds_toArray, List.set_cons_zero, List.set_cons_succ]
      refine wpAnyH_done (by kernel_rfl) ?_ _
      clear hHeld hS0 hS hSk
      go_wp2_with fail
      refine aS.out.mono ?_
      rintro e W6 ⟨d6, l6, r6, g6, u6, rfl, hSt6, S6, k6, hS6⟩
      have hz6 := k6.size
      have yr := HK.out.2.2.1.keptS k6 (fun hm => (hS6 _ hm).1 (by simp)) (by omega)
      obtain ⟨W9, e9, x9, k9⟩ := yr.set12 rfl (.pointer (some ⟨d6, 0, none⟩)) (.pointer l6) (.int .i64 r6.room) (.int .i64 r6.steps) (.slice r6.fa r6.l.length r6.fc) (.bool r6.armed) (.bool r6.dead) (.int .i64 r6.left) (.string ⟨g6.nm.toArray⟩) (.slice g6.a g6.l.length g6.c) (.int .i64 g6.sz) (.bool u6)
      have va0 := yr.get 0 _ rfl; have va1 := yr.get 1 _ rfl; have va2 := yr.get 2 _ rfl; have va3 := yr.get 3 _ rfl; have va4 := yr.get 4 _ rfl; have va5 := yr.get 5 _ rfl; have va6 := yr.get 6 _ rfl; have va7 := yr.get 7 _ rfl; have va8 := yr.get 8 _ rfl; have va9 := yr.get 9 _ rfl; have va10 := yr.get 10 _ rfl; have va11 := yr.get 11 _ rfl
      have vf0 := yr.free 0; have vf1 := yr.free 1; have vf2 := yr.free 2; have vf3 := yr.free 3; have vf4 := yr.free 4; have vf5 := yr.free 5; have vf6 := yr.free 6; have vf7 := yr.free 7; have vf8 := yr.free 8; have vf9 := yr.free 9; have vf10 := yr.free 10; have vf11 := yr.free 11
      have oo0 := hid (x9.get 0 _ rfl); have oo1 := hid (x9.get 1 _ rfl); have oo2 := hid (x9.get 2 _ rfl); have oo3 := hid (x9.get 3 _ rfl); have oo4 := hid (x9.get 4 _ rfl); have oo5 := hid (x9.get 5 _ rfl); have oo6 := hid (x9.get 6 _ rfl); have oo7 := hid (x9.get 7 _ rfl); have oo8 := hid (x9.get 8 _ rfl); have oo9 := hid (x9.get 9 _ rfl); have oo10 := hid (x9.get 10 _ rfl); have oo11 := hid (x9.get 11 _ rfl)
      have K9 := hid k9
      clear x9 k9
      have HS6 := hid (And.intro hSt6 (And.intro k6 hS6))
      clear yr hSt6 k6 aS
      obtain ⟨room6, steps6, fa6, fc6, lx6, armed6, dead6, left6⟩ := r6
      obtain ⟨gn6, ga6, gc6, gl6, gs6⟩ := g6
      simp only [LWv] at *
      go_wp2_with fail
      refine bodyPost_ret (v := .tuple #[.agg #[.pointer (some ⟨d6, 0, none⟩), .pointer l6, .int .i64 room6, .int .i64 steps6, .slice fa6 lx6.length fc6, .bool armed6, .bool dead6, .int .i64 left6, .string ⟨gn6.toArray⟩, .slice ga6 gl6.length gc6, .int .i64 gs6, .bool u6], .bool true]) (by simp [results, Tryz.results8, go_sem, oo0.out, oo1.out, oo2.out, oo3.out, oo4.out, oo5.out, oo6.out, oo7.out, oo8.out, oo9.out, oo10.out, oo11.out]) rfl ?_
      have z9 := K9.out.size
      have kW9 : Kp S6 W W9 := (((((hk1.out.trans KD.out (by simp)).trans HK.out.1 (by simp)).mono (by simp)).trans HK.out.2.1 (fun x hx => .inr (by simp at hx; omega))).trans HS6.out.2.1 (fun x hx => .inl hx)).trans K9.out (fun x hx => .inr (by simp at hx; omega))
      exact ⟨d6, l6, ⟨room6, steps6, fa6, fc6, lx6, armed6, dead6, left6⟩, ⟨gn6, ga6, gc6, gl6, gs6⟩, u6, rfl, HS6.out.1.keepS K9.out (by simp) (fun j hj => ⟨.inl (by simp [hj]), by have := hXl.out j hj; omega⟩), S6, kW9, fun k hk => ⟨fun hx => (HS6.out.2.2 k hk).1 (by simp [hx]), (HS6.out.2.2 k hk).2⟩⟩
  · go_simp
    (try go_wp2_with fail)
    refine hK.out _ _ ?_ (fun hHeld => ?_)
    · exact hS.out _ (Kp.refl _ _)
    clear hK K
    try simp only [Act.put, List.getElem_toArray, List.getElem_cons_zero, List.getElem_cons_succ, List.setIfInBounds_toArray, List.set_cons_zero, List.set_cons_succ]
    refine wpAnyH_ready (rs := [1]) (by kernel_rfl) (by simp) ?_
    refine AllReadyH.cons rfl (fun K hK => ?_) AllReadyH.nil
    go_simp
    (try go_wp2_with fail)
    refine hK.out _ _ ?_ (fun hHeld => ?_)
    · exact hS.out _ (Kp.refl _ _)
    clear hK K
    try simp only [Act.put, List.getElem_toArray, List.getElem_cons_zero, List.getElem_cons_succ, List.setIfInBounds_toArray, List.set_cons_zero, List.set_cons_succ]
    refine wpAnyH_ready (rs := [4]) (by kernel_rfl) (by simp) ?_
    refine AllReadyH.cons rfl (fun K hK => ?_) AllReadyH.nil
    go_simp
    refine aC.out.mono ?_
    rintro e W2 ⟨dq, rfl, k2, hF⟩
    have aF := hid (hF W2 (Kp.refl _ _))
    try simp only [RD.v] at aF
    (try go_wp2_with fail)
    refine hK.out _ _ ?_ (fun hHeld => ?_)
    · exact hS.out _ k2
    clear hK K
    try simp only [Act.put, List.getElem_toArray, List.getElem_cons_zero, List.getElem_cons_succ, List.setIfInBounds_toArray, List.set_cons_zero, List.set_cons_succ]
    refine wpAnyH_take (i := 10) (v := ?_) rfl (by kernel_rfl) (by kernel_rfl) (by kernel_rfl) (fun _ _ _ h => h) (Or.inl ⟨by rfl, ?_⟩) (by assumption) ?_
    rotate_left
    · intro w hSw; (try dsimp only at hSw); go_simp <;> with_reducible rfl
    try simp only [Act.put, List.getElem_toArray, List.getElem_cons_zero, List.getElem_cons_succ, List.setIfInBounds_toArray, List.set_cons_zero, List.set_cons_succ]
    refine wpAnyH_ready (rs := [9]) (by kernel_rfl) (by simp) ?_
    refine AllReadyH.cons rfl (fun K hK => ?_) AllReadyH.nil
    go_simp
    refine aF.out.mono ?_
    rintro e W3 ⟨r3, rfl, k3, hSt⟩
    (try go_wp2_with fail)
    refine hK.out _ _ ?_ (fun hHeld => ?_)
    · exact hS.out _ (k2.trans k3 (by simp))
    clear hK K
    try simp only [Act.put, List.getElem_toArray, List.getElem_cons_zero, List.getElem_cons_succ, List.setIfInBounds_toArray, List.set_cons_zero, List.set_cons_succ]
    have k23 := k2.trans k3 (by simp)
    obtain ⟨y0, y1, y2⟩ := hSk.out W3 k23
    have hz3 := k23.size
    obtain ⟨W4, e4⟩ : ∃ Y, W3.setCell ⟨W.heap.size, 0, none⟩ (.pointer (some ⟨dq, 0, none⟩)) = Y := ⟨_, rfl⟩
    have k4 : Kp [W.heap.size] W3 W4 := by rw [← e4]; exact (Kp.refl _ _).setCell (by simp) _
    have x4 := y0.set 0 (by simp) (.pointer (some ⟨dq, 0, none⟩))
    rw [e4] at x4
    have hz4 := k4.size
    obtain ⟨W5, e5⟩ : ∃ Y, ((((((W4.setCell ⟨W.heap.size, 2, none⟩ (.int .i64 r3.room)).setCell ⟨W.heap.size, 3, none⟩ (.int .i64 r3.steps)).setCell ⟨W.heap.size, 4, none⟩ (.slice r3.fa r3.l.length r3.fc)).setCell ⟨W.heap.size, 5, none⟩ (.bool r3.armed)).setCell ⟨W.heap.size, 6, none⟩ (.bool r3.dead)).setCell ⟨W.heap.size, 7, none⟩ (.int .i64 r3.left)) = Y := ⟨_, rfl⟩
    have k5 : Kp [W.heap.size] W4 W5 := by rw [← e5]; exact (((((((Kp.refl _ _).setCell (by simp) _).setCell (by simp) _).setCell (by simp) _).setCell (by simp) _).setCell (by simp) _).setCell (by simp) _)
    have x5 : Bn W5 (W.heap.size) [.pointer (some ⟨dq, 0, none⟩), .pointer lp, .int .i64 r3.room, .int .i64 r3.steps, .slice r3.fa r3.l.length r3.fc, .bool r3.armed, .bool r3.dead, .int .i64 r3.left, .string ⟨g.nm.toArray⟩, .slice g.a g.l.length g.c, .int .i64 g.sz, .bool up] := by rw [← e5]; exact ((((((x4.set 2 (by simp) (.int .i64 r3.room)).set 3 (by simp) (.int .i64 r3.steps)).set 4 (by simp) (.slice r3.fa r3.l.length r3.fc)).set 5 (by simp) (.bool r3.armed)).set 6 (by simp) (.bool r3.dead)).set 7 (by simp) (.int .i64 r3.left))
    have hz5 := k5.size
    have k35 : Kp [W.heap.size] W3 W5 := k4.trans k5 (fun x hx => .inl hx)
    have w4 := (y1.keptS k4 (by simp <;> omega) (by omega)).get 3 _ rfl
    have w5 := (y1.keptS k35 (by simp <;> omega) (by omega)).get 3 _ rfl
    have y25 := y2.keptS k35 (by simp <;> omega) (by omega)
    have m0 := y0.get 0 _ rfl; have mf0 := y0.free 0
    have m2 := x4.get 2 _ rfl; have m3 := x4.get 3 _ rfl; have m4 := x4.get 4 _ rfl; have m5 := x4.get 5 _ rfl; have m6 := x4.get 6 _ rfl; have m7 := x4.get 7 _ rfl
    have mf2 := x4.free 2; have mf3 := x4.free 3; have mf4 := x4.free 4; have mf5 := x4.free 5; have mf6 := x4.free 6; have mf7 := x4.free 7
    have pc0 := x5.get 0 _ rfl; have pc1 := x5.get 1 _ rfl; have pc2 := x5.get 2 _ rfl; have pc3 := x5.get 3 _ rfl; have pc4 := x5.get 4 _ rfl; have pc5 := x5.get 5 _ rfl; have pc6 := x5.get 6 _ rfl; have pc7 := x5.get 7 _ rfl; have pc8 := x5.get 8 _ rfl; have pc9 := x5.get 9 _ rfl; have pc10 := x5.get 10 _ rfl; have pc11 := x5.get 11 _ rfl
    have HSt := hid (hSt.keepS (X' := (W.heap.size + 1 + 1) :: X) k35 (by simp) (fun j hj => by
      simp only [List.mem_cons] at hj
      rcases hj with rfl | hj
      · exact ⟨.inl (by simp), by omega⟩
      · exact ⟨.inl (by simp [hj]), by have := hXl.out j hj; omega⟩))
    have aS := hid (cStep2 (ub := up) HSt.out ⟨2, 0, none, 0, [], none, 0, []⟩ rfl hK (by omega) hTT.out)
    have HK := hid (And.intro k23 (And.intro k35 (And.intro y25 HSt.out.kp)))
    have W4' := hid w4
    have W5' := hid w5
    clear y0 y1 y2 x4 x5 k4 k5 k35 y25 hSt k3 w4 w5 aF
    obtain ⟨room3, steps3, fa3, fc3, lx3, armed3, dead3, left3⟩ := r3
    simp only [RD.v, LWv, OpZ.v, List.length_nil] at *
    refine wpAnyH_ready (rs := [11]) (by kernel_rfl) (by simp) ?_
    refine AllReadyH.cons rfl (fun K hK => ?_) AllReadyH.nil
    go_simp
    (try go_wp2_with fail)
    refine hK.out _ _ ?_ (fun hHeld => ?_)
    · exact W4'.out
    clear hK K
    try simp only [Act.put, List.getElem_toArray, List.getElem_cons_zero, List.getElem_cons_succ, List.setIfInBounds_toArray, List.set_cons_zero, List.set_cons_succ]
    refine wpAnyH_take (i := 12) (v := ?_) rfl (by kernel_rfl) (by kernel_rfl) (by kernel_rfl) (fun _ _ _ h => h) (Or.inl ⟨by rfl, ?_⟩) (by assumption) ?_
    rotate_left
    · intro w hSw; (try dsimp only at hSw); go_simp <;> with_reducible rfl
    try simp only [Act.put, List.getElem_toArray, List.getElem_cons_zero, List.getElem_cons_succ, List.setIfInBounds_toArray, List.set_cons_zero, List.set_cons_succ]
    refine wpAnyH_ready (rs := [13]) (by kernel_rfl) (by simp) ?_
    refine AllReadyH.cons rfl (fun K hK => ?_) AllReadyH.nil
    go_simp
    (try go_wp2_with fail)
    refine hK.out _ _ ?_ (fun hHeld => ?_)
    · exact W5'.out
    clear hK K
    try simp only [Act.put, List.getElem_toArray, List.getElem_cons_zero, List.getElem_cons_succ, List.setIfInBounds_toArray, List.set_cons_zero, List.set_cons_succ]
    refine wpAnyH_done (by kernel_rfl) ?_ _
    clear hHeld hS0 hS hSk
    go_wp2_with fail
    refine aS.out.mono ?_
    rintro e W6 ⟨d6, l6, r6, g6, u6, rfl, hSt6, S6, k6, hS6⟩
    have hz6 := k6.size
    have yr := HK.out.2.2.1.keptS k6 (fun hm => (hS6 _ hm).1 (by simp)) (by omega)
    obtain ⟨W9, e9, x9, k9⟩ := yr.set12 rfl (.pointer (some ⟨d6, 0, none⟩)) (.pointer l6) (.int .i64 r6.room) (.int .i64 r6.steps) (.slice r6.fa r6.l.length r6.fc) (.bool r6.armed) (.bool r6.dead) (.int .i64 r6.left) (.string ⟨g6.nm.toArray⟩) (.slice g6.a g6.l.length g6.c) (.int .i64 g6.sz) (.bool u6)
    have va0 := yr.get 0 _ rfl; have va1 := yr.get 1 _ rfl; have va2 := yr.get 2 _ rfl; have va3 := yr.get 3 _ rfl; have va4 := yr.get 4 _ rfl; have va5 := yr.get 5 _ rfl; have va6 := yr.get 6 _ rfl; have va7 := yr.get 7 _ rfl; have va8 := yr.get 8 _ rfl; have va9 := yr.get 9 _ rfl; have va10 := yr.get 10 _ rfl; have va11 := yr.get 11 _ rfl
    have vf0 := yr.free 0; have vf1 := yr.free 1; have vf2 := yr.free 2; have vf3 := yr.free 3; have vf4 := yr.free 4; have vf5 := yr.free 5; have vf6 := yr.free 6; have vf7 := yr.free 7; have vf8 := yr.free 8; have vf9 := yr.free 9; have vf10 := yr.free 10; have vf11 := yr.free 11
    have oo0 := hid (x9.get 0 _ rfl); have oo1 := hid (x9.get 1 _ rfl); have oo2 := hid (x9.get 2 _ rfl); have oo3 := hid (x9.get 3 _ rfl); have oo4 := hid (x9.get 4 _ rfl); have oo5 := hid (x9.get 5 _ rfl); have oo6 := hid (x9.get 6 _ rfl); have oo7 := hid (x9.get 7 _ rfl); have oo8 := hid (x9.get 8 _ rfl); have oo9 := hid (x9.get 9 _ rfl); have oo10 := hid (x9.get 10 _ rfl); have oo11 := hid (x9.get 11 _ rfl)
    have K9 := hid k9
    clear x9 k9
    have HS6 := hid (And.intro hSt6 (And.intro k6 hS6))
    clear yr hSt6 k6 aS
    obtain ⟨room6, steps6, fa6, fc6, lx6, armed6, dead6, left6⟩ := r6
    obtain ⟨gn6, ga6, gc6, gl6, gs6⟩ := g6
    simp only [LWv] at *
    go_wp2_with fail
    refine bodyPost_ret (v := .tuple #[.agg #[.pointer (some ⟨d6, 0, none⟩), .pointer l6, .int .i64 room6, .int .i64 steps6, .slice fa6 lx6.length fc6, .bool armed6, .bool dead6, .int .i64 left6, .string ⟨gn6.toArray⟩, .slice ga6 gl6.length gc6, .int .i64 gs6, .bool u6], .bool true]) (by simp [results, Tryz.results8, go_sem, oo0.out, oo1.out, oo2.out, oo3.out, oo4.out, oo5.out, oo6.out, oo7.out, oo8.out, oo9.out, oo10.out, oo11.out]) rfl ?_
    have z9 := K9.out.size
    have kW9 : Kp S6 W W9 := (((((hk1.out.trans KD.out (by simp)).trans HK.out.1 (by simp)).mono (by simp)).trans HK.out.2.1 (fun x hx => .inr (by simp at hx; omega))).trans HS6.out.2.1 (fun x hx => .inl hx)).trans K9.out (fun x hx => .inr (by simp at hx; omega))
    exact ⟨d6, l6, ⟨room6, steps6, fa6, fc6, lx6, armed6, dead6, left6⟩, ⟨gn6, ga6, gc6, gl6, gs6⟩, u6, rfl, HS6.out.1.keepS K9.out (by simp) (fun j hj => ⟨.inl (by simp [hj]), by have := hXl.out j hj; omega⟩), S6, kW9, fun k hk => ⟨fun hx => (HS6.out.2.2 k hk).1 (by simp [hx]), (HS6.out.2.2 k hk).2⟩⟩
end Go.Proofs.YtpkoikennimonaaGreatDoor
end

section
namespace Go.Proofs.YtpkoikennimonaaGreatDoor
open Go.RowKit Go.Hay
set_option linter.unusedVariables false
set_option linter.unusedSimpArgs false
variable {Q : Prop}

set_option maxHeartbeats 16000000 in
set_option maxRecDepth 100000 in
theorem cStep1 {w W : World} {dp : Nat} {lp : Option Addr} {r : RD} {g : RL} {K s : Nat} {X : List Nat} (h : StZ Q w W dp lp r g true K s X) (o : OpZ) (h0 : o.kind ≠ 0) (h2 : o.kind ≠ 2) (h3 : o.kind ≠ 3) (h4 : o.kind ≠ 4) (h5 : o.kind ≠ 5) (hK : K ≤ 400000000) :
    Calls Tryz.prog 8 #[LWv dp lp r g true, o.v] W (StepP Q w X (K) (s + 0) W) := by
  obtain ⟨W1, e1, k1, z1, x0, x1, x2⟩ := boxStep dp lp r g true o W
  have hXl : Hid (∀ k ∈ X, k < W.heap.size) := by
    obtain ⟨mb, xs, d, _, _, _, _, _, _, _, _, h9⟩ := h
    exact fun k hk => (h9 k hk).1
  have hkw := h.kp
  have hwz := hkw.size
  have h' := h.keepS (X' := (W.heap.size) :: (W.heap.size + 1) :: (W.heap.size + 1 + 1) :: X) k1 (by simp) (fun j hj => by
    simp only [List.mem_cons] at hj
    rcases hj with rfl | rfl | rfl | hj
    · exact ⟨.inr (Nat.le_refl _), by omega⟩
    · exact ⟨.inr (by omega), by omega⟩
    · exact ⟨.inr (by omega), by omega⟩
    · exact ⟨.inl hj, by have := hXl.out j hj; omega⟩)
  have HB := hid (And.intro x0 (And.intro x1 x2))
  have hk1 := hid k1
  have kd : Kp [] W1 W1.drew := (Kp.refl _ _).drew
  have hd' := h'.keep kd
  have HSd := hid hd'
  obtain ⟨mb, xs, d, _, _, _, _, _, _, _, h8, _⟩ := hd'
  obtain ⟨p, B, v, M, sz, rfl, l2, l3, l4, l5, l6, l7, l8, l9, l10, l11⟩ := h8 rfl
  have hln : M.length = g.l.length := by rw [← l7.2.1, bsl_len]
  have aLn : Hid (∀ A, Kp [] W1.drew A → Calls Tryz.prog 14 #[.pointer (some ⟨p, 0, none⟩)] A fun e w' => e = .returned (.int .i64 g.l.length) ∧ w' = A) := fun A k => by
    have := cLenQ (l2.kept k (by simp) (by simp))
    rw [hln] at this
    exact this
  have aSz : Hid (∀ A, Kp [] W1.drew A → Calls Tryz.prog 11 #[.pointer (some ⟨p, 0, none⟩)] A fun e w' => e = .returned (.int .i64 g.sz) ∧ w' = A) := fun A k => by
    have := cSizeQ (l2.kept k (by simp) (by simp))
    rw [← l7.2.2] at this
    exact this
  have aGo : Hid (∀ A, Kp [] W1.drew A → Calls Tryz.prog 10 #[.pointer (some ⟨p, 0, none⟩)] A fun e w' => ∃ a c, ∃ l : List Bs, e = .returned (.slice a l.length c) ∧ Kp [] A w' ∧ Calls Tryz.prog 15 #[.slice a l.length c, .slice g.a g.l.length g.c] w' fun e w'' => e = .returned (.bool true) ∧ Kp [] w' w'') := fun A k => by
    refine (cGoneQ (l2.kept k (by simp) (by simp)) (by omega) (fun x hx => by have := l10.2.2.2 x hx; omega)).mono ?_
    rintro e w' ⟨v', rfl, hr, k'⟩
    obtain ⟨a, c, l, rfl, hs, ho, hb⟩ := hr.bs
    have hl9 : l.length = M.length := by rw [← bsl_len, hb]
    have hS := cSameQ a g.a c g.c l g.l w' hs ((l6.kept k (by simp)).see.keptNew k') (fun y hy => (ho y hy).1) (fun y hy => ((l6.kept k (by simp)).ok y hy).keptNew k') (by omega) (by omega)
    rw [hb, l7.2.1, show decide (M = M) = true by simp] at hS
    exact ⟨a, c, l, rfl, k', hS⟩
  have y0 := x0.kept kd (by omega)
  have y2 := x2.kept kd (by omega)
  have hzd : Hid (W1.drew.heap.size = W1.heap.size) := rfl
  have HB2 : Hid (∀ A, Kp [] W1.drew A → Bn A (W.heap.size) [.pointer (some ⟨dp, 0, none⟩), .pointer (some ⟨p, 0, none⟩), .int .i64 r.room, .int .i64 r.steps, .slice r.fa r.l.length r.fc, .bool r.armed, .bool r.dead, .int .i64 r.left, .string ⟨g.nm.toArray⟩, .slice g.a g.l.length g.c, .int .i64 g.sz, .bool true] ∧ Bn A (W.heap.size + 1 + 1) [.pointer none, .pointer none, .int .i64 0, .int .i64 0, .slice none 0 0, .bool false, .bool false, .int .i64 0, .string ⟨#[]⟩, .slice none 0 0, .int .i64 0, .bool false]) := fun A k => ⟨y0.kept k (by rw [hzd.out]; omega), y2.kept k (by rw [hzd.out]; omega)⟩
  have o0 := x1.get 0 _ rfl
  have u11 := x0.get 11 _ rfl
  have d0 : (o.kind == 0) = false := by simpa using h0
  have d2 : (o.kind == 2) = false := by simpa using h2
  have d3 : (o.kind == 3) = false := by simpa using h3
  have d4 : (o.kind == 4) = false := by simpa using h4
  have d5 : (o.kind == 5) = false := by simpa using h5
  have KD := hid kd
  clear h h' h8 x0 x1 x2 k1 kd y0 y2 h0 h2 h3 h4 h5 l2 l3 l4 l5 l6 l7 l8 l9 l10 l11 hln HB
  obtain ⟨kind, on, oa, oc, ol, oka, okc, oks⟩ := o
  obtain ⟨room3, steps3, fa3, fc3, lx3, armed3, dead3, left3⟩ := r
  obtain ⟨gn, ga, gc, gl, gs⟩ := g
  simp only [LWv, OpZ.v] at *
  have hS : Hid (∀ A, Kp [] W1.drew A → A.cell? ⟨W.heap.size, 0, none⟩ = some (.pointer (some ⟨dp, 0, none⟩)) ∧ A.cell? ⟨W.heap.size, 1, none⟩ = some (.pointer (some ⟨p, 0, none⟩)) ∧ A.cell? ⟨W.heap.size, 2, none⟩ = some (.int .i64 room3) ∧ A.cell? ⟨W.heap.size, 3, none⟩ = some (.int .i64 steps3) ∧ A.cell? ⟨W.heap.size, 4, none⟩ = some (.slice fa3 lx3.length fc3) ∧ A.cell? ⟨W.heap.size, 5, none⟩ = some (.bool armed3) ∧ A.cell? ⟨W.heap.size, 6, none⟩ = some (.bool dead3) ∧ A.cell? ⟨W.heap.size, 7, none⟩ = some (.int .i64 left3) ∧ A.cell? ⟨W.heap.size, 8, none⟩ = some (.string ⟨gn.toArray⟩) ∧ A.cell? ⟨W.heap.size, 9, none⟩ = some (.slice ga gl.length gc) ∧ A.cell? ⟨W.heap.size, 10, none⟩ = some (.int .i64 gs) ∧ A.cell? ⟨W.heap.size, 11, none⟩ = some (.bool true)) := fun A k => by
    have h0 := (HB2.out A k).1
    exact ⟨h0.get 0 _ rfl, h0.get 1 _ rfl, h0.get 2 _ rfl, h0.get 3 _ rfl, h0.get 4 _ rfl, h0.get 5 _ rfl, h0.get 6 _ rfl, h0.get 7 _ rfl, h0.get 8 _ rfl, h0.get 9 _ rfl, h0.get 10 _ rfl, h0.get 11 _ rfl⟩
  have hS0 := hS.out _ (Kp.refl _ _)
  have t1 : ((gl.length : Int) == (gl.length : Int)) = true := by simp
  have t2 : (gs == gs) = true := by simp
  go_enter Tryz.func8, Tryz.ntmps8
  go_wp2_with fail
  refine wp_region_held_drew (S := fun A => A.cell? ⟨W.heap.size, 0, none⟩ = some (.pointer (some ⟨dp, 0, none⟩)) ∧ A.cell? ⟨W.heap.size, 1, none⟩ = some (.pointer (some ⟨p, 0, none⟩)) ∧ A.cell? ⟨W.heap.size, 2, none⟩ = some (.int .i64 room3) ∧ A.cell? ⟨W.heap.size, 3, none⟩ = some (.int .i64 steps3) ∧ A.cell? ⟨W.heap.size, 4, none⟩ = some (.slice fa3 lx3.length fc3) ∧ A.cell? ⟨W.heap.size, 5, none⟩ = some (.bool armed3) ∧ A.cell? ⟨W.heap.size, 6, none⟩ = some (.bool dead3) ∧ A.cell? ⟨W.heap.size, 7, none⟩ = some (.int .i64 left3) ∧ A.cell? ⟨W.heap.size, 8, none⟩ = some (.string ⟨gn.toArray⟩) ∧ A.cell? ⟨W.heap.size, 9, none⟩ = some (.slice ga gl.length gc) ∧ A.cell? ⟨W.heap.size, 10, none⟩ = some (.int .i64 gs) ∧ A.cell? ⟨W.heap.size, 11, none⟩ = some (.bool true)) (by kernel_rfl) ?_ (fun hHeld => ?_)
  · exact hS0
  generalize W1.drew = wd at *
  have hz0 : W.heap.size + 3 ≤ wd.heap.size := by rw [hzd.out]; omega
  clear hzd
  refine wpAnyH_take (i := 0) (v := ?_) rfl (by kernel_rfl) (by kernel_rfl) (by kernel_rfl) (fun _ _ _ h => h) (Or.inl ⟨by rfl, ?_⟩) (by assumption) ?_
  rotate_left
  · intro w hSw; (try dsimp only at hSw); go_simp <;> with_reducible rfl
  try simp only [Act.put, List.getElem_toArray, List.getElem_cons_zero, List.getElem_cons_succ, List.setIfInBounds_toArray, List.set_cons_zero, List.set_cons_succ]
  refine wpAnyH_take (i := 1) (v := ?_) rfl (by kernel_rfl) (by kernel_rfl) (by kernel_rfl) (fun _ _ _ h => h) (Or.inl ⟨by rfl, ?_⟩) (by assumption) ?_
  rotate_left
  · intro w hSw; (try dsimp only at hSw); go_simp <;> with_reducible rfl
  try simp only [Act.put, List.getElem_toArray, List.getElem_cons_zero, List.getElem_cons_succ, List.setIfInBounds_toArray, List.set_cons_zero, List.set_cons_succ]
  refine wpAnyH_take (i := 2) (v := ?_) rfl (by kernel_rfl) (by kernel_rfl) (by kernel_rfl) (fun _ _ _ h => h) (Or.inl ⟨by rfl, ?_⟩) (by assumption) ?_
  rotate_left
  · intro w hSw; (try dsimp only at hSw); go_simp <;> with_reducible rfl
  try simp only [Act.put, List.getElem_toArray, List.getElem_cons_zero, List.getElem_cons_succ, List.setIfInBounds_toArray, List.set_cons_zero, List.set_cons_succ]
  refine wpAnyH_take (i := 4) (v := ?_) rfl (by kernel_rfl) (by kernel_rfl) (by kernel_rfl) (fun _ _ _ h => h) (Or.inl ⟨by rfl, ?_⟩) (by assumption) ?_
  rotate_left
  · intro w hSw; (try dsimp only at hSw); go_simp <;> with_reducible rfl
  try simp only [Act.put, List.getElem_toArray, List.getElem_cons_zero, List.getElem_cons_succ, List.setIfInBounds_toArray, List.set_cons_zero, List.set_cons_succ]
  refine wpAnyH_take (i := 5) (v := ?_) rfl (by kernel_rfl) (by kernel_rfl) (by kernel_rfl) (fun _ _ _ h => h) (Or.inl ⟨by rfl, ?_⟩) (by assumption) ?_
  rotate_left
  · intro w hSw; (try dsimp only at hSw); go_simp <;> with_reducible rfl
  try simp only [Act.put, List.getElem_toArray, List.getElem_cons_zero, List.getElem_cons_succ, List.setIfInBounds_toArray, List.set_cons_zero, List.set_cons_succ]
  refine wpAnyH_take (i := 6) (v := ?_) rfl (by kernel_rfl) (by kernel_rfl) (by kernel_rfl) (fun _ _ _ h => h) (Or.inl ⟨by rfl, ?_⟩) (by assumption) ?_
  rotate_left
  · intro w hSw; (try dsimp only at hSw); go_simp <;> with_reducible rfl
  try simp only [Act.put, List.getElem_toArray, List.getElem_cons_zero, List.getElem_cons_succ, List.setIfInBounds_toArray, List.set_cons_zero, List.set_cons_succ]
  refine wpAnyH_take (i := 7) (v := ?_) rfl (by kernel_rfl) (by kernel_rfl) (by kernel_rfl) (fun _ _ _ h => h) (Or.inl ⟨by rfl, ?_⟩) (by assumption) ?_
  rotate_left
  · intro w hSw; (try dsimp only at hSw); go_simp <;> with_reducible rfl
  try simp only [Act.put, List.getElem_toArray, List.getElem_cons_zero, List.getElem_cons_succ, List.setIfInBounds_toArray, List.set_cons_zero, List.set_cons_succ]
  refine wpAnyH_ready (rs := [3]) (by kernel_rfl) (by simp) ?_
  refine AllReadyH.cons rfl (fun K hK => ?_) AllReadyH.nil
  go_simp
  refine (aLn.out wd (Kp.refl _ _)).mono ?_
  rintro e A1 ⟨rfl, hA1⟩
  rw [hA1]
  (try go_wp2_with fail)
  refine hK.out _ _ ?_ (fun hHeld => ?_)
  · exact hHeld
  clear hK K
  try simp only [Act.put, List.getElem_toArray, List.getElem_cons_zero, List.getElem_cons_succ, List.setIfInBounds_toArray, List.set_cons_zero, List.set_cons_succ]
  refine wpAnyH_take (i := 8) (v := ?_) rfl (by kernel_rfl) (by kernel_rfl) (by kernel_rfl) (fun _ _ _ h => h) (Or.inl ⟨by rfl, ?_⟩) (by assumption) ?_
  rotate_left
  · intro w hSw; (try dsimp only at hSw); go_simp <;> with_reducible rfl
  try simp only [Act.put, List.getElem_toArray, List.getElem_cons_zero, List.getElem_cons_succ, List.setIfInBounds_toArray, List.set_cons_zero, List.set_cons_succ]
  try simp only [t1, t2]
  refine wpAnyH_take (i := 9) (v := ?_) rfl (by kernel_rfl) (by kernel_rfl) (by kernel_rfl) (fun _ _ _ h => h) (Or.inl ⟨by rfl, ?_⟩) (by assumption) ?_
  rotate_left
  · intro w hSw; (try dsimp only at hSw); go_simp <;> with_reducible rfl
  try simp only [Act.put, List.getElem_toArray, List.getElem_cons_zero, List.getElem_cons_succ, List.setIfInBounds_toArray, List.set_cons_zero, List.set_cons_succ]
  try simp only [t1, t2]
  refine wpAnyH_take (i := 10) (v := ?_) rfl (by kernel_rfl) (by kernel_rfl) (by kernel_rfl) (fun _ _ _ h => h) (Or.inl ⟨by rfl, ?_⟩) (by assumption) ?_
  rotate_left
  · intro w hSw; (try dsimp only at hSw); go_simp <;> with_reducible rfl
  try simp only [Act.put, List.getElem_toArray, List.getElem_cons_zero, List.getElem_cons_succ, List.setIfInBounds_toArray, List.set_cons_zero, List.set_cons_succ]
  refine wpAnyH_take (i := 11) (v := ?_) rfl (by kernel_rfl) (by kernel_rfl) (by kernel_rfl) (fun _ _ _ h => h) (Or.inl ⟨by rfl, ?_⟩) (by assumption) ?_
  rotate_left
  · intro w hSw; (try dsimp only at hSw); go_simp <;> with_reducible rfl
  try simp only [Act.put, List.getElem_toArray, List.getElem_cons_zero, List.getElem_cons_succ, List.setIfInBounds_toArray, List.set_cons_zero, List.set_cons_succ]
  refine wpAnyH_take (i := 13) (v := ?_) rfl (by kernel_rfl) (by kernel_rfl) (by kernel_rfl) (fun _ _ _ h => h) (Or.inl ⟨by rfl, ?_⟩) (by assumption) ?_
  rotate_left
  · intro w hSw; (try dsimp only at hSw); go_simp <;> with_reducible rfl
  try simp only [Act.put, List.getElem_toArray, List.getElem_cons_zero, List.getElem_cons_succ, List.setIfInBounds_toArray, List.set_cons_zero, List.set_cons_succ]
  refine wpAnyH_take (i := 14) (v := ?_) rfl (by kernel_rfl) (by kernel_rfl) (by kernel_rfl) (fun _ _ _ h => h) (Or.inl ⟨by rfl, ?_⟩) (by assumption) ?_
  rotate_left
  · intro w hSw; (try dsimp only at hSw); go_simp <;> with_reducible rfl
  try simp only [Act.put, List.getElem_toArray, List.getElem_cons_zero, List.getElem_cons_succ, List.setIfInBounds_toArray, List.set_cons_zero, List.set_cons_succ]
  refine wpAnyH_take (i := 15) (v := ?_) rfl (by kernel_rfl) (by kernel_rfl) (by kernel_rfl) (fun _ _ _ h => h) (Or.inl ⟨by rfl, ?_⟩) (by assumption) ?_
  rotate_left
  · intro w hSw; (try dsimp only at hSw); go_simp <;> with_reducible rfl
  try simp only [Act.put, List.getElem_toArray, List.getElem_cons_zero, List.getElem_cons_succ, List.setIfInBounds_toArray, List.set_cons_zero, List.set_cons_succ]
  refine wpAnyH_ready (rs := [12]) (by kernel_rfl) (by simp) ?_
  refine AllReadyH.cons rfl (fun K hK => ?_) AllReadyH.nil
  go_simp
  refine (aSz.out wd (Kp.refl _ _)).mono ?_
  rintro e A2 ⟨rfl, hA2⟩
  rw [hA2]
  (try go_wp2_with fail)
  refine hK.out _ _ ?_ (fun hHeld => ?_)
  · exact hHeld
  clear hK K
  try simp only [Act.put, List.getElem_toArray, List.getElem_cons_zero, List.getElem_cons_succ, List.setIfInBounds_toArray, List.set_cons_zero, List.set_cons_succ]
  refine wpAnyH_take (i := 16) (v := ?_) rfl (by kernel_rfl) (by kernel_rfl) (by kernel_rfl) (fun _ _ _ h => h) (Or.inl ⟨by rfl, ?_⟩) (by assumption) ?_
  rotate_left
  · intro w hSw; (try dsimp only at hSw); go_simp <;> with_reducible rfl
  try simp only [Act.put, List.getElem_toArray, List.getElem_cons_zero, List.getElem_cons_succ, List.setIfInBounds_toArray, List.set_cons_zero, List.set_cons_succ]
  try simp only [t1, t2]
  refine wpAnyH_take (i := 17) (v := ?_) rfl (by kernel_rfl) (by kernel_rfl) (by kernel_rfl) (fun _ _ _ h => h) (Or.inl ⟨by rfl, ?_⟩) (by assumption) ?_
  rotate_left
  · intro w hSw; (try dsimp only at hSw); go_simp <;> with_reducible rfl
  try simp only [Act.put, List.getElem_toArray, List.getElem_cons_zero, List.getElem_cons_succ, List.setIfInBounds_toArray, List.set_cons_zero, List.set_cons_succ]
  try simp only [t1, t2]
  refine wpAnyH_take (i := 18) (v := ?_) rfl (by kernel_rfl) (by kernel_rfl) (by kernel_rfl) (fun _ _ _ h => h) (Or.inl ⟨by rfl, ?_⟩) (by assumption) ?_
  rotate_left
  · intro w hSw; (try dsimp only at hSw); go_simp <;> with_reducible rfl
  try simp only [Act.put, List.getElem_toArray, List.getElem_cons_zero, List.getElem_cons_succ, List.setIfInBounds_toArray, List.set_cons_zero, List.set_cons_succ]
  try simp only [t1, t2]
  refine wpAnyH_take (i := 19) (v := ?_) rfl (by kernel_rfl) (by kernel_rfl) (by kernel_rfl) (fun _ _ _ h => h) (Or.inl ⟨by rfl, ?_⟩) (by assumption) ?_
  rotate_left
  · intro w hSw; (try dsimp only at hSw); go_simp <;> with_reducible rfl
  try simp only [Act.put, List.getElem_toArray, List.getElem_cons_zero, List.getElem_cons_succ, List.setIfInBounds_toArray, List.set_cons_zero, List.set_cons_succ]
  refine wpAnyH_take (i := 20) (v := ?_) rfl (by kernel_rfl) (by kernel_rfl) (by kernel_rfl) (fun _ _ _ h => h) (Or.inl ⟨by rfl, ?_⟩) (by assumption) ?_
  rotate_left
  · intro w hSw; (try dsimp only at hSw); go_simp <;> with_reducible rfl
  try simp only [Act.put, List.getElem_toArray, List.getElem_cons_zero, List.getElem_cons_succ, List.setIfInBounds_toArray, List.set_cons_zero, List.set_cons_succ]
  refine wpAnyH_take (i := 22) (v := ?_) rfl (by kernel_rfl) (by kernel_rfl) (by kernel_rfl) (fun _ _ _ h => h) (Or.inl ⟨by rfl, ?_⟩) (by assumption) ?_
  rotate_left
  · intro w hSw; (try dsimp only at hSw); go_simp <;> with_reducible rfl
  try simp only [Act.put, List.getElem_toArray, List.getElem_cons_zero, List.getElem_cons_succ, List.setIfInBounds_toArray, List.set_cons_zero, List.set_cons_succ]
  refine wpAnyH_take (i := 23) (v := ?_) rfl (by kernel_rfl) (by kernel_rfl) (by kernel_rfl) (fun _ _ _ h => h) (Or.inl ⟨by rfl, ?_⟩) (by assumption) ?_
  rotate_left
  · intro w hSw; (try dsimp only at hSw); go_simp <;> with_reducible rfl
  try simp only [Act.put, List.getElem_toArray, List.getElem_cons_zero, List.getElem_cons_succ, List.setIfInBounds_toArray, List.set_cons_zero, List.set_cons_succ]
  refine wpAnyH_take (i := 24) (v := ?_) rfl (by kernel_rfl) (by kernel_rfl) (by kernel_rfl) (fun _ _ _ h => h) (Or.inl ⟨by rfl, ?_⟩) (by assumption) ?_
  rotate_left
  · intro w hSw; (try dsimp only at hSw); go_simp <;> with_reducible rfl
  try simp only [Act.put, List.getElem_toArray, List.getElem_cons_zero, List.getElem_cons_succ, List.setIfInBounds_toArray, List.set_cons_zero, List.set_cons_succ]
  refine wpAnyH_ready (rs := [21]) (by kernel_rfl) (by simp) ?_
  refine AllReadyH.cons rfl (fun K hK => ?_) AllReadyH.nil
  go_simp
  refine (aGo.out wd (Kp.refl _ _)).mono ?_
  rintro e A3 ⟨ba, bc, bl, rfl, k3, hSm⟩
  have aSm := hid hSm
  clear hSm
  (try go_wp2_with fail)
  refine hK.out _ _ ?_ (fun hHeld => ?_)
  · exact hS.out _ k3
  clear hK K
  try simp only [Act.put, List.getElem_toArray, List.getElem_cons_zero, List.getElem_cons_succ, List.setIfInBounds_toArray, List.set_cons_zero, List.set_cons_succ]
  refine wpAnyH_ready (rs := [25]) (by kernel_rfl) (by simp) ?_
  refine AllReadyH.cons rfl (fun K hK => ?_) AllReadyH.nil
  go_simp
  refine aSm.out.mono ?_
  rintro e A4 ⟨rfl, k4⟩
  (try go_wp2_with fail)
  refine hK.out _ _ ?_ (fun hHeld => ?_)
  · exact hS.out _ (k3.trans k4 (by simp))
  clear hK K
  try simp only [Act.put, List.getElem_toArray, List.getElem_cons_zero, List.getElem_cons_succ, List.setIfInBounds_toArray, List.set_cons_zero, List.set_cons_succ]
  have k34 := k3.trans k4 (by simp)
  obtain ⟨yq, yr⟩ := HB2.out A4 k34
  have hz4 := k34.size
  obtain ⟨W9, e9, x9, k9⟩ := yr.set12 rfl (.pointer (some ⟨dp, 0, none⟩)) (.pointer (some ⟨p, 0, none⟩)) (.int .i64 room3) (.int .i64 steps3) (.slice fa3 lx3.length fc3) (.bool armed3) (.bool dead3) (.int .i64 left3) (.string ⟨gn.toArray⟩) (.slice ga gl.length gc) (.int .i64 gs) (.bool true)
  have va0 := yr.get 0 _ rfl; have va1 := yr.get 1 _ rfl; have va2 := yr.get 2 _ rfl; have va3 := yr.get 3 _ rfl; have va4 := yr.get 4 _ rfl; have va5 := yr.get 5 _ rfl; have va6 := yr.get 6 _ rfl; have va7 := yr.get 7 _ rfl; have va8 := yr.get 8 _ rfl; have va9 := yr.get 9 _ rfl; have va10 := yr.get 10 _ rfl; have va11 := yr.get 11 _ rfl
  have vf0 := yr.free 0; have vf1 := yr.free 1; have vf2 := yr.free 2; have vf3 := yr.free 3; have vf4 := yr.free 4; have vf5 := yr.free 5; have vf6 := yr.free 6; have vf7 := yr.free 7; have vf8 := yr.free 8; have vf9 := yr.free 9; have vf10 := yr.free 10; have vf11 := yr.free 11
  have oo0 := hid (x9.get 0 _ rfl); have oo1 := hid (x9.get 1 _ rfl); have oo2 := hid (x9.get 2 _ rfl); have oo3 := hid (x9.get 3 _ rfl); have oo4 := hid (x9.get 4 _ rfl); have oo5 := hid (x9.get 5 _ rfl); have oo6 := hid (x9.get 6 _ rfl); have oo7 := hid (x9.get 7 _ rfl); have oo8 := hid (x9.get 8 _ rfl); have oo9 := hid (x9.get 9 _ rfl); have oo10 := hid (x9.get 10 _ rfl); have oo11 := hid (x9.get 11 _ rfl)
  have K9 := hid k9
  clear x9 k9
  have hS9 : Hid (W9.cell? ⟨W.heap.size, 0, none⟩ = some (.pointer (some ⟨dp, 0, none⟩)) ∧ W9.cell? ⟨W.heap.size, 1, none⟩ = some (.pointer (some ⟨p, 0, none⟩)) ∧ W9.cell? ⟨W.heap.size, 2, none⟩ = some (.int .i64 room3) ∧ W9.cell? ⟨W.heap.size, 3, none⟩ = some (.int .i64 steps3) ∧ W9.cell? ⟨W.heap.size, 4, none⟩ = some (.slice fa3 lx3.length fc3) ∧ W9.cell? ⟨W.heap.size, 5, none⟩ = some (.bool armed3) ∧ W9.cell? ⟨W.heap.size, 6, none⟩ = some (.bool dead3) ∧ W9.cell? ⟨W.heap.size, 7, none⟩ = some (.int .i64 left3) ∧ W9.cell? ⟨W.heap.size, 8, none⟩ = some (.string ⟨gn.toArray⟩) ∧ W9.cell? ⟨W.heap.size, 9, none⟩ = some (.slice ga gl.length gc) ∧ W9.cell? ⟨W.heap.size, 10, none⟩ = some (.int .i64 gs) ∧ W9.cell? ⟨W.heap.size, 11, none⟩ = some (.bool true)) := by
    have h0 := yq.keptS K9.out (by simp <;> omega) (by omega)
    exact ⟨h0.get 0 _ rfl, h0.get 1 _ rfl, h0.get 2 _ rfl, h0.get 3 _ rfl, h0.get 4 _ rfl, h0.get 5 _ rfl, h0.get 6 _ rfl, h0.get 7 _ rfl, h0.get 8 _ rfl, h0.get 9 _ rfl, h0.get 10 _ rfl, h0.get 11 _ rfl⟩
  clear yq yr
  refine wpAnyH_take (i := 26) (v := ?_) rfl (by kernel_rfl) (by kernel_rfl) (by kernel_rfl) (fun _ _ _ h => h) (Or.inl ⟨by rfl, ?_⟩) (by assumption) ?_
  rotate_left
  · intro w hSw; (try dsimp only at hSw); go_simp <;> with_reducible rfl
  try simp only [Act.put, List.getElem_toArray, List.getElem_cons_zero, List.getElem_cons_succ, List.setIfInBounds_toArray, List.set_cons_zero, List.set_cons_succ]
  try simp only [t1, t2]
  refine wpAnyH_ready (rs := [27]) (by kernel_rfl) (by simp) ?_
  refine AllReadyH.cons rfl (fun K hK => ?_) AllReadyH.nil
  go_simp
  (try go_wp2_with fail)
  refine hK.out _ _ ?_ (fun hHeld => ?_)
  · exact hS9.out
  clear hK K
  try simp only [Act.put, List.getElem_toArray, List.getElem_cons_zero, List.getElem_cons_succ, List.setIfInBounds_toArray, List.set_cons_zero, List.set_cons_succ]
  refine wpAnyH_take (i := 28) (v := ?_) rfl (by kernel_rfl) (by kernel_rfl) (by kernel_rfl) (fun _ _ _ h => h) (Or.inl ⟨by rfl, ?_⟩) (by assumption) ?_
  rotate_left
  · intro w hSw; (try dsimp only at hSw); go_simp <;> with_reducible rfl
  try simp only [Act.put, List.getElem_toArray, List.getElem_cons_zero, List.getElem_cons_succ, List.setIfInBounds_toArray, List.set_cons_zero, List.set_cons_succ]
  refine wpAnyH_done (by kernel_rfl) ?_ _
  go_wp2_with fail
  refine bodyPost_ret (v := .tuple #[.agg #[.pointer (some ⟨dp, 0, none⟩), .pointer (some ⟨p, 0, none⟩), .int .i64 room3, .int .i64 steps3, .slice fa3 lx3.length fc3, .bool armed3, .bool dead3, .int .i64 left3, .string ⟨gn.toArray⟩, .slice ga gl.length gc, .int .i64 gs, .bool true], .bool true]) (by simp [results, Tryz.results8, go_sem, oo0.out, oo1.out, oo2.out, oo3.out, oo4.out, oo5.out, oo6.out, oo7.out, oo8.out, oo9.out, oo10.out, oo11.out]) rfl ?_
  have z9 := K9.out.size
  have kW9 : Kp [] W W9 := ((hk1.out.trans KD.out (by simp)).trans k34 (by simp)).trans K9.out (fun x hx => .inr (by simp at hx; omega))
  exact ⟨dp, some ⟨p, 0, none⟩, ⟨room3, steps3, fa3, fc3, lx3, armed3, dead3, left3⟩, ⟨gn, ga, gc, gl, gs⟩, true, rfl, (HSd.out.keep k34).keepS K9.out (by simp) (fun j hj => ⟨.inl (by simp [hj]), by have := hXl.out j hj; omega⟩), [], kW9, by simp⟩
end Go.Proofs.YtpkoikennimonaaGreatDoor
end

section
namespace Go.Proofs.YtpkoikennimonaaGreatDoor
open Go.RowKit Go.Hay
set_option linter.unusedVariables false
set_option linter.unusedSimpArgs false
variable {Q : Prop}

def OpZ.wt (o : OpZ) : Nat := (frmR (bsl o.l)).1.length + o.l.length
/-- A call that lies in the memory. -/
structure OpZ.ok (w : World) (o : OpZ) : Prop where
  n0 : -9223372036854775808 ≤ o.n
  n1 : o.n < 9223372036854775808
  see : BsE.See w o.a o.l
  oks : ∀ y ∈ o.l, y.ok w
  ll : o.l.length ≤ 400000000
  lw : ∀ y ∈ o.l, y.bs.length ≤ 140737488351232
  ks : Ints w o.ka o.ks
  kl : o.ks.length ≤ o.kc
  kc : o.kc ≤ 9223372036854775807
  k64 : ∀ k ∈ o.ks, -9223372036854775808 ≤ k ∧ k < 9223372036854775808
theorem seeBs_lt {w : World} {a : Option Addr} {l : List Bs} (h : BsE.See w a l) (hne : l ≠ []) : ∀ k ∈ blk a, k < w.heap.size := fun q hq => by
  rcases h with e' | ⟨g', o', e', hc'⟩
  · exact absurd e' hne
  · rw [e'] at hq
    simp [blk] at hq
    subst hq
    have h0 : 0 < (BsE.cs l).length := by rw [El.cs_length]; have : 0 < l.length := List.length_pos_iff.2 hne; simp [BsE]; omega
    have := World.block_lt_of_cell? _ _ (hc' 0 _ (List.getElem?_eq_getElem h0))
    simpa using this
theorem rft_lt {w : World} {l : List Bs} (h : ∀ y ∈ l, y.ok w) : ∀ k ∈ rft l, k < w.heap.size := fun q hq => by
  obtain ⟨y, hy, hj⟩ := List.mem_flatMap.1 hq
  by_cases hne : y.bs = []
  · rw [if_pos hne] at hj; cases hj
  · rw [if_neg hne] at hj
    exact (h y hy).see.lt hne q hj
theorem StZ.mono {w W : World} {dp : Nat} {lp : Option Addr} {r : RD} {g : RL} {up : Bool} {K s K' s' : Nat} {X : List Nat} (h : StZ Q w W dp lp r g up K s X) (hK : K ≤ K') (hs : s ≤ s') : StZ Q w W dp lp r g up K' s' X := by
  obtain ⟨mb, xs, d, h1, h2, h3, h4, h5, h6, h7, h8, h9⟩ := h
  exact ⟨mb, xs, d, h1, h2.mono hK hs, h3, h4, h5, h6, h7, fun hu => (h8 hu).mono hK, h9⟩
theorem StepP.mono {w : World} {X : List Nat} {K s K' s' : Nat} {W : World} {e : Ending} {W' : World} (h : StepP Q w X K s W e W') (hK : K ≤ K') (hs : s ≤ s') : StepP Q w X K' s' W e W' := by
  obtain ⟨dp, lp, r, g, up, he, hS, hk⟩ := h
  exact ⟨dp, lp, r, g, up, he, hS.mono hK hs, hk⟩
/-- A step, whatever the call is. -/
theorem cStepZ {w W : World} {dp : Nat} {lp : Option Addr} {r : RD} {g : RL} {up : Bool} {K s : Nat} {X : List Nat} (h : StZ Q w W dp lp r g up K s X) (o : OpZ) (ho : o.ok w) (hK : K ≤ 400000000) (hs : s ≤ 6000000000000000000) (hT : Tab w) (hq : o.kind ≠ 4 ∨ Q = False) :
    Calls Tryz.prog 8 #[LWv dp lp r g up, o.v] W (StepP Q w X (K + o.wt) (s + 3) W) := by
  by_cases h2 : o.kind = 2
  · exact (cStep2 h o h2 (by omega) hs hT).mono fun e W' p => p.mono (by omega) (by omega)
  by_cases h3 : o.kind = 3
  · exact (cStep3 h o h3 (by omega) hs).mono fun e W' p => p.mono (by omega) (by omega)
  by_cases h4 : o.kind = 4
  · obtain rfl : Q = False := hq.resolve_left (fun h => h h4)
    exact (cStep4 h o h4 ho.n0 ho.n1).mono fun e W' p => p.mono (by omega) (by omega)
  by_cases h5 : o.kind = 5
  · exact (cStep5 h o h5 (by omega) hT (fun X k => ho.ks.kept k) ho.kl ho.kc ho.k64).mono fun e W' p => p.mono (by omega) (by omega)
  cases up with
  | false => exact (cStepN h o h2 h3 h4 h5).mono fun e W' p => p.mono (by omega) (by omega)
  | true =>
    by_cases h0 : o.kind = 0
    · exact (cStep0 h o h0 hK hs hT (fun X k => ⟨ho.see.keptNew k, fun y hy => (ho.oks y hy).keptNew k⟩) (seeBs_lt ho.see) (rft_lt ho.oks) ho.ll ho.lw).mono fun e W' p => p.mono (by unfold OpZ.wt; omega) (by omega)
    · exact (cStep1 h o h0 h2 h3 h4 h5 hK).mono fun e W' p => p.mono (by omega) (by omega)
/-- The files. -/
theorem StZ.files {w W0 W : World} {dp : Nat} {lp : Option Addr} {r : RD} {g : RL} {up : Bool} {K s : Nat} {X : List Nat} (h : StZ Q w W0 dp lp r g up K s X) (k : Kp [] W0 W) (hK : K ≤ 140737000000000) :
    Calls Tryz.prog 9 #[LWv dp lp r g up] W fun e w' => e = .returned (.bool true) ∧ Kp [] W w' := by
  obtain ⟨mb, xs, d, h1, h2, h3, h4, h5, h6, h7, h8, hX9⟩ := h
  have hxl : xs.length ≤ 1 := by
    have := congrArg List.length h1.fl
    have h9 := h2.len
    simp at this
    omega
  exact cFiles (h1.keptNew k) (h2.small (by omega)) (by omega) lp r g up (h3.keptNew k) h4
/-- New disks, at both. -/
theorem StZ.new {w W1 W2 : World} {dp mb : Nat} {room : Int} {r : RD} (h1 : room < 9223372036854775808) (hD : Disk W1 dp mb [] (newD room)) (k1 : Kp [] w W1) (hdp : w.heap.size ≤ dp) (hmb : w.heap.size ≤ mb) (hR : RdOk W2 r) (hL : Like r (newD room)) (k2 : Kp [] W1 W2) (hf : ∀ k ∈ r.foot, W1.heap.size ≤ k) (lp : Option Addr) (g : RL) : StZ Q w W2 dp lp r g false 0 0 [] := by
  refine ⟨mb, [], newD room, hD.keptNew k2, OneQ.new room h1, hR, hL, k1.trans k2 (by simp), fun k hk => ?_, fun k hk hm => ?_, (fun h => by cases h), by simp⟩
  · simp [foot] at hk; rcases hk with rfl | rfl <;> omega
  · have := hf k hk; have := hD.lt k hm; omega
end Go.Proofs.YtpkoikennimonaaGreatDoor
end

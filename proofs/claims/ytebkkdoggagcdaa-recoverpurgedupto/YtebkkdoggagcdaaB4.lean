/- Stable sorting: swapRange. Stable sorting: rotate. Stable sorting: insertionSort. -/
import Derived.Test.YtebkkdoggagcdaaB3
import Derived.Deep.RegionHeld3
section
namespace Go.Proofs.Ytebkkdoggagcdaa
open Go.RowKit Go.Hay
set_option linter.unusedVariables false
set_option linter.unusedSimpArgs false

set_option maxHeartbeats 8000000 in
set_option maxRecDepth 100000 in
theorem cSwapR (g o n cap : Nat) (A : Nat → Vr) (p : Nat → Nat) (a b m : Nat) (f : Value) (w : World) (h : Hd w g o n cap A p) (h1 : a + m ≤ b) (h2 : b + m ≤ n) (hn : n ≤ 4000000000000) (hcap : n ≤ cap) : Calls Try.prog 53 #[.slice (some ⟨g, o, none⟩) n cap, .int .i64 (a : Int), .int .i64 (b : Int), .int .i64 (m : Int), f] w fun e w' => (∃ v, e = .returned v) ∧ Hd w' g o n cap A (fun k => p (swR a b m k)) ∧ Kp [g] w w' := by
  have HH := hid h
  clear h
  go_enter Try.func53, Try.ntmps53
  go_wp2_with fail
  go_loopw [10] (fun iv wr => ∃ i : Nat, i ≤ m ∧ iv = .int .i64 (i : Int) ∧ Hid (Hd wr g o n cap A (fun k => p (swR a b i k)) ∧ Kp [g] w wr)) (fun iv _ => m - (intOf iv).toNat)
  case atStart => exact ⟨0, Nat.zero_le _, rfl, hid ⟨by rw [swR_zero]; exact HH.out, Kp.refl _ _⟩⟩
  case round =>
    obtain ⟨i, hi, rfl, hr⟩ := hrel
    by_cases hlt : i < m
    · obtain ⟨x, hx⟩ : ∃ x : Nat, x = a + i := ⟨_, rfl⟩
      obtain ⟨y, hy⟩ : ∃ y : Nat, y = b + i := ⟨_, rfl⟩
      have ex : (a : Int) + (i : Int) = (x : Int) := by omega
      have ey : (b : Int) + (i : Int) = (y : Int) := by omega
      have hxn : x < n := by omega
      have hyn : y < n := by omega
      have b1 : (-9223372036854775808 : Int) ≤ (a : Int) + (i : Int) := by omega
      have b2 : (a : Int) + (i : Int) ≤ 9223372036854775807 := by omega
      have b3 : (-9223372036854775808 : Int) ≤ (b : Int) + (i : Int) := by omega
      have b4 : (b : Int) + (i : Int) ≤ 9223372036854775807 := by omega
      have i1 : (0 : Int) ≤ (x : Int) := by omega
      have i2 : (x : Int) < (n : Int) := by omega
      have i3 : (0 : Int) ≤ (y : Int) := by omega
      have i4 : (y : Int) < (n : Int) := by omega
      have i5 : (i : Int) + 1 ≤ 9223372036854775807 := by omega
      have i6 : (i : Int) < (m : Int) := by omega
      have wx : IntKind.i64.wrap ((a : Int) + (i : Int)) = (x : Int) := by rw [ex, IntKind.wrap_i64]; omega
      have wy : IntKind.i64.wrap ((b : Int) + (i : Int)) = (y : Int) := by rw [ey, IntKind.wrap_i64]; omega
      have wx2 : IntKind.i64.wrap (x : Int) = (x : Int) := by rw [IntKind.wrap_i64]; omega
      have wy2 : IntKind.i64.wrap (y : Int) = (y : Int) := by rw [IntKind.wrap_i64]; omega
      obtain ⟨P, hP⟩ : ∃ P, Hid (P = fun k => p (swR a b i k)) := ⟨_, hid rfl⟩
      have hd := hr.out.1
      have kr := hid hr.out.2
      rw [← hP.out] at hd
      have HX := hid (And.intro hx hy)
      clear hx hy hr
      go_wp2_with fail
      refine wp_region_held_drew (S := fun _ => True) (by kernel_rfl) trivial (fun hHeld => ?_)
      have KD : Kp [] wr wr.drew := (Kp.refl [] wr).drew
      have hd2 := hd.kept KD
      generalize wr.drew = Wd at *
      obtain ⟨⟨x0, x1, x2, x3⟩, fx0, fx1, fx2, fx3⟩ := hd2.cells x (by omega)
      obtain ⟨⟨y0, y1, y2, y3⟩, fy0, fy1, fy2, fy3⟩ := hd2.cells y (by omega)
      have hsw := hd2.swap x y (by omega) (by omega)
      have hpc := put4_cells hd2 x y (by omega) (by omega)
      obtain ⟨V1, hV1⟩ : ∃ V, V = A (P x) := ⟨_, rfl⟩
      obtain ⟨V2, hV2⟩ : ∃ V, V = A (P y) := ⟨_, rfl⟩
      rw [← hV1] at x0 x1 x2 x3 hsw
      rw [← hV2] at y0 y1 y2 y3 hsw
      replace hpc := hpc V2
      obtain ⟨⟨u0, hu0⟩, gu0⟩ := hpc 0 (by omega)
      obtain ⟨⟨u1, hu1⟩, gu1⟩ := hpc 1 (by omega)
      obtain ⟨⟨u2, hu2⟩, gu2⟩ := hpc 2 (by omega)
      obtain ⟨⟨u3, hu3⟩, gu3⟩ := hpc 3 (by omega)
      simp only [Nat.add_zero] at hu0 gu0
      obtain ⟨W1, eW1⟩ : ∃ Y, ((((Wd.setCell ⟨g, o + x * 4, none⟩ (.int .u64 V2.e)).setCell ⟨g, o + x * 4 + 1, none⟩ (.int .u32 V2.n)).setCell ⟨g, o + x * 4 + 2, none⟩ (.slice V2.a V2.l.length V2.c)).setCell ⟨g, o + x * 4 + 3, none⟩ (.int .u64 V2.d)) = Y := ⟨_, rfl⟩
      have eP1 : put4 Wd g (o + x * 4) V2 = W1 := eW1
      obtain ⟨W2, eW2⟩ : ∃ Y, ((((W1.setCell ⟨g, o + y * 4, none⟩ (.int .u64 V1.e)).setCell ⟨g, o + y * 4 + 1, none⟩ (.int .u32 V1.n)).setCell ⟨g, o + y * 4 + 2, none⟩ (.slice V1.a V1.l.length V1.c)).setCell ⟨g, o + y * 4 + 3, none⟩ (.int .u64 V1.d)) = Y := ⟨_, rfl⟩
      have eP2 : put4 W1 g (o + y * 4) V1 = W2 := eW2
      have kP1 : Kp [g] Wd W1 := by rw [← eP1]; exact put4_kp _ _ _ _
      have kP2 : Kp [g] W1 W2 := by rw [← eP2]; exact put4_kp _ _ _ _
      simp only [eP1] at hu0 hu1 hu2 hu3 gu0 gu1 gu2 gu3 hsw
      simp only [eP2] at hsw
      have zW1 := kP1.size
      have HSW := hid (And.intro hsw (kP1.trans kP2 (by simp)))
      have zg : g < Wd.heap.size := hd2.lt
      have zg1 : g < W1.heap.size := by omega
      clear hpc hsw eP1 eP2 kP1 kP2 hV1 hV2 zW1
      obtain ⟨e1, n1, a1, c1, l1, d1⟩ := V1
      obtain ⟨e2, n2, a2, c2, l2, d2⟩ := V2
      dsimp only at *
      have hfin : Hid (Hd W2 g o n cap A (fun k => p (swR a b (i + 1) k)) ∧ Kp [g] w W2) := hid ⟨by
        have := HSW.out.1
        rw [hP.out] at this
        rw [swR_succ a b i (by omega), ← HX.out.1, ← HX.out.2]
        exact this, (kr.out.trans KD (by simp)).trans HSW.out.2 (by simp)⟩
      clear hd hd2 HSW hP kr KD HX
      refine wpAnyH_take (i := 0) (v := ?_) rfl (by kernel_rfl) (by kernel_rfl) (by kernel_rfl) (fun _ _ _ h => h) (Or.inl ⟨by rfl, ?_⟩) (by assumption) ?_
      rotate_left
      · intro w hSw; (try dsimp only at hSw); go_simp <;> with_reducible rfl
      try simp only [Act.put, List.getElem_toArray, List.getElem_cons_zero, List.getElem_cons_succ, List.setIfInBounds_toArray, List.set_cons_zero, List.set_cons_succ]
      refine wpAnyH_take (i := 1) (v := ?_) rfl (by kernel_rfl) (by kernel_rfl) (by kernel_rfl) (fun _ _ _ h => h) (Or.inl ⟨by rfl, ?_⟩) (by assumption) ?_
      rotate_left
      · intro w hSw; (try dsimp only at hSw); go_simp <;> with_reducible rfl
      try simp only [Act.put, List.getElem_toArray, List.getElem_cons_zero, List.getElem_cons_succ, List.setIfInBounds_toArray, List.set_cons_zero, List.set_cons_succ]
      refine wpAnyH_take (i := 2) (v := ?_) rfl (by kernel_rfl) (by kernel_rfl) (by kernel_rfl) (fun _ _ _ h => h) (Or.inl ⟨by rfl, ?_⟩) (by assumption) ?_
      rotate_left
      · intro w hSw; (try dsimp only at hSw); go_simp <;> with_reducible rfl
      try simp only [Act.put, List.getElem_toArray, List.getElem_cons_zero, List.getElem_cons_succ, List.setIfInBounds_toArray, List.set_cons_zero, List.set_cons_succ]
      refine wpAnyH_take (i := 3) (v := ?_) rfl (by kernel_rfl) (by kernel_rfl) (by kernel_rfl) (fun _ _ _ h => h) (Or.inl ⟨by rfl, ?_⟩) (by assumption) ?_
      rotate_left
      · intro w hSw; (try dsimp only at hSw); go_simp <;> (try simp only [wx, wy, wx2, wy2]) <;> with_reducible rfl
      try simp only [Act.put, List.getElem_toArray, List.getElem_cons_zero, List.getElem_cons_succ, List.setIfInBounds_toArray, List.set_cons_zero, List.set_cons_succ]
      try simp only [wx, wy, wx2, wy2]
      refine wpAnyH_take (i := 4) (v := ?_) rfl (by kernel_rfl) (by kernel_rfl) (by kernel_rfl) (fun _ _ _ h => h) (Or.inl ⟨by rfl, ?_⟩) (by assumption) ?_
      rotate_left
      · intro w hSw; (try dsimp only at hSw); go_simp <;> with_reducible rfl
      try simp only [Act.put, List.getElem_toArray, List.getElem_cons_zero, List.getElem_cons_succ, List.setIfInBounds_toArray, List.set_cons_zero, List.set_cons_succ]
      refine wpAnyH_take (i := 5) (v := ?_) rfl (by kernel_rfl) (by kernel_rfl) (by kernel_rfl) (fun _ _ _ h => h) (Or.inl ⟨by rfl, ?_⟩) (by assumption) ?_
      rotate_left
      · intro w hSw; (try dsimp only at hSw); go_simp <;> with_reducible rfl
      try simp only [Act.put, List.getElem_toArray, List.getElem_cons_zero, List.getElem_cons_succ, List.setIfInBounds_toArray, List.set_cons_zero, List.set_cons_succ]
      refine wpAnyH_take (i := 6) (v := ?_) rfl (by kernel_rfl) (by kernel_rfl) (by kernel_rfl) (fun _ _ _ h => h) (Or.inl ⟨by rfl, ?_⟩) (by assumption) ?_
      rotate_left
      · intro w hSw; (try dsimp only at hSw); go_simp <;> with_reducible rfl
      try simp only [Act.put, List.getElem_toArray, List.getElem_cons_zero, List.getElem_cons_succ, List.setIfInBounds_toArray, List.set_cons_zero, List.set_cons_succ]
      refine wpAnyH_take (i := 7) (v := ?_) rfl (by kernel_rfl) (by kernel_rfl) (by kernel_rfl) (fun _ _ _ h => h) (Or.inl ⟨by rfl, ?_⟩) (by assumption) ?_
      rotate_left
      · intro w hSw; (try dsimp only at hSw); go_simp <;> (try simp only [wx, wy, wx2, wy2]) <;> with_reducible rfl
      try simp only [Act.put, List.getElem_toArray, List.getElem_cons_zero, List.getElem_cons_succ, List.setIfInBounds_toArray, List.set_cons_zero, List.set_cons_succ]
      try simp only [wx, wy, wx2, wy2]
      refine wpAnyH_take (i := 8) (v := ?_) rfl (by kernel_rfl) (by kernel_rfl) (by kernel_rfl) (fun _ _ _ h => h) (Or.inl ⟨by rfl, ?_⟩) (by assumption) ?_
      rotate_left
      · intro w hSw; (try dsimp only at hSw); go_simp <;> with_reducible rfl
      try simp only [Act.put, List.getElem_toArray, List.getElem_cons_zero, List.getElem_cons_succ, List.setIfInBounds_toArray, List.set_cons_zero, List.set_cons_succ]
      refine wpAnyH_take (i := 9) (v := ?_) rfl (by kernel_rfl) (by kernel_rfl) (by kernel_rfl) (fun _ _ _ h => h) (Or.inl ⟨by rfl, ?_⟩) (by assumption) ?_
      rotate_left
      · intro w hSw; (try dsimp only at hSw); go_simp <;> with_reducible rfl
      try simp only [Act.put, List.getElem_toArray, List.getElem_cons_zero, List.getElem_cons_succ, List.setIfInBounds_toArray, List.set_cons_zero, List.set_cons_succ]
      refine wpAnyH_take (i := 10) (v := ?_) rfl (by kernel_rfl) (by kernel_rfl) (by kernel_rfl) (fun _ _ _ h => h) (Or.inl ⟨by rfl, ?_⟩) (by assumption) ?_
      rotate_left
      · intro w hSw; (try dsimp only at hSw); go_simp <;> with_reducible rfl
      try simp only [Act.put, List.getElem_toArray, List.getElem_cons_zero, List.getElem_cons_succ, List.setIfInBounds_toArray, List.set_cons_zero, List.set_cons_succ]
      refine wpAnyH_take (i := 11) (v := ?_) rfl (by kernel_rfl) (by kernel_rfl) (by kernel_rfl) (fun _ _ _ h => h) (Or.inl ⟨by rfl, ?_⟩) (by assumption) ?_
      rotate_left
      · intro w hSw; (try dsimp only at hSw); go_simp <;> (try simp only [wx, wy, wx2, wy2]) <;> with_reducible rfl
      try simp only [Act.put, List.getElem_toArray, List.getElem_cons_zero, List.getElem_cons_succ, List.setIfInBounds_toArray, List.set_cons_zero, List.set_cons_succ]
      try simp only [wx, wy, wx2, wy2]
      refine wpAnyH_take (i := 12) (v := ?_) rfl (by kernel_rfl) (by kernel_rfl) (by kernel_rfl) (fun _ _ _ h => h) (Or.inl ⟨by rfl, ?_⟩) (by assumption) ?_
      rotate_left
      · intro w hSw; (try dsimp only at hSw); go_simp <;> with_reducible rfl
      try simp only [Act.put, List.getElem_toArray, List.getElem_cons_zero, List.getElem_cons_succ, List.setIfInBounds_toArray, List.set_cons_zero, List.set_cons_succ]
      refine wpAnyH_take (i := 14) (v := ?_) rfl (by kernel_rfl) (by kernel_rfl) (by kernel_rfl) (fun _ _ _ h => h) (Or.inl ⟨by rfl, ?_⟩) (by assumption) ?_
      rotate_left
      · intro w hSw; (try dsimp only at hSw); go_simp <;> with_reducible rfl
      try simp only [Act.put, List.getElem_toArray, List.getElem_cons_zero, List.getElem_cons_succ, List.setIfInBounds_toArray, List.set_cons_zero, List.set_cons_succ]
      refine wpAnyH_take (i := 15) (v := ?_) rfl (by kernel_rfl) (by kernel_rfl) (by kernel_rfl) (fun _ _ _ h => h) (Or.inl ⟨by rfl, ?_⟩) (by assumption) ?_
      rotate_left
      · intro w hSw; (try dsimp only at hSw); go_simp <;> with_reducible rfl
      try simp only [Act.put, List.getElem_toArray, List.getElem_cons_zero, List.getElem_cons_succ, List.setIfInBounds_toArray, List.set_cons_zero, List.set_cons_succ]
      refine wpAnyH_take (i := 16) (v := ?_) rfl (by kernel_rfl) (by kernel_rfl) (by kernel_rfl) (fun _ _ _ h => h) (Or.inl ⟨by rfl, ?_⟩) (by assumption) ?_
      rotate_left
      · intro w hSw; (try dsimp only at hSw); go_simp <;> with_reducible rfl
      try simp only [Act.put, List.getElem_toArray, List.getElem_cons_zero, List.getElem_cons_succ, List.setIfInBounds_toArray, List.set_cons_zero, List.set_cons_succ]
      refine wpAnyH_take (i := 17) (v := ?_) rfl (by kernel_rfl) (by kernel_rfl) (by kernel_rfl) (fun _ _ _ h => h) (Or.inl ⟨by rfl, ?_⟩) (by assumption) ?_
      rotate_left
      · intro w hSw; (try dsimp only at hSw); go_simp <;> (try simp only [wx, wy, wx2, wy2]) <;> with_reducible rfl
      try simp only [Act.put, List.getElem_toArray, List.getElem_cons_zero, List.getElem_cons_succ, List.setIfInBounds_toArray, List.set_cons_zero, List.set_cons_succ]
      try simp only [wx, wy, wx2, wy2]
      refine wpAnyH_take (i := 18) (v := ?_) rfl (by kernel_rfl) (by kernel_rfl) (by kernel_rfl) (fun _ _ _ h => h) (Or.inl ⟨by rfl, ?_⟩) (by assumption) ?_
      rotate_left
      · intro w hSw; (try dsimp only at hSw); go_simp <;> with_reducible rfl
      try simp only [Act.put, List.getElem_toArray, List.getElem_cons_zero, List.getElem_cons_succ, List.setIfInBounds_toArray, List.set_cons_zero, List.set_cons_succ]
      refine wpAnyH_ready (rs := [13, 19]) (by kernel_rfl) (by simp) ?_
      refine AllReadyH.cons rfl (fun K hK => ?_) (AllReadyH.cons rfl (fun K hK => ?_) AllReadyH.nil)
      · go_simp
        (try go_wp2_with fail)
        refine hK.out _ _ trivial (fun hHeld => ?_)
        clear hK K
        try simp only [Act.put, List.getElem_toArray, List.getElem_cons_zero, List.getElem_cons_succ, List.setIfInBounds_toArray, List.set_cons_zero, List.set_cons_succ]
        refine wpAnyH_ready (rs := [19]) (by kernel_rfl) (by simp) ?_
        refine AllReadyH.cons rfl (fun K hK => ?_) AllReadyH.nil
        go_simp
        (try go_wp2_with fail)
        refine hK.out _ _ trivial (fun hHeld => ?_)
        clear hK K
        try simp only [Act.put, List.getElem_toArray, List.getElem_cons_zero, List.getElem_cons_succ, List.setIfInBounds_toArray, List.set_cons_zero, List.set_cons_succ]
        refine wpAnyH_take (i := 20) (v := ?_) rfl (by kernel_rfl) (by kernel_rfl) (by kernel_rfl) (fun _ _ _ h => h) (Or.inl ⟨by rfl, ?_⟩) (by assumption) ?_
        rotate_left
        · intro w hSw; (try dsimp only at hSw); go_simp <;> with_reducible rfl
        try simp only [Act.put, List.getElem_toArray, List.getElem_cons_zero, List.getElem_cons_succ, List.setIfInBounds_toArray, List.set_cons_zero, List.set_cons_succ]
        refine wpAnyH_ready (rs := [21]) (by kernel_rfl) (by simp) ?_
        refine AllReadyH.cons rfl (fun K hK => ?_) AllReadyH.nil
        go_simp
        (try go_wp2_with fail)
        refine hK.out _ _ trivial (fun hHeld => ?_)
        clear hK K
        try simp only [Act.put, List.getElem_toArray, List.getElem_cons_zero, List.getElem_cons_succ, List.setIfInBounds_toArray, List.set_cons_zero, List.set_cons_succ]
        refine wpAnyH_take (i := 22) (v := ?_) rfl (by kernel_rfl) (by kernel_rfl) (by kernel_rfl) (fun _ _ _ h => h) (Or.inl ⟨by rfl, ?_⟩) (by assumption) ?_
        rotate_left
        · intro w hSw; (try dsimp only at hSw); go_simp <;> with_reducible rfl
        try simp only [Act.put, List.getElem_toArray, List.getElem_cons_zero, List.getElem_cons_succ, List.setIfInBounds_toArray, List.set_cons_zero, List.set_cons_succ]
        refine wpAnyH_ready (rs := [23]) (by kernel_rfl) (by simp) ?_
        refine AllReadyH.cons rfl (fun K hK => ?_) AllReadyH.nil
        go_simp
        (try go_wp2_with fail)
        refine hK.out _ _ trivial (fun hHeld => ?_)
        clear hK K
        try simp only [Act.put, List.getElem_toArray, List.getElem_cons_zero, List.getElem_cons_succ, List.setIfInBounds_toArray, List.set_cons_zero, List.set_cons_succ]
        refine wpAnyH_done (by kernel_rfl) ?_ _
        clear hHeld
        go_wp2_with fail
        exact ⟨⟨i + 1, by omega, by go_num, hfin⟩, by simp [intOf]; omega⟩
      · go_simp
        (try go_wp2_with fail)
        refine hK.out _ _ trivial (fun hHeld => ?_)
        clear hK K
        try simp only [Act.put, List.getElem_toArray, List.getElem_cons_zero, List.getElem_cons_succ, List.setIfInBounds_toArray, List.set_cons_zero, List.set_cons_succ]
        refine wpAnyH_ready (rs := [13]) (by kernel_rfl) (by simp) ?_
        refine AllReadyH.cons rfl (fun K hK => ?_) AllReadyH.nil
        go_simp
        (try go_wp2_with fail)
        refine hK.out _ _ trivial (fun hHeld => ?_)
        clear hK K
        try simp only [Act.put, List.getElem_toArray, List.getElem_cons_zero, List.getElem_cons_succ, List.setIfInBounds_toArray, List.set_cons_zero, List.set_cons_succ]
        refine wpAnyH_take (i := 20) (v := ?_) rfl (by kernel_rfl) (by kernel_rfl) (by kernel_rfl) (fun _ _ _ h => h) (Or.inl ⟨by rfl, ?_⟩) (by assumption) ?_
        rotate_left
        · intro w hSw; (try dsimp only at hSw); go_simp <;> with_reducible rfl
        try simp only [Act.put, List.getElem_toArray, List.getElem_cons_zero, List.getElem_cons_succ, List.setIfInBounds_toArray, List.set_cons_zero, List.set_cons_succ]
        refine wpAnyH_ready (rs := [21]) (by kernel_rfl) (by simp) ?_
        refine AllReadyH.cons rfl (fun K hK => ?_) AllReadyH.nil
        go_simp
        (try go_wp2_with fail)
        refine hK.out _ _ trivial (fun hHeld => ?_)
        clear hK K
        try simp only [Act.put, List.getElem_toArray, List.getElem_cons_zero, List.getElem_cons_succ, List.setIfInBounds_toArray, List.set_cons_zero, List.set_cons_succ]
        refine wpAnyH_take (i := 22) (v := ?_) rfl (by kernel_rfl) (by kernel_rfl) (by kernel_rfl) (fun _ _ _ h => h) (Or.inl ⟨by rfl, ?_⟩) (by assumption) ?_
        rotate_left
        · intro w hSw; (try dsimp only at hSw); go_simp <;> with_reducible rfl
        try simp only [Act.put, List.getElem_toArray, List.getElem_cons_zero, List.getElem_cons_succ, List.setIfInBounds_toArray, List.set_cons_zero, List.set_cons_succ]
        refine wpAnyH_ready (rs := [23]) (by kernel_rfl) (by simp) ?_
        refine AllReadyH.cons rfl (fun K hK => ?_) AllReadyH.nil
        go_simp
        (try go_wp2_with fail)
        refine hK.out _ _ trivial (fun hHeld => ?_)
        clear hK K
        try simp only [Act.put, List.getElem_toArray, List.getElem_cons_zero, List.getElem_cons_succ, List.setIfInBounds_toArray, List.set_cons_zero, List.set_cons_succ]
        refine wpAnyH_done (by kernel_rfl) ?_ _
        clear hHeld
        go_wp2_with fail
        exact ⟨⟨i + 1, by omega, by go_num, hfin⟩, by simp [intOf]; omega⟩
    · have e : i = m := by omega
      subst e
      go_wp2_with fail
      go_end0
      exact ⟨⟨_, rfl⟩, hr.out.1, hr.out.2⟩
end Go.Proofs.Ytebkkdoggagcdaa
end

section
namespace Go.Proofs.Ytebkkdoggagcdaa
open Go.RowKit Go.Hay
set_option linter.unusedVariables false
set_option linter.unusedSimpArgs false

set_option maxHeartbeats 8000000 in
set_option maxRecDepth 100000 in
theorem cRot (g o n cap : Nat) (A : Nat → Vr) (p : Nat → Nat) (a m b : Nat) (f : Value) (w : World) (h : Hd w g o n cap A p) (h1 : a < m) (h2 : m < b) (h3 : b ≤ n) (hn : n ≤ 4000000000000) (hcap : n ≤ cap) : Calls Try.prog 52 #[.slice (some ⟨g, o, none⟩) n cap, .int .i64 (a : Int), .int .i64 (m : Int), .int .i64 (b : Int), f] w fun e w' => (∃ v, e = .returned v) ∧ Hd w' g o n cap A (fun k => p (rot a m b k)) ∧ Kp [g] w w' := by
  have HH := hid h
  obtain ⟨i0, hi0⟩ : ∃ i : Nat, i = m - a := ⟨_, rfl⟩
  obtain ⟨j0, hj0⟩ : ∃ j : Nat, j = b - m := ⟨_, rfl⟩
  have ei : (m : Int) - (a : Int) = (i0 : Int) := by omega
  have ej : (b : Int) - (m : Int) = (j0 : Int) := by omega
  have q1 : (-9223372036854775808 : Int) ≤ (m : Int) - (a : Int) := by omega
  have q2 : (m : Int) - (a : Int) ≤ 9223372036854775807 := by omega
  have q3 : (-9223372036854775808 : Int) ≤ (b : Int) - (m : Int) := by omega
  have q4 : (b : Int) - (m : Int) ≤ 9223372036854775807 := by omega
  have hst : Hid ((fun k => rot (m - i0) m (m + j0) k) = rot a m b) := hid (by rw [show m - i0 = a by omega, show m + j0 = b by omega])
  have hb0 : 1 ≤ i0 ∧ 1 ≤ j0 ∧ i0 ≤ m ∧ m + j0 ≤ n := by omega
  clear h hi0 hj0
  go_enter Try.func52, Try.ntmps52
  go_wp2_with fail
  clear ei ej q1 q2 q3 q4
  go_loopw [10, 11] (fun iv jv wr => ∃ (i j : Nat) (s : Nat → Nat), (1 ≤ i ∧ 1 ≤ j ∧ i ≤ m ∧ m + j ≤ n) ∧ iv = .int .i64 (i : Int) ∧ jv = .int .i64 (j : Int) ∧ Hid ((fun k => s (rot (m - i) m (m + j) k)) = rot a m b) ∧ Hid (Hd wr g o n cap A (fun k => p (s k)) ∧ Kp [g] w wr)) (fun iv jv _ => (intOf iv).toNat + (intOf jv).toNat)
  case atStart => exact ⟨i0, j0, fun k => k, hb0, rfl, rfl, hst, hid ⟨HH.out, Kp.refl _ _⟩⟩
  case round =>
    obtain ⟨i, j, s, ⟨bi, bj, bm, bn⟩, rfl, rfl, hs, hr⟩ := hrel
    clear hb0 hst
    obtain ⟨x, hx⟩ : ∃ x : Nat, x = m - i := ⟨_, rfl⟩
    have ex : (m : Int) - (i : Int) = (x : Int) := by omega
    have q1 : (-9223372036854775808 : Int) ≤ (m : Int) - (i : Int) := by omega
    have q2 : (m : Int) - (i : Int) ≤ 9223372036854775807 := by omega
    by_cases hij : i = j
    · subst hij
      have hne : ((i : Int) != (i : Int)) = false := by simp
      have cS := hid (cSwapR g o n cap A (fun k => p (s k)) x m i f wr hr.out.1 (by omega) (by omega) hn hcap)
      have hs2 : Hid ((fun k => s (swR x m i k)) = rot a m b) := hid (by rw [← hs.out, rot_end m i bm, hx])
      have KR := hid hr.out.2
      clear hx hs hr
      go_wp2_with fail
      refine cS.out.mono ?_
      rintro e w1 ⟨⟨v, rfl⟩, hd, k1⟩
      have HF := hid (And.intro hd (KR.out.trans k1 (by simp)))
      clear hd k1
      go_wp2_with fail
      go_end0
      refine ⟨⟨_, rfl⟩, ?_, HF.out.2⟩
      rw [← hs2.out]
      exact HF.out.1
    have hne : ((i : Int) != (j : Int)) = true := by simp; omega
    by_cases hgt : j < i
    · have dg : decide ((j : Int) < (i : Int)) = true := by simp; omega
      have cS := hid (cSwapR g o n cap A (fun k => p (s k)) x m j f wr hr.out.1 (by omega) (by omega) hn hcap)
      have hs2 : Hid ((fun k => s (swR x m j (rot (m - (i - j)) m (m + j) k))) = rot a m b) := hid (by rw [← hs.out, rot_step1 m i j bm hgt, hx])
      have KR := hid hr.out.2
      obtain ⟨i', hi'⟩ : ∃ i' : Nat, i' = i - j := ⟨_, rfl⟩
      have ei : (i : Int) - (j : Int) = (i' : Int) := by omega
      have q3 : (-9223372036854775808 : Int) ≤ (i : Int) - (j : Int) := by omega
      have q4 : (i : Int) - (j : Int) ≤ 9223372036854775807 := by omega
      rw [← hi'] at hs2
      have hb : 1 ≤ i' ∧ 1 ≤ j ∧ i' ≤ m ∧ m + j ≤ n := by omega
      have hdec : i' + j < i + j := by omega
      clear hx hs hr hi' hij
      go_wp2_with fail
      refine cS.out.mono ?_
      rintro e w1 ⟨⟨v, rfl⟩, hd, k1⟩
      have HF := hid (And.intro hd (KR.out.trans k1 (by simp)))
      clear hd k1
      go_wp2_with fail
      exact ⟨⟨i', j, fun k => s (swR x m j k), hb, rfl, rfl, hs2, HF⟩, by simp [intOf]; omega⟩
    · have dg : decide ((j : Int) < (i : Int)) = false := by simp; omega
      obtain ⟨z, hz⟩ : ∃ z : Nat, z = m + j := ⟨_, rfl⟩
      obtain ⟨y, hy⟩ : ∃ y : Nat, y = m + j - i := ⟨_, rfl⟩
      have ez : (m : Int) + (j : Int) = (z : Int) := by omega
      have ey : (z : Int) - (i : Int) = (y : Int) := by omega
      have q5 : (-9223372036854775808 : Int) ≤ (m : Int) + (j : Int) := by omega
      have q6 : (m : Int) + (j : Int) ≤ 9223372036854775807 := by omega
      have q7 : (-9223372036854775808 : Int) ≤ (z : Int) - (i : Int) := by omega
      have q8 : (z : Int) - (i : Int) ≤ 9223372036854775807 := by omega
      have cS := hid (cSwapR g o n cap A (fun k => p (s k)) x y i f wr hr.out.1 (by omega) (by omega) hn hcap)
      have hs2 : Hid ((fun k => s (swR x y i (rot (m - i) m (m + (j - i)) k))) = rot a m b) := hid (by rw [← hs.out, rot_step2 m i j bm (by omega), hx, hy])
      have KR := hid hr.out.2
      obtain ⟨j', hj'⟩ : ∃ j' : Nat, j' = j - i := ⟨_, rfl⟩
      have ej : (j : Int) - (i : Int) = (j' : Int) := by omega
      have q3 : (-9223372036854775808 : Int) ≤ (j : Int) - (i : Int) := by omega
      have q4 : (j : Int) - (i : Int) ≤ 9223372036854775807 := by omega
      rw [← hj'] at hs2
      have hb : 1 ≤ i ∧ 1 ≤ j' ∧ i ≤ m ∧ m + j' ≤ n := by omega
      have hdec : i + j' < i + j := by omega
      clear hx hs hr hj' hy hz hij
      go_wp2_with fail
      refine cS.out.mono ?_
      rintro e w1 ⟨⟨v, rfl⟩, hd, k1⟩
      have HF := hid (And.intro hd (KR.out.trans k1 (by simp)))
      clear hd k1
      go_wp2_with fail
      exact ⟨⟨i, j', fun k => s (swR x y i k), hb, rfl, rfl, hs2, HF⟩, by simp [intOf]; omega⟩
end Go.Proofs.Ytebkkdoggagcdaa
end

section
namespace Go.Proofs.Ytebkkdoggagcdaa
open Go.RowKit Go.Hay
set_option linter.unusedVariables false
set_option linter.unusedSimpArgs false

/-- What the order that is handed in answers. -/
structure CmpOk (g n : Nat) (A : Nat → Vr) (cv cu : Value) (cf : Nat → Nat → Int) (Inv : World → Prop) : Prop where
  calls : ∀ W x y, Inv W → x < n → y < n → Calls Try.prog 39 #[(A x).v, (A y).v, cv, cu] W fun e w' => e = .returned (.int .i64 (cf x y)) ∧ Kp [] W w'
  keep : ∀ W W', Inv W → Kp [g] W W' → Inv W'
  swo : Swo (fun x y => cf x y < 0)
set_option maxHeartbeats 16000000 in
set_option maxRecDepth 100000 in
theorem cIns (g o n cap : Nat) (A : Nat → Vr) (cv cu : Value) (cf : Nat → Nat → Int) (Inv : World → Prop) (hC : CmpOk g n A cv cu cf Inv) (p : Nat → Nat) (a b : Nat) (w : World) (h : Hd w g o n cap A p) (hI : Inv w) (hid0 : ∀ k, a ≤ k → k < b → p k = k) (h1 : a ≤ b) (h3 : b ≤ n) (hn : n ≤ 4000000000000) (hcap : n ≤ cap) : Calls Try.prog 50 #[.slice (some ⟨g, o, none⟩) n cap, .int .i64 (a : Int), .int .i64 (b : Int), .func (.func 39) #[] #[cv, cu]] w fun e w' => (∃ v, e = .returned v) ∧ ∃ s, PermIn a b s ∧ Stb (fun x y => cf x y < 0) (fun k => p (s k)) a b ∧ Hd w' g o n cap A (fun k => p (s k)) ∧ Kp [g] w w' := by
  have HC := hid hC
  have HI := hid hI
  have HH := hid h
  have HID := hid hid0
  have q1 : (-9223372036854775808 : Int) ≤ (a : Int) + 1 := by omega
  have q2 : (a : Int) + 1 ≤ 9223372036854775807 := by omega
  clear hC hI h hid0
  by_cases hab : a = b
  · subst hab
    have d0 : decide ((a : Int) + 1 < (a : Int)) = false := by simp; omega
    have d1 : ¬ ((a : Int) + 1 < (a : Int)) := by omega
    go_enter Try.func50, Try.ntmps50
    go_wp2_with fail
    go_loopw [8, 9] (fun iv _ wr => iv = .int .i64 ((a : Int) + 1) ∧ wr = w) (fun _ _ _ => 0)
    case atStart => exact ⟨rfl, rfl⟩
    case round =>
      obtain ⟨rfl, rfl⟩ := hrel
      go_wp2_with fail
      go_end0
      exact ⟨⟨_, rfl⟩, fun k => k, PermIn.id _ _, Stb.one _ _ _ _ (by omega), HH.out, Kp.refl _ _⟩
  go_enter Try.func50, Try.ntmps50
  go_wp2_with fail
  go_loopw [8, 9] (fun iv _ wr => ∃ (i : Nat) (s : Nat → Nat), (a + 1 ≤ i ∧ i ≤ b) ∧ iv = .int .i64 (i : Int) ∧ Hid (PermIn a i s ∧ Stb (fun x y => cf x y < 0) (fun k => p (s k)) a i) ∧ Hid (Hd wr g o n cap A (fun k => p (s k)) ∧ Kp [g] w wr)) (fun iv _ _ => b - (intOf iv).toNat)
  case atStart => exact ⟨a + 1, fun k => k, by omega, by go_num, hid ⟨PermIn.id _ _, Stb.one _ _ _ _ (by omega)⟩, hid ⟨HH.out, Kp.refl _ _⟩⟩
  case round =>
    obtain ⟨i, s, ⟨bi, bb⟩, rfl, hs, hr⟩ := hrel
    clear q1 q2
    have i5 : (i : Int) + 1 ≤ 9223372036854775807 := by omega
    by_cases hlt : i < b
    · have i6 : (i : Int) < (b : Int) := by omega
      obtain ⟨P, hP⟩ : ∃ P, Hid (P = fun k => p (s k)) := ⟨_, hid rfl⟩
      rw [← hP.out] at hr hs
      have hPi : Hid (P i = i) := hid (by rw [hP.out]; show p (s i) = i; rw [hs.out.1.2.1 i (by omega)]; exact HID.out i (by omega) hlt)
      have hPk : Hid (∀ k, a ≤ k → k < i → a ≤ P k ∧ P k < i) := hid (fun k g1 g2 => by
        rw [hP.out]
        show a ≤ p (s k) ∧ p (s k) < i
        have := hs.out.1.1 k g1 g2
        rw [HID.out (s k) this.1 (by omega)]
        exact this)
      have hLow : Hid (Low P a i (i + 1)) := hid (fun x y g1 g2 g3 g4 => by
        obtain rfl : y = i := by omega
        rw [hPi.out]
        exact (hPk.out x g1 g2).2)
      go_wp2_with fail
      go_loopw [9] (fun jv wn => ∃ j : Nat, (a ≤ j ∧ j ≤ i) ∧ jv = .int .i64 (j : Int) ∧ Hid (j = i ∨ cf (P i) (P j) < 0) ∧ Hid (Hd wn g o n cap A (fun k => P (rot j i (i + 1) k)) ∧ Kp [g] w wn)) (fun jv _ => (intOf jv).toNat)
      case atStart => exact ⟨i, by omega, rfl, hid (.inl rfl), hid ⟨by rw [rot_left]; exact hr.out.1, hr.out.2⟩⟩
      case round =>
        obtain ⟨j, ⟨ja, ji⟩, rfl, hj, hw⟩ := hrel
        clear hr
        by_cases hja : j = a
        · have hfin : Hid (PermIn a (i + 1) (fun k => s (rot j i (i + 1) k)) ∧ Stb (fun x y => cf x y < 0) (fun k => p (s (rot j i (i + 1) k))) a (i + 1)) := hid ⟨(hs.out.1.mono (Nat.le_refl _) (by omega)).comp (rot_perm ja ji (by omega) (Nat.le_refl _)), by
            have := ins_left HC.out.swo ja ji hs.out.2 hLow.out hj.out (.inl hja)
            rw [hP.out] at this
            exact this⟩
          have hw2 : Hid (Hd wr g o n cap A (fun k => p (s (rot j i (i + 1) k))) ∧ Kp [g] w wr) := hid ⟨by have := hw.out.1; rw [hP.out] at this; exact this, hw.out.2⟩
          have hne : decide ((a : Int) < (j : Int)) = false := by simp; omega
          have hneN : decide (a < j) = false := by simp; omega
          have hng : ¬ ((a : Int) < (j : Int)) := by omega
          clear hj hw hja
          go_wp2_with fail
          refine wp_region_held_drew (S := fun _ => True) (by kernel_rfl) trivial (fun hHeld => ?_)
          have hw3 : Hid (Hd wr.drew g o n cap A (fun k => p (s (rot j i (i + 1) k))) ∧ Kp [g] w wr.drew) := hid ⟨hw2.out.1.kept (Kp.refl [] wr).drew, hw2.out.2.drew⟩
          generalize wr.drew = Wd at *
          clear hw2
          refine wpAnyH_take (i := 0) (v := ?_) rfl (by kernel_rfl) (by kernel_rfl) (by kernel_rfl) (fun _ _ _ h => h) (Or.inl ⟨by rfl, ?_⟩) (by assumption) ?_
          rotate_left
          · intro w hSw; (try dsimp only at hSw); go_simp <;> with_reducible rfl
          try simp only [Act.put, List.getElem_toArray, List.getElem_cons_zero, List.getElem_cons_succ, List.setIfInBounds_toArray, List.set_cons_zero, List.set_cons_succ]
          refine wpAnyH_take (i := 1) (v := ?_) rfl (by kernel_rfl) (by kernel_rfl) (by kernel_rfl) (fun _ _ _ h => h) (Or.inl ⟨by rfl, ?_⟩) (by assumption) ?_
          rotate_left
          · intro w hSw; (try dsimp only at hSw); go_simp <;> with_reducible rfl
          try simp only [Act.put, List.getElem_toArray, List.getElem_cons_zero, List.getElem_cons_succ, List.setIfInBounds_toArray, List.set_cons_zero, List.set_cons_succ]
          refine wpAnyH_take (i := 2) (v := ?_) rfl (by kernel_rfl) (by kernel_rfl) (by kernel_rfl) (fun _ _ _ h => h) (Or.inl ⟨by rfl, ?_⟩) (by assumption) ?_
          rotate_left
          · intro w hSw; (try dsimp only at hSw); go_simp <;> (try simp only [hne, hneN]) <;> with_reducible rfl
          try simp only [Act.put, List.getElem_toArray, List.getElem_cons_zero, List.getElem_cons_succ, List.setIfInBounds_toArray, List.set_cons_zero, List.set_cons_succ]
          try simp only [hne, hneN]
          refine wpAnyH_take (i := 3) (v := ?_) rfl (by kernel_rfl) (by kernel_rfl) (by kernel_rfl) (fun _ _ _ h => h) (Or.inl ⟨by rfl, ?_⟩) (by assumption) ?_
          rotate_left
          · intro w hSw; (try dsimp only at hSw); go_simp <;> with_reducible rfl
          try simp only [Act.put, List.getElem_toArray, List.getElem_cons_zero, List.getElem_cons_succ, List.setIfInBounds_toArray, List.set_cons_zero, List.set_cons_succ]
          refine wpAnyH_take (i := 4) (v := undef) rfl (by kernel_rfl) (by kernel_rfl) (by kernel_rfl) (fun _ _ _ h => h) (Or.inr ⟨by rfl, rfl⟩) (by assumption) ?_
          try simp only [Act.put, List.getElem_toArray, List.getElem_cons_zero, List.getElem_cons_succ, List.setIfInBounds_toArray, List.set_cons_zero, List.set_cons_succ]
          refine wpAnyH_take (i := 5) (v := undef) rfl (by kernel_rfl) (by kernel_rfl) (by kernel_rfl) (fun _ _ _ h => h) (Or.inr ⟨by rfl, rfl⟩) (by assumption) ?_
          try simp only [Act.put, List.getElem_toArray, List.getElem_cons_zero, List.getElem_cons_succ, List.setIfInBounds_toArray, List.set_cons_zero, List.set_cons_succ]
          refine wpAnyH_take (i := 6) (v := undef) rfl (by kernel_rfl) (by kernel_rfl) (by kernel_rfl) (fun _ _ _ h => h) (Or.inr ⟨by rfl, rfl⟩) (by assumption) ?_
          try simp only [Act.put, List.getElem_toArray, List.getElem_cons_zero, List.getElem_cons_succ, List.setIfInBounds_toArray, List.set_cons_zero, List.set_cons_succ]
          refine wpAnyH_take (i := 7) (v := undef) rfl (by kernel_rfl) (by kernel_rfl) (by kernel_rfl) (fun _ _ _ h => h) (Or.inr ⟨by rfl, rfl⟩) (by assumption) ?_
          try simp only [Act.put, List.getElem_toArray, List.getElem_cons_zero, List.getElem_cons_succ, List.setIfInBounds_toArray, List.set_cons_zero, List.set_cons_succ]
          refine wpAnyH_take (i := 8) (v := undef) rfl (by kernel_rfl) (by kernel_rfl) (by kernel_rfl) (fun _ _ _ h => h) (Or.inr ⟨by rfl, rfl⟩) (by assumption) ?_
          try simp only [Act.put, List.getElem_toArray, List.getElem_cons_zero, List.getElem_cons_succ, List.setIfInBounds_toArray, List.set_cons_zero, List.set_cons_succ]
          refine wpAnyH_take (i := 9) (v := undef) rfl (by kernel_rfl) (by kernel_rfl) (by kernel_rfl) (fun _ _ _ h => h) (Or.inr ⟨by rfl, rfl⟩) (by assumption) ?_
          try simp only [Act.put, List.getElem_toArray, List.getElem_cons_zero, List.getElem_cons_succ, List.setIfInBounds_toArray, List.set_cons_zero, List.set_cons_succ]
          refine wpAnyH_take (i := 10) (v := undef) rfl (by kernel_rfl) (by kernel_rfl) (by kernel_rfl) (fun _ _ _ h => h) (Or.inr ⟨by rfl, rfl⟩) (by assumption) ?_
          try simp only [Act.put, List.getElem_toArray, List.getElem_cons_zero, List.getElem_cons_succ, List.setIfInBounds_toArray, List.set_cons_zero, List.set_cons_succ]
          refine wpAnyH_take (i := 11) (v := undef) rfl (by kernel_rfl) (by kernel_rfl) (by kernel_rfl) (fun _ _ _ h => h) (Or.inr ⟨by rfl, rfl⟩) (by assumption) ?_
          try simp only [Act.put, List.getElem_toArray, List.getElem_cons_zero, List.getElem_cons_succ, List.setIfInBounds_toArray, List.set_cons_zero, List.set_cons_succ]
          refine wpAnyH_take (i := 12) (v := undef) rfl (by kernel_rfl) (by kernel_rfl) (by kernel_rfl) (fun _ _ _ h => h) (Or.inr ⟨by rfl, rfl⟩) (by assumption) ?_
          try simp only [Act.put, List.getElem_toArray, List.getElem_cons_zero, List.getElem_cons_succ, List.setIfInBounds_toArray, List.set_cons_zero, List.set_cons_succ]
          refine wpAnyH_take (i := 13) (v := undef) rfl (by kernel_rfl) (by kernel_rfl) (by kernel_rfl) (fun _ _ _ h => h) (Or.inr ⟨by rfl, rfl⟩) (by assumption) ?_
          try simp only [Act.put, List.getElem_toArray, List.getElem_cons_zero, List.getElem_cons_succ, List.setIfInBounds_toArray, List.set_cons_zero, List.set_cons_succ]
          refine wpAnyH_take (i := 14) (v := undef) rfl (by kernel_rfl) (by kernel_rfl) (by kernel_rfl) (fun _ _ _ h => h) (Or.inr ⟨by rfl, rfl⟩) (by assumption) ?_
          try simp only [Act.put, List.getElem_toArray, List.getElem_cons_zero, List.getElem_cons_succ, List.setIfInBounds_toArray, List.set_cons_zero, List.set_cons_succ]
          refine wpAnyH_take (i := 15) (v := undef) rfl (by kernel_rfl) (by kernel_rfl) (by kernel_rfl) (fun _ _ _ h => h) (Or.inr ⟨by rfl, rfl⟩) (by assumption) ?_
          try simp only [Act.put, List.getElem_toArray, List.getElem_cons_zero, List.getElem_cons_succ, List.setIfInBounds_toArray, List.set_cons_zero, List.set_cons_succ]
          refine wpAnyH_take (i := 16) (v := ?_) rfl (by kernel_rfl) (by kernel_rfl) (by kernel_rfl) (fun _ _ _ h => h) (Or.inl ⟨by rfl, ?_⟩) (by assumption) ?_
          rotate_left
          · intro w hSw; (try dsimp only at hSw); go_simp <;> with_reducible rfl
          try simp only [Act.put, List.getElem_toArray, List.getElem_cons_zero, List.getElem_cons_succ, List.setIfInBounds_toArray, List.set_cons_zero, List.set_cons_succ]
          refine wpAnyH_done (by kernel_rfl) ?_ _
          clear hHeld
          go_wp2_with fail
          exact ⟨⟨i + 1, fun k => s (rot j i (i + 1) k), by omega, by go_num, hfin, hw3⟩, by simp [intOf]; omega⟩
        obtain ⟨y, hy⟩ : ∃ y : Nat, y = j - 1 := ⟨_, rfl⟩
        have ey : (j : Int) - 1 = (y : Int) := by omega
        have wy : IntKind.i64.wrap ((j : Int) - 1) = (y : Int) := by rw [ey, IntKind.wrap_i64]; omega
        have wy2 : IntKind.i64.wrap (y : Int) = (y : Int) := by rw [IntKind.wrap_i64]; omega
        have dg : decide ((a : Int) < (j : Int)) = true := by simp; omega
        have dgN : decide (a < j) = true := by simp; omega
        have dg2 : (a : Int) < (j : Int) := by omega
        have i1 : (0 : Int) ≤ (j : Int) := by omega
        have i2 : (j : Int) < (n : Int) := by omega
        have i3 : (0 : Int) ≤ (y : Int) := by omega
        have i4 : (y : Int) < (n : Int) := by omega
        have b1 : (-9223372036854775808 : Int) ≤ (j : Int) - 1 := by omega
        have b2 : (j : Int) - 1 ≤ 9223372036854775807 := by omega
        have hjy : j = y + 1 := by omega
        obtain ⟨Q, hQ⟩ : ∃ Q, Hid (Q = fun k => P (rot j i (i + 1) k)) := ⟨_, hid rfl⟩
        have hQj : Hid (Q j = P i) := hid (by rw [hQ.out]; show P (rot j i (i + 1) j) = P i; rw [rot_first j i (i + 1) j (by omega) (by omega) ji (by omega), show j + (i - j) = i by omega])
        have hQy : Hid (Q y = P y) := hid (by rw [hQ.out]; show P (rot j i (i + 1) y) = P y; rw [rot_out j i (i + 1) y (by omega)])
        rw [← hQ.out] at hw
        have hQn : Q j < n ∧ Q y < n := by
          rw [hQj.out, hQy.out, hPi.out]
          have := hPk.out y (by omega) (by omega)
          omega
        have cC := hid (fun W' (k : Kp [] wr W') => HC.out.calls W' (Q j) (Q y) (HC.out.keep _ _ HI.out (hw.out.2.trans k (by simp))) hQn.1 hQn.2)
        obtain ⟨⟨x0, x1, x2, x3⟩, _⟩ := hw.out.1.cells j (by omega)
        obtain ⟨⟨y0, y1, y2, y3⟩, _⟩ := hw.out.1.cells y (by omega)
        obtain ⟨V1, hV1⟩ : ∃ V, Hid (V = A (Q j)) := ⟨_, hid rfl⟩
        obtain ⟨V2, hV2⟩ : ∃ V, Hid (V = A (Q y)) := ⟨_, hid rfl⟩
        rw [← hV1.out] at x0 x1 x2 x3 cC
        rw [← hV2.out] at y0 y1 y2 y3 cC
        obtain ⟨C, hCf⟩ : ∃ C, Hid (cf (Q j) (Q y) = C) := ⟨_, hid rfl⟩
        rw [hCf.out] at cC
        obtain ⟨e1, n1, a1, c1, l1, d1⟩ := V1
        obtain ⟨e2, n2, a2, c2, l2, d2⟩ := V2
        simp only [Vr.v] at cC
        dsimp only at *
        have hF : Hid (∀ W', Kp [] wr W' → (W'.cell? ⟨g, o + j * 4, none⟩ = some (.int .u64 e1) ∧ W'.cell? ⟨g, o + j * 4 + 1, none⟩ = some (.int .u32 n1) ∧ W'.cell? ⟨g, o + j * 4 + 2, none⟩ = some (.slice a1 l1.length c1) ∧ W'.cell? ⟨g, o + j * 4 + 3, none⟩ = some (.int .u64 d1) ∧ W'.cell? ⟨g, o + y * 4, none⟩ = some (.int .u64 e2) ∧ W'.cell? ⟨g, o + y * 4 + 1, none⟩ = some (.int .u32 n2) ∧ W'.cell? ⟨g, o + y * 4 + 2, none⟩ = some (.slice a2 l2.length c2) ∧ W'.cell? ⟨g, o + y * 4 + 3, none⟩ = some (.int .u64 d2))) := fun W' k => ⟨kpAt k x0, kpAt k x1, kpAt k x2, kpAt k x3, kpAt k y0, kpAt k y1, kpAt k y2, kpAt k y3⟩
        have zg : g < wr.heap.size := hw.out.1.lt
        clear x0 x1 x2 x3 y0 y1 y2 y3
        have HYJ := hid (And.intro hy hjy)
        have HJA := hid hja
        clear hy hjy hja
        go_wp2_with fail
        refine wp_region_held_drew (S := fun W' => W'.cell? ⟨g, o + j * 4, none⟩ = some (.int .u64 e1) ∧ W'.cell? ⟨g, o + j * 4 + 1, none⟩ = some (.int .u32 n1) ∧ W'.cell? ⟨g, o + j * 4 + 2, none⟩ = some (.slice a1 l1.length c1) ∧ W'.cell? ⟨g, o + j * 4 + 3, none⟩ = some (.int .u64 d1) ∧ W'.cell? ⟨g, o + y * 4, none⟩ = some (.int .u64 e2) ∧ W'.cell? ⟨g, o + y * 4 + 1, none⟩ = some (.int .u32 n2) ∧ W'.cell? ⟨g, o + y * 4 + 2, none⟩ = some (.slice a2 l2.length c2) ∧ W'.cell? ⟨g, o + y * 4 + 3, none⟩ = some (.int .u64 d2)) (by kernel_rfl) ?_ (fun hHeld => ?_)
        · exact hF.out _ (Kp.refl [] wr).drew
        have KD : Hid (Kp [] wr wr.drew) := hid (Kp.refl [] wr).drew
        generalize wr.drew = Wd at *
        refine wpAnyH_take (i := 0) (v := ?_) rfl (by kernel_rfl) (by kernel_rfl) (by kernel_rfl) (fun _ _ _ h => h) (Or.inl ⟨by rfl, ?_⟩) (by assumption) ?_
        rotate_left
        · intro w hSw; (try dsimp only at hSw); go_simp <;> with_reducible rfl
        try simp only [Act.put, List.getElem_toArray, List.getElem_cons_zero, List.getElem_cons_succ, List.setIfInBounds_toArray, List.set_cons_zero, List.set_cons_succ]
        refine wpAnyH_take (i := 1) (v := ?_) rfl (by kernel_rfl) (by kernel_rfl) (by kernel_rfl) (fun _ _ _ h => h) (Or.inl ⟨by rfl, ?_⟩) (by assumption) ?_
        rotate_left
        · intro w hSw; (try dsimp only at hSw); go_simp <;> with_reducible rfl
        try simp only [Act.put, List.getElem_toArray, List.getElem_cons_zero, List.getElem_cons_succ, List.setIfInBounds_toArray, List.set_cons_zero, List.set_cons_succ]
        refine wpAnyH_take (i := 2) (v := ?_) rfl (by kernel_rfl) (by kernel_rfl) (by kernel_rfl) (fun _ _ _ h => h) (Or.inl ⟨by rfl, ?_⟩) (by assumption) ?_
        rotate_left
        · intro w hSw; (try dsimp only at hSw); go_simp <;> (try simp only [dg, dgN]) <;> with_reducible rfl
        try simp only [Act.put, List.getElem_toArray, List.getElem_cons_zero, List.getElem_cons_succ, List.setIfInBounds_toArray, List.set_cons_zero, List.set_cons_succ]
        try simp only [dg, dgN]
        refine wpAnyH_take (i := 3) (v := ?_) rfl (by kernel_rfl) (by kernel_rfl) (by kernel_rfl) (fun _ _ _ h => h) (Or.inl ⟨by rfl, ?_⟩) (by assumption) ?_
        rotate_left
        · intro w hSw; (try dsimp only at hSw); go_simp <;> with_reducible rfl
        try simp only [Act.put, List.getElem_toArray, List.getElem_cons_zero, List.getElem_cons_succ, List.setIfInBounds_toArray, List.set_cons_zero, List.set_cons_succ]
        refine wpAnyH_take (i := 4) (v := ?_) rfl (by kernel_rfl) (by kernel_rfl) (by kernel_rfl) (fun _ _ _ h => h) (Or.inl ⟨by rfl, ?_⟩) (by assumption) ?_
        rotate_left
        · intro w hSw; (try dsimp only at hSw); go_simp <;> with_reducible rfl
        try simp only [Act.put, List.getElem_toArray, List.getElem_cons_zero, List.getElem_cons_succ, List.setIfInBounds_toArray, List.set_cons_zero, List.set_cons_succ]
        refine wpAnyH_take (i := 5) (v := ?_) rfl (by kernel_rfl) (by kernel_rfl) (by kernel_rfl) (fun _ _ _ h => h) (Or.inl ⟨by rfl, ?_⟩) (by assumption) ?_
        rotate_left
        · intro w hSw; (try dsimp only at hSw); go_simp <;> with_reducible rfl
        try simp only [Act.put, List.getElem_toArray, List.getElem_cons_zero, List.getElem_cons_succ, List.setIfInBounds_toArray, List.set_cons_zero, List.set_cons_succ]
        refine wpAnyH_take (i := 6) (v := ?_) rfl (by kernel_rfl) (by kernel_rfl) (by kernel_rfl) (fun _ _ _ h => h) (Or.inl ⟨by rfl, ?_⟩) (by assumption) ?_
        rotate_left
        · intro w hSw; (try dsimp only at hSw); go_simp <;> with_reducible rfl
        try simp only [Act.put, List.getElem_toArray, List.getElem_cons_zero, List.getElem_cons_succ, List.setIfInBounds_toArray, List.set_cons_zero, List.set_cons_succ]
        refine wpAnyH_take (i := 7) (v := ?_) rfl (by kernel_rfl) (by kernel_rfl) (by kernel_rfl) (fun _ _ _ h => h) (Or.inl ⟨by rfl, ?_⟩) (by assumption) ?_
        rotate_left
        · intro w hSw; (try dsimp only at hSw); go_simp <;> with_reducible rfl
        try simp only [Act.put, List.getElem_toArray, List.getElem_cons_zero, List.getElem_cons_succ, List.setIfInBounds_toArray, List.set_cons_zero, List.set_cons_succ]
        refine wpAnyH_take (i := 8) (v := ?_) rfl (by kernel_rfl) (by kernel_rfl) (by kernel_rfl) (fun _ _ _ h => h) (Or.inl ⟨by rfl, ?_⟩) (by assumption) ?_
        rotate_left
        · intro w hSw; (try dsimp only at hSw); go_simp <;> with_reducible rfl
        try simp only [Act.put, List.getElem_toArray, List.getElem_cons_zero, List.getElem_cons_succ, List.setIfInBounds_toArray, List.set_cons_zero, List.set_cons_succ]
        refine wpAnyH_take (i := 9) (v := ?_) rfl (by kernel_rfl) (by kernel_rfl) (by kernel_rfl) (fun _ _ _ h => h) (Or.inl ⟨by rfl, ?_⟩) (by assumption) ?_
        rotate_left
        · intro w hSw; (try dsimp only at hSw); go_simp <;> with_reducible rfl
        try simp only [Act.put, List.getElem_toArray, List.getElem_cons_zero, List.getElem_cons_succ, List.setIfInBounds_toArray, List.set_cons_zero, List.set_cons_succ]
        refine wpAnyH_take (i := 10) (v := ?_) rfl (by kernel_rfl) (by kernel_rfl) (by kernel_rfl) (fun _ _ _ h => h) (Or.inl ⟨by rfl, ?_⟩) (by assumption) ?_
        rotate_left
        · intro w hSw; (try dsimp only at hSw); go_simp <;> with_reducible rfl
        try simp only [Act.put, List.getElem_toArray, List.getElem_cons_zero, List.getElem_cons_succ, List.setIfInBounds_toArray, List.set_cons_zero, List.set_cons_succ]
        refine wpAnyH_take (i := 11) (v := ?_) rfl (by kernel_rfl) (by kernel_rfl) (by kernel_rfl) (fun _ _ _ h => h) (Or.inl ⟨by rfl, ?_⟩) (by assumption) ?_
        rotate_left
        · intro w hSw; (try dsimp only at hSw); go_simp <;> (try simp only [wy, wy2]) <;> with_reducible rfl
        try simp only [Act.put, List.getElem_toArray, List.getElem_cons_zero, List.getElem_cons_succ, List.setIfInBounds_toArray, List.set_cons_zero, List.set_cons_succ]
        try simp only [wy, wy2]
        refine wpAnyH_take (i := 12) (v := ?_) rfl (by kernel_rfl) (by kernel_rfl) (by kernel_rfl) (fun _ _ _ h => h) (Or.inl ⟨by rfl, ?_⟩) (by assumption) ?_
        rotate_left
        · intro w hSw; (try dsimp only at hSw); go_simp <;> with_reducible rfl
        try simp only [Act.put, List.getElem_toArray, List.getElem_cons_zero, List.getElem_cons_succ, List.setIfInBounds_toArray, List.set_cons_zero, List.set_cons_succ]
        refine wpAnyH_take (i := 13) (v := ?_) rfl (by kernel_rfl) (by kernel_rfl) (by kernel_rfl) (fun _ _ _ h => h) (Or.inl ⟨by rfl, ?_⟩) (by assumption) ?_
        rotate_left
        · intro w hSw; (try dsimp only at hSw); go_simp <;> with_reducible rfl
        try simp only [Act.put, List.getElem_toArray, List.getElem_cons_zero, List.getElem_cons_succ, List.setIfInBounds_toArray, List.set_cons_zero, List.set_cons_succ]
        refine wpAnyH_ready (rs := [14]) (by kernel_rfl) (by simp) ?_
        refine AllReadyH.cons rfl (fun K hK => ?_) AllReadyH.nil
        go_simp
        refine (cC.out Wd KD.out).mono ?_
        rintro e u1 ⟨rfl, l1'⟩
        (try go_wp2_with fail)
        refine hK.out _ _ ?_ (fun hHeld => ?_)
        · exact hF.out _ (KD.out.trans l1' (by simp))
        clear hK K
        try simp only [Act.put, List.getElem_toArray, List.getElem_cons_zero, List.getElem_cons_succ, List.setIfInBounds_toArray, List.set_cons_zero, List.set_cons_succ]
        have K1 := hid (KD.out.trans l1' (by simp))
        clear l1' KD
        have hw1 : Hid (Hd u1 g o n cap A Q ∧ Kp [g] w u1) := hid ⟨hw.out.1.kept K1.out, hw.out.2.trans K1.out (by simp)⟩
        by_cases hc0 : C < 0
        · have dc : decide (C < 0) = true := by simpa using hc0
          refine wpAnyH_take (i := 15) (v := ?_) rfl (by kernel_rfl) (by kernel_rfl) (by kernel_rfl) (fun _ _ _ h => h) (Or.inl ⟨by rfl, ?_⟩) (by assumption) ?_
          rotate_left
          · intro w hSw; (try dsimp only at hSw); go_simp <;> (try simp only [dc]) <;> with_reducible rfl
          try simp only [Act.put, List.getElem_toArray, List.getElem_cons_zero, List.getElem_cons_succ, List.setIfInBounds_toArray, List.set_cons_zero, List.set_cons_succ]
          try simp only [dc]
          refine wpAnyH_take (i := 16) (v := ?_) rfl (by kernel_rfl) (by kernel_rfl) (by kernel_rfl) (fun _ _ _ h => h) (Or.inl ⟨by rfl, ?_⟩) (by assumption) ?_
          rotate_left
          · intro w hSw; (try dsimp only at hSw); go_simp <;> with_reducible rfl
          try simp only [Act.put, List.getElem_toArray, List.getElem_cons_zero, List.getElem_cons_succ, List.setIfInBounds_toArray, List.set_cons_zero, List.set_cons_succ]
          refine wpAnyH_done (by kernel_rfl) ?_ _
          have hj2 : Hid (y = i ∨ cf (P i) (P y) < 0) := hid (.inr (by rw [← hQj.out, ← hQy.out, hCf.out]; exact hc0))
          clear hHeld hF cC hj hw hc0
          go_wp2_with fail
          refine wp_region_held_drew (S := fun _ => True) (by kernel_rfl) trivial (fun hHeld => ?_)
          have KD2 : Kp [] u1 u1.drew := (Kp.refl [] u1).drew
          have hd2 := hw1.out.1.kept KD2
          have hk2 := hid (hw1.out.2.trans KD2 (by simp))
          generalize u1.drew = Wd2 at *
          clear KD2 hw1 hV1 hV2
          obtain ⟨⟨x0, x1, x2, x3⟩, fx0, fx1, fx2, fx3⟩ := hd2.cells j (by omega)
          obtain ⟨⟨y0, y1, y2, y3⟩, fy0, fy1, fy2, fy3⟩ := hd2.cells y (by omega)
          have hsw := hd2.swap j y (by omega) (by omega)
          have hpc := put4_cells hd2 j y (by omega) (by omega)
          obtain ⟨U1, hU1⟩ : ∃ V, V = A (Q j) := ⟨_, rfl⟩
          obtain ⟨U2, hU2⟩ : ∃ V, V = A (Q y) := ⟨_, rfl⟩
          rw [← hU1] at x0 x1 x2 x3 hsw
          rw [← hU2] at y0 y1 y2 y3 hsw
          replace hpc := hpc U2
          obtain ⟨⟨u0, hu0⟩, gu0⟩ := hpc 0 (by omega)
          obtain ⟨⟨u1, hu1⟩, gu1⟩ := hpc 1 (by omega)
          obtain ⟨⟨u2, hu2⟩, gu2⟩ := hpc 2 (by omega)
          obtain ⟨⟨u3, hu3⟩, gu3⟩ := hpc 3 (by omega)
          simp only [Nat.add_zero] at hu0 gu0
          obtain ⟨W1, eW1⟩ : ∃ Y, ((((Wd2.setCell ⟨g, o + j * 4, none⟩ (.int .u64 U2.e)).setCell ⟨g, o + j * 4 + 1, none⟩ (.int .u32 U2.n)).setCell ⟨g, o + j * 4 + 2, none⟩ (.slice U2.a U2.l.length U2.c)).setCell ⟨g, o + j * 4 + 3, none⟩ (.int .u64 U2.d)) = Y := ⟨_, rfl⟩
          have eP1 : put4 Wd2 g (o + j * 4) U2 = W1 := eW1
          obtain ⟨W2, eW2⟩ : ∃ Y, ((((W1.setCell ⟨g, o + y * 4, none⟩ (.int .u64 U1.e)).setCell ⟨g, o + y * 4 + 1, none⟩ (.int .u32 U1.n)).setCell ⟨g, o + y * 4 + 2, none⟩ (.slice U1.a U1.l.length U1.c)).setCell ⟨g, o + y * 4 + 3, none⟩ (.int .u64 U1.d)) = Y := ⟨_, rfl⟩
          have eP2 : put4 W1 g (o + y * 4) U1 = W2 := eW2
          have kP1 : Kp [g] Wd2 W1 := by rw [← eP1]; exact put4_kp _ _ _ _
          have kP2 : Kp [g] W1 W2 := by rw [← eP2]; exact put4_kp _ _ _ _
          simp only [eP1] at hu0 hu1 hu2 hu3 gu0 gu1 gu2 gu3 hsw
          simp only [eP2] at hsw
          have zW1 := kP1.size
          have HSW := hid (And.intro hsw (kP1.trans kP2 (by simp)))
          have zg : g < Wd2.heap.size := hd2.lt
          have zg1 : g < W1.heap.size := by omega
          clear hpc hsw eP1 eP2 kP1 kP2 hU1 hU2 zW1
          obtain ⟨e3, n3, a3, c3, l3, d3⟩ := U1
          obtain ⟨e4, n4, a4, c4, l4, d4⟩ := U2
          dsimp only at *
          have hfin : Hid (Hd W2 g o n cap A (fun k => P (rot y i (i + 1) k)) ∧ Kp [g] w W2) := hid ⟨by
            have := HSW.out.1
            rw [hQ.out] at this
            rw [rot_pull y i (by have := HYJ.out; omega), ← HYJ.out.2]
            exact this, hk2.out.trans HSW.out.2 (by simp)⟩
          have hya : a ≤ y ∧ y ≤ i := by have := HYJ.out; have := HJA.out; omega
          have hyj : y < j := by have := HYJ.out; omega
          clear hd2 HSW hk2
          refine wpAnyH_take (i := 0) (v := ?_) rfl (by kernel_rfl) (by kernel_rfl) (by kernel_rfl) (fun _ _ _ h => h) (Or.inl ⟨by rfl, ?_⟩) (by assumption) ?_
          rotate_left
          · intro w hSw; (try dsimp only at hSw); go_simp <;> with_reducible rfl
          try simp only [Act.put, List.getElem_toArray, List.getElem_cons_zero, List.getElem_cons_succ, List.setIfInBounds_toArray, List.set_cons_zero, List.set_cons_succ]
          refine wpAnyH_take (i := 1) (v := ?_) rfl (by kernel_rfl) (by kernel_rfl) (by kernel_rfl) (fun _ _ _ h => h) (Or.inl ⟨by rfl, ?_⟩) (by assumption) ?_
          rotate_left
          · intro w hSw; (try dsimp only at hSw); go_simp <;> with_reducible rfl
          try simp only [Act.put, List.getElem_toArray, List.getElem_cons_zero, List.getElem_cons_succ, List.setIfInBounds_toArray, List.set_cons_zero, List.set_cons_succ]
          refine wpAnyH_take (i := 2) (v := ?_) rfl (by kernel_rfl) (by kernel_rfl) (by kernel_rfl) (fun _ _ _ h => h) (Or.inl ⟨by rfl, ?_⟩) (by assumption) ?_
          rotate_left
          · intro w hSw; (try dsimp only at hSw); go_simp <;> with_reducible rfl
          try simp only [Act.put, List.getElem_toArray, List.getElem_cons_zero, List.getElem_cons_succ, List.setIfInBounds_toArray, List.set_cons_zero, List.set_cons_succ]
          refine wpAnyH_take (i := 3) (v := ?_) rfl (by kernel_rfl) (by kernel_rfl) (by kernel_rfl) (fun _ _ _ h => h) (Or.inl ⟨by rfl, ?_⟩) (by assumption) ?_
          rotate_left
          · intro w hSw; (try dsimp only at hSw); go_simp <;> with_reducible rfl
          try simp only [Act.put, List.getElem_toArray, List.getElem_cons_zero, List.getElem_cons_succ, List.setIfInBounds_toArray, List.set_cons_zero, List.set_cons_succ]
          refine wpAnyH_take (i := 4) (v := ?_) rfl (by kernel_rfl) (by kernel_rfl) (by kernel_rfl) (fun _ _ _ h => h) (Or.inl ⟨by rfl, ?_⟩) (by assumption) ?_
          rotate_left
          · intro w hSw; (try dsimp only at hSw); go_simp <;> (try simp only [wy, wy2]) <;> with_reducible rfl
          try simp only [Act.put, List.getElem_toArray, List.getElem_cons_zero, List.getElem_cons_succ, List.setIfInBounds_toArray, List.set_cons_zero, List.set_cons_succ]
          try simp only [wy, wy2]
          refine wpAnyH_take (i := 5) (v := ?_) rfl (by kernel_rfl) (by kernel_rfl) (by kernel_rfl) (fun _ _ _ h => h) (Or.inl ⟨by rfl, ?_⟩) (by assumption) ?_
          rotate_left
          · intro w hSw; (try dsimp only at hSw); go_simp <;> with_reducible rfl
          try simp only [Act.put, List.getElem_toArray, List.getElem_cons_zero, List.getElem_cons_succ, List.setIfInBounds_toArray, List.set_cons_zero, List.set_cons_succ]
          refine wpAnyH_take (i := 6) (v := ?_) rfl (by kernel_rfl) (by kernel_rfl) (by kernel_rfl) (fun _ _ _ h => h) (Or.inl ⟨by rfl, ?_⟩) (by assumption) ?_
          rotate_left
          · intro w hSw; (try dsimp only at hSw); go_simp <;> with_reducible rfl
          try simp only [Act.put, List.getElem_toArray, List.getElem_cons_zero, List.getElem_cons_succ, List.setIfInBounds_toArray, List.set_cons_zero, List.set_cons_succ]
          refine wpAnyH_take (i := 7) (v := ?_) rfl (by kernel_rfl) (by kernel_rfl) (by kernel_rfl) (fun _ _ _ h => h) (Or.inl ⟨by rfl, ?_⟩) (by assumption) ?_
          rotate_left
          · intro w hSw; (try dsimp only at hSw); go_simp <;> (try simp only [wy, wy2]) <;> with_reducible rfl
          try simp only [Act.put, List.getElem_toArray, List.getElem_cons_zero, List.getElem_cons_succ, List.setIfInBounds_toArray, List.set_cons_zero, List.set_cons_succ]
          try simp only [wy, wy2]
          refine wpAnyH_take (i := 8) (v := ?_) rfl (by kernel_rfl) (by kernel_rfl) (by kernel_rfl) (fun _ _ _ h => h) (Or.inl ⟨by rfl, ?_⟩) (by assumption) ?_
          rotate_left
          · intro w hSw; (try dsimp only at hSw); go_simp <;> with_reducible rfl
          try simp only [Act.put, List.getElem_toArray, List.getElem_cons_zero, List.getElem_cons_succ, List.setIfInBounds_toArray, List.set_cons_zero, List.set_cons_succ]
          refine wpAnyH_take (i := 10) (v := ?_) rfl (by kernel_rfl) (by kernel_rfl) (by kernel_rfl) (fun _ _ _ h => h) (Or.inl ⟨by rfl, ?_⟩) (by assumption) ?_
          rotate_left
          · intro w hSw; (try dsimp only at hSw); go_simp <;> with_reducible rfl
          try simp only [Act.put, List.getElem_toArray, List.getElem_cons_zero, List.getElem_cons_succ, List.setIfInBounds_toArray, List.set_cons_zero, List.set_cons_succ]
          refine wpAnyH_take (i := 11) (v := ?_) rfl (by kernel_rfl) (by kernel_rfl) (by kernel_rfl) (fun _ _ _ h => h) (Or.inl ⟨by rfl, ?_⟩) (by assumption) ?_
          rotate_left
          · intro w hSw; (try dsimp only at hSw); go_simp <;> with_reducible rfl
          try simp only [Act.put, List.getElem_toArray, List.getElem_cons_zero, List.getElem_cons_succ, List.setIfInBounds_toArray, List.set_cons_zero, List.set_cons_succ]
          refine wpAnyH_take (i := 12) (v := ?_) rfl (by kernel_rfl) (by kernel_rfl) (by kernel_rfl) (fun _ _ _ h => h) (Or.inl ⟨by rfl, ?_⟩) (by assumption) ?_
          rotate_left
          · intro w hSw; (try dsimp only at hSw); go_simp <;> with_reducible rfl
          try simp only [Act.put, List.getElem_toArray, List.getElem_cons_zero, List.getElem_cons_succ, List.setIfInBounds_toArray, List.set_cons_zero, List.set_cons_succ]
          refine wpAnyH_ready (rs := [9, 13]) (by kernel_rfl) (by simp) ?_
          refine AllReadyH.cons rfl (fun K hK => ?_) (AllReadyH.cons rfl (fun K hK => ?_) AllReadyH.nil)
          · go_simp
            (try go_wp2_with fail)
            refine hK.out _ _ trivial (fun hHeld => ?_)
            clear hK K
            try simp only [Act.put, List.getElem_toArray, List.getElem_cons_zero, List.getElem_cons_succ, List.setIfInBounds_toArray, List.set_cons_zero, List.set_cons_succ]
            refine wpAnyH_ready (rs := [13]) (by kernel_rfl) (by simp) ?_
            refine AllReadyH.cons rfl (fun K hK => ?_) AllReadyH.nil
            go_simp
            (try go_wp2_with fail)
            refine hK.out _ _ trivial (fun hHeld => ?_)
            clear hK K
            try simp only [Act.put, List.getElem_toArray, List.getElem_cons_zero, List.getElem_cons_succ, List.setIfInBounds_toArray, List.set_cons_zero, List.set_cons_succ]
            refine wpAnyH_take (i := 14) (v := ?_) rfl (by kernel_rfl) (by kernel_rfl) (by kernel_rfl) (fun _ _ _ h => h) (Or.inl ⟨by rfl, ?_⟩) (by assumption) ?_
            rotate_left
            · intro w hSw; (try dsimp only at hSw); go_simp <;> with_reducible rfl
            try simp only [Act.put, List.getElem_toArray, List.getElem_cons_zero, List.getElem_cons_succ, List.setIfInBounds_toArray, List.set_cons_zero, List.set_cons_succ]
            refine wpAnyH_ready (rs := [15]) (by kernel_rfl) (by simp) ?_
            refine AllReadyH.cons rfl (fun K hK => ?_) AllReadyH.nil
            go_simp
            (try go_wp2_with fail)
            refine hK.out _ _ trivial (fun hHeld => ?_)
            clear hK K
            try simp only [Act.put, List.getElem_toArray, List.getElem_cons_zero, List.getElem_cons_succ, List.setIfInBounds_toArray, List.set_cons_zero, List.set_cons_succ]
            refine wpAnyH_take (i := 16) (v := ?_) rfl (by kernel_rfl) (by kernel_rfl) (by kernel_rfl) (fun _ _ _ h => h) (Or.inl ⟨by rfl, ?_⟩) (by assumption) ?_
            rotate_left
            · intro w hSw; (try dsimp only at hSw); go_simp <;> with_reducible rfl
            try simp only [Act.put, List.getElem_toArray, List.getElem_cons_zero, List.getElem_cons_succ, List.setIfInBounds_toArray, List.set_cons_zero, List.set_cons_succ]
            refine wpAnyH_ready (rs := [17]) (by kernel_rfl) (by simp) ?_
            refine AllReadyH.cons rfl (fun K hK => ?_) AllReadyH.nil
            go_simp
            (try go_wp2_with fail)
            refine hK.out _ _ trivial (fun hHeld => ?_)
            clear hK K
            try simp only [Act.put, List.getElem_toArray, List.getElem_cons_zero, List.getElem_cons_succ, List.setIfInBounds_toArray, List.set_cons_zero, List.set_cons_succ]
            refine wpAnyH_done (by kernel_rfl) ?_ _
            clear hHeld
            go_wp2_with fail
            exact ⟨⟨y, hya, by go_num, hj2, hfin⟩, by simp [intOf]; omega⟩
          · go_simp
            (try go_wp2_with fail)
            refine hK.out _ _ trivial (fun hHeld => ?_)
            clear hK K
            try simp only [Act.put, List.getElem_toArray, List.getElem_cons_zero, List.getElem_cons_succ, List.setIfInBounds_toArray, List.set_cons_zero, List.set_cons_succ]
            refine wpAnyH_ready (rs := [9]) (by kernel_rfl) (by simp) ?_
            refine AllReadyH.cons rfl (fun K hK => ?_) AllReadyH.nil
            go_simp
            (try go_wp2_with fail)
            refine hK.out _ _ trivial (fun hHeld => ?_)
            clear hK K
            try simp only [Act.put, List.getElem_toArray, List.getElem_cons_zero, List.getElem_cons_succ, List.setIfInBounds_toArray, List.set_cons_zero, List.set_cons_succ]
            refine wpAnyH_take (i := 14) (v := ?_) rfl (by kernel_rfl) (by kernel_rfl) (by kernel_rfl) (fun _ _ _ h => h) (Or.inl ⟨by rfl, ?_⟩) (by assumption) ?_
            rotate_left
            · intro w hSw; (try dsimp only at hSw); go_simp <;> with_reducible rfl
            try simp only [Act.put, List.getElem_toArray, List.getElem_cons_zero, List.getElem_cons_succ, List.setIfInBounds_toArray, List.set_cons_zero, List.set_cons_succ]
            refine wpAnyH_ready (rs := [15]) (by kernel_rfl) (by simp) ?_
            refine AllReadyH.cons rfl (fun K hK => ?_) AllReadyH.nil
            go_simp
            (try go_wp2_with fail)
            refine hK.out _ _ trivial (fun hHeld => ?_)
            clear hK K
            try simp only [Act.put, List.getElem_toArray, List.getElem_cons_zero, List.getElem_cons_succ, List.setIfInBounds_toArray, List.set_cons_zero, List.set_cons_succ]
            refine wpAnyH_take (i := 16) (v := ?_) rfl (by kernel_rfl) (by kernel_rfl) (by kernel_rfl) (fun _ _ _ h => h) (Or.inl ⟨by rfl, ?_⟩) (by assumption) ?_
            rotate_left
            · intro w hSw; (try dsimp only at hSw); go_simp <;> with_reducible rfl
            try simp only [Act.put, List.getElem_toArray, List.getElem_cons_zero, List.getElem_cons_succ, List.setIfInBounds_toArray, List.set_cons_zero, List.set_cons_succ]
            refine wpAnyH_ready (rs := [17]) (by kernel_rfl) (by simp) ?_
            refine AllReadyH.cons rfl (fun K hK => ?_) AllReadyH.nil
            go_simp
            (try go_wp2_with fail)
            refine hK.out _ _ trivial (fun hHeld => ?_)
            clear hK K
            try simp only [Act.put, List.getElem_toArray, List.getElem_cons_zero, List.getElem_cons_succ, List.setIfInBounds_toArray, List.set_cons_zero, List.set_cons_succ]
            refine wpAnyH_done (by kernel_rfl) ?_ _
            clear hHeld
            go_wp2_with fail
            exact ⟨⟨y, hya, by go_num, hj2, hfin⟩, by simp [intOf]; omega⟩
        · have dc : decide (C < 0) = false := by simpa using hc0
          refine wpAnyH_take (i := 15) (v := ?_) rfl (by kernel_rfl) (by kernel_rfl) (by kernel_rfl) (fun _ _ _ h => h) (Or.inl ⟨by rfl, ?_⟩) (by assumption) ?_
          rotate_left
          · intro w hSw; (try dsimp only at hSw); go_simp <;> (try simp only [dc]) <;> with_reducible rfl
          try simp only [Act.put, List.getElem_toArray, List.getElem_cons_zero, List.getElem_cons_succ, List.setIfInBounds_toArray, List.set_cons_zero, List.set_cons_succ]
          try simp only [dc]
          refine wpAnyH_take (i := 16) (v := ?_) rfl (by kernel_rfl) (by kernel_rfl) (by kernel_rfl) (fun _ _ _ h => h) (Or.inl ⟨by rfl, ?_⟩) (by assumption) ?_
          rotate_left
          · intro w hSw; (try dsimp only at hSw); go_simp <;> with_reducible rfl
          try simp only [Act.put, List.getElem_toArray, List.getElem_cons_zero, List.getElem_cons_succ, List.setIfInBounds_toArray, List.set_cons_zero, List.set_cons_succ]
          refine wpAnyH_done (by kernel_rfl) ?_ _
          have hfin : Hid (PermIn a (i + 1) (fun k => s (rot j i (i + 1) k)) ∧ Stb (fun x y => cf x y < 0) (fun k => p (s (rot j i (i + 1) k))) a (i + 1)) := hid ⟨(hs.out.1.mono (Nat.le_refl _) (by omega)).comp (rot_perm ja ji (by omega) (Nat.le_refl _)), by
            have := ins_left HC.out.swo ja ji hs.out.2 hLow.out hj.out (.inr (by rw [← HYJ.out.1, ← hQj.out, ← hQy.out, hCf.out]; exact hc0))
            rw [hP.out] at this
            exact this⟩
          have hw2 : Hid (Hd u1 g o n cap A (fun k => p (s (rot j i (i + 1) k))) ∧ Kp [g] w u1) := hid ⟨by have := hw1.out.1; rw [hQ.out, hP.out] at this; exact this, hw1.out.2⟩
          clear hHeld hF cC hj hw hc0 hw1
          go_wp2_with fail
          exact ⟨⟨i + 1, fun k => s (rot j i (i + 1) k), by omega, by go_num, hfin, hw2⟩, by simp [intOf]; omega⟩
    · have e : i = b := by omega
      subst e
      go_wp2_with fail
      go_end0
      exact ⟨⟨_, rfl⟩, s, hs.out.1, hs.out.2, hr.out.1, hr.out.2⟩
end Go.Proofs.Ytebkkdoggagcdaa
end

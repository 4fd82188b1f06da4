/- Stable sorting: symMerge, its ends. -/
import Derived.Test.YtebkkdoggagcdaaB4
section
namespace Go.Proofs.Ytebkkdoggagcdaa
open Go.RowKit Go.Hay
set_option linter.unusedVariables false
set_option linter.unusedSimpArgs false

set_option maxHeartbeats 16000000 in
set_option maxRecDepth 100000 in
theorem cSymA (g o n cap : Nat) (A : Nat → Vr) (cv cu : Value) (cf : Nat → Nat → Int) (Inv : World → Prop) (hC : CmpOk g n A cv cu cf Inv) (p : Nat → Nat) (a m b : Nat) (w : World) (h : Hd w g o n cap A p) (hI : Inv w) (hpn : ∀ k, k < n → p k < n) (h1 : a < m) (h2 : m < b) (h3 : b ≤ n) (hA : Stb (fun x y => cf x y < 0) p a m) (hB : Stb (fun x y => cf x y < 0) p m b) (hLo : Low p a m b) (hn : n ≤ 4000000000000) (hcap : n ≤ cap) (hma : m ≤ a + 1) : Calls Try.prog 51 #[.slice (some ⟨g, o, none⟩) n cap, .int .i64 (a : Int), .int .i64 (m : Int), .int .i64 (b : Int), .func (.func 39) #[] #[cv, cu]] w fun e w' => (∃ v, e = .returned v) ∧ ∃ s, PermIn a b s ∧ Stb (fun x y => cf x y < 0) (fun k => p (s k)) a b ∧ Hd w' g o n cap A (fun k => p (s k)) ∧ Kp [g] w w' := by
  have HC := hid hC
  have HI := hid hI
  have HH := hid h
  have HPN := hid hpn
  have HSR := hid (And.intro hA (And.intro hB hLo))
  have q1 : (-9223372036854775808 : Int) ≤ (m : Int) - (a : Int) := by omega
  have q2 : (m : Int) - (a : Int) ≤ 9223372036854775807 := by omega
  clear hC hI h hpn hA hB hLo
  have hm1 : (m : Int) - (a : Int) = 1 := by omega
  go_enter Try.func51, Try.ntmps51
  go_wp2_with fail
  clear q1 q2 hm1
  go_loopw [10, 11, 12] (fun iv jv _ wr => ∃ i j : Nat, (m ≤ i ∧ i ≤ j ∧ j ≤ b) ∧ iv = .int .i64 (i : Int) ∧ jv = .int .i64 (j : Int) ∧ Hid ((i = m ∨ cf (p (i - 1)) (p a) < 0) ∧ (j = b ∨ 0 ≤ cf (p j) (p a))) ∧ Hid (Hd wr g o n cap A p ∧ Kp [g] w wr)) (fun iv jv _ _ => (intOf jv).toNat - (intOf iv).toNat)
  case atStart => exact ⟨m, b, by omega, rfl, rfl, hid ⟨.inl rfl, .inl rfl⟩, hid ⟨HH.out, Kp.refl _ _⟩⟩
  case round =>
    obtain ⟨i, j, ⟨bi, bij, bj⟩, rfl, rfl, hs, hw⟩ := hrel
    by_cases hij : i < j
    · have i0 : (i : Int) < (j : Int) := by omega
      obtain ⟨t, ht⟩ : ∃ t : Nat, t = i + j := ⟨_, rfl⟩
      obtain ⟨h, hh⟩ : ∃ h : Nat, h = t / 2 := ⟨_, rfl⟩
      have et : (i : Int) + (j : Int) = (t : Int) := by omega
      have et1 : (-9223372036854775808 : Int) ≤ (i : Int) + (j : Int) := by omega
      have et2 : (i : Int) + (j : Int) ≤ 9223372036854775807 := by omega
      have et3 : (0 : Int) ≤ (t : Int) := by omega
      have et4 : (t : Int) ≤ 9223372036854775807 := by omega
      have et5 : (t : Int) < 18446744073709551616 := by omega
      have eh : (t : Int) / 2 = (h : Int) := by omega
      have eh2 : (h : Int) ≤ 9223372036854775807 := by omega
      have eu : IntKind.u64.wrap (t : Int) = (t : Int) := by rw [IntKind.wrap_u64]; omega
      have ew : IntKind.i64.wrap (h : Int) = (h : Int) := by rw [IntKind.wrap_i64]; omega
      have ewt : IntKind.i64.wrap (t : Int) = (t : Int) := by rw [IntKind.wrap_i64]; omega
      have hhb : i ≤ h ∧ h < j := by omega
      have HT := hid (And.intro ht hh)
      clear ht hh
      have i1 : (0 : Int) ≤ (h : Int) := by omega
      have i2 : (h : Int) < (n : Int) := by omega
      have i5 : (h : Int) + 1 ≤ 9223372036854775807 := by omega
      have i3 : (0 : Int) ≤ (a : Int) := by omega
      have i4 : (a : Int) < (n : Int) := by omega
      have cC := hid (fun W' (k : Kp [] wr W') => HC.out.calls W' (p h) (p a) (HC.out.keep _ _ HI.out (hw.out.2.trans k (by simp))) (HPN.out _ (by omega)) (HPN.out _ (by omega)))
      obtain ⟨⟨x0, x1, x2, x3⟩, _⟩ := hw.out.1.cells h (by omega)
      obtain ⟨⟨y0, y1, y2, y3⟩, _⟩ := hw.out.1.cells a (by omega)
      obtain ⟨V1, hV1⟩ : ∃ V, Hid (V = A (p h)) := ⟨_, hid rfl⟩
      obtain ⟨V2, hV2⟩ : ∃ V, Hid (V = A (p a)) := ⟨_, hid rfl⟩
      rw [← hV1.out] at x0 x1 x2 x3 cC
      rw [← hV2.out] at y0 y1 y2 y3 cC
      obtain ⟨C, hCf⟩ : ∃ C, Hid (cf (p h) (p a) = C) := ⟨_, hid rfl⟩
      rw [hCf.out] at cC
      obtain ⟨e1, n1, a1, c1, l1, d1⟩ := V1
      obtain ⟨e2, n2, a2, c2, l2, d2⟩ := V2
      simp only [Vr.v] at cC
      dsimp only at *
      have hF : Hid (∀ W', Kp [] wr W' → (W'.cell? ⟨g, o + h * 4, none⟩ = some (.int .u64 e1) ∧ W'.cell? ⟨g, o + h * 4 + 1, none⟩ = some (.int .u32 n1) ∧ W'.cell? ⟨g, o + h * 4 + 2, none⟩ = some (.slice a1 l1.length c1) ∧ W'.cell? ⟨g, o + h * 4 + 3, none⟩ = some (.int .u64 d1) ∧ W'.cell? ⟨g, o + a * 4, none⟩ = some (.int .u64 e2) ∧ W'.cell? ⟨g, o + a * 4 + 1, none⟩ = some (.int .u32 n2) ∧ W'.cell? ⟨g, o + a * 4 + 2, none⟩ = some (.slice a2 l2.length c2) ∧ W'.cell? ⟨g, o + a * 4 + 3, none⟩ = some (.int .u64 d2))) := fun W' k => ⟨kpAt k x0, kpAt k x1, kpAt k x2, kpAt k x3, kpAt k y0, kpAt k y1, kpAt k y2, kpAt k y3⟩
      clear x0 x1 x2 x3 y0 y1 y2 y3 hV1 hV2
      go_wp2_with fail
      refine wp_region_held_drew (S := fun W' => W'.cell? ⟨g, o + h * 4, none⟩ = some (.int .u64 e1) ∧ W'.cell? ⟨g, o + h * 4 + 1, none⟩ = some (.int .u32 n1) ∧ W'.cell? ⟨g, o + h * 4 + 2, none⟩ = some (.slice a1 l1.length c1) ∧ W'.cell? ⟨g, o + h * 4 + 3, none⟩ = some (.int .u64 d1) ∧ W'.cell? ⟨g, o + a * 4, none⟩ = some (.int .u64 e2) ∧ W'.cell? ⟨g, o + a * 4 + 1, none⟩ = some (.int .u32 n2) ∧ W'.cell? ⟨g, o + a * 4 + 2, none⟩ = some (.slice a2 l2.length c2) ∧ W'.cell? ⟨g, o + a * 4 + 3, none⟩ = some (.int .u64 d2)) (by kernel_rfl) ?_ (fun hHeld => ?_)
      · exact hF.out _ (Kp.refl [] wr).drew
      have KD : Hid (Kp [] wr wr.drew) := hid (Kp.refl [] wr).drew
      generalize wr.drew = Wd at *
      refine wpAnyH_take (i := 0) (v := ?_) rfl (by kernel_rfl) (by kernel_rfl) (by kernel_rfl) (fun _ _ _ h => h) (Or.inl ⟨by rfl, ?_⟩) (by assumption) ?_
      rotate_left
      · intro w hSw; (try dsimp only at hSw); go_simp <;> with_reducible rfl
      try simp only [Act.put, List.getElem_toArray, List.getElem_cons_zero, List.getElem_cons_succ, List.setIfInBounds_toArray, List.set_cons_zero, List.set_cons_succ]
      refine wpAnyH_take (i := 1) (v := ?_) rfl (by kernel_rfl) (by kernel_rfl) (by kernel_rfl) (fun _ _ _ h => h) (Or.inl ⟨by rfl, ?_⟩) (by assumption) ?_
      rotate_left
      · intro w hSw; (try dsimp only at hSw); go_simp <;> with_reducible rfl
      try simp only [Act.put, List.getElem_toArray, List.getElem_cons_zero, List.getElem_cons_succ, List.setIfInBounds_toArray, List.set_cons_zero, List.set_cons_succ]
      refine wpAnyH_take (i := 2) (v := ?_) rfl (by kernel_rfl) (by kernel_rfl) (by kernel_rfl) (fun _ _ _ h => h) (Or.inl ⟨by rfl, ?_⟩) (by assumption) ?_
      rotate_left
      · intro w hSw; (try dsimp only at hSw); go_simp <;> with_reducible rfl
      try simp only [Act.put, List.getElem_toArray, List.getElem_cons_zero, List.getElem_cons_succ, List.setIfInBounds_toArray, List.set_cons_zero, List.set_cons_succ]
      refine wpAnyH_take (i := 3) (v := ?_) rfl (by kernel_rfl) (by kernel_rfl) (by kernel_rfl) (fun _ _ _ h => h) (Or.inl ⟨by rfl, ?_⟩) (by assumption) ?_
      rotate_left
      · intro w hSw; (try dsimp only at hSw); go_simp <;> with_reducible rfl
      try simp only [Act.put, List.getElem_toArray, List.getElem_cons_zero, List.getElem_cons_succ, List.setIfInBounds_toArray, List.set_cons_zero, List.set_cons_succ]
      refine wpAnyH_take (i := 4) (v := ?_) rfl (by kernel_rfl) (by kernel_rfl) (by kernel_rfl) (fun _ _ _ h => h) (Or.inl ⟨by rfl, ?_⟩) (by assumption) ?_
      rotate_left
      · intro w hSw; (try dsimp only at hSw); go_simp <;> with_reducible rfl
      try simp only [Act.put, List.getElem_toArray, List.getElem_cons_zero, List.getElem_cons_succ, List.setIfInBounds_toArray, List.set_cons_zero, List.set_cons_succ]
      refine wpAnyH_take (i := 5) (v := ?_) rfl (by kernel_rfl) (by kernel_rfl) (by kernel_rfl) (fun _ _ _ h => h) (Or.inl ⟨by rfl, ?_⟩) (by assumption) ?_
      rotate_left
      · intro w hSw; (try dsimp only at hSw); go_simp <;> with_reducible rfl
      try simp only [Act.put, List.getElem_toArray, List.getElem_cons_zero, List.getElem_cons_succ, List.setIfInBounds_toArray, List.set_cons_zero, List.set_cons_succ]
      refine wpAnyH_take (i := 6) (v := ?_) rfl (by kernel_rfl) (by kernel_rfl) (by kernel_rfl) (fun _ _ _ h => h) (Or.inl ⟨by rfl, ?_⟩) (by assumption) ?_
      rotate_left
      · intro w hSw; (try dsimp only at hSw); go_simp <;> with_reducible rfl
      try simp only [Act.put, List.getElem_toArray, List.getElem_cons_zero, List.getElem_cons_succ, List.setIfInBounds_toArray, List.set_cons_zero, List.set_cons_succ]
      refine wpAnyH_take (i := 7) (v := ?_) rfl (by kernel_rfl) (by kernel_rfl) (by kernel_rfl) (fun _ _ _ h => h) (Or.inl ⟨by rfl, ?_⟩) (by assumption) ?_
      rotate_left
      · intro w hSw; (try dsimp only at hSw); go_simp <;> with_reducible rfl
      try simp only [Act.put, List.getElem_toArray, List.getElem_cons_zero, List.getElem_cons_succ, List.setIfInBounds_toArray, List.set_cons_zero, List.set_cons_succ]
      refine wpAnyH_take (i := 8) (v := ?_) rfl (by kernel_rfl) (by kernel_rfl) (by kernel_rfl) (fun _ _ _ h => h) (Or.inl ⟨by rfl, ?_⟩) (by assumption) ?_
      rotate_left
      · intro w hSw; (try dsimp only at hSw); go_simp <;> with_reducible rfl
      try simp only [Act.put, List.getElem_toArray, List.getElem_cons_zero, List.getElem_cons_succ, List.setIfInBounds_toArray, List.set_cons_zero, List.set_cons_succ]
      refine wpAnyH_ready (rs := [9]) (by kernel_rfl) (by simp) ?_
      refine AllReadyH.cons rfl (fun K hK => ?_) AllReadyH.nil
      go_simp
      refine (cC.out Wd KD.out).mono ?_
      rintro e u1 ⟨rfl, l1'⟩
      (try go_wp2_with fail)
      refine hK.out _ _ ?_ (fun hHeld => ?_)
      · exact hF.out _ (KD.out.trans l1' (by simp))
      clear hK K
      try simp only [Act.put, List.getElem_toArray, List.getElem_cons_zero, List.getElem_cons_succ, List.setIfInBounds_toArray, List.set_cons_zero, List.set_cons_succ]
      have K1 := hid (KD.out.trans l1' (by simp))
      clear l1' KD
      have hw1 : Hid (Hd u1 g o n cap A p ∧ Kp [g] w u1) := hid ⟨hw.out.1.kept K1.out, hw.out.2.trans K1.out (by simp)⟩
      by_cases hc0 : C < 0
      · have dc : decide (C < 0) = true := by simpa using hc0
        refine wpAnyH_take (i := 10) (v := ?_) rfl (by kernel_rfl) (by kernel_rfl) (by kernel_rfl) (fun _ _ _ h => h) (Or.inl ⟨by rfl, ?_⟩) (by assumption) ?_
        rotate_left
        · intro w hSw; (try dsimp only at hSw); go_simp <;> (try simp only [dc]) <;> with_reducible rfl
        try simp only [Act.put, List.getElem_toArray, List.getElem_cons_zero, List.getElem_cons_succ, List.setIfInBounds_toArray, List.set_cons_zero, List.set_cons_succ]
        try simp only [dc]
        refine wpAnyH_done (by kernel_rfl) ?_ _
        have hs2 : Hid ((h + 1 = m ∨ cf (p (h + 1 - 1)) (p a) < 0) ∧ (j = b ∨ 0 ≤ cf (p j) (p a))) := hid ⟨.inr (by rw [Nat.add_sub_cancel, hCf.out]; exact hc0), hs.out.2⟩
        clear hHeld hF cC hs hw hc0
        go_wp2_with fail
        exact ⟨⟨h + 1, j, by omega, by go_num, rfl, hs2, hw1⟩, by simp [intOf]; omega⟩
      · have dc : decide (C < 0) = false := by simpa using hc0
        refine wpAnyH_take (i := 10) (v := ?_) rfl (by kernel_rfl) (by kernel_rfl) (by kernel_rfl) (fun _ _ _ h => h) (Or.inl ⟨by rfl, ?_⟩) (by assumption) ?_
        rotate_left
        · intro w hSw; (try dsimp only at hSw); go_simp <;> (try simp only [dc]) <;> with_reducible rfl
        try simp only [Act.put, List.getElem_toArray, List.getElem_cons_zero, List.getElem_cons_succ, List.setIfInBounds_toArray, List.set_cons_zero, List.set_cons_succ]
        try simp only [dc]
        refine wpAnyH_done (by kernel_rfl) ?_ _
        have hs2 : Hid ((i = m ∨ cf (p (i - 1)) (p a) < 0) ∧ (h = b ∨ 0 ≤ cf (p h) (p a))) := hid ⟨hs.out.1, .inr (by rw [hCf.out]; omega)⟩
        clear hHeld hF cC hs hw hc0
        go_wp2_with fail
        exact ⟨⟨i, h, by omega, rfl, rfl, hs2, hw1⟩, by simp [intOf]; omega⟩
    · have e : j = i := by omega
      subst e
      have hfin : Hid (PermIn a b (rot a (a + 1) j) ∧ Stb (fun x y => cf x y < 0) (fun k => p (rot a (a + 1) j k)) a b) := hid ⟨rot_perm (Nat.le_refl _) (by omega) (by omega) bj, by
        have em : m = a + 1 := by omega
        refine ins_right HC.out.swo (by omega) bj (em ▸ HSR.out.2.1) (em ▸ HSR.out.2.2) ?_ (hs.out.2.imp_right fun h => Int.not_lt.2 h)
        have := hs.out.1
        rwa [em] at this⟩
      have q3 : (-9223372036854775808 : Int) ≤ (j : Int) - 1 := by omega
      have q4 : (j : Int) - 1 ≤ 9223372036854775807 := by omega
      clear hs
      go_wp2_with fail
      go_loopw [13] (fun kv wn => ∃ k : Nat, (a ≤ k ∧ k + 1 ≤ j) ∧ kv = .int .i64 (k : Int) ∧ Hid (Hd wn g o n cap A (fun x => p (rot a (a + 1) (k + 1) x)) ∧ Kp [g] w wn)) (fun kv _ => j - (intOf kv).toNat)
      case atStart => exact ⟨a, by omega, rfl, hid ⟨by rw [rot_right a (a + 1) (by omega)]; exact hw.out.1, hw.out.2⟩⟩
      case round =>
        obtain ⟨k, ⟨bk, bk2⟩, rfl, hw3⟩ := hrel
        clear hw
        by_cases hkj : k + 1 < j
        · have d1 : decide ((k : Int) < (j : Int) - 1) = true := by simp; omega
          have d2 : (k : Int) < (j : Int) - 1 := by omega
          obtain ⟨y, hy⟩ : ∃ y : Nat, y = k + 1 := ⟨_, rfl⟩
          have ey : (k : Int) + 1 = (y : Int) := by omega
          have wy : IntKind.i64.wrap ((k : Int) + 1) = (y : Int) := by rw [ey, IntKind.wrap_i64]; omega
          have wy2 : IntKind.i64.wrap (y : Int) = (y : Int) := by rw [IntKind.wrap_i64]; omega
          have i1 : (0 : Int) ≤ (k : Int) := by omega
          have i2 : (k : Int) < (n : Int) := by omega
          have i3 : (0 : Int) ≤ (y : Int) := by omega
          have i4 : (y : Int) < (n : Int) := by omega
          have b1 : (-9223372036854775808 : Int) ≤ (k : Int) + 1 := by omega
          have b2 : (k : Int) + 1 ≤ 9223372036854775807 := by omega
          have HY := hid hy
          obtain ⟨Q, hQ⟩ : ∃ Q, Hid (Q = fun x => p (rot a (a + 1) (k + 1) x)) := ⟨_, hid rfl⟩
          rw [← hQ.out] at hw3
          have hyb : y < n ∧ y + 1 ≤ j := by omega
          clear hy
          go_wp2_with fail
          refine wp_region_held_drew (S := fun _ => True) (by kernel_rfl) trivial (fun hHeld => ?_)
          have KD2 : Kp [] wr wr.drew := (Kp.refl [] wr).drew
          have hd2 := hw3.out.1.kept KD2
          have hk2 := hid (hw3.out.2.trans KD2 (by simp))
          generalize wr.drew = Wd2 at *
          clear KD2 hw3
          obtain ⟨⟨x0, x1, x2, x3⟩, fx0, fx1, fx2, fx3⟩ := hd2.cells k (by omega)
          obtain ⟨⟨y0, y1, y2, y3⟩, fy0, fy1, fy2, fy3⟩ := hd2.cells y (by omega)
          have hsw := hd2.swap k y (by omega) (by omega)
          have hpc := put4_cells hd2 k y (by omega) (by omega)
          obtain ⟨U1, hU1⟩ : ∃ V, V = A (Q k) := ⟨_, rfl⟩
          obtain ⟨U2, hU2⟩ : ∃ V, V = A (Q y) := ⟨_, rfl⟩
          rw [← hU1] at x0 x1 x2 x3 hsw
          rw [← hU2] at y0 y1 y2 y3 hsw
          replace hpc := hpc U2
          obtain ⟨⟨u0, hu0⟩, gu0⟩ := hpc 0 (by omega)
          obtain ⟨⟨u1, hu1⟩, gu1⟩ := hpc 1 (by omega)
          obtain ⟨⟨u2, hu2⟩, gu2⟩ := hpc 2 (by omega)
          obtain ⟨⟨u3, hu3⟩, gu3⟩ := hpc 3 (by omega)
          simp only [Nat.add_zero] at hu0 gu0
          obtain ⟨W1, eW1⟩ : ∃ Y, ((((Wd2.setCell ⟨g, o + k * 4, none⟩ (.int .u64 U2.e)).setCell ⟨g, o + k * 4 + 1, none⟩ (.int .u32 U2.n)).setCell ⟨g, o + k * 4 + 2, none⟩ (.slice U2.a U2.l.length U2.c)).setCell ⟨g, o + k * 4 + 3, none⟩ (.int .u64 U2.d)) = Y := ⟨_, rfl⟩
          have eP1 : put4 Wd2 g (o + k * 4) U2 = W1 := eW1
          obtain ⟨W2, eW2⟩ : ∃ Y, ((((W1.setCell ⟨g, o + y * 4, none⟩ (.int .u64 U1.e)).setCell ⟨g, o + y * 4 + 1, none⟩ (.int .u32 U1.n)).setCell ⟨g, o + y * 4 + 2, none⟩ (.slice U1.a U1.l.length U1.c)).setCell ⟨g, o + y * 4 + 3, none⟩ (.int .u64 U1.d)) = Y := ⟨_, rfl⟩
          have eP2 : put4 W1 g (o + y * 4) U1 = W2 := eW2
          have kP1 : Kp [g] Wd2 W1 := by rw [← eP1]; exact put4_kp _ _ _ _
          have kP2 : Kp [g] W1 W2 := by rw [← eP2]; exact put4_kp _ _ _ _
          simp only [eP1] at hu0 hu1 hu2 hu3 gu0 gu1 gu2 gu3 hsw
          simp only [eP2] at hsw
          have zW1 := kP1.size
          have HSW := hid (And.intro hsw (kP1.trans kP2 (by simp)))
          have zg : g < Wd2.heap.size := hd2.lt
          have zg1 : g < W1.heap.size := by omega
          clear hpc hsw eP1 eP2 kP1 kP2 hU1 hU2 zW1
          obtain ⟨e3, n3, a3, c3, l3, d3⟩ := U1
          obtain ⟨e4, n4, a4, c4, l4, d4⟩ := U2
          dsimp only at *
          have hfin2 : Hid (Hd W2 g o n cap A (fun x => p (rot a (a + 1) (y + 1) x)) ∧ Kp [g] w W2) := hid ⟨by
            have := HSW.out.1
            rw [hQ.out] at this
            have e := HY.out
            subst e
            rw [rot_push a k j bk hkj]
            exact this, hk2.out.trans HSW.out.2 (by simp)⟩
          have hky : a ≤ y ∧ k < y := by have := HY.out; omega
          clear hd2 HSW hk2
          refine wpAnyH_take (i := 0) (v := ?_) rfl (by kernel_rfl) (by kernel_rfl) (by kernel_rfl) (fun _ _ _ h => h) (Or.inl ⟨by rfl, ?_⟩) (by assumption) ?_
          rotate_left
          · intro w hSw; (try dsimp only at hSw); go_simp <;> with_reducible rfl
          try simp only [Act.put, List.getElem_toArray, List.getElem_cons_zero, List.getElem_cons_succ, List.setIfInBounds_toArray, List.set_cons_zero, List.set_cons_succ]
          refine wpAnyH_take (i := 1) (v := ?_) rfl (by kernel_rfl) (by kernel_rfl) (by kernel_rfl) (fun _ _ _ h => h) (Or.inl ⟨by rfl, ?_⟩) (by assumption) ?_
          rotate_left
          · intro w hSw; (try dsimp only at hSw); go_simp <;> with_reducible rfl
          try simp only [Act.put, List.getElem_toArray, List.getElem_cons_zero, List.getElem_cons_succ, List.setIfInBounds_toArray, List.set_cons_zero, List.set_cons_succ]
          refine wpAnyH_take (i := 2) (v := ?_) rfl (by kernel_rfl) (by kernel_rfl) (by kernel_rfl) (fun _ _ _ h => h) (Or.inl ⟨by rfl, ?_⟩) (by assumption) ?_
          rotate_left
          · intro w hSw; (try dsimp only at hSw); go_simp <;> with_reducible rfl
          try simp only [Act.put, List.getElem_toArray, List.getElem_cons_zero, List.getElem_cons_succ, List.setIfInBounds_toArray, List.set_cons_zero, List.set_cons_succ]
          refine wpAnyH_take (i := 3) (v := ?_) rfl (by kernel_rfl) (by kernel_rfl) (by kernel_rfl) (fun _ _ _ h => h) (Or.inl ⟨by rfl, ?_⟩) (by assumption) ?_
          rotate_left
          · intro w hSw; (try dsimp only at hSw); go_simp <;> with_reducible rfl
          try simp only [Act.put, List.getElem_toArray, List.getElem_cons_zero, List.getElem_cons_succ, List.setIfInBounds_toArray, List.set_cons_zero, List.set_cons_succ]
          refine wpAnyH_take (i := 4) (v := ?_) rfl (by kernel_rfl) (by kernel_rfl) (by kernel_rfl) (fun _ _ _ h => h) (Or.inl ⟨by rfl, ?_⟩) (by assumption) ?_
          rotate_left
          · intro w hSw; (try dsimp only at hSw); go_simp <;> (try simp only [wy, wy2]) <;> with_reducible rfl
          try simp only [Act.put, List.getElem_toArray, List.getElem_cons_zero, List.getElem_cons_succ, List.setIfInBounds_toArray, List.set_cons_zero, List.set_cons_succ]
          try simp only [wy, wy2]
          refine wpAnyH_take (i := 5) (v := ?_) rfl (by kernel_rfl) (by kernel_rfl) (by kernel_rfl) (fun _ _ _ h => h) (Or.inl ⟨by rfl, ?_⟩) (by assumption) ?_
          rotate_left
          · intro w hSw; (try dsimp only at hSw); go_simp <;> with_reducible rfl
          try simp only [Act.put, List.getElem_toArray, List.getElem_cons_zero, List.getElem_cons_succ, List.setIfInBounds_toArray, List.set_cons_zero, List.set_cons_succ]
          refine wpAnyH_take (i := 6) (v := ?_) rfl (by kernel_rfl) (by kernel_rfl) (by kernel_rfl) (fun _ _ _ h => h) (Or.inl ⟨by rfl, ?_⟩) (by assumption) ?_
          rotate_left
          · intro w hSw; (try dsimp only at hSw); go_simp <;> with_reducible rfl
          try simp only [Act.put, List.getElem_toArray, List.getElem_cons_zero, List.getElem_cons_succ, List.setIfInBounds_toArray, List.set_cons_zero, List.set_cons_succ]
          refine wpAnyH_take (i := 7) (v := ?_) rfl (by kernel_rfl) (by kernel_rfl) (by kernel_rfl) (fun _ _ _ h => h) (Or.inl ⟨by rfl, ?_⟩) (by assumption) ?_
          rotate_left
          · intro w hSw; (try dsimp only at hSw); go_simp <;> (try simp only [wy, wy2]) <;> with_reducible rfl
          try simp only [Act.put, List.getElem_toArray, List.getElem_cons_zero, List.getElem_cons_succ, List.setIfInBounds_toArray, List.set_cons_zero, List.set_cons_succ]
          try simp only [wy, wy2]
          refine wpAnyH_take (i := 8) (v := ?_) rfl (by kernel_rfl) (by kernel_rfl) (by kernel_rfl) (fun _ _ _ h => h) (Or.inl ⟨by rfl, ?_⟩) (by assumption) ?_
          rotate_left
          · intro w hSw; (try dsimp only at hSw); go_simp <;> with_reducible rfl
          try simp only [Act.put, List.getElem_toArray, List.getElem_cons_zero, List.getElem_cons_succ, List.setIfInBounds_toArray, List.set_cons_zero, List.set_cons_succ]
          refine wpAnyH_take (i := 10) (v := ?_) rfl (by kernel_rfl) (by kernel_rfl) (by kernel_rfl) (fun _ _ _ h => h) (Or.inl ⟨by rfl, ?_⟩) (by assumption) ?_
          rotate_left
          · intro w hSw; (try dsimp only at hSw); go_simp <;> with_reducible rfl
          try simp only [Act.put, List.getElem_toArray, List.getElem_cons_zero, List.getElem_cons_succ, List.setIfInBounds_toArray, List.set_cons_zero, List.set_cons_succ]
          refine wpAnyH_take (i := 11) (v := ?_) rfl (by kernel_rfl) (by kernel_rfl) (by kernel_rfl) (fun _ _ _ h => h) (Or.inl ⟨by rfl, ?_⟩) (by assumption) ?_
          rotate_left
          · intro w hSw; (try dsimp only at hSw); go_simp <;> with_reducible rfl
          try simp only [Act.put, List.getElem_toArray, List.getElem_cons_zero, List.getElem_cons_succ, List.setIfInBounds_toArray, List.set_cons_zero, List.set_cons_succ]
          refine wpAnyH_take (i := 12) (v := ?_) rfl (by kernel_rfl) (by kernel_rfl) (by kernel_rfl) (fun _ _ _ h => h) (Or.inl ⟨by rfl, ?_⟩) (by assumption) ?_
          rotate_left
          · intro w hSw; (try dsimp only at hSw); go_simp <;> with_reducible rfl
          try simp only [Act.put, List.getElem_toArray, List.getElem_cons_zero, List.getElem_cons_succ, List.setIfInBounds_toArray, List.set_cons_zero, List.set_cons_succ]
          refine wpAnyH_ready (rs := [9, 13]) (by kernel_rfl) (by simp) ?_
          refine AllReadyH.cons rfl (fun K hK => ?_) (AllReadyH.cons rfl (fun K hK => ?_) AllReadyH.nil)
          · go_simp
            (try go_wp2_with fail)
            refine hK.out _ _ trivial (fun hHeld => ?_)
            clear hK K
            try simp only [Act.put, List.getElem_toArray, List.getElem_cons_zero, List.getElem_cons_succ, List.setIfInBounds_toArray, List.set_cons_zero, List.set_cons_succ]
            refine wpAnyH_ready (rs := [13]) (by kernel_rfl) (by simp) ?_
            refine AllReadyH.cons rfl (fun K hK => ?_) AllReadyH.nil
            go_simp
            (try go_wp2_with fail)
            refine hK.out _ _ trivial (fun hHeld => ?_)
            clear hK K
            try simp only [Act.put, List.getElem_toArray, List.getElem_cons_zero, List.getElem_cons_succ, List.setIfInBounds_toArray, List.set_cons_zero, List.set_cons_succ]
            refine wpAnyH_take (i := 14) (v := ?_) rfl (by kernel_rfl) (by kernel_rfl) (by kernel_rfl) (fun _ _ _ h => h) (Or.inl ⟨by rfl, ?_⟩) (by assumption) ?_
            rotate_left
            · intro w hSw; (try dsimp only at hSw); go_simp <;> with_reducible rfl
            try simp only [Act.put, List.getElem_toArray, List.getElem_cons_zero, List.getElem_cons_succ, List.setIfInBounds_toArray, List.set_cons_zero, List.set_cons_succ]
            refine wpAnyH_ready (rs := [15]) (by kernel_rfl) (by simp) ?_
            refine AllReadyH.cons rfl (fun K hK => ?_) AllReadyH.nil
            go_simp
            (try go_wp2_with fail)
            refine hK.out _ _ trivial (fun hHeld => ?_)
            clear hK K
            try simp only [Act.put, List.getElem_toArray, List.getElem_cons_zero, List.getElem_cons_succ, List.setIfInBounds_toArray, List.set_cons_zero, List.set_cons_succ]
            refine wpAnyH_take (i := 16) (v := ?_) rfl (by kernel_rfl) (by kernel_rfl) (by kernel_rfl) (fun _ _ _ h => h) (Or.inl ⟨by rfl, ?_⟩) (by assumption) ?_
            rotate_left
            · intro w hSw; (try dsimp only at hSw); go_simp <;> with_reducible rfl
            try simp only [Act.put, List.getElem_toArray, List.getElem_cons_zero, List.getElem_cons_succ, List.setIfInBounds_toArray, List.set_cons_zero, List.set_cons_succ]
            refine wpAnyH_ready (rs := [17]) (by kernel_rfl) (by simp) ?_
            refine AllReadyH.cons rfl (fun K hK => ?_) AllReadyH.nil
            go_simp
            (try go_wp2_with fail)
            refine hK.out _ _ trivial (fun hHeld => ?_)
            clear hK K
            try simp only [Act.put, List.getElem_toArray, List.getElem_cons_zero, List.getElem_cons_succ, List.setIfInBounds_toArray, List.set_cons_zero, List.set_cons_succ]
            refine wpAnyH_done (by kernel_rfl) ?_ _
            clear hHeld
            go_wp2_with fail
            exact ⟨⟨y, by omega, by go_num, hfin2⟩, by simp [intOf]; omega⟩
          · go_simp
            (try go_wp2_with fail)
            refine hK.out _ _ trivial (fun hHeld => ?_)
            clear hK K
            try simp only [Act.put, List.getElem_toArray, List.getElem_cons_zero, List.getElem_cons_succ, List.setIfInBounds_toArray, List.set_cons_zero, List.set_cons_succ]
            refine wpAnyH_ready (rs := [9]) (by kernel_rfl) (by simp) ?_
            refine AllReadyH.cons rfl (fun K hK => ?_) AllReadyH.nil
            go_simp
            (try go_wp2_with fail)
            refine hK.out _ _ trivial (fun hHeld => ?_)
            clear hK K
            try simp only [Act.put, List.getElem_toArray, List.getElem_cons_zero, List.getElem_cons_succ, List.setIfInBounds_toArray, List.set_cons_zero, List.set_cons_succ]
            refine wpAnyH_take (i := 14) (v := ?_) rfl (by kernel_rfl) (by kernel_rfl) (by kernel_rfl) (fun _ _ _ h => h) (Or.inl ⟨by rfl, ?_⟩) (by assumption) ?_
            rotate_left
            · intro w hSw; (try dsimp only at hSw); go_simp <;> with_reducible rfl
            try simp only [Act.put, List.getElem_toArray, List.getElem_cons_zero, List.getElem_cons_succ, List.setIfInBounds_toArray, List.set_cons_zero, List.set_cons_succ]
            refine wpAnyH_ready (rs := [15]) (by kernel_rfl) (by simp) ?_
            refine AllReadyH.cons rfl (fun K hK => ?_) AllReadyH.nil
            go_simp
            (try go_wp2_with fail)
            refine hK.out _ _ trivial (fun hHeld => ?_)
            clear hK K
            try simp only [Act.put, List.getElem_toArray, List.getElem_cons_zero, List.getElem_cons_succ, List.setIfInBounds_toArray, List.set_cons_zero, List.set_cons_succ]
            refine wpAnyH_take (i := 16) (v := ?_) rfl (by kernel_rfl) (by kernel_rfl) (by kernel_rfl) (fun _ _ _ h => h) (Or.inl ⟨by rfl, ?_⟩) (by assumption) ?_
            rotate_left
            · intro w hSw; (try dsimp only at hSw); go_simp <;> with_reducible rfl
            try simp only [Act.put, List.getElem_toArray, List.getElem_cons_zero, List.getElem_cons_succ, List.setIfInBounds_toArray, List.set_cons_zero, List.set_cons_succ]
            refine wpAnyH_ready (rs := [17]) (by kernel_rfl) (by simp) ?_
            refine AllReadyH.cons rfl (fun K hK => ?_) AllReadyH.nil
            go_simp
            (try go_wp2_with fail)
            refine hK.out _ _ trivial (fun hHeld => ?_)
            clear hK K
            try simp only [Act.put, List.getElem_toArray, List.getElem_cons_zero, List.getElem_cons_succ, List.setIfInBounds_toArray, List.set_cons_zero, List.set_cons_succ]
            refine wpAnyH_done (by kernel_rfl) ?_ _
            clear hHeld
            go_wp2_with fail
            exact ⟨⟨y, by omega, by go_num, hfin2⟩, by simp [intOf]; omega⟩
        · have d1 : decide ((k : Int) < (j : Int) - 1) = false := by simp; omega
          have d2 : ¬ ((k : Int) < (j : Int) - 1) := by omega
          have ek : k + 1 = j := by omega
          rw [ek] at hw3
          clear ek
          go_wp2_with fail
          refine bodyPost_ret (results_none rfl _ _ _) rfl ?_
          exact ⟨⟨_, rfl⟩, _, hfin.out.1, hfin.out.2, hw3.out.1, hw3.out.2⟩
set_option maxHeartbeats 16000000 in
set_option maxRecDepth 100000 in
theorem cSymB (g o n cap : Nat) (A : Nat → Vr) (cv cu : Value) (cf : Nat → Nat → Int) (Inv : World → Prop) (hC : CmpOk g n A cv cu cf Inv) (p : Nat → Nat) (a m b : Nat) (w : World) (h : Hd w g o n cap A p) (hI : Inv w) (hpn : ∀ k, k < n → p k < n) (h1 : a < m) (h2 : m < b) (h3 : b ≤ n) (hA : Stb (fun x y => cf x y < 0) p a m) (hB : Stb (fun x y => cf x y < 0) p m b) (hLo : Low p a m b) (hn : n ≤ 4000000000000) (hcap : n ≤ cap) (hma : a + 1 < m) (hmb : b ≤ m + 1) : Calls Try.prog 51 #[.slice (some ⟨g, o, none⟩) n cap, .int .i64 (a : Int), .int .i64 (m : Int), .int .i64 (b : Int), .func (.func 39) #[] #[cv, cu]] w fun e w' => (∃ v, e = .returned v) ∧ ∃ s, PermIn a b s ∧ Stb (fun x y => cf x y < 0) (fun k => p (s k)) a b ∧ Hd w' g o n cap A (fun k => p (s k)) ∧ Kp [g] w w' := by
  have HC := hid hC
  have HI := hid hI
  have HH := hid h
  have HPN := hid hpn
  have HSR := hid (And.intro hA (And.intro hB hLo))
  have q1 : (-9223372036854775808 : Int) ≤ (m : Int) - (a : Int) := by omega
  have q2 : (m : Int) - (a : Int) ≤ 9223372036854775807 := by omega
  clear hC hI h hpn hA hB hLo
  have hm1 : ((m : Int) - (a : Int) == 1) = false := by simp; omega
  have hm2 : ¬ ((m : Int) - (a : Int) = 1) := by omega
  have hb1 : (b : Int) - (m : Int) = 1 := by omega
  have q3 : (-9223372036854775808 : Int) ≤ (b : Int) - (m : Int) := by omega
  have q4 : (b : Int) - (m : Int) ≤ 9223372036854775807 := by omega
  go_enter Try.func51, Try.ntmps51
  go_wp2_with fail
  clear q1 q2 hm1 hm2 hb1 q3 q4
  go_loopw [14, 15, 16] (fun iv jv _ wr => ∃ i j : Nat, (a ≤ i ∧ i ≤ j ∧ j ≤ m) ∧ iv = .int .i64 (i : Int) ∧ jv = .int .i64 (j : Int) ∧ Hid ((i = a ∨ 0 ≤ cf (p m) (p (i - 1))) ∧ (j = m ∨ cf (p m) (p j) < 0)) ∧ Hid (Hd wr g o n cap A p ∧ Kp [g] w wr)) (fun iv jv _ _ => (intOf jv).toNat - (intOf iv).toNat)
  case atStart => exact ⟨a, m, by omega, rfl, rfl, hid ⟨.inl rfl, .inl rfl⟩, hid ⟨HH.out, Kp.refl _ _⟩⟩
  case round =>
    obtain ⟨i, j, ⟨bi, bij, bj⟩, rfl, rfl, hs, hw⟩ := hrel
    by_cases hij : i < j
    · have i0 : (i : Int) < (j : Int) := by omega
      obtain ⟨t, ht⟩ : ∃ t : Nat, t = i + j := ⟨_, rfl⟩
      obtain ⟨h, hh⟩ : ∃ h : Nat, h = t / 2 := ⟨_, rfl⟩
      have et : (i : Int) + (j : Int) = (t : Int) := by omega
      have et1 : (-9223372036854775808 : Int) ≤ (i : Int) + (j : Int) := by omega
      have et2 : (i : Int) + (j : Int) ≤ 9223372036854775807 := by omega
      have et3 : (0 : Int) ≤ (t : Int) := by omega
      have et4 : (t : Int) ≤ 9223372036854775807 := by omega
      have et5 : (t : Int) < 18446744073709551616 := by omega
      have eh : (t : Int) / 2 = (h : Int) := by omega
      have eh2 : (h : Int) ≤ 9223372036854775807 := by omega
      have eu : IntKind.u64.wrap (t : Int) = (t : Int) := by rw [IntKind.wrap_u64]; omega
      have ew : IntKind.i64.wrap (h : Int) = (h : Int) := by rw [IntKind.wrap_i64]; omega
      have ewt : IntKind.i64.wrap (t : Int) = (t : Int) := by rw [IntKind.wrap_i64]; omega
      have hhb : i ≤ h ∧ h < j := by omega
      have HT := hid (And.intro ht hh)
      clear ht hh
      have i1 : (0 : Int) ≤ (h : Int) := by omega
      have i2 : (h : Int) < (n : Int) := by omega
      have i5 : (h : Int) + 1 ≤ 9223372036854775807 := by omega
      have i3 : (0 : Int) ≤ (m : Int) := by omega
      have i4 : (m : Int) < (n : Int) := by omega
      have cC := hid (fun W' (k : Kp [] wr W') => HC.out.calls W' (p m) (p h) (HC.out.keep _ _ HI.out (hw.out.2.trans k (by simp))) (HPN.out _ (by omega)) (HPN.out _ (by omega)))
      obtain ⟨⟨x0, x1, x2, x3⟩, _⟩ := hw.out.1.cells m (by omega)
      obtain ⟨⟨y0, y1, y2, y3⟩, _⟩ := hw.out.1.cells h (by omega)
      obtain ⟨V1, hV1⟩ : ∃ V, Hid (V = A (p m)) := ⟨_, hid rfl⟩
      obtain ⟨V2, hV2⟩ : ∃ V, Hid (V = A (p h)) := ⟨_, hid rfl⟩
      rw [← hV1.out] at x0 x1 x2 x3 cC
      rw [← hV2.out] at y0 y1 y2 y3 cC
      obtain ⟨C, hCf⟩ : ∃ C, Hid (cf (p m) (p h) = C) := ⟨_, hid rfl⟩
      rw [hCf.out] at cC
      obtain ⟨e1, n1, a1, c1, l1, d1⟩ := V1
      obtain ⟨e2, n2, a2, c2, l2, d2⟩ := V2
      simp only [Vr.v] at cC
      dsimp only at *
      have hF : Hid (∀ W', Kp [] wr W' → (W'.cell? ⟨g, o + m * 4, none⟩ = some (.int .u64 e1) ∧ W'.cell? ⟨g, o + m * 4 + 1, none⟩ = some (.int .u32 n1) ∧ W'.cell? ⟨g, o + m * 4 + 2, none⟩ = some (.slice a1 l1.length c1) ∧ W'.cell? ⟨g, o + m * 4 + 3, none⟩ = some (.int .u64 d1) ∧ W'.cell? ⟨g, o + h * 4, none⟩ = some (.int .u64 e2) ∧ W'.cell? ⟨g, o + h * 4 + 1, none⟩ = some (.int .u32 n2) ∧ W'.cell? ⟨g, o + h * 4 + 2, none⟩ = some (.slice a2 l2.length c2) ∧ W'.cell? ⟨g, o + h * 4 + 3, none⟩ = some (.int .u64 d2))) := fun W' k => ⟨kpAt k x0, kpAt k x1, kpAt k x2, kpAt k x3, kpAt k y0, kpAt k y1, kpAt k y2, kpAt k y3⟩
      clear x0 x1 x2 x3 y0 y1 y2 y3 hV1 hV2
      go_wp2_with fail
      refine wp_region_held_drew (S := fun W' => W'.cell? ⟨g, o + m * 4, none⟩ = some (.int .u64 e1) ∧ W'.cell? ⟨g, o + m * 4 + 1, none⟩ = some (.int .u32 n1) ∧ W'.cell? ⟨g, o + m * 4 + 2, none⟩ = some (.slice a1 l1.length c1) ∧ W'.cell? ⟨g, o + m * 4 + 3, none⟩ = some (.int .u64 d1) ∧ W'.cell? ⟨g, o + h * 4, none⟩ = some (.int .u64 e2) ∧ W'.cell? ⟨g, o + h * 4 + 1, none⟩ = some (.int .u32 n2) ∧ W'.cell? ⟨g, o + h * 4 + 2, none⟩ = some (.slice a2 l2.length c2) ∧ W'.cell? ⟨g, o + h * 4 + 3, none⟩ = some (.int .u64 d2)) (by kernel_rfl) ?_ (fun hHeld => ?_)
      · exact hF.out _ (Kp.refl [] wr).drew
      have KD : Hid (Kp [] wr wr.drew) := hid (Kp.refl [] wr).drew
      generalize wr.drew = Wd at *
      refine wpAnyH_take (i := 0) (v := ?_) rfl (by kernel_rfl) (by kernel_rfl) (by kernel_rfl) (fun _ _ _ h => h) (Or.inl ⟨by rfl, ?_⟩) (by assumption) ?_
      rotate_left
      · intro w hSw; (try dsimp only at hSw); go_simp <;> with_reducible rfl
      try simp only [Act.put, List.getElem_toArray, List.getElem_cons_zero, List.getElem_cons_succ, List.setIfInBounds_toArray, List.set_cons_zero, List.set_cons_succ]
      refine wpAnyH_take (i := 1) (v := ?_) rfl (by kernel_rfl) (by kernel_rfl) (by kernel_rfl) (fun _ _ _ h => h) (Or.inl ⟨by rfl, ?_⟩) (by assumption) ?_
      rotate_left
      · intro w hSw; (try dsimp only at hSw); go_simp <;> with_reducible rfl
      try simp only [Act.put, List.getElem_toArray, List.getElem_cons_zero, List.getElem_cons_succ, List.setIfInBounds_toArray, List.set_cons_zero, List.set_cons_succ]
      refine wpAnyH_take (i := 2) (v := ?_) rfl (by kernel_rfl) (by kernel_rfl) (by kernel_rfl) (fun _ _ _ h => h) (Or.inl ⟨by rfl, ?_⟩) (by assumption) ?_
      rotate_left
      · intro w hSw; (try dsimp only at hSw); go_simp <;> with_reducible rfl
      try simp only [Act.put, List.getElem_toArray, List.getElem_cons_zero, List.getElem_cons_succ, List.setIfInBounds_toArray, List.set_cons_zero, List.set_cons_succ]
      refine wpAnyH_take (i := 3) (v := ?_) rfl (by kernel_rfl) (by kernel_rfl) (by kernel_rfl) (fun _ _ _ h => h) (Or.inl ⟨by rfl, ?_⟩) (by assumption) ?_
      rotate_left
      · intro w hSw; (try dsimp only at hSw); go_simp <;> with_reducible rfl
      try simp only [Act.put, List.getElem_toArray, List.getElem_cons_zero, List.getElem_cons_succ, List.setIfInBounds_toArray, List.set_cons_zero, List.set_cons_succ]
      refine wpAnyH_take (i := 4) (v := ?_) rfl (by kernel_rfl) (by kernel_rfl) (by kernel_rfl) (fun _ _ _ h => h) (Or.inl ⟨by rfl, ?_⟩) (by assumption) ?_
      rotate_left
      · intro w hSw; (try dsimp only at hSw); go_simp <;> with_reducible rfl
      try simp only [Act.put, List.getElem_toArray, List.getElem_cons_zero, List.getElem_cons_succ, List.setIfInBounds_toArray, List.set_cons_zero, List.set_cons_succ]
      refine wpAnyH_take (i := 5) (v := ?_) rfl (by kernel_rfl) (by kernel_rfl) (by kernel_rfl) (fun _ _ _ h => h) (Or.inl ⟨by rfl, ?_⟩) (by assumption) ?_
      rotate_left
      · intro w hSw; (try dsimp only at hSw); go_simp <;> with_reducible rfl
      try simp only [Act.put, List.getElem_toArray, List.getElem_cons_zero, List.getElem_cons_succ, List.setIfInBounds_toArray, List.set_cons_zero, List.set_cons_succ]
      refine wpAnyH_take (i := 6) (v := ?_) rfl (by kernel_rfl) (by kernel_rfl) (by kernel_rfl) (fun _ _ _ h => h) (Or.inl ⟨by rfl, ?_⟩) (by assumption) ?_
      rotate_left
      · intro w hSw; (try dsimp only at hSw); go_simp <;> with_reducible rfl
      try simp only [Act.put, List.getElem_toArray, List.getElem_cons_zero, List.getElem_cons_succ, List.setIfInBounds_toArray, List.set_cons_zero, List.set_cons_succ]
      refine wpAnyH_take (i := 7) (v := ?_) rfl (by kernel_rfl) (by kernel_rfl) (by kernel_rfl) (fun _ _ _ h => h) (Or.inl ⟨by rfl, ?_⟩) (by assumption) ?_
      rotate_left
      · intro w hSw; (try dsimp only at hSw); go_simp <;> with_reducible rfl
      try simp only [Act.put, List.getElem_toArray, List.getElem_cons_zero, List.getElem_cons_succ, List.setIfInBounds_toArray, List.set_cons_zero, List.set_cons_succ]
      refine wpAnyH_take (i := 8) (v := ?_) rfl (by kernel_rfl) (by kernel_rfl) (by kernel_rfl) (fun _ _ _ h => h) (Or.inl ⟨by rfl, ?_⟩) (by assumption) ?_
      rotate_left
      · intro w hSw; (try dsimp only at hSw); go_simp <;> with_reducible rfl
      try simp only [Act.put, List.getElem_toArray, List.getElem_cons_zero, List.getElem_cons_succ, List.setIfInBounds_toArray, List.set_cons_zero, List.set_cons_succ]
      refine wpAnyH_ready (rs := [9]) (by kernel_rfl) (by simp) ?_
      refine AllReadyH.cons rfl (fun K hK => ?_) AllReadyH.nil
      go_simp
      refine (cC.out Wd KD.out).mono ?_
      rintro e u1 ⟨rfl, l1'⟩
      (try go_wp2_with fail)
      refine hK.out _ _ ?_ (fun hHeld => ?_)
      · exact hF.out _ (KD.out.trans l1' (by simp))
      clear hK K
      try simp only [Act.put, List.getElem_toArray, List.getElem_cons_zero, List.getElem_cons_succ, List.setIfInBounds_toArray, List.set_cons_zero, List.set_cons_succ]
      have K1 := hid (KD.out.trans l1' (by simp))
      clear l1' KD
      have hw1 : Hid (Hd u1 g o n cap A p ∧ Kp [g] w u1) := hid ⟨hw.out.1.kept K1.out, hw.out.2.trans K1.out (by simp)⟩
      by_cases hc0 : C < 0
      · have dc : decide (C < 0) = true := by simpa using hc0
        refine wpAnyH_take (i := 10) (v := ?_) rfl (by kernel_rfl) (by kernel_rfl) (by kernel_rfl) (fun _ _ _ h => h) (Or.inl ⟨by rfl, ?_⟩) (by assumption) ?_
        rotate_left
        · intro w hSw; (try dsimp only at hSw); go_simp <;> (try simp only [dc]) <;> with_reducible rfl
        try simp only [Act.put, List.getElem_toArray, List.getElem_cons_zero, List.getElem_cons_succ, List.setIfInBounds_toArray, List.set_cons_zero, List.set_cons_succ]
        try simp only [dc]
        refine wpAnyH_take (i := 11) (v := ?_) rfl (by kernel_rfl) (by kernel_rfl) (by kernel_rfl) (fun _ _ _ h => h) (Or.inl ⟨by rfl, ?_⟩) (by assumption) ?_
        rotate_left
        · intro w hSw; (try dsimp only at hSw); go_simp <;> with_reducible rfl
        try simp only [Act.put, List.getElem_toArray, List.getElem_cons_zero, List.getElem_cons_succ, List.setIfInBounds_toArray, List.set_cons_zero, List.set_cons_succ]
        try simp only [Bool.not_true, Bool.not_false]
        refine wpAnyH_done (by kernel_rfl) ?_ _
        have hs2 : Hid ((i = a ∨ 0 ≤ cf (p m) (p (i - 1))) ∧ (h = m ∨ cf (p m) (p h) < 0)) := hid ⟨hs.out.1, .inr (by rw [hCf.out]; exact hc0)⟩
        clear hHeld hF cC hs hw hc0
        go_wp2_with fail
        exact ⟨⟨i, h, by omega, rfl, rfl, hs2, hw1⟩, by simp [intOf]; omega⟩
      · have dc : decide (C < 0) = false := by simpa using hc0
        refine wpAnyH_take (i := 10) (v := ?_) rfl (by kernel_rfl) (by kernel_rfl) (by kernel_rfl) (fun _ _ _ h => h) (Or.inl ⟨by rfl, ?_⟩) (by assumption) ?_
        rotate_left
        · intro w hSw; (try dsimp only at hSw); go_simp <;> (try simp only [dc]) <;> with_reducible rfl
        try simp only [Act.put, List.getElem_toArray, List.getElem_cons_zero, List.getElem_cons_succ, List.setIfInBounds_toArray, List.set_cons_zero, List.set_cons_succ]
        try simp only [dc]
        refine wpAnyH_take (i := 11) (v := ?_) rfl (by kernel_rfl) (by kernel_rfl) (by kernel_rfl) (fun _ _ _ h => h) (Or.inl ⟨by rfl, ?_⟩) (by assumption) ?_
        rotate_left
        · intro w hSw; (try dsimp only at hSw); go_simp <;> with_reducible rfl
        try simp only [Act.put, List.getElem_toArray, List.getElem_cons_zero, List.getElem_cons_succ, List.setIfInBounds_toArray, List.set_cons_zero, List.set_cons_succ]
        try simp only [Bool.not_true, Bool.not_false]
        refine wpAnyH_done (by kernel_rfl) ?_ _
        have hs2 : Hid ((h + 1 = a ∨ 0 ≤ cf (p m) (p (h + 1 - 1))) ∧ (j = m ∨ cf (p m) (p j) < 0)) := hid ⟨.inr (by rw [Nat.add_sub_cancel, hCf.out]; omega), hs.out.2⟩
        clear hHeld hF cC hs hw hc0
        go_wp2_with fail
        exact ⟨⟨h + 1, j, by omega, by go_num, rfl, hs2, hw1⟩, by simp [intOf]; omega⟩
    · have e : j = i := by omega
      subst e
      have eb : b = m + 1 := by omega
      have hfin : Hid (PermIn a b (rot j m (m + 1)) ∧ Stb (fun x y => cf x y < 0) (fun k => p (rot j m (m + 1) k)) a b) := hid ⟨rot_perm bi bj (by omega) (by omega), by
        have h5 := ins_left HC.out.swo bi bj HSR.out.1 (eb ▸ HSR.out.2.2) hs.out.2 (hs.out.1.imp_right fun h => Int.not_lt.2 h)
        exact h5.sub (Nat.le_refl _) (by omega)⟩
      clear hs eb
      go_wp2_with fail
      go_loopw [17] (fun kv wn => ∃ k : Nat, (j ≤ k ∧ k ≤ m) ∧ kv = .int .i64 (k : Int) ∧ Hid (Hd wn g o n cap A (fun x => p (rot k m (m + 1) x)) ∧ Kp [g] w wn)) (fun kv _ => (intOf kv).toNat)
      case atStart => exact ⟨m, by omega, rfl, hid ⟨by rw [rot_left]; exact hw.out.1, hw.out.2⟩⟩
      case round =>
        obtain ⟨k, ⟨bk, bk2⟩, rfl, hw3⟩ := hrel
        clear hw
        by_cases hkj : j < k
        · have d1 : decide ((j : Int) < (k : Int)) = true := by simp; omega
          have d2 : (j : Int) < (k : Int) := by omega
          obtain ⟨y, hy⟩ : ∃ y : Nat, y = k - 1 := ⟨_, rfl⟩
          have ey : (k : Int) - 1 = (y : Int) := by omega
          have wy : IntKind.i64.wrap ((k : Int) - 1) = (y : Int) := by rw [ey, IntKind.wrap_i64]; omega
          have wy2 : IntKind.i64.wrap (y : Int) = (y : Int) := by rw [IntKind.wrap_i64]; omega
          have i1 : (0 : Int) ≤ (k : Int) := by omega
          have i2 : (k : Int) < (n : Int) := by omega
          have i3 : (0 : Int) ≤ (y : Int) := by omega
          have i4 : (y : Int) < (n : Int) := by omega
          have b1 : (-9223372036854775808 : Int) ≤ (k : Int) - 1 := by omega
          have b2 : (k : Int) - 1 ≤ 9223372036854775807 := by omega
          have HY : Hid (k = y + 1) := hid (by omega)
          obtain ⟨Q, hQ⟩ : ∃ Q, Hid (Q = fun x => p (rot k m (m + 1) x)) := ⟨_, hid rfl⟩
          rw [← hQ.out] at hw3
          have hyb : y < n ∧ j ≤ y := by omega
          clear hy
          go_wp2_with fail
          refine wp_region_held_drew (S := fun _ => True) (by kernel_rfl) trivial (fun hHeld => ?_)
          have KD2 : Kp [] wr wr.drew := (Kp.refl [] wr).drew
          have hd2 := hw3.out.1.kept KD2
          have hk2 := hid (hw3.out.2.trans KD2 (by simp))
          generalize wr.drew = Wd2 at *
          clear KD2 hw3
          obtain ⟨⟨x0, x1, x2, x3⟩, fx0, fx1, fx2, fx3⟩ := hd2.cells k (by omega)
          obtain ⟨⟨y0, y1, y2, y3⟩, fy0, fy1, fy2, fy3⟩ := hd2.cells y (by omega)
          have hsw := hd2.swap k y (by omega) (by omega)
          have hpc := put4_cells hd2 k y (by omega) (by omega)
          obtain ⟨U1, hU1⟩ : ∃ V, V = A (Q k) := ⟨_, rfl⟩
          obtain ⟨U2, hU2⟩ : ∃ V, V = A (Q y) := ⟨_, rfl⟩
          rw [← hU1] at x0 x1 x2 x3 hsw
          rw [← hU2] at y0 y1 y2 y3 hsw
          replace hpc := hpc U2
          obtain ⟨⟨u0, hu0⟩, gu0⟩ := hpc 0 (by omega)
          obtain ⟨⟨u1, hu1⟩, gu1⟩ := hpc 1 (by omega)
          obtain ⟨⟨u2, hu2⟩, gu2⟩ := hpc 2 (by omega)
          obtain ⟨⟨u3, hu3⟩, gu3⟩ := hpc 3 (by omega)
          simp only [Nat.add_zero] at hu0 gu0
          obtain ⟨W1, eW1⟩ : ∃ Y, ((((Wd2.setCell ⟨g, o + k * 4, none⟩ (.int .u64 U2.e)).setCell ⟨g, o + k * 4 + 1, none⟩ (.int .u32 U2.n)).setCell ⟨g, o + k * 4 + 2, none⟩ (.slice U2.a U2.l.length U2.c)).setCell ⟨g, o + k * 4 + 3, none⟩ (.int .u64 U2.d)) = Y := ⟨_, rfl⟩
          have eP1 : put4 Wd2 g (o + k * 4) U2 = W1 := eW1
          obtain ⟨W2, eW2⟩ : ∃ Y, ((((W1.setCell ⟨g, o + y * 4, none⟩ (.int .u64 U1.e)).setCell ⟨g, o + y * 4 + 1, none⟩ (.int .u32 U1.n)).setCell ⟨g, o + y * 4 + 2, none⟩ (.slice U1.a U1.l.length U1.c)).setCell ⟨g, o + y * 4 + 3, none⟩ (.int .u64 U1.d)) = Y := ⟨_, rfl⟩
          have eP2 : put4 W1 g (o + y * 4) U1 = W2 := eW2
          have kP1 : Kp [g] Wd2 W1 := by rw [← eP1]; exact put4_kp _ _ _ _
          have kP2 : Kp [g] W1 W2 := by rw [← eP2]; exact put4_kp _ _ _ _
          simp only [eP1] at hu0 hu1 hu2 hu3 gu0 gu1 gu2 gu3 hsw
          simp only [eP2] at hsw
          have zW1 := kP1.size
          have HSW := hid (And.intro hsw (kP1.trans kP2 (by simp)))
          have zg : g < Wd2.heap.size := hd2.lt
          have zg1 : g < W1.heap.size := by omega
          clear hpc hsw eP1 eP2 kP1 kP2 hU1 hU2 zW1
          obtain ⟨e3, n3, a3, c3, l3, d3⟩ := U1
          obtain ⟨e4, n4, a4, c4, l4, d4⟩ := U2
          dsimp only at *
          have hfin2 : Hid (Hd W2 g o n cap A (fun x => p (rot y m (m + 1) x)) ∧ Kp [g] w W2) := hid ⟨by
            have := HSW.out.1
            rw [hQ.out] at this
            have e := HY.out
            rw [rot_pull y m (by omega), ← e]
            exact this, hk2.out.trans HSW.out.2 (by simp)⟩
          have hky : y < k ∧ y ≤ m := by have := HY.out; omega
          clear hd2 HSW hk2
          refine wpAnyH_take (i := 0) (v := ?_) rfl (by kernel_rfl) (by kernel_rfl) (by kernel_rfl) (fun _ _ _ h => h) (Or.inl ⟨by rfl, ?_⟩) (by assumption) ?_
          rotate_left
          · intro w hSw; (try dsimp only at hSw); go_simp <;> with_reducible rfl
          try simp only [Act.put, List.getElem_toArray, List.getElem_cons_zero, List.getElem_cons_succ, List.setIfInBounds_toArray, List.set_cons_zero, List.set_cons_succ]
          refine wpAnyH_take (i := 1) (v := ?_) rfl (by kernel_rfl) (by kernel_rfl) (by kernel_rfl) (fun _ _ _ h => h) (Or.inl ⟨by rfl, ?_⟩) (by assumption) ?_
          rotate_left
          · intro w hSw; (try dsimp only at hSw); go_simp <;> with_reducible rfl
          try simp only [Act.put, List.getElem_toArray, List.getElem_cons_zero, List.getElem_cons_succ, List.setIfInBounds_toArray, List.set_cons_zero, List.set_cons_succ]
          refine wpAnyH_take (i := 2) (v := ?_) rfl (by kernel_rfl) (by kernel_rfl) (by kernel_rfl) (fun _ _ _ h => h) (Or.inl ⟨by rfl, ?_⟩) (by assumption) ?_
          rotate_left
          · intro w hSw; (try dsimp only at hSw); go_simp <;> with_reducible rfl
          try simp only [Act.put, List.getElem_toArray, List.getElem_cons_zero, List.getElem_cons_succ, List.setIfInBounds_toArray, List.set_cons_zero, List.set_cons_succ]
          refine wpAnyH_take (i := 3) (v := ?_) rfl (by kernel_rfl) (by kernel_rfl) (by kernel_rfl) (fun _ _ _ h => h) (Or.inl ⟨by rfl, ?_⟩) (by assumption) ?_
          rotate_left
          · intro w hSw; (try dsimp only at hSw); go_simp <;> with_reducible rfl
          try simp only [Act.put, List.getElem_toArray, List.getElem_cons_zero, List.getElem_cons_succ, List.setIfInBounds_toArray, List.set_cons_zero, List.set_cons_succ]
          refine wpAnyH_take (i := 4) (v := ?_) rfl (by kernel_rfl) (by kernel_rfl) (by kernel_rfl) (fun _ _ _ h => h) (Or.inl ⟨by rfl, ?_⟩) (by assumption) ?_
          rotate_left
          · intro w hSw; (try dsimp only at hSw); go_simp <;> (try simp only [wy, wy2]) <;> with_reducible rfl
          try simp only [Act.put, List.getElem_toArray, List.getElem_cons_zero, List.getElem_cons_succ, List.setIfInBounds_toArray, List.set_cons_zero, List.set_cons_succ]
          try simp only [wy, wy2]
          refine wpAnyH_take (i := 5) (v := ?_) rfl (by kernel_rfl) (by kernel_rfl) (by kernel_rfl) (fun _ _ _ h => h) (Or.inl ⟨by rfl, ?_⟩) (by assumption) ?_
          rotate_left
          · intro w hSw; (try dsimp only at hSw); go_simp <;> with_reducible rfl
          try simp only [Act.put, List.getElem_toArray, List.getElem_cons_zero, List.getElem_cons_succ, List.setIfInBounds_toArray, List.set_cons_zero, List.set_cons_succ]
          refine wpAnyH_take (i := 6) (v := ?_) rfl (by kernel_rfl) (by kernel_rfl) (by kernel_rfl) (fun _ _ _ h => h) (Or.inl ⟨by rfl, ?_⟩) (by assumption) ?_
          rotate_left
          · intro w hSw; (try dsimp only at hSw); go_simp <;> with_reducible rfl
          try simp only [Act.put, List.getElem_toArray, List.getElem_cons_zero, List.getElem_cons_succ, List.setIfInBounds_toArray, List.set_cons_zero, List.set_cons_succ]
          refine wpAnyH_take (i := 7) (v := ?_) rfl (by kernel_rfl) (by kernel_rfl) (by kernel_rfl) (fun _ _ _ h => h) (Or.inl ⟨by rfl, ?_⟩) (by assumption) ?_
          rotate_left
          · intro w hSw; (try dsimp only at hSw); go_simp <;> (try simp only [wy, wy2]) <;> with_reducible rfl
          try simp only [Act.put, List.getElem_toArray, List.getElem_cons_zero, List.getElem_cons_succ, List.setIfInBounds_toArray, List.set_cons_zero, List.set_cons_succ]
          try simp only [wy, wy2]
          refine wpAnyH_take (i := 8) (v := ?_) rfl (by kernel_rfl) (by kernel_rfl) (by kernel_rfl) (fun _ _ _ h => h) (Or.inl ⟨by rfl, ?_⟩) (by assumption) ?_
          rotate_left
          · intro w hSw; (try dsimp only at hSw); go_simp <;> with_reducible rfl
          try simp only [Act.put, List.getElem_toArray, List.getElem_cons_zero, List.getElem_cons_succ, List.setIfInBounds_toArray, List.set_cons_zero, List.set_cons_succ]
          refine wpAnyH_take (i := 10) (v := ?_) rfl (by kernel_rfl) (by kernel_rfl) (by kernel_rfl) (fun _ _ _ h => h) (Or.inl ⟨by rfl, ?_⟩) (by assumption) ?_
          rotate_left
          · intro w hSw; (try dsimp only at hSw); go_simp <;> with_reducible rfl
          try simp only [Act.put, List.getElem_toArray, List.getElem_cons_zero, List.getElem_cons_succ, List.setIfInBounds_toArray, List.set_cons_zero, List.set_cons_succ]
          refine wpAnyH_take (i := 11) (v := ?_) rfl (by kernel_rfl) (by kernel_rfl) (by kernel_rfl) (fun _ _ _ h => h) (Or.inl ⟨by rfl, ?_⟩) (by assumption) ?_
          rotate_left
          · intro w hSw; (try dsimp only at hSw); go_simp <;> with_reducible rfl
          try simp only [Act.put, List.getElem_toArray, List.getElem_cons_zero, List.getElem_cons_succ, List.setIfInBounds_toArray, List.set_cons_zero, List.set_cons_succ]
          refine wpAnyH_take (i := 12) (v := ?_) rfl (by kernel_rfl) (by kernel_rfl) (by kernel_rfl) (fun _ _ _ h => h) (Or.inl ⟨by rfl, ?_⟩) (by assumption) ?_
          rotate_left
          · intro w hSw; (try dsimp only at hSw); go_simp <;> with_reducible rfl
          try simp only [Act.put, List.getElem_toArray, List.getElem_cons_zero, List.getElem_cons_succ, List.setIfInBounds_toArray, List.set_cons_zero, List.set_cons_succ]
          refine wpAnyH_ready (rs := [9, 13]) (by kernel_rfl) (by simp) ?_
          refine AllReadyH.cons rfl (fun K hK => ?_) (AllReadyH.cons rfl (fun K hK => ?_) AllReadyH.nil)
          · go_simp
            (try go_wp2_with fail)
            refine hK.out _ _ trivial (fun hHeld => ?_)
            clear hK K
            try simp only [Act.put, List.getElem_toArray, List.getElem_cons_zero, List.getElem_cons_succ, List.setIfInBounds_toArray, List.set_cons_zero, List.set_cons_succ]
            refine wpAnyH_ready (rs := [13]) (by kernel_rfl) (by simp) ?_
            refine AllReadyH.cons rfl (fun K hK => ?_) AllReadyH.nil
            go_simp
            (try go_wp2_with fail)
            refine hK.out _ _ trivial (fun hHeld => ?_)
            clear hK K
            try simp only [Act.put, List.getElem_toArray, List.getElem_cons_zero, List.getElem_cons_succ, List.setIfInBounds_toArray, List.set_cons_zero, List.set_cons_succ]
            refine wpAnyH_take (i := 14) (v := ?_) rfl (by kernel_rfl) (by kernel_rfl) (by kernel_rfl) (fun _ _ _ h => h) (Or.inl ⟨by rfl, ?_⟩) (by assumption) ?_
            rotate_left
            · intro w hSw; (try dsimp only at hSw); go_simp <;> with_reducible rfl
            try simp only [Act.put, List.getElem_toArray, List.getElem_cons_zero, List.getElem_cons_succ, List.setIfInBounds_toArray, List.set_cons_zero, List.set_cons_succ]
            refine wpAnyH_ready (rs := [15]) (by kernel_rfl) (by simp) ?_
            refine AllReadyH.cons rfl (fun K hK => ?_) AllReadyH.nil
            go_simp
            (try go_wp2_with fail)
            refine hK.out _ _ trivial (fun hHeld => ?_)
            clear hK K
            try simp only [Act.put, List.getElem_toArray, List.getElem_cons_zero, List.getElem_cons_succ, List.setIfInBounds_toArray, List.set_cons_zero, List.set_cons_succ]
            refine wpAnyH_take (i := 16) (v := ?_) rfl (by kernel_rfl) (by kernel_rfl) (by kernel_rfl) (fun _ _ _ h => h) (Or.inl ⟨by rfl, ?_⟩) (by assumption) ?_
            rotate_left
            · intro w hSw; (try dsimp only at hSw); go_simp <;> with_reducible rfl
            try simp only [Act.put, List.getElem_toArray, List.getElem_cons_zero, List.getElem_cons_succ, List.setIfInBounds_toArray, List.set_cons_zero, List.set_cons_succ]
            refine wpAnyH_ready (rs := [17]) (by kernel_rfl) (by simp) ?_
            refine AllReadyH.cons rfl (fun K hK => ?_) AllReadyH.nil
            go_simp
            (try go_wp2_with fail)
            refine hK.out _ _ trivial (fun hHeld => ?_)
            clear hK K
            try simp only [Act.put, List.getElem_toArray, List.getElem_cons_zero, List.getElem_cons_succ, List.setIfInBounds_toArray, List.set_cons_zero, List.set_cons_succ]
            refine wpAnyH_done (by kernel_rfl) ?_ _
            clear hHeld
            go_wp2_with fail
            exact ⟨⟨y, by omega, by go_num, hfin2⟩, by simp [intOf]; omega⟩
          · go_simp
            (try go_wp2_with fail)
            refine hK.out _ _ trivial (fun hHeld => ?_)
            clear hK K
            try simp only [Act.put, List.getElem_toArray, List.getElem_cons_zero, List.getElem_cons_succ, List.setIfInBounds_toArray, List.set_cons_zero, List.set_cons_succ]
            refine wpAnyH_ready (rs := [9]) (by kernel_rfl) (by simp) ?_
            refine AllReadyH.cons rfl (fun K hK => ?_) AllReadyH.nil
            go_simp
            (try go_wp2_with fail)
            refine hK.out _ _ trivial (fun hHeld => ?_)
            clear hK K
            try simp only [Act.put, List.getElem_toArray, List.getElem_cons_zero, List.getElem_cons_succ, List.setIfInBounds_toArray, List.set_cons_zero, List.set_cons_succ]
            refine wpAnyH_take (i := 14) (v := ?_) rfl (by kernel_rfl) (by kernel_rfl) (by kernel_rfl) (fun _ _ _ h => h) (Or.inl ⟨by rfl, ?_⟩) (by assumption) ?_
            rotate_left
            · intro w hSw; (try dsimp only at hSw); go_simp <;> with_reducible rfl
            try simp only [Act.put, List.getElem_toArray, List.getElem_cons_zero, List.getElem_cons_succ, List.setIfInBounds_toArray, List.set_cons_zero, List.set_cons_succ]
            refine wpAnyH_ready (rs := [15]) (by kernel_rfl) (by simp) ?_
            refine AllReadyH.cons rfl (fun K hK => ?_) AllReadyH.nil
            go_simp
            (try go_wp2_with fail)
            refine hK.out _ _ trivial (fun hHeld => ?_)
            clear hK K
            try simp only [Act.put, List.getElem_toArray, List.getElem_cons_zero, List.getElem_cons_succ, List.setIfInBounds_toArray, List.set_cons_zero, List.set_cons_succ]
            refine wpAnyH_take (i := 16) (v := ?_) rfl (by kernel_rfl) (by kernel_rfl) (by kernel_rfl) (fun _ _ _ h => h) (Or.inl ⟨by rfl, ?_⟩) (by assumption) ?_
            rotate_left
            · intro w hSw; (try dsimp only at hSw); go_simp <;> with_reducible rfl
            try simp only [Act.put, List.getElem_toArray, List.getElem_cons_zero, List.getElem_cons_succ, List.setIfInBounds_toArray, List.set_cons_zero, List.set_cons_succ]
            refine wpAnyH_ready (rs := [17]) (by kernel_rfl) (by simp) ?_
            refine AllReadyH.cons rfl (fun K hK => ?_) AllReadyH.nil
            go_simp
            (try go_wp2_with fail)
            refine hK.out _ _ trivial (fun hHeld => ?_)
            clear hK K
            try simp only [Act.put, List.getElem_toArray, List.getElem_cons_zero, List.getElem_cons_succ, List.setIfInBounds_toArray, List.set_cons_zero, List.set_cons_succ]
            refine wpAnyH_done (by kernel_rfl) ?_ _
            clear hHeld
            go_wp2_with fail
            exact ⟨⟨y, by omega, by go_num, hfin2⟩, by simp [intOf]; omega⟩
        · have d1 : decide ((j : Int) < (k : Int)) = false := by simp; omega
          have d2 : ¬ ((j : Int) < (k : Int)) := by omega
          have ek : k = j := by omega
          subst ek
          go_wp2_with fail
          refine bodyPost_ret (results_none rfl _ _ _) rfl ?_
          exact ⟨⟨_, rfl⟩, _, hfin.out.1, hfin.out.2, hw3.out.1, hw3.out.2⟩
end Go.Proofs.Ytebkkdoggagcdaa
end

/- Stable sorting: symMerge, its midst. -/
import Derived.Test.YtebkkdoggagcdaaB5
section
namespace Go.Proofs.Ytebkkdoggagcdaa
open Go.RowKit Go.Hay
set_option linter.unusedVariables false
set_option linter.unusedSimpArgs false

set_option maxHeartbeats 64000000 in
set_option maxRecDepth 100000 in
theorem cSymC2 (g o n cap : Nat) (A : Nat → Vr) (cv cu : Value) (cf : Nat → Nat → Int) (Inv : World → Prop) (hC : CmpOk g n A cv cu cf Inv) (p : Nat → Nat) (a m b : Nat) (w : World) (h : Hd w g o n cap A p) (hI : Inv w) (hpn : ∀ k, k < n → p k < n) (h1 : a < m) (h2 : m < b) (h3 : b ≤ n) (hA : Stb (fun x y => cf x y < 0) p a m) (hB : Stb (fun x y => cf x y < 0) p m b) (hLo : Low p a m b) (hn : n ≤ 4000000000000) (hcap : n ≤ cap) (hma : a + 1 < m) (hmb : m + 1 < b) (hk : 2 * m ≤ a + b) (IH : ∀ (p' : Nat → Nat) (a' m' b' : Nat) (w' : World), b' - a' < b - a → Hd w' g o n cap A p' → Inv w' → (∀ k, k < n → p' k < n) → a' < m' → m' < b' → b' ≤ n → Stb (fun x y => cf x y < 0) p' a' m' → Stb (fun x y => cf x y < 0) p' m' b' → Low p' a' m' b' → Calls Try.prog 51 #[.slice (some ⟨g, o, none⟩) n cap, .int .i64 (a' : Int), .int .i64 (m' : Int), .int .i64 (b' : Int), .func (.func 39) #[] #[cv, cu]] w' fun e u => (∃ v, e = .returned v) ∧ ∃ s, PermIn a' b' s ∧ Stb (fun x y => cf x y < 0) (fun k => p' (s k)) a' b' ∧ Hd u g o n cap A (fun k => p' (s k)) ∧ Kp [g] w' u) : Calls Try.prog 51 #[.slice (some ⟨g, o, none⟩) n cap, .int .i64 (a : Int), .int .i64 (m : Int), .int .i64 (b : Int), .func (.func 39) #[] #[cv, cu]] w fun e w' => (∃ v, e = .returned v) ∧ ∃ s, PermIn a b s ∧ Stb (fun x y => cf x y < 0) (fun k => p (s k)) a b ∧ Hd w' g o n cap A (fun k => p (s k)) ∧ Kp [g] w w' := by
  have HC := hid hC
  have HI := hid hI
  have HH := hid h
  have HPN := hid hpn
  have HSR := hid (And.intro hA (And.intro hB hLo))
  have q1 : (-9223372036854775808 : Int) ≤ (m : Int) - (a : Int) := by omega
  have q2 : (m : Int) - (a : Int) ≤ 9223372036854775807 := by omega
  clear hC hI h hpn hA hB hLo
  have HIH := hid IH
  clear IH
  have hm1 : ((m : Int) - (a : Int) == 1) = false := by simp; omega
  have hm2 : ¬ ((m : Int) - (a : Int) = 1) := by omega
  have hb1 : ((b : Int) - (m : Int) == 1) = false := by simp; omega
  have hb2 : ¬ ((b : Int) - (m : Int) = 1) := by omega
  have q3 : (-9223372036854775808 : Int) ≤ (b : Int) - (m : Int) := by omega
  have q4 : (b : Int) - (m : Int) ≤ 9223372036854775807 := by omega
  obtain ⟨t, ht⟩ : ∃ t : Nat, t = a + b := ⟨_, rfl⟩
  obtain ⟨mid, hmid⟩ : ∃ h : Nat, h = t / 2 := ⟨_, rfl⟩
  have et : (a : Int) + (b : Int) = (t : Int) := by omega
  have et1 : (-9223372036854775808 : Int) ≤ (a : Int) + (b : Int) := by omega
  have et2 : (a : Int) + (b : Int) ≤ 9223372036854775807 := by omega
  have et3 : (0 : Int) ≤ (t : Int) := by omega
  have et4 : (t : Int) ≤ 9223372036854775807 := by omega
  have et5 : (t : Int) < 18446744073709551616 := by omega
  have eh : (t : Int) / 2 = (mid : Int) := by omega
  have eh2 : (mid : Int) ≤ 9223372036854775807 := by omega
  have eu : IntKind.u64.wrap (t : Int) = (t : Int) := by rw [IntKind.wrap_u64]; omega
  have ew : IntKind.i64.wrap (mid : Int) = (mid : Int) := by rw [IntKind.wrap_i64]; omega
  have ewt : IntKind.i64.wrap (t : Int) = (t : Int) := by rw [IntKind.wrap_i64]; omega
  have hmid1 : 2 * mid ≤ a + b := by omega
  have hmid2 : a + b ≤ 2 * mid + 1 := by omega
  obtain ⟨N, hN⟩ : ∃ N : Nat, N = mid + m := ⟨_, rfl⟩
  obtain ⟨PP, hPP⟩ : ∃ P : Nat, P = N - 1 := ⟨_, rfl⟩
  have eN : (mid : Int) + (m : Int) = (N : Int) := by omega
  have eN1 : (-9223372036854775808 : Int) ≤ (mid : Int) + (m : Int) := by omega
  have eN2 : (mid : Int) + (m : Int) ≤ 9223372036854775807 := by omega
  have eP : (N : Int) - 1 = (PP : Int) := by omega
  have eP1 : (-9223372036854775808 : Int) ≤ (N : Int) - 1 := by omega
  have eP2 : (N : Int) - 1 ≤ 9223372036854775807 := by omega
  have hN1 : N ≤ mid + m := by omega
  have hN2 : mid + m ≤ N := by omega
  have hPP1 : PP + 1 ≤ N := by omega
  have hPP2 : N ≤ PP + 1 := by omega
  have dg : decide ((mid : Int) < (m : Int)) = false := by simp; omega
  have dg2 : ¬ ((mid : Int) < (m : Int)) := by omega
  have HT := hid (And.intro ht hmid)
  clear ht hmid hN hPP
  go_enter Try.func51, Try.ntmps51
  go_wp2_with fail
  clear q1 q2 q3 q4 hm1 hm2 hb1 hb2 et et1 et2 et3 et4 et5 eh eh2 eu ew ewt eN eN1 eN2 eP eP1 eP2 dg dg2 HT
  go_loopw [20, 21, 23] (fun sv rv _ wr => ∃ s r : Nat, (a ≤ s ∧ s ≤ r ∧ r ≤ m) ∧ sv = .int .i64 (s : Int) ∧ rv = .int .i64 (r : Int) ∧ Hid ((s = a ∨ 0 ≤ cf (p (N - s)) (p (s - 1))) ∧ (r = m ∨ cf (p (N - 1 - r)) (p r) < 0)) ∧ Hid (Hd wr g o n cap A p ∧ Kp [g] w wr)) (fun sv rv _ _ => (intOf rv).toNat - (intOf sv).toNat)
  case atStart => exact ⟨a, m, by omega, rfl, rfl, hid ⟨.inl rfl, .inl rfl⟩, hid ⟨HH.out, Kp.refl _ _⟩⟩
  case round =>
    obtain ⟨s, r, ⟨bs, bsr, br⟩, rfl, rfl, hs, hw⟩ := hrel
    by_cases hsr : s < r
    · have i0 : (s : Int) < (r : Int) := by omega
      obtain ⟨t, ht⟩ : ∃ t : Nat, t = s + r := ⟨_, rfl⟩
      obtain ⟨c, hc⟩ : ∃ h : Nat, h = t / 2 := ⟨_, rfl⟩
      have et : (s : Int) + (r : Int) = (t : Int) := by omega
      have et1 : (-9223372036854775808 : Int) ≤ (s : Int) + (r : Int) := by omega
      have et2 : (s : Int) + (r : Int) ≤ 9223372036854775807 := by omega
      have et3 : (0 : Int) ≤ (t : Int) := by omega
      have et4 : (t : Int) ≤ 9223372036854775807 := by omega
      have et5 : (t : Int) < 18446744073709551616 := by omega
      have eh : (t : Int) / 2 = (c : Int) := by omega
      have eh2 : (c : Int) ≤ 9223372036854775807 := by omega
      have eu : IntKind.u64.wrap (t : Int) = (t : Int) := by rw [IntKind.wrap_u64]; omega
      have ew : IntKind.i64.wrap (c : Int) = (c : Int) := by rw [IntKind.wrap_i64]; omega
      have ewt : IntKind.i64.wrap (t : Int) = (t : Int) := by rw [IntKind.wrap_i64]; omega
      have hcb : s ≤ c ∧ c < r := by omega
      have HT := hid (And.intro ht hc)
      clear ht hc
      obtain ⟨x, hx⟩ : ∃ x : Nat, x = PP - c := ⟨_, rfl⟩
      have ex : (PP : Int) - (c : Int) = (x : Int) := by omega
      have wx : IntKind.i64.wrap ((PP : Int) - (c : Int)) = (x : Int) := by rw [ex, IntKind.wrap_i64]; omega
      have wx2 : IntKind.i64.wrap (x : Int) = (x : Int) := by rw [IntKind.wrap_i64]; omega
      have hxn : x < n := by omega
      have i1 : (0 : Int) ≤ (c : Int) := by omega
      have i2 : (c : Int) < (n : Int) := by omega
      have i3 : (0 : Int) ≤ (x : Int) := by omega
      have i4 : (x : Int) < (n : Int) := by omega
      have i5 : (c : Int) + 1 ≤ 9223372036854775807 := by omega
      have HX : Hid (x = N - 1 - c ∧ x = N - (c + 1)) := hid (by omega)
      clear hx
      have cC := hid (fun W' (k : Kp [] wr W') => HC.out.calls W' (p x) (p c) (HC.out.keep _ _ HI.out (hw.out.2.trans k (by simp))) (HPN.out _ (by omega)) (HPN.out _ (by omega)))
      obtain ⟨⟨x0, x1, x2, x3⟩, _⟩ := hw.out.1.cells x (by omega)
      obtain ⟨⟨y0, y1, y2, y3⟩, _⟩ := hw.out.1.cells c (by omega)
      obtain ⟨V1, hV1⟩ : ∃ V, Hid (V = A (p x)) := ⟨_, hid rfl⟩
      obtain ⟨V2, hV2⟩ : ∃ V, Hid (V = A (p c)) := ⟨_, hid rfl⟩
      rw [← hV1.out] at x0 x1 x2 x3 cC
      rw [← hV2.out] at y0 y1 y2 y3 cC
      obtain ⟨C, hCf⟩ : ∃ C, Hid (cf (p x) (p c) = C) := ⟨_, hid rfl⟩
      rw [hCf.out] at cC
      obtain ⟨e1, n1, a1, c1, l1, d1⟩ := V1
      obtain ⟨e2, n2, a2, c2, l2, d2⟩ := V2
      simp only [Vr.v] at cC
      dsimp only at *
      have hF : Hid (∀ W', Kp [] wr W' → (W'.cell? ⟨g, o + x * 4, none⟩ = some (.int .u64 e1) ∧ W'.cell? ⟨g, o + x * 4 + 1, none⟩ = some (.int .u32 n1) ∧ W'.cell? ⟨g, o + x * 4 + 2, none⟩ = some (.slice a1 l1.length c1) ∧ W'.cell? ⟨g, o + x * 4 + 3, none⟩ = some (.int .u64 d1) ∧ W'.cell? ⟨g, o + c * 4, none⟩ = some (.int .u64 e2) ∧ W'.cell? ⟨g, o + c * 4 + 1, none⟩ = some (.int .u32 n2) ∧ W'.cell? ⟨g, o + c * 4 + 2, none⟩ = some (.slice a2 l2.length c2) ∧ W'.cell? ⟨g, o + c * 4 + 3, none⟩ = some (.int .u64 d2))) := fun W' k => ⟨kpAt k x0, kpAt k x1, kpAt k x2, kpAt k x3, kpAt k y0, kpAt k y1, kpAt k y2, kpAt k y3⟩
      clear x0 x1 x2 x3 y0 y1 y2 y3 hV1 hV2
      go_wp2_with fail
      refine wp_region_held_drew (S := fun W' => W'.cell? ⟨g, o + x * 4, none⟩ = some (.int .u64 e1) ∧ W'.cell? ⟨g, o + x * 4 + 1, none⟩ = some (.int .u32 n1) ∧ W'.cell? ⟨g, o + x * 4 + 2, none⟩ = some (.slice a1 l1.length c1) ∧ W'.cell? ⟨g, o + x * 4 + 3, none⟩ = some (.int .u64 d1) ∧ W'.cell? ⟨g, o + c * 4, none⟩ = some (.int .u64 e2) ∧ W'.cell? ⟨g, o + c * 4 + 1, none⟩ = some (.int .u32 n2) ∧ W'.cell? ⟨g, o + c * 4 + 2, none⟩ = some (.slice a2 l2.length c2) ∧ W'.cell? ⟨g, o + c * 4 + 3, none⟩ = some (.int .u64 d2)) (by kernel_rfl) ?_ (fun hHeld => ?_)
      · exact hF.out _ (Kp.refl [] wr).drew
      have KD : Hid (Kp [] wr wr.drew) := hid (Kp.refl [] wr).drew
      generalize wr.drew = Wd at *
      refine wpAnyH_take (i := 0) (v := ?_) rfl (by kernel_rfl) (by kernel_rfl) (by kernel_rfl) (fun _ _ _ h => h) (Or.inl ⟨by rfl, ?_⟩) (by assumption) ?_
      rotate_left
      · intro w hSw; (try dsimp only at hSw); go_simp <;> with_reducible rfl
      try simp only [Act.put, List.getElem_toArray, List.getElem_cons_zero, List.getElem_cons_succ, List.setIfInBounds_toArray, List.set_cons_zero, List.set_cons_succ]
      refine wpAnyH_take (i := 1) (v := ?_) rfl (by kernel_rfl) (by kernel_rfl) (by kernel_rfl) (fun _ _ _ h => h) (Or.inl ⟨by rfl, ?_⟩) (by assumption) ?_
      rotate_left
      · intro w hSw; (try dsimp only at hSw); go_simp <;> with_reducible rfl
      try simp only [Act.put, List.getElem_toArray, List.getElem_cons_zero, List.getElem_cons_succ, List.setIfInBounds_toArray, List.set_cons_zero, List.set_cons_succ]
      refine wpAnyH_take (i := 2) (v := ?_) rfl (by kernel_rfl) (by kernel_rfl) (by kernel_rfl) (fun _ _ _ h => h) (Or.inl ⟨by rfl, ?_⟩) (by assumption) ?_
      rotate_left
      · intro w hSw; (try dsimp only at hSw); go_simp <;> with_reducible rfl
      try simp only [Act.put, List.getElem_toArray, List.getElem_cons_zero, List.getElem_cons_succ, List.setIfInBounds_toArray, List.set_cons_zero, List.set_cons_succ]
      refine wpAnyH_take (i := 3) (v := ?_) rfl (by kernel_rfl) (by kernel_rfl) (by kernel_rfl) (fun _ _ _ h => h) (Or.inl ⟨by rfl, ?_⟩) (by assumption) ?_
      rotate_left
      · intro w hSw; (try dsimp only at hSw); go_simp <;> with_reducible rfl
      try simp only [Act.put, List.getElem_toArray, List.getElem_cons_zero, List.getElem_cons_succ, List.setIfInBounds_toArray, List.set_cons_zero, List.set_cons_succ]
      refine wpAnyH_take (i := 4) (v := ?_) rfl (by kernel_rfl) (by kernel_rfl) (by kernel_rfl) (fun _ _ _ h => h) (Or.inl ⟨by rfl, ?_⟩) (by assumption) ?_
      rotate_left
      · intro w hSw; (try dsimp only at hSw); go_simp <;> (try simp only [wx, wx2]) <;> with_reducible rfl
      try simp only [Act.put, List.getElem_toArray, List.getElem_cons_zero, List.getElem_cons_succ, List.setIfInBounds_toArray, List.set_cons_zero, List.set_cons_succ]
      try simp only [wx, wx2]
      refine wpAnyH_take (i := 5) (v := ?_) rfl (by kernel_rfl) (by kernel_rfl) (by kernel_rfl) (fun _ _ _ h => h) (Or.inl ⟨by rfl, ?_⟩) (by assumption) ?_
      rotate_left
      · intro w hSw; (try dsimp only at hSw); go_simp <;> with_reducible rfl
      try simp only [Act.put, List.getElem_toArray, List.getElem_cons_zero, List.getElem_cons_succ, List.setIfInBounds_toArray, List.set_cons_zero, List.set_cons_succ]
      refine wpAnyH_take (i := 6) (v := ?_) rfl (by kernel_rfl) (by kernel_rfl) (by kernel_rfl) (fun _ _ _ h => h) (Or.inl ⟨by rfl, ?_⟩) (by assumption) ?_
      rotate_left
      · intro w hSw; (try dsimp only at hSw); go_simp <;> with_reducible rfl
      try simp only [Act.put, List.getElem_toArray, List.getElem_cons_zero, List.getElem_cons_succ, List.setIfInBounds_toArray, List.set_cons_zero, List.set_cons_succ]
      refine wpAnyH_take (i := 7) (v := ?_) rfl (by kernel_rfl) (by kernel_rfl) (by kernel_rfl) (fun _ _ _ h => h) (Or.inl ⟨by rfl, ?_⟩) (by assumption) ?_
      rotate_left
      · intro w hSw; (try dsimp only at hSw); go_simp <;> with_reducible rfl
      try simp only [Act.put, List.getElem_toArray, List.getElem_cons_zero, List.getElem_cons_succ, List.setIfInBounds_toArray, List.set_cons_zero, List.set_cons_succ]
      refine wpAnyH_take (i := 8) (v := ?_) rfl (by kernel_rfl) (by kernel_rfl) (by kernel_rfl) (fun _ _ _ h => h) (Or.inl ⟨by rfl, ?_⟩) (by assumption) ?_
      rotate_left
      · intro w hSw; (try dsimp only at hSw); go_simp <;> with_reducible rfl
      try simp only [Act.put, List.getElem_toArray, List.getElem_cons_zero, List.getElem_cons_succ, List.setIfInBounds_toArray, List.set_cons_zero, List.set_cons_succ]
      refine wpAnyH_take (i := 9) (v := ?_) rfl (by kernel_rfl) (by kernel_rfl) (by kernel_rfl) (fun _ _ _ h => h) (Or.inl ⟨by rfl, ?_⟩) (by assumption) ?_
      rotate_left
      · intro w hSw; (try dsimp only at hSw); go_simp <;> with_reducible rfl
      try simp only [Act.put, List.getElem_toArray, List.getElem_cons_zero, List.getElem_cons_succ, List.setIfInBounds_toArray, List.set_cons_zero, List.set_cons_succ]
      refine wpAnyH_take (i := 10) (v := ?_) rfl (by kernel_rfl) (by kernel_rfl) (by kernel_rfl) (fun _ _ _ h => h) (Or.inl ⟨by rfl, ?_⟩) (by assumption) ?_
      rotate_left
      · intro w hSw; (try dsimp only at hSw); go_simp <;> with_reducible rfl
      try simp only [Act.put, List.getElem_toArray, List.getElem_cons_zero, List.getElem_cons_succ, List.setIfInBounds_toArray, List.set_cons_zero, List.set_cons_succ]
      refine wpAnyH_ready (rs := [11]) (by kernel_rfl) (by simp) ?_
      refine AllReadyH.cons rfl (fun K hK => ?_) AllReadyH.nil
      go_simp
      refine (cC.out Wd KD.out).mono ?_
      rintro e u1 ⟨rfl, l1'⟩
      (try go_wp2_with fail)
      refine hK.out _ _ ?_ (fun hHeld => ?_)
      · exact hF.out _ (KD.out.trans l1' (by simp))
      clear hK K
      try simp only [Act.put, List.getElem_toArray, List.getElem_cons_zero, List.getElem_cons_succ, List.setIfInBounds_toArray, List.set_cons_zero, List.set_cons_succ]
      have K1 := hid (KD.out.trans l1' (by simp))
      clear l1' KD
      have hw1 : Hid (Hd u1 g o n cap A p ∧ Kp [g] w u1) := hid ⟨hw.out.1.kept K1.out, hw.out.2.trans K1.out (by simp)⟩
      by_cases hc0 : C < 0
      · have dc : decide (C < 0) = true := by simpa using hc0
        refine wpAnyH_take (i := 12) (v := ?_) rfl (by kernel_rfl) (by kernel_rfl) (by kernel_rfl) (fun _ _ _ h => h) (Or.inl ⟨by rfl, ?_⟩) (by assumption) ?_
        rotate_left
        · intro w hSw; (try dsimp only at hSw); go_simp <;> (try simp only [dc]) <;> with_reducible rfl
        try simp only [Act.put, List.getElem_toArray, List.getElem_cons_zero, List.getElem_cons_succ, List.setIfInBounds_toArray, List.set_cons_zero, List.set_cons_succ]
        try simp only [dc]
        refine wpAnyH_take (i := 13) (v := ?_) rfl (by kernel_rfl) (by kernel_rfl) (by kernel_rfl) (fun _ _ _ h => h) (Or.inl ⟨by rfl, ?_⟩) (by assumption) ?_
        rotate_left
        · intro w hSw; (try dsimp only at hSw); go_simp <;> with_reducible rfl
        try simp only [Act.put, List.getElem_toArray, List.getElem_cons_zero, List.getElem_cons_succ, List.setIfInBounds_toArray, List.set_cons_zero, List.set_cons_succ]
        try simp only [Bool.not_true, Bool.not_false]
        refine wpAnyH_done (by kernel_rfl) ?_ _
        have hs2 : Hid ((s = a ∨ 0 ≤ cf (p (N - s)) (p (s - 1))) ∧ (c = m ∨ cf (p (N - 1 - c)) (p c) < 0)) := hid ⟨hs.out.1, .inr (by rw [← HX.out.1, hCf.out]; exact hc0)⟩
        clear hHeld hF cC hs hw hc0
        go_wp2_with fail
        exact ⟨⟨s, c, by omega, rfl, rfl, hs2, hw1⟩, by simp [intOf]; omega⟩
      · have dc : decide (C < 0) = false := by simpa using hc0
        refine wpAnyH_take (i := 12) (v := ?_) rfl (by kernel_rfl) (by kernel_rfl) (by kernel_rfl) (fun _ _ _ h => h) (Or.inl ⟨by rfl, ?_⟩) (by assumption) ?_
        rotate_left
        · intro w hSw; (try dsimp only at hSw); go_simp <;> (try simp only [dc]) <;> with_reducible rfl
        try simp only [Act.put, List.getElem_toArray, List.getElem_cons_zero, List.getElem_cons_succ, List.setIfInBounds_toArray, List.set_cons_zero, List.set_cons_succ]
        try simp only [dc]
        refine wpAnyH_take (i := 13) (v := ?_) rfl (by kernel_rfl) (by kernel_rfl) (by kernel_rfl) (fun _ _ _ h => h) (Or.inl ⟨by rfl, ?_⟩) (by assumption) ?_
        rotate_left
        · intro w hSw; (try dsimp only at hSw); go_simp <;> with_reducible rfl
        try simp only [Act.put, List.getElem_toArray, List.getElem_cons_zero, List.getElem_cons_succ, List.setIfInBounds_toArray, List.set_cons_zero, List.set_cons_succ]
        try simp only [Bool.not_true, Bool.not_false]
        refine wpAnyH_done (by kernel_rfl) ?_ _
        have hs2 : Hid ((c + 1 = a ∨ 0 ≤ cf (p (N - (c + 1))) (p (c + 1 - 1))) ∧ (r = m ∨ cf (p (N - 1 - r)) (p r) < 0)) := hid ⟨.inr (by rw [Nat.add_sub_cancel, ← HX.out.2, hCf.out]; omega), hs.out.2⟩
        clear hHeld hF cC hs hw hc0
        go_wp2_with fail
        exact ⟨⟨c + 1, r, by omega, by go_num, rfl, hs2, hw1⟩, by simp [intOf]; omega⟩
    · have er : r = s := by omega
      subst er
      rename_i s_
      obtain ⟨s, hss⟩ : ∃ s : Nat, s = r := ⟨_, rfl⟩
      subst hss
      obtain ⟨e, he⟩ : ∃ e : Nat, e = N - s := ⟨_, rfl⟩
      have eE : (N : Int) - (s : Int) = (e : Int) := by omega
      have eE1 : (-9223372036854775808 : Int) ≤ (N : Int) - (s : Int) := by omega
      have eE2 : (N : Int) - (s : Int) ≤ 9223372036854775807 := by omega
      have heb : m ≤ e ∧ e ≤ b ∧ s ≤ mid ∧ s ≤ m ∧ a ≤ s := by omega
      have hem : Hid (mid = s + (e - m)) := hid (by omega)
      have hmb2 : mid < b ∧ a < mid ∧ mid ≤ e := by omega
      have SP := hid (sym_parts HC.out.swo (p := p) heb.2.2.2.2 heb.2.2.2.1 heb.1 heb.2.1 hem.out HSR.out.1 HSR.out.2.1 HSR.out.2.2 (fun g1 g2 => by
        rcases hs.out.2 with h5 | h5
        · omega
        · rw [show e - 1 = N - 1 - s by omega]; exact h5) (fun g1 g2 => by
        rcases hs.out.1 with h5 | h5
        · omega
        · rw [he]; exact Int.not_lt.2 h5))
      clear he hem hs
      by_cases c1 : s < m
      · have d1 : decide ((s : Int) < (m : Int)) = true := by simp; omega
        have d1n : decide (s < m) = true := by simp; omega
        by_cases c2 : m < e
        · have d2 : decide ((m : Int) < (e : Int)) = true := by simp; omega
          have d2n : decide (m < e) = true := by simp; omega
          have cR := hid (cRot g o n cap A p s m e (.func (.func 39) #[] #[cv, cu]) wr hw.out.1 c1 c2 (by omega) hn hcap)
          clear c1 c2
          go_wp2_with fail
          refine cR.out.mono ?_
          rintro e' wt ⟨⟨v, rfl⟩, hd, kd⟩
          have HR := hid (And.intro hd (hw.out.2.trans kd (by simp)))
          clear hd kd cR hw
          by_cases c3 : a < s
          · have e1 : decide ((a : Int) < (s : Int)) = true := by simp; omega
            have e1n : decide (a < s) = true := by simp; omega
            by_cases c4 : s < mid
            · have e2 : decide ((s : Int) < (mid : Int)) = true := by simp; omega
              have e2n : decide (s < mid) = true := by simp; omega
              have cM1 := hid (HIH.out (fun k => p (rot s m e k)) a s mid wt (by omega) HR.out.1 (HC.out.keep _ _ HI.out HR.out.2) (fun k hk => HPN.out _ (((rot_perm (Nat.zero_le s) (by omega) (by omega) (by omega) : PermIn 0 n (rot s m e))).1 k (Nat.zero_le _) hk).2) c3 c4 (by omega) SP.out.1.1 SP.out.1.2.1 SP.out.1.2.2)
              clear c3 c4
              go_wp2_with fail
              refine cM1.out.mono ?_
              rintro e' wm ⟨⟨v, rfl⟩, sa, pa, sa', ha', ka⟩
              have PA := hid pa
              have SA := hid sa'
              have HD := hid (And.intro ha' (HR.out.2.trans ka (by simp)))
              clear pa sa' ha' ka cM1 HR
              have hmx : Hid ((∀ k, mid ≤ k → p (rot s m e (sa k)) = p (rot s m e k))) := hid (fun k hk => by rw [PA.out.2.1 k (by omega)])
              by_cases c5 : mid < e
              · have f1 : decide ((mid : Int) < (e : Int)) = true := by simp; omega
                have f1n : decide (mid < e) = true := by simp; omega
                by_cases c6 : e < b
                · have f2 : decide ((e : Int) < (b : Int)) = true := by simp; omega
                  have f2n : decide (e < b) = true := by simp; omega
                  have cM := hid (HIH.out (fun k => p (rot s m e (sa k))) mid e b wm (by omega) HD.out.1 (HC.out.keep _ _ HI.out HD.out.2) (fun k hk => HPN.out _ (by
                    have r1 := (rot_perm (lo := 0) (hi := n) (Nat.zero_le s) (by omega) (by omega) (by omega) : PermIn 0 n (rot s m e))
                    have r2 := PA.out.mono (Nat.zero_le a) (show mid ≤ n by omega)
                    exact (r1.1 _ (Nat.zero_le _) (r2.1 k (Nat.zero_le _) hk).2).2)) c5 c6 (by omega) (fun i j g1 g2 g3 => by
                      show bef _ (p (rot s m e (sa i))) (p (rot s m e (sa j)))
                      rw [hmx.out i (by omega), hmx.out j (by omega)]; exact SP.out.2.1.1 i j g1 g2 g3) (fun i j g1 g2 g3 => by
                      show bef _ (p (rot s m e (sa i))) (p (rot s m e (sa j)))
                      rw [hmx.out i (by omega), hmx.out j (by omega)]; exact SP.out.2.1.2.1 i j g1 g2 g3) (fun i j g1 g2 g3 g4 => by
                      show p (rot s m e (sa i)) < p (rot s m e (sa j))
                      rw [hmx.out i (by omega), hmx.out j (by omega)]; exact SP.out.2.1.2.2 i j g1 g2 g3 g4))
                  have KX := hid HD.out.2
                  clear c5 c6
                  go_wp2_with fail
                  refine cM.out.mono ?_
                  rintro e' wz ⟨⟨v, rfl⟩, t, pt, st, ht', kt⟩
                  have hfin : Hid (PermIn a b (fun k => rot s m e (sa (t k))) ∧ Stb (fun x y => cf x y < 0) (fun k => p (rot s m e (sa (t k)))) a b ∧ Hd wz g o n cap A (fun k => p (rot s m e (sa (t k)))) ∧ Kp [g] w wz) := hid ⟨(rot_perm (by omega) (by omega) (by omega) (by omega)).comp ((PA.out.mono (Nat.le_refl _) (by omega)).comp (pt.mono (by omega) (Nat.le_refl _))), Stb.join (p := fun k => p (rot s m e k)) PA.out pt SA.out (fun i j g1 g2 g3 => by
                    have h5 := st i j g1 g2 g3
                    have h6 := pt.1 i g1 (by omega)
                    have h7 := pt.1 j (by omega) g3
                    simp only [hmx.out _ h6.1, hmx.out _ h7.1] at h5
                    exact h5) SP.out.2.2, ht', KX.out.trans kt (by simp)⟩
                  clear pt st ht' kt KX
                  go_wp2_with fail
                  go_end0
                  exact ⟨⟨_, rfl⟩, _, hfin.out.1, hfin.out.2.1, hfin.out.2.2.1, hfin.out.2.2.2⟩
                · have f2 : decide ((e : Int) < (b : Int)) = false := by simp; omega
                  have f2n : decide (e < b) = false := by simp; omega
                  have sB : Stb (fun x y => cf x y < 0) (fun k => p (rot s m e k)) mid b := by
                    by_cases c7 : e = mid
                    · rw [← c7]; exact SP.out.2.1.2.1
                    · have c8 : e = b := by omega
                      rw [← c8]; exact SP.out.2.1.1
                  have hfin : Hid (PermIn a b (fun k => rot s m e (sa k)) ∧ Stb (fun x y => cf x y < 0) (fun k => p (rot s m e (sa k))) a b) := hid ⟨(rot_perm (by omega) (by omega) (by omega) (by omega)).comp (PA.out.mono (Nat.le_refl _) (by omega)), Stb.join (p := fun k => p (rot s m e k)) PA.out (PermIn.id mid b) SA.out sB SP.out.2.2⟩
                  clear sB c5
                  go_wp2_with fail
                  go_end0
                  exact ⟨⟨_, rfl⟩, _, hfin.out.1, hfin.out.2, HD.out.1, HD.out.2⟩
              · have f1 : decide ((mid : Int) < (e : Int)) = false := by simp; omega
                have f1n : decide (mid < e) = false := by simp; omega
                have sB : Stb (fun x y => cf x y < 0) (fun k => p (rot s m e k)) mid b := by
                  by_cases c7 : e = mid
                  · rw [← c7]; exact SP.out.2.1.2.1
                  · have c8 : e = b := by omega
                    rw [← c8]; exact SP.out.2.1.1
                have hfin : Hid (PermIn a b (fun k => rot s m e (sa k)) ∧ Stb (fun x y => cf x y < 0) (fun k => p (rot s m e (sa k))) a b) := hid ⟨(rot_perm (by omega) (by omega) (by omega) (by omega)).comp (PA.out.mono (Nat.le_refl _) (by omega)), Stb.join (p := fun k => p (rot s m e k)) PA.out (PermIn.id mid b) SA.out sB SP.out.2.2⟩
                clear sB c5
                go_wp2_with fail
                go_end0
                exact ⟨⟨_, rfl⟩, _, hfin.out.1, hfin.out.2, HD.out.1, HD.out.2⟩
            · have e2 : decide ((s : Int) < (mid : Int)) = false := by simp; omega
              have e2n : decide (s < mid) = false := by simp; omega
              obtain ⟨sa, hsa⟩ : ∃ sa : Nat → Nat, Hid (sa = fun k => k) := ⟨_, hid rfl⟩
              have PA : Hid (PermIn a mid sa) := hid (by rw [hsa.out]; exact PermIn.id _ _)
              have SA : Hid (Stb (fun x y => cf x y < 0) (fun k => p (rot s m e (sa k))) a mid) := hid (by
                rw [hsa.out]
                by_cases c7 : s = a
                · have := SP.out.1.2.1; rwa [c7] at this ⊢
                · have c8 : s = mid := by omega
                  have := SP.out.1.1; rw [c8] at this ⊢; exact this)
              have HD : Hid (Hd wt g o n cap A (fun k => p (rot s m e (sa k))) ∧ Kp [g] w wt) := hid (by rw [hsa.out]; exact HR.out)
              clear c3
              clear c4 HR
              have hmx : Hid ((∀ k, mid ≤ k → p (rot s m e (sa k)) = p (rot s m e k))) := hid (fun k hk => by rw [PA.out.2.1 k (by omega)])
              by_cases c5 : mid < e
              · have f1 : decide ((mid : Int) < (e : Int)) = true := by simp; omega
                have f1n : decide (mid < e) = true := by simp; omega
                by_cases c6 : e < b
                · have f2 : decide ((e : Int) < (b : Int)) = true := by simp; omega
                  have f2n : decide (e < b) = true := by simp; omega
                  have cM := hid (HIH.out (fun k => p (rot s m e (sa k))) mid e b wt (by omega) HD.out.1 (HC.out.keep _ _ HI.out HD.out.2) (fun k hk => HPN.out _ (by
                    have r1 := (rot_perm (lo := 0) (hi := n) (Nat.zero_le s) (by omega) (by omega) (by omega) : PermIn 0 n (rot s m e))
                    have r2 := PA.out.mono (Nat.zero_le a) (show mid ≤ n by omega)
                    exact (r1.1 _ (Nat.zero_le _) (r2.1 k (Nat.zero_le _) hk).2).2)) c5 c6 (by omega) (fun i j g1 g2 g3 => by
                      show bef _ (p (rot s m e (sa i))) (p (rot s m e (sa j)))
                      rw [hmx.out i (by omega), hmx.out j (by omega)]; exact SP.out.2.1.1 i j g1 g2 g3) (fun i j g1 g2 g3 => by
                      show bef _ (p (rot s m e (sa i))) (p (rot s m e (sa j)))
                      rw [hmx.out i (by omega), hmx.out j (by omega)]; exact SP.out.2.1.2.1 i j g1 g2 g3) (fun i j g1 g2 g3 g4 => by
                      show p (rot s m e (sa i)) < p (rot s m e (sa j))
                      rw [hmx.out i (by omega), hmx.out j (by omega)]; exact SP.out.2.1.2.2 i j g1 g2 g3 g4))
                  have KX := hid HD.out.2
                  clear c5 c6
                  go_wp2_with fail
                  refine cM.out.mono ?_
                  rintro e' wz ⟨⟨v, rfl⟩, t, pt, st, ht', kt⟩
                  have hfin : Hid (PermIn a b (fun k => rot s m e (sa (t k))) ∧ Stb (fun x y => cf x y < 0) (fun k => p (rot s m e (sa (t k)))) a b ∧ Hd wz g o n cap A (fun k => p (rot s m e (sa (t k)))) ∧ Kp [g] w wz) := hid ⟨(rot_perm (by omega) (by omega) (by omega) (by omega)).comp ((PA.out.mono (Nat.le_refl _) (by omega)).comp (pt.mono (by omega) (Nat.le_refl _))), Stb.join (p := fun k => p (rot s m e k)) PA.out pt SA.out (fun i j g1 g2 g3 => by
                    have h5 := st i j g1 g2 g3
                    have h6 := pt.1 i g1 (by omega)
                    have h7 := pt.1 j (by omega) g3
                    simp only [hmx.out _ h6.1, hmx.out _ h7.1] at h5
                    exact h5) SP.out.2.2, ht', KX.out.trans kt (by simp)⟩
                  clear pt st ht' kt KX
                  go_wp2_with fail
                  go_end0
                  exact ⟨⟨_, rfl⟩, _, hfin.out.1, hfin.out.2.1, hfin.out.2.2.1, hfin.out.2.2.2⟩
                · have f2 : decide ((e : Int) < (b : Int)) = false := by simp; omega
                  have f2n : decide (e < b) = false := by simp; omega
                  have sB : Stb (fun x y => cf x y < 0) (fun k => p (rot s m e k)) mid b := by
                    by_cases c7 : e = mid
                    · rw [← c7]; exact SP.out.2.1.2.1
                    · have c8 : e = b := by omega
                      rw [← c8]; exact SP.out.2.1.1
                  have hfin : Hid (PermIn a b (fun k => rot s m e (sa k)) ∧ Stb (fun x y => cf x y < 0) (fun k => p (rot s m e (sa k))) a b) := hid ⟨(rot_perm (by omega) (by omega) (by omega) (by omega)).comp (PA.out.mono (Nat.le_refl _) (by omega)), Stb.join (p := fun k => p (rot s m e k)) PA.out (PermIn.id mid b) SA.out sB SP.out.2.2⟩
                  clear sB c5
                  go_wp2_with fail
                  go_end0
                  exact ⟨⟨_, rfl⟩, _, hfin.out.1, hfin.out.2, HD.out.1, HD.out.2⟩
              · have f1 : decide ((mid : Int) < (e : Int)) = false := by simp; omega
                have f1n : decide (mid < e) = false := by simp; omega
                have sB : Stb (fun x y => cf x y < 0) (fun k => p (rot s m e k)) mid b := by
                  by_cases c7 : e = mid
                  · rw [← c7]; exact SP.out.2.1.2.1
                  · have c8 : e = b := by omega
                    rw [← c8]; exact SP.out.2.1.1
                have hfin : Hid (PermIn a b (fun k => rot s m e (sa k)) ∧ Stb (fun x y => cf x y < 0) (fun k => p (rot s m e (sa k))) a b) := hid ⟨(rot_perm (by omega) (by omega) (by omega) (by omega)).comp (PA.out.mono (Nat.le_refl _) (by omega)), Stb.join (p := fun k => p (rot s m e k)) PA.out (PermIn.id mid b) SA.out sB SP.out.2.2⟩
                clear sB c5
                go_wp2_with fail
                go_end0
                exact ⟨⟨_, rfl⟩, _, hfin.out.1, hfin.out.2, HD.out.1, HD.out.2⟩
          · have e1 : decide ((a : Int) < (s : Int)) = false := by simp; omega
            have e1n : decide (a < s) = false := by simp; omega
            obtain ⟨sa, hsa⟩ : ∃ sa : Nat → Nat, Hid (sa = fun k => k) := ⟨_, hid rfl⟩
            have PA : Hid (PermIn a mid sa) := hid (by rw [hsa.out]; exact PermIn.id _ _)
            have SA : Hid (Stb (fun x y => cf x y < 0) (fun k => p (rot s m e (sa k))) a mid) := hid (by
              rw [hsa.out]
              by_cases c7 : s = a
              · have := SP.out.1.2.1; rwa [c7] at this ⊢
              · have c8 : s = mid := by omega
                have := SP.out.1.1; rw [c8] at this ⊢; exact this)
            have HD : Hid (Hd wt g o n cap A (fun k => p (rot s m e (sa k))) ∧ Kp [g] w wt) := hid (by rw [hsa.out]; exact HR.out)
            clear c3
            clear HR
            have hmx : Hid ((∀ k, mid ≤ k → p (rot s m e (sa k)) = p (rot s m e k))) := hid (fun k hk => by rw [PA.out.2.1 k (by omega)])
            by_cases c5 : mid < e
            · have f1 : decide ((mid : Int) < (e : Int)) = true := by simp; omega
              have f1n : decide (mid < e) = true := by simp; omega
              by_cases c6 : e < b
              · have f2 : decide ((e : Int) < (b : Int)) = true := by simp; omega
                have f2n : decide (e < b) = true := by simp; omega
                have cM := hid (HIH.out (fun k => p (rot s m e (sa k))) mid e b wt (by omega) HD.out.1 (HC.out.keep _ _ HI.out HD.out.2) (fun k hk => HPN.out _ (by
                  have r1 := (rot_perm (lo := 0) (hi := n) (Nat.zero_le s) (by omega) (by omega) (by omega) : PermIn 0 n (rot s m e))
                  have r2 := PA.out.mono (Nat.zero_le a) (show mid ≤ n by omega)
                  exact (r1.1 _ (Nat.zero_le _) (r2.1 k (Nat.zero_le _) hk).2).2)) c5 c6 (by omega) (fun i j g1 g2 g3 => by
                    show bef _ (p (rot s m e (sa i))) (p (rot s m e (sa j)))
                    rw [hmx.out i (by omega), hmx.out j (by omega)]; exact SP.out.2.1.1 i j g1 g2 g3) (fun i j g1 g2 g3 => by
                    show bef _ (p (rot s m e (sa i))) (p (rot s m e (sa j)))
                    rw [hmx.out i (by omega), hmx.out j (by omega)]; exact SP.out.2.1.2.1 i j g1 g2 g3) (fun i j g1 g2 g3 g4 => by
                    show p (rot s m e (sa i)) < p (rot s m e (sa j))
                    rw [hmx.out i (by omega), hmx.out j (by omega)]; exact SP.out.2.1.2.2 i j g1 g2 g3 g4))
                have KX := hid HD.out.2
                clear c5 c6
                go_wp2_with fail
                refine cM.out.mono ?_
                rintro e' wz ⟨⟨v, rfl⟩, t, pt, st, ht', kt⟩
                have hfin : Hid (PermIn a b (fun k => rot s m e (sa (t k))) ∧ Stb (fun x y => cf x y < 0) (fun k => p (rot s m e (sa (t k)))) a b ∧ Hd wz g o n cap A (fun k => p (rot s m e (sa (t k)))) ∧ Kp [g] w wz) := hid ⟨(rot_perm (by omega) (by omega) (by omega) (by omega)).comp ((PA.out.mono (Nat.le_refl _) (by omega)).comp (pt.mono (by omega) (Nat.le_refl _))), Stb.join (p := fun k => p (rot s m e k)) PA.out pt SA.out (fun i j g1 g2 g3 => by
                  have h5 := st i j g1 g2 g3
                  have h6 := pt.1 i g1 (by omega)
                  have h7 := pt.1 j (by omega) g3
                  simp only [hmx.out _ h6.1, hmx.out _ h7.1] at h5
                  exact h5) SP.out.2.2, ht', KX.out.trans kt (by simp)⟩
                clear pt st ht' kt KX
                go_wp2_with fail
                go_end0
                exact ⟨⟨_, rfl⟩, _, hfin.out.1, hfin.out.2.1, hfin.out.2.2.1, hfin.out.2.2.2⟩
              · have f2 : decide ((e : Int) < (b : Int)) = false := by simp; omega
                have f2n : decide (e < b) = false := by simp; omega
                have sB : Stb (fun x y => cf x y < 0) (fun k => p (rot s m e k)) mid b := by
                  by_cases c7 : e = mid
                  · rw [← c7]; exact SP.out.2.1.2.1
                  · have c8 : e = b := by omega
                    rw [← c8]; exact SP.out.2.1.1
                have hfin : Hid (PermIn a b (fun k => rot s m e (sa k)) ∧ Stb (fun x y => cf x y < 0) (fun k => p (rot s m e (sa k))) a b) := hid ⟨(rot_perm (by omega) (by omega) (by omega) (by omega)).comp (PA.out.mono (Nat.le_refl _) (by omega)), Stb.join (p := fun k => p (rot s m e k)) PA.out (PermIn.id mid b) SA.out sB SP.out.2.2⟩
                clear sB c5
                go_wp2_with fail
                go_end0
                exact ⟨⟨_, rfl⟩, _, hfin.out.1, hfin.out.2, HD.out.1, HD.out.2⟩
            · have f1 : decide ((mid : Int) < (e : Int)) = false := by simp; omega
              have f1n : decide (mid < e) = false := by simp; omega
              have sB : Stb (fun x y => cf x y < 0) (fun k => p (rot s m e k)) mid b := by
                by_cases c7 : e = mid
                · rw [← c7]; exact SP.out.2.1.2.1
                · have c8 : e = b := by omega
                  rw [← c8]; exact SP.out.2.1.1
              have hfin : Hid (PermIn a b (fun k => rot s m e (sa k)) ∧ Stb (fun x y => cf x y < 0) (fun k => p (rot s m e (sa k))) a b) := hid ⟨(rot_perm (by omega) (by omega) (by omega) (by omega)).comp (PA.out.mono (Nat.le_refl _) (by omega)), Stb.join (p := fun k => p (rot s m e k)) PA.out (PermIn.id mid b) SA.out sB SP.out.2.2⟩
              clear sB c5
              go_wp2_with fail
              go_end0
              exact ⟨⟨_, rfl⟩, _, hfin.out.1, hfin.out.2, HD.out.1, HD.out.2⟩
        · have d2 : decide ((m : Int) < (e : Int)) = false := by simp; omega
          have d2n : decide (m < e) = false := by simp; omega
          have hee : e = m := by omega
          have HR : Hid (Hd wr g o n cap A (fun k => p (rot s m e k)) ∧ Kp [g] w wr) := hid (by rw [hee, rot_right s m (by omega)]; exact hw.out)
          clear hw c1 c2 hee
          by_cases c3 : a < s
          · have e1 : decide ((a : Int) < (s : Int)) = true := by simp; omega
            have e1n : decide (a < s) = true := by simp; omega
            by_cases c4 : s < mid
            · have e2 : decide ((s : Int) < (mid : Int)) = true := by simp; omega
              have e2n : decide (s < mid) = true := by simp; omega
              have cM1 := hid (HIH.out (fun k => p (rot s m e k)) a s mid wr (by omega) HR.out.1 (HC.out.keep _ _ HI.out HR.out.2) (fun k hk => HPN.out _ (((rot_perm (Nat.zero_le s) (by omega) (by omega) (by omega) : PermIn 0 n (rot s m e))).1 k (Nat.zero_le _) hk).2) c3 c4 (by omega) SP.out.1.1 SP.out.1.2.1 SP.out.1.2.2)
              clear c3 c4
              go_wp2_with fail
              refine cM1.out.mono ?_
              rintro e' wm ⟨⟨v, rfl⟩, sa, pa, sa', ha', ka⟩
              have PA := hid pa
              have SA := hid sa'
              have HD := hid (And.intro ha' (HR.out.2.trans ka (by simp)))
              clear pa sa' ha' ka cM1 HR
              have hmx : Hid ((∀ k, mid ≤ k → p (rot s m e (sa k)) = p (rot s m e k))) := hid (fun k hk => by rw [PA.out.2.1 k (by omega)])
              by_cases c5 : mid < e
              · have f1 : decide ((mid : Int) < (e : Int)) = true := by simp; omega
                have f1n : decide (mid < e) = true := by simp; omega
                by_cases c6 : e < b
                · have f2 : decide ((e : Int) < (b : Int)) = true := by simp; omega
                  have f2n : decide (e < b) = true := by simp; omega
                  have cM := hid (HIH.out (fun k => p (rot s m e (sa k))) mid e b wm (by omega) HD.out.1 (HC.out.keep _ _ HI.out HD.out.2) (fun k hk => HPN.out _ (by
                    have r1 := (rot_perm (lo := 0) (hi := n) (Nat.zero_le s) (by omega) (by omega) (by omega) : PermIn 0 n (rot s m e))
                    have r2 := PA.out.mono (Nat.zero_le a) (show mid ≤ n by omega)
                    exact (r1.1 _ (Nat.zero_le _) (r2.1 k (Nat.zero_le _) hk).2).2)) c5 c6 (by omega) (fun i j g1 g2 g3 => by
                      show bef _ (p (rot s m e (sa i))) (p (rot s m e (sa j)))
                      rw [hmx.out i (by omega), hmx.out j (by omega)]; exact SP.out.2.1.1 i j g1 g2 g3) (fun i j g1 g2 g3 => by
                      show bef _ (p (rot s m e (sa i))) (p (rot s m e (sa j)))
                      rw [hmx.out i (by omega), hmx.out j (by omega)]; exact SP.out.2.1.2.1 i j g1 g2 g3) (fun i j g1 g2 g3 g4 => by
                      show p (rot s m e (sa i)) < p (rot s m e (sa j))
                      rw [hmx.out i (by omega), hmx.out j (by omega)]; exact SP.out.2.1.2.2 i j g1 g2 g3 g4))
                  have KX := hid HD.out.2
                  clear c5 c6
                  go_wp2_with fail
                  refine cM.out.mono ?_
                  rintro e' wz ⟨⟨v, rfl⟩, t, pt, st, ht', kt⟩
                  have hfin : Hid (PermIn a b (fun k => rot s m e (sa (t k))) ∧ Stb (fun x y => cf x y < 0) (fun k => p (rot s m e (sa (t k)))) a b ∧ Hd wz g o n cap A (fun k => p (rot s m e (sa (t k)))) ∧ Kp [g] w wz) := hid ⟨(rot_perm (by omega) (by omega) (by omega) (by omega)).comp ((PA.out.mono (Nat.le_refl _) (by omega)).comp (pt.mono (by omega) (Nat.le_refl _))), Stb.join (p := fun k => p (rot s m e k)) PA.out pt SA.out (fun i j g1 g2 g3 => by
                    have h5 := st i j g1 g2 g3
                    have h6 := pt.1 i g1 (by omega)
                    have h7 := pt.1 j (by omega) g3
                    simp only [hmx.out _ h6.1, hmx.out _ h7.1] at h5
                    exact h5) SP.out.2.2, ht', KX.out.trans kt (by simp)⟩
                  clear pt st ht' kt KX
                  go_wp2_with fail
                  go_end0
                  exact ⟨⟨_, rfl⟩, _, hfin.out.1, hfin.out.2.1, hfin.out.2.2.1, hfin.out.2.2.2⟩
                · have f2 : decide ((e : Int) < (b : Int)) = false := by simp; omega
                  have f2n : decide (e < b) = false := by simp; omega
                  have sB : Stb (fun x y => cf x y < 0) (fun k => p (rot s m e k)) mid b := by
                    by_cases c7 : e = mid
                    · rw [← c7]; exact SP.out.2.1.2.1
                    · have c8 : e = b := by omega
                      rw [← c8]; exact SP.out.2.1.1
                  have hfin : Hid (PermIn a b (fun k => rot s m e (sa k)) ∧ Stb (fun x y => cf x y < 0) (fun k => p (rot s m e (sa k))) a b) := hid ⟨(rot_perm (by omega) (by omega) (by omega) (by omega)).comp (PA.out.mono (Nat.le_refl _) (by omega)), Stb.join (p := fun k => p (rot s m e k)) PA.out (PermIn.id mid b) SA.out sB SP.out.2.2⟩
                  clear sB c5
                  go_wp2_with fail
                  go_end0
                  exact ⟨⟨_, rfl⟩, _, hfin.out.1, hfin.out.2, HD.out.1, HD.out.2⟩
              · have f1 : decide ((mid : Int) < (e : Int)) = false := by simp; omega
                have f1n : decide (mid < e) = false := by simp; omega
                have sB : Stb (fun x y => cf x y < 0) (fun k => p (rot s m e k)) mid b := by
                  by_cases c7 : e = mid
                  · rw [← c7]; exact SP.out.2.1.2.1
                  · have c8 : e = b := by omega
                    rw [← c8]; exact SP.out.2.1.1
                have hfin : Hid (PermIn a b (fun k => rot s m e (sa k)) ∧ Stb (fun x y => cf x y < 0) (fun k => p (rot s m e (sa k))) a b) := hid ⟨(rot_perm (by omega) (by omega) (by omega) (by omega)).comp (PA.out.mono (Nat.le_refl _) (by omega)), Stb.join (p := fun k => p (rot s m e k)) PA.out (PermIn.id mid b) SA.out sB SP.out.2.2⟩
                clear sB c5
                go_wp2_with fail
                go_end0
                exact ⟨⟨_, rfl⟩, _, hfin.out.1, hfin.out.2, HD.out.1, HD.out.2⟩
            · have e2 : decide ((s : Int) < (mid : Int)) = false := by simp; omega
              have e2n : decide (s < mid) = false := by simp; omega
              obtain ⟨sa, hsa⟩ : ∃ sa : Nat → Nat, Hid (sa = fun k => k) := ⟨_, hid rfl⟩
              have PA : Hid (PermIn a mid sa) := hid (by rw [hsa.out]; exact PermIn.id _ _)
              have SA : Hid (Stb (fun x y => cf x y < 0) (fun k => p (rot s m e (sa k))) a mid) := hid (by
                rw [hsa.out]
                by_cases c7 : s = a
                · have := SP.out.1.2.1; rwa [c7] at this ⊢
                · have c8 : s = mid := by omega
                  have := SP.out.1.1; rw [c8] at this ⊢; exact this)
              have HD : Hid (Hd wr g o n cap A (fun k => p (rot s m e (sa k))) ∧ Kp [g] w wr) := hid (by rw [hsa.out]; exact HR.out)
              clear c3
              clear c4 HR
              have hmx : Hid ((∀ k, mid ≤ k → p (rot s m e (sa k)) = p (rot s m e k))) := hid (fun k hk => by rw [PA.out.2.1 k (by omega)])
              by_cases c5 : mid < e
              · have f1 : decide ((mid : Int) < (e : Int)) = true := by simp; omega
                have f1n : decide (mid < e) = true := by simp; omega
                by_cases c6 : e < b
                · have f2 : decide ((e : Int) < (b : Int)) = true := by simp; omega
                  have f2n : decide (e < b) = true := by simp; omega
                  have cM := hid (HIH.out (fun k => p (rot s m e (sa k))) mid e b wr (by omega) HD.out.1 (HC.out.keep _ _ HI.out HD.out.2) (fun k hk => HPN.out _ (by
                    have r1 := (rot_perm (lo := 0) (hi := n) (Nat.zero_le s) (by omega) (by omega) (by omega) : PermIn 0 n (rot s m e))
                    have r2 := PA.out.mono (Nat.zero_le a) (show mid ≤ n by omega)
                    exact (r1.1 _ (Nat.zero_le _) (r2.1 k (Nat.zero_le _) hk).2).2)) c5 c6 (by omega) (fun i j g1 g2 g3 => by
                      show bef _ (p (rot s m e (sa i))) (p (rot s m e (sa j)))
                      rw [hmx.out i (by omega), hmx.out j (by omega)]; exact SP.out.2.1.1 i j g1 g2 g3) (fun i j g1 g2 g3 => by
                      show bef _ (p (rot s m e (sa i))) (p (rot s m e (sa j)))
                      rw [hmx.out i (by omega), hmx.out j (by omega)]; exact SP.out.2.1.2.1 i j g1 g2 g3) (fun i j g1 g2 g3 g4 => by
                      show p (rot s m e (sa i)) < p (rot s m e (sa j))
                      rw [hmx.out i (by omega), hmx.out j (by omega)]; exact SP.out.2.1.2.2 i j g1 g2 g3 g4))
                  have KX := hid HD.out.2
                  clear c5 c6
                  go_wp2_with fail
                  refine cM.out.mono ?_
                  rintro e' wz ⟨⟨v, rfl⟩, t, pt, st, ht', kt⟩
                  have hfin : Hid (PermIn a b (fun k => rot s m e (sa (t k))) ∧ Stb (fun x y => cf x y < 0) (fun k => p (rot s m e (sa (t k)))) a b ∧ Hd wz g o n cap A (fun k => p (rot s m e (sa (t k)))) ∧ Kp [g] w wz) := hid ⟨(rot_perm (by omega) (by omega) (by omega) (by omega)).comp ((PA.out.mono (Nat.le_refl _) (by omega)).comp (pt.mono (by omega) (Nat.le_refl _))), Stb.join (p := fun k => p (rot s m e k)) PA.out pt SA.out (fun i j g1 g2 g3 => by
                    have h5 := st i j g1 g2 g3
                    have h6 := pt.1 i g1 (by omega)
                    have h7 := pt.1 j (by omega) g3
                    simp only [hmx.out _ h6.1, hmx.out _ h7.1] at h5
                    exact h5) SP.out.2.2, ht', KX.out.trans kt (by simp)⟩
                  clear pt st ht' kt KX
                  go_wp2_with fail
                  go_end0
                  exact ⟨⟨_, rfl⟩, _, hfin.out.1, hfin.out.2.1, hfin.out.2.2.1, hfin.out.2.2.2⟩
                · have f2 : decide ((e : Int) < (b : Int)) = false := by simp; omega
                  have f2n : decide (e < b) = false := by simp; omega
                  have sB : Stb (fun x y => cf x y < 0) (fun k => p (rot s m e k)) mid b := by
                    by_cases c7 : e = mid
                    · rw [← c7]; exact SP.out.2.1.2.1
                    · have c8 : e = b := by omega
                      rw [← c8]; exact SP.out.2.1.1
                  have hfin : Hid (PermIn a b (fun k => rot s m e (sa k)) ∧ Stb (fun x y => cf x y < 0) (fun k => p (rot s m e (sa k))) a b) := hid ⟨(rot_perm (by omega) (by omega) (by omega) (by omega)).comp (PA.out.mono (Nat.le_refl _) (by omega)), Stb.join (p := fun k => p (rot s m e k)) PA.out (PermIn.id mid b) SA.out sB SP.out.2.2⟩
                  clear sB c5
                  go_wp2_with fail
                  go_end0
                  exact ⟨⟨_, rfl⟩, _, hfin.out.1, hfin.out.2, HD.out.1, HD.out.2⟩
              · have f1 : decide ((mid : Int) < (e : Int)) = false := by simp; omega
                have f1n : decide (mid < e) = false := by simp; omega
                have sB : Stb (fun x y => cf x y < 0) (fun k => p (rot s m e k)) mid b := by
                  by_cases c7 : e = mid
                  · rw [← c7]; exact SP.out.2.1.2.1
                  · have c8 : e = b := by omega
                    rw [← c8]; exact SP.out.2.1.1
                have hfin : Hid (PermIn a b (fun k => rot s m e (sa k)) ∧ Stb (fun x y => cf x y < 0) (fun k => p (rot s m e (sa k))) a b) := hid ⟨(rot_perm (by omega) (by omega) (by omega) (by omega)).comp (PA.out.mono (Nat.le_refl _) (by omega)), Stb.join (p := fun k => p (rot s m e k)) PA.out (PermIn.id mid b) SA.out sB SP.out.2.2⟩
                clear sB c5
                go_wp2_with fail
                go_end0
                exact ⟨⟨_, rfl⟩, _, hfin.out.1, hfin.out.2, HD.out.1, HD.out.2⟩
          · have e1 : decide ((a : Int) < (s : Int)) = false := by simp; omega
            have e1n : decide (a < s) = false := by simp; omega
            obtain ⟨sa, hsa⟩ : ∃ sa : Nat → Nat, Hid (sa = fun k => k) := ⟨_, hid rfl⟩
            have PA : Hid (PermIn a mid sa) := hid (by rw [hsa.out]; exact PermIn.id _ _)
            have SA : Hid (Stb (fun x y => cf x y < 0) (fun k => p (rot s m e (sa k))) a mid) := hid (by
              rw [hsa.out]
              by_cases c7 : s = a
              · have := SP.out.1.2.1; rwa [c7] at this ⊢
              · have c8 : s = mid := by omega
                have := SP.out.1.1; rw [c8] at this ⊢; exact this)
            have HD : Hid (Hd wr g o n cap A (fun k => p (rot s m e (sa k))) ∧ Kp [g] w wr) := hid (by rw [hsa.out]; exact HR.out)
            clear c3
            clear HR
            have hmx : Hid ((∀ k, mid ≤ k → p (rot s m e (sa k)) = p (rot s m e k))) := hid (fun k hk => by rw [PA.out.2.1 k (by omega)])
            by_cases c5 : mid < e
            · have f1 : decide ((mid : Int) < (e : Int)) = true := by simp; omega
              have f1n : decide (mid < e) = true := by simp; omega
              by_cases c6 : e < b
              · have f2 : decide ((e : Int) < (b : Int)) = true := by simp; omega
                have f2n : decide (e < b) = true := by simp; omega
                have cM := hid (HIH.out (fun k => p (rot s m e (sa k))) mid e b wr (by omega) HD.out.1 (HC.out.keep _ _ HI.out HD.out.2) (fun k hk => HPN.out _ (by
                  have r1 := (rot_perm (lo := 0) (hi := n) (Nat.zero_le s) (by omega) (by omega) (by omega) : PermIn 0 n (rot s m e))
                  have r2 := PA.out.mono (Nat.zero_le a) (show mid ≤ n by omega)
                  exact (r1.1 _ (Nat.zero_le _) (r2.1 k (Nat.zero_le _) hk).2).2)) c5 c6 (by omega) (fun i j g1 g2 g3 => by
                    show bef _ (p (rot s m e (sa i))) (p (rot s m e (sa j)))
                    rw [hmx.out i (by omega), hmx.out j (by omega)]; exact SP.out.2.1.1 i j g1 g2 g3) (fun i j g1 g2 g3 => by
                    show bef _ (p (rot s m e (sa i))) (p (rot s m e (sa j)))
                    rw [hmx.out i (by omega), hmx.out j (by omega)]; exact SP.out.2.1.2.1 i j g1 g2 g3) (fun i j g1 g2 g3 g4 => by
                    show p (rot s m e (sa i)) < p (rot s m e (sa j))
                    rw [hmx.out i (by omega), hmx.out j (by omega)]; exact SP.out.2.1.2.2 i j g1 g2 g3 g4))
                have KX := hid HD.out.2
                clear c5 c6
                go_wp2_with fail
                refine cM.out.mono ?_
                rintro e' wz ⟨⟨v, rfl⟩, t, pt, st, ht', kt⟩
                have hfin : Hid (PermIn a b (fun k => rot s m e (sa (t k))) ∧ Stb (fun x y => cf x y < 0) (fun k => p (rot s m e (sa (t k)))) a b ∧ Hd wz g o n cap A (fun k => p (rot s m e (sa (t k)))) ∧ Kp [g] w wz) := hid ⟨(rot_perm (by omega) (by omega) (by omega) (by omega)).comp ((PA.out.mono (Nat.le_refl _) (by omega)).comp (pt.mono (by omega) (Nat.le_refl _))), Stb.join (p := fun k => p (rot s m e k)) PA.out pt SA.out (fun i j g1 g2 g3 => by
                  have h5 := st i j g1 g2 g3
                  have h6 := pt.1 i g1 (by omega)
                  have h7 := pt.1 j (by omega) g3
                  simp only [hmx.out _ h6.1, hmx.out _ h7.1] at h5
                  exact h5) SP.out.2.2, ht', KX.out.trans kt (by simp)⟩
                clear pt st ht' kt KX
                go_wp2_with fail
                go_end0
                exact ⟨⟨_, rfl⟩, _, hfin.out.1, hfin.out.2.1, hfin.out.2.2.1, hfin.out.2.2.2⟩
              · have f2 : decide ((e : Int) < (b : Int)) = false := by simp; omega
                have f2n : decide (e < b) = false := by simp; omega
                have sB : Stb (fun x y => cf x y < 0) (fun k => p (rot s m e k)) mid b := by
                  by_cases c7 : e = mid
                  · rw [← c7]; exact SP.out.2.1.2.1
                  · have c8 : e = b := by omega
                    rw [← c8]; exact SP.out.2.1.1
                have hfin : Hid (PermIn a b (fun k => rot s m e (sa k)) ∧ Stb (fun x y => cf x y < 0) (fun k => p (rot s m e (sa k))) a b) := hid ⟨(rot_perm (by omega) (by omega) (by omega) (by omega)).comp (PA.out.mono (Nat.le_refl _) (by omega)), Stb.join (p := fun k => p (rot s m e k)) PA.out (PermIn.id mid b) SA.out sB SP.out.2.2⟩
                clear sB c5
                go_wp2_with fail
                go_end0
                exact ⟨⟨_, rfl⟩, _, hfin.out.1, hfin.out.2, HD.out.1, HD.out.2⟩
            · have f1 : decide ((mid : Int) < (e : Int)) = false := by simp; omega
              have f1n : decide (mid < e) = false := by simp; omega
              have sB : Stb (fun x y => cf x y < 0) (fun k => p (rot s m e k)) mid b := by
                by_cases c7 : e = mid
                · rw [← c7]; exact SP.out.2.1.2.1
                · have c8 : e = b := by omega
                  rw [← c8]; exact SP.out.2.1.1
              have hfin : Hid (PermIn a b (fun k => rot s m e (sa k)) ∧ Stb (fun x y => cf x y < 0) (fun k => p (rot s m e (sa k))) a b) := hid ⟨(rot_perm (by omega) (by omega) (by omega) (by omega)).comp (PA.out.mono (Nat.le_refl _) (by omega)), Stb.join (p := fun k => p (rot s m e k)) PA.out (PermIn.id mid b) SA.out sB SP.out.2.2⟩
              clear sB c5
              go_wp2_with fail
              go_end0
              exact ⟨⟨_, rfl⟩, _, hfin.out.1, hfin.out.2, HD.out.1, HD.out.2⟩
      · have d1 : decide ((s : Int) < (m : Int)) = false := by simp; omega
        have d1n : decide (s < m) = false := by simp; omega
        have hee : s = m := by omega
        have HR : Hid (Hd wr g o n cap A (fun k => p (rot s m e k)) ∧ Kp [g] w wr) := hid (by rw [hee, rot_left]; exact hw.out)
        clear hw c1 hee
        by_cases c3 : a < s
        · have e1 : decide ((a : Int) < (s : Int)) = true := by simp; omega
          have e1n : decide (a < s) = true := by simp; omega
          by_cases c4 : s < mid
          · have e2 : decide ((s : Int) < (mid : Int)) = true := by simp; omega
            have e2n : decide (s < mid) = true := by simp; omega
            have cM1 := hid (HIH.out (fun k => p (rot s m e k)) a s mid wr (by omega) HR.out.1 (HC.out.keep _ _ HI.out HR.out.2) (fun k hk => HPN.out _ (((rot_perm (Nat.zero_le s) (by omega) (by omega) (by omega) : PermIn 0 n (rot s m e))).1 k (Nat.zero_le _) hk).2) c3 c4 (by omega) SP.out.1.1 SP.out.1.2.1 SP.out.1.2.2)
            clear c3 c4
            go_wp2_with fail
            refine cM1.out.mono ?_
            rintro e' wm ⟨⟨v, rfl⟩, sa, pa, sa', ha', ka⟩
            have PA := hid pa
            have SA := hid sa'
            have HD := hid (And.intro ha' (HR.out.2.trans ka (by simp)))
            clear pa sa' ha' ka cM1 HR
            have hmx : Hid ((∀ k, mid ≤ k → p (rot s m e (sa k)) = p (rot s m e k))) := hid (fun k hk => by rw [PA.out.2.1 k (by omega)])
            by_cases c5 : mid < e
            · have f1 : decide ((mid : Int) < (e : Int)) = true := by simp; omega
              have f1n : decide (mid < e) = true := by simp; omega
              by_cases c6 : e < b
              · have f2 : decide ((e : Int) < (b : Int)) = true := by simp; omega
                have f2n : decide (e < b) = true := by simp; omega
                have cM := hid (HIH.out (fun k => p (rot s m e (sa k))) mid e b wm (by omega) HD.out.1 (HC.out.keep _ _ HI.out HD.out.2) (fun k hk => HPN.out _ (by
                  have r1 := (rot_perm (lo := 0) (hi := n) (Nat.zero_le s) (by omega) (by omega) (by omega) : PermIn 0 n (rot s m e))
                  have r2 := PA.out.mono (Nat.zero_le a) (show mid ≤ n by omega)
                  exact (r1.1 _ (Nat.zero_le _) (r2.1 k (Nat.zero_le _) hk).2).2)) c5 c6 (by omega) (fun i j g1 g2 g3 => by
                    show bef _ (p (rot s m e (sa i))) (p (rot s m e (sa j)))
                    rw [hmx.out i (by omega), hmx.out j (by omega)]; exact SP.out.2.1.1 i j g1 g2 g3) (fun i j g1 g2 g3 => by
                    show bef _ (p (rot s m e (sa i))) (p (rot s m e (sa j)))
                    rw [hmx.out i (by omega), hmx.out j (by omega)]; exact SP.out.2.1.2.1 i j g1 g2 g3) (fun i j g1 g2 g3 g4 => by
                    show p (rot s m e (sa i)) < p (rot s m e (sa j))
                    rw [hmx.out i (by omega), hmx.out j (by omega)]; exact SP.out.2.1.2.2 i j g1 g2 g3 g4))
                have KX := hid HD.out.2
                clear c5 c6
                go_wp2_with fail
                refine cM.out.mono ?_
                rintro e' wz ⟨⟨v, rfl⟩, t, pt, st, ht', kt⟩
                have hfin : Hid (PermIn a b (fun k => rot s m e (sa (t k))) ∧ Stb (fun x y => cf x y < 0) (fun k => p (rot s m e (sa (t k)))) a b ∧ Hd wz g o n cap A (fun k => p (rot s m e (sa (t k)))) ∧ Kp [g] w wz) := hid ⟨(rot_perm (by omega) (by omega) (by omega) (by omega)).comp ((PA.out.mono (Nat.le_refl _) (by omega)).comp (pt.mono (by omega) (Nat.le_refl _))), Stb.join (p := fun k => p (rot s m e k)) PA.out pt SA.out (fun i j g1 g2 g3 => by
                  have h5 := st i j g1 g2 g3
                  have h6 := pt.1 i g1 (by omega)
                  have h7 := pt.1 j (by omega) g3
                  simp only [hmx.out _ h6.1, hmx.out _ h7.1] at h5
                  exact h5) SP.out.2.2, ht', KX.out.trans kt (by simp)⟩
                clear pt st ht' kt KX
                go_wp2_with fail
                go_end0
                exact ⟨⟨_, rfl⟩, _, hfin.out.1, hfin.out.2.1, hfin.out.2.2.1, hfin.out.2.2.2⟩
              · have f2 : decide ((e : Int) < (b : Int)) = false := by simp; omega
                have f2n : decide (e < b) = false := by simp; omega
                have sB : Stb (fun x y => cf x y < 0) (fun k => p (rot s m e k)) mid b := by
                  by_cases c7 : e = mid
                  · rw [← c7]; exact SP.out.2.1.2.1
                  · have c8 : e = b := by omega
                    rw [← c8]; exact SP.out.2.1.1
                have hfin : Hid (PermIn a b (fun k => rot s m e (sa k)) ∧ Stb (fun x y => cf x y < 0) (fun k => p (rot s m e (sa k))) a b) := hid ⟨(rot_perm (by omega) (by omega) (by omega) (by omega)).comp (PA.out.mono (Nat.le_refl _) (by omega)), Stb.join (p := fun k => p (rot s m e k)) PA.out (PermIn.id mid b) SA.out sB SP.out.2.2⟩
                clear sB c5
                go_wp2_with fail
                go_end0
                exact ⟨⟨_, rfl⟩, _, hfin.out.1, hfin.out.2, HD.out.1, HD.out.2⟩
            · have f1 : decide ((mid : Int) < (e : Int)) = false := by simp; omega
              have f1n : decide (mid < e) = false := by simp; omega
              have sB : Stb (fun x y => cf x y < 0) (fun k => p (rot s m e k)) mid b := by
                by_cases c7 : e = mid
                · rw [← c7]; exact SP.out.2.1.2.1
                · have c8 : e = b := by omega
                  rw [← c8]; exact SP.out.2.1.1
              have hfin : Hid (PermIn a b (fun k => rot s m e (sa k)) ∧ Stb (fun x y => cf x y < 0) (fun k => p (rot s m e (sa k))) a b) := hid ⟨(rot_perm (by omega) (by omega) (by omega) (by omega)).comp (PA.out.mono (Nat.le_refl _) (by omega)), Stb.join (p := fun k => p (rot s m e k)) PA.out (PermIn.id mid b) SA.out sB SP.out.2.2⟩
              clear sB c5
              go_wp2_with fail
              go_end0
              exact ⟨⟨_, rfl⟩, _, hfin.out.1, hfin.out.2, HD.out.1, HD.out.2⟩
          · have e2 : decide ((s : Int) < (mid : Int)) = false := by simp; omega
            have e2n : decide (s < mid) = false := by simp; omega
            obtain ⟨sa, hsa⟩ : ∃ sa : Nat → Nat, Hid (sa = fun k => k) := ⟨_, hid rfl⟩
            have PA : Hid (PermIn a mid sa) := hid (by rw [hsa.out]; exact PermIn.id _ _)
            have SA : Hid (Stb (fun x y => cf x y < 0) (fun k => p (rot s m e (sa k))) a mid) := hid (by
              rw [hsa.out]
              by_cases c7 : s = a
              · have := SP.out.1.2.1; rwa [c7] at this ⊢
              · have c8 : s = mid := by omega
                have := SP.out.1.1; rw [c8] at this ⊢; exact this)
            have HD : Hid (Hd wr g o n cap A (fun k => p (rot s m e (sa k))) ∧ Kp [g] w wr) := hid (by rw [hsa.out]; exact HR.out)
            clear c3
            clear c4 HR
            have hmx : Hid ((∀ k, mid ≤ k → p (rot s m e (sa k)) = p (rot s m e k))) := hid (fun k hk => by rw [PA.out.2.1 k (by omega)])
            by_cases c5 : mid < e
            · have f1 : decide ((mid : Int) < (e : Int)) = true := by simp; omega
              have f1n : decide (mid < e) = true := by simp; omega
              by_cases c6 : e < b
              · have f2 : decide ((e : Int) < (b : Int)) = true := by simp; omega
                have f2n : decide (e < b) = true := by simp; omega
                have cM := hid (HIH.out (fun k => p (rot s m e (sa k))) mid e b wr (by omega) HD.out.1 (HC.out.keep _ _ HI.out HD.out.2) (fun k hk => HPN.out _ (by
                  have r1 := (rot_perm (lo := 0) (hi := n) (Nat.zero_le s) (by omega) (by omega) (by omega) : PermIn 0 n (rot s m e))
                  have r2 := PA.out.mono (Nat.zero_le a) (show mid ≤ n by omega)
                  exact (r1.1 _ (Nat.zero_le _) (r2.1 k (Nat.zero_le _) hk).2).2)) c5 c6 (by omega) (fun i j g1 g2 g3 => by
                    show bef _ (p (rot s m e (sa i))) (p (rot s m e (sa j)))
                    rw [hmx.out i (by omega), hmx.out j (by omega)]; exact SP.out.2.1.1 i j g1 g2 g3) (fun i j g1 g2 g3 => by
                    show bef _ (p (rot s m e (sa i))) (p (rot s m e (sa j)))
                    rw [hmx.out i (by omega), hmx.out j (by omega)]; exact SP.out.2.1.2.1 i j g1 g2 g3) (fun i j g1 g2 g3 g4 => by
                    show p (rot s m e (sa i)) < p (rot s m e (sa j))
                    rw [hmx.out i (by omega), hmx.out j (by omega)]; exact SP.out.2.1.2.2 i j g1 g2 g3 g4))
                have KX := hid HD.out.2
                clear c5 c6
                go_wp2_with fail
                refine cM.out.mono ?_
                rintro e' wz ⟨⟨v, rfl⟩, t, pt, st, ht', kt⟩
                have hfin : Hid (PermIn a b (fun k => rot s m e (sa (t k))) ∧ Stb (fun x y => cf x y < 0) (fun k => p (rot s m e (sa (t k)))) a b ∧ Hd wz g o n cap A (fun k => p (rot s m e (sa (t k)))) ∧ Kp [g] w wz) := hid ⟨(rot_perm (by omega) (by omega) (by omega) (by omega)).comp ((PA.out.mono (Nat.le_refl _) (by omega)).comp (pt.mono (by omega) (Nat.le_refl _))), Stb.join (p := fun k => p (rot s m e k)) PA.out pt SA.out (fun i j g1 g2 g3 => by
                  have h5 := st i j g1 g2 g3
                  have h6 := pt.1 i g1 (by omega)
                  have h7 := pt.1 j (by omega) g3
                  simp only [hmx.out _ h6.1, hmx.out _ h7.1] at h5
                  exact h5) SP.out.2.2, ht', KX.out.trans kt (by simp)⟩
                clear pt st ht' kt KX
                go_wp2_with fail
                go_end0
                exact ⟨⟨_, rfl⟩, _, hfin.out.1, hfin.out.2.1, hfin.out.2.2.1, hfin.out.2.2.2⟩
              · have f2 : decide ((e : Int) < (b : Int)) = false := by simp; omega
                have f2n : decide (e < b) = false := by simp; omega
                have sB : Stb (fun x y => cf x y < 0) (fun k => p (rot s m e k)) mid b := by
                  by_cases c7 : e = mid
                  · rw [← c7]; exact SP.out.2.1.2.1
                  · have c8 : e = b := by omega
                    rw [← c8]; exact SP.out.2.1.1
                have hfin : Hid (PermIn a b (fun k => rot s m e (sa k)) ∧ Stb (fun x y => cf x y < 0) (fun k => p (rot s m e (sa k))) a b) := hid ⟨(rot_perm (by omega) (by omega) (by omega) (by omega)).comp (PA.out.mono (Nat.le_refl _) (by omega)), Stb.join (p := fun k => p (rot s m e k)) PA.out (PermIn.id mid b) SA.out sB SP.out.2.2⟩
                clear sB c5
                go_wp2_with fail
                go_end0
                exact ⟨⟨_, rfl⟩, _, hfin.out.1, hfin.out.2, HD.out.1, HD.out.2⟩
            · have f1 : decide ((mid : Int) < (e : Int)) = false := by simp; omega
              have f1n : decide (mid < e) = false := by simp; omega
              have sB : Stb (fun x y => cf x y < 0) (fun k => p (rot s m e k)) mid b := by
                by_cases c7 : e = mid
                · rw [← c7]; exact SP.out.2.1.2.1
                · have c8 : e = b := by omega
                  rw [← c8]; exact SP.out.2.1.1
              have hfin : Hid (PermIn a b (fun k => rot s m e (sa k)) ∧ Stb (fun x y => cf x y < 0) (fun k => p (rot s m e (sa k))) a b) := hid ⟨(rot_perm (by omega) (by omega) (by omega) (by omega)).comp (PA.out.mono (Nat.le_refl _) (by omega)), Stb.join (p := fun k => p (rot s m e k)) PA.out (PermIn.id mid b) SA.out sB SP.out.2.2⟩
              clear sB c5
              go_wp2_with fail
              go_end0
              exact ⟨⟨_, rfl⟩, _, hfin.out.1, hfin.out.2, HD.out.1, HD.out.2⟩
        · have e1 : decide ((a : Int) < (s : Int)) = false := by simp; omega
          have e1n : decide (a < s) = false := by simp; omega
          obtain ⟨sa, hsa⟩ : ∃ sa : Nat → Nat, Hid (sa = fun k => k) := ⟨_, hid rfl⟩
          have PA : Hid (PermIn a mid sa) := hid (by rw [hsa.out]; exact PermIn.id _ _)
          have SA : Hid (Stb (fun x y => cf x y < 0) (fun k => p (rot s m e (sa k))) a mid) := hid (by
            rw [hsa.out]
            by_cases c7 : s = a
            · have := SP.out.1.2.1; rwa [c7] at this ⊢
            · have c8 : s = mid := by omega
              have := SP.out.1.1; rw [c8] at this ⊢; exact this)
          have HD : Hid (Hd wr g o n cap A (fun k => p (rot s m e (sa k))) ∧ Kp [g] w wr) := hid (by rw [hsa.out]; exact HR.out)
          clear c3
          clear HR
          have hmx : Hid ((∀ k, mid ≤ k → p (rot s m e (sa k)) = p (rot s m e k))) := hid (fun k hk => by rw [PA.out.2.1 k (by omega)])
          by_cases c5 : mid < e
          · have f1 : decide ((mid : Int) < (e : Int)) = true := by simp; omega
            have f1n : decide (mid < e) = true := by simp; omega
            by_cases c6 : e < b
            · have f2 : decide ((e : Int) < (b : Int)) = true := by simp; omega
              have f2n : decide (e < b) = true := by simp; omega
              have cM := hid (HIH.out (fun k => p (rot s m e (sa k))) mid e b wr (by omega) HD.out.1 (HC.out.keep _ _ HI.out HD.out.2) (fun k hk => HPN.out _ (by
                have r1 := (rot_perm (lo := 0) (hi := n) (Nat.zero_le s) (by omega) (by omega) (by omega) : PermIn 0 n (rot s m e))
                have r2 := PA.out.mono (Nat.zero_le a) (show mid ≤ n by omega)
                exact (r1.1 _ (Nat.zero_le _) (r2.1 k (Nat.zero_le _) hk).2).2)) c5 c6 (by omega) (fun i j g1 g2 g3 => by
                  show bef _ (p (rot s m e (sa i))) (p (rot s m e (sa j)))
                  rw [hmx.out i (by omega), hmx.out j (by omega)]; exact SP.out.2.1.1 i j g1 g2 g3) (fun i j g1 g2 g3 => by
                  show bef _ (p (rot s m e (sa i))) (p (rot s m e (sa j)))
                  rw [hmx.out i (by omega), hmx.out j (by omega)]; exact SP.out.2.1.2.1 i j g1 g2 g3) (fun i j g1 g2 g3 g4 => by
                  show p (rot s m e (sa i)) < p (rot s m e (sa j))
                  rw [hmx.out i (by omega), hmx.out j (by omega)]; exact SP.out.2.1.2.2 i j g1 g2 g3 g4))
              have KX := hid HD.out.2
              clear c5 c6
              go_wp2_with fail
              refine cM.out.mono ?_
              rintro e' wz ⟨⟨v, rfl⟩, t, pt, st, ht', kt⟩
              have hfin : Hid (PermIn a b (fun k => rot s m e (sa (t k))) ∧ Stb (fun x y => cf x y < 0) (fun k => p (rot s m e (sa (t k)))) a b ∧ Hd wz g o n cap A (fun k => p (rot s m e (sa (t k)))) ∧ Kp [g] w wz) := hid ⟨(rot_perm (by omega) (by omega) (by omega) (by omega)).comp ((PA.out.mono (Nat.le_refl _) (by omega)).comp (pt.mono (by omega) (Nat.le_refl _))), Stb.join (p := fun k => p (rot s m e k)) PA.out pt SA.out (fun i j g1 g2 g3 => by
                have h5 := st i j g1 g2 g3
                have h6 := pt.1 i g1 (by omega)
                have h7 := pt.1 j (by omega) g3
                simp only [hmx.out _ h6.1, hmx.out _ h7.1] at h5
                exact h5) SP.out.2.2, ht', KX.out.trans kt (by simp)⟩
              clear pt st ht' kt KX
              go_wp2_with fail
              go_end0
              exact ⟨⟨_, rfl⟩, _, hfin.out.1, hfin.out.2.1, hfin.out.2.2.1, hfin.out.2.2.2⟩
            · have f2 : decide ((e : Int) < (b : Int)) = false := by simp; omega
              have f2n : decide (e < b) = false := by simp; omega
              have sB : Stb (fun x y => cf x y < 0) (fun k => p (rot s m e k)) mid b := by
                by_cases c7 : e = mid
                · rw [← c7]; exact SP.out.2.1.2.1
                · have c8 : e = b := by omega
                  rw [← c8]; exact SP.out.2.1.1
              have hfin : Hid (PermIn a b (fun k => rot s m e (sa k)) ∧ Stb (fun x y => cf x y < 0) (fun k => p (rot s m e (sa k))) a b) := hid ⟨(rot_perm (by omega) (by omega) (by omega) (by omega)).comp (PA.out.mono (Nat.le_refl _) (by omega)), Stb.join (p := fun k => p (rot s m e k)) PA.out (PermIn.id mid b) SA.out sB SP.out.2.2⟩
              clear sB c5
              go_wp2_with fail
              go_end0
              exact ⟨⟨_, rfl⟩, _, hfin.out.1, hfin.out.2, HD.out.1, HD.out.2⟩
          · have f1 : decide ((mid : Int) < (e : Int)) = false := by simp; omega
            have f1n : decide (mid < e) = false := by simp; omega
            have sB : Stb (fun x y => cf x y < 0) (fun k => p (rot s m e k)) mid b := by
              by_cases c7 : e = mid
              · rw [← c7]; exact SP.out.2.1.2.1
              · have c8 : e = b := by omega
                rw [← c8]; exact SP.out.2.1.1
            have hfin : Hid (PermIn a b (fun k => rot s m e (sa k)) ∧ Stb (fun x y => cf x y < 0) (fun k => p (rot s m e (sa k))) a b) := hid ⟨(rot_perm (by omega) (by omega) (by omega) (by omega)).comp (PA.out.mono (Nat.le_refl _) (by omega)), Stb.join (p := fun k => p (rot s m e k)) PA.out (PermIn.id mid b) SA.out sB SP.out.2.2⟩
            clear sB c5
            go_wp2_with fail
            go_end0
            exact ⟨⟨_, rfl⟩, _, hfin.out.1, hfin.out.2, HD.out.1, HD.out.2⟩
end Go.Proofs.Ytebkkdoggagcdaa
end

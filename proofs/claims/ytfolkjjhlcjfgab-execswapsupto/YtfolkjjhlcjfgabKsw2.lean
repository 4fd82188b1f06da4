/- ExecJoins' walk. -/
import Derived.Test.YtfolkjjhlcjfgabKsw1
import Derived.Test.YtfolkjjhlcjfgabB8
import Derived.Test.YtfolkjjhlcjfgabB2
import Derived.Test.YtfolkjjhlcjfgabB5
import Derived.Test.YtfolkjjhlcjfgabB4
import Derived.Test.YtfolkjjhlcjfgabB10
section
namespace Go.Proofs.Ytfolkjjhlcjfgab
open Go.RowKit Go.Hay
set_option linter.unusedVariables false
set_option linter.unusedSimpArgs false

set_option maxHeartbeats 64000000 in
set_option maxRecDepth 100000 in
theorem cSymC2 (g o n cap : Nat) (A : Nat → Vs) (cv : Value) (cf : Nat → Nat → Int) (Inv : World → Prop) (hC : CmpOk g n A cv cf Inv) (p : Nat → Nat) (a m b : Nat) (w : World) (h : Hd w g o n cap A p) (hI : Inv w) (hpn : ∀ k, k < n → p k < n) (h1 : a < m) (h2 : m < b) (h3 : b ≤ n) (hA : Srt (fun x y => cf x y < 0) p a m) (hB : Srt (fun x y => cf x y < 0) p m b) (hLo : Low p a m b) (hn : n ≤ 4000000000000) (hcap : n ≤ cap) (hma : a + 1 < m) (hmb : m + 1 < b) (hk : 2 * m ≤ a + b) (IH : ∀ (p' : Nat → Nat) (a' m' b' : Nat) (w' : World), b' - a' < b - a → Hd w' g o n cap A p' → Inv w' → (∀ k, k < n → p' k < n) → a' < m' → m' < b' → b' ≤ n → Srt (fun x y => cf x y < 0) p' a' m' → Srt (fun x y => cf x y < 0) p' m' b' → Low p' a' m' b' → Calls Try.prog 53 #[.slice (some ⟨g, o, none⟩) n cap, .int .i64 (a' : Int), .int .i64 (m' : Int), .int .i64 (b' : Int), .func (.func 32) #[] #[cv]] w' fun e u => (∃ v, e = .returned v) ∧ ∃ s, PermIn a' b' s ∧ Srt (fun x y => cf x y < 0) (fun k => p' (s k)) a' b' ∧ Hd u g o n cap A (fun k => p' (s k)) ∧ Kp [g] w' u) : Calls Try.prog 53 #[.slice (some ⟨g, o, none⟩) n cap, .int .i64 (a : Int), .int .i64 (m : Int), .int .i64 (b : Int), .func (.func 32) #[] #[cv]] w fun e w' => (∃ v, e = .returned v) ∧ ∃ s, PermIn a b s ∧ Srt (fun x y => cf x y < 0) (fun k => p (s k)) a b ∧ Hd w' g o n cap A (fun k => p (s k)) ∧ Kp [g] w w' := by
  have HC := hid hC
  have HI := hid hI
  have HH := hid h
  have HPN := hid hpn
  have HSR := hid (And.intro hA (And.intro hB hLo))
  have q1 : (-9223372036854775808 : Int) ≤ (m : Int) - (a : Int) := by omega
  have q2 : (m : Int) - (a : Int) ≤ 9223372036854775807 := by omega
  clear hC hI h hpn hA hB hLo
  have HIH := hid IH
  clear IH
  have hm1 : ((m : Int) - (a : Int) == 1) = false := by simp; omega
  have hm2 : ¬ ((m : Int) - (a : Int) = 1) := by omega
  have hb1 : ((b : Int) - (m : Int) == 1) = false := by simp; omega
  have hb2 : ¬ ((b : Int) - (m : Int) = 1) := by omega
  have q3 : (-9223372036854775808 : Int) ≤ (b : Int) - (m : Int) := by omega
  have q4 : (b : Int) - (m : Int) ≤ 9223372036854775807 := by omega
  obtain ⟨t, ht⟩ : ∃ t : Nat, t = a + b := ⟨_, rfl⟩
  obtain ⟨mid, hmid⟩ : ∃ h : Nat, h = t / 2 := ⟨_, rfl⟩
  have et : (a : Int) + (b : Int) = (t : Int) := by omega
  have et1 : (-9223372036854775808 : Int) ≤ (a : Int) + (b : Int) := by omega
  have et2 : (a : Int) + (b : Int) ≤ 9223372036854775807 := by omega
  have et3 : (0 : Int) ≤ (t : Int) := by omega
  have et4 : (t : Int) ≤ 9223372036854775807 := by omega
  have et5 : (t : Int) < 18446744073709551616 := by omega
  have eh : (t : Int) / 2 = (mid : Int) := by omega
  have eh2 : (mid : Int) ≤ 9223372036854775807 := by omega
  have eu : IntKind.u64.wrap (t : Int) = (t : Int) := by rw [IntKind.wrap_u64]; omega
  have ew : IntKind.i64.wrap (mid : Int) = (mid : Int) := by rw [IntKind.wrap_i64]; omega
  have ewt : IntKind.i64.wrap (t : Int) = (t : Int) := by rw [IntKind.wrap_i64]; omega
  have hmid1 : 2 * mid ≤ a + b := by omega
  have hmid2 : a + b ≤ 2 * mid + 1 := by omega
  obtain ⟨N, hN⟩ : ∃ N : Nat, N = mid + m := ⟨_, rfl⟩
  obtain ⟨PP, hPP⟩ : ∃ P : Nat, P = N - 1 := ⟨_, rfl⟩
  have eN : (mid : Int) + (m : Int) = (N : Int) := by omega
  have eN1 : (-9223372036854775808 : Int) ≤ (mid : Int) + (m : Int) := by omega
  have eN2 : (mid : Int) + (m : Int) ≤ 9223372036854775807 := by omega
  have eP : (N : Int) - 1 = (PP : Int) := by omega
  have eP1 : (-9223372036854775808 : Int) ≤ (N : Int) - 1 := by omega
  have eP2 : (N : Int) - 1 ≤ 9223372036854775807 := by omega
  have hN1 : N ≤ mid + m := by omega
  have hN2 : mid + m ≤ N := by omega
  have hPP1 : PP + 1 ≤ N := by omega
  have hPP2 : N ≤ PP + 1 := by omega
  have dg : decide ((mid : Int) < (m : Int)) = false := by simp; omega
  have dg2 : ¬ ((mid : Int) < (m : Int)) := by omega
  have HT := hid (And.intro ht hmid)
  clear ht hmid hN hPP
  go_enter Try.func53, Try.ntmps53
  go_wp2_with fail
  clear q1 q2 q3 q4 hm1 hm2 hb1 hb2 et et1 et2 et3 et4 et5 eh eh2 eu ew ewt eN eN1 eN2 eP eP1 eP2 dg dg2 HT
  go_loopw [20, 21, 23] (fun sv rv _ wr => ∃ s r : Nat, (a ≤ s ∧ s ≤ r ∧ r ≤ m) ∧ sv = .int .i64 (s : Int) ∧ rv = .int .i64 (r : Int) ∧ Hid ((s = a ∨ 0 ≤ cf (p (N - s)) (p (s - 1))) ∧ (r = m ∨ cf (p (N - 1 - r)) (p r) < 0)) ∧ Hid (Hd wr g o n cap A p ∧ Kp [g] w wr)) (fun sv rv _ _ => (intOf rv).toNat - (intOf sv).toNat)
  case atStart => exact ⟨a, m, by omega, rfl, rfl, hid ⟨.inl rfl, .inl rfl⟩, hid ⟨HH.out, Kp.refl _ _⟩⟩
  case round =>
    obtain ⟨s, r, ⟨bs, bsr, br⟩, rfl, rfl, hs, hw⟩ := hrel
    by_cases hsr : s < r
    · have i0 : (s : Int) < (r : Int) := by omega
      obtain ⟨t, ht⟩ : ∃ t : Nat, t = s + r := ⟨_, rfl⟩
      obtain ⟨c, hc⟩ : ∃ h : Nat, h = t / 2 := ⟨_, rfl⟩
      have et : (s : Int) + (r : Int) = (t : Int) := by omega
      have et1 : (-9223372036854775808 : Int) ≤ (s : Int) + (r : Int) := by omega
      have et2 : (s : Int) + (r : Int) ≤ 9223372036854775807 := by omega
      have et3 : (0 : Int) ≤ (t : Int) := by omega
      have et4 : (t : Int) ≤ 9223372036854775807 := by omega
      have et5 : (t : Int) < 18446744073709551616 := by omega
      have eh : (t : Int) / 2 = (c : Int) := by omega
      have eh2 : (c : Int) ≤ 9223372036854775807 := by omega
      have eu : IntKind.u64.wrap (t : Int) = (t : Int) := by rw [IntKind.wrap_u64]; omega
      have ew : IntKind.i64.wrap (c : Int) = (c : Int) := by rw [IntKind.wrap_i64]; omega
      have ewt : IntKind.i64.wrap (t : Int) = (t : Int) := by rw [IntKind.wrap_i64]; omega
      have hcb : s ≤ c ∧ c < r := by omega
      have HT := hid (And.intro ht hc)
      clear ht hc
      obtain ⟨x, hx⟩ : ∃ x : Nat, x = PP - c := ⟨_, rfl⟩
      have ex : (PP : Int) - (c : Int) = (x : Int) := by omega
      have wx : IntKind.i64.wrap ((PP : Int) - (c : Int)) = (x : Int) := by rw [ex, IntKind.wrap_i64]; omega
      have wx2 : IntKind.i64.wrap (x : Int) = (x : Int) := by rw [IntKind.wrap_i64]; omega
      have hxn : x < n := by omega
      have i1 : (0 : Int) ≤ (c : Int) := by omega
      have i2 : (c : Int) < (n : Int) := by omega
      have i3 : (0 : Int) ≤ (x : Int) := by omega
      have i4 : (x : Int) < (n : Int) := by omega
      have i5 : (c : Int) + 1 ≤ 9223372036854775807 := by omega
      have HX : Hid (x = N - 1 - c ∧ x = N - (c + 1)) := hid (by omega)
      clear hx
      have cC := hid (fun W' (k : Kp [] wr W') => HC.out.calls W' (p x) (p c) (HC.out.keep _ _ HI.out (hw.out.2.trans k (by simp))) (HPN.out _ (by omega)) (HPN.out _ (by omega)))
      obtain ⟨x0, _⟩ := hw.out.1.cells x (by omega)
      obtain ⟨y0, _⟩ := hw.out.1.cells c (by omega)
      obtain ⟨V1, hV1⟩ : ∃ V, Hid (V = A (p x)) := ⟨_, hid rfl⟩
      obtain ⟨V2, hV2⟩ : ∃ V, Hid (V = A (p c)) := ⟨_, hid rfl⟩
      rw [← hV1.out] at x0 cC
      rw [← hV2.out] at y0 cC
      obtain ⟨C, hCf⟩ : ∃ C, Hid (cf (p x) (p c) = C) := ⟨_, hid rfl⟩
      rw [hCf.out] at cC
      obtain ⟨a1, c1, l1⟩ := V1
      obtain ⟨a2, c2, l2⟩ := V2
      simp only [Vs.v] at cC
      dsimp only at *
      have hF : Hid (∀ W', Kp [] wr W' → (W'.cell? ⟨g, o + x, none⟩ = some (.slice a1 l1.length c1) ∧ W'.cell? ⟨g, o + c, none⟩ = some (.slice a2 l2.length c2))) := fun W' k => ⟨kpAt k x0, kpAt k y0⟩
      clear x0 y0 hV1 hV2
      go_wp2_with fail
      refine wp_region_held_drew (S := fun W' => W'.cell? ⟨g, o + x, none⟩ = some (.slice a1 l1.length c1) ∧ W'.cell? ⟨g, o + c, none⟩ = some (.slice a2 l2.length c2)) (by kernel_rfl) ?_ (fun hHeld => ?_)
      · exact hF.out _ (Kp.refl [] wr).drew
      have KD : Hid (Kp [] wr wr.drew) := hid (Kp.refl [] wr).drew
      generalize wr.drew = Wd at *
      refine wpAnyH_take (i := 0) (v := ?_) rfl (by kernel_rfl) (by kernel_rfl) (by kernel_rfl) (fun _ _ _ h => h) (Or.inl ⟨by rfl, ?_⟩) (by assumption) ?_
      rotate_left
      · intro w hSw; (try dsimp only at hSw); go_simp <;> with_reducible rfl
      try simp only [Act.put, List.getElem_toArray, List.getElem_cons_zero, List.getElem_cons_succ, List.setIfInBounds_toArray, List.set_cons_zero, List.set_cons_succ]
      refine wpAnyH_take (i := 1) (v := ?_) rfl (by kernel_rfl) (by kernel_rfl) (by kernel_rfl) (fun _ _ _ h => h) (Or.inl ⟨by rfl, ?_⟩) (by assumption) ?_
      rotate_left
      · intro w hSw; (try dsimp only at hSw); go_simp <;> with_reducible rfl
      try simp only [Act.put, List.getElem_toArray, List.getElem_cons_zero, List.getElem_cons_succ, List.setIfInBounds_toArray, List.set_cons_zero, List.set_cons_succ]
      refine wpAnyH_take (i := 2) (v := ?_) rfl (by kernel_rfl) (by kernel_rfl) (by kernel_rfl) (fun _ _ _ h => h) (Or.inl ⟨by rfl, ?_⟩) (by assumption) ?_
      rotate_left
      · intro w hSw; (try dsimp only at hSw); go_simp <;> with_reducible rfl
      try simp only [Act.put, List.getElem_toArray, List.getElem_cons_zero, List.getElem_cons_succ, List.setIfInBounds_toArray, List.set_cons_zero, List.set_cons_succ]
      refine wpAnyH_take (i := 3) (v := ?_) rfl (by kernel_rfl) (by kernel_rfl) (by kernel_rfl) (fun _ _ _ h => h) (Or.inl ⟨by rfl, ?_⟩) (by assumption) ?_
      rotate_left
      · intro w hSw; (try dsimp only at hSw); go_simp <;> with_reducible rfl
      try simp only [Act.put, List.getElem_toArray, List.getElem_cons_zero, List.getElem_cons_succ, List.setIfInBounds_toArray, List.set_cons_zero, List.set_cons_succ]
      refine wpAnyH_take (i := 4) (v := ?_) rfl (by kernel_rfl) (by kernel_rfl) (by kernel_rfl) (fun _ _ _ h => h) (Or.inl ⟨by rfl, ?_⟩) (by assumption) ?_
      rotate_left
      · intro w hSw; (try dsimp only at hSw); go_simp <;> (try simp only [wx, wx2]) <;> with_reducible rfl
      try simp only [Act.put, List.getElem_toArray, List.getElem_cons_zero, List.getElem_cons_succ, List.setIfInBounds_toArray, List.set_cons_zero, List.set_cons_succ]
      try simp only [wx, wx2]
      refine wpAnyH_take (i := 5) (v := ?_) rfl (by kernel_rfl) (by kernel_rfl) (by kernel_rfl) (fun _ _ _ h => h) (Or.inl ⟨by rfl, ?_⟩) (by assumption) ?_
      rotate_left
      · intro w hSw; (try dsimp only at hSw); go_simp <;> with_reducible rfl
      try simp only [Act.put, List.getElem_toArray, List.getElem_cons_zero, List.getElem_cons_succ, List.setIfInBounds_toArray, List.set_cons_zero, List.set_cons_succ]
      refine wpAnyH_take (i := 6) (v := ?_) rfl (by kernel_rfl) (by kernel_rfl) (by kernel_rfl) (fun _ _ _ h => h) (Or.inl ⟨by rfl, ?_⟩) (by assumption) ?_
      rotate_left
      · intro w hSw; (try dsimp only at hSw); go_simp <;> with_reducible rfl
      try simp only [Act.put, List.getElem_toArray, List.getElem_cons_zero, List.getElem_cons_succ, List.setIfInBounds_toArray, List.set_cons_zero, List.set_cons_succ]
      refine wpAnyH_take (i := 7) (v := ?_) rfl (by kernel_rfl) (by kernel_rfl) (by kernel_rfl) (fun _ _ _ h => h) (Or.inl ⟨by rfl, ?_⟩) (by assumption) ?_
      rotate_left
      · intro w hSw; (try dsimp only at hSw); go_simp <;> with_reducible rfl
      try simp only [Act.put, List.getElem_toArray, List.getElem_cons_zero, List.getElem_cons_succ, List.setIfInBounds_toArray, List.set_cons_zero, List.set_cons_succ]
      refine wpAnyH_take (i := 8) (v := ?_) rfl (by kernel_rfl) (by kernel_rfl) (by kernel_rfl) (fun _ _ _ h => h) (Or.inl ⟨by rfl, ?_⟩) (by assumption) ?_
      rotate_left
      · intro w hSw; (try dsimp only at hSw); go_simp <;> with_reducible rfl
      try simp only [Act.put, List.getElem_toArray, List.getElem_cons_zero, List.getElem_cons_succ, List.setIfInBounds_toArray, List.set_cons_zero, List.set_cons_succ]
      refine wpAnyH_take (i := 9) (v := ?_) rfl (by kernel_rfl) (by kernel_rfl) (by kernel_rfl) (fun _ _ _ h => h) (Or.inl ⟨by rfl, ?_⟩) (by assumption) ?_
      rotate_left
      · intro w hSw; (try dsimp only at hSw); go_simp <;> with_reducible rfl
      try simp only [Act.put, List.getElem_toArray, List.getElem_cons_zero, List.getElem_cons_succ, List.setIfInBounds_toArray, List.set_cons_zero, List.set_cons_succ]
      refine wpAnyH_take (i := 10) (v := ?_) rfl (by kernel_rfl) (by kernel_rfl) (by kernel_rfl) (fun _ _ _ h => h) (Or.inl ⟨by rfl, ?_⟩) (by assumption) ?_
      rotate_left
      · intro w hSw; (try dsimp only at hSw); go_simp <;> with_reducible rfl
      try simp only [Act.put, List.getElem_toArray, List.getElem_cons_zero, List.getElem_cons_succ, List.setIfInBounds_toArray, List.set_cons_zero, List.set_cons_succ]
      refine wpAnyH_ready (rs := [11]) (by kernel_rfl) (by simp) ?_
      refine AllReadyH.cons rfl (fun K hK => ?_) AllReadyH.nil
      go_simp
      refine (cC.out Wd KD.out).mono ?_
      rintro e u1 ⟨rfl, l1'⟩
      (try go_wp2_with fail)
      refine hK.out _ _ ?_ (fun hHeld => ?_)
      · exact hF.out _ (KD.out.trans l1' (by simp))
      clear hK K
      try simp only [Act.put, List.getElem_toArray, List.getElem_cons_zero, List.getElem_cons_succ, List.setIfInBounds_toArray, List.set_cons_zero, List.set_cons_succ]
      have K1 := hid (KD.out.trans l1' (by simp))
      clear l1' KD
      have hw1 : Hid (Hd u1 g o n cap A p ∧ Kp [g] w u1) := hid ⟨hw.out.1.kept K1.out, hw.out.2.trans K1.out (by simp)⟩
      by_cases hc0 : C < 0
      · have dc : decide (C < 0) = true := by simpa using hc0
        refine wpAnyH_take (i := 12) (v := ?_) rfl (by kernel_rfl) (by kernel_rfl) (by kernel_rfl) (fun _ _ _ h => h) (Or.inl ⟨by rfl, ?_⟩) (by assumption) ?_
        rotate_left
        · intro w hSw; (try dsimp only at hSw); go_simp <;> (try simp only [dc]) <;> with_reducible rfl
        try simp only [Act.put, List.getElem_toArray, List.getElem_cons_zero, List.getElem_cons_succ, List.setIfInBounds_toArray, List.set_cons_zero, List.set_cons_succ]
        try simp only [dc]
        refine wpAnyH_take (i := 13) (v := ?_) rfl (by kernel_rfl) (by kernel_rfl) (by kernel_rfl) (fun _ _ _ h => h) (Or.inl ⟨by rfl, ?_⟩) (by assumption) ?_
        rotate_left
        · intro w hSw; (try dsimp only at hSw); go_simp <;> with_reducible rfl
        try simp only [Act.put, List.getElem_toArray, List.getElem_cons_zero, List.getElem_cons_succ, List.setIfInBounds_toArray, List.set_cons_zero, List.set_cons_succ]
        try simp only [Bool.not_true, Bool.not_false]
        refine wpAnyH_done (by kernel_rfl) ?_ _
        have hs2 : Hid ((s = a ∨ 0 ≤ cf (p (N - s)) (p (s - 1))) ∧ (c = m ∨ cf (p (N - 1 - c)) (p c) < 0)) := hid ⟨hs.out.1, .inr (by rw [← HX.out.1, hCf.out]; exact hc0)⟩
        clear hHeld hF cC hs hw hc0
        go_wp2_with fail
        exact ⟨⟨s, c, by omega, rfl, rfl, hs2, hw1⟩, by simp [intOf]; omega⟩
      · have dc : decide (C < 0) = false := by simpa using hc0
        refine wpAnyH_take (i := 12) (v := ?_) rfl (by kernel_rfl) (by kernel_rfl) (by kernel_rfl) (fun _ _ _ h => h) (Or.inl ⟨by rfl, ?_⟩) (by assumption) ?_
        rotate_left
        · intro w hSw; (try dsimp only at hSw); go_simp <;> (try simp only [dc]) <;> with_reducible rfl
        try simp only [Act.put, List.getElem_toArray, List.getElem_cons_zero, List.getElem_cons_succ, List.setIfInBounds_toArray, List.set_cons_zero, List.set_cons_succ]
        try simp only [dc]
        refine wpAnyH_take (i := 13) (v := ?_) rfl (by kernel_rfl) (by kernel_rfl) (by kernel_rfl) (fun _ _ _ h => h) (Or.inl ⟨by rfl, ?_⟩) (by assumption) ?_
        rotate_left
        · intro w hSw; (try dsimp only at hSw); go_simp <;> with_reducible rfl
        try simp only [Act.put, List.getElem_toArray, List.getElem_cons_zero, List.getElem_cons_succ, List.setIfInBounds_toArray, List.set_cons_zero, List.set_cons_succ]
        try simp only [Bool.not_true, Bool.not_false]
        refine wpAnyH_done (by kernel_rfl) ?_ _
        have hs2 : Hid ((c + 1 = a ∨ 0 ≤ cf (p (N - (c + 1))) (p (c + 1 - 1))) ∧ (r = m ∨ cf (p (N - 1 - r)) (p r) < 0)) := hid ⟨.inr (by rw [Nat.add_sub_cancel, ← HX.out.2, hCf.out]; omega), hs.out.2⟩
        clear hHeld hF cC hs hw hc0
        go_wp2_with fail
        exact ⟨⟨c + 1, r, by omega, by go_num, rfl, hs2, hw1⟩, by simp [intOf]; omega⟩
    · have er : r = s := by omega
      subst er
      rename_i s_
      obtain ⟨s, hss⟩ : ∃ s : Nat, s = r := ⟨_, rfl⟩
      subst hss
      obtain ⟨e, he⟩ : ∃ e : Nat, e = N - s := ⟨_, rfl⟩
      have eE : (N : Int) - (s : Int) = (e : Int) := by omega
      have eE1 : (-9223372036854775808 : Int) ≤ (N : Int) - (s : Int) := by omega
      have eE2 : (N : Int) - (s : Int) ≤ 9223372036854775807 := by omega
      have heb : m ≤ e ∧ e ≤ b ∧ s ≤ mid ∧ s ≤ m ∧ a ≤ s := by omega
      have hem : Hid (mid = s + (e - m)) := hid (by omega)
      have hmb2 : mid < b ∧ a < mid ∧ mid ≤ e := by omega
      have SP := hid (sym_parts HC.out.swo (p := p) heb.2.2.2.2 heb.2.2.2.1 heb.1 heb.2.1 hem.out HSR.out.1 HSR.out.2.1 HSR.out.2.2 (fun g1 g2 => by
        rcases hs.out.2 with h5 | h5
        · omega
        · rw [show e - 1 = N - 1 - s by omega]; exact h5) (fun g1 g2 => by
        rcases hs.out.1 with h5 | h5
        · omega
        · rw [he]; exact Int.not_lt.2 h5))
      clear he hem hs
      by_cases c1 : s < m
      · have d1 : decide ((s : Int) < (m : Int)) = true := by simp; omega
        have d1n : decide (s < m) = true := by simp; omega
        by_cases c2 : m < e
        · have d2 : decide ((m : Int) < (e : Int)) = true := by simp; omega
          have d2n : decide (m < e) = true := by simp; omega
          have cR := hid (cRot g o n cap A p s m e (.func (.func 32) #[] #[cv]) wr hw.out.1 c1 c2 (by omega) hn hcap)
          clear c1 c2
          go_wp2_with fail
          refine cR.out.mono ?_
          rintro e' wt ⟨⟨v, rfl⟩, hd, kd⟩
          have HR := hid (And.intro hd (hw.out.2.trans kd (by simp)))
          clear hd kd cR hw
          by_cases c3 : a < s
          · have e1 : decide ((a : Int) < (s : Int)) = true := by simp; omega
            have e1n : decide (a < s) = true := by simp; omega
            by_cases c4 : s < mid
            · have e2 : decide ((s : Int) < (mid : Int)) = true := by simp; omega
              have e2n : decide (s < mid) = true := by simp; omega
              have cM1 := hid (HIH.out (fun k => p (rot s m e k)) a s mid wt (by omega) HR.out.1 (HC.out.keep _ _ HI.out HR.out.2) (fun k hk => HPN.out _ (((rot_perm (Nat.zero_le s) (by omega) (by omega) (by omega) : PermIn 0 n (rot s m e))).1 k (Nat.zero_le _) hk).2) c3 c4 (by omega) SP.out.1.1 SP.out.1.2.1 SP.out.1.2.2)
              clear c3 c4
              go_wp2_with fail
              refine cM1.out.mono ?_
              rintro e' wm ⟨⟨v, rfl⟩, sa, pa, sa', ha', ka⟩
              have PA := hid pa
              have SA := hid sa'
              have HD := hid (And.intro ha' (HR.out.2.trans ka (by simp)))
              clear pa sa' ha' ka cM1 HR
              have hmx : Hid ((∀ k, mid ≤ k → p (rot s m e (sa k)) = p (rot s m e k))) := hid (fun k hk => by rw [PA.out.2.1 k (by omega)])
              by_cases c5 : mid < e
              · have f1 : decide ((mid : Int) < (e : Int)) = true := by simp; omega
                have f1n : decide (mid < e) = true := by simp; omega
                by_cases c6 : e < b
                · have f2 : decide ((e : Int) < (b : Int)) = true := by simp; omega
                  have f2n : decide (e < b) = true := by simp; omega
                  have cM := hid (HIH.out (fun k => p (rot s m e (sa k))) mid e b wm (by omega) HD.out.1 (HC.out.keep _ _ HI.out HD.out.2) (fun k hk => HPN.out _ (by
                    have r1 := (rot_perm (lo := 0) (hi := n) (Nat.zero_le s) (by omega) (by omega) (by omega) : PermIn 0 n (rot s m e))
                    have r2 := PA.out.mono (Nat.zero_le a) (show mid ≤ n by omega)
                    exact (r1.1 _ (Nat.zero_le _) (r2.1 k (Nat.zero_le _) hk).2).2)) c5 c6 (by omega) (fun i j g1 g2 g3 => by
                      show bef _ (p (rot s m e (sa i))) (p (rot s m e (sa j)))
                      rw [hmx.out i (by omega), hmx.out j (by omega)]; exact SP.out.2.1.1 i j g1 g2 g3) (fun i j g1 g2 g3 => by
                      show bef _ (p (rot s m e (sa i))) (p (rot s m e (sa j)))
                      rw [hmx.out i (by omega), hmx.out j (by omega)]; exact SP.out.2.1.2.1 i j g1 g2 g3) (fun i j g1 g2 g3 g4 => by
                      show p (rot s m e (sa i)) < p (rot s m e (sa j))
                      rw [hmx.out i (by omega), hmx.out j (by omega)]; exact SP.out.2.1.2.2 i j g1 g2 g3 g4))
                  have KX := hid HD.out.2
                  clear c5 c6
                  go_wp2_with fail
                  refine cM.out.mono ?_
                  rintro e' wz ⟨⟨v, rfl⟩, t, pt, st, ht', kt⟩
                  have hfin : Hid (PermIn a b (fun k => rot s m e (sa (t k))) ∧ Srt (fun x y => cf x y < 0) (fun k => p (rot s m e (sa (t k)))) a b ∧ Hd wz g o n cap A (fun k => p (rot s m e (sa (t k)))) ∧ Kp [g] w wz) := hid ⟨(rot_perm (by omega) (by omega) (by omega) (by omega)).comp ((PA.out.mono (Nat.le_refl _) (by omega)).comp (pt.mono (by omega) (Nat.le_refl _))), Srt.join (p := fun k => p (rot s m e k)) PA.out pt SA.out (fun i j g1 g2 g3 => by
                    have h5 := st i j g1 g2 g3
                    have h6 := pt.1 i g1 (by omega)
                    have h7 := pt.1 j (by omega) g3
                    simp only [hmx.out _ h6.1, hmx.out _ h7.1] at h5
                    exact h5) SP.out.2.2, ht', KX.out.trans kt (by simp)⟩
                  clear pt st ht' kt KX
                  go_wp2_with fail
                  go_end0
                  exact ⟨⟨_, rfl⟩, _, hfin.out.1, hfin.out.2.1, hfin.out.2.2.1, hfin.out.2.2.2⟩
                · have f2 : decide ((e : Int) < (b : Int)) = false := by simp; omega
                  have f2n : decide (e < b) = false := by simp; omega
                  have sB : Srt (fun x y => cf x y < 0) (fun k => p (rot s m e k)) mid b := by
                    by_cases c7 : e = mid
                    · rw [← c7]; exact SP.out.2.1.2.1
                    · have c8 : e = b := by omega
                      rw [← c8]; exact SP.out.2.1.1
                  have hfin : Hid (PermIn a b (fun k => rot s m e (sa k)) ∧ Srt (fun x y => cf x y < 0) (fun k => p (rot s m e (sa k))) a b) := hid ⟨(rot_perm (by omega) (by omega) (by omega) (by omega)).comp (PA.out.mono (Nat.le_refl _) (by omega)), Srt.join (p := fun k => p (rot s m e k)) PA.out (PermIn.id mid b) SA.out sB SP.out.2.2⟩
                  clear sB c5
                  go_wp2_with fail
                  go_end0
                  exact ⟨⟨_, rfl⟩, _, hfin.out.1, hfin.out.2, HD.out.1, HD.out.2⟩
              · have f1 : decide ((mid : Int) < (e : Int)) = false := by simp; omega
                have f1n : decide (mid < e) = false := by simp; omega
                have sB : Srt (fun x y => cf x y < 0) (fun k => p (rot s m e k)) mid b := by
                  by_cases c7 : e = mid
                  · rw [← c7]; exact SP.out.2.1.2.1
                  · have c8 : e = b := by omega
                    rw [← c8]; exact SP.out.2.1.1
                have hfin : Hid (PermIn a b (fun k => rot s m e (sa k)) ∧ Srt (fun x y => cf x y < 0) (fun k => p (rot s m e (sa k))) a b) := hid ⟨(rot_perm (by omega) (by omega) (by omega) (by omega)).comp (PA.out.mono (Nat.le_refl _) (by omega)), Srt.join (p := fun k => p (rot s m e k)) PA.out (PermIn.id mid b) SA.out sB SP.out.2.2⟩
                clear sB c5
                go_wp2_with fail
                go_end0
                exact ⟨⟨_, rfl⟩, _, hfin.out.1, hfin.out.2, HD.out.1, HD.out.2⟩
            · have e2 : decide ((s : Int) < (mid : Int)) = false := by simp; omega
              have e2n : decide (s < mid) = false := by simp; omega
              obtain ⟨sa, hsa⟩ : ∃ sa : Nat → Nat, Hid (sa = fun k => k) := ⟨_, hid rfl⟩
              have PA : Hid (PermIn a mid sa) := hid (by rw [hsa.out]; exact PermIn.id _ _)
              have SA : Hid (Srt (fun x y => cf x y < 0) (fun k => p (rot s m e (sa k))) a mid) := hid (by
                rw [hsa.out]
                by_cases c7 : s = a
                · have := SP.out.1.2.1; rwa [c7] at this ⊢
                · have c8 : s = mid := by omega
                  have := SP.out.1.1; rw [c8] at this ⊢; exact this)
              have HD : Hid (Hd wt g o n cap A (fun k => p (rot s m e (sa k))) ∧ Kp [g] w wt) := hid (by rw [hsa.out]; exact HR.out)
              clear c3
              clear c4 HR
              have hmx : Hid ((∀ k, mid ≤ k → p (rot s m e (sa k)) = p (rot s m e k))) := hid (fun k hk => by rw [PA.out.2.1 k (by omega)])
              by_cases c5 : mid < e
              · have f1 : decide ((mid : Int) < (e : Int)) = true := by simp; omega
                have f1n : decide (mid < e) = true := by simp; omega
                by_cases c6 : e < b
                · have f2 : decide ((e : Int) < (b : Int)) = true := by simp; omega
                  have f2n : decide (e < b) = true := by simp; omega
                  have cM := hid (HIH.out (fun k => p (rot s m e (sa k))) mid e b wt (by omega) HD.out.1 (HC.out.keep _ _ HI.out HD.out.2) (fun k hk => HPN.out _ (by
                    have r1 := (rot_perm (lo := 0) (hi := n) (Nat.zero_le s) (by omega) (by omega) (by omega) : PermIn 0 n (rot s m e))
                    have r2 := PA.out.mono (Nat.zero_le a) (show mid ≤ n by omega)
                    exact (r1.1 _ (Nat.zero_le _) (r2.1 k (Nat.zero_le _) hk).2).2)) c5 c6 (by omega) (fun i j g1 g2 g3 => by
                      show bef _ (p (rot s m e (sa i))) (p (rot s m e (sa j)))
                      rw [hmx.out i (by omega), hmx.out j (by omega)]; exact SP.out.2.1.1 i j g1 g2 g3) (fun i j g1 g2 g3 => by
                      show bef _ (p (rot s m e (sa i))) (p (rot s m e (sa j)))
                      rw [hmx.out i (by omega), hmx.out j (by omega)]; exact SP.out.2.1.2.1 i j g1 g2 g3) (fun i j g1 g2 g3 g4 => by
                      show p (rot s m e (sa i)) < p (rot s m e (sa j))
                      rw [hmx.out i (by omega), hmx.out j (by omega)]; exact SP.out.2.1.2.2 i j g1 g2 g3 g4))
                  have KX := hid HD.out.2
                  clear c5 c6
                  go_wp2_with fail
                  refine cM.out.mono ?_
                  rintro e' wz ⟨⟨v, rfl⟩, t, pt, st, ht', kt⟩
                  have hfin : Hid (PermIn a b (fun k => rot s m e (sa (t k))) ∧ Srt (fun x y => cf x y < 0) (fun k => p (rot s m e (sa (t k)))) a b ∧ Hd wz g o n cap A (fun k => p (rot s m e (sa (t k)))) ∧ Kp [g] w wz) := hid ⟨(rot_perm (by omega) (by omega) (by omega) (by omega)).comp ((PA.out.mono (Nat.le_refl _) (by omega)).comp (pt.mono (by omega) (Nat.le_refl _))), Srt.join (p := fun k => p (rot s m e k)) PA.out pt SA.out (fun i j g1 g2 g3 => by
                    have h5 := st i j g1 g2 g3
                    have h6 := pt.1 i g1 (by omega)
                    have h7 := pt.1 j (by omega) g3
                    simp only [hmx.out _ h6.1, hmx.out _ h7.1] at h5
                    exact h5) SP.out.2.2, ht', KX.out.trans kt (by simp)⟩
                  clear pt st ht' kt KX
                  go_wp2_with fail
                  go_end0
                  exact ⟨⟨_, rfl⟩, _, hfin.out.1, hfin.out.2.1, hfin.out.2.2.1, hfin.out.2.2.2⟩
                · have f2 : decide ((e : Int) < (b : Int)) = false := by simp; omega
                  have f2n : decide (e < b) = false := by simp; omega
                  have sB : Srt (fun x y => cf x y < 0) (fun k => p (rot s m e k)) mid b := by
                    by_cases c7 : e = mid
                    · rw [← c7]; exact SP.out.2.1.2.1
                    · have c8 : e = b := by omega
                      rw [← c8]; exact SP.out.2.1.1
                  have hfin : Hid (PermIn a b (fun k => rot s m e (sa k)) ∧ Srt (fun x y => cf x y < 0) (fun k => p (rot s m e (sa k))) a b) := hid ⟨(rot_perm (by omega) (by omega) (by omega) (by omega)).comp (PA.out.mono (Nat.le_refl _) (by omega)), Srt.join (p := fun k => p (rot s m e k)) PA.out (PermIn.id mid b) SA.out sB SP.out.2.2⟩
                  clear sB c5
                  go_wp2_with fail
                  go_end0
                  exact ⟨⟨_, rfl⟩, _, hfin.out.1, hfin.out.2, HD.out.1, HD.out.2⟩
              · have f1 : decide ((mid : Int) < (e : Int)) = false := by simp; omega
                have f1n : decide (mid < e) = false := by simp; omega
                have sB : Srt (fun x y => cf x y < 0) (fun k => p (rot s m e k)) mid b := by
                  by_cases c7 : e = mid
                  · rw [← c7]; exact SP.out.2.1.2.1
                  · have c8 : e = b := by omega
                    rw [← c8]; exact SP.out.2.1.1
                have hfin : Hid (PermIn a b (fun k => rot s m e (sa k)) ∧ Srt (fun x y => cf x y < 0) (fun k => p (rot s m e (sa k))) a b) := hid ⟨(rot_perm (by omega) (by omega) (by omega) (by omega)).comp (PA.out.mono (Nat.le_refl _) (by omega)), Srt.join (p := fun k => p (rot s m e k)) PA.out (PermIn.id mid b) SA.out sB SP.out.2.2⟩
                clear sB c5
                go_wp2_with fail
                go_end0
                exact ⟨⟨_, rfl⟩, _, hfin.out.1, hfin.out.2, HD.out.1, HD.out.2⟩
          · have e1 : decide ((a : Int) < (s : Int)) = false := by simp; omega
            have e1n : decide (a < s) = false := by simp; omega
            obtain ⟨sa, hsa⟩ : ∃ sa : Nat → Nat, Hid (sa = fun k => k) := ⟨_, hid rfl⟩
            have PA : Hid (PermIn a mid sa) := hid (by rw [hsa.out]; exact PermIn.id _ _)
            have SA : Hid (Srt (fun x y => cf x y < 0) (fun k => p (rot s m e (sa k))) a mid) := hid (by
              rw [hsa.out]
              by_cases c7 : s = a
              · have := SP.out.1.2.1; rwa [c7] at this ⊢
              · have c8 : s = mid := by omega
                have := SP.out.1.1; rw [c8] at this ⊢; exact this)
            have HD : Hid (Hd wt g o n cap A (fun k => p (rot s m e (sa k))) ∧ Kp [g] w wt) := hid (by rw [hsa.out]; exact HR.out)
            clear c3
            clear HR
            have hmx : Hid ((∀ k, mid ≤ k → p (rot s m e (sa k)) = p (rot s m e k))) := hid (fun k hk => by rw [PA.out.2.1 k (by omega)])
            by_cases c5 : mid < e
            · have f1 : decide ((mid : Int) < (e : Int)) = true := by simp; omega
              have f1n : decide (mid < e) = true := by simp; omega
              by_cases c6 : e < b
              · have f2 : decide ((e : Int) < (b : Int)) = true := by simp; omega
                have f2n : decide (e < b) = true := by simp; omega
                have cM := hid (HIH.out (fun k => p (rot s m e (sa k))) mid e b wt (by omega) HD.out.1 (HC.out.keep _ _ HI.out HD.out.2) (fun k hk => HPN.out _ (by
                  have r1 := (rot_perm (lo := 0) (hi := n) (Nat.zero_le s) (by omega) (by omega) (by omega) : PermIn 0 n (rot s m e))
                  have r2 := PA.out.mono (Nat.zero_le a) (show mid ≤ n by omega)
                  exact (r1.1 _ (Nat.zero_le _) (r2.1 k (Nat.zero_le _) hk).2).2)) c5 c6 (by omega) (fun i j g1 g2 g3 => by
                    show bef _ (p (rot s m e (sa i))) (p (rot s m e (sa j)))
                    rw [hmx.out i (by omega), hmx.out j (by omega)]; exact SP.out.2.1.1 i j g1 g2 g3) (fun i j g1 g2 g3 => by
                    show bef _ (p (rot s m e (sa i))) (p (rot s m e (sa j)))
                    rw [hmx.out i (by omega), hmx.out j (by omega)]; exact SP.out.2.1.2.1 i j g1 g2 g3) (fun i j g1 g2 g3 g4 => by
                    show p (rot s m e (sa i)) < p (rot s m e (sa j))
                    rw [hmx.out i (by omega), hmx.out j (by omega)]; exact SP.out.2.1.2.2 i j g1 g2 g3 g4))
                have KX := hid HD.out.2
                clear c5 c6
                go_wp2_with fail
                refine cM.out.mono ?_
                rintro e' wz ⟨⟨v, rfl⟩, t, pt, st, ht', kt⟩
                have hfin : Hid (PermIn a b (fun k => rot s m e (sa (t k))) ∧ Srt (fun x y => cf x y < 0) (fun k => p (rot s m e (sa (t k)))) a b ∧ Hd wz g o n cap A (fun k => p (rot s m e (sa (t k)))) ∧ Kp [g] w wz) := hid ⟨(rot_perm (by omega) (by omega) (by omega) (by omega)).comp ((PA.out.mono (Nat.le_refl _) (by omega)).comp (pt.mono (by omega) (Nat.le_refl _))), Srt.join (p := fun k => p (rot s m e k)) PA.out pt SA.out (fun i j g1 g2 g3 => by
                  have h5 := st i j g1 g2 g3
                  have h6 := pt.1 i g1 (by omega)
                  have h7 := pt.1 j (by omega) g3
                  simp only [hmx.out _ h6.1, hmx.out _ h7.1] at h5
                  exact h5) SP.out.2.2, ht', KX.out.trans kt (by simp)⟩
                clear pt st ht' kt KX
                go_wp2_with fail
                go_end0
                exact ⟨⟨_, rfl⟩, _, hfin.out.1, hfin.out.2.1, hfin.out.2.2.1, hfin.out.2.2.2⟩
              · have f2 : decide ((e : Int) < (b : Int)) = false := by simp; omega
                have f2n : decide (e < b) = false := by simp; omega
                have sB : Srt (fun x y => cf x y < 0) (fun k => p (rot s m e k)) mid b := by
                  by_cases c7 : e = mid
                  · rw [← c7]; exact SP.out.2.1.2.1
                  · have c8 : e = b := by omega
                    rw [← c8]; exact SP.out.2.1.1
                have hfin : Hid (PermIn a b (fun k => rot s m e (sa k)) ∧ Srt (fun x y => cf x y < 0) (fun k => p (rot s m e (sa k))) a b) := hid ⟨(rot_perm (by omega) (by omega) (by omega) (by omega)).comp (PA.out.mono (Nat.le_refl _) (by omega)), Srt.join (p := fun k => p (rot s m e k)) PA.out (PermIn.id mid b) SA.out sB SP.out.2.2⟩
                clear sB c5
                go_wp2_with fail
                go_end0
                exact ⟨⟨_, rfl⟩, _, hfin.out.1, hfin.out.2, HD.out.1, HD.out.2⟩
            · have f1 : decide ((mid : Int) < (e : Int)) = false := by simp; omega
              have f1n : decide (mid < e) = false := by simp; omega
              have sB : Srt (fun x y => cf x y < 0) (fun k => p (rot s m e k)) mid b := by
                by_cases c7 : e = mid
                · rw [← c7]; exact SP.out.2.1.2.1
                · have c8 : e = b := by omega
                  rw [← c8]; exact SP.out.2.1.1
              have hfin : Hid (PermIn a b (fun k => rot s m e (sa k)) ∧ Srt (fun x y => cf x y < 0) (fun k => p (rot s m e (sa k))) a b) := hid ⟨(rot_perm (by omega) (by omega) (by omega) (by omega)).comp (PA.out.mono (Nat.le_refl _) (by omega)), Srt.join (p := fun k => p (rot s m e k)) PA.out (PermIn.id mid b) SA.out sB SP.out.2.2⟩
              clear sB c5
              go_wp2_with fail
              go_end0
              exact ⟨⟨_, rfl⟩, _, hfin.out.1, hfin.out.2, HD.out.1, HD.out.2⟩
        · have d2 : decide ((m : Int) < (e : Int)) = false := by simp; omega
          have d2n : decide (m < e) = false := by simp; omega
          have hee : e = m := by omega
          have HR : Hid (Hd wr g o n cap A (fun k => p (rot s m e k)) ∧ Kp [g] w wr) := hid (by rw [hee, rot_right s m (by omega)]; exact hw.out)
          clear hw c1 c2 hee
          by_cases c3 : a < s
          · have e1 : decide ((a : Int) < (s : Int)) = true := by simp; omega
            have e1n : decide (a < s) = true := by simp; omega
            by_cases c4 : s < mid
            · have e2 : decide ((s : Int) < (mid : Int)) = true := by simp; omega
              have e2n : decide (s < mid) = true := by simp; omega
              have cM1 := hid (HIH.out (fun k => p (rot s m e k)) a s mid wr (by omega) HR.out.1 (HC.out.keep _ _ HI.out HR.out.2) (fun k hk => HPN.out _ (((rot_perm (Nat.zero_le s) (by omega) (by omega) (by omega) : PermIn 0 n (rot s m e))).1 k (Nat.zero_le _) hk).2) c3 c4 (by omega) SP.out.1.1 SP.out.1.2.1 SP.out.1.2.2)
              clear c3 c4
              go_wp2_with fail
              refine cM1.out.mono ?_
              rintro e' wm ⟨⟨v, rfl⟩, sa, pa, sa', ha', ka⟩
              have PA := hid pa
              have SA := hid sa'
              have HD := hid (And.intro ha' (HR.out.2.trans ka (by simp)))
              clear pa sa' ha' ka cM1 HR
              have hmx : Hid ((∀ k, mid ≤ k → p (rot s m e (sa k)) = p (rot s m e k))) := hid (fun k hk => by rw [PA.out.2.1 k (by omega)])
              by_cases c5 : mid < e
              · have f1 : decide ((mid : Int) < (e : Int)) = true := by simp; omega
                have f1n : decide (mid < e) = true := by simp; omega
                by_cases c6 : e < b
                · have f2 : decide ((e : Int) < (b : Int)) = true := by simp; omega
                  have f2n : decide (e < b) = true := by simp; omega
                  have cM := hid (HIH.out (fun k => p (rot s m e (sa k))) mid e b wm (by omega) HD.out.1 (HC.out.keep _ _ HI.out HD.out.2) (fun k hk => HPN.out _ (by
                    have r1 := (rot_perm (lo := 0) (hi := n) (Nat.zero_le s) (by omega) (by omega) (by omega) : PermIn 0 n (rot s m e))
                    have r2 := PA.out.mono (Nat.zero_le a) (show mid ≤ n by omega)
                    exact (r1.1 _ (Nat.zero_le _) (r2.1 k (Nat.zero_le _) hk).2).2)) c5 c6 (by omega) (fun i j g1 g2 g3 => by
                      show bef _ (p (rot s m e (sa i))) (p (rot s m e (sa j)))
                      rw [hmx.out i (by omega), hmx.out j (by omega)]; exact SP.out.2.1.1 i j g1 g2 g3) (fun i j g1 g2 g3 => by
                      show bef _ (p (rot s m e (sa i))) (p (rot s m e (sa j)))
                      rw [hmx.out i (by omega), hmx.out j (by omega)]; exact SP.out.2.1.2.1 i j g1 g2 g3) (fun i j g1 g2 g3 g4 => by
                      show p (rot s m e (sa i)) < p (rot s m e (sa j))
                      rw [hmx.out i (by omega), hmx.out j (by omega)]; exact SP.out.2.1.2.2 i j g1 g2 g3 g4))
                  have KX := hid HD.out.2
                  clear c5 c6
                  go_wp2_with fail
                  refine cM.out.mono ?_
                  rintro e' wz ⟨⟨v, rfl⟩, t, pt, st, ht', kt⟩
                  have hfin : Hid (PermIn a b (fun k => rot s m e (sa (t k))) ∧ Srt (fun x y => cf x y < 0) (fun k => p (rot s m e (sa (t k)))) a b ∧ Hd wz g o n cap A (fun k => p (rot s m e (sa (t k)))) ∧ Kp [g] w wz) := hid ⟨(rot_perm (by omega) (by omega) (by omega) (by omega)).comp ((PA.out.mono (Nat.le_refl _) (by omega)).comp (pt.mono (by omega) (Nat.le_refl _))), Srt.join (p := fun k => p (rot s m e k)) PA.out pt SA.out (fun i j g1 g2 g3 => by
                    have h5 := st i j g1 g2 g3
                    have h6 := pt.1 i g1 (by omega)
                    have h7 := pt.1 j (by omega) g3
                    simp only [hmx.out _ h6.1, hmx.out _ h7.1] at h5
                    exact h5) SP.out.2.2, ht', KX.out.trans kt (by simp)⟩
                  clear pt st ht' kt KX
                  go_wp2_with fail
                  go_end0
                  exact ⟨⟨_, rfl⟩, _, hfin.out.1, hfin.out.2.1, hfin.out.2.2.1, hfin.out.2.2.2⟩
                · have f2 : decide ((e : Int) < (b : Int)) = false := by simp; omega
                  have f2n : decide (e < b) = false := by simp; omega
                  have sB : Srt (fun x y => cf x y < 0) (fun k => p (rot s m e k)) mid b := by
                    by_cases c7 : e = mid
                    · rw [← c7]; exact SP.out.2.1.2.1
                    · have c8 : e = b := by omega
                      rw [← c8]; exact SP.out.2.1.1
                  have hfin : Hid (PermIn a b (fun k => rot s m e (sa k)) ∧ Srt (fun x y => cf x y < 0) (fun k => p (rot s m e (sa k))) a b) := hid ⟨(rot_perm (by omega) (by omega) (by omega) (by omega)).comp (PA.out.mono (Nat.le_refl _) (by omega)), Srt.join (p := fun k => p (rot s m e k)) PA.out (PermIn.id mid b) SA.out sB SP.out.2.2⟩
                  clear sB c5
                  go_wp2_with fail
                  go_end0
                  exact ⟨⟨_, rfl⟩, _, hfin.out.1, hfin.out.2, HD.out.1, HD.out.2⟩
              · have f1 : decide ((mid : Int) < (e : Int)) = false := by simp; omega
                have f1n : decide (mid < e) = false := by simp; omega
                have sB : Srt (fun x y => cf x y < 0) (fun k => p (rot s m e k)) mid b := by
                  by_cases c7 : e = mid
                  · rw [← c7]; exact SP.out.2.1.2.1
                  · have c8 : e = b := by omega
                    rw [← c8]; exact SP.out.2.1.1
                have hfin : Hid (PermIn a b (fun k => rot s m e (sa k)) ∧ Srt (fun x y => cf x y < 0) (fun k => p (rot s m e (sa k))) a b) := hid ⟨(rot_perm (by omega) (by omega) (by omega) (by omega)).comp (PA.out.mono (Nat.le_refl _) (by omega)), Srt.join (p := fun k => p (rot s m e k)) PA.out (PermIn.id mid b) SA.out sB SP.out.2.2⟩
                clear sB c5
                go_wp2_with fail
                go_end0
                exact ⟨⟨_, rfl⟩, _, hfin.out.1, hfin.out.2, HD.out.1, HD.out.2⟩
            · have e2 : decide ((s : Int) < (mid : Int)) = false := by simp; omega
              have e2n : decide (s < mid) = false := by simp; omega
              obtain ⟨sa, hsa⟩ : ∃ sa : Nat → Nat, Hid (sa = fun k => k) := ⟨_, hid rfl⟩
              have PA : Hid (PermIn a mid sa) := hid (by rw [hsa.out]; exact PermIn.id _ _)
              have SA : Hid (Srt (fun x y => cf x y < 0) (fun k => p (rot s m e (sa k))) a mid) := hid (by
                rw [hsa.out]
                by_cases c7 : s = a
                · have := SP.out.1.2.1; rwa [c7] at this ⊢
                · have c8 : s = mid := by omega
                  have := SP.out.1.1; rw [c8] at this ⊢; exact this)
              have HD : Hid (Hd wr g o n cap A (fun k => p (rot s m e (sa k))) ∧ Kp [g] w wr) := hid (by rw [hsa.out]; exact HR.out)
              clear c3
              clear c4 HR
              have hmx : Hid ((∀ k, mid ≤ k → p (rot s m e (sa k)) = p (rot s m e k))) := hid (fun k hk => by rw [PA.out.2.1 k (by omega)])
              by_cases c5 : mid < e
              · have f1 : decide ((mid : Int) < (e : Int)) = true := by simp; omega
                have f1n : decide (mid < e) = true := by simp; omega
                by_cases c6 : e < b
                · have f2 : decide ((e : Int) < (b : Int)) = true := by simp; omega
                  have f2n : decide (e < b) = true := by simp; omega
                  have cM := hid (HIH.out (fun k => p (rot s m e (sa k))) mid e b wr (by omega) HD.out.1 (HC.out.keep _ _ HI.out HD.out.2) (fun k hk => HPN.out _ (by
                    have r1 := (rot_perm (lo := 0) (hi := n) (Nat.zero_le s) (by omega) (by omega) (by omega) : PermIn 0 n (rot s m e))
                    have r2 := PA.out.mono (Nat.zero_le a) (show mid ≤ n by omega)
                    exact (r1.1 _ (Nat.zero_le _) (r2.1 k (Nat.zero_le _) hk).2).2)) c5 c6 (by omega) (fun i j g1 g2 g3 => by
                      show bef _ (p (rot s m e (sa i))) (p (rot s m e (sa j)))
                      rw [hmx.out i (by omega), hmx.out j (by omega)]; exact SP.out.2.1.1 i j g1 g2 g3) (fun i j g1 g2 g3 => by
                      show bef _ (p (rot s m e (sa i))) (p (rot s m e (sa j)))
                      rw [hmx.out i (by omega), hmx.out j (by omega)]; exact SP.out.2.1.2.1 i j g1 g2 g3) (fun i j g1 g2 g3 g4 => by
                      show p (rot s m e (sa i)) < p (rot s m e (sa j))
                      rw [hmx.out i (by omega), hmx.out j (by omega)]; exact SP.out.2.1.2.2 i j g1 g2 g3 g4))
                  have KX := hid HD.out.2
                  clear c5 c6
                  go_wp2_with fail
                  refine cM.out.mono ?_
                  rintro e' wz ⟨⟨v, rfl⟩, t, pt, st, ht', kt⟩
                  have hfin : Hid (PermIn a b (fun k => rot s m e (sa (t k))) ∧ Srt (fun x y => cf x y < 0) (fun k => p (rot s m e (sa (t k)))) a b ∧ Hd wz g o n cap A (fun k => p (rot s m e (sa (t k)))) ∧ Kp [g] w wz) := hid ⟨(rot_perm (by omega) (by omega) (by omega) (by omega)).comp ((PA.out.mono (Nat.le_refl _) (by omega)).comp (pt.mono (by omega) (Nat.le_refl _))), Srt.join (p := fun k => p (rot s m e k)) PA.out pt SA.out (fun i j g1 g2 g3 => by
                    have h5 := st i j g1 g2 g3
                    have h6 := pt.1 i g1 (by omega)
                    have h7 := pt.1 j (by omega) g3
                    simp only [hmx.out _ h6.1, hmx.out _ h7.1] at h5
                    exact h5) SP.out.2.2, ht', KX.out.trans kt (by simp)⟩
                  clear pt st ht' kt KX
                  go_wp2_with fail
                  go_end0
                  exact ⟨⟨_, rfl⟩, _, hfin.out.1, hfin.out.2.1, hfin.out.2.2.1, hfin.out.2.2.2⟩
                · have f2 : decide ((e : Int) < (b : Int)) = false := by simp; omega
                  have f2n : decide (e < b) = false := by simp; omega
                  have sB : Srt (fun x y => cf x y < 0) (fun k => p (rot s m e k)) mid b := by
                    by_cases c7 : e = mid
                    · rw [← c7]; exact SP.out.2.1.2.1
                    · have c8 : e = b := by omega
                      rw [← c8]; exact SP.out.2.1.1
                  have hfin : Hid (PermIn a b (fun k => rot s m e (sa k)) ∧ Srt (fun x y => cf x y < 0) (fun k => p (rot s m e (sa k))) a b) := hid ⟨(rot_perm (by omega) (by omega) (by omega) (by omega)).comp (PA.out.mono (Nat.le_refl _) (by omega)), Srt.join (p := fun k => p (rot s m e k)) PA.out (PermIn.id mid b) SA.out sB SP.out.2.2⟩
                  clear sB c5
                  go_wp2_with fail
                  go_end0
                  exact ⟨⟨_, rfl⟩, _, hfin.out.1, hfin.out.2, HD.out.1, HD.out.2⟩
              · have f1 : decide ((mid : Int) < (e : Int)) = false := by simp; omega
                have f1n : decide (mid < e) = false := by simp; omega
                have sB : Srt (fun x y => cf x y < 0) (fun k => p (rot s m e k)) mid b := by
                  by_cases c7 : e = mid
                  · rw [← c7]; exact SP.out.2.1.2.1
                  · have c8 : e = b := by omega
                    rw [← c8]; exact SP.out.2.1.1
                have hfin : Hid (PermIn a b (fun k => rot s m e (sa k)) ∧ Srt (fun x y => cf x y < 0) (fun k => p (rot s m e (sa k))) a b) := hid ⟨(rot_perm (by omega) (by omega) (by omega) (by omega)).comp (PA.out.mono (Nat.le_refl _) (by omega)), Srt.join (p := fun k => p (rot s m e k)) PA.out (PermIn.id mid b) SA.out sB SP.out.2.2⟩
                clear sB c5
                go_wp2_with fail
                go_end0
                exact ⟨⟨_, rfl⟩, _, hfin.out.1, hfin.out.2, HD.out.1, HD.out.2⟩
          · have e1 : decide ((a : Int) < (s : Int)) = false := by simp; omega
            have e1n : decide (a < s) = false := by simp; omega
            obtain ⟨sa, hsa⟩ : ∃ sa : Nat → Nat, Hid (sa = fun k => k) := ⟨_, hid rfl⟩
            have PA : Hid (PermIn a mid sa) := hid (by rw [hsa.out]; exact PermIn.id _ _)
            have SA : Hid (Srt (fun x y => cf x y < 0) (fun k => p (rot s m e (sa k))) a mid) := hid (by
              rw [hsa.out]
              by_cases c7 : s = a
              · have := SP.out.1.2.1; rwa [c7] at this ⊢
              · have c8 : s = mid := by omega
                have := SP.out.1.1; rw [c8] at this ⊢; exact this)
            have HD : Hid (Hd wr g o n cap A (fun k => p (rot s m e (sa k))) ∧ Kp [g] w wr) := hid (by rw [hsa.out]; exact HR.out)
            clear c3
            clear HR
            have hmx : Hid ((∀ k, mid ≤ k → p (rot s m e (sa k)) = p (rot s m e k))) := hid (fun k hk => by rw [PA.out.2.1 k (by omega)])
            by_cases c5 : mid < e
            · have f1 : decide ((mid : Int) < (e : Int)) = true := by simp; omega
              have f1n : decide (mid < e) = true := by simp; omega
              by_cases c6 : e < b
              · have f2 : decide ((e : Int) < (b : Int)) = true := by simp; omega
                have f2n : decide (e < b) = true := by simp; omega
                have cM := hid (HIH.out (fun k => p (rot s m e (sa k))) mid e b wr (by omega) HD.out.1 (HC.out.keep _ _ HI.out HD.out.2) (fun k hk => HPN.out _ (by
                  have r1 := (rot_perm (lo := 0) (hi := n) (Nat.zero_le s) (by omega) (by omega) (by omega) : PermIn 0 n (rot s m e))
                  have r2 := PA.out.mono (Nat.zero_le a) (show mid ≤ n by omega)
                  exact (r1.1 _ (Nat.zero_le _) (r2.1 k (Nat.zero_le _) hk).2).2)) c5 c6 (by omega) (fun i j g1 g2 g3 => by
                    show bef _ (p (rot s m e (sa i))) (p (rot s m e (sa j)))
                    rw [hmx.out i (by omega), hmx.out j (by omega)]; exact SP.out.2.1.1 i j g1 g2 g3) (fun i j g1 g2 g3 => by
                    show bef _ (p (rot s m e (sa i))) (p (rot s m e (sa j)))
                    rw [hmx.out i (by omega), hmx.out j (by omega)]; exact SP.out.2.1.2.1 i j g1 g2 g3) (fun i j g1 g2 g3 g4 => by
                    show p (rot s m e (sa i)) < p (rot s m e (sa j))
                    rw [hmx.out i (by omega), hmx.out j (by omega)]; exact SP.out.2.1.2.2 i j g1 g2 g3 g4))
                have KX := hid HD.out.2
                clear c5 c6
                go_wp2_with fail
                refine cM.out.mono ?_
                rintro e' wz ⟨⟨v, rfl⟩, t, pt, st, ht', kt⟩
                have hfin : Hid (PermIn a b (fun k => rot s m e (sa (t k))) ∧ Srt (fun x y => cf x y < 0) (fun k => p (rot s m e (sa (t k)))) a b ∧ Hd wz g o n cap A (fun k => p (rot s m e (sa (t k)))) ∧ Kp [g] w wz) := hid ⟨(rot_perm (by omega) (by omega) (by omega) (by omega)).comp ((PA.out.mono (Nat.le_refl _) (by omega)).comp (pt.mono (by omega) (Nat.le_refl _))), Srt.join (p := fun k => p (rot s m e k)) PA.out pt SA.out (fun i j g1 g2 g3 => by
                  have h5 := st i j g1 g2 g3
                  have h6 := pt.1 i g1 (by omega)
                  have h7 := pt.1 j (by omega) g3
                  simp only [hmx.out _ h6.1, hmx.out _ h7.1] at h5
                  exact h5) SP.out.2.2, ht', KX.out.trans kt (by simp)⟩
                clear pt st ht' kt KX
                go_wp2_with fail
                go_end0
                exact ⟨⟨_, rfl⟩, _, hfin.out.1, hfin.out.2.1, hfin.out.2.2.1, hfin.out.2.2.2⟩
              · have f2 : decide ((e : Int) < (b : Int)) = false := by simp; omega
                have f2n : decide (e < b) = false := by simp; omega
                have sB : Srt (fun x y => cf x y < 0) (fun k => p (rot s m e k)) mid b := by
                  by_cases c7 : e = mid
                  · rw [← c7]; exact SP.out.2.1.2.1
                  · have c8 : e = b := by omega
                    rw [← c8]; exact SP.out.2.1.1
                have hfin : Hid (PermIn a b (fun k => rot s m e (sa k)) ∧ Srt (fun x y => cf x y < 0) (fun k => p (rot s m e (sa k))) a b) := hid ⟨(rot_perm (by omega) (by omega) (by omega) (by omega)).comp (PA.out.mono (Nat.le_refl _) (by omega)), Srt.join (p := fun k => p (rot s m e k)) PA.out (PermIn.id mid b) SA.out sB SP.out.2.2⟩
                clear sB c5
                go_wp2_with fail
                go_end0
                exact ⟨⟨_, rfl⟩, _, hfin.out.1, hfin.out.2, HD.out.1, HD.out.2⟩
            · have f1 : decide ((mid : Int) < (e : Int)) = false := by simp; omega
              have f1n : decide (mid < e) = false := by simp; omega
              have sB : Srt (fun x y => cf x y < 0) (fun k => p (rot s m e k)) mid b := by
                by_cases c7 : e = mid
                · rw [← c7]; exact SP.out.2.1.2.1
                · have c8 : e = b := by omega
                  rw [← c8]; exact SP.out.2.1.1
              have hfin : Hid (PermIn a b (fun k => rot s m e (sa k)) ∧ Srt (fun x y => cf x y < 0) (fun k => p (rot s m e (sa k))) a b) := hid ⟨(rot_perm (by omega) (by omega) (by omega) (by omega)).comp (PA.out.mono (Nat.le_refl _) (by omega)), Srt.join (p := fun k => p (rot s m e k)) PA.out (PermIn.id mid b) SA.out sB SP.out.2.2⟩
              clear sB c5
              go_wp2_with fail
              go_end0
              exact ⟨⟨_, rfl⟩, _, hfin.out.1, hfin.out.2, HD.out.1, HD.out.2⟩
      · have d1 : decide ((s : Int) < (m : Int)) = false := by simp; omega
        have d1n : decide (s < m) = false := by simp; omega
        have hee : s = m := by omega
        have HR : Hid (Hd wr g o n cap A (fun k => p (rot s m e k)) ∧ Kp [g] w wr) := hid (by rw [hee, rot_left]; exact hw.out)
        clear hw c1 hee
        by_cases c3 : a < s
        · have e1 : decide ((a : Int) < (s : Int)) = true := by simp; omega
          have e1n : decide (a < s) = true := by simp; omega
          by_cases c4 : s < mid
          · have e2 : decide ((s : Int) < (mid : Int)) = true := by simp; omega
            have e2n : decide (s < mid) = true := by simp; omega
            have cM1 := hid (HIH.out (fun k => p (rot s m e k)) a s mid wr (by omega) HR.out.1 (HC.out.keep _ _ HI.out HR.out.2) (fun k hk => HPN.out _ (((rot_perm (Nat.zero_le s) (by omega) (by omega) (by omega) : PermIn 0 n (rot s m e))).1 k (Nat.zero_le _) hk).2) c3 c4 (by omega) SP.out.1.1 SP.out.1.2.1 SP.out.1.2.2)
            clear c3 c4
            go_wp2_with fail
            refine cM1.out.mono ?_
            rintro e' wm ⟨⟨v, rfl⟩, sa, pa, sa', ha', ka⟩
            have PA := hid pa
            have SA := hid sa'
            have HD := hid (And.intro ha' (HR.out.2.trans ka (by simp)))
            clear pa sa' ha' ka cM1 HR
            have hmx : Hid ((∀ k, mid ≤ k → p (rot s m e (sa k)) = p (rot s m e k))) := hid (fun k hk => by rw [PA.out.2.1 k (by omega)])
            by_cases c5 : mid < e
            · have f1 : decide ((mid : Int) < (e : Int)) = true := by simp; omega
              have f1n : decide (mid < e) = true := by simp; omega
              by_cases c6 : e < b
              · have f2 : decide ((e : Int) < (b : Int)) = true := by simp; omega
                have f2n : decide (e < b) = true := by simp; omega
                have cM := hid (HIH.out (fun k => p (rot s m e (sa k))) mid e b wm (by omega) HD.out.1 (HC.out.keep _ _ HI.out HD.out.2) (fun k hk => HPN.out _ (by
                  have r1 := (rot_perm (lo := 0) (hi := n) (Nat.zero_le s) (by omega) (by omega) (by omega) : PermIn 0 n (rot s m e))
                  have r2 := PA.out.mono (Nat.zero_le a) (show mid ≤ n by omega)
                  exact (r1.1 _ (Nat.zero_le _) (r2.1 k (Nat.zero_le _) hk).2).2)) c5 c6 (by omega) (fun i j g1 g2 g3 => by
                    show bef _ (p (rot s m e (sa i))) (p (rot s m e (sa j)))
                    rw [hmx.out i (by omega), hmx.out j (by omega)]; exact SP.out.2.1.1 i j g1 g2 g3) (fun i j g1 g2 g3 => by
                    show bef _ (p (rot s m e (sa i))) (p (rot s m e (sa j)))
                    rw [hmx.out i (by omega), hmx.out j (by omega)]; exact SP.out.2.1.2.1 i j g1 g2 g3) (fun i j g1 g2 g3 g4 => by
                    show p (rot s m e (sa i)) < p (rot s m e (sa j))
                    rw [hmx.out i (by omega), hmx.out j (by omega)]; exact SP.out.2.1.2.2 i j g1 g2 g3 g4))
                have KX := hid HD.out.2
                clear c5 c6
                go_wp2_with fail
                refine cM.out.mono ?_
                rintro e' wz ⟨⟨v, rfl⟩, t, pt, st, ht', kt⟩
                have hfin : Hid (PermIn a b (fun k => rot s m e (sa (t k))) ∧ Srt (fun x y => cf x y < 0) (fun k => p (rot s m e (sa (t k)))) a b ∧ Hd wz g o n cap A (fun k => p (rot s m e (sa (t k)))) ∧ Kp [g] w wz) := hid ⟨(rot_perm (by omega) (by omega) (by omega) (by omega)).comp ((PA.out.mono (Nat.le_refl _) (by omega)).comp (pt.mono (by omega) (Nat.le_refl _))), Srt.join (p := fun k => p (rot s m e k)) PA.out pt SA.out (fun i j g1 g2 g3 => by
                  have h5 := st i j g1 g2 g3
                  have h6 := pt.1 i g1 (by omega)
                  have h7 := pt.1 j (by omega) g3
                  simp only [hmx.out _ h6.1, hmx.out _ h7.1] at h5
                  exact h5) SP.out.2.2, ht', KX.out.trans kt (by simp)⟩
                clear pt st ht' kt KX
                go_wp2_with fail
                go_end0
                exact ⟨⟨_, rfl⟩, _, hfin.out.1, hfin.out.2.1, hfin.out.2.2.1, hfin.out.2.2.2⟩
              · have f2 : decide ((e : Int) < (b : Int)) = false := by simp; omega
                have f2n : decide (e < b) = false := by simp; omega
                have sB : Srt (fun x y => cf x y < 0) (fun k => p (rot s m e k)) mid b := by
                  by_cases c7 : e = mid
                  · rw [← c7]; exact SP.out.2.1.2.1
                  · have c8 : e = b := by omega
                    rw [← c8]; exact SP.out.2.1.1
                have hfin : Hid (PermIn a b (fun k => rot s m e (sa k)) ∧ Srt (fun x y => cf x y < 0) (fun k => p (rot s m e (sa k))) a b) := hid ⟨(rot_perm (by omega) (by omega) (by omega) (by omega)).comp (PA.out.mono (Nat.le_refl _) (by omega)), Srt.join (p := fun k => p (rot s m e k)) PA.out (PermIn.id mid b) SA.out sB SP.out.2.2⟩
                clear sB c5
                go_wp2_with fail
                go_end0
                exact ⟨⟨_, rfl⟩, _, hfin.out.1, hfin.out.2, HD.out.1, HD.out.2⟩
            · have f1 : decide ((mid : Int) < (e : Int)) = false := by simp; omega
              have f1n : decide (mid < e) = false := by simp; omega
              have sB : Srt (fun x y => cf x y < 0) (fun k => p (rot s m e k)) mid b := by
                by_cases c7 : e = mid
                · rw [← c7]; exact SP.out.2.1.2.1
                · have c8 : e = b := by omega
                  rw [← c8]; exact SP.out.2.1.1
              have hfin : Hid (PermIn a b (fun k => rot s m e (sa k)) ∧ Srt (fun x y => cf x y < 0) (fun k => p (rot s m e (sa k))) a b) := hid ⟨(rot_perm (by omega) (by omega) (by omega) (by omega)).comp (PA.out.mono (Nat.le_refl _) (by omega)), Srt.join (p := fun k => p (rot s m e k)) PA.out (PermIn.id mid b) SA.out sB SP.out.2.2⟩
              clear sB c5
              go_wp2_with fail
              go_end0
              exact ⟨⟨_, rfl⟩, _, hfin.out.1, hfin.out.2, HD.out.1, HD.out.2⟩
          · have e2 : decide ((s : Int) < (mid : Int)) = false := by simp; omega
            have e2n : decide (s < mid) = false := by simp; omega
            obtain ⟨sa, hsa⟩ : ∃ sa : Nat → Nat, Hid (sa = fun k => k) := ⟨_, hid rfl⟩
            have PA : Hid (PermIn a mid sa) := hid (by rw [hsa.out]; exact PermIn.id _ _)
            have SA : Hid (Srt (fun x y => cf x y < 0) (fun k => p (rot s m e (sa k))) a mid) := hid (by
              rw [hsa.out]
              by_cases c7 : s = a
              · have := SP.out.1.2.1; rwa [c7] at this ⊢
              · have c8 : s = mid := by omega
                have := SP.out.1.1; rw [c8] at this ⊢; exact this)
            have HD : Hid (Hd wr g o n cap A (fun k => p (rot s m e (sa k))) ∧ Kp [g] w wr) := hid (by rw [hsa.out]; exact HR.out)
            clear c3
            clear c4 HR
            have hmx : Hid ((∀ k, mid ≤ k → p (rot s m e (sa k)) = p (rot s m e k))) := hid (fun k hk => by rw [PA.out.2.1 k (by omega)])
            by_cases c5 : mid < e
            · have f1 : decide ((mid : Int) < (e : Int)) = true := by simp; omega
              have f1n : decide (mid < e) = true := by simp; omega
              by_cases c6 : e < b
              · have f2 : decide ((e : Int) < (b : Int)) = true := by simp; omega
                have f2n : decide (e < b) = true := by simp; omega
                have cM := hid (HIH.out (fun k => p (rot s m e (sa k))) mid e b wr (by omega) HD.out.1 (HC.out.keep _ _ HI.out HD.out.2) (fun k hk => HPN.out _ (by
                  have r1 := (rot_perm (lo := 0) (hi := n) (Nat.zero_le s) (by omega) (by omega) (by omega) : PermIn 0 n (rot s m e))
                  have r2 := PA.out.mono (Nat.zero_le a) (show mid ≤ n by omega)
                  exact (r1.1 _ (Nat.zero_le _) (r2.1 k (Nat.zero_le _) hk).2).2)) c5 c6 (by omega) (fun i j g1 g2 g3 => by
                    show bef _ (p (rot s m e (sa i))) (p (rot s m e (sa j)))
                    rw [hmx.out i (by omega), hmx.out j (by omega)]; exact SP.out.2.1.1 i j g1 g2 g3) (fun i j g1 g2 g3 => by
                    show bef _ (p (rot s m e (sa i))) (p (rot s m e (sa j)))
                    rw [hmx.out i (by omega), hmx.out j (by omega)]; exact SP.out.2.1.2.1 i j g1 g2 g3) (fun i j g1 g2 g3 g4 => by
                    show p (rot s m e (sa i)) < p (rot s m e (sa j))
                    rw [hmx.out i (by omega), hmx.out j (by omega)]; exact SP.out.2.1.2.2 i j g1 g2 g3 g4))
                have KX := hid HD.out.2
                clear c5 c6
                go_wp2_with fail
                refine cM.out.mono ?_
                rintro e' wz ⟨⟨v, rfl⟩, t, pt, st, ht', kt⟩
                have hfin : Hid (PermIn a b (fun k => rot s m e (sa (t k))) ∧ Srt (fun x y => cf x y < 0) (fun k => p (rot s m e (sa (t k)))) a b ∧ Hd wz g o n cap A (fun k => p (rot s m e (sa (t k)))) ∧ Kp [g] w wz) := hid ⟨(rot_perm (by omega) (by omega) (by omega) (by omega)).comp ((PA.out.mono (Nat.le_refl _) (by omega)).comp (pt.mono (by omega) (Nat.le_refl _))), Srt.join (p := fun k => p (rot s m e k)) PA.out pt SA.out (fun i j g1 g2 g3 => by
                  have h5 := st i j g1 g2 g3
                  have h6 := pt.1 i g1 (by omega)
                  have h7 := pt.1 j (by omega) g3
                  simp only [hmx.out _ h6.1, hmx.out _ h7.1] at h5
                  exact h5) SP.out.2.2, ht', KX.out.trans kt (by simp)⟩
                clear pt st ht' kt KX
                go_wp2_with fail
                go_end0
                exact ⟨⟨_, rfl⟩, _, hfin.out.1, hfin.out.2.1, hfin.out.2.2.1, hfin.out.2.2.2⟩
              · have f2 : decide ((e : Int) < (b : Int)) = false := by simp; omega
                have f2n : decide (e < b) = false := by simp; omega
                have sB : Srt (fun x y => cf x y < 0) (fun k => p (rot s m e k)) mid b := by
                  by_cases c7 : e = mid
                  · rw [← c7]; exact SP.out.2.1.2.1
                  · have c8 : e = b := by omega
                    rw [← c8]; exact SP.out.2.1.1
                have hfin : Hid (PermIn a b (fun k => rot s m e (sa k)) ∧ Srt (fun x y => cf x y < 0) (fun k => p (rot s m e (sa k))) a b) := hid ⟨(rot_perm (by omega) (by omega) (by omega) (by omega)).comp (PA.out.mono (Nat.le_refl _) (by omega)), Srt.join (p := fun k => p (rot s m e k)) PA.out (PermIn.id mid b) SA.out sB SP.out.2.2⟩
                clear sB c5
                go_wp2_with fail
                go_end0
                exact ⟨⟨_, rfl⟩, _, hfin.out.1, hfin.out.2, HD.out.1, HD.out.2⟩
            · have f1 : decide ((mid : Int) < (e : Int)) = false := by simp; omega
              have f1n : decide (mid < e) = false := by simp; omega
              have sB : Srt (fun x y => cf x y < 0) (fun k => p (rot s m e k)) mid b := by
                by_cases c7 : e = mid
                · rw [← c7]; exact SP.out.2.1.2.1
                · have c8 : e = b := by omega
                  rw [← c8]; exact SP.out.2.1.1
              have hfin : Hid (PermIn a b (fun k => rot s m e (sa k)) ∧ Srt (fun x y => cf x y < 0) (fun k => p (rot s m e (sa k))) a b) := hid ⟨(rot_perm (by omega) (by omega) (by omega) (by omega)).comp (PA.out.mono (Nat.le_refl _) (by omega)), Srt.join (p := fun k => p (rot s m e k)) PA.out (PermIn.id mid b) SA.out sB SP.out.2.2⟩
              clear sB c5
              go_wp2_with fail
              go_end0
              exact ⟨⟨_, rfl⟩, _, hfin.out.1, hfin.out.2, HD.out.1, HD.out.2⟩
        · have e1 : decide ((a : Int) < (s : Int)) = false := by simp; omega
          have e1n : decide (a < s) = false := by simp; omega
          obtain ⟨sa, hsa⟩ : ∃ sa : Nat → Nat, Hid (sa = fun k => k) := ⟨_, hid rfl⟩
          have PA : Hid (PermIn a mid sa) := hid (by rw [hsa.out]; exact PermIn.id _ _)
          have SA : Hid (Srt (fun x y => cf x y < 0) (fun k => p (rot s m e (sa k))) a mid) := hid (by
            rw [hsa.out]
            by_cases c7 : s = a
            · have := SP.out.1.2.1; rwa [c7] at this ⊢
            · have c8 : s = mid := by omega
              have := SP.out.1.1; rw [c8] at this ⊢; exact this)
          have HD : Hid (Hd wr g o n cap A (fun k => p (rot s m e (sa k))) ∧ Kp [g] w wr) := hid (by rw [hsa.out]; exact HR.out)
          clear c3
          clear HR
          have hmx : Hid ((∀ k, mid ≤ k → p (rot s m e (sa k)) = p (rot s m e k))) := hid (fun k hk => by rw [PA.out.2.1 k (by omega)])
          by_cases c5 : mid < e
          · have f1 : decide ((mid : Int) < (e : Int)) = true := by simp; omega
            have f1n : decide (mid < e) = true := by simp; omega
            by_cases c6 : e < b
            · have f2 : decide ((e : Int) < (b : Int)) = true := by simp; omega
              have f2n : decide (e < b) = true := by simp; omega
              have cM := hid (HIH.out (fun k => p (rot s m e (sa k))) mid e b wr (by omega) HD.out.1 (HC.out.keep _ _ HI.out HD.out.2) (fun k hk => HPN.out _ (by
                have r1 := (rot_perm (lo := 0) (hi := n) (Nat.zero_le s) (by omega) (by omega) (by omega) : PermIn 0 n (rot s m e))
                have r2 := PA.out.mono (Nat.zero_le a) (show mid ≤ n by omega)
                exact (r1.1 _ (Nat.zero_le _) (r2.1 k (Nat.zero_le _) hk).2).2)) c5 c6 (by omega) (fun i j g1 g2 g3 => by
                  show bef _ (p (rot s m e (sa i))) (p (rot s m e (sa j)))
                  rw [hmx.out i (by omega), hmx.out j (by omega)]; exact SP.out.2.1.1 i j g1 g2 g3) (fun i j g1 g2 g3 => by
                  show bef _ (p (rot s m e (sa i))) (p (rot s m e (sa j)))
                  rw [hmx.out i (by omega), hmx.out j (by omega)]; exact SP.out.2.1.2.1 i j g1 g2 g3) (fun i j g1 g2 g3 g4 => by
                  show p (rot s m e (sa i)) < p (rot s m e (sa j))
                  rw [hmx.out i (by omega), hmx.out j (by omega)]; exact SP.out.2.1.2.2 i j g1 g2 g3 g4))
              have KX := hid HD.out.2
              clear c5 c6
              go_wp2_with fail
              refine cM.out.mono ?_
              rintro e' wz ⟨⟨v, rfl⟩, t, pt, st, ht', kt⟩
              have hfin : Hid (PermIn a b (fun k => rot s m e (sa (t k))) ∧ Srt (fun x y => cf x y < 0) (fun k => p (rot s m e (sa (t k)))) a b ∧ Hd wz g o n cap A (fun k => p (rot s m e (sa (t k)))) ∧ Kp [g] w wz) := hid ⟨(rot_perm (by omega) (by omega) (by omega) (by omega)).comp ((PA.out.mono (Nat.le_refl _) (by omega)).comp (pt.mono (by omega) (Nat.le_refl _))), Srt.join (p := fun k => p (rot s m e k)) PA.out pt SA.out (fun i j g1 g2 g3 => by
                have h5 := st i j g1 g2 g3
                have h6 := pt.1 i g1 (by omega)
                have h7 := pt.1 j (by omega) g3
                simp only [hmx.out _ h6.1, hmx.out _ h7.1] at h5
                exact h5) SP.out.2.2, ht', KX.out.trans kt (by simp)⟩
              clear pt st ht' kt KX
              go_wp2_with fail
              go_end0
              exact ⟨⟨_, rfl⟩, _, hfin.out.1, hfin.out.2.1, hfin.out.2.2.1, hfin.out.2.2.2⟩
            · have f2 : decide ((e : Int) < (b : Int)) = false := by simp; omega
              have f2n : decide (e < b) = false := by simp; omega
              have sB : Srt (fun x y => cf x y < 0) (fun k => p (rot s m e k)) mid b := by
                by_cases c7 : e = mid
                · rw [← c7]; exact SP.out.2.1.2.1
                · have c8 : e = b := by omega
                  rw [← c8]; exact SP.out.2.1.1
              have hfin : Hid (PermIn a b (fun k => rot s m e (sa k)) ∧ Srt (fun x y => cf x y < 0) (fun k => p (rot s m e (sa k))) a b) := hid ⟨(rot_perm (by omega) (by omega) (by omega) (by omega)).comp (PA.out.mono (Nat.le_refl _) (by omega)), Srt.join (p := fun k => p (rot s m e k)) PA.out (PermIn.id mid b) SA.out sB SP.out.2.2⟩
              clear sB c5
              go_wp2_with fail
              go_end0
              exact ⟨⟨_, rfl⟩, _, hfin.out.1, hfin.out.2, HD.out.1, HD.out.2⟩
          · have f1 : decide ((mid : Int) < (e : Int)) = false := by simp; omega
            have f1n : decide (mid < e) = false := by simp; omega
            have sB : Srt (fun x y => cf x y < 0) (fun k => p (rot s m e k)) mid b := by
              by_cases c7 : e = mid
              · rw [← c7]; exact SP.out.2.1.2.1
              · have c8 : e = b := by omega
                rw [← c8]; exact SP.out.2.1.1
            have hfin : Hid (PermIn a b (fun k => rot s m e (sa k)) ∧ Srt (fun x y => cf x y < 0) (fun k => p (rot s m e (sa k))) a b) := hid ⟨(rot_perm (by omega) (by omega) (by omega) (by omega)).comp (PA.out.mono (Nat.le_refl _) (by omega)), Srt.join (p := fun k => p (rot s m e k)) PA.out (PermIn.id mid b) SA.out sB SP.out.2.2⟩
            clear sB c5
            go_wp2_with fail
            go_end0
            exact ⟨⟨_, rfl⟩, _, hfin.out.1, hfin.out.2, HD.out.1, HD.out.2⟩
end Go.Proofs.Ytfolkjjhlcjfgab
end

section
namespace Go.Proofs.Ytfolkjjhlcjfgab
open Go.RowKit Go.Hay
set_option linter.unusedVariables false
set_option linter.unusedSimpArgs false

theorem cSym (g o n cap : Nat) (A : Nat → Vs) (cv : Value) (cf : Nat → Nat → Int) (Inv : World → Prop) (hC : CmpOk g n A cv cf Inv) (hn : n ≤ 4000000000000) (hcap : n ≤ cap) : ∀ (d : Nat) (p : Nat → Nat) (a m b : Nat) (w : World), b - a ≤ d → Hd w g o n cap A p → Inv w → (∀ k, k < n → p k < n) → a < m → m < b → b ≤ n → Srt (fun x y => cf x y < 0) p a m → Srt (fun x y => cf x y < 0) p m b → Low p a m b → Calls Try.prog 53 #[.slice (some ⟨g, o, none⟩) n cap, .int .i64 (a : Int), .int .i64 (m : Int), .int .i64 (b : Int), .func (.func 32) #[] #[cv]] w fun e w' => (∃ v, e = .returned v) ∧ ∃ s, PermIn a b s ∧ Srt (fun x y => cf x y < 0) (fun k => p (s k)) a b ∧ Hd w' g o n cap A (fun k => p (s k)) ∧ Kp [g] w w'
  | 0, p, a, m, b, w, hd, h, hI, hpn, h1, h2, h3, hA, hB, hLo => by omega
  | d + 1, p, a, m, b, w, hd, h, hI, hpn, h1, h2, h3, hA, hB, hLo => by
    by_cases c1 : m ≤ a + 1
    · exact cSymA g o n cap A cv cf Inv hC p a m b w h hI hpn h1 h2 h3 hA hB hLo hn hcap c1
    by_cases c2 : b ≤ m + 1
    · exact cSymB g o n cap A cv cf Inv hC p a m b w h hI hpn h1 h2 h3 hA hB hLo hn hcap (by omega) c2
    have IH := fun (p' : Nat → Nat) (a' m' b' : Nat) (w' : World) (hlt : b' - a' < b - a) h' hI' hpn' h1' h2' h3' hA' hB' hLo' => cSym g o n cap A cv cf Inv hC hn hcap d p' a' m' b' w' (by omega) h' hI' hpn' h1' h2' h3' hA' hB' hLo'
    by_cases c3 : a + b < 2 * m
    · exact cSymC1 g o n cap A cv cf Inv hC p a m b w h hI hpn h1 h2 h3 hA hB hLo hn hcap (by omega) (by omega) c3 IH
    · exact cSymC2 g o n cap A cv cf Inv hC p a m b w h hI hpn h1 h2 h3 hA hB hLo hn hcap (by omega) (by omega) (by omega) IH
end Go.Proofs.Ytfolkjjhlcjfgab
end

section
namespace Go.Proofs.Ytfolkjjhlcjfgab
open Go.RowKit Go.Hay
set_option linter.unusedVariables false
set_option linter.unusedSimpArgs false

/-- A run: in order, and made of its own places. -/
def Sg (lt : Nat → Nat → Prop) (s : Nat → Nat) (x y : Nat) : Prop := Srt lt s x y ∧ ∀ k, x ≤ k → k < y → x ≤ s k ∧ s k < y
theorem Sg.congr {lt : Nat → Nat → Prop} {s t : Nat → Nat} {x y : Nat} (h : Sg lt s x y) (ht : ∀ k, x ≤ k → k < y → t k = k) : Sg lt (fun k => s (t k)) x y :=
  ⟨fun i j g1 g2 g3 => by
    show bef lt (s (t i)) (s (t j))
    rw [ht i g1 (by omega), ht j (by omega) g3]
    exact h.1 i j g1 g2 g3, fun k g1 g2 => by
    show x ≤ s (t k) ∧ s (t k) < y
    rw [ht k g1 g2]
    exact h.2 k g1 g2⟩
/-- Two runs that were merged. -/
theorem Sg.merged {lt : Nat → Nat → Prop} {s t : Nat → Nat} {a m b : Nat} (h1 : Sg lt s a m) (h2 : Sg lt s m b) (hab : a ≤ m) (hmb : m ≤ b) (ht : PermIn a b t) (hs : Srt lt (fun k => s (t k)) a b) : Sg lt (fun k => s (t k)) a b :=
  ⟨hs, fun k g1 g2 => by
    show a ≤ s (t k) ∧ s (t k) < b
    have h3 := ht.1 k g1 g2
    by_cases c : t k < m
    · have := h1.2 _ h3.1 c
      omega
    · have := h2.2 (t k) (by omega) h3.2
      omega⟩
theorem Sg.low {lt : Nat → Nat → Prop} {s : Nat → Nat} {a m b : Nat} (h1 : Sg lt s a m) (h2 : Sg lt s m b) : Low s a m b := fun i j g1 g2 g3 g4 => by
  have := h1.2 i g1 g2
  have := h2.2 j g3 g4
  omega
/-- Whole runs, up to x. -/
inductive Ln (lt : Nat → Nat → Prop) (s : Nat → Nat) (bs : Nat) : Nat → Prop
  | nil : Ln lt s bs 0
  | snoc {x : Nat} : Ln lt s bs x → Sg lt s x (x + bs) → Ln lt s bs (x + bs)
/-- Runs from x on; the last one may be short. -/
inductive Rn (lt : Nat → Nat → Prop) (s : Nat → Nat) (bs n : Nat) : Nat → Prop
  | done {x : Nat} : n ≤ x → Rn lt s bs n x
  | step {x : Nat} : x < n → Sg lt s x (min (x + bs) n) → Rn lt s bs n (x + bs) → Rn lt s bs n x
theorem Ln.congr {lt : Nat → Nat → Prop} {s t : Nat → Nat} {bs x : Nat} (h : Ln lt s bs x) : (∀ k, k < x → t k = k) → Ln lt (fun k => s (t k)) bs x := by
  induction h with
  | nil => intro _; exact .nil
  | snoc h1 h2 ih => intro ht; exact .snoc (ih fun k hk => ht k (by omega)) (h2.congr fun k _ g => ht k g)
theorem Rn.congr {lt : Nat → Nat → Prop} {s t : Nat → Nat} {bs n x : Nat} (h : Rn lt s bs n x) : (∀ k, x ≤ k → k < n → t k = k) → Rn lt (fun k => s (t k)) bs n x := by
  induction h with
  | done h => intro _; exact .done h
  | step h1 h2 h3 ih => intro ht; exact .step h1 (h2.congr fun k g1 g2 => ht k g1 (by omega)) (ih fun k g1 g2 => ht k (by omega) g2)
theorem Ln.all {lt : Nat → Nat → Prop} {s : Nat → Nat} {bs n x : Nat} (h : Ln lt s bs x) (hb : 0 < bs) : x ≤ n → Rn lt s bs n x → Rn lt s bs n 0 := by
  induction h with
  | nil => intro _ h; exact h
  | snoc h1 h2 ih => intro hx hr; exact ih (by omega) (.step (by omega) (by rw [Nat.min_eq_left hx]; exact h2) hr)
theorem Rn.two {lt : Nat → Nat → Prop} {s : Nat → Nat} {bs n a : Nat} (h : Rn lt s bs n a) (hb : 0 < bs) (hab : a + bs < n) : Sg lt s a (a + bs) ∧ Sg lt s (a + bs) (min (a + bs + bs) n) ∧ Rn lt s bs n (a + bs + bs) := by
  cases h with
  | done h => omega
  | step h1 h2 h3 =>
    rw [Nat.min_eq_left (by omega)] at h2
    cases h3 with
    | done h => omega
    | step h4 h5 h6 => exact ⟨h2, h5, h6⟩
theorem Rn.last {lt : Nat → Nat → Prop} {s : Nat → Nat} {bs n a : Nat} (h : Rn lt s bs n a) (han : a < n) (hab : n ≤ a + bs) : Sg lt s a n := by
  cases h with
  | done h => omega
  | step h1 h2 h3 => rwa [Nat.min_eq_right hab] at h2
theorem Sg.fresh {lt : Nat → Nat → Prop} {s t : Nat → Nat} {a b : Nat} (hs : PermIn 0 a s) (ht : PermIn a b t) (h : Srt lt (fun k => s (t k)) a b) : Sg lt (fun k => s (t k)) a b :=
  ⟨h, fun k g1 g2 => by
    show a ≤ s (t k) ∧ s (t k) < b
    have h3 := ht.1 k g1 g2
    rw [hs.2.1 (t k) (by omega)]
    exact h3⟩
set_option maxHeartbeats 64000000 in
set_option maxRecDepth 100000 in
theorem cStable (g o n cap : Nat) (A : Nat → Vs) (cv : Value) (cf : Nat → Nat → Int) (Inv : World → Prop) (hC : CmpOk g n A cv cf Inv) (hn : n ≤ 4000000000000) (hcap : n ≤ cap) (w : World) (h : Hd w g o n cap A (fun k => k)) (hI : Inv w) : Calls Try.prog 43 #[.slice (some ⟨g, o, none⟩) n cap, .int .i64 (n : Int), .func (.func 32) #[] #[cv]] w fun e w' => (∃ v, e = .returned v) ∧ ∃ s, PermIn 0 n s ∧ Srt (fun x y => cf x y < 0) s 0 n ∧ Hd w' g o n cap A s ∧ Kp [g] w w' := by
  have HC := hid hC
  have HI := hid hI
  have HH := hid h
  clear hC hI h
  go_enter Try.func43, Try.ntmps43
  go_wp2_with fail
  go_loopw [7, 8] (fun av bv wr => ∃ (a b : Nat) (s : Nat → Nat), (a ≤ n ∧ a + 20 ≤ b ∧ b ≤ a + 20) ∧ av = .int .i64 (a : Int) ∧ bv = .int .i64 (b : Int) ∧ Hid (PermIn 0 a s ∧ Ln (fun x y => cf x y < 0) s 20 a) ∧ Hid (Hd wr g o n cap A s ∧ Kp [g] w wr)) (fun av _ _ => n + 20 - (intOf av).toNat)
  case atStart => exact ⟨0, 20, fun k => k, by omega, rfl, rfl, hid ⟨PermIn.id _ _, .nil⟩, hid ⟨HH.out, Kp.refl _ _⟩⟩
  case round =>
    obtain ⟨a, b, s, ⟨ba, bb1, bb2⟩, rfl, rfl, hs, hw⟩ := hrel
    by_cases hbn : b ≤ n
    · have d0 : decide ((b : Int) ≤ (n : Int)) = true := by simp; omega
      have d1 : (b : Int) ≤ (n : Int) := by omega
      have cI := hid (cIns g o n cap A cv cf Inv HC.out s a b wr hw.out.1 (HC.out.keep _ _ HI.out hw.out.2) (fun k g1 g2 => hs.out.1.2.1 k (by omega)) (by omega) hbn hn hcap)
      obtain ⟨b', hb2'⟩ : ∃ x : Nat, x = b + 20 := ⟨_, rfl⟩
      have ebx : (b : Int) + 20 = (b' : Int) := by omega
      have ebx1 : (-9223372036854775808 : Int) ≤ (b : Int) + 20 := by omega
      have ebx2 : (b : Int) + 20 ≤ 9223372036854775807 := by omega
      have HW := hid hw.out.2
      have hb3 : a ≤ b ∧ b + 20 ≤ b' ∧ b' ≤ b + 20 := by omega
      clear hb2' hw
      go_wp2_with fail
      refine cI.out.mono ?_
      rintro e w1 ⟨⟨v, rfl⟩, t, pt, st, hd, kd⟩
      have hs2 : Hid (PermIn 0 b (fun k => s (t k)) ∧ Ln (fun x y => cf x y < 0) (fun k => s (t k)) 20 b) := hid ⟨(hs.out.1.mono (Nat.le_refl _) (by omega)).comp (pt.mono (Nat.zero_le _) (Nat.le_refl _)), by
        have e : b = a + 20 := by omega
        subst e
        exact .snoc (hs.out.2.congr fun k hk => pt.2.1 k (by omega)) (Sg.fresh hs.out.1 pt st)⟩
      have hw2 := hid (And.intro hd (HW.out.trans kd (by simp)))
      clear pt st hd kd hs HW cI
      go_wp2_with fail
      exact ⟨⟨b, b', fun k => s (t k), by omega, rfl, rfl, hs2, hw2⟩, by simp [intOf]; omega⟩
    · have d0 : decide ((b : Int) ≤ (n : Int)) = false := by simp; omega
      have d1 : ¬ ((b : Int) ≤ (n : Int)) := by omega
      have cI := hid (cIns g o n cap A cv cf Inv HC.out s a n wr hw.out.1 (HC.out.keep _ _ HI.out hw.out.2) (fun k g1 g2 => hs.out.1.2.1 k (by omega)) ba (Nat.le_refl _) hn hcap)
      have HW := hid hw.out.2
      clear hw
      go_wp2_with fail
      refine cI.out.mono ?_
      rintro e w1 ⟨⟨v, rfl⟩, t, pt, st, hd, kd⟩
      have hs2 : Hid (PermIn 0 n (fun k => s (t k)) ∧ Rn (fun x y => cf x y < 0) (fun k => s (t k)) 20 n 0) := hid ⟨(hs.out.1.mono (Nat.le_refl _) ba).comp (pt.mono (Nat.zero_le _) (Nat.le_refl _)), (hs.out.2.congr fun k hk => pt.2.1 k (by omega)).all (by omega) ba (by
        by_cases c : a < n
        · exact .step c (by rw [Nat.min_eq_right (by omega)]; exact Sg.fresh hs.out.1 pt st) (.done (by omega))
        · exact .done (by omega))⟩
      have hw2 := hid (And.intro hd (HW.out.trans kd (by simp)))
      clear pt st hd kd hs HW cI
      go_wp2_with fail
      go_loopw [6, 7, 8, 9] (fun zv _ _ _ wn => ∃ (bs : Nat) (s : Nat → Nat), (20 ≤ bs ∧ bs ≤ n + n + 20) ∧ zv = .int .i64 (bs : Int) ∧ Hid (PermIn 0 n s ∧ Rn (fun x y => cf x y < 0) s bs n 0) ∧ Hid (Hd wn g o n cap A s ∧ Kp [g] w wn)) (fun zv _ _ _ _ => n + n + 20 - (intOf zv).toNat)
      case atStart => exact ⟨20, _, by omega, rfl, hs2, hw2⟩
      case round =>
        obtain ⟨bs, s, ⟨bz1, bz2⟩, rfl, hs, hw⟩ := hrel
        clear hs2 hw2
        by_cases hzn : bs < n
        · have i0 : (bs : Int) < (n : Int) := by omega
          obtain ⟨B, hB⟩ : ∃ x : Nat, x = 2 * bs := ⟨_, rfl⟩
          have eB : (2 : Int) * (bs : Int) = (B : Int) := by omega
          have eB1 : (-9223372036854775808 : Int) ≤ (2 : Int) * (bs : Int) := by omega
          have eB2 : (2 : Int) * (bs : Int) ≤ 9223372036854775807 := by omega
          obtain ⟨B2, hB2⟩ : ∃ x : Nat, x = 2 * bs := ⟨_, rfl⟩
          have eB2 : (bs : Int) * 2 = (B2 : Int) := by omega
          have eB21 : (-9223372036854775808 : Int) ≤ (bs : Int) * 2 := by omega
          have eB22 : (bs : Int) * 2 ≤ 9223372036854775807 := by omega
          have hBb : bs + bs ≤ B ∧ B ≤ bs + bs ∧ B2 ≤ bs + bs ∧ bs + bs ≤ B2 := by omega
          clear hB hB2
          go_wp2_with fail
          go_loopw [7, 8] (fun av bv wn => ∃ (a b : Nat) (s : Nat → Nat), (a ≤ n ∧ a + B ≤ b ∧ b ≤ a + B) ∧ av = .int .i64 (a : Int) ∧ bv = .int .i64 (b : Int) ∧ Hid (PermIn 0 n s ∧ Ln (fun x y => cf x y < 0) s B a ∧ Rn (fun x y => cf x y < 0) s bs n a) ∧ Hid (Hd wn g o n cap A s ∧ Kp [g] w wn)) (fun av _ _ => n + 1 - (intOf av).toNat)
          case atStart => exact ⟨0, B, s, by omega, rfl, rfl, hid ⟨hs.out.1, .nil, hs.out.2⟩, hw⟩
          case round =>
            obtain ⟨a, b, s, ⟨ba, bb1, bb2⟩, rfl, rfl, hs, hw⟩ := hrel
            obtain ⟨m, hm⟩ : ∃ x : Nat, x = a + bs := ⟨_, rfl⟩
            have em : (a : Int) + (bs : Int) = (m : Int) := by omega
            have em1 : (-9223372036854775808 : Int) ≤ (a : Int) + (bs : Int) := by omega
            have em2 : (a : Int) + (bs : Int) ≤ 9223372036854775807 := by omega
            have hm2 : m ≤ a + bs ∧ a + bs ≤ m := by omega
            clear hm
            by_cases hbn : b ≤ n
            · have d0 : decide ((b : Int) ≤ (n : Int)) = true := by simp; omega
              have d1 : (b : Int) ≤ (n : Int) := by omega
              obtain ⟨b2, hb2⟩ : ∃ x : Nat, x = b + B := ⟨_, rfl⟩
              have eb2 : (b : Int) + (B : Int) = (b2 : Int) := by omega
              have eb21 : (-9223372036854775808 : Int) ≤ (b : Int) + (B : Int) := by omega
              have eb22 : (b : Int) + (B : Int) ≤ 9223372036854775807 := by omega
              have hb3 : b2 ≤ b + B ∧ b + B ≤ b2 := by omega
              have hem : m = a + bs := by omega
              have heb : b = a + bs + bs := by omega
              obtain ⟨r1, r2, r3⟩ := hs.out.2.2.two (by omega) (by omega)
              rw [Nat.min_eq_left (by omega)] at r2
              rw [← hem] at r1 r2 r3
              have heb2 : b = m + bs := by omega
              rw [← heb2] at r2 r3
              have cM := hid (cSym g o n cap A cv cf Inv HC.out hn hcap (b - a) s a m b wr (Nat.le_refl _) hw.out.1 (HC.out.keep _ _ HI.out hw.out.2) (fun k hk => (hs.out.1.1 k (Nat.zero_le _) hk).2) (by omega) (by omega) hbn r1.1 r2.1 (r1.low r2))
              have HW := hid hw.out.2
              have RR := hid (And.intro r1 (And.intro r2 r3))
              clear hb2 hw hem heb heb2 r1 r2 r3
              go_wp2_with fail
              refine cM.out.mono ?_
              rintro e w1 ⟨⟨v, rfl⟩, t, pt, st, hd, kd⟩
              have hs2 : Hid (PermIn 0 n (fun k => s (t k)) ∧ Ln (fun x y => cf x y < 0) (fun k => s (t k)) B b ∧ Rn (fun x y => cf x y < 0) (fun k => s (t k)) bs n b) := hid ⟨hs.out.1.comp (pt.mono (Nat.zero_le _) hbn), by
                have hSg := Sg.merged RR.out.1 RR.out.2.1 (by omega) (by omega) pt st
                have e : b = a + B := by omega
                rw [e] at hSg ⊢
                exact .snoc (hs.out.2.1.congr fun k hk => pt.2.1 k (by omega)) hSg, RR.out.2.2.congr fun k g1 g2 => pt.2.1 k (by omega)⟩
              have hw2 := hid (And.intro hd (HW.out.trans kd (by simp)))
              clear pt st hd kd hs HW cM RR
              go_wp2_with fail
              exact ⟨⟨b, b2, fun k => s (t k), by omega, rfl, rfl, hs2, hw2⟩, by simp [intOf]; omega⟩
            · have d0 : decide ((b : Int) ≤ (n : Int)) = false := by simp; omega
              have d1 : ¬ ((b : Int) ≤ (n : Int)) := by omega
              by_cases hmn : m < n
              · have i5 : (m : Int) < (n : Int) := by omega
                have hem : m = a + bs := by omega
                obtain ⟨r1, r2, r3⟩ := hs.out.2.2.two (by omega) (by omega)
                rw [Nat.min_eq_right (by omega)] at r2
                rw [← hem] at r1 r2
                have cM := hid (cSym g o n cap A cv cf Inv HC.out hn hcap (n - a) s a m n wr (Nat.le_refl _) hw.out.1 (HC.out.keep _ _ HI.out hw.out.2) (fun k hk => (hs.out.1.1 k (Nat.zero_le _) hk).2) (by omega) hmn (Nat.le_refl _) r1.1 r2.1 (r1.low r2))
                have HW := hid hw.out.2
                have RR := hid (And.intro r1 r2)
                clear hw hem r1 r2 r3
                go_wp2_with fail
                refine cM.out.mono ?_
                rintro e w1 ⟨⟨v, rfl⟩, t, pt, st, hd, kd⟩
                have hs2 : Hid (PermIn 0 n (fun k => s (t k)) ∧ Rn (fun x y => cf x y < 0) (fun k => s (t k)) B2 n 0) := hid ⟨hs.out.1.comp (pt.mono (Nat.zero_le _) (Nat.le_refl _)), by
                  have hSg := Sg.merged RR.out.1 RR.out.2 (by omega) (by omega) pt st
                  have e : B2 = B := by omega
                  rw [e]
                  exact (hs.out.2.1.congr fun k hk => pt.2.1 k (by omega)).all (by omega) ba (.step (by omega) (by rw [Nat.min_eq_right (by omega)]; exact hSg) (.done (by omega)))⟩
                have hw2 := hid (And.intro hd (HW.out.trans kd (by simp)))
                clear pt st hd kd hs HW cM RR
                go_wp2_with fail
                exact ⟨⟨B2, fun k => s (t k), by omega, rfl, hs2, hw2⟩, by simp [intOf]; omega⟩
              · have i5 : ¬ ((m : Int) < (n : Int)) := by omega
                have i6 : decide ((m : Int) < (n : Int)) = false := by simp; omega
                have hs2 : Hid (PermIn 0 n s ∧ Rn (fun x y => cf x y < 0) s B2 n 0) := hid ⟨hs.out.1, by
                  have e : B2 = B := by omega
                  rw [e]
                  refine hs.out.2.1.all (by omega) ba ?_
                  by_cases c : a < n
                  · exact .step c (by rw [Nat.min_eq_right (by omega)]; exact hs.out.2.2.last c (by omega)) (.done (by omega))
                  · exact .done (by omega)⟩
                clear hs
                go_wp2_with fail
                exact ⟨⟨B2, s, by omega, rfl, hs2, hw⟩, by simp [intOf]; omega⟩
        · have d2 : decide ((bs : Int) < (n : Int)) = false := by simp; omega
          have d3 : ¬ ((bs : Int) < (n : Int)) := by omega
          have hfin : Hid (Srt (fun x y => cf x y < 0) s 0 n) := hid (by
            by_cases c : 0 < n
            · exact (hs.out.2.last c (by omega)).1
            · exact Srt.one _ _ _ _ (by omega))
          go_wp2_with fail
          go_end0
          exact ⟨⟨_, rfl⟩, s, hs.out.1, hfin.out, hw.out.1, hw.out.2⟩
theorem cSortStable (g o n cap : Nat) (A : Nat → Vs) (cv : Value) (cf : Nat → Nat → Int) (Inv : World → Prop) (hC : CmpOk g n A cv cf Inv) (hn : n ≤ 4000000000000) (hcap : n ≤ cap) (w : World) (h : Hd w g o n cap A (fun k => k)) (hI : Inv w) : Calls Try.prog 31 #[.slice (some ⟨g, o, none⟩) n cap, .func (.func 32) #[] #[cv]] w fun e w' => (∃ v, e = .returned v) ∧ ∃ s, PermIn 0 n s ∧ Srt (fun x y => cf x y < 0) s 0 n ∧ Hd w' g o n cap A s ∧ Kp [g] w w' := by
  have cS := hid (cStable g o n cap A cv cf Inv hC hn hcap w h hI)
  clear hC h hI
  go_enter Try.func31, Try.ntmps31
  go_wp2_with fail
  refine cS.out.mono ?_
  rintro e w1 ⟨⟨v, rfl⟩, hp⟩
  have HP := hid hp
  clear hp
  go_wp2_with fail
  go_end0
  exact ⟨⟨_, rfl⟩, HP.out⟩
end Go.Proofs.Ytfolkjjhlcjfgab
end

section
namespace Go.Proofs.Ytfolkjjhlcjfgab
open Go.RowKit Go.Hay
attribute [local go_sem] Oper.semAt_some
set_option linter.unusedVariables false
set_option linter.unusedSimpArgs false

set_option maxHeartbeats 8000000 in
set_option maxRecDepth 100000 in
theorem cOrdC (x y : Vs) (qo : Nat) (on : Int) (w : World) (hx : x.lies w) (hy : y.lies w) (ho : w.cell? ⟨qo, 0, none⟩ = some (.int .i64 on)) :
    Calls Try.prog 32 #[x.v, y.v, .pointer (some ⟨qo, 0, none⟩)] w fun e w' => e = .returned (.int .i64 (cmpV (vAt x.l on) (vAt y.l on))) ∧ Kp [] w w' := by
  obtain ⟨xa, xc, xl⟩ := x
  obtain ⟨ya, yc, yl⟩ := y
  have h1 := hx.cap; have h2 := hx.most; have h3 := hy.cap; have h4 := hy.most
  unfold maxLen at h2 h4
  dsimp only [Vs.v] at *
  have cA : Hid (∀ A, Kp [] w A → Calls Try.prog 21 #[.slice xa xl.length xc, .int .i64 on] A fun e w' => e = .returned (.agg #[.int .i64 (vAt xl on).k, .bool (vAt xl on).b, .int .i64 (vAt xl on).n, .string (vAt xl on).t]) ∧ Kp [] A w') := fun A k => cAtE xa xc xl on A (hx.see.kept k) (by omega)
  have cB : Hid (∀ A, Kp [] w A → Calls Try.prog 21 #[.slice ya yl.length yc, .int .i64 on] A fun e w' => e = .returned (.agg #[.int .i64 (vAt yl on).k, .bool (vAt yl on).b, .int .i64 (vAt yl on).n, .string (vAt yl on).t]) ∧ Kp [] A w') := fun A k => cAtE ya yc yl on A (hy.see.kept k) (by omega)
  obtain ⟨⟨uk, ub, un, ut⟩, hu⟩ : ∃ y, Hid (vAt xl on = y) := ⟨_, rfl⟩
  obtain ⟨⟨vk, vb, vn, vt⟩, hv⟩ : ∃ y, Hid (vAt yl on = y) := ⟨_, rfl⟩
  simp only [hu.out] at cA
  simp only [hv.out] at cB
  rw [hu.out, hv.out]
  have cC := hid (fun A => cCompare ⟨uk, ub, un, ut⟩ ⟨vk, vb, vn, vt⟩ A)
  simp only [Val.v] at cC
  have hS : Hid (∀ A, Kp [] w A → A.cell? ⟨qo, 0, none⟩ = some (.int .i64 on)) := fun A k => kpAt k ho
  clear hx hy
  go_enter Try.func32, Try.ntmps32
  go_wp2_with fail
  refine wp_noPanicY ?_
  refine wp_region_held_drew (S := fun A => A.cell? ⟨qo, 0, none⟩ = some (.int .i64 on)) (by kernel_rfl) (hS.out _ (Kp.refl _ _).drew) (fun hHeld => ?_)
  have KD : Hid (Kp [] w w.drew) := hid (Kp.refl _ _).drew
  generalize w.drew = wd at *
  refine wpAnyH_take (i := 0) (v := ?_) rfl (by kernel_rfl) (by kernel_rfl) (by kernel_rfl) (fun _ _ _ h => by cases h.1) (Or.inl ⟨by rfl, ?_⟩) (by assumption) ?_
  rotate_left
  · intro w hSw; (try dsimp only at hSw); go_simp <;> with_reducible rfl
  try simp only [Act.put, List.getElem_toArray, List.getElem_cons_zero, List.getElem_cons_succ, List.setIfInBounds_toArray, List.set_cons_zero, List.set_cons_succ]
  refine wpAnyH_take (i := 1) (v := ?_) rfl (by kernel_rfl) (by kernel_rfl) (by kernel_rfl) (fun _ _ _ h => by cases h.1) (Or.inl ⟨by rfl, ?_⟩) (by assumption) ?_
  rotate_left
  · intro w hSw; (try dsimp only at hSw); go_simp <;> with_reducible rfl
  try simp only [Act.put, List.getElem_toArray, List.getElem_cons_zero, List.getElem_cons_succ, List.setIfInBounds_toArray, List.set_cons_zero, List.set_cons_succ]
  refine wpAnyH_take (i := 3) (v := ?_) rfl (by kernel_rfl) (by kernel_rfl) (by kernel_rfl) (fun _ _ _ h => by cases h.1) (Or.inl ⟨by rfl, ?_⟩) (by assumption) ?_
  rotate_left
  · intro w hSw; (try dsimp only at hSw); go_simp <;> with_reducible rfl
  try simp only [Act.put, List.getElem_toArray, List.getElem_cons_zero, List.getElem_cons_succ, List.setIfInBounds_toArray, List.set_cons_zero, List.set_cons_succ]
  refine wpAnyH_take (i := 4) (v := ?_) rfl (by kernel_rfl) (by kernel_rfl) (by kernel_rfl) (fun _ _ _ h => by cases h.1) (Or.inl ⟨by rfl, ?_⟩) (by assumption) ?_
  rotate_left
  · intro w hSw; (try dsimp only at hSw); go_simp <;> with_reducible rfl
  try simp only [Act.put, List.getElem_toArray, List.getElem_cons_zero, List.getElem_cons_succ, List.setIfInBounds_toArray, List.set_cons_zero, List.set_cons_succ]
  refine wpAnyH_ready (rs := [2]) (by kernel_rfl) (by simp) ?_
  refine AllReadyH.cons rfl (fun K hK => ?_) AllReadyH.nil
  go_simp
  refine (cA.out wd KD.out).mono ?_
  rintro e we ⟨rfl, ke⟩
  (try go_wp2_with fail)
  refine hK.out _ _ ?_ (fun hHeld => ?_)
  · exact hS.out we (KD.out.trans ke (by simp))
  clear hK K
  try simp only [Act.put, List.getElem_toArray, List.getElem_cons_zero, List.getElem_cons_succ, List.setIfInBounds_toArray, List.set_cons_zero, List.set_cons_succ]
  have KE := hid (KD.out.trans ke (by simp))
  refine wpAnyH_ready (rs := [5]) (by kernel_rfl) (by simp) ?_
  refine AllReadyH.cons rfl (fun K hK => ?_) AllReadyH.nil
  go_simp
  refine (cB.out we KE.out).mono ?_
  rintro e wf ⟨rfl, kf⟩
  (try go_wp2_with fail)
  refine hK.out _ _ ?_ (fun hHeld => ?_)
  · exact hS.out wf (KE.out.trans kf (by simp))
  clear hK K
  try simp only [Act.put, List.getElem_toArray, List.getElem_cons_zero, List.getElem_cons_succ, List.setIfInBounds_toArray, List.set_cons_zero, List.set_cons_succ]
  have KF := hid (KE.out.trans kf (by simp))
  refine wpAnyH_ready (rs := [6]) (by kernel_rfl) (by simp) ?_
  refine AllReadyH.cons rfl (fun K hK => ?_) AllReadyH.nil
  go_simp
  refine (cC.out wf).mono ?_
  rintro e wg ⟨rfl, kg⟩
  (try go_wp2_with fail)
  refine hK.out _ _ ?_ (fun hHeld => ?_)
  · exact hS.out wg (KF.out.trans kg (by simp))
  clear hK K
  try simp only [Act.put, List.getElem_toArray, List.getElem_cons_zero, List.getElem_cons_succ, List.setIfInBounds_toArray, List.set_cons_zero, List.set_cons_succ]
  refine wpAnyH_take (i := 7) (v := ?_) rfl (by kernel_rfl) (by kernel_rfl) (by kernel_rfl) (fun _ _ _ h => by cases h.1) (Or.inl ⟨by rfl, ?_⟩) (by assumption) ?_
  rotate_left
  · intro w hSw; (try dsimp only at hSw); go_simp <;> with_reducible rfl
  try simp only [Act.put, List.getElem_toArray, List.getElem_cons_zero, List.getElem_cons_succ, List.setIfInBounds_toArray, List.set_cons_zero, List.set_cons_succ]
  refine wpAnyH_done (by kernel_rfl) ⟨rfl, ?_⟩ _
  have KG := hid (KF.out.trans kg (by simp))
  clear hHeld ke kf kg
  go_wp2_with fail
  go_returns
  exact ⟨rfl, KG.out⟩
theorem getD_l (L : List Vs) (x : Nat) : (L.map (·.l)).getD x [] = (L.getD x default).l := by
  rw [List.getD_eq_getElem?_getD, List.getD_eq_getElem?_getD, List.getElem?_map]
  cases L[x]? <;> rfl
theorem arrId (L : List Vs) : arr (fun i => L.getD i default) (fun k => k) L.length = L := by
  apply List.ext_getElem?
  intro k
  by_cases h : k < L.length
  · rw [arr_at _ _ _ _ h]
    simp [h]
  · rw [List.getElem?_eq_none (by rw [arr_len]; omega), List.getElem?_eq_none (by omega)]
/-- The sort of rows that were gathered, by a column. -/
theorem sortOrd (on : Int) (R : List (List Val)) (hR : (ordR on R).length ≤ 4000000000000) : ∀ (W : World) (N q : Nat) (ra : Option Addr) (rc : Nat) (L : List Vs), Lot N ra rc L W → L.map (·.l) = ordR on R → W.cell? ⟨q, 0, none⟩ = some (.int .i64 on) → q ∉ blk ra → Calls Try.prog 31 #[.slice ra L.length rc, .func (.func 32) #[] #[.pointer (some ⟨q, 0, none⟩)]] W (SortP N ra rc L.length (srtR on (ordR on R)) W) := fun W N q ra rc L hl hm hq hqr => by
  have hLl : L.length ≤ 4000000000000 := by have := congrArg List.length hm; rw [List.length_map] at this; omega
  by_cases h0 : L.length = 0
  · have hL : L = [] := List.length_eq_zero_iff.1 h0
    refine (cSortSt1R ra L.length rc _ W (by omega)).mono fun e w' ⟨hv, e2⟩ => ⟨hv, L, rfl, by rw [e2]; exact hl, ?_, by rw [e2]; exact Kp.refl _ _⟩
    rw [← hm, hL]
    rfl
  · rcases hrow : hl.row with ⟨e, _⟩ | ⟨g, o, cap, e, h1, h2, h3, h4, h5⟩
    · exact absurd (by have := (Value.slice.inj e).2.1; omega) h0
    · obtain ⟨e1, _, e3⟩ := Value.slice.inj e
      subst e1 e3
      have hd : Hd W g o L.length rc (fun i => L.getD i default) (fun k => k) := by
        unfold Hd
        rw [arrId]
        exact hl.row
      have hmem : ∀ x, x < L.length → L.getD x default ∈ L := fun x hx => by
        rw [List.getD_eq_getElem?_getD, List.getElem?_eq_getElem hx]
        exact List.getElem_mem hx
      have hC : CmpOk g L.length (fun i => L.getD i default) (.pointer (some ⟨q, 0, none⟩)) (fun x y => cmpV (vAt (L.getD x default).l on) (vAt (L.getD y default).l on)) (fun W' => W'.cell? ⟨q, 0, none⟩ = some (.int .i64 on) ∧ ∀ x ∈ L, x.lies W') := ⟨fun W' x y hI hx hy => cOrdC _ _ q on W' (hI.2 _ (hmem x hx)) (hI.2 _ (hmem y hy)) hI.1, fun W1 W2 hI k => ⟨((CK.ofKp k).2 _ _ (by simpa [blk] using hqr) hI.1).1, fun x hx => (hI.2 x hx).ck (CK.ofKp k) (fun j hj hm' => (hl.rows x hx j hj).2.2 (by simpa [blk] using hm'))⟩, cmpSwo (fun x => vAt (L.getD x default).l on)⟩
      have h2' : L.length ≤ rc := h1
      refine (cSortStable g o L.length rc _ _ _ _ hC hLl h2' W hd ⟨hq, hl.lies⟩).mono fun e w' ⟨hv, s, hp, hs, hd', k⟩ => ⟨hv, arr (fun i => L.getD i default) s L.length, arr_len _ _ _, ?_, ?_, k⟩
      · have hin : ∀ x ∈ arr (fun i => L.getD i default) s L.length, x ∈ L := fun x hx => by
          unfold arr at hx
          obtain ⟨i, hi, rfl⟩ := List.mem_map.1 hx
          exact hmem _ (hp.1 i (Nat.zero_le _) (List.mem_range.1 hi)).2
        have ck := CK.ofKp k
        refine ⟨by rw [arr_len]; exact hd', fun x hx => (hl.lies x (hin x hx)).ck ck (fun j hj hm' => (hl.rows x (hin x hx) j hj).2.2 (by simpa [blk] using hm')), hl.own, fun x hx j hj => ?_⟩
        obtain ⟨r1, r2, r3⟩ := hl.rows x (hin x hx) j hj
        exact ⟨r1, Nat.lt_of_lt_of_le r2 k.size, r3⟩
      · have hlt : (fun x y => cmpV (vAt (L.getD x default).l on) (vAt (L.getD y default).l on) < 0) = ltR on (ordR on R) := by
          funext x y
          unfold ltR
          rw [← hm, getD_l, getD_l]
        rw [hlt] at hs
        have h6 := sorted_eq (ltR_swo on (ordR on R)) hp hs
        have hln : L.length = (ordR on R).length := by rw [← hm, List.length_map]
        unfold srtR
        rw [← hln, ← h6, List.map_map]
        unfold arr
        rw [List.map_map]
        refine List.map_congr_left fun i _ => ?_
        show (L.getD (s i) default).l = (ordR on R).getD (s i) []
        rw [← hm, getD_l]
/-- What is sorted rises. -/
theorem monoOrd (on : Int) (R : List (List Val)) : ∀ (SL : List Vs) (v : Val), SL.map (·.l) = srtR on (ordR on R) → (∀ i j, i ≤ j → j < SL.length → cAt SL on v j < 0 → cAt SL on v i < 0) ∧ (∀ i j, i ≤ j → j < SL.length → cAt SL on v j ≤ 0 → cAt SL on v i ≤ 0) := fun SL v hS => by
  have hp := List.pairwise_iff_getElem.1 (hS ▸ srtR_mono on (ordR on R))
  have hle : ∀ i j (hij : i ≤ j) (hj : j < SL.length), cmpV (vAt (SL[i]'(by omega)).l on) (vAt SL[j].l on) ≤ 0 := fun i j hij hj => by
    by_cases e : i = j
    · subst e; rw [cmp_self]; omega
    · have := hp i j (by rw [List.length_map]; omega) (by rw [List.length_map]; omega) (by omega)
      simpa using this
  refine ⟨fun i j hij hj h => ?_, fun i j hij hj h => ?_⟩
  · rw [cAt_in hj] at h
    rw [cAt_in (show i < SL.length by omega)]
    exact cmp_strict' _ _ _ (hle i j hij hj) h
  · rw [cAt_in hj] at h
    rw [cAt_in (show i < SL.length by omega)]
    exact cmp_trans _ _ _ (hle i j hij hj) h
end Go.Proofs.Ytfolkjjhlcjfgab
end

section
namespace Go.Proofs.Ytfolkjjhlcjfgab
open Go.RowKit Go.Hay
set_option linter.unusedVariables false
set_option linter.unusedSimpArgs false

/-- A version. -/
structure Vr where
  e : Int
  n : Int
  a : Option Addr
  c : Nat
  l : List Val
  d : Int
instance : Inhabited Vr := ⟨⟨0, 0, none, 0, [], 0⟩⟩
def Vr.v (x : Vr) : Value := .agg #[.int .u64 x.e, .int .u32 x.n, .slice x.a x.l.length x.c, .int .u64 x.d]
def VrE : El Vr where
  n := 4
  c x := [.int .u64 x.e, .int .u32 x.n, .slice x.a x.l.length x.c, .int .u64 x.d]
  len _ := rfl
  one _ u hu := by simp at hu; rcases hu with rfl | rfl | rfl | rfl <;> rfl
  pos := by decide
theorem vrAt {w : World} {a : Option Addr} {l : List Vr} (h : VrE.See w a l) {j : Nat} {x : Vr} (hx : l[j]? = some x) : ∃ g o, a = some ⟨g, o, none⟩ ∧ w.cell? ⟨g, o + j * 4, none⟩ = some (.int .u64 x.e) ∧ w.cell? ⟨g, o + j * 4 + 1, none⟩ = some (.int .u32 x.n) ∧ w.cell? ⟨g, o + j * 4 + 2, none⟩ = some (.slice x.a x.l.length x.c) ∧ w.cell? ⟨g, o + j * 4 + 3, none⟩ = some (.int .u64 x.d) := by
  obtain ⟨g, o, rfl, hc⟩ := h.at hx
  exact ⟨g, o, rfl, hc 0 _ rfl, hc 1 _ rfl, hc 2 _ rfl, hc 3 _ rfl⟩
end Go.Proofs.Ytfolkjjhlcjfgab
end

section
namespace Go.Proofs.Ytfolkjjhlcjfgab
open Go.RowKit Go.Hay
attribute [local go_sem] Oper.semAt_some
set_option linter.unusedVariables false
set_option linter.unusedSimpArgs false

abbrev Vr.r (x : Vr) : Vs := ⟨x.a, x.c, x.l⟩
def Vr.pr (x : Vr) : Int × Int × List Val × Int := (x.e, x.n, x.l, x.d)
structure Vr.lies (w : World) (x : Vr) : Prop where
  r : x.r.lies w
  e : 0 ≤ x.e ∧ x.e < 18446744073709551616
  n : 0 ≤ x.n ∧ x.n < 4294967296
theorem Vr.lies.ck {P : Nat → Prop} {X Y : World} {x : Vr} (hx : Vr.lies X x) (h : CK P X Y) (hP : ∀ k ∈ blk x.a, P k) : Vr.lies Y x := ⟨hx.r.ck h hP, hx.e, hx.n⟩
/-- Versions that were gathered: all blocks from N on, their rows apart from the row of versions. -/
structure Lov (N : Nat) (ra : Option Addr) (rc : Nat) (L : List Vr) (W : World) : Prop where
  row : VrE.Row W (.slice ra L.length rc) L
  lies : ∀ x ∈ L, Vr.lies W x
  own : ∀ k ∈ blk ra, N ≤ k
  rows : ∀ x ∈ L, ∀ k ∈ blk x.a, N ≤ k ∧ k < W.heap.size ∧ k ∉ blk ra
theorem Lov.nil (N : Nat) (W : World) : Lov N none 0 [] W := ⟨.inl ⟨rfl, rfl⟩, by simp, by simp [blk], by simp⟩
theorem Lov.ck {N : Nat} {ra : Option Addr} {rc : Nat} {L : List Vr} {P : Nat → Prop} {X Y : World} (h : Lov N ra rc L X) (k : CK P X Y) (h1 : ∀ k ∈ blk ra, P k) (h2 : ∀ x ∈ L, ∀ k ∈ blk x.a, P k) : Lov N ra rc L Y :=
  ⟨ckRow k h.row h1, fun x hx => (h.lies x hx).ck k (h2 x hx), h.own, fun x hx j hj => ⟨(h.rows x hx j hj).1, Nat.lt_of_lt_of_le (h.rows x hx j hj).2.1 k.1, (h.rows x hx j hj).2.2⟩⟩
theorem Lov.lt {N : Nat} {ra : Option Addr} {rc : Nat} {L : List Vr} {X : World} (h : Lov N ra rc L X) : ∀ k ∈ blk ra, k < X.heap.size := fun k hk => h.row.lt k (by rw [ownV]; exact hk)
theorem Lov.mono {N M : Nat} {ra : Option Addr} {rc : Nat} {L : List Vr} {X : World} (h : Lov N ra rc L X) (hm : M ≤ N) : Lov M ra rc L X :=
  ⟨h.row, h.lies, fun k hk => Nat.le_trans hm (h.own k hk), fun x hx k hk => ⟨Nat.le_trans hm (h.rows x hx k hk).1, (h.rows x hx k hk).2⟩⟩
/-- Versions joined by their names. -/
def rejO (B : List Vr) (a : Vr) : Option (Int × Int × List Val × Int) := (B.find? fun b => decide ((b.e, b.n) = (a.e, a.n))).map fun b => (a.e, a.n, a.l ++ b.l, a.d)
def rejR (A B : List Vr) : List (Int × Int × List Val × Int) := A.filterMap (rejO B)
theorem rejR_snoc {A B : List Vr} {j : Nat} (h : j < A.length) : rejR (A.take (j + 1)) B = rejR (A.take j) B ++ (rejO B A[j]).toList := by
  unfold rejR
  rw [List.take_succ_eq_append_getElem h, List.filterMap_append]
  cases hc : rejO B A[j] <;> simp [hc]
def LovP (R : List (Int × Int × List Val × Int)) (w : World) (e : Ending) (w' : World) : Prop := ∃ ra rc L, e = .returned (.slice ra L.length rc) ∧ Lov w.heap.size ra rc L w' ∧ L.map Vr.pr = R ∧ Kp [] w w'
set_option maxHeartbeats 4000000 in
set_option maxRecDepth 100000 in
theorem rJoined (a b : Option Addr) (ca cb : Nat) (l m : List Val) (w : World) (ha : Vals w a l) (hb : Vals w b m) (hl : l.length + m.length ≤ 3600000000000) :
    Calls Try.prog 13 #[.slice a l.length ca, .slice b m.length cb] w (NewR (l ++ m) w) := by
  obtain ⟨X1, hX1⟩ : ∃ X1, w.alloc (.cells #[] 33) = X1 := ⟨_, rfl⟩
  have kX1 : Kp [] w X1 := by rw [← hX1]; exact (Kp.refl _ _).alloc _
  have hr0 : VE.Row X1 (.slice (some ⟨w.heap.size, 0, none⟩) 0 0) [] := by
    refine .inr ⟨w.heap.size, 0, 0, rfl, Nat.le_refl _, Nat.zero_le _, by rw [← hX1]; simp, fun j u hu => by simp [El.cs] at hu, fun j hj => by omega⟩
  obtain ⟨a5, c5, X2, hrun1, hrow5, kk5, hn5⟩ := appVY (l := []) hr0 a ca l (ha.kept kX1) (by simp; omega)
  rw [List.nil_append] at hrun1 hrow5
  have hb1 : blk (some (⟨w.heap.size, 0, none⟩ : Addr)) = [w.heap.size] := rfl
  have kX2 : Kp [] w X2 := kX1.trans kk5 (fun q hq => .inr (by rw [hb1] at hq; simp at hq; omega))
  have hn5' : ∀ q ∈ blk a5, w.heap.size ≤ q := fun q hq => by
    rcases hn5 q hq with h | h
    · rw [hb1] at h; simp at h; omega
    · have := kX1.size; omega
  obtain ⟨a6, c6, X3, hrun2, hrow6, kk6, hn6⟩ := appVY hrow5 b cb m (hb.kept kX2) (by omega)
  have kX3 : Kp [] w X3 := kX2.trans kk6 (fun q hq => .inr (hn5' q hq))
  have hn6' : ∀ q ∈ blk a6, w.heap.size ≤ q := fun q hq => by
    rcases hn6 q hq with h | h
    · exact hn5' q h
    · have := kX2.size; omega
  obtain ⟨z, hz⟩ : ∃ z, Hid (l ++ m = z) := ⟨_, rfl⟩
  rw [hz.out] at hrun2 hrow6 ⊢
  have hrow' := hid hrow6
  clear ha hb hr0 hrow5 kk5 hn5 hrow6 kk6 hn6
  simp only [List.length_nil] at hrun1
  go_enter Try.func13, Try.ntmps13
  go_wp2_with (first | (refine wpAppRunY rfl _ _ 30 30 rfl _ _ _ rfl rfl hrun1 ?_) | (refine wpAppRunY rfl _ _ 30 30 rfl _ _ _ rfl rfl hrun2 ?_) | fail)
  go_ret
  exact ⟨a6, c6, rfl, hrow'.out, kX3, hn6'⟩
end Go.Proofs.Ytfolkjjhlcjfgab
end

section
namespace Go.Proofs.Ytfolkjjhlcjfgab
open Go.RowKit Go.Hay
attribute [local go_sem] Oper.semAt_some
set_option linter.unusedVariables false
set_option linter.unusedSimpArgs false

set_option maxHeartbeats 8000000 in
set_option maxRecDepth 100000 in
theorem rAtE (a : Option Addr) (c : Nat) (l : List Val) (n : Int) (w : World) (ha : Vals w a l) (hl : l.length ≤ 9223372036854775807) : Calls Try.prog 10 #[.slice a l.length c, .int .i64 n] w fun e w' => e = .returned (.agg #[.int .i64 (vAt l n).k, .bool (vAt l n).b, .int .i64 (vAt l n).n, .string (vAt l n).t]) ∧ Kp [] w w' := by
  obtain ⟨q, W1, eq, e1, b1, k1⟩ : ∃ q W1, w.heap.size = q ∧ w.alloc (.cells #[.int .i64 0, .bool false, .int .i64 0, .string ⟨#[]⟩] 33) = W1 ∧ Bn W1 q [.int .i64 0, .bool false, .int .i64 0, .string ⟨#[]⟩] ∧ Kp [] w W1 := ⟨_, _, rfl, rfl, Bn.new w _ _, (Kp.refl _ _).alloc _⟩
  have hset : ∀ (W : World) (v : Val), Bn W q [.int .i64 0, .bool false, .int .i64 0, .string ⟨#[]⟩] → Kp [] w W → ∃ W2, (((W.setCell ⟨q, 0, none⟩ (.int .i64 v.k)).setCell ⟨q, 1, none⟩ (.bool v.b)).setCell ⟨q, 2, none⟩ (.int .i64 v.n)).setCell ⟨q, 3, none⟩ (.string v.t) = W2 ∧ Bn W2 q [.int .i64 v.k, .bool v.b, .int .i64 v.n, .string v.t] ∧ Kp [] w W2 := fun W v b k =>
    have h : q ∈ ([] : List Nat) ∨ w.heap.size ≤ q := .inr (by omega)
    ⟨_, rfl, (((b.set 0 (by simp) (.int .i64 v.k)).set 1 (by simp) (.bool v.b)).set 2 (by simp) (.int .i64 v.n)).set 3 (by simp) (.string v.t), (((k.setCell h _).setCell h _).setCell h _).setCell h _⟩
  by_cases hin : 0 ≤ n ∧ n < (l.length : Int)
  · obtain ⟨i, rfl⟩ := Int.eq_ofNat_of_zero_le hin.1
    have hi : i < l.length := by omega
    rw [vAt_in l i hi]
    obtain ⟨g, o, rfl, c0, c1, c2, c3⟩ := (ha.kept k1).at i hi
    obtain ⟨v, hv⟩ : ∃ v, l[i] = v := ⟨_, rfl⟩
    rw [hv] at c0 c1 c2 c3 ⊢
    obtain ⟨W2, e2, b2, k2⟩ := hset W1 v b1 k1
    have m0 := b1.get 0 _ rfl; have m1 := b1.get 1 _ rfl; have m2 := b1.get 2 _ rfl; have m3 := b1.get 3 _ rfl
    have f0 := b1.free 0; have f1 := b1.free 1; have f2 := b1.free 2; have f3 := b1.free 3
    have v0 := b2.get 0 _ rfl; have v1 := b2.get 1 _ rfl; have v2 := b2.get 2 _ rfl; have v3 := b2.get 3 _ rfl
    obtain ⟨vk, vb, vn, vt⟩ := v
    dsimp only at *
    have d1 : decide ((i : Int) < 0) = false := by simp
    have d2 : decide ((l.length : Int) ≤ (i : Int)) = false := by simp; omega
    have d2n : decide (l.length ≤ i) = false := by simp; omega
    have d3 : (0 : Int) ≤ (i : Int) := by omega
    have d4 : (i : Int) < (l.length : Int) := by omega
    clear b1 b2 hset ha hv hin k1
    go_enter Try.func10, Try.ntmps10
    go_wp2_with fail
    exact bodyPost_ret (v := .agg #[.int .i64 vk, .bool vb, .int .i64 vn, .string vt]) (by simp [results, Try.results10, go_sem, v0, v1, v2, v3]) rfl ⟨rfl, k2⟩
  · rw [vAt_out l n hin]
    obtain ⟨W2, e2, b2, k2⟩ := hset W1 nulV b1 k1
    have m0 := b1.get 0 _ rfl; have m1 := b1.get 1 _ rfl; have m2 := b1.get 2 _ rfl; have m3 := b1.get 3 _ rfl
    have f0 := b1.free 0; have f1 := b1.free 1; have f2 := b1.free 2; have f3 := b1.free 3
    have v0 := b2.get 0 _ rfl; have v1 := b2.get 1 _ rfl; have v2 := b2.get 2 _ rfl; have v3 := b2.get 3 _ rfl
    dsimp only [nulV] at *
    by_cases h0 : n < 0
    · have d1 : decide (n < 0) = true := by simpa using h0
      clear b1 b2 k1 hset h0 hin
      go_enter Try.func10, Try.ntmps10
      go_wp2_with fail
      exact bodyPost_ret (v := .agg #[.int .i64 0, .bool false, .int .i64 0, .string ⟨#[]⟩]) (by simp [results, Try.results10, go_sem, v0, v1, v2, v3]) rfl ⟨rfl, k2⟩
    · have d1 : decide (n < 0) = false := by simpa using h0
      have d2 : decide ((l.length : Int) ≤ n) = true := by simp; omega
      clear b1 b2 k1 hset h0 hin
      go_enter Try.func10, Try.ntmps10
      go_wp2_with fail
      exact bodyPost_ret (v := .agg #[.int .i64 0, .bool false, .int .i64 0, .string ⟨#[]⟩]) (by simp [results, Try.results10, go_sem, v0, v1, v2, v3]) rfl ⟨rfl, k2⟩
def prJ (lo ro : Int) (x r : List Val) : Bool := (vAt x lo).k != 0 && (vAt r ro).k != 0 && cmpV (vAt x lo) (vAt r ro) == 0
theorem refJ_eq (RL RR : List (List Val)) (lo ro : Int) : refJ RL RR lo ro = RL.flatMap fun x => (RR.filter (prJ lo ro x)).map (x ++ ·) := rfl
theorem refJ_snoc {L : List Vs} {RR : List (List Val)} {lo ro : Int} {j : Nat} (h : j < L.length) : refJ ((L.take (j + 1)).map (·.l)) RR lo ro = refJ ((L.take j).map (·.l)) RR lo ro ++ (RR.filter (prJ lo ro L[j].l)).map (L[j].l ++ ·) := by
  rw [refJ_eq, refJ_eq, List.take_succ_eq_append_getElem h, List.map_append, List.flatMap_append]
  simp
theorem filtJ_snoc {M : List Vs} {p : List Val → Bool} {k : Nat} (h : k < M.length) : ((M.take (k + 1)).map (·.l)).filter p = ((M.take k).map (·.l)).filter p ++ (if p M[k].l then [M[k].l] else []) := by
  rw [List.take_succ_eq_append_getElem h, List.map_append, List.filter_append]
  by_cases hp : p M[k].l <;> simp [hp]
end Go.Proofs.Ytfolkjjhlcjfgab
end

section
namespace Go.Proofs.Ytfolkjjhlcjfgab
open Go.RowKit Go.Hay
attribute [local go_sem] Oper.semAt_some
set_option linter.unusedVariables false
set_option linter.unusedSimpArgs false

/-- How the first walk stands. -/
structure TwI (w1 : World) (q : Nat) (s : Sr) (W : World) : Prop where
  co : CoR w1 [q] s W
  box : W.cell? ⟨q, 0, none⟩ = some (.int .i64 (s.i : Int))
  free : W.frozen? ⟨q, 0, none⟩ = false
  few : s.i ≤ 1
theorem TwI.own {w1 : World} {q : Nat} : OwnFrom w1.heap.size (TwI w1 q) := fun s X Y row h hg hr => by
  have ck := CK.ofGrown hg (fun r e => (hr r e).2)
  obtain ⟨h1, h2⟩ := ck.2 _ _ trivial h.box
  exact ⟨h.co.grown hg hr, h1, h2.trans h.free, h.few⟩
theorem TwI.step {fr : Bool} {R : List (List Val)} {w1 : World} {q : Nat} (hq : q < w1.heap.size) {s s' : Sr} {A B : World} (hz : w1.heap.size + 2 ≤ A.heap.size) (h : TwI w1 q s A) (ht : StepR fr R s s' A B) : TwI w1 q s' B := by
  have co := h.co.step (by simpa using hq) hz ht
  have hm : s'.made = true := by
    cases hs : s.made with
    | true => exact (ht.stays hs).1
    | false => exact (ht.makes hs).1
  have hq3 : q ∉ s'.qs := fun hm' => by
    have := (co.mde hm).2 q hm'
    omega
  obtain ⟨h1, h2⟩ := (CK.ofTurn ht.turn).2 _ _ hq3 h.box
  exact ⟨co, by rw [ht.on]; exact h1, h2.trans h.free, by rw [ht.on]; exact h.few⟩
theorem coOwn {w1 : World} {S : List Nat} : OwnFrom w1.heap.size (CoR w1 S) := fun s X Y row h hg hr => h.grown hg hr
end Go.Proofs.Ytfolkjjhlcjfgab
end

section
namespace Go.Proofs.Ytfolkjjhlcjfgab
open Go.RowKit Go.Hay
attribute [local go_sem] Oper.semAt_some
set_option linter.unusedVariables false
set_option linter.unusedSimpArgs false

/-- Rows of two sides: what is joined. -/
theorem joinAll (d : Nat) (hd : 5 ≤ d) (gl gr : Nat) (lbl lbr : Array Value) (frL frR : Bool) (RL RR : List (List Val)) (jsl jsr : List Nat) (lo ro : Int) (w : World)
    (heL : ∀ args w, (callFunc gl args).run Try.prog w = .ok (.enter gl args) w) (heR : ∀ args w, (callFunc gr args).run Try.prog w = .ok (.enter gr args) w)
    (hL : ∀ n, 1 ≤ n → RowSeq frL n gl lbl RL jsl w) (hR : ∀ n, 1 ≤ n → RowSeq frR n gr lbr RR jsr w) (hjl : ∀ j ∈ jsl, j < w.heap.size) (hjr : ∀ j ∈ jsr, j < w.heap.size)
    (hRR : RR.length ≤ 1000000) (hRRl : ∀ l ∈ RR, l.length ≤ 1800000000000) (hRLl : ∀ l ∈ RL, l.length ≤ 1800000000000) (w' : World)
    (hw : w' = (((w.alloc (.cells #[.func (.func gl) #[] lbl] 27)).alloc (.cells #[.func (.func gr) #[] lbr] 27)).alloc (.cells #[.int .i64 lo] 3)).alloc (.cells #[.int .i64 ro] 3)) :
    Kp [] w w' ∧ ∃ js, (∀ j ∈ js, j < w'.heap.size) ∧ ∀ n, 4 ≤ n → RowSeq true n 17 #[.pointer (some ⟨w.heap.size + 1, 0, none⟩), .pointer (some ⟨w.heap.size + 3, 0, none⟩), .pointer (some ⟨w.heap.size, 0, none⟩), .pointer (some ⟨w.heap.size + 2, 0, none⟩)] (joinR RL (srtR ro (ordR ro RR)) lo ro) js w' := by
  obtain ⟨wa, ha⟩ : ∃ x, x = w.alloc (.cells #[.func (.func gl) #[] lbl] 27) := ⟨_, rfl⟩
  obtain ⟨wb, hb⟩ : ∃ x, x = wa.alloc (.cells #[.func (.func gr) #[] lbr] 27) := ⟨_, rfl⟩
  obtain ⟨wc, hc⟩ : ∃ x, x = wb.alloc (.cells #[.int .i64 lo] 3) := ⟨_, rfl⟩
  rw [← ha, ← hb, ← hc] at hw
  have za : wa.heap.size = w.heap.size + 1 := by rw [ha]; simp
  have zb : wb.heap.size = w.heap.size + 2 := by rw [hb]; simp [za]
  have zc : wc.heap.size = w.heap.size + 3 := by rw [hc]; simp [zb]
  have zd : w'.heap.size = w.heap.size + 4 := by rw [hw]; simp [zc]
  have ka : Kp [] w wa := by rw [ha]; exact (Kp.refl _ _).alloc _
  have kb : Kp [] wa wb := by rw [hb]; exact (Kp.refl _ _).alloc _
  have kc : Kp [] wb wc := by rw [hc]; exact (Kp.refl _ _).alloc _
  have kd : Kp [] wc w' := by rw [hw]; exact (Kp.refl _ _).alloc _
  have ba : Bn wa w.heap.size [.func (.func gl) #[] lbl] := by rw [ha]; exact Bn.new w _ _
  have bb : Bn wb (w.heap.size + 1) [.func (.func gr) #[] lbr] := by rw [hb, ← za]; exact Bn.new wa _ _
  have bc : Bn wc (w.heap.size + 2) [.int .i64 lo] := by rw [hc, ← zb]; exact Bn.new wb _ _
  have bd : Bn w' (w.heap.size + 3) [.int .i64 ro] := by rw [hw, ← zc]; exact Bn.new wc _ _
  have kcd := kc.trans kd (by simp)
  have kbd := kb.trans kcd (by simp)
  have kw := ka.trans kbd (by simp)
  refine ⟨kw, (jsl ++ jsr) ++ [w.heap.size + 1, w.heap.size + 3, w.heap.size, w.heap.size + 2], fun j hj => ?_, ?_⟩
  · rcases List.mem_append.1 hj with e | e
    · rcases List.mem_append.1 e with e | e
      · have := hjl j e; omega
      · have := hjr j e; omega
    · simp at e; omega
  · intro n0 hn0
    refine joinSeq n0 hn0 _ _ _ _ frL frR gl gr lbl lbr RL RR (srtR ro (ordR ro RR)) jsl jsr _ lo ro w' heL heR ((bb.kept kcd).get 0 _ rfl) (bd.get 0 _ rfl) ((ba.kept kbd).get 0 _ rfl) ((bc.kept kd).get 0 _ rfl) (fun q hq => List.mem_append.2 (.inr hq)) (fun j hj => by simp [hj]) (fun j hj => by simp [hj]) (fun j hj => ?_) (fun n hn => (hL n hn).move (KeepB.ofKp kw (by simp))) (fun n hn => (hR n hn).move (KeepB.ofKp kw (by simp))) (by omega) hRRl hRLl ?_ ?_ (sortOrd ro RR ?_) (monoOrd ro RR)
    · rcases List.mem_append.1 hj with e | e
      · rcases List.mem_append.1 e with e | e
        · have := hjl j e; omega
        · have := hjr j e; omega
      · simp at e; omega
    · have := List.length_filter_le (fun l => !((vAt l ro).k == 0)) RR
      rw [srtR_len]
      unfold ordR; omega
    · intro l hl
      have h1 := (srtR_perm ro (ordR ro RR)).mem_iff.1 hl
      exact hRRl l (List.mem_filter.1 h1).1
    · have := List.length_filter_le (fun l => !((vAt l ro).k == 0)) RR
      unfold ordR; omega
theorem refJ_len (RL RR : List (List Val)) (lo ro : Int) : (refJ RL RR lo ro).length ≤ RL.length * RR.length := by
  unfold refJ
  induction RL with
  | nil => simp
  | cons x RL ih =>
    rw [List.flatMap_cons, List.length_append, List.length_map, List.length_cons, Nat.succ_mul]
    have := List.length_filter_le (fun r => (vAt x lo).k != 0 && (vAt r ro).k != 0 && cmpV (vAt x lo) (vAt r ro) == 0) RR
    omega
theorem refJ_row {RL RR : List (List Val)} {lo ro : Int} {A B : Nat} (hA : ∀ l ∈ RL, l.length ≤ A) (hB : ∀ l ∈ RR, l.length ≤ B) : ∀ l ∈ refJ RL RR lo ro, l.length ≤ A + B := fun l hl => by
  obtain ⟨x, hx, hm⟩ := List.mem_flatMap.1 hl
  obtain ⟨r, hr, rfl⟩ := List.mem_map.1 hm
  have h1 := hA x hx
  have h2 := hB r (List.mem_filter.1 hr).1
  rw [List.length_append]
  omega
end Go.Proofs.Ytfolkjjhlcjfgab
end

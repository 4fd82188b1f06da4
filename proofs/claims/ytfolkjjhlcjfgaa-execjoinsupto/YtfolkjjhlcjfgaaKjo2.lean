/- ExecJoins (second form): rows are put together, where two columns are alike, as the document says, where what is given is of bulk at most 1048576. -/
import Derived.Test.YtfolkjjhlcjfgaaKjo1
import Derived.Test.YtfolkjjhlcjfgaaB8
import Derived.Test.YtfolkjjhlcjfgaaB2
import Derived.Test.YtfolkjjhlcjfgaaB6
import Derived.Test.YtfolkjjhlcjfgaaB4
import Derived.Test.YtfolkjjhlcjfgaaB10
import Derived.Below
import Derived.Test.YtfolkjjhlcjfgaaRows
import Derived.Test.YtfolkjjhlcjfgaaB1
import Derived.ProofKit
import Derived.OpenShut
import Derived.ShutString
import Derived.ChangeOld
import Derived.Deep.Slices
import Derived.SizedLaws
import Derived.JoinedCond
import Derived.Deep.CondSized
section
namespace Go.Proofs.Ytfolkjjhlcjfgaa
open Go.RowKit Go.Hay
set_option linter.unusedVariables false
set_option linter.unusedSimpArgs false

set_option maxHeartbeats 64000000 in
set_option maxRecDepth 100000 in
theorem cSymC2 (g o n cap : Nat) (A : Nat → Vs) (cv : Value) (cf : Nat → Nat → Int) (Inv : World → Prop) (hC : CmpOk g n A cv cf Inv) (p : Nat → Nat) (a m b : Nat) (w : World) (h : Hd w g o n cap A p) (hI : Inv w) (hpn : ∀ k, k < n → p k < n) (h1 : a < m) (h2 : m < b) (h3 : b ≤ n) (hA : Srt (fun x y => cf x y < 0) p a m) (hB : Srt (fun x y => cf x y < 0) p m b) (hLo : Low p a m b) (hn : n ≤ 4000000000000) (hcap : n ≤ cap) (hma : a + 1 < m) (hmb : m + 1 < b) (hk : 2 * m ≤ a + b) (IH : ∀ (p' : Nat → Nat) (a' m' b' : Nat) (w' : World), b' - a' < b - a → Hd w' g o n cap A p' → Inv w' → (∀ k, k < n → p' k < n) → a' < m' → m' < b' → b' ≤ n → Srt (fun x y => cf x y < 0) p' a' m' → Srt (fun x y => cf x y < 0) p' m' b' → Low p' a' m' b' → Calls Try.prog 77 #[.slice (some ⟨g, o, none⟩) n cap, .int .i64 (a' : Int), .int .i64 (m' : Int), .int .i64 (b' : Int), .func (.func 55) #[] #[cv]] w' fun e u => (∃ v, e = .returned v) ∧ ∃ s, PermIn a' b' s ∧ Srt (fun x y => cf x y < 0) (fun k => p' (s k)) a' b' ∧ Hd u g o n cap A (fun k => p' (s k)) ∧ Kp [g] w' u) : Calls Try.prog 77 #[.slice (some ⟨g, o, none⟩) n cap, .int .i64 (a : Int), .int .i64 (m : Int), .int .i64 (b : Int), .func (.func 55) #[] #[cv]] w fun e w' => (∃ v, e = .returned v) ∧ ∃ s, PermIn a b s ∧ Srt (fun x y => cf x y < 0) (fun k => p (s k)) a b ∧ Hd w' g o n cap A (fun k => p (s k)) ∧ Kp [g] w w' := by
  have HC := hid hC
  have HI := hid hI
  have HH := hid h
  have HPN := hid hpn
  have HSR := hid (And.intro hA (And.intro hB hLo))
  have q1 : (-9223372036854775808 : Int) ≤ (m : Int) - (a : Int) := by omega
  have q2 : (m : Int) - (a : Int) ≤ 9223372036854775807 := by omega
  clear hC hI h hpn hA hB hLo
  have HIH := hid IH
  clear IH
  have hm1 : ((m : Int) - (a : Int) == 1) = false := by simp; omega
  have hm2 : ¬ ((m : Int) - (a : Int) = 1) := by omega
  have hb1 : ((b : Int) - (m : Int) == 1) = false := by simp; omega
  have hb2 : ¬ ((b : Int) - (m : Int) = 1) := by omega
  have q3 : (-9223372036854775808 : Int) ≤ (b : Int) - (m : Int) := by omega
  have q4 : (b : Int) - (m : Int) ≤ 9223372036854775807 := by omega
  obtain ⟨t, ht⟩ : ∃ t : Nat, t = a + b := ⟨_, rfl⟩
  obtain ⟨mid, hmid⟩ : ∃ h : Nat, h = t / 2 := ⟨_, rfl⟩
  have et : (a : Int) + (b : Int) = (t : Int) := by omega
  have et1 : (-9223372036854775808 : Int) ≤ (a : Int) + (b : Int) := by omega
  have et2 : (a : Int) + (b : Int) ≤ 9223372036854775807 := by omega
  have et3 : (0 : Int) ≤ (t : Int) := by omega
  have et4 : (t : Int) ≤ 9223372036854775807 := by omega
  have et5 : (t : Int) < 18446744073709551616 := by omega
  have eh : (t : Int) / 2 = (mid : Int) := by omega
  have eh2 : (mid : Int) ≤ 9223372036854775807 := by omega
  have eu : IntKind.u64.wrap (t : Int) = (t : Int) := by rw [IntKind.wrap_u64]; omega
  have ew : IntKind.i64.wrap (mid : Int) = (mid : Int) := by rw [IntKind.wrap_i64]; omega
  have ewt : IntKind.i64.wrap (t : Int) = (t : Int) := by rw [IntKind.wrap_i64]; omega
  have hmid1 : 2 * mid ≤ a + b := by omega
  have hmid2 : a + b ≤ 2 * mid + 1 := by omega
  obtain ⟨N, hN⟩ : ∃ N : Nat, N = mid + m := ⟨_, rfl⟩
  obtain ⟨PP, hPP⟩ : ∃ P : Nat, P = N - 1 := ⟨_, rfl⟩
  have eN : (mid : Int) + (m : Int) = (N : Int) := by omega
  have eN1 : (-9223372036854775808 : Int) ≤ (mid : Int) + (m : Int) := by omega
  have eN2 : (mid : Int) + (m : Int) ≤ 9223372036854775807 := by omega
  have eP : (N : Int) - 1 = (PP : Int) := by omega
  have eP1 : (-9223372036854775808 : Int) ≤ (N : Int) - 1 := by omega
  have eP2 : (N : Int) - 1 ≤ 9223372036854775807 := by omega
  have hN1 : N ≤ mid + m := by omega
  have hN2 : mid + m ≤ N := by omega
  have hPP1 : PP + 1 ≤ N := by omega
  have hPP2 : N ≤ PP + 1 := by omega
  have dg : decide ((mid : Int) < (m : Int)) = false := by simp; omega
  have dg2 : ¬ ((mid : Int) < (m : Int)) := by omega
  have HT := hid (And.intro ht hmid)
  clear ht hmid hN hPP
  go_enter Try.func77, Try.ntmps77
  go_wp2_with fail
  clear q1 q2 q3 q4 hm1 hm2 hb1 hb2 et et1 et2 et3 et4 et5 eh eh2 eu ew ewt eN eN1 eN2 eP eP1 eP2 dg dg2 HT
  go_loopw [20, 21, 23] (fun sv rv _ wr => ∃ s r : Nat, (a ≤ s ∧ s ≤ r ∧ r ≤ m) ∧ sv = .int .i64 (s : Int) ∧ rv = .int .i64 (r : Int) ∧ Hid ((s = a ∨ 0 ≤ cf (p (N - s)) (p (s - 1))) ∧ (r = m ∨ cf (p (N - 1 - r)) (p r) < 0)) ∧ Hid (Hd wr g o n cap A p ∧ Kp [g] w wr)) (fun sv rv _ _ => (intOf rv).toNat - (intOf sv).toNat)
  case atStart => exact ⟨a, m, by omega, rfl, rfl, hid ⟨.inl rfl, .inl rfl⟩, hid ⟨HH.out, Kp.refl _ _⟩⟩
  case round =>
    obtain ⟨s, r, ⟨bs, bsr, br⟩, rfl, rfl, hs, hw⟩ := hrel
    by_cases hsr : s < r
    · have i0 : (s : Int) < (r : Int) := by omega
      obtain ⟨t, ht⟩ : ∃ t : Nat, t = s + r := ⟨_, rfl⟩
      obtain ⟨c, hc⟩ : ∃ h : Nat, h = t / 2 := ⟨_, rfl⟩
      have et : (s : Int) + (r : Int) = (t : Int) := by omega
      have et1 : (-9223372036854775808 : Int) ≤ (s : Int) + (r : Int) := by omega
      have et2 : (s : Int) + (r : Int) ≤ 9223372036854775807 := by omega
      have et3 : (0 : Int) ≤ (t : Int) := by omega
      have et4 : (t : Int) ≤ 9223372036854775807 := by omega
      have et5 : (t : Int) < 18446744073709551616 := by omega
      have eh : (t : Int) / 2 = (c : Int) := by omega
      have eh2 : (c : Int) ≤ 9223372036854775807 := by omega
      have eu : IntKind.u64.wrap (t : Int) = (t : Int) := by rw [IntKind.wrap_u64]; omega
      have ew : IntKind.i64.wrap (c : Int) = (c : Int) := by rw [IntKind.wrap_i64]; omega
      have ewt : IntKind.i64.wrap (t : Int) = (t : Int) := by rw [IntKind.wrap_i64]; omega
      have hcb : s ≤ c ∧ c < r := by omega
      have HT := hid (And.intro ht hc)
      clear ht hc
      obtain ⟨x, hx⟩ : ∃ x : Nat, x = PP - c := ⟨_, rfl⟩
      have ex : (PP : Int) - (c : Int) = (x : Int) := by omega
      have wx : IntKind.i64.wrap ((PP : Int) - (c : Int)) = (x : Int) := by rw [ex, IntKind.wrap_i64]; omega
      have wx2 : IntKind.i64.wrap (x : Int) = (x : Int) := by rw [IntKind.wrap_i64]; omega
      have hxn : x < n := by omega
      have i1 : (0 : Int) ≤ (c : Int) := by omega
      have i2 : (c : Int) < (n : Int) := by omega
      have i3 : (0 : Int) ≤ (x : Int) := by omega
      have i4 : (x : Int) < (n : Int) := by omega
      have i5 : (c : Int) + 1 ≤ 9223372036854775807 := by omega
      have HX : Hid (x = N - 1 - c ∧ x = N - (c + 1)) := hid (by omega)
      clear hx
      have cC := hid (fun W' (k : Kp [] wr W') => HC.out.calls W' (p x) (p c) (HC.out.keep _ _ HI.out (hw.out.2.trans k (by simp))) (HPN.out _ (by omega)) (HPN.out _ (by omega)))
      obtain ⟨x0, _⟩ := hw.out.1.cells x (by omega)
      obtain ⟨y0, _⟩ := hw.out.1.cells c (by omega)
      obtain ⟨V1, hV1⟩ : ∃ V, Hid (V = A (p x)) := ⟨_, hid rfl⟩
      obtain ⟨V2, hV2⟩ : ∃ V, Hid (V = A (p c)) := ⟨_, hid rfl⟩
      rw [← hV1.out] at x0 cC
      rw [← hV2.out] at y0 cC
      obtain ⟨C, hCf⟩ : ∃ C, Hid (cf (p x) (p c) = C) := ⟨_, hid rfl⟩
      rw [hCf.out] at cC
      obtain ⟨a1, c1, l1⟩ := V1
      obtain ⟨a2, c2, l2⟩ := V2
      simp only [Vs.v] at cC
      dsimp only at *
      have hF : Hid (∀ W', Kp [] wr W' → (W'.cell? ⟨g, o + x, none⟩ = some (.slice a1 l1.length c1) ∧ W'.cell? ⟨g, o + c, none⟩ = some (.slice a2 l2.length c2))) := fun W' k => ⟨kpAt k x0, kpAt k y0⟩
      clear x0 y0 hV1 hV2
      go_wp2_with fail
      refine wp_region_held_drew (S := fun W' => W'.cell? ⟨g, o + x, none⟩ = some (.slice a1 l1.length c1) ∧ W'.cell? ⟨g, o + c, none⟩ = some (.slice a2 l2.length c2)) (by kernel_rfl) ?_ (fun hHeld => ?_)
      · exact hF.out _ (Kp.refl [] wr).drew
      have KD : Hid (Kp [] wr wr.drew) := hid (Kp.refl [] wr).drew
      generalize wr.drew = Wd at *
      refine wpAnyH_take (i := 0) (v := ?_) rfl (by kernel_rfl) (by kernel_rfl) (by kernel_rfl) (fun _ _ _ h => h) (Or.inl ⟨by rfl, ?_⟩) (by assumption) ?_
      rotate_left
      · intro w hSw; (try dsimp only at hSw); go_simp <;> with_reducible rfl
      try simp only [Act.put, List.getElem_toArray, List.getElem_cons_zero, List.getElem_cons_succ, List.setIfInBounds_toArray, List.set_cons_zero, List.set_cons_succ]
      refine wpAnyH_take (i := 1) (v := ?_) rfl (by kernel_rfl) (by kernel_rfl) (by kernel_rfl) (fun _ _ _ h => h) (Or.inl ⟨by rfl, ?_⟩) (by assumption) ?_
      rotate_left
      · intro w hSw; (try dsimp only at hSw); go_simp <;> with_reducible rfl
      try simp only [Act.put, List.getElem_toArray, List.getElem_cons_zero, List.getElem_cons_succ, List.setIfInBounds_toArray, List.set_cons_zero, List.set_cons_succ]
      refine wpAnyH_take (i := 2) (v := ?_) rfl (by kernel_rfl) (by kernel_rfl) (by kernel_rfl) (fun _ _ _ h => h) (Or.inl ⟨by rfl, ?_⟩) (by assumption) ?_
      rotate_left
      · intro w hSw; (try dsimp only at hSw); go_simp <;> with_reducible rfl
      try simp only [Act.put, List.getElem_toArray, List.getElem_cons_zero, List.getElem_cons_succ, List.setIfInBounds_toArray, List.set_cons_zero, List.set_cons_succ]
      refine wpAnyH_take (i := 3) (v := ?_) rfl (by kernel_rfl) (by kernel_rfl) (by kernel_rfl) (fun _ _ _ h => h) (Or.inl ⟨by rfl, ?_⟩) (by assumption) ?_
      rotate_left
      · intro w hSw; (try dsimp only at hSw); go_simp <;> with_reducible rfl
      try simp only [Act.put, List.getElem_toArray, List.getElem_cons_zero, List.getElem_cons_succ, List.setIfInBounds_toArray, List.set_cons_zero, List.set_cons_succ]
      refine wpAnyH_take (i := 4) (v := ?_) rfl (by kernel_rfl) (by kernel_rfl) (by kernel_rfl) (fun _ _ _ h => h) (Or.inl ⟨by rfl, ?_⟩) (by assumption) ?_
      rotate_left
      · intro w hSw; (try dsimp only at hSw); go_simp <;> (try simp only [wx, wx2]) <;> with_reducible rfl
      try simp only [Act.put, List.getElem_toArray, List.getElem_cons_zero, List.getElem_cons_succ, List.setIfInBounds_toArray, List.set_cons_zero, List.set_cons_succ]
      try simp only [wx, wx2]
      refine wpAnyH_take (i := 5) (v := ?_) rfl (by kernel_rfl) (by kernel_rfl) (by kernel_rfl) (fun _ _ _ h => h) (Or.inl ⟨by rfl, ?_⟩) (by assumption) ?_
      rotate_left
      · intro w hSw; (try dsimp only at hSw); go_simp <;> with_reducible rfl
      try simp only [Act.put, List.getElem_toArray, List.getElem_cons_zero, List.getElem_cons_succ, List.setIfInBounds_toArray, List.set_cons_zero, List.set_cons_succ]
      refine wpAnyH_take (i := 6) (v := ?_) rfl (by kernel_rfl) (by kernel_rfl) (by kernel_rfl) (fun _ _ _ h => h) (Or.inl ⟨by rfl, ?_⟩) (by assumption) ?_
      rotate_left
      · intro w hSw; (try dsimp only at hSw); go_simp <;> with_reducible rfl
      try simp only [Act.put, List.getElem_toArray, List.getElem_cons_zero, List.getElem_cons_succ, List.setIfInBounds_toArray, List.set_cons_zero, List.set_cons_succ]
      refine wpAnyH_take (i := 7) (v := ?_) rfl (by kernel_rfl) (by kernel_rfl) (by kernel_rfl) (fun _ _ _ h => h) (Or.inl ⟨by rfl, ?_⟩) (by assumption) ?_
      rotate_left
      · intro w hSw; (try dsimp only at hSw); go_simp <;> with_reducible rfl
      try simp only [Act.put, List.getElem_toArray, List.getElem_cons_zero, List.getElem_cons_succ, List.setIfInBounds_toArray, List.set_cons_zero, List.set_cons_succ]
      refine wpAnyH_take (i := 8) (v := ?_) rfl (by kernel_rfl) (by kernel_rfl) (by kernel_rfl) (fun _ _ _ h => h) (Or.inl ⟨by rfl, ?_⟩) (by assumption) ?_
      rotate_left
      · intro w hSw; (try dsimp only at hSw); go_simp <;> with_reducible rfl
      try simp only [Act.put, List.getElem_toArray, List.getElem_cons_zero, List.getElem_cons_succ, List.setIfInBounds_toArray, List.set_cons_zero, List.set_cons_succ]
      refine wpAnyH_take (i := 9) (v := ?_) rfl (by kernel_rfl) (by kernel_rfl) (by kernel_rfl) (fun _ _ _ h => h) (Or.inl ⟨by rfl, ?_⟩) (by assumption) ?_
      rotate_left
      · intro w hSw; (try dsimp only at hSw); go_simp <;> with_reducible rfl
      try simp only [Act.put, List.getElem_toArray, List.getElem_cons_zero, List.getElem_cons_succ, List.setIfInBounds_toArray, List.set_cons_zero, List.set_cons_succ]
      refine wpAnyH_take (i := 10) (v := ?_) rfl (by kernel_rfl) (by kernel_rfl) (by kernel_rfl) (fun _ _ _ h => h) (Or.inl ⟨by rfl, ?_⟩) (by assumption) ?_
      rotate_left
      · intro w hSw; (try dsimp only at hSw); go_simp <;> with_reducible rfl
      try simp only [Act.put, List.getElem_toArray, List.getElem_cons_zero, List.getElem_cons_succ, List.setIfInBounds_toArray, List.set_cons_zero, List.set_cons_succ]
      refine wpAnyH_ready (rs := [11]) (by kernel_rfl) (by simp) ?_
      refine AllReadyH.cons rfl (fun K hK => ?_) AllReadyH.nil
      go_simp
      refine (cC.out Wd KD.out).mono ?_
      rintro e u1 ⟨rfl, l1'⟩
      (try go_wp2_with fail)
      refine hK.out _ _ ?_ (fun hHeld => ?_)
      · exact hF.out _ (KD.out.trans l1' (by simp))
      clear hK K
      try simp only [Act.put, List.getElem_toArray, List.getElem_cons_zero, List.getElem_cons_succ, List.setIfInBounds_toArray, List.set_cons_zero, List.set_cons_succ]
      have K1 := hid (KD.out.trans l1' (by simp))
      clear l1' KD
      have hw1 : Hid (Hd u1 g o n cap A p ∧ Kp [g] w u1) := hid ⟨hw.out.1.kept K1.out, hw.out.2.trans K1.out (by simp)⟩
      by_cases hc0 : C < 0
      · have dc : decide (C < 0) = true := by simpa using hc0
        refine wpAnyH_take (i := 12) (v := ?_) rfl (by kernel_rfl) (by kernel_rfl) (by kernel_rfl) (fun _ _ _ h => h) (Or.inl ⟨by rfl, ?_⟩) (by assumption) ?_
        rotate_left
        · intro w hSw; (try dsimp only at hSw); go_simp <;> (try simp only [dc]) <;> with_reducible rfl
        try simp only [Act.put, List.getElem_toArray, List.getElem_cons_zero, List.getElem_cons_succ, List.setIfInBounds_toArray, List.set_cons_zero, List.set_cons_succ]
        try simp only [dc]
        refine wpAnyH_take (i := 13) (v := ?_) rfl (by kernel_rfl) (by kernel_rfl) (by kernel_rfl) (fun _ _ _ h => h) (Or.inl ⟨by rfl, ?_⟩) (by assumption) ?_
        rotate_left
        · intro w hSw; (try dsimp only at hSw); go_simp <;> with_reducible rfl
        try simp only [Act.put, List.getElem_toArray, List.getElem_cons_zero, List.getElem_cons_succ, List.setIfInBounds_toArray, List.set_cons_zero, List.set_cons_succ]
        try simp only [Bool.not_true, Bool.not_false]
        refine wpAnyH_done (by kernel_rfl) ?_ _
        have hs2 : Hid ((s = a ∨ 0 ≤ cf (p (N - s)) (p (s - 1))) ∧ (c = m ∨ cf (p (N - 1 - c)) (p c) < 0)) := hid ⟨hs.out.1, .inr (by rw [← HX.out.1, hCf.out]; exact hc0)⟩
        clear hHeld hF cC hs hw hc0
        go_wp2_with fail
        exact ⟨⟨s, c, by omega, rfl, rfl, hs2, hw1⟩, by simp [intOf]; omega⟩
      · have dc : decide (C < 0) = false := by simpa using hc0
        refine wpAnyH_take (i := 12) (v := ?_) rfl (by kernel_rfl) (by kernel_rfl) (by kernel_rfl) (fun _ _ _ h => h) (Or.inl ⟨by rfl, ?_⟩) (by assumption) ?_
        rotate_left
        · intro w hSw; (try dsimp only at hSw); go_simp <;> (try simp only [dc]) <;> with_reducible rfl
        try simp only [Act.put, List.getElem_toArray, List.getElem_cons_zero, List.getElem_cons_succ, List.setIfInBounds_toArray, List.set_cons_zero, List.set_cons_succ]
        try simp only [dc]
        refine wpAnyH_take (i := 13) (v := ?_) rfl (by kernel_rfl) (by kernel_rfl) (by kernel_rfl) (fun _ _ _ h => h) (Or.inl ⟨by rfl, ?_⟩) (by assumption) ?_
        rotate_left
        · intro w hSw; (try dsimp only at hSw); go_simp <;> with_reducible rfl
        try simp only [Act.put, List.getElem_toArray, List.getElem_cons_zero, List.getElem_cons_succ, List.setIfInBounds_toArray, List.set_cons_zero, List.set_cons_succ]
        try simp only [Bool.not_true, Bool.not_false]
        refine wpAnyH_done (by kernel_rfl) ?_ _
        have hs2 : Hid ((c + 1 = a ∨ 0 ≤ cf (p (N - (c + 1))) (p (c + 1 - 1))) ∧ (r = m ∨ cf (p (N - 1 - r)) (p r) < 0)) := hid ⟨.inr (by rw [Nat.add_sub_cancel, ← HX.out.2, hCf.out]; omega), hs.out.2⟩
        clear hHeld hF cC hs hw hc0
        go_wp2_with fail
        exact ⟨⟨c + 1, r, by omega, by go_num, rfl, hs2, hw1⟩, by simp [intOf]; omega⟩
    · have er : r = s := by omega
      subst er
      rename_i s_
      obtain ⟨s, hss⟩ : ∃ s : Nat, s = r := ⟨_, rfl⟩
      subst hss
      obtain ⟨e, he⟩ : ∃ e : Nat, e = N - s := ⟨_, rfl⟩
      have eE : (N : Int) - (s : Int) = (e : Int) := by omega
      have eE1 : (-9223372036854775808 : Int) ≤ (N : Int) - (s : Int) := by omega
      have eE2 : (N : Int) - (s : Int) ≤ 9223372036854775807 := by omega
      have heb : m ≤ e ∧ e ≤ b ∧ s ≤ mid ∧ s ≤ m ∧ a ≤ s := by omega
      have hem : Hid (mid = s + (e - m)) := hid (by omega)
      have hmb2 : mid < b ∧ a < mid ∧ mid ≤ e := by omega
      have SP := hid (sym_parts HC.out.swo (p := p) heb.2.2.2.2 heb.2.2.2.1 heb.1 heb.2.1 hem.out HSR.out.1 HSR.out.2.1 HSR.out.2.2 (fun g1 g2 => by
        rcases hs.out.2 with h5 | h5
        · omega
        · rw [show e - 1 = N - 1 - s by omega]; exact h5) (fun g1 g2 => by
        rcases hs.out.1 with h5 | h5
        · omega
        · rw [he]; exact Int.not_lt.2 h5))
      clear he hem hs
      by_cases c1 : s < m
      · have d1 : decide ((s : Int) < (m : Int)) = true := by simp; omega
        have d1n : decide (s < m) = true := by simp; omega
        by_cases c2 : m < e
        · have d2 : decide ((m : Int) < (e : Int)) = true := by simp; omega
          have d2n : decide (m < e) = true := by simp; omega
          have cR := hid (cRot g o n cap A p s m e (.func (.func 55) #[] #[cv]) wr hw.out.1 c1 c2 (by omega) hn hcap)
          clear c1 c2
          go_wp2_with fail
          refine cR.out.mono ?_
          rintro e' wt ⟨⟨v, rfl⟩, hd, kd⟩
          have HR := hid (And.intro hd (hw.out.2.trans kd (by simp)))
          clear hd kd cR hw
          by_cases c3 : a < s
          · have e1 : decide ((a : Int) < (s : Int)) = true := by simp; omega
            have e1n : decide (a < s) = true := by simp; omega
            by_cases c4 : s < mid
            · have e2 : decide ((s : Int) < (mid : Int)) = true := by simp; omega
              have e2n : decide (s < mid) = true := by simp; omega
              have cM1 := hid (HIH.out (fun k => p (rot s m e k)) a s mid wt (by omega) HR.out.1 (HC.out.keep _ _ HI.out HR.out.2) (fun k hk => HPN.out _ (((rot_perm (Nat.zero_le s) (by omega) (by omega) (by omega) : PermIn 0 n (rot s m e))).1 k (Nat.zero_le _) hk).2) c3 c4 (by omega) SP.out.1.1 SP.out.1.2.1 SP.out.1.2.2)
              clear c3 c4
              go_wp2_with fail
              refine cM1.out.mono ?_
              rintro e' wm ⟨⟨v, rfl⟩, sa, pa, sa', ha', ka⟩
              have PA := hid pa
              have SA := hid sa'
              have HD := hid (And.intro ha' (HR.out.2.trans ka (by simp)))
              clear pa sa' ha' ka cM1 HR
              have hmx : Hid ((∀ k, mid ≤ k → p (rot s m e (sa k)) = p (rot s m e k))) := hid (fun k hk => by rw [PA.out.2.1 k (by omega)])
              by_cases c5 : mid < e
              · have f1 : decide ((mid : Int) < (e : Int)) = true := by simp; omega
                have f1n : decide (mid < e) = true := by simp; omega
                by_cases c6 : e < b
                · have f2 : decide ((e : Int) < (b : Int)) = true := by simp; omega
                  have f2n : decide (e < b) = true := by simp; omega
                  have cM := hid (HIH.out (fun k => p (rot s m e (sa k))) mid e b wm (by omega) HD.out.1 (HC.out.keep _ _ HI.out HD.out.2) (fun k hk => HPN.out _ (by
                    have r1 := (rot_perm (lo := 0) (hi := n) (Nat.zero_le s) (by omega) (by omega) (by omega) : PermIn 0 n (rot s m e))
                    have r2 := PA.out.mono (Nat.zero_le a) (show mid ≤ n by omega)
                    exact (r1.1 _ (Nat.zero_le _) (r2.1 k (Nat.zero_le _) hk).2).2)) c5 c6 (by omega) (fun i j g1 g2 g3 => by
                      show bef _ (p (rot s m e (sa i))) (p (rot s m e (sa j)))
                      rw [hmx.out i (by omega), hmx.out j (by omega)]; exact SP.out.2.1.1 i j g1 g2 g3) (fun i j g1 g2 g3 => by
                      show bef _ (p (rot s m e (sa i))) (p (rot s m e (sa j)))
                      rw [hmx.out i (by omega), hmx.out j (by omega)]; exact SP.out.2.1.2.1 i j g1 g2 g3) (fun i j g1 g2 g3 g4 => by
                      show p (rot s m e (sa i)) < p (rot s m e (sa j))
                      rw [hmx.out i (by omega), hmx.out j (by omega)]; exact SP.out.2.1.2.2 i j g1 g2 g3 g4))
                  have KX := hid HD.out.2
                  clear c5 c6
                  go_wp2_with fail
                  refine cM.out.mono ?_
                  rintro e' wz ⟨⟨v, rfl⟩, t, pt, st, ht', kt⟩
                  have hfin : Hid (PermIn a b (fun k => rot s m e (sa (t k))) ∧ Srt (fun x y => cf x y < 0) (fun k => p (rot s m e (sa (t k)))) a b ∧ Hd wz g o n cap A (fun k => p (rot s m e (sa (t k)))) ∧ Kp [g] w wz) := hid ⟨(rot_perm (by omega) (by omega) (by omega) (by omega)).comp ((PA.out.mono (Nat.le_refl _) (by omega)).comp (pt.mono (by omega) (Nat.le_refl _))), Srt.join (p := fun k => p (rot s m e k)) PA.out pt SA.out (fun i j g1 g2 g3 => by
                    have h5 := st i j g1 g2 g3
                    have h6 := pt.1 i g1 (by omega)
                    have h7 := pt.1 j (by omega) g3
                    simp only [hmx.out _ h6.1, hmx.out _ h7.1] at h5
                    exact h5) SP.out.2.2, ht', KX.out.trans kt (by simp)⟩
                  clear pt st ht' kt KX
                  go_wp2_with fail
                  go_end0
                  exact ⟨⟨_, rfl⟩, _, hfin.out.1, hfin.out.2.1, hfin.out.2.2.1, hfin.out.2.2.2⟩
                · have f2 : decide ((e : Int) < (b : Int)) = false := by simp; omega
                  have f2n : decide (e < b) = false := by simp; omega
                  have sB : Srt (fun x y => cf x y < 0) (fun k => p (rot s m e k)) mid b := by
                    by_cases c7 : e = mid
                    · rw [← c7]; exact SP.out.2.1.2.1
                    · have c8 : e = b := by omega
                      rw [← c8]; exact SP.out.2.1.1
                  have hfin : Hid (PermIn a b (fun k => rot s m e (sa k)) ∧ Srt (fun x y => cf x y < 0) (fun k => p (rot s m e (sa k))) a b) := hid ⟨(rot_perm (by omega) (by omega) (by omega) (by omega)).comp (PA.out.mono (Nat.le_refl _) (by omega)), Srt.join (p := fun k => p (rot s m e k)) PA.out (PermIn.id mid b) SA.out sB SP.out.2.2⟩
                  clear sB c5
                  go_wp2_with fail
                  go_end0
                  exact ⟨⟨_, rfl⟩, _, hfin.out.1, hfin.out.2, HD.out.1, HD.out.2⟩
              · have f1 : decide ((mid : Int) < (e : Int)) = false := by simp; omega
                have f1n : decide (mid < e) = false := by simp; omega
                have sB : Srt (fun x y => cf x y < 0) (fun k => p (rot s m e k)) mid b := by
                  by_cases c7 : e = mid
                  · rw [← c7]; exact SP.out.2.1.2.1
                  · have c8 : e = b := by omega
                    rw [← c8]; exact SP.out.2.1.1
                have hfin : Hid (PermIn a b (fun k => rot s m e (sa k)) ∧ Srt (fun x y => cf x y < 0) (fun k => p (rot s m e (sa k))) a b) := hid ⟨(rot_perm (by omega) (by omega) (by omega) (by omega)).comp (PA.out.mono (Nat.le_refl _) (by omega)), Srt.join (p := fun k => p (rot s m e k)) PA.out (PermIn.id mid b) SA.out sB SP.out.2.2⟩
                clear sB c5
                go_wp2_with fail
                go_end0
                exact ⟨⟨_, rfl⟩, _, hfin.out.1, hfin.out.2, HD.out.1, HD.out.2⟩
            · have e2 : decide ((s : Int) < (mid : Int)) = false := by simp; omega
              have e2n : decide (s < mid) = false := by simp; omega
              obtain ⟨sa, hsa⟩ : ∃ sa : Nat → Nat, Hid (sa = fun k => k) := ⟨_, hid rfl⟩
              have PA : Hid (PermIn a mid sa) := hid (by rw [hsa.out]; exact PermIn.id _ _)
              have SA : Hid (Srt (fun x y => cf x y < 0) (fun k => p (rot s m e (sa k))) a mid) := hid (by
                rw [hsa.out]
                by_cases c7 : s = a
                · have := SP.out.1.2.1; rwa [c7] at this ⊢
                · have c8 : s = mid := by omega
                  have := SP.out.1.1; rw [c8] at this ⊢; exact this)
              have HD : Hid (Hd wt g o n cap A (fun k => p (rot s m e (sa k))) ∧ Kp [g] w wt) := hid (by rw [hsa.out]; exact HR.out)
              clear c3
              clear c4 HR
              have hmx : Hid ((∀ k, mid ≤ k → p (rot s m e (sa k)) = p (rot s m e k))) := hid (fun k hk => by rw [PA.out.2.1 k (by omega)])
              by_cases c5 : mid < e
              · have f1 : decide ((mid : Int) < (e : Int)) = true := by simp; omega
                have f1n : decide (mid < e) = true := by simp; omega
                by_cases c6 : e < b
                · have f2 : decide ((e : Int) < (b : Int)) = true := by simp; omega
                  have f2n : decide (e < b) = true := by simp; omega
                  have cM := hid (HIH.out (fun k => p (rot s m e (sa k))) mid e b wt (by omega) HD.out.1 (HC.out.keep _ _ HI.out HD.out.2) (fun k hk => HPN.out _ (by
                    have r1 := (rot_perm (lo := 0) (hi := n) (Nat.zero_le s) (by omega) (by omega) (by omega) : PermIn 0 n (rot s m e))
                    have r2 := PA.out.mono (Nat.zero_le a) (show mid ≤ n by omega)
                    exact (r1.1 _ (Nat.zero_le _) (r2.1 k (Nat.zero_le _) hk).2).2)) c5 c6 (by omega) (fun i j g1 g2 g3 => by
                      show bef _ (p (rot s m e (sa i))) (p (rot s m e (sa j)))
                      rw [hmx.out i (by omega), hmx.out j (by omega)]; exact SP.out.2.1.1 i j g1 g2 g3) (fun i j g1 g2 g3 => by
                      show bef _ (p (rot s m e (sa i))) (p (rot s m e (sa j)))
                      rw [hmx.out i (by omega), hmx.out j (by omega)]; exact SP.out.2.1.2.1 i j g1 g2 g3) (fun i j g1 g2 g3 g4 => by
                      show p (rot s m e (sa i)) < p (rot s m e (sa j))
                      rw [hmx.out i (by omega), hmx.out j (by omega)]; exact SP.out.2.1.2.2 i j g1 g2 g3 g4))
                  have KX := hid HD.out.2
                  clear c5 c6
                  go_wp2_with fail
                  refine cM.out.mono ?_
                  rintro e' wz ⟨⟨v, rfl⟩, t, pt, st, ht', kt⟩
                  have hfin : Hid (PermIn a b (fun k => rot s m e (sa (t k))) ∧ Srt (fun x y => cf x y < 0) (fun k => p (rot s m e (sa (t k)))) a b ∧ Hd wz g o n cap A (fun k => p (rot s m e (sa (t k)))) ∧ Kp [g] w wz) := hid ⟨(rot_perm (by omega) (by omega) (by omega) (by omega)).comp ((PA.out.mono (Nat.le_refl _) (by omega)).comp (pt.mono (by omega) (Nat.le_refl _))), Srt.join (p := fun k => p (rot s m e k)) PA.out pt SA.out (fun i j g1 g2 g3 => by
                    have h5 := st i j g1 g2 g3
                    have h6 := pt.1 i g1 (by omega)
                    have h7 := pt.1 j (by omega) g3
                    simp only [hmx.out _ h6.1, hmx.out _ h7.1] at h5
                    exact h5) SP.out.2.2, ht', KX.out.trans kt (by simp)⟩
                  clear pt st ht' kt KX
                  go_wp2_with fail
                  go_end0
                  exact ⟨⟨_, rfl⟩, _, hfin.out.1, hfin.out.2.1, hfin.out.2.2.1, hfin.out.2.2.2⟩
                · have f2 : decide ((e : Int) < (b : Int)) = false := by simp; omega
                  have f2n : decide (e < b) = false := by simp; omega
                  have sB : Srt (fun x y => cf x y < 0) (fun k => p (rot s m e k)) mid b := by
                    by_cases c7 : e = mid
                    · rw [← c7]; exact SP.out.2.1.2.1
                    · have c8 : e = b := by omega
                      rw [← c8]; exact SP.out.2.1.1
                  have hfin : Hid (PermIn a b (fun k => rot s m e (sa k)) ∧ Srt (fun x y => cf x y < 0) (fun k => p (rot s m e (sa k))) a b) := hid ⟨(rot_perm (by omega) (by omega) (by omega) (by omega)).comp (PA.out.mono (Nat.le_refl _) (by omega)), Srt.join (p := fun k => p (rot s m e k)) PA.out (PermIn.id mid b) SA.out sB SP.out.2.2⟩
                  clear sB c5
                  go_wp2_with fail
                  go_end0
                  exact ⟨⟨_, rfl⟩, _, hfin.out.1, hfin.out.2, HD.out.1, HD.out.2⟩
              · have f1 : decide ((mid : Int) < (e : Int)) = false := by simp; omega
                have f1n : decide (mid < e) = false := by simp; omega
                have sB : Srt (fun x y => cf x y < 0) (fun k => p (rot s m e k)) mid b := by
                  by_cases c7 : e = mid
                  · rw [← c7]; exact SP.out.2.1.2.1
                  · have c8 : e = b := by omega
                    rw [← c8]; exact SP.out.2.1.1
                have hfin : Hid (PermIn a b (fun k => rot s m e (sa k)) ∧ Srt (fun x y => cf x y < 0) (fun k => p (rot s m e (sa k))) a b) := hid ⟨(rot_perm (by omega) (by omega) (by omega) (by omega)).comp (PA.out.mono (Nat.le_refl _) (by omega)), Srt.join (p := fun k => p (rot s m e k)) PA.out (PermIn.id mid b) SA.out sB SP.out.2.2⟩
                clear sB c5
                go_wp2_with fail
                go_end0
                exact ⟨⟨_, rfl⟩, _, hfin.out.1, hfin.out.2, HD.out.1, HD.out.2⟩
          · have e1 : decide ((a : Int) < (s : Int)) = false := by simp; omega
            have e1n : decide (a < s) = false := by simp; omega
            obtain ⟨sa, hsa⟩ : ∃ sa : Nat → Nat, Hid (sa = fun k => k) := ⟨_, hid rfl⟩
            have PA : Hid (PermIn a mid sa) := hid (by rw [hsa.out]; exact PermIn.id _ _)
            have SA : Hid (Srt (fun x y => cf x y < 0) (fun k => p (rot s m e (sa k))) a mid) := hid (by
              rw [hsa.out]
              by_cases c7 : s = a
              · have := SP.out.1.2.1; rwa [c7] at this ⊢
              · have c8 : s = mid := by omega
                have := SP.out.1.1; rw [c8] at this ⊢; exact this)
            have HD : Hid (Hd wt g o n cap A (fun k => p (rot s m e (sa k))) ∧ Kp [g] w wt) := hid (by rw [hsa.out]; exact HR.out)
            clear c3
            clear HR
            have hmx : Hid ((∀ k, mid ≤ k → p (rot s m e (sa k)) = p (rot s m e k))) := hid (fun k hk => by rw [PA.out.2.1 k (by omega)])
            by_cases c5 : mid < e
            · have f1 : decide ((mid : Int) < (e : Int)) = true := by simp; omega
              have f1n : decide (mid < e) = true := by simp; omega
              by_cases c6 : e < b
              · have f2 : decide ((e : Int) < (b : Int)) = true := by simp; omega
                have f2n : decide (e < b) = true := by simp; omega
                have cM := hid (HIH.out (fun k => p (rot s m e (sa k))) mid e b wt (by omega) HD.out.1 (HC.out.keep _ _ HI.out HD.out.2) (fun k hk => HPN.out _ (by
                  have r1 := (rot_perm (lo := 0) (hi := n) (Nat.zero_le s) (by omega) (by omega) (by omega) : PermIn 0 n (rot s m e))
                  have r2 := PA.out.mono (Nat.zero_le a) (show mid ≤ n by omega)
                  exact (r1.1 _ (Nat.zero_le _) (r2.1 k (Nat.zero_le _) hk).2).2)) c5 c6 (by omega) (fun i j g1 g2 g3 => by
                    show bef _ (p (rot s m e (sa i))) (p (rot s m e (sa j)))
                    rw [hmx.out i (by omega), hmx.out j (by omega)]; exact SP.out.2.1.1 i j g1 g2 g3) (fun i j g1 g2 g3 => by
                    show bef _ (p (rot s m e (sa i))) (p (rot s m e (sa j)))
                    rw [hmx.out i (by omega), hmx.out j (by omega)]; exact SP.out.2.1.2.1 i j g1 g2 g3) (fun i j g1 g2 g3 g4 => by
                    show p (rot s m e (sa i)) < p (rot s m e (sa j))
                    rw [hmx.out i (by omega), hmx.out j (by omega)]; exact SP.out.2.1.2.2 i j g1 g2 g3 g4))
                have KX := hid HD.out.2
                clear c5 c6
                go_wp2_with fail
                refine cM.out.mono ?_
                rintro e' wz ⟨⟨v, rfl⟩, t, pt, st, ht', kt⟩
                have hfin : Hid (PermIn a b (fun k => rot s m e (sa (t k))) ∧ Srt (fun x y => cf x y < 0) (fun k => p (rot s m e (sa (t k)))) a b ∧ Hd wz g o n cap A (fun k => p (rot s m e (sa (t k)))) ∧ Kp [g] w wz) := hid ⟨(rot_perm (by omega) (by omega) (by omega) (by omega)).comp ((PA.out.mono (Nat.le_refl _) (by omega)).comp (pt.mono (by omega) (Nat.le_refl _))), Srt.join (p := fun k => p (rot s m e k)) PA.out pt SA.out (fun i j g1 g2 g3 => by
                  have h5 := st i j g1 g2 g3
                  have h6 := pt.1 i g1 (by omega)
                  have h7 := pt.1 j (by omega) g3
                  simp only [hmx.out _ h6.1, hmx.out _ h7.1] at h5
                  exact h5) SP.out.2.2, ht', KX.out.trans kt (by simp)⟩
                clear pt st ht' kt KX
                go_wp2_with fail
                go_end0
                exact ⟨⟨_, rfl⟩, _, hfin.out.1, hfin.out.2.1, hfin.out.2.2.1, hfin.out.2.2.2⟩
              · have f2 : decide ((e : Int) < (b : Int)) = false := by simp; omega
                have f2n : decide (e < b) = false := by simp; omega
                have sB : Srt (fun x y => cf x y < 0) (fun k => p (rot s m e k)) mid b := by
                  by_cases c7 : e = mid
                  · rw [← c7]; exact SP.out.2.1.2.1
                  · have c8 : e = b := by omega
                    rw [← c8]; exact SP.out.2.1.1
                have hfin : Hid (PermIn a b (fun k => rot s m e (sa k)) ∧ Srt (fun x y => cf x y < 0) (fun k => p (rot s m e (sa k))) a b) := hid ⟨(rot_perm (by omega) (by omega) (by omega) (by omega)).comp (PA.out.mono (Nat.le_refl _) (by omega)), Srt.join (p := fun k => p (rot s m e k)) PA.out (PermIn.id mid b) SA.out sB SP.out.2.2⟩
                clear sB c5
                go_wp2_with fail
                go_end0
                exact ⟨⟨_, rfl⟩, _, hfin.out.1, hfin.out.2, HD.out.1, HD.out.2⟩
            · have f1 : decide ((mid : Int) < (e : Int)) = false := by simp; omega
              have f1n : decide (mid < e) = false := by simp; omega
              have sB : Srt (fun x y => cf x y < 0) (fun k => p (rot s m e k)) mid b := by
                by_cases c7 : e = mid
                · rw [← c7]; exact SP.out.2.1.2.1
                · have c8 : e = b := by omega
                  rw [← c8]; exact SP.out.2.1.1
              have hfin : Hid (PermIn a b (fun k => rot s m e (sa k)) ∧ Srt (fun x y => cf x y < 0) (fun k => p (rot s m e (sa k))) a b) := hid ⟨(rot_perm (by omega) (by omega) (by omega) (by omega)).comp (PA.out.mono (Nat.le_refl _) (by omega)), Srt.join (p := fun k => p (rot s m e k)) PA.out (PermIn.id mid b) SA.out sB SP.out.2.2⟩
              clear sB c5
              go_wp2_with fail
              go_end0
              exact ⟨⟨_, rfl⟩, _, hfin.out.1, hfin.out.2, HD.out.1, HD.out.2⟩
        · have d2 : decide ((m : Int) < (e : Int)) = false := by simp; omega
          have d2n : decide (m < e) = false := by simp; omega
          have hee : e = m := by omega
          have HR : Hid (Hd wr g o n cap A (fun k => p (rot s m e k)) ∧ Kp [g] w wr) := hid (by rw [hee, rot_right s m (by omega)]; exact hw.out)
          clear hw c1 c2 hee
          by_cases c3 : a < s
          · have e1 : decide ((a : Int) < (s : Int)) = true := by simp; omega
            have e1n : decide (a < s) = true := by simp; omega
            by_cases c4 : s < mid
            · have e2 : decide ((s : Int) < (mid : Int)) = true := by simp; omega
              have e2n : decide (s < mid) = true := by simp; omega
              have cM1 := hid (HIH.out (fun k => p (rot s m e k)) a s mid wr (by omega) HR.out.1 (HC.out.keep _ _ HI.out HR.out.2) (fun k hk => HPN.out _ (((rot_perm (Nat.zero_le s) (by omega) (by omega) (by omega) : PermIn 0 n (rot s m e))).1 k (Nat.zero_le _) hk).2) c3 c4 (by omega) SP.out.1.1 SP.out.1.2.1 SP.out.1.2.2)
              clear c3 c4
              go_wp2_with fail
              refine cM1.out.mono ?_
              rintro e' wm ⟨⟨v, rfl⟩, sa, pa, sa', ha', ka⟩
              have PA := hid pa
              have SA := hid sa'
              have HD := hid (And.intro ha' (HR.out.2.trans ka (by simp)))
              clear pa sa' ha' ka cM1 HR
              have hmx : Hid ((∀ k, mid ≤ k → p (rot s m e (sa k)) = p (rot s m e k))) := hid (fun k hk => by rw [PA.out.2.1 k (by omega)])
              by_cases c5 : mid < e
              · have f1 : decide ((mid : Int) < (e : Int)) = true := by simp; omega
                have f1n : decide (mid < e) = true := by simp; omega
                by_cases c6 : e < b
                · have f2 : decide ((e : Int) < (b : Int)) = true := by simp; omega
                  have f2n : decide (e < b) = true := by simp; omega
                  have cM := hid (HIH.out (fun k => p (rot s m e (sa k))) mid e b wm (by omega) HD.out.1 (HC.out.keep _ _ HI.out HD.out.2) (fun k hk => HPN.out _ (by
                    have r1 := (rot_perm (lo := 0) (hi := n) (Nat.zero_le s) (by omega) (by omega) (by omega) : PermIn 0 n (rot s m e))
                    have r2 := PA.out.mono (Nat.zero_le a) (show mid ≤ n by omega)
                    exact (r1.1 _ (Nat.zero_le _) (r2.1 k (Nat.zero_le _) hk).2).2)) c5 c6 (by omega) (fun i j g1 g2 g3 => by
                      show bef _ (p (rot s m e (sa i))) (p (rot s m e (sa j)))
                      rw [hmx.out i (by omega), hmx.out j (by omega)]; exact SP.out.2.1.1 i j g1 g2 g3) (fun i j g1 g2 g3 => by
                      show bef _ (p (rot s m e (sa i))) (p (rot s m e (sa j)))
                      rw [hmx.out i (by omega), hmx.out j (by omega)]; exact SP.out.2.1.2.1 i j g1 g2 g3) (fun i j g1 g2 g3 g4 => by
                      show p (rot s m e (sa i)) < p (rot s m e (sa j))
                      rw [hmx.out i (by omega), hmx.out j (by omega)]; exact SP.out.2.1.2.2 i j g1 g2 g3 g4))
                  have KX := hid HD.out.2
                  clear c5 c6
                  go_wp2_with fail
                  refine cM.out.mono ?_
                  rintro e' wz ⟨⟨v, rfl⟩, t, pt, st, ht', kt⟩
                  have hfin : Hid (PermIn a b (fun k => rot s m e (sa (t k))) ∧ Srt (fun x y => cf x y < 0) (fun k => p (rot s m e (sa (t k)))) a b ∧ Hd wz g o n cap A (fun k => p (rot s m e (sa (t k)))) ∧ Kp [g] w wz) := hid ⟨(rot_perm (by omega) (by omega) (by omega) (by omega)).comp ((PA.out.mono (Nat.le_refl _) (by omega)).comp (pt.mono (by omega) (Nat.le_refl _))), Srt.join (p := fun k => p (rot s m e k)) PA.out pt SA.out (fun i j g1 g2 g3 => by
                    have h5 := st i j g1 g2 g3
                    have h6 := pt.1 i g1 (by omega)
                    have h7 := pt.1 j (by omega) g3
                    simp only [hmx.out _ h6.1, hmx.out _ h7.1] at h5
                    exact h5) SP.out.2.2, ht', KX.out.trans kt (by simp)⟩
                  clear pt st ht' kt KX
                  go_wp2_with fail
                  go_end0
                  exact ⟨⟨_, rfl⟩, _, hfin.out.1, hfin.out.2.1, hfin.out.2.2.1, hfin.out.2.2.2⟩
                · have f2 : decide ((e : Int) < (b : Int)) = false := by simp; omega
                  have f2n : decide (e < b) = false := by simp; omega
                  have sB : Srt (fun x y => cf x y < 0) (fun k => p (rot s m e k)) mid b := by
                    by_cases c7 : e = mid
                    · rw [← c7]; exact SP.out.2.1.2.1
                    · have c8 : e = b := by omega
                      rw [← c8]; exact SP.out.2.1.1
                  have hfin : Hid (PermIn a b (fun k => rot s m e (sa k)) ∧ Srt (fun x y => cf x y < 0) (fun k => p (rot s m e (sa k))) a b) := hid ⟨(rot_perm (by omega) (by omega) (by omega) (by omega)).comp (PA.out.mono (Nat.le_refl _) (by omega)), Srt.join (p := fun k => p (rot s m e k)) PA.out (PermIn.id mid b) SA.out sB SP.out.2.2⟩
                  clear sB c5
                  go_wp2_with fail
                  go_end0
                  exact ⟨⟨_, rfl⟩, _, hfin.out.1, hfin.out.2, HD.out.1, HD.out.2⟩
              · have f1 : decide ((mid : Int) < (e : Int)) = false := by simp; omega
                have f1n : decide (mid < e) = false := by simp; omega
                have sB : Srt (fun x y => cf x y < 0) (fun k => p (rot s m e k)) mid b := by
                  by_cases c7 : e = mid
                  · rw [← c7]; exact SP.out.2.1.2.1
                  · have c8 : e = b := by omega
                    rw [← c8]; exact SP.out.2.1.1
                have hfin : Hid (PermIn a b (fun k => rot s m e (sa k)) ∧ Srt (fun x y => cf x y < 0) (fun k => p (rot s m e (sa k))) a b) := hid ⟨(rot_perm (by omega) (by omega) (by omega) (by omega)).comp (PA.out.mono (Nat.le_refl _) (by omega)), Srt.join (p := fun k => p (rot s m e k)) PA.out (PermIn.id mid b) SA.out sB SP.out.2.2⟩
                clear sB c5
                go_wp2_with fail
                go_end0
                exact ⟨⟨_, rfl⟩, _, hfin.out.1, hfin.out.2, HD.out.1, HD.out.2⟩
            · have e2 : decide ((s : Int) < (mid : Int)) = false := by simp; omega
              have e2n : decide (s < mid) = false := by simp; omega
              obtain ⟨sa, hsa⟩ : ∃ sa : Nat → Nat, Hid (sa = fun k => k) := ⟨_, hid rfl⟩
              have PA : Hid (PermIn a mid sa) := hid (by rw [hsa.out]; exact PermIn.id _ _)
              have SA : Hid (Srt (fun x y => cf x y < 0) (fun k => p (rot s m e (sa k))) a mid) := hid (by
                rw [hsa.out]
                by_cases c7 : s = a
                · have := SP.out.1.2.1; rwa [c7] at this ⊢
                · have c8 : s = mid := by omega
                  have := SP.out.1.1; rw [c8] at this ⊢; exact this)
              have HD : Hid (Hd wr g o n cap A (fun k => p (rot s m e (sa k))) ∧ Kp [g] w wr) := hid (by rw [hsa.out]; exact HR.out)
              clear c3
              clear c4 HR
              have hmx : Hid ((∀ k, mid ≤ k → p (rot s m e (sa k)) = p (rot s m e k))) := hid (fun k hk => by rw [PA.out.2.1 k (by omega)])
              by_cases c5 : mid < e
              · have f1 : decide ((mid : Int) < (e : Int)) = true := by simp; omega
                have f1n : decide (mid < e) = true := by simp; omega
                by_cases c6 : e < b
                · have f2 : decide ((e : Int) < (b : Int)) = true := by simp; omega
                  have f2n : decide (e < b) = true := by simp; omega
                  have cM := hid (HIH.out (fun k => p (rot s m e (sa k))) mid e b wr (by omega) HD.out.1 (HC.out.keep _ _ HI.out HD.out.2) (fun k hk => HPN.out _ (by
                    have r1 := (rot_perm (lo := 0) (hi := n) (Nat.zero_le s) (by omega) (by omega) (by omega) : PermIn 0 n (rot s m e))
                    have r2 := PA.out.mono (Nat.zero_le a) (show mid ≤ n by omega)
                    exact (r1.1 _ (Nat.zero_le _) (r2.1 k (Nat.zero_le _) hk).2).2)) c5 c6 (by omega) (fun i j g1 g2 g3 => by
                      show bef _ (p (rot s m e (sa i))) (p (rot s m e (sa j)))
                      rw [hmx.out i (by omega), hmx.out j (by omega)]; exact SP.out.2.1.1 i j g1 g2 g3) (fun i j g1 g2 g3 => by
                      show bef _ (p (rot s m e (sa i))) (p (rot s m e (sa j)))
                      rw [hmx.out i (by omega), hmx.out j (by omega)]; exact SP.out.2.1.2.1 i j g1 g2 g3) (fun i j g1 g2 g3 g4 => by
                      show p (rot s m e (sa i)) < p (rot s m e (sa j))
                      rw [hmx.out i (by omega), hmx.out j (by omega)]; exact SP.out.2.1.2.2 i j g1 g2 g3 g4))
                  have KX := hid HD.out.2
                  clear c5 c6
                  go_wp2_with fail
                  refine cM.out.mono ?_
                  rintro e' wz ⟨⟨v, rfl⟩, t, pt, st, ht', kt⟩
                  have hfin : Hid (PermIn a b (fun k => rot s m e (sa (t k))) ∧ Srt (fun x y => cf x y < 0) (fun k => p (rot s m e (sa (t k)))) a b ∧ Hd wz g o n cap A (fun k => p (rot s m e (sa (t k)))) ∧ Kp [g] w wz) := hid ⟨(rot_perm (by omega) (by omega) (by omega) (by omega)).comp ((PA.out.mono (Nat.le_refl _) (by omega)).comp (pt.mono (by omega) (Nat.le_refl _))), Srt.join (p := fun k => p (rot s m e k)) PA.out pt SA.out (fun i j g1 g2 g3 => by
                    have h5 := st i j g1 g2 g3
                    have h6 := pt.1 i g1 (by omega)
                    have h7 := pt.1 j (by omega) g3
                    simp only [hmx.out _ h6.1, hmx.out _ h7.1] at h5
                    exact h5) SP.out.2.2, ht', KX.out.trans kt (by simp)⟩
                  clear pt st ht' kt KX
                  go_wp2_with fail
                  go_end0
                  exact ⟨⟨_, rfl⟩, _, hfin.out.1, hfin.out.2.1, hfin.out.2.2.1, hfin.out.2.2.2⟩
                · have f2 : decide ((e : Int) < (b : Int)) = false := by simp; omega
                  have f2n : decide (e < b) = false := by simp; omega
                  have sB : Srt (fun x y => cf x y < 0) (fun k => p (rot s m e k)) mid b := by
                    by_cases c7 : e = mid
                    · rw [← c7]; exact SP.out.2.1.2.1
                    · have c8 : e = b := by omega
                      rw [← c8]; exact SP.out.2.1.1
                  have hfin : Hid (PermIn a b (fun k => rot s m e (sa k)) ∧ Srt (fun x y => cf x y < 0) (fun k => p (rot s m e (sa k))) a b) := hid ⟨(rot_perm (by omega) (by omega) (by omega) (by omega)).comp (PA.out.mono (Nat.le_refl _) (by omega)), Srt.join (p := fun k => p (rot s m e k)) PA.out (PermIn.id mid b) SA.out sB SP.out.2.2⟩
                  clear sB c5
                  go_wp2_with fail
                  go_end0
                  exact ⟨⟨_, rfl⟩, _, hfin.out.1, hfin.out.2, HD.out.1, HD.out.2⟩
              · have f1 : decide ((mid : Int) < (e : Int)) = false := by simp; omega
                have f1n : decide (mid < e) = false := by simp; omega
                have sB : Srt (fun x y => cf x y < 0) (fun k => p (rot s m e k)) mid b := by
                  by_cases c7 : e = mid
                  · rw [← c7]; exact SP.out.2.1.2.1
                  · have c8 : e = b := by omega
                    rw [← c8]; exact SP.out.2.1.1
                have hfin : Hid (PermIn a b (fun k => rot s m e (sa k)) ∧ Srt (fun x y => cf x y < 0) (fun k => p (rot s m e (sa k))) a b) := hid ⟨(rot_perm (by omega) (by omega) (by omega) (by omega)).comp (PA.out.mono (Nat.le_refl _) (by omega)), Srt.join (p := fun k => p (rot s m e k)) PA.out (PermIn.id mid b) SA.out sB SP.out.2.2⟩
                clear sB c5
                go_wp2_with fail
                go_end0
                exact ⟨⟨_, rfl⟩, _, hfin.out.1, hfin.out.2, HD.out.1, HD.out.2⟩
          · have e1 : decide ((a : Int) < (s : Int)) = false := by simp; omega
            have e1n : decide (a < s) = false := by simp; omega
            obtain ⟨sa, hsa⟩ : ∃ sa : Nat → Nat, Hid (sa = fun k => k) := ⟨_, hid rfl⟩
            have PA : Hid (PermIn a mid sa) := hid (by rw [hsa.out]; exact PermIn.id _ _)
            have SA : Hid (Srt (fun x y => cf x y < 0) (fun k => p (rot s m e (sa k))) a mid) := hid (by
              rw [hsa.out]
              by_cases c7 : s = a
              · have := SP.out.1.2.1; rwa [c7] at this ⊢
              · have c8 : s = mid := by omega
                have := SP.out.1.1; rw [c8] at this ⊢; exact this)
            have HD : Hid (Hd wr g o n cap A (fun k => p (rot s m e (sa k))) ∧ Kp [g] w wr) := hid (by rw [hsa.out]; exact HR.out)
            clear c3
            clear HR
            have hmx : Hid ((∀ k, mid ≤ k → p (rot s m e (sa k)) = p (rot s m e k))) := hid (fun k hk => by rw [PA.out.2.1 k (by omega)])
            by_cases c5 : mid < e
            · have f1 : decide ((mid : Int) < (e : Int)) = true := by simp; omega
              have f1n : decide (mid < e) = true := by simp; omega
              by_cases c6 : e < b
              · have f2 : decide ((e : Int) < (b : Int)) = true := by simp; omega
                have f2n : decide (e < b) = true := by simp; omega
                have cM := hid (HIH.out (fun k => p (rot s m e (sa k))) mid e b wr (by omega) HD.out.1 (HC.out.keep _ _ HI.out HD.out.2) (fun k hk => HPN.out _ (by
                  have r1 := (rot_perm (lo := 0) (hi := n) (Nat.zero_le s) (by omega) (by omega) (by omega) : PermIn 0 n (rot s m e))
                  have r2 := PA.out.mono (Nat.zero_le a) (show mid ≤ n by omega)
                  exact (r1.1 _ (Nat.zero_le _) (r2.1 k (Nat.zero_le _) hk).2).2)) c5 c6 (by omega) (fun i j g1 g2 g3 => by
                    show bef _ (p (rot s m e (sa i))) (p (rot s m e (sa j)))
                    rw [hmx.out i (by omega), hmx.out j (by omega)]; exact SP.out.2.1.1 i j g1 g2 g3) (fun i j g1 g2 g3 => by
                    show bef _ (p (rot s m e (sa i))) (p (rot s m e (sa j)))
                    rw [hmx.out i (by omega), hmx.out j (by omega)]; exact SP.out.2.1.2.1 i j g1 g2 g3) (fun i j g1 g2 g3 g4 => by
                    show p (rot s m e (sa i)) < p (rot s m e (sa j))
                    rw [hmx.out i (by omega), hmx.out j (by omega)]; exact SP.out.2.1.2.2 i j g1 g2 g3 g4))
                have KX := hid HD.out.2
                clear c5 c6
                go_wp2_with fail
                refine cM.out.mono ?_
                rintro e' wz ⟨⟨v, rfl⟩, t, pt, st, ht', kt⟩
                have hfin : Hid (PermIn a b (fun k => rot s m e (sa (t k))) ∧ Srt (fun x y => cf x y < 0) (fun k => p (rot s m e (sa (t k)))) a b ∧ Hd wz g o n cap A (fun k => p (rot s m e (sa (t k)))) ∧ Kp [g] w wz) := hid ⟨(rot_perm (by omega) (by omega) (by omega) (by omega)).comp ((PA.out.mono (Nat.le_refl _) (by omega)).comp (pt.mono (by omega) (Nat.le_refl _))), Srt.join (p := fun k => p (rot s m e k)) PA.out pt SA.out (fun i j g1 g2 g3 => by
                  have h5 := st i j g1 g2 g3
                  have h6 := pt.1 i g1 (by omega)
                  have h7 := pt.1 j (by omega) g3
                  simp only [hmx.out _ h6.1, hmx.out _ h7.1] at h5
                  exact h5) SP.out.2.2, ht', KX.out.trans kt (by simp)⟩
                clear pt st ht' kt KX
                go_wp2_with fail
                go_end0
                exact ⟨⟨_, rfl⟩, _, hfin.out.1, hfin.out.2.1, hfin.out.2.2.1, hfin.out.2.2.2⟩
              · have f2 : decide ((e : Int) < (b : Int)) = false := by simp; omega
                have f2n : decide (e < b) = false := by simp; omega
                have sB : Srt (fun x y => cf x y < 0) (fun k => p (rot s m e k)) mid b := by
                  by_cases c7 : e = mid
                  · rw [← c7]; exact SP.out.2.1.2.1
                  · have c8 : e = b := by omega
                    rw [← c8]; exact SP.out.2.1.1
                have hfin : Hid (PermIn a b (fun k => rot s m e (sa k)) ∧ Srt (fun x y => cf x y < 0) (fun k => p (rot s m e (sa k))) a b) := hid ⟨(rot_perm (by omega) (by omega) (by omega) (by omega)).comp (PA.out.mono (Nat.le_refl _) (by omega)), Srt.join (p := fun k => p (rot s m e k)) PA.out (PermIn.id mid b) SA.out sB SP.out.2.2⟩
                clear sB c5
                go_wp2_with fail
                go_end0
                exact ⟨⟨_, rfl⟩, _, hfin.out.1, hfin.out.2, HD.out.1, HD.out.2⟩
            · have f1 : decide ((mid : Int) < (e : Int)) = false := by simp; omega
              have f1n : decide (mid < e) = false := by simp; omega
              have sB : Srt (fun x y => cf x y < 0) (fun k => p (rot s m e k)) mid b := by
                by_cases c7 : e = mid
                · rw [← c7]; exact SP.out.2.1.2.1
                · have c8 : e = b := by omega
                  rw [← c8]; exact SP.out.2.1.1
              have hfin : Hid (PermIn a b (fun k => rot s m e (sa k)) ∧ Srt (fun x y => cf x y < 0) (fun k => p (rot s m e (sa k))) a b) := hid ⟨(rot_perm (by omega) (by omega) (by omega) (by omega)).comp (PA.out.mono (Nat.le_refl _) (by omega)), Srt.join (p := fun k => p (rot s m e k)) PA.out (PermIn.id mid b) SA.out sB SP.out.2.2⟩
              clear sB c5
              go_wp2_with fail
              go_end0
              exact ⟨⟨_, rfl⟩, _, hfin.out.1, hfin.out.2, HD.out.1, HD.out.2⟩
      · have d1 : decide ((s : Int) < (m : Int)) = false := by simp; omega
        have d1n : decide (s < m) = false := by simp; omega
        have hee : s = m := by omega
        have HR : Hid (Hd wr g o n cap A (fun k => p (rot s m e k)) ∧ Kp [g] w wr) := hid (by rw [hee, rot_left]; exact hw.out)
        clear hw c1 hee
        by_cases c3 : a < s
        · have e1 : decide ((a : Int) < (s : Int)) = true := by simp; omega
          have e1n : decide (a < s) = true := by simp; omega
          by_cases c4 : s < mid
          · have e2 : decide ((s : Int) < (mid : Int)) = true := by simp; omega
            have e2n : decide (s < mid) = true := by simp; omega
            have cM1 := hid (HIH.out (fun k => p (rot s m e k)) a s mid wr (by omega) HR.out.1 (HC.out.keep _ _ HI.out HR.out.2) (fun k hk => HPN.out _ (((rot_perm (Nat.zero_le s) (by omega) (by omega) (by omega) : PermIn 0 n (rot s m e))).1 k (Nat.zero_le _) hk).2) c3 c4 (by omega) SP.out.1.1 SP.out.1.2.1 SP.out.1.2.2)
            clear c3 c4
            go_wp2_with fail
            refine cM1.out.mono ?_
            rintro e' wm ⟨⟨v, rfl⟩, sa, pa, sa', ha', ka⟩
            have PA := hid pa
            have SA := hid sa'
            have HD := hid (And.intro ha' (HR.out.2.trans ka (by simp)))
            clear pa sa' ha' ka cM1 HR
            have hmx : Hid ((∀ k, mid ≤ k → p (rot s m e (sa k)) = p (rot s m e k))) := hid (fun k hk => by rw [PA.out.2.1 k (by omega)])
            by_cases c5 : mid < e
            · have f1 : decide ((mid : Int) < (e : Int)) = true := by simp; omega
              have f1n : decide (mid < e) = true := by simp; omega
              by_cases c6 : e < b
              · have f2 : decide ((e : Int) < (b : Int)) = true := by simp; omega
                have f2n : decide (e < b) = true := by simp; omega
                have cM := hid (HIH.out (fun k => p (rot s m e (sa k))) mid e b wm (by omega) HD.out.1 (HC.out.keep _ _ HI.out HD.out.2) (fun k hk => HPN.out _ (by
                  have r1 := (rot_perm (lo := 0) (hi := n) (Nat.zero_le s) (by omega) (by omega) (by omega) : PermIn 0 n (rot s m e))
                  have r2 := PA.out.mono (Nat.zero_le a) (show mid ≤ n by omega)
                  exact (r1.1 _ (Nat.zero_le _) (r2.1 k (Nat.zero_le _) hk).2).2)) c5 c6 (by omega) (fun i j g1 g2 g3 => by
                    show bef _ (p (rot s m e (sa i))) (p (rot s m e (sa j)))
                    rw [hmx.out i (by omega), hmx.out j (by omega)]; exact SP.out.2.1.1 i j g1 g2 g3) (fun i j g1 g2 g3 => by
                    show bef _ (p (rot s m e (sa i))) (p (rot s m e (sa j)))
                    rw [hmx.out i (by omega), hmx.out j (by omega)]; exact SP.out.2.1.2.1 i j g1 g2 g3) (fun i j g1 g2 g3 g4 => by
                    show p (rot s m e (sa i)) < p (rot s m e (sa j))
                    rw [hmx.out i (by omega), hmx.out j (by omega)]; exact SP.out.2.1.2.2 i j g1 g2 g3 g4))
                have KX := hid HD.out.2
                clear c5 c6
                go_wp2_with fail
                refine cM.out.mono ?_
                rintro e' wz ⟨⟨v, rfl⟩, t, pt, st, ht', kt⟩
                have hfin : Hid (PermIn a b (fun k => rot s m e (sa (t k))) ∧ Srt (fun x y => cf x y < 0) (fun k => p (rot s m e (sa (t k)))) a b ∧ Hd wz g o n cap A (fun k => p (rot s m e (sa (t k)))) ∧ Kp [g] w wz) := hid ⟨(rot_perm (by omega) (by omega) (by omega) (by omega)).comp ((PA.out.mono (Nat.le_refl _) (by omega)).comp (pt.mono (by omega) (Nat.le_refl _))), Srt.join (p := fun k => p (rot s m e k)) PA.out pt SA.out (fun i j g1 g2 g3 => by
                  have h5 := st i j g1 g2 g3
                  have h6 := pt.1 i g1 (by omega)
                  have h7 := pt.1 j (by omega) g3
                  simp only [hmx.out _ h6.1, hmx.out _ h7.1] at h5
                  exact h5) SP.out.2.2, ht', KX.out.trans kt (by simp)⟩
                clear pt st ht' kt KX
                go_wp2_with fail
                go_end0
                exact ⟨⟨_, rfl⟩, _, hfin.out.1, hfin.out.2.1, hfin.out.2.2.1, hfin.out.2.2.2⟩
              · have f2 : decide ((e : Int) < (b : Int)) = false := by simp; omega
                have f2n : decide (e < b) = false := by simp; omega
                have sB : Srt (fun x y => cf x y < 0) (fun k => p (rot s m e k)) mid b := by
                  by_cases c7 : e = mid
                  · rw [← c7]; exact SP.out.2.1.2.1
                  · have c8 : e = b := by omega
                    rw [← c8]; exact SP.out.2.1.1
                have hfin : Hid (PermIn a b (fun k => rot s m e (sa k)) ∧ Srt (fun x y => cf x y < 0) (fun k => p (rot s m e (sa k))) a b) := hid ⟨(rot_perm (by omega) (by omega) (by omega) (by omega)).comp (PA.out.mono (Nat.le_refl _) (by omega)), Srt.join (p := fun k => p (rot s m e k)) PA.out (PermIn.id mid b) SA.out sB SP.out.2.2⟩
                clear sB c5
                go_wp2_with fail
                go_end0
                exact ⟨⟨_, rfl⟩, _, hfin.out.1, hfin.out.2, HD.out.1, HD.out.2⟩
            · have f1 : decide ((mid : Int) < (e : Int)) = false := by simp; omega
              have f1n : decide (mid < e) = false := by simp; omega
              have sB : Srt (fun x y => cf x y < 0) (fun k => p (rot s m e k)) mid b := by
                by_cases c7 : e = mid
                · rw [← c7]; exact SP.out.2.1.2.1
                · have c8 : e = b := by omega
                  rw [← c8]; exact SP.out.2.1.1
              have hfin : Hid (PermIn a b (fun k => rot s m e (sa k)) ∧ Srt (fun x y => cf x y < 0) (fun k => p (rot s m e (sa k))) a b) := hid ⟨(rot_perm (by omega) (by omega) (by omega) (by omega)).comp (PA.out.mono (Nat.le_refl _) (by omega)), Srt.join (p := fun k => p (rot s m e k)) PA.out (PermIn.id mid b) SA.out sB SP.out.2.2⟩
              clear sB c5
              go_wp2_with fail
              go_end0
              exact ⟨⟨_, rfl⟩, _, hfin.out.1, hfin.out.2, HD.out.1, HD.out.2⟩
          · have e2 : decide ((s : Int) < (mid : Int)) = false := by simp; omega
            have e2n : decide (s < mid) = false := by simp; omega
            obtain ⟨sa, hsa⟩ : ∃ sa : Nat → Nat, Hid (sa = fun k => k) := ⟨_, hid rfl⟩
            have PA : Hid (PermIn a mid sa) := hid (by rw [hsa.out]; exact PermIn.id _ _)
            have SA : Hid (Srt (fun x y => cf x y < 0) (fun k => p (rot s m e (sa k))) a mid) := hid (by
              rw [hsa.out]
              by_cases c7 : s = a
              · have := SP.out.1.2.1; rwa [c7] at this ⊢
              · have c8 : s = mid := by omega
                have := SP.out.1.1; rw [c8] at this ⊢; exact this)
            have HD : Hid (Hd wr g o n cap A (fun k => p (rot s m e (sa k))) ∧ Kp [g] w wr) := hid (by rw [hsa.out]; exact HR.out)
            clear c3
            clear c4 HR
            have hmx : Hid ((∀ k, mid ≤ k → p (rot s m e (sa k)) = p (rot s m e k))) := hid (fun k hk => by rw [PA.out.2.1 k (by omega)])
            by_cases c5 : mid < e
            · have f1 : decide ((mid : Int) < (e : Int)) = true := by simp; omega
              have f1n : decide (mid < e) = true := by simp; omega
              by_cases c6 : e < b
              · have f2 : decide ((e : Int) < (b : Int)) = true := by simp; omega
                have f2n : decide (e < b) = true := by simp; omega
                have cM := hid (HIH.out (fun k => p (rot s m e (sa k))) mid e b wr (by omega) HD.out.1 (HC.out.keep _ _ HI.out HD.out.2) (fun k hk => HPN.out _ (by
                  have r1 := (rot_perm (lo := 0) (hi := n) (Nat.zero_le s) (by omega) (by omega) (by omega) : PermIn 0 n (rot s m e))
                  have r2 := PA.out.mono (Nat.zero_le a) (show mid ≤ n by omega)
                  exact (r1.1 _ (Nat.zero_le _) (r2.1 k (Nat.zero_le _) hk).2).2)) c5 c6 (by omega) (fun i j g1 g2 g3 => by
                    show bef _ (p (rot s m e (sa i))) (p (rot s m e (sa j)))
                    rw [hmx.out i (by omega), hmx.out j (by omega)]; exact SP.out.2.1.1 i j g1 g2 g3) (fun i j g1 g2 g3 => by
                    show bef _ (p (rot s m e (sa i))) (p (rot s m e (sa j)))
                    rw [hmx.out i (by omega), hmx.out j (by omega)]; exact SP.out.2.1.2.1 i j g1 g2 g3) (fun i j g1 g2 g3 g4 => by
                    show p (rot s m e (sa i)) < p (rot s m e (sa j))
                    rw [hmx.out i (by omega), hmx.out j (by omega)]; exact SP.out.2.1.2.2 i j g1 g2 g3 g4))
                have KX := hid HD.out.2
                clear c5 c6
                go_wp2_with fail
                refine cM.out.mono ?_
                rintro e' wz ⟨⟨v, rfl⟩, t, pt, st, ht', kt⟩
                have hfin : Hid (PermIn a b (fun k => rot s m e (sa (t k))) ∧ Srt (fun x y => cf x y < 0) (fun k => p (rot s m e (sa (t k)))) a b ∧ Hd wz g o n cap A (fun k => p (rot s m e (sa (t k)))) ∧ Kp [g] w wz) := hid ⟨(rot_perm (by omega) (by omega) (by omega) (by omega)).comp ((PA.out.mono (Nat.le_refl _) (by omega)).comp (pt.mono (by omega) (Nat.le_refl _))), Srt.join (p := fun k => p (rot s m e k)) PA.out pt SA.out (fun i j g1 g2 g3 => by
                  have h5 := st i j g1 g2 g3
                  have h6 := pt.1 i g1 (by omega)
                  have h7 := pt.1 j (by omega) g3
                  simp only [hmx.out _ h6.1, hmx.out _ h7.1] at h5
                  exact h5) SP.out.2.2, ht', KX.out.trans kt (by simp)⟩
                clear pt st ht' kt KX
                go_wp2_with fail
                go_end0
                exact ⟨⟨_, rfl⟩, _, hfin.out.1, hfin.out.2.1, hfin.out.2.2.1, hfin.out.2.2.2⟩
              · have f2 : decide ((e : Int) < (b : Int)) = false := by simp; omega
                have f2n : decide (e < b) = false := by simp; omega
                have sB : Srt (fun x y => cf x y < 0) (fun k => p (rot s m e k)) mid b := by
                  by_cases c7 : e = mid
                  · rw [← c7]; exact SP.out.2.1.2.1
                  · have c8 : e = b := by omega
                    rw [← c8]; exact SP.out.2.1.1
                have hfin : Hid (PermIn a b (fun k => rot s m e (sa k)) ∧ Srt (fun x y => cf x y < 0) (fun k => p (rot s m e (sa k))) a b) := hid ⟨(rot_perm (by omega) (by omega) (by omega) (by omega)).comp (PA.out.mono (Nat.le_refl _) (by omega)), Srt.join (p := fun k => p (rot s m e k)) PA.out (PermIn.id mid b) SA.out sB SP.out.2.2⟩
                clear sB c5
                go_wp2_with fail
                go_end0
                exact ⟨⟨_, rfl⟩, _, hfin.out.1, hfin.out.2, HD.out.1, HD.out.2⟩
            · have f1 : decide ((mid : Int) < (e : Int)) = false := by simp; omega
              have f1n : decide (mid < e) = false := by simp; omega
              have sB : Srt (fun x y => cf x y < 0) (fun k => p (rot s m e k)) mid b := by
                by_cases c7 : e = mid
                · rw [← c7]; exact SP.out.2.1.2.1
                · have c8 : e = b := by omega
                  rw [← c8]; exact SP.out.2.1.1
              have hfin : Hid (PermIn a b (fun k => rot s m e (sa k)) ∧ Srt (fun x y => cf x y < 0) (fun k => p (rot s m e (sa k))) a b) := hid ⟨(rot_perm (by omega) (by omega) (by omega) (by omega)).comp (PA.out.mono (Nat.le_refl _) (by omega)), Srt.join (p := fun k => p (rot s m e k)) PA.out (PermIn.id mid b) SA.out sB SP.out.2.2⟩
              clear sB c5
              go_wp2_with fail
              go_end0
              exact ⟨⟨_, rfl⟩, _, hfin.out.1, hfin.out.2, HD.out.1, HD.out.2⟩
        · have e1 : decide ((a : Int) < (s : Int)) = false := by simp; omega
          have e1n : decide (a < s) = false := by simp; omega
          obtain ⟨sa, hsa⟩ : ∃ sa : Nat → Nat, Hid (sa = fun k => k) := ⟨_, hid rfl⟩
          have PA : Hid (PermIn a mid sa) := hid (by rw [hsa.out]; exact PermIn.id _ _)
          have SA : Hid (Srt (fun x y => cf x y < 0) (fun k => p (rot s m e (sa k))) a mid) := hid (by
            rw [hsa.out]
            by_cases c7 : s = a
            · have := SP.out.1.2.1; rwa [c7] at this ⊢
            · have c8 : s = mid := by omega
              have := SP.out.1.1; rw [c8] at this ⊢; exact this)
          have HD : Hid (Hd wr g o n cap A (fun k => p (rot s m e (sa k))) ∧ Kp [g] w wr) := hid (by rw [hsa.out]; exact HR.out)
          clear c3
          clear HR
          have hmx : Hid ((∀ k, mid ≤ k → p (rot s m e (sa k)) = p (rot s m e k))) := hid (fun k hk => by rw [PA.out.2.1 k (by omega)])
          by_cases c5 : mid < e
          · have f1 : decide ((mid : Int) < (e : Int)) = true := by simp; omega
            have f1n : decide (mid < e) = true := by simp; omega
            by_cases c6 : e < b
            · have f2 : decide ((e : Int) < (b : Int)) = true := by simp; omega
              have f2n : decide (e < b) = true := by simp; omega
              have cM := hid (HIH.out (fun k => p (rot s m e (sa k))) mid e b wr (by omega) HD.out.1 (HC.out.keep _ _ HI.out HD.out.2) (fun k hk => HPN.out _ (by
                have r1 := (rot_perm (lo := 0) (hi := n) (Nat.zero_le s) (by omega) (by omega) (by omega) : PermIn 0 n (rot s m e))
                have r2 := PA.out.mono (Nat.zero_le a) (show mid ≤ n by omega)
                exact (r1.1 _ (Nat.zero_le _) (r2.1 k (Nat.zero_le _) hk).2).2)) c5 c6 (by omega) (fun i j g1 g2 g3 => by
                  show bef _ (p (rot s m e (sa i))) (p (rot s m e (sa j)))
                  rw [hmx.out i (by omega), hmx.out j (by omega)]; exact SP.out.2.1.1 i j g1 g2 g3) (fun i j g1 g2 g3 => by
                  show bef _ (p (rot s m e (sa i))) (p (rot s m e (sa j)))
                  rw [hmx.out i (by omega), hmx.out j (by omega)]; exact SP.out.2.1.2.1 i j g1 g2 g3) (fun i j g1 g2 g3 g4 => by
                  show p (rot s m e (sa i)) < p (rot s m e (sa j))
                  rw [hmx.out i (by omega), hmx.out j (by omega)]; exact SP.out.2.1.2.2 i j g1 g2 g3 g4))
              have KX := hid HD.out.2
              clear c5 c6
              go_wp2_with fail
              refine cM.out.mono ?_
              rintro e' wz ⟨⟨v, rfl⟩, t, pt, st, ht', kt⟩
              have hfin : Hid (PermIn a b (fun k => rot s m e (sa (t k))) ∧ Srt (fun x y => cf x y < 0) (fun k => p (rot s m e (sa (t k)))) a b ∧ Hd wz g o n cap A (fun k => p (rot s m e (sa (t k)))) ∧ Kp [g] w wz) := hid ⟨(rot_perm (by omega) (by omega) (by omega) (by omega)).comp ((PA.out.mono (Nat.le_refl _) (by omega)).comp (pt.mono (by omega) (Nat.le_refl _))), Srt.join (p := fun k => p (rot s m e k)) PA.out pt SA.out (fun i j g1 g2 g3 => by
                have h5 := st i j g1 g2 g3
                have h6 := pt.1 i g1 (by omega)
                have h7 := pt.1 j (by omega) g3
                simp only [hmx.out _ h6.1, hmx.out _ h7.1] at h5
                exact h5) SP.out.2.2, ht', KX.out.trans kt (by simp)⟩
              clear pt st ht' kt KX
              go_wp2_with fail
              go_end0
              exact ⟨⟨_, rfl⟩, _, hfin.out.1, hfin.out.2.1, hfin.out.2.2.1, hfin.out.2.2.2⟩
            · have f2 : decide ((e : Int) < (b : Int)) = false := by simp; omega
              have f2n : decide (e < b) = false := by simp; omega
              have sB : Srt (fun x y => cf x y < 0) (fun k => p (rot s m e k)) mid b := by
                by_cases c7 : e = mid
                · rw [← c7]; exact SP.out.2.1.2.1
                · have c8 : e = b := by omega
                  rw [← c8]; exact SP.out.2.1.1
              have hfin : Hid (PermIn a b (fun k => rot s m e (sa k)) ∧ Srt (fun x y => cf x y < 0) (fun k => p (rot s m e (sa k))) a b) := hid ⟨(rot_perm (by omega) (by omega) (by omega) (by omega)).comp (PA.out.mono (Nat.le_refl _) (by omega)), Srt.join (p := fun k => p (rot s m e k)) PA.out (PermIn.id mid b) SA.out sB SP.out.2.2⟩
              clear sB c5
              go_wp2_with fail
              go_end0
              exact ⟨⟨_, rfl⟩, _, hfin.out.1, hfin.out.2, HD.out.1, HD.out.2⟩
          · have f1 : decide ((mid : Int) < (e : Int)) = false := by simp; omega
            have f1n : decide (mid < e) = false := by simp; omega
            have sB : Srt (fun x y => cf x y < 0) (fun k => p (rot s m e k)) mid b := by
              by_cases c7 : e = mid
              · rw [← c7]; exact SP.out.2.1.2.1
              · have c8 : e = b := by omega
                rw [← c8]; exact SP.out.2.1.1
            have hfin : Hid (PermIn a b (fun k => rot s m e (sa k)) ∧ Srt (fun x y => cf x y < 0) (fun k => p (rot s m e (sa k))) a b) := hid ⟨(rot_perm (by omega) (by omega) (by omega) (by omega)).comp (PA.out.mono (Nat.le_refl _) (by omega)), Srt.join (p := fun k => p (rot s m e k)) PA.out (PermIn.id mid b) SA.out sB SP.out.2.2⟩
            clear sB c5
            go_wp2_with fail
            go_end0
            exact ⟨⟨_, rfl⟩, _, hfin.out.1, hfin.out.2, HD.out.1, HD.out.2⟩
end Go.Proofs.Ytfolkjjhlcjfgaa
end

section
namespace Go.Proofs.Ytfolkjjhlcjfgaa
open Go.RowKit Go.Hay
set_option linter.unusedVariables false
set_option linter.unusedSimpArgs false

theorem cSym (g o n cap : Nat) (A : Nat → Vs) (cv : Value) (cf : Nat → Nat → Int) (Inv : World → Prop) (hC : CmpOk g n A cv cf Inv) (hn : n ≤ 4000000000000) (hcap : n ≤ cap) : ∀ (d : Nat) (p : Nat → Nat) (a m b : Nat) (w : World), b - a ≤ d → Hd w g o n cap A p → Inv w → (∀ k, k < n → p k < n) → a < m → m < b → b ≤ n → Srt (fun x y => cf x y < 0) p a m → Srt (fun x y => cf x y < 0) p m b → Low p a m b → Calls Try.prog 77 #[.slice (some ⟨g, o, none⟩) n cap, .int .i64 (a : Int), .int .i64 (m : Int), .int .i64 (b : Int), .func (.func 55) #[] #[cv]] w fun e w' => (∃ v, e = .returned v) ∧ ∃ s, PermIn a b s ∧ Srt (fun x y => cf x y < 0) (fun k => p (s k)) a b ∧ Hd w' g o n cap A (fun k => p (s k)) ∧ Kp [g] w w'
  | 0, p, a, m, b, w, hd, h, hI, hpn, h1, h2, h3, hA, hB, hLo => by omega
  | d + 1, p, a, m, b, w, hd, h, hI, hpn, h1, h2, h3, hA, hB, hLo => by
    by_cases c1 : m ≤ a + 1
    · exact cSymA g o n cap A cv cf Inv hC p a m b w h hI hpn h1 h2 h3 hA hB hLo hn hcap c1
    by_cases c2 : b ≤ m + 1
    · exact cSymB g o n cap A cv cf Inv hC p a m b w h hI hpn h1 h2 h3 hA hB hLo hn hcap (by omega) c2
    have IH := fun (p' : Nat → Nat) (a' m' b' : Nat) (w' : World) (hlt : b' - a' < b - a) h' hI' hpn' h1' h2' h3' hA' hB' hLo' => cSym g o n cap A cv cf Inv hC hn hcap d p' a' m' b' w' (by omega) h' hI' hpn' h1' h2' h3' hA' hB' hLo'
    by_cases c3 : a + b < 2 * m
    · exact cSymC1 g o n cap A cv cf Inv hC p a m b w h hI hpn h1 h2 h3 hA hB hLo hn hcap (by omega) (by omega) c3 IH
    · exact cSymC2 g o n cap A cv cf Inv hC p a m b w h hI hpn h1 h2 h3 hA hB hLo hn hcap (by omega) (by omega) (by omega) IH
end Go.Proofs.Ytfolkjjhlcjfgaa
end

section
namespace Go.Proofs.Ytfolkjjhlcjfgaa
open Go.RowKit Go.Hay
set_option linter.unusedVariables false
set_option linter.unusedSimpArgs false

/-- A run: in order, and made of its own places. -/
def Sg (lt : Nat → Nat → Prop) (s : Nat → Nat) (x y : Nat) : Prop := Srt lt s x y ∧ ∀ k, x ≤ k → k < y → x ≤ s k ∧ s k < y
theorem Sg.congr {lt : Nat → Nat → Prop} {s t : Nat → Nat} {x y : Nat} (h : Sg lt s x y) (ht : ∀ k, x ≤ k → k < y → t k = k) : Sg lt (fun k => s (t k)) x y :=
  ⟨fun i j g1 g2 g3 => by
    show bef lt (s (t i)) (s (t j))
    rw [ht i g1 (by omega), ht j (by omega) g3]
    exact h.1 i j g1 g2 g3, fun k g1 g2 => by
    show x ≤ s (t k) ∧ s (t k) < y
    rw [ht k g1 g2]
    exact h.2 k g1 g2⟩
/-- Two runs that were merged. -/
theorem Sg.merged {lt : Nat → Nat → Prop} {s t : Nat → Nat} {a m b : Nat} (h1 : Sg lt s a m) (h2 : Sg lt s m b) (hab : a ≤ m) (hmb : m ≤ b) (ht : PermIn a b t) (hs : Srt lt (fun k => s (t k)) a b) : Sg lt (fun k => s (t k)) a b :=
  ⟨hs, fun k g1 g2 => by
    show a ≤ s (t k) ∧ s (t k) < b
    have h3 := ht.1 k g1 g2
    by_cases c : t k < m
    · have := h1.2 _ h3.1 c
      omega
    · have := h2.2 (t k) (by omega) h3.2
      omega⟩
theorem Sg.low {lt : Nat → Nat → Prop} {s : Nat → Nat} {a m b : Nat} (h1 : Sg lt s a m) (h2 : Sg lt s m b) : Low s a m b := fun i j g1 g2 g3 g4 => by
  have := h1.2 i g1 g2
  have := h2.2 j g3 g4
  omega
/-- Whole runs, up to x. -/
inductive Ln (lt : Nat → Nat → Prop) (s : Nat → Nat) (bs : Nat) : Nat → Prop
  | nil : Ln lt s bs 0
  | snoc {x : Nat} : Ln lt s bs x → Sg lt s x (x + bs) → Ln lt s bs (x + bs)
/-- Runs from x on; the last one may be short. -/
inductive Rn (lt : Nat → Nat → Prop) (s : Nat → Nat) (bs n : Nat) : Nat → Prop
  | done {x : Nat} : n ≤ x → Rn lt s bs n x
  | step {x : Nat} : x < n → Sg lt s x (min (x + bs) n) → Rn lt s bs n (x + bs) → Rn lt s bs n x
theorem Ln.congr {lt : Nat → Nat → Prop} {s t : Nat → Nat} {bs x : Nat} (h : Ln lt s bs x) : (∀ k, k < x → t k = k) → Ln lt (fun k => s (t k)) bs x := by
  induction h with
  | nil => intro _; exact .nil
  | snoc h1 h2 ih => intro ht; exact .snoc (ih fun k hk => ht k (by omega)) (h2.congr fun k _ g => ht k g)
theorem Rn.congr {lt : Nat → Nat → Prop} {s t : Nat → Nat} {bs n x : Nat} (h : Rn lt s bs n x) : (∀ k, x ≤ k → k < n → t k = k) → Rn lt (fun k => s (t k)) bs n x := by
  induction h with
  | done h => intro _; exact .done h
  | step h1 h2 h3 ih => intro ht; exact .step h1 (h2.congr fun k g1 g2 => ht k g1 (by omega)) (ih fun k g1 g2 => ht k (by omega) g2)
theorem Ln.all {lt : Nat → Nat → Prop} {s : Nat → Nat} {bs n x : Nat} (h : Ln lt s bs x) (hb : 0 < bs) : x ≤ n → Rn lt s bs n x → Rn lt s bs n 0 := by
  induction h with
  | nil => intro _ h; exact h
  | snoc h1 h2 ih => intro hx hr; exact ih (by omega) (.step (by omega) (by rw [Nat.min_eq_left hx]; exact h2) hr)
theorem Rn.two {lt : Nat → Nat → Prop} {s : Nat → Nat} {bs n a : Nat} (h : Rn lt s bs n a) (hb : 0 < bs) (hab : a + bs < n) : Sg lt s a (a + bs) ∧ Sg lt s (a + bs) (min (a + bs + bs) n) ∧ Rn lt s bs n (a + bs + bs) := by
  cases h with
  | done h => omega
  | step h1 h2 h3 =>
    rw [Nat.min_eq_left (by omega)] at h2
    cases h3 with
    | done h => omega
    | step h4 h5 h6 => exact ⟨h2, h5, h6⟩
theorem Rn.last {lt : Nat → Nat → Prop} {s : Nat → Nat} {bs n a : Nat} (h : Rn lt s bs n a) (han : a < n) (hab : n ≤ a + bs) : Sg lt s a n := by
  cases h with
  | done h => omega
  | step h1 h2 h3 => rwa [Nat.min_eq_right hab] at h2
theorem Sg.fresh {lt : Nat → Nat → Prop} {s t : Nat → Nat} {a b : Nat} (hs : PermIn 0 a s) (ht : PermIn a b t) (h : Srt lt (fun k => s (t k)) a b) : Sg lt (fun k => s (t k)) a b :=
  ⟨h, fun k g1 g2 => by
    show a ≤ s (t k) ∧ s (t k) < b
    have h3 := ht.1 k g1 g2
    rw [hs.2.1 (t k) (by omega)]
    exact h3⟩
set_option maxHeartbeats 64000000 in
set_option maxRecDepth 100000 in
theorem cStable (g o n cap : Nat) (A : Nat → Vs) (cv : Value) (cf : Nat → Nat → Int) (Inv : World → Prop) (hC : CmpOk g n A cv cf Inv) (hn : n ≤ 4000000000000) (hcap : n ≤ cap) (w : World) (h : Hd w g o n cap A (fun k => k)) (hI : Inv w) : Calls Try.prog 67 #[.slice (some ⟨g, o, none⟩) n cap, .int .i64 (n : Int), .func (.func 55) #[] #[cv]] w fun e w' => (∃ v, e = .returned v) ∧ ∃ s, PermIn 0 n s ∧ Srt (fun x y => cf x y < 0) s 0 n ∧ Hd w' g o n cap A s ∧ Kp [g] w w' := by
  have HC := hid hC
  have HI := hid hI
  have HH := hid h
  clear hC hI h
  go_enter Try.func67, Try.ntmps67
  go_wp2_with fail
  go_loopw [7, 8] (fun av bv wr => ∃ (a b : Nat) (s : Nat → Nat), (a ≤ n ∧ a + 20 ≤ b ∧ b ≤ a + 20) ∧ av = .int .i64 (a : Int) ∧ bv = .int .i64 (b : Int) ∧ Hid (PermIn 0 a s ∧ Ln (fun x y => cf x y < 0) s 20 a) ∧ Hid (Hd wr g o n cap A s ∧ Kp [g] w wr)) (fun av _ _ => n + 20 - (intOf av).toNat)
  case atStart => exact ⟨0, 20, fun k => k, by omega, rfl, rfl, hid ⟨PermIn.id _ _, .nil⟩, hid ⟨HH.out, Kp.refl _ _⟩⟩
  case round =>
    obtain ⟨a, b, s, ⟨ba, bb1, bb2⟩, rfl, rfl, hs, hw⟩ := hrel
    by_cases hbn : b ≤ n
    · have d0 : decide ((b : Int) ≤ (n : Int)) = true := by simp; omega
      have d1 : (b : Int) ≤ (n : Int) := by omega
      have cI := hid (cIns g o n cap A cv cf Inv HC.out s a b wr hw.out.1 (HC.out.keep _ _ HI.out hw.out.2) (fun k g1 g2 => hs.out.1.2.1 k (by omega)) (by omega) hbn hn hcap)
      obtain ⟨b', hb2'⟩ : ∃ x : Nat, x = b + 20 := ⟨_, rfl⟩
      have ebx : (b : Int) + 20 = (b' : Int) := by omega
      have ebx1 : (-9223372036854775808 : Int) ≤ (b : Int) + 20 := by omega
      have ebx2 : (b : Int) + 20 ≤ 9223372036854775807 := by omega
      have HW := hid hw.out.2
      have hb3 : a ≤ b ∧ b + 20 ≤ b' ∧ b' ≤ b + 20 := by omega
      clear hb2' hw
      go_wp2_with fail
      refine cI.out.mono ?_
      rintro e w1 ⟨⟨v, rfl⟩, t, pt, st, hd, kd⟩
      have hs2 : Hid (PermIn 0 b (fun k => s (t k)) ∧ Ln (fun x y => cf x y < 0) (fun k => s (t k)) 20 b) := hid ⟨(hs.out.1.mono (Nat.le_refl _) (by omega)).comp (pt.mono (Nat.zero_le _) (Nat.le_refl _)), by
        have e : b = a + 20 := by omega
        subst e
        exact .snoc (hs.out.2.congr fun k hk => pt.2.1 k (by omega)) (Sg.fresh hs.out.1 pt st)⟩
      have hw2 := hid (And.intro hd (HW.out.trans kd (by simp)))
      clear pt st hd kd hs HW cI
      go_wp2_with fail
      exact ⟨⟨b, b', fun k => s (t k), by omega, rfl, rfl, hs2, hw2⟩, by simp [intOf]; omega⟩
    · have d0 : decide ((b : Int) ≤ (n : Int)) = false := by simp; omega
      have d1 : ¬ ((b : Int) ≤ (n : Int)) := by omega
      have cI := hid (cIns g o n cap A cv cf Inv HC.out s a n wr hw.out.1 (HC.out.keep _ _ HI.out hw.out.2) (fun k g1 g2 => hs.out.1.2.1 k (by omega)) ba (Nat.le_refl _) hn hcap)
      have HW := hid hw.out.2
      clear hw
      go_wp2_with fail
      refine cI.out.mono ?_
      rintro e w1 ⟨⟨v, rfl⟩, t, pt, st, hd, kd⟩
      have hs2 : Hid (PermIn 0 n (fun k => s (t k)) ∧ Rn (fun x y => cf x y < 0) (fun k => s (t k)) 20 n 0) := hid ⟨(hs.out.1.mono (Nat.le_refl _) ba).comp (pt.mono (Nat.zero_le _) (Nat.le_refl _)), (hs.out.2.congr fun k hk => pt.2.1 k (by omega)).all (by omega) ba (by
        by_cases c : a < n
        · exact .step c (by rw [Nat.min_eq_right (by omega)]; exact Sg.fresh hs.out.1 pt st) (.done (by omega))
        · exact .done (by omega))⟩
      have hw2 := hid (And.intro hd (HW.out.trans kd (by simp)))
      clear pt st hd kd hs HW cI
      go_wp2_with fail
      go_loopw [6, 7, 8, 9] (fun zv _ _ _ wn => ∃ (bs : Nat) (s : Nat → Nat), (20 ≤ bs ∧ bs ≤ n + n + 20) ∧ zv = .int .i64 (bs : Int) ∧ Hid (PermIn 0 n s ∧ Rn (fun x y => cf x y < 0) s bs n 0) ∧ Hid (Hd wn g o n cap A s ∧ Kp [g] w wn)) (fun zv _ _ _ _ => n + n + 20 - (intOf zv).toNat)
      case atStart => exact ⟨20, _, by omega, rfl, hs2, hw2⟩
      case round =>
        obtain ⟨bs, s, ⟨bz1, bz2⟩, rfl, hs, hw⟩ := hrel
        clear hs2 hw2
        by_cases hzn : bs < n
        · have i0 : (bs : Int) < (n : Int) := by omega
          obtain ⟨B, hB⟩ : ∃ x : Nat, x = 2 * bs := ⟨_, rfl⟩
          have eB : (2 : Int) * (bs : Int) = (B : Int) := by omega
          have eB1 : (-9223372036854775808 : Int) ≤ (2 : Int) * (bs : Int) := by omega
          have eB2 : (2 : Int) * (bs : Int) ≤ 9223372036854775807 := by omega
          obtain ⟨B2, hB2⟩ : ∃ x : Nat, x = 2 * bs := ⟨_, rfl⟩
          have eB2 : (bs : Int) * 2 = (B2 : Int) := by omega
          have eB21 : (-9223372036854775808 : Int) ≤ (bs : Int) * 2 := by omega
          have eB22 : (bs : Int) * 2 ≤ 9223372036854775807 := by omega
          have hBb : bs + bs ≤ B ∧ B ≤ bs + bs ∧ B2 ≤ bs + bs ∧ bs + bs ≤ B2 := by omega
          clear hB hB2
          go_wp2_with fail
          go_loopw [7, 8] (fun av bv wn => ∃ (a b : Nat) (s : Nat → Nat), (a ≤ n ∧ a + B ≤ b ∧ b ≤ a + B) ∧ av = .int .i64 (a : Int) ∧ bv = .int .i64 (b : Int) ∧ Hid (PermIn 0 n s ∧ Ln (fun x y => cf x y < 0) s B a ∧ Rn (fun x y => cf x y < 0) s bs n a) ∧ Hid (Hd wn g o n cap A s ∧ Kp [g] w wn)) (fun av _ _ => n + 1 - (intOf av).toNat)
          case atStart => exact ⟨0, B, s, by omega, rfl, rfl, hid ⟨hs.out.1, .nil, hs.out.2⟩, hw⟩
          case round =>
            obtain ⟨a, b, s, ⟨ba, bb1, bb2⟩, rfl, rfl, hs, hw⟩ := hrel
            obtain ⟨m, hm⟩ : ∃ x : Nat, x = a + bs := ⟨_, rfl⟩
            have em : (a : Int) + (bs : Int) = (m : Int) := by omega
            have em1 : (-9223372036854775808 : Int) ≤ (a : Int) + (bs : Int) := by omega
            have em2 : (a : Int) + (bs : Int) ≤ 9223372036854775807 := by omega
            have hm2 : m ≤ a + bs ∧ a + bs ≤ m := by omega
            clear hm
            by_cases hbn : b ≤ n
            · have d0 : decide ((b : Int) ≤ (n : Int)) = true := by simp; omega
              have d1 : (b : Int) ≤ (n : Int) := by omega
              obtain ⟨b2, hb2⟩ : ∃ x : Nat, x = b + B := ⟨_, rfl⟩
              have eb2 : (b : Int) + (B : Int) = (b2 : Int) := by omega
              have eb21 : (-9223372036854775808 : Int) ≤ (b : Int) + (B : Int) := by omega
              have eb22 : (b : Int) + (B : Int) ≤ 9223372036854775807 := by omega
              have hb3 : b2 ≤ b + B ∧ b + B ≤ b2 := by omega
              have hem : m = a + bs := by omega
              have heb : b = a + bs + bs := by omega
              obtain ⟨r1, r2, r3⟩ := hs.out.2.2.two (by omega) (by omega)
              rw [Nat.min_eq_left (by omega)] at r2
              rw [← hem] at r1 r2 r3
              have heb2 : b = m + bs := by omega
              rw [← heb2] at r2 r3
              have cM := hid (cSym g o n cap A cv cf Inv HC.out hn hcap (b - a) s a m b wr (Nat.le_refl _) hw.out.1 (HC.out.keep _ _ HI.out hw.out.2) (fun k hk => (hs.out.1.1 k (Nat.zero_le _) hk).2) (by omega) (by omega) hbn r1.1 r2.1 (r1.low r2))
              have HW := hid hw.out.2
              have RR := hid (And.intro r1 (And.intro r2 r3))
              clear hb2 hw hem heb heb2 r1 r2 r3
              go_wp2_with fail
              refine cM.out.mono ?_
              rintro e w1 ⟨⟨v, rfl⟩, t, pt, st, hd, kd⟩
              have hs2 : Hid (PermIn 0 n (fun k => s (t k)) ∧ Ln (fun x y => cf x y < 0) (fun k => s (t k)) B b ∧ Rn (fun x y => cf x y < 0) (fun k => s (t k)) bs n b) := hid ⟨hs.out.1.comp (pt.mono (Nat.zero_le _) hbn), by
                have hSg := Sg.merged RR.out.1 RR.out.2.1 (by omega) (by omega) pt st
                have e : b = a + B := by omega
                rw [e] at hSg ⊢
                exact .snoc (hs.out.2.1.congr fun k hk => pt.2.1 k (by omega)) hSg, RR.out.2.2.congr fun k g1 g2 => pt.2.1 k (by omega)⟩
              have hw2 := hid (And.intro hd (HW.out.trans kd (by simp)))
              clear pt st hd kd hs HW cM RR
              go_wp2_with fail
              exact ⟨⟨b, b2, fun k => s (t k), by omega, rfl, rfl, hs2, hw2⟩, by simp [intOf]; omega⟩
            · have d0 : decide ((b : Int) ≤ (n : Int)) = false := by simp; omega
              have d1 : ¬ ((b : Int) ≤ (n : Int)) := by omega
              by_cases hmn : m < n
              · have i5 : (m : Int) < (n : Int) := by omega
                have hem : m = a + bs := by omega
                obtain ⟨r1, r2, r3⟩ := hs.out.2.2.two (by omega) (by omega)
                rw [Nat.min_eq_right (by omega)] at r2
                rw [← hem] at r1 r2
                have cM := hid (cSym g o n cap A cv cf Inv HC.out hn hcap (n - a) s a m n wr (Nat.le_refl _) hw.out.1 (HC.out.keep _ _ HI.out hw.out.2) (fun k hk => (hs.out.1.1 k (Nat.zero_le _) hk).2) (by omega) hmn (Nat.le_refl _) r1.1 r2.1 (r1.low r2))
                have HW := hid hw.out.2
                have RR := hid (And.intro r1 r2)
                clear hw hem r1 r2 r3
                go_wp2_with fail
                refine cM.out.mono ?_
                rintro e w1 ⟨⟨v, rfl⟩, t, pt, st, hd, kd⟩
                have hs2 : Hid (PermIn 0 n (fun k => s (t k)) ∧ Rn (fun x y => cf x y < 0) (fun k => s (t k)) B2 n 0) := hid ⟨hs.out.1.comp (pt.mono (Nat.zero_le _) (Nat.le_refl _)), by
                  have hSg := Sg.merged RR.out.1 RR.out.2 (by omega) (by omega) pt st
                  have e : B2 = B := by omega
                  rw [e]
                  exact (hs.out.2.1.congr fun k hk => pt.2.1 k (by omega)).all (by omega) ba (.step (by omega) (by rw [Nat.min_eq_right (by omega)]; exact hSg) (.done (by omega)))⟩
                have hw2 := hid (And.intro hd (HW.out.trans kd (by simp)))
                clear pt st hd kd hs HW cM RR
                go_wp2_with fail
                exact ⟨⟨B2, fun k => s (t k), by omega, rfl, hs2, hw2⟩, by simp [intOf]; omega⟩
              · have i5 : ¬ ((m : Int) < (n : Int)) := by omega
                have i6 : decide ((m : Int) < (n : Int)) = false := by simp; omega
                have hs2 : Hid (PermIn 0 n s ∧ Rn (fun x y => cf x y < 0) s B2 n 0) := hid ⟨hs.out.1, by
                  have e : B2 = B := by omega
                  rw [e]
                  refine hs.out.2.1.all (by omega) ba ?_
                  by_cases c : a < n
                  · exact .step c (by rw [Nat.min_eq_right (by omega)]; exact hs.out.2.2.last c (by omega)) (.done (by omega))
                  · exact .done (by omega)⟩
                clear hs
                go_wp2_with fail
                exact ⟨⟨B2, s, by omega, rfl, hs2, hw⟩, by simp [intOf]; omega⟩
        · have d2 : decide ((bs : Int) < (n : Int)) = false := by simp; omega
          have d3 : ¬ ((bs : Int) < (n : Int)) := by omega
          have hfin : Hid (Srt (fun x y => cf x y < 0) s 0 n) := hid (by
            by_cases c : 0 < n
            · exact (hs.out.2.last c (by omega)).1
            · exact Srt.one _ _ _ _ (by omega))
          go_wp2_with fail
          go_end0
          exact ⟨⟨_, rfl⟩, s, hs.out.1, hfin.out, hw.out.1, hw.out.2⟩
theorem cSortStable (g o n cap : Nat) (A : Nat → Vs) (cv : Value) (cf : Nat → Nat → Int) (Inv : World → Prop) (hC : CmpOk g n A cv cf Inv) (hn : n ≤ 4000000000000) (hcap : n ≤ cap) (w : World) (h : Hd w g o n cap A (fun k => k)) (hI : Inv w) : Calls Try.prog 50 #[.slice (some ⟨g, o, none⟩) n cap, .func (.func 55) #[] #[cv]] w fun e w' => (∃ v, e = .returned v) ∧ ∃ s, PermIn 0 n s ∧ Srt (fun x y => cf x y < 0) s 0 n ∧ Hd w' g o n cap A s ∧ Kp [g] w w' := by
  have cS := hid (cStable g o n cap A cv cf Inv hC hn hcap w h hI)
  clear hC h hI
  go_enter Try.func50, Try.ntmps50
  go_wp2_with fail
  refine cS.out.mono ?_
  rintro e w1 ⟨⟨v, rfl⟩, hp⟩
  have HP := hid hp
  clear hp
  go_wp2_with fail
  go_end0
  exact ⟨⟨_, rfl⟩, HP.out⟩
end Go.Proofs.Ytfolkjjhlcjfgaa
end

section
namespace Go.Proofs.Ytfolkjjhlcjfgaa
open Go.RowKit Go.Hay
attribute [local go_sem] Oper.semAt_some
set_option linter.unusedVariables false
set_option linter.unusedSimpArgs false

set_option maxHeartbeats 8000000 in
set_option maxRecDepth 100000 in
theorem cOrdC (x y : Vs) (qo : Nat) (on : Int) (w : World) (hx : x.lies w) (hy : y.lies w) (ho : w.cell? ⟨qo, 0, none⟩ = some (.int .i64 on)) :
    Calls Try.prog 55 #[x.v, y.v, .pointer (some ⟨qo, 0, none⟩)] w fun e w' => e = .returned (.int .i64 (cmpV (vAt x.l on) (vAt y.l on))) ∧ Kp [] w w' := by
  obtain ⟨xa, xc, xl⟩ := x
  obtain ⟨ya, yc, yl⟩ := y
  have h1 := hx.cap; have h2 := hx.most; have h3 := hy.cap; have h4 := hy.most
  unfold maxLen at h2 h4
  dsimp only [Vs.v] at *
  have cA : Hid (∀ A, Kp [] w A → Calls Try.prog 35 #[.slice xa xl.length xc, .int .i64 on] A fun e w' => e = .returned (.agg #[.int .i64 (vAt xl on).k, .bool (vAt xl on).b, .int .i64 (vAt xl on).n, .string (vAt xl on).t]) ∧ Kp [] A w') := fun A k => cAtE xa xc xl on A (hx.see.kept k) (by omega)
  have cB : Hid (∀ A, Kp [] w A → Calls Try.prog 35 #[.slice ya yl.length yc, .int .i64 on] A fun e w' => e = .returned (.agg #[.int .i64 (vAt yl on).k, .bool (vAt yl on).b, .int .i64 (vAt yl on).n, .string (vAt yl on).t]) ∧ Kp [] A w') := fun A k => cAtE ya yc yl on A (hy.see.kept k) (by omega)
  obtain ⟨⟨uk, ub, un, ut⟩, hu⟩ : ∃ y, Hid (vAt xl on = y) := ⟨_, rfl⟩
  obtain ⟨⟨vk, vb, vn, vt⟩, hv⟩ : ∃ y, Hid (vAt yl on = y) := ⟨_, rfl⟩
  simp only [hu.out] at cA
  simp only [hv.out] at cB
  rw [hu.out, hv.out]
  have cC := hid (fun A => cCompare ⟨uk, ub, un, ut⟩ ⟨vk, vb, vn, vt⟩ A)
  simp only [Val.v] at cC
  have hS : Hid (∀ A, Kp [] w A → A.cell? ⟨qo, 0, none⟩ = some (.int .i64 on)) := fun A k => kpAt k ho
  clear hx hy
  go_enter Try.func55, Try.ntmps55
  go_wp2_with fail
  refine wp_noPanicY ?_
  refine wp_region_held_drew (S := fun A => A.cell? ⟨qo, 0, none⟩ = some (.int .i64 on)) (by kernel_rfl) (hS.out _ (Kp.refl _ _).drew) (fun hHeld => ?_)
  have KD : Hid (Kp [] w w.drew) := hid (Kp.refl _ _).drew
  generalize w.drew = wd at *
  refine wpAnyH_take (i := 0) (v := ?_) rfl (by kernel_rfl) (by kernel_rfl) (by kernel_rfl) (fun _ _ _ h => by cases h.1) (Or.inl ⟨by rfl, ?_⟩) (by assumption) ?_
  rotate_left
  · intro w hSw; (try dsimp only at hSw); go_simp <;> with_reducible rfl
  try simp only [Act.put, List.getElem_toArray, List.getElem_cons_zero, List.getElem_cons_succ, List.setIfInBounds_toArray, List.set_cons_zero, List.set_cons_succ]
  refine wpAnyH_take (i := 1) (v := ?_) rfl (by kernel_rfl) (by kernel_rfl) (by kernel_rfl) (fun _ _ _ h => by cases h.1) (Or.inl ⟨by rfl, ?_⟩) (by assumption) ?_
  rotate_left
  · intro w hSw; (try dsimp only at hSw); go_simp <;> with_reducible rfl
  try simp only [Act.put, List.getElem_toArray, List.getElem_cons_zero, List.getElem_cons_succ, List.setIfInBounds_toArray, List.set_cons_zero, List.set_cons_succ]
  refine wpAnyH_take (i := 3) (v := ?_) rfl (by kernel_rfl) (by kernel_rfl) (by kernel_rfl) (fun _ _ _ h => by cases h.1) (Or.inl ⟨by rfl, ?_⟩) (by assumption) ?_
  rotate_left
  · intro w hSw; (try dsimp only at hSw); go_simp <;> with_reducible rfl
  try simp only [Act.put, List.getElem_toArray, List.getElem_cons_zero, List.getElem_cons_succ, List.setIfInBounds_toArray, List.set_cons_zero, List.set_cons_succ]
  refine wpAnyH_take (i := 4) (v := ?_) rfl (by kernel_rfl) (by kernel_rfl) (by kernel_rfl) (fun _ _ _ h => by cases h.1) (Or.inl ⟨by rfl, ?_⟩) (by assumption) ?_
  rotate_left
  · intro w hSw; (try dsimp only at hSw); go_simp <;> with_reducible rfl
  try simp only [Act.put, List.getElem_toArray, List.getElem_cons_zero, List.getElem_cons_succ, List.setIfInBounds_toArray, List.set_cons_zero, List.set_cons_succ]
  refine wpAnyH_ready (rs := [2]) (by kernel_rfl) (by simp) ?_
  refine AllReadyH.cons rfl (fun K hK => ?_) AllReadyH.nil
  go_simp
  refine (cA.out wd KD.out).mono ?_
  rintro e we ⟨rfl, ke⟩
  (try go_wp2_with fail)
  refine hK.out _ _ ?_ (fun hHeld => ?_)
  · exact hS.out we (KD.out.trans ke (by simp))
  clear hK K
  try simp only [Act.put, List.getElem_toArray, List.getElem_cons_zero, List.getElem_cons_succ, List.setIfInBounds_toArray, List.set_cons_zero, List.set_cons_succ]
  have KE := hid (KD.out.trans ke (by simp))
  refine wpAnyH_ready (rs := [5]) (by kernel_rfl) (by simp) ?_
  refine AllReadyH.cons rfl (fun K hK => ?_) AllReadyH.nil
  go_simp
  refine (cB.out we KE.out).mono ?_
  rintro e wf ⟨rfl, kf⟩
  (try go_wp2_with fail)
  refine hK.out _ _ ?_ (fun hHeld => ?_)
  · exact hS.out wf (KE.out.trans kf (by simp))
  clear hK K
  try simp only [Act.put, List.getElem_toArray, List.getElem_cons_zero, List.getElem_cons_succ, List.setIfInBounds_toArray, List.set_cons_zero, List.set_cons_succ]
  have KF := hid (KE.out.trans kf (by simp))
  refine wpAnyH_ready (rs := [6]) (by kernel_rfl) (by simp) ?_
  refine AllReadyH.cons rfl (fun K hK => ?_) AllReadyH.nil
  go_simp
  refine (cC.out wf).mono ?_
  rintro e wg ⟨rfl, kg⟩
  (try go_wp2_with fail)
  refine hK.out _ _ ?_ (fun hHeld => ?_)
  · exact hS.out wg (KF.out.trans kg (by simp))
  clear hK K
  try simp only [Act.put, List.getElem_toArray, List.getElem_cons_zero, List.getElem_cons_succ, List.setIfInBounds_toArray, List.set_cons_zero, List.set_cons_succ]
  refine wpAnyH_take (i := 7) (v := ?_) rfl (by kernel_rfl) (by kernel_rfl) (by kernel_rfl) (fun _ _ _ h => by cases h.1) (Or.inl ⟨by rfl, ?_⟩) (by assumption) ?_
  rotate_left
  · intro w hSw; (try dsimp only at hSw); go_simp <;> with_reducible rfl
  try simp only [Act.put, List.getElem_toArray, List.getElem_cons_zero, List.getElem_cons_succ, List.setIfInBounds_toArray, List.set_cons_zero, List.set_cons_succ]
  refine wpAnyH_done (by kernel_rfl) ⟨rfl, ?_⟩ _
  have KG := hid (KF.out.trans kg (by simp))
  clear hHeld ke kf kg
  go_wp2_with fail
  go_returns
  exact ⟨rfl, KG.out⟩
theorem getD_l (L : List Vs) (x : Nat) : (L.map (·.l)).getD x [] = (L.getD x default).l := by
  rw [List.getD_eq_getElem?_getD, List.getD_eq_getElem?_getD, List.getElem?_map]
  cases L[x]? <;> rfl
theorem arrId (L : List Vs) : arr (fun i => L.getD i default) (fun k => k) L.length = L := by
  apply List.ext_getElem?
  intro k
  by_cases h : k < L.length
  · rw [arr_at _ _ _ _ h]
    simp [h]
  · rw [List.getElem?_eq_none (by rw [arr_len]; omega), List.getElem?_eq_none (by omega)]
/-- The sort of rows that were gathered, by a column. -/
theorem sortOrd (on : Int) (R : List (List Val)) (hR : (ordR on R).length ≤ 4000000000000) : ∀ (W : World) (N q : Nat) (ra : Option Addr) (rc : Nat) (L : List Vs), Lot N ra rc L W → L.map (·.l) = ordR on R → W.cell? ⟨q, 0, none⟩ = some (.int .i64 on) → q ∉ blk ra → Calls Try.prog 50 #[.slice ra L.length rc, .func (.func 55) #[] #[.pointer (some ⟨q, 0, none⟩)]] W (SortP N ra rc L.length (srtR on (ordR on R)) W) := fun W N q ra rc L hl hm hq hqr => by
  have hLl : L.length ≤ 4000000000000 := by have := congrArg List.length hm; rw [List.length_map] at this; omega
  by_cases h0 : L.length = 0
  · have hL : L = [] := List.length_eq_zero_iff.1 h0
    refine (cSortSt1R ra L.length rc _ W (by omega)).mono fun e w' ⟨hv, e2⟩ => ⟨hv, L, rfl, by rw [e2]; exact hl, ?_, by rw [e2]; exact Kp.refl _ _⟩
    rw [← hm, hL]
    rfl
  · rcases hrow : hl.row with ⟨e, _⟩ | ⟨g, o, cap, e, h1, h2, h3, h4, h5⟩
    · exact absurd (by have := (Value.slice.inj e).2.1; omega) h0
    · obtain ⟨e1, _, e3⟩ := Value.slice.inj e
      subst e1 e3
      have hd : Hd W g o L.length rc (fun i => L.getD i default) (fun k => k) := by
        unfold Hd
        rw [arrId]
        exact hl.row
      have hmem : ∀ x, x < L.length → L.getD x default ∈ L := fun x hx => by
        rw [List.getD_eq_getElem?_getD, List.getElem?_eq_getElem hx]
        exact List.getElem_mem hx
      have hC : CmpOk g L.length (fun i => L.getD i default) (.pointer (some ⟨q, 0, none⟩)) (fun x y => cmpV (vAt (L.getD x default).l on) (vAt (L.getD y default).l on)) (fun W' => W'.cell? ⟨q, 0, none⟩ = some (.int .i64 on) ∧ ∀ x ∈ L, x.lies W') := ⟨fun W' x y hI hx hy => cOrdC _ _ q on W' (hI.2 _ (hmem x hx)) (hI.2 _ (hmem y hy)) hI.1, fun W1 W2 hI k => ⟨((CK.ofKp k).2 _ _ (by simpa [blk] using hqr) hI.1).1, fun x hx => (hI.2 x hx).ck (CK.ofKp k) (fun j hj hm' => (hl.rows x hx j hj).2.2 (by simpa [blk] using hm'))⟩, cmpSwo (fun x => vAt (L.getD x default).l on)⟩
      have h2' : L.length ≤ rc := h1
      refine (cSortStable g o L.length rc _ _ _ _ hC hLl h2' W hd ⟨hq, hl.lies⟩).mono fun e w' ⟨hv, s, hp, hs, hd', k⟩ => ⟨hv, arr (fun i => L.getD i default) s L.length, arr_len _ _ _, ?_, ?_, k⟩
      · have hin : ∀ x ∈ arr (fun i => L.getD i default) s L.length, x ∈ L := fun x hx => by
          unfold arr at hx
          obtain ⟨i, hi, rfl⟩ := List.mem_map.1 hx
          exact hmem _ (hp.1 i (Nat.zero_le _) (List.mem_range.1 hi)).2
        have ck := CK.ofKp k
        refine ⟨by rw [arr_len]; exact hd', fun x hx => (hl.lies x (hin x hx)).ck ck (fun j hj hm' => (hl.rows x (hin x hx) j hj).2.2 (by simpa [blk] using hm')), hl.own, fun x hx j hj => ?_⟩
        obtain ⟨r1, r2, r3⟩ := hl.rows x (hin x hx) j hj
        exact ⟨r1, Nat.lt_of_lt_of_le r2 k.size, r3⟩
      · have hlt : (fun x y => cmpV (vAt (L.getD x default).l on) (vAt (L.getD y default).l on) < 0) = ltR on (ordR on R) := by
          funext x y
          unfold ltR
          rw [← hm, getD_l, getD_l]
        rw [hlt] at hs
        have h6 := sorted_eq (ltR_swo on (ordR on R)) hp hs
        have hln : L.length = (ordR on R).length := by rw [← hm, List.length_map]
        unfold srtR
        rw [← hln, ← h6, List.map_map]
        unfold arr
        rw [List.map_map]
        refine List.map_congr_left fun i _ => ?_
        show (L.getD (s i) default).l = (ordR on R).getD (s i) []
        rw [← hm, getD_l]
/-- What is sorted rises. -/
theorem monoOrd (on : Int) (R : List (List Val)) : ∀ (SL : List Vs) (v : Val), SL.map (·.l) = srtR on (ordR on R) → (∀ i j, i ≤ j → j < SL.length → cAt SL on v j < 0 → cAt SL on v i < 0) ∧ (∀ i j, i ≤ j → j < SL.length → cAt SL on v j ≤ 0 → cAt SL on v i ≤ 0) := fun SL v hS => by
  have hp := List.pairwise_iff_getElem.1 (hS ▸ srtR_mono on (ordR on R))
  have hle : ∀ i j (hij : i ≤ j) (hj : j < SL.length), cmpV (vAt (SL[i]'(by omega)).l on) (vAt SL[j].l on) ≤ 0 := fun i j hij hj => by
    by_cases e : i = j
    · subst e; rw [cmp_self]; omega
    · have := hp i j (by rw [List.length_map]; omega) (by rw [List.length_map]; omega) (by omega)
      simpa using this
  refine ⟨fun i j hij hj h => ?_, fun i j hij hj h => ?_⟩
  · rw [cAt_in hj] at h
    rw [cAt_in (show i < SL.length by omega)]
    exact cmp_strict' _ _ _ (hle i j hij hj) h
  · rw [cAt_in hj] at h
    rw [cAt_in (show i < SL.length by omega)]
    exact cmp_trans _ _ _ (hle i j hij hj) h
end Go.Proofs.Ytfolkjjhlcjfgaa
end

section
namespace Go.Proofs.Ytfolkjjhlcjfgaa
open Go.RowKit Go.Hay
set_option linter.unusedVariables false
set_option linter.unusedSimpArgs false

/-- A version. -/
structure Vr where
  e : Int
  n : Int
  a : Option Addr
  c : Nat
  l : List Val
  d : Int
instance : Inhabited Vr := ⟨⟨0, 0, none, 0, [], 0⟩⟩
def Vr.v (x : Vr) : Value := .agg #[.int .u64 x.e, .int .u32 x.n, .slice x.a x.l.length x.c, .int .u64 x.d]
def VrE : El Vr where
  n := 4
  c x := [.int .u64 x.e, .int .u32 x.n, .slice x.a x.l.length x.c, .int .u64 x.d]
  len _ := rfl
  one _ u hu := by simp at hu; rcases hu with rfl | rfl | rfl | rfl <;> rfl
  pos := by decide
theorem vrAt {w : World} {a : Option Addr} {l : List Vr} (h : VrE.See w a l) {j : Nat} {x : Vr} (hx : l[j]? = some x) : ∃ g o, a = some ⟨g, o, none⟩ ∧ w.cell? ⟨g, o + j * 4, none⟩ = some (.int .u64 x.e) ∧ w.cell? ⟨g, o + j * 4 + 1, none⟩ = some (.int .u32 x.n) ∧ w.cell? ⟨g, o + j * 4 + 2, none⟩ = some (.slice x.a x.l.length x.c) ∧ w.cell? ⟨g, o + j * 4 + 3, none⟩ = some (.int .u64 x.d) := by
  obtain ⟨g, o, rfl, hc⟩ := h.at hx
  exact ⟨g, o, rfl, hc 0 _ rfl, hc 1 _ rfl, hc 2 _ rfl, hc 3 _ rfl⟩
end Go.Proofs.Ytfolkjjhlcjfgaa
end

section
namespace Go.Proofs.Ytfolkjjhlcjfgaa
open Go.RowKit Go.Hay
attribute [local go_sem] Oper.semAt_some
set_option linter.unusedVariables false
set_option linter.unusedSimpArgs false

theorem eqI (a b c d : Int) (w : World) : (binOp .eql 85 (.agg #[.int .u64 a, .int .u32 b]) (.agg #[.int .u64 c, .int .u32 d])).run Try.prog w = .ok (.bool (decide ((a, b) = (c, d)))) w := by
  rw [run_eql_struct, run_equalIn_agg (ht := by kernel_rfl) (hp := by kernel_rfl)]
  by_cases h1 : a = c
  · by_cases h2 : b = d
    · simp [go_sem, h1, h2]
    · simp [go_sem, h1, h2]
  · simp [go_sem, h1]
abbrev Vr.r (x : Vr) : Vs := ⟨x.a, x.c, x.l⟩
def Vr.pr (x : Vr) : Int × Int × List Val × Int := (x.e, x.n, x.l, x.d)
structure Vr.lies (w : World) (x : Vr) : Prop where
  r : x.r.lies w
  e : 0 ≤ x.e ∧ x.e < 18446744073709551616
  n : 0 ≤ x.n ∧ x.n < 4294967296
theorem Vr.lies.ck {P : Nat → Prop} {X Y : World} {x : Vr} (hx : Vr.lies X x) (h : CK P X Y) (hP : ∀ k ∈ blk x.a, P k) : Vr.lies Y x := ⟨hx.r.ck h hP, hx.e, hx.n⟩
/-- Versions that were gathered: all blocks from N on, their rows apart from the row of versions. -/
structure Lov (N : Nat) (ra : Option Addr) (rc : Nat) (L : List Vr) (W : World) : Prop where
  row : VrE.Row W (.slice ra L.length rc) L
  lies : ∀ x ∈ L, Vr.lies W x
  own : ∀ k ∈ blk ra, N ≤ k
  rows : ∀ x ∈ L, ∀ k ∈ blk x.a, N ≤ k ∧ k < W.heap.size ∧ k ∉ blk ra
theorem Lov.nil (N : Nat) (W : World) : Lov N none 0 [] W := ⟨.inl ⟨rfl, rfl⟩, by simp, by simp [blk], by simp⟩
theorem Lov.ck {N : Nat} {ra : Option Addr} {rc : Nat} {L : List Vr} {P : Nat → Prop} {X Y : World} (h : Lov N ra rc L X) (k : CK P X Y) (h1 : ∀ k ∈ blk ra, P k) (h2 : ∀ x ∈ L, ∀ k ∈ blk x.a, P k) : Lov N ra rc L Y :=
  ⟨ckRow k h.row h1, fun x hx => (h.lies x hx).ck k (h2 x hx), h.own, fun x hx j hj => ⟨(h.rows x hx j hj).1, Nat.lt_of_lt_of_le (h.rows x hx j hj).2.1 k.1, (h.rows x hx j hj).2.2⟩⟩
theorem Lov.lt {N : Nat} {ra : Option Addr} {rc : Nat} {L : List Vr} {X : World} (h : Lov N ra rc L X) : ∀ k ∈ blk ra, k < X.heap.size := fun k hk => h.row.lt k (by rw [ownV]; exact hk)
theorem Lov.mono {N M : Nat} {ra : Option Addr} {rc : Nat} {L : List Vr} {X : World} (h : Lov N ra rc L X) (hm : M ≤ N) : Lov M ra rc L X :=
  ⟨h.row, h.lies, fun k hk => Nat.le_trans hm (h.own k hk), fun x hx k hk => ⟨Nat.le_trans hm (h.rows x hx k hk).1, (h.rows x hx k hk).2⟩⟩
theorem infoVr : ∃ i : TypeInfo, Try.prog.info? 87 = some i ∧ i.zero = some (.agg #[.int .u64 0, .int .u32 0, .slice none 0 0, .int .u64 0]) ∧ i.size = 4 ∧ i.bytes = 48 := by
  have h : (Try.prog.info? 87).map (fun i => (i.zero, i.size, i.bytes)) = some (some (.agg #[.int .u64 0, .int .u32 0, .slice none 0 0, .int .u64 0]), 4, 48) := by kernel_rfl
  cases e : Try.prog.info? 87 with
  | none => rw [e] at h; cases h
  | some i =>
    rw [e] at h
    simp at h
    exact ⟨i, rfl, h.1, h.2.1, h.2.2⟩
/-- One more row, behind the others. -/
theorem Lov.app {N : Nat} {ra : Option Addr} {rc : Nat} {L : List Vr} {w : World} (h : Lov N ra rc L w) (x : Vr) (hx : Vr.lies w x) (hN : N ≤ w.heap.size) (hb : ∀ k ∈ blk x.a, N ≤ k ∧ k < w.heap.size ∧ k ∉ blk ra) (hl : L.length ≤ 4000000000000) :
    ∃ a' c' W', (Builtin.append_ #[54, 54] 54 #[.slice ra L.length rc, .slice (some ⟨w.heap.size, 0, none⟩) 1 1]).run Try.prog (w.alloc (.cells #[.int .u64 x.e, .int .u32 x.n, .slice x.a x.l.length x.c, .int .u64 x.d] 87)) = .ok (.slice a' (L ++ [x]).length c') W' ∧ Lov N a' c' (L ++ [x]) W' ∧ Kp (blk ra) w W' ∧ ∀ k ∈ blk a', k ∈ blk ra ∨ w.heap.size ≤ k := by
  obtain ⟨A1, hA1⟩ : ∃ A1, w.alloc (.cells #[.int .u64 x.e, .int .u32 x.n, .slice x.a x.l.length x.c, .int .u64 x.d] 87) = A1 := ⟨_, rfl⟩
  have kA1 : Kp [] w A1 := by rw [← hA1]; exact (Kp.refl _ _).alloc _
  have bx1 : Bn A1 w.heap.size (VrE.c x) := by rw [← hA1]; exact Bn.new w (VrE.c x) _
  have hs1 : VrE.See A1 (some ⟨w.heap.size, 0, none⟩) [x] := .inr ⟨w.heap.size, 0, rfl, fun j u hu => by rw [Nat.zero_add]; exact bx1.get j u (by simpa [El.cs] using hu)⟩
  obtain ⟨i0, hi, hz0', hz1', hz2'⟩ := infoVr
  have hsr := hs1.src (P := Try.prog) Try.underlying54 1
  obtain ⟨v', A2, hrun, hrow2, k2, hn2⟩ := run_appendG (E := VrE) (P := Try.prog) A1 54 54 54 87 i0 _ 48 Try.underlying54 hi hz0' hz1' hz2' rfl (.slice ra L.length rc) L (h.row.keptNew kA1) _ [x] hsr (by simp only [List.length_cons, List.length_nil]; omega) (by simp only [List.length_cons, List.length_nil]; omega)
  obtain ⟨a', c', rfl, _⟩ := hrow2.see
  simp only [ownV] at k2 hn2
  rw [hA1]
  have z1 := kA1.size
  have kw : Kp (blk ra) w A2 := (kA1.mono (by simp)).trans k2 (fun j hj => .inl hj)
  have hnew : ∀ k ∈ blk a', k ∈ blk ra ∨ w.heap.size ≤ k := fun k hk => by
    rcases hn2 k hk with e | e
    · exact .inl e
    · exact .inr (by omega)
  have ck := CK.ofKp kw
  refine ⟨a', c', A2, hrun, ⟨hrow2, fun y hy => ?_, fun k hk => ?_, fun y hy k hk => ?_⟩, kw, hnew⟩
  · rcases List.mem_append.1 hy with hy | hy
    · exact (h.lies y hy).ck ck (fun k hk => (h.rows y hy k hk).2.2)
    · rw [List.mem_singleton.1 hy]; exact hx.ck ck (fun k hk => (hb k hk).2.2)
  · rcases hnew k hk with e | e
    · exact h.own k e
    · omega
  · have h0 : N ≤ k ∧ k < w.heap.size ∧ k ∉ blk ra := by
      rcases List.mem_append.1 hy with hy | hy
      · exact h.rows y hy k hk
      · rw [List.mem_singleton.1 hy] at hk; exact hb k hk
    refine ⟨h0.1, Nat.lt_of_lt_of_le h0.2.1 kw.size, fun hm => ?_⟩
    rcases hnew k hm with e | e
    · exact h0.2.2 e
    · omega
/-- Versions joined by their names. -/
def rejO (B : List Vr) (a : Vr) : Option (Int × Int × List Val × Int) := (B.find? fun b => decide ((b.e, b.n) = (a.e, a.n))).map fun b => (a.e, a.n, a.l ++ b.l, a.d)
def rejR (A B : List Vr) : List (Int × Int × List Val × Int) := A.filterMap (rejO B)
theorem rejR_snoc {A B : List Vr} {j : Nat} (h : j < A.length) : rejR (A.take (j + 1)) B = rejR (A.take j) B ++ (rejO B A[j]).toList := by
  unfold rejR
  rw [List.take_succ_eq_append_getElem h, List.filterMap_append]
  cases hc : rejO B A[j] <;> simp [hc]
def LovP (R : List (Int × Int × List Val × Int)) (w : World) (e : Ending) (w' : World) : Prop := ∃ ra rc L, e = .returned (.slice ra L.length rc) ∧ Lov w.heap.size ra rc L w' ∧ L.map Vr.pr = R ∧ Kp [] w w'
set_option maxHeartbeats 4000000 in
set_option maxRecDepth 100000 in
theorem rJoined (a b : Option Addr) (ca cb : Nat) (l m : List Val) (w : World) (ha : Vals w a l) (hb : Vals w b m) (hl : l.length + m.length ≤ 3600000000000) :
    Calls Try.prog 39 #[.slice a l.length ca, .slice b m.length cb] w (NewR (l ++ m) w) := by
  obtain ⟨X1, hX1⟩ : ∃ X1, w.alloc (.cells #[] 51) = X1 := ⟨_, rfl⟩
  have kX1 : Kp [] w X1 := by rw [← hX1]; exact (Kp.refl _ _).alloc _
  have hr0 : VE.Row X1 (.slice (some ⟨w.heap.size, 0, none⟩) 0 0) [] := by
    refine .inr ⟨w.heap.size, 0, 0, rfl, Nat.le_refl _, Nat.zero_le _, by rw [← hX1]; simp, fun j u hu => by simp [El.cs] at hu, fun j hj => by omega⟩
  obtain ⟨a5, c5, X2, hrun1, hrow5, kk5, hn5⟩ := appVY (l := []) hr0 a ca l (ha.kept kX1) (by simp; omega)
  rw [List.nil_append] at hrun1 hrow5
  have hb1 : blk (some (⟨w.heap.size, 0, none⟩ : Addr)) = [w.heap.size] := rfl
  have kX2 : Kp [] w X2 := kX1.trans kk5 (fun q hq => .inr (by rw [hb1] at hq; simp at hq; omega))
  have hn5' : ∀ q ∈ blk a5, w.heap.size ≤ q := fun q hq => by
    rcases hn5 q hq with h | h
    · rw [hb1] at h; simp at h; omega
    · have := kX1.size; omega
  obtain ⟨a6, c6, X3, hrun2, hrow6, kk6, hn6⟩ := appVY hrow5 b cb m (hb.kept kX2) (by omega)
  have kX3 : Kp [] w X3 := kX2.trans kk6 (fun q hq => .inr (hn5' q hq))
  have hn6' : ∀ q ∈ blk a6, w.heap.size ≤ q := fun q hq => by
    rcases hn6 q hq with h | h
    · exact hn5' q h
    · have := kX2.size; omega
  obtain ⟨z, hz⟩ : ∃ z, Hid (l ++ m = z) := ⟨_, rfl⟩
  rw [hz.out] at hrun2 hrow6 ⊢
  have hrow' := hid hrow6
  clear ha hb hr0 hrow5 kk5 hn5 hrow6 kk6 hn6
  simp only [List.length_nil] at hrun1
  go_enter Try.func39, Try.ntmps39
  go_wp2_with (first | (refine wpAppRunY rfl _ _ 24 24 rfl _ _ _ rfl rfl hrun1 ?_) | (refine wpAppRunY rfl _ _ 24 24 rfl _ _ _ rfl rfl hrun2 ?_) | fail)
  go_ret
  exact ⟨a6, c6, rfl, hrow'.out, kX3, hn6'⟩
set_option maxHeartbeats 8000000 in
set_option maxRecDepth 100000 in
theorem cSameVer (x y : Vr) (w : World) (hx : Vr.lies w x) (hy : Vr.lies w y) (he : x.pr = y.pr) : Calls Try.prog 54 #[x.v, y.v] w fun e w' => e = .returned (.bool true) ∧ Kp [] w w' := by
  obtain ⟨xe, xn, xa, xc, xl, xd⟩ := x
  obtain ⟨ye, yn, ya, yc, yl, yd⟩ := y
  simp only [Vr.pr, Prod.mk.injEq] at he
  obtain ⟨rfl, rfl, rfl, rfl⟩ := he
  simp only [Vr.v]
  obtain ⟨w1, hw1, k1, b1⟩ : ∃ w1, w.alloc (.cells #[.int .u64 xe, .int .u32 xn, .slice xa xl.length xc, .int .u64 xd] 87) = w1 ∧ Kp [] w w1 ∧ Bn w1 w.heap.size [.int .u64 xe, .int .u32 xn, .slice xa xl.length xc, .int .u64 xd] := ⟨_, rfl, (Kp.refl _ _).alloc _, Bn.new w _ _⟩
  obtain ⟨w2, hw2, k2, b2⟩ : ∃ w2, w1.alloc (.cells #[.int .u64 xe, .int .u32 xn, .slice ya xl.length yc, .int .u64 xd] 87) = w2 ∧ Kp [] w1 w2 ∧ Bn w2 w1.heap.size [.int .u64 xe, .int .u32 xn, .slice ya xl.length yc, .int .u64 xd] := ⟨_, rfl, (Kp.refl _ _).alloc _, Bn.new w1 _ _⟩
  obtain ⟨q2, hq2⟩ : ∃ q, w.heap.size = q := ⟨_, rfl⟩
  obtain ⟨q3, hq3⟩ : ∃ q, w1.heap.size = q := ⟨_, rfl⟩
  rw [hq2] at b1
  rw [hq3] at b2
  have b12 := b1.kept k2
  have k12 := k1.trans k2 (by simp)
  have hcm := hx.r.most
  have hcc := hx.r.cap
  unfold maxLen at hcm
  dsimp only at hcm hcc
  have cS := cSame xa ya xc yc xl xl w2 (hx.r.see.kept k12) (hy.r.see.kept k12) (by omega) (by omega)
  rw [sameV_selfY] at cS
  have cS' := hid cS
  have m0 := b12.get 0 _ rfl; have m1 := b12.get 1 _ rfl; have m2 := b12.get 2 _ rfl; have m3 := b12.get 3 _ rfl
  have n0 := b2.get 0 _ rfl; have n1 := b2.get 1 _ rfl; have n2 := b2.get 2 _ rfl; have n3 := b2.get 3 _ rfl
  have HB := hid (And.intro b12 (And.intro b2 k12))
  clear b1 b2 b12 k1 k2 k12 hx hy cS
  go_enter Try.func54, Try.ntmps54
  go_wp2_with fail
  refine cS'.out.mono ?_
  rintro e w3 ⟨rfl, k3⟩
  have b13 := HB.out.1.kept k3
  have b23 := HB.out.2.1.kept k3
  have p0 := b13.get 0 _ rfl; have p1 := b13.get 1 _ rfl; have p3 := b13.get 3 _ rfl
  have r0 := b23.get 0 _ rfl; have r1 := b23.get 1 _ rfl; have r3 := b23.get 3 _ rfl
  have K3 := hid (HB.out.2.2.trans k3 (by simp))
  have eq1 : ∀ w : World, (binOp .eql 85 (.agg #[.int .u64 xe, .int .u32 xn]) (.agg #[.int .u64 xe, .int .u32 xn])).run Try.prog w = .ok (.bool true) w := fun w => by rw [eqI]; simp
  clear b13 b23 k3 cS' m0 m1 m2 m3 n0 n1 n2 n3
  go_wp2_with fail
  go_ret
  exact ⟨by simp, K3.out⟩
set_option maxHeartbeats 8000000 in
set_option maxRecDepth 100000 in
/-- Versions that are alike are found alike. -/
theorem cSameVers (a b : Option Addr) (ca cb : Nat) (L M : List Vr) (w : World) (ha : VrE.See w a L) (hb : VrE.See w b M) (hL : ∀ x ∈ L, Vr.lies w x) (hM : ∀ x ∈ M, Vr.lies w x) (he : L.map Vr.pr = M.map Vr.pr) (hl : L.length ≤ 4000000000000) :
    Calls Try.prog 25 #[.slice a L.length ca, .slice b M.length cb] w fun e w' => e = .returned (.bool true) ∧ Kp [] w w' := by
  have hlen : L.length = M.length := by have := congrArg List.length he; simpa using this
  have HA := hid ha
  have HB := hid hb
  have HL := hid hL
  have HM := hid hM
  have HE := hid he
  clear ha hb hL hM he
  rw [← hlen]
  have hlen' := hid hlen
  clear hlen
  go_enter Try.func25, Try.ntmps25
  go_wp2_with fail
  go_loopw [5] (fun i wr => ∃ (j : Nat), j ≤ L.length ∧ i = .int .i64 (j : Int) ∧ Hid (Kp [] w wr)) (fun i _ => L.length - (intOf i).toNat)
  case atStart => exact ⟨0, Nat.zero_le _, rfl, hid (Kp.refl _ _)⟩
  case round =>
    obtain ⟨j, hj, rfl, hk⟩ := hrel
    by_cases hlt : j < L.length
    · have hltM : j < M.length := by have := hlen'.out; omega
      have hxj : L[j]? = some L[j] := by simp [hlt]
      have hyj : M[j]? = some M[j] := by simp [hltM]
      obtain ⟨g, o, ea, c0, c1, c2, c3⟩ := vrAt HA.out hxj
      obtain ⟨g2, o2, eb, d0, d1, d2, d3⟩ := vrAt HB.out hyj
      have ell : L[j].pr = M[j].pr := by
        have h1 := congrArg (fun z => z[j]?) HE.out
        simp [hlt, hltM] at h1
        exact h1
      have hlj := HL.out L[j] (List.getElem_mem hlt)
      have hmj := HM.out M[j] (List.getElem_mem hltM)
      have hS : Hid (∀ W', Kp [] wr W' → Calls Try.prog 54 #[L[j].v, M[j].v] W' fun e w' => e = .returned (.bool true) ∧ Kp [] W' w') := fun W' k => cSameVer L[j] M[j] W' (hlj.ck (CK.ofKp (hk.out.trans k (by simp))) (by simp)) (hmj.ck (CK.ofKp (hk.out.trans k (by simp))) (by simp)) ell
      have hcl : Hid (∀ W', Kp [] w W' → (W'.cell? ⟨g, o + j * 4, none⟩ = some (.int .u64 L[j].e) ∧ W'.cell? ⟨g, o + j * 4 + 1, none⟩ = some (.int .u32 L[j].n) ∧ W'.cell? ⟨g, o + j * 4 + 2, none⟩ = some (.slice L[j].a L[j].l.length L[j].c) ∧ W'.cell? ⟨g, o + j * 4 + 3, none⟩ = some (.int .u64 L[j].d) ∧ W'.cell? ⟨g2, o2 + j * 4, none⟩ = some (.int .u64 M[j].e) ∧ W'.cell? ⟨g2, o2 + j * 4 + 1, none⟩ = some (.int .u32 M[j].n) ∧ W'.cell? ⟨g2, o2 + j * 4 + 2, none⟩ = some (.slice M[j].a M[j].l.length M[j].c) ∧ W'.cell? ⟨g2, o2 + j * 4 + 3, none⟩ = some (.int .u64 M[j].d))) := fun W' k => ⟨kpAt k c0, kpAt k c1, kpAt k c2, kpAt k c3, kpAt k d0, kpAt k d1, kpAt k d2, kpAt k d3⟩
      generalize L[j] = x at *
      generalize M[j] = y at *
      obtain ⟨xe, xn, xa, xc, xl, xd⟩ := x
      obtain ⟨ye, yn, ya, yc, yl, yd⟩ := y
      simp only [Vr.v] at hS
      dsimp only at *
      have i1 : (0 : Int) ≤ (j : Int) := by omega
      have i2 : (j : Int) < (L.length : Int) := by omega
      have i3 : (j : Int) + 1 ≤ 9223372036854775807 := by omega
      subst ea eb
      clear c0 c1 c2 c3 d0 d1 d2 d3 hlj hmj hxj hyj ell
      have cg := hcl.out wr hk.out
      obtain ⟨g0, g1, g2', g3, g4, g5, g6, g7⟩ := cg
      go_wp2_with fail
      refine wp_noPanicY ?_
      refine wp_region_held_drew (S := fun A => A.cell? ⟨g, o + j * 4, none⟩ = some (.int .u64 xe) ∧ A.cell? ⟨g, o + j * 4 + 1, none⟩ = some (.int .u32 xn) ∧ A.cell? ⟨g, o + j * 4 + 2, none⟩ = some (.slice xa xl.length xc) ∧ A.cell? ⟨g, o + j * 4 + 3, none⟩ = some (.int .u64 xd) ∧ A.cell? ⟨g2, o2 + j * 4, none⟩ = some (.int .u64 ye) ∧ A.cell? ⟨g2, o2 + j * 4 + 1, none⟩ = some (.int .u32 yn) ∧ A.cell? ⟨g2, o2 + j * 4 + 2, none⟩ = some (.slice ya yl.length yc) ∧ A.cell? ⟨g2, o2 + j * 4 + 3, none⟩ = some (.int .u64 yd)) (by kernel_rfl) ?_ (fun hHeld => ?_)
      · exact ⟨g0, g1, g2', g3, g4, g5, g6, g7⟩
      have KD : Hid (Kp [] wr wr.drew) := hid (Kp.refl _ _).drew
      generalize wr.drew = wd at *
      refine wpAnyH_take (i := 0) (v := ?_) rfl (by kernel_rfl) (by kernel_rfl) (by kernel_rfl) (fun _ _ _ h => by cases h.1) (Or.inl ⟨by rfl, ?_⟩) (by assumption) ?_
      rotate_left
      · intro w hSw; (try dsimp only at hSw); go_simp <;> with_reducible rfl
      try simp only [Act.put, List.getElem_toArray, List.getElem_cons_zero, List.getElem_cons_succ, List.setIfInBounds_toArray, List.set_cons_zero, List.set_cons_succ]
      refine wpAnyH_take (i := 1) (v := ?_) rfl (by kernel_rfl) (by kernel_rfl) (by kernel_rfl) (fun _ _ _ h => by cases h.1) (Or.inl ⟨by rfl, ?_⟩) (by assumption) ?_
      rotate_left
      · intro w hSw; (try dsimp only at hSw); go_simp <;> with_reducible rfl
      try simp only [Act.put, List.getElem_toArray, List.getElem_cons_zero, List.getElem_cons_succ, List.setIfInBounds_toArray, List.set_cons_zero, List.set_cons_succ]
      refine wpAnyH_take (i := 2) (v := ?_) rfl (by kernel_rfl) (by kernel_rfl) (by kernel_rfl) (fun _ _ _ h => by cases h.1) (Or.inl ⟨by rfl, ?_⟩) (by assumption) ?_
      rotate_left
      · intro w hSw; (try dsimp only at hSw); go_simp <;> with_reducible rfl
      try simp only [Act.put, List.getElem_toArray, List.getElem_cons_zero, List.getElem_cons_succ, List.setIfInBounds_toArray, List.set_cons_zero, List.set_cons_succ]
      refine wpAnyH_take (i := 3) (v := ?_) rfl (by kernel_rfl) (by kernel_rfl) (by kernel_rfl) (fun _ _ _ h => by cases h.1) (Or.inl ⟨by rfl, ?_⟩) (by assumption) ?_
      rotate_left
      · intro w hSw; (try dsimp only at hSw); go_simp <;> with_reducible rfl
      try simp only [Act.put, List.getElem_toArray, List.getElem_cons_zero, List.getElem_cons_succ, List.setIfInBounds_toArray, List.set_cons_zero, List.set_cons_succ]
      refine wpAnyH_take (i := 4) (v := ?_) rfl (by kernel_rfl) (by kernel_rfl) (by kernel_rfl) (fun _ _ _ h => by cases h.1) (Or.inl ⟨by rfl, ?_⟩) (by assumption) ?_
      rotate_left
      · intro w hSw; (try dsimp only at hSw); go_simp <;> with_reducible rfl
      try simp only [Act.put, List.getElem_toArray, List.getElem_cons_zero, List.getElem_cons_succ, List.setIfInBounds_toArray, List.set_cons_zero, List.set_cons_succ]
      refine wpAnyH_take (i := 5) (v := ?_) rfl (by kernel_rfl) (by kernel_rfl) (by kernel_rfl) (fun _ _ _ h => by cases h.1) (Or.inl ⟨by rfl, ?_⟩) (by assumption) ?_
      rotate_left
      · intro w hSw; (try dsimp only at hSw); go_simp <;> with_reducible rfl
      try simp only [Act.put, List.getElem_toArray, List.getElem_cons_zero, List.getElem_cons_succ, List.setIfInBounds_toArray, List.set_cons_zero, List.set_cons_succ]
      refine wpAnyH_take (i := 6) (v := ?_) rfl (by kernel_rfl) (by kernel_rfl) (by kernel_rfl) (fun _ _ _ h => by cases h.1) (Or.inl ⟨by rfl, ?_⟩) (by assumption) ?_
      rotate_left
      · intro w hSw; (try dsimp only at hSw); go_simp <;> with_reducible rfl
      try simp only [Act.put, List.getElem_toArray, List.getElem_cons_zero, List.getElem_cons_succ, List.setIfInBounds_toArray, List.set_cons_zero, List.set_cons_succ]
      refine wpAnyH_take (i := 7) (v := ?_) rfl (by kernel_rfl) (by kernel_rfl) (by kernel_rfl) (fun _ _ _ h => by cases h.1) (Or.inl ⟨by rfl, ?_⟩) (by assumption) ?_
      rotate_left
      · intro w hSw; (try dsimp only at hSw); go_simp <;> with_reducible rfl
      try simp only [Act.put, List.getElem_toArray, List.getElem_cons_zero, List.getElem_cons_succ, List.setIfInBounds_toArray, List.set_cons_zero, List.set_cons_succ]
      refine wpAnyH_ready (rs := [8]) (by kernel_rfl) (by simp) ?_
      refine AllReadyH.cons rfl (fun K hK => ?_) AllReadyH.nil
      go_simp
      refine (hS.out wd KD.out).mono ?_
      rintro e we ⟨rfl, ke⟩
      (try go_wp2_with fail)
      refine hK.out _ _ ?_ (fun hHeld => ?_)
      · exact hcl.out we (hk.out.trans (KD.out.trans ke (by simp)) (by simp))
      clear hK K
      try simp only [Act.put, List.getElem_toArray, List.getElem_cons_zero, List.getElem_cons_succ, List.setIfInBounds_toArray, List.set_cons_zero, List.set_cons_succ]
      refine wpAnyH_take (i := 9) (v := ?_) rfl (by kernel_rfl) (by kernel_rfl) (by kernel_rfl) (fun _ _ _ h => by cases h.1) (Or.inl ⟨by rfl, ?_⟩) (by assumption) ?_
      rotate_left
      · intro w hSw; (try dsimp only at hSw); go_simp <;> with_reducible rfl
      try simp only [Act.put, List.getElem_toArray, List.getElem_cons_zero, List.getElem_cons_succ, List.setIfInBounds_toArray, List.set_cons_zero, List.set_cons_succ]
      refine wpAnyH_done (by kernel_rfl) ⟨rfl, ?_⟩ _
      have KE := hid (hk.out.trans (KD.out.trans ke (by simp)) (by simp))
      clear hHeld ke g0 g1 g2' g3 g4 g5 g6 g7
      go_wp2_with fail
      go_roundw
      case rel => exact ⟨j + 1, by omega, by go_num, KE⟩
      case measure => simp [intOf]; omega
    · have dj1 : ¬ (j : Int) < (L.length : Int) := by omega
      have dj2 : decide ((j : Int) < (L.length : Int)) = false := by simp; omega
      go_wp2_with fail
      go_ret
      exact ⟨rfl, hk.out⟩
end Go.Proofs.Ytfolkjjhlcjfgaa
end

section
namespace Go.Proofs.Ytfolkjjhlcjfgaa
open Go.RowKit Go.Hay
attribute [local go_sem] Oper.semAt_some
set_option linter.unusedVariables false
set_option linter.unusedSimpArgs false

set_option maxHeartbeats 8000000 in
set_option maxRecDepth 100000 in
theorem rAtE (a : Option Addr) (c : Nat) (l : List Val) (n : Int) (w : World) (ha : Vals w a l) (hl : l.length ≤ 9223372036854775807) : Calls Try.prog 37 #[.slice a l.length c, .int .i64 n] w fun e w' => e = .returned (.agg #[.int .i64 (vAt l n).k, .bool (vAt l n).b, .int .i64 (vAt l n).n, .string (vAt l n).t]) ∧ Kp [] w w' := by
  obtain ⟨q, W1, eq, e1, b1, k1⟩ : ∃ q W1, w.heap.size = q ∧ w.alloc (.cells #[.int .i64 0, .bool false, .int .i64 0, .string ⟨#[]⟩] 51) = W1 ∧ Bn W1 q [.int .i64 0, .bool false, .int .i64 0, .string ⟨#[]⟩] ∧ Kp [] w W1 := ⟨_, _, rfl, rfl, Bn.new w _ _, (Kp.refl _ _).alloc _⟩
  have hset : ∀ (W : World) (v : Val), Bn W q [.int .i64 0, .bool false, .int .i64 0, .string ⟨#[]⟩] → Kp [] w W → ∃ W2, (((W.setCell ⟨q, 0, none⟩ (.int .i64 v.k)).setCell ⟨q, 1, none⟩ (.bool v.b)).setCell ⟨q, 2, none⟩ (.int .i64 v.n)).setCell ⟨q, 3, none⟩ (.string v.t) = W2 ∧ Bn W2 q [.int .i64 v.k, .bool v.b, .int .i64 v.n, .string v.t] ∧ Kp [] w W2 := fun W v b k =>
    have h : q ∈ ([] : List Nat) ∨ w.heap.size ≤ q := .inr (by omega)
    ⟨_, rfl, (((b.set 0 (by simp) (.int .i64 v.k)).set 1 (by simp) (.bool v.b)).set 2 (by simp) (.int .i64 v.n)).set 3 (by simp) (.string v.t), (((k.setCell h _).setCell h _).setCell h _).setCell h _⟩
  by_cases hin : 0 ≤ n ∧ n < (l.length : Int)
  · obtain ⟨i, rfl⟩ := Int.eq_ofNat_of_zero_le hin.1
    have hi : i < l.length := by omega
    rw [vAt_in l i hi]
    obtain ⟨g, o, rfl, c0, c1, c2, c3⟩ := (ha.kept k1).at i hi
    obtain ⟨v, hv⟩ : ∃ v, l[i] = v := ⟨_, rfl⟩
    rw [hv] at c0 c1 c2 c3 ⊢
    obtain ⟨W2, e2, b2, k2⟩ := hset W1 v b1 k1
    have m0 := b1.get 0 _ rfl; have m1 := b1.get 1 _ rfl; have m2 := b1.get 2 _ rfl; have m3 := b1.get 3 _ rfl
    have f0 := b1.free 0; have f1 := b1.free 1; have f2 := b1.free 2; have f3 := b1.free 3
    have v0 := b2.get 0 _ rfl; have v1 := b2.get 1 _ rfl; have v2 := b2.get 2 _ rfl; have v3 := b2.get 3 _ rfl
    obtain ⟨vk, vb, vn, vt⟩ := v
    dsimp only at *
    have d1 : decide ((i : Int) < 0) = false := by simp
    have d2 : decide ((l.length : Int) ≤ (i : Int)) = false := by simp; omega
    have d2n : decide (l.length ≤ i) = false := by simp; omega
    have d3 : (0 : Int) ≤ (i : Int) := by omega
    have d4 : (i : Int) < (l.length : Int) := by omega
    clear b1 b2 hset ha hv hin k1
    go_enter Try.func37, Try.ntmps37
    go_wp2_with fail
    exact bodyPost_ret (v := .agg #[.int .i64 vk, .bool vb, .int .i64 vn, .string vt]) (by simp [results, Try.results37, go_sem, v0, v1, v2, v3]) rfl ⟨rfl, k2⟩
  · rw [vAt_out l n hin]
    obtain ⟨W2, e2, b2, k2⟩ := hset W1 nulV b1 k1
    have m0 := b1.get 0 _ rfl; have m1 := b1.get 1 _ rfl; have m2 := b1.get 2 _ rfl; have m3 := b1.get 3 _ rfl
    have f0 := b1.free 0; have f1 := b1.free 1; have f2 := b1.free 2; have f3 := b1.free 3
    have v0 := b2.get 0 _ rfl; have v1 := b2.get 1 _ rfl; have v2 := b2.get 2 _ rfl; have v3 := b2.get 3 _ rfl
    dsimp only [nulV] at *
    by_cases h0 : n < 0
    · have d1 : decide (n < 0) = true := by simpa using h0
      clear b1 b2 k1 hset h0 hin
      go_enter Try.func37, Try.ntmps37
      go_wp2_with fail
      exact bodyPost_ret (v := .agg #[.int .i64 0, .bool false, .int .i64 0, .string ⟨#[]⟩]) (by simp [results, Try.results37, go_sem, v0, v1, v2, v3]) rfl ⟨rfl, k2⟩
    · have d1 : decide (n < 0) = false := by simpa using h0
      have d2 : decide ((l.length : Int) ≤ n) = true := by simp; omega
      clear b1 b2 k1 hset h0 hin
      go_enter Try.func37, Try.ntmps37
      go_wp2_with fail
      exact bodyPost_ret (v := .agg #[.int .i64 0, .bool false, .int .i64 0, .string ⟨#[]⟩]) (by simp [results, Try.results37, go_sem, v0, v1, v2, v3]) rfl ⟨rfl, k2⟩
def prJ (lo ro : Int) (x r : List Val) : Bool := (vAt x lo).k != 0 && (vAt r ro).k != 0 && cmpV (vAt x lo) (vAt r ro) == 0
theorem refJ_eq (RL RR : List (List Val)) (lo ro : Int) : refJ RL RR lo ro = RL.flatMap fun x => (RR.filter (prJ lo ro x)).map (x ++ ·) := rfl
theorem refJ_snoc {L : List Vs} {RR : List (List Val)} {lo ro : Int} {j : Nat} (h : j < L.length) : refJ ((L.take (j + 1)).map (·.l)) RR lo ro = refJ ((L.take j).map (·.l)) RR lo ro ++ (RR.filter (prJ lo ro L[j].l)).map (L[j].l ++ ·) := by
  rw [refJ_eq, refJ_eq, List.take_succ_eq_append_getElem h, List.map_append, List.flatMap_append]
  simp
theorem filtJ_snoc {M : List Vs} {p : List Val → Bool} {k : Nat} (h : k < M.length) : ((M.take (k + 1)).map (·.l)).filter p = ((M.take k).map (·.l)).filter p ++ (if p M[k].l then [M[k].l] else []) := by
  rw [List.take_succ_eq_append_getElem h, List.map_append, List.filter_append]
  by_cases hp : p M[k].l <;> simp [hp]
set_option maxHeartbeats 32000000 in
set_option maxRecDepth 100000 in
theorem rJoin (a b : Option Addr) (ca cb : Nat) (L M : List Vs) (lo ro : Int) (w : World) (ha : VsE.See w a L) (hb : VsE.See w b M) (hA : ∀ x ∈ L, x.lies w) (hB : ∀ x ∈ M, x.lies w) (hl : L.length ≤ 1000) (hm : M.length ≤ 1000) (hAl : ∀ x ∈ L, x.l.length ≤ 1048576) (hBl : ∀ x ∈ M, x.l.length ≤ 1048576) :
    Calls Try.prog 19 #[.slice a L.length ca, .slice b M.length cb, .int .i64 lo, .int .i64 ro] w (LotP (refJ (L.map (·.l)) (M.map (·.l)) lo ro) w) := by
  have HA := hid ha
  have HB := hid hb
  have HLA := hid hA
  have HLB := hid hB
  have hAl' := hid hAl
  have hBl' := hid hBl
  have H0 : Hid (Lot w.heap.size none 0 [] w ∧ Kp [] w w) := ⟨Lot.nil _ _, Kp.refl _ _⟩
  clear ha hb hA hB hAl hBl
  go_enter Try.func19, Try.ntmps19
  go_wp2_with fail
  go_loopw [9, 10] (fun v9 i wr => ∃ (j : Nat) (ra : Option Addr) (rc : Nat) (m : List Vs), j ≤ L.length ∧ i = .int .i64 (j : Int) ∧ v9 = .slice ra m.length rc ∧ Hid (m.map (·.l) = refJ ((L.take j).map (·.l)) (M.map (·.l)) lo ro ∧ m.length ≤ j * 1000) ∧ Hid (Lot w.heap.size ra rc m wr ∧ Kp [] w wr)) (fun _ i _ => L.length - (intOf i).toNat)
  case atStart => exact ⟨0, none, 0, [], Nat.zero_le _, rfl, rfl, ⟨rfl, by simp⟩, H0⟩
  case round =>
    obtain ⟨j, ra, rc, m, hj, rfl, rfl, hme, H⟩ := hrel
    clear H0
    by_cases hlt : j < L.length
    · have hsn := hid (refJ_snoc (RR := M.map (·.l)) (lo := lo) (ro := ro) hlt)
      obtain ⟨g, o, ea, x0⟩ := vsAt HA.out (k := j) (x := L[j]) (by simp [hlt])
      have hxli := hid (HLA.out L[j] (List.getElem_mem hlt))
      have hxl := hAl'.out L[j] (List.getElem_mem hlt)
      obtain ⟨x, hx⟩ : ∃ x, Hid (L[j] = x) := ⟨L[j], rfl⟩
      rw [hx.out] at x0 hxli hxl hsn
      obtain ⟨xa, xc, xl⟩ := x
      dsimp only at x0 hxl hsn
      have HX : Hid (∀ W', Kp [] w W' → W'.cell? ⟨g, o + j, none⟩ = some (.slice xa xl.length xc)) := fun W' k => kpAt k x0
      obtain ⟨⟨uk, ub, un, ut⟩, hu⟩ : ∃ y, Hid (vAt xl lo = y) := ⟨_, rfl⟩
      have cAx : Hid (∀ W', Kp [] w W' → Calls Try.prog 37 #[.slice xa xl.length xc, .int .i64 lo] W' fun e w' => e = .returned (.agg #[.int .i64 uk, .bool ub, .int .i64 un, .string ut]) ∧ Kp [] W' w') := fun W' k => by
        have h1 := rAtE xa xc xl lo W' (hxli.out.see.kept k) (by omega)
        rw [hu.out] at h1
        exact h1
      have i1 : (0 : Int) ≤ (j : Int) := by omega
      have i2 : (j : Int) < (L.length : Int) := by omega
      have i3 : (j : Int) + 1 ≤ 9223372036854775807 := by omega
      subst ea
      clear x0
      go_wp2_with fail
      go_loopw [9, 11] (fun v9 v11 wk => ∃ (k : Nat) (rb : Option Addr) (rd : Nat) (m2 : List Vs), k ≤ M.length ∧ v11 = .int .i64 (k : Int) ∧ v9 = .slice rb m2.length rd ∧ Hid (m2.map (·.l) = refJ ((L.take j).map (·.l)) (M.map (·.l)) lo ro ++ (((M.take k).map (·.l)).filter (prJ lo ro xl)).map (xl ++ ·) ∧ m2.length ≤ j * 1000 + k) ∧ Hid (Lot w.heap.size rb rd m2 wk ∧ Kp [] w wk)) (fun _ v11 _ => M.length - (intOf v11).toNat)
      case atStart => exact ⟨0, ra, rc, m, Nat.zero_le _, rfl, rfl, ⟨by rw [hme.out.1]; simp, by have := hme.out.2; omega⟩, H⟩
      case round =>
        obtain ⟨k, rb, rd, m2, hk, rfl, rfl, hm2, Hk⟩ := hrel
        clear H
        by_cases hkl : k < M.length
        · obtain ⟨g2, o2, eb, y0⟩ := vsAt HB.out (k := k) (x := M[k]) (by simp [hkl])
          have hyli := hid (HLB.out M[k] (List.getElem_mem hkl))
          have hyl := hBl'.out M[k] (List.getElem_mem hkl)
          have hfs := hid (filtJ_snoc (p := prJ lo ro xl) hkl)
          obtain ⟨y, hy⟩ : ∃ y, Hid (M[k] = y) := ⟨M[k], rfl⟩
          rw [hy.out] at y0 hyli hyl hfs
          obtain ⟨ya, yc, yl⟩ := y
          dsimp only at y0 hyl hfs
          have HC : Hid (∀ W', Kp [] w W' → W'.cell? ⟨g, o + j, none⟩ = some (.slice xa xl.length xc) ∧ W'.cell? ⟨g2, o2 + k, none⟩ = some (.slice ya yl.length yc)) := fun W' q => ⟨HX.out W' q, kpAt q y0⟩
          obtain ⟨⟨vk, vb, vn, vt⟩, hv⟩ : ∃ y, Hid (vAt yl ro = y) := ⟨_, rfl⟩
          have cAy : Hid (∀ W', Kp [] w W' → Calls Try.prog 37 #[.slice ya yl.length yc, .int .i64 ro] W' fun e w' => e = .returned (.agg #[.int .i64 vk, .bool vb, .int .i64 vn, .string vt]) ∧ Kp [] W' w') := fun W' k => by
            have h1 := rAtE ya yc yl ro W' (hyli.out.see.kept k) (by omega)
            rw [hv.out] at h1
            exact h1
          have hpr : Hid (prJ lo ro xl yl = (uk != 0 && vk != 0 && cmpV ⟨uk, ub, un, ut⟩ ⟨vk, vb, vn, vt⟩ == 0)) := by show _ = _; unfold prJ; rw [hu.out, hv.out]
          have cCm := hid (fun W' => cRefCompare ⟨uk, ub, un, ut⟩ ⟨vk, vb, vn, vt⟩ W')
          simp only [Val.v] at cCm
          have k1 : (0 : Int) ≤ (k : Int) := by omega
          have k2 : (k : Int) < (M.length : Int) := by omega
          have k3 : (k : Int) + 1 ≤ 9223372036854775807 := by omega
          have c0x := HX.out wr Hk.out.2
          subst eb
          clear y0
          go_wp2_with fail
          refine (cAx.out wr Hk.out.2).mono ?_
          rintro e wa ⟨rfl, ka⟩
          have KA := hid (Hk.out.2.trans ka (by simp))
          have HLa := hid (Hk.out.1.ck (CK.ofKp ka) (by simp) (by simp))
          obtain ⟨q12, W1, W2, eq12, eW1, b1, eW2, b2, kW2, z2⟩ := boxV4Y wa ⟨uk, ub, un, ut⟩
          have m0 := b1.get 0 _ rfl; have m1 := b1.get 1 _ rfl; have m2' := b1.get 2 _ rfl; have m3 := b1.get 3 _ rfl
          have f0 := b1.free 0; have f1 := b1.free 1; have f2 := b1.free 2; have f3 := b1.free 3
          try dsimp only at eW2
          have KW2 := hid (KA.out.trans kW2 (by simp))
          have HL2 := hid (HLa.out.ck (CK.ofKp kW2) (by simp) (by simp))
          have BX := hid b2
          have c0y := (HC.out W2 KW2.out).2
          clear ka c0x b1 b2 kW2 HLa Hk
          go_wp2_with fail
          refine (cAy.out W2 KW2.out).mono ?_
          rintro e wb ⟨rfl, kb⟩
          have KB := hid (KW2.out.trans kb (by simp))
          have HLb := hid (HL2.out.ck (CK.ofKp kb) (by simp) (by simp))
          have BXb := hid (BX.out.kept kb)
          obtain ⟨q13, W3, W4, eq13, eW3, b3, eW4, b4, kW4, z4⟩ := boxV4Y wb ⟨vk, vb, vn, vt⟩
          have n0 := b3.get 0 _ rfl; have n1 := b3.get 1 _ rfl; have n2 := b3.get 2 _ rfl; have n3 := b3.get 3 _ rfl
          have h0 := b3.free 0; have h1 := b3.free 1; have h2 := b3.free 2; have h3 := b3.free 3
          try dsimp only at eW4
          have KW4 := hid (KB.out.trans kW4 (by simp))
          have HL4 := hid (HLb.out.ck (CK.ofKp kW4) (by simp) (by simp))
          have bx4 := BXb.out.kept kW4
          try dsimp only at bx4
          have p0 := bx4.get 0 _ rfl; have p1 := bx4.get 1 _ rfl; have p2 := bx4.get 2 _ rfl; have p3 := bx4.get 3 _ rfl
          try dsimp only at b4
          have r0 := b4.get 0 _ rfl; have r1 := b4.get 1 _ rfl; have r2 := b4.get 2 _ rfl; have r3 := b4.get 3 _ rfl
          clear kb c0y b3 b4 kW4 HLb HL2 bx4 m0 m1 m2' m3 f0 f1 f2 f3 BX BXb
          by_cases hp1 : uk = 0
          · have d1 : (uk != 0) = false := by simp [hp1]
            have hm5 : Hid (m2.map (·.l) = refJ ((L.take j).map (·.l)) (M.map (·.l)) lo ro ++ (((M.take (k + 1)).map (·.l)).filter (prJ lo ro xl)).map (xl ++ ·) ∧ m2.length ≤ j * 1000 + (k + 1)) := ⟨by rw [hfs.out, hpr.out, d1]; simpa using hm2.out.1, by have := hm2.out.2; omega⟩
            have HF : Hid (Lot w.heap.size rb rd m2 W4 ∧ Kp [] w W4) := ⟨HL4.out, KW4.out⟩
            clear hp1
            go_wp2_with fail
            go_roundw
            case rel => exact ⟨k + 1, rb, rd, m2, by omega, by go_num, rfl, hm5, HF⟩
            case measure => simp [intOf]; omega
          by_cases hp2 : vk = 0
          · have d1 : (uk != 0) = true := by simpa using hp1
            have d2 : (vk != 0) = false := by simp [hp2]
            have hm5 : Hid (m2.map (·.l) = refJ ((L.take j).map (·.l)) (M.map (·.l)) lo ro ++ (((M.take (k + 1)).map (·.l)).filter (prJ lo ro xl)).map (xl ++ ·) ∧ m2.length ≤ j * 1000 + (k + 1)) := ⟨by rw [hfs.out, hpr.out, d1, d2]; simpa using hm2.out.1, by have := hm2.out.2; omega⟩
            have HF : Hid (Lot w.heap.size rb rd m2 W4 ∧ Kp [] w W4) := ⟨HL4.out, KW4.out⟩
            clear hp1 hp2
            go_wp2_with fail
            go_roundw
            case rel => exact ⟨k + 1, rb, rd, m2, by omega, by go_num, rfl, hm5, HF⟩
            case measure => simp [intOf]; omega
          have d1 : (uk != 0) = true := by simpa using hp1
          have d2 : (vk != 0) = true := by simpa using hp2
          rw [d1, d2] at hpr
          obtain ⟨C, hCe⟩ : ∃ C, Hid (cmpV ⟨uk, ub, un, ut⟩ ⟨vk, vb, vn, vt⟩ = C) := ⟨_, rfl⟩
          rw [hCe.out] at hpr
          simp only [hCe.out] at cCm
          clear hp1 hp2
          go_wp2_with fail
          refine (cCm.out W4).mono ?_
          rintro e wc ⟨rfl, kc⟩
          have KC := hid (KW4.out.trans kc (by simp))
          have HLc := hid (HL4.out.ck (CK.ofKp kc) (by simp) (by simp))
          clear kc HL4 n0 n1 n2 n3 h0 h1 h2 h3 p0 p1 p2 p3 r0 r1 r2 r3
          by_cases hC0 : C = 0
          · have d3 : (C == 0) = true := by simpa using hC0
            have hpt : Hid (prJ lo ro xl yl = true) := by show _ = _; rw [hpr.out, d3]; rfl
            clear hC0
            go_wp2_with fail
            refine wp_noPanicY ?_
            refine wp_region_held_drew (S := fun W' => W'.cell? ⟨g, o + j, none⟩ = some (.slice xa xl.length xc) ∧ W'.cell? ⟨g2, o2 + k, none⟩ = some (.slice ya yl.length yc)) (by kernel_rfl) (HC.out _ KC.out.drew) (fun hHeld => ?_)
            have KD : Hid (Kp [] wc wc.drew) := hid (Kp.refl _ _).drew
            generalize wc.drew = we at *
            have KE := hid (KC.out.trans KD.out (by simp))
            have cJ := hid (rJoined xa ya xc yc xl yl we (hxli.out.see.kept KE.out) (hyli.out.see.kept KE.out) (by omega))
            obtain ⟨zl, hzl⟩ : ∃ z, Hid (xl ++ yl = z) := ⟨_, rfl⟩
            rw [hzl.out] at cJ
            refine wpAnyH_take (i := 0) (v := ?_) rfl (by kernel_rfl) (by kernel_rfl) (by kernel_rfl) (fun _ _ _ h => by cases h.1) (Or.inl ⟨by rfl, ?_⟩) (by assumption) ?_
            rotate_left
            · intro w hSw; (try dsimp only at hSw); go_simp <;> with_reducible rfl
            try simp only [Act.put, List.getElem_toArray, List.getElem_cons_zero, List.getElem_cons_succ, List.setIfInBounds_toArray, List.set_cons_zero, List.set_cons_succ]
            refine wpAnyH_take (i := 1) (v := ?_) rfl (by kernel_rfl) (by kernel_rfl) (by kernel_rfl) (fun _ _ _ h => by cases h.1) (Or.inl ⟨by rfl, ?_⟩) (by assumption) ?_
            rotate_left
            · intro w hSw; (try dsimp only at hSw); go_simp <;> with_reducible rfl
            try simp only [Act.put, List.getElem_toArray, List.getElem_cons_zero, List.getElem_cons_succ, List.setIfInBounds_toArray, List.set_cons_zero, List.set_cons_succ]
            refine wpAnyH_take (i := 2) (v := ?_) rfl (by kernel_rfl) (by kernel_rfl) (by kernel_rfl) (fun _ _ _ h => by cases h.1) (Or.inl ⟨by rfl, ?_⟩) (by assumption) ?_
            rotate_left
            · intro w hSw; (try dsimp only at hSw); go_simp <;> with_reducible rfl
            try simp only [Act.put, List.getElem_toArray, List.getElem_cons_zero, List.getElem_cons_succ, List.setIfInBounds_toArray, List.set_cons_zero, List.set_cons_succ]
            refine wpAnyH_take (i := 3) (v := ?_) rfl (by kernel_rfl) (by kernel_rfl) (by kernel_rfl) (fun _ _ _ h => by cases h.1) (Or.inl ⟨by rfl, ?_⟩) (by assumption) ?_
            rotate_left
            · intro w hSw; (try dsimp only at hSw); go_simp <;> with_reducible rfl
            try simp only [Act.put, List.getElem_toArray, List.getElem_cons_zero, List.getElem_cons_succ, List.setIfInBounds_toArray, List.set_cons_zero, List.set_cons_succ]
            refine wpAnyH_take (i := 4) (v := ?_) rfl (by kernel_rfl) (by kernel_rfl) (by kernel_rfl) (fun _ _ _ h => by cases h.1) (Or.inl ⟨by rfl, ?_⟩) (by assumption) ?_
            rotate_left
            · intro w hSw; (try dsimp only at hSw); go_simp <;> with_reducible rfl
            try simp only [Act.put, List.getElem_toArray, List.getElem_cons_zero, List.getElem_cons_succ, List.setIfInBounds_toArray, List.set_cons_zero, List.set_cons_succ]
            refine wpAnyH_take (i := 5) (v := ?_) rfl (by kernel_rfl) (by kernel_rfl) (by kernel_rfl) (fun _ _ _ h => by cases h.1) (Or.inl ⟨by rfl, ?_⟩) (by assumption) ?_
            rotate_left
            · intro w hSw; (try dsimp only at hSw); go_simp <;> with_reducible rfl
            try simp only [Act.put, List.getElem_toArray, List.getElem_cons_zero, List.getElem_cons_succ, List.setIfInBounds_toArray, List.set_cons_zero, List.set_cons_succ]
            refine wpAnyH_take (i := 6) (v := ?_) rfl (by kernel_rfl) (by kernel_rfl) (by kernel_rfl) (fun _ _ _ h => by cases h.1) (Or.inl ⟨by rfl, ?_⟩) (by assumption) ?_
            rotate_left
            · intro w hSw; (try dsimp only at hSw); go_simp <;> with_reducible rfl
            try simp only [Act.put, List.getElem_toArray, List.getElem_cons_zero, List.getElem_cons_succ, List.setIfInBounds_toArray, List.set_cons_zero, List.set_cons_succ]
            refine wpAnyH_take (i := 7) (v := ?_) rfl (by kernel_rfl) (by kernel_rfl) (by kernel_rfl) (fun _ _ _ h => by cases h.1) (Or.inl ⟨by rfl, ?_⟩) (by assumption) ?_
            rotate_left
            · intro w hSw; (try dsimp only at hSw); go_simp <;> with_reducible rfl
            try simp only [Act.put, List.getElem_toArray, List.getElem_cons_zero, List.getElem_cons_succ, List.setIfInBounds_toArray, List.set_cons_zero, List.set_cons_succ]
            refine wpAnyH_take (i := 8) (v := ?_) rfl (by kernel_rfl) (by kernel_rfl) (by kernel_rfl) (fun _ _ _ h => by cases h.1) (Or.inl ⟨by rfl, ?_⟩) (by assumption) ?_
            rotate_left
            · intro w hSw; (try dsimp only at hSw); go_simp <;> with_reducible rfl
            try simp only [Act.put, List.getElem_toArray, List.getElem_cons_zero, List.getElem_cons_succ, List.setIfInBounds_toArray, List.set_cons_zero, List.set_cons_succ]
            refine wpAnyH_ready (rs := [9]) (by kernel_rfl) (by simp) ?_
            refine AllReadyH.cons rfl (fun K hK => ?_) AllReadyH.nil
            go_simp
            refine cJ.out.mono ?_
            rintro e wz ⟨za, zc, rfl, hzr, kz, hzb⟩
            (try go_wp2_with fail)
            refine hK.out _ _ (HC.out _ (KE.out.trans kz (by simp))) (fun hHeld => ?_)
            clear hK K
            try simp only [Act.put, List.getElem_toArray, List.getElem_cons_zero, List.getElem_cons_succ, List.setIfInBounds_toArray, List.set_cons_zero, List.set_cons_succ]
            have KZ := hid (KE.out.trans kz (by simp))
            have hlz : Lot w.heap.size rb rd m2 wz := HLc.out.ck (CK.ofKp (KD.out.trans kz (by simp))) (by simp) (by simp)
            have hsz := KE.out.size
            obtain ⟨a4, c4, W6, hrun, hl4, k4, hn4⟩ := hlz.app ⟨za, zc, zl⟩ (rowLies hzr) KZ.out.size (fun k hk => ⟨by have := hzb k hk; omega, hzr.lt k (by rw [ownV]; exact hk), fun hm' => by have := hzb k hk; have := HLc.out.lt k hm'; have := KD.out.size; omega⟩) (by have := hm2.out.2; have := Nat.mul_le_mul_right 1000 hj; omega)
            obtain ⟨m4, hm4⟩ : ∃ m4, Hid (m2 ++ [(⟨za, zc, zl⟩ : Vs)] = m4) := ⟨_, rfl⟩
            rw [hm4.out] at hrun hl4
            dsimp only at hrun
            have KW6 : Kp [] w W6 := KZ.out.trans k4 (fun x hx => .inr (HLc.out.own x hx))
            have HF : Hid (Lot w.heap.size a4 c4 m4 W6 ∧ Kp [] w W6) := ⟨hl4, KW6⟩
            have hm5 : Hid (m4.map (·.l) = refJ ((L.take j).map (·.l)) (M.map (·.l)) lo ro ++ (((M.take (k + 1)).map (·.l)).filter (prJ lo ro xl)).map (xl ++ ·) ∧ m4.length ≤ j * 1000 + (k + 1)) := ⟨by
              rw [hfs.out, hpt.out, if_pos rfl, ← hm4.out, List.map_append, hm2.out.1, List.map_append, ← List.append_assoc, ← hzl.out]
              rfl, by rw [← hm4.out, List.length_append]; have := hm2.out.2; simp; omega⟩
            have sA := HC.out _ (KZ.out.alloc (.cells #[.slice za zl.length zc] 24))
            have s4 := HC.out _ KW6
            clear hlz hl4 k4 hn4 kz hzr hzb hsz KW6
            refine wpAnyH_ready (rs := [10]) (by kernel_rfl) (by simp) ?_
            refine AllReadyH.cons rfl (fun K hK => ?_) AllReadyH.nil
            go_simp
            (try go_wp2_with fail)
            refine hK.out _ _ (sA) (fun hHeld => ?_)
            clear hK K
            try simp only [Act.put, List.getElem_toArray, List.getElem_cons_zero, List.getElem_cons_succ, List.setIfInBounds_toArray, List.set_cons_zero, List.set_cons_succ]
            refine wpAnyH_ready (rs := [11]) (by kernel_rfl) (by simp) ?_
            refine AllReadyH.cons rfl (fun K hK => ?_) AllReadyH.nil
            refine stepAppRun rfl _ _ 22 22 rfl _ _ _ rfl rfl hrun ?_
            refine hK.out _ _ s4 (fun hHeld => ?_)
            clear hK K
            try simp only [Act.put, List.getElem_toArray, List.getElem_cons_zero, List.getElem_cons_succ, List.setIfInBounds_toArray, List.set_cons_zero, List.set_cons_succ]
            refine wpAnyH_take (i := 12) (v := ?_) rfl (by kernel_rfl) (by kernel_rfl) (by kernel_rfl) (fun _ _ _ h => by cases h.1) (Or.inl ⟨by rfl, ?_⟩) (by assumption) ?_
            rotate_left
            · intro w hSw; (try dsimp only at hSw); go_simp <;> with_reducible rfl
            try simp only [Act.put, List.getElem_toArray, List.getElem_cons_zero, List.getElem_cons_succ, List.setIfInBounds_toArray, List.set_cons_zero, List.set_cons_succ]
            refine wpAnyH_done (by kernel_rfl) ⟨rfl, ?_⟩ _
            clear hHeld sA s4 hrun
            go_wp2_with fail
            go_roundw
            case rel => exact ⟨k + 1, a4, c4, m4, by omega, by go_num, rfl, hm5, HF⟩
            case measure => simp [intOf]; omega
          · have d3 : (C == 0) = false := beq_eq_false_iff_ne.2 hC0
            have hm5 : Hid (m2.map (·.l) = refJ ((L.take j).map (·.l)) (M.map (·.l)) lo ro ++ (((M.take (k + 1)).map (·.l)).filter (prJ lo ro xl)).map (xl ++ ·) ∧ m2.length ≤ j * 1000 + (k + 1)) := ⟨by rw [hfs.out, hpr.out, d3]; simpa using hm2.out.1, by have := hm2.out.2; omega⟩
            have HF : Hid (Lot w.heap.size rb rd m2 wc ∧ Kp [] w wc) := ⟨HLc.out, KC.out⟩
            clear hC0
            go_wp2_with fail
            go_roundw
            case rel => exact ⟨k + 1, rb, rd, m2, by omega, by go_num, rfl, hm5, HF⟩
            case measure => simp [intOf]; omega
        · have hke : k = M.length := by omega
          have hm5 : Hid (m2.map (·.l) = refJ ((L.take (j + 1)).map (·.l)) (M.map (·.l)) lo ro ∧ m2.length ≤ (j + 1) * 1000) := ⟨by
            have h1 := hm2.out.1
            rw [hke, List.take_length] at h1
            rw [hsn.out, h1], by have := hm2.out.2; omega⟩
          have dj1 : ¬ (k : Int) < (M.length : Int) := by omega
          have dj2 : decide ((k : Int) < (M.length : Int)) = false := by simp; omega
          clear hke
          go_wp2_with fail
          go_roundw
          case rel => exact ⟨j + 1, rb, rd, m2, by omega, by go_num, rfl, hm5, Hk⟩
          case measure => simp [intOf]; omega
    · have hmm : m.map (·.l) = refJ (L.map (·.l)) (M.map (·.l)) lo ro := by rw [hme.out.1, show j = L.length by omega, List.take_length]
      have dj1 : ¬ (j : Int) < (L.length : Int) := by omega
      have dj2 : decide ((j : Int) < (L.length : Int)) = false := by simp; omega
      have hmm' := hid hmm
      clear hmm
      go_wp2_with fail
      go_ret
      exact ⟨ra, rc, m, rfl, H.out.1, hmm'.out, H.out.2⟩
end Go.Proofs.Ytfolkjjhlcjfgaa
end

section
namespace Go.Proofs.Ytfolkjjhlcjfgaa
open Go.RowKit Go.Hay
attribute [local go_sem] Oper.semAt_some
set_option linter.unusedVariables false
set_option linter.unusedSimpArgs false

/-- How the first walk stands. -/
structure TwI (w1 : World) (q : Nat) (s : Sr) (W : World) : Prop where
  co : CoR w1 [q] s W
  box : W.cell? ⟨q, 0, none⟩ = some (.int .i64 (s.i : Int))
  free : W.frozen? ⟨q, 0, none⟩ = false
  few : s.i ≤ 1
theorem TwI.own {w1 : World} {q : Nat} : OwnFrom w1.heap.size (TwI w1 q) := fun s X Y row h hg hr => by
  have ck := CK.ofGrown hg (fun r e => (hr r e).2)
  obtain ⟨h1, h2⟩ := ck.2 _ _ trivial h.box
  exact ⟨h.co.grown hg hr, h1, h2.trans h.free, h.few⟩
theorem TwI.step {fr : Bool} {R : List (List Val)} {w1 : World} {q : Nat} (hq : q < w1.heap.size) {s s' : Sr} {A B : World} (hz : w1.heap.size + 2 ≤ A.heap.size) (h : TwI w1 q s A) (ht : StepR fr R s s' A B) : TwI w1 q s' B := by
  have co := h.co.step (by simpa using hq) hz ht
  have hm : s'.made = true := by
    cases hs : s.made with
    | true => exact (ht.stays hs).1
    | false => exact (ht.makes hs).1
  have hq3 : q ∉ s'.qs := fun hm' => by
    have := (co.mde hm).2 q hm'
    omega
  obtain ⟨h1, h2⟩ := (CK.ofTurn ht.turn).2 _ _ hq3 h.box
  exact ⟨co, by rw [ht.on]; exact h1, h2.trans h.free, by rw [ht.on]; exact h.few⟩
theorem coOwn {w1 : World} {S : List Nat} : OwnFrom w1.heap.size (CoR w1 S) := fun s X Y row h hg hr => h.grown hg hr
set_option maxHeartbeats 32000000 in
set_option maxRecDepth 100000 in
theorem cTwice (d : Nat) (hd : 4 ≤ d) (g : Nat) (lb : Array Value) (R : List (List Val)) (js : List Nat) (ma : Option Addr) (mc : Nat) (M : List Vs) (w : World) (heg : ∀ args w, (callFunc g args).run Try.prog w = .ok (.enter g args) w) (hseq : ∀ n, d ≤ n → RowSeq true (n - 1) g lb R js w) (hjs : ∀ j ∈ js, j < w.heap.size) (hR : R.length ≤ 4000000000000) (hRl : ∀ l ∈ R, l.length ≤ 3600000000000)
    (hs : VsE.See w ma M) (hx : ∀ x ∈ M, x.lies w) (hM : M.map (·.l) = R) :
    Calls Try.prog 17 #[.func (.func g) #[] lb, .slice ma M.length mc] w fun e w' => e = .returned (.bool true) ∧ Kp [] w w' := by
  refine (callsIn_wide (n := d)).1 ?_
  obtain ⟨w1, hw1, k1, b1⟩ : ∃ w1, w.alloc (.cells #[.int .i64 0] 3) = w1 ∧ Kp [] w w1 ∧ Bn w1 w.heap.size [.int .i64 0] := ⟨_, rfl, (Kp.refl _ _).alloc _, Bn.new w _ _⟩
  obtain ⟨q5, hq5⟩ : ∃ q, w.heap.size = q := ⟨_, rfl⟩
  rw [hq5] at b1
  have hq51 : q5 < w1.heap.size := b1.lt (by simp)
  have z0 := b1.get 0 _ rfl
  have zf := b1.free 0
  obtain ⟨w2, hw2, k2, b2⟩ : ∃ w2, w1.setCell ⟨q5, 0, none⟩ (.int .i64 0) = w2 ∧ Kp [] w w2 ∧ Bn w2 q5 [.int .i64 0] := ⟨_, rfl, k1.setCell (.inr (by show w.heap.size ≤ q5; omega)) _, b1.set 0 (by simp) _⟩
  have hz2 : w2.heap.size = w.heap.size + 1 := by rw [← hw2, ← hw1]; simp
  have hq52 : q5 < w2.heap.size := b2.lt (by simp)
  have hI0 : TwI w2 q5 ⟨false, 0, [], js, 0, none⟩ w2 := ⟨⟨rfl, rfl, rfl, Nat.le_refl _, fun _ _ _ => rfl, fun h => (by cases h), fun j hj => ⟨by have := hjs j hj; simp; omega, by have := hjs j hj; omega, by have := hjs j hj; omega⟩, fun j hj => by have := hjs j hj; omega, by simp⟩, b2.get 0 _ rfl, b2.free 0, by simp⟩
  have HI0 := hid hI0
  have HK := hid k2
  have HSQ := hid (hseq d (Nat.le_refl _))
  have HSN := hid hseq
  have HJS := hid hjs
  have HM := hid (And.intro hs (And.intro hx hM))
  have hzw := hid hz2
  have hKR : Hid (KeepR ⟨false, 0, [], js, 0, none⟩ w w2) := ⟨KeepB.ofKp k2 (by simp), fun h => (by cases h)⟩
  have hnf := eqlFuncNilY (v := false) Try.underlying28 (.func g) #[] lb
  have cAll : Hid (∀ W, Kp [] w W → Calls Try.prog 10 #[.func (.func g) #[] lb] W (LotP R W)) := fun W k => callsIn_wide.1 (cAllR d (by omega) g lb R js W heg ((hseq d (Nat.le_refl _)).move (KeepB.ofKp k (by simp))) (fun j hj => Nat.lt_of_lt_of_le (hjs j hj) k.size) hR hRl)
  have cSm : Hid (∀ W, Kp [] w W → ∀ ra rc L, Lot 0 ra rc L W → L.map (·.l) = R → Calls Try.prog 13 #[.slice ra L.length rc, .slice ma M.length mc] W fun e w' => e = .returned (.bool true) ∧ Kp [] W w') := fun W k ra rc L hl hL => by
    have ck := CK.ofKp k
    obtain ⟨a', c', e, hs', _⟩ := hl.row.see
    cases e
    exact cSameAll ra ma rc mc L M W hs' (ckSee ck hs (by simp)) hl.lies (fun x h => (hx x h).ck ck (by simp)) (by rw [hL, hM]) (by have := congrArg List.length hL; simp at this; omega)
  clear hI0 k1 k2 b1 b2 hseq hjs hz2 hs hx hM
  refine callsIn_of_wp_marks Try.func17 rfl trivial ?_ rfl
  simp only [Try.ntmps17, List.size_toArray, List.length_cons, List.length_nil, Nat.reduceAdd, Nat.reduceSub, Array.replicate_succ, Array.replicate_zero, List.push_toArray, List.append_toArray, List.nil_append, List.cons_append]
  refine wpIn_wide.2 ?_
  go_wp2_with fail
  refine (wpIn_wide (n := d)).1 ?_
  refine wpRangeX rfl (by omega) (gf := g) (lb := lb) rfl trivial heg
    HSQ.out (fun _ => rfl) KeepR.trans (fun s W o => KeepR.alloc s W o) hKR.out
    (TwI w2 q5) (fun c s W' => c = .exit 0 ∧ CoR w2 [q5] s W') TwI.own (fun c s X Y row h hg hr => ⟨h.1, h.2.grown hg hr⟩) HI0.out
    (fun s s' A B h ht k o hk ho => h.co.keeps ht k o hk ho) (fun c s A B h ht k o hk ho => h.2.keepsX ht k o hk ho) (fun s s' A B hz h ht => h.step hq52 hz ht) (fun c s A B h ht => ⟨h.1, h.2.stepX ht⟩)
    (fun s W o' h => h.co.recs o') (fun s x W o' h => CoR.recs (S := [q5]) (s := s) ⟨h.co.os, h.co.tape, h.co.output, h.co.size, h.co.low, h.co.mde, h.co.js, h.co.jl, h.co.ql⟩ o') (fun c s x W o' h => CoR.recs (S := [q5]) (s := s) ⟨h.2.os, h.2.tape, h.2.output, h.2.size, h.2.low, h.2.mde, h.2.js, h.2.jl, h.2.ql⟩ o')
    (fun x => { tmps := #[.func (.func g) #[] lb, .slice ma M.length mc, undef, undef, .bool false, .pointer (some ⟨q5, 0, none⟩), .func (.func g) #[] lb, .bool false, .func (.func g) #[] lb, .slice x.a x.l.length x.c, undef, undef, undef, undef, undef, undef, undef, undef, undef, undef, undef, undef, undef, undef], defers := [] }) ?assign ?body ?done ?stop
  case assign =>
    intro l x W C hC
    gi_wp2_with fail
    simpa [encR] using hC
  case body =>
    rintro l0 s ⟨xa, xc, xl⟩ A h hp
    have hb := h.box
    have hf := h.free
    have hfew := h.few
    have h' := hid h
    have d1 : (s.i : Int) + 1 ≤ 9223372036854775807 := by omega
    have c1 := World.cell?_setCell_same A ⟨q5, 0, none⟩ (.int .i64 ((s.i : Int) + 1)) hb
    have k1 : Kp [q5] A (A.setCell ⟨q5, 0, none⟩ (.int .i64 ((s.i : Int) + 1))) := (Kp.refl _ _).setCell (by simp) _
    obtain ⟨r1, r2, r3⟩ := h.co.round (x := ⟨xa, xc, xl⟩) k1 (fun k hk => by rw [List.mem_singleton.1 hk]; exact cellCel hb) (fun k hk => .inl hk) (fun k hk hm => (h.co.js k hm).1 hk)
    have f1 : (A.setCell ⟨q5, 0, none⟩ (.int .i64 ((s.i : Int) + 1))).frozen? ⟨q5, 0, none⟩ = false := by rw [World.frozen?_setCell]; exact hf
    have HR := hid (And.intro r1 (And.intro r2 (And.intro r3 (And.intro c1 f1))))
    clear h r1 r2 r3 k1 f1
    by_cases hi : s.i = 1
    · have d2 : (((s.i : Nat) : Int) + 1 == 2) = true := by simp; omega
      have d3 : ((s.i : Nat) : Int) + 1 = 2 := by omega
      have hi' := hid hi
      clear hi
      gi_wp2_with fail
      have HR2 := HR.out
      rw [d3] at HR2
      exact ⟨HR2.1, HR2.2.1, rfl, HR2.2.2.1⟩
    · have d2 : (((s.i : Nat) : Int) + 1 == 2) = false := beq_eq_false_iff_ne.2 (by omega)
      have d3 : ¬ ((s.i : Nat) : Int) + 1 = 2 := by omega
      have hi' := hid hi
      clear hi
      gi_wp2_with fail
      exact ⟨HR.out.1, HR.out.2.1, HR.out.2.2.1, HR.out.2.2.2.1, HR.out.2.2.2.2, by show s.i + 1 ≤ 1; have := hi'.out; omega⟩
  case done =>
    rintro D s X hD ⟨hmd, hsi, hsp⟩ h hrec
    have hkX : Kp [] w X := HK.out.trans h.co.kp (fun x hx => .inr (by simp at hx; omega))
    clear h
    have KX := hid hkX
    have hrec' := hid hrec
    clear hkX hrec
    go_wp2_with fail
    refine (cAll.out X KX.out).mono ?_
    rintro e X1 ⟨ra, rc, L, rfl, hl, hL, k1⟩
    have KX1 := hid (KX.out.trans k1 (by simp))
    have KD1 := hid k1
    have cS1 := hid (cSm.out X1 KX1.out ra rc L (hl.mono (Nat.zero_le _)) hL)
    clear hl hL k1
    go_wp2_with fail
    refine cS1.out.mono ?_
    rintro e X2 ⟨rfl, k2⟩
    have KX2 := hid (KX1.out.trans k2 (by simp))
    have KD2 := hid (KD1.out.trans k2 (by simp))
    clear cS1 k2
    go_wp2_with fail
    refine (cAll.out X2 KX2.out).mono ?_
    rintro e X3 ⟨ra3, rc3, L3, rfl, hl, hL, k3⟩
    have KX3 := hid (KX2.out.trans k3 (by simp))
    have KD3 := hid (KD2.out.trans k3 (by simp))
    have cS3 := hid (cSm.out X3 KX3.out ra3 rc3 L3 (hl.mono (Nat.zero_le _)) hL)
    clear hl hL k3
    go_wp2_with fail
    refine cS3.out.mono ?_
    rintro e X4 ⟨rfl, k4⟩
    have KX4 := hid (KX3.out.trans k4 (by simp))
    have KD4 := hid (KD3.out.trans k4 (by simp))
    clear cS3 k4
    go_wp2_with fail
    have hDl := (Array.getElem?_eq_some_iff.1 hrec'.out).1
    have hrec2 : X4.heap[D]? = some (.deferred (some [])) := (KD4.out.block D hDl (by simp)).trans hrec'.out
    have hmk : Mks [D] X4 := (Mks.nil X4).cons hrec2 (by simp)
    have hDw : w.heap.size ≤ D := by have := hzw.out; omega
    show LeavesInM _ _ _ _ _ _ (marks [D]) .returning _
    refine leaves_marks [D] X4 hmk fun w' hk => ⟨_, results_tmp rfl _ _ _, rfl, KX4.out.trans hk (fun x hx => .inr (by simp at hx; omega))⟩
  case stop =>
    rintro D c s X hD hsm ⟨rfl, h⟩ hrec
    have hkX : Kp [] w X := HK.out.trans h.kp (fun x hx => .inr (by simp at hx; omega))
    clear h
    refine wpIn_wide.2 ?_
    have KX := hid hkX
    have hrec' := hid hrec
    clear hkX hrec
    go_wp2_with fail
    refine (cAll.out X KX.out).mono ?_
    rintro e X1 ⟨ra, rc, L, rfl, hl, hL, k1⟩
    have KX1 := hid (KX.out.trans k1 (by simp))
    have KD1 := hid k1
    have cS1 := hid (cSm.out X1 KX1.out ra rc L (hl.mono (Nat.zero_le _)) hL)
    clear hl hL k1
    go_wp2_with fail
    refine cS1.out.mono ?_
    rintro e X2 ⟨rfl, k2⟩
    have KX2 := hid (KX1.out.trans k2 (by simp))
    have KD2 := hid (KD1.out.trans k2 (by simp))
    clear cS1 k2
    go_wp2_with fail
    refine (cAll.out X2 KX2.out).mono ?_
    rintro e X3 ⟨ra3, rc3, L3, rfl, hl, hL, k3⟩
    have KX3 := hid (KX2.out.trans k3 (by simp))
    have KD3 := hid (KD2.out.trans k3 (by simp))
    have cS3 := hid (cSm.out X3 KX3.out ra3 rc3 L3 (hl.mono (Nat.zero_le _)) hL)
    clear hl hL k3
    go_wp2_with fail
    refine cS3.out.mono ?_
    rintro e X4 ⟨rfl, k4⟩
    have KX4 := hid (KX3.out.trans k4 (by simp))
    have KD4 := hid (KD3.out.trans k4 (by simp))
    clear cS3 k4
    go_wp2_with fail
    have hDl := (Array.getElem?_eq_some_iff.1 hrec'.out).1
    have hrec2 : X4.heap[D]? = some (.deferred (some [])) := (KD4.out.block D hDl (by simp)).trans hrec'.out
    have hmk : Mks [D] X4 := (Mks.nil X4).cons hrec2 (by simp)
    have hDw : w.heap.size ≤ D := by have := hzw.out; omega
    show LeavesInM _ _ _ _ _ _ (marks [D]) .returning _
    refine leaves_marks [D] X4 hmk fun w' hk => ⟨_, results_tmp rfl _ _ _, rfl, KX4.out.trans hk (fun x hx => .inr (by simp at hx; omega))⟩
end Go.Proofs.Ytfolkjjhlcjfgaa
end

section
namespace Go.Proofs.Ytfolkjjhlcjfgaa
open Go.RowKit Go.Hay
attribute [local go_sem] Oper.semAt_some
set_option linter.unusedVariables false
set_option linter.unusedSimpArgs false

/-- Rows of two sides: what is joined. -/
theorem joinAll (d : Nat) (hd : 5 ≤ d) (gl gr : Nat) (lbl lbr : Array Value) (frL frR : Bool) (RL RR : List (List Val)) (jsl jsr : List Nat) (lo ro : Int) (w : World)
    (heL : ∀ args w, (callFunc gl args).run Try.prog w = .ok (.enter gl args) w) (heR : ∀ args w, (callFunc gr args).run Try.prog w = .ok (.enter gr args) w)
    (hL : ∀ n, 1 ≤ n → RowSeq frL n gl lbl RL jsl w) (hR : ∀ n, 1 ≤ n → RowSeq frR n gr lbr RR jsr w) (hjl : ∀ j ∈ jsl, j < w.heap.size) (hjr : ∀ j ∈ jsr, j < w.heap.size)
    (hRR : RR.length ≤ 1000000) (hRRl : ∀ l ∈ RR, l.length ≤ 1800000000000) (hRLl : ∀ l ∈ RL, l.length ≤ 1800000000000) (w' : World)
    (hw : w' = (((w.alloc (.cells #[.func (.func gl) #[] lbl] 28)).alloc (.cells #[.func (.func gr) #[] lbr] 28)).alloc (.cells #[.int .i64 lo] 3)).alloc (.cells #[.int .i64 ro] 3)) :
    Kp [] w w' ∧ ∃ js, (∀ j ∈ js, j < w'.heap.size) ∧ ∀ n, 4 ≤ n → RowSeq true n 32 #[.pointer (some ⟨w.heap.size + 1, 0, none⟩), .pointer (some ⟨w.heap.size + 3, 0, none⟩), .pointer (some ⟨w.heap.size, 0, none⟩), .pointer (some ⟨w.heap.size + 2, 0, none⟩)] (joinR RL (srtR ro (ordR ro RR)) lo ro) js w' := by
  obtain ⟨wa, ha⟩ : ∃ x, x = w.alloc (.cells #[.func (.func gl) #[] lbl] 28) := ⟨_, rfl⟩
  obtain ⟨wb, hb⟩ : ∃ x, x = wa.alloc (.cells #[.func (.func gr) #[] lbr] 28) := ⟨_, rfl⟩
  obtain ⟨wc, hc⟩ : ∃ x, x = wb.alloc (.cells #[.int .i64 lo] 3) := ⟨_, rfl⟩
  rw [← ha, ← hb, ← hc] at hw
  have za : wa.heap.size = w.heap.size + 1 := by rw [ha]; simp
  have zb : wb.heap.size = w.heap.size + 2 := by rw [hb]; simp [za]
  have zc : wc.heap.size = w.heap.size + 3 := by rw [hc]; simp [zb]
  have zd : w'.heap.size = w.heap.size + 4 := by rw [hw]; simp [zc]
  have ka : Kp [] w wa := by rw [ha]; exact (Kp.refl _ _).alloc _
  have kb : Kp [] wa wb := by rw [hb]; exact (Kp.refl _ _).alloc _
  have kc : Kp [] wb wc := by rw [hc]; exact (Kp.refl _ _).alloc _
  have kd : Kp [] wc w' := by rw [hw]; exact (Kp.refl _ _).alloc _
  have ba : Bn wa w.heap.size [.func (.func gl) #[] lbl] := by rw [ha]; exact Bn.new w _ _
  have bb : Bn wb (w.heap.size + 1) [.func (.func gr) #[] lbr] := by rw [hb, ← za]; exact Bn.new wa _ _
  have bc : Bn wc (w.heap.size + 2) [.int .i64 lo] := by rw [hc, ← zb]; exact Bn.new wb _ _
  have bd : Bn w' (w.heap.size + 3) [.int .i64 ro] := by rw [hw, ← zc]; exact Bn.new wc _ _
  have kcd := kc.trans kd (by simp)
  have kbd := kb.trans kcd (by simp)
  have kw := ka.trans kbd (by simp)
  refine ⟨kw, (jsl ++ jsr) ++ [w.heap.size + 1, w.heap.size + 3, w.heap.size, w.heap.size + 2], fun j hj => ?_, ?_⟩
  · rcases List.mem_append.1 hj with e | e
    · rcases List.mem_append.1 e with e | e
      · have := hjl j e; omega
      · have := hjr j e; omega
    · simp at e; omega
  · intro n0 hn0
    refine joinSeq n0 hn0 _ _ _ _ frL frR gl gr lbl lbr RL RR (srtR ro (ordR ro RR)) jsl jsr _ lo ro w' heL heR ((bb.kept kcd).get 0 _ rfl) (bd.get 0 _ rfl) ((ba.kept kbd).get 0 _ rfl) ((bc.kept kd).get 0 _ rfl) (fun q hq => List.mem_append.2 (.inr hq)) (fun j hj => by simp [hj]) (fun j hj => by simp [hj]) (fun j hj => ?_) (fun n hn => (hL n hn).move (KeepB.ofKp kw (by simp))) (fun n hn => (hR n hn).move (KeepB.ofKp kw (by simp))) (by omega) hRRl hRLl ?_ ?_ (sortOrd ro RR ?_) (monoOrd ro RR)
    · rcases List.mem_append.1 hj with e | e
      · rcases List.mem_append.1 e with e | e
        · have := hjl j e; omega
        · have := hjr j e; omega
      · simp at e; omega
    · have := List.length_filter_le (fun l => !((vAt l ro).k == 0)) RR
      rw [srtR_len]
      unfold ordR; omega
    · intro l hl
      have h1 := (srtR_perm ro (ordR ro RR)).mem_iff.1 hl
      exact hRRl l (List.mem_filter.1 h1).1
    · have := List.length_filter_le (fun l => !((vAt l ro).k == 0)) RR
      unfold ordR; omega
theorem refJ_len (RL RR : List (List Val)) (lo ro : Int) : (refJ RL RR lo ro).length ≤ RL.length * RR.length := by
  unfold refJ
  induction RL with
  | nil => simp
  | cons x RL ih =>
    rw [List.flatMap_cons, List.length_append, List.length_map, List.length_cons, Nat.succ_mul]
    have := List.length_filter_le (fun r => (vAt x lo).k != 0 && (vAt r ro).k != 0 && cmpV (vAt x lo) (vAt r ro) == 0) RR
    omega
theorem refJ_row {RL RR : List (List Val)} {lo ro : Int} {A B : Nat} (hA : ∀ l ∈ RL, l.length ≤ A) (hB : ∀ l ∈ RR, l.length ≤ B) : ∀ l ∈ refJ RL RR lo ro, l.length ≤ A + B := fun l hl => by
  obtain ⟨x, hx, hm⟩ := List.mem_flatMap.1 hl
  obtain ⟨r, hr, rfl⟩ := List.mem_map.1 hm
  have h1 := hA x hx
  have h2 := hB r (List.mem_filter.1 hr).1
  rw [List.length_append]
  omega
set_option maxHeartbeats 32000000 in
set_option maxRecDepth 100000 in
theorem joinsWalk (a0 : Option Addr) (c0 : Nat) (L0 : List Vs) (a1 : Option Addr) (c1 : Nat) (M0 : List Vs) (lo ro : Int) (w : World) (hs : VsE.See w a0 L0) (hx : ∀ x ∈ L0, x.lies w) (hl : L0.length ≤ 1048576) (hr : ∀ x ∈ L0, x.l.length ≤ 1048576) (ht : VsE.See w a1 M0) (hy : ∀ x ∈ M0, x.lies w) (hm : M0.length ≤ 1048576) (hrm : ∀ x ∈ M0, x.l.length ≤ 1048576) :
    Calls Try.prog 4 #[.slice a0 L0.length c0, .slice a1 M0.length c1, .agg #[.int .i64 lo, .int .i64 ro]] w fun e w' => e = .returned (.bool true) ∧ Below w.heap.size w w' := by
  obtain ⟨w1, hw1, k1, b1⟩ : ∃ x, w.alloc (.cells #[.int .i64 lo, .int .i64 ro] 38) = x ∧ Kp [] w x ∧ Bn x w.heap.size [.int .i64 lo, .int .i64 ro] := ⟨_, rfl, (Kp.refl _ _).alloc _, Bn.new w _ _⟩
  obtain ⟨q5, hq5⟩ : ∃ q, w.heap.size = q := ⟨_, rfl⟩
  rw [hq5] at b1
  have HS : Hid (∀ W, Kp [] w W → VsE.See W a0 L0 ∧ (∀ x ∈ L0, x.lies W) ∧ VsE.See W a1 M0 ∧ (∀ x ∈ M0, x.lies W)) := fun W k => ⟨ckSee (CK.ofKp k) hs (by simp), fun x h => (hx x h).ck (CK.ofKp k) (by simp), ckSee (CK.ofKp k) ht (by simp), fun x h => (hy x h).ck (CK.ofKp k) (by simp)⟩
  have HB : Hid (∀ W', Kp [] w1 W' → W'.cell? ⟨q5, 0, none⟩ = some (.int .i64 lo) ∧ W'.cell? ⟨q5, 1, none⟩ = some (.int .i64 ro)) := fun W' k => ⟨(b1.kept k).get 0 _ rfl, (b1.kept k).get 1 _ rfl⟩
  have HR := hid (And.intro hr hrm)
  have K1 := hid k1
  clear hs hx ht hy k1 b1 hr hrm
  by_cases hbig : 1000 < L0.length ∨ 1000 < M0.length
  · have cAl := hid (cAlive15 w1)
    by_cases h1 : 1000 < L0.length
    · have d1 : decide ((1000 : Int) < (L0.length : Int)) = true := by simp; omega
      have d1' : (1000 : Int) < (L0.length : Int) := by omega
      clear hbig h1
      go_enter Try.func4, Try.ntmps4
      go_wp2_with fail
      refine cAl.out.mono ?_
      rintro e w2 ⟨rfl, k2⟩
      have KF := hid (K1.out.trans k2 (by simp))
      clear cAl k2
      go_wp2_with fail
      go_ret
      exact ⟨rfl, KF.out.below⟩
    · have h2 : 1000 < M0.length := by omega
      have d1 : decide ((1000 : Int) < (L0.length : Int)) = false := by simp; omega
      have d1' : ¬ (1000 : Int) < (L0.length : Int) := by omega
      have d2 : decide ((1000 : Int) < (M0.length : Int)) = true := by simp; omega
      have d2' : (1000 : Int) < (M0.length : Int) := by omega
      clear hbig h1 h2
      go_enter Try.func4, Try.ntmps4
      go_wp2_with fail
      refine cAl.out.mono ?_
      rintro e w2 ⟨rfl, k2⟩
      have KF := hid (K1.out.trans k2 (by simp))
      clear cAl k2
      go_wp2_with fail
      go_ret
      exact ⟨rfl, KF.out.below⟩
  have hL1 : L0.length ≤ 1000 := by omega
  have hM1 : M0.length ≤ 1000 := by omega
  have d1 : decide ((1000 : Int) < (L0.length : Int)) = false := by simp; omega
  have d1' : ¬ (1000 : Int) < (L0.length : Int) := by omega
  have d2 : decide ((1000 : Int) < (M0.length : Int)) = false := by simp; omega
  have d2' : ¬ (1000 : Int) < (M0.length : Int) := by omega
  clear hbig
  obtain ⟨RL, hRL⟩ : ∃ R, Hid (L0.map (·.l) = R) := ⟨_, rfl⟩
  obtain ⟨RR, hRR⟩ : ∃ R, Hid (M0.map (·.l) = R) := ⟨_, rfl⟩
  have hRLb : Hid (RL.length ≤ 1000 ∧ ∀ l ∈ RL, l.length ≤ 1048576) := ⟨by rw [← hRL.out]; simpa using hL1, fun l hm' => by rw [← hRL.out] at hm'; obtain ⟨x, hx', rfl⟩ := List.mem_map.1 hm'; exact HR.out.1 x hx'⟩
  have hRRb : Hid (RR.length ≤ 1000 ∧ ∀ l ∈ RR, l.length ≤ 1048576) := ⟨by rw [← hRR.out]; simpa using hM1, fun l hm' => by rw [← hRR.out] at hm'; obtain ⟨x, hx', rfl⟩ := List.mem_map.1 hm'; exact HR.out.2 x hx'⟩
  have cC0 := cCopied a0 c0 L0 w1 (HS.out w1 K1.out).1 (HS.out w1 K1.out).2.1 (by omega) (fun x h => by have := HR.out.1 x h; omega)
  rw [hRL.out] at cC0
  have cC := hid cC0
  clear cC0
  go_enter Try.func4, Try.ntmps4
  go_wp2_with fail
  refine cC.out.mono ?_
  rintro e w2 ⟨ra, rc, L, rfl, hlot, hL, k2⟩
  have K2 := hid (K1.out.trans k2 (by simp))
  have K12 := hid k2
  have HLt := hid (And.intro hlot hL)
  have cC1 := cCopied a1 c1 M0 w2 (HS.out w2 K2.out).2.2.1 (HS.out w2 K2.out).2.2.2 (by omega) (fun x h => by have := HR.out.2 x h; omega)
  rw [hRR.out] at cC1
  have cC2 := hid cC1
  clear cC hlot hL k2 cC1
  go_wp2_with fail
  refine cC2.out.mono ?_
  rintro e w3 ⟨rb, rd, M, rfl, hlotM, hM, k3⟩
  have K3 := hid (K2.out.trans k3 (by simp))
  have K13 := hid (K12.out.trans k3 (by simp))
  have HL3 := hid (And.intro (HLt.out.1.ck (CK.ofKp k3) (by simp) (by simp)) HLt.out.2)
  have HM3 := hid (And.intro hlotM hM)
  have hLn : L.length ≤ 4000000000000 := by have h1 := congrArg List.length HLt.out.2; have h2 := hRLb.out.1; rw [List.length_map] at h1; omega
  have hMn : M.length ≤ 4000000000000 := by have h1 := congrArg List.length hM; have h2 := hRRb.out.1; rw [List.length_map] at h1; omega
  clear cC2 hlotM hM k3 HLt
  go_wp2_with fail
  refine wp_noPanicY ?_
  refine wp_region_held_drew (S := fun W' => W'.cell? ⟨q5, 0, none⟩ = some (.int .i64 lo) ∧ W'.cell? ⟨q5, 1, none⟩ = some (.int .i64 ro)) (by kernel_rfl) (HB.out _ K13.out.drew) (fun hHeld => ?_)
  have kD : Kp [] w3 w3.drew := (Kp.refl _ _).drew
  generalize w3.drew = w4 at *
  have K4 := hid (K3.out.trans kD (by simp))
  have K14 := hid (K13.out.trans kD (by simp))
  have HL4 := hid (And.intro (HL3.out.1.ck (CK.ofKp kD) (by simp) (by simp)) HL3.out.2)
  have HM4 := hid (And.intro (HM3.out.1.ck (CK.ofKp kD) (by simp) (by simp)) HM3.out.2)
  clear kD HL3 HM3
  have cV := hid (cValuesE ra L.length rc w4)
  refine wpAnyH_take (i := 0) (v := ?_) rfl (by kernel_rfl) (by kernel_rfl) (by kernel_rfl) (fun _ _ _ h => by cases h.1) (Or.inl ⟨by rfl, ?_⟩) (by assumption) ?_
  rotate_left
  · intro w hSw; (try dsimp only at hSw); go_simp <;> with_reducible rfl
  try simp only [Act.put, List.getElem_toArray, List.getElem_cons_zero, List.getElem_cons_succ, List.setIfInBounds_toArray, List.set_cons_zero, List.set_cons_succ]
  refine wpAnyH_take (i := 2) (v := ?_) rfl (by kernel_rfl) (by kernel_rfl) (by kernel_rfl) (fun _ _ _ h => by cases h.1) (Or.inl ⟨by rfl, ?_⟩) (by assumption) ?_
  rotate_left
  · intro w hSw; (try dsimp only at hSw); go_simp <;> with_reducible rfl
  try simp only [Act.put, List.getElem_toArray, List.getElem_cons_zero, List.getElem_cons_succ, List.setIfInBounds_toArray, List.set_cons_zero, List.set_cons_succ]
  refine wpAnyH_take (i := 4) (v := ?_) rfl (by kernel_rfl) (by kernel_rfl) (by kernel_rfl) (fun _ _ _ h => by cases h.1) (Or.inl ⟨by rfl, ?_⟩) (by assumption) ?_
  rotate_left
  · intro w hSw; (try dsimp only at hSw); go_simp <;> with_reducible rfl
  try simp only [Act.put, List.getElem_toArray, List.getElem_cons_zero, List.getElem_cons_succ, List.setIfInBounds_toArray, List.set_cons_zero, List.set_cons_succ]
  refine wpAnyH_take (i := 5) (v := ?_) rfl (by kernel_rfl) (by kernel_rfl) (by kernel_rfl) (fun _ _ _ h => by cases h.1) (Or.inl ⟨by rfl, ?_⟩) (by assumption) ?_
  rotate_left
  · intro w hSw; (try dsimp only at hSw); go_simp <;> with_reducible rfl
  try simp only [Act.put, List.getElem_toArray, List.getElem_cons_zero, List.getElem_cons_succ, List.setIfInBounds_toArray, List.set_cons_zero, List.set_cons_succ]
  refine wpAnyH_take (i := 6) (v := ?_) rfl (by kernel_rfl) (by kernel_rfl) (by kernel_rfl) (fun _ _ _ h => by cases h.1) (Or.inl ⟨by rfl, ?_⟩) (by assumption) ?_
  rotate_left
  · intro w hSw; (try dsimp only at hSw); go_simp <;> with_reducible rfl
  try simp only [Act.put, List.getElem_toArray, List.getElem_cons_zero, List.getElem_cons_succ, List.setIfInBounds_toArray, List.set_cons_zero, List.set_cons_succ]
  refine wpAnyH_take (i := 7) (v := ?_) rfl (by kernel_rfl) (by kernel_rfl) (by kernel_rfl) (fun _ _ _ h => by cases h.1) (Or.inl ⟨by rfl, ?_⟩) (by assumption) ?_
  rotate_left
  · intro w hSw; (try dsimp only at hSw); go_simp <;> with_reducible rfl
  try simp only [Act.put, List.getElem_toArray, List.getElem_cons_zero, List.getElem_cons_succ, List.setIfInBounds_toArray, List.set_cons_zero, List.set_cons_succ]
  refine wpAnyH_take (i := 9) (v := ?_) rfl (by kernel_rfl) (by kernel_rfl) (by kernel_rfl) (fun _ _ _ h => by cases h.1) (Or.inl ⟨by rfl, ?_⟩) (by assumption) ?_
  rotate_left
  · intro w hSw; (try dsimp only at hSw); go_simp <;> with_reducible rfl
  try simp only [Act.put, List.getElem_toArray, List.getElem_cons_zero, List.getElem_cons_succ, List.setIfInBounds_toArray, List.set_cons_zero, List.set_cons_succ]
  refine wpAnyH_take (i := 10) (v := ?_) rfl (by kernel_rfl) (by kernel_rfl) (by kernel_rfl) (fun _ _ _ h => by cases h.1) (Or.inl ⟨by rfl, ?_⟩) (by assumption) ?_
  rotate_left
  · intro w hSw; (try dsimp only at hSw); go_simp <;> with_reducible rfl
  try simp only [Act.put, List.getElem_toArray, List.getElem_cons_zero, List.getElem_cons_succ, List.setIfInBounds_toArray, List.set_cons_zero, List.set_cons_succ]
  refine wpAnyH_take (i := 11) (v := ?_) rfl (by kernel_rfl) (by kernel_rfl) (by kernel_rfl) (fun _ _ _ h => by cases h.1) (Or.inl ⟨by rfl, ?_⟩) (by assumption) ?_
  rotate_left
  · intro w hSw; (try dsimp only at hSw); go_simp <;> with_reducible rfl
  try simp only [Act.put, List.getElem_toArray, List.getElem_cons_zero, List.getElem_cons_succ, List.setIfInBounds_toArray, List.set_cons_zero, List.set_cons_succ]
  refine wpAnyH_take (i := 12) (v := ?_) rfl (by kernel_rfl) (by kernel_rfl) (by kernel_rfl) (fun _ _ _ h => by cases h.1) (Or.inl ⟨by rfl, ?_⟩) (by assumption) ?_
  rotate_left
  · intro w hSw; (try dsimp only at hSw); go_simp <;> with_reducible rfl
  try simp only [Act.put, List.getElem_toArray, List.getElem_cons_zero, List.getElem_cons_succ, List.setIfInBounds_toArray, List.set_cons_zero, List.set_cons_succ]
  refine wpAnyH_take (i := 13) (v := ?_) rfl (by kernel_rfl) (by kernel_rfl) (by kernel_rfl) (fun _ _ _ h => by cases h.1) (Or.inl ⟨by rfl, ?_⟩) (by assumption) ?_
  rotate_left
  · intro w hSw; (try dsimp only at hSw); go_simp <;> with_reducible rfl
  try simp only [Act.put, List.getElem_toArray, List.getElem_cons_zero, List.getElem_cons_succ, List.setIfInBounds_toArray, List.set_cons_zero, List.set_cons_succ]
  refine wpAnyH_take (i := 14) (v := ?_) rfl (by kernel_rfl) (by kernel_rfl) (by kernel_rfl) (fun _ _ _ h => by cases h.1) (Or.inl ⟨by rfl, ?_⟩) (by assumption) ?_
  rotate_left
  · intro w hSw; (try dsimp only at hSw); go_simp <;> with_reducible rfl
  try simp only [Act.put, List.getElem_toArray, List.getElem_cons_zero, List.getElem_cons_succ, List.setIfInBounds_toArray, List.set_cons_zero, List.set_cons_succ]
  refine wpAnyH_ready (rs := [1]) (by kernel_rfl) (by simp) ?_
  refine AllReadyH.cons rfl (fun K hK => ?_) AllReadyH.nil
  go_simp
  refine cV.out.mono ?_
  rintro e w5 ⟨rfl, hw5⟩
  have k5 : Kp [] w4 w5 := by rw [hw5]; exact (Kp.refl _ _).alloc _
  have srcL := hid (HL4.out.1.src hLn 22)
  rw [← hw5, HL4.out.2] at srcL
  obtain ⟨qa, hqa⟩ : ∃ q, Hid (w4.heap.size = q) := ⟨_, rfl⟩
  rw [hqa.out] at srcL ⊢
  have K5 := hid (K4.out.trans k5 (by simp))
  have K15 := hid (K14.out.trans k5 (by simp))
  have HL5 := hid (And.intro (HL4.out.1.ck (CK.ofKp k5) (by simp) (by simp)) HL4.out.2)
  have HM5 := hid (And.intro (HM4.out.1.ck (CK.ofKp k5) (by simp) (by simp)) HM4.out.2)
  clear k5 hw5 HL4 HM4
  (try go_wp2_with fail)
  refine hK.out _ _ (HB.out _ K15.out) (fun hHeld => ?_)
  clear hK K
  try simp only [Act.put, List.getElem_toArray, List.getElem_cons_zero, List.getElem_cons_succ, List.setIfInBounds_toArray, List.set_cons_zero, List.set_cons_succ]
  clear cV
  have cV := hid (cValuesE rb M.length rd w5)
  refine wpAnyH_ready (rs := [3]) (by kernel_rfl) (by simp) ?_
  refine AllReadyH.cons rfl (fun K hK => ?_) AllReadyH.nil
  go_simp
  refine cV.out.mono ?_
  rintro e w6 ⟨rfl, hw6⟩
  have k6 : Kp [] w5 w6 := by rw [hw6]; exact (Kp.refl _ _).alloc _
  have srcR := hid (HM5.out.1.src hMn 22)
  rw [← hw6, HM5.out.2] at srcR
  obtain ⟨qb, hqb⟩ : ∃ q, Hid (w5.heap.size = q) := ⟨_, rfl⟩
  rw [hqb.out] at srcR ⊢
  have K6 := hid (K5.out.trans k6 (by simp))
  have K16 := hid (K15.out.trans k6 (by simp))
  have K56 := hid k6
  have HL6 := hid (And.intro (HL5.out.1.ck (CK.ofKp k6) (by simp) (by simp)) HL5.out.2)
  have HM6 := hid (And.intro (HM5.out.1.ck (CK.ofKp k6) (by simp) (by simp)) HM5.out.2)
  clear k6 hw6 HL5 HM5
  (try go_wp2_with fail)
  refine hK.out _ _ (HB.out _ K16.out) (fun hHeld => ?_)
  clear hK K
  try simp only [Act.put, List.getElem_toArray, List.getElem_cons_zero, List.getElem_cons_succ, List.setIfInBounds_toArray, List.set_cons_zero, List.set_cons_succ]
  have hj1 := hid (joinAll 5 (by omega) 31 31 #[.pointer (some ⟨qa, 0, none⟩)] #[.pointer (some ⟨qb, 0, none⟩)] false false RL RR _ _ lo ro w6 heVal heVal (fun n hn => (srcL.out.1 n hn).move (KeepB.ofKp K56.out (by simp))) srcR.out.1 (fun j hj => by have := srcL.out.2 j hj; have := K56.out.size; omega) srcR.out.2 (by have := hRRb.out.1; omega) (fun l h => by have := hRRb.out.2 l h; omega) (fun l h => by have := hRLb.out.2 l h; omega))
  have cJ := hid (cJoinE 31 31 #[.pointer (some ⟨qa, 0, none⟩)] #[.pointer (some ⟨qb, 0, none⟩)] lo ro w6)
  refine wpAnyH_ready (rs := [8]) (by kernel_rfl) (by simp) ?_
  refine AllReadyH.cons rfl (fun K hK => ?_) AllReadyH.nil
  go_simp
  refine cJ.out.mono ?_
  rintro e w7 ⟨rfl, hw7⟩
  obtain ⟨k7, js, hjs, hsq⟩ := hj1.out w7 hw7
  rw [joinR_ref] at hsq
  obtain ⟨lb, hlb⟩ : ∃ l : Array Value, Hid (#[Value.pointer (some ⟨w6.heap.size + 1, 0, none⟩), Value.pointer (some ⟨w6.heap.size + 3, 0, none⟩), Value.pointer (some ⟨w6.heap.size, 0, none⟩), Value.pointer (some ⟨w6.heap.size + 2, 0, none⟩)] = l) := ⟨_, rfl⟩
  rw [hlb.out] at hsq ⊢
  have K7 := hid (K6.out.trans k7 (by simp))
  have K17 := hid (K16.out.trans k7 (by simp))
  have HL7 := hid (And.intro (HL6.out.1.ck (CK.ofKp k7) (by simp) (by simp)) HL6.out.2)
  have HM7 := hid (And.intro (HM6.out.1.ck (CK.ofKp k7) (by simp) (by simp)) HM6.out.2)
  have HQ := hid (And.intro hjs hsq)
  clear k7 hw7 HL6 HM6 hjs hsq
  (try go_wp2_with fail)
  refine hK.out _ _ (HB.out _ K17.out) (fun hHeld => ?_)
  clear hK K
  try simp only [Act.put, List.getElem_toArray, List.getElem_cons_zero, List.getElem_cons_succ, List.setIfInBounds_toArray, List.set_cons_zero, List.set_cons_succ]
  have cR0 := rJoin a0 a1 c0 c1 L0 M0 lo ro w7 (HS.out w7 K7.out).1 (HS.out w7 K7.out).2.2.1 (HS.out w7 K7.out).2.1 (HS.out w7 K7.out).2.2.2 hL1 hM1 HR.out.1 HR.out.2
  rw [hRL.out, hRR.out] at cR0
  have cR := hid cR0
  clear cR0 hj1 cJ srcL srcR
  refine wpAnyH_ready (rs := [15]) (by kernel_rfl) (by simp) ?_
  refine AllReadyH.cons rfl (fun K hK => ?_) AllReadyH.nil
  go_simp
  refine cR.out.mono ?_
  rintro e w8 ⟨ma, mc, N, rfl, hlN, hN, k8⟩
  have K8 := hid (K7.out.trans k8 (by simp))
  have K18 := hid (K17.out.trans k8 (by simp))
  have HL8 := hid (And.intro (HL7.out.1.ck (CK.ofKp k8) (by simp) (by simp)) HL7.out.2)
  have HM8 := hid (And.intro (HM7.out.1.ck (CK.ofKp k8) (by simp) (by simp)) HM7.out.2)
  have HN := hid (And.intro hlN hN)
  have K78 := hid k8
  clear k8 HL7 HM7 hlN hN
  (try go_wp2_with fail)
  refine hK.out _ _ (HB.out _ K18.out) (fun hHeld => ?_)
  clear hK K
  try simp only [Act.put, List.getElem_toArray, List.getElem_cons_zero, List.getElem_cons_succ, List.setIfInBounds_toArray, List.set_cons_zero, List.set_cons_succ]
  obtain ⟨a', c', e', hns, _⟩ := HN.out.1.row.see
  cases e'
  have hjl := refJ_len RL RR lo ro
  have hjr := refJ_row (lo := lo) (ro := ro) hRLb.out.2 hRRb.out.2
  have hmul : RL.length * RR.length ≤ 1000 * 1000 := Nat.mul_le_mul hRLb.out.1 hRRb.out.1
  have cT := hid (cTwice 5 (by omega) 32 lb (refJ RL RR lo ro) js ma mc N w8 heJoin (fun n hn => (HQ.out.2 (n - 1) (by omega)).move (KeepB.ofKp K78.out (by simp))) (fun j hj => Nat.lt_of_lt_of_le (HQ.out.1 j hj) K78.out.size) (by omega) (fun l h => by have := hjr l h; omega) hns HN.out.1.lies HN.out.2)
  clear hns hjl hjr hmul cR
  refine wpAnyH_ready (rs := [16]) (by kernel_rfl) (by simp) ?_
  refine AllReadyH.cons rfl (fun K hK => ?_) AllReadyH.nil
  go_simp
  refine cT.out.mono ?_
  rintro e w9 ⟨rfl, k9⟩
  have K9 := hid (K8.out.trans k9 (by simp))
  have K19 := hid (K18.out.trans k9 (by simp))
  have HL9 := hid (And.intro (HL8.out.1.ck (CK.ofKp k9) (by simp) (by simp)) HL8.out.2)
  have HM9 := hid (And.intro (HM8.out.1.ck (CK.ofKp k9) (by simp) (by simp)) HM8.out.2)
  clear k9 HL8 HM8
  (try go_wp2_with fail)
  refine hK.out _ _ (HB.out _ K19.out) (fun hHeld => ?_)
  clear hK K
  try simp only [Act.put, List.getElem_toArray, List.getElem_cons_zero, List.getElem_cons_succ, List.setIfInBounds_toArray, List.set_cons_zero, List.set_cons_succ]
  refine wpAnyH_take (i := 17) (v := ?_) rfl (by kernel_rfl) (by kernel_rfl) (by kernel_rfl) (fun _ _ _ h => by cases h.1) (Or.inl ⟨by rfl, ?_⟩) (by assumption) ?_
  rotate_left
  · intro w hSw; (try dsimp only at hSw); go_simp <;> with_reducible rfl
  try simp only [Act.put, List.getElem_toArray, List.getElem_cons_zero, List.getElem_cons_succ, List.setIfInBounds_toArray, List.set_cons_zero, List.set_cons_succ]
  refine wpAnyH_done (by kernel_rfl) ⟨rfl, ?_⟩ _
  have cAl := hid (cAlive15 w9)
  clear hHeld cT
  go_wp2_with fail
  refine cAl.out.mono ?_
  rintro e w10 ⟨rfl, k10⟩
  have K10 := hid (K9.out.trans k10 (by simp))
  have hl10 := HL9.out.1.ck (CK.ofKp k10) (by simp) (by simp)
  have HM10 := hid (And.intro (HM9.out.1.ck (CK.ofKp k10) (by simp) (by simp)) HM9.out.2)
  obtain ⟨a', c', e', s1, _⟩ := hl10.row.see
  cases e'
  have cS := hid (cSameAll ra a0 rc c0 L L0 w10 s1 (HS.out w10 K10.out).1 hl10.lies (HS.out w10 K10.out).2.1 (by rw [HL9.out.2, hRL.out]) hLn)
  clear cAl k10 hl10 s1
  go_wp2_with fail
  refine cS.out.mono ?_
  rintro e w11 ⟨rfl, k11⟩
  have K11 := hid (K10.out.trans k11 (by simp))
  have hm11 := HM10.out.1.ck (CK.ofKp k11) (by simp) (by simp)
  obtain ⟨a', c', e', s1, _⟩ := hm11.row.see
  cases e'
  have cS2 := hid (cSameAll rb a1 rd c1 M M0 w11 s1 (HS.out w11 K11.out).2.2.1 hm11.lies (HS.out w11 K11.out).2.2.2 (by rw [HM10.out.2, hRR.out]) hMn)
  clear cS k11 hm11 s1
  go_wp2_with fail
  refine cS2.out.mono ?_
  rintro e w12 ⟨rfl, k12⟩
  have K12' := hid (K11.out.trans k12 (by simp))
  clear cS2 k12
  go_wp2_with fail
  go_ret
  exact ⟨rfl, K12'.out.below⟩
end Go.Proofs.Ytfolkjjhlcjfgaa
end

section
namespace Go.Hay

/-- n in k bytes, the highest first. -/
def be (n : Nat) : Nat → List UInt8
  | 0 => []
  | k + 1 => UInt8.ofNat (n / 256 ^ k % 256) :: be n k
theorem be_length (n k : Nat) : (be n k).length = k := by
  induction k with
  | zero => rfl
  | succ k ih => simp [be, ih]
/-- The first byte of n's Var. -/
def leadI (n : Int) : Int := if n < 253 then n else if n < 65536 then 253 else if n < 4294967296 then 254 else 255
/-- How many bytes a Var has behind its first one. -/
def behindI (f : Int) : Int := if f = 253 then 2 else if f = 254 then 4 else if f = 255 then 8 else 0
theorem leadI_bd (n : Int) (h : 0 ≤ n) : 0 ≤ leadI n ∧ leadI n ≤ 255 := by unfold leadI; repeat (first | split | omega)
theorem behindI_bd (n : Int) : 0 ≤ behindI n ∧ behindI n ≤ 8 := by unfold behindI; repeat (first | split | omega)
/-- The number that bytes say, the highest first. -/
def num (bs : List UInt8) : Nat := bs.foldl (fun n x => n * 256 + x.toNat) 0
theorem num_snoc (bs : List UInt8) (x : UInt8) : num (bs ++ [x]) = num bs * 256 + x.toNat := by simp [num]
theorem num_lt (bs : List UInt8) : num bs < 256 ^ bs.length := by
  suffices ∀ (l : List UInt8), num l.reverse < 256 ^ l.length by simpa using this bs.reverse
  intro l
  induction l with
  | nil => simp [num]
  | cons x l ih =>
    rw [List.reverse_cons, num_snoc, List.length_cons, Nat.pow_succ]
    have := x.toNat_lt
    omega
/-- A byte, of a number. -/
def octet (n : Int) : UInt8 := UInt8.ofNat n.toNat
theorem octet_toNat (n : Int) (h0 : 0 ≤ n) (h1 : n ≤ 255) : ((octet n).toNat : Int) = n := by
  unfold octet
  rw [UInt8.toNat_ofNat']
  omega
/-- A number's Var. -/
def varB (n : Int) : List UInt8 := octet (leadI n) :: be n.toNat (behindI (leadI n)).toNat
theorem varB_length (n : Int) : (varB n).length ≤ 9 ∧ 1 ≤ (varB n).length := by
  have := behindI_bd (leadI n)
  simp only [varB, List.length_cons, be_length]
  omega
/-- What bytes begin with, read as a Var: the number, in how many bytes, what is amiss. -/
def fv (bs : List UInt8) : Int × Int × Int :=
  match bs with
  | [] => (0, 0, 10)
  | f :: r =>
    if behindI f.toNat = 0 then (f.toNat, 1, 0)
    else if (r.length : Int) < behindI f.toNat then (0, 0, 10)
    else if leadI (num (r.take (behindI f.toNat).toNat)) ≠ f.toNat then (0, 0, 11)
    else (num (r.take (behindI f.toNat).toNat), 1 + behindI f.toNat, 0)
theorem fv_bd (bs : List UInt8) : 0 ≤ (fv bs).1 ∧ (fv bs).1 < 18446744073709551616 ∧ 0 ≤ (fv bs).2.1 ∧ (fv bs).2.1 ≤ 9 ∧ (fv bs).2.1 ≤ bs.length := by
  cases bs with
  | nil => simp [fv]
  | cons f r =>
    have hf := f.toNat_lt
    have hb := behindI_bd f.toNat
    simp only [fv]
    have h64 : ∀ k : Nat, k ≤ 8 → num (r.take k) < 18446744073709551616 := fun k hk => by
      have h1 := num_lt (r.take k)
      have h2 : (r.take k).length ≤ 8 := by simp; omega
      have h3 : 256 ^ (r.take k).length ≤ 256 ^ 8 := Nat.pow_le_pow_right (by omega) h2
      omega
    have h64' := h64 (behindI f.toNat).toNat (by omega)
    generalize num (r.take (behindI f.toNat).toNat) = m at *
    simp only [List.length_cons]
    split
    · simp; omega
    · split
      · simp; omega
      · split
        · simp; omega
        · simp; omega
/-- A reader that takes n bytes: what it gives, what is left, what was amiss. -/
def takeS (n : Nat) (bs : List UInt8) (e : Int) : List UInt8 × List UInt8 × Int :=
  if e ≠ 0 then ([], bs, e) else if bs.length < n then ([], bs, 10) else (bs.take n, bs.drop n, 0)
/-- A reader that reads a Var. -/
def varS (most : Int) (bs : List UInt8) (e : Int) : Int × List UInt8 × Int :=
  if e ≠ 0 then (0, bs, e) else if (fv bs).2.2 ≠ 0 then (0, bs, (fv bs).2.2) else if most < (fv bs).1 then (0, bs, 12) else ((fv bs).1, bs.drop (fv bs).2.1.toNat, 0)
/-- .. raw bytes. -/
def rawS (n : Int) (bs : List UInt8) (e : Int) : List UInt8 × List UInt8 × Int :=
  if n < 0 then ([], bs, if e = 0 then 12 else e) else takeS n.toNat bs e
/-- .. a count. -/
def countS (most : Int) (bs : List UInt8) (e : Int) : Int × List UInt8 × Int :=
  if 0 ≤ most then varS most bs e else (0, bs, if (varS 18446744073709551615 bs e).2.2 = 0 then 12 else (varS 18446744073709551615 bs e).2.2)
/-- .. a text. -/
def textS (most : Int) (bs : List UInt8) (e : Int) : List UInt8 × List UInt8 × Int :=
  if (rawS (countS most bs e).1 (countS most bs e).2.1 (countS most bs e).2.2).2.2 ≠ 0 then ((rawS (countS most bs e).1 (countS most bs e).2.1 (countS most bs e).2.2).1, bs, (rawS (countS most bs e).1 (countS most bs e).2.1 (countS most bs e).2.2).2.2)
  else rawS (countS most bs e).1 (countS most bs e).2.1 (countS most bs e).2.2
/-- A text. -/
def textB (b : List UInt8) : List UInt8 := varB b.length ++ b
end Go.Hay
end

section
namespace Go.Hay
set_option linter.unusedVariables false

theorem be_snoc (n k : Nat) : be n (k + 1) = be (n / 256) k ++ [UInt8.ofNat (n % 256)] := by
  induction k with
  | zero => simp [be]
  | succ k ih =>
    rw [be, ih, be, List.cons_append]
    congr 2
    rw [Nat.div_div_eq_div_mul, Nat.pow_succ, Nat.mul_comm]
theorem be_num_rev (l : List UInt8) : be (num l.reverse) l.length = l.reverse := by
  induction l with
  | nil => simp [be]
  | cons x l ih =>
    have hx := x.toNat_lt
    rw [List.reverse_cons, num_snoc, List.length_cons, be_snoc, show (num l.reverse * 256 + x.toNat) / 256 = num l.reverse by omega, ih, show (num l.reverse * 256 + x.toNat) % 256 = x.toNat by omega, UInt8.ofNat_toNat]
theorem be_num (xs : List UInt8) : be (num xs) xs.length = xs := by simpa using be_num_rev xs.reverse
theorem num_be (n k : Nat) : num (be n k) = n % 256 ^ k := by
  induction k generalizing n with
  | zero => simp [be, num, Nat.mod_one]
  | succ k ih =>
    rw [be_snoc, num_snoc, ih, UInt8.toNat_ofNat', show 256 ^ (k + 1) = 256 * 256 ^ k by rw [Nat.pow_succ, Nat.mul_comm], Nat.mod_mul]
    omega
theorem octet_nat (x : UInt8) : octet x.toNat = x := by simp [octet]

/-- What is read as a number is written as the same bytes. -/
theorem fv_back (bs : List UInt8) (h : (fv bs).2.2 = 0) : varB (fv bs).1 = bs.take (fv bs).2.1.toNat ∧ 1 ≤ (fv bs).2.1 := by
  cases bs with
  | nil => simp [fv] at h
  | cons f r =>
    have hf := f.toNat_lt
    have hb := behindI_bd f.toNat
    simp only [fv] at h ⊢
    split
    · rename_i h0
      have hl : leadI f.toNat = f.toNat := by
        unfold behindI at h0
        unfold leadI
        repeat (first | split at h0 | (split <;> omega) | omega)
      simp only [varB, hl, h0, octet_nat]
      simp [be]
    · rename_i h0
      rw [if_neg h0] at h
      by_cases h1 : (r.length : Int) < behindI f.toNat
      · rw [if_pos h1] at h; simp at h
      rw [if_neg h1] at h ⊢
      by_cases h2 : leadI (num (r.take (behindI f.toNat).toNat)) ≠ f.toNat
      · rw [if_pos h2] at h; simp at h
      rw [if_neg h2]
      have h3 : leadI (num (r.take (behindI f.toNat).toNat)) = f.toNat := Decidable.not_not.1 h2
      obtain ⟨k, hk⟩ : ∃ k : Nat, behindI f.toNat = k := ⟨(behindI f.toNat).toNat, by omega⟩
      rw [hk, Int.toNat_natCast] at h3
      have hlen : (r.take k).length = k := by simp; omega
      refine ⟨?_, by show 1 ≤ 1 + behindI f.toNat; omega⟩
      show varB (num (r.take (behindI f.toNat).toNat)) = List.take (1 + behindI f.toNat).toNat (f :: r)
      rw [hk, Int.toNat_natCast]
      simp only [varB]
      rw [h3, hk, Int.toNat_natCast, Int.toNat_natCast, octet_nat]
      have e := be_num (r.take k)
      rw [hlen] at e
      rw [e, show (1 + (k : Int)).toNat = k + 1 by omega, List.take_succ_cons]

/-- Of a Var that was read: in words that the law uses. -/
theorem varS_cases (most : Int) (bs : List UInt8) {n : Int} {bs' : List UInt8} {e' : Int} (h0 : 0 ≤ most) (h : varS most bs 0 = (n, bs', e')) :
    0 ≤ n ∧ n < 18446744073709551616 ∧ bs'.length ≤ bs.length ∧ (e' ≠ 0 → n = 0 ∧ bs' = bs) ∧ (e' = 0 → n ≤ most ∧ varB n = bs.take (bs.length - bs'.length)) := by
  have hbd := fv_bd bs
  have hbk := fv_back bs
  unfold varS at h
  rw [if_neg (by simp)] at h
  split at h
  · rename_i h1
    cases h
    exact ⟨by omega, by omega, Nat.le_refl _, fun _ => ⟨rfl, rfl⟩, fun h => absurd h h1⟩
  · rename_i h1
    have h1' : (fv bs).2.2 = 0 := Decidable.not_not.1 h1
    have hbk := hbk h1'
    split at h
    · cases h
      exact ⟨by omega, by omega, Nat.le_refl _, fun _ => ⟨rfl, rfl⟩, fun h => by simp at h⟩
    · cases h
      refine ⟨by omega, by omega, by simp, fun h => absurd rfl h, fun _ => ⟨by omega, ?_⟩⟩
      rw [hbk.1]
      congr 1
      rw [List.length_drop]
      omega
end Go.Hay
end

section
namespace Go.Proofs.Ytfolkjjhlcjfgaa
open Go.ChangeShapes Go.WideShapes Go.ChangeAt Go.RowKit Go.Hay
set_option linter.unusedVariables false

theorem Try.own : ownKnob Try.prog.godebug = none := by kernel_rfl
theorem Try.laidOut : laidOutB Try.prog = true := by kernel_rfl

/-- How many values a slice's datum holds, its spare places too. -/
def capD {H : Type} : DataW H → Nat
  | .slice e sp => e.length + sp.length
  | _ => 0
theorem bulk_pos {H : Type} (d : DataW H) : 1 ≤ Rows.uptoBulk d := by
  cases d with
  | lit l => cases l <;> simp [Rows.uptoBulk]
  | _ => simp [Rows.uptoBulk]
theorem bulkAll_ge {H : Type} (l : List (DataW H)) : l.length ≤ Rows.uptoBulkAll l := by
  induction l with
  | nil => simp
  | cons d l ih => have := bulk_pos d; simp only [Rows.uptoBulkAll, List.length_cons]; omega
theorem bulk_cap {H : Type} (d : DataW H) : capD d + 1 ≤ Rows.uptoBulk d := by
  cases d with
  | slice e sp => have := bulkAll_ge e; have := bulkAll_ge sp; simp only [capD, Rows.uptoBulk]; omega
  | lit l => cases l <;> simp [capD, Rows.uptoBulk]
  | _ => simp [capD, Rows.uptoBulk]
theorem bulkAll_map {H : Type} (n : Nat) (D : Nat → DataW H) (f : Nat → Nat) (h : ∀ i, i < n → f i ≤ Rows.uptoBulk (D i)) : ((List.range n).map f).sum ≤ Rows.uptoBulkAll ((List.range n).map D) := by
  have gen : ∀ l : List Nat, (∀ i ∈ l, f i ≤ Rows.uptoBulk (D i)) → (l.map f).sum ≤ Rows.uptoBulkAll (l.map D) := by
    intro l
    induction l with
    | nil => intro _; simp
    | cons i l ih =>
      intro hl
      have h1 := hl i (by simp)
      have h2 := ih (fun j hj => hl j (by simp [hj]))
      simp only [List.map_cons, List.sum_cons, Rows.uptoBulkAll]
      omega
  exact gen _ (fun i hi => h i (List.mem_range.1 hi))
theorem mem_weightsAll {H : Type} {P : Program} {e : TypeId} {l : List (DataW H)} {d : DataW H} (hd : d ∈ l) {x : Nat} (hx : x ∈ d.weights P e) : x ∈ DataW.weightsAll P e l := by
  induction l with
  | nil => cases hd
  | cons y l ih =>
    rw [DataW.weightsAll, List.mem_append]
    rcases List.mem_cons.1 hd with rfl | h
    · exact .inl hx
    · exact .inr (ih h)
/-- Within the form's reach. -/
def Fit {H : Type} (t : TypeId) (d : DataW H) : Prop := (DataW.weights Try.prog t d).all (· ≤ reachBytes) = true

theorem openEls {α : Type} [Inhabited α] (E : El α) {t e : TypeId} (ht : Try.prog.underlying t = some (.slice e)) (hcells : Try.prog.cellsOf e = E.n) (B : Nat) (hB : Try.prog.bytesOf e = B)
    {H : Type} {enc : TypeId × Value → H} {W : World} (ok : α → Prop) (Q : α → Prop) (bk : α → Nat)
    (op : ∀ fuel cs x, DataW.trod enc Try.prog W 0 (fun _ => true) true fuel e cs = some x → cs.length = E.n → ∃ y : α, ok y ∧ cs = E.c y ∧ (Fit e x.1 → Q y) ∧ bk y ≤ Rows.uptoBulk x.1)
    {a : Option Addr} {len cap : Nat} {d : DataW H} {ps : List MemPlace} (h : DataW.Trod enc Try.prog W 0 (fun _ => true) true t (.slice a len cap) d ps) :
    ∃ l : List α, len = l.length ∧ E.See W a l ∧ (∀ y ∈ l, ok y) ∧ l.length ≤ cap ∧ cap ≤ maxLen ∧ (a = none → cap = 0) ∧ (Fit t d → cap * B ≤ 140737488351232 ∧ ∀ y ∈ l, Q y) ∧ (l.map bk).sum ≤ Rows.uptoBulk d ∧ cap + 1 ≤ Rows.uptoBulk d := by
  obtain ⟨fuel, hf⟩ := h
  rcases Go.Deep.open_slice ht hf with ⟨hcs, hx⟩ | ⟨x, len', cap', m, n, D, Pl, hcs, _, hl, hmx, hm, hx, hcell⟩
  · simp [Value.cells] at hcs
    obtain ⟨rfl, rfl, rfl⟩ := hcs
    cases hx
    exact ⟨[], rfl, .inl rfl, by simp, Nat.le_refl _, Nat.zero_le _, fun _ => rfl, fun _ => ⟨by omega, by simp⟩, by simp, by simp [Rows.uptoBulk]⟩
  · simp [Value.cells] at hcs
    obtain ⟨rfl, rfl, rfl⟩ := hcs
    cases hx
    have hm' : m = cap := by simpa using hm
    subst hm'
    rw [hcells] at hcell
    obtain ⟨Y, hY⟩ := Go.Deep.choose_lt (α := α) (n := len) (p := fun i y => ok y ∧ (∀ k u, (E.c y)[k]? = some u → W.cell? ((x.add (i * E.n)).add k) = some u) ∧ (Fit e (D i) → Q y) ∧ bk y ≤ Rows.uptoBulk (D i)) (fun i hi => by
      obtain ⟨cs', h1, h2⟩ := hcell i (by omega)
      obtain ⟨_, hlen, hc⟩ := World.cells?_some h1
      obtain ⟨y, g1, rfl, g2, g3⟩ := op _ _ _ h2 hlen
      refine ⟨y, g1, fun k u hu => ?_, g2, g3⟩
      have hk : k < E.n := by have := (List.getElem?_eq_some_iff.1 hu).1; rwa [E.len] at this
      exact (hc k hk).trans hu)
    refine ⟨(List.range len).map Y, by simp, ?_, ?_, by simpa using hl, hmx, fun h => (by cases h), fun hfit => ?_, ?_, ?_⟩
    · cases hlen : len with
      | zero => exact .inl rfl
      | succ k =>
        obtain ⟨b, off, spot⟩ := x
        have h0 : 0 < (E.c (Y 0)).length := by rw [E.len]; exact E.pos
        have hc0 := (hY 0 (by omega)).2.1 0 _ (List.getElem?_eq_getElem h0)
        have hspot : spot = none := by
          have := World.cell?_spot hc0
          simpa [Addr.add] using this
        subst hspot
        refine .inr ⟨b, off, rfl, fun j u hu => ?_⟩
        rw [← hlen] at hu
        have hj : j < ((List.range len).map Y).length * E.n := by have := (List.getElem?_eq_some_iff.1 hu).1; rwa [El.cs_length] at this
        have hpos := E.pos
        have hq : j / E.n < len := by
          rw [List.length_map, List.length_range] at hj
          exact Nat.div_lt_of_lt_mul (by rw [Nat.mul_comm]; exact hj)
        have hr : j % E.n < E.n := Nat.mod_lt _ hpos
        have hje : j = j / E.n * E.n + j % E.n := by rw [Nat.mul_comm]; exact (Nat.div_add_mod j E.n).symm
        have hget : ((List.range len).map Y)[j / E.n]? = some (Y (j / E.n)) := by rw [List.getElem?_map, List.getElem?_range hq]; rfl
        rw [hje, El.cs_get E hget hr] at hu
        have hcc := (hY _ hq).2.1 _ _ hu
        rw [Addr.add_lit, Addr.add_lit, Nat.add_assoc, ← hje] at hcc
        exact hcc
    · intro y hy
      obtain ⟨i, hi, rfl⟩ := List.mem_map.1 hy
      exact (hY i (List.mem_range.1 hi)).1
    · unfold Fit at hfit
      simp only [DataW.weights, ht] at hfit
      rw [List.all_cons, Bool.and_eq_true] at hfit
      refine ⟨?_, fun y hy => ?_⟩
      · have := of_decide_eq_true hfit.1
        simp only [List.length_map, List.length_range, hB, reachBytes] at this
        rwa [show len + (m - len) = m by omega] at this
      · obtain ⟨i, hi, rfl⟩ := List.mem_map.1 hy
        refine (hY i (List.mem_range.1 hi)).2.2.1 (List.all_eq_true.2 fun x hx => List.all_eq_true.1 hfit.2 x ?_)
        rw [List.mem_append]
        exact .inl (mem_weightsAll (List.mem_map_of_mem hi) hx)
    · have := bulkAll_map len D (fun i => bk (Y i)) (fun i hi => (hY i hi).2.2.2)
      simp only [List.map_map, Rows.uptoBulk]
      have e : (List.range len).map (bk ∘ Y) = (List.range len).map (fun i => bk (Y i)) := rfl
      rw [e]
      omega
    · have := bulk_cap (.slice ((List.range len).map D) ((List.range (m - len)).map fun j => D (len + j)) : DataW H)
      simp only [capD, List.length_map, List.length_range] at this
      omega

/-- A byte. -/
def ByteE : El UInt8 where
  n := 1
  c x := [.int .u8 x.toNat]
  len _ := rfl
  one _ u hu := by simp at hu; subst hu; rfl
  pos := by decide
theorem byteCs (l : List UInt8) : ByteE.cs l = bcells l := by
  induction l with
  | nil => rfl
  | cons x l ih => rw [El.cs_cons, ih]; rfl
theorem byteSee {w : World} {a : Option Addr} {l : List UInt8} (h : ByteE.See w a l) : Sees w a l := by
  rcases h with h | ⟨g, o, rfl, hc⟩
  · exact .inl h
  · refine .inr ⟨g, o, rfl, fun j u hu => hc j _ ?_⟩
    rw [byteCs, bcells_get, hu]
    rfl
/-- A slice of bytes, and what it sees. -/
structure Bs where
  a : Option Addr
  c : Nat
  bs : List UInt8
def Bs.v (x : Bs) : Value := .slice x.a x.bs.length x.c
structure Bs.ok (w : World) (x : Bs) : Prop where
  see : Sees w x.a x.bs
  cap : x.bs.length ≤ x.c
  nil : x.a = none → x.c = 0
theorem Bs.ok.kept {w w' : World} {x : Bs} {S : List Nat} (h : x.ok w) (hk : Kp S w w') (hn : x.bs ≠ [] → ∀ k ∈ blk x.a, k ∉ S) : x.ok w' := ⟨h.see.kept' hk hn, h.cap, h.nil⟩
theorem Bs.ok.keptNew {w w' : World} {x : Bs} (h : x.ok w) (hk : Kp [] w w') : x.ok w' := h.kept hk (by simp)
instance : Inhabited Bs := ⟨⟨none, 0, []⟩⟩
theorem cellsB : Try.prog.cellsOf 5 = 1 := by kernel_rfl
theorem bytesB : Try.prog.bytesOf 5 = 1 := by kernel_rfl
theorem cellsI : Try.prog.cellsOf 3 = 1 := by kernel_rfl
def Few (x : Bs) : Prop := x.bs.length ≤ 140737488351232
section
variable {H : Type} {enc : TypeId × Value → H} {W : World}
/-- A number among the arguments' cells. -/
theorem openI {fuel : Nat} {v : Value} {x : DataW H × List MemPlace} (h : DataW.trod enc Try.prog W 0 (fun _ => true) true fuel 3 [v] = some x) : ∃ n : Int, v = .int .i64 n ∧ -9223372036854775808 ≤ n ∧ n ≤ 9223372036854775807 := by
  obtain ⟨n, e, _, hw⟩ := DataW.trod_int Try.underlying3 h
  have hb := bounds_i64 hw
  exact ⟨n, by simpa using e, hb.1, hb.2⟩
end
end Go.Proofs.Ytfolkjjhlcjfgaa
end

section
namespace Go.Proofs.Ytfolkjjhlcjfgaa
open Go.ChangeShapes Go.WideShapes Go.ChangeAt Go.RowKit Go.Hay
set_option linter.unusedVariables false
set_option linter.unusedSimpArgs false

theorem cellsX1 : Try.prog.cellsOf 3 = 1 := by kernel_rfl
theorem cellsX2 : Try.prog.cellsOf 4 = 1 := by kernel_rfl
theorem cellsX3 : Try.prog.cellsOf 2 = 1 := by kernel_rfl
theorem cellsX4 : Try.prog.cellsOf 9 = 1 := by kernel_rfl
theorem cellsX5 : Try.prog.cellsOf 51 = 4 := by kernel_rfl
theorem bytesX5 : Try.prog.bytesOf 51 = 40 := by kernel_rfl
instance : Inhabited Val := ⟨⟨0, false, 0, ⟨#[]⟩⟩⟩
section
variable {H : Type} {enc : TypeId × Value → H} {W : World} {a : Option Addr} {len cap : Nat} {d : DataW H} {ps : List MemPlace}
theorem openV4 {fuel : Nat} {c0 c1 c2 c3 : Value} {x : DataW H × List MemPlace} (h : DataW.trod enc Try.prog W 0 (fun _ => true) true fuel 51 [c0, c1, c2, c3] = some x) :
    ∃ t : Val, c0 = .int .i64 t.k ∧ c1 = .bool t.b ∧ c2 = .int .i64 t.n ∧ c3 = .string t.t := by
  obtain ⟨xs, n, _, rfl, _, hlen, hf⟩ := DataW.trod_struct Try.underlying51 h
  match xs, hlen with
  | [y0, y1, y2, y3], _ =>
    have h0 := hf 0 _ rfl
    have h1 := hf 1 _ rfl
    have h2 := hf 2 _ rfl
    have h3 := hf 3 _ rfl
    simp [cellsX1, cellsX2, cellsX3, cellsX4] at h0 h1 h2 h3
    obtain ⟨k, e0, _, w0⟩ := DataW.trod_int Try.underlying3 h0
    obtain ⟨b, e1, _⟩ := DataW.trod_bool Try.underlying4 h1
    obtain ⟨n2, e2, _, w2⟩ := DataW.trod_int Try.underlying2 h2
    obtain ⟨s, e3, _, w3⟩ := DataW.trod_string Try.underlying9 h3
    simp at e0 e1 e2 e3
    exact ⟨⟨k, b, n2, s⟩, e0, e1, e2, e3⟩
theorem openXv (h : DataW.Trod enc Try.prog W 0 (fun _ => true) true 24 (.slice a len cap) d ps) :
    ∃ l : List Val, len = l.length ∧ VE.See W a l ∧ (∀ y ∈ l, True) ∧ l.length ≤ cap ∧ cap ≤ maxLen ∧ (a = none → cap = 0) ∧ (Fit 24 d → cap * 40 ≤ 140737488351232 ∧ ∀ y ∈ l, True) ∧ (l.map fun _ => 0).sum ≤ Rows.uptoBulk d ∧ cap + 1 ≤ Rows.uptoBulk d :=
  openEls VE Try.underlying24 cellsX5 40 bytesX5 (fun _ => True) (fun _ => True) (fun _ => 0) (fun fuel cs x hx hcs => by
    match cs, hcs with
    | [c0, c1, c2, c3], _ =>
      obtain ⟨t, e0, e1, e2, e3⟩ := openV4 hx
      subst e0 e1 e2 e3
      exact ⟨t, trivial, rfl, fun _ => trivial, Nat.zero_le _⟩) h
end
end Go.Proofs.Ytfolkjjhlcjfgaa
end

section
namespace Go.Proofs.Ytfolkjjhlcjfgaa
open Go.ChangeShapes Go.WideShapes Go.ChangeAt Go.RowKit Go.Hay
set_option linter.unusedVariables false
set_option linter.unusedSimpArgs false

theorem cellsYI : Try.prog.cellsOf 3 = 1 := by kernel_rfl
theorem bytesYI : Try.prog.bytesOf 3 = 8 := by kernel_rfl
section
variable {H : Type} {enc : TypeId × Value → H} {W : World} {a : Option Addr} {len cap : Nat} {d : DataW H} {ps : List MemPlace}
theorem openVlists (h : DataW.Trod enc Try.prog W 0 (fun _ => true) true 22 (.slice a len cap) d ps) :
    ∃ l : List Vs, len = l.length ∧ VsE.See W a l ∧ (∀ y ∈ l, y.lies W) ∧ l.length ≤ cap ∧ cap ≤ maxLen ∧ (a = none → cap = 0) ∧ (Fit 22 d → cap * 24 ≤ 140737488351232 ∧ ∀ y ∈ l, y.c * 40 ≤ 140737488351232) ∧ (l.map fun y => y.l.length).sum ≤ Rows.uptoBulk d ∧ cap + 1 ≤ Rows.uptoBulk d :=
  openEls VsE Try.underlying22 cellsVs 24 bytesVs (fun y => y.lies W) (fun y => y.c * 40 ≤ 140737488351232) (fun y => y.l.length) (fun fuel cs x hx hcs => by
    obtain ⟨v, rfl⟩ : ∃ v, cs = [v] := by
      match cs, hcs with
      | [v], _ => exact ⟨v, rfl⟩
    have hv : ∃ a len cap, v = .slice a len cap := by
      rcases Go.Deep.open_slice Try.underlying24 hx with ⟨hcs, _⟩ | ⟨a, len, cap, _, _, _, _, hcs, _⟩
      · exact ⟨none, 0, 0, by simpa using hcs⟩
      · exact ⟨_, _, _, by simpa using hcs⟩
    obtain ⟨a, len, cap, rfl⟩ := hv
    have ht : DataW.Trod enc Try.prog W 0 (fun _ => true) true 24 (.slice a len cap) x.1 x.2 := ⟨fuel, hx⟩
    obtain ⟨l, rfl, hs, _, hl, hm, hn, hf, _, hb⟩ := openXv ht
    exact ⟨⟨a, cap, l⟩, ⟨seeV.1 hs, hl, hm, hn⟩, rfl, fun h => (hf h).1, by simp only; omega⟩) h
theorem openInts (h : DataW.Trod enc Try.prog W 0 (fun _ => true) true 43 (.slice a len cap) d ps) :
    ∃ l : List Int, len = l.length ∧ IntE.See W a l ∧ (∀ y ∈ l, True) ∧ l.length ≤ cap ∧ cap ≤ maxLen ∧ (a = none → cap = 0) ∧ (Fit 43 d → cap * 8 ≤ 140737488351232 ∧ ∀ y ∈ l, True) ∧ (l.map fun _ => 0).sum ≤ Rows.uptoBulk d ∧ cap + 1 ≤ Rows.uptoBulk d :=
  openEls IntE Try.underlying43 cellsYI 8 bytesYI (fun _ => True) (fun _ => True) (fun _ => 0) (fun fuel cs x hx hcs => by
    obtain ⟨v, rfl⟩ : ∃ v, cs = [v] := by
      match cs, hcs with
      | [v], _ => exact ⟨v, rfl⟩
    obtain ⟨n, e, _, _⟩ := DataW.trod_int Try.underlying3 hx
    simp at e
    subst e
    exact ⟨n, trivial, rfl, fun _ => trivial, Nat.zero_le _⟩) h
theorem lenOfSum {L : List Vs} {n : Nat} (h : (L.map fun y => y.l.length).sum ≤ n) : ∀ x ∈ L, x.l.length ≤ n := by
  induction L with
  | nil => simp
  | cons y L ih =>
    simp at h
    intro x hx
    rcases List.mem_cons.1 hx with rfl | hx
    · omega
    · exact ih (by omega) x hx
end
end Go.Proofs.Ytfolkjjhlcjfgaa
end

section
namespace Go.Proofs.Ytfolkjjhlcjfgaa
open Go.ChangeShapes Go.WideShapes Go.ChangeAt Go.RowKit Go.Hay
set_option linter.unusedVariables false
set_option linter.unusedSimpArgs false

theorem cellsYO2 : Try.prog.cellsOf 38 = 2 := by kernel_rfl
theorem okWide_arrY {P : Program} {w : World} {r : Reach} {base : Nat} {t : TypeId} {v : Value} {n : Nat} {e : TypeId} (ht : P.underlying t = some (.array n e)) (h : Value.okWide P w r base t v) : ∃ cs, v = .agg cs ∧ cs.size = P.cellsOf t := by
  simp only [Value.okWide, ht] at h
  obtain ⟨cs, h1, h2, _⟩ := h
  exact ⟨cs, h1, h2⟩
set_option maxRecDepth 100000 in
theorem openOn2 {H : Type} {enc : TypeId × Value → H} {W : World} {d : DataW H} {ps : List MemPlace} {base : Nat} {v : Value} (hv : Value.okWide Try.prog W .any base 38 v) (h : DataW.Trod enc Try.prog W 0 (fun _ => true) true 38 v d ps) : ∃ x y : Int, v = .agg #[.int .i64 x, .int .i64 y] := by
  obtain ⟨cs, rfl, hsz⟩ := okWide_arrY Try.underlying38 hv
  rw [cellsYO2] at hsz
  obtain ⟨fuel, hf⟩ := h
  obtain ⟨l⟩ := cs
  match l, hsz, hf with
  | [c0, c1], _, hf =>
    have hf' : DataW.trod enc Try.prog W 0 (fun _ => true) true fuel 38 [c0, c1] = some (d, ps) := hf
    obtain ⟨xs, n, _, he, _, hlen, hff⟩ := DataW.trod_array Try.underlying38 hf'
    match xs, hlen with
    | [y0, y1], _ =>
      have h0 := hff 0 (by omega)
      have h1 := hff 1 (by omega)
      simp [cellsYI] at h0 h1
      obtain ⟨x, e0, _, _⟩ := DataW.trod_int Try.underlying3 h0
      obtain ⟨y, e1, _, _⟩ := DataW.trod_int Try.underlying3 h1
      simp at e0 e1
      subst e0 e1
      exact ⟨x, y, rfl⟩
end Go.Proofs.Ytfolkjjhlcjfgaa
end

section
namespace Go.Proofs.Ytfolkjjhlcjfgaa
open Go.ChangeShapes Go.WideShapes Go.ChangeAt Go.RowKit Go.Hay
set_option linter.unusedVariables false

set_option maxRecDepth 100000 in
theorem execJoinsContract (H : Type) (enc : TypeId × Value → H) (W : World) (base : Nat) (args : Array Value) (ds gs : List (DataW H)) (before : List MemPlace)
    (hval : ∀ (j : Nat) t v, Try.f4.params[j]? = some t → args[j]? = some v → Value.okWide Try.prog W .any base t v)
    (hW : DataW.Whole enc Try.prog Try.f4.params.toList Rows.execJoinsSpec.vars false W args.toList ds gs before)
    (hsz : (DataW.weightsEach Try.prog (Try.f4.params.toList ++ (Rows.OpenSpec.upto Rows.execJoinsSpec).bare.plain.varTypes Try.prog) (ds ++ gs)).all (· ≤ reachBytes) = true)
    (hk : Rows.uptoSmall H (ds ++ gs) = true) :
    Calls Try.prog 4 args W fun e W' => ∃ v, e = .returned v ∧ Rows.execJoinsSpec.post enc Try.prog Try.f4 false true false false W args v W' := by
  have hW' := hW
  obtain ⟨p, q, hA0, hV, rfl, hfz, hnd⟩ := hW
  have hA : DataW.TrodAll enc Try.prog W 0 (fun _ => true) true Try.f4.params.toList args.toList ds p := hA0
  rw [Try.params4] at hA hval hsz
  obtain ⟨v0, vs0, d0, ds0, p0, q0, hargs, rfl, rfl, h0, r0⟩ := trodAll_cons hA
  obtain ⟨v1, vs1, d1, ds1, p1, q1, rfl, rfl, rfl, h1, r1⟩ := trodAll_cons r0
  obtain ⟨v2, vs2, d2, ds2, p2, q2, rfl, rfl, rfl, h2, r2⟩ := trodAll_cons r1
  obtain ⟨rfl, rfl, rfl⟩ := trodAll_nil r2
  obtain rfl : args = #[v0, v1, v2] := by cases args; simp_all
  obtain ⟨rfl, rfl⟩ := trodVars_none hV
  obtain ⟨a0, len0, cap0, rfl⟩ := okWide_slice Try.underlying22 (hval 0 22 v0 rfl rfl)
  have k0 := h0
  have lt0 : ∀ x ∈ p0, x.block < W.heap.size := by obtain ⟨m, hm⟩ := k0; exact DataW.trod_lt m _ _ _ hm
  obtain ⟨l0, rfl, hs0, hok0, hl0, hm0, hn0, hfit0, hbk0, hcp0⟩ := openVlists h0
  obtain ⟨hc0, hq0⟩ := hfit0 (List.all_eq_true.2 fun x hx => List.all_eq_true.1 hsz x (by simp [DataW.weightsEach]; first | exact .inl hx | exact .inr hx | exact .inr (.inl hx) | exact .inr (.inr hx) | exact hx))
  obtain ⟨a1, len1, cap1, rfl⟩ := okWide_slice Try.underlying22 (hval 1 22 v1 rfl rfl)
  have k1 := h1
  have lt1 : ∀ x ∈ p1, x.block < W.heap.size := by obtain ⟨m, hm⟩ := k1; exact DataW.trod_lt m _ _ _ hm
  obtain ⟨l1, rfl, hs1, hok1, hl1, hm1, hn1, hfit1, hbk1, hcp1⟩ := openVlists h1
  obtain ⟨hc1, hq1⟩ := hfit1 (List.all_eq_true.2 fun x hx => List.all_eq_true.1 hsz x (by simp [DataW.weightsEach]; first | exact .inl hx | exact .inr hx | exact .inr (.inl hx) | exact .inr (.inr hx) | exact hx))
  have k2 := h2
  have lt2 : ∀ x ∈ p2, x.block < W.heap.size := by obtain ⟨m, hm⟩ := k2; exact DataW.trod_lt m _ _ _ hm
  obtain ⟨x2, y2, rfl⟩ := openOn2 (hval 2 38 v2 rfl rfl) h2
  have hbk := of_decide_eq_true hk
  simp only [List.append_nil, Rows.uptoBulkAll] at hbk
  clear hA0
  refine (joinsWalk a0 cap0 l0 a1 cap1 l1 x2 y2 W hs0 hok0 (by omega) (fun x h => by have := lenOfSum hbk0 x h; omega) hs1 hok1 (by omega) (fun x h => by have := lenOfSum hbk1 x h; omega)).mono fun e W' ⟨he, bel⟩ => ?_
  subst he
  exact ⟨_, rfl, _, _, _, [], _, [], hW', trodAll_mk1 (shut_bool Try.underlying4 _), (trodAll_cons_mk (Below.trod Try.laidOut (by kernel_rfl) (of_decide_eq_true (by kernel_rfl)) k0 bel lt0) (trodAll_cons_mk (Below.trod Try.laidOut (by kernel_rfl) (of_decide_eq_true (by kernel_rfl)) k1 bel lt1) (trodAll_cons_mk (Below.trod Try.laidOut (by kernel_rfl) (of_decide_eq_true (by kernel_rfl)) k2 bel lt2) trodAll_mk0))), rfl, bel.frame _, fun h => by cases h⟩

set_option maxRecDepth 100000 in
theorem execJoinsLifted (os : Os) (started : os.Started) (H : Type) (enc : TypeId × Value → H) (F : Stop.Interp) :
    ReturnsInHanded {} Try.checked os 4 .any ((Rows.OpenSpec.upto Rows.execJoinsSpec).pre6 enc Try.prog Try.f4 Rows.execJoinsUptoRow.domain false) (((Rows.OpenSpec.upto Rows.execJoinsSpec).at F).post enc Try.prog Try.f4 false true false false) := by
  refine returnsInHanded_of_cond_sized (C := Try.checked) (s := Rows.OpenSpec.upto Rows.execJoinsSpec) (k := Rows.uptoSmall) rfl Try.own started (by kernel_rfl) Try.func4
    (OpenSpec.witness (enc := enc) (C := Try.checked) (s := Rows.OpenSpec.upto Rows.execJoinsSpec) (k := Rows.uptoSmall) rfl false ⟨#[], #[.slice none 0 0, .slice none 0 0, .agg #[.int .i64 0, .int .i64 0]], []⟩ 8 (by kernel_rfl) (by kernel_rfl) (by kernel_rfl)
      (x := ([.nil, .nil, .agg [.lit (.int .i64 0), .lit (.int .i64 0)]], [], [])) (by kernel_rfl) rfl (by kernel_rfl)) ?_
  intro W base args ds gs before hval hW _ hk hsz _
  exact execJoinsContract H enc W base args ds gs before hval hW hsz hk

theorem ExecJoins_holds : Rows.ExecJoinsUptoSaid :=
  OpenClaim.holds_of_cond 4 Try.f4 rfl rfl rfl rfl rfl rfl rfl ⟨rfl, rfl, rfl, rfl, rfl⟩ rfl rfl rfl rfl rfl (by kernel_rfl) Try.func4 (by kernel_rfl)
    (of_decide_eq_true (by kernel_rfl)) (by unfold Func.isWrapper; first | (rw [if_pos (by decide +kernel)]; kernel_rfl) | (rw [if_neg (by decide +kernel)]; exact ⟨rfl, rfl⟩))
    (fun os started H enc _ F => execJoinsLifted os started H enc F)

#print axioms ExecJoins_holds
end Go.Proofs.Ytfolkjjhlcjfgaa
end

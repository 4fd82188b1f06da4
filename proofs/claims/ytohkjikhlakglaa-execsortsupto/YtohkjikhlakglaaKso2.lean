/- ExecSorts (second form): rows are sorted as the document says, and of right values it is not seen in which order they came, where what is given is of bulk at most 1048576. -/
import Derived.Test.YtohkjikhlakglaaKso1
import Derived.Test.YtohkjikhlakglaaB9
import Derived.Deep.CutBlock
import Derived.Test.YtohkjikhlakglaaB4
import Derived.Lib.Strings
import Derived.Test.YtohkjikhlakglaaB10
import Derived.SizedLaws
import Derived.JoinedCond
import Derived.Deep.CondSized
section
namespace Go.Proofs.Ytohkjikhlakglaa
open Go.RowKit Go.Hay
set_option linter.unusedVariables false
set_option linter.unusedSimpArgs false

set_option maxHeartbeats 64000000 in
set_option maxRecDepth 100000 in
theorem cSymC1 (g o n cap : Nat) (A : Nat → Vs) (cv : Value) (cf : Nat → Nat → Int) (Inv : World → Prop) (hC : CmpOk g n A cv cf Inv) (p : Nat → Nat) (a m b : Nat) (w : World) (h : Hd w g o n cap A p) (hI : Inv w) (hpn : ∀ k, k < n → p k < n) (h1 : a < m) (h2 : m < b) (h3 : b ≤ n) (hA : Srt (fun x y => cf x y < 0) p a m) (hB : Srt (fun x y => cf x y < 0) p m b) (hLo : Low p a m b) (hn : n ≤ 4000000000000) (hcap : n ≤ cap) (hma : a + 1 < m) (hmb : m + 1 < b) (hk : a + b < 2 * m) (IH : ∀ (p' : Nat → Nat) (a' m' b' : Nat) (w' : World), b' - a' < b - a → Hd w' g o n cap A p' → Inv w' → (∀ k, k < n → p' k < n) → a' < m' → m' < b' → b' ≤ n → Srt (fun x y => cf x y < 0) p' a' m' → Srt (fun x y => cf x y < 0) p' m' b' → Low p' a' m' b' → Calls Try.prog 67 #[.slice (some ⟨g, o, none⟩) n cap, .int .i64 (a' : Int), .int .i64 (m' : Int), .int .i64 (b' : Int), .func (.func 38) #[] #[cv]] w' fun e u => (∃ v, e = .returned v) ∧ ∃ s, PermIn a' b' s ∧ Srt (fun x y => cf x y < 0) (fun k => p' (s k)) a' b' ∧ Hd u g o n cap A (fun k => p' (s k)) ∧ Kp [g] w' u) : Calls Try.prog 67 #[.slice (some ⟨g, o, none⟩) n cap, .int .i64 (a : Int), .int .i64 (m : Int), .int .i64 (b : Int), .func (.func 38) #[] #[cv]] w fun e w' => (∃ v, e = .returned v) ∧ ∃ s, PermIn a b s ∧ Srt (fun x y => cf x y < 0) (fun k => p (s k)) a b ∧ Hd w' g o n cap A (fun k => p (s k)) ∧ Kp [g] w w' := by
  have HC := hid hC
  have HI := hid hI
  have HH := hid h
  have HPN := hid hpn
  have HSR := hid (And.intro hA (And.intro hB hLo))
  have q1 : (-9223372036854775808 : Int) ≤ (m : Int) - (a : Int) := by omega
  have q2 : (m : Int) - (a : Int) ≤ 9223372036854775807 := by omega
  clear hC hI h hpn hA hB hLo
  have HIH := hid IH
  clear IH
  have hm1 : ((m : Int) - (a : Int) == 1) = false := by simp; omega
  have hm2 : ¬ ((m : Int) - (a : Int) = 1) := by omega
  have hb1 : ((b : Int) - (m : Int) == 1) = false := by simp; omega
  have hb2 : ¬ ((b : Int) - (m : Int) = 1) := by omega
  have q3 : (-9223372036854775808 : Int) ≤ (b : Int) - (m : Int) := by omega
  have q4 : (b : Int) - (m : Int) ≤ 9223372036854775807 := by omega
  obtain ⟨t, ht⟩ : ∃ t : Nat, t = a + b := ⟨_, rfl⟩
  obtain ⟨mid, hmid⟩ : ∃ h : Nat, h = t / 2 := ⟨_, rfl⟩
  have et : (a : Int) + (b : Int) = (t : Int) := by omega
  have et1 : (-9223372036854775808 : Int) ≤ (a : Int) + (b : Int) := by omega
  have et2 : (a : Int) + (b : Int) ≤ 9223372036854775807 := by omega
  have et3 : (0 : Int) ≤ (t : Int) := by omega
  have et4 : (t : Int) ≤ 9223372036854775807 := by omega
  have et5 : (t : Int) < 18446744073709551616 := by omega
  have eh : (t : Int) / 2 = (mid : Int) := by omega
  have eh2 : (mid : Int) ≤ 9223372036854775807 := by omega
  have eu : IntKind.u64.wrap (t : Int) = (t : Int) := by rw [IntKind.wrap_u64]; omega
  have ew : IntKind.i64.wrap (mid : Int) = (mid : Int) := by rw [IntKind.wrap_i64]; omega
  have ewt : IntKind.i64.wrap (t : Int) = (t : Int) := by rw [IntKind.wrap_i64]; omega
  have hmid1 : 2 * mid ≤ a + b := by omega
  have hmid2 : a + b ≤ 2 * mid + 1 := by omega
  obtain ⟨N, hN⟩ : ∃ N : Nat, N = mid + m := ⟨_, rfl⟩
  obtain ⟨PP, hPP⟩ : ∃ P : Nat, P = N - 1 := ⟨_, rfl⟩
  have eN : (mid : Int) + (m : Int) = (N : Int) := by omega
  have eN1 : (-9223372036854775808 : Int) ≤ (mid : Int) + (m : Int) := by omega
  have eN2 : (mid : Int) + (m : Int) ≤ 9223372036854775807 := by omega
  have eP : (N : Int) - 1 = (PP : Int) := by omega
  have eP1 : (-9223372036854775808 : Int) ≤ (N : Int) - 1 := by omega
  have eP2 : (N : Int) - 1 ≤ 9223372036854775807 := by omega
  have hN1 : N ≤ mid + m := by omega
  have hN2 : mid + m ≤ N := by omega
  have hPP1 : PP + 1 ≤ N := by omega
  have hPP2 : N ≤ PP + 1 := by omega
  obtain ⟨lo, hlo⟩ : ∃ l : Nat, l = N - b := ⟨_, rfl⟩
  have eL : (N : Int) - (b : Int) = (lo : Int) := by omega
  have eL1 : (-9223372036854775808 : Int) ≤ (N : Int) - (b : Int) := by omega
  have eL2 : (N : Int) - (b : Int) ≤ 9223372036854775807 := by omega
  have hlo1 : lo + b ≤ N := by omega
  have hlo2 : N ≤ lo + b := by omega
  have dg : decide ((mid : Int) < (m : Int)) = true := by simp; omega
  have dg2 : (mid : Int) < (m : Int) := by omega
  clear hlo
  have HT := hid (And.intro ht hmid)
  clear ht hmid hN hPP
  go_enter Try.func67, Try.ntmps67
  go_wp2_with fail
  clear q1 q2 q3 q4 hm1 hm2 hb1 hb2 et et1 et2 et3 et4 et5 eh eh2 eu ew ewt eN eN1 eN2 eP eP1 eP2 dg dg2 eL eL1 eL2 HT
  go_loopw [20, 21, 23] (fun sv rv _ wr => ∃ s r : Nat, (lo ≤ s ∧ s ≤ r ∧ r ≤ mid) ∧ sv = .int .i64 (s : Int) ∧ rv = .int .i64 (r : Int) ∧ Hid ((s = lo ∨ 0 ≤ cf (p (N - s)) (p (s - 1))) ∧ (r = mid ∨ cf (p (N - 1 - r)) (p r) < 0)) ∧ Hid (Hd wr g o n cap A p ∧ Kp [g] w wr)) (fun sv rv _ _ => (intOf rv).toNat - (intOf sv).toNat)
  case atStart => exact ⟨lo, mid, by omega, rfl, rfl, hid ⟨.inl rfl, .inl rfl⟩, hid ⟨HH.out, Kp.refl _ _⟩⟩
  case round =>
    obtain ⟨s, r, ⟨bs, bsr, br⟩, rfl, rfl, hs, hw⟩ := hrel
    by_cases hsr : s < r
    · have i0 : (s : Int) < (r : Int) := by omega
      obtain ⟨t, ht⟩ : ∃ t : Nat, t = s + r := ⟨_, rfl⟩
      obtain ⟨c, hc⟩ : ∃ h : Nat, h = t / 2 := ⟨_, rfl⟩
      have et : (s : Int) + (r : Int) = (t : Int) := by omega
      have et1 : (-9223372036854775808 : Int) ≤ (s : Int) + (r : Int) := by omega
      have et2 : (s : Int) + (r : Int) ≤ 9223372036854775807 := by omega
      have et3 : (0 : Int) ≤ (t : Int) := by omega
      have et4 : (t : Int) ≤ 9223372036854775807 := by omega
      have et5 : (t : Int) < 18446744073709551616 := by omega
      have eh : (t : Int) / 2 = (c : Int) := by omega
      have eh2 : (c : Int) ≤ 9223372036854775807 := by omega
      have eu : IntKind.u64.wrap (t : Int) = (t : Int) := by rw [IntKind.wrap_u64]; omega
      have ew : IntKind.i64.wrap (c : Int) = (c : Int) := by rw [IntKind.wrap_i64]; omega
      have ewt : IntKind.i64.wrap (t : Int) = (t : Int) := by rw [IntKind.wrap_i64]; omega
      have hcb : s ≤ c ∧ c < r := by omega
      have HT := hid (And.intro ht hc)
      clear ht hc
      obtain ⟨x, hx⟩ : ∃ x : Nat, x = PP - c := ⟨_, rfl⟩
      have ex : (PP : Int) - (c : Int) = (x : Int) := by omega
      have wx : IntKind.i64.wrap ((PP : Int) - (c : Int)) = (x : Int) := by rw [ex, IntKind.wrap_i64]; omega
      have wx2 : IntKind.i64.wrap (x : Int) = (x : Int) := by rw [IntKind.wrap_i64]; omega
      have hxn : x < n := by omega
      have i1 : (0 : Int) ≤ (c : Int) := by omega
      have i2 : (c : Int) < (n : Int) := by omega
      have i3 : (0 : Int) ≤ (x : Int) := by omega
      have i4 : (x : Int) < (n : Int) := by omega
      have i5 : (c : Int) + 1 ≤ 9223372036854775807 := by omega
      have HX : Hid (x = N - 1 - c ∧ x = N - (c + 1)) := hid (by omega)
      clear hx
      have cC := hid (fun W' (k : Kp [] wr W') => HC.out.calls W' (p x) (p c) (HC.out.keep _ _ HI.out (hw.out.2.trans k (by simp))) (HPN.out _ (by omega)) (HPN.out _ (by omega)))
      obtain ⟨x0, _⟩ := hw.out.1.cells x (by omega)
      obtain ⟨y0, _⟩ := hw.out.1.cells c (by omega)
      obtain ⟨V1, hV1⟩ : ∃ V, Hid (V = A (p x)) := ⟨_, hid rfl⟩
      obtain ⟨V2, hV2⟩ : ∃ V, Hid (V = A (p c)) := ⟨_, hid rfl⟩
      rw [← hV1.out] at x0 cC
      rw [← hV2.out] at y0 cC
      obtain ⟨C, hCf⟩ : ∃ C, Hid (cf (p x) (p c) = C) := ⟨_, hid rfl⟩
      rw [hCf.out] at cC
      obtain ⟨a1, c1, l1⟩ := V1
      obtain ⟨a2, c2, l2⟩ := V2
      simp only [Vs.v] at cC
      dsimp only at *
      have hF : Hid (∀ W', Kp [] wr W' → (W'.cell? ⟨g, o + x, none⟩ = some (.slice a1 l1.length c1) ∧ W'.cell? ⟨g, o + c, none⟩ = some (.slice a2 l2.length c2))) := fun W' k => ⟨kpAt k x0, kpAt k y0⟩
      clear x0 y0 hV1 hV2
      go_wp2_with fail
      refine wp_region_held_drew (S := fun W' => W'.cell? ⟨g, o + x, none⟩ = some (.slice a1 l1.length c1) ∧ W'.cell? ⟨g, o + c, none⟩ = some (.slice a2 l2.length c2)) (by kernel_rfl) ?_ (fun hHeld => ?_)
      · exact hF.out _ (Kp.refl [] wr).drew
      have KD : Hid (Kp [] wr wr.drew) := hid (Kp.refl [] wr).drew
      generalize wr.drew = Wd at *
      refine wpAnyH_take (i := 0) (v := ?_) rfl (by kernel_rfl) (by kernel_rfl) (by kernel_rfl) (fun _ _ _ h => h) (Or.inl ⟨by rfl, ?_⟩) (by assumption) ?_
      rotate_left
      · intro w hSw; (try dsimp only at hSw); go_simp <;> with_reducible rfl
      try simp only [Act.put, List.getElem_toArray, List.getElem_cons_zero, List.getElem_cons_succ, List.setIfInBounds_toArray, List.set_cons_zero, List.set_cons_succ]
      refine wpAnyH_take (i := 1) (v := ?_) rfl (by kernel_rfl) (by kernel_rfl) (by kernel_rfl) (fun _ _ _ h => h) (Or.inl ⟨by rfl, ?_⟩) (by assumption) ?_
      rotate_left
      · intro w hSw; (try dsimp only at hSw); go_simp <;> with_reducible rfl
      try simp only [Act.put, List.getElem_toArray, List.getElem_cons_zero, List.getElem_cons_succ, List.setIfInBounds_toArray, List.set_cons_zero, List.set_cons_succ]
      refine wpAnyH_take (i := 2) (v := ?_) rfl (by kernel_rfl) (by kernel_rfl) (by kernel_rfl) (fun _ _ _ h => h) (Or.inl ⟨by rfl, ?_⟩) (by assumption) ?_
      rotate_left
      · intro w hSw; (try dsimp only at hSw); go_simp <;> with_reducible rfl
      try simp only [Act.put, List.getElem_toArray, List.getElem_cons_zero, List.getElem_cons_succ, List.setIfInBounds_toArray, List.set_cons_zero, List.set_cons_succ]
      refine wpAnyH_take (i := 3) (v := ?_) rfl (by kernel_rfl) (by kernel_rfl) (by kernel_rfl) (fun _ _ _ h => h) (Or.inl ⟨by rfl, ?_⟩) (by assumption) ?_
      rotate_left
      · intro w hSw; (try dsimp only at hSw); go_simp <;> with_reducible rfl
      try simp only [Act.put, List.getElem_toArray, List.getElem_cons_zero, List.getElem_cons_succ, List.setIfInBounds_toArray, List.set_cons_zero, List.set_cons_succ]
      refine wpAnyH_take (i := 4) (v := ?_) rfl (by kernel_rfl) (by kernel_rfl) (by kernel_rfl) (fun _ _ _ h => h) (Or.inl ⟨by rfl, ?_⟩) (by assumption) ?_
      rotate_left
      · intro w hSw; (try dsimp only at hSw); go_simp <;> (try simp only [wx, wx2]) <;> with_reducible rfl
      try simp only [Act.put, List.getElem_toArray, List.getElem_cons_zero, List.getElem_cons_succ, List.setIfInBounds_toArray, List.set_cons_zero, List.set_cons_succ]
      try simp only [wx, wx2]
      refine wpAnyH_take (i := 5) (v := ?_) rfl (by kernel_rfl) (by kernel_rfl) (by kernel_rfl) (fun _ _ _ h => h) (Or.inl ⟨by rfl, ?_⟩) (by assumption) ?_
      rotate_left
      · intro w hSw; (try dsimp only at hSw); go_simp <;> with_reducible rfl
      try simp only [Act.put, List.getElem_toArray, List.getElem_cons_zero, List.getElem_cons_succ, List.setIfInBounds_toArray, List.set_cons_zero, List.set_cons_succ]
      refine wpAnyH_take (i := 6) (v := ?_) rfl (by kernel_rfl) (by kernel_rfl) (by kernel_rfl) (fun _ _ _ h => h) (Or.inl ⟨by rfl, ?_⟩) (by assumption) ?_
      rotate_left
      · intro w hSw; (try dsimp only at hSw); go_simp <;> with_reducible rfl
      try simp only [Act.put, List.getElem_toArray, List.getElem_cons_zero, List.getElem_cons_succ, List.setIfInBounds_toArray, List.set_cons_zero, List.set_cons_succ]
      refine wpAnyH_take (i := 7) (v := ?_) rfl (by kernel_rfl) (by kernel_rfl) (by kernel_rfl) (fun _ _ _ h => h) (Or.inl ⟨by rfl, ?_⟩) (by assumption) ?_
      rotate_left
      · intro w hSw; (try dsimp only at hSw); go_simp <;> with_reducible rfl
      try simp only [Act.put, List.getElem_toArray, List.getElem_cons_zero, List.getElem_cons_succ, List.setIfInBounds_toArray, List.set_cons_zero, List.set_cons_succ]
      refine wpAnyH_take (i := 8) (v := ?_) rfl (by kernel_rfl) (by kernel_rfl) (by kernel_rfl) (fun _ _ _ h => h) (Or.inl ⟨by rfl, ?_⟩) (by assumption) ?_
      rotate_left
      · intro w hSw; (try dsimp only at hSw); go_simp <;> with_reducible rfl
      try simp only [Act.put, List.getElem_toArray, List.getElem_cons_zero, List.getElem_cons_succ, List.setIfInBounds_toArray, List.set_cons_zero, List.set_cons_succ]
      refine wpAnyH_take (i := 9) (v := ?_) rfl (by kernel_rfl) (by kernel_rfl) (by kernel_rfl) (fun _ _ _ h => h) (Or.inl ⟨by rfl, ?_⟩) (by assumption) ?_
      rotate_left
      · intro w hSw; (try dsimp only at hSw); go_simp <;> with_reducible rfl
      try simp only [Act.put, List.getElem_toArray, List.getElem_cons_zero, List.getElem_cons_succ, List.setIfInBounds_toArray, List.set_cons_zero, List.set_cons_succ]
      refine wpAnyH_take (i := 10) (v := ?_) rfl (by kernel_rfl) (by kernel_rfl) (by kernel_rfl) (fun _ _ _ h => h) (Or.inl ⟨by rfl, ?_⟩) (by assumption) ?_
      rotate_left
      · intro w hSw; (try dsimp only at hSw); go_simp <;> with_reducible rfl
      try simp only [Act.put, List.getElem_toArray, List.getElem_cons_zero, List.getElem_cons_succ, List.setIfInBounds_toArray, List.set_cons_zero, List.set_cons_succ]
      refine wpAnyH_ready (rs := [11]) (by kernel_rfl) (by simp) ?_
      refine AllReadyH.cons rfl (fun K hK => ?_) AllReadyH.nil
      go_simp
      refine (cC.out Wd KD.out).mono ?_
      rintro e u1 ⟨rfl, l1'⟩
      (try go_wp2_with fail)
      refine hK.out _ _ ?_ (fun hHeld => ?_)
      · exact hF.out _ (KD.out.trans l1' (by simp))
      clear hK K
      try simp only [Act.put, List.getElem_toArray, List.getElem_cons_zero, List.getElem_cons_succ, List.setIfInBounds_toArray, List.set_cons_zero, List.set_cons_succ]
      have K1 := hid (KD.out.trans l1' (by simp))
      clear l1' KD
      have hw1 : Hid (Hd u1 g o n cap A p ∧ Kp [g] w u1) := hid ⟨hw.out.1.kept K1.out, hw.out.2.trans K1.out (by simp)⟩
      by_cases hc0 : C < 0
      · have dc : decide (C < 0) = true := by simpa using hc0
        refine wpAnyH_take (i := 12) (v := ?_) rfl (by kernel_rfl) (by kernel_rfl) (by kernel_rfl) (fun _ _ _ h => h) (Or.inl ⟨by rfl, ?_⟩) (by assumption) ?_
        rotate_left
        · intro w hSw; (try dsimp only at hSw); go_simp <;> (try simp only [dc]) <;> with_reducible rfl
        try simp only [Act.put, List.getElem_toArray, List.getElem_cons_zero, List.getElem_cons_succ, List.setIfInBounds_toArray, List.set_cons_zero, List.set_cons_succ]
        try simp only [dc]
        refine wpAnyH_take (i := 13) (v := ?_) rfl (by kernel_rfl) (by kernel_rfl) (by kernel_rfl) (fun _ _ _ h => h) (Or.inl ⟨by rfl, ?_⟩) (by assumption) ?_
        rotate_left
        · intro w hSw; (try dsimp only at hSw); go_simp <;> with_reducible rfl
        try simp only [Act.put, List.getElem_toArray, List.getElem_cons_zero, List.getElem_cons_succ, List.setIfInBounds_toArray, List.set_cons_zero, List.set_cons_succ]
        try simp only [Bool.not_true, Bool.not_false]
        refine wpAnyH_done (by kernel_rfl) ?_ _
        have hs2 : Hid ((s = lo ∨ 0 ≤ cf (p (N - s)) (p (s - 1))) ∧ (c = mid ∨ cf (p (N - 1 - c)) (p c) < 0)) := hid ⟨hs.out.1, .inr (by rw [← HX.out.1, hCf.out]; exact hc0)⟩
        clear hHeld hF cC hs hw hc0
        go_wp2_with fail
        exact ⟨⟨s, c, by omega, rfl, rfl, hs2, hw1⟩, by simp [intOf]; omega⟩
      · have dc : decide (C < 0) = false := by simpa using hc0
        refine wpAnyH_take (i := 12) (v := ?_) rfl (by kernel_rfl) (by kernel_rfl) (by kernel_rfl) (fun _ _ _ h => h) (Or.inl ⟨by rfl, ?_⟩) (by assumption) ?_
        rotate_left
        · intro w hSw; (try dsimp only at hSw); go_simp <;> (try simp only [dc]) <;> with_reducible rfl
        try simp only [Act.put, List.getElem_toArray, List.getElem_cons_zero, List.getElem_cons_succ, List.setIfInBounds_toArray, List.set_cons_zero, List.set_cons_succ]
        try simp only [dc]
        refine wpAnyH_take (i := 13) (v := ?_) rfl (by kernel_rfl) (by kernel_rfl) (by kernel_rfl) (fun _ _ _ h => h) (Or.inl ⟨by rfl, ?_⟩) (by assumption) ?_
        rotate_left
        · intro w hSw; (try dsimp only at hSw); go_simp <;> with_reducible rfl
        try simp only [Act.put, List.getElem_toArray, List.getElem_cons_zero, List.getElem_cons_succ, List.setIfInBounds_toArray, List.set_cons_zero, List.set_cons_succ]
        try simp only [Bool.not_true, Bool.not_false]
        refine wpAnyH_done (by kernel_rfl) ?_ _
        have hs2 : Hid ((c + 1 = lo ∨ 0 ≤ cf (p (N - (c + 1))) (p (c + 1 - 1))) ∧ (r = mid ∨ cf (p (N - 1 - r)) (p r) < 0)) := hid ⟨.inr (by rw [Nat.add_sub_cancel, ← HX.out.2, hCf.out]; omega), hs.out.2⟩
        clear hHeld hF cC hs hw hc0
        go_wp2_with fail
        exact ⟨⟨c + 1, r, by omega, by go_num, rfl, hs2, hw1⟩, by simp [intOf]; omega⟩
    · have er : r = s := by omega
      subst er
      rename_i s_
      obtain ⟨s, hss⟩ : ∃ s : Nat, s = r := ⟨_, rfl⟩
      subst hss
      obtain ⟨e, he⟩ : ∃ e : Nat, e = N - s := ⟨_, rfl⟩
      have eE : (N : Int) - (s : Int) = (e : Int) := by omega
      have eE1 : (-9223372036854775808 : Int) ≤ (N : Int) - (s : Int) := by omega
      have eE2 : (N : Int) - (s : Int) ≤ 9223372036854775807 := by omega
      have heb : m ≤ e ∧ e ≤ b ∧ s ≤ mid ∧ s ≤ m ∧ a ≤ s := by omega
      have hem : Hid (mid = s + (e - m)) := hid (by omega)
      have hmb2 : mid < b ∧ a < mid ∧ mid ≤ e := by omega
      have SP := hid (sym_parts HC.out.swo (p := p) heb.2.2.2.2 heb.2.2.2.1 heb.1 heb.2.1 hem.out HSR.out.1 HSR.out.2.1 HSR.out.2.2 (fun g1 g2 => by
        rcases hs.out.2 with h5 | h5
        · omega
        · rw [show e - 1 = N - 1 - s by omega]; exact h5) (fun g1 g2 => by
        rcases hs.out.1 with h5 | h5
        · omega
        · rw [he]; exact Int.not_lt.2 h5))
      clear he hem hs
      by_cases c1 : s < m
      · have d1 : decide ((s : Int) < (m : Int)) = true := by simp; omega
        have d1n : decide (s < m) = true := by simp; omega
        by_cases c2 : m < e
        · have d2 : decide ((m : Int) < (e : Int)) = true := by simp; omega
          have d2n : decide (m < e) = true := by simp; omega
          have cR := hid (cRot g o n cap A p s m e (.func (.func 38) #[] #[cv]) wr hw.out.1 c1 c2 (by omega) hn hcap)
          clear c1 c2
          go_wp2_with fail
          refine cR.out.mono ?_
          rintro e' wt ⟨⟨v, rfl⟩, hd, kd⟩
          have HR := hid (And.intro hd (hw.out.2.trans kd (by simp)))
          clear hd kd cR hw
          by_cases c3 : a < s
          · have e1 : decide ((a : Int) < (s : Int)) = true := by simp; omega
            have e1n : decide (a < s) = true := by simp; omega
            by_cases c4 : s < mid
            · have e2 : decide ((s : Int) < (mid : Int)) = true := by simp; omega
              have e2n : decide (s < mid) = true := by simp; omega
              have cM1 := hid (HIH.out (fun k => p (rot s m e k)) a s mid wt (by omega) HR.out.1 (HC.out.keep _ _ HI.out HR.out.2) (fun k hk => HPN.out _ (((rot_perm (Nat.zero_le s) (by omega) (by omega) (by omega) : PermIn 0 n (rot s m e))).1 k (Nat.zero_le _) hk).2) c3 c4 (by omega) SP.out.1.1 SP.out.1.2.1 SP.out.1.2.2)
              clear c3 c4
              go_wp2_with fail
              refine cM1.out.mono ?_
              rintro e' wm ⟨⟨v, rfl⟩, sa, pa, sa', ha', ka⟩
              have PA := hid pa
              have SA := hid sa'
              have HD := hid (And.intro ha' (HR.out.2.trans ka (by simp)))
              clear pa sa' ha' ka cM1 HR
              have hmx : Hid ((∀ k, mid ≤ k → p (rot s m e (sa k)) = p (rot s m e k))) := hid (fun k hk => by rw [PA.out.2.1 k (by omega)])
              by_cases c5 : mid < e
              · have f1 : decide ((mid : Int) < (e : Int)) = true := by simp; omega
                have f1n : decide (mid < e) = true := by simp; omega
                by_cases c6 : e < b
                · have f2 : decide ((e : Int) < (b : Int)) = true := by simp; omega
                  have f2n : decide (e < b) = true := by simp; omega
                  have cM := hid (HIH.out (fun k => p (rot s m e (sa k))) mid e b wm (by omega) HD.out.1 (HC.out.keep _ _ HI.out HD.out.2) (fun k hk => HPN.out _ (by
                    have r1 := (rot_perm (lo := 0) (hi := n) (Nat.zero_le s) (by omega) (by omega) (by omega) : PermIn 0 n (rot s m e))
                    have r2 := PA.out.mono (Nat.zero_le a) (show mid ≤ n by omega)
                    exact (r1.1 _ (Nat.zero_le _) (r2.1 k (Nat.zero_le _) hk).2).2)) c5 c6 (by omega) (fun i j g1 g2 g3 => by
                      show bef _ (p (rot s m e (sa i))) (p (rot s m e (sa j)))
                      rw [hmx.out i (by omega), hmx.out j (by omega)]; exact SP.out.2.1.1 i j g1 g2 g3) (fun i j g1 g2 g3 => by
                      show bef _ (p (rot s m e (sa i))) (p (rot s m e (sa j)))
                      rw [hmx.out i (by omega), hmx.out j (by omega)]; exact SP.out.2.1.2.1 i j g1 g2 g3) (fun i j g1 g2 g3 g4 => by
                      show p (rot s m e (sa i)) < p (rot s m e (sa j))
                      rw [hmx.out i (by omega), hmx.out j (by omega)]; exact SP.out.2.1.2.2 i j g1 g2 g3 g4))
                  have KX := hid HD.out.2
                  clear c5 c6
                  go_wp2_with fail
                  refine cM.out.mono ?_
                  rintro e' wz ⟨⟨v, rfl⟩, t, pt, st, ht', kt⟩
                  have hfin : Hid (PermIn a b (fun k => rot s m e (sa (t k))) ∧ Srt (fun x y => cf x y < 0) (fun k => p (rot s m e (sa (t k)))) a b ∧ Hd wz g o n cap A (fun k => p (rot s m e (sa (t k)))) ∧ Kp [g] w wz) := hid ⟨(rot_perm (by omega) (by omega) (by omega) (by omega)).comp ((PA.out.mono (Nat.le_refl _) (by omega)).comp (pt.mono (by omega) (Nat.le_refl _))), Srt.join (p := fun k => p (rot s m e k)) PA.out pt SA.out (fun i j g1 g2 g3 => by
                    have h5 := st i j g1 g2 g3
                    have h6 := pt.1 i g1 (by omega)
                    have h7 := pt.1 j (by omega) g3
                    simp only [hmx.out _ h6.1, hmx.out _ h7.1] at h5
                    exact h5) SP.out.2.2, ht', KX.out.trans kt (by simp)⟩
                  clear pt st ht' kt KX
                  go_wp2_with fail
                  go_end0
                  exact ⟨⟨_, rfl⟩, _, hfin.out.1, hfin.out.2.1, hfin.out.2.2.1, hfin.out.2.2.2⟩
                · have f2 : decide ((e : Int) < (b : Int)) = false := by simp; omega
                  have f2n : decide (e < b) = false := by simp; omega
                  have sB : Srt (fun x y => cf x y < 0) (fun k => p (rot s m e k)) mid b := by
                    by_cases c7 : e = mid
                    · rw [← c7]; exact SP.out.2.1.2.1
                    · have c8 : e = b := by omega
                      rw [← c8]; exact SP.out.2.1.1
                  have hfin : Hid (PermIn a b (fun k => rot s m e (sa k)) ∧ Srt (fun x y => cf x y < 0) (fun k => p (rot s m e (sa k))) a b) := hid ⟨(rot_perm (by omega) (by omega) (by omega) (by omega)).comp (PA.out.mono (Nat.le_refl _) (by omega)), Srt.join (p := fun k => p (rot s m e k)) PA.out (PermIn.id mid b) SA.out sB SP.out.2.2⟩
                  clear sB c5
                  go_wp2_with fail
                  go_end0
                  exact ⟨⟨_, rfl⟩, _, hfin.out.1, hfin.out.2, HD.out.1, HD.out.2⟩
              · have f1 : decide ((mid : Int) < (e : Int)) = false := by simp; omega
                have f1n : decide (mid < e) = false := by simp; omega
                have sB : Srt (fun x y => cf x y < 0) (fun k => p (rot s m e k)) mid b := by
                  by_cases c7 : e = mid
                  · rw [← c7]; exact SP.out.2.1.2.1
                  · have c8 : e = b := by omega
                    rw [← c8]; exact SP.out.2.1.1
                have hfin : Hid (PermIn a b (fun k => rot s m e (sa k)) ∧ Srt (fun x y => cf x y < 0) (fun k => p (rot s m e (sa k))) a b) := hid ⟨(rot_perm (by omega) (by omega) (by omega) (by omega)).comp (PA.out.mono (Nat.le_refl _) (by omega)), Srt.join (p := fun k => p (rot s m e k)) PA.out (PermIn.id mid b) SA.out sB SP.out.2.2⟩
                clear sB c5
                go_wp2_with fail
                go_end0
                exact ⟨⟨_, rfl⟩, _, hfin.out.1, hfin.out.2, HD.out.1, HD.out.2⟩
            · have e2 : decide ((s : Int) < (mid : Int)) = false := by simp; omega
              have e2n : decide (s < mid) = false := by simp; omega
              obtain ⟨sa, hsa⟩ : ∃ sa : Nat → Nat, Hid (sa = fun k => k) := ⟨_, hid rfl⟩
              have PA : Hid (PermIn a mid sa) := hid (by rw [hsa.out]; exact PermIn.id _ _)
              have SA : Hid (Srt (fun x y => cf x y < 0) (fun k => p (rot s m e (sa k))) a mid) := hid (by
                rw [hsa.out]
                by_cases c7 : s = a
                · have := SP.out.1.2.1; rwa [c7] at this ⊢
                · have c8 : s = mid := by omega
                  have := SP.out.1.1; rw [c8] at this ⊢; exact this)
              have HD : Hid (Hd wt g o n cap A (fun k => p (rot s m e (sa k))) ∧ Kp [g] w wt) := hid (by rw [hsa.out]; exact HR.out)
              clear c3
              clear c4 HR
              have hmx : Hid ((∀ k, mid ≤ k → p (rot s m e (sa k)) = p (rot s m e k))) := hid (fun k hk => by rw [PA.out.2.1 k (by omega)])
              by_cases c5 : mid < e
              · have f1 : decide ((mid : Int) < (e : Int)) = true := by simp; omega
                have f1n : decide (mid < e) = true := by simp; omega
                by_cases c6 : e < b
                · have f2 : decide ((e : Int) < (b : Int)) = true := by simp; omega
                  have f2n : decide (e < b) = true := by simp; omega
                  have cM := hid (HIH.out (fun k => p (rot s m e (sa k))) mid e b wt (by omega) HD.out.1 (HC.out.keep _ _ HI.out HD.out.2) (fun k hk => HPN.out _ (by
                    have r1 := (rot_perm (lo := 0) (hi := n) (Nat.zero_le s) (by omega) (by omega) (by omega) : PermIn 0 n (rot s m e))
                    have r2 := PA.out.mono (Nat.zero_le a) (show mid ≤ n by omega)
                    exact (r1.1 _ (Nat.zero_le _) (r2.1 k (Nat.zero_le _) hk).2).2)) c5 c6 (by omega) (fun i j g1 g2 g3 => by
                      show bef _ (p (rot s m e (sa i))) (p (rot s m e (sa j)))
                      rw [hmx.out i (by omega), hmx.out j (by omega)]; exact SP.out.2.1.1 i j g1 g2 g3) (fun i j g1 g2 g3 => by
                      show bef _ (p (rot s m e (sa i))) (p (rot s m e (sa j)))
                      rw [hmx.out i (by omega), hmx.out j (by omega)]; exact SP.out.2.1.2.1 i j g1 g2 g3) (fun i j g1 g2 g3 g4 => by
                      show p (rot s m e (sa i)) < p (rot s m e (sa j))
                      rw [hmx.out i (by omega), hmx.out j (by omega)]; exact SP.out.2.1.2.2 i j g1 g2 g3 g4))
                  have KX := hid HD.out.2
                  clear c5 c6
                  go_wp2_with fail
                  refine cM.out.mono ?_
                  rintro e' wz ⟨⟨v, rfl⟩, t, pt, st, ht', kt⟩
                  have hfin : Hid (PermIn a b (fun k => rot s m e (sa (t k))) ∧ Srt (fun x y => cf x y < 0) (fun k => p (rot s m e (sa (t k)))) a b ∧ Hd wz g o n cap A (fun k => p (rot s m e (sa (t k)))) ∧ Kp [g] w wz) := hid ⟨(rot_perm (by omega) (by omega) (by omega) (by omega)).comp ((PA.out.mono (Nat.le_refl _) (by omega)).comp (pt.mono (by omega) (Nat.le_refl _))), Srt.join (p := fun k => p (rot s m e k)) PA.out pt SA.out (fun i j g1 g2 g3 => by
                    have h5 := st i j g1 g2 g3
                    have h6 := pt.1 i g1 (by omega)
                    have h7 := pt.1 j (by omega) g3
                    simp only [hmx.out _ h6.1, hmx.out _ h7.1] at h5
                    exact h5) SP.out.2.2, ht', KX.out.trans kt (by simp)⟩
                  clear pt st ht' kt KX
                  go_wp2_with fail
                  go_end0
                  exact ⟨⟨_, rfl⟩, _, hfin.out.1, hfin.out.2.1, hfin.out.2.2.1, hfin.out.2.2.2⟩
                · have f2 : decide ((e : Int) < (b : Int)) = false := by simp; omega
                  have f2n : decide (e < b) = false := by simp; omega
                  have sB : Srt (fun x y => cf x y < 0) (fun k => p (rot s m e k)) mid b := by
                    by_cases c7 : e = mid
                    · rw [← c7]; exact SP.out.2.1.2.1
                    · have c8 : e = b := by omega
                      rw [← c8]; exact SP.out.2.1.1
                  have hfin : Hid (PermIn a b (fun k => rot s m e (sa k)) ∧ Srt (fun x y => cf x y < 0) (fun k => p (rot s m e (sa k))) a b) := hid ⟨(rot_perm (by omega) (by omega) (by omega) (by omega)).comp (PA.out.mono (Nat.le_refl _) (by omega)), Srt.join (p := fun k => p (rot s m e k)) PA.out (PermIn.id mid b) SA.out sB SP.out.2.2⟩
                  clear sB c5
                  go_wp2_with fail
                  go_end0
                  exact ⟨⟨_, rfl⟩, _, hfin.out.1, hfin.out.2, HD.out.1, HD.out.2⟩
              · have f1 : decide ((mid : Int) < (e : Int)) = false := by simp; omega
                have f1n : decide (mid < e) = false := by simp; omega
                have sB : Srt (fun x y => cf x y < 0) (fun k => p (rot s m e k)) mid b := by
                  by_cases c7 : e = mid
                  · rw [← c7]; exact SP.out.2.1.2.1
                  · have c8 : e = b := by omega
                    rw [← c8]; exact SP.out.2.1.1
                have hfin : Hid (PermIn a b (fun k => rot s m e (sa k)) ∧ Srt (fun x y => cf x y < 0) (fun k => p (rot s m e (sa k))) a b) := hid ⟨(rot_perm (by omega) (by omega) (by omega) (by omega)).comp (PA.out.mono (Nat.le_refl _) (by omega)), Srt.join (p := fun k => p (rot s m e k)) PA.out (PermIn.id mid b) SA.out sB SP.out.2.2⟩
                clear sB c5
                go_wp2_with fail
                go_end0
                exact ⟨⟨_, rfl⟩, _, hfin.out.1, hfin.out.2, HD.out.1, HD.out.2⟩
          · have e1 : decide ((a : Int) < (s : Int)) = false := by simp; omega
            have e1n : decide (a < s) = false := by simp; omega
            obtain ⟨sa, hsa⟩ : ∃ sa : Nat → Nat, Hid (sa = fun k => k) := ⟨_, hid rfl⟩
            have PA : Hid (PermIn a mid sa) := hid (by rw [hsa.out]; exact PermIn.id _ _)
            have SA : Hid (Srt (fun x y => cf x y < 0) (fun k => p (rot s m e (sa k))) a mid) := hid (by
              rw [hsa.out]
              by_cases c7 : s = a
              · have := SP.out.1.2.1; rwa [c7] at this ⊢
              · have c8 : s = mid := by omega
                have := SP.out.1.1; rw [c8] at this ⊢; exact this)
            have HD : Hid (Hd wt g o n cap A (fun k => p (rot s m e (sa k))) ∧ Kp [g] w wt) := hid (by rw [hsa.out]; exact HR.out)
            clear c3
            clear HR
            have hmx : Hid ((∀ k, mid ≤ k → p (rot s m e (sa k)) = p (rot s m e k))) := hid (fun k hk => by rw [PA.out.2.1 k (by omega)])
            by_cases c5 : mid < e
            · have f1 : decide ((mid : Int) < (e : Int)) = true := by simp; omega
              have f1n : decide (mid < e) = true := by simp; omega
              by_cases c6 : e < b
              · have f2 : decide ((e : Int) < (b : Int)) = true := by simp; omega
                have f2n : decide (e < b) = true := by simp; omega
                have cM := hid (HIH.out (fun k => p (rot s m e (sa k))) mid e b wt (by omega) HD.out.1 (HC.out.keep _ _ HI.out HD.out.2) (fun k hk => HPN.out _ (by
                  have r1 := (rot_perm (lo := 0) (hi := n) (Nat.zero_le s) (by omega) (by omega) (by omega) : PermIn 0 n (rot s m e))
                  have r2 := PA.out.mono (Nat.zero_le a) (show mid ≤ n by omega)
                  exact (r1.1 _ (Nat.zero_le _) (r2.1 k (Nat.zero_le _) hk).2).2)) c5 c6 (by omega) (fun i j g1 g2 g3 => by
                    show bef _ (p (rot s m e (sa i))) (p (rot s m e (sa j)))
                    rw [hmx.out i (by omega), hmx.out j (by omega)]; exact SP.out.2.1.1 i j g1 g2 g3) (fun i j g1 g2 g3 => by
                    show bef _ (p (rot s m e (sa i))) (p (rot s m e (sa j)))
                    rw [hmx.out i (by omega), hmx.out j (by omega)]; exact SP.out.2.1.2.1 i j g1 g2 g3) (fun i j g1 g2 g3 g4 => by
                    show p (rot s m e (sa i)) < p (rot s m e (sa j))
                    rw [hmx.out i (by omega), hmx.out j (by omega)]; exact SP.out.2.1.2.2 i j g1 g2 g3 g4))
                have KX := hid HD.out.2
                clear c5 c6
                go_wp2_with fail
                refine cM.out.mono ?_
                rintro e' wz ⟨⟨v, rfl⟩, t, pt, st, ht', kt⟩
                have hfin : Hid (PermIn a b (fun k => rot s m e (sa (t k))) ∧ Srt (fun x y => cf x y < 0) (fun k => p (rot s m e (sa (t k)))) a b ∧ Hd wz g o n cap A (fun k => p (rot s m e (sa (t k)))) ∧ Kp [g] w wz) := hid ⟨(rot_perm (by omega) (by omega) (by omega) (by omega)).comp ((PA.out.mono (Nat.le_refl _) (by omega)).comp (pt.mono (by omega) (Nat.le_refl _))), Srt.join (p := fun k => p (rot s m e k)) PA.out pt SA.out (fun i j g1 g2 g3 => by
                  have h5 := st i j g1 g2 g3
                  have h6 := pt.1 i g1 (by omega)
                  have h7 := pt.1 j (by omega) g3
                  simp only [hmx.out _ h6.1, hmx.out _ h7.1] at h5
                  exact h5) SP.out.2.2, ht', KX.out.trans kt (by simp)⟩
                clear pt st ht' kt KX
                go_wp2_with fail
                go_end0
                exact ⟨⟨_, rfl⟩, _, hfin.out.1, hfin.out.2.1, hfin.out.2.2.1, hfin.out.2.2.2⟩
              · have f2 : decide ((e : Int) < (b : Int)) = false := by simp; omega
                have f2n : decide (e < b) = false := by simp; omega
                have sB : Srt (fun x y => cf x y < 0) (fun k => p (rot s m e k)) mid b := by
                  by_cases c7 : e = mid
                  · rw [← c7]; exact SP.out.2.1.2.1
                  · have c8 : e = b := by omega
                    rw [← c8]; exact SP.out.2.1.1
                have hfin : Hid (PermIn a b (fun k => rot s m e (sa k)) ∧ Srt (fun x y => cf x y < 0) (fun k => p (rot s m e (sa k))) a b) := hid ⟨(rot_perm (by omega) (by omega) (by omega) (by omega)).comp (PA.out.mono (Nat.le_refl _) (by omega)), Srt.join (p := fun k => p (rot s m e k)) PA.out (PermIn.id mid b) SA.out sB SP.out.2.2⟩
                clear sB c5
                go_wp2_with fail
                go_end0
                exact ⟨⟨_, rfl⟩, _, hfin.out.1, hfin.out.2, HD.out.1, HD.out.2⟩
            · have f1 : decide ((mid : Int) < (e : Int)) = false := by simp; omega
              have f1n : decide (mid < e) = false := by simp; omega
              have sB : Srt (fun x y => cf x y < 0) (fun k => p (rot s m e k)) mid b := by
                by_cases c7 : e = mid
                · rw [← c7]; exact SP.out.2.1.2.1
                · have c8 : e = b := by omega
                  rw [← c8]; exact SP.out.2.1.1
              have hfin : Hid (PermIn a b (fun k => rot s m e (sa k)) ∧ Srt (fun x y => cf x y < 0) (fun k => p (rot s m e (sa k))) a b) := hid ⟨(rot_perm (by omega) (by omega) (by omega) (by omega)).comp (PA.out.mono (Nat.le_refl _) (by omega)), Srt.join (p := fun k => p (rot s m e k)) PA.out (PermIn.id mid b) SA.out sB SP.out.2.2⟩
              clear sB c5
              go_wp2_with fail
              go_end0
              exact ⟨⟨_, rfl⟩, _, hfin.out.1, hfin.out.2, HD.out.1, HD.out.2⟩
        · have d2 : decide ((m : Int) < (e : Int)) = false := by simp; omega
          have d2n : decide (m < e) = false := by simp; omega
          have hee : e = m := by omega
          have HR : Hid (Hd wr g o n cap A (fun k => p (rot s m e k)) ∧ Kp [g] w wr) := hid (by rw [hee, rot_right s m (by omega)]; exact hw.out)
          clear hw c1 c2 hee
          by_cases c3 : a < s
          · have e1 : decide ((a : Int) < (s : Int)) = true := by simp; omega
            have e1n : decide (a < s) = true := by simp; omega
            by_cases c4 : s < mid
            · have e2 : decide ((s : Int) < (mid : Int)) = true := by simp; omega
              have e2n : decide (s < mid) = true := by simp; omega
              have cM1 := hid (HIH.out (fun k => p (rot s m e k)) a s mid wr (by omega) HR.out.1 (HC.out.keep _ _ HI.out HR.out.2) (fun k hk => HPN.out _ (((rot_perm (Nat.zero_le s) (by omega) (by omega) (by omega) : PermIn 0 n (rot s m e))).1 k (Nat.zero_le _) hk).2) c3 c4 (by omega) SP.out.1.1 SP.out.1.2.1 SP.out.1.2.2)
              clear c3 c4
              go_wp2_with fail
              refine cM1.out.mono ?_
              rintro e' wm ⟨⟨v, rfl⟩, sa, pa, sa', ha', ka⟩
              have PA := hid pa
              have SA := hid sa'
              have HD := hid (And.intro ha' (HR.out.2.trans ka (by simp)))
              clear pa sa' ha' ka cM1 HR
              have hmx : Hid ((∀ k, mid ≤ k → p (rot s m e (sa k)) = p (rot s m e k))) := hid (fun k hk => by rw [PA.out.2.1 k (by omega)])
              by_cases c5 : mid < e
              · have f1 : decide ((mid : Int) < (e : Int)) = true := by simp; omega
                have f1n : decide (mid < e) = true := by simp; omega
                by_cases c6 : e < b
                · have f2 : decide ((e : Int) < (b : Int)) = true := by simp; omega
                  have f2n : decide (e < b) = true := by simp; omega
                  have cM := hid (HIH.out (fun k => p (rot s m e (sa k))) mid e b wm (by omega) HD.out.1 (HC.out.keep _ _ HI.out HD.out.2) (fun k hk => HPN.out _ (by
                    have r1 := (rot_perm (lo := 0) (hi := n) (Nat.zero_le s) (by omega) (by omega) (by omega) : PermIn 0 n (rot s m e))
                    have r2 := PA.out.mono (Nat.zero_le a) (show mid ≤ n by omega)
                    exact (r1.1 _ (Nat.zero_le _) (r2.1 k (Nat.zero_le _) hk).2).2)) c5 c6 (by omega) (fun i j g1 g2 g3 => by
                      show bef _ (p (rot s m e (sa i))) (p (rot s m e (sa j)))
                      rw [hmx.out i (by omega), hmx.out j (by omega)]; exact SP.out.2.1.1 i j g1 g2 g3) (fun i j g1 g2 g3 => by
                      show bef _ (p (rot s m e (sa i))) (p (rot s m e (sa j)))
                      rw [hmx.out i (by omega), hmx.out j (by omega)]; exact SP.out.2.1.2.1 i j g1 g2 g3) (fun i j g1 g2 g3 g4 => by
                      show p (rot s m e (sa i)) < p (rot s m e (sa j))
                      rw [hmx.out i (by omega), hmx.out j (by omega)]; exact SP.out.2.1.2.2 i j g1 g2 g3 g4))
                  have KX := hid HD.out.2
                  clear c5 c6
                  go_wp2_with fail
                  refine cM.out.mono ?_
                  rintro e' wz ⟨⟨v, rfl⟩, t, pt, st, ht', kt⟩
                  have hfin : Hid (PermIn a b (fun k => rot s m e (sa (t k))) ∧ Srt (fun x y => cf x y < 0) (fun k => p (rot s m e (sa (t k)))) a b ∧ Hd wz g o n cap A (fun k => p (rot s m e (sa (t k)))) ∧ Kp [g] w wz) := hid ⟨(rot_perm (by omega) (by omega) (by omega) (by omega)).comp ((PA.out.mono (Nat.le_refl _) (by omega)).comp (pt.mono (by omega) (Nat.le_refl _))), Srt.join (p := fun k => p (rot s m e k)) PA.out pt SA.out (fun i j g1 g2 g3 => by
                    have h5 := st i j g1 g2 g3
                    have h6 := pt.1 i g1 (by omega)
                    have h7 := pt.1 j (by omega) g3
                    simp only [hmx.out _ h6.1, hmx.out _ h7.1] at h5
                    exact h5) SP.out.2.2, ht', KX.out.trans kt (by simp)⟩
                  clear pt st ht' kt KX
                  go_wp2_with fail
                  go_end0
                  exact ⟨⟨_, rfl⟩, _, hfin.out.1, hfin.out.2.1, hfin.out.2.2.1, hfin.out.2.2.2⟩
                · have f2 : decide ((e : Int) < (b : Int)) = false := by simp; omega
                  have f2n : decide (e < b) = false := by simp; omega
                  have sB : Srt (fun x y => cf x y < 0) (fun k => p (rot s m e k)) mid b := by
                    by_cases c7 : e = mid
                    · rw [← c7]; exact SP.out.2.1.2.1
                    · have c8 : e = b := by omega
                      rw [← c8]; exact SP.out.2.1.1
                  have hfin : Hid (PermIn a b (fun k => rot s m e (sa k)) ∧ Srt (fun x y => cf x y < 0) (fun k => p (rot s m e (sa k))) a b) := hid ⟨(rot_perm (by omega) (by omega) (by omega) (by omega)).comp (PA.out.mono (Nat.le_refl _) (by omega)), Srt.join (p := fun k => p (rot s m e k)) PA.out (PermIn.id mid b) SA.out sB SP.out.2.2⟩
                  clear sB c5
                  go_wp2_with fail
                  go_end0
                  exact ⟨⟨_, rfl⟩, _, hfin.out.1, hfin.out.2, HD.out.1, HD.out.2⟩
              · have f1 : decide ((mid : Int) < (e : Int)) = false := by simp; omega
                have f1n : decide (mid < e) = false := by simp; omega
                have sB : Srt (fun x y => cf x y < 0) (fun k => p (rot s m e k)) mid b := by
                  by_cases c7 : e = mid
                  · rw [← c7]; exact SP.out.2.1.2.1
                  · have c8 : e = b := by omega
                    rw [← c8]; exact SP.out.2.1.1
                have hfin : Hid (PermIn a b (fun k => rot s m e (sa k)) ∧ Srt (fun x y => cf x y < 0) (fun k => p (rot s m e (sa k))) a b) := hid ⟨(rot_perm (by omega) (by omega) (by omega) (by omega)).comp (PA.out.mono (Nat.le_refl _) (by omega)), Srt.join (p := fun k => p (rot s m e k)) PA.out (PermIn.id mid b) SA.out sB SP.out.2.2⟩
                clear sB c5
                go_wp2_with fail
                go_end0
                exact ⟨⟨_, rfl⟩, _, hfin.out.1, hfin.out.2, HD.out.1, HD.out.2⟩
            · have e2 : decide ((s : Int) < (mid : Int)) = false := by simp; omega
              have e2n : decide (s < mid) = false := by simp; omega
              obtain ⟨sa, hsa⟩ : ∃ sa : Nat → Nat, Hid (sa = fun k => k) := ⟨_, hid rfl⟩
              have PA : Hid (PermIn a mid sa) := hid (by rw [hsa.out]; exact PermIn.id _ _)
              have SA : Hid (Srt (fun x y => cf x y < 0) (fun k => p (rot s m e (sa k))) a mid) := hid (by
                rw [hsa.out]
                by_cases c7 : s = a
                · have := SP.out.1.2.1; rwa [c7] at this ⊢
                · have c8 : s = mid := by omega
                  have := SP.out.1.1; rw [c8] at this ⊢; exact this)
              have HD : Hid (Hd wr g o n cap A (fun k => p (rot s m e (sa k))) ∧ Kp [g] w wr) := hid (by rw [hsa.out]; exact HR.out)
              clear c3
              clear c4 HR
              have hmx : Hid ((∀ k, mid ≤ k → p (rot s m e (sa k)) = p (rot s m e k))) := hid (fun k hk => by rw [PA.out.2.1 k (by omega)])
              by_cases c5 : mid < e
              · have f1 : decide ((mid : Int) < (e : Int)) = true := by simp; omega
                have f1n : decide (mid < e) = true := by simp; omega
                by_cases c6 : e < b
                · have f2 : decide ((e : Int) < (b : Int)) = true := by simp; omega
                  have f2n : decide (e < b) = true := by simp; omega
                  have cM := hid (HIH.out (fun k => p (rot s m e (sa k))) mid e b wr (by omega) HD.out.1 (HC.out.keep _ _ HI.out HD.out.2) (fun k hk => HPN.out _ (by
                    have r1 := (rot_perm (lo := 0) (hi := n) (Nat.zero_le s) (by omega) (by omega) (by omega) : PermIn 0 n (rot s m e))
                    have r2 := PA.out.mono (Nat.zero_le a) (show mid ≤ n by omega)
                    exact (r1.1 _ (Nat.zero_le _) (r2.1 k (Nat.zero_le _) hk).2).2)) c5 c6 (by omega) (fun i j g1 g2 g3 => by
                      show bef _ (p (rot s m e (sa i))) (p (rot s m e (sa j)))
                      rw [hmx.out i (by omega), hmx.out j (by omega)]; exact SP.out.2.1.1 i j g1 g2 g3) (fun i j g1 g2 g3 => by
                      show bef _ (p (rot s m e (sa i))) (p (rot s m e (sa j)))
                      rw [hmx.out i (by omega), hmx.out j (by omega)]; exact SP.out.2.1.2.1 i j g1 g2 g3) (fun i j g1 g2 g3 g4 => by
                      show p (rot s m e (sa i)) < p (rot s m e (sa j))
                      rw [hmx.out i (by omega), hmx.out j (by omega)]; exact SP.out.2.1.2.2 i j g1 g2 g3 g4))
                  have KX := hid HD.out.2
                  clear c5 c6
                  go_wp2_with fail
                  refine cM.out.mono ?_
                  rintro e' wz ⟨⟨v, rfl⟩, t, pt, st, ht', kt⟩
                  have hfin : Hid (PermIn a b (fun k => rot s m e (sa (t k))) ∧ Srt (fun x y => cf x y < 0) (fun k => p (rot s m e (sa (t k)))) a b ∧ Hd wz g o n cap A (fun k => p (rot s m e (sa (t k)))) ∧ Kp [g] w wz) := hid ⟨(rot_perm (by omega) (by omega) (by omega) (by omega)).comp ((PA.out.mono (Nat.le_refl _) (by omega)).comp (pt.mono (by omega) (Nat.le_refl _))), Srt.join (p := fun k => p (rot s m e k)) PA.out pt SA.out (fun i j g1 g2 g3 => by
                    have h5 := st i j g1 g2 g3
                    have h6 := pt.1 i g1 (by omega)
                    have h7 := pt.1 j (by omega) g3
                    simp only [hmx.out _ h6.1, hmx.out _ h7.1] at h5
                    exact h5) SP.out.2.2, ht', KX.out.trans kt (by simp)⟩
                  clear pt st ht' kt KX
                  go_wp2_with fail
                  go_end0
                  exact ⟨⟨_, rfl⟩, _, hfin.out.1, hfin.out.2.1, hfin.out.2.2.1, hfin.out.2.2.2⟩
                · have f2 : decide ((e : Int) < (b : Int)) = false := by simp; omega
                  have f2n : decide (e < b) = false := by simp; omega
                  have sB : Srt (fun x y => cf x y < 0) (fun k => p (rot s m e k)) mid b := by
                    by_cases c7 : e = mid
                    · rw [← c7]; exact SP.out.2.1.2.1
                    · have c8 : e = b := by omega
                      rw [← c8]; exact SP.out.2.1.1
                  have hfin : Hid (PermIn a b (fun k => rot s m e (sa k)) ∧ Srt (fun x y => cf x y < 0) (fun k => p (rot s m e (sa k))) a b) := hid ⟨(rot_perm (by omega) (by omega) (by omega) (by omega)).comp (PA.out.mono (Nat.le_refl _) (by omega)), Srt.join (p := fun k => p (rot s m e k)) PA.out (PermIn.id mid b) SA.out sB SP.out.2.2⟩
                  clear sB c5
                  go_wp2_with fail
                  go_end0
                  exact ⟨⟨_, rfl⟩, _, hfin.out.1, hfin.out.2, HD.out.1, HD.out.2⟩
              · have f1 : decide ((mid : Int) < (e : Int)) = false := by simp; omega
                have f1n : decide (mid < e) = false := by simp; omega
                have sB : Srt (fun x y => cf x y < 0) (fun k => p (rot s m e k)) mid b := by
                  by_cases c7 : e = mid
                  · rw [← c7]; exact SP.out.2.1.2.1
                  · have c8 : e = b := by omega
                    rw [← c8]; exact SP.out.2.1.1
                have hfin : Hid (PermIn a b (fun k => rot s m e (sa k)) ∧ Srt (fun x y => cf x y < 0) (fun k => p (rot s m e (sa k))) a b) := hid ⟨(rot_perm (by omega) (by omega) (by omega) (by omega)).comp (PA.out.mono (Nat.le_refl _) (by omega)), Srt.join (p := fun k => p (rot s m e k)) PA.out (PermIn.id mid b) SA.out sB SP.out.2.2⟩
                clear sB c5
                go_wp2_with fail
                go_end0
                exact ⟨⟨_, rfl⟩, _, hfin.out.1, hfin.out.2, HD.out.1, HD.out.2⟩
          · have e1 : decide ((a : Int) < (s : Int)) = false := by simp; omega
            have e1n : decide (a < s) = false := by simp; omega
            obtain ⟨sa, hsa⟩ : ∃ sa : Nat → Nat, Hid (sa = fun k => k) := ⟨_, hid rfl⟩
            have PA : Hid (PermIn a mid sa) := hid (by rw [hsa.out]; exact PermIn.id _ _)
            have SA : Hid (Srt (fun x y => cf x y < 0) (fun k => p (rot s m e (sa k))) a mid) := hid (by
              rw [hsa.out]
              by_cases c7 : s = a
              · have := SP.out.1.2.1; rwa [c7] at this ⊢
              · have c8 : s = mid := by omega
                have := SP.out.1.1; rw [c8] at this ⊢; exact this)
            have HD : Hid (Hd wr g o n cap A (fun k => p (rot s m e (sa k))) ∧ Kp [g] w wr) := hid (by rw [hsa.out]; exact HR.out)
            clear c3
            clear HR
            have hmx : Hid ((∀ k, mid ≤ k → p (rot s m e (sa k)) = p (rot s m e k))) := hid (fun k hk => by rw [PA.out.2.1 k (by omega)])
            by_cases c5 : mid < e
            · have f1 : decide ((mid : Int) < (e : Int)) = true := by simp; omega
              have f1n : decide (mid < e) = true := by simp; omega
              by_cases c6 : e < b
              · have f2 : decide ((e : Int) < (b : Int)) = true := by simp; omega
                have f2n : decide (e < b) = true := by simp; omega
                have cM := hid (HIH.out (fun k => p (rot s m e (sa k))) mid e b wr (by omega) HD.out.1 (HC.out.keep _ _ HI.out HD.out.2) (fun k hk => HPN.out _ (by
                  have r1 := (rot_perm (lo := 0) (hi := n) (Nat.zero_le s) (by omega) (by omega) (by omega) : PermIn 0 n (rot s m e))
                  have r2 := PA.out.mono (Nat.zero_le a) (show mid ≤ n by omega)
                  exact (r1.1 _ (Nat.zero_le _) (r2.1 k (Nat.zero_le _) hk).2).2)) c5 c6 (by omega) (fun i j g1 g2 g3 => by
                    show bef _ (p (rot s m e (sa i))) (p (rot s m e (sa j)))
                    rw [hmx.out i (by omega), hmx.out j (by omega)]; exact SP.out.2.1.1 i j g1 g2 g3) (fun i j g1 g2 g3 => by
                    show bef _ (p (rot s m e (sa i))) (p (rot s m e (sa j)))
                    rw [hmx.out i (by omega), hmx.out j (by omega)]; exact SP.out.2.1.2.1 i j g1 g2 g3) (fun i j g1 g2 g3 g4 => by
                    show p (rot s m e (sa i)) < p (rot s m e (sa j))
                    rw [hmx.out i (by omega), hmx.out j (by omega)]; exact SP.out.2.1.2.2 i j g1 g2 g3 g4))
                have KX := hid HD.out.2
                clear c5 c6
                go_wp2_with fail
                refine cM.out.mono ?_
                rintro e' wz ⟨⟨v, rfl⟩, t, pt, st, ht', kt⟩
                have hfin : Hid (PermIn a b (fun k => rot s m e (sa (t k))) ∧ Srt (fun x y => cf x y < 0) (fun k => p (rot s m e (sa (t k)))) a b ∧ Hd wz g o n cap A (fun k => p (rot s m e (sa (t k)))) ∧ Kp [g] w wz) := hid ⟨(rot_perm (by omega) (by omega) (by omega) (by omega)).comp ((PA.out.mono (Nat.le_refl _) (by omega)).comp (pt.mono (by omega) (Nat.le_refl _))), Srt.join (p := fun k => p (rot s m e k)) PA.out pt SA.out (fun i j g1 g2 g3 => by
                  have h5 := st i j g1 g2 g3
                  have h6 := pt.1 i g1 (by omega)
                  have h7 := pt.1 j (by omega) g3
                  simp only [hmx.out _ h6.1, hmx.out _ h7.1] at h5
                  exact h5) SP.out.2.2, ht', KX.out.trans kt (by simp)⟩
                clear pt st ht' kt KX
                go_wp2_with fail
                go_end0
                exact ⟨⟨_, rfl⟩, _, hfin.out.1, hfin.out.2.1, hfin.out.2.2.1, hfin.out.2.2.2⟩
              · have f2 : decide ((e : Int) < (b : Int)) = false := by simp; omega
                have f2n : decide (e < b) = false := by simp; omega
                have sB : Srt (fun x y => cf x y < 0) (fun k => p (rot s m e k)) mid b := by
                  by_cases c7 : e = mid
                  · rw [← c7]; exact SP.out.2.1.2.1
                  · have c8 : e = b := by omega
                    rw [← c8]; exact SP.out.2.1.1
                have hfin : Hid (PermIn a b (fun k => rot s m e (sa k)) ∧ Srt (fun x y => cf x y < 0) (fun k => p (rot s m e (sa k))) a b) := hid ⟨(rot_perm (by omega) (by omega) (by omega) (by omega)).comp (PA.out.mono (Nat.le_refl _) (by omega)), Srt.join (p := fun k => p (rot s m e k)) PA.out (PermIn.id mid b) SA.out sB SP.out.2.2⟩
                clear sB c5
                go_wp2_with fail
                go_end0
                exact ⟨⟨_, rfl⟩, _, hfin.out.1, hfin.out.2, HD.out.1, HD.out.2⟩
            · have f1 : decide ((mid : Int) < (e : Int)) = false := by simp; omega
              have f1n : decide (mid < e) = false := by simp; omega
              have sB : Srt (fun x y => cf x y < 0) (fun k => p (rot s m e k)) mid b := by
                by_cases c7 : e = mid
                · rw [← c7]; exact SP.out.2.1.2.1
                · have c8 : e = b := by omega
                  rw [← c8]; exact SP.out.2.1.1
              have hfin : Hid (PermIn a b (fun k => rot s m e (sa k)) ∧ Srt (fun x y => cf x y < 0) (fun k => p (rot s m e (sa k))) a b) := hid ⟨(rot_perm (by omega) (by omega) (by omega) (by omega)).comp (PA.out.mono (Nat.le_refl _) (by omega)), Srt.join (p := fun k => p (rot s m e k)) PA.out (PermIn.id mid b) SA.out sB SP.out.2.2⟩
              clear sB c5
              go_wp2_with fail
              go_end0
              exact ⟨⟨_, rfl⟩, _, hfin.out.1, hfin.out.2, HD.out.1, HD.out.2⟩
      · have d1 : decide ((s : Int) < (m : Int)) = false := by simp; omega
        have d1n : decide (s < m) = false := by simp; omega
        have hee : s = m := by omega
        have HR : Hid (Hd wr g o n cap A (fun k => p (rot s m e k)) ∧ Kp [g] w wr) := hid (by rw [hee, rot_left]; exact hw.out)
        clear hw c1 hee
        by_cases c3 : a < s
        · have e1 : decide ((a : Int) < (s : Int)) = true := by simp; omega
          have e1n : decide (a < s) = true := by simp; omega
          by_cases c4 : s < mid
          · have e2 : decide ((s : Int) < (mid : Int)) = true := by simp; omega
            have e2n : decide (s < mid) = true := by simp; omega
            have cM1 := hid (HIH.out (fun k => p (rot s m e k)) a s mid wr (by omega) HR.out.1 (HC.out.keep _ _ HI.out HR.out.2) (fun k hk => HPN.out _ (((rot_perm (Nat.zero_le s) (by omega) (by omega) (by omega) : PermIn 0 n (rot s m e))).1 k (Nat.zero_le _) hk).2) c3 c4 (by omega) SP.out.1.1 SP.out.1.2.1 SP.out.1.2.2)
            clear c3 c4
            go_wp2_with fail
            refine cM1.out.mono ?_
            rintro e' wm ⟨⟨v, rfl⟩, sa, pa, sa', ha', ka⟩
            have PA := hid pa
            have SA := hid sa'
            have HD := hid (And.intro ha' (HR.out.2.trans ka (by simp)))
            clear pa sa' ha' ka cM1 HR
            have hmx : Hid ((∀ k, mid ≤ k → p (rot s m e (sa k)) = p (rot s m e k))) := hid (fun k hk => by rw [PA.out.2.1 k (by omega)])
            by_cases c5 : mid < e
            · have f1 : decide ((mid : Int) < (e : Int)) = true := by simp; omega
              have f1n : decide (mid < e) = true := by simp; omega
              by_cases c6 : e < b
              · have f2 : decide ((e : Int) < (b : Int)) = true := by simp; omega
                have f2n : decide (e < b) = true := by simp; omega
                have cM := hid (HIH.out (fun k => p (rot s m e (sa k))) mid e b wm (by omega) HD.out.1 (HC.out.keep _ _ HI.out HD.out.2) (fun k hk => HPN.out _ (by
                  have r1 := (rot_perm (lo := 0) (hi := n) (Nat.zero_le s) (by omega) (by omega) (by omega) : PermIn 0 n (rot s m e))
                  have r2 := PA.out.mono (Nat.zero_le a) (show mid ≤ n by omega)
                  exact (r1.1 _ (Nat.zero_le _) (r2.1 k (Nat.zero_le _) hk).2).2)) c5 c6 (by omega) (fun i j g1 g2 g3 => by
                    show bef _ (p (rot s m e (sa i))) (p (rot s m e (sa j)))
                    rw [hmx.out i (by omega), hmx.out j (by omega)]; exact SP.out.2.1.1 i j g1 g2 g3) (fun i j g1 g2 g3 => by
                    show bef _ (p (rot s m e (sa i))) (p (rot s m e (sa j)))
                    rw [hmx.out i (by omega), hmx.out j (by omega)]; exact SP.out.2.1.2.1 i j g1 g2 g3) (fun i j g1 g2 g3 g4 => by
                    show p (rot s m e (sa i)) < p (rot s m e (sa j))
                    rw [hmx.out i (by omega), hmx.out j (by omega)]; exact SP.out.2.1.2.2 i j g1 g2 g3 g4))
                have KX := hid HD.out.2
                clear c5 c6
                go_wp2_with fail
                refine cM.out.mono ?_
                rintro e' wz ⟨⟨v, rfl⟩, t, pt, st, ht', kt⟩
                have hfin : Hid (PermIn a b (fun k => rot s m e (sa (t k))) ∧ Srt (fun x y => cf x y < 0) (fun k => p (rot s m e (sa (t k)))) a b ∧ Hd wz g o n cap A (fun k => p (rot s m e (sa (t k)))) ∧ Kp [g] w wz) := hid ⟨(rot_perm (by omega) (by omega) (by omega) (by omega)).comp ((PA.out.mono (Nat.le_refl _) (by omega)).comp (pt.mono (by omega) (Nat.le_refl _))), Srt.join (p := fun k => p (rot s m e k)) PA.out pt SA.out (fun i j g1 g2 g3 => by
                  have h5 := st i j g1 g2 g3
                  have h6 := pt.1 i g1 (by omega)
                  have h7 := pt.1 j (by omega) g3
                  simp only [hmx.out _ h6.1, hmx.out _ h7.1] at h5
                  exact h5) SP.out.2.2, ht', KX.out.trans kt (by simp)⟩
                clear pt st ht' kt KX
                go_wp2_with fail
                go_end0
                exact ⟨⟨_, rfl⟩, _, hfin.out.1, hfin.out.2.1, hfin.out.2.2.1, hfin.out.2.2.2⟩
              · have f2 : decide ((e : Int) < (b : Int)) = false := by simp; omega
                have f2n : decide (e < b) = false := by simp; omega
                have sB : Srt (fun x y => cf x y < 0) (fun k => p (rot s m e k)) mid b := by
                  by_cases c7 : e = mid
                  · rw [← c7]; exact SP.out.2.1.2.1
                  · have c8 : e = b := by omega
                    rw [← c8]; exact SP.out.2.1.1
                have hfin : Hid (PermIn a b (fun k => rot s m e (sa k)) ∧ Srt (fun x y => cf x y < 0) (fun k => p (rot s m e (sa k))) a b) := hid ⟨(rot_perm (by omega) (by omega) (by omega) (by omega)).comp (PA.out.mono (Nat.le_refl _) (by omega)), Srt.join (p := fun k => p (rot s m e k)) PA.out (PermIn.id mid b) SA.out sB SP.out.2.2⟩
                clear sB c5
                go_wp2_with fail
                go_end0
                exact ⟨⟨_, rfl⟩, _, hfin.out.1, hfin.out.2, HD.out.1, HD.out.2⟩
            · have f1 : decide ((mid : Int) < (e : Int)) = false := by simp; omega
              have f1n : decide (mid < e) = false := by simp; omega
              have sB : Srt (fun x y => cf x y < 0) (fun k => p (rot s m e k)) mid b := by
                by_cases c7 : e = mid
                · rw [← c7]; exact SP.out.2.1.2.1
                · have c8 : e = b := by omega
                  rw [← c8]; exact SP.out.2.1.1
              have hfin : Hid (PermIn a b (fun k => rot s m e (sa k)) ∧ Srt (fun x y => cf x y < 0) (fun k => p (rot s m e (sa k))) a b) := hid ⟨(rot_perm (by omega) (by omega) (by omega) (by omega)).comp (PA.out.mono (Nat.le_refl _) (by omega)), Srt.join (p := fun k => p (rot s m e k)) PA.out (PermIn.id mid b) SA.out sB SP.out.2.2⟩
              clear sB c5
              go_wp2_with fail
              go_end0
              exact ⟨⟨_, rfl⟩, _, hfin.out.1, hfin.out.2, HD.out.1, HD.out.2⟩
          · have e2 : decide ((s : Int) < (mid : Int)) = false := by simp; omega
            have e2n : decide (s < mid) = false := by simp; omega
            obtain ⟨sa, hsa⟩ : ∃ sa : Nat → Nat, Hid (sa = fun k => k) := ⟨_, hid rfl⟩
            have PA : Hid (PermIn a mid sa) := hid (by rw [hsa.out]; exact PermIn.id _ _)
            have SA : Hid (Srt (fun x y => cf x y < 0) (fun k => p (rot s m e (sa k))) a mid) := hid (by
              rw [hsa.out]
              by_cases c7 : s = a
              · have := SP.out.1.2.1; rwa [c7] at this ⊢
              · have c8 : s = mid := by omega
                have := SP.out.1.1; rw [c8] at this ⊢; exact this)
            have HD : Hid (Hd wr g o n cap A (fun k => p (rot s m e (sa k))) ∧ Kp [g] w wr) := hid (by rw [hsa.out]; exact HR.out)
            clear c3
            clear c4 HR
            have hmx : Hid ((∀ k, mid ≤ k → p (rot s m e (sa k)) = p (rot s m e k))) := hid (fun k hk => by rw [PA.out.2.1 k (by omega)])
            by_cases c5 : mid < e
            · have f1 : decide ((mid : Int) < (e : Int)) = true := by simp; omega
              have f1n : decide (mid < e) = true := by simp; omega
              by_cases c6 : e < b
              · have f2 : decide ((e : Int) < (b : Int)) = true := by simp; omega
                have f2n : decide (e < b) = true := by simp; omega
                have cM := hid (HIH.out (fun k => p (rot s m e (sa k))) mid e b wr (by omega) HD.out.1 (HC.out.keep _ _ HI.out HD.out.2) (fun k hk => HPN.out _ (by
                  have r1 := (rot_perm (lo := 0) (hi := n) (Nat.zero_le s) (by omega) (by omega) (by omega) : PermIn 0 n (rot s m e))
                  have r2 := PA.out.mono (Nat.zero_le a) (show mid ≤ n by omega)
                  exact (r1.1 _ (Nat.zero_le _) (r2.1 k (Nat.zero_le _) hk).2).2)) c5 c6 (by omega) (fun i j g1 g2 g3 => by
                    show bef _ (p (rot s m e (sa i))) (p (rot s m e (sa j)))
                    rw [hmx.out i (by omega), hmx.out j (by omega)]; exact SP.out.2.1.1 i j g1 g2 g3) (fun i j g1 g2 g3 => by
                    show bef _ (p (rot s m e (sa i))) (p (rot s m e (sa j)))
                    rw [hmx.out i (by omega), hmx.out j (by omega)]; exact SP.out.2.1.2.1 i j g1 g2 g3) (fun i j g1 g2 g3 g4 => by
                    show p (rot s m e (sa i)) < p (rot s m e (sa j))
                    rw [hmx.out i (by omega), hmx.out j (by omega)]; exact SP.out.2.1.2.2 i j g1 g2 g3 g4))
                have KX := hid HD.out.2
                clear c5 c6
                go_wp2_with fail
                refine cM.out.mono ?_
                rintro e' wz ⟨⟨v, rfl⟩, t, pt, st, ht', kt⟩
                have hfin : Hid (PermIn a b (fun k => rot s m e (sa (t k))) ∧ Srt (fun x y => cf x y < 0) (fun k => p (rot s m e (sa (t k)))) a b ∧ Hd wz g o n cap A (fun k => p (rot s m e (sa (t k)))) ∧ Kp [g] w wz) := hid ⟨(rot_perm (by omega) (by omega) (by omega) (by omega)).comp ((PA.out.mono (Nat.le_refl _) (by omega)).comp (pt.mono (by omega) (Nat.le_refl _))), Srt.join (p := fun k => p (rot s m e k)) PA.out pt SA.out (fun i j g1 g2 g3 => by
                  have h5 := st i j g1 g2 g3
                  have h6 := pt.1 i g1 (by omega)
                  have h7 := pt.1 j (by omega) g3
                  simp only [hmx.out _ h6.1, hmx.out _ h7.1] at h5
                  exact h5) SP.out.2.2, ht', KX.out.trans kt (by simp)⟩
                clear pt st ht' kt KX
                go_wp2_with fail
                go_end0
                exact ⟨⟨_, rfl⟩, _, hfin.out.1, hfin.out.2.1, hfin.out.2.2.1, hfin.out.2.2.2⟩
              · have f2 : decide ((e : Int) < (b : Int)) = false := by simp; omega
                have f2n : decide (e < b) = false := by simp; omega
                have sB : Srt (fun x y => cf x y < 0) (fun k => p (rot s m e k)) mid b := by
                  by_cases c7 : e = mid
                  · rw [← c7]; exact SP.out.2.1.2.1
                  · have c8 : e = b := by omega
                    rw [← c8]; exact SP.out.2.1.1
                have hfin : Hid (PermIn a b (fun k => rot s m e (sa k)) ∧ Srt (fun x y => cf x y < 0) (fun k => p (rot s m e (sa k))) a b) := hid ⟨(rot_perm (by omega) (by omega) (by omega) (by omega)).comp (PA.out.mono (Nat.le_refl _) (by omega)), Srt.join (p := fun k => p (rot s m e k)) PA.out (PermIn.id mid b) SA.out sB SP.out.2.2⟩
                clear sB c5
                go_wp2_with fail
                go_end0
                exact ⟨⟨_, rfl⟩, _, hfin.out.1, hfin.out.2, HD.out.1, HD.out.2⟩
            · have f1 : decide ((mid : Int) < (e : Int)) = false := by simp; omega
              have f1n : decide (mid < e) = false := by simp; omega
              have sB : Srt (fun x y => cf x y < 0) (fun k => p (rot s m e k)) mid b := by
                by_cases c7 : e = mid
                · rw [← c7]; exact SP.out.2.1.2.1
                · have c8 : e = b := by omega
                  rw [← c8]; exact SP.out.2.1.1
              have hfin : Hid (PermIn a b (fun k => rot s m e (sa k)) ∧ Srt (fun x y => cf x y < 0) (fun k => p (rot s m e (sa k))) a b) := hid ⟨(rot_perm (by omega) (by omega) (by omega) (by omega)).comp (PA.out.mono (Nat.le_refl _) (by omega)), Srt.join (p := fun k => p (rot s m e k)) PA.out (PermIn.id mid b) SA.out sB SP.out.2.2⟩
              clear sB c5
              go_wp2_with fail
              go_end0
              exact ⟨⟨_, rfl⟩, _, hfin.out.1, hfin.out.2, HD.out.1, HD.out.2⟩
        · have e1 : decide ((a : Int) < (s : Int)) = false := by simp; omega
          have e1n : decide (a < s) = false := by simp; omega
          obtain ⟨sa, hsa⟩ : ∃ sa : Nat → Nat, Hid (sa = fun k => k) := ⟨_, hid rfl⟩
          have PA : Hid (PermIn a mid sa) := hid (by rw [hsa.out]; exact PermIn.id _ _)
          have SA : Hid (Srt (fun x y => cf x y < 0) (fun k => p (rot s m e (sa k))) a mid) := hid (by
            rw [hsa.out]
            by_cases c7 : s = a
            · have := SP.out.1.2.1; rwa [c7] at this ⊢
            · have c8 : s = mid := by omega
              have := SP.out.1.1; rw [c8] at this ⊢; exact this)
          have HD : Hid (Hd wr g o n cap A (fun k => p (rot s m e (sa k))) ∧ Kp [g] w wr) := hid (by rw [hsa.out]; exact HR.out)
          clear c3
          clear HR
          have hmx : Hid ((∀ k, mid ≤ k → p (rot s m e (sa k)) = p (rot s m e k))) := hid (fun k hk => by rw [PA.out.2.1 k (by omega)])
          by_cases c5 : mid < e
          · have f1 : decide ((mid : Int) < (e : Int)) = true := by simp; omega
            have f1n : decide (mid < e) = true := by simp; omega
            by_cases c6 : e < b
            · have f2 : decide ((e : Int) < (b : Int)) = true := by simp; omega
              have f2n : decide (e < b) = true := by simp; omega
              have cM := hid (HIH.out (fun k => p (rot s m e (sa k))) mid e b wr (by omega) HD.out.1 (HC.out.keep _ _ HI.out HD.out.2) (fun k hk => HPN.out _ (by
                have r1 := (rot_perm (lo := 0) (hi := n) (Nat.zero_le s) (by omega) (by omega) (by omega) : PermIn 0 n (rot s m e))
                have r2 := PA.out.mono (Nat.zero_le a) (show mid ≤ n by omega)
                exact (r1.1 _ (Nat.zero_le _) (r2.1 k (Nat.zero_le _) hk).2).2)) c5 c6 (by omega) (fun i j g1 g2 g3 => by
                  show bef _ (p (rot s m e (sa i))) (p (rot s m e (sa j)))
                  rw [hmx.out i (by omega), hmx.out j (by omega)]; exact SP.out.2.1.1 i j g1 g2 g3) (fun i j g1 g2 g3 => by
                  show bef _ (p (rot s m e (sa i))) (p (rot s m e (sa j)))
                  rw [hmx.out i (by omega), hmx.out j (by omega)]; exact SP.out.2.1.2.1 i j g1 g2 g3) (fun i j g1 g2 g3 g4 => by
                  show p (rot s m e (sa i)) < p (rot s m e (sa j))
                  rw [hmx.out i (by omega), hmx.out j (by omega)]; exact SP.out.2.1.2.2 i j g1 g2 g3 g4))
              have KX := hid HD.out.2
              clear c5 c6
              go_wp2_with fail
              refine cM.out.mono ?_
              rintro e' wz ⟨⟨v, rfl⟩, t, pt, st, ht', kt⟩
              have hfin : Hid (PermIn a b (fun k => rot s m e (sa (t k))) ∧ Srt (fun x y => cf x y < 0) (fun k => p (rot s m e (sa (t k)))) a b ∧ Hd wz g o n cap A (fun k => p (rot s m e (sa (t k)))) ∧ Kp [g] w wz) := hid ⟨(rot_perm (by omega) (by omega) (by omega) (by omega)).comp ((PA.out.mono (Nat.le_refl _) (by omega)).comp (pt.mono (by omega) (Nat.le_refl _))), Srt.join (p := fun k => p (rot s m e k)) PA.out pt SA.out (fun i j g1 g2 g3 => by
                have h5 := st i j g1 g2 g3
                have h6 := pt.1 i g1 (by omega)
                have h7 := pt.1 j (by omega) g3
                simp only [hmx.out _ h6.1, hmx.out _ h7.1] at h5
                exact h5) SP.out.2.2, ht', KX.out.trans kt (by simp)⟩
              clear pt st ht' kt KX
              go_wp2_with fail
              go_end0
              exact ⟨⟨_, rfl⟩, _, hfin.out.1, hfin.out.2.1, hfin.out.2.2.1, hfin.out.2.2.2⟩
            · have f2 : decide ((e : Int) < (b : Int)) = false := by simp; omega
              have f2n : decide (e < b) = false := by simp; omega
              have sB : Srt (fun x y => cf x y < 0) (fun k => p (rot s m e k)) mid b := by
                by_cases c7 : e = mid
                · rw [← c7]; exact SP.out.2.1.2.1
                · have c8 : e = b := by omega
                  rw [← c8]; exact SP.out.2.1.1
              have hfin : Hid (PermIn a b (fun k => rot s m e (sa k)) ∧ Srt (fun x y => cf x y < 0) (fun k => p (rot s m e (sa k))) a b) := hid ⟨(rot_perm (by omega) (by omega) (by omega) (by omega)).comp (PA.out.mono (Nat.le_refl _) (by omega)), Srt.join (p := fun k => p (rot s m e k)) PA.out (PermIn.id mid b) SA.out sB SP.out.2.2⟩
              clear sB c5
              go_wp2_with fail
              go_end0
              exact ⟨⟨_, rfl⟩, _, hfin.out.1, hfin.out.2, HD.out.1, HD.out.2⟩
          · have f1 : decide ((mid : Int) < (e : Int)) = false := by simp; omega
            have f1n : decide (mid < e) = false := by simp; omega
            have sB : Srt (fun x y => cf x y < 0) (fun k => p (rot s m e k)) mid b := by
              by_cases c7 : e = mid
              · rw [← c7]; exact SP.out.2.1.2.1
              · have c8 : e = b := by omega
                rw [← c8]; exact SP.out.2.1.1
            have hfin : Hid (PermIn a b (fun k => rot s m e (sa k)) ∧ Srt (fun x y => cf x y < 0) (fun k => p (rot s m e (sa k))) a b) := hid ⟨(rot_perm (by omega) (by omega) (by omega) (by omega)).comp (PA.out.mono (Nat.le_refl _) (by omega)), Srt.join (p := fun k => p (rot s m e k)) PA.out (PermIn.id mid b) SA.out sB SP.out.2.2⟩
            clear sB c5
            go_wp2_with fail
            go_end0
            exact ⟨⟨_, rfl⟩, _, hfin.out.1, hfin.out.2, HD.out.1, HD.out.2⟩
end Go.Proofs.Ytohkjikhlakglaa
end

section
namespace Go.Proofs.Ytohkjikhlakglaa
open Go.RowKit Go.Hay
set_option linter.unusedVariables false
set_option linter.unusedSimpArgs false

set_option maxHeartbeats 64000000 in
set_option maxRecDepth 100000 in
theorem cSymC2 (g o n cap : Nat) (A : Nat → Vs) (cv : Value) (cf : Nat → Nat → Int) (Inv : World → Prop) (hC : CmpOk g n A cv cf Inv) (p : Nat → Nat) (a m b : Nat) (w : World) (h : Hd w g o n cap A p) (hI : Inv w) (hpn : ∀ k, k < n → p k < n) (h1 : a < m) (h2 : m < b) (h3 : b ≤ n) (hA : Srt (fun x y => cf x y < 0) p a m) (hB : Srt (fun x y => cf x y < 0) p m b) (hLo : Low p a m b) (hn : n ≤ 4000000000000) (hcap : n ≤ cap) (hma : a + 1 < m) (hmb : m + 1 < b) (hk : 2 * m ≤ a + b) (IH : ∀ (p' : Nat → Nat) (a' m' b' : Nat) (w' : World), b' - a' < b - a → Hd w' g o n cap A p' → Inv w' → (∀ k, k < n → p' k < n) → a' < m' → m' < b' → b' ≤ n → Srt (fun x y => cf x y < 0) p' a' m' → Srt (fun x y => cf x y < 0) p' m' b' → Low p' a' m' b' → Calls Try.prog 67 #[.slice (some ⟨g, o, none⟩) n cap, .int .i64 (a' : Int), .int .i64 (m' : Int), .int .i64 (b' : Int), .func (.func 38) #[] #[cv]] w' fun e u => (∃ v, e = .returned v) ∧ ∃ s, PermIn a' b' s ∧ Srt (fun x y => cf x y < 0) (fun k => p' (s k)) a' b' ∧ Hd u g o n cap A (fun k => p' (s k)) ∧ Kp [g] w' u) : Calls Try.prog 67 #[.slice (some ⟨g, o, none⟩) n cap, .int .i64 (a : Int), .int .i64 (m : Int), .int .i64 (b : Int), .func (.func 38) #[] #[cv]] w fun e w' => (∃ v, e = .returned v) ∧ ∃ s, PermIn a b s ∧ Srt (fun x y => cf x y < 0) (fun k => p (s k)) a b ∧ Hd w' g o n cap A (fun k => p (s k)) ∧ Kp [g] w w' := by
  have HC := hid hC
  have HI := hid hI
  have HH := hid h
  have HPN := hid hpn
  have HSR := hid (And.intro hA (And.intro hB hLo))
  have q1 : (-9223372036854775808 : Int) ≤ (m : Int) - (a : Int) := by omega
  have q2 : (m : Int) - (a : Int) ≤ 9223372036854775807 := by omega
  clear hC hI h hpn hA hB hLo
  have HIH := hid IH
  clear IH
  have hm1 : ((m : Int) - (a : Int) == 1) = false := by simp; omega
  have hm2 : ¬ ((m : Int) - (a : Int) = 1) := by omega
  have hb1 : ((b : Int) - (m : Int) == 1) = false := by simp; omega
  have hb2 : ¬ ((b : Int) - (m : Int) = 1) := by omega
  have q3 : (-9223372036854775808 : Int) ≤ (b : Int) - (m : Int) := by omega
  have q4 : (b : Int) - (m : Int) ≤ 9223372036854775807 := by omega
  obtain ⟨t, ht⟩ : ∃ t : Nat, t = a + b := ⟨_, rfl⟩
  obtain ⟨mid, hmid⟩ : ∃ h : Nat, h = t / 2 := ⟨_, rfl⟩
  have et : (a : Int) + (b : Int) = (t : Int) := by omega
  have et1 : (-9223372036854775808 : Int) ≤ (a : Int) + (b : Int) := by omega
  have et2 : (a : Int) + (b : Int) ≤ 9223372036854775807 := by omega
  have et3 : (0 : Int) ≤ (t : Int) := by omega
  have et4 : (t : Int) ≤ 9223372036854775807 := by omega
  have et5 : (t : Int) < 18446744073709551616 := by omega
  have eh : (t : Int) / 2 = (mid : Int) := by omega
  have eh2 : (mid : Int) ≤ 9223372036854775807 := by omega
  have eu : IntKind.u64.wrap (t : Int) = (t : Int) := by rw [IntKind.wrap_u64]; omega
  have ew : IntKind.i64.wrap (mid : Int) = (mid : Int) := by rw [IntKind.wrap_i64]; omega
  have ewt : IntKind.i64.wrap (t : Int) = (t : Int) := by rw [IntKind.wrap_i64]; omega
  have hmid1 : 2 * mid ≤ a + b := by omega
  have hmid2 : a + b ≤ 2 * mid + 1 := by omega
  obtain ⟨N, hN⟩ : ∃ N : Nat, N = mid + m := ⟨_, rfl⟩
  obtain ⟨PP, hPP⟩ : ∃ P : Nat, P = N - 1 := ⟨_, rfl⟩
  have eN : (mid : Int) + (m : Int) = (N : Int) := by omega
  have eN1 : (-9223372036854775808 : Int) ≤ (mid : Int) + (m : Int) := by omega
  have eN2 : (mid : Int) + (m : Int) ≤ 9223372036854775807 := by omega
  have eP : (N : Int) - 1 = (PP : Int) := by omega
  have eP1 : (-9223372036854775808 : Int) ≤ (N : Int) - 1 := by omega
  have eP2 : (N : Int) - 1 ≤ 9223372036854775807 := by omega
  have hN1 : N ≤ mid + m := by omega
  have hN2 : mid + m ≤ N := by omega
  have hPP1 : PP + 1 ≤ N := by omega
  have hPP2 : N ≤ PP + 1 := by omega
  have dg : decide ((mid : Int) < (m : Int)) = false := by simp; omega
  have dg2 : ¬ ((mid : Int) < (m : Int)) := by omega
  have HT := hid (And.intro ht hmid)
  clear ht hmid hN hPP
  go_enter Try.func67, Try.ntmps67
  go_wp2_with fail
  clear q1 q2 q3 q4 hm1 hm2 hb1 hb2 et et1 et2 et3 et4 et5 eh eh2 eu ew ewt eN eN1 eN2 eP eP1 eP2 dg dg2 HT
  go_loopw [20, 21, 23] (fun sv rv _ wr => ∃ s r : Nat, (a ≤ s ∧ s ≤ r ∧ r ≤ m) ∧ sv = .int .i64 (s : Int) ∧ rv = .int .i64 (r : Int) ∧ Hid ((s = a ∨ 0 ≤ cf (p (N - s)) (p (s - 1))) ∧ (r = m ∨ cf (p (N - 1 - r)) (p r) < 0)) ∧ Hid (Hd wr g o n cap A p ∧ Kp [g] w wr)) (fun sv rv _ _ => (intOf rv).toNat - (intOf sv).toNat)
  case atStart => exact ⟨a, m, by omega, rfl, rfl, hid ⟨.inl rfl, .inl rfl⟩, hid ⟨HH.out, Kp.refl _ _⟩⟩
  case round =>
    obtain ⟨s, r, ⟨bs, bsr, br⟩, rfl, rfl, hs, hw⟩ := hrel
    by_cases hsr : s < r
    · have i0 : (s : Int) < (r : Int) := by omega
      obtain ⟨t, ht⟩ : ∃ t : Nat, t = s + r := ⟨_, rfl⟩
      obtain ⟨c, hc⟩ : ∃ h : Nat, h = t / 2 := ⟨_, rfl⟩
      have et : (s : Int) + (r : Int) = (t : Int) := by omega
      have et1 : (-9223372036854775808 : Int) ≤ (s : Int) + (r : Int) := by omega
      have et2 : (s : Int) + (r : Int) ≤ 9223372036854775807 := by omega
      have et3 : (0 : Int) ≤ (t : Int) := by omega
      have et4 : (t : Int) ≤ 9223372036854775807 := by omega
      have et5 : (t : Int) < 18446744073709551616 := by omega
      have eh : (t : Int) / 2 = (c : Int) := by omega
      have eh2 : (c : Int) ≤ 9223372036854775807 := by omega
      have eu : IntKind.u64.wrap (t : Int) = (t : Int) := by rw [IntKind.wrap_u64]; omega
      have ew : IntKind.i64.wrap (c : Int) = (c : Int) := by rw [IntKind.wrap_i64]; omega
      have ewt : IntKind.i64.wrap (t : Int) = (t : Int) := by rw [IntKind.wrap_i64]; omega
      have hcb : s ≤ c ∧ c < r := by omega
      have HT := hid (And.intro ht hc)
      clear ht hc
      obtain ⟨x, hx⟩ : ∃ x : Nat, x = PP - c := ⟨_, rfl⟩
      have ex : (PP : Int) - (c : Int) = (x : Int) := by omega
      have wx : IntKind.i64.wrap ((PP : Int) - (c : Int)) = (x : Int) := by rw [ex, IntKind.wrap_i64]; omega
      have wx2 : IntKind.i64.wrap (x : Int) = (x : Int) := by rw [IntKind.wrap_i64]; omega
      have hxn : x < n := by omega
      have i1 : (0 : Int) ≤ (c : Int) := by omega
      have i2 : (c : Int) < (n : Int) := by omega
      have i3 : (0 : Int) ≤ (x : Int) := by omega
      have i4 : (x : Int) < (n : Int) := by omega
      have i5 : (c : Int) + 1 ≤ 9223372036854775807 := by omega
      have HX : Hid (x = N - 1 - c ∧ x = N - (c + 1)) := hid (by omega)
      clear hx
      have cC := hid (fun W' (k : Kp [] wr W') => HC.out.calls W' (p x) (p c) (HC.out.keep _ _ HI.out (hw.out.2.trans k (by simp))) (HPN.out _ (by omega)) (HPN.out _ (by omega)))
      obtain ⟨x0, _⟩ := hw.out.1.cells x (by omega)
      obtain ⟨y0, _⟩ := hw.out.1.cells c (by omega)
      obtain ⟨V1, hV1⟩ : ∃ V, Hid (V = A (p x)) := ⟨_, hid rfl⟩
      obtain ⟨V2, hV2⟩ : ∃ V, Hid (V = A (p c)) := ⟨_, hid rfl⟩
      rw [← hV1.out] at x0 cC
      rw [← hV2.out] at y0 cC
      obtain ⟨C, hCf⟩ : ∃ C, Hid (cf (p x) (p c) = C) := ⟨_, hid rfl⟩
      rw [hCf.out] at cC
      obtain ⟨a1, c1, l1⟩ := V1
      obtain ⟨a2, c2, l2⟩ := V2
      simp only [Vs.v] at cC
      dsimp only at *
      have hF : Hid (∀ W', Kp [] wr W' → (W'.cell? ⟨g, o + x, none⟩ = some (.slice a1 l1.length c1) ∧ W'.cell? ⟨g, o + c, none⟩ = some (.slice a2 l2.length c2))) := fun W' k => ⟨kpAt k x0, kpAt k y0⟩
      clear x0 y0 hV1 hV2
      go_wp2_with fail
      refine wp_region_held_drew (S := fun W' => W'.cell? ⟨g, o + x, none⟩ = some (.slice a1 l1.length c1) ∧ W'.cell? ⟨g, o + c, none⟩ = some (.slice a2 l2.length c2)) (by kernel_rfl) ?_ (fun hHeld => ?_)
      · exact hF.out _ (Kp.refl [] wr).drew
      have KD : Hid (Kp [] wr wr.drew) := hid (Kp.refl [] wr).drew
      generalize wr.drew = Wd at *
      refine wpAnyH_take (i := 0) (v := ?_) rfl (by kernel_rfl) (by kernel_rfl) (by kernel_rfl) (fun _ _ _ h => h) (Or.inl ⟨by rfl, ?_⟩) (by assumption) ?_
      rotate_left
      · intro w hSw; (try dsimp only at hSw); go_simp <;> with_reducible rfl
      try simp only [Act.put, List.getElem_toArray, List.getElem_cons_zero, List.getElem_cons_succ, List.setIfInBounds_toArray, List.set_cons_zero, List.set_cons_succ]
      refine wpAnyH_take (i := 1) (v := ?_) rfl (by kernel_rfl) (by kernel_rfl) (by kernel_rfl) (fun _ _ _ h => h) (Or.inl ⟨by rfl, ?_⟩) (by assumption) ?_
      rotate_left
      · intro w hSw; (try dsimp only at hSw); go_simp <;> with_reducible rfl
      try simp only [Act.put, List.getElem_toArray, List.getElem_cons_zero, List.getElem_cons_succ, List.setIfInBounds_toArray, List.set_cons_zero, List.set_cons_succ]
      refine wpAnyH_take (i := 2) (v := ?_) rfl (by kernel_rfl) (by kernel_rfl) (by kernel_rfl) (fun _ _ _ h => h) (Or.inl ⟨by rfl, ?_⟩) (by assumption) ?_
      rotate_left
      · intro w hSw; (try dsimp only at hSw); go_simp <;> with_reducible rfl
      try simp only [Act.put, List.getElem_toArray, List.getElem_cons_zero, List.getElem_cons_succ, List.setIfInBounds_toArray, List.set_cons_zero, List.set_cons_succ]
      refine wpAnyH_take (i := 3) (v := ?_) rfl (by kernel_rfl) (by kernel_rfl) (by kernel_rfl) (fun _ _ _ h => h) (Or.inl ⟨by rfl, ?_⟩) (by assumption) ?_
      rotate_left
      · intro w hSw; (try dsimp only at hSw); go_simp <;> with_reducible rfl
      try simp only [Act.put, List.getElem_toArray, List.getElem_cons_zero, List.getElem_cons_succ, List.setIfInBounds_toArray, List.set_cons_zero, List.set_cons_succ]
      refine wpAnyH_take (i := 4) (v := ?_) rfl (by kernel_rfl) (by kernel_rfl) (by kernel_rfl) (fun _ _ _ h => h) (Or.inl ⟨by rfl, ?_⟩) (by assumption) ?_
      rotate_left
      · intro w hSw; (try dsimp only at hSw); go_simp <;> (try simp only [wx, wx2]) <;> with_reducible rfl
      try simp only [Act.put, List.getElem_toArray, List.getElem_cons_zero, List.getElem_cons_succ, List.setIfInBounds_toArray, List.set_cons_zero, List.set_cons_succ]
      try simp only [wx, wx2]
      refine wpAnyH_take (i := 5) (v := ?_) rfl (by kernel_rfl) (by kernel_rfl) (by kernel_rfl) (fun _ _ _ h => h) (Or.inl ⟨by rfl, ?_⟩) (by assumption) ?_
      rotate_left
      · intro w hSw; (try dsimp only at hSw); go_simp <;> with_reducible rfl
      try simp only [Act.put, List.getElem_toArray, List.getElem_cons_zero, List.getElem_cons_succ, List.setIfInBounds_toArray, List.set_cons_zero, List.set_cons_succ]
      refine wpAnyH_take (i := 6) (v := ?_) rfl (by kernel_rfl) (by kernel_rfl) (by kernel_rfl) (fun _ _ _ h => h) (Or.inl ⟨by rfl, ?_⟩) (by assumption) ?_
      rotate_left
      · intro w hSw; (try dsimp only at hSw); go_simp <;> with_reducible rfl
      try simp only [Act.put, List.getElem_toArray, List.getElem_cons_zero, List.getElem_cons_succ, List.setIfInBounds_toArray, List.set_cons_zero, List.set_cons_succ]
      refine wpAnyH_take (i := 7) (v := ?_) rfl (by kernel_rfl) (by kernel_rfl) (by kernel_rfl) (fun _ _ _ h => h) (Or.inl ⟨by rfl, ?_⟩) (by assumption) ?_
      rotate_left
      · intro w hSw; (try dsimp only at hSw); go_simp <;> with_reducible rfl
      try simp only [Act.put, List.getElem_toArray, List.getElem_cons_zero, List.getElem_cons_succ, List.setIfInBounds_toArray, List.set_cons_zero, List.set_cons_succ]
      refine wpAnyH_take (i := 8) (v := ?_) rfl (by kernel_rfl) (by kernel_rfl) (by kernel_rfl) (fun _ _ _ h => h) (Or.inl ⟨by rfl, ?_⟩) (by assumption) ?_
      rotate_left
      · intro w hSw; (try dsimp only at hSw); go_simp <;> with_reducible rfl
      try simp only [Act.put, List.getElem_toArray, List.getElem_cons_zero, List.getElem_cons_succ, List.setIfInBounds_toArray, List.set_cons_zero, List.set_cons_succ]
      refine wpAnyH_take (i := 9) (v := ?_) rfl (by kernel_rfl) (by kernel_rfl) (by kernel_rfl) (fun _ _ _ h => h) (Or.inl ⟨by rfl, ?_⟩) (by assumption) ?_
      rotate_left
      · intro w hSw; (try dsimp only at hSw); go_simp <;> with_reducible rfl
      try simp only [Act.put, List.getElem_toArray, List.getElem_cons_zero, List.getElem_cons_succ, List.setIfInBounds_toArray, List.set_cons_zero, List.set_cons_succ]
      refine wpAnyH_take (i := 10) (v := ?_) rfl (by kernel_rfl) (by kernel_rfl) (by kernel_rfl) (fun _ _ _ h => h) (Or.inl ⟨by rfl, ?_⟩) (by assumption) ?_
      rotate_left
      · intro w hSw; (try dsimp only at hSw); go_simp <;> with_reducible rfl
      try simp only [Act.put, List.getElem_toArray, List.getElem_cons_zero, List.getElem_cons_succ, List.setIfInBounds_toArray, List.set_cons_zero, List.set_cons_succ]
      refine wpAnyH_ready (rs := [11]) (by kernel_rfl) (by simp) ?_
      refine AllReadyH.cons rfl (fun K hK => ?_) AllReadyH.nil
      go_simp
      refine (cC.out Wd KD.out).mono ?_
      rintro e u1 ⟨rfl, l1'⟩
      (try go_wp2_with fail)
      refine hK.out _ _ ?_ (fun hHeld => ?_)
      · exact hF.out _ (KD.out.trans l1' (by simp))
      clear hK K
      try simp only [Act.put, List.getElem_toArray, List.getElem_cons_zero, List.getElem_cons_succ, List.setIfInBounds_toArray, List.set_cons_zero, List.set_cons_succ]
      have K1 := hid (KD.out.trans l1' (by simp))
      clear l1' KD
      have hw1 : Hid (Hd u1 g o n cap A p ∧ Kp [g] w u1) := hid ⟨hw.out.1.kept K1.out, hw.out.2.trans K1.out (by simp)⟩
      by_cases hc0 : C < 0
      · have dc : decide (C < 0) = true := by simpa using hc0
        refine wpAnyH_take (i := 12) (v := ?_) rfl (by kernel_rfl) (by kernel_rfl) (by kernel_rfl) (fun _ _ _ h => h) (Or.inl ⟨by rfl, ?_⟩) (by assumption) ?_
        rotate_left
        · intro w hSw; (try dsimp only at hSw); go_simp <;> (try simp only [dc]) <;> with_reducible rfl
        try simp only [Act.put, List.getElem_toArray, List.getElem_cons_zero, List.getElem_cons_succ, List.setIfInBounds_toArray, List.set_cons_zero, List.set_cons_succ]
        try simp only [dc]
        refine wpAnyH_take (i := 13) (v := ?_) rfl (by kernel_rfl) (by kernel_rfl) (by kernel_rfl) (fun _ _ _ h => h) (Or.inl ⟨by rfl, ?_⟩) (by assumption) ?_
        rotate_left
        · intro w hSw; (try dsimp only at hSw); go_simp <;> with_reducible rfl
        try simp only [Act.put, List.getElem_toArray, List.getElem_cons_zero, List.getElem_cons_succ, List.setIfInBounds_toArray, List.set_cons_zero, List.set_cons_succ]
        try simp only [Bool.not_true, Bool.not_false]
        refine wpAnyH_done (by kernel_rfl) ?_ _
        have hs2 : Hid ((s = a ∨ 0 ≤ cf (p (N - s)) (p (s - 1))) ∧ (c = m ∨ cf (p (N - 1 - c)) (p c) < 0)) := hid ⟨hs.out.1, .inr (by rw [← HX.out.1, hCf.out]; exact hc0)⟩
        clear hHeld hF cC hs hw hc0
        go_wp2_with fail
        exact ⟨⟨s, c, by omega, rfl, rfl, hs2, hw1⟩, by simp [intOf]; omega⟩
      · have dc : decide (C < 0) = false := by simpa using hc0
        refine wpAnyH_take (i := 12) (v := ?_) rfl (by kernel_rfl) (by kernel_rfl) (by kernel_rfl) (fun _ _ _ h => h) (Or.inl ⟨by rfl, ?_⟩) (by assumption) ?_
        rotate_left
        · intro w hSw; (try dsimp only at hSw); go_simp <;> (try simp only [dc]) <;> with_reducible rfl
        try simp only [Act.put, List.getElem_toArray, List.getElem_cons_zero, List.getElem_cons_succ, List.setIfInBounds_toArray, List.set_cons_zero, List.set_cons_succ]
        try simp only [dc]
        refine wpAnyH_take (i := 13) (v := ?_) rfl (by kernel_rfl) (by kernel_rfl) (by kernel_rfl) (fun _ _ _ h => h) (Or.inl ⟨by rfl, ?_⟩) (by assumption) ?_
        rotate_left
        · intro w hSw; (try dsimp only at hSw); go_simp <;> with_reducible rfl
        try simp only [Act.put, List.getElem_toArray, List.getElem_cons_zero, List.getElem_cons_succ, List.setIfInBounds_toArray, List.set_cons_zero, List.set_cons_succ]
        try simp only [Bool.not_true, Bool.not_false]
        refine wpAnyH_done (by kernel_rfl) ?_ _
        have hs2 : Hid ((c + 1 = a ∨ 0 ≤ cf (p (N - (c + 1))) (p (c + 1 - 1))) ∧ (r = m ∨ cf (p (N - 1 - r)) (p r) < 0)) := hid ⟨.inr (by rw [Nat.add_sub_cancel, ← HX.out.2, hCf.out]; omega), hs.out.2⟩
        clear hHeld hF cC hs hw hc0
        go_wp2_with fail
        exact ⟨⟨c + 1, r, by omega, by go_num, rfl, hs2, hw1⟩, by simp [intOf]; omega⟩
    · have er : r = s := by omega
      subst er
      rename_i s_
      obtain ⟨s, hss⟩ : ∃ s : Nat, s = r := ⟨_, rfl⟩
      subst hss
      obtain ⟨e, he⟩ : ∃ e : Nat, e = N - s := ⟨_, rfl⟩
      have eE : (N : Int) - (s : Int) = (e : Int) := by omega
      have eE1 : (-9223372036854775808 : Int) ≤ (N : Int) - (s : Int) := by omega
      have eE2 : (N : Int) - (s : Int) ≤ 9223372036854775807 := by omega
      have heb : m ≤ e ∧ e ≤ b ∧ s ≤ mid ∧ s ≤ m ∧ a ≤ s := by omega
      have hem : Hid (mid = s + (e - m)) := hid (by omega)
      have hmb2 : mid < b ∧ a < mid ∧ mid ≤ e := by omega
      have SP := hid (sym_parts HC.out.swo (p := p) heb.2.2.2.2 heb.2.2.2.1 heb.1 heb.2.1 hem.out HSR.out.1 HSR.out.2.1 HSR.out.2.2 (fun g1 g2 => by
        rcases hs.out.2 with h5 | h5
        · omega
        · rw [show e - 1 = N - 1 - s by omega]; exact h5) (fun g1 g2 => by
        rcases hs.out.1 with h5 | h5
        · omega
        · rw [he]; exact Int.not_lt.2 h5))
      clear he hem hs
      by_cases c1 : s < m
      · have d1 : decide ((s : Int) < (m : Int)) = true := by simp; omega
        have d1n : decide (s < m) = true := by simp; omega
        by_cases c2 : m < e
        · have d2 : decide ((m : Int) < (e : Int)) = true := by simp; omega
          have d2n : decide (m < e) = true := by simp; omega
          have cR := hid (cRot g o n cap A p s m e (.func (.func 38) #[] #[cv]) wr hw.out.1 c1 c2 (by omega) hn hcap)
          clear c1 c2
          go_wp2_with fail
          refine cR.out.mono ?_
          rintro e' wt ⟨⟨v, rfl⟩, hd, kd⟩
          have HR := hid (And.intro hd (hw.out.2.trans kd (by simp)))
          clear hd kd cR hw
          by_cases c3 : a < s
          · have e1 : decide ((a : Int) < (s : Int)) = true := by simp; omega
            have e1n : decide (a < s) = true := by simp; omega
            by_cases c4 : s < mid
            · have e2 : decide ((s : Int) < (mid : Int)) = true := by simp; omega
              have e2n : decide (s < mid) = true := by simp; omega
              have cM1 := hid (HIH.out (fun k => p (rot s m e k)) a s mid wt (by omega) HR.out.1 (HC.out.keep _ _ HI.out HR.out.2) (fun k hk => HPN.out _ (((rot_perm (Nat.zero_le s) (by omega) (by omega) (by omega) : PermIn 0 n (rot s m e))).1 k (Nat.zero_le _) hk).2) c3 c4 (by omega) SP.out.1.1 SP.out.1.2.1 SP.out.1.2.2)
              clear c3 c4
              go_wp2_with fail
              refine cM1.out.mono ?_
              rintro e' wm ⟨⟨v, rfl⟩, sa, pa, sa', ha', ka⟩
              have PA := hid pa
              have SA := hid sa'
              have HD := hid (And.intro ha' (HR.out.2.trans ka (by simp)))
              clear pa sa' ha' ka cM1 HR
              have hmx : Hid ((∀ k, mid ≤ k → p (rot s m e (sa k)) = p (rot s m e k))) := hid (fun k hk => by rw [PA.out.2.1 k (by omega)])
              by_cases c5 : mid < e
              · have f1 : decide ((mid : Int) < (e : Int)) = true := by simp; omega
                have f1n : decide (mid < e) = true := by simp; omega
                by_cases c6 : e < b
                · have f2 : decide ((e : Int) < (b : Int)) = true := by simp; omega
                  have f2n : decide (e < b) = true := by simp; omega
                  have cM := hid (HIH.out (fun k => p (rot s m e (sa k))) mid e b wm (by omega) HD.out.1 (HC.out.keep _ _ HI.out HD.out.2) (fun k hk => HPN.out _ (by
                    have r1 := (rot_perm (lo := 0) (hi := n) (Nat.zero_le s) (by omega) (by omega) (by omega) : PermIn 0 n (rot s m e))
                    have r2 := PA.out.mono (Nat.zero_le a) (show mid ≤ n by omega)
                    exact (r1.1 _ (Nat.zero_le _) (r2.1 k (Nat.zero_le _) hk).2).2)) c5 c6 (by omega) (fun i j g1 g2 g3 => by
                      show bef _ (p (rot s m e (sa i))) (p (rot s m e (sa j)))
                      rw [hmx.out i (by omega), hmx.out j (by omega)]; exact SP.out.2.1.1 i j g1 g2 g3) (fun i j g1 g2 g3 => by
                      show bef _ (p (rot s m e (sa i))) (p (rot s m e (sa j)))
                      rw [hmx.out i (by omega), hmx.out j (by omega)]; exact SP.out.2.1.2.1 i j g1 g2 g3) (fun i j g1 g2 g3 g4 => by
                      show p (rot s m e (sa i)) < p (rot s m e (sa j))
                      rw [hmx.out i (by omega), hmx.out j (by omega)]; exact SP.out.2.1.2.2 i j g1 g2 g3 g4))
                  have KX := hid HD.out.2
                  clear c5 c6
                  go_wp2_with fail
                  refine cM.out.mono ?_
                  rintro e' wz ⟨⟨v, rfl⟩, t, pt, st, ht', kt⟩
                  have hfin : Hid (PermIn a b (fun k => rot s m e (sa (t k))) ∧ Srt (fun x y => cf x y < 0) (fun k => p (rot s m e (sa (t k)))) a b ∧ Hd wz g o n cap A (fun k => p (rot s m e (sa (t k)))) ∧ Kp [g] w wz) := hid ⟨(rot_perm (by omega) (by omega) (by omega) (by omega)).comp ((PA.out.mono (Nat.le_refl _) (by omega)).comp (pt.mono (by omega) (Nat.le_refl _))), Srt.join (p := fun k => p (rot s m e k)) PA.out pt SA.out (fun i j g1 g2 g3 => by
                    have h5 := st i j g1 g2 g3
                    have h6 := pt.1 i g1 (by omega)
                    have h7 := pt.1 j (by omega) g3
                    simp only [hmx.out _ h6.1, hmx.out _ h7.1] at h5
                    exact h5) SP.out.2.2, ht', KX.out.trans kt (by simp)⟩
                  clear pt st ht' kt KX
                  go_wp2_with fail
                  go_end0
                  exact ⟨⟨_, rfl⟩, _, hfin.out.1, hfin.out.2.1, hfin.out.2.2.1, hfin.out.2.2.2⟩
                · have f2 : decide ((e : Int) < (b : Int)) = false := by simp; omega
                  have f2n : decide (e < b) = false := by simp; omega
                  have sB : Srt (fun x y => cf x y < 0) (fun k => p (rot s m e k)) mid b := by
                    by_cases c7 : e = mid
                    · rw [← c7]; exact SP.out.2.1.2.1
                    · have c8 : e = b := by omega
                      rw [← c8]; exact SP.out.2.1.1
                  have hfin : Hid (PermIn a b (fun k => rot s m e (sa k)) ∧ Srt (fun x y => cf x y < 0) (fun k => p (rot s m e (sa k))) a b) := hid ⟨(rot_perm (by omega) (by omega) (by omega) (by omega)).comp (PA.out.mono (Nat.le_refl _) (by omega)), Srt.join (p := fun k => p (rot s m e k)) PA.out (PermIn.id mid b) SA.out sB SP.out.2.2⟩
                  clear sB c5
                  go_wp2_with fail
                  go_end0
                  exact ⟨⟨_, rfl⟩, _, hfin.out.1, hfin.out.2, HD.out.1, HD.out.2⟩
              · have f1 : decide ((mid : Int) < (e : Int)) = false := by simp; omega
                have f1n : decide (mid < e) = false := by simp; omega
                have sB : Srt (fun x y => cf x y < 0) (fun k => p (rot s m e k)) mid b := by
                  by_cases c7 : e = mid
                  · rw [← c7]; exact SP.out.2.1.2.1
                  · have c8 : e = b := by omega
                    rw [← c8]; exact SP.out.2.1.1
                have hfin : Hid (PermIn a b (fun k => rot s m e (sa k)) ∧ Srt (fun x y => cf x y < 0) (fun k => p (rot s m e (sa k))) a b) := hid ⟨(rot_perm (by omega) (by omega) (by omega) (by omega)).comp (PA.out.mono (Nat.le_refl _) (by omega)), Srt.join (p := fun k => p (rot s m e k)) PA.out (PermIn.id mid b) SA.out sB SP.out.2.2⟩
                clear sB c5
                go_wp2_with fail
                go_end0
                exact ⟨⟨_, rfl⟩, _, hfin.out.1, hfin.out.2, HD.out.1, HD.out.2⟩
            · have e2 : decide ((s : Int) < (mid : Int)) = false := by simp; omega
              have e2n : decide (s < mid) = false := by simp; omega
              obtain ⟨sa, hsa⟩ : ∃ sa : Nat → Nat, Hid (sa = fun k => k) := ⟨_, hid rfl⟩
              have PA : Hid (PermIn a mid sa) := hid (by rw [hsa.out]; exact PermIn.id _ _)
              have SA : Hid (Srt (fun x y => cf x y < 0) (fun k => p (rot s m e (sa k))) a mid) := hid (by
                rw [hsa.out]
                by_cases c7 : s = a
                · have := SP.out.1.2.1; rwa [c7] at this ⊢
                · have c8 : s = mid := by omega
                  have := SP.out.1.1; rw [c8] at this ⊢; exact this)
              have HD : Hid (Hd wt g o n cap A (fun k => p (rot s m e (sa k))) ∧ Kp [g] w wt) := hid (by rw [hsa.out]; exact HR.out)
              clear c3
              clear c4 HR
              have hmx : Hid ((∀ k, mid ≤ k → p (rot s m e (sa k)) = p (rot s m e k))) := hid (fun k hk => by rw [PA.out.2.1 k (by omega)])
              by_cases c5 : mid < e
              · have f1 : decide ((mid : Int) < (e : Int)) = true := by simp; omega
                have f1n : decide (mid < e) = true := by simp; omega
                by_cases c6 : e < b
                · have f2 : decide ((e : Int) < (b : Int)) = true := by simp; omega
                  have f2n : decide (e < b) = true := by simp; omega
                  have cM := hid (HIH.out (fun k => p (rot s m e (sa k))) mid e b wt (by omega) HD.out.1 (HC.out.keep _ _ HI.out HD.out.2) (fun k hk => HPN.out _ (by
                    have r1 := (rot_perm (lo := 0) (hi := n) (Nat.zero_le s) (by omega) (by omega) (by omega) : PermIn 0 n (rot s m e))
                    have r2 := PA.out.mono (Nat.zero_le a) (show mid ≤ n by omega)
                    exact (r1.1 _ (Nat.zero_le _) (r2.1 k (Nat.zero_le _) hk).2).2)) c5 c6 (by omega) (fun i j g1 g2 g3 => by
                      show bef _ (p (rot s m e (sa i))) (p (rot s m e (sa j)))
                      rw [hmx.out i (by omega), hmx.out j (by omega)]; exact SP.out.2.1.1 i j g1 g2 g3) (fun i j g1 g2 g3 => by
                      show bef _ (p (rot s m e (sa i))) (p (rot s m e (sa j)))
                      rw [hmx.out i (by omega), hmx.out j (by omega)]; exact SP.out.2.1.2.1 i j g1 g2 g3) (fun i j g1 g2 g3 g4 => by
                      show p (rot s m e (sa i)) < p (rot s m e (sa j))
                      rw [hmx.out i (by omega), hmx.out j (by omega)]; exact SP.out.2.1.2.2 i j g1 g2 g3 g4))
                  have KX := hid HD.out.2
                  clear c5 c6
                  go_wp2_with fail
                  refine cM.out.mono ?_
                  rintro e' wz ⟨⟨v, rfl⟩, t, pt, st, ht', kt⟩
                  have hfin : Hid (PermIn a b (fun k => rot s m e (sa (t k))) ∧ Srt (fun x y => cf x y < 0) (fun k => p (rot s m e (sa (t k)))) a b ∧ Hd wz g o n cap A (fun k => p (rot s m e (sa (t k)))) ∧ Kp [g] w wz) := hid ⟨(rot_perm (by omega) (by omega) (by omega) (by omega)).comp ((PA.out.mono (Nat.le_refl _) (by omega)).comp (pt.mono (by omega) (Nat.le_refl _))), Srt.join (p := fun k => p (rot s m e k)) PA.out pt SA.out (fun i j g1 g2 g3 => by
                    have h5 := st i j g1 g2 g3
                    have h6 := pt.1 i g1 (by omega)
                    have h7 := pt.1 j (by omega) g3
                    simp only [hmx.out _ h6.1, hmx.out _ h7.1] at h5
                    exact h5) SP.out.2.2, ht', KX.out.trans kt (by simp)⟩
                  clear pt st ht' kt KX
                  go_wp2_with fail
                  go_end0
                  exact ⟨⟨_, rfl⟩, _, hfin.out.1, hfin.out.2.1, hfin.out.2.2.1, hfin.out.2.2.2⟩
                · have f2 : decide ((e : Int) < (b : Int)) = false := by simp; omega
                  have f2n : decide (e < b) = false := by simp; omega
                  have sB : Srt (fun x y => cf x y < 0) (fun k => p (rot s m e k)) mid b := by
                    by_cases c7 : e = mid
                    · rw [← c7]; exact SP.out.2.1.2.1
                    · have c8 : e = b := by omega
                      rw [← c8]; exact SP.out.2.1.1
                  have hfin : Hid (PermIn a b (fun k => rot s m e (sa k)) ∧ Srt (fun x y => cf x y < 0) (fun k => p (rot s m e (sa k))) a b) := hid ⟨(rot_perm (by omega) (by omega) (by omega) (by omega)).comp (PA.out.mono (Nat.le_refl _) (by omega)), Srt.join (p := fun k => p (rot s m e k)) PA.out (PermIn.id mid b) SA.out sB SP.out.2.2⟩
                  clear sB c5
                  go_wp2_with fail
                  go_end0
                  exact ⟨⟨_, rfl⟩, _, hfin.out.1, hfin.out.2, HD.out.1, HD.out.2⟩
              · have f1 : decide ((mid : Int) < (e : Int)) = false := by simp; omega
                have f1n : decide (mid < e) = false := by simp; omega
                have sB : Srt (fun x y => cf x y < 0) (fun k => p (rot s m e k)) mid b := by
                  by_cases c7 : e = mid
                  · rw [← c7]; exact SP.out.2.1.2.1
                  · have c8 : e = b := by omega
                    rw [← c8]; exact SP.out.2.1.1
                have hfin : Hid (PermIn a b (fun k => rot s m e (sa k)) ∧ Srt (fun x y => cf x y < 0) (fun k => p (rot s m e (sa k))) a b) := hid ⟨(rot_perm (by omega) (by omega) (by omega) (by omega)).comp (PA.out.mono (Nat.le_refl _) (by omega)), Srt.join (p := fun k => p (rot s m e k)) PA.out (PermIn.id mid b) SA.out sB SP.out.2.2⟩
                clear sB c5
                go_wp2_with fail
                go_end0
                exact ⟨⟨_, rfl⟩, _, hfin.out.1, hfin.out.2, HD.out.1, HD.out.2⟩
          · have e1 : decide ((a : Int) < (s : Int)) = false := by simp; omega
            have e1n : decide (a < s) = false := by simp; omega
            obtain ⟨sa, hsa⟩ : ∃ sa : Nat → Nat, Hid (sa = fun k => k) := ⟨_, hid rfl⟩
            have PA : Hid (PermIn a mid sa) := hid (by rw [hsa.out]; exact PermIn.id _ _)
            have SA : Hid (Srt (fun x y => cf x y < 0) (fun k => p (rot s m e (sa k))) a mid) := hid (by
              rw [hsa.out]
              by_cases c7 : s = a
              · have := SP.out.1.2.1; rwa [c7] at this ⊢
              · have c8 : s = mid := by omega
                have := SP.out.1.1; rw [c8] at this ⊢; exact this)
            have HD : Hid (Hd wt g o n cap A (fun k => p (rot s m e (sa k))) ∧ Kp [g] w wt) := hid (by rw [hsa.out]; exact HR.out)
            clear c3
            clear HR
            have hmx : Hid ((∀ k, mid ≤ k → p (rot s m e (sa k)) = p (rot s m e k))) := hid (fun k hk => by rw [PA.out.2.1 k (by omega)])
            by_cases c5 : mid < e
            · have f1 : decide ((mid : Int) < (e : Int)) = true := by simp; omega
              have f1n : decide (mid < e) = true := by simp; omega
              by_cases c6 : e < b
              · have f2 : decide ((e : Int) < (b : Int)) = true := by simp; omega
                have f2n : decide (e < b) = true := by simp; omega
                have cM := hid (HIH.out (fun k => p (rot s m e (sa k))) mid e b wt (by omega) HD.out.1 (HC.out.keep _ _ HI.out HD.out.2) (fun k hk => HPN.out _ (by
                  have r1 := (rot_perm (lo := 0) (hi := n) (Nat.zero_le s) (by omega) (by omega) (by omega) : PermIn 0 n (rot s m e))
                  have r2 := PA.out.mono (Nat.zero_le a) (show mid ≤ n by omega)
                  exact (r1.1 _ (Nat.zero_le _) (r2.1 k (Nat.zero_le _) hk).2).2)) c5 c6 (by omega) (fun i j g1 g2 g3 => by
                    show bef _ (p (rot s m e (sa i))) (p (rot s m e (sa j)))
                    rw [hmx.out i (by omega), hmx.out j (by omega)]; exact SP.out.2.1.1 i j g1 g2 g3) (fun i j g1 g2 g3 => by
                    show bef _ (p (rot s m e (sa i))) (p (rot s m e (sa j)))
                    rw [hmx.out i (by omega), hmx.out j (by omega)]; exact SP.out.2.1.2.1 i j g1 g2 g3) (fun i j g1 g2 g3 g4 => by
                    show p (rot s m e (sa i)) < p (rot s m e (sa j))
                    rw [hmx.out i (by omega), hmx.out j (by omega)]; exact SP.out.2.1.2.2 i j g1 g2 g3 g4))
                have KX := hid HD.out.2
                clear c5 c6
                go_wp2_with fail
                refine cM.out.mono ?_
                rintro e' wz ⟨⟨v, rfl⟩, t, pt, st, ht', kt⟩
                have hfin : Hid (PermIn a b (fun k => rot s m e (sa (t k))) ∧ Srt (fun x y => cf x y < 0) (fun k => p (rot s m e (sa (t k)))) a b ∧ Hd wz g o n cap A (fun k => p (rot s m e (sa (t k)))) ∧ Kp [g] w wz) := hid ⟨(rot_perm (by omega) (by omega) (by omega) (by omega)).comp ((PA.out.mono (Nat.le_refl _) (by omega)).comp (pt.mono (by omega) (Nat.le_refl _))), Srt.join (p := fun k => p (rot s m e k)) PA.out pt SA.out (fun i j g1 g2 g3 => by
                  have h5 := st i j g1 g2 g3
                  have h6 := pt.1 i g1 (by omega)
                  have h7 := pt.1 j (by omega) g3
                  simp only [hmx.out _ h6.1, hmx.out _ h7.1] at h5
                  exact h5) SP.out.2.2, ht', KX.out.trans kt (by simp)⟩
                clear pt st ht' kt KX
                go_wp2_with fail
                go_end0
                exact ⟨⟨_, rfl⟩, _, hfin.out.1, hfin.out.2.1, hfin.out.2.2.1, hfin.out.2.2.2⟩
              · have f2 : decide ((e : Int) < (b : Int)) = false := by simp; omega
                have f2n : decide (e < b) = false := by simp; omega
                have sB : Srt (fun x y => cf x y < 0) (fun k => p (rot s m e k)) mid b := by
                  by_cases c7 : e = mid
                  · rw [← c7]; exact SP.out.2.1.2.1
                  · have c8 : e = b := by omega
                    rw [← c8]; exact SP.out.2.1.1
                have hfin : Hid (PermIn a b (fun k => rot s m e (sa k)) ∧ Srt (fun x y => cf x y < 0) (fun k => p (rot s m e (sa k))) a b) := hid ⟨(rot_perm (by omega) (by omega) (by omega) (by omega)).comp (PA.out.mono (Nat.le_refl _) (by omega)), Srt.join (p := fun k => p (rot s m e k)) PA.out (PermIn.id mid b) SA.out sB SP.out.2.2⟩
                clear sB c5
                go_wp2_with fail
                go_end0
                exact ⟨⟨_, rfl⟩, _, hfin.out.1, hfin.out.2, HD.out.1, HD.out.2⟩
            · have f1 : decide ((mid : Int) < (e : Int)) = false := by simp; omega
              have f1n : decide (mid < e) = false := by simp; omega
              have sB : Srt (fun x y => cf x y < 0) (fun k => p (rot s m e k)) mid b := by
                by_cases c7 : e = mid
                · rw [← c7]; exact SP.out.2.1.2.1
                · have c8 : e = b := by omega
                  rw [← c8]; exact SP.out.2.1.1
              have hfin : Hid (PermIn a b (fun k => rot s m e (sa k)) ∧ Srt (fun x y => cf x y < 0) (fun k => p (rot s m e (sa k))) a b) := hid ⟨(rot_perm (by omega) (by omega) (by omega) (by omega)).comp (PA.out.mono (Nat.le_refl _) (by omega)), Srt.join (p := fun k => p (rot s m e k)) PA.out (PermIn.id mid b) SA.out sB SP.out.2.2⟩
              clear sB c5
              go_wp2_with fail
              go_end0
              exact ⟨⟨_, rfl⟩, _, hfin.out.1, hfin.out.2, HD.out.1, HD.out.2⟩
        · have d2 : decide ((m : Int) < (e : Int)) = false := by simp; omega
          have d2n : decide (m < e) = false := by simp; omega
          have hee : e = m := by omega
          have HR : Hid (Hd wr g o n cap A (fun k => p (rot s m e k)) ∧ Kp [g] w wr) := hid (by rw [hee, rot_right s m (by omega)]; exact hw.out)
          clear hw c1 c2 hee
          by_cases c3 : a < s
          · have e1 : decide ((a : Int) < (s : Int)) = true := by simp; omega
            have e1n : decide (a < s) = true := by simp; omega
            by_cases c4 : s < mid
            · have e2 : decide ((s : Int) < (mid : Int)) = true := by simp; omega
              have e2n : decide (s < mid) = true := by simp; omega
              have cM1 := hid (HIH.out (fun k => p (rot s m e k)) a s mid wr (by omega) HR.out.1 (HC.out.keep _ _ HI.out HR.out.2) (fun k hk => HPN.out _ (((rot_perm (Nat.zero_le s) (by omega) (by omega) (by omega) : PermIn 0 n (rot s m e))).1 k (Nat.zero_le _) hk).2) c3 c4 (by omega) SP.out.1.1 SP.out.1.2.1 SP.out.1.2.2)
              clear c3 c4
              go_wp2_with fail
              refine cM1.out.mono ?_
              rintro e' wm ⟨⟨v, rfl⟩, sa, pa, sa', ha', ka⟩
              have PA := hid pa
              have SA := hid sa'
              have HD := hid (And.intro ha' (HR.out.2.trans ka (by simp)))
              clear pa sa' ha' ka cM1 HR
              have hmx : Hid ((∀ k, mid ≤ k → p (rot s m e (sa k)) = p (rot s m e k))) := hid (fun k hk => by rw [PA.out.2.1 k (by omega)])
              by_cases c5 : mid < e
              · have f1 : decide ((mid : Int) < (e : Int)) = true := by simp; omega
                have f1n : decide (mid < e) = true := by simp; omega
                by_cases c6 : e < b
                · have f2 : decide ((e : Int) < (b : Int)) = true := by simp; omega
                  have f2n : decide (e < b) = true := by simp; omega
                  have cM := hid (HIH.out (fun k => p (rot s m e (sa k))) mid e b wm (by omega) HD.out.1 (HC.out.keep _ _ HI.out HD.out.2) (fun k hk => HPN.out _ (by
                    have r1 := (rot_perm (lo := 0) (hi := n) (Nat.zero_le s) (by omega) (by omega) (by omega) : PermIn 0 n (rot s m e))
                    have r2 := PA.out.mono (Nat.zero_le a) (show mid ≤ n by omega)
                    exact (r1.1 _ (Nat.zero_le _) (r2.1 k (Nat.zero_le _) hk).2).2)) c5 c6 (by omega) (fun i j g1 g2 g3 => by
                      show bef _ (p (rot s m e (sa i))) (p (rot s m e (sa j)))
                      rw [hmx.out i (by omega), hmx.out j (by omega)]; exact SP.out.2.1.1 i j g1 g2 g3) (fun i j g1 g2 g3 => by
                      show bef _ (p (rot s m e (sa i))) (p (rot s m e (sa j)))
                      rw [hmx.out i (by omega), hmx.out j (by omega)]; exact SP.out.2.1.2.1 i j g1 g2 g3) (fun i j g1 g2 g3 g4 => by
                      show p (rot s m e (sa i)) < p (rot s m e (sa j))
                      rw [hmx.out i (by omega), hmx.out j (by omega)]; exact SP.out.2.1.2.2 i j g1 g2 g3 g4))
                  have KX := hid HD.out.2
                  clear c5 c6
                  go_wp2_with fail
                  refine cM.out.mono ?_
                  rintro e' wz ⟨⟨v, rfl⟩, t, pt, st, ht', kt⟩
                  have hfin : Hid (PermIn a b (fun k => rot s m e (sa (t k))) ∧ Srt (fun x y => cf x y < 0) (fun k => p (rot s m e (sa (t k)))) a b ∧ Hd wz g o n cap A (fun k => p (rot s m e (sa (t k)))) ∧ Kp [g] w wz) := hid ⟨(rot_perm (by omega) (by omega) (by omega) (by omega)).comp ((PA.out.mono (Nat.le_refl _) (by omega)).comp (pt.mono (by omega) (Nat.le_refl _))), Srt.join (p := fun k => p (rot s m e k)) PA.out pt SA.out (fun i j g1 g2 g3 => by
                    have h5 := st i j g1 g2 g3
                    have h6 := pt.1 i g1 (by omega)
                    have h7 := pt.1 j (by omega) g3
                    simp only [hmx.out _ h6.1, hmx.out _ h7.1] at h5
                    exact h5) SP.out.2.2, ht', KX.out.trans kt (by simp)⟩
                  clear pt st ht' kt KX
                  go_wp2_with fail
                  go_end0
                  exact ⟨⟨_, rfl⟩, _, hfin.out.1, hfin.out.2.1, hfin.out.2.2.1, hfin.out.2.2.2⟩
                · have f2 : decide ((e : Int) < (b : Int)) = false := by simp; omega
                  have f2n : decide (e < b) = false := by simp; omega
                  have sB : Srt (fun x y => cf x y < 0) (fun k => p (rot s m e k)) mid b := by
                    by_cases c7 : e = mid
                    · rw [← c7]; exact SP.out.2.1.2.1
                    · have c8 : e = b := by omega
                      rw [← c8]; exact SP.out.2.1.1
                  have hfin : Hid (PermIn a b (fun k => rot s m e (sa k)) ∧ Srt (fun x y => cf x y < 0) (fun k => p (rot s m e (sa k))) a b) := hid ⟨(rot_perm (by omega) (by omega) (by omega) (by omega)).comp (PA.out.mono (Nat.le_refl _) (by omega)), Srt.join (p := fun k => p (rot s m e k)) PA.out (PermIn.id mid b) SA.out sB SP.out.2.2⟩
                  clear sB c5
                  go_wp2_with fail
                  go_end0
                  exact ⟨⟨_, rfl⟩, _, hfin.out.1, hfin.out.2, HD.out.1, HD.out.2⟩
              · have f1 : decide ((mid : Int) < (e : Int)) = false := by simp; omega
                have f1n : decide (mid < e) = false := by simp; omega
                have sB : Srt (fun x y => cf x y < 0) (fun k => p (rot s m e k)) mid b := by
                  by_cases c7 : e = mid
                  · rw [← c7]; exact SP.out.2.1.2.1
                  · have c8 : e = b := by omega
                    rw [← c8]; exact SP.out.2.1.1
                have hfin : Hid (PermIn a b (fun k => rot s m e (sa k)) ∧ Srt (fun x y => cf x y < 0) (fun k => p (rot s m e (sa k))) a b) := hid ⟨(rot_perm (by omega) (by omega) (by omega) (by omega)).comp (PA.out.mono (Nat.le_refl _) (by omega)), Srt.join (p := fun k => p (rot s m e k)) PA.out (PermIn.id mid b) SA.out sB SP.out.2.2⟩
                clear sB c5
                go_wp2_with fail
                go_end0
                exact ⟨⟨_, rfl⟩, _, hfin.out.1, hfin.out.2, HD.out.1, HD.out.2⟩
            · have e2 : decide ((s : Int) < (mid : Int)) = false := by simp; omega
              have e2n : decide (s < mid) = false := by simp; omega
              obtain ⟨sa, hsa⟩ : ∃ sa : Nat → Nat, Hid (sa = fun k => k) := ⟨_, hid rfl⟩
              have PA : Hid (PermIn a mid sa) := hid (by rw [hsa.out]; exact PermIn.id _ _)
              have SA : Hid (Srt (fun x y => cf x y < 0) (fun k => p (rot s m e (sa k))) a mid) := hid (by
                rw [hsa.out]
                by_cases c7 : s = a
                · have := SP.out.1.2.1; rwa [c7] at this ⊢
                · have c8 : s = mid := by omega
                  have := SP.out.1.1; rw [c8] at this ⊢; exact this)
              have HD : Hid (Hd wr g o n cap A (fun k => p (rot s m e (sa k))) ∧ Kp [g] w wr) := hid (by rw [hsa.out]; exact HR.out)
              clear c3
              clear c4 HR
              have hmx : Hid ((∀ k, mid ≤ k → p (rot s m e (sa k)) = p (rot s m e k))) := hid (fun k hk => by rw [PA.out.2.1 k (by omega)])
              by_cases c5 : mid < e
              · have f1 : decide ((mid : Int) < (e : Int)) = true := by simp; omega
                have f1n : decide (mid < e) = true := by simp; omega
                by_cases c6 : e < b
                · have f2 : decide ((e : Int) < (b : Int)) = true := by simp; omega
                  have f2n : decide (e < b) = true := by simp; omega
                  have cM := hid (HIH.out (fun k => p (rot s m e (sa k))) mid e b wr (by omega) HD.out.1 (HC.out.keep _ _ HI.out HD.out.2) (fun k hk => HPN.out _ (by
                    have r1 := (rot_perm (lo := 0) (hi := n) (Nat.zero_le s) (by omega) (by omega) (by omega) : PermIn 0 n (rot s m e))
                    have r2 := PA.out.mono (Nat.zero_le a) (show mid ≤ n by omega)
                    exact (r1.1 _ (Nat.zero_le _) (r2.1 k (Nat.zero_le _) hk).2).2)) c5 c6 (by omega) (fun i j g1 g2 g3 => by
                      show bef _ (p (rot s m e (sa i))) (p (rot s m e (sa j)))
                      rw [hmx.out i (by omega), hmx.out j (by omega)]; exact SP.out.2.1.1 i j g1 g2 g3) (fun i j g1 g2 g3 => by
                      show bef _ (p (rot s m e (sa i))) (p (rot s m e (sa j)))
                      rw [hmx.out i (by omega), hmx.out j (by omega)]; exact SP.out.2.1.2.1 i j g1 g2 g3) (fun i j g1 g2 g3 g4 => by
                      show p (rot s m e (sa i)) < p (rot s m e (sa j))
                      rw [hmx.out i (by omega), hmx.out j (by omega)]; exact SP.out.2.1.2.2 i j g1 g2 g3 g4))
                  have KX := hid HD.out.2
                  clear c5 c6
                  go_wp2_with fail
                  refine cM.out.mono ?_
                  rintro e' wz ⟨⟨v, rfl⟩, t, pt, st, ht', kt⟩
                  have hfin : Hid (PermIn a b (fun k => rot s m e (sa (t k))) ∧ Srt (fun x y => cf x y < 0) (fun k => p (rot s m e (sa (t k)))) a b ∧ Hd wz g o n cap A (fun k => p (rot s m e (sa (t k)))) ∧ Kp [g] w wz) := hid ⟨(rot_perm (by omega) (by omega) (by omega) (by omega)).comp ((PA.out.mono (Nat.le_refl _) (by omega)).comp (pt.mono (by omega) (Nat.le_refl _))), Srt.join (p := fun k => p (rot s m e k)) PA.out pt SA.out (fun i j g1 g2 g3 => by
                    have h5 := st i j g1 g2 g3
                    have h6 := pt.1 i g1 (by omega)
                    have h7 := pt.1 j (by omega) g3
                    simp only [hmx.out _ h6.1, hmx.out _ h7.1] at h5
                    exact h5) SP.out.2.2, ht', KX.out.trans kt (by simp)⟩
                  clear pt st ht' kt KX
                  go_wp2_with fail
                  go_end0
                  exact ⟨⟨_, rfl⟩, _, hfin.out.1, hfin.out.2.1, hfin.out.2.2.1, hfin.out.2.2.2⟩
                · have f2 : decide ((e : Int) < (b : Int)) = false := by simp; omega
                  have f2n : decide (e < b) = false := by simp; omega
                  have sB : Srt (fun x y => cf x y < 0) (fun k => p (rot s m e k)) mid b := by
                    by_cases c7 : e = mid
                    · rw [← c7]; exact SP.out.2.1.2.1
                    · have c8 : e = b := by omega
                      rw [← c8]; exact SP.out.2.1.1
                  have hfin : Hid (PermIn a b (fun k => rot s m e (sa k)) ∧ Srt (fun x y => cf x y < 0) (fun k => p (rot s m e (sa k))) a b) := hid ⟨(rot_perm (by omega) (by omega) (by omega) (by omega)).comp (PA.out.mono (Nat.le_refl _) (by omega)), Srt.join (p := fun k => p (rot s m e k)) PA.out (PermIn.id mid b) SA.out sB SP.out.2.2⟩
                  clear sB c5
                  go_wp2_with fail
                  go_end0
                  exact ⟨⟨_, rfl⟩, _, hfin.out.1, hfin.out.2, HD.out.1, HD.out.2⟩
              · have f1 : decide ((mid : Int) < (e : Int)) = false := by simp; omega
                have f1n : decide (mid < e) = false := by simp; omega
                have sB : Srt (fun x y => cf x y < 0) (fun k => p (rot s m e k)) mid b := by
                  by_cases c7 : e = mid
                  · rw [← c7]; exact SP.out.2.1.2.1
                  · have c8 : e = b := by omega
                    rw [← c8]; exact SP.out.2.1.1
                have hfin : Hid (PermIn a b (fun k => rot s m e (sa k)) ∧ Srt (fun x y => cf x y < 0) (fun k => p (rot s m e (sa k))) a b) := hid ⟨(rot_perm (by omega) (by omega) (by omega) (by omega)).comp (PA.out.mono (Nat.le_refl _) (by omega)), Srt.join (p := fun k => p (rot s m e k)) PA.out (PermIn.id mid b) SA.out sB SP.out.2.2⟩
                clear sB c5
                go_wp2_with fail
                go_end0
                exact ⟨⟨_, rfl⟩, _, hfin.out.1, hfin.out.2, HD.out.1, HD.out.2⟩
          · have e1 : decide ((a : Int) < (s : Int)) = false := by simp; omega
            have e1n : decide (a < s) = false := by simp; omega
            obtain ⟨sa, hsa⟩ : ∃ sa : Nat → Nat, Hid (sa = fun k => k) := ⟨_, hid rfl⟩
            have PA : Hid (PermIn a mid sa) := hid (by rw [hsa.out]; exact PermIn.id _ _)
            have SA : Hid (Srt (fun x y => cf x y < 0) (fun k => p (rot s m e (sa k))) a mid) := hid (by
              rw [hsa.out]
              by_cases c7 : s = a
              · have := SP.out.1.2.1; rwa [c7] at this ⊢
              · have c8 : s = mid := by omega
                have := SP.out.1.1; rw [c8] at this ⊢; exact this)
            have HD : Hid (Hd wr g o n cap A (fun k => p (rot s m e (sa k))) ∧ Kp [g] w wr) := hid (by rw [hsa.out]; exact HR.out)
            clear c3
            clear HR
            have hmx : Hid ((∀ k, mid ≤ k → p (rot s m e (sa k)) = p (rot s m e k))) := hid (fun k hk => by rw [PA.out.2.1 k (by omega)])
            by_cases c5 : mid < e
            · have f1 : decide ((mid : Int) < (e : Int)) = true := by simp; omega
              have f1n : decide (mid < e) = true := by simp; omega
              by_cases c6 : e < b
              · have f2 : decide ((e : Int) < (b : Int)) = true := by simp; omega
                have f2n : decide (e < b) = true := by simp; omega
                have cM := hid (HIH.out (fun k => p (rot s m e (sa k))) mid e b wr (by omega) HD.out.1 (HC.out.keep _ _ HI.out HD.out.2) (fun k hk => HPN.out _ (by
                  have r1 := (rot_perm (lo := 0) (hi := n) (Nat.zero_le s) (by omega) (by omega) (by omega) : PermIn 0 n (rot s m e))
                  have r2 := PA.out.mono (Nat.zero_le a) (show mid ≤ n by omega)
                  exact (r1.1 _ (Nat.zero_le _) (r2.1 k (Nat.zero_le _) hk).2).2)) c5 c6 (by omega) (fun i j g1 g2 g3 => by
                    show bef _ (p (rot s m e (sa i))) (p (rot s m e (sa j)))
                    rw [hmx.out i (by omega), hmx.out j (by omega)]; exact SP.out.2.1.1 i j g1 g2 g3) (fun i j g1 g2 g3 => by
                    show bef _ (p (rot s m e (sa i))) (p (rot s m e (sa j)))
                    rw [hmx.out i (by omega), hmx.out j (by omega)]; exact SP.out.2.1.2.1 i j g1 g2 g3) (fun i j g1 g2 g3 g4 => by
                    show p (rot s m e (sa i)) < p (rot s m e (sa j))
                    rw [hmx.out i (by omega), hmx.out j (by omega)]; exact SP.out.2.1.2.2 i j g1 g2 g3 g4))
                have KX := hid HD.out.2
                clear c5 c6
                go_wp2_with fail
                refine cM.out.mono ?_
                rintro e' wz ⟨⟨v, rfl⟩, t, pt, st, ht', kt⟩
                have hfin : Hid (PermIn a b (fun k => rot s m e (sa (t k))) ∧ Srt (fun x y => cf x y < 0) (fun k => p (rot s m e (sa (t k)))) a b ∧ Hd wz g o n cap A (fun k => p (rot s m e (sa (t k)))) ∧ Kp [g] w wz) := hid ⟨(rot_perm (by omega) (by omega) (by omega) (by omega)).comp ((PA.out.mono (Nat.le_refl _) (by omega)).comp (pt.mono (by omega) (Nat.le_refl _))), Srt.join (p := fun k => p (rot s m e k)) PA.out pt SA.out (fun i j g1 g2 g3 => by
                  have h5 := st i j g1 g2 g3
                  have h6 := pt.1 i g1 (by omega)
                  have h7 := pt.1 j (by omega) g3
                  simp only [hmx.out _ h6.1, hmx.out _ h7.1] at h5
                  exact h5) SP.out.2.2, ht', KX.out.trans kt (by simp)⟩
                clear pt st ht' kt KX
                go_wp2_with fail
                go_end0
                exact ⟨⟨_, rfl⟩, _, hfin.out.1, hfin.out.2.1, hfin.out.2.2.1, hfin.out.2.2.2⟩
              · have f2 : decide ((e : Int) < (b : Int)) = false := by simp; omega
                have f2n : decide (e < b) = false := by simp; omega
                have sB : Srt (fun x y => cf x y < 0) (fun k => p (rot s m e k)) mid b := by
                  by_cases c7 : e = mid
                  · rw [← c7]; exact SP.out.2.1.2.1
                  · have c8 : e = b := by omega
                    rw [← c8]; exact SP.out.2.1.1
                have hfin : Hid (PermIn a b (fun k => rot s m e (sa k)) ∧ Srt (fun x y => cf x y < 0) (fun k => p (rot s m e (sa k))) a b) := hid ⟨(rot_perm (by omega) (by omega) (by omega) (by omega)).comp (PA.out.mono (Nat.le_refl _) (by omega)), Srt.join (p := fun k => p (rot s m e k)) PA.out (PermIn.id mid b) SA.out sB SP.out.2.2⟩
                clear sB c5
                go_wp2_with fail
                go_end0
                exact ⟨⟨_, rfl⟩, _, hfin.out.1, hfin.out.2, HD.out.1, HD.out.2⟩
            · have f1 : decide ((mid : Int) < (e : Int)) = false := by simp; omega
              have f1n : decide (mid < e) = false := by simp; omega
              have sB : Srt (fun x y => cf x y < 0) (fun k => p (rot s m e k)) mid b := by
                by_cases c7 : e = mid
                · rw [← c7]; exact SP.out.2.1.2.1
                · have c8 : e = b := by omega
                  rw [← c8]; exact SP.out.2.1.1
              have hfin : Hid (PermIn a b (fun k => rot s m e (sa k)) ∧ Srt (fun x y => cf x y < 0) (fun k => p (rot s m e (sa k))) a b) := hid ⟨(rot_perm (by omega) (by omega) (by omega) (by omega)).comp (PA.out.mono (Nat.le_refl _) (by omega)), Srt.join (p := fun k => p (rot s m e k)) PA.out (PermIn.id mid b) SA.out sB SP.out.2.2⟩
              clear sB c5
              go_wp2_with fail
              go_end0
              exact ⟨⟨_, rfl⟩, _, hfin.out.1, hfin.out.2, HD.out.1, HD.out.2⟩
      · have d1 : decide ((s : Int) < (m : Int)) = false := by simp; omega
        have d1n : decide (s < m) = false := by simp; omega
        have hee : s = m := by omega
        have HR : Hid (Hd wr g o n cap A (fun k => p (rot s m e k)) ∧ Kp [g] w wr) := hid (by rw [hee, rot_left]; exact hw.out)
        clear hw c1 hee
        by_cases c3 : a < s
        · have e1 : decide ((a : Int) < (s : Int)) = true := by simp; omega
          have e1n : decide (a < s) = true := by simp; omega
          by_cases c4 : s < mid
          · have e2 : decide ((s : Int) < (mid : Int)) = true := by simp; omega
            have e2n : decide (s < mid) = true := by simp; omega
            have cM1 := hid (HIH.out (fun k => p (rot s m e k)) a s mid wr (by omega) HR.out.1 (HC.out.keep _ _ HI.out HR.out.2) (fun k hk => HPN.out _ (((rot_perm (Nat.zero_le s) (by omega) (by omega) (by omega) : PermIn 0 n (rot s m e))).1 k (Nat.zero_le _) hk).2) c3 c4 (by omega) SP.out.1.1 SP.out.1.2.1 SP.out.1.2.2)
            clear c3 c4
            go_wp2_with fail
            refine cM1.out.mono ?_
            rintro e' wm ⟨⟨v, rfl⟩, sa, pa, sa', ha', ka⟩
            have PA := hid pa
            have SA := hid sa'
            have HD := hid (And.intro ha' (HR.out.2.trans ka (by simp)))
            clear pa sa' ha' ka cM1 HR
            have hmx : Hid ((∀ k, mid ≤ k → p (rot s m e (sa k)) = p (rot s m e k))) := hid (fun k hk => by rw [PA.out.2.1 k (by omega)])
            by_cases c5 : mid < e
            · have f1 : decide ((mid : Int) < (e : Int)) = true := by simp; omega
              have f1n : decide (mid < e) = true := by simp; omega
              by_cases c6 : e < b
              · have f2 : decide ((e : Int) < (b : Int)) = true := by simp; omega
                have f2n : decide (e < b) = true := by simp; omega
                have cM := hid (HIH.out (fun k => p (rot s m e (sa k))) mid e b wm (by omega) HD.out.1 (HC.out.keep _ _ HI.out HD.out.2) (fun k hk => HPN.out _ (by
                  have r1 := (rot_perm (lo := 0) (hi := n) (Nat.zero_le s) (by omega) (by omega) (by omega) : PermIn 0 n (rot s m e))
                  have r2 := PA.out.mono (Nat.zero_le a) (show mid ≤ n by omega)
                  exact (r1.1 _ (Nat.zero_le _) (r2.1 k (Nat.zero_le _) hk).2).2)) c5 c6 (by omega) (fun i j g1 g2 g3 => by
                    show bef _ (p (rot s m e (sa i))) (p (rot s m e (sa j)))
                    rw [hmx.out i (by omega), hmx.out j (by omega)]; exact SP.out.2.1.1 i j g1 g2 g3) (fun i j g1 g2 g3 => by
                    show bef _ (p (rot s m e (sa i))) (p (rot s m e (sa j)))
                    rw [hmx.out i (by omega), hmx.out j (by omega)]; exact SP.out.2.1.2.1 i j g1 g2 g3) (fun i j g1 g2 g3 g4 => by
                    show p (rot s m e (sa i)) < p (rot s m e (sa j))
                    rw [hmx.out i (by omega), hmx.out j (by omega)]; exact SP.out.2.1.2.2 i j g1 g2 g3 g4))
                have KX := hid HD.out.2
                clear c5 c6
                go_wp2_with fail
                refine cM.out.mono ?_
                rintro e' wz ⟨⟨v, rfl⟩, t, pt, st, ht', kt⟩
                have hfin : Hid (PermIn a b (fun k => rot s m e (sa (t k))) ∧ Srt (fun x y => cf x y < 0) (fun k => p (rot s m e (sa (t k)))) a b ∧ Hd wz g o n cap A (fun k => p (rot s m e (sa (t k)))) ∧ Kp [g] w wz) := hid ⟨(rot_perm (by omega) (by omega) (by omega) (by omega)).comp ((PA.out.mono (Nat.le_refl _) (by omega)).comp (pt.mono (by omega) (Nat.le_refl _))), Srt.join (p := fun k => p (rot s m e k)) PA.out pt SA.out (fun i j g1 g2 g3 => by
                  have h5 := st i j g1 g2 g3
                  have h6 := pt.1 i g1 (by omega)
                  have h7 := pt.1 j (by omega) g3
                  simp only [hmx.out _ h6.1, hmx.out _ h7.1] at h5
                  exact h5) SP.out.2.2, ht', KX.out.trans kt (by simp)⟩
                clear pt st ht' kt KX
                go_wp2_with fail
                go_end0
                exact ⟨⟨_, rfl⟩, _, hfin.out.1, hfin.out.2.1, hfin.out.2.2.1, hfin.out.2.2.2⟩
              · have f2 : decide ((e : Int) < (b : Int)) = false := by simp; omega
                have f2n : decide (e < b) = false := by simp; omega
                have sB : Srt (fun x y => cf x y < 0) (fun k => p (rot s m e k)) mid b := by
                  by_cases c7 : e = mid
                  · rw [← c7]; exact SP.out.2.1.2.1
                  · have c8 : e = b := by omega
                    rw [← c8]; exact SP.out.2.1.1
                have hfin : Hid (PermIn a b (fun k => rot s m e (sa k)) ∧ Srt (fun x y => cf x y < 0) (fun k => p (rot s m e (sa k))) a b) := hid ⟨(rot_perm (by omega) (by omega) (by omega) (by omega)).comp (PA.out.mono (Nat.le_refl _) (by omega)), Srt.join (p := fun k => p (rot s m e k)) PA.out (PermIn.id mid b) SA.out sB SP.out.2.2⟩
                clear sB c5
                go_wp2_with fail
                go_end0
                exact ⟨⟨_, rfl⟩, _, hfin.out.1, hfin.out.2, HD.out.1, HD.out.2⟩
            · have f1 : decide ((mid : Int) < (e : Int)) = false := by simp; omega
              have f1n : decide (mid < e) = false := by simp; omega
              have sB : Srt (fun x y => cf x y < 0) (fun k => p (rot s m e k)) mid b := by
                by_cases c7 : e = mid
                · rw [← c7]; exact SP.out.2.1.2.1
                · have c8 : e = b := by omega
                  rw [← c8]; exact SP.out.2.1.1
              have hfin : Hid (PermIn a b (fun k => rot s m e (sa k)) ∧ Srt (fun x y => cf x y < 0) (fun k => p (rot s m e (sa k))) a b) := hid ⟨(rot_perm (by omega) (by omega) (by omega) (by omega)).comp (PA.out.mono (Nat.le_refl _) (by omega)), Srt.join (p := fun k => p (rot s m e k)) PA.out (PermIn.id mid b) SA.out sB SP.out.2.2⟩
              clear sB c5
              go_wp2_with fail
              go_end0
              exact ⟨⟨_, rfl⟩, _, hfin.out.1, hfin.out.2, HD.out.1, HD.out.2⟩
          · have e2 : decide ((s : Int) < (mid : Int)) = false := by simp; omega
            have e2n : decide (s < mid) = false := by simp; omega
            obtain ⟨sa, hsa⟩ : ∃ sa : Nat → Nat, Hid (sa = fun k => k) := ⟨_, hid rfl⟩
            have PA : Hid (PermIn a mid sa) := hid (by rw [hsa.out]; exact PermIn.id _ _)
            have SA : Hid (Srt (fun x y => cf x y < 0) (fun k => p (rot s m e (sa k))) a mid) := hid (by
              rw [hsa.out]
              by_cases c7 : s = a
              · have := SP.out.1.2.1; rwa [c7] at this ⊢
              · have c8 : s = mid := by omega
                have := SP.out.1.1; rw [c8] at this ⊢; exact this)
            have HD : Hid (Hd wr g o n cap A (fun k => p (rot s m e (sa k))) ∧ Kp [g] w wr) := hid (by rw [hsa.out]; exact HR.out)
            clear c3
            clear c4 HR
            have hmx : Hid ((∀ k, mid ≤ k → p (rot s m e (sa k)) = p (rot s m e k))) := hid (fun k hk => by rw [PA.out.2.1 k (by omega)])
            by_cases c5 : mid < e
            · have f1 : decide ((mid : Int) < (e : Int)) = true := by simp; omega
              have f1n : decide (mid < e) = true := by simp; omega
              by_cases c6 : e < b
              · have f2 : decide ((e : Int) < (b : Int)) = true := by simp; omega
                have f2n : decide (e < b) = true := by simp; omega
                have cM := hid (HIH.out (fun k => p (rot s m e (sa k))) mid e b wr (by omega) HD.out.1 (HC.out.keep _ _ HI.out HD.out.2) (fun k hk => HPN.out _ (by
                  have r1 := (rot_perm (lo := 0) (hi := n) (Nat.zero_le s) (by omega) (by omega) (by omega) : PermIn 0 n (rot s m e))
                  have r2 := PA.out.mono (Nat.zero_le a) (show mid ≤ n by omega)
                  exact (r1.1 _ (Nat.zero_le _) (r2.1 k (Nat.zero_le _) hk).2).2)) c5 c6 (by omega) (fun i j g1 g2 g3 => by
                    show bef _ (p (rot s m e (sa i))) (p (rot s m e (sa j)))
                    rw [hmx.out i (by omega), hmx.out j (by omega)]; exact SP.out.2.1.1 i j g1 g2 g3) (fun i j g1 g2 g3 => by
                    show bef _ (p (rot s m e (sa i))) (p (rot s m e (sa j)))
                    rw [hmx.out i (by omega), hmx.out j (by omega)]; exact SP.out.2.1.2.1 i j g1 g2 g3) (fun i j g1 g2 g3 g4 => by
                    show p (rot s m e (sa i)) < p (rot s m e (sa j))
                    rw [hmx.out i (by omega), hmx.out j (by omega)]; exact SP.out.2.1.2.2 i j g1 g2 g3 g4))
                have KX := hid HD.out.2
                clear c5 c6
                go_wp2_with fail
                refine cM.out.mono ?_
                rintro e' wz ⟨⟨v, rfl⟩, t, pt, st, ht', kt⟩
                have hfin : Hid (PermIn a b (fun k => rot s m e (sa (t k))) ∧ Srt (fun x y => cf x y < 0) (fun k => p (rot s m e (sa (t k)))) a b ∧ Hd wz g o n cap A (fun k => p (rot s m e (sa (t k)))) ∧ Kp [g] w wz) := hid ⟨(rot_perm (by omega) (by omega) (by omega) (by omega)).comp ((PA.out.mono (Nat.le_refl _) (by omega)).comp (pt.mono (by omega) (Nat.le_refl _))), Srt.join (p := fun k => p (rot s m e k)) PA.out pt SA.out (fun i j g1 g2 g3 => by
                  have h5 := st i j g1 g2 g3
                  have h6 := pt.1 i g1 (by omega)
                  have h7 := pt.1 j (by omega) g3
                  simp only [hmx.out _ h6.1, hmx.out _ h7.1] at h5
                  exact h5) SP.out.2.2, ht', KX.out.trans kt (by simp)⟩
                clear pt st ht' kt KX
                go_wp2_with fail
                go_end0
                exact ⟨⟨_, rfl⟩, _, hfin.out.1, hfin.out.2.1, hfin.out.2.2.1, hfin.out.2.2.2⟩
              · have f2 : decide ((e : Int) < (b : Int)) = false := by simp; omega
                have f2n : decide (e < b) = false := by simp; omega
                have sB : Srt (fun x y => cf x y < 0) (fun k => p (rot s m e k)) mid b := by
                  by_cases c7 : e = mid
                  · rw [← c7]; exact SP.out.2.1.2.1
                  · have c8 : e = b := by omega
                    rw [← c8]; exact SP.out.2.1.1
                have hfin : Hid (PermIn a b (fun k => rot s m e (sa k)) ∧ Srt (fun x y => cf x y < 0) (fun k => p (rot s m e (sa k))) a b) := hid ⟨(rot_perm (by omega) (by omega) (by omega) (by omega)).comp (PA.out.mono (Nat.le_refl _) (by omega)), Srt.join (p := fun k => p (rot s m e k)) PA.out (PermIn.id mid b) SA.out sB SP.out.2.2⟩
                clear sB c5
                go_wp2_with fail
                go_end0
                exact ⟨⟨_, rfl⟩, _, hfin.out.1, hfin.out.2, HD.out.1, HD.out.2⟩
            · have f1 : decide ((mid : Int) < (e : Int)) = false := by simp; omega
              have f1n : decide (mid < e) = false := by simp; omega
              have sB : Srt (fun x y => cf x y < 0) (fun k => p (rot s m e k)) mid b := by
                by_cases c7 : e = mid
                · rw [← c7]; exact SP.out.2.1.2.1
                · have c8 : e = b := by omega
                  rw [← c8]; exact SP.out.2.1.1
              have hfin : Hid (PermIn a b (fun k => rot s m e (sa k)) ∧ Srt (fun x y => cf x y < 0) (fun k => p (rot s m e (sa k))) a b) := hid ⟨(rot_perm (by omega) (by omega) (by omega) (by omega)).comp (PA.out.mono (Nat.le_refl _) (by omega)), Srt.join (p := fun k => p (rot s m e k)) PA.out (PermIn.id mid b) SA.out sB SP.out.2.2⟩
              clear sB c5
              go_wp2_with fail
              go_end0
              exact ⟨⟨_, rfl⟩, _, hfin.out.1, hfin.out.2, HD.out.1, HD.out.2⟩
        · have e1 : decide ((a : Int) < (s : Int)) = false := by simp; omega
          have e1n : decide (a < s) = false := by simp; omega
          obtain ⟨sa, hsa⟩ : ∃ sa : Nat → Nat, Hid (sa = fun k => k) := ⟨_, hid rfl⟩
          have PA : Hid (PermIn a mid sa) := hid (by rw [hsa.out]; exact PermIn.id _ _)
          have SA : Hid (Srt (fun x y => cf x y < 0) (fun k => p (rot s m e (sa k))) a mid) := hid (by
            rw [hsa.out]
            by_cases c7 : s = a
            · have := SP.out.1.2.1; rwa [c7] at this ⊢
            · have c8 : s = mid := by omega
              have := SP.out.1.1; rw [c8] at this ⊢; exact this)
          have HD : Hid (Hd wr g o n cap A (fun k => p (rot s m e (sa k))) ∧ Kp [g] w wr) := hid (by rw [hsa.out]; exact HR.out)
          clear c3
          clear HR
          have hmx : Hid ((∀ k, mid ≤ k → p (rot s m e (sa k)) = p (rot s m e k))) := hid (fun k hk => by rw [PA.out.2.1 k (by omega)])
          by_cases c5 : mid < e
          · have f1 : decide ((mid : Int) < (e : Int)) = true := by simp; omega
            have f1n : decide (mid < e) = true := by simp; omega
            by_cases c6 : e < b
            · have f2 : decide ((e : Int) < (b : Int)) = true := by simp; omega
              have f2n : decide (e < b) = true := by simp; omega
              have cM := hid (HIH.out (fun k => p (rot s m e (sa k))) mid e b wr (by omega) HD.out.1 (HC.out.keep _ _ HI.out HD.out.2) (fun k hk => HPN.out _ (by
                have r1 := (rot_perm (lo := 0) (hi := n) (Nat.zero_le s) (by omega) (by omega) (by omega) : PermIn 0 n (rot s m e))
                have r2 := PA.out.mono (Nat.zero_le a) (show mid ≤ n by omega)
                exact (r1.1 _ (Nat.zero_le _) (r2.1 k (Nat.zero_le _) hk).2).2)) c5 c6 (by omega) (fun i j g1 g2 g3 => by
                  show bef _ (p (rot s m e (sa i))) (p (rot s m e (sa j)))
                  rw [hmx.out i (by omega), hmx.out j (by omega)]; exact SP.out.2.1.1 i j g1 g2 g3) (fun i j g1 g2 g3 => by
                  show bef _ (p (rot s m e (sa i))) (p (rot s m e (sa j)))
                  rw [hmx.out i (by omega), hmx.out j (by omega)]; exact SP.out.2.1.2.1 i j g1 g2 g3) (fun i j g1 g2 g3 g4 => by
                  show p (rot s m e (sa i)) < p (rot s m e (sa j))
                  rw [hmx.out i (by omega), hmx.out j (by omega)]; exact SP.out.2.1.2.2 i j g1 g2 g3 g4))
              have KX := hid HD.out.2
              clear c5 c6
              go_wp2_with fail
              refine cM.out.mono ?_
              rintro e' wz ⟨⟨v, rfl⟩, t, pt, st, ht', kt⟩
              have hfin : Hid (PermIn a b (fun k => rot s m e (sa (t k))) ∧ Srt (fun x y => cf x y < 0) (fun k => p (rot s m e (sa (t k)))) a b ∧ Hd wz g o n cap A (fun k => p (rot s m e (sa (t k)))) ∧ Kp [g] w wz) := hid ⟨(rot_perm (by omega) (by omega) (by omega) (by omega)).comp ((PA.out.mono (Nat.le_refl _) (by omega)).comp (pt.mono (by omega) (Nat.le_refl _))), Srt.join (p := fun k => p (rot s m e k)) PA.out pt SA.out (fun i j g1 g2 g3 => by
                have h5 := st i j g1 g2 g3
                have h6 := pt.1 i g1 (by omega)
                have h7 := pt.1 j (by omega) g3
                simp only [hmx.out _ h6.1, hmx.out _ h7.1] at h5
                exact h5) SP.out.2.2, ht', KX.out.trans kt (by simp)⟩
              clear pt st ht' kt KX
              go_wp2_with fail
              go_end0
              exact ⟨⟨_, rfl⟩, _, hfin.out.1, hfin.out.2.1, hfin.out.2.2.1, hfin.out.2.2.2⟩
            · have f2 : decide ((e : Int) < (b : Int)) = false := by simp; omega
              have f2n : decide (e < b) = false := by simp; omega
              have sB : Srt (fun x y => cf x y < 0) (fun k => p (rot s m e k)) mid b := by
                by_cases c7 : e = mid
                · rw [← c7]; exact SP.out.2.1.2.1
                · have c8 : e = b := by omega
                  rw [← c8]; exact SP.out.2.1.1
              have hfin : Hid (PermIn a b (fun k => rot s m e (sa k)) ∧ Srt (fun x y => cf x y < 0) (fun k => p (rot s m e (sa k))) a b) := hid ⟨(rot_perm (by omega) (by omega) (by omega) (by omega)).comp (PA.out.mono (Nat.le_refl _) (by omega)), Srt.join (p := fun k => p (rot s m e k)) PA.out (PermIn.id mid b) SA.out sB SP.out.2.2⟩
              clear sB c5
              go_wp2_with fail
              go_end0
              exact ⟨⟨_, rfl⟩, _, hfin.out.1, hfin.out.2, HD.out.1, HD.out.2⟩
          · have f1 : decide ((mid : Int) < (e : Int)) = false := by simp; omega
            have f1n : decide (mid < e) = false := by simp; omega
            have sB : Srt (fun x y => cf x y < 0) (fun k => p (rot s m e k)) mid b := by
              by_cases c7 : e = mid
              · rw [← c7]; exact SP.out.2.1.2.1
              · have c8 : e = b := by omega
                rw [← c8]; exact SP.out.2.1.1
            have hfin : Hid (PermIn a b (fun k => rot s m e (sa k)) ∧ Srt (fun x y => cf x y < 0) (fun k => p (rot s m e (sa k))) a b) := hid ⟨(rot_perm (by omega) (by omega) (by omega) (by omega)).comp (PA.out.mono (Nat.le_refl _) (by omega)), Srt.join (p := fun k => p (rot s m e k)) PA.out (PermIn.id mid b) SA.out sB SP.out.2.2⟩
            clear sB c5
            go_wp2_with fail
            go_end0
            exact ⟨⟨_, rfl⟩, _, hfin.out.1, hfin.out.2, HD.out.1, HD.out.2⟩
end Go.Proofs.Ytohkjikhlakglaa
end

section
namespace Go.Proofs.Ytohkjikhlakglaa
open Go.RowKit Go.Hay
set_option linter.unusedVariables false
set_option linter.unusedSimpArgs false

theorem cSym (g o n cap : Nat) (A : Nat → Vs) (cv : Value) (cf : Nat → Nat → Int) (Inv : World → Prop) (hC : CmpOk g n A cv cf Inv) (hn : n ≤ 4000000000000) (hcap : n ≤ cap) : ∀ (d : Nat) (p : Nat → Nat) (a m b : Nat) (w : World), b - a ≤ d → Hd w g o n cap A p → Inv w → (∀ k, k < n → p k < n) → a < m → m < b → b ≤ n → Srt (fun x y => cf x y < 0) p a m → Srt (fun x y => cf x y < 0) p m b → Low p a m b → Calls Try.prog 67 #[.slice (some ⟨g, o, none⟩) n cap, .int .i64 (a : Int), .int .i64 (m : Int), .int .i64 (b : Int), .func (.func 38) #[] #[cv]] w fun e w' => (∃ v, e = .returned v) ∧ ∃ s, PermIn a b s ∧ Srt (fun x y => cf x y < 0) (fun k => p (s k)) a b ∧ Hd w' g o n cap A (fun k => p (s k)) ∧ Kp [g] w w'
  | 0, p, a, m, b, w, hd, h, hI, hpn, h1, h2, h3, hA, hB, hLo => by omega
  | d + 1, p, a, m, b, w, hd, h, hI, hpn, h1, h2, h3, hA, hB, hLo => by
    by_cases c1 : m ≤ a + 1
    · exact cSymA g o n cap A cv cf Inv hC p a m b w h hI hpn h1 h2 h3 hA hB hLo hn hcap c1
    by_cases c2 : b ≤ m + 1
    · exact cSymB g o n cap A cv cf Inv hC p a m b w h hI hpn h1 h2 h3 hA hB hLo hn hcap (by omega) c2
    have IH := fun (p' : Nat → Nat) (a' m' b' : Nat) (w' : World) (hlt : b' - a' < b - a) h' hI' hpn' h1' h2' h3' hA' hB' hLo' => cSym g o n cap A cv cf Inv hC hn hcap d p' a' m' b' w' (by omega) h' hI' hpn' h1' h2' h3' hA' hB' hLo'
    by_cases c3 : a + b < 2 * m
    · exact cSymC1 g o n cap A cv cf Inv hC p a m b w h hI hpn h1 h2 h3 hA hB hLo hn hcap (by omega) (by omega) c3 IH
    · exact cSymC2 g o n cap A cv cf Inv hC p a m b w h hI hpn h1 h2 h3 hA hB hLo hn hcap (by omega) (by omega) (by omega) IH
end Go.Proofs.Ytohkjikhlakglaa
end

section
namespace Go.Proofs.Ytohkjikhlakglaa
open Go.RowKit Go.Hay
set_option linter.unusedVariables false
set_option linter.unusedSimpArgs false

/-- A run: in order, and made of its own places. -/
def Sg (lt : Nat → Nat → Prop) (s : Nat → Nat) (x y : Nat) : Prop := Srt lt s x y ∧ ∀ k, x ≤ k → k < y → x ≤ s k ∧ s k < y
theorem Sg.congr {lt : Nat → Nat → Prop} {s t : Nat → Nat} {x y : Nat} (h : Sg lt s x y) (ht : ∀ k, x ≤ k → k < y → t k = k) : Sg lt (fun k => s (t k)) x y :=
  ⟨fun i j g1 g2 g3 => by
    show bef lt (s (t i)) (s (t j))
    rw [ht i g1 (by omega), ht j (by omega) g3]
    exact h.1 i j g1 g2 g3, fun k g1 g2 => by
    show x ≤ s (t k) ∧ s (t k) < y
    rw [ht k g1 g2]
    exact h.2 k g1 g2⟩
/-- Two runs that were merged. -/
theorem Sg.merged {lt : Nat → Nat → Prop} {s t : Nat → Nat} {a m b : Nat} (h1 : Sg lt s a m) (h2 : Sg lt s m b) (hab : a ≤ m) (hmb : m ≤ b) (ht : PermIn a b t) (hs : Srt lt (fun k => s (t k)) a b) : Sg lt (fun k => s (t k)) a b :=
  ⟨hs, fun k g1 g2 => by
    show a ≤ s (t k) ∧ s (t k) < b
    have h3 := ht.1 k g1 g2
    by_cases c : t k < m
    · have := h1.2 _ h3.1 c
      omega
    · have := h2.2 (t k) (by omega) h3.2
      omega⟩
theorem Sg.low {lt : Nat → Nat → Prop} {s : Nat → Nat} {a m b : Nat} (h1 : Sg lt s a m) (h2 : Sg lt s m b) : Low s a m b := fun i j g1 g2 g3 g4 => by
  have := h1.2 i g1 g2
  have := h2.2 j g3 g4
  omega
/-- Whole runs, up to x. -/
inductive Ln (lt : Nat → Nat → Prop) (s : Nat → Nat) (bs : Nat) : Nat → Prop
  | nil : Ln lt s bs 0
  | snoc {x : Nat} : Ln lt s bs x → Sg lt s x (x + bs) → Ln lt s bs (x + bs)
/-- Runs from x on; the last one may be short. -/
inductive Rn (lt : Nat → Nat → Prop) (s : Nat → Nat) (bs n : Nat) : Nat → Prop
  | done {x : Nat} : n ≤ x → Rn lt s bs n x
  | step {x : Nat} : x < n → Sg lt s x (min (x + bs) n) → Rn lt s bs n (x + bs) → Rn lt s bs n x
theorem Ln.congr {lt : Nat → Nat → Prop} {s t : Nat → Nat} {bs x : Nat} (h : Ln lt s bs x) : (∀ k, k < x → t k = k) → Ln lt (fun k => s (t k)) bs x := by
  induction h with
  | nil => intro _; exact .nil
  | snoc h1 h2 ih => intro ht; exact .snoc (ih fun k hk => ht k (by omega)) (h2.congr fun k _ g => ht k g)
theorem Rn.congr {lt : Nat → Nat → Prop} {s t : Nat → Nat} {bs n x : Nat} (h : Rn lt s bs n x) : (∀ k, x ≤ k → k < n → t k = k) → Rn lt (fun k => s (t k)) bs n x := by
  induction h with
  | done h => intro _; exact .done h
  | step h1 h2 h3 ih => intro ht; exact .step h1 (h2.congr fun k g1 g2 => ht k g1 (by omega)) (ih fun k g1 g2 => ht k (by omega) g2)
theorem Ln.all {lt : Nat → Nat → Prop} {s : Nat → Nat} {bs n x : Nat} (h : Ln lt s bs x) (hb : 0 < bs) : x ≤ n → Rn lt s bs n x → Rn lt s bs n 0 := by
  induction h with
  | nil => intro _ h; exact h
  | snoc h1 h2 ih => intro hx hr; exact ih (by omega) (.step (by omega) (by rw [Nat.min_eq_left hx]; exact h2) hr)
theorem Rn.two {lt : Nat → Nat → Prop} {s : Nat → Nat} {bs n a : Nat} (h : Rn lt s bs n a) (hb : 0 < bs) (hab : a + bs < n) : Sg lt s a (a + bs) ∧ Sg lt s (a + bs) (min (a + bs + bs) n) ∧ Rn lt s bs n (a + bs + bs) := by
  cases h with
  | done h => omega
  | step h1 h2 h3 =>
    rw [Nat.min_eq_left (by omega)] at h2
    cases h3 with
    | done h => omega
    | step h4 h5 h6 => exact ⟨h2, h5, h6⟩
theorem Rn.last {lt : Nat → Nat → Prop} {s : Nat → Nat} {bs n a : Nat} (h : Rn lt s bs n a) (han : a < n) (hab : n ≤ a + bs) : Sg lt s a n := by
  cases h with
  | done h => omega
  | step h1 h2 h3 => rwa [Nat.min_eq_right hab] at h2
theorem Sg.fresh {lt : Nat → Nat → Prop} {s t : Nat → Nat} {a b : Nat} (hs : PermIn 0 a s) (ht : PermIn a b t) (h : Srt lt (fun k => s (t k)) a b) : Sg lt (fun k => s (t k)) a b :=
  ⟨h, fun k g1 g2 => by
    show a ≤ s (t k) ∧ s (t k) < b
    have h3 := ht.1 k g1 g2
    rw [hs.2.1 (t k) (by omega)]
    exact h3⟩
set_option maxHeartbeats 64000000 in
set_option maxRecDepth 100000 in
theorem cStable (g o n cap : Nat) (A : Nat → Vs) (cv : Value) (cf : Nat → Nat → Int) (Inv : World → Prop) (hC : CmpOk g n A cv cf Inv) (hn : n ≤ 4000000000000) (hcap : n ≤ cap) (w : World) (h : Hd w g o n cap A (fun k => k)) (hI : Inv w) : Calls Try.prog 53 #[.slice (some ⟨g, o, none⟩) n cap, .int .i64 (n : Int), .func (.func 38) #[] #[cv]] w fun e w' => (∃ v, e = .returned v) ∧ ∃ s, PermIn 0 n s ∧ Srt (fun x y => cf x y < 0) s 0 n ∧ Hd w' g o n cap A s ∧ Kp [g] w w' := by
  have HC := hid hC
  have HI := hid hI
  have HH := hid h
  clear hC hI h
  go_enter Try.func53, Try.ntmps53
  go_wp2_with fail
  go_loopw [7, 8] (fun av bv wr => ∃ (a b : Nat) (s : Nat → Nat), (a ≤ n ∧ a + 20 ≤ b ∧ b ≤ a + 20) ∧ av = .int .i64 (a : Int) ∧ bv = .int .i64 (b : Int) ∧ Hid (PermIn 0 a s ∧ Ln (fun x y => cf x y < 0) s 20 a) ∧ Hid (Hd wr g o n cap A s ∧ Kp [g] w wr)) (fun av _ _ => n + 20 - (intOf av).toNat)
  case atStart => exact ⟨0, 20, fun k => k, by omega, rfl, rfl, hid ⟨PermIn.id _ _, .nil⟩, hid ⟨HH.out, Kp.refl _ _⟩⟩
  case round =>
    obtain ⟨a, b, s, ⟨ba, bb1, bb2⟩, rfl, rfl, hs, hw⟩ := hrel
    by_cases hbn : b ≤ n
    · have d0 : decide ((b : Int) ≤ (n : Int)) = true := by simp; omega
      have d1 : (b : Int) ≤ (n : Int) := by omega
      have cI := hid (cIns g o n cap A cv cf Inv HC.out s a b wr hw.out.1 (HC.out.keep _ _ HI.out hw.out.2) (fun k g1 g2 => hs.out.1.2.1 k (by omega)) (by omega) hbn hn hcap)
      obtain ⟨b', hb2'⟩ : ∃ x : Nat, x = b + 20 := ⟨_, rfl⟩
      have ebx : (b : Int) + 20 = (b' : Int) := by omega
      have ebx1 : (-9223372036854775808 : Int) ≤ (b : Int) + 20 := by omega
      have ebx2 : (b : Int) + 20 ≤ 9223372036854775807 := by omega
      have HW := hid hw.out.2
      have hb3 : a ≤ b ∧ b + 20 ≤ b' ∧ b' ≤ b + 20 := by omega
      clear hb2' hw
      go_wp2_with fail
      refine cI.out.mono ?_
      rintro e w1 ⟨⟨v, rfl⟩, t, pt, st, hd, kd⟩
      have hs2 : Hid (PermIn 0 b (fun k => s (t k)) ∧ Ln (fun x y => cf x y < 0) (fun k => s (t k)) 20 b) := hid ⟨(hs.out.1.mono (Nat.le_refl _) (by omega)).comp (pt.mono (Nat.zero_le _) (Nat.le_refl _)), by
        have e : b = a + 20 := by omega
        subst e
        exact .snoc (hs.out.2.congr fun k hk => pt.2.1 k (by omega)) (Sg.fresh hs.out.1 pt st)⟩
      have hw2 := hid (And.intro hd (HW.out.trans kd (by simp)))
      clear pt st hd kd hs HW cI
      go_wp2_with fail
      exact ⟨⟨b, b', fun k => s (t k), by omega, rfl, rfl, hs2, hw2⟩, by simp [intOf]; omega⟩
    · have d0 : decide ((b : Int) ≤ (n : Int)) = false := by simp; omega
      have d1 : ¬ ((b : Int) ≤ (n : Int)) := by omega
      have cI := hid (cIns g o n cap A cv cf Inv HC.out s a n wr hw.out.1 (HC.out.keep _ _ HI.out hw.out.2) (fun k g1 g2 => hs.out.1.2.1 k (by omega)) ba (Nat.le_refl _) hn hcap)
      have HW := hid hw.out.2
      clear hw
      go_wp2_with fail
      refine cI.out.mono ?_
      rintro e w1 ⟨⟨v, rfl⟩, t, pt, st, hd, kd⟩
      have hs2 : Hid (PermIn 0 n (fun k => s (t k)) ∧ Rn (fun x y => cf x y < 0) (fun k => s (t k)) 20 n 0) := hid ⟨(hs.out.1.mono (Nat.le_refl _) ba).comp (pt.mono (Nat.zero_le _) (Nat.le_refl _)), (hs.out.2.congr fun k hk => pt.2.1 k (by omega)).all (by omega) ba (by
        by_cases c : a < n
        · exact .step c (by rw [Nat.min_eq_right (by omega)]; exact Sg.fresh hs.out.1 pt st) (.done (by omega))
        · exact .done (by omega))⟩
      have hw2 := hid (And.intro hd (HW.out.trans kd (by simp)))
      clear pt st hd kd hs HW cI
      go_wp2_with fail
      go_loopw [6, 7, 8, 9] (fun zv _ _ _ wn => ∃ (bs : Nat) (s : Nat → Nat), (20 ≤ bs ∧ bs ≤ n + n + 20) ∧ zv = .int .i64 (bs : Int) ∧ Hid (PermIn 0 n s ∧ Rn (fun x y => cf x y < 0) s bs n 0) ∧ Hid (Hd wn g o n cap A s ∧ Kp [g] w wn)) (fun zv _ _ _ _ => n + n + 20 - (intOf zv).toNat)
      case atStart => exact ⟨20, _, by omega, rfl, hs2, hw2⟩
      case round =>
        obtain ⟨bs, s, ⟨bz1, bz2⟩, rfl, hs, hw⟩ := hrel
        clear hs2 hw2
        by_cases hzn : bs < n
        · have i0 : (bs : Int) < (n : Int) := by omega
          obtain ⟨B, hB⟩ : ∃ x : Nat, x = 2 * bs := ⟨_, rfl⟩
          have eB : (2 : Int) * (bs : Int) = (B : Int) := by omega
          have eB1 : (-9223372036854775808 : Int) ≤ (2 : Int) * (bs : Int) := by omega
          have eB2 : (2 : Int) * (bs : Int) ≤ 9223372036854775807 := by omega
          obtain ⟨B2, hB2⟩ : ∃ x : Nat, x = 2 * bs := ⟨_, rfl⟩
          have eB2 : (bs : Int) * 2 = (B2 : Int) := by omega
          have eB21 : (-9223372036854775808 : Int) ≤ (bs : Int) * 2 := by omega
          have eB22 : (bs : Int) * 2 ≤ 9223372036854775807 := by omega
          have hBb : bs + bs ≤ B ∧ B ≤ bs + bs ∧ B2 ≤ bs + bs ∧ bs + bs ≤ B2 := by omega
          clear hB hB2
          go_wp2_with fail
          go_loopw [7, 8] (fun av bv wn => ∃ (a b : Nat) (s : Nat → Nat), (a ≤ n ∧ a + B ≤ b ∧ b ≤ a + B) ∧ av = .int .i64 (a : Int) ∧ bv = .int .i64 (b : Int) ∧ Hid (PermIn 0 n s ∧ Ln (fun x y => cf x y < 0) s B a ∧ Rn (fun x y => cf x y < 0) s bs n a) ∧ Hid (Hd wn g o n cap A s ∧ Kp [g] w wn)) (fun av _ _ => n + 1 - (intOf av).toNat)
          case atStart => exact ⟨0, B, s, by omega, rfl, rfl, hid ⟨hs.out.1, .nil, hs.out.2⟩, hw⟩
          case round =>
            obtain ⟨a, b, s, ⟨ba, bb1, bb2⟩, rfl, rfl, hs, hw⟩ := hrel
            obtain ⟨m, hm⟩ : ∃ x : Nat, x = a + bs := ⟨_, rfl⟩
            have em : (a : Int) + (bs : Int) = (m : Int) := by omega
            have em1 : (-9223372036854775808 : Int) ≤ (a : Int) + (bs : Int) := by omega
            have em2 : (a : Int) + (bs : Int) ≤ 9223372036854775807 := by omega
            have hm2 : m ≤ a + bs ∧ a + bs ≤ m := by omega
            clear hm
            by_cases hbn : b ≤ n
            · have d0 : decide ((b : Int) ≤ (n : Int)) = true := by simp; omega
              have d1 : (b : Int) ≤ (n : Int) := by omega
              obtain ⟨b2, hb2⟩ : ∃ x : Nat, x = b + B := ⟨_, rfl⟩
              have eb2 : (b : Int) + (B : Int) = (b2 : Int) := by omega
              have eb21 : (-9223372036854775808 : Int) ≤ (b : Int) + (B : Int) := by omega
              have eb22 : (b : Int) + (B : Int) ≤ 9223372036854775807 := by omega
              have hb3 : b2 ≤ b + B ∧ b + B ≤ b2 := by omega
              have hem : m = a + bs := by omega
              have heb : b = a + bs + bs := by omega
              obtain ⟨r1, r2, r3⟩ := hs.out.2.2.two (by omega) (by omega)
              rw [Nat.min_eq_left (by omega)] at r2
              rw [← hem] at r1 r2 r3
              have heb2 : b = m + bs := by omega
              rw [← heb2] at r2 r3
              have cM := hid (cSym g o n cap A cv cf Inv HC.out hn hcap (b - a) s a m b wr (Nat.le_refl _) hw.out.1 (HC.out.keep _ _ HI.out hw.out.2) (fun k hk => (hs.out.1.1 k (Nat.zero_le _) hk).2) (by omega) (by omega) hbn r1.1 r2.1 (r1.low r2))
              have HW := hid hw.out.2
              have RR := hid (And.intro r1 (And.intro r2 r3))
              clear hb2 hw hem heb heb2 r1 r2 r3
              go_wp2_with fail
              refine cM.out.mono ?_
              rintro e w1 ⟨⟨v, rfl⟩, t, pt, st, hd, kd⟩
              have hs2 : Hid (PermIn 0 n (fun k => s (t k)) ∧ Ln (fun x y => cf x y < 0) (fun k => s (t k)) B b ∧ Rn (fun x y => cf x y < 0) (fun k => s (t k)) bs n b) := hid ⟨hs.out.1.comp (pt.mono (Nat.zero_le _) hbn), by
                have hSg := Sg.merged RR.out.1 RR.out.2.1 (by omega) (by omega) pt st
                have e : b = a + B := by omega
                rw [e] at hSg ⊢
                exact .snoc (hs.out.2.1.congr fun k hk => pt.2.1 k (by omega)) hSg, RR.out.2.2.congr fun k g1 g2 => pt.2.1 k (by omega)⟩
              have hw2 := hid (And.intro hd (HW.out.trans kd (by simp)))
              clear pt st hd kd hs HW cM RR
              go_wp2_with fail
              exact ⟨⟨b, b2, fun k => s (t k), by omega, rfl, rfl, hs2, hw2⟩, by simp [intOf]; omega⟩
            · have d0 : decide ((b : Int) ≤ (n : Int)) = false := by simp; omega
              have d1 : ¬ ((b : Int) ≤ (n : Int)) := by omega
              by_cases hmn : m < n
              · have i5 : (m : Int) < (n : Int) := by omega
                have hem : m = a + bs := by omega
                obtain ⟨r1, r2, r3⟩ := hs.out.2.2.two (by omega) (by omega)
                rw [Nat.min_eq_right (by omega)] at r2
                rw [← hem] at r1 r2
                have cM := hid (cSym g o n cap A cv cf Inv HC.out hn hcap (n - a) s a m n wr (Nat.le_refl _) hw.out.1 (HC.out.keep _ _ HI.out hw.out.2) (fun k hk => (hs.out.1.1 k (Nat.zero_le _) hk).2) (by omega) hmn (Nat.le_refl _) r1.1 r2.1 (r1.low r2))
                have HW := hid hw.out.2
                have RR := hid (And.intro r1 r2)
                clear hw hem r1 r2 r3
                go_wp2_with fail
                refine cM.out.mono ?_
                rintro e w1 ⟨⟨v, rfl⟩, t, pt, st, hd, kd⟩
                have hs2 : Hid (PermIn 0 n (fun k => s (t k)) ∧ Rn (fun x y => cf x y < 0) (fun k => s (t k)) B2 n 0) := hid ⟨hs.out.1.comp (pt.mono (Nat.zero_le _) (Nat.le_refl _)), by
                  have hSg := Sg.merged RR.out.1 RR.out.2 (by omega) (by omega) pt st
                  have e : B2 = B := by omega
                  rw [e]
                  exact (hs.out.2.1.congr fun k hk => pt.2.1 k (by omega)).all (by omega) ba (.step (by omega) (by rw [Nat.min_eq_right (by omega)]; exact hSg) (.done (by omega)))⟩
                have hw2 := hid (And.intro hd (HW.out.trans kd (by simp)))
                clear pt st hd kd hs HW cM RR
                go_wp2_with fail
                exact ⟨⟨B2, fun k => s (t k), by omega, rfl, hs2, hw2⟩, by simp [intOf]; omega⟩
              · have i5 : ¬ ((m : Int) < (n : Int)) := by omega
                have i6 : decide ((m : Int) < (n : Int)) = false := by simp; omega
                have hs2 : Hid (PermIn 0 n s ∧ Rn (fun x y => cf x y < 0) s B2 n 0) := hid ⟨hs.out.1, by
                  have e : B2 = B := by omega
                  rw [e]
                  refine hs.out.2.1.all (by omega) ba ?_
                  by_cases c : a < n
                  · exact .step c (by rw [Nat.min_eq_right (by omega)]; exact hs.out.2.2.last c (by omega)) (.done (by omega))
                  · exact .done (by omega)⟩
                clear hs
                go_wp2_with fail
                exact ⟨⟨B2, s, by omega, rfl, hs2, hw⟩, by simp [intOf]; omega⟩
        · have d2 : decide ((bs : Int) < (n : Int)) = false := by simp; omega
          have d3 : ¬ ((bs : Int) < (n : Int)) := by omega
          have hfin : Hid (Srt (fun x y => cf x y < 0) s 0 n) := hid (by
            by_cases c : 0 < n
            · exact (hs.out.2.last c (by omega)).1
            · exact Srt.one _ _ _ _ (by omega))
          go_wp2_with fail
          go_end0
          exact ⟨⟨_, rfl⟩, s, hs.out.1, hfin.out, hw.out.1, hw.out.2⟩
theorem cSortStable (g o n cap : Nat) (A : Nat → Vs) (cv : Value) (cf : Nat → Nat → Int) (Inv : World → Prop) (hC : CmpOk g n A cv cf Inv) (hn : n ≤ 4000000000000) (hcap : n ≤ cap) (w : World) (h : Hd w g o n cap A (fun k => k)) (hI : Inv w) : Calls Try.prog 37 #[.slice (some ⟨g, o, none⟩) n cap, .func (.func 38) #[] #[cv]] w fun e w' => (∃ v, e = .returned v) ∧ ∃ s, PermIn 0 n s ∧ Srt (fun x y => cf x y < 0) s 0 n ∧ Hd w' g o n cap A s ∧ Kp [g] w w' := by
  have cS := hid (cStable g o n cap A cv cf Inv hC hn hcap w h hI)
  clear hC h hI
  go_enter Try.func37, Try.ntmps37
  go_wp2_with fail
  refine cS.out.mono ?_
  rintro e w1 ⟨⟨v, rfl⟩, hp⟩
  have HP := hid hp
  clear hp
  go_wp2_with fail
  go_end0
  exact ⟨⟨_, rfl⟩, HP.out⟩
end Go.Proofs.Ytohkjikhlakglaa
end

section
namespace Go.Proofs.Ytohkjikhlakglaa
open Go.RowKit Go.Hay
attribute [local go_sem] Oper.semAt_some
set_option linter.unusedVariables false
set_option linter.unusedSimpArgs false

theorem getD_l (L : List Vs) (x : Nat) : (L.map (·.l)).getD x [] = (L.getD x default).l := by
  rw [List.getD_eq_getElem?_getD, List.getD_eq_getElem?_getD, List.getElem?_map]
  cases L[x]? <;> rfl
theorem arrId (L : List Vs) : arr (fun i => L.getD i default) (fun k => k) L.length = L := by
  apply List.ext_getElem?
  intro k
  by_cases h : k < L.length
  · rw [arr_at _ _ _ _ h]
    simp [h]
  · rw [List.getElem?_eq_none (by rw [arr_len]; omega), List.getElem?_eq_none (by omega)]
/-- The sort of rows that were gathered, by some columns. -/
theorem sortO (W : World) (N q : Nat) (ra : Option Addr) (rc : Nat) (L : List Vs) (oa : Option Addr) (oc : Nat) (os : List (Int × Bool)) (hl : Lot N ra rc L W) (hq : W.cell? ⟨q, 0, none⟩ = some (.slice oa os.length oc)) (ho : OrE.See W oa os) (hol : os.length ≤ 4000000000000) (hqr : q ∉ blk ra) (hor : os ≠ [] → ∀ k ∈ blk oa, k ∉ blk ra) (hLl : L.length ≤ 4000000000000) : Calls Try.prog 37 #[.slice ra L.length rc, .func (.func 38) #[] #[.pointer (some ⟨q, 0, none⟩)]] W (SortP N ra rc L.length (srtO os (L.map (·.l))) W) := by
  obtain ⟨R, hm⟩ : ∃ R, L.map (·.l) = R := ⟨_, rfl⟩
  rw [hm]
  by_cases h0 : L.length = 0
  · have hL : L = [] := List.length_eq_zero_iff.1 h0
    refine (cSortSt1R ra L.length rc _ W (by omega)).mono fun e w' ⟨hv, e2⟩ => ⟨hv, L, rfl, by rw [e2]; exact hl, ?_, by rw [e2]; exact Kp.refl _ _⟩
    rw [← hm, hL]
    rfl
  · rcases hrow : hl.row with ⟨e, _⟩ | ⟨g, o, cap, e, h1, h2, h3, h4, h5⟩
    · exact absurd (by have := (Value.slice.inj e).2.1; omega) h0
    · obtain ⟨e1, _, e3⟩ := Value.slice.inj e
      subst e1 e3
      have hd : Hd W g o L.length rc (fun i => L.getD i default) (fun k => k) := by
        unfold Hd
        rw [arrId]
        exact hl.row
      have hmem : ∀ x, x < L.length → L.getD x default ∈ L := fun x hx => by
        rw [List.getD_eq_getElem?_getD, List.getElem?_eq_getElem hx]
        exact List.getElem_mem hx
      have hC : CmpOk g L.length (fun i => L.getD i default) (.pointer (some ⟨q, 0, none⟩)) (fun x y => cmpO os (L.getD x default).l (L.getD y default).l) (fun W' => (W'.cell? ⟨q, 0, none⟩ = some (.slice oa os.length oc) ∧ OrE.See W' oa os) ∧ ∀ x ∈ L, x.lies W') := ⟨fun W' x y hI hx hy => cSortC _ _ q oa oc os W' (hI.2 _ (hmem x hx)) (hI.2 _ (hmem y hy)) hI.1.2 hol hI.1.1, fun W1 W2 hI k => ⟨⟨((CK.ofKp k).2 _ _ (by simpa [blk] using hqr) hI.1.1).1, (if e : os = [] then (by rw [e]; exact .inl rfl) else ckSee (CK.ofKp k) hI.1.2 (fun j hj hm' => hor e j hj (by simpa [blk] using hm')))⟩, fun x hx => (hI.2 x hx).ck (CK.ofKp k) (fun j hj hm' => (hl.rows x hx j hj).2.2 (by simpa [blk] using hm'))⟩, cmpO_swo os (fun x => (L.getD x default).l)⟩
      have h2' : L.length ≤ rc := h1
      refine (cSortStable g o L.length rc _ _ _ _ hC hLl h2' W hd ⟨⟨hq, ho⟩, hl.lies⟩).mono fun e w' ⟨hv, s, hp, hs, hd', k⟩ => ⟨hv, arr (fun i => L.getD i default) s L.length, arr_len _ _ _, ?_, ?_, k⟩
      · have hin : ∀ x ∈ arr (fun i => L.getD i default) s L.length, x ∈ L := fun x hx => by
          unfold arr at hx
          obtain ⟨i, hi, rfl⟩ := List.mem_map.1 hx
          exact hmem _ (hp.1 i (Nat.zero_le _) (List.mem_range.1 hi)).2
        have ck := CK.ofKp k
        refine ⟨by rw [arr_len]; exact hd', fun x hx => (hl.lies x (hin x hx)).ck ck (fun j hj hm' => (hl.rows x (hin x hx) j hj).2.2 (by simpa [blk] using hm')), hl.own, fun x hx j hj => ?_⟩
        obtain ⟨r1, r2, r3⟩ := hl.rows x (hin x hx) j hj
        exact ⟨r1, Nat.lt_of_lt_of_le r2 k.size, r3⟩
      · have hlt : (fun x y => cmpO os (L.getD x default).l (L.getD y default).l < 0) = ltO os R := by
          funext x y
          unfold ltO
          rw [← hm, getD_l, getD_l]
        rw [hlt] at hs
        have h6 := sorted_eq (ltO_swo os R) hp hs
        have hln : L.length = R.length := by rw [← hm, List.length_map]
        unfold srtO
        rw [← hln, ← h6, List.map_map]
        unfold arr
        rw [List.map_map]
        refine List.map_congr_left fun i _ => ?_
        show (L.getD (s i) default).l = R.getD (s i) []
        rw [← hm, getD_l]
end Go.Proofs.Ytohkjikhlakglaa
end

section
namespace Go.Proofs.Ytohkjikhlakglaa
open Go.RowKit Go.Hay
attribute [local go_sem] Oper.semAt_some
set_option linter.unusedVariables false
set_option linter.unusedSimpArgs false

/-- What the reference's Sort hands back: the rows that were handed in, in order. -/
def srtVs (os : List (Int × Bool)) (L : List Vs) : List Vs := (srtI (ltO os (L.map (·.l))) L.length).map fun i => L.getD i default
theorem srtVs_l (os : List (Int × Bool)) (L : List Vs) : (srtVs os L).map (·.l) = srtO os (L.map (·.l)) := by
  unfold srtVs srtO
  rw [List.map_map, List.length_map]
  refine List.map_congr_left fun i _ => ?_
  exact (getD_l L i).symm
theorem srtVs_len (os : List (Int × Bool)) (L : List Vs) : (srtVs os L).length = L.length := by
  unfold srtVs
  rw [List.length_map, insI_len]
theorem srtVs_in (os : List (Int × Bool)) (L : List Vs) : ∀ x ∈ srtVs os L, x ∈ L := fun x hx => by
  unfold srtVs at hx
  obtain ⟨i, hi, rfl⟩ := List.mem_map.1 hx
  have h := (srtI_perm (ltO os (L.map (·.l))) L.length).mem_iff.1 hi
  have h2 := List.mem_range.1 h
  rw [List.getD_eq_getElem?_getD, List.getElem?_eq_getElem h2]
  exact List.getElem_mem h2
def RSoO (os : List (Int × Bool)) (L : List Vs) (w : World) (e : Ending) (w' : World) : Prop := ∃ ra rc, e = .returned (.slice ra L.length rc) ∧ VsE.See w' ra (srtVs os L) ∧ Kp [] w w'
set_option maxHeartbeats 16000000 in
set_option maxRecDepth 100000 in
theorem rSortO (a : Option Addr) (c : Nat) (L : List Vs) (oa : Option Addr) (oc : Nat) (os : List (Int × Bool)) (w : World) (hs : VsE.See w a L) (hx : ∀ x ∈ L, x.lies w) (ho : OrE.See w oa os) (hl : L.length ≤ 1048576) (hol : os.length ≤ 1048576) :
    Calls Try.prog 20 #[.slice a L.length c, .slice oa os.length oc] w (RSoO os L w) := by
  have HS := hid hs
  have HX := hid hx
  have HO := hid ho
  obtain ⟨lt, dl, hlt0⟩ : ∃ (lt : Nat → Nat → Prop) (dl : ∀ x y, Decidable (lt x y)), Hid ((∀ x y, decide (lt x y) = decide (cmpO os (L.getD x default).l (L.getD y default).l < 0)) ∧ (∀ n, srtI lt n = srtI (ltO os (L.map (·.l))) n)) := ⟨ltO os (L.map (·.l)), inferInstance, hid ⟨fun x y => decide_eq_decide.2 (by unfold ltO; rw [getD_l, getD_l]), fun _ => rfl⟩⟩
  obtain ⟨A, hA⟩ : ∃ A : Nat → Vs, (fun k => L.getD k default) = A := ⟨_, rfl⟩
  have hAl : Hid (∀ k, k < L.length → L[k]? = some (A k)) := hid (fun k hk => by rw [← hA]; simp [hk])
  have hAi : Hid (∀ k, k < L.length → A k ∈ L) := hid (fun k hk => by have := hAl.out k hk; exact List.mem_of_getElem? this)
  have hAc : Hid (∀ x y, decide (lt x y) = decide (cmpO os (A x).l (A y).l < 0)) := hid (by rw [← hA]; exact hlt0.out.1)
  have hgoal : ∀ e w', (∃ ra rc, e = .returned (.slice ra L.length rc) ∧ VsE.See w' ra ((srtI lt L.length).map A) ∧ Kp [] w w') → RSoO os L w e w' := fun e w' h => by
    unfold RSoO srtVs
    rw [hlt0.out.2 L.length] at h
    subst hA
    exact h
  refine Calls.mono ?_ hgoal
  clear hgoal hs hx ho hA hlt0
  go_enter Try.func20, Try.ntmps20
  go_wp2_with fail
  go_loopw [5, 6] (fun lv iv wr => ∃ (j : Nat) (b : Option Addr) (cb : Nat), j ≤ L.length ∧ iv = .int .i64 (j : Int) ∧ lv = .slice b j cb ∧ Hid (VsE.Row wr (.slice b ((srtI lt j).map A).length cb) ((srtI lt j).map A) ∧ (∀ k ∈ blk b, w.heap.size ≤ k) ∧ Kp [] w wr)) (fun _ iv _ => L.length - (intOf iv).toNat)
  case atStart => exact ⟨0, none, 0, Nat.zero_le _, rfl, rfl, hid ⟨.inl ⟨rfl, rfl⟩, by simp [blk], Kp.refl _ _⟩⟩
  case round =>
    obtain ⟨j, b, cb, hj, rfl, rfl, hw⟩ := hrel
    obtain ⟨wo, hwo⟩ : ∃ x, x = wr := ⟨wr, rfl⟩
    subst hwo
    have hlen0 : ((srtI lt j).map A).length = j := by rw [List.length_map, insI_len]
    have hlen := hid hlen0
    have hb0 : Hid ((b = none ∧ cb = 0 ∧ j = 0) ∨ ∃ g o, b = some ⟨g, o, none⟩ ∧ j ≤ cb) := hid (by
      rcases hw.out.1 with ⟨e1, e2⟩ | ⟨g, o, c, e1, h1, _⟩
      · obtain ⟨r1, r2, r3⟩ := Value.slice.inj e1
        exact .inl ⟨r1, r3, by omega⟩
      · obtain ⟨r1, r2, r3⟩ := Value.slice.inj e1
        exact .inr ⟨g, o, r1, by omega⟩)
    clear hlen0
    by_cases hjl : j < L.length
    · have i1 : (0 : Int) ≤ (j : Int) := by omega
      have i2 : (j : Int) < (L.length : Int) := by omega
      have i3 : (j : Int) + 1 ≤ 9223372036854775807 := by omega
      have cAh : Hid (∀ k, k < L.length → ∀ W, Kp [] w W → Calls Try.prog 40 #[.slice (A j).a (A j).l.length (A j).c, .slice (A k).a (A k).l.length (A k).c, .slice oa os.length oc] W fun e w' => e = .returned (.bool (decide (lt j k))) ∧ Kp [] W w') := fun k hk W kW => by
        have h1 := rAhead (A j) (A k) oa oc os W ((HX.out _ (hAi.out j hjl)).ck (CK.ofKp kW) (by simp)) ((HX.out _ (hAi.out k hk)).ck (CK.ofKp kW) (by simp)) (HO.out.keptNew kW) (by omega)
        rw [← hAc.out j k] at h1
        exact h1
      have hsL : Hid (∀ W, Kp [] w W → ∃ g o, a = some ⟨g, o, none⟩ ∧ W.cell? ⟨g, o + j, none⟩ = some (.slice (A j).a (A j).l.length (A j).c)) := fun W kW => by
        obtain ⟨g, o, ea, x0⟩ := vsAt HS.out (hAl.out j hjl)
        exact ⟨g, o, ea, kpAt kW x0⟩
      obtain ⟨g, o, ea, _⟩ := hsL.out w (Kp.refl _ _)
      have hcL : Hid (∀ W, Kp [] w W → W.cell? ⟨g, o + j, none⟩ = some (.slice (A j).a (A j).l.length (A j).c)) := fun W kW => by
        obtain ⟨g', o', ea', hc⟩ := hsL.out W kW
        rw [ea] at ea'
        cases ea'
        exact hc
      have hin : Hid (∀ k, k < j → ∃ m, m < L.length ∧ (srtI lt j).getD k 0 = m ∧ ((srtI lt j).map A)[k]? = some (A m)) := fun k hk => by
        have hk2 : k < (srtI lt j).length := by rw [insI_len]; exact hk
        refine ⟨(srtI lt j)[k], ?_, ?_, ?_⟩
        · have := List.mem_range.1 ((srtI_perm lt j).mem_iff.1 (List.getElem_mem hk2))
          omega
        · rw [List.getD_eq_getElem?_getD, List.getElem?_eq_getElem hk2]; rfl
        · rw [List.getElem?_map, List.getElem?_eq_getElem hk2]; rfl
      clear hsL
      subst ea
      go_upto_block 2 with fail
      go_cut [7] from 18 to 34 (fun n wc => ∃ K : Nat, K ≤ j ∧ n = .int .i64 (K : Int) ∧ Hid (insP lt j (srtI lt j) j = K) ∧ Hid (Kp [] wo wc))
      case first =>
        go_wp2_with fail
        go_loopw [7, 8] (fun nv bv wn => ∃ k : Nat, k ≤ j ∧ nv = .int .i64 (k : Int) ∧ Hid (insP lt j (srtI lt j) k = insP lt j (srtI lt j) j) ∧ Hid (Kp [] wo wn)) (fun nv _ _ => (intOf nv).toNat)
        case atStart => exact ⟨j, Nat.le_refl _, rfl, hid rfl, hid (Kp.refl _ _)⟩
        case round =>
          obtain ⟨k, hk, rfl, hip, kn⟩ := hrel
          by_cases hk0 : k = 0
          · have hp : Hid (insP lt j (srtI lt j) j = k) := hid (by rw [← hip.out, hk0]; rfl)
            have hX : ∃ K : Nat, K ≤ j ∧ Value.int .i64 (k : Int) = .int .i64 (K : Int) ∧ Hid (insP lt j (srtI lt j) j = K) ∧ Hid (Kp [] wo wr) := ⟨k, hk, rfl, hp, kn⟩
            have d1 : decide ((0 : Int) < (k : Int)) = false := by simp; omega
            have HXX := hid hX
            clear hip hk0 hp hX hk
            generalize (k : Int) = z at *
            go_wp2_with fail
            go_meet
            exact HXX.out
          · have d1' : True := trivial
            obtain ⟨k, rfl⟩ : ∃ i, k = i + 1 := ⟨k - 1, by omega⟩
            obtain ⟨m, hm, hmg, hmA⟩ := hin.out k (by omega)
            obtain ⟨_, _, e3, hsee, _, hcp, _⟩ := hw.out.1.see
            obtain ⟨e5, e6, e7⟩ := Value.slice.inj e3
            rw [← e5] at hsee
            obtain ⟨g2, o2, eb, y0⟩ := vsAt hsee hmA
            clear hsee e3 e5 hcp e6 e7
            have hpm : Hid (insP lt j (srtI lt j) (k + 1) = if lt j m then insP lt j (srtI lt j) k else k + 1) := by show _ = _; rw [← hmg]; rfl
            have hRS : Hid (∀ W', Kp [] wo W' → W'.cell? ⟨g, o + j, none⟩ = some (.slice (A j).a (A j).l.length (A j).c) ∧ W'.cell? ⟨g2, o2 + k, none⟩ = some (.slice (A m).a (A m).l.length (A m).c)) := fun W' q => ⟨hcL.out W' (hw.out.2.2.trans q (by simp)), kpAt q y0⟩
            have cA := hid (fun W (q : Kp [] wo W) => cAh.out m hm W (hw.out.2.2.trans q (by simp)))
            have w1 : IntKind.i64.wrap ((k : Int) + 1 - 1) = (k : Int) := by rw [IntKind.wrap_i64]; try omega
            have w2 : IntKind.i64.wrap ((k : Int) + 1) = (k : Int) + 1 := by rw [IntKind.wrap_i64]; try omega
            have w3 : IntKind.i64.wrap (k : Int) = (k : Int) := by rw [IntKind.wrap_i64]; try omega
            have k1 : (0 : Int) ≤ (k : Int) := by omega
            have k2 : (k : Int) < (j : Int) := by omega
            have k3 : ((k : Int) + 1).toNat = k + 1 := by omega
            have d1 : decide ((0 : Int) < (k : Int) + 1) = true := by simp <;> omega
            have hk' := hk
            subst eb
            clear hk0 y0 hk d1'
            go_wp2_with fail
            refine wp_noPanicY ?_
            refine wp_region_held_drew (S := fun W' => W'.cell? ⟨g, o + j, none⟩ = some (.slice (A j).a (A j).l.length (A j).c) ∧ W'.cell? ⟨g2, o2 + k, none⟩ = some (.slice (A m).a (A m).l.length (A m).c)) (by kernel_rfl) (hRS.out _ kn.out.drew) (fun hHeld => ?_)
            have KD : Hid (Kp [] wo wr.drew) := hid kn.out.drew
            generalize wr.drew = wd at *
            refine wpAnyH_take (i := 0) (v := ?_) rfl (by kernel_rfl) (by kernel_rfl) (by kernel_rfl) (fun _ _ _ h => by cases h.1) (Or.inl ⟨by rfl, ?_⟩) (by assumption) ?_
            rotate_left
            · intro w hSw; (try dsimp only at hSw); go_simp <;> with_reducible rfl
            try simp only [Act.put, List.getElem_toArray, List.getElem_cons_zero, List.getElem_cons_succ, List.setIfInBounds_toArray, List.set_cons_zero, List.set_cons_succ]
            refine wpAnyH_take (i := 1) (v := ?_) rfl (by kernel_rfl) (by kernel_rfl) (by kernel_rfl) (fun _ _ _ h => by cases h.1) (Or.inl ⟨by rfl, ?_⟩) (by assumption) ?_
            rotate_left
            · intro w hSw; (try dsimp only at hSw); go_simp <;> with_reducible rfl
            try simp only [Act.put, List.getElem_toArray, List.getElem_cons_zero, List.getElem_cons_succ, List.setIfInBounds_toArray, List.set_cons_zero, List.set_cons_succ]
            refine wpAnyH_take (i := 2) (v := ?_) rfl (by kernel_rfl) (by kernel_rfl) (by kernel_rfl) (fun _ _ _ h => by cases h.1) (Or.inl ⟨by rfl, ?_⟩) (by assumption) ?_
            rotate_left
            · intro w hSw; (try dsimp only at hSw); go_simp <;> with_reducible rfl
            try simp only [Act.put, List.getElem_toArray, List.getElem_cons_zero, List.getElem_cons_succ, List.setIfInBounds_toArray, List.set_cons_zero, List.set_cons_succ]
            refine wpAnyH_take (i := 3) (v := ?_) rfl (by kernel_rfl) (by kernel_rfl) (by kernel_rfl) (fun _ _ _ h => by cases h.1) (Or.inl ⟨by rfl, ?_⟩) (by assumption) ?_
            rotate_left
            · intro w hSw; (try dsimp only at hSw); go_simp <;> with_reducible rfl
            try simp only [Act.put, List.getElem_toArray, List.getElem_cons_zero, List.getElem_cons_succ, List.setIfInBounds_toArray, List.set_cons_zero, List.set_cons_succ]
            refine wpAnyH_take (i := 4) (v := ?_) rfl (by kernel_rfl) (by kernel_rfl) (by kernel_rfl) (fun _ _ _ h => by cases h.1) (Or.inl ⟨by rfl, ?_⟩) (by assumption) ?_
            rotate_left
            · intro w hSw; (try dsimp only at hSw); go_simp <;> with_reducible rfl
            try simp only [Act.put, List.getElem_toArray, List.getElem_cons_zero, List.getElem_cons_succ, List.setIfInBounds_toArray, List.set_cons_zero, List.set_cons_succ]
            refine wpAnyH_take (i := 5) (v := ?_) rfl (by kernel_rfl) (by kernel_rfl) (by kernel_rfl) (fun _ _ _ h => by cases h.1) (Or.inl ⟨by rfl, ?_⟩) (by assumption) ?_
            rotate_left
            · intro w hSw; (try dsimp only at hSw); go_simp <;> with_reducible rfl
            try simp only [Act.put, List.getElem_toArray, List.getElem_cons_zero, List.getElem_cons_succ, List.setIfInBounds_toArray, List.set_cons_zero, List.set_cons_succ]
            refine wpAnyH_take (i := 6) (v := ?_) rfl (by kernel_rfl) (by kernel_rfl) (by kernel_rfl) (fun _ _ _ h => by cases h.1) (Or.inl ⟨by rfl, ?_⟩) (by assumption) ?_
            rotate_left
            · intro w hSw; (try dsimp only at hSw); go_simp <;> with_reducible rfl
            try simp only [Act.put, List.getElem_toArray, List.getElem_cons_zero, List.getElem_cons_succ, List.setIfInBounds_toArray, List.set_cons_zero, List.set_cons_succ]
            refine wpAnyH_take (i := 7) (v := ?_) rfl (by kernel_rfl) (by kernel_rfl) (by kernel_rfl) (fun _ _ _ h => by cases h.1) (Or.inl ⟨by rfl, ?_⟩) (by assumption) ?_
            rotate_left
            · intro w hSw; (try dsimp only at hSw); go_simp <;> with_reducible rfl
            try simp only [Act.put, List.getElem_toArray, List.getElem_cons_zero, List.getElem_cons_succ, List.setIfInBounds_toArray, List.set_cons_zero, List.set_cons_succ]
            refine wpAnyH_take (i := 8) (v := ?_) rfl (by kernel_rfl) (by kernel_rfl) (by kernel_rfl) (fun _ _ _ h => by cases h.1) (Or.inl ⟨by rfl, ?_⟩) (by assumption) ?_
            rotate_left
            · intro w hSw; (try dsimp only at hSw); go_simp <;> with_reducible rfl
            try simp only [Act.put, List.getElem_toArray, List.getElem_cons_zero, List.getElem_cons_succ, List.setIfInBounds_toArray, List.set_cons_zero, List.set_cons_succ]
            refine wpAnyH_take (i := 9) (v := ?_) rfl (by kernel_rfl) (by kernel_rfl) (by kernel_rfl) (fun _ _ _ h => by cases h.1) (Or.inl ⟨by rfl, ?_⟩) (by assumption) ?_
            rotate_left
            · intro w hSw; (try dsimp only at hSw); go_simp <;> with_reducible rfl
            try simp only [Act.put, List.getElem_toArray, List.getElem_cons_zero, List.getElem_cons_succ, List.setIfInBounds_toArray, List.set_cons_zero, List.set_cons_succ]
            refine wpAnyH_ready (rs := [10]) (by kernel_rfl) (by simp) ?_
            refine AllReadyH.cons rfl (fun K hK => ?_) AllReadyH.nil
            go_simp
            refine (cA.out wd KD.out).mono ?_
            rintro e we ⟨rfl, ke⟩
            (try go_wp2_with fail)
            refine hK.out _ _ (hRS.out we (KD.out.trans ke (by simp))) (fun hHeld => ?_)
            clear hK K
            try simp only [Act.put, List.getElem_toArray, List.getElem_cons_zero, List.getElem_cons_succ, List.setIfInBounds_toArray, List.set_cons_zero, List.set_cons_succ]
            refine wpAnyH_take (i := 11) (v := ?_) rfl (by kernel_rfl) (by kernel_rfl) (by kernel_rfl) (fun _ _ _ h => by cases h.1) (Or.inl ⟨by rfl, ?_⟩) (by assumption) ?_
            rotate_left
            · intro w hSw; (try dsimp only at hSw); go_simp <;> with_reducible rfl
            try simp only [Act.put, List.getElem_toArray, List.getElem_cons_zero, List.getElem_cons_succ, List.setIfInBounds_toArray, List.set_cons_zero, List.set_cons_succ]
            refine wpAnyH_done (by kernel_rfl) ⟨rfl, ?_⟩ _
            have KE := hid (KD.out.trans ke (by simp))
            clear hHeld ke
            cases hlt : decide (lt j m) with
            | true =>
              have hp2 : Hid (insP lt j (srtI lt j) k = insP lt j (srtI lt j) j) := hid (by rw [← hip.out, hpm.out, if_pos (of_decide_eq_true hlt)])
              clear hlt
              go_wp2_with fail
              go_roundw
              case rel => exact ⟨k, by omega, by go_num, hp2, KE⟩
              case measure => simp [intOf] <;> omega
            | false =>
              have hp2 : Hid (insP lt j (srtI lt j) j = k + 1) := hid (by rw [← hip.out, hpm.out, if_neg (of_decide_eq_false hlt)])
              clear hlt
              go_wp2_with fail
              go_meet
              exact ⟨k + 1, hk', by simp, hp2, KE⟩
      case rest =>
        obtain ⟨K, hK, rfl, hp, kn⟩ := hcut
        obtain ⟨_, _, e3, hsee, _, hcp, _⟩ := hw.out.1.see
        obtain ⟨e5, e6, e7⟩ := Value.slice.inj e3
        rw [← e5] at hsee
        clear e3 e5 e6 e7 hcp
        have hseeW := hsee.keptNew kn.out
        have kO := hid (hw.out.2.2.trans kn.out (by simp))
        have hmap := hid (insI_map lt A j K hp.out)
        have hcg := hcL.out
        obtain ⟨x, hxe⟩ : ∃ x, Hid (A j = x) := ⟨A j, rfl⟩
        rw [hxe.out] at hmap hcg
        have HCG := hid hcg
        clear hcL hsee hp hcg
        have hjc : j ≤ cb := by rcases hb0.out with ⟨_, _, h⟩ | ⟨_, _, _, h⟩ <;> omega
        have s1 : (0 : Int) ≤ (K : Int) := by omega
        have s2 : (K : Int) ≤ (cb : Int) := by omega
        have s3 : (K : Int) ≤ (j : Int) := by omega
        have s4 : (j : Int) ≤ (cb : Int) := by omega
        have hlj := hlen.out
        have hsf := fun W : World => sliceFromVs b j cb K W hK
        have hsee2 : VsE.See wc (if cb = K then b else b.map (·.add K)) (((srtI lt j).map A).drop K) := by
          by_cases hc : cb = K
          · rw [List.drop_eq_nil_of_le (by rw [hlen.out]; omega)]; exact .inl rfl
          · rw [if_neg hc]; exact seeDropVs hseeW K
        obtain ⟨cq, hcq⟩ : ∃ q, Hid ((if cb = K then b else b.map (·.add K)) = q) := ⟨_, rfl⟩
        rw [hcq.out] at hsee2
        simp only [hcq.out] at hsf
        obtain ⟨cc, hcc⟩ : ∃ q, Hid (cb - K = q) := ⟨_, rfl⟩
        simp only [hcc.out] at hsf
        have hlj := hlen.out
        obtain ⟨a1, c1, W1, a2, c2, W2, a3, c3, W3, r1, r2, r3, R3, n3, k1, k2, k3⟩ := app3V wc b cq cb cc j K ((srtI lt j).map A) hlj hK (hseeW.front K) hsee2 x (by omega)
        obtain ⟨nk, hnk⟩ : ∃ q, Hid (j - K = q) := ⟨_, rfl⟩
        simp only [hnk.out] at hsf
        rw [hnk.out] at r3
        have HSF := hid hsf
        have HST := hid (fun W : World => sliceToVs b j cb K W (by omega))
        obtain ⟨xa, xc, xl⟩ := x
        dsimp only at r1 r2 r3
        have hr1 := hid r1
        have hr2 := hid r2
        have hr3 := hid r3
        have x1 := HCG.out W1 (kO.out.trans k1 (by simp))
        rw [← hmap.out] at R3
        have hfin : Hid (VsE.Row W3 (.slice a3 ((srtI lt (j + 1)).map A).length c3) ((srtI lt (j + 1)).map A) ∧ (∀ k ∈ blk a3, w.heap.size ≤ k) ∧ Kp [] w W3) := hid ⟨R3, fun k hk => by have := n3 k hk; have := kO.out.size; omega, kO.out.trans k3 (by simp)⟩
        clear R3 n3 k1 k2 k3 r1 r2 r3 hseeW hmap hb0 hlj hlen hw hsee2 hsf
        have hsl := HST.out wc
        go_upto_region 12 with (first | (refine wpAppRunY rfl _ _ 22 22 rfl _ _ _ rfl rfl hr1.out ?_) | fail)
        clear hsl
        go_upto_region 13 with (first | (refine wpAppRunY rfl _ _ 22 22 rfl _ _ _ rfl rfl hr2.out ?_) | fail)
        have hsl := HSF.out W2
        clear x1
        go_upto_region 14 with (first | (refine wpAppRunY rfl _ _ 22 22 rfl _ _ _ rfl rfl hr3.out ?_) | fail)
        clear hsl s1 s2 s3 s4
        go_wp2_with fail
        go_roundw
        case rel => exact ⟨j + 1, a3, c3, by omega, by go_num, by simp [insI_len], hfin⟩
        case measure => simp [intOf] <;> omega
    · have e : j = L.length := by omega
      subst e
      go_wp2_with fail
      go_ret
      obtain ⟨_, _, e3, hsee, _, hcp, _⟩ := hw.out.1.see
      have e4 := Value.slice.inj e3
      exact ⟨b, cb, rfl, by rw [e4.1]; exact hsee, hw.out.2.2⟩
end Go.Proofs.Ytohkjikhlakglaa
end

section
namespace Go.Proofs.Ytohkjikhlakglaa
open Go.RowKit Go.Hay
attribute [local go_sem] Oper.semAt_some
set_option linter.unusedVariables false
set_option linter.unusedSimpArgs false

/-- Room for so many rows, and none in it. -/
theorem makeVs0 (w : World) (n : Nat) (hn : n ≤ 3000000000000) : ∃ W, (Instr.makeSlice 22 (.int .i64 0) (.int .i64 (n : Int))).run Try.prog w = .ok (.slice (some ⟨w.heap.size, 0, none⟩) 0 n) W ∧ Lot w.heap.size (some ⟨w.heap.size, 0, none⟩) n [] W ∧ Kp [] w W := by
  obtain ⟨i0, hi, hz0, hz1, hz2⟩ := infoVs
  have hr := run_make (P := Try.prog) w 22 24 i0 _ Try.underlying22 hi hz0 .i64 .i64 0 n (by omega) (by omega) (by rw [hz2]; omega) (by omega)
  rw [Int.toNat_natCast, hz1] at hr
  refine ⟨_, hr, ⟨.inr ⟨w.heap.size, 0, n, rfl, Nat.zero_le _, by unfold maxLen; omega, by simp, fun j u hu => by simp [El.cs] at hu, fun j hj => ⟨?_, World.frozen?_alloc_new w _ _ (0 + j)⟩⟩, by simp, fun k hk => by simp [blk] at hk; omega, by simp⟩, (Kp.refl _ _).alloc _⟩
  have e1 := World.cell?_alloc_new w (madeCells (Value.slice none 0 0).cells (n * 1)) 24 (0 + j)
  refine (congrArg Option.isSome e1).trans ?_
  have e5 : VsE.n = 1 := rfl
  rw [e5] at hj
  unfold madeCells
  rw [Nat.zero_add, Array.getElem?_map, Array.getElem?_range, if_pos hj]
  rfl
set_option maxHeartbeats 16000000 in
set_option maxRecDepth 100000 in
theorem cSortX (a : Option Addr) (c : Nat) (L : List Vs) (oa : Option Addr) (oc : Nat) (os : List (Int × Bool)) (w : World) (hs : VsE.See w a L) (hx : ∀ x ∈ L, x.lies w) (ho : OrE.See w oa os) (hoa : os ≠ [] → ∀ k ∈ blk oa, k < w.heap.size) (hl : L.length ≤ 1048576) (hol : os.length ≤ 1048576) (hr : ∀ x ∈ L, x.l.length ≤ 1800000000000) :
    Calls Try.prog 19 #[.slice a L.length c, .slice oa os.length oc] w (LotP (srtO os (L.map (·.l))) w) := by
  obtain ⟨w1, hw1, k1, b1⟩ : ∃ x, w.alloc (.cells #[.slice oa os.length oc] 44) = x ∧ Kp [] w x ∧ Bn x w.heap.size [.slice oa os.length oc] := ⟨_, rfl, (Kp.refl _ _).alloc _, Bn.new w _ _⟩
  obtain ⟨q3, hq3⟩ : ∃ q, w.heap.size = q := ⟨_, rfl⟩
  rw [hq3] at b1
  obtain ⟨w2, hmk, hlot, k2⟩ := makeVs0 w1 L.length (by omega)
  have HS := hid hs
  have HX := hid hx
  have HR := hid hr
  have HO := hid (And.intro ho hoa)
  have hq3l : q3 < w1.heap.size := b1.lt (by simp)
  have HB := hid b1
  have K1 := hid k1
  obtain ⟨R0, hR0⟩ : ∃ R, Hid (L.map (·.l) = R) := ⟨_, rfl⟩
  rw [hR0.out]
  obtain ⟨N1, hN1⟩ : ∃ n, w1.heap.size = n := ⟨_, rfl⟩
  rw [hN1] at hmk hlot hq3l
  have H0 : Hid (Lot N1 (some ⟨N1, 0, none⟩) L.length [] w2 ∧ Kp [] w1 w2) := ⟨hlot, k2⟩
  have hN1' := hid hN1
  clear hs hx ho hoa hr b1 hlot k1 k2 hN1
  go_enter Try.func19, Try.ntmps19
  go_wp2_with fail
  go_loopw [5, 13] (fun v5 i wr => ∃ (j : Nat) (ra : Option Addr) (rc : Nat) (m : List Vs), j ≤ L.length ∧ i = .int .i64 (j : Int) ∧ v5 = .slice ra m.length rc ∧ Hid (m.map (·.l) = (L.take j).map (·.l)) ∧ Hid (Lot N1 ra rc m wr ∧ Kp [] w1 wr)) (fun _ i _ => L.length - (intOf i).toNat)
  case atStart => exact ⟨0, _, _, [], Nat.zero_le _, rfl, rfl, rfl, H0⟩
  case round =>
    obtain ⟨j, ra, rc, m, hj, rfl, rfl, hm, H⟩ := hrel
    clear H0
    have KWr := hid (K1.out.trans H.out.2 (by simp))
    have hml : m.length ≤ 4000000000000 := by have h1 := congrArg List.length hm.out; rw [List.length_map, List.length_map, List.length_take] at h1; omega
    by_cases hlt : j < L.length
    · obtain ⟨g, o, ea, c0⟩ := vsAt HS.out (k := j) (x := L[j]) (by simp [hlt])
      have cg := kpAt KWr.out c0
      have hli := (HX.out L[j] (List.getElem_mem hlt)).ck (CK.ofKp KWr.out) (by simp)
      have hln := HR.out L[j] (List.getElem_mem hlt)
      have hsn : Hid ((L.take (j + 1)).map (·.l) = (L.take j).map (·.l) ++ [L[j].l]) := by show _ = _; rw [List.take_succ_eq_append_getElem hlt, List.map_append]; rfl
      obtain ⟨x, hx⟩ : ∃ x, Hid (L[j] = x) := ⟨L[j], rfl⟩
      rw [hx.out] at cg hli hln hsn
      obtain ⟨xa, xc, xl⟩ := x
      dsimp only at cg hln hsn
      have cA := hid (cCloneR xa xc xl wr hli.see hli.nil (by omega))
      have i1 : (0 : Int) ≤ (j : Int) := by omega
      have i2 : (j : Int) < (L.length : Int) := by omega
      have i3 : (j : Int) + 1 ≤ 9223372036854775807 := by omega
      subst ea
      clear c0 hli
      go_wp2_with fail
      refine cA.out.mono ?_
      rintro e wd ⟨ya, yc, rfl, hyr, kd, hyb⟩
      have hz9 := H.out.2.size
      have hN := hN1'.out
      have hld := H.out.1.ck (CK.ofKp kd) (by simp) (by simp)
      obtain ⟨a4, c4, W4, hrun, hl4, k4, hn4⟩ := hld.app ⟨ya, yc, xl⟩ (rowLies hyr) (by have := kd.size; omega) (fun k hk => ⟨by have := hyb k hk; omega, hyr.lt k (by rw [ownV]; exact hk), fun hm' => by have := hyb k hk; have := H.out.1.lt k hm'; omega⟩) hml
      obtain ⟨m4, hm4⟩ : ∃ m4, Hid (m ++ [(⟨ya, yc, xl⟩ : Vs)] = m4) := ⟨_, rfl⟩
      rw [hm4.out] at hrun hl4
      dsimp only at hrun
      have HF : Hid (Lot N1 a4 c4 m4 W4 ∧ Kp [] w1 W4) := ⟨hl4, (H.out.2.trans kd (by simp)).trans k4 (fun x hx => .inr (by have := H.out.1.own x hx; omega))⟩
      have hm5 : Hid (m4.map (·.l) = (L.take (j + 1)).map (·.l)) := by show _ = _; rw [hsn.out, ← hm4.out, List.map_append, hm.out]; rfl
      clear cA kd hyr hyb hld hl4 k4 hn4 hz9 hN
      go_wp2_with (first | (refine wpAppRunY rfl _ _ 22 22 rfl _ _ _ rfl rfl hrun ?_) | fail)
      go_roundw
      case rel => exact ⟨j + 1, a4, c4, m4, by omega, by go_num, rfl, hm5, HF⟩
      case measure => simp [intOf]; omega
    · have hmm : m.map (·.l) = R0 := by rw [hm.out, show j = L.length by omega, List.take_length, hR0.out]
      have dj1 : ¬ (j : Int) < (L.length : Int) := by omega
      have dj2 : decide ((j : Int) < (L.length : Int)) = false := by simp; omega
      have hN := hN1'.out
      have hqr : q3 ∉ blk ra := fun h => by have := H.out.1.own q3 h; omega
      have hor : os ≠ [] → ∀ k ∈ blk oa, k ∉ blk ra := fun e k hk h => by have h1 := H.out.1.own k h; have h2 := HO.out.2 e k hk; have := K1.out.size; omega
      have cS0 := sortO wr N1 q3 ra rc m oa oc os H.out.1 ((HB.out.kept H.out.2).get 0 _ rfl) (ckSee (CK.ofKp KWr.out) HO.out.1 (by simp)) (by omega) hqr hor hml
      rw [hmm] at cS0
      have cS := hid cS0
      have hmn := hid hml
      clear cS0 hmm hqr hor hN hml
      go_wp2_with fail
      refine cS.out.mono ?_
      rintro e w5 ⟨⟨v, rfl⟩, L5, hn5, hl5, hm5, k5⟩
      have K5 := hid (H.out.2.trans k5 (fun x hx => .inr (by have := H.out.1.own x hx; have := hN1'.out; omega)))
      have HF := hid (And.intro hl5 hm5)
      have hn5' := hid hn5
      clear cS k5 hl5 hm5 hn5
      go_wp2_with fail
      go_ret
      rw [← hn5'.out]
      exact ⟨ra, rc, L5, rfl, HF.out.1.mono (by have := hN1'.out; have := K1.out.size; omega), HF.out.2, K1.out.trans K5.out (by simp)⟩
end Go.Proofs.Ytohkjikhlakglaa
end

section
namespace Go.Proofs.Ytohkjikhlakglaa
open Go.RowKit Go.Hay
set_option linter.unusedVariables false
set_option linter.unusedSimpArgs false

theorem baLoopX (b : ByteArray) : ∀ (m i : Nat) (r : List UInt8), b.size - i = m → ByteArray.toList.loop b i r = r.reverse ++ b.data.toList.drop i
  | 0, i, r, h => by
    rw [ByteArray.toList.loop]
    rw [if_neg (by omega), List.drop_eq_nil_of_le (by simp; have : b.data.size = b.size := rfl; omega), List.append_nil]
  | m + 1, i, r, h => by
    rw [ByteArray.toList.loop]
    have hi : i < b.size := by omega
    rw [if_pos hi, baLoopX b m (i + 1) _ (by omega)]
    have hi' : i < b.data.toList.length := by simpa using hi
    rw [List.drop_eq_getElem_cons hi']
    simp
    show b.get! i = _
    simp [ByteArray.get!, hi]
theorem baListX (b : ByteArray) : b.toList = b.data.toList := by
  unfold ByteArray.toList
  rw [baLoopX b _ 0 [] rfl]
  simp
theorem baInjX {a b : ByteArray} (h : a.toList = b.toList) : a = b := by
  rw [baListX, baListX] at h
  cases a; cases b
  simp only [ByteArray.mk.injEq]
  exact Array.toList_inj.1 h
theorem eqv_eq (x y : Val) (h : x.eqv y = true) : x = y := by
  unfold Val.eqv at h
  obtain ⟨a, b, c, d⟩ := x
  obtain ⟨a', b', c', d'⟩ := y
  simp at h
  obtain ⟨h1, h2, h3, h4⟩ := h
  rw [h1, h2, h3, baInjX h4]
theorem sameV_eq : ∀ a b : List Val, sameV a b = true → a = b
  | [], [], _ => rfl
  | x :: a, y :: b, h => by
    rw [sameV, Bool.and_eq_true] at h
    rw [eqv_eq x y h.1, sameV_eq a b h.2]
  | [], _ :: _, h => by cases h
  | _ :: _, [], h => by cases h
theorem cmpO_rows : ∀ (os : List (Int × Bool)) (x y : List Val), cmpO os x y = 0 → rowsV x y = 0
  | [], x, y, h => h
  | q :: os, x, y, h => by
    unfold cmpO at h
    by_cases e : dirC q.2 (cmpV (vAt x q.1) (vAt y q.1)) = 0
    · rw [if_pos e] at h; exact cmpO_rows os x y h
    · rw [if_neg e] at h; exact absurd h e
theorem cmpO_eq (os : List (Int × Bool)) (x y : List Val) (hx : ∀ v ∈ x, v.right = true) (hy : ∀ v ∈ y, v.right = true) (h1 : cmpO os x y ≤ 0) (h2 : cmpO os y x ≤ 0) : x = y := by
  rw [cmpO_neg os x y] at h2
  have h := cmpO_rows os x y (by omega)
  have := rows_same x y hx hy
  rw [h] at this
  exact sameV_eq x y this.symm
theorem getR' (R : List (List Val)) : R = (List.range R.length).map fun i => R.getD i [] := by
  apply List.ext_getElem?
  intro k
  by_cases h : k < R.length
  · simp [h]
  · rw [List.getElem?_eq_none (by omega), List.getElem?_eq_none (by simp; omega)]
theorem srtO_perm (os : List (Int × Bool)) (R : List (List Val)) : (srtO os R).Perm R := by
  have h := (srtI_perm (ltO os R) R.length).map (fun i => R.getD i [])
  rw [← getR'] at h
  exact h
theorem srtO_mono (os : List (Int × Bool)) (R : List (List Val)) : (srtO os R).Pairwise fun a b => cmpO os a b ≤ 0 := by
  unfold srtO
  rw [List.pairwise_map]
  refine (srtI_sorted (ltO_swo os R) R.length).imp fun {a b} h => ?_
  have h2 : ¬ ltO os R b a := by
    rcases h with h | h
    · exact (ltO_swo os R).asym _ _ h
    · exact h.1
  unfold ltO at h2
  rw [cmpO_neg os (R.getD a [])] at h2
  omega
theorem srtO_same (os : List (Int × Bool)) (R S : List (List Val)) (hp : R.Perm S) (hr : ∀ l ∈ R, ∀ v ∈ l, v.right = true) : srtO os R = srtO os S := by
  refine List.Perm.eq_of_pairwise (le := fun a b => cmpO os a b ≤ 0) (fun a b ha hb h1 h2 => ?_) (srtO_mono os R) (srtO_mono os S) ((srtO_perm os R).trans (hp.trans (srtO_perm os S).symm))
  exact cmpO_eq os a b (hr a ((srtO_perm os R).mem_iff.1 ha)) (hr b (hp.mem_iff.2 ((srtO_perm os S).mem_iff.1 hb))) h1 h2
end Go.Proofs.Ytohkjikhlakglaa
end

section
namespace Go.Proofs.Ytohkjikhlakglaa
open Go.RowKit Go.Hay
set_option linter.unusedVariables false
set_option linter.unusedSimpArgs false

/-- Which values fit a column of that kind. -/
def fitsV (ck : Int) (cn : Bool) (x : Val) : Bool := x.right && (x.k == ck || (x.k == 0 && cn))

theorem size_of_empty (t : ByteArray) (h : t.toList = []) : t.size = 0 := by
  have h2 := congrArg List.length h
  rw [Go.Lib.toList_data] at h2
  rw [Go.Lib.size_eq]
  exact h2
set_option maxHeartbeats 2000000 in
set_option maxRecDepth 100000 in
theorem cRefRight (x : Val) (w : World) : Calls Try.prog 21 #[x.v] w fun e w' => e = .returned (.bool x.right) ∧ Kp [] w w' := by
  obtain ⟨k, b, n, t⟩ := x
  unfold Val.v
  by_cases h0 : k = 0
  · subst h0
    obtain ⟨X, HX, hX⟩ := eqV ⟨0, b, n, t⟩ ⟨0, false, 0, ⟨#[]⟩⟩
    cases X
    · have hr : Hid (Val.right ⟨0, b, n, t⟩ = false) := by show _ = _; have := HX.out; simp [Val.eqv, emptyL] at this; simp [Val.right]; grind
      go_enter Try.func21, Try.ntmps21
      go_wp2_with fail
      go_ret
      exact ⟨by rw [hr.out]; rfl, ((Kp.refl _ _).alloc _).alloc _⟩
    · have hr : Hid (Val.right ⟨0, b, n, t⟩ = true) := by show _ = _; have := HX.out; simp [Val.eqv, emptyL] at this; simp [Val.right, this]
      have hsz : decide ((t.size : Int) ≤ 64) = true := by have := HX.out; simp [Val.eqv, emptyL] at this; have := size_of_empty t (by simp_all); simp [this]
      go_enter Try.func21, Try.ntmps21
      go_wp2_with fail
      go_ret
      exact ⟨by rw [hr.out]; rfl, ((Kp.refl _ _).alloc _).alloc _⟩
  by_cases h1 : k = 1
  · subst h1
    obtain ⟨X, HX, hX⟩ := eqV ⟨1, b, n, t⟩ ⟨1, b, 0, ⟨#[]⟩⟩
    cases X
    · have hr : Hid (Val.right ⟨1, b, n, t⟩ = false) := by show _ = _; have := HX.out; simp [Val.eqv, emptyL] at this; simp [Val.right]; grind
      go_enter Try.func21, Try.ntmps21
      go_wp2_with fail
      go_ret
      exact ⟨by rw [hr.out]; rfl, ((Kp.refl _ _).alloc _).alloc _⟩
    · have hr : Hid (Val.right ⟨1, b, n, t⟩ = true) := by show _ = _; have := HX.out; simp [Val.eqv, emptyL] at this; simp [Val.right, this]
      have hsz : decide ((t.size : Int) ≤ 64) = true := by have := HX.out; simp [Val.eqv, emptyL] at this; have := size_of_empty t (by simp_all); simp [this]
      go_enter Try.func21, Try.ntmps21
      go_wp2_with fail
      go_ret
      exact ⟨by rw [hr.out]; rfl, ((Kp.refl _ _).alloc _).alloc _⟩
  by_cases h2 : k = 2
  · subst h2
    obtain ⟨X, HX, hX⟩ := eqV ⟨2, b, n, t⟩ ⟨2, false, n, ⟨#[]⟩⟩
    cases X
    · have hr : Hid (Val.right ⟨2, b, n, t⟩ = false) := by show _ = _; have := HX.out; simp [Val.eqv, emptyL] at this; simp [Val.right]; grind
      go_enter Try.func21, Try.ntmps21
      go_wp2_with fail
      go_ret
      exact ⟨by rw [hr.out]; rfl, ((Kp.refl _ _).alloc _).alloc _⟩
    · have hr : Hid (Val.right ⟨2, b, n, t⟩ = true) := by show _ = _; have := HX.out; simp [Val.eqv, emptyL] at this; simp [Val.right, this]
      have hsz : decide ((t.size : Int) ≤ 64) = true := by have := HX.out; simp [Val.eqv, emptyL] at this; have := size_of_empty t (by simp_all); simp [this]
      go_enter Try.func21, Try.ntmps21
      go_wp2_with fail
      go_ret
      exact ⟨by rw [hr.out]; rfl, ((Kp.refl _ _).alloc _).alloc _⟩
  by_cases h3 : k = 3
  · subst h3
    obtain ⟨X, HX, hX⟩ := eqV ⟨3, b, n, t⟩ ⟨3, false, 0, t⟩
    cases X
    · have hr : Hid (Val.right ⟨3, b, n, t⟩ = false) := by show _ = _; have := HX.out; simp [Val.eqv] at this; simp [Val.right]; grind
      go_enter Try.func21, Try.ntmps21
      go_wp2_with fail
      go_ret
      exact ⟨by rw [hr.out]; rfl, ((Kp.refl _ _).alloc _).alloc _⟩
    · have hr : Hid (Val.right ⟨3, b, n, t⟩ = decide ((t.size : Int) ≤ 64)) := by show _ = _; have := HX.out; simp [Val.eqv] at this; simp [Val.right, this]
      go_enter Try.func21, Try.ntmps21
      go_wp2_with fail
      go_ret
      exact ⟨by rw [hr.out]; rfl, ((Kp.refl _ _).alloc _).alloc _⟩
  · have d1 : (k == 1) = false := by simpa using h1
    have d2 : (k == 2) = false := by simpa using h2
    have d3 : (k == 3) = false := by simpa using h3
    have hr : Hid (Val.right ⟨k, b, n, t⟩ = false) := by show _ = _; simp [Val.right, h0, h1, h2, h3]
    by_cases hn : 0 ≤ k
    · have g1 : ¬ k ≤ 3 := by omega
      go_enter Try.func21, Try.ntmps21
      go_wp2_with fail
      go_ret
      exact ⟨by rw [hr.out]; rfl, ((Kp.refl _ _).alloc _).alloc _⟩
    · go_enter Try.func21, Try.ntmps21
      go_wp2_with fail
      go_ret
      exact ⟨by rw [hr.out]; rfl, ((Kp.refl _ _).alloc _).alloc _⟩
end Go.Proofs.Ytohkjikhlakglaa
end

section
namespace Go.Proofs.Ytohkjikhlakglaa
open Go.RowKit Go.Hay
attribute [local go_sem] Oper.semAt_some
set_option linter.unusedVariables false
set_option linter.unusedSimpArgs false

def allR (L : List Vs) : Bool := L.all fun x => x.l.all Val.right
theorem allR_snoc {L : List Vs} {j : Nat} (h : j < L.length) : allR (L.take (j + 1)) = (allR (L.take j) && L[j].l.all Val.right) := by
  unfold allR
  rw [List.take_succ_eq_append_getElem h, List.all_append]
  simp
theorem allV_snoc {l : List Val} {j : Nat} (h : j < l.length) : (l.take (j + 1)).all Val.right = ((l.take j).all Val.right && l[j].right) := by
  rw [List.take_succ_eq_append_getElem h, List.all_append]
  simp
theorem rev_snoc {L : List Vs} {j m : Nat} (h : j < L.length) (hm : m = L.length - 1 - j) : L.reverse.take (j + 1) = L.reverse.take j ++ [L.getD m default] := by
  have h2 : j < L.reverse.length := by simpa using h
  rw [List.take_succ_eq_append_getElem h2, List.getElem_reverse, List.getD_eq_getElem?_getD, List.getElem?_eq_getElem (by omega)]
  subst hm
  rfl
set_option maxHeartbeats 32000000 in
set_option maxRecDepth 100000 in
theorem sortsWalk (a0 : Option Addr) (c0 : Nat) (L0 : List Vs) (a1 : Option Addr) (c1 : Nat) (os : List (Int × Bool)) (w : World) (hs : VsE.See w a0 L0) (hx : ∀ x ∈ L0, x.lies w) (hl : L0.length ≤ 1048576) (hr : ∀ x ∈ L0, x.l.length ≤ 1048576) (ho : OrE.See w a1 os) (hol : os.length ≤ 1048576) :
    Calls Try.prog 5 #[.slice a0 L0.length c0, .slice a1 os.length c1] w fun e w' => e = .returned (.bool true) ∧ Below w.heap.size w w' := by
  have hoa : os ≠ [] → ∀ k ∈ blk a1, k < w.heap.size := fun e k hk => by
    rcases ho with h | ⟨g, o, rfl, hc⟩
    · exact absurd h e
    · obtain ⟨x, os', rfl⟩ := List.exists_cons_of_ne_nil e
      have h0 := hc 0 (.int .i64 x.1) rfl
      simp [blk] at hk
      subst hk
      exact World.block_lt_of_cell? _ _ h0
  have HS : Hid (∀ W, Kp [] w W → VsE.See W a0 L0 ∧ (∀ x ∈ L0, x.lies W) ∧ OrE.See W a1 os ∧ (os ≠ [] → ∀ k ∈ blk a1, k < W.heap.size)) := fun W k => ⟨ckSee (CK.ofKp k) hs (by simp), fun x h => (hx x h).ck (CK.ofKp k) (by simp), ho.keptNew k, fun e j hj => Nat.lt_of_lt_of_le (hoa e j hj) k.size⟩
  have HR := hid hr
  obtain ⟨R0, hR0⟩ : ∃ R, Hid (L0.map (·.l) = R) := ⟨_, rfl⟩
  have cC0 := cCopied a0 c0 L0 w hs hx (by omega) (fun x h => by have := hr x h; omega)
  rw [hR0.out] at cC0
  have cC := hid cC0
  have hRl : Hid (R0.length = L0.length ∧ ∀ l ∈ R0, l.length ≤ 1048576) := ⟨by rw [← hR0.out]; simp, fun l hm' => by rw [← hR0.out] at hm'; obtain ⟨x, hx', rfl⟩ := List.mem_map.1 hm'; exact hr x hx'⟩
  clear hs hx hr ho hoa cC0
  go_enter Try.func5, Try.ntmps5
  go_wp2_with fail
  refine cC.out.mono ?_
  rintro e w1 ⟨ra, rc, L, rfl, hlot, hL, k1⟩
  have K1 := hid k1
  have HL1 := hid (And.intro hlot hL)
  have hLn : L.length = L0.length := by have h1 := congrArg List.length hL; have h2 := hRl.out.1; rw [List.length_map] at h1; omega
  have hLn2 := hid hLn
  have hLb : L.length ≤ 1048576 := by omega
  have cS0 := cSortX ra rc L a1 c1 os w1 (by obtain ⟨_, _, e3, h, _⟩ := hlot.row.see; rw [(Value.slice.inj e3).1]; exact h) hlot.lies (HS.out w1 k1).2.2.1 (HS.out w1 k1).2.2.2 hLb hol (fun x h => by
    have h1 : x.l ∈ R0 := by rw [← hL]; exact List.mem_map.2 ⟨x, h, rfl⟩
    have := hRl.out.2 _ h1
    omega)
  rw [hL] at cS0
  have cS := hid cS0
  clear cC hlot hL k1 cS0 hLn
  go_wp2_with fail
  refine cS.out.mono ?_
  rintro e w2 ⟨sa, sc, S, rfl, hlotS, hSl, k2⟩
  have K2 := hid (K1.out.trans k2 (by simp))
  have HL2 := hid (And.intro (HL1.out.1.ck (CK.ofKp k2) (by simp) (by simp)) HL1.out.2)
  have HS2 := hid (And.intro hlotS hSl)
  have hSn : Hid (S.length = L0.length) := by
    show _ = _
    have h1 := congrArg List.length hSl
    have h2 := (srtO_perm os R0).length_eq
    have h3 := hRl.out.1
    rw [List.length_map] at h1
    omega
  have hSb : S.length ≤ 1048576 := by have := hSn.out; omega
  have cAl := hid (cAlive15 w2)
  clear cS hlotS hSl k2 HL1
  go_wp2_with fail
  refine cAl.out.mono ?_
  rintro e w3 ⟨rfl, k3⟩
  have K3 := hid (K2.out.trans k3 (by simp))
  have HL3 := hid (And.intro (HL2.out.1.ck (CK.ofKp k3) (by simp) (by simp)) HL2.out.2)
  have HS3 := hid (And.intro (HS2.out.1.ck (CK.ofKp k3) (by simp) (by simp)) HS2.out.2)
  have cR := hid (rSortO a0 c0 L0 a1 c1 os w3 (HS.out w3 K3.out).1 (HS.out w3 K3.out).2.1 (HS.out w3 K3.out).2.2.1 hl hol)
  clear cAl k3 HL2 HS2
  go_wp2_with fail
  refine cR.out.mono ?_
  rintro e w4 ⟨ma, mc, rfl, hM, k4⟩
  have K4 := hid (K3.out.trans k4 (by simp))
  have HL4 := hid (And.intro (HL3.out.1.ck (CK.ofKp k4) (by simp) (by simp)) HL3.out.2)
  have HS4 := hid (And.intro (HS3.out.1.ck (CK.ofKp k4) (by simp) (by simp)) HS3.out.2)
  have cE0 := cSameAll sa ma sc mc S (srtVs os L0) w4 (by obtain ⟨_, _, e3, h, _⟩ := HS4.out.1.row.see; rw [(Value.slice.inj e3).1]; exact h) hM HS4.out.1.lies (fun x h => (HS.out w4 K4.out).2.1 x (srtVs_in os L0 x h)) (by rw [HS4.out.2, srtVs_l, hR0.out]) (by omega)
  rw [srtVs_len] at cE0
  have cE := hid cE0
  clear cR k4 HL3 HS3 hM cE0
  go_wp2_with fail
  refine cE.out.mono ?_
  rintro e w5 ⟨rfl, k5⟩
  have K5 := hid (K4.out.trans k5 (by simp))
  have HL5 := hid (And.intro (HL4.out.1.ck (CK.ofKp k5) (by simp) (by simp)) HL4.out.2)
  have HS5 := hid (And.intro (HS4.out.1.ck (CK.ofKp k5) (by simp) (by simp)) HS4.out.2)
  have cE2 := hid (cSameAll ra a0 rc c0 L L0 w5 (by obtain ⟨_, _, e3, h, _⟩ := HL5.out.1.row.see; rw [(Value.slice.inj e3).1]; exact h) (HS.out w5 K5.out).1 HL5.out.1.lies (HS.out w5 K5.out).2.1 (by rw [HL5.out.2, hR0.out]) (by omega))
  clear cE k5 HL4 HS4
  go_wp2_with fail
  refine cE2.out.mono ?_
  rintro e w6 ⟨rfl, k6⟩
  have K6 := hid (K5.out.trans k6 (by simp))
  have HS6 := hid (And.intro (HS5.out.1.ck (CK.ofKp k6) (by simp) (by simp)) HS5.out.2)
  clear cE2 k6 HL5 HS5
  have H0 : Hid (VsE.Row w6 (.slice none (L0.reverse.take 0).length 0) (L0.reverse.take 0) ∧ (∀ k ∈ blk none, w6.heap.size ≤ k) ∧ Kp [] w6 w6) := ⟨.inl ⟨rfl, rfl⟩, by simp [blk], Kp.refl _ _⟩
  go_wp2_with fail
  go_loopw [7, 8, 35] (fun v7 v8 i wr => ∃ (j : Nat) (ta : Option Addr) (tc : Nat) (rt : Bool), j ≤ L0.length ∧ i = .int .i64 (j : Int) ∧ v7 = .slice ta j tc ∧ v8 = .bool rt ∧ Hid (allR (L0.take j) = rt) ∧ Hid (VsE.Row wr (.slice ta (L0.reverse.take j).length tc) (L0.reverse.take j) ∧ (∀ k ∈ blk ta, w6.heap.size ≤ k) ∧ Kp [] w6 wr)) (fun _ _ i _ => L0.length - (intOf i).toNat)
  case atStart => exact ⟨0, none, 0, true, Nat.zero_le _, rfl, rfl, rfl, rfl, H0⟩
  case round =>
    obtain ⟨j, ta, tc, rt, hj, rfl, rfl, rfl, hrt, H⟩ := hrel
    clear H0
    by_cases hlt : j < L0.length
    · obtain ⟨m, hm⟩ : ∃ m, m = L0.length - 1 - j := ⟨_, rfl⟩
      have hmL : m < L0.length := by omega
      have hm2 : (L0.length : Int) - 1 - (j : Int) = (m : Int) := by omega
      have hrs := hid (rev_snoc hlt hm)
      have har := hid (allR_snoc hlt)
      clear hm
      have hKr := hid (K6.out.trans H.out.2.2 (by simp))
      obtain ⟨g, o, ea, _⟩ := vsAt (HS.out wr hKr.out).1 (k := j) (x := L0[j]) (by simp [hlt])
      have hcell : Hid (∀ (k : Nat) (hk : k < L0.length) W, Kp [] w W → W.cell? ⟨g, o + k, none⟩ = some (.slice L0[k].a L0[k].l.length L0[k].c)) := fun k hk W q => by
        obtain ⟨g', o', ea', hc⟩ := vsAt (HS.out W q).1 (k := k) (x := L0[k]) (by simp [hk])
        rw [ea] at ea'
        cases ea'
        exact hc
      have hmg : L0.getD m default = L0[m] := by rw [List.getD_eq_getElem?_getD, List.getElem?_eq_getElem hmL]; rfl
      have hlen0 : (L0.reverse.take j).length = j := by rw [List.length_take, List.length_reverse]; omega
      obtain ⟨a4, c4, W4, hrun, hrow4, k4, n4⟩ := appVs1 wr (L0.reverse.take j) ta tc L0[m] H.out.1 (by omega)
      rw [← hmg, ← hrs.out] at hrow4
      have hlen1 : (L0.reverse.take j ++ [L0[m]]).length = j + 1 := by rw [List.length_append, hlen0]; rfl
      rw [hlen0, hlen1] at hrun
      have hk4 : Kp [] w6 W4 := H.out.2.2.trans k4 (fun y hy => .inr (H.out.2.1 y hy))
      have HF : Hid (VsE.Row W4 (.slice a4 (L0.reverse.take (j + 1)).length c4) (L0.reverse.take (j + 1)) ∧ (∀ k ∈ blk a4, w6.heap.size ≤ k) ∧ Kp [] w6 W4) := ⟨hrow4, fun k hk => by
        rcases n4 k hk with e | e
        · exact H.out.2.1 k e
        · have := H.out.2.2.size; omega, hk4⟩
      have hKW := hid (K6.out.trans hk4 (by simp))
      have cm := hcell.out m hmL wr hKr.out
      have cj := hcell.out j hlt W4 hKW.out
      obtain ⟨xm, hxm⟩ : ∃ x, Hid (L0[m] = x) := ⟨_, hid rfl⟩
      obtain ⟨xj, hxj⟩ : ∃ x, Hid (L0[j] = x) := ⟨_, hid rfl⟩
      rw [hxm.out] at cm hrun
      rw [hxj.out] at cj har
      have hxjl : Hid (∀ W, Kp [] w W → xj.lies W) := fun W q => by rw [← hxj.out]; exact (HS.out W q).2.1 _ (List.getElem_mem hlt)
      have hxjb : xj.l.length ≤ 1048576 := by rw [← hxj.out]; exact HR.out _ (List.getElem_mem hlt)
      obtain ⟨ma', mc', ml⟩ := xm
      obtain ⟨ja, jc, jl⟩ := xj
      dsimp only at cm cj hrun har hxjb
      have hrun' := hid hrun
      have w1' : IntKind.i64.wrap ((L0.length : Int) - 1) = (L0.length : Int) - 1 := by rw [IntKind.wrap_i64]; omega
      have w2' : IntKind.i64.wrap ((m : Int)) = (m : Int) := by rw [IntKind.wrap_i64]; omega
      have i1 : (0 : Int) ≤ (j : Int) := by omega
      have i2 : (j : Int) < (L0.length : Int) := by omega
      have i3 : (j : Int) + 1 ≤ 9223372036854775807 := by omega
      have i4 : (0 : Int) ≤ (m : Int) := by omega
      have i5 : (m : Int) < (L0.length : Int) := by omega
      have ea' := hid ea
      subst ea
      clear hrun hrow4 k4 n4 hk4 hmg hlen0 hlen1 H ea' hrs hxm
      go_wp2_with (first | (refine wpAppRunY rfl _ _ 22 22 rfl _ _ _ rfl rfl hrun'.out ?_) | fail)
      clear cm cj
      have K0 : Hid (Kp [] W4 W4) := hid (Kp.refl _ _)
      go_loopw [8, 54] (fun v8 v54 wk => ∃ (k : Nat) (rk : Bool), k ≤ jl.length ∧ v54 = .int .i64 (k : Int) ∧ v8 = .bool rk ∧ Hid ((rt && (jl.take k).all Val.right) = rk) ∧ Hid (Kp [] W4 wk)) (fun _ v54 _ => jl.length - (intOf v54).toNat)
      case atStart => exact ⟨0, rt, Nat.zero_le _, rfl, rfl, hid (by simp), K0⟩
      case round =>
        obtain ⟨k, rk, hk, rfl, rfl, hrk, Hk⟩ := hrel
        clear K0
        by_cases hkl : k < jl.length
        · have hKk := hid (hKW.out.trans Hk.out (by simp))
          have hsn := hid (allV_snoc hkl)
          obtain ⟨g2, o2, eb, y0, y1, y2, y3⟩ := (hxjl.out wr hKk.out).see.at k hkl
          dsimp only at eb
          obtain ⟨⟨vk, vb, vn, vt⟩, hv⟩ : ∃ y, Hid (jl[k] = y) := ⟨_, hid rfl⟩
          rw [hv.out] at y0 y1 y2 y3 hsn
          dsimp only at y0 y1 y2 y3
          obtain ⟨q, W1, W2, eq, e1, b1, e2, b2, kb, z2⟩ := boxV4Y wr ⟨vk, vb, vn, vt⟩
          have m0 := b1.get 0 _ rfl; have m1 := b1.get 1 _ rfl; have m2 := b1.get 2 _ rfl; have m3 := b1.get 3 _ rfl
          have f0 := b1.free 0; have f1 := b1.free 1; have f2 := b1.free 2; have f3 := b1.free 3
          have v0 := b2.get 0 _ rfl; have v1 := b2.get 1 _ rfl; have v2 := b2.get 2 _ rfl; have v3 := b2.get 3 _ rfl
          try dsimp only at e2 v0 v1 v2 v3
          have K2' := hid (Hk.out.trans kb (by simp))
          have cR := hid (cRefRight ⟨vk, vb, vn, vt⟩ W2)
          simp only [Val.v] at cR
          obtain ⟨rv, hrv⟩ : ∃ y, Hid (Val.right ⟨vk, vb, vn, vt⟩ = y) := ⟨_, hid rfl⟩
          rw [hrv.out] at hsn
          simp only [hrv.out] at cR
          have k1' : (0 : Int) ≤ (k : Int) := by omega
          have k2' : (k : Int) < (jl.length : Int) := by omega
          have k3' : (k : Int) + 1 ≤ 9223372036854775807 := by omega
          subst eb
          clear b1 b2 kb
          cases rk with
          | false =>
            have hr2 : Hid ((rt && (jl.take (k + 1)).all Val.right) = false) := hid (by rw [hsn.out, ← Bool.and_assoc, hrk.out, Bool.false_and])
            go_wp2_with fail
            go_roundw
            case rel => exact ⟨k + 1, false, by omega, by go_num, rfl, hr2, K2'⟩
            case measure => simp [intOf] <;> omega
          | true =>
            have hr2 : Hid ((rt && (jl.take (k + 1)).all Val.right) = rv) := hid (by rw [hsn.out, ← Bool.and_assoc, hrk.out, Bool.true_and])
            go_wp2_with fail
            refine cR.out.mono ?_
            rintro e W3 ⟨rfl, k3⟩
            have K3' := hid (K2'.out.trans k3 (by simp))
            clear cR k3 m0 m1 m2 m3 f0 f1 f2 f3 v0 v1 v2 v3
            go_wp2_with fail
            go_roundw
            case rel => exact ⟨k + 1, rv, by omega, by go_num, rfl, hr2, K3'⟩
            case measure => simp [intOf] <;> omega
        · have hke : k = jl.length := by omega
          have hfr : Hid (allR (L0.take (j + 1)) = rk) := hid (by rw [har.out, hrt.out, ← hrk.out, hke, List.take_length])
          have HFk : Hid (VsE.Row wr (.slice a4 (L0.reverse.take (j + 1)).length c4) (L0.reverse.take (j + 1)) ∧ (∀ k ∈ blk a4, w6.heap.size ≤ k) ∧ Kp [] w6 wr) := hid ⟨ckRow (CK.ofKp Hk.out) HF.out.1 (by simp), HF.out.2.1, HF.out.2.2.trans Hk.out (by simp)⟩
          have dj1 : ¬ (k : Int) < (jl.length : Int) := by omega
          have dj2 : decide ((k : Int) < (jl.length : Int)) = false := by simp; omega
          clear hke
          go_wp2_with fail
          go_roundw
          case rel => exact ⟨j + 1, a4, c4, rk, by omega, by go_num, rfl, rfl, hfr, HFk⟩
          case measure => simp [intOf] <;> omega
    · have hje : j = L0.length := by omega
      have hrt2 : Hid (allR L0 = rt) := hid (by rw [← hrt.out, hje, List.take_length])
      have hrev : L0.reverse.take j = L0.reverse := by rw [hje, ← List.length_reverse, List.take_length]
      rw [hrev] at H
      have hKr := hid (K6.out.trans H.out.2.2 (by simp))
      have HSr := hid (And.intro (HS6.out.1.ck (CK.ofKp H.out.2.2) (by simp) (by simp)) HS6.out.2)
      obtain ⟨_, _, e3, hsee, _⟩ := H.out.1.see
      rw [← (Value.slice.inj e3).1] at hsee
      have cS0 := cSortX ta tc L0.reverse a1 c1 os wr hsee (fun x hx => (HS.out wr hKr.out).2.1 x (List.mem_reverse.1 hx)) (HS.out wr hKr.out).2.2.1 (HS.out wr hKr.out).2.2.2 (by rw [List.length_reverse]; omega) hol (fun x hx => by have := HR.out x (List.mem_reverse.1 hx); omega)
      rw [List.length_reverse, ← hje] at cS0
      have cS := hid cS0
      have dj1 : ¬ (j : Int) < (L0.length : Int) := by omega
      have dj2 : decide ((j : Int) < (L0.length : Int)) = false := by simp; omega
      clear e3 hsee cS0 hje hrev
      cases rt with
      | false =>
        go_wp2_with fail
        go_ret
        exact ⟨rfl, hKr.out.below⟩
      | true =>
        go_wp2_with fail
        refine cS.out.mono ?_
        rintro e w7 ⟨xa, xc, X, rfl, hlX, hX, k7⟩
        have K7 := hid (hKr.out.trans k7 (by simp))
        have HS7 := hid (And.intro (HSr.out.1.ck (CK.ofKp k7) (by simp) (by simp)) HSr.out.2)
        have hXS : Hid (X.map (·.l) = S.map (·.l)) := hid (by
          rw [hX, HS7.out.2, List.map_reverse, hR0.out]
          refine (srtO_same os R0 _ (List.reverse_perm R0).symm (fun l hl' v hv => ?_)).symm
          rw [← hR0.out] at hl'
          obtain ⟨x, hx, rfl⟩ := List.mem_map.1 hl'
          exact List.all_eq_true.1 (List.all_eq_true.1 hrt2.out x hx) v hv)
        have hXn : Hid (X.length ≤ 1048576) := hid (by have := congrArg List.length hXS.out; rw [List.length_map, List.length_map] at this; omega)
        have cE := hid (cSameAll xa sa xc sc X S w7 (by obtain ⟨_, _, e3, h, _⟩ := hlX.row.see; rw [(Value.slice.inj e3).1]; exact h) (by obtain ⟨_, _, e3, h, _⟩ := HS7.out.1.row.see; rw [(Value.slice.inj e3).1]; exact h) hlX.lies HS7.out.1.lies hXS.out (by have := hXn.out; omega))
        clear cS hlX hX k7 HSr
        go_wp2_with fail
        refine cE.out.mono ?_
        rintro e w8 ⟨rfl, k8⟩
        have K8 := hid (K7.out.trans k8 (by simp))
        clear cE k8
        go_wp2_with fail
        go_ret
        exact ⟨rfl, K8.out.below⟩
end Go.Proofs.Ytohkjikhlakglaa
end

section
namespace Go.Proofs.Ytohkjikhlakglaa
open Go.ChangeShapes Go.WideShapes Go.ChangeAt Go.RowKit Go.Hay
set_option linter.unusedVariables false

set_option maxRecDepth 100000 in
theorem execSortsContract (H : Type) (enc : TypeId × Value → H) (W : World) (base : Nat) (args : Array Value) (ds gs : List (DataW H)) (before : List MemPlace)
    (hval : ∀ (j : Nat) t v, Try.f5.params[j]? = some t → args[j]? = some v → Value.okWide Try.prog W .any base t v)
    (hW : DataW.Whole enc Try.prog Try.f5.params.toList Rows.execSortsSpec.vars false W args.toList ds gs before)
    (hsz : (DataW.weightsEach Try.prog (Try.f5.params.toList ++ (Rows.OpenSpec.upto Rows.execSortsSpec).bare.plain.varTypes Try.prog) (ds ++ gs)).all (· ≤ reachBytes) = true)
    (hk : Rows.uptoSmall H (ds ++ gs) = true) :
    Calls Try.prog 5 args W fun e W' => ∃ v, e = .returned v ∧ Rows.execSortsSpec.post enc Try.prog Try.f5 false true false false W args v W' := by
  have hW' := hW
  obtain ⟨p, q, hA0, hV, rfl, hfz, hnd⟩ := hW
  have hA : DataW.TrodAll enc Try.prog W 0 (fun _ => true) true Try.f5.params.toList args.toList ds p := hA0
  rw [Try.params5] at hA hval hsz
  obtain ⟨v0, vs0, d0, ds0, p0, q0, hargs, rfl, rfl, h0, r0⟩ := trodAll_cons hA
  obtain ⟨v1, vs1, d1, ds1, p1, q1, rfl, rfl, rfl, h1, r1⟩ := trodAll_cons r0
  obtain ⟨rfl, rfl, rfl⟩ := trodAll_nil r1
  obtain rfl : args = #[v0, v1] := by cases args; simp_all
  obtain ⟨rfl, rfl⟩ := trodVars_none hV
  obtain ⟨a0, len0, cap0, rfl⟩ := okWide_slice Try.underlying22 (hval 0 22 v0 rfl rfl)
  have k0 := h0
  have lt0 : ∀ x ∈ p0, x.block < W.heap.size := by obtain ⟨m, hm⟩ := k0; exact DataW.trod_lt m _ _ _ hm
  obtain ⟨l0, rfl, hs0, hok0, hl0, hm0, hn0, hfit0, hbk0, hcp0⟩ := openVlists h0
  obtain ⟨hc0, hq0⟩ := hfit0 (List.all_eq_true.2 fun x hx => List.all_eq_true.1 hsz x (by simp [DataW.weightsEach]; first | exact .inl hx | exact .inr hx | exact .inr (.inl hx) | exact .inr (.inr hx) | exact hx))
  obtain ⟨a1, len1, cap1, rfl⟩ := okWide_slice Try.underlying44 (hval 1 44 v1 rfl rfl)
  have k1 := h1
  have lt1 : ∀ x ∈ p1, x.block < W.heap.size := by obtain ⟨m, hm⟩ := k1; exact DataW.trod_lt m _ _ _ hm
  obtain ⟨l1, rfl, hs1, hok1, hl1, hm1, hn1, hfit1, hbk1, hcp1⟩ := openOrders h1
  obtain ⟨hc1, hq1⟩ := hfit1 (List.all_eq_true.2 fun x hx => List.all_eq_true.1 hsz x (by simp [DataW.weightsEach]; first | exact .inl hx | exact .inr hx | exact .inr (.inl hx) | exact .inr (.inr hx) | exact hx))
  have hbk := of_decide_eq_true hk
  simp only [List.append_nil, Rows.uptoBulkAll] at hbk
  clear hA0
  refine (sortsWalk a0 cap0 l0 a1 cap1 l1 W hs0 hok0 (by omega) (fun x h => by have := lenOfSum hbk0 x h; omega) hs1 (by omega)).mono fun e W' ⟨he, bel⟩ => ?_
  subst he
  exact ⟨_, rfl, _, _, _, [], _, [], hW', trodAll_mk1 (shut_bool Try.underlying4 _), (trodAll_cons_mk (Below.trod Try.laidOut (by kernel_rfl) (of_decide_eq_true (by kernel_rfl)) k0 bel lt0) (trodAll_cons_mk (Below.trod Try.laidOut (by kernel_rfl) (of_decide_eq_true (by kernel_rfl)) k1 bel lt1) trodAll_mk0)), rfl, bel.frame _, fun h => by cases h⟩

set_option maxRecDepth 100000 in
theorem execSortsLifted (os : Os) (started : os.Started) (H : Type) (enc : TypeId × Value → H) (F : Stop.Interp) :
    ReturnsInHanded {} Try.checked os 5 .any ((Rows.OpenSpec.upto Rows.execSortsSpec).pre6 enc Try.prog Try.f5 Rows.execSortsUptoRow.domain false) (((Rows.OpenSpec.upto Rows.execSortsSpec).at F).post enc Try.prog Try.f5 false true false false) := by
  refine returnsInHanded_of_cond_sized (C := Try.checked) (s := Rows.OpenSpec.upto Rows.execSortsSpec) (k := Rows.uptoSmall) rfl Try.own started (by kernel_rfl) Try.func5
    (OpenSpec.witness (enc := enc) (C := Try.checked) (s := Rows.OpenSpec.upto Rows.execSortsSpec) (k := Rows.uptoSmall) rfl false ⟨#[], #[.slice none 0 0, .slice none 0 0], []⟩ 8 (by kernel_rfl) (by kernel_rfl) (by kernel_rfl)
      (x := ([.nil, .nil], [], [])) (by kernel_rfl) rfl (by kernel_rfl)) ?_
  intro W base args ds gs before hval hW _ hk hsz _
  exact execSortsContract H enc W base args ds gs before hval hW hsz hk

theorem ExecSorts_holds : Rows.ExecSortsUptoSaid :=
  OpenClaim.holds_of_cond 5 Try.f5 rfl rfl rfl rfl rfl rfl rfl ⟨rfl, rfl, rfl, rfl, rfl⟩ rfl rfl rfl rfl rfl (by kernel_rfl) Try.func5 (by kernel_rfl)
    (of_decide_eq_true (by kernel_rfl)) (by unfold Func.isWrapper; first | (rw [if_pos (by decide +kernel)]; kernel_rfl) | (rw [if_neg (by decide +kernel)]; exact ⟨rfl, rfl⟩))
    (fun os started H enc _ F => execSortsLifted os started H enc F)

#print axioms ExecSorts_holds
end Go.Proofs.Ytohkjikhlakglaa
end

/- The reference's nibble and integer. -/
import Derived.Test.YtboibllahibicaaDoorVdec
namespace Go.Proofs.YtboibllahibicaaDoor
open Go.RowKit Go.Hay
set_option linter.unusedVariables false
set_option linter.unusedSimpArgs false

/-- What a digit says; -1: it is none. -/
def nibV (c : UInt8) : Int := if 48 ≤ c.toNat ∧ c.toNat ≤ 57 then (c.toNat : Int) - 48 else if 97 ≤ c.toNat ∧ c.toNat ≤ 102 then (c.toNat : Int) - 87 else -1
theorem nib_hex (n : Nat) (h : n < 16) : nibV (hexB n) = n := by
  match n, h with
  | 0, _ => decide
  | 1, _ => decide
  | 2, _ => decide
  | 3, _ => decide
  | 4, _ => decide
  | 5, _ => decide
  | 6, _ => decide
  | 7, _ => decide
  | 8, _ => decide
  | 9, _ => decide
  | 10, _ => decide
  | 11, _ => decide
  | 12, _ => decide
  | 13, _ => decide
  | 14, _ => decide
  | 15, _ => decide
  | n + 16, h => omega
theorem nib_none (c : UInt8) (h : ∀ n, n < 16 → hexB n ≠ c) : nibV c = -1 := by
  have hc := c.toNat_lt
  unfold nibV
  by_cases h1 : 48 ≤ c.toNat ∧ c.toNat ≤ 57
  · exfalso
    refine h (c.toNat - 48) (by omega) (UInt8.toNat_inj.1 ?_)
    unfold hexB
    rw [if_pos (by omega), UInt8.toNat_ofNat']
    omega
  · rw [if_neg h1]
    by_cases h2 : 97 ≤ c.toNat ∧ c.toNat ≤ 102
    · exfalso
      refine h (c.toNat - 87) (by omega) (UInt8.toNat_inj.1 ?_)
      unfold hexB
      rw [if_neg (by omega), UInt8.toNat_ofNat']
      omega
    · rw [if_neg h2]
theorem nib_range (c : UInt8) : -1 ≤ nibV c ∧ nibV c ≤ 15 := by
  unfold nibV
  split
  · omega
  split
  · omega
  · omega

set_option maxHeartbeats 4000000 in
set_option maxRecDepth 100000 in
theorem cNibble (c : UInt8) (m : Int) (hm : m = (c.toNat : Int)) (w : World) : Calls Tryd.prog 53 #[.int .u8 m] w fun e w' => e = .returned (.int .i64 (nibV c)) ∧ w' = w := by
  subst hm
  go_enter Tryd.func53, Tryd.ntmps53
  go_wp2_with fail
  go_loopw [3] (fun i wn => ∃ j : Nat, j ≤ 16 ∧ i = .int .i64 j ∧ Hid (∀ n, n < j → hexB n ≠ c) ∧ wn = w) (fun i _ => 16 - (intOf i).toNat)
  case atStart => exact ⟨0, by omega, rfl, fun n hn => by omega, rfl⟩
  case round =>
    obtain ⟨j, hj, rfl, hno, rfl⟩ := hrel
    by_cases hj16 : j < 16
    · go_wp2_with fail
      refine (cHex j _ (by omega) hj16 _).mono ?_
      rintro e w' ⟨rfl, rfl⟩
      by_cases hh : hexB j = c
      · have hn : Hid (nibV c = j) := by show _ = _; rw [← hh]; exact nib_hex j hj16
        have e1 : (((hexB j).toNat : Int) == (c.toNat : Int)) = true := by rw [hh]; simp
        clear hh hno
        go_wp2_with fail
        go_ret
        exact ⟨by rw [hn.out]; rfl, rfl⟩
      · have e1 : (((hexB j).toNat : Int) == (c.toNat : Int)) = false := by
          have : (hexB j).toNat ≠ c.toNat := fun h => hh (UInt8.toNat_inj.1 h)
          simp; omega
        have hn2 : Hid (∀ n, n < j + 1 → hexB n ≠ c) := by
          show ∀ n, n < j + 1 → hexB n ≠ c
          intro n hn
          by_cases e : n = j
          · rw [e]; exact hh
          · exact hno.out n (by omega)
        clear hh hno
        go_wp2_with fail
        exact ⟨⟨j + 1, by omega, by go_num, hn2, by first | rfl | trivial⟩, by simp [intOf]; omega⟩
    · have hjj : j = 16 := by omega
      subst hjj
      have hn : Hid (nibV c = -1) := nib_none c hno.out
      clear hno
      go_wp2_with fail
      go_ret
      exact ⟨by rw [hn.out]; rfl, rfl⟩

/-- A step of the reading of digits. -/
def istep (n : Int) (c : UInt8) : Int := if c = 45 then n else IntKind.i64.wrap (IntKind.i64.wrap (IntKind.i64.wrap (n * 10) - (c.toNat : Int)) + 48)
def intF (l : List UInt8) : Int := l.foldl istep 0
def integerV (l : List UInt8) : Int := if l.head? = some 45 then intF l else IntKind.i64.wrap (-(intF l))
theorem intF_take (l : List UInt8) (j : Nat) (h : j < l.length) : intF (l.take (j + 1)) = istep (intF (l.take j)) l[j] := by
  unfold intF
  rw [← List.take_append_getElem h, List.foldl_append]
  rfl
theorem istep_range (n : Int) (c : UInt8) (h0 : -9223372036854775808 ≤ n) (h1 : n ≤ 9223372036854775807) : -9223372036854775808 ≤ istep n c ∧ istep n c ≤ 9223372036854775807 := by
  unfold istep
  split
  · exact ⟨h0, h1⟩
  · rw [IntKind.wrap_i64]; omega
theorem istep_digit (u d : Nat) (hd : d < 10) (h : u * 10 + d ≤ 9223372036854775808) : istep (-(u : Int)) (UInt8.ofNat (48 + d)) = -((u * 10 + d : Nat) : Int) := by
  unfold istep
  rw [if_neg (fun e => by have := congrArg UInt8.toNat e; rw [ofNat_digit d hd] at this; have h45 : (45 : UInt8).toNat = 45 := rfl; omega), ofNat_digit d hd, IntKind.wrap_i64, IntKind.wrap_i64, IntKind.wrap_i64]
  omega
theorem intF_dec : ∀ (f u : Nat), u ≤ f → u ≤ 9223372036854775808 → intF (Lib.decDigits u) = -(u : Int) := by
  intro f
  induction f with
  | zero =>
    intro u hu _
    obtain rfl : u = 0 := by omega
    rw [Lib.decDigits_one (by omega)]
    exact istep_digit 0 0 (by omega) (by omega)
  | succ f ih =>
    intro u hu hM
    by_cases h : u < 10
    · rw [Lib.decDigits_one h]
      have := istep_digit 0 u h (by omega)
      simpa [intF] using this
    · rw [Lib.decDigits, dif_neg h]
      unfold intF
      rw [List.foldl_append]
      have h1 := ih (u / 10) (by omega) (by omega)
      unfold intF at h1
      rw [h1]
      have h2 := istep_digit (u / 10) (u % 10) (by omega) (by omega)
      rw [show u / 10 * 10 + u % 10 = u by omega] at h2
      exact h2
theorem integer_itoa (m : Int) (h0 : -9223372036854775808 ≤ m) (h1 : m ≤ 9223372036854775807) : integerV (Lib.itoa m) = m := by
  unfold integerV
  by_cases hn : m < 0
  · obtain ⟨u, rfl⟩ : ∃ u : Nat, m = -(u : Int) := ⟨m.natAbs, by omega⟩
    rw [Lib.itoa_neg u (by omega), if_pos (show (45 :: Lib.decDigits u).head? = some 45 from rfl)]
    have : intF (45 :: Lib.decDigits u) = intF (Lib.decDigits u) := rfl
    rw [this, intF_dec u u (Nat.le_refl _) (by omega)]
  · obtain ⟨u, rfl⟩ : ∃ u : Nat, m = (u : Int) := ⟨m.toNat, by omega⟩
    obtain ⟨c, r, hc, h2, h3⟩ := dec_head u u (Nat.le_refl _)
    rw [Lib.itoa_nonneg, if_neg (by rw [hc]; intro e; have : c = 45 := by simpa using e
                                    subst this; have h45 : (45 : UInt8).toNat = 45 := rfl; omega), intF_dec u u (Nat.le_refl _) (by omega), IntKind.wrap_i64]
    omega
theorem integerV_range (l : List UInt8) (h : -9223372036854775808 ≤ intF l ∧ intF l ≤ 9223372036854775807) : -9223372036854775808 ≤ integerV l ∧ integerV l ≤ 9223372036854775807 := by
  unfold integerV
  split
  · exact h
  · rw [IntKind.wrap_i64]; omega
end Go.Proofs.YtboibllahibicaaDoor

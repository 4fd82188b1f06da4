/- Numerals, and which text is whose: plain mathematics. -/
import Derived.Test.YtboibllahibicaaDoorVprt
import Derived.Lib.ParseIntBTie
namespace Go.Proofs.YtboibllahibicaaDoor
open Go.Hay
set_option linter.unusedVariables false
set_option linter.unusedSimpArgs false

theorem ofNat_digit (d : Nat) (h : d < 10) : (UInt8.ofNat (48 + d)).toNat = 48 + d := by rw [UInt8.toNat_ofNat']; omega
theorem dec_head : ∀ (f u : Nat), u ≤ f → ∃ c r, Lib.decDigits u = c :: r ∧ 48 ≤ c.toNat ∧ c.toNat ≤ 57 := by
  intro f
  induction f with
  | zero =>
    intro u hu
    obtain rfl : u = 0 := by omega
    exact ⟨_, [], Lib.decDigits_one (by omega), by decide, by decide⟩
  | succ f ih =>
    intro u hu
    by_cases h : u < 10
    · exact ⟨_, [], Lib.decDigits_one h, by rw [ofNat_digit u h]; omega, by rw [ofNat_digit u h]; omega⟩
    · obtain ⟨c, r, h1, h2, h3⟩ := ih (u / 10) (by omega)
      refine ⟨c, r ++ [UInt8.ofNat (48 + u % 10)], ?_, h2, h3⟩
      rw [Lib.decDigits, dif_neg h, h1]
      rfl
theorem parse_dec : ∀ (f u : Nat) (r : List UInt8), u ≤ f → u ≤ 18446744073709551615 → Lib.parseUintM 18446744073709551615 0 (Lib.decDigits u ++ r) = Lib.parseUintM 18446744073709551615 u r := by
  intro f
  induction f with
  | zero =>
    intro u r hu _
    obtain rfl : u = 0 := by omega
    rw [Lib.decDigits_one (by omega), List.singleton_append, Lib.parseUintM, if_pos (by decide), if_neg (by omega), if_neg (by decide)]
    rfl
  | succ f ih =>
    intro u r hu hM
    by_cases h : u < 10
    · rw [Lib.decDigits_one h, List.singleton_append, Lib.parseUintM, ofNat_digit u h, if_pos (by omega), if_neg (by omega), if_neg (by omega)]
      congr 1
      omega
    · rw [Lib.decDigits, dif_neg h, List.append_assoc, ih (u / 10) _ (by omega) (by omega), List.singleton_append, Lib.parseUintM, ofNat_digit _ (by omega), if_pos (by omega), if_neg (by omega), if_neg (by omega)]
      congr 1
      omega
theorem parse_digits (u : Nat) (h : u ≤ 18446744073709551615) : Lib.parseUintB 64 (Lib.decDigits u) = .ok u := by
  obtain ⟨c, r, hc, _⟩ := dec_head u u (Nat.le_refl _)
  unfold Lib.parseUintB
  rw [if_neg (by rw [hc]; simp)]
  have := parse_dec u u [] (Nat.le_refl _) h
  rw [List.append_nil] at this
  exact this
theorem parse_itoa (n : Int) (h0 : -9223372036854775808 ≤ n) (h1 : n ≤ 9223372036854775807) : Lib.parseIntB 64 (Lib.itoa n) = .ok n := by
  have e63 : (2 : Nat) ^ (64 - 1) = 9223372036854775808 := by decide
  by_cases hn : n < 0
  · obtain ⟨u, rfl⟩ : ∃ u : Nat, n = -(u : Int) := ⟨n.natAbs, by omega⟩
    rw [Lib.itoa_neg u (by omega), Lib.parseIntB_minus, parse_digits u (by omega), e63]
    unfold Lib.signedC
    dsimp only
    rw [if_neg (by omega)]
  · obtain ⟨u, rfl⟩ : ∃ u : Nat, n = (u : Int) := ⟨n.toNat, by omega⟩
    obtain ⟨c, r, hc, h2, h3⟩ := dec_head u u (Nat.le_refl _)
    rw [Lib.itoa_nonneg, hc, Lib.parseIntB_plain 64 c r (by omega) (by omega), ← hc, parse_digits u (by omega), e63]
    unfold Lib.signlessC
    dsimp only
    rw [if_neg (by omega)]
theorem itoa_head (n : Int) : ∃ c r, Lib.itoa n = c :: r ∧ (c.toNat = 45 ∨ (48 ≤ c.toNat ∧ c.toNat ≤ 57)) := by
  by_cases hn : n < 0
  · obtain ⟨u, rfl⟩ : ∃ u : Nat, n = -(u : Int) := ⟨n.natAbs, by omega⟩
    exact ⟨45, _, Lib.itoa_neg u (by omega), .inl rfl⟩
  · obtain ⟨u, rfl⟩ : ∃ u : Nat, n = (u : Int) := ⟨n.toNat, by omega⟩
    obtain ⟨c, r, hc, h2, h3⟩ := dec_head u u (Nat.le_refl _)
    exact ⟨c, r, (Lib.itoa_nonneg u).trans hc, .inr ⟨h2, h3⟩⟩
theorem fbool (b : Bool) : Lib.formatBool b = if b then [116, 114, 117, 101] else [102, 97, 108, 115, 101] := by
  cases b
  · decide
  · decide

theorem emptyBytes (t : ByteArray) (h : t.toList = []) : t = ⟨#[]⟩ := by
  rw [← Lib.mk_data t, ← Lib.toList_data, h]
theorem right_null {y : Val} (h : y.right = true) (hk : y.k = 0) : y = ⟨0, false, 0, ⟨#[]⟩⟩ := by
  unfold Val.right at h
  rw [if_pos hk] at h
  simp at h
  obtain ⟨k, b, n, t⟩ := y
  dsimp only at h hk
  rw [hk, h.1, h.2.1, emptyBytes t h.2.2]
theorem right_bool {y : Val} (h : y.right = true) (hk : y.k = 1) : y = ⟨1, y.b, 0, ⟨#[]⟩⟩ := by
  unfold Val.right at h
  rw [if_neg (by omega), if_pos hk] at h
  simp at h
  obtain ⟨k, b, n, t⟩ := y
  dsimp only at h hk ⊢
  rw [hk, h.1, emptyBytes t h.2]
theorem right_int {y : Val} (h : y.right = true) (hk : y.k = 2) : y = ⟨2, false, y.n, ⟨#[]⟩⟩ := by
  unfold Val.right at h
  rw [if_neg (by omega), if_neg (by omega), if_pos hk] at h
  simp at h
  obtain ⟨k, b, n, t⟩ := y
  dsimp only at h hk ⊢
  rw [hk, h.1, emptyBytes t h.2]
theorem right_txt {y : Val} (h : y.right = true) (hk : y.k = 3) : y = ⟨3, false, 0, y.t⟩ ∧ y.t.size ≤ 64 := by
  have h64 := right_text h hk
  unfold Val.right at h
  rw [if_neg (by omega), if_neg (by omega), if_neg (by omega), if_pos hk] at h
  simp at h
  obtain ⟨k, b, n, t⟩ := y
  dsimp only at h hk h64 ⊢
  refine ⟨?_, h64⟩
  rw [hk, h.1.1, h.1.2]

theorem print_null {y : Val} (h : y.right = true) (hk : y.k = 0) : printB y = [110, 117, 108, 108] := by unfold printB; rw [if_pos h, if_pos hk]
theorem print_bool {y : Val} (h : y.right = true) (hk : y.k = 1) : printB y = if y.b then [116, 114, 117, 101] else [102, 97, 108, 115, 101] := by unfold printB; rw [if_pos h, if_neg (by omega), if_pos hk, fbool]
theorem print_int {y : Val} (h : y.right = true) (hk : y.k = 2) : printB y = Lib.itoa y.n := by unfold printB; rw [if_pos h, if_neg (by omega), if_neg (by omega), if_pos hk]
theorem print_text {y : Val} (h : y.right = true) (hk : y.k = 3) : printB y = quoteB y.t.data.toList := by unfold printB; rw [if_pos h, if_neg (by omega), if_neg (by omega), if_neg (by omega)]
/-- The first byte tells the kind. -/
theorem print_head {y : Val} (h : y.right = true) : ∃ c r, printB y = c :: r ∧ ((y.k = 0 ∧ c = 110) ∨ (y.k = 1 ∧ (c = 116 ∨ c = 102)) ∨ (y.k = 2 ∧ (c.toNat = 45 ∨ (48 ≤ c.toNat ∧ c.toNat ≤ 57))) ∨ (y.k = 3 ∧ c = 34)) := by
  rcases right_kind h with hk | hk | hk | hk
  · exact ⟨_, _, print_null h hk, .inl ⟨hk, rfl⟩⟩
  · have := print_bool h hk
    cases hb : y.b
    · rw [hb] at this; exact ⟨_, _, this, .inr (.inl ⟨hk, .inr rfl⟩)⟩
    · rw [hb] at this; exact ⟨_, _, this, .inr (.inl ⟨hk, .inl rfl⟩)⟩
  · obtain ⟨c, r, h1, h2⟩ := itoa_head y.n
    exact ⟨c, r, (print_int h hk).trans h1, .inr (.inr (.inl ⟨hk, h2⟩))⟩
  · exact ⟨_, _, print_text h hk, .inr (.inr (.inr ⟨hk, rfl⟩))⟩
end Go.Proofs.YtboibllahibicaaDoor

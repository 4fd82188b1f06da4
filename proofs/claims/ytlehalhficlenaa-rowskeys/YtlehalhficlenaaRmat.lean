/- Plain mathematics: a number's bytes, a number of bytes. -/
import Derived.Test.YtlehalhficlenaaMat2
import Derived.Test.YtlehalhficlenaaMem
import Derived.Laws.BitsAllLaws
namespace Go.Hay
open Go.RowKit
set_option linter.unusedVariables false

theorem octet_shift (n : Int) (j : Nat) (h0 : 0 ≤ n) : octet (n / 2 ^ (8 * j) % 256) = UInt8.ofNat (n.toNat / 256 ^ j % 256) := by
  obtain ⟨m, rfl⟩ := Int.eq_ofNat_of_zero_le h0
  unfold octet
  have e : ((m : Int) / 2 ^ (8 * j) % 256) = ((m / 256 ^ j % 256 : Nat) : Int) := by
    rw [Int.pow_mul]
    simp
  rw [e, Int.toNat_natCast, Int.toNat_natCast]
theorem shift_bd (n : Int) (j : Nat) : 0 ≤ n / 2 ^ (8 * j) % 256 ∧ n / 2 ^ (8 * j) % 256 ≤ 255 := by omega
/-- The low bytes of n, noughts ahead: what stands in eight bytes when j of them are laid. -/
def low8 (n j : Nat) : List UInt8 := List.replicate (8 - j) 0 ++ be n j
theorem low8_length (n j : Nat) (h : j ≤ 8) : (low8 n j).length = 8 := by simp [low8, be_length]; omega
theorem low8_succ (n j : Nat) (h : j < 8) : low8 n (j + 1) = (low8 n j).set (7 - j) (UInt8.ofNat (n / 256 ^ j % 256)) := by
  unfold low8
  rw [be, show 8 - j = (7 - j) + 1 by omega, List.replicate_succ', List.append_assoc, List.set_append_right _ _ (by simp)]
  simp [show 8 - (j + 1) = 7 - j by omega]
theorem low8_all (n : Nat) : low8 n 8 = be n 8 := by simp [low8]
theorem or_byte (m x : Nat) (hm : m < 72057594037927936) (hx : x < 256) : bits BinOp.or IntKind.u64 (IntKind.u64.wrap ((m : Int) * 256)) (x : Int) = ((m * 256 + x : Nat) : Int) := by
  have e : IntKind.u64.wrap ((m : Int) * 256) = ((m * 256 : Nat) : Int) := by rw [IntKind.wrap_u64]; omega
  rw [e, bits_or_u64_nat _ _ (by omega) (by omega)]
  have := Nat.two_pow_add_eq_or_of_lt (i := 8) (b := x) (by omega) m
  rw [Nat.mul_comm m 256]
  congr 1
  exact this.symm
theorem num_take_succ (xs : List UInt8) (k : Nat) (h : k < xs.length) : num (xs.take (k + 1)) = num (xs.take k) * 256 + xs[k].toNat := by
  rw [List.take_succ_eq_append_getElem h, num_snoc]
theorem num_take_lt (xs : List UInt8) (k : Nat) (h : k ≤ 7) : num (xs.take k) < 72057594037927936 := by
  have h1 := num_lt (xs.take k)
  have h2 : (xs.take k).length ≤ 7 := by simp; omega
  have h3 : 256 ^ (xs.take k).length ≤ 256 ^ 7 := Nat.pow_le_pow_right (by omega) h2
  omega
theorem num_lt64 (xs : List UInt8) (h : xs.length ≤ 8) : num xs < 18446744073709551616 := by
  have h1 := num_lt xs
  have h3 : 256 ^ xs.length ≤ 256 ^ 8 := Nat.pow_le_pow_right (by omega) h
  omega
end Go.Hay

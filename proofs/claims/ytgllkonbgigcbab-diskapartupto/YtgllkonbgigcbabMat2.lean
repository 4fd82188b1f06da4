/- More plain mathematics: a number and its bytes, back and forth; what a Var read comes to. -/
import Derived.Test.YtgllkonbgigcbabMath
namespace Go.Hay
set_option linter.unusedVariables false

theorem be_snoc (n k : Nat) : be n (k + 1) = be (n / 256) k ++ [UInt8.ofNat (n % 256)] := by
  induction k with
  | zero => simp [be]
  | succ k ih =>
    rw [be, ih, be, List.cons_append]
    congr 2
    rw [Nat.div_div_eq_div_mul, Nat.pow_succ, Nat.mul_comm]
theorem be_num_rev (l : List UInt8) : be (num l.reverse) l.length = l.reverse := by
  induction l with
  | nil => simp [be]
  | cons x l ih =>
    have hx := x.toNat_lt
    rw [List.reverse_cons, num_snoc, List.length_cons, be_snoc, show (num l.reverse * 256 + x.toNat) / 256 = num l.reverse by omega, ih, show (num l.reverse * 256 + x.toNat) % 256 = x.toNat by omega, UInt8.ofNat_toNat]
theorem be_num (xs : List UInt8) : be (num xs) xs.length = xs := by simpa using be_num_rev xs.reverse
theorem num_be (n k : Nat) : num (be n k) = n % 256 ^ k := by
  induction k generalizing n with
  | zero => simp [be, num, Nat.mod_one]
  | succ k ih =>
    rw [be_snoc, num_snoc, ih, UInt8.toNat_ofNat', show 256 ^ (k + 1) = 256 * 256 ^ k by rw [Nat.pow_succ, Nat.mul_comm], Nat.mod_mul]
    omega
theorem octet_nat (x : UInt8) : octet x.toNat = x := by simp [octet]

/-- What is read as a number is written as the same bytes. -/
theorem fv_back (bs : List UInt8) (h : (fv bs).2.2 = 0) : varB (fv bs).1 = bs.take (fv bs).2.1.toNat ∧ 1 ≤ (fv bs).2.1 := by
  cases bs with
  | nil => simp [fv] at h
  | cons f r =>
    have hf := f.toNat_lt
    have hb := behindI_bd f.toNat
    simp only [fv] at h ⊢
    split
    · rename_i h0
      have hl : leadI f.toNat = f.toNat := by
        unfold behindI at h0
        unfold leadI
        repeat (first | split at h0 | (split <;> omega) | omega)
      simp only [varB, hl, h0, octet_nat]
      simp [be]
    · rename_i h0
      rw [if_neg h0] at h
      by_cases h1 : (r.length : Int) < behindI f.toNat
      · rw [if_pos h1] at h; simp at h
      rw [if_neg h1] at h ⊢
      by_cases h2 : leadI (num (r.take (behindI f.toNat).toNat)) ≠ f.toNat
      · rw [if_pos h2] at h; simp at h
      rw [if_neg h2]
      have h3 : leadI (num (r.take (behindI f.toNat).toNat)) = f.toNat := Decidable.not_not.1 h2
      obtain ⟨k, hk⟩ : ∃ k : Nat, behindI f.toNat = k := ⟨(behindI f.toNat).toNat, by omega⟩
      rw [hk, Int.toNat_natCast] at h3
      have hlen : (r.take k).length = k := by simp; omega
      refine ⟨?_, by show 1 ≤ 1 + behindI f.toNat; omega⟩
      show varB (num (r.take (behindI f.toNat).toNat)) = List.take (1 + behindI f.toNat).toNat (f :: r)
      rw [hk, Int.toNat_natCast]
      simp only [varB]
      rw [h3, hk, Int.toNat_natCast, Int.toNat_natCast, octet_nat]
      have e := be_num (r.take k)
      rw [hlen] at e
      rw [e, show (1 + (k : Int)).toNat = k + 1 by omega, List.take_succ_cons]

/-- Of a Var that was read: in words that the law uses. -/
theorem varS_cases (most : Int) (bs : List UInt8) {n : Int} {bs' : List UInt8} {e' : Int} (h0 : 0 ≤ most) (h : varS most bs 0 = (n, bs', e')) :
    0 ≤ n ∧ n < 18446744073709551616 ∧ bs'.length ≤ bs.length ∧ (e' ≠ 0 → n = 0 ∧ bs' = bs) ∧ (e' = 0 → n ≤ most ∧ varB n = bs.take (bs.length - bs'.length)) := by
  have hbd := fv_bd bs
  have hbk := fv_back bs
  unfold varS at h
  rw [if_neg (by simp)] at h
  split at h
  · rename_i h1
    cases h
    exact ⟨by omega, by omega, Nat.le_refl _, fun _ => ⟨rfl, rfl⟩, fun h => absurd h h1⟩
  · rename_i h1
    have h1' : (fv bs).2.2 = 0 := Decidable.not_not.1 h1
    have hbk := hbk h1'
    split at h
    · cases h
      exact ⟨by omega, by omega, Nat.le_refl _, fun _ => ⟨rfl, rfl⟩, fun h => by simp at h⟩
    · cases h
      refine ⟨by omega, by omega, by simp, fun h => absurd rfl h, fun _ => ⟨by omega, ?_⟩⟩
      rw [hbk.1]
      congr 1
      rw [List.length_drop]
      omega
end Go.Hay

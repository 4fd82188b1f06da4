/- The order of rows is total: plain mathematics. -/
import Derived.Test.YtlehalhficlenaaVmat
namespace Go.Proofs.Ytlehalhficlenaa
open Go.Hay
set_option linter.unusedVariables false
set_option linter.unusedSimpArgs false

theorem cmp_strict (a b c : Val) (h : cmpV a b < 0) (k : cmpV b c ≤ 0) : cmpV a c < 0 := by
  have h1 := cmp_trans a b c (by omega) k
  by_cases h2 : cmpV a c = 0
  · have h3 := cmp_neg a c
    have h4 := cmp_trans b c a k (by omega)
    have h5 := cmp_neg a b
    omega
  · omega
theorem cmp_strict' (a b c : Val) (h : cmpV a b ≤ 0) (k : cmpV b c < 0) : cmpV a c < 0 := by
  have h1 := cmp_trans a b c h (by omega)
  by_cases h2 : cmpV a c = 0
  · have h3 := cmp_neg a c
    have h4 := cmp_trans c a b (by omega) h
    have h5 := cmp_neg b c
    omega
  · omega
theorem rows_neg : ∀ a b : List Val, rowsV b a = -rowsV a b
  | [], [] => rfl
  | [], _ :: _ => rfl
  | _ :: _, [] => rfl
  | x :: a, y :: b => by
    have h := cmp_neg x y
    simp only [rowsV]
    by_cases h0 : cmpV x y = 0
    · rw [if_pos h0, if_pos (by omega), rows_neg a b]
    · rw [if_neg h0, if_neg (by omega), h]
theorem rows_self : ∀ a : List Val, rowsV a a = 0
  | [] => rfl
  | x :: a => by simp only [rowsV, cmp_self, if_true, rows_self a]
theorem rows_range : ∀ a b : List Val, rowsV a b = -1 ∨ rowsV a b = 0 ∨ rowsV a b = 1
  | [], [] => .inr (.inl rfl)
  | [], _ :: _ => .inl rfl
  | _ :: _, [] => .inr (.inr rfl)
  | x :: a, y :: b => by
    simp only [rowsV]
    split
    · exact rows_range a b
    · exact cmp_range x y
theorem rows_trans : ∀ a b c : List Val, rowsV a b ≤ 0 → rowsV b c ≤ 0 → rowsV a c ≤ 0
  | [], _, [], _, _ => by simp [rowsV]
  | [], _, _ :: _, _, _ => by simp [rowsV]
  | _ :: _, [], _, h, _ => by simp [rowsV] at h
  | _ :: _, _ :: _, [], _, h => by simp [rowsV] at h
  | x :: a, y :: b, z :: c, h1, h2 => by
    simp only [rowsV] at h1 h2 ⊢
    have ih := rows_trans a b c
    by_cases e1 : cmpV x y = 0
    · rw [if_pos e1] at h1
      by_cases e2 : cmpV y z = 0
      · rw [if_pos e2] at h2
        have h3 := cmp_trans x y z (by omega) (by omega)
        have h4 := cmp_neg x y
        have h5 := cmp_neg y z
        have h6 := cmp_neg x z
        have h7 := cmp_trans z y x (by omega) (by omega)
        rw [if_pos (by omega)]
        exact ih h1 h2
      · rw [if_neg e2] at h2
        have := cmp_strict' x y z (by omega) (by omega)
        rw [if_neg (by omega)]
        omega
    · rw [if_neg e1] at h1
      have : cmpV y z ≤ 0 := by
        by_cases e2 : cmpV y z = 0
        · omega
        · rw [if_neg e2] at h2; omega
      have := cmp_strict x y z (by omega) this
      rw [if_neg (by omega)]
      omega
theorem rows_less : ∀ a : List Val, a ≠ [] → rowsV (a.take (a.length - 1)) a = -1
  | [], h => absurd rfl h
  | [x], _ => rfl
  | x :: y :: a, _ => by
    have ih := rows_less (y :: a) (by simp)
    simp only [List.length_cons, Nat.add_sub_cancel] at ih ⊢
    rw [List.take_succ_cons]
    simp only [rowsV, cmp_self, if_true]
    exact ih

/-- Are two rows the same? -/
def sameV : List Val → List Val → Bool
  | [], [] => true
  | x :: a, y :: b => x.eqv y && sameV a b
  | _, _ => false
theorem same_step (a b : List Val) (j : Nat) (ha : j < a.length) (hb : j < b.length) : sameV (a.drop j) (b.drop j) = (a[j].eqv b[j] && sameV (a.drop (j + 1)) (b.drop (j + 1))) := by
  rw [List.drop_eq_getElem_cons ha, List.drop_eq_getElem_cons hb, sameV]
theorem same_length : ∀ a b : List Val, a.length ≠ b.length → sameV a b = false
  | [], [], h => absurd rfl h
  | [], _ :: _, _ => rfl
  | _ :: _, [], _ => rfl
  | x :: a, y :: b, h => by
    rw [sameV, same_length a b (by simpa using h)]
    simp
theorem rows_same : ∀ a b : List Val, (∀ x ∈ a, x.right = true) → (∀ x ∈ b, x.right = true) → (rowsV a b == 0) = sameV a b
  | [], [], _, _ => rfl
  | [], _ :: _, _, _ => rfl
  | _ :: _, [], _, _ => rfl
  | x :: a, y :: b, ha, hb => by
    have h1 := cmp_eqv x y (ha x (by simp)) (hb y (by simp))
    have ih := rows_same a b (fun z hz => ha z (by simp [hz])) (fun z hz => hb z (by simp [hz]))
    simp only [rowsV, sameV]
    rw [← h1, ← ih]
    by_cases e : cmpV x y = 0
    · rw [if_pos e, e]; rfl
    · rw [if_neg e]
      have e2 : (cmpV x y == 0) = false := by simpa using e
      rw [e2]; rfl
end Go.Proofs.Ytlehalhficlenaa

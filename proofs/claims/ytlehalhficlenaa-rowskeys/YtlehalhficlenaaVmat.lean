/- The order of values is total: plain mathematics. -/
import Derived.Test.YtlehalhficlenaaVrow
import Derived.Test.YtlehalhficlenaaVrig
namespace Go.Proofs.Ytlehalhficlenaa
open Go.Hay
set_option linter.unusedVariables false
set_option linter.unusedSimpArgs false

theorem less_ntrans : ∀ a b c : List UInt8, Op.bytesLess b a = false → Op.bytesLess c b = false → Op.bytesLess c a = false
  | [], _, c, _, _ => by cases c <;> rfl
  | x :: a, [], c, h, _ => by simp [Op.bytesLess] at h
  | x :: a, y :: b, [], _, h => by simp [Op.bytesLess] at h
  | x :: a, y :: b, z :: c, h1, h2 => by
    have ih := less_ntrans a b c
    simp only [Op.bytesLess, Bool.or_eq_false_iff, decide_eq_false_iff_not, Bool.and_eq_false_iff, beq_eq_false_iff_ne, ne_eq] at h1 h2 ⊢
    rw [UInt8.lt_iff_toNat_lt, ← UInt8.toNat_inj] at h1 h2 ⊢
    refine ⟨by omega, ?_⟩
    by_cases hz : z.toNat = x.toNat
    · have h3 : Op.bytesLess b a = false := h1.2.resolve_left (by omega)
      have h4 : Op.bytesLess c b = false := h2.2.resolve_left (by omega)
      exact .inr (ih h3 h4)
    · exact .inl hz
theorem bl_irr (s : ByteArray) : bl s s = false := less_irr _
theorem bl_ntrans {a b c : ByteArray} (h : bl b a = false) (k : bl c b = false) : bl c a = false := less_ntrans _ _ _ h k
theorem bl_asymm {a b : ByteArray} (h : bl a b = true) : bl b a = false := by
  unfold bl at *
  rw [← less_total a.toList b.toList, h]
  rfl
theorem bl_same {a b : ByteArray} (h : bl a b = false) (k : bl b a = false) : a.toList = b.toList := by
  unfold bl at *
  rw [← less_total a.toList b.toList, h] at k
  simpa using k

theorem Val.lt_irr (a : Val) : a.lt a = false := by
  unfold Val.lt
  rw [if_neg (by simp)]
  split
  · simp
  split
  · simp
  split
  · exact bl_irr _
  · rfl
theorem Val.lt_asymm (a b : Val) (h : a.lt b = true) : b.lt a = false := by
  unfold Val.lt at *
  by_cases hk : a.k = b.k
  · rw [if_neg (by simpa using hk)] at h
    rw [if_neg (by simpa using hk.symm), ← hk]
    by_cases h1 : a.k = 1
    · rw [if_pos h1] at h ⊢; cases ha : a.b <;> cases hb : b.b <;> simp_all
    rw [if_neg h1] at h ⊢
    by_cases h2 : a.k = 2
    · rw [if_pos h2] at h ⊢; simp at h ⊢; omega
    rw [if_neg h2] at h ⊢
    by_cases h3 : a.k = 3
    · rw [if_pos h3] at h ⊢; exact bl_asymm h
    rw [if_neg h3] at h ⊢
  · rw [if_pos hk] at h
    rw [if_pos (fun e => hk e.symm)]
    simp at h ⊢; omega
theorem Val.lt_ntrans (a b c : Val) (h : b.lt a = false) (k : c.lt b = false) : c.lt a = false := by
  unfold Val.lt at *
  by_cases hba : b.k = a.k
  · rw [if_neg (by simpa using hba)] at h
    by_cases hcb : c.k = b.k
    · rw [if_neg (by simpa using hcb)] at k
      rw [if_neg (by simpa using hcb.trans hba)]
      by_cases h1 : a.k = 1
      · rw [if_pos (by omega)] at h k ⊢; cases ha : a.b <;> cases hb : b.b <;> cases hc : c.b <;> simp_all
      rw [if_neg (by omega)] at h k ⊢
      by_cases h2 : a.k = 2
      · rw [if_pos (by omega)] at h k ⊢; simp at h k ⊢; omega
      rw [if_neg (by omega)] at h k ⊢
      by_cases h3 : a.k = 3
      · rw [if_pos (by omega)] at h k ⊢; exact bl_ntrans h k
      rw [if_neg (by omega)]
    · rw [if_pos (by simpa using hcb)] at k
      rw [if_pos (by rw [← hba]; simpa using hcb)]
      simp at k ⊢; omega
  · rw [if_pos (by simpa using hba)] at h
    by_cases hcb : c.k = b.k
    · rw [if_pos (by rw [hcb]; simpa using hba)]
      simp at h ⊢; omega
    · rw [if_pos (by simpa using hcb)] at k
      simp at h k
      rw [if_pos (by omega)]
      simp; omega
theorem cmp_neg (a b : Val) : cmpV b a = -cmpV a b := by
  unfold cmpV
  cases h1 : a.lt b
  · cases h2 : b.lt a <;> simp
  · rw [Val.lt_asymm a b h1]; simp
theorem cmp_self (a : Val) : cmpV a a = 0 := by unfold cmpV; rw [Val.lt_irr]; rfl
theorem cmp_le (a b : Val) : cmpV a b ≤ 0 ↔ b.lt a = false := by
  unfold cmpV
  cases h1 : a.lt b
  · cases h2 : b.lt a <;> simp
  · rw [Val.lt_asymm a b h1]; simp
theorem cmp_trans (a b c : Val) (h : cmpV a b ≤ 0) (k : cmpV b c ≤ 0) : cmpV a c ≤ 0 := (cmp_le a c).2 (Val.lt_ntrans a b c ((cmp_le a b).1 h) ((cmp_le b c).1 k))
theorem cmp_zero (a b : Val) : cmpV a b = 0 ↔ a.lt b = false ∧ b.lt a = false := by
  unfold cmpV
  cases h1 : a.lt b
  · cases h2 : b.lt a <;> simp
  · simp
theorem cmp_range (a b : Val) : cmpV a b = -1 ∨ cmpV a b = 0 ∨ cmpV a b = 1 := by
  unfold cmpV
  split
  · exact .inl rfl
  split
  · exact .inr (.inr rfl)
  · exact .inr (.inl rfl)
theorem eqv_self (a : Val) : a.eqv a = true := by simp [Val.eqv]
/-- What is alike, of right values, is the same. -/
theorem cmp_eqv (a b : Val) (ha : a.right = true) (hb : b.right = true) : (cmpV a b == 0) = a.eqv b := by
  by_cases he : a.eqv b = true
  · rw [he]
    simp [Val.eqv] at he
    obtain ⟨h1, h2, h3, h4⟩ := he
    have : cmpV a b = 0 := by
      rw [cmp_zero]
      unfold Val.lt
      simp only [h1, h2, h3]
      constructor
      · rw [if_neg (by simp)]
        split; · simp
        split; · simp
        split; · unfold bl; rw [h4]; exact less_irr _
        rfl
      · rw [if_neg (by simp)]
        split; · simp
        split; · simp
        split; · unfold bl; rw [h4]; exact less_irr _
        rfl
    rw [this]; rfl
  · have he' : a.eqv b = false := by simpa using he
    rw [he']
    rw [beq_eq_false_iff_ne]
    intro hz
    rw [cmp_zero] at hz
    obtain ⟨z1, z2⟩ := hz
    apply he
    unfold Val.lt at z1 z2
    by_cases hk : a.k = b.k
    · rw [if_neg (by simpa using hk)] at z1
      rw [if_neg (by simpa using hk.symm)] at z2
      unfold Val.right at ha hb
      rw [← hk] at hb z2
      by_cases h0 : a.k = 0
      · rw [if_pos h0] at ha hb
        simp at ha hb
        simp [Val.eqv, hk.symm, h0, ha, hb]
      rw [if_neg h0] at ha hb
      by_cases h1 : a.k = 1
      · rw [if_pos h1] at ha hb z1 z2
        simp at ha hb
        have : a.b = b.b := by cases hA : a.b <;> cases hB : b.b <;> simp_all
        simp [Val.eqv, hk, ha, hb, this]
      rw [if_neg h1] at ha hb z1 z2
      by_cases h2 : a.k = 2
      · rw [if_pos h2] at ha hb z1 z2
        simp at ha hb z1 z2
        have : a.n = b.n := by omega
        simp [Val.eqv, hk, ha, hb, this]
      rw [if_neg h2] at ha hb z1 z2
      by_cases h3 : a.k = 3
      · rw [if_pos h3] at ha hb z1 z2
        simp at ha hb
        have := bl_same z1 z2
        simp [Val.eqv, hk, ha, hb, this]
      · rw [if_neg h3] at ha; cases ha
    · rw [if_pos hk] at z1
      rw [if_pos (fun e => hk e.symm)] at z2
      simp at z1 z2
      omega

theorem rows_two (a b c : Val) : rowsV [a, b] [a, c] = cmpV b c := by
  simp only [rowsV, cmp_self, if_true]
  by_cases h : cmpV b c = 0
  · rw [if_pos h, h]
  · rw [if_neg h]
theorem rows_one (a c : Val) : rowsV [a] [a, c] = -1 := by
  simp only [rowsV, cmp_self, if_true]
end Go.Proofs.Ytlehalhficlenaa

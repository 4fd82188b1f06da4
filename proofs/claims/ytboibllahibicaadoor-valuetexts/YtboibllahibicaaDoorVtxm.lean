/- What a text between quotes may say. -/
import Derived.Test.YtboibllahibicaaDoorVitg
import Derived.Test.YtboibllahibicaaDoorVunq
namespace Go.Proofs.YtboibllahibicaaDoor
open Go.RowKit Go.Hay
set_option linter.unusedVariables false
set_option linter.unusedSimpArgs false

/-- What stands at a place: a byte, and how many bytes tell it. -/
def textA (l : List UInt8) (j : Nat) : UInt8 × Nat :=
  if l.getD j 0 ≠ 92 then (l.getD j 0, 1)
  else if j + 5 ≤ l.length ∧ l.getD (j + 1) 0 = 120 ∧ 0 ≤ nibV (l.getD (j + 2) 0) ∧ 0 ≤ nibV (l.getD (j + 3) 0) then (UInt8.ofNat ((nibV (l.getD (j + 2) 0)).toNat * 16 + (nibV (l.getD (j + 3) 0)).toNat), 4)
  else if j + 3 ≤ l.length then (l.getD (j + 1) 0, 2) else (92, 1)
theorem getD_drop (l : List UInt8) (j i : Nat) : l.getD (j + i) 0 = (l.drop j).getD i 0 := by
  rw [List.getD_eq_getElem?_getD, List.getD_eq_getElem?_getD, List.getElem?_drop]
theorem textA_esc (l : List UInt8) (j : Nat) (c : UInt8) (rest : List UInt8) (hr : rest ≠ []) (h : l.drop j = escB c ++ rest) : textA l j = (c, (escB c).length) := by
  have hlen : l.length - j = (escB c).length + rest.length := by have := congrArg List.length h; rw [List.length_drop, List.length_append] at this; exact this
  have hrl : 1 ≤ rest.length := by cases rest with
    | nil => exact absurd rfl hr
    | cons a b => simp
  have g0 : l.getD j 0 = (l.drop j).getD 0 0 := getD_drop l j 0
  have g1 := getD_drop l j 1
  have g2 := getD_drop l j 2
  have g3 := getD_drop l j 3
  rw [h] at g0 g1 g2 g3
  unfold textA
  rw [g0, g1, g2, g3]
  by_cases hc : c = 34 ∨ c = 92
  · have he : escB c = [92, c] := by unfold escB; rw [if_pos hc]
    rw [he] at hlen ⊢
    simp only [List.cons_append, List.nil_append, List.length_cons, List.length_nil] at hlen ⊢
    rw [if_neg (by simp), if_neg (by rintro ⟨_, h2, _⟩; have h2' : c = 120 := h2; rcases hc with h | h <;> (rw [h] at h2'; exact absurd h2' (by decide))), if_pos (by omega)]
    rfl
  · by_cases hx : c.toNat < 32 ∨ 126 < c.toNat
    · have he : escB c = [92, 120, hexB (c.toNat / 16), hexB (c.toNat % 16)] := by unfold escB; rw [if_neg hc, if_pos hx]
      have hcl := c.toNat_lt
      rw [he] at hlen ⊢
      simp only [List.cons_append, List.nil_append, List.length_cons, List.length_nil] at hlen ⊢
      have n1 := nib_hex (c.toNat / 16) (by omega)
      have n2 := nib_hex (c.toNat % 16) (by omega)
      have e2 : (92 :: 120 :: hexB (c.toNat / 16) :: hexB (c.toNat % 16) :: rest).getD 2 0 = hexB (c.toNat / 16) := rfl
      have e3 : (92 :: 120 :: hexB (c.toNat / 16) :: hexB (c.toNat % 16) :: rest).getD 3 0 = hexB (c.toNat % 16) := rfl
      rw [if_neg (by simp), e2, e3, n1, n2, if_pos ⟨by omega, rfl, by omega, by omega⟩]
      congr 1
      apply UInt8.toNat_inj.1
      rw [UInt8.toNat_ofNat', Int.toNat_natCast, Int.toNat_natCast]
      omega
    · have he : escB c = [c] := by unfold escB; rw [if_neg hc, if_neg hx]
      rw [he]
      simp only [List.cons_append, List.nil_append, List.length_cons, List.length_nil]
      rw [if_pos (show (c :: rest).getD 0 0 ≠ 92 from fun e => hc (.inr e))]
      rfl

/-- Up to a place a text is read. -/
def ReadTo (l : List UInt8) (j : Nat) (u : List UInt8) : Prop := ∀ t, l = quoteB t → ∃ t2, t = u ++ t2 ∧ l.drop j = bodyB t2 ++ [34]
theorem ReadTo.start (l : List UInt8) : ReadTo l 1 [] := by
  intro t ht
  exact ⟨t, rfl, by rw [ht]; rfl⟩
theorem ReadTo.step {l : List UInt8} {j : Nat} {u : List UInt8} (h : ReadTo l j u) (hj : j + 1 < l.length) (d : UInt8) (k : Nat) (hd : textA l j = (d, k)) : ReadTo l (j + k) (u ++ [d]) := by
  intro t ht
  obtain ⟨t2, h1, h2⟩ := h t ht
  cases t2 with
  | nil =>
    have := congrArg List.length h2
    rw [List.length_drop] at this
    simp [bodyB] at this
    omega
  | cons c t2 =>
    rw [bodyB_cons, List.append_assoc] at h2
    have h3 := textA_esc l j c (bodyB t2 ++ [34]) (by simp) h2
    rw [hd] at h3
    cases h3
    exact ⟨t2, by rw [h1]; simp, by rw [← List.drop_drop, h2, List.drop_left]⟩
theorem ReadTo.done {l : List UInt8} {j : Nat} {u : List UInt8} (h : ReadTo l j u) (hj : l.length ≤ j + 1) : ∀ t, l = quoteB t → u = t := by
  intro t ht
  obtain ⟨t2, h1, h2⟩ := h t ht
  have := congrArg List.length h2
  rw [List.length_drop, List.length_append] at this
  have h3 : bodyB t2 = [] := List.length_eq_zero_iff.1 (by simp at this; omega)
  rw [bodyB_nil t2 h3] at h1
  rw [h1]; simp
theorem textA_plain (l : List UInt8) (j : Nat) (c : UInt8) (hc : l[j]? = some c) (h : c ≠ 92) : textA l j = (c, 1) := by
  unfold textA
  rw [List.getD_eq_getElem?_getD, hc, Option.getD_some, if_pos h]
theorem textA_hex (l : List UInt8) (j : Nat) (x y : UInt8) (a b : Nat) (hl : j + 5 ≤ l.length) (h0 : l[j]? = some 92) (h1 : l[j + 1]? = some 120) (h2 : l[j + 2]? = some x) (h3 : l[j + 3]? = some y) (hx : nibV x = a) (hy : nibV y = b) : textA l j = (UInt8.ofNat (a * 16 + b), 4) := by
  unfold textA
  simp only [List.getD_eq_getElem?_getD, h0, h1, h2, h3, Option.getD_some, hx, hy]
  rw [if_neg (by simp), if_pos ⟨hl, trivial, by omega, by omega⟩, Int.toNat_natCast, Int.toNat_natCast]
theorem textA_skip (l : List UInt8) (j : Nat) (d : UInt8) (hl : j + 3 ≤ l.length) (h0 : l[j]? = some 92) (h1 : l[j + 1]? = some d) (h : ¬ (j + 5 ≤ l.length ∧ d = 120 ∧ 0 ≤ nibV (l.getD (j + 2) 0) ∧ 0 ≤ nibV (l.getD (j + 3) 0))) : textA l j = (d, 2) := by
  unfold textA
  have e0 : l.getD j 0 = 92 := by rw [List.getD_eq_getElem?_getD, h0]; rfl
  have e1 : l.getD (j + 1) 0 = d := by rw [List.getD_eq_getElem?_getD, h1]; rfl
  rw [e0, e1, if_neg (by simp), if_neg h, if_pos hl]
theorem textA_last (l : List UInt8) (j : Nat) (hl : ¬ j + 3 ≤ l.length) (h0 : l[j]? = some 92) : textA l j = (92, 1) := by
  unfold textA
  have e0 : l.getD j 0 = 92 := by rw [List.getD_eq_getElem?_getD, h0]; rfl
  rw [e0, if_neg (by simp), if_neg (by omega), if_neg hl]
end Go.Proofs.YtboibllahibicaaDoor

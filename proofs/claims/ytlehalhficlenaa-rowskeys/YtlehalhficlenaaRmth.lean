/- Plain mathematics: rows and their bytes, back and forth. -/
import Derived.Test.YtlehalhficlenaaRdcd
import Derived.Test.YtlehalhficlenaaRenc
import Derived.Lib.Strings
namespace Go.Proofs.Ytlehalhficlenaa
open Go.RowKit Go.Hay
set_option linter.unusedVariables false
set_option linter.unusedSimpArgs false

/-- An int64. -/
def Val.in64 (x : Val) : Prop := -9223372036854775808 ≤ x.n ∧ x.n ≤ 9223372036854775807
theorem bytes_empty {t : ByteArray} (h : t.toList = []) : t = ⟨#[]⟩ := by
  rw [Go.Lib.toList_data] at h
  cases t with
  | mk d => simp at h; rw [h]
theorem right0 {x : Val} (h : x.right = true) (hk : x.k = 0) : x = ⟨0, false, 0, ⟨#[]⟩⟩ := by
  obtain ⟨k, b, n, t⟩ := x
  dsimp only at hk
  subst hk
  simp [Val.right] at h
  obtain ⟨rfl, rfl, ht⟩ := h
  rw [bytes_empty ht]
theorem right1 {x : Val} (h : x.right = true) (hk : x.k = 1) : x = ⟨1, x.b, 0, ⟨#[]⟩⟩ := by
  obtain ⟨k, b, n, t⟩ := x
  dsimp only at hk
  subst hk
  simp [Val.right] at h
  obtain ⟨rfl, ht⟩ := h
  rw [bytes_empty ht]
theorem right2 {x : Val} (h : x.right = true) (hk : x.k = 2) : x = ⟨2, false, x.n, ⟨#[]⟩⟩ := by
  obtain ⟨k, b, n, t⟩ := x
  dsimp only at hk
  subst hk
  simp [Val.right] at h
  obtain ⟨rfl, ht⟩ := h
  rw [bytes_empty ht]
theorem right3 {x : Val} (h : x.right = true) (hk : x.k = 3) : x = ⟨3, false, 0, x.t⟩ ∧ x.t.size ≤ 64 := by
  have h6 := right_text h hk
  obtain ⟨k, b, n, t⟩ := x
  dsimp only at hk
  subst hk
  simp [Val.right] at h
  obtain ⟨⟨rfl, rfl⟩, ht⟩ := h
  exact ⟨rfl, h6⟩
theorem s64_u64 (n add : Int) (h : -9223372036854775808 ≤ n ∧ n ≤ 9223372036854775807) : wrap64 ((num (be (u64 (n + add)) 8) : Int) - add) = n := by
  rw [num_be]
  unfold u64 wrap64
  omega
theorem u64_s64 (m : Nat) (add : Int) (h : m < 18446744073709551616) : u64 (wrap64 ((m : Int) - add) + add) = m := by
  unfold u64 wrap64
  omega
theorem take8 (n : Nat) (r : List UInt8) : (be n 8 ++ r).take 8 = be n 8 := by
  rw [List.take_append_of_le_length (by rw [be_length]; omega), List.take_of_length_le (by rw [be_length]; omega)]
theorem fixF_put (x : Val) (h : x.right = true) (hi : x.in64) (h3 : x.k ≠ 3) (add : Int) (r : List UInt8) : fixF add (fixB x add ++ r) = (x, (fixB x add).length) := by
  rcases right_kind h with hk | hk | hk | hk
  · rw [right0 h hk]
    simp [fixB, fixF, nilV]
  · rw [right1 h hk]
    cases x.b <;> simp [fixB, fixF]
  · have e := right2 h hk
    have hi2 := s64_u64 x.n add hi
    generalize x.n = n at *
    rw [e]
    have t8 := take8 (u64 (n + add)) r
    have bl := be_length (u64 (n + add)) 8
    simp only [fixB, fixF, List.cons_append, if_neg (by omega : ¬ (2 : Int) = 0), if_neg (by omega : ¬ (2 : Int) = 1)]
    rw [if_neg (by decide), if_neg (by decide), if_pos (by decide), if_pos (by rw [List.length_append, bl]; omega), t8, hi2]
    simp [bl]
  · exact absurd hk h3
theorem rowF_put (x : Val) (h : x.right = true) (hi : x.in64) (r : List UInt8) : rowF (rowB x ++ r) = (x, (rowB x).length) := by
  by_cases h3 : x.k = 3
  · obtain ⟨e, h6⟩ := right3 h h3
    generalize x.t = t at *
    rw [e]
    have ho : (octet (t.size : Int)).toNat = t.size := by have := octet_toNat (t.size : Int) (by omega) (by omega); omega
    have hl : t.data.toList.length = t.size := by simp
    simp only [rowB, rowF, List.cons_append, if_true]
    rw [if_pos (by decide), ho, if_pos ⟨h6, by rw [List.length_append, hl]; omega⟩, List.take_append_of_le_length (by omega), List.take_of_length_le (by omega)]
    simp
    omega
  · have e : rowB x = fixB x 0 := by unfold rowB; rw [if_neg h3]
    rw [e]
    have := fixF_put x h hi h3 0 r
    have hne : fixB x 0 = (fixB x 0).headD 0 :: (fixB x 0).tail ∧ ((fixB x 0).headD 0).toNat ≠ 3 := by
      unfold fixB
      split
      · exact ⟨rfl, by decide⟩
      · split
        · exact ⟨rfl, by show (1 : UInt8).toNat ≠ 3; decide⟩
        · exact ⟨rfl, by show (2 : UInt8).toNat ≠ 3; decide⟩
    generalize (fixB x 0).headD 0 = f at *
    generalize (fixB x 0).tail = s at *
    rw [hne.1] at this ⊢
    rw [List.cons_append] at this ⊢
    simp only [rowF, if_neg hne.2]
    exact this
theorem rowB_pos {x : Val} (h : x.right = true) : 0 < (rowB x).length := by
  unfold rowB fixB
  repeat (first | split | simp)

theorem decL_put : ∀ l : List Val, allR l = true → (∀ x ∈ l, x.in64) → decL l.length (l.flatMap rowB) = some l
  | [], _, _ => by simp [decL]
  | x :: l, h, hi => by
    unfold allR at h
    rw [List.all_cons, Bool.and_eq_true] at h
    have ih := decL_put l h.2 (fun y hy => hi y (by simp [hy]))
    have hp := rowB_pos h.1
    rw [List.length_cons, decL, List.flatMap_cons, rowF_put x h.1 (hi x (by simp))]
    simp only
    rw [if_neg (by omega), List.drop_left, ih]
    rfl
theorem decS_put (l : List Val) (h : okR l = true) (hi : ∀ x ∈ l, x.in64) : decS (encB l) = (l, 0) := by
  have h16 := okR_len h
  have ho : (octet (l.length : Int)).toNat = l.length := by have := octet_toNat (l.length : Int) (by omega) (by omega); omega
  unfold encB
  simp only [decS]
  rw [ho, if_neg (by omega), decL_put l (okR_all h) hi]
  rfl

/-- What is read is what the first bytes say. -/
theorem fixF_mono (add : Int) (p s : List UInt8) (h : (fixF add p).2 ≠ 0) : fixF add (p ++ s) = fixF add p := by
  cases p with
  | nil => simp [fixF] at h
  | cons f r =>
    rw [List.cons_append]
    simp only [fixF] at h ⊢
    split
    · rfl
    · rw [if_neg (by assumption)] at h
      split
      · rw [if_pos (by assumption)] at h
        cases r with
        | nil => simp at h
        | cons y t => rfl
      · rw [if_neg (by assumption)] at h
        split
        · rw [if_pos (by assumption)] at h
          by_cases h8 : 8 ≤ r.length
          · rw [if_pos (by rw [List.length_append]; omega), if_pos h8, List.take_append_of_le_length h8]
          · rw [if_neg h8] at h; simp at h
        · rfl
theorem rowF_mono (p s : List UInt8) (h : (rowF p).2 ≠ 0) : rowF (p ++ s) = rowF p := by
  cases p with
  | nil => simp [rowF] at h
  | cons f r =>
    rw [List.cons_append]
    simp only [rowF] at h ⊢
    split
    · rw [if_pos (by assumption)] at h
      cases r with
      | nil => simp at h
      | cons y t =>
        rw [List.cons_append]
        simp only at h ⊢
        by_cases hc : y.toNat ≤ 64 ∧ y.toNat ≤ t.length
        · rw [if_pos ⟨hc.1, by rw [List.length_append]; omega⟩, if_pos hc, List.take_append_of_le_length hc.2]
        · rw [if_neg hc] at h; simp at h
    · rw [if_neg (by assumption)] at h
      rw [← List.cons_append]
      exact fixF_mono 0 (f :: r) s h
theorem decL_more : ∀ (n : Nat) (p s : List UInt8) (l : List Val), decL n p = some l → s ≠ [] → decL n (p ++ s) = none
  | 0, p, s, l, h, hs => by
    rw [decL] at h ⊢
    split at h
    · subst p; simpa using hs
    · cases h
  | n + 1, p, s, l, h, hs => by
    rw [decL] at h ⊢
    by_cases h0 : (rowF p).2 = 0
    · rw [if_pos h0] at h; cases h
    · rw [if_neg h0] at h
      rw [rowF_mono p s h0, if_neg h0]
      obtain ⟨l', h', _⟩ := Option.map_eq_some_iff.1 h
      rw [List.drop_append_of_le_length (rowF_le p), decL_more n _ s l' h' hs]
      rfl
theorem decS_more (l : List Val) (h : okR l = true) (hi : ∀ x ∈ l, x.in64) (s : List UInt8) (hs : s ≠ []) : decS (encB l ++ s) = ([], 30) := by
  have h16 := okR_len h
  have ho : (octet (l.length : Int)).toNat = l.length := by have := octet_toNat (l.length : Int) (by omega) (by omega); omega
  unfold encB
  rw [List.cons_append]
  simp only [decS]
  rw [ho, if_neg (by omega), decL_more _ _ s l (decL_put l (okR_all h) hi) hs]
  rfl
theorem decS_cut (l : List Val) (h : okR l = true) (hi : ∀ x ∈ l, x.in64) (cut : Nat) (hc : cut < (encB l).length) : decS ((encB l).take cut) = ([], 30) := by
  have h16 := okR_len h
  have ho : (octet (l.length : Int)).toNat = l.length := by have := octet_toNat (l.length : Int) (by omega) (by omega); omega
  cases cut with
  | zero => rfl
  | succ n =>
    unfold encB at hc ⊢
    rw [List.length_cons] at hc
    rw [List.take_succ_cons]
    simp only [decS]
    rw [ho, if_neg (by omega)]
    cases hd : decL l.length ((l.flatMap rowB).take n) with
    | none => rfl
    | some l' =>
      have h1 := decL_more _ _ ((l.flatMap rowB).drop n) l' hd (by intro h; have := congrArg List.length h; simp only [List.length_drop, List.length_nil] at this; omega)
      rw [List.take_append_drop, decL_put l (okR_all h) hi] at h1
      cases h1
end Go.Proofs.Ytlehalhficlenaa

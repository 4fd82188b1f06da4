/- Keys read: what bytes begin with; plain mathematics. -/
import Derived.Test.YtlehalhficlenaaRdcd
namespace Go.Proofs.Ytlehalhficlenaa
open Go.RowKit Go.Hay
set_option linter.unusedVariables false
set_option linter.unusedSimpArgs false

/-- A text's bytes in a key, read: the text, and in how many bytes. -/
def scanK : List UInt8 → Option (List UInt8 × Nat)
  | [] => none
  | [_] => none
  | c :: d :: r =>
    if c.toNat ≠ 0 then (scanK (d :: r)).map fun x => (c :: x.1, x.2 + 1)
    else if d.toNat = 0 then some ([], 2)
    else if d.toNat = 255 then (scanK r).map fun x => (0 :: x.1, x.2 + 2)
    else none
/-- A text that was read. -/
def textV (o : Option (List UInt8 × Nat)) : Val × Nat :=
  match o with
  | some x => (⟨3, false, 0, ⟨x.1.toArray⟩⟩, 1 + x.2)
  | none => (nilV, 0)
/-- One that is not too long. -/
def short (o : Option (List UInt8 × Nat)) : Option (List UInt8 × Nat) := o.bind fun x => if x.1.length ≤ 64 then some x else none
/-- The value that a key's bytes begin with, however long its text is. -/
def frtK : List UInt8 → Val × Nat
  | [] => (nilV, 0)
  | f :: r => if f.toNat = 3 then textV (scanK r) else fixF 9223372036854775808 (f :: r)
/-- The value that a key's bytes begin with. -/
def keyF : List UInt8 → Val × Nat
  | [] => (nilV, 0)
  | f :: r => if f.toNat = 3 then textV (short (scanK r)) else fixF 9223372036854775808 (f :: r)
theorem scanK_le : ∀ (r : List UInt8) (x : List UInt8 × Nat), scanK r = some x → x.2 ≤ r.length ∧ x.1.length ≤ r.length
  | [], x, h => by simp [scanK] at h
  | [_], x, h => by simp [scanK] at h
  | c :: d :: r, x, h => by
    rw [scanK] at h
    split at h
    · obtain ⟨y, hy, rfl⟩ := Option.map_eq_some_iff.1 h
      have := scanK_le (d :: r) y hy
      simp at this ⊢
      omega
    · split at h
      · cases h; simp
      · split at h
        · obtain ⟨y, hy, rfl⟩ := Option.map_eq_some_iff.1 h
          have := scanK_le r y hy
          simp at this ⊢
          omega
        · cases h
theorem scan_one (r : List UInt8) (p : Nat) (h : p + 1 < r.length) (hc : (r[p]'(by omega)).toNat ≠ 0) : scanK (r.drop p) = (scanK (r.drop (p + 1))).map fun x => (r[p]'(by omega) :: x.1, x.2 + 1) := by
  rw [List.drop_eq_getElem_cons (by omega : p < r.length), List.drop_eq_getElem_cons h, scanK, if_pos hc]
theorem scan_end (r : List UInt8) (p : Nat) (h : p + 1 < r.length) (hc : (r[p]'(by omega)).toNat = 0) (hd : r[p + 1].toNat = 0) : scanK (r.drop p) = some ([], 2) := by
  rw [List.drop_eq_getElem_cons (by omega : p < r.length), List.drop_eq_getElem_cons h, scanK, if_neg (by omega), if_pos hd]
theorem scan_nul (r : List UInt8) (p : Nat) (h : p + 1 < r.length) (hc : (r[p]'(by omega)).toNat = 0) (hd : r[p + 1].toNat = 255) : scanK (r.drop p) = (scanK (r.drop (p + 2))).map fun x => (0 :: x.1, x.2 + 2) := by
  rw [List.drop_eq_getElem_cons (by omega : p < r.length), List.drop_eq_getElem_cons h, scanK, if_neg (by omega), if_neg (by omega), if_pos hd]
theorem scan_bad (r : List UInt8) (p : Nat) (h : p + 1 < r.length) (hc : (r[p]'(by omega)).toNat = 0) (hd : r[p + 1].toNat ≠ 0) (hd2 : r[p + 1].toNat ≠ 255) : scanK (r.drop p) = none := by
  rw [List.drop_eq_getElem_cons (by omega : p < r.length), List.drop_eq_getElem_cons h, scanK, if_neg (by omega), if_neg hd, if_neg hd2]
theorem scan_short (r : List UInt8) (p : Nat) (h : ¬ p + 1 < r.length) : scanK (r.drop p) = none := by
  match hm : r.drop p with
  | [] => rfl
  | [_] => rfl
  | c :: d :: s =>
    have := congrArg List.length hm
    simp at this
    omega
/-- What is read from p on, behind a text's beginning. -/
def fromK (t : List UInt8) (p : Nat) (o : Option (List UInt8 × Nat)) : Option (List UInt8 × Nat) := o.map fun x => (t ++ x.1, p + x.2)
theorem fromK_zero (o : Option (List UInt8 × Nat)) : fromK [] 0 o = o := by cases o <;> simp [fromK]
theorem fromK_none (t : List UInt8) (p : Nat) : fromK t p none = none := rfl
theorem fromK_cons (t : List UInt8) (p k : Nat) (c : UInt8) (o : Option (List UInt8 × Nat)) : fromK t p (o.map fun x => (c :: x.1, x.2 + k)) = fromK (t ++ [c]) (p + k) o := by
  cases o <;> simp [fromK]
  omega
theorem short_long (t : List UInt8) (p : Nat) (o : Option (List UInt8 × Nat)) (h : 64 < t.length) : short (fromK t p o) = none := by
  cases o with
  | none => rfl
  | some x => simp [short, fromK]; omega
theorem textV_size (t : List UInt8) : (⟨t.toArray⟩ : ByteArray).size = t.length := by show t.toArray.size = _; simp
theorem fixF_text (add : Int) (bs : List UInt8) : (fixF add bs).1.t.size = 0 := by
  cases bs with
  | nil => rfl
  | cons f r =>
    simp only [fixF]
    split
    · rfl
    · split
      · cases r with
        | nil => rfl
        | cons y s => simp only; split <;> rfl
      · split
        · split <;> rfl
        · rfl
/-- How the two stand to each other. -/
theorem keyF_frtK (bs : List UInt8) : keyF bs = if (frtK bs).2 = 0 ∨ 64 < (frtK bs).1.t.size then (nilV, 0) else frtK bs := by
  cases bs with
  | nil => rfl
  | cons f r =>
    simp only [keyF, frtK]
    split
    · cases hs : scanK r with
      | none => simp [short, textV]
      | some x =>
        simp only [short, Option.bind_some]
        by_cases h : x.1.length ≤ 64
        · rw [if_pos h, if_neg (show ¬ ((textV (some x)).2 = 0 ∨ 64 < (textV (some x)).1.t.size) from by show ¬ (1 + x.2 = 0 ∨ 64 < (⟨x.1.toArray⟩ : ByteArray).size); rw [textV_size]; omega)]
        · rw [if_neg h, if_pos (show ((textV (some x)).2 = 0 ∨ 64 < (textV (some x)).1.t.size) from by show (1 + x.2 = 0 ∨ 64 < (⟨x.1.toArray⟩ : ByteArray).size); rw [textV_size]; omega)]
          rfl
    · have h1 := fixF_text 9223372036854775808 (f :: r)
      by_cases h0 : (fixF 9223372036854775808 (f :: r)).2 = 0
      · rw [if_pos (.inl h0)]
        -- what is none is nothing
        simp only [fixF] at h0 ⊢
        split at h0
        · simp at h0
        · rw [if_neg (by assumption)]
          split at h0
          · rw [if_pos (by assumption)]
            cases r with
            | nil => rfl
            | cons y s =>
              simp only at h0 ⊢
              split at h0
              · simp at h0
              · rw [if_neg (by assumption)]
          · rw [if_neg (by assumption)]
            split at h0
            · rw [if_pos (by assumption)]
              split at h0
              · simp at h0
              · rw [if_neg (by assumption)]
            · rw [if_neg (by assumption)]
      · rw [if_neg (by rw [h1]; omega)]
theorem frtK_le (bs : List UInt8) : (frtK bs).2 ≤ bs.length := by
  cases bs with
  | nil => simp [frtK]
  | cons f r =>
    simp only [frtK]
    split
    · cases hs : scanK r with
      | none => simp [textV]
      | some x => have := scanK_le r x hs; simp [textV]; omega
    · exact fixF_le _ _
theorem keyF_le (bs : List UInt8) : (keyF bs).2 ≤ bs.length := by
  rw [keyF_frtK]
  split
  · simp
  · exact frtK_le bs
/-- So many values at most, and nothing behind them. -/
def unkL : Nat → List UInt8 → Option (List Val)
  | _, [] => some []
  | 0, _ :: _ => none
  | m + 1, f :: r => if (keyF (f :: r)).2 = 0 then none else (unkL m ((f :: r).drop (keyF (f :: r)).2)).map ((keyF (f :: r)).1 :: ·)
/-- What bytes are read as, or that they are no key's. -/
def unkS (bs : List UInt8) : List Val × Int := decO (unkL 16 bs)
theorem unkL_step (m : Nat) (bs : List UInt8) (d : List Val) (hb : bs ≠ []) : (unkL (m + 1) bs).map (d ++ ·) = if (keyF bs).2 = 0 then none else (unkL m (bs.drop (keyF bs).2)).map (d ++ [(keyF bs).1] ++ ·) := by
  cases bs with
  | nil => exact absurd rfl hb
  | cons f r =>
    rw [unkL]
    split
    · rfl
    · rw [Option.map_map]
      congr 1
      funext l
      simp
theorem unkL_nil (m : Nat) : unkL m [] = some [] := by cases m <;> rfl
theorem unkL_full (bs : List UInt8) (hb : bs ≠ []) : unkL 0 bs = none := by
  cases bs with
  | nil => exact absurd rfl hb
  | cons f r => rfl
end Go.Proofs.Ytlehalhficlenaa

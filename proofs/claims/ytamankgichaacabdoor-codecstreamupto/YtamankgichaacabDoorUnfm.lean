/- Plain mathematics of frames: what was framed is told again; no shorter beginning is a frame; a byte that differs is found. -/
import Derived.Test.YtamankgichaacabDoorFrmd
import Derived.Test.YtamankgichaacabDoorSums
namespace Go.Proofs.YtamankgichaacabDoor
open Go.RowKit Go.Hay
set_option linter.unusedVariables false

theorem rowFull {w : World} {v : Value} {bs : List UInt8} (h : Row w v bs) : ∃ a c, v = .slice a bs.length c ∧ Sees w a bs ∧ bs.length ≤ c ∧ c ≤ maxLen ∧ own v = blk a := by
  rcases h with ⟨rfl, rfl⟩ | ⟨g, o, cap, rfl, hl, hm, hg, hc, ht⟩
  · exact ⟨none, 0, rfl, .inl rfl, Nat.le_refl _, Nat.zero_le _, rfl⟩
  · exact ⟨_, _, rfl, .inr ⟨g, o, rfl, hc⟩, hl, hm, rfl⟩

theorem unf_parts (L C R : List UInt8) (hL : L.length = 4) (hC : C.length = 4) : unf (L ++ (C ++ R)) =
    if num C ≠ crc L then ([], 0, 14) else if 16777216 < num L then ([], 0, 12) else if R.length < num L + 4 then ([], 0, 10)
    else if num ((R.drop (num L)).take 4) ≠ crc (R.take (num L)) then ([], 0, 14) else (R.take (num L), ((num L + 12 : Nat) : Int), 0) := by
  have e1 : (L ++ (C ++ R)).take 4 = L := by rw [List.take_append_of_le_length (by omega), List.take_of_length_le (by omega)]
  have e2 : (L ++ (C ++ R)).drop 4 = C ++ R := by rw [← hL, List.drop_left]
  have e3 : (C ++ R).take 4 = C := by rw [List.take_append_of_le_length (by omega), List.take_of_length_le (by omega)]
  have e4 : (L ++ (C ++ R)).drop 8 = R := by
    rw [show 8 = 4 + 4 from rfl, ← List.drop_drop, e2, ← hC, List.drop_left]
  have e5 : ∀ m, (L ++ (C ++ R)).drop (8 + m) = R.drop m := fun m => by rw [← List.drop_drop, e4]
  have hlen : (L ++ (C ++ R)).length = 8 + R.length := by simp only [List.length_append]; omega
  unfold unf
  rw [if_neg (by omega), e1, e2, e3, e4, e5, hlen]
  by_cases h1 : num C ≠ crc L
  · rw [if_pos h1, if_pos h1]
  · rw [if_neg h1, if_neg h1]
    by_cases h2 : 16777216 < num L
    · rw [if_pos h2, if_pos h2]
    · rw [if_neg h2, if_neg h2]
      by_cases h3 : R.length < num L + 4
      · rw [if_pos h3, if_pos (by omega)]
      · rw [if_neg h3, if_neg (by omega)]

theorem num_be4 (n : Nat) (h : n < 4294967296) : num (be n 4) = n := by rw [num_be]; exact Nat.mod_eq_of_lt (by omega)
theorem num_inj (a b : List UInt8) (hl : a.length = b.length) (h : num a = num b) : a = b := by rw [← be_num a, ← be_num b, h, hl]
theorem frame_split (bs : List UInt8) (more : List UInt8) : frameB bs ++ more = be bs.length 4 ++ (be (crc (be bs.length 4)) 4 ++ (bs ++ (be (crc bs) 4 ++ more))) := by simp [frameB]

theorem unf_tail (bs E Z : List UInt8) (h : bs.length ≤ 16777216) (X : List UInt8) (hX : X.length = bs.length) (hE : E.length = 4) :
    unf (be bs.length 4 ++ (be (crc (be bs.length 4)) 4 ++ (X ++ (E ++ Z)))) = if num E ≠ crc X then ([], 0, 14) else (X, ((bs.length + 12 : Nat) : Int), 0) := by
  rw [unf_parts _ _ _ (be_length _ _) (be_length _ _), num_be4 _ (crc_lt _), num_be4 bs.length (by omega), if_neg (fun h => h rfl), if_neg (by omega), if_neg (by simp; omega), ← hX, List.drop_left, List.take_left]
  rw [List.take_append_of_le_length (by omega), List.take_of_length_le (by omega)]
theorem unf_frame (bs more : List UInt8) (h : bs.length ≤ 16777216) : unf (frameB bs ++ more) = (bs, ((bs.length + 12 : Nat) : Int), 0) := by
  rw [frame_split, unf_tail bs _ _ h bs rfl (be_length _ _), num_be4 _ (crc_lt _), if_neg (fun h => h rfl)]
theorem unf_cut (bs : List UInt8) (h : bs.length ≤ 16777216) (k : Nat) (hk : k < bs.length + 12) : unf ((frameB bs).take k) = ([], 0, 10) := by
  have hl := frameB_length bs
  by_cases h8 : k < 8
  · unfold unf
    rw [if_pos (by rw [List.length_take]; omega)]
  · have e : (frameB bs).take k = be bs.length 4 ++ (be (crc (be bs.length 4)) 4 ++ ((bs ++ be (crc bs) 4).take (k - 8))) := by
      have := frame_split bs []
      rw [List.append_nil, List.append_nil] at this
      rw [this, List.take_append, be_length, List.take_of_length_le (by rw [be_length]; omega), List.take_append, be_length, List.take_of_length_le (by rw [be_length]; omega)]
      congr 3
    rw [e, unf_parts _ _ _ (be_length _ _) (be_length _ _), num_be4 _ (crc_lt _), num_be4 bs.length (by omega), if_neg (fun h => h rfl), if_neg (by omega), if_pos (by rw [List.length_take, List.length_append, be_length]; omega)]
theorem unf_turned (bs : List UInt8) (h : bs.length ≤ 16777216) (i : Nat) (hi : i < (frameB bs).length) (y : UInt8) (hy : (frameB bs)[i] ≠ y) : unf ((frameB bs).set i y) = ([], 0, 14) := by
  have hl := frameB_length bs
  have key : ∀ (a b : List UInt8) (j : Nat) (z : UInt8), a.length = b.length → j < a.length → a[j]? ≠ some z → a.set j z = b → num a ≠ num b := by
    intro a b j z hab hj hne he hn
    have := num_inj a b hab hn
    subst this
    apply hne
    have h2 := congrArg (fun l => l[j]?) he
    simp only [List.getElem?_set_self hj] at h2
    exact h2.symm
  have fs := frame_split bs []
  simp only [List.append_nil] at fs
  have hget : (frameB bs)[i]? ≠ some y := by rw [List.getElem?_eq_getElem hi]; intro e; exact hy (Option.some.inj e)
  rw [fs] at hget ⊢
  have hcL : num (be (crc (be bs.length 4)) 4) = crc (be bs.length 4) := num_be4 _ (crc_lt _)
  by_cases c1 : i < 4
  · rw [List.getElem?_append_left (by rw [be_length]; omega)] at hget
    rw [List.set_append_left _ _ (by rw [be_length]; omega), unf_parts _ _ _ (by rw [List.length_set, be_length]) (be_length _ _), if_pos]
    rw [hcL]
    refine set_split _ i (by rw [be_length]; omega) y (fun e => hget ?_)
    rw [← e, List.getElem?_eq_getElem]
  rw [List.getElem?_append_right (by rw [be_length]; omega)] at hget
  rw [List.set_append_right _ _ (by rw [be_length]; omega)]
  rw [be_length] at hget ⊢
  by_cases c2 : i - 4 < 4
  · rw [List.getElem?_append_left (by rw [be_length]; omega)] at hget
    rw [List.set_append_left _ _ (by rw [be_length]; omega), unf_parts _ _ _ (be_length _ _) (by rw [List.length_set, be_length]), if_pos]
    intro e
    exact key _ _ (i - 4) y (by rw [List.length_set]) (by rw [be_length]; omega) hget rfl (by rw [e, hcL])
  rw [List.getElem?_append_right (by rw [be_length]; omega)] at hget
  rw [List.set_append_right _ _ (by rw [be_length]; omega)]
  rw [be_length] at hget ⊢
  by_cases c3 : i - 4 - 4 < bs.length
  · rw [List.getElem?_append_left c3] at hget
    rw [List.set_append_left _ _ c3]
    have := unf_tail bs (be (crc bs) 4) [] h (bs.set (i - 4 - 4) y) (by rw [List.length_set]) (be_length _ _)
    rw [List.append_nil] at this
    rw [this, if_pos]
    rw [num_be4 _ (crc_lt _)]
    refine set_split _ _ c3 y (fun e => hget ?_)
    rw [← e, List.getElem?_eq_getElem]
  · rw [List.getElem?_append_right (by omega)] at hget
    rw [List.set_append_right _ _ (by omega)]
    have := unf_tail bs ((be (crc bs) 4).set (i - 4 - 4 - bs.length) y) [] h bs rfl (by rw [List.length_set, be_length])
    rw [List.append_nil] at this
    rw [this, if_pos]
    intro e
    exact key _ _ (i - 4 - 4 - bs.length) y (by rw [List.length_set]) (by rw [be_length]; omega) hget rfl (by rw [e, num_be4 _ (crc_lt _)])
end Go.Proofs.YtamankgichaacabDoor

/- The reference reads back what is written: Decode's answer by it. -/
import Derived.Test.YtpekgpgfdiffcaaGreatB5
import Derived.Test.YtpekgpgfdiffcaaGreatB7
import Derived.Test.YtpekgpgfdiffcaaGreatB2
import Derived.Lib.Strings
import Derived.Test.YtpekgpgfdiffcaaGreatB8
import Derived.Deep.RegionHeld3
import Derived.Test.YtpekgpgfdiffcaaGreatB3
section
namespace Go.Hay
open Go.RowKit
set_option linter.unusedVariables false
set_option linter.unusedSimpArgs false

/-- Bit p of bytes. -/
def bitAt (bs : List UInt8) (p : Nat) : Nat := (bs.getD (p / 8) 0).toNat / 2 ^ (p % 8) % 2
theorem bitAt_lt (bs : List UInt8) (p : Nat) : bitAt bs p < 2 := Nat.mod_lt _ (by omega)
/-- Number i of those in so many bits, of its lowest k. -/
def numTo (bs : List UInt8) (wd i : Nat) : Nat → Nat
  | 0 => 0
  | k + 1 => numTo bs wd i k + bitAt bs (i * wd + k) * 2 ^ k
theorem numTo_lt (bs : List UInt8) (wd i : Nat) : ∀ k, numTo bs wd i k < 2 ^ k
  | 0 => by simp [numTo]
  | k + 1 => by
    have h1 := numTo_lt bs wd i k
    have h2 := bitAt_lt bs (i * wd + k)
    have h3 : bitAt bs (i * wd + k) * 2 ^ k ≤ 1 * 2 ^ k := Nat.mul_le_mul_right _ (by omega)
    rw [numTo, Nat.pow_succ]
    omega
def upk (bs : List UInt8) (many wd : Nat) : List Nat := (List.range many).map fun i => numTo bs wd i wd
theorem upk_length (bs : List UInt8) (many wd : Nat) : (upk bs many wd).length = many := by simp [upk]
theorem upk_at (bs : List UInt8) (many wd i : Nat) (h : i < many) : (upk bs many wd)[i]? = some (numTo bs wd i wd) := by
  unfold upk
  rw [List.getElem?_map, List.getElem?_range h]; rfl
theorem acc_bit (f : Nat → Nat) (hf : ∀ p, f p < 2) (q : Nat) : ∀ m r, r < m → acc f q m / 2 ^ r % 2 = f (8 * q + r)
  | 0, r, h => by omega
  | m + 1, r, h => by
    rw [acc]
    by_cases e : r = m
    · subst e
      rw [Nat.add_mul_div_right _ _ (Nat.two_pow_pos r), Nat.div_eq_of_lt (acc_lt f hf q r), Nat.zero_add]
      exact Nat.mod_eq_of_lt (hf _)
    · have hr : r < m := by omega
      have e2 : f (8 * q + m) * 2 ^ m = f (8 * q + m) * 2 ^ (m - r - 1) * 2 * 2 ^ r := by
        have : m = (m - r - 1) + 1 + r := by omega
        conv => lhs; rw [this, Nat.pow_add, Nat.pow_succ]
        rw [show 8 * q + (m - r - 1 + 1 + r) = 8 * q + m by omega]
        simp [Nat.mul_assoc]
      rw [e2, Nat.add_mul_div_right _ _ (Nat.two_pow_pos r), Nat.add_mul_mod_self_right]
      exact acc_bit f hf q m r hr
theorem bitAt_pack (l : List Nat) (wd p : Nat) (hp : p < l.length * wd) : bitAt (packB l wd) p = bitOf l wd p := by
  unfold bitAt packB
  have hq : p / 8 < (l.length * wd + 7) / 8 := by omega
  have h1 := pk_get (bitOf l wd) ((l.length * wd + 7) / 8) (l.length * wd) (p / 8) hq
  rw [List.getD_eq_getElem?_getD, h1, Option.getD_some]
  have hm : min 8 (l.length * wd - 8 * (p / 8)) ≤ 8 := Nat.min_le_left _ _
  have h8 := acc_lt8 (bitOf l wd) (bitOf_lt l wd) (p / 8) _ hm
  rw [UInt8.toNat_ofNat', Nat.mod_eq_of_lt h8, acc_bit (bitOf l wd) (bitOf_lt l wd) (p / 8) _ (p % 8) (by omega)]
  congr 1
  omega
theorem numTo_back (bs : List UInt8) (wd i x : Nat) : ∀ m, (∀ k, k < m → bitAt bs (i * wd + k) = x / 2 ^ k % 2) → numTo bs wd i m = x % 2 ^ m
  | 0, _ => by simp [numTo, Nat.mod_one]
  | m + 1, h => by
    rw [numTo, numTo_back bs wd i x m (fun k hk => h k (by omega)), h m (by omega), Nat.mod_pow_succ, Nat.mul_comm]
theorem upk_back (l : List Nat) (wd : Nat) (h : ∀ x ∈ l, x < 2 ^ wd) : upk (packB l wd) l.length wd = l := by
  apply List.ext_getElem?
  intro i
  by_cases hi : i < l.length
  · rw [upk_at _ _ _ _ hi, List.getElem?_eq_getElem hi, numTo_back (packB l wd) wd i l[i] wd (fun k hk => ?_), Nat.mod_eq_of_lt (h _ (List.getElem_mem hi))]
    rw [bitAt_pack l wd _ (at_lt hi hk), bitOf_at l wd i k hk hi]
  · rw [List.getElem?_eq_none (by rw [upk_length]; omega), List.getElem?_eq_none (by omega)]
/-- A number out of groups of seven bits, and how many these are. -/
def tkG : Nat → Nat → List UInt8 → Nat × Nat
  | _, _, [] => (0, 0)
  | i, z, x :: r => if i < 10 then (if x.toNat < 128 then (z + x.toNat % 128 * 2 ^ (7 * i) % 18446744073709551616, i + 1) else tkG (i + 1) (z + x.toNat % 128 * 2 ^ (7 * i) % 18446744073709551616) r) else (0, 0)
theorem tkG_le : ∀ (bs : List UInt8) (i z : Nat), (tkG i z bs).2 ≤ i + bs.length
  | [], i, z => by simp [tkG]
  | x :: r, i, z => by
    rw [tkG]
    split
    · split
      · simp
      · have := tkG_le r (i + 1) (z + x.toNat % 128 * 2 ^ (7 * i) % 18446744073709551616)
        simp only [List.length_cons]; omega
    · simp
theorem low128 (z : Nat) : (UInt8.ofNat (z % 128 + 128)).toNat = z % 128 + 128 := by rw [UInt8.toNat_ofNat']; omega
end Go.Hay
namespace Go.Proofs.YtpekgpgfdiffcaaGreat
open Go.RowKit Go.Hay
theorem tkG_back (s : List UInt8) : ∀ (n z i a : Nat), z ≤ n → z * 2 ^ (7 * i) + a < 18446744073709551616 → i < 10 → tkG i a (gB z ++ s) = (a + z * 2 ^ (7 * i), i + (gB z).length) := by
  intro n
  induction n with
  | zero =>
    intro z i a hn hz hi
    obtain rfl : z = 0 := by omega
    rw [gB_lo (by omega)]
    simp only [List.cons_append, List.nil_append]
    rw [tkG, if_pos hi]
    simp
  | succ n ih =>
    intro z i a hn hz hi
    by_cases h : z < 128
    · rw [gB_lo h]
      simp only [List.cons_append, List.nil_append]
      rw [tkG, if_pos hi]
      have e : (UInt8.ofNat z).toNat = z := by rw [UInt8.toNat_ofNat']; omega
      rw [e, if_pos h, Nat.mod_eq_of_lt h, Nat.mod_eq_of_lt (show z * 2 ^ (7 * i) < 18446744073709551616 by omega)]
      simp
    · rw [gB_hi h]
      simp only [List.cons_append]
      rw [tkG, if_pos hi, low128, if_neg (by omega), show (z % 128 + 128) % 128 = z % 128 by omega]
      have hle : z % 128 * 2 ^ (7 * i) + z / 128 * 2 ^ (7 * (i + 1)) = z * 2 ^ (7 * i) := by
        have e : 2 ^ (7 * (i + 1)) = 128 * 2 ^ (7 * i) := by rw [show 7 * (i + 1) = 7 + 7 * i by omega, Nat.pow_add]
        rw [e, ← Nat.mul_assoc, ← Nat.add_mul]
        congr 1
        omega
      have hlt : z % 128 * 2 ^ (7 * i) < 18446744073709551616 := by omega
      rw [Nat.mod_eq_of_lt hlt]
      have hi2 : i + 1 < 10 := by
        have h1 : 1 ≤ z / 128 := by omega
        have h2 : 1 * 2 ^ (7 * (i + 1)) ≤ z / 128 * 2 ^ (7 * (i + 1)) := Nat.mul_le_mul_right _ h1
        have h3 : 2 ^ (7 * (i + 1)) < 2 ^ 64 := by omega
        have := (Nat.pow_lt_pow_iff_right (by omega : 1 < 2)).1 h3
        omega
      rw [ih (z / 128) (i + 1) _ (by omega) (by omega) hi2]
      simp only [List.length_cons]
      refine Prod.ext ?_ ?_
      · show _ = _; simp only; omega
      · show _ = _; simp only; omega
/-- A difference, unfolded. -/
def zag (z : Nat) : Int := if z % 2 = 0 then (z / 2 : Nat) else -((z / 2 : Nat) : Int) - 1
theorem zag_zig {d : Int} (h1 : -9223372036854775808 ≤ d) (h2 : d < 9223372036854775808) : zag (zig d).toNat = d := by
  unfold zag zig
  split
  · rw [if_pos (by omega)]; omega
  · rw [if_neg (by omega)]; omega
/-- The int of eight bytes. -/
def wordV (bs : List UInt8) : Int := wrap64 (num (bs.take 8))
def intV (n : Int) : Val := ⟨2, false, n, ⟨#[]⟩⟩
end Go.Proofs.YtpekgpgfdiffcaaGreat
end

section
namespace Go.Proofs.YtpekgpgfdiffcaaGreat
open Go.RowKit Go.Hay
set_option linter.unusedVariables false
set_option linter.unusedSimpArgs false

/-- An int64. -/
def Val.in64 (x : Val) : Prop := -9223372036854775808 ≤ x.n ∧ x.n ≤ 9223372036854775807
theorem bytes_empty {t : ByteArray} (h : t.toList = []) : t = ⟨#[]⟩ := by
  rw [Go.Lib.toList_data] at h
  cases t with
  | mk d => simp at h; rw [h]
theorem right0 {x : Val} (h : x.right = true) (hk : x.k = 0) : x = ⟨0, false, 0, ⟨#[]⟩⟩ := by
  obtain ⟨k, b, n, t⟩ := x
  dsimp only at hk
  subst hk
  simp [Val.right] at h
  obtain ⟨rfl, rfl, ht⟩ := h
  rw [bytes_empty ht]
theorem right1 {x : Val} (h : x.right = true) (hk : x.k = 1) : x = ⟨1, x.b, 0, ⟨#[]⟩⟩ := by
  obtain ⟨k, b, n, t⟩ := x
  dsimp only at hk
  subst hk
  simp [Val.right] at h
  obtain ⟨rfl, ht⟩ := h
  rw [bytes_empty ht]
theorem right2 {x : Val} (h : x.right = true) (hk : x.k = 2) : x = ⟨2, false, x.n, ⟨#[]⟩⟩ := by
  obtain ⟨k, b, n, t⟩ := x
  dsimp only at hk
  subst hk
  simp [Val.right] at h
  obtain ⟨rfl, ht⟩ := h
  rw [bytes_empty ht]
theorem right3 {x : Val} (h : x.right = true) (hk : x.k = 3) : x = ⟨3, false, 0, x.t⟩ ∧ x.t.size ≤ 64 := by
  have h6 := right_text h hk
  obtain ⟨k, b, n, t⟩ := x
  dsimp only at hk
  subst hk
  simp [Val.right] at h
  obtain ⟨⟨rfl, rfl⟩, ht⟩ := h
  exact ⟨rfl, h6⟩
theorem s64_u64 (n add : Int) (h : -9223372036854775808 ≤ n ∧ n ≤ 9223372036854775807) : wrap64 ((num (be (u64 (n + add)) 8) : Int) - add) = n := by
  rw [num_be]
  unfold u64 wrap64
  omega
theorem u64_s64 (m : Nat) (add : Int) (h : m < 18446744073709551616) : u64 (wrap64 ((m : Int) - add) + add) = m := by
  unfold u64 wrap64
  omega
theorem take8 (n : Nat) (r : List UInt8) : (be n 8 ++ r).take 8 = be n 8 := by
  rw [List.take_append_of_le_length (by rw [be_length]; omega), List.take_of_length_le (by rw [be_length]; omega)]
theorem fixF_put (x : Val) (h : x.right = true) (hi : x.in64) (h3 : x.k ≠ 3) (add : Int) (r : List UInt8) : fixF add (fixB x add ++ r) = (x, (fixB x add).length) := by
  rcases right_kind h with hk | hk | hk | hk
  · rw [right0 h hk]
    simp [fixB, fixF, nilV]
  · rw [right1 h hk]
    cases x.b <;> simp [fixB, fixF]
  · have e := right2 h hk
    have hi2 := s64_u64 x.n add hi
    generalize x.n = n at *
    rw [e]
    have t8 := take8 (u64 (n + add)) r
    have bl := be_length (u64 (n + add)) 8
    simp only [fixB, fixF, List.cons_append, if_neg (by omega : ¬ (2 : Int) = 0), if_neg (by omega : ¬ (2 : Int) = 1)]
    rw [if_neg (by decide), if_neg (by decide), if_pos (by decide), if_pos (by rw [List.length_append, bl]; omega), t8, hi2]
    simp [bl]
  · exact absurd hk h3
theorem rowF_put (x : Val) (h : x.right = true) (hi : x.in64) (r : List UInt8) : rowF (rowB x ++ r) = (x, (rowB x).length) := by
  by_cases h3 : x.k = 3
  · obtain ⟨e, h6⟩ := right3 h h3
    generalize x.t = t at *
    rw [e]
    have ho : (octet (t.size : Int)).toNat = t.size := by have := octet_toNat (t.size : Int) (by omega) (by omega); omega
    have hl : t.data.toList.length = t.size := by simp
    simp only [rowB, rowF, List.cons_append, if_true]
    rw [if_pos (by decide), ho, if_pos ⟨h6, by rw [List.length_append, hl]; omega⟩, List.take_append_of_le_length (by omega), List.take_of_length_le (by omega)]
    simp
    omega
  · have e : rowB x = fixB x 0 := by unfold rowB; rw [if_neg h3]
    rw [e]
    have := fixF_put x h hi h3 0 r
    have hne : fixB x 0 = (fixB x 0).headD 0 :: (fixB x 0).tail ∧ ((fixB x 0).headD 0).toNat ≠ 3 := by
      unfold fixB
      split
      · exact ⟨rfl, by decide⟩
      · split
        · exact ⟨rfl, by show (1 : UInt8).toNat ≠ 3; decide⟩
        · exact ⟨rfl, by show (2 : UInt8).toNat ≠ 3; decide⟩
    generalize (fixB x 0).headD 0 = f at *
    generalize (fixB x 0).tail = s at *
    rw [hne.1] at this ⊢
    rw [List.cons_append] at this ⊢
    simp only [rowF, if_neg hne.2]
    exact this
theorem rowB_pos {x : Val} (h : x.right = true) : 0 < (rowB x).length := by
  unfold rowB fixB
  repeat (first | split | simp)

theorem decL_put : ∀ l : List Val, allR l = true → (∀ x ∈ l, x.in64) → decL l.length (l.flatMap rowB) = some l
  | [], _, _ => by simp [decL]
  | x :: l, h, hi => by
    unfold allR at h
    rw [List.all_cons, Bool.and_eq_true] at h
    have ih := decL_put l h.2 (fun y hy => hi y (by simp [hy]))
    have hp := rowB_pos h.1
    rw [List.length_cons, decL, List.flatMap_cons, rowF_put x h.1 (hi x (by simp))]
    simp only
    rw [if_neg (by omega), List.drop_left, ih]
    rfl
theorem decS_put (l : List Val) (h : okR l = true) (hi : ∀ x ∈ l, x.in64) : decS (encB l) = (l, 0) := by
  have h16 := okR_len h
  have ho : (octet (l.length : Int)).toNat = l.length := by have := octet_toNat (l.length : Int) (by omega) (by omega); omega
  unfold encB
  simp only [decS]
  rw [ho, if_neg (by omega), decL_put l (okR_all h) hi]
  rfl

/-- What is read is what the first bytes say. -/
theorem fixF_mono (add : Int) (p s : List UInt8) (h : (fixF add p).2 ≠ 0) : fixF add (p ++ s) = fixF add p := by
  cases p with
  | nil => simp [fixF] at h
  | cons f r =>
    rw [List.cons_append]
    simp only [fixF] at h ⊢
    split
    · rfl
    · rw [if_neg (by assumption)] at h
      split
      · rw [if_pos (by assumption)] at h
        cases r with
        | nil => simp at h
        | cons y t => rfl
      · rw [if_neg (by assumption)] at h
        split
        · rw [if_pos (by assumption)] at h
          by_cases h8 : 8 ≤ r.length
          · rw [if_pos (by rw [List.length_append]; omega), if_pos h8, List.take_append_of_le_length h8]
          · rw [if_neg h8] at h; simp at h
        · rfl
theorem rowF_mono (p s : List UInt8) (h : (rowF p).2 ≠ 0) : rowF (p ++ s) = rowF p := by
  cases p with
  | nil => simp [rowF] at h
  | cons f r =>
    rw [List.cons_append]
    simp only [rowF] at h ⊢
    split
    · rw [if_pos (by assumption)] at h
      cases r with
      | nil => simp at h
      | cons y t =>
        rw [List.cons_append]
        simp only at h ⊢
        by_cases hc : y.toNat ≤ 64 ∧ y.toNat ≤ t.length
        · rw [if_pos ⟨hc.1, by rw [List.length_append]; omega⟩, if_pos hc, List.take_append_of_le_length hc.2]
        · rw [if_neg hc] at h; simp at h
    · rw [if_neg (by assumption)] at h
      rw [← List.cons_append]
      exact fixF_mono 0 (f :: r) s h
theorem decL_more : ∀ (n : Nat) (p s : List UInt8) (l : List Val), decL n p = some l → s ≠ [] → decL n (p ++ s) = none
  | 0, p, s, l, h, hs => by
    rw [decL] at h ⊢
    split at h
    · subst p; simpa using hs
    · cases h
  | n + 1, p, s, l, h, hs => by
    rw [decL] at h ⊢
    by_cases h0 : (rowF p).2 = 0
    · rw [if_pos h0] at h; cases h
    · rw [if_neg h0] at h
      rw [rowF_mono p s h0, if_neg h0]
      obtain ⟨l', h', _⟩ := Option.map_eq_some_iff.1 h
      rw [List.drop_append_of_le_length (rowF_le p), decL_more n _ s l' h' hs]
      rfl
theorem decS_more (l : List Val) (h : okR l = true) (hi : ∀ x ∈ l, x.in64) (s : List UInt8) (hs : s ≠ []) : decS (encB l ++ s) = ([], 30) := by
  have h16 := okR_len h
  have ho : (octet (l.length : Int)).toNat = l.length := by have := octet_toNat (l.length : Int) (by omega) (by omega); omega
  unfold encB
  rw [List.cons_append]
  simp only [decS]
  rw [ho, if_neg (by omega), decL_more _ _ s l (decL_put l (okR_all h) hi) hs]
  rfl
theorem decS_cut (l : List Val) (h : okR l = true) (hi : ∀ x ∈ l, x.in64) (cut : Nat) (hc : cut < (encB l).length) : decS ((encB l).take cut) = ([], 30) := by
  have h16 := okR_len h
  have ho : (octet (l.length : Int)).toNat = l.length := by have := octet_toNat (l.length : Int) (by omega) (by omega); omega
  cases cut with
  | zero => rfl
  | succ n =>
    unfold encB at hc ⊢
    rw [List.length_cons] at hc
    rw [List.take_succ_cons]
    simp only [decS]
    rw [ho, if_neg (by omega)]
    cases hd : decL l.length ((l.flatMap rowB).take n) with
    | none => rfl
    | some l' =>
      have h1 := decL_more _ _ ((l.flatMap rowB).drop n) l' hd (by intro h; have := congrArg List.length h; simp only [List.length_drop, List.length_nil] at this; omega)
      rw [List.take_append_drop, decL_put l (okR_all h) hi] at h1
      cases h1
end Go.Proofs.YtpekgpgfdiffcaaGreat
end

section
namespace Go.Proofs.YtpekgpgfdiffcaaGreat
open Go.RowKit Go.Hay
set_option linter.unusedVariables false
set_option linter.unusedSimpArgs false

/-- So many values, and the bytes behind them. -/
def tkP : Nat → List Val → List UInt8 → Option (List Val × List UInt8)
  | 0, acc, bs => some (acc, bs)
  | n + 1, acc, bs => if (tkV bs).2 = 0 then none else tkP n (acc ++ [(tkV bs).1]) (bs.drop (tkV bs).2)
/-- Ints by their differences. -/
def tkD : Nat → Int → List Val → List UInt8 → Option (List Val)
  | 0, n, acc, bs => some acc
  | k + 1, n, acc, bs => if (tkG 0 0 bs).2 = 0 then none else tkD k (IntKind.i64.wrap (n + zag (tkG 0 0 bs).1)) (acc ++ [intV (IntKind.i64.wrap (n + zag (tkG 0 0 bs).1))]) (bs.drop (tkG 0 0 bs).2)
def tkDl (many : Nat) (bs : List UInt8) : Option (List Val) := if bs.length < 8 then none else tkD (many - 1) (wordV bs) [intV (wordV bs)] (bs.drop 8)
/-- Numbers in so many bits, if there are just their bytes. -/
def upkO (bs : List UInt8) (many wd : Nat) : Option (List Nat) := if bs.length = (many * wd + 7) / 8 then some (upk bs many wd) else none
def tkBt (many : Nat) (bs : List UInt8) : Option (List Val) :=
  if bs.length ≤ 8 ∨ 64 < (bs.getD 8 0).toNat then none else (upkO (bs.drop 9) many (bs.getD 8 0).toNat).map fun l => l.map fun (n : Nat) => intV (IntKind.i64.wrap (wordV bs + (n : Int)))
def tkDc (many : Nat) (bs : List UInt8) : Option (List Val) :=
  if bs.length = 0 ∨ (bs.getD 0 0).toNat = 0 ∨ many < (bs.getD 0 0).toNat then none
  else match tkP (bs.getD 0 0).toNat [] (bs.drop 1) with
    | none => none
    | some (u, r) => match upkO r many (Lib.bitLen (u.length - 1)) with
      | none => none
      | some ps => if ps.all (fun p => decide (p < u.length)) = true then some (ps.map fun p => u.getD p nv) else none
/-- What take reads. -/
def tkA (k : Int) (many : Nat) (bs : List UInt8) : Option (List Val) :=
  if many = 0 then some [] else if k = 1 then tkR many [] bs else if k = 2 then tkDl many bs else if k = 3 then tkDc many bs else if k = 4 then tkBt many bs else (tkP many [] bs).map Prod.fst

theorem vsz_rowB (x : Val) (h : x.right = true) (s : List UInt8) : vsz (rowB x ++ s) = (rowB x).length := by
  by_cases h3 : x.k = 3
  · obtain ⟨e, h6⟩ := right3 h h3
    have ho : (octet (x.t.size : Int)).toNat = x.t.size := by have := octet_toNat (x.t.size : Int) (by omega) (by omega); omega
    have hl : x.t.data.toList.length = x.t.size := by simp
    simp only [rowB, if_pos h3, List.cons_append, vsz]
    rw [if_neg (by decide), if_neg (by decide), if_neg (by decide), if_pos (by decide), ho]
    simp
    omega
  · have e : rowB x = fixB x 0 := by unfold rowB; rw [if_neg h3]
    rw [e]
    unfold fixB
    split
    · rfl
    · split
      · rfl
      · show vsz (2 :: (be (u64 (x.n + 0)) 8 ++ s)) = _
        simp only [vsz]
        rw [if_neg (by decide), if_neg (by decide), if_pos (by decide)]
        simp [be_length]
theorem tkV_put (x : Val) (h : x.right = true) (hi : x.in64) (s : List UInt8) : tkV (rowB x ++ s) = (x, (rowB x).length) := by
  have hp := rowB_pos h
  unfold tkV
  rw [vsz_rowB x h s, if_neg (by rw [List.length_append]; omega), List.take_left]
  have e : decS (1 :: rowB x) = ([x], 0) := by
    have := decS_put [x] (by simp [okR, allR, h]) (by simpa using hi)
    have e2 : encB [x] = 1 :: rowB x := by simp [encB]; rfl
    rw [e2] at this
    exact this
  rw [e]
  rfl
theorem tkP_put : ∀ (l acc : List Val) (s : List UInt8), allR l = true → (∀ x ∈ l, x.in64) → tkP l.length acc (l.flatMap rowB ++ s) = some (acc ++ l, s)
  | [], acc, s, _, _ => by simp [tkP]
  | x :: l, acc, s, h, hi => by
    have hx : x.right = true := by simp [allR] at h; exact h.1
    have hl : allR l = true := by simp [allR] at h ⊢; exact h.2
    have hp := rowB_pos hx
    rw [List.flatMap_cons, List.append_assoc, List.length_cons, tkP, tkV_put x hx (hi x (by simp))]
    simp only
    rw [if_neg (by omega), List.drop_left, tkP_put l _ s hl (fun y hy => hi y (by simp [hy]))]
    simp
theorem tkR_put : ∀ (R : List Rn) (acc : List Val) (s : List UInt8) (many : Nat), (∀ r ∈ R, r.v.right = true ∧ r.v.in64 ∧ 0 < r.m ∧ r.m < 256) → many = acc.length + (R.map Rn.m).sum → tkR many acc (R.flatMap runB ++ s) = some (acc ++ R.flatMap fun r => List.replicate r.m r.v)
  | [], acc, s, many, _, hm => by rw [tkR_done (by simp at hm; omega)]; simp
  | r :: R, acc, s, many, h, hm => by
    obtain ⟨h1, h2, h3, h4⟩ := h r (by simp)
    have hp := rowB_pos h1
    simp only [List.map_cons, List.sum_cons] at hm
    have e : (r :: R).flatMap runB ++ s = octet r.m :: (rowB r.v ++ (R.flatMap runB ++ s)) := by simp [runB]
    rw [e, tkR_cons (by omega), tkV_put r.v h1 h2]
    simp only
    rw [if_neg (by omega), List.drop_left, octet_nat r.m h4, tkR_put R _ s many (fun r' hr' => h r' (by simp [hr'])) (by simp; omega)]
    simp
theorem runsV_flat : ∀ l : List Val, (runsV l).flatMap (fun r => List.replicate r.m r.v) = l ∧ (∀ r ∈ runsV l, 0 < r.m) ∧ ((runsV l).map Rn.m).sum = l.length
  | [] => by simp [runsV]
  | x :: l => by
    obtain ⟨h1, h2, h3⟩ := runsV_flat l
    rw [runsV]
    cases hr : runsV l with
    | nil =>
      rw [hr] at h1 h3
      have : l = [] := by simpa using h1.symm
      subst this
      simp
    | cons r rs =>
      rw [hr] at h1 h2 h3
      simp only
      split
      · rename_i he
        have e := eqv_iff.1 he
        refine ⟨?_, ?_, ?_⟩
        · rw [← h1, e]; simp [List.replicate_succ]
        · intro q hq
          simp only [List.mem_cons] at hq
          rcases hq with rfl | hq
          · simp
          · exact h2 q (by simp [hq])
        · simp at h3 ⊢; omega
      · refine ⟨?_, ?_, ?_⟩
        · rw [← h1]; simp
        · intro q hq
          simp only [List.mem_cons] at hq
          rcases hq with rfl | hq
          · simp
          · exact h2 q (by simpa using hq)
        · simp at h3 ⊢; omega
theorem back_runs (l : List Val) (h : allR l = true) (hi : ∀ x ∈ l, x.in64) (hl : l.length ≤ 64) (s : List UInt8) : tkR l.length [] ((runsV l).flatMap runB ++ s) = some l := by
  obtain ⟨h1, h2, h3⟩ := runsV_flat l
  rw [tkR_put (runsV l) [] s l.length (fun r hr => ?_) (by simp [h3]), h1]
  · simp
  · have := runsV_in r hr
    exact ⟨List.all_eq_true.1 h _ this.1, hi _ this.1, h2 r hr, by omega⟩
/-- Differences, one behind the other. -/
def dltL : Val → List Val → List UInt8
  | _, [] => []
  | x, y :: r => gB (zig (IntKind.i64.wrap (y.n - x.n))).toNat ++ dltL y r
theorem dltL_eq : ∀ (r : List Val) (x : Val), dlt (x :: r) r.length = dltL x r
  | [], x => by simp [dlt, dltL]
  | y :: r, x => by
    rw [dltL, ← dltL_eq r y]
    unfold dlt
    rw [List.length_cons, List.range_succ_eq_map, List.flatMap_cons]
    congr 1
    rw [List.flatMap_map]
    rfl
theorem wrap_diff (n m : Int) (hn : -9223372036854775808 ≤ n ∧ n ≤ 9223372036854775807) (hm : -9223372036854775808 ≤ m ∧ m ≤ 9223372036854775807) : IntKind.i64.wrap (n + IntKind.i64.wrap (m - n)) = m := by
  rw [IntKind.wrap_i64, IntKind.wrap_i64]; omega
theorem gB_pos (z : Nat) : 0 < (gB z).length := by
  by_cases h : z < 128
  · rw [gB_lo h]; simp
  · rw [gB_hi h]; simp
theorem tkG_zig (d : Int) (h1 : -9223372036854775808 ≤ d) (h2 : d < 9223372036854775808) (s : List UInt8) : tkG 0 0 (gB (zig d).toNat ++ s) = ((zig d).toNat, (gB (zig d).toNat).length) := by
  have hb := zig_bd h1 h2
  rw [tkG_back s _ (zig d).toNat 0 0 (Nat.le_refl _) (by simp; omega) (by omega)]
  simp
theorem int_of {x : Val} (h : x.right = true) (hk : x.k = 2) : x = intV x.n := right2 h hk
theorem tkD_put : ∀ (r : List Val) (x : Val) (acc : List Val) (s : List UInt8), x.in64 → (∀ y ∈ r, y.in64 ∧ y = intV y.n) → tkD r.length x.n acc (dltL x r ++ s) = some (acc ++ r)
  | [], x, acc, s, _, _ => by simp [tkD]
  | y :: r, x, acc, s, hx, h => by
    obtain ⟨hy1, hy2⟩ := h y (by simp)
    have hw := wrap64_bd (y.n - x.n)
    have hp := gB_pos (zig (IntKind.i64.wrap (y.n - x.n))).toNat
    rw [dltL, List.append_assoc, List.length_cons, tkD, tkG_zig _ hw.1 hw.2]
    simp only
    rw [if_neg (by omega), List.drop_left, zag_zig hw.1 hw.2, wrap_diff x.n y.n hx hy1, ← hy2, tkD_put r y _ s hy1 (fun z hz => h z (by simp [hz]))]
    simp
theorem wordV_put (n : Int) (h : -9223372036854775808 ≤ n ∧ n ≤ 9223372036854775807) (s : List UInt8) : wordV (be (u64 n) 8 ++ s) = n := by
  unfold wordV
  rw [take8]
  have := s64_u64 n 0 h
  simpa using this
theorem back_delta (l : List Val) (h : allR l = true) (hi : ∀ x ∈ l, x.in64) (h2 : allI l = true) (h0 : 0 < l.length) (s : List UInt8) : tkDl l.length (deltaB l ++ s) = some l := by
  cases l with
  | nil => simp at h0
  | cons x r =>
    have hint : ∀ y ∈ x :: r, y = intV y.n := fun y hy => int_of (List.all_eq_true.1 h y hy) (by have := List.all_eq_true.1 h2 y hy; simpa using this)
    have e : deltaB (x :: r) ++ s = be (u64 x.n) 8 ++ (dltL x r ++ s) := by
      unfold deltaB
      rw [List.length_cons, Nat.add_sub_cancel, dltL_eq]
      simp
    unfold tkDl
    rw [e, if_neg (by rw [List.length_append, be_length]; omega), wordV_put x.n (hi x (by simp)), List.length_cons, Nat.add_sub_cancel]
    have e8 : (be (u64 x.n) 8 ++ (dltL x r ++ s)).drop 8 = dltL x r ++ s := by
      have : (be (u64 x.n) 8).length = 8 := be_length _ _
      exact List.drop_left' this
    rw [e8, tkD_put r x _ s (hi x (by simp)) (fun y hy => ⟨hi y (by simp [hy]), hint y (by simp [hy])⟩), ← hint x (by simp)]
    rfl
theorem bitLen_lt (x : Nat) (h : x < 18446744073709551616) : x < 2 ^ Lib.bitLen x := by
  have : ∀ (f x : Nat), x < 2 ^ f → x < 2 ^ Lib.bitLenAux f x := by
    intro f
    induction f with
    | zero => intro x hx; simpa [Lib.bitLenAux] using hx
    | succ f ih =>
      intro x hx
      unfold Lib.bitLenAux
      split
      · rename_i h0; simp_all
      · have h1 := ih (x / 2) (by rw [Nat.pow_succ] at hx; omega)
        rw [Nat.pow_add, Nat.pow_one]
        omega
  exact this 64 x h
theorem wdt_ge (l : List Val) (m : Int) : ∀ j k, k < j → Lib.bitLen (abv l m k) ≤ wdt l m j
  | 0, k, h => by omega
  | j + 1, k, h => by
    rw [wdt]
    by_cases e : k = j
    · subst e; omega
    · have := wdt_ge l m j k (by omega)
      omega
theorem upkO_back (l : List Nat) (wd : Nat) (h : ∀ x ∈ l, x < 2 ^ wd) : upkO (packB l wd) l.length wd = some l := by
  unfold upkO
  rw [if_pos (packB_length l wd), upk_back l wd h]
theorem abv_back (l : List Val) (m : Int) (k : Nat) (hm : -9223372036854775808 ≤ m ∧ m ≤ 9223372036854775807) (hk : -9223372036854775808 ≤ (l.getD k nv).n ∧ (l.getD k nv).n ≤ 9223372036854775807) : IntKind.i64.wrap (m + (abv l m k : Int)) = (l.getD k nv).n := by
  unfold abv
  rw [IntKind.wrap_i64]
  omega
theorem least_in (l : List Val) (hi : ∀ x ∈ l, x.in64) (h0 : 0 < l.length) : ∀ j, -9223372036854775808 ≤ leastTo l j ∧ leastTo l j ≤ 9223372036854775807 := by
  have hg : ∀ k, -9223372036854775808 ≤ (l.getD k nv).n ∧ (l.getD k nv).n ≤ 9223372036854775807 := fun k => by
    by_cases hk : k < l.length
    · have e : l.getD k nv = l[k] := by simp [hk]
      rw [e]; exact hi _ (List.getElem_mem hk)
    · have e : l.getD k nv = nv := by simp [List.getElem?_eq_none (by omega : l.length ≤ k)]
      rw [e]; exact ⟨by decide, by decide⟩
  intro j
  induction j with
  | zero => exact hg 0
  | succ j ih =>
    have := hg j
    unfold leastTo
    omega
theorem range_map_getD (l : List Val) : (List.range l.length).map (fun k => l.getD k nv) = l := by
  apply List.ext_getElem?
  intro i
  by_cases hi : i < l.length
  · rw [List.getElem?_map, List.getElem?_range hi]
    simp [hi]
  · rw [List.getElem?_eq_none (by simp; omega), List.getElem?_eq_none (by omega)]
theorem back_bits (l : List Val) (h : allR l = true) (hi : ∀ x ∈ l, x.in64) (h2 : allI l = true) (h0 : 0 < l.length) : tkBt l.length (bitsB l) = some l := by
  have hw := wdt_le l (leastTo l l.length) l.length
  have hin := least_in l hi h0 l.length
  have hge := wdt_ge l (leastTo l l.length) l.length
  obtain ⟨m, hm⟩ : ∃ m, leastTo l l.length = m := ⟨_, rfl⟩
  rw [hm] at hw hin hge
  obtain ⟨wd, hwd⟩ : ∃ wd, wdt l m l.length = wd := ⟨_, rfl⟩
  rw [hwd] at hw hge
  have e : bitsB l = be (u64 m) 8 ++ (octet wd :: packB (abvs l m l.length) wd) := by unfold bitsB; rw [hm, hwd]; simp
  have hl8 : (be (u64 m) 8).length = 8 := be_length _ _
  have ho : (octet wd).toNat = wd := octet_nat wd (by omega)
  have e8 : (be (u64 m) 8 ++ (octet wd :: packB (abvs l m l.length) wd)).getD 8 0 = octet wd := by
    rw [List.getD_eq_getElem?_getD, List.getElem?_append_right (by omega), hl8]; rfl
  have e9 : (be (u64 m) 8 ++ (octet wd :: packB (abvs l m l.length) wd)).drop 9 = packB (abvs l m l.length) wd := by
    rw [show 9 = (be (u64 m) 8).length + 1 by rw [hl8], List.drop_append]; simp
  unfold tkBt
  rw [e, e8, e9, ho, if_neg (by rw [List.length_append, List.length_cons, hl8]; omega), wordV_put m hin]
  have hub := upkO_back (abvs l m l.length) wd (fun x hx => by
    unfold abvs at hx
    obtain ⟨k, hk, rfl⟩ := List.mem_map.1 hx
    have h1 := bitLen_lt (abv l m k) (abv_lt l m k)
    exact Nat.lt_of_lt_of_le h1 (Nat.pow_le_pow_right (by omega) (hge k (by simpa using hk))))
  rw [abvs_length] at hub
  rw [hub, Option.map_some, Option.some.injEq]
  unfold abvs
  rw [List.map_map]
  conv => rhs; rw [← range_map_getD l]
  apply List.map_congr_left
  intro k hk
  have hk' : k < l.length := by simpa using hk
  have eg : l.getD k nv = l[k] := by simp [hk']
  show intV _ = _
  rw [abv_back l m k hin (by rw [eg]; exact hi _ (List.getElem_mem hk'))]
  have := int_of (List.all_eq_true.1 h _ (List.getElem_mem hk')) (by have := List.all_eq_true.1 h2 _ (List.getElem_mem hk'); simpa using this)
  rw [eg, ← this]
theorem back_dict (l : List Val) (h : allR l = true) (hi : ∀ x ∈ l, x.in64) (h0 : 0 < l.length) (hl : l.length ≤ 64) : tkDc l.length (dictB l) = some l := by
  have hul := uniq_len l
  have hur := uniq_right l h
  have hum := uniq_mem l
  obtain ⟨u, hu⟩ : ∃ u, uniq l = u := ⟨_, rfl⟩
  have e : dictB l = octet u.length :: (u.flatMap rowB ++ packB (plcs u l l.length) (Lib.bitLen (u.length - 1))) := by unfold dictB; rw [hu]; simp
  rw [hu] at hul hur
  simp only [hu] at hum
  have hu0 : 0 < u.length := by
    cases l with
    | nil => simp at h0
    | cons x r => exact List.length_pos_of_mem ((hum x).2 (by simp))
  have ho : (octet u.length).toNat = u.length := octet_nat _ (by omega)
  unfold tkDc
  rw [e]
  have e0 : (octet (u.length : Int) :: (u.flatMap rowB ++ packB (plcs u l l.length) (Lib.bitLen (u.length - 1)))).getD 0 0 = octet u.length := rfl
  rw [e0, ho, if_neg (by rw [List.length_cons]; omega), List.drop_one, List.tail_cons, tkP_put u [] _ hur (fun x hx => hi x ((hum x).1 hx))]
  simp only [List.nil_append]
  have hpl : ∀ p ∈ plcs u l l.length, p < u.length := fun p hp => by
    unfold plcs at hp
    obtain ⟨k, hk, rfl⟩ := List.mem_map.1 hp
    have hk' : k < l.length := by simpa using hk
    have eg : l.getD k nv = l[k] := by simp [hk']
    exact (idxV_mem u _ ((hum _).2 (by rw [eg]; exact List.getElem_mem hk'))).1
  have hub := upkO_back (plcs u l l.length) (Lib.bitLen (u.length - 1)) (fun x hx => by
    have h1 := hpl x hx
    have h2 := bitLen_lt (u.length - 1) (by omega)
    omega)
  rw [plcs_length] at hub
  rw [hub]
  simp only
  rw [if_pos (List.all_eq_true.2 fun p hp => by simpa using hpl p hp), Option.some.injEq]
  unfold plcs
  rw [List.map_map]
  conv => rhs; rw [← range_map_getD l]
  apply List.map_congr_left
  intro k hk
  have hk' : k < l.length := by simpa using hk
  have eg : l.getD k nv = l[k] := by simp [hk']
  exact (idxV_mem u _ ((hum _).2 (by rw [eg]; exact List.getElem_mem hk'))).2.1
/-- What is written is read back, in every kind. -/
theorem back_all (k : Int) (l : List Val) (hi : ∀ x ∈ l, x.in64) (hr : refE k l = 0) (h0 : 0 < l.length) : tkA k l.length (encR k l) = some l := by
  obtain ⟨hk, hl, ha⟩ := refE_ok hr
  have hint : ofI k = true → allI l = true := fun ho => by
    unfold refE at hr
    rw [hk, ha, ho] at hr
    simp at hr
    split at hr
    · simp at hr
    · by_cases h : allI l = true
      · exact h
      · simp [h] at hr
  have e : encR k l = putB k l := by unfold encR; rw [if_pos ⟨hr, h0⟩]
  rw [e]
  unfold tkA putB
  rw [if_neg (by omega)]
  by_cases h1 : k = 1
  · subst h1; simpa using back_runs l ha hi hl []
  · rw [if_neg h1, if_neg h1]
    by_cases h2 : k = 2
    · subst h2; simpa using back_delta l ha hi (hint rfl) h0 []
    · rw [if_neg h2, if_neg h2]
      by_cases h3 : k = 3
      · subst h3; simpa using back_dict l ha hi h0 hl
      · rw [if_neg h3, if_neg h3]
        by_cases h4 : k = 4
        · subst h4; simpa using back_bits l ha hi (hint rfl) h0
        · rw [if_neg h4, if_neg h4]
          have := tkP_put l [] [] ha hi
          rw [List.append_nil] at this
          rw [this]; rfl
end Go.Proofs.YtpekgpgfdiffcaaGreat
end

section
namespace Go.Proofs.YtpekgpgfdiffcaaGreat
open Go.RowKit Go.Hay
set_option linter.unusedVariables false
set_option linter.unusedSimpArgs false

theorem i64_or_nat (A b : Nat) (hA : A < 72057594037927936) (hb : b < 256) : bits .or .i64 (wrap64 ((A : Int) * 256)) (b : Int) = wrap64 ((A * 256 + b : Nat) : Int) := by
  show IntKind.i64.wrap ((BitVec.ofInt 64 (wrap64 ((A : Int) * 256)) ||| BitVec.ofInt 64 (b : Int)).toNat : Int) = _
  have e1 : (BitVec.ofInt 64 (wrap64 ((A : Int) * 256))).toNat = A * 256 := by
    rw [BitVec.toNat_ofInt]; unfold wrap64; omega
  have e2 : (BitVec.ofInt 64 (b : Int)).toNat = b := by rw [BitVec.toNat_ofInt]; omega
  rw [BitVec.toNat_or, e1, e2, IntKind.wrap_i64]
  have e3 : A * 256 ||| b = A * 256 + b := by
    have := or_sum b A 8 (by omega)
    rw [Nat.or_comm]
    rw [show A * 256 + b = b + A * 2 ^ 8 by omega, ← this]
  rw [e3]
  unfold wrap64
  omega
set_option maxHeartbeats 2000000 in
theorem cWord (a : Option Addr) (c : Nat) (bs : List UInt8) (w : World) (hs : Sees w a bs) (h8 : 8 ≤ bs.length) (hl : bs.length ≤ 900000000000000) :
    Calls Tryz.prog 37 #[.slice a bs.length c] w fun e w' => e = .returned (.int .i64 (wordV bs)) ∧ w' = w := by
  obtain ⟨g, o, rfl, hc⟩ : ∃ g o, a = some ⟨g, o, none⟩ ∧ ∀ j u, bs[j]? = some u → w.cell? ⟨g, o + j, none⟩ = some (.int .u8 u.toNat) := by
    rcases hs with h | h
    · rw [h] at h8; simp at h8
    · exact h
  have hc' := hid hc
  have hF : Hid (wordV bs = wrap64 (num (bs.take 8))) := rfl
  rw [hF.out]
  clear hs hc
  go_enter Tryz.func37, Tryz.ntmps37
  go_wp2_with fail
  go_loopw [3, 5] (fun n i wn => ∃ j : Nat, j ≤ 8 ∧ i = .int .i64 j ∧ n = .int .i64 (wrap64 (num (bs.take j))) ∧ wn = w) (fun _ i _ => 8 - (intOf i).toNat)
  case atStart => exact ⟨0, Nat.zero_le _, rfl, by simp [num, wrap64], rfl⟩
  case round =>
    obtain ⟨j, hj, rfl, rfl, rfl⟩ := hrel
    by_cases hlt : j < 8
    · have hjl : j < bs.length := by omega
      have hcx := hc'.out j bs[j] (by simp [hjl])
      have hx := bs[j].toNat_lt
      have hs := hid (num_take_succ bs j hjl)
      have hA := num_take_lt bs j (by omega)
      generalize bs[j].toNat = x at *
      obtain ⟨A, hAA⟩ : ∃ A, Hid (num (bs.take j) = A) := ⟨_, rfl⟩
      rw [hAA.out] at hs hA ⊢
      have eA : wrap64 (A : Int) = (A : Int) := by unfold wrap64; omega
      have hor := i64_or_nat A x hA hx
      rw [← hs.out] at hor
      rw [eA]
      clear eA
      go_wp2_with fail
      exact ⟨⟨j + 1, by omega, by go_num, rfl, trivial⟩, by simp [intOf]; omega⟩
    · obtain rfl : j = 8 := by omega
      obtain ⟨A, hAA⟩ : ∃ A, Hid (wrap64 (num (bs.take 8)) = A) := ⟨_, rfl⟩
      rw [hAA.out]
      go_wp2_with fail
      go_ret
      exact ⟨by rw [hAA.out]; rfl, rfl⟩
theorem i64_not (d : Nat) (h : d < 9223372036854775808) : bits .xor .i64 (-1) (d : Int) = -(d : Int) - 1 := by
  show IntKind.i64.wrap ((BitVec.ofInt 64 (-1) ^^^ BitVec.ofInt 64 (d : Int)).toNat : Int) = _
  have h1 : BitVec.ofInt 64 (-1) = BitVec.allOnes 64 := by decide
  rw [h1, BitVec.allOnes_xor, BitVec.toNat_not]
  have e2 : (BitVec.ofInt 64 (d : Int)).toNat = d := by rw [BitVec.toNat_ofInt]; omega
  rw [e2, IntKind.wrap_i64]
  omega
theorem cUnfold (z : Nat) (hz : z < 18446744073709551616) (w : World) : Calls Tryz.prog 40 #[.int .u64 (z : Int)] w fun e w' => e = .returned (.int .i64 (zag z)) ∧ w' = w := by
  have hn := i64_not (z / 2) (by omega)
  by_cases h : z % 2 = 0
  · have hF : Hid (zag z = ((z / 2 : Nat) : Int)) := by show _ = _; unfold zag; rw [if_pos h]
    rw [hF.out]
    clear hn
    go_enter Tryz.func40, Tryz.ntmps40
    go_wp2_with fail
    go_ret
    exact ⟨by go_num, rfl⟩
  · have hF : Hid (zag z = -((z / 2 : Nat) : Int) - 1) := by show _ = _; unfold zag; rw [if_neg h]
    have h1 : z % 2 = 1 := by omega
    rw [hF.out]
    have hn' := hid hn
    clear hn
    go_enter Tryz.func40, Tryz.ntmps40
    go_wp2_with fail
    go_ret
    refine ⟨?_, rfl⟩
    have e : ((z / 2 : Nat) : Int) = (z : Int) / 2 := by omega
    rw [e] at hn'
    have := hn'.out
    simp [this]
theorem grp_step (j z x : Nat) (hj : j < 10) (hz : z < 2 ^ (7 * j)) (hz2 : z < 18446744073709551616) : bits .or .u64 (z : Int) (IntKind.u64.wrap ((x : Int) % 128 * 2 ^ (7 * j))) = ((z + x % 128 * 2 ^ (7 * j) % 18446744073709551616 : Nat) : Int) ∧ z + x % 128 * 2 ^ (7 * j) % 18446744073709551616 < 2 ^ (7 * (j + 1)) ∧ z + x % 128 * 2 ^ (7 * j) % 18446744073709551616 < 18446744073709551616 := by
  have hx : x % 128 < 128 := Nat.mod_lt _ (by omega)
  have e : IntKind.u64.wrap ((x : Int) % 128 * 2 ^ (7 * j)) = ((x % 128 * 2 ^ (7 * j) % 18446744073709551616 : Nat) : Int) := by
    have e2 : (x : Int) % 128 * 2 ^ (7 * j) = ((x % 128 * 2 ^ (7 * j) : Nat) : Int) := by simp
    rw [IntKind.wrap_u64, e2]
    omega
  have hdiv : ∃ y, x % 128 * 2 ^ (7 * j) % 18446744073709551616 = y * 2 ^ (7 * j) ∧ y < 128 := by
    by_cases h9 : j = 9
    · subst h9
      exact ⟨x % 128 % 2, by omega, by omega⟩
    · have : 2 ^ (7 * j) ≤ 2 ^ 56 := Nat.pow_le_pow_right (by omega) (by omega)
      have h2 : x % 128 * 2 ^ (7 * j) ≤ 127 * 2 ^ 56 := Nat.mul_le_mul (by omega) this
      exact ⟨x % 128, by omega, hx⟩
  obtain ⟨y, hy, hy2⟩ := hdiv
  have hlt : x % 128 * 2 ^ (7 * j) % 18446744073709551616 < 18446744073709551616 := Nat.mod_lt _ (by omega)
  rw [e, hy]
  rw [hy] at hlt
  have hor : z ||| y * 2 ^ (7 * j) = z + y * 2 ^ (7 * j) := or_sum z y (7 * j) hz
  have hlt2 : z ||| y * 2 ^ (7 * j) < 2 ^ 64 := Nat.or_lt_two_pow (by omega) (by omega)
  rw [hor] at hlt2
  refine ⟨?_, ?_, by omega⟩
  · rw [u64_or_nat z (y * 2 ^ (7 * j)) hz2 hlt, hor]
  · have e7 : 2 ^ (7 * (j + 1)) = 128 * 2 ^ (7 * j) := by rw [show 7 * (j + 1) = 7 + 7 * j by omega, Nat.pow_add]
    rw [e7]
    have : y * 2 ^ (7 * j) ≤ 127 * 2 ^ (7 * j) := Nat.mul_le_mul_right _ (by omega)
    omega
set_option maxHeartbeats 2000000 in
set_option maxRecDepth 100000 in
theorem cTakeGroups (a : Option Addr) (c : Nat) (bs : List UInt8) (w : World) (hs : Sees w a bs) (hl : bs.length ≤ 900000000000000) :
    Calls Tryz.prog 39 #[.slice a bs.length c] w fun e w' => e = .returned (.tuple #[.int .u64 ((tkG 0 0 bs).1 : Int), .int .i64 ((tkG 0 0 bs).2 : Int)]) ∧ w' = w := by
  obtain ⟨F, hF⟩ : ∃ F, Hid (tkG 0 0 bs = F) := ⟨_, rfl⟩
  rw [hF.out]
  obtain ⟨g, o, haa, hc'⟩ : ∃ g o, (bs ≠ [] → a = some ⟨g, o, none⟩) ∧ Hid (∀ j u, bs[j]? = some u → w.cell? ⟨g, o + j, none⟩ = some (.int .u8 u.toNat)) := by
    rcases hs with h | ⟨g, o, h, hc⟩
    · subst h; exact ⟨0, 0, fun h => absurd rfl h, fun j u hu => by simp at hu⟩
    · exact ⟨g, o, fun _ => h, hc⟩
  have haa' := hid haa
  clear hs haa
  by_cases h10 : bs.length ≤ 10
  · have d10 : (bs.length : Int) ≤ 10 := by omega
    go_enter Tryz.func39, Tryz.ntmps39
    go_wp2_with fail
    go_loopw [4, 9] (fun n i wn => ∃ j z : Nat, j ≤ bs.length ∧ i = .int .i64 j ∧ n = .int .u64 (z : Int) ∧ z < 2 ^ (7 * j) ∧ z < 18446744073709551616 ∧ Hid (tkG j z (bs.drop j) = F) ∧ wn = w) (fun _ i _ => bs.length - (intOf i).toNat)
    case atStart => exact ⟨0, 0, Nat.zero_le _, rfl, rfl, by decide, by decide, hF, rfl⟩
    case round =>
      obtain ⟨j, z, hj, rfl, rfl, hz, hz2, hT, rfl⟩ := hrel
      by_cases hlt : j < bs.length
      · have hjl : j < bs.length := by omega
        have hj1 : j < 10 := by omega
        have hcx := hc'.out j bs[j] (by simp [hjl])
        rw [haa'.out (fun h => by rw [h] at hjl; simp at hjl)]
        have hx := bs[j].toNat_lt
        rw [List.drop_eq_getElem_cons hjl, tkG, if_pos hj1] at hT
        obtain ⟨hg1, hg2, hg3⟩ := grp_step j z bs[j].toNat hj1 hz hz2
        generalize bs[j].toNat = x at *
        obtain ⟨Z, hZ⟩ : ∃ Z, Hid (z + x % 128 * 2 ^ (7 * j) % 18446744073709551616 = Z) := ⟨_, rfl⟩
        rw [hZ.out] at hT hg1 hg2 hg3
        have hg1' := hid hg1
        clear hg1
        by_cases hx1 : x < 128
        · rw [if_pos hx1] at hT
          have hfin : Hid (F = (Z, j + 1)) := hT.out.symm
          have d1 : (x : Int) < 128 := by omega
          clear hT
          go_wp2_with fail
          go_ret2
          exact ⟨by rw [hfin.out]; simp [hg1'.out], rfl⟩
        · rw [if_neg hx1] at hT
          have d1 : ¬ (x : Int) < 128 := by omega
          go_wp2_with fail
          exact ⟨⟨j + 1, Z, by omega, by go_num, by rw [hg1'.out], hg2, hg3, hT, trivial⟩, by simp [intOf]; omega⟩
      · obtain rfl : j = bs.length := by omega
        have hfin : Hid (F = (0, 0)) := by
          show _ = _
          rw [← hT.out]
          rw [List.drop_length, tkG]
        go_wp2_with fail
        go_ret2
        exact ⟨by rw [hfin.out]; rfl, rfl⟩
  · have d10 : ¬ (bs.length : Int) ≤ 10 := by omega
    go_enter Tryz.func39, Tryz.ntmps39
    go_wp2_with fail
    go_loopw [4, 9] (fun n i wn => ∃ j z : Nat, j ≤ 10 ∧ i = .int .i64 j ∧ n = .int .u64 (z : Int) ∧ z < 2 ^ (7 * j) ∧ z < 18446744073709551616 ∧ Hid (tkG j z (bs.drop j) = F) ∧ wn = w) (fun _ i _ => 10 - (intOf i).toNat)
    case atStart => exact ⟨0, 0, Nat.zero_le _, rfl, rfl, by decide, by decide, hF, rfl⟩
    case round =>
      obtain ⟨j, z, hj, rfl, rfl, hz, hz2, hT, rfl⟩ := hrel
      by_cases hlt : j < 10
      · have hjl : j < bs.length := by omega
        have hj1 : j < 10 := by omega
        have hcx := hc'.out j bs[j] (by simp [hjl])
        rw [haa'.out (fun h => by rw [h] at hjl; simp at hjl)]
        have hx := bs[j].toNat_lt
        rw [List.drop_eq_getElem_cons hjl, tkG, if_pos hj1] at hT
        obtain ⟨hg1, hg2, hg3⟩ := grp_step j z bs[j].toNat hj1 hz hz2
        generalize bs[j].toNat = x at *
        obtain ⟨Z, hZ⟩ : ∃ Z, Hid (z + x % 128 * 2 ^ (7 * j) % 18446744073709551616 = Z) := ⟨_, rfl⟩
        rw [hZ.out] at hT hg1 hg2 hg3
        have hg1' := hid hg1
        clear hg1
        by_cases hx1 : x < 128
        · rw [if_pos hx1] at hT
          have hfin : Hid (F = (Z, j + 1)) := hT.out.symm
          have d1 : (x : Int) < 128 := by omega
          clear hT
          go_wp2_with fail
          go_ret2
          exact ⟨by rw [hfin.out]; simp [hg1'.out], rfl⟩
        · rw [if_neg hx1] at hT
          have d1 : ¬ (x : Int) < 128 := by omega
          go_wp2_with fail
          exact ⟨⟨j + 1, Z, by omega, by go_num, by rw [hg1'.out], hg2, hg3, hT, trivial⟩, by simp [intOf]; omega⟩
      · obtain rfl : j = 10 := by omega
        have hfin : Hid (F = (0, 0)) := by
          show _ = _
          rw [← hT.out]
          cases hd : bs.drop 10 with
          | nil => rw [tkG]
          | cons x r => rw [tkG, if_neg (by omega)]
        go_wp2_with fail
        go_ret2
        exact ⟨by rw [hfin.out]; rfl, rfl⟩
end Go.Proofs.YtpekgpgfdiffcaaGreat
end

section
namespace Go.Proofs.YtpekgpgfdiffcaaGreat
open Go.RowKit Go.Hay
set_option linter.unusedVariables false
set_option linter.unusedSimpArgs false

/-- What takePlain hands back. -/
def TkP (w : World) (r : Option (List Val × List UInt8)) (e : Ending) (w' : World) : Prop :=
  match r with
  | none => e = .returned (.tuple #[.slice none 0 0, .slice none 0 0, .bool false]) ∧ Kp [] w w'
  | some q => ∃ a c b d, e = .returned (.tuple #[.slice a q.1.length c, .slice b q.2.length d, .bool true]) ∧ VE.Row w' (.slice a q.1.length c) q.1 ∧ Sees w b q.2 ∧ q.2.length ≤ d ∧ d ≤ maxLen ∧ Kp [] w w' ∧ ∀ k ∈ blk a, w.heap.size ≤ k
/-- A value laid at a place of a row of values. -/
theorem rowSetV {w : World} {B n c : Nat} {l : List Val} (h : VE.Row w (.slice (some ⟨B, 0, none⟩) n c) l) (i : Nat) (hi : i < l.length) (x : Val) : VE.Row ((((w.setCell ⟨B, i * 4, none⟩ (.int .i64 x.k)).setCell ⟨B, i * 4 + 1, none⟩ (.bool x.b)).setCell ⟨B, i * 4 + 2, none⟩ (.int .i64 x.n)).setCell ⟨B, i * 4 + 3, none⟩ (.string x.t)) (.slice (some ⟨B, 0, none⟩) n c) (l.set i x) := by
  have := h.setAt i hi x
  have e : VE.n = 4 := rfl
  rw [e, Nat.zero_add] at this
  exact this
theorem rowCellsV {w : World} {B n c : Nat} {l : List Val} (h : VE.Row w (.slice (some ⟨B, 0, none⟩) n c) l) (i : Nat) (hi : i < l.length) : ∀ j, j < 4 → (∃ u, w.cell? ⟨B, i * 4 + j, none⟩ = some u) ∧ w.frozen? ⟨B, i * 4 + j, none⟩ = false := by
  intro j hj
  rcases h with ⟨e, _⟩ | ⟨g, o, cc, e, hl, hx, hg, hc, ht⟩
  · cases e
  · cases e
    have e : VE.n = 4 := rfl
    have := ht (i * 4 + j) (by rw [e]; omega)
    rw [Nat.zero_add] at this
    exact ⟨Option.isSome_iff_exists.1 this.1, this.2⟩
theorem kpSet4 {w0 w : World} {B i : Nat} (k : Kp [] w0 w) (hB : w0.heap.size ≤ B) (a b c d : Value) : Kp [] w0 ((((w.setCell ⟨B, i * 4, none⟩ a).setCell ⟨B, i * 4 + 1, none⟩ b).setCell ⟨B, i * 4 + 2, none⟩ c).setCell ⟨B, i * 4 + 3, none⟩ d) :=
  (((k.setCell (p := ⟨B, i * 4, none⟩) (.inr hB) _).setCell (p := ⟨B, i * 4 + 1, none⟩) (.inr hB) _).setCell (p := ⟨B, i * 4 + 2, none⟩) (.inr hB) _).setCell (p := ⟨B, i * 4 + 3, none⟩) (.inr hB) _
theorem nv_nil : nilV = nv := rfl
structure TpI (w W : World) (many j : Nat) (ba : Option Addr) (bc : Nat) (rest : List UInt8) (acc : List Val) (F : Option (List Val × List UInt8)) : Prop where
  see : Sees w ba rest
  len : rest.length ≤ bc
  cap : bc ≤ 9223372036854775807
  few : rest.length ≤ 900000000000000
  row : VE.Row W (.slice (some ⟨w.heap.size, 0, none⟩) many many) (acc ++ List.replicate (many - j) nv)
  kp : Kp [] w W
  al : Hid (acc.length = j)
  fin : Hid (tkP (many - j) acc rest = F)
set_option maxHeartbeats 8000000 in
set_option maxRecDepth 100000 in
theorem cTakePlain (a : Option Addr) (c : Nat) (bs : List UInt8) (many : Nat) (w : World) (hs : Sees w a bs) (hl : bs.length ≤ c) (hm : c ≤ maxLen) (hb : bs.length ≤ 900000000000000) (hmn : many ≤ 255) :
    Calls Tryz.prog 23 #[.slice a bs.length c, .int .i64 many] w (TkP w (tkP many [] bs)) := by
  obtain ⟨i0, hi, hz0, hz1, hz2⟩ := infoV'
  obtain ⟨W1, hmk, hrow1, k1, hs1⟩ := run_makeG (E := VE) (P := Tryz.prog) w 23 38 i0 _ nv 40 Tryz.underlying23 hi hz0 hz1 hz2 rfl .i64 .i64 many (by omega) (by unfold maxLen; omega)
  obtain ⟨F, hF⟩ : ∃ F, Hid (tkP many [] bs = F) := ⟨_, rfl⟩
  rw [hF.out]
  unfold maxLen at hm
  have I0 : Hid (TpI w W1 many 0 a c bs [] F) := ⟨hs, hl, hm, hb, by simpa using hrow1, k1, rfl, by simpa using hF⟩
  clear hs hrow1 k1 hF
  go_enter Tryz.func23, Tryz.ntmps23
  go_wp2_with fail
  go_loopw [0, 15] (fun v0 i wn => ∃ (j : Nat) (ba : Option Addr) (bc : Nat) (rest : List UInt8) (acc : List Val), j ≤ many ∧ i = .int .i64 j ∧ v0 = .slice ba rest.length bc ∧ TpI w wn many j ba bc rest acc F) (fun _ i _ => many - (intOf i).toNat)
  case atStart => exact ⟨0, a, c, bs, [], Nat.zero_le _, rfl, rfl, I0.out⟩
  case round =>
    clear I0 hmk
    obtain ⟨j, ba, bc, rest, acc, hj, rfl, rfl, I⟩ := hrel
    by_cases hlt : j < many
    · have hkw := I.kp
      have hcap := I.cap
      have hlen := I.len
      have hfew := I.few
      have ht := cTakeV ba bc rest wr (I.see.kept I.kp (by simp)) I.len (by unfold maxLen; omega) I.few
      have htle := tkV_le rest
      have hfin := I.fin
      rw [show many - j = (many - (j + 1)) + 1 by omega, tkP] at hfin
      obtain ⟨⟨v, sz⟩, htk⟩ : ∃ t, Hid (tkV rest = t) := ⟨_, rfl⟩
      rw [htk.out] at ht htle hfin
      unfold Tk at ht
      dsimp only at ht htle hfin
      have hxv : Hid (v.v = .agg #[.int .i64 v.k, .bool v.b, .int .i64 v.n, .string v.t]) := rfl
      rw [hxv.out] at ht
      have hI := hid I
      clear I hxv
      go_wp2_with fail
      refine ht.mono ?_
      rintro e w1 ⟨rfl, k1⟩
      obtain ⟨wb, hwb⟩ : ∃ wb, w1.alloc (.cells #[.int .i64 v.k, .bool v.b, .int .i64 v.n, .string v.t] 38) = wb := ⟨_, rfl⟩
      have kb : Kp [] w1 wb := by rw [← hwb]; exact (Kp.refl _ _).alloc _
      have bx : Box4 wb w1.heap.size (.int .i64 v.k) (.bool v.b) (.int .i64 v.n) (.string v.t) := by rw [← hwb]; exact Box4.new _ _ _ _ _ _
      have kwb : Kp [] w wb := (hkw.trans k1 (by simp)).trans kb (by simp)
      by_cases hsz : sz = 0
      · subst hsz
        rw [if_pos rfl] at hfin
        have hF' : Hid (F = none) := hfin.out.symm
        have hP : TkP w F (.returned (.tuple #[.slice none 0 0, .slice none 0 0, .bool false])) wb := by rw [hF'.out]; exact ⟨rfl, kwb⟩
        clear hfin hI ht hF'
        go_wp2_with fail
        go_ret3
        exact hP
      · rw [if_neg hsz] at hfin
        have hsz' : ((sz : Int) == 0) = false := by rw [beq_eq_false_iff_ne]; omega
        have hrow := hI.out.row.keptNew (k1.trans kb (by simp))
        have hal : (acc ++ List.replicate (many - j) nv).length = many := by rw [List.length_append, hI.out.al.out, List.length_replicate]; omega
        have hcl := rowCellsV hrow j (by rw [hal]; exact hlt)
        obtain ⟨⟨u0, c0⟩, f0⟩ := hcl 0 (by omega)
        obtain ⟨⟨u1, c1⟩, f1⟩ := hcl 1 (by omega)
        obtain ⟨⟨u2, c2⟩, f2⟩ := hcl 2 (by omega)
        obtain ⟨⟨u3, c3⟩, f3⟩ := hcl 3 (by omega)
        rw [Nat.add_zero] at c0 f0
        have hset := rowSetV hrow j (by rw [hal]; exact hlt) v
        have e1 : (acc ++ List.replicate (many - j) nv).set j v = acc ++ [v] ++ List.replicate (many - (j + 1)) nv := by
          have := set_app acc nv v (many - (j + 1))
          rw [hI.out.al.out, show many - (j + 1) + 1 = many - j by omega] at this
          exact this
        rw [e1] at hset
        have kset := kpSet4 (i := j) kwb (Nat.le_refl _) (.int .i64 v.k) (.bool v.b) (.int .i64 v.n) (.string v.t)
        have p0 := bx.c0; have p1 := bx.c1; have p2 := bx.c2; have p3 := bx.c3
        obtain ⟨W3, hW3⟩ : ∃ W3, (((wb.setCell ⟨w.heap.size, j * 4, none⟩ (.int .i64 v.k)).setCell ⟨w.heap.size, j * 4 + 1, none⟩ (.bool v.b)).setCell ⟨w.heap.size, j * 4 + 2, none⟩ (.int .i64 v.n)).setCell ⟨w.heap.size, j * 4 + 3, none⟩ (.string v.t) = W3 := ⟨_, rfl⟩
        rw [hW3] at hset kset
        have hdl : (rest.drop sz).length = rest.length - sz := by simp
        have hnxt : Hid (∀ ba', Sees w ba' (rest.drop sz) → ∃ (j' : Nat) (ba2 : Option Addr) (bc2 : Nat) (rest2 : List UInt8) (acc2 : List Val), j' ≤ many ∧ (.int .i64 ((j : Int) + 1) : Value) = .int .i64 j' ∧ (.slice ba' (rest.length - sz) (bc - sz) : Value) = .slice ba2 rest2.length bc2 ∧ TpI w W3 many j' ba2 bc2 rest2 acc2 F) := fun ba' hsb =>
          ⟨j + 1, ba', bc - sz, rest.drop sz, acc ++ [v], by omega, by go_num, by rw [hdl], hsb, by rw [hdl]; omega, by omega, by rw [hdl]; omega, hset, kset, by show _ = _; simp [hI.out.al.out], hfin⟩
        have htl : Hid (∀ g o, ba = some ⟨g, o, none⟩ → Sees w (some ⟨g, o + sz, none⟩) (rest.drop sz)) := fun g o e => by subst e; have := Sees.tail hI.out.see sz; simpa [Addr.add_lit] using this
        obtain ⟨g, o, rfl⟩ : ∃ g o, ba = some ⟨g, o, none⟩ := by
          rcases hI.out.see with h | ⟨g, o, h, _⟩
          · rw [h] at htle; simp at htle; omega
          · exact ⟨g, o, h⟩
        have htd := hid (htl.out g o rfl)
        have hW3' := hid hW3
        clear hrow hset hfin hI htl hal hW3 ht kset e1 hcl
        by_cases hce : sz = bc
        · have hemp : rest.drop sz = [] := List.drop_eq_nil_of_le (by omega)
          have hN := hid (hnxt.out (some ⟨g, o, none⟩) (by rw [hemp]; exact .inl rfl))
          rw [show rest.length - sz = 0 by omega, show bc - sz = 0 by omega] at hN
          clear hnxt hemp htd
          go_wp2_with fail
          rw [hW3'.out]
          exact ⟨hN.out, by simp [intOf]; omega⟩
        · have hN := hid (hnxt.out (some ⟨g, o + sz, none⟩) htd.out)
          clear hnxt htd
          go_wp2_with fail
          rw [hW3'.out]
          exact ⟨hN.out, by simp [intOf]; omega⟩
    · obtain rfl : j = many := by omega
      have hfin : Hid (F = some (acc, rest)) := by
        have := I.fin.out
        rw [Nat.sub_self, tkP] at this
        exact this.symm
      have hrow := I.row
      rw [Nat.sub_self, List.replicate_zero, List.append_nil] at hrow
      have hP : TkP w F (.returned (.tuple #[.slice (some ⟨w.heap.size, 0, none⟩) j j, .slice ba rest.length bc, .bool true])) wr := by
        rw [hfin.out]
        refine ⟨some ⟨w.heap.size, 0, none⟩, j, ba, bc, by rw [I.al.out], by rw [I.al.out]; exact hrow, I.see, I.len, by unfold maxLen; exact I.cap, I.kp, fun k hk => by simp [blk] at hk; omega⟩
      clear I hrow hfin
      go_wp2_with fail
      go_ret3
      exact hP
end Go.Proofs.YtpekgpgfdiffcaaGreat
end

section
namespace Go.Proofs.YtpekgpgfdiffcaaGreat
open Go.RowKit Go.Hay
set_option linter.unusedVariables false
set_option linter.unusedSimpArgs false

/-- What unpack hands back. -/
def UpP (w : World) (r : Option (List Nat)) (e : Ending) (w' : World) : Prop :=
  match r with
  | none => e = .returned (.tuple #[.slice none 0 0, .bool false]) ∧ Kp [] w w'
  | some l => ∃ a c, e = .returned (.tuple #[.slice a l.length c, .bool true]) ∧ U64E.Row w' (.slice a l.length c) l ∧ Kp [] w w' ∧ ∀ k ∈ blk a, w.heap.size ≤ k
theorem or_up (A x k r : Nat) (hk : k < 64) (hA : A < 2 ^ k) (hx : x < 256) : bits .or .u64 (A : Int) (IntKind.u64.wrap (IntKind.u64.wrap (bits .and .u8 ((x : Int) / 2 ^ r) 1) * 2 ^ k)) = ((A + x / 2 ^ r % 2 * 2 ^ k : Nat) : Int) := by
  have e1 : (x : Int) / 2 ^ r = ((x / 2 ^ r : Nat) : Int) := by simp
  have hy : x / 2 ^ r < 256 := Nat.lt_of_le_of_lt (Nat.div_le_self _ _) hx
  rw [e1]
  generalize x / 2 ^ r = y at hy
  have e2 : bits .and .u8 (y : Int) 1 = ((y % 2 : Nat) : Int) := by
    have := u8_and_nat y 1 hy (by omega)
    rw [Nat.and_one_is_mod] at this
    exact this
  have e2' : IntKind.u64.wrap ((y % 2 : Nat) : Int) = ((y % 2 : Nat) : Int) := by rw [IntKind.wrap_u64]; omega
  rw [e2, e2']
  have hb : y % 2 < 2 := Nat.mod_lt _ (by omega)
  generalize y % 2 = b at hb
  have h2 : 2 ^ k ≤ 2 ^ 63 := Nat.pow_le_pow_right (n := 2) (by omega) (by omega)
  have hm : b * 2 ^ k ≤ 1 * 2 ^ k := Nat.mul_le_mul_right _ (by omega)
  have e3 : IntKind.u64.wrap ((b : Int) * 2 ^ k) = ((b * 2 ^ k : Nat) : Int) := by
    have h4 : (b : Int) * 2 ^ k = ((b * 2 ^ k : Nat) : Int) := by simp
    rw [h4, IntKind.wrap_u64]
    omega
  rw [e3, u64_or_nat A (b * 2 ^ k) (by omega) (by omega), or_sum A b k hA]
/-- So many numbers read, and one half way. -/
def upSt (bs : List UInt8) (wd many j x : Nat) : List Nat := (List.range j).map (fun i => numTo bs wd i wd) ++ x :: List.replicate (many - j - 1) 0
theorem upSt_len (bs : List UInt8) (wd many j x : Nat) (h : j < many) : (upSt bs wd many j x).length = many := by unfold upSt; simp; omega
theorem upSt_set (bs : List UInt8) (wd many j x y : Nat) : (upSt bs wd many j x).set j y = upSt bs wd many j y := by
  unfold upSt
  rw [List.set_append_right _ _ (by simp)]
  simp
theorem upSt_at (bs : List UInt8) (wd many j x : Nat) : (upSt bs wd many j x)[j]? = some x := by
  unfold upSt
  rw [List.getElem?_append_right (by simp)]
  simp
def upTo (bs : List UInt8) (wd many j : Nat) : List Nat := (List.range j).map (fun i => numTo bs wd i wd) ++ List.replicate (many - j) 0
theorem upTo_st (bs : List UInt8) (wd many j : Nat) (h : j < many) : upTo bs wd many j = upSt bs wd many j (numTo bs wd j 0) := by
  unfold upTo upSt
  rw [show many - j = (many - j - 1) + 1 by omega, List.replicate_succ]; rfl
theorem upSt_to (bs : List UInt8) (wd many j : Nat) (h : j < many) : upSt bs wd many j (numTo bs wd j wd) = upTo bs wd many (j + 1) := by
  unfold upTo upSt
  rw [List.range_succ, List.map_append, show many - j - 1 = many - (j + 1) by omega]; simp
theorem upTo_all (bs : List UInt8) (wd many : Nat) : upTo bs wd many many = upk bs many wd := by unfold upTo upk; simp
set_option maxHeartbeats 4000000 in
set_option maxRecDepth 100000 in
theorem cUnpack (a : Option Addr) (c : Nat) (bs : List UInt8) (many wd : Nat) (w : World) (hs : Sees w a bs) (hb : bs.length ≤ 900000000000000) (hmn : many ≤ 64) (hwd : wd ≤ 64) :
    Calls Tryz.prog 41 #[.slice a bs.length c, .int .i64 many, .int .i64 wd] w (UpP w (upkO bs many wd)) := by
  obtain ⟨i0, hi, hz0, hz1, hz2⟩ := infoU64
  obtain ⟨N, hN⟩ : ∃ N, Hid (many * wd = N) := ⟨_, rfl⟩
  have hNb : N ≤ 4096 := by rw [← hN.out]; exact Nat.mul_le_mul hmn hwd
  have hsz := cPackedSize many wd N hN.out (by omega) w
  obtain ⟨sz, hsz'⟩ : ∃ sz, Hid ((N + 7) / 8 = sz) := ⟨_, rfl⟩
  rw [hsz'.out] at hsz
  have hF : Hid (upkO bs many wd = if bs.length = sz then some (upk bs many wd) else none) := by show _ = _; unfold upkO; rw [hN.out, hsz'.out]
  obtain ⟨F, hFF⟩ : ∃ F, Hid (upkO bs many wd = F) := ⟨_, rfl⟩
  rw [hFF.out] at hF ⊢
  by_cases hE : bs.length = sz
  · have hF2 : Hid (F = some (upk bs many wd)) := by show _ = _; rw [hF.out, if_pos hE]
    have hE' := hid hE
    have hbs : bs.length ≤ 513 := by rw [hE, ← hsz'.out]; omega
    have hszb : sz = bs.length := hE.symm
    have hat : Hid (∀ W, Kp [] w W → ∀ i (hi : i < bs.length), ∃ g o, a = some ⟨g, o, none⟩ ∧ W.cell? ⟨g, o + i, none⟩ = some (.int .u8 bs[i].toNat)) := fun W kW i hi => by
      rcases hs.kept kW (by simp) with h | ⟨g, o, h, hc⟩
      · rw [h] at hi; simp at hi
      · exact ⟨g, o, h, hc i bs[i] (by simp [hi])⟩
    obtain ⟨W1, hmk, hrow1, k1, hs1⟩ := run_makeG (E := U64E) (P := Tryz.prog) w 62 47 i0 (.int .u64 0) 0 8 Tryz.underlying62 hi hz0 hz1 hz2 rfl .i64 .i64 many (by omega) (by unfold maxLen; omega)
    have R0 : Hid (U64E.Row W1 (.slice (some ⟨w.heap.size, 0, none⟩) many many) (upTo bs wd many 0)) := by show U64E.Row _ _ _; simpa [upTo] using hrow1
    have e0 : ((bs.length : Int) != (bs.length : Int)) = false := by simp
    rw [hszb] at hsz
    clear hs hrow1 hF hE hszb hFF
    go_enter Tryz.func41, Tryz.ntmps41
    go_wp2_with fail
    refine hsz.mono ?_
    rintro e w9 ⟨rfl, hw9⟩
    rw [hw9]
    clear hw9 w9 hsz
    go_wp2_with fail
    go_loopw [22] (fun i wn => ∃ j : Nat, j ≤ many ∧ i = .int .i64 j ∧ U64E.Row wn (.slice (some ⟨w.heap.size, 0, none⟩) many many) (upTo bs wd many j) ∧ Kp [] w wn) (fun i _ => many - (intOf i).toNat)
    case atStart => exact ⟨0, Nat.zero_le _, rfl, R0.out, k1⟩
    case round =>
      clear hmk R0 k1 hs1
      obtain ⟨j, hj, rfl, hrow, kn⟩ := hrel
      by_cases hlt : j < many
      · rw [upTo_st bs wd many j hlt] at hrow
        obtain ⟨M, hM⟩ : ∃ M, Hid (j * wd = M) := ⟨_, rfl⟩
        have hMe : (j : Int) * (wd : Int) = (M : Int) := by rw [← hM.out]; simp
        have hMN : M + wd ≤ N := by
          have : (j + 1) * wd ≤ many * wd := Nat.mul_le_mul_right _ hlt
          rw [hN.out, Nat.succ_mul, hM.out] at this
          exact this
        go_wp2_with fail
        go_loopw [26] (fun i wn => ∃ k : Nat, k ≤ wd ∧ i = .int .i64 k ∧ U64E.Row wn (.slice (some ⟨w.heap.size, 0, none⟩) many many) (upSt bs wd many j (numTo bs wd j k)) ∧ Kp [] w wn) (fun i _ => wd - (intOf i).toNat)
        case atStart => exact ⟨0, Nat.zero_le _, rfl, hrow, kn⟩
        case round =>
          clear hrow kn
          obtain ⟨k, hk, rfl, hrow, kn⟩ := hrel
          by_cases hkl : k < wd
          · obtain ⟨q, hq⟩ : ∃ q, (M + k) / 8 = q := ⟨_, rfl⟩
            obtain ⟨r, hr⟩ : ∃ r, (M + k) % 8 = r := ⟨_, rfl⟩
            have eq1 : ((M : Int) + (k : Int)) / 8 = (q : Int) := by omega
            have eq2 : ((M : Int) + (k : Int)) % 8 = (r : Int) := by omega
            have hqs : q < bs.length := by rw [hE'.out, ← hsz'.out]; omega
            have hr8 : r < 8 := by omega
            obtain ⟨g, o, rfl, hcx⟩ := hat.out wr kn q hqs
            have hbit : Hid (bitAt bs (j * wd + k) = bs[q].toNat / 2 ^ r % 2) := by
              show _ = _
              unfold bitAt
              rw [hM.out, hq, hr]
              simp [hqs]
            have hx := bs[q].toNat_lt
            generalize bs[q].toNat = x at *
            have hlt2 := numTo_lt bs wd j k
            have hns : Hid (numTo bs wd j (k + 1) = numTo bs wd j k + x / 2 ^ r % 2 * 2 ^ k) := by show _ = _; rw [numTo, hbit.out]
            have hold := upSt_at bs wd many j (numTo bs wd j k)
            have hput := hrow.setAt j (by rw [upSt_len _ _ _ _ _ hlt]; exact hlt) (numTo bs wd j (k + 1))
            rw [upSt_set] at hput
            obtain ⟨A, hA⟩ : ∃ A, Hid (numTo bs wd j k = A) := ⟨_, rfl⟩
            rw [hA.out] at hold hlt2 hns hrow
            have hval := or_up A x k r (by omega) hlt2 hx
            rw [← hns.out] at hval
            have hcell : wr.cell? ⟨w.heap.size, j, none⟩ = some (.int .u64 (A : Int)) ∧ wr.frozen? ⟨w.heap.size, j, none⟩ = false := by
              rcases hrow with ⟨e, _⟩ | ⟨g9, o9, c9, e, q1, q2, q3, q4, q5⟩
              · cases e
              · injection e with e1 e2 e3
                injection e1 with e1
                injection e1 with e4 e5
                subst e3 e4 e5
                have h5 := q5 j (by have : U64E.n = 1 := rfl; rw [this]; omega)
                have h4 := q4 j (.int .u64 (A : Int)) (by
                  have := El.cs_get U64E hold (k := 0) (by decide)
                  have e1 : U64E.n = 1 := rfl
                  rw [e1, Nat.mul_one, Nat.add_zero] at this
                  rw [this]
                  simp [U64E])
                rw [Nat.zero_add] at h4 h5
                exact ⟨h4, h5.2⟩
            obtain ⟨hc, hfz⟩ := hcell
            have eW : Hid (wr.setCells w.heap.size (0 + j * U64E.n) (U64E.c (numTo bs wd j (k + 1))) = wr.setCell ⟨w.heap.size, j, none⟩ (.int .u64 (bits .or .u64 (A : Int) (IntKind.u64.wrap (IntKind.u64.wrap (bits .and .u8 ((x : Int) / 2 ^ r) 1) * 2 ^ k))))) := by
              show _ = _
              rw [hval]
              have : U64E.n = 1 := rfl
              rw [this]
              simp [U64E, World.setCells]
            rw [eW.out] at hput
            have kf : Kp [] w (wr.setCell ⟨w.heap.size, j, none⟩ (.int .u64 (bits .or .u64 (A : Int) (IntKind.u64.wrap (IntKind.u64.wrap (bits .and .u8 ((x : Int) / 2 ^ r) 1) * 2 ^ k))))).drew := (kn.setCell (p := ⟨w.heap.size, j, none⟩) (.inr (by simp)) _).drew
            have hput2 : U64E.Row (wr.setCell ⟨w.heap.size, j, none⟩ (.int .u64 (bits .or .u64 (A : Int) (IntKind.u64.wrap (IntKind.u64.wrap (bits .and .u8 ((x : Int) / 2 ^ r) 1) * 2 ^ k))))).drew (.slice (some ⟨w.heap.size, 0, none⟩) many many) (upSt bs wd many j (numTo bs wd j (k + 1))) := hput.keptNew (Kp.refl _ _).drew
            have hput3 := hid hput2
            have kf3 := hid kf
            clear hold hput eW hval hrow hput2 kf hns hA
            go_wp2_with fail
            go_region
            go_wp2_with fail
            exact ⟨⟨k + 1, by omega, by go_num, hput3.out, kf3.out⟩, by simp [intOf]; omega⟩
          · obtain rfl : k = wd := by omega
            rw [upSt_to bs k many j hlt] at hrow
            go_wp2_with fail
            exact ⟨⟨j + 1, by omega, by go_num, hrow, kn⟩, by simp [intOf]; omega⟩
      · obtain rfl : j = many := by omega
        rw [upTo_all] at hrow
        have hlen := upk_length bs j wd
        have hfin : UpP w F (.returned (.tuple #[.slice (some ⟨w.heap.size, 0, none⟩) j j, .bool true])) wr := by
          rw [hF2.out]
          exact ⟨some ⟨w.heap.size, 0, none⟩, j, by rw [hlen], by rw [hlen]; exact hrow, kn, fun k hk => by simp [blk] at hk; omega⟩
        clear hrow hlen
        go_wp2_with fail
        go_ret2
        exact hfin
  · have hF2 : Hid (F = none) := by show _ = _; rw [hF.out, if_neg hE]
    have hfin : UpP w F (.returned (.tuple #[.slice none 0 0, .bool false])) w := by rw [hF2.out]; exact ⟨rfl, Kp.refl _ _⟩
    have e0 : ((bs.length : Int) != (sz : Int)) = true := by simp only [bne_iff_ne]; omega
    have e1 : ((bs.length : Int) == (sz : Int)) = false := by rw [beq_eq_false_iff_ne]; omega
    clear hs hF hE hFF
    go_enter Tryz.func41, Tryz.ntmps41
    go_wp2_with fail
    refine hsz.mono ?_
    rintro e w9 ⟨rfl, hw9⟩
    rw [hw9]
    clear hw9 w9 hsz
    go_wp2_with fail
    go_ret2
    exact hfin
end Go.Proofs.YtpekgpgfdiffcaaGreat
end

section
namespace Go.Proofs.YtpekgpgfdiffcaaGreat
open Go.RowKit Go.Hay
set_option linter.unusedVariables false
set_option linter.unusedSimpArgs false

theorem tkG_lt : ∀ (bs : List UInt8) (i z : Nat), z < 2 ^ (7 * i) → z < 18446744073709551616 → (tkG i z bs).1 < 18446744073709551616
  | [], i, z, _, _ => by simp [tkG]
  | x :: r, i, z, h1, h2 => by
    rw [tkG]
    split
    · rename_i hi
      obtain ⟨_, g1, g2⟩ := grp_step i z x.toNat hi h1 h2
      split
      · exact g2
      · exact tkG_lt r (i + 1) _ g1 g2
    · simp
theorem rowOneV (w : World) {q : Nat} (hq : w.heap.size = q) (x : Val) (t : TypeId) : VE.Row (w.alloc (.cells #[.int .i64 x.k, .bool x.b, .int .i64 x.n, .string x.t] t)) (.slice (some ⟨q, 0, none⟩) 1 1) [x] := by
  subst hq
  refine .inr ⟨w.heap.size, 0, 1, rfl, Nat.le_refl _, by decide, by simp, fun j u hu => ?_, fun j hj => ?_⟩
  · have e : (w.alloc (.cells #[.int .i64 x.k, .bool x.b, .int .i64 x.n, .string x.t] t)).cell? ⟨w.heap.size, 0 + j, none⟩ = _ := World.cell?_alloc_new w _ _ (0 + j)
    rw [e, Nat.zero_add]
    simpa [El.cs, VE] using hu
  · have e : (w.alloc (.cells #[.int .i64 x.k, .bool x.b, .int .i64 x.n, .string x.t] t)).cell? ⟨w.heap.size, 0 + j, none⟩ = _ := World.cell?_alloc_new w _ _ (0 + j)
    have hj4 : j < 4 := by have e4 : VE.n = 4 := rfl; rw [e4] at hj; omega
    refine ⟨?_, World.frozen?_alloc_new w _ _ (0 + j)⟩
    rw [e, Nat.zero_add]
    match j, hj4 with
    | 0, _ | 1, _ | 2, _ | 3, _ => rfl
structure TdI (w W : World) (many j : Nat) (n : Int) (ba : Option Addr) (bc : Nat) (rest : List UInt8) (la : Option Addr) (lc : Nat) (acc : List Val) (F : Option (List Val)) : Prop where
  see : Sees w ba rest
  len : rest.length ≤ bc
  cap : bc ≤ 9223372036854775807
  few : rest.length ≤ 900000000000000
  row : VE.Row W (.slice la acc.length lc) acc
  new : ∀ k ∈ blk la, w.heap.size ≤ k
  kp : Kp [] w W
  al : Hid (acc.length = j + 1)
  lo : -9223372036854775808 ≤ n ∧ n < 9223372036854775808
  fin : Hid (tkD (many - 1 - j) n acc rest = F)
theorem wordV_bd (bs : List UInt8) : -9223372036854775808 ≤ wordV bs ∧ wordV bs < 9223372036854775808 := by unfold wordV wrap64; omega
set_option maxHeartbeats 8000000 in
set_option maxRecDepth 100000 in
theorem cTakeDelta (a : Option Addr) (c : Nat) (bs : List UInt8) (many : Nat) (w : World) (hs : Sees w a bs) (hl : bs.length ≤ c) (hm : c ≤ maxLen) (hb : bs.length ≤ 900000000000000) (hmn : many ≤ 64) (h0 : 0 < many) :
    Calls Tryz.prog 20 #[.slice a bs.length c, .int .i64 many] w (TkL w (okV (tkDl many bs))) := by
  obtain ⟨i0, hi, hz0, hz1, hz2⟩ := infoV'
  unfold maxLen at hm
  by_cases h8 : bs.length < 8
  · have hF : Hid (tkDl many bs = none) := by show _ = _; unfold tkDl; rw [if_pos h8]
    rw [hF.out]
    have hfin := tkL_none w w (Kp.refl _ _)
    have d1 : (bs.length : Int) < 8 := by omega
    clear hs
    go_enter Tryz.func20, Tryz.ntmps20
    go_wp2_with fail
    go_ret2
    exact hfin
  · have hF : Hid (tkDl many bs = tkD (many - 1) (wordV bs) [intV (wordV bs)] (bs.drop 8)) := by show _ = _; unfold tkDl; rw [if_neg h8]
    rw [hF.out]
    have cW := cWord a c bs w hs (by omega) hb
    have hbd := wordV_bd bs
    obtain ⟨n, hn⟩ : ∃ n, Hid (wordV bs = n) := ⟨_, rfl⟩
    rw [hn.out] at cW hbd ⊢
    obtain ⟨F, hFF⟩ : ∃ F, Hid (tkD (many - 1) n [intV n] (bs.drop 8) = F) := ⟨_, rfl⟩
    rw [hFF.out]
    obtain ⟨g, o, rfl, _⟩ : ∃ g o, a = some ⟨g, o, none⟩ ∧ ∀ j u, bs[j]? = some u → w.cell? ⟨g, o + j, none⟩ = some (.int .u8 u.toNat) := by
      rcases hs with h | h
      · rw [h] at h8; simp at h8
      · exact h
    have htl : Hid (Sees w (some ⟨g, o + 8, none⟩) (bs.drop 8)) := by show Sees _ _ _; have := Sees.tail hs 8; simpa [Addr.add_lit] using this
    have cI := cInt n w
    have d1 : ¬ (bs.length : Int) < 8 := by omega
    have hdl : (bs.drop 8).length = bs.length - 8 := by simp
    have hst : Hid (∀ ba W, Sees w ba (bs.drop 8) → Kp [] w W → ∃ (j : Nat) (n' : Int) (ba' : Option Addr) (bc : Nat) (rest : List UInt8) (la : Option Addr) (lc : Nat) (acc : List Val), j ≤ many - 1 ∧ (.int .i64 0 : Value) = .int .i64 j ∧ (.slice ba (bs.length - 8) (c - 8) : Value) = .slice ba' rest.length bc ∧ (.int .i64 n : Value) = .int .i64 n' ∧ (.slice (some ⟨W.heap.size, 0, none⟩) 1 1 : Value) = .slice la acc.length lc ∧ TdI w (W.alloc (.cells #[.int .i64 2, .bool false, .int .i64 n, .string ⟨#[]⟩] 38)) many j n' ba' bc rest la lc acc F) := fun ba W hsb kW =>
      ⟨0, n, ba, c - 8, bs.drop 8, some ⟨W.heap.size, 0, none⟩, 1, [intV n], Nat.zero_le _, rfl, by rw [hdl], rfl, rfl, hsb, by rw [hdl]; omega, by omega, by rw [hdl]; omega, rowOneV W rfl (intV n) _, fun k hk => by simp [blk] at hk; have := kW.size; omega, kW.alloc _, rfl, hbd, by rw [Nat.sub_zero]; exact hFF⟩
    clear hs hF hFF hn
    go_enter Tryz.func20, Tryz.ntmps20
    go_wp2_with fail
    refine cW.mono ?_
    rintro e w9 ⟨rfl, hw9⟩
    rw [hw9]
    clear hw9 w9 cW
    go_wp2_with fail
    refine cI.mono ?_
    rintro e w1 ⟨rfl, k1⟩
    clear cI
    obtain ⟨ba, hba, hsb⟩ : ∃ ba, Hid ((if c = 8 then some ⟨g, o, none⟩ else some ⟨g, o + 8, none⟩ : Option Addr) = ba) ∧ Hid (Sees w ba (bs.drop 8)) := by
      refine ⟨_, rfl, ?_⟩
      show Sees _ _ _
      split
      · have : bs.drop 8 = [] := List.drop_eq_nil_of_le (by omega)
        rw [this]; exact .inl rfl
      · exact htl.out
    have hst1 := hid (hst.out ba w1 hsb.out k1)
    clear hst hsb htl
    have hbe : (if c - 8 = 0 then (some ⟨g, o, none⟩ : Option Addr) else some ⟨g, o + 8, none⟩) = ba := by
      rw [← hba.out]
      by_cases h : c = 8
      · rw [if_pos h, if_pos (by omega)]
      · rw [if_neg h, if_neg (by omega)]
    have hba' := hba.out
    go_wp2_with fail
    clear hbe hba' hba hbd
    go_loopw [0, 6, 7, 22] (fun v0 v6 v7 i wn => ∃ (j : Nat) (n' : Int) (ba' : Option Addr) (bc : Nat) (rest : List UInt8) (la : Option Addr) (lc : Nat) (acc : List Val), j ≤ many - 1 ∧ i = .int .i64 j ∧ v0 = .slice ba' rest.length bc ∧ v6 = .int .i64 n' ∧ v7 = .slice la acc.length lc ∧ TdI w wn many j n' ba' bc rest la lc acc F) (fun _ _ _ i _ => many - 1 - (intOf i).toNat)
    case atStart => exact hst1.out
    case round =>
      clear hst1 k1
      obtain ⟨j, n, ba, bc, rest, la, lc, acc, hj, rfl, rfl, rfl, rfl, I⟩ := hrel
      by_cases hlt : j < many - 1
      · have hkw := I.kp
        have hcap := I.cap
        have hlen := I.len
        have hfew := I.few
        have hlo := I.lo
        have hal := I.al
        have hal2 : acc.length ≤ 65 := by rw [hal.out]; omega
        have ht := cTakeGroups ba bc rest wr (I.see.kept I.kp (by simp)) I.few
        have htle := tkG_le rest 0 0
        have htlt := tkG_lt rest 0 0 (by decide) (by decide)
        have hfin := I.fin
        rw [show many - 1 - j = (many - 1 - (j + 1)) + 1 by omega, tkD] at hfin
        obtain ⟨⟨z, sz⟩, htk⟩ : ∃ t, Hid (tkG 0 0 rest = t) := ⟨_, rfl⟩
        rw [htk.out] at ht htle htlt hfin
        dsimp only at ht htle htlt hfin
        have hI := hid I
        have d2 : (j : Int) < (many : Int) - 1 := by omega
        clear I
        go_wp2_with fail
        refine ht.mono ?_
        rintro e w9 ⟨rfl, hw9⟩
        rw [hw9]
        clear hw9 w9 ht
        by_cases hsz : sz = 0
        · subst hsz
          rw [if_pos rfl] at hfin
          have hF' : Hid (F = none) := hfin.out.symm
          have hP : TkL w (okV F) (.returned (.tuple #[.slice none 0 0, .bool false])) wr := by rw [hF'.out]; exact tkL_none w wr hkw
          clear hfin hI hF'
          go_wp2_with fail
          go_ret2
          exact hP
        · rw [if_neg hsz] at hfin
          have hsz' : ((sz : Int) == 0) = false := by rw [beq_eq_false_iff_ne]; omega
          have cU := cUnfold z htlt wr
          obtain ⟨N, hN⟩ : ∃ N, Hid (IntKind.i64.wrap (n + zag z) = N) := ⟨_, rfl⟩
          have hNb := wrap64_bd (n + zag z)
          rw [hN.out] at hfin hNb
          have hNe : IntKind.i64.wrap (n + zag z) = N := hN.out
          have cI := cInt N wr
          go_wp2_with fail
          refine cU.mono ?_
          rintro e w9 ⟨rfl, hw9⟩
          rw [hw9]
          clear hw9 w9 cU
          go_wp2_with fail
          refine cI.mono ?_
          rintro e w1 ⟨rfl, k1⟩
          clear cI
          obtain ⟨wc, hwc⟩ : ∃ wc, w1.alloc (.cells #[.int .i64 2, .bool false, .int .i64 N, .string ⟨#[]⟩] 38) = wc := ⟨_, rfl⟩
          have kc : Kp [] wr wc := by rw [← hwc]; exact k1.alloc _
          have hsr : VE.See wc (some ⟨w1.heap.size, 0, none⟩) [intV N] := by rw [← hwc]; exact oneV w1 rfl (intV N) _
          have hsrc := hsr.src (P := Tryz.prog) Tryz.underlying23 1
          have hrowc := hI.out.row.keptNew kc
          obtain ⟨v', X3, hrun, hrow3, kk3, hn3⟩ := run_appendG (E := VE) (P := Tryz.prog) wc 23 23 23 38 i0 _ 40 Tryz.underlying23 hi hz0 hz1 hz2 rfl (.slice la acc.length lc) acc hrowc _ [intV N] hsrc (by simp; omega) (by simp; omega)
          obtain ⟨a3, c3, rfl, _⟩ := hrow3.see
          rw [ownS] at kk3
          obtain ⟨g, o, rfl⟩ : ∃ g o, ba = some ⟨g, o, none⟩ := by
            rcases hI.out.see with h | ⟨g, o, h, _⟩
            · rw [h] at htle; simp at htle; omega
            · exact ⟨g, o, h⟩
          obtain ⟨ba2, hba2, hsb2⟩ : ∃ ba2, Hid ((if bc = sz then some ⟨g, o, none⟩ else some ⟨g, o + sz, none⟩ : Option Addr) = ba2) ∧ Hid (Sees w ba2 (rest.drop sz)) := by
            refine ⟨_, rfl, ?_⟩
            show Sees _ _ _
            split
            · have : rest.drop sz = [] := List.drop_eq_nil_of_le (by omega)
              rw [this]; exact .inl rfl
            · have := Sees.tail hI.out.see sz; simpa [Addr.add_lit] using this
          have hdl2 : (rest.drop sz).length = rest.length - sz := by simp
          have hnxt : Hid (∃ (j' : Nat) (n' : Int) (ba' : Option Addr) (bc' : Nat) (rest' : List UInt8) (la' : Option Addr) (lc' : Nat) (acc' : List Val), j' ≤ many - 1 ∧ (.int .i64 ((j : Int) + 1) : Value) = .int .i64 j' ∧ (.slice ba2 (rest.length - sz) (bc - sz) : Value) = .slice ba' rest'.length bc' ∧ (.int .i64 N : Value) = .int .i64 n' ∧ (.slice a3 (acc.length + 1) c3 : Value) = .slice la' acc'.length lc' ∧ TdI w X3 many j' n' ba' bc' rest' la' lc' acc' F) := by
            refine ⟨j + 1, N, ba2, bc - sz, rest.drop sz, a3, c3, acc ++ [intV N], by omega, by go_num, by rw [hdl2], rfl, by rw [List.length_append]; rfl, hsb2.out, by rw [hdl2]; omega, by omega, by rw [hdl2]; omega, hrow3, fun k hk => ?_, ?_, by show _ = _; rw [List.length_append, hal.out]; rfl, hNb, hfin⟩
            · rcases hn3 k (by rw [ownS]; exact hk) with h | h
              · rw [ownS] at h; exact hI.out.new k h
              · have := hkw.size; have := kc.size; omega
            · exact (hkw.trans kc (by simp)).trans kk3 (fun k hk => .inr (hI.out.new k hk))
          have hba3 := hba2.out
          clear hrowc hrow3 kk3 hn3 hsr hsrc kc hfin hI hN hsb2 hba2 hal
          go_wp2_with (first | (refine wpAppRun rfl _ _ 23 23 rfl _ _ _ rfl rfl hrun ?_) | fail)
          exact ⟨hnxt.out, by simp [intOf]; omega⟩
      · obtain rfl : j = many - 1 := by omega
        have hfin : Hid (F = some acc) := by
          have := I.fin.out
          rw [Nat.sub_self, tkD] at this
          exact this.symm
        have hP : TkL w (okV F) (.returned (.tuple #[.slice la acc.length lc, .bool true])) wr := by
          rw [hfin.out]
          exact ⟨la, lc, rfl, I.row, I.kp, I.new⟩
        have d2 : ¬ ((many - 1 : Nat) : Int) < (many : Int) - 1 := by omega
        clear I hfin
        go_wp2_with fail
        go_ret2
        exact hP
end Go.Proofs.YtpekgpgfdiffcaaGreat
end

section
namespace Go.Proofs.YtpekgpgfdiffcaaGreat
open Go.RowKit Go.Hay
set_option linter.unusedVariables false
set_option linter.unusedSimpArgs false

theorem u64At {W : World} {a : Option Addr} {l : List Nat} (h : U64E.See W a l) (i : Nat) (hi : i < l.length) : ∃ g o, a = some ⟨g, o, none⟩ ∧ W.cell? ⟨g, o + i, none⟩ = some (.int .u64 (l[i] : Int)) := by
  obtain ⟨g, o, e, hc⟩ := h.at (List.getElem?_eq_getElem hi)
  refine ⟨g, o, e, ?_⟩
  have := hc 0 (.int .u64 (l[i] : Int)) rfl
  simpa [U64E] using this
theorem wrap_twice (m : Int) (n : Nat) : IntKind.i64.wrap (m + IntKind.i64.wrap (n : Int)) = IntKind.i64.wrap (m + (n : Int)) := by
  rw [IntKind.wrap_i64, IntKind.wrap_i64, IntKind.wrap_i64]; omega
/-- A row made of so many values of a list, the rest nought. -/
def mapTo (f : Nat → Val) (ns : List Nat) (many j : Nat) : List Val := (ns.take j).map f ++ List.replicate (many - j) nv
theorem mapTo_len (f : Nat → Val) (ns : List Nat) (j : Nat) (h : j ≤ ns.length) : (mapTo f ns ns.length j).length = ns.length := by unfold mapTo; simp; omega
theorem mapTo_set (f : Nat → Val) (ns : List Nat) (j : Nat) (h : j < ns.length) : (mapTo f ns ns.length j).set j (f ns[j]) = mapTo f ns ns.length (j + 1) := by
  unfold mapTo
  have := set_app ((ns.take j).map f) nv (f ns[j]) (ns.length - (j + 1))
  rw [List.length_map, List.length_take, Nat.min_eq_left (by omega), show ns.length - (j + 1) + 1 = ns.length - j by omega] at this
  rw [this, List.take_succ_eq_append_getElem h, List.map_append]
  rfl
theorem mapTo_all (f : Nat → Val) (ns : List Nat) : mapTo f ns ns.length ns.length = ns.map f := by unfold mapTo; simp
theorem upkO_len {bs : List UInt8} {many wd : Nat} {ns : List Nat} (h : upkO bs many wd = some ns) : ns.length = many ∧ ns = upk bs many wd := by
  unfold upkO at h
  split at h
  · injection h with h; subst h; exact ⟨upk_length _ _ _, rfl⟩
  · cases h
set_option maxHeartbeats 8000000 in
set_option maxRecDepth 100000 in
theorem cTakeBits (a : Option Addr) (c : Nat) (bs : List UInt8) (many : Nat) (w : World) (hs : Sees w a bs) (hl : bs.length ≤ c) (hm : c ≤ maxLen) (hb : bs.length ≤ 900000000000000) (hmn : many ≤ 64) :
    Calls Tryz.prog 22 #[.slice a bs.length c, .int .i64 many] w (TkL w (okV (tkBt many bs))) := by
  obtain ⟨i0, hi, hz0, hz1, hz2⟩ := infoV'
  unfold maxLen at hm
  obtain ⟨F, hFF⟩ : ∃ F, Hid (tkBt many bs = F) := ⟨_, rfl⟩
  rw [hFF.out]
  by_cases h8 : bs.length ≤ 8
  · have hF : Hid (F = none) := by show _ = _; rw [← hFF.out]; unfold tkBt; rw [if_pos (.inl h8)]
    have hfin : TkL w (okV F) (.returned (.tuple #[.slice none 0 0, .bool false])) w := by rw [hF.out]; exact tkL_none w w (Kp.refl _ _)
    have d1 : (bs.length : Int) ≤ 8 := by omega
    clear hs hFF hF
    go_enter Tryz.func22, Tryz.ntmps22
    go_wp2_with fail
    go_ret2
    exact hfin
  · obtain ⟨g, o, rfl, hc⟩ : ∃ g o, a = some ⟨g, o, none⟩ ∧ ∀ j u, bs[j]? = some u → w.cell? ⟨g, o + j, none⟩ = some (.int .u8 u.toNat) := by
      rcases hs with h | h
      · rw [h] at h8; simp at h8
      · exact h
    have h8' : 8 < bs.length := by omega
    have hcx := hc 8 bs[8] (by simp [h8'])
    have hg8 : Hid (bs.getD 8 0 = bs[8]) := by show _ = _; simp [h8']
    have hx := bs[8].toNat_lt
    obtain ⟨x, hxx⟩ : ∃ x, Hid (bs[8].toNat = x) := ⟨bs[8].toNat, by show _ = _; rfl⟩
    rw [hxx.out] at hcx hx
    have d1 : ¬ (bs.length : Int) ≤ 8 := by omega
    have d1' : ¬ bs.length ≤ 8 := h8
    by_cases hx64 : 64 < x
    · have hF : Hid (F = none) := by show _ = _; rw [← hFF.out]; unfold tkBt; rw [if_pos (.inr (by rw [hg8.out, hxx.out]; exact hx64))]
      have hfin : TkL w (okV F) (.returned (.tuple #[.slice none 0 0, .bool false])) w := by rw [hF.out]; exact tkL_none w w (Kp.refl _ _)
      have d2 : (64 : Int) < (x : Int) := by omega
      clear hs hFF hF hc
      go_enter Tryz.func22, Tryz.ntmps22
      go_wp2_with fail
      go_ret2
      exact hfin
    · have hF : Hid (F = (upkO (bs.drop 9) many x).map fun l => l.map fun (n : Nat) => intV (IntKind.i64.wrap (wordV bs + (n : Int)))) := by
        show _ = _
        rw [← hFF.out]; unfold tkBt; rw [hg8.out, hxx.out, if_neg (by omega)]
      have d2 : ¬ (64 : Int) < (x : Int) := by omega
      have hcW := hid (fun W (k : Kp [] w W) => cWord (some ⟨g, o, none⟩) c bs W (hs.kept k (by simp)) (by omega) hb)
      obtain ⟨ba, hba, hsb⟩ : ∃ ba, Hid ((if c = 9 then some ⟨g, o, none⟩ else some ⟨g, o + 9, none⟩ : Option Addr) = ba) ∧ Hid (Sees w ba (bs.drop 9)) := by
        refine ⟨_, rfl, ?_⟩
        show Sees _ _ _
        split
        · have : bs.drop 9 = [] := List.drop_eq_nil_of_le (by omega)
          rw [this]; exact .inl rfl
        · have := Sees.tail hs 9; simpa [Addr.add_lit] using this
      have hdl : (bs.drop 9).length = bs.length - 9 := by simp
      have hcU : Hid (∀ W, Kp [] w W → Calls Tryz.prog 41 #[.slice ba (bs.length - 9) (c - 9), .int .i64 many, .int .i64 x] W (UpP W (upkO (bs.drop 9) many x))) := fun W k => by
        have := cUnpack ba (c - 9) (bs.drop 9) many x W (hsb.out.kept k (by simp)) (by rw [hdl]; omega) hmn (by omega)
        rw [hdl] at this
        exact this
      have hlen := hid (fun ns (h : upkO (bs.drop 9) many x = some ns) => (upkO_len h).1)
      obtain ⟨U, hU⟩ : ∃ U, Hid (upkO (bs.drop 9) many x = U) := ⟨_, rfl⟩
      rw [hU.out] at hF hlen
      simp only [hU.out] at hcU
      obtain ⟨n, hn⟩ : ∃ n, Hid (wordV bs = n) := ⟨_, rfl⟩
      rw [hn.out] at hF
      simp only [hn.out] at hcW
      have hbe := hba.out
      have kd : Kp [] w w.drew := (Kp.refl _ _).drew
      have hS : Hid (∀ A, Kp [] w A → A.cell? ⟨g, o + 8, none⟩ = some (.int .u8 x)) := fun A kA => kpAt kA hcx
      have d9 : (9 : Int) ≤ (bs.length : Int) := by omega
      have hwx : IntKind.i64.wrap (x : Int) = (x : Int) := by rw [IntKind.wrap_i64]; omega
      clear hs hFF hc hg8 hxx hsb hU hn hba hdl
      go_enter Tryz.func22, Tryz.ntmps22
      go_wp2_with fail
      clear hcx
      refine wp_region_held_drew (S := (fun A => A.cell? ⟨g, o + 8, none⟩ = some (.int .u8 x))) (by kernel_rfl) ?_ (fun hHeld => ?_)
      · exact hS.out _ kd
      generalize w.drew = wd at *
      refine wpAnyH_take (i := 0) (v := ?_) rfl (by kernel_rfl) (by kernel_rfl) (by kernel_rfl) (fun _ _ _ h => h) (Or.inl ⟨by rfl, ?_⟩) (by assumption) ?_
      rotate_left
      · intro w hSw; (try dsimp only at hSw); go_simp <;> with_reducible rfl
      try simp only [Act.put, List.getElem_toArray, List.getElem_cons_zero, List.getElem_cons_succ, List.setIfInBounds_toArray, List.set_cons_zero, List.set_cons_succ]
      refine wpAnyH_take (i := 1) (v := ?_) rfl (by kernel_rfl) (by kernel_rfl) (by kernel_rfl) (fun _ _ _ h => h) (Or.inl ⟨by rfl, ?_⟩) (by assumption) ?_
      rotate_left
      · intro w hSw; (try dsimp only at hSw); go_simp <;> with_reducible rfl
      try simp only [Act.put, List.getElem_toArray, List.getElem_cons_zero, List.getElem_cons_succ, List.setIfInBounds_toArray, List.set_cons_zero, List.set_cons_succ]
      refine wpAnyH_take (i := 2) (v := ?_) rfl (by kernel_rfl) (by kernel_rfl) (by kernel_rfl) (fun _ _ _ h => h) (Or.inl ⟨by rfl, ?_⟩) (by assumption) ?_
      rotate_left
      · intro w hSw; (try dsimp only at hSw); go_simp <;> with_reducible rfl
      try simp only [Act.put, List.getElem_toArray, List.getElem_cons_zero, List.getElem_cons_succ, List.setIfInBounds_toArray, List.set_cons_zero, List.set_cons_succ]
      refine wpAnyH_take (i := 3) (v := ?_) rfl (by kernel_rfl) (by kernel_rfl) (by kernel_rfl) (fun _ _ _ h => h) (Or.inl ⟨by rfl, ?_⟩) (by assumption) ?_
      rotate_left
      · intro w hSw; (try dsimp only at hSw); go_simp <;> with_reducible rfl
      try simp only [Act.put, List.getElem_toArray, List.getElem_cons_zero, List.getElem_cons_succ, List.setIfInBounds_toArray, List.set_cons_zero, List.set_cons_succ]
      refine wpAnyH_take (i := 4) (v := ?_) rfl (by kernel_rfl) (by kernel_rfl) (by kernel_rfl) (fun _ _ _ h => h) (Or.inl ⟨by rfl, ?_⟩) (by assumption) ?_
      rotate_left
      · intro w hSw; (try dsimp only at hSw); go_simp <;> with_reducible rfl
      try simp only [Act.put, List.getElem_toArray, List.getElem_cons_zero, List.getElem_cons_succ, List.setIfInBounds_toArray, List.set_cons_zero, List.set_cons_succ]
      refine wpAnyH_take (i := 5) (v := ?_) rfl (by kernel_rfl) (by kernel_rfl) (by kernel_rfl) (fun _ _ _ h => h) (Or.inl ⟨by rfl, ?_⟩) (by assumption) ?_
      rotate_left
      · intro w hSw; (try dsimp only at hSw); go_simp <;> with_reducible rfl
      try simp only [Act.put, List.getElem_toArray, List.getElem_cons_zero, List.getElem_cons_succ, List.setIfInBounds_toArray, List.set_cons_zero, List.set_cons_succ]
      refine wpAnyH_take (i := 6) (v := ?_) rfl (by kernel_rfl) (by kernel_rfl) (by kernel_rfl) (fun _ _ _ h => h) (Or.inl ⟨by rfl, ?_⟩) (by assumption) ?_
      rotate_left
      · intro w hSw; (try dsimp only at hSw); go_simp <;> with_reducible rfl
      try simp only [Act.put, List.getElem_toArray, List.getElem_cons_zero, List.getElem_cons_succ, List.setIfInBounds_toArray, List.set_cons_zero, List.set_cons_succ]
      cases U with
      | none =>
        refine wpAnyH_ready (rs := [7]) (by kernel_rfl) (by simp) ?_
        refine AllReadyH.cons rfl (fun K hK => ?_) AllReadyH.nil
        go_simp
        refine (hcU.out wd kd).mono ?_
        rintro e w2 ⟨rfl, k2⟩
        (try go_wp2_with fail)
        refine hK.out _ _ ?_ (fun hHeld => ?_)
        · exact hS.out _ (kd.trans k2 (by simp))
        clear hK K
        try simp only [Act.put, List.getElem_toArray, List.getElem_cons_zero, List.getElem_cons_succ, List.setIfInBounds_toArray, List.set_cons_zero, List.set_cons_succ]
        refine wpAnyH_take (i := 8) (v := ?_) rfl (by kernel_rfl) (by kernel_rfl) (by kernel_rfl) (fun _ _ _ h => h) (Or.inl ⟨by rfl, ?_⟩) (by assumption) ?_
        rotate_left
        · intro w hSw; (try dsimp only at hSw); go_simp <;> with_reducible rfl
        try simp only [Act.put, List.getElem_toArray, List.getElem_cons_zero, List.getElem_cons_succ, List.setIfInBounds_toArray, List.set_cons_zero, List.set_cons_succ]
        refine wpAnyH_take (i := 9) (v := ?_) rfl (by kernel_rfl) (by kernel_rfl) (by kernel_rfl) (fun _ _ _ h => h) (Or.inl ⟨by rfl, ?_⟩) (by assumption) ?_
        rotate_left
        · intro w hSw; (try dsimp only at hSw); go_simp <;> with_reducible rfl
        try simp only [Act.put, List.getElem_toArray, List.getElem_cons_zero, List.getElem_cons_succ, List.setIfInBounds_toArray, List.set_cons_zero, List.set_cons_succ]
        refine wpAnyH_take (i := 10) (v := ?_) rfl (by kernel_rfl) (by kernel_rfl) (by kernel_rfl) (fun _ _ _ h => h) (Or.inl ⟨by rfl, ?_⟩) (by assumption) ?_
        rotate_left
        · intro w hSw; (try dsimp only at hSw); go_simp <;> with_reducible rfl
        try simp only [Act.put, List.getElem_toArray, List.getElem_cons_zero, List.getElem_cons_succ, List.setIfInBounds_toArray, List.set_cons_zero, List.set_cons_succ]
        refine wpAnyH_take (i := 11) (v := ?_) rfl (by kernel_rfl) (by kernel_rfl) (by kernel_rfl) (fun _ _ _ h => h) (Or.inl ⟨by rfl, ?_⟩) (by assumption) ?_
        rotate_left
        · intro w hSw; (try dsimp only at hSw); go_simp <;> with_reducible rfl
        try simp only [Act.put, List.getElem_toArray, List.getElem_cons_zero, List.getElem_cons_succ, List.setIfInBounds_toArray, List.set_cons_zero, List.set_cons_succ]
        refine wpAnyH_take (i := 12) (v := ?_) rfl (by kernel_rfl) (by kernel_rfl) (by kernel_rfl) (fun _ _ _ h => h) (Or.inl ⟨by rfl, ?_⟩) (by assumption) ?_
        rotate_left
        · intro w hSw; (try dsimp only at hSw); go_simp <;> with_reducible rfl
        try simp only [Act.put, List.getElem_toArray, List.getElem_cons_zero, List.getElem_cons_succ, List.setIfInBounds_toArray, List.set_cons_zero, List.set_cons_succ]
        refine wpAnyH_done (by kernel_rfl) ?_ _
        have hfin : TkL w (okV F) (.returned (.tuple #[.slice none 0 0, .bool false])) w2 := by rw [hF.out]; exact tkL_none w w2 (kd.trans k2 (by simp))
        clear hF hcU hcW hS
        go_wp2_with fail
        go_ret2
        exact hfin
      | some ns =>
        refine wpAnyH_ready (rs := [7]) (by kernel_rfl) (by simp) ?_
        refine AllReadyH.cons rfl (fun K hK => ?_) AllReadyH.nil
        go_simp
        refine (hcU.out wd kd).mono ?_
        rintro e w2 ⟨a2, c2, rfl, hrow2, k2, hn2⟩
        have hrow2' := hid hrow2
        clear hrow2
        (try go_wp2_with fail)
        refine hK.out _ _ ?_ (fun hHeld => ?_)
        · exact hS.out _ (kd.trans k2 (by simp))
        clear hK K
        try simp only [Act.put, List.getElem_toArray, List.getElem_cons_zero, List.getElem_cons_succ, List.setIfInBounds_toArray, List.set_cons_zero, List.set_cons_succ]
        refine wpAnyH_take (i := 8) (v := ?_) rfl (by kernel_rfl) (by kernel_rfl) (by kernel_rfl) (fun _ _ _ h => h) (Or.inl ⟨by rfl, ?_⟩) (by assumption) ?_
        rotate_left
        · intro w hSw; (try dsimp only at hSw); go_simp <;> with_reducible rfl
        try simp only [Act.put, List.getElem_toArray, List.getElem_cons_zero, List.getElem_cons_succ, List.setIfInBounds_toArray, List.set_cons_zero, List.set_cons_succ]
        refine wpAnyH_take (i := 9) (v := ?_) rfl (by kernel_rfl) (by kernel_rfl) (by kernel_rfl) (fun _ _ _ h => h) (Or.inl ⟨by rfl, ?_⟩) (by assumption) ?_
        rotate_left
        · intro w hSw; (try dsimp only at hSw); go_simp <;> with_reducible rfl
        try simp only [Act.put, List.getElem_toArray, List.getElem_cons_zero, List.getElem_cons_succ, List.setIfInBounds_toArray, List.set_cons_zero, List.set_cons_succ]
        refine wpAnyH_take (i := 10) (v := ?_) rfl (by kernel_rfl) (by kernel_rfl) (by kernel_rfl) (fun _ _ _ h => h) (Or.inl ⟨by rfl, ?_⟩) (by assumption) ?_
        rotate_left
        · intro w hSw; (try dsimp only at hSw); go_simp <;> with_reducible rfl
        try simp only [Act.put, List.getElem_toArray, List.getElem_cons_zero, List.getElem_cons_succ, List.setIfInBounds_toArray, List.set_cons_zero, List.set_cons_succ]
        refine wpAnyH_take (i := 11) (v := ?_) rfl (by kernel_rfl) (by kernel_rfl) (by kernel_rfl) (fun _ _ _ h => h) (Or.inl ⟨by rfl, ?_⟩) (by assumption) ?_
        rotate_left
        · intro w hSw; (try dsimp only at hSw); go_simp <;> with_reducible rfl
        try simp only [Act.put, List.getElem_toArray, List.getElem_cons_zero, List.getElem_cons_succ, List.setIfInBounds_toArray, List.set_cons_zero, List.set_cons_succ]
        refine wpAnyH_take (i := 12) (v := ?_) rfl (by kernel_rfl) (by kernel_rfl) (by kernel_rfl) (fun _ _ _ h => h) (Or.inl ⟨by rfl, ?_⟩) (by assumption) ?_
        rotate_left
        · intro w hSw; (try dsimp only at hSw); go_simp <;> with_reducible rfl
        try simp only [Act.put, List.getElem_toArray, List.getElem_cons_zero, List.getElem_cons_succ, List.setIfInBounds_toArray, List.set_cons_zero, List.set_cons_succ]
        refine wpAnyH_done (by kernel_rfl) ?_ _
        have hnl := hlen.out ns rfl
        subst hnl
        have kw2 := kd.trans k2 (by simp)
        have cW := hcW.out w2 kw2
        have hsn : Hid (∀ W, Kp [] w2 W → U64E.See W a2 ns) := fun W kW => by
          obtain ⟨_, _, e, h1, _⟩ := hrow2'.out.see
          injection e with e1 e2 e3
          rw [e1]
          exact h1.keptNew kW
        obtain ⟨W1, hmk, hrow1, k1, hs1⟩ := run_makeG (E := VE) (P := Tryz.prog) w2 23 38 i0 _ nv 40 Tryz.underlying23 hi hz0 hz1 hz2 rfl .i64 .i64 ns.length (by omega) (by unfold maxLen; omega)
        obtain ⟨f, hf⟩ : ∃ f : Nat → Val, Hid ((fun (m : Nat) => intV (IntKind.i64.wrap (n + (m : Int)))) = f) := ⟨_, rfl⟩
        have hfa : Hid (∀ m : Nat, f m = intV (IntKind.i64.wrap (n + IntKind.i64.wrap (m : Int)))) := fun m => by rw [← hf.out, wrap_twice]
        have hF2 : Hid (F = some (ns.map f)) := by show _ = _; rw [hF.out, ← hf.out]; rfl
        have R0 : Hid (VE.Row W1 (.slice (some ⟨w2.heap.size, 0, none⟩) ns.length ns.length) (mapTo f ns ns.length 0)) := by show VE.Row _ _ _; simpa [mapTo] using hrow1
        have hw2 := hid (kw2)
        clear hF hcU hS hrow2' hrow1 hf hlen hcW hHeld hn2 hbe
        go_wp2_with fail
        refine cW.mono ?_
        rintro e w9 ⟨rfl, hw9⟩
        rw [hw9]
        clear hw9 w9 cW
        go_wp2_with fail
        go_loopw [40] (fun i wn => ∃ j : Nat, j ≤ ns.length ∧ i = .int .i64 j ∧ VE.Row wn (.slice (some ⟨w2.heap.size, 0, none⟩) ns.length ns.length) (mapTo f ns ns.length j) ∧ Kp [] w2 wn) (fun i _ => ns.length - (intOf i).toNat)
        case atStart => exact ⟨0, Nat.zero_le _, rfl, R0.out, k1⟩
        case round =>
          clear hmk R0 k1 hs1
          obtain ⟨j, hj, rfl, hrow, kn⟩ := hrel
          by_cases hlt : j < ns.length
          · obtain ⟨g2, o2, rfl, hcn⟩ := u64At (hsn.out wr kn) j hlt
            have hset := hid (fun W (k : Kp [] wr W) => rowSetV (hrow.keptNew k) j (by rw [mapTo_len _ _ _ (by omega)]; exact hlt) (f ns[j]))
            have hcells := hid (fun W (k : Kp [] wr W) => rowCellsV (hrow.keptNew k) j (by rw [mapTo_len _ _ _ (by omega)]; exact hlt))
            rw [mapTo_set f ns j hlt] at hset
            have hfj := hfa.out ns[j]
            generalize ns[j] = m at *
            obtain ⟨V, hV⟩ : ∃ V, Hid (IntKind.i64.wrap (n + IntKind.i64.wrap (m : Int)) = V) := ⟨_, rfl⟩
            have hVe : wrap64 (n + wrap64 (m : Int)) = V := by rw [← hV.out, IntKind.wrap_i64, IntKind.wrap_i64]; unfold wrap64; omega
            rw [hV.out] at hfj
            rw [hfj] at hset
            have cI := cInt V wr
            have hrow' := hid hrow
            clear hV hfj hrow
            go_wp2_with fail
            refine cI.mono ?_
            rintro e w3 ⟨rfl, k3⟩
            have hset3 := hset.out w3 k3
            have hcl := hcells.out w3 k3
            obtain ⟨⟨u0, c0⟩, f0⟩ := hcl 0 (by omega)
            obtain ⟨⟨u1, c1⟩, f1⟩ := hcl 1 (by omega)
            obtain ⟨⟨u2, c2'⟩, f2⟩ := hcl 2 (by omega)
            obtain ⟨⟨u3, c3⟩, f3⟩ := hcl 3 (by omega)
            rw [Nat.add_zero] at c0 f0
            have kset := kpSet4 (i := j) (kn.trans k3 (by simp)) (Nat.le_refl _) (.int .i64 (intV V).k) (.bool (intV V).b) (.int .i64 (intV V).n) (.string (intV V).t)
            unfold intV at hset3 kset
            dsimp only at hset3 kset
            have hs3 := hid hset3
            have ks3 := hid kset
            clear hset hcells hset3 kset hcl cI
            go_wp2_with fail
            exact ⟨⟨j + 1, by omega, by go_num, hs3.out, ks3.out⟩, by simp [intOf]; omega⟩
          · obtain rfl : j = ns.length := by omega
            rw [mapTo_all] at hrow
            have hml : (ns.map f).length = ns.length := by simp
            have hP : TkL w (okV F) (.returned (.tuple #[.slice (some ⟨w2.heap.size, 0, none⟩) ns.length ns.length, .bool true])) wr := by
              rw [hF2.out]
              exact ⟨some ⟨w2.heap.size, 0, none⟩, ns.length, by simp [okV], by show VE.Row _ (.slice _ (ns.map f).length _) _; rw [hml]; exact hrow, kw2.trans kn (by simp), fun k hk => by simp [blk] at hk; have := kw2.size; omega⟩
            clear hrow hF2
            go_wp2_with fail
            go_ret2
            exact hP
end Go.Proofs.YtpekgpgfdiffcaaGreat
end

section
namespace Go.Proofs.YtpekgpgfdiffcaaGreat
open Go.RowKit Go.Hay
set_option linter.unusedVariables false
set_option linter.unusedSimpArgs false

theorem tkP_len : ∀ (n : Nat) (acc : List Val) (bs : List UInt8) (q : List Val × List UInt8), tkP n acc bs = some q → q.1.length = acc.length + n ∧ q.2.length ≤ bs.length
  | 0, acc, bs, q, h => by rw [tkP] at h; injection h with h; subst h; simp
  | n + 1, acc, bs, q, h => by
    rw [tkP] at h
    split at h
    · cases h
    · obtain ⟨h1, h2⟩ := tkP_len n _ _ q h
      simp at h1 h2
      omega
set_option maxHeartbeats 8000000 in
set_option maxRecDepth 100000 in
theorem cTakeDict (a : Option Addr) (c : Nat) (bs : List UInt8) (many : Nat) (w : World) (hs : Sees w a bs) (hl : bs.length ≤ c) (hm : c ≤ maxLen) (hb : bs.length ≤ 900000000000000) (hmn : many ≤ 64) :
    Calls Tryz.prog 21 #[.slice a bs.length c, .int .i64 many] w (TkL w (okV (tkDc many bs))) := by
  obtain ⟨i0, hi, hz0, hz1, hz2⟩ := infoV'
  unfold maxLen at hm
  obtain ⟨F, hFF⟩ : ∃ F, Hid (tkDc many bs = F) := ⟨_, rfl⟩
  rw [hFF.out]
  by_cases h8 : bs.length = 0
  · have hF : Hid (F = none) := by show _ = _; rw [← hFF.out]; unfold tkDc; rw [if_pos (.inl h8)]
    have hfin : TkL w (okV F) (.returned (.tuple #[.slice none 0 0, .bool false])) w := by rw [hF.out]; exact tkL_none w w (Kp.refl _ _)
    rw [h8]
    clear hs hFF hF h8 hl hb
    go_enter Tryz.func21, Tryz.ntmps21
    go_wp2_with fail
    go_ret2
    exact hfin
  · obtain ⟨g, o, rfl, hc⟩ : ∃ g o, a = some ⟨g, o, none⟩ ∧ ∀ j u, bs[j]? = some u → w.cell? ⟨g, o + j, none⟩ = some (.int .u8 u.toNat) := by
      rcases hs with h | h
      · rw [h] at h8; simp at h8
      · exact h
    have h8' : 0 < bs.length := by omega
    have hcx := hc 0 bs[0] (by simp [h8'])
    rw [Nat.add_zero] at hcx
    have hg8 : Hid (bs.getD 0 0 = bs[0]) := by show _ = _; simp [h8']
    have hx := bs[0].toNat_lt
    obtain ⟨x, hxx⟩ : ∃ x, Hid (bs[0].toNat = x) := ⟨bs[0].toNat, by show _ = _; rfl⟩
    rw [hxx.out] at hcx hx
    have d1 : ((bs.length : Int) == 0) = false := by rw [beq_eq_false_iff_ne]; omega
    by_cases hx0 : x = 0 ∨ many < x
    · have hF : Hid (F = none) := by show _ = _; rw [← hFF.out]; unfold tkDc; rw [if_pos (.inr (by rw [hg8.out, hxx.out]; exact hx0))]
      have hfin : TkL w (okV F) (.returned (.tuple #[.slice none 0 0, .bool false])) w := by rw [hF.out]; exact tkL_none w w (Kp.refl _ _)
      clear hs hFF hF hc
      rcases hx0 with h0 | h0
      · subst h0
        go_enter Tryz.func21, Tryz.ntmps21
        go_wp2_with fail
        go_ret2
        exact hfin
      · have d2 : ((x : Int) == 0) = false := by rw [beq_eq_false_iff_ne]; omega
        have d3 : (many : Int) < (x : Int) := by omega
        go_enter Tryz.func21, Tryz.ntmps21
        go_wp2_with fail
        go_ret2
        exact hfin
    · have hx1 : 0 < x := by omega
      have hx2 : x ≤ many := by omega
      have hF : Hid (F = match tkP x [] (bs.drop 1) with
          | none => none
          | some (u, r) => match upkO r many (Lib.bitLen (u.length - 1)) with
            | none => none
            | some ps => if ps.all (fun p => decide (p < u.length)) = true then some (ps.map fun p => u.getD p nv) else none) := by
        show _ = _
        rw [← hFF.out]; unfold tkDc; rw [hg8.out, hxx.out, if_neg (by omega)]
        all_goals
          rcases tkP x [] (bs.drop 1) with _ | ⟨u, r⟩
          · rfl
          · dsimp only
            cases upkO r many (Lib.bitLen (u.length - 1)) <;> rfl
      have d2 : ((x : Int) == 0) = false := by rw [beq_eq_false_iff_ne]; omega
      have d3 : ¬ (many : Int) < (x : Int) := by omega
      have d3' : ¬ many < x := by omega
      obtain ⟨ba, hba, hsb⟩ : ∃ ba, Hid ((if c = 1 then some ⟨g, o, none⟩ else some ⟨g, o + 1, none⟩ : Option Addr) = ba) ∧ Hid (Sees w ba (bs.drop 1)) := by
        refine ⟨_, rfl, ?_⟩
        show Sees _ _ _
        split
        · have : bs.drop 1 = [] := List.drop_eq_nil_of_le (by omega)
          rw [this]; exact .inl rfl
        · have := Sees.tail hs 1; simpa [Addr.add_lit] using this
      have hdl : (bs.drop 1).length = bs.length - 1 := by simp
      have hcU : Hid (∀ W, Kp [] w W → Calls Tryz.prog 23 #[.slice ba (bs.length - 1) (c - 1), .int .i64 x] W (TkP W (tkP x [] (bs.drop 1)))) := fun W k => by
        have := cTakePlain ba (c - 1) (bs.drop 1) x W (hsb.out.kept k (by simp)) (by rw [hdl]; omega) (by unfold maxLen; omega) (by rw [hdl]; omega) (by omega)
        rw [hdl] at this
        exact this
      have hlen : Hid (∀ q, tkP x [] (bs.drop 1) = some q → q.1.length = x ∧ q.2.length ≤ bs.length) := fun q h => by
        obtain ⟨h1, h2⟩ := tkP_len _ _ _ _ h
        rw [hdl] at h2
        simp at h1
        omega
      obtain ⟨U, hU⟩ : ∃ U, Hid (tkP x [] (bs.drop 1) = U) := ⟨_, rfl⟩
      rw [hU.out] at hF hlen
      simp only [hU.out] at hcU
      have hbe := hba.out
      have kd : Kp [] w w.drew := (Kp.refl _ _).drew
      have hS : Hid (∀ A, Kp [] w A → A.cell? ⟨g, o, none⟩ = some (.int .u8 x)) := fun A kA => kpAt kA hcx
      have d9 : (1 : Int) ≤ (bs.length : Int) := by omega
      have hwx : IntKind.i64.wrap (x : Int) = (x : Int) := by rw [IntKind.wrap_i64]; omega
      clear hs hFF hc hg8 hxx hsb hU hba hdl hx0
      go_enter Tryz.func21, Tryz.ntmps21
      go_wp2_with fail
      clear hcx
      refine wp_region_held_drew (S := (fun A => A.cell? ⟨g, o, none⟩ = some (.int .u8 x))) (by kernel_rfl) ?_ (fun hHeld => ?_)
      · exact hS.out _ kd
      generalize w.drew = wd at *
      refine wpAnyH_take (i := 0) (v := ?_) rfl (by kernel_rfl) (by kernel_rfl) (by kernel_rfl) (fun _ _ _ h => h) (Or.inl ⟨by rfl, ?_⟩) (by assumption) ?_
      rotate_left
      · intro w hSw; (try dsimp only at hSw); go_simp <;> with_reducible rfl
      try simp only [Act.put, List.getElem_toArray, List.getElem_cons_zero, List.getElem_cons_succ, List.setIfInBounds_toArray, List.set_cons_zero, List.set_cons_succ]
      refine wpAnyH_take (i := 1) (v := ?_) rfl (by kernel_rfl) (by kernel_rfl) (by kernel_rfl) (fun _ _ _ h => h) (Or.inl ⟨by rfl, ?_⟩) (by assumption) ?_
      rotate_left
      · intro w hSw; (try dsimp only at hSw); go_simp <;> with_reducible rfl
      try simp only [Act.put, List.getElem_toArray, List.getElem_cons_zero, List.getElem_cons_succ, List.setIfInBounds_toArray, List.set_cons_zero, List.set_cons_succ]
      refine wpAnyH_take (i := 2) (v := ?_) rfl (by kernel_rfl) (by kernel_rfl) (by kernel_rfl) (fun _ _ _ h => h) (Or.inl ⟨by rfl, ?_⟩) (by assumption) ?_
      rotate_left
      · intro w hSw; (try dsimp only at hSw); go_simp <;> with_reducible rfl
      try simp only [Act.put, List.getElem_toArray, List.getElem_cons_zero, List.getElem_cons_succ, List.setIfInBounds_toArray, List.set_cons_zero, List.set_cons_succ]
      refine wpAnyH_take (i := 3) (v := ?_) rfl (by kernel_rfl) (by kernel_rfl) (by kernel_rfl) (fun _ _ _ h => h) (Or.inl ⟨by rfl, ?_⟩) (by assumption) ?_
      rotate_left
      · intro w hSw; (try dsimp only at hSw); go_simp <;> with_reducible rfl
      try simp only [Act.put, List.getElem_toArray, List.getElem_cons_zero, List.getElem_cons_succ, List.setIfInBounds_toArray, List.set_cons_zero, List.set_cons_succ]
      refine wpAnyH_take (i := 4) (v := ?_) rfl (by kernel_rfl) (by kernel_rfl) (by kernel_rfl) (fun _ _ _ h => h) (Or.inl ⟨by rfl, ?_⟩) (by assumption) ?_
      rotate_left
      · intro w hSw; (try dsimp only at hSw); go_simp <;> with_reducible rfl
      try simp only [Act.put, List.getElem_toArray, List.getElem_cons_zero, List.getElem_cons_succ, List.setIfInBounds_toArray, List.set_cons_zero, List.set_cons_succ]
      refine wpAnyH_take (i := 5) (v := ?_) rfl (by kernel_rfl) (by kernel_rfl) (by kernel_rfl) (fun _ _ _ h => h) (Or.inl ⟨by rfl, ?_⟩) (by assumption) ?_
      rotate_left
      · intro w hSw; (try dsimp only at hSw); go_simp <;> with_reducible rfl
      try simp only [Act.put, List.getElem_toArray, List.getElem_cons_zero, List.getElem_cons_succ, List.setIfInBounds_toArray, List.set_cons_zero, List.set_cons_succ]
      cases U with
      | none =>
        refine wpAnyH_ready (rs := [6]) (by kernel_rfl) (by simp) ?_
        refine AllReadyH.cons rfl (fun K hK => ?_) AllReadyH.nil
        go_simp
        refine (hcU.out wd kd).mono ?_
        rintro e w2 ⟨rfl, k2⟩
        (try go_wp2_with fail)
        refine hK.out _ _ ?_ (fun hHeld => ?_)
        · exact hS.out _ (kd.trans k2 (by simp))
        clear hK K
        try simp only [Act.put, List.getElem_toArray, List.getElem_cons_zero, List.getElem_cons_succ, List.setIfInBounds_toArray, List.set_cons_zero, List.set_cons_succ]
        refine wpAnyH_take (i := 7) (v := ?_) rfl (by kernel_rfl) (by kernel_rfl) (by kernel_rfl) (fun _ _ _ h => h) (Or.inl ⟨by rfl, ?_⟩) (by assumption) ?_
        rotate_left
        · intro w hSw; (try dsimp only at hSw); go_simp <;> with_reducible rfl
        try simp only [Act.put, List.getElem_toArray, List.getElem_cons_zero, List.getElem_cons_succ, List.setIfInBounds_toArray, List.set_cons_zero, List.set_cons_succ]
        refine wpAnyH_take (i := 8) (v := ?_) rfl (by kernel_rfl) (by kernel_rfl) (by kernel_rfl) (fun _ _ _ h => h) (Or.inl ⟨by rfl, ?_⟩) (by assumption) ?_
        rotate_left
        · intro w hSw; (try dsimp only at hSw); go_simp <;> with_reducible rfl
        try simp only [Act.put, List.getElem_toArray, List.getElem_cons_zero, List.getElem_cons_succ, List.setIfInBounds_toArray, List.set_cons_zero, List.set_cons_succ]
        refine wpAnyH_take (i := 9) (v := ?_) rfl (by kernel_rfl) (by kernel_rfl) (by kernel_rfl) (fun _ _ _ h => h) (Or.inl ⟨by rfl, ?_⟩) (by assumption) ?_
        rotate_left
        · intro w hSw; (try dsimp only at hSw); go_simp <;> with_reducible rfl
        try simp only [Act.put, List.getElem_toArray, List.getElem_cons_zero, List.getElem_cons_succ, List.setIfInBounds_toArray, List.set_cons_zero, List.set_cons_succ]
        refine wpAnyH_take (i := 10) (v := ?_) rfl (by kernel_rfl) (by kernel_rfl) (by kernel_rfl) (fun _ _ _ h => h) (Or.inl ⟨by rfl, ?_⟩) (by assumption) ?_
        rotate_left
        · intro w hSw; (try dsimp only at hSw); go_simp <;> with_reducible rfl
        try simp only [Act.put, List.getElem_toArray, List.getElem_cons_zero, List.getElem_cons_succ, List.setIfInBounds_toArray, List.set_cons_zero, List.set_cons_succ]
        refine wpAnyH_take (i := 11) (v := ?_) rfl (by kernel_rfl) (by kernel_rfl) (by kernel_rfl) (fun _ _ _ h => h) (Or.inl ⟨by rfl, ?_⟩) (by assumption) ?_
        rotate_left
        · intro w hSw; (try dsimp only at hSw); go_simp <;> with_reducible rfl
        try simp only [Act.put, List.getElem_toArray, List.getElem_cons_zero, List.getElem_cons_succ, List.setIfInBounds_toArray, List.set_cons_zero, List.set_cons_succ]
        refine wpAnyH_take (i := 12) (v := ?_) rfl (by kernel_rfl) (by kernel_rfl) (by kernel_rfl) (fun _ _ _ h => h) (Or.inl ⟨by rfl, ?_⟩) (by assumption) ?_
        rotate_left
        · intro w hSw; (try dsimp only at hSw); go_simp <;> with_reducible rfl
        try simp only [Act.put, List.getElem_toArray, List.getElem_cons_zero, List.getElem_cons_succ, List.setIfInBounds_toArray, List.set_cons_zero, List.set_cons_succ]
        refine wpAnyH_take (i := 13) (v := ?_) rfl (by kernel_rfl) (by kernel_rfl) (by kernel_rfl) (fun _ _ _ h => h) (Or.inl ⟨by rfl, ?_⟩) (by assumption) ?_
        rotate_left
        · intro w hSw; (try dsimp only at hSw); go_simp <;> with_reducible rfl
        try simp only [Act.put, List.getElem_toArray, List.getElem_cons_zero, List.getElem_cons_succ, List.setIfInBounds_toArray, List.set_cons_zero, List.set_cons_succ]
        refine wpAnyH_done (by kernel_rfl) ?_ _
        have hfin : TkL w (okV F) (.returned (.tuple #[.slice none 0 0, .bool false])) w2 := by rw [hF.out]; exact tkL_none w w2 (kd.trans k2 (by simp))
        clear hF hcU hS
        go_wp2_with fail
        go_ret2
        exact hfin
      | some q =>
        obtain ⟨u, r⟩ := q
        refine wpAnyH_ready (rs := [6]) (by kernel_rfl) (by simp) ?_
        refine AllReadyH.cons rfl (fun K hK => ?_) AllReadyH.nil
        go_simp
        refine (hcU.out wd kd).mono ?_
        rintro e w2 ⟨a2, c2, b2, e2, rfl, hrow2, hsr2, hle2, hme2, k2, hn2⟩
        have hrow2' := hid hrow2
        have hsr2' := hid hsr2
        clear hrow2 hsr2
        (try go_wp2_with fail)
        refine hK.out _ _ ?_ (fun hHeld => ?_)
        · exact hS.out _ (kd.trans k2 (by simp))
        clear hK K
        try simp only [Act.put, List.getElem_toArray, List.getElem_cons_zero, List.getElem_cons_succ, List.setIfInBounds_toArray, List.set_cons_zero, List.set_cons_succ]
        refine wpAnyH_take (i := 7) (v := ?_) rfl (by kernel_rfl) (by kernel_rfl) (by kernel_rfl) (fun _ _ _ h => h) (Or.inl ⟨by rfl, ?_⟩) (by assumption) ?_
        rotate_left
        · intro w hSw; (try dsimp only at hSw); go_simp <;> with_reducible rfl
        try simp only [Act.put, List.getElem_toArray, List.getElem_cons_zero, List.getElem_cons_succ, List.setIfInBounds_toArray, List.set_cons_zero, List.set_cons_succ]
        refine wpAnyH_take (i := 8) (v := ?_) rfl (by kernel_rfl) (by kernel_rfl) (by kernel_rfl) (fun _ _ _ h => h) (Or.inl ⟨by rfl, ?_⟩) (by assumption) ?_
        rotate_left
        · intro w hSw; (try dsimp only at hSw); go_simp <;> with_reducible rfl
        try simp only [Act.put, List.getElem_toArray, List.getElem_cons_zero, List.getElem_cons_succ, List.setIfInBounds_toArray, List.set_cons_zero, List.set_cons_succ]
        refine wpAnyH_take (i := 9) (v := ?_) rfl (by kernel_rfl) (by kernel_rfl) (by kernel_rfl) (fun _ _ _ h => h) (Or.inl ⟨by rfl, ?_⟩) (by assumption) ?_
        rotate_left
        · intro w hSw; (try dsimp only at hSw); go_simp <;> with_reducible rfl
        try simp only [Act.put, List.getElem_toArray, List.getElem_cons_zero, List.getElem_cons_succ, List.setIfInBounds_toArray, List.set_cons_zero, List.set_cons_succ]
        refine wpAnyH_take (i := 10) (v := ?_) rfl (by kernel_rfl) (by kernel_rfl) (by kernel_rfl) (fun _ _ _ h => h) (Or.inl ⟨by rfl, ?_⟩) (by assumption) ?_
        rotate_left
        · intro w hSw; (try dsimp only at hSw); go_simp <;> with_reducible rfl
        try simp only [Act.put, List.getElem_toArray, List.getElem_cons_zero, List.getElem_cons_succ, List.setIfInBounds_toArray, List.set_cons_zero, List.set_cons_succ]
        refine wpAnyH_take (i := 11) (v := ?_) rfl (by kernel_rfl) (by kernel_rfl) (by kernel_rfl) (fun _ _ _ h => h) (Or.inl ⟨by rfl, ?_⟩) (by assumption) ?_
        rotate_left
        · intro w hSw; (try dsimp only at hSw); go_simp <;> with_reducible rfl
        try simp only [Act.put, List.getElem_toArray, List.getElem_cons_zero, List.getElem_cons_succ, List.setIfInBounds_toArray, List.set_cons_zero, List.set_cons_succ]
        refine wpAnyH_take (i := 12) (v := ?_) rfl (by kernel_rfl) (by kernel_rfl) (by kernel_rfl) (fun _ _ _ h => h) (Or.inl ⟨by rfl, ?_⟩) (by assumption) ?_
        rotate_left
        · intro w hSw; (try dsimp only at hSw); go_simp <;> with_reducible rfl
        try simp only [Act.put, List.getElem_toArray, List.getElem_cons_zero, List.getElem_cons_succ, List.setIfInBounds_toArray, List.set_cons_zero, List.set_cons_succ]
        refine wpAnyH_take (i := 13) (v := ?_) rfl (by kernel_rfl) (by kernel_rfl) (by kernel_rfl) (fun _ _ _ h => h) (Or.inl ⟨by rfl, ?_⟩) (by assumption) ?_
        rotate_left
        · intro w hSw; (try dsimp only at hSw); go_simp <;> with_reducible rfl
        try simp only [Act.put, List.getElem_toArray, List.getElem_cons_zero, List.getElem_cons_succ, List.setIfInBounds_toArray, List.set_cons_zero, List.set_cons_succ]
        refine wpAnyH_done (by kernel_rfl) ?_ _
        obtain ⟨hul, hrl⟩ := hlen.out (u, r) rfl
        dsimp only at hul hrl hle2
        have hul' := hid hul
        have kw2 := kd.trans k2 (by simp)
        have hu64 : u.length ≤ 64 := by omega
        have hu1 : 0 < u.length := by omega
        clear hul hlen hcU hS hHeld
        have cP := cPlaceWidth u.length hu1 (by omega) w2
        have hwb := bitLen_le64 (u.length - 1)
        try dsimp only at hF
        try dsimp only at hrow2'
        try dsimp only at hsr2'
        obtain ⟨wd9, hwd9⟩ : ∃ q, Hid (Lib.bitLen (u.length - 1) = q) := ⟨_, rfl⟩
        rw [hwd9.out] at hF cP hwb
        have cU := cUnpack b2 e2 r many wd9 w2 (hsr2'.out.kept k2 (by simp)) (by omega) hmn hwb
        have hlen2 := hid (fun ns (h : upkO r many wd9 = some ns) => (upkO_len h).1)
        obtain ⟨U2, hU2⟩ : ∃ U2, Hid (upkO r many wd9 = U2) := ⟨_, rfl⟩
        rw [hU2.out] at hF cU hlen2
        clear hsr2' hU2 hwd9
        go_wp2_with fail
        refine cP.mono ?_
        rintro e w9 ⟨rfl, hw9⟩
        rw [hw9]
        clear hw9 w9 cP
        go_wp2_with fail
        cases U2 with
        | none =>
          refine cU.mono ?_
          rintro e w3 ⟨rfl, k3⟩
          have hfin : TkL w (okV F) (.returned (.tuple #[.slice none 0 0, .bool false])) w3 := by rw [hF.out]; exact tkL_none w w3 (kw2.trans k3 (by simp))
          clear hF cU
          go_wp2_with fail
          go_ret2
          exact hfin
        | some ns =>
          refine cU.mono ?_
          rintro e w3 ⟨a3, c3, rfl, hrow3, k3, hn3⟩
          have hnl := hlen2.out ns rfl
          subst hnl
          have kw3 := kw2.trans k3 (by simp)
          have hsn : Hid (∀ W, Kp [] w3 W → U64E.See W a3 ns) := fun W kW => by
            obtain ⟨_, _, e, h1, _⟩ := hrow3.see
            injection e with e1 e2 e3
            rw [e1]
            exact h1.keptNew kW
          have hsu : Hid (∀ W, Kp [] w3 W → Vals W a2 u) := fun W kW => by
            obtain ⟨_, _, e, h1, _⟩ := hrow2'.out.see
            injection e with e1 e2 e3
            rw [e1]
            exact seeV.1 (h1.keptNew (k3.trans kW (by simp)))
          obtain ⟨W1, hmk, hrow1, k1, hs1⟩ := run_makeG (E := VE) (P := Tryz.prog) w3 23 38 i0 _ nv 40 Tryz.underlying23 hi hz0 hz1 hz2 rfl .i64 .i64 ns.length (by omega) (by unfold maxLen; omega)
          obtain ⟨f, hf⟩ : ∃ f : Nat → Val, Hid ((fun p => u.getD p nv) = f) := ⟨_, rfl⟩
          have hfa : Hid (∀ p (h : p < u.length), f p = u[p]) := fun p h => by rw [← hf.out]; simp [h]
          have hF2 : Hid (F = if ns.all (fun p => decide (p < u.length)) = true then some (ns.map f) else none) := by show _ = _; rw [hF.out, ← hf.out]
          have R0 : Hid (VE.Row W1 (.slice (some ⟨w3.heap.size, 0, none⟩) ns.length ns.length) (mapTo f ns ns.length 0)) := by show VE.Row _ _ _; simpa [mapTo] using hrow1
          clear hF hrow2' hrow1 hf hlen2 hn2 hbe cU hrow3 hn3
          go_wp2_with fail
          go_loopw [57] (fun i wn => ∃ j : Nat, j ≤ ns.length ∧ i = .int .i64 j ∧ Hid ((ns.take j).all (fun p => decide (p < u.length)) = true) ∧ VE.Row wn (.slice (some ⟨w3.heap.size, 0, none⟩) ns.length ns.length) (mapTo f ns ns.length j) ∧ Kp [] w3 wn) (fun i _ => ns.length - (intOf i).toNat)
          case atStart => exact ⟨0, Nat.zero_le _, rfl, by show _ = _; simp, R0.out, k1⟩
          case round =>
            clear hmk R0 k1 hs1
            obtain ⟨j, hj, rfl, hall, hrow, kn⟩ := hrel
            by_cases hlt : j < ns.length
            · obtain ⟨g2, o2, rfl, hcn⟩ := u64At (hsn.out wr kn) j hlt
              by_cases hpu : ns[j] < u.length
              · have hset := rowSetV hrow j (by rw [mapTo_len _ _ _ (by omega)]; exact hlt) (f ns[j])
                have hcl := rowCellsV hrow j (by rw [mapTo_len _ _ _ (by omega)]; exact hlt)
                rw [mapTo_set f ns j hlt] at hset
                have hall' : Hid ((ns.take (j + 1)).all (fun p => decide (p < u.length)) = true) := all_take hall.out hlt (by simpa using hpu)
                obtain ⟨g3, o3, rfl, y0, y1, y2, y3⟩ := (hsu.out wr kn).at ns[j] hpu
                have hfj := hfa.out ns[j] hpu
                rw [hfj] at hset
                generalize ns[j] = m at *
                generalize u[m] = v at *
                obtain ⟨⟨u0, c0⟩, f0⟩ := hcl 0 (by omega)
                obtain ⟨⟨u1, c1⟩, f1⟩ := hcl 1 (by omega)
                obtain ⟨⟨u2, c2'⟩, f2⟩ := hcl 2 (by omega)
                obtain ⟨⟨u3, c3⟩, f3⟩ := hcl 3 (by omega)
                rw [Nat.add_zero] at c0 f0
                have kset := kpSet4 (i := j) kn (Nat.le_refl _) (.int .i64 v.k) (.bool v.b) (.int .i64 v.n) (.string v.t)
                have hs3 := hid hset
                have ks3 := hid kset
                have e1 : ¬ (u.length : Int) ≤ (m : Int) := by omega
                have e2 : ¬ u.length ≤ m := by omega
                obtain ⟨vk, vb, vn, vt⟩ := v
                dsimp only at *
                clear hset kset hcl hfj hrow hall
                go_wp2_with fail
                exact ⟨⟨j + 1, by omega, by go_num, hall', hs3.out, ks3.out⟩, by simp [intOf]; omega⟩
              · have hfin : TkL w (okV F) (.returned (.tuple #[.slice none 0 0, .bool false])) wr := by
                  rw [hF2.out, all_false hlt (by simpa using hpu)]
                  exact tkL_none w wr (kw3.trans kn (by simp))
                generalize ns[j] = m at *
                have e1 : (u.length : Int) ≤ (m : Int) := by omega
                have e2 : u.length ≤ m := by omega
                clear hrow hF2 hall
                go_wp2_with fail
                go_ret2
                exact hfin
            · obtain rfl : j = ns.length := by omega
              rw [mapTo_all] at hrow
              rw [List.take_length] at hall
              have hml : (ns.map f).length = ns.length := by simp
              have hP : TkL w (okV F) (.returned (.tuple #[.slice (some ⟨w3.heap.size, 0, none⟩) ns.length ns.length, .bool true])) wr := by
                rw [hF2.out, if_pos hall.out]
                exact ⟨some ⟨w3.heap.size, 0, none⟩, ns.length, by simp [okV], by show VE.Row _ (.slice _ (ns.map f).length _) _; rw [hml]; exact hrow, kw3.trans kn (by simp), fun k hk => by simp [blk] at hk; have := kw3.size; omega⟩
              clear hrow hF2 hall
              go_wp2_with fail
              go_ret2
              exact hP
end Go.Proofs.YtpekgpgfdiffcaaGreat
end

section
namespace Go.Proofs.YtpekgpgfdiffcaaGreat
open Go.RowKit Go.Hay
set_option linter.unusedVariables false
set_option linter.unusedSimpArgs false

set_option maxHeartbeats 4000000 in
theorem cTakeA (k : Int) (a : Option Addr) (c : Nat) (bs : List UInt8) (many : Nat) (w : World) (hs : Sees w a bs) (hl : bs.length ≤ c) (hm : c ≤ maxLen) (hb : bs.length ≤ 900000000000000) (hmn : many ≤ 64) :
    Calls Tryz.prog 9 #[.int .i64 k, .slice a bs.length c, .int .i64 many] w (TkL w (okV (tkA k many bs))) := by
  by_cases h0 : many = 0
  · subst h0
    have hF : Hid (tkA k 0 bs = some []) := by show _ = _; unfold tkA; rw [if_pos rfl]
    rw [hF.out]
    have hfin : TkL w (okV (some [])) (.returned (.tuple #[.slice none 0 0, .bool true])) w := ⟨none, 0, rfl, .inl ⟨rfl, rfl⟩, Kp.refl _ _, by simp [blk]⟩
    clear hs hm
    go_enter Tryz.func9, Tryz.ntmps9
    go_wp2_with fail
    go_ret2
    exact hfin
  · have d0 : ((many : Int) == 0) = false := by rw [beq_eq_false_iff_ne]; omega
    have hF : Hid (tkA k many bs = if k = 1 then tkR many [] bs else if k = 2 then tkDl many bs else if k = 3 then tkDc many bs else if k = 4 then tkBt many bs else (tkP many [] bs).map Prod.fst) := by show _ = _; unfold tkA; rw [if_neg h0]
    by_cases h1 : k = 1
    · subst h1
      rw [if_pos rfl] at hF
      rw [hF.out]
      exact cTake1 a c bs many w hs hl hm hb hmn (by omega)
    · rw [if_neg h1] at hF
      have e1 : (k == 1) = false := by rw [beq_eq_false_iff_ne]; exact h1
      by_cases h2 : k = 2
      · subst h2
        rw [if_pos rfl] at hF
        rw [hF.out]
        have hT := cTakeDelta a c bs many w hs hl hm hb hmn (by omega)
        obtain ⟨⟨L, B⟩, hR⟩ : ∃ R, Hid (okV (tkDl many bs) = R) := ⟨_, rfl⟩
        rw [hR.out] at hT ⊢
        clear hs hm hR hF
        go_enter Tryz.func9, Tryz.ntmps9
        go_wp2_with fail
        refine hT.mono ?_
        rintro e w1 ⟨a1, c1, rfl, hrow, k1, hn1⟩
        dsimp only at hrow
        have hrow' := hid hrow
        clear hrow hT
        go_wp2_with fail
        go_ret2
        exact ⟨a1, c1, rfl, hrow'.out, k1, hn1⟩
      · rw [if_neg h2] at hF
        have e2 : (k == 2) = false := by rw [beq_eq_false_iff_ne]; exact h2
        by_cases h3 : k = 3
        · subst h3
          rw [if_pos rfl] at hF
          rw [hF.out]
          have hT := cTakeDict a c bs many w hs hl hm hb hmn
          obtain ⟨⟨L, B⟩, hR⟩ : ∃ R, Hid (okV (tkDc many bs) = R) := ⟨_, rfl⟩
          rw [hR.out] at hT ⊢
          clear hs hm hR hF
          go_enter Tryz.func9, Tryz.ntmps9
          go_wp2_with fail
          refine hT.mono ?_
          rintro e w1 ⟨a1, c1, rfl, hrow, k1, hn1⟩
          dsimp only at hrow
          have hrow' := hid hrow
          clear hrow hT
          go_wp2_with fail
          go_ret2
          exact ⟨a1, c1, rfl, hrow'.out, k1, hn1⟩
        · rw [if_neg h3] at hF
          have e3 : (k == 3) = false := by rw [beq_eq_false_iff_ne]; exact h3
          by_cases h4 : k = 4
          · subst h4
            rw [if_pos rfl] at hF
            rw [hF.out]
            have hT := cTakeBits a c bs many w hs hl hm hb hmn
            obtain ⟨⟨L, B⟩, hR⟩ : ∃ R, Hid (okV (tkBt many bs) = R) := ⟨_, rfl⟩
            rw [hR.out] at hT ⊢
            clear hs hm hR hF
            go_enter Tryz.func9, Tryz.ntmps9
            go_wp2_with fail
            refine hT.mono ?_
            rintro e w1 ⟨a1, c1, rfl, hrow, k1, hn1⟩
            dsimp only at hrow
            have hrow' := hid hrow
            clear hrow hT
            go_wp2_with fail
            go_ret2
            exact ⟨a1, c1, rfl, hrow'.out, k1, hn1⟩
          · rw [if_neg h4] at hF
            have e4 : (k == 4) = false := by rw [beq_eq_false_iff_ne]; exact h4
            rw [hF.out]
            have hT := cTakePlain a c bs many w hs hl hm hb (by omega)
            obtain ⟨R, hR⟩ : ∃ R, Hid (tkP many [] bs = R) := ⟨_, rfl⟩
            rw [hR.out] at hT ⊢
            clear hs hm hR hF
            cases R with
            | none =>
              have hfin := fun W (k : Kp [] w W) => tkL_none w W k
              go_enter Tryz.func9, Tryz.ntmps9
              go_wp2_with fail
              refine hT.mono ?_
              rintro e w1 ⟨rfl, k1⟩
              have hf := hfin w1 k1
              clear hfin hT
              go_wp2_with fail
              go_ret2
              exact hf
            | some q =>
              go_enter Tryz.func9, Tryz.ntmps9
              go_wp2_with fail
              refine hT.mono ?_
              rintro e w1 ⟨a1, c1, b1, d1, rfl, hrow, _, _, _, k1, hn1⟩
              have hfin : TkL w (okV (Option.map Prod.fst (some q))) (.returned (.tuple #[.slice a1 q.1.length c1, .bool true])) w1 := ⟨a1, c1, rfl, hrow, k1, hn1⟩
              clear hrow hT hn1
              go_wp2_with fail
              go_ret2
              exact hfin
/-- What Decode tells. -/
def decA (k : Int) (bs : List UInt8) (many : Nat) : List Val × Int := if knownB k = false then ([], 62) else if 64 < many then ([], 61) else decE k bs many (okV (tkA k many bs))
theorem decP_err (w : World) (n : Int) : DecP w ([], n) (.returned (.tuple #[.slice none 0 0, .int .i64 n])) w := ⟨none, 0, rfl, .inl ⟨rfl, rfl⟩, Kp.refl _ _, by simp [blk]⟩
set_option maxHeartbeats 2000000 in
theorem cDecA (k : Int) (a : Option Addr) (c : Nat) (bs : List UInt8) (many : Nat) (w : World) (hs : Sees w a bs) (hl : bs.length ≤ c) (hm : c ≤ maxLen) (hb : bs.length ≤ 900000000000000) (hmn : many ≤ 9223372036854775807) :
    Calls Tryz.prog 4 #[.int .i64 k, .slice a bs.length c, .int .i64 many] w (DecP w (decA k bs many)) := by
  have cK := cKnown k w
  unfold decA
  by_cases hk : knownB k = false
  · rw [hk] at cK
    rw [if_pos hk]
    have hfin := decP_err w 62
    clear hs hm hk
    go_enter Tryz.func4, Tryz.ntmps4
    go_wp2_with fail
    refine cK.mono ?_
    rintro e w9 ⟨rfl, hw9⟩
    rw [hw9]
    clear hw9 w9 cK
    go_wp2_with fail
    go_ret2
    exact hfin
  · have hk' : knownB k = true := by simpa using hk
    rw [if_neg hk]
    by_cases h64 : 64 < many
    · rw [if_pos h64]
      rw [hk'] at cK
      have hfin := decP_err w 61
      have d0 : ¬ (many : Int) < 0 := by omega
      have d1 : (64 : Int) < (many : Int) := by omega
      clear hs hm hk hk'
      go_enter Tryz.func4, Tryz.ntmps4
      go_wp2_with fail
      refine cK.mono ?_
      rintro e w9 ⟨rfl, hw9⟩
      rw [hw9]
      clear hw9 w9 cK
      go_wp2_with fail
      go_ret2
      exact hfin
    · rw [if_neg h64]
      exact cDecE k a c bs many _ w hk' hs (by omega) (cTakeA k a c bs many w hs hl hm hb (by omega))
end Go.Proofs.YtpekgpgfdiffcaaGreat
end

section
namespace Go.Proofs.YtpekgpgfdiffcaaGreat
open Go.RowKit Go.Hay
set_option linter.unusedVariables false
set_option linter.unusedSimpArgs false

/-- The bytes behind so many values. -/
def skP : Nat → List UInt8 → List UInt8
  | 0, bs => bs
  | n + 1, bs => skP n (bs.drop (vsz bs))
theorem skP_put : ∀ (l : List Val) (s : List UInt8), allR l = true → skP l.length (l.flatMap rowB ++ s) = s
  | [], s, _ => by simp [skP]
  | x :: l, s, h => by
    have hx : x.right = true := by simp [allR] at h; exact h.1
    have hl : allR l = true := by simp [allR] at h ⊢; exact h.2
    rw [List.flatMap_cons, List.append_assoc, List.length_cons, skP, vsz_rowB x hx, List.drop_left, skP_put l s hl]
def skR : Nat → Nat → List UInt8 → List UInt8
  | 0, _, bs => bs
  | f + 1, left, bs => if left = 0 then bs else match bs with
    | [] => []
    | c :: r => skR f (left - c.toNat) (r.drop (vsz r))
theorem skR_put : ∀ (R : List Rn) (s : List UInt8) (f : Nat), (∀ r ∈ R, r.v.right = true ∧ 0 < r.m ∧ r.m < 256) → R.length ≤ f → skR f (R.map Rn.m).sum (R.flatMap runB ++ s) = s
  | [], s, f, _, _ => by
    cases f with
    | zero => simp [skR]
    | succ f => simp [skR]
  | r :: R, s, 0, _, h => by simp at h
  | r :: R, s, f + 1, h, hf => by
    obtain ⟨h1, h2, h3⟩ := h r (by simp)
    have e : (r :: R).flatMap runB ++ s = octet r.m :: (rowB r.v ++ (R.flatMap runB ++ s)) := by simp [runB]
    rw [e, skR, if_neg (by simp; omega)]
    rw [vsz_rowB r.v h1, List.drop_left, octet_nat r.m h3]
    have e2 : ((r :: R).map Rn.m).sum - r.m = (R.map Rn.m).sum := by simp
    rw [e2, skR_put R s f (fun r' hr' => h r' (by simp [hr'])) (by simp at hf; omega)]
def skD : Nat → List UInt8 → List UInt8
  | 0, bs => bs
  | n + 1, bs => skD n (bs.drop (tkG 0 0 bs).2)
theorem skD_put : ∀ (r : List Val) (x : Val) (s : List UInt8), skD r.length (dltL x r ++ s) = s
  | [], x, s => by simp [skD, dltL]
  | y :: r, x, s => by
    have hw := wrap64_bd (y.n - x.n)
    rw [dltL, List.append_assoc, List.length_cons, skD, tkG_zig _ hw.1 hw.2]
    simp only
    rw [List.drop_left, skD_put r y s]
theorem octet_inj {a b : Nat} (ha : a < 256) (hb : b < 256) (h : octet a = octet b) : a = b := by
  rw [← octet_nat a ha, ← octet_nat b hb, h]
/-- No encoding is another one's beginning, of as many values. -/
theorem pre_free (k : Int) (l m : List Val) (s : List UInt8) (hl : refE k l = 0) (hm : refE k m = 0) (hn : l.length = m.length) (h0 : 0 < l.length) (h : putB k l = putB k m ++ s) : s = [] := by
  obtain ⟨_, hl64, hla⟩ := refE_ok hl
  obtain ⟨_, hm64, hma⟩ := refE_ok hm
  have hm0 : 0 < m.length := by omega
  unfold putB at h
  by_cases h1 : k = 1
  · rw [if_pos h1, if_pos h1] at h
    have hr : ∀ l : List Val, allR l = true → l.length ≤ 64 → ∀ s, skR 64 l.length ((runsV l).flatMap runB ++ s) = s := fun l ha h64 s => by
      obtain ⟨q1, q2, q3⟩ := runsV_flat l
      have := skR_put (runsV l) s 64 (fun r hr => by
        have h3 := runsV_in r hr
        exact ⟨List.all_eq_true.1 ha _ h3.1, q2 r hr, by omega⟩) (by have := runsV_len l; omega)
      rw [q3] at this
      exact this
    have e1 := hr l hla hl64 []
    have e2 := hr m hma hm64 s
    rw [List.append_nil, h, hn] at e1
    rw [← e2, e1]
  · rw [if_neg h1, if_neg h1] at h
    by_cases h2 : k = 2
    · rw [if_pos h2, if_pos h2] at h
      have hd : ∀ l : List Val, 0 < l.length → ∀ s, skD (l.length - 1) ((deltaB l ++ s).drop 8) = s := fun l h0 s => by
        cases l with
        | nil => simp at h0
        | cons x r =>
          have e : deltaB (x :: r) ++ s = be (u64 x.n) 8 ++ (dltL x r ++ s) := by
            unfold deltaB
            rw [List.length_cons, Nat.add_sub_cancel, dltL_eq]
            simp
          rw [e, List.drop_left' (be_length _ _), List.length_cons, Nat.add_sub_cancel, skD_put]
      have e1 := hd l h0 []
      have e2 := hd m hm0 s
      rw [List.append_nil, h, hn] at e1
      rw [← e2, e1]
    · rw [if_neg h2, if_neg h2] at h
      by_cases h3 : k = 3
      · rw [if_pos h3, if_pos h3] at h
        unfold dictB at h
        simp only [List.cons_append, List.nil_append, List.append_assoc, List.cons.injEq] at h
        obtain ⟨ho, ht⟩ := h
        have u1 := uniq_len l
        have u2 := uniq_len m
        have hu : (uniq l).length = (uniq m).length := octet_inj (by omega) (by omega) ho
        have e1 := skP_put (uniq l) (packB (plcs (uniq l) l l.length) (Lib.bitLen ((uniq l).length - 1))) (uniq_right l hla)
        have e2 := skP_put (uniq m) (packB (plcs (uniq m) m m.length) (Lib.bitLen ((uniq m).length - 1)) ++ s) (uniq_right m hma)
        rw [ht, hu, e2] at e1
        have e3 := congrArg List.length e1
        rw [List.length_append, packB_length, packB_length, plcs_length, plcs_length, hn] at e3
        exact List.eq_nil_of_length_eq_zero (by omega)
      · rw [if_neg h3, if_neg h3] at h
        by_cases h4 : k = 4
        · rw [if_pos h4, if_pos h4] at h
          unfold bitsB at h
          have w1 := wdt_le l (leastTo l l.length) l.length
          have w2 := wdt_le m (leastTo m m.length) m.length
          have h8 := congrArg (fun q => q.drop 8) h
          simp only [List.append_assoc] at h8
          rw [List.drop_left' (be_length _ _), List.drop_left' (be_length _ _)] at h8
          simp only [List.cons_append, List.nil_append, List.cons.injEq] at h8
          obtain ⟨ho, ht⟩ := h8
          have hw := octet_inj (by omega) (by omega) ho
          have e3 := congrArg List.length ht
          rw [List.length_append, packB_length, packB_length, abvs_length, abvs_length, hw, hn] at e3
          exact List.eq_nil_of_length_eq_zero (by omega)
        · rw [if_neg h4, if_neg h4] at h
          have e1 := skP_put l [] hla
          have e2 := skP_put m s hma
          rw [List.append_nil, h, hn, e2] at e1
          exact e1
end Go.Proofs.YtpekgpgfdiffcaaGreat
end

section
namespace Go.Proofs.YtpekgpgfdiffcaaGreat
open Go.RowKit Go.Hay
set_option linter.unusedVariables false
set_option linter.unusedSimpArgs false

theorem packB_le (ns : List Nat) (wd : Nat) (h1 : ns.length ≤ 64) (h2 : wd ≤ 64) : (packB ns wd).length ≤ 513 := by
  rw [packB_length]
  have : ns.length * wd ≤ 64 * 64 := Nat.mul_le_mul h1 h2
  omega
theorem encR_len (k : Int) (l : List Val) : (encR k l).length ≤ 10000 := by
  unfold encR
  split
  · rename_i h
    obtain ⟨_, h64, ha⟩ := refE_ok h.1
    have hp := flat_length (f := rowB) (m := 66) (fun x hx => rowB_length hx) l ha
    unfold putB
    split
    · have h1 := flatRun_len (R := runsV l) (fun r hr => List.all_eq_true.1 ha _ (runsV_in r hr).1)
      have := runsV_len l
      omega
    · split
      · unfold deltaB
        have := dlt_len l (l.length - 1)
        rw [List.length_append, be_length]
        omega
      · split
        · unfold dictB
          have h1 := flat_length (f := rowB) (m := 66) (fun x hx => rowB_length hx) (uniq l) (uniq_right l ha)
          have h2 := uniq_len l
          have h3 := packB_le (plcs (uniq l) l l.length) (Lib.bitLen ((uniq l).length - 1)) (by rw [plcs_length]; exact h64) (bitLen_le64 _)
          rw [List.length_append, List.length_append]
          simp only [List.length_cons, List.length_nil]
          omega
        · split
          · unfold bitsB
            have h3 := packB_le (abvs l (leastTo l l.length) l.length) (wdt l (leastTo l l.length) l.length) (by rw [abvs_length]; exact h64) (wdt_le _ _ _)
            rw [List.length_append, List.length_append, be_length]
            simp only [List.length_cons, List.length_nil]
            omega
          · omega
  · simp
theorem encR_put {k : Int} {l : List Val} (h : refE k l = 0) (h0 : 0 < l.length) : encR k l = putB k l := by unfold encR; rw [if_pos ⟨h, h0⟩]
theorem encR_none {k : Int} {l : List Val} (h : l.length = 0) : encR k l = [] := by unfold encR; rw [if_neg (by omega)]
/-- Bytes that are no encoding of so many values are refused. -/
theorem decA_no (k : Int) (bs : List UInt8) (l : List Val) (hr : refE k l = 0) (h : ∀ m, refE k m = 0 → m.length = l.length → encR k m ≠ bs) : decA k bs l.length = ([], 60) := by
  obtain ⟨h1, h64, _⟩ := refE_ok hr
  unfold decA decE
  rw [if_neg (by simp [h1]), if_neg (by omega), if_neg (fun hc => h _ hc.2.2.1 hc.2.1 hc.2.2.2)]
theorem cut_no (k : Int) (l : List Val) (n : Nat) (hr : refE k l = 0) (h0 : 0 < l.length) (hn : n < (encR k l).length) : decA k ((encR k l).take n) l.length = ([], 60) := by
  refine decA_no k _ l hr (fun m hm hl he => ?_)
  rw [encR_put hm (by omega), encR_put hr h0] at he
  rw [encR_put hr h0] at hn
  have := pre_free k l m ((putB k l).drop n) hr hm hl.symm h0 (by rw [he, List.take_append_drop])
  have h2 := congrArg List.length this
  simp at h2
  omega
theorem more_no (k : Int) (l : List Val) (x : UInt8) (hr : refE k l = 0) (h0 : 0 < l.length) : decA k (encR k l ++ [x]) l.length = ([], 60) := by
  refine decA_no k _ l hr (fun m hm hl he => ?_)
  rw [encR_put hm (by omega), encR_put hr h0] at he
  have := pre_free k m l [x] hm hr hl (by omega) he
  cases this
end Go.Proofs.YtpekgpgfdiffcaaGreat
end

section
namespace Go.Proofs.YtpekgpgfdiffcaaGreat
open Go.RowKit Go.Hay
set_option linter.unusedVariables false
set_option linter.unusedSimpArgs false

set_option maxHeartbeats 8000000 in
set_option maxRecDepth 100000 in
theorem cRefRefusedE (k : Int) (a : Option Addr) (ca : Nat) (l : List Val) (w : World) (ha : Vals w a l) (hl : l.length ≤ 9223372036854775807) :
    Calls Tryz.prog 30 #[.int .i64 k, .slice a l.length ca] w fun e w' => e = .returned (.int .i64 (refE k l)) ∧ Kp [] w w' := by
  obtain ⟨F, hF⟩ : ∃ F, Hid (refE k l = F) := ⟨_, rfl⟩
  rw [hF.out]
  have ha' := hid ha
  clear ha
  by_cases h0 : k < 0
  · have hF2 : Hid (F = 62) := by show _ = _; rw [← hF.out]; unfold refE knownB; rw [if_pos (by simp; omega)]
    go_enter Tryz.func30, Tryz.ntmps30
    go_wp2_with fail
    go_ret
    exact ⟨by rw [hF2.out]; rfl, Kp.refl _ _⟩
  by_cases h4 : 4 < k
  · have hF2 : Hid (F = 62) := by show _ = _; rw [← hF.out]; unfold refE knownB; rw [if_pos (by simp; omega)]
    go_enter Tryz.func30, Tryz.ntmps30
    go_wp2_with fail
    go_ret
    exact ⟨by rw [hF2.out]; rfl, Kp.refl _ _⟩
  have hkn : Hid (knownB k = true) := by show _ = _; unfold knownB; simp; omega
  by_cases h64 : 64 < l.length
  · have hF2 : Hid (F = 61) := by show _ = _; rw [← hF.out]; unfold refE; rw [hkn.out, if_neg (by simp), if_pos h64]
    have d1 : (64 : Int) < (l.length : Int) := by omega
    go_enter Tryz.func30, Tryz.ntmps30
    go_wp2_with fail
    go_ret
    exact ⟨by rw [hF2.out]; rfl, Kp.refl _ _⟩
  have d1 : ¬ (64 : Int) < (l.length : Int) := by omega
  go_enter Tryz.func30, Tryz.ntmps30
  go_wp2_with fail
  go_loopw [5] (fun i wn => ∃ j : Nat, j ≤ l.length ∧ i = .int .i64 j ∧ Hid ((l.take j).all Val.right = true) ∧ Kp [] w wn) (fun i _ => l.length - (intOf i).toNat)
  case atStart => exact ⟨0, Nat.zero_le _, rfl, by show _ = _; simp, Kp.refl _ _⟩
  case round =>
    obtain ⟨j, hj, rfl, hall, kn⟩ := hrel
    by_cases hlt : j < l.length
    · obtain ⟨g, o, rfl, a0, a1, a2, a3⟩ := (ha'.out.kept kn).at j hlt
      obtain ⟨x, hx⟩ : ∃ x, Hid (l[j]'hlt = x) := ⟨_, rfl⟩
      rw [hx.out] at a0 a1 a2 a3
      have cR := cRefRight x wr
      by_cases hr : x.right = true
      · have hall2 : Hid ((l.take (j + 1)).all Val.right = true) := all_take hall.out hlt (by rw [hx.out]; exact hr)
        rw [hr] at cR
        unfold Val.v at cR
        obtain ⟨xk, xb, xn, xt⟩ := x
        dsimp only at *
        clear hall hr
        go_wp2_with fail
        refine cR.mono ?_
        rintro e w1 ⟨rfl, k1⟩
        go_wp2_with fail
        exact ⟨⟨j + 1, by omega, by go_num, hall2, kn.trans k1 (by simp)⟩, by simp [intOf]; omega⟩
      · have hr' : x.right = false := by simpa using hr
        have hF2 : Hid (F = 60) := by
          show _ = _
          have e1 : allR l = false := all_false hlt (by rw [hx.out]; exact hr')
          rw [← hF.out]
          unfold refE
          rw [hkn.out, e1, if_neg (by simp), if_neg h64, if_pos rfl]
        rw [hr'] at cR
        unfold Val.v at cR
        obtain ⟨xk, xb, xn, xt⟩ := x
        dsimp only at *
        clear hall hr hr'
        go_wp2_with fail
        refine cR.mono ?_
        rintro e w1 ⟨rfl, k1⟩
        go_wp2_with fail
        go_ret
        exact ⟨by rw [hF2.out]; rfl, kn.trans k1 (by simp)⟩
    · obtain rfl : j = l.length := by omega
      rw [List.take_length] at hall
      have harr : Hid (allR l = true) := hall
      clear hall
      by_cases h2k : k = 2
      · subst h2k
        go_wp2_with fail
        go_loopw [7] (fun i wn => ∃ j : Nat, j ≤ l.length ∧ i = .int .i64 j ∧ Hid ((l.take j).all (fun x => x.k == 2) = true) ∧ Kp [] w wn) (fun i _ => l.length - (intOf i).toNat)
        case atStart => exact ⟨0, Nat.zero_le _, rfl, by show _ = _; simp, kn⟩
        case round =>
          clear kn
          obtain ⟨j, hj, rfl, hall, kn⟩ := hrel
          by_cases hlt : j < l.length
          · obtain ⟨g, o, rfl, a0, _⟩ := (ha'.out.kept kn).at j hlt
            obtain ⟨x, hx⟩ : ∃ x, Hid (l[j]'hlt = x) := ⟨_, rfl⟩
            rw [hx.out] at a0
            by_cases hk2 : x.k = 2
            · have hall2 : Hid ((l.take (j + 1)).all (fun x => x.k == 2) = true) := all_take hall.out hlt (by rw [hx.out]; simp [hk2])
              rw [hk2] at a0
              clear hall
              go_wp2_with fail
              exact ⟨⟨j + 1, by omega, by go_num, hall2, kn⟩, by simp [intOf]; omega⟩
            · have hF2 : Hid (F = 62) := by
                show _ = _
                have e1 : allI l = false := all_false hlt (by rw [hx.out]; simp [hk2])
                rw [← hF.out]
                unfold refE
                rw [hkn.out, harr.out, e1, if_neg (by simp), if_neg h64, if_neg (by simp)]
                rfl
              obtain ⟨y, hy⟩ : ∃ y, Hid (x.k = y) := ⟨_, rfl⟩
              rw [hy.out] at a0 hk2
              have d1 : (y != 2) = true := by simpa using hk2
              have d2 : (y == 2) = false := by simpa using hk2
              clear hall
              go_wp2_with fail
              go_ret
              exact ⟨by rw [hF2.out]; rfl, kn⟩
          · obtain rfl : j = l.length := by omega
            rw [List.take_length] at hall
            have hF2 : Hid (F = 0) := by
              show _ = _
              have e1 : allI l = true := hall.out
              rw [← hF.out]
              unfold refE
              rw [hkn.out, harr.out, e1, if_neg (by simp), if_neg h64, if_neg (by simp)]
              rfl
            go_wp2_with fail
            go_ret
            exact ⟨by rw [hF2.out]; rfl, kn⟩
      · by_cases h4k : k = 4
        · subst h4k
          go_wp2_with fail
          go_loopw [7] (fun i wn => ∃ j : Nat, j ≤ l.length ∧ i = .int .i64 j ∧ Hid ((l.take j).all (fun x => x.k == 2) = true) ∧ Kp [] w wn) (fun i _ => l.length - (intOf i).toNat)
          case atStart => exact ⟨0, Nat.zero_le _, rfl, by show _ = _; simp, kn⟩
          case round =>
            clear kn
            obtain ⟨j, hj, rfl, hall, kn⟩ := hrel
            by_cases hlt : j < l.length
            · obtain ⟨g, o, rfl, a0, _⟩ := (ha'.out.kept kn).at j hlt
              obtain ⟨x, hx⟩ : ∃ x, Hid (l[j]'hlt = x) := ⟨_, rfl⟩
              rw [hx.out] at a0
              by_cases hk2 : x.k = 2
              · have hall2 : Hid ((l.take (j + 1)).all (fun x => x.k == 2) = true) := all_take hall.out hlt (by rw [hx.out]; simp [hk2])
                rw [hk2] at a0
                clear hall
                go_wp2_with fail
                exact ⟨⟨j + 1, by omega, by go_num, hall2, kn⟩, by simp [intOf]; omega⟩
              · have hF2 : Hid (F = 62) := by
                  show _ = _
                  have e1 : allI l = false := all_false hlt (by rw [hx.out]; simp [hk2])
                  rw [← hF.out]
                  unfold refE
                  rw [hkn.out, harr.out, e1, if_neg (by simp), if_neg h64, if_neg (by simp)]
                  rfl
                obtain ⟨y, hy⟩ : ∃ y, Hid (x.k = y) := ⟨_, rfl⟩
                rw [hy.out] at a0 hk2
                have d1 : (y != 2) = true := by simpa using hk2
                have d2 : (y == 2) = false := by simpa using hk2
                clear hall
                go_wp2_with fail
                go_ret
                exact ⟨by rw [hF2.out]; rfl, kn⟩
            · obtain rfl : j = l.length := by omega
              rw [List.take_length] at hall
              have hF2 : Hid (F = 0) := by
                show _ = _
                have e1 : allI l = true := hall.out
                rw [← hF.out]
                unfold refE
                rw [hkn.out, harr.out, e1, if_neg (by simp), if_neg h64, if_neg (by simp)]
                rfl
              go_wp2_with fail
              go_ret
              exact ⟨by rw [hF2.out]; rfl, kn⟩
        · have d2k : (k == 2) = false := by rw [beq_eq_false_iff_ne]; exact h2k
          have d4k : (k == 4) = false := by rw [beq_eq_false_iff_ne]; exact h4k
          go_wp2_with fail
          go_loopw [7] (fun i wn => ∃ j : Nat, j ≤ l.length ∧ i = .int .i64 j ∧ Kp [] w wn) (fun i _ => l.length - (intOf i).toNat)
          case atStart => exact ⟨0, Nat.zero_le _, rfl, kn⟩
          case round =>
            clear kn
            obtain ⟨j, hj, rfl, kn⟩ := hrel
            by_cases hlt : j < l.length
            · go_wp2_with fail
              exact ⟨⟨j + 1, by omega, by go_num, kn⟩, by simp [intOf]; omega⟩
            · obtain rfl : j = l.length := by omega
              have hF2 : Hid (F = 0) := by
                show _ = _
                have e1 : ofI k = false := by unfold ofI; rw [d2k, d4k]; rfl
                rw [← hF.out]
                unfold refE
                rw [hkn.out, harr.out, e1, if_neg (by simp), if_neg h64, if_neg (by simp)]
                rfl
              go_wp2_with fail
              go_ret
              exact ⟨by rw [hF2.out]; rfl, kn⟩
theorem bitLenAux_more : ∀ (f x : Nat), x < 2 ^ f → Lib.bitLenAux (f + 1) x = Lib.bitLenAux f x
  | 0, x, h => by obtain rfl : x = 0 := by simpa using h
                  rfl
  | f + 1, x, h => by
    show (if x = 0 then 0 else 1 + Lib.bitLenAux (f + 1) (x / 2)) = (if x = 0 then 0 else 1 + Lib.bitLenAux f (x / 2))
    split
    · rfl
    · rw [bitLenAux_more f (x / 2) (by rw [Nat.pow_succ] at h; omega)]
theorem bitLen_half (x : Nat) (h : x < 18446744073709551616) (h0 : 0 < x) : Lib.bitLen x = Lib.bitLen (x / 2) + 1 := by
  show Lib.bitLenAux 64 x = Lib.bitLenAux 64 (x / 2) + 1
  rw [Lib.bitLenAux, if_neg (by omega), bitLenAux_more 63 (x / 2) (by omega), Nat.add_comm]
theorem cRefWidth (n : Nat) (w : World) (h : n < 18446744073709551616) : Calls Tryz.prog 28 #[.int .u64 (n : Int)] w fun e w' => e = .returned (.int .i64 (Lib.bitLen n)) ∧ w' = w := by
  obtain ⟨F, hF⟩ : ∃ F, Hid (Lib.bitLen n = F) := ⟨_, rfl⟩
  rw [hF.out]
  have hb := bitLen_le64 n
  rw [hF.out] at hb
  go_enter Tryz.func28, Tryz.ntmps28
  go_wp2_with fail
  go_loopw [0, 3] (fun v0 v3 wn => ∃ m j : Nat, v0 = .int .u64 (m : Int) ∧ v3 = .int .i64 (j : Int) ∧ m < 18446744073709551616 ∧ Hid (j + Lib.bitLen m = F) ∧ wn = w) (fun v0 _ _ => (intOf v0).toNat)
  case atStart => exact ⟨n, 0, rfl, rfl, h, by show _ = _; rw [Nat.zero_add]; exact hF.out, rfl⟩
  case round =>
    obtain ⟨m, j, rfl, rfl, hm, hj, rfl⟩ := hrel
    by_cases h0 : 0 < m
    · have hj2 : Hid (j + 1 + Lib.bitLen (m / 2) = F) := by show _ = _; rw [← hj.out, bitLen_half m hm h0]; omega
      have hjb : j ≤ 64 := by have := hj.out; omega
      have d1 : (0 : Int) < (m : Int) := by omega
      go_wp2_with fail
      exact ⟨⟨m / 2, j + 1, by go_num, by go_num, by omega, hj2, trivial⟩, by simp [intOf]; omega⟩
    · obtain rfl : m = 0 := by omega
      have hjF : Hid (F = j) := by show _ = _; rw [← hj.out]; rfl
      go_wp2_with fail
      go_ret
      exact ⟨by rw [hjF.out]; rfl, rfl⟩
end Go.Proofs.YtpekgpgfdiffcaaGreat
end

section
namespace Go.Proofs.YtpekgpgfdiffcaaGreat
open Go.RowKit Go.Hay
set_option linter.unusedVariables false
set_option linter.unusedSimpArgs false

/-- The upper bits of a byte, from bit k on. -/
def hib (f : Nat → Nat) (q : Nat) : Nat → Nat
  | 0 => 0
  | m + 1 => f (8 * q + (7 - m)) + 2 * hib f q m
theorem hib_lt (f : Nat → Nat) (hf : ∀ p, f p < 2) (q : Nat) : ∀ m, hib f q m < 2 ^ m
  | 0 => by simp [hib]
  | m + 1 => by
    have h1 := hib_lt f hf q m
    have h2 := hf (8 * q + (7 - m))
    rw [hib, Nat.pow_succ]
    omega
theorem hib_acc (f : Nat → Nat) (q : Nat) : ∀ m, m ≤ 8 → acc f q (8 - m) + 2 ^ (8 - m) * hib f q m = acc f q 8
  | 0, _ => by simp [hib]
  | m + 1, h => by
    have ih := hib_acc f q m (by omega)
    have e : 8 - m = (8 - (m + 1)) + 1 := by omega
    rw [e, acc, Nat.pow_succ, show 8 - (m + 1) = 7 - m by omega] at ih
    rw [hib, show 8 - (m + 1) = 7 - m by omega, ← ih, Nat.mul_add]
    have e2 : 2 ^ (7 - m) * f (8 * q + (7 - m)) = f (8 * q + (7 - m)) * 2 ^ (7 - m) := Nat.mul_comm _ _
    rw [e2, ← Nat.mul_assoc, Nat.add_assoc]
theorem acc_mask (f : Nat → Nat) (N q : Nat) : ∀ r, acc (fun p => if p < N then f p else 0) q r = acc f q (min r (N - 8 * q))
  | 0 => by simp [acc]
  | r + 1 => by
    rw [acc, acc_mask f N q r]
    by_cases h : 8 * q + r < N
    · rw [if_pos h, show min r (N - 8 * q) = r by omega, show min (r + 1) (N - 8 * q) = r + 1 by omega, acc]
    · rw [if_neg h, show min (r + 1) (N - 8 * q) = min r (N - 8 * q) by omega]; simp
/-- So many bits as a list of bytes. -/
def bitL (f : Nat → Nat) (p : Nat) : List UInt8 := (List.range p).map fun i => UInt8.ofNat (f i)
theorem bitL_len (f : Nat → Nat) (p : Nat) : (bitL f p).length = p := by simp [bitL]
theorem bitL_succ (f : Nat → Nat) (p : Nat) : bitL f (p + 1) = bitL f p ++ [UInt8.ofNat (f p)] := by simp [bitL, List.range_succ]
theorem bitL_at (f : Nat → Nat) (p i : Nat) (h : i < p) : (bitL f p)[i]? = some (UInt8.ofNat (f i)) := by
  unfold bitL
  rw [List.getElem?_map, List.getElem?_range h]; rfl
/-- So many bytes of them. -/
def byL (f : Nat → Nat) (N q : Nat) : List UInt8 := (List.range q).map fun i => UInt8.ofNat (acc f i (min 8 (N - 8 * i)))
theorem byL_len (f : Nat → Nat) (N q : Nat) : (byL f N q).length = q := by simp [byL]
theorem byL_succ (f : Nat → Nat) (N q : Nat) : byL f N (q + 1) = byL f N q ++ [UInt8.ofNat (acc f q (min 8 (N - 8 * q)))] := by simp [byL, List.range_succ]
/-- A row of bytes of the call's own, all new. -/
structure NwB (w W : World) (a : Option Addr) (c : Nat) (bs : List UInt8) : Prop where
  row : BytE.Row W (.slice a bs.length c) bs
  new : ∀ k ∈ blk a, w.heap.size ≤ k
  kp : Kp [] w W
theorem NwB.keep {w W W' : World} {a : Option Addr} {c : Nat} {bs : List UInt8} (h : NwB w W a c bs) (k : Kp [] W W') : NwB w W' a c bs := ⟨h.row.keptNew k, h.new, h.kp.trans k (by simp)⟩
theorem NwB.nil (w : World) : NwB w w none 0 [] := ⟨.inl ⟨rfl, rfl⟩, by simp [blk], Kp.refl _ _⟩
/-- One byte more. -/
theorem NwB.app1 {w W : World} {a : Option Addr} {c : Nat} {bs : List UInt8} (h : NwB w W a c bs) (x : UInt8) (v : Int) (hv : v = (x.toNat : Int)) (hl : bs.length ≤ 100000) :
    ∃ v' W', (Builtin.append_ #[22, 22] 22 #[.slice a bs.length c, .slice (some ⟨W.heap.size, 0, none⟩) 1 1]).run Tryz.prog (W.alloc (.cells #[.int .u8 v] 5)) = .ok v' W' ∧ ∃ a' c', v' = .slice a' (bs.length + 1) c' ∧ NwB w W' a' c' (bs ++ [x]) ∧ Kp (blk a) W W' := by
  obtain ⟨i0, hi, hz0, hz1, hz2⟩ := infoU'
  have kA : Kp [] W (W.alloc (.cells #[.int .u8 v] 5)) := (Kp.refl _ _).alloc _
  have hsx : Sees (W.alloc (.cells #[.int .u8 v] 5)) (some ⟨W.heap.size, 0, none⟩) [x] := oneB W rfl x v hv _
  have hsrc := (seeByt.2 hsx).src (P := Tryz.prog) Tryz.underlying22 1
  obtain ⟨v6, X4, hrun2, hrow6, kk6, hn6⟩ := run_appendG (E := BytE) (P := Tryz.prog) _ 22 22 22 5 i0 _ 1 Tryz.underlying22 hi hz0 hz1 hz2 rfl (.slice a bs.length c) bs (h.row.keptNew kA) _ [x] hsrc (by simp; omega) (by simp; omega)
  obtain ⟨a6, c6, rfl, _⟩ := hrow6.see
  rw [ownS] at kk6
  have el : (bs ++ [x]).length = bs.length + 1 := by simp
  refine ⟨_, X4, hrun2, a6, c6, by rw [el], ⟨hrow6, fun q hq => ?_, (h.kp.trans kA (by simp)).trans kk6 (fun q hq => .inr (h.new q hq))⟩, (kA.mono (fun x hx => by simp at hx)).trans kk6 (fun q hq => .inl hq)⟩
  · rcases hn6 q (by rw [ownS]; exact hq) with h1 | h1
    · rw [ownS] at h1; exact h.new q h1
    · have := h.kp.size; have := kA.size; omega
theorem mask_lt (f : Nat → Nat) (hf : ∀ p, f p < 2) (N : Nat) : ∀ p, (if p < N then f p else 0) < 2 := fun p => by split; exact hf p; omega
set_option maxHeartbeats 8000000 in
set_option maxRecDepth 100000 in
theorem cRefPacked (a : Option Addr) (ca : Nat) (l : List Nat) (wd : Nat) (w : World) (ha : U64E.See w a l) (hl : l.length ≤ 64) (hb : ∀ x ∈ l, x < 18446744073709551616) (hw : wd ≤ 64) :
    Calls Tryz.prog 54 #[.slice a l.length ca, .int .i64 wd] w (NB (packB l wd) w) := by
  obtain ⟨N, hN⟩ : ∃ N, Hid (l.length * wd = N) := ⟨_, rfl⟩
  have hNb : N ≤ 4096 := by rw [← hN.out]; exact Nat.mul_le_mul hl hw
  have hF : Hid (packB l wd = byL (bitOf l wd) N ((N + 7) / 8)) := by show _ = _; unfold packB; rw [hN.out]; rfl
  obtain ⟨f, hf⟩ : ∃ f, Hid (bitOf l wd = f) := ⟨_, rfl⟩
  have hf2 : Hid (∀ p, f p < 2) := by rw [← hf.out]; exact bitOf_lt l wd
  have hfa : Hid (∀ j k (hj : j < l.length), k < wd → f (j * wd + k) = l[j] / 2 ^ k % 2) := fun j k hj hk => by rw [← hf.out]; exact bitOf_at l wd j k hk hj
  rw [hf.out] at hF
  rw [hF.out]
  obtain ⟨F, hFF⟩ : ∃ F, Hid (byL f N ((N + 7) / 8) = F) := ⟨_, rfl⟩
  rw [hFF.out]
  have hb' := hid hb
  have hat : Hid (∀ W, Kp [] w W → ∀ i (hi : i < l.length), ∃ g o, a = some ⟨g, o, none⟩ ∧ W.cell? ⟨g, o + i, none⟩ = some (.int .u64 (l[i] : Int))) := fun W kW i hi => u64At (ha.keptNew kW) i hi
  have hnil := hid (NwB.nil w)
  clear ha hb hF hf
  go_enter Tryz.func54, Tryz.ntmps54
  go_wp2_with fail
  go_loopw [5, 6] (fun v5 i wn => ∃ (j : Nat) (ba : Option Addr) (bc : Nat) (bs : List UInt8), j ≤ l.length ∧ i = .int .i64 j ∧ v5 = .slice ba bs.length bc ∧ NwB w wn ba bc bs ∧ Hid (bs = bitL f (j * wd))) (fun _ i _ => l.length - (intOf i).toNat)
  case atStart => exact ⟨0, none, 0, [], Nat.zero_le _, rfl, rfl, hnil.out, by show _ = _; simp [bitL]⟩
  case round =>
    clear hnil
    obtain ⟨j, ba, bc, bs, hj, rfl, rfl, I, hbs⟩ := hrel
    by_cases hlt : j < l.length
    · obtain ⟨g, o, rfl, hcx⟩ := hat.out wr I.kp j hlt
      have hfj := hid (fun k => hfa.out j k hlt)
      have hxb := hb'.out _ (List.getElem_mem hlt)
      obtain ⟨x, hx⟩ : ∃ x, Hid (l[j]'hlt = x) := ⟨l[j]'hlt, rfl⟩
      rw [hx.out] at hcx hfj hxb
      obtain ⟨M, hM⟩ : ∃ M, Hid (j * wd = M) := ⟨_, rfl⟩
      rw [hM.out] at hbs hfj
      have hMN : M + wd ≤ N := by
        have : (j + 1) * wd ≤ l.length * wd := Nat.mul_le_mul_right _ hlt
        rw [hN.out, Nat.succ_mul, hM.out] at this
        exact this
      have I' := hid I
      clear I
      go_wp2_with fail
      go_loopw [5, 7, 8] (fun v5 v7 i wn => ∃ (k y : Nat) (ba : Option Addr) (bc : Nat) (bs : List UInt8), k ≤ wd ∧ i = .int .i64 k ∧ v7 = .int .u64 (y : Int) ∧ Hid (y = x / 2 ^ k) ∧ v5 = .slice ba bs.length bc ∧ NwB w wn ba bc bs ∧ Hid (bs = bitL f (M + k))) (fun _ _ i _ => wd - (intOf i).toNat)
      case atStart => exact ⟨0, x, ba, bc, bs, Nat.zero_le _, rfl, rfl, by show _ = _; simp, rfl, I'.out, hbs⟩
      case round =>
        clear hbs I' hcx
        obtain ⟨k, y, ba, bc, bs, hk, rfl, rfl, hy, rfl, I, hbs⟩ := hrel
        by_cases hkl : k < wd
        · have hfp := hfj.out k hkl
          have hbl : bs.length ≤ 5000 := by rw [hbs.out, bitL_len]; omega
          have hy64 : y < 18446744073709551616 := by rw [hy.out]; exact Nat.lt_of_le_of_lt (Nat.div_le_self _ _) hxb
          have hvx : ((y : Int) % 2) = ((UInt8.ofNat (f (M + k))).toNat : Int) := by rw [hfp, ← hy.out, UInt8.toNat_ofNat']; omega
          obtain ⟨v', X3, hrun, a3, c3, rfl, I3, _⟩ := I.app1 (UInt8.ofNat (f (M + k))) ((y : Int) % 2) hvx (by omega)
          have hnx : Hid (∃ (k' y' : Nat) (ba : Option Addr) (bc : Nat) (bs' : List UInt8), k' ≤ wd ∧ (.int .i64 ((k : Int) + 1) : Value) = .int .i64 k' ∧ (.int .u64 ((y : Int) / 2) : Value) = .int .u64 (y' : Int) ∧ Hid (y' = x / 2 ^ k') ∧ (.slice a3 (bs.length + 1) c3 : Value) = .slice ba bs'.length bc ∧ NwB w X3 ba bc bs' ∧ Hid (bs' = bitL f (M + k'))) :=
            ⟨k + 1, y / 2, a3, c3, bs ++ [UInt8.ofNat (f (M + k))], by omega, by go_num, by go_num, by show _ = _; rw [hy.out, Nat.pow_succ, Nat.div_div_eq_div_mul], by simp, I3, by show _ = _; rw [hbs.out, ← bitL_succ, Nat.add_assoc]⟩
          clear I I3 hbs hfp hvx hy
          go_wp2_with (first | (refine wpAppRun rfl _ _ 22 22 rfl _ _ _ rfl rfl hrun ?_) | fail)
          exact ⟨hnx.out, by simp [intOf]; omega⟩
        · obtain rfl : k = wd := by omega
          have hnx : Hid (bs = bitL f ((j + 1) * k)) := by show _ = _; rw [hbs.out, Nat.succ_mul, hM.out]
          clear hbs
          go_wp2_with fail
          exact ⟨⟨j + 1, ba, bc, bs, by omega, by go_num, rfl, I, hnx⟩, by simp [intOf]; omega⟩
    · obtain rfl : j = l.length := by omega
      rw [hN.out] at hbs
      have hbl : bs.length = N := by rw [hbs.out, bitL_len]
      have hbit : Hid (∀ W, Kp [] wr W → ∀ i, i < N → ∃ g o, ba = some ⟨g, o, none⟩ ∧ W.cell? ⟨g, o + i, none⟩ = some (.int .u8 (f i : Int))) := fun W kW i hi => by
        obtain ⟨_, _, e, hs, _⟩ := (I.row.keptNew kW).see
        injection e with e1 e2 e3
        obtain ⟨g, o, e4, hc⟩ := hs.at (j := i) (x := UInt8.ofNat (f i)) (by rw [hbs.out]; exact bitL_at f N i hi)
        refine ⟨g, o, by rw [e1]; exact e4, ?_⟩
        have := hc 0 _ rfl
        have h2 := hf2.out i
        have e5 : (UInt8.ofNat (f i)).toNat = f i := by rw [UInt8.toNat_ofNat']; omega
        simpa [BytE, e5] using this
      have kI := I.kp
      obtain ⟨fm, hfm⟩ : ∃ fm : Nat → Nat, Hid (fm = fun p => if p < N then f p else 0) := ⟨_, rfl⟩
      have hfm2 : Hid (∀ p, fm p < 2) := by rw [hfm.out]; exact mask_lt f hf2.out N
      have hby : Hid (∀ q, UInt8.ofNat (hib fm q 8) = UInt8.ofNat (acc f q (min 8 (N - 8 * q)))) := fun q => by
        have h1 : hib fm q 8 = acc fm q 8 := by
          have h3 := hib_acc fm q 8 (Nat.le_refl _)
          rw [Nat.sub_self, show acc fm q 0 = 0 from rfl, Nat.pow_zero, Nat.one_mul, Nat.zero_add] at h3
          exact h3
        have h2 := acc_mask f N q 8
        rw [← hfm.out] at h2
        rw [h1, h2]
      generalize wr = w1 at *
      have hn2 := hid (NwB.nil w1)
      rw [hbl]
      clear I hbs hat hfa hbl
      go_wp2_with fail
      go_loopw [9, 10] (fun v9 v10 wn => ∃ (q A : Nat) (oa : Option Addr) (oc : Nat) (os : List UInt8), v10 = .int .i64 (A : Int) ∧ Hid (A = 8 * q) ∧ q ≤ (N + 7) / 8 ∧ v9 = .slice oa os.length oc ∧ NwB w1 wn oa oc os ∧ Hid (os = byL f N q)) (fun _ v10 _ => N + 8 - (intOf v10).toNat)
      case atStart => exact ⟨0, 0, none, 0, [], rfl, rfl, Nat.zero_le _, rfl, hn2.out, by show _ = _; simp [byL]⟩
      case round =>
        clear hn2
        obtain ⟨q, A, oa, oc, os, rfl, hA, hq, rfl, I, hos⟩ := hrel
        have hol : os.length ≤ 600 := by rw [hos.out, byL_len]; omega
        by_cases hlt : A < N
        · have hq8 : 8 * q < N := by rw [← hA.out]; exact hlt
          have hI := hid I
          clear I
          have dA : (A : Int) < (N : Int) := by omega
          go_wp2_with fail
          go_loopw [11, 12] (fun v11 v12 wn => ∃ (m h : Nat), m ≤ 8 ∧ v12 = .int .i64 (7 - (m : Int)) ∧ v11 = .int .u8 (h : Int) ∧ Hid (h = hib fm q m) ∧ NwB w1 wn oa oc os) (fun _ v12 _ => (intOf v12 + 1).toNat)
          case atStart => exact ⟨0, 0, Nat.zero_le _, rfl, rfl, rfl, hI.out⟩
          case round =>
            clear hI
            obtain ⟨m, h, hm, rfl, rfl, hh, I⟩ := hrel
            by_cases hm8 : m < 8
            · have hhl : h < 2 ^ m := by rw [hh.out]; exact hib_lt fm hfm2.out q m
              have hhl2 : h < 128 := Nat.lt_of_lt_of_le hhl (Nat.le_trans (Nat.pow_le_pow_right (n := 2) (by omega) (show m ≤ 7 by omega)) (by decide))
              obtain ⟨n, hn⟩ : ∃ n, Hid (7 - m = n) := ⟨_, rfl⟩
              have en : (7 : Int) - (m : Int) = (n : Int) := by have := hn.out; omega
              have hn7 : n ≤ 7 := by have := hn.out; omega
              have hhs : Hid (hib fm q (m + 1) = fm (A + n) + 2 * h) := by show _ = _; rw [hib, hh.out, hn.out, hA.out]
              have d0 : (0 : Int) ≤ (n : Int) := by omega
              have dk : (h : Int) * 2 % 256 = ((2 * h : Nat) : Int) := by omega
              have dk2 : IntKind.u8.wrap ((h : Int) * 2) = ((2 * h : Nat) : Int) := by rw [IntKind.wrap_u8]; omega
              rw [en]
              by_cases hin : A + n < N
              · obtain ⟨g, o, rfl, hcb⟩ := hbit.out wr I.kp (A + n) hin
                have hfv : Hid (fm (A + n) = f (A + n)) := by show _ = _; rw [hfm.out]; simp [hin]
                have hf1 := hf2.out (A + n)
                rw [hfv.out] at hhs
                generalize f (A + n) = y at *
                obtain ⟨P, hP⟩ : ∃ P, Hid (A + n = P) := ⟨_, rfl⟩
                rw [hP.out] at hcb hin
                have eP : (A : Int) + (n : Int) = (P : Int) := by have := hP.out; omega
                have dP : (P : Int) < (N : Int) := by omega
                have hnx : Hid (∃ (m' h' : Nat), m' ≤ 8 ∧ (.int .i64 ((n : Int) - 1) : Value) = .int .i64 (7 - (m' : Int)) ∧ (.int .u8 (2 * (h : Int) + (y : Int)) : Value) = .int .u8 (h' : Int) ∧ Hid (h' = hib fm q m') ∧ NwB w1 wr oa oc os) :=
                  ⟨m + 1, y + 2 * h, by omega, by rw [← en]; congr 1; omega, by congr 1; omega, by show _ = _; rw [hhs.out], I⟩
                clear I hhs hh hfv hP
                go_wp2_with fail
                exact ⟨hnx.out, by simp [intOf]⟩
              · have hfv : Hid (fm (A + n) = 0) := by show _ = _; rw [hfm.out]; simp [hin]
                rw [hfv.out] at hhs
                obtain ⟨P, hP⟩ : ∃ P, Hid (A + n = P) := ⟨_, rfl⟩
                rw [hP.out] at hin
                have eP : (A : Int) + (n : Int) = (P : Int) := by have := hP.out; omega
                have dP : ¬ (P : Int) < (N : Int) := by omega
                have hnx : Hid (∃ (m' h' : Nat), m' ≤ 8 ∧ (.int .i64 ((n : Int) - 1) : Value) = .int .i64 (7 - (m' : Int)) ∧ (.int .u8 (2 * (h : Int)) : Value) = .int .u8 (h' : Int) ∧ Hid (h' = hib fm q m') ∧ NwB w1 wr oa oc os) :=
                  ⟨m + 1, 2 * h, by omega, by rw [← en]; congr 1; omega, by go_num, by show _ = _; (rw [hhs.out]; try omega), I⟩
                clear I hhs hh hfv hP
                go_wp2_with fail
                exact ⟨hnx.out, by simp [intOf]⟩
            · obtain rfl : m = 8 := by omega
              have hh8 : h < 256 := by rw [hh.out]; exact hib_lt fm hfm2.out q 8
              have hvx : (h : Int) = ((UInt8.ofNat h).toNat : Int) := by rw [UInt8.toNat_ofNat']; omega
              obtain ⟨v', X3, hrun, a3, c3, rfl, I3, _⟩ := I.app1 (UInt8.ofNat h) (h : Int) hvx (by omega)
              have hvx' := hid hvx
              have e7 : (7 : Int) - ((8 : Nat) : Int) = -1 := by omega
              rw [e7]
              have hnx : Hid (∃ (q' A' : Nat) (oa : Option Addr) (oc : Nat) (os' : List UInt8), (.int .i64 ((A : Int) + 8) : Value) = .int .i64 (A' : Int) ∧ Hid (A' = 8 * q') ∧ q' ≤ (N + 7) / 8 ∧ (.slice a3 (os.length + 1) c3 : Value) = .slice oa os'.length oc ∧ NwB w1 X3 oa oc os' ∧ Hid (os' = byL f N q')) :=
                ⟨q + 1, A + 8, a3, c3, os ++ [UInt8.ofNat h], by go_num, by show _ = _; rw [hA.out]; omega, by omega, by simp, I3, by show _ = _; rw [byL_succ, ← hos.out, hh.out, hby.out]⟩
              clear I I3 hvx hos hh
              go_wp2_with (first | (refine wpAppRun rfl _ _ 22 22 rfl _ _ _ rfl rfl hrun ?_) | fail)
              exact ⟨hnx.out, by simp [intOf]; omega⟩
        · have hqe : q = (N + 7) / 8 := by have := hA.out; omega
          have hfin : NB F w (.returned (.slice oa os.length oc)) wr := by
            have e : os = F := by rw [hos.out, hqe]; exact hFF.out
            subst e
            exact ⟨oa, oc, rfl, rowByt.1 I.row, kI.trans I.kp (by simp), fun k hk => by have := I.new k hk; have := kI.size; omega⟩
          have dA : ¬ (A : Int) < (N : Int) := by omega
          clear I hos hqe
          go_wp2_with fail
          go_ret
          exact hfin
end Go.Proofs.YtpekgpgfdiffcaaGreat
end

section
namespace Go.Proofs.YtpekgpgfdiffcaaGreat
open Go.RowKit Go.Hay
set_option linter.unusedVariables false
set_option linter.unusedSimpArgs false

/-- Bytes that a slice sees, behind a row. -/
theorem NwB.appS {w W : World} {a : Option Addr} {c : Nat} {bs : List UInt8} (h : NwB w W a c bs) (a2 : Option Addr) (c2 : Nat) (ys : List UInt8) (hs : Sees W a2 ys) (hl : bs.length ≤ 100000) (hy : ys.length ≤ 100000) :
    ∃ v' W', (Builtin.append_ #[22, 22] 22 #[.slice a bs.length c, .slice a2 ys.length c2]).run Tryz.prog W = .ok v' W' ∧ ∃ a' c', v' = .slice a' (bs.length + ys.length) c' ∧ NwB w W' a' c' (bs ++ ys) ∧ Kp (blk a) W W' := by
  obtain ⟨i0, hi, hz0, hz1, hz2⟩ := infoU'
  have hsrc := (seeByt.2 hs).src (P := Tryz.prog) Tryz.underlying22 c2
  obtain ⟨v6, X4, hrun2, hrow6, kk6, hn6⟩ := run_appendG (E := BytE) (P := Tryz.prog) _ 22 22 22 5 i0 _ 1 Tryz.underlying22 hi hz0 hz1 hz2 rfl (.slice a bs.length c) bs h.row _ ys hsrc (by omega) (by omega)
  obtain ⟨a6, c6, rfl, _⟩ := hrow6.see
  rw [ownS] at kk6
  have el : (bs ++ ys).length = bs.length + ys.length := by simp
  refine ⟨_, X4, hrun2, a6, c6, by rw [el], ⟨hrow6, fun q hq => ?_, h.kp.trans kk6 (fun q hq => .inr (h.new q hq))⟩, kk6⟩
  rcases hn6 q (by rw [ownS]; exact hq) with h1 | h1
  · rw [ownS] at h1; exact h.new q h1
  · have := h.kp.size; omega
theorem NwB.of {w W : World} {v : Value} {bs : List UInt8} (hr : Row W v bs) (hn : ∀ k ∈ own v, w.heap.size ≤ k) (k : Kp [] w W) : ∃ a c, v = .slice a bs.length c ∧ NwB w W a c bs := by
  obtain ⟨a, c, rfl, _⟩ := (rowByt.2 hr).see
  exact ⟨a, c, rfl, rowByt.2 hr, fun q hq => hn q (by rw [ownS]; exact hq), k⟩
theorem NwB.back {w W W' : World} {a : Option Addr} {c : Nat} {bs : List UInt8} (h : NwB W W' a c bs) (k : Kp [] w W) : NwB w W' a c bs := ⟨h.row, fun q hq => by have := h.new q hq; have := k.size; omega, k.trans h.kp (by simp)⟩
theorem zig_pos {d : Int} (h0 : ¬ d < 0) (h : d < 9223372036854775808) : IntKind.u64.wrap (wrap64 (2 * d)) = zig d := by
  unfold zig wrap64; rw [if_pos (by omega), IntKind.wrap_u64]; omega
theorem zig_neg {d : Int} (h0 : d < 0) (h : -9223372036854775808 ≤ d) : IntKind.u64.wrap (wrap64 (wrap64 (-2 * d) - 1)) = zig d := by
  unfold zig wrap64; rw [if_neg (by omega), IntKind.wrap_u64]; omega
set_option maxHeartbeats 8000000 in
set_option maxRecDepth 100000 in
theorem cRefDelta (a : Option Addr) (ca : Nat) (l : List Val) (w : World) (ha : Vals w a l) (h0 : 0 < l.length) (hl : l.length ≤ 64) :
    Calls Tryz.prog 33 #[.slice a l.length ca] w (NB (deltaB l) w) := by
  have hF : Hid (deltaB l = be (u64 (l.getD 0 nv).n) 8 ++ dlt l (l.length - 1)) := rfl
  obtain ⟨F, hFF⟩ : ∃ F, Hid (deltaB l = F) := ⟨_, rfl⟩
  rw [hFF.out] at hF ⊢
  obtain ⟨g, o, rfl, hdrop⟩ := ha.at 0 h0
  clear hdrop
  have hat : Hid (∀ W, Kp [] w W → ∀ j, j < l.length → W.cell? ⟨g, o + j * 4 + 2, none⟩ = some (.int .i64 (l.getD j nv).n)) := fun W kW j hj => by
    obtain ⟨_, _, e, _, _, a2, _⟩ := (ha.kept kW).at j hj
    cases e
    have eg : l.getD j nv = l[j] := by simp [hj]
    rw [eg]; exact a2
  have c0 := hat.out w (Kp.refl _ _) 0 h0
  rw [Nat.zero_mul, Nat.add_zero] at c0
  obtain ⟨n0, hn0⟩ : ∃ n0, Hid ((l.getD 0 nv).n = n0) := ⟨_, rfl⟩
  rw [hn0.out] at c0 hF
  have hu : Hid ((IntKind.u64.wrap n0).toNat = u64 n0) := by show _ = _; rw [IntKind.wrap_u64]; rfl
  have hw0 : IntKind.u64.wrap n0 = ((u64 n0 : Nat) : Int) := by rw [IntKind.wrap_u64]; unfold u64; omega
  have hult : u64 n0 < 18446744073709551616 := by unfold u64; omega
  have cN := cRefNumber ((u64 n0 : Nat) : Int) w (by omega) (by omega)
  rw [Int.toNat_natCast] at cN
  have hB8 : (be (u64 n0) 8).length = 8 := be_length _ _
  obtain ⟨B8, hB⟩ : ∃ B8, Hid (be (u64 n0) 8 = B8) := ⟨_, rfl⟩
  rw [hB.out] at cN hF hB8
  have hB8' := hid hB8
  generalize u64 n0 = U at *
  clear ha hFF hu hB hn0 hB8
  go_enter Tryz.func33, Tryz.ntmps33
  go_wp2_with fail
  refine cN.mono ?_
  rintro e w1 ⟨v1, rfl, hr1, hn1, k1⟩
  obtain ⟨a1, c1, rfl, I1⟩ := NwB.of hr1 hn1 k1
  have hI1 := hid I1
  clear hr1 hn1 cN I1 c0
  go_wp2_with fail
  go_loopw [3, 4] (fun v3 i wn => ∃ (j : Nat) (ba : Option Addr) (bc : Nat) (bs : List UInt8), j < l.length ∧ i = .int .i64 ((j : Int) + 1) ∧ v3 = .slice ba bs.length bc ∧ NwB w wn ba bc bs ∧ Hid (bs = B8 ++ dlt l j)) (fun _ i _ => l.length - (intOf i).toNat)
  case atStart => exact ⟨0, a1, c1, B8, h0, rfl, rfl, hI1.out, by show _ = _; simp [dlt]⟩
  case round =>
    clear hI1 k1
    obtain ⟨j, ba, bc, bs, hj, rfl, rfl, I, hbs⟩ := hrel
    have hbl : bs.length ≤ 700 := by rw [hbs.out, List.length_append, hB8'.out]; have := dlt_len l j; omega
    by_cases hlt : j + 1 < l.length
    · have y1 := hat.out wr I.kp (j + 1) hlt
      have y0 := hat.out wr I.kp j (by omega)
      have hdz : Hid (IntKind.i64.wrap ((l.getD (j + 1) nv).n - (l.getD j nv).n) = dz l j) := rfl
      have hst := hid (dlt_succ l j)
      have hzb := dz_bd l j
      have hDb := wrap64_bd ((l.getD (j + 1) nv).n - (l.getD j nv).n)
      rw [hdz.out] at hDb
      generalize (l.getD (j + 1) nv).n = u at *
      generalize (l.getD j nv).n = v at *
      obtain ⟨D, hD⟩ : ∃ D, Hid (dz l j = D) := ⟨_, rfl⟩
      rw [hD.out] at hdz hzb hst hDb
      have hdz' : IntKind.i64.wrap (u - v) = D := hdz.out
      obtain ⟨Z, hZ⟩ : ∃ Z : Nat, zig D = (Z : Int) := ⟨(zig D).toNat, by omega⟩
      rw [hZ, Int.toNat_natCast] at hst
      have hZ64 : Z < 18446744073709551616 := by omega
      have hjI : ((j : Int) + 1 - 1) = (j : Int) := by omega
      have e4 : o + (j + 1) * 4 + 2 = o + (j + 1) * 4 + 2 := rfl
      have dlt1 : (j : Int) + 1 < (l.length : Int) := by omega
      have hgl := gB_len64 Z hZ64
      obtain ⟨G, hG⟩ : ∃ G, Hid (gB Z = G) := ⟨_, rfl⟩
      rw [hG.out] at hst hgl
      have hI := hid I
      have hgo : Hid (∀ W, Kp [] wr W → ∃ (z : Nat) (ba' : Option Addr) (bc' : Nat) (bs' : List UInt8), (.int .u64 (Z : Int) : Value) = .int .u64 (z : Int) ∧ (.slice ba bs.length bc : Value) = .slice ba' bs'.length bc' ∧ z < 18446744073709551616 ∧ NwB w W ba' bc' bs' ∧ Hid (bs' ++ gB z = bs ++ G)) := fun W kW => ⟨Z, ba, bc, bs, rfl, rfl, hZ64, hI.out.keep kW, by show _ = _; rw [hG.out]⟩
      have hend : Hid (∀ (W : World) (a3 : Option Addr) (c3 : Nat) (bs3 : List UInt8), NwB w W a3 c3 bs3 → bs3 = bs ++ G → ∃ (j' : Nat) (ba' : Option Addr) (bc' : Nat) (bs' : List UInt8), j' < l.length ∧ (.int .i64 ((j : Int) + 1 + 1) : Value) = .int .i64 ((j' : Int) + 1) ∧ (.slice a3 bs3.length c3 : Value) = .slice ba' bs'.length bc' ∧ NwB w W ba' bc' bs' ∧ Hid (bs' = B8 ++ dlt l j')) := fun W a3 c3 bs3 I3 hb3 =>
        ⟨j + 1, a3, c3, bs3, by omega, by go_num, rfl, I3, by show _ = _; rw [hb3, hst.out, hbs.out, List.append_assoc]⟩
      clear I hbs hst hG
      have kq0 : ∀ n, Kp [] wr (wr.drewN n) := fun n => (Kp.refl _ _).drewN n
      by_cases hneg : D < 0
      · have hz := zig_neg hneg hDb.1
        rw [hZ] at hz
        go_wp2_with fail
        go_quiet ((fail))
        have hg0 := hid (hgo.out _ (kq0 nq))
        generalize wr.drewN nq = wq at *
        clear hgo hI kq0 y0 y1
        go_wp2_with fail
        go_loopw [3, 6] (fun v3 v6 wn => ∃ (z : Nat) (ba' : Option Addr) (bc' : Nat) (bs' : List UInt8), v6 = .int .u64 (z : Int) ∧ v3 = .slice ba' bs'.length bc' ∧ z < 18446744073709551616 ∧ NwB w wn ba' bc' bs' ∧ Hid (bs' ++ gB z = bs ++ G)) (fun _ v6 _ => (intOf v6).toNat)
        case atStart => exact hg0.out
        case round =>
          clear hg0 hz
          obtain ⟨z, ba, bc, cs, rfl, rfl, hz6, I, hcs⟩ := hrel
          have hcl : cs.length ≤ 800 := by have := congrArg List.length hcs.out; simp at this; omega
          by_cases h128 : z < 128
          · rw [gB_lo h128] at hcs
            have hvx : (z : Int) = ((UInt8.ofNat z).toNat : Int) := by rw [UInt8.toNat_ofNat']; omega
            obtain ⟨v', X3, hrun, a3, c3, rfl, I3, _⟩ := I.app1 (UInt8.ofNat z) (z : Int) hvx (by omega)
            have hN := hid (hend.out X3 a3 c3 (cs ++ [UInt8.ofNat z]) I3 hcs.out)
            rw [List.length_append, List.length_singleton] at hN
            have hvx' := hid hvx
            have d1 : ¬ (128 : Int) ≤ (z : Int) := by omega
            have hwz : IntKind.u8.wrap (z : Int) = (z : Int) := by rw [IntKind.wrap_u8]; omega
            clear I I3 hvx hend hcs
            go_wp2_with (first | (refine wpAppRun rfl _ _ 22 22 rfl _ _ _ rfl rfl hrun ?_) | fail)
            exact ⟨hN.out, by simp [intOf]; omega⟩
          · rw [gB_hi h128] at hcs
            have hvx : (z : Int) % 128 + 128 = ((UInt8.ofNat (z % 128 + 128)).toNat : Int) := by rw [UInt8.toNat_ofNat']; omega
            obtain ⟨v', X3, hrun, a3, c3, rfl, I3, _⟩ := I.app1 (UInt8.ofNat (z % 128 + 128)) ((z : Int) % 128 + 128) hvx (by omega)
            have hN : Hid (∃ (z' : Nat) (ba' : Option Addr) (bc' : Nat) (bs' : List UInt8), (.int .u64 ((z : Int) / 128) : Value) = .int .u64 (z' : Int) ∧ (.slice a3 (cs.length + 1) c3 : Value) = .slice ba' bs'.length bc' ∧ z' < 18446744073709551616 ∧ NwB w X3 ba' bc' bs' ∧ Hid (bs' ++ gB z' = bs ++ G)) :=
              ⟨z / 128, a3, c3, cs ++ [UInt8.ofNat (z % 128 + 128)], by go_num, by simp, by omega, I3, by show _ = _; rw [← hcs.out]; simp⟩
            have hvx' := hid hvx
            have d1 : (128 : Int) ≤ (z : Int) := by omega
            clear I I3 hvx hend hcs
            go_wp2_with (first | (refine wpAppRun rfl _ _ 22 22 rfl _ _ _ rfl rfl hrun ?_) | fail)
            exact ⟨hN.out, by simp [intOf]; omega⟩
      · have hz := zig_pos hneg hDb.2
        rw [hZ] at hz
        go_wp2_with fail
        go_quiet ((fail))
        have hg0 := hid (hgo.out _ (kq0 nq))
        generalize wr.drewN nq = wq at *
        clear hgo hI kq0 y0 y1
        go_wp2_with fail
        go_loopw [3, 6] (fun v3 v6 wn => ∃ (z : Nat) (ba' : Option Addr) (bc' : Nat) (bs' : List UInt8), v6 = .int .u64 (z : Int) ∧ v3 = .slice ba' bs'.length bc' ∧ z < 18446744073709551616 ∧ NwB w wn ba' bc' bs' ∧ Hid (bs' ++ gB z = bs ++ G)) (fun _ v6 _ => (intOf v6).toNat)
        case atStart => exact hg0.out
        case round =>
          clear hg0 hz
          obtain ⟨z, ba, bc, cs, rfl, rfl, hz6, I, hcs⟩ := hrel
          have hcl : cs.length ≤ 800 := by have := congrArg List.length hcs.out; simp at this; omega
          by_cases h128 : z < 128
          · rw [gB_lo h128] at hcs
            have hvx : (z : Int) = ((UInt8.ofNat z).toNat : Int) := by rw [UInt8.toNat_ofNat']; omega
            obtain ⟨v', X3, hrun, a3, c3, rfl, I3, _⟩ := I.app1 (UInt8.ofNat z) (z : Int) hvx (by omega)
            have hN := hid (hend.out X3 a3 c3 (cs ++ [UInt8.ofNat z]) I3 hcs.out)
            rw [List.length_append, List.length_singleton] at hN
            have hvx' := hid hvx
            have d1 : ¬ (128 : Int) ≤ (z : Int) := by omega
            have hwz : IntKind.u8.wrap (z : Int) = (z : Int) := by rw [IntKind.wrap_u8]; omega
            clear I I3 hvx hend hcs
            go_wp2_with (first | (refine wpAppRun rfl _ _ 22 22 rfl _ _ _ rfl rfl hrun ?_) | fail)
            exact ⟨hN.out, by simp [intOf]; omega⟩
          · rw [gB_hi h128] at hcs
            have hvx : (z : Int) % 128 + 128 = ((UInt8.ofNat (z % 128 + 128)).toNat : Int) := by rw [UInt8.toNat_ofNat']; omega
            obtain ⟨v', X3, hrun, a3, c3, rfl, I3, _⟩ := I.app1 (UInt8.ofNat (z % 128 + 128)) ((z : Int) % 128 + 128) hvx (by omega)
            have hN : Hid (∃ (z' : Nat) (ba' : Option Addr) (bc' : Nat) (bs' : List UInt8), (.int .u64 ((z : Int) / 128) : Value) = .int .u64 (z' : Int) ∧ (.slice a3 (cs.length + 1) c3 : Value) = .slice ba' bs'.length bc' ∧ z' < 18446744073709551616 ∧ NwB w X3 ba' bc' bs' ∧ Hid (bs' ++ gB z' = bs ++ G)) :=
              ⟨z / 128, a3, c3, cs ++ [UInt8.ofNat (z % 128 + 128)], by go_num, by simp, by omega, I3, by show _ = _; rw [← hcs.out]; simp⟩
            have hvx' := hid hvx
            have d1 : (128 : Int) ≤ (z : Int) := by omega
            clear I I3 hvx hend hcs
            go_wp2_with (first | (refine wpAppRun rfl _ _ 22 22 rfl _ _ _ rfl rfl hrun ?_) | fail)
            exact ⟨hN.out, by simp [intOf]; omega⟩
    · have hje : j = l.length - 1 := by omega
      have hfin : NB F w (.returned (.slice ba bs.length bc)) wr := by
        have e : bs = F := by rw [hF.out, hbs.out, hje]
        subst e
        exact ⟨ba, bc, rfl, rowByt.1 I.row, I.kp, I.new⟩
      have d1 : ¬ (j : Int) + 1 < (l.length : Int) := by omega
      clear I hbs hje
      go_wp2_with fail
      go_ret
      exact hfin
end Go.Proofs.YtpekgpgfdiffcaaGreat
end

section
namespace Go.Proofs.YtpekgpgfdiffcaaGreat
open Go.RowKit Go.Hay
set_option linter.unusedVariables false
set_option linter.unusedSimpArgs false

/-- What was written is read as it was. -/
theorem decA_back (k : Int) (l : List Val) (hi : ∀ x ∈ l, x.in64) (hr : refE k l = 0) : decA k (encR k l) l.length = (l, 0) := by
  obtain ⟨h1, h64, _⟩ := refE_ok hr
  have hT : tkA k l.length (encR k l) = some l := by
    rcases Nat.eq_zero_or_pos l.length with h0 | h0
    · obtain rfl := List.eq_nil_of_length_eq_zero h0
      unfold tkA
      rw [if_pos (show ([] : List Val).length = 0 from rfl)]
    · exact back_all k l hi hr h0
  unfold decA decE
  rw [hT, if_neg (by simp [h1]), if_neg (by omega)]
  show (if true = true ∧ l.length = l.length ∧ refE k l = 0 ∧ encR k l = encR k l then (l, 0) else ([], 60)) = (l, 0)
  rw [if_pos ⟨rfl, rfl, hr, rfl⟩]
/-- What is read is written as the same bytes. -/
theorem decA_put (k : Int) (bs : List UInt8) (n : Nat) (h : (decA k bs n).2 = 0) : refE k (decA k bs n).1 = 0 ∧ encR k (decA k bs n).1 = bs := by
  unfold decA at h ⊢
  split at h
  · simp at h
  · split at h
    · simp at h
    · unfold decE at h ⊢
      split at h
      · rename_i h1 h2 h3
        rw [if_neg h1, if_neg h2, if_pos h3]
        exact ⟨h3.2.2.1, h3.2.2.2⟩
      · simp at h
theorem decA_nil (k : Int) (bs : List UInt8) (n : Nat) (h : (decA k bs n).2 ≠ 0) : (decA k bs n).1 = [] := by
  unfold decA at h ⊢
  split
  · rfl
  · split
    · rfl
    · unfold decE at h ⊢
      rename_i h1 h2
      rw [if_neg h1, if_neg h2] at h
      split
      · rename_i h3
        rw [if_pos h3] at h
        simp at h
      · rfl
theorem rowSee {w : World} {a : Option Addr} {c : Nat} {R : List UInt8} (h : Row w (.slice a R.length c) R) : Sees w a R ∧ R.length ≤ c ∧ c ≤ maxLen := by
  obtain ⟨_, _, e, h1, _⟩ := h.sees
  injection e with e1 e2 e3
  rcases h with ⟨e, h⟩ | ⟨g9, o9, cap, e, hl9, hm9, _⟩
  · injection e with e4 e5 e6
    subst h
    rw [e6]
    exact ⟨.inl rfl, by simp, by unfold maxLen; omega⟩
  · injection e with e4 e5 e6
    rw [e6, e1]
    exact ⟨h1, hl9, hm9⟩
theorem rowVals {w : World} {a : Option Addr} {c : Nat} {L : List Val} (h : VE.Row w (.slice a L.length c) L) : Vals w a L ∧ L.length ≤ c ∧ c ≤ maxLen := by
  obtain ⟨_, _, e, h1, _, h2, h3, _⟩ := h.see
  injection e with e1 e2 e3
  rw [e1, e3]
  exact ⟨seeV.1 h1, h2, h3⟩
theorem sameV_self (l : List Val) : sameV l l = true := by
  induction l with
  | nil => rfl
  | cons x l ih => simp [sameV, eqv_self, ih]
end Go.Proofs.YtpekgpgfdiffcaaGreat
end

section
namespace Go.Proofs.YtpekgpgfdiffcaaGreat
open Go.RowKit Go.Hay
set_option linter.unusedVariables false
set_option linter.unusedSimpArgs false

/-- A row of numbers of the call's own, all new. -/
structure NwU (w W : World) (a : Option Addr) (c : Nat) (ns : List Nat) : Prop where
  row : U64E.Row W (.slice a ns.length c) ns
  new : ∀ k ∈ blk a, w.heap.size ≤ k
  kp : Kp [] w W
theorem NwU.keep {w W W' : World} {a : Option Addr} {c : Nat} {ns : List Nat} (h : NwU w W a c ns) (k : Kp [] W W') : NwU w W' a c ns := ⟨h.row.keptNew k, h.new, h.kp.trans k (by simp)⟩
theorem NwU.nil (w : World) : NwU w w none 0 [] := ⟨.inl ⟨rfl, rfl⟩, by simp [blk], Kp.refl _ _⟩
theorem NwU.see {w W : World} {a : Option Addr} {c : Nat} {ns : List Nat} (h : NwU w W a c ns) : U64E.See W a ns := by
  obtain ⟨_, _, e, h1, _⟩ := h.row.see
  injection e with e1 e2 e3
  rw [e1]; exact h1
theorem oneU (w : World) {q : Nat} (hq : w.heap.size = q) (x : Nat) (t : TypeId) : U64E.See (w.alloc (.cells #[.int .u64 (x : Int)] t)) (some ⟨q, 0, none⟩) [x] := by
  subst hq
  refine .inr ⟨_, 0, rfl, fun j u hu => ?_⟩
  have e : (w.alloc (.cells #[.int .u64 (x : Int)] t)).cell? ⟨w.heap.size, 0 + j, none⟩ = _ := World.cell?_alloc_new w _ _ (0 + j)
  rw [e, Nat.zero_add]
  simpa [El.cs, U64E] using hu
theorem NwU.app1 {w W : World} {a : Option Addr} {c : Nat} {ns : List Nat} (h : NwU w W a c ns) (x : Nat) (hl : ns.length ≤ 100000) :
    ∃ v' W', (Builtin.append_ #[62, 62] 62 #[.slice a ns.length c, .slice (some ⟨W.heap.size, 0, none⟩) 1 1]).run Tryz.prog (W.alloc (.cells #[.int .u64 (x : Int)] 47)) = .ok v' W' ∧ ∃ a' c', v' = .slice a' (ns.length + 1) c' ∧ NwU w W' a' c' (ns ++ [x]) ∧ Kp (blk a) W W' := by
  obtain ⟨i0, hi, hz0, hz1, hz2⟩ := infoU64
  have kA : Kp [] W (W.alloc (.cells #[.int .u64 (x : Int)] 47)) := (Kp.refl _ _).alloc _
  have hsrc := (oneU W rfl x 47).src (P := Tryz.prog) Tryz.underlying62 1
  obtain ⟨v6, X4, hrun2, hrow6, kk6, hn6⟩ := run_appendG (E := U64E) (P := Tryz.prog) _ 62 62 62 47 i0 _ 8 Tryz.underlying62 hi hz0 hz1 hz2 rfl (.slice a ns.length c) ns (h.row.keptNew kA) _ [x] hsrc (by simp; omega) (by simp; omega)
  obtain ⟨a6, c6, rfl, _⟩ := hrow6.see
  rw [ownS] at kk6
  have el : (ns ++ [x]).length = ns.length + 1 := by simp
  refine ⟨_, X4, hrun2, a6, c6, by rw [el], ⟨hrow6, fun q hq => ?_, (h.kp.trans kA (by simp)).trans kk6 (fun q hq => .inr (h.new q hq))⟩, (kA.mono (fun x hx => by simp at hx)).trans kk6 (fun q hq => .inl hq)⟩
  rcases hn6 q (by rw [ownS]; exact hq) with h1 | h1
  · rw [ownS] at h1; exact h.new q h1
  · have := h.kp.size; have := kA.size; omega
set_option maxHeartbeats 8000000 in
set_option maxRecDepth 100000 in
theorem cRefSmall (a : Option Addr) (ca : Nat) (l : List Val) (w : World) (ha : Vals w a l) (h0 : 0 < l.length) (hl : l.length ≤ 64) :
    Calls Tryz.prog 35 #[.slice a l.length ca] w (NB (bitsB l) w) := by
  obtain ⟨g, o, rfl, hdrop⟩ := ha.at 0 h0
  clear hdrop
  have hat : Hid (∀ W, Kp [] w W → ∀ j, j < l.length → W.cell? ⟨g, o + j * 4 + 2, none⟩ = some (.int .i64 (l.getD j nv).n)) := fun W kW j hj => by
    obtain ⟨_, _, e, _, _, a2, _⟩ := (ha.kept kW).at j hj
    cases e
    have eg : l.getD j nv = l[j] := by simp [hj]
    rw [eg]; exact a2
  have a2 := hat.out w (Kp.refl _ _) 0 h0
  rw [Nat.zero_mul, Nat.add_zero] at a2
  obtain ⟨F, hF⟩ : ∃ F, Hid (bitsB l = F) := ⟨_, rfl⟩
  rw [hF.out]
  have hm00 : Hid (leastTo l 0 = (l.getD 0 nv).n) := rfl
  obtain ⟨m0, hm0⟩ : ∃ m0, Hid (leastTo l 0 = m0) := ⟨_, rfl⟩
  rw [← hm00.out, hm0.out] at a2
  clear ha hm00
  go_enter Tryz.func35, Tryz.ntmps35
  go_wp2_with fail
  go_loopw [3, 4] (fun s i wn => ∃ j : Nat, j ≤ l.length ∧ i = .int .i64 j ∧ s = .int .i64 (leastTo l j) ∧ Kp [] w wn) (fun _ i _ => l.length - (intOf i).toNat)
  case atStart => exact ⟨0, Nat.zero_le _, rfl, by rw [hm0.out], Kp.refl _ _⟩
  case round =>
    clear a2
    obtain ⟨j, hj, rfl, rfl, kn⟩ := hrel
    by_cases hlt : j < l.length
    · have y2 := hat.out wr kn j hlt
      have hsu : Hid (leastTo l (j + 1) = min (leastTo l j) (l.getD j nv).n) := rfl
      obtain ⟨c, hc'⟩ : ∃ c, Hid (leastTo l j = c) := ⟨_, rfl⟩
      rw [hc'.out] at hsu ⊢
      generalize (l.getD j nv).n = vn at *
      go_wp2_with fail
      exact ⟨⟨j + 1, by omega, by go_num, by rw [hsu.out], kn⟩, by simp [intOf]; omega⟩
    · obtain rfl : j = l.length := by omega
      have hFe : Hid (F = be (u64 (leastTo l l.length)) 8 ++ [octet (wdt l (leastTo l l.length) l.length)] ++ packB (abvs l (leastTo l l.length) l.length) (wdt l (leastTo l l.length) l.length)) := by show _ = _; rw [← hF.out]; rfl
      obtain ⟨m, hmm⟩ : ∃ m, Hid (leastTo l l.length = m) := ⟨_, rfl⟩
      rw [hmm.out] at hFe ⊢
      clear hF hm0
      generalize wr = w1 at *
      have hn2 := hid (NwU.nil w1)
      go_wp2_with fail
      go_loopw [5, 6, 7] (fun v5 v6 i wn => ∃ (j : Nat) (ba : Option Addr) (bc : Nat) (ns : List Nat), j ≤ l.length ∧ i = .int .i64 j ∧ v6 = .int .i64 (wdt l m j) ∧ v5 = .slice ba ns.length bc ∧ NwU w1 wn ba bc ns ∧ Hid (ns = abvs l m j)) (fun _ _ i _ => l.length - (intOf i).toNat)
      case atStart => exact ⟨0, none, 0, [], Nat.zero_le _, rfl, rfl, rfl, hn2.out, by show _ = _; simp [abvs]⟩
      case round =>
        clear hn2
        obtain ⟨j, ba, bc, ns, hj, rfl, rfl, rfl, I, hns⟩ := hrel
        have hnl : ns.length ≤ 64 := by rw [hns.out, abvs_length]; exact Nat.le_trans hj hl
        by_cases hlt : j < l.length
        · have y2 := hat.out wr (kn.trans I.kp (by simp)) j hlt
          have hw1 : Hid (wdt l m (j + 1) = max (wdt l m j) (Lib.bitLen (abv l m j))) := rfl
          have hA : Hid (abv l m j = (((l.getD j nv).n - m) % 18446744073709551616).toNat) := rfl
          have hAb := abv_lt l m j
          have hab := abvs_succ l m j
          obtain ⟨A, hAA⟩ : ∃ A, Hid (abv l m j = A) := ⟨_, rfl⟩
          rw [hAA.out] at hw1 hA hAb hab
          generalize (l.getD j nv).n = vn at *
          have hval : IntKind.u64.wrap (IntKind.u64.wrap vn - IntKind.u64.wrap m) = (A : Int) := by
            rw [IntKind.wrap_u64, IntKind.wrap_u64, IntKind.wrap_u64, hA.out]; omega
          obtain ⟨v', X3, hrun, a3, c3, rfl, I3, kk3⟩ := I.app1 A (by omega)
          have cW := cRefWidth A X3 hAb
          obtain ⟨W0, hW0⟩ : ∃ W0, Hid (wdt l m j = W0) := ⟨_, rfl⟩
          obtain ⟨B0, hB0⟩ : ∃ B0, Hid (Lib.bitLen A = B0) := ⟨_, rfl⟩
          rw [hB0.out] at cW hw1
          rw [hW0.out] at hw1 ⊢
          have hnx : Hid (∃ (j' : Nat) (ba : Option Addr) (bc : Nat) (ns' : List Nat), j' ≤ l.length ∧ (.int .i64 ((j : Int) + 1) : Value) = .int .i64 j' ∧ (.int .i64 (max (W0 : Int) (B0 : Int)) : Value) = .int .i64 (wdt l m j') ∧ (.slice a3 (ns.length + 1) c3 : Value) = .slice ba ns'.length bc ∧ NwU w1 X3 ba bc ns' ∧ Hid (ns' = abvs l m j')) :=
            ⟨j + 1, a3, c3, ns ++ [A], by omega, by go_num, by rw [hw1.out]; congr 1; omega, by simp, I3, by show _ = _; rw [hab, hns.out]⟩
          clear I I3 hns hw1 hA hab kk3 hAA hB0 hW0
          go_wp2_with (first | (refine wpAppRun rfl _ _ 62 62 rfl _ _ _ rfl rfl hrun ?_) | fail)
          refine cW.mono ?_
          rintro e w9 ⟨rfl, hw9⟩
          rw [hw9]
          clear hw9 w9 cW hrun
          go_wp2_with fail
          exact ⟨hnx.out, by simp [intOf]; omega⟩
        · obtain rfl : j = l.length := by omega
          have hI := hid I
          have hwl := wdt_le l m l.length
          have hns64 : ∀ x ∈ ns, x < 18446744073709551616 := by rw [hns.out]; exact abvs_lt l m l.length
          rw [← hns.out] at hFe
          obtain ⟨W0, hW0⟩ : ∃ W0, Hid (wdt l m l.length = W0) := ⟨_, rfl⟩
          rw [hW0.out] at hFe hwl ⊢
          have hult : u64 m < 18446744073709551616 := by unfold u64; omega
          have hw0 : IntKind.u64.wrap m = ((u64 m : Nat) : Int) := by rw [IntKind.wrap_u64]; unfold u64; omega
          have cN := cRefNumber ((u64 m : Nat) : Int) wr (by omega) (by omega)
          rw [Int.toNat_natCast] at cN
          have hB8 : (be (u64 m) 8).length = 8 := be_length _ _
          obtain ⟨B8, hB⟩ : ∃ B8, Hid (be (u64 m) 8 = B8) := ⟨_, rfl⟩
          rw [hB.out] at cN hFe hB8
          have hB8' := hid hB8
          have hpl := packB_le ns W0 hnl hwl
          generalize u64 m = U at *
          have kw := kn.trans I.kp (by simp)
          clear I hns hmm hW0 hB hB8 kn
          go_wp2_with fail
          refine cN.mono ?_
          rintro e w3 ⟨v3, rfl, hr3, hn3, k3⟩
          obtain ⟨a3, c3, rfl, I3⟩ := NwB.of hr3 hn3 k3
          have hvx : (W0 : Int) = ((octet W0).toNat : Int) := by rw [octet_nat W0 (by omega)]
          have hb8 : B8.length ≤ 100000 := by rw [hB8'.out]; omega
          obtain ⟨v4, X4, hrun4, a4, c4, rfl, I4, kk4⟩ := I3.app1 (octet W0) (W0 : Int) hvx hb8
          have k4 : Kp [] wr X4 := I4.kp
          have cP := cRefPacked ba bc ns W0 X4 (hI.out.keep k4).see hnl hns64 hwl
          obtain ⟨PB, hPB⟩ : ∃ PB, Hid (packB ns W0 = PB) := ⟨_, rfl⟩
          rw [hPB.out] at cP hFe hpl
          have hI4 := hid I4
          have hvx' := hid hvx
          have hwz : IntKind.u8.wrap (W0 : Int) = (W0 : Int) := by rw [IntKind.wrap_u8]; omega
          have hwz2 : (W0 : Int) % 256 = (W0 : Int) := by omega
          clear cN hr3 hn3 I3 I4 hI hPB kk4 hns64 hvx
          go_wp2_with (first | (refine wpAppRun rfl _ _ 22 22 rfl _ _ _ rfl rfl hrun4 ?_) | fail)
          refine cP.mono ?_
          rintro e w5 ⟨a5, c5, rfl, hr5, k5, hn5⟩
          obtain ⟨hs5, _, _⟩ := rowSee hr5
          have el : (B8 ++ [octet W0]).length = B8.length + 1 := by simp
          obtain ⟨v6, X6, hrun6, a6, c6, rfl, I6, kk6⟩ := (hI4.out.keep k5).appS a5 c5 PB hs5 (by rw [el, hB8'.out]; omega) (by omega)
          rw [el] at hrun6
          have hfin : NB F w (.returned (.slice a6 ((B8 ++ [octet W0]).length + PB.length) c6)) X6 := by
            have e : (B8 ++ [octet W0]) ++ PB = F := hFe.out.symm
            rw [e] at I6
            have e2 : (B8 ++ [octet W0]).length + PB.length = F.length := by rw [← e]; exact (List.length_append).symm
            rw [e2]
            have I7 := I6.back kw
            exact ⟨a6, c6, rfl, rowByt.1 I7.row, I7.kp, I7.new⟩
          rw [el] at hfin
          clear cP hr5 hn5 hs5 I6 kk6 hI4 hFe el
          go_wp2_with (first | (refine wpAppRun rfl _ _ 22 22 rfl _ _ _ rfl rfl hrun6 ?_) | fail)
          go_ret
          exact hfin
end Go.Proofs.YtpekgpgfdiffcaaGreat
end

section
namespace Go.Proofs.YtpekgpgfdiffcaaGreat
open Go.RowKit Go.Hay
set_option linter.unusedVariables false
set_option linter.unusedSimpArgs false

/-- A value put in its place. -/
def insR (x : Val) : List Val → List Val
  | [] => [x]
  | y :: r => if cmpV x y < 0 then x :: y :: r else if cmpV x y = 0 then x :: r else y :: insR x r
def wordsV : List Val → List Val → List Val
  | out, [] => out
  | out, x :: l => wordsV (insR x out) l
theorem cmpV_neg {x y : Val} : cmpV x y < 0 ↔ x.lt y = true := by
  have := ltV x y
  unfold ltOf at this
  rw [← this]; simp
theorem cmp_same {x y : Val} (hx : x.right = true) (hy : y.right = true) (h : cmpV x y = 0) : x = y := by
  obtain ⟨h1, h2⟩ := (cmp_zero x y).1 h
  exact lt_total x y hx hy h1 h2
theorem cmp_pos {x y : Val} (hx : x.right = true) (hy : y.right = true) (h1 : ¬ cmpV x y < 0) (h2 : ¬ cmpV x y = 0) : y.lt x = true := by
  cases h : y.lt x with
  | true => rfl
  | false =>
    have h3 : x.lt y = false := by
      cases h4 : x.lt y with
      | false => rfl
      | true => exact absurd (cmpV_neg.2 h4) h1
    exact absurd ((cmp_zero x y).2 ⟨h3, h⟩) h2
theorem insR_mem (x z : Val) (hx : x.right = true) : ∀ l : List Val, allR l = true → (z ∈ insR x l ↔ z = x ∨ z ∈ l)
  | [], _ => by simp [insR]
  | y :: r, h => by
    have hy : y.right = true := by simp [allR] at h; exact h.1
    have hr : allR r = true := by simp [allR] at h ⊢; exact h.2
    rw [insR]
    split
    · simp
    · split
      · rename_i h1 h2
        have := cmp_same hx hy h2
        subst this
        simp
      · have ih := insR_mem x z hx r hr
        simp only [List.mem_cons, ih]
        constructor
        · rintro (h | h | h)
          · exact .inr (.inl h)
          · exact .inl h
          · exact .inr (.inr h)
        · rintro (h | h | h)
          · exact .inr (.inl h)
          · exact .inl h
          · exact .inr (.inr h)
theorem insR_right (x : Val) (hx : x.right = true) (l : List Val) (h : allR l = true) : allR (insR x l) = true := List.all_eq_true.2 fun z hz => by
  rcases (insR_mem x z hx l h).1 hz with h1 | h1
  · rw [h1]; exact hx
  · exact List.all_eq_true.1 h z h1
theorem insR_sorted (x : Val) (hx : x.right = true) : ∀ l : List Val, allR l = true → l.Pairwise (fun a b => a.lt b = true) → (insR x l).Pairwise (fun a b => a.lt b = true)
  | [], _, _ => by simp [insR]
  | y :: r, h, hp => by
    have hy : y.right = true := by simp [allR] at h; exact h.1
    have hr : allR r = true := by simp [allR] at h ⊢; exact h.2
    obtain ⟨hp1, hp2⟩ := List.pairwise_cons.1 hp
    rw [insR]
    split
    · rename_i h1
      have hxy := cmpV_neg.1 h1
      refine List.pairwise_cons.2 ⟨fun z hz => ?_, hp⟩
      rcases List.mem_cons.1 hz with rfl | hz
      · exact hxy
      · exact ltV_trans x y z hxy (hp1 z hz)
    · split
      · rename_i h1 h2
        have := cmp_same hx hy h2
        subst this
        exact hp
      · rename_i h1 h2
        have hyx := cmp_pos hx hy h1 h2
        refine List.pairwise_cons.2 ⟨fun z hz => ?_, insR_sorted x hx r hr hp2⟩
        rcases (insR_mem x z hx r hr).1 hz with h3 | h3
        · rw [h3]; exact hyx
        · exact hp1 z h3
theorem wordsV_all : ∀ (l out : List Val), allR l = true → allR out = true → out.Pairwise (fun a b => a.lt b = true) → (wordsV out l).Pairwise (fun a b => a.lt b = true) ∧ ∀ z, z ∈ wordsV out l ↔ z ∈ out ∨ z ∈ l
  | [], out, _, _, hp => ⟨hp, fun z => by simp [wordsV]⟩
  | x :: l, out, h, ho, hp => by
    have hx : x.right = true := by simp [allR] at h; exact h.1
    have hr : allR l = true := by simp [allR] at h ⊢; exact h.2
    obtain ⟨h1, h2⟩ := wordsV_all l (insR x out) hr (insR_right x hx out ho) (insR_sorted x hx out ho hp)
    refine ⟨h1, fun z => ?_⟩
    show z ∈ wordsV (insR x out) l ↔ _
    rw [h2 z, insR_mem x z hx out ho, List.mem_cons]
    constructor
    · rintro ((h | h) | h)
      · exact .inr (.inl h)
      · exact .inl h
      · exact .inr (.inr h)
    · rintro (h | h | h)
      · exact .inl (.inr h)
      · exact .inl (.inl h)
      · exact .inr h
theorem lt_irr (x : Val) : x.lt x = false := by
  cases h : x.lt x with
  | false => rfl
  | true => have := Val.lt_asymm x x h; rw [h] at this; cases this
theorem sort_sorted (l : List Val) : (sortV l).Pairwise (fun x y => y.lt x = false) := by
  have := List.pairwise_mergeSort (le := fun x y : Val => !(y.lt x)) (fun a b c h1 h2 => by simp only [Bool.not_eq_true'] at *; exact Val.lt_ntrans a b c h1 h2) (fun a b => by
    cases h : b.lt a with
    | false => simp
    | true => simp [Val.lt_asymm b a h]) l
  exact this.imp (by simp)
theorem cpt_sorted (s : List Val) (hr : allR s = true) (hs : s.Pairwise (fun x y => y.lt x = false)) : ∀ j, j ≤ s.length → (cptTo s j).Pairwise (fun a b => a.lt b = true) ∧ (0 < j → ∀ z ∈ cptTo s j, z.lt (s.getD (j - 1) nv) = true ∨ z = s.getD (j - 1) nv) := by
  intro j
  induction j with
  | zero => intro _; exact ⟨by simp [cptTo], fun h => absurd h (by omega)⟩
  | succ j ih =>
    intro hj
    obtain ⟨h1, h2⟩ := ih (by omega)
    have hjl : j < s.length := by omega
    have ej : s.getD j nv = s[j] := by simp [hjl]
    by_cases hc : j ≠ 0 ∧ (s.getD j nv).eqv (s.getD (j - 1) nv) = true
    · rw [cptTo_same s j hc.1 hc.2]
      refine ⟨h1, fun _ z hz => ?_⟩
      have e := eqv_iff.1 hc.2
      rw [Nat.add_sub_cancel, e]
      exact h2 (by omega) z hz
    · have hc' : j = 0 ∨ (s.getD j nv).eqv (s.getD (j - 1) nv) = false := by
        by_cases h0 : j = 0
        · exact .inl h0
        · refine .inr ?_
          cases he : (s.getD j nv).eqv (s.getD (j - 1) nv) with
          | false => rfl
          | true => exact absurd ⟨h0, he⟩ hc
      rw [cptTo_new s j hc']
      have hlt : ∀ z ∈ cptTo s j, z.lt (s.getD j nv) = true := fun z hz => by
        have h0 : 0 < j := by
          rcases Nat.eq_zero_or_pos j with h0 | h0
          · subst h0; simp [cptTo] at hz
          · exact h0
        have hj1 : j - 1 < s.length := by omega
        have ej1 : s.getD (j - 1) nv = s[j - 1] := by simp [hj1]
        have hpp := List.pairwise_iff_getElem.1 hs (j - 1) j hj1 hjl (by omega)
        have hne : s.getD j nv ≠ s.getD (j - 1) nv := fun e => by
          rcases hc' with h3 | h3
          · omega
          · rw [e, eqv_self] at h3; cases h3
        have hstep : (s.getD (j - 1) nv).lt (s.getD j nv) = true := by
          cases hl : (s.getD (j - 1) nv).lt (s.getD j nv) with
          | true => rfl
          | false =>
            exact absurd (lt_total _ _ (by rw [ej]; exact List.all_eq_true.1 hr _ (List.getElem_mem hjl)) (by rw [ej1]; exact List.all_eq_true.1 hr _ (List.getElem_mem hj1)) (by rw [ej, ej1]; exact hpp) hl) hne
        rcases h2 h0 z hz with h3 | h3
        · exact ltV_trans _ _ _ h3 hstep
        · rw [h3]; exact hstep
      refine ⟨List.pairwise_append.2 ⟨h1, by simp, fun a ha b hb => ?_⟩, fun _ z hz => ?_⟩
      · rw [List.mem_singleton.1 hb]; exact hlt a ha
      · rw [Nat.add_sub_cancel]
        rcases List.mem_append.1 hz with h3 | h3
        · exact .inl (hlt z h3)
        · exact .inr (List.mem_singleton.1 h3)
theorem nodup_of {l : List Val} (h : l.Pairwise (fun a b => a.lt b = true)) : l.Nodup := h.imp (fun {a b} hab e => by subst e; rw [lt_irr] at hab; cases hab)
/-- The reference's words are the unlike values in order. -/
theorem words_uniq (l : List Val) (h : allR l = true) : wordsV [] l = uniq l := by
  obtain ⟨h1, h2⟩ := wordsV_all l [] h rfl (by simp)
  have hsr : allR (sortV l) = true := List.all_eq_true.2 fun x hx => List.all_eq_true.1 h x ((List.mergeSort_perm l _).mem_iff.1 hx)
  have h3 : (uniq l).Pairwise (fun a b => a.lt b = true) := (cpt_sorted (sortV l) hsr (sort_sorted l) _ (Nat.le_refl _)).1
  have hp : (wordsV [] l).Perm (uniq l) := (List.perm_ext_iff_of_nodup (nodup_of h1) (nodup_of h3)).2 fun z => by rw [h2 z, uniq_mem]; simp
  refine List.Perm.eq_of_pairwise ?_ h1 h3 hp
  intro a b _ _ hab hba
  rw [Val.lt_asymm a b hab] at hba
  cases hba
theorem uniq_sorted (l : List Val) (h : allR l = true) : (uniq l).Nodup := by
  have hsr : allR (sortV l) = true := List.all_eq_true.2 fun x hx => List.all_eq_true.1 h x ((List.mergeSort_perm l _).mem_iff.1 hx)
  exact nodup_of (cpt_sorted (sortV l) hsr (sort_sorted l) _ (Nat.le_refl _)).1
end Go.Proofs.YtpekgpgfdiffcaaGreat
end

section
namespace Go.Proofs.YtpekgpgfdiffcaaGreat
open Go.RowKit Go.Hay
set_option linter.unusedVariables false
set_option linter.unusedSimpArgs false

/-- A row of values of the call's own, all new. -/
structure NwV (w W : World) (a : Option Addr) (c : Nat) (l : List Val) : Prop where
  row : VE.Row W (.slice a l.length c) l
  new : ∀ k ∈ blk a, w.heap.size ≤ k
  kp : Kp [] w W
theorem NwV.keep {w W W' : World} {a : Option Addr} {c : Nat} {l : List Val} (h : NwV w W a c l) (k : Kp [] W W') : NwV w W' a c l := ⟨h.row.keptNew k, h.new, h.kp.trans k (by simp)⟩
theorem NwV.nil (w : World) : NwV w w none 0 [] := ⟨.inl ⟨rfl, rfl⟩, by simp [blk], Kp.refl _ _⟩
theorem NwV.back {w W W' : World} {a : Option Addr} {c : Nat} {l : List Val} (h : NwV W W' a c l) (k : Kp [] w W) : NwV w W' a c l := ⟨h.row, fun q hq => by have := h.new q hq; have := k.size; omega, k.trans h.kp (by simp)⟩
theorem NwV.app1 {w W : World} {a : Option Addr} {c : Nat} {l : List Val} (h : NwV w W a c l) (x : Val) (hl : l.length ≤ 100000) :
    ∃ v' W', (Builtin.append_ #[23, 23] 23 #[.slice a l.length c, .slice (some ⟨W.heap.size, 0, none⟩) 1 1]).run Tryz.prog (W.alloc (.cells #[.int .i64 x.k, .bool x.b, .int .i64 x.n, .string x.t] 38)) = .ok v' W' ∧ ∃ a' c', v' = .slice a' (l.length + 1) c' ∧ NwV w W' a' c' (l ++ [x]) ∧ Kp (blk a) W W' := by
  obtain ⟨i0, hi, hz0, hz1, hz2⟩ := infoV'
  have kA : Kp [] W (W.alloc (.cells #[.int .i64 x.k, .bool x.b, .int .i64 x.n, .string x.t] 38)) := (Kp.refl _ _).alloc _
  have hsrc := (oneV W rfl x 38).src (P := Tryz.prog) Tryz.underlying23 1
  obtain ⟨v6, X4, hrun2, hrow6, kk6, hn6⟩ := run_appendG (E := VE) (P := Tryz.prog) _ 23 23 23 38 i0 _ 40 Tryz.underlying23 hi hz0 hz1 hz2 rfl (.slice a l.length c) l (h.row.keptNew kA) _ [x] hsrc (by simp; omega) (by simp; omega)
  obtain ⟨a6, c6, rfl, _⟩ := hrow6.see
  rw [ownS] at kk6
  have el : (l ++ [x]).length = l.length + 1 := by simp
  refine ⟨_, X4, hrun2, a6, c6, by rw [el], ⟨hrow6, fun q hq => ?_, (h.kp.trans kA (by simp)).trans kk6 (fun q hq => .inr (h.new q hq))⟩, (kA.mono (fun x hx => by simp at hx)).trans kk6 (fun q hq => .inl hq)⟩
  rcases hn6 q (by rw [ownS]; exact hq) with h1 | h1
  · rw [ownS] at h1; exact h.new q h1
  · have := h.kp.size; have := kA.size; omega
theorem insR_len (x : Val) : ∀ l : List Val, (insR x l).length ≤ l.length + 1
  | [] => by simp [insR]
  | y :: r => by
    have := insR_len x r
    rw [insR]
    split
    · simp
    · split
      · simp
      · simp; omega
/-- What becomes of it from here on. -/
def finW (x : Val) (d : Bool) (acc rest : List Val) : List Val := if d then acc ++ rest else acc ++ insR x rest
set_option maxHeartbeats 16000000 in
set_option maxRecDepth 100000 in
theorem cRefWords (a : Option Addr) (ca : Nat) (l : List Val) (w : World) (ha : Vals w a l) (hl : l.length ≤ 64) :
    Calls Tryz.prog 53 #[.slice a l.length ca] w fun e w' => ∃ a' c', e = .returned (.slice a' (wordsV [] l).length c') ∧ NwV w w' a' c' (wordsV [] l) := by
  obtain ⟨F, hF⟩ : ∃ F, Hid (wordsV [] l = F) := ⟨_, rfl⟩
  rw [hF.out]
  have ha' := hid ha
  have hnil := hid (NwV.nil w)
  clear ha
  go_enter Tryz.func53, Tryz.ntmps53
  go_wp2_with fail
  go_loopw [3, 4] (fun v3 i wn => ∃ (j : Nat) (oa : Option Addr) (oc : Nat) (out : List Val), j ≤ l.length ∧ i = .int .i64 j ∧ v3 = .slice oa out.length oc ∧ out.length ≤ j ∧ NwV w wn oa oc out ∧ Hid (wordsV out (l.drop j) = F)) (fun _ i _ => l.length - (intOf i).toNat)
  case atStart => exact ⟨0, none, 0, [], Nat.zero_le _, rfl, rfl, Nat.zero_le _, hnil.out, hF⟩
  case round =>
    clear hnil hF
    obtain ⟨j, oa, oc, out, hj, rfl, rfl, hol, I, hF⟩ := hrel
    by_cases hlt : j < l.length
    · rw [List.drop_eq_getElem_cons hlt, wordsV] at hF
      obtain ⟨g, o, rfl, hdrop⟩ := (ha'.out.kept I.kp).at j hlt
      clear hdrop
      have hcx : Hid (∀ W, Kp [] wr W → W.cell? ⟨g, o + j * 4, none⟩ = some (.int .i64 (l[j]'hlt).k) ∧ W.cell? ⟨g, o + j * 4 + 1, none⟩ = some (.bool (l[j]'hlt).b) ∧ W.cell? ⟨g, o + j * 4 + 2, none⟩ = some (.int .i64 (l[j]'hlt).n) ∧ W.cell? ⟨g, o + j * 4 + 3, none⟩ = some (.string (l[j]'hlt).t)) := fun W kW => by
        obtain ⟨_, _, e, y0, y1, y2, y3⟩ := (ha'.out.kept (I.kp.trans kW (by simp))).at j hlt
        cases e
        exact ⟨y0, y1, y2, y3⟩
      obtain ⟨x, hx⟩ : ∃ x, Hid (l[j]'hlt = x) := ⟨l[j]'hlt, rfl⟩
      rw [hx.out] at hF
      simp only [hx.out] at hcx
      have hov : Hid (∀ W, Kp [] wr W → Vals W oa out) := fun W kW => (rowVals (I.row.keptNew kW)).1
      have hil := insR_len x out
      have hfin0 : Hid (finW x false [] out = insR x out) := by show _ = _; unfold finW; simp
      obtain ⟨Q, hQ⟩ : ∃ Q, Hid (insR x out = Q) := ⟨_, rfl⟩
      rw [hQ.out] at hfin0 hil hF
      have kI := I.kp
      generalize wr = w1 at *
      have hn1 := hid (NwV.nil w1)
      clear hQ I hx
      obtain ⟨xk, xb, xn, xt⟩ := x
      dsimp only at hcx
      go_wp2_with fail
      go_loopw [5, 6, 7] (fun v5 v6 v7 wn => ∃ (k : Nat) (d : Bool) (na : Option Addr) (nc : Nat) (nx : List Val), k ≤ out.length ∧ v7 = .int .i64 k ∧ v6 = .bool d ∧ v5 = .slice na nx.length nc ∧ nx.length ≤ k + d.toNat ∧ NwV w1 wn na nc nx ∧ Hid (finW ⟨xk, xb, xn, xt⟩ d nx (out.drop k) = Q)) (fun _ _ v7 _ => out.length - (intOf v7).toNat)
      case atStart => exact ⟨0, false, none, 0, [], Nat.zero_le _, rfl, rfl, rfl, Nat.zero_le _, hn1.out, hfin0⟩
      case round =>
        clear hn1 hfin0
        obtain ⟨k, d, na, nc, nx, hk, rfl, rfl, rfl, hnl0, I, hfin⟩ := hrel
        have hnl : nx.length ≤ k + 1 := by cases d <;> simp at hnl0 <;> omega
        have hnl1 := hid hnl0
        clear hnl0
        by_cases hko : k < out.length
        · rw [List.drop_eq_getElem_cons hko] at hfin
          obtain ⟨g2, o2, rfl, hdrop⟩ := (hov.out wr I.kp).at k hko
          clear hdrop
          have hcy : Hid (∀ W, Kp [] w1 W → W.cell? ⟨g2, o2 + k * 4, none⟩ = some (.int .i64 (out[k]'hko).k) ∧ W.cell? ⟨g2, o2 + k * 4 + 1, none⟩ = some (.bool (out[k]'hko).b) ∧ W.cell? ⟨g2, o2 + k * 4 + 2, none⟩ = some (.int .i64 (out[k]'hko).n) ∧ W.cell? ⟨g2, o2 + k * 4 + 3, none⟩ = some (.string (out[k]'hko).t)) := fun W kW => by
            obtain ⟨_, _, e, y0, y1, y2, y3⟩ := (hov.out W kW).at k hko
            cases e
            exact ⟨y0, y1, y2, y3⟩
          obtain ⟨y, hy⟩ : ∃ y, Hid (out[k]'hko = y) := ⟨out[k]'hko, rfl⟩
          rw [hy.out] at hfin
          simp only [hy.out] at hcy
          have cC : Hid (∀ W, Calls Tryz.prog 73 #[.agg #[.int .i64 xk, .bool xb, .int .i64 xn, .string xt], y.v] W fun e w' => e = .returned (.int .i64 (cmpV ⟨xk, xb, xn, xt⟩ y)) ∧ Kp [] W w') := fun W => cRefCompare ⟨xk, xb, xn, xt⟩ y W
          obtain ⟨yk, yb, yn, yt⟩ := y
          unfold Val.v at cC
          dsimp only at hcy cC
          have hins : Hid (insR ⟨xk, xb, xn, xt⟩ (⟨yk, yb, yn, yt⟩ :: out.drop (k + 1)) = if cmpV ⟨xk, xb, xn, xt⟩ ⟨yk, yb, yn, yt⟩ < 0 then ⟨xk, xb, xn, xt⟩ :: ⟨yk, yb, yn, yt⟩ :: out.drop (k + 1) else if cmpV ⟨xk, xb, xn, xt⟩ ⟨yk, yb, yn, yt⟩ = 0 then ⟨xk, xb, xn, xt⟩ :: out.drop (k + 1) else ⟨yk, yb, yn, yt⟩ :: insR ⟨xk, xb, xn, xt⟩ (out.drop (k + 1))) := rfl
          obtain ⟨C, hC⟩ : ∃ C, Hid (cmpV ⟨xk, xb, xn, xt⟩ ⟨yk, yb, yn, yt⟩ = C) := ⟨_, rfl⟩
          simp only [hC.out] at cC
          rw [hC.out] at hins
          have hS : Hid (∀ A, Kp [] w1 A → (A.cell? ⟨g, o + j * 4, none⟩ = some (.int .i64 xk) ∧ A.cell? ⟨g, o + j * 4 + 1, none⟩ = some (.bool xb) ∧ A.cell? ⟨g, o + j * 4 + 2, none⟩ = some (.int .i64 xn) ∧ A.cell? ⟨g, o + j * 4 + 3, none⟩ = some (.string xt)) ∧ (A.cell? ⟨g2, o2 + k * 4, none⟩ = some (.int .i64 yk) ∧ A.cell? ⟨g2, o2 + k * 4 + 1, none⟩ = some (.bool yb) ∧ A.cell? ⟨g2, o2 + k * 4 + 2, none⟩ = some (.int .i64 yn) ∧ A.cell? ⟨g2, o2 + k * 4 + 3, none⟩ = some (.string yt))) := fun A kA => ⟨hcx.out A kA, hcy.out A kA⟩
          have kIw := I.kp
          have hI := hid I
          have kd : Kp [] w1 wr.drew := kIw.drew
          have kd2 : Kp [] wr wr.drew := (Kp.refl _ _).drew
          clear hy hC I
          go_wp2_with fail
          refine wp_region_held_drew (S := (fun A => (A.cell? ⟨g, o + j * 4, none⟩ = some (.int .i64 xk) ∧ A.cell? ⟨g, o + j * 4 + 1, none⟩ = some (.bool xb) ∧ A.cell? ⟨g, o + j * 4 + 2, none⟩ = some (.int .i64 xn) ∧ A.cell? ⟨g, o + j * 4 + 3, none⟩ = some (.string xt)) ∧ (A.cell? ⟨g2, o2 + k * 4, none⟩ = some (.int .i64 yk) ∧ A.cell? ⟨g2, o2 + k * 4 + 1, none⟩ = some (.bool yb) ∧ A.cell? ⟨g2, o2 + k * 4 + 2, none⟩ = some (.int .i64 yn) ∧ A.cell? ⟨g2, o2 + k * 4 + 3, none⟩ = some (.string yt)))) (by kernel_rfl) ?_ (fun hHeld => ?_)
          · exact hS.out _ kd
          generalize wr.drew = wd at *
          refine wpAnyH_take (i := 0) (v := ?_) rfl (by kernel_rfl) (by kernel_rfl) (by kernel_rfl) (fun _ _ _ h => h) (Or.inl ⟨by rfl, ?_⟩) (by assumption) ?_
          rotate_left
          · intro w hSw; (try dsimp only at hSw); go_simp <;> with_reducible rfl
          try simp only [Act.put, List.getElem_toArray, List.getElem_cons_zero, List.getElem_cons_succ, List.setIfInBounds_toArray, List.set_cons_zero, List.set_cons_succ]
          refine wpAnyH_take (i := 1) (v := ?_) rfl (by kernel_rfl) (by kernel_rfl) (by kernel_rfl) (fun _ _ _ h => h) (Or.inl ⟨by rfl, ?_⟩) (by assumption) ?_
          rotate_left
          · intro w hSw; (try dsimp only at hSw); go_simp <;> with_reducible rfl
          try simp only [Act.put, List.getElem_toArray, List.getElem_cons_zero, List.getElem_cons_succ, List.setIfInBounds_toArray, List.set_cons_zero, List.set_cons_succ]
          refine wpAnyH_take (i := 2) (v := ?_) rfl (by kernel_rfl) (by kernel_rfl) (by kernel_rfl) (fun _ _ _ h => h) (Or.inl ⟨by rfl, ?_⟩) (by assumption) ?_
          rotate_left
          · intro w hSw; (try dsimp only at hSw); go_simp <;> with_reducible rfl
          try simp only [Act.put, List.getElem_toArray, List.getElem_cons_zero, List.getElem_cons_succ, List.setIfInBounds_toArray, List.set_cons_zero, List.set_cons_succ]
          refine wpAnyH_take (i := 3) (v := ?_) rfl (by kernel_rfl) (by kernel_rfl) (by kernel_rfl) (fun _ _ _ h => h) (Or.inl ⟨by rfl, ?_⟩) (by assumption) ?_
          rotate_left
          · intro w hSw; (try dsimp only at hSw); go_simp <;> with_reducible rfl
          try simp only [Act.put, List.getElem_toArray, List.getElem_cons_zero, List.getElem_cons_succ, List.setIfInBounds_toArray, List.set_cons_zero, List.set_cons_succ]
          refine wpAnyH_take (i := 4) (v := ?_) rfl (by kernel_rfl) (by kernel_rfl) (by kernel_rfl) (fun _ _ _ h => h) (Or.inl ⟨by rfl, ?_⟩) (by assumption) ?_
          rotate_left
          · intro w hSw; (try dsimp only at hSw); go_simp <;> with_reducible rfl
          try simp only [Act.put, List.getElem_toArray, List.getElem_cons_zero, List.getElem_cons_succ, List.setIfInBounds_toArray, List.set_cons_zero, List.set_cons_succ]
          refine wpAnyH_take (i := 5) (v := ?_) rfl (by kernel_rfl) (by kernel_rfl) (by kernel_rfl) (fun _ _ _ h => h) (Or.inl ⟨by rfl, ?_⟩) (by assumption) ?_
          rotate_left
          · intro w hSw; (try dsimp only at hSw); go_simp <;> with_reducible rfl
          try simp only [Act.put, List.getElem_toArray, List.getElem_cons_zero, List.getElem_cons_succ, List.setIfInBounds_toArray, List.set_cons_zero, List.set_cons_succ]
          refine wpAnyH_take (i := 6) (v := ?_) rfl (by kernel_rfl) (by kernel_rfl) (by kernel_rfl) (fun _ _ _ h => h) (Or.inl ⟨by rfl, ?_⟩) (by assumption) ?_
          rotate_left
          · intro w hSw; (try dsimp only at hSw); go_simp <;> with_reducible rfl
          try simp only [Act.put, List.getElem_toArray, List.getElem_cons_zero, List.getElem_cons_succ, List.setIfInBounds_toArray, List.set_cons_zero, List.set_cons_succ]
          refine wpAnyH_take (i := 7) (v := ?_) rfl (by kernel_rfl) (by kernel_rfl) (by kernel_rfl) (fun _ _ _ h => h) (Or.inl ⟨by rfl, ?_⟩) (by assumption) ?_
          rotate_left
          · intro w hSw; (try dsimp only at hSw); go_simp <;> with_reducible rfl
          try simp only [Act.put, List.getElem_toArray, List.getElem_cons_zero, List.getElem_cons_succ, List.setIfInBounds_toArray, List.set_cons_zero, List.set_cons_succ]
          refine wpAnyH_ready (rs := [8]) (by kernel_rfl) (by simp) ?_
          refine AllReadyH.cons rfl (fun K hK => ?_) AllReadyH.nil
          go_simp
          refine (cC.out wd).mono ?_
          rintro e w2 ⟨rfl, k2⟩
          (try go_wp2_with fail)
          refine hK.out _ _ ?_ (fun hHeld => ?_)
          · exact hS.out _ (kd.trans k2 (by simp))
          clear hK K
          try simp only [Act.put, List.getElem_toArray, List.getElem_cons_zero, List.getElem_cons_succ, List.setIfInBounds_toArray, List.set_cons_zero, List.set_cons_succ]
          refine wpAnyH_take (i := 9) (v := ?_) rfl (by kernel_rfl) (by kernel_rfl) (by kernel_rfl) (fun _ _ _ h => h) (Or.inl ⟨by rfl, ?_⟩) (by assumption) ?_
          rotate_left
          · intro w hSw; (try dsimp only at hSw); go_simp <;> with_reducible rfl
          try simp only [Act.put, List.getElem_toArray, List.getElem_cons_zero, List.getElem_cons_succ, List.setIfInBounds_toArray, List.set_cons_zero, List.set_cons_succ]
          refine wpAnyH_done (by kernel_rfl) ?_ _
          have kw2 := kd.trans k2 (by simp)
          have I2 := hI.out.keep (kd2.trans k2 (by simp))
          obtain ⟨⟨p0, p1, p2, p3⟩, r0, r1, r2, r3⟩ := hS.out w2 kw2
          clear hHeld hI cC hcx hcy
          have hgo : Hid (∀ (d' : Bool) (nx' : List Val) (W : World) (a' : Option Addr) (c' : Nat) (n' : Nat), n' = nx'.length → NwV w1 W a' c' nx' → nx'.length ≤ k + 1 + d'.toNat → finW ⟨xk, xb, xn, xt⟩ d' nx' (out.drop (k + 1)) = Q → ∃ (k' : Nat) (d : Bool) (na : Option Addr) (nc : Nat) (nx : List Val), k' ≤ out.length ∧ (.int .i64 ((k : Int) + 1) : Value) = .int .i64 k' ∧ (.bool d' : Value) = .bool d ∧ (.slice a' n' c' : Value) = .slice na nx.length nc ∧ nx.length ≤ k' + d.toNat ∧ NwV w1 W na nc nx ∧ Hid (finW ⟨xk, xb, xn, xt⟩ d nx (out.drop k') = Q)) := fun d' nx' W a' c' n' hn' I' hl' hf' => ⟨k + 1, d', a', c', nx', by omega, by go_num, rfl, by rw [hn'], hl', I', hf'⟩
          have hI2 := hid I2
          clear I2
          cases d with
          | true =>
            obtain ⟨v3, X3, hrun3, a3, c3, rfl, I3, _⟩ := hI2.out.app1 ⟨yk, yb, yn, yt⟩ (by omega)
            dsimp only at hrun3
            have hN := hid (hgo.out true (nx ++ [⟨yk, yb, yn, yt⟩]) X3 a3 c3 (nx.length + 1) (by simp) I3 (by have := hnl1.out; simp at this ⊢; omega) (by rw [← hfin.out]; unfold finW; simp))
            clear hgo I3 hI2 hfin hins
            go_wp2_with (first | (refine wpAppRun rfl _ _ 23 23 rfl _ _ _ rfl rfl hrun3 ?_) | fail)
            exact ⟨hN.out, by simp [intOf]; omega⟩
          | false =>
            have hf0 : Hid (nx ++ insR ⟨xk, xb, xn, xt⟩ (⟨yk, yb, yn, yt⟩ :: out.drop (k + 1)) = Q) := hfin
            rw [hins.out] at hf0
            by_cases hneg : C < 0
            · rw [if_pos hneg] at hf0
              obtain ⟨v3, X3, hrun3, a3, c3, rfl, I3, kk3⟩ := hI2.out.app1 ⟨xk, xb, xn, xt⟩ (by omega)
              have k3 : Kp [] w1 X3 := I3.kp
              obtain ⟨_, s0, s1, s2, s3⟩ := hS.out X3 k3
              have el : (nx ++ [(⟨xk, xb, xn, xt⟩ : Val)]).length = nx.length + 1 := by simp
              obtain ⟨v4, X4, hrun4, a4, c4, rfl, I4, _⟩ := I3.app1 ⟨yk, yb, yn, yt⟩ (by rw [el]; omega)
              rw [el] at hrun4
              dsimp only at hrun3 hrun4
              have hN := hid (hgo.out true (nx ++ [⟨xk, xb, xn, xt⟩] ++ [⟨yk, yb, yn, yt⟩]) X4 a4 c4 (nx.length + 1 + 1) (by simp) I4 (by have := hnl1.out; simp at this ⊢; omega) (by rw [← hf0.out]; unfold finW; simp))
              have d1 : C ≤ 0 := by omega
              have d2 : (C == 0) = false := by rw [beq_eq_false_iff_ne]; omega
              clear hgo I3 I4 hI2 hfin hins hf0 hS kk3 k3 el
              go_wp2_with (first | (refine wpAppRun rfl _ _ 23 23 rfl _ _ _ rfl rfl hrun3 ?_) | (refine wpAppRun rfl _ _ 23 23 rfl _ _ _ rfl rfl hrun4 ?_) | fail)
              exact ⟨hN.out, by simp [intOf]; omega⟩
            · rw [if_neg hneg] at hf0
              by_cases hz : C = 0
              · rw [if_pos hz] at hf0
                subst hz
                obtain ⟨v3, X3, hrun3, a3, c3, rfl, I3, kk3⟩ := hI2.out.app1 ⟨xk, xb, xn, xt⟩ (by omega)
                dsimp only at hrun3
                have hN := hid (hgo.out true (nx ++ [⟨xk, xb, xn, xt⟩]) X3 a3 c3 (nx.length + 1) (by simp) I3 (by have := hnl1.out; simp at this ⊢; omega) (by rw [← hf0.out]; unfold finW; simp))
                clear hgo I3 hI2 hfin hins hf0 hS kk3
                go_wp2_with (first | (refine wpAppRun rfl _ _ 23 23 rfl _ _ _ rfl rfl hrun3 ?_) | fail)
                exact ⟨hN.out, by simp [intOf]; omega⟩
              · rw [if_neg hz] at hf0
                obtain ⟨v3, X3, hrun3, a3, c3, rfl, I3, _⟩ := hI2.out.app1 ⟨yk, yb, yn, yt⟩ (by omega)
                dsimp only at hrun3
                have hN := hid (hgo.out false (nx ++ [⟨yk, yb, yn, yt⟩]) X3 a3 c3 (nx.length + 1) (by simp) I3 (by have := hnl1.out; simp at this ⊢; omega) (by rw [← hf0.out]; unfold finW; simp))
                have d1 : ¬ C ≤ 0 := by omega
                clear hgo I3 hI2 hfin hins hf0 hS
                go_wp2_with (first | (refine wpAppRun rfl _ _ 23 23 rfl _ _ _ rfl rfl hrun3 ?_) | fail)
                exact ⟨hN.out, by simp [intOf]; omega⟩
        · obtain rfl : k = out.length := by omega
          rw [List.drop_length] at hfin
          have hgo : Hid (∀ (Q' : List Val) (W : World) (a' : Option Addr) (c' n' : Nat), n' = Q'.length → Q' = Q → NwV w1 W a' c' Q' → ∃ (j' : Nat) (oa : Option Addr) (oc : Nat) (out' : List Val), j' ≤ l.length ∧ (.int .i64 ((j : Int) + 1) : Value) = .int .i64 j' ∧ (.slice a' n' c' : Value) = .slice oa out'.length oc ∧ out'.length ≤ j' ∧ NwV w W oa oc out' ∧ Hid (wordsV out' (l.drop j') = F)) := fun Q' W a' c' n' hn' hq I' => ⟨j + 1, a', c', Q', by omega, by go_num, by rw [hn'], by rw [hq]; omega, I'.back kI, by show _ = _; rw [hq]; exact hF.out⟩
          cases d with
          | true =>
            have hN := hid (hgo.out nx wr na nc nx.length rfl (by rw [← hfin.out]; unfold finW; simp) I)
            clear hgo I hfin
            go_wp2_with fail
            exact ⟨hN.out, by simp [intOf]; omega⟩
          | false =>
            obtain ⟨p0, p1, p2, p3⟩ := hcx.out wr I.kp
            obtain ⟨v3, X3, hrun3, a3, c3, rfl, I3, _⟩ := I.app1 ⟨xk, xb, xn, xt⟩ (by omega)
            dsimp only at hrun3
            have hN := hid (hgo.out (nx ++ [⟨xk, xb, xn, xt⟩]) X3 a3 c3 (nx.length + 1) (by simp) (by rw [← hfin.out]; unfold finW; simp [insR]) I3)
            clear hgo I3 I hfin
            go_wp2_with (first | (refine wpAppRun rfl _ _ 23 23 rfl _ _ _ rfl rfl hrun3 ?_) | fail)
            exact ⟨hN.out, by simp [intOf]; omega⟩
    · obtain rfl : j = l.length := by omega
      rw [List.drop_length, wordsV] at hF
      have hFo := hF.out
      subst hFo
      have hI := hid I
      clear I hF
      go_wp2_with fail
      go_ret
      exact ⟨oa, oc, rfl, hI.out⟩
end Go.Proofs.YtpekgpgfdiffcaaGreat
end

section
namespace Go.Proofs.YtpekgpgfdiffcaaGreat
open Go.RowKit Go.Hay
set_option linter.unusedVariables false
set_option linter.unusedSimpArgs false

def tkF : Nat → List Val → List UInt8 → Option (List Val × List UInt8)
  | 0, acc, bs => some (acc, bs)
  | n + 1, acc, bs => if (rowF bs).2 = 0 then none else tkF n (acc ++ [(rowF bs).1]) (bs.drop (rowF bs).2)
def orNil : Option (List Val) → List Val
  | none => []
  | some l => l
def rpR (many : Nat) (acc : List Val) (bs : List UInt8) : List Val :=
  match bs with
  | [] => acc
  | c :: r => if many ≤ acc.length then acc else if (rowF r).2 = 0 then [] else rpR many (acc ++ List.replicate c.toNat (rowF r).1) (r.drop (rowF r).2)
termination_by bs.length
decreasing_by simp; omega
theorem rpR_nil (many : Nat) (acc : List Val) : rpR many acc [] = acc := by rw [rpR.eq_def]
theorem rpR_cons (many : Nat) (acc : List Val) (c : UInt8) (r : List UInt8) : rpR many acc (c :: r) = if many ≤ acc.length then acc else if (rowF r).2 = 0 then [] else rpR many (acc ++ List.replicate c.toNat (rowF r).1) (r.drop (rowF r).2) := by rw [rpR.eq_def]
def zz (z s : Nat) (x : UInt8) : Nat := (z + x.toNat % 128 * 2 ^ s % 18446744073709551616) % 18446744073709551616
def rpD (many : Nat) : Int → Nat → Nat → List Val → List UInt8 → List Val
  | n, z, s, acc, [] => acc
  | n, z, s, acc, x :: r => if many ≤ acc.length then acc else if 128 ≤ x.toNat then rpD many n (zz z s x) (s + 7) acc r else rpD many (IntKind.i64.wrap (n + zag (zz z s x))) 0 0 (acc ++ [intV (IntKind.i64.wrap (n + zag (zz z s x)))]) r
def rpDl (many : Nat) (bs : List UInt8) : List Val := if bs.length < 8 then [] else rpD many (wordV bs) 0 0 [intV (wordV bs)] (bs.drop 8)
def rpBt (many : Nat) (bs : List UInt8) : List Val :=
  if bs.length < 9 ∨ 64 < (bs.getD 8 0).toNat ∨ bs.length ≠ 9 + (many * (bs.getD 8 0).toNat + 7) / 8 then [] else (upk (bs.drop 9) many (bs.getD 8 0).toNat).map fun (n : Nat) => intV (IntKind.i64.wrap (wordV bs + (n : Int)))
def rpDc (many : Nat) (bs : List UInt8) : List Val :=
  if bs.length = 0 then [] else match tkF (bs.getD 0 0).toNat [] (bs.drop 1) with
    | none => []
    | some (u, r) => if u.length = 0 then [] else if r.length ≠ (many * Lib.bitLen (u.length - 1) + 7) / 8 then [] else
      if (upk r many (Lib.bitLen (u.length - 1))).all (fun p => decide (p < u.length)) = true then (upk r many (Lib.bitLen (u.length - 1))).map fun p => u.getD p nv else []
/-- What the reference reads. -/
def rpA (k : Int) (many : Nat) (bs : List UInt8) : List Val :=
  if many = 0 then [] else if k = 0 then orNil ((tkF many [] bs).map Prod.fst) else if k = 1 then rpR many [] bs else if k = 2 then rpDl many bs else if k = 3 then rpDc many bs else rpBt many bs

theorem nil_in64 : nilV.in64 := ⟨by decide, by decide⟩
theorem nv_in64 : nv.in64 := ⟨by decide, by decide⟩
theorem wrap_in64 (n : Int) : (intV (IntKind.i64.wrap n)).in64 := by have := wrap64_bd n; exact ⟨this.1, by show IntKind.i64.wrap n ≤ _; omega⟩
theorem word_in64 (bs : List UInt8) : (intV (wordV bs)).in64 := by
  show -9223372036854775808 ≤ wordV bs ∧ wordV bs ≤ 9223372036854775807
  unfold wordV wrap64; omega
theorem rowF_in64 (bs : List UInt8) : (rowF bs).1.in64 := by
  have h0 : ∀ (k : Int) (b : Bool) (t : ByteArray), Val.in64 ⟨k, b, 0, t⟩ := fun k b t => ⟨by show (-9223372036854775808 : Int) ≤ 0; omega, by show (0 : Int) ≤ 9223372036854775807; omega⟩
  have hf : ∀ (add : Int) (bs : List UInt8), (fixF add bs).1.in64 := fun add bs => by
    cases bs with
    | nil => exact nil_in64
    | cons f r =>
      simp only [fixF]
      split
      · exact nil_in64
      · split
        · cases r with
          | nil => exact nil_in64
          | cons y s =>
            simp only
            split
            · exact h0 _ _ _
            · exact nil_in64
        · split
          · split
            · show -9223372036854775808 ≤ wrap64 _ ∧ wrap64 _ ≤ 9223372036854775807
              unfold wrap64; omega
            · exact nil_in64
          · exact nil_in64
  cases bs with
  | nil => exact nil_in64
  | cons f r =>
    simp only [rowF]
    split
    · cases r with
      | nil => exact nil_in64
      | cons y s =>
        simp only
        split
        · exact h0 _ _ _
        · exact nil_in64
    · exact hf 0 _
theorem decL_in64 : ∀ (n : Nat) (bs : List UInt8) (l : List Val), decL n bs = some l → ∀ x ∈ l, x.in64
  | 0, bs, l, h => by
    simp only [decL] at h
    split at h
    · injection h with h; subst h; simp
    · cases h
  | n + 1, bs, l, h => by
    simp only [decL] at h
    split at h
    · cases h
    · cases hd : decL n (bs.drop (rowF bs).2) with
      | none => rw [hd] at h; simp at h
      | some q =>
        rw [hd] at h
        simp at h
        subst h
        intro x hx
        rcases List.mem_cons.1 hx with rfl | hx
        · exact rowF_in64 bs
        · exact decL_in64 n _ q hd x hx
theorem tkV_in64 (bs : List UInt8) : (tkV bs).1.in64 := by
  unfold tkV
  split
  · exact nil_in64
  · split
    · rename_i h
      simp only
      have hd : ∀ x ∈ (decS (1 :: bs.take (vsz bs))).1, x.in64 := by
        simp only [decS]
        rw [if_neg (by decide)]
        cases hq : decL (1 : UInt8).toNat (bs.take (vsz bs)) with
        | none => simp [decO]
        | some q => simp only [decO]; exact decL_in64 _ _ _ hq
      cases hl : (decS (1 :: bs.take (vsz bs))).1 with
      | nil => exact nv_in64
      | cons y r => rw [hl] at hd; exact hd y (by simp)
    · exact nil_in64
theorem tkP_in64 : ∀ (n : Nat) (acc : List Val) (bs : List UInt8) (q : List Val × List UInt8), (∀ x ∈ acc, x.in64) → tkP n acc bs = some q → ∀ x ∈ q.1, x.in64
  | 0, acc, bs, q, ha, h => by rw [tkP] at h; injection h with h; subst h; exact ha
  | n + 1, acc, bs, q, ha, h => by
    rw [tkP] at h
    split at h
    · cases h
    · refine tkP_in64 n _ _ q (fun x hx => ?_) h
      rcases List.mem_append.1 hx with h1 | h1
      · exact ha x h1
      · rw [List.mem_singleton.1 h1]; exact tkV_in64 bs
theorem tkF_in64 : ∀ (n : Nat) (acc : List Val) (bs : List UInt8) (q : List Val × List UInt8), (∀ x ∈ acc, x.in64) → tkF n acc bs = some q → ∀ x ∈ q.1, x.in64
  | 0, acc, bs, q, ha, h => by rw [tkF] at h; injection h with h; subst h; exact ha
  | n + 1, acc, bs, q, ha, h => by
    rw [tkF] at h
    split at h
    · cases h
    · refine tkF_in64 n _ _ q (fun x hx => ?_) h
      rcases List.mem_append.1 hx with h1 | h1
      · exact ha x h1
      · rw [List.mem_singleton.1 h1]; exact rowF_in64 bs
theorem tkR_in64 (many : Nat) : ∀ (f : Nat) (bs : List UInt8) (acc l : List Val), bs.length ≤ f → (∀ x ∈ acc, x.in64) → tkR many acc bs = some l → ∀ x ∈ l, x.in64 := by
  intro f
  induction f with
  | zero =>
    intro bs acc l hf ha h
    obtain rfl : bs = [] := List.eq_nil_of_length_eq_zero (by omega)
    by_cases hd : many ≤ acc.length
    · rw [tkR_done hd] at h; injection h with h; subst h; exact ha
    · rw [tkR_nil hd] at h; cases h
  | succ f ih =>
    intro bs acc l hf ha h
    by_cases hd : many ≤ acc.length
    · rw [tkR_done hd] at h; injection h with h; subst h; exact ha
    · cases bs with
      | nil => rw [tkR_nil hd] at h; cases h
      | cons c r =>
        rw [tkR_cons hd] at h
        split at h
        · cases h
        · refine ih _ _ l (by simp at hf ⊢; omega) (fun x hx => ?_) h
          rcases List.mem_append.1 hx with h1 | h1
          · exact ha x h1
          · rw [(List.mem_replicate.1 h1).2]; exact tkV_in64 r
theorem rpR_in64 (many : Nat) : ∀ (f : Nat) (bs : List UInt8) (acc : List Val), bs.length ≤ f → (∀ x ∈ acc, x.in64) → ∀ x ∈ rpR many acc bs, x.in64 := by
  intro f
  induction f with
  | zero =>
    intro bs acc hf ha
    obtain rfl : bs = [] := List.eq_nil_of_length_eq_zero (by omega)
    rw [rpR_nil]; exact ha
  | succ f ih =>
    intro bs acc hf ha
    cases bs with
    | nil => rw [rpR_nil]; exact ha
    | cons c r =>
      rw [rpR_cons]
      split
      · exact ha
      · split
        · simp
        · refine ih _ _ (by simp at hf ⊢; omega) (fun x hx => ?_)
          rcases List.mem_append.1 hx with h1 | h1
          · exact ha x h1
          · rw [(List.mem_replicate.1 h1).2]; exact rowF_in64 r
theorem tkD_in64 : ∀ (k : Nat) (n : Int) (acc : List Val) (bs : List UInt8) (l : List Val), (∀ x ∈ acc, x.in64) → tkD k n acc bs = some l → ∀ x ∈ l, x.in64
  | 0, n, acc, bs, l, ha, h => by rw [tkD] at h; injection h with h; subst h; exact ha
  | k + 1, n, acc, bs, l, ha, h => by
    rw [tkD] at h
    split at h
    · cases h
    · refine tkD_in64 k _ _ _ l (fun x hx => ?_) h
      rcases List.mem_append.1 hx with h1 | h1
      · exact ha x h1
      · rw [List.mem_singleton.1 h1]; exact wrap_in64 _
theorem rpD_in64 (many : Nat) : ∀ (bs : List UInt8) (n : Int) (z s : Nat) (acc : List Val), (∀ x ∈ acc, x.in64) → ∀ x ∈ rpD many n z s acc bs, x.in64
  | [], n, z, s, acc, ha => by rw [rpD]; exact ha
  | y :: r, n, z, s, acc, ha => by
    rw [rpD]
    split
    · exact ha
    · split
      · exact rpD_in64 many r _ _ _ _ ha
      · refine rpD_in64 many r _ _ _ _ (fun x hx => ?_)
        rcases List.mem_append.1 hx with h1 | h1
        · exact ha x h1
        · rw [List.mem_singleton.1 h1]; exact wrap_in64 _
theorem getD_in64 {u : List Val} (h : ∀ x ∈ u, x.in64) (p : Nat) : (u.getD p nv).in64 := by
  by_cases hp : p < u.length
  · have e : u.getD p nv = u[p] := by simp [hp]
    rw [e]; exact h _ (List.getElem_mem hp)
  · have e : u.getD p nv = nv := by simp [List.getElem?_eq_none (by omega : u.length ≤ p)]
    rw [e]; exact nv_in64
theorem tkA_in64 (k : Int) (many : Nat) (bs : List UInt8) (l : List Val) (h : tkA k many bs = some l) : ∀ x ∈ l, x.in64 := by
  unfold tkA at h
  split at h
  · injection h with h; subst h; simp
  · split at h
    · exact tkR_in64 many bs.length bs [] l (Nat.le_refl _) (by simp) h
    · split at h
      · unfold tkDl at h
        split at h
        · cases h
        · exact tkD_in64 _ _ _ _ l (fun x hx => by rw [List.mem_singleton.1 hx]; exact word_in64 bs) h
      · split at h
        · unfold tkDc at h
          split at h
          · cases h
          · split at h
            · cases h
            · rename_i u r hu
              split at h
              · cases h
              · split at h
                · injection h with h
                  subst h
                  intro x hx
                  obtain ⟨p, _, rfl⟩ := List.mem_map.1 hx
                  exact getD_in64 (tkP_in64 _ _ _ _ (by simp) hu) p
                · cases h
        · split at h
          · unfold tkBt at h
            split at h
            · cases h
            · cases hq : upkO (bs.drop 9) many (bs.getD 8 0).toNat with
              | none => rw [hq] at h; cases h
              | some ns =>
                rw [hq] at h
                injection h with h
                subst h
                intro x hx
                obtain ⟨p, _, rfl⟩ := List.mem_map.1 hx
                exact wrap_in64 _
          · cases hq : tkP many [] bs with
            | none => rw [hq] at h; cases h
            | some q =>
              rw [hq] at h
              injection h with h
              subst h
              exact tkP_in64 _ _ _ _ (by simp) hq
theorem rpA_in64 (k : Int) (many : Nat) (bs : List UInt8) : ∀ x ∈ rpA k many bs, x.in64 := by
  unfold rpA
  split
  · simp
  · split
    · cases hq : tkF many [] bs with
      | none => simp [orNil]
      | some q => exact tkF_in64 _ _ _ _ (by simp) hq
    · split
      · exact rpR_in64 many bs.length bs [] (Nat.le_refl _) (by simp)
      · split
        · unfold rpDl
          split
          · simp
          · exact rpD_in64 many _ _ _ _ _ (fun x hx => by rw [List.mem_singleton.1 hx]; exact word_in64 bs)
        · split
          · unfold rpDc
            split
            · simp
            · split
              · simp
              · rename_i u r hu
                split
                · simp
                · split
                  · simp
                  · split
                    · intro x hx
                      obtain ⟨p, _, rfl⟩ := List.mem_map.1 hx
                      exact getD_in64 (tkF_in64 _ _ _ _ (by simp) hu) p
                    · simp
          · unfold rpBt
            split
            · simp
            · intro x hx
              obtain ⟨p, _, rfl⟩ := List.mem_map.1 hx
              exact wrap_in64 _
end Go.Proofs.YtpekgpgfdiffcaaGreat
end

section
namespace Go.Proofs.YtpekgpgfdiffcaaGreat
open Go.RowKit Go.Hay
set_option linter.unusedVariables false
set_option linter.unusedSimpArgs false

theorem tkF_put : ∀ (l acc : List Val) (s : List UInt8), allR l = true → (∀ x ∈ l, x.in64) → tkF l.length acc (l.flatMap rowB ++ s) = some (acc ++ l, s)
  | [], acc, s, _, _ => by simp [tkF]
  | x :: l, acc, s, h, hi => by
    have hx : x.right = true := by simp [allR] at h; exact h.1
    have hl : allR l = true := by simp [allR] at h ⊢; exact h.2
    have hp := rowB_pos hx
    rw [List.flatMap_cons, List.append_assoc, List.length_cons, tkF, rowF_put x hx (hi x (by simp))]
    simp only
    rw [if_neg (by omega), List.drop_left, tkF_put l _ s hl (fun y hy => hi y (by simp [hy]))]
    simp
theorem rpR_put : ∀ (R : List Rn) (acc : List Val) (many : Nat), (∀ r ∈ R, r.v.right = true ∧ r.v.in64 ∧ 0 < r.m ∧ r.m < 256) → many = acc.length + (R.map Rn.m).sum → rpR many acc (R.flatMap runB) = acc ++ R.flatMap fun r => List.replicate r.m r.v
  | [], acc, many, _, hm => by rw [List.flatMap_nil, rpR_nil]; simp
  | r :: R, acc, many, h, hm => by
    obtain ⟨h1, h2, h3, h4⟩ := h r (by simp)
    have hp := rowB_pos h1
    simp only [List.map_cons, List.sum_cons] at hm
    have e : (r :: R).flatMap runB = octet r.m :: (rowB r.v ++ R.flatMap runB) := by simp [runB]
    rw [e, rpR_cons, if_neg (by omega), rowF_put r.v h1 h2]
    simp only
    rw [if_neg (by omega), List.drop_left, octet_nat r.m h4, rpR_put R _ many (fun r' hr' => h r' (by simp [hr'])) (by simp; omega)]
    simp
theorem rpD_gB (many : Nat) (n0 : Int) (acc : List Val) (s : List UInt8) (hacc : ¬ many ≤ acc.length) : ∀ (N z i a : Nat), z ≤ N → a + z * 2 ^ (7 * i) < 18446744073709551616 → rpD many n0 a (7 * i) acc (gB z ++ s) = rpD many (IntKind.i64.wrap (n0 + zag (a + z * 2 ^ (7 * i)))) 0 0 (acc ++ [intV (IntKind.i64.wrap (n0 + zag (a + z * 2 ^ (7 * i))))]) s := by
  intro N
  induction N with
  | zero =>
    intro z i a hn hz
    obtain rfl : z = 0 := by omega
    rw [gB_lo (by omega)]
    simp only [List.cons_append, List.nil_append]
    have e : zz a (7 * i) (UInt8.ofNat 0) = a + 0 * 2 ^ (7 * i) := by
      unfold zz
      simp
      omega
    rw [rpD, if_neg hacc, if_neg (by simp), e]
  | succ N ih =>
    intro z i a hn hz
    by_cases h : z < 128
    · rw [gB_lo h]
      simp only [List.cons_append, List.nil_append]
      have e0 : (UInt8.ofNat z).toNat = z := by rw [UInt8.toNat_ofNat']; omega
      have e : zz a (7 * i) (UInt8.ofNat z) = a + z * 2 ^ (7 * i) := by
        unfold zz
        rw [e0, Nat.mod_eq_of_lt h, Nat.mod_eq_of_lt (show z * 2 ^ (7 * i) < 18446744073709551616 by omega), Nat.mod_eq_of_lt hz]
      rw [rpD, if_neg hacc, e0, if_neg (by omega), e]
    · rw [gB_hi h]
      simp only [List.cons_append]
      have hle : z % 128 * 2 ^ (7 * i) + z / 128 * 2 ^ (7 * (i + 1)) = z * 2 ^ (7 * i) := by
        have e : 2 ^ (7 * (i + 1)) = 128 * 2 ^ (7 * i) := by rw [show 7 * (i + 1) = 7 + 7 * i by omega, Nat.pow_add]
        rw [e, ← Nat.mul_assoc, ← Nat.add_mul]
        congr 1
        omega
      have e : zz a (7 * i) (UInt8.ofNat (z % 128 + 128)) = a + z % 128 * 2 ^ (7 * i) := by
        unfold zz
        rw [low128, show (z % 128 + 128) % 128 = z % 128 by omega, Nat.mod_eq_of_lt (show z % 128 * 2 ^ (7 * i) < 18446744073709551616 by omega), Nat.mod_eq_of_lt (by omega)]
      rw [rpD, if_neg hacc, low128, if_pos (by omega), e, show 7 * i + 7 = 7 * (i + 1) by omega, ih (z / 128) (i + 1) _ (by omega) (by omega)]
      have e2 : a + z % 128 * 2 ^ (7 * i) + z / 128 * 2 ^ (7 * (i + 1)) = a + z * 2 ^ (7 * i) := by omega
      rw [e2]
theorem rpD_put (many : Nat) : ∀ (r : List Val) (x : Val) (acc : List Val), x.in64 → (∀ y ∈ r, y.in64 ∧ y = intV y.n) → acc.length + r.length ≤ many → rpD many x.n 0 0 acc (dltL x r) = acc ++ r
  | [], x, acc, _, _, _ => by simp [dltL, rpD]
  | y :: r, x, acc, hx, h, hl => by
    obtain ⟨hy1, hy2⟩ := h y (by simp)
    have hw := wrap64_bd (y.n - x.n)
    have hb := zig_bd hw.1 hw.2
    rw [List.length_cons] at hl
    have hg := rpD_gB many x.n acc (dltL y r) (by omega) _ (zig (IntKind.i64.wrap (y.n - x.n))).toNat 0 0 (Nat.le_refl _) (by simp; omega)
    simp only [Nat.mul_zero, Nat.pow_zero, Nat.mul_one, Nat.zero_add] at hg
    rw [dltL, hg, zag_zig hw.1 hw.2, wrap_diff x.n y.n hx hy1, ← hy2, rpD_put many r y _ hy1 (fun z hz => h z (by simp [hz])) (by simp; omega)]
    simp
theorem rback_delta (l : List Val) (h : allR l = true) (hi : ∀ x ∈ l, x.in64) (h2 : allI l = true) (h0 : 0 < l.length) : rpDl l.length (deltaB l) = l := by
  cases l with
  | nil => simp at h0
  | cons x r =>
    have hint : ∀ y ∈ x :: r, y = intV y.n := fun y hy => int_of (List.all_eq_true.1 h y hy) (by have := List.all_eq_true.1 h2 y hy; simpa using this)
    have e : deltaB (x :: r) = be (u64 x.n) 8 ++ dltL x r := by
      unfold deltaB
      rw [List.length_cons, Nat.add_sub_cancel, dltL_eq]
      simp
    unfold rpDl
    rw [e, if_neg (by rw [List.length_append, be_length]; omega), wordV_put x.n (hi x (by simp)), List.drop_left' (be_length _ _), rpD_put _ r x _ (hi x (by simp)) (fun y hy => ⟨hi y (by simp [hy]), hint y (by simp [hy])⟩) (by simp; omega), ← hint x (by simp)]
    rfl
theorem rback_bits (l : List Val) (h : allR l = true) (hi : ∀ x ∈ l, x.in64) (h2 : allI l = true) (h0 : 0 < l.length) : rpBt l.length (bitsB l) = l := by
  have hb := back_bits l h hi h2 h0
  unfold tkBt at hb
  split at hb
  · cases hb
  · rename_i hc
    unfold upkO at hb
    split at hb
    · rename_i hlen
      unfold rpBt
      rw [List.length_drop] at hlen
      rw [if_neg (by omega)]
      injection hb
    · cases hb
theorem rback_dict (l : List Val) (h : allR l = true) (hi : ∀ x ∈ l, x.in64) (h0 : 0 < l.length) (hl : l.length ≤ 64) : rpDc l.length (dictB l) = l := by
  have hb := back_dict l h hi h0 hl
  have hul := uniq_len l
  have hur := uniq_right l h
  have hum := uniq_mem l
  obtain ⟨u, hu⟩ : ∃ u, uniq l = u := ⟨_, rfl⟩
  have e : dictB l = octet u.length :: (u.flatMap rowB ++ packB (plcs u l l.length) (Lib.bitLen (u.length - 1))) := by unfold dictB; rw [hu]; simp
  rw [hu] at hul hur
  simp only [hu] at hum
  have hu0 : 0 < u.length := by
    cases l with
    | nil => simp at h0
    | cons x r => exact List.length_pos_of_mem ((hum x).2 (by simp))
  have ho : (octet u.length).toNat = u.length := octet_nat _ (by omega)
  have e0 : (octet (u.length : Int) :: (u.flatMap rowB ++ packB (plcs u l l.length) (Lib.bitLen (u.length - 1)))).getD 0 0 = octet u.length := rfl
  unfold tkDc at hb
  rw [e, e0, ho, if_neg (by rw [List.length_cons]; omega), List.drop_one, List.tail_cons, tkP_put u [] _ hur (fun x hx => hi x ((hum x).1 hx))] at hb
  unfold rpDc
  rw [e, e0, ho, if_neg (by rw [List.length_cons]; omega), List.drop_one, List.tail_cons, tkF_put u [] _ hur (fun x hx => hi x ((hum x).1 hx))]
  simp only [List.nil_append] at hb ⊢
  rw [if_neg (by omega)]
  unfold upkO at hb
  split at hb
  · cases hb
  · rename_i ps hps
    split at hps
    · rename_i hlen
      injection hps with hps
      rw [if_neg (by simpa using hlen), hps]
      split at hb
      · rename_i hall
        rw [if_pos hall]
        injection hb
      · cases hb
    · cases hps
theorem rpA_back (k : Int) (l : List Val) (hi : ∀ x ∈ l, x.in64) (hr : refE k l = 0) (h0 : 0 < l.length) : rpA k l.length (encR k l) = l := by
  obtain ⟨hk, hl, ha⟩ := refE_ok hr
  have hint : ofI k = true → allI l = true := fun ho => by
    unfold refE at hr
    rw [hk, ha, ho] at hr
    simp at hr
    split at hr
    · simp at hr
    · by_cases h : allI l = true
      · exact h
      · simp [h] at hr
  have hkk : 0 ≤ k ∧ k ≤ 4 := by unfold knownB at hk; simp at hk; exact hk
  rw [encR_put hr h0]
  unfold rpA putB
  rw [if_neg (by omega)]
  by_cases q0 : k = 0
  · subst q0
    rw [if_pos rfl]
    have := tkF_put l [] [] ha hi
    rw [List.append_nil] at this
    simp only [if_neg (by omega : ¬ (0 : Int) = 1), if_neg (by omega : ¬ (0 : Int) = 2), if_neg (by omega : ¬ (0 : Int) = 3), if_neg (by omega : ¬ (0 : Int) = 4)]
    rw [this]; rfl
  · rw [if_neg q0]
    by_cases h1 : k = 1
    · subst h1
      obtain ⟨q1, q2, q3⟩ := runsV_flat l
      rw [if_pos rfl, if_pos rfl, rpR_put (runsV l) [] l.length (fun r hr' => by
        have := runsV_in r hr'
        exact ⟨List.all_eq_true.1 ha _ this.1, hi _ this.1, q2 r hr', by omega⟩) (by simp [q3]), q1]
      rfl
    · rw [if_neg h1, if_neg h1]
      by_cases h2 : k = 2
      · subst h2; simpa using rback_delta l ha hi (hint rfl) h0
      · rw [if_neg h2, if_neg h2]
        by_cases h3 : k = 3
        · subst h3; simpa using rback_dict l ha hi h0 hl
        · rw [if_neg h3, if_neg h3]
          have h4 : k = 4 := by omega
          subst h4
          rw [if_pos rfl]
          exact rback_bits l ha hi (hint rfl) h0
/-- Decode's answer, by what the reference reads. -/
def refD (k : Int) (bs : List UInt8) (many : Nat) : List Val × Int := if refE k (rpA k many bs) = 0 ∧ (rpA k many bs).length = many ∧ encR k (rpA k many bs) = bs then (rpA k many bs, 0) else ([], 60)
theorem refD_eq (k : Int) (bs : List UInt8) (many : Nat) (hk : knownB k = true) (hm : many ≤ 64) : refD k bs many = decA k bs many := by
  unfold refD
  split
  · rename_i h
    obtain ⟨h1, h2, h3⟩ := h
    have := decA_back k (rpA k many bs) (rpA_in64 k many bs) h1
    rw [h2, h3] at this
    exact this.symm
  · rename_i h
    unfold decA decE
    rw [if_neg (by simp [hk]), if_neg (by omega)]
    cases hT : tkA k many bs with
    | none => rw [if_neg (by simp [okV])]
    | some L =>
      rw [if_neg]
      rintro ⟨_, hl, hr, he⟩
      simp only [okV] at hl hr he
      apply h
      have hin := tkA_in64 k many bs L hT
      have e : rpA k many bs = L := by
        rcases Nat.eq_zero_or_pos L.length with h0 | h0
        · obtain rfl := List.eq_nil_of_length_eq_zero h0
          unfold rpA
          rw [if_pos (by simpa using hl.symm)]
        · have := rpA_back k L hin hr h0
          rw [he, hl] at this
          exact this
      rw [e]
      exact ⟨hr, hl, he⟩
end Go.Proofs.YtpekgpgfdiffcaaGreat
end

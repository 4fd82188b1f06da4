/- What is written is read as it was, in every kind; what is read is written as the same bytes. -/
import Derived.Test.YtpekgpgfdiffcaaB5
import Derived.Test.YtpekgpgfdiffcaaB7
import Derived.Test.YtpekgpgfdiffcaaB2
import Derived.Lib.Strings
import Derived.Test.YtpekgpgfdiffcaaB8
import Derived.Deep.RegionHeld3
import Derived.Test.YtpekgpgfdiffcaaB3
import Derived.Test.YtpekgpgfdiffcaaB1
import Derived.ProofKit
import Derived.OpenShut
import Derived.ShutString
import Derived.ChangeOld
import Derived.ChangeArms
import Derived.Below
import Derived.Deep.Slices
import Derived.Deep.DeepHandedRow
import Derived.SizedLaws
import Derived.JoinedCond
import Derived.Deep.CondSized
section
namespace Go.Hay
open Go.RowKit
set_option linter.unusedVariables false
set_option linter.unusedSimpArgs false

/-- Bit p of bytes. -/
def bitAt (bs : List UInt8) (p : Nat) : Nat := (bs.getD (p / 8) 0).toNat / 2 ^ (p % 8) % 2
theorem bitAt_lt (bs : List UInt8) (p : Nat) : bitAt bs p < 2 := Nat.mod_lt _ (by omega)
/-- Number i of those in so many bits, of its lowest k. -/
def numTo (bs : List UInt8) (wd i : Nat) : Nat → Nat
  | 0 => 0
  | k + 1 => numTo bs wd i k + bitAt bs (i * wd + k) * 2 ^ k
theorem numTo_lt (bs : List UInt8) (wd i : Nat) : ∀ k, numTo bs wd i k < 2 ^ k
  | 0 => by simp [numTo]
  | k + 1 => by
    have h1 := numTo_lt bs wd i k
    have h2 := bitAt_lt bs (i * wd + k)
    have h3 : bitAt bs (i * wd + k) * 2 ^ k ≤ 1 * 2 ^ k := Nat.mul_le_mul_right _ (by omega)
    rw [numTo, Nat.pow_succ]
    omega
def upk (bs : List UInt8) (many wd : Nat) : List Nat := (List.range many).map fun i => numTo bs wd i wd
theorem upk_length (bs : List UInt8) (many wd : Nat) : (upk bs many wd).length = many := by simp [upk]
theorem upk_at (bs : List UInt8) (many wd i : Nat) (h : i < many) : (upk bs many wd)[i]? = some (numTo bs wd i wd) := by
  unfold upk
  rw [List.getElem?_map, List.getElem?_range h]; rfl
theorem acc_bit (f : Nat → Nat) (hf : ∀ p, f p < 2) (q : Nat) : ∀ m r, r < m → acc f q m / 2 ^ r % 2 = f (8 * q + r)
  | 0, r, h => by omega
  | m + 1, r, h => by
    rw [acc]
    by_cases e : r = m
    · subst e
      rw [Nat.add_mul_div_right _ _ (Nat.two_pow_pos r), Nat.div_eq_of_lt (acc_lt f hf q r), Nat.zero_add]
      exact Nat.mod_eq_of_lt (hf _)
    · have hr : r < m := by omega
      have e2 : f (8 * q + m) * 2 ^ m = f (8 * q + m) * 2 ^ (m - r - 1) * 2 * 2 ^ r := by
        have : m = (m - r - 1) + 1 + r := by omega
        conv => lhs; rw [this, Nat.pow_add, Nat.pow_succ]
        rw [show 8 * q + (m - r - 1 + 1 + r) = 8 * q + m by omega]
        simp [Nat.mul_assoc]
      rw [e2, Nat.add_mul_div_right _ _ (Nat.two_pow_pos r), Nat.add_mul_mod_self_right]
      exact acc_bit f hf q m r hr
theorem bitAt_pack (l : List Nat) (wd p : Nat) (hp : p < l.length * wd) : bitAt (packB l wd) p = bitOf l wd p := by
  unfold bitAt packB
  have hq : p / 8 < (l.length * wd + 7) / 8 := by omega
  have h1 := pk_get (bitOf l wd) ((l.length * wd + 7) / 8) (l.length * wd) (p / 8) hq
  rw [List.getD_eq_getElem?_getD, h1, Option.getD_some]
  have hm : min 8 (l.length * wd - 8 * (p / 8)) ≤ 8 := Nat.min_le_left _ _
  have h8 := acc_lt8 (bitOf l wd) (bitOf_lt l wd) (p / 8) _ hm
  rw [UInt8.toNat_ofNat', Nat.mod_eq_of_lt h8, acc_bit (bitOf l wd) (bitOf_lt l wd) (p / 8) _ (p % 8) (by omega)]
  congr 1
  omega
theorem numTo_back (bs : List UInt8) (wd i x : Nat) : ∀ m, (∀ k, k < m → bitAt bs (i * wd + k) = x / 2 ^ k % 2) → numTo bs wd i m = x % 2 ^ m
  | 0, _ => by simp [numTo, Nat.mod_one]
  | m + 1, h => by
    rw [numTo, numTo_back bs wd i x m (fun k hk => h k (by omega)), h m (by omega), Nat.mod_pow_succ, Nat.mul_comm]
theorem upk_back (l : List Nat) (wd : Nat) (h : ∀ x ∈ l, x < 2 ^ wd) : upk (packB l wd) l.length wd = l := by
  apply List.ext_getElem?
  intro i
  by_cases hi : i < l.length
  · rw [upk_at _ _ _ _ hi, List.getElem?_eq_getElem hi, numTo_back (packB l wd) wd i l[i] wd (fun k hk => ?_), Nat.mod_eq_of_lt (h _ (List.getElem_mem hi))]
    rw [bitAt_pack l wd _ (at_lt hi hk), bitOf_at l wd i k hk hi]
  · rw [List.getElem?_eq_none (by rw [upk_length]; omega), List.getElem?_eq_none (by omega)]
/-- A number out of groups of seven bits, and how many these are. -/
def tkG : Nat → Nat → List UInt8 → Nat × Nat
  | _, _, [] => (0, 0)
  | i, z, x :: r => if i < 10 then (if x.toNat < 128 then (z + x.toNat % 128 * 2 ^ (7 * i) % 18446744073709551616, i + 1) else tkG (i + 1) (z + x.toNat % 128 * 2 ^ (7 * i) % 18446744073709551616) r) else (0, 0)
theorem tkG_le : ∀ (bs : List UInt8) (i z : Nat), (tkG i z bs).2 ≤ i + bs.length
  | [], i, z => by simp [tkG]
  | x :: r, i, z => by
    rw [tkG]
    split
    · split
      · simp
      · have := tkG_le r (i + 1) (z + x.toNat % 128 * 2 ^ (7 * i) % 18446744073709551616)
        simp only [List.length_cons]; omega
    · simp
theorem low128 (z : Nat) : (UInt8.ofNat (z % 128 + 128)).toNat = z % 128 + 128 := by rw [UInt8.toNat_ofNat']; omega
end Go.Hay
namespace Go.Proofs.Ytpekgpgfdiffcaa
open Go.RowKit Go.Hay
theorem tkG_back (s : List UInt8) : ∀ (n z i a : Nat), z ≤ n → z * 2 ^ (7 * i) + a < 18446744073709551616 → i < 10 → tkG i a (gB z ++ s) = (a + z * 2 ^ (7 * i), i + (gB z).length) := by
  intro n
  induction n with
  | zero =>
    intro z i a hn hz hi
    obtain rfl : z = 0 := by omega
    rw [gB_lo (by omega)]
    simp only [List.cons_append, List.nil_append]
    rw [tkG, if_pos hi]
    simp
  | succ n ih =>
    intro z i a hn hz hi
    by_cases h : z < 128
    · rw [gB_lo h]
      simp only [List.cons_append, List.nil_append]
      rw [tkG, if_pos hi]
      have e : (UInt8.ofNat z).toNat = z := by rw [UInt8.toNat_ofNat']; omega
      rw [e, if_pos h, Nat.mod_eq_of_lt h, Nat.mod_eq_of_lt (show z * 2 ^ (7 * i) < 18446744073709551616 by omega)]
      simp
    · rw [gB_hi h]
      simp only [List.cons_append]
      rw [tkG, if_pos hi, low128, if_neg (by omega), show (z % 128 + 128) % 128 = z % 128 by omega]
      have hle : z % 128 * 2 ^ (7 * i) + z / 128 * 2 ^ (7 * (i + 1)) = z * 2 ^ (7 * i) := by
        have e : 2 ^ (7 * (i + 1)) = 128 * 2 ^ (7 * i) := by rw [show 7 * (i + 1) = 7 + 7 * i by omega, Nat.pow_add]
        rw [e, ← Nat.mul_assoc, ← Nat.add_mul]
        congr 1
        omega
      have hlt : z % 128 * 2 ^ (7 * i) < 18446744073709551616 := by omega
      rw [Nat.mod_eq_of_lt hlt]
      have hi2 : i + 1 < 10 := by
        have h1 : 1 ≤ z / 128 := by omega
        have h2 : 1 * 2 ^ (7 * (i + 1)) ≤ z / 128 * 2 ^ (7 * (i + 1)) := Nat.mul_le_mul_right _ h1
        have h3 : 2 ^ (7 * (i + 1)) < 2 ^ 64 := by omega
        have := (Nat.pow_lt_pow_iff_right (by omega : 1 < 2)).1 h3
        omega
      rw [ih (z / 128) (i + 1) _ (by omega) (by omega) hi2]
      simp only [List.length_cons]
      refine Prod.ext ?_ ?_
      · show _ = _; simp only; omega
      · show _ = _; simp only; omega
/-- A difference, unfolded. -/
def zag (z : Nat) : Int := if z % 2 = 0 then (z / 2 : Nat) else -((z / 2 : Nat) : Int) - 1
theorem zag_zig {d : Int} (h1 : -9223372036854775808 ≤ d) (h2 : d < 9223372036854775808) : zag (zig d).toNat = d := by
  unfold zag zig
  split
  · rw [if_pos (by omega)]; omega
  · rw [if_neg (by omega)]; omega
/-- The int of eight bytes. -/
def wordV (bs : List UInt8) : Int := wrap64 (num (bs.take 8))
def intV (n : Int) : Val := ⟨2, false, n, ⟨#[]⟩⟩
end Go.Proofs.Ytpekgpgfdiffcaa
end

section
namespace Go.Proofs.Ytpekgpgfdiffcaa
open Go.RowKit Go.Hay
set_option linter.unusedVariables false
set_option linter.unusedSimpArgs false

/-- An int64. -/
def Val.in64 (x : Val) : Prop := -9223372036854775808 ≤ x.n ∧ x.n ≤ 9223372036854775807
theorem bytes_empty {t : ByteArray} (h : t.toList = []) : t = ⟨#[]⟩ := by
  rw [Go.Lib.toList_data] at h
  cases t with
  | mk d => simp at h; rw [h]
theorem right0 {x : Val} (h : x.right = true) (hk : x.k = 0) : x = ⟨0, false, 0, ⟨#[]⟩⟩ := by
  obtain ⟨k, b, n, t⟩ := x
  dsimp only at hk
  subst hk
  simp [Val.right] at h
  obtain ⟨rfl, rfl, ht⟩ := h
  rw [bytes_empty ht]
theorem right1 {x : Val} (h : x.right = true) (hk : x.k = 1) : x = ⟨1, x.b, 0, ⟨#[]⟩⟩ := by
  obtain ⟨k, b, n, t⟩ := x
  dsimp only at hk
  subst hk
  simp [Val.right] at h
  obtain ⟨rfl, ht⟩ := h
  rw [bytes_empty ht]
theorem right2 {x : Val} (h : x.right = true) (hk : x.k = 2) : x = ⟨2, false, x.n, ⟨#[]⟩⟩ := by
  obtain ⟨k, b, n, t⟩ := x
  dsimp only at hk
  subst hk
  simp [Val.right] at h
  obtain ⟨rfl, ht⟩ := h
  rw [bytes_empty ht]
theorem right3 {x : Val} (h : x.right = true) (hk : x.k = 3) : x = ⟨3, false, 0, x.t⟩ ∧ x.t.size ≤ 64 := by
  have h6 := right_text h hk
  obtain ⟨k, b, n, t⟩ := x
  dsimp only at hk
  subst hk
  simp [Val.right] at h
  obtain ⟨⟨rfl, rfl⟩, ht⟩ := h
  exact ⟨rfl, h6⟩
theorem s64_u64 (n add : Int) (h : -9223372036854775808 ≤ n ∧ n ≤ 9223372036854775807) : wrap64 ((num (be (u64 (n + add)) 8) : Int) - add) = n := by
  rw [num_be]
  unfold u64 wrap64
  omega
theorem u64_s64 (m : Nat) (add : Int) (h : m < 18446744073709551616) : u64 (wrap64 ((m : Int) - add) + add) = m := by
  unfold u64 wrap64
  omega
theorem take8 (n : Nat) (r : List UInt8) : (be n 8 ++ r).take 8 = be n 8 := by
  rw [List.take_append_of_le_length (by rw [be_length]; omega), List.take_of_length_le (by rw [be_length]; omega)]
theorem fixF_put (x : Val) (h : x.right = true) (hi : x.in64) (h3 : x.k ≠ 3) (add : Int) (r : List UInt8) : fixF add (fixB x add ++ r) = (x, (fixB x add).length) := by
  rcases right_kind h with hk | hk | hk | hk
  · rw [right0 h hk]
    simp [fixB, fixF, nilV]
  · rw [right1 h hk]
    cases x.b <;> simp [fixB, fixF]
  · have e := right2 h hk
    have hi2 := s64_u64 x.n add hi
    generalize x.n = n at *
    rw [e]
    have t8 := take8 (u64 (n + add)) r
    have bl := be_length (u64 (n + add)) 8
    simp only [fixB, fixF, List.cons_append, if_neg (by omega : ¬ (2 : Int) = 0), if_neg (by omega : ¬ (2 : Int) = 1)]
    rw [if_neg (by decide), if_neg (by decide), if_pos (by decide), if_pos (by rw [List.length_append, bl]; omega), t8, hi2]
    simp [bl]
  · exact absurd hk h3
theorem rowF_put (x : Val) (h : x.right = true) (hi : x.in64) (r : List UInt8) : rowF (rowB x ++ r) = (x, (rowB x).length) := by
  by_cases h3 : x.k = 3
  · obtain ⟨e, h6⟩ := right3 h h3
    generalize x.t = t at *
    rw [e]
    have ho : (octet (t.size : Int)).toNat = t.size := by have := octet_toNat (t.size : Int) (by omega) (by omega); omega
    have hl : t.data.toList.length = t.size := by simp
    simp only [rowB, rowF, List.cons_append, if_true]
    rw [if_pos (by decide), ho, if_pos ⟨h6, by rw [List.length_append, hl]; omega⟩, List.take_append_of_le_length (by omega), List.take_of_length_le (by omega)]
    simp
    omega
  · have e : rowB x = fixB x 0 := by unfold rowB; rw [if_neg h3]
    rw [e]
    have := fixF_put x h hi h3 0 r
    have hne : fixB x 0 = (fixB x 0).headD 0 :: (fixB x 0).tail ∧ ((fixB x 0).headD 0).toNat ≠ 3 := by
      unfold fixB
      split
      · exact ⟨rfl, by decide⟩
      · split
        · exact ⟨rfl, by show (1 : UInt8).toNat ≠ 3; decide⟩
        · exact ⟨rfl, by show (2 : UInt8).toNat ≠ 3; decide⟩
    generalize (fixB x 0).headD 0 = f at *
    generalize (fixB x 0).tail = s at *
    rw [hne.1] at this ⊢
    rw [List.cons_append] at this ⊢
    simp only [rowF, if_neg hne.2]
    exact this
theorem rowB_pos {x : Val} (h : x.right = true) : 0 < (rowB x).length := by
  unfold rowB fixB
  repeat (first | split | simp)

theorem decL_put : ∀ l : List Val, allR l = true → (∀ x ∈ l, x.in64) → decL l.length (l.flatMap rowB) = some l
  | [], _, _ => by simp [decL]
  | x :: l, h, hi => by
    unfold allR at h
    rw [List.all_cons, Bool.and_eq_true] at h
    have ih := decL_put l h.2 (fun y hy => hi y (by simp [hy]))
    have hp := rowB_pos h.1
    rw [List.length_cons, decL, List.flatMap_cons, rowF_put x h.1 (hi x (by simp))]
    simp only
    rw [if_neg (by omega), List.drop_left, ih]
    rfl
theorem decS_put (l : List Val) (h : okR l = true) (hi : ∀ x ∈ l, x.in64) : decS (encB l) = (l, 0) := by
  have h16 := okR_len h
  have ho : (octet (l.length : Int)).toNat = l.length := by have := octet_toNat (l.length : Int) (by omega) (by omega); omega
  unfold encB
  simp only [decS]
  rw [ho, if_neg (by omega), decL_put l (okR_all h) hi]
  rfl

/-- What is read is what the first bytes say. -/
theorem fixF_mono (add : Int) (p s : List UInt8) (h : (fixF add p).2 ≠ 0) : fixF add (p ++ s) = fixF add p := by
  cases p with
  | nil => simp [fixF] at h
  | cons f r =>
    rw [List.cons_append]
    simp only [fixF] at h ⊢
    split
    · rfl
    · rw [if_neg (by assumption)] at h
      split
      · rw [if_pos (by assumption)] at h
        cases r with
        | nil => simp at h
        | cons y t => rfl
      · rw [if_neg (by assumption)] at h
        split
        · rw [if_pos (by assumption)] at h
          by_cases h8 : 8 ≤ r.length
          · rw [if_pos (by rw [List.length_append]; omega), if_pos h8, List.take_append_of_le_length h8]
          · rw [if_neg h8] at h; simp at h
        · rfl
theorem rowF_mono (p s : List UInt8) (h : (rowF p).2 ≠ 0) : rowF (p ++ s) = rowF p := by
  cases p with
  | nil => simp [rowF] at h
  | cons f r =>
    rw [List.cons_append]
    simp only [rowF] at h ⊢
    split
    · rw [if_pos (by assumption)] at h
      cases r with
      | nil => simp at h
      | cons y t =>
        rw [List.cons_append]
        simp only at h ⊢
        by_cases hc : y.toNat ≤ 64 ∧ y.toNat ≤ t.length
        · rw [if_pos ⟨hc.1, by rw [List.length_append]; omega⟩, if_pos hc, List.take_append_of_le_length hc.2]
        · rw [if_neg hc] at h; simp at h
    · rw [if_neg (by assumption)] at h
      rw [← List.cons_append]
      exact fixF_mono 0 (f :: r) s h
theorem decL_more : ∀ (n : Nat) (p s : List UInt8) (l : List Val), decL n p = some l → s ≠ [] → decL n (p ++ s) = none
  | 0, p, s, l, h, hs => by
    rw [decL] at h ⊢
    split at h
    · subst p; simpa using hs
    · cases h
  | n + 1, p, s, l, h, hs => by
    rw [decL] at h ⊢
    by_cases h0 : (rowF p).2 = 0
    · rw [if_pos h0] at h; cases h
    · rw [if_neg h0] at h
      rw [rowF_mono p s h0, if_neg h0]
      obtain ⟨l', h', _⟩ := Option.map_eq_some_iff.1 h
      rw [List.drop_append_of_le_length (rowF_le p), decL_more n _ s l' h' hs]
      rfl
theorem decS_more (l : List Val) (h : okR l = true) (hi : ∀ x ∈ l, x.in64) (s : List UInt8) (hs : s ≠ []) : decS (encB l ++ s) = ([], 30) := by
  have h16 := okR_len h
  have ho : (octet (l.length : Int)).toNat = l.length := by have := octet_toNat (l.length : Int) (by omega) (by omega); omega
  unfold encB
  rw [List.cons_append]
  simp only [decS]
  rw [ho, if_neg (by omega), decL_more _ _ s l (decL_put l (okR_all h) hi) hs]
  rfl
theorem decS_cut (l : List Val) (h : okR l = true) (hi : ∀ x ∈ l, x.in64) (cut : Nat) (hc : cut < (encB l).length) : decS ((encB l).take cut) = ([], 30) := by
  have h16 := okR_len h
  have ho : (octet (l.length : Int)).toNat = l.length := by have := octet_toNat (l.length : Int) (by omega) (by omega); omega
  cases cut with
  | zero => rfl
  | succ n =>
    unfold encB at hc ⊢
    rw [List.length_cons] at hc
    rw [List.take_succ_cons]
    simp only [decS]
    rw [ho, if_neg (by omega)]
    cases hd : decL l.length ((l.flatMap rowB).take n) with
    | none => rfl
    | some l' =>
      have h1 := decL_more _ _ ((l.flatMap rowB).drop n) l' hd (by intro h; have := congrArg List.length h; simp only [List.length_drop, List.length_nil] at this; omega)
      rw [List.take_append_drop, decL_put l (okR_all h) hi] at h1
      cases h1
end Go.Proofs.Ytpekgpgfdiffcaa
end

section
namespace Go.Proofs.Ytpekgpgfdiffcaa
open Go.RowKit Go.Hay
set_option linter.unusedVariables false
set_option linter.unusedSimpArgs false

/-- So many values, and the bytes behind them. -/
def tkP : Nat → List Val → List UInt8 → Option (List Val × List UInt8)
  | 0, acc, bs => some (acc, bs)
  | n + 1, acc, bs => if (tkV bs).2 = 0 then none else tkP n (acc ++ [(tkV bs).1]) (bs.drop (tkV bs).2)
/-- Ints by their differences. -/
def tkD : Nat → Int → List Val → List UInt8 → Option (List Val)
  | 0, n, acc, bs => some acc
  | k + 1, n, acc, bs => if (tkG 0 0 bs).2 = 0 then none else tkD k (IntKind.i64.wrap (n + zag (tkG 0 0 bs).1)) (acc ++ [intV (IntKind.i64.wrap (n + zag (tkG 0 0 bs).1))]) (bs.drop (tkG 0 0 bs).2)
def tkDl (many : Nat) (bs : List UInt8) : Option (List Val) := if bs.length < 8 then none else tkD (many - 1) (wordV bs) [intV (wordV bs)] (bs.drop 8)
/-- Numbers in so many bits, if there are just their bytes. -/
def upkO (bs : List UInt8) (many wd : Nat) : Option (List Nat) := if bs.length = (many * wd + 7) / 8 then some (upk bs many wd) else none
def tkBt (many : Nat) (bs : List UInt8) : Option (List Val) :=
  if bs.length ≤ 8 ∨ 64 < (bs.getD 8 0).toNat then none else (upkO (bs.drop 9) many (bs.getD 8 0).toNat).map fun l => l.map fun (n : Nat) => intV (IntKind.i64.wrap (wordV bs + (n : Int)))
def tkDc (many : Nat) (bs : List UInt8) : Option (List Val) :=
  if bs.length = 0 ∨ (bs.getD 0 0).toNat = 0 ∨ many < (bs.getD 0 0).toNat then none
  else match tkP (bs.getD 0 0).toNat [] (bs.drop 1) with
    | none => none
    | some (u, r) => match upkO r many (Lib.bitLen (u.length - 1)) with
      | none => none
      | some ps => if ps.all (fun p => decide (p < u.length)) = true then some (ps.map fun p => u.getD p nv) else none
/-- What take reads. -/
def tkA (k : Int) (many : Nat) (bs : List UInt8) : Option (List Val) :=
  if many = 0 then some [] else if k = 1 then tkR many [] bs else if k = 2 then tkDl many bs else if k = 3 then tkDc many bs else if k = 4 then tkBt many bs else (tkP many [] bs).map Prod.fst

theorem vsz_rowB (x : Val) (h : x.right = true) (s : List UInt8) : vsz (rowB x ++ s) = (rowB x).length := by
  by_cases h3 : x.k = 3
  · obtain ⟨e, h6⟩ := right3 h h3
    have ho : (octet (x.t.size : Int)).toNat = x.t.size := by have := octet_toNat (x.t.size : Int) (by omega) (by omega); omega
    have hl : x.t.data.toList.length = x.t.size := by simp
    simp only [rowB, if_pos h3, List.cons_append, vsz]
    rw [if_neg (by decide), if_neg (by decide), if_neg (by decide), if_pos (by decide), ho]
    simp
    omega
  · have e : rowB x = fixB x 0 := by unfold rowB; rw [if_neg h3]
    rw [e]
    unfold fixB
    split
    · rfl
    · split
      · rfl
      · show vsz (2 :: (be (u64 (x.n + 0)) 8 ++ s)) = _
        simp only [vsz]
        rw [if_neg (by decide), if_neg (by decide), if_pos (by decide)]
        simp [be_length]
theorem tkV_put (x : Val) (h : x.right = true) (hi : x.in64) (s : List UInt8) : tkV (rowB x ++ s) = (x, (rowB x).length) := by
  have hp := rowB_pos h
  unfold tkV
  rw [vsz_rowB x h s, if_neg (by rw [List.length_append]; omega), List.take_left]
  have e : decS (1 :: rowB x) = ([x], 0) := by
    have := decS_put [x] (by simp [okR, allR, h]) (by simpa using hi)
    have e2 : encB [x] = 1 :: rowB x := by simp [encB]; rfl
    rw [e2] at this
    exact this
  rw [e]
  rfl
theorem tkP_put : ∀ (l acc : List Val) (s : List UInt8), allR l = true → (∀ x ∈ l, x.in64) → tkP l.length acc (l.flatMap rowB ++ s) = some (acc ++ l, s)
  | [], acc, s, _, _ => by simp [tkP]
  | x :: l, acc, s, h, hi => by
    have hx : x.right = true := by simp [allR] at h; exact h.1
    have hl : allR l = true := by simp [allR] at h ⊢; exact h.2
    have hp := rowB_pos hx
    rw [List.flatMap_cons, List.append_assoc, List.length_cons, tkP, tkV_put x hx (hi x (by simp))]
    simp only
    rw [if_neg (by omega), List.drop_left, tkP_put l _ s hl (fun y hy => hi y (by simp [hy]))]
    simp
theorem tkR_put : ∀ (R : List Rn) (acc : List Val) (s : List UInt8) (many : Nat), (∀ r ∈ R, r.v.right = true ∧ r.v.in64 ∧ 0 < r.m ∧ r.m < 256) → many = acc.length + (R.map Rn.m).sum → tkR many acc (R.flatMap runB ++ s) = some (acc ++ R.flatMap fun r => List.replicate r.m r.v)
  | [], acc, s, many, _, hm => by rw [tkR_done (by simp at hm; omega)]; simp
  | r :: R, acc, s, many, h, hm => by
    obtain ⟨h1, h2, h3, h4⟩ := h r (by simp)
    have hp := rowB_pos h1
    simp only [List.map_cons, List.sum_cons] at hm
    have e : (r :: R).flatMap runB ++ s = octet r.m :: (rowB r.v ++ (R.flatMap runB ++ s)) := by simp [runB]
    rw [e, tkR_cons (by omega), tkV_put r.v h1 h2]
    simp only
    rw [if_neg (by omega), List.drop_left, octet_nat r.m h4, tkR_put R _ s many (fun r' hr' => h r' (by simp [hr'])) (by simp; omega)]
    simp
theorem runsV_flat : ∀ l : List Val, (runsV l).flatMap (fun r => List.replicate r.m r.v) = l ∧ (∀ r ∈ runsV l, 0 < r.m) ∧ ((runsV l).map Rn.m).sum = l.length
  | [] => by simp [runsV]
  | x :: l => by
    obtain ⟨h1, h2, h3⟩ := runsV_flat l
    rw [runsV]
    cases hr : runsV l with
    | nil =>
      rw [hr] at h1 h3
      have : l = [] := by simpa using h1.symm
      subst this
      simp
    | cons r rs =>
      rw [hr] at h1 h2 h3
      simp only
      split
      · rename_i he
        have e := eqv_iff.1 he
        refine ⟨?_, ?_, ?_⟩
        · rw [← h1, e]; simp [List.replicate_succ]
        · intro q hq
          simp only [List.mem_cons] at hq
          rcases hq with rfl | hq
          · simp
          · exact h2 q (by simp [hq])
        · simp at h3 ⊢; omega
      · refine ⟨?_, ?_, ?_⟩
        · rw [← h1]; simp
        · intro q hq
          simp only [List.mem_cons] at hq
          rcases hq with rfl | hq
          · simp
          · exact h2 q (by simpa using hq)
        · simp at h3 ⊢; omega
theorem back_runs (l : List Val) (h : allR l = true) (hi : ∀ x ∈ l, x.in64) (hl : l.length ≤ 64) (s : List UInt8) : tkR l.length [] ((runsV l).flatMap runB ++ s) = some l := by
  obtain ⟨h1, h2, h3⟩ := runsV_flat l
  rw [tkR_put (runsV l) [] s l.length (fun r hr => ?_) (by simp [h3]), h1]
  · simp
  · have := runsV_in r hr
    exact ⟨List.all_eq_true.1 h _ this.1, hi _ this.1, h2 r hr, by omega⟩
/-- Differences, one behind the other. -/
def dltL : Val → List Val → List UInt8
  | _, [] => []
  | x, y :: r => gB (zig (IntKind.i64.wrap (y.n - x.n))).toNat ++ dltL y r
theorem dltL_eq : ∀ (r : List Val) (x : Val), dlt (x :: r) r.length = dltL x r
  | [], x => by simp [dlt, dltL]
  | y :: r, x => by
    rw [dltL, ← dltL_eq r y]
    unfold dlt
    rw [List.length_cons, List.range_succ_eq_map, List.flatMap_cons]
    congr 1
    rw [List.flatMap_map]
    rfl
theorem wrap_diff (n m : Int) (hn : -9223372036854775808 ≤ n ∧ n ≤ 9223372036854775807) (hm : -9223372036854775808 ≤ m ∧ m ≤ 9223372036854775807) : IntKind.i64.wrap (n + IntKind.i64.wrap (m - n)) = m := by
  rw [IntKind.wrap_i64, IntKind.wrap_i64]; omega
theorem gB_pos (z : Nat) : 0 < (gB z).length := by
  by_cases h : z < 128
  · rw [gB_lo h]; simp
  · rw [gB_hi h]; simp
theorem tkG_zig (d : Int) (h1 : -9223372036854775808 ≤ d) (h2 : d < 9223372036854775808) (s : List UInt8) : tkG 0 0 (gB (zig d).toNat ++ s) = ((zig d).toNat, (gB (zig d).toNat).length) := by
  have hb := zig_bd h1 h2
  rw [tkG_back s _ (zig d).toNat 0 0 (Nat.le_refl _) (by simp; omega) (by omega)]
  simp
theorem int_of {x : Val} (h : x.right = true) (hk : x.k = 2) : x = intV x.n := right2 h hk
theorem tkD_put : ∀ (r : List Val) (x : Val) (acc : List Val) (s : List UInt8), x.in64 → (∀ y ∈ r, y.in64 ∧ y = intV y.n) → tkD r.length x.n acc (dltL x r ++ s) = some (acc ++ r)
  | [], x, acc, s, _, _ => by simp [tkD]
  | y :: r, x, acc, s, hx, h => by
    obtain ⟨hy1, hy2⟩ := h y (by simp)
    have hw := wrap64_bd (y.n - x.n)
    have hp := gB_pos (zig (IntKind.i64.wrap (y.n - x.n))).toNat
    rw [dltL, List.append_assoc, List.length_cons, tkD, tkG_zig _ hw.1 hw.2]
    simp only
    rw [if_neg (by omega), List.drop_left, zag_zig hw.1 hw.2, wrap_diff x.n y.n hx hy1, ← hy2, tkD_put r y _ s hy1 (fun z hz => h z (by simp [hz]))]
    simp
theorem wordV_put (n : Int) (h : -9223372036854775808 ≤ n ∧ n ≤ 9223372036854775807) (s : List UInt8) : wordV (be (u64 n) 8 ++ s) = n := by
  unfold wordV
  rw [take8]
  have := s64_u64 n 0 h
  simpa using this
theorem back_delta (l : List Val) (h : allR l = true) (hi : ∀ x ∈ l, x.in64) (h2 : allI l = true) (h0 : 0 < l.length) (s : List UInt8) : tkDl l.length (deltaB l ++ s) = some l := by
  cases l with
  | nil => simp at h0
  | cons x r =>
    have hint : ∀ y ∈ x :: r, y = intV y.n := fun y hy => int_of (List.all_eq_true.1 h y hy) (by have := List.all_eq_true.1 h2 y hy; simpa using this)
    have e : deltaB (x :: r) ++ s = be (u64 x.n) 8 ++ (dltL x r ++ s) := by
      unfold deltaB
      rw [List.length_cons, Nat.add_sub_cancel, dltL_eq]
      simp
    unfold tkDl
    rw [e, if_neg (by rw [List.length_append, be_length]; omega), wordV_put x.n (hi x (by simp)), List.length_cons, Nat.add_sub_cancel]
    have e8 : (be (u64 x.n) 8 ++ (dltL x r ++ s)).drop 8 = dltL x r ++ s := by
      have : (be (u64 x.n) 8).length = 8 := be_length _ _
      exact List.drop_left' this
    rw [e8, tkD_put r x _ s (hi x (by simp)) (fun y hy => ⟨hi y (by simp [hy]), hint y (by simp [hy])⟩), ← hint x (by simp)]
    rfl
theorem bitLen_lt (x : Nat) (h : x < 18446744073709551616) : x < 2 ^ Lib.bitLen x := by
  have : ∀ (f x : Nat), x < 2 ^ f → x < 2 ^ Lib.bitLenAux f x := by
    intro f
    induction f with
    | zero => intro x hx; simpa [Lib.bitLenAux] using hx
    | succ f ih =>
      intro x hx
      unfold Lib.bitLenAux
      split
      · rename_i h0; simp_all
      · have h1 := ih (x / 2) (by rw [Nat.pow_succ] at hx; omega)
        rw [Nat.pow_add, Nat.pow_one]
        omega
  exact this 64 x h
theorem wdt_ge (l : List Val) (m : Int) : ∀ j k, k < j → Lib.bitLen (abv l m k) ≤ wdt l m j
  | 0, k, h => by omega
  | j + 1, k, h => by
    rw [wdt]
    by_cases e : k = j
    · subst e; omega
    · have := wdt_ge l m j k (by omega)
      omega
theorem upkO_back (l : List Nat) (wd : Nat) (h : ∀ x ∈ l, x < 2 ^ wd) : upkO (packB l wd) l.length wd = some l := by
  unfold upkO
  rw [if_pos (packB_length l wd), upk_back l wd h]
theorem abv_back (l : List Val) (m : Int) (k : Nat) (hm : -9223372036854775808 ≤ m ∧ m ≤ 9223372036854775807) (hk : -9223372036854775808 ≤ (l.getD k nv).n ∧ (l.getD k nv).n ≤ 9223372036854775807) : IntKind.i64.wrap (m + (abv l m k : Int)) = (l.getD k nv).n := by
  unfold abv
  rw [IntKind.wrap_i64]
  omega
theorem least_in (l : List Val) (hi : ∀ x ∈ l, x.in64) (h0 : 0 < l.length) : ∀ j, -9223372036854775808 ≤ leastTo l j ∧ leastTo l j ≤ 9223372036854775807 := by
  have hg : ∀ k, -9223372036854775808 ≤ (l.getD k nv).n ∧ (l.getD k nv).n ≤ 9223372036854775807 := fun k => by
    by_cases hk : k < l.length
    · have e : l.getD k nv = l[k] := by simp [hk]
      rw [e]; exact hi _ (List.getElem_mem hk)
    · have e : l.getD k nv = nv := by simp [List.getElem?_eq_none (by omega : l.length ≤ k)]
      rw [e]; exact ⟨by decide, by decide⟩
  intro j
  induction j with
  | zero => exact hg 0
  | succ j ih =>
    have := hg j
    unfold leastTo
    omega
theorem range_map_getD (l : List Val) : (List.range l.length).map (fun k => l.getD k nv) = l := by
  apply List.ext_getElem?
  intro i
  by_cases hi : i < l.length
  · rw [List.getElem?_map, List.getElem?_range hi]
    simp [hi]
  · rw [List.getElem?_eq_none (by simp; omega), List.getElem?_eq_none (by omega)]
theorem back_bits (l : List Val) (h : allR l = true) (hi : ∀ x ∈ l, x.in64) (h2 : allI l = true) (h0 : 0 < l.length) : tkBt l.length (bitsB l) = some l := by
  have hw := wdt_le l (leastTo l l.length) l.length
  have hin := least_in l hi h0 l.length
  have hge := wdt_ge l (leastTo l l.length) l.length
  obtain ⟨m, hm⟩ : ∃ m, leastTo l l.length = m := ⟨_, rfl⟩
  rw [hm] at hw hin hge
  obtain ⟨wd, hwd⟩ : ∃ wd, wdt l m l.length = wd := ⟨_, rfl⟩
  rw [hwd] at hw hge
  have e : bitsB l = be (u64 m) 8 ++ (octet wd :: packB (abvs l m l.length) wd) := by unfold bitsB; rw [hm, hwd]; simp
  have hl8 : (be (u64 m) 8).length = 8 := be_length _ _
  have ho : (octet wd).toNat = wd := octet_nat wd (by omega)
  have e8 : (be (u64 m) 8 ++ (octet wd :: packB (abvs l m l.length) wd)).getD 8 0 = octet wd := by
    rw [List.getD_eq_getElem?_getD, List.getElem?_append_right (by omega), hl8]; rfl
  have e9 : (be (u64 m) 8 ++ (octet wd :: packB (abvs l m l.length) wd)).drop 9 = packB (abvs l m l.length) wd := by
    rw [show 9 = (be (u64 m) 8).length + 1 by rw [hl8], List.drop_append]; simp
  unfold tkBt
  rw [e, e8, e9, ho, if_neg (by rw [List.length_append, List.length_cons, hl8]; omega), wordV_put m hin]
  have hub := upkO_back (abvs l m l.length) wd (fun x hx => by
    unfold abvs at hx
    obtain ⟨k, hk, rfl⟩ := List.mem_map.1 hx
    have h1 := bitLen_lt (abv l m k) (abv_lt l m k)
    exact Nat.lt_of_lt_of_le h1 (Nat.pow_le_pow_right (by omega) (hge k (by simpa using hk))))
  rw [abvs_length] at hub
  rw [hub, Option.map_some, Option.some.injEq]
  unfold abvs
  rw [List.map_map]
  conv => rhs; rw [← range_map_getD l]
  apply List.map_congr_left
  intro k hk
  have hk' : k < l.length := by simpa using hk
  have eg : l.getD k nv = l[k] := by simp [hk']
  show intV _ = _
  rw [abv_back l m k hin (by rw [eg]; exact hi _ (List.getElem_mem hk'))]
  have := int_of (List.all_eq_true.1 h _ (List.getElem_mem hk')) (by have := List.all_eq_true.1 h2 _ (List.getElem_mem hk'); simpa using this)
  rw [eg, ← this]
theorem back_dict (l : List Val) (h : allR l = true) (hi : ∀ x ∈ l, x.in64) (h0 : 0 < l.length) (hl : l.length ≤ 64) : tkDc l.length (dictB l) = some l := by
  have hul := uniq_len l
  have hur := uniq_right l h
  have hum := uniq_mem l
  obtain ⟨u, hu⟩ : ∃ u, uniq l = u := ⟨_, rfl⟩
  have e : dictB l = octet u.length :: (u.flatMap rowB ++ packB (plcs u l l.length) (Lib.bitLen (u.length - 1))) := by unfold dictB; rw [hu]; simp
  rw [hu] at hul hur
  simp only [hu] at hum
  have hu0 : 0 < u.length := by
    cases l with
    | nil => simp at h0
    | cons x r => exact List.length_pos_of_mem ((hum x).2 (by simp))
  have ho : (octet u.length).toNat = u.length := octet_nat _ (by omega)
  unfold tkDc
  rw [e]
  have e0 : (octet (u.length : Int) :: (u.flatMap rowB ++ packB (plcs u l l.length) (Lib.bitLen (u.length - 1)))).getD 0 0 = octet u.length := rfl
  rw [e0, ho, if_neg (by rw [List.length_cons]; omega), List.drop_one, List.tail_cons, tkP_put u [] _ hur (fun x hx => hi x ((hum x).1 hx))]
  simp only [List.nil_append]
  have hpl : ∀ p ∈ plcs u l l.length, p < u.length := fun p hp => by
    unfold plcs at hp
    obtain ⟨k, hk, rfl⟩ := List.mem_map.1 hp
    have hk' : k < l.length := by simpa using hk
    have eg : l.getD k nv = l[k] := by simp [hk']
    exact (idxV_mem u _ ((hum _).2 (by rw [eg]; exact List.getElem_mem hk'))).1
  have hub := upkO_back (plcs u l l.length) (Lib.bitLen (u.length - 1)) (fun x hx => by
    have h1 := hpl x hx
    have h2 := bitLen_lt (u.length - 1) (by omega)
    omega)
  rw [plcs_length] at hub
  rw [hub]
  simp only
  rw [if_pos (List.all_eq_true.2 fun p hp => by simpa using hpl p hp), Option.some.injEq]
  unfold plcs
  rw [List.map_map]
  conv => rhs; rw [← range_map_getD l]
  apply List.map_congr_left
  intro k hk
  have hk' : k < l.length := by simpa using hk
  have eg : l.getD k nv = l[k] := by simp [hk']
  exact (idxV_mem u _ ((hum _).2 (by rw [eg]; exact List.getElem_mem hk'))).2.1
/-- What is written is read back, in every kind. -/
theorem back_all (k : Int) (l : List Val) (hi : ∀ x ∈ l, x.in64) (hr : refE k l = 0) (h0 : 0 < l.length) : tkA k l.length (encR k l) = some l := by
  obtain ⟨hk, hl, ha⟩ := refE_ok hr
  have hint : ofI k = true → allI l = true := fun ho => by
    unfold refE at hr
    rw [hk, ha, ho] at hr
    simp at hr
    split at hr
    · simp at hr
    · by_cases h : allI l = true
      · exact h
      · simp [h] at hr
  have e : encR k l = putB k l := by unfold encR; rw [if_pos ⟨hr, h0⟩]
  rw [e]
  unfold tkA putB
  rw [if_neg (by omega)]
  by_cases h1 : k = 1
  · subst h1; simpa using back_runs l ha hi hl []
  · rw [if_neg h1, if_neg h1]
    by_cases h2 : k = 2
    · subst h2; simpa using back_delta l ha hi (hint rfl) h0 []
    · rw [if_neg h2, if_neg h2]
      by_cases h3 : k = 3
      · subst h3; simpa using back_dict l ha hi h0 hl
      · rw [if_neg h3, if_neg h3]
        by_cases h4 : k = 4
        · subst h4; simpa using back_bits l ha hi (hint rfl) h0
        · rw [if_neg h4, if_neg h4]
          have := tkP_put l [] [] ha hi
          rw [List.append_nil] at this
          rw [this]; rfl
end Go.Proofs.Ytpekgpgfdiffcaa
end

section
namespace Go.Proofs.Ytpekgpgfdiffcaa
open Go.RowKit Go.Hay
set_option linter.unusedVariables false
set_option linter.unusedSimpArgs false

theorem i64_or_nat (A b : Nat) (hA : A < 72057594037927936) (hb : b < 256) : bits .or .i64 (wrap64 ((A : Int) * 256)) (b : Int) = wrap64 ((A * 256 + b : Nat) : Int) := by
  show IntKind.i64.wrap ((BitVec.ofInt 64 (wrap64 ((A : Int) * 256)) ||| BitVec.ofInt 64 (b : Int)).toNat : Int) = _
  have e1 : (BitVec.ofInt 64 (wrap64 ((A : Int) * 256))).toNat = A * 256 := by
    rw [BitVec.toNat_ofInt]; unfold wrap64; omega
  have e2 : (BitVec.ofInt 64 (b : Int)).toNat = b := by rw [BitVec.toNat_ofInt]; omega
  rw [BitVec.toNat_or, e1, e2, IntKind.wrap_i64]
  have e3 : A * 256 ||| b = A * 256 + b := by
    have := or_sum b A 8 (by omega)
    rw [Nat.or_comm]
    rw [show A * 256 + b = b + A * 2 ^ 8 by omega, ← this]
  rw [e3]
  unfold wrap64
  omega
set_option maxHeartbeats 2000000 in
theorem cWord (a : Option Addr) (c : Nat) (bs : List UInt8) (w : World) (hs : Sees w a bs) (h8 : 8 ≤ bs.length) (hl : bs.length ≤ 900000000000000) :
    Calls Try.prog 63 #[.slice a bs.length c] w fun e w' => e = .returned (.int .i64 (wordV bs)) ∧ w' = w := by
  obtain ⟨g, o, rfl, hc⟩ : ∃ g o, a = some ⟨g, o, none⟩ ∧ ∀ j u, bs[j]? = some u → w.cell? ⟨g, o + j, none⟩ = some (.int .u8 u.toNat) := by
    rcases hs with h | h
    · rw [h] at h8; simp at h8
    · exact h
  have hc' := hid hc
  have hF : Hid (wordV bs = wrap64 (num (bs.take 8))) := rfl
  rw [hF.out]
  clear hs hc
  go_enter Try.func63, Try.ntmps63
  go_wp2_with fail
  go_loopw [3, 5] (fun n i wn => ∃ j : Nat, j ≤ 8 ∧ i = .int .i64 j ∧ n = .int .i64 (wrap64 (num (bs.take j))) ∧ wn = w) (fun _ i _ => 8 - (intOf i).toNat)
  case atStart => exact ⟨0, Nat.zero_le _, rfl, by simp [num, wrap64], rfl⟩
  case round =>
    obtain ⟨j, hj, rfl, rfl, rfl⟩ := hrel
    by_cases hlt : j < 8
    · have hjl : j < bs.length := by omega
      have hcx := hc'.out j bs[j] (by simp [hjl])
      have hx := bs[j].toNat_lt
      have hs := hid (num_take_succ bs j hjl)
      have hA := num_take_lt bs j (by omega)
      generalize bs[j].toNat = x at *
      obtain ⟨A, hAA⟩ : ∃ A, Hid (num (bs.take j) = A) := ⟨_, rfl⟩
      rw [hAA.out] at hs hA ⊢
      have eA : wrap64 (A : Int) = (A : Int) := by unfold wrap64; omega
      have hor := i64_or_nat A x hA hx
      rw [← hs.out] at hor
      rw [eA]
      clear eA
      go_wp2_with fail
      exact ⟨⟨j + 1, by omega, by go_num, rfl, trivial⟩, by simp [intOf]; omega⟩
    · obtain rfl : j = 8 := by omega
      obtain ⟨A, hAA⟩ : ∃ A, Hid (wrap64 (num (bs.take 8)) = A) := ⟨_, rfl⟩
      rw [hAA.out]
      go_wp2_with fail
      go_ret
      exact ⟨by rw [hAA.out]; rfl, rfl⟩
theorem i64_not (d : Nat) (h : d < 9223372036854775808) : bits .xor .i64 (-1) (d : Int) = -(d : Int) - 1 := by
  show IntKind.i64.wrap ((BitVec.ofInt 64 (-1) ^^^ BitVec.ofInt 64 (d : Int)).toNat : Int) = _
  have h1 : BitVec.ofInt 64 (-1) = BitVec.allOnes 64 := by decide
  rw [h1, BitVec.allOnes_xor, BitVec.toNat_not]
  have e2 : (BitVec.ofInt 64 (d : Int)).toNat = d := by rw [BitVec.toNat_ofInt]; omega
  rw [e2, IntKind.wrap_i64]
  omega
theorem cUnfold (z : Nat) (hz : z < 18446744073709551616) (w : World) : Calls Try.prog 66 #[.int .u64 (z : Int)] w fun e w' => e = .returned (.int .i64 (zag z)) ∧ w' = w := by
  have hn := i64_not (z / 2) (by omega)
  by_cases h : z % 2 = 0
  · have hF : Hid (zag z = ((z / 2 : Nat) : Int)) := by show _ = _; unfold zag; rw [if_pos h]
    rw [hF.out]
    clear hn
    go_enter Try.func66, Try.ntmps66
    go_wp2_with fail
    go_ret
    exact ⟨by go_num, rfl⟩
  · have hF : Hid (zag z = -((z / 2 : Nat) : Int) - 1) := by show _ = _; unfold zag; rw [if_neg h]
    have h1 : z % 2 = 1 := by omega
    rw [hF.out]
    have hn' := hid hn
    clear hn
    go_enter Try.func66, Try.ntmps66
    go_wp2_with fail
    go_ret
    refine ⟨?_, rfl⟩
    have e : ((z / 2 : Nat) : Int) = (z : Int) / 2 := by omega
    rw [e] at hn'
    have := hn'.out
    simp [this]
theorem grp_step (j z x : Nat) (hj : j < 10) (hz : z < 2 ^ (7 * j)) (hz2 : z < 18446744073709551616) : bits .or .u64 (z : Int) (IntKind.u64.wrap ((x : Int) % 128 * 2 ^ (7 * j))) = ((z + x % 128 * 2 ^ (7 * j) % 18446744073709551616 : Nat) : Int) ∧ z + x % 128 * 2 ^ (7 * j) % 18446744073709551616 < 2 ^ (7 * (j + 1)) ∧ z + x % 128 * 2 ^ (7 * j) % 18446744073709551616 < 18446744073709551616 := by
  have hx : x % 128 < 128 := Nat.mod_lt _ (by omega)
  have e : IntKind.u64.wrap ((x : Int) % 128 * 2 ^ (7 * j)) = ((x % 128 * 2 ^ (7 * j) % 18446744073709551616 : Nat) : Int) := by
    have e2 : (x : Int) % 128 * 2 ^ (7 * j) = ((x % 128 * 2 ^ (7 * j) : Nat) : Int) := by simp
    rw [IntKind.wrap_u64, e2]
    omega
  have hdiv : ∃ y, x % 128 * 2 ^ (7 * j) % 18446744073709551616 = y * 2 ^ (7 * j) ∧ y < 128 := by
    by_cases h9 : j = 9
    · subst h9
      exact ⟨x % 128 % 2, by omega, by omega⟩
    · have : 2 ^ (7 * j) ≤ 2 ^ 56 := Nat.pow_le_pow_right (by omega) (by omega)
      have h2 : x % 128 * 2 ^ (7 * j) ≤ 127 * 2 ^ 56 := Nat.mul_le_mul (by omega) this
      exact ⟨x % 128, by omega, hx⟩
  obtain ⟨y, hy, hy2⟩ := hdiv
  have hlt : x % 128 * 2 ^ (7 * j) % 18446744073709551616 < 18446744073709551616 := Nat.mod_lt _ (by omega)
  rw [e, hy]
  rw [hy] at hlt
  have hor : z ||| y * 2 ^ (7 * j) = z + y * 2 ^ (7 * j) := or_sum z y (7 * j) hz
  have hlt2 : z ||| y * 2 ^ (7 * j) < 2 ^ 64 := Nat.or_lt_two_pow (by omega) (by omega)
  rw [hor] at hlt2
  refine ⟨?_, ?_, by omega⟩
  · rw [u64_or_nat z (y * 2 ^ (7 * j)) hz2 hlt, hor]
  · have e7 : 2 ^ (7 * (j + 1)) = 128 * 2 ^ (7 * j) := by rw [show 7 * (j + 1) = 7 + 7 * j by omega, Nat.pow_add]
    rw [e7]
    have : y * 2 ^ (7 * j) ≤ 127 * 2 ^ (7 * j) := Nat.mul_le_mul_right _ (by omega)
    omega
set_option maxHeartbeats 2000000 in
set_option maxRecDepth 100000 in
theorem cTakeGroups (a : Option Addr) (c : Nat) (bs : List UInt8) (w : World) (hs : Sees w a bs) (hl : bs.length ≤ 900000000000000) :
    Calls Try.prog 65 #[.slice a bs.length c] w fun e w' => e = .returned (.tuple #[.int .u64 ((tkG 0 0 bs).1 : Int), .int .i64 ((tkG 0 0 bs).2 : Int)]) ∧ w' = w := by
  obtain ⟨F, hF⟩ : ∃ F, Hid (tkG 0 0 bs = F) := ⟨_, rfl⟩
  rw [hF.out]
  obtain ⟨g, o, haa, hc'⟩ : ∃ g o, (bs ≠ [] → a = some ⟨g, o, none⟩) ∧ Hid (∀ j u, bs[j]? = some u → w.cell? ⟨g, o + j, none⟩ = some (.int .u8 u.toNat)) := by
    rcases hs with h | ⟨g, o, h, hc⟩
    · subst h; exact ⟨0, 0, fun h => absurd rfl h, fun j u hu => by simp at hu⟩
    · exact ⟨g, o, fun _ => h, hc⟩
  have haa' := hid haa
  clear hs haa
  by_cases h10 : bs.length ≤ 10
  · have d10 : (bs.length : Int) ≤ 10 := by omega
    go_enter Try.func65, Try.ntmps65
    go_wp2_with fail
    go_loopw [4, 9] (fun n i wn => ∃ j z : Nat, j ≤ bs.length ∧ i = .int .i64 j ∧ n = .int .u64 (z : Int) ∧ z < 2 ^ (7 * j) ∧ z < 18446744073709551616 ∧ Hid (tkG j z (bs.drop j) = F) ∧ wn = w) (fun _ i _ => bs.length - (intOf i).toNat)
    case atStart => exact ⟨0, 0, Nat.zero_le _, rfl, rfl, by decide, by decide, hF, rfl⟩
    case round =>
      obtain ⟨j, z, hj, rfl, rfl, hz, hz2, hT, rfl⟩ := hrel
      by_cases hlt : j < bs.length
      · have hjl : j < bs.length := by omega
        have hj1 : j < 10 := by omega
        have hcx := hc'.out j bs[j] (by simp [hjl])
        rw [haa'.out (fun h => by rw [h] at hjl; simp at hjl)]
        have hx := bs[j].toNat_lt
        rw [List.drop_eq_getElem_cons hjl, tkG, if_pos hj1] at hT
        obtain ⟨hg1, hg2, hg3⟩ := grp_step j z bs[j].toNat hj1 hz hz2
        generalize bs[j].toNat = x at *
        obtain ⟨Z, hZ⟩ : ∃ Z, Hid (z + x % 128 * 2 ^ (7 * j) % 18446744073709551616 = Z) := ⟨_, rfl⟩
        rw [hZ.out] at hT hg1 hg2 hg3
        have hg1' := hid hg1
        clear hg1
        by_cases hx1 : x < 128
        · rw [if_pos hx1] at hT
          have hfin : Hid (F = (Z, j + 1)) := hT.out.symm
          have d1 : (x : Int) < 128 := by omega
          clear hT
          go_wp2_with fail
          go_ret2
          exact ⟨by rw [hfin.out]; simp [hg1'.out], rfl⟩
        · rw [if_neg hx1] at hT
          have d1 : ¬ (x : Int) < 128 := by omega
          go_wp2_with fail
          exact ⟨⟨j + 1, Z, by omega, by go_num, by rw [hg1'.out], hg2, hg3, hT, trivial⟩, by simp [intOf]; omega⟩
      · obtain rfl : j = bs.length := by omega
        have hfin : Hid (F = (0, 0)) := by
          show _ = _
          rw [← hT.out]
          rw [List.drop_length, tkG]
        go_wp2_with fail
        go_ret2
        exact ⟨by rw [hfin.out]; rfl, rfl⟩
  · have d10 : ¬ (bs.length : Int) ≤ 10 := by omega
    go_enter Try.func65, Try.ntmps65
    go_wp2_with fail
    go_loopw [4, 9] (fun n i wn => ∃ j z : Nat, j ≤ 10 ∧ i = .int .i64 j ∧ n = .int .u64 (z : Int) ∧ z < 2 ^ (7 * j) ∧ z < 18446744073709551616 ∧ Hid (tkG j z (bs.drop j) = F) ∧ wn = w) (fun _ i _ => 10 - (intOf i).toNat)
    case atStart => exact ⟨0, 0, Nat.zero_le _, rfl, rfl, by decide, by decide, hF, rfl⟩
    case round =>
      obtain ⟨j, z, hj, rfl, rfl, hz, hz2, hT, rfl⟩ := hrel
      by_cases hlt : j < 10
      · have hjl : j < bs.length := by omega
        have hj1 : j < 10 := by omega
        have hcx := hc'.out j bs[j] (by simp [hjl])
        rw [haa'.out (fun h => by rw [h] at hjl; simp at hjl)]
        have hx := bs[j].toNat_lt
        rw [List.drop_eq_getElem_cons hjl, tkG, if_pos hj1] at hT
        obtain ⟨hg1, hg2, hg3⟩ := grp_step j z bs[j].toNat hj1 hz hz2
        generalize bs[j].toNat = x at *
        obtain ⟨Z, hZ⟩ : ∃ Z, Hid (z + x % 128 * 2 ^ (7 * j) % 18446744073709551616 = Z) := ⟨_, rfl⟩
        rw [hZ.out] at hT hg1 hg2 hg3
        have hg1' := hid hg1
        clear hg1
        by_cases hx1 : x < 128
        · rw [if_pos hx1] at hT
          have hfin : Hid (F = (Z, j + 1)) := hT.out.symm
          have d1 : (x : Int) < 128 := by omega
          clear hT
          go_wp2_with fail
          go_ret2
          exact ⟨by rw [hfin.out]; simp [hg1'.out], rfl⟩
        · rw [if_neg hx1] at hT
          have d1 : ¬ (x : Int) < 128 := by omega
          go_wp2_with fail
          exact ⟨⟨j + 1, Z, by omega, by go_num, by rw [hg1'.out], hg2, hg3, hT, trivial⟩, by simp [intOf]; omega⟩
      · obtain rfl : j = 10 := by omega
        have hfin : Hid (F = (0, 0)) := by
          show _ = _
          rw [← hT.out]
          cases hd : bs.drop 10 with
          | nil => rw [tkG]
          | cons x r => rw [tkG, if_neg (by omega)]
        go_wp2_with fail
        go_ret2
        exact ⟨by rw [hfin.out]; rfl, rfl⟩
end Go.Proofs.Ytpekgpgfdiffcaa
end

section
namespace Go.Proofs.Ytpekgpgfdiffcaa
open Go.RowKit Go.Hay
set_option linter.unusedVariables false
set_option linter.unusedSimpArgs false

/-- What takePlain hands back. -/
def TkP (w : World) (r : Option (List Val × List UInt8)) (e : Ending) (w' : World) : Prop :=
  match r with
  | none => e = .returned (.tuple #[.slice none 0 0, .slice none 0 0, .bool false]) ∧ Kp [] w w'
  | some q => ∃ a c b d, e = .returned (.tuple #[.slice a q.1.length c, .slice b q.2.length d, .bool true]) ∧ VE.Row w' (.slice a q.1.length c) q.1 ∧ Sees w b q.2 ∧ q.2.length ≤ d ∧ d ≤ maxLen ∧ Kp [] w w' ∧ ∀ k ∈ blk a, w.heap.size ≤ k
/-- A value laid at a place of a row of values. -/
theorem rowSetV {w : World} {B n c : Nat} {l : List Val} (h : VE.Row w (.slice (some ⟨B, 0, none⟩) n c) l) (i : Nat) (hi : i < l.length) (x : Val) : VE.Row ((((w.setCell ⟨B, i * 4, none⟩ (.int .i64 x.k)).setCell ⟨B, i * 4 + 1, none⟩ (.bool x.b)).setCell ⟨B, i * 4 + 2, none⟩ (.int .i64 x.n)).setCell ⟨B, i * 4 + 3, none⟩ (.string x.t)) (.slice (some ⟨B, 0, none⟩) n c) (l.set i x) := by
  have := h.setAt i hi x
  have e : VE.n = 4 := rfl
  rw [e, Nat.zero_add] at this
  exact this
theorem rowCellsV {w : World} {B n c : Nat} {l : List Val} (h : VE.Row w (.slice (some ⟨B, 0, none⟩) n c) l) (i : Nat) (hi : i < l.length) : ∀ j, j < 4 → (∃ u, w.cell? ⟨B, i * 4 + j, none⟩ = some u) ∧ w.frozen? ⟨B, i * 4 + j, none⟩ = false := by
  intro j hj
  rcases h with ⟨e, _⟩ | ⟨g, o, cc, e, hl, hx, hg, hc, ht⟩
  · cases e
  · cases e
    have e : VE.n = 4 := rfl
    have := ht (i * 4 + j) (by rw [e]; omega)
    rw [Nat.zero_add] at this
    exact ⟨Option.isSome_iff_exists.1 this.1, this.2⟩
theorem kpSet4 {w0 w : World} {B i : Nat} (k : Kp [] w0 w) (hB : w0.heap.size ≤ B) (a b c d : Value) : Kp [] w0 ((((w.setCell ⟨B, i * 4, none⟩ a).setCell ⟨B, i * 4 + 1, none⟩ b).setCell ⟨B, i * 4 + 2, none⟩ c).setCell ⟨B, i * 4 + 3, none⟩ d) :=
  (((k.setCell (p := ⟨B, i * 4, none⟩) (.inr hB) _).setCell (p := ⟨B, i * 4 + 1, none⟩) (.inr hB) _).setCell (p := ⟨B, i * 4 + 2, none⟩) (.inr hB) _).setCell (p := ⟨B, i * 4 + 3, none⟩) (.inr hB) _
theorem nv_nil : nilV = nv := rfl
structure TpI (w W : World) (many j : Nat) (ba : Option Addr) (bc : Nat) (rest : List UInt8) (acc : List Val) (F : Option (List Val × List UInt8)) : Prop where
  see : Sees w ba rest
  len : rest.length ≤ bc
  cap : bc ≤ 9223372036854775807
  few : rest.length ≤ 900000000000000
  row : VE.Row W (.slice (some ⟨w.heap.size, 0, none⟩) many many) (acc ++ List.replicate (many - j) nv)
  kp : Kp [] w W
  al : Hid (acc.length = j)
  fin : Hid (tkP (many - j) acc rest = F)
set_option maxHeartbeats 8000000 in
set_option maxRecDepth 100000 in
theorem cTakePlain (a : Option Addr) (c : Nat) (bs : List UInt8) (many : Nat) (w : World) (hs : Sees w a bs) (hl : bs.length ≤ c) (hm : c ≤ maxLen) (hb : bs.length ≤ 900000000000000) (hmn : many ≤ 255) :
    Calls Try.prog 46 #[.slice a bs.length c, .int .i64 many] w (TkP w (tkP many [] bs)) := by
  obtain ⟨i0, hi, hz0, hz1, hz2⟩ := infoV'
  obtain ⟨W1, hmk, hrow1, k1, hs1⟩ := run_makeG (E := VE) (P := Try.prog) w 22 41 i0 _ nv 40 Try.underlying22 hi hz0 hz1 hz2 rfl .i64 .i64 many (by omega) (by unfold maxLen; omega)
  obtain ⟨F, hF⟩ : ∃ F, Hid (tkP many [] bs = F) := ⟨_, rfl⟩
  rw [hF.out]
  unfold maxLen at hm
  have I0 : Hid (TpI w W1 many 0 a c bs [] F) := ⟨hs, hl, hm, hb, by simpa using hrow1, k1, rfl, by simpa using hF⟩
  clear hs hrow1 k1 hF
  go_enter Try.func46, Try.ntmps46
  go_wp2_with fail
  go_loopw [0, 15] (fun v0 i wn => ∃ (j : Nat) (ba : Option Addr) (bc : Nat) (rest : List UInt8) (acc : List Val), j ≤ many ∧ i = .int .i64 j ∧ v0 = .slice ba rest.length bc ∧ TpI w wn many j ba bc rest acc F) (fun _ i _ => many - (intOf i).toNat)
  case atStart => exact ⟨0, a, c, bs, [], Nat.zero_le _, rfl, rfl, I0.out⟩
  case round =>
    clear I0 hmk
    obtain ⟨j, ba, bc, rest, acc, hj, rfl, rfl, I⟩ := hrel
    by_cases hlt : j < many
    · have hkw := I.kp
      have hcap := I.cap
      have hlen := I.len
      have hfew := I.few
      have ht := cTakeV ba bc rest wr (I.see.kept I.kp (by simp)) I.len (by unfold maxLen; omega) I.few
      have htle := tkV_le rest
      have hfin := I.fin
      rw [show many - j = (many - (j + 1)) + 1 by omega, tkP] at hfin
      obtain ⟨⟨v, sz⟩, htk⟩ : ∃ t, Hid (tkV rest = t) := ⟨_, rfl⟩
      rw [htk.out] at ht htle hfin
      unfold Tk at ht
      dsimp only at ht htle hfin
      have hxv : Hid (v.v = .agg #[.int .i64 v.k, .bool v.b, .int .i64 v.n, .string v.t]) := rfl
      rw [hxv.out] at ht
      have hI := hid I
      clear I hxv
      go_wp2_with fail
      refine ht.mono ?_
      rintro e w1 ⟨rfl, k1⟩
      obtain ⟨wb, hwb⟩ : ∃ wb, w1.alloc (.cells #[.int .i64 v.k, .bool v.b, .int .i64 v.n, .string v.t] 41) = wb := ⟨_, rfl⟩
      have kb : Kp [] w1 wb := by rw [← hwb]; exact (Kp.refl _ _).alloc _
      have bx : Box4 wb w1.heap.size (.int .i64 v.k) (.bool v.b) (.int .i64 v.n) (.string v.t) := by rw [← hwb]; exact Box4.new _ _ _ _ _ _
      have kwb : Kp [] w wb := (hkw.trans k1 (by simp)).trans kb (by simp)
      by_cases hsz : sz = 0
      · subst hsz
        rw [if_pos rfl] at hfin
        have hF' : Hid (F = none) := hfin.out.symm
        have hP : TkP w F (.returned (.tuple #[.slice none 0 0, .slice none 0 0, .bool false])) wb := by rw [hF'.out]; exact ⟨rfl, kwb⟩
        clear hfin hI ht hF'
        go_wp2_with fail
        go_ret3
        exact hP
      · rw [if_neg hsz] at hfin
        have hsz' : ((sz : Int) == 0) = false := by rw [beq_eq_false_iff_ne]; omega
        have hrow := hI.out.row.keptNew (k1.trans kb (by simp))
        have hal : (acc ++ List.replicate (many - j) nv).length = many := by rw [List.length_append, hI.out.al.out, List.length_replicate]; omega
        have hcl := rowCellsV hrow j (by rw [hal]; exact hlt)
        obtain ⟨⟨u0, c0⟩, f0⟩ := hcl 0 (by omega)
        obtain ⟨⟨u1, c1⟩, f1⟩ := hcl 1 (by omega)
        obtain ⟨⟨u2, c2⟩, f2⟩ := hcl 2 (by omega)
        obtain ⟨⟨u3, c3⟩, f3⟩ := hcl 3 (by omega)
        rw [Nat.add_zero] at c0 f0
        have hset := rowSetV hrow j (by rw [hal]; exact hlt) v
        have e1 : (acc ++ List.replicate (many - j) nv).set j v = acc ++ [v] ++ List.replicate (many - (j + 1)) nv := by
          have := set_app acc nv v (many - (j + 1))
          rw [hI.out.al.out, show many - (j + 1) + 1 = many - j by omega] at this
          exact this
        rw [e1] at hset
        have kset := kpSet4 (i := j) kwb (Nat.le_refl _) (.int .i64 v.k) (.bool v.b) (.int .i64 v.n) (.string v.t)
        have p0 := bx.c0; have p1 := bx.c1; have p2 := bx.c2; have p3 := bx.c3
        obtain ⟨W3, hW3⟩ : ∃ W3, (((wb.setCell ⟨w.heap.size, j * 4, none⟩ (.int .i64 v.k)).setCell ⟨w.heap.size, j * 4 + 1, none⟩ (.bool v.b)).setCell ⟨w.heap.size, j * 4 + 2, none⟩ (.int .i64 v.n)).setCell ⟨w.heap.size, j * 4 + 3, none⟩ (.string v.t) = W3 := ⟨_, rfl⟩
        rw [hW3] at hset kset
        have hdl : (rest.drop sz).length = rest.length - sz := by simp
        have hnxt : Hid (∀ ba', Sees w ba' (rest.drop sz) → ∃ (j' : Nat) (ba2 : Option Addr) (bc2 : Nat) (rest2 : List UInt8) (acc2 : List Val), j' ≤ many ∧ (.int .i64 ((j : Int) + 1) : Value) = .int .i64 j' ∧ (.slice ba' (rest.length - sz) (bc - sz) : Value) = .slice ba2 rest2.length bc2 ∧ TpI w W3 many j' ba2 bc2 rest2 acc2 F) := fun ba' hsb =>
          ⟨j + 1, ba', bc - sz, rest.drop sz, acc ++ [v], by omega, by go_num, by rw [hdl], hsb, by rw [hdl]; omega, by omega, by rw [hdl]; omega, hset, kset, by show _ = _; simp [hI.out.al.out], hfin⟩
        have htl : Hid (∀ g o, ba = some ⟨g, o, none⟩ → Sees w (some ⟨g, o + sz, none⟩) (rest.drop sz)) := fun g o e => by subst e; have := Sees.tail hI.out.see sz; simpa [Addr.add_lit] using this
        obtain ⟨g, o, rfl⟩ : ∃ g o, ba = some ⟨g, o, none⟩ := by
          rcases hI.out.see with h | ⟨g, o, h, _⟩
          · rw [h] at htle; simp at htle; omega
          · exact ⟨g, o, h⟩
        have htd := hid (htl.out g o rfl)
        have hW3' := hid hW3
        clear hrow hset hfin hI htl hal hW3 ht kset e1 hcl
        by_cases hce : sz = bc
        · have hemp : rest.drop sz = [] := List.drop_eq_nil_of_le (by omega)
          have hN := hid (hnxt.out (some ⟨g, o, none⟩) (by rw [hemp]; exact .inl rfl))
          rw [show rest.length - sz = 0 by omega, show bc - sz = 0 by omega] at hN
          clear hnxt hemp htd
          go_wp2_with fail
          rw [hW3'.out]
          exact ⟨hN.out, by simp [intOf]; omega⟩
        · have hN := hid (hnxt.out (some ⟨g, o + sz, none⟩) htd.out)
          clear hnxt htd
          go_wp2_with fail
          rw [hW3'.out]
          exact ⟨hN.out, by simp [intOf]; omega⟩
    · obtain rfl : j = many := by omega
      have hfin : Hid (F = some (acc, rest)) := by
        have := I.fin.out
        rw [Nat.sub_self, tkP] at this
        exact this.symm
      have hrow := I.row
      rw [Nat.sub_self, List.replicate_zero, List.append_nil] at hrow
      have hP : TkP w F (.returned (.tuple #[.slice (some ⟨w.heap.size, 0, none⟩) j j, .slice ba rest.length bc, .bool true])) wr := by
        rw [hfin.out]
        refine ⟨some ⟨w.heap.size, 0, none⟩, j, ba, bc, by rw [I.al.out], by rw [I.al.out]; exact hrow, I.see, I.len, by unfold maxLen; exact I.cap, I.kp, fun k hk => by simp [blk] at hk; omega⟩
      clear I hrow hfin
      go_wp2_with fail
      go_ret3
      exact hP
end Go.Proofs.Ytpekgpgfdiffcaa
end

section
namespace Go.Proofs.Ytpekgpgfdiffcaa
open Go.RowKit Go.Hay
set_option linter.unusedVariables false
set_option linter.unusedSimpArgs false

/-- What unpack hands back. -/
def UpP (w : World) (r : Option (List Nat)) (e : Ending) (w' : World) : Prop :=
  match r with
  | none => e = .returned (.tuple #[.slice none 0 0, .bool false]) ∧ Kp [] w w'
  | some l => ∃ a c, e = .returned (.tuple #[.slice a l.length c, .bool true]) ∧ U64E.Row w' (.slice a l.length c) l ∧ Kp [] w w' ∧ ∀ k ∈ blk a, w.heap.size ≤ k
theorem or_up (A x k r : Nat) (hk : k < 64) (hA : A < 2 ^ k) (hx : x < 256) : bits .or .u64 (A : Int) (IntKind.u64.wrap (IntKind.u64.wrap (bits .and .u8 ((x : Int) / 2 ^ r) 1) * 2 ^ k)) = ((A + x / 2 ^ r % 2 * 2 ^ k : Nat) : Int) := by
  have e1 : (x : Int) / 2 ^ r = ((x / 2 ^ r : Nat) : Int) := by simp
  have hy : x / 2 ^ r < 256 := Nat.lt_of_le_of_lt (Nat.div_le_self _ _) hx
  rw [e1]
  generalize x / 2 ^ r = y at hy
  have e2 : bits .and .u8 (y : Int) 1 = ((y % 2 : Nat) : Int) := by
    have := u8_and_nat y 1 hy (by omega)
    rw [Nat.and_one_is_mod] at this
    exact this
  have e2' : IntKind.u64.wrap ((y % 2 : Nat) : Int) = ((y % 2 : Nat) : Int) := by rw [IntKind.wrap_u64]; omega
  rw [e2, e2']
  have hb : y % 2 < 2 := Nat.mod_lt _ (by omega)
  generalize y % 2 = b at hb
  have h2 : 2 ^ k ≤ 2 ^ 63 := Nat.pow_le_pow_right (n := 2) (by omega) (by omega)
  have hm : b * 2 ^ k ≤ 1 * 2 ^ k := Nat.mul_le_mul_right _ (by omega)
  have e3 : IntKind.u64.wrap ((b : Int) * 2 ^ k) = ((b * 2 ^ k : Nat) : Int) := by
    have h4 : (b : Int) * 2 ^ k = ((b * 2 ^ k : Nat) : Int) := by simp
    rw [h4, IntKind.wrap_u64]
    omega
  rw [e3, u64_or_nat A (b * 2 ^ k) (by omega) (by omega), or_sum A b k hA]
/-- So many numbers read, and one half way. -/
def upSt (bs : List UInt8) (wd many j x : Nat) : List Nat := (List.range j).map (fun i => numTo bs wd i wd) ++ x :: List.replicate (many - j - 1) 0
theorem upSt_len (bs : List UInt8) (wd many j x : Nat) (h : j < many) : (upSt bs wd many j x).length = many := by unfold upSt; simp; omega
theorem upSt_set (bs : List UInt8) (wd many j x y : Nat) : (upSt bs wd many j x).set j y = upSt bs wd many j y := by
  unfold upSt
  rw [List.set_append_right _ _ (by simp)]
  simp
theorem upSt_at (bs : List UInt8) (wd many j x : Nat) : (upSt bs wd many j x)[j]? = some x := by
  unfold upSt
  rw [List.getElem?_append_right (by simp)]
  simp
def upTo (bs : List UInt8) (wd many j : Nat) : List Nat := (List.range j).map (fun i => numTo bs wd i wd) ++ List.replicate (many - j) 0
theorem upTo_st (bs : List UInt8) (wd many j : Nat) (h : j < many) : upTo bs wd many j = upSt bs wd many j (numTo bs wd j 0) := by
  unfold upTo upSt
  rw [show many - j = (many - j - 1) + 1 by omega, List.replicate_succ]; rfl
theorem upSt_to (bs : List UInt8) (wd many j : Nat) (h : j < many) : upSt bs wd many j (numTo bs wd j wd) = upTo bs wd many (j + 1) := by
  unfold upTo upSt
  rw [List.range_succ, List.map_append, show many - j - 1 = many - (j + 1) by omega]; simp
theorem upTo_all (bs : List UInt8) (wd many : Nat) : upTo bs wd many many = upk bs many wd := by unfold upTo upk; simp
set_option maxHeartbeats 4000000 in
set_option maxRecDepth 100000 in
theorem cUnpack (a : Option Addr) (c : Nat) (bs : List UInt8) (many wd : Nat) (w : World) (hs : Sees w a bs) (hb : bs.length ≤ 900000000000000) (hmn : many ≤ 64) (hwd : wd ≤ 64) :
    Calls Try.prog 67 #[.slice a bs.length c, .int .i64 many, .int .i64 wd] w (UpP w (upkO bs many wd)) := by
  obtain ⟨i0, hi, hz0, hz1, hz2⟩ := infoU64
  obtain ⟨N, hN⟩ : ∃ N, Hid (many * wd = N) := ⟨_, rfl⟩
  have hNb : N ≤ 4096 := by rw [← hN.out]; exact Nat.mul_le_mul hmn hwd
  have hsz := cPackedSize many wd N hN.out (by omega) w
  obtain ⟨sz, hsz'⟩ : ∃ sz, Hid ((N + 7) / 8 = sz) := ⟨_, rfl⟩
  rw [hsz'.out] at hsz
  have hF : Hid (upkO bs many wd = if bs.length = sz then some (upk bs many wd) else none) := by show _ = _; unfold upkO; rw [hN.out, hsz'.out]
  obtain ⟨F, hFF⟩ : ∃ F, Hid (upkO bs many wd = F) := ⟨_, rfl⟩
  rw [hFF.out] at hF ⊢
  by_cases hE : bs.length = sz
  · have hF2 : Hid (F = some (upk bs many wd)) := by show _ = _; rw [hF.out, if_pos hE]
    have hE' := hid hE
    have hbs : bs.length ≤ 513 := by rw [hE, ← hsz'.out]; omega
    have hszb : sz = bs.length := hE.symm
    have hat : Hid (∀ W, Kp [] w W → ∀ i (hi : i < bs.length), ∃ g o, a = some ⟨g, o, none⟩ ∧ W.cell? ⟨g, o + i, none⟩ = some (.int .u8 bs[i].toNat)) := fun W kW i hi => by
      rcases hs.kept kW (by simp) with h | ⟨g, o, h, hc⟩
      · rw [h] at hi; simp at hi
      · exact ⟨g, o, h, hc i bs[i] (by simp [hi])⟩
    obtain ⟨W1, hmk, hrow1, k1, hs1⟩ := run_makeG (E := U64E) (P := Try.prog) w 57 56 i0 (.int .u64 0) 0 8 Try.underlying57 hi hz0 hz1 hz2 rfl .i64 .i64 many (by omega) (by unfold maxLen; omega)
    have R0 : Hid (U64E.Row W1 (.slice (some ⟨w.heap.size, 0, none⟩) many many) (upTo bs wd many 0)) := by show U64E.Row _ _ _; simpa [upTo] using hrow1
    have e0 : ((bs.length : Int) != (bs.length : Int)) = false := by simp
    rw [hszb] at hsz
    clear hs hrow1 hF hE hszb hFF
    go_enter Try.func67, Try.ntmps67
    go_wp2_with fail
    refine hsz.mono ?_
    rintro e w9 ⟨rfl, hw9⟩
    rw [hw9]
    clear hw9 w9 hsz
    go_wp2_with fail
    go_loopw [22] (fun i wn => ∃ j : Nat, j ≤ many ∧ i = .int .i64 j ∧ U64E.Row wn (.slice (some ⟨w.heap.size, 0, none⟩) many many) (upTo bs wd many j) ∧ Kp [] w wn) (fun i _ => many - (intOf i).toNat)
    case atStart => exact ⟨0, Nat.zero_le _, rfl, R0.out, k1⟩
    case round =>
      clear hmk R0 k1 hs1
      obtain ⟨j, hj, rfl, hrow, kn⟩ := hrel
      by_cases hlt : j < many
      · rw [upTo_st bs wd many j hlt] at hrow
        obtain ⟨M, hM⟩ : ∃ M, Hid (j * wd = M) := ⟨_, rfl⟩
        have hMe : (j : Int) * (wd : Int) = (M : Int) := by rw [← hM.out]; simp
        have hMN : M + wd ≤ N := by
          have : (j + 1) * wd ≤ many * wd := Nat.mul_le_mul_right _ hlt
          rw [hN.out, Nat.succ_mul, hM.out] at this
          exact this
        go_wp2_with fail
        go_loopw [26] (fun i wn => ∃ k : Nat, k ≤ wd ∧ i = .int .i64 k ∧ U64E.Row wn (.slice (some ⟨w.heap.size, 0, none⟩) many many) (upSt bs wd many j (numTo bs wd j k)) ∧ Kp [] w wn) (fun i _ => wd - (intOf i).toNat)
        case atStart => exact ⟨0, Nat.zero_le _, rfl, hrow, kn⟩
        case round =>
          clear hrow kn
          obtain ⟨k, hk, rfl, hrow, kn⟩ := hrel
          by_cases hkl : k < wd
          · obtain ⟨q, hq⟩ : ∃ q, (M + k) / 8 = q := ⟨_, rfl⟩
            obtain ⟨r, hr⟩ : ∃ r, (M + k) % 8 = r := ⟨_, rfl⟩
            have eq1 : ((M : Int) + (k : Int)) / 8 = (q : Int) := by omega
            have eq2 : ((M : Int) + (k : Int)) % 8 = (r : Int) := by omega
            have hqs : q < bs.length := by rw [hE'.out, ← hsz'.out]; omega
            have hr8 : r < 8 := by omega
            obtain ⟨g, o, rfl, hcx⟩ := hat.out wr kn q hqs
            have hbit : Hid (bitAt bs (j * wd + k) = bs[q].toNat / 2 ^ r % 2) := by
              show _ = _
              unfold bitAt
              rw [hM.out, hq, hr]
              simp [hqs]
            have hx := bs[q].toNat_lt
            generalize bs[q].toNat = x at *
            have hlt2 := numTo_lt bs wd j k
            have hns : Hid (numTo bs wd j (k + 1) = numTo bs wd j k + x / 2 ^ r % 2 * 2 ^ k) := by show _ = _; rw [numTo, hbit.out]
            have hold := upSt_at bs wd many j (numTo bs wd j k)
            have hput := hrow.setAt j (by rw [upSt_len _ _ _ _ _ hlt]; exact hlt) (numTo bs wd j (k + 1))
            rw [upSt_set] at hput
            obtain ⟨A, hA⟩ : ∃ A, Hid (numTo bs wd j k = A) := ⟨_, rfl⟩
            rw [hA.out] at hold hlt2 hns hrow
            have hval := or_up A x k r (by omega) hlt2 hx
            rw [← hns.out] at hval
            have hcell : wr.cell? ⟨w.heap.size, j, none⟩ = some (.int .u64 (A : Int)) ∧ wr.frozen? ⟨w.heap.size, j, none⟩ = false := by
              rcases hrow with ⟨e, _⟩ | ⟨g9, o9, c9, e, q1, q2, q3, q4, q5⟩
              · cases e
              · injection e with e1 e2 e3
                injection e1 with e1
                injection e1 with e4 e5
                subst e3 e4 e5
                have h5 := q5 j (by have : U64E.n = 1 := rfl; rw [this]; omega)
                have h4 := q4 j (.int .u64 (A : Int)) (by
                  have := El.cs_get U64E hold (k := 0) (by decide)
                  have e1 : U64E.n = 1 := rfl
                  rw [e1, Nat.mul_one, Nat.add_zero] at this
                  rw [this]
                  simp [U64E])
                rw [Nat.zero_add] at h4 h5
                exact ⟨h4, h5.2⟩
            obtain ⟨hc, hfz⟩ := hcell
            have eW : Hid (wr.setCells w.heap.size (0 + j * U64E.n) (U64E.c (numTo bs wd j (k + 1))) = wr.setCell ⟨w.heap.size, j, none⟩ (.int .u64 (bits .or .u64 (A : Int) (IntKind.u64.wrap (IntKind.u64.wrap (bits .and .u8 ((x : Int) / 2 ^ r) 1) * 2 ^ k))))) := by
              show _ = _
              rw [hval]
              have : U64E.n = 1 := rfl
              rw [this]
              simp [U64E, World.setCells]
            rw [eW.out] at hput
            have kf : Kp [] w (wr.setCell ⟨w.heap.size, j, none⟩ (.int .u64 (bits .or .u64 (A : Int) (IntKind.u64.wrap (IntKind.u64.wrap (bits .and .u8 ((x : Int) / 2 ^ r) 1) * 2 ^ k))))).drew := (kn.setCell (p := ⟨w.heap.size, j, none⟩) (.inr (by simp)) _).drew
            have hput2 : U64E.Row (wr.setCell ⟨w.heap.size, j, none⟩ (.int .u64 (bits .or .u64 (A : Int) (IntKind.u64.wrap (IntKind.u64.wrap (bits .and .u8 ((x : Int) / 2 ^ r) 1) * 2 ^ k))))).drew (.slice (some ⟨w.heap.size, 0, none⟩) many many) (upSt bs wd many j (numTo bs wd j (k + 1))) := hput.keptNew (Kp.refl _ _).drew
            have hput3 := hid hput2
            have kf3 := hid kf
            clear hold hput eW hval hrow hput2 kf hns hA
            go_wp2_with fail
            go_region
            go_wp2_with fail
            exact ⟨⟨k + 1, by omega, by go_num, hput3.out, kf3.out⟩, by simp [intOf]; omega⟩
          · obtain rfl : k = wd := by omega
            rw [upSt_to bs k many j hlt] at hrow
            go_wp2_with fail
            exact ⟨⟨j + 1, by omega, by go_num, hrow, kn⟩, by simp [intOf]; omega⟩
      · obtain rfl : j = many := by omega
        rw [upTo_all] at hrow
        have hlen := upk_length bs j wd
        have hfin : UpP w F (.returned (.tuple #[.slice (some ⟨w.heap.size, 0, none⟩) j j, .bool true])) wr := by
          rw [hF2.out]
          exact ⟨some ⟨w.heap.size, 0, none⟩, j, by rw [hlen], by rw [hlen]; exact hrow, kn, fun k hk => by simp [blk] at hk; omega⟩
        clear hrow hlen
        go_wp2_with fail
        go_ret2
        exact hfin
  · have hF2 : Hid (F = none) := by show _ = _; rw [hF.out, if_neg hE]
    have hfin : UpP w F (.returned (.tuple #[.slice none 0 0, .bool false])) w := by rw [hF2.out]; exact ⟨rfl, Kp.refl _ _⟩
    have e0 : ((bs.length : Int) != (sz : Int)) = true := by simp only [bne_iff_ne]; omega
    have e1 : ((bs.length : Int) == (sz : Int)) = false := by rw [beq_eq_false_iff_ne]; omega
    clear hs hF hE hFF
    go_enter Try.func67, Try.ntmps67
    go_wp2_with fail
    refine hsz.mono ?_
    rintro e w9 ⟨rfl, hw9⟩
    rw [hw9]
    clear hw9 w9 hsz
    go_wp2_with fail
    go_ret2
    exact hfin
end Go.Proofs.Ytpekgpgfdiffcaa
end

section
namespace Go.Proofs.Ytpekgpgfdiffcaa
open Go.RowKit Go.Hay
set_option linter.unusedVariables false
set_option linter.unusedSimpArgs false

theorem tkG_lt : ∀ (bs : List UInt8) (i z : Nat), z < 2 ^ (7 * i) → z < 18446744073709551616 → (tkG i z bs).1 < 18446744073709551616
  | [], i, z, _, _ => by simp [tkG]
  | x :: r, i, z, h1, h2 => by
    rw [tkG]
    split
    · rename_i hi
      obtain ⟨_, g1, g2⟩ := grp_step i z x.toNat hi h1 h2
      split
      · exact g2
      · exact tkG_lt r (i + 1) _ g1 g2
    · simp
theorem rowOneV (w : World) {q : Nat} (hq : w.heap.size = q) (x : Val) (t : TypeId) : VE.Row (w.alloc (.cells #[.int .i64 x.k, .bool x.b, .int .i64 x.n, .string x.t] t)) (.slice (some ⟨q, 0, none⟩) 1 1) [x] := by
  subst hq
  refine .inr ⟨w.heap.size, 0, 1, rfl, Nat.le_refl _, by decide, by simp, fun j u hu => ?_, fun j hj => ?_⟩
  · have e : (w.alloc (.cells #[.int .i64 x.k, .bool x.b, .int .i64 x.n, .string x.t] t)).cell? ⟨w.heap.size, 0 + j, none⟩ = _ := World.cell?_alloc_new w _ _ (0 + j)
    rw [e, Nat.zero_add]
    simpa [El.cs, VE] using hu
  · have e : (w.alloc (.cells #[.int .i64 x.k, .bool x.b, .int .i64 x.n, .string x.t] t)).cell? ⟨w.heap.size, 0 + j, none⟩ = _ := World.cell?_alloc_new w _ _ (0 + j)
    have hj4 : j < 4 := by have e4 : VE.n = 4 := rfl; rw [e4] at hj; omega
    refine ⟨?_, World.frozen?_alloc_new w _ _ (0 + j)⟩
    rw [e, Nat.zero_add]
    match j, hj4 with
    | 0, _ | 1, _ | 2, _ | 3, _ => rfl
structure TdI (w W : World) (many j : Nat) (n : Int) (ba : Option Addr) (bc : Nat) (rest : List UInt8) (la : Option Addr) (lc : Nat) (acc : List Val) (F : Option (List Val)) : Prop where
  see : Sees w ba rest
  len : rest.length ≤ bc
  cap : bc ≤ 9223372036854775807
  few : rest.length ≤ 900000000000000
  row : VE.Row W (.slice la acc.length lc) acc
  new : ∀ k ∈ blk la, w.heap.size ≤ k
  kp : Kp [] w W
  al : Hid (acc.length = j + 1)
  lo : -9223372036854775808 ≤ n ∧ n < 9223372036854775808
  fin : Hid (tkD (many - 1 - j) n acc rest = F)
theorem wordV_bd (bs : List UInt8) : -9223372036854775808 ≤ wordV bs ∧ wordV bs < 9223372036854775808 := by unfold wordV wrap64; omega
set_option maxHeartbeats 8000000 in
set_option maxRecDepth 100000 in
theorem cTakeDelta (a : Option Addr) (c : Nat) (bs : List UInt8) (many : Nat) (w : World) (hs : Sees w a bs) (hl : bs.length ≤ c) (hm : c ≤ maxLen) (hb : bs.length ≤ 900000000000000) (hmn : many ≤ 64) (h0 : 0 < many) :
    Calls Try.prog 43 #[.slice a bs.length c, .int .i64 many] w (TkL w (okV (tkDl many bs))) := by
  obtain ⟨i0, hi, hz0, hz1, hz2⟩ := infoV'
  unfold maxLen at hm
  by_cases h8 : bs.length < 8
  · have hF : Hid (tkDl many bs = none) := by show _ = _; unfold tkDl; rw [if_pos h8]
    rw [hF.out]
    have hfin := tkL_none w w (Kp.refl _ _)
    have d1 : (bs.length : Int) < 8 := by omega
    clear hs
    go_enter Try.func43, Try.ntmps43
    go_wp2_with fail
    go_ret2
    exact hfin
  · have hF : Hid (tkDl many bs = tkD (many - 1) (wordV bs) [intV (wordV bs)] (bs.drop 8)) := by show _ = _; unfold tkDl; rw [if_neg h8]
    rw [hF.out]
    have cW := cWord a c bs w hs (by omega) hb
    have hbd := wordV_bd bs
    obtain ⟨n, hn⟩ : ∃ n, Hid (wordV bs = n) := ⟨_, rfl⟩
    rw [hn.out] at cW hbd ⊢
    obtain ⟨F, hFF⟩ : ∃ F, Hid (tkD (many - 1) n [intV n] (bs.drop 8) = F) := ⟨_, rfl⟩
    rw [hFF.out]
    obtain ⟨g, o, rfl, _⟩ : ∃ g o, a = some ⟨g, o, none⟩ ∧ ∀ j u, bs[j]? = some u → w.cell? ⟨g, o + j, none⟩ = some (.int .u8 u.toNat) := by
      rcases hs with h | h
      · rw [h] at h8; simp at h8
      · exact h
    have htl : Hid (Sees w (some ⟨g, o + 8, none⟩) (bs.drop 8)) := by show Sees _ _ _; have := Sees.tail hs 8; simpa [Addr.add_lit] using this
    have cI := cInt n w
    have d1 : ¬ (bs.length : Int) < 8 := by omega
    have hdl : (bs.drop 8).length = bs.length - 8 := by simp
    have hst : Hid (∀ ba W, Sees w ba (bs.drop 8) → Kp [] w W → ∃ (j : Nat) (n' : Int) (ba' : Option Addr) (bc : Nat) (rest : List UInt8) (la : Option Addr) (lc : Nat) (acc : List Val), j ≤ many - 1 ∧ (.int .i64 0 : Value) = .int .i64 j ∧ (.slice ba (bs.length - 8) (c - 8) : Value) = .slice ba' rest.length bc ∧ (.int .i64 n : Value) = .int .i64 n' ∧ (.slice (some ⟨W.heap.size, 0, none⟩) 1 1 : Value) = .slice la acc.length lc ∧ TdI w (W.alloc (.cells #[.int .i64 2, .bool false, .int .i64 n, .string ⟨#[]⟩] 41)) many j n' ba' bc rest la lc acc F) := fun ba W hsb kW =>
      ⟨0, n, ba, c - 8, bs.drop 8, some ⟨W.heap.size, 0, none⟩, 1, [intV n], Nat.zero_le _, rfl, by rw [hdl], rfl, rfl, hsb, by rw [hdl]; omega, by omega, by rw [hdl]; omega, rowOneV W rfl (intV n) _, fun k hk => by simp [blk] at hk; have := kW.size; omega, kW.alloc _, rfl, hbd, by rw [Nat.sub_zero]; exact hFF⟩
    clear hs hF hFF hn
    go_enter Try.func43, Try.ntmps43
    go_wp2_with fail
    refine cW.mono ?_
    rintro e w9 ⟨rfl, hw9⟩
    rw [hw9]
    clear hw9 w9 cW
    go_wp2_with fail
    refine cI.mono ?_
    rintro e w1 ⟨rfl, k1⟩
    clear cI
    obtain ⟨ba, hba, hsb⟩ : ∃ ba, Hid ((if c = 8 then some ⟨g, o, none⟩ else some ⟨g, o + 8, none⟩ : Option Addr) = ba) ∧ Hid (Sees w ba (bs.drop 8)) := by
      refine ⟨_, rfl, ?_⟩
      show Sees _ _ _
      split
      · have : bs.drop 8 = [] := List.drop_eq_nil_of_le (by omega)
        rw [this]; exact .inl rfl
      · exact htl.out
    have hst1 := hid (hst.out ba w1 hsb.out k1)
    clear hst hsb htl
    have hbe : (if c - 8 = 0 then (some ⟨g, o, none⟩ : Option Addr) else some ⟨g, o + 8, none⟩) = ba := by
      rw [← hba.out]
      by_cases h : c = 8
      · rw [if_pos h, if_pos (by omega)]
      · rw [if_neg h, if_neg (by omega)]
    have hba' := hba.out
    go_wp2_with fail
    clear hbe hba' hba hbd
    go_loopw [0, 6, 7, 22] (fun v0 v6 v7 i wn => ∃ (j : Nat) (n' : Int) (ba' : Option Addr) (bc : Nat) (rest : List UInt8) (la : Option Addr) (lc : Nat) (acc : List Val), j ≤ many - 1 ∧ i = .int .i64 j ∧ v0 = .slice ba' rest.length bc ∧ v6 = .int .i64 n' ∧ v7 = .slice la acc.length lc ∧ TdI w wn many j n' ba' bc rest la lc acc F) (fun _ _ _ i _ => many - 1 - (intOf i).toNat)
    case atStart => exact hst1.out
    case round =>
      clear hst1 k1
      obtain ⟨j, n, ba, bc, rest, la, lc, acc, hj, rfl, rfl, rfl, rfl, I⟩ := hrel
      by_cases hlt : j < many - 1
      · have hkw := I.kp
        have hcap := I.cap
        have hlen := I.len
        have hfew := I.few
        have hlo := I.lo
        have hal := I.al
        have hal2 : acc.length ≤ 65 := by rw [hal.out]; omega
        have ht := cTakeGroups ba bc rest wr (I.see.kept I.kp (by simp)) I.few
        have htle := tkG_le rest 0 0
        have htlt := tkG_lt rest 0 0 (by decide) (by decide)
        have hfin := I.fin
        rw [show many - 1 - j = (many - 1 - (j + 1)) + 1 by omega, tkD] at hfin
        obtain ⟨⟨z, sz⟩, htk⟩ : ∃ t, Hid (tkG 0 0 rest = t) := ⟨_, rfl⟩
        rw [htk.out] at ht htle htlt hfin
        dsimp only at ht htle htlt hfin
        have hI := hid I
        have d2 : (j : Int) < (many : Int) - 1 := by omega
        clear I
        go_wp2_with fail
        refine ht.mono ?_
        rintro e w9 ⟨rfl, hw9⟩
        rw [hw9]
        clear hw9 w9 ht
        by_cases hsz : sz = 0
        · subst hsz
          rw [if_pos rfl] at hfin
          have hF' : Hid (F = none) := hfin.out.symm
          have hP : TkL w (okV F) (.returned (.tuple #[.slice none 0 0, .bool false])) wr := by rw [hF'.out]; exact tkL_none w wr hkw
          clear hfin hI hF'
          go_wp2_with fail
          go_ret2
          exact hP
        · rw [if_neg hsz] at hfin
          have hsz' : ((sz : Int) == 0) = false := by rw [beq_eq_false_iff_ne]; omega
          have cU := cUnfold z htlt wr
          obtain ⟨N, hN⟩ : ∃ N, Hid (IntKind.i64.wrap (n + zag z) = N) := ⟨_, rfl⟩
          have hNb := wrap64_bd (n + zag z)
          rw [hN.out] at hfin hNb
          have hNe : IntKind.i64.wrap (n + zag z) = N := hN.out
          have cI := cInt N wr
          go_wp2_with fail
          refine cU.mono ?_
          rintro e w9 ⟨rfl, hw9⟩
          rw [hw9]
          clear hw9 w9 cU
          go_wp2_with fail
          refine cI.mono ?_
          rintro e w1 ⟨rfl, k1⟩
          clear cI
          obtain ⟨wc, hwc⟩ : ∃ wc, w1.alloc (.cells #[.int .i64 2, .bool false, .int .i64 N, .string ⟨#[]⟩] 41) = wc := ⟨_, rfl⟩
          have kc : Kp [] wr wc := by rw [← hwc]; exact k1.alloc _
          have hsr : VE.See wc (some ⟨w1.heap.size, 0, none⟩) [intV N] := by rw [← hwc]; exact oneV w1 rfl (intV N) _
          have hsrc := hsr.src (P := Try.prog) Try.underlying22 1
          have hrowc := hI.out.row.keptNew kc
          obtain ⟨v', X3, hrun, hrow3, kk3, hn3⟩ := run_appendG (E := VE) (P := Try.prog) wc 22 22 22 41 i0 _ 40 Try.underlying22 hi hz0 hz1 hz2 rfl (.slice la acc.length lc) acc hrowc _ [intV N] hsrc (by simp; omega) (by simp; omega)
          obtain ⟨a3, c3, rfl, _⟩ := hrow3.see
          rw [ownS] at kk3
          obtain ⟨g, o, rfl⟩ : ∃ g o, ba = some ⟨g, o, none⟩ := by
            rcases hI.out.see with h | ⟨g, o, h, _⟩
            · rw [h] at htle; simp at htle; omega
            · exact ⟨g, o, h⟩
          obtain ⟨ba2, hba2, hsb2⟩ : ∃ ba2, Hid ((if bc = sz then some ⟨g, o, none⟩ else some ⟨g, o + sz, none⟩ : Option Addr) = ba2) ∧ Hid (Sees w ba2 (rest.drop sz)) := by
            refine ⟨_, rfl, ?_⟩
            show Sees _ _ _
            split
            · have : rest.drop sz = [] := List.drop_eq_nil_of_le (by omega)
              rw [this]; exact .inl rfl
            · have := Sees.tail hI.out.see sz; simpa [Addr.add_lit] using this
          have hdl2 : (rest.drop sz).length = rest.length - sz := by simp
          have hnxt : Hid (∃ (j' : Nat) (n' : Int) (ba' : Option Addr) (bc' : Nat) (rest' : List UInt8) (la' : Option Addr) (lc' : Nat) (acc' : List Val), j' ≤ many - 1 ∧ (.int .i64 ((j : Int) + 1) : Value) = .int .i64 j' ∧ (.slice ba2 (rest.length - sz) (bc - sz) : Value) = .slice ba' rest'.length bc' ∧ (.int .i64 N : Value) = .int .i64 n' ∧ (.slice a3 (acc.length + 1) c3 : Value) = .slice la' acc'.length lc' ∧ TdI w X3 many j' n' ba' bc' rest' la' lc' acc' F) := by
            refine ⟨j + 1, N, ba2, bc - sz, rest.drop sz, a3, c3, acc ++ [intV N], by omega, by go_num, by rw [hdl2], rfl, by rw [List.length_append]; rfl, hsb2.out, by rw [hdl2]; omega, by omega, by rw [hdl2]; omega, hrow3, fun k hk => ?_, ?_, by show _ = _; rw [List.length_append, hal.out]; rfl, hNb, hfin⟩
            · rcases hn3 k (by rw [ownS]; exact hk) with h | h
              · rw [ownS] at h; exact hI.out.new k h
              · have := hkw.size; have := kc.size; omega
            · exact (hkw.trans kc (by simp)).trans kk3 (fun k hk => .inr (hI.out.new k hk))
          have hba3 := hba2.out
          clear hrowc hrow3 kk3 hn3 hsr hsrc kc hfin hI hN hsb2 hba2 hal
          go_wp2_with (first | (refine wpAppRun rfl _ _ 22 22 rfl _ _ _ rfl rfl hrun ?_) | fail)
          exact ⟨hnxt.out, by simp [intOf]; omega⟩
      · obtain rfl : j = many - 1 := by omega
        have hfin : Hid (F = some acc) := by
          have := I.fin.out
          rw [Nat.sub_self, tkD] at this
          exact this.symm
        have hP : TkL w (okV F) (.returned (.tuple #[.slice la acc.length lc, .bool true])) wr := by
          rw [hfin.out]
          exact ⟨la, lc, rfl, I.row, I.kp, I.new⟩
        have d2 : ¬ ((many - 1 : Nat) : Int) < (many : Int) - 1 := by omega
        clear I hfin
        go_wp2_with fail
        go_ret2
        exact hP
end Go.Proofs.Ytpekgpgfdiffcaa
end

section
namespace Go.Proofs.Ytpekgpgfdiffcaa
open Go.RowKit Go.Hay
set_option linter.unusedVariables false
set_option linter.unusedSimpArgs false

theorem u64At {W : World} {a : Option Addr} {l : List Nat} (h : U64E.See W a l) (i : Nat) (hi : i < l.length) : ∃ g o, a = some ⟨g, o, none⟩ ∧ W.cell? ⟨g, o + i, none⟩ = some (.int .u64 (l[i] : Int)) := by
  obtain ⟨g, o, e, hc⟩ := h.at (List.getElem?_eq_getElem hi)
  refine ⟨g, o, e, ?_⟩
  have := hc 0 (.int .u64 (l[i] : Int)) rfl
  simpa [U64E] using this
theorem wrap_twice (m : Int) (n : Nat) : IntKind.i64.wrap (m + IntKind.i64.wrap (n : Int)) = IntKind.i64.wrap (m + (n : Int)) := by
  rw [IntKind.wrap_i64, IntKind.wrap_i64, IntKind.wrap_i64]; omega
/-- A row made of so many values of a list, the rest nought. -/
def mapTo (f : Nat → Val) (ns : List Nat) (many j : Nat) : List Val := (ns.take j).map f ++ List.replicate (many - j) nv
theorem mapTo_len (f : Nat → Val) (ns : List Nat) (j : Nat) (h : j ≤ ns.length) : (mapTo f ns ns.length j).length = ns.length := by unfold mapTo; simp; omega
theorem mapTo_set (f : Nat → Val) (ns : List Nat) (j : Nat) (h : j < ns.length) : (mapTo f ns ns.length j).set j (f ns[j]) = mapTo f ns ns.length (j + 1) := by
  unfold mapTo
  have := set_app ((ns.take j).map f) nv (f ns[j]) (ns.length - (j + 1))
  rw [List.length_map, List.length_take, Nat.min_eq_left (by omega), show ns.length - (j + 1) + 1 = ns.length - j by omega] at this
  rw [this, List.take_succ_eq_append_getElem h, List.map_append]
  rfl
theorem mapTo_all (f : Nat → Val) (ns : List Nat) : mapTo f ns ns.length ns.length = ns.map f := by unfold mapTo; simp
theorem upkO_len {bs : List UInt8} {many wd : Nat} {ns : List Nat} (h : upkO bs many wd = some ns) : ns.length = many ∧ ns = upk bs many wd := by
  unfold upkO at h
  split at h
  · injection h with h; subst h; exact ⟨upk_length _ _ _, rfl⟩
  · cases h
set_option maxHeartbeats 8000000 in
set_option maxRecDepth 100000 in
theorem cTakeBits (a : Option Addr) (c : Nat) (bs : List UInt8) (many : Nat) (w : World) (hs : Sees w a bs) (hl : bs.length ≤ c) (hm : c ≤ maxLen) (hb : bs.length ≤ 900000000000000) (hmn : many ≤ 64) :
    Calls Try.prog 45 #[.slice a bs.length c, .int .i64 many] w (TkL w (okV (tkBt many bs))) := by
  obtain ⟨i0, hi, hz0, hz1, hz2⟩ := infoV'
  unfold maxLen at hm
  obtain ⟨F, hFF⟩ : ∃ F, Hid (tkBt many bs = F) := ⟨_, rfl⟩
  rw [hFF.out]
  by_cases h8 : bs.length ≤ 8
  · have hF : Hid (F = none) := by show _ = _; rw [← hFF.out]; unfold tkBt; rw [if_pos (.inl h8)]
    have hfin : TkL w (okV F) (.returned (.tuple #[.slice none 0 0, .bool false])) w := by rw [hF.out]; exact tkL_none w w (Kp.refl _ _)
    have d1 : (bs.length : Int) ≤ 8 := by omega
    clear hs hFF hF
    go_enter Try.func45, Try.ntmps45
    go_wp2_with fail
    go_ret2
    exact hfin
  · obtain ⟨g, o, rfl, hc⟩ : ∃ g o, a = some ⟨g, o, none⟩ ∧ ∀ j u, bs[j]? = some u → w.cell? ⟨g, o + j, none⟩ = some (.int .u8 u.toNat) := by
      rcases hs with h | h
      · rw [h] at h8; simp at h8
      · exact h
    have h8' : 8 < bs.length := by omega
    have hcx := hc 8 bs[8] (by simp [h8'])
    have hg8 : Hid (bs.getD 8 0 = bs[8]) := by show _ = _; simp [h8']
    have hx := bs[8].toNat_lt
    obtain ⟨x, hxx⟩ : ∃ x, Hid (bs[8].toNat = x) := ⟨bs[8].toNat, by show _ = _; rfl⟩
    rw [hxx.out] at hcx hx
    have d1 : ¬ (bs.length : Int) ≤ 8 := by omega
    have d1' : ¬ bs.length ≤ 8 := h8
    by_cases hx64 : 64 < x
    · have hF : Hid (F = none) := by show _ = _; rw [← hFF.out]; unfold tkBt; rw [if_pos (.inr (by rw [hg8.out, hxx.out]; exact hx64))]
      have hfin : TkL w (okV F) (.returned (.tuple #[.slice none 0 0, .bool false])) w := by rw [hF.out]; exact tkL_none w w (Kp.refl _ _)
      have d2 : (64 : Int) < (x : Int) := by omega
      clear hs hFF hF hc
      go_enter Try.func45, Try.ntmps45
      go_wp2_with fail
      go_ret2
      exact hfin
    · have hF : Hid (F = (upkO (bs.drop 9) many x).map fun l => l.map fun (n : Nat) => intV (IntKind.i64.wrap (wordV bs + (n : Int)))) := by
        show _ = _
        rw [← hFF.out]; unfold tkBt; rw [hg8.out, hxx.out, if_neg (by omega)]
      have d2 : ¬ (64 : Int) < (x : Int) := by omega
      have hcW := hid (fun W (k : Kp [] w W) => cWord (some ⟨g, o, none⟩) c bs W (hs.kept k (by simp)) (by omega) hb)
      obtain ⟨ba, hba, hsb⟩ : ∃ ba, Hid ((if c = 9 then some ⟨g, o, none⟩ else some ⟨g, o + 9, none⟩ : Option Addr) = ba) ∧ Hid (Sees w ba (bs.drop 9)) := by
        refine ⟨_, rfl, ?_⟩
        show Sees _ _ _
        split
        · have : bs.drop 9 = [] := List.drop_eq_nil_of_le (by omega)
          rw [this]; exact .inl rfl
        · have := Sees.tail hs 9; simpa [Addr.add_lit] using this
      have hdl : (bs.drop 9).length = bs.length - 9 := by simp
      have hcU : Hid (∀ W, Kp [] w W → Calls Try.prog 67 #[.slice ba (bs.length - 9) (c - 9), .int .i64 many, .int .i64 x] W (UpP W (upkO (bs.drop 9) many x))) := fun W k => by
        have := cUnpack ba (c - 9) (bs.drop 9) many x W (hsb.out.kept k (by simp)) (by rw [hdl]; omega) hmn (by omega)
        rw [hdl] at this
        exact this
      have hlen := hid (fun ns (h : upkO (bs.drop 9) many x = some ns) => (upkO_len h).1)
      obtain ⟨U, hU⟩ : ∃ U, Hid (upkO (bs.drop 9) many x = U) := ⟨_, rfl⟩
      rw [hU.out] at hF hlen
      simp only [hU.out] at hcU
      obtain ⟨n, hn⟩ : ∃ n, Hid (wordV bs = n) := ⟨_, rfl⟩
      rw [hn.out] at hF
      simp only [hn.out] at hcW
      have hbe := hba.out
      have kd : Kp [] w w.drew := (Kp.refl _ _).drew
      have hS : Hid (∀ A, Kp [] w A → A.cell? ⟨g, o + 8, none⟩ = some (.int .u8 x)) := fun A kA => kpAt kA hcx
      have d9 : (9 : Int) ≤ (bs.length : Int) := by omega
      have hwx : IntKind.i64.wrap (x : Int) = (x : Int) := by rw [IntKind.wrap_i64]; omega
      clear hs hFF hc hg8 hxx hsb hU hn hba hdl
      go_enter Try.func45, Try.ntmps45
      go_wp2_with fail
      clear hcx
      refine wp_region_held_drew (S := (fun A => A.cell? ⟨g, o + 8, none⟩ = some (.int .u8 x))) (by kernel_rfl) ?_ (fun hHeld => ?_)
      · exact hS.out _ kd
      generalize w.drew = wd at *
      refine wpAnyH_take (i := 0) (v := ?_) rfl (by kernel_rfl) (by kernel_rfl) (by kernel_rfl) (fun _ _ _ h => h) (Or.inl ⟨by rfl, ?_⟩) (by assumption) ?_
      rotate_left
      · intro w hSw; (try dsimp only at hSw); go_simp <;> with_reducible rfl
      try simp only [Act.put, List.getElem_toArray, List.getElem_cons_zero, List.getElem_cons_succ, List.setIfInBounds_toArray, List.set_cons_zero, List.set_cons_succ]
      refine wpAnyH_take (i := 1) (v := ?_) rfl (by kernel_rfl) (by kernel_rfl) (by kernel_rfl) (fun _ _ _ h => h) (Or.inl ⟨by rfl, ?_⟩) (by assumption) ?_
      rotate_left
      · intro w hSw; (try dsimp only at hSw); go_simp <;> with_reducible rfl
      try simp only [Act.put, List.getElem_toArray, List.getElem_cons_zero, List.getElem_cons_succ, List.setIfInBounds_toArray, List.set_cons_zero, List.set_cons_succ]
      refine wpAnyH_take (i := 2) (v := ?_) rfl (by kernel_rfl) (by kernel_rfl) (by kernel_rfl) (fun _ _ _ h => h) (Or.inl ⟨by rfl, ?_⟩) (by assumption) ?_
      rotate_left
      · intro w hSw; (try dsimp only at hSw); go_simp <;> with_reducible rfl
      try simp only [Act.put, List.getElem_toArray, List.getElem_cons_zero, List.getElem_cons_succ, List.setIfInBounds_toArray, List.set_cons_zero, List.set_cons_succ]
      refine wpAnyH_take (i := 3) (v := ?_) rfl (by kernel_rfl) (by kernel_rfl) (by kernel_rfl) (fun _ _ _ h => h) (Or.inl ⟨by rfl, ?_⟩) (by assumption) ?_
      rotate_left
      · intro w hSw; (try dsimp only at hSw); go_simp <;> with_reducible rfl
      try simp only [Act.put, List.getElem_toArray, List.getElem_cons_zero, List.getElem_cons_succ, List.setIfInBounds_toArray, List.set_cons_zero, List.set_cons_succ]
      refine wpAnyH_take (i := 4) (v := ?_) rfl (by kernel_rfl) (by kernel_rfl) (by kernel_rfl) (fun _ _ _ h => h) (Or.inl ⟨by rfl, ?_⟩) (by assumption) ?_
      rotate_left
      · intro w hSw; (try dsimp only at hSw); go_simp <;> with_reducible rfl
      try simp only [Act.put, List.getElem_toArray, List.getElem_cons_zero, List.getElem_cons_succ, List.setIfInBounds_toArray, List.set_cons_zero, List.set_cons_succ]
      refine wpAnyH_take (i := 5) (v := ?_) rfl (by kernel_rfl) (by kernel_rfl) (by kernel_rfl) (fun _ _ _ h => h) (Or.inl ⟨by rfl, ?_⟩) (by assumption) ?_
      rotate_left
      · intro w hSw; (try dsimp only at hSw); go_simp <;> with_reducible rfl
      try simp only [Act.put, List.getElem_toArray, List.getElem_cons_zero, List.getElem_cons_succ, List.setIfInBounds_toArray, List.set_cons_zero, List.set_cons_succ]
      refine wpAnyH_take (i := 6) (v := ?_) rfl (by kernel_rfl) (by kernel_rfl) (by kernel_rfl) (fun _ _ _ h => h) (Or.inl ⟨by rfl, ?_⟩) (by assumption) ?_
      rotate_left
      · intro w hSw; (try dsimp only at hSw); go_simp <;> with_reducible rfl
      try simp only [Act.put, List.getElem_toArray, List.getElem_cons_zero, List.getElem_cons_succ, List.setIfInBounds_toArray, List.set_cons_zero, List.set_cons_succ]
      cases U with
      | none =>
        refine wpAnyH_ready (rs := [7]) (by kernel_rfl) (by simp) ?_
        refine AllReadyH.cons rfl (fun K hK => ?_) AllReadyH.nil
        go_simp
        refine (hcU.out wd kd).mono ?_
        rintro e w2 ⟨rfl, k2⟩
        (try go_wp2_with fail)
        refine hK.out _ _ ?_ (fun hHeld => ?_)
        · exact hS.out _ (kd.trans k2 (by simp))
        clear hK K
        try simp only [Act.put, List.getElem_toArray, List.getElem_cons_zero, List.getElem_cons_succ, List.setIfInBounds_toArray, List.set_cons_zero, List.set_cons_succ]
        refine wpAnyH_take (i := 8) (v := ?_) rfl (by kernel_rfl) (by kernel_rfl) (by kernel_rfl) (fun _ _ _ h => h) (Or.inl ⟨by rfl, ?_⟩) (by assumption) ?_
        rotate_left
        · intro w hSw; (try dsimp only at hSw); go_simp <;> with_reducible rfl
        try simp only [Act.put, List.getElem_toArray, List.getElem_cons_zero, List.getElem_cons_succ, List.setIfInBounds_toArray, List.set_cons_zero, List.set_cons_succ]
        refine wpAnyH_take (i := 9) (v := ?_) rfl (by kernel_rfl) (by kernel_rfl) (by kernel_rfl) (fun _ _ _ h => h) (Or.inl ⟨by rfl, ?_⟩) (by assumption) ?_
        rotate_left
        · intro w hSw; (try dsimp only at hSw); go_simp <;> with_reducible rfl
        try simp only [Act.put, List.getElem_toArray, List.getElem_cons_zero, List.getElem_cons_succ, List.setIfInBounds_toArray, List.set_cons_zero, List.set_cons_succ]
        refine wpAnyH_take (i := 10) (v := ?_) rfl (by kernel_rfl) (by kernel_rfl) (by kernel_rfl) (fun _ _ _ h => h) (Or.inl ⟨by rfl, ?_⟩) (by assumption) ?_
        rotate_left
        · intro w hSw; (try dsimp only at hSw); go_simp <;> with_reducible rfl
        try simp only [Act.put, List.getElem_toArray, List.getElem_cons_zero, List.getElem_cons_succ, List.setIfInBounds_toArray, List.set_cons_zero, List.set_cons_succ]
        refine wpAnyH_take (i := 11) (v := ?_) rfl (by kernel_rfl) (by kernel_rfl) (by kernel_rfl) (fun _ _ _ h => h) (Or.inl ⟨by rfl, ?_⟩) (by assumption) ?_
        rotate_left
        · intro w hSw; (try dsimp only at hSw); go_simp <;> with_reducible rfl
        try simp only [Act.put, List.getElem_toArray, List.getElem_cons_zero, List.getElem_cons_succ, List.setIfInBounds_toArray, List.set_cons_zero, List.set_cons_succ]
        refine wpAnyH_take (i := 12) (v := ?_) rfl (by kernel_rfl) (by kernel_rfl) (by kernel_rfl) (fun _ _ _ h => h) (Or.inl ⟨by rfl, ?_⟩) (by assumption) ?_
        rotate_left
        · intro w hSw; (try dsimp only at hSw); go_simp <;> with_reducible rfl
        try simp only [Act.put, List.getElem_toArray, List.getElem_cons_zero, List.getElem_cons_succ, List.setIfInBounds_toArray, List.set_cons_zero, List.set_cons_succ]
        refine wpAnyH_done (by kernel_rfl) ?_ _
        have hfin : TkL w (okV F) (.returned (.tuple #[.slice none 0 0, .bool false])) w2 := by rw [hF.out]; exact tkL_none w w2 (kd.trans k2 (by simp))
        clear hF hcU hcW hS
        go_wp2_with fail
        go_ret2
        exact hfin
      | some ns =>
        refine wpAnyH_ready (rs := [7]) (by kernel_rfl) (by simp) ?_
        refine AllReadyH.cons rfl (fun K hK => ?_) AllReadyH.nil
        go_simp
        refine (hcU.out wd kd).mono ?_
        rintro e w2 ⟨a2, c2, rfl, hrow2, k2, hn2⟩
        have hrow2' := hid hrow2
        clear hrow2
        (try go_wp2_with fail)
        refine hK.out _ _ ?_ (fun hHeld => ?_)
        · exact hS.out _ (kd.trans k2 (by simp))
        clear hK K
        try simp only [Act.put, List.getElem_toArray, List.getElem_cons_zero, List.getElem_cons_succ, List.setIfInBounds_toArray, List.set_cons_zero, List.set_cons_succ]
        refine wpAnyH_take (i := 8) (v := ?_) rfl (by kernel_rfl) (by kernel_rfl) (by kernel_rfl) (fun _ _ _ h => h) (Or.inl ⟨by rfl, ?_⟩) (by assumption) ?_
        rotate_left
        · intro w hSw; (try dsimp only at hSw); go_simp <;> with_reducible rfl
        try simp only [Act.put, List.getElem_toArray, List.getElem_cons_zero, List.getElem_cons_succ, List.setIfInBounds_toArray, List.set_cons_zero, List.set_cons_succ]
        refine wpAnyH_take (i := 9) (v := ?_) rfl (by kernel_rfl) (by kernel_rfl) (by kernel_rfl) (fun _ _ _ h => h) (Or.inl ⟨by rfl, ?_⟩) (by assumption) ?_
        rotate_left
        · intro w hSw; (try dsimp only at hSw); go_simp <;> with_reducible rfl
        try simp only [Act.put, List.getElem_toArray, List.getElem_cons_zero, List.getElem_cons_succ, List.setIfInBounds_toArray, List.set_cons_zero, List.set_cons_succ]
        refine wpAnyH_take (i := 10) (v := ?_) rfl (by kernel_rfl) (by kernel_rfl) (by kernel_rfl) (fun _ _ _ h => h) (Or.inl ⟨by rfl, ?_⟩) (by assumption) ?_
        rotate_left
        · intro w hSw; (try dsimp only at hSw); go_simp <;> with_reducible rfl
        try simp only [Act.put, List.getElem_toArray, List.getElem_cons_zero, List.getElem_cons_succ, List.setIfInBounds_toArray, List.set_cons_zero, List.set_cons_succ]
        refine wpAnyH_take (i := 11) (v := ?_) rfl (by kernel_rfl) (by kernel_rfl) (by kernel_rfl) (fun _ _ _ h => h) (Or.inl ⟨by rfl, ?_⟩) (by assumption) ?_
        rotate_left
        · intro w hSw; (try dsimp only at hSw); go_simp <;> with_reducible rfl
        try simp only [Act.put, List.getElem_toArray, List.getElem_cons_zero, List.getElem_cons_succ, List.setIfInBounds_toArray, List.set_cons_zero, List.set_cons_succ]
        refine wpAnyH_take (i := 12) (v := ?_) rfl (by kernel_rfl) (by kernel_rfl) (by kernel_rfl) (fun _ _ _ h => h) (Or.inl ⟨by rfl, ?_⟩) (by assumption) ?_
        rotate_left
        · intro w hSw; (try dsimp only at hSw); go_simp <;> with_reducible rfl
        try simp only [Act.put, List.getElem_toArray, List.getElem_cons_zero, List.getElem_cons_succ, List.setIfInBounds_toArray, List.set_cons_zero, List.set_cons_succ]
        refine wpAnyH_done (by kernel_rfl) ?_ _
        have hnl := hlen.out ns rfl
        subst hnl
        have kw2 := kd.trans k2 (by simp)
        have cW := hcW.out w2 kw2
        have hsn : Hid (∀ W, Kp [] w2 W → U64E.See W a2 ns) := fun W kW => by
          obtain ⟨_, _, e, h1, _⟩ := hrow2'.out.see
          injection e with e1 e2 e3
          rw [e1]
          exact h1.keptNew kW
        obtain ⟨W1, hmk, hrow1, k1, hs1⟩ := run_makeG (E := VE) (P := Try.prog) w2 22 41 i0 _ nv 40 Try.underlying22 hi hz0 hz1 hz2 rfl .i64 .i64 ns.length (by omega) (by unfold maxLen; omega)
        obtain ⟨f, hf⟩ : ∃ f : Nat → Val, Hid ((fun (m : Nat) => intV (IntKind.i64.wrap (n + (m : Int)))) = f) := ⟨_, rfl⟩
        have hfa : Hid (∀ m : Nat, f m = intV (IntKind.i64.wrap (n + IntKind.i64.wrap (m : Int)))) := fun m => by rw [← hf.out, wrap_twice]
        have hF2 : Hid (F = some (ns.map f)) := by show _ = _; rw [hF.out, ← hf.out]; rfl
        have R0 : Hid (VE.Row W1 (.slice (some ⟨w2.heap.size, 0, none⟩) ns.length ns.length) (mapTo f ns ns.length 0)) := by show VE.Row _ _ _; simpa [mapTo] using hrow1
        have hw2 := hid (kw2)
        clear hF hcU hS hrow2' hrow1 hf hlen hcW hHeld hn2 hbe
        go_wp2_with fail
        refine cW.mono ?_
        rintro e w9 ⟨rfl, hw9⟩
        rw [hw9]
        clear hw9 w9 cW
        go_wp2_with fail
        go_loopw [40] (fun i wn => ∃ j : Nat, j ≤ ns.length ∧ i = .int .i64 j ∧ VE.Row wn (.slice (some ⟨w2.heap.size, 0, none⟩) ns.length ns.length) (mapTo f ns ns.length j) ∧ Kp [] w2 wn) (fun i _ => ns.length - (intOf i).toNat)
        case atStart => exact ⟨0, Nat.zero_le _, rfl, R0.out, k1⟩
        case round =>
          clear hmk R0 k1 hs1
          obtain ⟨j, hj, rfl, hrow, kn⟩ := hrel
          by_cases hlt : j < ns.length
          · obtain ⟨g2, o2, rfl, hcn⟩ := u64At (hsn.out wr kn) j hlt
            have hset := hid (fun W (k : Kp [] wr W) => rowSetV (hrow.keptNew k) j (by rw [mapTo_len _ _ _ (by omega)]; exact hlt) (f ns[j]))
            have hcells := hid (fun W (k : Kp [] wr W) => rowCellsV (hrow.keptNew k) j (by rw [mapTo_len _ _ _ (by omega)]; exact hlt))
            rw [mapTo_set f ns j hlt] at hset
            have hfj := hfa.out ns[j]
            generalize ns[j] = m at *
            obtain ⟨V, hV⟩ : ∃ V, Hid (IntKind.i64.wrap (n + IntKind.i64.wrap (m : Int)) = V) := ⟨_, rfl⟩
            have hVe : wrap64 (n + wrap64 (m : Int)) = V := by rw [← hV.out, IntKind.wrap_i64, IntKind.wrap_i64]; unfold wrap64; omega
            rw [hV.out] at hfj
            rw [hfj] at hset
            have cI := cInt V wr
            have hrow' := hid hrow
            clear hV hfj hrow
            go_wp2_with fail
            refine cI.mono ?_
            rintro e w3 ⟨rfl, k3⟩
            have hset3 := hset.out w3 k3
            have hcl := hcells.out w3 k3
            obtain ⟨⟨u0, c0⟩, f0⟩ := hcl 0 (by omega)
            obtain ⟨⟨u1, c1⟩, f1⟩ := hcl 1 (by omega)
            obtain ⟨⟨u2, c2'⟩, f2⟩ := hcl 2 (by omega)
            obtain ⟨⟨u3, c3⟩, f3⟩ := hcl 3 (by omega)
            rw [Nat.add_zero] at c0 f0
            have kset := kpSet4 (i := j) (kn.trans k3 (by simp)) (Nat.le_refl _) (.int .i64 (intV V).k) (.bool (intV V).b) (.int .i64 (intV V).n) (.string (intV V).t)
            unfold intV at hset3 kset
            dsimp only at hset3 kset
            have hs3 := hid hset3
            have ks3 := hid kset
            clear hset hcells hset3 kset hcl cI
            go_wp2_with fail
            exact ⟨⟨j + 1, by omega, by go_num, hs3.out, ks3.out⟩, by simp [intOf]; omega⟩
          · obtain rfl : j = ns.length := by omega
            rw [mapTo_all] at hrow
            have hml : (ns.map f).length = ns.length := by simp
            have hP : TkL w (okV F) (.returned (.tuple #[.slice (some ⟨w2.heap.size, 0, none⟩) ns.length ns.length, .bool true])) wr := by
              rw [hF2.out]
              exact ⟨some ⟨w2.heap.size, 0, none⟩, ns.length, by simp [okV], by show VE.Row _ (.slice _ (ns.map f).length _) _; rw [hml]; exact hrow, kw2.trans kn (by simp), fun k hk => by simp [blk] at hk; have := kw2.size; omega⟩
            clear hrow hF2
            go_wp2_with fail
            go_ret2
            exact hP
end Go.Proofs.Ytpekgpgfdiffcaa
end

section
namespace Go.Proofs.Ytpekgpgfdiffcaa
open Go.RowKit Go.Hay
set_option linter.unusedVariables false
set_option linter.unusedSimpArgs false

theorem tkP_len : ∀ (n : Nat) (acc : List Val) (bs : List UInt8) (q : List Val × List UInt8), tkP n acc bs = some q → q.1.length = acc.length + n ∧ q.2.length ≤ bs.length
  | 0, acc, bs, q, h => by rw [tkP] at h; injection h with h; subst h; simp
  | n + 1, acc, bs, q, h => by
    rw [tkP] at h
    split at h
    · cases h
    · obtain ⟨h1, h2⟩ := tkP_len n _ _ q h
      simp at h1 h2
      omega
set_option maxHeartbeats 8000000 in
set_option maxRecDepth 100000 in
theorem cTakeDict (a : Option Addr) (c : Nat) (bs : List UInt8) (many : Nat) (w : World) (hs : Sees w a bs) (hl : bs.length ≤ c) (hm : c ≤ maxLen) (hb : bs.length ≤ 900000000000000) (hmn : many ≤ 64) :
    Calls Try.prog 44 #[.slice a bs.length c, .int .i64 many] w (TkL w (okV (tkDc many bs))) := by
  obtain ⟨i0, hi, hz0, hz1, hz2⟩ := infoV'
  unfold maxLen at hm
  obtain ⟨F, hFF⟩ : ∃ F, Hid (tkDc many bs = F) := ⟨_, rfl⟩
  rw [hFF.out]
  by_cases h8 : bs.length = 0
  · have hF : Hid (F = none) := by show _ = _; rw [← hFF.out]; unfold tkDc; rw [if_pos (.inl h8)]
    have hfin : TkL w (okV F) (.returned (.tuple #[.slice none 0 0, .bool false])) w := by rw [hF.out]; exact tkL_none w w (Kp.refl _ _)
    rw [h8]
    clear hs hFF hF h8 hl hb
    go_enter Try.func44, Try.ntmps44
    go_wp2_with fail
    go_ret2
    exact hfin
  · obtain ⟨g, o, rfl, hc⟩ : ∃ g o, a = some ⟨g, o, none⟩ ∧ ∀ j u, bs[j]? = some u → w.cell? ⟨g, o + j, none⟩ = some (.int .u8 u.toNat) := by
      rcases hs with h | h
      · rw [h] at h8; simp at h8
      · exact h
    have h8' : 0 < bs.length := by omega
    have hcx := hc 0 bs[0] (by simp [h8'])
    rw [Nat.add_zero] at hcx
    have hg8 : Hid (bs.getD 0 0 = bs[0]) := by show _ = _; simp [h8']
    have hx := bs[0].toNat_lt
    obtain ⟨x, hxx⟩ : ∃ x, Hid (bs[0].toNat = x) := ⟨bs[0].toNat, by show _ = _; rfl⟩
    rw [hxx.out] at hcx hx
    have d1 : ((bs.length : Int) == 0) = false := by rw [beq_eq_false_iff_ne]; omega
    by_cases hx0 : x = 0 ∨ many < x
    · have hF : Hid (F = none) := by show _ = _; rw [← hFF.out]; unfold tkDc; rw [if_pos (.inr (by rw [hg8.out, hxx.out]; exact hx0))]
      have hfin : TkL w (okV F) (.returned (.tuple #[.slice none 0 0, .bool false])) w := by rw [hF.out]; exact tkL_none w w (Kp.refl _ _)
      clear hs hFF hF hc
      rcases hx0 with h0 | h0
      · subst h0
        go_enter Try.func44, Try.ntmps44
        go_wp2_with fail
        go_ret2
        exact hfin
      · have d2 : ((x : Int) == 0) = false := by rw [beq_eq_false_iff_ne]; omega
        have d3 : (many : Int) < (x : Int) := by omega
        go_enter Try.func44, Try.ntmps44
        go_wp2_with fail
        go_ret2
        exact hfin
    · have hx1 : 0 < x := by omega
      have hx2 : x ≤ many := by omega
      have hF : Hid (F = match tkP x [] (bs.drop 1) with
          | none => none
          | some (u, r) => match upkO r many (Lib.bitLen (u.length - 1)) with
            | none => none
            | some ps => if ps.all (fun p => decide (p < u.length)) = true then some (ps.map fun p => u.getD p nv) else none) := by
        show _ = _
        rw [← hFF.out]; unfold tkDc; rw [hg8.out, hxx.out, if_neg (by omega)]
        all_goals
          rcases tkP x [] (bs.drop 1) with _ | ⟨u, r⟩
          · rfl
          · dsimp only
            cases upkO r many (Lib.bitLen (u.length - 1)) <;> rfl
      have d2 : ((x : Int) == 0) = false := by rw [beq_eq_false_iff_ne]; omega
      have d3 : ¬ (many : Int) < (x : Int) := by omega
      have d3' : ¬ many < x := by omega
      obtain ⟨ba, hba, hsb⟩ : ∃ ba, Hid ((if c = 1 then some ⟨g, o, none⟩ else some ⟨g, o + 1, none⟩ : Option Addr) = ba) ∧ Hid (Sees w ba (bs.drop 1)) := by
        refine ⟨_, rfl, ?_⟩
        show Sees _ _ _
        split
        · have : bs.drop 1 = [] := List.drop_eq_nil_of_le (by omega)
          rw [this]; exact .inl rfl
        · have := Sees.tail hs 1; simpa [Addr.add_lit] using this
      have hdl : (bs.drop 1).length = bs.length - 1 := by simp
      have hcU : Hid (∀ W, Kp [] w W → Calls Try.prog 46 #[.slice ba (bs.length - 1) (c - 1), .int .i64 x] W (TkP W (tkP x [] (bs.drop 1)))) := fun W k => by
        have := cTakePlain ba (c - 1) (bs.drop 1) x W (hsb.out.kept k (by simp)) (by rw [hdl]; omega) (by unfold maxLen; omega) (by rw [hdl]; omega) (by omega)
        rw [hdl] at this
        exact this
      have hlen : Hid (∀ q, tkP x [] (bs.drop 1) = some q → q.1.length = x ∧ q.2.length ≤ bs.length) := fun q h => by
        obtain ⟨h1, h2⟩ := tkP_len _ _ _ _ h
        rw [hdl] at h2
        simp at h1
        omega
      obtain ⟨U, hU⟩ : ∃ U, Hid (tkP x [] (bs.drop 1) = U) := ⟨_, rfl⟩
      rw [hU.out] at hF hlen
      simp only [hU.out] at hcU
      have hbe := hba.out
      have kd : Kp [] w w.drew := (Kp.refl _ _).drew
      have hS : Hid (∀ A, Kp [] w A → A.cell? ⟨g, o, none⟩ = some (.int .u8 x)) := fun A kA => kpAt kA hcx
      have d9 : (1 : Int) ≤ (bs.length : Int) := by omega
      have hwx : IntKind.i64.wrap (x : Int) = (x : Int) := by rw [IntKind.wrap_i64]; omega
      clear hs hFF hc hg8 hxx hsb hU hba hdl hx0
      go_enter Try.func44, Try.ntmps44
      go_wp2_with fail
      clear hcx
      refine wp_region_held_drew (S := (fun A => A.cell? ⟨g, o, none⟩ = some (.int .u8 x))) (by kernel_rfl) ?_ (fun hHeld => ?_)
      · exact hS.out _ kd
      generalize w.drew = wd at *
      refine wpAnyH_take (i := 0) (v := ?_) rfl (by kernel_rfl) (by kernel_rfl) (by kernel_rfl) (fun _ _ _ h => h) (Or.inl ⟨by rfl, ?_⟩) (by assumption) ?_
      rotate_left
      · intro w hSw; (try dsimp only at hSw); go_simp <;> with_reducible rfl
      try simp only [Act.put, List.getElem_toArray, List.getElem_cons_zero, List.getElem_cons_succ, List.setIfInBounds_toArray, List.set_cons_zero, List.set_cons_succ]
      refine wpAnyH_take (i := 1) (v := ?_) rfl (by kernel_rfl) (by kernel_rfl) (by kernel_rfl) (fun _ _ _ h => h) (Or.inl ⟨by rfl, ?_⟩) (by assumption) ?_
      rotate_left
      · intro w hSw; (try dsimp only at hSw); go_simp <;> with_reducible rfl
      try simp only [Act.put, List.getElem_toArray, List.getElem_cons_zero, List.getElem_cons_succ, List.setIfInBounds_toArray, List.set_cons_zero, List.set_cons_succ]
      refine wpAnyH_take (i := 2) (v := ?_) rfl (by kernel_rfl) (by kernel_rfl) (by kernel_rfl) (fun _ _ _ h => h) (Or.inl ⟨by rfl, ?_⟩) (by assumption) ?_
      rotate_left
      · intro w hSw; (try dsimp only at hSw); go_simp <;> with_reducible rfl
      try simp only [Act.put, List.getElem_toArray, List.getElem_cons_zero, List.getElem_cons_succ, List.setIfInBounds_toArray, List.set_cons_zero, List.set_cons_succ]
      refine wpAnyH_take (i := 3) (v := ?_) rfl (by kernel_rfl) (by kernel_rfl) (by kernel_rfl) (fun _ _ _ h => h) (Or.inl ⟨by rfl, ?_⟩) (by assumption) ?_
      rotate_left
      · intro w hSw; (try dsimp only at hSw); go_simp <;> with_reducible rfl
      try simp only [Act.put, List.getElem_toArray, List.getElem_cons_zero, List.getElem_cons_succ, List.setIfInBounds_toArray, List.set_cons_zero, List.set_cons_succ]
      refine wpAnyH_take (i := 4) (v := ?_) rfl (by kernel_rfl) (by kernel_rfl) (by kernel_rfl) (fun _ _ _ h => h) (Or.inl ⟨by rfl, ?_⟩) (by assumption) ?_
      rotate_left
      · intro w hSw; (try dsimp only at hSw); go_simp <;> with_reducible rfl
      try simp only [Act.put, List.getElem_toArray, List.getElem_cons_zero, List.getElem_cons_succ, List.setIfInBounds_toArray, List.set_cons_zero, List.set_cons_succ]
      refine wpAnyH_take (i := 5) (v := ?_) rfl (by kernel_rfl) (by kernel_rfl) (by kernel_rfl) (fun _ _ _ h => h) (Or.inl ⟨by rfl, ?_⟩) (by assumption) ?_
      rotate_left
      · intro w hSw; (try dsimp only at hSw); go_simp <;> with_reducible rfl
      try simp only [Act.put, List.getElem_toArray, List.getElem_cons_zero, List.getElem_cons_succ, List.setIfInBounds_toArray, List.set_cons_zero, List.set_cons_succ]
      cases U with
      | none =>
        refine wpAnyH_ready (rs := [6]) (by kernel_rfl) (by simp) ?_
        refine AllReadyH.cons rfl (fun K hK => ?_) AllReadyH.nil
        go_simp
        refine (hcU.out wd kd).mono ?_
        rintro e w2 ⟨rfl, k2⟩
        (try go_wp2_with fail)
        refine hK.out _ _ ?_ (fun hHeld => ?_)
        · exact hS.out _ (kd.trans k2 (by simp))
        clear hK K
        try simp only [Act.put, List.getElem_toArray, List.getElem_cons_zero, List.getElem_cons_succ, List.setIfInBounds_toArray, List.set_cons_zero, List.set_cons_succ]
        refine wpAnyH_take (i := 7) (v := ?_) rfl (by kernel_rfl) (by kernel_rfl) (by kernel_rfl) (fun _ _ _ h => h) (Or.inl ⟨by rfl, ?_⟩) (by assumption) ?_
        rotate_left
        · intro w hSw; (try dsimp only at hSw); go_simp <;> with_reducible rfl
        try simp only [Act.put, List.getElem_toArray, List.getElem_cons_zero, List.getElem_cons_succ, List.setIfInBounds_toArray, List.set_cons_zero, List.set_cons_succ]
        refine wpAnyH_take (i := 8) (v := ?_) rfl (by kernel_rfl) (by kernel_rfl) (by kernel_rfl) (fun _ _ _ h => h) (Or.inl ⟨by rfl, ?_⟩) (by assumption) ?_
        rotate_left
        · intro w hSw; (try dsimp only at hSw); go_simp <;> with_reducible rfl
        try simp only [Act.put, List.getElem_toArray, List.getElem_cons_zero, List.getElem_cons_succ, List.setIfInBounds_toArray, List.set_cons_zero, List.set_cons_succ]
        refine wpAnyH_take (i := 9) (v := ?_) rfl (by kernel_rfl) (by kernel_rfl) (by kernel_rfl) (fun _ _ _ h => h) (Or.inl ⟨by rfl, ?_⟩) (by assumption) ?_
        rotate_left
        · intro w hSw; (try dsimp only at hSw); go_simp <;> with_reducible rfl
        try simp only [Act.put, List.getElem_toArray, List.getElem_cons_zero, List.getElem_cons_succ, List.setIfInBounds_toArray, List.set_cons_zero, List.set_cons_succ]
        refine wpAnyH_take (i := 10) (v := ?_) rfl (by kernel_rfl) (by kernel_rfl) (by kernel_rfl) (fun _ _ _ h => h) (Or.inl ⟨by rfl, ?_⟩) (by assumption) ?_
        rotate_left
        · intro w hSw; (try dsimp only at hSw); go_simp <;> with_reducible rfl
        try simp only [Act.put, List.getElem_toArray, List.getElem_cons_zero, List.getElem_cons_succ, List.setIfInBounds_toArray, List.set_cons_zero, List.set_cons_succ]
        refine wpAnyH_take (i := 11) (v := ?_) rfl (by kernel_rfl) (by kernel_rfl) (by kernel_rfl) (fun _ _ _ h => h) (Or.inl ⟨by rfl, ?_⟩) (by assumption) ?_
        rotate_left
        · intro w hSw; (try dsimp only at hSw); go_simp <;> with_reducible rfl
        try simp only [Act.put, List.getElem_toArray, List.getElem_cons_zero, List.getElem_cons_succ, List.setIfInBounds_toArray, List.set_cons_zero, List.set_cons_succ]
        refine wpAnyH_take (i := 12) (v := ?_) rfl (by kernel_rfl) (by kernel_rfl) (by kernel_rfl) (fun _ _ _ h => h) (Or.inl ⟨by rfl, ?_⟩) (by assumption) ?_
        rotate_left
        · intro w hSw; (try dsimp only at hSw); go_simp <;> with_reducible rfl
        try simp only [Act.put, List.getElem_toArray, List.getElem_cons_zero, List.getElem_cons_succ, List.setIfInBounds_toArray, List.set_cons_zero, List.set_cons_succ]
        refine wpAnyH_take (i := 13) (v := ?_) rfl (by kernel_rfl) (by kernel_rfl) (by kernel_rfl) (fun _ _ _ h => h) (Or.inl ⟨by rfl, ?_⟩) (by assumption) ?_
        rotate_left
        · intro w hSw; (try dsimp only at hSw); go_simp <;> with_reducible rfl
        try simp only [Act.put, List.getElem_toArray, List.getElem_cons_zero, List.getElem_cons_succ, List.setIfInBounds_toArray, List.set_cons_zero, List.set_cons_succ]
        refine wpAnyH_done (by kernel_rfl) ?_ _
        have hfin : TkL w (okV F) (.returned (.tuple #[.slice none 0 0, .bool false])) w2 := by rw [hF.out]; exact tkL_none w w2 (kd.trans k2 (by simp))
        clear hF hcU hS
        go_wp2_with fail
        go_ret2
        exact hfin
      | some q =>
        obtain ⟨u, r⟩ := q
        refine wpAnyH_ready (rs := [6]) (by kernel_rfl) (by simp) ?_
        refine AllReadyH.cons rfl (fun K hK => ?_) AllReadyH.nil
        go_simp
        refine (hcU.out wd kd).mono ?_
        rintro e w2 ⟨a2, c2, b2, e2, rfl, hrow2, hsr2, hle2, hme2, k2, hn2⟩
        have hrow2' := hid hrow2
        have hsr2' := hid hsr2
        clear hrow2 hsr2
        (try go_wp2_with fail)
        refine hK.out _ _ ?_ (fun hHeld => ?_)
        · exact hS.out _ (kd.trans k2 (by simp))
        clear hK K
        try simp only [Act.put, List.getElem_toArray, List.getElem_cons_zero, List.getElem_cons_succ, List.setIfInBounds_toArray, List.set_cons_zero, List.set_cons_succ]
        refine wpAnyH_take (i := 7) (v := ?_) rfl (by kernel_rfl) (by kernel_rfl) (by kernel_rfl) (fun _ _ _ h => h) (Or.inl ⟨by rfl, ?_⟩) (by assumption) ?_
        rotate_left
        · intro w hSw; (try dsimp only at hSw); go_simp <;> with_reducible rfl
        try simp only [Act.put, List.getElem_toArray, List.getElem_cons_zero, List.getElem_cons_succ, List.setIfInBounds_toArray, List.set_cons_zero, List.set_cons_succ]
        refine wpAnyH_take (i := 8) (v := ?_) rfl (by kernel_rfl) (by kernel_rfl) (by kernel_rfl) (fun _ _ _ h => h) (Or.inl ⟨by rfl, ?_⟩) (by assumption) ?_
        rotate_left
        · intro w hSw; (try dsimp only at hSw); go_simp <;> with_reducible rfl
        try simp only [Act.put, List.getElem_toArray, List.getElem_cons_zero, List.getElem_cons_succ, List.setIfInBounds_toArray, List.set_cons_zero, List.set_cons_succ]
        refine wpAnyH_take (i := 9) (v := ?_) rfl (by kernel_rfl) (by kernel_rfl) (by kernel_rfl) (fun _ _ _ h => h) (Or.inl ⟨by rfl, ?_⟩) (by assumption) ?_
        rotate_left
        · intro w hSw; (try dsimp only at hSw); go_simp <;> with_reducible rfl
        try simp only [Act.put, List.getElem_toArray, List.getElem_cons_zero, List.getElem_cons_succ, List.setIfInBounds_toArray, List.set_cons_zero, List.set_cons_succ]
        refine wpAnyH_take (i := 10) (v := ?_) rfl (by kernel_rfl) (by kernel_rfl) (by kernel_rfl) (fun _ _ _ h => h) (Or.inl ⟨by rfl, ?_⟩) (by assumption) ?_
        rotate_left
        · intro w hSw; (try dsimp only at hSw); go_simp <;> with_reducible rfl
        try simp only [Act.put, List.getElem_toArray, List.getElem_cons_zero, List.getElem_cons_succ, List.setIfInBounds_toArray, List.set_cons_zero, List.set_cons_succ]
        refine wpAnyH_take (i := 11) (v := ?_) rfl (by kernel_rfl) (by kernel_rfl) (by kernel_rfl) (fun _ _ _ h => h) (Or.inl ⟨by rfl, ?_⟩) (by assumption) ?_
        rotate_left
        · intro w hSw; (try dsimp only at hSw); go_simp <;> with_reducible rfl
        try simp only [Act.put, List.getElem_toArray, List.getElem_cons_zero, List.getElem_cons_succ, List.setIfInBounds_toArray, List.set_cons_zero, List.set_cons_succ]
        refine wpAnyH_take (i := 12) (v := ?_) rfl (by kernel_rfl) (by kernel_rfl) (by kernel_rfl) (fun _ _ _ h => h) (Or.inl ⟨by rfl, ?_⟩) (by assumption) ?_
        rotate_left
        · intro w hSw; (try dsimp only at hSw); go_simp <;> with_reducible rfl
        try simp only [Act.put, List.getElem_toArray, List.getElem_cons_zero, List.getElem_cons_succ, List.setIfInBounds_toArray, List.set_cons_zero, List.set_cons_succ]
        refine wpAnyH_take (i := 13) (v := ?_) rfl (by kernel_rfl) (by kernel_rfl) (by kernel_rfl) (fun _ _ _ h => h) (Or.inl ⟨by rfl, ?_⟩) (by assumption) ?_
        rotate_left
        · intro w hSw; (try dsimp only at hSw); go_simp <;> with_reducible rfl
        try simp only [Act.put, List.getElem_toArray, List.getElem_cons_zero, List.getElem_cons_succ, List.setIfInBounds_toArray, List.set_cons_zero, List.set_cons_succ]
        refine wpAnyH_done (by kernel_rfl) ?_ _
        obtain ⟨hul, hrl⟩ := hlen.out (u, r) rfl
        dsimp only at hul hrl hle2
        have hul' := hid hul
        have kw2 := kd.trans k2 (by simp)
        have hu64 : u.length ≤ 64 := by omega
        have hu1 : 0 < u.length := by omega
        clear hul hlen hcU hS hHeld
        have cP := cPlaceWidth u.length hu1 (by omega) w2
        have hwb := bitLen_le64 (u.length - 1)
        try dsimp only at hF
        try dsimp only at hrow2'
        try dsimp only at hsr2'
        obtain ⟨wd9, hwd9⟩ : ∃ q, Hid (Lib.bitLen (u.length - 1) = q) := ⟨_, rfl⟩
        rw [hwd9.out] at hF cP hwb
        have cU := cUnpack b2 e2 r many wd9 w2 (hsr2'.out.kept k2 (by simp)) (by omega) hmn hwb
        have hlen2 := hid (fun ns (h : upkO r many wd9 = some ns) => (upkO_len h).1)
        obtain ⟨U2, hU2⟩ : ∃ U2, Hid (upkO r many wd9 = U2) := ⟨_, rfl⟩
        rw [hU2.out] at hF cU hlen2
        clear hsr2' hU2 hwd9
        go_wp2_with fail
        refine cP.mono ?_
        rintro e w9 ⟨rfl, hw9⟩
        rw [hw9]
        clear hw9 w9 cP
        go_wp2_with fail
        cases U2 with
        | none =>
          refine cU.mono ?_
          rintro e w3 ⟨rfl, k3⟩
          have hfin : TkL w (okV F) (.returned (.tuple #[.slice none 0 0, .bool false])) w3 := by rw [hF.out]; exact tkL_none w w3 (kw2.trans k3 (by simp))
          clear hF cU
          go_wp2_with fail
          go_ret2
          exact hfin
        | some ns =>
          refine cU.mono ?_
          rintro e w3 ⟨a3, c3, rfl, hrow3, k3, hn3⟩
          have hnl := hlen2.out ns rfl
          subst hnl
          have kw3 := kw2.trans k3 (by simp)
          have hsn : Hid (∀ W, Kp [] w3 W → U64E.See W a3 ns) := fun W kW => by
            obtain ⟨_, _, e, h1, _⟩ := hrow3.see
            injection e with e1 e2 e3
            rw [e1]
            exact h1.keptNew kW
          have hsu : Hid (∀ W, Kp [] w3 W → Vals W a2 u) := fun W kW => by
            obtain ⟨_, _, e, h1, _⟩ := hrow2'.out.see
            injection e with e1 e2 e3
            rw [e1]
            exact seeV.1 (h1.keptNew (k3.trans kW (by simp)))
          obtain ⟨W1, hmk, hrow1, k1, hs1⟩ := run_makeG (E := VE) (P := Try.prog) w3 22 41 i0 _ nv 40 Try.underlying22 hi hz0 hz1 hz2 rfl .i64 .i64 ns.length (by omega) (by unfold maxLen; omega)
          obtain ⟨f, hf⟩ : ∃ f : Nat → Val, Hid ((fun p => u.getD p nv) = f) := ⟨_, rfl⟩
          have hfa : Hid (∀ p (h : p < u.length), f p = u[p]) := fun p h => by rw [← hf.out]; simp [h]
          have hF2 : Hid (F = if ns.all (fun p => decide (p < u.length)) = true then some (ns.map f) else none) := by show _ = _; rw [hF.out, ← hf.out]
          have R0 : Hid (VE.Row W1 (.slice (some ⟨w3.heap.size, 0, none⟩) ns.length ns.length) (mapTo f ns ns.length 0)) := by show VE.Row _ _ _; simpa [mapTo] using hrow1
          clear hF hrow2' hrow1 hf hlen2 hn2 hbe cU hrow3 hn3
          go_wp2_with fail
          go_loopw [57] (fun i wn => ∃ j : Nat, j ≤ ns.length ∧ i = .int .i64 j ∧ Hid ((ns.take j).all (fun p => decide (p < u.length)) = true) ∧ VE.Row wn (.slice (some ⟨w3.heap.size, 0, none⟩) ns.length ns.length) (mapTo f ns ns.length j) ∧ Kp [] w3 wn) (fun i _ => ns.length - (intOf i).toNat)
          case atStart => exact ⟨0, Nat.zero_le _, rfl, by show _ = _; simp, R0.out, k1⟩
          case round =>
            clear hmk R0 k1 hs1
            obtain ⟨j, hj, rfl, hall, hrow, kn⟩ := hrel
            by_cases hlt : j < ns.length
            · obtain ⟨g2, o2, rfl, hcn⟩ := u64At (hsn.out wr kn) j hlt
              by_cases hpu : ns[j] < u.length
              · have hset := rowSetV hrow j (by rw [mapTo_len _ _ _ (by omega)]; exact hlt) (f ns[j])
                have hcl := rowCellsV hrow j (by rw [mapTo_len _ _ _ (by omega)]; exact hlt)
                rw [mapTo_set f ns j hlt] at hset
                have hall' : Hid ((ns.take (j + 1)).all (fun p => decide (p < u.length)) = true) := all_take hall.out hlt (by simpa using hpu)
                obtain ⟨g3, o3, rfl, y0, y1, y2, y3⟩ := (hsu.out wr kn).at ns[j] hpu
                have hfj := hfa.out ns[j] hpu
                rw [hfj] at hset
                generalize ns[j] = m at *
                generalize u[m] = v at *
                obtain ⟨⟨u0, c0⟩, f0⟩ := hcl 0 (by omega)
                obtain ⟨⟨u1, c1⟩, f1⟩ := hcl 1 (by omega)
                obtain ⟨⟨u2, c2'⟩, f2⟩ := hcl 2 (by omega)
                obtain ⟨⟨u3, c3⟩, f3⟩ := hcl 3 (by omega)
                rw [Nat.add_zero] at c0 f0
                have kset := kpSet4 (i := j) kn (Nat.le_refl _) (.int .i64 v.k) (.bool v.b) (.int .i64 v.n) (.string v.t)
                have hs3 := hid hset
                have ks3 := hid kset
                have e1 : ¬ (u.length : Int) ≤ (m : Int) := by omega
                have e2 : ¬ u.length ≤ m := by omega
                obtain ⟨vk, vb, vn, vt⟩ := v
                dsimp only at *
                clear hset kset hcl hfj hrow hall
                go_wp2_with fail
                exact ⟨⟨j + 1, by omega, by go_num, hall', hs3.out, ks3.out⟩, by simp [intOf]; omega⟩
              · have hfin : TkL w (okV F) (.returned (.tuple #[.slice none 0 0, .bool false])) wr := by
                  rw [hF2.out, all_false hlt (by simpa using hpu)]
                  exact tkL_none w wr (kw3.trans kn (by simp))
                generalize ns[j] = m at *
                have e1 : (u.length : Int) ≤ (m : Int) := by omega
                have e2 : u.length ≤ m := by omega
                clear hrow hF2 hall
                go_wp2_with fail
                go_ret2
                exact hfin
            · obtain rfl : j = ns.length := by omega
              rw [mapTo_all] at hrow
              rw [List.take_length] at hall
              have hml : (ns.map f).length = ns.length := by simp
              have hP : TkL w (okV F) (.returned (.tuple #[.slice (some ⟨w3.heap.size, 0, none⟩) ns.length ns.length, .bool true])) wr := by
                rw [hF2.out, if_pos hall.out]
                exact ⟨some ⟨w3.heap.size, 0, none⟩, ns.length, by simp [okV], by show VE.Row _ (.slice _ (ns.map f).length _) _; rw [hml]; exact hrow, kw3.trans kn (by simp), fun k hk => by simp [blk] at hk; have := kw3.size; omega⟩
              clear hrow hF2 hall
              go_wp2_with fail
              go_ret2
              exact hP
end Go.Proofs.Ytpekgpgfdiffcaa
end

section
namespace Go.Proofs.Ytpekgpgfdiffcaa
open Go.RowKit Go.Hay
set_option linter.unusedVariables false
set_option linter.unusedSimpArgs false

set_option maxHeartbeats 4000000 in
theorem cTakeA (k : Int) (a : Option Addr) (c : Nat) (bs : List UInt8) (many : Nat) (w : World) (hs : Sees w a bs) (hl : bs.length ≤ c) (hm : c ≤ maxLen) (hb : bs.length ≤ 900000000000000) (hmn : many ≤ 64) :
    Calls Try.prog 27 #[.int .i64 k, .slice a bs.length c, .int .i64 many] w (TkL w (okV (tkA k many bs))) := by
  by_cases h0 : many = 0
  · subst h0
    have hF : Hid (tkA k 0 bs = some []) := by show _ = _; unfold tkA; rw [if_pos rfl]
    rw [hF.out]
    have hfin : TkL w (okV (some [])) (.returned (.tuple #[.slice none 0 0, .bool true])) w := ⟨none, 0, rfl, .inl ⟨rfl, rfl⟩, Kp.refl _ _, by simp [blk]⟩
    clear hs hm
    go_enter Try.func27, Try.ntmps27
    go_wp2_with fail
    go_ret2
    exact hfin
  · have d0 : ((many : Int) == 0) = false := by rw [beq_eq_false_iff_ne]; omega
    have hF : Hid (tkA k many bs = if k = 1 then tkR many [] bs else if k = 2 then tkDl many bs else if k = 3 then tkDc many bs else if k = 4 then tkBt many bs else (tkP many [] bs).map Prod.fst) := by show _ = _; unfold tkA; rw [if_neg h0]
    by_cases h1 : k = 1
    · subst h1
      rw [if_pos rfl] at hF
      rw [hF.out]
      exact cTake1 a c bs many w hs hl hm hb hmn (by omega)
    · rw [if_neg h1] at hF
      have e1 : (k == 1) = false := by rw [beq_eq_false_iff_ne]; exact h1
      by_cases h2 : k = 2
      · subst h2
        rw [if_pos rfl] at hF
        rw [hF.out]
        have hT := cTakeDelta a c bs many w hs hl hm hb hmn (by omega)
        obtain ⟨⟨L, B⟩, hR⟩ : ∃ R, Hid (okV (tkDl many bs) = R) := ⟨_, rfl⟩
        rw [hR.out] at hT ⊢
        clear hs hm hR hF
        go_enter Try.func27, Try.ntmps27
        go_wp2_with fail
        refine hT.mono ?_
        rintro e w1 ⟨a1, c1, rfl, hrow, k1, hn1⟩
        dsimp only at hrow
        have hrow' := hid hrow
        clear hrow hT
        go_wp2_with fail
        go_ret2
        exact ⟨a1, c1, rfl, hrow'.out, k1, hn1⟩
      · rw [if_neg h2] at hF
        have e2 : (k == 2) = false := by rw [beq_eq_false_iff_ne]; exact h2
        by_cases h3 : k = 3
        · subst h3
          rw [if_pos rfl] at hF
          rw [hF.out]
          have hT := cTakeDict a c bs many w hs hl hm hb hmn
          obtain ⟨⟨L, B⟩, hR⟩ : ∃ R, Hid (okV (tkDc many bs) = R) := ⟨_, rfl⟩
          rw [hR.out] at hT ⊢
          clear hs hm hR hF
          go_enter Try.func27, Try.ntmps27
          go_wp2_with fail
          refine hT.mono ?_
          rintro e w1 ⟨a1, c1, rfl, hrow, k1, hn1⟩
          dsimp only at hrow
          have hrow' := hid hrow
          clear hrow hT
          go_wp2_with fail
          go_ret2
          exact ⟨a1, c1, rfl, hrow'.out, k1, hn1⟩
        · rw [if_neg h3] at hF
          have e3 : (k == 3) = false := by rw [beq_eq_false_iff_ne]; exact h3
          by_cases h4 : k = 4
          · subst h4
            rw [if_pos rfl] at hF
            rw [hF.out]
            have hT := cTakeBits a c bs many w hs hl hm hb hmn
            obtain ⟨⟨L, B⟩, hR⟩ : ∃ R, Hid (okV (tkBt many bs) = R) := ⟨_, rfl⟩
            rw [hR.out] at hT ⊢
            clear hs hm hR hF
            go_enter Try.func27, Try.ntmps27
            go_wp2_with fail
            refine hT.mono ?_
            rintro e w1 ⟨a1, c1, rfl, hrow, k1, hn1⟩
            dsimp only at hrow
            have hrow' := hid hrow
            clear hrow hT
            go_wp2_with fail
            go_ret2
            exact ⟨a1, c1, rfl, hrow'.out, k1, hn1⟩
          · rw [if_neg h4] at hF
            have e4 : (k == 4) = false := by rw [beq_eq_false_iff_ne]; exact h4
            rw [hF.out]
            have hT := cTakePlain a c bs many w hs hl hm hb (by omega)
            obtain ⟨R, hR⟩ : ∃ R, Hid (tkP many [] bs = R) := ⟨_, rfl⟩
            rw [hR.out] at hT ⊢
            clear hs hm hR hF
            cases R with
            | none =>
              have hfin := fun W (k : Kp [] w W) => tkL_none w W k
              go_enter Try.func27, Try.ntmps27
              go_wp2_with fail
              refine hT.mono ?_
              rintro e w1 ⟨rfl, k1⟩
              have hf := hfin w1 k1
              clear hfin hT
              go_wp2_with fail
              go_ret2
              exact hf
            | some q =>
              go_enter Try.func27, Try.ntmps27
              go_wp2_with fail
              refine hT.mono ?_
              rintro e w1 ⟨a1, c1, b1, d1, rfl, hrow, _, _, _, k1, hn1⟩
              have hfin : TkL w (okV (Option.map Prod.fst (some q))) (.returned (.tuple #[.slice a1 q.1.length c1, .bool true])) w1 := ⟨a1, c1, rfl, hrow, k1, hn1⟩
              clear hrow hT hn1
              go_wp2_with fail
              go_ret2
              exact hfin
/-- What Decode tells. -/
def decA (k : Int) (bs : List UInt8) (many : Nat) : List Val × Int := if knownB k = false then ([], 62) else if 64 < many then ([], 61) else decE k bs many (okV (tkA k many bs))
theorem decP_err (w : World) (n : Int) : DecP w ([], n) (.returned (.tuple #[.slice none 0 0, .int .i64 n])) w := ⟨none, 0, rfl, .inl ⟨rfl, rfl⟩, Kp.refl _ _, by simp [blk]⟩
set_option maxHeartbeats 2000000 in
theorem cDecA (k : Int) (a : Option Addr) (c : Nat) (bs : List UInt8) (many : Nat) (w : World) (hs : Sees w a bs) (hl : bs.length ≤ c) (hm : c ≤ maxLen) (hb : bs.length ≤ 900000000000000) (hmn : many ≤ 9223372036854775807) :
    Calls Try.prog 14 #[.int .i64 k, .slice a bs.length c, .int .i64 many] w (DecP w (decA k bs many)) := by
  have cK := cKnown k w
  unfold decA
  by_cases hk : knownB k = false
  · rw [hk] at cK
    rw [if_pos hk]
    have hfin := decP_err w 62
    clear hs hm hk
    go_enter Try.func14, Try.ntmps14
    go_wp2_with fail
    refine cK.mono ?_
    rintro e w9 ⟨rfl, hw9⟩
    rw [hw9]
    clear hw9 w9 cK
    go_wp2_with fail
    go_ret2
    exact hfin
  · have hk' : knownB k = true := by simpa using hk
    rw [if_neg hk]
    by_cases h64 : 64 < many
    · rw [if_pos h64]
      rw [hk'] at cK
      have hfin := decP_err w 61
      have d0 : ¬ (many : Int) < 0 := by omega
      have d1 : (64 : Int) < (many : Int) := by omega
      clear hs hm hk hk'
      go_enter Try.func14, Try.ntmps14
      go_wp2_with fail
      refine cK.mono ?_
      rintro e w9 ⟨rfl, hw9⟩
      rw [hw9]
      clear hw9 w9 cK
      go_wp2_with fail
      go_ret2
      exact hfin
    · rw [if_neg h64]
      exact cDecE k a c bs many _ w hk' hs (by omega) (cTakeA k a c bs many w hs hl hm hb (by omega))
end Go.Proofs.Ytpekgpgfdiffcaa
end

section
namespace Go.Proofs.Ytpekgpgfdiffcaa
open Go.RowKit Go.Hay
set_option linter.unusedVariables false
set_option linter.unusedSimpArgs false

/-- The bytes behind so many values. -/
def skP : Nat → List UInt8 → List UInt8
  | 0, bs => bs
  | n + 1, bs => skP n (bs.drop (vsz bs))
theorem skP_put : ∀ (l : List Val) (s : List UInt8), allR l = true → skP l.length (l.flatMap rowB ++ s) = s
  | [], s, _ => by simp [skP]
  | x :: l, s, h => by
    have hx : x.right = true := by simp [allR] at h; exact h.1
    have hl : allR l = true := by simp [allR] at h ⊢; exact h.2
    rw [List.flatMap_cons, List.append_assoc, List.length_cons, skP, vsz_rowB x hx, List.drop_left, skP_put l s hl]
def skR : Nat → Nat → List UInt8 → List UInt8
  | 0, _, bs => bs
  | f + 1, left, bs => if left = 0 then bs else match bs with
    | [] => []
    | c :: r => skR f (left - c.toNat) (r.drop (vsz r))
theorem skR_put : ∀ (R : List Rn) (s : List UInt8) (f : Nat), (∀ r ∈ R, r.v.right = true ∧ 0 < r.m ∧ r.m < 256) → R.length ≤ f → skR f (R.map Rn.m).sum (R.flatMap runB ++ s) = s
  | [], s, f, _, _ => by
    cases f with
    | zero => simp [skR]
    | succ f => simp [skR]
  | r :: R, s, 0, _, h => by simp at h
  | r :: R, s, f + 1, h, hf => by
    obtain ⟨h1, h2, h3⟩ := h r (by simp)
    have e : (r :: R).flatMap runB ++ s = octet r.m :: (rowB r.v ++ (R.flatMap runB ++ s)) := by simp [runB]
    rw [e, skR, if_neg (by simp; omega)]
    rw [vsz_rowB r.v h1, List.drop_left, octet_nat r.m h3]
    have e2 : ((r :: R).map Rn.m).sum - r.m = (R.map Rn.m).sum := by simp
    rw [e2, skR_put R s f (fun r' hr' => h r' (by simp [hr'])) (by simp at hf; omega)]
def skD : Nat → List UInt8 → List UInt8
  | 0, bs => bs
  | n + 1, bs => skD n (bs.drop (tkG 0 0 bs).2)
theorem skD_put : ∀ (r : List Val) (x : Val) (s : List UInt8), skD r.length (dltL x r ++ s) = s
  | [], x, s => by simp [skD, dltL]
  | y :: r, x, s => by
    have hw := wrap64_bd (y.n - x.n)
    rw [dltL, List.append_assoc, List.length_cons, skD, tkG_zig _ hw.1 hw.2]
    simp only
    rw [List.drop_left, skD_put r y s]
theorem octet_inj {a b : Nat} (ha : a < 256) (hb : b < 256) (h : octet a = octet b) : a = b := by
  rw [← octet_nat a ha, ← octet_nat b hb, h]
/-- No encoding is another one's beginning, of as many values. -/
theorem pre_free (k : Int) (l m : List Val) (s : List UInt8) (hl : refE k l = 0) (hm : refE k m = 0) (hn : l.length = m.length) (h0 : 0 < l.length) (h : putB k l = putB k m ++ s) : s = [] := by
  obtain ⟨_, hl64, hla⟩ := refE_ok hl
  obtain ⟨_, hm64, hma⟩ := refE_ok hm
  have hm0 : 0 < m.length := by omega
  unfold putB at h
  by_cases h1 : k = 1
  · rw [if_pos h1, if_pos h1] at h
    have hr : ∀ l : List Val, allR l = true → l.length ≤ 64 → ∀ s, skR 64 l.length ((runsV l).flatMap runB ++ s) = s := fun l ha h64 s => by
      obtain ⟨q1, q2, q3⟩ := runsV_flat l
      have := skR_put (runsV l) s 64 (fun r hr => by
        have h3 := runsV_in r hr
        exact ⟨List.all_eq_true.1 ha _ h3.1, q2 r hr, by omega⟩) (by have := runsV_len l; omega)
      rw [q3] at this
      exact this
    have e1 := hr l hla hl64 []
    have e2 := hr m hma hm64 s
    rw [List.append_nil, h, hn] at e1
    rw [← e2, e1]
  · rw [if_neg h1, if_neg h1] at h
    by_cases h2 : k = 2
    · rw [if_pos h2, if_pos h2] at h
      have hd : ∀ l : List Val, 0 < l.length → ∀ s, skD (l.length - 1) ((deltaB l ++ s).drop 8) = s := fun l h0 s => by
        cases l with
        | nil => simp at h0
        | cons x r =>
          have e : deltaB (x :: r) ++ s = be (u64 x.n) 8 ++ (dltL x r ++ s) := by
            unfold deltaB
            rw [List.length_cons, Nat.add_sub_cancel, dltL_eq]
            simp
          rw [e, List.drop_left' (be_length _ _), List.length_cons, Nat.add_sub_cancel, skD_put]
      have e1 := hd l h0 []
      have e2 := hd m hm0 s
      rw [List.append_nil, h, hn] at e1
      rw [← e2, e1]
    · rw [if_neg h2, if_neg h2] at h
      by_cases h3 : k = 3
      · rw [if_pos h3, if_pos h3] at h
        unfold dictB at h
        simp only [List.cons_append, List.nil_append, List.append_assoc, List.cons.injEq] at h
        obtain ⟨ho, ht⟩ := h
        have u1 := uniq_len l
        have u2 := uniq_len m
        have hu : (uniq l).length = (uniq m).length := octet_inj (by omega) (by omega) ho
        have e1 := skP_put (uniq l) (packB (plcs (uniq l) l l.length) (Lib.bitLen ((uniq l).length - 1))) (uniq_right l hla)
        have e2 := skP_put (uniq m) (packB (plcs (uniq m) m m.length) (Lib.bitLen ((uniq m).length - 1)) ++ s) (uniq_right m hma)
        rw [ht, hu, e2] at e1
        have e3 := congrArg List.length e1
        rw [List.length_append, packB_length, packB_length, plcs_length, plcs_length, hn] at e3
        exact List.eq_nil_of_length_eq_zero (by omega)
      · rw [if_neg h3, if_neg h3] at h
        by_cases h4 : k = 4
        · rw [if_pos h4, if_pos h4] at h
          unfold bitsB at h
          have w1 := wdt_le l (leastTo l l.length) l.length
          have w2 := wdt_le m (leastTo m m.length) m.length
          have h8 := congrArg (fun q => q.drop 8) h
          simp only [List.append_assoc] at h8
          rw [List.drop_left' (be_length _ _), List.drop_left' (be_length _ _)] at h8
          simp only [List.cons_append, List.nil_append, List.cons.injEq] at h8
          obtain ⟨ho, ht⟩ := h8
          have hw := octet_inj (by omega) (by omega) ho
          have e3 := congrArg List.length ht
          rw [List.length_append, packB_length, packB_length, abvs_length, abvs_length, hw, hn] at e3
          exact List.eq_nil_of_length_eq_zero (by omega)
        · rw [if_neg h4, if_neg h4] at h
          have e1 := skP_put l [] hla
          have e2 := skP_put m s hma
          rw [List.append_nil, h, hn, e2] at e1
          exact e1
end Go.Proofs.Ytpekgpgfdiffcaa
end

section
namespace Go.Proofs.Ytpekgpgfdiffcaa
open Go.RowKit Go.Hay
set_option linter.unusedVariables false
set_option linter.unusedSimpArgs false

theorem packB_le (ns : List Nat) (wd : Nat) (h1 : ns.length ≤ 64) (h2 : wd ≤ 64) : (packB ns wd).length ≤ 513 := by
  rw [packB_length]
  have : ns.length * wd ≤ 64 * 64 := Nat.mul_le_mul h1 h2
  omega
theorem encR_len (k : Int) (l : List Val) : (encR k l).length ≤ 10000 := by
  unfold encR
  split
  · rename_i h
    obtain ⟨_, h64, ha⟩ := refE_ok h.1
    have hp := flat_length (f := rowB) (m := 66) (fun x hx => rowB_length hx) l ha
    unfold putB
    split
    · have h1 := flatRun_len (R := runsV l) (fun r hr => List.all_eq_true.1 ha _ (runsV_in r hr).1)
      have := runsV_len l
      omega
    · split
      · unfold deltaB
        have := dlt_len l (l.length - 1)
        rw [List.length_append, be_length]
        omega
      · split
        · unfold dictB
          have h1 := flat_length (f := rowB) (m := 66) (fun x hx => rowB_length hx) (uniq l) (uniq_right l ha)
          have h2 := uniq_len l
          have h3 := packB_le (plcs (uniq l) l l.length) (Lib.bitLen ((uniq l).length - 1)) (by rw [plcs_length]; exact h64) (bitLen_le64 _)
          rw [List.length_append, List.length_append]
          simp only [List.length_cons, List.length_nil]
          omega
        · split
          · unfold bitsB
            have h3 := packB_le (abvs l (leastTo l l.length) l.length) (wdt l (leastTo l l.length) l.length) (by rw [abvs_length]; exact h64) (wdt_le _ _ _)
            rw [List.length_append, List.length_append, be_length]
            simp only [List.length_cons, List.length_nil]
            omega
          · omega
  · simp
theorem encR_put {k : Int} {l : List Val} (h : refE k l = 0) (h0 : 0 < l.length) : encR k l = putB k l := by unfold encR; rw [if_pos ⟨h, h0⟩]
theorem encR_none {k : Int} {l : List Val} (h : l.length = 0) : encR k l = [] := by unfold encR; rw [if_neg (by omega)]
/-- Bytes that are no encoding of so many values are refused. -/
theorem decA_no (k : Int) (bs : List UInt8) (l : List Val) (hr : refE k l = 0) (h : ∀ m, refE k m = 0 → m.length = l.length → encR k m ≠ bs) : decA k bs l.length = ([], 60) := by
  obtain ⟨h1, h64, _⟩ := refE_ok hr
  unfold decA decE
  rw [if_neg (by simp [h1]), if_neg (by omega), if_neg (fun hc => h _ hc.2.2.1 hc.2.1 hc.2.2.2)]
theorem cut_no (k : Int) (l : List Val) (n : Nat) (hr : refE k l = 0) (h0 : 0 < l.length) (hn : n < (encR k l).length) : decA k ((encR k l).take n) l.length = ([], 60) := by
  refine decA_no k _ l hr (fun m hm hl he => ?_)
  rw [encR_put hm (by omega), encR_put hr h0] at he
  rw [encR_put hr h0] at hn
  have := pre_free k l m ((putB k l).drop n) hr hm hl.symm h0 (by rw [he, List.take_append_drop])
  have h2 := congrArg List.length this
  simp at h2
  omega
theorem more_no (k : Int) (l : List Val) (x : UInt8) (hr : refE k l = 0) (h0 : 0 < l.length) : decA k (encR k l ++ [x]) l.length = ([], 60) := by
  refine decA_no k _ l hr (fun m hm hl he => ?_)
  rw [encR_put hm (by omega), encR_put hr h0] at he
  have := pre_free k m l [x] hm hr hl (by omega) he
  cases this
set_option maxHeartbeats 8000000 in
set_option maxRecDepth 100000 in
theorem walkCuts (k : Int) (a : Option Addr) (ca : Nat) (l : List Val) (cut : Int) (w : World) (ha : Vals w a l) (hc : l.length ≤ ca) (hm : ca ≤ maxLen) :
    Calls Try.prog 7 #[.int .i64 k, .slice a l.length ca, .int .i64 cut] w fun e w' => e = .returned (.bool true) ∧ Kp [] w w' := by
  have cE := cEncE k a ca l w ha hc hm
  have hml : l.length ≤ 9223372036854775807 := by unfold maxLen at hm; omega
  unfold EncP at cE
  have hel := encR_len k l
  have hcut := hid (cut_no k l)
  have hmore := hid (more_no k l)
  have hno := hid (encR_none (k := k) (l := l))
  obtain ⟨E, hE⟩ : ∃ E, Hid (refE k l = E) := ⟨_, rfl⟩
  obtain ⟨R, hR⟩ : ∃ R, Hid (encR k l = R) := ⟨_, rfl⟩
  rw [hE.out, hR.out] at cE hcut
  rw [hE.out, hR.out] at hmore
  rw [hR.out] at hel hno
  obtain ⟨i0, hi, hz0, hz1, hz2⟩ := infoU'
  clear ha hE hR
  go_enter Try.func7, Try.ntmps7
  go_wp2_with fail
  refine cE.mono ?_
  rintro e w1 ⟨b1, c1, rfl, hrow1, k1, hn1⟩
  clear cE hn1
  by_cases hE0 : E = 0
  · subst hE0
    by_cases hneg : cut < 0
    · clear hrow1
      go_wp2_with fail
      refine (cAlive _).mono ?_
      rintro e w2 ⟨rfl, k2⟩
      go_wp2_with fail
      go_ret
      exact ⟨rfl, k1.trans k2 (by simp)⟩
    · by_cases hbig : (R.length : Int) ≤ cut
      · clear hrow1
        go_wp2_with fail
        refine (cAlive _).mono ?_
        rintro e w2 ⟨rfl, k2⟩
        go_wp2_with fail
        go_ret
        exact ⟨rfl, k1.trans k2 (by simp)⟩
      · obtain ⟨n, rfl⟩ := Int.eq_ofNat_of_zero_le (by omega : 0 ≤ cut)
        have hn : n < R.length := by omega
        have h0 : 0 < l.length := by
          rcases Nat.eq_zero_or_pos l.length with h | h
          · have := hno.out h; rw [this] at hn; simp at hn
          · exact h
        obtain ⟨hs1, hc1, hm1⟩ : Sees w1 b1 R ∧ R.length ≤ c1 ∧ c1 ≤ maxLen := by
          obtain ⟨_, _, e, h1, _⟩ := hrow1.sees
          injection e with e1 e2 e3
          rcases hrow1 with ⟨e, h⟩ | ⟨g9, o9, cap, e, hl9, hm9, _⟩
          · rw [h] at hn; simp at hn
          · injection e with e4 e5 e6
            rw [e6, e1]
            exact ⟨h1, hl9, hm9⟩
        obtain ⟨g, o, rfl⟩ : ∃ g o, b1 = some ⟨g, o, none⟩ := by
          rcases hs1 with h | ⟨g, o, h, _⟩
          · rw [h] at hn; simp at hn
          · exact ⟨g, o, h⟩
        have cD := cDecA k (some ⟨g, o, none⟩) c1 (R.take n) l.length w1 (hs1.front n) (by simp; omega) hm1 (by simp; omega) hml
        rw [hcut.out n rfl h0 hn, List.length_take, Nat.min_eq_left (by omega)] at cD
        have hs1' := hid hs1
        have hm1' := hid hm1
        unfold maxLen at hm1
        have hcn : n ≤ c1 := by omega
        clear hs1 hrow1 hcut hno
        go_wp2_with fail
        refine cD.mono ?_
        rintro e w2 ⟨a2, c2, rfl, _, k2, _⟩
        have k12 := k1.trans k2 (by simp)
        clear cD
        obtain ⟨X1, hX1⟩ : ∃ X1, w2.alloc (.cells #[] 5) = X1 := ⟨_, rfl⟩
        have kX1 : Kp [] w2 X1 := by rw [← hX1]; exact (Kp.refl _ _).alloc _
        have hr0 : BytE.Row X1 (.slice (some ⟨w2.heap.size, 0, none⟩) 0 0) [] := by
          rw [← hX1]
          exact .inr ⟨w2.heap.size, 0, 0, rfl, Nat.le_refl _, by decide, by simp, fun j u hu => by simp [El.cs] at hu, fun j hj => absurd hj (by simp)⟩
        have hsb : BytE.See X1 (some ⟨g, o, none⟩) R := seeByt.2 ((hs1'.out.kept k2 (by simp)).kept kX1 (by simp))
        have hsrc := hsb.src (P := Try.prog) Try.underlying24 c1
        obtain ⟨v5, X2, hrun1, hrow5, kk5, hn5⟩ := run_appendG (E := BytE) (P := Try.prog) X1 24 24 24 5 i0 _ 1 Try.underlying24 hi hz0 hz1 hz2 rfl (.slice (some ⟨w2.heap.size, 0, none⟩) 0 0) [] hr0 _ R hsrc (by simp; omega) (by simp; omega)
        rw [List.nil_append] at hrow5
        obtain ⟨a5, c5, rfl, _⟩ := hrow5.see
        rw [ownS] at kk5
        have hb1 : blk (some (⟨w2.heap.size, 0, none⟩ : Addr)) = [w2.heap.size] := rfl
        have kX2 : Kp [] w2 X2 := kX1.trans kk5 (fun q hq => .inr (by rw [hb1] at hq; simp at hq; omega))
        have hn5' : ∀ q ∈ blk a5, w2.heap.size ≤ q := fun q hq => by
          rcases hn5 q (by rw [ownS]; exact hq) with h | h
          · rw [ownS, hb1] at h; simp at h; omega
          · have := kX1.size; omega
        obtain ⟨X3, hX3⟩ : ∃ X3, X2.alloc (.cells #[.int .u8 ((n : Int) % 256)] 5) = X3 := ⟨_, rfl⟩
        have kX3 : Kp [] X2 X3 := by rw [← hX3]; exact (Kp.refl _ _).alloc _
        have hsx : Sees X3 (some ⟨X2.heap.size, 0, none⟩) [UInt8.ofNat n] := by rw [← hX3]; exact oneB X2 rfl (UInt8.ofNat n) _ (by rw [UInt8.toNat_ofNat']; omega) _
        have hsrc2 := (seeByt.2 hsx).src (P := Try.prog) Try.underlying24 1
        obtain ⟨v6, X4, hrun2, hrow6, kk6, hn6⟩ := run_appendG (E := BytE) (P := Try.prog) X3 24 24 24 5 i0 _ 1 Try.underlying24 hi hz0 hz1 hz2 rfl (.slice a5 R.length c5) R (hrow5.keptNew kX3) _ [UInt8.ofNat n] hsrc2 (by simp; omega) (by simp; omega)
        obtain ⟨a6, c6, rfl, hs6, _, hl6, hm6, _⟩ := hrow6.see
        rw [ownS] at kk6
        have kX4 : Kp [] w2 X4 := (kX2.trans kX3 (by simp)).trans kk6 (fun q hq => .inr (hn5' q hq))
        have cD2 := cDecA k a6 c6 (R ++ [UInt8.ofNat n]) l.length X4 (seeByt.1 hs6) hl6 hm6 (by simp; omega) hml
        rw [hmore.out (UInt8.ofNat n) trivial h0] at cD2
        have hrl : (R ++ [UInt8.ofNat n]).length = R.length + 1 := by simp
        rw [hrl] at cD2 hrun2
        have k14 := k12.trans kX4 (by simp)
        clear hsb hsrc hsrc2 hr0 hrow5 hrow6 hs6 hsx hn5 hn6 hmore hs1' hm1' kk5 kk6 hrl
        go_wp2_with (first | (refine wpAppRun rfl _ _ 24 24 rfl _ _ _ rfl rfl hrun1 ?_) | (refine wpAppRun rfl _ _ 24 24 rfl _ _ _ rfl rfl hrun2 ?_) | fail)
        refine cD2.mono ?_
        rintro e w5 ⟨a7, c7, rfl, _, k5, _⟩
        have k15 := k14.trans k5 (by simp)
        clear cD2
        go_wp2_with fail
        refine (cAlive _).mono ?_
        rintro e w6 ⟨rfl, k6⟩
        go_wp2_with fail
        go_ret
        exact ⟨rfl, k15.trans k6 (by simp)⟩
  · have d5 : (E != 0) = true := by simpa using hE0
    have d6 : (E == 0) = false := by simpa using hE0
    clear hrow1
    go_wp2_with fail
    refine (cAlive _).mono ?_
    rintro e w2 ⟨rfl, k2⟩
    go_wp2_with fail
    go_ret
    exact ⟨rfl, k1.trans k2 (by simp)⟩
theorem cutsWalk (k : Int) (a : Option Addr) (len ca : Nat) (l : List Val) (cut : Int) (w : World) (hs : Vals w a l) (hlen : len = l.length) (hl : l.length ≤ ca) (hm : ca ≤ maxLen) :
    Calls Try.prog 7 #[.int .i64 k, .slice a len ca, .int .i64 cut] w fun e w' => e = .returned (.bool true) ∧ Below w.heap.size w w' := by
  subst hlen
  exact (walkCuts k a ca l cut w hs hl hm).mono fun e w' ⟨h1, h2⟩ => ⟨h1, h2.below⟩
end Go.Proofs.Ytpekgpgfdiffcaa
end

section
namespace Go.Proofs.Ytpekgpgfdiffcaa
open Go.RowKit Go.Hay
set_option linter.unusedVariables false
set_option linter.unusedSimpArgs false

/-- What was written is read as it was. -/
theorem decA_back (k : Int) (l : List Val) (hi : ∀ x ∈ l, x.in64) (hr : refE k l = 0) : decA k (encR k l) l.length = (l, 0) := by
  obtain ⟨h1, h64, _⟩ := refE_ok hr
  have hT : tkA k l.length (encR k l) = some l := by
    rcases Nat.eq_zero_or_pos l.length with h0 | h0
    · obtain rfl := List.eq_nil_of_length_eq_zero h0
      unfold tkA
      rw [if_pos (show ([] : List Val).length = 0 from rfl)]
    · exact back_all k l hi hr h0
  unfold decA decE
  rw [hT, if_neg (by simp [h1]), if_neg (by omega)]
  show (if true = true ∧ l.length = l.length ∧ refE k l = 0 ∧ encR k l = encR k l then (l, 0) else ([], 60)) = (l, 0)
  rw [if_pos ⟨rfl, rfl, hr, rfl⟩]
/-- What is read is written as the same bytes. -/
theorem decA_put (k : Int) (bs : List UInt8) (n : Nat) (h : (decA k bs n).2 = 0) : refE k (decA k bs n).1 = 0 ∧ encR k (decA k bs n).1 = bs := by
  unfold decA at h ⊢
  split at h
  · simp at h
  · split at h
    · simp at h
    · unfold decE at h ⊢
      split at h
      · rename_i h1 h2 h3
        rw [if_neg h1, if_neg h2, if_pos h3]
        exact ⟨h3.2.2.1, h3.2.2.2⟩
      · simp at h
theorem decA_nil (k : Int) (bs : List UInt8) (n : Nat) (h : (decA k bs n).2 ≠ 0) : (decA k bs n).1 = [] := by
  unfold decA at h ⊢
  split
  · rfl
  · split
    · rfl
    · unfold decE at h ⊢
      rename_i h1 h2
      rw [if_neg h1, if_neg h2] at h
      split
      · rename_i h3
        rw [if_pos h3] at h
        simp at h
      · rfl
theorem rowSee {w : World} {a : Option Addr} {c : Nat} {R : List UInt8} (h : Row w (.slice a R.length c) R) : Sees w a R ∧ R.length ≤ c ∧ c ≤ maxLen := by
  obtain ⟨_, _, e, h1, _⟩ := h.sees
  injection e with e1 e2 e3
  rcases h with ⟨e, h⟩ | ⟨g9, o9, cap, e, hl9, hm9, _⟩
  · injection e with e4 e5 e6
    subst h
    rw [e6]
    exact ⟨.inl rfl, by simp, by unfold maxLen; omega⟩
  · injection e with e4 e5 e6
    rw [e6, e1]
    exact ⟨h1, hl9, hm9⟩
theorem rowVals {w : World} {a : Option Addr} {c : Nat} {L : List Val} (h : VE.Row w (.slice a L.length c) L) : Vals w a L ∧ L.length ≤ c ∧ c ≤ maxLen := by
  obtain ⟨_, _, e, h1, _, h2, h3, _⟩ := h.see
  injection e with e1 e2 e3
  rw [e1, e3]
  exact ⟨seeV.1 h1, h2, h3⟩
theorem sameV_self (l : List Val) : sameV l l = true := by
  induction l with
  | nil => rfl
  | cons x l ih => simp [sameV, eqv_self, ih]
set_option maxHeartbeats 8000000 in
set_option maxRecDepth 100000 in
theorem walkBack (k : Int) (a : Option Addr) (ca : Nat) (l : List Val) (b : Option Addr) (cb : Nat) (bs : List UInt8) (w : World) (ha : Vals w a l) (hc : l.length ≤ ca) (hm : ca ≤ maxLen) (hin : ∀ x ∈ l, x.in64)
    (hb : Sees w b bs) (hcb : bs.length ≤ cb) (hmb : cb ≤ maxLen) (hbl : bs.length ≤ 900000000000000) :
    Calls Try.prog 4 #[.int .i64 k, .slice a l.length ca, .slice b bs.length cb] w fun e w' => e = .returned (.bool true) ∧ Kp [] w w' := by
  have cE := cEncE k a ca l w ha hc hm
  have hml : l.length ≤ 9223372036854775807 := by unfold maxLen at hm; omega
  unfold EncP at cE
  have hel := encR_len k l
  have hbk := hid (decA_back k l hin)
  have hD : Hid (∀ W, Kp [] w W → Calls Try.prog 14 #[.int .i64 k, .slice b bs.length cb, .int .i64 l.length] W (DecP W (decA k bs l.length))) := fun W kW => cDecA k b cb bs l.length W (hb.kept kW (by simp)) hcb hmb hbl hml
  have hput := hid (decA_put k bs l.length)
  have hnil := hid (decA_nil k bs l.length)
  have hla := hid (fun W (k : Kp [] w W) => ha.kept k)
  have hlb := hid (fun W (k : Kp [] w W) => hb.kept k (by simp))
  obtain ⟨E, hE⟩ : ∃ E, Hid (refE k l = E) := ⟨_, rfl⟩
  obtain ⟨R, hR⟩ : ∃ R, Hid (encR k l = R) := ⟨_, rfl⟩
  rw [hE.out, hR.out] at cE hbk
  rw [hR.out] at hel
  obtain ⟨⟨L, D⟩, hDD⟩ : ∃ D, Hid (decA k bs l.length = D) := ⟨_, rfl⟩
  rw [hDD.out] at hput hnil
  simp only [hDD.out] at hD
  dsimp only at hput hnil
  have hrest : Hid (∀ W, Kp [] w W → True) := fun _ _ => trivial
  unfold DecP at hD
  dsimp only at hD
  clear ha hb hE hR hDD hrest
  go_enter Try.func4, Try.ntmps4
  go_wp2_with fail
  refine cE.mono ?_
  rintro e w1 ⟨b1, c1, rfl, hrow1, k1, hn1⟩
  clear cE hn1
  obtain ⟨hs1, hc1, hm1⟩ := rowSee hrow1
  have cD1 := cDecA k b1 c1 R l.length w1 hs1 hc1 hm1 (by omega) hml
  have hcD1 := hid cD1
  clear cD1 hs1 hrow1
  unfold maxLen at hm1
  by_cases hE0 : E = 0
  · subst hE0
    have cD1 := hcD1.out
    rw [hbk.out rfl] at cD1
    unfold DecP at cD1
    dsimp only at cD1
    clear hcD1 hbk
    go_wp2_with fail
    refine cD1.mono ?_
    rintro e w2 ⟨a2, c2, rfl, hrow2, k2, hn2⟩
    obtain ⟨hv2, hl2, hm2⟩ := rowVals hrow2
    have k12 := k1.trans k2 (by simp)
    have cS := cSame a2 a c2 ca l l w2 hv2 (hla.out w2 k12) hml hml
    rw [sameV_self] at cS
    clear cD1 hrow2 hn2 hv2
    go_wp2_with fail
    refine cS.mono ?_
    rintro e w2' ⟨rfl, k2'⟩
    have k12' := k12.trans k2' (by simp)
    clear cS
    have cD := hD.out w2' k12'
    clear hD
    go_wp2_with fail
    refine cD.mono ?_
    rintro e w3 ⟨a3, c3, rfl, hrow3, k3, hn3⟩
    have k13 := (k12').trans k3 (by simp)
    clear cD hn3
    by_cases hD0 : D = 0
    · subst hD0
      obtain ⟨hp1, hp2⟩ := hput.out rfl
      obtain ⟨hv3, hl3, hm3⟩ := rowVals hrow3
      have cE3 := cEncE k a3 c3 L w3 hv3 hl3 hm3
      unfold EncP at cE3
      rw [hp1, hp2] at cE3
      have hp1' := hid hp1
      have hp2' := hid hp2
      clear hrow3 hv3 hp1 hp2 hput hnil
      unfold maxLen at hm3
      go_wp2_with fail
      refine cE3.mono ?_
      rintro e w4 ⟨b4, c4, rfl, hrow4, k4, hn4⟩
      have k14 := k13.trans k4 (by simp)
      clear cE3 hn4
      obtain ⟨hs4, _, _⟩ := rowSee hrow4
      have hs4' := hid hs4
      clear hrow4 hs4
      go_wp2_with fail
      refine (cAlive _).mono ?_
      rintro e w5 ⟨rfl, k5⟩
      have cv1 := convSees (hs4'.out.kept k5 (by simp)) c4
      have cv2 := convSees (hlb.out w5 (k14.trans k5 (by simp))) cb
      have kf := k14.trans k5 (by simp)
      clear hs4'
      go_wp2_with fail
      go_ret
      exact ⟨by simp, kf⟩
    · have d5 : (D != 0) = true := by simpa using hD0
      have d6 : (D == 0) = false := by simpa using hD0
      have hL := hnil.out hD0
      subst hL
      clear hrow3 hput hnil
      go_wp2_with fail
      refine (cAlive _).mono ?_
      rintro e w5 ⟨rfl, k5⟩
      go_wp2_with fail
      go_ret
      exact ⟨by simp, k13.trans k5 (by simp)⟩
  · have d7 : (E != 0) = true := by simpa using hE0
    have d8 : (E == 0) = false := by simpa using hE0
    clear hcD1 hbk
    have cD := hD.out w1 k1
    clear hD
    go_wp2_with fail
    refine cD.mono ?_
    rintro e w3 ⟨a3, c3, rfl, hrow3, k3, hn3⟩
    have k13 := (k1).trans k3 (by simp)
    clear cD hn3
    by_cases hD0 : D = 0
    · subst hD0
      obtain ⟨hp1, hp2⟩ := hput.out rfl
      obtain ⟨hv3, hl3, hm3⟩ := rowVals hrow3
      have cE3 := cEncE k a3 c3 L w3 hv3 hl3 hm3
      unfold EncP at cE3
      rw [hp1, hp2] at cE3
      have hp1' := hid hp1
      have hp2' := hid hp2
      clear hrow3 hv3 hp1 hp2 hput hnil
      unfold maxLen at hm3
      go_wp2_with fail
      refine cE3.mono ?_
      rintro e w4 ⟨b4, c4, rfl, hrow4, k4, hn4⟩
      have k14 := k13.trans k4 (by simp)
      clear cE3 hn4
      obtain ⟨hs4, _, _⟩ := rowSee hrow4
      have hs4' := hid hs4
      clear hrow4 hs4
      go_wp2_with fail
      refine (cAlive _).mono ?_
      rintro e w5 ⟨rfl, k5⟩
      have cv1 := convSees (hs4'.out.kept k5 (by simp)) c4
      have cv2 := convSees (hlb.out w5 (k14.trans k5 (by simp))) cb
      have kf := k14.trans k5 (by simp)
      clear hs4'
      go_wp2_with fail
      go_ret
      exact ⟨by simp, kf⟩
    · have d5 : (D != 0) = true := by simpa using hD0
      have d6 : (D == 0) = false := by simpa using hD0
      have hL := hnil.out hD0
      subst hL
      clear hrow3 hput hnil
      go_wp2_with fail
      refine (cAlive _).mono ?_
      rintro e w5 ⟨rfl, k5⟩
      go_wp2_with fail
      go_ret
      exact ⟨by simp, k13.trans k5 (by simp)⟩
theorem encBackWalk (k : Int) (a : Option Addr) (len ca : Nat) (l : List Val) (b : Option Addr) (nb cb : Nat) (bs : List UInt8) (w : World) (hs : Vals w a l) (hlen : len = l.length) (hl : l.length ≤ ca) (hm : ca ≤ maxLen) (hin : ∀ x ∈ l, x.in64)
    (hb : Sees w b bs) (hnb : nb = bs.length) (hcb : bs.length ≤ cb) (hrb : cb ≤ 140737488351232) :
    Calls Try.prog 4 #[.int .i64 k, .slice a len ca, .slice b nb cb] w fun e w' => e = .returned (.bool true) ∧ Below w.heap.size w w' := by
  subst hlen hnb
  exact (walkBack k a ca l b cb bs w hs hl hm hin hb hcb (by unfold maxLen; omega) (by omega)).mono fun e w' ⟨h1, h2⟩ => ⟨h1, h2.below⟩
end Go.Proofs.Ytpekgpgfdiffcaa
end

section
namespace Go.Proofs.Ytpekgpgfdiffcaa
open Go.ChangeShapes Go.WideShapes Go.ChangeAt Go.RowKit Go.Hay
set_option linter.unusedVariables false

theorem Try.own : ownKnob Try.prog.godebug = none := by kernel_rfl
theorem Try.laidOut : laidOutB Try.prog = true := by kernel_rfl
theorem Try.bytesB : Try.prog.bytesOf 5 = 1 := by kernel_rfl
theorem Try.cellsB : Try.prog.cellsOf 5 = 1 := by kernel_rfl

/-- How many values a slice's datum holds, its spare places too. -/
def capD {H : Type} : DataW H → Nat
  | .slice e sp => e.length + sp.length
  | _ => 0

theorem openBytes {H : Type} {enc : TypeId × Value → H} {W : World} {a : Option Addr} {len cap : Nat} {d : DataW H} {ps : List MemPlace}
    (h : DataW.Trod enc Try.prog W 0 (fun _ => true) true 24 (.slice a len cap) d ps) : ∃ bs : List UInt8, len = bs.length ∧ Sees W a bs ∧ bs.length ≤ cap ∧ cap ≤ maxLen ∧ capD d = cap := by
  obtain ⟨fuel, hf⟩ := h
  rcases open_ints Try.underlying24 Try.underlying5 Try.cellsB hf with ⟨hcs, hx⟩ | ⟨x, l, c, zs, hcs, _, hl, hm, hz, hx, hcell, hwz⟩
  · simp [Value.cells] at hcs
    obtain ⟨rfl, rfl, rfl⟩ := hcs
    cases hx
    exact ⟨[], rfl, Sees.nil _ _, Nat.le_refl _, Nat.zero_le _, rfl⟩
  · simp [Value.cells] at hcs
    obtain ⟨rfl, rfl, rfl⟩ := hcs
    cases hx
    have hz' : zs.length = cap := by simpa using hz
    refine ⟨(zs.take len).map octet, by simp; omega, ?_, by simp; omega, hm, by simp [capD, lits]; omega⟩
    cases hlen : len with
    | zero => exact .inl (by simp)
    | succ n =>
      obtain ⟨b, off, spot⟩ := x
      have hc0 := hcell 0 (by omega)
      have hspot : spot = none := by simpa [Addr.add] using World.cell?_spot hc0
      subst hspot
      refine .inr ⟨b, off, rfl, fun j u hu => ?_⟩
      rw [List.getElem?_map, List.getElem?_take] at hu
      split at hu
      · rename_i hj
        have hjz : j < zs.length := by omega
        have hc := hcell j hjz
        rw [List.getElem?_eq_getElem hjz] at hu
        cases hu
        have hw := hwz zs[j] (List.getElem_mem hjz)
        have hbd := bounds_u8 hw
        rw [octet_toNat _ hbd.1 hbd.2, ← Addr.add_lit, hc]
        simp [List.getD, List.getElem?_eq_getElem hjz]
      · cases hu

/-- The form's own reach, of a slice of bytes among the arguments. -/
theorem reachBytesOf {H : Type} {d : DataW H} (h : (DataW.weights Try.prog 24 d).all (· ≤ reachBytes) = true) : capD d ≤ 140737488351232 := by
  cases d with
  | slice e sp =>
    have h2 : (e.length + sp.length) * Try.prog.bytesOf 5 ≤ reachBytes := of_decide_eq_true (List.all_eq_true.1 h ((e.length + sp.length) * Try.prog.bytesOf 5) (by simp [DataW.weights, Try.underlying24]))
    rw [Try.bytesB] at h2
    simp only [reachBytes] at h2
    simp only [capD]
    omega
  | _ => simp [capD]
theorem cellsV : Try.prog.cellsOf 41 = 4 := by kernel_rfl
theorem cellsI : Try.prog.cellsOf 3 = 1 := by kernel_rfl
theorem cellsB : Try.prog.cellsOf 4 = 1 := by kernel_rfl
theorem cellsL : Try.prog.cellsOf 2 = 1 := by kernel_rfl
theorem cellsS : Try.prog.cellsOf 9 = 1 := by kernel_rfl

/-- What an int64's bounds and a string's length are. -/
def Val.ok (x : Val) : Prop := (-9223372036854775808 ≤ x.k ∧ x.k ≤ 9223372036854775807) ∧ (-9223372036854775808 ≤ x.n ∧ x.n ≤ 9223372036854775807) ∧ x.t.size ≤ maxLen

theorem openVal4 {H : Type} {enc : TypeId × Value → H} {W : World} {fuel : Nat} {c0 c1 c2 c3 : Value} {x : DataW H × List MemPlace} (h : DataW.trod enc Try.prog W 0 (fun _ => true) true fuel 41 [c0, c1, c2, c3] = some x) :
    ∃ t : Val, t.ok ∧ c0 = .int .i64 t.k ∧ c1 = .bool t.b ∧ c2 = .int .i64 t.n ∧ c3 = .string t.t := by
  obtain ⟨xs, n, _, rfl, _, hlen, hf⟩ := DataW.trod_struct Try.underlying41 h
  match xs, hlen with
  | [y0, y1, y2, y3], _ =>
    have h0 := hf 0 _ rfl
    have h1 := hf 1 _ rfl
    have h2 := hf 2 _ rfl
    have h3 := hf 3 _ rfl
    simp [cellsI, cellsB, cellsL, cellsS] at h0 h1 h2 h3
    obtain ⟨k, e0, _, w0⟩ := DataW.trod_int Try.underlying3 h0
    obtain ⟨b, e1, _⟩ := DataW.trod_bool Try.underlying4 h1
    obtain ⟨n2, e2, _, w2⟩ := DataW.trod_int Try.underlying2 h2
    obtain ⟨s, e3, _, w3⟩ := DataW.trod_string Try.underlying9 h3
    simp at e0 e1 e2 e3
    exact ⟨⟨k, b, n2, s⟩, ⟨bounds_i64 w0, bounds_i64 w2, w3⟩, e0, e1, e2, e3⟩

set_option maxRecDepth 100000 in
theorem openVal {H : Type} {enc : TypeId × Value → H} {W : World} {base : Nat} {v : Value} {d : DataW H} {ps : List MemPlace} (hv : Value.okWide Try.prog W .any base 41 v)
    (h : DataW.Trod enc Try.prog W 0 (fun _ => true) true 41 v d ps) : ∃ x : Val, v = x.v ∧ x.ok := by
  obtain ⟨cs, rfl, hsz⟩ := okWide_struct Try.underlying41 hv
  rw [cellsV] at hsz
  obtain ⟨fuel, hf⟩ := h
  obtain ⟨l⟩ := cs
  match l, hsz, hf with
  | [c0, c1, c2, c3], _, hf =>
    obtain ⟨t, ok, e0, e1, e2, e3⟩ := openVal4 (c0 := c0) (c1 := c1) (c2 := c2) (c3 := c3) hf
    subst e0 e1 e2 e3
    exact ⟨t, rfl, ok⟩

theorem openVals {H : Type} {enc : TypeId × Value → H} {W : World} {a : Option Addr} {len cap : Nat} {d : DataW H} {ps : List MemPlace}
    (h : DataW.Trod enc Try.prog W 0 (fun _ => true) true 22 (.slice a len cap) d ps) : ∃ l : List Val, len = l.length ∧ Vals W a l ∧ l.length ≤ cap ∧ cap ≤ maxLen ∧ ∀ x ∈ l, x.ok := by
  obtain ⟨fuel, hf⟩ := h
  rcases Go.Deep.open_slice Try.underlying22 hf with ⟨hcs, hx⟩ | ⟨x, len', cap', m, n, D, Pl, hcs, _, hl, hmx, hm, hx, hcell⟩
  · simp [Value.cells] at hcs
    obtain ⟨rfl, rfl, rfl⟩ := hcs
    cases hx
    exact ⟨[], rfl, .inl rfl, Nat.le_refl _, Nat.zero_le _, by simp⟩
  · simp [Value.cells] at hcs
    obtain ⟨rfl, rfl, rfl⟩ := hcs
    cases hx
    have hm' : m = cap := by simpa using hm
    subst hm'
    rw [cellsV] at hcell
    have : Inhabited Val := ⟨⟨0, false, 0, ⟨#[]⟩⟩⟩
    obtain ⟨B, hB⟩ := Go.Deep.choose_lt (α := Val) (n := len) (p := fun i t => t.ok ∧ W.cell? (x.add (i * 4)) = some (.int .i64 t.k) ∧ W.cell? ((x.add (i * 4)).add 1) = some (.bool t.b) ∧ W.cell? ((x.add (i * 4)).add 2) = some (.int .i64 t.n) ∧ W.cell? ((x.add (i * 4)).add 3) = some (.string t.t)) (fun i hi => by
      obtain ⟨cs', h1, h2⟩ := hcell i (by omega)
      obtain ⟨_, hlen, hc⟩ := World.cells?_some h1
      match cs', hlen with
      | [c0, c1, c2, c3], _ =>
        obtain ⟨t, g1, e0, e1, e2, e3⟩ := openVal4 h2
        have q0 := hc 0 (by omega)
        have q1 := hc 1 (by omega)
        have q2 := hc 2 (by omega)
        have q3 := hc 3 (by omega)
        simp at q0 q1 q2 q3
        subst e0 e1 e2 e3
        exact ⟨t, g1, by simpa [Addr.add] using q0, q1, q2, q3⟩)
    refine ⟨(List.range len).map B, by simp, ?_, by simpa using hl, hmx, ?_⟩
    · cases hlen : len with
      | zero => exact .inl rfl
      | succ k =>
        obtain ⟨b, off, spot⟩ := x
        have hc0 := (hB 0 (by omega)).2.1
        have hspot : spot = none := by simpa [Addr.add] using World.cell?_spot hc0
        subst hspot
        refine .inr ⟨b, off, rfl, fun j y hy => ?_⟩
        rw [← hlen] at hy
        have hj : j < len := by have := (List.getElem?_eq_some_iff.1 hy).1; simpa using this
        rw [List.getElem?_map, List.getElem?_range hj] at hy
        cases hy
        obtain ⟨g1, q0, q1, q2, q3⟩ := hB j hj
        rw [Addr.add_lit] at q0
        rw [Addr.add_lit, Addr.add_lit] at q1 q2 q3
        exact ⟨q0, q1, q2, q3⟩
    · intro y hy
      obtain ⟨i, hi, rfl⟩ := List.mem_map.1 hy
      exact (hB i (List.mem_range.1 hi)).1
end Go.Proofs.Ytpekgpgfdiffcaa
end

section
namespace Go.Proofs.Ytpekgpgfdiffcaa
open Go.ChangeShapes Go.WideShapes Go.ChangeAt Go.RowKit Go.Hay
set_option linter.unusedVariables false

/-- A nil slice has no room. -/
theorem nilVals {H : Type} {enc : TypeId × Value → H} {W : World} {a : Option Addr} {len cap : Nat} {d : DataW H} {ps : List MemPlace}
    (h : DataW.Trod enc Try.prog W 0 (fun _ => true) true 22 (.slice a len cap) d ps) : a = none → cap = 0 := by
  obtain ⟨fuel, hf⟩ := h
  rcases Go.Deep.open_slice Try.underlying22 hf with ⟨hcs, hx⟩ | ⟨x, len', cap', m, n, D, Pl, hcs, _, hl, hmx, hm, hx, hcell⟩
  · simp [Value.cells] at hcs
    intro _
    exact hcs.2.2
  · simp [Value.cells] at hcs
    intro h
    rw [h] at hcs
    cases hcs.1
theorem bytesV : Try.prog.bytesOf 41 = 40 := by kernel_rfl
/-- The form's own reach, of a slice of values among the arguments. -/
theorem reachVals {H : Type} {enc : TypeId × Value → H} {W : World} {a : Option Addr} {len cap : Nat} {d : DataW H} {ps : List MemPlace}
    (h : DataW.Trod enc Try.prog W 0 (fun _ => true) true 22 (.slice a len cap) d ps) (hr : (DataW.weights Try.prog 22 d).all (· ≤ reachBytes) = true) : len * 40 ≤ 140737488351232 := by
  obtain ⟨fuel, hf⟩ := h
  rcases Go.Deep.open_slice Try.underlying22 hf with ⟨hcs, hx⟩ | ⟨x, len', cap', m, n, D, Pl, hcs, _, hl, hmx, hm, hx, hcell⟩
  · simp [Value.cells] at hcs
    obtain ⟨rfl, rfl, rfl⟩ := hcs
    omega
  · simp [Value.cells] at hcs
    obtain ⟨rfl, rfl, rfl⟩ := hcs
    cases hx
    have h2 := of_decide_eq_true (List.all_eq_true.1 hr ((((List.range len).map D).length + ((List.range' len (m - len)).map D).length) * Try.prog.bytesOf 41) (by simp [DataW.weights, Try.underlying22]))
    rw [bytesV] at h2
    simp [reachBytes] at h2
    omega

end Go.Proofs.Ytpekgpgfdiffcaa
end

section
namespace Go.Proofs.Ytpekgpgfdiffcaa
open Go.ChangeShapes Go.WideShapes Go.ChangeAt Go.RowKit Go.Hay
set_option linter.unusedVariables false

set_option maxRecDepth 100000 in
theorem encodeBackContract (H : Type) (enc : TypeId × Value → H) (W : World) (base : Nat) (args : Array Value) (ds gs : List (DataW H)) (before : List MemPlace)
    (hval : ∀ (j : Nat) t v, Try.f4.params[j]? = some t → args[j]? = some v → Value.okWide Try.prog W .any base t v)
    (hW : DataW.Whole enc Try.prog Try.f4.params.toList Rows.encodeBackSpec.vars false W args.toList ds gs before)
    (hsz : (DataW.weightsEach Try.prog (Try.f4.params.toList ++ (OpenSpec.ofChange Rows.encodeBackSpec).bare.plain.varTypes Try.prog) (ds ++ gs)).all (· ≤ reachBytes) = true) :
    Calls Try.prog 4 args W fun e W' => ∃ v, e = .returned v ∧ Rows.encodeBackSpec.post enc Try.prog Try.f4 false true false false W args v W' := by
  have hW' := hW
  obtain ⟨p, q, hA0, hV, rfl, hfz, hnd⟩ := hW
  have hA : DataW.TrodAll enc Try.prog W 0 (fun _ => true) true Try.f4.params.toList args.toList ds p := hA0
  rw [Try.params4] at hA hval hsz
  obtain ⟨v0, vs0, d0, ds0, p0, q0, hargs, rfl, rfl, h0, r0⟩ := trodAll_cons hA
  obtain ⟨v1, vs1, d1, ds1, p1, q1, rfl, rfl, rfl, h1, r1⟩ := trodAll_cons r0
  obtain ⟨v2, vs2, d2, ds2, p2, q2, rfl, rfl, rfl, h2, r2⟩ := trodAll_cons r1
  obtain ⟨rfl, rfl, rfl⟩ := trodAll_nil r2
  obtain rfl : args = #[v0, v1, v2] := by cases args; simp_all
  obtain ⟨rfl, rfl⟩ := trodVars_none hV
  obtain ⟨a0, rfl, rfl, rfl, w0⟩ := open_int Try.underlying3 (hval 0 3 v0 rfl rfl) h0
  have hb0 := bounds_i64 w0
  obtain ⟨a1, len1, cap1, rfl⟩ := okWide_slice Try.underlying22 (hval 1 22 v1 rfl rfl)
  have k1 := h1
  have lt1 : ∀ x ∈ p1, x.block < W.heap.size := by obtain ⟨m, hm⟩ := k1; exact DataW.trod_lt m _ _ _ hm
  obtain ⟨l1, hlen1, hs1, hl1, hm1, hok1⟩ := openVals h1
  obtain ⟨a2, len2, cap2, rfl⟩ := okWide_slice Try.underlying24 (hval 2 24 v2 rfl rfl)
  have k2 := h2
  have lt2 : ∀ x ∈ p2, x.block < W.heap.size := by obtain ⟨m, hm⟩ := k2; exact DataW.trod_lt m _ _ _ hm
  obtain ⟨bs2, hlen2, hs2, hl2, hm2, hcap2⟩ := openBytes h2
  have hr2 := reachBytesOf (d := d2) (List.all_eq_true.2 fun x hx => List.all_eq_true.1 hsz x (by simp [DataW.weightsEach]; first | exact .inl hx | exact .inr hx | exact .inr (.inl hx) | exact .inr (.inr hx) | exact hx))
  clear hA0
  refine (encBackWalk a0 a1 len1 cap1 l1 a2 len2 cap2 bs2 W hs1 hlen1 hl1 hm1 (fun x hx => (hok1 x hx).2.1) hs2 hlen2 hl2 (by omega)).mono fun e W' ⟨he, bel⟩ => ?_
  subst he
  exact ⟨_, rfl, _, _, _, [], _, [], hW', trodAll_mk1 (shut_bool Try.underlying4 _), (trodAll_cons_mk (shut_int Try.underlying3 w0) (trodAll_cons_mk (Below.trod Try.laidOut (by kernel_rfl) (of_decide_eq_true (by kernel_rfl)) k1 bel lt1) (trodAll_cons_mk (Below.trod Try.laidOut (by kernel_rfl) (of_decide_eq_true (by kernel_rfl)) k2 bel lt2) trodAll_mk0))), rfl, bel.frame _, fun h => by cases h⟩

set_option maxRecDepth 100000 in
theorem encodeBackLifted (os : Os) (started : os.Started) (H : Type) (enc : TypeId × Value → H) :
    ReturnsInHanded {} Try.checked os 4 .any (Rows.encodeBackSpec.pre6 enc Try.prog Try.f4 Rows.encodeBackRow.domain false) (Rows.encodeBackSpec.post enc Try.prog Try.f4 false true false false) := by
  refine returnsInHanded_of_change_sized (C := Try.checked) Try.own started (by kernel_rfl) Try.func4
    (ChangeSpec.witness6 (enc := enc) (C := Try.checked) false ⟨#[], #[.int .i64 0, .slice none 0 0, .slice none 0 0], []⟩ 8 (by kernel_rfl) (by kernel_rfl) (by kernel_rfl) (by kernel_rfl)) ?_
  intro W base args ds gs before hval hW _ hsz _
  exact encodeBackContract H enc W base args ds gs before hval hW hsz

theorem EncodeBack_holds : Rows.EncodeBackSaid :=
  OpenClaim.holds_of_wide 4 Try.f4 rfl rfl rfl rfl rfl rfl rfl ⟨rfl, rfl, rfl, rfl, rfl⟩ rfl rfl rfl rfl rfl (by kernel_rfl) Try.func4 (by kernel_rfl)
    (of_decide_eq_true (by kernel_rfl)) (by unfold Func.isWrapper; first | (rw [if_pos (by decide +kernel)]; kernel_rfl) | (rw [if_neg (by decide +kernel)]; exact ⟨rfl, rfl⟩))
    (fun os started H enc _ => encodeBackLifted os started H enc)

#print axioms EncodeBack_holds
end Go.Proofs.Ytpekgpgfdiffcaa
end

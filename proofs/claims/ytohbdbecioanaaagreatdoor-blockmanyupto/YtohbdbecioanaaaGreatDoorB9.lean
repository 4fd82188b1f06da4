/- Plain mathematics: rows and their bytes, back and forth. What is written is read back, and no encoding is another one's beginning. word, unfold, takeGroups. takePlain. unpack. -/
import Derived.Test.YtohbdbecioanaaaGreatDoorB8
import Derived.Test.YtohbdbecioanaaaGreatDoorB2
import Derived.Lib.Strings
section
namespace Go.Proofs.YtohbdbecioanaaaGreatDoor
open Go.RowKit Go.Hay
set_option linter.unusedVariables false
set_option linter.unusedSimpArgs false

/-- An int64. -/
def Val.in64 (x : Val) : Prop := -9223372036854775808 ≤ x.n ∧ x.n ≤ 9223372036854775807
theorem bytes_empty {t : ByteArray} (h : t.toList = []) : t = ⟨#[]⟩ := by
  rw [Go.Lib.toList_data] at h
  cases t with
  | mk d => simp at h; rw [h]
theorem right0 {x : Val} (h : x.right = true) (hk : x.k = 0) : x = ⟨0, false, 0, ⟨#[]⟩⟩ := by
  obtain ⟨k, b, n, t⟩ := x
  dsimp only at hk
  subst hk
  simp [Val.right] at h
  obtain ⟨rfl, rfl, ht⟩ := h
  rw [bytes_empty ht]
theorem right1 {x : Val} (h : x.right = true) (hk : x.k = 1) : x = ⟨1, x.b, 0, ⟨#[]⟩⟩ := by
  obtain ⟨k, b, n, t⟩ := x
  dsimp only at hk
  subst hk
  simp [Val.right] at h
  obtain ⟨rfl, ht⟩ := h
  rw [bytes_empty ht]
theorem right2 {x : Val} (h : x.right = true) (hk : x.k = 2) : x = ⟨2, false, x.n, ⟨#[]⟩⟩ := by
  obtain ⟨k, b, n, t⟩ := x
  dsimp only at hk
  subst hk
  simp [Val.right] at h
  obtain ⟨rfl, ht⟩ := h
  rw [bytes_empty ht]
theorem right3 {x : Val} (h : x.right = true) (hk : x.k = 3) : x = ⟨3, false, 0, x.t⟩ ∧ x.t.size ≤ 64 := by
  have h6 := right_text h hk
  obtain ⟨k, b, n, t⟩ := x
  dsimp only at hk
  subst hk
  simp [Val.right] at h
  obtain ⟨⟨rfl, rfl⟩, ht⟩ := h
  exact ⟨rfl, h6⟩
theorem s64_u64 (n add : Int) (h : -9223372036854775808 ≤ n ∧ n ≤ 9223372036854775807) : wrap64 ((num (be (u64 (n + add)) 8) : Int) - add) = n := by
  rw [num_be]
  unfold u64 wrap64
  omega
theorem u64_s64 (m : Nat) (add : Int) (h : m < 18446744073709551616) : u64 (wrap64 ((m : Int) - add) + add) = m := by
  unfold u64 wrap64
  omega
theorem take8 (n : Nat) (r : List UInt8) : (be n 8 ++ r).take 8 = be n 8 := by
  rw [List.take_append_of_le_length (by rw [be_length]; omega), List.take_of_length_le (by rw [be_length]; omega)]
theorem fixF_put (x : Val) (h : x.right = true) (hi : x.in64) (h3 : x.k ≠ 3) (add : Int) (r : List UInt8) : fixF add (fixB x add ++ r) = (x, (fixB x add).length) := by
  rcases right_kind h with hk | hk | hk | hk
  · rw [right0 h hk]
    simp [fixB, fixF, nilV]
  · rw [right1 h hk]
    cases x.b <;> simp [fixB, fixF]
  · have e := right2 h hk
    have hi2 := s64_u64 x.n add hi
    generalize x.n = n at *
    rw [e]
    have t8 := take8 (u64 (n + add)) r
    have bl := be_length (u64 (n + add)) 8
    simp only [fixB, fixF, List.cons_append, if_neg (by omega : ¬ (2 : Int) = 0), if_neg (by omega : ¬ (2 : Int) = 1)]
    rw [if_neg (by decide), if_neg (by decide), if_pos (by decide), if_pos (by rw [List.length_append, bl]; omega), t8, hi2]
    simp [bl]
  · exact absurd hk h3
theorem rowF_put (x : Val) (h : x.right = true) (hi : x.in64) (r : List UInt8) : rowF (rowB x ++ r) = (x, (rowB x).length) := by
  by_cases h3 : x.k = 3
  · obtain ⟨e, h6⟩ := right3 h h3
    generalize x.t = t at *
    rw [e]
    have ho : (octet (t.size : Int)).toNat = t.size := by have := octet_toNat (t.size : Int) (by omega) (by omega); omega
    have hl : t.data.toList.length = t.size := by simp
    simp only [rowB, rowF, List.cons_append, if_true]
    rw [if_pos (by decide), ho, if_pos ⟨h6, by rw [List.length_append, hl]; omega⟩, List.take_append_of_le_length (by omega), List.take_of_length_le (by omega)]
    simp
    omega
  · have e : rowB x = fixB x 0 := by unfold rowB; rw [if_neg h3]
    rw [e]
    have := fixF_put x h hi h3 0 r
    have hne : fixB x 0 = (fixB x 0).headD 0 :: (fixB x 0).tail ∧ ((fixB x 0).headD 0).toNat ≠ 3 := by
      unfold fixB
      split
      · exact ⟨rfl, by decide⟩
      · split
        · exact ⟨rfl, by show (1 : UInt8).toNat ≠ 3; decide⟩
        · exact ⟨rfl, by show (2 : UInt8).toNat ≠ 3; decide⟩
    generalize (fixB x 0).headD 0 = f at *
    generalize (fixB x 0).tail = s at *
    rw [hne.1] at this ⊢
    rw [List.cons_append] at this ⊢
    simp only [rowF, if_neg hne.2]
    exact this
theorem rowB_pos {x : Val} (h : x.right = true) : 0 < (rowB x).length := by
  unfold rowB fixB
  repeat (first | split | simp)

theorem decL_put : ∀ l : List Val, allR l = true → (∀ x ∈ l, x.in64) → decL l.length (l.flatMap rowB) = some l
  | [], _, _ => by simp [decL]
  | x :: l, h, hi => by
    unfold allR at h
    rw [List.all_cons, Bool.and_eq_true] at h
    have ih := decL_put l h.2 (fun y hy => hi y (by simp [hy]))
    have hp := rowB_pos h.1
    rw [List.length_cons, decL, List.flatMap_cons, rowF_put x h.1 (hi x (by simp))]
    simp only
    rw [if_neg (by omega), List.drop_left, ih]
    rfl
theorem decS_put (l : List Val) (h : okR l = true) (hi : ∀ x ∈ l, x.in64) : decS (encB l) = (l, 0) := by
  have h16 := okR_len h
  have ho : (octet (l.length : Int)).toNat = l.length := by have := octet_toNat (l.length : Int) (by omega) (by omega); omega
  unfold encB
  simp only [decS]
  rw [ho, if_neg (by omega), decL_put l (okR_all h) hi]
  rfl

/-- What is read is what the first bytes say. -/
theorem fixF_mono (add : Int) (p s : List UInt8) (h : (fixF add p).2 ≠ 0) : fixF add (p ++ s) = fixF add p := by
  cases p with
  | nil => simp [fixF] at h
  | cons f r =>
    rw [List.cons_append]
    simp only [fixF] at h ⊢
    split
    · rfl
    · rw [if_neg (by assumption)] at h
      split
      · rw [if_pos (by assumption)] at h
        cases r with
        | nil => simp at h
        | cons y t => rfl
      · rw [if_neg (by assumption)] at h
        split
        · rw [if_pos (by assumption)] at h
          by_cases h8 : 8 ≤ r.length
          · rw [if_pos (by rw [List.length_append]; omega), if_pos h8, List.take_append_of_le_length h8]
          · rw [if_neg h8] at h; simp at h
        · rfl
theorem rowF_mono (p s : List UInt8) (h : (rowF p).2 ≠ 0) : rowF (p ++ s) = rowF p := by
  cases p with
  | nil => simp [rowF] at h
  | cons f r =>
    rw [List.cons_append]
    simp only [rowF] at h ⊢
    split
    · rw [if_pos (by assumption)] at h
      cases r with
      | nil => simp at h
      | cons y t =>
        rw [List.cons_append]
        simp only at h ⊢
        by_cases hc : y.toNat ≤ 64 ∧ y.toNat ≤ t.length
        · rw [if_pos ⟨hc.1, by rw [List.length_append]; omega⟩, if_pos hc, List.take_append_of_le_length hc.2]
        · rw [if_neg hc] at h; simp at h
    · rw [if_neg (by assumption)] at h
      rw [← List.cons_append]
      exact fixF_mono 0 (f :: r) s h
theorem decL_more : ∀ (n : Nat) (p s : List UInt8) (l : List Val), decL n p = some l → s ≠ [] → decL n (p ++ s) = none
  | 0, p, s, l, h, hs => by
    rw [decL] at h ⊢
    split at h
    · subst p; simpa using hs
    · cases h
  | n + 1, p, s, l, h, hs => by
    rw [decL] at h ⊢
    by_cases h0 : (rowF p).2 = 0
    · rw [if_pos h0] at h; cases h
    · rw [if_neg h0] at h
      rw [rowF_mono p s h0, if_neg h0]
      obtain ⟨l', h', _⟩ := Option.map_eq_some_iff.1 h
      rw [List.drop_append_of_le_length (rowF_le p), decL_more n _ s l' h' hs]
      rfl
theorem decS_more (l : List Val) (h : okR l = true) (hi : ∀ x ∈ l, x.in64) (s : List UInt8) (hs : s ≠ []) : decS (encB l ++ s) = ([], 30) := by
  have h16 := okR_len h
  have ho : (octet (l.length : Int)).toNat = l.length := by have := octet_toNat (l.length : Int) (by omega) (by omega); omega
  unfold encB
  rw [List.cons_append]
  simp only [decS]
  rw [ho, if_neg (by omega), decL_more _ _ s l (decL_put l (okR_all h) hi) hs]
  rfl
theorem decS_cut (l : List Val) (h : okR l = true) (hi : ∀ x ∈ l, x.in64) (cut : Nat) (hc : cut < (encB l).length) : decS ((encB l).take cut) = ([], 30) := by
  have h16 := okR_len h
  have ho : (octet (l.length : Int)).toNat = l.length := by have := octet_toNat (l.length : Int) (by omega) (by omega); omega
  cases cut with
  | zero => rfl
  | succ n =>
    unfold encB at hc ⊢
    rw [List.length_cons] at hc
    rw [List.take_succ_cons]
    simp only [decS]
    rw [ho, if_neg (by omega)]
    cases hd : decL l.length ((l.flatMap rowB).take n) with
    | none => rfl
    | some l' =>
      have h1 := decL_more _ _ ((l.flatMap rowB).drop n) l' hd (by intro h; have := congrArg List.length h; simp only [List.length_drop, List.length_nil] at this; omega)
      rw [List.take_append_drop, decL_put l (okR_all h) hi] at h1
      cases h1
end Go.Proofs.YtohbdbecioanaaaGreatDoor
end

section
namespace Go.Proofs.YtohbdbecioanaaaGreatDoor
open Go.RowKit Go.Hay
set_option linter.unusedVariables false
set_option linter.unusedSimpArgs false

/-- So many values, and the bytes behind them. -/
def tkP : Nat → List Val → List UInt8 → Option (List Val × List UInt8)
  | 0, acc, bs => some (acc, bs)
  | n + 1, acc, bs => if (tkV bs).2 = 0 then none else tkP n (acc ++ [(tkV bs).1]) (bs.drop (tkV bs).2)
/-- Ints by their differences. -/
def tkD : Nat → Int → List Val → List UInt8 → Option (List Val)
  | 0, n, acc, bs => some acc
  | k + 1, n, acc, bs => if (tkG 0 0 bs).2 = 0 then none else tkD k (IntKind.i64.wrap (n + zag (tkG 0 0 bs).1)) (acc ++ [intV (IntKind.i64.wrap (n + zag (tkG 0 0 bs).1))]) (bs.drop (tkG 0 0 bs).2)
def tkDl (many : Nat) (bs : List UInt8) : Option (List Val) := if bs.length < 8 then none else tkD (many - 1) (wordV bs) [intV (wordV bs)] (bs.drop 8)
/-- Numbers in so many bits, if there are just their bytes. -/
def upkO (bs : List UInt8) (many wd : Nat) : Option (List Nat) := if bs.length = (many * wd + 7) / 8 then some (upk bs many wd) else none
def tkBt (many : Nat) (bs : List UInt8) : Option (List Val) :=
  if bs.length ≤ 8 ∨ 64 < (bs.getD 8 0).toNat then none else (upkO (bs.drop 9) many (bs.getD 8 0).toNat).map fun l => l.map fun (n : Nat) => intV (IntKind.i64.wrap (wordV bs + (n : Int)))
def tkDc (many : Nat) (bs : List UInt8) : Option (List Val) :=
  if bs.length = 0 ∨ (bs.getD 0 0).toNat = 0 ∨ many < (bs.getD 0 0).toNat then none
  else match tkP (bs.getD 0 0).toNat [] (bs.drop 1) with
    | none => none
    | some (u, r) => match upkO r many (Lib.bitLen (u.length - 1)) with
      | none => none
      | some ps => if ps.all (fun p => decide (p < u.length)) = true then some (ps.map fun p => u.getD p nv) else none
/-- What take reads. -/
def tkA (k : Int) (many : Nat) (bs : List UInt8) : Option (List Val) :=
  if many = 0 then some [] else if k = 1 then tkR many [] bs else if k = 2 then tkDl many bs else if k = 3 then tkDc many bs else if k = 4 then tkBt many bs else (tkP many [] bs).map Prod.fst

theorem vsz_rowB (x : Val) (h : x.right = true) (s : List UInt8) : vsz (rowB x ++ s) = (rowB x).length := by
  by_cases h3 : x.k = 3
  · obtain ⟨e, h6⟩ := right3 h h3
    have ho : (octet (x.t.size : Int)).toNat = x.t.size := by have := octet_toNat (x.t.size : Int) (by omega) (by omega); omega
    have hl : x.t.data.toList.length = x.t.size := by simp
    simp only [rowB, if_pos h3, List.cons_append, vsz]
    rw [if_neg (by decide), if_neg (by decide), if_neg (by decide), if_pos (by decide), ho]
    simp
    omega
  · have e : rowB x = fixB x 0 := by unfold rowB; rw [if_neg h3]
    rw [e]
    unfold fixB
    split
    · rfl
    · split
      · rfl
      · show vsz (2 :: (be (u64 (x.n + 0)) 8 ++ s)) = _
        simp only [vsz]
        rw [if_neg (by decide), if_neg (by decide), if_pos (by decide)]
        simp [be_length]
theorem tkV_put (x : Val) (h : x.right = true) (hi : x.in64) (s : List UInt8) : tkV (rowB x ++ s) = (x, (rowB x).length) := by
  have hp := rowB_pos h
  unfold tkV
  rw [vsz_rowB x h s, if_neg (by rw [List.length_append]; omega), List.take_left]
  have e : decS (1 :: rowB x) = ([x], 0) := by
    have := decS_put [x] (by simp [okR, allR, h]) (by simpa using hi)
    have e2 : encB [x] = 1 :: rowB x := by simp [encB]; rfl
    rw [e2] at this
    exact this
  rw [e]
  rfl
theorem tkP_put : ∀ (l acc : List Val) (s : List UInt8), allR l = true → (∀ x ∈ l, x.in64) → tkP l.length acc (l.flatMap rowB ++ s) = some (acc ++ l, s)
  | [], acc, s, _, _ => by simp [tkP]
  | x :: l, acc, s, h, hi => by
    have hx : x.right = true := by simp [allR] at h; exact h.1
    have hl : allR l = true := by simp [allR] at h ⊢; exact h.2
    have hp := rowB_pos hx
    rw [List.flatMap_cons, List.append_assoc, List.length_cons, tkP, tkV_put x hx (hi x (by simp))]
    simp only
    rw [if_neg (by omega), List.drop_left, tkP_put l _ s hl (fun y hy => hi y (by simp [hy]))]
    simp
theorem tkR_put : ∀ (R : List Rn) (acc : List Val) (s : List UInt8) (many : Nat), (∀ r ∈ R, r.v.right = true ∧ r.v.in64 ∧ 0 < r.m ∧ r.m < 256) → many = acc.length + (R.map Rn.m).sum → tkR many acc (R.flatMap runB ++ s) = some (acc ++ R.flatMap fun r => List.replicate r.m r.v)
  | [], acc, s, many, _, hm => by rw [tkR_done (by simp at hm; omega)]; simp
  | r :: R, acc, s, many, h, hm => by
    obtain ⟨h1, h2, h3, h4⟩ := h r (by simp)
    have hp := rowB_pos h1
    simp only [List.map_cons, List.sum_cons] at hm
    have e : (r :: R).flatMap runB ++ s = octet r.m :: (rowB r.v ++ (R.flatMap runB ++ s)) := by simp [runB]
    rw [e, tkR_cons (by omega), tkV_put r.v h1 h2]
    simp only
    rw [if_neg (by omega), List.drop_left, octet_nat r.m h4, tkR_put R _ s many (fun r' hr' => h r' (by simp [hr'])) (by simp; omega)]
    simp
theorem runsV_flat : ∀ l : List Val, (runsV l).flatMap (fun r => List.replicate r.m r.v) = l ∧ (∀ r ∈ runsV l, 0 < r.m) ∧ ((runsV l).map Rn.m).sum = l.length
  | [] => by simp [runsV]
  | x :: l => by
    obtain ⟨h1, h2, h3⟩ := runsV_flat l
    rw [runsV]
    cases hr : runsV l with
    | nil =>
      rw [hr] at h1 h3
      have : l = [] := by simpa using h1.symm
      subst this
      simp
    | cons r rs =>
      rw [hr] at h1 h2 h3
      simp only
      split
      · rename_i he
        have e := eqv_iff.1 he
        refine ⟨?_, ?_, ?_⟩
        · rw [← h1, e]; simp [List.replicate_succ]
        · intro q hq
          simp only [List.mem_cons] at hq
          rcases hq with rfl | hq
          · simp
          · exact h2 q (by simp [hq])
        · simp at h3 ⊢; omega
      · refine ⟨?_, ?_, ?_⟩
        · rw [← h1]; simp
        · intro q hq
          simp only [List.mem_cons] at hq
          rcases hq with rfl | hq
          · simp
          · exact h2 q (by simpa using hq)
        · simp at h3 ⊢; omega
theorem back_runs (l : List Val) (h : allR l = true) (hi : ∀ x ∈ l, x.in64) (hl : l.length ≤ 64) (s : List UInt8) : tkR l.length [] ((runsV l).flatMap runB ++ s) = some l := by
  obtain ⟨h1, h2, h3⟩ := runsV_flat l
  rw [tkR_put (runsV l) [] s l.length (fun r hr => ?_) (by simp [h3]), h1]
  · simp
  · have := runsV_in r hr
    exact ⟨List.all_eq_true.1 h _ this.1, hi _ this.1, h2 r hr, by omega⟩
/-- Differences, one behind the other. -/
def dltL : Val → List Val → List UInt8
  | _, [] => []
  | x, y :: r => gB (zig (IntKind.i64.wrap (y.n - x.n))).toNat ++ dltL y r
theorem dltL_eq : ∀ (r : List Val) (x : Val), dlt (x :: r) r.length = dltL x r
  | [], x => by simp [dlt, dltL]
  | y :: r, x => by
    rw [dltL, ← dltL_eq r y]
    unfold dlt
    rw [List.length_cons, List.range_succ_eq_map, List.flatMap_cons]
    congr 1
    rw [List.flatMap_map]
    rfl
theorem wrap_diff (n m : Int) (hn : -9223372036854775808 ≤ n ∧ n ≤ 9223372036854775807) (hm : -9223372036854775808 ≤ m ∧ m ≤ 9223372036854775807) : IntKind.i64.wrap (n + IntKind.i64.wrap (m - n)) = m := by
  rw [IntKind.wrap_i64, IntKind.wrap_i64]; omega
theorem gB_pos (z : Nat) : 0 < (gB z).length := by
  by_cases h : z < 128
  · rw [gB_lo h]; simp
  · rw [gB_hi h]; simp
theorem tkG_zig (d : Int) (h1 : -9223372036854775808 ≤ d) (h2 : d < 9223372036854775808) (s : List UInt8) : tkG 0 0 (gB (zig d).toNat ++ s) = ((zig d).toNat, (gB (zig d).toNat).length) := by
  have hb := zig_bd h1 h2
  rw [tkG_back s _ (zig d).toNat 0 0 (Nat.le_refl _) (by simp; omega) (by omega)]
  simp
theorem int_of {x : Val} (h : x.right = true) (hk : x.k = 2) : x = intV x.n := right2 h hk
theorem tkD_put : ∀ (r : List Val) (x : Val) (acc : List Val) (s : List UInt8), x.in64 → (∀ y ∈ r, y.in64 ∧ y = intV y.n) → tkD r.length x.n acc (dltL x r ++ s) = some (acc ++ r)
  | [], x, acc, s, _, _ => by simp [tkD]
  | y :: r, x, acc, s, hx, h => by
    obtain ⟨hy1, hy2⟩ := h y (by simp)
    have hw := wrap64_bd (y.n - x.n)
    have hp := gB_pos (zig (IntKind.i64.wrap (y.n - x.n))).toNat
    rw [dltL, List.append_assoc, List.length_cons, tkD, tkG_zig _ hw.1 hw.2]
    simp only
    rw [if_neg (by omega), List.drop_left, zag_zig hw.1 hw.2, wrap_diff x.n y.n hx hy1, ← hy2, tkD_put r y _ s hy1 (fun z hz => h z (by simp [hz]))]
    simp
theorem wordV_put (n : Int) (h : -9223372036854775808 ≤ n ∧ n ≤ 9223372036854775807) (s : List UInt8) : wordV (be (u64 n) 8 ++ s) = n := by
  unfold wordV
  rw [take8]
  have := s64_u64 n 0 h
  simpa using this
theorem back_delta (l : List Val) (h : allR l = true) (hi : ∀ x ∈ l, x.in64) (h2 : allI l = true) (h0 : 0 < l.length) (s : List UInt8) : tkDl l.length (deltaB l ++ s) = some l := by
  cases l with
  | nil => simp at h0
  | cons x r =>
    have hint : ∀ y ∈ x :: r, y = intV y.n := fun y hy => int_of (List.all_eq_true.1 h y hy) (by have := List.all_eq_true.1 h2 y hy; simpa using this)
    have e : deltaB (x :: r) ++ s = be (u64 x.n) 8 ++ (dltL x r ++ s) := by
      unfold deltaB
      rw [List.length_cons, Nat.add_sub_cancel, dltL_eq]
      simp
    unfold tkDl
    rw [e, if_neg (by rw [List.length_append, be_length]; omega), wordV_put x.n (hi x (by simp)), List.length_cons, Nat.add_sub_cancel]
    have e8 : (be (u64 x.n) 8 ++ (dltL x r ++ s)).drop 8 = dltL x r ++ s := by
      have : (be (u64 x.n) 8).length = 8 := be_length _ _
      exact List.drop_left' this
    rw [e8, tkD_put r x _ s (hi x (by simp)) (fun y hy => ⟨hi y (by simp [hy]), hint y (by simp [hy])⟩), ← hint x (by simp)]
    rfl
theorem bitLen_lt (x : Nat) (h : x < 18446744073709551616) : x < 2 ^ Lib.bitLen x := by
  have : ∀ (f x : Nat), x < 2 ^ f → x < 2 ^ Lib.bitLenAux f x := by
    intro f
    induction f with
    | zero => intro x hx; simpa [Lib.bitLenAux] using hx
    | succ f ih =>
      intro x hx
      unfold Lib.bitLenAux
      split
      · rename_i h0; simp_all
      · have h1 := ih (x / 2) (by rw [Nat.pow_succ] at hx; omega)
        rw [Nat.pow_add, Nat.pow_one]
        omega
  exact this 64 x h
theorem wdt_ge (l : List Val) (m : Int) : ∀ j k, k < j → Lib.bitLen (abv l m k) ≤ wdt l m j
  | 0, k, h => by omega
  | j + 1, k, h => by
    rw [wdt]
    by_cases e : k = j
    · subst e; omega
    · have := wdt_ge l m j k (by omega)
      omega
theorem upkO_back (l : List Nat) (wd : Nat) (h : ∀ x ∈ l, x < 2 ^ wd) : upkO (packB l wd) l.length wd = some l := by
  unfold upkO
  rw [if_pos (packB_length l wd), upk_back l wd h]
theorem abv_back (l : List Val) (m : Int) (k : Nat) (hm : -9223372036854775808 ≤ m ∧ m ≤ 9223372036854775807) (hk : -9223372036854775808 ≤ (l.getD k nv).n ∧ (l.getD k nv).n ≤ 9223372036854775807) : IntKind.i64.wrap (m + (abv l m k : Int)) = (l.getD k nv).n := by
  unfold abv
  rw [IntKind.wrap_i64]
  omega
theorem least_in (l : List Val) (hi : ∀ x ∈ l, x.in64) (h0 : 0 < l.length) : ∀ j, -9223372036854775808 ≤ leastTo l j ∧ leastTo l j ≤ 9223372036854775807 := by
  have hg : ∀ k, -9223372036854775808 ≤ (l.getD k nv).n ∧ (l.getD k nv).n ≤ 9223372036854775807 := fun k => by
    by_cases hk : k < l.length
    · have e : l.getD k nv = l[k] := by simp [hk]
      rw [e]; exact hi _ (List.getElem_mem hk)
    · have e : l.getD k nv = nv := by simp [List.getElem?_eq_none (by omega : l.length ≤ k)]
      rw [e]; exact ⟨by decide, by decide⟩
  intro j
  induction j with
  | zero => exact hg 0
  | succ j ih =>
    have := hg j
    unfold leastTo
    omega
theorem range_map_getD (l : List Val) : (List.range l.length).map (fun k => l.getD k nv) = l := by
  apply List.ext_getElem?
  intro i
  by_cases hi : i < l.length
  · rw [List.getElem?_map, List.getElem?_range hi]
    simp [hi]
  · rw [List.getElem?_eq_none (by simp; omega), List.getElem?_eq_none (by omega)]
theorem back_bits (l : List Val) (h : allR l = true) (hi : ∀ x ∈ l, x.in64) (h2 : allI l = true) (h0 : 0 < l.length) : tkBt l.length (bitsB l) = some l := by
  have hw := wdt_le l (leastTo l l.length) l.length
  have hin := least_in l hi h0 l.length
  have hge := wdt_ge l (leastTo l l.length) l.length
  obtain ⟨m, hm⟩ : ∃ m, leastTo l l.length = m := ⟨_, rfl⟩
  rw [hm] at hw hin hge
  obtain ⟨wd, hwd⟩ : ∃ wd, wdt l m l.length = wd := ⟨_, rfl⟩
  rw [hwd] at hw hge
  have e : bitsB l = be (u64 m) 8 ++ (octet wd :: packB (abvs l m l.length) wd) := by unfold bitsB; rw [hm, hwd]; simp
  have hl8 : (be (u64 m) 8).length = 8 := be_length _ _
  have ho : (octet wd).toNat = wd := octet_nat wd (by omega)
  have e8 : (be (u64 m) 8 ++ (octet wd :: packB (abvs l m l.length) wd)).getD 8 0 = octet wd := by
    rw [List.getD_eq_getElem?_getD, List.getElem?_append_right (by omega), hl8]; rfl
  have e9 : (be (u64 m) 8 ++ (octet wd :: packB (abvs l m l.length) wd)).drop 9 = packB (abvs l m l.length) wd := by
    rw [show 9 = (be (u64 m) 8).length + 1 by rw [hl8], List.drop_append]; simp
  unfold tkBt
  rw [e, e8, e9, ho, if_neg (by rw [List.length_append, List.length_cons, hl8]; omega), wordV_put m hin]
  have hub := upkO_back (abvs l m l.length) wd (fun x hx => by
    unfold abvs at hx
    obtain ⟨k, hk, rfl⟩ := List.mem_map.1 hx
    have h1 := bitLen_lt (abv l m k) (abv_lt l m k)
    exact Nat.lt_of_lt_of_le h1 (Nat.pow_le_pow_right (by omega) (hge k (by simpa using hk))))
  rw [abvs_length] at hub
  rw [hub, Option.map_some, Option.some.injEq]
  unfold abvs
  rw [List.map_map]
  conv => rhs; rw [← range_map_getD l]
  apply List.map_congr_left
  intro k hk
  have hk' : k < l.length := by simpa using hk
  have eg : l.getD k nv = l[k] := by simp [hk']
  show intV _ = _
  rw [abv_back l m k hin (by rw [eg]; exact hi _ (List.getElem_mem hk'))]
  have := int_of (List.all_eq_true.1 h _ (List.getElem_mem hk')) (by have := List.all_eq_true.1 h2 _ (List.getElem_mem hk'); simpa using this)
  rw [eg, ← this]
theorem back_dict (l : List Val) (h : allR l = true) (hi : ∀ x ∈ l, x.in64) (h0 : 0 < l.length) (hl : l.length ≤ 64) : tkDc l.length (dictB l) = some l := by
  have hul := uniq_len l
  have hur := uniq_right l h
  have hum := uniq_mem l
  obtain ⟨u, hu⟩ : ∃ u, uniq l = u := ⟨_, rfl⟩
  have e : dictB l = octet u.length :: (u.flatMap rowB ++ packB (plcs u l l.length) (Lib.bitLen (u.length - 1))) := by unfold dictB; rw [hu]; simp
  rw [hu] at hul hur
  simp only [hu] at hum
  have hu0 : 0 < u.length := by
    cases l with
    | nil => simp at h0
    | cons x r => exact List.length_pos_of_mem ((hum x).2 (by simp))
  have ho : (octet u.length).toNat = u.length := octet_nat _ (by omega)
  unfold tkDc
  rw [e]
  have e0 : (octet (u.length : Int) :: (u.flatMap rowB ++ packB (plcs u l l.length) (Lib.bitLen (u.length - 1)))).getD 0 0 = octet u.length := rfl
  rw [e0, ho, if_neg (by rw [List.length_cons]; omega), List.drop_one, List.tail_cons, tkP_put u [] _ hur (fun x hx => hi x ((hum x).1 hx))]
  simp only [List.nil_append]
  have hpl : ∀ p ∈ plcs u l l.length, p < u.length := fun p hp => by
    unfold plcs at hp
    obtain ⟨k, hk, rfl⟩ := List.mem_map.1 hp
    have hk' : k < l.length := by simpa using hk
    have eg : l.getD k nv = l[k] := by simp [hk']
    exact (idxV_mem u _ ((hum _).2 (by rw [eg]; exact List.getElem_mem hk'))).1
  have hub := upkO_back (plcs u l l.length) (Lib.bitLen (u.length - 1)) (fun x hx => by
    have h1 := hpl x hx
    have h2 := bitLen_lt (u.length - 1) (by omega)
    omega)
  rw [plcs_length] at hub
  rw [hub]
  simp only
  rw [if_pos (List.all_eq_true.2 fun p hp => by simpa using hpl p hp), Option.some.injEq]
  unfold plcs
  rw [List.map_map]
  conv => rhs; rw [← range_map_getD l]
  apply List.map_congr_left
  intro k hk
  have hk' : k < l.length := by simpa using hk
  have eg : l.getD k nv = l[k] := by simp [hk']
  exact (idxV_mem u _ ((hum _).2 (by rw [eg]; exact List.getElem_mem hk'))).2.1
/-- What is written is read back, in every kind. -/
theorem back_all (k : Int) (l : List Val) (hi : ∀ x ∈ l, x.in64) (hr : refE k l = 0) (h0 : 0 < l.length) : tkA k l.length (encR k l) = some l := by
  obtain ⟨hk, hl, ha⟩ := refE_ok hr
  have hint : ofI k = true → allI l = true := fun ho => by
    unfold refE at hr
    rw [hk, ha, ho] at hr
    simp at hr
    split at hr
    · simp at hr
    · by_cases h : allI l = true
      · exact h
      · simp [h] at hr
  have e : encR k l = putB k l := by unfold encR; rw [if_pos ⟨hr, h0⟩]
  rw [e]
  unfold tkA putB
  rw [if_neg (by omega)]
  by_cases h1 : k = 1
  · subst h1; simpa using back_runs l ha hi hl []
  · rw [if_neg h1, if_neg h1]
    by_cases h2 : k = 2
    · subst h2; simpa using back_delta l ha hi (hint rfl) h0 []
    · rw [if_neg h2, if_neg h2]
      by_cases h3 : k = 3
      · subst h3; simpa using back_dict l ha hi h0 hl
      · rw [if_neg h3, if_neg h3]
        by_cases h4 : k = 4
        · subst h4; simpa using back_bits l ha hi (hint rfl) h0
        · rw [if_neg h4, if_neg h4]
          have := tkP_put l [] [] ha hi
          rw [List.append_nil] at this
          rw [this]; rfl
end Go.Proofs.YtohbdbecioanaaaGreatDoor
end

section
namespace Go.Proofs.YtohbdbecioanaaaGreatDoor
open Go.RowKit Go.Hay
set_option linter.unusedVariables false
set_option linter.unusedSimpArgs false

theorem i64_or_nat (A b : Nat) (hA : A < 72057594037927936) (hb : b < 256) : bits .or .i64 (wrap64 ((A : Int) * 256)) (b : Int) = wrap64 ((A * 256 + b : Nat) : Int) := by
  show IntKind.i64.wrap ((BitVec.ofInt 64 (wrap64 ((A : Int) * 256)) ||| BitVec.ofInt 64 (b : Int)).toNat : Int) = _
  have e1 : (BitVec.ofInt 64 (wrap64 ((A : Int) * 256))).toNat = A * 256 := by
    rw [BitVec.toNat_ofInt]; unfold wrap64; omega
  have e2 : (BitVec.ofInt 64 (b : Int)).toNat = b := by rw [BitVec.toNat_ofInt]; omega
  rw [BitVec.toNat_or, e1, e2, IntKind.wrap_i64]
  have e3 : A * 256 ||| b = A * 256 + b := by
    have := or_sum b A 8 (by omega)
    rw [Nat.or_comm]
    rw [show A * 256 + b = b + A * 2 ^ 8 by omega, ← this]
  rw [e3]
  unfold wrap64
  omega
set_option maxHeartbeats 2000000 in
theorem cWord (a : Option Addr) (c : Nat) (bs : List UInt8) (w : World) (hs : Sees w a bs) (h8 : 8 ≤ bs.length) (hl : bs.length ≤ 900000000000000) :
    Calls Tryz.prog 124 #[.slice a bs.length c] w fun e w' => e = .returned (.int .i64 (wordV bs)) ∧ w' = w := by
  obtain ⟨g, o, rfl, hc⟩ : ∃ g o, a = some ⟨g, o, none⟩ ∧ ∀ j u, bs[j]? = some u → w.cell? ⟨g, o + j, none⟩ = some (.int .u8 u.toNat) := by
    rcases hs with h | h
    · rw [h] at h8; simp at h8
    · exact h
  have hc' := hid hc
  have hF : Hid (wordV bs = wrap64 (num (bs.take 8))) := rfl
  rw [hF.out]
  clear hs hc
  go_enter Tryz.func124, Tryz.ntmps124
  go_wp2_with fail
  go_loopw [3, 5] (fun n i wn => ∃ j : Nat, j ≤ 8 ∧ i = .int .i64 j ∧ n = .int .i64 (wrap64 (num (bs.take j))) ∧ wn = w) (fun _ i _ => 8 - (intOf i).toNat)
  case atStart => exact ⟨0, Nat.zero_le _, rfl, by simp [num, wrap64], rfl⟩
  case round =>
    obtain ⟨j, hj, rfl, rfl, rfl⟩ := hrel
    by_cases hlt : j < 8
    · have hjl : j < bs.length := by omega
      have hcx := hc'.out j bs[j] (by simp [hjl])
      have hx := bs[j].toNat_lt
      have hs := hid (num_take_succ bs j hjl)
      have hA := num_take_lt bs j (by omega)
      generalize bs[j].toNat = x at *
      obtain ⟨A, hAA⟩ : ∃ A, Hid (num (bs.take j) = A) := ⟨_, rfl⟩
      rw [hAA.out] at hs hA ⊢
      have eA : wrap64 (A : Int) = (A : Int) := by unfold wrap64; omega
      have hor := i64_or_nat A x hA hx
      rw [← hs.out] at hor
      rw [eA]
      clear eA
      go_wp2_with fail
      exact ⟨⟨j + 1, by omega, by go_num, rfl, trivial⟩, by simp [intOf]; omega⟩
    · obtain rfl : j = 8 := by omega
      obtain ⟨A, hAA⟩ : ∃ A, Hid (wrap64 (num (bs.take 8)) = A) := ⟨_, rfl⟩
      rw [hAA.out]
      go_wp2_with fail
      go_ret
      exact ⟨by rw [hAA.out]; rfl, rfl⟩
theorem i64_not (d : Nat) (h : d < 9223372036854775808) : bits .xor .i64 (-1) (d : Int) = -(d : Int) - 1 := by
  show IntKind.i64.wrap ((BitVec.ofInt 64 (-1) ^^^ BitVec.ofInt 64 (d : Int)).toNat : Int) = _
  have h1 : BitVec.ofInt 64 (-1) = BitVec.allOnes 64 := by decide
  rw [h1, BitVec.allOnes_xor, BitVec.toNat_not]
  have e2 : (BitVec.ofInt 64 (d : Int)).toNat = d := by rw [BitVec.toNat_ofInt]; omega
  rw [e2, IntKind.wrap_i64]
  omega
theorem cUnfold (z : Nat) (hz : z < 18446744073709551616) (w : World) : Calls Tryz.prog 126 #[.int .u64 (z : Int)] w fun e w' => e = .returned (.int .i64 (zag z)) ∧ w' = w := by
  have hn := i64_not (z / 2) (by omega)
  by_cases h : z % 2 = 0
  · have hF : Hid (zag z = ((z / 2 : Nat) : Int)) := by show _ = _; unfold zag; rw [if_pos h]
    rw [hF.out]
    clear hn
    go_enter Tryz.func126, Tryz.ntmps126
    go_wp2_with fail
    go_ret
    exact ⟨by go_num, rfl⟩
  · have hF : Hid (zag z = -((z / 2 : Nat) : Int) - 1) := by show _ = _; unfold zag; rw [if_neg h]
    have h1 : z % 2 = 1 := by omega
    rw [hF.out]
    have hn' := hid hn
    clear hn
    go_enter Tryz.func126, Tryz.ntmps126
    go_wp2_with fail
    go_ret
    refine ⟨?_, rfl⟩
    have e : ((z / 2 : Nat) : Int) = (z : Int) / 2 := by omega
    rw [e] at hn'
    have := hn'.out
    simp [this]
theorem grp_step (j z x : Nat) (hj : j < 10) (hz : z < 2 ^ (7 * j)) (hz2 : z < 18446744073709551616) : bits .or .u64 (z : Int) (IntKind.u64.wrap ((x : Int) % 128 * 2 ^ (7 * j))) = ((z + x % 128 * 2 ^ (7 * j) % 18446744073709551616 : Nat) : Int) ∧ z + x % 128 * 2 ^ (7 * j) % 18446744073709551616 < 2 ^ (7 * (j + 1)) ∧ z + x % 128 * 2 ^ (7 * j) % 18446744073709551616 < 18446744073709551616 := by
  have hx : x % 128 < 128 := Nat.mod_lt _ (by omega)
  have e : IntKind.u64.wrap ((x : Int) % 128 * 2 ^ (7 * j)) = ((x % 128 * 2 ^ (7 * j) % 18446744073709551616 : Nat) : Int) := by
    have e2 : (x : Int) % 128 * 2 ^ (7 * j) = ((x % 128 * 2 ^ (7 * j) : Nat) : Int) := by simp
    rw [IntKind.wrap_u64, e2]
    omega
  have hdiv : ∃ y, x % 128 * 2 ^ (7 * j) % 18446744073709551616 = y * 2 ^ (7 * j) ∧ y < 128 := by
    by_cases h9 : j = 9
    · subst h9
      exact ⟨x % 128 % 2, by omega, by omega⟩
    · have : 2 ^ (7 * j) ≤ 2 ^ 56 := Nat.pow_le_pow_right (by omega) (by omega)
      have h2 : x % 128 * 2 ^ (7 * j) ≤ 127 * 2 ^ 56 := Nat.mul_le_mul (by omega) this
      exact ⟨x % 128, by omega, hx⟩
  obtain ⟨y, hy, hy2⟩ := hdiv
  have hlt : x % 128 * 2 ^ (7 * j) % 18446744073709551616 < 18446744073709551616 := Nat.mod_lt _ (by omega)
  rw [e, hy]
  rw [hy] at hlt
  have hor : z ||| y * 2 ^ (7 * j) = z + y * 2 ^ (7 * j) := or_sum z y (7 * j) hz
  have hlt2 : z ||| y * 2 ^ (7 * j) < 2 ^ 64 := Nat.or_lt_two_pow (by omega) (by omega)
  rw [hor] at hlt2
  refine ⟨?_, ?_, by omega⟩
  · rw [u64_or_nat z (y * 2 ^ (7 * j)) hz2 hlt, hor]
  · have e7 : 2 ^ (7 * (j + 1)) = 128 * 2 ^ (7 * j) := by rw [show 7 * (j + 1) = 7 + 7 * j by omega, Nat.pow_add]
    rw [e7]
    have : y * 2 ^ (7 * j) ≤ 127 * 2 ^ (7 * j) := Nat.mul_le_mul_right _ (by omega)
    omega
set_option maxHeartbeats 2000000 in
set_option maxRecDepth 100000 in
theorem cTakeGroups (a : Option Addr) (c : Nat) (bs : List UInt8) (w : World) (hs : Sees w a bs) (hl : bs.length ≤ 900000000000000) :
    Calls Tryz.prog 125 #[.slice a bs.length c] w fun e w' => e = .returned (.tuple #[.int .u64 ((tkG 0 0 bs).1 : Int), .int .i64 ((tkG 0 0 bs).2 : Int)]) ∧ w' = w := by
  obtain ⟨F, hF⟩ : ∃ F, Hid (tkG 0 0 bs = F) := ⟨_, rfl⟩
  rw [hF.out]
  obtain ⟨g, o, haa, hc'⟩ : ∃ g o, (bs ≠ [] → a = some ⟨g, o, none⟩) ∧ Hid (∀ j u, bs[j]? = some u → w.cell? ⟨g, o + j, none⟩ = some (.int .u8 u.toNat)) := by
    rcases hs with h | ⟨g, o, h, hc⟩
    · subst h; exact ⟨0, 0, fun h => absurd rfl h, fun j u hu => by simp at hu⟩
    · exact ⟨g, o, fun _ => h, hc⟩
  have haa' := hid haa
  clear hs haa
  by_cases h10 : bs.length ≤ 10
  · have d10 : (bs.length : Int) ≤ 10 := by omega
    go_enter Tryz.func125, Tryz.ntmps125
    go_wp2_with fail
    go_loopw [4, 9] (fun n i wn => ∃ j z : Nat, j ≤ bs.length ∧ i = .int .i64 j ∧ n = .int .u64 (z : Int) ∧ z < 2 ^ (7 * j) ∧ z < 18446744073709551616 ∧ Hid (tkG j z (bs.drop j) = F) ∧ wn = w) (fun _ i _ => bs.length - (intOf i).toNat)
    case atStart => exact ⟨0, 0, Nat.zero_le _, rfl, rfl, by decide, by decide, hF, rfl⟩
    case round =>
      obtain ⟨j, z, hj, rfl, rfl, hz, hz2, hT, rfl⟩ := hrel
      by_cases hlt : j < bs.length
      · have hjl : j < bs.length := by omega
        have hj1 : j < 10 := by omega
        have hcx := hc'.out j bs[j] (by simp [hjl])
        rw [haa'.out (fun h => by rw [h] at hjl; simp at hjl)]
        have hx := bs[j].toNat_lt
        rw [List.drop_eq_getElem_cons hjl, tkG, if_pos hj1] at hT
        obtain ⟨hg1, hg2, hg3⟩ := grp_step j z bs[j].toNat hj1 hz hz2
        generalize bs[j].toNat = x at *
        obtain ⟨Z, hZ⟩ : ∃ Z, Hid (z + x % 128 * 2 ^ (7 * j) % 18446744073709551616 = Z) := ⟨_, rfl⟩
        rw [hZ.out] at hT hg1 hg2 hg3
        have hg1' := hid hg1
        clear hg1
        by_cases hx1 : x < 128
        · rw [if_pos hx1] at hT
          have hfin : Hid (F = (Z, j + 1)) := hT.out.symm
          have d1 : (x : Int) < 128 := by omega
          clear hT
          go_wp2_with fail
          go_ret2
          exact ⟨by rw [hfin.out]; simp [hg1'.out], rfl⟩
        · rw [if_neg hx1] at hT
          have d1 : ¬ (x : Int) < 128 := by omega
          go_wp2_with fail
          exact ⟨⟨j + 1, Z, by omega, by go_num, by rw [hg1'.out], hg2, hg3, hT, trivial⟩, by simp [intOf]; omega⟩
      · obtain rfl : j = bs.length := by omega
        have hfin : Hid (F = (0, 0)) := by
          show _ = _
          rw [← hT.out]
          rw [List.drop_length, tkG]
        go_wp2_with fail
        go_ret2
        exact ⟨by rw [hfin.out]; rfl, rfl⟩
  · have d10 : ¬ (bs.length : Int) ≤ 10 := by omega
    go_enter Tryz.func125, Tryz.ntmps125
    go_wp2_with fail
    go_loopw [4, 9] (fun n i wn => ∃ j z : Nat, j ≤ 10 ∧ i = .int .i64 j ∧ n = .int .u64 (z : Int) ∧ z < 2 ^ (7 * j) ∧ z < 18446744073709551616 ∧ Hid (tkG j z (bs.drop j) = F) ∧ wn = w) (fun _ i _ => 10 - (intOf i).toNat)
    case atStart => exact ⟨0, 0, Nat.zero_le _, rfl, rfl, by decide, by decide, hF, rfl⟩
    case round =>
      obtain ⟨j, z, hj, rfl, rfl, hz, hz2, hT, rfl⟩ := hrel
      by_cases hlt : j < 10
      · have hjl : j < bs.length := by omega
        have hj1 : j < 10 := by omega
        have hcx := hc'.out j bs[j] (by simp [hjl])
        rw [haa'.out (fun h => by rw [h] at hjl; simp at hjl)]
        have hx := bs[j].toNat_lt
        rw [List.drop_eq_getElem_cons hjl, tkG, if_pos hj1] at hT
        obtain ⟨hg1, hg2, hg3⟩ := grp_step j z bs[j].toNat hj1 hz hz2
        generalize bs[j].toNat = x at *
        obtain ⟨Z, hZ⟩ : ∃ Z, Hid (z + x % 128 * 2 ^ (7 * j) % 18446744073709551616 = Z) := ⟨_, rfl⟩
        rw [hZ.out] at hT hg1 hg2 hg3
        have hg1' := hid hg1
        clear hg1
        by_cases hx1 : x < 128
        · rw [if_pos hx1] at hT
          have hfin : Hid (F = (Z, j + 1)) := hT.out.symm
          have d1 : (x : Int) < 128 := by omega
          clear hT
          go_wp2_with fail
          go_ret2
          exact ⟨by rw [hfin.out]; simp [hg1'.out], rfl⟩
        · rw [if_neg hx1] at hT
          have d1 : ¬ (x : Int) < 128 := by omega
          go_wp2_with fail
          exact ⟨⟨j + 1, Z, by omega, by go_num, by rw [hg1'.out], hg2, hg3, hT, trivial⟩, by simp [intOf]; omega⟩
      · obtain rfl : j = 10 := by omega
        have hfin : Hid (F = (0, 0)) := by
          show _ = _
          rw [← hT.out]
          cases hd : bs.drop 10 with
          | nil => rw [tkG]
          | cons x r => rw [tkG, if_neg (by omega)]
        go_wp2_with fail
        go_ret2
        exact ⟨by rw [hfin.out]; rfl, rfl⟩
end Go.Proofs.YtohbdbecioanaaaGreatDoor
end

section
namespace Go.Proofs.YtohbdbecioanaaaGreatDoor
open Go.RowKit Go.Hay
set_option linter.unusedVariables false
set_option linter.unusedSimpArgs false

/-- What takePlain hands back. -/
def TkP (w : World) (r : Option (List Val × List UInt8)) (e : Ending) (w' : World) : Prop :=
  match r with
  | none => e = .returned (.tuple #[.slice none 0 0, .slice none 0 0, .bool false]) ∧ Kp [] w w'
  | some q => ∃ a c b d, e = .returned (.tuple #[.slice a q.1.length c, .slice b q.2.length d, .bool true]) ∧ VE.Row w' (.slice a q.1.length c) q.1 ∧ Sees w b q.2 ∧ q.2.length ≤ d ∧ d ≤ maxLen ∧ Kp [] w w' ∧ ∀ k ∈ blk a, w.heap.size ≤ k
/-- A value laid at a place of a row of values. -/
theorem rowSetV {w : World} {B n c : Nat} {l : List Val} (h : VE.Row w (.slice (some ⟨B, 0, none⟩) n c) l) (i : Nat) (hi : i < l.length) (x : Val) : VE.Row ((((w.setCell ⟨B, i * 4, none⟩ (.int .i64 x.k)).setCell ⟨B, i * 4 + 1, none⟩ (.bool x.b)).setCell ⟨B, i * 4 + 2, none⟩ (.int .i64 x.n)).setCell ⟨B, i * 4 + 3, none⟩ (.string x.t)) (.slice (some ⟨B, 0, none⟩) n c) (l.set i x) := by
  have := h.setAt i hi x
  have e : VE.n = 4 := rfl
  rw [e, Nat.zero_add] at this
  exact this
theorem rowCellsV {w : World} {B n c : Nat} {l : List Val} (h : VE.Row w (.slice (some ⟨B, 0, none⟩) n c) l) (i : Nat) (hi : i < l.length) : ∀ j, j < 4 → (∃ u, w.cell? ⟨B, i * 4 + j, none⟩ = some u) ∧ w.frozen? ⟨B, i * 4 + j, none⟩ = false := by
  intro j hj
  rcases h with ⟨e, _⟩ | ⟨g, o, cc, e, hl, hx, hg, hc, ht⟩
  · cases e
  · cases e
    have e : VE.n = 4 := rfl
    have := ht (i * 4 + j) (by rw [e]; omega)
    rw [Nat.zero_add] at this
    exact ⟨Option.isSome_iff_exists.1 this.1, this.2⟩
theorem kpSet4 {w0 w : World} {B i : Nat} (k : Kp [] w0 w) (hB : w0.heap.size ≤ B) (a b c d : Value) : Kp [] w0 ((((w.setCell ⟨B, i * 4, none⟩ a).setCell ⟨B, i * 4 + 1, none⟩ b).setCell ⟨B, i * 4 + 2, none⟩ c).setCell ⟨B, i * 4 + 3, none⟩ d) :=
  (((k.setCell (p := ⟨B, i * 4, none⟩) (.inr hB) _).setCell (p := ⟨B, i * 4 + 1, none⟩) (.inr hB) _).setCell (p := ⟨B, i * 4 + 2, none⟩) (.inr hB) _).setCell (p := ⟨B, i * 4 + 3, none⟩) (.inr hB) _
theorem nv_nil : nilV = nv := rfl
structure TpI (w W : World) (many j : Nat) (ba : Option Addr) (bc : Nat) (rest : List UInt8) (acc : List Val) (F : Option (List Val × List UInt8)) : Prop where
  see : Sees w ba rest
  len : rest.length ≤ bc
  cap : bc ≤ 9223372036854775807
  few : rest.length ≤ 900000000000000
  row : VE.Row W (.slice (some ⟨w.heap.size, 0, none⟩) many many) (acc ++ List.replicate (many - j) nv)
  kp : Kp [] w W
  al : Hid (acc.length = j)
  fin : Hid (tkP (many - j) acc rest = F)
set_option maxHeartbeats 8000000 in
set_option maxRecDepth 100000 in
theorem cTakePlain (a : Option Addr) (c : Nat) (bs : List UInt8) (many : Nat) (w : World) (hs : Sees w a bs) (hl : bs.length ≤ c) (hm : c ≤ maxLen) (hb : bs.length ≤ 900000000000000) (hmn : many ≤ 255) :
    Calls Tryz.prog 96 #[.slice a bs.length c, .int .i64 many] w (TkP w (tkP many [] bs)) := by
  obtain ⟨i0, hi, hz0, hz1, hz2⟩ := infoV'
  obtain ⟨W1, hmk, hrow1, k1, hs1⟩ := run_makeG (E := VE) (P := Tryz.prog) w 23 30 i0 _ nv 40 Tryz.underlying23 hi hz0 hz1 hz2 rfl .i64 .i64 many (by omega) (by unfold maxLen; omega)
  obtain ⟨F, hF⟩ : ∃ F, Hid (tkP many [] bs = F) := ⟨_, rfl⟩
  rw [hF.out]
  unfold maxLen at hm
  have I0 : Hid (TpI w W1 many 0 a c bs [] F) := ⟨hs, hl, hm, hb, by simpa using hrow1, k1, rfl, by simpa using hF⟩
  clear hs hrow1 k1 hF
  go_enter Tryz.func96, Tryz.ntmps96
  go_wp2_with fail
  go_loopw [0, 15] (fun v0 i wn => ∃ (j : Nat) (ba : Option Addr) (bc : Nat) (rest : List UInt8) (acc : List Val), j ≤ many ∧ i = .int .i64 j ∧ v0 = .slice ba rest.length bc ∧ TpI w wn many j ba bc rest acc F) (fun _ i _ => many - (intOf i).toNat)
  case atStart => exact ⟨0, a, c, bs, [], Nat.zero_le _, rfl, rfl, I0.out⟩
  case round =>
    clear I0 hmk
    obtain ⟨j, ba, bc, rest, acc, hj, rfl, rfl, I⟩ := hrel
    by_cases hlt : j < many
    · have hkw := I.kp
      have hcap := I.cap
      have hlen := I.len
      have hfew := I.few
      have ht := cTakeV ba bc rest wr (I.see.kept I.kp (by simp)) I.len (by unfold maxLen; omega) I.few
      have htle := tkV_le rest
      have hfin := I.fin
      rw [show many - j = (many - (j + 1)) + 1 by omega, tkP] at hfin
      obtain ⟨⟨v, sz⟩, htk⟩ : ∃ t, Hid (tkV rest = t) := ⟨_, rfl⟩
      rw [htk.out] at ht htle hfin
      unfold Tk at ht
      dsimp only at ht htle hfin
      have hxv : Hid (v.v = .agg #[.int .i64 v.k, .bool v.b, .int .i64 v.n, .string v.t]) := rfl
      rw [hxv.out] at ht
      have hI := hid I
      clear I hxv
      go_wp2_with fail
      refine ht.mono ?_
      rintro e w1 ⟨rfl, k1⟩
      obtain ⟨wb, hwb⟩ : ∃ wb, w1.alloc (.cells #[.int .i64 v.k, .bool v.b, .int .i64 v.n, .string v.t] 30) = wb := ⟨_, rfl⟩
      have kb : Kp [] w1 wb := by rw [← hwb]; exact (Kp.refl _ _).alloc _
      have bx : Box4 wb w1.heap.size (.int .i64 v.k) (.bool v.b) (.int .i64 v.n) (.string v.t) := by rw [← hwb]; exact Box4.new _ _ _ _ _ _
      have kwb : Kp [] w wb := (hkw.trans k1 (by simp)).trans kb (by simp)
      by_cases hsz : sz = 0
      · subst hsz
        rw [if_pos rfl] at hfin
        have hF' : Hid (F = none) := hfin.out.symm
        have hP : TkP w F (.returned (.tuple #[.slice none 0 0, .slice none 0 0, .bool false])) wb := by rw [hF'.out]; exact ⟨rfl, kwb⟩
        clear hfin hI ht hF'
        go_wp2_with fail
        go_ret3
        exact hP
      · rw [if_neg hsz] at hfin
        have hsz' : ((sz : Int) == 0) = false := by rw [beq_eq_false_iff_ne]; omega
        have hrow := hI.out.row.keptNew (k1.trans kb (by simp))
        have hal : (acc ++ List.replicate (many - j) nv).length = many := by rw [List.length_append, hI.out.al.out, List.length_replicate]; omega
        have hcl := rowCellsV hrow j (by rw [hal]; exact hlt)
        obtain ⟨⟨u0, c0⟩, f0⟩ := hcl 0 (by omega)
        obtain ⟨⟨u1, c1⟩, f1⟩ := hcl 1 (by omega)
        obtain ⟨⟨u2, c2⟩, f2⟩ := hcl 2 (by omega)
        obtain ⟨⟨u3, c3⟩, f3⟩ := hcl 3 (by omega)
        rw [Nat.add_zero] at c0 f0
        have hset := rowSetV hrow j (by rw [hal]; exact hlt) v
        have e1 : (acc ++ List.replicate (many - j) nv).set j v = acc ++ [v] ++ List.replicate (many - (j + 1)) nv := by
          have := set_app acc nv v (many - (j + 1))
          rw [hI.out.al.out, show many - (j + 1) + 1 = many - j by omega] at this
          exact this
        rw [e1] at hset
        have kset := kpSet4 (i := j) kwb (Nat.le_refl _) (.int .i64 v.k) (.bool v.b) (.int .i64 v.n) (.string v.t)
        have p0 := bx.c0; have p1 := bx.c1; have p2 := bx.c2; have p3 := bx.c3
        obtain ⟨W3, hW3⟩ : ∃ W3, (((wb.setCell ⟨w.heap.size, j * 4, none⟩ (.int .i64 v.k)).setCell ⟨w.heap.size, j * 4 + 1, none⟩ (.bool v.b)).setCell ⟨w.heap.size, j * 4 + 2, none⟩ (.int .i64 v.n)).setCell ⟨w.heap.size, j * 4 + 3, none⟩ (.string v.t) = W3 := ⟨_, rfl⟩
        rw [hW3] at hset kset
        have hdl : (rest.drop sz).length = rest.length - sz := by simp
        have hnxt : Hid (∀ ba', Sees w ba' (rest.drop sz) → ∃ (j' : Nat) (ba2 : Option Addr) (bc2 : Nat) (rest2 : List UInt8) (acc2 : List Val), j' ≤ many ∧ (.int .i64 ((j : Int) + 1) : Value) = .int .i64 j' ∧ (.slice ba' (rest.length - sz) (bc - sz) : Value) = .slice ba2 rest2.length bc2 ∧ TpI w W3 many j' ba2 bc2 rest2 acc2 F) := fun ba' hsb =>
          ⟨j + 1, ba', bc - sz, rest.drop sz, acc ++ [v], by omega, by go_num, by rw [hdl], hsb, by rw [hdl]; omega, by omega, by rw [hdl]; omega, hset, kset, by show _ = _; simp [hI.out.al.out], hfin⟩
        have htl : Hid (∀ g o, ba = some ⟨g, o, none⟩ → Sees w (some ⟨g, o + sz, none⟩) (rest.drop sz)) := fun g o e => by subst e; have := Sees.tail hI.out.see sz; simpa [Addr.add_lit] using this
        obtain ⟨g, o, rfl⟩ : ∃ g o, ba = some ⟨g, o, none⟩ := by
          rcases hI.out.see with h | ⟨g, o, h, _⟩
          · rw [h] at htle; simp at htle; omega
          · exact ⟨g, o, h⟩
        have htd := hid (htl.out g o rfl)
        have hW3' := hid hW3
        clear hrow hset hfin hI htl hal hW3 ht kset e1 hcl
        by_cases hce : sz = bc
        · have hemp : rest.drop sz = [] := List.drop_eq_nil_of_le (by omega)
          have hN := hid (hnxt.out (some ⟨g, o, none⟩) (by rw [hemp]; exact .inl rfl))
          rw [show rest.length - sz = 0 by omega, show bc - sz = 0 by omega] at hN
          clear hnxt hemp htd
          go_wp2_with fail
          rw [hW3'.out]
          exact ⟨hN.out, by simp [intOf]; omega⟩
        · have hN := hid (hnxt.out (some ⟨g, o + sz, none⟩) htd.out)
          clear hnxt htd
          go_wp2_with fail
          rw [hW3'.out]
          exact ⟨hN.out, by simp [intOf]; omega⟩
    · obtain rfl : j = many := by omega
      have hfin : Hid (F = some (acc, rest)) := by
        have := I.fin.out
        rw [Nat.sub_self, tkP] at this
        exact this.symm
      have hrow := I.row
      rw [Nat.sub_self, List.replicate_zero, List.append_nil] at hrow
      have hP : TkP w F (.returned (.tuple #[.slice (some ⟨w.heap.size, 0, none⟩) j j, .slice ba rest.length bc, .bool true])) wr := by
        rw [hfin.out]
        refine ⟨some ⟨w.heap.size, 0, none⟩, j, ba, bc, by rw [I.al.out], by rw [I.al.out]; exact hrow, I.see, I.len, by unfold maxLen; exact I.cap, I.kp, fun k hk => by simp [blk] at hk; omega⟩
      clear I hrow hfin
      go_wp2_with fail
      go_ret3
      exact hP
end Go.Proofs.YtohbdbecioanaaaGreatDoor
end

section
namespace Go.Proofs.YtohbdbecioanaaaGreatDoor
open Go.RowKit Go.Hay
set_option linter.unusedVariables false
set_option linter.unusedSimpArgs false

/-- What unpack hands back. -/
def UpP (w : World) (r : Option (List Nat)) (e : Ending) (w' : World) : Prop :=
  match r with
  | none => e = .returned (.tuple #[.slice none 0 0, .bool false]) ∧ Kp [] w w'
  | some l => ∃ a c, e = .returned (.tuple #[.slice a l.length c, .bool true]) ∧ U64E.Row w' (.slice a l.length c) l ∧ Kp [] w w' ∧ ∀ k ∈ blk a, w.heap.size ≤ k
theorem or_up (A x k r : Nat) (hk : k < 64) (hA : A < 2 ^ k) (hx : x < 256) : bits .or .u64 (A : Int) (IntKind.u64.wrap (IntKind.u64.wrap (bits .and .u8 ((x : Int) / 2 ^ r) 1) * 2 ^ k)) = ((A + x / 2 ^ r % 2 * 2 ^ k : Nat) : Int) := by
  have e1 : (x : Int) / 2 ^ r = ((x / 2 ^ r : Nat) : Int) := by simp
  have hy : x / 2 ^ r < 256 := Nat.lt_of_le_of_lt (Nat.div_le_self _ _) hx
  rw [e1]
  generalize x / 2 ^ r = y at hy
  have e2 : bits .and .u8 (y : Int) 1 = ((y % 2 : Nat) : Int) := by
    have := u8_and_nat y 1 hy (by omega)
    rw [Nat.and_one_is_mod] at this
    exact this
  have e2' : IntKind.u64.wrap ((y % 2 : Nat) : Int) = ((y % 2 : Nat) : Int) := by rw [IntKind.wrap_u64]; omega
  rw [e2, e2']
  have hb : y % 2 < 2 := Nat.mod_lt _ (by omega)
  generalize y % 2 = b at hb
  have h2 : 2 ^ k ≤ 2 ^ 63 := Nat.pow_le_pow_right (n := 2) (by omega) (by omega)
  have hm : b * 2 ^ k ≤ 1 * 2 ^ k := Nat.mul_le_mul_right _ (by omega)
  have e3 : IntKind.u64.wrap ((b : Int) * 2 ^ k) = ((b * 2 ^ k : Nat) : Int) := by
    have h4 : (b : Int) * 2 ^ k = ((b * 2 ^ k : Nat) : Int) := by simp
    rw [h4, IntKind.wrap_u64]
    omega
  rw [e3, u64_or_nat A (b * 2 ^ k) (by omega) (by omega), or_sum A b k hA]
/-- So many numbers read, and one half way. -/
def upSt (bs : List UInt8) (wd many j x : Nat) : List Nat := (List.range j).map (fun i => numTo bs wd i wd) ++ x :: List.replicate (many - j - 1) 0
theorem upSt_len (bs : List UInt8) (wd many j x : Nat) (h : j < many) : (upSt bs wd many j x).length = many := by unfold upSt; simp; omega
theorem upSt_set (bs : List UInt8) (wd many j x y : Nat) : (upSt bs wd many j x).set j y = upSt bs wd many j y := by
  unfold upSt
  rw [List.set_append_right _ _ (by simp)]
  simp
theorem upSt_at (bs : List UInt8) (wd many j x : Nat) : (upSt bs wd many j x)[j]? = some x := by
  unfold upSt
  rw [List.getElem?_append_right (by simp)]
  simp
def upTo (bs : List UInt8) (wd many j : Nat) : List Nat := (List.range j).map (fun i => numTo bs wd i wd) ++ List.replicate (many - j) 0
theorem upTo_st (bs : List UInt8) (wd many j : Nat) (h : j < many) : upTo bs wd many j = upSt bs wd many j (numTo bs wd j 0) := by
  unfold upTo upSt
  rw [show many - j = (many - j - 1) + 1 by omega, List.replicate_succ]; rfl
theorem upSt_to (bs : List UInt8) (wd many j : Nat) (h : j < many) : upSt bs wd many j (numTo bs wd j wd) = upTo bs wd many (j + 1) := by
  unfold upTo upSt
  rw [List.range_succ, List.map_append, show many - j - 1 = many - (j + 1) by omega]; simp
theorem upTo_all (bs : List UInt8) (wd many : Nat) : upTo bs wd many many = upk bs many wd := by unfold upTo upk; simp
set_option maxHeartbeats 4000000 in
set_option maxRecDepth 100000 in
theorem cUnpack (a : Option Addr) (c : Nat) (bs : List UInt8) (many wd : Nat) (w : World) (hs : Sees w a bs) (hb : bs.length ≤ 900000000000000) (hmn : many ≤ 64) (hwd : wd ≤ 64) :
    Calls Tryz.prog 127 #[.slice a bs.length c, .int .i64 many, .int .i64 wd] w (UpP w (upkO bs many wd)) := by
  obtain ⟨i0, hi, hz0, hz1, hz2⟩ := infoU64
  obtain ⟨N, hN⟩ : ∃ N, Hid (many * wd = N) := ⟨_, rfl⟩
  have hNb : N ≤ 4096 := by rw [← hN.out]; exact Nat.mul_le_mul hmn hwd
  have hsz := cPackedSize many wd N hN.out (by omega) w
  obtain ⟨sz, hsz'⟩ : ∃ sz, Hid ((N + 7) / 8 = sz) := ⟨_, rfl⟩
  rw [hsz'.out] at hsz
  have hF : Hid (upkO bs many wd = if bs.length = sz then some (upk bs many wd) else none) := by show _ = _; unfold upkO; rw [hN.out, hsz'.out]
  obtain ⟨F, hFF⟩ : ∃ F, Hid (upkO bs many wd = F) := ⟨_, rfl⟩
  rw [hFF.out] at hF ⊢
  by_cases hE : bs.length = sz
  · have hF2 : Hid (F = some (upk bs many wd)) := by show _ = _; rw [hF.out, if_pos hE]
    have hE' := hid hE
    have hbs : bs.length ≤ 513 := by rw [hE, ← hsz'.out]; omega
    have hszb : sz = bs.length := hE.symm
    have hat : Hid (∀ W, Kp [] w W → ∀ i (hi : i < bs.length), ∃ g o, a = some ⟨g, o, none⟩ ∧ W.cell? ⟨g, o + i, none⟩ = some (.int .u8 bs[i].toNat)) := fun W kW i hi => by
      rcases hs.kept kW (by simp) with h | ⟨g, o, h, hc⟩
      · rw [h] at hi; simp at hi
      · exact ⟨g, o, h, hc i bs[i] (by simp [hi])⟩
    obtain ⟨W1, hmk, hrow1, k1, hs1⟩ := run_makeG (E := U64E) (P := Tryz.prog) w 136 62 i0 (.int .u64 0) 0 8 Tryz.underlying136 hi hz0 hz1 hz2 rfl .i64 .i64 many (by omega) (by unfold maxLen; omega)
    have R0 : Hid (U64E.Row W1 (.slice (some ⟨w.heap.size, 0, none⟩) many many) (upTo bs wd many 0)) := by show U64E.Row _ _ _; simpa [upTo] using hrow1
    have e0 : ((bs.length : Int) != (bs.length : Int)) = false := by simp
    rw [hszb] at hsz
    clear hs hrow1 hF hE hszb hFF
    go_enter Tryz.func127, Tryz.ntmps127
    go_wp2_with fail
    refine hsz.mono ?_
    rintro e w9 ⟨rfl, hw9⟩
    rw [hw9]
    clear hw9 w9 hsz
    go_wp2_with fail
    go_loopw [22] (fun i wn => ∃ j : Nat, j ≤ many ∧ i = .int .i64 j ∧ U64E.Row wn (.slice (some ⟨w.heap.size, 0, none⟩) many many) (upTo bs wd many j) ∧ Kp [] w wn) (fun i _ => many - (intOf i).toNat)
    case atStart => exact ⟨0, Nat.zero_le _, rfl, R0.out, k1⟩
    case round =>
      clear hmk R0 k1 hs1
      obtain ⟨j, hj, rfl, hrow, kn⟩ := hrel
      by_cases hlt : j < many
      · rw [upTo_st bs wd many j hlt] at hrow
        obtain ⟨M, hM⟩ : ∃ M, Hid (j * wd = M) := ⟨_, rfl⟩
        have hMe : (j : Int) * (wd : Int) = (M : Int) := by rw [← hM.out]; simp
        have hMN : M + wd ≤ N := by
          have : (j + 1) * wd ≤ many * wd := Nat.mul_le_mul_right _ hlt
          rw [hN.out, Nat.succ_mul, hM.out] at this
          exact this
        go_wp2_with fail
        go_loopw [26] (fun i wn => ∃ k : Nat, k ≤ wd ∧ i = .int .i64 k ∧ U64E.Row wn (.slice (some ⟨w.heap.size, 0, none⟩) many many) (upSt bs wd many j (numTo bs wd j k)) ∧ Kp [] w wn) (fun i _ => wd - (intOf i).toNat)
        case atStart => exact ⟨0, Nat.zero_le _, rfl, hrow, kn⟩
        case round =>
          clear hrow kn
          obtain ⟨k, hk, rfl, hrow, kn⟩ := hrel
          by_cases hkl : k < wd
          · obtain ⟨q, hq⟩ : ∃ q, (M + k) / 8 = q := ⟨_, rfl⟩
            obtain ⟨r, hr⟩ : ∃ r, (M + k) % 8 = r := ⟨_, rfl⟩
            have eq1 : ((M : Int) + (k : Int)) / 8 = (q : Int) := by omega
            have eq2 : ((M : Int) + (k : Int)) % 8 = (r : Int) := by omega
            have hqs : q < bs.length := by rw [hE'.out, ← hsz'.out]; omega
            have hr8 : r < 8 := by omega
            obtain ⟨g, o, rfl, hcx⟩ := hat.out wr kn q hqs
            have hbit : Hid (bitAt bs (j * wd + k) = bs[q].toNat / 2 ^ r % 2) := by
              show _ = _
              unfold bitAt
              rw [hM.out, hq, hr]
              simp [hqs]
            have hx := bs[q].toNat_lt
            generalize bs[q].toNat = x at *
            have hlt2 := numTo_lt bs wd j k
            have hns : Hid (numTo bs wd j (k + 1) = numTo bs wd j k + x / 2 ^ r % 2 * 2 ^ k) := by show _ = _; rw [numTo, hbit.out]
            have hold := upSt_at bs wd many j (numTo bs wd j k)
            have hput := hrow.setAt j (by rw [upSt_len _ _ _ _ _ hlt]; exact hlt) (numTo bs wd j (k + 1))
            rw [upSt_set] at hput
            obtain ⟨A, hA⟩ : ∃ A, Hid (numTo bs wd j k = A) := ⟨_, rfl⟩
            rw [hA.out] at hold hlt2 hns hrow
            have hval := or_up A x k r (by omega) hlt2 hx
            rw [← hns.out] at hval
            have hcell : wr.cell? ⟨w.heap.size, j, none⟩ = some (.int .u64 (A : Int)) ∧ wr.frozen? ⟨w.heap.size, j, none⟩ = false := by
              rcases hrow with ⟨e, _⟩ | ⟨g9, o9, c9, e, q1, q2, q3, q4, q5⟩
              · cases e
              · injection e with e1 e2 e3
                injection e1 with e1
                injection e1 with e4 e5
                subst e3 e4 e5
                have h5 := q5 j (by have : U64E.n = 1 := rfl; rw [this]; omega)
                have h4 := q4 j (.int .u64 (A : Int)) (by
                  have := El.cs_get U64E hold (k := 0) (by decide)
                  have e1 : U64E.n = 1 := rfl
                  rw [e1, Nat.mul_one, Nat.add_zero] at this
                  rw [this]
                  simp [U64E])
                rw [Nat.zero_add] at h4 h5
                exact ⟨h4, h5.2⟩
            obtain ⟨hc, hfz⟩ := hcell
            have eW : Hid (wr.setCells w.heap.size (0 + j * U64E.n) (U64E.c (numTo bs wd j (k + 1))) = wr.setCell ⟨w.heap.size, j, none⟩ (.int .u64 (bits .or .u64 (A : Int) (IntKind.u64.wrap (IntKind.u64.wrap (bits .and .u8 ((x : Int) / 2 ^ r) 1) * 2 ^ k))))) := by
              show _ = _
              rw [hval]
              have : U64E.n = 1 := rfl
              rw [this]
              simp [U64E, World.setCells]
            rw [eW.out] at hput
            have kf : Kp [] w (wr.setCell ⟨w.heap.size, j, none⟩ (.int .u64 (bits .or .u64 (A : Int) (IntKind.u64.wrap (IntKind.u64.wrap (bits .and .u8 ((x : Int) / 2 ^ r) 1) * 2 ^ k))))).drew := (kn.setCell (p := ⟨w.heap.size, j, none⟩) (.inr (by simp)) _).drew
            have hput2 : U64E.Row (wr.setCell ⟨w.heap.size, j, none⟩ (.int .u64 (bits .or .u64 (A : Int) (IntKind.u64.wrap (IntKind.u64.wrap (bits .and .u8 ((x : Int) / 2 ^ r) 1) * 2 ^ k))))).drew (.slice (some ⟨w.heap.size, 0, none⟩) many many) (upSt bs wd many j (numTo bs wd j (k + 1))) := hput.keptNew (Kp.refl _ _).drew
            have hput3 := hid hput2
            have kf3 := hid kf
            clear hold hput eW hval hrow hput2 kf hns hA
            go_wp2_with fail
            go_region
            go_wp2_with fail
            exact ⟨⟨k + 1, by omega, by go_num, hput3.out, kf3.out⟩, by simp [intOf]; omega⟩
          · obtain rfl : k = wd := by omega
            rw [upSt_to bs k many j hlt] at hrow
            go_wp2_with fail
            exact ⟨⟨j + 1, by omega, by go_num, hrow, kn⟩, by simp [intOf]; omega⟩
      · obtain rfl : j = many := by omega
        rw [upTo_all] at hrow
        have hlen := upk_length bs j wd
        have hfin : UpP w F (.returned (.tuple #[.slice (some ⟨w.heap.size, 0, none⟩) j j, .bool true])) wr := by
          rw [hF2.out]
          exact ⟨some ⟨w.heap.size, 0, none⟩, j, by rw [hlen], by rw [hlen]; exact hrow, kn, fun k hk => by simp [blk] at hk; omega⟩
        clear hrow hlen
        go_wp2_with fail
        go_ret2
        exact hfin
  · have hF2 : Hid (F = none) := by show _ = _; rw [hF.out, if_neg hE]
    have hfin : UpP w F (.returned (.tuple #[.slice none 0 0, .bool false])) w := by rw [hF2.out]; exact ⟨rfl, Kp.refl _ _⟩
    have e0 : ((bs.length : Int) != (sz : Int)) = true := by simp only [bne_iff_ne]; omega
    have e1 : ((bs.length : Int) == (sz : Int)) = false := by rw [beq_eq_false_iff_ne]; omega
    clear hs hF hE hFF
    go_enter Tryz.func127, Tryz.ntmps127
    go_wp2_with fail
    refine hsz.mono ?_
    rintro e w9 ⟨rfl, hw9⟩
    rw [hw9]
    clear hw9 w9 hsz
    go_wp2_with fail
    go_ret2
    exact hfin
end Go.Proofs.YtohbdbecioanaaaGreatDoor
end

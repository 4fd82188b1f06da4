/- Blocks: plain functions: what is written, what is read, back and forth. The writer's Word. block.Write. A head, read by a reader: plain functions. The reader's Word and Long. takeValue. encode.Can. mayBe; a block's cells that are stored into. -/
import Derived.Test.YtohbdbecioanaaaGreatDoorB6
import Derived.Test.YtohbdbecioanaaaGreatDoorB11
import Derived.Test.YtohbdbecioanaaaGreatDoorB3
import Derived.Test.YtohbdbecioanaaaGreatDoorB7
import Derived.Test.YtohbdbecioanaaaGreatDoorB5
section
namespace Go.Proofs.YtohbdbecioanaaaGreatDoor
open Go.RowKit Go.Hay
set_option linter.unusedVariables false
set_option linter.unusedSimpArgs false

theorem minTo_mem (l : List Val) (h0 : 0 < l.length) : ∀ j, j < l.length → minTo l j ∈ l
  | 0, h => by simp [minTo, h0]
  | j + 1, h => by
    unfold minTo
    split
    · simp [h]
    · exact minTo_mem l h0 j (by omega)
theorem maxTo_mem (l : List Val) (h0 : 0 < l.length) : ∀ j, j < l.length → maxTo l j ∈ l
  | 0, h => by simp [maxTo, h0]
  | j + 1, h => by
    unfold maxTo
    split
    · simp [h]
    · exact maxTo_mem l h0 j (by omega)
theorem minV_mem {l : List Val} (h0 : 0 < l.length) : minV l ∈ l := minTo_mem l h0 _ (by omega)
theorem maxV_mem {l : List Val} (h0 : 0 < l.length) : maxV l ∈ l := maxTo_mem l h0 _ (by omega)
theorem minV_right {l : List Val} (h0 : 0 < l.length) (h : allR l = true) : (minV l).right = true := List.all_eq_true.1 h _ (minV_mem h0)
theorem maxV_right {l : List Val} (h0 : 0 < l.length) (h : allR l = true) : (maxV l).right = true := List.all_eq_true.1 h _ (maxV_mem h0)

/-- A block's head, ahead of an encoding of n bytes. -/
def hdB (k : Int) (l : List Val) (n : Nat) : List UInt8 := [octet k, octet l.length, octet (nullsV l)] ++ rowB (minV l) ++ rowB (maxV l) ++ [octet ((n / 256 : Nat) : Int), octet ((n % 256 : Nat) : Int)]
def preB (k : Int) (l : List Val) : List UInt8 := hdB k l (encR k l).length ++ encR k l
def blkB (k : Int) (l : List Val) : List UInt8 := preB k l ++ be (crc (preB k l)) 4
def kindW (k : Int) (l : List Val) : Int := if k = -1 then bestV l else k
def wrB (k : Int) (l : List Val) : List UInt8 × Int := if l.length = 0 then ([], 70) else if refE (kindW k l) l = 0 then (blkB (kindW k l) l, 0) else ([], refE (kindW k l) l)

def zeroI : Inf := ⟨0, 0, nilV, nilV, 0, 0⟩
/-- How many bytes a block has whose encoding begins behind p bytes. -/
def endR (bs : List UInt8) (p : Nat) : Nat := p + 2 + num ((bs.drop p).take 2) + 4
/-- What bytes begin with, read as a head; and where the encoding begins. -/
def hdR (bs : List UInt8) : Option (Inf × Nat) :=
  if bs.length < 3 ∨ 4 < (bs.getD 0 0).toNat ∨ (bs.getD 1 0).toNat = 0 ∨ 64 < (bs.getD 1 0).toNat ∨ (bs.getD 1 0).toNat < (bs.getD 2 0).toNat then none
  else if (rowF (bs.drop 3)).2 = 0 then none
  else if (rowF (bs.drop (3 + (rowF (bs.drop 3)).2))).2 = 0 ∨ bs.length < 3 + (rowF (bs.drop 3)).2 + (rowF (bs.drop (3 + (rowF (bs.drop 3)).2))).2 + 2 then none
  else if bs.length < endR bs (3 + (rowF (bs.drop 3)).2 + (rowF (bs.drop (3 + (rowF (bs.drop 3)).2))).2) then none
  else some (⟨(bs.getD 0 0).toNat, (bs.getD 1 0).toNat, (rowF (bs.drop 3)).1, (rowF (bs.drop (3 + (rowF (bs.drop 3)).2))).1, (bs.getD 2 0).toNat, endR bs (3 + (rowF (bs.drop 3)).2 + (rowF (bs.drop (3 + (rowF (bs.drop 3)).2))).2)⟩,
    3 + (rowF (bs.drop 3)).2 + (rowF (bs.drop (3 + (rowF (bs.drop 3)).2))).2 + 2)
def hdP (bs : List UInt8) : Inf × Nat × Int := match hdR bs with | none => (zeroI, 0, 70) | some (i, s) => (i, s, 0)
/-- Does a head say of values what they are? -/
def tellB (i : Inf) (l : List Val) : Bool := i.many == (l.length : Int) && i.mn.eqv (minV l) && i.mx.eqv (maxV l) && i.nulls == (nullsV l : Int)
def rdR (bs : List UInt8) : List Val × Nat × Int := match hdR bs with
  | none => ([], 0, 70)
  | some (i, s) =>
    if num ((bs.drop (i.bytes.toNat - 4)).take 4) ≠ crc (bs.take (i.bytes.toNat - 4)) then ([], 0, 71)
    else if (decA i.kind ((bs.take (i.bytes.toNat - 4)).drop s) i.many.toNat).2 = 0 ∧ tellB i (decA i.kind ((bs.take (i.bytes.toNat - 4)).drop s) i.many.toNat).1 = true
      then ((decA i.kind ((bs.take (i.bytes.toNat - 4)).drop s) i.many.toNat).1, i.bytes.toNat, 0) else ([], 0, 70)

/-- The parts of bytes that a head is read of. -/
theorem hdR_some {bs : List UInt8} {i : Inf} {s : Nat} (h : hdR bs = some (i, s)) :
    ∃ k m n : UInt8, ∃ v1 v2 : Val, ∃ x y : UInt8, ∃ rest : List UInt8, bs = k :: m :: n :: (rowB v1 ++ rowB v2 ++ x :: y :: rest) ∧ v1.right = true ∧ v2.right = true ∧ v1.in64 ∧ v2.in64 ∧ k.toNat ≤ 4 ∧ 1 ≤ m.toNat ∧ m.toNat ≤ 64 ∧ n.toNat ≤ m.toNat ∧
      i = ⟨k.toNat, m.toNat, v1, v2, n.toNat, (s + (x.toNat * 256 + y.toNat) + 4 : Nat)⟩ ∧ s = 5 + (rowB v1).length + (rowB v2).length ∧ s + (x.toNat * 256 + y.toNat) + 4 ≤ bs.length := by
  unfold hdR at h
  split at h
  · cases h
  · rename_i h1
    split at h
    · cases h
    · rename_i h2
      split at h
      · cases h
      · rename_i h3
        split at h
        · cases h
        · rename_i h4
          injection h with h
          injection h with hi hs
          match bs, h1 with
          | k :: m :: n :: r, h1 =>
            simp only [List.length_cons, List.getD_cons_zero, List.getD_cons_succ, not_or, Nat.not_lt] at h1
            simp only [List.drop_succ_cons, List.drop_zero, List.getD_cons_zero, List.getD_cons_succ, List.length_cons] at h2 h3 h4 hi hs ⊢
            obtain ⟨_, hk, hm, hm2, hn⟩ := h1
            obtain ⟨r1, b1⟩ := rowF_back r h2
            have i1 := rowF_in64 r
            have l1 := rowF_le r
            obtain ⟨⟨v1, n1⟩, hv1⟩ : ∃ q, rowF r = q := ⟨_, rfl⟩
            rw [hv1] at h2 h3 h4 hi hs r1 b1 i1 l1
            dsimp only at h2 h3 h4 hi hs r1 b1 i1 l1
            have ed : (k :: m :: n :: r).drop (3 + n1) = r.drop n1 := by rw [show 3 + n1 = n1 + 3 by omega]; rfl
            rw [ed] at h3 h4 hi hs
            rw [not_or] at h3
            obtain ⟨h3, h3l⟩ := h3
            obtain ⟨r2, b2⟩ := rowF_back (r.drop n1) h3
            have i2 := rowF_in64 (r.drop n1)
            have l2 := rowF_le (r.drop n1)
            obtain ⟨⟨v2, n2⟩, hv2⟩ : ∃ q, rowF (r.drop n1) = q := ⟨_, rfl⟩
            rw [hv2] at h3 h3l h4 hi hs r2 b2 i2 l2
            dsimp only at h3 h3l h4 hi hs r2 b2 i2 l2
            have er : r = rowB v1 ++ (rowB v2 ++ r.drop (n1 + n2)) := by
              rw [b1, b2, ← List.drop_drop, List.take_append_drop, List.take_append_drop]
            have e1 : (rowB v1).length = n1 := by rw [b1, List.length_take]; omega
            have e2 : (rowB v2).length = n2 := by rw [b2, List.length_take]; omega
            have l3 : 2 ≤ (r.drop (n1 + n2)).length := by rw [List.length_drop]; omega
            have ed2 : (k :: m :: n :: r).drop (3 + n1 + n2) = r.drop (n1 + n2) := by rw [show 3 + n1 + n2 = (n1 + n2) + 3 by omega]; rfl
            unfold endR at hi h4
            rw [ed2] at hi h4
            match hq : r.drop (n1 + n2), l3 with
            | x :: y :: q, _ =>
              rw [hq] at hi h4 er
              have en : num ([x, y] : List UInt8) = x.toNat * 256 + y.toNat := by simp [num]
              simp only [List.take_succ_cons, List.take_zero, en] at hi h4
              refine ⟨k, m, n, v1, v2, x, y, q, by rw [List.append_assoc, ← er], r1, r2, i1, i2, by omega, by omega, by omega, by omega, ?_, by omega, by omega⟩
              rw [← hi, ← hs]
/-- .. and the other way round. -/
theorem hdR_put (k m n : UInt8) (v1 v2 : Val) (x y : UInt8) (rest : List UInt8) (r1 : v1.right = true) (r2 : v2.right = true) (i1 : v1.in64) (i2 : v2.in64) (hk : k.toNat ≤ 4) (hm : 1 ≤ m.toNat) (hm2 : m.toNat ≤ 64) (hn : n.toNat ≤ m.toNat)
    (hl : x.toNat * 256 + y.toNat + 4 ≤ rest.length) :
    hdR (k :: m :: n :: (rowB v1 ++ rowB v2 ++ x :: y :: rest)) = some (⟨k.toNat, m.toNat, v1, v2, n.toNat, (5 + (rowB v1).length + (rowB v2).length + (x.toNat * 256 + y.toNat) + 4 : Nat)⟩, 5 + (rowB v1).length + (rowB v2).length) := by
  have f1 : rowF (rowB v1 ++ rowB v2 ++ x :: y :: rest) = (v1, (rowB v1).length) := by rw [List.append_assoc]; exact rowF_put v1 r1 i1 _
  have p1 := rowB_pos r1
  have p2 := rowB_pos r2
  have ed : ∀ s : List UInt8, (k :: m :: n :: s).drop (3 + (rowB v1).length) = s.drop (rowB v1).length := fun s => by rw [show 3 + (rowB v1).length = (rowB v1).length + 3 by omega]; rfl
  have f2 : rowF ((rowB v1 ++ rowB v2 ++ x :: y :: rest).drop (rowB v1).length) = (v2, (rowB v2).length) := by
    rw [List.append_assoc, List.drop_left]
    exact rowF_put v2 r2 i2 _
  have ed2 : (k :: m :: n :: (rowB v1 ++ rowB v2 ++ x :: y :: rest)).drop (3 + (rowB v1).length + (rowB v2).length) = x :: y :: rest := by
    rw [show 3 + (rowB v1).length + (rowB v2).length = ((rowB v1).length + (rowB v2).length) + 3 by omega]
    show (rowB v1 ++ rowB v2 ++ x :: y :: rest).drop ((rowB v1).length + (rowB v2).length) = _
    rw [← List.length_append, List.drop_left]
  have en : num ([x, y] : List UInt8) = x.toNat * 256 + y.toNat := by simp [num]
  have el : (k :: m :: n :: (rowB v1 ++ rowB v2 ++ x :: y :: rest)).length = 5 + (rowB v1).length + (rowB v2).length + rest.length := by simp; omega
  unfold hdR
  rw [if_neg (by simp only [List.length_cons, List.getD_cons_zero, List.getD_cons_succ]; omega)]
  simp only [List.drop_succ_cons, List.drop_zero, List.getD_cons_zero, List.getD_cons_succ, f1, ed, f2]
  unfold endR
  rw [ed2, el, if_neg (by omega), if_neg (by omega)]
  simp only [List.take_succ_cons, List.take_zero, en]
  rw [if_neg (by omega)]
  congr 2
  · congr 1
    omega
  · omega
/-- What stands behind does not bear on a head. -/
theorem hdR_mono {bs : List UInt8} {i : Inf} {s : Nat} (h : hdR bs = some (i, s)) (q : List UInt8) : hdR (bs ++ q) = some (i, s) := by
  obtain ⟨k, m, n, v1, v2, x, y, rest, rfl, r1, r2, i1, i2, hk, hm, hm2, hn, hi, hs, hl⟩ := hdR_some h
  have hr : x.toNat * 256 + y.toNat + 4 ≤ (rest ++ q).length := by simp at hl ⊢; omega
  have := hdR_put k m n v1 v2 x y (rest ++ q) r1 r2 i1 i2 hk hm hm2 hn hr
  simp only [List.cons_append, List.append_assoc] at this ⊢
  rw [this, hi, hs]
theorem octet_small (n : Nat) (h : n < 256) : (octet (n : Int)).toNat = n := by
  have := octet_toNat (n : Int) (by omega) (by omega)
  omega
theorem hdB_len (k : Int) (l : List Val) (n : Nat) : (hdB k l n).length = 5 + (rowB (minV l)).length + (rowB (maxV l)).length := by unfold hdB; simp; omega
theorem preB_len (k : Int) (l : List Val) : (preB k l).length = 5 + (rowB (minV l)).length + (rowB (maxV l)).length + (encR k l).length := by unfold preB; simp [hdB_len]
theorem blkB_len (k : Int) (l : List Val) : (blkB k l).length = 5 + (rowB (minV l)).length + (rowB (maxV l)).length + (encR k l).length + 4 := by unfold blkB; simp [preB_len, be_length]
theorem known_bd {k : Int} (h : knownB k = true) : 0 ≤ k ∧ k ≤ 4 := by unfold knownB at h; simpa using h
theorem blkB_cons (k : Int) (l : List Val) (q : List UInt8) : blkB k l ++ q = octet k :: octet l.length :: octet (nullsV l) :: (rowB (minV l) ++ rowB (maxV l) ++ octet (((encR k l).length / 256 : Nat) : Int) :: octet (((encR k l).length % 256 : Nat) : Int) :: (encR k l ++ be (crc (preB k l)) 4 ++ q)) := by
  unfold blkB
  generalize be (crc (preB k l)) 4 = c
  unfold preB hdB
  simp
/-- The head of what is written. -/
theorem hdR_blk (k : Int) (l : List Val) (h0 : 0 < l.length) (hi : ∀ x ∈ l, x.in64) (hr : refE k l = 0) (q : List UInt8) :
    hdR (blkB k l ++ q) = some (⟨k, l.length, minV l, maxV l, nullsV l, (blkB k l).length⟩, 5 + (rowB (minV l)).length + (rowB (maxV l)).length) := by
  obtain ⟨hk, h64, hall⟩ := refE_ok hr
  have hkb := known_bd hk
  have hel := encR_len k l
  have hnl := nulls_le l
  have ok : ((octet k).toNat : Int) = k := octet_toNat k hkb.1 (by omega)
  have om := octet_small l.length (by omega)
  have on := octet_small (nullsV l) (by omega)
  have ox := octet_small ((encR k l).length / 256) (by omega)
  have oy := octet_small ((encR k l).length % 256) (by omega)
  rw [blkB_cons, hdR_put (octet k) (octet l.length) (octet (nullsV l)) (minV l) (maxV l) _ _ _ (minV_right h0 hall) (maxV_right h0 hall) (hi _ (minV_mem h0)) (hi _ (maxV_mem h0)) (by omega) (by omega) (by omega) (by omega) (by rw [ox, oy]; simp [be_length]; omega)]
  rw [ok, om, on, ox, oy, blkB_len]
  congr 3
  omega
theorem tellB_iff {i : Inf} {l : List Val} : tellB i l = true ↔ i.many = (l.length : Int) ∧ i.mn = minV l ∧ i.mx = maxV l ∧ i.nulls = (nullsV l : Int) := by
  unfold tellB
  simp only [Bool.and_eq_true, beq_iff_eq, eqv_iff]
  constructor
  · rintro ⟨⟨⟨a, b⟩, c⟩, d⟩; exact ⟨a, b, c, d⟩
  · rintro ⟨a, b, c, d⟩; exact ⟨⟨⟨a, b⟩, c⟩, d⟩
theorem num_crc (xs : List UInt8) : num (be (crc xs) 4) = crc xs := by
  have := crc_lt xs
  rw [num_be]
  exact Nat.mod_eq_of_lt (by omega)
/-- What was written is read as it was, whatever stands behind. -/
theorem rdR_blk (k : Int) (l : List Val) (h0 : 0 < l.length) (hi : ∀ x ∈ l, x.in64) (hr : refE k l = 0) (q : List UInt8) : rdR (blkB k l ++ q) = (l, (blkB k l).length, 0) := by
  unfold rdR
  rw [hdR_blk k l h0 hi hr q]
  have hbl := blkB_len k l
  have hpl := preB_len k l
  have e1 : ((blkB k l).length : Int).toNat - 4 = (preB k l).length := by omega
  have e2 : (blkB k l ++ q).take (preB k l).length = preB k l := by unfold blkB; rw [List.append_assoc, List.take_left]
  have e3 : ((blkB k l ++ q).drop (preB k l).length).take 4 = be (crc (preB k l)) 4 := by
    unfold blkB
    rw [List.append_assoc, List.drop_left]
    have := List.take_left (l₁ := be (crc (preB k l)) 4) (l₂ := q)
    rwa [be_length] at this
  have e4 : (preB k l).drop (5 + (rowB (minV l)).length + (rowB (maxV l)).length) = encR k l := by
    unfold preB
    rw [← hdB_len k l (encR k l).length, List.drop_left]
  dsimp only
  rw [e1, e2, e3, e4, num_crc, if_neg (by simp), Int.toNat_natCast, decA_back k l hi hr, if_pos ⟨rfl, tellB_iff.2 ⟨rfl, rfl, rfl, rfl⟩⟩, Int.toNat_natCast]
/-- What is read is written as the same bytes. -/
theorem rdR_put {bs : List UInt8} {l : List Val} {n : Nat} (h : rdR bs = (l, n, 0)) : ∃ i s, hdR bs = some (i, s) ∧ refE i.kind l = 0 ∧ 0 < l.length ∧ blkB i.kind l = bs.take n ∧ n ≤ bs.length ∧ i.bytes = n ∧ 0 < n := by
  unfold rdR at h
  split at h
  · simp at h
  · rename_i i s hh
    split at h
    · simp at h
    · rename_i hc
      split at h
      · rename_i hd
        simp only [Prod.mk.injEq, and_true] at h
        obtain ⟨hl, hn⟩ := h
        obtain ⟨k, m, nn, v1, v2, x, y, rest, rfl, r1, r2, i1, i2, hk, hm, hm2, hnn, hi, hs, hle⟩ := hdR_some hh
        have hb : i.bytes.toNat = s + (x.toNat * 256 + y.toNat) + 4 := by rw [hi]; rfl
        rw [hb] at hc hd hl hn
        have e0 : s + (x.toNat * 256 + y.toNat) + 4 - 4 = s + (x.toNat * 256 + y.toNat) := by omega
        rw [e0] at hc hd hl
        obtain ⟨D, hD⟩ : ∃ D, D = ((k :: m :: nn :: (rowB v1 ++ rowB v2 ++ x :: y :: rest)).take (s + (x.toNat * 256 + y.toNat))).drop s := ⟨_, rfl⟩
        rw [← hD] at hd hl
        obtain ⟨hp1, hp2⟩ := decA_put _ _ _ hd.1
        rw [hl] at hp1 hp2 hd
        obtain ⟨t1, t2, t3, t4⟩ := tellB_iff.1 hd.2
        have ik : i.kind = (k.toNat : Int) := by rw [hi]
        have im : i.many = (m.toNat : Int) := by rw [hi]
        have inn : i.nulls = (nn.toNat : Int) := by rw [hi]
        have e1 : i.mn = v1 := by rw [hi]
        have e2 : i.mx = v2 := by rw [hi]
        have hlen : l.length = m.toNat := by omega
        have hnul : nullsV l = nn.toNat := by omega
        have hDl : D.length = x.toNat * 256 + y.toNat := by rw [hD, List.length_drop, List.length_take]; omega
        refine ⟨i, s, hh, hp1, by omega, ?_, by omega, by rw [hi, ← hn], by omega⟩
        have hx := x.toNat_lt
        have hy := y.toNat_lt
        have hpre : preB i.kind l = (k :: m :: nn :: (rowB v1 ++ rowB v2 ++ x :: y :: rest)).take (s + (x.toNat * 256 + y.toNat)) := by
          have hsp : (k :: m :: nn :: (rowB v1 ++ rowB v2 ++ x :: y :: rest)).take (s + (x.toNat * 256 + y.toNat)) = (k :: m :: nn :: (rowB v1 ++ rowB v2 ++ [x, y])) ++ D := by
            rw [← List.take_append_drop s ((k :: m :: nn :: (rowB v1 ++ rowB v2 ++ x :: y :: rest)).take (s + (x.toNat * 256 + y.toNat))), ← hD, List.take_take, Nat.min_eq_left (by omega)]
            congr 1
            have e : k :: m :: nn :: (rowB v1 ++ rowB v2 ++ x :: y :: rest) = (k :: m :: nn :: (rowB v1 ++ rowB v2 ++ [x, y])) ++ rest := by simp
            have el : (k :: m :: nn :: (rowB v1 ++ rowB v2 ++ [x, y])).length = s := by simp; omega
            rw [e, ← el, List.take_left]
          rw [hsp]
          unfold preB hdB
          rw [hp2, hDl, ← t2, ← t3, e1, e2, hlen, hnul, ik, show (x.toNat * 256 + y.toNat) / 256 = x.toNat by omega, show (x.toNat * 256 + y.toNat) % 256 = y.toNat by omega]
          have on : ∀ x : UInt8, octet ((x.toNat : Nat) : Int) = x := fun x => by simp [octet]
          simp only [on]
          simp
        unfold blkB
        rw [hpre]
        have hcc := Decidable.not_not.1 hc
        have h4 : (((k :: m :: nn :: (rowB v1 ++ rowB v2 ++ x :: y :: rest)).drop (s + (x.toNat * 256 + y.toNat))).take 4).length = 4 := by rw [List.length_take, List.length_drop]; omega
        have hbn := be_num (((k :: m :: nn :: (rowB v1 ++ rowB v2 ++ x :: y :: rest)).drop (s + (x.toNat * 256 + y.toNat))).take 4)
        rw [h4, hcc] at hbn
        rw [hbn, ← hn, ← List.take_add]
      · simp at h
theorem rdR_bad {bs : List UInt8} (h : (rdR bs).2.2 ≠ 0) : (rdR bs).1 = [] ∧ (rdR bs).2.1 = 0 := by
  unfold rdR at h ⊢
  split
  · exact ⟨rfl, rfl⟩
  · rename_i i s hh
    rw [hh] at h
    dsimp only at h
    split
    · exact ⟨rfl, rfl⟩
    · rename_i h1
      rw [if_neg h1] at h
      split
      · rename_i h2
        rw [if_pos h2] at h
        exact absurd rfl h
      · exact ⟨rfl, rfl⟩
/-- A block that is cut is none. -/
theorem hdR_cut (k : Int) (l : List Val) (h0 : 0 < l.length) (hi : ∀ x ∈ l, x.in64) (hr : refE k l = 0) (cut : Nat) (hc : cut < (blkB k l).length) : hdR ((blkB k l).take cut) = none := by
  cases h : hdR ((blkB k l).take cut) with
  | none => rfl
  | some r =>
    obtain ⟨i, s⟩ := r
    have h1 := hdR_mono h ((blkB k l).drop cut)
    rw [List.take_append_drop] at h1
    have h2 := hdR_blk k l h0 hi hr []
    rw [List.append_nil] at h2
    rw [h2] at h1
    injection h1 with h1
    injection h1 with h1 h3
    obtain ⟨_, _, _, _, _, x, y, _, hb, _, _, _, _, _, _, _, _, hi, _, hl⟩ := hdR_some h
    rw [← h1] at hi
    have := congrArg Inf.bytes hi
    dsimp only at this
    rw [List.length_take] at hl
    omega
theorem rdR_none {bs : List UInt8} (h : hdR bs = none) : rdR bs = ([], 0, 70) := by unfold rdR; rw [h]
end Go.Proofs.YtohbdbecioanaaaGreatDoor
end

section
namespace Go.Proofs.YtohbdbecioanaaaGreatDoor
open Go.RowKit Go.Hay
set_option linter.unusedVariables false

set_option maxHeartbeats 400000 in
theorem wWord (p : Nat) (v : Value) (bs : List UInt8) (n : Int) (w : World) (h : Wr w p v bs) (hb : bs.length + 8 ≤ 200000000000000) (h0 : 0 ≤ n) (h1 : n < 4294967296) :
    Calls Tryz.prog 21 #[.pointer (some ⟨p, 0, none⟩), .int .u32 n] w fun e w' => e = .returned (.tuple #[]) ∧ ∃ v', Wr w' p v' (bs ++ be n.toNat 4) ∧ Wrote p v w v' w' := by
  go_enter Tryz.func21, Tryz.ntmps21
  go_wp2_with fail
  refine (wNumber p v bs n 4 _ h (by omega) h0 (by omega) (by omega)).mono ?_
  rintro e w2 ⟨rfl, v2, hw2, hwr2⟩
  go_wp2_with fail
  go_end0
  exact ⟨rfl, v2, hw2, hwr2⟩
end Go.Proofs.YtohbdbecioanaaaGreatDoor
end

section
namespace Go.Proofs.YtohbdbecioanaaaGreatDoor
open Go.RowKit Go.Hay
set_option linter.unusedVariables false
set_option linter.unusedSimpArgs false

/-- Bytes of the call's own, or an error. -/
def BsP (r : List UInt8 × Int) (w : World) (e : Ending) (w' : World) : Prop := ∃ b c, e = .returned (.tuple #[.slice b r.1.length c, .int .i64 r.2]) ∧ Row w' (.slice b r.1.length c) r.1 ∧ Kp [] w w' ∧ ∀ k ∈ blk b, w.heap.size ≤ k
set_option maxHeartbeats 16000000 in
set_option maxRecDepth 100000 in
theorem cWriteK (k : Int) (hk1 : k ≠ -1) (a : Option Addr) (ca : Nat) (l : List Val) (w : World) (ht0 : Tab w) (ha : Vals w a l) (hc : l.length ≤ ca) (hm : ca ≤ maxLen) (h0 : 0 < l.length) :
    Calls Tryz.prog 8 #[.int .i64 (k), .slice a l.length ca] w (BsP (wrB (k) l) w) := by
  have ht := hid ht0
  have hla := hid (fun W (kp : Kp [] w W) => ha.kept kp)
  have hlE := hid (fun W (kp : Kp [] w W) => cEncE (k) a ca l W (ha.kept kp) hc hm)
  have hfacts : Hid (refE (k) l = 0 → (0 ≤ (k) ∧ (k) ≤ 4) ∧ l.length ≤ 64 ∧ allR l = true) := fun h => by obtain ⟨h1, h2, h3⟩ := refE_ok h; exact ⟨known_bd h1, h2, h3⟩
  have hkw : kindW (k) l = k := by unfold kindW; rw [if_neg hk1]
  have hyes : Hid (refE (k) l = 0 → wrB (k) l = (blkB (k) l, 0)) := fun h => by unfold wrB; rw [if_neg (by omega), hkw, if_pos h]
  have hno : Hid (refE (k) l ≠ 0 → wrB (k) l = ([], refE (k) l)) := fun h => by unfold wrB; rw [if_neg (by omega), hkw, if_neg h]
  have hel := encR_len (k) l
  have hml : l.length ≤ 9223372036854775807 := by unfold maxLen at hm; omega
  have h64 : Hid (refE (k) l = 0 → l.length ≤ 64) := fun h => (refE_ok h).2.1
  have hlen0 : ((l.length : Int) == 0) = false := beq_eq_false_iff_ne.2 (by omega)
  unfold EncP at hlE
  obtain ⟨E, hE⟩ : ∃ E, Hid (refE (k) l = E) := ⟨_, rfl⟩
  obtain ⟨R, hRR⟩ : ∃ R, Hid (encR (k) l = R) := ⟨_, rfl⟩
  simp only [hE.out, hRR.out] at hlE
  simp only [hE.out] at hfacts hyes hno h64
  rw [hRR.out] at hel
  unfold BsP
  clear ht0 ha hkw
  have cE := hlE.out w (Kp.refl _ _)
  have hkn : (k == -1) = false := by simpa using hk1
  clear hlE hE hk1
  go_enter Tryz.func8, Tryz.ntmps8
  go_wp2_with fail
  refine cE.mono ?_
  rintro e w1 ⟨b1, c1, rfl, hrow1, k1, hn1⟩
  have kw1 := (Kp.refl [] w).trans k1 (by simp)
  by_cases hE0 : E = 0
  · subst hE0
    obtain ⟨hs1, hc1, hm1⟩ := rowSee hrow1
    have hok := hfacts.out rfl
    have hwr : Hid (wrB k l = (blkB k l, 0)) := hyes.out rfl
    have H1 := hid (And.intro hs1 (And.intro kw1 (And.intro hrow1 hn1)))
    clear hs1 hrow1 hn1 k1 cE
    go_wp2_with fail
    refine (wNew w1).mono ?_
    rintro e w2 ⟨p, rfl, hpe, hW2, k2⟩
    have hp2 : w1.heap.size ≤ p := by omega
    have ho2 : ∀ k ∈ own (.slice none 0 0), w1.heap.size ≤ k := by simp [own, Value.ownBlock]
    clear hpe
    have kw2 := H1.out.2.1.trans k2 (by simp)
    have cH := cHeadOf k a ca l w2 (hla.out w2 kw2) h0 (by omega)
    have H2 := hid (And.intro hW2 (And.intro kw2 (And.intro hp2 ho2)))
    have s2 := hid (H1.out.1.kept k2 (by simp))
    clear hW2 k2 kw2
    go_wp2_with fail
    refine cH.mono ?_
    rintro e w3 ⟨rfl, k3⟩
    have kw3 := H2.out.2.1.trans k3 (by simp)
    have hW3 := H2.out.1.keptNew k3
    have cP := bPutHead p (.slice none 0 0) [] ⟨k, l.length, minV l, maxV l, nullsV l, 0⟩ R.length w3 hW3 (by simp) (minV_right h0 hok.2.2) (maxV_right h0 hok.2.2) hok.1.1 (by have := hok.1.2; dsimp only; omega) (by dsimp only; omega) (by have := hok.2.1; dsimp only; omega) (by dsimp only; omega) (by have := nulls_le l; have := hok.2.1; dsimp only; omega) (by omega)
    dsimp only at cP
    have s3 := hid (s2.out.kept k3 (by simp))
    clear cH k3 hW3
    go_wp2_with fail
    refine cP.mono ?_
    rintro e w4 ⟨rfl, v4, hW4, hr4⟩
    rw [List.nil_append] at hW4
    have hp1 : w1.heap.size ≤ p := H2.out.2.2.1
    have kk4 := stepW kw3 (Nat.le_trans H1.out.2.1.size hp1) (fun k hk => Nat.le_trans H1.out.2.1.size (H2.out.2.2.2 k hk)) hr4
    have s4 : Sees w4 b1 R := s3.out.kept' hr4.kp (fun hne k hk hm => by
      have hb1 := H1.out.1.lt hne k hk
      rcases List.mem_cons.1 hm with e | e
      · omega
      · have := H2.out.2.2.2 k e; omega)
    have hap : R ≠ [] → ∀ k ∈ blk b1, k ∉ p :: own v4 := fun hne k hk hm => by
      have hb1 := H1.out.1.lt hne k hk
      rcases List.mem_cons.1 hm with e | e
      · omega
      · rcases hr4.new k e with h5 | h5
        · have := H2.out.2.2.2 k h5; omega
        · have := kw3.size; have := H2.out.2.1.size; have := (H1.out.2.1).size; have h9 := s3.out.lt hne k hk; omega
    have hW4h : Hid (([octet k, octet (l.length : Int), octet (nullsV l : Int)] ++ rowB (minV l) ++ rowB (maxV l) ++ [octet ((R.length / 256 : Nat) : Int), octet ((R.length % 256 : Nat) : Int)]) = hdB k l R.length) := rfl
    rw [hW4h.out] at hW4
    obtain ⟨HB, hHB⟩ : ∃ HB, Hid (hdB k l R.length = HB) := ⟨_, rfl⟩
    have hHl : HB.length ≤ 200 := by rw [← hHB.out, hdB_len]; have := rowB_length (minV_right h0 hok.2.2); have := rowB_length (maxV_right h0 hok.2.2); omega
    rw [hHB.out] at hW4
    have cR := wRaw p v4 HB b1 R.length c1 R w4 hW4 s4 rfl (by omega)
    have H4 := hid kk4
    clear cP kw3 s3 hr4 s4 hW4 kk4 hap
    go_wp2_with fail
    refine cR.mono ?_
    rintro e w5 ⟨rfl, v5, hW5, hr5⟩
    have kk5 := stepW H4.out.1 (Nat.le_trans H1.out.2.1.size hp1) H4.out.2 hr5
    obtain ⟨PB, hPB⟩ : ∃ PB, Hid (HB ++ R = PB) := ⟨_, rfl⟩
    have hPl : PB.length ≤ 20000 := by rw [← hPB.out, List.length_append]; omega
    rw [hPB.out] at hW5
    have cB := wBytes p v5 PB w5 hW5 (by omega)
    have H5 := hid (And.intro hW5 kk5)
    clear cR hW5 kk5 hr5
    go_wp2_with fail
    refine cB.mono ?_
    rintro e w6 ⟨v6, rfl, hR6, k6, hn6⟩
    obtain ⟨a6, c6, rfl, hs6, _⟩ := hR6.sees
    have kk6 := H5.out.2.1.trans k6 (by simp)
    have cS := cSum a6 PB.length c6 PB w6 (ht.out.kept kk6 (by simp)) hs6 rfl (by omega)
    have hcr := crc_lt PB
    obtain ⟨CR, hCR⟩ : ∃ c : Nat, Hid (crc PB = c) := ⟨_, rfl⟩
    rw [hCR.out] at cS hcr
    have H6 := hid (And.intro (H5.out.1.keptNew k6) kk6)
    clear cB hR6 hs6 kk6 hn6
    go_wp2_with fail
    refine cS.mono ?_
    rintro e w7 ⟨rfl, hw7⟩
    subst hw7
    have cW := wWord p v5 PB CR w7 H6.out.1 (by omega) (by omega) (by omega)
    clear cS
    go_wp2_with fail
    refine cW.mono ?_
    rintro e w8 ⟨rfl, v8, hW8, hr8⟩
    have kk8 := stepW H6.out.2 (Nat.le_trans H1.out.2.1.size hp1) H5.out.2.2 hr8
    rw [Int.toNat_natCast] at hW8
    obtain ⟨WB, hWB⟩ : ∃ WB, Hid (PB ++ be CR 4 = WB) := ⟨_, rfl⟩
    have hWl : WB.length ≤ 20004 := by rw [← hWB.out, List.length_append, be_length]; omega
    rw [hWB.out] at hW8
    have cB2 := wBytes p v8 WB w8 hW8 (by omega)
    have H8 := hid kk8
    clear cW hr8 hW8 kk8
    go_wp2_with fail
    refine cB2.mono ?_
    rintro e w9 ⟨v9, rfl, hR9, k9, hn9⟩
    obtain ⟨a9, c9, rfl, hs9, ho9⟩ := hR9.sees
    have kk9 := H8.out.1.trans k9 (by simp)
    have hn9' : ∀ k ∈ blk a9, w.heap.size ≤ k := fun k hk => Nat.le_trans H8.out.1.size (hn9 k (by rw [ho9]; exact hk))
    have hfin : Hid (blkB k l = WB) := by
      show _ = _
      unfold blkB preB
      rw [hRR.out, hHB.out, hPB.out, hCR.out, hWB.out]
    have H9 := hid (And.intro hR9 (And.intro kk9 hn9'))
    clear cB2 hR9 hs9 kk9 hn9 hn9' k9 ho9
    go_wp2_with fail
    go_ret2
    rw [hwr.out, hfin.out]
    exact ⟨a9, c9, rfl, H9.out.1, H9.out.2.1, H9.out.2.2⟩
  · have hwr : Hid (wrB k l = ([], E)) := hno.out hE0
    have d1 : (E != 0) = true := by simpa using hE0
    clear cE hrow1 hn1 k1
    go_wp2_with fail
    go_ret2
    rw [hwr.out]
    exact ⟨none, 0, rfl, .inl ⟨rfl, rfl⟩, kw1, by simp [blk]⟩
set_option maxHeartbeats 16000000 in
set_option maxRecDepth 100000 in
theorem cWriteN (a : Option Addr) (ca : Nat) (l : List Val) (w : World) (ht0 : Tab w) (ha : Vals w a l) (hc : l.length ≤ ca) (hm : ca ≤ maxLen) (h0 : 0 < l.length) :
    Calls Tryz.prog 8 #[.int .i64 (-1), .slice a l.length ca] w (BsP (wrB (-1) l) w) := by
  have ht := hid ht0
  have hla := hid (fun W (kp : Kp [] w W) => ha.kept kp)
  have hlE := hid (fun W (kp : Kp [] w W) => cEncE (bestV l) a ca l W (ha.kept kp) hc hm)
  have hfacts : Hid (refE (bestV l) l = 0 → (0 ≤ (bestV l) ∧ (bestV l) ≤ 4) ∧ l.length ≤ 64 ∧ allR l = true) := fun h => by obtain ⟨h1, h2, h3⟩ := refE_ok h; exact ⟨known_bd h1, h2, h3⟩
  have hkw : kindW (-1) l = bestV l := by unfold kindW; rw [if_pos rfl]
  have hyes : Hid (refE (bestV l) l = 0 → wrB (-1) l = (blkB (bestV l) l, 0)) := fun h => by unfold wrB; rw [if_neg (by omega), hkw, if_pos h]
  have hno : Hid (refE (bestV l) l ≠ 0 → wrB (-1) l = ([], refE (bestV l) l)) := fun h => by unfold wrB; rw [if_neg (by omega), hkw, if_neg h]
  have hel := encR_len (bestV l) l
  have hml : l.length ≤ 9223372036854775807 := by unfold maxLen at hm; omega
  have h64 : Hid (refE (bestV l) l = 0 → l.length ≤ 64) := fun h => (refE_ok h).2.1
  have hlen0 : ((l.length : Int) == 0) = false := beq_eq_false_iff_ne.2 (by omega)
  unfold EncP at hlE
  obtain ⟨E, hE⟩ : ∃ E, Hid (refE (bestV l) l = E) := ⟨_, rfl⟩
  obtain ⟨R, hRR⟩ : ∃ R, Hid (encR (bestV l) l = R) := ⟨_, rfl⟩
  simp only [hE.out, hRR.out] at hlE
  simp only [hE.out] at hfacts hyes hno h64
  rw [hRR.out] at hel
  unfold BsP
  clear ht0 ha hkw
  have cBe := cBest a ca l w (hla.out w (Kp.refl _ _)) hc hm
  obtain ⟨kb, hkb⟩ : ∃ kb, Hid (bestV l = kb) := ⟨_, rfl⟩
  rw [hkb.out] at cBe
  simp only [hkb.out] at hlE hfacts hyes hno hE hRR h64
  clear hE
  go_enter Tryz.func8, Tryz.ntmps8
  go_wp2_with fail
  refine cBe.mono ?_
  rintro e w0 ⟨rfl, kb0⟩
  have cE := hlE.out w0 kb0
  clear cBe hlE
  go_wp2_with fail
  refine cE.mono ?_
  rintro e w1 ⟨b1, c1, rfl, hrow1, k1, hn1⟩
  have kw1 := kb0.trans k1 (by simp)
  by_cases hE0 : E = 0
  · subst hE0
    obtain ⟨hs1, hc1, hm1⟩ := rowSee hrow1
    have hok := hfacts.out rfl
    have hwr : Hid (wrB (-1) l = (blkB kb l, 0)) := hyes.out rfl
    have H1 := hid (And.intro hs1 (And.intro kw1 (And.intro hrow1 hn1)))
    clear hs1 hrow1 hn1 k1 cE
    go_wp2_with fail
    refine (wNew w1).mono ?_
    rintro e w2 ⟨p, rfl, hpe, hW2, k2⟩
    have hp2 : w1.heap.size ≤ p := by omega
    have ho2 : ∀ k ∈ own (.slice none 0 0), w1.heap.size ≤ k := by simp [own, Value.ownBlock]
    clear hpe
    have kw2 := H1.out.2.1.trans k2 (by simp)
    have cH := cHeadOf kb a ca l w2 (hla.out w2 kw2) h0 (by omega)
    have H2 := hid (And.intro hW2 (And.intro kw2 (And.intro hp2 ho2)))
    have s2 := hid (H1.out.1.kept k2 (by simp))
    clear hW2 k2 kw2
    go_wp2_with fail
    refine cH.mono ?_
    rintro e w3 ⟨rfl, k3⟩
    have kw3 := H2.out.2.1.trans k3 (by simp)
    have hW3 := H2.out.1.keptNew k3
    have cP := bPutHead p (.slice none 0 0) [] ⟨kb, l.length, minV l, maxV l, nullsV l, 0⟩ R.length w3 hW3 (by simp) (minV_right h0 hok.2.2) (maxV_right h0 hok.2.2) hok.1.1 (by have := hok.1.2; dsimp only; omega) (by dsimp only; omega) (by have := hok.2.1; dsimp only; omega) (by dsimp only; omega) (by have := nulls_le l; have := hok.2.1; dsimp only; omega) (by omega)
    dsimp only at cP
    have s3 := hid (s2.out.kept k3 (by simp))
    clear cH k3 hW3
    go_wp2_with fail
    refine cP.mono ?_
    rintro e w4 ⟨rfl, v4, hW4, hr4⟩
    rw [List.nil_append] at hW4
    have hp1 : w1.heap.size ≤ p := H2.out.2.2.1
    have kk4 := stepW kw3 (Nat.le_trans H1.out.2.1.size hp1) (fun k hk => Nat.le_trans H1.out.2.1.size (H2.out.2.2.2 k hk)) hr4
    have s4 : Sees w4 b1 R := s3.out.kept' hr4.kp (fun hne k hk hm => by
      have hb1 := H1.out.1.lt hne k hk
      rcases List.mem_cons.1 hm with e | e
      · omega
      · have := H2.out.2.2.2 k e; omega)
    have hap : R ≠ [] → ∀ k ∈ blk b1, k ∉ p :: own v4 := fun hne k hk hm => by
      have hb1 := H1.out.1.lt hne k hk
      rcases List.mem_cons.1 hm with e | e
      · omega
      · rcases hr4.new k e with h5 | h5
        · have := H2.out.2.2.2 k h5; omega
        · have := kw3.size; have := H2.out.2.1.size; have := (H1.out.2.1).size; have h9 := s3.out.lt hne k hk; omega
    have hW4h : Hid (([octet kb, octet (l.length : Int), octet (nullsV l : Int)] ++ rowB (minV l) ++ rowB (maxV l) ++ [octet ((R.length / 256 : Nat) : Int), octet ((R.length % 256 : Nat) : Int)]) = hdB kb l R.length) := rfl
    rw [hW4h.out] at hW4
    obtain ⟨HB, hHB⟩ : ∃ HB, Hid (hdB kb l R.length = HB) := ⟨_, rfl⟩
    have hHl : HB.length ≤ 200 := by rw [← hHB.out, hdB_len]; have := rowB_length (minV_right h0 hok.2.2); have := rowB_length (maxV_right h0 hok.2.2); omega
    rw [hHB.out] at hW4
    have cR := wRaw p v4 HB b1 R.length c1 R w4 hW4 s4 rfl (by omega)
    have H4 := hid kk4
    clear cP kw3 s3 hr4 s4 hW4 kk4 hap
    go_wp2_with fail
    refine cR.mono ?_
    rintro e w5 ⟨rfl, v5, hW5, hr5⟩
    have kk5 := stepW H4.out.1 (Nat.le_trans H1.out.2.1.size hp1) H4.out.2 hr5
    obtain ⟨PB, hPB⟩ : ∃ PB, Hid (HB ++ R = PB) := ⟨_, rfl⟩
    have hPl : PB.length ≤ 20000 := by rw [← hPB.out, List.length_append]; omega
    rw [hPB.out] at hW5
    have cB := wBytes p v5 PB w5 hW5 (by omega)
    have H5 := hid (And.intro hW5 kk5)
    clear cR hW5 kk5 hr5
    go_wp2_with fail
    refine cB.mono ?_
    rintro e w6 ⟨v6, rfl, hR6, k6, hn6⟩
    obtain ⟨a6, c6, rfl, hs6, _⟩ := hR6.sees
    have kk6 := H5.out.2.1.trans k6 (by simp)
    have cS := cSum a6 PB.length c6 PB w6 (ht.out.kept kk6 (by simp)) hs6 rfl (by omega)
    have hcr := crc_lt PB
    obtain ⟨CR, hCR⟩ : ∃ c : Nat, Hid (crc PB = c) := ⟨_, rfl⟩
    rw [hCR.out] at cS hcr
    have H6 := hid (And.intro (H5.out.1.keptNew k6) kk6)
    clear cB hR6 hs6 kk6 hn6
    go_wp2_with fail
    refine cS.mono ?_
    rintro e w7 ⟨rfl, hw7⟩
    subst hw7
    have cW := wWord p v5 PB CR w7 H6.out.1 (by omega) (by omega) (by omega)
    clear cS
    go_wp2_with fail
    refine cW.mono ?_
    rintro e w8 ⟨rfl, v8, hW8, hr8⟩
    have kk8 := stepW H6.out.2 (Nat.le_trans H1.out.2.1.size hp1) H5.out.2.2 hr8
    rw [Int.toNat_natCast] at hW8
    obtain ⟨WB, hWB⟩ : ∃ WB, Hid (PB ++ be CR 4 = WB) := ⟨_, rfl⟩
    have hWl : WB.length ≤ 20004 := by rw [← hWB.out, List.length_append, be_length]; omega
    rw [hWB.out] at hW8
    have cB2 := wBytes p v8 WB w8 hW8 (by omega)
    have H8 := hid kk8
    clear cW hr8 hW8 kk8
    go_wp2_with fail
    refine cB2.mono ?_
    rintro e w9 ⟨v9, rfl, hR9, k9, hn9⟩
    obtain ⟨a9, c9, rfl, hs9, ho9⟩ := hR9.sees
    have kk9 := H8.out.1.trans k9 (by simp)
    have hn9' : ∀ k ∈ blk a9, w.heap.size ≤ k := fun k hk => Nat.le_trans H8.out.1.size (hn9 k (by rw [ho9]; exact hk))
    have hfin : Hid (blkB kb l = WB) := by
      show _ = _
      unfold blkB preB
      rw [hRR.out, hHB.out, hPB.out, hCR.out, hWB.out]
    have H9 := hid (And.intro hR9 (And.intro kk9 hn9'))
    clear cB2 hR9 hs9 kk9 hn9 hn9' k9 ho9
    go_wp2_with fail
    go_ret2
    rw [hwr.out, hfin.out]
    exact ⟨a9, c9, rfl, H9.out.1, H9.out.2.1, H9.out.2.2⟩
  · have hwr : Hid (wrB (-1) l = ([], E)) := hno.out hE0
    have d1 : (E != 0) = true := by simpa using hE0
    clear cE hrow1 hn1 k1
    go_wp2_with fail
    go_ret2
    rw [hwr.out]
    exact ⟨none, 0, rfl, .inl ⟨rfl, rfl⟩, kw1, by simp [blk]⟩
theorem cWriteB (k : Int) (a : Option Addr) (ca : Nat) (l : List Val) (w : World) (ht : Tab w) (ha : Vals w a l) (hc : l.length ≤ ca) (hm : ca ≤ maxLen) :
    Calls Tryz.prog 8 #[.int .i64 k, .slice a l.length ca] w (BsP (wrB k l) w) := by
  rcases Nat.eq_zero_or_pos l.length with h0 | h0
  · have hwr : Hid (wrB k l = ([], 70)) := by show _ = _; unfold wrB; rw [if_pos h0]
    rw [h0, hwr.out]
    unfold BsP
    clear ha hc
    go_enter Tryz.func8, Tryz.ntmps8
    go_wp2_with fail
    go_ret2
    exact ⟨none, 0, rfl, .inl ⟨rfl, rfl⟩, Kp.refl _ _, by simp [blk]⟩
  · by_cases hk : k = -1
    · subst hk
      exact cWriteN a ca l w ht ha hc hm h0
    · exact cWriteK k hk a ca l w ht ha hc hm h0
end Go.Proofs.YtohbdbecioanaaaGreatDoor
end

section
namespace Go.Proofs.YtohbdbecioanaaaGreatDoor
open Go.RowKit Go.Hay
set_option linter.unusedVariables false
set_option linter.unusedSimpArgs false

def tvS1 (f : Nat) (bs : List UInt8) (e : Int) : Val × List UInt8 × Int :=
  if f = 0 then (nilV, bs, e)
  else if f = 1 then (⟨1, (varS 1 bs e).1 == 1, 0, ⟨#[]⟩⟩, (varS 1 bs e).2)
  else if f = 2 then (⟨2, false, wrap64 (num (takeS 8 bs e).1), ⟨#[]⟩⟩, (takeS 8 bs e).2)
  else if f = 3 then (⟨3, false, 0, ⟨(textS 64 bs e).1.toArray⟩⟩, (textS 64 bs e).2)
  else (nilV, bs, if e = 0 then 70 else e)
/-- A reader that reads a value. -/
def tvS (bs : List UInt8) (e : Int) : Val × List UInt8 × Int := tvS1 (num (takeS 1 bs e).1) (takeS 1 bs e).2.1 (takeS 1 bs e).2.2

theorem take_bad (n : Nat) (bs : List UInt8) (e : Int) (h : e ≠ 0) : takeS n bs e = ([], bs, e) := by unfold takeS; rw [if_pos h]
theorem take_one (x : UInt8) (bs : List UInt8) : takeS 1 (x :: bs) 0 = ([x], bs, 0) := by unfold takeS; simp
theorem num_one (x : UInt8) : num [x] = x.toNat := by simp [num]
theorem take1_ok {bs o bs' : List UInt8} {e e' : Int} (h : takeS 1 bs e = (o, bs', e')) (h' : e' = 0) : e = 0 ∧ ∃ x, bs = x :: bs' ∧ o = [x] := by
  by_cases he : e = 0
  · subst he
    cases bs with
    | nil => simp [takeS] at h; omega
    | cons x r => rw [take_one] at h; injection h with h1 h2; injection h2 with h2 h3; exact ⟨rfl, x, by rw [h2], h1.symm⟩
  · rw [take_bad 1 bs e he] at h
    injection h with h1 h2; injection h2 with h2 h3
    omega
theorem tvS_bad (bs : List UInt8) (e : Int) (h : e ≠ 0) : (tvS bs e).2.2 ≠ 0 := by
  unfold tvS
  rw [take_bad 1 bs e h]
  show (tvS1 0 bs e).2.2 ≠ 0
  unfold tvS1
  rw [if_pos rfl]
  exact h
theorem tvS_cons (f : UInt8) (r : List UInt8) : tvS (f :: r) 0 = tvS1 f.toNat r 0 := by unfold tvS; rw [take_one, num_one]
theorem fv_low (y : UInt8) (s : List UInt8) (hb : behindI (y.toNat : Int) = 0) : fv (y :: s) = ((y.toNat : Int), 1, 0) := by simp [fv, hb]
theorem fv_high (y : UInt8) (s : List UInt8) (hb : behindI (y.toNat : Int) ≠ 0) : (fv (y :: s)).2.2 ≠ 0 ∨ 253 ≤ (fv (y :: s)).1 := by
  have hl : 253 ≤ (y.toNat : Int) := by unfold behindI at hb; split at hb <;> omega
  simp only [fv, if_neg hb]
  split
  · left; simp
  · split
    · left; simp
    · rename_i h1 h2
      right
      have h2' := Decidable.not_not.1 h2
      show 253 ≤ (num (s.take (behindI (y.toNat : Int)).toNat) : Int)
      unfold leadI at h2'
      split at h2' <;> omega
theorem behind_low {y : Nat} (h : y ≤ 252) : behindI (y : Int) = 0 := by unfold behindI; rw [if_neg (by omega), if_neg (by omega), if_neg (by omega)]
theorem var_ok (M : Int) (hM : M ≤ 252) (y : UInt8) (s : List UInt8) (h : (y.toNat : Int) ≤ M) : varS M (y :: s) 0 = ((y.toNat : Int), s, 0) := by
  have e := fv_low y s (behind_low (by omega))
  unfold varS
  rw [e, if_neg (by simp), if_neg (by simp), if_neg (by dsimp only; omega)]
  simp
theorem var_bad (M : Int) (hM : M ≤ 252) (r : List UInt8) (h : ∀ y s, r = y :: s → M < (y.toNat : Int)) : (varS M r 0).2.2 ≠ 0 := by
  cases r with
  | nil => unfold varS fv; simp
  | cons y s =>
    have hy := h y s rfl
    unfold varS
    rw [if_neg (by simp)]
    by_cases hz : (fv (y :: s)).2.2 = 0
    · have hM2 : M < (fv (y :: s)).1 := by
        by_cases hb : behindI (y.toNat : Int) = 0
        · rw [fv_low y s hb]; exact hy
        · rcases fv_high y s hb with h1 | h1
          · exact absurd hz h1
          · omega
      rw [if_neg (by simpa using hz), if_pos hM2]
      simp
    · rw [if_pos hz]
      exact hz
theorem var1_bad (r : List UInt8) (h : ∀ y s, r = y :: s → 1 < y.toNat) : (varS 1 r 0).2.2 ≠ 0 := var_bad 1 (by omega) r fun y s e => by have := h y s e; omega
theorem var1_ok (y : UInt8) (s : List UInt8) (h : y.toNat ≤ 1) : varS 1 (y :: s) 0 = ((y.toNat : Int), s, 0) := var_ok 1 (by omega) y s (by omega)
theorem var64_ok (y : UInt8) (s : List UInt8) (h : y.toNat ≤ 64) : varS 64 (y :: s) 0 = ((y.toNat : Int), s, 0) := var_ok 64 (by omega) y s (by omega)
theorem var64_bad (r : List UInt8) (h : ∀ y s, r = y :: s → 64 < y.toNat) : (varS 64 r 0).2.2 ≠ 0 := var_bad 64 (by omega) r fun y s e => by have := h y s e; omega
theorem raw_bad (n : Int) (bs : List UInt8) (e : Int) (h : e ≠ 0) : (rawS n bs e).2.2 ≠ 0 := by
  unfold rawS
  by_cases hn : n < 0
  · rw [if_pos hn, if_neg h]; exact h
  · rw [if_neg hn, take_bad _ _ _ h]; exact h
theorem text_bad (r : List UInt8) (h : ∀ y s, r = y :: s → ¬ (y.toNat ≤ 64 ∧ y.toNat ≤ s.length)) : (textS 64 r 0).2.2 ≠ 0 := by
  have hc : countS 64 r 0 = varS 64 r 0 := by unfold countS; rw [if_pos (by omega)]
  unfold textS
  rw [hc]
  by_cases hv : (varS 64 r 0).2.2 = 0
  · obtain ⟨y, s, rfl, hy⟩ : ∃ y s, r = y :: s ∧ y.toNat ≤ 64 := Classical.byContradiction fun hn => var64_bad r (fun y s e => Classical.byContradiction fun h1 => hn ⟨y, s, e, by omega⟩) hv
    have hs := h y s rfl
    rw [var64_ok y s hy]
    have e1 : rawS (y.toNat : Int) s 0 = ([], s, 10) := by
      unfold rawS takeS
      rw [if_neg (by omega), if_neg (by simp), if_pos (by rw [Int.toNat_natCast]; omega)]
    dsimp only
    rw [e1, if_pos (by simp)]
    simp
  · have := raw_bad (varS 64 r 0).1 (varS 64 r 0).2.1 _ hv
    rw [if_pos this]
    exact this
theorem text_ok (y : UInt8) (s : List UInt8) (h : y.toNat ≤ 64) (hs : y.toNat ≤ s.length) : textS 64 (y :: s) 0 = (s.take y.toNat, s.drop y.toNat, 0) := by
  have hc : countS 64 (y :: s) 0 = varS 64 (y :: s) 0 := by unfold countS; rw [if_pos (by omega)]
  unfold textS
  rw [hc, var64_ok y s h]
  have e1 : rawS (y.toNat : Int) s 0 = (s.take y.toNat, s.drop y.toNat, 0) := by
    unfold rawS takeS
    rw [if_neg (by omega), if_neg (by simp), if_neg (by rw [Int.toNat_natCast]; omega), Int.toNat_natCast]
  dsimp only
  rw [e1, if_neg (by simp)]
theorem tvS_no (bs : List UInt8) (h : (rowF bs).2 = 0) : (tvS bs 0).2.2 ≠ 0 := by
  cases bs with
  | nil => unfold tvS takeS; simp [tvS1, num]
  | cons f r =>
    rw [tvS_cons]
    unfold tvS1
    by_cases h0 : f.toNat = 0
    · simp [rowF, fixF, h0] at h
    rw [if_neg h0]
    by_cases h1 : f.toNat = 1
    · rw [if_pos h1]
      refine var1_bad r fun y s e => ?_
      subst e
      by_cases hy : y.toNat ≤ 1
      · simp [rowF, fixF, h1, hy] at h
      · omega
    rw [if_neg h1]
    by_cases h2 : f.toNat = 2
    · rw [if_pos h2]
      by_cases h8 : 8 ≤ r.length
      · simp [rowF, fixF, h2, h8] at h
      · have : takeS 8 r 0 = ([], r, 10) := by unfold takeS; rw [if_neg (by simp), if_pos (by omega)]
        rw [this]; simp
    rw [if_neg h2]
    by_cases h3 : f.toNat = 3
    · rw [if_pos h3]
      refine text_bad r fun y s e hc => ?_
      subst e
      simp [rowF, h3, hc] at h
    · rw [if_neg h3]; simp
theorem tvS_ok (bs : List UInt8) (h : (rowF bs).2 ≠ 0) : tvS bs 0 = ((rowF bs).1, bs.drop (rowF bs).2, 0) := by
  cases bs with
  | nil => simp [rowF] at h
  | cons f r =>
    rw [tvS_cons]
    unfold tvS1
    by_cases h0 : f.toNat = 0
    · simp [rowF, fixF, h0]
    rw [if_neg h0]
    by_cases h1 : f.toNat = 1
    · rw [if_pos h1]
      cases r with
      | nil => simp [rowF, fixF, h1] at h
      | cons y s =>
        by_cases hy : y.toNat ≤ 1
        · rw [var1_ok y s hy]
          have : ((y.toNat : Int) == 1) = (y.toNat == 1) := by rcases (by omega : y.toNat = 0 ∨ y.toNat = 1) with e | e <;> rw [e] <;> rfl
          simp [rowF, fixF, h1, hy, this]
        · simp [rowF, fixF, h1, hy] at h
    rw [if_neg h1]
    by_cases h2 : f.toNat = 2
    · rw [if_pos h2]
      by_cases h8 : 8 ≤ r.length
      · have : takeS 8 r 0 = (r.take 8, r.drop 8, 0) := by unfold takeS; rw [if_neg (by simp), if_neg (by omega)]
        rw [this]
        simp [rowF, fixF, h2, h8]
      · simp [rowF, fixF, h2, h8] at h
    rw [if_neg h2]
    by_cases h3 : f.toNat = 3
    · rw [if_pos h3]
      cases r with
      | nil => simp [rowF, h3] at h
      | cons y s =>
        by_cases hc : y.toNat ≤ 64 ∧ y.toNat ≤ s.length
        · rw [text_ok y s hc.1 hc.2]
          have : (f :: y :: s).drop (2 + y.toNat) = s.drop y.toNat := by rw [Nat.add_comm]; rfl
          simp [rowF, h3, hc, this]
        · simp [rowF, h3, hc] at h
    · simp [rowF, fixF, h0, h1, h2, h3] at h
theorem tvS_put (v : Val) (h : v.right = true) (hi : v.in64) (s : List UInt8) : tvS (rowB v ++ s) 0 = (v, s, 0) := by
  have e := rowF_put v h hi s
  have hp := rowB_pos h
  rw [tvS_ok _ (by rw [e]; dsimp only; omega), e]
  dsimp only
  rw [List.drop_left]
theorem tvS_back {bs bs' : List UInt8} {e e' : Int} {v : Val} (h : tvS bs e = (v, bs', e')) (h' : e' = 0) : e = 0 ∧ v.right = true ∧ v.in64 ∧ bs = rowB v ++ bs' := by
  subst h'
  by_cases he : e = 0
  · subst he
    by_cases hn : (rowF bs).2 = 0
    · exact absurd (by rw [h]) (tvS_no bs hn)
    · rw [tvS_ok bs hn] at h
      injection h with h1 h2
      injection h2 with h2 h3
      obtain ⟨r, b⟩ := rowF_back bs hn
      have i := rowF_in64 bs
      rw [h1] at r b i
      exact ⟨rfl, r, i, by rw [b, ← h2, List.take_append_drop]⟩
  · exact absurd (by rw [h]) (tvS_bad bs e he)
/-- What a head's bytes are, there is one way to read. -/
theorem form_same {k m n k' m' n' x y x' y' : UInt8} {v1 v2 u1 u2 : Val} {r r' : List UInt8} (r1 : v1.right = true) (r2 : v2.right = true) (i1 : v1.in64) (i2 : v2.in64) (s1 : u1.right = true) (s2 : u2.right = true) (j1 : u1.in64) (j2 : u2.in64)
    (h : k :: m :: n :: (rowB v1 ++ rowB v2 ++ x :: y :: r) = k' :: m' :: n' :: (rowB u1 ++ rowB u2 ++ x' :: y' :: r')) : k = k' ∧ m = m' ∧ n = n' ∧ x = x' ∧ y = y' ∧ r = r' := by
  injection h with h1 h
  injection h with h2 h
  injection h with h3 h
  rw [List.append_assoc, List.append_assoc] at h
  have a1 := rowF_put v1 r1 i1 (rowB v2 ++ x :: y :: r)
  have a2 := rowF_put u1 s1 j1 (rowB u2 ++ x' :: y' :: r')
  rw [h, a2] at a1
  injection a1 with e1 e2
  subst e1
  have h' := List.append_cancel_left h
  have b1 := rowF_put v2 r2 i2 (x :: y :: r)
  have b2 := rowF_put u2 s2 j2 (x' :: y' :: r')
  rw [h', b2] at b1
  injection b1 with e3 e4
  subst e3
  have h'' := List.append_cancel_left h'
  injection h'' with h4 h''
  injection h'' with h5 h6
  exact ⟨h1, h2, h3, h4, h5, h6⟩
/-- A reader goes over a head. -/
structure Chain (f : List UInt8) (o1 o2 o3 o6 o7 : List UInt8) (v1 v2 : Val) (f7 : List UInt8) (e7 : Int) : Prop where
  all : ∃ f1 f2 f3 f4 f5 f6 e1 e2 e3 e4 e5 e6, takeS 1 f 0 = (o1, f1, e1) ∧ takeS 1 f1 e1 = (o2, f2, e2) ∧ takeS 1 f2 e2 = (o3, f3, e3) ∧ tvS f3 e3 = (v1, f4, e4) ∧ tvS f4 e4 = (v2, f5, e5) ∧ takeS 1 f5 e5 = (o6, f6, e6) ∧ takeS 1 f6 e6 = (o7, f7, e7)
theorem chain_form {f o1 o2 o3 o6 o7 f7 : List UInt8} {v1 v2 : Val} (h : Chain f o1 o2 o3 o6 o7 v1 v2 f7 0) : ∃ k m n x y, o1 = [k] ∧ o2 = [m] ∧ o3 = [n] ∧ o6 = [x] ∧ o7 = [y] ∧ v1.right = true ∧ v2.right = true ∧ v1.in64 ∧ v2.in64 ∧ f = k :: m :: n :: (rowB v1 ++ rowB v2 ++ x :: y :: f7) := by
  obtain ⟨f1, f2, f3, f4, f5, f6, e1, e2, e3, e4, e5, e6, h1, h2, h3, h4, h5, h6, h7⟩ := h.all
  obtain ⟨z6, y, q7, p7⟩ := take1_ok h7 rfl
  obtain ⟨z5, x, q6, p6⟩ := take1_ok h6 z6
  obtain ⟨z4, r2, i2, q5⟩ := tvS_back h5 z5
  obtain ⟨z3, r1, i1, q4⟩ := tvS_back h4 z4
  obtain ⟨z2, n, q3, p3⟩ := take1_ok h3 z3
  obtain ⟨z1, m, q2, p2⟩ := take1_ok h2 z2
  obtain ⟨_, k, q1, p1⟩ := take1_ok h1 z1
  exact ⟨k, m, n, x, y, p1, p2, p3, p6, p7, r1, r2, i1, i2, by rw [q1, q2, q3, q4, q5, q6, q7, List.append_assoc]⟩
theorem form_chain {f o1 o2 o3 o6 o7 f7 : List UInt8} {v1 v2 : Val} {e7 : Int} (h : Chain f o1 o2 o3 o6 o7 v1 v2 f7 e7) {k m n x y : UInt8} {u1 u2 : Val} {r : List UInt8} (r1 : u1.right = true) (r2 : u2.right = true) (i1 : u1.in64) (i2 : u2.in64) (hf : f = k :: m :: n :: (rowB u1 ++ rowB u2 ++ x :: y :: r)) : e7 = 0 := by
  obtain ⟨f1, f2, f3, f4, f5, f6, e1, e2, e3, e4, e5, e6, h1, h2, h3, h4, h5, h6, h7⟩ := h.all
  rw [hf, take_one] at h1
  injection h1 with a1 h1; injection h1 with b1 c1
  rw [← b1, ← c1, take_one] at h2
  injection h2 with a2 h2; injection h2 with b2 c2
  rw [← b2, ← c2, take_one] at h3
  injection h3 with a3 h3; injection h3 with b3 c3
  rw [← b3, ← c3, List.append_assoc, tvS_put u1 r1 i1] at h4
  injection h4 with a4 h4; injection h4 with b4 c4
  rw [← b4, ← c4, tvS_put u2 r2 i2] at h5
  injection h5 with a5 h5; injection h5 with b5 c5
  rw [← b5, ← c5, take_one] at h6
  injection h6 with a6 h6; injection h6 with b6 c6
  rw [← b6, ← c6, take_one] at h7
  injection h7 with a7 h7; injection h7 with b7 c7
  exact c7.symm
/-- What a reader makes of the first bytes is the head of all of them. -/
theorem chain_head {bs o1 o2 o3 o6 o7 f7 : List UInt8} {v1 v2 : Val} {e7 : Int} (h : Chain (bs.take 137) o1 o2 o3 o6 o7 v1 v2 f7 e7) (size B : Nat) (hs : size + f7.length = (bs.take 137).length) (hB : B = size + (num o6 * 256 + num o7) + 4) :
    (e7 = 0 ∧ num o1 ≤ 4 ∧ 1 ≤ num o2 ∧ num o2 ≤ 64 ∧ num o3 ≤ num o2 ∧ B ≤ bs.length → hdR bs = some (⟨num o1, num o2, v1, v2, num o3, B⟩, size)) ∧
    (¬ (e7 = 0 ∧ num o1 ≤ 4 ∧ 1 ≤ num o2 ∧ num o2 ≤ 64 ∧ num o3 ≤ num o2 ∧ B ≤ bs.length) → hdR bs = none) := by
  constructor
  · rintro ⟨rfl, c1, c2, c3, c4, c5⟩
    obtain ⟨k, m, n, x, y, rfl, rfl, rfl, rfl, rfl, r1, r2, i1, i2, hf⟩ := chain_form h
    simp only [num_one] at *
    have hl : (bs.take 137).length = 5 + (rowB v1).length + (rowB v2).length + f7.length := by rw [hf]; simp; omega
    have hbs : bs = k :: m :: n :: (rowB v1 ++ rowB v2 ++ x :: y :: (f7 ++ bs.drop 137)) := by
      conv => lhs; rw [← List.take_append_drop 137 bs, hf]
      simp
    have hbl : bs.length = 5 + (rowB v1).length + (rowB v2).length + (f7 ++ bs.drop 137).length := by
      conv => lhs; rw [hbs]
      simp
      omega
    have := hdR_put k m n v1 v2 x y (f7 ++ bs.drop 137) r1 r2 i1 i2 c1 c2 c3 c4 (by omega)
    rw [← hbs] at this
    rw [this]
    have e1 : size = 5 + (rowB v1).length + (rowB v2).length := by omega
    rw [hB, e1]
  · intro hn
    cases hh : hdR bs with
    | none => rfl
    | some q =>
      exfalso
      obtain ⟨i, s⟩ := q
      obtain ⟨k, m, n, u1, u2, x, y, rest, hb, s1, s2, j1, j2, c1, c2, c3, c4, hi, hss, hl⟩ := hdR_some hh
      have l1 := rowB_length s1
      have l2 := rowB_length s2
      obtain ⟨z, hz⟩ : ∃ z, 137 = z + (rowB u1 ++ rowB u2).length + 5 := ⟨137 - (rowB u1 ++ rowB u2).length - 5, by simp; omega⟩
      have ht : bs.take 137 = k :: m :: n :: (rowB u1 ++ rowB u2 ++ x :: y :: rest.take z) := by
        rw [hb, hz, show z + (rowB u1 ++ rowB u2).length + 5 = ((rowB u1 ++ rowB u2).length + (z + 2)) + 3 by omega]
        simp only [List.take_succ_cons, List.take_length_add_append]
      have he := form_chain h s1 s2 j1 j2 ht
      subst he
      obtain ⟨k', m', n', x', y', rfl, rfl, rfl, rfl, rfl, r1, r2, i1, i2, hf⟩ := chain_form h
      rw [ht] at hf
      obtain ⟨rfl, rfl, rfl, rfl, rfl, rfl⟩ := form_same s1 s2 j1 j2 r1 r2 i1 i2 hf
      simp only [num_one] at *
      refine hn ⟨by first | trivial | rfl, c1, c2, c3, c4, ?_⟩
      have hl2 : (bs.take 137).length = 5 + (rowB u1).length + (rowB u2).length + (rest.take z).length := by rw [ht]; simp; omega
      omega
end Go.Proofs.YtohbdbecioanaaaGreatDoor
end

section
namespace Go.Proofs.YtohbdbecioanaaaGreatDoor
open Go.RowKit Go.Hay
set_option linter.unusedVariables false

set_option maxHeartbeats 400000 in
theorem rWord (p : Nat) (D : List Nat) (bs : List UInt8) (e0 : Int) (w : World) (h : Rd w p D bs e0) :
    Calls Tryz.prog 32 #[.pointer (some ⟨p, 0, none⟩)] w fun e w' => ∃ out bs' e', takeS 4 bs e0 = (out, bs', e') ∧ e = .returned (.int .u32 (num out)) ∧ Rd w' p D bs' e' ∧ Kp [p] w w' := by
  go_enter Tryz.func32, Tryz.ntmps32
  go_wp2_with fail
  refine (rTake p D bs e0 4 _ h (by omega)).mono ?_
  rintro e w1 ⟨out, bs', e', a, c, ht, rfl, hs, hD, hl, hr, hk⟩
  have hlen := takeS_len _ _ _ ht
  have hnum := num_lt_of out 4 hlen
  have HT := hid ht
  clear ht
  go_wp2_with fail
  refine (cNumber a _ c out _ hs rfl (by omega)).mono ?_
  rintro e w2 ⟨rfl, rfl⟩
  go_wp2_with fail
  go_ret
  exact ⟨out, bs', e', HT.out, rfl, hr, hk⟩
set_option maxHeartbeats 400000 in
theorem rLong (p : Nat) (D : List Nat) (bs : List UInt8) (e0 : Int) (w : World) (h : Rd w p D bs e0) :
    Calls Tryz.prog 87 #[.pointer (some ⟨p, 0, none⟩)] w fun e w' => ∃ out bs' e', takeS 8 bs e0 = (out, bs', e') ∧ e = .returned (.int .u64 (num out)) ∧ Rd w' p D bs' e' ∧ Kp [p] w w' := by
  go_enter Tryz.func87, Tryz.ntmps87
  go_wp2_with fail
  refine (rTake p D bs e0 8 _ h (by omega)).mono ?_
  rintro e w1 ⟨out, bs', e', a, c, ht, rfl, hs, hD, hl, hr, hk⟩
  have hlen := takeS_len _ _ _ ht
  have hnum := num_lt_of out 8 hlen
  have HT := hid ht
  clear ht
  go_wp2_with fail
  refine (cNumber a _ c out _ hs rfl (by omega)).mono ?_
  rintro e w2 ⟨rfl, rfl⟩
  go_wp2_with fail
  go_ret
  exact ⟨out, bs', e', HT.out, rfl, hr, hk⟩
end Go.Proofs.YtohbdbecioanaaaGreatDoor
end

section
namespace Go.Proofs.YtohbdbecioanaaaGreatDoor
open Go.RowKit Go.Hay
set_option linter.unusedVariables false
set_option linter.unusedSimpArgs false

theorem gen4q {w : World} {q : Nat} {a b c d : Value} {R : World → Prop} (h : Box4 w q a b c d) (a' b' c' d' : Value)
    (H : ∀ W, Box4 W q a' b' c' d' → Kp [q] w W → R W) : R ((((w.setCell ⟨q, 0, none⟩ a').setCell ⟨q, 1, none⟩ b').setCell ⟨q, 2, none⟩ c').setCell ⟨q, 3, none⟩ d') := by
  have hk : Kp [q] w w := Kp.refl _ _
  exact H _ (h.put a' b' c' d') ((((hk.setCell (.inl (by simp)) _).setCell (.inl (by simp)) _).setCell (.inl (by simp)) _).setCell (.inl (by simp)) _)
/-- What takeValue hands back. -/
def TvP (p : Nat) (D : List Nat) (r : Val × List UInt8 × Int) (w : World) (e : Ending) (w' : World) : Prop := e = .returned r.1.v ∧ Rd w' p D r.2.1 r.2.2 ∧ Kp [p] w w'
theorem box_rd {w w' : World} {p q : Nat} {a b c d : Value} (h : Box4 w q a b c d) (hk : Kp [p] w w') (hq : p ≠ q) : Box4 w' q a b c d := h.kept hk (by simp; omega)
theorem rd_q {w w' : World} {p q : Nat} {D : List Nat} {bs : List UInt8} {e : Int} (h : Rd w p D bs e) (hk : Kp [q] w w') (hq : p ≠ q) (hD : ∀ k ∈ D, k ≠ q) : Rd w' p D bs e := h.kept hk (by simpa using hq) (fun k hk' => by simpa using hD k hk')
set_option maxHeartbeats 16000000 in
set_option maxRecDepth 100000 in
theorem bTakeValue (p : Nat) (D : List Nat) (bs : List UInt8) (e0 : Int) (w : World) (h : Rd w p D bs e0) (hb : bs.length ≤ 1000) :
    Calls Tryz.prog 52 #[.pointer (some ⟨p, 0, none⟩)] w (TvP p D (tvS bs e0) w) := by
  obtain ⟨w1, hw1, kw1, bx⟩ : ∃ w1, w.alloc (.cells #[.int .i64 0, .bool false, .int .i64 0, .string ⟨#[]⟩] 30) = w1 ∧ Kp [] w w1 ∧ Box4 w1 w.heap.size (.int .i64 0) (.bool false) (.int .i64 0) (.string ⟨#[]⟩) := ⟨_, rfl, (Kp.refl _ _).alloc _, Box4.new _ _ _ _ _ _⟩
  have hpq : p ≠ w.heap.size := by have := h.lt; omega
  have hDq : Hid (∀ k ∈ D, k ≠ w.heap.size) := fun k hk => by have := h.dlt k hk; omega
  have h1 := h.kept kw1 (by simp) (by simp)
  have cB := rByte p D bs e0 w1 h1
  obtain ⟨q, hq⟩ : ∃ q, Hid (w.heap.size = q) := ⟨_, rfl⟩
  have hpq' : p ≠ q := by rw [← hq.out]; exact hpq
  have hDq' : Hid (∀ k ∈ D, k ≠ q) := by rw [← hq.out]; exact hDq
  have bx' : Hid (Box4 w1 q (.int .i64 0) (.bool false) (.int .i64 0) (.string ⟨#[]⟩)) := by rw [← hq.out]; exact bx
  have hqs : w.heap.size ≤ q := by rw [hq.out]; omega
  rw [← hw1] at cB
  have hw1' := hid hw1
  have hkw := hid kw1
  clear hw1 h h1 bx kw1 hpq hDq
  go_enter Tryz.func52, Tryz.ntmps52
  go_wp2_with fail
  refine cB.mono ?_
  rintro e w2 ⟨out, bs2, e2, ht, rfl, hr2, k2⟩
  rw [hw1'.out] at k2
  have b2 := box_rd bx'.out k2 hpq'
  have kk2 : Kp [p] w w2 := (hkw.out.mono (by simp)).trans k2 (fun x hx => .inl hx)
  have htv : Hid (tvS bs e0 = tvS1 (num out) bs2 e2) := by show _ = _; unfold tvS; rw [ht]
  have hb2 : bs2.length ≤ 1000 := by
    have hh := congrArg (fun r => r.2.1.length) ht
    dsimp only at hh
    rw [← hh]
    unfold takeS
    split
    · exact hb
    · split
      · exact hb
      · simp; omega
  obtain ⟨x, hx⟩ : ∃ x : Nat, Hid (num out = x) := ⟨_, rfl⟩
  rw [hx.out] at htv ⊢
  have H2 := hid (And.intro b2 (And.intro kk2 hr2))
  have hxx : x < 256 := by
    rw [← hx.out]
    have h1 : out.length ≤ 1 := by
      have hh := congrArg (fun r => r.1.length) ht
      dsimp only at hh
      rw [← hh]
      unfold takeS
      split
      · simp
      · split
        · simp
        · simp; omega
    have := num_lt_of out 1 h1
    omega
  rw [hq.out]
  clear cB ht b2 kk2 hr2 k2 bx' hkw hw1' hb hx hqs
  by_cases h0 : x = 0
  · subst h0
    have htv : Hid (tvS bs e0 = (nilV, bs2, e2)) := by show _ = _; rw [htv.out]; unfold tvS1; rw [if_pos rfl]
    go_wp2_with fail
    refine (cNull w2).mono ?_
    rintro e w3 ⟨rfl, k3⟩
    have HB := hid (H2.out.1.kept k3 (by simp))
    have HK := hid (And.intro (H2.out.2.1.trans k3 (by simp)) (H2.out.2.2.kept k3 (by simp) (by simp)))
    have fB := HB.out
    have p0 := fB.c0; have p1 := fB.c1; have p2 := fB.c2; have p3 := fB.c3
    have f0 := fB.free 0; have f1 := fB.free 1; have f2 := fB.free 2; have f3 := fB.free 3
    clear fB
    go_wp2_with fail
    refine gen4q (R := fun W => bodyPost _ _ _ _ _ W) HB.out _ _ _ _ ?_
    intro W bW kW
    have r0 := bW.c0; have r1 := bW.c1; have r2 := bW.c2; have r3 := bW.c3
    refine bodyPost_ret (v := Val.v nilV) (by simp [results, Tryz.results52, go_sem, Val.v, nilV, r0, r1, r2, r3]) rfl ?_
    unfold TvP
    rw [htv.out]
    exact ⟨rfl, rd_q HK.out.2 kW hpq' hDq'.out, (HK.out.1).trans kW (fun y hy => .inr (by simp at hy; rw [hy, ← hq.out]; exact Nat.le_refl _))⟩
  have d0 : ((x : Int) == 0) = false := beq_eq_false_iff_ne.2 (by omega)
  by_cases h1 : x = 1
  · subst h1
    have cV := rVar p D bs2 e2 1 w2 H2.out.2.2 (by omega) (by omega)
    go_wp2_with fail
    refine cV.mono ?_
    rintro e w3 ⟨n, bs3, e3, hv, rfl, hr3, k3⟩
    have htv : Hid (tvS bs e0 = (⟨1, n == 1, 0, ⟨#[]⟩⟩, bs3, e3)) := by show _ = _; rw [htv.out]; unfold tvS1; rw [if_neg (by omega), if_pos rfl, hv]
    have HB3 := hid (box_rd H2.out.1 k3 hpq')
    have HK3 := hid (And.intro (H2.out.2.1.trans k3 (fun x hx => .inl hx)) hr3)
    clear hv hr3 cV H2
    obtain ⟨bn, hbn⟩ : ∃ b, Hid ((n == 1) = b) := ⟨_, rfl⟩
    rw [hbn.out] at htv
    go_wp2_with fail
    rw [hbn.out]
    refine (cBool bn w3).mono ?_
    rintro e w4 ⟨rfl, k4⟩
    have HB := hid (HB3.out.kept k4 (by simp))
    have HK := hid (And.intro (HK3.out.1.trans k4 (by simp)) (HK3.out.2.kept k4 (by simp) (by simp)))
    clear hbn k3
    have fB := HB.out
    have p0 := fB.c0; have p1 := fB.c1; have p2 := fB.c2; have p3 := fB.c3
    have f0 := fB.free 0; have f1 := fB.free 1; have f2 := fB.free 2; have f3 := fB.free 3
    clear fB
    go_wp2_with fail
    refine gen4q (R := fun W => bodyPost _ _ _ _ _ W) HB.out _ _ _ _ ?_
    intro W bW kW
    have r0 := bW.c0; have r1 := bW.c1; have r2 := bW.c2; have r3 := bW.c3
    refine bodyPost_ret (v := Val.v ⟨1, bn, 0, ⟨#[]⟩⟩) (by simp [results, Tryz.results52, go_sem, Val.v, nilV, r0, r1, r2, r3]) rfl ?_
    unfold TvP
    rw [htv.out]
    exact ⟨rfl, rd_q HK.out.2 kW hpq' hDq'.out, (HK.out.1).trans kW (fun y hy => .inr (by simp at hy; rw [hy, ← hq.out]; exact Nat.le_refl _))⟩
  have d1 : ((x : Int) == 1) = false := beq_eq_false_iff_ne.2 (by omega)
  by_cases h2 : x = 2
  · subst h2
    have cV := rLong p D bs2 e2 w2 H2.out.2.2
    go_wp2_with fail
    refine cV.mono ?_
    rintro e w3 ⟨o3, bs3, e3, hv, rfl, hr3, k3⟩
    have htv : Hid (tvS bs e0 = (⟨2, false, wrap64 (num o3), ⟨#[]⟩⟩, bs3, e3)) := by show _ = _; rw [htv.out]; unfold tvS1; rw [if_neg (by omega), if_neg (by omega), if_pos rfl, hv]
    have HB3 := hid (box_rd H2.out.1 k3 hpq')
    have HK3 := hid (And.intro (H2.out.2.1.trans k3 (fun x hx => .inl hx)) hr3)
    have hw : IntKind.i64.wrap ((num o3 : Nat) : Int) = wrap64 (num o3) := by generalize num o3 = n3; rw [IntKind.wrap_i64]; try (unfold wrap64; omega)
    obtain ⟨z, hz⟩ : ∃ z, Hid (wrap64 (num o3) = z) := ⟨_, rfl⟩
    rw [hz.out] at htv hw
    obtain ⟨y, hy⟩ : ∃ y : Nat, Hid (num o3 = y) := ⟨_, rfl⟩
    rw [hy.out] at hw ⊢
    clear hv hr3 cV H2 hz hy
    go_wp2_with fail
    refine (cInt z w3).mono ?_
    rintro e w4 ⟨rfl, k4⟩
    have HB := hid (HB3.out.kept k4 (by simp))
    have HK := hid (And.intro (HK3.out.1.trans k4 (by simp)) (HK3.out.2.kept k4 (by simp) (by simp)))
    clear k3
    have fB := HB.out
    have p0 := fB.c0; have p1 := fB.c1; have p2 := fB.c2; have p3 := fB.c3
    have f0 := fB.free 0; have f1 := fB.free 1; have f2 := fB.free 2; have f3 := fB.free 3
    clear fB
    go_wp2_with fail
    refine gen4q (R := fun W => bodyPost _ _ _ _ _ W) HB.out _ _ _ _ ?_
    intro W bW kW
    have r0 := bW.c0; have r1 := bW.c1; have r2 := bW.c2; have r3 := bW.c3
    refine bodyPost_ret (v := Val.v ⟨2, false, z, ⟨#[]⟩⟩) (by simp [results, Tryz.results52, go_sem, Val.v, nilV, r0, r1, r2, r3]) rfl ?_
    unfold TvP
    rw [htv.out]
    exact ⟨rfl, rd_q HK.out.2 kW hpq' hDq'.out, (HK.out.1).trans kW (fun y hy => .inr (by simp at hy; rw [hy, ← hq.out]; exact Nat.le_refl _))⟩
  have d2 : ((x : Int) == 2) = false := beq_eq_false_iff_ne.2 (by omega)
  by_cases h3 : x = 3
  · subst h3
    have cV := rText p D bs2 e2 64 w2 H2.out.2.2 (by omega) (by omega) (by omega)
    go_wp2_with fail
    refine cV.mono ?_
    rintro e w3 ⟨o3, bs3, e3, v3, hv, rfl, hrow, hn3, hr3, k3⟩
    have htv : Hid (tvS bs e0 = (⟨3, false, 0, ⟨o3.toArray⟩⟩, bs3, e3)) := by show _ = _; rw [htv.out]; unfold tvS1; rw [if_neg (by omega), if_neg (by omega), if_neg (by omega), if_pos rfl, hv]
    have HB3 := hid (box_rd H2.out.1 k3 hpq')
    have HK3 := hid (And.intro (H2.out.2.1.trans k3 (fun x hx => .inl hx)) hr3)
    obtain ⟨a3, c3, rfl, hs3, _⟩ := hrow.sees
    have hcv := convSees hs3 c3
    obtain ⟨T, hT⟩ : ∃ T, Hid ((⟨o3.toArray⟩ : ByteArray) = T) := ⟨_, rfl⟩
    rw [hT.out] at htv hcv
    clear hv hr3 cV H2 hrow hn3 hs3 hT
    go_wp2_with fail
    refine (cText T w3).mono ?_
    rintro e w4 ⟨rfl, k4⟩
    have HB := hid (HB3.out.kept k4 (by simp))
    have HK := hid (And.intro (HK3.out.1.trans k4 (by simp)) (HK3.out.2.kept k4 (by simp) (by simp)))
    clear k3 hcv
    have fB := HB.out
    have p0 := fB.c0; have p1 := fB.c1; have p2 := fB.c2; have p3 := fB.c3
    have f0 := fB.free 0; have f1 := fB.free 1; have f2 := fB.free 2; have f3 := fB.free 3
    clear fB
    go_wp2_with fail
    refine gen4q (R := fun W => bodyPost _ _ _ _ _ W) HB.out _ _ _ _ ?_
    intro W bW kW
    have r0 := bW.c0; have r1 := bW.c1; have r2 := bW.c2; have r3 := bW.c3
    refine bodyPost_ret (v := Val.v ⟨3, false, 0, T⟩) (by simp [results, Tryz.results52, go_sem, Val.v, nilV, r0, r1, r2, r3]) rfl ?_
    unfold TvP
    rw [htv.out]
    exact ⟨rfl, rd_q HK.out.2 kW hpq' hDq'.out, (HK.out.1).trans kW (fun y hy => .inr (by simp at hy; rw [hy, ← hq.out]; exact Nat.le_refl _))⟩
  have d3 : ((x : Int) == 3) = false := beq_eq_false_iff_ne.2 (by omega)
  have cV := rFail p D bs2 e2 70 w2 H2.out.2.2
  have htv : Hid (tvS bs e0 = (nilV, bs2, if e2 = 0 then 70 else e2)) := by show _ = _; rw [htv.out]; unfold tvS1; rw [if_neg h0, if_neg h1, if_neg h2, if_neg h3]
  obtain ⟨z, hz⟩ : ∃ z : Int, Hid ((if e2 = 0 then 70 else e2) = z) := ⟨_, rfl⟩
  rw [hz.out] at htv cV
  clear hz
  go_wp2_with fail
  refine cV.mono ?_
  rintro e w3 ⟨rfl, hr3, k3⟩
  have HB3 := hid (box_rd H2.out.1 k3 hpq')
  have HK3 := hid (And.intro (H2.out.2.1.trans k3 (fun x hx => .inl hx)) hr3)
  clear hr3 cV H2
  go_wp2_with fail
  refine (cNull w3).mono ?_
  rintro e w4 ⟨rfl, k4⟩
  have HB := hid (HB3.out.kept k4 (by simp))
  have HK := hid (And.intro (HK3.out.1.trans k4 (by simp)) (HK3.out.2.kept k4 (by simp) (by simp)))
  clear k3
  have fB := HB.out
  have p0 := fB.c0; have p1 := fB.c1; have p2 := fB.c2; have p3 := fB.c3
  have f0 := fB.free 0; have f1 := fB.free 1; have f2 := fB.free 2; have f3 := fB.free 3
  clear fB
  go_wp2_with fail
  refine gen4q (R := fun W => bodyPost _ _ _ _ _ W) HB.out _ _ _ _ ?_
  intro W bW kW
  have r0 := bW.c0; have r1 := bW.c1; have r2 := bW.c2; have r3 := bW.c3
  refine bodyPost_ret (v := Val.v nilV) (by simp [results, Tryz.results52, go_sem, Val.v, nilV, r0, r1, r2, r3]) rfl ?_
  unfold TvP
  rw [htv.out]
  exact ⟨rfl, rd_q HK.out.2 kW hpq' hDq'.out, (HK.out.1).trans kW (fun y hy => .inr (by simp at hy; rw [hy, ← hq.out]; exact Nat.le_refl _))⟩
end Go.Proofs.YtohbdbecioanaaaGreatDoor
end

section
namespace Go.Proofs.YtohbdbecioanaaaGreatDoor
open Go.RowKit Go.Hay
set_option linter.unusedVariables false
set_option linter.unusedSimpArgs false

theorem cCan (k : Int) (a : Option Addr) (ca : Nat) (l : List Val) (w : World) (ha : Vals w a l) (hl : l.length ≤ 9223372036854775807) :
    Calls Tryz.prog 91 #[.int .i64 k, .slice a l.length ca] w fun e w' => e = .returned (.bool (refE k l == 0)) ∧ Kp [] w w' := by
  have cR := cRefusedE k a ca l w ha hl
  obtain ⟨E, hE⟩ : ∃ E, Hid (refE k l = E) := ⟨_, rfl⟩
  rw [hE.out] at cR ⊢
  clear ha
  go_enter Tryz.func91, Tryz.ntmps91
  go_wp2_with fail
  refine cR.mono ?_
  rintro e w1 ⟨rfl, k1⟩
  go_wp2_with fail
  go_ret
  exact ⟨rfl, k1⟩
end Go.Proofs.YtohbdbecioanaaaGreatDoor
end

section
namespace Go.Proofs.YtohbdbecioanaaaGreatDoor
open Go.RowKit Go.Hay
set_option linter.unusedVariables false
set_option linter.unusedSimpArgs false

theorem genS {w : World} {q : Nat} {cs : List Value} {R : World → Prop} (h : Bx w q cs) (i : Nat) (hi : i < cs.length) (v : Value) (H : ∀ W, Bx W q (cs.set i v) → Kp [q] w W → R W) : R (w.setCell ⟨q, i, none⟩ v) :=
  H _ (h.set i hi v) ((Kp.refl [q] w).setCell (.inl (by simp)) _)
theorem genS4 {w : World} {q : Nat} {cs : List Value} {R : World → Prop} (h : Bx w q cs) (i j k m : Nat) (hi : i < cs.length) (hj : j < cs.length) (hk : k < cs.length) (hm : m < cs.length) (v1 v2 v3 v4 : Value)
    (H : ∀ W, Bx W q ((((cs.set i v1).set j v2).set k v3).set m v4) → Kp [q] w W → R W) : R ((((w.setCell ⟨q, i, none⟩ v1).setCell ⟨q, j, none⟩ v2).setCell ⟨q, k, none⟩ v3).setCell ⟨q, m, none⟩ v4) := by
  have hk0 : Kp [q] w w := Kp.refl _ _
  exact H _ ((((h.set i hi v1).set j (by simpa using hj) v2).set k (by simpa using hk) v3).set m (by simpa using hm) v4) ((((hk0.setCell (.inl (by simp)) _).setCell (.inl (by simp)) _).setCell (.inl (by simp)) _).setCell (.inl (by simp)) _)
def mayB (i : Inf) : Bool := knownB i.kind && (decide (1 ≤ i.many) && (decide (i.many ≤ 64) && decide (i.nulls ≤ i.many)))
theorem refE_nil (k : Int) : (refE k [] == 0) = knownB k := by
  unfold refE
  cases h : knownB k <;> simp [allR, allI]
set_option maxHeartbeats 8000000 in
set_option maxRecDepth 100000 in
theorem bMayBe (i : Inf) (w : World) : Calls Tryz.prog 55 #[i.v] w fun e w' => e = .returned (.bool (mayB i)) ∧ Kp [] w w' := by
  obtain ⟨w1, hw1, kw1, bx⟩ : ∃ w1, w.alloc (.cells i.cs.toArray 46) = w1 ∧ Kp [] w w1 ∧ Bx w1 w.heap.size i.cs := ⟨_, rfl, (Kp.refl _ _).alloc _, Bx.new w _ _⟩
  obtain ⟨k, m, ⟨ak, ab, an, at'⟩, ⟨bk, bb, bn, bt⟩, nn, yy⟩ := i
  have hres : Hid (mayB ⟨k, m, ⟨ak, ab, an, at'⟩, ⟨bk, bb, bn, bt⟩, nn, yy⟩ = (knownB k && (decide (1 ≤ m) && (decide (m ≤ 64) && decide (nn ≤ m))))) := rfl
  rw [hres.out]
  unfold Inf.v
  unfold Inf.cs at *
  dsimp only at *
  have c0 := bx.get 0 _ rfl
  have cC := cCan k none 0 [] w1 (.inl rfl) (by simp)
  rw [refE_nil] at cC
  rw [List.length_nil] at cC
  obtain ⟨B, hB⟩ : ∃ B, Hid (knownB k = B) := ⟨_, rfl⟩
  rw [hB.out] at cC ⊢
  rw [← hw1] at cC c0
  have hw1' := hid hw1
  have hbx := hid bx
  have hkw := hid kw1
  clear hw1 bx kw1 hres hB
  go_enter Tryz.func55, Tryz.ntmps55
  go_wp2_with fail
  refine cC.mono ?_
  rintro e w2 ⟨rfl, k2⟩
  rw [hw1'.out] at k2
  have b2 := hbx.out.kept k2 (by simp) (hbx.out.lt (by simp))
  have kk := hkw.out.trans k2 (by simp)
  have c1 := b2.get 1 _ rfl
  have c10 := b2.get 10 _ rfl
  clear cC k2 c0 b2 hbx hkw hw1'
  cases B with
  | false =>
    go_wp2_with fail
    go_ret
    exact ⟨by simp, kk⟩
  | true =>
    by_cases h1 : 1 ≤ m
    · have d1 : decide (1 ≤ m) = true := by simpa using h1
      by_cases h2 : m ≤ 64
      · have d2 : decide (m ≤ 64) = true := by simpa using h2
        by_cases h3 : nn ≤ m
        · have d3 : decide (nn ≤ m) = true := by simpa using h3
          go_wp2_with fail
          go_ret
          exact ⟨by simp [d1, d2, d3], kk⟩
        · have d3 : decide (nn ≤ m) = false := by simpa using h3
          go_wp2_with fail
          go_ret
          exact ⟨by simp [d1, d2, d3], kk⟩
      · have d2 : decide (m ≤ 64) = false := by simpa using h2
        go_wp2_with fail
        go_ret
        exact ⟨by simp [d1, d2], kk⟩
    · have d1 : decide (1 ≤ m) = false := by simpa using h1
      go_wp2_with fail
      go_ret
      exact ⟨by simp [d1], kk⟩
end Go.Proofs.YtohbdbecioanaaaGreatDoor
end

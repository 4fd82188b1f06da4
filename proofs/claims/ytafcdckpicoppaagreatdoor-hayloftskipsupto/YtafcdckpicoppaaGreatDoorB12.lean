/- A head, read by a reader: plain functions. The reader's Word and Long. takeValue. encode.Can. mayBe; a block's cells that are stored into. takeHead. -/
import Derived.Test.YtafcdckpicoppaaGreatDoorB11
import Derived.Test.YtafcdckpicoppaaGreatDoorB3
section
namespace Go.Proofs.YtafcdckpicoppaaGreatDoor
open Go.RowKit Go.Hay
set_option linter.unusedVariables false
set_option linter.unusedSimpArgs false

def tvS1 (f : Nat) (bs : List UInt8) (e : Int) : Val × List UInt8 × Int :=
  if f = 0 then (nilV, bs, e)
  else if f = 1 then (⟨1, (varS 1 bs e).1 == 1, 0, ⟨#[]⟩⟩, (varS 1 bs e).2)
  else if f = 2 then (⟨2, false, wrap64 (num (takeS 8 bs e).1), ⟨#[]⟩⟩, (takeS 8 bs e).2)
  else if f = 3 then (⟨3, false, 0, ⟨(textS 64 bs e).1.toArray⟩⟩, (textS 64 bs e).2)
  else (nilV, bs, if e = 0 then 70 else e)
/-- A reader that reads a value. -/
def tvS (bs : List UInt8) (e : Int) : Val × List UInt8 × Int := tvS1 (num (takeS 1 bs e).1) (takeS 1 bs e).2.1 (takeS 1 bs e).2.2

theorem take_bad (n : Nat) (bs : List UInt8) (e : Int) (h : e ≠ 0) : takeS n bs e = ([], bs, e) := by unfold takeS; rw [if_pos h]
theorem take_one (x : UInt8) (bs : List UInt8) : takeS 1 (x :: bs) 0 = ([x], bs, 0) := by unfold takeS; simp
theorem num_one (x : UInt8) : num [x] = x.toNat := by simp [num]
theorem take1_ok {bs o bs' : List UInt8} {e e' : Int} (h : takeS 1 bs e = (o, bs', e')) (h' : e' = 0) : e = 0 ∧ ∃ x, bs = x :: bs' ∧ o = [x] := by
  by_cases he : e = 0
  · subst he
    cases bs with
    | nil => simp [takeS] at h; omega
    | cons x r => rw [take_one] at h; injection h with h1 h2; injection h2 with h2 h3; exact ⟨rfl, x, by rw [h2], h1.symm⟩
  · rw [take_bad 1 bs e he] at h
    injection h with h1 h2; injection h2 with h2 h3
    omega
theorem tvS_bad (bs : List UInt8) (e : Int) (h : e ≠ 0) : (tvS bs e).2.2 ≠ 0 := by
  unfold tvS
  rw [take_bad 1 bs e h]
  show (tvS1 0 bs e).2.2 ≠ 0
  unfold tvS1
  rw [if_pos rfl]
  exact h
theorem tvS_cons (f : UInt8) (r : List UInt8) : tvS (f :: r) 0 = tvS1 f.toNat r 0 := by unfold tvS; rw [take_one, num_one]
theorem fv_low (y : UInt8) (s : List UInt8) (hb : behindI (y.toNat : Int) = 0) : fv (y :: s) = ((y.toNat : Int), 1, 0) := by simp [fv, hb]
theorem fv_high (y : UInt8) (s : List UInt8) (hb : behindI (y.toNat : Int) ≠ 0) : (fv (y :: s)).2.2 ≠ 0 ∨ 253 ≤ (fv (y :: s)).1 := by
  have hl : 253 ≤ (y.toNat : Int) := by unfold behindI at hb; split at hb <;> omega
  simp only [fv, if_neg hb]
  split
  · left; simp
  · split
    · left; simp
    · rename_i h1 h2
      right
      have h2' := Decidable.not_not.1 h2
      show 253 ≤ (num (s.take (behindI (y.toNat : Int)).toNat) : Int)
      unfold leadI at h2'
      split at h2' <;> omega
theorem behind_low {y : Nat} (h : y ≤ 252) : behindI (y : Int) = 0 := by unfold behindI; rw [if_neg (by omega), if_neg (by omega), if_neg (by omega)]
theorem var_ok (M : Int) (hM : M ≤ 252) (y : UInt8) (s : List UInt8) (h : (y.toNat : Int) ≤ M) : varS M (y :: s) 0 = ((y.toNat : Int), s, 0) := by
  have e := fv_low y s (behind_low (by omega))
  unfold varS
  rw [e, if_neg (by simp), if_neg (by simp), if_neg (by dsimp only; omega)]
  simp
theorem var_bad (M : Int) (hM : M ≤ 252) (r : List UInt8) (h : ∀ y s, r = y :: s → M < (y.toNat : Int)) : (varS M r 0).2.2 ≠ 0 := by
  cases r with
  | nil => unfold varS fv; simp
  | cons y s =>
    have hy := h y s rfl
    unfold varS
    rw [if_neg (by simp)]
    by_cases hz : (fv (y :: s)).2.2 = 0
    · have hM2 : M < (fv (y :: s)).1 := by
        by_cases hb : behindI (y.toNat : Int) = 0
        · rw [fv_low y s hb]; exact hy
        · rcases fv_high y s hb with h1 | h1
          · exact absurd hz h1
          · omega
      rw [if_neg (by simpa using hz), if_pos hM2]
      simp
    · rw [if_pos hz]
      exact hz
theorem var1_bad (r : List UInt8) (h : ∀ y s, r = y :: s → 1 < y.toNat) : (varS 1 r 0).2.2 ≠ 0 := var_bad 1 (by omega) r fun y s e => by have := h y s e; omega
theorem var1_ok (y : UInt8) (s : List UInt8) (h : y.toNat ≤ 1) : varS 1 (y :: s) 0 = ((y.toNat : Int), s, 0) := var_ok 1 (by omega) y s (by omega)
theorem var64_ok (y : UInt8) (s : List UInt8) (h : y.toNat ≤ 64) : varS 64 (y :: s) 0 = ((y.toNat : Int), s, 0) := var_ok 64 (by omega) y s (by omega)
theorem var64_bad (r : List UInt8) (h : ∀ y s, r = y :: s → 64 < y.toNat) : (varS 64 r 0).2.2 ≠ 0 := var_bad 64 (by omega) r fun y s e => by have := h y s e; omega
theorem raw_bad (n : Int) (bs : List UInt8) (e : Int) (h : e ≠ 0) : (rawS n bs e).2.2 ≠ 0 := by
  unfold rawS
  by_cases hn : n < 0
  · rw [if_pos hn, if_neg h]; exact h
  · rw [if_neg hn, take_bad _ _ _ h]; exact h
theorem text_bad (r : List UInt8) (h : ∀ y s, r = y :: s → ¬ (y.toNat ≤ 64 ∧ y.toNat ≤ s.length)) : (textS 64 r 0).2.2 ≠ 0 := by
  have hc : countS 64 r 0 = varS 64 r 0 := by unfold countS; rw [if_pos (by omega)]
  unfold textS
  rw [hc]
  by_cases hv : (varS 64 r 0).2.2 = 0
  · obtain ⟨y, s, rfl, hy⟩ : ∃ y s, r = y :: s ∧ y.toNat ≤ 64 := Classical.byContradiction fun hn => var64_bad r (fun y s e => Classical.byContradiction fun h1 => hn ⟨y, s, e, by omega⟩) hv
    have hs := h y s rfl
    rw [var64_ok y s hy]
    have e1 : rawS (y.toNat : Int) s 0 = ([], s, 10) := by
      unfold rawS takeS
      rw [if_neg (by omega), if_neg (by simp), if_pos (by rw [Int.toNat_natCast]; omega)]
    dsimp only
    rw [e1, if_pos (by simp)]
    simp
  · have := raw_bad (varS 64 r 0).1 (varS 64 r 0).2.1 _ hv
    rw [if_pos this]
    exact this
theorem text_ok (y : UInt8) (s : List UInt8) (h : y.toNat ≤ 64) (hs : y.toNat ≤ s.length) : textS 64 (y :: s) 0 = (s.take y.toNat, s.drop y.toNat, 0) := by
  have hc : countS 64 (y :: s) 0 = varS 64 (y :: s) 0 := by unfold countS; rw [if_pos (by omega)]
  unfold textS
  rw [hc, var64_ok y s h]
  have e1 : rawS (y.toNat : Int) s 0 = (s.take y.toNat, s.drop y.toNat, 0) := by
    unfold rawS takeS
    rw [if_neg (by omega), if_neg (by simp), if_neg (by rw [Int.toNat_natCast]; omega), Int.toNat_natCast]
  dsimp only
  rw [e1, if_neg (by simp)]
theorem tvS_no (bs : List UInt8) (h : (rowF bs).2 = 0) : (tvS bs 0).2.2 ≠ 0 := by
  cases bs with
  | nil => unfold tvS takeS; simp [tvS1, num]
  | cons f r =>
    rw [tvS_cons]
    unfold tvS1
    by_cases h0 : f.toNat = 0
    · simp [rowF, fixF, h0] at h
    rw [if_neg h0]
    by_cases h1 : f.toNat = 1
    · rw [if_pos h1]
      refine var1_bad r fun y s e => ?_
      subst e
      by_cases hy : y.toNat ≤ 1
      · simp [rowF, fixF, h1, hy] at h
      · omega
    rw [if_neg h1]
    by_cases h2 : f.toNat = 2
    · rw [if_pos h2]
      by_cases h8 : 8 ≤ r.length
      · simp [rowF, fixF, h2, h8] at h
      · have : takeS 8 r 0 = ([], r, 10) := by unfold takeS; rw [if_neg (by simp), if_pos (by omega)]
        rw [this]; simp
    rw [if_neg h2]
    by_cases h3 : f.toNat = 3
    · rw [if_pos h3]
      refine text_bad r fun y s e hc => ?_
      subst e
      simp [rowF, h3, hc] at h
    · rw [if_neg h3]; simp
theorem tvS_ok (bs : List UInt8) (h : (rowF bs).2 ≠ 0) : tvS bs 0 = ((rowF bs).1, bs.drop (rowF bs).2, 0) := by
  cases bs with
  | nil => simp [rowF] at h
  | cons f r =>
    rw [tvS_cons]
    unfold tvS1
    by_cases h0 : f.toNat = 0
    · simp [rowF, fixF, h0]
    rw [if_neg h0]
    by_cases h1 : f.toNat = 1
    · rw [if_pos h1]
      cases r with
      | nil => simp [rowF, fixF, h1] at h
      | cons y s =>
        by_cases hy : y.toNat ≤ 1
        · rw [var1_ok y s hy]
          have : ((y.toNat : Int) == 1) = (y.toNat == 1) := by rcases (by omega : y.toNat = 0 ∨ y.toNat = 1) with e | e <;> rw [e] <;> rfl
          simp [rowF, fixF, h1, hy, this]
        · simp [rowF, fixF, h1, hy] at h
    rw [if_neg h1]
    by_cases h2 : f.toNat = 2
    · rw [if_pos h2]
      by_cases h8 : 8 ≤ r.length
      · have : takeS 8 r 0 = (r.take 8, r.drop 8, 0) := by unfold takeS; rw [if_neg (by simp), if_neg (by omega)]
        rw [this]
        simp [rowF, fixF, h2, h8]
      · simp [rowF, fixF, h2, h8] at h
    rw [if_neg h2]
    by_cases h3 : f.toNat = 3
    · rw [if_pos h3]
      cases r with
      | nil => simp [rowF, h3] at h
      | cons y s =>
        by_cases hc : y.toNat ≤ 64 ∧ y.toNat ≤ s.length
        · rw [text_ok y s hc.1 hc.2]
          have : (f :: y :: s).drop (2 + y.toNat) = s.drop y.toNat := by rw [Nat.add_comm]; rfl
          simp [rowF, h3, hc, this]
        · simp [rowF, h3, hc] at h
    · simp [rowF, fixF, h0, h1, h2, h3] at h
theorem tvS_put (v : Val) (h : v.right = true) (hi : v.in64) (s : List UInt8) : tvS (rowB v ++ s) 0 = (v, s, 0) := by
  have e := rowF_put v h hi s
  have hp := rowB_pos h
  rw [tvS_ok _ (by rw [e]; dsimp only; omega), e]
  dsimp only
  rw [List.drop_left]
theorem tvS_back {bs bs' : List UInt8} {e e' : Int} {v : Val} (h : tvS bs e = (v, bs', e')) (h' : e' = 0) : e = 0 ∧ v.right = true ∧ v.in64 ∧ bs = rowB v ++ bs' := by
  subst h'
  by_cases he : e = 0
  · subst he
    by_cases hn : (rowF bs).2 = 0
    · exact absurd (by rw [h]) (tvS_no bs hn)
    · rw [tvS_ok bs hn] at h
      injection h with h1 h2
      injection h2 with h2 h3
      obtain ⟨r, b⟩ := rowF_back bs hn
      have i := rowF_in64 bs
      rw [h1] at r b i
      exact ⟨rfl, r, i, by rw [b, ← h2, List.take_append_drop]⟩
  · exact absurd (by rw [h]) (tvS_bad bs e he)
/-- What a head's bytes are, there is one way to read. -/
theorem form_same {k m n k' m' n' x y x' y' : UInt8} {v1 v2 u1 u2 : Val} {r r' : List UInt8} (r1 : v1.right = true) (r2 : v2.right = true) (i1 : v1.in64) (i2 : v2.in64) (s1 : u1.right = true) (s2 : u2.right = true) (j1 : u1.in64) (j2 : u2.in64)
    (h : k :: m :: n :: (rowB v1 ++ rowB v2 ++ x :: y :: r) = k' :: m' :: n' :: (rowB u1 ++ rowB u2 ++ x' :: y' :: r')) : k = k' ∧ m = m' ∧ n = n' ∧ x = x' ∧ y = y' ∧ r = r' := by
  injection h with h1 h
  injection h with h2 h
  injection h with h3 h
  rw [List.append_assoc, List.append_assoc] at h
  have a1 := rowF_put v1 r1 i1 (rowB v2 ++ x :: y :: r)
  have a2 := rowF_put u1 s1 j1 (rowB u2 ++ x' :: y' :: r')
  rw [h, a2] at a1
  injection a1 with e1 e2
  subst e1
  have h' := List.append_cancel_left h
  have b1 := rowF_put v2 r2 i2 (x :: y :: r)
  have b2 := rowF_put u2 s2 j2 (x' :: y' :: r')
  rw [h', b2] at b1
  injection b1 with e3 e4
  subst e3
  have h'' := List.append_cancel_left h'
  injection h'' with h4 h''
  injection h'' with h5 h6
  exact ⟨h1, h2, h3, h4, h5, h6⟩
/-- A reader goes over a head. -/
structure Chain (f : List UInt8) (o1 o2 o3 o6 o7 : List UInt8) (v1 v2 : Val) (f7 : List UInt8) (e7 : Int) : Prop where
  all : ∃ f1 f2 f3 f4 f5 f6 e1 e2 e3 e4 e5 e6, takeS 1 f 0 = (o1, f1, e1) ∧ takeS 1 f1 e1 = (o2, f2, e2) ∧ takeS 1 f2 e2 = (o3, f3, e3) ∧ tvS f3 e3 = (v1, f4, e4) ∧ tvS f4 e4 = (v2, f5, e5) ∧ takeS 1 f5 e5 = (o6, f6, e6) ∧ takeS 1 f6 e6 = (o7, f7, e7)
theorem chain_form {f o1 o2 o3 o6 o7 f7 : List UInt8} {v1 v2 : Val} (h : Chain f o1 o2 o3 o6 o7 v1 v2 f7 0) : ∃ k m n x y, o1 = [k] ∧ o2 = [m] ∧ o3 = [n] ∧ o6 = [x] ∧ o7 = [y] ∧ v1.right = true ∧ v2.right = true ∧ v1.in64 ∧ v2.in64 ∧ f = k :: m :: n :: (rowB v1 ++ rowB v2 ++ x :: y :: f7) := by
  obtain ⟨f1, f2, f3, f4, f5, f6, e1, e2, e3, e4, e5, e6, h1, h2, h3, h4, h5, h6, h7⟩ := h.all
  obtain ⟨z6, y, q7, p7⟩ := take1_ok h7 rfl
  obtain ⟨z5, x, q6, p6⟩ := take1_ok h6 z6
  obtain ⟨z4, r2, i2, q5⟩ := tvS_back h5 z5
  obtain ⟨z3, r1, i1, q4⟩ := tvS_back h4 z4
  obtain ⟨z2, n, q3, p3⟩ := take1_ok h3 z3
  obtain ⟨z1, m, q2, p2⟩ := take1_ok h2 z2
  obtain ⟨_, k, q1, p1⟩ := take1_ok h1 z1
  exact ⟨k, m, n, x, y, p1, p2, p3, p6, p7, r1, r2, i1, i2, by rw [q1, q2, q3, q4, q5, q6, q7, List.append_assoc]⟩
theorem form_chain {f o1 o2 o3 o6 o7 f7 : List UInt8} {v1 v2 : Val} {e7 : Int} (h : Chain f o1 o2 o3 o6 o7 v1 v2 f7 e7) {k m n x y : UInt8} {u1 u2 : Val} {r : List UInt8} (r1 : u1.right = true) (r2 : u2.right = true) (i1 : u1.in64) (i2 : u2.in64) (hf : f = k :: m :: n :: (rowB u1 ++ rowB u2 ++ x :: y :: r)) : e7 = 0 := by
  obtain ⟨f1, f2, f3, f4, f5, f6, e1, e2, e3, e4, e5, e6, h1, h2, h3, h4, h5, h6, h7⟩ := h.all
  rw [hf, take_one] at h1
  injection h1 with a1 h1; injection h1 with b1 c1
  rw [← b1, ← c1, take_one] at h2
  injection h2 with a2 h2; injection h2 with b2 c2
  rw [← b2, ← c2, take_one] at h3
  injection h3 with a3 h3; injection h3 with b3 c3
  rw [← b3, ← c3, List.append_assoc, tvS_put u1 r1 i1] at h4
  injection h4 with a4 h4; injection h4 with b4 c4
  rw [← b4, ← c4, tvS_put u2 r2 i2] at h5
  injection h5 with a5 h5; injection h5 with b5 c5
  rw [← b5, ← c5, take_one] at h6
  injection h6 with a6 h6; injection h6 with b6 c6
  rw [← b6, ← c6, take_one] at h7
  injection h7 with a7 h7; injection h7 with b7 c7
  exact c7.symm
/-- What a reader makes of the first bytes is the head of all of them. -/
theorem chain_head {bs o1 o2 o3 o6 o7 f7 : List UInt8} {v1 v2 : Val} {e7 : Int} (h : Chain (bs.take 137) o1 o2 o3 o6 o7 v1 v2 f7 e7) (size B : Nat) (hs : size + f7.length = (bs.take 137).length) (hB : B = size + (num o6 * 256 + num o7) + 4) :
    (e7 = 0 ∧ num o1 ≤ 4 ∧ 1 ≤ num o2 ∧ num o2 ≤ 64 ∧ num o3 ≤ num o2 ∧ B ≤ bs.length → hdR bs = some (⟨num o1, num o2, v1, v2, num o3, B⟩, size)) ∧
    (¬ (e7 = 0 ∧ num o1 ≤ 4 ∧ 1 ≤ num o2 ∧ num o2 ≤ 64 ∧ num o3 ≤ num o2 ∧ B ≤ bs.length) → hdR bs = none) := by
  constructor
  · rintro ⟨rfl, c1, c2, c3, c4, c5⟩
    obtain ⟨k, m, n, x, y, rfl, rfl, rfl, rfl, rfl, r1, r2, i1, i2, hf⟩ := chain_form h
    simp only [num_one] at *
    have hl : (bs.take 137).length = 5 + (rowB v1).length + (rowB v2).length + f7.length := by rw [hf]; simp; omega
    have hbs : bs = k :: m :: n :: (rowB v1 ++ rowB v2 ++ x :: y :: (f7 ++ bs.drop 137)) := by
      conv => lhs; rw [← List.take_append_drop 137 bs, hf]
      simp
    have hbl : bs.length = 5 + (rowB v1).length + (rowB v2).length + (f7 ++ bs.drop 137).length := by
      conv => lhs; rw [hbs]
      simp
      omega
    have := hdR_put k m n v1 v2 x y (f7 ++ bs.drop 137) r1 r2 i1 i2 c1 c2 c3 c4 (by omega)
    rw [← hbs] at this
    rw [this]
    have e1 : size = 5 + (rowB v1).length + (rowB v2).length := by omega
    rw [hB, e1]
  · intro hn
    cases hh : hdR bs with
    | none => rfl
    | some q =>
      exfalso
      obtain ⟨i, s⟩ := q
      obtain ⟨k, m, n, u1, u2, x, y, rest, hb, s1, s2, j1, j2, c1, c2, c3, c4, hi, hss, hl⟩ := hdR_some hh
      have l1 := rowB_length s1
      have l2 := rowB_length s2
      obtain ⟨z, hz⟩ : ∃ z, 137 = z + (rowB u1 ++ rowB u2).length + 5 := ⟨137 - (rowB u1 ++ rowB u2).length - 5, by simp; omega⟩
      have ht : bs.take 137 = k :: m :: n :: (rowB u1 ++ rowB u2 ++ x :: y :: rest.take z) := by
        rw [hb, hz, show z + (rowB u1 ++ rowB u2).length + 5 = ((rowB u1 ++ rowB u2).length + (z + 2)) + 3 by omega]
        simp only [List.take_succ_cons, List.take_length_add_append]
      have he := form_chain h s1 s2 j1 j2 ht
      subst he
      obtain ⟨k', m', n', x', y', rfl, rfl, rfl, rfl, rfl, r1, r2, i1, i2, hf⟩ := chain_form h
      rw [ht] at hf
      obtain ⟨rfl, rfl, rfl, rfl, rfl, rfl⟩ := form_same s1 s2 j1 j2 r1 r2 i1 i2 hf
      simp only [num_one] at *
      refine hn ⟨by first | trivial | rfl, c1, c2, c3, c4, ?_⟩
      have hl2 : (bs.take 137).length = 5 + (rowB u1).length + (rowB u2).length + (rest.take z).length := by rw [ht]; simp; omega
      omega
end Go.Proofs.YtafcdckpicoppaaGreatDoor
end

section
namespace Go.Proofs.YtafcdckpicoppaaGreatDoor
open Go.RowKit Go.Hay
set_option linter.unusedVariables false

set_option maxHeartbeats 400000 in
theorem rWord (p : Nat) (D : List Nat) (bs : List UInt8) (e0 : Int) (w : World) (h : Rd w p D bs e0) :
    Calls Tryz.prog 69 #[.pointer (some ⟨p, 0, none⟩)] w fun e w' => ∃ out bs' e', takeS 4 bs e0 = (out, bs', e') ∧ e = .returned (.int .u32 (num out)) ∧ Rd w' p D bs' e' ∧ Kp [p] w w' := by
  go_enter Tryz.func69, Tryz.ntmps69
  go_wp2_with fail
  refine (rTake p D bs e0 4 _ h (by omega)).mono ?_
  rintro e w1 ⟨out, bs', e', a, c, ht, rfl, hs, hD, hl, hr, hk⟩
  have hlen := takeS_len _ _ _ ht
  have hnum := num_lt_of out 4 hlen
  have HT := hid ht
  clear ht
  go_wp2_with fail
  refine (cNumber a _ c out _ hs rfl (by omega)).mono ?_
  rintro e w2 ⟨rfl, rfl⟩
  go_wp2_with fail
  go_ret
  exact ⟨out, bs', e', HT.out, rfl, hr, hk⟩
set_option maxHeartbeats 400000 in
theorem rLong (p : Nat) (D : List Nat) (bs : List UInt8) (e0 : Int) (w : World) (h : Rd w p D bs e0) :
    Calls Tryz.prog 64 #[.pointer (some ⟨p, 0, none⟩)] w fun e w' => ∃ out bs' e', takeS 8 bs e0 = (out, bs', e') ∧ e = .returned (.int .u64 (num out)) ∧ Rd w' p D bs' e' ∧ Kp [p] w w' := by
  go_enter Tryz.func64, Tryz.ntmps64
  go_wp2_with fail
  refine (rTake p D bs e0 8 _ h (by omega)).mono ?_
  rintro e w1 ⟨out, bs', e', a, c, ht, rfl, hs, hD, hl, hr, hk⟩
  have hlen := takeS_len _ _ _ ht
  have hnum := num_lt_of out 8 hlen
  have HT := hid ht
  clear ht
  go_wp2_with fail
  refine (cNumber a _ c out _ hs rfl (by omega)).mono ?_
  rintro e w2 ⟨rfl, rfl⟩
  go_wp2_with fail
  go_ret
  exact ⟨out, bs', e', HT.out, rfl, hr, hk⟩
end Go.Proofs.YtafcdckpicoppaaGreatDoor
end

section
namespace Go.Proofs.YtafcdckpicoppaaGreatDoor
open Go.RowKit Go.Hay
set_option linter.unusedVariables false
set_option linter.unusedSimpArgs false

theorem gen4q {w : World} {q : Nat} {a b c d : Value} {R : World → Prop} (h : Box4 w q a b c d) (a' b' c' d' : Value)
    (H : ∀ W, Box4 W q a' b' c' d' → Kp [q] w W → R W) : R ((((w.setCell ⟨q, 0, none⟩ a').setCell ⟨q, 1, none⟩ b').setCell ⟨q, 2, none⟩ c').setCell ⟨q, 3, none⟩ d') := by
  have hk : Kp [q] w w := Kp.refl _ _
  exact H _ (h.put a' b' c' d') ((((hk.setCell (.inl (by simp)) _).setCell (.inl (by simp)) _).setCell (.inl (by simp)) _).setCell (.inl (by simp)) _)
/-- What takeValue hands back. -/
def TvP (p : Nat) (D : List Nat) (r : Val × List UInt8 × Int) (w : World) (e : Ending) (w' : World) : Prop := e = .returned r.1.v ∧ Rd w' p D r.2.1 r.2.2 ∧ Kp [p] w w'
theorem box_rd {w w' : World} {p q : Nat} {a b c d : Value} (h : Box4 w q a b c d) (hk : Kp [p] w w') (hq : p ≠ q) : Box4 w' q a b c d := h.kept hk (by simp; omega)
theorem rd_q {w w' : World} {p q : Nat} {D : List Nat} {bs : List UInt8} {e : Int} (h : Rd w p D bs e) (hk : Kp [q] w w') (hq : p ≠ q) (hD : ∀ k ∈ D, k ≠ q) : Rd w' p D bs e := h.kept hk (by simpa using hq) (fun k hk' => by simpa using hD k hk')
set_option maxHeartbeats 16000000 in
set_option maxRecDepth 100000 in
theorem bTakeValue (p : Nat) (D : List Nat) (bs : List UInt8) (e0 : Int) (w : World) (h : Rd w p D bs e0) (hb : bs.length ≤ 1000) :
    Calls Tryz.prog 39 #[.pointer (some ⟨p, 0, none⟩)] w (TvP p D (tvS bs e0) w) := by
  obtain ⟨w1, hw1, kw1, bx⟩ : ∃ w1, w.alloc (.cells #[.int .i64 0, .bool false, .int .i64 0, .string ⟨#[]⟩] 25) = w1 ∧ Kp [] w w1 ∧ Box4 w1 w.heap.size (.int .i64 0) (.bool false) (.int .i64 0) (.string ⟨#[]⟩) := ⟨_, rfl, (Kp.refl _ _).alloc _, Box4.new _ _ _ _ _ _⟩
  have hpq : p ≠ w.heap.size := by have := h.lt; omega
  have hDq : Hid (∀ k ∈ D, k ≠ w.heap.size) := fun k hk => by have := h.dlt k hk; omega
  have h1 := h.kept kw1 (by simp) (by simp)
  have cB := rByte p D bs e0 w1 h1
  obtain ⟨q, hq⟩ : ∃ q, Hid (w.heap.size = q) := ⟨_, rfl⟩
  have hpq' : p ≠ q := by rw [← hq.out]; exact hpq
  have hDq' : Hid (∀ k ∈ D, k ≠ q) := by rw [← hq.out]; exact hDq
  have bx' : Hid (Box4 w1 q (.int .i64 0) (.bool false) (.int .i64 0) (.string ⟨#[]⟩)) := by rw [← hq.out]; exact bx
  have hqs : w.heap.size ≤ q := by rw [hq.out]; omega
  rw [← hw1] at cB
  have hw1' := hid hw1
  have hkw := hid kw1
  clear hw1 h h1 bx kw1 hpq hDq
  go_enter Tryz.func39, Tryz.ntmps39
  go_wp2_with fail
  refine cB.mono ?_
  rintro e w2 ⟨out, bs2, e2, ht, rfl, hr2, k2⟩
  rw [hw1'.out] at k2
  have b2 := box_rd bx'.out k2 hpq'
  have kk2 : Kp [p] w w2 := (hkw.out.mono (by simp)).trans k2 (fun x hx => .inl hx)
  have htv : Hid (tvS bs e0 = tvS1 (num out) bs2 e2) := by show _ = _; unfold tvS; rw [ht]
  have hb2 : bs2.length ≤ 1000 := by
    have hh := congrArg (fun r => r.2.1.length) ht
    dsimp only at hh
    rw [← hh]
    unfold takeS
    split
    · exact hb
    · split
      · exact hb
      · simp; omega
  obtain ⟨x, hx⟩ : ∃ x : Nat, Hid (num out = x) := ⟨_, rfl⟩
  rw [hx.out] at htv ⊢
  have H2 := hid (And.intro b2 (And.intro kk2 hr2))
  have hxx : x < 256 := by
    rw [← hx.out]
    have h1 : out.length ≤ 1 := by
      have hh := congrArg (fun r => r.1.length) ht
      dsimp only at hh
      rw [← hh]
      unfold takeS
      split
      · simp
      · split
        · simp
        · simp; omega
    have := num_lt_of out 1 h1
    omega
  rw [hq.out]
  clear cB ht b2 kk2 hr2 k2 bx' hkw hw1' hb hx hqs
  by_cases h0 : x = 0
  · subst h0
    have htv : Hid (tvS bs e0 = (nilV, bs2, e2)) := by show _ = _; rw [htv.out]; unfold tvS1; rw [if_pos rfl]
    go_wp2_with fail
    refine (cNull w2).mono ?_
    rintro e w3 ⟨rfl, k3⟩
    have HB := hid (H2.out.1.kept k3 (by simp))
    have HK := hid (And.intro (H2.out.2.1.trans k3 (by simp)) (H2.out.2.2.kept k3 (by simp) (by simp)))
    have fB := HB.out
    have p0 := fB.c0; have p1 := fB.c1; have p2 := fB.c2; have p3 := fB.c3
    have f0 := fB.free 0; have f1 := fB.free 1; have f2 := fB.free 2; have f3 := fB.free 3
    clear fB
    go_wp2_with fail
    refine gen4q (R := fun W => bodyPost _ _ _ _ _ W) HB.out _ _ _ _ ?_
    intro W bW kW
    have r0 := bW.c0; have r1 := bW.c1; have r2 := bW.c2; have r3 := bW.c3
    refine bodyPost_ret (v := Val.v nilV) (by simp [results, Tryz.results39, go_sem, Val.v, nilV, r0, r1, r2, r3]) rfl ?_
    unfold TvP
    rw [htv.out]
    exact ⟨rfl, rd_q HK.out.2 kW hpq' hDq'.out, (HK.out.1).trans kW (fun y hy => .inr (by simp at hy; rw [hy, ← hq.out]; exact Nat.le_refl _))⟩
  have d0 : ((x : Int) == 0) = false := beq_eq_false_iff_ne.2 (by omega)
  by_cases h1 : x = 1
  · subst h1
    have cV := rVar p D bs2 e2 1 w2 H2.out.2.2 (by omega) (by omega)
    go_wp2_with fail
    refine cV.mono ?_
    rintro e w3 ⟨n, bs3, e3, hv, rfl, hr3, k3⟩
    have htv : Hid (tvS bs e0 = (⟨1, n == 1, 0, ⟨#[]⟩⟩, bs3, e3)) := by show _ = _; rw [htv.out]; unfold tvS1; rw [if_neg (by omega), if_pos rfl, hv]
    have HB3 := hid (box_rd H2.out.1 k3 hpq')
    have HK3 := hid (And.intro (H2.out.2.1.trans k3 (fun x hx => .inl hx)) hr3)
    clear hv hr3 cV H2
    obtain ⟨bn, hbn⟩ : ∃ b, Hid ((n == 1) = b) := ⟨_, rfl⟩
    rw [hbn.out] at htv
    go_wp2_with fail
    rw [hbn.out]
    refine (cBool bn w3).mono ?_
    rintro e w4 ⟨rfl, k4⟩
    have HB := hid (HB3.out.kept k4 (by simp))
    have HK := hid (And.intro (HK3.out.1.trans k4 (by simp)) (HK3.out.2.kept k4 (by simp) (by simp)))
    clear hbn k3
    have fB := HB.out
    have p0 := fB.c0; have p1 := fB.c1; have p2 := fB.c2; have p3 := fB.c3
    have f0 := fB.free 0; have f1 := fB.free 1; have f2 := fB.free 2; have f3 := fB.free 3
    clear fB
    go_wp2_with fail
    refine gen4q (R := fun W => bodyPost _ _ _ _ _ W) HB.out _ _ _ _ ?_
    intro W bW kW
    have r0 := bW.c0; have r1 := bW.c1; have r2 := bW.c2; have r3 := bW.c3
    refine bodyPost_ret (v := Val.v ⟨1, bn, 0, ⟨#[]⟩⟩) (by simp [results, Tryz.results39, go_sem, Val.v, nilV, r0, r1, r2, r3]) rfl ?_
    unfold TvP
    rw [htv.out]
    exact ⟨rfl, rd_q HK.out.2 kW hpq' hDq'.out, (HK.out.1).trans kW (fun y hy => .inr (by simp at hy; rw [hy, ← hq.out]; exact Nat.le_refl _))⟩
  have d1 : ((x : Int) == 1) = false := beq_eq_false_iff_ne.2 (by omega)
  by_cases h2 : x = 2
  · subst h2
    have cV := rLong p D bs2 e2 w2 H2.out.2.2
    go_wp2_with fail
    refine cV.mono ?_
    rintro e w3 ⟨o3, bs3, e3, hv, rfl, hr3, k3⟩
    have htv : Hid (tvS bs e0 = (⟨2, false, wrap64 (num o3), ⟨#[]⟩⟩, bs3, e3)) := by show _ = _; rw [htv.out]; unfold tvS1; rw [if_neg (by omega), if_neg (by omega), if_pos rfl, hv]
    have HB3 := hid (box_rd H2.out.1 k3 hpq')
    have HK3 := hid (And.intro (H2.out.2.1.trans k3 (fun x hx => .inl hx)) hr3)
    have hw : IntKind.i64.wrap ((num o3 : Nat) : Int) = wrap64 (num o3) := by generalize num o3 = n3; rw [IntKind.wrap_i64]; try (unfold wrap64; omega)
    obtain ⟨z, hz⟩ : ∃ z, Hid (wrap64 (num o3) = z) := ⟨_, rfl⟩
    rw [hz.out] at htv hw
    obtain ⟨y, hy⟩ : ∃ y : Nat, Hid (num o3 = y) := ⟨_, rfl⟩
    rw [hy.out] at hw ⊢
    clear hv hr3 cV H2 hz hy
    go_wp2_with fail
    refine (cInt z w3).mono ?_
    rintro e w4 ⟨rfl, k4⟩
    have HB := hid (HB3.out.kept k4 (by simp))
    have HK := hid (And.intro (HK3.out.1.trans k4 (by simp)) (HK3.out.2.kept k4 (by simp) (by simp)))
    clear k3
    have fB := HB.out
    have p0 := fB.c0; have p1 := fB.c1; have p2 := fB.c2; have p3 := fB.c3
    have f0 := fB.free 0; have f1 := fB.free 1; have f2 := fB.free 2; have f3 := fB.free 3
    clear fB
    go_wp2_with fail
    refine gen4q (R := fun W => bodyPost _ _ _ _ _ W) HB.out _ _ _ _ ?_
    intro W bW kW
    have r0 := bW.c0; have r1 := bW.c1; have r2 := bW.c2; have r3 := bW.c3
    refine bodyPost_ret (v := Val.v ⟨2, false, z, ⟨#[]⟩⟩) (by simp [results, Tryz.results39, go_sem, Val.v, nilV, r0, r1, r2, r3]) rfl ?_
    unfold TvP
    rw [htv.out]
    exact ⟨rfl, rd_q HK.out.2 kW hpq' hDq'.out, (HK.out.1).trans kW (fun y hy => .inr (by simp at hy; rw [hy, ← hq.out]; exact Nat.le_refl _))⟩
  have d2 : ((x : Int) == 2) = false := beq_eq_false_iff_ne.2 (by omega)
  by_cases h3 : x = 3
  · subst h3
    have cV := rText p D bs2 e2 64 w2 H2.out.2.2 (by omega) (by omega) (by omega)
    go_wp2_with fail
    refine cV.mono ?_
    rintro e w3 ⟨o3, bs3, e3, v3, hv, rfl, hrow, hn3, hr3, k3⟩
    have htv : Hid (tvS bs e0 = (⟨3, false, 0, ⟨o3.toArray⟩⟩, bs3, e3)) := by show _ = _; rw [htv.out]; unfold tvS1; rw [if_neg (by omega), if_neg (by omega), if_neg (by omega), if_pos rfl, hv]
    have HB3 := hid (box_rd H2.out.1 k3 hpq')
    have HK3 := hid (And.intro (H2.out.2.1.trans k3 (fun x hx => .inl hx)) hr3)
    obtain ⟨a3, c3, rfl, hs3, _⟩ := hrow.sees
    have hcv := convSees hs3 c3
    obtain ⟨T, hT⟩ : ∃ T, Hid ((⟨o3.toArray⟩ : ByteArray) = T) := ⟨_, rfl⟩
    rw [hT.out] at htv hcv
    clear hv hr3 cV H2 hrow hn3 hs3 hT
    go_wp2_with fail
    refine (cText T w3).mono ?_
    rintro e w4 ⟨rfl, k4⟩
    have HB := hid (HB3.out.kept k4 (by simp))
    have HK := hid (And.intro (HK3.out.1.trans k4 (by simp)) (HK3.out.2.kept k4 (by simp) (by simp)))
    clear k3 hcv
    have fB := HB.out
    have p0 := fB.c0; have p1 := fB.c1; have p2 := fB.c2; have p3 := fB.c3
    have f0 := fB.free 0; have f1 := fB.free 1; have f2 := fB.free 2; have f3 := fB.free 3
    clear fB
    go_wp2_with fail
    refine gen4q (R := fun W => bodyPost _ _ _ _ _ W) HB.out _ _ _ _ ?_
    intro W bW kW
    have r0 := bW.c0; have r1 := bW.c1; have r2 := bW.c2; have r3 := bW.c3
    refine bodyPost_ret (v := Val.v ⟨3, false, 0, T⟩) (by simp [results, Tryz.results39, go_sem, Val.v, nilV, r0, r1, r2, r3]) rfl ?_
    unfold TvP
    rw [htv.out]
    exact ⟨rfl, rd_q HK.out.2 kW hpq' hDq'.out, (HK.out.1).trans kW (fun y hy => .inr (by simp at hy; rw [hy, ← hq.out]; exact Nat.le_refl _))⟩
  have d3 : ((x : Int) == 3) = false := beq_eq_false_iff_ne.2 (by omega)
  have cV := rFail p D bs2 e2 70 w2 H2.out.2.2
  have htv : Hid (tvS bs e0 = (nilV, bs2, if e2 = 0 then 70 else e2)) := by show _ = _; rw [htv.out]; unfold tvS1; rw [if_neg h0, if_neg h1, if_neg h2, if_neg h3]
  obtain ⟨z, hz⟩ : ∃ z : Int, Hid ((if e2 = 0 then 70 else e2) = z) := ⟨_, rfl⟩
  rw [hz.out] at htv cV
  clear hz
  go_wp2_with fail
  refine cV.mono ?_
  rintro e w3 ⟨rfl, hr3, k3⟩
  have HB3 := hid (box_rd H2.out.1 k3 hpq')
  have HK3 := hid (And.intro (H2.out.2.1.trans k3 (fun x hx => .inl hx)) hr3)
  clear hr3 cV H2
  go_wp2_with fail
  refine (cNull w3).mono ?_
  rintro e w4 ⟨rfl, k4⟩
  have HB := hid (HB3.out.kept k4 (by simp))
  have HK := hid (And.intro (HK3.out.1.trans k4 (by simp)) (HK3.out.2.kept k4 (by simp) (by simp)))
  clear k3
  have fB := HB.out
  have p0 := fB.c0; have p1 := fB.c1; have p2 := fB.c2; have p3 := fB.c3
  have f0 := fB.free 0; have f1 := fB.free 1; have f2 := fB.free 2; have f3 := fB.free 3
  clear fB
  go_wp2_with fail
  refine gen4q (R := fun W => bodyPost _ _ _ _ _ W) HB.out _ _ _ _ ?_
  intro W bW kW
  have r0 := bW.c0; have r1 := bW.c1; have r2 := bW.c2; have r3 := bW.c3
  refine bodyPost_ret (v := Val.v nilV) (by simp [results, Tryz.results39, go_sem, Val.v, nilV, r0, r1, r2, r3]) rfl ?_
  unfold TvP
  rw [htv.out]
  exact ⟨rfl, rd_q HK.out.2 kW hpq' hDq'.out, (HK.out.1).trans kW (fun y hy => .inr (by simp at hy; rw [hy, ← hq.out]; exact Nat.le_refl _))⟩
end Go.Proofs.YtafcdckpicoppaaGreatDoor
end

section
namespace Go.Proofs.YtafcdckpicoppaaGreatDoor
open Go.RowKit Go.Hay
set_option linter.unusedVariables false
set_option linter.unusedSimpArgs false

theorem cCan (k : Int) (a : Option Addr) (ca : Nat) (l : List Val) (w : World) (ha : Vals w a l) (hl : l.length ≤ 9223372036854775807) :
    Calls Tryz.prog 68 #[.int .i64 k, .slice a l.length ca] w fun e w' => e = .returned (.bool (refE k l == 0)) ∧ Kp [] w w' := by
  have cR := cRefusedE k a ca l w ha hl
  obtain ⟨E, hE⟩ : ∃ E, Hid (refE k l = E) := ⟨_, rfl⟩
  rw [hE.out] at cR ⊢
  clear ha
  go_enter Tryz.func68, Tryz.ntmps68
  go_wp2_with fail
  refine cR.mono ?_
  rintro e w1 ⟨rfl, k1⟩
  go_wp2_with fail
  go_ret
  exact ⟨rfl, k1⟩
end Go.Proofs.YtafcdckpicoppaaGreatDoor
end

section
namespace Go.Proofs.YtafcdckpicoppaaGreatDoor
open Go.RowKit Go.Hay
set_option linter.unusedVariables false
set_option linter.unusedSimpArgs false

theorem genS {w : World} {q : Nat} {cs : List Value} {R : World → Prop} (h : Bx w q cs) (i : Nat) (hi : i < cs.length) (v : Value) (H : ∀ W, Bx W q (cs.set i v) → Kp [q] w W → R W) : R (w.setCell ⟨q, i, none⟩ v) :=
  H _ (h.set i hi v) ((Kp.refl [q] w).setCell (.inl (by simp)) _)
theorem genS4 {w : World} {q : Nat} {cs : List Value} {R : World → Prop} (h : Bx w q cs) (i j k m : Nat) (hi : i < cs.length) (hj : j < cs.length) (hk : k < cs.length) (hm : m < cs.length) (v1 v2 v3 v4 : Value)
    (H : ∀ W, Bx W q ((((cs.set i v1).set j v2).set k v3).set m v4) → Kp [q] w W → R W) : R ((((w.setCell ⟨q, i, none⟩ v1).setCell ⟨q, j, none⟩ v2).setCell ⟨q, k, none⟩ v3).setCell ⟨q, m, none⟩ v4) := by
  have hk0 : Kp [q] w w := Kp.refl _ _
  exact H _ ((((h.set i hi v1).set j (by simpa using hj) v2).set k (by simpa using hk) v3).set m (by simpa using hm) v4) ((((hk0.setCell (.inl (by simp)) _).setCell (.inl (by simp)) _).setCell (.inl (by simp)) _).setCell (.inl (by simp)) _)
def mayB (i : Inf) : Bool := knownB i.kind && (decide (1 ≤ i.many) && (decide (i.many ≤ 64) && decide (i.nulls ≤ i.many)))
theorem refE_nil (k : Int) : (refE k [] == 0) = knownB k := by
  unfold refE
  cases h : knownB k <;> simp [allR, allI]
set_option maxHeartbeats 8000000 in
set_option maxRecDepth 100000 in
theorem bMayBe (i : Inf) (w : World) : Calls Tryz.prog 42 #[i.v] w fun e w' => e = .returned (.bool (mayB i)) ∧ Kp [] w w' := by
  obtain ⟨w1, hw1, kw1, bx⟩ : ∃ w1, w.alloc (.cells i.cs.toArray 35) = w1 ∧ Kp [] w w1 ∧ Bx w1 w.heap.size i.cs := ⟨_, rfl, (Kp.refl _ _).alloc _, Bx.new w _ _⟩
  obtain ⟨k, m, ⟨ak, ab, an, at'⟩, ⟨bk, bb, bn, bt⟩, nn, yy⟩ := i
  have hres : Hid (mayB ⟨k, m, ⟨ak, ab, an, at'⟩, ⟨bk, bb, bn, bt⟩, nn, yy⟩ = (knownB k && (decide (1 ≤ m) && (decide (m ≤ 64) && decide (nn ≤ m))))) := rfl
  rw [hres.out]
  unfold Inf.v
  unfold Inf.cs at *
  dsimp only at *
  have c0 := bx.get 0 _ rfl
  have cC := cCan k none 0 [] w1 (.inl rfl) (by simp)
  rw [refE_nil] at cC
  rw [List.length_nil] at cC
  obtain ⟨B, hB⟩ : ∃ B, Hid (knownB k = B) := ⟨_, rfl⟩
  rw [hB.out] at cC ⊢
  rw [← hw1] at cC c0
  have hw1' := hid hw1
  have hbx := hid bx
  have hkw := hid kw1
  clear hw1 bx kw1 hres hB
  go_enter Tryz.func42, Tryz.ntmps42
  go_wp2_with fail
  refine cC.mono ?_
  rintro e w2 ⟨rfl, k2⟩
  rw [hw1'.out] at k2
  have b2 := hbx.out.kept k2 (by simp) (hbx.out.lt (by simp))
  have kk := hkw.out.trans k2 (by simp)
  have c1 := b2.get 1 _ rfl
  have c10 := b2.get 10 _ rfl
  clear cC k2 c0 b2 hbx hkw hw1'
  cases B with
  | false =>
    go_wp2_with fail
    go_ret
    exact ⟨by simp, kk⟩
  | true =>
    by_cases h1 : 1 ≤ m
    · have d1 : decide (1 ≤ m) = true := by simpa using h1
      by_cases h2 : m ≤ 64
      · have d2 : decide (m ≤ 64) = true := by simpa using h2
        by_cases h3 : nn ≤ m
        · have d3 : decide (nn ≤ m) = true := by simpa using h3
          go_wp2_with fail
          go_ret
          exact ⟨by simp [d1, d2, d3], kk⟩
        · have d3 : decide (nn ≤ m) = false := by simpa using h3
          go_wp2_with fail
          go_ret
          exact ⟨by simp [d1, d2, d3], kk⟩
      · have d2 : decide (m ≤ 64) = false := by simpa using h2
        go_wp2_with fail
        go_ret
        exact ⟨by simp [d1, d2], kk⟩
    · have d1 : decide (1 ≤ m) = false := by simpa using h1
      go_wp2_with fail
      go_ret
      exact ⟨by simp [d1], kk⟩
end Go.Proofs.YtafcdckpicoppaaGreatDoor
end

section
namespace Go.Proofs.YtafcdckpicoppaaGreatDoor
open Go.RowKit Go.Hay
set_option linter.unusedVariables false
set_option linter.unusedSimpArgs false

/-- What a call that reads a head hands back. -/
def HdP (r : Inf × Nat × Int) (w : World) (e : Ending) (w' : World) : Prop := e = .returned (.tuple #[r.1.v, .int .i64 r.2.1, .int .i64 r.2.2]) ∧ Kp [] w w'
theorem num1 {out bs' : List UInt8} {bs : List UInt8} {e e' : Int} (h : takeS 1 bs e = (out, bs', e')) : num out < 256 ∧ bs'.length ≤ bs.length := by
  have h1 : out.length ≤ 1 := takeS_len 1 bs e h
  have h2 := num_lt_of out 1 h1
  refine ⟨by omega, ?_⟩
  have hh := congrArg (fun r => r.2.1.length) h
  dsimp only at hh
  rw [← hh]
  unfold takeS
  split
  · exact Nat.le_refl _
  · split
    · exact Nat.le_refl _
    · simp
theorem tv_len (bs : List UInt8) (e : Int) : (tvS bs e).2.1.length ≤ bs.length := by
  have hT : ∀ n bs e, (takeS n bs e).2.1.length ≤ bs.length := fun n bs e => by
    unfold takeS
    split
    · exact Nat.le_refl _
    · split
      · exact Nat.le_refl _
      · simp
  have hV : ∀ m bs e, (varS m bs e).2.1.length ≤ bs.length := fun m bs e => by
    unfold varS
    split
    · exact Nat.le_refl _
    · split
      · exact Nat.le_refl _
      · split
        · exact Nat.le_refl _
        · simp
  have hX : (textS 64 (takeS 1 bs e).2.1 (takeS 1 bs e).2.2).2.1.length ≤ (takeS 1 bs e).2.1.length := by
    generalize (takeS 1 bs e).2.1 = b
    generalize (takeS 1 bs e).2.2 = f
    have hc : countS 64 b f = varS 64 b f := by unfold countS; rw [if_pos (by omega)]
    unfold textS
    rw [hc]
    split
    · exact Nat.le_refl _
    · have h1 := hV 64 b f
      unfold rawS
      split
      · exact h1
      · exact Nat.le_trans (hT _ _ _) h1
  have h1 := hT 1 bs e
  unfold tvS tvS1
  split
  · exact h1
  · split
    · exact Nat.le_trans (hV _ _ _) h1
    · split
      · exact Nat.le_trans (hT _ _ _) h1
      · split
        · exact Nat.le_trans hX h1
        · exact h1
theorem zeroI_v : zeroI.v = .agg #[.int .i64 0, .int .i64 0, .int .i64 0, .bool false, .int .i64 0, .string ⟨#[]⟩, .int .i64 0, .bool false, .int .i64 0, .string ⟨#[]⟩, .int .i64 0, .int .i64 0] := rfl
set_option maxHeartbeats 32000000 in
set_option maxRecDepth 100000 in
theorem bTakeHead (a : Option Addr) (c : Nat) (bs : List UInt8) (w : World) (hs : Sees w a bs) (hl : bs.length ≤ c) (hm : c ≤ maxLen)  :
    Calls Tryz.prog 21 #[.slice a bs.length c] w (HdP (hdP bs) w) := by
  obtain ⟨w0, hw0, kw0, bR⟩ : ∃ w0, w.alloc (.cells #[.int .i64 0, .int .i64 0, .int .i64 0, .bool false, .int .i64 0, .string ⟨#[]⟩, .int .i64 0, .bool false, .int .i64 0, .string ⟨#[]⟩, .int .i64 0, .int .i64 0] 35) = w0 ∧ Kp [] w w0 ∧ Bx w0 w.heap.size [.int .i64 0, .int .i64 0, .int .i64 0, .bool false, .int .i64 0, .string ⟨#[]⟩, .int .i64 0, .bool false, .int .i64 0, .string ⟨#[]⟩, .int .i64 0, .int .i64 0] := ⟨_, rfl, (Kp.refl _ _).alloc _, Bx.new w _ _⟩
  obtain ⟨L, hL⟩ : ∃ L : Nat, Hid ((min (bs.length : Int) 137).toNat = L) := ⟨_, rfl⟩
  obtain ⟨F, hF⟩ : ∃ F, Hid (bs.take 137 = F) := ⟨_, rfl⟩
  have hFl : F.length = L := by rw [← hF.out, ← hL.out, List.length_take]; omega
  have hF8 : F.length ≤ 137 := by rw [← hF.out, List.length_take]; omega
  have hsF : Sees w0 a F := by rw [← hF.out]; exact (hs.kept kw0 (by simp)).front 137
  have cR := rRead a L c F w0 hsF hFl.symm (by omega)
  obtain ⟨q, hq⟩ : ∃ q, Hid (w.heap.size = q) := ⟨_, rfl⟩
  have bR0 : Hid (Bx w0 q [.int .i64 0, .int .i64 0, .int .i64 0, .bool false, .int .i64 0, .string ⟨#[]⟩, .int .i64 0, .bool false, .int .i64 0, .string ⟨#[]⟩, .int .i64 0, .int .i64 0]) := by rw [← hq.out]; exact bR
  have hqw : w.heap.size ≤ q := by rw [hq.out]; omega
  have hq0 : q < w0.heap.size := by rw [← hq.out]; exact bR.lt (by simp)
  rw [← hw0] at cR
  unfold maxLen at hm
  have hw0' := hid hw0
  have hkw0 := hid kw0
  have htk' := hF
  have hFle := hF8
  have hFl2 := hid hFl
  clear hw0 kw0 bR hsF hs hFl hF8 hF
  go_enter Tryz.func21, Tryz.ntmps21
  go_wp2_with fail
  rw [hL.out]
  refine cR.mono ?_
  rintro e w1 ⟨p, D, rfl, hr, k1, hp, hD⟩
  rw [hw0'.out] at k1 hp hD
  rw [hq.out]
  have bR1 := bR0.out.kept k1 (by simp) hq0
  have kw1 := hkw0.out.trans k1 (by simp)
  clear cR bR0 hkw0 hw0' k1
  obtain ⟨w2, hw2, k2, bI⟩ : ∃ w2, w1.alloc (.cells #[.int .i64 0, .int .i64 0, .int .i64 0, .bool false, .int .i64 0, .string ⟨#[]⟩, .int .i64 0, .bool false, .int .i64 0, .string ⟨#[]⟩, .int .i64 0, .int .i64 0] 35) = w2 ∧ Kp [] w1 w2 ∧ Bx w2 w1.heap.size [.int .i64 0, .int .i64 0, .int .i64 0, .bool false, .int .i64 0, .string ⟨#[]⟩, .int .i64 0, .bool false, .int .i64 0, .string ⟨#[]⟩, .int .i64 0, .int .i64 0] := ⟨_, rfl, (Kp.refl _ _).alloc _, Bx.new w1 _ _⟩
  have hr2 := hr.kept k2 (by simp) (by simp)
  have bR2 := bR1.kept k2 (by simp) (bR1.lt (by simp))
  have hp1 : p < w1.heap.size := hr.lt
  have hD1 : ∀ k ∈ D, k < w1.heap.size := hr.dlt
  obtain ⟨qi, hqi⟩ : ∃ qi, Hid (w1.heap.size = qi) := ⟨_, rfl⟩
  have hpqi : p ≠ qi := by rw [← hqi.out]; omega
  have hqqi : q ≠ qi := by rw [← hqi.out]; have := bR1.lt (by simp); omega
  have hpq : p ≠ q := by omega
  have hDqi : Hid (∀ k ∈ D, k ≠ qi) := fun k hk => by rw [← hqi.out]; have := hD1 k hk; omega
  have hpw : w.heap.size ≤ p := by omega
  have hqiw : w.heap.size ≤ qi := by rw [← hqi.out]; exact kw1.size
  rw [hqi.out] at bI
  have kw2 := kw1.trans k2 (by simp)
  have cB1 := rByte p D F 0 w2 hr2
  rw [← hw2] at cB1
  have H := hid (And.intro bI (And.intro bR2 kw2))
  have hw2' := hid hw2
  have hfw : Hid (∀ W W', Kp [p] W W' → Bx W qi [.int .i64 0, .int .i64 0, .int .i64 0, .bool false, .int .i64 0, .string ⟨#[]⟩, .int .i64 0, .bool false, .int .i64 0, .string ⟨#[]⟩, .int .i64 0, .int .i64 0] → True) := fun _ _ _ _ => trivial
  clear hw2 k2 bI bR2 hr2 hr bR1 kw1 hp hD hp1 hD1 kw2 hfw
  go_wp2_with fail
  refine cB1.mono ?_
  rintro e w3 ⟨o1, F1, e1, t1, rfl, hr3, k3⟩
  rw [hw2'.out] at k3
  rw [hqi.out]
  clear cB1 hw2'
  have Hw3 := hid (And.intro (H.out.1.kept k3 (by simpa using Ne.symm hpqi) ((H.out.1).lt (by simp))) (And.intro ((H.out.2.1).kept k3 (by simpa using Ne.symm hpq) ((H.out.2.1).lt (by simp))) ((H.out.2.2).trans k3 (fun x hx => .inr (by simp at hx; omega)))))
  clear H k3
  obtain ⟨x1, hx1⟩ : ∃ x : Nat, Hid (num o1 = x) := ⟨_, rfl⟩
  have hb1 : x1 < 256 := by rw [← hx1.out]; exact (num1 t1).1
  have hle1 : F1.length ≤ F.length := (num1 t1).2
  have t1' := hid t1
  rw [hx1.out]
  have g1 := Hw3.out.1.get 0 _ rfl
  have gf1 := Hw3.out.1.free 0
  clear t1
  go_wp2_with fail
  refine genS (R := fun W => Calls _ _ _ W _) Hw3.out.1 0 (by simp) _ ?_
  intro w4 bI k4
  clear g1 gf1
  have HN := hid (And.intro (show Bx w4 qi [.int .i64 (x1 : Int), .int .i64 0, .int .i64 0, .bool false, .int .i64 0, .string ⟨#[]⟩, .int .i64 0, .bool false, .int .i64 0, .string ⟨#[]⟩, .int .i64 0, .int .i64 0] from bI) (And.intro (Hw3.out.2.1.kept k4 (by simpa using hqqi) ((Hw3.out.2.1).lt (by simp))) (And.intro (Hw3.out.2.2.trans k4 (fun x hx => .inr (by simp at hx; omega))) (rd_q hr3 k4 hpqi hDqi.out))))
  clear Hw3 bI k4 hr3
  refine (rByte p D F1 e1 w4 HN.out.2.2.2).mono ?_
  rintro e w5 ⟨o2, F2, e2, t2, rfl, hr5, k5⟩
  have Hw5 := hid (And.intro ((HN.out.1).kept k5 (by simpa using Ne.symm hpqi) ((HN.out.1).lt (by simp))) (And.intro ((HN.out.2.1).kept k5 (by simpa using Ne.symm hpq) ((HN.out.2.1).lt (by simp))) ((HN.out.2.2.1).trans k5 (fun x hx => .inr (by simp at hx; omega)))))
  clear HN k5
  obtain ⟨x2, hx2⟩ : ∃ x : Nat, Hid (num o2 = x) := ⟨_, rfl⟩
  have hb2 : x2 < 256 := by rw [← hx2.out]; exact (num1 t2).1
  have hle2 : F2.length ≤ F1.length := (num1 t2).2
  have t2' := hid t2
  rw [hx2.out]
  have g2 := Hw5.out.1.get 1 _ rfl
  have gf2 := Hw5.out.1.free 1
  clear t2
  go_wp2_with fail
  refine genS (R := fun W => Calls _ _ _ W _) Hw5.out.1 1 (by simp) _ ?_
  intro w6 bI k6
  clear g2 gf2
  have HN := hid (And.intro (show Bx w6 qi [.int .i64 (x1 : Int), .int .i64 (x2 : Int), .int .i64 0, .bool false, .int .i64 0, .string ⟨#[]⟩, .int .i64 0, .bool false, .int .i64 0, .string ⟨#[]⟩, .int .i64 0, .int .i64 0] from bI) (And.intro (Hw5.out.2.1.kept k6 (by simpa using hqqi) ((Hw5.out.2.1).lt (by simp))) (And.intro (Hw5.out.2.2.trans k6 (fun x hx => .inr (by simp at hx; omega))) (rd_q hr5 k6 hpqi hDqi.out))))
  clear Hw5 bI k6 hr5
  refine (rByte p D F2 e2 w6 HN.out.2.2.2).mono ?_
  rintro e w7 ⟨o3, F3, e3, t3, rfl, hr7, k7⟩
  have Hw7 := hid (And.intro ((HN.out.1).kept k7 (by simpa using Ne.symm hpqi) ((HN.out.1).lt (by simp))) (And.intro ((HN.out.2.1).kept k7 (by simpa using Ne.symm hpq) ((HN.out.2.1).lt (by simp))) ((HN.out.2.2.1).trans k7 (fun x hx => .inr (by simp at hx; omega)))))
  clear HN k7
  obtain ⟨x3, hx3⟩ : ∃ x : Nat, Hid (num o3 = x) := ⟨_, rfl⟩
  have hb3 : x3 < 256 := by rw [← hx3.out]; exact (num1 t3).1
  have hle3 : F3.length ≤ F2.length := (num1 t3).2
  have t3' := hid t3
  rw [hx3.out]
  have g3 := Hw7.out.1.get 10 _ rfl
  have gf3 := Hw7.out.1.free 10
  clear t3
  go_wp2_with fail
  refine genS (R := fun W => Calls _ _ _ W _) Hw7.out.1 10 (by simp) _ ?_
  intro w8 bI k8
  clear g3 gf3
  have HN := hid (And.intro (show Bx w8 qi [.int .i64 (x1 : Int), .int .i64 (x2 : Int), .int .i64 0, .bool false, .int .i64 0, .string ⟨#[]⟩, .int .i64 0, .bool false, .int .i64 0, .string ⟨#[]⟩, .int .i64 (x3 : Int), .int .i64 0] from bI) (And.intro (Hw7.out.2.1.kept k8 (by simpa using hqqi) ((Hw7.out.2.1).lt (by simp))) (And.intro (Hw7.out.2.2.trans k8 (fun x hx => .inr (by simp at hx; omega))) (rd_q hr7 k8 hpqi hDqi.out))))
  clear Hw7 bI k8 hr7
  have cV4 := bTakeValue p D F3 e3 w8 HN.out.2.2.2 (by omega)
  refine cV4.mono ?_
  rintro e w9 ⟨rfl, hr9, k9⟩
  obtain ⟨⟨v4, F4, e4⟩, t4⟩ : ∃ r, tvS F3 e3 = r := ⟨_, rfl⟩
  have hle4 : F4.length ≤ F3.length := by have := tv_len F3 e3; rw [t4] at this; exact this
  rw [t4] at hr9 ⊢
  obtain ⟨mk, mb, mn, mt⟩ := v4
  unfold Val.v
  dsimp only at hr9 ⊢
  have t4' := hid t4
  have Hw9 := hid (And.intro ((HN.out.1).kept k9 (by simpa using Ne.symm hpqi) ((HN.out.1).lt (by simp))) (And.intro ((HN.out.2.1).kept k9 (by simpa using Ne.symm hpq) ((HN.out.2.1).lt (by simp))) ((HN.out.2.2.1).trans k9 (fun x hx => .inr (by simp at hx; omega)))))
  clear HN k9 cV4 t4
  have g0 := Hw9.out.1.get 2 _ rfl; have gf0 := Hw9.out.1.free 2
  have g1 := Hw9.out.1.get 3 _ rfl; have gf1 := Hw9.out.1.free 3
  have g2 := Hw9.out.1.get 4 _ rfl; have gf2 := Hw9.out.1.free 4
  have g3 := Hw9.out.1.get 5 _ rfl; have gf3 := Hw9.out.1.free 5
  go_wp2_with fail
  refine genS4 (R := fun W => Calls _ _ _ W _) Hw9.out.1 2 3 4 5 (by simp) (by simp) (by simp) (by simp) _ _ _ _ ?_
  intro w10 bI k10
  clear g0 g1 g2 g3 gf0 gf1 gf2 gf3
  have HN := hid (And.intro (show Bx w10 qi [.int .i64 (x1 : Int), .int .i64 (x2 : Int), .int .i64 mk, .bool mb, .int .i64 mn, .string mt, .int .i64 0, .bool false, .int .i64 0, .string ⟨#[]⟩, .int .i64 (x3 : Int), .int .i64 0] from bI) (And.intro (Hw9.out.2.1.kept k10 (by simpa using hqqi) ((Hw9.out.2.1).lt (by simp))) (And.intro (Hw9.out.2.2.trans k10 (fun x hx => .inr (by simp at hx; omega))) (rd_q hr9 k10 hpqi hDqi.out))))
  clear Hw9 bI k10 hr9
  have cV5 := bTakeValue p D F4 e4 w10 HN.out.2.2.2 (by omega)
  refine cV5.mono ?_
  rintro e w11 ⟨rfl, hr11, k11⟩
  obtain ⟨⟨v5, F5, e5⟩, t5⟩ : ∃ r, tvS F4 e4 = r := ⟨_, rfl⟩
  have hle5 : F5.length ≤ F4.length := by have := tv_len F4 e4; rw [t5] at this; exact this
  rw [t5] at hr11 ⊢
  obtain ⟨xk, xb, xn, xt⟩ := v5
  unfold Val.v
  dsimp only at hr11 ⊢
  have t5' := hid t5
  have Hw11 := hid (And.intro ((HN.out.1).kept k11 (by simpa using Ne.symm hpqi) ((HN.out.1).lt (by simp))) (And.intro ((HN.out.2.1).kept k11 (by simpa using Ne.symm hpq) ((HN.out.2.1).lt (by simp))) ((HN.out.2.2.1).trans k11 (fun x hx => .inr (by simp at hx; omega)))))
  clear HN k11 cV5 t5
  have g0 := Hw11.out.1.get 6 _ rfl; have gf0 := Hw11.out.1.free 6
  have g1 := Hw11.out.1.get 7 _ rfl; have gf1 := Hw11.out.1.free 7
  have g2 := Hw11.out.1.get 8 _ rfl; have gf2 := Hw11.out.1.free 8
  have g3 := Hw11.out.1.get 9 _ rfl; have gf3 := Hw11.out.1.free 9
  go_wp2_with fail
  refine genS4 (R := fun W => Calls _ _ _ W _) Hw11.out.1 6 7 8 9 (by simp) (by simp) (by simp) (by simp) _ _ _ _ ?_
  intro w12 bI k12
  clear g0 g1 g2 g3 gf0 gf1 gf2 gf3
  have HN := hid (And.intro (show Bx w12 qi [.int .i64 (x1 : Int), .int .i64 (x2 : Int), .int .i64 mk, .bool mb, .int .i64 mn, .string mt, .int .i64 xk, .bool xb, .int .i64 xn, .string xt, .int .i64 (x3 : Int), .int .i64 0] from bI) (And.intro (Hw11.out.2.1.kept k12 (by simpa using hqqi) ((Hw11.out.2.1).lt (by simp))) (And.intro (Hw11.out.2.2.trans k12 (fun x hx => .inr (by simp at hx; omega))) (rd_q hr11 k12 hpqi hDqi.out))))
  clear Hw11 bI k12 hr11
  refine (rByte p D F5 e5 w12 HN.out.2.2.2).mono ?_
  rintro e w13 ⟨o6, F6, e6, t6, rfl, hr13, k13⟩
  obtain ⟨x6, hx6⟩ : ∃ x : Nat, Hid (num o6 = x) := ⟨_, rfl⟩
  have hb6 : x6 < 256 := by rw [← hx6.out]; exact (num1 t6).1
  have hle6 : F6.length ≤ F5.length := (num1 t6).2
  have t6' := hid t6
  rw [hx6.out]
  have HN2 := hid (And.intro ((HN.out.1).kept k13 (by simpa using Ne.symm hpqi) ((HN.out.1).lt (by simp))) (And.intro ((HN.out.2.1).kept k13 (by simpa using Ne.symm hpq) ((HN.out.2.1).lt (by simp))) (And.intro ((HN.out.2.2.1).trans k13 (fun x hx => .inr (by simp at hx; omega))) hr13)))
  clear t6 HN k13 hr13
  have HN := HN2
  clear HN2
  go_wp2_with fail
  refine (rByte p D F6 e6 w13 HN.out.2.2.2).mono ?_
  rintro e w14 ⟨o7, F7, e7, t7, rfl, hr14, k14⟩
  obtain ⟨x7, hx7⟩ : ∃ x : Nat, Hid (num o7 = x) := ⟨_, rfl⟩
  have hb7 : x7 < 256 := by rw [← hx7.out]; exact (num1 t7).1
  have hle7 : F7.length ≤ F6.length := (num1 t7).2
  have t7' := hid t7
  rw [hx7.out]
  have HN2 := hid (And.intro ((HN.out.1).kept k14 (by simpa using Ne.symm hpqi) ((HN.out.1).lt (by simp))) (And.intro ((HN.out.2.1).kept k14 (by simpa using Ne.symm hpq) ((HN.out.2.1).lt (by simp))) (And.intro ((HN.out.2.2.1).trans k14 (fun x hx => .inr (by simp at hx; omega))) hr14)))
  clear t7 HN k14 hr14
  have HN := HN2
  clear HN2
  go_wp2_with fail
  obtain ⟨size, hsz⟩ : ∃ size : Nat, Hid (size + F7.length = F.length) := ⟨F.length - F7.length, by show _ = _; omega⟩
  have hsz1 : (L : Int) - (F7.length : Int) = (size : Int) := by have := hsz.out; have := hFl2.out; omega
  have hsz2 : size ≤ 137 := by have := hsz.out; omega
  refine (rLeft p D F7 e7 w14 HN.out.2.2.2).mono ?_
  rintro e w15 ⟨rfl, hww⟩
  subst hww
  have g0 := HN.out.1.get 11 _ rfl
  have gf0 := HN.out.1.free 11
  have hkch : Hid (Chain (bs.take 137) o1 o2 o3 o6 o7 ⟨mk, mb, mn, mt⟩ ⟨xk, xb, xn, xt⟩ F7 e7) := ⟨F1, F2, F3, F4, F5, F6, e1, e2, e3, e4, e5, e6, by rw [htk'.out]; exact t1'.out, t2'.out, t3'.out, t4'.out, t5'.out, t6'.out, t7'.out⟩
  have hch := hid (chain_head hkch.out size (size + (x6 * 256 + x7) + 4) (by rw [htk'.out]; exact hsz.out) (by rw [hx6.out, hx7.out]))
  rw [hx1.out, hx2.out, hx3.out] at hch
  clear hle1 hle2 hle3 hle4 hle5 hle6 hle7 t1' t2' t3' t4' t5' t6' t7' hkch htk' hx1 hx2 hx3 hx6 hx7
  have hcc : ((size : Int) + ((x6 : Int) * 256 + (x7 : Int)) + 4) = ((size + (x6 * 256 + x7) + 4 : Nat) : Int) := by omega
  obtain ⟨B, hBB⟩ : ∃ B : Nat, Hid (size + (x6 * 256 + x7) + 4 = B) := ⟨_, rfl⟩
  rw [hBB.out] at hch hcc
  have hB6 : B ≤ 70000 := by rw [← hBB.out]; omega
  go_wp2_with fail
  refine genS (R := fun W => Calls _ _ _ W _) HN.out.1 11 (by simp) _ ?_
  intro w15 bI k15
  have H9 := hid (And.intro (show Bx w15 qi [.int .i64 (x1 : Int), .int .i64 (x2 : Int), .int .i64 mk, .bool mb, .int .i64 mn, .string mt, .int .i64 xk, .bool xb, .int .i64 xn, .string xt, .int .i64 (x3 : Int), .int .i64 (B : Int)] from bI) (And.intro (HN.out.2.1.kept k15 (by simpa using hqqi) ((HN.out.2.1).lt (by simp))) (And.intro (HN.out.2.2.1.trans k15 (fun x hx => .inr (by simp at hx; omega))) (rd_q HN.out.2.2.2 k15 hpqi hDqi.out))))
  clear HN bI k15 g0 gf0 hcc
  refine (rErr p D F7 e7 w15 H9.out.2.2.2).mono ?_
  rintro e wX ⟨rfl, hww⟩
  subst hww
  by_cases he : e7 = 0
  · have hbI := H9.out.1
    have j0 := hbI.get 0 _ rfl
    have j1 := hbI.get 1 _ rfl
    have j2 := hbI.get 2 _ rfl
    have j3 := hbI.get 3 _ rfl
    have j4 := hbI.get 4 _ rfl
    have j5 := hbI.get 5 _ rfl
    have j6 := hbI.get 6 _ rfl
    have j7 := hbI.get 7 _ rfl
    have j8 := hbI.get 8 _ rfl
    have j9 := hbI.get 9 _ rfl
    have j10 := hbI.get 10 _ rfl
    have j11 := hbI.get 11 _ rfl
    have cM := bMayBe ⟨(x1 : Int), (x2 : Int), ⟨mk, mb, mn, mt⟩, ⟨xk, xb, xn, xt⟩, (x3 : Int), (B : Int)⟩ wX
    have hmm : mayB ⟨(x1 : Int), (x2 : Int), ⟨mk, mb, mn, mt⟩, ⟨xk, xb, xn, xt⟩, (x3 : Int), (B : Int)⟩ = (knownB (x1 : Int) && (decide (1 ≤ (x2 : Int)) && (decide ((x2 : Int) ≤ 64) && decide ((x3 : Int) ≤ (x2 : Int))))) := rfl
    obtain ⟨M, hM⟩ : ∃ M, Hid (mayB ⟨(x1 : Int), (x2 : Int), ⟨mk, mb, mn, mt⟩, ⟨xk, xb, xn, xt⟩, (x3 : Int), (B : Int)⟩ = M) := ⟨_, rfl⟩
    rw [hM.out] at cM hmm
    have hmm' := hid hmm
    unfold Inf.v Inf.cs at cM
    dsimp only at cM
    subst he
    clear hbI hmm hM
    go_wp2_with fail
    refine cM.mono ?_
    rintro e wY ⟨rfl, kY⟩
    have bRY := hid (H9.out.2.1.kept kY (by simp) (H9.out.2.1.lt (by simp)))
    have bIY := H9.out.1.kept kY (by simp) (H9.out.1.lt (by simp))
    have kkY := hid (H9.out.2.2.1.trans kY (by simp))
    have hbIY := hid bIY
    clear cM kY j0 j1 j2 j3 j4 j5 j6 j7 j8 j9 j10 j11
    cases M with
    | false =>
      have hnone : Hid (hdR bs = none) := hch.out.2 (fun ⟨_, c1, c2, c3, c4, _⟩ => by
        have h := hmm'.out
        have hk : knownB (x1 : Int) = true := by unfold knownB; simp; omega
        rw [hk, decide_eq_true (by omega), decide_eq_true (by omega), decide_eq_true (by omega)] at h
        cases h)
      clear bIY hbIY
      have p0 := bRY.out.get 0 _ rfl; have f0 := bRY.out.free 0
      have p1 := bRY.out.get 1 _ rfl; have f1 := bRY.out.free 1
      have p2 := bRY.out.get 2 _ rfl; have f2 := bRY.out.free 2
      have p3 := bRY.out.get 3 _ rfl; have f3 := bRY.out.free 3
      have p4 := bRY.out.get 4 _ rfl; have f4 := bRY.out.free 4
      have p5 := bRY.out.get 5 _ rfl; have f5 := bRY.out.free 5
      have p6 := bRY.out.get 6 _ rfl; have f6 := bRY.out.free 6
      have p7 := bRY.out.get 7 _ rfl; have f7 := bRY.out.free 7
      have p8 := bRY.out.get 8 _ rfl; have f8 := bRY.out.free 8
      have p9 := bRY.out.get 9 _ rfl; have f9 := bRY.out.free 9
      have p10 := bRY.out.get 10 _ rfl; have f10 := bRY.out.free 10
      have p11 := bRY.out.get 11 _ rfl; have f11 := bRY.out.free 11
      obtain ⟨W, hW, bW, kW⟩ : ∃ W, ((((((((((((wY.setCell ⟨q, 0, none⟩ (.int .i64 0)).setCell ⟨q, 1, none⟩ (.int .i64 0)).setCell ⟨q, 2, none⟩ (.int .i64 0)).setCell ⟨q, 3, none⟩ (.bool false)).setCell ⟨q, 4, none⟩ (.int .i64 0)).setCell ⟨q, 5, none⟩ (.string ⟨#[]⟩)).setCell ⟨q, 6, none⟩ (.int .i64 0)).setCell ⟨q, 7, none⟩ (.bool false)).setCell ⟨q, 8, none⟩ (.int .i64 0)).setCell ⟨q, 9, none⟩ (.string ⟨#[]⟩)).setCell ⟨q, 10, none⟩ (.int .i64 0)).setCell ⟨q, 11, none⟩ (.int .i64 0)) = W ∧ Bx W q [.int .i64 0, .int .i64 0, .int .i64 0, .bool false, .int .i64 0, .string ⟨#[]⟩, .int .i64 0, .bool false, .int .i64 0, .string ⟨#[]⟩, .int .i64 0, .int .i64 0] ∧ Kp [q] wY W := ⟨_, rfl, gen12q (R := fun W => Bx W q [.int .i64 0, .int .i64 0, .int .i64 0, .bool false, .int .i64 0, .string ⟨#[]⟩, .int .i64 0, .bool false, .int .i64 0, .string ⟨#[]⟩, .int .i64 0, .int .i64 0]) bRY.out rfl (.int .i64 0) (.int .i64 0) (.int .i64 0) (.bool false) (.int .i64 0) (.string ⟨#[]⟩) (.int .i64 0) (.bool false) (.int .i64 0) (.string ⟨#[]⟩) (.int .i64 0) (.int .i64 0) (fun W b _ => b), gen12q (R := fun W => Kp [q] wY W) bRY.out rfl (.int .i64 0) (.int .i64 0) (.int .i64 0) (.bool false) (.int .i64 0) (.string ⟨#[]⟩) (.int .i64 0) (.bool false) (.int .i64 0) (.string ⟨#[]⟩) (.int .i64 0) (.int .i64 0) (fun W _ k => k)⟩
      go_wp2_with fail
      have r0 := bW.get 0 _ rfl
      have r1 := bW.get 1 _ rfl
      have r2 := bW.get 2 _ rfl
      have r3 := bW.get 3 _ rfl
      have r4 := bW.get 4 _ rfl
      have r5 := bW.get 5 _ rfl
      have r6 := bW.get 6 _ rfl
      have r7 := bW.get 7 _ rfl
      have r8 := bW.get 8 _ rfl
      have r9 := bW.get 9 _ rfl
      have r10 := bW.get 10 _ rfl
      have r11 := bW.get 11 _ rfl
      refine bodyPost_ret (v := .tuple #[zeroI.v, .int .i64 0, .int .i64 70]) (by rw [zeroI_v]; simp [results, Tryz.results21, go_sem, r0, r1, r2, r3, r4, r5, r6, r7, r8, r9, r10, r11]) rfl ?_
      unfold HdP
      have e70 : hdP bs = (zeroI, 0, 70) := by unfold hdP; rw [hnone.out]
      rw [e70]
      exact ⟨rfl, (kkY.out).trans kW (fun x hx => .inr (by simp at hx; omega))⟩
    | true =>
      have hmt := hmm'.out.symm
      simp only [Bool.and_eq_true, decide_eq_true_eq] at hmt
      obtain ⟨m1, m2, m3, m4⟩ := hmt
      have m1' := known_bd m1
      have j11 := bIY.get 11 _ rfl
      by_cases hBn : B ≤ bs.length
      · have hsome : Hid (hdR bs = some (⟨(x1 : Int), (x2 : Int), ⟨mk, mb, mn, mt⟩, ⟨xk, xb, xn, xt⟩, (x3 : Int), (B : Int)⟩, size)) := hch.out.1 ⟨by simp, by omega, by omega, by omega, by omega, hBn⟩
        have d1 : decide ((B : Int) > (bs.length : Int)) = false := by simp; omega
        have d2 : ¬ (bs.length : Int) < (B : Int) := by omega
        have j0 := bIY.get 0 _ rfl
        have j1 := bIY.get 1 _ rfl
        have j2 := bIY.get 2 _ rfl
        have j3 := bIY.get 3 _ rfl
        have j4 := bIY.get 4 _ rfl
        have j5 := bIY.get 5 _ rfl
        have j6 := bIY.get 6 _ rfl
        have j7 := bIY.get 7 _ rfl
        have j8 := bIY.get 8 _ rfl
        have j9 := bIY.get 9 _ rfl
        have j10 := bIY.get 10 _ rfl
        have p0 := bRY.out.get 0 _ rfl; have f0 := bRY.out.free 0
        have p1 := bRY.out.get 1 _ rfl; have f1 := bRY.out.free 1
        have p2 := bRY.out.get 2 _ rfl; have f2 := bRY.out.free 2
        have p3 := bRY.out.get 3 _ rfl; have f3 := bRY.out.free 3
        have p4 := bRY.out.get 4 _ rfl; have f4 := bRY.out.free 4
        have p5 := bRY.out.get 5 _ rfl; have f5 := bRY.out.free 5
        have p6 := bRY.out.get 6 _ rfl; have f6 := bRY.out.free 6
        have p7 := bRY.out.get 7 _ rfl; have f7 := bRY.out.free 7
        have p8 := bRY.out.get 8 _ rfl; have f8 := bRY.out.free 8
        have p9 := bRY.out.get 9 _ rfl; have f9 := bRY.out.free 9
        have p10 := bRY.out.get 10 _ rfl; have f10 := bRY.out.free 10
        have p11 := bRY.out.get 11 _ rfl; have f11 := bRY.out.free 11
        clear bIY m1 m1' hmm' hch
        obtain ⟨W, hW, bW, kW⟩ : ∃ W, ((((((((((((wY.setCell ⟨q, 0, none⟩ (.int .i64 (x1 : Int))).setCell ⟨q, 1, none⟩ (.int .i64 (x2 : Int))).setCell ⟨q, 2, none⟩ (.int .i64 mk)).setCell ⟨q, 3, none⟩ (.bool mb)).setCell ⟨q, 4, none⟩ (.int .i64 mn)).setCell ⟨q, 5, none⟩ (.string mt)).setCell ⟨q, 6, none⟩ (.int .i64 xk)).setCell ⟨q, 7, none⟩ (.bool xb)).setCell ⟨q, 8, none⟩ (.int .i64 xn)).setCell ⟨q, 9, none⟩ (.string xt)).setCell ⟨q, 10, none⟩ (.int .i64 (x3 : Int))).setCell ⟨q, 11, none⟩ (.int .i64 (B : Int))) = W ∧ Bx W q [.int .i64 (x1 : Int), .int .i64 (x2 : Int), .int .i64 mk, .bool mb, .int .i64 mn, .string mt, .int .i64 xk, .bool xb, .int .i64 xn, .string xt, .int .i64 (x3 : Int), .int .i64 (B : Int)] ∧ Kp [q] wY W := ⟨_, rfl, gen12q (R := fun W => Bx W q [.int .i64 (x1 : Int), .int .i64 (x2 : Int), .int .i64 mk, .bool mb, .int .i64 mn, .string mt, .int .i64 xk, .bool xb, .int .i64 xn, .string xt, .int .i64 (x3 : Int), .int .i64 (B : Int)]) bRY.out rfl (.int .i64 (x1 : Int)) (.int .i64 (x2 : Int)) (.int .i64 mk) (.bool mb) (.int .i64 mn) (.string mt) (.int .i64 xk) (.bool xb) (.int .i64 xn) (.string xt) (.int .i64 (x3 : Int)) (.int .i64 (B : Int)) (fun W b _ => b), gen12q (R := fun W => Kp [q] wY W) bRY.out rfl (.int .i64 (x1 : Int)) (.int .i64 (x2 : Int)) (.int .i64 mk) (.bool mb) (.int .i64 mn) (.string mt) (.int .i64 xk) (.bool xb) (.int .i64 xn) (.string xt) (.int .i64 (x3 : Int)) (.int .i64 (B : Int)) (fun W _ k => k)⟩
        go_wp2_with fail
        have r0 := bW.get 0 _ rfl
        have r1 := bW.get 1 _ rfl
        have r2 := bW.get 2 _ rfl
        have r3 := bW.get 3 _ rfl
        have r4 := bW.get 4 _ rfl
        have r5 := bW.get 5 _ rfl
        have r6 := bW.get 6 _ rfl
        have r7 := bW.get 7 _ rfl
        have r8 := bW.get 8 _ rfl
        have r9 := bW.get 9 _ rfl
        have r10 := bW.get 10 _ rfl
        have r11 := bW.get 11 _ rfl
        refine bodyPost_ret (v := .tuple #[Inf.v ⟨(x1 : Int), (x2 : Int), ⟨mk, mb, mn, mt⟩, ⟨xk, xb, xn, xt⟩, (x3 : Int), (B : Int)⟩, .int .i64 (size : Int), .int .i64 0]) (by simp [results, Tryz.results21, go_sem, Inf.v, Inf.cs, r0, r1, r2, r3, r4, r5, r6, r7, r8, r9, r10, r11]) rfl ?_
        unfold HdP
        have e70 : hdP bs = (⟨(x1 : Int), (x2 : Int), ⟨mk, mb, mn, mt⟩, ⟨xk, xb, xn, xt⟩, (x3 : Int), (B : Int)⟩, size, 0) := by unfold hdP; rw [hsome.out]
        rw [e70]
        exact ⟨rfl, (kkY.out).trans kW (fun x hx => .inr (by simp at hx; omega))⟩
      · have hnone : Hid (hdR bs = none) := hch.out.2 (fun ⟨_, _, _, _, _, c5⟩ => hBn c5)
        have d1 : decide ((B : Int) > (bs.length : Int)) = true := by simp; omega
        have d2 : (bs.length : Int) < (B : Int) := by omega
        clear bIY m1 m1' hmm' hch
        have p0 := bRY.out.get 0 _ rfl; have f0 := bRY.out.free 0
        have p1 := bRY.out.get 1 _ rfl; have f1 := bRY.out.free 1
        have p2 := bRY.out.get 2 _ rfl; have f2 := bRY.out.free 2
        have p3 := bRY.out.get 3 _ rfl; have f3 := bRY.out.free 3
        have p4 := bRY.out.get 4 _ rfl; have f4 := bRY.out.free 4
        have p5 := bRY.out.get 5 _ rfl; have f5 := bRY.out.free 5
        have p6 := bRY.out.get 6 _ rfl; have f6 := bRY.out.free 6
        have p7 := bRY.out.get 7 _ rfl; have f7 := bRY.out.free 7
        have p8 := bRY.out.get 8 _ rfl; have f8 := bRY.out.free 8
        have p9 := bRY.out.get 9 _ rfl; have f9 := bRY.out.free 9
        have p10 := bRY.out.get 10 _ rfl; have f10 := bRY.out.free 10
        have p11 := bRY.out.get 11 _ rfl; have f11 := bRY.out.free 11
        obtain ⟨W, hW, bW, kW⟩ : ∃ W, ((((((((((((wY.setCell ⟨q, 0, none⟩ (.int .i64 0)).setCell ⟨q, 1, none⟩ (.int .i64 0)).setCell ⟨q, 2, none⟩ (.int .i64 0)).setCell ⟨q, 3, none⟩ (.bool false)).setCell ⟨q, 4, none⟩ (.int .i64 0)).setCell ⟨q, 5, none⟩ (.string ⟨#[]⟩)).setCell ⟨q, 6, none⟩ (.int .i64 0)).setCell ⟨q, 7, none⟩ (.bool false)).setCell ⟨q, 8, none⟩ (.int .i64 0)).setCell ⟨q, 9, none⟩ (.string ⟨#[]⟩)).setCell ⟨q, 10, none⟩ (.int .i64 0)).setCell ⟨q, 11, none⟩ (.int .i64 0)) = W ∧ Bx W q [.int .i64 0, .int .i64 0, .int .i64 0, .bool false, .int .i64 0, .string ⟨#[]⟩, .int .i64 0, .bool false, .int .i64 0, .string ⟨#[]⟩, .int .i64 0, .int .i64 0] ∧ Kp [q] wY W := ⟨_, rfl, gen12q (R := fun W => Bx W q [.int .i64 0, .int .i64 0, .int .i64 0, .bool false, .int .i64 0, .string ⟨#[]⟩, .int .i64 0, .bool false, .int .i64 0, .string ⟨#[]⟩, .int .i64 0, .int .i64 0]) bRY.out rfl (.int .i64 0) (.int .i64 0) (.int .i64 0) (.bool false) (.int .i64 0) (.string ⟨#[]⟩) (.int .i64 0) (.bool false) (.int .i64 0) (.string ⟨#[]⟩) (.int .i64 0) (.int .i64 0) (fun W b _ => b), gen12q (R := fun W => Kp [q] wY W) bRY.out rfl (.int .i64 0) (.int .i64 0) (.int .i64 0) (.bool false) (.int .i64 0) (.string ⟨#[]⟩) (.int .i64 0) (.bool false) (.int .i64 0) (.string ⟨#[]⟩) (.int .i64 0) (.int .i64 0) (fun W _ k => k)⟩
        go_wp2_with fail
        have r0 := bW.get 0 _ rfl
        have r1 := bW.get 1 _ rfl
        have r2 := bW.get 2 _ rfl
        have r3 := bW.get 3 _ rfl
        have r4 := bW.get 4 _ rfl
        have r5 := bW.get 5 _ rfl
        have r6 := bW.get 6 _ rfl
        have r7 := bW.get 7 _ rfl
        have r8 := bW.get 8 _ rfl
        have r9 := bW.get 9 _ rfl
        have r10 := bW.get 10 _ rfl
        have r11 := bW.get 11 _ rfl
        refine bodyPost_ret (v := .tuple #[zeroI.v, .int .i64 0, .int .i64 70]) (by rw [zeroI_v]; simp [results, Tryz.results21, go_sem, r0, r1, r2, r3, r4, r5, r6, r7, r8, r9, r10, r11]) rfl ?_
        unfold HdP
        have e70 : hdP bs = (zeroI, 0, 70) := by unfold hdP; rw [hnone.out]
        rw [e70]
        exact ⟨rfl, (kkY.out).trans kW (fun x hx => .inr (by simp at hx; omega))⟩
  · have hnone : Hid (hdR bs = none) := hch.out.2 (fun h => he h.1)
    have d0 : (e7 != 0) = true := by simpa using he
    have hbRW := hid H9.out.2.1
    have kkW := hid H9.out.2.2.1
    clear hch H9
    have p0 := hbRW.out.get 0 _ rfl; have f0 := hbRW.out.free 0
    have p1 := hbRW.out.get 1 _ rfl; have f1 := hbRW.out.free 1
    have p2 := hbRW.out.get 2 _ rfl; have f2 := hbRW.out.free 2
    have p3 := hbRW.out.get 3 _ rfl; have f3 := hbRW.out.free 3
    have p4 := hbRW.out.get 4 _ rfl; have f4 := hbRW.out.free 4
    have p5 := hbRW.out.get 5 _ rfl; have f5 := hbRW.out.free 5
    have p6 := hbRW.out.get 6 _ rfl; have f6 := hbRW.out.free 6
    have p7 := hbRW.out.get 7 _ rfl; have f7 := hbRW.out.free 7
    have p8 := hbRW.out.get 8 _ rfl; have f8 := hbRW.out.free 8
    have p9 := hbRW.out.get 9 _ rfl; have f9 := hbRW.out.free 9
    have p10 := hbRW.out.get 10 _ rfl; have f10 := hbRW.out.free 10
    have p11 := hbRW.out.get 11 _ rfl; have f11 := hbRW.out.free 11
    obtain ⟨W, hW, bW, kW⟩ : ∃ W, ((((((((((((wX.setCell ⟨q, 0, none⟩ (.int .i64 0)).setCell ⟨q, 1, none⟩ (.int .i64 0)).setCell ⟨q, 2, none⟩ (.int .i64 0)).setCell ⟨q, 3, none⟩ (.bool false)).setCell ⟨q, 4, none⟩ (.int .i64 0)).setCell ⟨q, 5, none⟩ (.string ⟨#[]⟩)).setCell ⟨q, 6, none⟩ (.int .i64 0)).setCell ⟨q, 7, none⟩ (.bool false)).setCell ⟨q, 8, none⟩ (.int .i64 0)).setCell ⟨q, 9, none⟩ (.string ⟨#[]⟩)).setCell ⟨q, 10, none⟩ (.int .i64 0)).setCell ⟨q, 11, none⟩ (.int .i64 0)) = W ∧ Bx W q [.int .i64 0, .int .i64 0, .int .i64 0, .bool false, .int .i64 0, .string ⟨#[]⟩, .int .i64 0, .bool false, .int .i64 0, .string ⟨#[]⟩, .int .i64 0, .int .i64 0] ∧ Kp [q] wX W := ⟨_, rfl, gen12q (R := fun W => Bx W q [.int .i64 0, .int .i64 0, .int .i64 0, .bool false, .int .i64 0, .string ⟨#[]⟩, .int .i64 0, .bool false, .int .i64 0, .string ⟨#[]⟩, .int .i64 0, .int .i64 0]) hbRW.out rfl (.int .i64 0) (.int .i64 0) (.int .i64 0) (.bool false) (.int .i64 0) (.string ⟨#[]⟩) (.int .i64 0) (.bool false) (.int .i64 0) (.string ⟨#[]⟩) (.int .i64 0) (.int .i64 0) (fun W b _ => b), gen12q (R := fun W => Kp [q] wX W) hbRW.out rfl (.int .i64 0) (.int .i64 0) (.int .i64 0) (.bool false) (.int .i64 0) (.string ⟨#[]⟩) (.int .i64 0) (.bool false) (.int .i64 0) (.string ⟨#[]⟩) (.int .i64 0) (.int .i64 0) (fun W _ k => k)⟩
    go_wp2_with fail
    have r0 := bW.get 0 _ rfl
    have r1 := bW.get 1 _ rfl
    have r2 := bW.get 2 _ rfl
    have r3 := bW.get 3 _ rfl
    have r4 := bW.get 4 _ rfl
    have r5 := bW.get 5 _ rfl
    have r6 := bW.get 6 _ rfl
    have r7 := bW.get 7 _ rfl
    have r8 := bW.get 8 _ rfl
    have r9 := bW.get 9 _ rfl
    have r10 := bW.get 10 _ rfl
    have r11 := bW.get 11 _ rfl
    refine bodyPost_ret (v := .tuple #[zeroI.v, .int .i64 0, .int .i64 70]) (by rw [zeroI_v]; simp [results, Tryz.results21, go_sem, r0, r1, r2, r3, r4, r5, r6, r7, r8, r9, r10, r11]) rfl ?_
    unfold HdP
    have e70 : hdP bs = (zeroI, 0, 70) := by unfold hdP; rw [hnone.out]
    rw [e70]
    exact ⟨rfl, (kkW.out).trans kW (fun x hx => .inr (by simp at hx; omega))⟩
end Go.Proofs.YtafcdckpicoppaaGreatDoor
end

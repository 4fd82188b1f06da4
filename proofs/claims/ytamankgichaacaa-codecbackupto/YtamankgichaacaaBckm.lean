/- Plain mathematics of what is read back: the same, and of a shorter beginning: want of bytes. -/
import Derived.Test.YtamankgichaacaaWrts
namespace Go.Proofs.Ytamankgichaacaa
open Go.RowKit Go.Hay
set_option linter.unusedVariables false

/-- A thing that is read back: whether it is the same; what is left; what is amiss. -/
def backS (t : Thing) (bs : List UInt8) (e : Int) : Bool × List UInt8 × Int :=
  if t.kind = 0 then ((num (takeS 1 bs e).1 : Int) == t.n % 256, (takeS 1 bs e).2)
  else if t.kind = 1 then ((num (takeS 4 bs e).1 : Int) == t.n % 4294967296, (takeS 4 bs e).2)
  else if t.kind = 2 then ((num (takeS 8 bs e).1 : Int) == t.n, (takeS 8 bs e).2)
  else if t.kind = 3 then ((varS t.n bs e).1 == t.n, (varS t.n bs e).2)
  else if t.kind = 4 then ((rawS t.bs.length bs e).1 == t.bs, (rawS t.bs.length bs e).2)
  else if t.kind = 5 then ((textS t.bs.length bs e).1 == t.bs, (textS t.bs.length bs e).2)
  else (true, bs, e)

theorem takeS_app (k : Nat) (xs rest : List UInt8) (h : xs.length = k) : takeS k (xs ++ rest) 0 = (xs, rest, 0) := by
  unfold takeS
  rw [if_neg (by simp), if_neg (by rw [List.length_append]; omega), List.take_append_of_le_length (by omega), List.take_of_length_le (by omega), ← h, List.drop_left]
theorem takeS_short (k : Nat) (P : List UInt8) (h : P.length < k) : takeS k P 0 = ([], P, 10) := by
  unfold takeS
  rw [if_neg (by simp), if_pos h]
theorem takeS_bad (k : Nat) (P : List UInt8) (e : Int) (h : e ≠ 0) : takeS k P e = ([], P, e) := by
  unfold takeS
  rw [if_pos h]
/-- The parts of a Var. -/
theorem varB_parts (n : Int) (h0 : 0 ≤ n) (h1 : n < 18446744073709551616) : ∃ f k : Nat, f < 256 ∧ k ≤ 8 ∧ varB n = octet f :: be n.toNat k ∧ behindI f = k ∧ leadI n = f ∧ n.toNat % 256 ^ k = (if k = 0 then 0 else n.toNat) ∧ (k = 0 → n = f) := by
  by_cases a : n < 253
  · refine ⟨n.toNat, 0, by omega, by omega, ?_, ?_, ?_, by simp [Nat.mod_one], fun _ => by omega⟩
    · have e : leadI n = n := by simp [leadI, a]
      have e2 : behindI n = 0 := by unfold behindI; rw [if_neg (by omega), if_neg (by omega), if_neg (by omega)]
      simp [varB, e, e2, be, show ((n.toNat : Nat) : Int) = n by omega]
    · unfold behindI; rw [if_neg (by omega), if_neg (by omega), if_neg (by omega)]; rfl
    · rw [leadI, if_pos a]; omega
  by_cases b : n < 65536
  · exact ⟨253, 2, by omega, by omega, by simp [varB, leadI, behindI, a, b], by simp [behindI], by simp [leadI, a, b], by rw [if_neg (by omega)]; exact Nat.mod_eq_of_lt (by omega), fun h => by omega⟩
  by_cases c : n < 4294967296
  · exact ⟨254, 4, by omega, by omega, by simp [varB, leadI, behindI, a, b, c], by simp [behindI], by simp [leadI, a, b, c], by rw [if_neg (by omega)]; exact Nat.mod_eq_of_lt (by omega), fun h => by omega⟩
  · exact ⟨255, 8, by omega, by omega, by simp [varB, leadI, behindI, a, b, c], by simp [behindI], by simp [leadI, a, b, c], by rw [if_neg (by omega)]; exact Nat.mod_eq_of_lt (by omega), fun h => by omega⟩
theorem octet_f (f : Nat) (h : f < 256) : (octet (f : Int)).toNat = f := by
  have := octet_toNat (f : Int) (by omega) (by omega)
  omega
theorem fv_varB (n : Int) (h0 : 0 ≤ n) (h1 : n < 18446744073709551616) (rest : List UInt8) : fv (varB n ++ rest) = (n, ((varB n).length : Int), 0) := by
  obtain ⟨f, k, hf, hk, hv, hb, hl, hm, hz⟩ := varB_parts n h0 h1
  rw [hv, List.cons_append]
  simp only [fv, octet_f f hf, hb, List.length_cons, be_length, List.length_append]
  by_cases hk0 : k = 0
  · subst hk0
    have := hz rfl
    rw [if_pos (by rfl)]
    simp only [this]
    rfl
  · rw [if_neg (by omega), if_neg (by omega), Int.toNat_natCast, List.take_append_of_le_length (by rw [be_length]; omega), List.take_of_length_le (by rw [be_length]; omega), num_be, hm, if_neg hk0, show ((n.toNat : Nat) : Int) = n by omega, hl, if_neg (fun h => h rfl)]
    simp
    omega
theorem fv_short (n : Int) (h0 : 0 ≤ n) (h1 : n < 18446744073709551616) (c : Nat) (hc : c < (varB n).length) : (fv ((varB n).take c)).2.2 = 10 := by
  obtain ⟨f, k, hf, hk, hv, hb, hl, hm, hz⟩ := varB_parts n h0 h1
  rw [hv] at hc ⊢
  simp only [List.length_cons, be_length] at hc
  cases c with
  | zero => rfl
  | succ c =>
    rw [List.take_succ_cons]
    simp only [fv, octet_f f hf, hb]
    rw [if_neg (by omega), if_pos (by rw [List.length_take, be_length]; omega)]
theorem varS_app (most n : Int) (h0 : 0 ≤ n) (h1 : n < 18446744073709551616) (hm : n ≤ most) (rest : List UInt8) : varS most (varB n ++ rest) 0 = (n, rest, 0) := by
  unfold varS
  rw [if_neg (by simp), fv_varB n h0 h1, if_neg (by simp), if_neg (by show ¬ most < n; omega)]
  simp only [Int.toNat_natCast, List.drop_left]
theorem varS_short (most n : Int) (h0 : 0 ≤ n) (h1 : n < 18446744073709551616) (c : Nat) (hc : c < (varB n).length) : varS most ((varB n).take c) 0 = (0, (varB n).take c, 10) := by
  unfold varS
  rw [if_neg (by simp), fv_short n h0 h1 c hc, if_pos (by simp)]
theorem varS_bad (most : Int) (bs : List UInt8) (e : Int) (h : e ≠ 0) : varS most bs e = (0, bs, e) := by
  unfold varS
  rw [if_pos h]
theorem rawS_nat (n : Nat) (bs : List UInt8) (e : Int) : rawS n bs e = takeS n bs e := by
  unfold rawS
  rw [if_neg (by omega), Int.toNat_natCast]
theorem countS_nat (n : Nat) (bs : List UInt8) (e : Int) : countS n bs e = varS n bs e := by
  unfold countS
  rw [if_pos (by omega)]

theorem back_same (t : Thing) (hn0 : 0 ≤ t.n) (hn1 : t.n < 18446744073709551616) (hx : t.bs.length ≤ 200000000000000) (rest : List UInt8) : backS t (thingB t ++ rest) 0 = (true, rest, 0) := by
  obtain ⟨N, hN⟩ := Int.eq_ofNat_of_zero_le hn0
  unfold backS thingB
  by_cases c0 : t.kind = 0
  · simp only [if_pos c0]
    rw [takeS_app 1 _ _ (be_length _ _)]
    simp only [num_be, hN, Int.toNat_natCast]
    rw [Prod.mk.injEq]
    exact ⟨by rw [beq_iff_eq]; omega, rfl⟩
  simp only [if_neg c0]
  by_cases c1 : t.kind = 1
  · simp only [if_pos c1]
    rw [takeS_app 4 _ _ (be_length _ _)]
    simp only [num_be, hN, Int.toNat_natCast]
    rw [Prod.mk.injEq]
    exact ⟨by rw [beq_iff_eq]; omega, rfl⟩
  simp only [if_neg c1]
  by_cases c2 : t.kind = 2
  · simp only [if_pos c2]
    rw [takeS_app 8 _ _ (be_length _ _)]
    simp only [num_be, hN, Int.toNat_natCast]
    rw [Prod.mk.injEq]
    exact ⟨by rw [beq_iff_eq]; omega, rfl⟩
  simp only [if_neg c2]
  by_cases c3 : t.kind = 3
  · simp only [if_pos c3]
    rw [varS_app _ _ hn0 hn1 (Int.le_refl _)]
    simp
  simp only [if_neg c3]
  by_cases c4 : t.kind = 4
  · simp only [if_pos c4]
    rw [rawS_nat, takeS_app _ _ _ rfl]
    simp
  simp only [if_neg c4]
  by_cases c5 : t.kind = 5
  · simp only [if_pos c5, textB, List.append_assoc, textS]
    rw [countS_nat, varS_app _ _ (by omega) (by omega) (Int.le_refl _)]
    simp only [rawS_nat]
    rw [takeS_app _ _ _ rfl, if_neg (fun h => h rfl)]
    simp
  simp only [if_neg c5]
  simp

theorem back_short (t : Thing) (hn0 : 0 ≤ t.n) (hn1 : t.n < 18446744073709551616) (hx : t.bs.length ≤ 200000000000000) (c : Nat) (hc : c < (thingB t).length) : (backS t ((thingB t).take c) 0).2.2 = 10 := by
  unfold backS
  unfold thingB at hc ⊢
  by_cases c0 : t.kind = 0
  · simp only [if_pos c0] at hc ⊢
    rw [be_length] at hc
    rw [takeS_short 1 _ (by rw [List.length_take]; omega)]
  simp only [if_neg c0] at hc ⊢
  by_cases c1 : t.kind = 1
  · simp only [if_pos c1] at hc ⊢
    rw [be_length] at hc
    rw [takeS_short 4 _ (by rw [List.length_take]; omega)]
  simp only [if_neg c1] at hc ⊢
  by_cases c2 : t.kind = 2
  · simp only [if_pos c2] at hc ⊢
    rw [be_length] at hc
    rw [takeS_short 8 _ (by rw [List.length_take]; omega)]
  simp only [if_neg c2] at hc ⊢
  by_cases c3 : t.kind = 3
  · simp only [if_pos c3] at hc ⊢
    rw [varS_short _ _ hn0 hn1 c hc]
  simp only [if_neg c3] at hc ⊢
  by_cases c4 : t.kind = 4
  · simp only [if_pos c4] at hc ⊢
    rw [rawS_nat, takeS_short _ _ (by rw [List.length_take]; omega)]
  simp only [if_neg c4] at hc ⊢
  by_cases c5 : t.kind = 5
  · simp only [if_pos c5, textB, List.length_append] at hc ⊢
    simp only [textS, countS_nat]
    by_cases hv : c < (varB t.bs.length).length
    · rw [List.take_append_of_le_length (by omega), varS_short _ _ (by omega) (by omega) c hv]
      rw [show rawS 0 ((varB t.bs.length).take c) 10 = ([], (varB t.bs.length).take c, 10) by
        rw [show (0 : Int) = ((0 : Nat) : Int) from rfl, rawS_nat, takeS_bad _ _ _ (by omega)]]
      simp
    · rw [List.take_append, List.take_of_length_le (by omega), varS_app _ _ (by omega) (by omega) (Int.le_refl _)]
      simp only [rawS_nat]
      rw [takeS_short _ _ (by rw [List.length_take]; omega)]
      simp
  · simp only [if_neg c5] at hc ⊢
    simp at hc
theorem back_bad (t : Thing) (bs : List UInt8) (e : Int) (h : e ≠ 0) : (backS t bs e).2.2 = e := by
  unfold backS
  simp only [takeS_bad _ _ _ h, varS_bad _ _ _ h, rawS_nat, textS, countS_nat]
  have e0 : rawS 0 bs e = ([], bs, e) := by rw [show (0 : Int) = ((0 : Nat) : Int) from rfl, rawS_nat, takeS_bad _ _ _ h]
  simp only [e0, if_pos h]
  repeat (first | split | rfl)
theorem takeS_left (k : Nat) (bs : List UInt8) (e : Int) : (takeS k bs e).2.1.length ≤ bs.length := by
  unfold takeS
  split
  · exact Nat.le_refl _
  split
  · exact Nat.le_refl _
  · show (bs.drop k).length ≤ _; rw [List.length_drop]; omega
theorem varS_left (most : Int) (bs : List UInt8) (e : Int) : (varS most bs e).2.1.length ≤ bs.length := by
  unfold varS
  split
  · exact Nat.le_refl _
  split
  · exact Nat.le_refl _
  split
  · exact Nat.le_refl _
  · show (bs.drop _).length ≤ _; rw [List.length_drop]; omega
theorem textS_left (n : Nat) (bs : List UInt8) (e : Int) : (textS n bs e).2.1.length ≤ bs.length := by
  unfold textS
  simp only [countS_nat]
  split
  · exact Nat.le_refl _
  · have h1 := varS_left n bs e
    have h2 : ∀ (x : Int) (b : List UInt8) (e : Int), (rawS x b e).2.1.length ≤ b.length := by
      intro x b e
      unfold rawS
      split
      · exact Nat.le_refl _
      · exact takeS_left _ _ _
    exact Nat.le_trans (h2 _ _ _) h1
theorem back_left (t : Thing) (bs : List UInt8) (e : Int) {r : Bool} {bs' : List UInt8} {e' : Int} (h : backS t bs e = (r, bs', e')) : bs'.length ≤ bs.length := by
  have e1 : bs' = (backS t bs e).2.1 := by rw [h]
  rw [e1]
  unfold backS
  simp only [rawS_nat]
  split
  · exact takeS_left _ _ _
  split
  · exact takeS_left _ _ _
  split
  · exact takeS_left _ _ _
  split
  · exact varS_left _ _ _
  split
  · exact takeS_left _ _ _
  split
  · exact textS_left _ _ _
  · exact Nat.le_refl _
end Go.Proofs.Ytamankgichaacaa

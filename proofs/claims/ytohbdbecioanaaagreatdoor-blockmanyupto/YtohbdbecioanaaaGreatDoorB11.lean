/- The law's own test that the program is alive: what is reckoned. alive. EncodeCuts: the law's walk. EncodeBack: the law's walk. What the reference reads, and that it is what the program reads. What is read of a row's bytes is written so. The reader's calls: what each answers, and how the reader stands behind it: number, Read, Err, Left, End, Fail, take. The reader's calls, more: take, Byte, Word, Long, frontVar, Var, Raw, count, Text. The reader's calls, the rest: Var, Raw, count, Text. Plain mathematics of the checksum: a step by half bytes is four single steps; one bit that is turned is found. The checksum's two texts: the program's, by a table of half bytes, and the reference's, bit by bit. -/
import Derived.Test.YtohbdbecioanaaaGreatDoorB8
import Derived.Test.YtohbdbecioanaaaGreatDoorB10
import Derived.Test.YtohbdbecioanaaaGreatDoorB3
import Derived.Test.YtohbdbecioanaaaGreatDoorB9
import Derived.Test.YtohbdbecioanaaaGreatDoorB1
import Derived.Test.YtohbdbecioanaaaGreatDoorB5
import Derived.Laws.BitsAllLaws
section
namespace Go.Proofs.YtohbdbecioanaaaGreatDoor
open Go.RowKit Go.Hay
set_option linter.unusedVariables false
set_option linter.unusedSimpArgs false

def v5 : Val := ⟨2, false, 5, ⟨#[]⟩⟩
def l5 : List Val := [v5, v5, v5]
theorem lt5 : v5.lt v5 = false := Val.lt_irr v5
theorem ref0 : refE 0 l5 = 0 := by decide +kernel
theorem ref1 : refE 1 l5 = 0 := by decide +kernel
theorem ref2 : refE 2 l5 = 0 := by decide +kernel
theorem ref3 : refE 3 l5 = 0 := by decide +kernel
theorem ref4 : refE 4 l5 = 0 := by decide +kernel
theorem runs5 : encR 1 l5 = [3, 2, 0, 0, 0, 0, 0, 0, 0, 5] := by decide +kernel
theorem tk5 : tkV [2, 0, 0, 0, 0, 0, 0, 0, 5] = (v5, 9) := by kernel_rfl
theorem len0 : (encR 0 l5).length = 27 := by decide +kernel
theorem len4 : (encR 4 l5).length = 9 := by decide +kernel
theorem gB0 : gB 0 = [0] := by rw [gB_lo (by omega)]; rfl
theorem len2 : (encR 2 l5).length = 10 := by
  have e : encR 2 l5 = deltaB l5 := by
    unfold encR
    rw [if_pos ⟨ref2, by decide⟩]
    rfl
  rw [e]
  unfold deltaB
  have e1 : dlt l5 (l5.length - 1) = [0, 0] := by
    show dlt l5 2 = _
    rw [dlt_succ, dlt_succ]
    have z0 : (zig (dz l5 0)).toNat = 0 := by decide +kernel
    have z1 : (zig (dz l5 1)).toNat = 0 := by decide +kernel
    rw [z0, z1, gB0]
    rfl
  rw [e1]
  simp [be_length]
theorem sort5 : sortV l5 = l5 := (sortV_of l5 l5 (by decide +kernel) (List.Perm.refl _) (by
  have h := lt5
  simp [l5, h])).symm
theorem uniq5 : uniq l5 = [v5] := by
  unfold uniq
  rw [sort5]
  have e : v5.eqv v5 = true := eqv_iff.2 rfl
  show cptTo l5 3 = _
  rw [cptTo_same l5 2 (by omega) e, cptTo_same l5 1 (by omega) e, cptTo_new l5 0 (.inl rfl)]
  rfl
theorem len3 : (encR 3 l5).length = 10 := by
  have e : encR 3 l5 = dictB l5 := by
    unfold encR
    rw [if_pos ⟨ref3, by decide⟩]
    rfl
  rw [e]
  unfold dictB
  rw [uniq5]
  simp only [List.length_append, packB_length, plcs_length]
  decide +kernel
theorem best5 : bestV l5 = 4 := by
  have l1 : (encR 1 l5).length = 10 := by rw [runs5]; rfl
  unfold bestV
  have b1 : bT l5 1 = (0, 27) := by
    rw [bT, if_pos ⟨ref0, .inl (by decide)⟩]
    show ((0 : Int), ((encR 0 l5).length : Int)) = _
    rw [len0]; rfl
  have b2 : bT l5 2 = (1, 10) := by
    rw [bT, b1, if_pos ⟨ref1, .inr (by show ((encR 1 l5).length : Int) < _; rw [l1]; decide)⟩]
    show ((1 : Int), ((encR 1 l5).length : Int)) = _
    rw [l1]; rfl
  have b3 : bT l5 3 = (1, 10) := by
    rw [bT, b2, if_neg]
    rintro ⟨_, h | h⟩
    · revert h; decide
    · have h' : ((encR 2 l5).length : Int) < 10 := h
      rw [len2] at h'; omega
  have b4 : bT l5 4 = (1, 10) := by
    rw [bT, b3, if_neg]
    rintro ⟨_, h | h⟩
    · revert h; decide
    · have h' : ((encR 3 l5).length : Int) < 10 := h
      rw [len3] at h'; omega
  have b5 : bT l5 5 = (4, 9) := by
    rw [bT, b4, if_pos ⟨ref4, .inr (by show ((encR 4 l5).length : Int) < _; rw [len4]; decide)⟩]
    show ((4 : Int), ((encR 4 l5).length : Int)) = _
    rw [len4]; rfl
  rw [b5]
theorem tkr5 : tkR 3 [] [3, 2, 0, 0, 0, 0, 0, 0, 0, 5] = some l5 := by
  rw [tkR_cons (by decide), tk5]
  rw [if_neg (by decide)]
  rw [tkR_done (by decide)]
  rfl
theorem dec5 : decE 1 [3, 2, 0, 0, 0, 0, 0, 0, 0, 5] 3 (okV (tkR 3 [] [3, 2, 0, 0, 0, 0, 0, 0, 0, 5])) = (l5, 0) := by
  rw [tkr5]
  show decE 1 _ 3 (l5, true) = _
  unfold decE
  rw [if_pos ⟨rfl, rfl, ref1, runs5⟩]
end Go.Proofs.YtohbdbecioanaaaGreatDoor
end

section
namespace Go.Proofs.YtohbdbecioanaaaGreatDoor
open Go.RowKit Go.Hay
set_option linter.unusedVariables false
set_option linter.unusedSimpArgs false

theorem see5 (w : World) (t : TypeId) : VE.See (w.alloc (.cells #[.int .i64 2, .bool false, .int .i64 5, .string ⟨#[]⟩, .int .i64 2, .bool false, .int .i64 5, .string ⟨#[]⟩, .int .i64 2, .bool false, .int .i64 5, .string ⟨#[]⟩] t)) (some ⟨w.heap.size, 0, none⟩) l5 := by
  refine .inr ⟨_, 0, rfl, fun j u hu => ?_⟩
  have e : (w.alloc (.cells #[.int .i64 2, .bool false, .int .i64 5, .string ⟨#[]⟩, .int .i64 2, .bool false, .int .i64 5, .string ⟨#[]⟩, .int .i64 2, .bool false, .int .i64 5, .string ⟨#[]⟩] t)).cell? ⟨w.heap.size, 0 + j, none⟩ = _ := World.cell?_alloc_new w _ _ (0 + j)
  rw [e, Nat.zero_add]
  simpa [El.cs, VE, l5, v5] using hu
end Go.Proofs.YtohbdbecioanaaaGreatDoor
end

section
namespace Go.Proofs.YtohbdbecioanaaaGreatDoor
open Go.RowKit Go.Hay
set_option linter.unusedVariables false
set_option linter.unusedSimpArgs false

theorem packB_le (ns : List Nat) (wd : Nat) (h1 : ns.length ≤ 64) (h2 : wd ≤ 64) : (packB ns wd).length ≤ 513 := by
  rw [packB_length]
  have : ns.length * wd ≤ 64 * 64 := Nat.mul_le_mul h1 h2
  omega
theorem encR_len (k : Int) (l : List Val) : (encR k l).length ≤ 10000 := by
  unfold encR
  split
  · rename_i h
    obtain ⟨_, h64, ha⟩ := refE_ok h.1
    have hp := flat_length (f := rowB) (m := 66) (fun x hx => rowB_length hx) l ha
    unfold putB
    split
    · have h1 := flatRun_len (R := runsV l) (fun r hr => List.all_eq_true.1 ha _ (runsV_in r hr).1)
      have := runsV_len l
      omega
    · split
      · unfold deltaB
        have := dlt_len l (l.length - 1)
        rw [List.length_append, be_length]
        omega
      · split
        · unfold dictB
          have h1 := flat_length (f := rowB) (m := 66) (fun x hx => rowB_length hx) (uniq l) (uniq_right l ha)
          have h2 := uniq_len l
          have h3 := packB_le (plcs (uniq l) l l.length) (Lib.bitLen ((uniq l).length - 1)) (by rw [plcs_length]; exact h64) (bitLen_le64 _)
          rw [List.length_append, List.length_append]
          simp only [List.length_cons, List.length_nil]
          omega
        · split
          · unfold bitsB
            have h3 := packB_le (abvs l (leastTo l l.length) l.length) (wdt l (leastTo l l.length) l.length) (by rw [abvs_length]; exact h64) (wdt_le _ _ _)
            rw [List.length_append, List.length_append, be_length]
            simp only [List.length_cons, List.length_nil]
            omega
          · omega
  · simp
theorem encR_put {k : Int} {l : List Val} (h : refE k l = 0) (h0 : 0 < l.length) : encR k l = putB k l := by unfold encR; rw [if_pos ⟨h, h0⟩]
theorem encR_none {k : Int} {l : List Val} (h : l.length = 0) : encR k l = [] := by unfold encR; rw [if_neg (by omega)]
/-- Bytes that are no encoding of so many values are refused. -/
theorem decA_no (k : Int) (bs : List UInt8) (l : List Val) (hr : refE k l = 0) (h : ∀ m, refE k m = 0 → m.length = l.length → encR k m ≠ bs) : decA k bs l.length = ([], 60) := by
  obtain ⟨h1, h64, _⟩ := refE_ok hr
  unfold decA decE
  rw [if_neg (by simp [h1]), if_neg (by omega), if_neg (fun hc => h _ hc.2.2.1 hc.2.1 hc.2.2.2)]
theorem cut_no (k : Int) (l : List Val) (n : Nat) (hr : refE k l = 0) (h0 : 0 < l.length) (hn : n < (encR k l).length) : decA k ((encR k l).take n) l.length = ([], 60) := by
  refine decA_no k _ l hr (fun m hm hl he => ?_)
  rw [encR_put hm (by omega), encR_put hr h0] at he
  rw [encR_put hr h0] at hn
  have := pre_free k l m ((putB k l).drop n) hr hm hl.symm h0 (by rw [he, List.take_append_drop])
  have h2 := congrArg List.length this
  simp at h2
  omega
theorem more_no (k : Int) (l : List Val) (x : UInt8) (hr : refE k l = 0) (h0 : 0 < l.length) : decA k (encR k l ++ [x]) l.length = ([], 60) := by
  refine decA_no k _ l hr (fun m hm hl he => ?_)
  rw [encR_put hm (by omega), encR_put hr h0] at he
  have := pre_free k m l [x] hm hr hl (by omega) he
  cases this
end Go.Proofs.YtohbdbecioanaaaGreatDoor
end

section
namespace Go.Proofs.YtohbdbecioanaaaGreatDoor
open Go.RowKit Go.Hay
set_option linter.unusedVariables false
set_option linter.unusedSimpArgs false

/-- What was written is read as it was. -/
theorem decA_back (k : Int) (l : List Val) (hi : ∀ x ∈ l, x.in64) (hr : refE k l = 0) : decA k (encR k l) l.length = (l, 0) := by
  obtain ⟨h1, h64, _⟩ := refE_ok hr
  have hT : tkA k l.length (encR k l) = some l := by
    rcases Nat.eq_zero_or_pos l.length with h0 | h0
    · obtain rfl := List.eq_nil_of_length_eq_zero h0
      unfold tkA
      rw [if_pos (show ([] : List Val).length = 0 from rfl)]
    · exact back_all k l hi hr h0
  unfold decA decE
  rw [hT, if_neg (by simp [h1]), if_neg (by omega)]
  show (if true = true ∧ l.length = l.length ∧ refE k l = 0 ∧ encR k l = encR k l then (l, 0) else ([], 60)) = (l, 0)
  rw [if_pos ⟨rfl, rfl, hr, rfl⟩]
/-- What is read is written as the same bytes. -/
theorem decA_put (k : Int) (bs : List UInt8) (n : Nat) (h : (decA k bs n).2 = 0) : refE k (decA k bs n).1 = 0 ∧ encR k (decA k bs n).1 = bs := by
  unfold decA at h ⊢
  split at h
  · simp at h
  · split at h
    · simp at h
    · unfold decE at h ⊢
      split at h
      · rename_i h1 h2 h3
        rw [if_neg h1, if_neg h2, if_pos h3]
        exact ⟨h3.2.2.1, h3.2.2.2⟩
      · simp at h
theorem decA_nil (k : Int) (bs : List UInt8) (n : Nat) (h : (decA k bs n).2 ≠ 0) : (decA k bs n).1 = [] := by
  unfold decA at h ⊢
  split
  · rfl
  · split
    · rfl
    · unfold decE at h ⊢
      rename_i h1 h2
      rw [if_neg h1, if_neg h2] at h
      split
      · rename_i h3
        rw [if_pos h3] at h
        simp at h
      · rfl
theorem rowSee {w : World} {a : Option Addr} {c : Nat} {R : List UInt8} (h : Row w (.slice a R.length c) R) : Sees w a R ∧ R.length ≤ c ∧ c ≤ maxLen := by
  obtain ⟨_, _, e, h1, _⟩ := h.sees
  injection e with e1 e2 e3
  rcases h with ⟨e, h⟩ | ⟨g9, o9, cap, e, hl9, hm9, _⟩
  · injection e with e4 e5 e6
    subst h
    rw [e6]
    exact ⟨.inl rfl, by simp, by unfold maxLen; omega⟩
  · injection e with e4 e5 e6
    rw [e6, e1]
    exact ⟨h1, hl9, hm9⟩
theorem rowVals {w : World} {a : Option Addr} {c : Nat} {L : List Val} (h : VE.Row w (.slice a L.length c) L) : Vals w a L ∧ L.length ≤ c ∧ c ≤ maxLen := by
  obtain ⟨_, _, e, h1, _, h2, h3, _⟩ := h.see
  injection e with e1 e2 e3
  rw [e1, e3]
  exact ⟨seeV.1 h1, h2, h3⟩
theorem sameV_self (l : List Val) : sameV l l = true := by
  induction l with
  | nil => rfl
  | cons x l ih => simp [sameV, eqv_self, ih]
end Go.Proofs.YtohbdbecioanaaaGreatDoor
end

section
namespace Go.Proofs.YtohbdbecioanaaaGreatDoor
open Go.RowKit Go.Hay
set_option linter.unusedVariables false
set_option linter.unusedSimpArgs false

def tkF : Nat → List Val → List UInt8 → Option (List Val × List UInt8)
  | 0, acc, bs => some (acc, bs)
  | n + 1, acc, bs => if (rowF bs).2 = 0 then none else tkF n (acc ++ [(rowF bs).1]) (bs.drop (rowF bs).2)
def orNil : Option (List Val) → List Val
  | none => []
  | some l => l
def rpR (many : Nat) (acc : List Val) (bs : List UInt8) : List Val :=
  match bs with
  | [] => acc
  | c :: r => if many ≤ acc.length then acc else if (rowF r).2 = 0 then [] else rpR many (acc ++ List.replicate c.toNat (rowF r).1) (r.drop (rowF r).2)
termination_by bs.length
decreasing_by simp; omega
theorem rpR_nil (many : Nat) (acc : List Val) : rpR many acc [] = acc := by rw [rpR.eq_def]
theorem rpR_cons (many : Nat) (acc : List Val) (c : UInt8) (r : List UInt8) : rpR many acc (c :: r) = if many ≤ acc.length then acc else if (rowF r).2 = 0 then [] else rpR many (acc ++ List.replicate c.toNat (rowF r).1) (r.drop (rowF r).2) := by rw [rpR.eq_def]
def zz (z s : Nat) (x : UInt8) : Nat := (z + x.toNat % 128 * 2 ^ s % 18446744073709551616) % 18446744073709551616
def rpD (many : Nat) : Int → Nat → Nat → List Val → List UInt8 → List Val
  | n, z, s, acc, [] => acc
  | n, z, s, acc, x :: r => if many ≤ acc.length then acc else if 128 ≤ x.toNat then rpD many n (zz z s x) (s + 7) acc r else rpD many (IntKind.i64.wrap (n + zag (zz z s x))) 0 0 (acc ++ [intV (IntKind.i64.wrap (n + zag (zz z s x)))]) r
def rpDl (many : Nat) (bs : List UInt8) : List Val := if bs.length < 8 then [] else rpD many (wordV bs) 0 0 [intV (wordV bs)] (bs.drop 8)
def rpBt (many : Nat) (bs : List UInt8) : List Val :=
  if bs.length < 9 ∨ 64 < (bs.getD 8 0).toNat ∨ bs.length ≠ 9 + (many * (bs.getD 8 0).toNat + 7) / 8 then [] else (upk (bs.drop 9) many (bs.getD 8 0).toNat).map fun (n : Nat) => intV (IntKind.i64.wrap (wordV bs + (n : Int)))
def rpDc (many : Nat) (bs : List UInt8) : List Val :=
  if bs.length = 0 then [] else match tkF (bs.getD 0 0).toNat [] (bs.drop 1) with
    | none => []
    | some (u, r) => if u.length = 0 then [] else if r.length ≠ (many * Lib.bitLen (u.length - 1) + 7) / 8 then [] else
      if (upk r many (Lib.bitLen (u.length - 1))).all (fun p => decide (p < u.length)) = true then (upk r many (Lib.bitLen (u.length - 1))).map fun p => u.getD p nv else []
/-- What the reference reads. -/
def rpA (k : Int) (many : Nat) (bs : List UInt8) : List Val :=
  if many = 0 then [] else if k = 0 then orNil ((tkF many [] bs).map Prod.fst) else if k = 1 then rpR many [] bs else if k = 2 then rpDl many bs else if k = 3 then rpDc many bs else rpBt many bs

theorem nil_in64 : nilV.in64 := ⟨by decide, by decide⟩
theorem nv_in64 : nv.in64 := ⟨by decide, by decide⟩
theorem wrap_in64 (n : Int) : (intV (IntKind.i64.wrap n)).in64 := by have := wrap64_bd n; exact ⟨this.1, by show IntKind.i64.wrap n ≤ _; omega⟩
theorem word_in64 (bs : List UInt8) : (intV (wordV bs)).in64 := by
  show -9223372036854775808 ≤ wordV bs ∧ wordV bs ≤ 9223372036854775807
  unfold wordV wrap64; omega
theorem rowF_in64 (bs : List UInt8) : (rowF bs).1.in64 := by
  have h0 : ∀ (k : Int) (b : Bool) (t : ByteArray), Val.in64 ⟨k, b, 0, t⟩ := fun k b t => ⟨by show (-9223372036854775808 : Int) ≤ 0; omega, by show (0 : Int) ≤ 9223372036854775807; omega⟩
  have hf : ∀ (add : Int) (bs : List UInt8), (fixF add bs).1.in64 := fun add bs => by
    cases bs with
    | nil => exact nil_in64
    | cons f r =>
      simp only [fixF]
      split
      · exact nil_in64
      · split
        · cases r with
          | nil => exact nil_in64
          | cons y s =>
            simp only
            split
            · exact h0 _ _ _
            · exact nil_in64
        · split
          · split
            · show -9223372036854775808 ≤ wrap64 _ ∧ wrap64 _ ≤ 9223372036854775807
              unfold wrap64; omega
            · exact nil_in64
          · exact nil_in64
  cases bs with
  | nil => exact nil_in64
  | cons f r =>
    simp only [rowF]
    split
    · cases r with
      | nil => exact nil_in64
      | cons y s =>
        simp only
        split
        · exact h0 _ _ _
        · exact nil_in64
    · exact hf 0 _
theorem decL_in64 : ∀ (n : Nat) (bs : List UInt8) (l : List Val), decL n bs = some l → ∀ x ∈ l, x.in64
  | 0, bs, l, h => by
    simp only [decL] at h
    split at h
    · injection h with h; subst h; simp
    · cases h
  | n + 1, bs, l, h => by
    simp only [decL] at h
    split at h
    · cases h
    · cases hd : decL n (bs.drop (rowF bs).2) with
      | none => rw [hd] at h; simp at h
      | some q =>
        rw [hd] at h
        simp at h
        subst h
        intro x hx
        rcases List.mem_cons.1 hx with rfl | hx
        · exact rowF_in64 bs
        · exact decL_in64 n _ q hd x hx
theorem tkV_in64 (bs : List UInt8) : (tkV bs).1.in64 := by
  unfold tkV
  split
  · exact nil_in64
  · split
    · rename_i h
      simp only
      have hd : ∀ x ∈ (decS (1 :: bs.take (vsz bs))).1, x.in64 := by
        simp only [decS]
        rw [if_neg (by decide)]
        cases hq : decL (1 : UInt8).toNat (bs.take (vsz bs)) with
        | none => simp [decO]
        | some q => simp only [decO]; exact decL_in64 _ _ _ hq
      cases hl : (decS (1 :: bs.take (vsz bs))).1 with
      | nil => exact nv_in64
      | cons y r => rw [hl] at hd; exact hd y (by simp)
    · exact nil_in64
theorem tkP_in64 : ∀ (n : Nat) (acc : List Val) (bs : List UInt8) (q : List Val × List UInt8), (∀ x ∈ acc, x.in64) → tkP n acc bs = some q → ∀ x ∈ q.1, x.in64
  | 0, acc, bs, q, ha, h => by rw [tkP] at h; injection h with h; subst h; exact ha
  | n + 1, acc, bs, q, ha, h => by
    rw [tkP] at h
    split at h
    · cases h
    · refine tkP_in64 n _ _ q (fun x hx => ?_) h
      rcases List.mem_append.1 hx with h1 | h1
      · exact ha x h1
      · rw [List.mem_singleton.1 h1]; exact tkV_in64 bs
theorem tkF_in64 : ∀ (n : Nat) (acc : List Val) (bs : List UInt8) (q : List Val × List UInt8), (∀ x ∈ acc, x.in64) → tkF n acc bs = some q → ∀ x ∈ q.1, x.in64
  | 0, acc, bs, q, ha, h => by rw [tkF] at h; injection h with h; subst h; exact ha
  | n + 1, acc, bs, q, ha, h => by
    rw [tkF] at h
    split at h
    · cases h
    · refine tkF_in64 n _ _ q (fun x hx => ?_) h
      rcases List.mem_append.1 hx with h1 | h1
      · exact ha x h1
      · rw [List.mem_singleton.1 h1]; exact rowF_in64 bs
theorem tkR_in64 (many : Nat) : ∀ (f : Nat) (bs : List UInt8) (acc l : List Val), bs.length ≤ f → (∀ x ∈ acc, x.in64) → tkR many acc bs = some l → ∀ x ∈ l, x.in64 := by
  intro f
  induction f with
  | zero =>
    intro bs acc l hf ha h
    obtain rfl : bs = [] := List.eq_nil_of_length_eq_zero (by omega)
    by_cases hd : many ≤ acc.length
    · rw [tkR_done hd] at h; injection h with h; subst h; exact ha
    · rw [tkR_nil hd] at h; cases h
  | succ f ih =>
    intro bs acc l hf ha h
    by_cases hd : many ≤ acc.length
    · rw [tkR_done hd] at h; injection h with h; subst h; exact ha
    · cases bs with
      | nil => rw [tkR_nil hd] at h; cases h
      | cons c r =>
        rw [tkR_cons hd] at h
        split at h
        · cases h
        · refine ih _ _ l (by simp at hf ⊢; omega) (fun x hx => ?_) h
          rcases List.mem_append.1 hx with h1 | h1
          · exact ha x h1
          · rw [(List.mem_replicate.1 h1).2]; exact tkV_in64 r
theorem rpR_in64 (many : Nat) : ∀ (f : Nat) (bs : List UInt8) (acc : List Val), bs.length ≤ f → (∀ x ∈ acc, x.in64) → ∀ x ∈ rpR many acc bs, x.in64 := by
  intro f
  induction f with
  | zero =>
    intro bs acc hf ha
    obtain rfl : bs = [] := List.eq_nil_of_length_eq_zero (by omega)
    rw [rpR_nil]; exact ha
  | succ f ih =>
    intro bs acc hf ha
    cases bs with
    | nil => rw [rpR_nil]; exact ha
    | cons c r =>
      rw [rpR_cons]
      split
      · exact ha
      · split
        · simp
        · refine ih _ _ (by simp at hf ⊢; omega) (fun x hx => ?_)
          rcases List.mem_append.1 hx with h1 | h1
          · exact ha x h1
          · rw [(List.mem_replicate.1 h1).2]; exact rowF_in64 r
theorem tkD_in64 : ∀ (k : Nat) (n : Int) (acc : List Val) (bs : List UInt8) (l : List Val), (∀ x ∈ acc, x.in64) → tkD k n acc bs = some l → ∀ x ∈ l, x.in64
  | 0, n, acc, bs, l, ha, h => by rw [tkD] at h; injection h with h; subst h; exact ha
  | k + 1, n, acc, bs, l, ha, h => by
    rw [tkD] at h
    split at h
    · cases h
    · refine tkD_in64 k _ _ _ l (fun x hx => ?_) h
      rcases List.mem_append.1 hx with h1 | h1
      · exact ha x h1
      · rw [List.mem_singleton.1 h1]; exact wrap_in64 _
theorem rpD_in64 (many : Nat) : ∀ (bs : List UInt8) (n : Int) (z s : Nat) (acc : List Val), (∀ x ∈ acc, x.in64) → ∀ x ∈ rpD many n z s acc bs, x.in64
  | [], n, z, s, acc, ha => by rw [rpD]; exact ha
  | y :: r, n, z, s, acc, ha => by
    rw [rpD]
    split
    · exact ha
    · split
      · exact rpD_in64 many r _ _ _ _ ha
      · refine rpD_in64 many r _ _ _ _ (fun x hx => ?_)
        rcases List.mem_append.1 hx with h1 | h1
        · exact ha x h1
        · rw [List.mem_singleton.1 h1]; exact wrap_in64 _
theorem getD_in64 {u : List Val} (h : ∀ x ∈ u, x.in64) (p : Nat) : (u.getD p nv).in64 := by
  by_cases hp : p < u.length
  · have e : u.getD p nv = u[p] := by simp [hp]
    rw [e]; exact h _ (List.getElem_mem hp)
  · have e : u.getD p nv = nv := by simp [List.getElem?_eq_none (by omega : u.length ≤ p)]
    rw [e]; exact nv_in64
theorem tkA_in64 (k : Int) (many : Nat) (bs : List UInt8) (l : List Val) (h : tkA k many bs = some l) : ∀ x ∈ l, x.in64 := by
  unfold tkA at h
  split at h
  · injection h with h; subst h; simp
  · split at h
    · exact tkR_in64 many bs.length bs [] l (Nat.le_refl _) (by simp) h
    · split at h
      · unfold tkDl at h
        split at h
        · cases h
        · exact tkD_in64 _ _ _ _ l (fun x hx => by rw [List.mem_singleton.1 hx]; exact word_in64 bs) h
      · split at h
        · unfold tkDc at h
          split at h
          · cases h
          · split at h
            · cases h
            · rename_i u r hu
              split at h
              · cases h
              · split at h
                · injection h with h
                  subst h
                  intro x hx
                  obtain ⟨p, _, rfl⟩ := List.mem_map.1 hx
                  exact getD_in64 (tkP_in64 _ _ _ _ (by simp) hu) p
                · cases h
        · split at h
          · unfold tkBt at h
            split at h
            · cases h
            · cases hq : upkO (bs.drop 9) many (bs.getD 8 0).toNat with
              | none => rw [hq] at h; cases h
              | some ns =>
                rw [hq] at h
                injection h with h
                subst h
                intro x hx
                obtain ⟨p, _, rfl⟩ := List.mem_map.1 hx
                exact wrap_in64 _
          · cases hq : tkP many [] bs with
            | none => rw [hq] at h; cases h
            | some q =>
              rw [hq] at h
              injection h with h
              subst h
              exact tkP_in64 _ _ _ _ (by simp) hq
theorem rpA_in64 (k : Int) (many : Nat) (bs : List UInt8) : ∀ x ∈ rpA k many bs, x.in64 := by
  unfold rpA
  split
  · simp
  · split
    · cases hq : tkF many [] bs with
      | none => simp [orNil]
      | some q => exact tkF_in64 _ _ _ _ (by simp) hq
    · split
      · exact rpR_in64 many bs.length bs [] (Nat.le_refl _) (by simp)
      · split
        · unfold rpDl
          split
          · simp
          · exact rpD_in64 many _ _ _ _ _ (fun x hx => by rw [List.mem_singleton.1 hx]; exact word_in64 bs)
        · split
          · unfold rpDc
            split
            · simp
            · split
              · simp
              · rename_i u r hu
                split
                · simp
                · split
                  · simp
                  · split
                    · intro x hx
                      obtain ⟨p, _, rfl⟩ := List.mem_map.1 hx
                      exact getD_in64 (tkF_in64 _ _ _ _ (by simp) hu) p
                    · simp
          · unfold rpBt
            split
            · simp
            · intro x hx
              obtain ⟨p, _, rfl⟩ := List.mem_map.1 hx
              exact wrap_in64 _
end Go.Proofs.YtohbdbecioanaaaGreatDoor
end

section
namespace Go.Proofs.YtohbdbecioanaaaGreatDoor
open Go.RowKit Go.Hay
set_option linter.unusedVariables false
set_option linter.unusedSimpArgs false

theorem u8_of {f : UInt8} {n : Nat} (g : UInt8) (h : f.toNat = n) (hg : g.toNat = n) : f = g := UInt8.toNat_inj.1 (h.trans hg.symm)
/-- What is read is written so. -/
theorem fixF_back (add : Int) (bs : List UInt8) (h : (fixF add bs).2 ≠ 0) : (fixF add bs).1.right = true ∧ (fixF add bs).1.k ≠ 3 ∧ fixB (fixF add bs).1 add = bs.take (fixF add bs).2 := by
  cases bs with
  | nil => simp [fixF] at h
  | cons f r =>
    by_cases h0 : f.toNat = 0
    · obtain rfl := u8_of 0 h0 rfl
      simp [fixF, nilV, Val.right, emptyL, fixB]
    by_cases h1 : f.toNat = 1
    · obtain rfl := u8_of 1 h1 rfl
      cases r with
      | nil => simp [fixF] at h
      | cons y s =>
        by_cases hy : y.toNat ≤ 1
        · have hy2 : y = 0 ∨ y = 1 := by
            rcases (by omega : y.toNat = 0 ∨ y.toNat = 1) with e | e
            · exact .inl (u8_of 0 e rfl)
            · exact .inr (u8_of 1 e rfl)
          rcases hy2 with rfl | rfl <;> simp [fixF, Val.right, emptyL, fixB]
        · simp [fixF, hy] at h
    by_cases h2 : f.toNat = 2
    · obtain rfl := u8_of 2 h2 rfl
      by_cases h8 : 8 ≤ r.length
      · have hl : (r.take 8).length = 8 := by simp; omega
        have hn := num_lt64 (r.take 8) (by omega)
        have hb := be_num (r.take 8)
        rw [hl] at hb
        have hu := u64_s64 (num (r.take 8)) add hn
        have e : fixF add (2 :: r) = (⟨2, false, wrap64 (num (r.take 8) - add), ⟨#[]⟩⟩, 9) := by simp [fixF, h8]
        rw [e]
        refine ⟨by simp [Val.right, emptyL], by simp, ?_⟩
        simp only [fixB, if_neg (by omega : ¬ (2 : Int) = 0), if_neg (by omega : ¬ (2 : Int) = 1), hu, hb, List.take_succ_cons]
      · simp [fixF, h8] at h
    · simp [fixF, h0, h1, h2] at h
theorem rowF_back (bs : List UInt8) (h : (rowF bs).2 ≠ 0) : (rowF bs).1.right = true ∧ rowB (rowF bs).1 = bs.take (rowF bs).2 := by
  cases bs with
  | nil => simp [rowF] at h
  | cons f r =>
    by_cases h3 : f.toNat = 3
    · obtain rfl := u8_of 3 h3 rfl
      cases r with
      | nil => simp [rowF] at h
      | cons y s =>
        by_cases hc : y.toNat ≤ 64 ∧ y.toNat ≤ s.length
        · have e : rowF (3 :: y :: s) = (⟨3, false, 0, ⟨(s.take y.toNat).toArray⟩⟩, 2 + y.toNat) := by simp [rowF, hc]
          have hz : (⟨(s.take y.toNat).toArray⟩ : ByteArray).size = y.toNat := by show (s.take y.toNat).toArray.size = _; simp; omega
          rw [e]
          refine ⟨?_, ?_⟩
          · simp only [Val.right, if_neg (by omega : ¬ (3 : Int) = 0), if_neg (by omega : ¬ (3 : Int) = 1), if_neg (by omega : ¬ (3 : Int) = 2), if_true]
            rw [hz]
            simp
            omega
          · simp only [rowB, if_true]
            rw [hz, Go.Hay.octet_nat, show 2 + y.toNat = y.toNat + 1 + 1 by omega, List.take_succ_cons, List.take_succ_cons]
        · simp [rowF, hc] at h
    · have e : rowF (f :: r) = fixF 0 (f :: r) := by simp only [rowF, if_neg h3]
      rw [e] at h ⊢
      obtain ⟨a, b, c⟩ := fixF_back 0 (f :: r) h
      exact ⟨a, by unfold rowB; rw [if_neg b]; exact c⟩
end Go.Proofs.YtohbdbecioanaaaGreatDoor
end

section
namespace Go.Proofs.YtohbdbecioanaaaGreatDoor
open Go.RowKit Go.Hay
set_option linter.unusedVariables false

set_option maxHeartbeats 400000 in
theorem cNumber (a : Option Addr) (n c : Nat) (xs : List UInt8) (w : World) (hs : Sees w a xs) (hn : n = xs.length) (hb : xs.length ≤ 8) :
    Calls Tryz.prog 56 #[.slice a n c] w fun e w' => e = .returned (.int .u64 (num xs)) ∧ w' = w := by
  subst hn
  go_enter Tryz.func56, Tryz.ntmps56
  go_wp2_with fail
  go_loop [3, 5, 8] (fun s _ i => ∃ k : Nat, k ≤ xs.length ∧ i = .int .i64 k ∧ s = .int .u64 (num (xs.take k))) (fun _ _ i => xs.length - (intOf i).toNat)
  case atStart => exact ⟨0, Nat.zero_le _, rfl, rfl⟩
  case round =>
    obtain ⟨k, hk, rfl, rfl⟩ := hrel
    by_cases hlt : k < xs.length
    · rcases hs with rfl | ⟨g, o, rfl, hc⟩
      · simp at hlt
      have hck := hc k xs[k] (by simp)
      have H := hid (num_take_succ xs k hlt)
      have H2 := hid (num_take_lt xs k (by omega))
      have hx : xs[k].toNat < 256 := xs[k].toNat_lt
      clear hc
      go_wp2
      refine ⟨⟨k + 1, by omega, by go_num, ?_⟩, by simp [intOf]; omega⟩
      rw [or_byte _ _ H2.out hx, ← H.out]
    · go_wp2
      go_ret
      exact ⟨ret_int (by rw [List.take_of_length_le (by omega)]), rfl⟩
/-- A Reader lies in block p: what is left, bs, in blocks of D; what was amiss, e. -/
structure Rd (w : World) (p : Nat) (D : List Nat) (bs : List UInt8) (e : Int) : Prop where
  left : ∃ a c, w.cell? ⟨p, 0, none⟩ = some (.slice a bs.length c) ∧ bs.length ≤ c ∧ c ≤ maxLen ∧ Sees w a bs ∧ ∀ k ∈ blk a, k ∈ D
  err : w.cell? ⟨p, 1, none⟩ = some (.int .i64 e)
  free0 : w.frozen? ⟨p, 0, none⟩ = false
  free1 : w.frozen? ⟨p, 1, none⟩ = false
  apart : p ∉ D
  dlt : ∀ k ∈ D, k < w.heap.size
theorem Rd.lt {w : World} {p : Nat} {D : List Nat} {bs : List UInt8} {e : Int} (h : Rd w p D bs e) : p < w.heap.size := World.block_lt_of_cell? _ _ h.err
theorem Rd.kept {w w' : World} {S : List Nat} {p : Nat} {D : List Nat} {bs : List UInt8} {e : Int} (h : Rd w p D bs e) (hk : Kp S w w') (hp : p ∉ S) (hD : ∀ k ∈ D, k ∉ S) : Rd w' p D bs e := by
  obtain ⟨a, c, h1, h2, h3, h4, h5⟩ := h.left
  exact ⟨⟨a, c, (hk.cell (p := ⟨p, 0, none⟩) h.lt hp).trans h1, h2, h3, h4.kept hk (fun k hk' => hD k (h5 k hk')), h5⟩, (hk.cell (p := ⟨p, 1, none⟩) h.lt hp).trans h.err,
    (hk.frozen (p := ⟨p, 0, none⟩) h.lt hp).trans h.free0, (hk.frozen (p := ⟨p, 1, none⟩) h.lt hp).trans h.free1, h.apart, fun k hk' => Nat.lt_of_lt_of_le (h.dlt k hk') hk.size⟩
theorem Rd.len {w : World} {p : Nat} {D : List Nat} {bs : List UInt8} {e : Int} (h : Rd w p D bs e) : bs.length ≤ maxLen := by
  obtain ⟨a, c, _, h2, h3, _⟩ := h.left
  omega
/-- Behind a store into the reader's second cell. -/
theorem Rd.setErr {w : World} {p : Nat} {D : List Nat} {bs : List UInt8} {e : Int} (h : Rd w p D bs e) (e' : Int) : Rd (w.setCell ⟨p, 1, none⟩ (.int .i64 e')) p D bs e' ∧ Kp [p] w (w.setCell ⟨p, 1, none⟩ (.int .i64 e')) := by
  have k1 : Kp [p] w (w.setCell ⟨p, 1, none⟩ (.int .i64 e')) := (Kp.refl [p] w).setCell (by simp) _
  obtain ⟨a, c, h1, h2, h3, h4, h5⟩ := h.left
  refine ⟨⟨⟨a, c, ?_, h2, h3, h4.kept k1 (fun k hk hm => ?_), h5⟩, World.cell?_setCell_same _ _ _ h.err, ?_, ?_, h.apart, fun k hk => Nat.lt_of_lt_of_le (h.dlt k hk) k1.size⟩, k1⟩
  · rw [World.cell?_setCell_other _ _ _ _ (by simp)]; exact h1
  · rw [List.mem_singleton] at hm; subst hm; exact h.apart (h5 _ hk)
  · rw [World.frozen?_setCell]; exact h.free0
  · rw [World.frozen?_setCell]; exact h.free1
/-- Behind a store into its first one. -/
theorem Rd.setLeft {w : World} {p : Nat} {D : List Nat} {bs bs' : List UInt8} {e : Int} (h : Rd w p D bs e) (a : Option Addr) (c n : Nat) (hn : n = bs'.length) (h2 : bs'.length ≤ c) (h3 : c ≤ maxLen) (h4 : Sees w a bs') (h5 : ∀ k ∈ blk a, k ∈ D) :
    Rd (w.setCell ⟨p, 0, none⟩ (.slice a n c)) p D bs' e ∧ Kp [p] w (w.setCell ⟨p, 0, none⟩ (.slice a n c)) := by
  subst hn
  have k1 : Kp [p] w (w.setCell ⟨p, 0, none⟩ (.slice a bs'.length c)) := (Kp.refl [p] w).setCell (by simp) _
  obtain ⟨a0, c0, h1, _⟩ := h.left
  refine ⟨⟨⟨a, c, World.cell?_setCell_same _ _ _ h1, h2, h3, h4.kept k1 (fun k hk hm => ?_), h5⟩, ?_, ?_, ?_, h.apart, fun k hk => Nat.lt_of_lt_of_le (h.dlt k hk) k1.size⟩, k1⟩
  · rw [List.mem_singleton] at hm; subst hm; exact h.apart (h5 _ hk)
  · rw [World.cell?_setCell_other _ _ _ _ (by simp)]; exact h.err
  · rw [World.frozen?_setCell]; exact h.free0
  · rw [World.frozen?_setCell]; exact h.free1

set_option maxHeartbeats 400000 in
theorem rRead (a : Option Addr) (n c : Nat) (xs : List UInt8) (w : World) (hs : Sees w a xs) (hn : n = xs.length) (hb : xs.length ≤ 200000000000000) :
    Calls Tryz.prog 31 #[.slice a n c] w fun e w' => ∃ p D, e = .returned (.pointer (some ⟨p, 0, none⟩)) ∧ Rd w' p D xs 0 ∧ Kp [] w w' ∧ w.heap.size ≤ p ∧ ∀ k ∈ D, w.heap.size ≤ k := by
  subst hn
  go_enter Tryz.func31, Tryz.ntmps31
  go_wp2_with fail
  refine (cClone a _ c xs _ hs rfl hb).mono ?_
  rintro e w1 ⟨v', rfl, h1, h2, h3⟩
  have hsee := h1.sees
  have hcap : ∀ a c, v' = .slice a xs.length c → c ≤ maxLen ∧ xs.length ≤ c := by
    intro a c e
    rcases h1 with ⟨rfl, rfl⟩ | ⟨g, o, cap, rfl, hl, hm, _⟩
    · cases e; exact ⟨Nat.zero_le _, Nat.le_refl _⟩
    · cases e; exact ⟨hm, hl⟩
  have hlt := h1.lt
  obtain ⟨a', c', rfl, hs', hown⟩ := hsee
  have hc' := hcap a' c' rfl
  clear hcap h1
  go_wp2_with fail
  go_ret
  have k1 : Kp [] w1 (w1.alloc (.cells #[.slice a' xs.length c', .int .i64 0] 94)) := (Kp.refl _ _).alloc _
  have hsz := h2.size
  refine ⟨w1.heap.size, own (.slice a' xs.length c'), rfl, ⟨⟨a', c', by simp, hc'.2, hc'.1, hs'.kept k1 (by simp), fun k hk => by rw [hown]; exact hk⟩, by simp, by simp, by simp, fun hm => ?_, fun k hk => by have := hlt k hk; simp; omega⟩, h2.trans k1 (by simp), hsz, h3⟩
  have := hlt _ hm
  omega

set_option maxHeartbeats 400000 in
theorem rErr (p : Nat) (D : List Nat) (bs : List UInt8) (e0 : Int) (w : World) (h : Rd w p D bs e0) :
    Calls Tryz.prog 54 #[.pointer (some ⟨p, 0, none⟩)] w fun e w' => e = .returned (.int .i64 e0) ∧ w' = w := by
  have h1 := h.err
  go_enter Tryz.func54, Tryz.ntmps54
  go_wp2
  go_ret
  exact ⟨rfl, rfl⟩

set_option maxHeartbeats 400000 in
theorem rLeft (p : Nat) (D : List Nat) (bs : List UInt8) (e0 : Int) (w : World) (h : Rd w p D bs e0) :
    Calls Tryz.prog 53 #[.pointer (some ⟨p, 0, none⟩)] w fun e w' => e = .returned (.int .i64 bs.length) ∧ w' = w := by
  obtain ⟨a, c, h1, _⟩ := h.left
  go_enter Tryz.func53, Tryz.ntmps53
  go_wp2
  go_ret
  exact ⟨rfl, rfl⟩
/-- What End tells. -/
def endE (bs : List UInt8) (e : Int) : Int := if e = 0 ∧ 0 < bs.length then 13 else e

set_option maxHeartbeats 400000 in
set_option maxHeartbeats 400000 in
theorem rFail (p : Nat) (D : List Nat) (bs : List UInt8) (e0 e1 : Int) (w : World) (h : Rd w p D bs e0) :
    Calls Tryz.prog 90 #[.pointer (some ⟨p, 0, none⟩), .int .i64 e1] w fun e w' => e = .returned (.tuple #[]) ∧ Rd w' p D bs (if e0 = 0 then e1 else e0) ∧ Kp [p] w w' := by
  have h2 := h.err
  have h3 := h.free1
  by_cases he : e0 = 0
  · subst he
    obtain ⟨r1, r2⟩ := h.setErr e1
    go_enter Tryz.func90, Tryz.ntmps90
    go_wp2
    go_end0
    exact ⟨rfl, r1, r2⟩
  · have he' : (e0 == 0) = false := by simpa using he
    rw [if_neg he]
    go_enter Tryz.func90, Tryz.ntmps90
    go_wp2
    go_end0
    exact ⟨rfl, h, Kp.refl _ _⟩
end Go.Proofs.YtohbdbecioanaaaGreatDoor
end

section
namespace Go.Proofs.YtohbdbecioanaaaGreatDoor
open Go.RowKit Go.Hay
set_option linter.unusedVariables false

set_option maxHeartbeats 400000 in
theorem rTake (p : Nat) (D : List Nat) (bs : List UInt8) (e0 n : Int) (w : World) (h : Rd w p D bs e0) (h0 : 0 ≤ n) :
    Calls Tryz.prog 57 #[.pointer (some ⟨p, 0, none⟩), .int .i64 n] w fun e w' => ∃ out bs' e' a c, takeS n.toNat bs e0 = (out, bs', e') ∧ e = .returned (.slice a out.length c) ∧ Sees w' a out ∧ (∀ k ∈ blk a, k ∈ D) ∧ out.length ≤ c ∧ Rd w' p D bs' e' ∧ Kp [p] w w' := by
  obtain ⟨n, rfl⟩ := Int.eq_ofNat_of_zero_le h0
  rw [Int.toNat_natCast]
  have hR := h
  have h1 := h.err
  have f0 := h.free0
  have f1 := h.free1
  obtain ⟨a, c, hc, hl, hm, hs, hD⟩ := h.left
  by_cases he : e0 = 0
  · subst he
    by_cases hn : bs.length < n
    · obtain ⟨r1, r2⟩ := h.setErr 10
      clear h hR
      go_enter Tryz.func57, Tryz.ntmps57
      go_wp2
      go_ret
      exact ⟨[], bs, 10, none, 0, by simp [takeS, hn], rfl, Sees.nil _ _, by simp [blk], Nat.le_refl _, r1, r2⟩
    · have hn' : n ≤ bs.length := by omega
      have hp1 := hs.front n
      have hp2 := hs.tail n
      have htk : (bs.take n).length = n := by simp; omega
      have ho : ∀ k ∈ blk a, k ∉ [p] := fun k hk hm' => by rw [List.mem_singleton] at hm'; subst hm'; exact h.apart (hD _ hk)
      by_cases hcn : c = n
      · subst hcn
        have hnil : bs.drop c = [] := by rw [List.drop_of_length_le hl]
        obtain ⟨r1, r2⟩ := h.setLeft (bs' := bs.drop c) a 0 0 (by simp; omega) (by simp; omega) (Nat.zero_le _) (by rw [hnil]; exact Sees.nil _ _) hD
        have hq1 := hp1.kept r2 ho
        clear h hR hnil hp1 hp2 ho
        go_enter Tryz.func57, Tryz.ntmps57
        go_wp2
        go_ret
        exact ⟨_, _, _, a, c, by rw [takeS, if_neg (by simp), if_neg (by omega)], by rw [htk]; rfl, hq1, hD, by omega, r1, r2⟩
      · obtain ⟨r1, r2⟩ := h.setLeft (bs' := bs.drop n) (a.map (fun x => x.add n)) (c - n) (bs.length - n) (by simp) (by simp; omega) (by omega) hp2 (fun k hk => hD k (by rwa [blk_tail] at hk))
        have hq1 := hp1.kept r2 ho
        clear h hR hp1 hp2 ho
        go_enter Tryz.func57, Tryz.ntmps57
        go_wp2
        go_ret
        exact ⟨_, _, _, a, c, by rw [takeS, if_neg (by simp), if_neg (by omega)], by rw [htk]; rfl, hq1, hD, by omega, r1, r2⟩
  · have he' : (e0 == 0) = false := by simpa using he
    have he2 : (e0 != 0) = true := by simpa using he
    go_enter Tryz.func57, Tryz.ntmps57
    go_wp2
    go_ret
    exact ⟨[], bs, e0, none, 0, by simp [takeS, he], rfl, Sees.nil _ _, by simp [blk], Nat.le_refl _, hR, Kp.refl _ _⟩
theorem takeS_len (n : Nat) (bs : List UInt8) (e : Int) {out bs' : List UInt8} {e' : Int} (h : takeS n bs e = (out, bs', e')) : out.length ≤ n := by
  unfold takeS at h
  split at h
  · cases h; simp
  · split at h
    · cases h; simp
    · cases h; simp; omega
theorem num_lt_of (xs : List UInt8) (k : Nat) (h : xs.length ≤ k) : num xs < 256 ^ k := Nat.lt_of_lt_of_le (num_lt xs) (Nat.pow_le_pow_right (by omega) h)

set_option maxHeartbeats 400000 in
theorem rByte (p : Nat) (D : List Nat) (bs : List UInt8) (e0 : Int) (w : World) (h : Rd w p D bs e0) :
    Calls Tryz.prog 51 #[.pointer (some ⟨p, 0, none⟩)] w fun e w' => ∃ out bs' e', takeS 1 bs e0 = (out, bs', e') ∧ e = .returned (.int .u8 (num out)) ∧ Rd w' p D bs' e' ∧ Kp [p] w w' := by
  go_enter Tryz.func51, Tryz.ntmps51
  go_wp2_with fail
  refine (rTake p D bs e0 1 _ h (by omega)).mono ?_
  rintro e w1 ⟨out, bs', e', a, c, ht, rfl, hs, hD, hl, hr, hk⟩
  have hlen := takeS_len _ _ _ ht
  have hnum := num_lt_of out 1 hlen
  have HT := hid ht
  clear ht
  go_wp2_with fail
  refine (cNumber a _ c out _ hs rfl (by omega)).mono ?_
  rintro e w2 ⟨rfl, rfl⟩
  go_wp2_with fail
  go_ret
  exact ⟨out, bs', e', HT.out, rfl, hr, hk⟩
set_option maxHeartbeats 400000 in
set_option maxRecDepth 100000 in
theorem cFrontC (a : Option Addr) (n c : Nat) (bs : List UInt8) (w : World) (hs : Sees w a bs) (hn : n = bs.length) (hl : bs.length ≤ c) (hm : c ≤ maxLen) :
    Calls Tryz.prog 120 #[.slice a n c] w fun e w' => e = .returned (.tuple #[.int .u64 (fv bs).1, .int .i64 (fv bs).2.1, .int .i64 (fv bs).2.2]) ∧ w' = w := by
  subst hn
  cases bs with
  | nil =>
    rw [show fv [] = (0, 0, 10) from rfl, List.length_nil]
    go_enter Tryz.func120, Tryz.ntmps120
    go_wp2
    go_ret3
    exact ⟨rfl, rfl⟩
  | cons f r =>
    have hf : f.toNat < 256 := f.toNat_lt
    obtain ⟨g, o, rfl, hc⟩ : ∃ g o, a = some ⟨g, o, none⟩ ∧ ∀ j u, (f :: r)[j]? = some u → w.cell? ⟨g, o + j, none⟩ = some (.int .u8 u.toNat) := by
      rcases hs with h | h
      · cases h
      · exact h
    have hc0 : w.cell? ⟨g, o, none⟩ = some (.int .u8 f.toNat) := hc 0 f rfl
    have htl := (Sees.tail hs 1).front
    clear hc
    have hbh := behindI_bd f.toNat
    obtain ⟨k, hk⟩ : ∃ k : Nat, behindI f.toNat = k := ⟨(behindI f.toNat).toNat, by omega⟩
    rw [List.length_cons] at hl ⊢
    have hk8 : k ≤ 8 := by omega
    unfold maxLen at hm
    by_cases hk0 : k = 0
    · have e : fv (f :: r) = ((f.toNat : Int), 1, 0) := by simp only [fv, hk, hk0]; rfl
      rw [e]
      have HK := hid hk
      clear hk hbh e htl hs
      subst hk0
      go_enter Tryz.func120, Tryz.ntmps120
      go_wp2_with fail
      refine (cBehind _ _ (by omega) (by omega)).mono ?_
      rintro e w2 ⟨rfl, rfl⟩
      rw [HK.out]
      go_wp2_with fail
      go_ret3
      exact ⟨rfl, rfl⟩
    have hk1 : ((1 + (k : Int)) == 1) = false := by simp; omega
    by_cases hsh : r.length < k
    · have e : fv (f :: r) = (0, 0, 10) := by simp only [fv, hk]; rw [if_neg (by omega), if_pos (by omega)]
      rw [e]
      have HK := hid hk
      clear hk hbh e htl hs
      go_enter Tryz.func120, Tryz.ntmps120
      go_wp2_with fail
      refine (cBehind _ _ (by omega) (by omega)).mono ?_
      rintro e w2 ⟨rfl, rfl⟩
      rw [HK.out]
      go_wp2_with fail
      go_ret3
      exact ⟨rfl, rfl⟩
    · have hc1 : ¬ c = 1 := by omega
      have hkl : k ≤ r.length := by omega
      have hnn := num_lt64 (r.take k) (by simp; omega)
      have hlen : (r.take k).length = k := by simp; omega
      have hv : fv (f :: r) = if leadI (num (r.take k)) ≠ f.toNat then ((0 : Int), (0 : Int), (11 : Int)) else ((num (r.take k) : Int), 1 + (k : Int), 0) := by
        simp only [fv, hk, Int.toNat_natCast]
        rw [if_neg (by omega), if_neg (by omega)]
      rw [hv]
      have HK := hid hk
      have hs1 := htl k
      rw [List.drop_one, List.tail_cons, Option.map_some, Addr.add_lit] at hs1
      clear hk hbh htl hs hv
      generalize hm' : num (r.take k) = m at *
      generalize hq : leadI (m : Int) = q at *
      have hqb := leadI_bd m (by omega)
      rw [hq] at hqb
      have HM := hid hm'
      have HL := hid hq
      clear hm' hq
      by_cases hqf : q = f.toNat
      · rw [if_neg (fun h => h hqf)]
        subst hqf
        go_enter Tryz.func120, Tryz.ntmps120
        go_wp2_with fail
        refine (cBehind _ _ (by omega) (by omega)).mono ?_
        rintro e w2 ⟨rfl, rfl⟩
        rw [HK.out]
        go_wp2_with fail
        refine (cNumber _ k _ (r.take k) _ hs1 hlen.symm (by omega)).mono ?_
        rintro e w2 ⟨rfl, rfl⟩
        rw [HM.out]
        go_wp2_with fail
        refine (cLead _ _ (by omega) (by omega)).mono ?_
        rintro e w2 ⟨rfl, rfl⟩
        rw [HL.out]
        go_wp2_with fail
        go_ret3
        exact ⟨rfl, rfl⟩
      · rw [if_pos hqf]
        have hq' : (q != (f.toNat : Int)) = true := by simpa using hqf
        clear hqf
        go_enter Tryz.func120, Tryz.ntmps120
        go_wp2_with fail
        refine (cBehind _ _ (by omega) (by omega)).mono ?_
        rintro e w2 ⟨rfl, rfl⟩
        rw [HK.out]
        go_wp2_with fail
        refine (cNumber _ k _ (r.take k) _ hs1 hlen.symm (by omega)).mono ?_
        rintro e w2 ⟨rfl, rfl⟩
        rw [HM.out]
        go_wp2_with fail
        refine (cLead _ _ (by omega) (by omega)).mono ?_
        rintro e w2 ⟨rfl, rfl⟩
        rw [HL.out]
        go_wp2_with fail
        go_ret3
        exact ⟨rfl, rfl⟩
end Go.Proofs.YtohbdbecioanaaaGreatDoor
end

section
namespace Go.Proofs.YtohbdbecioanaaaGreatDoor
open Go.RowKit Go.Hay
set_option linter.unusedVariables false

set_option maxHeartbeats 400000 in
theorem rVar (p : Nat) (D : List Nat) (bs : List UInt8) (e0 most : Int) (w : World) (h : Rd w p D bs e0) (h0 : 0 ≤ most) (h1 : most < 18446744073709551616) :
    Calls Tryz.prog 85 #[.pointer (some ⟨p, 0, none⟩), .int .u64 most] w fun e w' => ∃ n bs' e', varS most bs e0 = (n, bs', e') ∧ e = .returned (.int .u64 n) ∧ Rd w' p D bs' e' ∧ Kp [p] w w' := by
  have he1 := h.err
  have f0 := h.free0
  have f1 := h.free1
  obtain ⟨a, c, hc, hl, hm, hs, hD⟩ := h.left
  by_cases he : e0 = 0
  · subst he
    have hbd := fv_bd bs
    obtain ⟨n, k, e2, hfv⟩ : ∃ n k e2, fv bs = (n, k, e2) := ⟨_, _, _, rfl⟩
    have hvar : varS most bs 0 = if e2 ≠ 0 then (0, bs, e2) else if most < n then (0, bs, 12) else (n, bs.drop k.toNat, 0) := by simp [varS, hfv]
    rw [hvar]
    have hfront := cFrontC a bs.length c bs w hs rfl hl hm
    rw [hfv] at hbd hfront
    obtain ⟨hn0, hn1, hk0, hk9, hkl⟩ : 0 ≤ n ∧ n < 18446744073709551616 ∧ 0 ≤ k ∧ k ≤ 9 ∧ k ≤ bs.length := hbd
    have hfront : Calls Tryz.prog 120 #[.slice a bs.length c] w fun e w' => e = .returned (.tuple #[.int .u64 n, .int .i64 k, .int .i64 e2]) ∧ w' = w := hfront
    have HF := hid hfront
    clear hfv hvar hfront
    obtain ⟨k, rfl⟩ := Int.eq_ofNat_of_zero_le hk0
    rw [Int.toNat_natCast]
    by_cases he2 : e2 = 0
    · subst he2
      rw [if_neg (fun h => h rfl)]
      by_cases hmn : most < n
      · rw [if_pos hmn]
        obtain ⟨r1, r2⟩ := h.setErr 12
        clear h
        go_enter Tryz.func85, Tryz.ntmps85
        go_wp2_with fail
        refine HF.out.mono ?_
        rintro e w2 ⟨rfl, rfl⟩
        go_wp2_with fail
        go_ret
        exact ⟨_, _, _, rfl, rfl, r1, r2⟩
      · rw [if_neg hmn]
        have ho : ∀ k ∈ blk a, k ∉ [p] := fun k hk hm' => by rw [List.mem_singleton] at hm'; subst hm'; exact h.apart (hD _ hk)
        by_cases hck : c = k
        · have hnil : bs.drop k = [] := by rw [List.drop_of_length_le (by omega)]
          obtain ⟨r1, r2⟩ := h.setLeft (bs' := bs.drop k) a 0 0 (by simp; omega) (by simp; omega) (Nat.zero_le _) (by rw [hnil]; exact Sees.nil _ _) hD
          subst hck
          clear h hnil ho hs hD
          go_enter Tryz.func85, Tryz.ntmps85
          go_wp2_with fail
          refine HF.out.mono ?_
          rintro e w2 ⟨rfl, rfl⟩
          go_wp2_with fail
          go_ret
          exact ⟨_, _, _, rfl, rfl, r1, r2⟩
        · obtain ⟨r1, r2⟩ := h.setLeft (bs' := bs.drop k) (a.map (fun x => x.add k)) (c - k) (bs.length - k) (by simp) (by simp; omega) (by omega) (hs.tail k) (fun k hk => hD k (by rwa [blk_tail] at hk))
          clear h ho hs hD
          go_enter Tryz.func85, Tryz.ntmps85
          go_wp2_with fail
          refine HF.out.mono ?_
          rintro e w2 ⟨rfl, rfl⟩
          go_wp2_with fail
          go_ret
          exact ⟨_, _, _, rfl, rfl, r1, r2⟩
    · rw [if_pos he2]
      obtain ⟨r1, r2⟩ := h.setErr e2
      have he' : (e2 == 0) = false := by simpa using he2
      have he2' : (e2 != 0) = true := by simpa using he2
      clear h
      go_enter Tryz.func85, Tryz.ntmps85
      go_wp2_with fail
      refine HF.out.mono ?_
      rintro e w2 ⟨rfl, rfl⟩
      go_wp2_with fail
      go_ret
      exact ⟨_, _, _, rfl, rfl, r1, r2⟩
  · have he' : (e0 == 0) = false := by simpa using he
    have he2 : (e0 != 0) = true := by simpa using he
    go_enter Tryz.func85, Tryz.ntmps85
    go_wp2_with fail
    go_ret
    exact ⟨0, bs, e0, by simp [varS, he], rfl, h, Kp.refl _ _⟩
set_option maxHeartbeats 400000 in
theorem rRaw (p : Nat) (D : List Nat) (bs : List UInt8) (e0 n : Int) (w : World) (h : Rd w p D bs e0) (hb : bs.length ≤ 200000000000000) :
    Calls Tryz.prog 121 #[.pointer (some ⟨p, 0, none⟩), .int .i64 n] w fun e w' => ∃ out bs' e' v, rawS n bs e0 = (out, bs', e') ∧ e = .returned v ∧ Row w' v out ∧ (∀ k ∈ own v, w.heap.size ≤ k) ∧ Rd w' p D bs' e' ∧ Kp [p] w w' := by
  by_cases hn : n < 0
  · have HE := hid (show rawS n bs e0 = ([], bs, if e0 = 0 then 12 else e0) by rw [rawS, if_pos hn])
    go_enter Tryz.func121, Tryz.ntmps121
    go_wp2_with fail
    refine (rFail p D bs e0 12 _ h).mono ?_
    rintro e w1 ⟨rfl, r1, r2⟩
    go_wp2_with fail
    go_ret
    exact ⟨_, _, _, _, HE.out, rfl, Row.nil _, by simp [own, Value.ownBlock], r1, r2⟩
  · have hn' : 0 ≤ n := by omega
    have HE := hid (show rawS n bs e0 = takeS n.toNat bs e0 by rw [rawS, if_neg hn])
    go_enter Tryz.func121, Tryz.ntmps121
    go_wp2_with fail
    refine (rTake p D bs e0 n _ h hn').mono ?_
    rintro e w1 ⟨out, bs', e', a, c, ht, rfl, hs, hD, hl, hr, hk⟩
    have hout : out.length ≤ bs.length := by
      unfold takeS at ht
      split at ht
      · cases ht; simp
      · split at ht
        · cases ht; simp
        · cases ht; simp; omega
    have HT := hid (HE.out.trans ht)
    clear ht HE
    go_wp2_with fail
    refine (cClone a out.length c out _ hs rfl (by omega)).mono ?_
    rintro e w2 ⟨v', rfl, g1, g2, g3⟩
    go_wp2_with fail
    go_ret
    have hlt := hr.lt
    exact ⟨out, bs', e', v', HT.out, rfl, g1, fun k hk' => Nat.le_trans hk.size (g3 k hk'), hr.kept g2 (by simp) (by simp), hk.trans g2 (by simp)⟩
set_option maxHeartbeats 400000 in
theorem rCount (p : Nat) (D : List Nat) (bs : List UInt8) (e0 most : Int) (w : World) (h : Rd w p D bs e0) (h0 : -9223372036854775808 ≤ most) (h1 : most ≤ 9223372036854775807) :
    Calls Tryz.prog 122 #[.pointer (some ⟨p, 0, none⟩), .int .i64 most] w fun e w' => ∃ n bs' e', countS most bs e0 = (n, bs', e') ∧ e = .returned (.int .i64 n) ∧ 0 ≤ n ∧ n ≤ 9223372036854775807 ∧ Rd w' p D bs' e' ∧ Kp [p] w w' := by
  by_cases hm : 0 ≤ most
  · have HE := hid (show countS most bs e0 = varS most bs e0 by rw [countS, if_pos hm])
    go_enter Tryz.func122, Tryz.ntmps122
    go_wp2_with fail
    refine (rVar p D bs e0 most _ h hm (by omega)).mono ?_
    rintro e w1 ⟨n, bs', e', ht, rfl, hr, hk⟩
    have hn : 0 ≤ n ∧ n ≤ most := by
      have := fv_bd bs
      unfold varS at ht
      split at ht
      · cases ht; omega
      · split at ht
        · cases ht; omega
        · split at ht
          · cases ht; omega
          · cases ht; omega
    obtain ⟨hn0, hn1⟩ := hn
    have hn2 : n ≤ 9223372036854775807 := by omega
    have HT := hid (HE.out.trans ht)
    clear ht HE
    go_wp2_with fail
    go_ret
    exact ⟨n, bs', e', HT.out, rfl, hn0, hn2, hr, hk⟩
  · obtain ⟨a, c, hc, hl, hmx, hs, hD⟩ := h.left
    have f0 := h.free0
    have hap := h.apart
    have hlt := h.lt
    have HE := hid (show countS most bs e0 = (0, bs, if (varS 18446744073709551615 bs e0).2.2 = 0 then 12 else (varS 18446744073709551615 bs e0).2.2) by rw [countS, if_neg hm])
    go_enter Tryz.func122, Tryz.ntmps122
    go_wp2_with fail
    refine (rVar p D bs e0 18446744073709551615 _ h (by omega) (by omega)).mono ?_
    rintro e w1 ⟨n, bs', e', ht, rfl, hr, hk⟩
    have he := HE.out
    rw [ht] at he
    have HT := hid he
    clear ht HE he
    have ho : ∀ k ∈ blk a, k ∉ [p] := fun k hka hm' => by rw [List.mem_singleton] at hm'; subst hm'; exact hap (hD _ hka)
    have hs1 : Sees w1 a bs := hs.kept hk ho
    obtain ⟨r1, r2⟩ := hr.setLeft a c bs.length rfl hl hmx hs1 hD
    obtain ⟨a1, c1, hc1, _⟩ := hr.left
    have f1 := hr.free0
    clear f0 hc hs ho hs1 hD h
    go_wp2_with fail
    refine (rFail p D bs e' 12 _ r1).mono ?_
    rintro e w2 ⟨rfl, q1, q2⟩
    go_wp2_with fail
    go_ret
    exact ⟨_, _, _, HT.out, rfl, by omega, by omega, q1, (hk.trans r2 (by simp)).trans q2 (by simp)⟩
set_option maxHeartbeats 400000 in
theorem rText (p : Nat) (D : List Nat) (bs : List UInt8) (e0 most : Int) (w : World) (h : Rd w p D bs e0) (h0 : -9223372036854775808 ≤ most) (h1 : most ≤ 9223372036854775807) (hb : bs.length ≤ 200000000000000) :
    Calls Tryz.prog 89 #[.pointer (some ⟨p, 0, none⟩), .int .i64 most] w fun e w' => ∃ out bs' e' v, textS most bs e0 = (out, bs', e') ∧ e = .returned v ∧ Row w' v out ∧ (∀ k ∈ own v, w.heap.size ≤ k) ∧ Rd w' p D bs' e' ∧ Kp [p] w w' := by
  obtain ⟨a, c, hc, hl, hmx, hs, hD⟩ := h.left
  have hap := h.apart
  have ho : ∀ k ∈ blk a, k ∉ [p] := fun k hka hm' => by rw [List.mem_singleton] at hm'; subst hm'; exact hap (hD _ hka)
  go_enter Tryz.func89, Tryz.ntmps89
  go_wp2_with fail
  refine (rCount p D bs e0 most _ h h0 h1).mono ?_
  rintro e w1 ⟨n, bs1, e1, ht, rfl, hn0, hn1, hr1, hk1⟩
  have hb1 : bs1.length ≤ bs.length := by
    unfold countS varS at ht
    split at ht
    · split at ht
      · cases ht; simp
      · split at ht
        · cases ht; simp
        · split at ht
          · cases ht; simp
          · cases ht; simp
    · cases ht; simp
  have HT := hid ht
  clear ht
  go_wp2_with fail
  refine (rRaw p D bs1 e1 n _ hr1 (by omega)).mono ?_
  rintro e w2 ⟨out, bs2, e2, v, ht2, rfl, hv, hown, hr2, hk2⟩
  have HX : Hid (textS most bs e0 = if e2 ≠ 0 then (out, bs, e2) else (out, bs2, e2)) := by show _ = _; simp only [textS]; rw [HT.out, ht2]
  clear ht2 HT
  have he2 := hr2.err
  have f2 := hr2.free0
  obtain ⟨a2, c2, hc2, _⟩ := hr2.left
  have kk := hk1.trans hk2 (by simp)
  have hs2 : Sees w2 a bs := hs.kept kk ho
  obtain ⟨r1, r2⟩ := hr2.setLeft a c bs.length rfl hl hmx hs2 hD
  have hrow := hv.kept r2 (fun k hk' hm' => by rw [List.mem_singleton] at hm'; subst hm'; have := hown _ hk'; have := hr1.lt; omega)
  clear hc hs hD ho hs2 h
  by_cases hz : e2 = 0
  · subst hz
    go_wp2_with fail
    go_ret
    exact ⟨_, _, _, _, HX.out.trans (if_neg (fun h => h rfl)), rfl, hv, fun k hk' => Nat.le_trans hk1.size (hown k hk'), hr2, kk⟩
  · have hz' : (e2 != 0) = true := by simpa using hz
    go_wp2_with fail
    go_ret
    exact ⟨_, _, _, _, HX.out.trans (if_pos hz), rfl, hrow, fun k hk' => Nat.le_trans hk1.size (hown k hk'), r1, kk.trans r2 (by simp)⟩
end Go.Proofs.YtohbdbecioanaaaGreatDoor
end

section
namespace Go.Hay
set_option linter.unusedVariables false

/-- One step of the register. -/
def bit1 (r : Nat) : Nat := if r % 2 = 1 then r / 2 ^^^ 3988292384 else r / 2
def bitN : Nat → Nat → Nat
  | 0, r => r
  | k + 1, r => bit1 (bitN k r)
def crcTab : List Nat := [0, 498536548, 997073096, 651767980, 1994146192, 1802195444, 1303535960, 1342533948, 3988292384, 4027552580, 3604390888, 3412177804, 2607071920, 2262029012, 2685067896, 3183342108]
def nib (r : Nat) : Nat := r / 16 ^^^ crcTab.getD (r % 16) 0
/-- The register behind a byte. -/
def crcStep (r : Nat) (x : UInt8) : Nat := bitN 8 (r ^^^ x.toNat)
def crcR (r : Nat) (bs : List UInt8) : Nat := bs.foldl crcStep r
/-- The checksum. -/
def crc (bs : List UInt8) : Nat := crcR 4294967295 bs ^^^ 4294967295

theorem xor_mod2 (a b : Nat) : (a ^^^ b) % 2 = (a % 2) ^^^ (b % 2) := by simpa using Nat.xor_mod_two_pow (a := a) (b := b) (n := 1)
theorem xor_left (a b c : Nat) (h : a ^^^ b = a ^^^ c) : b = c := by
  have := congrArg (a ^^^ ·) h
  simp only [← Nat.xor_assoc, Nat.xor_self, Nat.zero_xor] at this
  exact this
theorem xor_ne (a b : Nat) (h : b ≠ 0) : a ^^^ b ≠ a := fun e => h (xor_left a b 0 (by rw [e, Nat.xor_zero]))

theorem bit1_eq (r : Nat) : bit1 r = r / 2 ^^^ (if r % 2 = 1 then 3988292384 else 0) := by unfold bit1; split <;> simp
theorem bit1_xor (a b : Nat) : bit1 (a ^^^ b) = bit1 a ^^^ bit1 b := by
  rw [bit1_eq, bit1_eq, bit1_eq, Nat.xor_div_two, xor_mod2]
  have key : ∀ A B C D E : Nat, E = C ^^^ D → (A ^^^ B) ^^^ E = (A ^^^ C) ^^^ (B ^^^ D) := by
    intro A B C D E h
    rw [h, Nat.xor_assoc, Nat.xor_assoc, ← Nat.xor_assoc B, ← Nat.xor_assoc C, Nat.xor_comm B C]
  apply key
  rcases Nat.mod_two_eq_zero_or_one a with h1 | h1 <;> rcases Nat.mod_two_eq_zero_or_one b with h2 | h2 <;> simp [h1, h2]
theorem bit1_lt (r : Nat) (h : r < 4294967296) : bit1 r < 4294967296 := by
  unfold bit1
  split
  · exact Nat.xor_lt_two_pow (n := 32) (by omega) (by omega)
  · omega
theorem bit1_two (a : Nat) : bit1 (2 * a) = a := by unfold bit1; rw [if_neg (by omega)]; omega
theorem bit1_ne (r : Nat) (h : r < 4294967296) (h0 : r ≠ 0) : bit1 r ≠ 0 := by
  unfold bit1
  split
  · intro e
    have := xor_left (r / 2) 3988292384 (r / 2) (by rw [e, Nat.xor_self])
    omega
  · omega
theorem bitN_xor (k a b : Nat) : bitN k (a ^^^ b) = bitN k a ^^^ bitN k b := by
  induction k with
  | zero => rfl
  | succ k ih => simp only [bitN]; rw [ih, bit1_xor]
theorem bitN_lt (k r : Nat) (h : r < 4294967296) : bitN k r < 4294967296 := by
  induction k with
  | zero => exact h
  | succ k ih => exact bit1_lt _ ih
theorem bitN_ne (k r : Nat) (h : r < 4294967296) (h0 : r ≠ 0) : bitN k r ≠ 0 := by
  induction k with
  | zero => exact h0
  | succ k ih => exact bit1_ne _ (bitN_lt k r h) ih
theorem bitN_add (j k r : Nat) : bitN (j + k) r = bitN j (bitN k r) := by
  induction j with
  | zero => rw [Nat.zero_add]; rfl
  | succ j ih => rw [Nat.succ_add]; simp only [bitN]; rw [ih]
theorem split16 (r : Nat) : r = (16 * (r / 16)) ^^^ (r % 16) := by
  have h1 := Nat.xor_div_two_pow (a := 16 * (r / 16)) (b := r % 16) (n := 4)
  have h2 := Nat.xor_mod_two_pow (a := 16 * (r / 16)) (b := r % 16) (n := 4)
  simp only [show (2 : Nat) ^ 4 = 16 from rfl] at h1 h2
  rw [show 16 * (r / 16) / 16 = r / 16 by omega, show r % 16 / 16 = 0 by omega, Nat.xor_zero] at h1
  rw [show 16 * (r / 16) % 16 = 0 by omega, show r % 16 % 16 = r % 16 by omega, Nat.zero_xor] at h2
  omega
theorem tab_bitN : ∀ d, d < 16 → bitN 4 d = crcTab.getD d 0 := by decide +kernel
theorem nib_eq (r : Nat) : nib r = bitN 4 r := by
  conv => rhs; rw [split16 r]
  rw [bitN_xor, tab_bitN (r % 16) (by omega)]
  show r / 16 ^^^ _ = bit1 (bit1 (bit1 (bit1 (16 * (r / 16))))) ^^^ _
  rw [show 16 * (r / 16) = 2 * (2 * (2 * (2 * (r / 16)))) by omega, bit1_two, bit1_two, bit1_two, bit1_two]
theorem step_nib (r : Nat) (x : UInt8) : nib (nib (r ^^^ x.toNat)) = crcStep r x := by
  rw [nib_eq, nib_eq]
  exact (bitN_add 4 4 _).symm
theorem xor_lt32 (a b : Nat) (ha : a < 4294967296) (hb : b < 4294967296) : a ^^^ b < 4294967296 := Nat.xor_lt_two_pow (n := 32) (by omega) (by omega)
theorem crcStep_lt (r : Nat) (x : UInt8) (h : r < 4294967296) : crcStep r x < 4294967296 := bitN_lt 8 _ (xor_lt32 _ _ h (by have := x.toNat_lt; omega))
theorem crcR_lt (bs : List UInt8) (r : Nat) (h : r < 4294967296) : crcR r bs < 4294967296 := by
  induction bs generalizing r with
  | nil => exact h
  | cons x l ih => exact ih _ (crcStep_lt r x h)
theorem crc_lt (bs : List UInt8) : crc bs < 4294967296 := xor_lt32 _ _ (crcR_lt bs _ (by omega)) (by omega)
theorem crcR_snoc (bs : List UInt8) (x : UInt8) (r : Nat) : crcR r (bs ++ [x]) = crcStep (crcR r bs) x := by simp [crcR]
theorem crcR_append (a b : List UInt8) (r : Nat) : crcR r (a ++ b) = crcR (crcR r a) b := by simp [crcR]

/-- What a difference of the register becomes. -/
theorem crcR_diff (bs : List UInt8) (r d : Nat) (hd : d < 4294967296) (h0 : d ≠ 0) : ∃ d', d' ≠ 0 ∧ d' < 4294967296 ∧ crcR (r ^^^ d) bs = crcR r bs ^^^ d' := by
  induction bs generalizing r d with
  | nil => exact ⟨d, h0, hd, rfl⟩
  | cons x l ih =>
    have e : crcStep (r ^^^ d) x = crcStep r x ^^^ bitN 8 d := by
      unfold crcStep
      rw [Nat.xor_assoc, Nat.xor_comm d, ← Nat.xor_assoc, bitN_xor]
    obtain ⟨d', h1, h2, h3⟩ := ih (crcStep r x) (bitN 8 d) (bitN_lt 8 d hd) (bitN_ne 8 d hd h0)
    exact ⟨d', h1, h2, by show crcR (crcStep (r ^^^ d) x) l = _; rw [e, h3]; rfl⟩
/-- A byte that differs is found. -/
theorem crc_byte (a b : List UInt8) (x y : UInt8) (h : x ≠ y) : crc (a ++ x :: b) ≠ crc (a ++ y :: b) := by
  unfold crc
  rw [crcR_append, crcR_append]
  generalize crcR 4294967295 a = r
  have hx := x.toNat_lt
  have hy := y.toNat_lt
  have hne : x.toNat ^^^ y.toNat ≠ 0 := fun e => by
    have := xor_left x.toNat y.toNat x.toNat (by rw [e, Nat.xor_self])
    exact h (UInt8.toNat_inj.1 this.symm)
  have hlt : x.toNat ^^^ y.toNat < 4294967296 := xor_lt32 _ _ (by omega) (by omega)
  have e : crcStep r y = crcStep r x ^^^ bitN 8 (x.toNat ^^^ y.toNat) := by
    unfold crcStep
    rw [← bitN_xor]
    congr 1
    rw [Nat.xor_assoc, ← Nat.xor_assoc x.toNat x.toNat, Nat.xor_self, Nat.zero_xor]
  obtain ⟨d', h1, h2, h3⟩ := crcR_diff b (crcStep r x) _ (bitN_lt 8 _ hlt) (bitN_ne 8 _ hlt hne)
  show crcR (crcStep r x) b ^^^ 4294967295 ≠ crcR (crcStep r y) b ^^^ 4294967295
  rw [e, h3]
  intro e2
  rw [Nat.xor_comm _ 4294967295, Nat.xor_comm _ 4294967295] at e2
  exact xor_ne _ d' h1 (xor_left _ _ _ e2).symm
end Go.Hay
end

section
namespace Go.Proofs.YtohbdbecioanaaaGreatDoor
open Go.RowKit Go.Hay
set_option linter.unusedVariables false

/-- The table of half bytes lies in block 0. -/
def Tab (w : World) : Prop := 0 < w.heap.size ∧ ∀ d, d < 16 → w.cell? ⟨0, d, none⟩ = some (.int .u32 (crcTab.getD d 0))
theorem Tab.kept {w w' : World} {S : List Nat} (h : Tab w) (hk : Kp S w w') (h0 : 0 ∉ S) : Tab w' :=
  ⟨Nat.lt_of_lt_of_le h.1 hk.size, fun d hd => (hk.cell (p := ⟨0, d, none⟩) h.1 h0).trans (h.2 d hd)⟩
theorem crcTab_lt (d : Nat) : crcTab.getD d 0 < 4294967296 := by
  by_cases h : d < 16
  · have : ∀ d, d < 16 → crcTab.getD d 0 < 4294967296 := by decide +kernel
    exact this d h
  · have h2 : crcTab[d]? = none := List.getElem?_eq_none (by have : crcTab.length = 16 := rfl; omega)
    simp [List.getD, h2]

theorem xorEnd (xs : List UInt8) : bits BinOp.xor IntKind.u32 ((crcR 4294967295 xs : Nat) : Int) 4294967295 = ((crc xs : Nat) : Int) :=
  u32_xor_nat (crcR 4294967295 xs) 4294967295 (crcR_lt xs _ (by omega)) (by omega)
theorem notEnd (xs : List UInt8) : bits BinOp.xor IntKind.u32 IntKind.u32.max ((crcR 4294967295 xs : Nat) : Int) = ((crc xs : Nat) : Int) := by
  have h := u32_xor_nat 4294967295 (crcR 4294967295 xs) (by omega) (crcR_lt xs _ (by omega))
  rw [Nat.xor_comm] at h
  exact h
theorem crcR_take (xs : List UInt8) (k : Nat) (h : k < xs.length) : crcR 4294967295 (xs.take (k + 1)) = crcStep (crcR 4294967295 (xs.take k)) xs[k] := by
  rw [List.take_succ_eq_append_getElem h, crcR_snoc]

set_option maxHeartbeats 1000000 in
set_option maxRecDepth 100000 in
theorem cSum (a : Option Addr) (n c : Nat) (xs : List UInt8) (w : World) (ht : Tab w) (hs : Sees w a xs) (hn : n = xs.length) (hb : xs.length ≤ 200000000000000) :
    Calls Tryz.prog 22 #[.slice a n c] w fun e w' => e = .returned (.int .u32 (crc xs)) ∧ w' = w := by
  subst hn
  go_enter Tryz.func22, Tryz.ntmps22
  go_wp2_with fail
  go_loop [3, 5, 8] (fun s _ i => ∃ k : Nat, k ≤ xs.length ∧ i = .int .i64 k ∧ s = .int .u32 (crcR 4294967295 (xs.take k))) (fun _ _ i => xs.length - (intOf i).toNat)
  case atStart => exact ⟨0, Nat.zero_le _, rfl, rfl⟩
  case round =>
    obtain ⟨k, hk, rfl, rfl⟩ := hrel
    have hr := crcR_lt (xs.take k) 4294967295 (by omega)
    by_cases hlt : k < xs.length
    · rcases hs with rfl | ⟨g, o, rfl, hc⟩
      · simp at hlt
      have hck := hc k xs[k] (by simp)
      have H := hid (crcR_take xs k hlt)
      have hx : xs[k].toNat < 256 := xs[k].toNat_lt
      clear hc
      generalize crcR 4294967295 (xs.take k) = r at *
      have H1 : Hid (nib (nib (r ^^^ xs[k].toNat)) = crcR 4294967295 (xs.take (k + 1))) := (step_nib r xs[k]).trans H.out.symm
      clear H
      generalize xs[k] = x at *
      have e1 : bits BinOp.xor IntKind.u32 (r : Int) (x.toNat : Int) = ((r ^^^ x.toNat : Nat) : Int) := u32_xor_nat _ _ hr (by omega)
      have b1 := xor_lt32 r x.toNat hr (by omega)
      generalize r ^^^ x.toNat = r1 at *
      have half : ∀ m : Nat, m < 4294967296 → ∃ d t q : Nat, bits BinOp.and IntKind.u32 (m : Int) 15 = (d : Int) ∧ d < 16 ∧ w.cell? ⟨0, d, none⟩ = some (.int .u32 t) ∧ bits BinOp.xor IntKind.u32 ((m : Int) / 16) (t : Int) = (q : Int) ∧ q < 4294967296 ∧ Hid (q = nib m) := by
        intro m hm
        have ht16 := crcTab_lt (m % 16)
        refine ⟨m % 16, crcTab.getD (m % 16) 0, nib m, ?_, by omega, ht.2 _ (by omega), ?_, ?_, rfl⟩
        · have h1 := u32_and_nat m 15 hm (by omega)
          rw [show m &&& 15 = m % 16 from Nat.and_two_pow_sub_one_eq_mod m 4] at h1
          exact h1
        · have h1 := u32_xor_nat (m / 16) (crcTab.getD (m % 16) 0) (by omega) ht16
          rw [Int.natCast_ediv] at h1
          exact h1
        · exact xor_lt32 _ _ (by omega) ht16
      obtain ⟨d1, t1, r2, f1, f2, f3, f4, f5, f6⟩ := half r1 b1
      obtain ⟨d2, t2, r3, g1, g2, g3, g4, g5, g6⟩ := half r2 f5
      have H2 : Hid (r3 = crcR 4294967295 (xs.take (k + 1))) := by show _ = _; rw [g6.out, f6.out]; exact H1.out
      clear half H1 f6 g6 ht
      go_wp2
      exact ⟨⟨k + 1, by omega, by go_num, by rw [H2.out]⟩, by simp [intOf]; omega⟩
    · have H : Hid (xs.take k = xs) := List.take_of_length_le (by omega)
      go_wp2
      go_ret
      exact ⟨ret_int (by rw [H.out]; exact notEnd xs), rfl⟩
set_option maxHeartbeats 1000000 in
set_option maxRecDepth 100000 in
theorem cRefSum (a : Option Addr) (n c : Nat) (xs : List UInt8) (w : World) (hs : Sees w a xs) (hn : n = xs.length) (hb : xs.length ≤ 200000000000000) :
    Calls Tryz.prog 26 #[.slice a n c] w fun e w' => e = .returned (.int .u32 (crc xs)) ∧ w' = w := by
  subst hn
  go_enter Tryz.func26, Tryz.ntmps26
  go_wp2_with fail
  go_loop [3, 4, 5] (fun s i _ => ∃ k : Nat, k ≤ xs.length ∧ i = .int .i64 k ∧ s = .int .u32 (crcR 4294967295 (xs.take k))) (fun _ i _ => xs.length - (intOf i).toNat)
  case atStart => exact ⟨0, Nat.zero_le _, rfl, rfl⟩
  case round =>
    obtain ⟨k, hk, rfl, rfl⟩ := hrel
    have hr := crcR_lt (xs.take k) 4294967295 (by omega)
    by_cases hlt : k < xs.length
    · rcases hs with rfl | ⟨g, o, rfl, hc⟩
      · simp at hlt
      have hck := hc k xs[k] (by simp)
      have H := hid (crcR_take xs k hlt)
      have hx : xs[k].toNat < 256 := xs[k].toNat_lt
      clear hc
      generalize crcR 4294967295 (xs.take k) = r at *
      generalize xs[k] = x at *
      have e1 : bits BinOp.xor IntKind.u32 (r : Int) (x.toNat : Int) = ((r ^^^ x.toNat : Nat) : Int) := u32_xor_nat _ _ hr (by omega)
      have b1 := xor_lt32 r x.toNat hr (by omega)
      have H1 : Hid (bitN 8 (r ^^^ x.toNat) = crcR 4294967295 (xs.take (k + 1))) := H.out.symm
      clear H
      generalize r ^^^ x.toNat = r1 at *
      go_wp2
      go_loop [3, 5] (fun s j => ∃ m : Nat, m ≤ 8 ∧ j = .int .i64 m ∧ s = .int .u32 (bitN m r1)) (fun _ j => 8 - (intOf j).toNat)
      case atStart => exact ⟨0, Nat.zero_le _, rfl, rfl⟩
      case round =>
        obtain ⟨m, hm, rfl, rfl⟩ := hrel
        have hbn := bitN_lt m r1 b1
        by_cases hm8 : m < 8
        · have e2 : bits BinOp.xor IntKind.u32 ((bitN m r1 : Nat) / 2 : Int) 3988292384 = ((bitN m r1 / 2 ^^^ 3988292384 : Nat) : Int) := by
            have := u32_xor_nat (bitN m r1 / 2) 3988292384 (by omega) (by omega)
            rw [Int.natCast_ediv] at this
            exact this
          have HB : Hid (bitN (m + 1) r1 = if bitN m r1 % 2 = 1 then bitN m r1 / 2 ^^^ 3988292384 else bitN m r1 / 2) := rfl
          generalize bitN m r1 = q at *
          by_cases hq : q % 2 = 1
          · have HB2 := hid (HB.out.trans (if_pos hq))
            clear HB
            go_wp2
            exact ⟨⟨m + 1, by omega, by go_num, by rw [HB2.out]⟩, by simp [intOf]; omega⟩
          · have HB2 := hid (HB.out.trans (if_neg hq))
            clear HB
            go_wp2
            exact ⟨⟨m + 1, by omega, by go_num, by rw [HB2.out, Int.natCast_ediv]; rfl⟩, by simp [intOf]; omega⟩
        · have HM : Hid (bitN m r1 = bitN 8 r1) := by show _ = _; rw [show m = 8 by omega]
          go_wp2
          exact ⟨⟨k + 1, by omega, by go_num, by rw [HM.out, H1.out]⟩, by simp [intOf]; omega⟩
    · have H : Hid (xs.take k = xs) := List.take_of_length_le (by omega)
      go_wp2
      go_ret
      exact ⟨ret_int (by rw [H.out]; exact xorEnd xs), rfl⟩
end Go.Proofs.YtohbdbecioanaaaGreatDoor
end

/- Plain mathematics of the bytes: numbers in so many bytes, the highest first; the form of a Var. No Go text. More plain mathematics: a number and its bytes, back and forth; what a Var read comes to. Arguments opened: a slice of elements of whatever type, told by what it sees; how great it may be. Arguments opened: slices of values, as elements. Which values fit a column; and which are right, by the reference. Which tables may be: names, kinds, no name twice. Arguments opened: terms, values, columns; what the rows list of the table of asks. The table of asks, out of what the rows list. -/
import Derived.Below
import Derived.Test.YtfolkjjhlcjfgabDoorRows
import Derived.Test.YtfolkjjhlcjfgabDoorB1
import Derived.ProofKit
import Derived.OpenShut
import Derived.ShutString
import Derived.ChangeOld
import Derived.Deep.Slices
import Derived.Test.YtfolkjjhlcjfgabDoorB2
import Derived.Test.YtfolkjjhlcjfgabDoorB3
import Derived.Lib.Strings
import Derived.Test.YtfolkjjhlcjfgabDoorCards
import Derived.Test.YtfolkjjhlcjfgabDoorTie
import Derived.Test.YtfolkjjhlcjfgabDoorB10
import Derived.Laws.IdiomArrays
import Derived.Deep.DeepHandedRow
import Derived.Lib.LaidTab
import Derived.SizedLaws
section
namespace Go.Hay

/-- n in k bytes, the highest first. -/
def be (n : Nat) : Nat → List UInt8
  | 0 => []
  | k + 1 => UInt8.ofNat (n / 256 ^ k % 256) :: be n k
theorem be_length (n k : Nat) : (be n k).length = k := by
  induction k with
  | zero => rfl
  | succ k ih => simp [be, ih]
/-- The first byte of n's Var. -/
def leadI (n : Int) : Int := if n < 253 then n else if n < 65536 then 253 else if n < 4294967296 then 254 else 255
/-- How many bytes a Var has behind its first one. -/
def behindI (f : Int) : Int := if f = 253 then 2 else if f = 254 then 4 else if f = 255 then 8 else 0
theorem leadI_bd (n : Int) (h : 0 ≤ n) : 0 ≤ leadI n ∧ leadI n ≤ 255 := by unfold leadI; repeat (first | split | omega)
theorem behindI_bd (n : Int) : 0 ≤ behindI n ∧ behindI n ≤ 8 := by unfold behindI; repeat (first | split | omega)
/-- The number that bytes say, the highest first. -/
def num (bs : List UInt8) : Nat := bs.foldl (fun n x => n * 256 + x.toNat) 0
theorem num_snoc (bs : List UInt8) (x : UInt8) : num (bs ++ [x]) = num bs * 256 + x.toNat := by simp [num]
theorem num_lt (bs : List UInt8) : num bs < 256 ^ bs.length := by
  suffices ∀ (l : List UInt8), num l.reverse < 256 ^ l.length by simpa using this bs.reverse
  intro l
  induction l with
  | nil => simp [num]
  | cons x l ih =>
    rw [List.reverse_cons, num_snoc, List.length_cons, Nat.pow_succ]
    have := x.toNat_lt
    omega
/-- A byte, of a number. -/
def octet (n : Int) : UInt8 := UInt8.ofNat n.toNat
theorem octet_toNat (n : Int) (h0 : 0 ≤ n) (h1 : n ≤ 255) : ((octet n).toNat : Int) = n := by
  unfold octet
  rw [UInt8.toNat_ofNat']
  omega
/-- A number's Var. -/
def varB (n : Int) : List UInt8 := octet (leadI n) :: be n.toNat (behindI (leadI n)).toNat
theorem varB_length (n : Int) : (varB n).length ≤ 9 ∧ 1 ≤ (varB n).length := by
  have := behindI_bd (leadI n)
  simp only [varB, List.length_cons, be_length]
  omega
/-- What bytes begin with, read as a Var: the number, in how many bytes, what is amiss. -/
def fv (bs : List UInt8) : Int × Int × Int :=
  match bs with
  | [] => (0, 0, 10)
  | f :: r =>
    if behindI f.toNat = 0 then (f.toNat, 1, 0)
    else if (r.length : Int) < behindI f.toNat then (0, 0, 10)
    else if leadI (num (r.take (behindI f.toNat).toNat)) ≠ f.toNat then (0, 0, 11)
    else (num (r.take (behindI f.toNat).toNat), 1 + behindI f.toNat, 0)
theorem fv_bd (bs : List UInt8) : 0 ≤ (fv bs).1 ∧ (fv bs).1 < 18446744073709551616 ∧ 0 ≤ (fv bs).2.1 ∧ (fv bs).2.1 ≤ 9 ∧ (fv bs).2.1 ≤ bs.length := by
  cases bs with
  | nil => simp [fv]
  | cons f r =>
    have hf := f.toNat_lt
    have hb := behindI_bd f.toNat
    simp only [fv]
    have h64 : ∀ k : Nat, k ≤ 8 → num (r.take k) < 18446744073709551616 := fun k hk => by
      have h1 := num_lt (r.take k)
      have h2 : (r.take k).length ≤ 8 := by simp; omega
      have h3 : 256 ^ (r.take k).length ≤ 256 ^ 8 := Nat.pow_le_pow_right (by omega) h2
      omega
    have h64' := h64 (behindI f.toNat).toNat (by omega)
    generalize num (r.take (behindI f.toNat).toNat) = m at *
    simp only [List.length_cons]
    split
    · simp; omega
    · split
      · simp; omega
      · split
        · simp; omega
        · simp; omega
/-- A reader that takes n bytes: what it gives, what is left, what was amiss. -/
def takeS (n : Nat) (bs : List UInt8) (e : Int) : List UInt8 × List UInt8 × Int :=
  if e ≠ 0 then ([], bs, e) else if bs.length < n then ([], bs, 10) else (bs.take n, bs.drop n, 0)
/-- A reader that reads a Var. -/
def varS (most : Int) (bs : List UInt8) (e : Int) : Int × List UInt8 × Int :=
  if e ≠ 0 then (0, bs, e) else if (fv bs).2.2 ≠ 0 then (0, bs, (fv bs).2.2) else if most < (fv bs).1 then (0, bs, 12) else ((fv bs).1, bs.drop (fv bs).2.1.toNat, 0)
/-- .. raw bytes. -/
def rawS (n : Int) (bs : List UInt8) (e : Int) : List UInt8 × List UInt8 × Int :=
  if n < 0 then ([], bs, if e = 0 then 12 else e) else takeS n.toNat bs e
/-- .. a count. -/
def countS (most : Int) (bs : List UInt8) (e : Int) : Int × List UInt8 × Int :=
  if 0 ≤ most then varS most bs e else (0, bs, if (varS 18446744073709551615 bs e).2.2 = 0 then 12 else (varS 18446744073709551615 bs e).2.2)
/-- .. a text. -/
def textS (most : Int) (bs : List UInt8) (e : Int) : List UInt8 × List UInt8 × Int :=
  if (rawS (countS most bs e).1 (countS most bs e).2.1 (countS most bs e).2.2).2.2 ≠ 0 then ((rawS (countS most bs e).1 (countS most bs e).2.1 (countS most bs e).2.2).1, bs, (rawS (countS most bs e).1 (countS most bs e).2.1 (countS most bs e).2.2).2.2)
  else rawS (countS most bs e).1 (countS most bs e).2.1 (countS most bs e).2.2
/-- A text. -/
def textB (b : List UInt8) : List UInt8 := varB b.length ++ b
end Go.Hay
end

section
namespace Go.Hay
set_option linter.unusedVariables false

theorem be_snoc (n k : Nat) : be n (k + 1) = be (n / 256) k ++ [UInt8.ofNat (n % 256)] := by
  induction k with
  | zero => simp [be]
  | succ k ih =>
    rw [be, ih, be, List.cons_append]
    congr 2
    rw [Nat.div_div_eq_div_mul, Nat.pow_succ, Nat.mul_comm]
theorem be_num_rev (l : List UInt8) : be (num l.reverse) l.length = l.reverse := by
  induction l with
  | nil => simp [be]
  | cons x l ih =>
    have hx := x.toNat_lt
    rw [List.reverse_cons, num_snoc, List.length_cons, be_snoc, show (num l.reverse * 256 + x.toNat) / 256 = num l.reverse by omega, ih, show (num l.reverse * 256 + x.toNat) % 256 = x.toNat by omega, UInt8.ofNat_toNat]
theorem be_num (xs : List UInt8) : be (num xs) xs.length = xs := by simpa using be_num_rev xs.reverse
theorem num_be (n k : Nat) : num (be n k) = n % 256 ^ k := by
  induction k generalizing n with
  | zero => simp [be, num, Nat.mod_one]
  | succ k ih =>
    rw [be_snoc, num_snoc, ih, UInt8.toNat_ofNat', show 256 ^ (k + 1) = 256 * 256 ^ k by rw [Nat.pow_succ, Nat.mul_comm], Nat.mod_mul]
    omega
theorem octet_nat (x : UInt8) : octet x.toNat = x := by simp [octet]

/-- What is read as a number is written as the same bytes. -/
theorem fv_back (bs : List UInt8) (h : (fv bs).2.2 = 0) : varB (fv bs).1 = bs.take (fv bs).2.1.toNat ∧ 1 ≤ (fv bs).2.1 := by
  cases bs with
  | nil => simp [fv] at h
  | cons f r =>
    have hf := f.toNat_lt
    have hb := behindI_bd f.toNat
    simp only [fv] at h ⊢
    split
    · rename_i h0
      have hl : leadI f.toNat = f.toNat := by
        unfold behindI at h0
        unfold leadI
        repeat (first | split at h0 | (split <;> omega) | omega)
      simp only [varB, hl, h0, octet_nat]
      simp [be]
    · rename_i h0
      rw [if_neg h0] at h
      by_cases h1 : (r.length : Int) < behindI f.toNat
      · rw [if_pos h1] at h; simp at h
      rw [if_neg h1] at h ⊢
      by_cases h2 : leadI (num (r.take (behindI f.toNat).toNat)) ≠ f.toNat
      · rw [if_pos h2] at h; simp at h
      rw [if_neg h2]
      have h3 : leadI (num (r.take (behindI f.toNat).toNat)) = f.toNat := Decidable.not_not.1 h2
      obtain ⟨k, hk⟩ : ∃ k : Nat, behindI f.toNat = k := ⟨(behindI f.toNat).toNat, by omega⟩
      rw [hk, Int.toNat_natCast] at h3
      have hlen : (r.take k).length = k := by simp; omega
      refine ⟨?_, by show 1 ≤ 1 + behindI f.toNat; omega⟩
      show varB (num (r.take (behindI f.toNat).toNat)) = List.take (1 + behindI f.toNat).toNat (f :: r)
      rw [hk, Int.toNat_natCast]
      simp only [varB]
      rw [h3, hk, Int.toNat_natCast, Int.toNat_natCast, octet_nat]
      have e := be_num (r.take k)
      rw [hlen] at e
      rw [e, show (1 + (k : Int)).toNat = k + 1 by omega, List.take_succ_cons]

/-- Of a Var that was read: in words that the law uses. -/
theorem varS_cases (most : Int) (bs : List UInt8) {n : Int} {bs' : List UInt8} {e' : Int} (h0 : 0 ≤ most) (h : varS most bs 0 = (n, bs', e')) :
    0 ≤ n ∧ n < 18446744073709551616 ∧ bs'.length ≤ bs.length ∧ (e' ≠ 0 → n = 0 ∧ bs' = bs) ∧ (e' = 0 → n ≤ most ∧ varB n = bs.take (bs.length - bs'.length)) := by
  have hbd := fv_bd bs
  have hbk := fv_back bs
  unfold varS at h
  rw [if_neg (by simp)] at h
  split at h
  · rename_i h1
    cases h
    exact ⟨by omega, by omega, Nat.le_refl _, fun _ => ⟨rfl, rfl⟩, fun h => absurd h h1⟩
  · rename_i h1
    have h1' : (fv bs).2.2 = 0 := Decidable.not_not.1 h1
    have hbk := hbk h1'
    split at h
    · cases h
      exact ⟨by omega, by omega, Nat.le_refl _, fun _ => ⟨rfl, rfl⟩, fun h => by simp at h⟩
    · cases h
      refine ⟨by omega, by omega, by simp, fun h => absurd rfl h, fun _ => ⟨by omega, ?_⟩⟩
      rw [hbk.1]
      congr 1
      rw [List.length_drop]
      omega
end Go.Hay
end

section
namespace Go.Proofs.YtfolkjjhlcjfgabDoor
open Go.ChangeShapes Go.WideShapes Go.ChangeAt Go.RowKit Go.Hay
set_option linter.unusedVariables false

theorem Tryd.own : ownKnob Tryd.prog.godebug = none := by kernel_rfl
theorem Tryd.laidOut : laidOutB Tryd.prog = true := by kernel_rfl

/-- How many values a slice's datum holds, its spare places too. -/
def capD {H : Type} : DataW H → Nat
  | .slice e sp => e.length + sp.length
  | _ => 0
theorem bulk_pos {H : Type} (d : DataW H) : 1 ≤ Rows.uptoBulk d := by
  cases d with
  | lit l => cases l <;> simp [Rows.uptoBulk]
  | _ => simp [Rows.uptoBulk]
theorem bulkAll_ge {H : Type} (l : List (DataW H)) : l.length ≤ Rows.uptoBulkAll l := by
  induction l with
  | nil => simp
  | cons d l ih => have := bulk_pos d; simp only [Rows.uptoBulkAll, List.length_cons]; omega
theorem bulk_cap {H : Type} (d : DataW H) : capD d + 1 ≤ Rows.uptoBulk d := by
  cases d with
  | slice e sp => have := bulkAll_ge e; have := bulkAll_ge sp; simp only [capD, Rows.uptoBulk]; omega
  | lit l => cases l <;> simp [capD, Rows.uptoBulk]
  | _ => simp [capD, Rows.uptoBulk]
theorem bulkAll_map {H : Type} (n : Nat) (D : Nat → DataW H) (f : Nat → Nat) (h : ∀ i, i < n → f i ≤ Rows.uptoBulk (D i)) : ((List.range n).map f).sum ≤ Rows.uptoBulkAll ((List.range n).map D) := by
  have gen : ∀ l : List Nat, (∀ i ∈ l, f i ≤ Rows.uptoBulk (D i)) → (l.map f).sum ≤ Rows.uptoBulkAll (l.map D) := by
    intro l
    induction l with
    | nil => intro _; simp
    | cons i l ih =>
      intro hl
      have h1 := hl i (by simp)
      have h2 := ih (fun j hj => hl j (by simp [hj]))
      simp only [List.map_cons, List.sum_cons, Rows.uptoBulkAll]
      omega
  exact gen _ (fun i hi => h i (List.mem_range.1 hi))
theorem mem_weightsAll {H : Type} {P : Program} {e : TypeId} {l : List (DataW H)} {d : DataW H} (hd : d ∈ l) {x : Nat} (hx : x ∈ d.weights P e) : x ∈ DataW.weightsAll P e l := by
  induction l with
  | nil => cases hd
  | cons y l ih =>
    rw [DataW.weightsAll, List.mem_append]
    rcases List.mem_cons.1 hd with rfl | h
    · exact .inl hx
    · exact .inr (ih h)
/-- Within the form's reach. -/
def Fit {H : Type} (t : TypeId) (d : DataW H) : Prop := (DataW.weights Tryd.prog t d).all (· ≤ reachBytes) = true

theorem openEls {α : Type} [Inhabited α] (E : El α) {t e : TypeId} (ht : Tryd.prog.underlying t = some (.slice e)) (hcells : Tryd.prog.cellsOf e = E.n) (B : Nat) (hB : Tryd.prog.bytesOf e = B)
    {H : Type} {enc : TypeId × Value → H} {W : World} (ok : α → Prop) (Q : α → Prop) (bk : α → Nat)
    (op : ∀ fuel cs x, DataW.trod enc Tryd.prog W 0 (fun _ => true) true fuel e cs = some x → cs.length = E.n → ∃ y : α, ok y ∧ cs = E.c y ∧ (Fit e x.1 → Q y) ∧ bk y ≤ Rows.uptoBulk x.1)
    {a : Option Addr} {len cap : Nat} {d : DataW H} {ps : List MemPlace} (h : DataW.Trod enc Tryd.prog W 0 (fun _ => true) true t (.slice a len cap) d ps) :
    ∃ l : List α, len = l.length ∧ E.See W a l ∧ (∀ y ∈ l, ok y) ∧ l.length ≤ cap ∧ cap ≤ maxLen ∧ (a = none → cap = 0) ∧ (Fit t d → cap * B ≤ 140737488351232 ∧ ∀ y ∈ l, Q y) ∧ (l.map bk).sum ≤ Rows.uptoBulk d ∧ cap + 1 ≤ Rows.uptoBulk d := by
  obtain ⟨fuel, hf⟩ := h
  rcases Go.Deep.open_slice ht hf with ⟨hcs, hx⟩ | ⟨x, len', cap', m, n, D, Pl, hcs, _, hl, hmx, hm, hx, hcell⟩
  · simp [Value.cells] at hcs
    obtain ⟨rfl, rfl, rfl⟩ := hcs
    cases hx
    exact ⟨[], rfl, .inl rfl, by simp, Nat.le_refl _, Nat.zero_le _, fun _ => rfl, fun _ => ⟨by omega, by simp⟩, by simp, by simp [Rows.uptoBulk]⟩
  · simp [Value.cells] at hcs
    obtain ⟨rfl, rfl, rfl⟩ := hcs
    cases hx
    have hm' : m = cap := by simpa using hm
    subst hm'
    rw [hcells] at hcell
    obtain ⟨Y, hY⟩ := Go.Deep.choose_lt (α := α) (n := len) (p := fun i y => ok y ∧ (∀ k u, (E.c y)[k]? = some u → W.cell? ((x.add (i * E.n)).add k) = some u) ∧ (Fit e (D i) → Q y) ∧ bk y ≤ Rows.uptoBulk (D i)) (fun i hi => by
      obtain ⟨cs', h1, h2⟩ := hcell i (by omega)
      obtain ⟨_, hlen, hc⟩ := World.cells?_some h1
      obtain ⟨y, g1, rfl, g2, g3⟩ := op _ _ _ h2 hlen
      refine ⟨y, g1, fun k u hu => ?_, g2, g3⟩
      have hk : k < E.n := by have := (List.getElem?_eq_some_iff.1 hu).1; rwa [E.len] at this
      exact (hc k hk).trans hu)
    refine ⟨(List.range len).map Y, by simp, ?_, ?_, by simpa using hl, hmx, fun h => (by cases h), fun hfit => ?_, ?_, ?_⟩
    · cases hlen : len with
      | zero => exact .inl rfl
      | succ k =>
        obtain ⟨b, off, spot⟩ := x
        have h0 : 0 < (E.c (Y 0)).length := by rw [E.len]; exact E.pos
        have hc0 := (hY 0 (by omega)).2.1 0 _ (List.getElem?_eq_getElem h0)
        have hspot : spot = none := by
          have := World.cell?_spot hc0
          simpa [Addr.add] using this
        subst hspot
        refine .inr ⟨b, off, rfl, fun j u hu => ?_⟩
        rw [← hlen] at hu
        have hj : j < ((List.range len).map Y).length * E.n := by have := (List.getElem?_eq_some_iff.1 hu).1; rwa [El.cs_length] at this
        have hpos := E.pos
        have hq : j / E.n < len := by
          rw [List.length_map, List.length_range] at hj
          exact Nat.div_lt_of_lt_mul (by rw [Nat.mul_comm]; exact hj)
        have hr : j % E.n < E.n := Nat.mod_lt _ hpos
        have hje : j = j / E.n * E.n + j % E.n := by rw [Nat.mul_comm]; exact (Nat.div_add_mod j E.n).symm
        have hget : ((List.range len).map Y)[j / E.n]? = some (Y (j / E.n)) := by rw [List.getElem?_map, List.getElem?_range hq]; rfl
        rw [hje, El.cs_get E hget hr] at hu
        have hcc := (hY _ hq).2.1 _ _ hu
        rw [Addr.add_lit, Addr.add_lit, Nat.add_assoc, ← hje] at hcc
        exact hcc
    · intro y hy
      obtain ⟨i, hi, rfl⟩ := List.mem_map.1 hy
      exact (hY i (List.mem_range.1 hi)).1
    · unfold Fit at hfit
      simp only [DataW.weights, ht] at hfit
      rw [List.all_cons, Bool.and_eq_true] at hfit
      refine ⟨?_, fun y hy => ?_⟩
      · have := of_decide_eq_true hfit.1
        simp only [List.length_map, List.length_range, hB, reachBytes] at this
        rwa [show len + (m - len) = m by omega] at this
      · obtain ⟨i, hi, rfl⟩ := List.mem_map.1 hy
        refine (hY i (List.mem_range.1 hi)).2.2.1 (List.all_eq_true.2 fun x hx => List.all_eq_true.1 hfit.2 x ?_)
        rw [List.mem_append]
        exact .inl (mem_weightsAll (List.mem_map_of_mem hi) hx)
    · have := bulkAll_map len D (fun i => bk (Y i)) (fun i hi => (hY i hi).2.2.2)
      simp only [List.map_map, Rows.uptoBulk]
      have e : (List.range len).map (bk ∘ Y) = (List.range len).map (fun i => bk (Y i)) := rfl
      rw [e]
      omega
    · have := bulk_cap (.slice ((List.range len).map D) ((List.range (m - len)).map fun j => D (len + j)) : DataW H)
      simp only [capD, List.length_map, List.length_range] at this
      omega

/-- A byte. -/
def ByteE : El UInt8 where
  n := 1
  c x := [.int .u8 x.toNat]
  len _ := rfl
  one _ u hu := by simp at hu; subst hu; rfl
  pos := by decide
theorem byteCs (l : List UInt8) : ByteE.cs l = bcells l := by
  induction l with
  | nil => rfl
  | cons x l ih => rw [El.cs_cons, ih]; rfl
theorem byteSee {w : World} {a : Option Addr} {l : List UInt8} (h : ByteE.See w a l) : Sees w a l := by
  rcases h with h | ⟨g, o, rfl, hc⟩
  · exact .inl h
  · refine .inr ⟨g, o, rfl, fun j u hu => hc j _ ?_⟩
    rw [byteCs, bcells_get, hu]
    rfl
/-- A slice of bytes, and what it sees. -/
structure Bs where
  a : Option Addr
  c : Nat
  bs : List UInt8
def Bs.v (x : Bs) : Value := .slice x.a x.bs.length x.c
structure Bs.ok (w : World) (x : Bs) : Prop where
  see : Sees w x.a x.bs
  cap : x.bs.length ≤ x.c
  nil : x.a = none → x.c = 0
theorem Bs.ok.kept {w w' : World} {x : Bs} {S : List Nat} (h : x.ok w) (hk : Kp S w w') (hn : x.bs ≠ [] → ∀ k ∈ blk x.a, k ∉ S) : x.ok w' := ⟨h.see.kept' hk hn, h.cap, h.nil⟩
theorem Bs.ok.keptNew {w w' : World} {x : Bs} (h : x.ok w) (hk : Kp [] w w') : x.ok w' := h.kept hk (by simp)
instance : Inhabited Bs := ⟨⟨none, 0, []⟩⟩
theorem cellsB : Tryd.prog.cellsOf 5 = 1 := by kernel_rfl
theorem bytesB : Tryd.prog.bytesOf 5 = 1 := by kernel_rfl
theorem cellsI : Tryd.prog.cellsOf 3 = 1 := by kernel_rfl
def Few (x : Bs) : Prop := x.bs.length ≤ 140737488351232
section
variable {H : Type} {enc : TypeId × Value → H} {W : World}
/-- A number among the arguments' cells. -/
theorem openI {fuel : Nat} {v : Value} {x : DataW H × List MemPlace} (h : DataW.trod enc Tryd.prog W 0 (fun _ => true) true fuel 3 [v] = some x) : ∃ n : Int, v = .int .i64 n ∧ -9223372036854775808 ≤ n ∧ n ≤ 9223372036854775807 := by
  obtain ⟨n, e, _, hw⟩ := DataW.trod_int Tryd.underlying3 h
  have hb := bounds_i64 hw
  exact ⟨n, by simpa using e, hb.1, hb.2⟩
end
end Go.Proofs.YtfolkjjhlcjfgabDoor
end

section
namespace Go.Proofs.YtfolkjjhlcjfgabDoor
open Go.ChangeShapes Go.WideShapes Go.ChangeAt Go.RowKit Go.Hay
set_option linter.unusedVariables false
set_option linter.unusedSimpArgs false

theorem cellsX1 : Tryd.prog.cellsOf 3 = 1 := by kernel_rfl
theorem cellsX2 : Tryd.prog.cellsOf 4 = 1 := by kernel_rfl
theorem cellsX3 : Tryd.prog.cellsOf 2 = 1 := by kernel_rfl
theorem cellsX4 : Tryd.prog.cellsOf 9 = 1 := by kernel_rfl
theorem cellsX5 : Tryd.prog.cellsOf 39 = 4 := by kernel_rfl
theorem bytesX5 : Tryd.prog.bytesOf 39 = 40 := by kernel_rfl
instance : Inhabited Val := ⟨⟨0, false, 0, ⟨#[]⟩⟩⟩
section
variable {H : Type} {enc : TypeId × Value → H} {W : World} {a : Option Addr} {len cap : Nat} {d : DataW H} {ps : List MemPlace}
theorem openV4 {fuel : Nat} {c0 c1 c2 c3 : Value} {x : DataW H × List MemPlace} (h : DataW.trod enc Tryd.prog W 0 (fun _ => true) true fuel 39 [c0, c1, c2, c3] = some x) :
    ∃ t : Val, c0 = .int .i64 t.k ∧ c1 = .bool t.b ∧ c2 = .int .i64 t.n ∧ c3 = .string t.t := by
  obtain ⟨xs, n, _, rfl, _, hlen, hf⟩ := DataW.trod_struct Tryd.underlying39 h
  match xs, hlen with
  | [y0, y1, y2, y3], _ =>
    have h0 := hf 0 _ rfl
    have h1 := hf 1 _ rfl
    have h2 := hf 2 _ rfl
    have h3 := hf 3 _ rfl
    simp [cellsX1, cellsX2, cellsX3, cellsX4] at h0 h1 h2 h3
    obtain ⟨k, e0, _, w0⟩ := DataW.trod_int Tryd.underlying3 h0
    obtain ⟨b, e1, _⟩ := DataW.trod_bool Tryd.underlying4 h1
    obtain ⟨n2, e2, _, w2⟩ := DataW.trod_int Tryd.underlying2 h2
    obtain ⟨s, e3, _, w3⟩ := DataW.trod_string Tryd.underlying9 h3
    simp at e0 e1 e2 e3
    exact ⟨⟨k, b, n2, s⟩, e0, e1, e2, e3⟩
theorem openXv (h : DataW.Trod enc Tryd.prog W 0 (fun _ => true) true 30 (.slice a len cap) d ps) :
    ∃ l : List Val, len = l.length ∧ VE.See W a l ∧ (∀ y ∈ l, True) ∧ l.length ≤ cap ∧ cap ≤ maxLen ∧ (a = none → cap = 0) ∧ (Fit 30 d → cap * 40 ≤ 140737488351232 ∧ ∀ y ∈ l, True) ∧ (l.map fun _ => 0).sum ≤ Rows.uptoBulk d ∧ cap + 1 ≤ Rows.uptoBulk d :=
  openEls VE Tryd.underlying30 cellsX5 40 bytesX5 (fun _ => True) (fun _ => True) (fun _ => 0) (fun fuel cs x hx hcs => by
    match cs, hcs with
    | [c0, c1, c2, c3], _ =>
      obtain ⟨t, e0, e1, e2, e3⟩ := openV4 hx
      subst e0 e1 e2 e3
      exact ⟨t, trivial, rfl, fun _ => trivial, Nat.zero_le _⟩) h
end
end Go.Proofs.YtfolkjjhlcjfgabDoor
end

section
namespace Go.Proofs.YtfolkjjhlcjfgabDoor
open Go.RowKit Go.Hay
set_option linter.unusedVariables false
set_option linter.unusedSimpArgs false

/-- Which values fit a column of that kind. -/
def fitsV (ck : Int) (cn : Bool) (x : Val) : Bool := x.right && (x.k == ck || (x.k == 0 && cn))

end Go.Proofs.YtfolkjjhlcjfgabDoor
end

section
namespace Go.Proofs.YtfolkjjhlcjfgabDoor
open Go.RowKit Go.Hay
set_option linter.unusedVariables false
set_option linter.unusedSimpArgs false

/-- A column's three fields. -/
structure Col where
  nm : ByteArray
  k : Int
  z : Bool
/-- Columns, one behind the other. -/
def Cols (w : World) (a : Option Addr) (l : List Col) : Prop :=
  l = [] ∨ ∃ g o, a = some ⟨g, o, none⟩ ∧ ∀ j x, l[j]? = some x → w.cell? ⟨g, o + j * 3, none⟩ = some (.string x.nm) ∧ w.cell? ⟨g, o + j * 3 + 1, none⟩ = some (.int .i64 x.k) ∧ w.cell? ⟨g, o + j * 3 + 2, none⟩ = some (.bool x.z)
theorem Cols.kept {w w' : World} {a : Option Addr} {l : List Col} (h : Cols w a l) (hk : Kp [] w w') : Cols w' a l := by
  rcases h with h | ⟨g, o, rfl, hc⟩
  · exact .inl h
  · refine .inr ⟨g, o, rfl, fun j t ht => ?_⟩
    obtain ⟨c0, c1, c2⟩ := hc j t ht
    exact ⟨kpAt hk c0, kpAt hk c1, kpAt hk c2⟩
theorem Cols.at {w : World} {a : Option Addr} {l : List Col} (h : Cols w a l) (j : Nat) (hj : j < l.length) : ∃ g o, a = some ⟨g, o, none⟩ ∧ w.cell? ⟨g, o + j * 3, none⟩ = some (.string l[j].nm) ∧ w.cell? ⟨g, o + j * 3 + 1, none⟩ = some (.int .i64 l[j].k) ∧ w.cell? ⟨g, o + j * 3 + 2, none⟩ = some (.bool l[j].z) := by
  rcases h with h | ⟨g, o, rfl, hc⟩
  · subst h; simp at hj
  · exact ⟨g, o, rfl, hc j l[j] (by simp)⟩
theorem Cols.take {w : World} {a : Option Addr} {l : List Col} (h : Cols w a l) (j : Nat) : Cols w a (l.take j) := by
  rcases h with h | ⟨g, o, rfl, hc⟩
  · exact .inl (by simp [h])
  · refine .inr ⟨g, o, rfl, fun i t ht => hc i t ?_⟩
    rw [List.getElem?_take] at ht
    split at ht
    · exact ht
    · cases ht

def namedV (s : ByteArray) : Bool := decide ((0 : Int) < s.size) && decide ((s.size : Int) ≤ 64)
def keptK (k : Int) : Bool := k == 1 || (k == 2 || k == 3)
def hasN (l : List Col) (nm : ByteArray) : Bool := l.any fun c => c.nm.toList == nm.toList
def colAt (l : List Col) (j : Nat) : Bool := match l[j]? with
  | some c => namedV c.nm && (keptK c.k && !hasN (l.take j) c.nm)
  | none => true
def colsV (l : List Col) : Bool := (List.range l.length).all (colAt l)
/-- Which tables may be. -/
def tableV (nm : ByteArray) (l : List Col) : Int := if namedV nm && (decide (l.length ≠ 0) && (decide (l.length ≤ 8) && colsV l)) then 0 else 20

end Go.Proofs.YtfolkjjhlcjfgabDoor
end

section
namespace Go.Proofs.YtfolkjjhlcjfgabDoor
open Go.ChangeShapes Go.WideShapes Go.ChangeAt Go.RowKit Go.Hay
set_option linter.unusedVariables false
set_option linter.unusedSimpArgs false

theorem cellsX6 : Tryd.prog.cellsOf 42 = 6 := by kernel_rfl
theorem bytesX6 : Tryd.prog.bytesOf 42 = 56 := by kernel_rfl
/-- A column as an element. -/
def ColE : El Col where
  n := 3
  c x := [.string x.nm, .int .i64 x.k, .bool x.z]
  len _ := rfl
  one _ u hu := by simp at hu; rcases hu with rfl | rfl | rfl <;> rfl
  pos := by decide
theorem colSee {w : World} {a : Option Addr} {l : List Col} (h : ColE.See w a l) : Cols w a l := by
  by_cases hl : l = []
  · exact .inl hl
  · obtain ⟨x, l', rfl⟩ := List.exists_cons_of_ne_nil hl
    obtain ⟨g, o, rfl, _⟩ := h.at (j := 0) (x := x) rfl
    refine .inr ⟨g, o, rfl, fun j y hy => ?_⟩
    obtain ⟨g2, o2, e, hc⟩ := h.at hy
    cases e
    exact ⟨hc 0 _ rfl, hc 1 _ rfl, hc 2 _ rfl⟩
instance : Inhabited Col := ⟨⟨⟨#[]⟩, 0, false⟩⟩
section
variable {H : Type} {enc : TypeId × Value → H} {W : World} {a : Option Addr} {len cap : Nat} {d : DataW H} {ps : List MemPlace}
theorem openT6 {fuel : Nat} {c0 c1 c2 c3 c4 c5 : Value} {x : DataW H × List MemPlace} (h : DataW.trod enc Tryd.prog W 0 (fun _ => true) true fuel 42 [c0, c1, c2, c3, c4, c5] = some x) :
    ∃ t : Tm, c0 = .int .i64 t.co ∧ c1 = .int .i64 t.op ∧ c2 = .int .i64 t.x.k ∧ c3 = .bool t.x.b ∧ c4 = .int .i64 t.x.n ∧ c5 = .string t.x.t ∧ -9223372036854775808 ≤ t.co ∧ t.co ≤ 9223372036854775807 := by
  obtain ⟨xs, n, _, rfl, _, hlen, hf⟩ := DataW.trod_struct Tryd.underlying42 h
  match xs, hlen with
  | [y0, y1, y2], _ =>
    have h0 := hf 0 _ rfl
    have h1 := hf 1 _ rfl
    have h2 := hf 2 _ rfl
    simp [cellsX1, cellsX5] at h0 h1 h2
    obtain ⟨co, e0, _, w0⟩ := DataW.trod_int Tryd.underlying3 h0
    obtain ⟨op, e1, _, w1⟩ := DataW.trod_int Tryd.underlying3 h1
    obtain ⟨t, e2, e3, e4, e5⟩ := openV4 (c0 := c2) (c1 := c3) (c2 := c4) (c3 := c5) h2
    simp at e0 e1
    have hb := bounds_i64 w0
    exact ⟨⟨co, op, t⟩, e0, e1, e2, e3, e4, e5, hb.1, hb.2⟩
theorem openTerms (h : DataW.Trod enc Tryd.prog W 0 (fun _ => true) true 23 (.slice a len cap) d ps) :
    ∃ l : List Tm, len = l.length ∧ TmE.See W a l ∧ (∀ y ∈ l, -9223372036854775808 ≤ y.co ∧ y.co ≤ 9223372036854775807) ∧ l.length ≤ cap ∧ cap ≤ maxLen ∧ (a = none → cap = 0) ∧ (Fit 23 d → cap * 56 ≤ 140737488351232 ∧ ∀ y ∈ l, True) ∧ (l.map fun _ => 0).sum ≤ Rows.uptoBulk d ∧ cap + 1 ≤ Rows.uptoBulk d :=
  openEls TmE Tryd.underlying23 cellsX6 56 bytesX6 (fun y => -9223372036854775808 ≤ y.co ∧ y.co ≤ 9223372036854775807) (fun _ => True) (fun _ => 0) (fun fuel cs x hx hcs => by
    match cs, hcs with
    | [c0, c1, c2, c3, c4, c5], _ =>
      obtain ⟨t, e0, e1, e2, e3, e4, e5, hb⟩ := openT6 hx
      subst e0 e1 e2 e3 e4 e5
      exact ⟨t, hb, rfl, fun _ => trivial, Nat.zero_le _⟩) h
set_option maxRecDepth 100000 in
theorem openTermX {base : Nat} {v : Value} (hv : Value.okWide Tryd.prog W .any base 42 v) (h : DataW.Trod enc Tryd.prog W 0 (fun _ => true) true 42 v d ps) : ∃ t : Tm, v = t.v := by
  obtain ⟨cs, rfl, hsz⟩ := okWide_struct Tryd.underlying42 hv
  rw [cellsX6] at hsz
  obtain ⟨fuel, hf⟩ := h
  obtain ⟨l⟩ := cs
  match l, hsz, hf with
  | [c0, c1, c2, c3, c4, c5], _, hf =>
    obtain ⟨t, e0, e1, e2, e3, e4, e5, _⟩ := openT6 (c0 := c0) (c1 := c1) (c2 := c2) (c3 := c3) (c4 := c4) (c5 := c5) hf
    subst e0 e1 e2 e3 e4 e5
    exact ⟨t, rfl⟩
theorem okWide_arrX {P : Program} {w : World} {r : Reach} {base : Nat} {t : TypeId} {v : Value} {n : Nat} {e : TypeId} (ht : P.underlying t = some (.array n e)) (h : Value.okWide P w r base t v) : ∃ cs, v = .agg cs ∧ cs.size = P.cellsOf t := by
  simp only [Value.okWide, ht] at h
  obtain ⟨cs, h1, h2, _⟩ := h
  exact ⟨cs, h1, h2⟩
end
theorem gAsk : Tryd.prog.globalNamed "hayloft/expr.asks" = some 0 := by kernel_rfl
theorem gAskType : (Tryd.prog.globals[0]?).map (·.type) = some 67 := by kernel_rfl
theorem cellsAsk : Tryd.prog.cellsOf 67 = 18 := by kernel_rfl
theorem cellsAs3 : Tryd.prog.cellsOf 66 = 3 := by kernel_rfl
theorem askRow {W : World} {fuel : Nat} {c0 c1 c2 : Value} {b0 b1 b2 : Bool} {x : DataW Unit × List MemPlace} (h : DataW.trod (fun _ => ()) Tryd.prog W 0 (fun _ => true) false fuel 66 [c0, c1, c2] = some x) (hd : x.1 = .agg [.lit (.bool b0), .lit (.bool b1), .lit (.bool b2)]) : c0 = .bool b0 ∧ c1 = .bool b1 ∧ c2 = .bool b2 := by
  obtain ⟨y0, y1, y2, n, rfl, h0, h1, h2⟩ := trod_array3 Tryd.underlying66 cellsX2 h
  obtain ⟨z0, e0, f0⟩ := DataW.trod_bool Tryd.underlying4 h0
  obtain ⟨z1, e1, f1⟩ := DataW.trod_bool Tryd.underlying4 h1
  obtain ⟨z2, e2, f2⟩ := DataW.trod_bool Tryd.underlying4 h2
  simp at e0 e1 e2
  subst e0 e1 e2 f0 f1 f2
  simp at hd
  simp [hd]
set_option maxRecDepth 100000 in
theorem asksOf {W : World} (hv0 : ∃ t cs fuel p, (Tryd.prog.globals[0]?).map (·.type) = some t ∧ W.var? Tryd.prog "hayloft/expr.asks" = some cs ∧ DataW.trod (fun _ => ()) Tryd.prog W 0 (fun _ => true) false fuel t cs.toList = some (Rows.laid_hayloft_expr_asks, p)) : Asks W := by
  obtain ⟨t, cs, fuel, p, ht, hv, hd⟩ := hv0
  obtain rfl := Option.some.inj (gAskType.symm.trans ht)
  obtain ⟨xs, m, _, ex, hlen, hl, hel⟩ := DataW.trod_array Tryd.underlying67 hd
  rw [cellsAsk] at hlen
  obtain ⟨l⟩ := cs
  match l, hlen with
  | [c0, c1, c2, c3, c4, c5, c6, c7, c8, c9, c10, c11, c12, c13, c14, c15, c16, c17], _ =>
    match xs, hl with
    | [x0, x1, x2, x3, x4, x5], _ =>
      have e6 := (DataW.agg.inj (Prod.mk.inj ex).1)
      simp only [List.map_cons, List.map_nil, List.cons.injEq, and_true] at e6
      obtain ⟨f0, f1, f2, f3, f4, f5⟩ := e6
      have k0 := hel 0 (by omega)
      have k1 := hel 1 (by omega)
      have k2 := hel 2 (by omega)
      have k3 := hel 3 (by omega)
      have k4 := hel 4 (by omega)
      have k5 := hel 5 (by omega)
      rw [cellsAs3] at k0 k1 k2 k3 k4 k5
      obtain ⟨g0, g1, g2⟩ := askRow (c0 := c0) (c1 := c1) (c2 := c2) (b0 := false) (b1 := true) (b2 := false) k0 f0.symm
      obtain ⟨g3, g4, g5⟩ := askRow (c0 := c3) (c1 := c4) (c2 := c5) (b0 := true) (b1 := false) (b2 := true) k1 f1.symm
      obtain ⟨g6, g7, g8⟩ := askRow (c0 := c6) (c1 := c7) (c2 := c8) (b0 := true) (b1 := false) (b2 := false) k2 f2.symm
      obtain ⟨g9, g10, g11⟩ := askRow (c0 := c9) (c1 := c10) (c2 := c11) (b0 := true) (b1 := true) (b2 := false) k3 f3.symm
      obtain ⟨g12, g13, g14⟩ := askRow (c0 := c12) (c1 := c13) (c2 := c14) (b0 := false) (b1 := false) (b2 := true) k4 f4.symm
      obtain ⟨g15, g16, g17⟩ := askRow (c0 := c15) (c1 := c16) (c2 := c17) (b0 := false) (b1 := true) (b2 := true) k5 f5.symm
      subst g0 g1 g2 g3 g4 g5 g6 g7 g8 g9 g10 g11 g12 g13 g14 g15 g16 g17
      have hc : ∀ i, i < 18 → W.cell? ⟨0, i, none⟩ = some (.bool (askL.getD i false)) := by
        intro i hi
        rw [World.var?_cell gAsk hv i]
        match i, hi with
        | 0, _ => rfl
        | 1, _ => rfl
        | 2, _ => rfl
        | 3, _ => rfl
        | 4, _ => rfl
        | 5, _ => rfl
        | 6, _ => rfl
        | 7, _ => rfl
        | 8, _ => rfl
        | 9, _ => rfl
        | 10, _ => rfl
        | 11, _ => rfl
        | 12, _ => rfl
        | 13, _ => rfl
        | 14, _ => rfl
        | 15, _ => rfl
        | 16, _ => rfl
        | 17, _ => rfl
        | i + 18, h => omega
      exact ⟨World.block_lt_of_cell? _ _ (hc 0 (by omega)), hc⟩
/-- The block of the table, as its initialiser lays it. -/
def askCells : Array Value := #[.bool false, .bool true, .bool false, .bool true, .bool false, .bool true, .bool true, .bool false, .bool false, .bool true, .bool true, .bool false, .bool false, .bool false, .bool true, .bool false, .bool true, .bool true]
end Go.Proofs.YtfolkjjhlcjfgabDoor
end

section
namespace Go.Proofs.YtfolkjjhlcjfgabDoor
open Go.ChangeShapes Go.WideShapes Go.ChangeAt Go.RowKit Go.Hay
set_option linter.unusedVariables false
theorem table {W : World} (h : laidMetH Tryd.prog [("hayloft/expr.asks", Rows.laid_hayloft_expr_asks)] W) : Asks W := by
  obtain ⟨ps, ⟨g, t, cs, fuel, p, q, hg, ht, hv, hd, _, _⟩, _, _⟩ := (show laidMet Tryd.prog [("hayloft/expr.asks", Rows.laid_hayloft_expr_asks)] W from h)
  obtain rfl := Option.some.inj (gAsk.symm.trans hg)
  exact asksOf ⟨t, cs, fuel, p, ht, hv, hd⟩
def tabCells : Array Value := askCells
end Go.Proofs.YtfolkjjhlcjfgabDoor
end

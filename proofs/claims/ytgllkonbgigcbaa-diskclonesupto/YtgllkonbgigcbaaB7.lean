/- Arguments opened: a slice of elements of whatever type, told by what it sees; how great it may be. -/
import Derived.Test.YtgllkonbgigcbaaRows
import Derived.Test.YtgllkonbgigcbaaB6
import Derived.ProofKit
import Derived.OpenShut
import Derived.ShutString
import Derived.ChangeOld
import Derived.Below
import Derived.Deep.Slices
section
namespace Go.Proofs.Ytgllkonbgigcbaa
open Go.ChangeShapes Go.WideShapes Go.ChangeAt Go.RowKit Go.Hay
set_option linter.unusedVariables false

theorem Try.own : ownKnob Try.prog.godebug = none := by kernel_rfl
theorem Try.laidOut : laidOutB Try.prog = true := by kernel_rfl

/-- How many values a slice's datum holds, its spare places too. -/
def capD {H : Type} : DataW H → Nat
  | .slice e sp => e.length + sp.length
  | _ => 0
theorem bulk_pos {H : Type} (d : DataW H) : 1 ≤ Rows.uptoBulk d := by
  cases d with
  | lit l => cases l <;> simp [Rows.uptoBulk]
  | _ => simp [Rows.uptoBulk]
theorem bulkAll_ge {H : Type} (l : List (DataW H)) : l.length ≤ Rows.uptoBulkAll l := by
  induction l with
  | nil => simp
  | cons d l ih => have := bulk_pos d; simp only [Rows.uptoBulkAll, List.length_cons]; omega
theorem bulk_cap {H : Type} (d : DataW H) : capD d + 1 ≤ Rows.uptoBulk d := by
  cases d with
  | slice e sp => have := bulkAll_ge e; have := bulkAll_ge sp; simp only [capD, Rows.uptoBulk]; omega
  | lit l => cases l <;> simp [capD, Rows.uptoBulk]
  | _ => simp [capD, Rows.uptoBulk]
theorem bulkAll_map {H : Type} (n : Nat) (D : Nat → DataW H) (f : Nat → Nat) (h : ∀ i, i < n → f i ≤ Rows.uptoBulk (D i)) : ((List.range n).map f).sum ≤ Rows.uptoBulkAll ((List.range n).map D) := by
  have gen : ∀ l : List Nat, (∀ i ∈ l, f i ≤ Rows.uptoBulk (D i)) → (l.map f).sum ≤ Rows.uptoBulkAll (l.map D) := by
    intro l
    induction l with
    | nil => intro _; simp
    | cons i l ih =>
      intro hl
      have h1 := hl i (by simp)
      have h2 := ih (fun j hj => hl j (by simp [hj]))
      simp only [List.map_cons, List.sum_cons, Rows.uptoBulkAll]
      omega
  exact gen _ (fun i hi => h i (List.mem_range.1 hi))
theorem mem_weightsAll {H : Type} {P : Program} {e : TypeId} {l : List (DataW H)} {d : DataW H} (hd : d ∈ l) {x : Nat} (hx : x ∈ d.weights P e) : x ∈ DataW.weightsAll P e l := by
  induction l with
  | nil => cases hd
  | cons y l ih =>
    rw [DataW.weightsAll, List.mem_append]
    rcases List.mem_cons.1 hd with rfl | h
    · exact .inl hx
    · exact .inr (ih h)
/-- Within the form's reach. -/
def Fit {H : Type} (t : TypeId) (d : DataW H) : Prop := (DataW.weights Try.prog t d).all (· ≤ reachBytes) = true

theorem openEls {α : Type} [Inhabited α] (E : El α) {t e : TypeId} (ht : Try.prog.underlying t = some (.slice e)) (hcells : Try.prog.cellsOf e = E.n) (B : Nat) (hB : Try.prog.bytesOf e = B)
    {H : Type} {enc : TypeId × Value → H} {W : World} (ok : α → Prop) (Q : α → Prop) (bk : α → Nat)
    (op : ∀ fuel cs x, DataW.trod enc Try.prog W 0 (fun _ => true) true fuel e cs = some x → cs.length = E.n → ∃ y : α, ok y ∧ cs = E.c y ∧ (Fit e x.1 → Q y) ∧ bk y ≤ Rows.uptoBulk x.1)
    {a : Option Addr} {len cap : Nat} {d : DataW H} {ps : List MemPlace} (h : DataW.Trod enc Try.prog W 0 (fun _ => true) true t (.slice a len cap) d ps) :
    ∃ l : List α, len = l.length ∧ E.See W a l ∧ (∀ y ∈ l, ok y) ∧ l.length ≤ cap ∧ cap ≤ maxLen ∧ (a = none → cap = 0) ∧ (Fit t d → cap * B ≤ 140737488351232 ∧ ∀ y ∈ l, Q y) ∧ (l.map bk).sum ≤ Rows.uptoBulk d ∧ cap + 1 ≤ Rows.uptoBulk d := by
  obtain ⟨fuel, hf⟩ := h
  rcases Go.Deep.open_slice ht hf with ⟨hcs, hx⟩ | ⟨x, len', cap', m, n, D, Pl, hcs, _, hl, hmx, hm, hx, hcell⟩
  · simp [Value.cells] at hcs
    obtain ⟨rfl, rfl, rfl⟩ := hcs
    cases hx
    exact ⟨[], rfl, .inl rfl, by simp, Nat.le_refl _, Nat.zero_le _, fun _ => rfl, fun _ => ⟨by omega, by simp⟩, by simp, by simp [Rows.uptoBulk]⟩
  · simp [Value.cells] at hcs
    obtain ⟨rfl, rfl, rfl⟩ := hcs
    cases hx
    have hm' : m = cap := by simpa using hm
    subst hm'
    rw [hcells] at hcell
    obtain ⟨Y, hY⟩ := Go.Deep.choose_lt (α := α) (n := len) (p := fun i y => ok y ∧ (∀ k u, (E.c y)[k]? = some u → W.cell? ((x.add (i * E.n)).add k) = some u) ∧ (Fit e (D i) → Q y) ∧ bk y ≤ Rows.uptoBulk (D i)) (fun i hi => by
      obtain ⟨cs', h1, h2⟩ := hcell i (by omega)
      obtain ⟨_, hlen, hc⟩ := World.cells?_some h1
      obtain ⟨y, g1, rfl, g2, g3⟩ := op _ _ _ h2 hlen
      refine ⟨y, g1, fun k u hu => ?_, g2, g3⟩
      have hk : k < E.n := by have := (List.getElem?_eq_some_iff.1 hu).1; rwa [E.len] at this
      exact (hc k hk).trans hu)
    refine ⟨(List.range len).map Y, by simp, ?_, ?_, by simpa using hl, hmx, fun h => (by cases h), fun hfit => ?_, ?_, ?_⟩
    · cases hlen : len with
      | zero => exact .inl rfl
      | succ k =>
        obtain ⟨b, off, spot⟩ := x
        have h0 : 0 < (E.c (Y 0)).length := by rw [E.len]; exact E.pos
        have hc0 := (hY 0 (by omega)).2.1 0 _ (List.getElem?_eq_getElem h0)
        have hspot : spot = none := by
          have := World.cell?_spot hc0
          simpa [Addr.add] using this
        subst hspot
        refine .inr ⟨b, off, rfl, fun j u hu => ?_⟩
        rw [← hlen] at hu
        have hj : j < ((List.range len).map Y).length * E.n := by have := (List.getElem?_eq_some_iff.1 hu).1; rwa [El.cs_length] at this
        have hpos := E.pos
        have hq : j / E.n < len := by
          rw [List.length_map, List.length_range] at hj
          exact Nat.div_lt_of_lt_mul (by rw [Nat.mul_comm]; exact hj)
        have hr : j % E.n < E.n := Nat.mod_lt _ hpos
        have hje : j = j / E.n * E.n + j % E.n := by rw [Nat.mul_comm]; exact (Nat.div_add_mod j E.n).symm
        have hget : ((List.range len).map Y)[j / E.n]? = some (Y (j / E.n)) := by rw [List.getElem?_map, List.getElem?_range hq]; rfl
        rw [hje, El.cs_get E hget hr] at hu
        have hcc := (hY _ hq).2.1 _ _ hu
        rw [Addr.add_lit, Addr.add_lit, Nat.add_assoc, ← hje] at hcc
        exact hcc
    · intro y hy
      obtain ⟨i, hi, rfl⟩ := List.mem_map.1 hy
      exact (hY i (List.mem_range.1 hi)).1
    · unfold Fit at hfit
      simp only [DataW.weights, ht] at hfit
      rw [List.all_cons, Bool.and_eq_true] at hfit
      refine ⟨?_, fun y hy => ?_⟩
      · have := of_decide_eq_true hfit.1
        simp only [List.length_map, List.length_range, hB, reachBytes] at this
        rwa [show len + (m - len) = m by omega] at this
      · obtain ⟨i, hi, rfl⟩ := List.mem_map.1 hy
        refine (hY i (List.mem_range.1 hi)).2.2.1 (List.all_eq_true.2 fun x hx => List.all_eq_true.1 hfit.2 x ?_)
        rw [List.mem_append]
        exact .inl (mem_weightsAll (List.mem_map_of_mem hi) hx)
    · have := bulkAll_map len D (fun i => bk (Y i)) (fun i hi => (hY i hi).2.2.2)
      simp only [List.map_map, Rows.uptoBulk]
      have e : (List.range len).map (bk ∘ Y) = (List.range len).map (fun i => bk (Y i)) := rfl
      rw [e]
      omega
    · have := bulk_cap (.slice ((List.range len).map D) ((List.range (m - len)).map fun j => D (len + j)) : DataW H)
      simp only [capD, List.length_map, List.length_range] at this
      omega

/-- A byte. -/
def ByteE : El UInt8 where
  n := 1
  c x := [.int .u8 x.toNat]
  len _ := rfl
  one _ u hu := by simp at hu; subst hu; rfl
  pos := by decide
theorem byteCs (l : List UInt8) : ByteE.cs l = bcells l := by
  induction l with
  | nil => rfl
  | cons x l ih => rw [El.cs_cons, ih]; rfl
theorem byteSee {w : World} {a : Option Addr} {l : List UInt8} (h : ByteE.See w a l) : Sees w a l := by
  rcases h with h | ⟨g, o, rfl, hc⟩
  · exact .inl h
  · refine .inr ⟨g, o, rfl, fun j u hu => hc j _ ?_⟩
    rw [byteCs, bcells_get, hu]
    rfl
/-- A slice of bytes, and what it sees. -/
structure Bs where
  a : Option Addr
  c : Nat
  bs : List UInt8
def Bs.v (x : Bs) : Value := .slice x.a x.bs.length x.c
structure Bs.ok (w : World) (x : Bs) : Prop where
  see : Sees w x.a x.bs
  cap : x.bs.length ≤ x.c
  nil : x.a = none → x.c = 0
theorem Bs.ok.kept {w w' : World} {x : Bs} {S : List Nat} (h : x.ok w) (hk : Kp S w w') (hn : x.bs ≠ [] → ∀ k ∈ blk x.a, k ∉ S) : x.ok w' := ⟨h.see.kept' hk hn, h.cap, h.nil⟩
theorem Bs.ok.keptNew {w w' : World} {x : Bs} (h : x.ok w) (hk : Kp [] w w') : x.ok w' := h.kept hk (by simp)
instance : Inhabited Bs := ⟨⟨none, 0, []⟩⟩
theorem cellsB : Try.prog.cellsOf 5 = 1 := by kernel_rfl
theorem bytesB : Try.prog.bytesOf 5 = 1 := by kernel_rfl
theorem cellsI : Try.prog.cellsOf 3 = 1 := by kernel_rfl
theorem cellsS : Try.prog.cellsOf 34 = 1 := by kernel_rfl
theorem bytesS : Try.prog.bytesOf 34 = 24 := by kernel_rfl
def Few (x : Bs) : Prop := x.bs.length ≤ 140737488351232
section
variable {H : Type} {enc : TypeId × Value → H} {W : World}
theorem openByt {fuel : Nat} {v : Value} {x : DataW H × List MemPlace} (h : DataW.trod enc Try.prog W 0 (fun _ => true) true fuel 34 [v] = some x) :
    ∃ y : Bs, y.ok W ∧ v = y.v ∧ (Fit 34 x.1 → Few y) ∧ y.bs.length + 1 ≤ Rows.uptoBulk x.1 := by
  have hv : ∃ a len cap, v = .slice a len cap := by
    rcases Go.Deep.open_slice Try.underlying34 h with ⟨hcs, _⟩ | ⟨a, len, cap, _, _, _, _, hcs, _⟩
    · exact ⟨none, 0, 0, by simpa using hcs⟩
    · exact ⟨_, _, _, by simpa using hcs⟩
  obtain ⟨a, len, cap, rfl⟩ := hv
  obtain ⟨l, rfl, hs, _, hl, hm, hn, hfit, _, hbk⟩ := openEls ByteE Try.underlying34 cellsB 1 bytesB (fun _ => True) (fun _ => True) (fun _ => 0)
    (fun fuel cs x hx hcs => by
      obtain ⟨n, rfl, _, hw⟩ := DataW.trod_int Try.underlying5 hx
      have hb := bounds_u8 hw
      exact ⟨octet n, trivial, by simp [ByteE]; exact (octet_toNat _ hb.1 hb.2).symm, fun _ => trivial, Nat.zero_le _⟩) (d := x.1) (ps := x.2) ⟨fuel, h⟩
  refine ⟨⟨a, cap, l⟩, ⟨byteSee hs, hl, hn⟩, rfl, fun hf => ?_, ?_⟩
  · have := (hfit hf).1
    unfold Few
    simp only
    omega
  · simp only
    omega
/-- A number among the arguments' cells. -/
theorem openI {fuel : Nat} {v : Value} {x : DataW H × List MemPlace} (h : DataW.trod enc Try.prog W 0 (fun _ => true) true fuel 3 [v] = some x) : ∃ n : Int, v = .int .i64 n ∧ -9223372036854775808 ≤ n ∧ n ≤ 9223372036854775807 := by
  obtain ⟨n, e, _, hw⟩ := DataW.trod_int Try.underlying3 h
  have hb := bounds_i64 hw
  exact ⟨n, by simpa using e, hb.1, hb.2⟩
end
end Go.Proofs.Ytgllkonbgigcbaa
end

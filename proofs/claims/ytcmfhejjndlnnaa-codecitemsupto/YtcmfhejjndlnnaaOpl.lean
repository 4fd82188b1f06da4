/- Arguments opened: a slice of slices of bytes; how much a bulk allows. -/
import Derived.Test.YtcmfhejjndlnnaaOpn
import Derived.Deep.Slices
namespace Go.Proofs.Ytcmfhejjndlnnaa
open Go.ChangeShapes Go.WideShapes Go.ChangeAt Go.RowKit Go.Hay
set_option linter.unusedVariables false

/-- A value, and the bytes that it sees. -/
def Byt (w : World) (x : Value × List UInt8) : Prop := ∃ a c, x.1 = .slice a x.2.length c ∧ Sees w a x.2 ∧ x.2.length ≤ c ∧ c ≤ maxLen
/-- Slices of bytes, one behind the other. -/
def Lst (w : World) (a : Option Addr) (l : List (Value × List UInt8)) : Prop :=
  l = [] ∨ ∃ g o, a = some ⟨g, o, none⟩ ∧ ∀ j x, l[j]? = some x → w.cell? ⟨g, o + j, none⟩ = some x.1 ∧ Byt w x
theorem Byt.kept {w w' : World} {x : Value × List UInt8} (h : Byt w x) (hk : Kp [] w w') : Byt w' x := by
  obtain ⟨a, c, h1, h2, h3, h4⟩ := h
  exact ⟨a, c, h1, h2.kept hk (by simp), h3, h4⟩
theorem Lst.kept {w w' : World} {a : Option Addr} {l : List (Value × List UInt8)} (h : Lst w a l) (hk : Kp [] w w') : Lst w' a l := by
  rcases h with h | ⟨g, o, rfl, hc⟩
  · exact .inl h
  · refine .inr ⟨g, o, rfl, fun j x hx => ?_⟩
    obtain ⟨h1, h2⟩ := hc j x hx
    exact ⟨(hk.cell (World.block_lt_of_cell? _ _ h1) (by simp)).trans h1, h2.kept hk⟩

/-- How many bytes there are, and slices. -/
def sumL (l : List (Value × List UInt8)) : Nat := (l.map fun x => x.2.length + 1).sum

theorem bulk_pos {H : Type} (d : DataW H) : 1 ≤ Rows.uptoBulk d := by
  cases d with
  | lit l => cases l <;> simp [Rows.uptoBulk]
  | _ => simp [Rows.uptoBulk]
theorem bulkAll_ge {H : Type} (l : List (DataW H)) : l.length ≤ Rows.uptoBulkAll l := by
  induction l with
  | nil => simp
  | cons d l ih => have := bulk_pos d; simp only [Rows.uptoBulkAll, List.length_cons]; omega
theorem bulk_cap {H : Type} (d : DataW H) : capD d + 1 ≤ Rows.uptoBulk d := by
  cases d with
  | slice e sp => have := bulkAll_ge e; have := bulkAll_ge sp; simp only [capD, Rows.uptoBulk]; omega
  | lit l => cases l <;> simp [capD, Rows.uptoBulk]
  | _ => simp [capD, Rows.uptoBulk]
theorem bulkAll_map {H : Type} (n : Nat) (D : Nat → DataW H) (f : Nat → Nat) (h : ∀ i, i < n → f i ≤ Rows.uptoBulk (D i)) : ((List.range n).map f).sum ≤ Rows.uptoBulkAll ((List.range n).map D) := by
  have gen : ∀ l : List Nat, (∀ i ∈ l, f i ≤ Rows.uptoBulk (D i)) → (l.map f).sum ≤ Rows.uptoBulkAll (l.map D) := by
    intro l
    induction l with
    | nil => intro _; simp
    | cons i l ih =>
      intro hl
      have h1 := hl i (by simp)
      have h2 := ih (fun j hj => hl j (by simp [hj]))
      simp only [List.map_cons, List.sum_cons, Rows.uptoBulkAll]
      omega
  exact gen _ (fun i hi => h i (List.mem_range.1 hi))

theorem cellsS : Try.prog.cellsOf 22 = 1 := by kernel_rfl

/-- One slice of bytes, by its one cell's reading. -/
theorem openByt {H : Type} {enc : TypeId × Value → H} {W : World} {fuel : Nat} {v : Value} {x : DataW H × List MemPlace} (h : DataW.trod enc Try.prog W 0 (fun _ => true) true fuel 22 [v] = some x) :
    ∃ bs, Byt W (v, bs) ∧ bs.length ≤ capD x.1 := by
  have hv : ∃ a len cap, v = .slice a len cap := by
    rcases open_ints Try.underlying22 Try.underlying5 Try.cellsB h with ⟨hcs, _⟩ | ⟨a, len, cap, zs, hcs, _⟩
    · exact ⟨none, 0, 0, by simpa using hcs⟩
    · exact ⟨_, _, _, by simpa using hcs⟩
  obtain ⟨a, len, cap, rfl⟩ := hv
  obtain ⟨bs, h1, h2, h3, h4, h5⟩ := openBytes (d := x.1) (ps := x.2) ⟨fuel, h⟩
  exact ⟨bs, ⟨a, cap, by rw [h1], h2, h3, h4⟩, by omega⟩

theorem openLists {H : Type} {enc : TypeId × Value → H} {W : World} {a : Option Addr} {len cap : Nat} {d : DataW H} {ps : List MemPlace}
    (h : DataW.Trod enc Try.prog W 0 (fun _ => true) true 26 (.slice a len cap) d ps) : ∃ l : List (Value × List UInt8), len = l.length ∧ Lst W a l ∧ l.length ≤ cap ∧ cap ≤ maxLen ∧ sumL l ≤ Rows.uptoBulk d := by
  obtain ⟨fuel, hf⟩ := h
  rcases Go.Deep.open_slice1 Try.underlying26 cellsS hf with ⟨hcs, hx⟩ | ⟨x, len', cap', m, n, V, D, Pl, hcs, _, hl, hmx, hm, hx, hcell⟩
  · simp [Value.cells] at hcs
    obtain ⟨rfl, rfl, rfl⟩ := hcs
    cases hx
    exact ⟨[], rfl, .inl rfl, Nat.le_refl _, Nat.zero_le _, by simp [sumL]⟩
  · simp [Value.cells] at hcs
    obtain ⟨rfl, rfl, rfl⟩ := hcs
    cases hx
    have hm' : m = cap := by simpa using hm
    subst hm'
    obtain ⟨B, hB⟩ := Go.Deep.choose_lt (α := List UInt8) (n := len) (p := fun i bs => Byt W (V i, bs) ∧ bs.length ≤ capD (D i)) (fun i hi => openByt (hcell i (by omega)).2)
    refine ⟨(List.range len).map fun i => (V i, B i), by simp, ?_, by simpa using hl, hmx, ?_⟩
    · cases hlen : len with
      | zero => exact .inl rfl
      | succ k =>
        obtain ⟨b, off, spot⟩ := x
        have hc0 := (hcell 0 (by omega)).1
        have hspot : spot = none := by simpa [Addr.add] using World.cell?_spot hc0
        subst hspot
        refine .inr ⟨b, off, rfl, fun j y hy => ?_⟩
        rw [← hlen] at hy
        have hj : j < len := by have := (List.getElem?_eq_some_iff.1 hy).1; simpa using this
        rw [List.getElem?_map, List.getElem?_range hj] at hy
        cases hy
        have h1 := (hcell j (by omega)).1
        rw [Addr.add_lit] at h1
        exact ⟨h1, (hB j hj).1⟩
    · have := bulkAll_map len D (fun i => (B i).length + 1) (fun i hi => by have := (hB i hi).2; have := bulk_cap (D i); omega)
      simp only [sumL, List.map_map, Rows.uptoBulk]
      have e : (List.range len).map ((fun x : Value × List UInt8 => x.2.length + 1) ∘ fun i => (V i, B i)) = (List.range len).map (fun i => (B i).length + 1) := rfl
      rw [e]
      omega
end Go.Proofs.Ytcmfhejjndlnnaa

/- Arguments opened: tables. -/
import Derived.Test.YtboibllahibicabDoorVtab
import Derived.Test.YtboibllahibicabDoorVlay
namespace Go.Proofs.YtboibllahibicabDoor
open Go.ChangeShapes Go.WideShapes Go.ChangeAt Go.RowKit Go.Hay
set_option linter.unusedVariables false

theorem cellsC3 : Tryd.prog.cellsOf 42 = 3 := by kernel_rfl
theorem cellsT : Tryd.prog.cellsOf 37 = 2 := by kernel_rfl
theorem cellsCs : Tryd.prog.cellsOf 35 = 1 := by kernel_rfl
theorem openColumn {H : Type} {enc : TypeId × Value → H} {W : World} {fuel : Nat} {c0 c1 c2 : Value} {x : DataW H × List MemPlace} (h : DataW.trod enc Tryd.prog W 0 (fun _ => true) true fuel 42 [c0, c1, c2] = some x) :
    ∃ c : Col, c0 = .string c.nm ∧ c1 = .int .i64 c.k ∧ c2 = .bool c.z := by
  obtain ⟨xs, n, _, rfl, _, hlen, hf⟩ := DataW.trod_struct Tryd.underlying42 h
  match xs, hlen with
  | [y0, y1, y2], _ =>
    have h0 := hf 0 _ rfl
    have h1 := hf 1 _ rfl
    have h2 := hf 2 _ rfl
    simp [cellsI, cellsB, cellsS] at h0 h1 h2
    obtain ⟨s, e0, _, w0⟩ := DataW.trod_string Tryd.underlying9 h0
    obtain ⟨k, e1, _, w1⟩ := DataW.trod_int Tryd.underlying3 h1
    obtain ⟨b, e2, _⟩ := DataW.trod_bool Tryd.underlying4 h2
    simp at e0 e1 e2
    exact ⟨⟨s, k, b⟩, e0, e1, e2⟩

theorem openCols {H : Type} {enc : TypeId × Value → H} {W : World} {fuel : Nat} {v : Value} {x : DataW H × List MemPlace} (hf : DataW.trod enc Tryd.prog W 0 (fun _ => true) true fuel 35 [v] = some x) :
    ∃ (a : Option Addr) (cap : Nat) (l : List Col), v = .slice a l.length cap ∧ Cols W a l ∧ l.length ≤ cap ∧ cap ≤ maxLen := by
  rcases Go.Deep.open_slice Tryd.underlying35 hf with ⟨hcs, hx⟩ | ⟨x, len, cap, m, n, D, Pl, hcs, _, hl, hmx, hm, hx, hcell⟩
  · simp at hcs
    subst hcs
    exact ⟨none, 0, [], rfl, .inl rfl, Nat.le_refl _, Nat.zero_le _⟩
  · simp at hcs
    subst hcs
    have hm' : m = cap := by simpa using hm
    subst hm'
    rw [cellsC3] at hcell
    have : Inhabited Col := ⟨⟨⟨#[]⟩, 0, false⟩⟩
    obtain ⟨B, hB⟩ := Go.Deep.choose_lt (α := Col) (n := len) (p := fun i t => W.cell? (x.add (i * 3)) = some (.string t.nm) ∧ W.cell? ((x.add (i * 3)).add 1) = some (.int .i64 t.k) ∧ W.cell? ((x.add (i * 3)).add 2) = some (.bool t.z)) (fun i hi => by
      obtain ⟨cs', h1, h2⟩ := hcell i (by omega)
      obtain ⟨_, hlen, hc⟩ := World.cells?_some h1
      match cs', hlen with
      | [c0, c1, c2], _ =>
        obtain ⟨t, e0, e1, e2⟩ := openColumn h2
        have q0 := hc 0 (by omega)
        have q1 := hc 1 (by omega)
        have q2 := hc 2 (by omega)
        simp at q0 q1 q2
        subst e0 e1 e2
        exact ⟨t, by simpa [Addr.add] using q0, q1, q2⟩)
    refine ⟨some x, m, (List.range len).map B, by simp, ?_, by simpa using hl, hmx⟩
    cases hlen : len with
    | zero => exact .inl rfl
    | succ k =>
      obtain ⟨b, off, spot⟩ := x
      have hc0 := (hB 0 (by omega)).1
      have hspot : spot = none := by simpa [Addr.add] using World.cell?_spot hc0
      subst hspot
      refine .inr ⟨b, off, rfl, fun j y hy => ?_⟩
      rw [← hlen] at hy
      have hj : j < len := by have := (List.getElem?_eq_some_iff.1 hy).1; simpa using this
      rw [List.getElem?_map, List.getElem?_range hj] at hy
      cases hy
      obtain ⟨q0, q1, q2⟩ := hB j hj
      rw [Addr.add_lit] at q0
      rw [Addr.add_lit, Addr.add_lit] at q1 q2
      exact ⟨q0, q1, q2⟩

set_option maxRecDepth 100000 in
theorem openTable {H : Type} {enc : TypeId × Value → H} {W : World} {base : Nat} {v : Value} {d : DataW H} {ps : List MemPlace} (hv : Value.okWide Tryd.prog W .any base 37 v)
    (h : DataW.Trod enc Tryd.prog W 0 (fun _ => true) true 37 v d ps) : ∃ (nm : ByteArray) (a : Option Addr) (cap : Nat) (l : List Col), v = .agg #[.string nm, .slice a l.length cap] ∧ Cols W a l ∧ l.length ≤ cap ∧ cap ≤ maxLen ∧ nm.size ≤ maxLen := by
  obtain ⟨cs, rfl, hsz⟩ := okWide_struct Tryd.underlying37 hv
  rw [cellsT] at hsz
  obtain ⟨fuel, hf⟩ := h
  obtain ⟨l⟩ := cs
  match l, hsz, hf with
  | [c0, c1], _, hf =>
    have hf' : DataW.trod enc Tryd.prog W 0 (fun _ => true) true fuel 37 [c0, c1] = some (d, ps) := hf
    obtain ⟨xs, n, _, _, _, hlen, hff⟩ := DataW.trod_struct Tryd.underlying37 hf'
    match xs, hlen with
    | [y0, y1], _ =>
      have h0 := hff 0 _ rfl
      have h1 := hff 1 _ rfl
      simp [cellsS, cellsCs] at h0 h1
      obtain ⟨s, e0, _, w0⟩ := DataW.trod_string Tryd.underlying9 h0
      simp at e0
      obtain ⟨a, cap, cl, e1, hc, hl, hm⟩ := openCols h1
      subst e0 e1
      exact ⟨s, a, cap, cl, rfl, hc, hl, hm, w0⟩

/-- A nil slice has no room. -/
theorem nilVals {H : Type} {enc : TypeId × Value → H} {W : World} {a : Option Addr} {len cap : Nat} {d : DataW H} {ps : List MemPlace}
    (h : DataW.Trod enc Tryd.prog W 0 (fun _ => true) true 31 (.slice a len cap) d ps) : a = none → cap = 0 := by
  obtain ⟨fuel, hf⟩ := h
  rcases Go.Deep.open_slice Tryd.underlying31 hf with ⟨hcs, hx⟩ | ⟨x, len', cap', m, n, D, Pl, hcs, _, hl, hmx, hm, hx, hcell⟩
  · simp [Value.cells] at hcs
    intro _
    exact hcs.2.2
  · simp [Value.cells] at hcs
    intro h
    rw [h] at hcs
    cases hcs.1
theorem bytesV : Tryd.prog.bytesOf 23 = 40 := by kernel_rfl
/-- The form's own reach, of a slice of values among the arguments. -/
theorem reachVals {H : Type} {enc : TypeId × Value → H} {W : World} {a : Option Addr} {len cap : Nat} {d : DataW H} {ps : List MemPlace}
    (h : DataW.Trod enc Tryd.prog W 0 (fun _ => true) true 31 (.slice a len cap) d ps) (hr : (DataW.weights Tryd.prog 31 d).all (· ≤ reachBytes) = true) : len * 40 ≤ 140737488351232 := by
  obtain ⟨fuel, hf⟩ := h
  rcases Go.Deep.open_slice Tryd.underlying31 hf with ⟨hcs, hx⟩ | ⟨x, len', cap', m, n, D, Pl, hcs, _, hl, hmx, hm, hx, hcell⟩
  · simp [Value.cells] at hcs
    obtain ⟨rfl, rfl, rfl⟩ := hcs
    omega
  · simp [Value.cells] at hcs
    obtain ⟨rfl, rfl, rfl⟩ := hcs
    cases hx
    have h2 := of_decide_eq_true (List.all_eq_true.1 hr ((((List.range len).map D).length + ((List.range' len (m - len)).map D).length) * Tryd.prog.bytesOf 23) (by simp [DataW.weights, Tryd.underlying31]))
    rw [bytesV] at h2
    simp [reachBytes] at h2
    omega

theorem bulk_pos {H : Type} (d : DataW H) : 1 ≤ Rows.uptoBulk d := by
  cases d with
  | lit l => cases l <;> simp [Rows.uptoBulk]
  | _ => simp [Rows.uptoBulk]
theorem bulkAll_ge {H : Type} (l : List (DataW H)) : l.length ≤ Rows.uptoBulkAll l := by
  induction l with
  | nil => simp
  | cons d l ih => have := bulk_pos d; simp only [Rows.uptoBulkAll, List.length_cons]; omega
theorem bulkVals {H : Type} {enc : TypeId × Value → H} {W : World} {a : Option Addr} {len cap : Nat} {d : DataW H} {ps : List MemPlace}
    (h : DataW.Trod enc Tryd.prog W 0 (fun _ => true) true 31 (.slice a len cap) d ps) : len ≤ Rows.uptoBulk d := by
  obtain ⟨fuel, hf⟩ := h
  rcases Go.Deep.open_slice Tryd.underlying31 hf with ⟨hcs, hx⟩ | ⟨x, len', cap', m, n, D, Pl, hcs, _, hl, hmx, hm, hx, hcell⟩
  · simp [Value.cells] at hcs
    obtain ⟨rfl, rfl, rfl⟩ := hcs
    omega
  · simp [Value.cells] at hcs
    obtain ⟨rfl, rfl, rfl⟩ := hcs
    cases hx
    have := bulkAll_ge ((List.range len).map D)
    simp only [Rows.uptoBulk]
    simp at this
    omega
end Go.Proofs.YtboibllahibicabDoor

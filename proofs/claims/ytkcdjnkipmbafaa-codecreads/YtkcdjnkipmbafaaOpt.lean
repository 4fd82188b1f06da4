/- Arguments opened: a slice of things (a kind, two numbers, a slice of bytes each). -/
import Derived.Test.YtkcdjnkipmbafaaOpl
namespace Go.Proofs.Ytkcdjnkipmbafaa
open Go.ChangeShapes Go.WideShapes Go.ChangeAt Go.RowKit Go.Hay
set_option linter.unusedVariables false

/-- A thing, as its four cells have it; and the bytes that its slice sees. -/
structure Thing where
  kind : Int
  n : Int
  m : Int
  b : Value
  bs : List UInt8
/-- A thing's cells. -/
def Thing.cells (t : Thing) : List Value := [.int .i64 t.kind, .int .u64 t.n, .int .u64 t.m, t.b]
def Thing.ok (w : World) (t : Thing) : Prop :=
  Byt w (t.b, t.bs) ∧ (-9223372036854775808 ≤ t.kind ∧ t.kind ≤ 9223372036854775807) ∧ (0 ≤ t.n ∧ t.n < 18446744073709551616) ∧ (0 ≤ t.m ∧ t.m < 18446744073709551616)
/-- Things, one behind the other. -/
def Ths (w : World) (a : Option Addr) (l : List Thing) : Prop :=
  l = [] ∨ ∃ g o, a = some ⟨g, o, none⟩ ∧ ∀ j t, l[j]? = some t → t.ok w ∧ w.cell? ⟨g, o + j * 4, none⟩ = some (.int .i64 t.kind) ∧ w.cell? ⟨g, o + j * 4 + 1, none⟩ = some (.int .u64 t.n) ∧ w.cell? ⟨g, o + j * 4 + 2, none⟩ = some (.int .u64 t.m) ∧ w.cell? ⟨g, o + j * 4 + 3, none⟩ = some t.b
theorem Thing.ok.kept {w w' : World} {t : Thing} (h : t.ok w) (hk : Kp [] w w') : t.ok w' := ⟨h.1.kept hk, h.2⟩
theorem Ths.kept {w w' : World} {a : Option Addr} {l : List Thing} (h : Ths w a l) (hk : Kp [] w w') : Ths w' a l := by
  rcases h with h | ⟨g, o, rfl, hc⟩
  · exact .inl h
  · refine .inr ⟨g, o, rfl, fun j t ht => ?_⟩
    obtain ⟨h1, c0, c1, c2, c3⟩ := hc j t ht
    exact ⟨h1.kept hk, (hk.cell (World.block_lt_of_cell? _ _ c0) (by simp)).trans c0, (hk.cell (World.block_lt_of_cell? _ _ c1) (by simp)).trans c1, (hk.cell (World.block_lt_of_cell? _ _ c2) (by simp)).trans c2, (hk.cell (World.block_lt_of_cell? _ _ c3) (by simp)).trans c3⟩
/-- How much things hold. -/
def sumT (l : List Thing) : Nat := (l.map fun t => t.bs.length + 1).sum

theorem cellsT : Try.prog.cellsOf 29 = 4 := by kernel_rfl
theorem cellsI : Try.prog.cellsOf 3 = 1 := by kernel_rfl
theorem cellsU : Try.prog.cellsOf 27 = 1 := by kernel_rfl

theorem openThing {H : Type} {enc : TypeId × Value → H} {W : World} {fuel : Nat} {c0 c1 c2 c3 : Value} {x : DataW H × List MemPlace} (h : DataW.trod enc Try.prog W 0 (fun _ => true) true fuel 29 [c0, c1, c2, c3] = some x) :
    ∃ t : Thing, t.ok W ∧ c0 = .int .i64 t.kind ∧ c1 = .int .u64 t.n ∧ c2 = .int .u64 t.m ∧ c3 = t.b ∧ t.bs.length + 1 ≤ Rows.uptoBulk x.1 := by
  obtain ⟨xs, n, _, rfl, _, hlen, hf⟩ := DataW.trod_struct Try.underlying29 h
  match xs, hlen with
  | [y0, y1, y2, y3], _ =>
    have h0 := hf 0 _ rfl
    have h1 := hf 1 _ rfl
    have h2 := hf 2 _ rfl
    have h3 := hf 3 _ rfl
    simp [cellsI, cellsU, cellsS] at h0 h1 h2 h3
    obtain ⟨k, e0, _, w0⟩ := DataW.trod_int Try.underlying3 h0
    obtain ⟨n1, e1, _, w1⟩ := DataW.trod_int Try.underlying27 h1
    obtain ⟨n2, e2, _, w2⟩ := DataW.trod_int Try.underlying27 h2
    obtain ⟨bs, hb, hcap⟩ := openByt h3
    simp at e0 e1 e2
    have b0 := bounds_i64 w0
    have b1 := bounds_u64 w1
    have b2 := bounds_u64 w2
    refine ⟨⟨k, n1, n2, c3, bs⟩, ⟨hb, b0, ⟨b1.1, by show n1 < _; omega⟩, ⟨b2.1, by show n2 < _; omega⟩⟩, e0, e1, e2, rfl, ?_⟩
    have := bulk_cap y3.1
    simp only [List.map_cons, List.map_nil, Rows.uptoBulk, Rows.uptoBulkAll]
    omega

theorem openThings {H : Type} {enc : TypeId × Value → H} {W : World} {a : Option Addr} {len cap : Nat} {d : DataW H} {ps : List MemPlace}
    (h : DataW.Trod enc Try.prog W 0 (fun _ => true) true 22 (.slice a len cap) d ps) : ∃ l : List Thing, len = l.length ∧ Ths W a l ∧ l.length ≤ cap ∧ cap ≤ maxLen ∧ sumT l ≤ Rows.uptoBulk d := by
  obtain ⟨fuel, hf⟩ := h
  rcases Go.Deep.open_slice Try.underlying22 hf with ⟨hcs, hx⟩ | ⟨x, len', cap', m, n, D, Pl, hcs, _, hl, hmx, hm, hx, hcell⟩
  · simp [Value.cells] at hcs
    obtain ⟨rfl, rfl, rfl⟩ := hcs
    cases hx
    exact ⟨[], rfl, .inl rfl, Nat.le_refl _, Nat.zero_le _, by simp [sumT]⟩
  · simp [Value.cells] at hcs
    obtain ⟨rfl, rfl, rfl⟩ := hcs
    cases hx
    have hm' : m = cap := by simpa using hm
    subst hm'
    rw [cellsT] at hcell
    have : Inhabited Thing := ⟨⟨0, 0, 0, .slice none 0 0, []⟩⟩
    obtain ⟨B, hB⟩ := Go.Deep.choose_lt (α := Thing) (n := len) (p := fun i t => t.ok W ∧ W.cell? (x.add (i * 4)) = some (.int .i64 t.kind) ∧ W.cell? ((x.add (i * 4)).add 1) = some (.int .u64 t.n) ∧ W.cell? ((x.add (i * 4)).add 2) = some (.int .u64 t.m) ∧ W.cell? ((x.add (i * 4)).add 3) = some t.b ∧ t.bs.length + 1 ≤ Rows.uptoBulk (D i)) (fun i hi => by
      obtain ⟨cs', h1, h2⟩ := hcell i (by omega)
      obtain ⟨_, hlen, hc⟩ := World.cells?_some h1
      match cs', hlen with
      | [c0, c1, c2, c3], _ =>
        obtain ⟨t, g1, e0, e1, e2, e3, g2⟩ := openThing h2
        have q0 := hc 0 (by omega)
        have q1 := hc 1 (by omega)
        have q2 := hc 2 (by omega)
        have q3 := hc 3 (by omega)
        simp at q0 q1 q2 q3
        subst e0 e1 e2 e3
        exact ⟨t, g1, by simpa [Addr.add] using q0, q1, q2, q3, g2⟩)
    refine ⟨(List.range len).map B, by simp, ?_, by simpa using hl, hmx, ?_⟩
    · cases hlen : len with
      | zero => exact .inl rfl
      | succ k =>
        obtain ⟨b, off, spot⟩ := x
        have hc0 := (hB 0 (by omega)).2.1
        have hspot : spot = none := by simpa [Addr.add] using World.cell?_spot hc0
        subst hspot
        refine .inr ⟨b, off, rfl, fun j y hy => ?_⟩
        rw [← hlen] at hy
        have hj : j < len := by have := (List.getElem?_eq_some_iff.1 hy).1; simpa using this
        rw [List.getElem?_map, List.getElem?_range hj] at hy
        cases hy
        obtain ⟨g1, q0, q1, q2, q3, g2⟩ := hB j hj
        rw [Addr.add_lit] at q0
        rw [Addr.add_lit, Addr.add_lit] at q1 q2 q3
        exact ⟨g1, q0, q1, q2, q3⟩
    · have := bulkAll_map len D (fun i => (B i).bs.length + 1) (fun i hi => (hB i hi).2.2.2.2.2)
      simp only [sumT, List.map_map, Rows.uptoBulk]
      have e : (List.range len).map ((fun t : Thing => t.bs.length + 1) ∘ B) = (List.range len).map (fun i => (B i).bs.length + 1) := rfl
      rw [e]
      omega
end Go.Proofs.Ytkcdjnkipmbafaa

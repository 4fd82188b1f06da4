/- The law on what is made, what is right, what fits. -/
import Derived.Test.YtboibllahibicaaDoorVlay
import Derived.Test.YtboibllahibicaaDoorVfit
namespace Go.Proofs.YtboibllahibicaaDoor
open Go.ChangeShapes Go.WideShapes Go.ChangeAt Go.RowKit Go.Hay
set_option linter.unusedVariables false
set_option linter.unusedSimpArgs false

theorem cellsC : Tryd.prog.cellsOf 23 = 3 := by kernel_rfl
theorem openCol3 {H : Type} {enc : TypeId × Value → H} {W : World} {fuel : Nat} {c0 c1 c2 : Value} {x : DataW H × List MemPlace} (h : DataW.trod enc Tryd.prog W 0 (fun _ => true) true fuel 23 [c0, c1, c2] = some x) :
    ∃ (nm : ByteArray) (k : Int) (b : Bool), c0 = .string nm ∧ c1 = .int .i64 k ∧ c2 = .bool b ∧ nm.size ≤ maxLen := by
  obtain ⟨xs, n, _, rfl, _, hlen, hf⟩ := DataW.trod_struct Tryd.underlying23 h
  match xs, hlen with
  | [y0, y1, y2], _ =>
    have h0 := hf 0 _ rfl
    have h1 := hf 1 _ rfl
    have h2 := hf 2 _ rfl
    simp [cellsI, cellsB, cellsS] at h0 h1 h2
    obtain ⟨s, e0, _, w0⟩ := DataW.trod_string Tryd.underlying9 h0
    obtain ⟨k, e1, _, w1⟩ := DataW.trod_int Tryd.underlying3 h1
    obtain ⟨b, e2, _⟩ := DataW.trod_bool Tryd.underlying4 h2
    simp at e0 e1 e2
    exact ⟨s, k, b, e0, e1, e2, w0⟩
set_option maxRecDepth 100000 in
theorem openCol {H : Type} {enc : TypeId × Value → H} {W : World} {base : Nat} {v : Value} {d : DataW H} {ps : List MemPlace} (hv : Value.okWide Tryd.prog W .any base 23 v)
    (h : DataW.Trod enc Tryd.prog W 0 (fun _ => true) true 23 v d ps) : ∃ (nm : ByteArray) (k : Int) (b : Bool), v = .agg #[.string nm, .int .i64 k, .bool b] := by
  obtain ⟨cs, rfl, hsz⟩ := okWide_struct Tryd.underlying23 hv
  rw [cellsC] at hsz
  obtain ⟨fuel, hf⟩ := h
  obtain ⟨l⟩ := cs
  match l, hsz, hf with
  | [c0, c1, c2], _, hf =>
    obtain ⟨nm, k, b, e0, e1, e2, _⟩ := openCol3 (c0 := c0) (c1 := c1) (c2 := c2) hf
    subst e0 e1 e2
    exact ⟨nm, k, b, rfl⟩

/-- A column's box and a value's. -/
def Cv (w : World) (q r : Nat) (c0 c1 c2 b0 b1 b2 b3 : Value) (wc : World) : Prop :=
  wc.cell? ⟨q, 0, none⟩ = some c0 ∧ wc.cell? ⟨q, 1, none⟩ = some c1 ∧ wc.cell? ⟨q, 2, none⟩ = some c2 ∧ wc.cell? ⟨r, 0, none⟩ = some b0 ∧ wc.cell? ⟨r, 1, none⟩ = some b1 ∧ wc.cell? ⟨r, 2, none⟩ = some b2 ∧ wc.cell? ⟨r, 3, none⟩ = some b3 ∧ Kp [] w wc
theorem keepC {w wc w1 : World} {q r : Nat} {c0 c1 c2 b0 b1 b2 b3 : Value} (h : Cv w q r c0 c1 c2 b0 b1 b2 b3 wc) (k : Kp [] wc w1) : Cv w q r c0 c1 c2 b0 b1 b2 b3 w1 :=
  ⟨kpAt k h.1, kpAt k h.2.1, kpAt k h.2.2.1, kpAt k h.2.2.2.1, kpAt k h.2.2.2.2.1, kpAt k h.2.2.2.2.2.1, kpAt k h.2.2.2.2.2.2.1, h.2.2.2.2.2.2.2.trans k (by simp)⟩

set_option maxHeartbeats 8000000 in
set_option maxRecDepth 100000 in
theorem makesWalk (nm : ByteArray) (ck : Int) (cn : Bool) (x : Val) (w : World) (ht : Pow w) : Calls Tryd.prog 3 #[.agg #[.string nm, .int .i64 ck, .bool cn], x.v] w fun e w' => e = .returned (.bool true) ∧ Below w.heap.size w w' := by
  have r1 := cRight x
  have r2 := cRefRight x
  have f1 := cFits nm ck cn x
  have f2 := cRefFits nm ck cn x
  generalize x.right = rr at *
  generalize fitsV ck cn x = ff at *
  obtain ⟨k, b, n, t⟩ := x
  unfold Val.v at *
  dsimp only at r1 r2 f1 f2
  have kW : Kp [] w ((w.alloc (.cells #[.string nm, .int .i64 ck, .bool cn] 23)).alloc (.cells #[.int .i64 k, .bool b, .int .i64 n, .string t] 25)) := ((Kp.refl _ _).alloc _).alloc _
  have bC := (Box3.new w (.string nm) (.int .i64 ck) (.bool cn) 23).kept (S := []) ((Kp.refl _ _).alloc (.cells #[.int .i64 k, .bool b, .int .i64 n, .string t] 25)) (by simp)
  have bA := Box4.at (w := w.alloc (.cells #[.string nm, .int .i64 ck, .bool cn] 23)) (w.heap.size + 1) (by simp) (.int .i64 k) (.bool b) (.int .i64 n) (.string t) 25
  go_enter Tryd.func3, Tryd.ntmps3
  go_wp2_with fail
  generalize ((w.alloc (.cells #[.string nm, .int .i64 ck, .bool cn] 23)).alloc (.cells #[.int .i64 k, .bool b, .int .i64 n, .string t] 25)) = W at *
  go_region_held3 (fun w' => w'.cell? ⟨w.heap.size, 0, none⟩ = some (.string nm) ∧ w'.cell? ⟨w.heap.size, 1, none⟩ = some (.int .i64 ck) ∧ w'.cell? ⟨w.heap.size, 2, none⟩ = some (.bool cn) ∧ w'.cell? ⟨w.heap.size + 1, 0, none⟩ = some (.int .i64 k) ∧ w'.cell? ⟨w.heap.size + 1, 1, none⟩ = some (.bool b) ∧ w'.cell? ⟨w.heap.size + 1, 2, none⟩ = some (.int .i64 n) ∧ w'.cell? ⟨w.heap.size + 1, 3, none⟩ = some (.string t) ∧ Kp [] w w')
    (first | exact ⟨bC.c0, bC.c1, bC.c2, bA.c0, bA.c1, bA.c2, bA.c3, kW.drew⟩ | exact keepC (by assumption) (by assumption))
    (first
      | (go_at_call 9; refine (cNull _).mono ?_; rintro e w1 ⟨rfl, k1⟩)
      | (go_at_call 10; refine (cBool _ _).mono ?_; rintro e w1 ⟨rfl, k1⟩)
      | (go_at_call 11; refine (cInt _ _).mono ?_; rintro e w1 ⟨rfl, k1⟩)
      | (go_at_call 12; refine (cText _ _).mono ?_; rintro e w1 ⟨rfl, k1⟩))
  go_wp2_with fail
  have hH : Cv w w.heap.size (w.heap.size + 1) (.string nm) (.int .i64 ck) (.bool cn) (.int .i64 k) (.bool b) (.int .i64 n) (.string t) w1 := by assumption
  clear bC bA kW
  go_region_held3 (fun w' => w'.cell? ⟨w.heap.size, 0, none⟩ = some (.string nm) ∧ w'.cell? ⟨w.heap.size, 1, none⟩ = some (.int .i64 ck) ∧ w'.cell? ⟨w.heap.size, 2, none⟩ = some (.bool cn) ∧ w'.cell? ⟨w.heap.size + 1, 0, none⟩ = some (.int .i64 k) ∧ w'.cell? ⟨w.heap.size + 1, 1, none⟩ = some (.bool b) ∧ w'.cell? ⟨w.heap.size + 1, 2, none⟩ = some (.int .i64 n) ∧ w'.cell? ⟨w.heap.size + 1, 3, none⟩ = some (.string t) ∧ Kp [] w w')
    (first | exact ⟨hH.1, hH.2.1, hH.2.2.1, hH.2.2.2.1, hH.2.2.2.2.1, hH.2.2.2.2.2.1, hH.2.2.2.2.2.2.1, hH.2.2.2.2.2.2.2.drew⟩ | exact keepC (by assumption) (by assumption))
    (first
      | (go_at_call 13; refine (cAlive _ (ht.kept hH.2.2.2.2.2.2.2.drew)).mono ?_; rintro e w2 ⟨rfl, k2⟩)
      | (go_at_call 14; refine (r1 _).mono ?_; rintro e w2 ⟨rfl, k2⟩)
      | (go_at_call 15; refine (r2 _).mono ?_; rintro e w2 ⟨rfl, k2⟩)
      | (go_at_call 16; refine (f1 _).mono ?_; rintro e w2 ⟨rfl, k2⟩)
      | (go_at_call 17; refine (f2 _).mono ?_; rintro e w2 ⟨rfl, k2⟩))
  go_wp2_with fail
  go_ret
  have hE : Cv w w.heap.size (w.heap.size + 1) (.string nm) (.int .i64 ck) (.bool cn) (.int .i64 k) (.bool b) (.int .i64 n) (.string t) w2 := by assumption
  exact ⟨rfl, hE.2.2.2.2.2.2.2.below⟩
end Go.Proofs.YtboibllahibicaaDoor

/- The laws on orders: every Compare, every order of rows is the reference's. -/
import Derived.Test.YtboibllahibicaaDoorVlay
namespace Go.Proofs.YtboibllahibicaaDoor
open Go.RowKit Go.Hay
set_option linter.unusedVariables false
set_option linter.unusedSimpArgs false

/-- Two values' boxes, and what may have turned. -/
def Two (w : World) (q r : Nat) (a b : Val) (w' : World) : Prop := Box4 w' q (.int .i64 a.k) (.bool a.b) (.int .i64 a.n) (.string a.t) ∧ Box4 w' r (.int .i64 b.k) (.bool b.b) (.int .i64 b.n) (.string b.t) ∧ Kp [] w w'
theorem keep2 {w wc w1 : World} {q r : Nat} {a0 a1 a2 a3 b0 b1 b2 b3 : Value}
    (h : wc.cell? ⟨q, 0, none⟩ = some a0 ∧ wc.cell? ⟨q, 1, none⟩ = some a1 ∧ wc.cell? ⟨q, 2, none⟩ = some a2 ∧ wc.cell? ⟨q, 3, none⟩ = some a3 ∧ wc.cell? ⟨r, 0, none⟩ = some b0 ∧ wc.cell? ⟨r, 1, none⟩ = some b1 ∧ wc.cell? ⟨r, 2, none⟩ = some b2 ∧ wc.cell? ⟨r, 3, none⟩ = some b3 ∧ Kp [] w wc) (k : Kp [] wc w1) :
    w1.cell? ⟨q, 0, none⟩ = some a0 ∧ w1.cell? ⟨q, 1, none⟩ = some a1 ∧ w1.cell? ⟨q, 2, none⟩ = some a2 ∧ w1.cell? ⟨q, 3, none⟩ = some a3 ∧ w1.cell? ⟨r, 0, none⟩ = some b0 ∧ w1.cell? ⟨r, 1, none⟩ = some b1 ∧ w1.cell? ⟨r, 2, none⟩ = some b2 ∧ w1.cell? ⟨r, 3, none⟩ = some b3 ∧ Kp [] w w1 :=
  ⟨kpAt k h.1, kpAt k h.2.1, kpAt k h.2.2.1, kpAt k h.2.2.2.1, kpAt k h.2.2.2.2.1, kpAt k h.2.2.2.2.2.1, kpAt k h.2.2.2.2.2.2.1, kpAt k h.2.2.2.2.2.2.2.1, h.2.2.2.2.2.2.2.2.trans k (by simp)⟩

theorem kpOf2 {w wc : World} {q r : Nat} {a0 a1 a2 a3 b0 b1 b2 b3 : Value}
    (h : wc.cell? ⟨q, 0, none⟩ = some a0 ∧ wc.cell? ⟨q, 1, none⟩ = some a1 ∧ wc.cell? ⟨q, 2, none⟩ = some a2 ∧ wc.cell? ⟨q, 3, none⟩ = some a3 ∧ wc.cell? ⟨r, 0, none⟩ = some b0 ∧ wc.cell? ⟨r, 1, none⟩ = some b1 ∧ wc.cell? ⟨r, 2, none⟩ = some b2 ∧ wc.cell? ⟨r, 3, none⟩ = some b3 ∧ Kp [] w wc) : Kp [] w wc := h.2.2.2.2.2.2.2.2

set_option maxHeartbeats 4000000 in
set_option maxRecDepth 100000 in
theorem comparesWalk (a b : Val) (w : World) (ht : Pow w) : Calls Tryd.prog 4 #[a.v, b.v] w fun e w' => e = .returned (.bool true) ∧ Below w.heap.size w w' := by
  obtain ⟨c, Hc⟩ : ∃ c : Int, Hid (cmpV a b = c) := ⟨_, rfl⟩
  have h1 := cCompare a b
  have h2 := cRefCompare a b
  rw [Hc.out] at h1 h2
  obtain ⟨ak, ab, an, at'⟩ := a
  obtain ⟨bk, bb, bn, bt⟩ := b
  unfold Val.v at *
  dsimp only at h1 h2
  have kW : Kp [] w ((w.alloc (.cells #[.int .i64 ak, .bool ab, .int .i64 an, .string at'] 25)).alloc (.cells #[.int .i64 bk, .bool bb, .int .i64 bn, .string bt] 25)) := ((Kp.refl _ _).alloc _).alloc _
  have bA := (Box4.new w (.int .i64 ak) (.bool ab) (.int .i64 an) (.string at') 25).kept (S := []) ((Kp.refl _ _).alloc (.cells #[.int .i64 bk, .bool bb, .int .i64 bn, .string bt] 25)) (by simp)
  have bB := Box4.at (w := w.alloc (.cells #[.int .i64 ak, .bool ab, .int .i64 an, .string at'] 25)) (w.heap.size + 1) (by simp) (.int .i64 bk) (.bool bb) (.int .i64 bn) (.string bt) 25
  go_enter Tryd.func4, Tryd.ntmps4
  go_wp2_with fail
  generalize ((w.alloc (.cells #[.int .i64 ak, .bool ab, .int .i64 an, .string at'] 25)).alloc (.cells #[.int .i64 bk, .bool bb, .int .i64 bn, .string bt] 25)) = W at *
  go_region_held3 (fun w' => w'.cell? ⟨w.heap.size, 0, none⟩ = some (.int .i64 ak) ∧ w'.cell? ⟨w.heap.size, 1, none⟩ = some (.bool ab) ∧ w'.cell? ⟨w.heap.size, 2, none⟩ = some (.int .i64 an) ∧ w'.cell? ⟨w.heap.size, 3, none⟩ = some (.string at') ∧ w'.cell? ⟨w.heap.size + 1, 0, none⟩ = some (.int .i64 bk) ∧ w'.cell? ⟨w.heap.size + 1, 1, none⟩ = some (.bool bb) ∧ w'.cell? ⟨w.heap.size + 1, 2, none⟩ = some (.int .i64 bn) ∧ w'.cell? ⟨w.heap.size + 1, 3, none⟩ = some (.string bt) ∧ Kp [] w w')
    (first | exact ⟨bA.c0, bA.c1, bA.c2, bA.c3, bB.c0, bB.c1, bB.c2, bB.c3, kW.drew⟩ | exact keep2 (by assumption) (by assumption))
    (first
      | (go_at_call 13; refine (cAlive _ (ht.kept kW.drew)).mono ?_; rintro e w1 ⟨rfl, k1⟩)
      | (go_at_call 18; refine (h1 _).mono ?_; rintro e w1 ⟨rfl, k1⟩)
      | (go_at_call 19; refine (h2 _).mono ?_; rintro e w1 ⟨rfl, k1⟩))
  go_wp2_with fail
  go_ret
  exact ⟨rfl, (kpOf2 (by assumption)).below⟩

set_option maxHeartbeats 4000000 in
set_option maxRecDepth 100000 in
theorem rowsWalk (a b : Option Addr) (na nb ca cb : Nat) (la lb : List Val) (w : World) (ha : Vals w a la) (hb : Vals w b lb) (hna : na = la.length) (hnb : nb = lb.length) (hca : la.length ≤ ca) (hcb : lb.length ≤ cb) (hma : ca ≤ maxLen) (hmb : cb ≤ maxLen) (ht : Pow w) :
    Calls Tryd.prog 5 #[.slice a na ca, .slice b nb cb] w fun e w' => e = .returned (.bool true) ∧ Below w.heap.size w w' := by
  subst hna hnb
  unfold maxLen at hma hmb
  have h1 := fun w' (k : Kp [] w w') => cRows a b ca cb la lb w' (ha.kept k) (hb.kept k) (by omega) (by omega)
  have h2 := fun w' (k : Kp [] w w') => cRefRows a b ca cb la lb w' (ha.kept k) (hb.kept k) (by omega) (by omega)
  generalize rowsV la lb = r at *
  go_enter Tryd.func5, Tryd.ntmps5
  go_wp2_with fail
  refine (cAlive _ ht).mono ?_
  rintro e w1 ⟨rfl, k1⟩
  go_wp2_with fail
  refine (h1 _ k1).mono ?_
  rintro e w2 ⟨rfl, j2⟩
  have k2 := k1.trans j2 (by simp)
  go_wp2_with fail
  refine (h2 _ k2).mono ?_
  rintro e w3 ⟨rfl, j3⟩
  have k3 := k2.trans j3 (by simp)
  go_wp2_with fail
  go_ret
  exact ⟨rfl, k3.below⟩
end Go.Proofs.YtboibllahibicaaDoor

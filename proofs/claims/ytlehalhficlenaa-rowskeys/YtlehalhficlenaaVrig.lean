/- Which values are right, which fit a column: the program's and the reference's. -/
import Derived.Test.YtlehalhficlenaaVdef
import Derived.Deep.RegionHeld3
import Derived.Deep.RegionWith
import Derived.BigGuard
namespace Go.Proofs.Ytlehalhficlenaa
open Go.RowKit Go.Hay
set_option linter.unusedVariables false
set_option linter.unusedSimpArgs false

/-- Are two values the same? -/
def Val.eqv (x y : Val) : Bool := x.k == y.k && (x.b == y.b && (x.n == y.n && x.t.toList == y.t.toList))
/-- Which values are right. -/
def Val.right (x : Val) : Bool :=
  if x.k = 0 then x.b == false && (x.n == 0 && x.t.toList == [])
  else if x.k = 1 then x.n == 0 && x.t.toList == []
  else if x.k = 2 then x.b == false && x.t.toList == []
  else if x.k = 3 then (x.b == false && x.n == 0) && decide ((x.t.size : Int) ≤ 64)
  else false
theorem emptyL : (⟨#[]⟩ : ByteArray).toList = [] := by rw [ByteArray.toList]; unfold ByteArray.toList.loop; rfl
theorem eqV (x y : Val) : ∃ X : Bool, Hid (X = x.eqv y) ∧ ∀ w : World, (binOp .eql 35 (.agg #[.int .i64 x.k, .bool x.b, .int .i64 x.n, .string x.t]) (.agg #[.int .i64 y.k, .bool y.b, .int .i64 y.n, .string y.t])).run Try.prog w = .ok (.bool X) w := by
  refine ⟨_, rfl, fun w => ?_⟩
  rw [run_eql_struct, run_equalIn_agg (ht := by kernel_rfl) (hp := by kernel_rfl)]
  obtain ⟨k1, b1, n1, t1⟩ := x
  obtain ⟨k2, b2, n2, t2⟩ := y
  simp only [Val.eqv]
  by_cases h1 : k1 = k2
  · by_cases h2 : b1 = b2
    · by_cases h3 : n1 = n2
      · by_cases h4 : t1.toList = t2.toList
        · simp [go_sem, h1, h2, h3, h4]
        · simp [go_sem, h1, h2, h3, h4]
      · simp [go_sem, h1, h2, h3]
    · simp [go_sem, h1, h2]
  · simp [go_sem, h1]

set_option maxHeartbeats 2000000 in
set_option maxRecDepth 100000 in
theorem cRight (x : Val) (w : World) : Calls Try.prog 25 #[x.v] w fun e w' => e = .returned (.bool x.right) ∧ Kp [] w w' := by
  obtain ⟨k, b, n, t⟩ := x
  unfold Val.v
  have kw : Kp [] w (w.alloc (.cells #[.int .i64 k, .bool b, .int .i64 n, .string t] 35)) := (Kp.refl _ _).alloc _
  have bA := Box4.new w (.int .i64 k) (.bool b) (.int .i64 n) (.string t) 35
  by_cases h0 : k = 0
  · subst h0
    obtain ⟨X, HX, hX⟩ := eqV ⟨0, b, n, t⟩ ⟨0, false, 0, ⟨#[]⟩⟩
    have q0 := bA.c0; have q1 := bA.c1; have q2 := bA.c2; have q3 := bA.c3
    go_enter Try.func25, Try.ntmps25
    go_wp2_with fail
    go_region_held3 (fun w' => w'.cell? ⟨w.heap.size, 0, none⟩ = some (.int .i64 0) ∧ w'.cell? ⟨w.heap.size, 1, none⟩ = some (.bool b) ∧ w'.cell? ⟨w.heap.size, 2, none⟩ = some (.int .i64 n) ∧ w'.cell? ⟨w.heap.size, 3, none⟩ = some (.string t)) (first | go_keep) (first | (go_at_call 33; refine (cNull _).mono ?_; rintro e w1 ⟨rfl, k1⟩; have bA1 := bA.drew.kept k1 (by simp); have y0 := bA1.c0; have y1 := bA1.c1; have y2 := bA1.c2; have y3 := bA1.c3))
    go_wp2_with fail
    go_ret
    have hr : Val.right ⟨0, b, n, t⟩ = X := by rw [HX.out]; simp [Val.right, Val.eqv, emptyL]
    exact ⟨by rw [hr]; rfl, kw.drew.trans k1 (by simp)⟩
  by_cases h1 : k = 1
  · subst h1
    obtain ⟨X, HX, hX⟩ := eqV ⟨1, b, n, t⟩ ⟨1, b, 0, ⟨#[]⟩⟩
    have q0 := bA.c0; have q1 := bA.c1; have q2 := bA.c2; have q3 := bA.c3
    go_enter Try.func25, Try.ntmps25
    go_wp2_with fail
    go_region_held3 (fun w' => w'.cell? ⟨w.heap.size, 0, none⟩ = some (.int .i64 1) ∧ w'.cell? ⟨w.heap.size, 1, none⟩ = some (.bool b) ∧ w'.cell? ⟨w.heap.size, 2, none⟩ = some (.int .i64 n) ∧ w'.cell? ⟨w.heap.size, 3, none⟩ = some (.string t)) (first | go_keep) (first | (go_at_call 34; refine (cBool b _).mono ?_; rintro e w1 ⟨rfl, k1⟩; have bA1 := bA.drew.kept k1 (by simp); have y0 := bA1.c0; have y1 := bA1.c1; have y2 := bA1.c2; have y3 := bA1.c3))
    go_wp2_with fail
    go_ret
    have hr : Val.right ⟨1, b, n, t⟩ = X := by rw [HX.out]; simp [Val.right, Val.eqv, emptyL]
    exact ⟨by rw [hr]; rfl, kw.drew.trans k1 (by simp)⟩
  by_cases h2 : k = 2
  · subst h2
    obtain ⟨X, HX, hX⟩ := eqV ⟨2, b, n, t⟩ ⟨2, false, n, ⟨#[]⟩⟩
    have q0 := bA.c0; have q1 := bA.c1; have q2 := bA.c2; have q3 := bA.c3
    go_enter Try.func25, Try.ntmps25
    go_wp2_with fail
    go_region_held3 (fun w' => w'.cell? ⟨w.heap.size, 0, none⟩ = some (.int .i64 2) ∧ w'.cell? ⟨w.heap.size, 1, none⟩ = some (.bool b) ∧ w'.cell? ⟨w.heap.size, 2, none⟩ = some (.int .i64 n) ∧ w'.cell? ⟨w.heap.size, 3, none⟩ = some (.string t)) (first | go_keep) (first | (go_at_call 35; refine (cInt n _).mono ?_; rintro e w1 ⟨rfl, k1⟩; have bA1 := bA.drew.kept k1 (by simp); have y0 := bA1.c0; have y1 := bA1.c1; have y2 := bA1.c2; have y3 := bA1.c3))
    go_wp2_with fail
    go_ret
    have hr : Val.right ⟨2, b, n, t⟩ = X := by rw [HX.out]; simp [Val.right, Val.eqv, emptyL]
    exact ⟨by rw [hr]; rfl, kw.drew.trans k1 (by simp)⟩
  by_cases h3 : k = 3
  · subst h3
    obtain ⟨X, HX, hX⟩ := eqV ⟨3, b, n, t⟩ ⟨3, false, 0, t⟩
    have q0 := bA.c0; have q1 := bA.c1; have q2 := bA.c2; have q3 := bA.c3
    cases X
    · go_enter Try.func25, Try.ntmps25
      go_wp2_with fail
      first
        | go_region_with (first | (go_at_call 29; refine (cText t _).mono ?_; rintro e w1 ⟨rfl, k1⟩; have bA1 := bA.drew.kept k1 (by simp); have y0 := bA1.c0; have y1 := bA1.c1; have y2 := bA1.c2; have y3 := bA1.c3))
        | fail
      all_goals go_wp2_with fail
      all_goals go_ret
      all_goals have hr : Val.right ⟨3, b, n, t⟩ = false := by have := HX.out; simp [Val.eqv] at this; simp [Val.right]; intro h1 h2; exact absurd h2 (this h1)
      all_goals exact ⟨by rw [hr]; rfl, kw.drew.trans k1 (by simp)⟩
    · go_enter Try.func25, Try.ntmps25
      go_wp2_with fail
      go_region_held3 (fun w' => w'.cell? ⟨w.heap.size, 0, none⟩ = some (.int .i64 3) ∧ w'.cell? ⟨w.heap.size, 1, none⟩ = some (.bool b) ∧ w'.cell? ⟨w.heap.size, 2, none⟩ = some (.int .i64 n) ∧ w'.cell? ⟨w.heap.size, 3, none⟩ = some (.string t)) (first | go_keep) (first | (go_at_call 29; refine (cText t _).mono ?_; rintro e w1 ⟨rfl, k1⟩; have bA1 := bA.drew.kept k1 (by simp); have y0 := bA1.c0; have y1 := bA1.c1; have y2 := bA1.c2; have y3 := bA1.c3))
      go_wp2_with fail
      go_ret
      have hr : Val.right ⟨3, b, n, t⟩ = decide ((t.size : Int) ≤ 64) := by have := HX.out; simp [Val.eqv] at this; simp [Val.right, this]
      exact ⟨by rw [hr]; rfl, kw.drew.trans k1 (by simp)⟩
  · have d0 : (k == 0) = false := by simpa using h0
    have d1 : (k == 1) = false := by simpa using h1
    have d2 : (k == 2) = false := by simpa using h2
    have d3 : (k == 3) = false := by simpa using h3
    have hr : Val.right ⟨k, b, n, t⟩ = false := by simp [Val.right, h0, h1, h2, h3]
    have HR := hid hr
    clear hr h0 h1 h2 h3
    go_enter Try.func25, Try.ntmps25
    go_wp2_with fail
    go_ret
    exact ⟨by rw [HR.out]; rfl, kw⟩
end Go.Proofs.Ytlehalhficlenaa

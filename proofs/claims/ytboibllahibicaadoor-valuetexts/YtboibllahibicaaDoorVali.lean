/- Whether there is a program at all: the few answers that the document fixes; and how an int is printed. -/
import Derived.Test.YtboibllahibicaaDoorVcmp
import Derived.Test.YtboibllahibicaaDoorVrig
import Derived.Test.YtboibllahibicaaDoorShi
import Derived.Sort.Grow
import Derived.Lib.ItoaMem
namespace Go.Proofs.YtboibllahibicaaDoor
open Go.RowKit Go.Hay
set_option linter.unusedVariables false
set_option linter.unusedSimpArgs false

/-- The table of powers of ten is there. -/
def Pow (w : World) : Prop := Lib.TabIs Tryd.prog w "internal/strconv.uint64pow10" .u64 Lib.pow10Tab
theorem Pow.kept {w w' : World} (h : Pow w) (hk : Kp [] w w') : Pow w' := by
  unfold Pow Lib.TabIs World.var? at *
  cases hg : Tryd.prog.globalNamed "internal/strconv.uint64pow10" with
  | none => simp [hg] at h
  | some g =>
    simp only [hg, Option.bind_some] at h ⊢
    have hlt : g < w.heap.size := by
      rcases Nat.lt_or_ge g w.heap.size with h' | h'
      · exact h'
      · rw [Array.getElem?_eq_none h'] at h; simp at h
    rw [hk.block g hlt (by simp)]
    exact h
theorem kpGrow {a w : World} (h : Kp [] a w) (os : Array Obj) : Kp [] a (Go.Sort.grow w os) :=
  ⟨h.os, h.tape, h.output, by rw [Go.Sort.size_grow]; have := h.size; omega, fun k hk hS => by rw [Go.Sort.heap_grow_old w os (by have := h.size; omega)]; exact h.block k hk hS⟩

theorem cFormat (n : Int) (h0 : -9223372036854775808 ≤ n) (h1 : n ≤ 9223372036854775807) (w : World) (ht : Pow w) :
    Calls Tryd.prog 43 #[.int .i64 n, .int .i64 10] w fun e w' => e = .returned (.string ⟨(Lib.itoa n).toArray⟩) ∧ Kp [] w w' :=
  (Tryd.strconv_FormatInt_10 n h0 h1 w ht).mono fun e w' ⟨he, k, os, hw⟩ => ⟨he, by subst hw; exact kpGrow ((Kp.refl _ _).drewN k) os⟩

set_option maxHeartbeats 2000000 in
set_option maxRecDepth 100000 in
theorem cPrintInt (n : Int) (h0 : -9223372036854775808 ≤ n) (h1 : n ≤ 9223372036854775807) (w : World) (ht : Pow w) :
    Calls Tryd.prog 28 #[.agg #[.int .i64 2, .bool false, .int .i64 n, .string ⟨#[]⟩]] w fun e w' => e = .returned (.string ⟨(Lib.itoa n).toArray⟩) ∧ Kp [] w w' := by
  have hR := cRight ⟨2, false, n, ⟨#[]⟩⟩
  rw [show Val.right ⟨2, false, n, ⟨#[]⟩⟩ = true by simp [Val.right, emptyL]] at hR
  unfold Val.v at hR
  dsimp only at hR
  have kw : Kp [] w (w.alloc (.cells #[.int .i64 2, .bool false, .int .i64 n, .string ⟨#[]⟩] 25)) := (Kp.refl _ _).alloc _
  have bA := Box4.new w (.int .i64 2) (.bool false) (.int .i64 n) (.string ⟨#[]⟩) 25
  go_enter Tryd.func28, Tryd.ntmps28
  go_wp2_with fail
  refine (hR _).mono ?_
  rintro e w1 ⟨rfl, k1⟩
  have bA1 := bA.kept k1 (by simp)
  have kw1 := kw.trans k1 (by simp)
  have q0 := bA1.c0; have q1 := bA1.c1; have q2 := bA1.c2; have q3 := bA1.c3
  clear bA kw k1 hR
  go_wp2_with fail
  refine (cFormat n h0 h1 _ (ht.kept kw1)).mono ?_
  rintro e w2 ⟨rfl, k2⟩
  go_wp2_with fail
  go_ret
  exact ⟨rfl, kw1.trans k2 (by simp)⟩

set_option maxHeartbeats 4000000 in
set_option maxRecDepth 100000 in
theorem cAlive (w : World) (ht : Pow w) : Calls Tryd.prog 13 #[] w fun e w' => e = .returned (.bool true) ∧ Kp [] w w' := by
  have hR := cRight ⟨3, false, 0, ⟨#[97]⟩⟩
  rw [show Val.right ⟨3, false, 0, ⟨#[97]⟩⟩ = true by simp [Val.right]; decide] at hR
  unfold Val.v at hR
  dsimp only at hR
  have hC := cCompare ⟨0, false, 0, ⟨#[]⟩⟩ ⟨1, false, 0, ⟨#[]⟩⟩
  rw [show cmpV ⟨0, false, 0, ⟨#[]⟩⟩ ⟨1, false, 0, ⟨#[]⟩⟩ = -1 by simp [cmpV, Val.lt]] at hC
  unfold Val.v at hC
  dsimp only at hC
  have hP := cPrintInt (-5) (by omega) (by omega)
  rw [show Lib.itoa (-5) = [45, 53] by simp [Lib.itoa, Lib.decDigits]] at hP
  go_enter Tryd.func13, Tryd.ntmps13
  go_wp2_with fail
  refine (cInt _ _).mono ?_
  rintro e w0 ⟨rfl, j0⟩
  have k0 := j0
  clear j0
  go_wp2_with fail
  refine (cText _ _).mono ?_
  rintro e w1 ⟨rfl, j1⟩
  have k1 := k0.trans j1 (by simp)
  clear j1
  clear k0
  go_wp2_with fail
  refine (hR _).mono ?_
  rintro e w2 ⟨rfl, j2⟩
  have k2 := k1.trans j2 (by simp)
  clear j2
  clear k1
  go_wp2_with fail
  refine (cNull _).mono ?_
  rintro e w3 ⟨rfl, j3⟩
  have k3 := k2.trans j3 (by simp)
  clear j3
  clear k2
  go_wp2_with fail
  refine (cBool _ _).mono ?_
  rintro e w4 ⟨rfl, j4⟩
  have k4 := k3.trans j4 (by simp)
  clear j4
  clear k3
  go_wp2_with fail
  refine (hC _).mono ?_
  rintro e w5 ⟨rfl, j5⟩
  have k5 := k4.trans j5 (by simp)
  clear j5
  clear k4
  go_wp2_with fail
  refine (cInt _ _).mono ?_
  rintro e w6 ⟨rfl, j6⟩
  have k6 := k5.trans j6 (by simp)
  clear j6
  clear k5
  go_wp2_with fail
  refine (hP _ (ht.kept k6)).mono ?_
  rintro e w7 ⟨rfl, j7⟩
  have k7 := k6.trans j7 (by simp)
  clear j7
  clear k6
  go_wp2_with fail
  go_ret
  exact ⟨rfl, k7⟩
end Go.Proofs.YtboibllahibicaaDoor

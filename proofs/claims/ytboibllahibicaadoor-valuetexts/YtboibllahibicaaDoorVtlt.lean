/- The law: every value's text, every text's value. -/
import Derived.Test.YtboibllahibicaaDoorVrpa
import Derived.Test.YtboibllahibicaaDoorVlye
namespace Go.Proofs.YtboibllahibicaaDoor
open Go.RowKit Go.Hay
set_option linter.unusedVariables false
set_option linter.unusedSimpArgs false

theorem eqv_same (x : Val) : x.eqv x = true := by unfold Val.eqv; simp
theorem parse_one {l : List UInt8} {e e' : Ending} (h : ParsePost l e) (h' : ParsePost l e') : e' = e := by
  rcases h with ⟨x, hx, hx6, hp, he⟩ | ⟨hno, he⟩
  · rcases h' with ⟨y, hy, hy6, hp', he'⟩ | ⟨hno', he'⟩
    · have := print_inj hx hy hx6 hy6 (hp.trans hp'.symm)
      subst this
      exact he'.trans he.symm
    · exact absurd hp (hno' x hx hx6)
  · rcases h' with ⟨y, hy, hy6, hp', he'⟩ | ⟨hno', he'⟩
    · exact absurd hp' (hno y hy hy6)
    · exact he'.trans he.symm
theorem parse_form {l : List UInt8} {e : Ending} (h : ParsePost l e) : ∃ (x : Val) (c : Int), e = .returned (.tuple #[.agg #[.int .i64 x.k, .bool x.b, .int .i64 x.n, .string x.t], .int .i64 c]) := by
  rcases h with ⟨x, _, _, _, he⟩ | ⟨_, he⟩
  · exact ⟨x, 0, he⟩
  · exact ⟨⟨0, false, 0, ⟨#[]⟩⟩, 21, he⟩

set_option maxHeartbeats 8000000 in
set_option maxRecDepth 100000 in
theorem textsWalk (v : Val) (s : ByteArray) (w : World) (hv : v.in64) (hs : s.size ≤ 140737488351232) (ht : Pow w) (he : Errs w) :
    Calls Tryd.prog 8 #[v.v, .string s] w fun e w' => e = .returned (.bool true) ∧ Below w.heap.size w w' := by
  have hPv := fun w' (k : Kp [] w w') => cPrint v hv.1 hv.2 w' (ht.kept k)
  have hRv := cRefPrint v hv.1 hv.2
  have hS := fun w' (k : Kp [] w w') => cParse s w' (he.kept k) (ht.kept k) (by omega)
  have hT := fun w' => cRefParse s w' (by omega)
  generalize printB v = pv at *
  generalize s.data.toList = l at *
  obtain ⟨vk, vb, vn, vt⟩ := v
  unfold Val.v at *
  dsimp only at hPv hRv
  have bV := Box4.new w (.int .i64 vk) (.bool vb) (.int .i64 vn) (.string vt) 25
  have kW : Kp [] w (w.alloc (.cells #[.int .i64 vk, .bool vb, .int .i64 vn, .string vt] 25)) := (Kp.refl _ _).alloc _
  go_enter Tryd.func8, Tryd.ntmps8
  go_wp2_with fail
  refine (hS _ kW).mono ?_
  rintro e w1 ⟨hp1, j1⟩
  obtain ⟨x, c, rfl⟩ := parse_form hp1
  have k1 := kW.trans j1 (by simp)
  have b1 := bV.kept j1 (by simp)
  clear j1 kW bV hS
  obtain ⟨X, HX, hX⟩ := eqV x x
  rw [eqv_same] at HX
  have hXt := HX.out
  subst hXt
  clear HX
  obtain ⟨xk, xb, xn, xt⟩ := x
  dsimp only at hX hp1 ⊢
  have bX := Box4.new w1 (.int .i64 xk) (.bool xb) (.int .i64 xn) (.string xt) 25
  have kX : Kp [] w1 (w1.alloc (.cells #[.int .i64 xk, .bool xb, .int .i64 xn, .string xt] 25)) := (Kp.refl _ _).alloc _
  have b2 := b1.kept kX (by simp)
  have k2 := k1.trans kX (by simp)
  go_wp2_with fail
  refine (hT _).mono ?_
  rintro e w3 ⟨hp2, j3⟩
  obtain rfl := parse_one hp1 hp2
  have b3 := b2.kept j3 (by simp)
  have k3 := k2.trans j3 (by simp)
  have bX3 := bX.kept j3 (by simp)
  clear j3 bX kX b2 k2 k1 b1 hp1 hp2 hT
  have bY := Box4.new w3 (.int .i64 xk) (.bool xb) (.int .i64 xn) (.string xt) 25
  have kY : Kp [] w3 (w3.alloc (.cells #[.int .i64 xk, .bool xb, .int .i64 xn, .string xt] 25)) := (Kp.refl _ _).alloc _
  have b4 := b3.kept kY (by simp)
  have k4 := k3.trans kY (by simp)
  have bX4 := bX3.kept kY (by simp)
  go_wp2_with fail
  have bY4 := bY
  have k4d := k4.drew
  clear bY
  replace b4 := b4.drew
  replace bX4 := bX4.drew
  replace bY4 := bY4.drew
  replace k4 := k4.drew
  have hA := fun w' (k : Kp [] w w') => cAlive w' (ht.kept k)
  go_region_held3 (fun w' => w'.cell? ⟨w.heap.size, 0, none⟩ = some (.int .i64 vk) ∧ w'.cell? ⟨w.heap.size, 1, none⟩ = some (.bool vb) ∧ w'.cell? ⟨w.heap.size, 2, none⟩ = some (.int .i64 vn) ∧ w'.cell? ⟨w.heap.size, 3, none⟩ = some (.string vt) ∧ w'.cell? ⟨w1.heap.size, 0, none⟩ = some (.int .i64 xk) ∧ w'.cell? ⟨w1.heap.size, 1, none⟩ = some (.bool xb) ∧ w'.cell? ⟨w1.heap.size, 2, none⟩ = some (.int .i64 xn) ∧ w'.cell? ⟨w1.heap.size, 3, none⟩ = some (.string xt) ∧ w'.cell? ⟨w3.heap.size, 0, none⟩ = some (.int .i64 xk) ∧ w'.cell? ⟨w3.heap.size, 1, none⟩ = some (.bool xb) ∧ w'.cell? ⟨w3.heap.size, 2, none⟩ = some (.int .i64 xn) ∧ w'.cell? ⟨w3.heap.size, 3, none⟩ = some (.string xt)) (first | exact ⟨b7.c0, b7.c1, b7.c2, b7.c3, bX7.c0, bX7.c1, bX7.c2, bX7.c3, bY7.c0, bY7.c1, bY7.c2, bY7.c3⟩ | exact ⟨b6.c0, b6.c1, b6.c2, b6.c3, bX6.c0, bX6.c1, bX6.c2, bX6.c3, bY6.c0, bY6.c1, bY6.c2, bY6.c3⟩ | exact ⟨b5.c0, b5.c1, b5.c2, b5.c3, bX5.c0, bX5.c1, bX5.c2, bX5.c3, bY5.c0, bY5.c1, bY5.c2, bY5.c3⟩ | exact ⟨b4.c0, b4.c1, b4.c2, b4.c3, bX4.c0, bX4.c1, bX4.c2, bX4.c3, bY4.c0, bY4.c1, bY4.c2, bY4.c3⟩)
    (first
      | (go_at_call 13; with_reducible refine (hA _ k4).mono ?_; rintro e w5 ⟨rfl, j5⟩; have k5 := k4.trans j5 (by simp); have b5 := b4.kept j5 (by simp); have bX5 := bX4.kept j5 (by simp); have bY5 := bY4.kept j5 (by simp))
      | (go_at_call 28; with_reducible refine (hPv _ k5).mono ?_; rintro e w6 ⟨rfl, j6⟩; have k6 := k5.trans j6 (by simp); have b6 := b5.kept j6 (by simp); have bX6 := bX5.kept j6 (by simp); have bY6 := bY5.kept j6 (by simp))
      | (go_at_call 29; with_reducible refine (hRv _).mono ?_; rintro e w7 ⟨rfl, j7⟩; have k7 := k6.trans j7 (by simp); have b7 := b6.kept j7 (by simp); have bX7 := bX6.kept j7 (by simp); have bY7 := bY6.kept j7 (by simp)))
  all_goals (clear hA hPv hRv)
  all_goals (go_wp2_with fail)
  all_goals go_ret
  all_goals (exact ⟨rfl, k7.below⟩)
end Go.Proofs.YtboibllahibicaaDoor

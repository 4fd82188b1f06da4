/- The law: values and texts, back and forth. -/
import Derived.Test.YtboibllahibicabDoorVinj
import Derived.Test.YtboibllahibicabDoorVsam
import Derived.Test.YtboibllahibicabDoorVlye
namespace Go.Proofs.YtboibllahibicabDoor
open Go.RowKit Go.Hay
set_option linter.unusedVariables false
set_option linter.unusedSimpArgs false

set_option maxHeartbeats 8000000 in
set_option maxRecDepth 100000 in
theorem backWalk (v : Val) (s : ByteArray) (w : World) (hv : v.in64) (hs : s.size ≤ 140737488351232) (ht : Pow w) (he : Errs w) :
    Calls Tryd.prog 3 #[v.v, .string s] w fun e w' => e = .returned (.bool true) ∧ Below w.heap.size w w' := by
  have hPv := fun w' (k : Kp [] w w') => cPrint v hv.1 hv.2 w' (ht.kept k)
  have hpl := print_len v hv
  have hpb := parse_back v hv
  have hQ := fun w' (k : Kp [] w w') => cParse ⟨(printB v).toArray⟩ w' (he.kept k) (ht.kept k) (by rw [Lib.size_eq]; show (printB v).toArray.toList.length ≤ _; simp; omega)
  have hS := fun w' (k : Kp [] w w') => cParse s w' (he.kept k) (ht.kept k) (by omega)
  have hR := cRight v
  obtain ⟨X, HX, hX⟩ := neV v v
  rw [eqv_self] at HX
  have hXt := HX.out
  subst hXt
  have htl : (⟨(printB v).toArray⟩ : ByteArray).data.toList = printB v := by simp
  rw [htl] at hQ
  generalize printB v = pv at *
  clear htl HX hpl
  obtain ⟨r, Hr⟩ : ∃ r : Bool, Hid (v.right = r) := ⟨_, rfl⟩
  rw [Hr.out] at hR hpb
  clear Hr
  obtain ⟨vk, vb, vn, vt⟩ := v
  unfold Val.v at *
  dsimp only at hPv hR hX hpb
  have bV := Box4.new w (.int .i64 vk) (.bool vb) (.int .i64 vn) (.string vt) 23
  have kW : Kp [] w (w.alloc (.cells #[.int .i64 vk, .bool vb, .int .i64 vn, .string vt] 23)) := (Kp.refl _ _).alloc _
  go_enter Tryd.func3, Tryd.ntmps3
  go_wp2_with fail
  refine (hPv _ kW).mono ?_
  rintro e w1 ⟨rfl, j1⟩
  have k1 := kW.trans j1 (by simp)
  have b1 := bV.kept j1 (by simp)
  clear j1 kW bV
  go_wp2_with fail
  refine (hQ _ k1).mono ?_
  rintro e w2 ⟨hpp, j2⟩
  have k2 := k1.trans j2 (by simp)
  have b2 := b1.kept j2 (by simp)
  have hcase := hpb e hpp
  clear j2 k1 b1 hpb hpp hQ hPv
  rcases hcase with ⟨rfl, rfl⟩ | ⟨rfl, rfl⟩
  · have bX := Box4.new w2 (.int .i64 vk) (.bool vb) (.int .i64 vn) (.string vt) 23
    have kX : Kp [] w2 (w2.alloc (.cells #[.int .i64 vk, .bool vb, .int .i64 vn, .string vt] 23)) := (Kp.refl _ _).alloc _
    have b3 := b2.kept kX (by simp)
    have k3 := k2.trans kX (by simp)
    go_wp2_with fail
    refine (cAlive _ (ht.kept k3)).mono ?_
    rintro e w4 ⟨rfl, j4⟩
    have k4 := k3.trans j4 (by simp)
    have b4 := b3.kept j4 (by simp)
    have bX4 := bX.kept j4 (by simp)
    have q0 := b4.c0; have q1 := b4.c1; have q2 := b4.c2; have q3 := b4.c3
    clear j4 k3 b3 bX kX k2 b2
    go_wp2_with fail
    refine (hR _).mono ?_
    rintro e w5 ⟨rfl, j5⟩
    have k5 := k4.trans j5 (by simp)
    have b5 := b4.kept j5 (by simp)
    have bX5 := bX4.kept j5 (by simp)
    clear q0 q1 q2 q3 j5 k4 b4 bX4
    have q0 := b5.c0; have q1 := b5.c1; have q2 := b5.c2; have q3 := b5.c3
    have y0 := bX5.c0; have y1 := bX5.c1; have y2 := bX5.c2; have y3 := bX5.c3
    go_wp2_with fail
    refine (hS _ k5).mono ?_
    rintro e w6 ⟨hpp, j6⟩
    have k6 := k5.trans j6 (by simp)
    clear j6
    rcases hpp with ⟨x, hx, hx6, hpx, rfl⟩ | ⟨_, rfl⟩
    · have hPx := fun w' (k : Kp [] w w') => cPrint x hx6.1 hx6.2 w' (ht.kept k)
      rw [hpx] at hPx
      have hl1 : (⟨s.data.toList.toArray⟩ : ByteArray).toList = s.toList := by rw [Lib.mk_data]
      clear hx hpx
      obtain ⟨xk, xb, xn, xt⟩ := x
      unfold Val.v at *
      dsimp only at hPx
      have kZ : Kp [] w6 (w6.alloc (.cells #[.int .i64 xk, .bool xb, .int .i64 xn, .string xt] 23)) := (Kp.refl _ _).alloc _
      have k7 := k6.trans kZ (by simp)
      go_wp2_with fail
      refine (hPx _ k7).mono ?_
      rintro e w8 ⟨rfl, j8⟩
      go_wp2_with fail
      go_ret
      exact ⟨by simp, (k7.trans j8 (by simp)).below⟩
    · go_wp2_with fail
      go_ret
      exact ⟨rfl, (k6.alloc _).below⟩
  · have bX := Box4.new w2 (.int .i64 0) (.bool false) (.int .i64 0) (.string ⟨#[]⟩) 23
    have kX : Kp [] w2 (w2.alloc (.cells #[.int .i64 0, .bool false, .int .i64 0, .string ⟨#[]⟩] 23)) := (Kp.refl _ _).alloc _
    have b3 := b2.kept kX (by simp)
    have k3 := k2.trans kX (by simp)
    go_wp2_with fail
    refine (cAlive _ (ht.kept k3)).mono ?_
    rintro e w4 ⟨rfl, j4⟩
    have k4 := k3.trans j4 (by simp)
    have b4 := b3.kept j4 (by simp)
    have q0 := b4.c0; have q1 := b4.c1; have q2 := b4.c2; have q3 := b4.c3
    clear j4 k3 b3 bX kX k2 b2
    go_wp2_with fail
    refine (hR _).mono ?_
    rintro e w5 ⟨rfl, j5⟩
    have k5 := k4.trans j5 (by simp)
    clear q0 q1 q2 q3 j5 k4 b4
    go_wp2_with fail
    refine (hS _ k5).mono ?_
    rintro e w6 ⟨hpp, j6⟩
    have k6 := k5.trans j6 (by simp)
    clear j6
    rcases hpp with ⟨x, hx, hx6, hpx, rfl⟩ | ⟨_, rfl⟩
    · have hPx := fun w' (k : Kp [] w w') => cPrint x hx6.1 hx6.2 w' (ht.kept k)
      rw [hpx] at hPx
      have hl1 : (⟨s.data.toList.toArray⟩ : ByteArray).toList = s.toList := by rw [Lib.mk_data]
      clear hx hpx
      obtain ⟨xk, xb, xn, xt⟩ := x
      unfold Val.v at *
      dsimp only at hPx
      have kZ : Kp [] w6 (w6.alloc (.cells #[.int .i64 xk, .bool xb, .int .i64 xn, .string xt] 23)) := (Kp.refl _ _).alloc _
      have k7 := k6.trans kZ (by simp)
      go_wp2_with fail
      refine (hPx _ k7).mono ?_
      rintro e w8 ⟨rfl, j8⟩
      go_wp2_with fail
      go_ret
      exact ⟨by simp, (k7.trans j8 (by simp)).below⟩
    · go_wp2_with fail
      go_ret
      exact ⟨rfl, (k6.alloc _).below⟩
end Go.Proofs.YtboibllahibicabDoor

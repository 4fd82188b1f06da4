/- What a head says of a term is the document's; if a value of the block makes the term true, the head says that it may. -/
import Derived.Test.YtcjnojbjgdechaaGreatDoorB19
import Derived.Test.YtcjnojbjgdechaaGreatDoorB18
import Derived.Test.YtcjnojbjgdechaaGreatDoorB15
import Derived.Deep.RegionHeld3
import Derived.Test.YtcjnojbjgdechaaGreatDoorB3
import Derived.SizedLaws
import Derived.JoinedCond
import Derived.Deep.CondSized
section
namespace Go.Proofs.YtcjnojbjgdechaaGreatDoor
open Go.RowKit Go.Hay
set_option linter.unusedVariables false
set_option linter.unusedSimpArgs false

/-- What an order asks of the least and of the greatest value. -/
def wiC (op a b : Int) : Bool :=
  if op = 0 then decide (a ≤ 0) && decide (0 ≤ b) else if op = 1 then !(a == 0) || !(b == 0) else if op = 2 then decide (a < 0) else if op = 3 then decide (a ≤ 0) else if op = 4 then decide (0 < b) else if op = 5 then decide (0 ≤ b) else false
def mayC (op nulls many vk a b : Int) : Bool :=
  if op = 6 then decide (0 < nulls) else if op = 7 then decide (nulls < many) else if many ≤ nulls ∨ vk = 0 then false else wiC op a b
def teC (op a : Int) : Bool :=
  if op = 0 then a == 0 else if op = 1 then !(a == 0) else if op = 2 then decide (a < 0) else if op = 3 then decide (a ≤ 0) else if op = 4 then decide (0 < a) else if op = 5 then decide (0 ≤ a) else false
def termC (op xk vk a : Int) : Bool := if op = 6 then xk == 0 else if op = 7 then !(xk == 0) else if xk = 0 ∨ vk = 0 then false else teC op a
set_option maxHeartbeats 32000000 in
set_option maxRecDepth 100000 in
theorem bWithin (iK iM mk : Int) (mb : Bool) (mn : Int) (mt : ByteArray) (xk : Int) (xb : Bool) (xn : Int) (xt : ByteArray) (iN iB : Int) (co op vk : Int) (vb : Bool) (vn : Int) (vt : ByteArray) (w : World) : Calls Tryz.prog 50 #[.agg #[.int .i64 iK, .int .i64 iM, .int .i64 mk, .bool mb, .int .i64 mn, .string mt, .int .i64 xk, .bool xb, .int .i64 xn, .string xt, .int .i64 iN, .int .i64 iB], .agg #[.int .i64 co, .int .i64 op, .int .i64 vk, .bool vb, .int .i64 vn, .string vt]] w fun e w' => e = .returned (.bool (wiC op (cmpV ⟨mk, mb, mn, mt⟩ ⟨vk, vb, vn, vt⟩) (cmpV ⟨xk, xb, xn, xt⟩ ⟨vk, vb, vn, vt⟩))) ∧ Kp [] w w' := by
  obtain ⟨w1, hw1, k1, b1⟩ : ∃ w1, w.alloc (.cells #[.int .i64 iK, .int .i64 iM, .int .i64 mk, .bool mb, .int .i64 mn, .string mt, .int .i64 xk, .bool xb, .int .i64 xn, .string xt, .int .i64 iN, .int .i64 iB] 34) = w1 ∧ Kp [] w w1 ∧ Bx w1 w.heap.size [.int .i64 iK, .int .i64 iM, .int .i64 mk, .bool mb, .int .i64 mn, .string mt, .int .i64 xk, .bool xb, .int .i64 xn, .string xt, .int .i64 iN, .int .i64 iB] := ⟨_, rfl, (Kp.refl _ _).alloc _, Bx.new w _ _⟩
  obtain ⟨q, hq⟩ : ∃ q, Hid (w.heap.size = q) := ⟨_, rfl⟩
  rw [hq.out] at b1
  obtain ⟨w2, hw2, k2, b2⟩ : ∃ w2, w1.alloc (.cells #[.int .i64 co, .int .i64 op, .int .i64 vk, .bool vb, .int .i64 vn, .string vt] 51) = w2 ∧ Kp [] w1 w2 ∧ Bx w2 w1.heap.size [.int .i64 co, .int .i64 op, .int .i64 vk, .bool vb, .int .i64 vn, .string vt] := ⟨_, rfl, (Kp.refl _ _).alloc _, Bx.new w1 _ _⟩
  obtain ⟨q2, hq2⟩ : ∃ q, Hid (w1.heap.size = q) := ⟨_, rfl⟩
  rw [hq2.out] at b2
  have b12 := b1.kept k2 (by simp) (b1.lt (by simp))
  have kk := hid (k1.trans k2 (by simp))
  have hq' := hq.out
  have hq2' := hq2.out
  have c1 := cCompare ⟨mk, mb, mn, mt⟩ ⟨vk, vb, vn, vt⟩ w2
  have h2c := hid (fun W => cCompare ⟨xk, xb, xn, xt⟩ ⟨vk, vb, vn, vt⟩ W)
  have r1 := cmp_range ⟨mk, mb, mn, mt⟩ ⟨vk, vb, vn, vt⟩
  have r2 := cmp_range ⟨xk, xb, xn, xt⟩ ⟨vk, vb, vn, vt⟩
  obtain ⟨A, hA⟩ : ∃ A, Hid (cmpV ⟨mk, mb, mn, mt⟩ ⟨vk, vb, vn, vt⟩ = A) := ⟨_, rfl⟩
  obtain ⟨B, hB⟩ : ∃ A, Hid (cmpV ⟨xk, xb, xn, xt⟩ ⟨vk, vb, vn, vt⟩ = A) := ⟨_, rfl⟩
  rw [hA.out] at c1 r1 ⊢
  rw [hB.out] at r2 ⊢
  simp only [hB.out] at h2c
  unfold Val.v at c1 h2c
  dsimp only at c1 h2c
  have p0 := b12.get 0 _ rfl
  have p1 := b12.get 1 _ rfl
  have p2 := b12.get 2 _ rfl
  have p3 := b12.get 3 _ rfl
  have p4 := b12.get 4 _ rfl
  have p5 := b12.get 5 _ rfl
  have p6 := b12.get 6 _ rfl
  have p7 := b12.get 7 _ rfl
  have p8 := b12.get 8 _ rfl
  have p9 := b12.get 9 _ rfl
  have p10 := b12.get 10 _ rfl
  have p11 := b12.get 11 _ rfl
  have s0 := b2.get 0 _ rfl
  have s1 := b2.get 1 _ rfl
  have s2 := b2.get 2 _ rfl
  have s3 := b2.get 3 _ rfl
  have s4 := b2.get 4 _ rfl
  have s5 := b2.get 5 _ rfl
  have hb12 := hid b12
  have hb2 := hid b2
  clear k1 k2 b1 b2 b12 hA hB
  go_enter Tryz.func50, Tryz.ntmps50
  go_wp2_with fail
  refine c1.mono ?_
  rintro e w3 ⟨rfl, k3⟩
  have kk3 := hid (kk.out.trans k3 (by simp))
  have b3 := hb12.out.kept k3 (by simp) (hb12.out.lt (by simp))
  have t3 := hb2.out.kept k3 (by simp) (hb2.out.lt (by simp))
  clear p0 p1 p2 p3 p4 p5 p6 p7 p8 p9 p10 p11 s0 s1 s2 s3 s4 s5 c1 hw1 hw2 hq' hq2'
  have p0 := b3.get 0 _ rfl
  have p1 := b3.get 1 _ rfl
  have p2 := b3.get 2 _ rfl
  have p3 := b3.get 3 _ rfl
  have p4 := b3.get 4 _ rfl
  have p5 := b3.get 5 _ rfl
  have p6 := b3.get 6 _ rfl
  have p7 := b3.get 7 _ rfl
  have p8 := b3.get 8 _ rfl
  have p9 := b3.get 9 _ rfl
  have p10 := b3.get 10 _ rfl
  have p11 := b3.get 11 _ rfl
  have s0 := t3.get 0 _ rfl
  have s1 := t3.get 1 _ rfl
  have s2 := t3.get 2 _ rfl
  have s3 := t3.get 3 _ rfl
  have s4 := t3.get 4 _ rfl
  have s5 := t3.get 5 _ rfl
  have ht3 := hid t3
  clear b3 t3 k3 hb12 hb2
  go_wp2_with fail
  refine (h2c.out w3).mono ?_
  rintro e w4 ⟨rfl, k4⟩
  have kk4 := hid (kk3.out.trans k4 (by simp))
  have t4 := ht3.out.kept k4 (by simp) (ht3.out.lt (by simp))
  have s1' := t4.get 1 _ rfl
  clear p0 p1 p2 p3 p4 p5 p6 p7 p8 p9 p10 p11 s0 s1 s2 s3 s4 s5 t4 ht3 k4 h2c
  rcases (show op = 0 ∨ op = 1 ∨ op = 2 ∨ op = 3 ∨ op = 4 ∨ op = 5 ∨ (op ≠ 0 ∧ op ≠ 1 ∧ op ≠ 2 ∧ op ≠ 3 ∧ op ≠ 4 ∧ op ≠ 5) by omega) with h | h | h | h | h | h | h
  all_goals first | subst h | (obtain ⟨h0, h1, h2, h3, h4, h5⟩ := h; have d0 : (op == 0) = false := beq_eq_false_iff_ne.2 h0; have d1 : (op == 1) = false := beq_eq_false_iff_ne.2 h1; have d2 : (op == 2) = false := beq_eq_false_iff_ne.2 h2; have d3 : (op == 3) = false := beq_eq_false_iff_ne.2 h3; have d4 : (op == 4) = false := beq_eq_false_iff_ne.2 h4; have d5 : (op == 5) = false := beq_eq_false_iff_ne.2 h5)
  all_goals (rcases r1 with e1 | e1 | e1 <;> rcases r2 with e2 | e2 | e2 <;> subst e1 <;> subst e2 <;> (go_wp2_with fail) <;> go_ret <;> exact ⟨by simp [wiC, *], kk4.out⟩)
end Go.Proofs.YtcjnojbjgdechaaGreatDoor
end

section
namespace Go.Proofs.YtcjnojbjgdechaaGreatDoor
open Go.RowKit Go.Hay
set_option linter.unusedVariables false
set_option linter.unusedSimpArgs false

set_option maxHeartbeats 32000000 in
set_option maxRecDepth 100000 in
theorem bMay (iK iM mk : Int) (mb : Bool) (mn : Int) (mt : ByteArray) (xk : Int) (xb : Bool) (xn : Int) (xt : ByteArray) (iN iB : Int) (co op vk : Int) (vb : Bool) (vn : Int) (vt : ByteArray) (w : World) : Calls Tryz.prog 21 #[.agg #[.int .i64 iK, .int .i64 iM, .int .i64 mk, .bool mb, .int .i64 mn, .string mt, .int .i64 xk, .bool xb, .int .i64 xn, .string xt, .int .i64 iN, .int .i64 iB], .agg #[.int .i64 co, .int .i64 op, .int .i64 vk, .bool vb, .int .i64 vn, .string vt]] w fun e w' => e = .returned (.bool (mayC op iN iM vk (cmpV ⟨mk, mb, mn, mt⟩ ⟨vk, vb, vn, vt⟩) (cmpV ⟨xk, xb, xn, xt⟩ ⟨vk, vb, vn, vt⟩))) ∧ Kp [] w w' := by
  obtain ⟨w1, hw1, k1, b1⟩ : ∃ w1, w.alloc (.cells #[.int .i64 iK, .int .i64 iM, .int .i64 mk, .bool mb, .int .i64 mn, .string mt, .int .i64 xk, .bool xb, .int .i64 xn, .string xt, .int .i64 iN, .int .i64 iB] 34) = w1 ∧ Kp [] w w1 ∧ Bx w1 w.heap.size [.int .i64 iK, .int .i64 iM, .int .i64 mk, .bool mb, .int .i64 mn, .string mt, .int .i64 xk, .bool xb, .int .i64 xn, .string xt, .int .i64 iN, .int .i64 iB] := ⟨_, rfl, (Kp.refl _ _).alloc _, Bx.new w _ _⟩
  obtain ⟨q, hq⟩ : ∃ q, Hid (w.heap.size = q) := ⟨_, rfl⟩
  rw [hq.out] at b1
  obtain ⟨w2, hw2, k2, b2⟩ : ∃ w2, w1.alloc (.cells #[.int .i64 co, .int .i64 op, .int .i64 vk, .bool vb, .int .i64 vn, .string vt] 51) = w2 ∧ Kp [] w1 w2 ∧ Bx w2 w1.heap.size [.int .i64 co, .int .i64 op, .int .i64 vk, .bool vb, .int .i64 vn, .string vt] := ⟨_, rfl, (Kp.refl _ _).alloc _, Bx.new w1 _ _⟩
  obtain ⟨q2, hq2⟩ : ∃ q, Hid (w1.heap.size = q) := ⟨_, rfl⟩
  rw [hq2.out] at b2
  have b12 := b1.kept k2 (by simp) (b1.lt (by simp))
  have kk := hid (k1.trans k2 (by simp))
  have hq' := hq.out
  have hq2' := hq2.out
  have cW := bWithin iK iM mk mb mn mt xk xb xn xt iN iB co op vk vb vn vt w2
  obtain ⟨A, hA⟩ : ∃ A, Hid (cmpV ⟨mk, mb, mn, mt⟩ ⟨vk, vb, vn, vt⟩ = A) := ⟨_, rfl⟩
  obtain ⟨B, hB⟩ : ∃ A, Hid (cmpV ⟨xk, xb, xn, xt⟩ ⟨vk, vb, vn, vt⟩ = A) := ⟨_, rfl⟩
  rw [hA.out, hB.out] at cW ⊢
  obtain ⟨X, hX⟩ : ∃ X, Hid (wiC op A B = X) := ⟨_, rfl⟩
  rw [hX.out] at cW
  have p0 := b12.get 0 _ rfl
  have p1 := b12.get 1 _ rfl
  have p2 := b12.get 2 _ rfl
  have p3 := b12.get 3 _ rfl
  have p4 := b12.get 4 _ rfl
  have p5 := b12.get 5 _ rfl
  have p6 := b12.get 6 _ rfl
  have p7 := b12.get 7 _ rfl
  have p8 := b12.get 8 _ rfl
  have p9 := b12.get 9 _ rfl
  have p10 := b12.get 10 _ rfl
  have p11 := b12.get 11 _ rfl
  have s0 := b2.get 0 _ rfl
  have s1 := b2.get 1 _ rfl
  have s2 := b2.get 2 _ rfl
  have s3 := b2.get 3 _ rfl
  have s4 := b2.get 4 _ rfl
  have s5 := b2.get 5 _ rfl
  clear k1 k2 b1 b2 b12 hA hB
  rcases (show op = 6 ∨ op = 7 ∨ (op ≠ 6 ∧ op ≠ 7) by omega) with h6 | h6 | ⟨h6, h7⟩
  · subst h6
    have hr : Hid (mayC 6 iN iM vk A B = decide (0 < iN)) := rfl
    go_enter Tryz.func21, Tryz.ntmps21
    go_wp2_with fail
    go_ret
    exact ⟨by rw [hr.out]; simp, kk.out⟩
  · subst h6
    have hr : Hid (mayC 7 iN iM vk A B = decide (iN < iM)) := rfl
    go_enter Tryz.func21, Tryz.ntmps21
    go_wp2_with fail
    go_ret
    exact ⟨by rw [hr.out]; simp, kk.out⟩
  · have d6 : (op == 6) = false := beq_eq_false_iff_ne.2 h6
    have d7 : (op == 7) = false := beq_eq_false_iff_ne.2 h7
    have hr : Hid (mayC op iN iM vk A B = if iM ≤ iN ∨ vk = 0 then false else X) := by show _ = _; unfold mayC; rw [if_neg h6, if_neg h7, hX.out]
    by_cases hf : iN < iM
    · have f1 : decide (iN < iM) = true := by simpa using hf
      by_cases hv : vk = 0
      · have hr2 : Hid (mayC op iN iM vk A B = false) := by show _ = _; rw [hr.out, if_pos (.inr hv)]
        have dv : (vk != 0) = false := by simp [hv]
        clear hr hv
        go_enter Tryz.func21, Tryz.ntmps21
        go_wp2_with fail
        go_ret
        exact ⟨by rw [hr2.out]; simp, kk.out⟩
      · have hr2 : Hid (mayC op iN iM vk A B = X) := by show _ = _; rw [hr.out, if_neg (by intro h; rcases h with h | h; omega; exact hv h)]
        have dv : (vk != 0) = true := by simpa using hv
        clear hr hv
        go_enter Tryz.func21, Tryz.ntmps21
        go_wp2_with fail
        refine cW.mono ?_
        rintro e w3 ⟨rfl, k3⟩
        go_wp2_with fail
        go_ret
        exact ⟨by rw [hr2.out]; simp, kk.out.trans k3 (by simp)⟩
    · have f1 : decide (iN < iM) = false := by simpa using hf
      have hr2 : Hid (mayC op iN iM vk A B = false) := by show _ = _; rw [hr.out, if_pos (.inl (by omega))]
      clear hr
      go_enter Tryz.func21, Tryz.ntmps21
      go_wp2_with fail
      go_ret
      exact ⟨by rw [hr2.out]; simp, kk.out⟩
set_option maxHeartbeats 32000000 in
set_option maxRecDepth 100000 in
theorem rMay (iK iM mk : Int) (mb : Bool) (mn : Int) (mt : ByteArray) (xk : Int) (xb : Bool) (xn : Int) (xt : ByteArray) (iN iB : Int) (co op vk : Int) (vb : Bool) (vn : Int) (vt : ByteArray) (w : World) : Calls Tryz.prog 22 #[.agg #[.int .i64 iK, .int .i64 iM, .int .i64 mk, .bool mb, .int .i64 mn, .string mt, .int .i64 xk, .bool xb, .int .i64 xn, .string xt, .int .i64 iN, .int .i64 iB], .agg #[.int .i64 co, .int .i64 op, .int .i64 vk, .bool vb, .int .i64 vn, .string vt]] w fun e w' => e = .returned (.bool (mayC op iN iM vk (cmpV ⟨mk, mb, mn, mt⟩ ⟨vk, vb, vn, vt⟩) (cmpV ⟨xk, xb, xn, xt⟩ ⟨vk, vb, vn, vt⟩))) ∧ Kp [] w w' := by
  obtain ⟨w1, hw1, k1, b1⟩ : ∃ w1, w.alloc (.cells #[.int .i64 iK, .int .i64 iM, .int .i64 mk, .bool mb, .int .i64 mn, .string mt, .int .i64 xk, .bool xb, .int .i64 xn, .string xt, .int .i64 iN, .int .i64 iB] 37) = w1 ∧ Kp [] w w1 ∧ Bx w1 w.heap.size [.int .i64 iK, .int .i64 iM, .int .i64 mk, .bool mb, .int .i64 mn, .string mt, .int .i64 xk, .bool xb, .int .i64 xn, .string xt, .int .i64 iN, .int .i64 iB] := ⟨_, rfl, (Kp.refl _ _).alloc _, Bx.new w _ _⟩
  obtain ⟨q, hq⟩ : ∃ q, Hid (w.heap.size = q) := ⟨_, rfl⟩
  rw [hq.out] at b1
  obtain ⟨w2, hw2, k2, b2⟩ : ∃ w2, w1.alloc (.cells #[.int .i64 co, .int .i64 op, .int .i64 vk, .bool vb, .int .i64 vn, .string vt] 51) = w2 ∧ Kp [] w1 w2 ∧ Bx w2 w1.heap.size [.int .i64 co, .int .i64 op, .int .i64 vk, .bool vb, .int .i64 vn, .string vt] := ⟨_, rfl, (Kp.refl _ _).alloc _, Bx.new w1 _ _⟩
  obtain ⟨q2, hq2⟩ : ∃ q, Hid (w1.heap.size = q) := ⟨_, rfl⟩
  rw [hq2.out] at b2
  have b12 := b1.kept k2 (by simp) (b1.lt (by simp))
  have kk := hid (k1.trans k2 (by simp))
  have hq' := hq.out
  have hq2' := hq2.out
  have c1 := cRefCompare ⟨mk, mb, mn, mt⟩ ⟨vk, vb, vn, vt⟩ w2
  have h2c := hid (fun W => cRefCompare ⟨xk, xb, xn, xt⟩ ⟨vk, vb, vn, vt⟩ W)
  have r1 := cmp_range ⟨mk, mb, mn, mt⟩ ⟨vk, vb, vn, vt⟩
  have r2 := cmp_range ⟨xk, xb, xn, xt⟩ ⟨vk, vb, vn, vt⟩
  obtain ⟨A, hA⟩ : ∃ A, Hid (cmpV ⟨mk, mb, mn, mt⟩ ⟨vk, vb, vn, vt⟩ = A) := ⟨_, rfl⟩
  obtain ⟨B, hB⟩ : ∃ A, Hid (cmpV ⟨xk, xb, xn, xt⟩ ⟨vk, vb, vn, vt⟩ = A) := ⟨_, rfl⟩
  rw [hA.out] at c1 r1 ⊢
  rw [hB.out] at r2 ⊢
  simp only [hB.out] at h2c
  unfold Val.v at c1 h2c
  dsimp only at c1 h2c
  have p0 := b12.get 0 _ rfl
  have p1 := b12.get 1 _ rfl
  have p2 := b12.get 2 _ rfl
  have p3 := b12.get 3 _ rfl
  have p4 := b12.get 4 _ rfl
  have p5 := b12.get 5 _ rfl
  have p6 := b12.get 6 _ rfl
  have p7 := b12.get 7 _ rfl
  have p8 := b12.get 8 _ rfl
  have p9 := b12.get 9 _ rfl
  have p10 := b12.get 10 _ rfl
  have p11 := b12.get 11 _ rfl
  have s0 := b2.get 0 _ rfl
  have s1 := b2.get 1 _ rfl
  have s2 := b2.get 2 _ rfl
  have s3 := b2.get 3 _ rfl
  have s4 := b2.get 4 _ rfl
  have s5 := b2.get 5 _ rfl
  have hb12 := hid b12
  have hb2 := hid b2
  clear k1 k2 b1 b2 b12 hA hB
  rcases (show op = 6 ∨ op = 7 ∨ (op ≠ 6 ∧ op ≠ 7) by omega) with h6 | h6 | ⟨h6, h7⟩
  · subst h6
    have hr : Hid (mayC 6 iN iM vk A B = decide (0 < iN)) := rfl
    go_enter Tryz.func22, Tryz.ntmps22
    go_wp2_with fail
    go_ret
    exact ⟨by rw [hr.out]; simp, kk.out⟩
  · subst h6
    have hr : Hid (mayC 7 iN iM vk A B = decide (iN < iM)) := rfl
    go_enter Tryz.func22, Tryz.ntmps22
    go_wp2_with fail
    go_ret
    exact ⟨by rw [hr.out]; simp, kk.out⟩
  have d6 : (op == 6) = false := beq_eq_false_iff_ne.2 h6
  have d7 : (op == 7) = false := beq_eq_false_iff_ne.2 h7
  have hr : Hid (mayC op iN iM vk A B = if iM ≤ iN ∨ vk = 0 then false else wiC op A B) := by show _ = _; unfold mayC; rw [if_neg h6, if_neg h7]
  by_cases hf : iM ≤ iN
  · have f1 : decide (iM ≤ iN) = true := by simpa using hf
    have hr2 : Hid (mayC op iN iM vk A B = false) := by show _ = _; rw [hr.out, if_pos (.inl hf)]
    clear hr
    go_enter Tryz.func22, Tryz.ntmps22
    go_wp2_with fail
    go_ret
    exact ⟨by rw [hr2.out]; simp, kk.out⟩
  have f1 : decide (iM ≤ iN) = false := by simpa using hf
  by_cases hv : vk = 0
  · have hr2 : Hid (mayC op iN iM vk A B = false) := by show _ = _; rw [hr.out, if_pos (.inr hv)]
    have dv : (vk == 0) = true := by simpa using hv
    clear hr hv
    go_enter Tryz.func22, Tryz.ntmps22
    go_wp2_with fail
    go_ret
    exact ⟨by rw [hr2.out]; simp, kk.out⟩
  have hr2 : Hid (mayC op iN iM vk A B = wiC op A B) := by show _ = _; rw [hr.out, if_neg (by intro h; rcases h with h | h; exact hf h; exact hv h)]
  have dv : (vk == 0) = false := by simpa using hv
  clear hr hv
  go_enter Tryz.func22, Tryz.ntmps22
  go_wp2_with fail
  refine c1.mono ?_
  rintro e w3 ⟨rfl, k3⟩
  have kk3 := hid (kk.out.trans k3 (by simp))
  have b3 := hb12.out.kept k3 (by simp) (hb12.out.lt (by simp))
  have t3 := hb2.out.kept k3 (by simp) (hb2.out.lt (by simp))
  clear p0 p1 p2 p3 p4 p5 p6 p7 p8 p9 p10 p11 s0 s1 s2 s3 s4 s5 c1 hw1 hw2 hq' hq2'
  have p0 := b3.get 0 _ rfl
  have p1 := b3.get 1 _ rfl
  have p2 := b3.get 2 _ rfl
  have p3 := b3.get 3 _ rfl
  have p4 := b3.get 4 _ rfl
  have p5 := b3.get 5 _ rfl
  have p6 := b3.get 6 _ rfl
  have p7 := b3.get 7 _ rfl
  have p8 := b3.get 8 _ rfl
  have p9 := b3.get 9 _ rfl
  have p10 := b3.get 10 _ rfl
  have p11 := b3.get 11 _ rfl
  have s0 := t3.get 0 _ rfl
  have s1 := t3.get 1 _ rfl
  have s2 := t3.get 2 _ rfl
  have s3 := t3.get 3 _ rfl
  have s4 := t3.get 4 _ rfl
  have s5 := t3.get 5 _ rfl
  have ht3 := hid t3
  clear b3 t3 k3 hb12 hb2
  go_wp2_with fail
  refine (h2c.out w3).mono ?_
  rintro e w4 ⟨rfl, k4⟩
  have kk4 := hid (kk3.out.trans k4 (by simp))
  have t4 := ht3.out.kept k4 (by simp) (ht3.out.lt (by simp))
  have s1' := t4.get 1 _ rfl
  clear p0 p1 p2 p3 p4 p5 p6 p7 p8 p9 p10 p11 s0 s1 s2 s3 s4 s5 t4 ht3 k4 h2c d6 d7 h6 h7 hf f1 dv
  rcases (show op = 0 ∨ op = 1 ∨ op = 2 ∨ op = 3 ∨ op = 4 ∨ op = 5 ∨ (op ≠ 0 ∧ op ≠ 1 ∧ op ≠ 2 ∧ op ≠ 3 ∧ op ≠ 4 ∧ op ≠ 5) by omega) with h | h | h | h | h | h | h
  all_goals first | subst h | (obtain ⟨h0, h1, h2, h3, h4, h5⟩ := h; have d0 : (op == 0) = false := beq_eq_false_iff_ne.2 h0; have d1 : (op == 1) = false := beq_eq_false_iff_ne.2 h1; have d2 : (op == 2) = false := beq_eq_false_iff_ne.2 h2; have d3 : (op == 3) = false := beq_eq_false_iff_ne.2 h3; have d4 : (op == 4) = false := beq_eq_false_iff_ne.2 h4; have d5 : (op == 5) = false := beq_eq_false_iff_ne.2 h5)
  all_goals (rcases r1 with e1 | e1 | e1 <;> rcases r2 with e2 | e2 | e2 <;> subst e1 <;> subst e2 <;> (go_wp2_with fail) <;> go_ret <;> exact ⟨by rw [hr2.out]; simp [wiC, *], kk4.out⟩)
set_option maxHeartbeats 32000000 in
set_option maxRecDepth 100000 in
theorem lTerm (co op vk : Int) (vb : Bool) (vn : Int) (vt : ByteArray) (yk : Int) (yb : Bool) (yn : Int) (yt : ByteArray) (w : World) : Calls Tryz.prog 23 #[.agg #[.int .i64 co, .int .i64 op, .int .i64 vk, .bool vb, .int .i64 vn, .string vt], .agg #[.int .i64 yk, .bool yb, .int .i64 yn, .string yt]] w fun e w' => e = .returned (.bool (termC op yk vk (cmpV ⟨yk, yb, yn, yt⟩ ⟨vk, vb, vn, vt⟩))) ∧ Kp [] w w' := by
  obtain ⟨w1, hw1, k1, b1⟩ : ∃ w1, w.alloc (.cells #[.int .i64 co, .int .i64 op, .int .i64 vk, .bool vb, .int .i64 vn, .string vt] 51) = w1 ∧ Kp [] w w1 ∧ Bx w1 w.heap.size [.int .i64 co, .int .i64 op, .int .i64 vk, .bool vb, .int .i64 vn, .string vt] := ⟨_, rfl, (Kp.refl _ _).alloc _, Bx.new w _ _⟩
  obtain ⟨q, hq⟩ : ∃ q, Hid (w.heap.size = q) := ⟨_, rfl⟩
  rw [hq.out] at b1
  obtain ⟨w2, hw2, k2, b2⟩ : ∃ w2, w1.alloc (.cells #[.int .i64 yk, .bool yb, .int .i64 yn, .string yt] 32) = w2 ∧ Kp [] w1 w2 ∧ Bx w2 w1.heap.size [.int .i64 yk, .bool yb, .int .i64 yn, .string yt] := ⟨_, rfl, (Kp.refl _ _).alloc _, Bx.new w1 _ _⟩
  obtain ⟨q2, hq2⟩ : ∃ q, Hid (w1.heap.size = q) := ⟨_, rfl⟩
  rw [hq2.out] at b2
  have b12 := b1.kept k2 (by simp) (b1.lt (by simp))
  have kk := hid (k1.trans k2 (by simp))
  have hq' := hq.out
  have hq2' := hq2.out
  have c1 := cRefCompare ⟨yk, yb, yn, yt⟩ ⟨vk, vb, vn, vt⟩ w2
  have r1 := cmp_range ⟨yk, yb, yn, yt⟩ ⟨vk, vb, vn, vt⟩
  obtain ⟨A, hA⟩ : ∃ A, Hid (cmpV ⟨yk, yb, yn, yt⟩ ⟨vk, vb, vn, vt⟩ = A) := ⟨_, rfl⟩
  rw [hA.out] at c1 r1 ⊢
  unfold Val.v at c1
  dsimp only at c1
  have p0 := b12.get 0 _ rfl
  have p1 := b12.get 1 _ rfl
  have p2 := b12.get 2 _ rfl
  have p3 := b12.get 3 _ rfl
  have p4 := b12.get 4 _ rfl
  have p5 := b12.get 5 _ rfl
  have s0 := b2.get 0 _ rfl
  have s1 := b2.get 1 _ rfl
  have s2 := b2.get 2 _ rfl
  have s3 := b2.get 3 _ rfl
  have hb12 := hid b12
  clear k1 k2 b1 b2 b12 hA
  rcases (show op = 6 ∨ op = 7 ∨ (op ≠ 6 ∧ op ≠ 7) by omega) with h6 | h6 | ⟨h6, h7⟩
  · subst h6
    have hr : Hid (termC 6 yk vk A = (yk == 0)) := rfl
    go_enter Tryz.func23, Tryz.ntmps23
    go_wp2_with fail
    go_ret
    exact ⟨by rw [hr.out]; cases h : (yk == 0) <;> simp [h], kk.out⟩
  · subst h6
    have hr : Hid (termC 7 yk vk A = !(yk == 0)) := rfl
    go_enter Tryz.func23, Tryz.ntmps23
    go_wp2_with fail
    go_ret
    exact ⟨by rw [hr.out]; cases h : (yk == 0) <;> simp [h], kk.out⟩
  have d6 : (op == 6) = false := beq_eq_false_iff_ne.2 h6
  have d7 : (op == 7) = false := beq_eq_false_iff_ne.2 h7
  have hr : Hid (termC op yk vk A = if yk = 0 ∨ vk = 0 then false else teC op A) := by show _ = _; unfold termC; rw [if_neg h6, if_neg h7]
  by_cases hf : yk = 0
  · have f1 : (yk == 0) = true := by simpa using hf
    have hr2 : Hid (termC op yk vk A = false) := by show _ = _; rw [hr.out, if_pos (.inl hf)]
    clear hr hf
    go_enter Tryz.func23, Tryz.ntmps23
    go_wp2_with fail
    go_ret
    exact ⟨by rw [hr2.out]; simp, kk.out⟩
  have f1 : (yk == 0) = false := by simpa using hf
  by_cases hv : vk = 0
  · have hr2 : Hid (termC op yk vk A = false) := by show _ = _; rw [hr.out, if_pos (.inr hv)]
    have dv : (vk == 0) = true := by simpa using hv
    clear hr hv
    go_enter Tryz.func23, Tryz.ntmps23
    go_wp2_with fail
    go_ret
    exact ⟨by rw [hr2.out]; simp, kk.out⟩
  have hr2 : Hid (termC op yk vk A = teC op A) := by show _ = _; rw [hr.out, if_neg (by intro h; rcases h with h | h; exact hf h; exact hv h)]
  have dv : (vk == 0) = false := by simpa using hv
  clear hr hv
  go_enter Tryz.func23, Tryz.ntmps23
  go_wp2_with fail
  refine c1.mono ?_
  rintro e w3 ⟨rfl, k3⟩
  have kk3 := hid (kk.out.trans k3 (by simp))
  have b3 := hb12.out.kept k3 (by simp) (hb12.out.lt (by simp))
  have s1' := b3.get 1 _ rfl
  clear p0 p1 p2 p3 p4 p5 s0 s1 s2 s3 c1 hw1 hw2 hq' hq2' b3 hb12 k3 d6 d7 h6 h7 hf f1 dv
  rcases (show op = 0 ∨ op = 1 ∨ op = 2 ∨ op = 3 ∨ op = 4 ∨ op = 5 ∨ (op ≠ 0 ∧ op ≠ 1 ∧ op ≠ 2 ∧ op ≠ 3 ∧ op ≠ 4 ∧ op ≠ 5) by omega) with h | h | h | h | h | h | h
  all_goals first | subst h | (obtain ⟨h0, h1, h2, h3, h4, h5⟩ := h; have d0 : (op == 0) = false := beq_eq_false_iff_ne.2 h0; have d1 : (op == 1) = false := beq_eq_false_iff_ne.2 h1; have d2 : (op == 2) = false := beq_eq_false_iff_ne.2 h2; have d3 : (op == 3) = false := beq_eq_false_iff_ne.2 h3; have d4 : (op == 4) = false := beq_eq_false_iff_ne.2 h4; have d5 : (op == 5) = false := beq_eq_false_iff_ne.2 h5)
  all_goals (rcases r1 with e1 | e1 | e1 <;> subst e1 <;> (go_wp2_with fail) <;> go_ret <;> exact ⟨by rw [hr2.out]; simp [teC, *], kk3.out⟩)
end Go.Proofs.YtcjnojbjgdechaaGreatDoor
end

section
namespace Go.Proofs.YtcjnojbjgdechaaGreatDoor
open Go.RowKit Go.Hay
set_option linter.unusedVariables false
set_option linter.unusedSimpArgs false

theorem hdR_short (bs : List UInt8) (h : bs.length < 3) : hdR bs = none := by unfold hdR; rw [if_pos (.inl h)]
theorem hdR_first (bs : List UInt8) (h : 4 < (bs.getD 0 0).toNat ∨ (bs.getD 1 0).toNat = 0 ∨ 64 < (bs.getD 1 0).toNat ∨ (bs.getD 1 0).toNat < (bs.getD 2 0).toNat) : hdR bs = none := by unfold hdR; rw [if_pos (.inr h)]
set_option maxHeartbeats 64000000 in
set_option maxRecDepth 100000 in
theorem rHeadS (a : Option Addr) (c : Nat) (bs : List UInt8) (w : World) (hs : Sees w a bs) (hl : bs.length ≤ c) (hm : c ≤ maxLen) (h3 : bs.length < 3) :
    Calls Tryz.prog 15 #[.slice a bs.length c] w (HdP (hdP bs) w) := by
  obtain ⟨w0, hw0, kw0, bR⟩ : ∃ w0, w.alloc (.cells #[.int .i64 0, .int .i64 0, .int .i64 0, .bool false, .int .i64 0, .string ⟨#[]⟩, .int .i64 0, .bool false, .int .i64 0, .string ⟨#[]⟩, .int .i64 0, .int .i64 0] 37) = w0 ∧ Kp [] w w0 ∧ Bx w0 w.heap.size [.int .i64 0, .int .i64 0, .int .i64 0, .bool false, .int .i64 0, .string ⟨#[]⟩, .int .i64 0, .bool false, .int .i64 0, .string ⟨#[]⟩, .int .i64 0, .int .i64 0] := ⟨_, rfl, (Kp.refl _ _).alloc _, Bx.new w _ _⟩
  obtain ⟨q, hq⟩ : ∃ q, Hid (w.heap.size = q) := ⟨_, rfl⟩
  have hqw : w.heap.size ≤ q := by rw [hq.out]; omega
  rw [hq.out] at bR
  have d1 : (bs.length : Int) < 3 := by omega
  have d1' : decide ((bs.length : Int) < 3) = true := by simpa using d1
  have hbR := hid bR
  have hkw := hid kw0
  have hq' := hq.out
  clear bR kw0 hs
  go_enter Tryz.func15, Tryz.ntmps15
  go_wp2_with fail
  go_quiet (fail)
  have bRq := hid (hbR.out.kept ((Kp.refl [] w0).drewN nq) (by simp) (hbR.out.lt (by simp)))
  have kq := hid (hkw.out.drewN nq)
  generalize w0.drewN nq = wq at *
  have hnone : Hid (hdR bs = none) := hdR_short bs h3
  have p0 := bRq.out.get 0 _ rfl; have f0 := bRq.out.free 0
  have p1 := bRq.out.get 1 _ rfl; have f1 := bRq.out.free 1
  have p2 := bRq.out.get 2 _ rfl; have f2 := bRq.out.free 2
  have p3 := bRq.out.get 3 _ rfl; have f3 := bRq.out.free 3
  have p4 := bRq.out.get 4 _ rfl; have f4 := bRq.out.free 4
  have p5 := bRq.out.get 5 _ rfl; have f5 := bRq.out.free 5
  have p6 := bRq.out.get 6 _ rfl; have f6 := bRq.out.free 6
  have p7 := bRq.out.get 7 _ rfl; have f7 := bRq.out.free 7
  have p8 := bRq.out.get 8 _ rfl; have f8 := bRq.out.free 8
  have p9 := bRq.out.get 9 _ rfl; have f9 := bRq.out.free 9
  have p10 := bRq.out.get 10 _ rfl; have f10 := bRq.out.free 10
  have p11 := bRq.out.get 11 _ rfl; have f11 := bRq.out.free 11
  obtain ⟨W, hW, bW, kW⟩ : ∃ Y9, ((((((((((((wq.setCell ⟨q, 0, none⟩ (.int .i64 0)).setCell ⟨q, 1, none⟩ (.int .i64 0)).setCell ⟨q, 2, none⟩ (.int .i64 0)).setCell ⟨q, 3, none⟩ (.bool false)).setCell ⟨q, 4, none⟩ (.int .i64 0)).setCell ⟨q, 5, none⟩ (.string ⟨#[]⟩)).setCell ⟨q, 6, none⟩ (.int .i64 0)).setCell ⟨q, 7, none⟩ (.bool false)).setCell ⟨q, 8, none⟩ (.int .i64 0)).setCell ⟨q, 9, none⟩ (.string ⟨#[]⟩)).setCell ⟨q, 10, none⟩ (.int .i64 0)).setCell ⟨q, 11, none⟩ (.int .i64 0)) = Y9 ∧ Bx Y9 q [.int .i64 0, .int .i64 0, .int .i64 0, .bool false, .int .i64 0, .string ⟨#[]⟩, .int .i64 0, .bool false, .int .i64 0, .string ⟨#[]⟩, .int .i64 0, .int .i64 0] ∧ Kp [q] wq Y9 := ⟨_, rfl, gen12q (R := fun Y9 => Bx Y9 q [.int .i64 0, .int .i64 0, .int .i64 0, .bool false, .int .i64 0, .string ⟨#[]⟩, .int .i64 0, .bool false, .int .i64 0, .string ⟨#[]⟩, .int .i64 0, .int .i64 0]) bRq.out rfl (.int .i64 0) (.int .i64 0) (.int .i64 0) (.bool false) (.int .i64 0) (.string ⟨#[]⟩) (.int .i64 0) (.bool false) (.int .i64 0) (.string ⟨#[]⟩) (.int .i64 0) (.int .i64 0) (fun Y9 b _ => b), gen12q (R := fun Y9 => Kp [q] wq Y9) bRq.out rfl (.int .i64 0) (.int .i64 0) (.int .i64 0) (.bool false) (.int .i64 0) (.string ⟨#[]⟩) (.int .i64 0) (.bool false) (.int .i64 0) (.string ⟨#[]⟩) (.int .i64 0) (.int .i64 0) (fun Y9 _ k => k)⟩
  have r0 := bW.get 0 _ rfl
  have r1 := bW.get 1 _ rfl
  have r2 := bW.get 2 _ rfl
  have r3 := bW.get 3 _ rfl
  have r4 := bW.get 4 _ rfl
  have r5 := bW.get 5 _ rfl
  have r6 := bW.get 6 _ rfl
  have r7 := bW.get 7 _ rfl
  have r8 := bW.get 8 _ rfl
  have r9 := bW.get 9 _ rfl
  have r10 := bW.get 10 _ rfl
  have r11 := bW.get 11 _ rfl
  have kkW := hid (kq.out.trans kW (fun x hx => .inr (by simp at hx; omega)))
  clear kW bW
  go_wp2_with fail
  refine bodyPost_ret (v := .tuple #[zeroI.v, .int .i64 0, .int .i64 70]) (by rw [zeroI_v]; simp [results, Tryz.results15, go_sem, r0, r1, r2, r3, r4, r5, r6, r7, r8, r9, r10, r11]) rfl ?_
  unfold HdP
  have e70 : hdP bs = (zeroI, 0, 70) := by unfold hdP; rw [hnone.out]
  rw [e70]
  exact ⟨rfl, kkW.out⟩
set_option maxHeartbeats 64000000 in
set_option maxRecDepth 100000 in
theorem rHeadL (a : Option Addr) (c : Nat) (k m n : UInt8) (r bs : List UInt8) (hbs : bs = k :: m :: n :: r) (w : World) (hs : Sees w a bs) (hl : bs.length ≤ c) (hm : c ≤ maxLen) (hb2 : bs.length ≤ 200000000000000) :
    Calls Tryz.prog 15 #[.slice a bs.length c] w (HdP (hdP bs) w) := by
  obtain ⟨w0, hw0, kw0, bR⟩ : ∃ w0, w.alloc (.cells #[.int .i64 0, .int .i64 0, .int .i64 0, .bool false, .int .i64 0, .string ⟨#[]⟩, .int .i64 0, .bool false, .int .i64 0, .string ⟨#[]⟩, .int .i64 0, .int .i64 0] 37) = w0 ∧ Kp [] w w0 ∧ Bx w0 w.heap.size [.int .i64 0, .int .i64 0, .int .i64 0, .bool false, .int .i64 0, .string ⟨#[]⟩, .int .i64 0, .bool false, .int .i64 0, .string ⟨#[]⟩, .int .i64 0, .int .i64 0] := ⟨_, rfl, (Kp.refl _ _).alloc _, Bx.new w _ _⟩
  obtain ⟨q, hq⟩ : ∃ q, Hid (w.heap.size = q) := ⟨_, rfl⟩
  have hqw : w.heap.size ≤ q := by rw [hq.out]; omega
  rw [hq.out] at bR
  obtain ⟨g, o, rfl, hc⟩ : ∃ g o, a = some ⟨g, o, none⟩ ∧ ∀ j u, bs[j]? = some u → w.cell? ⟨g, o + j, none⟩ = some (.int .u8 u.toNat) := by
    rcases hs with h | h
    · rw [hbs] at h; cases h
    · exact h
  have hs' : Sees w (some ⟨g, o, none⟩) bs := .inr ⟨g, o, rfl, hc⟩
  have hlen : bs.length = r.length + 3 := by rw [hbs]; simp
  have hat : Hid (∀ W, Kp [] w W → W.cell? ⟨g, o, none⟩ = some (.int .u8 k.toNat) ∧ W.cell? ⟨g, o + 1, none⟩ = some (.int .u8 m.toNat) ∧ W.cell? ⟨g, o + 2, none⟩ = some (.int .u8 n.toNat)) := fun W kW => ⟨kpAt kW (hc 0 k (by rw [hbs]; rfl)), kpAt kW (hc 1 m (by rw [hbs]; rfl)), kpAt kW (hc 2 n (by rw [hbs]; rfl))⟩
  have hg : Hid ((bs.getD 0 0) = k ∧ (bs.getD 1 0) = m ∧ (bs.getD 2 0) = n) := by rw [hbs]; exact ⟨rfl, rfl, rfl⟩
  have hkl := k.toNat_lt
  have hml := m.toNat_lt
  have hnl := n.toNat_lt
  have hsB := hid (fun W (kW : Kp [] w W) => hs'.kept kW (by simp))
  have hlh := hid hlen
  have hlb : 3 ≤ bs.length := by omega
  have hfirst : Hid (4 < k.toNat ∨ m.toNat = 0 ∨ 64 < m.toNat ∨ m.toNat < n.toNat → hdR bs = none) := fun h => hdR_first bs (by rw [hg.out.1, hg.out.2.1, hg.out.2.2]; exact h)
  have hsome : Hid (¬ (4 < k.toNat ∨ m.toNat = 0 ∨ 64 < m.toNat ∨ m.toNat < n.toNat) → hdR bs = if (rowF (bs.drop 3)).2 = 0 then none
      else if (rowF (bs.drop (3 + (rowF (bs.drop 3)).2))).2 = 0 ∨ bs.length < 3 + (rowF (bs.drop 3)).2 + (rowF (bs.drop (3 + (rowF (bs.drop 3)).2))).2 + 2 then none
      else if bs.length < endR bs (3 + (rowF (bs.drop 3)).2 + (rowF (bs.drop (3 + (rowF (bs.drop 3)).2))).2) then none
      else some (⟨k.toNat, m.toNat, (rowF (bs.drop 3)).1, (rowF (bs.drop (3 + (rowF (bs.drop 3)).2))).1, n.toNat, endR bs (3 + (rowF (bs.drop 3)).2 + (rowF (bs.drop (3 + (rowF (bs.drop 3)).2))).2)⟩, 3 + (rowF (bs.drop 3)).2 + (rowF (bs.drop (3 + (rowF (bs.drop 3)).2))).2 + 2)) := fun h => by
    unfold hdR
    rw [hg.out.1, hg.out.2.1, hg.out.2.2, if_neg (fun h' => by rcases h' with h' | h'; omega; exact h h')]
  obtain ⟨K, hK⟩ : ∃ x : Nat, Hid (k.toNat = x) := ⟨_, rfl⟩
  obtain ⟨M, hM⟩ : ∃ x : Nat, Hid (m.toNat = x) := ⟨_, rfl⟩
  obtain ⟨N, hN⟩ : ∃ x : Nat, Hid (n.toNat = x) := ⟨_, rfl⟩
  rw [hK.out] at hkl hfirst hsome
  rw [hM.out] at hml hfirst hsome
  rw [hN.out] at hnl hfirst hsome
  simp only [hK.out, hM.out, hN.out] at hat
  have d1 : ¬ (bs.length : Int) < 3 := by omega
  have d1' : decide ((bs.length : Int) < 3) = false := by simpa using d1
  have z0 : (0 : Int) < (bs.length : Int) := by omega
  have z1 : (1 : Int) < (bs.length : Int) := by omega
  have z2 : (2 : Int) < (bs.length : Int) := by omega
  have n0 : 0 < bs.length := by omega
  have n1 : 1 < bs.length := by omega
  have n2 : 2 < bs.length := by omega
  obtain ⟨x0, x1, x2⟩ := hat.out w0 kw0
  have hbR := hid bR
  have hkw := hid kw0
  have hq' := hq.out
  unfold maxLen at hm
  clear bR kw0 hs hs' hc hg hK hM hN hlen hbs
  by_cases hA : 4 < K
  · have y1 : (4 : Int) < (K : Int) := by omega
    have y1' : decide ((4 : Int) < (K : Int)) = true := by simpa using y1
    go_enter Tryz.func15, Tryz.ntmps15
    go_wp2_with fail
    go_quiet (fail)
    have bRq := hid (hbR.out.kept ((Kp.refl [] w0).drewN nq) (by simp) (hbR.out.lt (by simp)))
    have kq := hid (hkw.out.drewN nq)
    generalize w0.drewN nq = wq at *
    clear x0 x1 x2 hw0 hq'
    have hnone : Hid (hdR bs = none) := hfirst.out (.inl hA)
    have p0 := bRq.out.get 0 _ rfl; have f0 := bRq.out.free 0
    have p1 := bRq.out.get 1 _ rfl; have f1 := bRq.out.free 1
    have p2 := bRq.out.get 2 _ rfl; have f2 := bRq.out.free 2
    have p3 := bRq.out.get 3 _ rfl; have f3 := bRq.out.free 3
    have p4 := bRq.out.get 4 _ rfl; have f4 := bRq.out.free 4
    have p5 := bRq.out.get 5 _ rfl; have f5 := bRq.out.free 5
    have p6 := bRq.out.get 6 _ rfl; have f6 := bRq.out.free 6
    have p7 := bRq.out.get 7 _ rfl; have f7 := bRq.out.free 7
    have p8 := bRq.out.get 8 _ rfl; have f8 := bRq.out.free 8
    have p9 := bRq.out.get 9 _ rfl; have f9 := bRq.out.free 9
    have p10 := bRq.out.get 10 _ rfl; have f10 := bRq.out.free 10
    have p11 := bRq.out.get 11 _ rfl; have f11 := bRq.out.free 11
    obtain ⟨W, hW, bW, kW⟩ : ∃ Y9, ((((((((((((wq.setCell ⟨q, 0, none⟩ (.int .i64 0)).setCell ⟨q, 1, none⟩ (.int .i64 0)).setCell ⟨q, 2, none⟩ (.int .i64 0)).setCell ⟨q, 3, none⟩ (.bool false)).setCell ⟨q, 4, none⟩ (.int .i64 0)).setCell ⟨q, 5, none⟩ (.string ⟨#[]⟩)).setCell ⟨q, 6, none⟩ (.int .i64 0)).setCell ⟨q, 7, none⟩ (.bool false)).setCell ⟨q, 8, none⟩ (.int .i64 0)).setCell ⟨q, 9, none⟩ (.string ⟨#[]⟩)).setCell ⟨q, 10, none⟩ (.int .i64 0)).setCell ⟨q, 11, none⟩ (.int .i64 0)) = Y9 ∧ Bx Y9 q [.int .i64 0, .int .i64 0, .int .i64 0, .bool false, .int .i64 0, .string ⟨#[]⟩, .int .i64 0, .bool false, .int .i64 0, .string ⟨#[]⟩, .int .i64 0, .int .i64 0] ∧ Kp [q] wq Y9 := ⟨_, rfl, gen12q (R := fun Y9 => Bx Y9 q [.int .i64 0, .int .i64 0, .int .i64 0, .bool false, .int .i64 0, .string ⟨#[]⟩, .int .i64 0, .bool false, .int .i64 0, .string ⟨#[]⟩, .int .i64 0, .int .i64 0]) bRq.out rfl (.int .i64 0) (.int .i64 0) (.int .i64 0) (.bool false) (.int .i64 0) (.string ⟨#[]⟩) (.int .i64 0) (.bool false) (.int .i64 0) (.string ⟨#[]⟩) (.int .i64 0) (.int .i64 0) (fun Y9 b _ => b), gen12q (R := fun Y9 => Kp [q] wq Y9) bRq.out rfl (.int .i64 0) (.int .i64 0) (.int .i64 0) (.bool false) (.int .i64 0) (.string ⟨#[]⟩) (.int .i64 0) (.bool false) (.int .i64 0) (.string ⟨#[]⟩) (.int .i64 0) (.int .i64 0) (fun Y9 _ k => k)⟩
    have r0 := bW.get 0 _ rfl
    have r1 := bW.get 1 _ rfl
    have r2 := bW.get 2 _ rfl
    have r3 := bW.get 3 _ rfl
    have r4 := bW.get 4 _ rfl
    have r5 := bW.get 5 _ rfl
    have r6 := bW.get 6 _ rfl
    have r7 := bW.get 7 _ rfl
    have r8 := bW.get 8 _ rfl
    have r9 := bW.get 9 _ rfl
    have r10 := bW.get 10 _ rfl
    have r11 := bW.get 11 _ rfl
    have kkW := hid (kq.out.trans kW (fun x hx => .inr (by simp at hx; omega)))
    clear kW bW
    go_wp2_with fail
    refine bodyPost_ret (v := .tuple #[zeroI.v, .int .i64 0, .int .i64 70]) (by rw [zeroI_v]; simp [results, Tryz.results15, go_sem, r0, r1, r2, r3, r4, r5, r6, r7, r8, r9, r10, r11]) rfl ?_
    unfold HdP
    have e70 : hdP bs = (zeroI, 0, 70) := by unfold hdP; rw [hnone.out]
    rw [e70]
    exact ⟨rfl, kkW.out⟩
  have y1 : ¬ (4 : Int) < (K : Int) := by omega
  have y1' : decide ((4 : Int) < (K : Int)) = false := by simpa using y1
  by_cases hB : M = 0
  · have y2 : ((M : Int) == 0) = true := by simpa using hB
    go_enter Tryz.func15, Tryz.ntmps15
    go_wp2_with fail
    go_quiet (fail)
    have bRq := hid (hbR.out.kept ((Kp.refl [] w0).drewN nq) (by simp) (hbR.out.lt (by simp)))
    have kq := hid (hkw.out.drewN nq)
    generalize w0.drewN nq = wq at *
    clear x0 x1 x2 hw0 hq'
    have hnone : Hid (hdR bs = none) := hfirst.out (.inr (.inl hB))
    have p0 := bRq.out.get 0 _ rfl; have f0 := bRq.out.free 0
    have p1 := bRq.out.get 1 _ rfl; have f1 := bRq.out.free 1
    have p2 := bRq.out.get 2 _ rfl; have f2 := bRq.out.free 2
    have p3 := bRq.out.get 3 _ rfl; have f3 := bRq.out.free 3
    have p4 := bRq.out.get 4 _ rfl; have f4 := bRq.out.free 4
    have p5 := bRq.out.get 5 _ rfl; have f5 := bRq.out.free 5
    have p6 := bRq.out.get 6 _ rfl; have f6 := bRq.out.free 6
    have p7 := bRq.out.get 7 _ rfl; have f7 := bRq.out.free 7
    have p8 := bRq.out.get 8 _ rfl; have f8 := bRq.out.free 8
    have p9 := bRq.out.get 9 _ rfl; have f9 := bRq.out.free 9
    have p10 := bRq.out.get 10 _ rfl; have f10 := bRq.out.free 10
    have p11 := bRq.out.get 11 _ rfl; have f11 := bRq.out.free 11
    obtain ⟨W, hW, bW, kW⟩ : ∃ Y9, ((((((((((((wq.setCell ⟨q, 0, none⟩ (.int .i64 0)).setCell ⟨q, 1, none⟩ (.int .i64 0)).setCell ⟨q, 2, none⟩ (.int .i64 0)).setCell ⟨q, 3, none⟩ (.bool false)).setCell ⟨q, 4, none⟩ (.int .i64 0)).setCell ⟨q, 5, none⟩ (.string ⟨#[]⟩)).setCell ⟨q, 6, none⟩ (.int .i64 0)).setCell ⟨q, 7, none⟩ (.bool false)).setCell ⟨q, 8, none⟩ (.int .i64 0)).setCell ⟨q, 9, none⟩ (.string ⟨#[]⟩)).setCell ⟨q, 10, none⟩ (.int .i64 0)).setCell ⟨q, 11, none⟩ (.int .i64 0)) = Y9 ∧ Bx Y9 q [.int .i64 0, .int .i64 0, .int .i64 0, .bool false, .int .i64 0, .string ⟨#[]⟩, .int .i64 0, .bool false, .int .i64 0, .string ⟨#[]⟩, .int .i64 0, .int .i64 0] ∧ Kp [q] wq Y9 := ⟨_, rfl, gen12q (R := fun Y9 => Bx Y9 q [.int .i64 0, .int .i64 0, .int .i64 0, .bool false, .int .i64 0, .string ⟨#[]⟩, .int .i64 0, .bool false, .int .i64 0, .string ⟨#[]⟩, .int .i64 0, .int .i64 0]) bRq.out rfl (.int .i64 0) (.int .i64 0) (.int .i64 0) (.bool false) (.int .i64 0) (.string ⟨#[]⟩) (.int .i64 0) (.bool false) (.int .i64 0) (.string ⟨#[]⟩) (.int .i64 0) (.int .i64 0) (fun Y9 b _ => b), gen12q (R := fun Y9 => Kp [q] wq Y9) bRq.out rfl (.int .i64 0) (.int .i64 0) (.int .i64 0) (.bool false) (.int .i64 0) (.string ⟨#[]⟩) (.int .i64 0) (.bool false) (.int .i64 0) (.string ⟨#[]⟩) (.int .i64 0) (.int .i64 0) (fun Y9 _ k => k)⟩
    have r0 := bW.get 0 _ rfl
    have r1 := bW.get 1 _ rfl
    have r2 := bW.get 2 _ rfl
    have r3 := bW.get 3 _ rfl
    have r4 := bW.get 4 _ rfl
    have r5 := bW.get 5 _ rfl
    have r6 := bW.get 6 _ rfl
    have r7 := bW.get 7 _ rfl
    have r8 := bW.get 8 _ rfl
    have r9 := bW.get 9 _ rfl
    have r10 := bW.get 10 _ rfl
    have r11 := bW.get 11 _ rfl
    have kkW := hid (kq.out.trans kW (fun x hx => .inr (by simp at hx; omega)))
    clear kW bW
    go_wp2_with fail
    refine bodyPost_ret (v := .tuple #[zeroI.v, .int .i64 0, .int .i64 70]) (by rw [zeroI_v]; simp [results, Tryz.results15, go_sem, r0, r1, r2, r3, r4, r5, r6, r7, r8, r9, r10, r11]) rfl ?_
    unfold HdP
    have e70 : hdP bs = (zeroI, 0, 70) := by unfold hdP; rw [hnone.out]
    rw [e70]
    exact ⟨rfl, kkW.out⟩
  have y2 : ((M : Int) == 0) = false := beq_eq_false_iff_ne.2 (by omega)
  by_cases hC : 64 < M
  · have y3 : (64 : Int) < (M : Int) := by omega
    have y3' : decide ((64 : Int) < (M : Int)) = true := by simpa using y3
    go_enter Tryz.func15, Tryz.ntmps15
    go_wp2_with fail
    go_quiet (fail)
    have bRq := hid (hbR.out.kept ((Kp.refl [] w0).drewN nq) (by simp) (hbR.out.lt (by simp)))
    have kq := hid (hkw.out.drewN nq)
    generalize w0.drewN nq = wq at *
    clear x0 x1 x2 hw0 hq'
    have hnone : Hid (hdR bs = none) := hfirst.out (.inr (.inr (.inl hC)))
    have p0 := bRq.out.get 0 _ rfl; have f0 := bRq.out.free 0
    have p1 := bRq.out.get 1 _ rfl; have f1 := bRq.out.free 1
    have p2 := bRq.out.get 2 _ rfl; have f2 := bRq.out.free 2
    have p3 := bRq.out.get 3 _ rfl; have f3 := bRq.out.free 3
    have p4 := bRq.out.get 4 _ rfl; have f4 := bRq.out.free 4
    have p5 := bRq.out.get 5 _ rfl; have f5 := bRq.out.free 5
    have p6 := bRq.out.get 6 _ rfl; have f6 := bRq.out.free 6
    have p7 := bRq.out.get 7 _ rfl; have f7 := bRq.out.free 7
    have p8 := bRq.out.get 8 _ rfl; have f8 := bRq.out.free 8
    have p9 := bRq.out.get 9 _ rfl; have f9 := bRq.out.free 9
    have p10 := bRq.out.get 10 _ rfl; have f10 := bRq.out.free 10
    have p11 := bRq.out.get 11 _ rfl; have f11 := bRq.out.free 11
    obtain ⟨W, hW, bW, kW⟩ : ∃ Y9, ((((((((((((wq.setCell ⟨q, 0, none⟩ (.int .i64 0)).setCell ⟨q, 1, none⟩ (.int .i64 0)).setCell ⟨q, 2, none⟩ (.int .i64 0)).setCell ⟨q, 3, none⟩ (.bool false)).setCell ⟨q, 4, none⟩ (.int .i64 0)).setCell ⟨q, 5, none⟩ (.string ⟨#[]⟩)).setCell ⟨q, 6, none⟩ (.int .i64 0)).setCell ⟨q, 7, none⟩ (.bool false)).setCell ⟨q, 8, none⟩ (.int .i64 0)).setCell ⟨q, 9, none⟩ (.string ⟨#[]⟩)).setCell ⟨q, 10, none⟩ (.int .i64 0)).setCell ⟨q, 11, none⟩ (.int .i64 0)) = Y9 ∧ Bx Y9 q [.int .i64 0, .int .i64 0, .int .i64 0, .bool false, .int .i64 0, .string ⟨#[]⟩, .int .i64 0, .bool false, .int .i64 0, .string ⟨#[]⟩, .int .i64 0, .int .i64 0] ∧ Kp [q] wq Y9 := ⟨_, rfl, gen12q (R := fun Y9 => Bx Y9 q [.int .i64 0, .int .i64 0, .int .i64 0, .bool false, .int .i64 0, .string ⟨#[]⟩, .int .i64 0, .bool false, .int .i64 0, .string ⟨#[]⟩, .int .i64 0, .int .i64 0]) bRq.out rfl (.int .i64 0) (.int .i64 0) (.int .i64 0) (.bool false) (.int .i64 0) (.string ⟨#[]⟩) (.int .i64 0) (.bool false) (.int .i64 0) (.string ⟨#[]⟩) (.int .i64 0) (.int .i64 0) (fun Y9 b _ => b), gen12q (R := fun Y9 => Kp [q] wq Y9) bRq.out rfl (.int .i64 0) (.int .i64 0) (.int .i64 0) (.bool false) (.int .i64 0) (.string ⟨#[]⟩) (.int .i64 0) (.bool false) (.int .i64 0) (.string ⟨#[]⟩) (.int .i64 0) (.int .i64 0) (fun Y9 _ k => k)⟩
    have r0 := bW.get 0 _ rfl
    have r1 := bW.get 1 _ rfl
    have r2 := bW.get 2 _ rfl
    have r3 := bW.get 3 _ rfl
    have r4 := bW.get 4 _ rfl
    have r5 := bW.get 5 _ rfl
    have r6 := bW.get 6 _ rfl
    have r7 := bW.get 7 _ rfl
    have r8 := bW.get 8 _ rfl
    have r9 := bW.get 9 _ rfl
    have r10 := bW.get 10 _ rfl
    have r11 := bW.get 11 _ rfl
    have kkW := hid (kq.out.trans kW (fun x hx => .inr (by simp at hx; omega)))
    clear kW bW
    go_wp2_with fail
    refine bodyPost_ret (v := .tuple #[zeroI.v, .int .i64 0, .int .i64 70]) (by rw [zeroI_v]; simp [results, Tryz.results15, go_sem, r0, r1, r2, r3, r4, r5, r6, r7, r8, r9, r10, r11]) rfl ?_
    unfold HdP
    have e70 : hdP bs = (zeroI, 0, 70) := by unfold hdP; rw [hnone.out]
    rw [e70]
    exact ⟨rfl, kkW.out⟩
  have y3 : ¬ (64 : Int) < (M : Int) := by omega
  have y3' : decide ((64 : Int) < (M : Int)) = false := by simpa using y3
  by_cases hD : M < N
  · have y4 : (M : Int) < (N : Int) := by omega
    have y4' : decide ((M : Int) < (N : Int)) = true := by simpa using y4
    go_enter Tryz.func15, Tryz.ntmps15
    go_wp2_with fail
    go_quiet (fail)
    have bRq := hid (hbR.out.kept ((Kp.refl [] w0).drewN nq) (by simp) (hbR.out.lt (by simp)))
    have kq := hid (hkw.out.drewN nq)
    generalize w0.drewN nq = wq at *
    clear x0 x1 x2 hw0 hq'
    have hnone : Hid (hdR bs = none) := hfirst.out (.inr (.inr (.inr hD)))
    have p0 := bRq.out.get 0 _ rfl; have f0 := bRq.out.free 0
    have p1 := bRq.out.get 1 _ rfl; have f1 := bRq.out.free 1
    have p2 := bRq.out.get 2 _ rfl; have f2 := bRq.out.free 2
    have p3 := bRq.out.get 3 _ rfl; have f3 := bRq.out.free 3
    have p4 := bRq.out.get 4 _ rfl; have f4 := bRq.out.free 4
    have p5 := bRq.out.get 5 _ rfl; have f5 := bRq.out.free 5
    have p6 := bRq.out.get 6 _ rfl; have f6 := bRq.out.free 6
    have p7 := bRq.out.get 7 _ rfl; have f7 := bRq.out.free 7
    have p8 := bRq.out.get 8 _ rfl; have f8 := bRq.out.free 8
    have p9 := bRq.out.get 9 _ rfl; have f9 := bRq.out.free 9
    have p10 := bRq.out.get 10 _ rfl; have f10 := bRq.out.free 10
    have p11 := bRq.out.get 11 _ rfl; have f11 := bRq.out.free 11
    obtain ⟨W, hW, bW, kW⟩ : ∃ Y9, ((((((((((((wq.setCell ⟨q, 0, none⟩ (.int .i64 0)).setCell ⟨q, 1, none⟩ (.int .i64 0)).setCell ⟨q, 2, none⟩ (.int .i64 0)).setCell ⟨q, 3, none⟩ (.bool false)).setCell ⟨q, 4, none⟩ (.int .i64 0)).setCell ⟨q, 5, none⟩ (.string ⟨#[]⟩)).setCell ⟨q, 6, none⟩ (.int .i64 0)).setCell ⟨q, 7, none⟩ (.bool false)).setCell ⟨q, 8, none⟩ (.int .i64 0)).setCell ⟨q, 9, none⟩ (.string ⟨#[]⟩)).setCell ⟨q, 10, none⟩ (.int .i64 0)).setCell ⟨q, 11, none⟩ (.int .i64 0)) = Y9 ∧ Bx Y9 q [.int .i64 0, .int .i64 0, .int .i64 0, .bool false, .int .i64 0, .string ⟨#[]⟩, .int .i64 0, .bool false, .int .i64 0, .string ⟨#[]⟩, .int .i64 0, .int .i64 0] ∧ Kp [q] wq Y9 := ⟨_, rfl, gen12q (R := fun Y9 => Bx Y9 q [.int .i64 0, .int .i64 0, .int .i64 0, .bool false, .int .i64 0, .string ⟨#[]⟩, .int .i64 0, .bool false, .int .i64 0, .string ⟨#[]⟩, .int .i64 0, .int .i64 0]) bRq.out rfl (.int .i64 0) (.int .i64 0) (.int .i64 0) (.bool false) (.int .i64 0) (.string ⟨#[]⟩) (.int .i64 0) (.bool false) (.int .i64 0) (.string ⟨#[]⟩) (.int .i64 0) (.int .i64 0) (fun Y9 b _ => b), gen12q (R := fun Y9 => Kp [q] wq Y9) bRq.out rfl (.int .i64 0) (.int .i64 0) (.int .i64 0) (.bool false) (.int .i64 0) (.string ⟨#[]⟩) (.int .i64 0) (.bool false) (.int .i64 0) (.string ⟨#[]⟩) (.int .i64 0) (.int .i64 0) (fun Y9 _ k => k)⟩
    have r0 := bW.get 0 _ rfl
    have r1 := bW.get 1 _ rfl
    have r2 := bW.get 2 _ rfl
    have r3 := bW.get 3 _ rfl
    have r4 := bW.get 4 _ rfl
    have r5 := bW.get 5 _ rfl
    have r6 := bW.get 6 _ rfl
    have r7 := bW.get 7 _ rfl
    have r8 := bW.get 8 _ rfl
    have r9 := bW.get 9 _ rfl
    have r10 := bW.get 10 _ rfl
    have r11 := bW.get 11 _ rfl
    have kkW := hid (kq.out.trans kW (fun x hx => .inr (by simp at hx; omega)))
    clear kW bW
    go_wp2_with fail
    refine bodyPost_ret (v := .tuple #[zeroI.v, .int .i64 0, .int .i64 70]) (by rw [zeroI_v]; simp [results, Tryz.results15, go_sem, r0, r1, r2, r3, r4, r5, r6, r7, r8, r9, r10, r11]) rfl ?_
    unfold HdP
    have e70 : hdP bs = (zeroI, 0, 70) := by unfold hdP; rw [hnone.out]
    rw [e70]
    exact ⟨rfl, kkW.out⟩
  have y4 : ¬ (M : Int) < (N : Int) := by omega
  have y4' : decide ((M : Int) < (N : Int)) = false := by simpa using y4
  have hsm := hid (hsome.out (by omega))
  clear hsome hfirst
  go_enter Tryz.func15, Tryz.ntmps15
  go_wp2_with fail
  go_quiet (fail)
  have bRq := hid (hbR.out.kept ((Kp.refl [] w0).drewN nq) (by simp) (hbR.out.lt (by simp)))
  have kq := hid (hkw.out.drewN nq)
  generalize w0.drewN nq = wq at *
  clear x0 x1 x2 hw0 hq'
  clear y1 y1' y2 y3 y3' y4 y4' d1 d1'
  -- the head's first three fields
  have kd : Kp [] wq wq.drew := (Kp.refl _ _).drew
  have hS : Hid (∀ A, Kp [] wq A → (A.cell? ⟨g, o, none⟩ = some (.int .u8 K) ∧ A.cell? ⟨g, o + 1, none⟩ = some (.int .u8 M) ∧ A.cell? ⟨g, o + 2, none⟩ = some (.int .u8 N))) := fun A kA => hat.out A (kq.out.trans kA (by simp))
  go_wp2_with fail
  refine wp_region_held_drew (S := (fun A => A.cell? ⟨g, o, none⟩ = some (.int .u8 K) ∧ A.cell? ⟨g, o + 1, none⟩ = some (.int .u8 M) ∧ A.cell? ⟨g, o + 2, none⟩ = some (.int .u8 N))) (by kernel_rfl) ?_ (fun hHeld => ?_)
  · exact hS.out _ kd
  have hkd := hid kd
  have kwd := hid (kq.out.trans kd (by simp))
  have hbd := hid (bRq.out.kept kd (by simp) (bRq.out.lt (by simp)))
  clear hHeld kd bRq
  have hHeld := hS.out _ hkd.out
  generalize wq.drew = wd at *
  have wk : IntKind.i64.wrap (K : Int) = (K : Int) := by rw [IntKind.wrap_i64]; omega
  have wm : IntKind.i64.wrap (M : Int) = (M : Int) := by rw [IntKind.wrap_i64]; omega
  have wn : IntKind.i64.wrap (N : Int) = (N : Int) := by rw [IntKind.wrap_i64]; omega
  refine wpAnyH_take (i := 0) (v := ?_) rfl (by kernel_rfl) (by kernel_rfl) (by kernel_rfl) (fun _ _ _ h => h) (Or.inl ⟨by rfl, ?_⟩) (by assumption) ?_
  rotate_left
  · intro w hSw; (try dsimp only at hSw); go_simp <;> with_reducible rfl
  try simp only [Act.put, List.getElem_toArray, List.getElem_cons_zero, List.getElem_cons_succ, List.setIfInBounds_toArray, List.set_cons_zero, List.set_cons_succ]
  refine wpAnyH_take (i := 1) (v := ?_) rfl (by kernel_rfl) (by kernel_rfl) (by kernel_rfl) (fun _ _ _ h => h) (Or.inl ⟨by rfl, ?_⟩) (by assumption) ?_
  rotate_left
  · intro w hSw; (try dsimp only at hSw); go_simp <;> with_reducible rfl
  try simp only [Act.put, List.getElem_toArray, List.getElem_cons_zero, List.getElem_cons_succ, List.setIfInBounds_toArray, List.set_cons_zero, List.set_cons_succ]
  refine wpAnyH_take (i := 2) (v := ?_) rfl (by kernel_rfl) (by kernel_rfl) (by kernel_rfl) (fun _ _ _ h => h) (Or.inl ⟨by rfl, ?_⟩) (by assumption) ?_
  rotate_left
  · intro w hSw; (try dsimp only at hSw); go_simp <;> with_reducible rfl
  try simp only [Act.put, List.getElem_toArray, List.getElem_cons_zero, List.getElem_cons_succ, List.setIfInBounds_toArray, List.set_cons_zero, List.set_cons_succ]
  refine wpAnyH_take (i := 3) (v := ?_) rfl (by kernel_rfl) (by kernel_rfl) (by kernel_rfl) (fun _ _ _ h => h) (Or.inl ⟨by rfl, ?_⟩) (by assumption) ?_
  rotate_left
  · intro w hSw; (try dsimp only at hSw); go_simp <;> with_reducible rfl
  try simp only [Act.put, List.getElem_toArray, List.getElem_cons_zero, List.getElem_cons_succ, List.setIfInBounds_toArray, List.set_cons_zero, List.set_cons_succ]
  refine wpAnyH_take (i := 4) (v := ?_) rfl (by kernel_rfl) (by kernel_rfl) (by kernel_rfl) (fun _ _ _ h => h) (Or.inl ⟨by rfl, ?_⟩) (by assumption) ?_
  rotate_left
  · intro w hSw; (try dsimp only at hSw); go_simp <;> with_reducible rfl
  try simp only [Act.put, List.getElem_toArray, List.getElem_cons_zero, List.getElem_cons_succ, List.setIfInBounds_toArray, List.set_cons_zero, List.set_cons_succ]
  refine wpAnyH_take (i := 5) (v := ?_) rfl (by kernel_rfl) (by kernel_rfl) (by kernel_rfl) (fun _ _ _ h => h) (Or.inl ⟨by rfl, ?_⟩) (by assumption) ?_
  rotate_left
  · intro w hSw; (try dsimp only at hSw); go_simp <;> with_reducible rfl
  try simp only [Act.put, List.getElem_toArray, List.getElem_cons_zero, List.getElem_cons_succ, List.setIfInBounds_toArray, List.set_cons_zero, List.set_cons_succ]
  refine wpAnyH_take (i := 6) (v := ?_) rfl (by kernel_rfl) (by kernel_rfl) (by kernel_rfl) (fun _ _ _ h => h) (Or.inl ⟨by rfl, ?_⟩) (by assumption) ?_
  rotate_left
  · intro w hSw; (try dsimp only at hSw); go_simp <;> with_reducible rfl
  try simp only [Act.put, List.getElem_toArray, List.getElem_cons_zero, List.getElem_cons_succ, List.setIfInBounds_toArray, List.set_cons_zero, List.set_cons_succ]
  refine wpAnyH_take (i := 7) (v := ?_) rfl (by kernel_rfl) (by kernel_rfl) (by kernel_rfl) (fun _ _ _ h => h) (Or.inl ⟨by rfl, ?_⟩) (by assumption) ?_
  rotate_left
  · intro w hSw; (try dsimp only at hSw); go_simp <;> with_reducible rfl
  try simp only [Act.put, List.getElem_toArray, List.getElem_cons_zero, List.getElem_cons_succ, List.setIfInBounds_toArray, List.set_cons_zero, List.set_cons_succ]
  refine wpAnyH_take (i := 8) (v := ?_) rfl (by kernel_rfl) (by kernel_rfl) (by kernel_rfl) (fun _ _ _ h => h) (Or.inl ⟨by rfl, ?_⟩) (by assumption) ?_
  rotate_left
  · intro w hSw; (try dsimp only at hSw); go_simp <;> with_reducible rfl
  try simp only [Act.put, List.getElem_toArray, List.getElem_cons_zero, List.getElem_cons_succ, List.setIfInBounds_toArray, List.set_cons_zero, List.set_cons_succ]
  refine wpAnyH_take (i := 9) (v := ?_) rfl (by kernel_rfl) (by kernel_rfl) (by kernel_rfl) (fun _ _ _ h => h) (Or.inl ⟨by rfl, ?_⟩) (by assumption) ?_
  rotate_left
  · intro w hSw; (try dsimp only at hSw); go_simp <;> with_reducible rfl
  try simp only [Act.put, List.getElem_toArray, List.getElem_cons_zero, List.getElem_cons_succ, List.setIfInBounds_toArray, List.set_cons_zero, List.set_cons_succ]
  refine wpAnyH_take (i := 10) (v := ?_) rfl (by kernel_rfl) (by kernel_rfl) (by kernel_rfl) (fun _ _ _ h => h) (Or.inl ⟨by rfl, ?_⟩) (by assumption) ?_
  rotate_left
  · intro w hSw; (try dsimp only at hSw); go_simp <;> with_reducible rfl
  try simp only [Act.put, List.getElem_toArray, List.getElem_cons_zero, List.getElem_cons_succ, List.setIfInBounds_toArray, List.set_cons_zero, List.set_cons_succ]
  refine wpAnyH_take (i := 11) (v := ?_) rfl (by kernel_rfl) (by kernel_rfl) (by kernel_rfl) (fun _ _ _ h => h) (Or.inl ⟨by rfl, ?_⟩) (by assumption) ?_
  rotate_left
  · intro w hSw; (try dsimp only at hSw); go_simp <;> with_reducible rfl
  try simp only [Act.put, List.getElem_toArray, List.getElem_cons_zero, List.getElem_cons_succ, List.setIfInBounds_toArray, List.set_cons_zero, List.set_cons_succ]
  refine wpAnyH_take (i := 12) (v := ?_) rfl (by kernel_rfl) (by kernel_rfl) (by kernel_rfl) (fun _ _ _ h => h) (Or.inl ⟨by rfl, ?_⟩) (by assumption) ?_
  rotate_left
  · intro w hSw; (try dsimp only at hSw); go_simp <;> with_reducible rfl
  try simp only [Act.put, List.getElem_toArray, List.getElem_cons_zero, List.getElem_cons_succ, List.setIfInBounds_toArray, List.set_cons_zero, List.set_cons_succ]
  obtain ⟨w1, hw1, k1, bI⟩ : ∃ w1, wd.alloc (.cells #[.int .i64 0, .int .i64 0, .int .i64 0, .bool false, .int .i64 0, .string ⟨#[]⟩, .int .i64 0, .bool false, .int .i64 0, .string ⟨#[]⟩, .int .i64 0, .int .i64 0] 37) = w1 ∧ Kp [] wd w1 ∧ Bx w1 wd.heap.size [.int .i64 0, .int .i64 0, .int .i64 0, .bool false, .int .i64 0, .string ⟨#[]⟩, .int .i64 0, .bool false, .int .i64 0, .string ⟨#[]⟩, .int .i64 0, .int .i64 0] := ⟨_, rfl, (Kp.refl _ _).alloc _, Bx.new wd _ _⟩
  obtain ⟨qi, hqi⟩ : ∃ q, Hid (wd.heap.size = q) := ⟨_, rfl⟩
  have hne : q ≠ qi := by rw [← hqi.out]; have := hbd.out.lt (by simp); omega
  have hqiw : w.heap.size ≤ qi := by rw [← hqi.out]; exact kwd.out.size
  rw [hqi.out] at bI
  have hw1' := hid hw1
  have hbI := hid bI
  have k1' := hid k1
  clear hw1 bI k1
  refine wpAnyH_ready (rs := [13]) (by kernel_rfl) (by simp) ?_
  refine AllReadyH.cons rfl (fun K1 hK => ?_) AllReadyH.nil
  go_simp
  rw [hw1'.out, hqi.out]
  refine hK.out _ _ ?_ (fun hHeld => ?_)
  · exact hS.out _ (hkd.out.trans k1'.out (by simp))
  clear hK
  try simp only [Act.put, List.getElem_toArray, List.getElem_cons_zero, List.getElem_cons_succ, List.setIfInBounds_toArray, List.set_cons_zero, List.set_cons_succ]
  have p0 := hbI.out.get 0 _ rfl; have f0 := hbI.out.free 0
  have p1 := hbI.out.get 1 _ rfl; have f1 := hbI.out.free 1
  have p2 := hbI.out.get 2 _ rfl; have f2 := hbI.out.free 2
  have p3 := hbI.out.get 3 _ rfl; have f3 := hbI.out.free 3
  have p4 := hbI.out.get 4 _ rfl; have f4 := hbI.out.free 4
  have p5 := hbI.out.get 5 _ rfl; have f5 := hbI.out.free 5
  have p6 := hbI.out.get 6 _ rfl; have f6 := hbI.out.free 6
  have p7 := hbI.out.get 7 _ rfl; have f7 := hbI.out.free 7
  have p8 := hbI.out.get 8 _ rfl; have f8 := hbI.out.free 8
  have p9 := hbI.out.get 9 _ rfl; have f9 := hbI.out.free 9
  have p10 := hbI.out.get 10 _ rfl; have f10 := hbI.out.free 10
  have p11 := hbI.out.get 11 _ rfl; have f11 := hbI.out.free 11
  obtain ⟨W, hW, bW, kW⟩ : ∃ Y9, ((((((((((((w1.setCell ⟨qi, 0, none⟩ (.int .i64 (K : Int))).setCell ⟨qi, 1, none⟩ (.int .i64 (M : Int))).setCell ⟨qi, 2, none⟩ (.int .i64 0)).setCell ⟨qi, 3, none⟩ (.bool false)).setCell ⟨qi, 4, none⟩ (.int .i64 0)).setCell ⟨qi, 5, none⟩ (.string ⟨#[]⟩)).setCell ⟨qi, 6, none⟩ (.int .i64 0)).setCell ⟨qi, 7, none⟩ (.bool false)).setCell ⟨qi, 8, none⟩ (.int .i64 0)).setCell ⟨qi, 9, none⟩ (.string ⟨#[]⟩)).setCell ⟨qi, 10, none⟩ (.int .i64 (N : Int))).setCell ⟨qi, 11, none⟩ (.int .i64 0)) = Y9 ∧ Bx Y9 qi [.int .i64 (K : Int), .int .i64 (M : Int), .int .i64 0, .bool false, .int .i64 0, .string ⟨#[]⟩, .int .i64 0, .bool false, .int .i64 0, .string ⟨#[]⟩, .int .i64 (N : Int), .int .i64 0] ∧ Kp [qi] w1 Y9 := ⟨_, rfl, gen12q (R := fun Y9 => Bx Y9 qi [.int .i64 (K : Int), .int .i64 (M : Int), .int .i64 0, .bool false, .int .i64 0, .string ⟨#[]⟩, .int .i64 0, .bool false, .int .i64 0, .string ⟨#[]⟩, .int .i64 (N : Int), .int .i64 0]) hbI.out rfl (.int .i64 (K : Int)) (.int .i64 (M : Int)) (.int .i64 0) (.bool false) (.int .i64 0) (.string ⟨#[]⟩) (.int .i64 0) (.bool false) (.int .i64 0) (.string ⟨#[]⟩) (.int .i64 (N : Int)) (.int .i64 0) (fun Y9 b _ => b), gen12q (R := fun Y9 => Kp [qi] w1 Y9) hbI.out rfl (.int .i64 (K : Int)) (.int .i64 (M : Int)) (.int .i64 0) (.bool false) (.int .i64 0) (.string ⟨#[]⟩) (.int .i64 0) (.bool false) (.int .i64 0) (.string ⟨#[]⟩) (.int .i64 (N : Int)) (.int .i64 0) (fun Y9 _ k => k)⟩
  refine wpAnyH_ready (rs := [14]) (by kernel_rfl) (by simp) ?_
  refine AllReadyH.cons rfl (fun K2 hK => ?_) AllReadyH.nil
  go_simp
  refine hK.out _ _ ?_ (fun hHeld => ?_)
  · exact hS.out _ ((hkd.out.trans k1'.out (by simp)).trans kW (fun x hx => .inr (by simp at hx; have := hkd.out.size; rw [hx, ← hqi.out]; omega)))
  clear hK K2
  try simp only [Act.put, List.getElem_toArray, List.getElem_cons_zero, List.getElem_cons_succ, List.setIfInBounds_toArray, List.set_cons_zero, List.set_cons_succ]
  refine wpAnyH_done (by kernel_rfl) ?_ _
  have kwW := hid (((kwd.out.trans k1'.out (by simp)).trans kW (fun x hx => .inr (by simp at hx; omega))))
  have bRW := hid ((hbd.out.kept k1'.out (by simp) (hbd.out.lt (by simp))).kept kW (by simpa using hne) (by have := hbd.out.lt (by simp); have := k1'.out.size; omega))
  have hbW := hid bW
  clear p0 f0 p1 f1 p2 f2 p3 f3 p4 f4 p5 f5 p6 f6 p7 f7 p8 f8 p9 f9 p10 f10 p11 f11 hHeld hW bW kW hS hbd hkd hbI hw1' k1' kwd wk wm wn
  -- the least
  obtain ⟨A3, hA3⟩ : ∃ A, (if c = 3 then some ({ block := g, off := o } : Addr) else some ({ block := g, off := o + 3 } : Addr)) = A := ⟨_, rfl⟩
  have hs3 : Sees W A3 (bs.drop 3) := by
    rw [← hA3]
    by_cases h : c = 3
    · exact .inl (List.drop_of_length_le (by omega))
    · rw [if_neg h]
      have := (hsB.out W kwW.out).tail 3
      simpa [Addr.add_lit] using this
  have l3 : (bs.drop 3).length = bs.length - 3 := List.length_drop
  have cF := cFront A3 (c - 3) (bs.drop 3) W hs3 (by omega) (by unfold maxLen; omega)
  have hle1 := rowF_le (bs.drop 3)
  unfold Tk at cF
  rw [l3] at cF hle1
  obtain ⟨⟨⟨mk, mb, mn, mt⟩, n1⟩, hv1⟩ : ∃ v, Hid (rowF (bs.drop 3) = v) := ⟨_, rfl⟩
  rw [hv1.out] at cF hle1
  simp only [hv1.out] at hsm
  unfold Val.v at cF
  dsimp only at cF hle1
  have q3 : (3 : Int) ≤ (bs.length : Int) := by omega
  clear hs3 l3 hv1 hat
  go_wp2_with fail
  try rw [hA3]
  refine cF.mono ?_
  rintro e w3 ⟨rfl, k3⟩
  have kw3 := hid (kwW.out.trans k3 (by simp))
  have bR3 := hid (bRW.out.kept k3 (by simp) (bRW.out.lt (by simp)))
  have bI3 := hid (hbW.out.kept k3 (by simp) (hbW.out.lt (by simp)))
  obtain ⟨w4, hw4⟩ : ∃ w4, w3.alloc (.cells #[.int .i64 mk, .bool mb, .int .i64 mn, .string mt] 32) = w4 := ⟨_, rfl⟩
  have k4 : Kp [] w3 w4 := by rw [← hw4]; exact (Kp.refl _ _).alloc _
  obtain ⟨q6, hq6⟩ : ∃ q, Hid (w3.heap.size = q) := ⟨_, rfl⟩
  have bx6 := Box4.new w3 (.int .i64 mk) (.bool mb) (.int .i64 mn) (.string mt) 32
  rw [hw4, hq6.out] at bx6
  have hbx6 := hid bx6
  have kw4 := hid (kw3.out.trans k4 (by simp))
  have bR4 := hid (bR3.out.kept k4 (by simp) (bR3.out.lt (by simp)))
  have bI4 := hid (bI3.out.kept k4 (by simp) (bI3.out.lt (by simp)))
  have hqi6 : qi < q6 := by rw [← hq6.out]; exact bI3.out.lt (by simp)
  have hqq6 : q < q6 := by rw [← hq6.out]; exact bR3.out.lt (by simp)
  have hq6' := hq6.out
  clear cF k3 bR3 bI3 bRW hbW bx6 k4 kw3 kwW q3 hA3
  by_cases hn1 : n1 = 0
  · have y1 : ((n1 : Int) == 0) = true := by simpa using hn1
    have hnone : Hid (hdR bs = none) := by show _ = _; rw [hsm.out, if_pos hn1]
    have p0 := bR4.out.get 0 _ rfl; have f0 := bR4.out.free 0
    have p1 := bR4.out.get 1 _ rfl; have f1 := bR4.out.free 1
    have p2 := bR4.out.get 2 _ rfl; have f2 := bR4.out.free 2
    have p3 := bR4.out.get 3 _ rfl; have f3 := bR4.out.free 3
    have p4 := bR4.out.get 4 _ rfl; have f4 := bR4.out.free 4
    have p5 := bR4.out.get 5 _ rfl; have f5 := bR4.out.free 5
    have p6 := bR4.out.get 6 _ rfl; have f6 := bR4.out.free 6
    have p7 := bR4.out.get 7 _ rfl; have f7 := bR4.out.free 7
    have p8 := bR4.out.get 8 _ rfl; have f8 := bR4.out.free 8
    have p9 := bR4.out.get 9 _ rfl; have f9 := bR4.out.free 9
    have p10 := bR4.out.get 10 _ rfl; have f10 := bR4.out.free 10
    have p11 := bR4.out.get 11 _ rfl; have f11 := bR4.out.free 11
    obtain ⟨W, hW, bW, kW⟩ : ∃ Y9, ((((((((((((w4.setCell ⟨q, 0, none⟩ (.int .i64 0)).setCell ⟨q, 1, none⟩ (.int .i64 0)).setCell ⟨q, 2, none⟩ (.int .i64 0)).setCell ⟨q, 3, none⟩ (.bool false)).setCell ⟨q, 4, none⟩ (.int .i64 0)).setCell ⟨q, 5, none⟩ (.string ⟨#[]⟩)).setCell ⟨q, 6, none⟩ (.int .i64 0)).setCell ⟨q, 7, none⟩ (.bool false)).setCell ⟨q, 8, none⟩ (.int .i64 0)).setCell ⟨q, 9, none⟩ (.string ⟨#[]⟩)).setCell ⟨q, 10, none⟩ (.int .i64 0)).setCell ⟨q, 11, none⟩ (.int .i64 0)) = Y9 ∧ Bx Y9 q [.int .i64 0, .int .i64 0, .int .i64 0, .bool false, .int .i64 0, .string ⟨#[]⟩, .int .i64 0, .bool false, .int .i64 0, .string ⟨#[]⟩, .int .i64 0, .int .i64 0] ∧ Kp [q] w4 Y9 := ⟨_, rfl, gen12q (R := fun Y9 => Bx Y9 q [.int .i64 0, .int .i64 0, .int .i64 0, .bool false, .int .i64 0, .string ⟨#[]⟩, .int .i64 0, .bool false, .int .i64 0, .string ⟨#[]⟩, .int .i64 0, .int .i64 0]) bR4.out rfl (.int .i64 0) (.int .i64 0) (.int .i64 0) (.bool false) (.int .i64 0) (.string ⟨#[]⟩) (.int .i64 0) (.bool false) (.int .i64 0) (.string ⟨#[]⟩) (.int .i64 0) (.int .i64 0) (fun Y9 b _ => b), gen12q (R := fun Y9 => Kp [q] w4 Y9) bR4.out rfl (.int .i64 0) (.int .i64 0) (.int .i64 0) (.bool false) (.int .i64 0) (.string ⟨#[]⟩) (.int .i64 0) (.bool false) (.int .i64 0) (.string ⟨#[]⟩) (.int .i64 0) (.int .i64 0) (fun Y9 _ k => k)⟩
    have r0 := bW.get 0 _ rfl
    have r1 := bW.get 1 _ rfl
    have r2 := bW.get 2 _ rfl
    have r3 := bW.get 3 _ rfl
    have r4 := bW.get 4 _ rfl
    have r5 := bW.get 5 _ rfl
    have r6 := bW.get 6 _ rfl
    have r7 := bW.get 7 _ rfl
    have r8 := bW.get 8 _ rfl
    have r9 := bW.get 9 _ rfl
    have r10 := bW.get 10 _ rfl
    have r11 := bW.get 11 _ rfl
    have kkW := hid (kw4.out.trans kW (fun x hx => .inr (by simp at hx; omega)))
    clear kW bW
    go_wp2_with fail
    refine bodyPost_ret (v := .tuple #[zeroI.v, .int .i64 0, .int .i64 70]) (by rw [zeroI_v]; simp [results, Tryz.results15, go_sem, r0, r1, r2, r3, r4, r5, r6, r7, r8, r9, r10, r11]) rfl ?_
    unfold HdP
    have e70 : hdP bs = (zeroI, 0, 70) := by unfold hdP; rw [hnone.out]
    rw [e70]
    exact ⟨rfl, kkW.out⟩
  have y1 : ((n1 : Int) == 0) = false := beq_eq_false_iff_ne.2 (by omega)
  rw [if_neg hn1] at hsm
  -- the greatest
  obtain ⟨P3, hP3⟩ : ∃ x : Nat, Hid (3 + n1 = x) := ⟨_, rfl⟩
  rw [hP3.out] at hsm
  have hPn : P3 ≤ bs.length := by rw [← hP3.out]; omega
  obtain ⟨A4, hA4⟩ : ∃ A, (if c = P3 then some ({ block := g, off := o } : Addr) else some ({ block := g, off := o + P3 } : Addr)) = A := ⟨_, rfl⟩
  have hs4 : Sees w4 A4 (bs.drop P3) := by
    rw [← hA4]
    by_cases h : c = P3
    · exact .inl (List.drop_of_length_le (by omega))
    · rw [if_neg h]
      have := (hsB.out w4 kw4.out).tail P3
      simpa [Addr.add_lit] using this
  have l4 : (bs.drop P3).length = bs.length - P3 := List.length_drop
  have cF := cFront A4 (c - P3) (bs.drop P3) w4 hs4 (by omega) (by unfold maxLen; omega)
  have hle2 := rowF_le (bs.drop P3)
  unfold Tk at cF
  rw [l4] at cF hle2
  obtain ⟨⟨⟨xk, xb, xn, xt⟩, n2'⟩, hv2⟩ : ∃ v, Hid (rowF (bs.drop P3) = v) := ⟨_, rfl⟩
  rw [hv2.out] at cF hle2
  simp only [hv2.out] at hsm
  unfold Val.v at cF
  dsimp only at cF hle2
  have i3 : (3 : Int) + (n1 : Int) = (P3 : Int) := by have := hP3.out; omega
  have q4 : (P3 : Int) ≤ (bs.length : Int) := by omega
  clear hs4 l4 hv2
  go_wp2_with fail
  try rw [hA4]
  refine cF.mono ?_
  rintro e w5 ⟨rfl, k5⟩
  have kw5 := hid (kw4.out.trans k5 (by simp))
  have bR5 := hid (bR4.out.kept k5 (by simp) (bR4.out.lt (by simp)))
  have bI5 := hid (bI4.out.kept k5 (by simp) (bI4.out.lt (by simp)))
  have bx5 := hid (hbx6.out.kept k5 (by simp))
  obtain ⟨w6, hw6⟩ : ∃ w6, w5.alloc (.cells #[.int .i64 xk, .bool xb, .int .i64 xn, .string xt] 32) = w6 := ⟨_, rfl⟩
  have k6 : Kp [] w5 w6 := by rw [← hw6]; exact (Kp.refl _ _).alloc _
  obtain ⟨q8, hq8⟩ : ∃ q, Hid (w5.heap.size = q) := ⟨_, rfl⟩
  have bx8 := Box4.new w5 (.int .i64 xk) (.bool xb) (.int .i64 xn) (.string xt) 32
  rw [hw6, hq8.out] at bx8
  have hbx8 := hid bx8
  have kw6 := hid (kw5.out.trans k6 (by simp))
  have bR6 := hid (bR5.out.kept k6 (by simp) (bR5.out.lt (by simp)))
  have bI6 := hid (bI5.out.kept k6 (by simp) (bI5.out.lt (by simp)))
  have bx6 := hid (bx5.out.kept k6 (by simp))
  have hqi8 : qi < q8 := by rw [← hq8.out]; exact bI5.out.lt (by simp)
  have hqq8 : q < q8 := by rw [← hq8.out]; exact bR5.out.lt (by simp)
  have hq8' := hq8.out
  obtain ⟨AT, hAT⟩ : ∃ x : Nat, Hid (P3 + n2' = x) := ⟨_, rfl⟩
  have hATb : AT ≤ bs.length := by have := hAT.out; omega
  have i4 : (P3 : Int) + (n2' : Int) = (AT : Int) := by have := hAT.out; omega
  rw [hAT.out] at hsm
  clear cF k5 bR5 bI5 bx5 bx8 k6 kw5 kw4 bR4 bI4 hbx6 hA4 hw4 hq6'
  by_cases hn2 : n2' = 0
  · have y2 : ((n2' : Int) == 0) = true := by simpa using hn2
    have hnone : Hid (hdR bs = none) := by show _ = _; rw [hsm.out, if_pos (.inl hn2)]
    have p0 := bR6.out.get 0 _ rfl; have f0 := bR6.out.free 0
    have p1 := bR6.out.get 1 _ rfl; have f1 := bR6.out.free 1
    have p2 := bR6.out.get 2 _ rfl; have f2 := bR6.out.free 2
    have p3 := bR6.out.get 3 _ rfl; have f3 := bR6.out.free 3
    have p4 := bR6.out.get 4 _ rfl; have f4 := bR6.out.free 4
    have p5 := bR6.out.get 5 _ rfl; have f5 := bR6.out.free 5
    have p6 := bR6.out.get 6 _ rfl; have f6 := bR6.out.free 6
    have p7 := bR6.out.get 7 _ rfl; have f7 := bR6.out.free 7
    have p8 := bR6.out.get 8 _ rfl; have f8 := bR6.out.free 8
    have p9 := bR6.out.get 9 _ rfl; have f9 := bR6.out.free 9
    have p10 := bR6.out.get 10 _ rfl; have f10 := bR6.out.free 10
    have p11 := bR6.out.get 11 _ rfl; have f11 := bR6.out.free 11
    obtain ⟨W, hW, bW, kW⟩ : ∃ Y9, ((((((((((((w6.setCell ⟨q, 0, none⟩ (.int .i64 0)).setCell ⟨q, 1, none⟩ (.int .i64 0)).setCell ⟨q, 2, none⟩ (.int .i64 0)).setCell ⟨q, 3, none⟩ (.bool false)).setCell ⟨q, 4, none⟩ (.int .i64 0)).setCell ⟨q, 5, none⟩ (.string ⟨#[]⟩)).setCell ⟨q, 6, none⟩ (.int .i64 0)).setCell ⟨q, 7, none⟩ (.bool false)).setCell ⟨q, 8, none⟩ (.int .i64 0)).setCell ⟨q, 9, none⟩ (.string ⟨#[]⟩)).setCell ⟨q, 10, none⟩ (.int .i64 0)).setCell ⟨q, 11, none⟩ (.int .i64 0)) = Y9 ∧ Bx Y9 q [.int .i64 0, .int .i64 0, .int .i64 0, .bool false, .int .i64 0, .string ⟨#[]⟩, .int .i64 0, .bool false, .int .i64 0, .string ⟨#[]⟩, .int .i64 0, .int .i64 0] ∧ Kp [q] w6 Y9 := ⟨_, rfl, gen12q (R := fun Y9 => Bx Y9 q [.int .i64 0, .int .i64 0, .int .i64 0, .bool false, .int .i64 0, .string ⟨#[]⟩, .int .i64 0, .bool false, .int .i64 0, .string ⟨#[]⟩, .int .i64 0, .int .i64 0]) bR6.out rfl (.int .i64 0) (.int .i64 0) (.int .i64 0) (.bool false) (.int .i64 0) (.string ⟨#[]⟩) (.int .i64 0) (.bool false) (.int .i64 0) (.string ⟨#[]⟩) (.int .i64 0) (.int .i64 0) (fun Y9 b _ => b), gen12q (R := fun Y9 => Kp [q] w6 Y9) bR6.out rfl (.int .i64 0) (.int .i64 0) (.int .i64 0) (.bool false) (.int .i64 0) (.string ⟨#[]⟩) (.int .i64 0) (.bool false) (.int .i64 0) (.string ⟨#[]⟩) (.int .i64 0) (.int .i64 0) (fun Y9 _ k => k)⟩
    have r0 := bW.get 0 _ rfl
    have r1 := bW.get 1 _ rfl
    have r2 := bW.get 2 _ rfl
    have r3 := bW.get 3 _ rfl
    have r4 := bW.get 4 _ rfl
    have r5 := bW.get 5 _ rfl
    have r6 := bW.get 6 _ rfl
    have r7 := bW.get 7 _ rfl
    have r8 := bW.get 8 _ rfl
    have r9 := bW.get 9 _ rfl
    have r10 := bW.get 10 _ rfl
    have r11 := bW.get 11 _ rfl
    have kkW := hid (kw6.out.trans kW (fun x hx => .inr (by simp at hx; omega)))
    clear kW bW
    go_wp2_with fail
    refine bodyPost_ret (v := .tuple #[zeroI.v, .int .i64 0, .int .i64 70]) (by rw [zeroI_v]; simp [results, Tryz.results15, go_sem, r0, r1, r2, r3, r4, r5, r6, r7, r8, r9, r10, r11]) rfl ?_
    unfold HdP
    have e70 : hdP bs = (zeroI, 0, 70) := by unfold hdP; rw [hnone.out]
    rw [e70]
    exact ⟨rfl, kkW.out⟩
  have y2 : ((n2' : Int) == 0) = false := beq_eq_false_iff_ne.2 (by omega)
  by_cases hA2 : bs.length < AT + 2
  · have y3 : (bs.length : Int) < (AT : Int) + 2 := by omega
    have y3' : decide ((bs.length : Int) < (AT : Int) + 2) = true := by simpa using y3
    have hnone : Hid (hdR bs = none) := by show _ = _; rw [hsm.out, if_pos (.inr hA2)]
    have p0 := bR6.out.get 0 _ rfl; have f0 := bR6.out.free 0
    have p1 := bR6.out.get 1 _ rfl; have f1 := bR6.out.free 1
    have p2 := bR6.out.get 2 _ rfl; have f2 := bR6.out.free 2
    have p3 := bR6.out.get 3 _ rfl; have f3 := bR6.out.free 3
    have p4 := bR6.out.get 4 _ rfl; have f4 := bR6.out.free 4
    have p5 := bR6.out.get 5 _ rfl; have f5 := bR6.out.free 5
    have p6 := bR6.out.get 6 _ rfl; have f6 := bR6.out.free 6
    have p7 := bR6.out.get 7 _ rfl; have f7 := bR6.out.free 7
    have p8 := bR6.out.get 8 _ rfl; have f8 := bR6.out.free 8
    have p9 := bR6.out.get 9 _ rfl; have f9 := bR6.out.free 9
    have p10 := bR6.out.get 10 _ rfl; have f10 := bR6.out.free 10
    have p11 := bR6.out.get 11 _ rfl; have f11 := bR6.out.free 11
    obtain ⟨W, hW, bW, kW⟩ : ∃ Y9, ((((((((((((w6.setCell ⟨q, 0, none⟩ (.int .i64 0)).setCell ⟨q, 1, none⟩ (.int .i64 0)).setCell ⟨q, 2, none⟩ (.int .i64 0)).setCell ⟨q, 3, none⟩ (.bool false)).setCell ⟨q, 4, none⟩ (.int .i64 0)).setCell ⟨q, 5, none⟩ (.string ⟨#[]⟩)).setCell ⟨q, 6, none⟩ (.int .i64 0)).setCell ⟨q, 7, none⟩ (.bool false)).setCell ⟨q, 8, none⟩ (.int .i64 0)).setCell ⟨q, 9, none⟩ (.string ⟨#[]⟩)).setCell ⟨q, 10, none⟩ (.int .i64 0)).setCell ⟨q, 11, none⟩ (.int .i64 0)) = Y9 ∧ Bx Y9 q [.int .i64 0, .int .i64 0, .int .i64 0, .bool false, .int .i64 0, .string ⟨#[]⟩, .int .i64 0, .bool false, .int .i64 0, .string ⟨#[]⟩, .int .i64 0, .int .i64 0] ∧ Kp [q] w6 Y9 := ⟨_, rfl, gen12q (R := fun Y9 => Bx Y9 q [.int .i64 0, .int .i64 0, .int .i64 0, .bool false, .int .i64 0, .string ⟨#[]⟩, .int .i64 0, .bool false, .int .i64 0, .string ⟨#[]⟩, .int .i64 0, .int .i64 0]) bR6.out rfl (.int .i64 0) (.int .i64 0) (.int .i64 0) (.bool false) (.int .i64 0) (.string ⟨#[]⟩) (.int .i64 0) (.bool false) (.int .i64 0) (.string ⟨#[]⟩) (.int .i64 0) (.int .i64 0) (fun Y9 b _ => b), gen12q (R := fun Y9 => Kp [q] w6 Y9) bR6.out rfl (.int .i64 0) (.int .i64 0) (.int .i64 0) (.bool false) (.int .i64 0) (.string ⟨#[]⟩) (.int .i64 0) (.bool false) (.int .i64 0) (.string ⟨#[]⟩) (.int .i64 0) (.int .i64 0) (fun Y9 _ k => k)⟩
    have r0 := bW.get 0 _ rfl
    have r1 := bW.get 1 _ rfl
    have r2 := bW.get 2 _ rfl
    have r3 := bW.get 3 _ rfl
    have r4 := bW.get 4 _ rfl
    have r5 := bW.get 5 _ rfl
    have r6 := bW.get 6 _ rfl
    have r7 := bW.get 7 _ rfl
    have r8 := bW.get 8 _ rfl
    have r9 := bW.get 9 _ rfl
    have r10 := bW.get 10 _ rfl
    have r11 := bW.get 11 _ rfl
    have kkW := hid (kw6.out.trans kW (fun x hx => .inr (by simp at hx; omega)))
    clear kW bW
    go_wp2_with fail
    refine bodyPost_ret (v := .tuple #[zeroI.v, .int .i64 0, .int .i64 70]) (by rw [zeroI_v]; simp [results, Tryz.results15, go_sem, r0, r1, r2, r3, r4, r5, r6, r7, r8, r9, r10, r11]) rfl ?_
    unfold HdP
    have e70 : hdP bs = (zeroI, 0, 70) := by unfold hdP; rw [hnone.out]
    rw [e70]
    exact ⟨rfl, kkW.out⟩
  have y3 : ¬ (bs.length : Int) < (AT : Int) + 2 := by omega
  have y3' : decide ((bs.length : Int) < (AT : Int) + 2) = false := by simpa using y3
  rw [if_neg (by intro h; rcases h with h | h; exact hn2 h; exact hA2 h)] at hsm
  have e0 := bx6.out.c0; have e1 := bx6.out.c1; have e2 := bx6.out.c2; have e3 := bx6.out.c3
  have g2 := bI6.out.get 2 _ rfl; have gf2 := bI6.out.free 2
  have g3 := bI6.out.get 3 _ rfl; have gf3 := bI6.out.free 3
  have g4 := bI6.out.get 4 _ rfl; have gf4 := bI6.out.free 4
  have g5 := bI6.out.get 5 _ rfl; have gf5 := bI6.out.free 5
  obtain ⟨V, hV, bV, kV⟩ : ∃ Y9, ((((w6.setCell ⟨qi, 2, none⟩ (.int .i64 mk)).setCell ⟨qi, 3, none⟩ (.bool mb)).setCell ⟨qi, 4, none⟩ (.int .i64 mn)).setCell ⟨qi, 5, none⟩ (.string mt)) = Y9 ∧ Bx Y9 qi [.int .i64 (K : Int), .int .i64 (M : Int), .int .i64 mk, .bool mb, .int .i64 mn, .string mt, .int .i64 0, .bool false, .int .i64 0, .string ⟨#[]⟩, .int .i64 (N : Int), .int .i64 0] ∧ Kp [qi] w6 Y9 := ⟨_, rfl, genS4 (R := fun Y9 => Bx Y9 qi [.int .i64 (K : Int), .int .i64 (M : Int), .int .i64 mk, .bool mb, .int .i64 mn, .string mt, .int .i64 0, .bool false, .int .i64 0, .string ⟨#[]⟩, .int .i64 (N : Int), .int .i64 0]) bI6.out 2 3 4 5 (by simp) (by simp) (by simp) (by simp) (.int .i64 mk) (.bool mb) (.int .i64 mn) (.string mt) (fun Y9 b _ => b), genS4 (R := fun Y9 => Kp [qi] w6 Y9) bI6.out 2 3 4 5 (by simp) (by simp) (by simp) (by simp) (.int .i64 mk) (.bool mb) (.int .i64 mn) (.string mt) (fun Y9 _ k => k)⟩
  have bx8V := hbx8.out.kept kV (by simp; omega)
  have j0 := bx8V.c0; have j1 := bx8V.c1; have j2 := bx8V.c2; have j3 := bx8V.c3
  have g6 := bV.get 6 _ rfl; have gf6 := bV.free 6
  have g7 := bV.get 7 _ rfl; have gf7 := bV.free 7
  have g8 := bV.get 8 _ rfl; have gf8 := bV.free 8
  have g9 := bV.get 9 _ rfl; have gf9 := bV.free 9
  obtain ⟨U, hU, bU, kU⟩ : ∃ Y9, ((((V.setCell ⟨qi, 6, none⟩ (.int .i64 xk)).setCell ⟨qi, 7, none⟩ (.bool xb)).setCell ⟨qi, 8, none⟩ (.int .i64 xn)).setCell ⟨qi, 9, none⟩ (.string xt)) = Y9 ∧ Bx Y9 qi [.int .i64 (K : Int), .int .i64 (M : Int), .int .i64 mk, .bool mb, .int .i64 mn, .string mt, .int .i64 xk, .bool xb, .int .i64 xn, .string xt, .int .i64 (N : Int), .int .i64 0] ∧ Kp [qi] V Y9 := ⟨_, rfl, genS4 (R := fun Y9 => Bx Y9 qi [.int .i64 (K : Int), .int .i64 (M : Int), .int .i64 mk, .bool mb, .int .i64 mn, .string mt, .int .i64 xk, .bool xb, .int .i64 xn, .string xt, .int .i64 (N : Int), .int .i64 0]) bV 6 7 8 9 (by simp) (by simp) (by simp) (by simp) (.int .i64 xk) (.bool xb) (.int .i64 xn) (.string xt) (fun Y9 b _ => b), genS4 (R := fun Y9 => Kp [qi] V Y9) bV 6 7 8 9 (by simp) (by simp) (by simp) (by simp) (.int .i64 xk) (.bool xb) (.int .i64 xn) (.string xt) (fun Y9 _ k => k)⟩
  have kwU := hid ((kw6.out.trans kV (fun x hx => .inr (by simp at hx; omega))).trans kU (fun x hx => .inr (by simp at hx; omega)))
  have bRU := hid ((bR6.out.kept kV (by simpa using hne) (bR6.out.lt (by simp))).kept kU (by simpa using hne) (by have := bR6.out.lt (by simp); have := kV.size; omega))
  have hbU := hid bU
  have sU : Sees U (some ⟨g, o + AT, none⟩) ((bs.drop AT).take 2) := by have := ((hsB.out U kwU.out).tail AT).front 2; simpa [Addr.add_lit] using this
  have l2 : ((bs.drop AT).take 2).length = 2 := by rw [List.length_take, List.length_drop]; omega
  have cS := cRefSaid (some ⟨g, o + AT, none⟩) 2 (c - AT) ((bs.drop AT).take 2) U sU l2.symm (by omega)
  have hnb := num_lt_of ((bs.drop AT).take 2) 2 (by omega)
  have hend : Hid (endR bs AT = AT + 2 + num ((bs.drop AT).take 2) + 4) := rfl
  obtain ⟨S2, hS2⟩ : ∃ x : Nat, Hid (num ((bs.drop AT).take 2) = x) := ⟨_, rfl⟩
  rw [hS2.out] at cS hnb hend
  obtain ⟨B, hBB⟩ : ∃ x : Nat, Hid (AT + 2 + S2 + 4 = x) := ⟨_, rfl⟩
  rw [hBB.out] at hend
  rw [hend.out] at hsm
  have i5 : (AT : Int) + 2 + (S2 : Int) + 4 = (B : Int) := by have := hBB.out; omega
  have i6 : IntKind.i64.wrap (S2 : Int) = (S2 : Int) := by rw [IntKind.wrap_i64]; omega
  have hB7 : B ≤ 9223372036854000000 := by rw [← hBB.out]; omega
  have v1 : (AT : Int) ≤ (AT : Int) + 2 := by omega
  have v2 : (AT : Int) + 2 ≤ (c : Int) := by omega
  have v3 : c ≠ AT := by omega
  have v4 : AT ≤ c := by omega
  have v5 : AT + 2 ≤ c := by omega
  clear sU l2 kV bV kU bU hend hS2 bx6 hbx8 bx8V kw6 bR6 bI6
  go_wp2_with fail
  refine cS.mono ?_
  rintro e w7 ⟨rfl, hw7⟩
  subst hw7
  have g11 := hbU.out.get 11 _ rfl
  have gf11 := hbU.out.free 11
  obtain ⟨T, hT, bT, kT⟩ : ∃ Y9, w7.setCell ⟨qi, 11, none⟩ (.int .i64 (B : Int)) = Y9 ∧ Bx Y9 qi [.int .i64 (K : Int), .int .i64 (M : Int), .int .i64 mk, .bool mb, .int .i64 mn, .string mt, .int .i64 xk, .bool xb, .int .i64 xn, .string xt, .int .i64 (N : Int), .int .i64 (B : Int)] ∧ Kp [qi] w7 Y9 := ⟨_, rfl, genS (R := fun Y9 => Bx Y9 qi [.int .i64 (K : Int), .int .i64 (M : Int), .int .i64 mk, .bool mb, .int .i64 mn, .string mt, .int .i64 xk, .bool xb, .int .i64 xn, .string xt, .int .i64 (N : Int), .int .i64 (B : Int)]) hbU.out 11 (by simp) (.int .i64 (B : Int)) (fun Y9 b _ => b), genS (R := fun Y9 => Kp [qi] w7 Y9) hbU.out 11 (by simp) (.int .i64 (B : Int)) (fun Y9 _ k => k)⟩
  have kwT := hid (kwU.out.trans kT (fun x hx => .inr (by simp at hx; omega)))
  have bRT := hid (bRU.out.kept kT (by simpa using hne) (bRU.out.lt (by simp)))
  have s0 := bT.get 0 _ rfl
  have s1 := bT.get 1 _ rfl
  have s2 := bT.get 2 _ rfl
  have s3 := bT.get 3 _ rfl
  have s4 := bT.get 4 _ rfl
  have s5 := bT.get 5 _ rfl
  have s6 := bT.get 6 _ rfl
  have s7 := bT.get 7 _ rfl
  have s8 := bT.get 8 _ rfl
  have s9 := bT.get 9 _ rfl
  have s10 := bT.get 10 _ rfl
  have s11 := bT.get 11 _ rfl
  clear cS kT bT bRU kwU hbU e0 e1 e2 e3 j0 j1 j2 j3 hw6 hq8' hV hU
  clear g2 gf2 g3 gf3 g4 gf4 g5 gf5 g6 gf6 g7 gf7 g8 gf8 g9 gf9
  by_cases hBn : bs.length < B
  · have y5 : (bs.length : Int) < (B : Int) := by omega
    have y5' : decide ((bs.length : Int) < (B : Int)) = true := by simpa using y5
    have hnone : Hid (hdR bs = none) := by show _ = _; rw [hsm.out, if_pos hBn]
    have p0 := bRT.out.get 0 _ rfl; have f0 := bRT.out.free 0
    have p1 := bRT.out.get 1 _ rfl; have f1 := bRT.out.free 1
    have p2 := bRT.out.get 2 _ rfl; have f2 := bRT.out.free 2
    have p3 := bRT.out.get 3 _ rfl; have f3 := bRT.out.free 3
    have p4 := bRT.out.get 4 _ rfl; have f4 := bRT.out.free 4
    have p5 := bRT.out.get 5 _ rfl; have f5 := bRT.out.free 5
    have p6 := bRT.out.get 6 _ rfl; have f6 := bRT.out.free 6
    have p7 := bRT.out.get 7 _ rfl; have f7 := bRT.out.free 7
    have p8 := bRT.out.get 8 _ rfl; have f8 := bRT.out.free 8
    have p9 := bRT.out.get 9 _ rfl; have f9 := bRT.out.free 9
    have p10 := bRT.out.get 10 _ rfl; have f10 := bRT.out.free 10
    have p11 := bRT.out.get 11 _ rfl; have f11 := bRT.out.free 11
    obtain ⟨W, hW, bW, kW⟩ : ∃ Y9, ((((((((((((T.setCell ⟨q, 0, none⟩ (.int .i64 0)).setCell ⟨q, 1, none⟩ (.int .i64 0)).setCell ⟨q, 2, none⟩ (.int .i64 0)).setCell ⟨q, 3, none⟩ (.bool false)).setCell ⟨q, 4, none⟩ (.int .i64 0)).setCell ⟨q, 5, none⟩ (.string ⟨#[]⟩)).setCell ⟨q, 6, none⟩ (.int .i64 0)).setCell ⟨q, 7, none⟩ (.bool false)).setCell ⟨q, 8, none⟩ (.int .i64 0)).setCell ⟨q, 9, none⟩ (.string ⟨#[]⟩)).setCell ⟨q, 10, none⟩ (.int .i64 0)).setCell ⟨q, 11, none⟩ (.int .i64 0)) = Y9 ∧ Bx Y9 q [.int .i64 0, .int .i64 0, .int .i64 0, .bool false, .int .i64 0, .string ⟨#[]⟩, .int .i64 0, .bool false, .int .i64 0, .string ⟨#[]⟩, .int .i64 0, .int .i64 0] ∧ Kp [q] T Y9 := ⟨_, rfl, gen12q (R := fun Y9 => Bx Y9 q [.int .i64 0, .int .i64 0, .int .i64 0, .bool false, .int .i64 0, .string ⟨#[]⟩, .int .i64 0, .bool false, .int .i64 0, .string ⟨#[]⟩, .int .i64 0, .int .i64 0]) bRT.out rfl (.int .i64 0) (.int .i64 0) (.int .i64 0) (.bool false) (.int .i64 0) (.string ⟨#[]⟩) (.int .i64 0) (.bool false) (.int .i64 0) (.string ⟨#[]⟩) (.int .i64 0) (.int .i64 0) (fun Y9 b _ => b), gen12q (R := fun Y9 => Kp [q] T Y9) bRT.out rfl (.int .i64 0) (.int .i64 0) (.int .i64 0) (.bool false) (.int .i64 0) (.string ⟨#[]⟩) (.int .i64 0) (.bool false) (.int .i64 0) (.string ⟨#[]⟩) (.int .i64 0) (.int .i64 0) (fun Y9 _ k => k)⟩
    have r0 := bW.get 0 _ rfl
    have r1 := bW.get 1 _ rfl
    have r2 := bW.get 2 _ rfl
    have r3 := bW.get 3 _ rfl
    have r4 := bW.get 4 _ rfl
    have r5 := bW.get 5 _ rfl
    have r6 := bW.get 6 _ rfl
    have r7 := bW.get 7 _ rfl
    have r8 := bW.get 8 _ rfl
    have r9 := bW.get 9 _ rfl
    have r10 := bW.get 10 _ rfl
    have r11 := bW.get 11 _ rfl
    have kkW := hid (kwT.out.trans kW (fun x hx => .inr (by simp at hx; omega)))
    clear kW bW
    go_wp2_with fail
    refine bodyPost_ret (v := .tuple #[zeroI.v, .int .i64 0, .int .i64 70]) (by rw [zeroI_v]; simp [results, Tryz.results15, go_sem, r0, r1, r2, r3, r4, r5, r6, r7, r8, r9, r10, r11]) rfl ?_
    unfold HdP
    have e70 : hdP bs = (zeroI, 0, 70) := by unfold hdP; rw [hnone.out]
    rw [e70]
    exact ⟨rfl, kkW.out⟩
  have y5 : ¬ (bs.length : Int) < (B : Int) := by omega
  have y5' : decide ((bs.length : Int) < (B : Int)) = false := by simpa using y5
  rw [if_neg hBn] at hsm
  have p0 := bRT.out.get 0 _ rfl; have f0 := bRT.out.free 0
  have p1 := bRT.out.get 1 _ rfl; have f1 := bRT.out.free 1
  have p2 := bRT.out.get 2 _ rfl; have f2 := bRT.out.free 2
  have p3 := bRT.out.get 3 _ rfl; have f3 := bRT.out.free 3
  have p4 := bRT.out.get 4 _ rfl; have f4 := bRT.out.free 4
  have p5 := bRT.out.get 5 _ rfl; have f5 := bRT.out.free 5
  have p6 := bRT.out.get 6 _ rfl; have f6 := bRT.out.free 6
  have p7 := bRT.out.get 7 _ rfl; have f7 := bRT.out.free 7
  have p8 := bRT.out.get 8 _ rfl; have f8 := bRT.out.free 8
  have p9 := bRT.out.get 9 _ rfl; have f9 := bRT.out.free 9
  have p10 := bRT.out.get 10 _ rfl; have f10 := bRT.out.free 10
  have p11 := bRT.out.get 11 _ rfl; have f11 := bRT.out.free 11
  obtain ⟨Q, hQ, bQ, kQ⟩ : ∃ Y9, ((((((((((((T.setCell ⟨q, 0, none⟩ (.int .i64 (K : Int))).setCell ⟨q, 1, none⟩ (.int .i64 (M : Int))).setCell ⟨q, 2, none⟩ (.int .i64 mk)).setCell ⟨q, 3, none⟩ (.bool mb)).setCell ⟨q, 4, none⟩ (.int .i64 mn)).setCell ⟨q, 5, none⟩ (.string mt)).setCell ⟨q, 6, none⟩ (.int .i64 xk)).setCell ⟨q, 7, none⟩ (.bool xb)).setCell ⟨q, 8, none⟩ (.int .i64 xn)).setCell ⟨q, 9, none⟩ (.string xt)).setCell ⟨q, 10, none⟩ (.int .i64 (N : Int))).setCell ⟨q, 11, none⟩ (.int .i64 (B : Int))) = Y9 ∧ Bx Y9 q [.int .i64 (K : Int), .int .i64 (M : Int), .int .i64 mk, .bool mb, .int .i64 mn, .string mt, .int .i64 xk, .bool xb, .int .i64 xn, .string xt, .int .i64 (N : Int), .int .i64 (B : Int)] ∧ Kp [q] T Y9 := ⟨_, rfl, gen12q (R := fun Y9 => Bx Y9 q [.int .i64 (K : Int), .int .i64 (M : Int), .int .i64 mk, .bool mb, .int .i64 mn, .string mt, .int .i64 xk, .bool xb, .int .i64 xn, .string xt, .int .i64 (N : Int), .int .i64 (B : Int)]) bRT.out rfl (.int .i64 (K : Int)) (.int .i64 (M : Int)) (.int .i64 mk) (.bool mb) (.int .i64 mn) (.string mt) (.int .i64 xk) (.bool xb) (.int .i64 xn) (.string xt) (.int .i64 (N : Int)) (.int .i64 (B : Int)) (fun Y9 b _ => b), gen12q (R := fun Y9 => Kp [q] T Y9) bRT.out rfl (.int .i64 (K : Int)) (.int .i64 (M : Int)) (.int .i64 mk) (.bool mb) (.int .i64 mn) (.string mt) (.int .i64 xk) (.bool xb) (.int .i64 xn) (.string xt) (.int .i64 (N : Int)) (.int .i64 (B : Int)) (fun Y9 _ k => k)⟩
  have r0 := bQ.get 0 _ rfl
  have r1 := bQ.get 1 _ rfl
  have r2 := bQ.get 2 _ rfl
  have r3 := bQ.get 3 _ rfl
  have r4 := bQ.get 4 _ rfl
  have r5 := bQ.get 5 _ rfl
  have r6 := bQ.get 6 _ rfl
  have r7 := bQ.get 7 _ rfl
  have r8 := bQ.get 8 _ rfl
  have r9 := bQ.get 9 _ rfl
  have r10 := bQ.get 10 _ rfl
  have r11 := bQ.get 11 _ rfl
  have kkQ := hid (kwT.out.trans kQ (fun x hx => .inr (by simp at hx; omega)))
  clear kQ bQ
  go_wp2_with fail
  refine bodyPost_ret (v := .tuple #[Inf.v ⟨(K : Int), (M : Int), ⟨mk, mb, mn, mt⟩, ⟨xk, xb, xn, xt⟩, (N : Int), (B : Int)⟩, .int .i64 ((AT : Int) + 2), .int .i64 0]) (by simp [results, Tryz.results15, go_sem, Inf.v, Inf.cs, r0, r1, r2, r3, r4, r5, r6, r7, r8, r9, r10, r11]) rfl ?_
  unfold HdP
  have e70 : hdP bs = (⟨(K : Int), (M : Int), ⟨mk, mb, mn, mt⟩, ⟨xk, xb, xn, xt⟩, (N : Int), (B : Int)⟩, AT + 2, 0) := by unfold hdP; rw [hsm.out]
  rw [e70]
  exact ⟨by simp, kkQ.out⟩
theorem rHead (a : Option Addr) (c : Nat) (bs : List UInt8) (w : World) (hs : Sees w a bs) (hl : bs.length ≤ c) (hm : c ≤ maxLen) (hb2 : bs.length ≤ 200000000000000) : Calls Tryz.prog 15 #[.slice a bs.length c] w (HdP (hdP bs) w) := by
  match hb : bs with
  | k :: m :: n :: r => exact rHeadL a c k m n r (k :: m :: n :: r) rfl w hs hl hm hb2
  | [] => exact rHeadS a c [] w hs hl hm (by simp)
  | [_] => exact rHeadS a c _ w hs hl hm (by simp)
  | [_, _] => exact rHeadS a c _ w hs hl hm (by simp)
end Go.Proofs.YtcjnojbjgdechaaGreatDoor
end

section
namespace Go.Proofs.YtcjnojbjgdechaaGreatDoor
open Go.RowKit Go.Hay
set_option linter.unusedVariables false
set_option linter.unusedSimpArgs false

theorem min_step (l : List Val) (j : Nat) : minTo l (j + 1 - 1) = if cmpV (l.getD j nv) (minTo l (j - 1)) < 0 then l.getD j nv else minTo l (j - 1) := by
  cases j with
  | zero => rw [if_neg (by show ¬ cmpV (l.getD 0 nv) (l.getD 0 nv) < 0; rw [cmp_self]; omega)]
  | succ j => rfl
theorem max_step (l : List Val) (j : Nat) : maxTo l (j + 1 - 1) = if 0 < cmpV (l.getD j nv) (maxTo l (j - 1)) then l.getD j nv else maxTo l (j - 1) := by
  cases j with
  | zero => rw [if_neg (by show ¬ 0 < cmpV (l.getD 0 nv) (l.getD 0 nv); rw [cmp_self]; omega)]
  | succ j => rfl
set_option maxHeartbeats 64000000 in
set_option maxRecDepth 100000 in
theorem rFacts (k : Int) (a : Option Addr) (ca : Nat) (l : List Val) (w : World) (ha : Vals w a l) (h0 : 0 < l.length) (hl : l.length ≤ 1000000) :
    Calls Tryz.prog 35 #[.int .i64 k, .slice a l.length ca] w fun e w' => e = .returned (Inf.v ⟨k, l.length, minV l, maxV l, nullsV l, 0⟩) ∧ Kp [] w w' := by
  obtain ⟨g, o, rfl, hdrop⟩ := ha.at 0 h0
  clear hdrop
  have hat : Hid (∀ W, Kp [] w W → ∀ j, j < l.length → W.cell? ⟨g, o + j * 4, none⟩ = some (.int .i64 (l.getD j nv).k) ∧ W.cell? ⟨g, o + j * 4 + 1, none⟩ = some (.bool (l.getD j nv).b) ∧ W.cell? ⟨g, o + j * 4 + 2, none⟩ = some (.int .i64 (l.getD j nv).n) ∧ W.cell? ⟨g, o + j * 4 + 3, none⟩ = some (.string (l.getD j nv).t)) := fun W kW j hj => by
    obtain ⟨_, _, e, y0, y1, y2, y3⟩ := (ha.kept kW).at j hj
    cases e
    have eg : l.getD j nv = l[j] := by simp [hj]
    rw [eg]
    exact ⟨y0, y1, y2, y3⟩
  have hnul : Hid (∀ j, j < l.length → nullsV (l.take (j + 1)) = nullsV (l.take j) + (if (l.getD j nv).k = 0 then 1 else 0)) := fun j hj => by
    have := nulls_take l j hj
    rw [this]
    simp [hj]
  obtain ⟨w0, hw0, kW0, bR⟩ : ∃ w0, w.alloc (.cells #[.int .i64 0, .int .i64 0, .int .i64 0, .bool false, .int .i64 0, .string ⟨#[]⟩, .int .i64 0, .bool false, .int .i64 0, .string ⟨#[]⟩, .int .i64 0, .int .i64 0] 37) = w0 ∧ Kp [] w w0 ∧ Bx w0 w.heap.size [.int .i64 0, .int .i64 0, .int .i64 0, .bool false, .int .i64 0, .string ⟨#[]⟩, .int .i64 0, .bool false, .int .i64 0, .string ⟨#[]⟩, .int .i64 0, .int .i64 0] := ⟨_, rfl, (Kp.refl _ _).alloc _, Bx.new w _ _⟩
  obtain ⟨q, hq⟩ : ∃ q, Hid (w.heap.size = q) := ⟨_, rfl⟩
  have hqw : w.heap.size ≤ q := by rw [hq.out]; omega
  rw [hq.out] at bR
  have hm0 : Hid (minTo l (0 - 1) = l.getD 0 nv) := rfl
  have hx0 : Hid (maxTo l (0 - 1) = l.getD 0 nv) := rfl
  have hfm : Hid (minV l = minTo l (l.length - 1)) := rfl
  have hfx : Hid (maxV l = maxTo l (l.length - 1)) := rfl
  obtain ⟨⟨zk, zb, zn, zt⟩, hz⟩ : ∃ m, Hid (l.getD 0 nv = m) := ⟨_, rfl⟩
  have hz0 := hat.out
  rw [hz.out] at hm0 hx0
  have hat0 : Hid (∀ W, Kp [] w W → (W.cell? ⟨g, o, none⟩ = some (.int .i64 zk) ∧ W.cell? ⟨g, o + 1, none⟩ = some (.bool zb) ∧ W.cell? ⟨g, o + 2, none⟩ = some (.int .i64 zn) ∧ W.cell? ⟨g, o + 3, none⟩ = some (.string zt))) := fun W kW => by
    have := hat.out W kW 0 h0
    rw [hz.out, Nat.zero_mul, Nat.add_zero] at this
    exact this
  have hbR := hid bR
  have hkw := hid kW0
  have hw0' := hid hw0
  clear bR kW0 hw0 ha hz0 hz
  go_enter Tryz.func35, Tryz.ntmps35
  go_wp2_with fail
  rw [hw0'.out, hq.out]
  have kd : Kp [] w0 w0.drew := (Kp.refl _ _).drew
  have kwd := hid (hkw.out.trans kd (by simp))
  have hS : Hid (∀ A, Kp [] w0 A → (A.cell? ⟨g, o, none⟩ = some (.int .i64 zk) ∧ A.cell? ⟨g, o + 1, none⟩ = some (.bool zb) ∧ A.cell? ⟨g, o + 2, none⟩ = some (.int .i64 zn) ∧ A.cell? ⟨g, o + 3, none⟩ = some (.string zt))) := fun A kA => hat0.out A (hkw.out.trans kA (by simp))
  have hbd := hid (hbR.out.kept kd (by simp) (hbR.out.lt (by simp)))
  refine wp_region_held_drew (S := (fun A => (A.cell? ⟨g, o, none⟩ = some (.int .i64 zk) ∧ A.cell? ⟨g, o + 1, none⟩ = some (.bool zb) ∧ A.cell? ⟨g, o + 2, none⟩ = some (.int .i64 zn) ∧ A.cell? ⟨g, o + 3, none⟩ = some (.string zt)))) (by kernel_rfl) ?_ (fun hHeld => ?_)
  · exact hS.out _ kd
  have hHeld' := hS.out _ kd
  have hkd := hid kd
  clear hHeld hHeld' kd hbR hkw hw0'
  have hHeld := hS.out _ hkd.out
  generalize w0.drew = wd at *
  have dl : (0 : Int) < (l.length : Int) := by omega
  have dl2 : ((0 : Nat) : Int) < (l.length : Int) := by omega
  refine wpAnyH_take (i := 0) (v := ?_) rfl (by kernel_rfl) (by kernel_rfl) (by kernel_rfl) (fun _ _ _ h => h) (Or.inl ⟨by rfl, ?_⟩) (by assumption) ?_
  rotate_left
  · intro w hSw; (try dsimp only at hSw); go_simp <;> with_reducible rfl
  try simp only [Act.put, List.getElem_toArray, List.getElem_cons_zero, List.getElem_cons_succ, List.setIfInBounds_toArray, List.set_cons_zero, List.set_cons_succ]
  refine wpAnyH_take (i := 1) (v := ?_) rfl (by kernel_rfl) (by kernel_rfl) (by kernel_rfl) (fun _ _ _ h => h) (Or.inl ⟨by rfl, ?_⟩) (by assumption) ?_
  rotate_left
  · intro w hSw; (try dsimp only at hSw); go_simp <;> with_reducible rfl
  try simp only [Act.put, List.getElem_toArray, List.getElem_cons_zero, List.getElem_cons_succ, List.setIfInBounds_toArray, List.set_cons_zero, List.set_cons_succ]
  refine wpAnyH_take (i := 2) (v := ?_) rfl (by kernel_rfl) (by kernel_rfl) (by kernel_rfl) (fun _ _ _ h => h) (Or.inl ⟨by rfl, ?_⟩) (by assumption) ?_
  rotate_left
  · intro w hSw; (try dsimp only at hSw); go_simp <;> with_reducible rfl
  try simp only [Act.put, List.getElem_toArray, List.getElem_cons_zero, List.getElem_cons_succ, List.setIfInBounds_toArray, List.set_cons_zero, List.set_cons_succ]
  refine wpAnyH_take (i := 3) (v := ?_) rfl (by kernel_rfl) (by kernel_rfl) (by kernel_rfl) (fun _ _ _ h => h) (Or.inl ⟨by rfl, ?_⟩) (by assumption) ?_
  rotate_left
  · intro w hSw; (try dsimp only at hSw); go_simp <;> with_reducible rfl
  try simp only [Act.put, List.getElem_toArray, List.getElem_cons_zero, List.getElem_cons_succ, List.setIfInBounds_toArray, List.set_cons_zero, List.set_cons_succ]
  refine wpAnyH_take (i := 4) (v := ?_) rfl (by kernel_rfl) (by kernel_rfl) (by kernel_rfl) (fun _ _ _ h => h) (Or.inl ⟨by rfl, ?_⟩) (by assumption) ?_
  rotate_left
  · intro w hSw; (try dsimp only at hSw); go_simp <;> with_reducible rfl
  try simp only [Act.put, List.getElem_toArray, List.getElem_cons_zero, List.getElem_cons_succ, List.setIfInBounds_toArray, List.set_cons_zero, List.set_cons_succ]
  refine wpAnyH_take (i := 5) (v := ?_) rfl (by kernel_rfl) (by kernel_rfl) (by kernel_rfl) (fun _ _ _ h => h) (Or.inl ⟨by rfl, ?_⟩) (by assumption) ?_
  rotate_left
  · intro w hSw; (try dsimp only at hSw); go_simp <;> with_reducible rfl
  try simp only [Act.put, List.getElem_toArray, List.getElem_cons_zero, List.getElem_cons_succ, List.setIfInBounds_toArray, List.set_cons_zero, List.set_cons_succ]
  refine wpAnyH_take (i := 6) (v := ?_) rfl (by kernel_rfl) (by kernel_rfl) (by kernel_rfl) (fun _ _ _ h => h) (Or.inl ⟨by rfl, ?_⟩) (by assumption) ?_
  rotate_left
  · intro w hSw; (try dsimp only at hSw); go_simp <;> with_reducible rfl
  try simp only [Act.put, List.getElem_toArray, List.getElem_cons_zero, List.getElem_cons_succ, List.setIfInBounds_toArray, List.set_cons_zero, List.set_cons_succ]
  refine wpAnyH_take (i := 7) (v := ?_) rfl (by kernel_rfl) (by kernel_rfl) (by kernel_rfl) (fun _ _ _ h => h) (Or.inl ⟨by rfl, ?_⟩) (by assumption) ?_
  rotate_left
  · intro w hSw; (try dsimp only at hSw); go_simp <;> with_reducible rfl
  try simp only [Act.put, List.getElem_toArray, List.getElem_cons_zero, List.getElem_cons_succ, List.setIfInBounds_toArray, List.set_cons_zero, List.set_cons_succ]
  refine wpAnyH_take (i := 8) (v := ?_) rfl (by kernel_rfl) (by kernel_rfl) (by kernel_rfl) (fun _ _ _ h => h) (Or.inl ⟨by rfl, ?_⟩) (by assumption) ?_
  rotate_left
  · intro w hSw; (try dsimp only at hSw); go_simp <;> with_reducible rfl
  try simp only [Act.put, List.getElem_toArray, List.getElem_cons_zero, List.getElem_cons_succ, List.setIfInBounds_toArray, List.set_cons_zero, List.set_cons_succ]
  refine wpAnyH_take (i := 9) (v := ?_) rfl (by kernel_rfl) (by kernel_rfl) (by kernel_rfl) (fun _ _ _ h => h) (Or.inl ⟨by rfl, ?_⟩) (by assumption) ?_
  rotate_left
  · intro w hSw; (try dsimp only at hSw); go_simp <;> with_reducible rfl
  try simp only [Act.put, List.getElem_toArray, List.getElem_cons_zero, List.getElem_cons_succ, List.setIfInBounds_toArray, List.set_cons_zero, List.set_cons_succ]
  obtain ⟨w1, hw1, k1, bI⟩ : ∃ w1, wd.alloc (.cells #[.int .i64 0, .int .i64 0, .int .i64 0, .bool false, .int .i64 0, .string ⟨#[]⟩, .int .i64 0, .bool false, .int .i64 0, .string ⟨#[]⟩, .int .i64 0, .int .i64 0] 37) = w1 ∧ Kp [] wd w1 ∧ Bx w1 wd.heap.size [.int .i64 0, .int .i64 0, .int .i64 0, .bool false, .int .i64 0, .string ⟨#[]⟩, .int .i64 0, .bool false, .int .i64 0, .string ⟨#[]⟩, .int .i64 0, .int .i64 0] := ⟨_, rfl, (Kp.refl _ _).alloc _, Bx.new wd _ _⟩
  obtain ⟨qi, hqi⟩ : ∃ q, Hid (wd.heap.size = q) := ⟨_, rfl⟩
  have hne : q ≠ qi := by rw [← hqi.out]; have := hbd.out.lt (by simp); omega
  have hqiw : w.heap.size ≤ qi := by rw [← hqi.out]; exact kwd.out.size
  rw [hqi.out] at bI
  have hw1' := hid hw1
  have hbI := hid bI
  have k1' := hid k1
  clear hw1 bI k1
  refine wpAnyH_ready (rs := [10]) (by kernel_rfl) (by simp) ?_
  refine AllReadyH.cons rfl (fun K hK => ?_) AllReadyH.nil
  go_simp
  rw [hw1'.out, hqi.out]
  refine hK.out _ _ ?_ (fun hHeld => ?_)
  · exact hS.out _ (hkd.out.trans k1'.out (by simp))
  clear hK K
  try simp only [Act.put, List.getElem_toArray, List.getElem_cons_zero, List.getElem_cons_succ, List.setIfInBounds_toArray, List.set_cons_zero, List.set_cons_succ]
  have p0 := hbI.out.get 0 _ rfl; have f0 := hbI.out.free 0
  have p1 := hbI.out.get 1 _ rfl; have f1 := hbI.out.free 1
  have p2 := hbI.out.get 2 _ rfl; have f2 := hbI.out.free 2
  have p3 := hbI.out.get 3 _ rfl; have f3 := hbI.out.free 3
  have p4 := hbI.out.get 4 _ rfl; have f4 := hbI.out.free 4
  have p5 := hbI.out.get 5 _ rfl; have f5 := hbI.out.free 5
  have p6 := hbI.out.get 6 _ rfl; have f6 := hbI.out.free 6
  have p7 := hbI.out.get 7 _ rfl; have f7 := hbI.out.free 7
  have p8 := hbI.out.get 8 _ rfl; have f8 := hbI.out.free 8
  have p9 := hbI.out.get 9 _ rfl; have f9 := hbI.out.free 9
  have p10 := hbI.out.get 10 _ rfl; have f10 := hbI.out.free 10
  have p11 := hbI.out.get 11 _ rfl; have f11 := hbI.out.free 11
  obtain ⟨W, hW, bW, kW⟩ : ∃ Y9, ((((((((((((w1.setCell ⟨qi, 0, none⟩ (.int .i64 k)).setCell ⟨qi, 1, none⟩ (.int .i64 (l.length : Int))).setCell ⟨qi, 2, none⟩ (.int .i64 zk)).setCell ⟨qi, 3, none⟩ (.bool zb)).setCell ⟨qi, 4, none⟩ (.int .i64 zn)).setCell ⟨qi, 5, none⟩ (.string zt)).setCell ⟨qi, 6, none⟩ (.int .i64 zk)).setCell ⟨qi, 7, none⟩ (.bool zb)).setCell ⟨qi, 8, none⟩ (.int .i64 zn)).setCell ⟨qi, 9, none⟩ (.string zt)).setCell ⟨qi, 10, none⟩ (.int .i64 0)).setCell ⟨qi, 11, none⟩ (.int .i64 0)) = Y9 ∧ Bx Y9 qi [.int .i64 k, .int .i64 (l.length : Int), .int .i64 zk, .bool zb, .int .i64 zn, .string zt, .int .i64 zk, .bool zb, .int .i64 zn, .string zt, .int .i64 0, .int .i64 0] ∧ Kp [qi] w1 Y9 := ⟨_, rfl, gen12q (R := fun Y9 => Bx Y9 qi [.int .i64 k, .int .i64 (l.length : Int), .int .i64 zk, .bool zb, .int .i64 zn, .string zt, .int .i64 zk, .bool zb, .int .i64 zn, .string zt, .int .i64 0, .int .i64 0]) hbI.out rfl (.int .i64 k) (.int .i64 (l.length : Int)) (.int .i64 zk) (.bool zb) (.int .i64 zn) (.string zt) (.int .i64 zk) (.bool zb) (.int .i64 zn) (.string zt) (.int .i64 0) (.int .i64 0) (fun Y9 b _ => b), gen12q (R := fun Y9 => Kp [qi] w1 Y9) hbI.out rfl (.int .i64 k) (.int .i64 (l.length : Int)) (.int .i64 zk) (.bool zb) (.int .i64 zn) (.string zt) (.int .i64 zk) (.bool zb) (.int .i64 zn) (.string zt) (.int .i64 0) (.int .i64 0) (fun Y9 _ k => k)⟩
  have hW' := hid hW
  refine wpAnyH_ready (rs := [11]) (by kernel_rfl) (by simp) ?_
  refine AllReadyH.cons rfl (fun K hK => ?_) AllReadyH.nil
  go_simp
  refine hK.out _ _ ?_ (fun hHeld => ?_)
  · exact hS.out _ ((hkd.out.trans k1'.out (by simp)).trans kW (fun x hx => .inr (by simp at hx; have := hkd.out.size; rw [hx, ← hqi.out]; omega)))
  clear hK K
  try simp only [Act.put, List.getElem_toArray, List.getElem_cons_zero, List.getElem_cons_succ, List.setIfInBounds_toArray, List.set_cons_zero, List.set_cons_succ]
  refine wpAnyH_done (by kernel_rfl) ?_ _
  have kwW := hid (((kwd.out.trans k1'.out (by simp)).trans kW (fun x hx => .inr (by simp at hx; omega))))
  have bRW := hid ((hbd.out.kept k1'.out (by simp) (hbd.out.lt (by simp))).kept kW (by simpa using hne) (by have := hbd.out.lt (by simp); have := k1'.out.size; omega))
  have hbW := hid bW
  clear p0 f0 p1 f1 p2 f2 p3 f3 p4 f4 p5 f5 p6 f6 p7 f7 p8 f8 p9 f9 p10 f10 p11 f11 hHeld hW hW' bW kW hS hbd hkd hbI hw1' k1' kwd hat0
  go_wp2_with fail
  go_loopw [6] (fun i wn => ∃ (j n : Nat) (m x : Val), j ≤ l.length ∧ i = .int .i64 (j : Int) ∧ Hid (minTo l (j - 1) = m) ∧ Hid (maxTo l (j - 1) = x) ∧ Hid (nullsV (l.take j) = n) ∧ n ≤ j ∧ Kp [] w wn ∧ Bx wn q [.int .i64 0, .int .i64 0, .int .i64 0, .bool false, .int .i64 0, .string ⟨#[]⟩, .int .i64 0, .bool false, .int .i64 0, .string ⟨#[]⟩, .int .i64 0, .int .i64 0] ∧ Bx wn qi [.int .i64 k, .int .i64 (l.length : Int), .int .i64 m.k, .bool m.b, .int .i64 m.n, .string m.t, .int .i64 x.k, .bool x.b, .int .i64 x.n, .string x.t, .int .i64 (n : Int), .int .i64 0]) (fun i _ => l.length - (intOf i).toNat)
  case atStart => exact ⟨0, 0, ⟨zk, zb, zn, zt⟩, ⟨zk, zb, zn, zt⟩, Nat.zero_le _, rfl, hm0, hx0, by show _ = _; simp [nullsV], Nat.le_refl _, kwW.out, bRW.out, hbW.out⟩
  case round =>
    clear kwW bRW hbW hm0 hx0
    obtain ⟨j, n, ⟨mk, mb, mn, mt⟩, ⟨xk, xb, xn, xt⟩, hj, rfl, hm, hx, hn, hnj, kn, bR, bQ⟩ := hrel
    dsimp only at bQ
    by_cases hlt : j < l.length
    · have hcy := hid (fun W kW => hat.out W kW j hlt)
      have hsm := hid (min_step l j)
      have hsx := hid (max_step l j)
      have hsn := hid (hnul.out j hlt)
      rw [hm.out] at hsm
      rw [hx.out] at hsx
      rw [hn.out] at hsn
      obtain ⟨⟨yk, yb, yn, yt⟩, hy⟩ : ∃ y, Hid (l.getD j nv = y) := ⟨_, rfl⟩
      rw [hy.out] at hsm hsx hsn
      simp only [hy.out] at hcy
      dsimp only at hsn
      have hCm := hid (fun W => cRefCompare ⟨yk, yb, yn, yt⟩ ⟨mk, mb, mn, mt⟩ W)
      have hCx := hid (fun W => cRefCompare ⟨yk, yb, yn, yt⟩ ⟨xk, xb, xn, xt⟩ W)
      obtain ⟨Cm, hcm⟩ : ∃ C, Hid (cmpV ⟨yk, yb, yn, yt⟩ ⟨mk, mb, mn, mt⟩ = C) := ⟨_, rfl⟩
      obtain ⟨Cx, hcx⟩ : ∃ C, Hid (cmpV ⟨yk, yb, yn, yt⟩ ⟨xk, xb, xn, xt⟩ = C) := ⟨_, rfl⟩
      simp only [hcm.out] at hCm hsm
      simp only [hcx.out] at hCx hsx
      unfold Val.v at hCm hCx
      dsimp only at hCm hCx hcy
      have djl : (j : Int) < (l.length : Int) := by omega
      have d00 : (0 : Int) ≤ (j : Int) := by omega
      have hbQ := hid bQ
      have hbR := hid bR
      have hkn := hid kn
      clear bQ bR kn hm hx hn hy hcm hcx
      go_wp2_with fail
      have kd : Kp [] wr wr.drew := (Kp.refl _ _).drew
      have hS : Hid (∀ A, Kp [] wr A → (A.cell? ⟨g, o + j * 4, none⟩ = some (.int .i64 yk) ∧ A.cell? ⟨g, o + j * 4 + 1, none⟩ = some (.bool yb) ∧ A.cell? ⟨g, o + j * 4 + 2, none⟩ = some (.int .i64 yn) ∧ A.cell? ⟨g, o + j * 4 + 3, none⟩ = some (.string yt)) ∧ (A.cell? ⟨qi, 2, none⟩ = some (.int .i64 mk) ∧ A.cell? ⟨qi, 3, none⟩ = some (.bool mb) ∧ A.cell? ⟨qi, 4, none⟩ = some (.int .i64 mn) ∧ A.cell? ⟨qi, 5, none⟩ = some (.string mt))) := fun A kA => ⟨hcy.out A (hkn.out.trans kA (by simp)), (hbQ.out.kept kA (by simp) (hbQ.out.lt (by simp))).get 2 _ rfl, (hbQ.out.kept kA (by simp) (hbQ.out.lt (by simp))).get 3 _ rfl, (hbQ.out.kept kA (by simp) (hbQ.out.lt (by simp))).get 4 _ rfl, (hbQ.out.kept kA (by simp) (hbQ.out.lt (by simp))).get 5 _ rfl⟩
      refine wp_region_held_drew (S := (fun A => (A.cell? ⟨g, o + j * 4, none⟩ = some (.int .i64 yk) ∧ A.cell? ⟨g, o + j * 4 + 1, none⟩ = some (.bool yb) ∧ A.cell? ⟨g, o + j * 4 + 2, none⟩ = some (.int .i64 yn) ∧ A.cell? ⟨g, o + j * 4 + 3, none⟩ = some (.string yt)) ∧ (A.cell? ⟨qi, 2, none⟩ = some (.int .i64 mk) ∧ A.cell? ⟨qi, 3, none⟩ = some (.bool mb) ∧ A.cell? ⟨qi, 4, none⟩ = some (.int .i64 mn) ∧ A.cell? ⟨qi, 5, none⟩ = some (.string mt)))) (by kernel_rfl) ?_ (fun hHeld => ?_)
      · exact hS.out _ kd
      have kdr := hid kd
      clear kd hHeld
      have hHeld := hS.out _ kdr.out
      generalize wr.drew = wd at *
      refine wpAnyH_take (i := 0) (v := ?_) rfl (by kernel_rfl) (by kernel_rfl) (by kernel_rfl) (fun _ _ _ h => h) (Or.inl ⟨by rfl, ?_⟩) (by assumption) ?_
      rotate_left
      · intro w hSw; (try dsimp only at hSw); go_simp <;> with_reducible rfl
      try simp only [Act.put, List.getElem_toArray, List.getElem_cons_zero, List.getElem_cons_succ, List.setIfInBounds_toArray, List.set_cons_zero, List.set_cons_succ]
      refine wpAnyH_take (i := 1) (v := ?_) rfl (by kernel_rfl) (by kernel_rfl) (by kernel_rfl) (fun _ _ _ h => h) (Or.inl ⟨by rfl, ?_⟩) (by assumption) ?_
      rotate_left
      · intro w hSw; (try dsimp only at hSw); go_simp <;> with_reducible rfl
      try simp only [Act.put, List.getElem_toArray, List.getElem_cons_zero, List.getElem_cons_succ, List.setIfInBounds_toArray, List.set_cons_zero, List.set_cons_succ]
      refine wpAnyH_take (i := 2) (v := ?_) rfl (by kernel_rfl) (by kernel_rfl) (by kernel_rfl) (fun _ _ _ h => h) (Or.inl ⟨by rfl, ?_⟩) (by assumption) ?_
      rotate_left
      · intro w hSw; (try dsimp only at hSw); go_simp <;> with_reducible rfl
      try simp only [Act.put, List.getElem_toArray, List.getElem_cons_zero, List.getElem_cons_succ, List.setIfInBounds_toArray, List.set_cons_zero, List.set_cons_succ]
      refine wpAnyH_take (i := 3) (v := ?_) rfl (by kernel_rfl) (by kernel_rfl) (by kernel_rfl) (fun _ _ _ h => h) (Or.inl ⟨by rfl, ?_⟩) (by assumption) ?_
      rotate_left
      · intro w hSw; (try dsimp only at hSw); go_simp <;> with_reducible rfl
      try simp only [Act.put, List.getElem_toArray, List.getElem_cons_zero, List.getElem_cons_succ, List.setIfInBounds_toArray, List.set_cons_zero, List.set_cons_succ]
      refine wpAnyH_take (i := 4) (v := ?_) rfl (by kernel_rfl) (by kernel_rfl) (by kernel_rfl) (fun _ _ _ h => h) (Or.inl ⟨by rfl, ?_⟩) (by assumption) ?_
      rotate_left
      · intro w hSw; (try dsimp only at hSw); go_simp <;> with_reducible rfl
      try simp only [Act.put, List.getElem_toArray, List.getElem_cons_zero, List.getElem_cons_succ, List.setIfInBounds_toArray, List.set_cons_zero, List.set_cons_succ]
      refine wpAnyH_take (i := 5) (v := ?_) rfl (by kernel_rfl) (by kernel_rfl) (by kernel_rfl) (fun _ _ _ h => h) (Or.inl ⟨by rfl, ?_⟩) (by assumption) ?_
      rotate_left
      · intro w hSw; (try dsimp only at hSw); go_simp <;> with_reducible rfl
      try simp only [Act.put, List.getElem_toArray, List.getElem_cons_zero, List.getElem_cons_succ, List.setIfInBounds_toArray, List.set_cons_zero, List.set_cons_succ]
      refine wpAnyH_ready (rs := [6]) (by kernel_rfl) (by simp) ?_
      refine AllReadyH.cons rfl (fun K hK => ?_) AllReadyH.nil
      go_simp
      refine (hCm.out wd).mono ?_
      rintro e w2 ⟨rfl, k2⟩
      (try go_wp2_with fail)
      refine hK.out _ _ ?_ (fun hHeld => ?_)
      · exact hS.out _ (kdr.out.trans k2 (by simp))
      clear hK K
      try simp only [Act.put, List.getElem_toArray, List.getElem_cons_zero, List.getElem_cons_succ, List.setIfInBounds_toArray, List.set_cons_zero, List.set_cons_succ]
      refine wpAnyH_take (i := 7) (v := ?_) rfl (by kernel_rfl) (by kernel_rfl) (by kernel_rfl) (fun _ _ _ h => h) (Or.inl ⟨by rfl, ?_⟩) (by assumption) ?_
      rotate_left
      · intro w hSw; (try dsimp only at hSw); go_simp <;> with_reducible rfl
      try simp only [Act.put, List.getElem_toArray, List.getElem_cons_zero, List.getElem_cons_succ, List.setIfInBounds_toArray, List.set_cons_zero, List.set_cons_succ]
      refine wpAnyH_done (by kernel_rfl) ?_ _
      have kw2 : Kp [] wr w2 := kdr.out.trans k2 (by simp)
      have hkn2 := hid (hkn.out.trans kw2 (by simp))
      have hbQ2 := hid (hbQ.out.kept kw2 (by simp) (hbQ.out.lt (by simp)))
      have hbR2 := hid (hbR.out.kept kw2 (by simp) (hbR.out.lt (by simp)))
      clear hHeld hS kdr k2 hkn hbQ hbR kw2
      have hkn := hkn2
      have hbQ := hbQ2
      have hbR := hbR2
      clear hkn2 hbQ2 hbR2
      by_cases hcc : Cm < 0
      · have hmN : Hid (minTo l (j + 1 - 1) = ⟨yk, yb, yn, yt⟩) := by show _ = _; rw [hsm.out, if_pos hcc]
        clear hsm
        obtain ⟨y0, y1, y2, y3⟩ := hcy.out w2 hkn.out
        have e0 := hbQ.out.get 2 _ rfl; have ef0 := hbQ.out.free 2
        have e1 := hbQ.out.get 3 _ rfl; have ef1 := hbQ.out.free 3
        have e2 := hbQ.out.get 4 _ rfl; have ef2 := hbQ.out.free 4
        have e3 := hbQ.out.get 5 _ rfl; have ef3 := hbQ.out.free 5
        go_wp2_with fail
        refine genS4 (R := fun W => Code.wp _ _ _ _ W) hbQ.out 2 3 4 5 (by simp) (by simp) (by simp) (by simp) _ _ _ _ ?_
        intro w3 bI kI
        have hkn2 := hid (hkn.out.trans kI (fun x hx => .inr (by simp at hx; omega)))
        have hbR2 := hid (hbR.out.kept kI (by simpa using hne) (hbR.out.lt (by simp)))
        have hbQ2 := hid (show Bx w3 qi [.int .i64 k, .int .i64 (l.length : Int), .int .i64 yk, .bool yb, .int .i64 yn, .string yt, .int .i64 xk, .bool xb, .int .i64 xn, .string xt, .int .i64 (n : Int), .int .i64 0] from bI)
        clear y0 y1 y2 y3 e0 e1 e2 e3 ef0 ef1 ef2 ef3 hkn hbQ hbR bI kI
        have hkn := hkn2
        have hbQ := hbQ2
        have hbR := hbR2
        clear hkn2 hbQ2 hbR2
        have kd : Kp [] w3 w3.drew := (Kp.refl _ _).drew
        have hS : Hid (∀ A, Kp [] w3 A → (A.cell? ⟨g, o + j * 4, none⟩ = some (.int .i64 yk) ∧ A.cell? ⟨g, o + j * 4 + 1, none⟩ = some (.bool yb) ∧ A.cell? ⟨g, o + j * 4 + 2, none⟩ = some (.int .i64 yn) ∧ A.cell? ⟨g, o + j * 4 + 3, none⟩ = some (.string yt)) ∧ (A.cell? ⟨qi, 6, none⟩ = some (.int .i64 xk) ∧ A.cell? ⟨qi, 7, none⟩ = some (.bool xb) ∧ A.cell? ⟨qi, 8, none⟩ = some (.int .i64 xn) ∧ A.cell? ⟨qi, 9, none⟩ = some (.string xt))) := fun A kA => ⟨hcy.out A (hkn.out.trans kA (by simp)), (hbQ.out.kept kA (by simp) (hbQ.out.lt (by simp))).get 6 _ rfl, (hbQ.out.kept kA (by simp) (hbQ.out.lt (by simp))).get 7 _ rfl, (hbQ.out.kept kA (by simp) (hbQ.out.lt (by simp))).get 8 _ rfl, (hbQ.out.kept kA (by simp) (hbQ.out.lt (by simp))).get 9 _ rfl⟩
        refine wp_region_held_drew (S := (fun A => (A.cell? ⟨g, o + j * 4, none⟩ = some (.int .i64 yk) ∧ A.cell? ⟨g, o + j * 4 + 1, none⟩ = some (.bool yb) ∧ A.cell? ⟨g, o + j * 4 + 2, none⟩ = some (.int .i64 yn) ∧ A.cell? ⟨g, o + j * 4 + 3, none⟩ = some (.string yt)) ∧ (A.cell? ⟨qi, 6, none⟩ = some (.int .i64 xk) ∧ A.cell? ⟨qi, 7, none⟩ = some (.bool xb) ∧ A.cell? ⟨qi, 8, none⟩ = some (.int .i64 xn) ∧ A.cell? ⟨qi, 9, none⟩ = some (.string xt)))) (by kernel_rfl) ?_ (fun hHeld => ?_)
        · exact hS.out _ kd
        have kdr := hid kd
        clear kd hHeld
        have hHeld := hS.out _ kdr.out
        generalize w3.drew = wd at *
        refine wpAnyH_take (i := 0) (v := ?_) rfl (by kernel_rfl) (by kernel_rfl) (by kernel_rfl) (fun _ _ _ h => h) (Or.inl ⟨by rfl, ?_⟩) (by assumption) ?_
        rotate_left
        · intro w hSw; (try dsimp only at hSw); go_simp <;> with_reducible rfl
        try simp only [Act.put, List.getElem_toArray, List.getElem_cons_zero, List.getElem_cons_succ, List.setIfInBounds_toArray, List.set_cons_zero, List.set_cons_succ]
        refine wpAnyH_take (i := 1) (v := ?_) rfl (by kernel_rfl) (by kernel_rfl) (by kernel_rfl) (fun _ _ _ h => h) (Or.inl ⟨by rfl, ?_⟩) (by assumption) ?_
        rotate_left
        · intro w hSw; (try dsimp only at hSw); go_simp <;> with_reducible rfl
        try simp only [Act.put, List.getElem_toArray, List.getElem_cons_zero, List.getElem_cons_succ, List.setIfInBounds_toArray, List.set_cons_zero, List.set_cons_succ]
        refine wpAnyH_take (i := 2) (v := ?_) rfl (by kernel_rfl) (by kernel_rfl) (by kernel_rfl) (fun _ _ _ h => h) (Or.inl ⟨by rfl, ?_⟩) (by assumption) ?_
        rotate_left
        · intro w hSw; (try dsimp only at hSw); go_simp <;> with_reducible rfl
        try simp only [Act.put, List.getElem_toArray, List.getElem_cons_zero, List.getElem_cons_succ, List.setIfInBounds_toArray, List.set_cons_zero, List.set_cons_succ]
        refine wpAnyH_take (i := 3) (v := ?_) rfl (by kernel_rfl) (by kernel_rfl) (by kernel_rfl) (fun _ _ _ h => h) (Or.inl ⟨by rfl, ?_⟩) (by assumption) ?_
        rotate_left
        · intro w hSw; (try dsimp only at hSw); go_simp <;> with_reducible rfl
        try simp only [Act.put, List.getElem_toArray, List.getElem_cons_zero, List.getElem_cons_succ, List.setIfInBounds_toArray, List.set_cons_zero, List.set_cons_succ]
        refine wpAnyH_take (i := 4) (v := ?_) rfl (by kernel_rfl) (by kernel_rfl) (by kernel_rfl) (fun _ _ _ h => h) (Or.inl ⟨by rfl, ?_⟩) (by assumption) ?_
        rotate_left
        · intro w hSw; (try dsimp only at hSw); go_simp <;> with_reducible rfl
        try simp only [Act.put, List.getElem_toArray, List.getElem_cons_zero, List.getElem_cons_succ, List.setIfInBounds_toArray, List.set_cons_zero, List.set_cons_succ]
        refine wpAnyH_take (i := 5) (v := ?_) rfl (by kernel_rfl) (by kernel_rfl) (by kernel_rfl) (fun _ _ _ h => h) (Or.inl ⟨by rfl, ?_⟩) (by assumption) ?_
        rotate_left
        · intro w hSw; (try dsimp only at hSw); go_simp <;> with_reducible rfl
        try simp only [Act.put, List.getElem_toArray, List.getElem_cons_zero, List.getElem_cons_succ, List.setIfInBounds_toArray, List.set_cons_zero, List.set_cons_succ]
        refine wpAnyH_ready (rs := [6]) (by kernel_rfl) (by simp) ?_
        refine AllReadyH.cons rfl (fun K hK => ?_) AllReadyH.nil
        go_simp
        refine (hCx.out wd).mono ?_
        rintro e w4a ⟨rfl, k2⟩
        (try go_wp2_with fail)
        refine hK.out _ _ ?_ (fun hHeld => ?_)
        · exact hS.out _ (kdr.out.trans k2 (by simp))
        clear hK K
        try simp only [Act.put, List.getElem_toArray, List.getElem_cons_zero, List.getElem_cons_succ, List.setIfInBounds_toArray, List.set_cons_zero, List.set_cons_succ]
        refine wpAnyH_take (i := 7) (v := ?_) rfl (by kernel_rfl) (by kernel_rfl) (by kernel_rfl) (fun _ _ _ h => h) (Or.inl ⟨by rfl, ?_⟩) (by assumption) ?_
        rotate_left
        · intro w hSw; (try dsimp only at hSw); go_simp <;> with_reducible rfl
        try simp only [Act.put, List.getElem_toArray, List.getElem_cons_zero, List.getElem_cons_succ, List.setIfInBounds_toArray, List.set_cons_zero, List.set_cons_succ]
        refine wpAnyH_done (by kernel_rfl) ?_ _
        have kw4a : Kp [] w3 w4a := kdr.out.trans k2 (by simp)
        have hkn2 := hid (hkn.out.trans kw4a (by simp))
        have hbQ2 := hid (hbQ.out.kept kw4a (by simp) (hbQ.out.lt (by simp)))
        have hbR2 := hid (hbR.out.kept kw4a (by simp) (hbR.out.lt (by simp)))
        clear hHeld hS kdr k2 hkn hbQ hbR kw4a
        have hkn := hkn2
        have hbQ := hbQ2
        have hbR := hbR2
        clear hkn2 hbQ2 hbR2
        by_cases hcc2 : 0 < Cx
        · have hxN : Hid (maxTo l (j + 1 - 1) = ⟨yk, yb, yn, yt⟩) := by show _ = _; rw [hsx.out, if_pos hcc2]
          have hcc2b : Cx > 0 := hcc2
          clear hsx
          obtain ⟨y0, y1, y2, y3⟩ := hcy.out w4a hkn.out
          have e0 := hbQ.out.get 6 _ rfl; have ef0 := hbQ.out.free 6
          have e1 := hbQ.out.get 7 _ rfl; have ef1 := hbQ.out.free 7
          have e2 := hbQ.out.get 8 _ rfl; have ef2 := hbQ.out.free 8
          have e3 := hbQ.out.get 9 _ rfl; have ef3 := hbQ.out.free 9
          obtain ⟨w5a, hw5a, bI, kI⟩ : ∃ Y9, ((((w4a.setCell ⟨qi, 6, none⟩ (.int .i64 yk)).setCell ⟨qi, 7, none⟩ (.bool yb)).setCell ⟨qi, 8, none⟩ (.int .i64 yn)).setCell ⟨qi, 9, none⟩ (.string yt)) = Y9 ∧ Bx Y9 qi [.int .i64 k, .int .i64 (l.length : Int), .int .i64 yk, .bool yb, .int .i64 yn, .string yt, .int .i64 yk, .bool yb, .int .i64 yn, .string yt, .int .i64 (n : Int), .int .i64 0] ∧ Kp [qi] w4a Y9 := ⟨_, rfl, genS4 (R := fun Y9 => Bx Y9 qi [.int .i64 k, .int .i64 (l.length : Int), .int .i64 yk, .bool yb, .int .i64 yn, .string yt, .int .i64 yk, .bool yb, .int .i64 yn, .string yt, .int .i64 (n : Int), .int .i64 0]) hbQ.out 6 7 8 9 (by simp) (by simp) (by simp) (by simp) (.int .i64 yk) (.bool yb) (.int .i64 yn) (.string yt) (fun Y9 b _ => b), genS4 (R := fun Y9 => Kp [qi] w4a Y9) hbQ.out 6 7 8 9 (by simp) (by simp) (by simp) (by simp) (.int .i64 yk) (.bool yb) (.int .i64 yn) (.string yt) (fun Y9 _ k => k)⟩
          have hkn2 := hid (hkn.out.trans kI (fun x hx => .inr (by simp at hx; omega)))
          have hbR2 := hid (hbR.out.kept kI (by simpa using hne) (hbR.out.lt (by simp)))
          have hbQ2 := hid bI
          clear hkn hbQ hbR bI kI
          have hkn := hkn2
          have hbQ := hbQ2
          have hbR := hbR2
          clear hkn2 hbQ2 hbR2
          obtain ⟨s0, _, _, _⟩ := hcy.out w5a hkn.out
          have hkN := hid hkn.out
          by_cases hv0 : yk = 0
          · have d0 : (yk == 0) = true := by simpa using hv0
            have hst2 : Hid (nullsV (l.take (j + 1)) = n + 1) := by show _ = _; rw [hsn.out, if_pos hv0]
            clear hv0
            have c10 := hbQ.out.get 10 _ rfl
            have f10 := hbQ.out.free 10
            have hB := hbQ.out.set 10 (by simp) (.int .i64 ((n : Int) + 1))
            have kS : Kp [qi] w5a (w5a.setCell ⟨qi, 10, none⟩ (.int .i64 ((n : Int) + 1))) := (Kp.refl [qi] w5a).setCell (p := ⟨qi, 10, none⟩) (.inl (by simp)) _
            have hA := hbR.out.kept kS (by simpa using hne) (hbR.out.lt (by simp))
            have kW := hkn.out.trans kS (fun x hx => .inr (by simp at hx; omega))
            have hN := hid (And.intro kW (And.intro hA hB))
            clear hsn hB hA kS kW
            go_wp2_with fail
            exact ⟨⟨j + 1, n + 1, ⟨yk, yb, yn, yt⟩, ⟨yk, yb, yn, yt⟩, by omega, by go_num, hmN, hxN, hst2, by omega, hN.out.1, hN.out.2.1, hN.out.2.2⟩, by simp [intOf]; omega⟩
          · have hst2 : Hid (nullsV (l.take (j + 1)) = n) := by show _ = _; rw [hsn.out, if_neg hv0]; rfl
            have d0 : (yk == 0) = false := by simpa using hv0
            clear hsn
            go_wp2_with fail
            exact ⟨⟨j + 1, n, ⟨yk, yb, yn, yt⟩, ⟨yk, yb, yn, yt⟩, by omega, by go_num, hmN, hxN, hst2, by omega, hkn.out, hbR.out, hbQ.out⟩, by simp [intOf]; omega⟩
        · have hxN : Hid (maxTo l (j + 1 - 1) = ⟨xk, xb, xn, xt⟩) := by show _ = _; rw [hsx.out, if_neg hcc2]
          clear hsx
          obtain ⟨s0, _, _, _⟩ := hcy.out w4a hkn.out
          have hkN := hid hkn.out
          by_cases hv0 : yk = 0
          · have d0 : (yk == 0) = true := by simpa using hv0
            have hst2 : Hid (nullsV (l.take (j + 1)) = n + 1) := by show _ = _; rw [hsn.out, if_pos hv0]
            clear hv0
            have c10 := hbQ.out.get 10 _ rfl
            have f10 := hbQ.out.free 10
            have hB := hbQ.out.set 10 (by simp) (.int .i64 ((n : Int) + 1))
            have kS : Kp [qi] w4a (w4a.setCell ⟨qi, 10, none⟩ (.int .i64 ((n : Int) + 1))) := (Kp.refl [qi] w4a).setCell (p := ⟨qi, 10, none⟩) (.inl (by simp)) _
            have hA := hbR.out.kept kS (by simpa using hne) (hbR.out.lt (by simp))
            have kW := hkn.out.trans kS (fun x hx => .inr (by simp at hx; omega))
            have hN := hid (And.intro kW (And.intro hA hB))
            clear hsn hB hA kS kW
            go_wp2_with fail
            exact ⟨⟨j + 1, n + 1, ⟨yk, yb, yn, yt⟩, ⟨xk, xb, xn, xt⟩, by omega, by go_num, hmN, hxN, hst2, by omega, hN.out.1, hN.out.2.1, hN.out.2.2⟩, by simp [intOf]; omega⟩
          · have hst2 : Hid (nullsV (l.take (j + 1)) = n) := by show _ = _; rw [hsn.out, if_neg hv0]; rfl
            have d0 : (yk == 0) = false := by simpa using hv0
            clear hsn
            go_wp2_with fail
            exact ⟨⟨j + 1, n, ⟨yk, yb, yn, yt⟩, ⟨xk, xb, xn, xt⟩, by omega, by go_num, hmN, hxN, hst2, by omega, hkn.out, hbR.out, hbQ.out⟩, by simp [intOf]; omega⟩
      · have hmN : Hid (minTo l (j + 1 - 1) = ⟨mk, mb, mn, mt⟩) := by show _ = _; rw [hsm.out, if_neg hcc]
        clear hsm
        go_wp2_with fail
        have kd : Kp [] w2 w2.drew := (Kp.refl _ _).drew
        have hS : Hid (∀ A, Kp [] w2 A → (A.cell? ⟨g, o + j * 4, none⟩ = some (.int .i64 yk) ∧ A.cell? ⟨g, o + j * 4 + 1, none⟩ = some (.bool yb) ∧ A.cell? ⟨g, o + j * 4 + 2, none⟩ = some (.int .i64 yn) ∧ A.cell? ⟨g, o + j * 4 + 3, none⟩ = some (.string yt)) ∧ (A.cell? ⟨qi, 6, none⟩ = some (.int .i64 xk) ∧ A.cell? ⟨qi, 7, none⟩ = some (.bool xb) ∧ A.cell? ⟨qi, 8, none⟩ = some (.int .i64 xn) ∧ A.cell? ⟨qi, 9, none⟩ = some (.string xt))) := fun A kA => ⟨hcy.out A (hkn.out.trans kA (by simp)), (hbQ.out.kept kA (by simp) (hbQ.out.lt (by simp))).get 6 _ rfl, (hbQ.out.kept kA (by simp) (hbQ.out.lt (by simp))).get 7 _ rfl, (hbQ.out.kept kA (by simp) (hbQ.out.lt (by simp))).get 8 _ rfl, (hbQ.out.kept kA (by simp) (hbQ.out.lt (by simp))).get 9 _ rfl⟩
        refine wp_region_held_drew (S := (fun A => (A.cell? ⟨g, o + j * 4, none⟩ = some (.int .i64 yk) ∧ A.cell? ⟨g, o + j * 4 + 1, none⟩ = some (.bool yb) ∧ A.cell? ⟨g, o + j * 4 + 2, none⟩ = some (.int .i64 yn) ∧ A.cell? ⟨g, o + j * 4 + 3, none⟩ = some (.string yt)) ∧ (A.cell? ⟨qi, 6, none⟩ = some (.int .i64 xk) ∧ A.cell? ⟨qi, 7, none⟩ = some (.bool xb) ∧ A.cell? ⟨qi, 8, none⟩ = some (.int .i64 xn) ∧ A.cell? ⟨qi, 9, none⟩ = some (.string xt)))) (by kernel_rfl) ?_ (fun hHeld => ?_)
        · exact hS.out _ kd
        have kdr := hid kd
        clear kd hHeld
        have hHeld := hS.out _ kdr.out
        generalize w2.drew = wd at *
        refine wpAnyH_take (i := 0) (v := ?_) rfl (by kernel_rfl) (by kernel_rfl) (by kernel_rfl) (fun _ _ _ h => h) (Or.inl ⟨by rfl, ?_⟩) (by assumption) ?_
        rotate_left
        · intro w hSw; (try dsimp only at hSw); go_simp <;> with_reducible rfl
        try simp only [Act.put, List.getElem_toArray, List.getElem_cons_zero, List.getElem_cons_succ, List.setIfInBounds_toArray, List.set_cons_zero, List.set_cons_succ]
        refine wpAnyH_take (i := 1) (v := ?_) rfl (by kernel_rfl) (by kernel_rfl) (by kernel_rfl) (fun _ _ _ h => h) (Or.inl ⟨by rfl, ?_⟩) (by assumption) ?_
        rotate_left
        · intro w hSw; (try dsimp only at hSw); go_simp <;> with_reducible rfl
        try simp only [Act.put, List.getElem_toArray, List.getElem_cons_zero, List.getElem_cons_succ, List.setIfInBounds_toArray, List.set_cons_zero, List.set_cons_succ]
        refine wpAnyH_take (i := 2) (v := ?_) rfl (by kernel_rfl) (by kernel_rfl) (by kernel_rfl) (fun _ _ _ h => h) (Or.inl ⟨by rfl, ?_⟩) (by assumption) ?_
        rotate_left
        · intro w hSw; (try dsimp only at hSw); go_simp <;> with_reducible rfl
        try simp only [Act.put, List.getElem_toArray, List.getElem_cons_zero, List.getElem_cons_succ, List.setIfInBounds_toArray, List.set_cons_zero, List.set_cons_succ]
        refine wpAnyH_take (i := 3) (v := ?_) rfl (by kernel_rfl) (by kernel_rfl) (by kernel_rfl) (fun _ _ _ h => h) (Or.inl ⟨by rfl, ?_⟩) (by assumption) ?_
        rotate_left
        · intro w hSw; (try dsimp only at hSw); go_simp <;> with_reducible rfl
        try simp only [Act.put, List.getElem_toArray, List.getElem_cons_zero, List.getElem_cons_succ, List.setIfInBounds_toArray, List.set_cons_zero, List.set_cons_succ]
        refine wpAnyH_take (i := 4) (v := ?_) rfl (by kernel_rfl) (by kernel_rfl) (by kernel_rfl) (fun _ _ _ h => h) (Or.inl ⟨by rfl, ?_⟩) (by assumption) ?_
        rotate_left
        · intro w hSw; (try dsimp only at hSw); go_simp <;> with_reducible rfl
        try simp only [Act.put, List.getElem_toArray, List.getElem_cons_zero, List.getElem_cons_succ, List.setIfInBounds_toArray, List.set_cons_zero, List.set_cons_succ]
        refine wpAnyH_take (i := 5) (v := ?_) rfl (by kernel_rfl) (by kernel_rfl) (by kernel_rfl) (fun _ _ _ h => h) (Or.inl ⟨by rfl, ?_⟩) (by assumption) ?_
        rotate_left
        · intro w hSw; (try dsimp only at hSw); go_simp <;> with_reducible rfl
        try simp only [Act.put, List.getElem_toArray, List.getElem_cons_zero, List.getElem_cons_succ, List.setIfInBounds_toArray, List.set_cons_zero, List.set_cons_succ]
        refine wpAnyH_ready (rs := [6]) (by kernel_rfl) (by simp) ?_
        refine AllReadyH.cons rfl (fun K hK => ?_) AllReadyH.nil
        go_simp
        refine (hCx.out wd).mono ?_
        rintro e w4b ⟨rfl, k2⟩
        (try go_wp2_with fail)
        refine hK.out _ _ ?_ (fun hHeld => ?_)
        · exact hS.out _ (kdr.out.trans k2 (by simp))
        clear hK K
        try simp only [Act.put, List.getElem_toArray, List.getElem_cons_zero, List.getElem_cons_succ, List.setIfInBounds_toArray, List.set_cons_zero, List.set_cons_succ]
        refine wpAnyH_take (i := 7) (v := ?_) rfl (by kernel_rfl) (by kernel_rfl) (by kernel_rfl) (fun _ _ _ h => h) (Or.inl ⟨by rfl, ?_⟩) (by assumption) ?_
        rotate_left
        · intro w hSw; (try dsimp only at hSw); go_simp <;> with_reducible rfl
        try simp only [Act.put, List.getElem_toArray, List.getElem_cons_zero, List.getElem_cons_succ, List.setIfInBounds_toArray, List.set_cons_zero, List.set_cons_succ]
        refine wpAnyH_done (by kernel_rfl) ?_ _
        have kw4b : Kp [] w2 w4b := kdr.out.trans k2 (by simp)
        have hkn2 := hid (hkn.out.trans kw4b (by simp))
        have hbQ2 := hid (hbQ.out.kept kw4b (by simp) (hbQ.out.lt (by simp)))
        have hbR2 := hid (hbR.out.kept kw4b (by simp) (hbR.out.lt (by simp)))
        clear hHeld hS kdr k2 hkn hbQ hbR kw4b
        have hkn := hkn2
        have hbQ := hbQ2
        have hbR := hbR2
        clear hkn2 hbQ2 hbR2
        by_cases hcc2 : 0 < Cx
        · have hxN : Hid (maxTo l (j + 1 - 1) = ⟨yk, yb, yn, yt⟩) := by show _ = _; rw [hsx.out, if_pos hcc2]
          have hcc2b : Cx > 0 := hcc2
          clear hsx
          obtain ⟨y0, y1, y2, y3⟩ := hcy.out w4b hkn.out
          have e0 := hbQ.out.get 6 _ rfl; have ef0 := hbQ.out.free 6
          have e1 := hbQ.out.get 7 _ rfl; have ef1 := hbQ.out.free 7
          have e2 := hbQ.out.get 8 _ rfl; have ef2 := hbQ.out.free 8
          have e3 := hbQ.out.get 9 _ rfl; have ef3 := hbQ.out.free 9
          obtain ⟨w5b, hw5b, bI, kI⟩ : ∃ Y9, ((((w4b.setCell ⟨qi, 6, none⟩ (.int .i64 yk)).setCell ⟨qi, 7, none⟩ (.bool yb)).setCell ⟨qi, 8, none⟩ (.int .i64 yn)).setCell ⟨qi, 9, none⟩ (.string yt)) = Y9 ∧ Bx Y9 qi [.int .i64 k, .int .i64 (l.length : Int), .int .i64 mk, .bool mb, .int .i64 mn, .string mt, .int .i64 yk, .bool yb, .int .i64 yn, .string yt, .int .i64 (n : Int), .int .i64 0] ∧ Kp [qi] w4b Y9 := ⟨_, rfl, genS4 (R := fun Y9 => Bx Y9 qi [.int .i64 k, .int .i64 (l.length : Int), .int .i64 mk, .bool mb, .int .i64 mn, .string mt, .int .i64 yk, .bool yb, .int .i64 yn, .string yt, .int .i64 (n : Int), .int .i64 0]) hbQ.out 6 7 8 9 (by simp) (by simp) (by simp) (by simp) (.int .i64 yk) (.bool yb) (.int .i64 yn) (.string yt) (fun Y9 b _ => b), genS4 (R := fun Y9 => Kp [qi] w4b Y9) hbQ.out 6 7 8 9 (by simp) (by simp) (by simp) (by simp) (.int .i64 yk) (.bool yb) (.int .i64 yn) (.string yt) (fun Y9 _ k => k)⟩
          have hkn2 := hid (hkn.out.trans kI (fun x hx => .inr (by simp at hx; omega)))
          have hbR2 := hid (hbR.out.kept kI (by simpa using hne) (hbR.out.lt (by simp)))
          have hbQ2 := hid bI
          clear hkn hbQ hbR bI kI
          have hkn := hkn2
          have hbQ := hbQ2
          have hbR := hbR2
          clear hkn2 hbQ2 hbR2
          obtain ⟨s0, _, _, _⟩ := hcy.out w5b hkn.out
          have hkN := hid hkn.out
          by_cases hv0 : yk = 0
          · have d0 : (yk == 0) = true := by simpa using hv0
            have hst2 : Hid (nullsV (l.take (j + 1)) = n + 1) := by show _ = _; rw [hsn.out, if_pos hv0]
            clear hv0
            have c10 := hbQ.out.get 10 _ rfl
            have f10 := hbQ.out.free 10
            have hB := hbQ.out.set 10 (by simp) (.int .i64 ((n : Int) + 1))
            have kS : Kp [qi] w5b (w5b.setCell ⟨qi, 10, none⟩ (.int .i64 ((n : Int) + 1))) := (Kp.refl [qi] w5b).setCell (p := ⟨qi, 10, none⟩) (.inl (by simp)) _
            have hA := hbR.out.kept kS (by simpa using hne) (hbR.out.lt (by simp))
            have kW := hkn.out.trans kS (fun x hx => .inr (by simp at hx; omega))
            have hN := hid (And.intro kW (And.intro hA hB))
            clear hsn hB hA kS kW
            go_wp2_with fail
            exact ⟨⟨j + 1, n + 1, ⟨mk, mb, mn, mt⟩, ⟨yk, yb, yn, yt⟩, by omega, by go_num, hmN, hxN, hst2, by omega, hN.out.1, hN.out.2.1, hN.out.2.2⟩, by simp [intOf]; omega⟩
          · have hst2 : Hid (nullsV (l.take (j + 1)) = n) := by show _ = _; rw [hsn.out, if_neg hv0]; rfl
            have d0 : (yk == 0) = false := by simpa using hv0
            clear hsn
            go_wp2_with fail
            exact ⟨⟨j + 1, n, ⟨mk, mb, mn, mt⟩, ⟨yk, yb, yn, yt⟩, by omega, by go_num, hmN, hxN, hst2, by omega, hkn.out, hbR.out, hbQ.out⟩, by simp [intOf]; omega⟩
        · have hxN : Hid (maxTo l (j + 1 - 1) = ⟨xk, xb, xn, xt⟩) := by show _ = _; rw [hsx.out, if_neg hcc2]
          clear hsx
          obtain ⟨s0, _, _, _⟩ := hcy.out w4b hkn.out
          have hkN := hid hkn.out
          by_cases hv0 : yk = 0
          · have d0 : (yk == 0) = true := by simpa using hv0
            have hst2 : Hid (nullsV (l.take (j + 1)) = n + 1) := by show _ = _; rw [hsn.out, if_pos hv0]
            clear hv0
            have c10 := hbQ.out.get 10 _ rfl
            have f10 := hbQ.out.free 10
            have hB := hbQ.out.set 10 (by simp) (.int .i64 ((n : Int) + 1))
            have kS : Kp [qi] w4b (w4b.setCell ⟨qi, 10, none⟩ (.int .i64 ((n : Int) + 1))) := (Kp.refl [qi] w4b).setCell (p := ⟨qi, 10, none⟩) (.inl (by simp)) _
            have hA := hbR.out.kept kS (by simpa using hne) (hbR.out.lt (by simp))
            have kW := hkn.out.trans kS (fun x hx => .inr (by simp at hx; omega))
            have hN := hid (And.intro kW (And.intro hA hB))
            clear hsn hB hA kS kW
            go_wp2_with fail
            exact ⟨⟨j + 1, n + 1, ⟨mk, mb, mn, mt⟩, ⟨xk, xb, xn, xt⟩, by omega, by go_num, hmN, hxN, hst2, by omega, hN.out.1, hN.out.2.1, hN.out.2.2⟩, by simp [intOf]; omega⟩
          · have hst2 : Hid (nullsV (l.take (j + 1)) = n) := by show _ = _; rw [hsn.out, if_neg hv0]; rfl
            have d0 : (yk == 0) = false := by simpa using hv0
            clear hsn
            go_wp2_with fail
            exact ⟨⟨j + 1, n, ⟨mk, mb, mn, mt⟩, ⟨xk, xb, xn, xt⟩, by omega, by go_num, hmN, hxN, hst2, by omega, hkn.out, hbR.out, hbQ.out⟩, by simp [intOf]; omega⟩
    · obtain rfl : j = l.length := by omega
      rw [List.take_length] at hn
      have hkn := hid kn
      have hbQ := hid bQ
      have p0 := bQ.get 0 _ rfl; have y0 := bR.get 0 _ rfl; have f0 := bR.free 0
      have p1 := bQ.get 1 _ rfl; have y1 := bR.get 1 _ rfl; have f1 := bR.free 1
      have p2 := bQ.get 2 _ rfl; have y2 := bR.get 2 _ rfl; have f2 := bR.free 2
      have p3 := bQ.get 3 _ rfl; have y3 := bR.get 3 _ rfl; have f3 := bR.free 3
      have p4 := bQ.get 4 _ rfl; have y4 := bR.get 4 _ rfl; have f4 := bR.free 4
      have p5 := bQ.get 5 _ rfl; have y5 := bR.get 5 _ rfl; have f5 := bR.free 5
      have p6 := bQ.get 6 _ rfl; have y6 := bR.get 6 _ rfl; have f6 := bR.free 6
      have p7 := bQ.get 7 _ rfl; have y7 := bR.get 7 _ rfl; have f7 := bR.free 7
      have p8 := bQ.get 8 _ rfl; have y8 := bR.get 8 _ rfl; have f8 := bR.free 8
      have p9 := bQ.get 9 _ rfl; have y9 := bR.get 9 _ rfl; have f9 := bR.free 9
      have p10 := bQ.get 10 _ rfl; have y10 := bR.get 10 _ rfl; have f10 := bR.free 10
      have p11 := bQ.get 11 _ rfl; have y11 := bR.get 11 _ rfl; have f11 := bR.free 11
      obtain ⟨W, hW, bW, kW⟩ : ∃ Y9, ((((((((((((wr.setCell ⟨q, 0, none⟩ (.int .i64 k)).setCell ⟨q, 1, none⟩ (.int .i64 (l.length : Int))).setCell ⟨q, 2, none⟩ (.int .i64 mk)).setCell ⟨q, 3, none⟩ (.bool mb)).setCell ⟨q, 4, none⟩ (.int .i64 mn)).setCell ⟨q, 5, none⟩ (.string mt)).setCell ⟨q, 6, none⟩ (.int .i64 xk)).setCell ⟨q, 7, none⟩ (.bool xb)).setCell ⟨q, 8, none⟩ (.int .i64 xn)).setCell ⟨q, 9, none⟩ (.string xt)).setCell ⟨q, 10, none⟩ (.int .i64 (n : Int))).setCell ⟨q, 11, none⟩ (.int .i64 0)) = Y9 ∧ Bx Y9 q [.int .i64 k, .int .i64 (l.length : Int), .int .i64 mk, .bool mb, .int .i64 mn, .string mt, .int .i64 xk, .bool xb, .int .i64 xn, .string xt, .int .i64 (n : Int), .int .i64 0] ∧ Kp [q] wr Y9 := ⟨_, rfl, gen12q (R := fun Y9 => Bx Y9 q [.int .i64 k, .int .i64 (l.length : Int), .int .i64 mk, .bool mb, .int .i64 mn, .string mt, .int .i64 xk, .bool xb, .int .i64 xn, .string xt, .int .i64 (n : Int), .int .i64 0]) bR rfl (.int .i64 k) (.int .i64 (l.length : Int)) (.int .i64 mk) (.bool mb) (.int .i64 mn) (.string mt) (.int .i64 xk) (.bool xb) (.int .i64 xn) (.string xt) (.int .i64 (n : Int)) (.int .i64 0) (fun Y9 b _ => b), gen12q (R := fun Y9 => Kp [q] wr Y9) bR rfl (.int .i64 k) (.int .i64 (l.length : Int)) (.int .i64 mk) (.bool mb) (.int .i64 mn) (.string mt) (.int .i64 xk) (.bool xb) (.int .i64 xn) (.string xt) (.int .i64 (n : Int)) (.int .i64 0) (fun Y9 _ k => k)⟩
      have kkW := hid (kn.trans kW (fun x hx => .inr (by simp at hx; omega)))
      have r0 := bW.get 0 _ rfl
      have r1 := bW.get 1 _ rfl
      have r2 := bW.get 2 _ rfl
      have r3 := bW.get 3 _ rfl
      have r4 := bW.get 4 _ rfl
      have r5 := bW.get 5 _ rfl
      have r6 := bW.get 6 _ rfl
      have r7 := bW.get 7 _ rfl
      have r8 := bW.get 8 _ rfl
      have r9 := bW.get 9 _ rfl
      have r10 := bW.get 10 _ rfl
      have r11 := bW.get 11 _ rfl
      clear bQ bR kn kW bW
      go_wp2_with fail
      refine bodyPost_ret (v := Inf.v ⟨k, l.length, ⟨mk, mb, mn, mt⟩, ⟨xk, xb, xn, xt⟩, n, 0⟩) (by simp [results, Tryz.results35, go_sem, Inf.v, Inf.cs, r0, r1, r2, r3, r4, r5, r6, r7, r8, r9, r10, r11]) rfl ⟨by rw [hfm.out, hm.out, hfx.out, hx.out, hn.out], kkW.out⟩
end Go.Proofs.YtcjnojbjgdechaaGreatDoor
end

section
namespace Go.Proofs.YtcjnojbjgdechaaGreatDoor
open Go.RowKit Go.Hay
set_option linter.unusedVariables false
set_option linter.unusedSimpArgs false

theorem min_le (l : List Val) : ∀ j i, i ≤ j → cmpV (minTo l j) (l.getD i nv) ≤ 0
  | 0, i, h => by
    obtain rfl : i = 0 := by omega
    show cmpV (l.getD 0 nv) (l.getD 0 nv) ≤ 0
    rw [cmp_self]; omega
  | j + 1, i, h => by
    unfold minTo
    by_cases hc : cmpV (l.getD (j + 1) nv) (minTo l j) < 0
    · rw [if_pos hc]
      by_cases e : i = j + 1
      · rw [e, cmp_self]; omega
      · exact cmp_trans _ _ _ (by omega) (min_le l j i (by omega))
    · rw [if_neg hc]
      by_cases e : i = j + 1
      · rw [e]
        have := cmp_neg (l.getD (j + 1) nv) (minTo l j)
        omega
      · exact min_le l j i (by omega)
theorem max_ge (l : List Val) : ∀ j i, i ≤ j → cmpV (l.getD i nv) (maxTo l j) ≤ 0
  | 0, i, h => by
    obtain rfl : i = 0 := by omega
    show cmpV (l.getD 0 nv) (l.getD 0 nv) ≤ 0
    rw [cmp_self]; omega
  | j + 1, i, h => by
    unfold maxTo
    by_cases hc : 0 < cmpV (l.getD (j + 1) nv) (maxTo l j)
    · rw [if_pos hc]
      by_cases e : i = j + 1
      · rw [e, cmp_self]; omega
      · refine cmp_trans _ _ _ (max_ge l j i (by omega)) ?_
        have := cmp_neg (l.getD (j + 1) nv) (maxTo l j)
        omega
    · rw [if_neg hc]
      by_cases e : i = j + 1
      · rw [e]; omega
      · exact max_ge l j i (by omega)
theorem nulls_some (l : List Val) (i : Nat) (h : i < l.length) (hk : (l.getD i nv).k = 0) : 0 < nullsV l := by
  have e : l.getD i nv = l[i] := by simp [h]
  unfold nullsV
  rw [List.countP_pos_iff]
  exact ⟨l[i], List.getElem_mem h, by rw [← e, hk]; rfl⟩
theorem nulls_full (l : List Val) (i : Nat) (h : i < l.length) (hk : (l.getD i nv).k ≠ 0) : nullsV l < l.length := by
  have e : l.getD i nv = l[i] := by simp [h]
  have h1 := nulls_le l
  rcases Nat.lt_or_eq_of_le h1 with h2 | h2
  · exact h2
  · exfalso
    unfold nullsV at h2
    rw [List.countP_eq_length] at h2
    have := h2 l[i] (List.getElem_mem h)
    rw [← e] at this
    simp at this
    exact hk this
/-- If a value makes a term true, the head says that it may. -/
theorem may_of (l : List Val) (i : Nat) (h : i < l.length) (op : Int) (v : Val) (ht : termC op (l.getD i nv).k v.k (cmpV (l.getD i nv) v) = true) :
    mayC op (nullsV l) l.length v.k (cmpV (minV l) v) (cmpV (maxV l) v) = true := by
  have hmin : cmpV (minV l) (l.getD i nv) ≤ 0 := min_le l (l.length - 1) i (by omega)
  have hmax : cmpV (l.getD i nv) (maxV l) ≤ 0 := max_ge l (l.length - 1) i (by omega)
  have hs := nulls_some l i h
  have hf := nulls_full l i h
  generalize l.getD i nv = x at *
  generalize minV l = m at *
  generalize maxV l = g at *
  unfold termC at ht
  unfold mayC
  by_cases h6 : op = 6
  · rw [if_pos h6] at ht ⊢
    have hk : x.k = 0 := by simpa using ht
    have := hs hk
    simp; omega
  rw [if_neg h6] at ht ⊢
  by_cases h7 : op = 7
  · rw [if_pos h7] at ht ⊢
    have hk : x.k ≠ 0 := by simpa using ht
    have := hf hk
    simp; omega
  rw [if_neg h7] at ht ⊢
  by_cases hz : x.k = 0 ∨ v.k = 0
  · rw [if_pos hz] at ht; cases ht
  rw [if_neg hz] at ht
  have hx : x.k ≠ 0 := fun e => hz (.inl e)
  have hff := hf hx
  rw [if_neg (by intro e; rcases e with e | e; omega; exact hz (.inr e))]
  have hle : cmpV x v ≤ 0 → cmpV m v ≤ 0 := fun e => cmp_trans _ _ _ hmin e
  have hlt : cmpV x v < 0 → cmpV m v < 0 := fun e => cmp_strict' _ _ _ hmin e
  have hge : 0 ≤ cmpV x v → 0 ≤ cmpV g v := fun e => by
    have e1 : cmpV v x ≤ 0 := by have := cmp_neg x v; omega
    have e2 := cmp_trans _ _ _ e1 hmax
    have := cmp_neg v g
    omega
  have hgt : 0 < cmpV x v → 0 < cmpV g v := fun e => by
    have e1 : cmpV v x < 0 := by have := cmp_neg x v; omega
    have e2 := cmp_strict _ _ _ e1 hmax
    have := cmp_neg v g
    omega
  generalize cmpV x v = a at *
  generalize cmpV m v = b at *
  generalize cmpV g v = c at *
  by_cases h0 : op = 0
  · subst h0
    have : a = 0 := by simpa [teC] using ht
    have q1 := hle (by omega)
    have q2 := hge (by omega)
    simp [wiC]; omega
  by_cases h1 : op = 1
  · subst h1
    have : a ≠ 0 := by simpa [teC] using ht
    rcases Int.lt_or_gt_of_ne this with q | q
    · have := hlt q; simp [wiC]; omega
    · have := hgt q; simp [wiC]; omega
  by_cases h2 : op = 2
  · subst h2
    have : a < 0 := by simpa [teC] using ht
    have := hlt this; simp [wiC]; omega
  by_cases h3 : op = 3
  · subst h3
    have : a ≤ 0 := by simpa [teC] using ht
    have := hle this; simp [wiC]; omega
  by_cases h4 : op = 4
  · subst h4
    have : 0 < a := by simpa [teC] using ht
    have := hgt this; simp [wiC]; omega
  by_cases h5 : op = 5
  · subst h5
    have : 0 ≤ a := by simpa [teC] using ht
    have := hge this; simp [wiC]; omega
  · unfold teC at ht
    rw [if_neg h0, if_neg h1, if_neg h2, if_neg h3, if_neg h4, if_neg h5] at ht
    cases ht
set_option maxHeartbeats 32000000 in
set_option maxRecDepth 100000 in
theorem walkBM (k : Int) (a : Option Addr) (ca : Nat) (l : List Val) (co op vk : Int) (vb : Bool) (vn : Int) (vt : ByteArray) (w : World) (ht0 : Tab w) (ha : Vals w a l) (hc : l.length ≤ ca) (hm : ca ≤ maxLen) (hin : ∀ x ∈ l, x.in64) :
    Calls Tryz.prog 7 #[.int .i64 k, .slice a l.length ca, .agg #[.int .i64 co, .int .i64 op, .int .i64 vk, .bool vb, .int .i64 vn, .string vt]] w fun e w' => e = .returned (.bool true) ∧ Kp [] w w' := by
  obtain ⟨w0, hw0, kw0, bT⟩ : ∃ w0, w.alloc (.cells #[.int .i64 co, .int .i64 op, .int .i64 vk, .bool vb, .int .i64 vn, .string vt] 51) = w0 ∧ Kp [] w w0 ∧ Bx w0 w.heap.size [.int .i64 co, .int .i64 op, .int .i64 vk, .bool vb, .int .i64 vn, .string vt] := ⟨_, rfl, (Kp.refl _ _).alloc _, Bx.new w _ _⟩
  obtain ⟨qt, hqt⟩ : ∃ q, Hid (w.heap.size = q) := ⟨_, rfl⟩
  rw [hqt.out] at bT
  have hal : Hid (∀ W, Kp [] w W → Calls Tryz.prog 12 #[] W fun e w' => e = .returned (.bool true) ∧ Kp [] W w') := fun W k => bAlive W (ht0.kept k (by simp))
  have cW := cWriteB k a ca l w0 (ht0.kept kw0 (by simp)) (ha.kept kw0) hc hm
  have hla := hid (fun W (kp : Kp [] w W) => ha.kept kp)
  have hhd : Hid ((wrB k l).2 = 0 → ∃ iK iB s : Int, ∃ s' : Nat, hdP (wrB k l).1 = (⟨iK, l.length, minV l, maxV l, nullsV l, iB⟩, s', 0)) := fun h => by
    obtain ⟨h0, hr, e⟩ := wrB_ok h
    have := hdR_blk (kindW k l) l h0 hin hr []
    rw [List.append_nil] at this
    rw [e]
    refine ⟨kindW k l, ((blkB (kindW k l) l).length : Nat), 0, 5 + (rowB (minV l)).length + (rowB (maxV l)).length, ?_⟩
    unfold hdP
    rw [this]
  have hok64 : Hid ((wrB k l).2 = 0 → l.length ≤ 64 ∧ 0 < l.length) := fun h => by
    obtain ⟨h0, hr, e⟩ := wrB_ok h
    exact ⟨(refE_ok hr).2.1, h0⟩
  have hmay := hid (may_of l)
  have hwl := wrB_le k l
  obtain ⟨⟨X, E⟩, hX⟩ : ∃ r, Hid (wrB k l = r) := ⟨_, rfl⟩
  rw [hX.out] at cW hwl
  simp only [hX.out] at hhd hok64
  unfold BsP at cW
  dsimp only at cW hhd hwl hok64
  have hbT := hid bT
  have hkw0 := hid kw0
  have hw0' := hid hw0
  rw [← hw0] at cW
  clear ht0 ha hX bT kw0 hw0
  go_enter Tryz.func7, Tryz.ntmps7
  go_wp2_with fail
  refine cW.mono ?_
  rintro e w1 ⟨b1, c1, rfl, hrow1, k1, hn1⟩
  rw [hw0'.out] at k1
  rw [hqt.out]
  have kw1 := hid (hkw0.out.trans k1 (by simp))
  have bT1 := hid (hbT.out.kept k1 (by simp) (hbT.out.lt (by simp)))
  clear cW k1 hn1 hkw0 hbT hw0'
  by_cases hE0 : E = 0
  · subst hE0
    obtain ⟨iK, iB, _, sz, hP⟩ := hhd.out rfl
    obtain ⟨h64, hl0⟩ := hok64.out rfl
    obtain ⟨hs1, hc1, hm1⟩ := rowSee hrow1
    have cH := bHead b1 c1 X w1 hs1 hc1 hm1
    have hRH : Hid (∀ W, Kp [] w1 W → Calls Tryz.prog 15 #[.slice b1 X.length c1] W (HdP (hdP X) W)) := fun W kW => rHead b1 c1 X W (hs1.kept kW (by simp)) hc1 hm1 (by omega)
    rw [hP] at cH
    simp only [hP] at hRH
    obtain ⟨⟨mk, mb, mn, mt⟩, hmm⟩ : ∃ v, Hid (minV l = v) := ⟨_, rfl⟩
    obtain ⟨⟨xk, xb, xn, xt⟩, hmx⟩ : ∃ v, Hid (maxV l = v) := ⟨_, rfl⟩
    obtain ⟨NU, hNU⟩ : ∃ n : Nat, Hid (nullsV l = n) := ⟨_, rfl⟩
    obtain ⟨iM, hiM⟩ : ∃ m : Int, Hid ((l.length : Int) = m) := ⟨_, rfl⟩
    obtain ⟨iN, hiN⟩ : ∃ m : Int, Hid ((NU : Int) = m) := ⟨_, rfl⟩
    rw [hmm.out, hmx.out, hNU.out, hiM.out, hiN.out] at cH
    simp only [hmm.out, hmx.out, hNU.out, hiM.out, hiN.out] at hRH
    have hmay2 : Hid (∀ i, i < l.length → termC op (l.getD i nv).k vk (cmpV (l.getD i nv) ⟨vk, vb, vn, vt⟩) = true → mayC op iN iM vk (cmpV ⟨mk, mb, mn, mt⟩ ⟨vk, vb, vn, vt⟩) (cmpV ⟨xk, xb, xn, xt⟩ ⟨vk, vb, vn, vt⟩) = true) := fun i hi ht => by
      have := hmay.out i hi op ⟨vk, vb, vn, vt⟩ ht
      rw [hmm.out, hmx.out, hNU.out, hiM.out, hiN.out] at this
      exact this
    unfold HdP at hRH
    unfold Inf.v Inf.cs at cH hRH
    dsimp only at cH hRH
    clear hP hhd hs1 hrow1 hmay hmm hmx hNU hiM hiN
    unfold maxLen at hm1
    go_wp2_with fail
    refine cH.mono ?_
    rintro e w2 ⟨rfl, k2⟩
    obtain ⟨w3, hw3, k3, bI⟩ : ∃ w3, w2.alloc (.cells #[.int .i64 0, .int .i64 0, .int .i64 0, .bool false, .int .i64 0, .string ⟨#[]⟩, .int .i64 0, .bool false, .int .i64 0, .string ⟨#[]⟩, .int .i64 0, .int .i64 0] 34) = w3 ∧ Kp [] w2 w3 ∧ Bx w3 w2.heap.size [.int .i64 0, .int .i64 0, .int .i64 0, .bool false, .int .i64 0, .string ⟨#[]⟩, .int .i64 0, .bool false, .int .i64 0, .string ⟨#[]⟩, .int .i64 0, .int .i64 0] := ⟨_, rfl, (Kp.refl _ _).alloc _, Bx.new w2 _ _⟩
    obtain ⟨qi, hqi⟩ : ∃ q, Hid (w2.heap.size = q) := ⟨_, rfl⟩
    rw [hqi.out] at bI
    have p0 := bI.get 0 _ rfl; have f0 := bI.free 0
    have p1 := bI.get 1 _ rfl; have f1 := bI.free 1
    have p2 := bI.get 2 _ rfl; have f2 := bI.free 2
    have p3 := bI.get 3 _ rfl; have f3 := bI.free 3
    have p4 := bI.get 4 _ rfl; have f4 := bI.free 4
    have p5 := bI.get 5 _ rfl; have f5 := bI.free 5
    have p6 := bI.get 6 _ rfl; have f6 := bI.free 6
    have p7 := bI.get 7 _ rfl; have f7 := bI.free 7
    have p8 := bI.get 8 _ rfl; have f8 := bI.free 8
    have p9 := bI.get 9 _ rfl; have f9 := bI.free 9
    have p10 := bI.get 10 _ rfl; have f10 := bI.free 10
    have p11 := bI.get 11 _ rfl; have f11 := bI.free 11
    obtain ⟨W, hW, bW, kW⟩ : ∃ Y9, ((((((((((((w3.setCell ⟨qi, 0, none⟩ (.int .i64 iK)).setCell ⟨qi, 1, none⟩ (.int .i64 iM)).setCell ⟨qi, 2, none⟩ (.int .i64 mk)).setCell ⟨qi, 3, none⟩ (.bool mb)).setCell ⟨qi, 4, none⟩ (.int .i64 mn)).setCell ⟨qi, 5, none⟩ (.string mt)).setCell ⟨qi, 6, none⟩ (.int .i64 xk)).setCell ⟨qi, 7, none⟩ (.bool xb)).setCell ⟨qi, 8, none⟩ (.int .i64 xn)).setCell ⟨qi, 9, none⟩ (.string xt)).setCell ⟨qi, 10, none⟩ (.int .i64 iN)).setCell ⟨qi, 11, none⟩ (.int .i64 iB)) = Y9 ∧ Bx Y9 qi [.int .i64 iK, .int .i64 iM, .int .i64 mk, .bool mb, .int .i64 mn, .string mt, .int .i64 xk, .bool xb, .int .i64 xn, .string xt, .int .i64 iN, .int .i64 iB] ∧ Kp [qi] w3 Y9 := ⟨_, rfl, gen12q (R := fun Y9 => Bx Y9 qi [.int .i64 iK, .int .i64 iM, .int .i64 mk, .bool mb, .int .i64 mn, .string mt, .int .i64 xk, .bool xb, .int .i64 xn, .string xt, .int .i64 iN, .int .i64 iB]) bI rfl (.int .i64 iK) (.int .i64 iM) (.int .i64 mk) (.bool mb) (.int .i64 mn) (.string mt) (.int .i64 xk) (.bool xb) (.int .i64 xn) (.string xt) (.int .i64 iN) (.int .i64 iB) (fun Y9 b _ => b), gen12q (R := fun Y9 => Kp [qi] w3 Y9) bI rfl (.int .i64 iK) (.int .i64 iM) (.int .i64 mk) (.bool mb) (.int .i64 mn) (.string mt) (.int .i64 xk) (.bool xb) (.int .i64 xn) (.string xt) (.int .i64 iN) (.int .i64 iB) (fun Y9 _ k => k)⟩
    have k1W : Kp [] w1 W := (k2.trans k3 (by simp)).trans kW (fun x hx => .inr (by simp at hx; have := k2.size; rw [hx, ← hqi.out]; omega))
    have kwW := hid (kw1.out.trans k1W (by simp))
    have hbW := hid bW
    have bTW := hid (bT1.out.kept k1W (by simp) (bT1.out.lt (by simp)))
    have cRH := hRH.out W k1W
    have hqi' := hqi.out
    clear cH k2 k3 bI kW bW k1W hRH bT1
    go_wp2_with fail
    refine cRH.mono ?_
    rintro e w4 ⟨rfl, k4⟩
    obtain ⟨w5, hw5, k5, bJ⟩ : ∃ w5, w4.alloc (.cells #[.int .i64 0, .int .i64 0, .int .i64 0, .bool false, .int .i64 0, .string ⟨#[]⟩, .int .i64 0, .bool false, .int .i64 0, .string ⟨#[]⟩, .int .i64 0, .int .i64 0] 37) = w5 ∧ Kp [] w4 w5 ∧ Bx w5 w4.heap.size [.int .i64 0, .int .i64 0, .int .i64 0, .bool false, .int .i64 0, .string ⟨#[]⟩, .int .i64 0, .bool false, .int .i64 0, .string ⟨#[]⟩, .int .i64 0, .int .i64 0] := ⟨_, rfl, (Kp.refl _ _).alloc _, Bx.new w4 _ _⟩
    obtain ⟨qj, hqj⟩ : ∃ q, Hid (w4.heap.size = q) := ⟨_, rfl⟩
    rw [hqj.out] at bJ
    clear p0 f0 p1 f1 p2 f2 p3 f3 p4 f4 p5 f5 p6 f6 p7 f7 p8 f8 p9 f9 p10 f10 p11 f11 hW hw3 hqi'
    have p0 := bJ.get 0 _ rfl; have f0 := bJ.free 0
    have p1 := bJ.get 1 _ rfl; have f1 := bJ.free 1
    have p2 := bJ.get 2 _ rfl; have f2 := bJ.free 2
    have p3 := bJ.get 3 _ rfl; have f3 := bJ.free 3
    have p4 := bJ.get 4 _ rfl; have f4 := bJ.free 4
    have p5 := bJ.get 5 _ rfl; have f5 := bJ.free 5
    have p6 := bJ.get 6 _ rfl; have f6 := bJ.free 6
    have p7 := bJ.get 7 _ rfl; have f7 := bJ.free 7
    have p8 := bJ.get 8 _ rfl; have f8 := bJ.free 8
    have p9 := bJ.get 9 _ rfl; have f9 := bJ.free 9
    have p10 := bJ.get 10 _ rfl; have f10 := bJ.free 10
    have p11 := bJ.get 11 _ rfl; have f11 := bJ.free 11
    obtain ⟨U, hU, bU, kU⟩ : ∃ Y9, ((((((((((((w5.setCell ⟨qj, 0, none⟩ (.int .i64 iK)).setCell ⟨qj, 1, none⟩ (.int .i64 iM)).setCell ⟨qj, 2, none⟩ (.int .i64 mk)).setCell ⟨qj, 3, none⟩ (.bool mb)).setCell ⟨qj, 4, none⟩ (.int .i64 mn)).setCell ⟨qj, 5, none⟩ (.string mt)).setCell ⟨qj, 6, none⟩ (.int .i64 xk)).setCell ⟨qj, 7, none⟩ (.bool xb)).setCell ⟨qj, 8, none⟩ (.int .i64 xn)).setCell ⟨qj, 9, none⟩ (.string xt)).setCell ⟨qj, 10, none⟩ (.int .i64 iN)).setCell ⟨qj, 11, none⟩ (.int .i64 iB)) = Y9 ∧ Bx Y9 qj [.int .i64 iK, .int .i64 iM, .int .i64 mk, .bool mb, .int .i64 mn, .string mt, .int .i64 xk, .bool xb, .int .i64 xn, .string xt, .int .i64 iN, .int .i64 iB] ∧ Kp [qj] w5 Y9 := ⟨_, rfl, gen12q (R := fun Y9 => Bx Y9 qj [.int .i64 iK, .int .i64 iM, .int .i64 mk, .bool mb, .int .i64 mn, .string mt, .int .i64 xk, .bool xb, .int .i64 xn, .string xt, .int .i64 iN, .int .i64 iB]) bJ rfl (.int .i64 iK) (.int .i64 iM) (.int .i64 mk) (.bool mb) (.int .i64 mn) (.string mt) (.int .i64 xk) (.bool xb) (.int .i64 xn) (.string xt) (.int .i64 iN) (.int .i64 iB) (fun Y9 b _ => b), gen12q (R := fun Y9 => Kp [qj] w5 Y9) bJ rfl (.int .i64 iK) (.int .i64 iM) (.int .i64 mk) (.bool mb) (.int .i64 mn) (.string mt) (.int .i64 xk) (.bool xb) (.int .i64 xn) (.string xt) (.int .i64 iN) (.int .i64 iB) (fun Y9 _ k => k)⟩
    have kWU : Kp [] W U := (k4.trans k5 (by simp)).trans kU (fun x hx => .inr (by simp at hx; have := k4.size; rw [hx, ← hqj.out]; omega))
    have kwU := hid (kwW.out.trans kWU (by simp))
    have bIU := hbW.out.kept kWU (by simp) (hbW.out.lt (by simp))
    have bTU := bTW.out.kept kWU (by simp) (bTW.out.lt (by simp))
    have HU := hid (And.intro bU bTU)
    have cM := bMay iK iM mk mb mn mt xk xb xn xt iN iB co op vk vb vn vt U
    have hRM := hid (fun W => rMay iK iM mk mb mn mt xk xb xn xt iN iB co op vk vb vn vt W)
    obtain ⟨MA, hMA⟩ : ∃ b, Hid (mayC op iN iM vk (cmpV ⟨mk, mb, mn, mt⟩ ⟨vk, vb, vn, vt⟩) (cmpV ⟨xk, xb, xn, xt⟩ ⟨vk, vb, vn, vt⟩) = b) := ⟨_, rfl⟩
    rw [hMA.out] at cM
    simp only [hMA.out] at hRM hmay2
    have u0 := bIU.get 0 _ rfl
    have u1 := bIU.get 1 _ rfl
    have u2 := bIU.get 2 _ rfl
    have u3 := bIU.get 3 _ rfl
    have u4 := bIU.get 4 _ rfl
    have u5 := bIU.get 5 _ rfl
    have u6 := bIU.get 6 _ rfl
    have u7 := bIU.get 7 _ rfl
    have u8 := bIU.get 8 _ rfl
    have u9 := bIU.get 9 _ rfl
    have u10 := bIU.get 10 _ rfl
    have u11 := bIU.get 11 _ rfl
    have z0 := bTU.get 0 _ rfl
    have z1 := bTU.get 1 _ rfl
    have z2 := bTU.get 2 _ rfl
    have z3 := bTU.get 3 _ rfl
    have z4 := bTU.get 4 _ rfl
    have z5 := bTU.get 5 _ rfl
    have hqj' := hqj.out
    clear cRH k4 k5 bJ kU bU kWU hbW bTW kwW bIU bTU hMA
    go_wp2_with fail
    refine cM.mono ?_
    rintro e w6 ⟨rfl, k6⟩
    have kw6 := hid (kwU.out.trans k6 (by simp))
    have H6 := hid (And.intro (HU.out.1.kept k6 (by simp) (HU.out.1.lt (by simp))) (HU.out.2.kept k6 (by simp) (HU.out.2.lt (by simp))))
    clear cM k6 HU kwU p0 f0 p1 f1 p2 f2 p3 f3 p4 f4 p5 f5 p6 f6 p7 f7 p8 f8 p9 f9 p10 f10 p11 f11 hU hw5 hqj' u0 u1 u2 u3 u4 u5 u6 u7 u8 u9 u10 u11 z0 z1 z2 z3 z4 z5
    go_wp2_with fail
    refine (hal.out w6 kw6.out).mono ?_
    rintro e w7 ⟨rfl, k7⟩
    have kw7 := hid (kw6.out.trans k7 (by simp))
    have b7 := H6.out.1.kept k7 (by simp) (H6.out.1.lt (by simp))
    have t7 := H6.out.2.kept k7 (by simp) (H6.out.2.lt (by simp))
    have ht7 := hid t7
    have u0 := b7.get 0 _ rfl
    have u1 := b7.get 1 _ rfl
    have u2 := b7.get 2 _ rfl
    have u3 := b7.get 3 _ rfl
    have u4 := b7.get 4 _ rfl
    have u5 := b7.get 5 _ rfl
    have u6 := b7.get 6 _ rfl
    have u7 := b7.get 7 _ rfl
    have u8 := b7.get 8 _ rfl
    have u9 := b7.get 9 _ rfl
    have u10 := b7.get 10 _ rfl
    have u11 := b7.get 11 _ rfl
    have z0 := t7.get 0 _ rfl
    have z1 := t7.get 1 _ rfl
    have z2 := t7.get 2 _ rfl
    have z3 := t7.get 3 _ rfl
    have z4 := t7.get 4 _ rfl
    have z5 := t7.get 5 _ rfl
    clear k7 b7 t7 H6
    go_wp2_with fail
    refine (hRM.out w7).mono ?_
    rintro e w8 ⟨rfl, k8⟩
    have kw8 := kw7.out.trans k8 (by simp)
    have t8 := ht7.out.kept k8 (by simp) (ht7.out.lt (by simp))
    have dMA : (MA != MA) = false := by simp
    have kw8' := hid kw8
    have t8' := hid t8
    clear k8 ht7 hRM u0 u1 u2 u3 u4 u5 u6 u7 u8 u9 u10 u11 z0 z1 z2 z3 z4 z5 kw8 t8
    obtain ⟨g, o, rfl, hdrop⟩ := (hla.out w8 kw8'.out).at 0 hl0
    clear hdrop
    go_wp2_with fail
    go_loopw [58] (fun i wn => ∃ j : Nat, j ≤ l.length ∧ i = .int .i64 (j : Int) ∧ Kp [] w wn ∧ Bx wn qt [.int .i64 co, .int .i64 op, .int .i64 vk, .bool vb, .int .i64 vn, .string vt]) (fun i _ => l.length - (intOf i).toNat)
    case atStart => exact ⟨0, Nat.zero_le _, rfl, kw8'.out, t8'.out⟩
    case round =>
      clear kw8' t8'
      obtain ⟨j, hj, rfl, kn, bn⟩ := hrel
      by_cases hlt : j < l.length
      · obtain ⟨_, _, e0, y0, y1, y2, y3⟩ := (hla.out wr kn).at j hlt
        cases e0
        have hcy : Hid (∀ A, Kp [] w A → A.cell? ⟨g, o + j * 4, none⟩ = some (.int .i64 (l[j]'hlt).k) ∧ A.cell? ⟨g, o + j * 4 + 1, none⟩ = some (.bool (l[j]'hlt).b) ∧ A.cell? ⟨g, o + j * 4 + 2, none⟩ = some (.int .i64 (l[j]'hlt).n) ∧ A.cell? ⟨g, o + j * 4 + 3, none⟩ = some (.string (l[j]'hlt).t)) := fun A kA => by
          obtain ⟨_, _, e1, q0, q1, q2, q3⟩ := (hla.out A kA).at j hlt
          cases e1
          exact ⟨q0, q1, q2, q3⟩
        have hmj := hid (hmay2.out j hlt)
        have eg : l.getD j nv = l[j]'hlt := by simp [hlt]
        rw [eg] at hmj
        obtain ⟨⟨yk, yb, yn, yt⟩, hy⟩ : ∃ y, Hid (l[j]'hlt = y) := ⟨_, rfl⟩
        rw [hy.out] at hmj
        simp only [hy.out] at hcy
        dsimp only at hmj hcy
        have cT := hid (fun W => lTerm co op vk vb vn vt yk yb yn yt W)
        obtain ⟨TB, hTB⟩ : ∃ b, Hid (termC op yk vk (cmpV ⟨yk, yb, yn, yt⟩ ⟨vk, vb, vn, vt⟩) = b) := ⟨_, rfl⟩
        simp only [hTB.out] at cT
        rw [hTB.out] at hmj
        have djl : (j : Int) < (l.length : Int) := by omega
        have d00 : (0 : Int) ≤ (j : Int) := by omega
        have hbn := hid bn
        have hkn := hid kn
        clear y0 y1 y2 y3 eg hy hTB bn kn
        go_wp2_with fail
        have kd : Kp [] wr wr.drew := (Kp.refl _ _).drew
        have hS : Hid (∀ A, Kp [] wr A → (A.cell? ⟨g, o + j * 4, none⟩ = some (.int .i64 yk) ∧ A.cell? ⟨g, o + j * 4 + 1, none⟩ = some (.bool yb) ∧ A.cell? ⟨g, o + j * 4 + 2, none⟩ = some (.int .i64 yn) ∧ A.cell? ⟨g, o + j * 4 + 3, none⟩ = some (.string yt)) ∧ A.cell? ⟨qt, 0, none⟩ = some (.int .i64 co) ∧ A.cell? ⟨qt, 1, none⟩ = some (.int .i64 op) ∧ A.cell? ⟨qt, 2, none⟩ = some (.int .i64 vk) ∧ A.cell? ⟨qt, 3, none⟩ = some (.bool vb) ∧ A.cell? ⟨qt, 4, none⟩ = some (.int .i64 vn) ∧ A.cell? ⟨qt, 5, none⟩ = some (.string vt)) := fun A kA => ⟨hcy.out A (hkn.out.trans kA (by simp)), (hbn.out.kept kA (by simp) (hbn.out.lt (by simp))).get 0 _ rfl, (hbn.out.kept kA (by simp) (hbn.out.lt (by simp))).get 1 _ rfl, (hbn.out.kept kA (by simp) (hbn.out.lt (by simp))).get 2 _ rfl, (hbn.out.kept kA (by simp) (hbn.out.lt (by simp))).get 3 _ rfl, (hbn.out.kept kA (by simp) (hbn.out.lt (by simp))).get 4 _ rfl, (hbn.out.kept kA (by simp) (hbn.out.lt (by simp))).get 5 _ rfl⟩
        refine wp_region_held_drew (S := (fun A => (A.cell? ⟨g, o + j * 4, none⟩ = some (.int .i64 yk) ∧ A.cell? ⟨g, o + j * 4 + 1, none⟩ = some (.bool yb) ∧ A.cell? ⟨g, o + j * 4 + 2, none⟩ = some (.int .i64 yn) ∧ A.cell? ⟨g, o + j * 4 + 3, none⟩ = some (.string yt)) ∧ A.cell? ⟨qt, 0, none⟩ = some (.int .i64 co) ∧ A.cell? ⟨qt, 1, none⟩ = some (.int .i64 op) ∧ A.cell? ⟨qt, 2, none⟩ = some (.int .i64 vk) ∧ A.cell? ⟨qt, 3, none⟩ = some (.bool vb) ∧ A.cell? ⟨qt, 4, none⟩ = some (.int .i64 vn) ∧ A.cell? ⟨qt, 5, none⟩ = some (.string vt))) (by kernel_rfl) ?_ (fun hHeld => ?_)
        · exact hS.out _ kd
        have kdr := hid kd
        clear kd hHeld
        have hHeld := hS.out _ kdr.out
        generalize wr.drew = wd at *
        refine wpAnyH_take (i := 0) (v := ?_) rfl (by kernel_rfl) (by kernel_rfl) (by kernel_rfl) (fun _ _ _ h => h) (Or.inl ⟨by rfl, ?_⟩) (by assumption) ?_
        rotate_left
        · intro w hSw; (try dsimp only at hSw); go_simp <;> with_reducible rfl
        try simp only [Act.put, List.getElem_toArray, List.getElem_cons_zero, List.getElem_cons_succ, List.setIfInBounds_toArray, List.set_cons_zero, List.set_cons_succ]
        refine wpAnyH_take (i := 1) (v := ?_) rfl (by kernel_rfl) (by kernel_rfl) (by kernel_rfl) (fun _ _ _ h => h) (Or.inl ⟨by rfl, ?_⟩) (by assumption) ?_
        rotate_left
        · intro w hSw; (try dsimp only at hSw); go_simp <;> with_reducible rfl
        try simp only [Act.put, List.getElem_toArray, List.getElem_cons_zero, List.getElem_cons_succ, List.setIfInBounds_toArray, List.set_cons_zero, List.set_cons_succ]
        refine wpAnyH_take (i := 2) (v := ?_) rfl (by kernel_rfl) (by kernel_rfl) (by kernel_rfl) (fun _ _ _ h => h) (Or.inl ⟨by rfl, ?_⟩) (by assumption) ?_
        rotate_left
        · intro w hSw; (try dsimp only at hSw); go_simp <;> with_reducible rfl
        try simp only [Act.put, List.getElem_toArray, List.getElem_cons_zero, List.getElem_cons_succ, List.setIfInBounds_toArray, List.set_cons_zero, List.set_cons_succ]
        refine wpAnyH_take (i := 3) (v := ?_) rfl (by kernel_rfl) (by kernel_rfl) (by kernel_rfl) (fun _ _ _ h => h) (Or.inl ⟨by rfl, ?_⟩) (by assumption) ?_
        rotate_left
        · intro w hSw; (try dsimp only at hSw); go_simp <;> with_reducible rfl
        try simp only [Act.put, List.getElem_toArray, List.getElem_cons_zero, List.getElem_cons_succ, List.setIfInBounds_toArray, List.set_cons_zero, List.set_cons_succ]
        refine wpAnyH_take (i := 4) (v := ?_) rfl (by kernel_rfl) (by kernel_rfl) (by kernel_rfl) (fun _ _ _ h => h) (Or.inl ⟨by rfl, ?_⟩) (by assumption) ?_
        rotate_left
        · intro w hSw; (try dsimp only at hSw); go_simp <;> with_reducible rfl
        try simp only [Act.put, List.getElem_toArray, List.getElem_cons_zero, List.getElem_cons_succ, List.setIfInBounds_toArray, List.set_cons_zero, List.set_cons_succ]
        refine wpAnyH_ready (rs := [5]) (by kernel_rfl) (by simp) ?_
        refine AllReadyH.cons rfl (fun K hK => ?_) AllReadyH.nil
        go_simp
        refine (cT.out wd).mono ?_
        rintro e w9 ⟨rfl, k9⟩
        (try go_wp2_with fail)
        refine hK.out _ _ ?_ (fun hHeld => ?_)
        · exact hS.out _ (kdr.out.trans k9 (by simp))
        clear hK K
        try simp only [Act.put, List.getElem_toArray, List.getElem_cons_zero, List.getElem_cons_succ, List.setIfInBounds_toArray, List.set_cons_zero, List.set_cons_succ]
        refine wpAnyH_take (i := 6) (v := ?_) rfl (by kernel_rfl) (by kernel_rfl) (by kernel_rfl) (fun _ _ _ h => h) (Or.inl ⟨by rfl, ?_⟩) (by assumption) ?_
        rotate_left
        · intro w hSw; (try dsimp only at hSw); go_simp <;> with_reducible rfl
        try simp only [Act.put, List.getElem_toArray, List.getElem_cons_zero, List.getElem_cons_succ, List.setIfInBounds_toArray, List.set_cons_zero, List.set_cons_succ]
        have kwn := hid (hkn.out.trans (kdr.out.trans k9 (by simp)) (by simp))
        have bwn := hid (hbn.out.kept (kdr.out.trans k9 (by simp)) (by simp) (hbn.out.lt (by simp)))
        cases TB with
        | false =>
          clear hmj
          refine wpAnyH_take (i := 7) (v := undef) rfl (by kernel_rfl) (by kernel_rfl) (by kernel_rfl) (fun _ _ _ h => h) (Or.inr ⟨by rfl, rfl⟩) (by assumption) ?_
          try simp only [Act.put, List.getElem_toArray, List.getElem_cons_zero, List.getElem_cons_succ, List.setIfInBounds_toArray, List.set_cons_zero, List.set_cons_succ]
          refine wpAnyH_take (i := 8) (v := undef) rfl (by kernel_rfl) (by kernel_rfl) (by kernel_rfl) (fun _ _ _ h => h) (Or.inr ⟨by rfl, rfl⟩) (by assumption) ?_
          try simp only [Act.put, List.getElem_toArray, List.getElem_cons_zero, List.getElem_cons_succ, List.setIfInBounds_toArray, List.set_cons_zero, List.set_cons_succ]
          refine wpAnyH_take (i := 9) (v := ?_) rfl (by kernel_rfl) (by kernel_rfl) (by kernel_rfl) (fun _ _ _ h => h) (Or.inl ⟨by rfl, ?_⟩) (by assumption) ?_
          rotate_left
          · intro w hSw; (try dsimp only at hSw); go_simp <;> with_reducible rfl
          try simp only [Act.put, List.getElem_toArray, List.getElem_cons_zero, List.getElem_cons_succ, List.setIfInBounds_toArray, List.set_cons_zero, List.set_cons_succ]
          refine wpAnyH_done (by kernel_rfl) ?_ _
          clear hHeld hS kdr k9 hkn hbn hcy cT
          go_wp2_with fail
          exact ⟨⟨j + 1, by omega, by go_num, kwn.out, bwn.out⟩, by simp [intOf]; omega⟩
        | true =>
          have hM1 : MA = true := hmj.out (by simp)
          subst hM1
          refine wpAnyH_take (i := 7) (v := ?_) rfl (by kernel_rfl) (by kernel_rfl) (by kernel_rfl) (fun _ _ _ h => h) (Or.inl ⟨by rfl, ?_⟩) (by assumption) ?_
          rotate_left
          · intro w hSw; (try dsimp only at hSw); go_simp <;> with_reducible rfl
          try simp only [Act.put, List.getElem_toArray, List.getElem_cons_zero, List.getElem_cons_succ, List.setIfInBounds_toArray, List.set_cons_zero, List.set_cons_succ]
          refine wpAnyH_take (i := 8) (v := ?_) rfl (by kernel_rfl) (by kernel_rfl) (by kernel_rfl) (fun _ _ _ h => h) (Or.inl ⟨by rfl, ?_⟩) (by assumption) ?_
          rotate_left
          · intro w hSw; (try dsimp only at hSw); go_simp <;> with_reducible rfl
          try simp only [Act.put, List.getElem_toArray, List.getElem_cons_zero, List.getElem_cons_succ, List.setIfInBounds_toArray, List.set_cons_zero, List.set_cons_succ]
          refine wpAnyH_take (i := 9) (v := ?_) rfl (by kernel_rfl) (by kernel_rfl) (by kernel_rfl) (fun _ _ _ h => h) (Or.inl ⟨by rfl, ?_⟩) (by assumption) ?_
          rotate_left
          · intro w hSw; (try dsimp only at hSw); go_simp <;> with_reducible rfl
          try simp only [Act.put, List.getElem_toArray, List.getElem_cons_zero, List.getElem_cons_succ, List.setIfInBounds_toArray, List.set_cons_zero, List.set_cons_succ]
          refine wpAnyH_done (by kernel_rfl) ?_ _
          clear hHeld hS kdr k9 hkn hbn hcy cT hmj
          go_wp2_with fail
          exact ⟨⟨j + 1, by omega, by go_num, kwn.out, bwn.out⟩, by simp [intOf]; omega⟩
      · have dj : ¬ (j : Int) < (l.length : Int) := by omega
        go_wp2_with fail
        go_ret
        exact ⟨rfl, kn⟩
  · have d5 : (E != 0) = true := by simpa using hE0
    clear hrow1 hhd hmay
    go_wp2_with fail
    refine (hal.out w1 kw1.out).mono ?_
    rintro e w2 ⟨rfl, k2⟩
    go_wp2_with fail
    go_ret
    exact ⟨rfl, kw1.out.trans k2 (by simp)⟩
theorem mayWalk7 (k : Int) (a : Option Addr) (len ca : Nat) (l : List Val) (co op vk : Int) (vb : Bool) (vn : Int) (vt : ByteArray) (w : World) (ht : Tab w) (hs : Vals w a l) (hlen : len = l.length) (hl : l.length ≤ ca) (hm : ca ≤ maxLen) (hin : ∀ x ∈ l, x.in64) :
    Calls Tryz.prog 7 #[.int .i64 k, .slice a len ca, .agg #[.int .i64 co, .int .i64 op, .int .i64 vk, .bool vb, .int .i64 vn, .string vt]] w fun e w' => e = .returned (.bool true) ∧ Below w.heap.size w w' := by
  subst hlen
  exact (walkBM k a ca l co op vk vb vn vt w ht hs hl hm hin).mono fun e w' ⟨h1, h2⟩ => ⟨h1, h2.below⟩
end Go.Proofs.YtcjnojbjgdechaaGreatDoor
end

section
namespace Go.Proofs.YtcjnojbjgdechaaGreatDoor
open Go.ChangeShapes Go.WideShapes Go.ChangeAt Go.RowKit Go.Hay
set_option linter.unusedVariables false

theorem cellsTm : Tryz.prog.cellsOf 51 = 6 := by kernel_rfl
set_option maxRecDepth 100000 in
theorem openTerm6 {H : Type} {enc : TypeId × Value → H} {W : World} {fuel : Nat} {c0 c1 c2 c3 c4 c5 : Value} {x : DataW H × List MemPlace} (h : DataW.trod enc Tryz.prog W 0 (fun _ => true) true fuel 51 [c0, c1, c2, c3, c4, c5] = some x) :
    ∃ (co op : Int) (t : Val), c0 = .int .i64 co ∧ c1 = .int .i64 op ∧ c2 = .int .i64 t.k ∧ c3 = .bool t.b ∧ c4 = .int .i64 t.n ∧ c5 = .string t.t := by
  obtain ⟨xs, n, _, rfl, _, hlen, hf⟩ := DataW.trod_struct Tryz.underlying51 h
  match xs, hlen with
  | [y0, y1, y2], _ =>
    have h0 := hf 0 _ rfl
    have h1 := hf 1 _ rfl
    have h2 := hf 2 _ rfl
    simp [cellsI, cellsV] at h0 h1 h2
    obtain ⟨co, e0, _, w0⟩ := DataW.trod_int Tryz.underlying3 h0
    obtain ⟨op, e1, _, w1⟩ := DataW.trod_int Tryz.underlying3 h1
    obtain ⟨t, ok, e2, e3, e4, e5⟩ := openVal4 (c0 := c2) (c1 := c3) (c2 := c4) (c3 := c5) h2
    simp at e0 e1
    exact ⟨co, op, t, e0, e1, e2, e3, e4, e5⟩
set_option maxRecDepth 100000 in
theorem openTerm {H : Type} {enc : TypeId × Value → H} {W : World} {base : Nat} {v : Value} {d : DataW H} {ps : List MemPlace} (hv : Value.okWide Tryz.prog W .any base 51 v)
    (h : DataW.Trod enc Tryz.prog W 0 (fun _ => true) true 51 v d ps) : ∃ (co op : Int) (t : Val), v = .agg #[.int .i64 co, .int .i64 op, .int .i64 t.k, .bool t.b, .int .i64 t.n, .string t.t] := by
  obtain ⟨cs, rfl, hsz⟩ := okWide_struct Tryz.underlying51 hv
  rw [cellsTm] at hsz
  obtain ⟨fuel, hf⟩ := h
  obtain ⟨l⟩ := cs
  match l, hsz, hf with
  | [c0, c1, c2, c3, c4, c5], _, hf =>
    obtain ⟨co, op, t, e0, e1, e2, e3, e4, e5⟩ := openTerm6 (c0 := c0) (c1 := c1) (c2 := c2) (c3 := c3) (c4 := c4) (c5 := c5) hf
    subst e0 e1 e2 e3 e4 e5
    exact ⟨co, op, t, rfl⟩
end Go.Proofs.YtcjnojbjgdechaaGreatDoor
end

section
namespace Go.Proofs.YtcjnojbjgdechaaGreatDoor
open Go.ChangeShapes Go.WideShapes Go.ChangeAt Go.RowKit Go.Hay
set_option linter.unusedVariables false

set_option maxRecDepth 100000 in
theorem blockMayContract (H : Type) (enc : TypeId × Value → H) (W : World) (base : Nat) (args : Array Value) (ds gs : List (DataW H)) (before : List MemPlace)
    (hval : ∀ (j : Nat) t v, Tryz.f7.params[j]? = some t → args[j]? = some v → Value.okWide Tryz.prog W .any base t v)
    (hW : DataW.Whole enc Tryz.prog Tryz.f7.params.toList Rows.blockMaySpec.vars false W args.toList ds gs before)
    (hsz : (DataW.weightsEach Tryz.prog (Tryz.f7.params.toList ++ (OpenSpec.ofChange Rows.blockMaySpec).bare.plain.varTypes Tryz.prog) (ds ++ gs)).all (· ≤ reachBytes) = true)
    (hL : laidMetH Tryz.prog Rows.blockMayRow.laid W) :
    Calls Tryz.prog 7 args W fun e W' => ∃ v, e = .returned v ∧ Rows.blockMaySpec.post enc Tryz.prog Tryz.f7 false true false false W args v W' := by
  have hW' := hW
  obtain ⟨p, q, hA0, hV, rfl, hfz, hnd⟩ := hW
  have hA : DataW.TrodAll enc Tryz.prog W 0 (fun _ => true) true Tryz.f7.params.toList args.toList ds p := hA0
  rw [Tryz.params7] at hA hval hsz
  obtain ⟨v0, vs0, d0, ds0, p0, q0, hargs, rfl, rfl, h0, r0⟩ := trodAll_cons hA
  obtain ⟨v1, vs1, d1, ds1, p1, q1, rfl, rfl, rfl, h1, r1⟩ := trodAll_cons r0
  obtain ⟨v2, vs2, d2, ds2, p2, q2, rfl, rfl, rfl, h2, r2⟩ := trodAll_cons r1
  obtain ⟨rfl, rfl, rfl⟩ := trodAll_nil r2
  obtain rfl : args = #[v0, v1, v2] := by cases args; simp_all
  obtain ⟨rfl, rfl⟩ := trodVars_none hV
  obtain ⟨a0, rfl, rfl, rfl, w0⟩ := open_int Tryz.underlying3 (hval 0 3 v0 rfl rfl) h0
  have hb0 := bounds_i64 w0
  obtain ⟨a1, len1, cap1, rfl⟩ := okWide_slice Tryz.underlying22 (hval 1 22 v1 rfl rfl)
  have k1 := h1
  have lt1 : ∀ x ∈ p1, x.block < W.heap.size := by obtain ⟨m, hm⟩ := k1; exact DataW.trod_lt m _ _ _ hm
  obtain ⟨l1, hlen1, hs1, hl1, hm1, hok1⟩ := openVals h1
  have k2 := h2
  have lt2 : ∀ x ∈ p2, x.block < W.heap.size := by obtain ⟨m, hm⟩ := k2; exact DataW.trod_lt m _ _ _ hm
  obtain ⟨co2, op2, x2, rfl⟩ := openTerm (hval 2 51 v2 rfl rfl) h2
  clear hA0
  refine (mayWalk7 a0 a1 len1 cap1 l1 co2 op2 x2.k x2.b x2.n x2.t W (table hL) hs1 hlen1 hl1 hm1 (fun x hx => (hok1 x hx).2.1)).mono fun e W' ⟨he, bel⟩ => ?_
  subst he
  exact ⟨_, rfl, _, _, _, [], _, [], hW', trodAll_mk1 (shut_bool Tryz.underlying4 _), (trodAll_cons_mk (shut_int Tryz.underlying3 w0) (trodAll_cons_mk (Below.trod Tryz.laidOut (by kernel_rfl) (of_decide_eq_true (by kernel_rfl)) k1 bel lt1) (trodAll_cons_mk (Below.trod Tryz.laidOut (by kernel_rfl) (of_decide_eq_true (by kernel_rfl)) k2 bel lt2) trodAll_mk0))), rfl, bel.frame _, fun h => by cases h⟩

set_option maxRecDepth 100000 in
theorem blockMayLifted (os : Os) (started : os.Started) (H : Type) (enc : TypeId × Value → H) (F : Stop.Interp) :
    ReturnsInHanded {} Tryz.checked os 7 .any ((OpenSpec.ofChange Rows.blockMaySpec).preRow enc Tryz.prog Tryz.f7 Rows.blockMayRow.domain false Rows.blockMayRow.laid) (((OpenSpec.ofChange Rows.blockMaySpec).at F).post enc Tryz.prog Tryz.f7 false true false false) := by
  refine returnsInHanded_of_row (C := Tryz.checked) (s := OpenSpec.ofChange Rows.blockMaySpec) Tryz.own started (by kernel_rfl) Tryz.func7
    (witness_row_at (enc := enc) (C := Tryz.checked) false ({ World.holding Tryz.prog os ⟨#[], #[], []⟩ with heap := (World.holding Tryz.prog os ⟨#[], #[], []⟩).heap.modify 0 fun
      | .cells _ t frozen => .cells tabCells t frozen
      | o => o }) #[.int .i64 0, .slice none 0 0, .agg #[.int .i64 0, .int .i64 0, .int .i64 0, .bool false, .int .i64 0, .string ⟨#[]⟩]] rfl (by kernel_rfl) (by kernel_rfl) (by kernel_rfl)
      (OpenSpec.preRow_of_cond (x := ([.lit (.int .i64 0), .nil, .agg [.lit (.int .i64 0), .lit (.int .i64 0), .agg [.lit (.int .i64 0), .lit (.bool false), .lit (.int .i64 0), .lit (.string [])]]], [], [])) 8 (by kernel_rfl) (by kernel_rfl) (fun k hk => by cases hk) (by kernel_rfl) (laidMet_of_run' 8 (by kernel_rfl) (by kernel_rfl)))) ?_
  intro W base args ds gs before hval hW _ hcond hsz hL _ _
  exact blockMayContract H enc W base args ds gs before hval hW hsz hL

theorem blockMaySaid : Rows.BlockMaySaid :=
  OpenClaim.holds_of_cond 7 Tryz.f7 rfl rfl rfl rfl rfl rfl rfl ⟨rfl, rfl, rfl, rfl, rfl⟩ rfl rfl rfl rfl rfl (by kernel_rfl) Tryz.func7 (by kernel_rfl)
    (of_decide_eq_true (by kernel_rfl)) (by unfold Func.isWrapper; first | (rw [if_pos (by decide +kernel)]; kernel_rfl) | (rw [if_neg (by decide +kernel)]; exact ⟨rfl, rfl⟩))
    (fun os started H enc _ F => by rw [OpenClaim.pre_eq_preRow]; exact blockMayLifted os started H enc F)

theorem blockMayPlain (f : FuncId) (fn : Func) (hf : Tryz.pinned.checked.prog.funcNamed "hayloft/hayloftlaw07.BlockMay" = some f) (hfn : Tryz.pinned.checked.prog.funcs[f]? = some fn) :
    false = Tryz.pinned.checked.prog.looks [] ∧ ∀ (j : Nat) t, fn.params[j]? = some t → Tryz.pinned.checked.prog.wantsStandIn t = false := by
  obtain rfl : f = 7 := Option.some.inj ((show Tryz.prog.funcNamed "hayloft/hayloftlaw07.BlockMay" = some 7 by kernel_rfl).symm.trans hf) |>.symm
  obtain rfl : fn = Tryz.f7 := (Option.some.inj (Tryz.func7.symm.trans hfn)).symm
  refine ⟨by kernel_rfl, fun j t ht => ?_⟩
  rw [Tryz.params7] at ht
  have hm := Array.mem_of_getElem? ht
  have h2 : t = 3 ∨ t = 22 ∨ t = 51 := by first | (simpa using hm) | (rcases (show t = 3 ∨ t = 22 ∨ t = 51 from by simpa using hm) with h | h | h <;> simp [h])
  rcases h2 with rfl | rfl | rfl
  · exact (show Tryz.prog.wantsStandIn 3 = false by kernel_rfl)
  · exact (show Tryz.prog.wantsStandIn 22 = false by kernel_rfl)
  · exact (show Tryz.prog.wantsStandIn 51 = false by kernel_rfl)

theorem BlockMay_holds : Rows.BlockMayCardSaid :=
  Claim7.holds_tied_plain_at .later [] _ _ _ _ blockMaySaid (fun _ h => by cases h) (by kernel_rfl) (fun _ h => by cases h) blockMay_row_tie rfl ⟨rfl, rfl⟩ (by kernel_rfl) rfl blockMayPlain (by kernel_rfl)
#print axioms BlockMay_holds
end Go.Proofs.YtcjnojbjgdechaaGreatDoor
end

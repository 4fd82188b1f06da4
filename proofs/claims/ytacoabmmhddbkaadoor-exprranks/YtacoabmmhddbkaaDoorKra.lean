/- Terms agree with the order of values, whatever the row, the two values and the column; the table of asks starts as the text lays it. -/
import Derived.Test.YtacoabmmhddbkaaDoorB3
import Derived.Test.YtacoabmmhddbkaaDoorB2
import Derived.SizedLaws
import Derived.JoinedCond
import Derived.Deep.CondSized
section
namespace Go.Proofs.YtacoabmmhddbkaaDoor
open Go.RowKit Go.Hay
set_option linter.unusedVariables false
set_option linter.unusedSimpArgs false

/-- What a term says of a value, neither null. -/
theorem term_is (t : Tm) (l : List Val) (i : Nat) (hi : i < l.length) (e : t.co = i) (hv : l[i].k ≠ 0) (hx : t.x.k ≠ 0) (op : Int) : termT ⟨t.co, op, t.x⟩ l = if op = 6 then false else if op = 7 then true else teC op (cmpV l[i] t.x) := by
  rw [termT_at ⟨t.co, op, t.x⟩ l i hi e]
  unfold termC
  simp only
  by_cases h6 : op = 6
  · subst h6; simp [hv]
  by_cases h7 : op = 7
  · subst h7; simp [hv]
  rw [if_neg h6, if_neg h7, if_neg h6, if_neg h7, if_neg (by simp [hv, hx])]
set_option maxHeartbeats 4000000 in
set_option maxRecDepth 100000 in
theorem cIs (p q : Nat) (op : Int) (t : Tm) (a : Option Addr) (cap : Nat) (l : List Val) (w : World) (hT : Asks w) (hp : Bn w p [.int .i64 t.co, .int .i64 t.op, .int .i64 t.x.k, .bool t.x.b, .int .i64 t.x.n, .string t.x.t]) (hq : Bn w q [.slice a l.length cap]) (hs : VE.See w a l) (hl : l.length ≤ 9223372036854775807) :
    Calls Tryd.prog 16 #[.int .i64 op, .pointer (some ⟨p, 0, none⟩), .pointer (some ⟨q, 0, none⟩)] w fun e w' => e = .returned (.bool (termT ⟨t.co, op, t.x⟩ l)) ∧ Kp [] w w' := by
  have aT := hid (xTerm ⟨t.co, op, t.x⟩ a cap l w hT hs hl)
  have ta0 := hp.get 0 _ rfl; have ta1 := hp.get 1 _ rfl; have ta2 := hp.get 2 _ rfl; have ta3 := hp.get 3 _ rfl; have ta4 := hp.get 4 _ rfl; have ta5 := hp.get 5 _ rfl
  have tb0 := hq.get 0 _ rfl
  have zp : p < w.heap.size := hp.lt (by simp)
  have zq : q < w.heap.size := hq.lt (by simp)
  generalize termT ⟨t.co, op, t.x⟩ l = Z at *
  clear hp hq hs hT
  obtain ⟨co, op', ⟨xk, xb, xn, xt⟩⟩ := t
  simp only [Tm.v] at *
  go_enter Tryd.func16, Tryd.ntmps16
  go_wp2_with fail
  refine aT.out.mono ?_
  rintro e w1 ⟨rfl, k1⟩
  clear aT
  go_wp2_with fail
  go_ret
  exact ⟨rfl, k1⟩
set_option maxHeartbeats 8000000 in
set_option maxRecDepth 100000 in
theorem contraryWalk (t : Tm) (a : Option Addr) (cap : Nat) (l : List Val) (w : World) (hT : Asks w) (hs : VE.See w a l) (hl : l.length ≤ 9223372036854775807) : Calls Tryd.prog 5 #[t.v, .slice a l.length cap] w fun e w' => e = .returned (.bool true) ∧ Below w.heap.size w w' := by
  obtain ⟨WA, eWA⟩ : ∃ Y, w.alloc (.cells #[.int .i64 t.co, .int .i64 t.op, .int .i64 t.x.k, .bool t.x.b, .int .i64 t.x.n, .string t.x.t] 32) = Y := ⟨_, rfl⟩
  have kWA : Kp [] w WA := by rw [← eWA]; exact (Kp.refl _ _).alloc _
  have zWA : WA.heap.size = w.heap.size + 1 := by rw [← eWA]; simp
  have bWA : Bn WA w.heap.size [.int .i64 t.co, .int .i64 t.op, .int .i64 t.x.k, .bool t.x.b, .int .i64 t.x.n, .string t.x.t] := by rw [← eWA]; exact Bn.new w [.int .i64 t.co, .int .i64 t.op, .int .i64 t.x.k, .bool t.x.b, .int .i64 t.x.n, .string t.x.t] 32
  obtain ⟨WB, eWB⟩ : ∃ Y, WA.alloc (.cells #[.slice a l.length cap] 28) = Y := ⟨_, rfl⟩
  have kWB : Kp [] WA WB := by rw [← eWB]; exact (Kp.refl _ _).alloc _
  have zWB : WB.heap.size = WA.heap.size + 1 := by rw [← eWB]; simp
  have bWB : Bn WB WA.heap.size [.slice a l.length cap] := by rw [← eWB]; exact Bn.new WA [.slice a l.length cap] 28
  have bT := bWA.kept kWB
  have ta0 := bT.get 0 _ rfl; have ta1 := bT.get 1 _ rfl; have ta2 := bT.get 2 _ rfl; have ta3 := bT.get 3 _ rfl; have ta4 := bT.get 4 _ rfl; have ta5 := bT.get 5 _ rfl
  have tb0 := bWB.get 0 _ rfl
  have KW := hid (kWA.trans kWB (by simp))
  have HT := hid (hT.kept KW.out (by simp))
  have HS := hid (hs.keptNew KW.out)
  have aV := hid (fun W' (k : Kp [] WB W') => cAliveX W' (HT.out.kept k (by simp)))
  have aI := hid (fun W' (k : Kp [] WB W') (op : Int) => cIs w.heap.size WA.heap.size op t a cap l W' (HT.out.kept k (by simp)) (bT.kept k) (bWB.kept k) (HS.out.keptNew k) hl)
  have zC : WA.heap.size < WB.heap.size := by omega
  have zD : w.heap.size < WB.heap.size := by omega
  have zE : w.heap.size < WA.heap.size := by omega
  unfold Tm.v
  clear kWA kWB zWA zWB bWA bWB bT hT hs
  by_cases h1 : t.co < 0
  · have d1 : decide (t.co < 0) = true := by simpa using h1
    clear h1 aI
    go_enter Tryd.func5, Tryd.ntmps5
    go_wp2_with fail
    refine (aV.out _ (Kp.refl _ _)).mono ?_
    rintro e w1 ⟨rfl, k1⟩
    go_wp2_with fail
    go_ret
    exact ⟨rfl, (KW.out.trans k1 (by simp)).below⟩
  have d1 : decide (t.co < 0) = false := by simpa using h1
  by_cases h2 : (l.length : Int) ≤ t.co
  · have d2 : decide ((l.length : Int) ≤ t.co) = true := by simpa using h2
    clear h1 h2 aI
    go_enter Tryd.func5, Tryd.ntmps5
    go_wp2_with fail
    refine (aV.out _ (Kp.refl _ _)).mono ?_
    rintro e w1 ⟨rfl, k1⟩
    go_wp2_with fail
    go_ret
    exact ⟨rfl, (KW.out.trans k1 (by simp)).below⟩
  have d2 : decide ((l.length : Int) ≤ t.co) = false := by simpa using h2
  obtain ⟨i, hi⟩ := Int.eq_ofNat_of_zero_le (show 0 ≤ t.co by omega)
  have hil : i < l.length := by omega
  have hx : l[i]? = some l[i] := by simp [hil]
  obtain ⟨g, o, rfl, hc⟩ := HS.out.at hx
  have v0 := hc 0 _ rfl
  simp only [show VE.n = 4 from rfl, Nat.add_zero] at v0
  have i1 : (0 : Int) ≤ (i : Int) := by omega
  have i2 : (i : Int) < (l.length : Int) := by omega
  have d2n : decide (l.length ≤ i) = false := by simp; omega
  have hti := hid (term_is t l i hil hi)
  clear h1 h2 hc hx
  generalize l[i] = v at *
  by_cases h3 : v.k = 0
  · rw [h3] at v0
    clear h3 aI hti
    obtain ⟨co, op, ⟨xk, xb, xn, xt⟩⟩ := t
    simp only at *
    subst hi
    go_enter Tryd.func5, Tryd.ntmps5
    go_wp2_with fail
    refine (aV.out _ (Kp.refl _ _)).mono ?_
    rintro e w1 ⟨rfl, k1⟩
    go_wp2_with fail
    go_ret
    exact ⟨rfl, (KW.out.trans k1 (by simp)).below⟩
  have d3 : (v.k == 0) = false := by simpa using h3
  by_cases h4 : t.x.k = 0
  · clear aI hti
    obtain ⟨co, op, ⟨xk, xb, xn, xt⟩⟩ := t
    simp only at *
    subst hi h4
    clear h3
    go_enter Tryd.func5, Tryd.ntmps5
    go_wp2_with fail
    refine (aV.out _ (Kp.refl _ _)).mono ?_
    rintro e w1 ⟨rfl, k1⟩
    go_wp2_with fail
    go_ret
    exact ⟨rfl, (KW.out.trans k1 (by simp)).below⟩
  have d4 : (t.x.k == 0) = false := by simpa using h4
  have r1 := cmp_range v t.x
  have hti2 := hid (hti.out h3 h4)
  generalize cmpV v t.x = A at *
  have q0 := hid (fun W' (k : Kp [] WB W') => aI.out W' k 0)
  have q1 := hid (fun W' (k : Kp [] WB W') => aI.out W' k 1)
  have q2 := hid (fun W' (k : Kp [] WB W') => aI.out W' k 2)
  have q3 := hid (fun W' (k : Kp [] WB W') => aI.out W' k 3)
  have q4 := hid (fun W' (k : Kp [] WB W') => aI.out W' k 4)
  have q5 := hid (fun W' (k : Kp [] WB W') => aI.out W' k 5)
  have q6 := hid (fun W' (k : Kp [] WB W') => aI.out W' k 6)
  have q7 := hid (fun W' (k : Kp [] WB W') => aI.out W' k 7)
  rw [hti2.out] at q0 q1 q2 q3 q4 q5 q6 q7
  obtain ⟨WC, eWC⟩ : ∃ Y, WB.alloc (.cells #[.int .i64 2, .int .i64 0, .int .i64 4] 3) = Y := ⟨_, rfl⟩
  have kWC : Kp [] WB WC := by rw [← eWC]; exact (Kp.refl _ _).alloc _
  have zWC : WC.heap.size = WB.heap.size + 1 := by rw [← eWC]; simp
  have bWC : Bn WC WB.heap.size [.int .i64 2, .int .i64 0, .int .i64 4] := by rw [← eWC]; exact Bn.new WB [.int .i64 2, .int .i64 0, .int .i64 4] 3
  have ic0 := bWC.get 0 _ rfl; have ic1 := bWC.get 1 _ rfl; have ic2 := bWC.get 2 _ rfl
  have KC := hid kWC
  have BC := hid bWC
  clear hti hti2 aI h3 h4 kWC bWC zWC
  obtain ⟨co, op, ⟨xk, xb, xn, xt⟩⟩ := t
  obtain ⟨vk, vb, vn, vt⟩ := v
  simp only at *
  subst hi
  rcases r1 with r1 | r1 | r1
  all_goals subst r1
  all_goals simp [teC] at q0 q1 q2 q3 q4 q5 q6 q7
  all_goals go_enter Tryd.func5, Tryd.ntmps5
  all_goals go_wp2_with fail
  · go_loopw [38, 6] (fun iv nv wr => ∃ j : Nat, j ≤ 3 ∧ iv = .int .i64 j ∧ nv = .int .i64 (if j ≤ 0 then 0 else 1) ∧ Kp [] WC wr) (fun iv _ _ => 3 - (intOf iv).toNat)
    case atStart => exact ⟨0, by omega, rfl, rfl, Kp.refl _ _⟩
    case round =>
      obtain ⟨j, hj, rfl, rfl, kr⟩ := hrel
      have KR := hid (KC.out.trans kr (by simp))
      have BR := hid (BC.out.kept kr)
      have KS := hid kr
      clear kr ic0 ic1 ic2
      obtain rfl | rfl | rfl | rfl : j = 0 ∨ j = 1 ∨ j = 2 ∨ j = 3 := by omega
      · have x0 := BR.out.get 0 _ rfl
        have zx : WB.heap.size < wr.heap.size := BR.out.lt (by simp)
        simp only [Nat.reduceLeDiff, if_true, if_false, Nat.le_refl, ↓reduceIte, Nat.not_succ_le_zero, Nat.zero_le]
        go_wp2_with fail
        refine (q2.out _ KR.out).mono ?_
        rintro e w1 ⟨rfl, k1⟩
        have K1 := hid (KS.out.trans k1 (by simp))
        clear k1 x0 zx
        go_wp2_with fail
        exact ⟨⟨1, by omega, by go_num, by simp, K1.out⟩, by simp [intOf]⟩
      · have x0 := BR.out.get 1 _ rfl
        have zx : WB.heap.size < wr.heap.size := BR.out.lt (by simp)
        simp only [Nat.reduceLeDiff, if_true, if_false, Nat.le_refl, ↓reduceIte, Nat.not_succ_le_zero, Nat.zero_le]
        go_wp2_with fail
        refine (q0.out _ KR.out).mono ?_
        rintro e w1 ⟨rfl, k1⟩
        have K1 := hid (KS.out.trans k1 (by simp))
        clear k1 x0 zx
        go_wp2_with fail
        exact ⟨⟨2, by omega, by go_num, by simp, K1.out⟩, by simp [intOf]⟩
      · have x0 := BR.out.get 2 _ rfl
        have zx : WB.heap.size < wr.heap.size := BR.out.lt (by simp)
        simp only [Nat.reduceLeDiff, if_true, if_false, Nat.le_refl, ↓reduceIte, Nat.not_succ_le_zero, Nat.zero_le]
        go_wp2_with fail
        refine (q4.out _ KR.out).mono ?_
        rintro e w1 ⟨rfl, k1⟩
        have K1 := hid (KS.out.trans k1 (by simp))
        clear k1 x0 zx
        go_wp2_with fail
        exact ⟨⟨3, by omega, by go_num, by simp, K1.out⟩, by simp [intOf]⟩
      · simp only [Nat.reduceLeDiff, if_true, if_false, Nat.le_refl, ↓reduceIte, Nat.not_succ_le_zero, Nat.zero_le]
        have K0 := KR
        clear KS BR
        go_wp2_with fail
        refine (aV.out _ K0.out).mono ?_
        rintro e w1 ⟨rfl, k1⟩
        have K1 := hid (K0.out.trans k1 (by simp))
        clear k1
        go_wp2_with fail
        refine (q1.out _ K1.out).mono ?_
        rintro e w2 ⟨rfl, k2⟩
        have K2 := hid (K1.out.trans k2 (by simp))
        clear k2
        go_wp2_with fail
        refine (q0.out _ K2.out).mono ?_
        rintro e w3 ⟨rfl, k3⟩
        have K3 := hid (K2.out.trans k3 (by simp))
        clear k3
        go_wp2_with fail
        refine (q3.out _ K3.out).mono ?_
        rintro e w4 ⟨rfl, k4⟩
        have K4 := hid (K3.out.trans k4 (by simp))
        clear k4
        go_wp2_with fail
        refine (q4.out _ K4.out).mono ?_
        rintro e w5 ⟨rfl, k5⟩
        have K5 := hid (K4.out.trans k5 (by simp))
        clear k5
        go_wp2_with fail
        refine (q5.out _ K5.out).mono ?_
        rintro e w6 ⟨rfl, k6⟩
        have K6 := hid (K5.out.trans k6 (by simp))
        clear k6
        go_wp2_with fail
        refine (q2.out _ K6.out).mono ?_
        rintro e w7 ⟨rfl, k7⟩
        have K7 := hid (K6.out.trans k7 (by simp))
        clear k7
        go_wp2_with fail
        refine (q7.out _ K7.out).mono ?_
        rintro e w8 ⟨rfl, k8⟩
        have K8 := hid (K7.out.trans k8 (by simp))
        clear k8
        go_wp2_with fail
        refine (q6.out _ K8.out).mono ?_
        rintro e w9 ⟨rfl, k9⟩
        have K9 := hid (K8.out.trans k9 (by simp))
        clear k9
        go_wp2_with fail
        go_ret
        exact ⟨rfl, (KW.out.trans K9.out (by simp)).below⟩
  · go_loopw [38, 6] (fun iv nv wr => ∃ j : Nat, j ≤ 3 ∧ iv = .int .i64 j ∧ nv = .int .i64 (if j ≤ 1 then 0 else 1) ∧ Kp [] WC wr) (fun iv _ _ => 3 - (intOf iv).toNat)
    case atStart => exact ⟨0, by omega, rfl, rfl, Kp.refl _ _⟩
    case round =>
      obtain ⟨j, hj, rfl, rfl, kr⟩ := hrel
      have KR := hid (KC.out.trans kr (by simp))
      have BR := hid (BC.out.kept kr)
      have KS := hid kr
      clear kr ic0 ic1 ic2
      obtain rfl | rfl | rfl | rfl : j = 0 ∨ j = 1 ∨ j = 2 ∨ j = 3 := by omega
      · have x0 := BR.out.get 0 _ rfl
        have zx : WB.heap.size < wr.heap.size := BR.out.lt (by simp)
        simp only [Nat.reduceLeDiff, if_true, if_false, Nat.le_refl, ↓reduceIte, Nat.not_succ_le_zero, Nat.zero_le]
        go_wp2_with fail
        refine (q2.out _ KR.out).mono ?_
        rintro e w1 ⟨rfl, k1⟩
        have K1 := hid (KS.out.trans k1 (by simp))
        clear k1 x0 zx
        go_wp2_with fail
        exact ⟨⟨1, by omega, by go_num, by simp, K1.out⟩, by simp [intOf]⟩
      · have x0 := BR.out.get 1 _ rfl
        have zx : WB.heap.size < wr.heap.size := BR.out.lt (by simp)
        simp only [Nat.reduceLeDiff, if_true, if_false, Nat.le_refl, ↓reduceIte, Nat.not_succ_le_zero, Nat.zero_le]
        go_wp2_with fail
        refine (q0.out _ KR.out).mono ?_
        rintro e w1 ⟨rfl, k1⟩
        have K1 := hid (KS.out.trans k1 (by simp))
        clear k1 x0 zx
        go_wp2_with fail
        exact ⟨⟨2, by omega, by go_num, by simp, K1.out⟩, by simp [intOf]⟩
      · have x0 := BR.out.get 2 _ rfl
        have zx : WB.heap.size < wr.heap.size := BR.out.lt (by simp)
        simp only [Nat.reduceLeDiff, if_true, if_false, Nat.le_refl, ↓reduceIte, Nat.not_succ_le_zero, Nat.zero_le]
        go_wp2_with fail
        refine (q4.out _ KR.out).mono ?_
        rintro e w1 ⟨rfl, k1⟩
        have K1 := hid (KS.out.trans k1 (by simp))
        clear k1 x0 zx
        go_wp2_with fail
        exact ⟨⟨3, by omega, by go_num, by simp, K1.out⟩, by simp [intOf]⟩
      · simp only [Nat.reduceLeDiff, if_true, if_false, Nat.le_refl, ↓reduceIte, Nat.not_succ_le_zero, Nat.zero_le]
        have K0 := KR
        clear KS BR
        go_wp2_with fail
        refine (aV.out _ K0.out).mono ?_
        rintro e w1 ⟨rfl, k1⟩
        have K1 := hid (K0.out.trans k1 (by simp))
        clear k1
        go_wp2_with fail
        refine (q1.out _ K1.out).mono ?_
        rintro e w2 ⟨rfl, k2⟩
        have K2 := hid (K1.out.trans k2 (by simp))
        clear k2
        go_wp2_with fail
        refine (q0.out _ K2.out).mono ?_
        rintro e w3 ⟨rfl, k3⟩
        have K3 := hid (K2.out.trans k3 (by simp))
        clear k3
        go_wp2_with fail
        refine (q3.out _ K3.out).mono ?_
        rintro e w4 ⟨rfl, k4⟩
        have K4 := hid (K3.out.trans k4 (by simp))
        clear k4
        go_wp2_with fail
        refine (q4.out _ K4.out).mono ?_
        rintro e w5 ⟨rfl, k5⟩
        have K5 := hid (K4.out.trans k5 (by simp))
        clear k5
        go_wp2_with fail
        refine (q5.out _ K5.out).mono ?_
        rintro e w6 ⟨rfl, k6⟩
        have K6 := hid (K5.out.trans k6 (by simp))
        clear k6
        go_wp2_with fail
        refine (q2.out _ K6.out).mono ?_
        rintro e w7 ⟨rfl, k7⟩
        have K7 := hid (K6.out.trans k7 (by simp))
        clear k7
        go_wp2_with fail
        refine (q7.out _ K7.out).mono ?_
        rintro e w8 ⟨rfl, k8⟩
        have K8 := hid (K7.out.trans k8 (by simp))
        clear k8
        go_wp2_with fail
        refine (q6.out _ K8.out).mono ?_
        rintro e w9 ⟨rfl, k9⟩
        have K9 := hid (K8.out.trans k9 (by simp))
        clear k9
        go_wp2_with fail
        go_ret
        exact ⟨rfl, (KW.out.trans K9.out (by simp)).below⟩
  · go_loopw [38, 6] (fun iv nv wr => ∃ j : Nat, j ≤ 3 ∧ iv = .int .i64 j ∧ nv = .int .i64 (if j ≤ 2 then 0 else 1) ∧ Kp [] WC wr) (fun iv _ _ => 3 - (intOf iv).toNat)
    case atStart => exact ⟨0, by omega, rfl, rfl, Kp.refl _ _⟩
    case round =>
      obtain ⟨j, hj, rfl, rfl, kr⟩ := hrel
      have KR := hid (KC.out.trans kr (by simp))
      have BR := hid (BC.out.kept kr)
      have KS := hid kr
      clear kr ic0 ic1 ic2
      obtain rfl | rfl | rfl | rfl : j = 0 ∨ j = 1 ∨ j = 2 ∨ j = 3 := by omega
      · have x0 := BR.out.get 0 _ rfl
        have zx : WB.heap.size < wr.heap.size := BR.out.lt (by simp)
        simp only [Nat.reduceLeDiff, if_true, if_false, Nat.le_refl, ↓reduceIte, Nat.not_succ_le_zero, Nat.zero_le]
        go_wp2_with fail
        refine (q2.out _ KR.out).mono ?_
        rintro e w1 ⟨rfl, k1⟩
        have K1 := hid (KS.out.trans k1 (by simp))
        clear k1 x0 zx
        go_wp2_with fail
        exact ⟨⟨1, by omega, by go_num, by simp, K1.out⟩, by simp [intOf]⟩
      · have x0 := BR.out.get 1 _ rfl
        have zx : WB.heap.size < wr.heap.size := BR.out.lt (by simp)
        simp only [Nat.reduceLeDiff, if_true, if_false, Nat.le_refl, ↓reduceIte, Nat.not_succ_le_zero, Nat.zero_le]
        go_wp2_with fail
        refine (q0.out _ KR.out).mono ?_
        rintro e w1 ⟨rfl, k1⟩
        have K1 := hid (KS.out.trans k1 (by simp))
        clear k1 x0 zx
        go_wp2_with fail
        exact ⟨⟨2, by omega, by go_num, by simp, K1.out⟩, by simp [intOf]⟩
      · have x0 := BR.out.get 2 _ rfl
        have zx : WB.heap.size < wr.heap.size := BR.out.lt (by simp)
        simp only [Nat.reduceLeDiff, if_true, if_false, Nat.le_refl, ↓reduceIte, Nat.not_succ_le_zero, Nat.zero_le]
        go_wp2_with fail
        refine (q4.out _ KR.out).mono ?_
        rintro e w1 ⟨rfl, k1⟩
        have K1 := hid (KS.out.trans k1 (by simp))
        clear k1 x0 zx
        go_wp2_with fail
        exact ⟨⟨3, by omega, by go_num, by simp, K1.out⟩, by simp [intOf]⟩
      · simp only [Nat.reduceLeDiff, if_true, if_false, Nat.le_refl, ↓reduceIte, Nat.not_succ_le_zero, Nat.zero_le]
        have K0 := KR
        clear KS BR
        go_wp2_with fail
        refine (aV.out _ K0.out).mono ?_
        rintro e w1 ⟨rfl, k1⟩
        have K1 := hid (K0.out.trans k1 (by simp))
        clear k1
        go_wp2_with fail
        refine (q1.out _ K1.out).mono ?_
        rintro e w2 ⟨rfl, k2⟩
        have K2 := hid (K1.out.trans k2 (by simp))
        clear k2
        go_wp2_with fail
        refine (q0.out _ K2.out).mono ?_
        rintro e w3 ⟨rfl, k3⟩
        have K3 := hid (K2.out.trans k3 (by simp))
        clear k3
        go_wp2_with fail
        refine (q3.out _ K3.out).mono ?_
        rintro e w4 ⟨rfl, k4⟩
        have K4 := hid (K3.out.trans k4 (by simp))
        clear k4
        go_wp2_with fail
        refine (q4.out _ K4.out).mono ?_
        rintro e w5 ⟨rfl, k5⟩
        have K5 := hid (K4.out.trans k5 (by simp))
        clear k5
        go_wp2_with fail
        refine (q5.out _ K5.out).mono ?_
        rintro e w6 ⟨rfl, k6⟩
        have K6 := hid (K5.out.trans k6 (by simp))
        clear k6
        go_wp2_with fail
        refine (q2.out _ K6.out).mono ?_
        rintro e w7 ⟨rfl, k7⟩
        have K7 := hid (K6.out.trans k7 (by simp))
        clear k7
        go_wp2_with fail
        refine (q7.out _ K7.out).mono ?_
        rintro e w8 ⟨rfl, k8⟩
        have K8 := hid (K7.out.trans k8 (by simp))
        clear k8
        go_wp2_with fail
        refine (q6.out _ K8.out).mono ?_
        rintro e w9 ⟨rfl, k9⟩
        have K9 := hid (K8.out.trans k9 (by simp))
        clear k9
        go_wp2_with fail
        go_ret
        exact ⟨rfl, (KW.out.trans K9.out (by simp)).below⟩
end Go.Proofs.YtacoabmmhddbkaaDoor
end

section
namespace Go.Proofs.YtacoabmmhddbkaaDoor
open Go.Hay
set_option linter.unusedVariables false
set_option linter.unusedSimpArgs false

theorem cmp_strict (a b c : Val) (h : cmpV a b < 0) (k : cmpV b c ≤ 0) : cmpV a c < 0 := by
  have h1 := cmp_trans a b c (by omega) k
  by_cases h2 : cmpV a c = 0
  · have h3 := cmp_neg a c
    have h4 := cmp_trans b c a k (by omega)
    have h5 := cmp_neg a b
    omega
  · omega
theorem cmp_strict' (a b c : Val) (h : cmpV a b ≤ 0) (k : cmpV b c < 0) : cmpV a c < 0 := by
  have h1 := cmp_trans a b c h (by omega)
  by_cases h2 : cmpV a c = 0
  · have h3 := cmp_neg a c
    have h4 := cmp_trans c a b (by omega) h
    have h5 := cmp_neg b c
    omega
  · omega
theorem rows_neg : ∀ a b : List Val, rowsV b a = -rowsV a b
  | [], [] => rfl
  | [], _ :: _ => rfl
  | _ :: _, [] => rfl
  | x :: a, y :: b => by
    have h := cmp_neg x y
    simp only [rowsV]
    by_cases h0 : cmpV x y = 0
    · rw [if_pos h0, if_pos (by omega), rows_neg a b]
    · rw [if_neg h0, if_neg (by omega), h]
theorem rows_self : ∀ a : List Val, rowsV a a = 0
  | [] => rfl
  | x :: a => by simp only [rowsV, cmp_self, if_true, rows_self a]
theorem rows_range : ∀ a b : List Val, rowsV a b = -1 ∨ rowsV a b = 0 ∨ rowsV a b = 1
  | [], [] => .inr (.inl rfl)
  | [], _ :: _ => .inl rfl
  | _ :: _, [] => .inr (.inr rfl)
  | x :: a, y :: b => by
    simp only [rowsV]
    split
    · exact rows_range a b
    · exact cmp_range x y
theorem rows_trans : ∀ a b c : List Val, rowsV a b ≤ 0 → rowsV b c ≤ 0 → rowsV a c ≤ 0
  | [], _, [], _, _ => by simp [rowsV]
  | [], _, _ :: _, _, _ => by simp [rowsV]
  | _ :: _, [], _, h, _ => by simp [rowsV] at h
  | _ :: _, _ :: _, [], _, h => by simp [rowsV] at h
  | x :: a, y :: b, z :: c, h1, h2 => by
    simp only [rowsV] at h1 h2 ⊢
    have ih := rows_trans a b c
    by_cases e1 : cmpV x y = 0
    · rw [if_pos e1] at h1
      by_cases e2 : cmpV y z = 0
      · rw [if_pos e2] at h2
        have h3 := cmp_trans x y z (by omega) (by omega)
        have h4 := cmp_neg x y
        have h5 := cmp_neg y z
        have h6 := cmp_neg x z
        have h7 := cmp_trans z y x (by omega) (by omega)
        rw [if_pos (by omega)]
        exact ih h1 h2
      · rw [if_neg e2] at h2
        have := cmp_strict' x y z (by omega) (by omega)
        rw [if_neg (by omega)]
        omega
    · rw [if_neg e1] at h1
      have : cmpV y z ≤ 0 := by
        by_cases e2 : cmpV y z = 0
        · omega
        · rw [if_neg e2] at h2; omega
      have := cmp_strict x y z (by omega) this
      rw [if_neg (by omega)]
      omega
theorem rows_less : ∀ a : List Val, a ≠ [] → rowsV (a.take (a.length - 1)) a = -1
  | [], h => absurd rfl h
  | [x], _ => rfl
  | x :: y :: a, _ => by
    have ih := rows_less (y :: a) (by simp)
    simp only [List.length_cons, Nat.add_sub_cancel] at ih ⊢
    rw [List.take_succ_cons]
    simp only [rowsV, cmp_self, if_true]
    exact ih

/-- Are two rows the same? -/
def sameV : List Val → List Val → Bool
  | [], [] => true
  | x :: a, y :: b => x.eqv y && sameV a b
  | _, _ => false
theorem same_step (a b : List Val) (j : Nat) (ha : j < a.length) (hb : j < b.length) : sameV (a.drop j) (b.drop j) = (a[j].eqv b[j] && sameV (a.drop (j + 1)) (b.drop (j + 1))) := by
  rw [List.drop_eq_getElem_cons ha, List.drop_eq_getElem_cons hb, sameV]
theorem same_length : ∀ a b : List Val, a.length ≠ b.length → sameV a b = false
  | [], [], h => absurd rfl h
  | [], _ :: _, _ => rfl
  | _ :: _, [], _ => rfl
  | x :: a, y :: b, h => by
    rw [sameV, same_length a b (by simpa using h)]
    simp
theorem rows_same : ∀ a b : List Val, (∀ x ∈ a, x.right = true) → (∀ x ∈ b, x.right = true) → (rowsV a b == 0) = sameV a b
  | [], [], _, _ => rfl
  | [], _ :: _, _, _ => rfl
  | _ :: _, [], _, _ => rfl
  | x :: a, y :: b, ha, hb => by
    have h1 := cmp_eqv x y (ha x (by simp)) (hb y (by simp))
    have ih := rows_same a b (fun z hz => ha z (by simp [hz])) (fun z hz => hb z (by simp [hz]))
    simp only [rowsV, sameV]
    rw [← h1, ← ih]
    by_cases e : cmpV x y = 0
    · rw [if_pos e, e]; rfl
    · rw [if_neg e]
      have e2 : (cmpV x y == 0) = false := by simpa using e
      rw [e2]; rfl
end Go.Proofs.YtacoabmmhddbkaaDoor
end

section
namespace Go.Proofs.YtacoabmmhddbkaaDoor
open Go.RowKit Go.Hay
set_option linter.unusedVariables false
set_option linter.unusedSimpArgs false

theorem ranks_plain (l : List Val) (co : Int) (x y : Val) (h1 : ¬ co < 0) (h2 : ¬ (l.length : Int) ≤ co) (hx : x.k ≠ 0) (hy : y.k ≠ 0) (hlt : cmpV x y < 0) :
    (termT ⟨co, 3, x⟩ l = true → termT ⟨co, 2, y⟩ l = true) ∧ (termT ⟨co, 5, y⟩ l = true → termT ⟨co, 4, x⟩ l = true) ∧ (termT ⟨co, 0, x⟩ l = true → termT ⟨co, 0, y⟩ l = false) := by
  obtain ⟨i, rfl⟩ := Int.eq_ofNat_of_zero_le (show 0 ≤ co by omega)
  have hi : i < l.length := by omega
  rw [termT_at _ l i hi rfl, termT_at _ l i hi rfl, termT_at _ l i hi rfl, termT_at _ l i hi rfl, termT_at _ l i hi rfl, termT_at _ l i hi rfl]
  generalize l[i] = v
  unfold termC teC
  simp only
  by_cases hv : v.k = 0
  · simp [hv]
  · have n1 := cmp_neg v y
    have n2 := cmp_neg v x
    simp [hv, hx, hy]
    refine ⟨fun h => cmp_strict' v x y h hlt, fun h => ?_, fun h => ?_⟩
    · have := cmp_strict x y v hlt (by omega)
      omega
    · have := cmp_strict' v x y (by omega) hlt
      omega
theorem one_below (x y : Val) (hx : x.k ≠ 0) (hy : y.k ≠ 0) : termT ⟨0, 2, y⟩ [x] = decide (cmpV x y < 0) := by
  rw [termT_at ⟨0, 2, y⟩ [x] 0 (by simp) rfl]
  simp [termC, teC, hx, hy]
set_option maxHeartbeats 4000000 in
set_option maxRecDepth 100000 in
theorem cIsR (p q : Nat) (op : Int) (x : Val) (co : Int) (a : Option Addr) (cap : Nat) (l : List Val) (w : World) (hT : Asks w) (hp : Bn w p [.int .i64 co]) (hq : Bn w q [.slice a l.length cap]) (hs : VE.See w a l) (hl : l.length ≤ 9223372036854775807) :
    Calls Tryd.prog 19 #[.int .i64 op, x.v, .pointer (some ⟨p, 0, none⟩), .pointer (some ⟨q, 0, none⟩)] w fun e w' => e = .returned (.bool (termT ⟨co, op, x⟩ l)) ∧ Kp [] w w' := by
  obtain ⟨WA, eWA⟩ : ∃ Y, w.alloc (.cells #[.int .i64 x.k, .bool x.b, .int .i64 x.n, .string x.t] 30) = Y := ⟨_, rfl⟩
  have kWA : Kp [] w WA := by rw [← eWA]; exact (Kp.refl _ _).alloc _
  have zWA : WA.heap.size = w.heap.size + 1 := by rw [← eWA]; simp
  have bWA : Bn WA w.heap.size [.int .i64 x.k, .bool x.b, .int .i64 x.n, .string x.t] := by rw [← eWA]; exact Bn.new w [.int .i64 x.k, .bool x.b, .int .i64 x.n, .string x.t] 30
  have aT := hid (xTerm ⟨co, op, x⟩ a cap l WA (hT.kept kWA (by simp)) (hs.keptNew kWA) hl)
  have hp' := hp.kept kWA
  have hq' := hq.kept kWA
  have tx0 := bWA.get 0 _ rfl; have tx1 := bWA.get 1 _ rfl; have tx2 := bWA.get 2 _ rfl; have tx3 := bWA.get 3 _ rfl
  have ta0 := hp'.get 0 _ rfl
  have tb0 := hq'.get 0 _ rfl
  have zp : p < WA.heap.size := hp'.lt (by simp)
  have zq : q < WA.heap.size := hq'.lt (by simp)
  have zw : w.heap.size < WA.heap.size := by omega
  have KA := hid kWA
  generalize termT ⟨co, op, x⟩ l = Z at *
  clear hp hq hs hT hp' hq' bWA zWA kWA
  obtain ⟨xk, xb, xn, xt⟩ := x
  simp only [Tm.v, Val.v] at *
  go_enter Tryd.func19, Tryd.ntmps19
  go_wp2_with fail
  refine aT.out.mono ?_
  rintro e w1 ⟨rfl, k1⟩
  clear aT
  go_wp2_with fail
  go_ret
  exact ⟨rfl, KA.out.trans k1 (by simp)⟩
def EV (x y : Val) : Value := .agg #[.int .i64 x.k, .bool x.b, .int .i64 x.n, .string x.t, .int .i64 y.k, .bool y.b, .int .i64 y.n, .string y.t]
set_option maxHeartbeats 8000000 in
set_option maxRecDepth 100000 in
theorem ranksWalk (a : Option Addr) (cap : Nat) (l : List Val) (x y : Val) (co : Int) (w : World) (hT : Asks w) (hs : VE.See w a l) (hl : l.length ≤ 9223372036854775807) : Calls Tryd.prog 8 #[.slice a l.length cap, EV x y, .int .i64 co] w fun e w' => e = .returned (.bool true) ∧ Below w.heap.size w w' := by
  obtain ⟨WA, eWA⟩ : ∃ Y, w.alloc (.cells #[.slice a l.length cap] 28) = Y := ⟨_, rfl⟩
  have kWA : Kp [] w WA := by rw [← eWA]; exact (Kp.refl _ _).alloc _
  have zWA : WA.heap.size = w.heap.size + 1 := by rw [← eWA]; simp
  have bWA : Bn WA w.heap.size [.slice a l.length cap] := by rw [← eWA]; exact Bn.new w [.slice a l.length cap] 28
  obtain ⟨WB, eWB⟩ : ∃ Y, WA.alloc (.cells #[.int .i64 x.k, .bool x.b, .int .i64 x.n, .string x.t, .int .i64 y.k, .bool y.b, .int .i64 y.n, .string y.t] 41) = Y := ⟨_, rfl⟩
  have kWB : Kp [] WA WB := by rw [← eWB]; exact (Kp.refl _ _).alloc _
  have zWB : WB.heap.size = WA.heap.size + 1 := by rw [← eWB]; simp
  have bWB : Bn WB WA.heap.size [.int .i64 x.k, .bool x.b, .int .i64 x.n, .string x.t, .int .i64 y.k, .bool y.b, .int .i64 y.n, .string y.t] := by rw [← eWB]; exact Bn.new WA [.int .i64 x.k, .bool x.b, .int .i64 x.n, .string x.t, .int .i64 y.k, .bool y.b, .int .i64 y.n, .string y.t] 41
  obtain ⟨WC, eWC⟩ : ∃ Y, WB.alloc (.cells #[.int .i64 co] 3) = Y := ⟨_, rfl⟩
  have kWC : Kp [] WB WC := by rw [← eWC]; exact (Kp.refl _ _).alloc _
  have zWC : WC.heap.size = WB.heap.size + 1 := by rw [← eWC]; simp
  have bWC : Bn WC WB.heap.size [.int .i64 co] := by rw [← eWC]; exact Bn.new WB [.int .i64 co] 3
  have b1 := (bWA.kept kWB).kept kWC
  have b2 := bWB.kept kWC
  have ra0 := b1.get 0 _ rfl
  have ea0 := b2.get 0 _ rfl; have ea1 := b2.get 1 _ rfl; have ea2 := b2.get 2 _ rfl; have ea3 := b2.get 3 _ rfl; have ea4 := b2.get 4 _ rfl; have ea5 := b2.get 5 _ rfl; have ea6 := b2.get 6 _ rfl; have ea7 := b2.get 7 _ rfl
  have oa0 := bWC.get 0 _ rfl
  have zC : WB.heap.size < WC.heap.size := by omega
  obtain ⟨WD, eWD⟩ : ∃ Y, WC.alloc (.cells #[.int .i64 0, .bool false, .int .i64 0, .string ⟨#[]⟩] 30) = Y := ⟨_, rfl⟩
  have kWD : Kp [] WC WD := by rw [← eWD]; exact (Kp.refl _ _).alloc _
  have zWD : WD.heap.size = WC.heap.size + 1 := by rw [← eWD]; simp
  have xWD : Bn WD (WC.heap.size) [.int .i64 0, .bool false, .int .i64 0, .string ⟨#[]⟩] := by rw [← eWD]; exact Bn.new WC [.int .i64 0, .bool false, .int .i64 0, .string ⟨#[]⟩] 30
  obtain ⟨WE, eWE⟩ : ∃ Y, ((((WD.setCell ⟨WC.heap.size, 0, none⟩ (.int .i64 x.k)).setCell ⟨WC.heap.size, 1, none⟩ (.bool x.b)).setCell ⟨WC.heap.size, 2, none⟩ (.int .i64 x.n)).setCell ⟨WC.heap.size, 3, none⟩ (.string x.t)) = Y := ⟨_, rfl⟩
  have kWE : Kp [WC.heap.size] WD WE := by rw [← eWE]; exact (((((Kp.refl _ _).setCell (by simp) _).setCell (by simp) _).setCell (by simp) _).setCell (by simp) _)
  have xWE : Bn WE (WC.heap.size) [.int .i64 x.k, .bool x.b, .int .i64 x.n, .string x.t] := by rw [← eWE]; exact ((((xWD.set 0 (by simp) (.int .i64 x.k)).set 1 (by simp) (.bool x.b)).set 2 (by simp) (.int .i64 x.n)).set 3 (by simp) (.string x.t))
  have zWE := kWE.size
  have ma0 := xWD.get 0 _ rfl; have ma1 := xWD.get 1 _ rfl; have ma2 := xWD.get 2 _ rfl; have ma3 := xWD.get 3 _ rfl
  have mf0 := xWD.free 0; have mf1 := xWD.free 1; have mf2 := xWD.free 2; have mf3 := xWD.free 3
  have va0 := xWE.get 0 _ rfl; have va1 := xWE.get 1 _ rfl; have va2 := xWE.get 2 _ rfl; have va3 := xWE.get 3 _ rfl
  have kE : Kp [] WC WE := kWD.trans kWE (fun x hx => .inr (by simp at hx; omega))
  have b3 := b2.kept kE
  have eb0 := b3.get 0 _ rfl; have eb1 := b3.get 1 _ rfl; have eb2 := b3.get 2 _ rfl; have eb3 := b3.get 3 _ rfl; have eb4 := b3.get 4 _ rfl; have eb5 := b3.get 5 _ rfl; have eb6 := b3.get 6 _ rfl; have eb7 := b3.get 7 _ rfl
  obtain ⟨WF, eWF⟩ : ∃ Y, WE.alloc (.cells #[.int .i64 0, .bool false, .int .i64 0, .string ⟨#[]⟩] 30) = Y := ⟨_, rfl⟩
  have kWF : Kp [] WE WF := by rw [← eWF]; exact (Kp.refl _ _).alloc _
  have zWF : WF.heap.size = WE.heap.size + 1 := by rw [← eWF]; simp
  have xWF : Bn WF (WE.heap.size) [.int .i64 0, .bool false, .int .i64 0, .string ⟨#[]⟩] := by rw [← eWF]; exact Bn.new WE [.int .i64 0, .bool false, .int .i64 0, .string ⟨#[]⟩] 30
  obtain ⟨WG, eWG⟩ : ∃ Y, ((((WF.setCell ⟨WE.heap.size, 0, none⟩ (.int .i64 y.k)).setCell ⟨WE.heap.size, 1, none⟩ (.bool y.b)).setCell ⟨WE.heap.size, 2, none⟩ (.int .i64 y.n)).setCell ⟨WE.heap.size, 3, none⟩ (.string y.t)) = Y := ⟨_, rfl⟩
  have kWG : Kp [WE.heap.size] WF WG := by rw [← eWG]; exact (((((Kp.refl _ _).setCell (by simp) _).setCell (by simp) _).setCell (by simp) _).setCell (by simp) _)
  have xWG : Bn WG (WE.heap.size) [.int .i64 y.k, .bool y.b, .int .i64 y.n, .string y.t] := by rw [← eWG]; exact ((((xWF.set 0 (by simp) (.int .i64 y.k)).set 1 (by simp) (.bool y.b)).set 2 (by simp) (.int .i64 y.n)).set 3 (by simp) (.string y.t))
  have zWG := kWG.size
  have na0 := xWF.get 0 _ rfl; have na1 := xWF.get 1 _ rfl; have na2 := xWF.get 2 _ rfl; have na3 := xWF.get 3 _ rfl
  have nf0 := xWF.free 0; have nf1 := xWF.free 1; have nf2 := xWF.free 2; have nf3 := xWF.free 3
  have ya0 := xWG.get 0 _ rfl; have ya1 := xWG.get 1 _ rfl; have ya2 := xWG.get 2 _ rfl; have ya3 := xWG.get 3 _ rfl
  have kG : Kp [] WE WG := kWF.trans kWG (fun x hx => .inr (by simp at hx; omega))
  have hr := (b1.kept kE).kept kG
  have he := b3.kept kG
  have ho := (bWC.kept kE).kept kG
  have hx := xWE.kept kG
  have rg0 := hr.get 0 _ rfl
  have og0 := ho.get 0 _ rfl
  have xg0 := hx.get 0 _ rfl; have xg1 := hx.get 1 _ rfl; have xg2 := hx.get 2 _ rfl; have xg3 := hx.get 3 _ rfl
  have KW := hid ((((kWA.trans kWB (by simp)).trans kWC (by simp)).trans kE (by simp)).trans kG (by simp))
  have z1 : w.heap.size < WG.heap.size := by omega
  have z2 : WA.heap.size < WG.heap.size := by omega
  have z3 : WB.heap.size < WG.heap.size := by omega
  have z4 : WC.heap.size < WG.heap.size := by omega
  have z5 : WE.heap.size < WG.heap.size := by omega
  have z6 : WA.heap.size < WC.heap.size := by omega
  have z7 : WA.heap.size < WE.heap.size := by omega
  have z8 : WC.heap.size < WE.heap.size := by omega
  have HT := hid (hT.kept KW.out (by simp))
  have HS := hid (hs.keptNew KW.out)
  have aV := hid (fun W' (k : Kp [] WG W') => cAliveX W' (HT.out.kept k (by simp)))
  have aI := hid (fun W' (k : Kp [] WG W') (op : Int) (x : Val) => cIsR WB.heap.size w.heap.size op x co a cap l W' (HT.out.kept k (by simp)) (ho.kept k) (hr.kept k) (HS.out.keptNew k) hl)
  have BX := hid (And.intro hx xWG)
  clear kWA kWB kWC zWA zWB zWC bWA bWB bWC b1 b2 b3 hr he ho hx kE kG hT hs kWD kWE kWF kWG zWD zWE zWF zWG xWD xWE xWF xWG
  unfold EV
  by_cases h1 : co < 0
  · have d1 : decide (co < 0) = true := by simpa using h1
    clear aI h1
    go_enter Tryd.func8, Tryd.ntmps8
    go_wp2_with fail
    refine (aV.out _ (Kp.refl _ _)).mono ?_
    rintro e w1 ⟨rfl, k1⟩
    go_wp2_with fail
    go_ret
    exact ⟨rfl, (KW.out.trans k1 (by simp)).below⟩
  have d1 : decide (co < 0) = false := by simpa using h1
  by_cases h2 : (l.length : Int) ≤ co
  · have d2 : decide ((l.length : Int) ≤ co) = true := by simpa using h2
    clear aI h1 h2
    go_enter Tryd.func8, Tryd.ntmps8
    go_wp2_with fail
    refine (aV.out _ (Kp.refl _ _)).mono ?_
    rintro e w1 ⟨rfl, k1⟩
    go_wp2_with fail
    go_ret
    exact ⟨rfl, (KW.out.trans k1 (by simp)).below⟩
  have d2 : decide ((l.length : Int) ≤ co) = false := by simpa using h2
  by_cases h3 : x.k = 0
  · obtain ⟨xk, xb, xn, xt⟩ := x
    simp only at h3
    subst h3
    clear aI h1 h2
    go_enter Tryd.func8, Tryd.ntmps8
    go_wp2_with fail
    refine (aV.out _ (Kp.refl _ _)).mono ?_
    rintro e w1 ⟨rfl, k1⟩
    go_wp2_with fail
    go_ret
    exact ⟨rfl, (KW.out.trans k1 (by simp)).below⟩
  have d3 : (x.k == 0) = false := by simpa using h3
  by_cases h4 : y.k = 0
  · obtain ⟨yk, yb, yn, yt⟩ := y
    simp only at h4
    subst h4
    clear aI h1 h2 h3
    go_enter Tryd.func8, Tryd.ntmps8
    go_wp2_with fail
    refine (aV.out _ (Kp.refl _ _)).mono ?_
    rintro e w1 ⟨rfl, k1⟩
    go_wp2_with fail
    go_ret
    exact ⟨rfl, (KW.out.trans k1 (by simp)).below⟩
  have d4 : (y.k == 0) = false := by simpa using h4
  obtain ⟨WH, eWH⟩ : ∃ Y, WG.alloc (.cells #[.int .i64 x.k, .bool x.b, .int .i64 x.n, .string x.t] 30) = Y := ⟨_, rfl⟩
  have kWH : Kp [] WG WH := by rw [← eWH]; exact (Kp.refl _ _).alloc _
  have zWH : WH.heap.size = WG.heap.size + 1 := by rw [← eWH]; simp
  have bWH : Bn WH WG.heap.size [.int .i64 x.k, .bool x.b, .int .i64 x.n, .string x.t] := by rw [← eWH]; exact Bn.new WG [.int .i64 x.k, .bool x.b, .int .i64 x.n, .string x.t] 30
  have hs1 : VE.See WH (some ⟨WG.heap.size, 0, none⟩) [x] := .inr ⟨WG.heap.size, 0, rfl, fun j u hu => by rw [Nat.zero_add]; exact bWH.get j u (by simpa [El.cs, VE] using hu)⟩
  have aT := hid (xTerm ⟨0, 2, y⟩ (some ⟨WG.heap.size, 0, none⟩) 1 [x] WH (HT.out.kept kWH (by simp)) hs1 (by simp))
  rw [one_below x y h3 h4] at aT
  have KH := hid kWH
  have hpl := hid (ranks_plain l co x y h1 h2 h3 h4)
  have q1 := hid (fun W' (k : Kp [] WG W') => aI.out W' k 3 x)
  have q2 := hid (fun W' (k : Kp [] WG W') => aI.out W' k 2 y)
  have q3 := hid (fun W' (k : Kp [] WG W') => aI.out W' k 5 y)
  have q4 := hid (fun W' (k : Kp [] WG W') => aI.out W' k 4 x)
  have q5 := hid (fun W' (k : Kp [] WG W') => aI.out W' k 0 x)
  have q6 := hid (fun W' (k : Kp [] WG W') => aI.out W' k 0 y)
  have uH : WG.heap.size < WH.heap.size := by omega
  clear aI h1 h2 h3 h4 hs1 kWH bWH zWH HS HT
  by_cases hc : cmpV x y < 0
  rotate_left
  · rw [decide_eq_false hc] at aT
    clear hpl hc
    obtain ⟨xk, xb, xn, xt⟩ := x
    obtain ⟨yk, yb, yn, yt⟩ := y
    simp only [Tm.v, List.length_cons, List.length_nil, Nat.zero_add] at *
    go_enter Tryd.func8, Tryd.ntmps8
    go_wp2_with fail
    refine aT.out.mono ?_
    rintro e w1 ⟨rfl, k1⟩
    have K1 := hid (KH.out.trans k1 (by simp))
    clear k1
    go_wp2_with fail
    refine (aV.out _ K1.out).mono ?_
    rintro e w2 ⟨rfl, k2⟩
    have K2 := hid (K1.out.trans k2 (by simp))
    clear k2
    go_wp2_with fail
    go_ret
    exact ⟨rfl, (KW.out.trans K2.out (by simp)).below⟩
  rw [decide_eq_true hc] at aT
  have hp1 := hid (hpl.out hc).1
  have hp2 := hid (hpl.out hc).2.1
  have hp3 := hid (hpl.out hc).2.2
  clear hpl hc
  generalize termT ⟨co, 3, x⟩ l = T1 at *
  generalize termT ⟨co, 2, y⟩ l = T2 at *
  generalize termT ⟨co, 5, y⟩ l = T3 at *
  generalize termT ⟨co, 4, x⟩ l = T4 at *
  generalize termT ⟨co, 0, x⟩ l = T5 at *
  generalize termT ⟨co, 0, y⟩ l = T6 at *
  obtain ⟨xk, xb, xn, xt⟩ := x
  obtain ⟨yk, yb, yn, yt⟩ := y
  simp only [Tm.v, Val.v, List.length_cons, List.length_nil, Nat.zero_add] at *
  go_enter Tryd.func8, Tryd.ntmps8
  go_wp2_with fail
  refine aT.out.mono ?_
  rintro e w1 ⟨rfl, k1⟩
  have K1 := hid (KH.out.trans k1 (by simp))
  clear k1 aT eWA eWB eWC eWD eWE eWF eWG eWH ma0 ma1 ma2 ma3 mf0 mf1 mf2 mf3 va0 va1 va2 va3 na0 na1 na2 na3 nf0 nf1 nf2 nf3 ya0 ya1 ya2 ya3 ea0 ea1 ea2 ea3 ea4 ea5 ea6 ea7 eb0 eb1 eb2 eb3 eb4 eb5 eb6 eb7 ra0 oa0 rg0 og0 xg0 xg1 xg2 xg3
  cases T1 with
  | false =>
    have c1 := BX.out.1.kept K1.out; have c2 := BX.out.2.kept K1.out
    have cx0 := c1.get 0 _ rfl; have cx1 := c1.get 1 _ rfl; have cx2 := c1.get 2 _ rfl; have cx3 := c1.get 3 _ rfl
    have cy0 := c2.get 0 _ rfl; have cy1 := c2.get 1 _ rfl; have cy2 := c2.get 2 _ rfl; have cy3 := c2.get 3 _ rfl
    have u1 := c1.lt (by simp); have u2 := c2.lt (by simp)
    go_wp2_with fail
    refine (q1.out _ K1.out).mono ?_
    rintro e w2 ⟨rfl, k2⟩
    have K2 := hid (K1.out.trans k2 (by simp))
    clear k2 cx0 cx1 cx2 cx3 cy0 cy1 cy2 cy3 c1 c2 u1 u2
    cases T3 with
    | false =>
      have c1 := BX.out.1.kept K2.out; have c2 := BX.out.2.kept K2.out
      have cx0 := c1.get 0 _ rfl; have cx1 := c1.get 1 _ rfl; have cx2 := c1.get 2 _ rfl; have cx3 := c1.get 3 _ rfl
      have cy0 := c2.get 0 _ rfl; have cy1 := c2.get 1 _ rfl; have cy2 := c2.get 2 _ rfl; have cy3 := c2.get 3 _ rfl
      have u1 := c1.lt (by simp); have u2 := c2.lt (by simp)
      go_wp2_with fail
      refine (q3.out _ K2.out).mono ?_
      rintro e w3 ⟨rfl, k3⟩
      have K3 := hid (K2.out.trans k3 (by simp))
      clear k3 cx0 cx1 cx2 cx3 cy0 cy1 cy2 cy3 c1 c2 u1 u2
      cases T5 with
      | false =>
        go_wp2_with fail
        refine (aV.out _ K3.out).mono ?_
        rintro e w4 ⟨rfl, k4⟩
        have K4 := hid (K3.out.trans k4 (by simp))
        clear k4
        have c1 := BX.out.1.kept K4.out; have c2 := BX.out.2.kept K4.out
        have cx0 := c1.get 0 _ rfl; have cx1 := c1.get 1 _ rfl; have cx2 := c1.get 2 _ rfl; have cx3 := c1.get 3 _ rfl
        have cy0 := c2.get 0 _ rfl; have cy1 := c2.get 1 _ rfl; have cy2 := c2.get 2 _ rfl; have cy3 := c2.get 3 _ rfl
        have u1 := c1.lt (by simp); have u2 := c2.lt (by simp)
        go_wp2_with fail
        refine (q5.out _ K4.out).mono ?_
        rintro e w5 ⟨rfl, k5⟩
        have K5 := hid (K4.out.trans k5 (by simp))
        clear k5 cx0 cx1 cx2 cx3 cy0 cy1 cy2 cy3 c1 c2 u1 u2
        go_wp2_with fail
        go_ret
        exact ⟨rfl, (KW.out.trans K5.out (by simp)).below⟩
      | true =>
        have g5 := hp3.out rfl
        subst g5
        go_wp2_with fail
        refine (aV.out _ K3.out).mono ?_
        rintro e w4 ⟨rfl, k4⟩
        have K4 := hid (K3.out.trans k4 (by simp))
        clear k4
        have c1 := BX.out.1.kept K4.out; have c2 := BX.out.2.kept K4.out
        have cx0 := c1.get 0 _ rfl; have cx1 := c1.get 1 _ rfl; have cx2 := c1.get 2 _ rfl; have cx3 := c1.get 3 _ rfl
        have cy0 := c2.get 0 _ rfl; have cy1 := c2.get 1 _ rfl; have cy2 := c2.get 2 _ rfl; have cy3 := c2.get 3 _ rfl
        have u1 := c1.lt (by simp); have u2 := c2.lt (by simp)
        go_wp2_with fail
        refine (q5.out _ K4.out).mono ?_
        rintro e w5 ⟨rfl, k5⟩
        have K5 := hid (K4.out.trans k5 (by simp))
        clear k5 cx0 cx1 cx2 cx3 cy0 cy1 cy2 cy3 c1 c2 u1 u2
        have c1 := BX.out.1.kept K5.out; have c2 := BX.out.2.kept K5.out
        have cx0 := c1.get 0 _ rfl; have cx1 := c1.get 1 _ rfl; have cx2 := c1.get 2 _ rfl; have cx3 := c1.get 3 _ rfl
        have cy0 := c2.get 0 _ rfl; have cy1 := c2.get 1 _ rfl; have cy2 := c2.get 2 _ rfl; have cy3 := c2.get 3 _ rfl
        have u1 := c1.lt (by simp); have u2 := c2.lt (by simp)
        go_wp2_with fail
        refine (q6.out _ K5.out).mono ?_
        rintro e w6 ⟨rfl, k6⟩
        have K6 := hid (K5.out.trans k6 (by simp))
        clear k6 cx0 cx1 cx2 cx3 cy0 cy1 cy2 cy3 c1 c2 u1 u2
        go_wp2_with fail
        go_ret
        exact ⟨rfl, (KW.out.trans K6.out (by simp)).below⟩
    | true =>
      have g3 := hp2.out rfl
      subst g3
      have c1 := BX.out.1.kept K2.out; have c2 := BX.out.2.kept K2.out
      have cx0 := c1.get 0 _ rfl; have cx1 := c1.get 1 _ rfl; have cx2 := c1.get 2 _ rfl; have cx3 := c1.get 3 _ rfl
      have cy0 := c2.get 0 _ rfl; have cy1 := c2.get 1 _ rfl; have cy2 := c2.get 2 _ rfl; have cy3 := c2.get 3 _ rfl
      have u1 := c1.lt (by simp); have u2 := c2.lt (by simp)
      go_wp2_with fail
      refine (q3.out _ K2.out).mono ?_
      rintro e w3 ⟨rfl, k3⟩
      have K3 := hid (K2.out.trans k3 (by simp))
      clear k3 cx0 cx1 cx2 cx3 cy0 cy1 cy2 cy3 c1 c2 u1 u2
      have c1 := BX.out.1.kept K3.out; have c2 := BX.out.2.kept K3.out
      have cx0 := c1.get 0 _ rfl; have cx1 := c1.get 1 _ rfl; have cx2 := c1.get 2 _ rfl; have cx3 := c1.get 3 _ rfl
      have cy0 := c2.get 0 _ rfl; have cy1 := c2.get 1 _ rfl; have cy2 := c2.get 2 _ rfl; have cy3 := c2.get 3 _ rfl
      have u1 := c1.lt (by simp); have u2 := c2.lt (by simp)
      go_wp2_with fail
      refine (q4.out _ K3.out).mono ?_
      rintro e w4 ⟨rfl, k4⟩
      have K4 := hid (K3.out.trans k4 (by simp))
      clear k4 cx0 cx1 cx2 cx3 cy0 cy1 cy2 cy3 c1 c2 u1 u2
      cases T5 with
      | false =>
        go_wp2_with fail
        refine (aV.out _ K4.out).mono ?_
        rintro e w5 ⟨rfl, k5⟩
        have K5 := hid (K4.out.trans k5 (by simp))
        clear k5
        have c1 := BX.out.1.kept K5.out; have c2 := BX.out.2.kept K5.out
        have cx0 := c1.get 0 _ rfl; have cx1 := c1.get 1 _ rfl; have cx2 := c1.get 2 _ rfl; have cx3 := c1.get 3 _ rfl
        have cy0 := c2.get 0 _ rfl; have cy1 := c2.get 1 _ rfl; have cy2 := c2.get 2 _ rfl; have cy3 := c2.get 3 _ rfl
        have u1 := c1.lt (by simp); have u2 := c2.lt (by simp)
        go_wp2_with fail
        refine (q5.out _ K5.out).mono ?_
        rintro e w6 ⟨rfl, k6⟩
        have K6 := hid (K5.out.trans k6 (by simp))
        clear k6 cx0 cx1 cx2 cx3 cy0 cy1 cy2 cy3 c1 c2 u1 u2
        go_wp2_with fail
        go_ret
        exact ⟨rfl, (KW.out.trans K6.out (by simp)).below⟩
      | true =>
        have g5 := hp3.out rfl
        subst g5
        go_wp2_with fail
        refine (aV.out _ K4.out).mono ?_
        rintro e w5 ⟨rfl, k5⟩
        have K5 := hid (K4.out.trans k5 (by simp))
        clear k5
        have c1 := BX.out.1.kept K5.out; have c2 := BX.out.2.kept K5.out
        have cx0 := c1.get 0 _ rfl; have cx1 := c1.get 1 _ rfl; have cx2 := c1.get 2 _ rfl; have cx3 := c1.get 3 _ rfl
        have cy0 := c2.get 0 _ rfl; have cy1 := c2.get 1 _ rfl; have cy2 := c2.get 2 _ rfl; have cy3 := c2.get 3 _ rfl
        have u1 := c1.lt (by simp); have u2 := c2.lt (by simp)
        go_wp2_with fail
        refine (q5.out _ K5.out).mono ?_
        rintro e w6 ⟨rfl, k6⟩
        have K6 := hid (K5.out.trans k6 (by simp))
        clear k6 cx0 cx1 cx2 cx3 cy0 cy1 cy2 cy3 c1 c2 u1 u2
        have c1 := BX.out.1.kept K6.out; have c2 := BX.out.2.kept K6.out
        have cx0 := c1.get 0 _ rfl; have cx1 := c1.get 1 _ rfl; have cx2 := c1.get 2 _ rfl; have cx3 := c1.get 3 _ rfl
        have cy0 := c2.get 0 _ rfl; have cy1 := c2.get 1 _ rfl; have cy2 := c2.get 2 _ rfl; have cy3 := c2.get 3 _ rfl
        have u1 := c1.lt (by simp); have u2 := c2.lt (by simp)
        go_wp2_with fail
        refine (q6.out _ K6.out).mono ?_
        rintro e w7 ⟨rfl, k7⟩
        have K7 := hid (K6.out.trans k7 (by simp))
        clear k7 cx0 cx1 cx2 cx3 cy0 cy1 cy2 cy3 c1 c2 u1 u2
        go_wp2_with fail
        go_ret
        exact ⟨rfl, (KW.out.trans K7.out (by simp)).below⟩
  | true =>
    have g1 := hp1.out rfl
    subst g1
    have c1 := BX.out.1.kept K1.out; have c2 := BX.out.2.kept K1.out
    have cx0 := c1.get 0 _ rfl; have cx1 := c1.get 1 _ rfl; have cx2 := c1.get 2 _ rfl; have cx3 := c1.get 3 _ rfl
    have cy0 := c2.get 0 _ rfl; have cy1 := c2.get 1 _ rfl; have cy2 := c2.get 2 _ rfl; have cy3 := c2.get 3 _ rfl
    have u1 := c1.lt (by simp); have u2 := c2.lt (by simp)
    go_wp2_with fail
    refine (q1.out _ K1.out).mono ?_
    rintro e w2 ⟨rfl, k2⟩
    have K2 := hid (K1.out.trans k2 (by simp))
    clear k2 cx0 cx1 cx2 cx3 cy0 cy1 cy2 cy3 c1 c2 u1 u2
    have c1 := BX.out.1.kept K2.out; have c2 := BX.out.2.kept K2.out
    have cx0 := c1.get 0 _ rfl; have cx1 := c1.get 1 _ rfl; have cx2 := c1.get 2 _ rfl; have cx3 := c1.get 3 _ rfl
    have cy0 := c2.get 0 _ rfl; have cy1 := c2.get 1 _ rfl; have cy2 := c2.get 2 _ rfl; have cy3 := c2.get 3 _ rfl
    have u1 := c1.lt (by simp); have u2 := c2.lt (by simp)
    go_wp2_with fail
    refine (q2.out _ K2.out).mono ?_
    rintro e w3 ⟨rfl, k3⟩
    have K3 := hid (K2.out.trans k3 (by simp))
    clear k3 cx0 cx1 cx2 cx3 cy0 cy1 cy2 cy3 c1 c2 u1 u2
    cases T3 with
    | false =>
      have c1 := BX.out.1.kept K3.out; have c2 := BX.out.2.kept K3.out
      have cx0 := c1.get 0 _ rfl; have cx1 := c1.get 1 _ rfl; have cx2 := c1.get 2 _ rfl; have cx3 := c1.get 3 _ rfl
      have cy0 := c2.get 0 _ rfl; have cy1 := c2.get 1 _ rfl; have cy2 := c2.get 2 _ rfl; have cy3 := c2.get 3 _ rfl
      have u1 := c1.lt (by simp); have u2 := c2.lt (by simp)
      go_wp2_with fail
      refine (q3.out _ K3.out).mono ?_
      rintro e w4 ⟨rfl, k4⟩
      have K4 := hid (K3.out.trans k4 (by simp))
      clear k4 cx0 cx1 cx2 cx3 cy0 cy1 cy2 cy3 c1 c2 u1 u2
      cases T5 with
      | false =>
        go_wp2_with fail
        refine (aV.out _ K4.out).mono ?_
        rintro e w5 ⟨rfl, k5⟩
        have K5 := hid (K4.out.trans k5 (by simp))
        clear k5
        have c1 := BX.out.1.kept K5.out; have c2 := BX.out.2.kept K5.out
        have cx0 := c1.get 0 _ rfl; have cx1 := c1.get 1 _ rfl; have cx2 := c1.get 2 _ rfl; have cx3 := c1.get 3 _ rfl
        have cy0 := c2.get 0 _ rfl; have cy1 := c2.get 1 _ rfl; have cy2 := c2.get 2 _ rfl; have cy3 := c2.get 3 _ rfl
        have u1 := c1.lt (by simp); have u2 := c2.lt (by simp)
        go_wp2_with fail
        refine (q5.out _ K5.out).mono ?_
        rintro e w6 ⟨rfl, k6⟩
        have K6 := hid (K5.out.trans k6 (by simp))
        clear k6 cx0 cx1 cx2 cx3 cy0 cy1 cy2 cy3 c1 c2 u1 u2
        go_wp2_with fail
        go_ret
        exact ⟨rfl, (KW.out.trans K6.out (by simp)).below⟩
      | true =>
        have g5 := hp3.out rfl
        subst g5
        go_wp2_with fail
        refine (aV.out _ K4.out).mono ?_
        rintro e w5 ⟨rfl, k5⟩
        have K5 := hid (K4.out.trans k5 (by simp))
        clear k5
        have c1 := BX.out.1.kept K5.out; have c2 := BX.out.2.kept K5.out
        have cx0 := c1.get 0 _ rfl; have cx1 := c1.get 1 _ rfl; have cx2 := c1.get 2 _ rfl; have cx3 := c1.get 3 _ rfl
        have cy0 := c2.get 0 _ rfl; have cy1 := c2.get 1 _ rfl; have cy2 := c2.get 2 _ rfl; have cy3 := c2.get 3 _ rfl
        have u1 := c1.lt (by simp); have u2 := c2.lt (by simp)
        go_wp2_with fail
        refine (q5.out _ K5.out).mono ?_
        rintro e w6 ⟨rfl, k6⟩
        have K6 := hid (K5.out.trans k6 (by simp))
        clear k6 cx0 cx1 cx2 cx3 cy0 cy1 cy2 cy3 c1 c2 u1 u2
        have c1 := BX.out.1.kept K6.out; have c2 := BX.out.2.kept K6.out
        have cx0 := c1.get 0 _ rfl; have cx1 := c1.get 1 _ rfl; have cx2 := c1.get 2 _ rfl; have cx3 := c1.get 3 _ rfl
        have cy0 := c2.get 0 _ rfl; have cy1 := c2.get 1 _ rfl; have cy2 := c2.get 2 _ rfl; have cy3 := c2.get 3 _ rfl
        have u1 := c1.lt (by simp); have u2 := c2.lt (by simp)
        go_wp2_with fail
        refine (q6.out _ K6.out).mono ?_
        rintro e w7 ⟨rfl, k7⟩
        have K7 := hid (K6.out.trans k7 (by simp))
        clear k7 cx0 cx1 cx2 cx3 cy0 cy1 cy2 cy3 c1 c2 u1 u2
        go_wp2_with fail
        go_ret
        exact ⟨rfl, (KW.out.trans K7.out (by simp)).below⟩
    | true =>
      have g3 := hp2.out rfl
      subst g3
      have c1 := BX.out.1.kept K3.out; have c2 := BX.out.2.kept K3.out
      have cx0 := c1.get 0 _ rfl; have cx1 := c1.get 1 _ rfl; have cx2 := c1.get 2 _ rfl; have cx3 := c1.get 3 _ rfl
      have cy0 := c2.get 0 _ rfl; have cy1 := c2.get 1 _ rfl; have cy2 := c2.get 2 _ rfl; have cy3 := c2.get 3 _ rfl
      have u1 := c1.lt (by simp); have u2 := c2.lt (by simp)
      go_wp2_with fail
      refine (q3.out _ K3.out).mono ?_
      rintro e w4 ⟨rfl, k4⟩
      have K4 := hid (K3.out.trans k4 (by simp))
      clear k4 cx0 cx1 cx2 cx3 cy0 cy1 cy2 cy3 c1 c2 u1 u2
      have c1 := BX.out.1.kept K4.out; have c2 := BX.out.2.kept K4.out
      have cx0 := c1.get 0 _ rfl; have cx1 := c1.get 1 _ rfl; have cx2 := c1.get 2 _ rfl; have cx3 := c1.get 3 _ rfl
      have cy0 := c2.get 0 _ rfl; have cy1 := c2.get 1 _ rfl; have cy2 := c2.get 2 _ rfl; have cy3 := c2.get 3 _ rfl
      have u1 := c1.lt (by simp); have u2 := c2.lt (by simp)
      go_wp2_with fail
      refine (q4.out _ K4.out).mono ?_
      rintro e w5 ⟨rfl, k5⟩
      have K5 := hid (K4.out.trans k5 (by simp))
      clear k5 cx0 cx1 cx2 cx3 cy0 cy1 cy2 cy3 c1 c2 u1 u2
      cases T5 with
      | false =>
        go_wp2_with fail
        refine (aV.out _ K5.out).mono ?_
        rintro e w6 ⟨rfl, k6⟩
        have K6 := hid (K5.out.trans k6 (by simp))
        clear k6
        have c1 := BX.out.1.kept K6.out; have c2 := BX.out.2.kept K6.out
        have cx0 := c1.get 0 _ rfl; have cx1 := c1.get 1 _ rfl; have cx2 := c1.get 2 _ rfl; have cx3 := c1.get 3 _ rfl
        have cy0 := c2.get 0 _ rfl; have cy1 := c2.get 1 _ rfl; have cy2 := c2.get 2 _ rfl; have cy3 := c2.get 3 _ rfl
        have u1 := c1.lt (by simp); have u2 := c2.lt (by simp)
        go_wp2_with fail
        refine (q5.out _ K6.out).mono ?_
        rintro e w7 ⟨rfl, k7⟩
        have K7 := hid (K6.out.trans k7 (by simp))
        clear k7 cx0 cx1 cx2 cx3 cy0 cy1 cy2 cy3 c1 c2 u1 u2
        go_wp2_with fail
        go_ret
        exact ⟨rfl, (KW.out.trans K7.out (by simp)).below⟩
      | true =>
        have g5 := hp3.out rfl
        subst g5
        go_wp2_with fail
        refine (aV.out _ K5.out).mono ?_
        rintro e w6 ⟨rfl, k6⟩
        have K6 := hid (K5.out.trans k6 (by simp))
        clear k6
        have c1 := BX.out.1.kept K6.out; have c2 := BX.out.2.kept K6.out
        have cx0 := c1.get 0 _ rfl; have cx1 := c1.get 1 _ rfl; have cx2 := c1.get 2 _ rfl; have cx3 := c1.get 3 _ rfl
        have cy0 := c2.get 0 _ rfl; have cy1 := c2.get 1 _ rfl; have cy2 := c2.get 2 _ rfl; have cy3 := c2.get 3 _ rfl
        have u1 := c1.lt (by simp); have u2 := c2.lt (by simp)
        go_wp2_with fail
        refine (q5.out _ K6.out).mono ?_
        rintro e w7 ⟨rfl, k7⟩
        have K7 := hid (K6.out.trans k7 (by simp))
        clear k7 cx0 cx1 cx2 cx3 cy0 cy1 cy2 cy3 c1 c2 u1 u2
        have c1 := BX.out.1.kept K7.out; have c2 := BX.out.2.kept K7.out
        have cx0 := c1.get 0 _ rfl; have cx1 := c1.get 1 _ rfl; have cx2 := c1.get 2 _ rfl; have cx3 := c1.get 3 _ rfl
        have cy0 := c2.get 0 _ rfl; have cy1 := c2.get 1 _ rfl; have cy2 := c2.get 2 _ rfl; have cy3 := c2.get 3 _ rfl
        have u1 := c1.lt (by simp); have u2 := c2.lt (by simp)
        go_wp2_with fail
        refine (q6.out _ K7.out).mono ?_
        rintro e w8 ⟨rfl, k8⟩
        have K8 := hid (K7.out.trans k8 (by simp))
        clear k8 cx0 cx1 cx2 cx3 cy0 cy1 cy2 cy3 c1 c2 u1 u2
        go_wp2_with fail
        go_ret
        exact ⟨rfl, (KW.out.trans K8.out (by simp)).below⟩
end Go.Proofs.YtacoabmmhddbkaaDoor
end

section
namespace Go.Proofs.YtacoabmmhddbkaaDoor
open Go.ChangeShapes Go.WideShapes Go.ChangeAt Go.RowKit Go.Hay
set_option linter.unusedVariables false

set_option maxRecDepth 100000 in
theorem exprRanksContract (H : Type) (enc : TypeId × Value → H) (W : World) (base : Nat) (args : Array Value) (ds gs : List (DataW H)) (before : List MemPlace)
    (hval : ∀ (j : Nat) t v, Tryd.f8.params[j]? = some t → args[j]? = some v → Value.okWide Tryd.prog W .any base t v)
    (hW : DataW.Whole enc Tryd.prog Tryd.f8.params.toList Rows.exprRanksSpec.vars false W args.toList ds gs before)
    (hsz : (DataW.weightsEach Tryd.prog (Tryd.f8.params.toList ++ (OpenSpec.ofChange Rows.exprRanksSpec).bare.plain.varTypes Tryd.prog) (ds ++ gs)).all (· ≤ reachBytes) = true)
    (hL : laidMetH Tryd.prog Rows.exprRanksRow.laid W) :
    Calls Tryd.prog 8 args W fun e W' => ∃ v, e = .returned v ∧ Rows.exprRanksSpec.post enc Tryd.prog Tryd.f8 false true false false W args v W' := by
  have hW' := hW
  obtain ⟨p, q, hA0, hV, rfl, hfz, hnd⟩ := hW
  have hA : DataW.TrodAll enc Tryd.prog W 0 (fun _ => true) true Tryd.f8.params.toList args.toList ds p := hA0
  rw [Tryd.params8] at hA hval hsz
  obtain ⟨v0, vs0, d0, ds0, p0, q0, hargs, rfl, rfl, h0, r0⟩ := trodAll_cons hA
  obtain ⟨v1, vs1, d1, ds1, p1, q1, rfl, rfl, rfl, h1, r1⟩ := trodAll_cons r0
  obtain ⟨v2, vs2, d2, ds2, p2, q2, rfl, rfl, rfl, h2, r2⟩ := trodAll_cons r1
  obtain ⟨rfl, rfl, rfl⟩ := trodAll_nil r2
  obtain rfl : args = #[v0, v1, v2] := by cases args; simp_all
  obtain ⟨rfl, rfl⟩ := trodVars_none hV
  obtain ⟨a0, len0, cap0, rfl⟩ := okWide_slice Tryd.underlying28 (hval 0 28 v0 rfl rfl)
  have k0 := h0
  have lt0 : ∀ x ∈ p0, x.block < W.heap.size := by obtain ⟨m, hm⟩ := k0; exact DataW.trod_lt m _ _ _ hm
  obtain ⟨l0, rfl, hs0, hok0, hl0, hm0, hn0, hfit0, hbk0, hcp0⟩ := openXv h0
  obtain ⟨hc0, hq0⟩ := hfit0 (List.all_eq_true.2 fun x hx => List.all_eq_true.1 hsz x (by simp [DataW.weightsEach]; first | exact .inl hx | exact .inr hx | exact .inr (.inl hx) | exact .inr (.inr hx) | exact hx))
  have k1 := h1
  have lt1 : ∀ x ∈ p1, x.block < W.heap.size := by obtain ⟨m, hm⟩ := k1; exact DataW.trod_lt m _ _ _ hm
  obtain ⟨x1, y1, rfl⟩ := openTwo (hval 1 41 v1 rfl rfl) h1
  obtain ⟨a2, rfl, rfl, rfl, w2⟩ := open_int Tryd.underlying3 (hval 2 3 v2 rfl rfl) h2
  have hb2 := bounds_i64 w2
  clear hA0
  refine (ranksWalk a0 cap0 l0 x1 y1 a2 W (table hL) hs0 (by omega)).mono fun e W' ⟨he, bel⟩ => ?_
  subst he
  exact ⟨_, rfl, _, _, _, [], _, [], hW', trodAll_mk1 (shut_bool Tryd.underlying4 _), (trodAll_cons_mk (Below.trod Tryd.laidOut (by kernel_rfl) (of_decide_eq_true (by kernel_rfl)) k0 bel lt0) (trodAll_cons_mk (Below.trod Tryd.laidOut (by kernel_rfl) (of_decide_eq_true (by kernel_rfl)) k1 bel lt1) (trodAll_cons_mk (shut_int Tryd.underlying3 w2) trodAll_mk0))), rfl, bel.frame _, fun h => by cases h⟩

set_option maxRecDepth 100000 in
theorem exprRanksLifted (os : Os) (started : os.Started) (H : Type) (enc : TypeId × Value → H) (F : Stop.Interp) :
    ReturnsInHanded {} Tryd.checked os 8 .any ((OpenSpec.ofChange Rows.exprRanksSpec).preRow enc Tryd.prog Tryd.f8 Rows.exprRanksRow.domain false Rows.exprRanksRow.laid) (((OpenSpec.ofChange Rows.exprRanksSpec).at F).post enc Tryd.prog Tryd.f8 false true false false) := by
  refine returnsInHanded_of_row (C := Tryd.checked) (s := OpenSpec.ofChange Rows.exprRanksSpec) Tryd.own started (by kernel_rfl) Tryd.func8
    (witness_row_at (enc := enc) (C := Tryd.checked) false ({ World.holding Tryd.prog os ⟨#[], #[], []⟩ with heap := (World.holding Tryd.prog os ⟨#[], #[], []⟩).heap.modify 0 fun
      | .cells _ t frozen => .cells tabCells t frozen
      | o => o }) #[.slice none 0 0, .agg #[.int .i64 0, .bool false, .int .i64 0, .string ⟨#[]⟩, .int .i64 0, .bool false, .int .i64 0, .string ⟨#[]⟩], .int .i64 0] rfl (by kernel_rfl) (by kernel_rfl) (by kernel_rfl)
      (OpenSpec.preRow_of_cond (x := ([.nil, .agg [.agg [.lit (.int .i64 0), .lit (.bool false), .lit (.int .i64 0), .lit (.string [])], .agg [.lit (.int .i64 0), .lit (.bool false), .lit (.int .i64 0), .lit (.string [])]], .lit (.int .i64 0)], [], [])) 8 (by kernel_rfl) (by kernel_rfl) (fun k hk => by cases hk) (by kernel_rfl) (laidMet_of_run' 8 (by kernel_rfl) (by kernel_rfl)))) ?_
  intro W base args ds gs before hval hW _ hcond hsz hL _ _
  exact exprRanksContract H enc W base args ds gs before hval hW hsz hL

theorem exprRanksSaid : Rows.ExprRanksSaid :=
  OpenClaim.holds_of_cond 8 Tryd.f8 rfl rfl rfl rfl rfl rfl rfl ⟨rfl, rfl, rfl, rfl, rfl⟩ rfl rfl rfl rfl rfl (by kernel_rfl) Tryd.func8 (by kernel_rfl)
    (of_decide_eq_true (by kernel_rfl)) (by unfold Func.isWrapper; first | (rw [if_pos (by decide +kernel)]; kernel_rfl) | (rw [if_neg (by decide +kernel)]; exact ⟨rfl, rfl⟩))
    (fun os started H enc _ F => by rw [OpenClaim.pre_eq_preRow]; exact exprRanksLifted os started H enc F)

theorem exprRanksPlain (f : FuncId) (fn : Func) (hf : Tryd.pinned.checked.prog.funcNamed "hayloft/hayloftlaw14.ExprRanks" = some f) (hfn : Tryd.pinned.checked.prog.funcs[f]? = some fn) :
    false = Tryd.pinned.checked.prog.looks [] ∧ ∀ (j : Nat) t, fn.params[j]? = some t → Tryd.pinned.checked.prog.wantsStandIn t = false := by
  obtain rfl : f = 8 := Option.some.inj ((show Tryd.prog.funcNamed "hayloft/hayloftlaw14.ExprRanks" = some 8 by kernel_rfl).symm.trans hf) |>.symm
  obtain rfl : fn = Tryd.f8 := (Option.some.inj (Tryd.func8.symm.trans hfn)).symm
  refine ⟨by kernel_rfl, fun j t ht => ?_⟩
  rw [Tryd.params8] at ht
  have hm := Array.mem_of_getElem? ht
  have h2 : t = 28 ∨ t = 41 ∨ t = 3 := by first | (simpa using hm) | (rcases (show t = 28 ∨ t = 41 ∨ t = 3 from by simpa using hm) with h | h | h <;> simp [h])
  rcases h2 with rfl | rfl | rfl
  · exact (show Tryd.prog.wantsStandIn 28 = false by kernel_rfl)
  · exact (show Tryd.prog.wantsStandIn 41 = false by kernel_rfl)
  · exact (show Tryd.prog.wantsStandIn 3 = false by kernel_rfl)

theorem ExprRanks_holds : Rows.ExprRanksCardSaid :=
  Claim7.holds_tied_plain_at .later [] _ _ _ _ exprRanksSaid (fun _ h => by cases h) (by kernel_rfl) (fun _ h => by cases h) exprRanks_row_tie rfl ⟨rfl, rfl⟩ (by kernel_rfl) rfl exprRanksPlain (by kernel_rfl)
#print axioms ExprRanks_holds
end Go.Proofs.YtacoabmmhddbkaaDoor
end

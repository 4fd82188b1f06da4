/- Of a column that is not null and a value that is not, just one of below, like and above is true, and each other term is the contrary of one of these, whatever the term and the row; the table of asks starts as the text lays it. -/
import Derived.Test.YtacoabmmhddbkaaDoorB3
import Derived.SizedLaws
import Derived.JoinedCond
import Derived.Deep.CondSized
section
namespace Go.Proofs.YtacoabmmhddbkaaDoor
open Go.RowKit Go.Hay
set_option linter.unusedVariables false
set_option linter.unusedSimpArgs false

/-- What a term says of a value, neither null. -/
theorem term_is (t : Tm) (l : List Val) (i : Nat) (hi : i < l.length) (e : t.co = i) (hv : l[i].k ≠ 0) (hx : t.x.k ≠ 0) (op : Int) : termT ⟨t.co, op, t.x⟩ l = if op = 6 then false else if op = 7 then true else teC op (cmpV l[i] t.x) := by
  rw [termT_at ⟨t.co, op, t.x⟩ l i hi e]
  unfold termC
  simp only
  by_cases h6 : op = 6
  · subst h6; simp [hv]
  by_cases h7 : op = 7
  · subst h7; simp [hv]
  rw [if_neg h6, if_neg h7, if_neg h6, if_neg h7, if_neg (by simp [hv, hx])]
set_option maxHeartbeats 4000000 in
set_option maxRecDepth 100000 in
theorem cIs (p q : Nat) (op : Int) (t : Tm) (a : Option Addr) (cap : Nat) (l : List Val) (w : World) (hT : Asks w) (hp : Bn w p [.int .i64 t.co, .int .i64 t.op, .int .i64 t.x.k, .bool t.x.b, .int .i64 t.x.n, .string t.x.t]) (hq : Bn w q [.slice a l.length cap]) (hs : VE.See w a l) (hl : l.length ≤ 9223372036854775807) :
    Calls Tryd.prog 16 #[.int .i64 op, .pointer (some ⟨p, 0, none⟩), .pointer (some ⟨q, 0, none⟩)] w fun e w' => e = .returned (.bool (termT ⟨t.co, op, t.x⟩ l)) ∧ Kp [] w w' := by
  have aT := hid (xTerm ⟨t.co, op, t.x⟩ a cap l w hT hs hl)
  have ta0 := hp.get 0 _ rfl; have ta1 := hp.get 1 _ rfl; have ta2 := hp.get 2 _ rfl; have ta3 := hp.get 3 _ rfl; have ta4 := hp.get 4 _ rfl; have ta5 := hp.get 5 _ rfl
  have tb0 := hq.get 0 _ rfl
  have zp : p < w.heap.size := hp.lt (by simp)
  have zq : q < w.heap.size := hq.lt (by simp)
  generalize termT ⟨t.co, op, t.x⟩ l = Z at *
  clear hp hq hs hT
  obtain ⟨co, op', ⟨xk, xb, xn, xt⟩⟩ := t
  simp only [Tm.v] at *
  go_enter Tryd.func16, Tryd.ntmps16
  go_wp2_with fail
  refine aT.out.mono ?_
  rintro e w1 ⟨rfl, k1⟩
  clear aT
  go_wp2_with fail
  go_ret
  exact ⟨rfl, k1⟩
set_option maxHeartbeats 8000000 in
set_option maxRecDepth 100000 in
theorem contraryWalk (t : Tm) (a : Option Addr) (cap : Nat) (l : List Val) (w : World) (hT : Asks w) (hs : VE.See w a l) (hl : l.length ≤ 9223372036854775807) : Calls Tryd.prog 5 #[t.v, .slice a l.length cap] w fun e w' => e = .returned (.bool true) ∧ Below w.heap.size w w' := by
  obtain ⟨WA, eWA⟩ : ∃ Y, w.alloc (.cells #[.int .i64 t.co, .int .i64 t.op, .int .i64 t.x.k, .bool t.x.b, .int .i64 t.x.n, .string t.x.t] 32) = Y := ⟨_, rfl⟩
  have kWA : Kp [] w WA := by rw [← eWA]; exact (Kp.refl _ _).alloc _
  have zWA : WA.heap.size = w.heap.size + 1 := by rw [← eWA]; simp
  have bWA : Bn WA w.heap.size [.int .i64 t.co, .int .i64 t.op, .int .i64 t.x.k, .bool t.x.b, .int .i64 t.x.n, .string t.x.t] := by rw [← eWA]; exact Bn.new w [.int .i64 t.co, .int .i64 t.op, .int .i64 t.x.k, .bool t.x.b, .int .i64 t.x.n, .string t.x.t] 32
  obtain ⟨WB, eWB⟩ : ∃ Y, WA.alloc (.cells #[.slice a l.length cap] 28) = Y := ⟨_, rfl⟩
  have kWB : Kp [] WA WB := by rw [← eWB]; exact (Kp.refl _ _).alloc _
  have zWB : WB.heap.size = WA.heap.size + 1 := by rw [← eWB]; simp
  have bWB : Bn WB WA.heap.size [.slice a l.length cap] := by rw [← eWB]; exact Bn.new WA [.slice a l.length cap] 28
  have bT := bWA.kept kWB
  have ta0 := bT.get 0 _ rfl; have ta1 := bT.get 1 _ rfl; have ta2 := bT.get 2 _ rfl; have ta3 := bT.get 3 _ rfl; have ta4 := bT.get 4 _ rfl; have ta5 := bT.get 5 _ rfl
  have tb0 := bWB.get 0 _ rfl
  have KW := hid (kWA.trans kWB (by simp))
  have HT := hid (hT.kept KW.out (by simp))
  have HS := hid (hs.keptNew KW.out)
  have aV := hid (fun W' (k : Kp [] WB W') => cAliveX W' (HT.out.kept k (by simp)))
  have aI := hid (fun W' (k : Kp [] WB W') (op : Int) => cIs w.heap.size WA.heap.size op t a cap l W' (HT.out.kept k (by simp)) (bT.kept k) (bWB.kept k) (HS.out.keptNew k) hl)
  have zC : WA.heap.size < WB.heap.size := by omega
  have zD : w.heap.size < WB.heap.size := by omega
  have zE : w.heap.size < WA.heap.size := by omega
  unfold Tm.v
  clear kWA kWB zWA zWB bWA bWB bT hT hs
  by_cases h1 : t.co < 0
  · have d1 : decide (t.co < 0) = true := by simpa using h1
    clear h1 aI
    go_enter Tryd.func5, Tryd.ntmps5
    go_wp2_with fail
    refine (aV.out _ (Kp.refl _ _)).mono ?_
    rintro e w1 ⟨rfl, k1⟩
    go_wp2_with fail
    go_ret
    exact ⟨rfl, (KW.out.trans k1 (by simp)).below⟩
  have d1 : decide (t.co < 0) = false := by simpa using h1
  by_cases h2 : (l.length : Int) ≤ t.co
  · have d2 : decide ((l.length : Int) ≤ t.co) = true := by simpa using h2
    clear h1 h2 aI
    go_enter Tryd.func5, Tryd.ntmps5
    go_wp2_with fail
    refine (aV.out _ (Kp.refl _ _)).mono ?_
    rintro e w1 ⟨rfl, k1⟩
    go_wp2_with fail
    go_ret
    exact ⟨rfl, (KW.out.trans k1 (by simp)).below⟩
  have d2 : decide ((l.length : Int) ≤ t.co) = false := by simpa using h2
  obtain ⟨i, hi⟩ := Int.eq_ofNat_of_zero_le (show 0 ≤ t.co by omega)
  have hil : i < l.length := by omega
  have hx : l[i]? = some l[i] := by simp [hil]
  obtain ⟨g, o, rfl, hc⟩ := HS.out.at hx
  have v0 := hc 0 _ rfl
  simp only [show VE.n = 4 from rfl, Nat.add_zero] at v0
  have i1 : (0 : Int) ≤ (i : Int) := by omega
  have i2 : (i : Int) < (l.length : Int) := by omega
  have d2n : decide (l.length ≤ i) = false := by simp; omega
  have hti := hid (term_is t l i hil hi)
  clear h1 h2 hc hx
  generalize l[i] = v at *
  by_cases h3 : v.k = 0
  · rw [h3] at v0
    clear h3 aI hti
    obtain ⟨co, op, ⟨xk, xb, xn, xt⟩⟩ := t
    simp only at *
    subst hi
    go_enter Tryd.func5, Tryd.ntmps5
    go_wp2_with fail
    refine (aV.out _ (Kp.refl _ _)).mono ?_
    rintro e w1 ⟨rfl, k1⟩
    go_wp2_with fail
    go_ret
    exact ⟨rfl, (KW.out.trans k1 (by simp)).below⟩
  have d3 : (v.k == 0) = false := by simpa using h3
  by_cases h4 : t.x.k = 0
  · clear aI hti
    obtain ⟨co, op, ⟨xk, xb, xn, xt⟩⟩ := t
    simp only at *
    subst hi h4
    clear h3
    go_enter Tryd.func5, Tryd.ntmps5
    go_wp2_with fail
    refine (aV.out _ (Kp.refl _ _)).mono ?_
    rintro e w1 ⟨rfl, k1⟩
    go_wp2_with fail
    go_ret
    exact ⟨rfl, (KW.out.trans k1 (by simp)).below⟩
  have d4 : (t.x.k == 0) = false := by simpa using h4
  have r1 := cmp_range v t.x
  have hti2 := hid (hti.out h3 h4)
  generalize cmpV v t.x = A at *
  have q0 := hid (fun W' (k : Kp [] WB W') => aI.out W' k 0)
  have q1 := hid (fun W' (k : Kp [] WB W') => aI.out W' k 1)
  have q2 := hid (fun W' (k : Kp [] WB W') => aI.out W' k 2)
  have q3 := hid (fun W' (k : Kp [] WB W') => aI.out W' k 3)
  have q4 := hid (fun W' (k : Kp [] WB W') => aI.out W' k 4)
  have q5 := hid (fun W' (k : Kp [] WB W') => aI.out W' k 5)
  have q6 := hid (fun W' (k : Kp [] WB W') => aI.out W' k 6)
  have q7 := hid (fun W' (k : Kp [] WB W') => aI.out W' k 7)
  rw [hti2.out] at q0 q1 q2 q3 q4 q5 q6 q7
  obtain ⟨WC, eWC⟩ : ∃ Y, WB.alloc (.cells #[.int .i64 2, .int .i64 0, .int .i64 4] 3) = Y := ⟨_, rfl⟩
  have kWC : Kp [] WB WC := by rw [← eWC]; exact (Kp.refl _ _).alloc _
  have zWC : WC.heap.size = WB.heap.size + 1 := by rw [← eWC]; simp
  have bWC : Bn WC WB.heap.size [.int .i64 2, .int .i64 0, .int .i64 4] := by rw [← eWC]; exact Bn.new WB [.int .i64 2, .int .i64 0, .int .i64 4] 3
  have ic0 := bWC.get 0 _ rfl; have ic1 := bWC.get 1 _ rfl; have ic2 := bWC.get 2 _ rfl
  have KC := hid kWC
  have BC := hid bWC
  clear hti hti2 aI h3 h4 kWC bWC zWC
  obtain ⟨co, op, ⟨xk, xb, xn, xt⟩⟩ := t
  obtain ⟨vk, vb, vn, vt⟩ := v
  simp only at *
  subst hi
  rcases r1 with r1 | r1 | r1
  all_goals subst r1
  all_goals simp [teC] at q0 q1 q2 q3 q4 q5 q6 q7
  all_goals go_enter Tryd.func5, Tryd.ntmps5
  all_goals go_wp2_with fail
  · go_loopw [38, 6] (fun iv nv wr => ∃ j : Nat, j ≤ 3 ∧ iv = .int .i64 j ∧ nv = .int .i64 (if j ≤ 0 then 0 else 1) ∧ Kp [] WC wr) (fun iv _ _ => 3 - (intOf iv).toNat)
    case atStart => exact ⟨0, by omega, rfl, rfl, Kp.refl _ _⟩
    case round =>
      obtain ⟨j, hj, rfl, rfl, kr⟩ := hrel
      have KR := hid (KC.out.trans kr (by simp))
      have BR := hid (BC.out.kept kr)
      have KS := hid kr
      clear kr ic0 ic1 ic2
      obtain rfl | rfl | rfl | rfl : j = 0 ∨ j = 1 ∨ j = 2 ∨ j = 3 := by omega
      · have x0 := BR.out.get 0 _ rfl
        have zx : WB.heap.size < wr.heap.size := BR.out.lt (by simp)
        simp only [Nat.reduceLeDiff, if_true, if_false, Nat.le_refl, ↓reduceIte, Nat.not_succ_le_zero, Nat.zero_le]
        go_wp2_with fail
        refine (q2.out _ KR.out).mono ?_
        rintro e w1 ⟨rfl, k1⟩
        have K1 := hid (KS.out.trans k1 (by simp))
        clear k1 x0 zx
        go_wp2_with fail
        exact ⟨⟨1, by omega, by go_num, by simp, K1.out⟩, by simp [intOf]⟩
      · have x0 := BR.out.get 1 _ rfl
        have zx : WB.heap.size < wr.heap.size := BR.out.lt (by simp)
        simp only [Nat.reduceLeDiff, if_true, if_false, Nat.le_refl, ↓reduceIte, Nat.not_succ_le_zero, Nat.zero_le]
        go_wp2_with fail
        refine (q0.out _ KR.out).mono ?_
        rintro e w1 ⟨rfl, k1⟩
        have K1 := hid (KS.out.trans k1 (by simp))
        clear k1 x0 zx
        go_wp2_with fail
        exact ⟨⟨2, by omega, by go_num, by simp, K1.out⟩, by simp [intOf]⟩
      · have x0 := BR.out.get 2 _ rfl
        have zx : WB.heap.size < wr.heap.size := BR.out.lt (by simp)
        simp only [Nat.reduceLeDiff, if_true, if_false, Nat.le_refl, ↓reduceIte, Nat.not_succ_le_zero, Nat.zero_le]
        go_wp2_with fail
        refine (q4.out _ KR.out).mono ?_
        rintro e w1 ⟨rfl, k1⟩
        have K1 := hid (KS.out.trans k1 (by simp))
        clear k1 x0 zx
        go_wp2_with fail
        exact ⟨⟨3, by omega, by go_num, by simp, K1.out⟩, by simp [intOf]⟩
      · simp only [Nat.reduceLeDiff, if_true, if_false, Nat.le_refl, ↓reduceIte, Nat.not_succ_le_zero, Nat.zero_le]
        have K0 := KR
        clear KS BR
        go_wp2_with fail
        refine (aV.out _ K0.out).mono ?_
        rintro e w1 ⟨rfl, k1⟩
        have K1 := hid (K0.out.trans k1 (by simp))
        clear k1
        go_wp2_with fail
        refine (q1.out _ K1.out).mono ?_
        rintro e w2 ⟨rfl, k2⟩
        have K2 := hid (K1.out.trans k2 (by simp))
        clear k2
        go_wp2_with fail
        refine (q0.out _ K2.out).mono ?_
        rintro e w3 ⟨rfl, k3⟩
        have K3 := hid (K2.out.trans k3 (by simp))
        clear k3
        go_wp2_with fail
        refine (q3.out _ K3.out).mono ?_
        rintro e w4 ⟨rfl, k4⟩
        have K4 := hid (K3.out.trans k4 (by simp))
        clear k4
        go_wp2_with fail
        refine (q4.out _ K4.out).mono ?_
        rintro e w5 ⟨rfl, k5⟩
        have K5 := hid (K4.out.trans k5 (by simp))
        clear k5
        go_wp2_with fail
        refine (q5.out _ K5.out).mono ?_
        rintro e w6 ⟨rfl, k6⟩
        have K6 := hid (K5.out.trans k6 (by simp))
        clear k6
        go_wp2_with fail
        refine (q2.out _ K6.out).mono ?_
        rintro e w7 ⟨rfl, k7⟩
        have K7 := hid (K6.out.trans k7 (by simp))
        clear k7
        go_wp2_with fail
        refine (q7.out _ K7.out).mono ?_
        rintro e w8 ⟨rfl, k8⟩
        have K8 := hid (K7.out.trans k8 (by simp))
        clear k8
        go_wp2_with fail
        refine (q6.out _ K8.out).mono ?_
        rintro e w9 ⟨rfl, k9⟩
        have K9 := hid (K8.out.trans k9 (by simp))
        clear k9
        go_wp2_with fail
        go_ret
        exact ⟨rfl, (KW.out.trans K9.out (by simp)).below⟩
  · go_loopw [38, 6] (fun iv nv wr => ∃ j : Nat, j ≤ 3 ∧ iv = .int .i64 j ∧ nv = .int .i64 (if j ≤ 1 then 0 else 1) ∧ Kp [] WC wr) (fun iv _ _ => 3 - (intOf iv).toNat)
    case atStart => exact ⟨0, by omega, rfl, rfl, Kp.refl _ _⟩
    case round =>
      obtain ⟨j, hj, rfl, rfl, kr⟩ := hrel
      have KR := hid (KC.out.trans kr (by simp))
      have BR := hid (BC.out.kept kr)
      have KS := hid kr
      clear kr ic0 ic1 ic2
      obtain rfl | rfl | rfl | rfl : j = 0 ∨ j = 1 ∨ j = 2 ∨ j = 3 := by omega
      · have x0 := BR.out.get 0 _ rfl
        have zx : WB.heap.size < wr.heap.size := BR.out.lt (by simp)
        simp only [Nat.reduceLeDiff, if_true, if_false, Nat.le_refl, ↓reduceIte, Nat.not_succ_le_zero, Nat.zero_le]
        go_wp2_with fail
        refine (q2.out _ KR.out).mono ?_
        rintro e w1 ⟨rfl, k1⟩
        have K1 := hid (KS.out.trans k1 (by simp))
        clear k1 x0 zx
        go_wp2_with fail
        exact ⟨⟨1, by omega, by go_num, by simp, K1.out⟩, by simp [intOf]⟩
      · have x0 := BR.out.get 1 _ rfl
        have zx : WB.heap.size < wr.heap.size := BR.out.lt (by simp)
        simp only [Nat.reduceLeDiff, if_true, if_false, Nat.le_refl, ↓reduceIte, Nat.not_succ_le_zero, Nat.zero_le]
        go_wp2_with fail
        refine (q0.out _ KR.out).mono ?_
        rintro e w1 ⟨rfl, k1⟩
        have K1 := hid (KS.out.trans k1 (by simp))
        clear k1 x0 zx
        go_wp2_with fail
        exact ⟨⟨2, by omega, by go_num, by simp, K1.out⟩, by simp [intOf]⟩
      · have x0 := BR.out.get 2 _ rfl
        have zx : WB.heap.size < wr.heap.size := BR.out.lt (by simp)
        simp only [Nat.reduceLeDiff, if_true, if_false, Nat.le_refl, ↓reduceIte, Nat.not_succ_le_zero, Nat.zero_le]
        go_wp2_with fail
        refine (q4.out _ KR.out).mono ?_
        rintro e w1 ⟨rfl, k1⟩
        have K1 := hid (KS.out.trans k1 (by simp))
        clear k1 x0 zx
        go_wp2_with fail
        exact ⟨⟨3, by omega, by go_num, by simp, K1.out⟩, by simp [intOf]⟩
      · simp only [Nat.reduceLeDiff, if_true, if_false, Nat.le_refl, ↓reduceIte, Nat.not_succ_le_zero, Nat.zero_le]
        have K0 := KR
        clear KS BR
        go_wp2_with fail
        refine (aV.out _ K0.out).mono ?_
        rintro e w1 ⟨rfl, k1⟩
        have K1 := hid (K0.out.trans k1 (by simp))
        clear k1
        go_wp2_with fail
        refine (q1.out _ K1.out).mono ?_
        rintro e w2 ⟨rfl, k2⟩
        have K2 := hid (K1.out.trans k2 (by simp))
        clear k2
        go_wp2_with fail
        refine (q0.out _ K2.out).mono ?_
        rintro e w3 ⟨rfl, k3⟩
        have K3 := hid (K2.out.trans k3 (by simp))
        clear k3
        go_wp2_with fail
        refine (q3.out _ K3.out).mono ?_
        rintro e w4 ⟨rfl, k4⟩
        have K4 := hid (K3.out.trans k4 (by simp))
        clear k4
        go_wp2_with fail
        refine (q4.out _ K4.out).mono ?_
        rintro e w5 ⟨rfl, k5⟩
        have K5 := hid (K4.out.trans k5 (by simp))
        clear k5
        go_wp2_with fail
        refine (q5.out _ K5.out).mono ?_
        rintro e w6 ⟨rfl, k6⟩
        have K6 := hid (K5.out.trans k6 (by simp))
        clear k6
        go_wp2_with fail
        refine (q2.out _ K6.out).mono ?_
        rintro e w7 ⟨rfl, k7⟩
        have K7 := hid (K6.out.trans k7 (by simp))
        clear k7
        go_wp2_with fail
        refine (q7.out _ K7.out).mono ?_
        rintro e w8 ⟨rfl, k8⟩
        have K8 := hid (K7.out.trans k8 (by simp))
        clear k8
        go_wp2_with fail
        refine (q6.out _ K8.out).mono ?_
        rintro e w9 ⟨rfl, k9⟩
        have K9 := hid (K8.out.trans k9 (by simp))
        clear k9
        go_wp2_with fail
        go_ret
        exact ⟨rfl, (KW.out.trans K9.out (by simp)).below⟩
  · go_loopw [38, 6] (fun iv nv wr => ∃ j : Nat, j ≤ 3 ∧ iv = .int .i64 j ∧ nv = .int .i64 (if j ≤ 2 then 0 else 1) ∧ Kp [] WC wr) (fun iv _ _ => 3 - (intOf iv).toNat)
    case atStart => exact ⟨0, by omega, rfl, rfl, Kp.refl _ _⟩
    case round =>
      obtain ⟨j, hj, rfl, rfl, kr⟩ := hrel
      have KR := hid (KC.out.trans kr (by simp))
      have BR := hid (BC.out.kept kr)
      have KS := hid kr
      clear kr ic0 ic1 ic2
      obtain rfl | rfl | rfl | rfl : j = 0 ∨ j = 1 ∨ j = 2 ∨ j = 3 := by omega
      · have x0 := BR.out.get 0 _ rfl
        have zx : WB.heap.size < wr.heap.size := BR.out.lt (by simp)
        simp only [Nat.reduceLeDiff, if_true, if_false, Nat.le_refl, ↓reduceIte, Nat.not_succ_le_zero, Nat.zero_le]
        go_wp2_with fail
        refine (q2.out _ KR.out).mono ?_
        rintro e w1 ⟨rfl, k1⟩
        have K1 := hid (KS.out.trans k1 (by simp))
        clear k1 x0 zx
        go_wp2_with fail
        exact ⟨⟨1, by omega, by go_num, by simp, K1.out⟩, by simp [intOf]⟩
      · have x0 := BR.out.get 1 _ rfl
        have zx : WB.heap.size < wr.heap.size := BR.out.lt (by simp)
        simp only [Nat.reduceLeDiff, if_true, if_false, Nat.le_refl, ↓reduceIte, Nat.not_succ_le_zero, Nat.zero_le]
        go_wp2_with fail
        refine (q0.out _ KR.out).mono ?_
        rintro e w1 ⟨rfl, k1⟩
        have K1 := hid (KS.out.trans k1 (by simp))
        clear k1 x0 zx
        go_wp2_with fail
        exact ⟨⟨2, by omega, by go_num, by simp, K1.out⟩, by simp [intOf]⟩
      · have x0 := BR.out.get 2 _ rfl
        have zx : WB.heap.size < wr.heap.size := BR.out.lt (by simp)
        simp only [Nat.reduceLeDiff, if_true, if_false, Nat.le_refl, ↓reduceIte, Nat.not_succ_le_zero, Nat.zero_le]
        go_wp2_with fail
        refine (q4.out _ KR.out).mono ?_
        rintro e w1 ⟨rfl, k1⟩
        have K1 := hid (KS.out.trans k1 (by simp))
        clear k1 x0 zx
        go_wp2_with fail
        exact ⟨⟨3, by omega, by go_num, by simp, K1.out⟩, by simp [intOf]⟩
      · simp only [Nat.reduceLeDiff, if_true, if_false, Nat.le_refl, ↓reduceIte, Nat.not_succ_le_zero, Nat.zero_le]
        have K0 := KR
        clear KS BR
        go_wp2_with fail
        refine (aV.out _ K0.out).mono ?_
        rintro e w1 ⟨rfl, k1⟩
        have K1 := hid (K0.out.trans k1 (by simp))
        clear k1
        go_wp2_with fail
        refine (q1.out _ K1.out).mono ?_
        rintro e w2 ⟨rfl, k2⟩
        have K2 := hid (K1.out.trans k2 (by simp))
        clear k2
        go_wp2_with fail
        refine (q0.out _ K2.out).mono ?_
        rintro e w3 ⟨rfl, k3⟩
        have K3 := hid (K2.out.trans k3 (by simp))
        clear k3
        go_wp2_with fail
        refine (q3.out _ K3.out).mono ?_
        rintro e w4 ⟨rfl, k4⟩
        have K4 := hid (K3.out.trans k4 (by simp))
        clear k4
        go_wp2_with fail
        refine (q4.out _ K4.out).mono ?_
        rintro e w5 ⟨rfl, k5⟩
        have K5 := hid (K4.out.trans k5 (by simp))
        clear k5
        go_wp2_with fail
        refine (q5.out _ K5.out).mono ?_
        rintro e w6 ⟨rfl, k6⟩
        have K6 := hid (K5.out.trans k6 (by simp))
        clear k6
        go_wp2_with fail
        refine (q2.out _ K6.out).mono ?_
        rintro e w7 ⟨rfl, k7⟩
        have K7 := hid (K6.out.trans k7 (by simp))
        clear k7
        go_wp2_with fail
        refine (q7.out _ K7.out).mono ?_
        rintro e w8 ⟨rfl, k8⟩
        have K8 := hid (K7.out.trans k8 (by simp))
        clear k8
        go_wp2_with fail
        refine (q6.out _ K8.out).mono ?_
        rintro e w9 ⟨rfl, k9⟩
        have K9 := hid (K8.out.trans k9 (by simp))
        clear k9
        go_wp2_with fail
        go_ret
        exact ⟨rfl, (KW.out.trans K9.out (by simp)).below⟩
end Go.Proofs.YtacoabmmhddbkaaDoor
end

section
namespace Go.Proofs.YtacoabmmhddbkaaDoor
open Go.ChangeShapes Go.WideShapes Go.ChangeAt Go.RowKit Go.Hay
set_option linter.unusedVariables false

set_option maxRecDepth 100000 in
theorem exprContraryContract (H : Type) (enc : TypeId × Value → H) (W : World) (base : Nat) (args : Array Value) (ds gs : List (DataW H)) (before : List MemPlace)
    (hval : ∀ (j : Nat) t v, Tryd.f5.params[j]? = some t → args[j]? = some v → Value.okWide Tryd.prog W .any base t v)
    (hW : DataW.Whole enc Tryd.prog Tryd.f5.params.toList Rows.exprContrarySpec.vars false W args.toList ds gs before)
    (hsz : (DataW.weightsEach Tryd.prog (Tryd.f5.params.toList ++ (OpenSpec.ofChange Rows.exprContrarySpec).bare.plain.varTypes Tryd.prog) (ds ++ gs)).all (· ≤ reachBytes) = true)
    (hL : laidMetH Tryd.prog Rows.exprContraryRow.laid W) :
    Calls Tryd.prog 5 args W fun e W' => ∃ v, e = .returned v ∧ Rows.exprContrarySpec.post enc Tryd.prog Tryd.f5 false true false false W args v W' := by
  have hW' := hW
  obtain ⟨p, q, hA0, hV, rfl, hfz, hnd⟩ := hW
  have hA : DataW.TrodAll enc Tryd.prog W 0 (fun _ => true) true Tryd.f5.params.toList args.toList ds p := hA0
  rw [Tryd.params5] at hA hval hsz
  obtain ⟨v0, vs0, d0, ds0, p0, q0, hargs, rfl, rfl, h0, r0⟩ := trodAll_cons hA
  obtain ⟨v1, vs1, d1, ds1, p1, q1, rfl, rfl, rfl, h1, r1⟩ := trodAll_cons r0
  obtain ⟨rfl, rfl, rfl⟩ := trodAll_nil r1
  obtain rfl : args = #[v0, v1] := by cases args; simp_all
  obtain ⟨rfl, rfl⟩ := trodVars_none hV
  have k0 := h0
  have lt0 : ∀ x ∈ p0, x.block < W.heap.size := by obtain ⟨m, hm⟩ := k0; exact DataW.trod_lt m _ _ _ hm
  obtain ⟨x0, rfl⟩ := openTermX (hval 0 32 v0 rfl rfl) h0
  obtain ⟨a1, len1, cap1, rfl⟩ := okWide_slice Tryd.underlying28 (hval 1 28 v1 rfl rfl)
  have k1 := h1
  have lt1 : ∀ x ∈ p1, x.block < W.heap.size := by obtain ⟨m, hm⟩ := k1; exact DataW.trod_lt m _ _ _ hm
  obtain ⟨l1, rfl, hs1, hok1, hl1, hm1, hn1, hfit1, hbk1, hcp1⟩ := openXv h1
  obtain ⟨hc1, hq1⟩ := hfit1 (List.all_eq_true.2 fun x hx => List.all_eq_true.1 hsz x (by simp [DataW.weightsEach]; first | exact .inl hx | exact .inr hx | exact .inr (.inl hx) | exact .inr (.inr hx) | exact hx))
  clear hA0
  refine (contraryWalk x0 a1 cap1 l1 W (table hL) hs1 (by omega)).mono fun e W' ⟨he, bel⟩ => ?_
  subst he
  exact ⟨_, rfl, _, _, _, [], _, [], hW', trodAll_mk1 (shut_bool Tryd.underlying4 _), (trodAll_cons_mk (Below.trod Tryd.laidOut (by kernel_rfl) (of_decide_eq_true (by kernel_rfl)) k0 bel lt0) (trodAll_cons_mk (Below.trod Tryd.laidOut (by kernel_rfl) (of_decide_eq_true (by kernel_rfl)) k1 bel lt1) trodAll_mk0)), rfl, bel.frame _, fun h => by cases h⟩

set_option maxRecDepth 100000 in
theorem exprContraryLifted (os : Os) (started : os.Started) (H : Type) (enc : TypeId × Value → H) (F : Stop.Interp) :
    ReturnsInHanded {} Tryd.checked os 5 .any ((OpenSpec.ofChange Rows.exprContrarySpec).preRow enc Tryd.prog Tryd.f5 Rows.exprContraryRow.domain false Rows.exprContraryRow.laid) (((OpenSpec.ofChange Rows.exprContrarySpec).at F).post enc Tryd.prog Tryd.f5 false true false false) := by
  refine returnsInHanded_of_row (C := Tryd.checked) (s := OpenSpec.ofChange Rows.exprContrarySpec) Tryd.own started (by kernel_rfl) Tryd.func5
    (witness_row_at (enc := enc) (C := Tryd.checked) false ({ World.holding Tryd.prog os ⟨#[], #[], []⟩ with heap := (World.holding Tryd.prog os ⟨#[], #[], []⟩).heap.modify 0 fun
      | .cells _ t frozen => .cells tabCells t frozen
      | o => o }) #[.agg #[.int .i64 0, .int .i64 0, .int .i64 0, .bool false, .int .i64 0, .string ⟨#[]⟩], .slice none 0 0] rfl (by kernel_rfl) (by kernel_rfl) (by kernel_rfl)
      (OpenSpec.preRow_of_cond (x := ([.agg [.lit (.int .i64 0), .lit (.int .i64 0), .agg [.lit (.int .i64 0), .lit (.bool false), .lit (.int .i64 0), .lit (.string [])]], .nil], [], [])) 8 (by kernel_rfl) (by kernel_rfl) (fun k hk => by cases hk) (by kernel_rfl) (laidMet_of_run' 8 (by kernel_rfl) (by kernel_rfl)))) ?_
  intro W base args ds gs before hval hW _ hcond hsz hL _ _
  exact exprContraryContract H enc W base args ds gs before hval hW hsz hL

theorem exprContrarySaid : Rows.ExprContrarySaid :=
  OpenClaim.holds_of_cond 5 Tryd.f5 rfl rfl rfl rfl rfl rfl rfl ⟨rfl, rfl, rfl, rfl, rfl⟩ rfl rfl rfl rfl rfl (by kernel_rfl) Tryd.func5 (by kernel_rfl)
    (of_decide_eq_true (by kernel_rfl)) (by unfold Func.isWrapper; first | (rw [if_pos (by decide +kernel)]; kernel_rfl) | (rw [if_neg (by decide +kernel)]; exact ⟨rfl, rfl⟩))
    (fun os started H enc _ F => by rw [OpenClaim.pre_eq_preRow]; exact exprContraryLifted os started H enc F)

theorem exprContraryPlain (f : FuncId) (fn : Func) (hf : Tryd.pinned.checked.prog.funcNamed "hayloft/hayloftlaw14.ExprContrary" = some f) (hfn : Tryd.pinned.checked.prog.funcs[f]? = some fn) :
    false = Tryd.pinned.checked.prog.looks [] ∧ ∀ (j : Nat) t, fn.params[j]? = some t → Tryd.pinned.checked.prog.wantsStandIn t = false := by
  obtain rfl : f = 5 := Option.some.inj ((show Tryd.prog.funcNamed "hayloft/hayloftlaw14.ExprContrary" = some 5 by kernel_rfl).symm.trans hf) |>.symm
  obtain rfl : fn = Tryd.f5 := (Option.some.inj (Tryd.func5.symm.trans hfn)).symm
  refine ⟨by kernel_rfl, fun j t ht => ?_⟩
  rw [Tryd.params5] at ht
  have hm := Array.mem_of_getElem? ht
  have h2 : t = 32 ∨ t = 28 := by first | (simpa using hm) | (rcases (show t = 32 ∨ t = 28 from by simpa using hm) with h | h <;> simp [h])
  rcases h2 with rfl | rfl
  · exact (show Tryd.prog.wantsStandIn 32 = false by kernel_rfl)
  · exact (show Tryd.prog.wantsStandIn 28 = false by kernel_rfl)

theorem ExprContrary_holds : Rows.ExprContraryCardSaid :=
  Claim7.holds_tied_plain_at .later [] _ _ _ _ exprContrarySaid (fun _ h => by cases h) (by kernel_rfl) (fun _ h => by cases h) exprContrary_row_tie rfl ⟨rfl, rfl⟩ (by kernel_rfl) rfl exprContraryPlain (by kernel_rfl)
#print axioms ExprContrary_holds
end Go.Proofs.YtacoabmmhddbkaaDoor
end

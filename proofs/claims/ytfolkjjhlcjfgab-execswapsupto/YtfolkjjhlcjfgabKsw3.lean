/- ExecSwaps (second form): a join has as many rows as the join the other way round, and each of its rows is one of left and one of right, alike where they are joined, where what is given is of bulk at most 1048576. -/
import Derived.Test.YtfolkjjhlcjfgabKsw2
import Derived.Below
import Derived.Test.YtfolkjjhlcjfgabRows
import Derived.Test.YtfolkjjhlcjfgabB1
import Derived.ProofKit
import Derived.OpenShut
import Derived.ShutString
import Derived.ChangeOld
import Derived.Deep.Slices
import Derived.Test.YtfolkjjhlcjfgabB2
import Derived.Test.YtfolkjjhlcjfgabB5
import Derived.SizedLaws
import Derived.JoinedCond
import Derived.Deep.CondSized
section
namespace Go.Proofs.Ytfolkjjhlcjfgab
open Go.RowKit Go.Hay
attribute [local go_sem] Oper.semAt_some
set_option linter.unusedVariables false
set_option linter.unusedSimpArgs false

theorem prJ_swap (lo ro : Int) (x r : List Val) : prJ lo ro x r = prJ ro lo r x := by
  unfold prJ
  have hs : (cmpV (vAt r ro) (vAt x lo) == 0) = (cmpV (vAt x lo) (vAt r ro) == 0) := by
    rw [cmp_neg (vAt x lo) (vAt r ro)]
    by_cases h : cmpV (vAt x lo) (vAt r ro) = 0
    · simp [h]
    · have : ¬ -cmpV (vAt x lo) (vAt r ro) = 0 := by omega
      rw [beq_eq_false_iff_ne.2 this, beq_eq_false_iff_ne.2 h]
  rw [hs]
  cases (vAt x lo).k != 0 <;> cases (vAt r ro).k != 0 <;> simp
theorem refJ_app (A B RR : List (List Val)) (lo ro : Int) : refJ (A ++ B) RR lo ro = refJ A RR lo ro ++ refJ B RR lo ro := by
  rw [refJ_eq, refJ_eq, refJ_eq, List.flatMap_append]
theorem refJ_cons (x : List Val) (B RR : List (List Val)) (lo ro : Int) : refJ (x :: B) RR lo ro = (RR.filter (prJ lo ro x)).map (x ++ ·) ++ refJ B RR lo ro := by
  rw [refJ_eq, refJ_eq, List.flatMap_cons]
theorem refJ_nilR (RL : List (List Val)) (lo ro : Int) : refJ RL [] lo ro = [] := by
  induction RL with
  | nil => rfl
  | cons x RL ih => rw [refJ_cons, ih]; rfl
theorem refJ_snocR (RL RR : List (List Val)) (r : List Val) (lo ro : Int) : (refJ RL (r :: RR) lo ro).length = (RL.filter (prJ ro lo r)).length + (refJ RL RR lo ro).length := by
  induction RL with
  | nil => rfl
  | cons x RL ih =>
    rw [refJ_cons, refJ_cons, List.length_append, List.length_append, ih, List.length_map, List.length_map, List.filter_cons, List.filter_cons, prJ_swap lo ro x r]
    cases prJ ro lo r x <;> simp <;> omega
/-- As many the other way round. -/
theorem refJ_swap (RL : List (List Val)) (lo ro : Int) : ∀ RR : List (List Val), (refJ RL RR lo ro).length = (refJ RR RL ro lo).length
  | [] => by rw [refJ_nilR]; rfl
  | r :: RR => by rw [refJ_snocR, refJ_cons, List.length_append, List.length_map, refJ_swap RL lo ro RR]
/-- The row that is joined of these two. -/
theorem refJ_at {L M : List Vs} {lo ro : Int} {j k : Nat} (hj : j < L.length) (hk : k < M.length) (hp : prJ lo ro L[j].l M[k].l = true) : (refJ (L.map (·.l)) (M.map (·.l)) lo ro)[(refJ ((L.take j).map (·.l)) (M.map (·.l)) lo ro).length + (((M.take k).map (·.l)).filter (prJ lo ro L[j].l)).length]? = some (L[j].l ++ M[k].l) := by
  have eL : L = L.take j ++ L[j] :: L.drop (j + 1) := by rw [← List.drop_eq_getElem_cons hj, List.take_append_drop]
  have eM : M = M.take k ++ M[k] :: M.drop (k + 1) := by rw [← List.drop_eq_getElem_cons hk, List.take_append_drop]
  have e1 : refJ (L.map (·.l)) (M.map (·.l)) lo ro = refJ ((L.take j).map (·.l)) (M.map (·.l)) lo ro ++ (((M.map (·.l)).filter (prJ lo ro L[j].l)).map (L[j].l ++ ·) ++ refJ ((L.drop (j + 1)).map (·.l)) (M.map (·.l)) lo ro) := by
    conv => lhs; rw [eL, List.map_append, List.map_cons, refJ_app, refJ_cons]
  have e2 : (M.map (·.l)).filter (prJ lo ro L[j].l) = ((M.take k).map (·.l)).filter (prJ lo ro L[j].l) ++ M[k].l :: ((M.drop (k + 1)).map (·.l)).filter (prJ lo ro L[j].l) := by
    conv => lhs; rw [eM, List.map_append, List.map_cons, List.filter_append, List.filter_cons_of_pos hp]
  rw [e1, List.getElem?_append_right (by omega), Nat.add_sub_cancel_left, e2, List.map_append, List.map_cons, List.append_assoc, List.getElem?_append_right (by simp), List.length_map]
  simp
theorem filtJ_count {M : List Vs} {p : List Val → Bool} {k : Nat} (h : k < M.length) : (((M.take (k + 1)).map (·.l)).filter p).length = (((M.take k).map (·.l)).filter p).length + (if p M[k].l then 1 else 0) := by
  rw [filtJ_snoc h, List.length_append]
  by_cases hp : p M[k].l <;> simp [hp]
theorem refJ_count {L : List Vs} {RR : List (List Val)} {lo ro : Int} {j : Nat} (h : j < L.length) : (refJ ((L.take (j + 1)).map (·.l)) RR lo ro).length = (refJ ((L.take j).map (·.l)) RR lo ro).length + (RR.filter (prJ lo ro L[j].l)).length := by
  rw [refJ_snoc h, List.length_append, List.length_map]
set_option maxHeartbeats 64000000 in
set_option maxRecDepth 100000 in
theorem swapsWalk (a0 : Option Addr) (c0 : Nat) (L0 : List Vs) (a1 : Option Addr) (c1 : Nat) (M0 : List Vs) (lo ro : Int) (w : World) (hs : VsE.See w a0 L0) (hx : ∀ x ∈ L0, x.lies w) (hl : L0.length ≤ 1048576) (hr : ∀ x ∈ L0, x.l.length ≤ 1048576) (ht : VsE.See w a1 M0) (hy : ∀ x ∈ M0, x.lies w) (hm : M0.length ≤ 1048576) (hrm : ∀ x ∈ M0, x.l.length ≤ 1048576) :
    Calls Try.prog 3 #[.slice a0 L0.length c0, .slice a1 M0.length c1, .agg #[.int .i64 lo, .int .i64 ro]] w fun e w' => e = .returned (.bool true) ∧ Below w.heap.size w w' := by
  obtain ⟨w1, hw1, k1, b1⟩ : ∃ x, w.alloc (.cells #[.int .i64 lo, .int .i64 ro] 23) = x ∧ Kp [] w x ∧ Bn x w.heap.size [.int .i64 lo, .int .i64 ro] := ⟨_, rfl, (Kp.refl _ _).alloc _, Bn.new w _ _⟩
  obtain ⟨q5, hq5⟩ : ∃ q, w.heap.size = q := ⟨_, rfl⟩
  rw [hq5] at b1
  have HS : Hid (∀ W, Kp [] w W → VsE.See W a0 L0 ∧ (∀ x ∈ L0, x.lies W) ∧ VsE.See W a1 M0 ∧ (∀ x ∈ M0, x.lies W)) := fun W k => ⟨ckSee (CK.ofKp k) hs (by simp), fun x h => (hx x h).ck (CK.ofKp k) (by simp), ckSee (CK.ofKp k) ht (by simp), fun x h => (hy x h).ck (CK.ofKp k) (by simp)⟩
  have HB : Hid (∀ W', Kp [] w1 W' → W'.cell? ⟨q5, 0, none⟩ = some (.int .i64 lo) ∧ W'.cell? ⟨q5, 1, none⟩ = some (.int .i64 ro)) := fun W' k => ⟨(b1.kept k).get 0 _ rfl, (b1.kept k).get 1 _ rfl⟩
  have HR := hid (And.intro hr hrm)
  have K1 := hid k1
  clear hs hx ht hy k1 b1 hr hrm
  by_cases hbig : 1000 < L0.length ∨ 1000 < M0.length
  · have cAl := hid (cAlive15 w1)
    by_cases h1 : 1000 < L0.length
    · have d1 : decide ((1000 : Int) < (L0.length : Int)) = true := by simp; omega
      have d1' : (1000 : Int) < (L0.length : Int) := by omega
      clear hbig h1
      go_enter Try.func3, Try.ntmps3
      go_wp2_with fail
      refine cAl.out.mono ?_
      rintro e w2 ⟨rfl, k2⟩
      have KF := hid (K1.out.trans k2 (by simp))
      clear cAl k2
      go_wp2_with fail
      go_ret
      exact ⟨rfl, KF.out.below⟩
    · have h2 : 1000 < M0.length := by omega
      have d1 : decide ((1000 : Int) < (L0.length : Int)) = false := by simp; omega
      have d1' : ¬ (1000 : Int) < (L0.length : Int) := by omega
      have d2 : decide ((1000 : Int) < (M0.length : Int)) = true := by simp; omega
      have d2' : (1000 : Int) < (M0.length : Int) := by omega
      clear hbig h1 h2
      go_enter Try.func3, Try.ntmps3
      go_wp2_with fail
      refine cAl.out.mono ?_
      rintro e w2 ⟨rfl, k2⟩
      have KF := hid (K1.out.trans k2 (by simp))
      clear cAl k2
      go_wp2_with fail
      go_ret
      exact ⟨rfl, KF.out.below⟩
  have hL1 : L0.length ≤ 1000 := by omega
  have hM1 : M0.length ≤ 1000 := by omega
  have d1 : decide ((1000 : Int) < (L0.length : Int)) = false := by simp; omega
  have d1' : ¬ (1000 : Int) < (L0.length : Int) := by omega
  have d2 : decide ((1000 : Int) < (M0.length : Int)) = false := by simp; omega
  have d2' : ¬ (1000 : Int) < (M0.length : Int) := by omega
  clear hbig
  obtain ⟨RL, hRL⟩ : ∃ R, Hid (L0.map (·.l) = R) := ⟨_, rfl⟩
  obtain ⟨RR, hRR⟩ : ∃ R, Hid (M0.map (·.l) = R) := ⟨_, rfl⟩
  have hRLb : Hid (RL.length ≤ 1000 ∧ ∀ l ∈ RL, l.length ≤ 1048576) := ⟨by rw [← hRL.out]; simpa using hL1, fun l hm' => by rw [← hRL.out] at hm'; obtain ⟨x, hx', rfl⟩ := List.mem_map.1 hm'; exact HR.out.1 x hx'⟩
  have hRRb : Hid (RR.length ≤ 1000 ∧ ∀ l ∈ RR, l.length ≤ 1048576) := ⟨by rw [← hRR.out]; simpa using hM1, fun l hm' => by rw [← hRR.out] at hm'; obtain ⟨x, hx', rfl⟩ := List.mem_map.1 hm'; exact HR.out.2 x hx'⟩
  have cCL : Hid (∀ W, Kp [] w W → Calls Try.prog 9 #[.slice a0 L0.length c0] W (LotP RL W)) := fun W k => by
    have h1 := cCopied a0 c0 L0 W (HS.out W k).1 (HS.out W k).2.1 (by omega) (fun x h => by have := HR.out.1 x h; omega)
    rw [hRL.out] at h1
    exact h1
  have cCM : Hid (∀ W, Kp [] w W → Calls Try.prog 9 #[.slice a1 M0.length c1] W (LotP RR W)) := fun W k => by
    have h1 := cCopied a1 c1 M0 W (HS.out W k).2.2.1 (HS.out W k).2.2.2 (by omega) (fun x h => by have := HR.out.2 x h; omega)
    rw [hRR.out] at h1
    exact h1
  go_enter Try.func3, Try.ntmps3
  go_wp2_with fail
  refine wp_noPanicY ?_
  refine wp_region_held_drew (S := fun W' => W'.cell? ⟨q5, 0, none⟩ = some (.int .i64 lo) ∧ W'.cell? ⟨q5, 1, none⟩ = some (.int .i64 ro)) (by kernel_rfl) (HB.out _ (Kp.refl [] w1).drew) (fun hHeld => ?_)
  have kD : Kp [] w1 w1.drew := (Kp.refl _ _).drew
  generalize w1.drew = w2 at *
  have K2 := hid (K1.out.trans kD (by simp))
  have D2 := hid ((Kp.refl [] w1).trans kD (by simp))
  clear kD
  refine wpAnyH_take (i := 0) (v := ?_) rfl (by kernel_rfl) (by kernel_rfl) (by kernel_rfl) (fun _ _ _ h => by cases h.1) (Or.inl ⟨by rfl, ?_⟩) (by assumption) ?_
  rotate_left
  · intro w hSw; (try dsimp only at hSw); go_simp <;> with_reducible rfl
  try simp only [Act.put, List.getElem_toArray, List.getElem_cons_zero, List.getElem_cons_succ, List.setIfInBounds_toArray, List.set_cons_zero, List.set_cons_succ]
  refine wpAnyH_take (i := 3) (v := ?_) rfl (by kernel_rfl) (by kernel_rfl) (by kernel_rfl) (fun _ _ _ h => by cases h.1) (Or.inl ⟨by rfl, ?_⟩) (by assumption) ?_
  rotate_left
  · intro w hSw; (try dsimp only at hSw); go_simp <;> with_reducible rfl
  try simp only [Act.put, List.getElem_toArray, List.getElem_cons_zero, List.getElem_cons_succ, List.setIfInBounds_toArray, List.set_cons_zero, List.set_cons_succ]
  refine wpAnyH_take (i := 6) (v := ?_) rfl (by kernel_rfl) (by kernel_rfl) (by kernel_rfl) (fun _ _ _ h => by cases h.1) (Or.inl ⟨by rfl, ?_⟩) (by assumption) ?_
  rotate_left
  · intro w hSw; (try dsimp only at hSw); go_simp <;> with_reducible rfl
  try simp only [Act.put, List.getElem_toArray, List.getElem_cons_zero, List.getElem_cons_succ, List.setIfInBounds_toArray, List.set_cons_zero, List.set_cons_succ]
  refine wpAnyH_take (i := 7) (v := ?_) rfl (by kernel_rfl) (by kernel_rfl) (by kernel_rfl) (fun _ _ _ h => by cases h.1) (Or.inl ⟨by rfl, ?_⟩) (by assumption) ?_
  rotate_left
  · intro w hSw; (try dsimp only at hSw); go_simp <;> with_reducible rfl
  try simp only [Act.put, List.getElem_toArray, List.getElem_cons_zero, List.getElem_cons_succ, List.setIfInBounds_toArray, List.set_cons_zero, List.set_cons_succ]
  refine wpAnyH_take (i := 8) (v := ?_) rfl (by kernel_rfl) (by kernel_rfl) (by kernel_rfl) (fun _ _ _ h => by cases h.1) (Or.inl ⟨by rfl, ?_⟩) (by assumption) ?_
  rotate_left
  · intro w hSw; (try dsimp only at hSw); go_simp <;> with_reducible rfl
  try simp only [Act.put, List.getElem_toArray, List.getElem_cons_zero, List.getElem_cons_succ, List.setIfInBounds_toArray, List.set_cons_zero, List.set_cons_succ]
  refine wpAnyH_take (i := 9) (v := ?_) rfl (by kernel_rfl) (by kernel_rfl) (by kernel_rfl) (fun _ _ _ h => by cases h.1) (Or.inl ⟨by rfl, ?_⟩) (by assumption) ?_
  rotate_left
  · intro w hSw; (try dsimp only at hSw); go_simp <;> with_reducible rfl
  try simp only [Act.put, List.getElem_toArray, List.getElem_cons_zero, List.getElem_cons_succ, List.setIfInBounds_toArray, List.set_cons_zero, List.set_cons_succ]
  refine wpAnyH_ready (rs := [1]) (by kernel_rfl) (by simp) ?_
  refine AllReadyH.cons rfl (fun K hK => ?_) AllReadyH.nil
  go_simp
  refine (cCL.out w2 K2.out).mono ?_
  rintro e w3 ⟨raXa, rcXa, LXa, rfl, loXa, heXa, k3⟩
  have K3 := hid (K2.out.trans k3 (by simp))
  have D3 := hid (D2.out.trans k3 (by simp))
  have lnXa : LXa.length ≤ 4000000000000 := by have h1 := congrArg List.length heXa; have h2 := hRLb.out.1; rw [List.length_map] at h1; omega
  (try go_wp2_with fail)
  refine hK.out _ _ (HB.out _ D3.out) (fun hHeld => ?_)
  clear hK K
  try simp only [Act.put, List.getElem_toArray, List.getElem_cons_zero, List.getElem_cons_succ, List.setIfInBounds_toArray, List.set_cons_zero, List.set_cons_succ]
  refine wpAnyH_ready (rs := [2]) (by kernel_rfl) (by simp) ?_
  refine AllReadyH.cons rfl (fun K hK => ?_) AllReadyH.nil
  go_simp
  refine (cValuesE raXa LXa.length rcXa w3).mono ?_
  rintro e w4 ⟨rfl, hw4⟩
  have k4 : Kp [] w3 w4 := by rw [hw4]; exact (Kp.refl _ _).alloc _
  have srcXa := hid (loXa.src lnXa 22)
  rw [← hw4, heXa] at srcXa
  obtain ⟨qXa, hqXa⟩ : ∃ q, Hid (w3.heap.size = q) := ⟨_, rfl⟩
  rw [hqXa.out] at srcXa ⊢
  have K4 := hid (K3.out.trans k4 (by simp))
  have D4 := hid (D3.out.trans k4 (by simp))
  clear hw4
  (try go_wp2_with fail)
  refine hK.out _ _ (HB.out _ D4.out) (fun hHeld => ?_)
  clear hK K
  try simp only [Act.put, List.getElem_toArray, List.getElem_cons_zero, List.getElem_cons_succ, List.setIfInBounds_toArray, List.set_cons_zero, List.set_cons_succ]
  have MX : Hid (Kp [] w4 w4) := Kp.refl _ _
  refine wpAnyH_ready (rs := [4]) (by kernel_rfl) (by simp) ?_
  refine AllReadyH.cons rfl (fun K hK => ?_) AllReadyH.nil
  go_simp
  refine (cCM.out w4 K4.out).mono ?_
  rintro e w5 ⟨raXb, rcXb, LXb, rfl, loXb, heXb, k5⟩
  have K5 := hid (K4.out.trans k5 (by simp))
  have D5 := hid (D4.out.trans k5 (by simp))
  have lnXb : LXb.length ≤ 4000000000000 := by have h1 := congrArg List.length heXb; have h2 := hRRb.out.1; rw [List.length_map] at h1; omega
  (try go_wp2_with fail)
  refine hK.out _ _ (HB.out _ D5.out) (fun hHeld => ?_)
  clear hK K
  try simp only [Act.put, List.getElem_toArray, List.getElem_cons_zero, List.getElem_cons_succ, List.setIfInBounds_toArray, List.set_cons_zero, List.set_cons_succ]
  replace MX := hid (MX.out.trans k5 (by simp))
  refine wpAnyH_ready (rs := [5]) (by kernel_rfl) (by simp) ?_
  refine AllReadyH.cons rfl (fun K hK => ?_) AllReadyH.nil
  go_simp
  refine (cValuesE raXb LXb.length rcXb w5).mono ?_
  rintro e w6 ⟨rfl, hw6⟩
  have k6 : Kp [] w5 w6 := by rw [hw6]; exact (Kp.refl _ _).alloc _
  have srcXb := hid (loXb.src lnXb 22)
  rw [← hw6, heXb] at srcXb
  obtain ⟨qXb, hqXb⟩ : ∃ q, Hid (w5.heap.size = q) := ⟨_, rfl⟩
  rw [hqXb.out] at srcXb ⊢
  have K6 := hid (K5.out.trans k6 (by simp))
  have D6 := hid (D5.out.trans k6 (by simp))
  clear hw6
  (try go_wp2_with fail)
  refine hK.out _ _ (HB.out _ D6.out) (fun hHeld => ?_)
  clear hK K
  try simp only [Act.put, List.getElem_toArray, List.getElem_cons_zero, List.getElem_cons_succ, List.setIfInBounds_toArray, List.set_cons_zero, List.set_cons_succ]
  replace MX := hid (MX.out.trans k6 (by simp))
  have hjX := hid (joinAll 5 (by omega) 23 23 #[.pointer (some ⟨qXa, 0, none⟩)] #[.pointer (some ⟨qXb, 0, none⟩)] false false RL RR _ _ lo ro w6 heVal heVal (fun n hn => (srcXa.out.1 n hn).move (KeepB.ofKp MX.out (by simp))) srcXb.out.1 (fun j hj => by have := srcXa.out.2 j hj; have := MX.out.size; omega) srcXb.out.2 (by have := hRRb.out.1; omega) (fun l h => by have := hRRb.out.2 l h; omega) (fun l h => by have := hRLb.out.2 l h; omega))
  refine wpAnyH_ready (rs := [10]) (by kernel_rfl) (by simp) ?_
  refine AllReadyH.cons rfl (fun K hK => ?_) AllReadyH.nil
  go_simp
  refine (cJoinE 23 23 #[.pointer (some ⟨qXa, 0, none⟩)] #[.pointer (some ⟨qXb, 0, none⟩)] lo ro w6).mono ?_
  rintro e w7 ⟨rfl, hw7⟩
  obtain ⟨k7, jsX, hjsX, hsqX⟩ := hjX.out w7 hw7
  rw [joinR_ref] at hsqX
  obtain ⟨lbX, hlbX⟩ : ∃ l : Array Value, Hid (#[Value.pointer (some ⟨w6.heap.size + 1, 0, none⟩), Value.pointer (some ⟨w6.heap.size + 3, 0, none⟩), Value.pointer (some ⟨w6.heap.size, 0, none⟩), Value.pointer (some ⟨w6.heap.size + 2, 0, none⟩)] = l) := ⟨_, rfl⟩
  rw [hlbX.out] at hsqX ⊢
  have K7 := hid (K6.out.trans k7 (by simp))
  have D7 := hid (D6.out.trans k7 (by simp))
  have HQX := hid (And.intro hjsX hsqX)
  clear hw7 hjsX hsqX
  (try go_wp2_with fail)
  refine hK.out _ _ (HB.out _ D7.out) (fun hHeld => ?_)
  clear hK K
  try simp only [Act.put, List.getElem_toArray, List.getElem_cons_zero, List.getElem_cons_succ, List.setIfInBounds_toArray, List.set_cons_zero, List.set_cons_succ]
  have hjlX := refJ_len RL RR lo ro
  have hjrX := refJ_row (lo := lo) (ro := ro) hRLb.out.2 hRRb.out.2
  have hmulX : RL.length * RR.length ≤ 1000 * 1000 := Nat.mul_le_mul hRLb.out.1 hRRb.out.1
  have cAX := hid (callsIn_wide.1 (cAllR 5 (by omega) 17 lbX (refJ RL RR lo ro) jsX w7 heJoin (HQX.out.2 4 (by omega)) HQX.out.1 (by omega) (fun l h => by have := hjrX l h; omega)))
  have hNX : Hid ((refJ RL RR lo ro).length ≤ 1000000) := by show _ ≤ _; omega
  clear hjlX hjrX hmulX hjX srcXa srcXb loXa loXb heXa heXb MX
  refine wpAnyH_ready (rs := [11]) (by kernel_rfl) (by simp) ?_
  refine AllReadyH.cons rfl (fun K hK => ?_) AllReadyH.nil
  go_simp
  refine cAX.out.mono ?_
  rintro e w8 ⟨rX, cX, NX, rfl, ltX, hEX, k8⟩
  have K8 := hid (K7.out.trans k8 (by simp))
  have D8 := hid (D7.out.trans k8 (by simp))
  have HNX := hid ltX
  have HEX := hid hEX
  clear ltX hEX
  (try go_wp2_with fail)
  refine hK.out _ _ (HB.out _ D8.out) (fun hHeld => ?_)
  clear hK K
  try simp only [Act.put, List.getElem_toArray, List.getElem_cons_zero, List.getElem_cons_succ, List.setIfInBounds_toArray, List.set_cons_zero, List.set_cons_succ]
  refine wpAnyH_take (i := 12) (v := ?_) rfl (by kernel_rfl) (by kernel_rfl) (by kernel_rfl) (fun _ _ _ h => by cases h.1) (Or.inl ⟨by rfl, ?_⟩) (by assumption) ?_
  rotate_left
  · intro w hSw; (try dsimp only at hSw); go_simp <;> with_reducible rfl
  try simp only [Act.put, List.getElem_toArray, List.getElem_cons_zero, List.getElem_cons_succ, List.setIfInBounds_toArray, List.set_cons_zero, List.set_cons_succ]
  refine wpAnyH_done (by kernel_rfl) ⟨rfl, ?_⟩ _
  clear hHeld cAX HQX
  go_wp2_with fail
  refine wp_noPanicY ?_
  refine wp_region_held_drew (S := fun W' => W'.cell? ⟨q5, 0, none⟩ = some (.int .i64 lo) ∧ W'.cell? ⟨q5, 1, none⟩ = some (.int .i64 ro)) (by kernel_rfl) (HB.out _ D8.out.drew) (fun hHeld => ?_)
  have kD : Kp [] w8 w8.drew := (Kp.refl _ _).drew
  generalize w8.drew = w9 at *
  have K9 := hid (K8.out.trans kD (by simp))
  have D9 := hid (D8.out.trans kD (by simp))
  replace HNX := hid (HNX.out.ck (CK.ofKp kD) (by simp) (by simp))
  clear kD
  refine wpAnyH_take (i := 0) (v := ?_) rfl (by kernel_rfl) (by kernel_rfl) (by kernel_rfl) (fun _ _ _ h => by cases h.1) (Or.inl ⟨by rfl, ?_⟩) (by assumption) ?_
  rotate_left
  · intro w hSw; (try dsimp only at hSw); go_simp <;> with_reducible rfl
  try simp only [Act.put, List.getElem_toArray, List.getElem_cons_zero, List.getElem_cons_succ, List.setIfInBounds_toArray, List.set_cons_zero, List.set_cons_succ]
  refine wpAnyH_take (i := 3) (v := ?_) rfl (by kernel_rfl) (by kernel_rfl) (by kernel_rfl) (fun _ _ _ h => by cases h.1) (Or.inl ⟨by rfl, ?_⟩) (by assumption) ?_
  rotate_left
  · intro w hSw; (try dsimp only at hSw); go_simp <;> with_reducible rfl
  try simp only [Act.put, List.getElem_toArray, List.getElem_cons_zero, List.getElem_cons_succ, List.setIfInBounds_toArray, List.set_cons_zero, List.set_cons_succ]
  refine wpAnyH_take (i := 6) (v := ?_) rfl (by kernel_rfl) (by kernel_rfl) (by kernel_rfl) (fun _ _ _ h => by cases h.1) (Or.inl ⟨by rfl, ?_⟩) (by assumption) ?_
  rotate_left
  · intro w hSw; (try dsimp only at hSw); go_simp <;> with_reducible rfl
  try simp only [Act.put, List.getElem_toArray, List.getElem_cons_zero, List.getElem_cons_succ, List.setIfInBounds_toArray, List.set_cons_zero, List.set_cons_succ]
  refine wpAnyH_take (i := 7) (v := ?_) rfl (by kernel_rfl) (by kernel_rfl) (by kernel_rfl) (fun _ _ _ h => by cases h.1) (Or.inl ⟨by rfl, ?_⟩) (by assumption) ?_
  rotate_left
  · intro w hSw; (try dsimp only at hSw); go_simp <;> with_reducible rfl
  try simp only [Act.put, List.getElem_toArray, List.getElem_cons_zero, List.getElem_cons_succ, List.setIfInBounds_toArray, List.set_cons_zero, List.set_cons_succ]
  refine wpAnyH_take (i := 8) (v := ?_) rfl (by kernel_rfl) (by kernel_rfl) (by kernel_rfl) (fun _ _ _ h => by cases h.1) (Or.inl ⟨by rfl, ?_⟩) (by assumption) ?_
  rotate_left
  · intro w hSw; (try dsimp only at hSw); go_simp <;> with_reducible rfl
  try simp only [Act.put, List.getElem_toArray, List.getElem_cons_zero, List.getElem_cons_succ, List.setIfInBounds_toArray, List.set_cons_zero, List.set_cons_succ]
  refine wpAnyH_take (i := 9) (v := ?_) rfl (by kernel_rfl) (by kernel_rfl) (by kernel_rfl) (fun _ _ _ h => by cases h.1) (Or.inl ⟨by rfl, ?_⟩) (by assumption) ?_
  rotate_left
  · intro w hSw; (try dsimp only at hSw); go_simp <;> with_reducible rfl
  try simp only [Act.put, List.getElem_toArray, List.getElem_cons_zero, List.getElem_cons_succ, List.setIfInBounds_toArray, List.set_cons_zero, List.set_cons_succ]
  refine wpAnyH_ready (rs := [1]) (by kernel_rfl) (by simp) ?_
  refine AllReadyH.cons rfl (fun K hK => ?_) AllReadyH.nil
  go_simp
  refine (cCM.out w9 K9.out).mono ?_
  rintro e w10 ⟨raZa, rcZa, LZa, rfl, loZa, heZa, k10⟩
  have K10 := hid (K9.out.trans k10 (by simp))
  have D10 := hid (D9.out.trans k10 (by simp))
  replace HNX := hid (HNX.out.ck (CK.ofKp k10) (by simp) (by simp))
  have lnZa : LZa.length ≤ 4000000000000 := by have h1 := congrArg List.length heZa; have h2 := hRRb.out.1; rw [List.length_map] at h1; omega
  (try go_wp2_with fail)
  refine hK.out _ _ (HB.out _ D10.out) (fun hHeld => ?_)
  clear hK K
  try simp only [Act.put, List.getElem_toArray, List.getElem_cons_zero, List.getElem_cons_succ, List.setIfInBounds_toArray, List.set_cons_zero, List.set_cons_succ]
  refine wpAnyH_ready (rs := [2]) (by kernel_rfl) (by simp) ?_
  refine AllReadyH.cons rfl (fun K hK => ?_) AllReadyH.nil
  go_simp
  refine (cValuesE raZa LZa.length rcZa w10).mono ?_
  rintro e w11 ⟨rfl, hw11⟩
  have k11 : Kp [] w10 w11 := by rw [hw11]; exact (Kp.refl _ _).alloc _
  have srcZa := hid (loZa.src lnZa 22)
  rw [← hw11, heZa] at srcZa
  obtain ⟨qZa, hqZa⟩ : ∃ q, Hid (w10.heap.size = q) := ⟨_, rfl⟩
  rw [hqZa.out] at srcZa ⊢
  have K11 := hid (K10.out.trans k11 (by simp))
  have D11 := hid (D10.out.trans k11 (by simp))
  replace HNX := hid (HNX.out.ck (CK.ofKp k11) (by simp) (by simp))
  clear hw11
  (try go_wp2_with fail)
  refine hK.out _ _ (HB.out _ D11.out) (fun hHeld => ?_)
  clear hK K
  try simp only [Act.put, List.getElem_toArray, List.getElem_cons_zero, List.getElem_cons_succ, List.setIfInBounds_toArray, List.set_cons_zero, List.set_cons_succ]
  have MZ : Hid (Kp [] w11 w11) := Kp.refl _ _
  refine wpAnyH_ready (rs := [4]) (by kernel_rfl) (by simp) ?_
  refine AllReadyH.cons rfl (fun K hK => ?_) AllReadyH.nil
  go_simp
  refine (cCL.out w11 K11.out).mono ?_
  rintro e w12 ⟨raZb, rcZb, LZb, rfl, loZb, heZb, k12⟩
  have K12 := hid (K11.out.trans k12 (by simp))
  have D12 := hid (D11.out.trans k12 (by simp))
  replace HNX := hid (HNX.out.ck (CK.ofKp k12) (by simp) (by simp))
  have lnZb : LZb.length ≤ 4000000000000 := by have h1 := congrArg List.length heZb; have h2 := hRLb.out.1; rw [List.length_map] at h1; omega
  (try go_wp2_with fail)
  refine hK.out _ _ (HB.out _ D12.out) (fun hHeld => ?_)
  clear hK K
  try simp only [Act.put, List.getElem_toArray, List.getElem_cons_zero, List.getElem_cons_succ, List.setIfInBounds_toArray, List.set_cons_zero, List.set_cons_succ]
  replace MZ := hid (MZ.out.trans k12 (by simp))
  refine wpAnyH_ready (rs := [5]) (by kernel_rfl) (by simp) ?_
  refine AllReadyH.cons rfl (fun K hK => ?_) AllReadyH.nil
  go_simp
  refine (cValuesE raZb LZb.length rcZb w12).mono ?_
  rintro e w13 ⟨rfl, hw13⟩
  have k13 : Kp [] w12 w13 := by rw [hw13]; exact (Kp.refl _ _).alloc _
  have srcZb := hid (loZb.src lnZb 22)
  rw [← hw13, heZb] at srcZb
  obtain ⟨qZb, hqZb⟩ : ∃ q, Hid (w12.heap.size = q) := ⟨_, rfl⟩
  rw [hqZb.out] at srcZb ⊢
  have K13 := hid (K12.out.trans k13 (by simp))
  have D13 := hid (D12.out.trans k13 (by simp))
  replace HNX := hid (HNX.out.ck (CK.ofKp k13) (by simp) (by simp))
  clear hw13
  (try go_wp2_with fail)
  refine hK.out _ _ (HB.out _ D13.out) (fun hHeld => ?_)
  clear hK K
  try simp only [Act.put, List.getElem_toArray, List.getElem_cons_zero, List.getElem_cons_succ, List.setIfInBounds_toArray, List.set_cons_zero, List.set_cons_succ]
  replace MZ := hid (MZ.out.trans k13 (by simp))
  have hjZ := hid (joinAll 5 (by omega) 23 23 #[.pointer (some ⟨qZa, 0, none⟩)] #[.pointer (some ⟨qZb, 0, none⟩)] false false RR RL _ _ ro lo w13 heVal heVal (fun n hn => (srcZa.out.1 n hn).move (KeepB.ofKp MZ.out (by simp))) srcZb.out.1 (fun j hj => by have := srcZa.out.2 j hj; have := MZ.out.size; omega) srcZb.out.2 (by have := hRLb.out.1; omega) (fun l h => by have := hRLb.out.2 l h; omega) (fun l h => by have := hRRb.out.2 l h; omega))
  refine wpAnyH_ready (rs := [10]) (by kernel_rfl) (by simp) ?_
  refine AllReadyH.cons rfl (fun K hK => ?_) AllReadyH.nil
  go_simp
  refine (cJoinE 23 23 #[.pointer (some ⟨qZa, 0, none⟩)] #[.pointer (some ⟨qZb, 0, none⟩)] ro lo w13).mono ?_
  rintro e w14 ⟨rfl, hw14⟩
  obtain ⟨k14, jsZ, hjsZ, hsqZ⟩ := hjZ.out w14 hw14
  rw [joinR_ref] at hsqZ
  obtain ⟨lbZ, hlbZ⟩ : ∃ l : Array Value, Hid (#[Value.pointer (some ⟨w13.heap.size + 1, 0, none⟩), Value.pointer (some ⟨w13.heap.size + 3, 0, none⟩), Value.pointer (some ⟨w13.heap.size, 0, none⟩), Value.pointer (some ⟨w13.heap.size + 2, 0, none⟩)] = l) := ⟨_, rfl⟩
  rw [hlbZ.out] at hsqZ ⊢
  have K14 := hid (K13.out.trans k14 (by simp))
  have D14 := hid (D13.out.trans k14 (by simp))
  replace HNX := hid (HNX.out.ck (CK.ofKp k14) (by simp) (by simp))
  have HQZ := hid (And.intro hjsZ hsqZ)
  clear hw14 hjsZ hsqZ
  (try go_wp2_with fail)
  refine hK.out _ _ (HB.out _ D14.out) (fun hHeld => ?_)
  clear hK K
  try simp only [Act.put, List.getElem_toArray, List.getElem_cons_zero, List.getElem_cons_succ, List.setIfInBounds_toArray, List.set_cons_zero, List.set_cons_succ]
  have hjlZ := refJ_len RR RL ro lo
  have hjrZ := refJ_row (lo := ro) (ro := lo) hRRb.out.2 hRLb.out.2
  have hmulZ : RR.length * RL.length ≤ 1000 * 1000 := Nat.mul_le_mul hRRb.out.1 hRLb.out.1
  have cAZ := hid (callsIn_wide.1 (cAllR 5 (by omega) 17 lbZ (refJ RR RL ro lo) jsZ w14 heJoin (HQZ.out.2 4 (by omega)) HQZ.out.1 (by omega) (fun l h => by have := hjrZ l h; omega)))
  have hNZ : Hid ((refJ RR RL ro lo).length ≤ 1000000) := by show _ ≤ _; omega
  clear hjlZ hjrZ hmulZ hjZ srcZa srcZb loZa loZb heZa heZb MZ
  refine wpAnyH_ready (rs := [11]) (by kernel_rfl) (by simp) ?_
  refine AllReadyH.cons rfl (fun K hK => ?_) AllReadyH.nil
  go_simp
  refine cAZ.out.mono ?_
  rintro e w15 ⟨rZ, cZ, NZ, rfl, ltZ, hEZ, k15⟩
  have K15 := hid (K14.out.trans k15 (by simp))
  have D15 := hid (D14.out.trans k15 (by simp))
  replace HNX := hid (HNX.out.ck (CK.ofKp k15) (by simp) (by simp))
  have HNZ := hid ltZ
  have HEZ := hid hEZ
  clear ltZ hEZ
  (try go_wp2_with fail)
  refine hK.out _ _ (HB.out _ D15.out) (fun hHeld => ?_)
  clear hK K
  try simp only [Act.put, List.getElem_toArray, List.getElem_cons_zero, List.getElem_cons_succ, List.setIfInBounds_toArray, List.set_cons_zero, List.set_cons_succ]
  refine wpAnyH_take (i := 12) (v := ?_) rfl (by kernel_rfl) (by kernel_rfl) (by kernel_rfl) (fun _ _ _ h => by cases h.1) (Or.inl ⟨by rfl, ?_⟩) (by assumption) ?_
  rotate_left
  · intro w hSw; (try dsimp only at hSw); go_simp <;> with_reducible rfl
  try simp only [Act.put, List.getElem_toArray, List.getElem_cons_zero, List.getElem_cons_succ, List.setIfInBounds_toArray, List.set_cons_zero, List.set_cons_succ]
  refine wpAnyH_done (by kernel_rfl) ⟨rfl, ?_⟩ _
  clear hHeld cAZ HQZ
  have hlen : Hid (NX.length = NZ.length) := by
    show _ = _
    have h1 := congrArg List.length HEX.out
    have h2 := congrArg List.length HEZ.out
    rw [List.length_map] at h1 h2
    rw [h1, h2]
    exact refJ_swap RL lo ro RR
  have dl : ((NX.length : Int) != (NZ.length : Int)) = false := by rw [hlen.out]; simp
  have cAl := hid (cAlive15 w15)
  go_wp2_with fail
  refine cAl.out.mono ?_
  rintro e w16 ⟨rfl, k16⟩
  have K16 := hid (K15.out.trans k16 (by simp))
  have D16 := hid (D15.out.trans k16 (by simp))
  replace HNX := hid (HNX.out.ck (CK.ofKp k16) (by simp) (by simp))
  clear cAl k16 HNZ
  go_wp2_with fail
  go_loopw [9, 58] (fun v9 i wr => ∃ (j t : Nat), j ≤ L0.length ∧ i = .int .i64 (j : Int) ∧ v9 = .int .i64 (t : Int) ∧ Hid (t = (refJ ((L0.take j).map (·.l)) RR lo ro).length) ∧ Hid (Kp [] w16 wr)) (fun _ i _ => L0.length - (intOf i).toNat)
  case atStart => exact ⟨0, 0, Nat.zero_le _, rfl, rfl, rfl, Kp.refl _ _⟩
  case round =>
    obtain ⟨j, t, hj, rfl, rfl, hte, H⟩ := hrel
    by_cases hlt : j < L0.length
    · have KWr := hid (K16.out.trans H.out (by simp))
      obtain ⟨g, o, ea, x0⟩ := vsAt (HS.out w (Kp.refl _ _)).1 (k := j) (x := L0[j]) (by simp [hlt])
      have hxli := hid ((HS.out w (Kp.refl _ _)).2.1 L0[j] (List.getElem_mem hlt))
      have hxl := HR.out.1 L0[j] (List.getElem_mem hlt)
      have hcnt := hid (refJ_count (RR := RR) (lo := lo) (ro := ro) hlt)
      have hatx : Hid (∀ k (hk : k < M0.length), prJ lo ro L0[j].l M0[k].l = true → (refJ RL RR lo ro)[(refJ ((L0.take j).map (·.l)) RR lo ro).length + (((M0.take k).map (·.l)).filter (prJ lo ro L0[j].l)).length]? = some (L0[j].l ++ M0[k].l)) := fun k hk hp => by
        have h1 := refJ_at hlt hk hp
        rw [hRL.out, hRR.out] at h1
        exact h1
      obtain ⟨x, hx⟩ : ∃ x, Hid (L0[j] = x) := ⟨L0[j], rfl⟩
      rw [hx.out] at x0 hxli hxl hcnt
      simp only [hx.out] at hatx
      obtain ⟨xa, xc, xl⟩ := x
      dsimp only at x0 hxl hcnt hatx
      have HX : Hid (∀ W', Kp [] w W' → W'.cell? ⟨g, o + j, none⟩ = some (.slice xa xl.length xc)) := fun W' k => kpAt k x0
      obtain ⟨⟨uk, ub, un, ut⟩, hu⟩ : ∃ y, Hid (vAt xl lo = y) := ⟨_, rfl⟩
      have cAx : Hid (∀ W', Kp [] w W' → Calls Try.prog 10 #[.slice xa xl.length xc, .int .i64 lo] W' fun e w' => e = .returned (.agg #[.int .i64 uk, .bool ub, .int .i64 un, .string ut]) ∧ Kp [] W' w') := fun W' k => by
        have h1 := rAtE xa xc xl lo W' (hxli.out.see.kept k) (by omega)
        rw [hu.out] at h1
        exact h1
      have i1 : (0 : Int) ≤ (j : Int) := by omega
      have i2 : (j : Int) < (L0.length : Int) := by omega
      have i3 : (j : Int) + 1 ≤ 9223372036854775807 := by omega
      subst ea
      clear x0
      go_wp2_with fail
      go_loopw [9, 63] (fun v9 v63 wk => ∃ (k t2 : Nat), k ≤ M0.length ∧ v63 = .int .i64 (k : Int) ∧ v9 = .int .i64 (t2 : Int) ∧ Hid (t2 = t + (((M0.take k).map (·.l)).filter (prJ lo ro xl)).length) ∧ Hid (Kp [] w16 wk)) (fun _ v63 _ => M0.length - (intOf v63).toNat)
      case atStart => exact ⟨0, t, Nat.zero_le _, rfl, rfl, by show _ = _; simp, H⟩
      case round =>
        obtain ⟨k, t2, hk, rfl, rfl, ht2, Hk⟩ := hrel
        clear H KWr
        by_cases hkl : k < M0.length
        · have KWk := hid (K16.out.trans Hk.out (by simp))
          have DWk := hid (D16.out.trans Hk.out (by simp))
          obtain ⟨g2, o2, eb, y0⟩ := vsAt (HS.out w (Kp.refl _ _)).2.2.1 (k := k) (x := M0[k]) (by simp [hkl])
          have hyli := hid ((HS.out w (Kp.refl _ _)).2.2.2 M0[k] (List.getElem_mem hkl))
          have hyl := HR.out.2 M0[k] (List.getElem_mem hkl)
          have hfc := hid (filtJ_count (p := prJ lo ro xl) hkl)
          have hat2 := hid (hatx.out k hkl)
          obtain ⟨y, hy⟩ : ∃ y, Hid (M0[k] = y) := ⟨M0[k], rfl⟩
          rw [hy.out] at y0 hyli hyl hfc hat2
          obtain ⟨ya, yc, yl⟩ := y
          dsimp only at y0 hyl hfc hat2
          have HC : Hid (∀ W', Kp [] w W' → W'.cell? ⟨g, o + j, none⟩ = some (.slice xa xl.length xc) ∧ W'.cell? ⟨g2, o2 + k, none⟩ = some (.slice ya yl.length yc)) := fun W' q => ⟨HX.out W' q, kpAt q y0⟩
          obtain ⟨⟨vk, vb, vn, vt⟩, hv⟩ : ∃ y, Hid (vAt yl ro = y) := ⟨_, rfl⟩
          have cAy : Hid (∀ W', Kp [] w W' → Calls Try.prog 10 #[.slice ya yl.length yc, .int .i64 ro] W' fun e w' => e = .returned (.agg #[.int .i64 vk, .bool vb, .int .i64 vn, .string vt]) ∧ Kp [] W' w') := fun W' k => by
            have h1 := rAtE ya yc yl ro W' (hyli.out.see.kept k) (by omega)
            rw [hv.out] at h1
            exact h1
          have hpr : Hid (prJ lo ro xl yl = (uk != 0 && vk != 0 && cmpV ⟨uk, ub, un, ut⟩ ⟨vk, vb, vn, vt⟩ == 0)) := by show _ = _; unfold prJ; rw [hu.out, hv.out]
          have cCm := hid (fun W' => cRefCompare ⟨uk, ub, un, ut⟩ ⟨vk, vb, vn, vt⟩ W')
          simp only [Val.v] at cCm
          have k1 : (0 : Int) ≤ (k : Int) := by omega
          have k2 : (k : Int) < (M0.length : Int) := by omega
          have k3 : (k : Int) + 1 ≤ 9223372036854775807 := by omega
          subst eb
          clear y0
          go_wp2_with fail
          obtain ⟨wc, hwc⟩ : ∃ x, x = wr := ⟨_, rfl⟩
          subst hwc
          have KC := KWk
          have DC := DWk
          have SC := Hk
          clear KWk DWk Hk
          refine wp_noPanicY ?_
          refine wp_region_held_drew (S := fun W' => W'.cell? ⟨q5, 0, none⟩ = some (.int .i64 lo) ∧ W'.cell? ⟨q5, 1, none⟩ = some (.int .i64 ro) ∧ W'.cell? ⟨g, o + j, none⟩ = some (.slice xa xl.length xc)) (by kernel_rfl) (And.intro (HB.out _ DC.out.drew).1 (And.intro (HB.out _ DC.out.drew).2 (HX.out _ KC.out.drew))) (fun hHeld => ?_)
          have kd12 : Kp [] wc wc.drew := (Kp.refl _ _).drew
          generalize wc.drew = wd at *
          have KD := hid (KC.out.trans kd12 (by simp))
          have DD := hid (DC.out.trans kd12 (by simp))
          have SD := hid (SC.out.trans kd12 (by simp))
          clear kd12 KC DC SC
          refine wpAnyH_take (i := 0) (v := ?_) rfl (by kernel_rfl) (by kernel_rfl) (by kernel_rfl) (fun _ _ _ h => by cases h.1) (Or.inl ⟨by rfl, ?_⟩) (by assumption) ?_
          rotate_left
          · intro w hSw; (try dsimp only at hSw); go_simp <;> with_reducible rfl
          try simp only [Act.put, List.getElem_toArray, List.getElem_cons_zero, List.getElem_cons_succ, List.setIfInBounds_toArray, List.set_cons_zero, List.set_cons_succ]
          refine wpAnyH_take (i := 1) (v := ?_) rfl (by kernel_rfl) (by kernel_rfl) (by kernel_rfl) (fun _ _ _ h => by cases h.1) (Or.inl ⟨by rfl, ?_⟩) (by assumption) ?_
          rotate_left
          · intro w hSw; (try dsimp only at hSw); go_simp <;> with_reducible rfl
          try simp only [Act.put, List.getElem_toArray, List.getElem_cons_zero, List.getElem_cons_succ, List.setIfInBounds_toArray, List.set_cons_zero, List.set_cons_succ]
          refine wpAnyH_take (i := 2) (v := ?_) rfl (by kernel_rfl) (by kernel_rfl) (by kernel_rfl) (fun _ _ _ h => by cases h.1) (Or.inl ⟨by rfl, ?_⟩) (by assumption) ?_
          rotate_left
          · intro w hSw; (try dsimp only at hSw); go_simp <;> with_reducible rfl
          try simp only [Act.put, List.getElem_toArray, List.getElem_cons_zero, List.getElem_cons_succ, List.setIfInBounds_toArray, List.set_cons_zero, List.set_cons_succ]
          refine wpAnyH_take (i := 3) (v := ?_) rfl (by kernel_rfl) (by kernel_rfl) (by kernel_rfl) (fun _ _ _ h => by cases h.1) (Or.inl ⟨by rfl, ?_⟩) (by assumption) ?_
          rotate_left
          · intro w hSw; (try dsimp only at hSw); go_simp <;> with_reducible rfl
          try simp only [Act.put, List.getElem_toArray, List.getElem_cons_zero, List.getElem_cons_succ, List.setIfInBounds_toArray, List.set_cons_zero, List.set_cons_succ]
          refine wpAnyH_take (i := 4) (v := ?_) rfl (by kernel_rfl) (by kernel_rfl) (by kernel_rfl) (fun _ _ _ h => by cases h.1) (Or.inl ⟨by rfl, ?_⟩) (by assumption) ?_
          rotate_left
          · intro w hSw; (try dsimp only at hSw); go_simp <;> with_reducible rfl
          try simp only [Act.put, List.getElem_toArray, List.getElem_cons_zero, List.getElem_cons_succ, List.setIfInBounds_toArray, List.set_cons_zero, List.set_cons_succ]
          refine wpAnyH_take (i := 5) (v := ?_) rfl (by kernel_rfl) (by kernel_rfl) (by kernel_rfl) (fun _ _ _ h => by cases h.1) (Or.inl ⟨by rfl, ?_⟩) (by assumption) ?_
          rotate_left
          · intro w hSw; (try dsimp only at hSw); go_simp <;> with_reducible rfl
          try simp only [Act.put, List.getElem_toArray, List.getElem_cons_zero, List.getElem_cons_succ, List.setIfInBounds_toArray, List.set_cons_zero, List.set_cons_succ]
          refine wpAnyH_ready (rs := [6, 7]) (by kernel_rfl) (by simp) ?_
          refine AllReadyH.cons rfl (fun K hK => ?_) (AllReadyH.cons rfl (fun K hK => ?_) AllReadyH.nil)
          · go_simp
            refine (cAx.out wd KD.out).mono ?_
            rintro e wa ⟨rfl, ka⟩
            have KA := hid (KD.out.trans ka (by simp))
            have DA := hid (DD.out.trans ka (by simp))
            have SA := hid (SD.out.trans ka (by simp))
            (try go_wp2_with fail)
            refine hK.out _ _ (And.intro (HB.out _ DA.out).1 (And.intro (HB.out _ DA.out).2 (HX.out _ KA.out))) (fun hHeld => ?_)
            clear hK K
            try simp only [Act.put, List.getElem_toArray, List.getElem_cons_zero, List.getElem_cons_succ, List.setIfInBounds_toArray, List.set_cons_zero, List.set_cons_succ]
            obtain ⟨qq, W1, wc, eqq, eW1, b1, eW2, b2, kW2, z2⟩ := boxV4Y wa ⟨uk, ub, un, ut⟩
            have k1 : Kp [] wa W1 := by rw [← eW1]; exact (Kp.refl _ _).alloc _
            try dsimp only at eW2 b2
            have m0 := b1.get 0 _ rfl; have m1 := b1.get 1 _ rfl; have m2 := b1.get 2 _ rfl; have m3 := b1.get 3 _ rfl
            have f0 := b1.free 0; have f1 := b1.free 1; have f2 := b1.free 2; have f3 := b1.free 3
            have K2 := hid (KA.out.trans kW2 (by simp))
            have D2 := hid (DA.out.trans kW2 (by simp))
            have S2 := hid (SA.out.trans kW2 (by simp))
            have s1 := And.intro (HB.out _ (DA.out.trans k1 (by simp))).1 (And.intro (HB.out _ (DA.out.trans k1 (by simp))).2 (HX.out _ (KA.out.trans k1 (by simp))))
            have s2 := And.intro (HB.out _ D2.out).1 (And.intro (HB.out _ D2.out).2 (HX.out _ K2.out))
            refine wpAnyH_ready (rs := [7]) (by kernel_rfl) (by simp) ?_
            refine AllReadyH.cons rfl (fun K hK => ?_) AllReadyH.nil
            go_simp
            (try go_wp2_with fail)
            refine hK.out _ _ (s1) (fun hHeld => ?_)
            clear hK K
            try simp only [Act.put, List.getElem_toArray, List.getElem_cons_zero, List.getElem_cons_succ, List.setIfInBounds_toArray, List.set_cons_zero, List.set_cons_succ]
            refine wpAnyH_ready (rs := [8]) (by kernel_rfl) (by simp) ?_
            refine AllReadyH.cons rfl (fun K hK => ?_) AllReadyH.nil
            go_simp
            (try go_wp2_with fail)
            refine hK.out _ _ (s2) (fun hHeld => ?_)
            clear hK K
            try simp only [Act.put, List.getElem_toArray, List.getElem_cons_zero, List.getElem_cons_succ, List.setIfInBounds_toArray, List.set_cons_zero, List.set_cons_succ]
            refine wpAnyH_done (by kernel_rfl) ⟨rfl, ?_⟩ _
            clear hHeld m0 m1 m2 m3 f0 f1 f2 f3 eW2
            clear s1 s2 k1 kW2 ka KA DA SA b1 eW1 z2 KD DD SD
            have KC := hid K2.out
            have DC := hid D2.out
            have SC := hid S2.out
            have B12 := hid b2
            clear K2 D2 S2 b2
            have BP := B12
            clear B12
            go_wp2_with fail
            refine wp_noPanicY ?_
            refine wp_region_held_drew (S := fun W' => W'.cell? ⟨q5, 0, none⟩ = some (.int .i64 lo) ∧ W'.cell? ⟨q5, 1, none⟩ = some (.int .i64 ro) ∧ W'.cell? ⟨g2, o2 + k, none⟩ = some (.slice ya yl.length yc)) (by kernel_rfl) (And.intro (HB.out _ DC.out.drew).1 (And.intro (HB.out _ DC.out.drew).2 ((HC.out _ KC.out.drew).2))) (fun hHeld => ?_)
            have kd13 : Kp [] wc wc.drew := (Kp.refl _ _).drew
            generalize wc.drew = wd at *
            have KD := hid (KC.out.trans kd13 (by simp))
            have DD := hid (DC.out.trans kd13 (by simp))
            have SD := hid (SC.out.trans kd13 (by simp))
            have BP := hid (BP.out.kept kd13)
            clear kd13 KC DC SC
            refine wpAnyH_take (i := 0) (v := ?_) rfl (by kernel_rfl) (by kernel_rfl) (by kernel_rfl) (fun _ _ _ h => by cases h.1) (Or.inl ⟨by rfl, ?_⟩) (by assumption) ?_
            rotate_left
            · intro w hSw; (try dsimp only at hSw); go_simp <;> with_reducible rfl
            try simp only [Act.put, List.getElem_toArray, List.getElem_cons_zero, List.getElem_cons_succ, List.setIfInBounds_toArray, List.set_cons_zero, List.set_cons_succ]
            refine wpAnyH_take (i := 1) (v := ?_) rfl (by kernel_rfl) (by kernel_rfl) (by kernel_rfl) (fun _ _ _ h => by cases h.1) (Or.inl ⟨by rfl, ?_⟩) (by assumption) ?_
            rotate_left
            · intro w hSw; (try dsimp only at hSw); go_simp <;> with_reducible rfl
            try simp only [Act.put, List.getElem_toArray, List.getElem_cons_zero, List.getElem_cons_succ, List.setIfInBounds_toArray, List.set_cons_zero, List.set_cons_succ]
            refine wpAnyH_take (i := 2) (v := ?_) rfl (by kernel_rfl) (by kernel_rfl) (by kernel_rfl) (fun _ _ _ h => by cases h.1) (Or.inl ⟨by rfl, ?_⟩) (by assumption) ?_
            rotate_left
            · intro w hSw; (try dsimp only at hSw); go_simp <;> with_reducible rfl
            try simp only [Act.put, List.getElem_toArray, List.getElem_cons_zero, List.getElem_cons_succ, List.setIfInBounds_toArray, List.set_cons_zero, List.set_cons_succ]
            refine wpAnyH_take (i := 3) (v := ?_) rfl (by kernel_rfl) (by kernel_rfl) (by kernel_rfl) (fun _ _ _ h => by cases h.1) (Or.inl ⟨by rfl, ?_⟩) (by assumption) ?_
            rotate_left
            · intro w hSw; (try dsimp only at hSw); go_simp <;> with_reducible rfl
            try simp only [Act.put, List.getElem_toArray, List.getElem_cons_zero, List.getElem_cons_succ, List.setIfInBounds_toArray, List.set_cons_zero, List.set_cons_succ]
            refine wpAnyH_take (i := 4) (v := ?_) rfl (by kernel_rfl) (by kernel_rfl) (by kernel_rfl) (fun _ _ _ h => by cases h.1) (Or.inl ⟨by rfl, ?_⟩) (by assumption) ?_
            rotate_left
            · intro w hSw; (try dsimp only at hSw); go_simp <;> with_reducible rfl
            try simp only [Act.put, List.getElem_toArray, List.getElem_cons_zero, List.getElem_cons_succ, List.setIfInBounds_toArray, List.set_cons_zero, List.set_cons_succ]
            refine wpAnyH_take (i := 5) (v := ?_) rfl (by kernel_rfl) (by kernel_rfl) (by kernel_rfl) (fun _ _ _ h => by cases h.1) (Or.inl ⟨by rfl, ?_⟩) (by assumption) ?_
            rotate_left
            · intro w hSw; (try dsimp only at hSw); go_simp <;> with_reducible rfl
            try simp only [Act.put, List.getElem_toArray, List.getElem_cons_zero, List.getElem_cons_succ, List.setIfInBounds_toArray, List.set_cons_zero, List.set_cons_succ]
            refine wpAnyH_ready (rs := [6, 7]) (by kernel_rfl) (by simp) ?_
            refine AllReadyH.cons rfl (fun K hK => ?_) (AllReadyH.cons rfl (fun K hK => ?_) AllReadyH.nil)
            · go_simp
              refine (cAy.out wd KD.out).mono ?_
              rintro e wa ⟨rfl, ka⟩
              have KA := hid (KD.out.trans ka (by simp))
              have DA := hid (DD.out.trans ka (by simp))
              have SA := hid (SD.out.trans ka (by simp))
              (try go_wp2_with fail)
              refine hK.out _ _ (And.intro (HB.out _ DA.out).1 (And.intro (HB.out _ DA.out).2 ((HC.out _ KA.out).2))) (fun hHeld => ?_)
              clear hK K
              try simp only [Act.put, List.getElem_toArray, List.getElem_cons_zero, List.getElem_cons_succ, List.setIfInBounds_toArray, List.set_cons_zero, List.set_cons_succ]
              obtain ⟨qq, W1, wc, eqq, eW1, b1, eW2, b2, kW2, z2⟩ := boxV4Y wa ⟨vk, vb, vn, vt⟩
              have k1 : Kp [] wa W1 := by rw [← eW1]; exact (Kp.refl _ _).alloc _
              try dsimp only at eW2 b2
              have m0 := b1.get 0 _ rfl; have m1 := b1.get 1 _ rfl; have m2 := b1.get 2 _ rfl; have m3 := b1.get 3 _ rfl
              have f0 := b1.free 0; have f1 := b1.free 1; have f2 := b1.free 2; have f3 := b1.free 3
              have K2 := hid (KA.out.trans kW2 (by simp))
              have D2 := hid (DA.out.trans kW2 (by simp))
              have S2 := hid (SA.out.trans kW2 (by simp))
              have BP2 := hid ((BP.out.kept ka).kept kW2)
              have s1 := And.intro (HB.out _ (DA.out.trans k1 (by simp))).1 (And.intro (HB.out _ (DA.out.trans k1 (by simp))).2 ((HC.out _ (KA.out.trans k1 (by simp))).2))
              have s2 := And.intro (HB.out _ D2.out).1 (And.intro (HB.out _ D2.out).2 ((HC.out _ K2.out).2))
              refine wpAnyH_ready (rs := [7]) (by kernel_rfl) (by simp) ?_
              refine AllReadyH.cons rfl (fun K hK => ?_) AllReadyH.nil
              go_simp
              (try go_wp2_with fail)
              refine hK.out _ _ (s1) (fun hHeld => ?_)
              clear hK K
              try simp only [Act.put, List.getElem_toArray, List.getElem_cons_zero, List.getElem_cons_succ, List.setIfInBounds_toArray, List.set_cons_zero, List.set_cons_succ]
              refine wpAnyH_ready (rs := [8]) (by kernel_rfl) (by simp) ?_
              refine AllReadyH.cons rfl (fun K hK => ?_) AllReadyH.nil
              go_simp
              (try go_wp2_with fail)
              refine hK.out _ _ (s2) (fun hHeld => ?_)
              clear hK K
              try simp only [Act.put, List.getElem_toArray, List.getElem_cons_zero, List.getElem_cons_succ, List.setIfInBounds_toArray, List.set_cons_zero, List.set_cons_succ]
              refine wpAnyH_done (by kernel_rfl) ⟨rfl, ?_⟩ _
              clear hHeld m0 m1 m2 m3 f0 f1 f2 f3 eW2
              clear s1 s2 k1 kW2 ka KA DA SA b1 eW1 z2 KD DD SD
              have KC := hid K2.out
              have DC := hid D2.out
              have SC := hid S2.out
              have B13 := hid b2
              have BP := hid BP2.out
              clear K2 D2 S2 b2 BP2
              have p0 := BP.out.get 0 _ rfl; have p1 := BP.out.get 1 _ rfl; have p2 := BP.out.get 2 _ rfl; have p3 := BP.out.get 3 _ rfl
              have r0 := B13.out.get 0 _ rfl; have r1 := B13.out.get 1 _ rfl; have r2 := B13.out.get 2 _ rfl; have r3 := B13.out.get 3 _ rfl
              by_cases hp1 : uk = 0
              · have d1 : (uk == 0) = true := by simp [hp1]
                have d1n : (uk != 0) = false := by simp [hp1]
                have ht3 : Hid (t2 = t + (((M0.take (k + 1)).map (·.l)).filter (prJ lo ro xl)).length) := by show _ = _; rw [hfc.out, hpr.out, d1n, ht2.out]; simp
                clear hp1
                go_wp2_with fail
                go_roundw
                case rel => exact ⟨k + 1, t2, by omega, by go_num, rfl, ht3, SC⟩
                case measure => simp [intOf]; omega
              by_cases hp2 : vk = 0
              · have d1 : (uk == 0) = false := by simpa using hp1
                have d1n : (uk != 0) = true := by simpa using hp1
                have d2 : (vk == 0) = true := by simp [hp2]
                have d2n : (vk != 0) = false := by simp [hp2]
                have ht3 : Hid (t2 = t + (((M0.take (k + 1)).map (·.l)).filter (prJ lo ro xl)).length) := by show _ = _; rw [hfc.out, hpr.out, d1n, d2n, ht2.out]; simp
                clear hp1 hp2
                go_wp2_with fail
                go_roundw
                case rel => exact ⟨k + 1, t2, by omega, by go_num, rfl, ht3, SC⟩
                case measure => simp [intOf]; omega
              have d1 : (uk == 0) = false := by simpa using hp1
              have d1n : (uk != 0) = true := by simpa using hp1
              have d2 : (vk == 0) = false := by simpa using hp2
              have d2n : (vk != 0) = true := by simpa using hp2
              rw [d1n, d2n] at hpr
              obtain ⟨C, hCe⟩ : ∃ C, Hid (cmpV ⟨uk, ub, un, ut⟩ ⟨vk, vb, vn, vt⟩ = C) := ⟨_, rfl⟩
              rw [hCe.out] at hpr
              simp only [hCe.out] at cCm
              clear hp1 hp2
              go_wp2_with fail
              refine (cCm.out wc).mono ?_
              rintro e we ⟨rfl, ke⟩
              have KE := hid (KC.out.trans ke (by simp))
              have SE := hid (SC.out.trans ke (by simp))
              clear ke p0 p1 p2 p3 r0 r1 r2 r3 KC SC
              by_cases hC0 : C = 0
              · have d3 : (C != 0) = false := by simpa using hC0
                have d3n : (C == 0) = true := by simpa using hC0
                have hpt : prJ lo ro xl yl = true := by rw [hpr.out, d3n]; rfl
                have hnx := hat2.out hpt
                rw [← hte.out, ← ht2.out, ← HEX.out, List.getElem?_map] at hnx
                obtain ⟨nv, hnv, hne⟩ := Option.map_eq_some_iff.1 hnx
                have htl : t2 < NX.length := (List.getElem?_eq_some_iff.1 hnv).1
                have ht3 : Hid (t2 + 1 = t + (((M0.take (k + 1)).map (·.l)).filter (prJ lo ro xl)).length) := by show _ = _; rw [hfc.out, hpt, ht2.out]; simp; omega
                have hN6 := HEX.out
                have hnl : NX.length ≤ 1000000 := by have h1 := congrArg List.length hN6; have h2 := hNX.out; rw [List.length_map] at h1; omega
                obtain ⟨a', c', e', sn, _⟩ := HNX.out.row.see
                cases e'
                obtain ⟨gn, on, en, n0⟩ := vsAt sn hnv
                have hnli := hid (HNX.out.lies nv (List.mem_of_getElem? hnv))
                obtain ⟨na, nc, nl⟩ := nv
                dsimp only at n0 hne
                subst en
                have HC3 : Hid (∀ W', Kp [] w16 W' → Kp [] w W' → W'.cell? ⟨g, o + j, none⟩ = some (.slice xa xl.length xc) ∧ W'.cell? ⟨g2, o2 + k, none⟩ = some (.slice ya yl.length yc) ∧ W'.cell? ⟨gn, on + t2, none⟩ = some (.slice na nl.length nc)) := fun W' q q2 => ⟨(HC.out W' q2).1, (HC.out W' q2).2, kpAt q n0⟩
                have t1 : (0 : Int) ≤ (t2 : Int) := by omega
                have t2' : (t2 : Int) < (NX.length : Int) := by omega
                have t3 : (t2 : Int) + 1 ≤ 9223372036854775807 := by omega
                have dt : decide ((NX.length : Int) ≤ (t2 : Int)) = false := by simp; omega
                have dt2 : decide (NX.length ≤ t2) = false := by simp; omega
                have hne' := hid hne
                clear hC0 hpt hnx hnv hN6 sn n0 hne
                go_wp2_with fail
                refine wp_noPanicY ?_
                refine wp_region_held_drew (S := fun W' => W'.cell? ⟨g, o + j, none⟩ = some (.slice xa xl.length xc) ∧ W'.cell? ⟨g2, o2 + k, none⟩ = some (.slice ya yl.length yc) ∧ W'.cell? ⟨gn, on + t2, none⟩ = some (.slice na nl.length nc)) (by kernel_rfl) (HC3.out _ SE.out.drew KE.out.drew) (fun hHeld => ?_)
                have kd : Kp [] we we.drew := (Kp.refl _ _).drew
                generalize we.drew = wf at *
                have KF := hid (KE.out.trans kd (by simp))
                have SF := hid (SE.out.trans kd (by simp))
                have cJ := hid (rJoined xa ya xc yc xl yl wf (hxli.out.see.kept KF.out) (hyli.out.see.kept KF.out) (by omega))
                obtain ⟨zl, hzl⟩ : ∃ z, Hid (xl ++ yl = z) := ⟨_, rfl⟩
                rw [hzl.out] at cJ
                have hnz : nl = zl := hne'.out.trans hzl.out
                have hzn : zl.length ≤ 2097152 := by rw [← hzl.out]; simp; omega
                have hsv : sameV nl zl = true := by rw [hnz]; exact sameV_selfY _
                have HNZ2 := hid hnz
                clear hnz
                clear kd KE SE
                refine wpAnyH_take (i := 0) (v := ?_) rfl (by kernel_rfl) (by kernel_rfl) (by kernel_rfl) (fun _ _ _ h => by cases h.1) (Or.inl ⟨by rfl, ?_⟩) (by assumption) ?_
                rotate_left
                · intro w hSw; (try dsimp only at hSw); go_simp <;> with_reducible rfl
                try simp only [Act.put, List.getElem_toArray, List.getElem_cons_zero, List.getElem_cons_succ, List.setIfInBounds_toArray, List.set_cons_zero, List.set_cons_succ]
                refine wpAnyH_take (i := 1) (v := ?_) rfl (by kernel_rfl) (by kernel_rfl) (by kernel_rfl) (fun _ _ _ h => by cases h.1) (Or.inl ⟨by rfl, ?_⟩) (by assumption) ?_
                rotate_left
                · intro w hSw; (try dsimp only at hSw); go_simp <;> with_reducible rfl
                try simp only [Act.put, List.getElem_toArray, List.getElem_cons_zero, List.getElem_cons_succ, List.setIfInBounds_toArray, List.set_cons_zero, List.set_cons_succ]
                refine wpAnyH_take (i := 2) (v := ?_) rfl (by kernel_rfl) (by kernel_rfl) (by kernel_rfl) (fun _ _ _ h => by cases h.1) (Or.inl ⟨by rfl, ?_⟩) (by assumption) ?_
                rotate_left
                · intro w hSw; (try dsimp only at hSw); go_simp <;> with_reducible rfl
                try simp only [Act.put, List.getElem_toArray, List.getElem_cons_zero, List.getElem_cons_succ, List.setIfInBounds_toArray, List.set_cons_zero, List.set_cons_succ]
                refine wpAnyH_take (i := 3) (v := ?_) rfl (by kernel_rfl) (by kernel_rfl) (by kernel_rfl) (fun _ _ _ h => by cases h.1) (Or.inl ⟨by rfl, ?_⟩) (by assumption) ?_
                rotate_left
                · intro w hSw; (try dsimp only at hSw); go_simp <;> (try simp only [dt, dt2]) <;> with_reducible rfl
                try simp only [Act.put, List.getElem_toArray, List.getElem_cons_zero, List.getElem_cons_succ, List.setIfInBounds_toArray, List.set_cons_zero, List.set_cons_succ]
                try simp only [dt, dt2]
                refine wpAnyH_take (i := 4) (v := ?_) rfl (by kernel_rfl) (by kernel_rfl) (by kernel_rfl) (fun _ _ _ h => by cases h.1) (Or.inl ⟨by rfl, ?_⟩) (by assumption) ?_
                rotate_left
                · intro w hSw; (try dsimp only at hSw); go_simp <;> with_reducible rfl
                try simp only [Act.put, List.getElem_toArray, List.getElem_cons_zero, List.getElem_cons_succ, List.setIfInBounds_toArray, List.set_cons_zero, List.set_cons_succ]
                refine wpAnyH_take (i := 5) (v := ?_) rfl (by kernel_rfl) (by kernel_rfl) (by kernel_rfl) (fun _ _ _ h => by cases h.1) (Or.inl ⟨by rfl, ?_⟩) (by assumption) ?_
                rotate_left
                · intro w hSw; (try dsimp only at hSw); go_simp <;> with_reducible rfl
                try simp only [Act.put, List.getElem_toArray, List.getElem_cons_zero, List.getElem_cons_succ, List.setIfInBounds_toArray, List.set_cons_zero, List.set_cons_succ]
                refine wpAnyH_take (i := 6) (v := ?_) rfl (by kernel_rfl) (by kernel_rfl) (by kernel_rfl) (fun _ _ _ h => by cases h.1) (Or.inl ⟨by rfl, ?_⟩) (by assumption) ?_
                rotate_left
                · intro w hSw; (try dsimp only at hSw); go_simp <;> with_reducible rfl
                try simp only [Act.put, List.getElem_toArray, List.getElem_cons_zero, List.getElem_cons_succ, List.setIfInBounds_toArray, List.set_cons_zero, List.set_cons_succ]
                refine wpAnyH_take (i := 7) (v := ?_) rfl (by kernel_rfl) (by kernel_rfl) (by kernel_rfl) (fun _ _ _ h => by cases h.1) (Or.inl ⟨by rfl, ?_⟩) (by assumption) ?_
                rotate_left
                · intro w hSw; (try dsimp only at hSw); go_simp <;> with_reducible rfl
                try simp only [Act.put, List.getElem_toArray, List.getElem_cons_zero, List.getElem_cons_succ, List.setIfInBounds_toArray, List.set_cons_zero, List.set_cons_succ]
                refine wpAnyH_take (i := 8) (v := ?_) rfl (by kernel_rfl) (by kernel_rfl) (by kernel_rfl) (fun _ _ _ h => by cases h.1) (Or.inl ⟨by rfl, ?_⟩) (by assumption) ?_
                rotate_left
                · intro w hSw; (try dsimp only at hSw); go_simp <;> with_reducible rfl
                try simp only [Act.put, List.getElem_toArray, List.getElem_cons_zero, List.getElem_cons_succ, List.setIfInBounds_toArray, List.set_cons_zero, List.set_cons_succ]
                refine wpAnyH_take (i := 9) (v := ?_) rfl (by kernel_rfl) (by kernel_rfl) (by kernel_rfl) (fun _ _ _ h => by cases h.1) (Or.inl ⟨by rfl, ?_⟩) (by assumption) ?_
                rotate_left
                · intro w hSw; (try dsimp only at hSw); go_simp <;> with_reducible rfl
                try simp only [Act.put, List.getElem_toArray, List.getElem_cons_zero, List.getElem_cons_succ, List.setIfInBounds_toArray, List.set_cons_zero, List.set_cons_succ]
                refine wpAnyH_take (i := 10) (v := ?_) rfl (by kernel_rfl) (by kernel_rfl) (by kernel_rfl) (fun _ _ _ h => by cases h.1) (Or.inl ⟨by rfl, ?_⟩) (by assumption) ?_
                rotate_left
                · intro w hSw; (try dsimp only at hSw); go_simp <;> with_reducible rfl
                try simp only [Act.put, List.getElem_toArray, List.getElem_cons_zero, List.getElem_cons_succ, List.setIfInBounds_toArray, List.set_cons_zero, List.set_cons_succ]
                refine wpAnyH_take (i := 11) (v := ?_) rfl (by kernel_rfl) (by kernel_rfl) (by kernel_rfl) (fun _ _ _ h => by cases h.1) (Or.inl ⟨by rfl, ?_⟩) (by assumption) ?_
                rotate_left
                · intro w hSw; (try dsimp only at hSw); go_simp <;> with_reducible rfl
                try simp only [Act.put, List.getElem_toArray, List.getElem_cons_zero, List.getElem_cons_succ, List.setIfInBounds_toArray, List.set_cons_zero, List.set_cons_succ]
                refine wpAnyH_take (i := 12) (v := ?_) rfl (by kernel_rfl) (by kernel_rfl) (by kernel_rfl) (fun _ _ _ h => by cases h.1) (Or.inl ⟨by rfl, ?_⟩) (by assumption) ?_
                rotate_left
                · intro w hSw; (try dsimp only at hSw); go_simp <;> with_reducible rfl
                try simp only [Act.put, List.getElem_toArray, List.getElem_cons_zero, List.getElem_cons_succ, List.setIfInBounds_toArray, List.set_cons_zero, List.set_cons_succ]
                refine wpAnyH_take (i := 13) (v := ?_) rfl (by kernel_rfl) (by kernel_rfl) (by kernel_rfl) (fun _ _ _ h => by cases h.1) (Or.inl ⟨by rfl, ?_⟩) (by assumption) ?_
                rotate_left
                · intro w hSw; (try dsimp only at hSw); go_simp <;> with_reducible rfl
                try simp only [Act.put, List.getElem_toArray, List.getElem_cons_zero, List.getElem_cons_succ, List.setIfInBounds_toArray, List.set_cons_zero, List.set_cons_succ]
                refine wpAnyH_take (i := 14) (v := ?_) rfl (by kernel_rfl) (by kernel_rfl) (by kernel_rfl) (fun _ _ _ h => by cases h.1) (Or.inl ⟨by rfl, ?_⟩) (by assumption) ?_
                rotate_left
                · intro w hSw; (try dsimp only at hSw); go_simp <;> with_reducible rfl
                try simp only [Act.put, List.getElem_toArray, List.getElem_cons_zero, List.getElem_cons_succ, List.setIfInBounds_toArray, List.set_cons_zero, List.set_cons_succ]
                refine wpAnyH_take (i := 15) (v := ?_) rfl (by kernel_rfl) (by kernel_rfl) (by kernel_rfl) (fun _ _ _ h => by cases h.1) (Or.inl ⟨by rfl, ?_⟩) (by assumption) ?_
                rotate_left
                · intro w hSw; (try dsimp only at hSw); go_simp <;> with_reducible rfl
                try simp only [Act.put, List.getElem_toArray, List.getElem_cons_zero, List.getElem_cons_succ, List.setIfInBounds_toArray, List.set_cons_zero, List.set_cons_succ]
                refine wpAnyH_take (i := 16) (v := ?_) rfl (by kernel_rfl) (by kernel_rfl) (by kernel_rfl) (fun _ _ _ h => by cases h.1) (Or.inl ⟨by rfl, ?_⟩) (by assumption) ?_
                rotate_left
                · intro w hSw; (try dsimp only at hSw); go_simp <;> with_reducible rfl
                try simp only [Act.put, List.getElem_toArray, List.getElem_cons_zero, List.getElem_cons_succ, List.setIfInBounds_toArray, List.set_cons_zero, List.set_cons_succ]
                refine wpAnyH_ready (rs := [17]) (by kernel_rfl) (by simp) ?_
                refine AllReadyH.cons rfl (fun K hK => ?_) AllReadyH.nil
                go_simp
                refine cJ.out.mono ?_
                rintro e wg ⟨za, zc, rfl, hzr, kz, hzb⟩
                have KG := hid (KF.out.trans kz (by simp))
                have SG := hid (SF.out.trans kz (by simp))
                (try go_wp2_with fail)
                refine hK.out _ _ (HC3.out _ SG.out KG.out) (fun hHeld => ?_)
                clear hK K
                try simp only [Act.put, List.getElem_toArray, List.getElem_cons_zero, List.getElem_cons_succ, List.setIfInBounds_toArray, List.set_cons_zero, List.set_cons_succ]
                have cS0 := cSame na za nc zc nl zl wg (hnli.out.see.kept SG.out) (rowLies hzr).see (by have := hnli.out.cap; have := hnli.out.most; unfold maxLen at *; simp only at *; omega) (by omega)
                rw [hsv] at cS0
                have cS := hid cS0
                clear cS0 kz hzb
                refine wpAnyH_ready (rs := [18]) (by kernel_rfl) (by simp) ?_
                refine AllReadyH.cons rfl (fun K hK => ?_) AllReadyH.nil
                go_simp
                refine cS.out.mono ?_
                rintro e wh ⟨rfl, kh⟩
                have KH := hid (KG.out.trans kh (by simp))
                have SH := hid (SG.out.trans kh (by simp))
                (try go_wp2_with fail)
                refine hK.out _ _ (HC3.out _ SH.out KH.out) (fun hHeld => ?_)
                clear hK K
                try simp only [Act.put, List.getElem_toArray, List.getElem_cons_zero, List.getElem_cons_succ, List.setIfInBounds_toArray, List.set_cons_zero, List.set_cons_succ]
                refine wpAnyH_take (i := 19) (v := ?_) rfl (by kernel_rfl) (by kernel_rfl) (by kernel_rfl) (fun _ _ _ h => by cases h.1) (Or.inl ⟨by rfl, ?_⟩) (by assumption) ?_
                rotate_left
                · intro w hSw; (try dsimp only at hSw); go_simp <;> with_reducible rfl
                try simp only [Act.put, List.getElem_toArray, List.getElem_cons_zero, List.getElem_cons_succ, List.setIfInBounds_toArray, List.set_cons_zero, List.set_cons_succ]
                refine wpAnyH_take (i := 20) (v := ?_) rfl (by kernel_rfl) (by kernel_rfl) (by kernel_rfl) (fun _ _ _ h => by cases h.1) (Or.inl ⟨by rfl, ?_⟩) (by assumption) ?_
                rotate_left
                · intro w hSw; (try dsimp only at hSw); go_simp <;> with_reducible rfl
                try simp only [Act.put, List.getElem_toArray, List.getElem_cons_zero, List.getElem_cons_succ, List.setIfInBounds_toArray, List.set_cons_zero, List.set_cons_succ]
                refine wpAnyH_done (by kernel_rfl) ⟨rfl, ?_⟩ _
                clear hHeld cS cJ hzr kh KF SF KG SG
                go_wp2_with fail
                go_roundw
                case rel => exact ⟨k + 1, t2 + 1, by omega, by go_num, by go_num, ht3, SH⟩
                case measure => simp [intOf]; omega
              · have d3 : (C != 0) = true := by simpa using hC0
                have d3n : (C == 0) = false := beq_eq_false_iff_ne.2 hC0
                have ht3 : Hid (t2 = t + (((M0.take (k + 1)).map (·.l)).filter (prJ lo ro xl)).length) := by show _ = _; rw [hfc.out, hpr.out, d3n, ht2.out]; simp
                clear hC0
                go_wp2_with fail
                go_roundw
                case rel => exact ⟨k + 1, t2, by omega, by go_num, rfl, ht3, SE⟩
                case measure => simp [intOf]; omega
            · obtain ⟨qq, hqq⟩ : ∃ q, wd.heap.size = q := ⟨_, rfl⟩
              obtain ⟨W1, eW1, k1, b1⟩ : ∃ x, wd.alloc (.cells #[.int .i64 0, .bool false, .int .i64 0, .string ⟨#[]⟩] 33) = x ∧ Kp [] wd x ∧ Bn x qq [.int .i64 0, .bool false, .int .i64 0, .string ⟨#[]⟩] := ⟨_, rfl, (Kp.refl _ _).alloc _, by rw [← hqq]; exact Bn.new wd _ _⟩
              have KA := hid (KD.out.trans k1 (by simp))
              have DA := hid (DD.out.trans k1 (by simp))
              have SA := hid (SD.out.trans k1 (by simp))
              have s1 := And.intro (HB.out _ DA.out).1 (And.intro (HB.out _ DA.out).2 ((HC.out _ KA.out).2))
              go_simp
              (try go_wp2_with fail)
              refine hK.out _ _ (s1) (fun hHeld => ?_)
              clear hK K
              try simp only [Act.put, List.getElem_toArray, List.getElem_cons_zero, List.getElem_cons_succ, List.setIfInBounds_toArray, List.set_cons_zero, List.set_cons_succ]
              refine wpAnyH_ready (rs := [6]) (by kernel_rfl) (by simp) ?_
              refine AllReadyH.cons rfl (fun K hK => ?_) AllReadyH.nil
              go_simp
              refine (cAy.out W1 KA.out).mono ?_
              rintro e wa ⟨rfl, ka⟩
              have KB := hid (KA.out.trans ka (by simp))
              have DB := hid (DA.out.trans ka (by simp))
              have SB := hid (SA.out.trans ka (by simp))
              (try go_wp2_with fail)
              refine hK.out _ _ (And.intro (HB.out _ DB.out).1 (And.intro (HB.out _ DB.out).2 ((HC.out _ KB.out).2))) (fun hHeld => ?_)
              clear hK K
              try simp only [Act.put, List.getElem_toArray, List.getElem_cons_zero, List.getElem_cons_succ, List.setIfInBounds_toArray, List.set_cons_zero, List.set_cons_succ]
              replace b1 := b1.kept ka
              have m0 := b1.get 0 _ rfl; have m1 := b1.get 1 _ rfl; have m2 := b1.get 2 _ rfl; have m3 := b1.get 3 _ rfl
              have f0 := b1.free 0; have f1 := b1.free 1; have f2 := b1.free 2; have f3 := b1.free 3
              have hqw : wd.heap.size ≤ qq := by omega
              obtain ⟨wc, eW2, b2, kW2⟩ : ∃ x, ((((wa.setCell ⟨qq, 0, none⟩ (.int .i64 vk)).setCell ⟨qq, 1, none⟩ (.bool vb)).setCell ⟨qq, 2, none⟩ (.int .i64 vn)).setCell ⟨qq, 3, none⟩ (.string vt)) = x ∧ Bn x qq [.int .i64 vk, .bool vb, .int .i64 vn, .string vt] ∧ Kp [qq] wa x := ⟨_, rfl, (((b1.set 0 (by simp) (.int .i64 vk)).set 1 (by simp) (.bool vb)).set 2 (by simp) (.int .i64 vn)).set 3 (by simp) (.string vt), ((((Kp.refl _ _).setCell (by simp) _).setCell (by simp) _).setCell (by simp) _).setCell (by simp) _⟩
              have kda : Kp [] wd wc := (k1.trans ka (by simp)).trans kW2 (fun x hx => .inr (by simp at hx; omega))
              have K2 := hid (KD.out.trans kda (by simp))
              have D2 := hid (DD.out.trans kda (by simp))
              have S2 := hid (SD.out.trans kda (by simp))
              have BP2 := hid (BP.out.kept kda)
              have s2 := And.intro (HB.out _ D2.out).1 (And.intro (HB.out _ D2.out).2 ((HC.out _ K2.out).2))
              refine wpAnyH_ready (rs := [8]) (by kernel_rfl) (by simp) ?_
              refine AllReadyH.cons rfl (fun K hK => ?_) AllReadyH.nil
              go_simp
              (try go_wp2_with fail)
              refine hK.out _ _ (s2) (fun hHeld => ?_)
              clear hK K
              try simp only [Act.put, List.getElem_toArray, List.getElem_cons_zero, List.getElem_cons_succ, List.setIfInBounds_toArray, List.set_cons_zero, List.set_cons_succ]
              refine wpAnyH_done (by kernel_rfl) ⟨rfl, ?_⟩ _
              clear hHeld m0 m1 m2 m3 f0 f1 f2 f3 eW2
              clear s1 s2 k1 kW2 ka kda KA DA SA KB DB SB b1 eW1 KD DD SD hqw
              have KC := hid K2.out
              have DC := hid D2.out
              have SC := hid S2.out
              have B13 := hid b2
              have BP := hid BP2.out
              clear K2 D2 S2 b2 BP2
              have p0 := BP.out.get 0 _ rfl; have p1 := BP.out.get 1 _ rfl; have p2 := BP.out.get 2 _ rfl; have p3 := BP.out.get 3 _ rfl
              have r0 := B13.out.get 0 _ rfl; have r1 := B13.out.get 1 _ rfl; have r2 := B13.out.get 2 _ rfl; have r3 := B13.out.get 3 _ rfl
              by_cases hp1 : uk = 0
              · have d1 : (uk == 0) = true := by simp [hp1]
                have d1n : (uk != 0) = false := by simp [hp1]
                have ht3 : Hid (t2 = t + (((M0.take (k + 1)).map (·.l)).filter (prJ lo ro xl)).length) := by show _ = _; rw [hfc.out, hpr.out, d1n, ht2.out]; simp
                clear hp1
                go_wp2_with fail
                go_roundw
                case rel => exact ⟨k + 1, t2, by omega, by go_num, rfl, ht3, SC⟩
                case measure => simp [intOf]; omega
              by_cases hp2 : vk = 0
              · have d1 : (uk == 0) = false := by simpa using hp1
                have d1n : (uk != 0) = true := by simpa using hp1
                have d2 : (vk == 0) = true := by simp [hp2]
                have d2n : (vk != 0) = false := by simp [hp2]
                have ht3 : Hid (t2 = t + (((M0.take (k + 1)).map (·.l)).filter (prJ lo ro xl)).length) := by show _ = _; rw [hfc.out, hpr.out, d1n, d2n, ht2.out]; simp
                clear hp1 hp2
                go_wp2_with fail
                go_roundw
                case rel => exact ⟨k + 1, t2, by omega, by go_num, rfl, ht3, SC⟩
                case measure => simp [intOf]; omega
              have d1 : (uk == 0) = false := by simpa using hp1
              have d1n : (uk != 0) = true := by simpa using hp1
              have d2 : (vk == 0) = false := by simpa using hp2
              have d2n : (vk != 0) = true := by simpa using hp2
              rw [d1n, d2n] at hpr
              obtain ⟨C, hCe⟩ : ∃ C, Hid (cmpV ⟨uk, ub, un, ut⟩ ⟨vk, vb, vn, vt⟩ = C) := ⟨_, rfl⟩
              rw [hCe.out] at hpr
              simp only [hCe.out] at cCm
              clear hp1 hp2
              go_wp2_with fail
              refine (cCm.out wc).mono ?_
              rintro e we ⟨rfl, ke⟩
              have KE := hid (KC.out.trans ke (by simp))
              have SE := hid (SC.out.trans ke (by simp))
              clear ke p0 p1 p2 p3 r0 r1 r2 r3 KC SC
              by_cases hC0 : C = 0
              · have d3 : (C != 0) = false := by simpa using hC0
                have d3n : (C == 0) = true := by simpa using hC0
                have hpt : prJ lo ro xl yl = true := by rw [hpr.out, d3n]; rfl
                have hnx := hat2.out hpt
                rw [← hte.out, ← ht2.out, ← HEX.out, List.getElem?_map] at hnx
                obtain ⟨nv, hnv, hne⟩ := Option.map_eq_some_iff.1 hnx
                have htl : t2 < NX.length := (List.getElem?_eq_some_iff.1 hnv).1
                have ht3 : Hid (t2 + 1 = t + (((M0.take (k + 1)).map (·.l)).filter (prJ lo ro xl)).length) := by show _ = _; rw [hfc.out, hpt, ht2.out]; simp; omega
                have hN6 := HEX.out
                have hnl : NX.length ≤ 1000000 := by have h1 := congrArg List.length hN6; have h2 := hNX.out; rw [List.length_map] at h1; omega
                obtain ⟨a', c', e', sn, _⟩ := HNX.out.row.see
                cases e'
                obtain ⟨gn, on, en, n0⟩ := vsAt sn hnv
                have hnli := hid (HNX.out.lies nv (List.mem_of_getElem? hnv))
                obtain ⟨na, nc, nl⟩ := nv
                dsimp only at n0 hne
                subst en
                have HC3 : Hid (∀ W', Kp [] w16 W' → Kp [] w W' → W'.cell? ⟨g, o + j, none⟩ = some (.slice xa xl.length xc) ∧ W'.cell? ⟨g2, o2 + k, none⟩ = some (.slice ya yl.length yc) ∧ W'.cell? ⟨gn, on + t2, none⟩ = some (.slice na nl.length nc)) := fun W' q q2 => ⟨(HC.out W' q2).1, (HC.out W' q2).2, kpAt q n0⟩
                have t1 : (0 : Int) ≤ (t2 : Int) := by omega
                have t2' : (t2 : Int) < (NX.length : Int) := by omega
                have t3 : (t2 : Int) + 1 ≤ 9223372036854775807 := by omega
                have dt : decide ((NX.length : Int) ≤ (t2 : Int)) = false := by simp; omega
                have dt2 : decide (NX.length ≤ t2) = false := by simp; omega
                have hne' := hid hne
                clear hC0 hpt hnx hnv hN6 sn n0 hne
                go_wp2_with fail
                refine wp_noPanicY ?_
                refine wp_region_held_drew (S := fun W' => W'.cell? ⟨g, o + j, none⟩ = some (.slice xa xl.length xc) ∧ W'.cell? ⟨g2, o2 + k, none⟩ = some (.slice ya yl.length yc) ∧ W'.cell? ⟨gn, on + t2, none⟩ = some (.slice na nl.length nc)) (by kernel_rfl) (HC3.out _ SE.out.drew KE.out.drew) (fun hHeld => ?_)
                have kd : Kp [] we we.drew := (Kp.refl _ _).drew
                generalize we.drew = wf at *
                have KF := hid (KE.out.trans kd (by simp))
                have SF := hid (SE.out.trans kd (by simp))
                have cJ := hid (rJoined xa ya xc yc xl yl wf (hxli.out.see.kept KF.out) (hyli.out.see.kept KF.out) (by omega))
                obtain ⟨zl, hzl⟩ : ∃ z, Hid (xl ++ yl = z) := ⟨_, rfl⟩
                rw [hzl.out] at cJ
                have hnz : nl = zl := hne'.out.trans hzl.out
                have hzn : zl.length ≤ 2097152 := by rw [← hzl.out]; simp; omega
                have hsv : sameV nl zl = true := by rw [hnz]; exact sameV_selfY _
                have HNZ2 := hid hnz
                clear hnz
                clear kd KE SE
                refine wpAnyH_take (i := 0) (v := ?_) rfl (by kernel_rfl) (by kernel_rfl) (by kernel_rfl) (fun _ _ _ h => by cases h.1) (Or.inl ⟨by rfl, ?_⟩) (by assumption) ?_
                rotate_left
                · intro w hSw; (try dsimp only at hSw); go_simp <;> with_reducible rfl
                try simp only [Act.put, List.getElem_toArray, List.getElem_cons_zero, List.getElem_cons_succ, List.setIfInBounds_toArray, List.set_cons_zero, List.set_cons_succ]
                refine wpAnyH_take (i := 1) (v := ?_) rfl (by kernel_rfl) (by kernel_rfl) (by kernel_rfl) (fun _ _ _ h => by cases h.1) (Or.inl ⟨by rfl, ?_⟩) (by assumption) ?_
                rotate_left
                · intro w hSw; (try dsimp only at hSw); go_simp <;> with_reducible rfl
                try simp only [Act.put, List.getElem_toArray, List.getElem_cons_zero, List.getElem_cons_succ, List.setIfInBounds_toArray, List.set_cons_zero, List.set_cons_succ]
                refine wpAnyH_take (i := 2) (v := ?_) rfl (by kernel_rfl) (by kernel_rfl) (by kernel_rfl) (fun _ _ _ h => by cases h.1) (Or.inl ⟨by rfl, ?_⟩) (by assumption) ?_
                rotate_left
                · intro w hSw; (try dsimp only at hSw); go_simp <;> with_reducible rfl
                try simp only [Act.put, List.getElem_toArray, List.getElem_cons_zero, List.getElem_cons_succ, List.setIfInBounds_toArray, List.set_cons_zero, List.set_cons_succ]
                refine wpAnyH_take (i := 3) (v := ?_) rfl (by kernel_rfl) (by kernel_rfl) (by kernel_rfl) (fun _ _ _ h => by cases h.1) (Or.inl ⟨by rfl, ?_⟩) (by assumption) ?_
                rotate_left
                · intro w hSw; (try dsimp only at hSw); go_simp <;> (try simp only [dt, dt2]) <;> with_reducible rfl
                try simp only [Act.put, List.getElem_toArray, List.getElem_cons_zero, List.getElem_cons_succ, List.setIfInBounds_toArray, List.set_cons_zero, List.set_cons_succ]
                try simp only [dt, dt2]
                refine wpAnyH_take (i := 4) (v := ?_) rfl (by kernel_rfl) (by kernel_rfl) (by kernel_rfl) (fun _ _ _ h => by cases h.1) (Or.inl ⟨by rfl, ?_⟩) (by assumption) ?_
                rotate_left
                · intro w hSw; (try dsimp only at hSw); go_simp <;> with_reducible rfl
                try simp only [Act.put, List.getElem_toArray, List.getElem_cons_zero, List.getElem_cons_succ, List.setIfInBounds_toArray, List.set_cons_zero, List.set_cons_succ]
                refine wpAnyH_take (i := 5) (v := ?_) rfl (by kernel_rfl) (by kernel_rfl) (by kernel_rfl) (fun _ _ _ h => by cases h.1) (Or.inl ⟨by rfl, ?_⟩) (by assumption) ?_
                rotate_left
                · intro w hSw; (try dsimp only at hSw); go_simp <;> with_reducible rfl
                try simp only [Act.put, List.getElem_toArray, List.getElem_cons_zero, List.getElem_cons_succ, List.setIfInBounds_toArray, List.set_cons_zero, List.set_cons_succ]
                refine wpAnyH_take (i := 6) (v := ?_) rfl (by kernel_rfl) (by kernel_rfl) (by kernel_rfl) (fun _ _ _ h => by cases h.1) (Or.inl ⟨by rfl, ?_⟩) (by assumption) ?_
                rotate_left
                · intro w hSw; (try dsimp only at hSw); go_simp <;> with_reducible rfl
                try simp only [Act.put, List.getElem_toArray, List.getElem_cons_zero, List.getElem_cons_succ, List.setIfInBounds_toArray, List.set_cons_zero, List.set_cons_succ]
                refine wpAnyH_take (i := 7) (v := ?_) rfl (by kernel_rfl) (by kernel_rfl) (by kernel_rfl) (fun _ _ _ h => by cases h.1) (Or.inl ⟨by rfl, ?_⟩) (by assumption) ?_
                rotate_left
                · intro w hSw; (try dsimp only at hSw); go_simp <;> with_reducible rfl
                try simp only [Act.put, List.getElem_toArray, List.getElem_cons_zero, List.getElem_cons_succ, List.setIfInBounds_toArray, List.set_cons_zero, List.set_cons_succ]
                refine wpAnyH_take (i := 8) (v := ?_) rfl (by kernel_rfl) (by kernel_rfl) (by kernel_rfl) (fun _ _ _ h => by cases h.1) (Or.inl ⟨by rfl, ?_⟩) (by assumption) ?_
                rotate_left
                · intro w hSw; (try dsimp only at hSw); go_simp <;> with_reducible rfl
                try simp only [Act.put, List.getElem_toArray, List.getElem_cons_zero, List.getElem_cons_succ, List.setIfInBounds_toArray, List.set_cons_zero, List.set_cons_succ]
                refine wpAnyH_take (i := 9) (v := ?_) rfl (by kernel_rfl) (by kernel_rfl) (by kernel_rfl) (fun _ _ _ h => by cases h.1) (Or.inl ⟨by rfl, ?_⟩) (by assumption) ?_
                rotate_left
                · intro w hSw; (try dsimp only at hSw); go_simp <;> with_reducible rfl
                try simp only [Act.put, List.getElem_toArray, List.getElem_cons_zero, List.getElem_cons_succ, List.setIfInBounds_toArray, List.set_cons_zero, List.set_cons_succ]
                refine wpAnyH_take (i := 10) (v := ?_) rfl (by kernel_rfl) (by kernel_rfl) (by kernel_rfl) (fun _ _ _ h => by cases h.1) (Or.inl ⟨by rfl, ?_⟩) (by assumption) ?_
                rotate_left
                · intro w hSw; (try dsimp only at hSw); go_simp <;> with_reducible rfl
                try simp only [Act.put, List.getElem_toArray, List.getElem_cons_zero, List.getElem_cons_succ, List.setIfInBounds_toArray, List.set_cons_zero, List.set_cons_succ]
                refine wpAnyH_take (i := 11) (v := ?_) rfl (by kernel_rfl) (by kernel_rfl) (by kernel_rfl) (fun _ _ _ h => by cases h.1) (Or.inl ⟨by rfl, ?_⟩) (by assumption) ?_
                rotate_left
                · intro w hSw; (try dsimp only at hSw); go_simp <;> with_reducible rfl
                try simp only [Act.put, List.getElem_toArray, List.getElem_cons_zero, List.getElem_cons_succ, List.setIfInBounds_toArray, List.set_cons_zero, List.set_cons_succ]
                refine wpAnyH_take (i := 12) (v := ?_) rfl (by kernel_rfl) (by kernel_rfl) (by kernel_rfl) (fun _ _ _ h => by cases h.1) (Or.inl ⟨by rfl, ?_⟩) (by assumption) ?_
                rotate_left
                · intro w hSw; (try dsimp only at hSw); go_simp <;> with_reducible rfl
                try simp only [Act.put, List.getElem_toArray, List.getElem_cons_zero, List.getElem_cons_succ, List.setIfInBounds_toArray, List.set_cons_zero, List.set_cons_succ]
                refine wpAnyH_take (i := 13) (v := ?_) rfl (by kernel_rfl) (by kernel_rfl) (by kernel_rfl) (fun _ _ _ h => by cases h.1) (Or.inl ⟨by rfl, ?_⟩) (by assumption) ?_
                rotate_left
                · intro w hSw; (try dsimp only at hSw); go_simp <;> with_reducible rfl
                try simp only [Act.put, List.getElem_toArray, List.getElem_cons_zero, List.getElem_cons_succ, List.setIfInBounds_toArray, List.set_cons_zero, List.set_cons_succ]
                refine wpAnyH_take (i := 14) (v := ?_) rfl (by kernel_rfl) (by kernel_rfl) (by kernel_rfl) (fun _ _ _ h => by cases h.1) (Or.inl ⟨by rfl, ?_⟩) (by assumption) ?_
                rotate_left
                · intro w hSw; (try dsimp only at hSw); go_simp <;> with_reducible rfl
                try simp only [Act.put, List.getElem_toArray, List.getElem_cons_zero, List.getElem_cons_succ, List.setIfInBounds_toArray, List.set_cons_zero, List.set_cons_succ]
                refine wpAnyH_take (i := 15) (v := ?_) rfl (by kernel_rfl) (by kernel_rfl) (by kernel_rfl) (fun _ _ _ h => by cases h.1) (Or.inl ⟨by rfl, ?_⟩) (by assumption) ?_
                rotate_left
                · intro w hSw; (try dsimp only at hSw); go_simp <;> with_reducible rfl
                try simp only [Act.put, List.getElem_toArray, List.getElem_cons_zero, List.getElem_cons_succ, List.setIfInBounds_toArray, List.set_cons_zero, List.set_cons_succ]
                refine wpAnyH_take (i := 16) (v := ?_) rfl (by kernel_rfl) (by kernel_rfl) (by kernel_rfl) (fun _ _ _ h => by cases h.1) (Or.inl ⟨by rfl, ?_⟩) (by assumption) ?_
                rotate_left
                · intro w hSw; (try dsimp only at hSw); go_simp <;> with_reducible rfl
                try simp only [Act.put, List.getElem_toArray, List.getElem_cons_zero, List.getElem_cons_succ, List.setIfInBounds_toArray, List.set_cons_zero, List.set_cons_succ]
                refine wpAnyH_ready (rs := [17]) (by kernel_rfl) (by simp) ?_
                refine AllReadyH.cons rfl (fun K hK => ?_) AllReadyH.nil
                go_simp
                refine cJ.out.mono ?_
                rintro e wg ⟨za, zc, rfl, hzr, kz, hzb⟩
                have KG := hid (KF.out.trans kz (by simp))
                have SG := hid (SF.out.trans kz (by simp))
                (try go_wp2_with fail)
                refine hK.out _ _ (HC3.out _ SG.out KG.out) (fun hHeld => ?_)
                clear hK K
                try simp only [Act.put, List.getElem_toArray, List.getElem_cons_zero, List.getElem_cons_succ, List.setIfInBounds_toArray, List.set_cons_zero, List.set_cons_succ]
                have cS0 := cSame na za nc zc nl zl wg (hnli.out.see.kept SG.out) (rowLies hzr).see (by have := hnli.out.cap; have := hnli.out.most; unfold maxLen at *; simp only at *; omega) (by omega)
                rw [hsv] at cS0
                have cS := hid cS0
                clear cS0 kz hzb
                refine wpAnyH_ready (rs := [18]) (by kernel_rfl) (by simp) ?_
                refine AllReadyH.cons rfl (fun K hK => ?_) AllReadyH.nil
                go_simp
                refine cS.out.mono ?_
                rintro e wh ⟨rfl, kh⟩
                have KH := hid (KG.out.trans kh (by simp))
                have SH := hid (SG.out.trans kh (by simp))
                (try go_wp2_with fail)
                refine hK.out _ _ (HC3.out _ SH.out KH.out) (fun hHeld => ?_)
                clear hK K
                try simp only [Act.put, List.getElem_toArray, List.getElem_cons_zero, List.getElem_cons_succ, List.setIfInBounds_toArray, List.set_cons_zero, List.set_cons_succ]
                refine wpAnyH_take (i := 19) (v := ?_) rfl (by kernel_rfl) (by kernel_rfl) (by kernel_rfl) (fun _ _ _ h => by cases h.1) (Or.inl ⟨by rfl, ?_⟩) (by assumption) ?_
                rotate_left
                · intro w hSw; (try dsimp only at hSw); go_simp <;> with_reducible rfl
                try simp only [Act.put, List.getElem_toArray, List.getElem_cons_zero, List.getElem_cons_succ, List.setIfInBounds_toArray, List.set_cons_zero, List.set_cons_succ]
                refine wpAnyH_take (i := 20) (v := ?_) rfl (by kernel_rfl) (by kernel_rfl) (by kernel_rfl) (fun _ _ _ h => by cases h.1) (Or.inl ⟨by rfl, ?_⟩) (by assumption) ?_
                rotate_left
                · intro w hSw; (try dsimp only at hSw); go_simp <;> with_reducible rfl
                try simp only [Act.put, List.getElem_toArray, List.getElem_cons_zero, List.getElem_cons_succ, List.setIfInBounds_toArray, List.set_cons_zero, List.set_cons_succ]
                refine wpAnyH_done (by kernel_rfl) ⟨rfl, ?_⟩ _
                clear hHeld cS cJ hzr kh KF SF KG SG
                go_wp2_with fail
                go_roundw
                case rel => exact ⟨k + 1, t2 + 1, by omega, by go_num, by go_num, ht3, SH⟩
                case measure => simp [intOf]; omega
              · have d3 : (C != 0) = true := by simpa using hC0
                have d3n : (C == 0) = false := beq_eq_false_iff_ne.2 hC0
                have ht3 : Hid (t2 = t + (((M0.take (k + 1)).map (·.l)).filter (prJ lo ro xl)).length) := by show _ = _; rw [hfc.out, hpr.out, d3n, ht2.out]; simp
                clear hC0
                go_wp2_with fail
                go_roundw
                case rel => exact ⟨k + 1, t2, by omega, by go_num, rfl, ht3, SE⟩
                case measure => simp [intOf]; omega
          · obtain ⟨qq, hqq⟩ : ∃ q, wd.heap.size = q := ⟨_, rfl⟩
            obtain ⟨W1, eW1, k1, b1⟩ : ∃ x, wd.alloc (.cells #[.int .i64 0, .bool false, .int .i64 0, .string ⟨#[]⟩] 33) = x ∧ Kp [] wd x ∧ Bn x qq [.int .i64 0, .bool false, .int .i64 0, .string ⟨#[]⟩] := ⟨_, rfl, (Kp.refl _ _).alloc _, by rw [← hqq]; exact Bn.new wd _ _⟩
            have KA := hid (KD.out.trans k1 (by simp))
            have DA := hid (DD.out.trans k1 (by simp))
            have SA := hid (SD.out.trans k1 (by simp))
            have s1 := And.intro (HB.out _ DA.out).1 (And.intro (HB.out _ DA.out).2 (HX.out _ KA.out))
            go_simp
            (try go_wp2_with fail)
            refine hK.out _ _ (s1) (fun hHeld => ?_)
            clear hK K
            try simp only [Act.put, List.getElem_toArray, List.getElem_cons_zero, List.getElem_cons_succ, List.setIfInBounds_toArray, List.set_cons_zero, List.set_cons_succ]
            refine wpAnyH_ready (rs := [6]) (by kernel_rfl) (by simp) ?_
            refine AllReadyH.cons rfl (fun K hK => ?_) AllReadyH.nil
            go_simp
            refine (cAx.out W1 KA.out).mono ?_
            rintro e wa ⟨rfl, ka⟩
            have KB := hid (KA.out.trans ka (by simp))
            have DB := hid (DA.out.trans ka (by simp))
            have SB := hid (SA.out.trans ka (by simp))
            (try go_wp2_with fail)
            refine hK.out _ _ (And.intro (HB.out _ DB.out).1 (And.intro (HB.out _ DB.out).2 (HX.out _ KB.out))) (fun hHeld => ?_)
            clear hK K
            try simp only [Act.put, List.getElem_toArray, List.getElem_cons_zero, List.getElem_cons_succ, List.setIfInBounds_toArray, List.set_cons_zero, List.set_cons_succ]
            replace b1 := b1.kept ka
            have m0 := b1.get 0 _ rfl; have m1 := b1.get 1 _ rfl; have m2 := b1.get 2 _ rfl; have m3 := b1.get 3 _ rfl
            have f0 := b1.free 0; have f1 := b1.free 1; have f2 := b1.free 2; have f3 := b1.free 3
            have hqw : wd.heap.size ≤ qq := by omega
            obtain ⟨wc, eW2, b2, kW2⟩ : ∃ x, ((((wa.setCell ⟨qq, 0, none⟩ (.int .i64 uk)).setCell ⟨qq, 1, none⟩ (.bool ub)).setCell ⟨qq, 2, none⟩ (.int .i64 un)).setCell ⟨qq, 3, none⟩ (.string ut)) = x ∧ Bn x qq [.int .i64 uk, .bool ub, .int .i64 un, .string ut] ∧ Kp [qq] wa x := ⟨_, rfl, (((b1.set 0 (by simp) (.int .i64 uk)).set 1 (by simp) (.bool ub)).set 2 (by simp) (.int .i64 un)).set 3 (by simp) (.string ut), ((((Kp.refl _ _).setCell (by simp) _).setCell (by simp) _).setCell (by simp) _).setCell (by simp) _⟩
            have kda : Kp [] wd wc := (k1.trans ka (by simp)).trans kW2 (fun x hx => .inr (by simp at hx; omega))
            have K2 := hid (KD.out.trans kda (by simp))
            have D2 := hid (DD.out.trans kda (by simp))
            have S2 := hid (SD.out.trans kda (by simp))
            have s2 := And.intro (HB.out _ D2.out).1 (And.intro (HB.out _ D2.out).2 (HX.out _ K2.out))
            refine wpAnyH_ready (rs := [8]) (by kernel_rfl) (by simp) ?_
            refine AllReadyH.cons rfl (fun K hK => ?_) AllReadyH.nil
            go_simp
            (try go_wp2_with fail)
            refine hK.out _ _ (s2) (fun hHeld => ?_)
            clear hK K
            try simp only [Act.put, List.getElem_toArray, List.getElem_cons_zero, List.getElem_cons_succ, List.setIfInBounds_toArray, List.set_cons_zero, List.set_cons_succ]
            refine wpAnyH_done (by kernel_rfl) ⟨rfl, ?_⟩ _
            clear hHeld m0 m1 m2 m3 f0 f1 f2 f3 eW2
            clear s1 s2 k1 kW2 ka kda KA DA SA KB DB SB b1 eW1 KD DD SD hqw
            have KC := hid K2.out
            have DC := hid D2.out
            have SC := hid S2.out
            have B12 := hid b2
            clear K2 D2 S2 b2
            have BP := B12
            clear B12
            go_wp2_with fail
            refine wp_noPanicY ?_
            refine wp_region_held_drew (S := fun W' => W'.cell? ⟨q5, 0, none⟩ = some (.int .i64 lo) ∧ W'.cell? ⟨q5, 1, none⟩ = some (.int .i64 ro) ∧ W'.cell? ⟨g2, o2 + k, none⟩ = some (.slice ya yl.length yc)) (by kernel_rfl) (And.intro (HB.out _ DC.out.drew).1 (And.intro (HB.out _ DC.out.drew).2 ((HC.out _ KC.out.drew).2))) (fun hHeld => ?_)
            have kd13 : Kp [] wc wc.drew := (Kp.refl _ _).drew
            generalize wc.drew = wd at *
            have KD := hid (KC.out.trans kd13 (by simp))
            have DD := hid (DC.out.trans kd13 (by simp))
            have SD := hid (SC.out.trans kd13 (by simp))
            have BP := hid (BP.out.kept kd13)
            clear kd13 KC DC SC
            refine wpAnyH_take (i := 0) (v := ?_) rfl (by kernel_rfl) (by kernel_rfl) (by kernel_rfl) (fun _ _ _ h => by cases h.1) (Or.inl ⟨by rfl, ?_⟩) (by assumption) ?_
            rotate_left
            · intro w hSw; (try dsimp only at hSw); go_simp <;> with_reducible rfl
            try simp only [Act.put, List.getElem_toArray, List.getElem_cons_zero, List.getElem_cons_succ, List.setIfInBounds_toArray, List.set_cons_zero, List.set_cons_succ]
            refine wpAnyH_take (i := 1) (v := ?_) rfl (by kernel_rfl) (by kernel_rfl) (by kernel_rfl) (fun _ _ _ h => by cases h.1) (Or.inl ⟨by rfl, ?_⟩) (by assumption) ?_
            rotate_left
            · intro w hSw; (try dsimp only at hSw); go_simp <;> with_reducible rfl
            try simp only [Act.put, List.getElem_toArray, List.getElem_cons_zero, List.getElem_cons_succ, List.setIfInBounds_toArray, List.set_cons_zero, List.set_cons_succ]
            refine wpAnyH_take (i := 2) (v := ?_) rfl (by kernel_rfl) (by kernel_rfl) (by kernel_rfl) (fun _ _ _ h => by cases h.1) (Or.inl ⟨by rfl, ?_⟩) (by assumption) ?_
            rotate_left
            · intro w hSw; (try dsimp only at hSw); go_simp <;> with_reducible rfl
            try simp only [Act.put, List.getElem_toArray, List.getElem_cons_zero, List.getElem_cons_succ, List.setIfInBounds_toArray, List.set_cons_zero, List.set_cons_succ]
            refine wpAnyH_take (i := 3) (v := ?_) rfl (by kernel_rfl) (by kernel_rfl) (by kernel_rfl) (fun _ _ _ h => by cases h.1) (Or.inl ⟨by rfl, ?_⟩) (by assumption) ?_
            rotate_left
            · intro w hSw; (try dsimp only at hSw); go_simp <;> with_reducible rfl
            try simp only [Act.put, List.getElem_toArray, List.getElem_cons_zero, List.getElem_cons_succ, List.setIfInBounds_toArray, List.set_cons_zero, List.set_cons_succ]
            refine wpAnyH_take (i := 4) (v := ?_) rfl (by kernel_rfl) (by kernel_rfl) (by kernel_rfl) (fun _ _ _ h => by cases h.1) (Or.inl ⟨by rfl, ?_⟩) (by assumption) ?_
            rotate_left
            · intro w hSw; (try dsimp only at hSw); go_simp <;> with_reducible rfl
            try simp only [Act.put, List.getElem_toArray, List.getElem_cons_zero, List.getElem_cons_succ, List.setIfInBounds_toArray, List.set_cons_zero, List.set_cons_succ]
            refine wpAnyH_take (i := 5) (v := ?_) rfl (by kernel_rfl) (by kernel_rfl) (by kernel_rfl) (fun _ _ _ h => by cases h.1) (Or.inl ⟨by rfl, ?_⟩) (by assumption) ?_
            rotate_left
            · intro w hSw; (try dsimp only at hSw); go_simp <;> with_reducible rfl
            try simp only [Act.put, List.getElem_toArray, List.getElem_cons_zero, List.getElem_cons_succ, List.setIfInBounds_toArray, List.set_cons_zero, List.set_cons_succ]
            refine wpAnyH_ready (rs := [6, 7]) (by kernel_rfl) (by simp) ?_
            refine AllReadyH.cons rfl (fun K hK => ?_) (AllReadyH.cons rfl (fun K hK => ?_) AllReadyH.nil)
            · go_simp
              refine (cAy.out wd KD.out).mono ?_
              rintro e wa ⟨rfl, ka⟩
              have KA := hid (KD.out.trans ka (by simp))
              have DA := hid (DD.out.trans ka (by simp))
              have SA := hid (SD.out.trans ka (by simp))
              (try go_wp2_with fail)
              refine hK.out _ _ (And.intro (HB.out _ DA.out).1 (And.intro (HB.out _ DA.out).2 ((HC.out _ KA.out).2))) (fun hHeld => ?_)
              clear hK K
              try simp only [Act.put, List.getElem_toArray, List.getElem_cons_zero, List.getElem_cons_succ, List.setIfInBounds_toArray, List.set_cons_zero, List.set_cons_succ]
              obtain ⟨qq, W1, wc, eqq, eW1, b1, eW2, b2, kW2, z2⟩ := boxV4Y wa ⟨vk, vb, vn, vt⟩
              have k1 : Kp [] wa W1 := by rw [← eW1]; exact (Kp.refl _ _).alloc _
              try dsimp only at eW2 b2
              have m0 := b1.get 0 _ rfl; have m1 := b1.get 1 _ rfl; have m2 := b1.get 2 _ rfl; have m3 := b1.get 3 _ rfl
              have f0 := b1.free 0; have f1 := b1.free 1; have f2 := b1.free 2; have f3 := b1.free 3
              have K2 := hid (KA.out.trans kW2 (by simp))
              have D2 := hid (DA.out.trans kW2 (by simp))
              have S2 := hid (SA.out.trans kW2 (by simp))
              have BP2 := hid ((BP.out.kept ka).kept kW2)
              have s1 := And.intro (HB.out _ (DA.out.trans k1 (by simp))).1 (And.intro (HB.out _ (DA.out.trans k1 (by simp))).2 ((HC.out _ (KA.out.trans k1 (by simp))).2))
              have s2 := And.intro (HB.out _ D2.out).1 (And.intro (HB.out _ D2.out).2 ((HC.out _ K2.out).2))
              refine wpAnyH_ready (rs := [7]) (by kernel_rfl) (by simp) ?_
              refine AllReadyH.cons rfl (fun K hK => ?_) AllReadyH.nil
              go_simp
              (try go_wp2_with fail)
              refine hK.out _ _ (s1) (fun hHeld => ?_)
              clear hK K
              try simp only [Act.put, List.getElem_toArray, List.getElem_cons_zero, List.getElem_cons_succ, List.setIfInBounds_toArray, List.set_cons_zero, List.set_cons_succ]
              refine wpAnyH_ready (rs := [8]) (by kernel_rfl) (by simp) ?_
              refine AllReadyH.cons rfl (fun K hK => ?_) AllReadyH.nil
              go_simp
              (try go_wp2_with fail)
              refine hK.out _ _ (s2) (fun hHeld => ?_)
              clear hK K
              try simp only [Act.put, List.getElem_toArray, List.getElem_cons_zero, List.getElem_cons_succ, List.setIfInBounds_toArray, List.set_cons_zero, List.set_cons_succ]
              refine wpAnyH_done (by kernel_rfl) ⟨rfl, ?_⟩ _
              clear hHeld m0 m1 m2 m3 f0 f1 f2 f3 eW2
              clear s1 s2 k1 kW2 ka KA DA SA b1 eW1 z2 KD DD SD
              have KC := hid K2.out
              have DC := hid D2.out
              have SC := hid S2.out
              have B13 := hid b2
              have BP := hid BP2.out
              clear K2 D2 S2 b2 BP2
              have p0 := BP.out.get 0 _ rfl; have p1 := BP.out.get 1 _ rfl; have p2 := BP.out.get 2 _ rfl; have p3 := BP.out.get 3 _ rfl
              have r0 := B13.out.get 0 _ rfl; have r1 := B13.out.get 1 _ rfl; have r2 := B13.out.get 2 _ rfl; have r3 := B13.out.get 3 _ rfl
              by_cases hp1 : uk = 0
              · have d1 : (uk == 0) = true := by simp [hp1]
                have d1n : (uk != 0) = false := by simp [hp1]
                have ht3 : Hid (t2 = t + (((M0.take (k + 1)).map (·.l)).filter (prJ lo ro xl)).length) := by show _ = _; rw [hfc.out, hpr.out, d1n, ht2.out]; simp
                clear hp1
                go_wp2_with fail
                go_roundw
                case rel => exact ⟨k + 1, t2, by omega, by go_num, rfl, ht3, SC⟩
                case measure => simp [intOf]; omega
              by_cases hp2 : vk = 0
              · have d1 : (uk == 0) = false := by simpa using hp1
                have d1n : (uk != 0) = true := by simpa using hp1
                have d2 : (vk == 0) = true := by simp [hp2]
                have d2n : (vk != 0) = false := by simp [hp2]
                have ht3 : Hid (t2 = t + (((M0.take (k + 1)).map (·.l)).filter (prJ lo ro xl)).length) := by show _ = _; rw [hfc.out, hpr.out, d1n, d2n, ht2.out]; simp
                clear hp1 hp2
                go_wp2_with fail
                go_roundw
                case rel => exact ⟨k + 1, t2, by omega, by go_num, rfl, ht3, SC⟩
                case measure => simp [intOf]; omega
              have d1 : (uk == 0) = false := by simpa using hp1
              have d1n : (uk != 0) = true := by simpa using hp1
              have d2 : (vk == 0) = false := by simpa using hp2
              have d2n : (vk != 0) = true := by simpa using hp2
              rw [d1n, d2n] at hpr
              obtain ⟨C, hCe⟩ : ∃ C, Hid (cmpV ⟨uk, ub, un, ut⟩ ⟨vk, vb, vn, vt⟩ = C) := ⟨_, rfl⟩
              rw [hCe.out] at hpr
              simp only [hCe.out] at cCm
              clear hp1 hp2
              go_wp2_with fail
              refine (cCm.out wc).mono ?_
              rintro e we ⟨rfl, ke⟩
              have KE := hid (KC.out.trans ke (by simp))
              have SE := hid (SC.out.trans ke (by simp))
              clear ke p0 p1 p2 p3 r0 r1 r2 r3 KC SC
              by_cases hC0 : C = 0
              · have d3 : (C != 0) = false := by simpa using hC0
                have d3n : (C == 0) = true := by simpa using hC0
                have hpt : prJ lo ro xl yl = true := by rw [hpr.out, d3n]; rfl
                have hnx := hat2.out hpt
                rw [← hte.out, ← ht2.out, ← HEX.out, List.getElem?_map] at hnx
                obtain ⟨nv, hnv, hne⟩ := Option.map_eq_some_iff.1 hnx
                have htl : t2 < NX.length := (List.getElem?_eq_some_iff.1 hnv).1
                have ht3 : Hid (t2 + 1 = t + (((M0.take (k + 1)).map (·.l)).filter (prJ lo ro xl)).length) := by show _ = _; rw [hfc.out, hpt, ht2.out]; simp; omega
                have hN6 := HEX.out
                have hnl : NX.length ≤ 1000000 := by have h1 := congrArg List.length hN6; have h2 := hNX.out; rw [List.length_map] at h1; omega
                obtain ⟨a', c', e', sn, _⟩ := HNX.out.row.see
                cases e'
                obtain ⟨gn, on, en, n0⟩ := vsAt sn hnv
                have hnli := hid (HNX.out.lies nv (List.mem_of_getElem? hnv))
                obtain ⟨na, nc, nl⟩ := nv
                dsimp only at n0 hne
                subst en
                have HC3 : Hid (∀ W', Kp [] w16 W' → Kp [] w W' → W'.cell? ⟨g, o + j, none⟩ = some (.slice xa xl.length xc) ∧ W'.cell? ⟨g2, o2 + k, none⟩ = some (.slice ya yl.length yc) ∧ W'.cell? ⟨gn, on + t2, none⟩ = some (.slice na nl.length nc)) := fun W' q q2 => ⟨(HC.out W' q2).1, (HC.out W' q2).2, kpAt q n0⟩
                have t1 : (0 : Int) ≤ (t2 : Int) := by omega
                have t2' : (t2 : Int) < (NX.length : Int) := by omega
                have t3 : (t2 : Int) + 1 ≤ 9223372036854775807 := by omega
                have dt : decide ((NX.length : Int) ≤ (t2 : Int)) = false := by simp; omega
                have dt2 : decide (NX.length ≤ t2) = false := by simp; omega
                have hne' := hid hne
                clear hC0 hpt hnx hnv hN6 sn n0 hne
                go_wp2_with fail
                refine wp_noPanicY ?_
                refine wp_region_held_drew (S := fun W' => W'.cell? ⟨g, o + j, none⟩ = some (.slice xa xl.length xc) ∧ W'.cell? ⟨g2, o2 + k, none⟩ = some (.slice ya yl.length yc) ∧ W'.cell? ⟨gn, on + t2, none⟩ = some (.slice na nl.length nc)) (by kernel_rfl) (HC3.out _ SE.out.drew KE.out.drew) (fun hHeld => ?_)
                have kd : Kp [] we we.drew := (Kp.refl _ _).drew
                generalize we.drew = wf at *
                have KF := hid (KE.out.trans kd (by simp))
                have SF := hid (SE.out.trans kd (by simp))
                have cJ := hid (rJoined xa ya xc yc xl yl wf (hxli.out.see.kept KF.out) (hyli.out.see.kept KF.out) (by omega))
                obtain ⟨zl, hzl⟩ : ∃ z, Hid (xl ++ yl = z) := ⟨_, rfl⟩
                rw [hzl.out] at cJ
                have hnz : nl = zl := hne'.out.trans hzl.out
                have hzn : zl.length ≤ 2097152 := by rw [← hzl.out]; simp; omega
                have hsv : sameV nl zl = true := by rw [hnz]; exact sameV_selfY _
                have HNZ2 := hid hnz
                clear hnz
                clear kd KE SE
                refine wpAnyH_take (i := 0) (v := ?_) rfl (by kernel_rfl) (by kernel_rfl) (by kernel_rfl) (fun _ _ _ h => by cases h.1) (Or.inl ⟨by rfl, ?_⟩) (by assumption) ?_
                rotate_left
                · intro w hSw; (try dsimp only at hSw); go_simp <;> with_reducible rfl
                try simp only [Act.put, List.getElem_toArray, List.getElem_cons_zero, List.getElem_cons_succ, List.setIfInBounds_toArray, List.set_cons_zero, List.set_cons_succ]
                refine wpAnyH_take (i := 1) (v := ?_) rfl (by kernel_rfl) (by kernel_rfl) (by kernel_rfl) (fun _ _ _ h => by cases h.1) (Or.inl ⟨by rfl, ?_⟩) (by assumption) ?_
                rotate_left
                · intro w hSw; (try dsimp only at hSw); go_simp <;> with_reducible rfl
                try simp only [Act.put, List.getElem_toArray, List.getElem_cons_zero, List.getElem_cons_succ, List.setIfInBounds_toArray, List.set_cons_zero, List.set_cons_succ]
                refine wpAnyH_take (i := 2) (v := ?_) rfl (by kernel_rfl) (by kernel_rfl) (by kernel_rfl) (fun _ _ _ h => by cases h.1) (Or.inl ⟨by rfl, ?_⟩) (by assumption) ?_
                rotate_left
                · intro w hSw; (try dsimp only at hSw); go_simp <;> with_reducible rfl
                try simp only [Act.put, List.getElem_toArray, List.getElem_cons_zero, List.getElem_cons_succ, List.setIfInBounds_toArray, List.set_cons_zero, List.set_cons_succ]
                refine wpAnyH_take (i := 3) (v := ?_) rfl (by kernel_rfl) (by kernel_rfl) (by kernel_rfl) (fun _ _ _ h => by cases h.1) (Or.inl ⟨by rfl, ?_⟩) (by assumption) ?_
                rotate_left
                · intro w hSw; (try dsimp only at hSw); go_simp <;> (try simp only [dt, dt2]) <;> with_reducible rfl
                try simp only [Act.put, List.getElem_toArray, List.getElem_cons_zero, List.getElem_cons_succ, List.setIfInBounds_toArray, List.set_cons_zero, List.set_cons_succ]
                try simp only [dt, dt2]
                refine wpAnyH_take (i := 4) (v := ?_) rfl (by kernel_rfl) (by kernel_rfl) (by kernel_rfl) (fun _ _ _ h => by cases h.1) (Or.inl ⟨by rfl, ?_⟩) (by assumption) ?_
                rotate_left
                · intro w hSw; (try dsimp only at hSw); go_simp <;> with_reducible rfl
                try simp only [Act.put, List.getElem_toArray, List.getElem_cons_zero, List.getElem_cons_succ, List.setIfInBounds_toArray, List.set_cons_zero, List.set_cons_succ]
                refine wpAnyH_take (i := 5) (v := ?_) rfl (by kernel_rfl) (by kernel_rfl) (by kernel_rfl) (fun _ _ _ h => by cases h.1) (Or.inl ⟨by rfl, ?_⟩) (by assumption) ?_
                rotate_left
                · intro w hSw; (try dsimp only at hSw); go_simp <;> with_reducible rfl
                try simp only [Act.put, List.getElem_toArray, List.getElem_cons_zero, List.getElem_cons_succ, List.setIfInBounds_toArray, List.set_cons_zero, List.set_cons_succ]
                refine wpAnyH_take (i := 6) (v := ?_) rfl (by kernel_rfl) (by kernel_rfl) (by kernel_rfl) (fun _ _ _ h => by cases h.1) (Or.inl ⟨by rfl, ?_⟩) (by assumption) ?_
                rotate_left
                · intro w hSw; (try dsimp only at hSw); go_simp <;> with_reducible rfl
                try simp only [Act.put, List.getElem_toArray, List.getElem_cons_zero, List.getElem_cons_succ, List.setIfInBounds_toArray, List.set_cons_zero, List.set_cons_succ]
                refine wpAnyH_take (i := 7) (v := ?_) rfl (by kernel_rfl) (by kernel_rfl) (by kernel_rfl) (fun _ _ _ h => by cases h.1) (Or.inl ⟨by rfl, ?_⟩) (by assumption) ?_
                rotate_left
                · intro w hSw; (try dsimp only at hSw); go_simp <;> with_reducible rfl
                try simp only [Act.put, List.getElem_toArray, List.getElem_cons_zero, List.getElem_cons_succ, List.setIfInBounds_toArray, List.set_cons_zero, List.set_cons_succ]
                refine wpAnyH_take (i := 8) (v := ?_) rfl (by kernel_rfl) (by kernel_rfl) (by kernel_rfl) (fun _ _ _ h => by cases h.1) (Or.inl ⟨by rfl, ?_⟩) (by assumption) ?_
                rotate_left
                · intro w hSw; (try dsimp only at hSw); go_simp <;> with_reducible rfl
                try simp only [Act.put, List.getElem_toArray, List.getElem_cons_zero, List.getElem_cons_succ, List.setIfInBounds_toArray, List.set_cons_zero, List.set_cons_succ]
                refine wpAnyH_take (i := 9) (v := ?_) rfl (by kernel_rfl) (by kernel_rfl) (by kernel_rfl) (fun _ _ _ h => by cases h.1) (Or.inl ⟨by rfl, ?_⟩) (by assumption) ?_
                rotate_left
                · intro w hSw; (try dsimp only at hSw); go_simp <;> with_reducible rfl
                try simp only [Act.put, List.getElem_toArray, List.getElem_cons_zero, List.getElem_cons_succ, List.setIfInBounds_toArray, List.set_cons_zero, List.set_cons_succ]
                refine wpAnyH_take (i := 10) (v := ?_) rfl (by kernel_rfl) (by kernel_rfl) (by kernel_rfl) (fun _ _ _ h => by cases h.1) (Or.inl ⟨by rfl, ?_⟩) (by assumption) ?_
                rotate_left
                · intro w hSw; (try dsimp only at hSw); go_simp <;> with_reducible rfl
                try simp only [Act.put, List.getElem_toArray, List.getElem_cons_zero, List.getElem_cons_succ, List.setIfInBounds_toArray, List.set_cons_zero, List.set_cons_succ]
                refine wpAnyH_take (i := 11) (v := ?_) rfl (by kernel_rfl) (by kernel_rfl) (by kernel_rfl) (fun _ _ _ h => by cases h.1) (Or.inl ⟨by rfl, ?_⟩) (by assumption) ?_
                rotate_left
                · intro w hSw; (try dsimp only at hSw); go_simp <;> with_reducible rfl
                try simp only [Act.put, List.getElem_toArray, List.getElem_cons_zero, List.getElem_cons_succ, List.setIfInBounds_toArray, List.set_cons_zero, List.set_cons_succ]
                refine wpAnyH_take (i := 12) (v := ?_) rfl (by kernel_rfl) (by kernel_rfl) (by kernel_rfl) (fun _ _ _ h => by cases h.1) (Or.inl ⟨by rfl, ?_⟩) (by assumption) ?_
                rotate_left
                · intro w hSw; (try dsimp only at hSw); go_simp <;> with_reducible rfl
                try simp only [Act.put, List.getElem_toArray, List.getElem_cons_zero, List.getElem_cons_succ, List.setIfInBounds_toArray, List.set_cons_zero, List.set_cons_succ]
                refine wpAnyH_take (i := 13) (v := ?_) rfl (by kernel_rfl) (by kernel_rfl) (by kernel_rfl) (fun _ _ _ h => by cases h.1) (Or.inl ⟨by rfl, ?_⟩) (by assumption) ?_
                rotate_left
                · intro w hSw; (try dsimp only at hSw); go_simp <;> with_reducible rfl
                try simp only [Act.put, List.getElem_toArray, List.getElem_cons_zero, List.getElem_cons_succ, List.setIfInBounds_toArray, List.set_cons_zero, List.set_cons_succ]
                refine wpAnyH_take (i := 14) (v := ?_) rfl (by kernel_rfl) (by kernel_rfl) (by kernel_rfl) (fun _ _ _ h => by cases h.1) (Or.inl ⟨by rfl, ?_⟩) (by assumption) ?_
                rotate_left
                · intro w hSw; (try dsimp only at hSw); go_simp <;> with_reducible rfl
                try simp only [Act.put, List.getElem_toArray, List.getElem_cons_zero, List.getElem_cons_succ, List.setIfInBounds_toArray, List.set_cons_zero, List.set_cons_succ]
                refine wpAnyH_take (i := 15) (v := ?_) rfl (by kernel_rfl) (by kernel_rfl) (by kernel_rfl) (fun _ _ _ h => by cases h.1) (Or.inl ⟨by rfl, ?_⟩) (by assumption) ?_
                rotate_left
                · intro w hSw; (try dsimp only at hSw); go_simp <;> with_reducible rfl
                try simp only [Act.put, List.getElem_toArray, List.getElem_cons_zero, List.getElem_cons_succ, List.setIfInBounds_toArray, List.set_cons_zero, List.set_cons_succ]
                refine wpAnyH_take (i := 16) (v := ?_) rfl (by kernel_rfl) (by kernel_rfl) (by kernel_rfl) (fun _ _ _ h => by cases h.1) (Or.inl ⟨by rfl, ?_⟩) (by assumption) ?_
                rotate_left
                · intro w hSw; (try dsimp only at hSw); go_simp <;> with_reducible rfl
                try simp only [Act.put, List.getElem_toArray, List.getElem_cons_zero, List.getElem_cons_succ, List.setIfInBounds_toArray, List.set_cons_zero, List.set_cons_succ]
                refine wpAnyH_ready (rs := [17]) (by kernel_rfl) (by simp) ?_
                refine AllReadyH.cons rfl (fun K hK => ?_) AllReadyH.nil
                go_simp
                refine cJ.out.mono ?_
                rintro e wg ⟨za, zc, rfl, hzr, kz, hzb⟩
                have KG := hid (KF.out.trans kz (by simp))
                have SG := hid (SF.out.trans kz (by simp))
                (try go_wp2_with fail)
                refine hK.out _ _ (HC3.out _ SG.out KG.out) (fun hHeld => ?_)
                clear hK K
                try simp only [Act.put, List.getElem_toArray, List.getElem_cons_zero, List.getElem_cons_succ, List.setIfInBounds_toArray, List.set_cons_zero, List.set_cons_succ]
                have cS0 := cSame na za nc zc nl zl wg (hnli.out.see.kept SG.out) (rowLies hzr).see (by have := hnli.out.cap; have := hnli.out.most; unfold maxLen at *; simp only at *; omega) (by omega)
                rw [hsv] at cS0
                have cS := hid cS0
                clear cS0 kz hzb
                refine wpAnyH_ready (rs := [18]) (by kernel_rfl) (by simp) ?_
                refine AllReadyH.cons rfl (fun K hK => ?_) AllReadyH.nil
                go_simp
                refine cS.out.mono ?_
                rintro e wh ⟨rfl, kh⟩
                have KH := hid (KG.out.trans kh (by simp))
                have SH := hid (SG.out.trans kh (by simp))
                (try go_wp2_with fail)
                refine hK.out _ _ (HC3.out _ SH.out KH.out) (fun hHeld => ?_)
                clear hK K
                try simp only [Act.put, List.getElem_toArray, List.getElem_cons_zero, List.getElem_cons_succ, List.setIfInBounds_toArray, List.set_cons_zero, List.set_cons_succ]
                refine wpAnyH_take (i := 19) (v := ?_) rfl (by kernel_rfl) (by kernel_rfl) (by kernel_rfl) (fun _ _ _ h => by cases h.1) (Or.inl ⟨by rfl, ?_⟩) (by assumption) ?_
                rotate_left
                · intro w hSw; (try dsimp only at hSw); go_simp <;> with_reducible rfl
                try simp only [Act.put, List.getElem_toArray, List.getElem_cons_zero, List.getElem_cons_succ, List.setIfInBounds_toArray, List.set_cons_zero, List.set_cons_succ]
                refine wpAnyH_take (i := 20) (v := ?_) rfl (by kernel_rfl) (by kernel_rfl) (by kernel_rfl) (fun _ _ _ h => by cases h.1) (Or.inl ⟨by rfl, ?_⟩) (by assumption) ?_
                rotate_left
                · intro w hSw; (try dsimp only at hSw); go_simp <;> with_reducible rfl
                try simp only [Act.put, List.getElem_toArray, List.getElem_cons_zero, List.getElem_cons_succ, List.setIfInBounds_toArray, List.set_cons_zero, List.set_cons_succ]
                refine wpAnyH_done (by kernel_rfl) ⟨rfl, ?_⟩ _
                clear hHeld cS cJ hzr kh KF SF KG SG
                go_wp2_with fail
                go_roundw
                case rel => exact ⟨k + 1, t2 + 1, by omega, by go_num, by go_num, ht3, SH⟩
                case measure => simp [intOf]; omega
              · have d3 : (C != 0) = true := by simpa using hC0
                have d3n : (C == 0) = false := beq_eq_false_iff_ne.2 hC0
                have ht3 : Hid (t2 = t + (((M0.take (k + 1)).map (·.l)).filter (prJ lo ro xl)).length) := by show _ = _; rw [hfc.out, hpr.out, d3n, ht2.out]; simp
                clear hC0
                go_wp2_with fail
                go_roundw
                case rel => exact ⟨k + 1, t2, by omega, by go_num, rfl, ht3, SE⟩
                case measure => simp [intOf]; omega
            · obtain ⟨qq, hqq⟩ : ∃ q, wd.heap.size = q := ⟨_, rfl⟩
              obtain ⟨W1, eW1, k1, b1⟩ : ∃ x, wd.alloc (.cells #[.int .i64 0, .bool false, .int .i64 0, .string ⟨#[]⟩] 33) = x ∧ Kp [] wd x ∧ Bn x qq [.int .i64 0, .bool false, .int .i64 0, .string ⟨#[]⟩] := ⟨_, rfl, (Kp.refl _ _).alloc _, by rw [← hqq]; exact Bn.new wd _ _⟩
              have KA := hid (KD.out.trans k1 (by simp))
              have DA := hid (DD.out.trans k1 (by simp))
              have SA := hid (SD.out.trans k1 (by simp))
              have s1 := And.intro (HB.out _ DA.out).1 (And.intro (HB.out _ DA.out).2 ((HC.out _ KA.out).2))
              go_simp
              (try go_wp2_with fail)
              refine hK.out _ _ (s1) (fun hHeld => ?_)
              clear hK K
              try simp only [Act.put, List.getElem_toArray, List.getElem_cons_zero, List.getElem_cons_succ, List.setIfInBounds_toArray, List.set_cons_zero, List.set_cons_succ]
              refine wpAnyH_ready (rs := [6]) (by kernel_rfl) (by simp) ?_
              refine AllReadyH.cons rfl (fun K hK => ?_) AllReadyH.nil
              go_simp
              refine (cAy.out W1 KA.out).mono ?_
              rintro e wa ⟨rfl, ka⟩
              have KB := hid (KA.out.trans ka (by simp))
              have DB := hid (DA.out.trans ka (by simp))
              have SB := hid (SA.out.trans ka (by simp))
              (try go_wp2_with fail)
              refine hK.out _ _ (And.intro (HB.out _ DB.out).1 (And.intro (HB.out _ DB.out).2 ((HC.out _ KB.out).2))) (fun hHeld => ?_)
              clear hK K
              try simp only [Act.put, List.getElem_toArray, List.getElem_cons_zero, List.getElem_cons_succ, List.setIfInBounds_toArray, List.set_cons_zero, List.set_cons_succ]
              replace b1 := b1.kept ka
              have m0 := b1.get 0 _ rfl; have m1 := b1.get 1 _ rfl; have m2 := b1.get 2 _ rfl; have m3 := b1.get 3 _ rfl
              have f0 := b1.free 0; have f1 := b1.free 1; have f2 := b1.free 2; have f3 := b1.free 3
              have hqw : wd.heap.size ≤ qq := by omega
              obtain ⟨wc, eW2, b2, kW2⟩ : ∃ x, ((((wa.setCell ⟨qq, 0, none⟩ (.int .i64 vk)).setCell ⟨qq, 1, none⟩ (.bool vb)).setCell ⟨qq, 2, none⟩ (.int .i64 vn)).setCell ⟨qq, 3, none⟩ (.string vt)) = x ∧ Bn x qq [.int .i64 vk, .bool vb, .int .i64 vn, .string vt] ∧ Kp [qq] wa x := ⟨_, rfl, (((b1.set 0 (by simp) (.int .i64 vk)).set 1 (by simp) (.bool vb)).set 2 (by simp) (.int .i64 vn)).set 3 (by simp) (.string vt), ((((Kp.refl _ _).setCell (by simp) _).setCell (by simp) _).setCell (by simp) _).setCell (by simp) _⟩
              have kda : Kp [] wd wc := (k1.trans ka (by simp)).trans kW2 (fun x hx => .inr (by simp at hx; omega))
              have K2 := hid (KD.out.trans kda (by simp))
              have D2 := hid (DD.out.trans kda (by simp))
              have S2 := hid (SD.out.trans kda (by simp))
              have BP2 := hid (BP.out.kept kda)
              have s2 := And.intro (HB.out _ D2.out).1 (And.intro (HB.out _ D2.out).2 ((HC.out _ K2.out).2))
              refine wpAnyH_ready (rs := [8]) (by kernel_rfl) (by simp) ?_
              refine AllReadyH.cons rfl (fun K hK => ?_) AllReadyH.nil
              go_simp
              (try go_wp2_with fail)
              refine hK.out _ _ (s2) (fun hHeld => ?_)
              clear hK K
              try simp only [Act.put, List.getElem_toArray, List.getElem_cons_zero, List.getElem_cons_succ, List.setIfInBounds_toArray, List.set_cons_zero, List.set_cons_succ]
              refine wpAnyH_done (by kernel_rfl) ⟨rfl, ?_⟩ _
              clear hHeld m0 m1 m2 m3 f0 f1 f2 f3 eW2
              clear s1 s2 k1 kW2 ka kda KA DA SA KB DB SB b1 eW1 KD DD SD hqw
              have KC := hid K2.out
              have DC := hid D2.out
              have SC := hid S2.out
              have B13 := hid b2
              have BP := hid BP2.out
              clear K2 D2 S2 b2 BP2
              have p0 := BP.out.get 0 _ rfl; have p1 := BP.out.get 1 _ rfl; have p2 := BP.out.get 2 _ rfl; have p3 := BP.out.get 3 _ rfl
              have r0 := B13.out.get 0 _ rfl; have r1 := B13.out.get 1 _ rfl; have r2 := B13.out.get 2 _ rfl; have r3 := B13.out.get 3 _ rfl
              by_cases hp1 : uk = 0
              · have d1 : (uk == 0) = true := by simp [hp1]
                have d1n : (uk != 0) = false := by simp [hp1]
                have ht3 : Hid (t2 = t + (((M0.take (k + 1)).map (·.l)).filter (prJ lo ro xl)).length) := by show _ = _; rw [hfc.out, hpr.out, d1n, ht2.out]; simp
                clear hp1
                go_wp2_with fail
                go_roundw
                case rel => exact ⟨k + 1, t2, by omega, by go_num, rfl, ht3, SC⟩
                case measure => simp [intOf]; omega
              by_cases hp2 : vk = 0
              · have d1 : (uk == 0) = false := by simpa using hp1
                have d1n : (uk != 0) = true := by simpa using hp1
                have d2 : (vk == 0) = true := by simp [hp2]
                have d2n : (vk != 0) = false := by simp [hp2]
                have ht3 : Hid (t2 = t + (((M0.take (k + 1)).map (·.l)).filter (prJ lo ro xl)).length) := by show _ = _; rw [hfc.out, hpr.out, d1n, d2n, ht2.out]; simp
                clear hp1 hp2
                go_wp2_with fail
                go_roundw
                case rel => exact ⟨k + 1, t2, by omega, by go_num, rfl, ht3, SC⟩
                case measure => simp [intOf]; omega
              have d1 : (uk == 0) = false := by simpa using hp1
              have d1n : (uk != 0) = true := by simpa using hp1
              have d2 : (vk == 0) = false := by simpa using hp2
              have d2n : (vk != 0) = true := by simpa using hp2
              rw [d1n, d2n] at hpr
              obtain ⟨C, hCe⟩ : ∃ C, Hid (cmpV ⟨uk, ub, un, ut⟩ ⟨vk, vb, vn, vt⟩ = C) := ⟨_, rfl⟩
              rw [hCe.out] at hpr
              simp only [hCe.out] at cCm
              clear hp1 hp2
              go_wp2_with fail
              refine (cCm.out wc).mono ?_
              rintro e we ⟨rfl, ke⟩
              have KE := hid (KC.out.trans ke (by simp))
              have SE := hid (SC.out.trans ke (by simp))
              clear ke p0 p1 p2 p3 r0 r1 r2 r3 KC SC
              by_cases hC0 : C = 0
              · have d3 : (C != 0) = false := by simpa using hC0
                have d3n : (C == 0) = true := by simpa using hC0
                have hpt : prJ lo ro xl yl = true := by rw [hpr.out, d3n]; rfl
                have hnx := hat2.out hpt
                rw [← hte.out, ← ht2.out, ← HEX.out, List.getElem?_map] at hnx
                obtain ⟨nv, hnv, hne⟩ := Option.map_eq_some_iff.1 hnx
                have htl : t2 < NX.length := (List.getElem?_eq_some_iff.1 hnv).1
                have ht3 : Hid (t2 + 1 = t + (((M0.take (k + 1)).map (·.l)).filter (prJ lo ro xl)).length) := by show _ = _; rw [hfc.out, hpt, ht2.out]; simp; omega
                have hN6 := HEX.out
                have hnl : NX.length ≤ 1000000 := by have h1 := congrArg List.length hN6; have h2 := hNX.out; rw [List.length_map] at h1; omega
                obtain ⟨a', c', e', sn, _⟩ := HNX.out.row.see
                cases e'
                obtain ⟨gn, on, en, n0⟩ := vsAt sn hnv
                have hnli := hid (HNX.out.lies nv (List.mem_of_getElem? hnv))
                obtain ⟨na, nc, nl⟩ := nv
                dsimp only at n0 hne
                subst en
                have HC3 : Hid (∀ W', Kp [] w16 W' → Kp [] w W' → W'.cell? ⟨g, o + j, none⟩ = some (.slice xa xl.length xc) ∧ W'.cell? ⟨g2, o2 + k, none⟩ = some (.slice ya yl.length yc) ∧ W'.cell? ⟨gn, on + t2, none⟩ = some (.slice na nl.length nc)) := fun W' q q2 => ⟨(HC.out W' q2).1, (HC.out W' q2).2, kpAt q n0⟩
                have t1 : (0 : Int) ≤ (t2 : Int) := by omega
                have t2' : (t2 : Int) < (NX.length : Int) := by omega
                have t3 : (t2 : Int) + 1 ≤ 9223372036854775807 := by omega
                have dt : decide ((NX.length : Int) ≤ (t2 : Int)) = false := by simp; omega
                have dt2 : decide (NX.length ≤ t2) = false := by simp; omega
                have hne' := hid hne
                clear hC0 hpt hnx hnv hN6 sn n0 hne
                go_wp2_with fail
                refine wp_noPanicY ?_
                refine wp_region_held_drew (S := fun W' => W'.cell? ⟨g, o + j, none⟩ = some (.slice xa xl.length xc) ∧ W'.cell? ⟨g2, o2 + k, none⟩ = some (.slice ya yl.length yc) ∧ W'.cell? ⟨gn, on + t2, none⟩ = some (.slice na nl.length nc)) (by kernel_rfl) (HC3.out _ SE.out.drew KE.out.drew) (fun hHeld => ?_)
                have kd : Kp [] we we.drew := (Kp.refl _ _).drew
                generalize we.drew = wf at *
                have KF := hid (KE.out.trans kd (by simp))
                have SF := hid (SE.out.trans kd (by simp))
                have cJ := hid (rJoined xa ya xc yc xl yl wf (hxli.out.see.kept KF.out) (hyli.out.see.kept KF.out) (by omega))
                obtain ⟨zl, hzl⟩ : ∃ z, Hid (xl ++ yl = z) := ⟨_, rfl⟩
                rw [hzl.out] at cJ
                have hnz : nl = zl := hne'.out.trans hzl.out
                have hzn : zl.length ≤ 2097152 := by rw [← hzl.out]; simp; omega
                have hsv : sameV nl zl = true := by rw [hnz]; exact sameV_selfY _
                have HNZ2 := hid hnz
                clear hnz
                clear kd KE SE
                refine wpAnyH_take (i := 0) (v := ?_) rfl (by kernel_rfl) (by kernel_rfl) (by kernel_rfl) (fun _ _ _ h => by cases h.1) (Or.inl ⟨by rfl, ?_⟩) (by assumption) ?_
                rotate_left
                · intro w hSw; (try dsimp only at hSw); go_simp <;> with_reducible rfl
                try simp only [Act.put, List.getElem_toArray, List.getElem_cons_zero, List.getElem_cons_succ, List.setIfInBounds_toArray, List.set_cons_zero, List.set_cons_succ]
                refine wpAnyH_take (i := 1) (v := ?_) rfl (by kernel_rfl) (by kernel_rfl) (by kernel_rfl) (fun _ _ _ h => by cases h.1) (Or.inl ⟨by rfl, ?_⟩) (by assumption) ?_
                rotate_left
                · intro w hSw; (try dsimp only at hSw); go_simp <;> with_reducible rfl
                try simp only [Act.put, List.getElem_toArray, List.getElem_cons_zero, List.getElem_cons_succ, List.setIfInBounds_toArray, List.set_cons_zero, List.set_cons_succ]
                refine wpAnyH_take (i := 2) (v := ?_) rfl (by kernel_rfl) (by kernel_rfl) (by kernel_rfl) (fun _ _ _ h => by cases h.1) (Or.inl ⟨by rfl, ?_⟩) (by assumption) ?_
                rotate_left
                · intro w hSw; (try dsimp only at hSw); go_simp <;> with_reducible rfl
                try simp only [Act.put, List.getElem_toArray, List.getElem_cons_zero, List.getElem_cons_succ, List.setIfInBounds_toArray, List.set_cons_zero, List.set_cons_succ]
                refine wpAnyH_take (i := 3) (v := ?_) rfl (by kernel_rfl) (by kernel_rfl) (by kernel_rfl) (fun _ _ _ h => by cases h.1) (Or.inl ⟨by rfl, ?_⟩) (by assumption) ?_
                rotate_left
                · intro w hSw; (try dsimp only at hSw); go_simp <;> (try simp only [dt, dt2]) <;> with_reducible rfl
                try simp only [Act.put, List.getElem_toArray, List.getElem_cons_zero, List.getElem_cons_succ, List.setIfInBounds_toArray, List.set_cons_zero, List.set_cons_succ]
                try simp only [dt, dt2]
                refine wpAnyH_take (i := 4) (v := ?_) rfl (by kernel_rfl) (by kernel_rfl) (by kernel_rfl) (fun _ _ _ h => by cases h.1) (Or.inl ⟨by rfl, ?_⟩) (by assumption) ?_
                rotate_left
                · intro w hSw; (try dsimp only at hSw); go_simp <;> with_reducible rfl
                try simp only [Act.put, List.getElem_toArray, List.getElem_cons_zero, List.getElem_cons_succ, List.setIfInBounds_toArray, List.set_cons_zero, List.set_cons_succ]
                refine wpAnyH_take (i := 5) (v := ?_) rfl (by kernel_rfl) (by kernel_rfl) (by kernel_rfl) (fun _ _ _ h => by cases h.1) (Or.inl ⟨by rfl, ?_⟩) (by assumption) ?_
                rotate_left
                · intro w hSw; (try dsimp only at hSw); go_simp <;> with_reducible rfl
                try simp only [Act.put, List.getElem_toArray, List.getElem_cons_zero, List.getElem_cons_succ, List.setIfInBounds_toArray, List.set_cons_zero, List.set_cons_succ]
                refine wpAnyH_take (i := 6) (v := ?_) rfl (by kernel_rfl) (by kernel_rfl) (by kernel_rfl) (fun _ _ _ h => by cases h.1) (Or.inl ⟨by rfl, ?_⟩) (by assumption) ?_
                rotate_left
                · intro w hSw; (try dsimp only at hSw); go_simp <;> with_reducible rfl
                try simp only [Act.put, List.getElem_toArray, List.getElem_cons_zero, List.getElem_cons_succ, List.setIfInBounds_toArray, List.set_cons_zero, List.set_cons_succ]
                refine wpAnyH_take (i := 7) (v := ?_) rfl (by kernel_rfl) (by kernel_rfl) (by kernel_rfl) (fun _ _ _ h => by cases h.1) (Or.inl ⟨by rfl, ?_⟩) (by assumption) ?_
                rotate_left
                · intro w hSw; (try dsimp only at hSw); go_simp <;> with_reducible rfl
                try simp only [Act.put, List.getElem_toArray, List.getElem_cons_zero, List.getElem_cons_succ, List.setIfInBounds_toArray, List.set_cons_zero, List.set_cons_succ]
                refine wpAnyH_take (i := 8) (v := ?_) rfl (by kernel_rfl) (by kernel_rfl) (by kernel_rfl) (fun _ _ _ h => by cases h.1) (Or.inl ⟨by rfl, ?_⟩) (by assumption) ?_
                rotate_left
                · intro w hSw; (try dsimp only at hSw); go_simp <;> with_reducible rfl
                try simp only [Act.put, List.getElem_toArray, List.getElem_cons_zero, List.getElem_cons_succ, List.setIfInBounds_toArray, List.set_cons_zero, List.set_cons_succ]
                refine wpAnyH_take (i := 9) (v := ?_) rfl (by kernel_rfl) (by kernel_rfl) (by kernel_rfl) (fun _ _ _ h => by cases h.1) (Or.inl ⟨by rfl, ?_⟩) (by assumption) ?_
                rotate_left
                · intro w hSw; (try dsimp only at hSw); go_simp <;> with_reducible rfl
                try simp only [Act.put, List.getElem_toArray, List.getElem_cons_zero, List.getElem_cons_succ, List.setIfInBounds_toArray, List.set_cons_zero, List.set_cons_succ]
                refine wpAnyH_take (i := 10) (v := ?_) rfl (by kernel_rfl) (by kernel_rfl) (by kernel_rfl) (fun _ _ _ h => by cases h.1) (Or.inl ⟨by rfl, ?_⟩) (by assumption) ?_
                rotate_left
                · intro w hSw; (try dsimp only at hSw); go_simp <;> with_reducible rfl
                try simp only [Act.put, List.getElem_toArray, List.getElem_cons_zero, List.getElem_cons_succ, List.setIfInBounds_toArray, List.set_cons_zero, List.set_cons_succ]
                refine wpAnyH_take (i := 11) (v := ?_) rfl (by kernel_rfl) (by kernel_rfl) (by kernel_rfl) (fun _ _ _ h => by cases h.1) (Or.inl ⟨by rfl, ?_⟩) (by assumption) ?_
                rotate_left
                · intro w hSw; (try dsimp only at hSw); go_simp <;> with_reducible rfl
                try simp only [Act.put, List.getElem_toArray, List.getElem_cons_zero, List.getElem_cons_succ, List.setIfInBounds_toArray, List.set_cons_zero, List.set_cons_succ]
                refine wpAnyH_take (i := 12) (v := ?_) rfl (by kernel_rfl) (by kernel_rfl) (by kernel_rfl) (fun _ _ _ h => by cases h.1) (Or.inl ⟨by rfl, ?_⟩) (by assumption) ?_
                rotate_left
                · intro w hSw; (try dsimp only at hSw); go_simp <;> with_reducible rfl
                try simp only [Act.put, List.getElem_toArray, List.getElem_cons_zero, List.getElem_cons_succ, List.setIfInBounds_toArray, List.set_cons_zero, List.set_cons_succ]
                refine wpAnyH_take (i := 13) (v := ?_) rfl (by kernel_rfl) (by kernel_rfl) (by kernel_rfl) (fun _ _ _ h => by cases h.1) (Or.inl ⟨by rfl, ?_⟩) (by assumption) ?_
                rotate_left
                · intro w hSw; (try dsimp only at hSw); go_simp <;> with_reducible rfl
                try simp only [Act.put, List.getElem_toArray, List.getElem_cons_zero, List.getElem_cons_succ, List.setIfInBounds_toArray, List.set_cons_zero, List.set_cons_succ]
                refine wpAnyH_take (i := 14) (v := ?_) rfl (by kernel_rfl) (by kernel_rfl) (by kernel_rfl) (fun _ _ _ h => by cases h.1) (Or.inl ⟨by rfl, ?_⟩) (by assumption) ?_
                rotate_left
                · intro w hSw; (try dsimp only at hSw); go_simp <;> with_reducible rfl
                try simp only [Act.put, List.getElem_toArray, List.getElem_cons_zero, List.getElem_cons_succ, List.setIfInBounds_toArray, List.set_cons_zero, List.set_cons_succ]
                refine wpAnyH_take (i := 15) (v := ?_) rfl (by kernel_rfl) (by kernel_rfl) (by kernel_rfl) (fun _ _ _ h => by cases h.1) (Or.inl ⟨by rfl, ?_⟩) (by assumption) ?_
                rotate_left
                · intro w hSw; (try dsimp only at hSw); go_simp <;> with_reducible rfl
                try simp only [Act.put, List.getElem_toArray, List.getElem_cons_zero, List.getElem_cons_succ, List.setIfInBounds_toArray, List.set_cons_zero, List.set_cons_succ]
                refine wpAnyH_take (i := 16) (v := ?_) rfl (by kernel_rfl) (by kernel_rfl) (by kernel_rfl) (fun _ _ _ h => by cases h.1) (Or.inl ⟨by rfl, ?_⟩) (by assumption) ?_
                rotate_left
                · intro w hSw; (try dsimp only at hSw); go_simp <;> with_reducible rfl
                try simp only [Act.put, List.getElem_toArray, List.getElem_cons_zero, List.getElem_cons_succ, List.setIfInBounds_toArray, List.set_cons_zero, List.set_cons_succ]
                refine wpAnyH_ready (rs := [17]) (by kernel_rfl) (by simp) ?_
                refine AllReadyH.cons rfl (fun K hK => ?_) AllReadyH.nil
                go_simp
                refine cJ.out.mono ?_
                rintro e wg ⟨za, zc, rfl, hzr, kz, hzb⟩
                have KG := hid (KF.out.trans kz (by simp))
                have SG := hid (SF.out.trans kz (by simp))
                (try go_wp2_with fail)
                refine hK.out _ _ (HC3.out _ SG.out KG.out) (fun hHeld => ?_)
                clear hK K
                try simp only [Act.put, List.getElem_toArray, List.getElem_cons_zero, List.getElem_cons_succ, List.setIfInBounds_toArray, List.set_cons_zero, List.set_cons_succ]
                have cS0 := cSame na za nc zc nl zl wg (hnli.out.see.kept SG.out) (rowLies hzr).see (by have := hnli.out.cap; have := hnli.out.most; unfold maxLen at *; simp only at *; omega) (by omega)
                rw [hsv] at cS0
                have cS := hid cS0
                clear cS0 kz hzb
                refine wpAnyH_ready (rs := [18]) (by kernel_rfl) (by simp) ?_
                refine AllReadyH.cons rfl (fun K hK => ?_) AllReadyH.nil
                go_simp
                refine cS.out.mono ?_
                rintro e wh ⟨rfl, kh⟩
                have KH := hid (KG.out.trans kh (by simp))
                have SH := hid (SG.out.trans kh (by simp))
                (try go_wp2_with fail)
                refine hK.out _ _ (HC3.out _ SH.out KH.out) (fun hHeld => ?_)
                clear hK K
                try simp only [Act.put, List.getElem_toArray, List.getElem_cons_zero, List.getElem_cons_succ, List.setIfInBounds_toArray, List.set_cons_zero, List.set_cons_succ]
                refine wpAnyH_take (i := 19) (v := ?_) rfl (by kernel_rfl) (by kernel_rfl) (by kernel_rfl) (fun _ _ _ h => by cases h.1) (Or.inl ⟨by rfl, ?_⟩) (by assumption) ?_
                rotate_left
                · intro w hSw; (try dsimp only at hSw); go_simp <;> with_reducible rfl
                try simp only [Act.put, List.getElem_toArray, List.getElem_cons_zero, List.getElem_cons_succ, List.setIfInBounds_toArray, List.set_cons_zero, List.set_cons_succ]
                refine wpAnyH_take (i := 20) (v := ?_) rfl (by kernel_rfl) (by kernel_rfl) (by kernel_rfl) (fun _ _ _ h => by cases h.1) (Or.inl ⟨by rfl, ?_⟩) (by assumption) ?_
                rotate_left
                · intro w hSw; (try dsimp only at hSw); go_simp <;> with_reducible rfl
                try simp only [Act.put, List.getElem_toArray, List.getElem_cons_zero, List.getElem_cons_succ, List.setIfInBounds_toArray, List.set_cons_zero, List.set_cons_succ]
                refine wpAnyH_done (by kernel_rfl) ⟨rfl, ?_⟩ _
                clear hHeld cS cJ hzr kh KF SF KG SG
                go_wp2_with fail
                go_roundw
                case rel => exact ⟨k + 1, t2 + 1, by omega, by go_num, by go_num, ht3, SH⟩
                case measure => simp [intOf]; omega
              · have d3 : (C != 0) = true := by simpa using hC0
                have d3n : (C == 0) = false := beq_eq_false_iff_ne.2 hC0
                have ht3 : Hid (t2 = t + (((M0.take (k + 1)).map (·.l)).filter (prJ lo ro xl)).length) := by show _ = _; rw [hfc.out, hpr.out, d3n, ht2.out]; simp
                clear hC0
                go_wp2_with fail
                go_roundw
                case rel => exact ⟨k + 1, t2, by omega, by go_num, rfl, ht3, SE⟩
                case measure => simp [intOf]; omega
        · have hke : k = M0.length := by omega
          have ht3 : Hid (t2 = (refJ ((L0.take (j + 1)).map (·.l)) RR lo ro).length) := by
            show _ = _
            have h1 := ht2.out
            rw [hke, List.take_length, hRR.out] at h1
            rw [hcnt.out, h1, hte.out]
          have dj1 : ¬ (k : Int) < (M0.length : Int) := by omega
          have dj2 : decide ((k : Int) < (M0.length : Int)) = false := by simp; omega
          clear hke
          go_wp2_with fail
          go_roundw
          case rel => exact ⟨j + 1, t2, by omega, by go_num, rfl, ht3, Hk⟩
          case measure => simp [intOf]; omega
    · have hfin : NX.length = t := by
        have h1 := congrArg List.length HEX.out
        rw [List.length_map] at h1
        rw [hte.out, show j = L0.length by omega, List.take_length, hRL.out, h1]
      have dj1 : ¬ (j : Int) < (L0.length : Int) := by omega
      have dj2 : decide ((j : Int) < (L0.length : Int)) = false := by simp; omega
      have df : ((t : Int) == (NX.length : Int)) = true := by rw [hfin]; simp
      have KF := hid (K16.out.trans H.out (by simp))
      clear hfin
      go_wp2_with fail
      go_ret
      exact ⟨rfl, by first | exact KF.out.below | (rw [← hq5]; exact KF.out.below)⟩
end Go.Proofs.Ytfolkjjhlcjfgab
end

section
namespace Go.Hay

/-- n in k bytes, the highest first. -/
def be (n : Nat) : Nat → List UInt8
  | 0 => []
  | k + 1 => UInt8.ofNat (n / 256 ^ k % 256) :: be n k
theorem be_length (n k : Nat) : (be n k).length = k := by
  induction k with
  | zero => rfl
  | succ k ih => simp [be, ih]
/-- The first byte of n's Var. -/
def leadI (n : Int) : Int := if n < 253 then n else if n < 65536 then 253 else if n < 4294967296 then 254 else 255
/-- How many bytes a Var has behind its first one. -/
def behindI (f : Int) : Int := if f = 253 then 2 else if f = 254 then 4 else if f = 255 then 8 else 0
theorem leadI_bd (n : Int) (h : 0 ≤ n) : 0 ≤ leadI n ∧ leadI n ≤ 255 := by unfold leadI; repeat (first | split | omega)
theorem behindI_bd (n : Int) : 0 ≤ behindI n ∧ behindI n ≤ 8 := by unfold behindI; repeat (first | split | omega)
/-- The number that bytes say, the highest first. -/
def num (bs : List UInt8) : Nat := bs.foldl (fun n x => n * 256 + x.toNat) 0
theorem num_snoc (bs : List UInt8) (x : UInt8) : num (bs ++ [x]) = num bs * 256 + x.toNat := by simp [num]
theorem num_lt (bs : List UInt8) : num bs < 256 ^ bs.length := by
  suffices ∀ (l : List UInt8), num l.reverse < 256 ^ l.length by simpa using this bs.reverse
  intro l
  induction l with
  | nil => simp [num]
  | cons x l ih =>
    rw [List.reverse_cons, num_snoc, List.length_cons, Nat.pow_succ]
    have := x.toNat_lt
    omega
/-- A byte, of a number. -/
def octet (n : Int) : UInt8 := UInt8.ofNat n.toNat
theorem octet_toNat (n : Int) (h0 : 0 ≤ n) (h1 : n ≤ 255) : ((octet n).toNat : Int) = n := by
  unfold octet
  rw [UInt8.toNat_ofNat']
  omega
/-- A number's Var. -/
def varB (n : Int) : List UInt8 := octet (leadI n) :: be n.toNat (behindI (leadI n)).toNat
theorem varB_length (n : Int) : (varB n).length ≤ 9 ∧ 1 ≤ (varB n).length := by
  have := behindI_bd (leadI n)
  simp only [varB, List.length_cons, be_length]
  omega
/-- What bytes begin with, read as a Var: the number, in how many bytes, what is amiss. -/
def fv (bs : List UInt8) : Int × Int × Int :=
  match bs with
  | [] => (0, 0, 10)
  | f :: r =>
    if behindI f.toNat = 0 then (f.toNat, 1, 0)
    else if (r.length : Int) < behindI f.toNat then (0, 0, 10)
    else if leadI (num (r.take (behindI f.toNat).toNat)) ≠ f.toNat then (0, 0, 11)
    else (num (r.take (behindI f.toNat).toNat), 1 + behindI f.toNat, 0)
theorem fv_bd (bs : List UInt8) : 0 ≤ (fv bs).1 ∧ (fv bs).1 < 18446744073709551616 ∧ 0 ≤ (fv bs).2.1 ∧ (fv bs).2.1 ≤ 9 ∧ (fv bs).2.1 ≤ bs.length := by
  cases bs with
  | nil => simp [fv]
  | cons f r =>
    have hf := f.toNat_lt
    have hb := behindI_bd f.toNat
    simp only [fv]
    have h64 : ∀ k : Nat, k ≤ 8 → num (r.take k) < 18446744073709551616 := fun k hk => by
      have h1 := num_lt (r.take k)
      have h2 : (r.take k).length ≤ 8 := by simp; omega
      have h3 : 256 ^ (r.take k).length ≤ 256 ^ 8 := Nat.pow_le_pow_right (by omega) h2
      omega
    have h64' := h64 (behindI f.toNat).toNat (by omega)
    generalize num (r.take (behindI f.toNat).toNat) = m at *
    simp only [List.length_cons]
    split
    · simp; omega
    · split
      · simp; omega
      · split
        · simp; omega
        · simp; omega
/-- A reader that takes n bytes: what it gives, what is left, what was amiss. -/
def takeS (n : Nat) (bs : List UInt8) (e : Int) : List UInt8 × List UInt8 × Int :=
  if e ≠ 0 then ([], bs, e) else if bs.length < n then ([], bs, 10) else (bs.take n, bs.drop n, 0)
/-- A reader that reads a Var. -/
def varS (most : Int) (bs : List UInt8) (e : Int) : Int × List UInt8 × Int :=
  if e ≠ 0 then (0, bs, e) else if (fv bs).2.2 ≠ 0 then (0, bs, (fv bs).2.2) else if most < (fv bs).1 then (0, bs, 12) else ((fv bs).1, bs.drop (fv bs).2.1.toNat, 0)
/-- .. raw bytes. -/
def rawS (n : Int) (bs : List UInt8) (e : Int) : List UInt8 × List UInt8 × Int :=
  if n < 0 then ([], bs, if e = 0 then 12 else e) else takeS n.toNat bs e
/-- .. a count. -/
def countS (most : Int) (bs : List UInt8) (e : Int) : Int × List UInt8 × Int :=
  if 0 ≤ most then varS most bs e else (0, bs, if (varS 18446744073709551615 bs e).2.2 = 0 then 12 else (varS 18446744073709551615 bs e).2.2)
/-- .. a text. -/
def textS (most : Int) (bs : List UInt8) (e : Int) : List UInt8 × List UInt8 × Int :=
  if (rawS (countS most bs e).1 (countS most bs e).2.1 (countS most bs e).2.2).2.2 ≠ 0 then ((rawS (countS most bs e).1 (countS most bs e).2.1 (countS most bs e).2.2).1, bs, (rawS (countS most bs e).1 (countS most bs e).2.1 (countS most bs e).2.2).2.2)
  else rawS (countS most bs e).1 (countS most bs e).2.1 (countS most bs e).2.2
/-- A text. -/
def textB (b : List UInt8) : List UInt8 := varB b.length ++ b
end Go.Hay
end

section
namespace Go.Hay
set_option linter.unusedVariables false

theorem be_snoc (n k : Nat) : be n (k + 1) = be (n / 256) k ++ [UInt8.ofNat (n % 256)] := by
  induction k with
  | zero => simp [be]
  | succ k ih =>
    rw [be, ih, be, List.cons_append]
    congr 2
    rw [Nat.div_div_eq_div_mul, Nat.pow_succ, Nat.mul_comm]
theorem be_num_rev (l : List UInt8) : be (num l.reverse) l.length = l.reverse := by
  induction l with
  | nil => simp [be]
  | cons x l ih =>
    have hx := x.toNat_lt
    rw [List.reverse_cons, num_snoc, List.length_cons, be_snoc, show (num l.reverse * 256 + x.toNat) / 256 = num l.reverse by omega, ih, show (num l.reverse * 256 + x.toNat) % 256 = x.toNat by omega, UInt8.ofNat_toNat]
theorem be_num (xs : List UInt8) : be (num xs) xs.length = xs := by simpa using be_num_rev xs.reverse
theorem num_be (n k : Nat) : num (be n k) = n % 256 ^ k := by
  induction k generalizing n with
  | zero => simp [be, num, Nat.mod_one]
  | succ k ih =>
    rw [be_snoc, num_snoc, ih, UInt8.toNat_ofNat', show 256 ^ (k + 1) = 256 * 256 ^ k by rw [Nat.pow_succ, Nat.mul_comm], Nat.mod_mul]
    omega
theorem octet_nat (x : UInt8) : octet x.toNat = x := by simp [octet]

/-- What is read as a number is written as the same bytes. -/
theorem fv_back (bs : List UInt8) (h : (fv bs).2.2 = 0) : varB (fv bs).1 = bs.take (fv bs).2.1.toNat ∧ 1 ≤ (fv bs).2.1 := by
  cases bs with
  | nil => simp [fv] at h
  | cons f r =>
    have hf := f.toNat_lt
    have hb := behindI_bd f.toNat
    simp only [fv] at h ⊢
    split
    · rename_i h0
      have hl : leadI f.toNat = f.toNat := by
        unfold behindI at h0
        unfold leadI
        repeat (first | split at h0 | (split <;> omega) | omega)
      simp only [varB, hl, h0, octet_nat]
      simp [be]
    · rename_i h0
      rw [if_neg h0] at h
      by_cases h1 : (r.length : Int) < behindI f.toNat
      · rw [if_pos h1] at h; simp at h
      rw [if_neg h1] at h ⊢
      by_cases h2 : leadI (num (r.take (behindI f.toNat).toNat)) ≠ f.toNat
      · rw [if_pos h2] at h; simp at h
      rw [if_neg h2]
      have h3 : leadI (num (r.take (behindI f.toNat).toNat)) = f.toNat := Decidable.not_not.1 h2
      obtain ⟨k, hk⟩ : ∃ k : Nat, behindI f.toNat = k := ⟨(behindI f.toNat).toNat, by omega⟩
      rw [hk, Int.toNat_natCast] at h3
      have hlen : (r.take k).length = k := by simp; omega
      refine ⟨?_, by show 1 ≤ 1 + behindI f.toNat; omega⟩
      show varB (num (r.take (behindI f.toNat).toNat)) = List.take (1 + behindI f.toNat).toNat (f :: r)
      rw [hk, Int.toNat_natCast]
      simp only [varB]
      rw [h3, hk, Int.toNat_natCast, Int.toNat_natCast, octet_nat]
      have e := be_num (r.take k)
      rw [hlen] at e
      rw [e, show (1 + (k : Int)).toNat = k + 1 by omega, List.take_succ_cons]

/-- Of a Var that was read: in words that the law uses. -/
theorem varS_cases (most : Int) (bs : List UInt8) {n : Int} {bs' : List UInt8} {e' : Int} (h0 : 0 ≤ most) (h : varS most bs 0 = (n, bs', e')) :
    0 ≤ n ∧ n < 18446744073709551616 ∧ bs'.length ≤ bs.length ∧ (e' ≠ 0 → n = 0 ∧ bs' = bs) ∧ (e' = 0 → n ≤ most ∧ varB n = bs.take (bs.length - bs'.length)) := by
  have hbd := fv_bd bs
  have hbk := fv_back bs
  unfold varS at h
  rw [if_neg (by simp)] at h
  split at h
  · rename_i h1
    cases h
    exact ⟨by omega, by omega, Nat.le_refl _, fun _ => ⟨rfl, rfl⟩, fun h => absurd h h1⟩
  · rename_i h1
    have h1' : (fv bs).2.2 = 0 := Decidable.not_not.1 h1
    have hbk := hbk h1'
    split at h
    · cases h
      exact ⟨by omega, by omega, Nat.le_refl _, fun _ => ⟨rfl, rfl⟩, fun h => by simp at h⟩
    · cases h
      refine ⟨by omega, by omega, by simp, fun h => absurd rfl h, fun _ => ⟨by omega, ?_⟩⟩
      rw [hbk.1]
      congr 1
      rw [List.length_drop]
      omega
end Go.Hay
end

section
namespace Go.Proofs.Ytfolkjjhlcjfgab
open Go.ChangeShapes Go.WideShapes Go.ChangeAt Go.RowKit Go.Hay
set_option linter.unusedVariables false

theorem Try.own : ownKnob Try.prog.godebug = none := by kernel_rfl
theorem Try.laidOut : laidOutB Try.prog = true := by kernel_rfl

/-- How many values a slice's datum holds, its spare places too. -/
def capD {H : Type} : DataW H → Nat
  | .slice e sp => e.length + sp.length
  | _ => 0
theorem bulk_pos {H : Type} (d : DataW H) : 1 ≤ Rows.uptoBulk d := by
  cases d with
  | lit l => cases l <;> simp [Rows.uptoBulk]
  | _ => simp [Rows.uptoBulk]
theorem bulkAll_ge {H : Type} (l : List (DataW H)) : l.length ≤ Rows.uptoBulkAll l := by
  induction l with
  | nil => simp
  | cons d l ih => have := bulk_pos d; simp only [Rows.uptoBulkAll, List.length_cons]; omega
theorem bulk_cap {H : Type} (d : DataW H) : capD d + 1 ≤ Rows.uptoBulk d := by
  cases d with
  | slice e sp => have := bulkAll_ge e; have := bulkAll_ge sp; simp only [capD, Rows.uptoBulk]; omega
  | lit l => cases l <;> simp [capD, Rows.uptoBulk]
  | _ => simp [capD, Rows.uptoBulk]
theorem bulkAll_map {H : Type} (n : Nat) (D : Nat → DataW H) (f : Nat → Nat) (h : ∀ i, i < n → f i ≤ Rows.uptoBulk (D i)) : ((List.range n).map f).sum ≤ Rows.uptoBulkAll ((List.range n).map D) := by
  have gen : ∀ l : List Nat, (∀ i ∈ l, f i ≤ Rows.uptoBulk (D i)) → (l.map f).sum ≤ Rows.uptoBulkAll (l.map D) := by
    intro l
    induction l with
    | nil => intro _; simp
    | cons i l ih =>
      intro hl
      have h1 := hl i (by simp)
      have h2 := ih (fun j hj => hl j (by simp [hj]))
      simp only [List.map_cons, List.sum_cons, Rows.uptoBulkAll]
      omega
  exact gen _ (fun i hi => h i (List.mem_range.1 hi))
theorem mem_weightsAll {H : Type} {P : Program} {e : TypeId} {l : List (DataW H)} {d : DataW H} (hd : d ∈ l) {x : Nat} (hx : x ∈ d.weights P e) : x ∈ DataW.weightsAll P e l := by
  induction l with
  | nil => cases hd
  | cons y l ih =>
    rw [DataW.weightsAll, List.mem_append]
    rcases List.mem_cons.1 hd with rfl | h
    · exact .inl hx
    · exact .inr (ih h)
/-- Within the form's reach. -/
def Fit {H : Type} (t : TypeId) (d : DataW H) : Prop := (DataW.weights Try.prog t d).all (· ≤ reachBytes) = true

theorem openEls {α : Type} [Inhabited α] (E : El α) {t e : TypeId} (ht : Try.prog.underlying t = some (.slice e)) (hcells : Try.prog.cellsOf e = E.n) (B : Nat) (hB : Try.prog.bytesOf e = B)
    {H : Type} {enc : TypeId × Value → H} {W : World} (ok : α → Prop) (Q : α → Prop) (bk : α → Nat)
    (op : ∀ fuel cs x, DataW.trod enc Try.prog W 0 (fun _ => true) true fuel e cs = some x → cs.length = E.n → ∃ y : α, ok y ∧ cs = E.c y ∧ (Fit e x.1 → Q y) ∧ bk y ≤ Rows.uptoBulk x.1)
    {a : Option Addr} {len cap : Nat} {d : DataW H} {ps : List MemPlace} (h : DataW.Trod enc Try.prog W 0 (fun _ => true) true t (.slice a len cap) d ps) :
    ∃ l : List α, len = l.length ∧ E.See W a l ∧ (∀ y ∈ l, ok y) ∧ l.length ≤ cap ∧ cap ≤ maxLen ∧ (a = none → cap = 0) ∧ (Fit t d → cap * B ≤ 140737488351232 ∧ ∀ y ∈ l, Q y) ∧ (l.map bk).sum ≤ Rows.uptoBulk d ∧ cap + 1 ≤ Rows.uptoBulk d := by
  obtain ⟨fuel, hf⟩ := h
  rcases Go.Deep.open_slice ht hf with ⟨hcs, hx⟩ | ⟨x, len', cap', m, n, D, Pl, hcs, _, hl, hmx, hm, hx, hcell⟩
  · simp [Value.cells] at hcs
    obtain ⟨rfl, rfl, rfl⟩ := hcs
    cases hx
    exact ⟨[], rfl, .inl rfl, by simp, Nat.le_refl _, Nat.zero_le _, fun _ => rfl, fun _ => ⟨by omega, by simp⟩, by simp, by simp [Rows.uptoBulk]⟩
  · simp [Value.cells] at hcs
    obtain ⟨rfl, rfl, rfl⟩ := hcs
    cases hx
    have hm' : m = cap := by simpa using hm
    subst hm'
    rw [hcells] at hcell
    obtain ⟨Y, hY⟩ := Go.Deep.choose_lt (α := α) (n := len) (p := fun i y => ok y ∧ (∀ k u, (E.c y)[k]? = some u → W.cell? ((x.add (i * E.n)).add k) = some u) ∧ (Fit e (D i) → Q y) ∧ bk y ≤ Rows.uptoBulk (D i)) (fun i hi => by
      obtain ⟨cs', h1, h2⟩ := hcell i (by omega)
      obtain ⟨_, hlen, hc⟩ := World.cells?_some h1
      obtain ⟨y, g1, rfl, g2, g3⟩ := op _ _ _ h2 hlen
      refine ⟨y, g1, fun k u hu => ?_, g2, g3⟩
      have hk : k < E.n := by have := (List.getElem?_eq_some_iff.1 hu).1; rwa [E.len] at this
      exact (hc k hk).trans hu)
    refine ⟨(List.range len).map Y, by simp, ?_, ?_, by simpa using hl, hmx, fun h => (by cases h), fun hfit => ?_, ?_, ?_⟩
    · cases hlen : len with
      | zero => exact .inl rfl
      | succ k =>
        obtain ⟨b, off, spot⟩ := x
        have h0 : 0 < (E.c (Y 0)).length := by rw [E.len]; exact E.pos
        have hc0 := (hY 0 (by omega)).2.1 0 _ (List.getElem?_eq_getElem h0)
        have hspot : spot = none := by
          have := World.cell?_spot hc0
          simpa [Addr.add] using this
        subst hspot
        refine .inr ⟨b, off, rfl, fun j u hu => ?_⟩
        rw [← hlen] at hu
        have hj : j < ((List.range len).map Y).length * E.n := by have := (List.getElem?_eq_some_iff.1 hu).1; rwa [El.cs_length] at this
        have hpos := E.pos
        have hq : j / E.n < len := by
          rw [List.length_map, List.length_range] at hj
          exact Nat.div_lt_of_lt_mul (by rw [Nat.mul_comm]; exact hj)
        have hr : j % E.n < E.n := Nat.mod_lt _ hpos
        have hje : j = j / E.n * E.n + j % E.n := by rw [Nat.mul_comm]; exact (Nat.div_add_mod j E.n).symm
        have hget : ((List.range len).map Y)[j / E.n]? = some (Y (j / E.n)) := by rw [List.getElem?_map, List.getElem?_range hq]; rfl
        rw [hje, El.cs_get E hget hr] at hu
        have hcc := (hY _ hq).2.1 _ _ hu
        rw [Addr.add_lit, Addr.add_lit, Nat.add_assoc, ← hje] at hcc
        exact hcc
    · intro y hy
      obtain ⟨i, hi, rfl⟩ := List.mem_map.1 hy
      exact (hY i (List.mem_range.1 hi)).1
    · unfold Fit at hfit
      simp only [DataW.weights, ht] at hfit
      rw [List.all_cons, Bool.and_eq_true] at hfit
      refine ⟨?_, fun y hy => ?_⟩
      · have := of_decide_eq_true hfit.1
        simp only [List.length_map, List.length_range, hB, reachBytes] at this
        rwa [show len + (m - len) = m by omega] at this
      · obtain ⟨i, hi, rfl⟩ := List.mem_map.1 hy
        refine (hY i (List.mem_range.1 hi)).2.2.1 (List.all_eq_true.2 fun x hx => List.all_eq_true.1 hfit.2 x ?_)
        rw [List.mem_append]
        exact .inl (mem_weightsAll (List.mem_map_of_mem hi) hx)
    · have := bulkAll_map len D (fun i => bk (Y i)) (fun i hi => (hY i hi).2.2.2)
      simp only [List.map_map, Rows.uptoBulk]
      have e : (List.range len).map (bk ∘ Y) = (List.range len).map (fun i => bk (Y i)) := rfl
      rw [e]
      omega
    · have := bulk_cap (.slice ((List.range len).map D) ((List.range (m - len)).map fun j => D (len + j)) : DataW H)
      simp only [capD, List.length_map, List.length_range] at this
      omega

/-- A byte. -/
def ByteE : El UInt8 where
  n := 1
  c x := [.int .u8 x.toNat]
  len _ := rfl
  one _ u hu := by simp at hu; subst hu; rfl
  pos := by decide
theorem byteCs (l : List UInt8) : ByteE.cs l = bcells l := by
  induction l with
  | nil => rfl
  | cons x l ih => rw [El.cs_cons, ih]; rfl
theorem byteSee {w : World} {a : Option Addr} {l : List UInt8} (h : ByteE.See w a l) : Sees w a l := by
  rcases h with h | ⟨g, o, rfl, hc⟩
  · exact .inl h
  · refine .inr ⟨g, o, rfl, fun j u hu => hc j _ ?_⟩
    rw [byteCs, bcells_get, hu]
    rfl
/-- A slice of bytes, and what it sees. -/
structure Bs where
  a : Option Addr
  c : Nat
  bs : List UInt8
def Bs.v (x : Bs) : Value := .slice x.a x.bs.length x.c
structure Bs.ok (w : World) (x : Bs) : Prop where
  see : Sees w x.a x.bs
  cap : x.bs.length ≤ x.c
  nil : x.a = none → x.c = 0
theorem Bs.ok.kept {w w' : World} {x : Bs} {S : List Nat} (h : x.ok w) (hk : Kp S w w') (hn : x.bs ≠ [] → ∀ k ∈ blk x.a, k ∉ S) : x.ok w' := ⟨h.see.kept' hk hn, h.cap, h.nil⟩
theorem Bs.ok.keptNew {w w' : World} {x : Bs} (h : x.ok w) (hk : Kp [] w w') : x.ok w' := h.kept hk (by simp)
instance : Inhabited Bs := ⟨⟨none, 0, []⟩⟩
theorem cellsB : Try.prog.cellsOf 5 = 1 := by kernel_rfl
theorem bytesB : Try.prog.bytesOf 5 = 1 := by kernel_rfl
theorem cellsI : Try.prog.cellsOf 3 = 1 := by kernel_rfl
def Few (x : Bs) : Prop := x.bs.length ≤ 140737488351232
section
variable {H : Type} {enc : TypeId × Value → H} {W : World}
/-- A number among the arguments' cells. -/
theorem openI {fuel : Nat} {v : Value} {x : DataW H × List MemPlace} (h : DataW.trod enc Try.prog W 0 (fun _ => true) true fuel 3 [v] = some x) : ∃ n : Int, v = .int .i64 n ∧ -9223372036854775808 ≤ n ∧ n ≤ 9223372036854775807 := by
  obtain ⟨n, e, _, hw⟩ := DataW.trod_int Try.underlying3 h
  have hb := bounds_i64 hw
  exact ⟨n, by simpa using e, hb.1, hb.2⟩
end
end Go.Proofs.Ytfolkjjhlcjfgab
end

section
namespace Go.Proofs.Ytfolkjjhlcjfgab
open Go.ChangeShapes Go.WideShapes Go.ChangeAt Go.RowKit Go.Hay
set_option linter.unusedVariables false
set_option linter.unusedSimpArgs false

theorem cellsX1 : Try.prog.cellsOf 3 = 1 := by kernel_rfl
theorem cellsX2 : Try.prog.cellsOf 4 = 1 := by kernel_rfl
theorem cellsX3 : Try.prog.cellsOf 2 = 1 := by kernel_rfl
theorem cellsX4 : Try.prog.cellsOf 9 = 1 := by kernel_rfl
theorem cellsX5 : Try.prog.cellsOf 33 = 4 := by kernel_rfl
theorem bytesX5 : Try.prog.bytesOf 33 = 40 := by kernel_rfl
instance : Inhabited Val := ⟨⟨0, false, 0, ⟨#[]⟩⟩⟩
section
variable {H : Type} {enc : TypeId × Value → H} {W : World} {a : Option Addr} {len cap : Nat} {d : DataW H} {ps : List MemPlace}
theorem openV4 {fuel : Nat} {c0 c1 c2 c3 : Value} {x : DataW H × List MemPlace} (h : DataW.trod enc Try.prog W 0 (fun _ => true) true fuel 33 [c0, c1, c2, c3] = some x) :
    ∃ t : Val, c0 = .int .i64 t.k ∧ c1 = .bool t.b ∧ c2 = .int .i64 t.n ∧ c3 = .string t.t := by
  obtain ⟨xs, n, _, rfl, _, hlen, hf⟩ := DataW.trod_struct Try.underlying33 h
  match xs, hlen with
  | [y0, y1, y2, y3], _ =>
    have h0 := hf 0 _ rfl
    have h1 := hf 1 _ rfl
    have h2 := hf 2 _ rfl
    have h3 := hf 3 _ rfl
    simp [cellsX1, cellsX2, cellsX3, cellsX4] at h0 h1 h2 h3
    obtain ⟨k, e0, _, w0⟩ := DataW.trod_int Try.underlying3 h0
    obtain ⟨b, e1, _⟩ := DataW.trod_bool Try.underlying4 h1
    obtain ⟨n2, e2, _, w2⟩ := DataW.trod_int Try.underlying2 h2
    obtain ⟨s, e3, _, w3⟩ := DataW.trod_string Try.underlying9 h3
    simp at e0 e1 e2 e3
    exact ⟨⟨k, b, n2, s⟩, e0, e1, e2, e3⟩
theorem openXv (h : DataW.Trod enc Try.prog W 0 (fun _ => true) true 30 (.slice a len cap) d ps) :
    ∃ l : List Val, len = l.length ∧ VE.See W a l ∧ (∀ y ∈ l, True) ∧ l.length ≤ cap ∧ cap ≤ maxLen ∧ (a = none → cap = 0) ∧ (Fit 30 d → cap * 40 ≤ 140737488351232 ∧ ∀ y ∈ l, True) ∧ (l.map fun _ => 0).sum ≤ Rows.uptoBulk d ∧ cap + 1 ≤ Rows.uptoBulk d :=
  openEls VE Try.underlying30 cellsX5 40 bytesX5 (fun _ => True) (fun _ => True) (fun _ => 0) (fun fuel cs x hx hcs => by
    match cs, hcs with
    | [c0, c1, c2, c3], _ =>
      obtain ⟨t, e0, e1, e2, e3⟩ := openV4 hx
      subst e0 e1 e2 e3
      exact ⟨t, trivial, rfl, fun _ => trivial, Nat.zero_le _⟩) h
end
end Go.Proofs.Ytfolkjjhlcjfgab
end

section
namespace Go.Proofs.Ytfolkjjhlcjfgab
open Go.ChangeShapes Go.WideShapes Go.ChangeAt Go.RowKit Go.Hay
set_option linter.unusedVariables false
set_option linter.unusedSimpArgs false

theorem cellsYI : Try.prog.cellsOf 3 = 1 := by kernel_rfl
theorem bytesYI : Try.prog.bytesOf 3 = 8 := by kernel_rfl
section
variable {H : Type} {enc : TypeId × Value → H} {W : World} {a : Option Addr} {len cap : Nat} {d : DataW H} {ps : List MemPlace}
theorem openVlists (h : DataW.Trod enc Try.prog W 0 (fun _ => true) true 22 (.slice a len cap) d ps) :
    ∃ l : List Vs, len = l.length ∧ VsE.See W a l ∧ (∀ y ∈ l, y.lies W) ∧ l.length ≤ cap ∧ cap ≤ maxLen ∧ (a = none → cap = 0) ∧ (Fit 22 d → cap * 24 ≤ 140737488351232 ∧ ∀ y ∈ l, y.c * 40 ≤ 140737488351232) ∧ (l.map fun y => y.l.length).sum ≤ Rows.uptoBulk d ∧ cap + 1 ≤ Rows.uptoBulk d :=
  openEls VsE Try.underlying22 cellsVs 24 bytesVs (fun y => y.lies W) (fun y => y.c * 40 ≤ 140737488351232) (fun y => y.l.length) (fun fuel cs x hx hcs => by
    obtain ⟨v, rfl⟩ : ∃ v, cs = [v] := by
      match cs, hcs with
      | [v], _ => exact ⟨v, rfl⟩
    have hv : ∃ a len cap, v = .slice a len cap := by
      rcases Go.Deep.open_slice Try.underlying30 hx with ⟨hcs, _⟩ | ⟨a, len, cap, _, _, _, _, hcs, _⟩
      · exact ⟨none, 0, 0, by simpa using hcs⟩
      · exact ⟨_, _, _, by simpa using hcs⟩
    obtain ⟨a, len, cap, rfl⟩ := hv
    have ht : DataW.Trod enc Try.prog W 0 (fun _ => true) true 30 (.slice a len cap) x.1 x.2 := ⟨fuel, hx⟩
    obtain ⟨l, rfl, hs, _, hl, hm, hn, hf, _, hb⟩ := openXv ht
    exact ⟨⟨a, cap, l⟩, ⟨seeV.1 hs, hl, hm, hn⟩, rfl, fun h => (hf h).1, by simp only; omega⟩) h
theorem openInts (h : DataW.Trod enc Try.prog W 0 (fun _ => true) true 39 (.slice a len cap) d ps) :
    ∃ l : List Int, len = l.length ∧ IntE.See W a l ∧ (∀ y ∈ l, True) ∧ l.length ≤ cap ∧ cap ≤ maxLen ∧ (a = none → cap = 0) ∧ (Fit 39 d → cap * 8 ≤ 140737488351232 ∧ ∀ y ∈ l, True) ∧ (l.map fun _ => 0).sum ≤ Rows.uptoBulk d ∧ cap + 1 ≤ Rows.uptoBulk d :=
  openEls IntE Try.underlying39 cellsYI 8 bytesYI (fun _ => True) (fun _ => True) (fun _ => 0) (fun fuel cs x hx hcs => by
    obtain ⟨v, rfl⟩ : ∃ v, cs = [v] := by
      match cs, hcs with
      | [v], _ => exact ⟨v, rfl⟩
    obtain ⟨n, e, _, _⟩ := DataW.trod_int Try.underlying3 hx
    simp at e
    subst e
    exact ⟨n, trivial, rfl, fun _ => trivial, Nat.zero_le _⟩) h
theorem lenOfSum {L : List Vs} {n : Nat} (h : (L.map fun y => y.l.length).sum ≤ n) : ∀ x ∈ L, x.l.length ≤ n := by
  induction L with
  | nil => simp
  | cons y L ih =>
    simp at h
    intro x hx
    rcases List.mem_cons.1 hx with rfl | hx
    · omega
    · exact ih (by omega) x hx
end
end Go.Proofs.Ytfolkjjhlcjfgab
end

section
namespace Go.Proofs.Ytfolkjjhlcjfgab
open Go.ChangeShapes Go.WideShapes Go.ChangeAt Go.RowKit Go.Hay
set_option linter.unusedVariables false
set_option linter.unusedSimpArgs false

theorem cellsYO2 : Try.prog.cellsOf 23 = 2 := by kernel_rfl
theorem okWide_arrY {P : Program} {w : World} {r : Reach} {base : Nat} {t : TypeId} {v : Value} {n : Nat} {e : TypeId} (ht : P.underlying t = some (.array n e)) (h : Value.okWide P w r base t v) : ∃ cs, v = .agg cs ∧ cs.size = P.cellsOf t := by
  simp only [Value.okWide, ht] at h
  obtain ⟨cs, h1, h2, _⟩ := h
  exact ⟨cs, h1, h2⟩
set_option maxRecDepth 100000 in
theorem openOn2 {H : Type} {enc : TypeId × Value → H} {W : World} {d : DataW H} {ps : List MemPlace} {base : Nat} {v : Value} (hv : Value.okWide Try.prog W .any base 23 v) (h : DataW.Trod enc Try.prog W 0 (fun _ => true) true 23 v d ps) : ∃ x y : Int, v = .agg #[.int .i64 x, .int .i64 y] := by
  obtain ⟨cs, rfl, hsz⟩ := okWide_arrY Try.underlying23 hv
  rw [cellsYO2] at hsz
  obtain ⟨fuel, hf⟩ := h
  obtain ⟨l⟩ := cs
  match l, hsz, hf with
  | [c0, c1], _, hf =>
    have hf' : DataW.trod enc Try.prog W 0 (fun _ => true) true fuel 23 [c0, c1] = some (d, ps) := hf
    obtain ⟨xs, n, _, he, _, hlen, hff⟩ := DataW.trod_array Try.underlying23 hf'
    match xs, hlen with
    | [y0, y1], _ =>
      have h0 := hff 0 (by omega)
      have h1 := hff 1 (by omega)
      simp [cellsYI] at h0 h1
      obtain ⟨x, e0, _, _⟩ := DataW.trod_int Try.underlying3 h0
      obtain ⟨y, e1, _, _⟩ := DataW.trod_int Try.underlying3 h1
      simp at e0 e1
      subst e0 e1
      exact ⟨x, y, rfl⟩
end Go.Proofs.Ytfolkjjhlcjfgab
end

section
namespace Go.Proofs.Ytfolkjjhlcjfgab
open Go.ChangeShapes Go.WideShapes Go.ChangeAt Go.RowKit Go.Hay
set_option linter.unusedVariables false

set_option maxRecDepth 100000 in
theorem execSwapsContract (H : Type) (enc : TypeId × Value → H) (W : World) (base : Nat) (args : Array Value) (ds gs : List (DataW H)) (before : List MemPlace)
    (hval : ∀ (j : Nat) t v, Try.f3.params[j]? = some t → args[j]? = some v → Value.okWide Try.prog W .any base t v)
    (hW : DataW.Whole enc Try.prog Try.f3.params.toList Rows.execSwapsSpec.vars false W args.toList ds gs before)
    (hsz : (DataW.weightsEach Try.prog (Try.f3.params.toList ++ (Rows.OpenSpec.upto Rows.execSwapsSpec).bare.plain.varTypes Try.prog) (ds ++ gs)).all (· ≤ reachBytes) = true)
    (hk : Rows.uptoSmall H (ds ++ gs) = true) :
    Calls Try.prog 3 args W fun e W' => ∃ v, e = .returned v ∧ Rows.execSwapsSpec.post enc Try.prog Try.f3 false true false false W args v W' := by
  have hW' := hW
  obtain ⟨p, q, hA0, hV, rfl, hfz, hnd⟩ := hW
  have hA : DataW.TrodAll enc Try.prog W 0 (fun _ => true) true Try.f3.params.toList args.toList ds p := hA0
  rw [Try.params3] at hA hval hsz
  obtain ⟨v0, vs0, d0, ds0, p0, q0, hargs, rfl, rfl, h0, r0⟩ := trodAll_cons hA
  obtain ⟨v1, vs1, d1, ds1, p1, q1, rfl, rfl, rfl, h1, r1⟩ := trodAll_cons r0
  obtain ⟨v2, vs2, d2, ds2, p2, q2, rfl, rfl, rfl, h2, r2⟩ := trodAll_cons r1
  obtain ⟨rfl, rfl, rfl⟩ := trodAll_nil r2
  obtain rfl : args = #[v0, v1, v2] := by cases args; simp_all
  obtain ⟨rfl, rfl⟩ := trodVars_none hV
  obtain ⟨a0, len0, cap0, rfl⟩ := okWide_slice Try.underlying22 (hval 0 22 v0 rfl rfl)
  have k0 := h0
  have lt0 : ∀ x ∈ p0, x.block < W.heap.size := by obtain ⟨m, hm⟩ := k0; exact DataW.trod_lt m _ _ _ hm
  obtain ⟨l0, rfl, hs0, hok0, hl0, hm0, hn0, hfit0, hbk0, hcp0⟩ := openVlists h0
  obtain ⟨hc0, hq0⟩ := hfit0 (List.all_eq_true.2 fun x hx => List.all_eq_true.1 hsz x (by simp [DataW.weightsEach]; first | exact .inl hx | exact .inr hx | exact .inr (.inl hx) | exact .inr (.inr hx) | exact hx))
  obtain ⟨a1, len1, cap1, rfl⟩ := okWide_slice Try.underlying22 (hval 1 22 v1 rfl rfl)
  have k1 := h1
  have lt1 : ∀ x ∈ p1, x.block < W.heap.size := by obtain ⟨m, hm⟩ := k1; exact DataW.trod_lt m _ _ _ hm
  obtain ⟨l1, rfl, hs1, hok1, hl1, hm1, hn1, hfit1, hbk1, hcp1⟩ := openVlists h1
  obtain ⟨hc1, hq1⟩ := hfit1 (List.all_eq_true.2 fun x hx => List.all_eq_true.1 hsz x (by simp [DataW.weightsEach]; first | exact .inl hx | exact .inr hx | exact .inr (.inl hx) | exact .inr (.inr hx) | exact hx))
  have k2 := h2
  have lt2 : ∀ x ∈ p2, x.block < W.heap.size := by obtain ⟨m, hm⟩ := k2; exact DataW.trod_lt m _ _ _ hm
  obtain ⟨x2, y2, rfl⟩ := openOn2 (hval 2 23 v2 rfl rfl) h2
  have hbk := of_decide_eq_true hk
  simp only [List.append_nil, Rows.uptoBulkAll] at hbk
  clear hA0
  refine (swapsWalk a0 cap0 l0 a1 cap1 l1 x2 y2 W hs0 hok0 (by omega) (fun x h => by have := lenOfSum hbk0 x h; omega) hs1 hok1 (by omega) (fun x h => by have := lenOfSum hbk1 x h; omega)).mono fun e W' ⟨he, bel⟩ => ?_
  subst he
  exact ⟨_, rfl, _, _, _, [], _, [], hW', trodAll_mk1 (shut_bool Try.underlying4 _), (trodAll_cons_mk (Below.trod Try.laidOut (by kernel_rfl) (of_decide_eq_true (by kernel_rfl)) k0 bel lt0) (trodAll_cons_mk (Below.trod Try.laidOut (by kernel_rfl) (of_decide_eq_true (by kernel_rfl)) k1 bel lt1) (trodAll_cons_mk (Below.trod Try.laidOut (by kernel_rfl) (of_decide_eq_true (by kernel_rfl)) k2 bel lt2) trodAll_mk0))), rfl, bel.frame _, fun h => by cases h⟩

set_option maxRecDepth 100000 in
theorem execSwapsLifted (os : Os) (started : os.Started) (H : Type) (enc : TypeId × Value → H) (F : Stop.Interp) :
    ReturnsInHanded {} Try.checked os 3 .any ((Rows.OpenSpec.upto Rows.execSwapsSpec).pre6 enc Try.prog Try.f3 Rows.execSwapsUptoRow.domain false) (((Rows.OpenSpec.upto Rows.execSwapsSpec).at F).post enc Try.prog Try.f3 false true false false) := by
  refine returnsInHanded_of_cond_sized (C := Try.checked) (s := Rows.OpenSpec.upto Rows.execSwapsSpec) (k := Rows.uptoSmall) rfl Try.own started (by kernel_rfl) Try.func3
    (OpenSpec.witness (enc := enc) (C := Try.checked) (s := Rows.OpenSpec.upto Rows.execSwapsSpec) (k := Rows.uptoSmall) rfl false ⟨#[], #[.slice none 0 0, .slice none 0 0, .agg #[.int .i64 0, .int .i64 0]], []⟩ 8 (by kernel_rfl) (by kernel_rfl) (by kernel_rfl)
      (x := ([.nil, .nil, .agg [.lit (.int .i64 0), .lit (.int .i64 0)]], [], [])) (by kernel_rfl) rfl (by kernel_rfl)) ?_
  intro W base args ds gs before hval hW _ hk hsz _
  exact execSwapsContract H enc W base args ds gs before hval hW hsz hk

theorem ExecSwaps_holds : Rows.ExecSwapsUptoSaid :=
  OpenClaim.holds_of_cond 3 Try.f3 rfl rfl rfl rfl rfl rfl rfl ⟨rfl, rfl, rfl, rfl, rfl⟩ rfl rfl rfl rfl rfl (by kernel_rfl) Try.func3 (by kernel_rfl)
    (of_decide_eq_true (by kernel_rfl)) (by unfold Func.isWrapper; first | (rw [if_pos (by decide +kernel)]; kernel_rfl) | (rw [if_neg (by decide +kernel)]; exact ⟨rfl, rfl⟩))
    (fun os started H enc _ F => execSwapsLifted os started H enc F)

#print axioms ExecSwaps_holds
end Go.Proofs.Ytfolkjjhlcjfgab
end

/- exec.alike: those of ordered rows whose value is like one. slices.Grow of nothing; slices.Concat. exec.pick; value.Int. -/
import Derived.Test.YtcgkkofmnajedaaDoorB4
import Derived.Lib.AppendZeros
import Derived.Test.YtcgkkofmnajedaaDoorB1
section
namespace Go.Proofs.YtcgkkofmnajedaaDoor
open Go.RowKit Go.Hay
attribute [local go_sem] Oper.semAt_some
set_option linter.unusedVariables false
set_option linter.unusedSimpArgs false

theorem seeDropVs {w : World} {a : Option Addr} {L : List Vs} (h : VsE.See w a L) (i : Nat) : VsE.See w (a.map fun x => x.add i) (L.drop i) := by
 rcases h with e | ⟨g, o, e, hc⟩
 ·exact .inl (by rw [e]; simp)
 ·subst e
  refine .inr ⟨g, o + i, by simp [Addr.add], fun j u hu => ?_⟩
  have e1 : VsE.cs (L.drop i) = (VsE.cs L).drop i := by
   have : ∀ (M : List Vs) (n : Nat), VsE.cs (M.drop n) = (VsE.cs M).drop n := fun M => by
    induction M with
    | nil => intro n; simp [El.cs]
    | cons x M ih =>
     intro n
     cases n with
     | zero => rfl
     | succ n =>
      rw [List.drop_succ_cons, ih n]
      simp [El.cs, VsE]
   exact this L i
  rw [e1, List.getElem?_drop] at hu
  have := hc (i + j) u hu
  rw [← Nat.add_assoc] at this
  exact this
/-- What is told: a part of the rows, all that are alike and no other. -/
def AlkP (ra : Option Addr) (L : List Vs) (on : Int) (v : Val) (w : World) (e : Ending) (w' : World) : Prop := ∃ (i m : Nat) (a : Option Addr) (c : Nat), e = .returned (.slice a m c) ∧ i + m ≤ L.length ∧ (∀ k, i ≤ k → k < i + m → cAt L on v k = 0) ∧ (∀ k, k < L.length → cAt L on v k = 0 → i ≤ k ∧ k < i + m) ∧ VsE.See w' a ((L.drop i).take m) ∧ (∀ k ∈ blk a, k ∈ blk ra) ∧ Kp [] w w'
theorem seeTakeVs {w : World} {a : Option Addr} {L : List Vs} (h : VsE.See w a L) (m : Nat) : VsE.See w a (L.take m) := by
 rcases h with e | ⟨g, o, e, hc⟩
 ·exact .inl (by rw [e]; simp)
 ·refine .inr ⟨g, o, e, fun j u hu => hc j u ?_⟩
  have e1 : VsE.cs (L.take m) = (VsE.cs L).take m := by
   have : ∀ (M : List Vs) (n : Nat), VsE.cs (M.take n) = (VsE.cs M).take n := fun M => by
    induction M with
    | nil => intro n; simp [El.cs]
    | cons x M ih =>
     intro n
     cases n with
     | zero => rfl
     | succ n => simp [El.cs, VsE] at ih ⊢; exact ih n
   exact this L m
  rw [e1, List.getElem?_take] at hu
  split at hu
  ·exact hu
  ·cases hu
set_option maxHeartbeats 16000000 in
set_option maxRecDepth 100000 in
theorem cAlike (ra : Option Addr) (rc : Nat) (L : List Vs) (on : Int) (v : Val) (w : World) (hs : VsE.See w ra L) (hx : ∀ x ∈ L, x.lies w) (hc : L.length ≤ rc) (hrm : rc ≤ maxLen) (hl : L.length ≤ 4000000000000) (hm : ∀ i j, i ≤ j → j < L.length → cAt L on v j < 0 → cAt L on v i < 0) (hm2 : ∀ i j, i ≤ j → j < L.length → cAt L on v j ≤ 0 → cAt L on v i ≤ 0) :
  Calls Tryd.prog 24 #[.slice ra L.length rc, .int .i64 on, .agg #[.int .i64 v.k, .bool v.b, .int .i64 v.n, .string v.t]] w (AlkP ra L on v w) := by
 obtain ⟨vk, vb, vn, vt⟩ := v
 dsimp only
 obtain ⟨w0, hw0, k0, b0⟩ : ∃ w0, w.alloc (.cells #[.int .i64 on] 3) = w0 ∧ Kp [] w w0 ∧ Bn w0 w.heap.size [.int .i64 on] := ⟨_, rfl, (Kp.refl _ _).alloc _, Bn.new w _ _⟩
 obtain ⟨w1, hw1, k1, b1⟩ : ∃ w1, w0.alloc (.cells #[.int .i64 vk, .bool vb, .int .i64 vn, .string vt] 45) = w1 ∧ Kp [] w0 w1 ∧ Bn w1 w0.heap.size [.int .i64 vk, .bool vb, .int .i64 vn, .string vt] := ⟨_, rfl, (Kp.refl _ _).alloc _, Bn.new w0 _ _⟩
 obtain ⟨q4, hq4⟩ : ∃ q, w.heap.size = q := ⟨_, rfl⟩
 obtain ⟨q5, hq5⟩ : ∃ q, w0.heap.size = q := ⟨_, rfl⟩
 rw [hq4] at b0
 rw [hq5] at b1
 have b01 := b0.kept k1
 have hB : Hid (∀ A, Kp [] w1 A → (A.cell? ⟨q4, 0, none⟩ = some (.int .i64 on) ∧ A.cell? ⟨q5, 0, none⟩ = some (.int .i64 vk) ∧ A.cell? ⟨q5, 1, none⟩ = some (.bool vb) ∧ A.cell? ⟨q5, 2, none⟩ = some (.int .i64 vn) ∧ A.cell? ⟨q5, 3, none⟩ = some (.string vt))) := fun A k => ⟨(b01.kept k).get 0 _ rfl, (b1.kept k).get 0 _ rfl, (b1.kept k).get 1 _ rfl, (b1.kept k).get 2 _ rfl, (b1.kept k).get 3 _ rfl⟩
 have K1 := hid (k0.trans k1 (by simp))
 have HS := hid (hs.keptNew K1.out)
 have HX := hid hx
 have HM := hid hm
 have HM2 := hid hm2
 have cB := hid (cBinS ra rc L ⟨vk, vb, vn, vt⟩ q4 on w1 HS.out (fun x h => (hx x h).ck (CK.ofKp K1.out) (by simp)) (hB.out w1 (Kp.refl _ _)).1 hl hm)
 obtain ⟨y0, y1, y2, y3, y4⟩ := hB.out w1 (Kp.refl _ _)
 unfold maxLen at hrm
 clear hs hx hm hm2 k0 k1 b0 b1 b01
 go_enter Tryd.func24, Tryd.ntmps24
 go_wp2_with fail
 refine cB.out.mono ?_
 rintro e w2 ⟨i, f, rfl, hi, hlo, hhi, k2⟩
 have HLO := hid hlo
 have HHI := hid hhi
 have K2 := hid k2
 have i1 : (0 : Int) ≤ (i : Int) := by omega
 have i2 : (i : Int) ≤ (L.length : Int) := by omega
 have i3 : (i : Int) ≤ (rc : Int) := by omega
 clear cB hlo hhi k2 y0 y1 y2 y3 y4
 go_wp2_with fail
 case inl h =>
  have hd0 : L.drop i = [] := List.drop_eq_nil_of_le (by omega)
  have HD : Hid (VsE.See w2 ra (L.drop i)) := .inl hd0
  have HBk : Hid (∀ k ∈ blk ra, k ∈ blk ra) := fun k hk => hk
  have hnc : L.length - i ≤ 0 := by omega
  clear hd0
  obtain ⟨C1, hC1⟩ : ∃ C : Nat, Hid (0 = C) := ⟨_, rfl⟩
  have hC2 : L.length - i ≤ C1 := by omega
  generalize hn : L.length - i = n at *
  have hnl : (L.drop i).length = n := by rw [List.length_drop]; exact hn
  have hin : Hid (i + n = L.length) := by show _ = _; omega
  have hnH := hid hn
  clear hn
  go_loopw [23] (fun vi wr => ∃ m : Nat, vi = .int .i64 (m : Int) ∧ m ≤ n ∧ Hid (∀ k, k < m → cAt L on ⟨vk, vb, vn, vt⟩ (i + k) = 0) ∧ Hid (Kp [] w2 wr)) (fun vi _ => n - (intOf vi).toNat)
  case atStart => exact ⟨0, rfl, Nat.zero_le _, fun k hk => by omega, hid (Kp.refl _ _)⟩
  case round =>
   obtain ⟨m, rfl, hmn, hz, hk⟩ := hrel
   have kwr := hid (K2.out.trans hk.out (by simp))
   by_cases hlt : m < n
   ·have hil : i + m < L.length := by have := hin.out; omega
    have hxj : (L.drop i)[m]? = some L[i + m] := by rw [List.getElem?_drop]; simp [hil]
    obtain ⟨g, o, ea, c0⟩ := vsAt HD.out hxj
    have hlj := HX.out L[i + m] (List.getElem_mem hil)
    have hcc := hlj.cap
    have hcm := hlj.most
    unfold maxLen at hcm
    have hce : Hid (cAt L on ⟨vk, vb, vn, vt⟩ (i + m) = cmpV (vAt L[i + m].l on) ⟨vk, vb, vn, vt⟩) := cAt_in hil
    have cA : Hid (∀ A, Kp [] w1 A → Calls Tryd.prog 25 #[.slice L[i + m].a L[i + m].l.length L[i + m].c, .int .i64 on] A fun e w' => e = .returned (.agg #[.int .i64 (vAt L[i + m].l on).k, .bool (vAt L[i + m].l on).b, .int .i64 (vAt L[i + m].l on).n, .string (vAt L[i + m].l on).t]) ∧ Kp [] A w') := fun A k => cAtE _ _ _ on A (hlj.see.kept (K1.out.trans k (by simp))) (by omega)
    obtain ⟨x, hx⟩ : ∃ x, Hid (L[i + m] = x) := ⟨L[i + m], rfl⟩
    rw [hx.out] at c0 hce
    simp only [hx.out] at cA
    obtain ⟨xa, xc, xl⟩ := x
    dsimp only at c0 hce cA
    obtain ⟨⟨zk, zb, zn, zt⟩, hzv⟩ : ∃ z, Hid (vAt xl on = z) := ⟨vAt xl on, rfl⟩
    rw [hzv.out] at hce
    simp only [hzv.out] at cA
    have cC := hid (fun A => cCompare ⟨zk, zb, zn, zt⟩ ⟨vk, vb, vn, vt⟩ A)
    simp only [Val.v] at cC
    obtain ⟨cc, hcv⟩ : ∃ z, Hid (cmpV ⟨zk, zb, zn, zt⟩ ⟨vk, vb, vn, vt⟩ = z) := ⟨cmpV ⟨zk, zb, zn, zt⟩ ⟨vk, vb, vn, vt⟩, rfl⟩
    rw [hcv.out] at hce
    simp only [hcv.out] at cC
    have cg := kpAt hk.out c0
    have d1 : (m : Int) < (n : Int) := by omega
    have d2 : (0 : Int) ≤ (m : Int) := by omega
    have d3 : (m : Int) + 1 ≤ 9223372036854775807 := by omega
    have d4 : (-9223372036854775808 : Int) ≤ (m : Int) + 1 := by omega
    have d5 : (m : Int) ≤ (0 : Int) := by omega
    clear c0 hxj hlj hcc hcm
    subst ea
    go_wp2_with fail
    refine wp_noPanicY ?_
    refine wp_region_held_drew (S := fun A => A.cell? ⟨q4, 0, none⟩ = some (.int .i64 on) ∧ A.cell? ⟨q5, 0, none⟩ = some (.int .i64 vk) ∧ A.cell? ⟨q5, 1, none⟩ = some (.bool vb) ∧ A.cell? ⟨q5, 2, none⟩ = some (.int .i64 vn) ∧ A.cell? ⟨q5, 3, none⟩ = some (.string vt)) (by kernel_rfl) ?_ (fun hHeld => ?_)
    ·exact hB.out _ kwr.out.drew
    have KD : Hid (Kp [] w1 wr.drew) := hid kwr.out.drew
    have KD2 : Hid (Kp [] w2 wr.drew) := hid hk.out.drew
    generalize wr.drew = wd at *
    refine wpAnyH_take (i := 0) (v := ?_) rfl (by kernel_rfl) (by kernel_rfl) (by kernel_rfl) (fun _ _ _ h => by cases h.1) (Or.inl ⟨by rfl, ?_⟩) (by assumption) ?_
    rotate_left
    ·intro w hSw; (try dsimp only at hSw); go_simp <;> with_reducible rfl
    try simp only [Act.put, lz]
    refine wpAnyH_take (i := 1) (v := ?_) rfl (by kernel_rfl) (by kernel_rfl) (by kernel_rfl) (fun _ _ _ h => by cases h.1) (Or.inl ⟨by rfl, ?_⟩) (by assumption) ?_
    rotate_left
    ·intro w hSw; (try dsimp only at hSw); go_simp <;> with_reducible rfl
    try simp only [Act.put, lz]
    refine wpAnyH_take (i := 3) (v := ?_) rfl (by kernel_rfl) (by kernel_rfl) (by kernel_rfl) (fun _ _ _ h => by cases h.1) (Or.inl ⟨by rfl, ?_⟩) (by assumption) ?_
    rotate_left
    ·intro w hSw; (try dsimp only at hSw); go_simp <;> with_reducible rfl
    try simp only [Act.put, lz]
    refine wpAnyH_ready (rs := [2]) (by kernel_rfl) (by simp) ?_
    refine AllReadyH.cons rfl (fun K hK => ?_) AllReadyH.nil
    go_simp
    refine (cA.out wd KD.out).mono ?_
    rintro e we ⟨rfl, ke⟩
    (try go_wp2_with fail)
    refine hK.out _ _ ?_ (fun hHeld => ?_)
    ·exact hB.out we (KD.out.trans ke (by simp))
    clear hK K
    try simp only [Act.put, lz]
    refine wpAnyH_ready (rs := [4]) (by kernel_rfl) (by simp) ?_
    refine AllReadyH.cons rfl (fun K hK => ?_) AllReadyH.nil
    go_simp
    refine (cC.out we).mono ?_
    rintro e wf ⟨rfl, kf⟩
    (try go_wp2_with fail)
    refine hK.out _ _ ?_ (fun hHeld => ?_)
    ·exact hB.out wf ((KD.out.trans ke (by simp)).trans kf (by simp))
    clear hK K
    try simp only [Act.put, lz]
    have KE := hid ((KD2.out.trans ke (by simp)).trans kf (by simp))
    by_cases hc0 : cc = 0
    ·have dn : (cc != 0) = false := by simpa using hc0
     have hc0' := hid hc0
     clear hc0
     try simp only [dn]
     refine wpAnyH_take (i := 5) (v := ?_) rfl (by kernel_rfl) (by kernel_rfl) (by kernel_rfl) (fun _ _ _ h => by cases h.1) (Or.inl ⟨by rfl, ?_⟩) (by assumption) ?_
     rotate_left
     ·intro w hSw; (try dsimp only at hSw); go_simp <;> with_reducible rfl
     try simp only [Act.put, lz]
     try simp only [dn]
     refine wpAnyH_done (by kernel_rfl) ⟨rfl, ?_⟩ _
     clear hHeld ke kf cA cC
     go_wp2_with fail
     go_roundw
     case rel => exact ⟨m + 1, by simp, by omega, fun k hk' => by
      by_cases e : k = m
      ·rw [e, hce.out, hc0'.out]
      ·exact hz.out k (by omega), KE⟩
     case measure => simp [intOf]; omega
    ·have dn : (cc != 0) = true := by simpa using hc0
     have hc0' := hid hc0
     clear hc0
     try simp only [dn]
     refine wpAnyH_take (i := 5) (v := ?_) rfl (by kernel_rfl) (by kernel_rfl) (by kernel_rfl) (fun _ _ _ h => by cases h.1) (Or.inl ⟨by rfl, ?_⟩) (by assumption) ?_
     rotate_left
     ·intro w hSw; (try dsimp only at hSw); go_simp <;> with_reducible rfl
     try simp only [Act.put, lz]
     try simp only [dn]
     refine wpAnyH_done (by kernel_rfl) ⟨rfl, ?_⟩ _
     clear hHeld ke kf cA cC
     go_wp2_with fail
     go_ret
     refine ⟨i, m, _, _, rfl, by omega, fun k h1 h2 => by have := hz.out (k - i) (by omega); rw [show i + (k - i) = k by omega] at this; exact this, fun k h1 h2 => ?_, ?_, HBk.out, K1.out.trans (K2.out.trans KE.out (by simp)) (by simp)⟩
     ·have ha : i ≤ k := Nat.le_of_not_lt (fun h => by have := HLO.out k h; omega)
      refine ⟨ha, Nat.lt_of_not_le (fun h => ?_)⟩
      have h3 := HM2.out (i + m) k h h1 (by omega)
      have h4 := HHI.out (i + m) (by omega) hil
      rw [hce.out] at h3 h4
      exact hc0'.out (by omega)
     ·exact seeTakeVs (HD.out.keptNew KE.out) m
   ·obtain rfl : m = n := by omega
    have dj1 : ¬ (m : Int) < (m : Int) := by omega
    have dj2 : decide ((m : Int) < (m : Int)) = false := by simp
    go_wp2_with fail
    go_ret
    refine ⟨i, m, _, _, rfl, by have := hin.out; omega, fun k h1 h2 => by have := hz.out (k - i) (by omega); rw [show i + (k - i) = k by omega] at this; exact this, fun k h1 h2 => ?_, ?_, HBk.out, K1.out.trans (K2.out.trans hk.out (by simp)) (by simp)⟩
    ·have ha : i ≤ k := Nat.le_of_not_lt (fun h => by have := HLO.out k h; omega)
     exact ⟨ha, by have := hin.out; omega⟩
    ·exact seeTakeVs (HD.out.keptNew hk.out) m
 case inr h =>
  have HD : Hid (VsE.See w2 (ra.map fun x => x.add i) (L.drop i)) := seeDropVs (HS.out.keptNew K2.out) i
  have HBk : Hid (∀ k ∈ blk (ra.map fun x => x.add i), k ∈ blk ra) := fun k hk => by rw [blk_tail] at hk; exact hk
  have hnc : L.length - i ≤ rc - i := by omega
  generalize Option.map (fun x => x.add i) ra = A1 at *
  generalize hC1 : rc - i = C1 at *
  generalize hn : L.length - i = n at *
  have hnl : (L.drop i).length = n := by rw [List.length_drop]; exact hn
  have hin : Hid (i + n = L.length) := by show _ = _; omega
  have hnH := hid hn
  clear hn
  go_loopw [23] (fun vi wr => ∃ m : Nat, vi = .int .i64 (m : Int) ∧ m ≤ n ∧ Hid (∀ k, k < m → cAt L on ⟨vk, vb, vn, vt⟩ (i + k) = 0) ∧ Hid (Kp [] w2 wr)) (fun vi _ => n - (intOf vi).toNat)
  case atStart => exact ⟨0, rfl, Nat.zero_le _, fun k hk => by omega, hid (Kp.refl _ _)⟩
  case round =>
   obtain ⟨m, rfl, hmn, hz, hk⟩ := hrel
   have kwr := hid (K2.out.trans hk.out (by simp))
   by_cases hlt : m < n
   ·have hil : i + m < L.length := by have := hin.out; omega
    have hxj : (L.drop i)[m]? = some L[i + m] := by rw [List.getElem?_drop]; simp [hil]
    obtain ⟨g, o, ea, c0⟩ := vsAt HD.out hxj
    have hlj := HX.out L[i + m] (List.getElem_mem hil)
    have hcc := hlj.cap
    have hcm := hlj.most
    unfold maxLen at hcm
    have hce : Hid (cAt L on ⟨vk, vb, vn, vt⟩ (i + m) = cmpV (vAt L[i + m].l on) ⟨vk, vb, vn, vt⟩) := cAt_in hil
    have cA : Hid (∀ A, Kp [] w1 A → Calls Tryd.prog 25 #[.slice L[i + m].a L[i + m].l.length L[i + m].c, .int .i64 on] A fun e w' => e = .returned (.agg #[.int .i64 (vAt L[i + m].l on).k, .bool (vAt L[i + m].l on).b, .int .i64 (vAt L[i + m].l on).n, .string (vAt L[i + m].l on).t]) ∧ Kp [] A w') := fun A k => cAtE _ _ _ on A (hlj.see.kept (K1.out.trans k (by simp))) (by omega)
    obtain ⟨x, hx⟩ : ∃ x, Hid (L[i + m] = x) := ⟨L[i + m], rfl⟩
    rw [hx.out] at c0 hce
    simp only [hx.out] at cA
    obtain ⟨xa, xc, xl⟩ := x
    dsimp only at c0 hce cA
    obtain ⟨⟨zk, zb, zn, zt⟩, hzv⟩ : ∃ z, Hid (vAt xl on = z) := ⟨vAt xl on, rfl⟩
    rw [hzv.out] at hce
    simp only [hzv.out] at cA
    have cC := hid (fun A => cCompare ⟨zk, zb, zn, zt⟩ ⟨vk, vb, vn, vt⟩ A)
    simp only [Val.v] at cC
    obtain ⟨cc, hcv⟩ : ∃ z, Hid (cmpV ⟨zk, zb, zn, zt⟩ ⟨vk, vb, vn, vt⟩ = z) := ⟨cmpV ⟨zk, zb, zn, zt⟩ ⟨vk, vb, vn, vt⟩, rfl⟩
    rw [hcv.out] at hce
    simp only [hcv.out] at cC
    have cg := kpAt hk.out c0
    have d1 : (m : Int) < (n : Int) := by omega
    have d2 : (0 : Int) ≤ (m : Int) := by omega
    have d3 : (m : Int) + 1 ≤ 9223372036854775807 := by omega
    have d4 : (-9223372036854775808 : Int) ≤ (m : Int) + 1 := by omega
    have d5 : (m : Int) ≤ (C1 : Int) := by omega
    clear c0 hxj hlj hcc hcm
    subst ea
    go_wp2_with fail
    refine wp_noPanicY ?_
    refine wp_region_held_drew (S := fun A => A.cell? ⟨q4, 0, none⟩ = some (.int .i64 on) ∧ A.cell? ⟨q5, 0, none⟩ = some (.int .i64 vk) ∧ A.cell? ⟨q5, 1, none⟩ = some (.bool vb) ∧ A.cell? ⟨q5, 2, none⟩ = some (.int .i64 vn) ∧ A.cell? ⟨q5, 3, none⟩ = some (.string vt)) (by kernel_rfl) ?_ (fun hHeld => ?_)
    ·exact hB.out _ kwr.out.drew
    have KD : Hid (Kp [] w1 wr.drew) := hid kwr.out.drew
    have KD2 : Hid (Kp [] w2 wr.drew) := hid hk.out.drew
    generalize wr.drew = wd at *
    refine wpAnyH_take (i := 0) (v := ?_) rfl (by kernel_rfl) (by kernel_rfl) (by kernel_rfl) (fun _ _ _ h => by cases h.1) (Or.inl ⟨by rfl, ?_⟩) (by assumption) ?_
    rotate_left
    ·intro w hSw; (try dsimp only at hSw); go_simp <;> with_reducible rfl
    try simp only [Act.put, lz]
    refine wpAnyH_take (i := 1) (v := ?_) rfl (by kernel_rfl) (by kernel_rfl) (by kernel_rfl) (fun _ _ _ h => by cases h.1) (Or.inl ⟨by rfl, ?_⟩) (by assumption) ?_
    rotate_left
    ·intro w hSw; (try dsimp only at hSw); go_simp <;> with_reducible rfl
    try simp only [Act.put, lz]
    refine wpAnyH_take (i := 3) (v := ?_) rfl (by kernel_rfl) (by kernel_rfl) (by kernel_rfl) (fun _ _ _ h => by cases h.1) (Or.inl ⟨by rfl, ?_⟩) (by assumption) ?_
    rotate_left
    ·intro w hSw; (try dsimp only at hSw); go_simp <;> with_reducible rfl
    try simp only [Act.put, lz]
    refine wpAnyH_ready (rs := [2]) (by kernel_rfl) (by simp) ?_
    refine AllReadyH.cons rfl (fun K hK => ?_) AllReadyH.nil
    go_simp
    refine (cA.out wd KD.out).mono ?_
    rintro e we ⟨rfl, ke⟩
    (try go_wp2_with fail)
    refine hK.out _ _ ?_ (fun hHeld => ?_)
    ·exact hB.out we (KD.out.trans ke (by simp))
    clear hK K
    try simp only [Act.put, lz]
    refine wpAnyH_ready (rs := [4]) (by kernel_rfl) (by simp) ?_
    refine AllReadyH.cons rfl (fun K hK => ?_) AllReadyH.nil
    go_simp
    refine (cC.out we).mono ?_
    rintro e wf ⟨rfl, kf⟩
    (try go_wp2_with fail)
    refine hK.out _ _ ?_ (fun hHeld => ?_)
    ·exact hB.out wf ((KD.out.trans ke (by simp)).trans kf (by simp))
    clear hK K
    try simp only [Act.put, lz]
    have KE := hid ((KD2.out.trans ke (by simp)).trans kf (by simp))
    by_cases hc0 : cc = 0
    ·have dn : (cc != 0) = false := by simpa using hc0
     have hc0' := hid hc0
     clear hc0
     try simp only [dn]
     refine wpAnyH_take (i := 5) (v := ?_) rfl (by kernel_rfl) (by kernel_rfl) (by kernel_rfl) (fun _ _ _ h => by cases h.1) (Or.inl ⟨by rfl, ?_⟩) (by assumption) ?_
     rotate_left
     ·intro w hSw; (try dsimp only at hSw); go_simp <;> with_reducible rfl
     try simp only [Act.put, lz]
     try simp only [dn]
     refine wpAnyH_done (by kernel_rfl) ⟨rfl, ?_⟩ _
     clear hHeld ke kf cA cC
     go_wp2_with fail
     go_roundw
     case rel => exact ⟨m + 1, by simp, by omega, fun k hk' => by
      by_cases e : k = m
      ·rw [e, hce.out, hc0'.out]
      ·exact hz.out k (by omega), KE⟩
     case measure => simp [intOf]; omega
    ·have dn : (cc != 0) = true := by simpa using hc0
     have hc0' := hid hc0
     clear hc0
     try simp only [dn]
     refine wpAnyH_take (i := 5) (v := ?_) rfl (by kernel_rfl) (by kernel_rfl) (by kernel_rfl) (fun _ _ _ h => by cases h.1) (Or.inl ⟨by rfl, ?_⟩) (by assumption) ?_
     rotate_left
     ·intro w hSw; (try dsimp only at hSw); go_simp <;> with_reducible rfl
     try simp only [Act.put, lz]
     try simp only [dn]
     refine wpAnyH_done (by kernel_rfl) ⟨rfl, ?_⟩ _
     clear hHeld ke kf cA cC
     go_wp2_with fail
     go_ret
     refine ⟨i, m, _, _, rfl, by omega, fun k h1 h2 => by have := hz.out (k - i) (by omega); rw [show i + (k - i) = k by omega] at this; exact this, fun k h1 h2 => ?_, ?_, HBk.out, K1.out.trans (K2.out.trans KE.out (by simp)) (by simp)⟩
     ·have ha : i ≤ k := Nat.le_of_not_lt (fun h => by have := HLO.out k h; omega)
      refine ⟨ha, Nat.lt_of_not_le (fun h => ?_)⟩
      have h3 := HM2.out (i + m) k h h1 (by omega)
      have h4 := HHI.out (i + m) (by omega) hil
      rw [hce.out] at h3 h4
      exact hc0'.out (by omega)
     ·exact seeTakeVs (HD.out.keptNew KE.out) m
   ·obtain rfl : m = n := by omega
    have dj1 : ¬ (m : Int) < (m : Int) := by omega
    have dj2 : decide ((m : Int) < (m : Int)) = false := by simp
    go_wp2_with fail
    go_ret
    refine ⟨i, m, _, _, rfl, by have := hin.out; omega, fun k h1 h2 => by have := hz.out (k - i) (by omega); rw [show i + (k - i) = k by omega] at this; exact this, fun k h1 h2 => ?_, ?_, HBk.out, K1.out.trans (K2.out.trans hk.out (by simp)) (by simp)⟩
    ·have ha : i ≤ k := Nat.le_of_not_lt (fun h => by have := HLO.out k h; omega)
     exact ⟨ha, by have := hin.out; omega⟩
    ·exact seeTakeVs (HD.out.keptNew hk.out) m
end Go.Proofs.YtcgkkofmnajedaaDoor
end

section
namespace Go.Proofs.YtcgkkofmnajedaaDoor
open Go.RowKit Go.Hay
attribute [local go_sem] Oper.semAt_some
set_option linter.unusedVariables false
set_option linter.unusedSimpArgs false

/-- Room in memory of its own, and nothing in it. -/
def NewE (w : World) (e : Ending) (w' : World) : Prop := ∃ a c, e = .returned (.slice a 0 c) ∧ VE.Row w' (.slice a 0 c) [] ∧ Kp [] w w' ∧ ∀ k ∈ blk a, w.heap.size ≤ k
set_option maxHeartbeats 4000000 in
set_option maxRecDepth 100000 in
theorem cGrowE (n : Nat) (w : World) (hn : n ≤ 3600000000000) : Calls Tryd.prog 45 #[.slice none 0 0, .int .i64 (n : Int)] w (NewE w) := by
 rcases Nat.eq_zero_or_pos n with h0 | h0
 ·subst h0
  go_enter Tryd.func45, Tryd.ntmps45
  go_wp2_with fail
  go_ret
  exact ⟨none, 0, rfl, .inl ⟨rfl, rfl⟩, Kp.refl _ _, by simp [blk]⟩
 ·obtain ⟨i0, hi, hz0, hz1, hz2⟩ := infoVal
  have hrun := Lib.run_append_nil_zeros (P := Tryd.prog) w 46 3 46 45 i0 _ .i64 .i64 Tryd.underlying46 Tryd.underlying3 hi hz0 n h0 (by omega) (by omega) (by rw [hz2]; omega)
  have hge := grownCap_ge w n 0 45
  have hcm := grownCap_le_maxLen w n 0 45 (by unfold maxLen; omega)
  obtain ⟨C, hC⟩ : ∃ C, grownCap w n 0 45 = C := ⟨_, rfl⟩
  rw [hC] at hrun hge hcm
  obtain ⟨W, hW⟩ : ∃ W, w.drew.alloc (.cells (Builtin.zeroCells (Value.agg #[.int .i64 0, .bool false, .int .i64 0, .string ⟨#[]⟩]).cells n ++ Builtin.zeroCells (Value.agg #[.int .i64 0, .bool false, .int .i64 0, .string ⟨#[]⟩]).cells (C - n)) 45) = W := ⟨_, rfl⟩
  rw [hW] at hrun
  have hrow : VE.Row W (.slice (some ⟨w.heap.size, 0, none⟩) 0 C) [] := by
   refine .inr ⟨w.heap.size, 0, C, rfl, Nat.zero_le _, hcm, by rw [← hW]; simp, fun j u hu => by simp [El.cs] at hu, fun j hj => ?_⟩
   rw [← hW]
   refine ⟨?_, World.frozen?_alloc_new w.drew _ _ (0 + j)⟩
   have e1 := World.cell?_alloc_new w.drew (Builtin.zeroCells (Value.agg #[.int .i64 0, .bool false, .int .i64 0, .string ⟨#[]⟩]).cells n ++ Builtin.zeroCells (Value.agg #[.int .i64 0, .bool false, .int .i64 0, .string ⟨#[]⟩]).cells (C - n)) 45 (0 + j)
   refine (congrArg Option.isSome e1).trans ?_
   rw [Nat.zero_add, Array.getElem?_eq_getElem (by
    rw [Array.size_append, size_zeroCells, size_zeroCells]
    have e4 : (Value.agg #[.int .i64 0, .bool false, .int .i64 0, .string ⟨#[]⟩]).cells.size = 4 := rfl
    have e5 : VE.n = 4 := rfl
    rw [e4]
    rw [e5] at hj
    omega)]
   rfl
  have kW : Kp [] w W := by rw [← hW]; exact (Kp.refl _ w).drew.alloc _
  have hCb : C ≤ 9223372036854775807 := by unfold maxLen at hcm; omega
  have d1 : decide ((n : Int) < 0) = false := by simp
  have d2 : (0 : Int) < (n : Int) := by omega
  have d3 : decide ((0 : Int) < (n : Int)) = true := by simp; omega
  have HW := hid (And.intro hrow kW)
  obtain ⟨q, hq⟩ : ∃ q, w.heap.size = q := ⟨_, rfl⟩
  rw [hq] at hrun HW
  have hq' := hid hq
  clear hrow kW hW hcm hge hC hi hz0 hz1 hz2 h0 hq
  go_enter Tryd.func45, Tryd.ntmps45
  go_wp2_with (first | (refine wpAppRunY rfl _ _ 46 3 rfl _ _ _ rfl rfl hrun ?_) | fail)
  go_ret
  exact ⟨_, _, rfl, HW.out.1, HW.out.2, fun k hk => by simp [blk] at hk; rw [hk, hq'.out]; exact Nat.le_refl _⟩
def sumL (L : List Vs) : Nat := (L.map fun x => x.l.length).sum
theorem sumL_take {L : List Vs} {j : Nat} (h : j < L.length) : sumL (L.take (j + 1)) = sumL (L.take j) + L[j].l.length := by
 unfold sumL
 rw [List.take_succ_eq_append_getElem h, List.map_append, List.sum_append_nat]
 simp
theorem sumL_le (L : List Vs) (j : Nat) : sumL (L.take j) ≤ sumL L := by
 have e : sumL L = sumL (L.take j) + sumL (L.drop j) := by
  unfold sumL
  conv => lhs; rw [← List.take_append_drop j L, List.map_append, List.sum_append_nat]
 omega
def catL (L : List Vs) : List Val := L.flatMap (·.l)
theorem catL_take {L : List Vs} {j : Nat} (h : j < L.length) : catL (L.take (j + 1)) = catL (L.take j) ++ L[j].l := by
 unfold catL
 rw [List.take_succ_eq_append_getElem h, List.flatMap_append]
 simp
theorem catL_len (L : List Vs) : (catL L).length = sumL L := by unfold catL sumL; rw [List.length_flatMap]
/-- Values that a slice sees, behind a row. -/
theorem appVY {W : World} {a : Option Addr} {c : Nat} {l : List Val} (h : VE.Row W (.slice a l.length c) l) (a2 : Option Addr) (c2 : Nat) (ys : List Val) (hs : Vals W a2 ys) (hl : l.length + ys.length ≤ 3600000000000) :
  ∃ a' c' W', (Builtin.append_ #[46, 46] 46 #[.slice a l.length c, .slice a2 ys.length c2]).run Tryd.prog W = .ok (.slice a' (l ++ ys).length c') W' ∧ VE.Row W' (.slice a' (l ++ ys).length c') (l ++ ys) ∧ Kp (blk a) W W' ∧ ∀ k ∈ blk a', k ∈ blk a ∨ W.heap.size ≤ k := by
 obtain ⟨i0, hi, hz0, hz1, hz2⟩ := infoVal
 have hsrc := (seeV.2 hs).src (P := Tryd.prog) Tryd.underlying46 c2
 obtain ⟨v6, X4, hrun2, hrow6, kk6, hn6⟩ := run_appendG (E := VE) (P := Tryd.prog) _ 46 46 46 45 i0 _ 40 Tryd.underlying46 hi hz0 hz1 hz2 rfl (.slice a l.length c) l h _ ys hsrc (by omega) (by omega)
 obtain ⟨a6, c6, rfl, _⟩ := hrow6.see
 rw [ownV] at kk6
 simp only [ownV] at hn6
 exact ⟨a6, c6, X4, hrun2, hrow6, kk6, hn6⟩
set_option maxHeartbeats 16000000 in
set_option maxRecDepth 100000 in
theorem cConcat (sa : Option Addr) (sc : Nat) (L : List Vs) (w : World) (hs : VsE.See w sa L) (hx : ∀ x ∈ L, x.lies w) (hl : L.length ≤ 4000000000000) (hsum : sumL L ≤ 3600000000000) :
  Calls Tryd.prog 26 #[.slice sa L.length sc] w (NewR (catL L) w) := by
 have HS := hid hs
 have HX := hid hx
 have hrow : Hid (∀ (j : Nat) (hj : j < L.length), ∃ g o, sa = some ⟨g, o, none⟩ ∧ w.cell? ⟨g, o + j, none⟩ = some (.slice L[j].a L[j].l.length L[j].c)) := fun j hj => vsAt HS.out (by simp [hj])
 have hsl := hid (fun j => sumL_le L j)
 clear hs hx
 go_enter Tryd.func26, Tryd.ntmps26
 go_wp2_with fail
 go_loopw [3, 11] (fun v3 i wr => ∃ (j N : Nat), j ≤ L.length ∧ i = .int .i64 (j : Int) ∧ v3 = .int .i64 (N : Int) ∧ Hid (N = sumL (L.take j)) ∧ w = wr) (fun _ i _ => L.length - (intOf i).toNat)
 case atStart => exact ⟨0, 0, Nat.zero_le _, rfl, rfl, rfl, rfl⟩
 case round =>
  obtain ⟨j, N, hj, rfl, rfl, hN, rfl⟩ := hrel
  by_cases hlt : j < L.length
  ·obtain ⟨g, o, ea, c0⟩ := hrow.out j hlt
   have hst := hid (sumL_take hlt)
   have hs1 := hsl.out (j + 1)
   rw [hst.out, ← hN.out] at hs1
   obtain ⟨x, hx⟩ : ∃ x, Hid (L[j] = x) := ⟨L[j], rfl⟩
   rw [hx.out] at c0 hs1 hst
   obtain ⟨xa, xc, xl⟩ := x
   dsimp only at c0 hs1 hst
   subst ea
   obtain ⟨M, hM⟩ : ∃ M : Nat, N + xl.length = M := ⟨_, rfl⟩
   have eM : (N : Int) + (xl.length : Int) = (M : Int) := by omega
   have i1 : (0 : Int) ≤ (j : Int) := by omega
   have i2 : (j : Int) < (L.length : Int) := by omega
   have i3 : (j : Int) + 1 ≤ 9223372036854775807 := by omega
   have i4 : (-9223372036854775808 : Int) ≤ (N : Int) + (xl.length : Int) := by omega
   have i5 : (N : Int) + (xl.length : Int) ≤ 9223372036854775807 := by omega
   have i6 : decide ((M : Int) < 0) = false := by simp
   have hM' : Hid (M = sumL (L.take (j + 1))) := by show _ = _; rw [hst.out, ← hN.out, hM]
   clear hM hst
   go_wp2_with fail
   go_roundw
   case rel => exact ⟨j + 1, M, by omega, by go_num, by simp [eM, IntKind.wrap_i64], hM', by simp⟩
   case measure => simp [intOf]; omega
  ·obtain rfl : j = L.length := by omega
   have dj1 : ¬ (L.length : Int) < (L.length : Int) := by omega
   have dj2 : decide ((L.length : Int) < (L.length : Int)) = false := by simp
   have hNs : N ≤ 3600000000000 := by rw [hN.out, List.take_length]; exact hsum
   have cG := hid (cGrowE N w hNs)
   go_wp2_with fail
   refine cG.out.mono ?_
   rintro e w2 ⟨ga, gc, rfl, hgr, k2, hgb⟩
   have HG := hid (And.intro hgr (And.intro k2 hgb))
   clear cG hgr k2 hgb
   go_wp2_with fail
   go_loopw [6, 27] (fun v6 i wn => ∃ (j : Nat) (a : Option Addr) (c : Nat) (l : List Val), j ≤ L.length ∧ i = .int .i64 (j : Int) ∧ v6 = .slice a l.length c ∧ Hid (l = catL (L.take j)) ∧ Hid (VE.Row wn (.slice a l.length c) l ∧ Kp [] w wn ∧ ∀ k ∈ blk a, w.heap.size ≤ k)) (fun _ i _ => L.length - (intOf i).toNat)
   case atStart => exact ⟨0, ga, gc, [], Nat.zero_le _, rfl, rfl, rfl, HG⟩
   case round =>
    obtain ⟨j, a, c, l, hj, rfl, rfl, hl', H⟩ := hrel
    clear HG
    by_cases hlt : j < L.length
    ·obtain ⟨g, o, ea, c0⟩ := hrow.out j hlt
     have cg := kpAt H.out.2.1 c0
     have hlj := HX.out L[j] (List.getElem_mem hlt)
     have hct := hid (catL_take hlt)
     have hs1 := hsl.out (j + 1)
     rw [sumL_take hlt, ← catL_len, ← hl'.out] at hs1
     obtain ⟨a4, c4, W4, hrun, hr4, k4, hn4⟩ := appVY H.out.1 L[j].a L[j].c L[j].l (hlj.see.kept H.out.2.1) (by omega)
     obtain ⟨l4, hl4⟩ : ∃ l4, Hid (l ++ L[j].l = l4) := ⟨l ++ L[j].l, rfl⟩
     rw [hl4.out] at hrun hr4
     have hl5 : Hid (l4 = catL (L.take (j + 1))) := by show _ = _; rw [hct.out, ← hl'.out, hl4.out]
     obtain ⟨x, hx⟩ : ∃ x, Hid (L[j] = x) := ⟨L[j], rfl⟩
     rw [hx.out] at cg hrun
     obtain ⟨xa, xc, xl⟩ := x
     dsimp only at cg hrun
     have HF : Hid (VE.Row W4 (.slice a4 l4.length c4) l4 ∧ Kp [] w W4 ∧ ∀ k ∈ blk a4, w.heap.size ≤ k) := ⟨hr4, H.out.2.1.trans k4 (fun x hx => .inr (H.out.2.2 x hx)), fun k hk => by
      rcases hn4 k hk with e | e
      ·exact H.out.2.2 k e
      ·have := H.out.2.1.size; omega⟩
     have i1 : (0 : Int) ≤ (j : Int) := by omega
     have i2 : (j : Int) < (L.length : Int) := by omega
     have i3 : (j : Int) + 1 ≤ 9223372036854775807 := by omega
     clear c0 hlj hs1 hr4 k4 hn4 hct
     subst ea
     go_wp2_with (first | (refine wpAppRunY rfl _ _ 46 46 rfl _ _ _ rfl rfl hrun ?_) | fail)
     go_roundw
     case rel => exact ⟨j + 1, a4, c4, l4, by omega, by go_num, rfl, hl5, HF⟩
     case measure => simp [intOf]; omega
    ·obtain rfl : j = L.length := by omega
     have hlc : l = catL L := by rw [hl'.out, List.take_length]
     subst hlc
     go_wp2_with fail
     go_ret
     exact ⟨a, c, rfl, H.out.1, H.out.2.1, H.out.2.2⟩
end Go.Proofs.YtcgkkofmnajedaaDoor
end

section
namespace Go.Proofs.YtcgkkofmnajedaaDoor
open Go.RowKit Go.Hay
attribute [local go_sem] Oper.semAt_some
set_option linter.unusedVariables false
set_option linter.unusedSimpArgs false

set_option maxHeartbeats 4000000 in
set_option maxRecDepth 100000 in
theorem cIntE (n : Int) (w : World) : Calls Tryd.prog 77 #[.int .i64 n] w fun e w' => e = .returned (.agg #[.int .i64 2, .bool false, .int .i64 n, .string ⟨#[]⟩]) ∧ Kp [] w w' := by
 obtain ⟨q, W1, W2, eq, e1, b1, e2, b2, k2, z2⟩ := boxV4Y w ⟨2, false, n, ⟨#[]⟩⟩
 have m0 := b1.get 0 _ rfl; have m1 := b1.get 1 _ rfl; have m2 := b1.get 2 _ rfl; have m3 := b1.get 3 _ rfl
 have f0 := b1.free 0; have f1 := b1.free 1; have f2 := b1.free 2; have f3 := b1.free 3
 have v0 := b2.get 0 _ rfl; have v1 := b2.get 1 _ rfl; have v2 := b2.get 2 _ rfl; have v3 := b2.get 3 _ rfl
 dsimp only at e2 v0 v1 v2 v3
 clear b1 b2
 go_enter Tryd.func77, Tryd.ntmps77
 go_wp2_with fail
 exact bodyPost_ret (v := .agg #[.int .i64 2, .bool false, .int .i64 n, .string ⟨#[]⟩]) (by simp [results, Tryd.results77, go_sem, v0, v1, v2, v3]) rfl ⟨rfl, k2⟩
/-- A row's values at some places. -/
def pickV (l : List Val) (ps : List Int) : List Val := ps.map fun p => vAt l p
theorem pickV_take {l : List Val} {ps : List Int} {j : Nat} (h : j < ps.length) : pickV l (ps.take (j + 1)) = pickV l (ps.take j) ++ [vAt l ps[j]] := by
 unfold pickV
 rw [List.take_succ_eq_append_getElem h, List.map_append]
 rfl
/-- One more value, behind a row of the call's own. -/
theorem appV1 {W : World} {a : Option Addr} {c : Nat} {l : List Val} (h : VE.Row W (.slice a l.length c) l) (v : Val) (hl : l.length ≤ 3000000000000) :
  ∃ a' c' W', (Builtin.append_ #[46, 46] 46 #[.slice a l.length c, .slice (some ⟨W.heap.size, 0, none⟩) 1 1]).run Tryd.prog (W.alloc (.cells #[.int .i64 v.k, .bool v.b, .int .i64 v.n, .string v.t] 45)) = .ok (.slice a' (l ++ [v]).length c') W' ∧ VE.Row W' (.slice a' (l ++ [v]).length c') (l ++ [v]) ∧ Kp (blk a) W W' ∧ ∀ k ∈ blk a', k ∈ blk a ∨ W.heap.size ≤ k := by
 obtain ⟨A1, hA1⟩ : ∃ A1, W.alloc (.cells #[.int .i64 v.k, .bool v.b, .int .i64 v.n, .string v.t] 45) = A1 := ⟨_, rfl⟩
 have kA1 : Kp [] W A1 := by rw [← hA1]; exact (Kp.refl _ _).alloc _
 have bx1 : Bn A1 W.heap.size (VE.c v) := by rw [← hA1]; exact Bn.new W (VE.c v) _
 have hs1 : VE.See A1 (some ⟨W.heap.size, 0, none⟩) [v] := .inr ⟨W.heap.size, 0, rfl, fun j u hu => by rw [Nat.zero_add]; exact bx1.get j u (by simpa [El.cs] using hu)⟩
 obtain ⟨a', c', W', hrun, hrow, k, hn⟩ := appVY (h.keptNew kA1) (some ⟨W.heap.size, 0, none⟩) 1 [v] (seeV.1 hs1) (by simp; omega)
 rw [hA1]
 have z1 := kA1.size
 exact ⟨a', c', W', hrun, hrow, (kA1.mono (by simp)).trans k (fun j hj => .inl hj), fun k hk => by
  rcases hn k hk with e | e
  ·exact .inl e
  ·exact .inr (by omega)⟩
/-- Room for so many values, and none in it. -/
theorem makeV0 (w : World) (n : Nat) (hn : n ≤ 3000000000000) : ∃ W, (Instr.makeSlice 46 (.int .i64 0) (.int .i64 (n : Int))).run Tryd.prog w = .ok (.slice (some ⟨w.heap.size, 0, none⟩) 0 n) W ∧ VE.Row W (.slice (some ⟨w.heap.size, 0, none⟩) 0 n) [] ∧ Kp [] w W := by
 obtain ⟨i0, hi, hz0, hz1, hz2⟩ := infoVal
 have hr := run_make (P := Tryd.prog) w 46 45 i0 _ Tryd.underlying46 hi hz0 .i64 .i64 0 n (by omega) (by omega) (by rw [hz2]; omega) (by omega)
 rw [Int.toNat_natCast, hz1] at hr
 refine ⟨_, hr, .inr ⟨w.heap.size, 0, n, rfl, Nat.zero_le _, by unfold maxLen; omega, by simp, fun j u hu => by simp [El.cs] at hu, fun j hj => ⟨?_, World.frozen?_alloc_new w _ _ (0 + j)⟩⟩, (Kp.refl _ _).alloc _⟩
 have e1 := World.cell?_alloc_new w (madeCells (Value.agg #[.int .i64 0, .bool false, .int .i64 0, .string ⟨#[]⟩]).cells (n * 4)) 45 (0 + j)
 refine (congrArg Option.isSome e1).trans ?_
 have e5 : VE.n = 4 := rfl
 rw [e5] at hj
 unfold madeCells
 rw [Nat.zero_add, Array.getElem?_map, Array.getElem?_range, if_pos hj]
 rfl
set_option maxHeartbeats 8000000 in
set_option maxRecDepth 100000 in
theorem cPick (a : Option Addr) (c : Nat) (l : List Val) (pa : Option Addr) (pc : Nat) (ps : List Int) (w : World) (ha : Vals w a l) (hl : l.length ≤ 9223372036854775807) (hp : IntE.See w pa ps) (hpl : ps.length ≤ 3000000000000) :
  Calls Tryd.prog 53 #[.slice a l.length c, .slice pa ps.length pc] w (NewR (pickV l ps) w) := by
 have HA := hid ha
 have HP := hid hp
 obtain ⟨W, hmk, hr0, k0⟩ := makeV0 w ps.length hpl
 have H0 : Hid (VE.Row W (.slice (some ⟨w.heap.size, 0, none⟩) 0 ps.length) [] ∧ Kp [] w W ∧ ∀ k ∈ blk (some (⟨w.heap.size, 0, none⟩ : Addr)), w.heap.size ≤ k) := ⟨hr0, k0, fun k hk => by simp [blk] at hk; omega⟩
 clear ha hp hr0 k0
 go_enter Tryd.func53, Tryd.ntmps53
 go_wp2_with fail
 go_loopw [5, 13] (fun v5 i wr => ∃ (j : Nat) (ra : Option Addr) (rc : Nat) (m : List Val), j ≤ ps.length ∧ i = .int .i64 (j : Int) ∧ v5 = .slice ra m.length rc ∧ Hid (m = pickV l (ps.take j)) ∧ Hid (VE.Row wr (.slice ra m.length rc) m ∧ Kp [] w wr ∧ ∀ k ∈ blk ra, w.heap.size ≤ k)) (fun _ i _ => ps.length - (intOf i).toNat)
 case atStart => exact ⟨0, _, _, [], Nat.zero_le _, rfl, rfl, rfl, H0⟩
 case round =>
  obtain ⟨j, ra, rc, m, hj, rfl, rfl, hm, H⟩ := hrel
  clear H0
  by_cases hlt : j < ps.length
  ·obtain ⟨g, o, ea, c0⟩ := intAt HP.out j hlt
   have cg := kpAt H.out.2.1 c0
   have hpt := hid (pickV_take (l := l) hlt)
   obtain ⟨p, hp⟩ : ∃ p, Hid (ps[j] = p) := ⟨ps[j], rfl⟩
   rw [hp.out] at cg hpt
   have cA := hid (cAtE a c l p wr (HA.out.kept H.out.2.1) hl)
   obtain ⟨⟨vk, vb, vn, vt⟩, hv⟩ : ∃ v, Hid (vAt l p = v) := ⟨vAt l p, rfl⟩
   rw [hv.out] at cA hpt
   dsimp only at cA
   have hml : m.length ≤ 3000000000000 := by rw [hm.out]; unfold pickV; simp; omega
   have i1 : (0 : Int) ≤ (j : Int) := by omega
   have i2 : (j : Int) < (ps.length : Int) := by omega
   have i3 : (j : Int) + 1 ≤ 9223372036854775807 := by omega
   subst ea
   clear c0
   go_wp2_with fail
   refine cA.out.mono ?_
   rintro e wd ⟨rfl, kd⟩
   obtain ⟨a4, c4, W4, hrun, hr4, k4, hn4⟩ := appV1 (H.out.1.keptNew kd) ⟨vk, vb, vn, vt⟩ hml
   obtain ⟨m4, hm4⟩ : ∃ m4, Hid (m ++ [(⟨vk, vb, vn, vt⟩ : Val)] = m4) := ⟨_, rfl⟩
   rw [hm4.out] at hrun hr4
   dsimp only at hrun
   have kwd := H.out.2.1.trans kd (by simp)
   have HF : Hid (VE.Row W4 (.slice a4 m4.length c4) m4 ∧ Kp [] w W4 ∧ ∀ k ∈ blk a4, w.heap.size ≤ k) := ⟨hr4, kwd.trans k4 (fun x hx => .inr (H.out.2.2 x hx)), fun k hk => by
    rcases hn4 k hk with e | e
    ·exact H.out.2.2 k e
    ·have := kwd.size; omega⟩
   have hm5 : Hid (m4 = pickV l (ps.take (j + 1))) := by show _ = _; rw [hpt.out, ← hm.out, hm4.out]
   clear cA kd hr4 k4 hn4 kwd
   go_wp2_with (first | (refine wpAppRunY rfl _ _ 46 46 rfl _ _ _ rfl rfl hrun ?_) | fail)
   go_roundw
   case rel => exact ⟨j + 1, a4, c4, m4, by omega, by go_num, rfl, hm5, HF⟩
   case measure => simp [intOf]; omega
  ·have hmm : m = pickV l ps := by rw [hm.out, show j = ps.length by omega, List.take_length]
   have dj1 : ¬ (j : Int) < (ps.length : Int) := by omega
   have dj2 : decide ((j : Int) < (ps.length : Int)) = false := by simp; omega
   subst hmm
   go_wp2_with fail
   go_ret
   exact ⟨ra, rc, rfl, H.out.1, H.out.2.1, H.out.2.2⟩
end Go.Proofs.YtcgkkofmnajedaaDoor
end

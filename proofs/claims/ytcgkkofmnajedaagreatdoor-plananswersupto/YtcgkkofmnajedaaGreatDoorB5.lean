/- exec.alike: those of ordered rows whose value is like one. slices.Grow of nothing; slices.Concat. exec.pick; value.Int. exec.Join's iterator. exec.Join, exec.Limit: their closures. Joining where at most one row can be joined. exec.tell: how many rows a group has. -/
import Derived.Test.YtcgkkofmnajedaaGreatDoorB4
import Derived.Lib.AppendZeros
import Derived.Test.YtcgkkofmnajedaaGreatDoorB1
set_option maxHeartbeats 64000000
set_option maxRecDepth 100000
section
namespace Go.Proofs.YtcgkkofmnajedaaGreatDoor
open Go.RowKit Go.Hay
attribute [local go_sem] Oper.semAt_some
set_option linter.unusedVariables false
set_option linter.unusedSimpArgs false
theorem seeDropVs {w : World} {a : Option Addr} {L : List Vs} (h : VsE.See w a L) (i : Nat) : VsE.See w (a.map fun x => x.add i) (L.drop i) := by
 rcases h with e | ⟨g, o, e, hc⟩
 ·exact .inl (by rw [e]; simp)
 ·subst e
  refine .inr ⟨g, o + i, by simp [Addr.add], fun j u hu => ?_⟩
  have e1 : VsE.cs (L.drop i) = (VsE.cs L).drop i := by
   have : ∀ (M : List Vs) (n : Nat), VsE.cs (M.drop n) = (VsE.cs M).drop n := fun M => by
    induction M with
    | nil => intro n; simp [El.cs]
    | cons x M ih =>
     intro n
     cases n with
     | zero => rfl
     | succ n =>
      rw [List.drop_succ_cons, ih n]
      simp [El.cs, VsE]
   exact this L i
  rw [e1, List.getElem?_drop] at hu
  have := hc (i + j) u hu
  rw [← Nat.add_assoc] at this
  exact this
def AlkP (ra : Option Addr) (L : List Vs) (on : Int) (v : Val) (w : World) (e : Ending) (w' : World) : Prop := ∃ (i m : Nat) (a : Option Addr) (c : Nat), e = .returned (.slice a m c) ∧ i + m ≤ L.length ∧ (∀ k, i ≤ k → k < i + m → cAt L on v k = 0) ∧ (∀ k, k < L.length → cAt L on v k = 0 → i ≤ k ∧ k < i + m) ∧ VsE.See w' a ((L.drop i).take m) ∧ (∀ k ∈ blk a, k ∈ blk ra) ∧ Kp [] w w'
theorem seeTakeVs {w : World} {a : Option Addr} {L : List Vs} (h : VsE.See w a L) (m : Nat) : VsE.See w a (L.take m) := by
 rcases h with e | ⟨g, o, e, hc⟩
 ·exact .inl (by rw [e]; simp)
 ·refine .inr ⟨g, o, e, fun j u hu => hc j u ?_⟩
  have e1 : VsE.cs (L.take m) = (VsE.cs L).take m := by
   have : ∀ (M : List Vs) (n : Nat), VsE.cs (M.take n) = (VsE.cs M).take n := fun M => by
    induction M with
    | nil => intro n; simp [El.cs]
    | cons x M ih =>
     intro n
     cases n with
     | zero => rfl
     | succ n => simp [El.cs, VsE] at ih ⊢; exact ih n
   exact this L m
  rw [e1, List.getElem?_take] at hu
  split at hu
  ·exact hu
  ·cases hu
theorem cAlike (ra : Option Addr) (rc : Nat) (L : List Vs) (on : Int) (v : Val) (w : World) (hs : VsE.See w ra L) (hx : ∀ x ∈ L, x.lies w) (hc : L.length ≤ rc) (hrm : rc ≤ maxLen) (hl : L.length ≤ 4000000000000) (hm : ∀ i j, i ≤ j → j < L.length → cAt L on v j < 0 → cAt L on v i < 0) (hm2 : ∀ i j, i ≤ j → j < L.length → cAt L on v j ≤ 0 → cAt L on v i ≤ 0) :
  Calls Tryz.prog 98 #[.slice ra L.length rc, .int .i64 on, .agg #[.int .i64 v.k, .bool v.b, .int .i64 v.n, .string v.t]] w (AlkP ra L on v w) := by
 obtain ⟨vk, vb, vn, vt⟩ := v
 dsimp only
 obtain ⟨w0, hw0, k0, b0⟩ : ∃ w0, w.alloc (.cells #[.int .i64 on] 3) = w0 ∧ Kp [] w w0 ∧ Bn w0 w.heap.size [.int .i64 on] := ⟨_, rfl, (Kp.refl _ _).alloc _, Bn.new w _ _⟩
 obtain ⟨w1, hw1, k1, b1⟩ : ∃ w1, w0.alloc (.cells #[.int .i64 vk, .bool vb, .int .i64 vn, .string vt] 88) = w1 ∧ Kp [] w0 w1 ∧ Bn w1 w0.heap.size [.int .i64 vk, .bool vb, .int .i64 vn, .string vt] := ⟨_, rfl, (Kp.refl _ _).alloc _, Bn.new w0 _ _⟩
 obtain ⟨q4, hq4⟩ : ∃ q, w.heap.size = q := ⟨_, rfl⟩
 obtain ⟨q5, hq5⟩ : ∃ q, w0.heap.size = q := ⟨_, rfl⟩
 rw [hq4] at b0
 rw [hq5] at b1
 have b01 := b0.kept k1
 have hB : Hid (∀ A, Kp [] w1 A → (A.cell? ⟨q4, 0, none⟩ = some (.int .i64 on) ∧ A.cell? ⟨q5, 0, none⟩ = some (.int .i64 vk) ∧ A.cell? ⟨q5, 1, none⟩ = some (.bool vb) ∧ A.cell? ⟨q5, 2, none⟩ = some (.int .i64 vn) ∧ A.cell? ⟨q5, 3, none⟩ = some (.string vt))) := fun A k => ⟨(b01.kept k).get 0 _ rfl, (b1.kept k).get 0 _ rfl, (b1.kept k).get 1 _ rfl, (b1.kept k).get 2 _ rfl, (b1.kept k).get 3 _ rfl⟩
 have K1 := hid (k0.trans k1 (by simp))
 have HS := hid (hs.keptNew K1.out)
 have HX := hid hx
 have HM := hid hm
 have HM2 := hid hm2
 have cB := hid (cBinS ra rc L ⟨vk, vb, vn, vt⟩ q4 on w1 HS.out (fun x h => (hx x h).ck (CK.ofKp K1.out) (by simp)) (hB.out w1 (Kp.refl _ _)).1 hl hm)
 obtain ⟨y0, y1, y2, y3, y4⟩ := hB.out w1 (Kp.refl _ _)
 unfold maxLen at hrm
 clear hs hx hm hm2 k0 k1 b0 b1 b01
 go_enter Tryz.func98, Tryz.ntmps98
 go_wp2_with fail
 refine cB.out.mono ?_
 rintro e w2 ⟨i, f, rfl, hi, hlo, hhi, k2⟩
 have HLO := hid hlo
 have HHI := hid hhi
 have K2 := hid k2
 have i1 : (0 : Int) ≤ (i : Int) := by omega
 have i2 : (i : Int) ≤ (L.length : Int) := by omega
 have i3 : (i : Int) ≤ (rc : Int) := by omega
 clear cB hlo hhi k2 y0 y1 y2 y3 y4
 go_wp2_with fail
 case inl h =>
  have hd0 : L.drop i = [] := List.drop_eq_nil_of_le (by omega)
  have HD : Hid (VsE.See w2 ra (L.drop i)) := .inl hd0
  have HBk : Hid (∀ k ∈ blk ra, k ∈ blk ra) := fun k hk => hk
  have hnc : L.length - i ≤ 0 := by omega
  clear hd0
  obtain ⟨C1, hC1⟩ : ∃ C : Nat, Hid (0 = C) := ⟨_, rfl⟩
  have hC2 : L.length - i ≤ C1 := by omega
  generalize hn : L.length - i = n at *
  have hnl : (L.drop i).length = n := by rw [List.length_drop]; exact hn
  have hin : Hid (i + n = L.length) := by show _ = _; omega
  have hnH := hid hn
  clear hn
  go_loopw [23] (fun vi wr => ∃ m : Nat, vi = .int .i64 (m : Int) ∧ m ≤ n ∧ Hid (∀ k, k < m → cAt L on ⟨vk, vb, vn, vt⟩ (i + k) = 0) ∧ Hid (Kp [] w2 wr)) (fun vi _ => n - (intOf vi).toNat)
  case atStart => exact ⟨0, rfl, Nat.zero_le _, fun k hk => by omega, hid (Kp.refl _ _)⟩
  case round =>
   obtain ⟨m, rfl, hmn, hz, hk⟩ := hrel
   have kwr := hid (K2.out.trans hk.out (by simp))
   by_cases hlt : m < n
   ·have hil : i + m < L.length := by have := hin.out; omega
    have hxj : (L.drop i)[m]? = some L[i + m] := by rw [List.getElem?_drop]; simp [hil]
    obtain ⟨g, o, ea, c0⟩ := vsAt HD.out hxj
    have hlj := HX.out L[i + m] (List.getElem_mem hil)
    have hcc := hlj.cap
    have hcm := hlj.most
    unfold maxLen at hcm
    have hce : Hid (cAt L on ⟨vk, vb, vn, vt⟩ (i + m) = cmpV (vAt L[i + m].l on) ⟨vk, vb, vn, vt⟩) := cAt_in hil
    have cA : Hid (∀ A, Kp [] w1 A → Calls Tryz.prog 99 #[.slice L[i + m].a L[i + m].l.length L[i + m].c, .int .i64 on] A fun e w' => e = .returned (.agg #[.int .i64 (vAt L[i + m].l on).k, .bool (vAt L[i + m].l on).b, .int .i64 (vAt L[i + m].l on).n, .string (vAt L[i + m].l on).t]) ∧ Kp [] A w') := fun A k => cAtE _ _ _ on A (hlj.see.kept (K1.out.trans k (by simp))) (by omega)
    obtain ⟨x, hx⟩ : ∃ x, Hid (L[i + m] = x) := ⟨L[i + m], rfl⟩
    rw [hx.out] at c0 hce
    simp only [hx.out] at cA
    obtain ⟨xa, xc, xl⟩ := x
    dsimp only at c0 hce cA
    obtain ⟨⟨zk, zb, zn, zt⟩, hzv⟩ : ∃ z, Hid (vAt xl on = z) := ⟨vAt xl on, rfl⟩
    rw [hzv.out] at hce
    simp only [hzv.out] at cA
    have cC := hid (fun A => cCompare ⟨zk, zb, zn, zt⟩ ⟨vk, vb, vn, vt⟩ A)
    simp only [Val.v] at cC
    obtain ⟨cc, hcv⟩ : ∃ z, Hid (cmpV ⟨zk, zb, zn, zt⟩ ⟨vk, vb, vn, vt⟩ = z) := ⟨cmpV ⟨zk, zb, zn, zt⟩ ⟨vk, vb, vn, vt⟩, rfl⟩
    rw [hcv.out] at hce
    simp only [hcv.out] at cC
    have cg := kpAt hk.out c0
    have d1 : (m : Int) < (n : Int) := by omega
    have d2 : (0 : Int) ≤ (m : Int) := by omega
    have d3 : (m : Int) + 1 ≤ 9223372036854775807 := by omega
    have d4 : (-9223372036854775808 : Int) ≤ (m : Int) + 1 := by omega
    have d5 : (m : Int) ≤ (0 : Int) := by omega
    clear c0 hxj hlj hcc hcm
    subst ea
    go_wp2_with fail
    refine wp_noPanicY ?_
    refine wp_region_held_drew (S := fun A => A.cell? ⟨q4, 0, none⟩ = some (.int .i64 on) ∧ A.cell? ⟨q5, 0, none⟩ = some (.int .i64 vk) ∧ A.cell? ⟨q5, 1, none⟩ = some (.bool vb) ∧ A.cell? ⟨q5, 2, none⟩ = some (.int .i64 vn) ∧ A.cell? ⟨q5, 3, none⟩ = some (.string vt)) (by kernel_rfl) ?_ (fun hHeld => ?_)
    ·exact hB.out _ kwr.out.drew
    have KD : Hid (Kp [] w1 wr.drew) := hid kwr.out.drew
    have KD2 : Hid (Kp [] w2 wr.drew) := hid hk.out.drew
    generalize wr.drew = wd at *
    refine tkH (v := ?_) 0 rfl (by kernel_rfl) (fun _ _ _ h => by cases h.1) (Or.inl ⟨by rfl, ?_⟩) (by assumption) ?_
    rotate_left
    ·intro w hSw; (try dsimp only at hSw); go_simp <;> with_reducible rfl
    try simp only [Act.put, lz]
    refine tkH (v := ?_) 1 rfl (by kernel_rfl) (fun _ _ _ h => by cases h.1) (Or.inl ⟨by rfl, ?_⟩) (by assumption) ?_
    rotate_left
    ·intro w hSw; (try dsimp only at hSw); go_simp <;> with_reducible rfl
    try simp only [Act.put, lz]
    refine tkH (v := ?_) 3 rfl (by kernel_rfl) (fun _ _ _ h => by cases h.1) (Or.inl ⟨by rfl, ?_⟩) (by assumption) ?_
    rotate_left
    ·intro w hSw; (try dsimp only at hSw); go_simp <;> with_reducible rfl
    try simp only [Act.put, lz]
    refine rdH 2 (by kernel_rfl) rfl fun K hK => ?_
    go_simp
    refine (cA.out wd KD.out).mono ?_
    rintro e we ⟨rfl, ke⟩
    (try go_wp2_with fail)
    refine hK.out _ _ ?_ (fun hHeld => ?_)
    ·exact hB.out we (KD.out.trans ke (by simp))
    clear hK K
    try simp only [Act.put, lz]
    refine rdH 4 (by kernel_rfl) rfl fun K hK => ?_
    go_simp
    refine (cC.out we).mono ?_
    rintro e wf ⟨rfl, kf⟩
    (try go_wp2_with fail)
    refine hK.out _ _ ?_ (fun hHeld => ?_)
    ·exact hB.out wf ((KD.out.trans ke (by simp)).trans kf (by simp))
    clear hK K
    try simp only [Act.put, lz]
    have KE := hid ((KD2.out.trans ke (by simp)).trans kf (by simp))
    by_cases hc0 : cc = 0
    ·have dn : (cc != 0) = false := by simpa using hc0
     have hc0' := hid hc0
     clear hc0
     try simp only [dn]
     refine tkH (v := ?_) 5 rfl (by kernel_rfl) (fun _ _ _ h => by cases h.1) (Or.inl ⟨by rfl, ?_⟩) (by assumption) ?_
     rotate_left
     ·intro w hSw; (try dsimp only at hSw); go_simp <;> with_reducible rfl
     try simp only [Act.put, lz]
     try simp only [dn]
     refine wpAnyH_done (by kernel_rfl) ⟨rfl, ?_⟩ _
     clear hHeld ke kf cA cC
     go_wp2_with fail
     go_roundw
     case rel => exact ⟨m + 1, by simp, by omega, fun k hk' => by
      by_cases e : k = m
      ·rw [e, hce.out, hc0'.out]
      ·exact hz.out k (by omega), KE⟩
     case measure => simp [intOf]; omega
    ·have dn : (cc != 0) = true := by simpa using hc0
     have hc0' := hid hc0
     clear hc0
     try simp only [dn]
     refine tkH (v := ?_) 5 rfl (by kernel_rfl) (fun _ _ _ h => by cases h.1) (Or.inl ⟨by rfl, ?_⟩) (by assumption) ?_
     rotate_left
     ·intro w hSw; (try dsimp only at hSw); go_simp <;> with_reducible rfl
     try simp only [Act.put, lz]
     try simp only [dn]
     refine wpAnyH_done (by kernel_rfl) ⟨rfl, ?_⟩ _
     clear hHeld ke kf cA cC
     go_wp2_with fail
     go_ret
     refine ⟨i, m, _, _, rfl, by omega, fun k h1 h2 => by have := hz.out (k - i) (by omega); rw [show i + (k - i) = k by omega] at this; exact this, fun k h1 h2 => ?_, ?_, HBk.out, K1.out.trans (K2.out.trans KE.out (by simp)) (by simp)⟩
     ·have ha : i ≤ k := Nat.le_of_not_lt (fun h => by have := HLO.out k h; omega)
      refine ⟨ha, Nat.lt_of_not_le (fun h => ?_)⟩
      have h3 := HM2.out (i + m) k h h1 (by omega)
      have h4 := HHI.out (i + m) (by omega) hil
      rw [hce.out] at h3 h4
      exact hc0'.out (by omega)
     ·exact seeTakeVs (HD.out.keptNew KE.out) m
   ·obtain rfl : m = n := by omega
    have dj1 : ¬ (m : Int) < (m : Int) := by omega
    have dj2 : decide ((m : Int) < (m : Int)) = false := by simp
    go_wp2_with fail
    go_ret
    refine ⟨i, m, _, _, rfl, by have := hin.out; omega, fun k h1 h2 => by have := hz.out (k - i) (by omega); rw [show i + (k - i) = k by omega] at this; exact this, fun k h1 h2 => ?_, ?_, HBk.out, K1.out.trans (K2.out.trans hk.out (by simp)) (by simp)⟩
    ·have ha : i ≤ k := Nat.le_of_not_lt (fun h => by have := HLO.out k h; omega)
     exact ⟨ha, by have := hin.out; omega⟩
    ·exact seeTakeVs (HD.out.keptNew hk.out) m
 case inr h =>
  have HD : Hid (VsE.See w2 (ra.map fun x => x.add i) (L.drop i)) := seeDropVs (HS.out.keptNew K2.out) i
  have HBk : Hid (∀ k ∈ blk (ra.map fun x => x.add i), k ∈ blk ra) := fun k hk => by rw [blk_tail] at hk; exact hk
  have hnc : L.length - i ≤ rc - i := by omega
  generalize Option.map (fun x => x.add i) ra = A1 at *
  generalize hC1 : rc - i = C1 at *
  generalize hn : L.length - i = n at *
  have hnl : (L.drop i).length = n := by rw [List.length_drop]; exact hn
  have hin : Hid (i + n = L.length) := by show _ = _; omega
  have hnH := hid hn
  clear hn
  go_loopw [23] (fun vi wr => ∃ m : Nat, vi = .int .i64 (m : Int) ∧ m ≤ n ∧ Hid (∀ k, k < m → cAt L on ⟨vk, vb, vn, vt⟩ (i + k) = 0) ∧ Hid (Kp [] w2 wr)) (fun vi _ => n - (intOf vi).toNat)
  case atStart => exact ⟨0, rfl, Nat.zero_le _, fun k hk => by omega, hid (Kp.refl _ _)⟩
  case round =>
   obtain ⟨m, rfl, hmn, hz, hk⟩ := hrel
   have kwr := hid (K2.out.trans hk.out (by simp))
   by_cases hlt : m < n
   ·have hil : i + m < L.length := by have := hin.out; omega
    have hxj : (L.drop i)[m]? = some L[i + m] := by rw [List.getElem?_drop]; simp [hil]
    obtain ⟨g, o, ea, c0⟩ := vsAt HD.out hxj
    have hlj := HX.out L[i + m] (List.getElem_mem hil)
    have hcc := hlj.cap
    have hcm := hlj.most
    unfold maxLen at hcm
    have hce : Hid (cAt L on ⟨vk, vb, vn, vt⟩ (i + m) = cmpV (vAt L[i + m].l on) ⟨vk, vb, vn, vt⟩) := cAt_in hil
    have cA : Hid (∀ A, Kp [] w1 A → Calls Tryz.prog 99 #[.slice L[i + m].a L[i + m].l.length L[i + m].c, .int .i64 on] A fun e w' => e = .returned (.agg #[.int .i64 (vAt L[i + m].l on).k, .bool (vAt L[i + m].l on).b, .int .i64 (vAt L[i + m].l on).n, .string (vAt L[i + m].l on).t]) ∧ Kp [] A w') := fun A k => cAtE _ _ _ on A (hlj.see.kept (K1.out.trans k (by simp))) (by omega)
    obtain ⟨x, hx⟩ : ∃ x, Hid (L[i + m] = x) := ⟨L[i + m], rfl⟩
    rw [hx.out] at c0 hce
    simp only [hx.out] at cA
    obtain ⟨xa, xc, xl⟩ := x
    dsimp only at c0 hce cA
    obtain ⟨⟨zk, zb, zn, zt⟩, hzv⟩ : ∃ z, Hid (vAt xl on = z) := ⟨vAt xl on, rfl⟩
    rw [hzv.out] at hce
    simp only [hzv.out] at cA
    have cC := hid (fun A => cCompare ⟨zk, zb, zn, zt⟩ ⟨vk, vb, vn, vt⟩ A)
    simp only [Val.v] at cC
    obtain ⟨cc, hcv⟩ : ∃ z, Hid (cmpV ⟨zk, zb, zn, zt⟩ ⟨vk, vb, vn, vt⟩ = z) := ⟨cmpV ⟨zk, zb, zn, zt⟩ ⟨vk, vb, vn, vt⟩, rfl⟩
    rw [hcv.out] at hce
    simp only [hcv.out] at cC
    have cg := kpAt hk.out c0
    have d1 : (m : Int) < (n : Int) := by omega
    have d2 : (0 : Int) ≤ (m : Int) := by omega
    have d3 : (m : Int) + 1 ≤ 9223372036854775807 := by omega
    have d4 : (-9223372036854775808 : Int) ≤ (m : Int) + 1 := by omega
    have d5 : (m : Int) ≤ (C1 : Int) := by omega
    clear c0 hxj hlj hcc hcm
    subst ea
    go_wp2_with fail
    refine wp_noPanicY ?_
    refine wp_region_held_drew (S := fun A => A.cell? ⟨q4, 0, none⟩ = some (.int .i64 on) ∧ A.cell? ⟨q5, 0, none⟩ = some (.int .i64 vk) ∧ A.cell? ⟨q5, 1, none⟩ = some (.bool vb) ∧ A.cell? ⟨q5, 2, none⟩ = some (.int .i64 vn) ∧ A.cell? ⟨q5, 3, none⟩ = some (.string vt)) (by kernel_rfl) ?_ (fun hHeld => ?_)
    ·exact hB.out _ kwr.out.drew
    have KD : Hid (Kp [] w1 wr.drew) := hid kwr.out.drew
    have KD2 : Hid (Kp [] w2 wr.drew) := hid hk.out.drew
    generalize wr.drew = wd at *
    refine tkH (v := ?_) 0 rfl (by kernel_rfl) (fun _ _ _ h => by cases h.1) (Or.inl ⟨by rfl, ?_⟩) (by assumption) ?_
    rotate_left
    ·intro w hSw; (try dsimp only at hSw); go_simp <;> with_reducible rfl
    try simp only [Act.put, lz]
    refine tkH (v := ?_) 1 rfl (by kernel_rfl) (fun _ _ _ h => by cases h.1) (Or.inl ⟨by rfl, ?_⟩) (by assumption) ?_
    rotate_left
    ·intro w hSw; (try dsimp only at hSw); go_simp <;> with_reducible rfl
    try simp only [Act.put, lz]
    refine tkH (v := ?_) 3 rfl (by kernel_rfl) (fun _ _ _ h => by cases h.1) (Or.inl ⟨by rfl, ?_⟩) (by assumption) ?_
    rotate_left
    ·intro w hSw; (try dsimp only at hSw); go_simp <;> with_reducible rfl
    try simp only [Act.put, lz]
    refine rdH 2 (by kernel_rfl) rfl fun K hK => ?_
    go_simp
    refine (cA.out wd KD.out).mono ?_
    rintro e we ⟨rfl, ke⟩
    (try go_wp2_with fail)
    refine hK.out _ _ ?_ (fun hHeld => ?_)
    ·exact hB.out we (KD.out.trans ke (by simp))
    clear hK K
    try simp only [Act.put, lz]
    refine rdH 4 (by kernel_rfl) rfl fun K hK => ?_
    go_simp
    refine (cC.out we).mono ?_
    rintro e wf ⟨rfl, kf⟩
    (try go_wp2_with fail)
    refine hK.out _ _ ?_ (fun hHeld => ?_)
    ·exact hB.out wf ((KD.out.trans ke (by simp)).trans kf (by simp))
    clear hK K
    try simp only [Act.put, lz]
    have KE := hid ((KD2.out.trans ke (by simp)).trans kf (by simp))
    by_cases hc0 : cc = 0
    ·have dn : (cc != 0) = false := by simpa using hc0
     have hc0' := hid hc0
     clear hc0
     try simp only [dn]
     refine tkH (v := ?_) 5 rfl (by kernel_rfl) (fun _ _ _ h => by cases h.1) (Or.inl ⟨by rfl, ?_⟩) (by assumption) ?_
     rotate_left
     ·intro w hSw; (try dsimp only at hSw); go_simp <;> with_reducible rfl
     try simp only [Act.put, lz]
     try simp only [dn]
     refine wpAnyH_done (by kernel_rfl) ⟨rfl, ?_⟩ _
     clear hHeld ke kf cA cC
     go_wp2_with fail
     go_roundw
     case rel => exact ⟨m + 1, by simp, by omega, fun k hk' => by
      by_cases e : k = m
      ·rw [e, hce.out, hc0'.out]
      ·exact hz.out k (by omega), KE⟩
     case measure => simp [intOf]; omega
    ·have dn : (cc != 0) = true := by simpa using hc0
     have hc0' := hid hc0
     clear hc0
     try simp only [dn]
     refine tkH (v := ?_) 5 rfl (by kernel_rfl) (fun _ _ _ h => by cases h.1) (Or.inl ⟨by rfl, ?_⟩) (by assumption) ?_
     rotate_left
     ·intro w hSw; (try dsimp only at hSw); go_simp <;> with_reducible rfl
     try simp only [Act.put, lz]
     try simp only [dn]
     refine wpAnyH_done (by kernel_rfl) ⟨rfl, ?_⟩ _
     clear hHeld ke kf cA cC
     go_wp2_with fail
     go_ret
     refine ⟨i, m, _, _, rfl, by omega, fun k h1 h2 => by have := hz.out (k - i) (by omega); rw [show i + (k - i) = k by omega] at this; exact this, fun k h1 h2 => ?_, ?_, HBk.out, K1.out.trans (K2.out.trans KE.out (by simp)) (by simp)⟩
     ·have ha : i ≤ k := Nat.le_of_not_lt (fun h => by have := HLO.out k h; omega)
      refine ⟨ha, Nat.lt_of_not_le (fun h => ?_)⟩
      have h3 := HM2.out (i + m) k h h1 (by omega)
      have h4 := HHI.out (i + m) (by omega) hil
      rw [hce.out] at h3 h4
      exact hc0'.out (by omega)
     ·exact seeTakeVs (HD.out.keptNew KE.out) m
   ·obtain rfl : m = n := by omega
    have dj1 : ¬ (m : Int) < (m : Int) := by omega
    have dj2 : decide ((m : Int) < (m : Int)) = false := by simp
    go_wp2_with fail
    go_ret
    refine ⟨i, m, _, _, rfl, by have := hin.out; omega, fun k h1 h2 => by have := hz.out (k - i) (by omega); rw [show i + (k - i) = k by omega] at this; exact this, fun k h1 h2 => ?_, ?_, HBk.out, K1.out.trans (K2.out.trans hk.out (by simp)) (by simp)⟩
    ·have ha : i ≤ k := Nat.le_of_not_lt (fun h => by have := HLO.out k h; omega)
     exact ⟨ha, by have := hin.out; omega⟩
    ·exact seeTakeVs (HD.out.keptNew hk.out) m
def NewE (w : World) (e : Ending) (w' : World) : Prop := ∃ a c, e = .returned (.slice a 0 c) ∧ VE.Row w' (.slice a 0 c) [] ∧ Kp [] w w' ∧ ∀ k ∈ blk a, w.heap.size ≤ k
theorem cGrowE (n : Nat) (w : World) (hn : n ≤ 3600000000000) : Calls Tryz.prog 131 #[.slice none 0 0, .int .i64 (n : Int)] w (NewE w) := by
 rcases Nat.eq_zero_or_pos n with h0 | h0
 ·subst h0
  go_enter Tryz.func131, Tryz.ntmps131
  go_wp2_with fail
  go_ret
  exact ⟨none, 0, rfl, .inl ⟨rfl, rfl⟩, Kp.refl _ _, by simp [blk]⟩
 ·obtain ⟨i0, hi, hz0, hz1, hz2⟩ := infoVal
  have hrun := Lib.run_append_nil_zeros (P := Tryz.prog) w 61 3 61 88 i0 _ .i64 .i64 Tryz.underlying61 Tryz.underlying3 hi hz0 n h0 (by omega) (by omega) (by rw [hz2]; omega)
  have hge := grownCap_ge w n 0 88
  have hcm := grownCap_le_maxLen w n 0 88 (by unfold maxLen; omega)
  obtain ⟨C, hC⟩ : ∃ C, grownCap w n 0 88 = C := ⟨_, rfl⟩
  rw [hC] at hrun hge hcm
  obtain ⟨W, hW⟩ : ∃ W, w.drew.alloc (.cells (Builtin.zeroCells (Value.agg #[.int .i64 0, .bool false, .int .i64 0, .string ⟨#[]⟩]).cells n ++ Builtin.zeroCells (Value.agg #[.int .i64 0, .bool false, .int .i64 0, .string ⟨#[]⟩]).cells (C - n)) 88) = W := ⟨_, rfl⟩
  rw [hW] at hrun
  have hrow : VE.Row W (.slice (some ⟨w.heap.size, 0, none⟩) 0 C) [] := by
   refine .inr ⟨w.heap.size, 0, C, rfl, Nat.zero_le _, hcm, by rw [← hW]; simp, fun j u hu => by simp [El.cs] at hu, fun j hj => ?_⟩
   rw [← hW]
   refine ⟨?_, World.frozen?_alloc_new w.drew _ _ (0 + j)⟩
   have e1 := World.cell?_alloc_new w.drew (Builtin.zeroCells (Value.agg #[.int .i64 0, .bool false, .int .i64 0, .string ⟨#[]⟩]).cells n ++ Builtin.zeroCells (Value.agg #[.int .i64 0, .bool false, .int .i64 0, .string ⟨#[]⟩]).cells (C - n)) 88 (0 + j)
   refine (congrArg Option.isSome e1).trans ?_
   rw [Nat.zero_add, Array.getElem?_eq_getElem (by
    rw [Array.size_append, size_zeroCells, size_zeroCells]
    have e4 : (Value.agg #[.int .i64 0, .bool false, .int .i64 0, .string ⟨#[]⟩]).cells.size = 4 := rfl
    have e5 : VE.n = 4 := rfl
    rw [e4]
    rw [e5] at hj
    omega)]
   rfl
  have kW : Kp [] w W := by rw [← hW]; exact (Kp.refl _ w).drew.alloc _
  have hCb : C ≤ 9223372036854775807 := by unfold maxLen at hcm; omega
  have d1 : decide ((n : Int) < 0) = false := by simp
  have d2 : (0 : Int) < (n : Int) := by omega
  have d3 : decide ((0 : Int) < (n : Int)) = true := by simp; omega
  have HW := hid (And.intro hrow kW)
  obtain ⟨q, hq⟩ : ∃ q, w.heap.size = q := ⟨_, rfl⟩
  rw [hq] at hrun HW
  have hq' := hid hq
  clear hrow kW hW hcm hge hC hi hz0 hz1 hz2 h0 hq
  go_enter Tryz.func131, Tryz.ntmps131
  go_wp2_with (first | (refine wpAppRunY rfl _ _ 61 3 rfl _ _ _ rfl rfl hrun ?_) | fail)
  go_ret
  exact ⟨_, _, rfl, HW.out.1, HW.out.2, fun k hk => by simp [blk] at hk; rw [hk, hq'.out]; exact Nat.le_refl _⟩
def sumL (L : List Vs) : Nat := (L.map fun x => x.l.length).sum
theorem sumL_take {L : List Vs} {j : Nat} (h : j < L.length) : sumL (L.take (j + 1)) = sumL (L.take j) + L[j].l.length := by
 unfold sumL
 rw [List.take_succ_eq_append_getElem h, List.map_append, List.sum_append_nat]
 simp
theorem sumL_le (L : List Vs) (j : Nat) : sumL (L.take j) ≤ sumL L := by
 have e : sumL L = sumL (L.take j) + sumL (L.drop j) := by
  unfold sumL
  conv => lhs; rw [← List.take_append_drop j L, List.map_append, List.sum_append_nat]
 omega
def catL (L : List Vs) : List Val := L.flatMap (·.l)
theorem catL_take {L : List Vs} {j : Nat} (h : j < L.length) : catL (L.take (j + 1)) = catL (L.take j) ++ L[j].l := by
 unfold catL
 rw [List.take_succ_eq_append_getElem h, List.flatMap_append]
 simp
theorem catL_len (L : List Vs) : (catL L).length = sumL L := by unfold catL sumL; rw [List.length_flatMap]
theorem appVY {W : World} {a : Option Addr} {c : Nat} {l : List Val} (h : VE.Row W (.slice a l.length c) l) (a2 : Option Addr) (c2 : Nat) (ys : List Val) (hs : Vals W a2 ys) (hl : l.length + ys.length ≤ 3600000000000) :
  ∃ a' c' W', (Builtin.append_ #[61, 61] 61 #[.slice a l.length c, .slice a2 ys.length c2]).run Tryz.prog W = .ok (.slice a' (l ++ ys).length c') W' ∧ VE.Row W' (.slice a' (l ++ ys).length c') (l ++ ys) ∧ Kp (blk a) W W' ∧ ∀ k ∈ blk a', k ∈ blk a ∨ W.heap.size ≤ k := by
 obtain ⟨i0, hi, hz0, hz1, hz2⟩ := infoVal
 have hsrc := (seeV.2 hs).src (P := Tryz.prog) Tryz.underlying61 c2
 obtain ⟨v6, X4, hrun2, hrow6, kk6, hn6⟩ := run_appendG (E := VE) (P := Tryz.prog) _ 61 61 61 88 i0 _ 40 Tryz.underlying61 hi hz0 hz1 hz2 rfl (.slice a l.length c) l h _ ys hsrc (by omega) (by omega)
 obtain ⟨a6, c6, rfl, _⟩ := hrow6.see
 rw [ownV] at kk6
 simp only [ownV] at hn6
 exact ⟨a6, c6, X4, hrun2, hrow6, kk6, hn6⟩
theorem cConcat (sa : Option Addr) (sc : Nat) (L : List Vs) (w : World) (hs : VsE.See w sa L) (hx : ∀ x ∈ L, x.lies w) (hl : L.length ≤ 4000000000000) (hsum : sumL L ≤ 3600000000000) :
  Calls Tryz.prog 84 #[.slice sa L.length sc] w (NewR (catL L) w) := by
 have HS := hid hs
 have HX := hid hx
 have hrow : Hid (∀ (j : Nat) (hj : j < L.length), ∃ g o, sa = some ⟨g, o, none⟩ ∧ w.cell? ⟨g, o + j, none⟩ = some (.slice L[j].a L[j].l.length L[j].c)) := fun j hj => vsAt HS.out (by simp [hj])
 have hsl := hid (fun j => sumL_le L j)
 clear hs hx
 go_enter Tryz.func84, Tryz.ntmps84
 go_wp2_with fail
 go_loopw [3, 11] (fun v3 i wr => ∃ (j N : Nat), j ≤ L.length ∧ i = .int .i64 (j : Int) ∧ v3 = .int .i64 (N : Int) ∧ Hid (N = sumL (L.take j)) ∧ w = wr) (fun _ i _ => L.length - (intOf i).toNat)
 case atStart => exact ⟨0, 0, Nat.zero_le _, rfl, rfl, rfl, rfl⟩
 case round =>
  obtain ⟨j, N, hj, rfl, rfl, hN, rfl⟩ := hrel
  by_cases hlt : j < L.length
  ·obtain ⟨g, o, ea, c0⟩ := hrow.out j hlt
   have hst := hid (sumL_take hlt)
   have hs1 := hsl.out (j + 1)
   rw [hst.out, ← hN.out] at hs1
   obtain ⟨x, hx⟩ : ∃ x, Hid (L[j] = x) := ⟨L[j], rfl⟩
   rw [hx.out] at c0 hs1 hst
   obtain ⟨xa, xc, xl⟩ := x
   dsimp only at c0 hs1 hst
   subst ea
   obtain ⟨M, hM⟩ : ∃ M : Nat, N + xl.length = M := ⟨_, rfl⟩
   have eM : (N : Int) + (xl.length : Int) = (M : Int) := by omega
   have i1 : (0 : Int) ≤ (j : Int) := by omega
   have i2 : (j : Int) < (L.length : Int) := by omega
   have i3 : (j : Int) + 1 ≤ 9223372036854775807 := by omega
   have i4 : (-9223372036854775808 : Int) ≤ (N : Int) + (xl.length : Int) := by omega
   have i5 : (N : Int) + (xl.length : Int) ≤ 9223372036854775807 := by omega
   have i6 : decide ((M : Int) < 0) = false := by simp
   have hM' : Hid (M = sumL (L.take (j + 1))) := by show _ = _; rw [hst.out, ← hN.out, hM]
   clear hM hst
   go_wp2_with fail
   go_roundw
   case rel => exact ⟨j + 1, M, by omega, by go_num, by simp [eM, IntKind.wrap_i64], hM', by simp⟩
   case measure => simp [intOf]; omega
  ·obtain rfl : j = L.length := by omega
   have dj1 : ¬ (L.length : Int) < (L.length : Int) := by omega
   have dj2 : decide ((L.length : Int) < (L.length : Int)) = false := by simp
   have hNs : N ≤ 3600000000000 := by rw [hN.out, List.take_length]; exact hsum
   have cG := hid (cGrowE N w hNs)
   go_wp2_with fail
   refine cG.out.mono ?_
   rintro e w2 ⟨ga, gc, rfl, hgr, k2, hgb⟩
   have HG := hid (And.intro hgr (And.intro k2 hgb))
   clear cG hgr k2 hgb
   go_wp2_with fail
   go_loopw [6, 27] (fun v6 i wn => ∃ (j : Nat) (a : Option Addr) (c : Nat) (l : List Val), j ≤ L.length ∧ i = .int .i64 (j : Int) ∧ v6 = .slice a l.length c ∧ Hid (l = catL (L.take j)) ∧ Hid (VE.Row wn (.slice a l.length c) l ∧ Kp [] w wn ∧ ∀ k ∈ blk a, w.heap.size ≤ k)) (fun _ i _ => L.length - (intOf i).toNat)
   case atStart => exact ⟨0, ga, gc, [], Nat.zero_le _, rfl, rfl, rfl, HG⟩
   case round =>
    obtain ⟨j, a, c, l, hj, rfl, rfl, hl', H⟩ := hrel
    clear HG
    by_cases hlt : j < L.length
    ·obtain ⟨g, o, ea, c0⟩ := hrow.out j hlt
     have cg := kpAt H.out.2.1 c0
     have hlj := HX.out L[j] (List.getElem_mem hlt)
     have hct := hid (catL_take hlt)
     have hs1 := hsl.out (j + 1)
     rw [sumL_take hlt, ← catL_len, ← hl'.out] at hs1
     obtain ⟨a4, c4, W4, hrun, hr4, k4, hn4⟩ := appVY H.out.1 L[j].a L[j].c L[j].l (hlj.see.kept H.out.2.1) (by omega)
     obtain ⟨l4, hl4⟩ : ∃ l4, Hid (l ++ L[j].l = l4) := ⟨l ++ L[j].l, rfl⟩
     rw [hl4.out] at hrun hr4
     have hl5 : Hid (l4 = catL (L.take (j + 1))) := by show _ = _; rw [hct.out, ← hl'.out, hl4.out]
     obtain ⟨x, hx⟩ : ∃ x, Hid (L[j] = x) := ⟨L[j], rfl⟩
     rw [hx.out] at cg hrun
     obtain ⟨xa, xc, xl⟩ := x
     dsimp only at cg hrun
     have HF : Hid (VE.Row W4 (.slice a4 l4.length c4) l4 ∧ Kp [] w W4 ∧ ∀ k ∈ blk a4, w.heap.size ≤ k) := ⟨hr4, H.out.2.1.trans k4 (fun x hx => .inr (H.out.2.2 x hx)), fun k hk => by
      rcases hn4 k hk with e | e
      ·exact H.out.2.2 k e
      ·have := H.out.2.1.size; omega⟩
     have i1 : (0 : Int) ≤ (j : Int) := by omega
     have i2 : (j : Int) < (L.length : Int) := by omega
     have i3 : (j : Int) + 1 ≤ 9223372036854775807 := by omega
     clear c0 hlj hs1 hr4 k4 hn4 hct
     subst ea
     go_wp2_with (first | (refine wpAppRunY rfl _ _ 61 61 rfl _ _ _ rfl rfl hrun ?_) | fail)
     go_roundw
     case rel => exact ⟨j + 1, a4, c4, l4, by omega, by go_num, rfl, hl5, HF⟩
     case measure => simp [intOf]; omega
    ·obtain rfl : j = L.length := by omega
     have hlc : l = catL L := by rw [hl'.out, List.take_length]
     subst hlc
     go_wp2_with fail
     go_ret
     exact ⟨a, c, rfl, H.out.1, H.out.2.1, H.out.2.2⟩
theorem cIntE (n : Int) (w : World) : Calls Tryz.prog 154 #[.int .i64 n] w fun e w' => e = .returned (.agg #[.int .i64 2, .bool false, .int .i64 n, .string ⟨#[]⟩]) ∧ Kp [] w w' := by
 obtain ⟨q, W1, W2, eq, e1, b1, e2, b2, k2, z2⟩ := boxV4Y w ⟨2, false, n, ⟨#[]⟩⟩
 have m0 := b1.get 0 _ rfl; have m1 := b1.get 1 _ rfl; have m2 := b1.get 2 _ rfl; have m3 := b1.get 3 _ rfl
 have f0 := b1.free 0; have f1 := b1.free 1; have f2 := b1.free 2; have f3 := b1.free 3
 have v0 := b2.get 0 _ rfl; have v1 := b2.get 1 _ rfl; have v2 := b2.get 2 _ rfl; have v3 := b2.get 3 _ rfl
 dsimp only at e2 v0 v1 v2 v3
 clear b1 b2
 go_enter Tryz.func154, Tryz.ntmps154
 go_wp2_with fail
 exact bodyPost_ret (v := .agg #[.int .i64 2, .bool false, .int .i64 n, .string ⟨#[]⟩]) (by simp [results, Tryz.results154, go_sem, v0, v1, v2, v3]) rfl ⟨rfl, k2⟩
def pickV (l : List Val) (ps : List Int) : List Val := ps.map fun p => vAt l p
theorem pickV_take {l : List Val} {ps : List Int} {j : Nat} (h : j < ps.length) : pickV l (ps.take (j + 1)) = pickV l (ps.take j) ++ [vAt l ps[j]] := by
 unfold pickV
 rw [List.take_succ_eq_append_getElem h, List.map_append]
 rfl
theorem appV1 {W : World} {a : Option Addr} {c : Nat} {l : List Val} (h : VE.Row W (.slice a l.length c) l) (v : Val) (hl : l.length ≤ 3000000000000) :
  ∃ a' c' W', (Builtin.append_ #[61, 61] 61 #[.slice a l.length c, .slice (some ⟨W.heap.size, 0, none⟩) 1 1]).run Tryz.prog (W.alloc (.cells #[.int .i64 v.k, .bool v.b, .int .i64 v.n, .string v.t] 88)) = .ok (.slice a' (l ++ [v]).length c') W' ∧ VE.Row W' (.slice a' (l ++ [v]).length c') (l ++ [v]) ∧ Kp (blk a) W W' ∧ ∀ k ∈ blk a', k ∈ blk a ∨ W.heap.size ≤ k := by
 obtain ⟨A1, hA1⟩ : ∃ A1, W.alloc (.cells #[.int .i64 v.k, .bool v.b, .int .i64 v.n, .string v.t] 88) = A1 := ⟨_, rfl⟩
 have kA1 : Kp [] W A1 := by rw [← hA1]; exact (Kp.refl _ _).alloc _
 have bx1 : Bn A1 W.heap.size (VE.c v) := by rw [← hA1]; exact Bn.new W (VE.c v) _
 have hs1 : VE.See A1 (some ⟨W.heap.size, 0, none⟩) [v] := .inr ⟨W.heap.size, 0, rfl, fun j u hu => by rw [Nat.zero_add]; exact bx1.get j u (by simpa [El.cs] using hu)⟩
 obtain ⟨a', c', W', hrun, hrow, k, hn⟩ := appVY (h.keptNew kA1) (some ⟨W.heap.size, 0, none⟩) 1 [v] (seeV.1 hs1) (by simp; omega)
 rw [hA1]
 have z1 := kA1.size
 exact ⟨a', c', W', hrun, hrow, (kA1.mono (by simp)).trans k (fun j hj => .inl hj), fun k hk => by
  rcases hn k hk with e | e
  ·exact .inl e
  ·exact .inr (by omega)⟩
theorem makeV0 (w : World) (n : Nat) (hn : n ≤ 3000000000000) : ∃ W, (Instr.makeSlice 61 (.int .i64 0) (.int .i64 (n : Int))).run Tryz.prog w = .ok (.slice (some ⟨w.heap.size, 0, none⟩) 0 n) W ∧ VE.Row W (.slice (some ⟨w.heap.size, 0, none⟩) 0 n) [] ∧ Kp [] w W := by
 obtain ⟨i0, hi, hz0, hz1, hz2⟩ := infoVal
 have hr := run_make (P := Tryz.prog) w 61 88 i0 _ Tryz.underlying61 hi hz0 .i64 .i64 0 n (by omega) (by omega) (by rw [hz2]; omega) (by omega)
 rw [Int.toNat_natCast, hz1] at hr
 refine ⟨_, hr, .inr ⟨w.heap.size, 0, n, rfl, Nat.zero_le _, by unfold maxLen; omega, by simp, fun j u hu => by simp [El.cs] at hu, fun j hj => ⟨?_, World.frozen?_alloc_new w _ _ (0 + j)⟩⟩, (Kp.refl _ _).alloc _⟩
 have e1 := World.cell?_alloc_new w (madeCells (Value.agg #[.int .i64 0, .bool false, .int .i64 0, .string ⟨#[]⟩]).cells (n * 4)) 88 (0 + j)
 refine (congrArg Option.isSome e1).trans ?_
 have e5 : VE.n = 4 := rfl
 rw [e5] at hj
 unfold madeCells
 rw [Nat.zero_add, Array.getElem?_map, Array.getElem?_range, if_pos hj]
 rfl
theorem cPick (a : Option Addr) (c : Nat) (l : List Val) (pa : Option Addr) (pc : Nat) (ps : List Int) (w : World) (ha : Vals w a l) (hl : l.length ≤ 9223372036854775807) (hp : IntE.See w pa ps) (hpl : ps.length ≤ 3000000000000) :
  Calls Tryz.prog 146 #[.slice a l.length c, .slice pa ps.length pc] w (NewR (pickV l ps) w) := by
 have HA := hid ha
 have HP := hid hp
 obtain ⟨W, hmk, hr0, k0⟩ := makeV0 w ps.length hpl
 have H0 : Hid (VE.Row W (.slice (some ⟨w.heap.size, 0, none⟩) 0 ps.length) [] ∧ Kp [] w W ∧ ∀ k ∈ blk (some (⟨w.heap.size, 0, none⟩ : Addr)), w.heap.size ≤ k) := ⟨hr0, k0, fun k hk => by simp [blk] at hk; omega⟩
 clear ha hp hr0 k0
 go_enter Tryz.func146, Tryz.ntmps146
 go_wp2_with fail
 go_loopw [5, 13] (fun v5 i wr => ∃ (j : Nat) (ra : Option Addr) (rc : Nat) (m : List Val), j ≤ ps.length ∧ i = .int .i64 (j : Int) ∧ v5 = .slice ra m.length rc ∧ Hid (m = pickV l (ps.take j)) ∧ Hid (VE.Row wr (.slice ra m.length rc) m ∧ Kp [] w wr ∧ ∀ k ∈ blk ra, w.heap.size ≤ k)) (fun _ i _ => ps.length - (intOf i).toNat)
 case atStart => exact ⟨0, _, _, [], Nat.zero_le _, rfl, rfl, rfl, H0⟩
 case round =>
  obtain ⟨j, ra, rc, m, hj, rfl, rfl, hm, H⟩ := hrel
  clear H0
  by_cases hlt : j < ps.length
  ·obtain ⟨g, o, ea, c0⟩ := intAt HP.out j hlt
   have cg := kpAt H.out.2.1 c0
   have hpt := hid (pickV_take (l := l) hlt)
   obtain ⟨p, hp⟩ : ∃ p, Hid (ps[j] = p) := ⟨ps[j], rfl⟩
   rw [hp.out] at cg hpt
   have cA := hid (cAtE a c l p wr (HA.out.kept H.out.2.1) hl)
   obtain ⟨⟨vk, vb, vn, vt⟩, hv⟩ : ∃ v, Hid (vAt l p = v) := ⟨vAt l p, rfl⟩
   rw [hv.out] at cA hpt
   dsimp only at cA
   have hml : m.length ≤ 3000000000000 := by rw [hm.out]; unfold pickV; simp; omega
   have i1 : (0 : Int) ≤ (j : Int) := by omega
   have i2 : (j : Int) < (ps.length : Int) := by omega
   have i3 : (j : Int) + 1 ≤ 9223372036854775807 := by omega
   subst ea
   clear c0
   go_wp2_with fail
   refine cA.out.mono ?_
   rintro e wd ⟨rfl, kd⟩
   obtain ⟨a4, c4, W4, hrun, hr4, k4, hn4⟩ := appV1 (H.out.1.keptNew kd) ⟨vk, vb, vn, vt⟩ hml
   obtain ⟨m4, hm4⟩ : ∃ m4, Hid (m ++ [(⟨vk, vb, vn, vt⟩ : Val)] = m4) := ⟨_, rfl⟩
   rw [hm4.out] at hrun hr4
   dsimp only at hrun
   have kwd := H.out.2.1.trans kd (by simp)
   have HF : Hid (VE.Row W4 (.slice a4 m4.length c4) m4 ∧ Kp [] w W4 ∧ ∀ k ∈ blk a4, w.heap.size ≤ k) := ⟨hr4, kwd.trans k4 (fun x hx => .inr (H.out.2.2 x hx)), fun k hk => by
    rcases hn4 k hk with e | e
    ·exact H.out.2.2 k e
    ·have := kwd.size; omega⟩
   have hm5 : Hid (m4 = pickV l (ps.take (j + 1))) := by show _ = _; rw [hpt.out, ← hm.out, hm4.out]
   clear cA kd hr4 k4 hn4 kwd
   go_wp2_with (first | (refine wpAppRunY rfl _ _ 61 61 rfl _ _ _ rfl rfl hrun ?_) | fail)
   go_roundw
   case rel => exact ⟨j + 1, a4, c4, m4, by omega, by go_num, rfl, hm5, HF⟩
   case measure => simp [intOf]; omega
  ·have hmm : m = pickV l ps := by rw [hm.out, show j = ps.length by omega, List.take_length]
   have dj1 : ¬ (j : Int) < (ps.length : Int) := by omega
   have dj2 : decide ((j : Int) < (ps.length : Int)) = false := by simp; omega
   subst hmm
   go_wp2_with fail
   go_ret
   exact ⟨ra, rc, rfl, H.out.1, H.out.2.1, H.out.2.2⟩
theorem roomJ_of_none {F : Fence} (hd : F.depth = none) (k : Nat) : F.room k := fun d h => by rw [hd] at h; cases h
theorem RoundIn.anyDepthJ {F : Fence} (hd : F.depth = none) {m m' : Nat} {P : Program} {l : Nat} {f : FuncId} {tmps : Array Value} {assign body : Code} {w : World} {R : Ending → World → Prop}
  (h : RoundIn F m P l f tmps assign body w R) : RoundIn F m' P l f tmps assign body w R := ⟨h.1, fun c cs _ => h.2 c cs (roomJ_of_none hd _)⟩
theorem filter_range {α : Type} (p : α → Bool) (L : List α) (i m : Nat) (h : i + m ≤ L.length) (h1 : ∀ k (hk : k < L.length), i ≤ k → k < i + m → p L[k] = true) (h2 : ∀ k (hk : k < L.length), p L[k] = true → i ≤ k ∧ k < i + m) : L.filter p = (L.drop i).take m := by
 have e : L = L.take i ++ ((L.drop i).take m ++ (L.drop i).drop m) := by rw [List.take_append_drop, List.take_append_drop]
 conv => lhs; rw [e]
 rw [List.filter_append, List.filter_append]
 have a1 : (L.take i).filter p = [] := List.filter_eq_nil_iff.2 fun x hx => by
  obtain ⟨k, hk, rfl⟩ := List.getElem_of_mem hx
  rw [List.length_take] at hk
  rw [List.getElem_take]
  intro hp
  have := h2 k (by omega) hp
  omega
 have a2 : ((L.drop i).take m).filter p = (L.drop i).take m := List.filter_eq_self.2 fun x hx => by
  obtain ⟨k, hk, rfl⟩ := List.getElem_of_mem hx
  rw [List.length_take, List.length_drop] at hk
  rw [List.getElem_take, List.getElem_drop]
  exact h1 (i + k) (by omega) (by omega) (by omega)
 have a3 : ((L.drop i).drop m).filter p = [] := List.filter_eq_nil_iff.2 fun x hx => by
  obtain ⟨k, hk, rfl⟩ := List.getElem_of_mem hx
  rw [List.length_drop, List.length_drop] at hk
  rw [List.getElem_drop, List.getElem_drop]
  intro hp
  have := h2 (i + (m + k)) (by omega) hp
  omega
 rw [a1, a2, a3]
 simp
def fJ (S : List (List Val)) (lo ro : Int) (x : List Val) : List (List Val) := (S.filter fun r => cmpV (vAt r ro) (vAt x lo) == 0).map (x ++ ·)
theorem fJ_sub {SL : List Vs} {S : List (List Val)} (hS : SL.map (·.l) = S) {lo ro : Int} {x : List Val} {i m : Nat} (h : i + m ≤ SL.length) (h1 : ∀ k, i ≤ k → k < i + m → cAt SL ro (vAt x lo) k = 0) (h2 : ∀ k, k < SL.length → cAt SL ro (vAt x lo) k = 0 → i ≤ k ∧ k < i + m) : fJ S lo ro x = ((SL.drop i).take m).map fun o => x ++ o.l := by
 unfold fJ
 rw [← hS, List.filter_map, filter_range _ SL i m h (fun k hk a b => by have := h1 k a b; rw [cAt_in hk] at this; simpa using this) (fun k hk a => h2 k hk (by rw [cAt_in hk]; simpa using a)), List.map_map]
 rfl
def joinR (RL S : List (List Val)) (lo ro : Int) : List (List Val) := RL.flatMap (fJ S lo ro)
structure MJ (lo ro : Int) (q2 q4 q5 q6 ly N : Nat) (sra : Option Addr) (src : Nat) (SL : List Vs) (W : World) : Prop where
 c2 : W.cell? ⟨q2, 0, none⟩ = some (.int .i64 ro)
 c4 : W.cell? ⟨q4, 0, none⟩ = some (.int .i64 lo)
 c5 : W.cell? ⟨q5, 0, none⟩ = some (.func (.yield ly) #[] #[])
 c6 : W.cell? ⟨q6, 0, none⟩ = some (.slice sra SL.length src)
 lot : Lot N sra src SL W
def mjs (q2 q4 q5 q6 : Nat) (sra : Option Addr) (SL : List Vs) : List Nat := [q2, q4, q5, q6] ++ blk sra ++ SL.flatMap fun x => blk x.a
theorem MJ.ck {lo ro : Int} {q2 q4 q5 q6 ly N : Nat} {sra : Option Addr} {src : Nat} {SL : List Vs} {X Y : World} (h : MJ lo ro q2 q4 q5 q6 ly N sra src SL X) (k : CK (fun k => k ∈ mjs q2 q4 q5 q6 sra SL) X Y) : MJ lo ro q2 q4 q5 q6 ly N sra src SL Y :=
 ⟨(k.2 ⟨q2, 0, none⟩ _ (by simp [mjs]) h.c2).1, (k.2 ⟨q4, 0, none⟩ _ (by simp [mjs]) h.c4).1, (k.2 ⟨q5, 0, none⟩ _ (by simp [mjs]) h.c5).1, (k.2 ⟨q6, 0, none⟩ _ (by simp [mjs]) h.c6).1, h.lot.ck k (fun j hj => by simp [mjs, hj]) (fun x hx j hj => by simp only [mjs, List.mem_append, List.mem_flatMap]; exact .inr ⟨x, hx, hj⟩)⟩
theorem ckOfKeepB {js : List Nat} {X Y : World} (h : KeepB js X Y) : CK (fun k => k ∈ js) X Y := ⟨h.1, fun p u hp hc => by
 have hl := World.block_lt_of_cell? _ _ hc
 have e : X.heap[p.block]? = some X.heap[p.block] := by simp [hl]
 have e2 := (h.2 _ hp _ e).trans e.symm
 exact ⟨(World.cell?_of_block e2).trans hc, World.frozen?_of_block e2⟩⟩
theorem joinSeq (n : Nat) (hn : 4 ≤ n) (q1 q2 q3 q4 : Nat) (frL frR : Bool) (gl gr : Nat) (lbl lbr : Array Value) (RL RR S : List (List Val)) (jsl jsr js : List Nat) (lo ro : Int) (w : World)
  (heL : ∀ args w, (callFunc gl args).run Tryz.prog w = .ok (.enter gl args) w) (heR : ∀ args w, (callFunc gr args).run Tryz.prog w = .ok (.enter gr args) w)
  (c1 : w.cell? ⟨q1, 0, none⟩ = some (.func (.func gr) #[] lbr)) (c2 : w.cell? ⟨q2, 0, none⟩ = some (.int .i64 ro)) (c3 : w.cell? ⟨q3, 0, none⟩ = some (.func (.func gl) #[] lbl)) (c4 : w.cell? ⟨q4, 0, none⟩ = some (.int .i64 lo))
  (hq : ∀ q ∈ [q1, q2, q3, q4], q ∈ js) (hjl : ∀ j ∈ jsl, j ∈ js) (hjr : ∀ j ∈ jsr, j ∈ js) (hjb : ∀ j ∈ js, j < w.heap.size)
  (hL : ∀ n, 1 ≤ n → RowSeq frL n gl lbl RL jsl w) (hR : ∀ n, 1 ≤ n → RowSeq frR n gr lbr RR jsr w)
  (hRR : RR.length ≤ 4000000000000) (hRRl : ∀ l ∈ RR, l.length ≤ 1800000000000) (hRLl : ∀ l ∈ RL, l.length ≤ 1800000000000) (hSl : S.length ≤ 4000000000000) (hSll : ∀ l ∈ S, l.length ≤ 1800000000000)
  (hsort : ∀ (W : World) (N q : Nat) (ra : Option Addr) (rc : Nat) (L : List Vs), Lot N ra rc L W → L.map (·.l) = ordR ro RR → W.cell? ⟨q, 0, none⟩ = some (.int .i64 ro) → q ∉ blk ra → Calls Tryz.prog 105 #[.slice ra L.length rc, .func (.func 135) #[] #[.pointer (some ⟨q, 0, none⟩)]] W (SortP N ra rc L.length S W))
  (hmono : ∀ (SL : List Vs) (v : Val), SL.map (·.l) = S → (∀ i j, i ≤ j → j < SL.length → cAt SL ro v j < 0 → cAt SL ro v i < 0) ∧ (∀ i j, i ≤ j → j < SL.length → cAt SL ro v j ≤ 0 → cAt SL ro v i ≤ 0)) :
  RowSeq true n 96 #[.pointer (some ⟨q1, 0, none⟩), .pointer (some ⟨q2, 0, none⟩), .pointer (some ⟨q3, 0, none⟩), .pointer (some ⟨q4, 0, none⟩)] (joinR RL S lo ro) js w := by
 intro ly J Jx W hW hT hX hY h0
 obtain ⟨RJ, hRJ⟩ : ∃ R, Hid (joinR RL S lo ro = R) := ⟨_, rfl⟩
 rw [hRJ.out] at hT ⊢
 have kjs := hW.js
 have d1 := kjs.cell (hq q1 (by simp)) c1
 have d2 := kjs.cell (hq q2 (by simp)) c2
 have d3 := kjs.cell (hq q3 (by simp)) c3
 have d4 := kjs.cell (hq q4 (by simp)) c4
 have hlW : ∀ n, 1 ≤ n → RowSeq frL n gl lbl RL jsl W := fun n h => (hL n h).move ⟨kjs.1, fun j hj o ho => kjs.2 j (hjl j hj) o ho⟩
 have hrW : ∀ n, 1 ≤ n → RowSeq frR n gr lbr RR jsr W := fun n h => (hR n h).move ⟨kjs.1, fun j hj o ho => kjs.2 j (hjr j hj) o ho⟩
 have hjW : ∀ j ∈ js, j < W.heap.size := fun j hj => Nat.lt_of_lt_of_le (hjb j hj) kjs.1
 obtain ⟨W1, hW1, k1, b1⟩ : ∃ W1, W.alloc (.cells #[.func (.yield ly) #[] #[]] 169) = W1 ∧ Kp [] W W1 ∧ Bn W1 W.heap.size [.func (.yield ly) #[] #[]] := ⟨_, rfl, (Kp.refl _ _).alloc _, Bn.new W _ _⟩
 obtain ⟨q5, hq5⟩ : ∃ q, Hid (W.heap.size = q) := ⟨_, rfl⟩
 rw [hq5.out] at b1
 have cO := hid (callsIn_wide.1 (cOrderedG 4 (by omega) frR gr lbr RR jsr ro S W1 heR ((hrW 3 (by omega)).move (KeepB.ofKp k1 (by simp))) (fun j hj => Nat.lt_of_lt_of_le (hjW j (hjr j hj)) k1.size) hRR (fun l h => by have := hRRl l h; omega) hsort))
 have e1 := kpAt k1 d1; have e2 := kpAt k1 d2; have e3 := kpAt k1 d3; have e4 := kpAt k1 d4
 have HA := hid (And.intro k1 (And.intro b1 (And.intro hlW (And.intro hjW (And.intro d2 (And.intro d3 d4))))))
 have h0' := hid h0
 clear c1 c2 c3 c4 hL hR hsort hW kjs hjb hrW hlW k1 b1 d1 d2 d3 d4 hRR hRRl h0
 refine callsIn_of_wp_marks Tryz.func96 rfl trivial ?_ rfl
 simp only [Tryz.ntmps96, List.size_toArray, List.length_cons, List.length_nil, Nat.reduceAdd, Nat.reduceSub, Array.replicate_succ, Array.replicate_zero, List.push_toArray, List.append_toArray, List.nil_append, List.cons_append]
 refine wpIn_wide.2 ?_
 have hq5' := hq5.out
 go_wp2_with fail
 go_step3
 go_wp2_with fail
 refine cO.out.mono ?_
 rintro e W2 ⟨sra, src, SL, rfl, hlot, hSL, k2⟩
 obtain ⟨q6, hq6⟩ : ∃ q, Hid (W2.heap.size = q) := ⟨_, rfl⟩
 obtain ⟨W3z, hW3z, k3z, b3z⟩ : ∃ W3, W2.alloc (.cells #[.slice none 0 0] 60) = W3 ∧ Kp [] W2 W3 ∧ Bn W3 q6 [.slice none 0 0] := ⟨_, rfl, (Kp.refl _ _).alloc _, by have := Bn.new W2 [.slice none 0 0] 60; rw [hq6.out] at this; exact this⟩
 have z0 := b3z.get 0 _ rfl
 have zf := b3z.free 0
 obtain ⟨W3, hW3, k3, b3⟩ : ∃ W3, W3z.setCell ⟨q6, 0, none⟩ (.slice sra SL.length src) = W3 ∧ Kp [] W2 W3 ∧ Bn W3 q6 [.slice sra SL.length src] := ⟨_, rfl, k3z.setCell (.inr (by rw [← hq6.out]; exact Nat.le_refl _)) _, b3z.set 0 (by simp) _⟩
 have k13 := k2.trans k3 (by simp)
 have k03 := HA.out.1.trans k13 (by simp)
 have f3 := kpAt k03 HA.out.2.2.2.2.2.1
 have hM3 : MJ lo ro q2 q4 q5 q6 ly W1.heap.size sra src SL W3 := ⟨kpAt k03 HA.out.2.2.2.2.1, kpAt k03 HA.out.2.2.2.2.2.2, (HA.out.2.1.kept k13).get 0 _ rfl, b3.get 0 _ rfl, hlot.ck (CK.ofKp k3) (by simp) (by simp)⟩
 obtain ⟨Mj, hMj⟩ : ∃ M, Hid (M = mjs q2 q4 q5 q6 sra SL) := ⟨_, rfl⟩
 have hMb : ∀ j ∈ Mj, j < W3.heap.size := fun j hj => by
  rw [hMj.out] at hj
  have hz := k03.size
  simp only [mjs, List.mem_append, List.mem_cons, List.mem_flatMap, List.not_mem_nil, or_false] at hj
  rcases hj with ((rfl | rfl | rfl | rfl) | hj) | ⟨x, hx, hj⟩
  ·exact World.block_lt_of_cell? _ _ hM3.c2
  ·exact World.block_lt_of_cell? _ _ hM3.c4
  ·exact World.block_lt_of_cell? _ _ hM3.c5
  ·exact World.block_lt_of_cell? _ _ hM3.c6
  ·exact hM3.lot.lt j hj
  ·exact (hM3.lot.rows x hx j hj).2.1
 have hMst : ∀ X Y, MJ lo ro q2 q4 q5 q6 ly W1.heap.size sra src SL X → CK (fun k => k ∈ Mj) X Y → MJ lo ro q2 q4 q5 q6 ly W1.heap.size sra src SL Y := fun X Y h k => h.ck (by rw [← hMj.out]; exact k)
 have hMn : ∀ j ∈ Mj, j ∈ js ∨ (W.heap.size ≤ j ∧ j < W3.heap.size) := fun j hj => by
  have hlt := hMb j hj
  rw [hMj.out] at hj
  have hz1 := HA.out.1.size
  have hz2 := k2.size
  simp only [mjs, List.mem_append, List.mem_cons, List.mem_flatMap, List.not_mem_nil, or_false] at hj
  rcases hj with ((rfl | rfl | rfl | rfl) | hj) | ⟨x, hx, hj⟩
  ·exact .inl (hq _ (by simp))
  ·exact .inl (hq _ (by simp))
  ·exact .inr ⟨by rw [← hq5.out]; exact Nat.le_refl _, hlt⟩
  ·exact .inr ⟨by rw [← hq6.out]; omega, hlt⟩
  ·exact .inr ⟨by have := hlot.own j hj; omega, hlt⟩
  ·exact .inr ⟨by have := (hlot.rows x hx j hj).1; omega, hlt⟩
 have hJ3 : J ⟨true, W3.heap.size, [], js ++ Mj, 0, none⟩ W3 := hT _ _ _ _ h0'.out ⟨TurnR.ofKp0 k03, fun h => (by cases h), fun _ => ⟨rfl, k03.size, by simp⟩, fun j hj => by
  rcases List.mem_append.1 hj with e | e
  ·exact .inl e
  ·exact hMn j e, rfl, .inl rfl⟩
 have hI0 : InG J RL RJ (fJ S lo ro) (MJ lo ro q2 q4 q5 q6 ly W1.heap.size sra src SL) Mj W3 ⟨false, 0, [], jsl, 0, none⟩ W3 := ⟨js ++ Mj, [], 0, hJ3, fun j hj => List.mem_append.2 (.inl (hjl j hj)), fun j hj => List.mem_append.2 (.inr hj), by simp, hM3, by rw [← hRJ.out]; rfl, Nat.zero_le _, Nat.le_refl _, fun h => (by cases h), fun j hj => by have := HA.out.2.2.2.1 j (hjl j hj); have := k03.size; omega, fun x hx => (by cases hx), fun j hj => by
  rcases List.mem_append.1 hj with e | e
  ·have := HA.out.2.2.2.1 j e; have := k03.size; omega
  ·exact hMb j e, by simp⟩
 have hsq := hid ((HA.out.2.2.1 (n - 1) (by omega)).move (KeepB.ofKp k03 (by simp)))
 have HI0 := hid hI0
 have HMS := hid hMst
 have HMB := hid hMb
 have HSL := hid hSL
 have hq6' := hq6.out
 clear cO hlot hSL k2 k3z b3z b3 k13 k03 hM3 hMn hJ3 hI0 hMst hMb k3 e1 e2 e3 e4
 go_wp2_with fail
 go_step3
 go_wp2_with fail
 refine (wpIn_wide (n := n)).1 ?_
 refine wpRangeX rfl (by omega) (gf := gl) (lb := lbl) rfl trivial heL
  hsq.out (fun _ => rfl) KeepR.trans (fun s W o => KeepR.alloc s W o) (KeepR.refl _ _)
  (InG J RL RJ (fJ S lo ro) (MJ lo ro q2 q4 q5 q6 ly W1.heap.size sra src SL) Mj W3) (fun c s W' => c = .exit 0 ∧ InX Jx W3 s W') (InG.own hT HMS.out) (fun c s X Y row h hg hr => ⟨h.1, InX.own hX s X Y row h.2 hg hr⟩) HI0.out
  (fun s s' A B h ht k o hk ho => h.keeps ht k o hk ho) (fun c s A B h ht k o hk ho => h.2.keeps ht k o hk ho) (fun s s' A B hz h ht => h.step hT HMS.out HMB.out hz ht) (fun c s A B h ht => ⟨h.1, h.2.step hX ht⟩)
  (fun s W o' h => h.recs o') (fun s x W o' h => h.recs' o') (fun c s x W o' h => h.2.recs' o')
  (fun x => { tmps := #[.func (.yield ly) #[] #[], .pointer (some ⟨q1, 0, none⟩), .pointer (some ⟨q2, 0, none⟩), .pointer (some ⟨q3, 0, none⟩), .pointer (some ⟨q4, 0, none⟩), .pointer (some ⟨q5, 0, none⟩), .pointer (some ⟨q6, 0, none⟩), .slice x.a x.l.length x.c, undef, undef, .func (.func gr) #[] lbr, .int .i64 ro, .slice sra SL.length src, .func (.func gl) #[] lbl, .slice x.a x.l.length x.c, undef, undef, undef, undef, undef, undef, undef, undef, undef, undef, undef, undef, undef, undef, undef, undef, undef, undef, undef, undef, undef], defers := [] }) ?assign ?body ?done ?stop
 case assign =>
  intro l x W C hC
  gi_wp2_with fail
  exact hC
 case body =>
  rintro l0 s ⟨xa, xc, xl⟩ A ⟨jsA, qsA, i, h⟩ hp
  obtain ⟨hRi, hxl⟩ := h.pend _ hp
  dsimp only at hRi ⊢
  have hxn : xl.length ≤ 1800000000000 := hRLl _ (List.mem_of_getElem? hRi)
  have cC := hid (cCloneR xa xc xl A hxl.see hxl.nil (by omega))
  have h' := hid h
  have hRi' := hid hRi
  clear h hRi hxl HI0
  gi_wp2_with fail
  refine ⟨trivial, fun h => (by cases h), (CallsIn.inRound l0 (callsIn_wide.2 cC.out)).mono ?_⟩
  rintro e A1 ⟨ya, yc, rfl, hyrow, kC, hyb⟩
  have KC := hid kC
  have HY1 := hid (And.intro hyrow hyb)
  clear cC kC hyrow hyb
  gi_wp2_with fail
  have hmK : Hid (∀ A', Kp [] A A' → MJ lo ro q2 q4 q5 q6 ly W1.heap.size sra src SL A') := fun A' k => h'.out.m.ck ((CK.ofKp k).mono (by simp))
  have hyl := hid (rowLies HY1.out.1)
  have cA : Hid (∀ A', Kp [] A1 A' → Calls Tryz.prog 99 #[.slice ya xl.length yc, .int .i64 lo] A' fun e w' => e = .returned (.agg #[.int .i64 (vAt xl lo).k, .bool (vAt xl lo).b, .int .i64 (vAt xl lo).n, .string (vAt xl lo).t]) ∧ Kp [] A' w') := fun A' k => cAtE ya yc xl lo A' (hyl.out.see.kept k) (by omega)
  have hSn : SL.length ≤ 4000000000000 := by have := congrArg List.length HSL.out; simp at this; omega
  have cL : Hid (∀ A', Kp [] A A' → Calls Tryz.prog 98 #[.slice sra SL.length src, .int .i64 ro, .agg #[.int .i64 (vAt xl lo).k, .bool (vAt xl lo).b, .int .i64 (vAt xl lo).n, .string (vAt xl lo).t]] A' (AlkP sra SL ro (vAt xl lo) A')) := fun A' k => by
   have hm := hmK.out A' k
   obtain ⟨a', c', e, hs, _, h1, h2, _⟩ := hm.lot.row.see
   cases e
   exact cAlike sra src SL ro (vAt xl lo) A' hs hm.lot.lies h1 h2 hSn (hmono SL _ HSL.out).1 (hmono SL _ HSL.out).2
  obtain ⟨v, hv⟩ : ∃ v, Hid (vAt xl lo = v) := ⟨vAt xl lo, rfl⟩
  simp only [hv.out] at cA cL
  obtain ⟨vk, vb, vn, vt⟩ := v
  dsimp only at cA cL
  refine region_round (fun B => B.cell? ⟨q6, 0, none⟩ = some (.slice sra SL.length src) ∧ B.cell? ⟨q2, 0, none⟩ = some (.int .i64 ro) ∧ B.cell? ⟨q4, 0, none⟩ = some (.int .i64 lo)) (by kernel_rfl) (by kernel_rfl) (by rintro ⟨_, _, hlo⟩; exact hlo) ?_ (fun hHeld => ?_)
  ·have := hmK.out A1.drew KC.out.drew
   exact ⟨this.c6, this.c2, this.c4⟩
  have KD1 : Hid (Kp [] A1 A1.drew) := hid (Kp.refl _ _).drew
  have KD : Hid (Kp [] A A1.drew) := hid KC.out.drew
  generalize A1.drew = wd at *
  refine tkH (v := ?_) 0 rfl (by kernel_rfl) (fun _ _ _ h => h) (Or.inl ⟨by rfl, ?_⟩) (by assumption) ?_
  rotate_left
  ·intro w hSw; (try dsimp only at hSw); go_simp <;> with_reducible rfl
  try simp only [Act.put, lz]
  refine tkH (v := ?_) 1 rfl (by kernel_rfl) (fun _ _ _ h => h) (Or.inl ⟨by rfl, ?_⟩) (by assumption) ?_
  rotate_left
  ·intro w hSw; (try dsimp only at hSw); go_simp <;> with_reducible rfl
  try simp only [Act.put, lz]
  refine tkH (v := ?_) 2 rfl (by kernel_rfl) (fun _ _ _ h => h) (Or.inl ⟨by rfl, ?_⟩) (by assumption) ?_
  rotate_left
  ·intro w hSw; (try dsimp only at hSw); go_simp <;> with_reducible rfl
  try simp only [Act.put, lz]
  refine tkH (v := ?_) 3 rfl (by kernel_rfl) (fun _ _ _ h => h) (Or.inl ⟨by rfl, ?_⟩) (by assumption) ?_
  rotate_left
  ·intro w hSw; (try dsimp only at hSw); go_simp <;> with_reducible rfl
  try simp only [Act.put, lz]
  refine tkH (v := ?_) 7 rfl (by kernel_rfl) (fun _ _ _ h => h) (Or.inl ⟨by rfl, ?_⟩) (by assumption) ?_
  rotate_left
  ·intro w hSw; (try dsimp only at hSw); go_simp <;> with_reducible rfl
  try simp only [Act.put, lz]
  refine rdH 4 (by kernel_rfl) rfl fun K hK => ?_
  go_simp
  refine (cA.out wd KD1.out).mono ?_
  rintro e we ⟨rfl, ke⟩
  (try go_wp2_with fail)
  refine hK.out _ _ ?_ (fun hHeld => ?_)
  ·have := hmK.out we (KD.out.trans ke (by simp)); exact ⟨this.c6, this.c2, this.c4⟩
  clear hK K
  try simp only [Act.put, lz]
  have KE := hid (KD.out.trans ke (by simp))
  have KD1E := hid (KD1.out.trans ke (by simp))
  refine rdH 5 (by kernel_rfl) rfl fun K hK => ?_
  go_simp
  refine (cL.out we KE.out).mono ?_
  rintro e A2 ⟨i0, m, aL, cL2, rfl, him, hz0, hall, hsee, hbk, kl⟩
  (try go_wp2_with fail)
  refine hK.out _ _ ?_ (fun hHeld => ?_)
  ·have := hmK.out A2 (KE.out.trans kl (by simp)); exact ⟨this.c6, this.c2, this.c4⟩
  clear hK K
  try simp only [Act.put, lz]
  have KD2 := hid (KD1E.out.trans kl (by simp))
  refine tkH (v := ?_) 6 rfl (by kernel_rfl) (fun _ _ _ h => h) (Or.inl ⟨by rfl, ?_⟩) (by assumption) ?_
  rotate_left
  ·intro w hSw; (try dsimp only at hSw); go_simp <;> with_reducible rfl
  try simp only [Act.put, lz]
  have K2 := hid (KE.out.trans kl (by simp))
  clear hHeld kl
  refine wpAnyH_done (by kernel_rfl) ?_ _
  have hfx := hid (fJ_sub (lo := lo) (x := xl) HSL.out him (by rw [hv.out]; exact hz0) (by rw [hv.out]; exact hall))
  obtain ⟨sub, hsub⟩ : ∃ u, Hid ((SL.drop i0).take m = u) := ⟨_, rfl⟩
  rw [hsub.out] at hsee hfx
  have hsl : sub.length = m := by rw [← hsub.out, List.length_take, List.length_drop]; omega
  have hsm : Hid (∀ o ∈ sub, o ∈ SL) := fun o ho => by rw [← hsub.out] at ho; exact List.mem_of_mem_drop (List.mem_of_mem_take ho)
  have hdr : RJ.drop i = fJ S lo ro xl ++ (RL.drop (s.i + 1)).flatMap (fJ S lo ro) := by
   have hi := (List.getElem?_eq_some_iff.1 hRi'.out)
   rw [h'.out.rel, List.drop_eq_getElem_cons hi.1, hi.2, List.flatMap_cons]
  rw [hfx.out] at hdr
  have hRk : Hid (∀ k (hk : k < sub.length), RJ[i + k]? = some (xl ++ sub[k].l)) := fun k hk => by
   have := congrArg (fun z => z[k]?) hdr
   simp only [List.getElem?_drop] at this
   rw [this, List.getElem?_append_left (by simpa using hk)]
   simp [hk]
  have hRe : Hid (RJ.drop (i + m) = (RL.drop (s.i + 1)).flatMap (fJ S lo ro)) := by
   show _ = _
   rw [← List.drop_drop, hdr, List.drop_append]
   simp [hsl]
  have hiR : Hid (i + m ≤ RJ.length) := by
   show _ ≤ _
   have := congrArg List.length hdr
   rw [List.length_drop, List.length_append, List.length_map, hsl] at this
   have := h'.out.il
   omega
  obtain ⟨jsB, hjsB⟩ : ∃ u, Hid (jsA ++ blk ya = u) := ⟨_, rfl⟩
  have hyA2 : ∀ k ∈ blk ya, k < A2.heap.size := fun k hk => Nat.lt_of_lt_of_le (HY1.out.1.lt k (by rw [ownV]; exact hk)) (KD2.out.size)
  have hJ2 : J ⟨true, W3.heap.size, qsA, jsB, i, none⟩ A2 := by
   rw [← hjsB.out]
   exact hT _ _ _ _ h'.out.j ⟨TurnR.ofKp0 K2.out, fun _ => ⟨rfl, rfl, fun q hq => .inl hq⟩, fun e => (by cases e), fun j hj => by
    rcases List.mem_append.1 hj with e | e
    ·exact .inl e
    ·exact .inr ⟨HY1.out.2 j e, hyA2 j e⟩, rfl, .inl rfl⟩
  have hjB : Hid (∀ j ∈ jsB, j < A2.heap.size) := fun j hj => by
   rw [← hjsB.out] at hj
   rcases List.mem_append.1 hj with e | e
   ·exact Nat.lt_of_lt_of_le (h'.out.jl j e) K2.out.size
   ·exact hyA2 j e
  have hMB : Hid (∀ j ∈ Mj, j ∈ jsB) := fun j hj => by rw [← hjsB.out]; exact List.mem_append.2 (.inl (h'.out.mj j hj))
  have hJA : Hid (∀ j ∈ jsA, j ∈ jsB) := fun j hj => by rw [← hjsB.out]; exact List.mem_append.2 (.inl hj)
  have hYB : Hid (∀ j ∈ blk ya, j ∈ jsB) := fun j hj => by rw [← hjsB.out]; exact List.mem_append.2 (.inr hj)
  have hSB : Hid (∀ j ∈ blk aL, j ∈ jsB) := fun j hj => hMB.out j (by rw [hMj.out]; have := hbk j hj; simp [mjs, this])
  have hKA : Hid (KeepR s A A2 ∧ KeepsFrom W3.heap.size A A2) := ⟨⟨KeepB.ofKp K2.out (by simp), fun _ k o _ ho _ => (K2.out.block k (Array.getElem?_eq_some_iff.1 ho).1 (by simp)).trans ho⟩, ⟨K2.out.size, fun k o _ ho _ => (K2.out.block k (Array.getElem?_eq_some_iff.1 ho).1 (by simp)).trans ho⟩⟩
  have hmA2 := hid (hmK.out A2 K2.out)
  have hse2 := hid hsee
  have hyl2 : Hid ((⟨ya, yc, xl⟩ : Vs).lies A2) := hyl.out.ck (CK.ofKp KD2.out) (by simp)
  have hm4 : m ≤ 4000000000000 := by omega
  clear hsee hdr hfx hbk hz0 hall him cA cL
  gi_wp2_with fail
  gi_loopw [24] (fun vi wr => ∃ k : Nat, vi = .int .i64 (k : Int) ∧ k ≤ m ∧ Hid (J ⟨true, W3.heap.size, qsA, jsB, i + k, none⟩ wr) ∧ Hid (KeepB jsB A2 wr) ∧ Hid (KeepR s A wr ∧ KeepsFrom W3.heap.size A wr)) (fun vi _ => m - (intOf vi).toNat)
  case atStart => exact ⟨0, rfl, Nat.zero_le _, hid hJ2, hid (KeepB.refl _ _), hKA⟩
  case round =>
   obtain ⟨k, rfl, hkm, hJk, hkB, hkA⟩ := hrel
   clear hJ2 hKA
   have hmr := hid (hmA2.out.ck (by rw [← hMj.out]; exact (ckOfKeepB hkB.out).mono hMB.out))
   have hslm := hid hsl
   by_cases hlt : k < m
   ·have hks : k < sub.length := by rw [hsl]; exact hlt
    have hxo : sub[k]? = some sub[k] := by simp [hks]
    obtain ⟨g, o, ea, c0⟩ := vsAt hse2.out hxo
    have cg : wr.cell? ⟨g, o + k, none⟩ = some (.slice sub[k].a sub[k].l.length sub[k].c) := hkB.out.cell (hSB.out g (by rw [ea]; simp [blk])) c0
    have hol := hmr.out.lot.lies sub[k] (hsm.out _ (List.getElem_mem hks))
    have hoS : sub[k].l.length ≤ 1800000000000 := hSll _ (by rw [← HSL.out]; exact List.mem_map.2 ⟨sub[k], hsm.out _ (List.getElem_mem hks), rfl⟩)
    have hRk2 := hid (hRk.out k hks)
    have hyr : (⟨ya, yc, xl⟩ : Vs).lies wr := hyl2.out.ck (ckOfKeepB hkB.out) hYB.out
    obtain ⟨x2, hx2⟩ : ∃ x, Hid (sub[k] = x) := ⟨sub[k], rfl⟩
    rw [hx2.out] at cg hol hoS hRk2
    obtain ⟨oa, oc, ol⟩ := x2
    dsimp only at cg hoS hRk2
    have HOL := hid (And.intro hol (And.intro hoS hyr))
    have i1 : (0 : Int) ≤ (k : Int) := by omega
    have i2 : (k : Int) < (m : Int) := by omega
    have i3 : (k : Int) + 1 ≤ 9223372036854775807 := by omega
    subst ea
    clear c0 hxo hol hoS hyr
    gi_wp2_with fail
    refine wpIn_region_any (by kernel_rfl) ?_
    change wpAnyIn _ _ _ _ _ _ _ _ _ wr.drew
    have kD : Kp [] wr wr.drew := (Kp.refl _ _).drew
    generalize wr.drew = wd at *
    obtain ⟨hol, hoS, hyr⟩ := HOL.out
    have c5 := kpAt kD hmr.out.c5
    obtain ⟨Wb, hWb⟩ : ∃ Y, wd.alloc (.cells #[.slice ya xl.length yc, .slice oa ol.length oc] 61) = Y := ⟨_, rfl⟩
    have kb : Kp [] wr Wb := by rw [← hWb]; exact kD.alloc _
    obtain ⟨qb, hqb⟩ : ∃ q, wd.heap.size = q := ⟨_, rfl⟩
    have bb : Bn Wb qb [.slice ya xl.length yc, .slice oa ol.length oc] := by rw [← hWb, ← hqb]; exact Bn.new wd _ _
    have sb : VsE.See Wb (some ⟨qb, 0, none⟩) [⟨ya, yc, xl⟩, ⟨oa, oc, ol⟩] := .inr ⟨qb, 0, rfl, fun j u hu => by rw [Nat.zero_add]; exact bb.get j u (by simpa [El.cs, VsE] using hu)⟩
    have cCt := hid (cConcat (some ⟨qb, 0, none⟩) 2 [⟨ya, yc, xl⟩, ⟨oa, oc, ol⟩] Wb sb (fun x hx => by
     have ckb := CK.ofKp kb
     rcases List.mem_cons.1 hx with rfl | hx
     ·exact hyr.ck ckb (by simp)
     ·rw [List.mem_singleton.1 hx]; exact hol.ck ckb (by simp)) (by simp) (by simp [sumL]; omega))
    have ecat : catL [(⟨ya, yc, xl⟩ : Vs), ⟨oa, oc, ol⟩] = xl ++ ol := by simp [catL]
    rw [ecat] at cCt
    have c5b := kpAt kb hmr.out.c5
    have KB := hid kb
    clear hol hoS hyr kb bb sb ecat kD
    refine wpAnyIn_ready (rs := [0, 1, 2]) (by kernel_rfl) (by simp) ?_
    refine AllReadyIn.cons rfl (fun K hK => ?_) (AllReadyIn.cons rfl (fun K hK => ?_) (AllReadyIn.cons rfl (fun K hK => ?_) AllReadyIn.nil))
    ·go_simp
     refine hK _ _ ?_
     clear hK K
     try simp only [Act.put, lz]
     refine wpAnyIn_ready (rs := [1, 2]) (by kernel_rfl) (by simp) ?_
     refine AllReadyIn.cons rfl (fun K hK => ?_) (AllReadyIn.cons rfl (fun K hK => ?_) AllReadyIn.nil)
     ·go_simp
      refine hK _ _ ?_
      clear hK K
      try simp only [Act.put, lz]
      refine rdI 2 (by kernel_rfl) rfl fun K hK => ?_
      go_simp
      refine hK _ _ ?_
      clear hK K
      try simp only [Act.put, lz]
      refine rdI 3 (by kernel_rfl) rfl fun K hK => ?_
      go_simp
      refine hK _ _ ?_
      clear hK K
      try simp only [Act.put, lz]
      refine rdI 4 (by kernel_rfl) rfl fun K hK => ?_
      go_simp
      refine ⟨trivial, fun h => (by cases h), (CallsIn.inRound l0 (callsIn_wide.2 cCt.out)).mono ?_⟩
      rintro e Wz ⟨za, zc, rfl, hzrow, kz, hzb⟩
      have c5z := kpAt kz c5b
      refine hK _ _ ?_
      clear hK K
      try simp only [Act.put, lz]
      have kWz := hid (KB.out.trans kz (by simp))
      have hzl := rowLies hzrow
      have hzb2 : ∀ j ∈ blk za, wr.heap.size ≤ j := fun j hj => by have := hzb j hj; have := KB.out.size; omega
      have hJz : J ⟨true, W3.heap.size, qsA, jsB, i + k, some ⟨za, zc, xl ++ ol⟩⟩ Wz := hT _ _ _ _ hJk.out ⟨TurnR.ofKp0 kWz.out, fun _ => ⟨rfl, rfl, fun q hq => .inl hq⟩, fun e => (by cases e), fun j hj => .inl hj, rfl, .inr ⟨_, rfl, hRk2.out, hzl, fun _ => ⟨hzrow, fun j hj => ⟨hzb2 j hj, fun hm => by have := hjB.out j hm; have := hkB.out.1; have := hzb2 j hj; omega, fun hm => by have := h'.out.ql j hm; have := hkA.out.2.size; have := hzb2 j hj; omega⟩⟩⟩⟩
      obtain ⟨fn, tmps, assign, body, hyl5, hR⟩ := hY _ ⟨za, zc, xl ++ ol⟩ Wz hJz rfl
      have hR' : RoundIn (Fence.wide.inRound l0) (n - 1 - 1 - 1) Tryz.prog ly fn tmps assign body Wz _ := RoundIn.anyDepthJ (F := Fence.wide.inRound l0) rfl hR
      have hgo : Hid (∀ A3, KeepR ⟨true, W3.heap.size, qsA, jsB, i + k, some ⟨za, zc, xl ++ ol⟩⟩ Wz A3 → KeepB jsB A2 A3 ∧ KeepR s A A3 ∧ KeepsFrom W3.heap.size A A3) := fun A3 hk3 => by
       have t1 : KeepR s wr Wz := ⟨KeepB.ofKp kWz.out (by simp), fun _ j o _ ho _ => (kWz.out.block j (Array.getElem?_eq_some_iff.1 ho).1 (by simp)).trans ho⟩
       have t2 : KeepR s Wz A3 := ⟨⟨hk3.js.1, fun j hj o ho => hk3.js.2 j (hJA.out j (h'.out.sub j hj)) o ho⟩, fun hm j o hj ho hc => hk3.recs rfl j o (by have := (h'.out.mde hm).1; show W3.heap.size ≤ j; omega) ho hc⟩
       exact ⟨hkB.out.trans ((KeepB.ofKp kWz.out (by simp)).trans hk3.js), (hkA.out.1.trans t1).trans t2, ⟨Nat.le_trans hkA.out.2.size (Nat.le_trans kWz.out.size hk3.js.1), fun j o hj ho hc => by
        have g1 := hkA.out.2.same j o hj ho hc
        have g2 := (kWz.out.block j (Array.getElem?_eq_some_iff.1 g1).1 (by simp)).trans g1
        exact hk3.recs rfl j o hj g2 hc⟩⟩
      have hyl6 := hyl5
      simp only [encR, List.length_append] at hyl6
      clear hR hJz hzl hzrow kz hzb hzb2 hyl5 cCt
      refine rdI 5 (by kernel_rfl) rfl fun K hK => ?_
      go_simp
      refine ⟨fun h => (by cases h), hR'.mono ?_⟩
      rintro e A3 (⟨rfl, hJ3, hk3⟩ | ⟨rfl, hJ3, hk3⟩)
      ·have HG := hid (hgo.out A3 hk3)
       have hJ4 : Hid (J ⟨true, W3.heap.size, qsA, jsB, i + (k + 1), none⟩ A3) := hJ3
       clear hgo hR' hyl6 hJ3 hk3
       refine hK _ _ ?_
       clear hK K
       try simp only [Act.put, lz]
       refine rdI 6 (by kernel_rfl) rfl fun K hK => ?_
       go_simp
       refine hK _ _ ?_
       clear hK K
       try simp only [Act.put, lz]
       refine wpAnyIn_done (by kernel_rfl) ?_ _
       gi_wp2_with fail
       go_roundw
       case rel => exact ⟨k + 1, by simp, by omega, hJ4, hid HG.out.1, hid HG.out.2⟩
       case measure => simp [intOf]; omega
      ·have HG := hid (hgo.out A3 hk3)
       have hJ4 := hid hJ3
       clear hgo hR' hyl6 hJ3 hk3
       refine hK _ _ ?_
       clear hK K
       try simp only [Act.put, lz]
       refine rdI 6 (by kernel_rfl) rfl fun K hK => ?_
       go_simp
       refine hK _ _ ?_
       clear hK K
       try simp only [Act.put, lz]
       refine wpAnyIn_done (by kernel_rfl) ?_ _
       gi_wp2_with fail
       refine ⟨HG.out.2.2, HG.out.2.1, rfl, Sr.nx ⟨true, W3.heap.size, qsA, jsB, i + k, some ⟨za, zc, xl ++ ol⟩⟩ ⟨za, zc, xl ++ ol⟩, rfl, rfl, h'.out.qsub, h'.out.mde, h'.out.lj, hJ4.out⟩
     ·go_simp
      refine hK _ _ ?_
      clear hK K
      try simp only [Act.put, lz]
      refine rdI 1 (by kernel_rfl) rfl fun K hK => ?_
      go_simp
      refine hK _ _ ?_
      clear hK K
      try simp only [Act.put, lz]
      refine rdI 3 (by kernel_rfl) rfl fun K hK => ?_
      go_simp
      refine hK _ _ ?_
      clear hK K
      try simp only [Act.put, lz]
      refine rdI 4 (by kernel_rfl) rfl fun K hK => ?_
      go_simp
      refine ⟨trivial, fun h => (by cases h), (CallsIn.inRound l0 (callsIn_wide.2 cCt.out)).mono ?_⟩
      rintro e Wz ⟨za, zc, rfl, hzrow, kz, hzb⟩
      have c5z := kpAt kz c5b
      refine hK _ _ ?_
      clear hK K
      try simp only [Act.put, lz]
      have kWz := hid (KB.out.trans kz (by simp))
      have hzl := rowLies hzrow
      have hzb2 : ∀ j ∈ blk za, wr.heap.size ≤ j := fun j hj => by have := hzb j hj; have := KB.out.size; omega
      have hJz : J ⟨true, W3.heap.size, qsA, jsB, i + k, some ⟨za, zc, xl ++ ol⟩⟩ Wz := hT _ _ _ _ hJk.out ⟨TurnR.ofKp0 kWz.out, fun _ => ⟨rfl, rfl, fun q hq => .inl hq⟩, fun e => (by cases e), fun j hj => .inl hj, rfl, .inr ⟨_, rfl, hRk2.out, hzl, fun _ => ⟨hzrow, fun j hj => ⟨hzb2 j hj, fun hm => by have := hjB.out j hm; have := hkB.out.1; have := hzb2 j hj; omega, fun hm => by have := h'.out.ql j hm; have := hkA.out.2.size; have := hzb2 j hj; omega⟩⟩⟩⟩
      obtain ⟨fn, tmps, assign, body, hyl5, hR⟩ := hY _ ⟨za, zc, xl ++ ol⟩ Wz hJz rfl
      have hR' : RoundIn (Fence.wide.inRound l0) (n - 1 - 1 - 1) Tryz.prog ly fn tmps assign body Wz _ := RoundIn.anyDepthJ (F := Fence.wide.inRound l0) rfl hR
      have hgo : Hid (∀ A3, KeepR ⟨true, W3.heap.size, qsA, jsB, i + k, some ⟨za, zc, xl ++ ol⟩⟩ Wz A3 → KeepB jsB A2 A3 ∧ KeepR s A A3 ∧ KeepsFrom W3.heap.size A A3) := fun A3 hk3 => by
       have t1 : KeepR s wr Wz := ⟨KeepB.ofKp kWz.out (by simp), fun _ j o _ ho _ => (kWz.out.block j (Array.getElem?_eq_some_iff.1 ho).1 (by simp)).trans ho⟩
       have t2 : KeepR s Wz A3 := ⟨⟨hk3.js.1, fun j hj o ho => hk3.js.2 j (hJA.out j (h'.out.sub j hj)) o ho⟩, fun hm j o hj ho hc => hk3.recs rfl j o (by have := (h'.out.mde hm).1; show W3.heap.size ≤ j; omega) ho hc⟩
       exact ⟨hkB.out.trans ((KeepB.ofKp kWz.out (by simp)).trans hk3.js), (hkA.out.1.trans t1).trans t2, ⟨Nat.le_trans hkA.out.2.size (Nat.le_trans kWz.out.size hk3.js.1), fun j o hj ho hc => by
        have g1 := hkA.out.2.same j o hj ho hc
        have g2 := (kWz.out.block j (Array.getElem?_eq_some_iff.1 g1).1 (by simp)).trans g1
        exact hk3.recs rfl j o hj g2 hc⟩⟩
      have hyl6 := hyl5
      simp only [encR, List.length_append] at hyl6
      clear hR hJz hzl hzrow kz hzb hzb2 hyl5 cCt
      refine rdI 5 (by kernel_rfl) rfl fun K hK => ?_
      go_simp
      refine ⟨fun h => (by cases h), hR'.mono ?_⟩
      rintro e A3 (⟨rfl, hJ3, hk3⟩ | ⟨rfl, hJ3, hk3⟩)
      ·have HG := hid (hgo.out A3 hk3)
       have hJ4 : Hid (J ⟨true, W3.heap.size, qsA, jsB, i + (k + 1), none⟩ A3) := hJ3
       clear hgo hR' hyl6 hJ3 hk3
       refine hK _ _ ?_
       clear hK K
       try simp only [Act.put, lz]
       refine rdI 6 (by kernel_rfl) rfl fun K hK => ?_
       go_simp
       refine hK _ _ ?_
       clear hK K
       try simp only [Act.put, lz]
       refine wpAnyIn_done (by kernel_rfl) ?_ _
       gi_wp2_with fail
       go_roundw
       case rel => exact ⟨k + 1, by simp, by omega, hJ4, hid HG.out.1, hid HG.out.2⟩
       case measure => simp [intOf]; omega
      ·have HG := hid (hgo.out A3 hk3)
       have hJ4 := hid hJ3
       clear hgo hR' hyl6 hJ3 hk3
       refine hK _ _ ?_
       clear hK K
       try simp only [Act.put, lz]
       refine rdI 6 (by kernel_rfl) rfl fun K hK => ?_
       go_simp
       refine hK _ _ ?_
       clear hK K
       try simp only [Act.put, lz]
       refine wpAnyIn_done (by kernel_rfl) ?_ _
       gi_wp2_with fail
       refine ⟨HG.out.2.2, HG.out.2.1, rfl, Sr.nx ⟨true, W3.heap.size, qsA, jsB, i + k, some ⟨za, zc, xl ++ ol⟩⟩ ⟨za, zc, xl ++ ol⟩, rfl, rfl, h'.out.qsub, h'.out.mde, h'.out.lj, hJ4.out⟩
    ·go_simp
     refine hK _ _ ?_
     clear hK K
     try simp only [Act.put, lz]
     refine wpAnyIn_ready (rs := [0, 2]) (by kernel_rfl) (by simp) ?_
     refine AllReadyIn.cons rfl (fun K hK => ?_) (AllReadyIn.cons rfl (fun K hK => ?_) AllReadyIn.nil)
     ·go_simp
      refine hK _ _ ?_
      clear hK K
      try simp only [Act.put, lz]
      refine rdI 2 (by kernel_rfl) rfl fun K hK => ?_
      go_simp
      refine hK _ _ ?_
      clear hK K
      try simp only [Act.put, lz]
      refine rdI 3 (by kernel_rfl) rfl fun K hK => ?_
      go_simp
      refine hK _ _ ?_
      clear hK K
      try simp only [Act.put, lz]
      refine rdI 4 (by kernel_rfl) rfl fun K hK => ?_
      go_simp
      refine ⟨trivial, fun h => (by cases h), (CallsIn.inRound l0 (callsIn_wide.2 cCt.out)).mono ?_⟩
      rintro e Wz ⟨za, zc, rfl, hzrow, kz, hzb⟩
      have c5z := kpAt kz c5b
      refine hK _ _ ?_
      clear hK K
      try simp only [Act.put, lz]
      have kWz := hid (KB.out.trans kz (by simp))
      have hzl := rowLies hzrow
      have hzb2 : ∀ j ∈ blk za, wr.heap.size ≤ j := fun j hj => by have := hzb j hj; have := KB.out.size; omega
      have hJz : J ⟨true, W3.heap.size, qsA, jsB, i + k, some ⟨za, zc, xl ++ ol⟩⟩ Wz := hT _ _ _ _ hJk.out ⟨TurnR.ofKp0 kWz.out, fun _ => ⟨rfl, rfl, fun q hq => .inl hq⟩, fun e => (by cases e), fun j hj => .inl hj, rfl, .inr ⟨_, rfl, hRk2.out, hzl, fun _ => ⟨hzrow, fun j hj => ⟨hzb2 j hj, fun hm => by have := hjB.out j hm; have := hkB.out.1; have := hzb2 j hj; omega, fun hm => by have := h'.out.ql j hm; have := hkA.out.2.size; have := hzb2 j hj; omega⟩⟩⟩⟩
      obtain ⟨fn, tmps, assign, body, hyl5, hR⟩ := hY _ ⟨za, zc, xl ++ ol⟩ Wz hJz rfl
      have hR' : RoundIn (Fence.wide.inRound l0) (n - 1 - 1 - 1) Tryz.prog ly fn tmps assign body Wz _ := RoundIn.anyDepthJ (F := Fence.wide.inRound l0) rfl hR
      have hgo : Hid (∀ A3, KeepR ⟨true, W3.heap.size, qsA, jsB, i + k, some ⟨za, zc, xl ++ ol⟩⟩ Wz A3 → KeepB jsB A2 A3 ∧ KeepR s A A3 ∧ KeepsFrom W3.heap.size A A3) := fun A3 hk3 => by
       have t1 : KeepR s wr Wz := ⟨KeepB.ofKp kWz.out (by simp), fun _ j o _ ho _ => (kWz.out.block j (Array.getElem?_eq_some_iff.1 ho).1 (by simp)).trans ho⟩
       have t2 : KeepR s Wz A3 := ⟨⟨hk3.js.1, fun j hj o ho => hk3.js.2 j (hJA.out j (h'.out.sub j hj)) o ho⟩, fun hm j o hj ho hc => hk3.recs rfl j o (by have := (h'.out.mde hm).1; show W3.heap.size ≤ j; omega) ho hc⟩
       exact ⟨hkB.out.trans ((KeepB.ofKp kWz.out (by simp)).trans hk3.js), (hkA.out.1.trans t1).trans t2, ⟨Nat.le_trans hkA.out.2.size (Nat.le_trans kWz.out.size hk3.js.1), fun j o hj ho hc => by
        have g1 := hkA.out.2.same j o hj ho hc
        have g2 := (kWz.out.block j (Array.getElem?_eq_some_iff.1 g1).1 (by simp)).trans g1
        exact hk3.recs rfl j o hj g2 hc⟩⟩
      have hyl6 := hyl5
      simp only [encR, List.length_append] at hyl6
      clear hR hJz hzl hzrow kz hzb hzb2 hyl5 cCt
      refine rdI 5 (by kernel_rfl) rfl fun K hK => ?_
      go_simp
      refine ⟨fun h => (by cases h), hR'.mono ?_⟩
      rintro e A3 (⟨rfl, hJ3, hk3⟩ | ⟨rfl, hJ3, hk3⟩)
      ·have HG := hid (hgo.out A3 hk3)
       have hJ4 : Hid (J ⟨true, W3.heap.size, qsA, jsB, i + (k + 1), none⟩ A3) := hJ3
       clear hgo hR' hyl6 hJ3 hk3
       refine hK _ _ ?_
       clear hK K
       try simp only [Act.put, lz]
       refine rdI 6 (by kernel_rfl) rfl fun K hK => ?_
       go_simp
       refine hK _ _ ?_
       clear hK K
       try simp only [Act.put, lz]
       refine wpAnyIn_done (by kernel_rfl) ?_ _
       gi_wp2_with fail
       go_roundw
       case rel => exact ⟨k + 1, by simp, by omega, hJ4, hid HG.out.1, hid HG.out.2⟩
       case measure => simp [intOf]; omega
      ·have HG := hid (hgo.out A3 hk3)
       have hJ4 := hid hJ3
       clear hgo hR' hyl6 hJ3 hk3
       refine hK _ _ ?_
       clear hK K
       try simp only [Act.put, lz]
       refine rdI 6 (by kernel_rfl) rfl fun K hK => ?_
       go_simp
       refine hK _ _ ?_
       clear hK K
       try simp only [Act.put, lz]
       refine wpAnyIn_done (by kernel_rfl) ?_ _
       gi_wp2_with fail
       refine ⟨HG.out.2.2, HG.out.2.1, rfl, Sr.nx ⟨true, W3.heap.size, qsA, jsB, i + k, some ⟨za, zc, xl ++ ol⟩⟩ ⟨za, zc, xl ++ ol⟩, rfl, rfl, h'.out.qsub, h'.out.mde, h'.out.lj, hJ4.out⟩
     ·go_simp
      refine hK _ _ ?_
      clear hK K
      try simp only [Act.put, lz]
      refine wpAnyIn_ready (rs := [0, 3]) (by kernel_rfl) (by simp) ?_
      refine AllReadyIn.cons rfl (fun K hK => ?_) (AllReadyIn.cons rfl (fun K hK => ?_) AllReadyIn.nil)
      ·go_simp
       refine hK _ _ ?_
       clear hK K
       try simp only [Act.put, lz]
       refine rdI 3 (by kernel_rfl) rfl fun K hK => ?_
       go_simp
       refine hK _ _ ?_
       clear hK K
       try simp only [Act.put, lz]
       refine rdI 4 (by kernel_rfl) rfl fun K hK => ?_
       go_simp
       refine ⟨trivial, fun h => (by cases h), (CallsIn.inRound l0 (callsIn_wide.2 cCt.out)).mono ?_⟩
       rintro e Wz ⟨za, zc, rfl, hzrow, kz, hzb⟩
       have c5z := kpAt kz c5b
       refine hK _ _ ?_
       clear hK K
       try simp only [Act.put, lz]
       have kWz := hid (KB.out.trans kz (by simp))
       have hzl := rowLies hzrow
       have hzb2 : ∀ j ∈ blk za, wr.heap.size ≤ j := fun j hj => by have := hzb j hj; have := KB.out.size; omega
       have hJz : J ⟨true, W3.heap.size, qsA, jsB, i + k, some ⟨za, zc, xl ++ ol⟩⟩ Wz := hT _ _ _ _ hJk.out ⟨TurnR.ofKp0 kWz.out, fun _ => ⟨rfl, rfl, fun q hq => .inl hq⟩, fun e => (by cases e), fun j hj => .inl hj, rfl, .inr ⟨_, rfl, hRk2.out, hzl, fun _ => ⟨hzrow, fun j hj => ⟨hzb2 j hj, fun hm => by have := hjB.out j hm; have := hkB.out.1; have := hzb2 j hj; omega, fun hm => by have := h'.out.ql j hm; have := hkA.out.2.size; have := hzb2 j hj; omega⟩⟩⟩⟩
       obtain ⟨fn, tmps, assign, body, hyl5, hR⟩ := hY _ ⟨za, zc, xl ++ ol⟩ Wz hJz rfl
       have hR' : RoundIn (Fence.wide.inRound l0) (n - 1 - 1 - 1) Tryz.prog ly fn tmps assign body Wz _ := RoundIn.anyDepthJ (F := Fence.wide.inRound l0) rfl hR
       have hgo : Hid (∀ A3, KeepR ⟨true, W3.heap.size, qsA, jsB, i + k, some ⟨za, zc, xl ++ ol⟩⟩ Wz A3 → KeepB jsB A2 A3 ∧ KeepR s A A3 ∧ KeepsFrom W3.heap.size A A3) := fun A3 hk3 => by
        have t1 : KeepR s wr Wz := ⟨KeepB.ofKp kWz.out (by simp), fun _ j o _ ho _ => (kWz.out.block j (Array.getElem?_eq_some_iff.1 ho).1 (by simp)).trans ho⟩
        have t2 : KeepR s Wz A3 := ⟨⟨hk3.js.1, fun j hj o ho => hk3.js.2 j (hJA.out j (h'.out.sub j hj)) o ho⟩, fun hm j o hj ho hc => hk3.recs rfl j o (by have := (h'.out.mde hm).1; show W3.heap.size ≤ j; omega) ho hc⟩
        exact ⟨hkB.out.trans ((KeepB.ofKp kWz.out (by simp)).trans hk3.js), (hkA.out.1.trans t1).trans t2, ⟨Nat.le_trans hkA.out.2.size (Nat.le_trans kWz.out.size hk3.js.1), fun j o hj ho hc => by
         have g1 := hkA.out.2.same j o hj ho hc
         have g2 := (kWz.out.block j (Array.getElem?_eq_some_iff.1 g1).1 (by simp)).trans g1
         exact hk3.recs rfl j o hj g2 hc⟩⟩
       have hyl6 := hyl5
       simp only [encR, List.length_append] at hyl6
       clear hR hJz hzl hzrow kz hzb hzb2 hyl5 cCt
       refine rdI 5 (by kernel_rfl) rfl fun K hK => ?_
       go_simp
       refine ⟨fun h => (by cases h), hR'.mono ?_⟩
       rintro e A3 (⟨rfl, hJ3, hk3⟩ | ⟨rfl, hJ3, hk3⟩)
       ·have HG := hid (hgo.out A3 hk3)
        have hJ4 : Hid (J ⟨true, W3.heap.size, qsA, jsB, i + (k + 1), none⟩ A3) := hJ3
        clear hgo hR' hyl6 hJ3 hk3
        refine hK _ _ ?_
        clear hK K
        try simp only [Act.put, lz]
        refine rdI 6 (by kernel_rfl) rfl fun K hK => ?_
        go_simp
        refine hK _ _ ?_
        clear hK K
        try simp only [Act.put, lz]
        refine wpAnyIn_done (by kernel_rfl) ?_ _
        gi_wp2_with fail
        go_roundw
        case rel => exact ⟨k + 1, by simp, by omega, hJ4, hid HG.out.1, hid HG.out.2⟩
        case measure => simp [intOf]; omega
       ·have HG := hid (hgo.out A3 hk3)
        have hJ4 := hid hJ3
        clear hgo hR' hyl6 hJ3 hk3
        refine hK _ _ ?_
        clear hK K
        try simp only [Act.put, lz]
        refine rdI 6 (by kernel_rfl) rfl fun K hK => ?_
        go_simp
        refine hK _ _ ?_
        clear hK K
        try simp only [Act.put, lz]
        refine wpAnyIn_done (by kernel_rfl) ?_ _
        gi_wp2_with fail
        refine ⟨HG.out.2.2, HG.out.2.1, rfl, Sr.nx ⟨true, W3.heap.size, qsA, jsB, i + k, some ⟨za, zc, xl ++ ol⟩⟩ ⟨za, zc, xl ++ ol⟩, rfl, rfl, h'.out.qsub, h'.out.mde, h'.out.lj, hJ4.out⟩
      ·go_simp
       refine hK _ _ ?_
       clear hK K
       try simp only [Act.put, lz]
       refine wpAnyIn_ready (rs := [0, 4]) (by kernel_rfl) (by simp) ?_
       refine AllReadyIn.cons rfl (fun K hK => ?_) (AllReadyIn.cons rfl (fun K hK => ?_) AllReadyIn.nil)
       ·go_simp
        refine hK _ _ ?_
        clear hK K
        try simp only [Act.put, lz]
        refine rdI 4 (by kernel_rfl) rfl fun K hK => ?_
        go_simp
        refine ⟨trivial, fun h => (by cases h), (CallsIn.inRound l0 (callsIn_wide.2 cCt.out)).mono ?_⟩
        rintro e Wz ⟨za, zc, rfl, hzrow, kz, hzb⟩
        have c5z := kpAt kz c5b
        refine hK _ _ ?_
        clear hK K
        try simp only [Act.put, lz]
        have kWz := hid (KB.out.trans kz (by simp))
        have hzl := rowLies hzrow
        have hzb2 : ∀ j ∈ blk za, wr.heap.size ≤ j := fun j hj => by have := hzb j hj; have := KB.out.size; omega
        have hJz : J ⟨true, W3.heap.size, qsA, jsB, i + k, some ⟨za, zc, xl ++ ol⟩⟩ Wz := hT _ _ _ _ hJk.out ⟨TurnR.ofKp0 kWz.out, fun _ => ⟨rfl, rfl, fun q hq => .inl hq⟩, fun e => (by cases e), fun j hj => .inl hj, rfl, .inr ⟨_, rfl, hRk2.out, hzl, fun _ => ⟨hzrow, fun j hj => ⟨hzb2 j hj, fun hm => by have := hjB.out j hm; have := hkB.out.1; have := hzb2 j hj; omega, fun hm => by have := h'.out.ql j hm; have := hkA.out.2.size; have := hzb2 j hj; omega⟩⟩⟩⟩
        obtain ⟨fn, tmps, assign, body, hyl5, hR⟩ := hY _ ⟨za, zc, xl ++ ol⟩ Wz hJz rfl
        have hR' : RoundIn (Fence.wide.inRound l0) (n - 1 - 1 - 1) Tryz.prog ly fn tmps assign body Wz _ := RoundIn.anyDepthJ (F := Fence.wide.inRound l0) rfl hR
        have hgo : Hid (∀ A3, KeepR ⟨true, W3.heap.size, qsA, jsB, i + k, some ⟨za, zc, xl ++ ol⟩⟩ Wz A3 → KeepB jsB A2 A3 ∧ KeepR s A A3 ∧ KeepsFrom W3.heap.size A A3) := fun A3 hk3 => by
         have t1 : KeepR s wr Wz := ⟨KeepB.ofKp kWz.out (by simp), fun _ j o _ ho _ => (kWz.out.block j (Array.getElem?_eq_some_iff.1 ho).1 (by simp)).trans ho⟩
         have t2 : KeepR s Wz A3 := ⟨⟨hk3.js.1, fun j hj o ho => hk3.js.2 j (hJA.out j (h'.out.sub j hj)) o ho⟩, fun hm j o hj ho hc => hk3.recs rfl j o (by have := (h'.out.mde hm).1; show W3.heap.size ≤ j; omega) ho hc⟩
         exact ⟨hkB.out.trans ((KeepB.ofKp kWz.out (by simp)).trans hk3.js), (hkA.out.1.trans t1).trans t2, ⟨Nat.le_trans hkA.out.2.size (Nat.le_trans kWz.out.size hk3.js.1), fun j o hj ho hc => by
          have g1 := hkA.out.2.same j o hj ho hc
          have g2 := (kWz.out.block j (Array.getElem?_eq_some_iff.1 g1).1 (by simp)).trans g1
          exact hk3.recs rfl j o hj g2 hc⟩⟩
        have hyl6 := hyl5
        simp only [encR, List.length_append] at hyl6
        clear hR hJz hzl hzrow kz hzb hzb2 hyl5 cCt
        refine rdI 5 (by kernel_rfl) rfl fun K hK => ?_
        go_simp
        refine ⟨fun h => (by cases h), hR'.mono ?_⟩
        rintro e A3 (⟨rfl, hJ3, hk3⟩ | ⟨rfl, hJ3, hk3⟩)
        ·have HG := hid (hgo.out A3 hk3)
         have hJ4 : Hid (J ⟨true, W3.heap.size, qsA, jsB, i + (k + 1), none⟩ A3) := hJ3
         clear hgo hR' hyl6 hJ3 hk3
         refine hK _ _ ?_
         clear hK K
         try simp only [Act.put, lz]
         refine rdI 6 (by kernel_rfl) rfl fun K hK => ?_
         go_simp
         refine hK _ _ ?_
         clear hK K
         try simp only [Act.put, lz]
         refine wpAnyIn_done (by kernel_rfl) ?_ _
         gi_wp2_with fail
         go_roundw
         case rel => exact ⟨k + 1, by simp, by omega, hJ4, hid HG.out.1, hid HG.out.2⟩
         case measure => simp [intOf]; omega
        ·have HG := hid (hgo.out A3 hk3)
         have hJ4 := hid hJ3
         clear hgo hR' hyl6 hJ3 hk3
         refine hK _ _ ?_
         clear hK K
         try simp only [Act.put, lz]
         refine rdI 6 (by kernel_rfl) rfl fun K hK => ?_
         go_simp
         refine hK _ _ ?_
         clear hK K
         try simp only [Act.put, lz]
         refine wpAnyIn_done (by kernel_rfl) ?_ _
         gi_wp2_with fail
         refine ⟨HG.out.2.2, HG.out.2.1, rfl, Sr.nx ⟨true, W3.heap.size, qsA, jsB, i + k, some ⟨za, zc, xl ++ ol⟩⟩ ⟨za, zc, xl ++ ol⟩, rfl, rfl, h'.out.qsub, h'.out.mde, h'.out.lj, hJ4.out⟩
       ·go_simp
        refine ⟨trivial, fun h => (by cases h), (CallsIn.inRound l0 (callsIn_wide.2 cCt.out)).mono ?_⟩
        rintro e Wz ⟨za, zc, rfl, hzrow, kz, hzb⟩
        have c5z := kpAt kz c5b
        refine hK _ _ ?_
        clear hK K
        try simp only [Act.put, lz]
        refine rdI 0 (by kernel_rfl) rfl fun K hK => ?_
        go_simp
        refine hK _ _ ?_
        clear hK K
        try simp only [Act.put, lz]
        have kWz := hid (KB.out.trans kz (by simp))
        have hzl := rowLies hzrow
        have hzb2 : ∀ j ∈ blk za, wr.heap.size ≤ j := fun j hj => by have := hzb j hj; have := KB.out.size; omega
        have hJz : J ⟨true, W3.heap.size, qsA, jsB, i + k, some ⟨za, zc, xl ++ ol⟩⟩ Wz := hT _ _ _ _ hJk.out ⟨TurnR.ofKp0 kWz.out, fun _ => ⟨rfl, rfl, fun q hq => .inl hq⟩, fun e => (by cases e), fun j hj => .inl hj, rfl, .inr ⟨_, rfl, hRk2.out, hzl, fun _ => ⟨hzrow, fun j hj => ⟨hzb2 j hj, fun hm => by have := hjB.out j hm; have := hkB.out.1; have := hzb2 j hj; omega, fun hm => by have := h'.out.ql j hm; have := hkA.out.2.size; have := hzb2 j hj; omega⟩⟩⟩⟩
        obtain ⟨fn, tmps, assign, body, hyl5, hR⟩ := hY _ ⟨za, zc, xl ++ ol⟩ Wz hJz rfl
        have hR' : RoundIn (Fence.wide.inRound l0) (n - 1 - 1 - 1) Tryz.prog ly fn tmps assign body Wz _ := RoundIn.anyDepthJ (F := Fence.wide.inRound l0) rfl hR
        have hgo : Hid (∀ A3, KeepR ⟨true, W3.heap.size, qsA, jsB, i + k, some ⟨za, zc, xl ++ ol⟩⟩ Wz A3 → KeepB jsB A2 A3 ∧ KeepR s A A3 ∧ KeepsFrom W3.heap.size A A3) := fun A3 hk3 => by
         have t1 : KeepR s wr Wz := ⟨KeepB.ofKp kWz.out (by simp), fun _ j o _ ho _ => (kWz.out.block j (Array.getElem?_eq_some_iff.1 ho).1 (by simp)).trans ho⟩
         have t2 : KeepR s Wz A3 := ⟨⟨hk3.js.1, fun j hj o ho => hk3.js.2 j (hJA.out j (h'.out.sub j hj)) o ho⟩, fun hm j o hj ho hc => hk3.recs rfl j o (by have := (h'.out.mde hm).1; show W3.heap.size ≤ j; omega) ho hc⟩
         exact ⟨hkB.out.trans ((KeepB.ofKp kWz.out (by simp)).trans hk3.js), (hkA.out.1.trans t1).trans t2, ⟨Nat.le_trans hkA.out.2.size (Nat.le_trans kWz.out.size hk3.js.1), fun j o hj ho hc => by
          have g1 := hkA.out.2.same j o hj ho hc
          have g2 := (kWz.out.block j (Array.getElem?_eq_some_iff.1 g1).1 (by simp)).trans g1
          exact hk3.recs rfl j o hj g2 hc⟩⟩
        have hyl6 := hyl5
        simp only [encR, List.length_append] at hyl6
        clear hR hJz hzl hzrow kz hzb hzb2 hyl5 cCt
        refine rdI 5 (by kernel_rfl) rfl fun K hK => ?_
        go_simp
        refine ⟨fun h => (by cases h), hR'.mono ?_⟩
        rintro e A3 (⟨rfl, hJ3, hk3⟩ | ⟨rfl, hJ3, hk3⟩)
        ·have HG := hid (hgo.out A3 hk3)
         have hJ4 : Hid (J ⟨true, W3.heap.size, qsA, jsB, i + (k + 1), none⟩ A3) := hJ3
         clear hgo hR' hyl6 hJ3 hk3
         refine hK _ _ ?_
         clear hK K
         try simp only [Act.put, lz]
         refine rdI 6 (by kernel_rfl) rfl fun K hK => ?_
         go_simp
         refine hK _ _ ?_
         clear hK K
         try simp only [Act.put, lz]
         refine wpAnyIn_done (by kernel_rfl) ?_ _
         gi_wp2_with fail
         go_roundw
         case rel => exact ⟨k + 1, by simp, by omega, hJ4, hid HG.out.1, hid HG.out.2⟩
         case measure => simp [intOf]; omega
        ·have HG := hid (hgo.out A3 hk3)
         have hJ4 := hid hJ3
         clear hgo hR' hyl6 hJ3 hk3
         refine hK _ _ ?_
         clear hK K
         try simp only [Act.put, lz]
         refine rdI 6 (by kernel_rfl) rfl fun K hK => ?_
         go_simp
         refine hK _ _ ?_
         clear hK K
         try simp only [Act.put, lz]
         refine wpAnyIn_done (by kernel_rfl) ?_ _
         gi_wp2_with fail
         refine ⟨HG.out.2.2, HG.out.2.1, rfl, Sr.nx ⟨true, W3.heap.size, qsA, jsB, i + k, some ⟨za, zc, xl ++ ol⟩⟩ ⟨za, zc, xl ++ ol⟩, rfl, rfl, h'.out.qsub, h'.out.mde, h'.out.lj, hJ4.out⟩
    ·go_simp
     refine hK _ _ ?_
     clear hK K
     try simp only [Act.put, lz]
     refine wpAnyIn_ready (rs := [0, 1]) (by kernel_rfl) (by simp) ?_
     refine AllReadyIn.cons rfl (fun K hK => ?_) (AllReadyIn.cons rfl (fun K hK => ?_) AllReadyIn.nil)
     ·go_simp
      refine hK _ _ ?_
      clear hK K
      try simp only [Act.put, lz]
      refine rdI 1 (by kernel_rfl) rfl fun K hK => ?_
      go_simp
      refine hK _ _ ?_
      clear hK K
      try simp only [Act.put, lz]
      refine rdI 3 (by kernel_rfl) rfl fun K hK => ?_
      go_simp
      refine hK _ _ ?_
      clear hK K
      try simp only [Act.put, lz]
      refine rdI 4 (by kernel_rfl) rfl fun K hK => ?_
      go_simp
      refine ⟨trivial, fun h => (by cases h), (CallsIn.inRound l0 (callsIn_wide.2 cCt.out)).mono ?_⟩
      rintro e Wz ⟨za, zc, rfl, hzrow, kz, hzb⟩
      have c5z := kpAt kz c5b
      refine hK _ _ ?_
      clear hK K
      try simp only [Act.put, lz]
      have kWz := hid (KB.out.trans kz (by simp))
      have hzl := rowLies hzrow
      have hzb2 : ∀ j ∈ blk za, wr.heap.size ≤ j := fun j hj => by have := hzb j hj; have := KB.out.size; omega
      have hJz : J ⟨true, W3.heap.size, qsA, jsB, i + k, some ⟨za, zc, xl ++ ol⟩⟩ Wz := hT _ _ _ _ hJk.out ⟨TurnR.ofKp0 kWz.out, fun _ => ⟨rfl, rfl, fun q hq => .inl hq⟩, fun e => (by cases e), fun j hj => .inl hj, rfl, .inr ⟨_, rfl, hRk2.out, hzl, fun _ => ⟨hzrow, fun j hj => ⟨hzb2 j hj, fun hm => by have := hjB.out j hm; have := hkB.out.1; have := hzb2 j hj; omega, fun hm => by have := h'.out.ql j hm; have := hkA.out.2.size; have := hzb2 j hj; omega⟩⟩⟩⟩
      obtain ⟨fn, tmps, assign, body, hyl5, hR⟩ := hY _ ⟨za, zc, xl ++ ol⟩ Wz hJz rfl
      have hR' : RoundIn (Fence.wide.inRound l0) (n - 1 - 1 - 1) Tryz.prog ly fn tmps assign body Wz _ := RoundIn.anyDepthJ (F := Fence.wide.inRound l0) rfl hR
      have hgo : Hid (∀ A3, KeepR ⟨true, W3.heap.size, qsA, jsB, i + k, some ⟨za, zc, xl ++ ol⟩⟩ Wz A3 → KeepB jsB A2 A3 ∧ KeepR s A A3 ∧ KeepsFrom W3.heap.size A A3) := fun A3 hk3 => by
       have t1 : KeepR s wr Wz := ⟨KeepB.ofKp kWz.out (by simp), fun _ j o _ ho _ => (kWz.out.block j (Array.getElem?_eq_some_iff.1 ho).1 (by simp)).trans ho⟩
       have t2 : KeepR s Wz A3 := ⟨⟨hk3.js.1, fun j hj o ho => hk3.js.2 j (hJA.out j (h'.out.sub j hj)) o ho⟩, fun hm j o hj ho hc => hk3.recs rfl j o (by have := (h'.out.mde hm).1; show W3.heap.size ≤ j; omega) ho hc⟩
       exact ⟨hkB.out.trans ((KeepB.ofKp kWz.out (by simp)).trans hk3.js), (hkA.out.1.trans t1).trans t2, ⟨Nat.le_trans hkA.out.2.size (Nat.le_trans kWz.out.size hk3.js.1), fun j o hj ho hc => by
        have g1 := hkA.out.2.same j o hj ho hc
        have g2 := (kWz.out.block j (Array.getElem?_eq_some_iff.1 g1).1 (by simp)).trans g1
        exact hk3.recs rfl j o hj g2 hc⟩⟩
      have hyl6 := hyl5
      simp only [encR, List.length_append] at hyl6
      clear hR hJz hzl hzrow kz hzb hzb2 hyl5 cCt
      refine rdI 5 (by kernel_rfl) rfl fun K hK => ?_
      go_simp
      refine ⟨fun h => (by cases h), hR'.mono ?_⟩
      rintro e A3 (⟨rfl, hJ3, hk3⟩ | ⟨rfl, hJ3, hk3⟩)
      ·have HG := hid (hgo.out A3 hk3)
       have hJ4 : Hid (J ⟨true, W3.heap.size, qsA, jsB, i + (k + 1), none⟩ A3) := hJ3
       clear hgo hR' hyl6 hJ3 hk3
       refine hK _ _ ?_
       clear hK K
       try simp only [Act.put, lz]
       refine rdI 6 (by kernel_rfl) rfl fun K hK => ?_
       go_simp
       refine hK _ _ ?_
       clear hK K
       try simp only [Act.put, lz]
       refine wpAnyIn_done (by kernel_rfl) ?_ _
       gi_wp2_with fail
       go_roundw
       case rel => exact ⟨k + 1, by simp, by omega, hJ4, hid HG.out.1, hid HG.out.2⟩
       case measure => simp [intOf]; omega
      ·have HG := hid (hgo.out A3 hk3)
       have hJ4 := hid hJ3
       clear hgo hR' hyl6 hJ3 hk3
       refine hK _ _ ?_
       clear hK K
       try simp only [Act.put, lz]
       refine rdI 6 (by kernel_rfl) rfl fun K hK => ?_
       go_simp
       refine hK _ _ ?_
       clear hK K
       try simp only [Act.put, lz]
       refine wpAnyIn_done (by kernel_rfl) ?_ _
       gi_wp2_with fail
       refine ⟨HG.out.2.2, HG.out.2.1, rfl, Sr.nx ⟨true, W3.heap.size, qsA, jsB, i + k, some ⟨za, zc, xl ++ ol⟩⟩ ⟨za, zc, xl ++ ol⟩, rfl, rfl, h'.out.qsub, h'.out.mde, h'.out.lj, hJ4.out⟩
     ·go_simp
      refine hK _ _ ?_
      clear hK K
      try simp only [Act.put, lz]
      refine wpAnyIn_ready (rs := [0, 3]) (by kernel_rfl) (by simp) ?_
      refine AllReadyIn.cons rfl (fun K hK => ?_) (AllReadyIn.cons rfl (fun K hK => ?_) AllReadyIn.nil)
      ·go_simp
       refine hK _ _ ?_
       clear hK K
       try simp only [Act.put, lz]
       refine rdI 3 (by kernel_rfl) rfl fun K hK => ?_
       go_simp
       refine hK _ _ ?_
       clear hK K
       try simp only [Act.put, lz]
       refine rdI 4 (by kernel_rfl) rfl fun K hK => ?_
       go_simp
       refine ⟨trivial, fun h => (by cases h), (CallsIn.inRound l0 (callsIn_wide.2 cCt.out)).mono ?_⟩
       rintro e Wz ⟨za, zc, rfl, hzrow, kz, hzb⟩
       have c5z := kpAt kz c5b
       refine hK _ _ ?_
       clear hK K
       try simp only [Act.put, lz]
       have kWz := hid (KB.out.trans kz (by simp))
       have hzl := rowLies hzrow
       have hzb2 : ∀ j ∈ blk za, wr.heap.size ≤ j := fun j hj => by have := hzb j hj; have := KB.out.size; omega
       have hJz : J ⟨true, W3.heap.size, qsA, jsB, i + k, some ⟨za, zc, xl ++ ol⟩⟩ Wz := hT _ _ _ _ hJk.out ⟨TurnR.ofKp0 kWz.out, fun _ => ⟨rfl, rfl, fun q hq => .inl hq⟩, fun e => (by cases e), fun j hj => .inl hj, rfl, .inr ⟨_, rfl, hRk2.out, hzl, fun _ => ⟨hzrow, fun j hj => ⟨hzb2 j hj, fun hm => by have := hjB.out j hm; have := hkB.out.1; have := hzb2 j hj; omega, fun hm => by have := h'.out.ql j hm; have := hkA.out.2.size; have := hzb2 j hj; omega⟩⟩⟩⟩
       obtain ⟨fn, tmps, assign, body, hyl5, hR⟩ := hY _ ⟨za, zc, xl ++ ol⟩ Wz hJz rfl
       have hR' : RoundIn (Fence.wide.inRound l0) (n - 1 - 1 - 1) Tryz.prog ly fn tmps assign body Wz _ := RoundIn.anyDepthJ (F := Fence.wide.inRound l0) rfl hR
       have hgo : Hid (∀ A3, KeepR ⟨true, W3.heap.size, qsA, jsB, i + k, some ⟨za, zc, xl ++ ol⟩⟩ Wz A3 → KeepB jsB A2 A3 ∧ KeepR s A A3 ∧ KeepsFrom W3.heap.size A A3) := fun A3 hk3 => by
        have t1 : KeepR s wr Wz := ⟨KeepB.ofKp kWz.out (by simp), fun _ j o _ ho _ => (kWz.out.block j (Array.getElem?_eq_some_iff.1 ho).1 (by simp)).trans ho⟩
        have t2 : KeepR s Wz A3 := ⟨⟨hk3.js.1, fun j hj o ho => hk3.js.2 j (hJA.out j (h'.out.sub j hj)) o ho⟩, fun hm j o hj ho hc => hk3.recs rfl j o (by have := (h'.out.mde hm).1; show W3.heap.size ≤ j; omega) ho hc⟩
        exact ⟨hkB.out.trans ((KeepB.ofKp kWz.out (by simp)).trans hk3.js), (hkA.out.1.trans t1).trans t2, ⟨Nat.le_trans hkA.out.2.size (Nat.le_trans kWz.out.size hk3.js.1), fun j o hj ho hc => by
         have g1 := hkA.out.2.same j o hj ho hc
         have g2 := (kWz.out.block j (Array.getElem?_eq_some_iff.1 g1).1 (by simp)).trans g1
         exact hk3.recs rfl j o hj g2 hc⟩⟩
       have hyl6 := hyl5
       simp only [encR, List.length_append] at hyl6
       clear hR hJz hzl hzrow kz hzb hzb2 hyl5 cCt
       refine rdI 5 (by kernel_rfl) rfl fun K hK => ?_
       go_simp
       refine ⟨fun h => (by cases h), hR'.mono ?_⟩
       rintro e A3 (⟨rfl, hJ3, hk3⟩ | ⟨rfl, hJ3, hk3⟩)
       ·have HG := hid (hgo.out A3 hk3)
        have hJ4 : Hid (J ⟨true, W3.heap.size, qsA, jsB, i + (k + 1), none⟩ A3) := hJ3
        clear hgo hR' hyl6 hJ3 hk3
        refine hK _ _ ?_
        clear hK K
        try simp only [Act.put, lz]
        refine rdI 6 (by kernel_rfl) rfl fun K hK => ?_
        go_simp
        refine hK _ _ ?_
        clear hK K
        try simp only [Act.put, lz]
        refine wpAnyIn_done (by kernel_rfl) ?_ _
        gi_wp2_with fail
        go_roundw
        case rel => exact ⟨k + 1, by simp, by omega, hJ4, hid HG.out.1, hid HG.out.2⟩
        case measure => simp [intOf]; omega
       ·have HG := hid (hgo.out A3 hk3)
        have hJ4 := hid hJ3
        clear hgo hR' hyl6 hJ3 hk3
        refine hK _ _ ?_
        clear hK K
        try simp only [Act.put, lz]
        refine rdI 6 (by kernel_rfl) rfl fun K hK => ?_
        go_simp
        refine hK _ _ ?_
        clear hK K
        try simp only [Act.put, lz]
        refine wpAnyIn_done (by kernel_rfl) ?_ _
        gi_wp2_with fail
        refine ⟨HG.out.2.2, HG.out.2.1, rfl, Sr.nx ⟨true, W3.heap.size, qsA, jsB, i + k, some ⟨za, zc, xl ++ ol⟩⟩ ⟨za, zc, xl ++ ol⟩, rfl, rfl, h'.out.qsub, h'.out.mde, h'.out.lj, hJ4.out⟩
      ·go_simp
       refine hK _ _ ?_
       clear hK K
       try simp only [Act.put, lz]
       refine wpAnyIn_ready (rs := [0, 4]) (by kernel_rfl) (by simp) ?_
       refine AllReadyIn.cons rfl (fun K hK => ?_) (AllReadyIn.cons rfl (fun K hK => ?_) AllReadyIn.nil)
       ·go_simp
        refine hK _ _ ?_
        clear hK K
        try simp only [Act.put, lz]
        refine rdI 4 (by kernel_rfl) rfl fun K hK => ?_
        go_simp
        refine ⟨trivial, fun h => (by cases h), (CallsIn.inRound l0 (callsIn_wide.2 cCt.out)).mono ?_⟩
        rintro e Wz ⟨za, zc, rfl, hzrow, kz, hzb⟩
        have c5z := kpAt kz c5b
        refine hK _ _ ?_
        clear hK K
        try simp only [Act.put, lz]
        have kWz := hid (KB.out.trans kz (by simp))
        have hzl := rowLies hzrow
        have hzb2 : ∀ j ∈ blk za, wr.heap.size ≤ j := fun j hj => by have := hzb j hj; have := KB.out.size; omega
        have hJz : J ⟨true, W3.heap.size, qsA, jsB, i + k, some ⟨za, zc, xl ++ ol⟩⟩ Wz := hT _ _ _ _ hJk.out ⟨TurnR.ofKp0 kWz.out, fun _ => ⟨rfl, rfl, fun q hq => .inl hq⟩, fun e => (by cases e), fun j hj => .inl hj, rfl, .inr ⟨_, rfl, hRk2.out, hzl, fun _ => ⟨hzrow, fun j hj => ⟨hzb2 j hj, fun hm => by have := hjB.out j hm; have := hkB.out.1; have := hzb2 j hj; omega, fun hm => by have := h'.out.ql j hm; have := hkA.out.2.size; have := hzb2 j hj; omega⟩⟩⟩⟩
        obtain ⟨fn, tmps, assign, body, hyl5, hR⟩ := hY _ ⟨za, zc, xl ++ ol⟩ Wz hJz rfl
        have hR' : RoundIn (Fence.wide.inRound l0) (n - 1 - 1 - 1) Tryz.prog ly fn tmps assign body Wz _ := RoundIn.anyDepthJ (F := Fence.wide.inRound l0) rfl hR
        have hgo : Hid (∀ A3, KeepR ⟨true, W3.heap.size, qsA, jsB, i + k, some ⟨za, zc, xl ++ ol⟩⟩ Wz A3 → KeepB jsB A2 A3 ∧ KeepR s A A3 ∧ KeepsFrom W3.heap.size A A3) := fun A3 hk3 => by
         have t1 : KeepR s wr Wz := ⟨KeepB.ofKp kWz.out (by simp), fun _ j o _ ho _ => (kWz.out.block j (Array.getElem?_eq_some_iff.1 ho).1 (by simp)).trans ho⟩
         have t2 : KeepR s Wz A3 := ⟨⟨hk3.js.1, fun j hj o ho => hk3.js.2 j (hJA.out j (h'.out.sub j hj)) o ho⟩, fun hm j o hj ho hc => hk3.recs rfl j o (by have := (h'.out.mde hm).1; show W3.heap.size ≤ j; omega) ho hc⟩
         exact ⟨hkB.out.trans ((KeepB.ofKp kWz.out (by simp)).trans hk3.js), (hkA.out.1.trans t1).trans t2, ⟨Nat.le_trans hkA.out.2.size (Nat.le_trans kWz.out.size hk3.js.1), fun j o hj ho hc => by
          have g1 := hkA.out.2.same j o hj ho hc
          have g2 := (kWz.out.block j (Array.getElem?_eq_some_iff.1 g1).1 (by simp)).trans g1
          exact hk3.recs rfl j o hj g2 hc⟩⟩
        have hyl6 := hyl5
        simp only [encR, List.length_append] at hyl6
        clear hR hJz hzl hzrow kz hzb hzb2 hyl5 cCt
        refine rdI 5 (by kernel_rfl) rfl fun K hK => ?_
        go_simp
        refine ⟨fun h => (by cases h), hR'.mono ?_⟩
        rintro e A3 (⟨rfl, hJ3, hk3⟩ | ⟨rfl, hJ3, hk3⟩)
        ·have HG := hid (hgo.out A3 hk3)
         have hJ4 : Hid (J ⟨true, W3.heap.size, qsA, jsB, i + (k + 1), none⟩ A3) := hJ3
         clear hgo hR' hyl6 hJ3 hk3
         refine hK _ _ ?_
         clear hK K
         try simp only [Act.put, lz]
         refine rdI 6 (by kernel_rfl) rfl fun K hK => ?_
         go_simp
         refine hK _ _ ?_
         clear hK K
         try simp only [Act.put, lz]
         refine wpAnyIn_done (by kernel_rfl) ?_ _
         gi_wp2_with fail
         go_roundw
         case rel => exact ⟨k + 1, by simp, by omega, hJ4, hid HG.out.1, hid HG.out.2⟩
         case measure => simp [intOf]; omega
        ·have HG := hid (hgo.out A3 hk3)
         have hJ4 := hid hJ3
         clear hgo hR' hyl6 hJ3 hk3
         refine hK _ _ ?_
         clear hK K
         try simp only [Act.put, lz]
         refine rdI 6 (by kernel_rfl) rfl fun K hK => ?_
         go_simp
         refine hK _ _ ?_
         clear hK K
         try simp only [Act.put, lz]
         refine wpAnyIn_done (by kernel_rfl) ?_ _
         gi_wp2_with fail
         refine ⟨HG.out.2.2, HG.out.2.1, rfl, Sr.nx ⟨true, W3.heap.size, qsA, jsB, i + k, some ⟨za, zc, xl ++ ol⟩⟩ ⟨za, zc, xl ++ ol⟩, rfl, rfl, h'.out.qsub, h'.out.mde, h'.out.lj, hJ4.out⟩
       ·go_simp
        refine ⟨trivial, fun h => (by cases h), (CallsIn.inRound l0 (callsIn_wide.2 cCt.out)).mono ?_⟩
        rintro e Wz ⟨za, zc, rfl, hzrow, kz, hzb⟩
        have c5z := kpAt kz c5b
        refine hK _ _ ?_
        clear hK K
        try simp only [Act.put, lz]
        refine rdI 0 (by kernel_rfl) rfl fun K hK => ?_
        go_simp
        refine hK _ _ ?_
        clear hK K
        try simp only [Act.put, lz]
        have kWz := hid (KB.out.trans kz (by simp))
        have hzl := rowLies hzrow
        have hzb2 : ∀ j ∈ blk za, wr.heap.size ≤ j := fun j hj => by have := hzb j hj; have := KB.out.size; omega
        have hJz : J ⟨true, W3.heap.size, qsA, jsB, i + k, some ⟨za, zc, xl ++ ol⟩⟩ Wz := hT _ _ _ _ hJk.out ⟨TurnR.ofKp0 kWz.out, fun _ => ⟨rfl, rfl, fun q hq => .inl hq⟩, fun e => (by cases e), fun j hj => .inl hj, rfl, .inr ⟨_, rfl, hRk2.out, hzl, fun _ => ⟨hzrow, fun j hj => ⟨hzb2 j hj, fun hm => by have := hjB.out j hm; have := hkB.out.1; have := hzb2 j hj; omega, fun hm => by have := h'.out.ql j hm; have := hkA.out.2.size; have := hzb2 j hj; omega⟩⟩⟩⟩
        obtain ⟨fn, tmps, assign, body, hyl5, hR⟩ := hY _ ⟨za, zc, xl ++ ol⟩ Wz hJz rfl
        have hR' : RoundIn (Fence.wide.inRound l0) (n - 1 - 1 - 1) Tryz.prog ly fn tmps assign body Wz _ := RoundIn.anyDepthJ (F := Fence.wide.inRound l0) rfl hR
        have hgo : Hid (∀ A3, KeepR ⟨true, W3.heap.size, qsA, jsB, i + k, some ⟨za, zc, xl ++ ol⟩⟩ Wz A3 → KeepB jsB A2 A3 ∧ KeepR s A A3 ∧ KeepsFrom W3.heap.size A A3) := fun A3 hk3 => by
         have t1 : KeepR s wr Wz := ⟨KeepB.ofKp kWz.out (by simp), fun _ j o _ ho _ => (kWz.out.block j (Array.getElem?_eq_some_iff.1 ho).1 (by simp)).trans ho⟩
         have t2 : KeepR s Wz A3 := ⟨⟨hk3.js.1, fun j hj o ho => hk3.js.2 j (hJA.out j (h'.out.sub j hj)) o ho⟩, fun hm j o hj ho hc => hk3.recs rfl j o (by have := (h'.out.mde hm).1; show W3.heap.size ≤ j; omega) ho hc⟩
         exact ⟨hkB.out.trans ((KeepB.ofKp kWz.out (by simp)).trans hk3.js), (hkA.out.1.trans t1).trans t2, ⟨Nat.le_trans hkA.out.2.size (Nat.le_trans kWz.out.size hk3.js.1), fun j o hj ho hc => by
          have g1 := hkA.out.2.same j o hj ho hc
          have g2 := (kWz.out.block j (Array.getElem?_eq_some_iff.1 g1).1 (by simp)).trans g1
          exact hk3.recs rfl j o hj g2 hc⟩⟩
        have hyl6 := hyl5
        simp only [encR, List.length_append] at hyl6
        clear hR hJz hzl hzrow kz hzb hzb2 hyl5 cCt
        refine rdI 5 (by kernel_rfl) rfl fun K hK => ?_
        go_simp
        refine ⟨fun h => (by cases h), hR'.mono ?_⟩
        rintro e A3 (⟨rfl, hJ3, hk3⟩ | ⟨rfl, hJ3, hk3⟩)
        ·have HG := hid (hgo.out A3 hk3)
         have hJ4 : Hid (J ⟨true, W3.heap.size, qsA, jsB, i + (k + 1), none⟩ A3) := hJ3
         clear hgo hR' hyl6 hJ3 hk3
         refine hK _ _ ?_
         clear hK K
         try simp only [Act.put, lz]
         refine rdI 6 (by kernel_rfl) rfl fun K hK => ?_
         go_simp
         refine hK _ _ ?_
         clear hK K
         try simp only [Act.put, lz]
         refine wpAnyIn_done (by kernel_rfl) ?_ _
         gi_wp2_with fail
         go_roundw
         case rel => exact ⟨k + 1, by simp, by omega, hJ4, hid HG.out.1, hid HG.out.2⟩
         case measure => simp [intOf]; omega
        ·have HG := hid (hgo.out A3 hk3)
         have hJ4 := hid hJ3
         clear hgo hR' hyl6 hJ3 hk3
         refine hK _ _ ?_
         clear hK K
         try simp only [Act.put, lz]
         refine rdI 6 (by kernel_rfl) rfl fun K hK => ?_
         go_simp
         refine hK _ _ ?_
         clear hK K
         try simp only [Act.put, lz]
         refine wpAnyIn_done (by kernel_rfl) ?_ _
         gi_wp2_with fail
         refine ⟨HG.out.2.2, HG.out.2.1, rfl, Sr.nx ⟨true, W3.heap.size, qsA, jsB, i + k, some ⟨za, zc, xl ++ ol⟩⟩ ⟨za, zc, xl ++ ol⟩, rfl, rfl, h'.out.qsub, h'.out.mde, h'.out.lj, hJ4.out⟩
   ·obtain rfl : k = m := by omega
    have dj1 : ¬ (k : Int) < (k : Int) := by omega
    have dj2 : decide ((k : Int) < (k : Int)) = false := by simp
    gi_wp2_with fail
    refine ⟨hkA.out.2, hkA.out.1, jsB, qsA, i + k, hJk.out, fun j hj => hJA.out j (h'.out.sub j hj), hMB.out, h'.out.qsub, hmr.out, hRe.out, hiR.out, Nat.le_trans h'.out.size hkA.out.2.size, h'.out.mde, h'.out.lj, fun x hx => (by cases hx), fun j hj => Nat.lt_of_lt_of_le (hjB.out j hj) hkB.out.1, fun q hq => Nat.lt_of_lt_of_le (h'.out.ql q hq) hkA.out.2.size⟩
 case done =>
  rintro D s X hD ⟨hmd, hsi, hsp⟩ ⟨jsA, qsA, i, h⟩ hrec
  have hie : i = RJ.length := by
   have := h.rel
   rw [hsi, List.drop_length, List.flatMap_nil] at this
   have := congrArg List.length this
   rw [List.length_drop, List.length_nil] at this
   have := h.il
   omega
  have hJD := hT _ _ _ _ h.j (StepR.same rfl rfl (TurnR.ofGrown (grownBy_putObj' X D (.deferred none)) (fun r e => by cases e; exact ⟨hD, _, hrec, rfl⟩)))
  gi_wp2_with fail
  rw [Exit.noGoto_normal]
  refine ⟨by simp, .inl ⟨_, _, rfl, run_takeDeferred hrec, ?_⟩⟩
  exact ⟨_, results_none rfl _ _ _, ⟨_, rfl⟩, .inl ⟨_, ⟨rfl, hie, rfl⟩, hJD⟩⟩
 case stop =>
  rintro D c s X hD hsm ⟨rfl, h⟩ hrec
  obtain ⟨s2, h1, h2, h3, h4, h5, h6⟩ := h
  have hJD := hX _ _ _ h6 ⟨h1, TurnR.ofGrown (grownBy_putObj' X D (.deferred none)) (fun r e => by cases e; exact ⟨by rw [h2]; exact hD, _, hrec, rfl⟩)⟩
  gi_wp2_with fail
  rw [Exit.noGoto_normal]
  refine ⟨by simp, .inl ⟨_, _, rfl, run_takeDeferred hrec, ?_⟩⟩
  exact ⟨_, results_none rfl _ _ _, ⟨_, rfl⟩, .inr ⟨s2, h1, hJD⟩⟩
theorem cJoinE (gl gr : Nat) (lbl lbr : Array Value) (lo ro : Int) (w : World) : Calls Tryz.prog 55 #[.func (.func gl) #[] lbl, .func (.func gr) #[] lbr, .int .i64 lo, .int .i64 ro] w fun e w' => e = .returned (.func (.func 96) #[] #[.pointer (some ⟨w.heap.size + 1, 0, none⟩), .pointer (some ⟨w.heap.size + 3, 0, none⟩), .pointer (some ⟨w.heap.size, 0, none⟩), .pointer (some ⟨w.heap.size + 2, 0, none⟩)]) ∧
  w' = (((w.alloc (.cells #[.func (.func gl) #[] lbl] 123)).alloc (.cells #[.func (.func gr) #[] lbr] 123)).alloc (.cells #[.int .i64 lo] 3)).alloc (.cells #[.int .i64 ro] 3) := by
 go_enter Tryz.func55, Tryz.ntmps55
 go_wp2_with fail
 go_returns
 exact ⟨rfl, rfl⟩
theorem cTell0 (a : Option Addr) (n c : Nat) (col : Int) (w : World) : Calls Tryz.prog 167 #[.slice a n c, .agg #[.int .i64 0, .int .i64 col]] w fun e w' => e = .returned (.agg #[.int .i64 2, .bool false, .int .i64 (n : Int), .string ⟨#[]⟩]) ∧ Kp [] w w' := by
 obtain ⟨w1, hw1, k1, b1⟩ : ∃ w1, w.alloc (.cells #[.int .i64 0, .int .i64 col] 102) = w1 ∧ Kp [] w w1 ∧ Bn w1 w.heap.size [.int .i64 0, .int .i64 col] := ⟨_, rfl, (Kp.refl _ _).alloc _, Bn.new w _ _⟩
 obtain ⟨w2, hw2, k2, b2⟩ : ∃ w2, w1.alloc (.cells #[.int .i64 0, .bool false, .int .i64 0, .string ⟨#[]⟩] 88) = w2 ∧ Kp [] w1 w2 ∧ Bn w2 w1.heap.size [.int .i64 0, .bool false, .int .i64 0, .string ⟨#[]⟩] := ⟨_, rfl, (Kp.refl _ _).alloc _, Bn.new w1 _ _⟩
 obtain ⟨q3, hq3⟩ : ∃ q, w.heap.size = q := ⟨_, rfl⟩
 obtain ⟨q4, hq4⟩ : ∃ q, Hid (w1.heap.size = q) := ⟨_, rfl⟩
 rw [hq3] at b1
 rw [hq4.out] at b2
 have b12 := b1.kept k2
 have a0 := b12.get 0 _ rfl
 have a1 := b12.get 1 _ rfl
 have cI := hid (cIntE (n : Int) w2)
 have H2 := hid (And.intro b2 (And.intro (k1.trans k2 (by simp)) k1.size))
 have hq4' := hq4.out
 clear b1 b2 b12 k1 k2
 go_enter Tryz.func167, Tryz.ntmps167
 go_wp2_with fail
 refine cI.out.mono ?_
 rintro e w3 ⟨rfl, k3⟩
 have b3 := H2.out.1.kept k3
 have m0 := b3.get 0 _ rfl; have m1 := b3.get 1 _ rfl; have m2 := b3.get 2 _ rfl; have m3 := b3.get 3 _ rfl
 have f0 := b3.free 0; have f1 := b3.free 1; have f2 := b3.free 2; have f3 := b3.free 3
 have hh : q4 ∈ ([] : List Nat) ∨ w.heap.size ≤ q4 := .inr (by rw [← hq4.out]; exact H2.out.2.2)
 obtain ⟨w4, e4, b4, k4⟩ : ∃ W2, (((w3.setCell ⟨q4, 0, none⟩ (.int .i64 2)).setCell ⟨q4, 1, none⟩ (.bool false)).setCell ⟨q4, 2, none⟩ (.int .i64 (n : Int))).setCell ⟨q4, 3, none⟩ (.string ⟨#[]⟩) = W2 ∧ Bn W2 q4 [.int .i64 2, .bool false, .int .i64 (n : Int), .string ⟨#[]⟩] ∧ Kp [] w W2 :=
  ⟨_, rfl, (((b3.set 0 (by simp) (.int .i64 2)).set 1 (by simp) (.bool false)).set 2 (by simp) (.int .i64 (n : Int))).set 3 (by simp) (.string ⟨#[]⟩), (((((H2.out.2.1.trans k3 (by simp)).setCell hh _).setCell hh _).setCell hh _).setCell hh _)⟩
 have v0 := b4.get 0 _ rfl; have v1 := b4.get 1 _ rfl; have v2 := b4.get 2 _ rfl; have v3 := b4.get 3 _ rfl
 have K4 := hid k4
 clear b3 b4 k4 k3 cI H2 hh
 go_wp2_with fail
 exact bodyPost_ret (v := .agg #[.int .i64 2, .bool false, .int .i64 (n : Int), .string ⟨#[]⟩]) (by simp [results, Tryz.results167, go_sem, v0, v1, v2, v3]) rfl ⟨rfl, K4.out⟩
end Go.Proofs.YtcgkkofmnajedaaGreatDoor
end

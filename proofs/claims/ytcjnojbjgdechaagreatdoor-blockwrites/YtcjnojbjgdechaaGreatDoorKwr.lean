/- Every block is the document's, in every kind, or there is none. -/
import Derived.Test.YtcjnojbjgdechaaGreatDoorB19
import Derived.Deep.RegionHeld3
import Derived.Test.YtcjnojbjgdechaaGreatDoorB11
import Derived.Test.YtcjnojbjgdechaaGreatDoorB1
import Derived.Test.YtcjnojbjgdechaaGreatDoorB3
import Derived.SizedLaws
import Derived.JoinedCond
import Derived.Deep.CondSized
section
namespace Go.Proofs.YtcjnojbjgdechaaGreatDoor
open Go.RowKit Go.Hay
set_option linter.unusedVariables false
set_option linter.unusedSimpArgs false

theorem min_step (l : List Val) (j : Nat) : minTo l (j + 1 - 1) = if cmpV (l.getD j nv) (minTo l (j - 1)) < 0 then l.getD j nv else minTo l (j - 1) := by
  cases j with
  | zero => rw [if_neg (by show ¬ cmpV (l.getD 0 nv) (l.getD 0 nv) < 0; rw [cmp_self]; omega)]
  | succ j => rfl
theorem max_step (l : List Val) (j : Nat) : maxTo l (j + 1 - 1) = if 0 < cmpV (l.getD j nv) (maxTo l (j - 1)) then l.getD j nv else maxTo l (j - 1) := by
  cases j with
  | zero => rw [if_neg (by show ¬ 0 < cmpV (l.getD 0 nv) (l.getD 0 nv); rw [cmp_self]; omega)]
  | succ j => rfl
set_option maxHeartbeats 64000000 in
set_option maxRecDepth 100000 in
theorem rFacts (k : Int) (a : Option Addr) (ca : Nat) (l : List Val) (w : World) (ha : Vals w a l) (h0 : 0 < l.length) (hl : l.length ≤ 1000000) :
    Calls Tryz.prog 35 #[.int .i64 k, .slice a l.length ca] w fun e w' => e = .returned (Inf.v ⟨k, l.length, minV l, maxV l, nullsV l, 0⟩) ∧ Kp [] w w' := by
  obtain ⟨g, o, rfl, hdrop⟩ := ha.at 0 h0
  clear hdrop
  have hat : Hid (∀ W, Kp [] w W → ∀ j, j < l.length → W.cell? ⟨g, o + j * 4, none⟩ = some (.int .i64 (l.getD j nv).k) ∧ W.cell? ⟨g, o + j * 4 + 1, none⟩ = some (.bool (l.getD j nv).b) ∧ W.cell? ⟨g, o + j * 4 + 2, none⟩ = some (.int .i64 (l.getD j nv).n) ∧ W.cell? ⟨g, o + j * 4 + 3, none⟩ = some (.string (l.getD j nv).t)) := fun W kW j hj => by
    obtain ⟨_, _, e, y0, y1, y2, y3⟩ := (ha.kept kW).at j hj
    cases e
    have eg : l.getD j nv = l[j] := by simp [hj]
    rw [eg]
    exact ⟨y0, y1, y2, y3⟩
  have hnul : Hid (∀ j, j < l.length → nullsV (l.take (j + 1)) = nullsV (l.take j) + (if (l.getD j nv).k = 0 then 1 else 0)) := fun j hj => by
    have := nulls_take l j hj
    rw [this]
    simp [hj]
  obtain ⟨w0, hw0, kW0, bR⟩ : ∃ w0, w.alloc (.cells #[.int .i64 0, .int .i64 0, .int .i64 0, .bool false, .int .i64 0, .string ⟨#[]⟩, .int .i64 0, .bool false, .int .i64 0, .string ⟨#[]⟩, .int .i64 0, .int .i64 0] 37) = w0 ∧ Kp [] w w0 ∧ Bx w0 w.heap.size [.int .i64 0, .int .i64 0, .int .i64 0, .bool false, .int .i64 0, .string ⟨#[]⟩, .int .i64 0, .bool false, .int .i64 0, .string ⟨#[]⟩, .int .i64 0, .int .i64 0] := ⟨_, rfl, (Kp.refl _ _).alloc _, Bx.new w _ _⟩
  obtain ⟨q, hq⟩ : ∃ q, Hid (w.heap.size = q) := ⟨_, rfl⟩
  have hqw : w.heap.size ≤ q := by rw [hq.out]; omega
  rw [hq.out] at bR
  have hm0 : Hid (minTo l (0 - 1) = l.getD 0 nv) := rfl
  have hx0 : Hid (maxTo l (0 - 1) = l.getD 0 nv) := rfl
  have hfm : Hid (minV l = minTo l (l.length - 1)) := rfl
  have hfx : Hid (maxV l = maxTo l (l.length - 1)) := rfl
  obtain ⟨⟨zk, zb, zn, zt⟩, hz⟩ : ∃ m, Hid (l.getD 0 nv = m) := ⟨_, rfl⟩
  have hz0 := hat.out
  rw [hz.out] at hm0 hx0
  have hat0 : Hid (∀ W, Kp [] w W → (W.cell? ⟨g, o, none⟩ = some (.int .i64 zk) ∧ W.cell? ⟨g, o + 1, none⟩ = some (.bool zb) ∧ W.cell? ⟨g, o + 2, none⟩ = some (.int .i64 zn) ∧ W.cell? ⟨g, o + 3, none⟩ = some (.string zt))) := fun W kW => by
    have := hat.out W kW 0 h0
    rw [hz.out, Nat.zero_mul, Nat.add_zero] at this
    exact this
  have hbR := hid bR
  have hkw := hid kW0
  have hw0' := hid hw0
  clear bR kW0 hw0 ha hz0 hz
  go_enter Tryz.func35, Tryz.ntmps35
  go_wp2_with fail
  rw [hw0'.out, hq.out]
  have kd : Kp [] w0 w0.drew := (Kp.refl _ _).drew
  have kwd := hid (hkw.out.trans kd (by simp))
  have hS : Hid (∀ A, Kp [] w0 A → (A.cell? ⟨g, o, none⟩ = some (.int .i64 zk) ∧ A.cell? ⟨g, o + 1, none⟩ = some (.bool zb) ∧ A.cell? ⟨g, o + 2, none⟩ = some (.int .i64 zn) ∧ A.cell? ⟨g, o + 3, none⟩ = some (.string zt))) := fun A kA => hat0.out A (hkw.out.trans kA (by simp))
  have hbd := hid (hbR.out.kept kd (by simp) (hbR.out.lt (by simp)))
  refine wp_region_held_drew (S := (fun A => (A.cell? ⟨g, o, none⟩ = some (.int .i64 zk) ∧ A.cell? ⟨g, o + 1, none⟩ = some (.bool zb) ∧ A.cell? ⟨g, o + 2, none⟩ = some (.int .i64 zn) ∧ A.cell? ⟨g, o + 3, none⟩ = some (.string zt)))) (by kernel_rfl) ?_ (fun hHeld => ?_)
  · exact hS.out _ kd
  have hHeld' := hS.out _ kd
  have hkd := hid kd
  clear hHeld hHeld' kd hbR hkw hw0'
  have hHeld := hS.out _ hkd.out
  generalize w0.drew = wd at *
  have dl : (0 : Int) < (l.length : Int) := by omega
  have dl2 : ((0 : Nat) : Int) < (l.length : Int) := by omega
  refine wpAnyH_take (i := 0) (v := ?_) rfl (by kernel_rfl) (by kernel_rfl) (by kernel_rfl) (fun _ _ _ h => h) (Or.inl ⟨by rfl, ?_⟩) (by assumption) ?_
  rotate_left
  · intro w hSw; (try dsimp only at hSw); go_simp <;> with_reducible rfl
  try simp only [Act.put, List.getElem_toArray, List.getElem_cons_zero, List.getElem_cons_succ, List.setIfInBounds_toArray, List.set_cons_zero, List.set_cons_succ]
  refine wpAnyH_take (i := 1) (v := ?_) rfl (by kernel_rfl) (by kernel_rfl) (by kernel_rfl) (fun _ _ _ h => h) (Or.inl ⟨by rfl, ?_⟩) (by assumption) ?_
  rotate_left
  · intro w hSw; (try dsimp only at hSw); go_simp <;> with_reducible rfl
  try simp only [Act.put, List.getElem_toArray, List.getElem_cons_zero, List.getElem_cons_succ, List.setIfInBounds_toArray, List.set_cons_zero, List.set_cons_succ]
  refine wpAnyH_take (i := 2) (v := ?_) rfl (by kernel_rfl) (by kernel_rfl) (by kernel_rfl) (fun _ _ _ h => h) (Or.inl ⟨by rfl, ?_⟩) (by assumption) ?_
  rotate_left
  · intro w hSw; (try dsimp only at hSw); go_simp <;> with_reducible rfl
  try simp only [Act.put, List.getElem_toArray, List.getElem_cons_zero, List.getElem_cons_succ, List.setIfInBounds_toArray, List.set_cons_zero, List.set_cons_succ]
  refine wpAnyH_take (i := 3) (v := ?_) rfl (by kernel_rfl) (by kernel_rfl) (by kernel_rfl) (fun _ _ _ h => h) (Or.inl ⟨by rfl, ?_⟩) (by assumption) ?_
  rotate_left
  · intro w hSw; (try dsimp only at hSw); go_simp <;> with_reducible rfl
  try simp only [Act.put, List.getElem_toArray, List.getElem_cons_zero, List.getElem_cons_succ, List.setIfInBounds_toArray, List.set_cons_zero, List.set_cons_succ]
  refine wpAnyH_take (i := 4) (v := ?_) rfl (by kernel_rfl) (by kernel_rfl) (by kernel_rfl) (fun _ _ _ h => h) (Or.inl ⟨by rfl, ?_⟩) (by assumption) ?_
  rotate_left
  · intro w hSw; (try dsimp only at hSw); go_simp <;> with_reducible rfl
  try simp only [Act.put, List.getElem_toArray, List.getElem_cons_zero, List.getElem_cons_succ, List.setIfInBounds_toArray, List.set_cons_zero, List.set_cons_succ]
  refine wpAnyH_take (i := 5) (v := ?_) rfl (by kernel_rfl) (by kernel_rfl) (by kernel_rfl) (fun _ _ _ h => h) (Or.inl ⟨by rfl, ?_⟩) (by assumption) ?_
  rotate_left
  · intro w hSw; (try dsimp only at hSw); go_simp <;> with_reducible rfl
  try simp only [Act.put, List.getElem_toArray, List.getElem_cons_zero, List.getElem_cons_succ, List.setIfInBounds_toArray, List.set_cons_zero, List.set_cons_succ]
  refine wpAnyH_take (i := 6) (v := ?_) rfl (by kernel_rfl) (by kernel_rfl) (by kernel_rfl) (fun _ _ _ h => h) (Or.inl ⟨by rfl, ?_⟩) (by assumption) ?_
  rotate_left
  · intro w hSw; (try dsimp only at hSw); go_simp <;> with_reducible rfl
  try simp only [Act.put, List.getElem_toArray, List.getElem_cons_zero, List.getElem_cons_succ, List.setIfInBounds_toArray, List.set_cons_zero, List.set_cons_succ]
  refine wpAnyH_take (i := 7) (v := ?_) rfl (by kernel_rfl) (by kernel_rfl) (by kernel_rfl) (fun _ _ _ h => h) (Or.inl ⟨by rfl, ?_⟩) (by assumption) ?_
  rotate_left
  · intro w hSw; (try dsimp only at hSw); go_simp <;> with_reducible rfl
  try simp only [Act.put, List.getElem_toArray, List.getElem_cons_zero, List.getElem_cons_succ, List.setIfInBounds_toArray, List.set_cons_zero, List.set_cons_succ]
  refine wpAnyH_take (i := 8) (v := ?_) rfl (by kernel_rfl) (by kernel_rfl) (by kernel_rfl) (fun _ _ _ h => h) (Or.inl ⟨by rfl, ?_⟩) (by assumption) ?_
  rotate_left
  · intro w hSw; (try dsimp only at hSw); go_simp <;> with_reducible rfl
  try simp only [Act.put, List.getElem_toArray, List.getElem_cons_zero, List.getElem_cons_succ, List.setIfInBounds_toArray, List.set_cons_zero, List.set_cons_succ]
  refine wpAnyH_take (i := 9) (v := ?_) rfl (by kernel_rfl) (by kernel_rfl) (by kernel_rfl) (fun _ _ _ h => h) (Or.inl ⟨by rfl, ?_⟩) (by assumption) ?_
  rotate_left
  · intro w hSw; (try dsimp only at hSw); go_simp <;> with_reducible rfl
  try simp only [Act.put, List.getElem_toArray, List.getElem_cons_zero, List.getElem_cons_succ, List.setIfInBounds_toArray, List.set_cons_zero, List.set_cons_succ]
  obtain ⟨w1, hw1, k1, bI⟩ : ∃ w1, wd.alloc (.cells #[.int .i64 0, .int .i64 0, .int .i64 0, .bool false, .int .i64 0, .string ⟨#[]⟩, .int .i64 0, .bool false, .int .i64 0, .string ⟨#[]⟩, .int .i64 0, .int .i64 0] 37) = w1 ∧ Kp [] wd w1 ∧ Bx w1 wd.heap.size [.int .i64 0, .int .i64 0, .int .i64 0, .bool false, .int .i64 0, .string ⟨#[]⟩, .int .i64 0, .bool false, .int .i64 0, .string ⟨#[]⟩, .int .i64 0, .int .i64 0] := ⟨_, rfl, (Kp.refl _ _).alloc _, Bx.new wd _ _⟩
  obtain ⟨qi, hqi⟩ : ∃ q, Hid (wd.heap.size = q) := ⟨_, rfl⟩
  have hne : q ≠ qi := by rw [← hqi.out]; have := hbd.out.lt (by simp); omega
  have hqiw : w.heap.size ≤ qi := by rw [← hqi.out]; exact kwd.out.size
  rw [hqi.out] at bI
  have hw1' := hid hw1
  have hbI := hid bI
  have k1' := hid k1
  clear hw1 bI k1
  refine wpAnyH_ready (rs := [10]) (by kernel_rfl) (by simp) ?_
  refine AllReadyH.cons rfl (fun K hK => ?_) AllReadyH.nil
  go_simp
  rw [hw1'.out, hqi.out]
  refine hK.out _ _ ?_ (fun hHeld => ?_)
  · exact hS.out _ (hkd.out.trans k1'.out (by simp))
  clear hK K
  try simp only [Act.put, List.getElem_toArray, List.getElem_cons_zero, List.getElem_cons_succ, List.setIfInBounds_toArray, List.set_cons_zero, List.set_cons_succ]
  have p0 := hbI.out.get 0 _ rfl; have f0 := hbI.out.free 0
  have p1 := hbI.out.get 1 _ rfl; have f1 := hbI.out.free 1
  have p2 := hbI.out.get 2 _ rfl; have f2 := hbI.out.free 2
  have p3 := hbI.out.get 3 _ rfl; have f3 := hbI.out.free 3
  have p4 := hbI.out.get 4 _ rfl; have f4 := hbI.out.free 4
  have p5 := hbI.out.get 5 _ rfl; have f5 := hbI.out.free 5
  have p6 := hbI.out.get 6 _ rfl; have f6 := hbI.out.free 6
  have p7 := hbI.out.get 7 _ rfl; have f7 := hbI.out.free 7
  have p8 := hbI.out.get 8 _ rfl; have f8 := hbI.out.free 8
  have p9 := hbI.out.get 9 _ rfl; have f9 := hbI.out.free 9
  have p10 := hbI.out.get 10 _ rfl; have f10 := hbI.out.free 10
  have p11 := hbI.out.get 11 _ rfl; have f11 := hbI.out.free 11
  obtain ⟨W, hW, bW, kW⟩ : ∃ Y9, ((((((((((((w1.setCell ⟨qi, 0, none⟩ (.int .i64 k)).setCell ⟨qi, 1, none⟩ (.int .i64 (l.length : Int))).setCell ⟨qi, 2, none⟩ (.int .i64 zk)).setCell ⟨qi, 3, none⟩ (.bool zb)).setCell ⟨qi, 4, none⟩ (.int .i64 zn)).setCell ⟨qi, 5, none⟩ (.string zt)).setCell ⟨qi, 6, none⟩ (.int .i64 zk)).setCell ⟨qi, 7, none⟩ (.bool zb)).setCell ⟨qi, 8, none⟩ (.int .i64 zn)).setCell ⟨qi, 9, none⟩ (.string zt)).setCell ⟨qi, 10, none⟩ (.int .i64 0)).setCell ⟨qi, 11, none⟩ (.int .i64 0)) = Y9 ∧ Bx Y9 qi [.int .i64 k, .int .i64 (l.length : Int), .int .i64 zk, .bool zb, .int .i64 zn, .string zt, .int .i64 zk, .bool zb, .int .i64 zn, .string zt, .int .i64 0, .int .i64 0] ∧ Kp [qi] w1 Y9 := ⟨_, rfl, gen12q (R := fun Y9 => Bx Y9 qi [.int .i64 k, .int .i64 (l.length : Int), .int .i64 zk, .bool zb, .int .i64 zn, .string zt, .int .i64 zk, .bool zb, .int .i64 zn, .string zt, .int .i64 0, .int .i64 0]) hbI.out rfl (.int .i64 k) (.int .i64 (l.length : Int)) (.int .i64 zk) (.bool zb) (.int .i64 zn) (.string zt) (.int .i64 zk) (.bool zb) (.int .i64 zn) (.string zt) (.int .i64 0) (.int .i64 0) (fun Y9 b _ => b), gen12q (R := fun Y9 => Kp [qi] w1 Y9) hbI.out rfl (.int .i64 k) (.int .i64 (l.length : Int)) (.int .i64 zk) (.bool zb) (.int .i64 zn) (.string zt) (.int .i64 zk) (.bool zb) (.int .i64 zn) (.string zt) (.int .i64 0) (.int .i64 0) (fun Y9 _ k => k)⟩
  have hW' := hid hW
  refine wpAnyH_ready (rs := [11]) (by kernel_rfl) (by simp) ?_
  refine AllReadyH.cons rfl (fun K hK => ?_) AllReadyH.nil
  go_simp
  refine hK.out _ _ ?_ (fun hHeld => ?_)
  · exact hS.out _ ((hkd.out.trans k1'.out (by simp)).trans kW (fun x hx => .inr (by simp at hx; have := hkd.out.size; rw [hx, ← hqi.out]; omega)))
  clear hK K
  try simp only [Act.put, List.getElem_toArray, List.getElem_cons_zero, List.getElem_cons_succ, List.setIfInBounds_toArray, List.set_cons_zero, List.set_cons_succ]
  refine wpAnyH_done (by kernel_rfl) ?_ _
  have kwW := hid (((kwd.out.trans k1'.out (by simp)).trans kW (fun x hx => .inr (by simp at hx; omega))))
  have bRW := hid ((hbd.out.kept k1'.out (by simp) (hbd.out.lt (by simp))).kept kW (by simpa using hne) (by have := hbd.out.lt (by simp); have := k1'.out.size; omega))
  have hbW := hid bW
  clear p0 f0 p1 f1 p2 f2 p3 f3 p4 f4 p5 f5 p6 f6 p7 f7 p8 f8 p9 f9 p10 f10 p11 f11 hHeld hW hW' bW kW hS hbd hkd hbI hw1' k1' kwd hat0
  go_wp2_with fail
  go_loopw [6] (fun i wn => ∃ (j n : Nat) (m x : Val), j ≤ l.length ∧ i = .int .i64 (j : Int) ∧ Hid (minTo l (j - 1) = m) ∧ Hid (maxTo l (j - 1) = x) ∧ Hid (nullsV (l.take j) = n) ∧ n ≤ j ∧ Kp [] w wn ∧ Bx wn q [.int .i64 0, .int .i64 0, .int .i64 0, .bool false, .int .i64 0, .string ⟨#[]⟩, .int .i64 0, .bool false, .int .i64 0, .string ⟨#[]⟩, .int .i64 0, .int .i64 0] ∧ Bx wn qi [.int .i64 k, .int .i64 (l.length : Int), .int .i64 m.k, .bool m.b, .int .i64 m.n, .string m.t, .int .i64 x.k, .bool x.b, .int .i64 x.n, .string x.t, .int .i64 (n : Int), .int .i64 0]) (fun i _ => l.length - (intOf i).toNat)
  case atStart => exact ⟨0, 0, ⟨zk, zb, zn, zt⟩, ⟨zk, zb, zn, zt⟩, Nat.zero_le _, rfl, hm0, hx0, by show _ = _; simp [nullsV], Nat.le_refl _, kwW.out, bRW.out, hbW.out⟩
  case round =>
    clear kwW bRW hbW hm0 hx0
    obtain ⟨j, n, ⟨mk, mb, mn, mt⟩, ⟨xk, xb, xn, xt⟩, hj, rfl, hm, hx, hn, hnj, kn, bR, bQ⟩ := hrel
    dsimp only at bQ
    by_cases hlt : j < l.length
    · have hcy := hid (fun W kW => hat.out W kW j hlt)
      have hsm := hid (min_step l j)
      have hsx := hid (max_step l j)
      have hsn := hid (hnul.out j hlt)
      rw [hm.out] at hsm
      rw [hx.out] at hsx
      rw [hn.out] at hsn
      obtain ⟨⟨yk, yb, yn, yt⟩, hy⟩ : ∃ y, Hid (l.getD j nv = y) := ⟨_, rfl⟩
      rw [hy.out] at hsm hsx hsn
      simp only [hy.out] at hcy
      dsimp only at hsn
      have hCm := hid (fun W => cRefCompare ⟨yk, yb, yn, yt⟩ ⟨mk, mb, mn, mt⟩ W)
      have hCx := hid (fun W => cRefCompare ⟨yk, yb, yn, yt⟩ ⟨xk, xb, xn, xt⟩ W)
      obtain ⟨Cm, hcm⟩ : ∃ C, Hid (cmpV ⟨yk, yb, yn, yt⟩ ⟨mk, mb, mn, mt⟩ = C) := ⟨_, rfl⟩
      obtain ⟨Cx, hcx⟩ : ∃ C, Hid (cmpV ⟨yk, yb, yn, yt⟩ ⟨xk, xb, xn, xt⟩ = C) := ⟨_, rfl⟩
      simp only [hcm.out] at hCm hsm
      simp only [hcx.out] at hCx hsx
      unfold Val.v at hCm hCx
      dsimp only at hCm hCx hcy
      have djl : (j : Int) < (l.length : Int) := by omega
      have d00 : (0 : Int) ≤ (j : Int) := by omega
      have hbQ := hid bQ
      have hbR := hid bR
      have hkn := hid kn
      clear bQ bR kn hm hx hn hy hcm hcx
      go_wp2_with fail
      have kd : Kp [] wr wr.drew := (Kp.refl _ _).drew
      have hS : Hid (∀ A, Kp [] wr A → (A.cell? ⟨g, o + j * 4, none⟩ = some (.int .i64 yk) ∧ A.cell? ⟨g, o + j * 4 + 1, none⟩ = some (.bool yb) ∧ A.cell? ⟨g, o + j * 4 + 2, none⟩ = some (.int .i64 yn) ∧ A.cell? ⟨g, o + j * 4 + 3, none⟩ = some (.string yt)) ∧ (A.cell? ⟨qi, 2, none⟩ = some (.int .i64 mk) ∧ A.cell? ⟨qi, 3, none⟩ = some (.bool mb) ∧ A.cell? ⟨qi, 4, none⟩ = some (.int .i64 mn) ∧ A.cell? ⟨qi, 5, none⟩ = some (.string mt))) := fun A kA => ⟨hcy.out A (hkn.out.trans kA (by simp)), (hbQ.out.kept kA (by simp) (hbQ.out.lt (by simp))).get 2 _ rfl, (hbQ.out.kept kA (by simp) (hbQ.out.lt (by simp))).get 3 _ rfl, (hbQ.out.kept kA (by simp) (hbQ.out.lt (by simp))).get 4 _ rfl, (hbQ.out.kept kA (by simp) (hbQ.out.lt (by simp))).get 5 _ rfl⟩
      refine wp_region_held_drew (S := (fun A => (A.cell? ⟨g, o + j * 4, none⟩ = some (.int .i64 yk) ∧ A.cell? ⟨g, o + j * 4 + 1, none⟩ = some (.bool yb) ∧ A.cell? ⟨g, o + j * 4 + 2, none⟩ = some (.int .i64 yn) ∧ A.cell? ⟨g, o + j * 4 + 3, none⟩ = some (.string yt)) ∧ (A.cell? ⟨qi, 2, none⟩ = some (.int .i64 mk) ∧ A.cell? ⟨qi, 3, none⟩ = some (.bool mb) ∧ A.cell? ⟨qi, 4, none⟩ = some (.int .i64 mn) ∧ A.cell? ⟨qi, 5, none⟩ = some (.string mt)))) (by kernel_rfl) ?_ (fun hHeld => ?_)
      · exact hS.out _ kd
      have kdr := hid kd
      clear kd hHeld
      have hHeld := hS.out _ kdr.out
      generalize wr.drew = wd at *
      refine wpAnyH_take (i := 0) (v := ?_) rfl (by kernel_rfl) (by kernel_rfl) (by kernel_rfl) (fun _ _ _ h => h) (Or.inl ⟨by rfl, ?_⟩) (by assumption) ?_
      rotate_left
      · intro w hSw; (try dsimp only at hSw); go_simp <;> with_reducible rfl
      try simp only [Act.put, List.getElem_toArray, List.getElem_cons_zero, List.getElem_cons_succ, List.setIfInBounds_toArray, List.set_cons_zero, List.set_cons_succ]
      refine wpAnyH_take (i := 1) (v := ?_) rfl (by kernel_rfl) (by kernel_rfl) (by kernel_rfl) (fun _ _ _ h => h) (Or.inl ⟨by rfl, ?_⟩) (by assumption) ?_
      rotate_left
      · intro w hSw; (try dsimp only at hSw); go_simp <;> with_reducible rfl
      try simp only [Act.put, List.getElem_toArray, List.getElem_cons_zero, List.getElem_cons_succ, List.setIfInBounds_toArray, List.set_cons_zero, List.set_cons_succ]
      refine wpAnyH_take (i := 2) (v := ?_) rfl (by kernel_rfl) (by kernel_rfl) (by kernel_rfl) (fun _ _ _ h => h) (Or.inl ⟨by rfl, ?_⟩) (by assumption) ?_
      rotate_left
      · intro w hSw; (try dsimp only at hSw); go_simp <;> with_reducible rfl
      try simp only [Act.put, List.getElem_toArray, List.getElem_cons_zero, List.getElem_cons_succ, List.setIfInBounds_toArray, List.set_cons_zero, List.set_cons_succ]
      refine wpAnyH_take (i := 3) (v := ?_) rfl (by kernel_rfl) (by kernel_rfl) (by kernel_rfl) (fun _ _ _ h => h) (Or.inl ⟨by rfl, ?_⟩) (by assumption) ?_
      rotate_left
      · intro w hSw; (try dsimp only at hSw); go_simp <;> with_reducible rfl
      try simp only [Act.put, List.getElem_toArray, List.getElem_cons_zero, List.getElem_cons_succ, List.setIfInBounds_toArray, List.set_cons_zero, List.set_cons_succ]
      refine wpAnyH_take (i := 4) (v := ?_) rfl (by kernel_rfl) (by kernel_rfl) (by kernel_rfl) (fun _ _ _ h => h) (Or.inl ⟨by rfl, ?_⟩) (by assumption) ?_
      rotate_left
      · intro w hSw; (try dsimp only at hSw); go_simp <;> with_reducible rfl
      try simp only [Act.put, List.getElem_toArray, List.getElem_cons_zero, List.getElem_cons_succ, List.setIfInBounds_toArray, List.set_cons_zero, List.set_cons_succ]
      refine wpAnyH_take (i := 5) (v := ?_) rfl (by kernel_rfl) (by kernel_rfl) (by kernel_rfl) (fun _ _ _ h => h) (Or.inl ⟨by rfl, ?_⟩) (by assumption) ?_
      rotate_left
      · intro w hSw; (try dsimp only at hSw); go_simp <;> with_reducible rfl
      try simp only [Act.put, List.getElem_toArray, List.getElem_cons_zero, List.getElem_cons_succ, List.setIfInBounds_toArray, List.set_cons_zero, List.set_cons_succ]
      refine wpAnyH_ready (rs := [6]) (by kernel_rfl) (by simp) ?_
      refine AllReadyH.cons rfl (fun K hK => ?_) AllReadyH.nil
      go_simp
      refine (hCm.out wd).mono ?_
      rintro e w2 ⟨rfl, k2⟩
      (try go_wp2_with fail)
      refine hK.out _ _ ?_ (fun hHeld => ?_)
      · exact hS.out _ (kdr.out.trans k2 (by simp))
      clear hK K
      try simp only [Act.put, List.getElem_toArray, List.getElem_cons_zero, List.getElem_cons_succ, List.setIfInBounds_toArray, List.set_cons_zero, List.set_cons_succ]
      refine wpAnyH_take (i := 7) (v := ?_) rfl (by kernel_rfl) (by kernel_rfl) (by kernel_rfl) (fun _ _ _ h => h) (Or.inl ⟨by rfl, ?_⟩) (by assumption) ?_
      rotate_left
      · intro w hSw; (try dsimp only at hSw); go_simp <;> with_reducible rfl
      try simp only [Act.put, List.getElem_toArray, List.getElem_cons_zero, List.getElem_cons_succ, List.setIfInBounds_toArray, List.set_cons_zero, List.set_cons_succ]
      refine wpAnyH_done (by kernel_rfl) ?_ _
      have kw2 : Kp [] wr w2 := kdr.out.trans k2 (by simp)
      have hkn2 := hid (hkn.out.trans kw2 (by simp))
      have hbQ2 := hid (hbQ.out.kept kw2 (by simp) (hbQ.out.lt (by simp)))
      have hbR2 := hid (hbR.out.kept kw2 (by simp) (hbR.out.lt (by simp)))
      clear hHeld hS kdr k2 hkn hbQ hbR kw2
      have hkn := hkn2
      have hbQ := hbQ2
      have hbR := hbR2
      clear hkn2 hbQ2 hbR2
      by_cases hcc : Cm < 0
      · have hmN : Hid (minTo l (j + 1 - 1) = ⟨yk, yb, yn, yt⟩) := by show _ = _; rw [hsm.out, if_pos hcc]
        clear hsm
        obtain ⟨y0, y1, y2, y3⟩ := hcy.out w2 hkn.out
        have e0 := hbQ.out.get 2 _ rfl; have ef0 := hbQ.out.free 2
        have e1 := hbQ.out.get 3 _ rfl; have ef1 := hbQ.out.free 3
        have e2 := hbQ.out.get 4 _ rfl; have ef2 := hbQ.out.free 4
        have e3 := hbQ.out.get 5 _ rfl; have ef3 := hbQ.out.free 5
        go_wp2_with fail
        refine genS4 (R := fun W => Code.wp _ _ _ _ W) hbQ.out 2 3 4 5 (by simp) (by simp) (by simp) (by simp) _ _ _ _ ?_
        intro w3 bI kI
        have hkn2 := hid (hkn.out.trans kI (fun x hx => .inr (by simp at hx; omega)))
        have hbR2 := hid (hbR.out.kept kI (by simpa using hne) (hbR.out.lt (by simp)))
        have hbQ2 := hid (show Bx w3 qi [.int .i64 k, .int .i64 (l.length : Int), .int .i64 yk, .bool yb, .int .i64 yn, .string yt, .int .i64 xk, .bool xb, .int .i64 xn, .string xt, .int .i64 (n : Int), .int .i64 0] from bI)
        clear y0 y1 y2 y3 e0 e1 e2 e3 ef0 ef1 ef2 ef3 hkn hbQ hbR bI kI
        have hkn := hkn2
        have hbQ := hbQ2
        have hbR := hbR2
        clear hkn2 hbQ2 hbR2
        have kd : Kp [] w3 w3.drew := (Kp.refl _ _).drew
        have hS : Hid (∀ A, Kp [] w3 A → (A.cell? ⟨g, o + j * 4, none⟩ = some (.int .i64 yk) ∧ A.cell? ⟨g, o + j * 4 + 1, none⟩ = some (.bool yb) ∧ A.cell? ⟨g, o + j * 4 + 2, none⟩ = some (.int .i64 yn) ∧ A.cell? ⟨g, o + j * 4 + 3, none⟩ = some (.string yt)) ∧ (A.cell? ⟨qi, 6, none⟩ = some (.int .i64 xk) ∧ A.cell? ⟨qi, 7, none⟩ = some (.bool xb) ∧ A.cell? ⟨qi, 8, none⟩ = some (.int .i64 xn) ∧ A.cell? ⟨qi, 9, none⟩ = some (.string xt))) := fun A kA => ⟨hcy.out A (hkn.out.trans kA (by simp)), (hbQ.out.kept kA (by simp) (hbQ.out.lt (by simp))).get 6 _ rfl, (hbQ.out.kept kA (by simp) (hbQ.out.lt (by simp))).get 7 _ rfl, (hbQ.out.kept kA (by simp) (hbQ.out.lt (by simp))).get 8 _ rfl, (hbQ.out.kept kA (by simp) (hbQ.out.lt (by simp))).get 9 _ rfl⟩
        refine wp_region_held_drew (S := (fun A => (A.cell? ⟨g, o + j * 4, none⟩ = some (.int .i64 yk) ∧ A.cell? ⟨g, o + j * 4 + 1, none⟩ = some (.bool yb) ∧ A.cell? ⟨g, o + j * 4 + 2, none⟩ = some (.int .i64 yn) ∧ A.cell? ⟨g, o + j * 4 + 3, none⟩ = some (.string yt)) ∧ (A.cell? ⟨qi, 6, none⟩ = some (.int .i64 xk) ∧ A.cell? ⟨qi, 7, none⟩ = some (.bool xb) ∧ A.cell? ⟨qi, 8, none⟩ = some (.int .i64 xn) ∧ A.cell? ⟨qi, 9, none⟩ = some (.string xt)))) (by kernel_rfl) ?_ (fun hHeld => ?_)
        · exact hS.out _ kd
        have kdr := hid kd
        clear kd hHeld
        have hHeld := hS.out _ kdr.out
        generalize w3.drew = wd at *
        refine wpAnyH_take (i := 0) (v := ?_) rfl (by kernel_rfl) (by kernel_rfl) (by kernel_rfl) (fun _ _ _ h => h) (Or.inl ⟨by rfl, ?_⟩) (by assumption) ?_
        rotate_left
        · intro w hSw; (try dsimp only at hSw); go_simp <;> with_reducible rfl
        try simp only [Act.put, List.getElem_toArray, List.getElem_cons_zero, List.getElem_cons_succ, List.setIfInBounds_toArray, List.set_cons_zero, List.set_cons_succ]
        refine wpAnyH_take (i := 1) (v := ?_) rfl (by kernel_rfl) (by kernel_rfl) (by kernel_rfl) (fun _ _ _ h => h) (Or.inl ⟨by rfl, ?_⟩) (by assumption) ?_
        rotate_left
        · intro w hSw; (try dsimp only at hSw); go_simp <;> with_reducible rfl
        try simp only [Act.put, List.getElem_toArray, List.getElem_cons_zero, List.getElem_cons_succ, List.setIfInBounds_toArray, List.set_cons_zero, List.set_cons_succ]
        refine wpAnyH_take (i := 2) (v := ?_) rfl (by kernel_rfl) (by kernel_rfl) (by kernel_rfl) (fun _ _ _ h => h) (Or.inl ⟨by rfl, ?_⟩) (by assumption) ?_
        rotate_left
        · intro w hSw; (try dsimp only at hSw); go_simp <;> with_reducible rfl
        try simp only [Act.put, List.getElem_toArray, List.getElem_cons_zero, List.getElem_cons_succ, List.setIfInBounds_toArray, List.set_cons_zero, List.set_cons_succ]
        refine wpAnyH_take (i := 3) (v := ?_) rfl (by kernel_rfl) (by kernel_rfl) (by kernel_rfl) (fun _ _ _ h => h) (Or.inl ⟨by rfl, ?_⟩) (by assumption) ?_
        rotate_left
        · intro w hSw; (try dsimp only at hSw); go_simp <;> with_reducible rfl
        try simp only [Act.put, List.getElem_toArray, List.getElem_cons_zero, List.getElem_cons_succ, List.setIfInBounds_toArray, List.set_cons_zero, List.set_cons_succ]
        refine wpAnyH_take (i := 4) (v := ?_) rfl (by kernel_rfl) (by kernel_rfl) (by kernel_rfl) (fun _ _ _ h => h) (Or.inl ⟨by rfl, ?_⟩) (by assumption) ?_
        rotate_left
        · intro w hSw; (try dsimp only at hSw); go_simp <;> with_reducible rfl
        try simp only [Act.put, List.getElem_toArray, List.getElem_cons_zero, List.getElem_cons_succ, List.setIfInBounds_toArray, List.set_cons_zero, List.set_cons_succ]
        refine wpAnyH_take (i := 5) (v := ?_) rfl (by kernel_rfl) (by kernel_rfl) (by kernel_rfl) (fun _ _ _ h => h) (Or.inl ⟨by rfl, ?_⟩) (by assumption) ?_
        rotate_left
        · intro w hSw; (try dsimp only at hSw); go_simp <;> with_reducible rfl
        try simp only [Act.put, List.getElem_toArray, List.getElem_cons_zero, List.getElem_cons_succ, List.setIfInBounds_toArray, List.set_cons_zero, List.set_cons_succ]
        refine wpAnyH_ready (rs := [6]) (by kernel_rfl) (by simp) ?_
        refine AllReadyH.cons rfl (fun K hK => ?_) AllReadyH.nil
        go_simp
        refine (hCx.out wd).mono ?_
        rintro e w4a ⟨rfl, k2⟩
        (try go_wp2_with fail)
        refine hK.out _ _ ?_ (fun hHeld => ?_)
        · exact hS.out _ (kdr.out.trans k2 (by simp))
        clear hK K
        try simp only [Act.put, List.getElem_toArray, List.getElem_cons_zero, List.getElem_cons_succ, List.setIfInBounds_toArray, List.set_cons_zero, List.set_cons_succ]
        refine wpAnyH_take (i := 7) (v := ?_) rfl (by kernel_rfl) (by kernel_rfl) (by kernel_rfl) (fun _ _ _ h => h) (Or.inl ⟨by rfl, ?_⟩) (by assumption) ?_
        rotate_left
        · intro w hSw; (try dsimp only at hSw); go_simp <;> with_reducible rfl
        try simp only [Act.put, List.getElem_toArray, List.getElem_cons_zero, List.getElem_cons_succ, List.setIfInBounds_toArray, List.set_cons_zero, List.set_cons_succ]
        refine wpAnyH_done (by kernel_rfl) ?_ _
        have kw4a : Kp [] w3 w4a := kdr.out.trans k2 (by simp)
        have hkn2 := hid (hkn.out.trans kw4a (by simp))
        have hbQ2 := hid (hbQ.out.kept kw4a (by simp) (hbQ.out.lt (by simp)))
        have hbR2 := hid (hbR.out.kept kw4a (by simp) (hbR.out.lt (by simp)))
        clear hHeld hS kdr k2 hkn hbQ hbR kw4a
        have hkn := hkn2
        have hbQ := hbQ2
        have hbR := hbR2
        clear hkn2 hbQ2 hbR2
        by_cases hcc2 : 0 < Cx
        · have hxN : Hid (maxTo l (j + 1 - 1) = ⟨yk, yb, yn, yt⟩) := by show _ = _; rw [hsx.out, if_pos hcc2]
          have hcc2b : Cx > 0 := hcc2
          clear hsx
          obtain ⟨y0, y1, y2, y3⟩ := hcy.out w4a hkn.out
          have e0 := hbQ.out.get 6 _ rfl; have ef0 := hbQ.out.free 6
          have e1 := hbQ.out.get 7 _ rfl; have ef1 := hbQ.out.free 7
          have e2 := hbQ.out.get 8 _ rfl; have ef2 := hbQ.out.free 8
          have e3 := hbQ.out.get 9 _ rfl; have ef3 := hbQ.out.free 9
          obtain ⟨w5a, hw5a, bI, kI⟩ : ∃ Y9, ((((w4a.setCell ⟨qi, 6, none⟩ (.int .i64 yk)).setCell ⟨qi, 7, none⟩ (.bool yb)).setCell ⟨qi, 8, none⟩ (.int .i64 yn)).setCell ⟨qi, 9, none⟩ (.string yt)) = Y9 ∧ Bx Y9 qi [.int .i64 k, .int .i64 (l.length : Int), .int .i64 yk, .bool yb, .int .i64 yn, .string yt, .int .i64 yk, .bool yb, .int .i64 yn, .string yt, .int .i64 (n : Int), .int .i64 0] ∧ Kp [qi] w4a Y9 := ⟨_, rfl, genS4 (R := fun Y9 => Bx Y9 qi [.int .i64 k, .int .i64 (l.length : Int), .int .i64 yk, .bool yb, .int .i64 yn, .string yt, .int .i64 yk, .bool yb, .int .i64 yn, .string yt, .int .i64 (n : Int), .int .i64 0]) hbQ.out 6 7 8 9 (by simp) (by simp) (by simp) (by simp) (.int .i64 yk) (.bool yb) (.int .i64 yn) (.string yt) (fun Y9 b _ => b), genS4 (R := fun Y9 => Kp [qi] w4a Y9) hbQ.out 6 7 8 9 (by simp) (by simp) (by simp) (by simp) (.int .i64 yk) (.bool yb) (.int .i64 yn) (.string yt) (fun Y9 _ k => k)⟩
          have hkn2 := hid (hkn.out.trans kI (fun x hx => .inr (by simp at hx; omega)))
          have hbR2 := hid (hbR.out.kept kI (by simpa using hne) (hbR.out.lt (by simp)))
          have hbQ2 := hid bI
          clear hkn hbQ hbR bI kI
          have hkn := hkn2
          have hbQ := hbQ2
          have hbR := hbR2
          clear hkn2 hbQ2 hbR2
          obtain ⟨s0, _, _, _⟩ := hcy.out w5a hkn.out
          have hkN := hid hkn.out
          by_cases hv0 : yk = 0
          · have d0 : (yk == 0) = true := by simpa using hv0
            have hst2 : Hid (nullsV (l.take (j + 1)) = n + 1) := by show _ = _; rw [hsn.out, if_pos hv0]
            clear hv0
            have c10 := hbQ.out.get 10 _ rfl
            have f10 := hbQ.out.free 10
            have hB := hbQ.out.set 10 (by simp) (.int .i64 ((n : Int) + 1))
            have kS : Kp [qi] w5a (w5a.setCell ⟨qi, 10, none⟩ (.int .i64 ((n : Int) + 1))) := (Kp.refl [qi] w5a).setCell (p := ⟨qi, 10, none⟩) (.inl (by simp)) _
            have hA := hbR.out.kept kS (by simpa using hne) (hbR.out.lt (by simp))
            have kW := hkn.out.trans kS (fun x hx => .inr (by simp at hx; omega))
            have hN := hid (And.intro kW (And.intro hA hB))
            clear hsn hB hA kS kW
            go_wp2_with fail
            exact ⟨⟨j + 1, n + 1, ⟨yk, yb, yn, yt⟩, ⟨yk, yb, yn, yt⟩, by omega, by go_num, hmN, hxN, hst2, by omega, hN.out.1, hN.out.2.1, hN.out.2.2⟩, by simp [intOf]; omega⟩
          · have hst2 : Hid (nullsV (l.take (j + 1)) = n) := by show _ = _; rw [hsn.out, if_neg hv0]; rfl
            have d0 : (yk == 0) = false := by simpa using hv0
            clear hsn
            go_wp2_with fail
            exact ⟨⟨j + 1, n, ⟨yk, yb, yn, yt⟩, ⟨yk, yb, yn, yt⟩, by omega, by go_num, hmN, hxN, hst2, by omega, hkn.out, hbR.out, hbQ.out⟩, by simp [intOf]; omega⟩
        · have hxN : Hid (maxTo l (j + 1 - 1) = ⟨xk, xb, xn, xt⟩) := by show _ = _; rw [hsx.out, if_neg hcc2]
          clear hsx
          obtain ⟨s0, _, _, _⟩ := hcy.out w4a hkn.out
          have hkN := hid hkn.out
          by_cases hv0 : yk = 0
          · have d0 : (yk == 0) = true := by simpa using hv0
            have hst2 : Hid (nullsV (l.take (j + 1)) = n + 1) := by show _ = _; rw [hsn.out, if_pos hv0]
            clear hv0
            have c10 := hbQ.out.get 10 _ rfl
            have f10 := hbQ.out.free 10
            have hB := hbQ.out.set 10 (by simp) (.int .i64 ((n : Int) + 1))
            have kS : Kp [qi] w4a (w4a.setCell ⟨qi, 10, none⟩ (.int .i64 ((n : Int) + 1))) := (Kp.refl [qi] w4a).setCell (p := ⟨qi, 10, none⟩) (.inl (by simp)) _
            have hA := hbR.out.kept kS (by simpa using hne) (hbR.out.lt (by simp))
            have kW := hkn.out.trans kS (fun x hx => .inr (by simp at hx; omega))
            have hN := hid (And.intro kW (And.intro hA hB))
            clear hsn hB hA kS kW
            go_wp2_with fail
            exact ⟨⟨j + 1, n + 1, ⟨yk, yb, yn, yt⟩, ⟨xk, xb, xn, xt⟩, by omega, by go_num, hmN, hxN, hst2, by omega, hN.out.1, hN.out.2.1, hN.out.2.2⟩, by simp [intOf]; omega⟩
          · have hst2 : Hid (nullsV (l.take (j + 1)) = n) := by show _ = _; rw [hsn.out, if_neg hv0]; rfl
            have d0 : (yk == 0) = false := by simpa using hv0
            clear hsn
            go_wp2_with fail
            exact ⟨⟨j + 1, n, ⟨yk, yb, yn, yt⟩, ⟨xk, xb, xn, xt⟩, by omega, by go_num, hmN, hxN, hst2, by omega, hkn.out, hbR.out, hbQ.out⟩, by simp [intOf]; omega⟩
      · have hmN : Hid (minTo l (j + 1 - 1) = ⟨mk, mb, mn, mt⟩) := by show _ = _; rw [hsm.out, if_neg hcc]
        clear hsm
        go_wp2_with fail
        have kd : Kp [] w2 w2.drew := (Kp.refl _ _).drew
        have hS : Hid (∀ A, Kp [] w2 A → (A.cell? ⟨g, o + j * 4, none⟩ = some (.int .i64 yk) ∧ A.cell? ⟨g, o + j * 4 + 1, none⟩ = some (.bool yb) ∧ A.cell? ⟨g, o + j * 4 + 2, none⟩ = some (.int .i64 yn) ∧ A.cell? ⟨g, o + j * 4 + 3, none⟩ = some (.string yt)) ∧ (A.cell? ⟨qi, 6, none⟩ = some (.int .i64 xk) ∧ A.cell? ⟨qi, 7, none⟩ = some (.bool xb) ∧ A.cell? ⟨qi, 8, none⟩ = some (.int .i64 xn) ∧ A.cell? ⟨qi, 9, none⟩ = some (.string xt))) := fun A kA => ⟨hcy.out A (hkn.out.trans kA (by simp)), (hbQ.out.kept kA (by simp) (hbQ.out.lt (by simp))).get 6 _ rfl, (hbQ.out.kept kA (by simp) (hbQ.out.lt (by simp))).get 7 _ rfl, (hbQ.out.kept kA (by simp) (hbQ.out.lt (by simp))).get 8 _ rfl, (hbQ.out.kept kA (by simp) (hbQ.out.lt (by simp))).get 9 _ rfl⟩
        refine wp_region_held_drew (S := (fun A => (A.cell? ⟨g, o + j * 4, none⟩ = some (.int .i64 yk) ∧ A.cell? ⟨g, o + j * 4 + 1, none⟩ = some (.bool yb) ∧ A.cell? ⟨g, o + j * 4 + 2, none⟩ = some (.int .i64 yn) ∧ A.cell? ⟨g, o + j * 4 + 3, none⟩ = some (.string yt)) ∧ (A.cell? ⟨qi, 6, none⟩ = some (.int .i64 xk) ∧ A.cell? ⟨qi, 7, none⟩ = some (.bool xb) ∧ A.cell? ⟨qi, 8, none⟩ = some (.int .i64 xn) ∧ A.cell? ⟨qi, 9, none⟩ = some (.string xt)))) (by kernel_rfl) ?_ (fun hHeld => ?_)
        · exact hS.out _ kd
        have kdr := hid kd
        clear kd hHeld
        have hHeld := hS.out _ kdr.out
        generalize w2.drew = wd at *
        refine wpAnyH_take (i := 0) (v := ?_) rfl (by kernel_rfl) (by kernel_rfl) (by kernel_rfl) (fun _ _ _ h => h) (Or.inl ⟨by rfl, ?_⟩) (by assumption) ?_
        rotate_left
        · intro w hSw; (try dsimp only at hSw); go_simp <;> with_reducible rfl
        try simp only [Act.put, List.getElem_toArray, List.getElem_cons_zero, List.getElem_cons_succ, List.setIfInBounds_toArray, List.set_cons_zero, List.set_cons_succ]
        refine wpAnyH_take (i := 1) (v := ?_) rfl (by kernel_rfl) (by kernel_rfl) (by kernel_rfl) (fun _ _ _ h => h) (Or.inl ⟨by rfl, ?_⟩) (by assumption) ?_
        rotate_left
        · intro w hSw; (try dsimp only at hSw); go_simp <;> with_reducible rfl
        try simp only [Act.put, List.getElem_toArray, List.getElem_cons_zero, List.getElem_cons_succ, List.setIfInBounds_toArray, List.set_cons_zero, List.set_cons_succ]
        refine wpAnyH_take (i := 2) (v := ?_) rfl (by kernel_rfl) (by kernel_rfl) (by kernel_rfl) (fun _ _ _ h => h) (Or.inl ⟨by rfl, ?_⟩) (by assumption) ?_
        rotate_left
        · intro w hSw; (try dsimp only at hSw); go_simp <;> with_reducible rfl
        try simp only [Act.put, List.getElem_toArray, List.getElem_cons_zero, List.getElem_cons_succ, List.setIfInBounds_toArray, List.set_cons_zero, List.set_cons_succ]
        refine wpAnyH_take (i := 3) (v := ?_) rfl (by kernel_rfl) (by kernel_rfl) (by kernel_rfl) (fun _ _ _ h => h) (Or.inl ⟨by rfl, ?_⟩) (by assumption) ?_
        rotate_left
        · intro w hSw; (try dsimp only at hSw); go_simp <;> with_reducible rfl
        try simp only [Act.put, List.getElem_toArray, List.getElem_cons_zero, List.getElem_cons_succ, List.setIfInBounds_toArray, List.set_cons_zero, List.set_cons_succ]
        refine wpAnyH_take (i := 4) (v := ?_) rfl (by kernel_rfl) (by kernel_rfl) (by kernel_rfl) (fun _ _ _ h => h) (Or.inl ⟨by rfl, ?_⟩) (by assumption) ?_
        rotate_left
        · intro w hSw; (try dsimp only at hSw); go_simp <;> with_reducible rfl
        try simp only [Act.put, List.getElem_toArray, List.getElem_cons_zero, List.getElem_cons_succ, List.setIfInBounds_toArray, List.set_cons_zero, List.set_cons_succ]
        refine wpAnyH_take (i := 5) (v := ?_) rfl (by kernel_rfl) (by kernel_rfl) (by kernel_rfl) (fun _ _ _ h => h) (Or.inl ⟨by rfl, ?_⟩) (by assumption) ?_
        rotate_left
        · intro w hSw; (try dsimp only at hSw); go_simp <;> with_reducible rfl
        try simp only [Act.put, List.getElem_toArray, List.getElem_cons_zero, List.getElem_cons_succ, List.setIfInBounds_toArray, List.set_cons_zero, List.set_cons_succ]
        refine wpAnyH_ready (rs := [6]) (by kernel_rfl) (by simp) ?_
        refine AllReadyH.cons rfl (fun K hK => ?_) AllReadyH.nil
        go_simp
        refine (hCx.out wd).mono ?_
        rintro e w4b ⟨rfl, k2⟩
        (try go_wp2_with fail)
        refine hK.out _ _ ?_ (fun hHeld => ?_)
        · exact hS.out _ (kdr.out.trans k2 (by simp))
        clear hK K
        try simp only [Act.put, List.getElem_toArray, List.getElem_cons_zero, List.getElem_cons_succ, List.setIfInBounds_toArray, List.set_cons_zero, List.set_cons_succ]
        refine wpAnyH_take (i := 7) (v := ?_) rfl (by kernel_rfl) (by kernel_rfl) (by kernel_rfl) (fun _ _ _ h => h) (Or.inl ⟨by rfl, ?_⟩) (by assumption) ?_
        rotate_left
        · intro w hSw; (try dsimp only at hSw); go_simp <;> with_reducible rfl
        try simp only [Act.put, List.getElem_toArray, List.getElem_cons_zero, List.getElem_cons_succ, List.setIfInBounds_toArray, List.set_cons_zero, List.set_cons_succ]
        refine wpAnyH_done (by kernel_rfl) ?_ _
        have kw4b : Kp [] w2 w4b := kdr.out.trans k2 (by simp)
        have hkn2 := hid (hkn.out.trans kw4b (by simp))
        have hbQ2 := hid (hbQ.out.kept kw4b (by simp) (hbQ.out.lt (by simp)))
        have hbR2 := hid (hbR.out.kept kw4b (by simp) (hbR.out.lt (by simp)))
        clear hHeld hS kdr k2 hkn hbQ hbR kw4b
        have hkn := hkn2
        have hbQ := hbQ2
        have hbR := hbR2
        clear hkn2 hbQ2 hbR2
        by_cases hcc2 : 0 < Cx
        · have hxN : Hid (maxTo l (j + 1 - 1) = ⟨yk, yb, yn, yt⟩) := by show _ = _; rw [hsx.out, if_pos hcc2]
          have hcc2b : Cx > 0 := hcc2
          clear hsx
          obtain ⟨y0, y1, y2, y3⟩ := hcy.out w4b hkn.out
          have e0 := hbQ.out.get 6 _ rfl; have ef0 := hbQ.out.free 6
          have e1 := hbQ.out.get 7 _ rfl; have ef1 := hbQ.out.free 7
          have e2 := hbQ.out.get 8 _ rfl; have ef2 := hbQ.out.free 8
          have e3 := hbQ.out.get 9 _ rfl; have ef3 := hbQ.out.free 9
          obtain ⟨w5b, hw5b, bI, kI⟩ : ∃ Y9, ((((w4b.setCell ⟨qi, 6, none⟩ (.int .i64 yk)).setCell ⟨qi, 7, none⟩ (.bool yb)).setCell ⟨qi, 8, none⟩ (.int .i64 yn)).setCell ⟨qi, 9, none⟩ (.string yt)) = Y9 ∧ Bx Y9 qi [.int .i64 k, .int .i64 (l.length : Int), .int .i64 mk, .bool mb, .int .i64 mn, .string mt, .int .i64 yk, .bool yb, .int .i64 yn, .string yt, .int .i64 (n : Int), .int .i64 0] ∧ Kp [qi] w4b Y9 := ⟨_, rfl, genS4 (R := fun Y9 => Bx Y9 qi [.int .i64 k, .int .i64 (l.length : Int), .int .i64 mk, .bool mb, .int .i64 mn, .string mt, .int .i64 yk, .bool yb, .int .i64 yn, .string yt, .int .i64 (n : Int), .int .i64 0]) hbQ.out 6 7 8 9 (by simp) (by simp) (by simp) (by simp) (.int .i64 yk) (.bool yb) (.int .i64 yn) (.string yt) (fun Y9 b _ => b), genS4 (R := fun Y9 => Kp [qi] w4b Y9) hbQ.out 6 7 8 9 (by simp) (by simp) (by simp) (by simp) (.int .i64 yk) (.bool yb) (.int .i64 yn) (.string yt) (fun Y9 _ k => k)⟩
          have hkn2 := hid (hkn.out.trans kI (fun x hx => .inr (by simp at hx; omega)))
          have hbR2 := hid (hbR.out.kept kI (by simpa using hne) (hbR.out.lt (by simp)))
          have hbQ2 := hid bI
          clear hkn hbQ hbR bI kI
          have hkn := hkn2
          have hbQ := hbQ2
          have hbR := hbR2
          clear hkn2 hbQ2 hbR2
          obtain ⟨s0, _, _, _⟩ := hcy.out w5b hkn.out
          have hkN := hid hkn.out
          by_cases hv0 : yk = 0
          · have d0 : (yk == 0) = true := by simpa using hv0
            have hst2 : Hid (nullsV (l.take (j + 1)) = n + 1) := by show _ = _; rw [hsn.out, if_pos hv0]
            clear hv0
            have c10 := hbQ.out.get 10 _ rfl
            have f10 := hbQ.out.free 10
            have hB := hbQ.out.set 10 (by simp) (.int .i64 ((n : Int) + 1))
            have kS : Kp [qi] w5b (w5b.setCell ⟨qi, 10, none⟩ (.int .i64 ((n : Int) + 1))) := (Kp.refl [qi] w5b).setCell (p := ⟨qi, 10, none⟩) (.inl (by simp)) _
            have hA := hbR.out.kept kS (by simpa using hne) (hbR.out.lt (by simp))
            have kW := hkn.out.trans kS (fun x hx => .inr (by simp at hx; omega))
            have hN := hid (And.intro kW (And.intro hA hB))
            clear hsn hB hA kS kW
            go_wp2_with fail
            exact ⟨⟨j + 1, n + 1, ⟨mk, mb, mn, mt⟩, ⟨yk, yb, yn, yt⟩, by omega, by go_num, hmN, hxN, hst2, by omega, hN.out.1, hN.out.2.1, hN.out.2.2⟩, by simp [intOf]; omega⟩
          · have hst2 : Hid (nullsV (l.take (j + 1)) = n) := by show _ = _; rw [hsn.out, if_neg hv0]; rfl
            have d0 : (yk == 0) = false := by simpa using hv0
            clear hsn
            go_wp2_with fail
            exact ⟨⟨j + 1, n, ⟨mk, mb, mn, mt⟩, ⟨yk, yb, yn, yt⟩, by omega, by go_num, hmN, hxN, hst2, by omega, hkn.out, hbR.out, hbQ.out⟩, by simp [intOf]; omega⟩
        · have hxN : Hid (maxTo l (j + 1 - 1) = ⟨xk, xb, xn, xt⟩) := by show _ = _; rw [hsx.out, if_neg hcc2]
          clear hsx
          obtain ⟨s0, _, _, _⟩ := hcy.out w4b hkn.out
          have hkN := hid hkn.out
          by_cases hv0 : yk = 0
          · have d0 : (yk == 0) = true := by simpa using hv0
            have hst2 : Hid (nullsV (l.take (j + 1)) = n + 1) := by show _ = _; rw [hsn.out, if_pos hv0]
            clear hv0
            have c10 := hbQ.out.get 10 _ rfl
            have f10 := hbQ.out.free 10
            have hB := hbQ.out.set 10 (by simp) (.int .i64 ((n : Int) + 1))
            have kS : Kp [qi] w4b (w4b.setCell ⟨qi, 10, none⟩ (.int .i64 ((n : Int) + 1))) := (Kp.refl [qi] w4b).setCell (p := ⟨qi, 10, none⟩) (.inl (by simp)) _
            have hA := hbR.out.kept kS (by simpa using hne) (hbR.out.lt (by simp))
            have kW := hkn.out.trans kS (fun x hx => .inr (by simp at hx; omega))
            have hN := hid (And.intro kW (And.intro hA hB))
            clear hsn hB hA kS kW
            go_wp2_with fail
            exact ⟨⟨j + 1, n + 1, ⟨mk, mb, mn, mt⟩, ⟨xk, xb, xn, xt⟩, by omega, by go_num, hmN, hxN, hst2, by omega, hN.out.1, hN.out.2.1, hN.out.2.2⟩, by simp [intOf]; omega⟩
          · have hst2 : Hid (nullsV (l.take (j + 1)) = n) := by show _ = _; rw [hsn.out, if_neg hv0]; rfl
            have d0 : (yk == 0) = false := by simpa using hv0
            clear hsn
            go_wp2_with fail
            exact ⟨⟨j + 1, n, ⟨mk, mb, mn, mt⟩, ⟨xk, xb, xn, xt⟩, by omega, by go_num, hmN, hxN, hst2, by omega, hkn.out, hbR.out, hbQ.out⟩, by simp [intOf]; omega⟩
    · obtain rfl : j = l.length := by omega
      rw [List.take_length] at hn
      have hkn := hid kn
      have hbQ := hid bQ
      have p0 := bQ.get 0 _ rfl; have y0 := bR.get 0 _ rfl; have f0 := bR.free 0
      have p1 := bQ.get 1 _ rfl; have y1 := bR.get 1 _ rfl; have f1 := bR.free 1
      have p2 := bQ.get 2 _ rfl; have y2 := bR.get 2 _ rfl; have f2 := bR.free 2
      have p3 := bQ.get 3 _ rfl; have y3 := bR.get 3 _ rfl; have f3 := bR.free 3
      have p4 := bQ.get 4 _ rfl; have y4 := bR.get 4 _ rfl; have f4 := bR.free 4
      have p5 := bQ.get 5 _ rfl; have y5 := bR.get 5 _ rfl; have f5 := bR.free 5
      have p6 := bQ.get 6 _ rfl; have y6 := bR.get 6 _ rfl; have f6 := bR.free 6
      have p7 := bQ.get 7 _ rfl; have y7 := bR.get 7 _ rfl; have f7 := bR.free 7
      have p8 := bQ.get 8 _ rfl; have y8 := bR.get 8 _ rfl; have f8 := bR.free 8
      have p9 := bQ.get 9 _ rfl; have y9 := bR.get 9 _ rfl; have f9 := bR.free 9
      have p10 := bQ.get 10 _ rfl; have y10 := bR.get 10 _ rfl; have f10 := bR.free 10
      have p11 := bQ.get 11 _ rfl; have y11 := bR.get 11 _ rfl; have f11 := bR.free 11
      obtain ⟨W, hW, bW, kW⟩ : ∃ Y9, ((((((((((((wr.setCell ⟨q, 0, none⟩ (.int .i64 k)).setCell ⟨q, 1, none⟩ (.int .i64 (l.length : Int))).setCell ⟨q, 2, none⟩ (.int .i64 mk)).setCell ⟨q, 3, none⟩ (.bool mb)).setCell ⟨q, 4, none⟩ (.int .i64 mn)).setCell ⟨q, 5, none⟩ (.string mt)).setCell ⟨q, 6, none⟩ (.int .i64 xk)).setCell ⟨q, 7, none⟩ (.bool xb)).setCell ⟨q, 8, none⟩ (.int .i64 xn)).setCell ⟨q, 9, none⟩ (.string xt)).setCell ⟨q, 10, none⟩ (.int .i64 (n : Int))).setCell ⟨q, 11, none⟩ (.int .i64 0)) = Y9 ∧ Bx Y9 q [.int .i64 k, .int .i64 (l.length : Int), .int .i64 mk, .bool mb, .int .i64 mn, .string mt, .int .i64 xk, .bool xb, .int .i64 xn, .string xt, .int .i64 (n : Int), .int .i64 0] ∧ Kp [q] wr Y9 := ⟨_, rfl, gen12q (R := fun Y9 => Bx Y9 q [.int .i64 k, .int .i64 (l.length : Int), .int .i64 mk, .bool mb, .int .i64 mn, .string mt, .int .i64 xk, .bool xb, .int .i64 xn, .string xt, .int .i64 (n : Int), .int .i64 0]) bR rfl (.int .i64 k) (.int .i64 (l.length : Int)) (.int .i64 mk) (.bool mb) (.int .i64 mn) (.string mt) (.int .i64 xk) (.bool xb) (.int .i64 xn) (.string xt) (.int .i64 (n : Int)) (.int .i64 0) (fun Y9 b _ => b), gen12q (R := fun Y9 => Kp [q] wr Y9) bR rfl (.int .i64 k) (.int .i64 (l.length : Int)) (.int .i64 mk) (.bool mb) (.int .i64 mn) (.string mt) (.int .i64 xk) (.bool xb) (.int .i64 xn) (.string xt) (.int .i64 (n : Int)) (.int .i64 0) (fun Y9 _ k => k)⟩
      have kkW := hid (kn.trans kW (fun x hx => .inr (by simp at hx; omega)))
      have r0 := bW.get 0 _ rfl
      have r1 := bW.get 1 _ rfl
      have r2 := bW.get 2 _ rfl
      have r3 := bW.get 3 _ rfl
      have r4 := bW.get 4 _ rfl
      have r5 := bW.get 5 _ rfl
      have r6 := bW.get 6 _ rfl
      have r7 := bW.get 7 _ rfl
      have r8 := bW.get 8 _ rfl
      have r9 := bW.get 9 _ rfl
      have r10 := bW.get 10 _ rfl
      have r11 := bW.get 11 _ rfl
      clear bQ bR kn kW bW
      go_wp2_with fail
      refine bodyPost_ret (v := Inf.v ⟨k, l.length, ⟨mk, mb, mn, mt⟩, ⟨xk, xb, xn, xt⟩, n, 0⟩) (by simp [results, Tryz.results35, go_sem, Inf.v, Inf.cs, r0, r1, r2, r3, r4, r5, r6, r7, r8, r9, r10, r11]) rfl ⟨by rw [hfm.out, hm.out, hfx.out, hx.out, hn.out], kkW.out⟩
end Go.Proofs.YtcjnojbjgdechaaGreatDoor
end

section
namespace Go.Proofs.YtcjnojbjgdechaaGreatDoor
open Go.RowKit Go.Hay
set_option linter.unusedVariables false

set_option maxHeartbeats 1000000 in
set_option maxRecDepth 100000 in
theorem bRefNumber (n : Int) (k : Nat) (w : World) (h0 : 0 ≤ n) (h1 : n < 18446744073709551616) (hk : k ≤ 8) :
    Calls Tryz.prog 37 #[.int .u64 n, .int .i64 k] w fun e w' => ∃ v, e = .returned v ∧ Row w' v (be n.toNat k) ∧ Kp [] w w' ∧ ∀ k ∈ own v, w.heap.size ≤ k := by
  obtain ⟨n, rfl⟩ := Int.eq_ofNat_of_zero_le h0
  rw [Int.toNat_natCast]
  obtain ⟨i0, hi, hz0, hz1, hz2⟩ := info_parts Tryz.infoB
  go_enter Tryz.func37, Tryz.ntmps37
  go_wp2_with fail
  go_loopw [5, 6, 7, 8] (fun b i _ _ wr => ∃ (j : Nat) (cur : List UInt8), i = .int .i64 ((j : Int) - 1) ∧ j ≤ k ∧ Row wr b cur ∧ Hid (cur ++ be n j = be n k) ∧ Kp [] w wr ∧ ∀ k ∈ own b, w.heap.size ≤ k) (fun _ i _ _ _ => (intOf i + 1).toNat)
  case atStart => exact ⟨k, [], rfl, Nat.le_refl _, Row.nil _, rfl, Kp.refl _ _, by simp [own, Value.ownBlock]⟩
  case round =>
    obtain ⟨j, cur, rfl, hj, hrow, hcur, hkp, hown⟩ := hrel
    have hlen : cur.length + j = k := by have := congrArg List.length hcur.out; simpa [be_length] using this
    cases j with
    | zero =>
      go_wp2_with fail
      go_ret
      have e : cur = be n k := by have := hcur.out; simpa [be] using this
      exact ⟨_, rfl, e ▸ hrow, hkp, hown⟩
    | succ j =>
      rw [show (((j + 1 : Nat) : Int) - 1) = (j : Int) by omega]
      have hj8 : j < 8 := by omega
      go_wp2_with fail
      go_loop [7, 8] (fun kk jj => ∃ m : Nat, m ≤ j ∧ jj = .int .i64 m ∧ kk = .int .u64 ((n / 256 ^ m : Nat))) (fun _ jj => j - (intOf jj).toNat)
      case atStart => exact ⟨0, Nat.zero_le _, rfl, by simp⟩
      case round =>
        obtain ⟨m, hm, rfl, rfl⟩ := hrel
        have hq : n / 256 ^ m ≤ n := Nat.div_le_self _ _
        by_cases hmj : m < j
        · have HQ := hid (show n / 256 ^ (m + 1) = n / 256 ^ m / 256 by rw [Nat.pow_succ, Nat.div_div_eq_div_mul])
          generalize n / 256 ^ m = q at *
          go_wp2_with fail
          exact ⟨⟨m + 1, by omega, by go_num, by rw [HQ.out, Int.natCast_ediv]; rfl⟩, by simp [intOf]; omega⟩
        · obtain rfl : m = j := by omega
          have H : Hid (cur ++ [octet ((n / 256 ^ m : Nat) % 256 : Int)] ++ be n m = be n k) := by
            have := hcur.out
            show _ = _
            rw [show octet ((n / 256 ^ m : Nat) % 256 : Int) = UInt8.ofNat (n / 256 ^ m % 256) by
              unfold octet; congr 1]
            simpa [be] using this
          generalize n / 256 ^ m = q at *
          have k0 : Kp [] wr (wr.alloc (.cells #[.int .u8 ((q : Int) % 256)] 5)) := (Kp.refl _ _).alloc _
          have hsrc : Src Tryz.prog 1 24 (.slice (some ⟨wr.heap.size, 0, none⟩) 1 1) [octet ((q : Int) % 256)].length (bcells [octet ((q : Int) % 256)]) (wr.alloc (.cells #[.int .u8 ((q : Int) % 256)] 5)) :=
            Src.ofSlice _ Tryz.underlying24 ⟨wr.heap.size, 0, none⟩ 1 1 _ rfl (by intro j u hj; match j, hj with | 0, hj => simp [bcells] at hj; subst hj; rw [octet_toNat _ (by omega) (by omega)]; simp [Addr.add]) (bcells_one _)
          go_wp2_with (at_builtin; refine wpList_append_src _ rfl (.tmp 23) (.tmp 27) 24 24 rfl i0 Tryz.underlying24 hi hz0 hz1 hz2 _ cur rfl (hrow.kept k0 (by simp)) _ [octet ((q : Int) % 256)] rfl hsrc (by simp; omega) ?_)
          intro v' w1 hr hk' hn
          go_wp2_with fail
          have hsz := hkp.size
          exact ⟨⟨m, cur ++ [octet ((q : Int) % 256)], rfl, by omega, hr, H, (hkp.trans k0 (by simp)).trans hk' (fun x hx => .inr (hown x hx)), fun x hx => by
            rcases hn x hx with h | h
            · exact hown x h
            · omega⟩, by simp [intOf]⟩
end Go.Proofs.YtcjnojbjgdechaaGreatDoor
end

section
namespace Go.Proofs.YtcjnojbjgdechaaGreatDoor
open Go.RowKit Go.Hay
set_option linter.unusedVariables false
set_option linter.unusedSimpArgs false

theorem rowAlloc (w : World) (xs : List UInt8) (cs : List Value) (t : TypeId) (h : cs = bcells xs) (hl : xs.length ≤ 1000) : Row (w.alloc (.cells cs.toArray t)) (.slice (some ⟨w.heap.size, 0, none⟩) xs.length xs.length) xs := by
  subst h
  have e : ∀ j, (w.alloc (.cells (bcells xs).toArray t)).cell? ⟨w.heap.size, 0 + j, none⟩ = (bcells xs)[j]? := fun j => by
    have e := World.cell?_alloc_new w (bcells xs).toArray t (0 + j)
    rw [e, Nat.zero_add]
    simp
  refine .inr ⟨w.heap.size, 0, xs.length, rfl, Nat.le_refl _, by unfold maxLen; omega, by simp, fun j u hu => ?_, fun j hj => ⟨?_, World.frozen?_alloc_new w _ _ (0 + j)⟩⟩
  · rw [e, bcells_get, hu]; rfl
  · rw [e, bcells_get, List.getElem?_eq_getElem hj]; rfl
theorem own_some (g o n c : Nat) : own (.slice (some ⟨g, o, none⟩) n c) = [g] := rfl
set_option maxHeartbeats 32000000 in
set_option maxRecDepth 100000 in
theorem rWriteK (k : Int) (hk1 : k ≠ -1) (a : Option Addr) (ca : Nat) (l : List Val) (w : World) (ha : Vals w a l) (hlm0 : l.length ≤ 9223372036854775807) (h0 : 0 < l.length) :
    Calls Tryz.prog 11 #[.int .i64 (k), .slice a l.length ca] w (BsP (wrB (k) l) w) := by
  have hla := hid (fun W (kp : Kp [] w W) => ha.kept kp)
  have hlE := hid (fun W (kp : Kp [] w W) => cRefEnc6 (k) a ca l W (ha.kept kp) hlm0)
  have hfacts : Hid (refE (k) l = 0 → (0 ≤ (k) ∧ (k) ≤ 4) ∧ l.length ≤ 64 ∧ allR l = true) := fun h => by obtain ⟨h1, h2, h3⟩ := refE_ok h; exact ⟨known_bd h1, h2, h3⟩
  have hkw : kindW (k) l = k := by unfold kindW; rw [if_neg hk1]
  have hyes : Hid (refE (k) l = 0 → wrB (k) l = (blkB (k) l, 0)) := fun h => by unfold wrB; rw [if_neg (by omega), hkw, if_pos h]
  have hno : Hid (refE (k) l ≠ 0 → wrB (k) l = ([], refE (k) l)) := fun h => by unfold wrB; rw [if_neg (by omega), hkw, if_neg h]
  have hel := encR_len (k) l
  have hlen0 : ((l.length : Int) == 0) = false := beq_eq_false_iff_ne.2 (by omega)
  unfold EncP at hlE
  obtain ⟨E, hE⟩ : ∃ E, Hid (refE (k) l = E) := ⟨_, rfl⟩
  obtain ⟨R, hRR⟩ : ∃ R, Hid (encR (k) l = R) := ⟨_, rfl⟩
  simp only [hE.out, hRR.out] at hlE
  simp only [hE.out] at hfacts hyes hno
  rw [hRR.out] at hel
  unfold BsP
  clear hkw
  have cE := hlE.out w (Kp.refl _ _)
  have hkn : (k == -1) = false := by simpa using hk1
  clear hlE hE hk1 ha
  go_enter Tryz.func11, Tryz.ntmps11
  go_wp2_with fail
  refine cE.mono ?_
  rintro e w1 ⟨b1, c1, rfl, hrow1, k1, hn1⟩
  have kw1 := (Kp.refl [] w).trans k1 (by simp)
  by_cases hE0 : E = 0
  · subst hE0
    obtain ⟨hs1, hc1, hm1⟩ := rowSee hrow1
    have hok := hfacts.out rfl
    have hwr : Hid (wrB k l = (blkB k l, 0)) := hyes.out rfl
    have cF := rFacts k a ca l w1 (hla.out w1 kw1) h0 (by have := hok.2.1; omega)
    have hrm := minV_right h0 hok.2.2
    have hrx := maxV_right h0 hok.2.2
    have hlm := rowB_length hrm
    have hlx := rowB_length hrx
    have hnu := nulls_le l
    have h64 := hok.2.1
    have hkb := hok.1
    have hfin : Hid (blkB k l = [octet k, octet (l.length : Int), octet ((nullsV l : Nat) : Int)] ++ rowB (minV l) ++ rowB (maxV l) ++ [octet ((R.length / 256 : Nat) : Int), octet ((R.length % 256 : Nat) : Int)] ++ R ++ be (crc ([octet k, octet (l.length : Int), octet ((nullsV l : Nat) : Int)] ++ rowB (minV l) ++ rowB (maxV l) ++ [octet ((R.length / 256 : Nat) : Int), octet ((R.length % 256 : Nat) : Int)] ++ R)) 4) := by
      show _ = _
      unfold blkB preB hdB
      rw [hRR.out]
    have hO1 := hid (fun W => cOne (minV l) hrm W)
    have hO2 := hid (fun W => cOne (maxV l) hrx W)
    obtain ⟨⟨mk, mb, mn, mt⟩, hmm⟩ : ∃ v, Hid (minV l = v) := ⟨_, rfl⟩
    obtain ⟨⟨xk, xb, xn, xt⟩, hmx⟩ : ∃ v, Hid (maxV l = v) := ⟨_, rfl⟩
    obtain ⟨NU, hNU⟩ : ∃ n : Nat, Hid (nullsV l = n) := ⟨_, rfl⟩
    rw [hmm.out, hmx.out, hNU.out] at cF hfin
    rw [hmm.out] at hO1 hlm
    rw [hmx.out] at hO2 hlx
    rw [hNU.out] at hnu
    obtain ⟨RM, hRM⟩ : ∃ r, Hid (rowB ⟨mk, mb, mn, mt⟩ = r) := ⟨_, rfl⟩
    obtain ⟨RX, hRX⟩ : ∃ r, Hid (rowB ⟨xk, xb, xn, xt⟩ = r) := ⟨_, rfl⟩
    rw [hRM.out] at hlm hfin
    rw [hRX.out] at hlx hfin
    simp only [hRM.out] at hO1
    simp only [hRX.out] at hO2
    unfold Val.v at hO1 hO2
    unfold Inf.v Inf.cs at cF
    dsimp only at cF hO1 hO2
    have H1 := hid (And.intro hs1 (And.intro kw1 hn1))
    have hm1' := hid hm1
    unfold maxLen at hm1
    clear hs1 hrow1 hn1 k1 cE hok hmm hmx hNU hRM hRX hrm hrx kw1
    go_wp2_with fail
    refine cF.mono ?_
    rintro e w2 ⟨rfl, k2⟩
    obtain ⟨w3, hw3, k3, bI⟩ : ∃ w3, w2.alloc (.cells #[.int .i64 0, .int .i64 0, .int .i64 0, .bool false, .int .i64 0, .string ⟨#[]⟩, .int .i64 0, .bool false, .int .i64 0, .string ⟨#[]⟩, .int .i64 0, .int .i64 0] 37) = w3 ∧ Kp [] w2 w3 ∧ Bx w3 w2.heap.size [.int .i64 0, .int .i64 0, .int .i64 0, .bool false, .int .i64 0, .string ⟨#[]⟩, .int .i64 0, .bool false, .int .i64 0, .string ⟨#[]⟩, .int .i64 0, .int .i64 0] := ⟨_, rfl, (Kp.refl _ _).alloc _, Bx.new w2 _ _⟩
    obtain ⟨qi, hqi⟩ : ∃ q, Hid (w2.heap.size = q) := ⟨_, rfl⟩
    rw [hqi.out] at bI
    have p0 := bI.get 0 _ rfl; have f0 := bI.free 0
    have p1 := bI.get 1 _ rfl; have f1 := bI.free 1
    have p2 := bI.get 2 _ rfl; have f2 := bI.free 2
    have p3 := bI.get 3 _ rfl; have f3 := bI.free 3
    have p4 := bI.get 4 _ rfl; have f4 := bI.free 4
    have p5 := bI.get 5 _ rfl; have f5 := bI.free 5
    have p6 := bI.get 6 _ rfl; have f6 := bI.free 6
    have p7 := bI.get 7 _ rfl; have f7 := bI.free 7
    have p8 := bI.get 8 _ rfl; have f8 := bI.free 8
    have p9 := bI.get 9 _ rfl; have f9 := bI.free 9
    have p10 := bI.get 10 _ rfl; have f10 := bI.free 10
    have p11 := bI.get 11 _ rfl; have f11 := bI.free 11
    obtain ⟨W, hW, bW, kW⟩ : ∃ Y9, ((((((((((((w3.setCell ⟨qi, 0, none⟩ (.int .i64 k)).setCell ⟨qi, 1, none⟩ (.int .i64 (l.length : Int))).setCell ⟨qi, 2, none⟩ (.int .i64 mk)).setCell ⟨qi, 3, none⟩ (.bool mb)).setCell ⟨qi, 4, none⟩ (.int .i64 mn)).setCell ⟨qi, 5, none⟩ (.string mt)).setCell ⟨qi, 6, none⟩ (.int .i64 xk)).setCell ⟨qi, 7, none⟩ (.bool xb)).setCell ⟨qi, 8, none⟩ (.int .i64 xn)).setCell ⟨qi, 9, none⟩ (.string xt)).setCell ⟨qi, 10, none⟩ (.int .i64 (NU : Int))).setCell ⟨qi, 11, none⟩ (.int .i64 0)) = Y9 ∧ Bx Y9 qi [.int .i64 k, .int .i64 (l.length : Int), .int .i64 mk, .bool mb, .int .i64 mn, .string mt, .int .i64 xk, .bool xb, .int .i64 xn, .string xt, .int .i64 (NU : Int), .int .i64 0] ∧ Kp [qi] w3 Y9 := ⟨_, rfl, gen12q (R := fun Y9 => Bx Y9 qi [.int .i64 k, .int .i64 (l.length : Int), .int .i64 mk, .bool mb, .int .i64 mn, .string mt, .int .i64 xk, .bool xb, .int .i64 xn, .string xt, .int .i64 (NU : Int), .int .i64 0]) bI rfl (.int .i64 k) (.int .i64 (l.length : Int)) (.int .i64 mk) (.bool mb) (.int .i64 mn) (.string mt) (.int .i64 xk) (.bool xb) (.int .i64 xn) (.string xt) (.int .i64 (NU : Int)) (.int .i64 0) (fun Y9 b _ => b), gen12q (R := fun Y9 => Kp [qi] w3 Y9) bI rfl (.int .i64 k) (.int .i64 (l.length : Int)) (.int .i64 mk) (.bool mb) (.int .i64 mn) (.string mt) (.int .i64 xk) (.bool xb) (.int .i64 xn) (.string xt) (.int .i64 (NU : Int)) (.int .i64 0) (fun Y9 _ k => k)⟩
    have k2W : Kp [] w2 W := k3.trans kW (fun x hx => .inr (by simp at hx; rw [hx, ← hqi.out]; exact Nat.le_refl _))
    have kwW := hid (H1.out.2.1.trans (k2.trans k2W (by simp)) (by simp))
    have hsW := hid (H1.out.1.kept (k2.trans k2W (by simp)) (by simp))
    have c1' := bW.get 1 _ rfl
    have c10 := bW.get 10 _ rfl
    have hbW := hid bW
    have hbq := bW.lt (by simp)
    have e1 := wrap8 hkb.1 (by omega)
    have e2 : IntKind.u8.wrap (l.length : Int) = (l.length : Int) := wrap8 (by omega) (by omega)
    have e3 : IntKind.u8.wrap (NU : Int) = (NU : Int) := wrap8 (by omega) (by omega)
    obtain ⟨W3, hW3⟩ : ∃ W3, W.alloc (.cells #[.int .u8 k, .int .u8 (l.length : Int), .int .u8 (NU : Int)] 5) = W3 := ⟨_, rfl⟩
    have kW3 : Kp [] W W3 := by rw [← hW3]; exact (Kp.refl _ _).alloc _
    obtain ⟨q3, hq3⟩ : ∃ q, Hid (W.heap.size = q) := ⟨_, rfl⟩
    have hb3 : Row W3 (.slice (some ⟨q3, 0, none⟩) 3 3) [octet k, octet (l.length : Int), octet (NU : Int)] := by
      rw [← hW3, ← hq3.out]
      exact rowAlloc W [octet k, octet (l.length : Int), octet (NU : Int)] _ _ (by simp [bcells, octet_toNat k hkb.1 (by omega), octet_toNat (l.length : Int) (by omega) (by omega), octet_toNat (NU : Int) (by omega) (by omega)]) (by simp)
    have b3 := hbW.out.kept kW3 (by simp) hbq
    have d2 := b3.get 2 _ rfl; have d3 := b3.get 3 _ rfl; have d4 := b3.get 4 _ rfl; have d5 := b3.get 5 _ rfl
    have hqi' := hqi.out
    have hq3' := hq3.out
    have HW3 := hid (And.intro hb3 kW3)
    clear cF k2 k3 bI kW bW k2W b3 hb3 kW3
    go_wp2_with fail
    refine (hO1.out _).mono ?_
    rintro e w4 ⟨v4, rfl, hr4, hn4⟩
    obtain ⟨a4, c4, rfl, hs4, _⟩ := hr4.sees
    have k4 := hn4.kp
    have kW4 := HW3.out.2.trans k4 (by simp)
    have hB4 := HW3.out.1.kept k4 (by simp)
    have ho4 : ∀ k ∈ own (.slice (some ⟨q3, 0, none⟩) 3 3), W.heap.size ≤ k := fun k hk => by rw [own_some] at hk; simp at hk; omega
    have H4 := hid (And.intro kW4 ho4)
    clear p0 f0 p1 f1 p2 f2 p3 f3 p4 f4 p5 f5 p6 f6 p7 f7 p8 f8 p9 f9 p10 f10 p11 f11 hW hw3 d2 d3 d4 d5 c1' c10 hr4 hn4 k4 kW4 hW3 hqi' hO1 ho4
    go_wp2_with (first | (refine wpAppR rfl _ _ rfl _ [octet k, octet (l.length : Int), octet (NU : Int)] rfl hB4 a4 RM.length c4 RM rfl rfl hs4 (by simp; omega) ?_) | fail)
    intro Y5 a5 c5 w5 hY5 hy5 hR5 hg5
    try rw [List.length_cons, List.length_cons, List.length_cons, List.length_nil] at hy5
    have hst5 := stepA H4.out.1 H4.out.2 hg5.kp hg5.new
    have b5 := hbW.out.kept hst5.1 (by simp) hbq
    have d6 := b5.get 6 _ rfl; have d7 := b5.get 7 _ rfl; have d8 := b5.get 8 _ rfl; have d9 := b5.get 9 _ rfl
    have H5 := hid (And.intro hst5 hR5)
    clear hB4 hs4 hg5 hR5 hst5 b5 H4 hq3'
    go_wp2_with fail
    refine (hO2.out _).mono ?_
    rintro e w6 ⟨v6, rfl, hr6, hn6⟩
    obtain ⟨a6, c6, rfl, hs6, _⟩ := hr6.sees
    have hB6 := H5.out.2.kept hn6.kp (by simp)
    have H6 := hid (And.intro (H5.out.1.1.trans hn6.kp (by simp)) H5.out.1.2)
    clear d6 d7 d8 d9 hr6 hn6 hO2 H5
    go_wp2_with (first | (refine wpAppR rfl _ _ rfl _ Y5 rfl hB6 a6 RX.length c6 RX rfl rfl hs6 (by omega) ?_) | fail)
    intro Y7 a7 c7 w7 hY7 hy7 hR7 hg7
    have hst7 := stepA H6.out.1 H6.out.2 hg7.kp hg7.new
    have g1 : Int.tdiv (R.length : Int) 256 = ((R.length / 256 : Nat) : Int) := by rw [Int.tdiv_eq_ediv_of_nonneg (by omega)]; omega
    have g2 : Int.tmod (R.length : Int) 256 = ((R.length % 256 : Nat) : Int) := by rw [Int.tmod_eq_emod_of_nonneg (by omega)]; omega
    obtain ⟨hi, hhi⟩ : ∃ x : Nat, Hid (R.length / 256 = x) := ⟨_, rfl⟩
    obtain ⟨lo, hlo⟩ : ∃ x : Nat, Hid (R.length % 256 = x) := ⟨_, rfl⟩
    have hhb : hi ≤ 255 := by rw [← hhi.out]; omega
    have hlb : lo ≤ 255 := by rw [← hlo.out]; omega
    rw [hhi.out] at g1 hfin
    rw [hlo.out] at g2 hfin
    have g3 : (R.length : Int) / 256 = (hi : Int) := by have := hhi.out; omega
    have g4 : (R.length : Int) % 256 = (lo : Int) := by have := hlo.out; omega
    have g5 : IntKind.u8.wrap (hi : Int) = (hi : Int) := wrap8 (by omega) (by omega)
    have g6 : IntKind.u8.wrap (lo : Int) = (lo : Int) := wrap8 (by omega) (by omega)
    obtain ⟨W8, hW8⟩ : ∃ W8, w7.alloc (.cells #[.int .u8 (hi : Int), .int .u8 (lo : Int)] 5) = W8 := ⟨_, rfl⟩
    have kW8 : Kp [] w7 W8 := by rw [← hW8]; exact (Kp.refl _ _).alloc _
    have hs8 : Sees W8 (some ⟨w7.heap.size, 0, none⟩) [octet (hi : Int), octet (lo : Int)] := by
      have := rowAlloc w7 [octet (hi : Int), octet (lo : Int)] [.int .u8 (hi : Int), .int .u8 (lo : Int)] 5 (by simp [bcells, octet_toNat (hi : Int) (by omega) (by omega), octet_toNat (lo : Int) (by omega) (by omega)]) (by simp)
      rw [hW8] at this
      obtain ⟨_, _, e, h1, _⟩ := this.sees
      injection e with e4 e5 e6
      rw [e4]
      exact h1
    have hB8 := hR7.kept kW8 (by simp)
    have H8 := hid (And.intro (hst7.1.trans kW8 (by simp)) hst7.2)
    clear hB6 hs6 hg7 hR7 hst7 H6 kW8 hhi hlo
    go_wp2_with (first | (refine wpAppR rfl _ _ rfl _ Y7 rfl hB8 _ _ _ [octet (hi : Int), octet (lo : Int)] rfl rfl hs8 (by simp; omega) ?_) | fail)
    intro Y9 a9 c9 w9 hY9 hy9 hR9 hg9
    try rw [List.length_cons, List.length_cons, List.length_nil] at hy9
    have hst9 := stepA H8.out.1 H8.out.2 hg9.kp hg9.new
    have hs9 := hsW.out.kept hst9.1 (by simp)
    have H9 := hid hst9
    clear hB8 hs8 hg9 hst9 H8 hW8 g1 g2 g3 g4 g5 g6 e1 e2 e3
    go_wp2_with (first | (refine wpAppR rfl _ _ rfl _ Y9 rfl hR9 b1 R.length c1 R rfl rfl hs9 (by omega) ?_) | fail)
    intro YA aA cA wA hYA hyA hRA hgA
    have hstA := stepA H9.out.1 H9.out.2 hgA.kp hgA.new
    obtain ⟨_, _, eA, hsA, _⟩ := hRA.sees
    have hsA' : Sees wA aA YA := by injection eA with e4 e5 e6; rw [e4]; exact hsA
    have cS := cRefSum aA YA.length cA YA wA hsA' rfl (by omega)
    have hcr := crc_lt YA
    obtain ⟨CR, hCR⟩ : ∃ c : Nat, Hid (crc YA = c) := ⟨_, rfl⟩
    rw [hCR.out] at cS hcr
    have HA := hid (And.intro hstA hRA)
    clear hR9 hs9 hgA hRA hstA H9 eA hsA hsA'
    go_wp2_with fail
    refine cS.mono ?_
    rintro e wB ⟨rfl, hwB⟩
    subst hwB
    have cN := bRefNumber (CR : Int) 4 wB (by omega) (by omega) (by omega)
    rw [Int.toNat_natCast] at cN
    clear cS
    go_wp2_with fail
    refine cN.mono ?_
    rintro e wC ⟨vC, rfl, hrC, kC, hnC⟩
    obtain ⟨aC, cC, rfl, hsC, _⟩ := hrC.sees
    have hlC : (be CR 4).length = 4 := be_length _ _
    have hBC := HA.out.2.kept kC (by simp)
    have HC := hid (And.intro (HA.out.1.1.trans kC (by simp)) HA.out.1.2)
    obtain ⟨B4, hB4⟩ : ∃ b, Hid (be CR 4 = b) := ⟨_, rfl⟩
    rw [hB4.out] at hsC hlC ⊢
    have hlC' := hid hlC
    clear cN hrC kC hnC HA hlC
    go_wp2_with (first | (refine wpAppR rfl _ _ rfl _ YA rfl hBC aC _ cC B4 rfl rfl hsC (by have := hlC'.out; omega) ?_) | fail)
    intro YD aD cD wD hYD hyD hRD hgD
    have hstD := stepA HC.out.1 HC.out.2 hgD.kp hgD.new
    have HD := hid (And.intro hstD hRD)
    have hall : Hid (blkB k l = YD) := by
      show _ = _
      have hA2 : YA = [octet k, octet (l.length : Int), octet (NU : Int)] ++ RM ++ RX ++ [octet (hi : Int), octet (lo : Int)] ++ R := by rw [hYA.out, hY9.out, hY7.out, hY5.out]; try rfl
      rw [hfin.out, ← hA2, hCR.out, hB4.out, hYD.out]
    clear hBC hsC hgD hRD hstD HC
    go_wp2_with fail
    go_ret2
    rw [hwr.out, hall.out]
    refine ⟨aD, cD, rfl, HD.out.2, kwW.out.trans HD.out.1.1 (by simp), fun k hk => Nat.le_trans kwW.out.size (HD.out.1.2 k ?_)⟩
    cases aD with
    | none => simp [blk] at hk
    | some ad => simpa [own, Value.ownBlock, blk] using hk
  · have hwr : Hid (wrB k l = ([], E)) := hno.out hE0
    have d1 : (E != 0) = true := by simpa using hE0
    clear cE hrow1 hn1 k1
    go_wp2_with fail
    go_ret2
    rw [hwr.out]
    exact ⟨none, 0, rfl, .inl ⟨rfl, rfl⟩, kw1, by simp [blk]⟩
set_option maxHeartbeats 32000000 in
set_option maxRecDepth 100000 in
theorem rWriteN (a : Option Addr) (ca : Nat) (l : List Val) (w : World) (ha : Vals w a l) (hlm0 : l.length ≤ 9223372036854775807) (h0 : 0 < l.length) :
    Calls Tryz.prog 11 #[.int .i64 (-1), .slice a l.length ca] w (BsP (wrB (-1) l) w) := by
  have hla := hid (fun W (kp : Kp [] w W) => ha.kept kp)
  have hlE := hid (fun W (kp : Kp [] w W) => cRefEnc6 (bestV l) a ca l W (ha.kept kp) hlm0)
  have hfacts : Hid (refE (bestV l) l = 0 → (0 ≤ (bestV l) ∧ (bestV l) ≤ 4) ∧ l.length ≤ 64 ∧ allR l = true) := fun h => by obtain ⟨h1, h2, h3⟩ := refE_ok h; exact ⟨known_bd h1, h2, h3⟩
  have hkw : kindW (-1) l = bestV l := by unfold kindW; rw [if_pos rfl]
  have hyes : Hid (refE (bestV l) l = 0 → wrB (-1) l = (blkB (bestV l) l, 0)) := fun h => by unfold wrB; rw [if_neg (by omega), hkw, if_pos h]
  have hno : Hid (refE (bestV l) l ≠ 0 → wrB (-1) l = ([], refE (bestV l) l)) := fun h => by unfold wrB; rw [if_neg (by omega), hkw, if_neg h]
  have hel := encR_len (bestV l) l
  have hlen0 : ((l.length : Int) == 0) = false := beq_eq_false_iff_ne.2 (by omega)
  unfold EncP at hlE
  obtain ⟨E, hE⟩ : ∃ E, Hid (refE (bestV l) l = E) := ⟨_, rfl⟩
  obtain ⟨R, hRR⟩ : ∃ R, Hid (encR (bestV l) l = R) := ⟨_, rfl⟩
  simp only [hE.out, hRR.out] at hlE
  simp only [hE.out] at hfacts hyes hno
  rw [hRR.out] at hel
  unfold BsP
  clear hkw
  have cBe := cRefBest a ca l w ha hlm0
  obtain ⟨kb, hkb0⟩ : ∃ kb, Hid (bestV l = kb) := ⟨_, rfl⟩
  rw [hkb0.out] at cBe
  simp only [hkb0.out] at hlE hfacts hyes hno hE hRR
  clear hE ha
  go_enter Tryz.func11, Tryz.ntmps11
  go_wp2_with fail
  refine cBe.mono ?_
  rintro e w0 ⟨rfl, kb0⟩
  have cE := hlE.out w0 kb0
  clear cBe hlE
  go_wp2_with fail
  refine cE.mono ?_
  rintro e w1 ⟨b1, c1, rfl, hrow1, k1, hn1⟩
  have kw1 := kb0.trans k1 (by simp)
  by_cases hE0 : E = 0
  · subst hE0
    obtain ⟨hs1, hc1, hm1⟩ := rowSee hrow1
    have hok := hfacts.out rfl
    have hwr : Hid (wrB (-1) l = (blkB kb l, 0)) := hyes.out rfl
    have cF := rFacts kb a ca l w1 (hla.out w1 kw1) h0 (by have := hok.2.1; omega)
    have hrm := minV_right h0 hok.2.2
    have hrx := maxV_right h0 hok.2.2
    have hlm := rowB_length hrm
    have hlx := rowB_length hrx
    have hnu := nulls_le l
    have h64 := hok.2.1
    have hkb := hok.1
    have hfin : Hid (blkB kb l = [octet kb, octet (l.length : Int), octet ((nullsV l : Nat) : Int)] ++ rowB (minV l) ++ rowB (maxV l) ++ [octet ((R.length / 256 : Nat) : Int), octet ((R.length % 256 : Nat) : Int)] ++ R ++ be (crc ([octet kb, octet (l.length : Int), octet ((nullsV l : Nat) : Int)] ++ rowB (minV l) ++ rowB (maxV l) ++ [octet ((R.length / 256 : Nat) : Int), octet ((R.length % 256 : Nat) : Int)] ++ R)) 4) := by
      show _ = _
      unfold blkB preB hdB
      rw [hRR.out]
    have hO1 := hid (fun W => cOne (minV l) hrm W)
    have hO2 := hid (fun W => cOne (maxV l) hrx W)
    obtain ⟨⟨mk, mb, mn, mt⟩, hmm⟩ : ∃ v, Hid (minV l = v) := ⟨_, rfl⟩
    obtain ⟨⟨xk, xb, xn, xt⟩, hmx⟩ : ∃ v, Hid (maxV l = v) := ⟨_, rfl⟩
    obtain ⟨NU, hNU⟩ : ∃ n : Nat, Hid (nullsV l = n) := ⟨_, rfl⟩
    rw [hmm.out, hmx.out, hNU.out] at cF hfin
    rw [hmm.out] at hO1 hlm
    rw [hmx.out] at hO2 hlx
    rw [hNU.out] at hnu
    obtain ⟨RM, hRM⟩ : ∃ r, Hid (rowB ⟨mk, mb, mn, mt⟩ = r) := ⟨_, rfl⟩
    obtain ⟨RX, hRX⟩ : ∃ r, Hid (rowB ⟨xk, xb, xn, xt⟩ = r) := ⟨_, rfl⟩
    rw [hRM.out] at hlm hfin
    rw [hRX.out] at hlx hfin
    simp only [hRM.out] at hO1
    simp only [hRX.out] at hO2
    unfold Val.v at hO1 hO2
    unfold Inf.v Inf.cs at cF
    dsimp only at cF hO1 hO2
    have H1 := hid (And.intro hs1 (And.intro kw1 hn1))
    have hm1' := hid hm1
    unfold maxLen at hm1
    clear hs1 hrow1 hn1 k1 cE hok hmm hmx hNU hRM hRX hrm hrx kw1
    go_wp2_with fail
    refine cF.mono ?_
    rintro e w2 ⟨rfl, k2⟩
    obtain ⟨w3, hw3, k3, bI⟩ : ∃ w3, w2.alloc (.cells #[.int .i64 0, .int .i64 0, .int .i64 0, .bool false, .int .i64 0, .string ⟨#[]⟩, .int .i64 0, .bool false, .int .i64 0, .string ⟨#[]⟩, .int .i64 0, .int .i64 0] 37) = w3 ∧ Kp [] w2 w3 ∧ Bx w3 w2.heap.size [.int .i64 0, .int .i64 0, .int .i64 0, .bool false, .int .i64 0, .string ⟨#[]⟩, .int .i64 0, .bool false, .int .i64 0, .string ⟨#[]⟩, .int .i64 0, .int .i64 0] := ⟨_, rfl, (Kp.refl _ _).alloc _, Bx.new w2 _ _⟩
    obtain ⟨qi, hqi⟩ : ∃ q, Hid (w2.heap.size = q) := ⟨_, rfl⟩
    rw [hqi.out] at bI
    have p0 := bI.get 0 _ rfl; have f0 := bI.free 0
    have p1 := bI.get 1 _ rfl; have f1 := bI.free 1
    have p2 := bI.get 2 _ rfl; have f2 := bI.free 2
    have p3 := bI.get 3 _ rfl; have f3 := bI.free 3
    have p4 := bI.get 4 _ rfl; have f4 := bI.free 4
    have p5 := bI.get 5 _ rfl; have f5 := bI.free 5
    have p6 := bI.get 6 _ rfl; have f6 := bI.free 6
    have p7 := bI.get 7 _ rfl; have f7 := bI.free 7
    have p8 := bI.get 8 _ rfl; have f8 := bI.free 8
    have p9 := bI.get 9 _ rfl; have f9 := bI.free 9
    have p10 := bI.get 10 _ rfl; have f10 := bI.free 10
    have p11 := bI.get 11 _ rfl; have f11 := bI.free 11
    obtain ⟨W, hW, bW, kW⟩ : ∃ Y9, ((((((((((((w3.setCell ⟨qi, 0, none⟩ (.int .i64 kb)).setCell ⟨qi, 1, none⟩ (.int .i64 (l.length : Int))).setCell ⟨qi, 2, none⟩ (.int .i64 mk)).setCell ⟨qi, 3, none⟩ (.bool mb)).setCell ⟨qi, 4, none⟩ (.int .i64 mn)).setCell ⟨qi, 5, none⟩ (.string mt)).setCell ⟨qi, 6, none⟩ (.int .i64 xk)).setCell ⟨qi, 7, none⟩ (.bool xb)).setCell ⟨qi, 8, none⟩ (.int .i64 xn)).setCell ⟨qi, 9, none⟩ (.string xt)).setCell ⟨qi, 10, none⟩ (.int .i64 (NU : Int))).setCell ⟨qi, 11, none⟩ (.int .i64 0)) = Y9 ∧ Bx Y9 qi [.int .i64 kb, .int .i64 (l.length : Int), .int .i64 mk, .bool mb, .int .i64 mn, .string mt, .int .i64 xk, .bool xb, .int .i64 xn, .string xt, .int .i64 (NU : Int), .int .i64 0] ∧ Kp [qi] w3 Y9 := ⟨_, rfl, gen12q (R := fun Y9 => Bx Y9 qi [.int .i64 kb, .int .i64 (l.length : Int), .int .i64 mk, .bool mb, .int .i64 mn, .string mt, .int .i64 xk, .bool xb, .int .i64 xn, .string xt, .int .i64 (NU : Int), .int .i64 0]) bI rfl (.int .i64 kb) (.int .i64 (l.length : Int)) (.int .i64 mk) (.bool mb) (.int .i64 mn) (.string mt) (.int .i64 xk) (.bool xb) (.int .i64 xn) (.string xt) (.int .i64 (NU : Int)) (.int .i64 0) (fun Y9 b _ => b), gen12q (R := fun Y9 => Kp [qi] w3 Y9) bI rfl (.int .i64 kb) (.int .i64 (l.length : Int)) (.int .i64 mk) (.bool mb) (.int .i64 mn) (.string mt) (.int .i64 xk) (.bool xb) (.int .i64 xn) (.string xt) (.int .i64 (NU : Int)) (.int .i64 0) (fun Y9 _ k => k)⟩
    have k2W : Kp [] w2 W := k3.trans kW (fun x hx => .inr (by simp at hx; rw [hx, ← hqi.out]; exact Nat.le_refl _))
    have kwW := hid (H1.out.2.1.trans (k2.trans k2W (by simp)) (by simp))
    have hsW := hid (H1.out.1.kept (k2.trans k2W (by simp)) (by simp))
    have c1' := bW.get 1 _ rfl
    have c10 := bW.get 10 _ rfl
    have hbW := hid bW
    have hbq := bW.lt (by simp)
    have e1 := wrap8 hkb.1 (by omega)
    have e2 : IntKind.u8.wrap (l.length : Int) = (l.length : Int) := wrap8 (by omega) (by omega)
    have e3 : IntKind.u8.wrap (NU : Int) = (NU : Int) := wrap8 (by omega) (by omega)
    obtain ⟨W3, hW3⟩ : ∃ W3, W.alloc (.cells #[.int .u8 kb, .int .u8 (l.length : Int), .int .u8 (NU : Int)] 5) = W3 := ⟨_, rfl⟩
    have kW3 : Kp [] W W3 := by rw [← hW3]; exact (Kp.refl _ _).alloc _
    obtain ⟨q3, hq3⟩ : ∃ q, Hid (W.heap.size = q) := ⟨_, rfl⟩
    have hb3 : Row W3 (.slice (some ⟨q3, 0, none⟩) 3 3) [octet kb, octet (l.length : Int), octet (NU : Int)] := by
      rw [← hW3, ← hq3.out]
      exact rowAlloc W [octet kb, octet (l.length : Int), octet (NU : Int)] _ _ (by simp [bcells, octet_toNat kb hkb.1 (by omega), octet_toNat (l.length : Int) (by omega) (by omega), octet_toNat (NU : Int) (by omega) (by omega)]) (by simp)
    have b3 := hbW.out.kept kW3 (by simp) hbq
    have d2 := b3.get 2 _ rfl; have d3 := b3.get 3 _ rfl; have d4 := b3.get 4 _ rfl; have d5 := b3.get 5 _ rfl
    have hqi' := hqi.out
    have hq3' := hq3.out
    have HW3 := hid (And.intro hb3 kW3)
    clear cF k2 k3 bI kW bW k2W b3 hb3 kW3
    go_wp2_with fail
    refine (hO1.out _).mono ?_
    rintro e w4 ⟨v4, rfl, hr4, hn4⟩
    obtain ⟨a4, c4, rfl, hs4, _⟩ := hr4.sees
    have k4 := hn4.kp
    have kW4 := HW3.out.2.trans k4 (by simp)
    have hB4 := HW3.out.1.kept k4 (by simp)
    have ho4 : ∀ k ∈ own (.slice (some ⟨q3, 0, none⟩) 3 3), W.heap.size ≤ k := fun k hk => by rw [own_some] at hk; simp at hk; omega
    have H4 := hid (And.intro kW4 ho4)
    clear p0 f0 p1 f1 p2 f2 p3 f3 p4 f4 p5 f5 p6 f6 p7 f7 p8 f8 p9 f9 p10 f10 p11 f11 hW hw3 d2 d3 d4 d5 c1' c10 hr4 hn4 k4 kW4 hW3 hqi' hO1 ho4
    go_wp2_with (first | (refine wpAppR rfl _ _ rfl _ [octet kb, octet (l.length : Int), octet (NU : Int)] rfl hB4 a4 RM.length c4 RM rfl rfl hs4 (by simp; omega) ?_) | fail)
    intro Y5 a5 c5 w5 hY5 hy5 hR5 hg5
    try rw [List.length_cons, List.length_cons, List.length_cons, List.length_nil] at hy5
    have hst5 := stepA H4.out.1 H4.out.2 hg5.kp hg5.new
    have b5 := hbW.out.kept hst5.1 (by simp) hbq
    have d6 := b5.get 6 _ rfl; have d7 := b5.get 7 _ rfl; have d8 := b5.get 8 _ rfl; have d9 := b5.get 9 _ rfl
    have H5 := hid (And.intro hst5 hR5)
    clear hB4 hs4 hg5 hR5 hst5 b5 H4 hq3'
    go_wp2_with fail
    refine (hO2.out _).mono ?_
    rintro e w6 ⟨v6, rfl, hr6, hn6⟩
    obtain ⟨a6, c6, rfl, hs6, _⟩ := hr6.sees
    have hB6 := H5.out.2.kept hn6.kp (by simp)
    have H6 := hid (And.intro (H5.out.1.1.trans hn6.kp (by simp)) H5.out.1.2)
    clear d6 d7 d8 d9 hr6 hn6 hO2 H5
    go_wp2_with (first | (refine wpAppR rfl _ _ rfl _ Y5 rfl hB6 a6 RX.length c6 RX rfl rfl hs6 (by omega) ?_) | fail)
    intro Y7 a7 c7 w7 hY7 hy7 hR7 hg7
    have hst7 := stepA H6.out.1 H6.out.2 hg7.kp hg7.new
    have g1 : Int.tdiv (R.length : Int) 256 = ((R.length / 256 : Nat) : Int) := by rw [Int.tdiv_eq_ediv_of_nonneg (by omega)]; omega
    have g2 : Int.tmod (R.length : Int) 256 = ((R.length % 256 : Nat) : Int) := by rw [Int.tmod_eq_emod_of_nonneg (by omega)]; omega
    obtain ⟨hi, hhi⟩ : ∃ x : Nat, Hid (R.length / 256 = x) := ⟨_, rfl⟩
    obtain ⟨lo, hlo⟩ : ∃ x : Nat, Hid (R.length % 256 = x) := ⟨_, rfl⟩
    have hhb : hi ≤ 255 := by rw [← hhi.out]; omega
    have hlb : lo ≤ 255 := by rw [← hlo.out]; omega
    rw [hhi.out] at g1 hfin
    rw [hlo.out] at g2 hfin
    have g3 : (R.length : Int) / 256 = (hi : Int) := by have := hhi.out; omega
    have g4 : (R.length : Int) % 256 = (lo : Int) := by have := hlo.out; omega
    have g5 : IntKind.u8.wrap (hi : Int) = (hi : Int) := wrap8 (by omega) (by omega)
    have g6 : IntKind.u8.wrap (lo : Int) = (lo : Int) := wrap8 (by omega) (by omega)
    obtain ⟨W8, hW8⟩ : ∃ W8, w7.alloc (.cells #[.int .u8 (hi : Int), .int .u8 (lo : Int)] 5) = W8 := ⟨_, rfl⟩
    have kW8 : Kp [] w7 W8 := by rw [← hW8]; exact (Kp.refl _ _).alloc _
    have hs8 : Sees W8 (some ⟨w7.heap.size, 0, none⟩) [octet (hi : Int), octet (lo : Int)] := by
      have := rowAlloc w7 [octet (hi : Int), octet (lo : Int)] [.int .u8 (hi : Int), .int .u8 (lo : Int)] 5 (by simp [bcells, octet_toNat (hi : Int) (by omega) (by omega), octet_toNat (lo : Int) (by omega) (by omega)]) (by simp)
      rw [hW8] at this
      obtain ⟨_, _, e, h1, _⟩ := this.sees
      injection e with e4 e5 e6
      rw [e4]
      exact h1
    have hB8 := hR7.kept kW8 (by simp)
    have H8 := hid (And.intro (hst7.1.trans kW8 (by simp)) hst7.2)
    clear hB6 hs6 hg7 hR7 hst7 H6 kW8 hhi hlo
    go_wp2_with (first | (refine wpAppR rfl _ _ rfl _ Y7 rfl hB8 _ _ _ [octet (hi : Int), octet (lo : Int)] rfl rfl hs8 (by simp; omega) ?_) | fail)
    intro Y9 a9 c9 w9 hY9 hy9 hR9 hg9
    try rw [List.length_cons, List.length_cons, List.length_nil] at hy9
    have hst9 := stepA H8.out.1 H8.out.2 hg9.kp hg9.new
    have hs9 := hsW.out.kept hst9.1 (by simp)
    have H9 := hid hst9
    clear hB8 hs8 hg9 hst9 H8 hW8 g1 g2 g3 g4 g5 g6 e1 e2 e3
    go_wp2_with (first | (refine wpAppR rfl _ _ rfl _ Y9 rfl hR9 b1 R.length c1 R rfl rfl hs9 (by omega) ?_) | fail)
    intro YA aA cA wA hYA hyA hRA hgA
    have hstA := stepA H9.out.1 H9.out.2 hgA.kp hgA.new
    obtain ⟨_, _, eA, hsA, _⟩ := hRA.sees
    have hsA' : Sees wA aA YA := by injection eA with e4 e5 e6; rw [e4]; exact hsA
    have cS := cRefSum aA YA.length cA YA wA hsA' rfl (by omega)
    have hcr := crc_lt YA
    obtain ⟨CR, hCR⟩ : ∃ c : Nat, Hid (crc YA = c) := ⟨_, rfl⟩
    rw [hCR.out] at cS hcr
    have HA := hid (And.intro hstA hRA)
    clear hR9 hs9 hgA hRA hstA H9 eA hsA hsA'
    go_wp2_with fail
    refine cS.mono ?_
    rintro e wB ⟨rfl, hwB⟩
    subst hwB
    have cN := bRefNumber (CR : Int) 4 wB (by omega) (by omega) (by omega)
    rw [Int.toNat_natCast] at cN
    clear cS
    go_wp2_with fail
    refine cN.mono ?_
    rintro e wC ⟨vC, rfl, hrC, kC, hnC⟩
    obtain ⟨aC, cC, rfl, hsC, _⟩ := hrC.sees
    have hlC : (be CR 4).length = 4 := be_length _ _
    have hBC := HA.out.2.kept kC (by simp)
    have HC := hid (And.intro (HA.out.1.1.trans kC (by simp)) HA.out.1.2)
    obtain ⟨B4, hB4⟩ : ∃ b, Hid (be CR 4 = b) := ⟨_, rfl⟩
    rw [hB4.out] at hsC hlC ⊢
    have hlC' := hid hlC
    clear cN hrC kC hnC HA hlC
    go_wp2_with (first | (refine wpAppR rfl _ _ rfl _ YA rfl hBC aC _ cC B4 rfl rfl hsC (by have := hlC'.out; omega) ?_) | fail)
    intro YD aD cD wD hYD hyD hRD hgD
    have hstD := stepA HC.out.1 HC.out.2 hgD.kp hgD.new
    have HD := hid (And.intro hstD hRD)
    have hall : Hid (blkB kb l = YD) := by
      show _ = _
      have hA2 : YA = [octet kb, octet (l.length : Int), octet (NU : Int)] ++ RM ++ RX ++ [octet (hi : Int), octet (lo : Int)] ++ R := by rw [hYA.out, hY9.out, hY7.out, hY5.out]; try rfl
      rw [hfin.out, ← hA2, hCR.out, hB4.out, hYD.out]
    clear hBC hsC hgD hRD hstD HC
    go_wp2_with fail
    go_ret2
    rw [hwr.out, hall.out]
    refine ⟨aD, cD, rfl, HD.out.2, kwW.out.trans HD.out.1.1 (by simp), fun k hk => Nat.le_trans kwW.out.size (HD.out.1.2 k ?_)⟩
    cases aD with
    | none => simp [blk] at hk
    | some ad => simpa [own, Value.ownBlock, blk] using hk
  · have hwr : Hid (wrB (-1) l = ([], E)) := hno.out hE0
    have d1 : (E != 0) = true := by simpa using hE0
    clear cE hrow1 hn1 k1
    go_wp2_with fail
    go_ret2
    rw [hwr.out]
    exact ⟨none, 0, rfl, .inl ⟨rfl, rfl⟩, kw1, by simp [blk]⟩
theorem rWriteB (k : Int) (a : Option Addr) (ca : Nat) (l : List Val) (w : World) (ha : Vals w a l) (hl : l.length ≤ 9223372036854775807) :
    Calls Tryz.prog 11 #[.int .i64 k, .slice a l.length ca] w (BsP (wrB k l) w) := by
  rcases Nat.eq_zero_or_pos l.length with h0 | h0
  · have hwr : Hid (wrB k l = ([], 70)) := by show _ = _; unfold wrB; rw [if_pos h0]
    rw [h0, hwr.out]
    unfold BsP
    clear ha hl
    go_enter Tryz.func11, Tryz.ntmps11
    go_wp2_with fail
    go_ret2
    exact ⟨none, 0, rfl, .inl ⟨rfl, rfl⟩, Kp.refl _ _, by simp [blk]⟩
  · by_cases hk : k = -1
    · subst hk
      exact rWriteN a ca l w ha hl h0
    · exact rWriteK k hk a ca l w ha hl h0
end Go.Proofs.YtcjnojbjgdechaaGreatDoor
end

section
namespace Go.Proofs.YtcjnojbjgdechaaGreatDoor
open Go.RowKit Go.Hay
set_option linter.unusedVariables false
set_option linter.unusedSimpArgs false

set_option maxHeartbeats 8000000 in
set_option maxRecDepth 100000 in
theorem walkBW (k : Int) (a : Option Addr) (ca : Nat) (l : List Val) (w : World) (ht0 : Tab w) (ha : Vals w a l) (hc : l.length ≤ ca) (hm : ca ≤ maxLen) (hl : l.length ≤ 3600000000000) :
    Calls Tryz.prog 3 #[.int .i64 k, .slice a l.length ca] w fun e w' => e = .returned (.bool true) ∧ Kp [] w w' := by
  have cC := cCopyV a ca l w ha hl
  have hal : Hid (∀ W, Kp [] w W → Calls Tryz.prog 12 #[] W fun e w' => e = .returned (.bool true) ∧ Kp [] W w') := fun W k => bAlive W (ht0.kept k (by simp))
  have hE : Hid (∀ W (b : Option Addr) (c : Nat), Kp [] w W → Vals W b l → l.length ≤ c → c ≤ maxLen → Calls Tryz.prog 10 #[.int .i64 k, .slice b l.length c] W (BsP (wrB k l) W)) := fun W b c kW hv h1 h2 => cWriteB k b c l W (ht0.kept kW (by simp)) hv h1 h2
  have hR : Hid (∀ W, Kp [] w W → Calls Tryz.prog 11 #[.int .i64 k, .slice a l.length ca] W (BsP (wrB k l) W)) := fun W kW => rWriteB k a ca l W (ha.kept kW) (by omega)
  have hla := hid (fun W (kW : Kp [] w W) => ha.kept kW)
  unfold BsP at hE hR
  obtain ⟨⟨R, E⟩, hEE⟩ : ∃ r, Hid (wrB k l = r) := ⟨_, rfl⟩
  simp only [hEE.out] at hE hR
  have hEE2 : (E == E) = true := by simp
  clear ha hEE hc ht0
  go_enter Tryz.func3, Tryz.ntmps3
  go_wp2_with fail
  refine cC.mono ?_
  rintro e w1 ⟨a1, c1, rfl, hrow1, k1, hn1⟩
  obtain ⟨hv1, hl1, hm1⟩ := rowVals hrow1
  have cE := hE.out w1 a1 c1 k1 hv1 hl1 hm1
  have hv1' := hid hv1
  clear cC hrow1 hn1 hE hv1
  go_wp2_with fail
  refine cE.mono ?_
  rintro e w2 ⟨b2, c2, rfl, hrow2, k2, hn2⟩
  have k12 := k1.trans k2 (by simp)
  have cR := hR.out w2 k12
  obtain ⟨hs2, _, _⟩ := rowSee hrow2
  have hs2' := hid hs2
  clear cE hrow2 hn2 hR hs2
  go_wp2_with fail
  refine cR.mono ?_
  rintro e w3 ⟨b3, c3, rfl, hrow3, k3, hn3⟩
  have k13 := k12.trans k3 (by simp)
  obtain ⟨hs3, _, _⟩ := rowSee hrow3
  have hs3' := hid hs3
  clear cR hrow3 hn3 hs3
  go_wp2_with fail
  refine (hal.out w3 k13).mono ?_
  rintro e w4 ⟨rfl, k4⟩
  have k14 := k13.trans k4 (by simp)
  have cv1 := convSees ((hs2'.out.kept k3 (by simp)).kept k4 (by simp)) c2
  have cv2 := convSees (hs3'.out.kept k4 (by simp)) c3
  have cS := cSame a1 a c1 ca l l w4 (hv1'.out.kept ((k2.trans k3 (by simp)).trans k4 (by simp))) (hla.out w4 k14) (by omega) (by omega)
  rw [sameV_self] at cS
  clear hs2' hs3' hv1' hla
  go_wp2_with fail
  refine cS.mono ?_
  rintro e w6 ⟨rfl, k6⟩
  go_wp2_with fail
  go_ret
  exact ⟨by simp, k14.trans k6 (by simp)⟩
theorem writesWalk7 (k : Int) (a : Option Addr) (len ca : Nat) (l : List Val) (w : World) (ht : Tab w) (hs : Vals w a l) (hlen : len = l.length) (hl : l.length ≤ ca) (hm : ca ≤ maxLen) (hr : len * 40 ≤ 140737488351232) :
    Calls Tryz.prog 3 #[.int .i64 k, .slice a len ca] w fun e w' => e = .returned (.bool true) ∧ Below w.heap.size w w' := by
  subst hlen
  exact (walkBW k a ca l w ht hs hl hm (by omega)).mono fun e w' ⟨h1, h2⟩ => ⟨h1, h2.below⟩
end Go.Proofs.YtcjnojbjgdechaaGreatDoor
end

section
namespace Go.Proofs.YtcjnojbjgdechaaGreatDoor
open Go.ChangeShapes Go.WideShapes Go.ChangeAt Go.RowKit Go.Hay
set_option linter.unusedVariables false

set_option maxRecDepth 100000 in
theorem blockWritesContract (H : Type) (enc : TypeId × Value → H) (W : World) (base : Nat) (args : Array Value) (ds gs : List (DataW H)) (before : List MemPlace)
    (hval : ∀ (j : Nat) t v, Tryz.f3.params[j]? = some t → args[j]? = some v → Value.okWide Tryz.prog W .any base t v)
    (hW : DataW.Whole enc Tryz.prog Tryz.f3.params.toList Rows.blockWritesSpec.vars false W args.toList ds gs before)
    (hsz : (DataW.weightsEach Tryz.prog (Tryz.f3.params.toList ++ (OpenSpec.ofChange Rows.blockWritesSpec).bare.plain.varTypes Tryz.prog) (ds ++ gs)).all (· ≤ reachBytes) = true)
    (hL : laidMetH Tryz.prog Rows.blockWritesRow.laid W) :
    Calls Tryz.prog 3 args W fun e W' => ∃ v, e = .returned v ∧ Rows.blockWritesSpec.post enc Tryz.prog Tryz.f3 false true false false W args v W' := by
  have hW' := hW
  obtain ⟨p, q, hA0, hV, rfl, hfz, hnd⟩ := hW
  have hA : DataW.TrodAll enc Tryz.prog W 0 (fun _ => true) true Tryz.f3.params.toList args.toList ds p := hA0
  rw [Tryz.params3] at hA hval hsz
  obtain ⟨v0, vs0, d0, ds0, p0, q0, hargs, rfl, rfl, h0, r0⟩ := trodAll_cons hA
  obtain ⟨v1, vs1, d1, ds1, p1, q1, rfl, rfl, rfl, h1, r1⟩ := trodAll_cons r0
  obtain ⟨rfl, rfl, rfl⟩ := trodAll_nil r1
  obtain rfl : args = #[v0, v1] := by cases args; simp_all
  obtain ⟨rfl, rfl⟩ := trodVars_none hV
  obtain ⟨a0, rfl, rfl, rfl, w0⟩ := open_int Tryz.underlying3 (hval 0 3 v0 rfl rfl) h0
  have hb0 := bounds_i64 w0
  obtain ⟨a1, len1, cap1, rfl⟩ := okWide_slice Tryz.underlying22 (hval 1 22 v1 rfl rfl)
  have k1 := h1
  have lt1 : ∀ x ∈ p1, x.block < W.heap.size := by obtain ⟨m, hm⟩ := k1; exact DataW.trod_lt m _ _ _ hm
  obtain ⟨l1, hlen1, hs1, hl1, hm1, hok1⟩ := openVals h1
  have hnil1 := nilVals k1
  have hr1 := reachVals k1 (List.all_eq_true.2 fun x hx => List.all_eq_true.1 hsz x (by simp [DataW.weightsEach]; first | exact .inl hx | exact .inr hx | exact .inr (.inl hx) | exact .inr (.inr hx) | exact hx))
  clear hA0
  refine (writesWalk7 a0 a1 len1 cap1 l1 W (table hL) hs1 hlen1 hl1 hm1 hr1).mono fun e W' ⟨he, bel⟩ => ?_
  subst he
  exact ⟨_, rfl, _, _, _, [], _, [], hW', trodAll_mk1 (shut_bool Tryz.underlying4 _), (trodAll_cons_mk (shut_int Tryz.underlying3 w0) (trodAll_cons_mk (Below.trod Tryz.laidOut (by kernel_rfl) (of_decide_eq_true (by kernel_rfl)) k1 bel lt1) trodAll_mk0)), rfl, bel.frame _, fun h => by cases h⟩

set_option maxRecDepth 100000 in
theorem blockWritesLifted (os : Os) (started : os.Started) (H : Type) (enc : TypeId × Value → H) (F : Stop.Interp) :
    ReturnsInHanded {} Tryz.checked os 3 .any ((OpenSpec.ofChange Rows.blockWritesSpec).preRow enc Tryz.prog Tryz.f3 Rows.blockWritesRow.domain false Rows.blockWritesRow.laid) (((OpenSpec.ofChange Rows.blockWritesSpec).at F).post enc Tryz.prog Tryz.f3 false true false false) := by
  refine returnsInHanded_of_row (C := Tryz.checked) (s := OpenSpec.ofChange Rows.blockWritesSpec) Tryz.own started (by kernel_rfl) Tryz.func3
    (witness_row_at (enc := enc) (C := Tryz.checked) false ({ World.holding Tryz.prog os ⟨#[], #[], []⟩ with heap := (World.holding Tryz.prog os ⟨#[], #[], []⟩).heap.modify 0 fun
      | .cells _ t frozen => .cells tabCells t frozen
      | o => o }) #[.int .i64 0, .slice none 0 0] rfl (by kernel_rfl) (by kernel_rfl) (by kernel_rfl)
      (OpenSpec.preRow_of_cond (x := ([.lit (.int .i64 0), .nil], [], [])) 8 (by kernel_rfl) (by kernel_rfl) (fun k hk => by cases hk) (by kernel_rfl) (laidMet_of_run' 8 (by kernel_rfl) (by kernel_rfl)))) ?_
  intro W base args ds gs before hval hW _ hcond hsz hL _ _
  exact blockWritesContract H enc W base args ds gs before hval hW hsz hL

theorem blockWritesSaid : Rows.BlockWritesSaid :=
  OpenClaim.holds_of_cond 3 Tryz.f3 rfl rfl rfl rfl rfl rfl rfl ⟨rfl, rfl, rfl, rfl, rfl⟩ rfl rfl rfl rfl rfl (by kernel_rfl) Tryz.func3 (by kernel_rfl)
    (of_decide_eq_true (by kernel_rfl)) (by unfold Func.isWrapper; first | (rw [if_pos (by decide +kernel)]; kernel_rfl) | (rw [if_neg (by decide +kernel)]; exact ⟨rfl, rfl⟩))
    (fun os started H enc _ F => by rw [OpenClaim.pre_eq_preRow]; exact blockWritesLifted os started H enc F)

theorem blockWritesPlain (f : FuncId) (fn : Func) (hf : Tryz.pinned.checked.prog.funcNamed "hayloft/hayloftlaw07.BlockWrites" = some f) (hfn : Tryz.pinned.checked.prog.funcs[f]? = some fn) :
    false = Tryz.pinned.checked.prog.looks [] ∧ ∀ (j : Nat) t, fn.params[j]? = some t → Tryz.pinned.checked.prog.wantsStandIn t = false := by
  obtain rfl : f = 3 := Option.some.inj ((show Tryz.prog.funcNamed "hayloft/hayloftlaw07.BlockWrites" = some 3 by kernel_rfl).symm.trans hf) |>.symm
  obtain rfl : fn = Tryz.f3 := (Option.some.inj (Tryz.func3.symm.trans hfn)).symm
  refine ⟨by kernel_rfl, fun j t ht => ?_⟩
  rw [Tryz.params3] at ht
  have hm := Array.mem_of_getElem? ht
  have h2 : t = 3 ∨ t = 22 := by first | (simpa using hm) | (rcases (show t = 3 ∨ t = 22 from by simpa using hm) with h | h <;> simp [h])
  rcases h2 with rfl | rfl
  · exact (show Tryz.prog.wantsStandIn 3 = false by kernel_rfl)
  · exact (show Tryz.prog.wantsStandIn 22 = false by kernel_rfl)

theorem BlockWrites_holds : Rows.BlockWritesCardSaid :=
  Claim7.holds_tied_plain_at .later [] _ _ _ _ blockWritesSaid (fun _ h => by cases h) (by kernel_rfl) (fun _ h => by cases h) blockWrites_row_tie rfl ⟨rfl, rfl⟩ (by kernel_rfl) rfl blockWritesPlain (by kernel_rfl)
#print axioms BlockWrites_holds
end Go.Proofs.YtcjnojbjgdechaaGreatDoor
end

/- The least and the greatest of values: slices.MinFunc, slices.MaxFunc. headOf. headOf. putHead. slices.Compact at values. Contracts of the library, laid at this program. -/
import Derived.Test.YtafcdckpicoppaaGreatDoorB5
import Derived.Deep.RegionHeld3
import Derived.Shelf.SlGeneric
import Derived.Shelf.SlSortCmp.WholeK
import Derived.Shelf.SlicesQ.Index
import Derived.Laws.StructEq
import Derived.Ground.SlsfProg
import Derived.Ground.SlgqProg
import Derived.Test.YtafcdckpicoppaaGreatDoorProg
section
namespace Go.Proofs.YtafcdckpicoppaaGreatDoor
open Go.RowKit Go.Hay
set_option linter.unusedVariables false
set_option linter.unusedSimpArgs false

def minTo (l : List Val) : Nat → Val
  | 0 => l.getD 0 nv
  | j + 1 => if cmpV (l.getD (j + 1) nv) (minTo l j) < 0 then l.getD (j + 1) nv else minTo l j
def maxTo (l : List Val) : Nat → Val
  | 0 => l.getD 0 nv
  | j + 1 => if 0 < cmpV (l.getD (j + 1) nv) (maxTo l j) then l.getD (j + 1) nv else maxTo l j
def minV (l : List Val) : Val := minTo l (l.length - 1)
def maxV (l : List Val) : Val := maxTo l (l.length - 1)
set_option maxHeartbeats 8000000 in
set_option maxRecDepth 100000 in
theorem cMinV (a : Option Addr) (ca : Nat) (l : List Val) (w : World) (ha : Vals w a l) (h0 : 0 < l.length) (hl : l.length ≤ 1000000) :
    Calls Tryz.prog 30 #[.slice a l.length ca, .func (.func 20) #[] #[]] w fun e w' => e = .returned (minV l).v ∧ Kp [] w w' := by
  obtain ⟨g, o, rfl, hdrop⟩ := ha.at 0 h0
  clear hdrop
  have hat : Hid (∀ W, Kp [] w W → ∀ j, j < l.length → W.cell? ⟨g, o + j * 4, none⟩ = some (.int .i64 (l.getD j nv).k) ∧ W.cell? ⟨g, o + j * 4 + 1, none⟩ = some (.bool (l.getD j nv).b) ∧ W.cell? ⟨g, o + j * 4 + 2, none⟩ = some (.int .i64 (l.getD j nv).n) ∧ W.cell? ⟨g, o + j * 4 + 3, none⟩ = some (.string (l.getD j nv).t)) := fun W kW j hj => by
    obtain ⟨_, _, e, y0, y1, y2, y3⟩ := (ha.kept kW).at j hj
    cases e
    have eg : l.getD j nv = l[j] := by simp [hj]
    rw [eg]
    exact ⟨y0, y1, y2, y3⟩
  have hF : Hid (minV l = minTo l (l.length - 1)) := rfl
  obtain ⟨F, hFF⟩ : ∃ F, Hid (minV l = F) := ⟨_, rfl⟩
  rw [hFF.out] at hF ⊢
  have kW0 : Kp [] w (w.alloc (.cells #[.int .i64 0, .bool false, .int .i64 0, .string ⟨#[]⟩] 25)) := (Kp.refl _ _).alloc _
  have bA := Box4.new w (.int .i64 0) (.bool false) (.int .i64 0) (.string ⟨#[]⟩) 25
  obtain ⟨w0, hw0⟩ : ∃ w0, w.alloc (.cells #[.int .i64 0, .bool false, .int .i64 0, .string ⟨#[]⟩] 25) = w0 := ⟨_, rfl⟩
  rw [hw0] at kW0 bA
  obtain ⟨a0, a1, a2, a3⟩ := hat.out w0 kW0 0 h0
  rw [Nat.zero_mul, Nat.add_zero] at a0 a1 a2 a3
  have hm0 : Hid (minTo l 0 = l.getD 0 nv) := rfl
  rw [← hm0.out] at a0 a1 a2 a3
  obtain ⟨⟨mk, mb, mn, mt⟩, hm⟩ : ∃ m, Hid (minTo l 0 = m) := ⟨_, rfl⟩
  rw [hm.out] at a0 a1 a2 a3
  dsimp only at a0 a1 a2 a3
  obtain ⟨q, hq⟩ : ∃ q, w0.heap.size = q := ⟨_, rfl⟩
  obtain ⟨w1, hw1⟩ : ∃ w1, w0.alloc (.cells #[.int .i64 mk, .bool mb, .int .i64 mn, .string mt] 25) = w1 := ⟨_, rfl⟩
  have k1 : Kp [] w0 w1 := by rw [← hw1]; exact (Kp.refl _ _).alloc _
  have bM : Box4 w1 q (.int .i64 mk) (.bool mb) (.int .i64 mn) (.string mt) := by rw [← hw1, ← hq]; exact Box4.new _ _ _ _ _ _
  have bA1 := boxKeep bA k1
  have hqw : w.heap.size < q := by rw [← hq]; exact bA.lt
  have kw1 := kW0.trans k1 (by simp)
  have d1 : ¬ (l.length : Int) < 1 := by omega
  clear ha hFF hm0 bA
  go_enter Tryz.func30, Tryz.ntmps30
  go_wp2_with fail
  clear a0 a1 a2 a3 hw0 hw1 hq
  go_loopw [6] (fun i wn => ∃ (j : Nat) (m : Val), j < l.length ∧ i = .int .i64 ((j : Int) + 1) ∧ Hid (minTo l j = m) ∧ Kp [] w wn ∧ Box4 wn w.heap.size (.int .i64 0) (.bool false) (.int .i64 0) (.string ⟨#[]⟩) ∧ Box4 wn q (.int .i64 m.k) (.bool m.b) (.int .i64 m.n) (.string m.t)) (fun i _ => l.length - (intOf i).toNat)
  case atStart => exact ⟨0, ⟨mk, mb, mn, mt⟩, h0, rfl, hm, kw1, bA1, bM⟩
  case round =>
    clear hm kw1 bA1 bM
    obtain ⟨j, ⟨mk, mb, mn, mt⟩, hj, rfl, hm, kn, bA, bM⟩ := hrel
    dsimp only at bM
    by_cases hlt : j + 1 < l.length
    · have hst : Hid (minTo l (j + 1) = if cmpV (l.getD (j + 1) nv) (minTo l j) < 0 then l.getD (j + 1) nv else minTo l j) := rfl
      rw [hm.out] at hst
      have hcy : Hid (∀ W, Kp [] w W → W.cell? ⟨g, o + (j + 1) * 4, none⟩ = some (.int .i64 (l.getD (j + 1) nv).k) ∧ W.cell? ⟨g, o + (j + 1) * 4 + 1, none⟩ = some (.bool (l.getD (j + 1) nv).b) ∧ W.cell? ⟨g, o + (j + 1) * 4 + 2, none⟩ = some (.int .i64 (l.getD (j + 1) nv).n) ∧ W.cell? ⟨g, o + (j + 1) * 4 + 3, none⟩ = some (.string (l.getD (j + 1) nv).t)) := fun W kW => hat.out W kW (j + 1) hlt
      obtain ⟨⟨yk, yb, yn, yt⟩, hy⟩ : ∃ y, Hid (l.getD (j + 1) nv = y) := ⟨_, rfl⟩
      rw [hy.out] at hst
      simp only [hy.out] at hcy
      have cC := fun W => cCompare ⟨yk, yb, yn, yt⟩ ⟨mk, mb, mn, mt⟩ W
      obtain ⟨C, hC⟩ : ∃ C, Hid (cmpV ⟨yk, yb, yn, yt⟩ ⟨mk, mb, mn, mt⟩ = C) := ⟨_, rfl⟩
      simp only [hC.out] at cC
      rw [hC.out] at hst
      unfold Val.v at cC
      dsimp only at cC
      have hcC := hid cC
      have kd : Kp [] w wr.drew := kn.drew
      have kdr : Kp [] wr wr.drew := (Kp.refl _ _).drew
      have hS : Hid (∀ A, Kp [] wr A → (A.cell? ⟨g, o + (j + 1) * 4, none⟩ = some (.int .i64 yk) ∧ A.cell? ⟨g, o + (j + 1) * 4 + 1, none⟩ = some (.bool yb) ∧ A.cell? ⟨g, o + (j + 1) * 4 + 2, none⟩ = some (.int .i64 yn) ∧ A.cell? ⟨g, o + (j + 1) * 4 + 3, none⟩ = some (.string yt)) ∧ (A.cell? ⟨q, 0, none⟩ = some (.int .i64 mk) ∧ A.cell? ⟨q, 1, none⟩ = some (.bool mb) ∧ A.cell? ⟨q, 2, none⟩ = some (.int .i64 mn) ∧ A.cell? ⟨q, 3, none⟩ = some (.string mt))) := fun A kA => ⟨hcy.out A (kn.trans kA (by simp)), kpAt kA bM.c0, kpAt kA bM.c1, kpAt kA bM.c2, kpAt kA bM.c3⟩
      have hbA := hid bA
      have hbM := hid bM
      have djl : (j : Int) + 1 < (l.length : Int) := by omega
      have d00 : (0 : Int) ≤ (j : Int) + 1 := by omega
      clear hC cC bA bM hy
      go_wp2_with fail
      refine wp_region_held_drew (S := (fun A => (A.cell? ⟨g, o + (j + 1) * 4, none⟩ = some (.int .i64 yk) ∧ A.cell? ⟨g, o + (j + 1) * 4 + 1, none⟩ = some (.bool yb) ∧ A.cell? ⟨g, o + (j + 1) * 4 + 2, none⟩ = some (.int .i64 yn) ∧ A.cell? ⟨g, o + (j + 1) * 4 + 3, none⟩ = some (.string yt)) ∧ (A.cell? ⟨q, 0, none⟩ = some (.int .i64 mk) ∧ A.cell? ⟨q, 1, none⟩ = some (.bool mb) ∧ A.cell? ⟨q, 2, none⟩ = some (.int .i64 mn) ∧ A.cell? ⟨q, 3, none⟩ = some (.string mt)))) (by kernel_rfl) ?_ (fun hHeld => ?_)
      · exact hS.out _ kdr
      generalize wr.drew = wd at *
      refine wpAnyH_take (i := 0) (v := ?_) rfl (by kernel_rfl) (by kernel_rfl) (by kernel_rfl) (fun _ _ _ h => h) (Or.inl ⟨by rfl, ?_⟩) (by assumption) ?_
      rotate_left
      · intro w hSw; (try dsimp only at hSw); go_simp <;> with_reducible rfl
      try simp only [Act.put, List.getElem_toArray, List.getElem_cons_zero, List.getElem_cons_succ, List.setIfInBounds_toArray, List.set_cons_zero, List.set_cons_succ]
      refine wpAnyH_take (i := 1) (v := ?_) rfl (by kernel_rfl) (by kernel_rfl) (by kernel_rfl) (fun _ _ _ h => h) (Or.inl ⟨by rfl, ?_⟩) (by assumption) ?_
      rotate_left
      · intro w hSw; (try dsimp only at hSw); go_simp <;> with_reducible rfl
      try simp only [Act.put, List.getElem_toArray, List.getElem_cons_zero, List.getElem_cons_succ, List.setIfInBounds_toArray, List.set_cons_zero, List.set_cons_succ]
      refine wpAnyH_take (i := 2) (v := ?_) rfl (by kernel_rfl) (by kernel_rfl) (by kernel_rfl) (fun _ _ _ h => h) (Or.inl ⟨by rfl, ?_⟩) (by assumption) ?_
      rotate_left
      · intro w hSw; (try dsimp only at hSw); go_simp <;> with_reducible rfl
      try simp only [Act.put, List.getElem_toArray, List.getElem_cons_zero, List.getElem_cons_succ, List.setIfInBounds_toArray, List.set_cons_zero, List.set_cons_succ]
      refine wpAnyH_take (i := 3) (v := ?_) rfl (by kernel_rfl) (by kernel_rfl) (by kernel_rfl) (fun _ _ _ h => h) (Or.inl ⟨by rfl, ?_⟩) (by assumption) ?_
      rotate_left
      · intro w hSw; (try dsimp only at hSw); go_simp <;> with_reducible rfl
      try simp only [Act.put, List.getElem_toArray, List.getElem_cons_zero, List.getElem_cons_succ, List.setIfInBounds_toArray, List.set_cons_zero, List.set_cons_succ]
      refine wpAnyH_take (i := 4) (v := ?_) rfl (by kernel_rfl) (by kernel_rfl) (by kernel_rfl) (fun _ _ _ h => h) (Or.inl ⟨by rfl, ?_⟩) (by assumption) ?_
      rotate_left
      · intro w hSw; (try dsimp only at hSw); go_simp <;> with_reducible rfl
      try simp only [Act.put, List.getElem_toArray, List.getElem_cons_zero, List.getElem_cons_succ, List.setIfInBounds_toArray, List.set_cons_zero, List.set_cons_succ]
      refine wpAnyH_take (i := 5) (v := ?_) rfl (by kernel_rfl) (by kernel_rfl) (by kernel_rfl) (fun _ _ _ h => h) (Or.inl ⟨by rfl, ?_⟩) (by assumption) ?_
      rotate_left
      · intro w hSw; (try dsimp only at hSw); go_simp <;> with_reducible rfl
      try simp only [Act.put, List.getElem_toArray, List.getElem_cons_zero, List.getElem_cons_succ, List.setIfInBounds_toArray, List.set_cons_zero, List.set_cons_succ]
      refine wpAnyH_ready (rs := [6]) (by kernel_rfl) (by simp) ?_
      refine AllReadyH.cons rfl (fun K hK => ?_) AllReadyH.nil
      go_simp
      refine (hcC.out wd).mono ?_
      rintro e w2 ⟨rfl, k2⟩
      (try go_wp2_with fail)
      refine hK.out _ _ ?_ (fun hHeld => ?_)
      · exact hS.out _ (kdr.trans k2 (by simp))
      clear hK K
      try simp only [Act.put, List.getElem_toArray, List.getElem_cons_zero, List.getElem_cons_succ, List.setIfInBounds_toArray, List.set_cons_zero, List.set_cons_succ]
      refine wpAnyH_take (i := 7) (v := ?_) rfl (by kernel_rfl) (by kernel_rfl) (by kernel_rfl) (fun _ _ _ h => h) (Or.inl ⟨by rfl, ?_⟩) (by assumption) ?_
      rotate_left
      · intro w hSw; (try dsimp only at hSw); go_simp <;> with_reducible rfl
      try simp only [Act.put, List.getElem_toArray, List.getElem_cons_zero, List.getElem_cons_succ, List.setIfInBounds_toArray, List.set_cons_zero, List.set_cons_succ]
      refine wpAnyH_done (by kernel_rfl) ?_ _
      have kw2 := kd.trans k2 (by simp)
      have k02 := kdr.trans k2 (by simp)
      have bA2 := boxKeep hbA.out k02
      have bM2 := boxKeep hbM.out k02
      clear hHeld hcC
      by_cases hcc : C < 0
      · have hst2 : Hid (minTo l (j + 1) = ⟨yk, yb, yn, yt⟩) := by show _ = _; rw [hst.out, if_pos hcc]
        obtain ⟨⟨y0, y1, y2, y3⟩, _⟩ := hS.out w2 k02
        have f0 := bM2.free 0; have f1 := bM2.free 1; have f2 := bM2.free 2; have f3 := bM2.free 3
        have p0 := bM2.c0; have p1 := bM2.c1; have p2 := bM2.c2; have p3 := bM2.c3
        have hB := bM2.put (.int .i64 yk) (.bool yb) (.int .i64 yn) (.string yt)
        have hqn : w.heap.size ≤ q := by omega
        have kS : Kp [q] w2 ((((w2.setCell ⟨q, 0, none⟩ (.int .i64 yk)).setCell ⟨q, 1, none⟩ (.bool yb)).setCell ⟨q, 2, none⟩ (.int .i64 yn)).setCell ⟨q, 3, none⟩ (.string yt)) := ((((Kp.refl [q] w2).setCell (p := ⟨q, 0, none⟩) (.inl (by simp)) _).setCell (p := ⟨q, 1, none⟩) (.inl (by simp)) _).setCell (p := ⟨q, 2, none⟩) (.inl (by simp)) _).setCell (p := ⟨q, 3, none⟩) (.inl (by simp)) _
        have hA := bA2.kept kS (by simp; omega)
        have kW := kw2.trans kS (fun x hx => .inr (by simp at hx; omega))
        have hN := hid (And.intro kW (And.intro hA hB))
        clear hst bA2 bM2 hB hA kS kW hS hcy
        go_wp2_with fail
        exact ⟨⟨j + 1, ⟨yk, yb, yn, yt⟩, hlt, by go_num, hst2, hN.out.1, hN.out.2.1, hN.out.2.2⟩, by simp [intOf]; omega⟩
      · have hst2 : Hid (minTo l (j + 1) = ⟨mk, mb, mn, mt⟩) := by show _ = _; rw [hst.out, if_neg hcc]
        have hN := hid (And.intro kw2 (And.intro bA2 bM2))
        clear hst bA2 bM2 hS hcy
        go_wp2_with fail
        exact ⟨⟨j + 1, ⟨mk, mb, mn, mt⟩, hlt, by go_num, hst2, hN.out.1, hN.out.2.1, hN.out.2.2⟩, by simp [intOf]; omega⟩
    · have hje : j = l.length - 1 := by omega
      have hFm : Hid (F = ⟨mk, mb, mn, mt⟩) := by show _ = _; rw [hF.out, ← hje]; exact hm.out
      have p0 := bM.c0; have p1 := bM.c1; have p2 := bM.c2; have p3 := bM.c3
      have f0 := bA.free 0; have f1 := bA.free 1; have f2 := bA.free 2; have f3 := bA.free 3
      have q0 := bA.c0; have q1 := bA.c1; have q2 := bA.c2; have q3 := bA.c3
      have djl : ¬ (j : Int) + 1 < (l.length : Int) := by omega
      clear hje hm
      go_wp2_with fail
      refine gen4 (R := fun W => bodyPost _ _ _ _ _ W) bA kn (Nat.le_refl _) _ _ _ _ ?_
      intro W bW kW2
      have r0 := bW.c0; have r1 := bW.c1; have r2 := bW.c2; have r3 := bW.c3
      refine bodyPost_ret (v := Val.v ⟨mk, mb, mn, mt⟩) (by simp [results, Tryz.results30, go_sem, Val.v, r0, r1, r2, r3]) rfl ⟨?_, kW2⟩
      rw [hFm.out]
set_option maxHeartbeats 8000000 in
set_option maxRecDepth 100000 in
theorem cMaxV (a : Option Addr) (ca : Nat) (l : List Val) (w : World) (ha : Vals w a l) (h0 : 0 < l.length) (hl : l.length ≤ 1000000) :
    Calls Tryz.prog 31 #[.slice a l.length ca, .func (.func 20) #[] #[]] w fun e w' => e = .returned (maxV l).v ∧ Kp [] w w' := by
  obtain ⟨g, o, rfl, hdrop⟩ := ha.at 0 h0
  clear hdrop
  have hat : Hid (∀ W, Kp [] w W → ∀ j, j < l.length → W.cell? ⟨g, o + j * 4, none⟩ = some (.int .i64 (l.getD j nv).k) ∧ W.cell? ⟨g, o + j * 4 + 1, none⟩ = some (.bool (l.getD j nv).b) ∧ W.cell? ⟨g, o + j * 4 + 2, none⟩ = some (.int .i64 (l.getD j nv).n) ∧ W.cell? ⟨g, o + j * 4 + 3, none⟩ = some (.string (l.getD j nv).t)) := fun W kW j hj => by
    obtain ⟨_, _, e, y0, y1, y2, y3⟩ := (ha.kept kW).at j hj
    cases e
    have eg : l.getD j nv = l[j] := by simp [hj]
    rw [eg]
    exact ⟨y0, y1, y2, y3⟩
  have hF : Hid (maxV l = maxTo l (l.length - 1)) := rfl
  obtain ⟨F, hFF⟩ : ∃ F, Hid (maxV l = F) := ⟨_, rfl⟩
  rw [hFF.out] at hF ⊢
  have kW0 : Kp [] w (w.alloc (.cells #[.int .i64 0, .bool false, .int .i64 0, .string ⟨#[]⟩] 25)) := (Kp.refl _ _).alloc _
  have bA := Box4.new w (.int .i64 0) (.bool false) (.int .i64 0) (.string ⟨#[]⟩) 25
  obtain ⟨w0, hw0⟩ : ∃ w0, w.alloc (.cells #[.int .i64 0, .bool false, .int .i64 0, .string ⟨#[]⟩] 25) = w0 := ⟨_, rfl⟩
  rw [hw0] at kW0 bA
  obtain ⟨a0, a1, a2, a3⟩ := hat.out w0 kW0 0 h0
  rw [Nat.zero_mul, Nat.add_zero] at a0 a1 a2 a3
  have hm0 : Hid (maxTo l 0 = l.getD 0 nv) := rfl
  rw [← hm0.out] at a0 a1 a2 a3
  obtain ⟨⟨mk, mb, mn, mt⟩, hm⟩ : ∃ m, Hid (maxTo l 0 = m) := ⟨_, rfl⟩
  rw [hm.out] at a0 a1 a2 a3
  dsimp only at a0 a1 a2 a3
  obtain ⟨q, hq⟩ : ∃ q, w0.heap.size = q := ⟨_, rfl⟩
  obtain ⟨w1, hw1⟩ : ∃ w1, w0.alloc (.cells #[.int .i64 mk, .bool mb, .int .i64 mn, .string mt] 25) = w1 := ⟨_, rfl⟩
  have k1 : Kp [] w0 w1 := by rw [← hw1]; exact (Kp.refl _ _).alloc _
  have bM : Box4 w1 q (.int .i64 mk) (.bool mb) (.int .i64 mn) (.string mt) := by rw [← hw1, ← hq]; exact Box4.new _ _ _ _ _ _
  have bA1 := boxKeep bA k1
  have hqw : w.heap.size < q := by rw [← hq]; exact bA.lt
  have kw1 := kW0.trans k1 (by simp)
  have d1 : ¬ (l.length : Int) < 1 := by omega
  clear ha hFF hm0 bA
  go_enter Tryz.func31, Tryz.ntmps31
  go_wp2_with fail
  clear a0 a1 a2 a3 hw0 hw1 hq
  go_loopw [6] (fun i wn => ∃ (j : Nat) (m : Val), j < l.length ∧ i = .int .i64 ((j : Int) + 1) ∧ Hid (maxTo l j = m) ∧ Kp [] w wn ∧ Box4 wn w.heap.size (.int .i64 0) (.bool false) (.int .i64 0) (.string ⟨#[]⟩) ∧ Box4 wn q (.int .i64 m.k) (.bool m.b) (.int .i64 m.n) (.string m.t)) (fun i _ => l.length - (intOf i).toNat)
  case atStart => exact ⟨0, ⟨mk, mb, mn, mt⟩, h0, rfl, hm, kw1, bA1, bM⟩
  case round =>
    clear hm kw1 bA1 bM
    obtain ⟨j, ⟨mk, mb, mn, mt⟩, hj, rfl, hm, kn, bA, bM⟩ := hrel
    dsimp only at bM
    by_cases hlt : j + 1 < l.length
    · have hst : Hid (maxTo l (j + 1) = if 0 < cmpV (l.getD (j + 1) nv) (maxTo l j) then l.getD (j + 1) nv else maxTo l j) := rfl
      rw [hm.out] at hst
      have hcy : Hid (∀ W, Kp [] w W → W.cell? ⟨g, o + (j + 1) * 4, none⟩ = some (.int .i64 (l.getD (j + 1) nv).k) ∧ W.cell? ⟨g, o + (j + 1) * 4 + 1, none⟩ = some (.bool (l.getD (j + 1) nv).b) ∧ W.cell? ⟨g, o + (j + 1) * 4 + 2, none⟩ = some (.int .i64 (l.getD (j + 1) nv).n) ∧ W.cell? ⟨g, o + (j + 1) * 4 + 3, none⟩ = some (.string (l.getD (j + 1) nv).t)) := fun W kW => hat.out W kW (j + 1) hlt
      obtain ⟨⟨yk, yb, yn, yt⟩, hy⟩ : ∃ y, Hid (l.getD (j + 1) nv = y) := ⟨_, rfl⟩
      rw [hy.out] at hst
      simp only [hy.out] at hcy
      have cC := fun W => cCompare ⟨yk, yb, yn, yt⟩ ⟨mk, mb, mn, mt⟩ W
      obtain ⟨C, hC⟩ : ∃ C, Hid (cmpV ⟨yk, yb, yn, yt⟩ ⟨mk, mb, mn, mt⟩ = C) := ⟨_, rfl⟩
      simp only [hC.out] at cC
      rw [hC.out] at hst
      unfold Val.v at cC
      dsimp only at cC
      have hcC := hid cC
      have kd : Kp [] w wr.drew := kn.drew
      have kdr : Kp [] wr wr.drew := (Kp.refl _ _).drew
      have hS : Hid (∀ A, Kp [] wr A → (A.cell? ⟨g, o + (j + 1) * 4, none⟩ = some (.int .i64 yk) ∧ A.cell? ⟨g, o + (j + 1) * 4 + 1, none⟩ = some (.bool yb) ∧ A.cell? ⟨g, o + (j + 1) * 4 + 2, none⟩ = some (.int .i64 yn) ∧ A.cell? ⟨g, o + (j + 1) * 4 + 3, none⟩ = some (.string yt)) ∧ (A.cell? ⟨q, 0, none⟩ = some (.int .i64 mk) ∧ A.cell? ⟨q, 1, none⟩ = some (.bool mb) ∧ A.cell? ⟨q, 2, none⟩ = some (.int .i64 mn) ∧ A.cell? ⟨q, 3, none⟩ = some (.string mt))) := fun A kA => ⟨hcy.out A (kn.trans kA (by simp)), kpAt kA bM.c0, kpAt kA bM.c1, kpAt kA bM.c2, kpAt kA bM.c3⟩
      have hbA := hid bA
      have hbM := hid bM
      have djl : (j : Int) + 1 < (l.length : Int) := by omega
      have d00 : (0 : Int) ≤ (j : Int) + 1 := by omega
      clear hC cC bA bM hy
      go_wp2_with fail
      refine wp_region_held_drew (S := (fun A => (A.cell? ⟨g, o + (j + 1) * 4, none⟩ = some (.int .i64 yk) ∧ A.cell? ⟨g, o + (j + 1) * 4 + 1, none⟩ = some (.bool yb) ∧ A.cell? ⟨g, o + (j + 1) * 4 + 2, none⟩ = some (.int .i64 yn) ∧ A.cell? ⟨g, o + (j + 1) * 4 + 3, none⟩ = some (.string yt)) ∧ (A.cell? ⟨q, 0, none⟩ = some (.int .i64 mk) ∧ A.cell? ⟨q, 1, none⟩ = some (.bool mb) ∧ A.cell? ⟨q, 2, none⟩ = some (.int .i64 mn) ∧ A.cell? ⟨q, 3, none⟩ = some (.string mt)))) (by kernel_rfl) ?_ (fun hHeld => ?_)
      · exact hS.out _ kdr
      generalize wr.drew = wd at *
      refine wpAnyH_take (i := 0) (v := ?_) rfl (by kernel_rfl) (by kernel_rfl) (by kernel_rfl) (fun _ _ _ h => h) (Or.inl ⟨by rfl, ?_⟩) (by assumption) ?_
      rotate_left
      · intro w hSw; (try dsimp only at hSw); go_simp <;> with_reducible rfl
      try simp only [Act.put, List.getElem_toArray, List.getElem_cons_zero, List.getElem_cons_succ, List.setIfInBounds_toArray, List.set_cons_zero, List.set_cons_succ]
      refine wpAnyH_take (i := 1) (v := ?_) rfl (by kernel_rfl) (by kernel_rfl) (by kernel_rfl) (fun _ _ _ h => h) (Or.inl ⟨by rfl, ?_⟩) (by assumption) ?_
      rotate_left
      · intro w hSw; (try dsimp only at hSw); go_simp <;> with_reducible rfl
      try simp only [Act.put, List.getElem_toArray, List.getElem_cons_zero, List.getElem_cons_succ, List.setIfInBounds_toArray, List.set_cons_zero, List.set_cons_succ]
      refine wpAnyH_take (i := 2) (v := ?_) rfl (by kernel_rfl) (by kernel_rfl) (by kernel_rfl) (fun _ _ _ h => h) (Or.inl ⟨by rfl, ?_⟩) (by assumption) ?_
      rotate_left
      · intro w hSw; (try dsimp only at hSw); go_simp <;> with_reducible rfl
      try simp only [Act.put, List.getElem_toArray, List.getElem_cons_zero, List.getElem_cons_succ, List.setIfInBounds_toArray, List.set_cons_zero, List.set_cons_succ]
      refine wpAnyH_take (i := 3) (v := ?_) rfl (by kernel_rfl) (by kernel_rfl) (by kernel_rfl) (fun _ _ _ h => h) (Or.inl ⟨by rfl, ?_⟩) (by assumption) ?_
      rotate_left
      · intro w hSw; (try dsimp only at hSw); go_simp <;> with_reducible rfl
      try simp only [Act.put, List.getElem_toArray, List.getElem_cons_zero, List.getElem_cons_succ, List.setIfInBounds_toArray, List.set_cons_zero, List.set_cons_succ]
      refine wpAnyH_take (i := 4) (v := ?_) rfl (by kernel_rfl) (by kernel_rfl) (by kernel_rfl) (fun _ _ _ h => h) (Or.inl ⟨by rfl, ?_⟩) (by assumption) ?_
      rotate_left
      · intro w hSw; (try dsimp only at hSw); go_simp <;> with_reducible rfl
      try simp only [Act.put, List.getElem_toArray, List.getElem_cons_zero, List.getElem_cons_succ, List.setIfInBounds_toArray, List.set_cons_zero, List.set_cons_succ]
      refine wpAnyH_take (i := 5) (v := ?_) rfl (by kernel_rfl) (by kernel_rfl) (by kernel_rfl) (fun _ _ _ h => h) (Or.inl ⟨by rfl, ?_⟩) (by assumption) ?_
      rotate_left
      · intro w hSw; (try dsimp only at hSw); go_simp <;> with_reducible rfl
      try simp only [Act.put, List.getElem_toArray, List.getElem_cons_zero, List.getElem_cons_succ, List.setIfInBounds_toArray, List.set_cons_zero, List.set_cons_succ]
      refine wpAnyH_ready (rs := [6]) (by kernel_rfl) (by simp) ?_
      refine AllReadyH.cons rfl (fun K hK => ?_) AllReadyH.nil
      go_simp
      refine (hcC.out wd).mono ?_
      rintro e w2 ⟨rfl, k2⟩
      (try go_wp2_with fail)
      refine hK.out _ _ ?_ (fun hHeld => ?_)
      · exact hS.out _ (kdr.trans k2 (by simp))
      clear hK K
      try simp only [Act.put, List.getElem_toArray, List.getElem_cons_zero, List.getElem_cons_succ, List.setIfInBounds_toArray, List.set_cons_zero, List.set_cons_succ]
      refine wpAnyH_take (i := 7) (v := ?_) rfl (by kernel_rfl) (by kernel_rfl) (by kernel_rfl) (fun _ _ _ h => h) (Or.inl ⟨by rfl, ?_⟩) (by assumption) ?_
      rotate_left
      · intro w hSw; (try dsimp only at hSw); go_simp <;> with_reducible rfl
      try simp only [Act.put, List.getElem_toArray, List.getElem_cons_zero, List.getElem_cons_succ, List.setIfInBounds_toArray, List.set_cons_zero, List.set_cons_succ]
      refine wpAnyH_done (by kernel_rfl) ?_ _
      have kw2 := kd.trans k2 (by simp)
      have k02 := kdr.trans k2 (by simp)
      have bA2 := boxKeep hbA.out k02
      have bM2 := boxKeep hbM.out k02
      clear hHeld hcC
      by_cases hcc : 0 < C
      · have hst2 : Hid (maxTo l (j + 1) = ⟨yk, yb, yn, yt⟩) := by show _ = _; rw [hst.out, if_pos hcc]
        obtain ⟨⟨y0, y1, y2, y3⟩, _⟩ := hS.out w2 k02
        have f0 := bM2.free 0; have f1 := bM2.free 1; have f2 := bM2.free 2; have f3 := bM2.free 3
        have p0 := bM2.c0; have p1 := bM2.c1; have p2 := bM2.c2; have p3 := bM2.c3
        have hB := bM2.put (.int .i64 yk) (.bool yb) (.int .i64 yn) (.string yt)
        have hqn : w.heap.size ≤ q := by omega
        have kS : Kp [q] w2 ((((w2.setCell ⟨q, 0, none⟩ (.int .i64 yk)).setCell ⟨q, 1, none⟩ (.bool yb)).setCell ⟨q, 2, none⟩ (.int .i64 yn)).setCell ⟨q, 3, none⟩ (.string yt)) := ((((Kp.refl [q] w2).setCell (p := ⟨q, 0, none⟩) (.inl (by simp)) _).setCell (p := ⟨q, 1, none⟩) (.inl (by simp)) _).setCell (p := ⟨q, 2, none⟩) (.inl (by simp)) _).setCell (p := ⟨q, 3, none⟩) (.inl (by simp)) _
        have hA := bA2.kept kS (by simp; omega)
        have kW := kw2.trans kS (fun x hx => .inr (by simp at hx; omega))
        have hN := hid (And.intro kW (And.intro hA hB))
        clear hst bA2 bM2 hB hA kS kW hS hcy
        go_wp2_with fail
        exact ⟨⟨j + 1, ⟨yk, yb, yn, yt⟩, hlt, by go_num, hst2, hN.out.1, hN.out.2.1, hN.out.2.2⟩, by simp [intOf]; omega⟩
      · have hst2 : Hid (maxTo l (j + 1) = ⟨mk, mb, mn, mt⟩) := by show _ = _; rw [hst.out, if_neg hcc]
        have hN := hid (And.intro kw2 (And.intro bA2 bM2))
        clear hst bA2 bM2 hS hcy
        go_wp2_with fail
        exact ⟨⟨j + 1, ⟨mk, mb, mn, mt⟩, hlt, by go_num, hst2, hN.out.1, hN.out.2.1, hN.out.2.2⟩, by simp [intOf]; omega⟩
    · have hje : j = l.length - 1 := by omega
      have hFm : Hid (F = ⟨mk, mb, mn, mt⟩) := by show _ = _; rw [hF.out, ← hje]; exact hm.out
      have p0 := bM.c0; have p1 := bM.c1; have p2 := bM.c2; have p3 := bM.c3
      have f0 := bA.free 0; have f1 := bA.free 1; have f2 := bA.free 2; have f3 := bA.free 3
      have q0 := bA.c0; have q1 := bA.c1; have q2 := bA.c2; have q3 := bA.c3
      have djl : ¬ (j : Int) + 1 < (l.length : Int) := by omega
      clear hje hm
      go_wp2_with fail
      refine gen4 (R := fun W => bodyPost _ _ _ _ _ W) bA kn (Nat.le_refl _) _ _ _ _ ?_
      intro W bW kW2
      have r0 := bW.c0; have r1 := bW.c1; have r2 := bW.c2; have r3 := bW.c3
      refine bodyPost_ret (v := Val.v ⟨mk, mb, mn, mt⟩) (by simp [results, Tryz.results31, go_sem, Val.v, r0, r1, r2, r3]) rfl ⟨?_, kW2⟩
      rw [hFm.out]
end Go.Proofs.YtafcdckpicoppaaGreatDoor
end

section
namespace Go.Proofs.YtafcdckpicoppaaGreatDoor
open Go.RowKit Go.Hay
set_option linter.unusedVariables false
set_option linter.unusedSimpArgs false

/-- What stands at a block's head. -/
structure Inf where
  kind : Int
  many : Int
  mn : Val
  mx : Val
  nulls : Int
  bytes : Int
def Inf.cs (i : Inf) : List Value := [.int .i64 i.kind, .int .i64 i.many, .int .i64 i.mn.k, .bool i.mn.b, .int .i64 i.mn.n, .string i.mn.t, .int .i64 i.mx.k, .bool i.mx.b, .int .i64 i.mx.n, .string i.mx.t, .int .i64 i.nulls, .int .i64 i.bytes]
def Inf.v (i : Inf) : Value := .agg i.cs.toArray
/-- A variable's block of any number of cells. -/
structure Bx (w : World) (q : Nat) (cs : List Value) : Prop where
  get : ∀ i u, cs[i]? = some u → w.cell? ⟨q, i, none⟩ = some u
  free : ∀ i, w.frozen? ⟨q, i, none⟩ = false
theorem Bx.new (w : World) (cs : List Value) (t : TypeId) : Bx (w.alloc (.cells cs.toArray t)) w.heap.size cs :=
  ⟨fun i u hu => by
    have e : (w.alloc (.cells cs.toArray t)).cell? ⟨w.heap.size, i, none⟩ = _ := World.cell?_alloc_new w _ _ i
    rw [e]; simpa using hu, fun i => World.frozen?_alloc_new w _ _ i⟩
theorem Bx.lt {w : World} {q : Nat} {cs : List Value} (h : Bx w q cs) (hn : 0 < cs.length) : q < w.heap.size := World.block_lt_of_cell? _ _ (h.get 0 cs[0] (by simp [hn]))
theorem Bx.kept {w w' : World} {S : List Nat} {q : Nat} {cs : List Value} (h : Bx w q cs) (hk : Kp S w w') (hq : q ∉ S) (hl : q < w.heap.size) : Bx w' q cs :=
  ⟨fun i u hu => (hk.cell (p := ⟨q, i, none⟩) hl hq).trans (h.get i u hu), fun i => (hk.frozen (p := ⟨q, i, none⟩) hl hq).trans (h.free i)⟩
theorem Bx.set {w : World} {q : Nat} {cs : List Value} (h : Bx w q cs) (i : Nat) (hi : i < cs.length) (v : Value) : Bx (w.setCell ⟨q, i, none⟩ v) q (cs.set i v) :=
  ⟨fun j u hu => by
    by_cases e : j = i
    · subst e
      rw [List.getElem?_set_self hi] at hu
      cases hu
      exact World.cell?_setCell_same _ _ _ (h.get j cs[j] (by simp [hi]))
    · rw [List.getElem?_set_ne (fun h => e h.symm)] at hu
      rw [World.cell?_setCell_other _ _ _ _ (by intro h; simp only [Addr.mk.injEq] at h; omega)]
      exact h.get j u hu, fun j => by rw [World.frozen?_setCell]; exact h.free j⟩
theorem gen12 {w0 w : World} {q : Nat} {cs : List Value} {R : World → Prop} (h : Bx w q cs) (hl : cs.length = 12) (hk : Kp [] w0 w) (hq : w0.heap.size ≤ q) (v0 v1 v2 v3 v4 v5 v6 v7 v8 v9 v10 v11 : Value)
    (H : ∀ W, Bx W q [v0, v1, v2, v3, v4, v5, v6, v7, v8, v9, v10, v11] → Kp [] w0 W → R W) : R ((((((((((((w.setCell ⟨q, 0, none⟩ (v0)).setCell ⟨q, 1, none⟩ (v1)).setCell ⟨q, 2, none⟩ (v2)).setCell ⟨q, 3, none⟩ (v3)).setCell ⟨q, 4, none⟩ (v4)).setCell ⟨q, 5, none⟩ (v5)).setCell ⟨q, 6, none⟩ (v6)).setCell ⟨q, 7, none⟩ (v7)).setCell ⟨q, 8, none⟩ (v8)).setCell ⟨q, 9, none⟩ (v9)).setCell ⟨q, 10, none⟩ (v10)).setCell ⟨q, 11, none⟩ (v11)) := by
  refine H _ ?_ ?_
  · have e : [v0, v1, v2, v3, v4, v5, v6, v7, v8, v9, v10, v11] = (((((((((((cs.set 0 v0).set 1 v1).set 2 v2).set 3 v3).set 4 v4).set 5 v5).set 6 v6).set 7 v7).set 8 v8).set 9 v9).set 10 v10).set 11 v11 := by
      match cs, hl with
      | [_, _, _, _, _, _, _, _, _, _, _, _], _ => rfl
    rw [e]
    exact (((((((((((h.set 0 (by simp [hl]) _).set 1 (by simp [hl]) _).set 2 (by simp [hl]) _).set 3 (by simp [hl]) _).set 4 (by simp [hl]) _).set 5 (by simp [hl]) _).set 6 (by simp [hl]) _).set 7 (by simp [hl]) _).set 8 (by simp [hl]) _).set 9 (by simp [hl]) _).set 10 (by simp [hl]) _).set 11 (by simp [hl]) _
  · exact (((((((((((hk.setCell (.inr hq) _).setCell (.inr hq) _).setCell (.inr hq) _).setCell (.inr hq) _).setCell (.inr hq) _).setCell (.inr hq) _).setCell (.inr hq) _).setCell (.inr hq) _).setCell (.inr hq) _).setCell (.inr hq) _).setCell (.inr hq) _).setCell (.inr hq) _
theorem gen12q {w : World} {q : Nat} {cs : List Value} {R : World → Prop} (h : Bx w q cs) (hl : cs.length = 12) (v0 v1 v2 v3 v4 v5 v6 v7 v8 v9 v10 v11 : Value)
    (H : ∀ W, Bx W q [v0, v1, v2, v3, v4, v5, v6, v7, v8, v9, v10, v11] → Kp [q] w W → R W) : R ((((((((((((w.setCell ⟨q, 0, none⟩ (v0)).setCell ⟨q, 1, none⟩ (v1)).setCell ⟨q, 2, none⟩ (v2)).setCell ⟨q, 3, none⟩ (v3)).setCell ⟨q, 4, none⟩ (v4)).setCell ⟨q, 5, none⟩ (v5)).setCell ⟨q, 6, none⟩ (v6)).setCell ⟨q, 7, none⟩ (v7)).setCell ⟨q, 8, none⟩ (v8)).setCell ⟨q, 9, none⟩ (v9)).setCell ⟨q, 10, none⟩ (v10)).setCell ⟨q, 11, none⟩ (v11)) := by
  refine H _ ?_ ?_
  · have e : [v0, v1, v2, v3, v4, v5, v6, v7, v8, v9, v10, v11] = (((((((((((cs.set 0 v0).set 1 v1).set 2 v2).set 3 v3).set 4 v4).set 5 v5).set 6 v6).set 7 v7).set 8 v8).set 9 v9).set 10 v10).set 11 v11 := by
      match cs, hl with
      | [_, _, _, _, _, _, _, _, _, _, _, _], _ => rfl
    rw [e]
    exact (((((((((((h.set 0 (by simp [hl]) _).set 1 (by simp [hl]) _).set 2 (by simp [hl]) _).set 3 (by simp [hl]) _).set 4 (by simp [hl]) _).set 5 (by simp [hl]) _).set 6 (by simp [hl]) _).set 7 (by simp [hl]) _).set 8 (by simp [hl]) _).set 9 (by simp [hl]) _).set 10 (by simp [hl]) _).set 11 (by simp [hl]) _
  · have hk : Kp [q] w w := Kp.refl _ _
    exact (((((((((((hk.setCell (.inl (by simp)) _).setCell (.inl (by simp)) _).setCell (.inl (by simp)) _).setCell (.inl (by simp)) _).setCell (.inl (by simp)) _).setCell (.inl (by simp)) _).setCell (.inl (by simp)) _).setCell (.inl (by simp)) _).setCell (.inl (by simp)) _).setCell (.inl (by simp)) _).setCell (.inl (by simp)) _).setCell (.inl (by simp)) _
def nullsV (l : List Val) : Nat := l.countP fun x => x.k == 0
end Go.Proofs.YtafcdckpicoppaaGreatDoor
end

section
namespace Go.Proofs.YtafcdckpicoppaaGreatDoor
open Go.RowKit Go.Hay
set_option linter.unusedVariables false
set_option linter.unusedSimpArgs false

theorem nulls_take (l : List Val) (j : Nat) (h : j < l.length) : nullsV (l.take (j + 1)) = nullsV (l.take j) + (if l[j].k = 0 then 1 else 0) := by
  unfold nullsV
  rw [List.take_succ_eq_append_getElem h, List.countP_append]
  simp
theorem nulls_le (l : List Val) : nullsV l ≤ l.length := List.countP_le_length
set_option maxHeartbeats 16000000 in
set_option maxRecDepth 100000 in
theorem cHeadOf (k : Int) (a : Option Addr) (ca : Nat) (l : List Val) (w : World) (ha : Vals w a l) (h0 : 0 < l.length) (hl : l.length ≤ 1000000) :
    Calls Tryz.prog 13 #[.int .i64 k, .slice a l.length ca] w fun e w' => e = .returned (Inf.v ⟨k, l.length, minV l, maxV l, nullsV l, 0⟩) ∧ Kp [] w w' := by
  obtain ⟨w0, hw0⟩ : ∃ w0, w.alloc (.cells #[.int .i64 0, .int .i64 0, .int .i64 0, .bool false, .int .i64 0, .string ⟨#[]⟩, .int .i64 0, .bool false, .int .i64 0, .string ⟨#[]⟩, .int .i64 0, .int .i64 0] 35) = w0 := ⟨_, rfl⟩
  have kW0 : Kp [] w w0 := by rw [← hw0]; exact (Kp.refl _ _).alloc _
  have bR : Bx w0 w.heap.size [.int .i64 0, .int .i64 0, .int .i64 0, .bool false, .int .i64 0, .string ⟨#[]⟩, .int .i64 0, .bool false, .int .i64 0, .string ⟨#[]⟩, .int .i64 0, .int .i64 0] := by rw [← hw0]; exact Bx.new w _ _
  have cMn := cMinV a ca l w0 (ha.kept kW0) h0 hl
  have hMx : Hid (∀ W, Kp [] w W → Calls Tryz.prog 31 #[.slice a l.length ca, .func (.func 20) #[] #[]] W fun e w' => e = .returned (maxV l).v ∧ Kp [] W w') := fun W kW => cMaxV a ca l W (ha.kept kW) h0 hl
  obtain ⟨⟨xk, xb, xn, xt⟩, hmn⟩ : ∃ m, Hid (minV l = m) := ⟨_, rfl⟩
  obtain ⟨⟨yk, yb, yn, yt⟩, hmx⟩ : ∃ m, Hid (maxV l = m) := ⟨_, rfl⟩
  rw [hmn.out] at cMn ⊢
  rw [hmx.out]
  simp only [hmx.out] at hMx
  unfold Val.v at cMn hMx
  dsimp only at cMn hMx
  have ha' := hid ha
  clear ha hmn hmx
  go_enter Tryz.func13, Tryz.ntmps13
  go_wp2_with fail
  refine cMn.mono ?_
  rintro e w1 ⟨rfl, k1⟩
  have kw1 := kW0.trans k1 (by simp)
  have cMx := hMx.out w1 kw1
  clear cMn hMx hw0
  go_wp2_with fail
  refine cMx.mono ?_
  rintro e w2 ⟨rfl, k2⟩
  have kw2 := kw1.trans k2 (by simp)
  have hR0 : w.heap.size < w0.heap.size := bR.lt (by simp)
  obtain ⟨q, hq⟩ : ∃ q, w2.heap.size = q := ⟨_, rfl⟩
  have hqR : w.heap.size < q := by have := k1.size; have := k2.size; omega
  obtain ⟨wz, hwz⟩ : ∃ wz, w2.alloc (.cells #[.int .i64 0, .int .i64 0, .int .i64 0, .bool false, .int .i64 0, .string ⟨#[]⟩, .int .i64 0, .bool false, .int .i64 0, .string ⟨#[]⟩, .int .i64 0, .int .i64 0] 35) = wz := ⟨_, rfl⟩
  have kz : Kp [] w2 wz := by rw [← hwz]; exact (Kp.refl _ _).alloc _
  have bZ : Bx wz q [.int .i64 0, .int .i64 0, .int .i64 0, .bool false, .int .i64 0, .string ⟨#[]⟩, .int .i64 0, .bool false, .int .i64 0, .string ⟨#[]⟩, .int .i64 0, .int .i64 0] := by rw [← hwz, ← hq]; exact Bx.new w2 _ _
  have k0z := (k1.trans k2 (by simp)).trans kz (by simp)
  have bRz := bR.kept k0z (by simp) hR0
  have kwz := kw2.trans kz (by simp)
  have hbZ := hid bZ
  have hbRz := hid bRz
  have z0 := bZ.get 0 _ rfl
  have z1 := bZ.get 1 _ rfl
  have z2 := bZ.get 2 _ rfl
  have z3 := bZ.get 3 _ rfl
  have z4 := bZ.get 4 _ rfl
  have z5 := bZ.get 5 _ rfl
  have z6 := bZ.get 6 _ rfl
  have z7 := bZ.get 7 _ rfl
  have z8 := bZ.get 8 _ rfl
  have z9 := bZ.get 9 _ rfl
  have z10 := bZ.get 10 _ rfl
  have z11 := bZ.get 11 _ rfl
  have f0 := bZ.free 0
  have f1 := bZ.free 1
  have f2 := bZ.free 2
  have f3 := bZ.free 3
  have f4 := bZ.free 4
  have f5 := bZ.free 5
  have f6 := bZ.free 6
  have f7 := bZ.free 7
  have f8 := bZ.free 8
  have f9 := bZ.free 9
  have f10 := bZ.free 10
  have f11 := bZ.free 11
  clear cMx k1 k2 bR kw1 kw2 kW0 kz k0z bZ bRz
  go_wp2_with fail
  refine gen12q (R := fun W => Code.wp _ _ _ _ W) hbZ.out rfl _ _ _ _ _ _ _ _ _ _ _ _ ?_
  intro w3 bQ kq3
  have bR3 := hbRz.out.kept kq3 (by simp; omega) (hbRz.out.lt (by simp))
  have kw3 := kwz.trans kq3 (fun x hx => .inr (by simp at hx; omega))
  clear hbZ hbRz kq3 hwz hq kwz z0 f0 z1 f1 z2 f2 z3 f3 z4 f4 z5 f5 z6 f6 z7 f7 z8 f8 z9 f9 z10 f10 z11 f11
  go_wp2_with fail
  go_loopw [18] (fun i wn => ∃ (j n : Nat), j ≤ l.length ∧ i = .int .i64 j ∧ Hid (nullsV (l.take j) = n) ∧ n ≤ j ∧ Kp [] w wn ∧ Bx wn w.heap.size [.int .i64 0, .int .i64 0, .int .i64 0, .bool false, .int .i64 0, .string ⟨#[]⟩, .int .i64 0, .bool false, .int .i64 0, .string ⟨#[]⟩, .int .i64 0, .int .i64 0] ∧ Bx wn q [.int .i64 k, .int .i64 (l.length : Int), .int .i64 xk, .bool xb, .int .i64 xn, .string xt, .int .i64 yk, .bool yb, .int .i64 yn, .string yt, .int .i64 (n : Int), .int .i64 0]) (fun i _ => l.length - (intOf i).toNat)
  case atStart => exact ⟨0, 0, Nat.zero_le _, rfl, by show _ = _; simp [nullsV], Nat.le_refl _, kw3, bR3, bQ⟩
  case round =>
    clear kw3 bR3 bQ
    obtain ⟨j, n, hj, rfl, hn, hnj, kn, bR, bQ⟩ := hrel
    by_cases hlt : j < l.length
    · obtain ⟨g, o, rfl, a0, a1, a2, a3⟩ := (ha'.out.kept kn).at j hlt
      have hst := hid (nulls_take l j hlt)
      rw [hn.out] at hst
      obtain ⟨⟨vk, vb, vn, vt⟩, hv⟩ : ∃ v, Hid (l[j]'hlt = v) := ⟨_, rfl⟩
      rw [hv.out] at a0 a1 a2 a3 hst
      dsimp only at a0 a1 a2 a3 hst
      obtain ⟨wb, hwb⟩ : ∃ wb, wr.alloc (.cells #[.int .i64 vk, .bool vb, .int .i64 vn, .string vt] 25) = wb := ⟨_, rfl⟩
      have kb : Kp [] wr wb := by rw [← hwb]; exact (Kp.refl _ _).alloc _
      have bx : Box4 wb wr.heap.size (.int .i64 vk) (.bool vb) (.int .i64 vn) (.string vt) := by rw [← hwb]; exact Box4.new _ _ _ _ _ _
      have p0 := bx.c0
      have bR2 := bR.kept kb (by simp) (bR.lt (by simp))
      have bQ2 := bQ.kept kb (by simp) (bQ.lt (by simp))
      have kwb := kn.trans kb (by simp)
      have hbx := hid bx
      clear hv bR bQ bx kb hn
      by_cases hv0 : vk = 0
      · subst hv0
        have hst2 : Hid (nullsV (l.take (j + 1)) = n + 1) := by show _ = _; rw [hst.out, if_pos rfl]
        have c10 := bQ2.get 10 (.int .i64 (n : Int)) rfl
        have f10 := bQ2.free 10
        have hB := bQ2.set 10 (by simp) (.int .i64 ((n : Int) + 1))
        have kS : Kp [q] wb (wb.setCell ⟨q, 10, none⟩ (.int .i64 ((n : Int) + 1))) := (Kp.refl [q] wb).setCell (p := ⟨q, 10, none⟩) (.inl (by simp)) _
        have hA := bR2.kept kS (by simp; omega) (bR2.lt (by simp))
        have kW := kwb.trans kS (fun x hx => .inr (by simp at hx; omega))
        have hN := hid (And.intro kW (And.intro hA hB))
        clear hst bR2 bQ2 hB hA kS kW
        go_wp2_with fail
        exact ⟨⟨j + 1, n + 1, by omega, by go_num, hst2, by omega, hN.out.1, hN.out.2.1, hN.out.2.2⟩, by simp [intOf]; omega⟩
      · have hst2 : Hid (nullsV (l.take (j + 1)) = n) := by show _ = _; rw [hst.out, if_neg hv0]; rfl
        have d0 : (vk == 0) = false := by simpa using hv0
        have hN := hid (And.intro kwb (And.intro bR2 bQ2))
        clear hst bR2 bQ2
        go_wp2_with fail
        exact ⟨⟨j + 1, n, by omega, by go_num, hst2, by omega, hN.out.1, hN.out.2.1, hN.out.2.2⟩, by simp [intOf]; omega⟩
    · obtain rfl : j = l.length := by omega
      rw [List.take_length] at hn
      have p0 := bQ.get 0 _ rfl
      have p1 := bQ.get 1 _ rfl
      have p2 := bQ.get 2 _ rfl
      have p3 := bQ.get 3 _ rfl
      have p4 := bQ.get 4 _ rfl
      have p5 := bQ.get 5 _ rfl
      have p6 := bQ.get 6 _ rfl
      have p7 := bQ.get 7 _ rfl
      have p8 := bQ.get 8 _ rfl
      have p9 := bQ.get 9 _ rfl
      have p10 := bQ.get 10 _ rfl
      have p11 := bQ.get 11 _ rfl
      have f0 := bR.free 0
      have f1 := bR.free 1
      have f2 := bR.free 2
      have f3 := bR.free 3
      have f4 := bR.free 4
      have f5 := bR.free 5
      have f6 := bR.free 6
      have f7 := bR.free 7
      have f8 := bR.free 8
      have f9 := bR.free 9
      have f10 := bR.free 10
      have f11 := bR.free 11
      have q0 := bR.get 0 _ rfl
      have q1 := bR.get 1 _ rfl
      have q2 := bR.get 2 _ rfl
      have q3 := bR.get 3 _ rfl
      have q4 := bR.get 4 _ rfl
      have q5 := bR.get 5 _ rfl
      have q6 := bR.get 6 _ rfl
      have q7 := bR.get 7 _ rfl
      have q8 := bR.get 8 _ rfl
      have q9 := bR.get 9 _ rfl
      have q10 := bR.get 10 _ rfl
      have q11 := bR.get 11 _ rfl
      have hbR := hid bR
      clear bQ bR
      go_wp2_with fail
      refine gen12 (R := fun W => bodyPost _ _ _ _ _ W) hbR.out rfl kn (Nat.le_refl _) _ _ _ _ _ _ _ _ _ _ _ _ ?_
      intro W bW kW2
      have r0 := bW.get 0 _ rfl
      have r1 := bW.get 1 _ rfl
      have r2 := bW.get 2 _ rfl
      have r3 := bW.get 3 _ rfl
      have r4 := bW.get 4 _ rfl
      have r5 := bW.get 5 _ rfl
      have r6 := bW.get 6 _ rfl
      have r7 := bW.get 7 _ rfl
      have r8 := bW.get 8 _ rfl
      have r9 := bW.get 9 _ rfl
      have r10 := bW.get 10 _ rfl
      have r11 := bW.get 11 _ rfl
      refine bodyPost_ret (v := Inf.v ⟨k, l.length, ⟨xk, xb, xn, xt⟩, ⟨yk, yb, yn, yt⟩, n, 0⟩) (by simp [results, Tryz.results13, go_sem, Inf.v, Inf.cs, r0, r1, r2, r3, r4, r5, r6, r7, r8, r9, r10, r11]) rfl ⟨by rw [hn.out], kW2⟩
end Go.Proofs.YtafcdckpicoppaaGreatDoor
end

section
namespace Go.Proofs.YtafcdckpicoppaaGreatDoor
open Go.RowKit Go.Hay
set_option linter.unusedVariables false
set_option linter.unusedSimpArgs false

theorem bxWrote {p q : Nat} {v v' : Value} {w w' : World} {cs : List Value} (h : Bx w q cs) (hn : 0 < cs.length) (hq : q ∉ p :: own v) (hr : Wrote p v w v' w') : Bx w' q cs ∧ q ∉ p :: own v' := by
  have hl := h.lt hn
  refine ⟨h.kept hr.kp hq hl, fun hm => ?_⟩
  rcases List.mem_cons.1 hm with e | e
  · exact hq (by simp [e])
  · rcases hr.new q e with h1 | h1
    · exact hq (by simp [h1])
    · omega
theorem wrap8 {k : Int} (h0 : 0 ≤ k) (h1 : k ≤ 255) : IntKind.u8.wrap k = k := by rw [IntKind.wrap_u8]; omega
set_option maxHeartbeats 8000000 in
set_option maxRecDepth 100000 in
theorem bPutHead (p : Nat) (v : Value) (bs : List UInt8) (i : Inf) (n : Nat) (w : World) (h : Wr w p v bs) (hb : bs.length ≤ 1000) (r1 : i.mn.right = true) (r2 : i.mx.right = true)
    (k0 : 0 ≤ i.kind) (k1 : i.kind ≤ 255) (m0 : 0 ≤ i.many) (m1 : i.many ≤ 255) (n0 : 0 ≤ i.nulls) (n1 : i.nulls ≤ 255) (hn : n < 65536) :
    Calls Tryz.prog 12 #[.pointer (some ⟨p, 0, none⟩), i.v, .int .i64 n] w fun e w' => e = .returned (.tuple #[]) ∧ ∃ v', Wr w' p v' (bs ++ ([octet i.kind, octet i.many, octet i.nulls] ++ rowB i.mn ++ rowB i.mx ++ [octet ((n / 256 : Nat) : Int), octet ((n % 256 : Nat) : Int)])) ∧ Wrote p v w v' w' := by
  obtain ⟨w1, hw1, kw1, bx⟩ : ∃ w1, w.alloc (.cells i.cs.toArray 35) = w1 ∧ Kp [] w w1 ∧ Bx w1 w.heap.size i.cs := ⟨_, rfl, (Kp.refl _ _).alloc _, Bx.new w _ _⟩
  have hq : w.heap.size ∉ p :: own v := fun hm => by
    rcases List.mem_cons.1 hm with e | e
    · have := h.lt; omega
    · have := h.row.lt _ e; omega
  have h1 := h.keptNew kw1
  have l1 := rowB_length r1
  have l2 := rowB_length r2
  obtain ⟨k, m, ⟨ak, ab, an, at'⟩, ⟨bk, bb, bn, bt⟩, nn, yy⟩ := i
  have pA : Hid (∀ p v bs w, Wr w p v bs → bs.length ≤ 100000 → Calls Tryz.prog 29 #[.pointer (some ⟨p, 0, none⟩), .agg #[.int .i64 ak, .bool ab, .int .i64 an, .string at']] w fun e w' => e = .returned (.tuple #[]) ∧ ∃ v', Wr w' p v' (bs ++ rowB ⟨ak, ab, an, at'⟩) ∧ Wrote p v w v' w') := fun p v bs w h hb => bPutValue p v bs ⟨ak, ab, an, at'⟩ r1 w h hb
  have pB : Hid (∀ p v bs w, Wr w p v bs → bs.length ≤ 100000 → Calls Tryz.prog 29 #[.pointer (some ⟨p, 0, none⟩), .agg #[.int .i64 bk, .bool bb, .int .i64 bn, .string bt]] w fun e w' => e = .returned (.tuple #[]) ∧ ∃ v', Wr w' p v' (bs ++ rowB ⟨bk, bb, bn, bt⟩) ∧ Wrote p v w v' w') := fun p v bs w h hb => bPutValue p v bs ⟨bk, bb, bn, bt⟩ r2 w h hb
  obtain ⟨RA, hRA⟩ : ∃ R, Hid (rowB ⟨ak, ab, an, at'⟩ = R) := ⟨_, rfl⟩
  obtain ⟨RB, hRB⟩ : ∃ R, Hid (rowB ⟨bk, bb, bn, bt⟩ = R) := ⟨_, rfl⟩
  dsimp only at *
  rw [hRA.out] at l1 ⊢
  rw [hRB.out] at l2 ⊢
  simp only [hRA.out] at pA
  simp only [hRB.out] at pB
  unfold Inf.v Inf.cs
  unfold Inf.cs at bx hw1
  dsimp only at bx hw1 ⊢
  have e1 := wrap8 k0 k1
  have e2 := wrap8 m0 m1
  have e3 := wrap8 n0 n1
  have e4 : (n : Int) / 256 = ((n / 256 : Nat) : Int) := by omega
  have e5 : IntKind.u8.wrap ((n / 256 : Nat) : Int) = ((n / 256 : Nat) : Int) := wrap8 (by omega) (by omega)
  have e6 : IntKind.u8.wrap (n : Int) = ((n % 256 : Nat) : Int) := by rw [IntKind.wrap_u8]; omega
  obtain ⟨hi, hhi⟩ : ∃ x : Nat, Hid (n / 256 = x) := ⟨_, rfl⟩
  obtain ⟨lo, hlo⟩ : ∃ x : Nat, Hid (n % 256 = x) := ⟨_, rfl⟩
  have hhb : hi ≤ 255 := by rw [← hhi.out]; omega
  have hlb : lo ≤ 255 := by rw [← hlo.out]; omega
  rw [hhi.out] at e4 e5 ⊢
  rw [hlo.out] at e6 ⊢
  have hw1' := hid hw1
  have hbx := hid bx
  have hkw := hid kw1
  have hwr := hid h1
  have hqq := hid hq
  have q0 := bx.get 0 _ rfl
  clear hw1 hRA hRB r1 r2 h h1 hq kw1 bx hhi hlo
  rw [← hw1'.out] at q0
  go_enter Tryz.func12, Tryz.ntmps12
  go_wp2_with fail
  rw [hw1'.out]
  refine (wByte p v bs k _ hwr.out (by omega) k0 k1).mono ?_
  rintro e w2 ⟨rfl, v2, hw2, hr2⟩
  obtain ⟨bx2, hq2⟩ := bxWrote hbx.out (by simp) hqq.out hr2
  have c1 := bx2.get 1 _ rfl
  have H2 := hid (And.intro bx2 (And.intro hq2 (And.intro hw2 hr2)))
  clear bx2 hq2 hw2 hr2 q0
  go_wp2_with fail
  refine (wByte p v2 _ m _ H2.out.2.2.1 (by simp; omega) m0 m1).mono ?_
  rintro e w3 ⟨rfl, v3, hw3, hr3⟩
  obtain ⟨bx3, hq3⟩ := bxWrote H2.out.1 (by simp) H2.out.2.1 hr3
  have c10 := bx3.get 10 _ rfl
  have H3 := hid (And.intro bx3 (And.intro hq3 (And.intro hw3 (H2.out.2.2.2.trans hr3))))
  clear bx3 hq3 hw3 hr3 c1 H2
  go_wp2_with fail
  refine (wByte p v3 _ nn _ H3.out.2.2.1 (by simp; omega) n0 n1).mono ?_
  rintro e w4 ⟨rfl, v4, hw4, hr4⟩
  obtain ⟨bx4, hq4⟩ := bxWrote H3.out.1 (by simp) H3.out.2.1 hr4
  have d2 := bx4.get 2 _ rfl
  have d3 := bx4.get 3 _ rfl
  have d4 := bx4.get 4 _ rfl
  have d5 := bx4.get 5 _ rfl
  have H4 := hid (And.intro bx4 (And.intro hq4 (And.intro hw4 (H3.out.2.2.2.trans hr4))))
  clear bx4 hq4 hw4 hr4 c10 H3
  go_wp2_with fail
  refine (pA.out p v4 _ _ H4.out.2.2.1 (by simp; omega)).mono ?_
  rintro e w5 ⟨rfl, v5, hw5, hr5⟩
  obtain ⟨bx5, hq5⟩ := bxWrote H4.out.1 (by simp) H4.out.2.1 hr5
  have d6 := bx5.get 6 _ rfl
  have d7 := bx5.get 7 _ rfl
  have d8 := bx5.get 8 _ rfl
  have d9 := bx5.get 9 _ rfl
  have H5 := hid (And.intro bx5 (And.intro hq5 (And.intro hw5 (H4.out.2.2.2.trans hr5))))
  clear bx5 hq5 hw5 hr5 d2 d3 d4 d5 H4
  go_wp2_with fail
  refine (pB.out p v5 _ _ H5.out.2.2.1 (by simp; omega)).mono ?_
  rintro e w6 ⟨rfl, v6, hw6, hr6⟩
  have H6 := hid (And.intro hw6 (H5.out.2.2.2.trans hr6))
  clear hw6 hr6 d6 d7 d8 d9 H5
  go_wp2_with fail
  refine (wByte p v6 _ hi _ H6.out.1 (by simp; omega) (by omega) (by omega)).mono ?_
  rintro e w7 ⟨rfl, v7, hw7, hr7⟩
  have H7 := hid (And.intro hw7 (H6.out.2.trans hr7))
  clear hw7 hr7 H6
  go_wp2_with fail
  refine (wByte p v7 _ lo _ H7.out.1 (by simp; omega) (by omega) (by omega)).mono ?_
  rintro e w8 ⟨rfl, v8, hw8, hr8⟩
  have H8 := hid (And.intro hw8 (H7.out.2.trans hr8))
  clear hw8 hr8 H7
  go_wp2_with fail
  go_end0
  refine ⟨rfl, v8, ?_, Wrote.pre hkw.out H8.out.2⟩
  have := H8.out.1
  simpa using this
end Go.Proofs.YtafcdckpicoppaaGreatDoor
end

section
namespace Go.Proofs.YtafcdckpicoppaaGreatDoor
open Go.RowKit Go.Hay
set_option linter.unusedVariables false
set_option linter.unusedSimpArgs false

/-- The first j values, each run of alike ones once. -/
def cptTo (l : List Val) : Nat → List Val
  | 0 => []
  | j + 1 => if j ≠ 0 ∧ (l.getD j nv).eqv (l.getD (j - 1) nv) = true then cptTo l j else cptTo l j ++ [l.getD j nv]
def cpt (l : List Val) : List Val := cptTo l l.length
theorem cptTo_same (l : List Val) (j : Nat) (h0 : j ≠ 0) (h : (l.getD j nv).eqv (l.getD (j - 1) nv) = true) : cptTo l (j + 1) = cptTo l j := by rw [cptTo, if_pos ⟨h0, h⟩]
theorem cptTo_new (l : List Val) (j : Nat) (h : j = 0 ∨ (l.getD j nv).eqv (l.getD (j - 1) nv) = false) : cptTo l (j + 1) = cptTo l j ++ [l.getD j nv] := by
  rw [cptTo, if_neg]
  rintro ⟨h1, h2⟩
  rcases h with h | h
  · exact h1 h
  · rw [h] at h2; cases h2
theorem cptTo_le (l : List Val) : ∀ j, (cptTo l j).length ≤ j
  | 0 => by simp [cptTo]
  | j + 1 => by
    have := cptTo_le l j
    rw [cptTo]
    split
    · omega
    · simp; omega
theorem take_getD (l : List Val) (j : Nat) (h : j < l.length) : l.take j ++ [l.getD j nv] = l.take (j + 1) := by
  rw [List.take_add_one]; simp [h]
theorem info3' {i : Option TypeInfo} : True := trivial
structure At4 (W : World) (g p : Nat) (v : Val) : Prop where
  c0 : W.cell? ⟨g, p, none⟩ = some (.int .i64 v.k)
  c1 : W.cell? ⟨g, p + 1, none⟩ = some (.bool v.b)
  c2 : W.cell? ⟨g, p + 2, none⟩ = some (.int .i64 v.n)
  c3 : W.cell? ⟨g, p + 3, none⟩ = some (.string v.t)
  f0 : W.frozen? ⟨g, p, none⟩ = false
  f1 : W.frozen? ⟨g, p + 1, none⟩ = false
  f2 : W.frozen? ⟨g, p + 2, none⟩ = false
  f3 : W.frozen? ⟨g, p + 3, none⟩ = false
theorem rowAt4 {W : World} {g o n c : Nat} {L : List Val} (h : VE.Row W (.slice (some ⟨g, o, none⟩) n c) L) (i : Nat) (hi : i < L.length) : At4 W g (o + i * 4) (L.getD i nv) := by
  rcases h with ⟨e, _⟩ | ⟨g9, o9, c9, e, q1, q2, q3, q4, q5⟩
  · cases e
  · cases e
    have hx : L[i]? = some (L.getD i nv) := by simp [hi]
    have hc : ∀ k u, k < 4 → (VE.c (L.getD i nv))[k]? = some u → W.cell? ⟨g, o + i * 4 + k, none⟩ = some u := fun k u hk hu => by
      have := El.cs_get VE hx (k := k) hk
      rw [hu] at this
      have h2 := q4 _ u this
      have e4 : VE.n = 4 := rfl
      rw [e4] at h2
      rw [Nat.add_assoc]; exact h2
    have hf : ∀ k, k < 4 → W.frozen? ⟨g, o + i * 4 + k, none⟩ = false := fun k hk => by
      have := (q5 (i * 4 + k) (by have e4 : VE.n = 4 := rfl; rw [e4]; omega)).2
      rw [Nat.add_assoc]; exact this
    exact ⟨hc 0 _ (by omega) rfl, hc 1 _ (by omega) rfl, hc 2 _ (by omega) rfl, hc 3 _ (by omega) rfl, hf 0 (by omega), hf 1 (by omega), hf 2 (by omega), hf 3 (by omega)⟩
theorem row_front {W : World} {g o n c : Nat} {L : List Val} (h : VE.Row W (.slice (some ⟨g, o, none⟩) n c) L) (m : Nat) (hm : m ≤ L.length) : VE.Row W (.slice (some ⟨g, o, none⟩) m c) (L.take m) := by
  rcases h with ⟨e, _⟩ | ⟨g9, o9, c9, e, q1, q2, q3, q4, q5⟩
  · cases e
  · cases e
    refine .inr ⟨g, o, c, by simp; omega, by simp; omega, q2, q3, fun j u hu => ?_, q5⟩
    rw [El.cs_take] at hu
    refine q4 j u ?_
    have hj := (List.getElem?_eq_some_iff.1 hu).1
    rw [List.getElem?_take] at hu
    split at hu
    · exact hu
    · cases hu
theorem row_tail {W : World} {g o m c : Nat} {L : List Val} (h : VE.Row W (.slice (some ⟨g, o, none⟩) m c) L) (cs : List Value) (hm : L.length = m) (hcs : cs.length ≤ (c - m) * 4) (hs : ∀ j, j < cs.length → (W.cell? ⟨g, o + m * 4 + j, none⟩).isSome = true) : VE.Row (W.setCells g (o + m * 4) cs) (.slice (some ⟨g, o, none⟩) m c) L := by
  rcases h with ⟨e, _⟩ | ⟨g9, o9, c9, e, q1, q2, q3, q4, q5⟩
  · cases e
  · cases e
    have e4 : VE.n = 4 := rfl
    refine .inr ⟨g, o, c, rfl, q1, q2, by rw [size_setCells]; exact q3, fun j u hu => ?_, fun j hj => ⟨?_, (World.frozen?_setCells g _ _ _ _).trans (q5 j hj).2⟩⟩
    · have hj : j < L.length * 4 := by have := (List.getElem?_eq_some_iff.1 hu).1; rwa [El.cs_length, e4] at this
      rw [World.cell?_setCells_out g _ _ _ _ (fun _ _ => ?_)]
      · exact q4 j u hu
      · left
        show o + j < o + L.length * 4
        omega
    · by_cases hin : L.length * 4 ≤ j ∧ j < L.length * 4 + cs.length
      · have := World.cell?_setCells_in g cs (o + L.length * 4) W hs (j - L.length * 4) (by omega)
        rw [show o + L.length * 4 + (j - L.length * 4) = o + j by omega] at this
        rw [this]; rfl
      · rw [World.cell?_setCells_out g _ _ _ _ (fun _ _ => by show o + j < o + L.length * 4 ∨ o + L.length * 4 + cs.length ≤ o + j; omega)]
        exact (q5 j hj).1
/-- The rest of a row of values, made nought. -/
theorem run_clearV (W : World) (g o n c : Nat) (hn : 0 < n) (hc : ∀ j, j < n * 4 → (W.cell? ⟨g, o + j, none⟩).isSome = true ∧ W.frozen? ⟨g, o + j, none⟩ = false) :
    ∃ cs : List Value, cs.length = n * 4 ∧ ∀ ty, (Builtin.clear_ #[32] ty #[.slice (some ⟨g, o, none⟩) n c]).run Tryz.prog W = .ok (.tuple #[]) (W.setCells g o cs) := by
  have hv : ∀ w : World, (zeroValue 25).run Tryz.prog w = .ok (.agg #[.int .i64 0, .bool false, .int .i64 0, .string ⟨#[]⟩]) w := Tryz.zeroValue25
  obtain ⟨zc, hzc⟩ : ∃ zc, (Builtin.zeroCells (Value.agg #[.int .i64 0, .bool false, .int .i64 0, .string ⟨#[]⟩]).cells n).toList = zc := ⟨_, rfl⟩
  have hlen : zc.length = n * 4 := by rw [← hzc]; simp [Builtin.zeroCells, Value.cells]
  have hone : ∀ v ∈ zc, v.oneCell' = true := by
    intro v hv'
    rw [← hzc] at hv'
    simp only [Builtin.zeroCells, Value.cells, Array.toList_map, List.mem_map] at hv'
    obtain ⟨i, _, rfl⟩ := hv'
    have : i % 4 < 4 := Nat.mod_lt _ (by omega)
    show (#[Value.int .i64 0, .bool false, .int .i64 0, .string ⟨#[]⟩][i % 4]!).oneCell' = true
    generalize i % 4 = m at this
    match m, this with
    | 0, _ | 1, _ | 2, _ | 3, _ => rfl
  have hst := run_storeCells_cells (P := Tryz.prog) g o zc 0 W (by rw [hlen]; simpa using fun j hj => (hc j hj).1) (by rw [hlen]; simpa using fun j hj => (hc j hj).2) hone
  simp only [Nat.add_zero] at hst
  refine ⟨zc, hlen, fun ty => ?_⟩
  obtain ⟨m, rfl⟩ : ∃ m, n = m + 1 := ⟨n - 1, by omega⟩
  simp [Builtin.clear_, run_underlying Tryz.underlying32, hv, hzc, hst]
set_option maxHeartbeats 8000000 in
set_option maxRecDepth 100000 in
theorem cCompactV (g o c : Nat) (l : List Val) (w : World) (hs : VE.Row w (.slice (some ⟨g, o, none⟩) l.length c) l) (hl : l.length ≤ 1000000) (hc : l.length ≤ c) (hm : c ≤ maxLen) :
    Calls Tryz.prog 81 #[.slice (some ⟨g, o, none⟩) l.length c] w fun e w' => e = .returned (.slice (some ⟨g, o, none⟩) (cpt l).length c) ∧ VE.Row w' (.slice (some ⟨g, o, none⟩) (cpt l).length c) (cpt l) ∧ Kp [g] w w' := by
  unfold maxLen at hm
  have hF : Hid (cpt l = cptTo l l.length) := rfl
  by_cases h2 : l.length < 2
  · have e : Hid (cpt l = l) := by
      show _ = _
      match l, h2 with
      | [], _ => rfl
      | [x], _ => rfl
    rw [e.out]
    have hs' := hid hs
    clear hF hs
    go_enter Tryz.func81, Tryz.ntmps81
    go_wp2_with fail
    go_ret
    exact ⟨rfl, hs'.out, Kp.refl _ _⟩
  · have h1e : Hid (cptTo l 1 = l.take 1) := by
      show _ = _
      rw [cptTo_new l 0 (.inl rfl)]
      have := take_getD l 0 (by omega)
      simpa [cptTo] using this
    obtain ⟨F, hFF⟩ : ∃ F, Hid (cpt l = F) := ⟨_, rfl⟩
    rw [hFF.out] at hF ⊢
    have hs' := hid hs
    clear hs
    go_enter Tryz.func81, Tryz.ntmps81
    go_wp2_with fail
    go_loopw [3] (fun i wn => ∃ k : Nat, 1 ≤ k ∧ k ≤ l.length ∧ i = .int .i64 k ∧ Hid (cptTo l k = l.take k) ∧ VE.Row wn (.slice (some ⟨g, o, none⟩) l.length c) l ∧ Kp [] w wn) (fun i _ => l.length - (intOf i).toNat)
    case atStart => exact ⟨1, Nat.le_refl _, by omega, rfl, h1e, hs'.out, Kp.refl _ _⟩
    case round =>
      clear hs' h1e
      obtain ⟨k, hk1, hkl, rfl, htk, hrow, kn⟩ := hrel
      by_cases hlt : k < l.length
      · obtain ⟨a0, a1, a2, a3, _, _, _, _⟩ := rowAt4 hrow k hlt
        obtain ⟨b0, b1, b2, b3, _, _, _, _⟩ := rowAt4 hrow (k - 1) (by omega)
        have hsame := hid (cptTo_same l k (by omega))
        have hnew := hid (cptTo_new l k)
        have htg := hid (take_getD l k hlt)
        obtain ⟨⟨xk, xb, xn, xt⟩, hx⟩ : ∃ x, Hid (l.getD k nv = x) := ⟨_, rfl⟩
        obtain ⟨⟨yk, yb, yn, yt⟩, hy⟩ : ∃ y, Hid (l.getD (k - 1) nv = y) := ⟨_, rfl⟩
        rw [hx.out] at a0 a1 a2 a3
        rw [hy.out] at b0 b1 b2 b3
        rw [hx.out, hy.out] at hsame hnew
        rw [hx.out] at htg
        obtain ⟨X, HX, hX⟩ := eqV ⟨xk, xb, xn, xt⟩ ⟨yk, yb, yn, yt⟩
        dsimp only at a0 a1 a2 a3 b0 b1 b2 b3 hX
        have hrow' := hid hrow
        have i1 : (k : Int) < (l.length : Int) := by omega
        have i2 : (k : Int) - 1 < (l.length : Int) := by omega
        have i3 : (0 : Int) ≤ (k : Int) - 1 := by omega
        clear hrow
        go_wp2_with fail
        go_quiet ((fail))
        have kq : Kp [] w (wr.drewN nq) := kn.drewN nq
        have hrq := hid (hrow'.out.keptNew ((Kp.refl [] wr).drewN nq))
        generalize wr.drewN nq = wq at *
        clear hrow' a0 a1 a2 a3 b0 b1 b2 b3 hX
        cases X
        · have hst : Hid (cptTo l (k + 1) = l.take (k + 1)) := by
            show _ = _
            rw [hnew.out (.inr HX.out.symm), htk.out, htg.out]
          clear hsame hnew htg htk
          go_wp2_with fail
          exact ⟨⟨k + 1, by omega, by omega, by go_num, hst, hrq.out, kq⟩, by simp [intOf]; omega⟩
        · have hst : Hid (cptTo l (k + 1) = l.take k) := by
            show _ = _
            rw [hsame.out HX.out.symm, htk.out]
          clear hsame hnew htg htk HX
          go_wp2_with fail
          go_loopw [3, 5] (fun s3 s5 wn => ∃ (kk k2 : Nat), s3 = .int .i64 kk ∧ s5 = .int .i64 k2 ∧ 1 ≤ k2 ∧ k + k2 ≤ l.length ∧ kk < k + k2 ∧ Hid ((cptTo l (k + k2)).length = kk) ∧ VE.Row wn (.slice (some ⟨g, o, none⟩) l.length c) (cptTo l (k + k2) ++ l.drop kk) ∧ Kp [g] w wn) (fun _ s5 _ => l.length - k - (intOf s5).toNat)
          case atStart => exact ⟨k, 1, rfl, rfl, Nat.le_refl _, by omega, by omega, by show _ = _; rw [hst.out]; simp; omega, by rw [hst.out, List.take_append_drop]; exact hrq.out, kq.mono (by simp)⟩
          case round =>
            clear hrq hst
            obtain ⟨kk, k2, rfl, rfl, h21, h2l, hkk, hpl, hrow, kn2⟩ := hrel
            have hLl : (cptTo l (k + k2) ++ l.drop kk).length = l.length := by rw [List.length_append, hpl.out]; simp; omega
            by_cases hlt2 : k + k2 < l.length
            · have hgd : Hid (∀ i, kk ≤ i → (cptTo l (k + k2) ++ l.drop kk).getD i nv = l.getD i nv) := fun i hi => by
                simp only [List.getD_eq_getElem?_getD]
                rw [List.getElem?_append_right (by rw [hpl.out]; exact hi), hpl.out, List.getElem?_drop]
                congr 2
                omega
              obtain ⟨a0, a1, a2, a3, _, _, _, _⟩ := rowAt4 hrow (k + k2) (by omega)
              obtain ⟨b0, b1, b2, b3, _, _, _, _⟩ := rowAt4 hrow (k + k2 - 1) (by omega)
              rw [hgd.out _ (by omega)] at a0 a1 a2 a3
              rw [hgd.out _ (by omega)] at b0 b1 b2 b3
              have hsame := hid (cptTo_same l (k + k2) (by omega))
              have hnew := hid (cptTo_new l (k + k2))
              obtain ⟨⟨uk, ub, un, ut⟩, hu⟩ : ∃ x, Hid (l.getD (k + k2) nv = x) := ⟨_, rfl⟩
              obtain ⟨⟨vk, vb, vn, vt⟩, hv⟩ : ∃ y, Hid (l.getD (k + k2 - 1) nv = y) := ⟨_, rfl⟩
              rw [hu.out] at a0 a1 a2 a3
              rw [hv.out] at b0 b1 b2 b3
              rw [hu.out, hv.out] at hsame hnew
              obtain ⟨X, HX, hX⟩ := neV ⟨uk, ub, un, ut⟩ ⟨vk, vb, vn, vt⟩
              dsimp only at a0 a1 a2 a3 b0 b1 b2 b3 hX
              have e1 : o + (k + k2) * 4 = o + k * 4 + k2 * 4 := by omega
              have e2 : o + (k + k2 - 1) * 4 = o + k * 4 + (k2 - 1) * 4 := by omega
              rw [e1] at a0 a1 a2 a3
              rw [e2] at b0 b1 b2 b3
              have hrow' := hid hrow
              have i1 : (k2 : Int) < ((l.length - k : Nat) : Int) := by omega
              have i2 : (k2 : Int) - 1 < ((l.length - k : Nat) : Int) := by omega
              have i3 : (0 : Int) ≤ (k2 : Int) - 1 := by omega
              have j1 : k2 < l.length - k := by omega
              clear hrow e1 e2
              go_wp2_with fail
              go_quiet ((fail))
              have kq2 : Kp [g] w (wr.drewN nq) := kn2.drewN nq
              have hrq2 := hrow'.out.keptNew ((Kp.refl [] wr).drewN nq)
              have C0 : (wr.drewN nq).cell? ⟨g, o + k * 4 + k2 * 4, none⟩ = some (.int .i64 uk) := a0
              have C1 : (wr.drewN nq).cell? ⟨g, o + k * 4 + k2 * 4 + 1, none⟩ = some (.bool ub) := a1
              have C2 : (wr.drewN nq).cell? ⟨g, o + k * 4 + k2 * 4 + 2, none⟩ = some (.int .i64 un) := a2
              have C3 : (wr.drewN nq).cell? ⟨g, o + k * 4 + k2 * 4 + 3, none⟩ = some (.string ut) := a3
              generalize wr.drewN nq = wq2 at *
              clear hrow' a0 a1 a2 a3 b0 b1 b2 b3 hX
              cases X
              · have hst : Hid (cptTo l (k + k2 + 1) = cptTo l (k + k2) ++ [⟨uk, ub, un, ut⟩]) := by
                  show _ = _
                  rw [hnew.out (.inr HX.out.symm)]
                obtain ⟨d0, d1, d2, d3, f0, f1, f2, f3⟩ := rowAt4 hrq2 kk (by omega)
                have hset := hrq2.setAt kk (by omega) ⟨uk, ub, un, ut⟩
                have eL : (cptTo l (k + k2) ++ l.drop kk).set kk ⟨uk, ub, un, ut⟩ = cptTo l (k + k2 + 1) ++ l.drop (kk + 1) := by
                  rw [hst.out]
                  have hd : l.drop kk = l.getD kk nv :: l.drop (kk + 1) := by
                    rw [List.drop_eq_getElem_cons (show kk < l.length by omega)]
                    simp [show kk < l.length by omega]
                  rw [hd, List.set_append_right _ _ (by rw [hpl.out]; exact Nat.le_refl _), hpl.out, Nat.sub_self]
                  simp
                rw [eL] at hset
                have hpl2 : Hid ((cptTo l (k + k2 + 1)).length = kk + 1) := by show _ = _; rw [hst.out]; simp [hpl.out]
                have eW : Hid (wq2.setCells g (o + kk * VE.n) (VE.c ⟨uk, ub, un, ut⟩) = (((wq2.setCell ⟨g, o + kk * 4, none⟩ (.int .i64 uk)).setCell ⟨g, o + kk * 4 + 1, none⟩ (.bool ub)).setCell ⟨g, o + kk * 4 + 2, none⟩ (.int .i64 un)).setCell ⟨g, o + kk * 4 + 3, none⟩ (.string ut)) := by
                  show _ = _
                  have e4 : VE.n = 4 := rfl
                  rw [e4]
                  rfl
                have kS : Kp [g] w (wq2.setCells g (o + kk * VE.n) (VE.c ⟨uk, ub, un, ut⟩)) := kq2.setCells (.inl (by simp)) _ _
                rw [eW.out] at hset kS
                have hset' := hid hset
                generalize (cptTo l (k + k2) ++ l.drop kk).getD kk nv = old at *
                have hkkl : (kk : Int) < (l.length : Int) := by omega
                clear hset hrq2 hsame hnew hst hpl eL eW hgd HX
                go_wp2_with fail
                exact ⟨⟨kk + 1, k2 + 1, by go_num, by go_num, by omega, by omega, by omega, hpl2, hset'.out, kS⟩, by simp [intOf]; omega⟩
              · have hst : Hid (cptTo l (k + k2 + 1) = cptTo l (k + k2)) := by
                  show _ = _
                  rw [hsame.out HX.out.symm]
                have hpl2 : Hid ((cptTo l (k + k2 + 1)).length = kk) := by show _ = _; rw [hst.out, hpl.out]
                rw [← hst.out] at hrq2
                have hrq2' := hid hrq2
                clear hrq2 hsame hnew hst hpl hgd HX
                go_wp2_with fail
                exact ⟨⟨kk, k2 + 1, rfl, by go_num, by omega, by omega, by omega, hpl2, hrq2'.out, kq2⟩, by simp [intOf]; omega⟩
            · obtain hend : k + k2 = l.length := by omega
              rw [hend, ← hF.out] at hrow hpl hLl
              have hn0 : 0 < l.length - kk := by omega
              have hcc : ∀ j, j < (l.length - kk) * 4 → (wr.cell? ⟨g, o + kk * 4 + j, none⟩).isSome = true ∧ wr.frozen? ⟨g, o + kk * 4 + j, none⟩ = false := fun j hj => by
                rcases hrow with ⟨e, _⟩ | ⟨g9, o9, c9, e, q1, q2, q3, q4, q5⟩
                · cases e
                · injection e with e1 e2 e3
                  injection e1 with e1
                  injection e1 with e4 e5
                  subst e3 e4 e5
                  have := q5 (kk * 4 + j) (by have e4 : VE.n = 4 := rfl; rw [e4]; omega)
                  rw [← Nat.add_assoc] at this
                  exact this
              obtain ⟨cs, hcs, hcl⟩ := run_clearV wr g (o + kk * 4) (l.length - kk) (c - kk) hn0 hcc
              have hfr := row_front hrow kk (by omega)
              have eF : (F ++ l.drop kk).take kk = F := by rw [← hpl.out]; simp
              rw [eF] at hfr
              have hpl' : Hid (kk = F.length) := hpl.out.symm
              have hrt := row_tail hfr cs hpl.out (by rw [hcs]; omega) (fun j hj => (hcc j (by omega)).1)
              have kS : Kp [g] w (wr.setCells g (o + kk * 4) cs) := kn2.setCells (.inl (by simp)) _ _
              have hrt' := hid hrt
              have n1 : ¬ (k2 : Int) < ((l.length - k : Nat) : Int) := by omega
              have n2 : (kk : Int) ≤ (l.length : Int) := by omega
              have n3 : (kk : Int) ≤ (c : Int) := by omega
              have n4 : kk < l.length := by omega
              have n5 : kk < c := by omega
              clear hfr hrow hpl hLl hcc hrt eF hcs hF hFF
              go_wp2_with fail
              go_ret
              rw [← hpl'.out]
              exact ⟨rfl, hrt'.out, kS⟩
      · obtain rfl : k = l.length := by omega
        rw [List.take_length] at htk
        have hfin : Hid (F = l) := by show _ = _; rw [hF.out, htk.out]
        have hrow' := hid hrow
        clear hrow htk hF
        go_wp2_with fail
        go_ret
        rw [hfin.out]
        exact ⟨rfl, hrow'.out, kn.mono (by simp)⟩
end Go.Proofs.YtafcdckpicoppaaGreatDoor
end

section
namespace Go.Proofs
open Go.Shelf
def Tryz.lsortf_ren : Go.Shelf.Ren := ⟨fun | 6 => 80 | 15 => 94 | 14 => 93 | 28 => 112 | 29 => 85 | 20 => 104 | 21 => 105 | 22 => 106 | 23 => 107 | 24 => 108 | 25 => 109 | 26 => 110 | 27 => 111 | 46 => 120 | 47 => 121 | 48 => 122 | 49 => 123 | 50 => 124 | 57 => 127 | n => n, fun | 22 => 32 | 24 => 25 | 25 => 57 | 3 => 3 | 39 => 71 | 0 => 0 | 53 => 50 | 55 => 74 | 4 => 4 | 46 => 144 | 45 => 143 | 50 => 148 | 5 => 5 | 9 => 9 | 66 => 163 | 70 => 166 | 76 => 170 | 77 => 171 | n => n, fun | n => n⟩
theorem Tryz.lsortf : Go.Proofs.SlLaysF0.n6 Tryz.prog Tryz.lsortf_ren := {
  mixed := by kernel_rfl
  f6 := ⟨Tryz.f80.name, by decide, Tryz.func80.trans (congrArg some (by kernel_rfl))⟩
  f14 := ⟨Tryz.f93.name, by decide, Tryz.func93.trans (congrArg some (by kernel_rfl))⟩
  f15 := Tryz.func94.trans (congrArg some (by kernel_rfl))
  f20 := ⟨Tryz.f104.name, by decide, Tryz.func104.trans (congrArg some (by kernel_rfl))⟩
  f21 := ⟨Tryz.f105.name, by decide, Tryz.func105.trans (congrArg some (by kernel_rfl))⟩
  f22 := ⟨Tryz.f106.name, by decide, Tryz.func106.trans (congrArg some (by kernel_rfl))⟩
  f23 := ⟨Tryz.f107.name, by decide, Tryz.func107.trans (congrArg some (by kernel_rfl))⟩
  f24 := ⟨Tryz.f108.name, by decide, Tryz.func108.trans (congrArg some (by kernel_rfl))⟩
  f25 := ⟨Tryz.f109.name, by decide, Tryz.func109.trans (congrArg some (by kernel_rfl))⟩
  f26 := ⟨Tryz.f110.name, by decide, Tryz.func110.trans (congrArg some (by kernel_rfl))⟩
  f27 := ⟨Tryz.f111.name, by decide, Tryz.func111.trans (congrArg some (by kernel_rfl))⟩
  f28 := Tryz.func112.trans (congrArg some (by kernel_rfl))
  f29 := Tryz.func85.trans (congrArg some (by kernel_rfl))
  f46 := ⟨Tryz.f120.name, by decide, Tryz.func120.trans (congrArg some (by kernel_rfl))⟩
  f47 := Tryz.func121.trans (congrArg some (by kernel_rfl))
  f48 := Tryz.func122.trans (congrArg some (by kernel_rfl))
  f49 := ⟨Tryz.f123.name, by decide, Tryz.func123.trans (congrArg some (by kernel_rfl))⟩
  f50 := ⟨Tryz.f124.name, by decide, Tryz.func124.trans (congrArg some (by kernel_rfl))⟩
  f57 := ⟨Tryz.f127.name, by decide, Tryz.func127.trans (congrArg some (by kernel_rfl))⟩
  t0 := Tryz.underlying0
  a0 := Tryz.isAgg0
  z0 := Tryz.sizeOf0
  v0 := Tryz.zeroValue0
  t3 := Tryz.underlying3
  a3 := Tryz.isAgg3
  z3 := Tryz.sizeOf3
  v3 := Tryz.zeroValue3
  t4 := Tryz.underlying4
  a4 := Tryz.isAgg4
  z4 := Tryz.sizeOf4
  v4 := Tryz.zeroValue4
  t5 := Tryz.underlying5
  a5 := Tryz.isAgg5
  z5 := Tryz.sizeOf5
  v5 := Tryz.zeroValue5
  t9 := Tryz.underlying9
  a9 := Tryz.isAgg9
  z9 := Tryz.sizeOf9
  v9 := Tryz.zeroValue9
  t22 := Tryz.underlying32
  a22 := Tryz.isAgg32
  z22 := Tryz.sizeOf32
  v22 := Tryz.zeroValue32
  t25 := Tryz.underlying57
  a25 := Tryz.isAgg57
  z25 := Tryz.sizeOf57
  v25 := Tryz.zeroValue57
  t39 := Tryz.underlying71
  a39 := Tryz.isAgg71
  z39 := Tryz.sizeOf71
  v39 := Tryz.zeroValue71
  t45 := Tryz.underlying143
  a45 := Tryz.isAgg143
  z45 := Tryz.sizeOf143
  v45 := Tryz.zeroValue143
  t46 := Tryz.underlying144
  a46 := Tryz.isAgg144
  z46 := Tryz.sizeOf144
  v46 := Tryz.zeroValue144
  t50 := Tryz.underlying148
  a50 := Tryz.isAgg148
  z50 := Tryz.sizeOf148
  v50 := Tryz.zeroValue148
  t53 := Tryz.underlying50
  a53 := Tryz.isAgg50
  z53 := Tryz.sizeOf50
  v53 := Tryz.zeroValue50
  t55 := Tryz.underlying74
  a55 := Tryz.isAgg74
  z55 := Tryz.sizeOf74
  v55 := Tryz.zeroValue74
  t66 := Tryz.underlying163
  a66 := Tryz.isAgg163
  z66 := Tryz.sizeOf163
  v66 := Tryz.zeroValue163
  t70 := Tryz.underlying166
  a70 := Tryz.isAgg166
  z70 := Tryz.sizeOf166
  v70 := Tryz.zeroValue166
  t76 := Tryz.underlying170
  a76 := Tryz.isAgg170
  z76 := Tryz.sizeOf170
  v76 := Tryz.zeroValue170
  t77 := Tryz.underlying171
  a77 := Tryz.isAgg171
  z77 := Tryz.sizeOf171
  v77 := Tryz.zeroValue171 }
def Tryz.lindex_ren : Go.Shelf.Ren := ⟨fun | 6 => 82 | n => n, fun | 22 => 32 | 24 => 25 | 3 => 3 | 0 => 0 | 4 => 4 | n => n, fun | n => n⟩
theorem Tryz.lindex : Go.Proofs.SlLaysQ.n6 Tryz.prog Tryz.lindex_ren := {
  mixed := by kernel_rfl
  f6 := ⟨Tryz.f82.name, by decide, Tryz.func82.trans (congrArg some (by kernel_rfl))⟩
  t0 := Tryz.underlying0
  a0 := Tryz.isAgg0
  z0 := Tryz.sizeOf0
  v0 := Tryz.zeroValue0
  t3 := Tryz.underlying3
  a3 := Tryz.isAgg3
  z3 := Tryz.sizeOf3
  v3 := Tryz.zeroValue3
  t4 := Tryz.underlying4
  a4 := Tryz.isAgg4
  z4 := Tryz.sizeOf4
  v4 := Tryz.zeroValue4
  t22 := Tryz.underlying32
  a22 := Tryz.isAgg32
  z22 := Tryz.sizeOf32
  v22 := Tryz.zeroValue32 }
end Go.Proofs
end

/- catalog, by the reference: In, places. catalog, by the reference: projection. catalog, by the reference: All, covered. catalog, by the reference: covered. catalog, by the reference: Segments. -/
import Derived.Test.YtckicbaidbgonaaB6
import Derived.Deep.RegionHeld3
section
namespace Go.Proofs.Ytckicbaidbgonaa
open Go.RowKit Go.Hay
set_option linter.unusedVariables false
set_option linter.unusedSimpArgs false

theorem memTake (l : List Int) (x : Int) (j : Nat) (h : j < l.length) : decide (x ∈ l.take (j + 1)) = (decide (x ∈ l.take j) || (l[j] == x)) := by
  have h1 : (x ∈ l.take (j + 1)) ↔ (x ∈ l.take j ∨ x = l[j]) := by rw [List.take_succ_eq_append_getElem h, List.mem_append, List.mem_singleton]
  rw [decide_eq_decide.2 h1, Bool.decide_or]
  congr 1
  rw [Bool.eq_iff_iff, decide_eq_true_iff, beq_iff_eq]
  exact ⟨Eq.symm, Eq.symm⟩
set_option maxHeartbeats 4000000 in
set_option maxRecDepth 100000 in
theorem rIn (a : Option Addr) (c : Nat) (l : List Int) (x : Int) (w : World) (hs : IntE.See w a l) (hl : l.length ≤ 9223372036854775807) :
    Calls Try.prog 22 #[.slice a l.length c, .int .i64 x] w fun e w' => e = .returned (.bool (decide (x ∈ l))) ∧ Kp [] w w' := by
  obtain ⟨r, hr⟩ : ∃ r, Hid (decide (x ∈ l) = r) := ⟨_, hid rfl⟩
  rw [hr.out]
  have hs' := hid hs
  clear hs
  go_enter Try.func22, Try.ntmps22
  go_wp2_with fail
  go_loopw [5] (fun i wr => ∃ j : Nat, j ≤ l.length ∧ i = .int .i64 j ∧ Hid (decide (x ∈ l.take j) = false) ∧ Kp [] w wr) (fun i _ => l.length - (intOf i).toNat)
  case atStart => exact ⟨0, Nat.zero_le _, rfl, hid (by simp), Kp.refl _ _⟩
  case round =>
    obtain ⟨j, hj, rfl, hst, kr⟩ := hrel
    by_cases hjl : j < l.length
    · obtain ⟨g, o, rfl, c0⟩ := intAt (hs'.out.keptNew kr) j hjl
      have hmt := hid (memTake l x j hjl)
      have hmm : Hid (l[j] ∈ l) := List.getElem_mem hjl
      have i1 : (0 : Int) ≤ (j : Int) := by omega
      have i2 : (j : Int) < (l.length : Int) := by omega
      have i3 : (j : Int) + 1 ≤ 9223372036854775807 := by omega
      rw [hst.out] at hmt
      generalize l[j] = y at *
      by_cases he : y = x
      · have d1 : (y == x) = true := by simpa using he
        have hR : Hid (r = true) := by show _ = _; rw [← hr.out]; subst he; simpa using hmm.out
        clear he hmt
        go_wp2_with fail
        go_ret
        exact ⟨by rw [hR.out]; rfl, kr⟩
      · have d1 : (y == x) = false := by simpa using he
        have hm2 : Hid (decide (x ∈ l.take (j + 1)) = false) := by show _ = _; rw [hmt.out, d1]; rfl
        clear he hmt
        go_wp2_with fail
        exact ⟨⟨j + 1, by omega, by go_num, hm2, kr⟩, by simp [intOf]; omega⟩
    · have e : j = l.length := by omega
      subst e
      have hR : Hid (r = false) := by show _ = _; rw [← hr.out]; have := hst.out; rw [List.take_length] at this; exact this
      go_wp2_with fail
      go_ret
      exact ⟨by rw [hR.out]; rfl, kr⟩
set_option maxHeartbeats 4000000 in
set_option maxRecDepth 100000 in
theorem rPlaces (a : Option Addr) (c : Nat) (l : List Int) (m : Int) (w : World) (hs : IntE.See w a l) (hl : l.length ≤ c) (hc : c ≤ 9223372036854775807) :
    Calls Try.prog 62 #[.slice a l.length c, .int .i64 m] w fun e w' => e = .returned (.bool (plM l m)) ∧ Kp [] w w' := by
  obtain ⟨r, hr⟩ : ∃ r, Hid (plM l m = r) := ⟨_, hid rfl⟩
  rw [hr.out]
  have hs' := hid hs
  clear hs
  go_enter Try.func62, Try.ntmps62
  go_wp2_with fail
  go_loopw [5, 6] (fun i _ wr => ∃ j : Nat, j ≤ l.length ∧ i = .int .i64 j ∧ Hid (plTo l m j = true) ∧ Kp [] w wr) (fun i _ _ => l.length - (intOf i).toNat)
  case atStart => exact ⟨0, Nat.zero_le _, rfl, hid rfl, Kp.refl _ _⟩
  case round =>
    obtain ⟨j, hj, rfl, hst, kr⟩ := hrel
    by_cases hjl : j < l.length
    · obtain ⟨g, o, rfl, c0⟩ := intAt (hs'.out.keptNew kr) j hjl
      have hsu := hid (plTo_succ l m j hjl)
      have hmo := hid (plTo_mono l m (j + 1) l.length (by omega))
      have i1 : (0 : Int) ≤ (j : Int) := by omega
      have i2 : (j : Int) < (l.length : Int) := by omega
      have i3 : (j : Int) + 1 ≤ 9223372036854775807 := by omega
      have i4 : (j : Int) ≤ (c : Int) := by omega
      have hj2 : (l.take j).length = j := by rw [List.length_take]; omega
      obtain ⟨y, hy⟩ : ∃ y, Hid (l[j] = y) := ⟨l[j], hid rfl⟩
      have aC := hid (fun w' (k : Kp [] wr w') => rIn (some ⟨g, o, none⟩) c (l.take j) y w' (((hs'.out.keptNew kr).keptNew k).front j) (by omega))
      rw [hj2] at aC
      rw [hy.out] at c0 hsu
      obtain ⟨Z, hZ⟩ : ∃ Z, Hid (decide (y ∈ l.take j) = Z) := ⟨_, hid rfl⟩
      rw [hZ.out] at aC
      rw [hZ.out, hst.out] at hsu
      have hF : Hid (∀ W', Kp [] wr W' → W'.cell? ⟨g, o + j, none⟩ = some (.int .i64 y)) := fun W' k => kpAt k c0
      clear hj2 hZ hy
      go_wp2_with fail
      refine wp_region_held_drew (S := fun W' => W'.cell? ⟨g, o + j, none⟩ = some (.int .i64 y)) (by kernel_rfl) ?_ (fun hHeld => ?_)
      · exact hF.out _ (Kp.refl _ _).drew
      have KD : Hid (Kp [] wr wr.drew) := hid (Kp.refl _ _).drew
      generalize wr.drew = Wd at *
      refine wpAnyH_take (i := 0) (v := ?_) rfl (by kernel_rfl) (by kernel_rfl) (by kernel_rfl) (fun _ _ _ h => h) (Or.inl ⟨by rfl, ?_⟩) (by assumption) ?_
      rotate_left
      · intro w hSw; (try dsimp only at hSw); go_simp <;> with_reducible rfl
      try simp only [Act.put, List.getElem_toArray, List.getElem_cons_zero, List.getElem_cons_succ, List.setIfInBounds_toArray, List.set_cons_zero, List.set_cons_succ]
      refine wpAnyH_take (i := 1) (v := ?_) rfl (by kernel_rfl) (by kernel_rfl) (by kernel_rfl) (fun _ _ _ h => h) (Or.inl ⟨by rfl, ?_⟩) (by assumption) ?_
      rotate_left
      · intro w hSw; (try dsimp only at hSw); go_simp <;> with_reducible rfl
      try simp only [Act.put, List.getElem_toArray, List.getElem_cons_zero, List.getElem_cons_succ, List.setIfInBounds_toArray, List.set_cons_zero, List.set_cons_succ]
      refine wpAnyH_take (i := 2) (v := ?_) rfl (by kernel_rfl) (by kernel_rfl) (by kernel_rfl) (fun _ _ _ h => h) (Or.inl ⟨by rfl, ?_⟩) (by assumption) ?_
      rotate_left
      · intro w hSw; (try dsimp only at hSw); go_simp <;> with_reducible rfl
      try simp only [Act.put, List.getElem_toArray, List.getElem_cons_zero, List.getElem_cons_succ, List.setIfInBounds_toArray, List.set_cons_zero, List.set_cons_succ]
      refine wpAnyH_take (i := 3) (v := ?_) rfl (by kernel_rfl) (by kernel_rfl) (by kernel_rfl) (fun _ _ _ h => h) (Or.inl ⟨by rfl, ?_⟩) (by assumption) ?_
      rotate_left
      · intro w hSw; (try dsimp only at hSw); go_simp <;> with_reducible rfl
      try simp only [Act.put, List.getElem_toArray, List.getElem_cons_zero, List.getElem_cons_succ, List.setIfInBounds_toArray, List.set_cons_zero, List.set_cons_succ]
      refine wpAnyH_take (i := 4) (v := ?_) rfl (by kernel_rfl) (by kernel_rfl) (by kernel_rfl) (fun _ _ _ h => h) (Or.inl ⟨by rfl, ?_⟩) (by assumption) ?_
      rotate_left
      · intro w hSw; (try dsimp only at hSw); go_simp <;> with_reducible rfl
      try simp only [Act.put, List.getElem_toArray, List.getElem_cons_zero, List.getElem_cons_succ, List.setIfInBounds_toArray, List.set_cons_zero, List.set_cons_succ]
      refine wpAnyH_take (i := 5) (v := ?_) rfl (by kernel_rfl) (by kernel_rfl) (by kernel_rfl) (fun _ _ _ h => h) (Or.inl ⟨by rfl, ?_⟩) (by assumption) ?_
      rotate_left
      · intro w hSw; (try dsimp only at hSw); go_simp <;> with_reducible rfl
      try simp only [Act.put, List.getElem_toArray, List.getElem_cons_zero, List.getElem_cons_succ, List.setIfInBounds_toArray, List.set_cons_zero, List.set_cons_succ]
      refine wpAnyH_take (i := 6) (v := ?_) rfl (by kernel_rfl) (by kernel_rfl) (by kernel_rfl) (fun _ _ _ h => h) (Or.inl ⟨by rfl, ?_⟩) (by assumption) ?_
      rotate_left
      · intro w hSw; (try dsimp only at hSw); go_simp <;> with_reducible rfl
      try simp only [Act.put, List.getElem_toArray, List.getElem_cons_zero, List.getElem_cons_succ, List.setIfInBounds_toArray, List.set_cons_zero, List.set_cons_succ]
      refine wpAnyH_ready (rs := [7]) (by kernel_rfl) (by simp) ?_
      refine AllReadyH.cons rfl (fun K hK => ?_) AllReadyH.nil
      go_simp
      refine (aC.out Wd KD.out).mono ?_
      rintro e w3 ⟨rfl, k3⟩
      (try go_wp2_with fail)
      refine hK.out _ _ ?_ (fun hHeld => ?_)
      · exact hF.out _ (KD.out.trans k3 (by simp))
      clear hK K
      try simp only [Act.put, List.getElem_toArray, List.getElem_cons_zero, List.getElem_cons_succ, List.setIfInBounds_toArray, List.set_cons_zero, List.set_cons_succ]
      have K3 := hid (KD.out.trans k3 (by simp))
      clear k3 aC
      refine wpAnyH_take (i := 8) (v := ?_) rfl (by kernel_rfl) (by kernel_rfl) (by kernel_rfl) (fun _ _ _ h => h) (Or.inl ⟨by rfl, ?_⟩) (by assumption) ?_
      rotate_left
      · intro w hSw; (try dsimp only at hSw); go_simp <;> with_reducible rfl
      try simp only [Act.put, List.getElem_toArray, List.getElem_cons_zero, List.getElem_cons_succ, List.setIfInBounds_toArray, List.set_cons_zero, List.set_cons_succ]
      refine wpAnyH_done (by kernel_rfl) ?_ _
      have e0 := hF.out _ K3.out
      have kw3 := hid (kr.trans K3.out (by simp))
      clear hHeld c0 hF
      by_cases h0 : y < 0
      · have d0 : decide (y < 0) = true := by simpa using h0
        have hw : wi y m = false := by unfold wi; simp; omega
        have hR : Hid (r = false) := by show _ = _; rw [← hr.out]; exact hmo.out (by rw [hsu.out, hw]; rfl)
        go_wp2_with fail
        go_ret
        exact ⟨by rw [hR.out]; rfl, kw3.out⟩
      have d0 : decide (y < 0) = false := by simpa using h0
      by_cases hm : m ≤ y
      · have d1 : decide (m ≤ y) = true := by simpa using hm
        have hw : wi y m = false := by unfold wi; simp; omega
        have hR : Hid (r = false) := by show _ = _; rw [← hr.out]; exact hmo.out (by rw [hsu.out, hw]; rfl)
        go_wp2_with fail
        go_ret
        exact ⟨by rw [hR.out]; rfl, kw3.out⟩
      have d1 : decide (m ≤ y) = false := by simpa using hm
      have hw : wi y m = true := by unfold wi; simp; omega
      rw [hw] at hsu
      clear hw
      cases Z with
      | true =>
        have hR : Hid (r = false) := by show _ = _; rw [← hr.out]; exact hmo.out hsu.out
        go_wp2_with fail
        go_ret
        exact ⟨by rw [hR.out]; rfl, kw3.out⟩
      | false =>
        go_wp2_with fail
        exact ⟨⟨j + 1, by omega, by go_num, hsu, kw3.out⟩, by simp [intOf]; omega⟩
    · have e : j = l.length := by omega
      subst e
      have hR : Hid (r = true) := by show _ = _; rw [← hr.out]; exact hst.out
      go_wp2_with fail
      go_ret
      exact ⟨by rw [hR.out]; rfl, kr⟩
end Go.Proofs.Ytckicbaidbgonaa
end

section
namespace Go.Proofs.Ytckicbaidbgonaa
open Go.RowKit Go.Hay
set_option linter.unusedVariables false
set_option linter.unusedSimpArgs false

theorem hvC_one (C : List Int) (x : Int) : hvC C [x] = decide (x ∈ C) := by simp [hvC]
theorem hvC_succ (C l : List Int) (j : Nat) (h : j < l.length) : hvC C (l.take (j + 1)) = (hvC C (l.take j) && decide (l[j] ∈ C)) := by
  unfold hvC
  have e : l.take (j + 1) = l.take j ++ [l[j]] := by rw [List.take_succ_eq_append_getElem h]
  rw [e, List.all_append, List.all_cons, List.all_nil, Bool.and_true]
theorem hvC_false (C l : List Int) (j : Nat) (h : hvC C (l.take j) = false) : hvC C l = false := by
  unfold hvC at h ⊢
  rw [List.all_eq_false] at h ⊢
  obtain ⟨x, hx, hx2⟩ := h
  exact ⟨x, List.mem_of_mem_take hx, hx2⟩
set_option maxHeartbeats 8000000 in
set_option maxRecDepth 100000 in
theorem rProj (c : Cg) (p : Pj) (w : World) (hc : c.ok w) (hp : p.ok w) : Calls Try.prog 39 #[c.v, p.v] w fun e w' => e = .returned (.bool (pjM c p)) ∧ Kp [] w w' := by
  obtain ⟨r, hr⟩ : ∃ r, Hid (pjM c p = r) := ⟨_, hid rfl⟩
  rw [hr.out]
  obtain ⟨W, eW, kW, zW, bC, bP⟩ := boxCP c p w
  have HC := hid (hc.kept kW)
  have HP := hid (hp.kept kW)
  have KW := hid kW
  have c0 := bC.get 0 _ rfl; have c1 := bC.get 1 _ rfl; have c2 := bC.get 2 _ rfl; have c3 := bC.get 3 _ rfl; have c4 := bC.get 4 _ rfl
  have p0 := bP.get 0 _ rfl; have p1 := bP.get 1 _ rfl; have p2 := bP.get 2 _ rfl; have p3 := bP.get 3 _ rfl; have p4 := bP.get 4 _ rfl; have p5 := bP.get 5 _ rfl
  have zW' : w.heap.size + 1 < W.heap.size := by omega
  have BB := hid (And.intro bC bP)
  clear hc hp kW bC bP zW
  unfold pjM at hr
  simp only [Cg.v, Pj.v]
  by_cases h0 : p.nm.size = 0
  · have d0 : ((p.nm.size : Int) == 0) = true := by simp [h0]
    have hN : namedV p.nm = false := by unfold namedV; simp [h0]
    rw [hN] at hr
    clear h0 hN
    go_enter Try.func39, Try.ntmps39
    go_wp2_with fail
    go_ret
    exact ⟨by rw [← hr.out]; rfl, KW.out⟩
  have d0 : ((p.nm.size : Int) == 0) = false := by simpa using h0
  by_cases h64 : 64 < p.nm.size
  · have d1 : decide ((64 : Int) < (p.nm.size : Int)) = true := by simp; omega
    have hN : namedV p.nm = false := by unfold namedV; simp; omega
    rw [hN] at hr
    clear hN
    go_enter Try.func39, Try.ntmps39
    go_wp2_with fail
    go_ret
    exact ⟨by rw [← hr.out]; rfl, KW.out⟩
  have d1 : decide ((64 : Int) < (p.nm.size : Int)) = false := by simp; omega
  have hN : namedV p.nm = true := by unfold namedV; simp; omega
  rw [hN] at hr
  clear h0 hN
  by_cases ht0 : p.tb < 0
  · have d2 : decide (p.tb < 0) = true := by simpa using ht0
    have hW : wi p.tb (c.tl.length : Int) = false := by unfold wi; simp; omega
    rw [hW] at hr
    clear hW
    go_enter Try.func39, Try.ntmps39
    go_wp2_with fail
    go_ret
    exact ⟨by rw [← hr.out]; rfl, KW.out⟩
  have d2 : decide (p.tb < 0) = false := by simpa using ht0
  by_cases ht1 : (c.tl.length : Int) ≤ p.tb
  · have d3 : decide ((c.tl.length : Int) ≤ p.tb) = true := by simpa using ht1
    have hW : wi p.tb (c.tl.length : Int) = false := by unfold wi; simp; omega
    rw [hW] at hr
    clear hW
    go_enter Try.func39, Try.ntmps39
    go_wp2_with fail
    go_ret
    exact ⟨by rw [← hr.out]; rfl, KW.out⟩
  have d3 : decide ((c.tl.length : Int) ≤ p.tb) = false := by simpa using ht1
  have hW : wi p.tb (c.tl.length : Int) = true := by unfold wi; simp; omega
  rw [hW] at hr
  clear hW
  by_cases h5 : p.cl.length = 0
  · have d4 : ((p.cl.length : Int) == 0) = true := by simp [h5]
    have hW : decide (0 < (p.cl.length : Int)) = false := by simp [h5]
    rw [hW] at hr
    have hr2 : Hid (r = false) := by have := hr.out; exact hid (by simpa using this.symm)
    clear hW h5 hr
    go_enter Try.func39, Try.ntmps39
    go_wp2_with fail
    go_ret
    exact ⟨by rw [hr2.out]; rfl, KW.out⟩
  have d4 : ((p.cl.length : Int) == 0) = false := by simpa using h5
  have hW : decide (0 < (p.cl.length : Int)) = true := by simp; omega
  rw [hW] at hr
  clear hW h5
  obtain ⟨i, hi⟩ := Int.eq_ofNat_of_zero_le (show 0 ≤ p.tb by omega)
  have hil : i < c.tl.length := by omega
  obtain ⟨g, f, eg, x0, x1⟩ := tbAt HC.out.ts (j := i) (t := c.tl[i]) (by simp [hil])
  obtain ⟨M, hM⟩ : ∃ M, Hid (c.tl[i].l.length = M) := ⟨_, hid rfl⟩
  have hMc : Hid (manyC c p = (M : Int)) := by show _ = _; unfold manyC; rw [hi]; simp [hil, hM.out]
  rw [hM.out] at x1
  rw [hMc.out, hvC_one] at hr
  have i1 : (0 : Int) ≤ (i : Int) := by omega
  have i2 : (i : Int) < (c.tl.length : Int) := by omega
  rw [hi] at p1 d2 d3 eW
  rw [eg] at c3 eW
  have d3n : decide (c.tl.length ≤ i) = false := by simp; omega
  have b1 := hid (fun w' (k : Kp [] W w') => rPlaces p.ca p.cc p.cl (M : Int) w' (HP.out.cols.keptNew k) HP.out.ccap HP.out.cmax)
  have b2 := hid (fun w' (k : Kp [] W w') => rPlaces p.sa p.sc p.sl (M : Int) w' (HP.out.sort.keptNew k) HP.out.scap HP.out.smax)
  have b3 := hid (fun (x : Int) w' (k : Kp [] W w') => rIn p.ca p.cc p.cl x w' (HP.out.cols.keptNew k) (by have := HP.out.ccap; have := HP.out.cmax; omega))
  have hsl : p.sl.length ≤ 9223372036854775807 := by have := HP.out.scap; have := HP.out.smax; omega
  have HB : Hid (∀ w', Kp [] W w' → (w'.cell? ⟨w.heap.size + 1, 0, none⟩ = some (.string p.nm) ∧ w'.cell? ⟨w.heap.size + 1, 1, none⟩ = some (.int .i64 p.tb) ∧ w'.cell? ⟨w.heap.size + 1, 2, none⟩ = some (.slice p.ca p.cl.length p.cc) ∧ w'.cell? ⟨w.heap.size + 1, 3, none⟩ = some (.slice p.sa p.sl.length p.sc) ∧ w'.cell? ⟨w.heap.size + 1, 4, none⟩ = some (.int .i64 p.by_) ∧ w'.cell? ⟨w.heap.size + 1, 5, none⟩ = some (.int .i64 p.sh)) ∧ w'.cell? ⟨w.heap.size, 0, none⟩ = some (.int .i64 c.n)) := fun w' k => by
    have h1 := BB.out.2.kept k
    have h2 := BB.out.1.kept k
    exact ⟨⟨h1.get 0 _ rfl, h1.get 1 _ rfl, h1.get 2 _ rfl, h1.get 3 _ rfl, h1.get 4 _ rfl, h1.get 5 _ rfl⟩, h2.get 0 _ rfl⟩
  obtain ⟨A, hA⟩ : ∃ A, Hid (plM p.cl (M : Int) = A) := ⟨_, hid rfl⟩
  obtain ⟨B, hB⟩ : ∃ B, Hid (plM p.sl (M : Int) = B) := ⟨_, hid rfl⟩
  obtain ⟨D, hD⟩ : ∃ D, Hid (decide (p.by_ ∈ p.cl) = D) := ⟨_, hid rfl⟩
  rw [hA.out] at b1 hr
  rw [hB.out] at b2 hr
  rw [hD.out] at hr
  have qD := hid (b3.out p.by_)
  rw [hD.out] at qD
  obtain ⟨sa, hsa⟩ : ∃ sa, Hid (p.sa = sa) := ⟨_, hid rfl⟩
  rw [hsa.out] at eW BB p3 b2 HB
  rw [hsa.out]
  rw [hi] at HB
  clear ht0 ht1 hA hB hD
  go_enter Try.func39, Try.ntmps39
  go_wp2_with fail
  refine (b1.out W (Kp.refl _ _)).mono ?_
  rintro e w2 ⟨rfl, k2⟩
  have K2 := hid k2
  clear k2 p0 p1 p2 p3 p4 p5 b1 c0 c1 c2 c3 c4 x0 x1
  obtain ⟨⟨p0, p1, p2, p3, p4, p5⟩, c0⟩ := HB.out _ K2.out
  go_wp2_with fail
  refine (b2.out _ K2.out).mono ?_
  rintro e w3 ⟨rfl, k3⟩
  have K3 := hid (K2.out.trans k3 (by simp))
  clear k3 p0 p1 p2 p3 p4 p5 b2 c0
  obtain ⟨⟨p0, p1, p2, p3, p4, p5⟩, c0⟩ := HB.out _ K3.out
  go_wp2_with fail
  refine (qD.out _ K3.out).mono ?_
  rintro e w4 ⟨rfl, k4⟩
  have K4 := hid (K3.out.trans k4 (by simp))
  clear k4 p0 p1 p2 p3 p4 p5 qD c0
  go_wp2_with fail
  go_loopw [9, 10] (fun iv _ wr => ∃ j : Nat, j ≤ p.sl.length ∧ iv = .int .i64 j ∧ Hid (hvC p.cl (p.sl.take j) = true) ∧ Hid (Kp [] W wr)) (fun iv _ _ => p.sl.length - (intOf iv).toNat)
  case atStart => exact ⟨0, Nat.zero_le _, rfl, hid rfl, K4⟩
  case round =>
    obtain ⟨j, hj, rfl, hst, kr⟩ := hrel
    clear K2 K3 K4
    obtain ⟨⟨p0, p1, p2, p3, p4, p5⟩, c0⟩ := HB.out _ kr.out
    by_cases hjl : j < p.sl.length
    · obtain ⟨g2, o2, eg2, y0⟩ := intAt (HP.out.sort.keptNew kr.out) j hjl
      rw [hsa.out] at eg2
      subst eg2
      have hsu := hid (hvC_succ p.cl p.sl j hjl)
      have hfa := hid (hvC_false p.cl p.sl (j + 1))
      have i3 : (0 : Int) ≤ (j : Int) := by omega
      have i4 : (j : Int) < (p.sl.length : Int) := by omega
      have i5 : (j : Int) + 1 ≤ 9223372036854775807 := by omega
      rw [hst.out] at hsu
      generalize p.sl[j] = y at *
      obtain ⟨Z, hZ⟩ : ∃ Z, Hid (decide (y ∈ p.cl) = Z) := ⟨_, hid rfl⟩
      have aC := hid (b3.out y)
      rw [hZ.out] at aC hsu
      have hF : Hid (∀ W', Kp [] wr W' → (W'.cell? ⟨w.heap.size + 1, 2, none⟩ = some (.slice p.ca p.cl.length p.cc) ∧ W'.cell? ⟨w.heap.size + 1, 3, none⟩ = some (.slice (some ⟨g2, o2, none⟩) p.sl.length p.sc) ∧ W'.cell? ⟨g2, o2 + j, none⟩ = some (.int .i64 y))) := fun W' k => by
        obtain ⟨⟨_, _, h2, h3, _, _⟩, _⟩ := HB.out _ (kr.out.trans k (by simp))
        exact ⟨h2, h3, kpAt k y0⟩
      clear hZ
      go_wp2_with fail
      refine wp_region_held_drew (S := fun W' => W'.cell? ⟨w.heap.size + 1, 2, none⟩ = some (.slice p.ca p.cl.length p.cc) ∧ W'.cell? ⟨w.heap.size + 1, 3, none⟩ = some (.slice (some ⟨g2, o2, none⟩) p.sl.length p.sc) ∧ W'.cell? ⟨g2, o2 + j, none⟩ = some (.int .i64 y)) (by kernel_rfl) ?_ (fun hHeld => ?_)
      · exact hF.out _ (Kp.refl _ _).drew
      have KD : Hid (Kp [] wr wr.drew) := hid (Kp.refl _ _).drew
      generalize wr.drew = Wd at *
      refine wpAnyH_take (i := 0) (v := ?_) rfl (by kernel_rfl) (by kernel_rfl) (by kernel_rfl) (fun _ _ _ h => h) (Or.inl ⟨by rfl, ?_⟩) (by assumption) ?_
      rotate_left
      · intro w hSw; (try dsimp only at hSw); go_simp <;> with_reducible rfl
      try simp only [Act.put, List.getElem_toArray, List.getElem_cons_zero, List.getElem_cons_succ, List.setIfInBounds_toArray, List.set_cons_zero, List.set_cons_succ]
      refine wpAnyH_take (i := 1) (v := ?_) rfl (by kernel_rfl) (by kernel_rfl) (by kernel_rfl) (fun _ _ _ h => h) (Or.inl ⟨by rfl, ?_⟩) (by assumption) ?_
      rotate_left
      · intro w hSw; (try dsimp only at hSw); go_simp <;> with_reducible rfl
      try simp only [Act.put, List.getElem_toArray, List.getElem_cons_zero, List.getElem_cons_succ, List.setIfInBounds_toArray, List.set_cons_zero, List.set_cons_succ]
      refine wpAnyH_take (i := 2) (v := ?_) rfl (by kernel_rfl) (by kernel_rfl) (by kernel_rfl) (fun _ _ _ h => h) (Or.inl ⟨by rfl, ?_⟩) (by assumption) ?_
      rotate_left
      · intro w hSw; (try dsimp only at hSw); go_simp <;> with_reducible rfl
      try simp only [Act.put, List.getElem_toArray, List.getElem_cons_zero, List.getElem_cons_succ, List.setIfInBounds_toArray, List.set_cons_zero, List.set_cons_succ]
      refine wpAnyH_take (i := 3) (v := ?_) rfl (by kernel_rfl) (by kernel_rfl) (by kernel_rfl) (fun _ _ _ h => h) (Or.inl ⟨by rfl, ?_⟩) (by assumption) ?_
      rotate_left
      · intro w hSw; (try dsimp only at hSw); go_simp <;> with_reducible rfl
      try simp only [Act.put, List.getElem_toArray, List.getElem_cons_zero, List.getElem_cons_succ, List.setIfInBounds_toArray, List.set_cons_zero, List.set_cons_succ]
      refine wpAnyH_take (i := 4) (v := ?_) rfl (by kernel_rfl) (by kernel_rfl) (by kernel_rfl) (fun _ _ _ h => h) (Or.inl ⟨by rfl, ?_⟩) (by assumption) ?_
      rotate_left
      · intro w hSw; (try dsimp only at hSw); go_simp <;> with_reducible rfl
      try simp only [Act.put, List.getElem_toArray, List.getElem_cons_zero, List.getElem_cons_succ, List.setIfInBounds_toArray, List.set_cons_zero, List.set_cons_succ]
      refine wpAnyH_take (i := 5) (v := ?_) rfl (by kernel_rfl) (by kernel_rfl) (by kernel_rfl) (fun _ _ _ h => h) (Or.inl ⟨by rfl, ?_⟩) (by assumption) ?_
      rotate_left
      · intro w hSw; (try dsimp only at hSw); go_simp <;> with_reducible rfl
      try simp only [Act.put, List.getElem_toArray, List.getElem_cons_zero, List.getElem_cons_succ, List.setIfInBounds_toArray, List.set_cons_zero, List.set_cons_succ]
      refine wpAnyH_take (i := 6) (v := ?_) rfl (by kernel_rfl) (by kernel_rfl) (by kernel_rfl) (fun _ _ _ h => h) (Or.inl ⟨by rfl, ?_⟩) (by assumption) ?_
      rotate_left
      · intro w hSw; (try dsimp only at hSw); go_simp <;> with_reducible rfl
      try simp only [Act.put, List.getElem_toArray, List.getElem_cons_zero, List.getElem_cons_succ, List.setIfInBounds_toArray, List.set_cons_zero, List.set_cons_succ]
      refine wpAnyH_ready (rs := [7]) (by kernel_rfl) (by simp) ?_
      refine AllReadyH.cons rfl (fun K hK => ?_) AllReadyH.nil
      go_simp
      refine (aC.out Wd (kr.out.trans KD.out (by simp))).mono ?_
      rintro e w5 ⟨rfl, k5⟩
      (try go_wp2_with fail)
      refine hK.out _ _ ?_ (fun hHeld => ?_)
      · exact hF.out _ (KD.out.trans k5 (by simp))
      clear hK K
      try simp only [Act.put, List.getElem_toArray, List.getElem_cons_zero, List.getElem_cons_succ, List.setIfInBounds_toArray, List.set_cons_zero, List.set_cons_succ]
      have K5 := hid (kr.out.trans (KD.out.trans k5 (by simp)) (by simp))
      clear k5 aC hF
      refine wpAnyH_take (i := 8) (v := ?_) rfl (by kernel_rfl) (by kernel_rfl) (by kernel_rfl) (fun _ _ _ h => h) (Or.inl ⟨by rfl, ?_⟩) (by assumption) ?_
      rotate_left
      · intro w hSw; (try dsimp only at hSw); go_simp <;> with_reducible rfl
      try simp only [Act.put, List.getElem_toArray, List.getElem_cons_zero, List.getElem_cons_succ, List.setIfInBounds_toArray, List.set_cons_zero, List.set_cons_succ]
      refine wpAnyH_done (by kernel_rfl) ?_ _
      clear hHeld p0 p1 p2 p3 p4 p5 c0 y0
      cases Z with
      | true =>
        go_wp2_with fail
        exact ⟨⟨j + 1, by omega, by go_num, hsu, K5⟩, by simp [intOf]; omega⟩
      | false =>
        have hf2 := hfa.out hsu.out
        rw [hf2] at hr
        have hr2 : Hid (r = false) := by have := hr.out; exact hid (by simpa using this.symm)
        clear hr hf2
        go_wp2_with fail
        go_ret
        exact ⟨by rw [hr2.out]; rfl, KW.out.trans K5.out (by simp)⟩
    · have e : j = p.sl.length := by omega
      subst e
      have hs2 := hst.out
      rw [List.take_length] at hs2
      rw [hs2] at hr
      clear hs2 hst
      have KF := hid (KW.out.trans kr.out (by simp))
      cases A with
      | false =>
        have hr2 : Hid (r = false) := by have := hr.out; exact hid (by simpa using this.symm)
        clear hr
        go_wp2_with fail
        go_ret
        exact ⟨by rw [hr2.out]; rfl, KF.out⟩
      | true =>
      cases B with
      | false =>
        have hr2 : Hid (r = false) := by have := hr.out; exact hid (by simpa using this.symm)
        clear hr
        go_wp2_with fail
        go_ret
        exact ⟨by rw [hr2.out]; rfl, KF.out⟩
      | true =>
      cases D with
      | false =>
        have hr2 : Hid (r = false) := by have := hr.out; exact hid (by simpa using this.symm)
        clear hr
        go_wp2_with fail
        go_ret
        exact ⟨by rw [hr2.out]; rfl, KF.out⟩
      | true =>
      have hr2 : Hid (r = wi p.sh c.n) := by have := hr.out; exact hid (by simpa using this.symm)
      clear hr
      unfold wi at hr2
      by_cases hs0 : 0 ≤ p.sh
      · have e0 : decide (0 ≤ p.sh) = true := by simpa using hs0
        rw [e0] at hr2
        go_wp2_with fail
        go_ret
        exact ⟨by rw [hr2.out]; simp, KF.out⟩
      · have e0 : decide (0 ≤ p.sh) = false := by simpa using hs0
        rw [e0] at hr2
        go_wp2_with fail
        go_ret
        exact ⟨by rw [hr2.out]; simp, KF.out⟩
end Go.Proofs.Ytckicbaidbgonaa
end

section
namespace Go.Proofs.Ytckicbaidbgonaa
open Go.RowKit Go.Hay
set_option linter.unusedVariables false
set_option linter.unusedSimpArgs false

/-- Have two lists of places all of the first so many? -/
def alR (m : Nat) (C D : List Int) : Bool := (List.range m).all fun n => decide ((n : Int) ∈ C) || decide ((n : Int) ∈ D)
theorem cbt_bit : ∀ (l : List Int) (b n : Nat), (∀ y ∈ l, 0 ≤ y) → (l.foldl (fun b p => b ||| 2 ^ p.toNat) b).testBit n = (b.testBit n || decide ((n : Int) ∈ l))
  | [], b, n, _ => by simp
  | y :: l, b, n, h => by
    have hy := h y (by simp)
    have ih := cbt_bit l (b ||| 2 ^ y.toNat) n (fun z hz => h z (by simp [hz]))
    rw [List.foldl_cons, ih, Nat.testBit_or, Nat.testBit_two_pow]
    have e : decide (y.toNat = n) = decide ((n : Int) = y) := by
      rw [decide_eq_decide]
      omega
    rw [e]
    by_cases h1 : (n : Int) = y
    · simp [h1]
    · by_cases h2 : (n : Int) ∈ l
      · simp [h1, h2]
      · simp [h1, h2]
theorem alR_bits (m : Nat) (C D : List Int) (hC : ∀ y ∈ C, 0 ≤ y ∧ y < (m : Int)) (hD : ∀ y ∈ D, 0 ≤ y ∧ y < (m : Int)) : alR m C D = ((cbt C ||| cbt D) == 2 ^ m - 1) := by
  have hb : ∀ n, (cbt C ||| cbt D).testBit n = (decide ((n : Int) ∈ C) || decide ((n : Int) ∈ D)) := fun n => by
    rw [Nat.testBit_or]
    have h1 := cbt_bit C 0 n (fun y hy => (hC y hy).1)
    have h2 := cbt_bit D 0 n (fun y hy => (hD y hy).1)
    simp only [Nat.zero_testBit, Bool.false_or] at h1 h2
    unfold cbt
    rw [h1, h2]
  rw [Bool.eq_iff_iff]
  constructor
  · intro h
    rw [beq_iff_eq]
    apply Nat.eq_of_testBit_eq
    intro n
    rw [hb, Nat.testBit_two_pow_sub_one]
    by_cases hn : n < m
    · unfold alR at h
      rw [List.all_eq_true] at h
      rw [h n (List.mem_range.2 hn)]
      simp [hn]
    · have h1 : ¬ (n : Int) ∈ C := fun hm => by have := hC _ hm; omega
      have h2 : ¬ (n : Int) ∈ D := fun hm => by have := hD _ hm; omega
      simp [h1, h2, hn]
  · intro h
    rw [beq_iff_eq] at h
    unfold alR
    rw [List.all_eq_true]
    intro n hn
    rw [← hb n, h, Nat.testBit_two_pow_sub_one]
    simpa using List.mem_range.1 hn
theorem alR_succ (m : Nat) (C D : List Int) : alR (m + 1) C D = (alR m C D && (decide ((m : Int) ∈ C) || decide ((m : Int) ∈ D))) := by
  unfold alR
  rw [List.range_succ, List.all_append]
  simp
theorem alR_mono (m k : Nat) (C D : List Int) (h : m ≤ k) (hf : alR m C D = false) : alR k C D = false := by
  unfold alR at hf ⊢
  rw [List.all_eq_false] at hf ⊢
  obtain ⟨x, hx, hx2⟩ := hf
  exact ⟨x, List.mem_range.2 (by have := List.mem_range.1 hx; omega), hx2⟩
theorem boxTPQ (t : Tb) (p q : Pj) (w : World) : ∃ W, ((w.alloc (.cells #[.string t.nm, .slice t.a t.l.length t.c] 76)).alloc (.cells #[.string p.nm, .int .i64 p.tb, .slice p.ca p.cl.length p.cc, .slice p.sa p.sl.length p.sc, .int .i64 p.by_, .int .i64 p.sh] 48)).alloc (.cells #[.string q.nm, .int .i64 q.tb, .slice q.ca q.cl.length q.cc, .slice q.sa q.sl.length q.sc, .int .i64 q.by_, .int .i64 q.sh] 48) = W ∧ Kp [] w W ∧ W.heap.size = w.heap.size + 3 ∧ Bn W w.heap.size [.string t.nm, .slice t.a t.l.length t.c] ∧ Bn W (w.heap.size + 1) [.string p.nm, .int .i64 p.tb, .slice p.ca p.cl.length p.cc, .slice p.sa p.sl.length p.sc, .int .i64 p.by_, .int .i64 p.sh] ∧ Bn W (w.heap.size + 1 + 1) [.string q.nm, .int .i64 q.tb, .slice q.ca q.cl.length q.cc, .slice q.sa q.sl.length q.sc, .int .i64 q.by_, .int .i64 q.sh] := by
  refine ⟨_, rfl, (((Kp.refl _ _).alloc _).alloc _).alloc _, by simp, ?_, ?_, ?_⟩
  · exact ((Bn.new w [.string t.nm, .slice t.a t.l.length t.c] 76).kept ((Kp.refl _ _).alloc _)).kept ((Kp.refl _ _).alloc _)
  · have h := Bn.new (w.alloc (.cells #[.string t.nm, .slice t.a t.l.length t.c] 76)) [.string p.nm, .int .i64 p.tb, .slice p.ca p.cl.length p.cc, .slice p.sa p.sl.length p.sc, .int .i64 p.by_, .int .i64 p.sh] 48
    rw [World.size_alloc] at h
    exact h.kept ((Kp.refl _ _).alloc _)
  · have h := Bn.new ((w.alloc (.cells #[.string t.nm, .slice t.a t.l.length t.c] 76)).alloc (.cells #[.string p.nm, .int .i64 p.tb, .slice p.ca p.cl.length p.cc, .slice p.sa p.sl.length p.sc, .int .i64 p.by_, .int .i64 p.sh] 48)) [.string q.nm, .int .i64 q.tb, .slice q.ca q.cl.length q.cc, .slice q.sa q.sl.length q.sc, .int .i64 q.by_, .int .i64 q.sh] 48
    rw [World.size_alloc, World.size_alloc] at h
    exact h
set_option maxHeartbeats 4000000 in
set_option maxRecDepth 100000 in
theorem rAllC (t : Tb) (p q : Pj) (w : World) (ht : t.l.length ≤ 9223372036854775806) (hp : p.ok w) (hq : q.ok w) : Calls Try.prog 63 #[t.v, p.v, q.v] w fun e w' => e = .returned (.bool (alR t.l.length p.cl q.cl)) ∧ Kp [] w w' := by
  obtain ⟨W, eW, kW, zW, bT, bP, bQ⟩ := boxTPQ t p q w
  obtain ⟨r, hr⟩ : ∃ r, Hid (alR t.l.length p.cl q.cl = r) := ⟨_, hid rfl⟩
  rw [hr.out]
  have aP := hid (fun (x : Int) w' (k : Kp [] w w') => rIn p.ca p.cc p.cl x w' (hp.kept k).cols (by have := hp.ccap; have := hp.cmax; omega))
  have aQ := hid (fun (x : Int) w' (k : Kp [] w w') => rIn q.ca q.cc q.cl x w' (hq.kept k).cols (by have := hq.ccap; have := hq.cmax; omega))
  have KW := hid kW
  have BB := hid (And.intro bT (And.intro bP bQ))
  have zW' : w.heap.size + 1 + 1 < W.heap.size := by omega
  have hF : Hid (∀ w', Kp [] W w' → w'.cell? ⟨w.heap.size, 1, none⟩ = some (.slice t.a t.l.length t.c) ∧ w'.cell? ⟨w.heap.size + 1, 2, none⟩ = some (.slice p.ca p.cl.length p.cc) ∧ w'.cell? ⟨w.heap.size + 1 + 1, 2, none⟩ = some (.slice q.ca q.cl.length q.cc)) := fun w' k => ⟨(BB.out.1.kept k).get 1 _ rfl, (BB.out.2.1.kept k).get 2 _ rfl, (BB.out.2.2.kept k).get 2 _ rfl⟩
  clear hp hq kW bT bP bQ zW
  simp only [Tb.v, Pj.v]
  obtain ⟨M, hM⟩ : ∃ M, Hid (t.l.length = M) := ⟨_, hid rfl⟩
  rw [hM.out] at eW hr hF ht
  rw [hM.out]
  go_enter Try.func63, Try.ntmps63
  go_wp2_with fail
  go_loopw [7, 8, 9] (fun i _ _ wr => ∃ j : Nat, j ≤ M ∧ i = .int .i64 j ∧ Hid (alR j p.cl q.cl = true) ∧ Hid (Kp [] W wr)) (fun i _ _ _ => M - (intOf i).toNat)
  case atStart => exact ⟨0, Nat.zero_le _, rfl, hid rfl, hid (Kp.refl _ _)⟩
  case round =>
    obtain ⟨j, hj, rfl, hst, kr⟩ := hrel
    obtain ⟨b1, b2, b3⟩ := hF.out _ kr.out
    by_cases hjl : j < M
    · have i1 : (0 : Int) ≤ (j : Int) := by omega
      have i2 : (j : Int) < (M : Int) := by omega
      have i3 : (j : Int) + 1 ≤ 9223372036854775807 := by omega
      have hsu := hid (alR_succ j p.cl q.cl)
      have hmo := hid (alR_mono (j + 1) M p.cl q.cl (by omega))
      obtain ⟨X, hX⟩ : ∃ X, Hid (decide ((j : Int) ∈ p.cl) = X) := ⟨_, hid rfl⟩
      obtain ⟨Y, hY⟩ : ∃ Y, Hid (decide ((j : Int) ∈ q.cl) = Y) := ⟨_, hid rfl⟩
      have a1 := hid (aP.out (j : Int) wr (KW.out.trans kr.out (by simp)))
      have a2 := hid (fun w' (k : Kp [] W w') => aQ.out (j : Int) w' (KW.out.trans k (by simp)))
      rw [hX.out] at a1
      rw [hY.out] at a2
      rw [hst.out, hX.out, hY.out] at hsu
      clear hX hY
      go_wp2_with fail
      refine a1.out.mono ?_
      rintro e w2 ⟨rfl, k2⟩
      have K2 := hid (kr.out.trans k2 (by simp))
      clear k2 a1 b1 b2 b3
      obtain ⟨b1, b2, b3⟩ := hF.out _ K2.out
      go_wp2_with fail
      refine (a2.out _ K2.out).mono ?_
      rintro e w3 ⟨rfl, k3⟩
      have K3 := hid (K2.out.trans k3 (by simp))
      clear k3 a2 b1 b2 b3
      cases X with
      | true =>
        have hsu2 : Hid (alR (j + 1) p.cl q.cl = true) := by show _ = _; rw [hsu.out]; rfl
        go_wp2_with fail
        exact ⟨⟨j + 1, by omega, by go_num, hsu2, K3⟩, by simp [intOf]; omega⟩
      | false =>
      cases Y with
      | true =>
        have hsu2 : Hid (alR (j + 1) p.cl q.cl = true) := by show _ = _; rw [hsu.out]; rfl
        go_wp2_with fail
        exact ⟨⟨j + 1, by omega, by go_num, hsu2, K3⟩, by simp [intOf]; omega⟩
      | false =>
        have hR : Hid (r = false) := by show _ = _; rw [← hr.out]; exact hmo.out (by rw [hsu.out]; rfl)
        go_wp2_with fail
        go_ret
        exact ⟨by rw [hR.out]; rfl, KW.out.trans K3.out (by simp)⟩
    · have e : j = M := by omega
      subst e
      have hR : Hid (r = true) := by show _ = _; rw [← hr.out]; exact hst.out
      go_wp2_with fail
      go_ret
      exact ⟨by rw [hR.out]; rfl, KW.out.trans kr.out (by simp)⟩
/-- The reference's pairs. -/
def rvIn (l : List Pj) (t : Int) (A i m : Nat) : Bool := (List.range m).any fun k => cvP t A (l.getD i default) (l.getD k default)
def rvTo (l : List Pj) (t : Int) (A j : Nat) : Bool := (List.range j).any fun i => rvIn l t A i l.length
theorem rvIn_succ (l : List Pj) (t : Int) (A i m : Nat) : rvIn l t A i (m + 1) = (rvIn l t A i m || cvP t A (l.getD i default) (l.getD m default)) := by
  unfold rvIn
  rw [List.range_succ, List.any_append]
  simp
theorem rvTo_succ (l : List Pj) (t : Int) (A j : Nat) : rvTo l t A (j + 1) = (rvTo l t A j || rvIn l t A j l.length) := by
  unfold rvTo
  rw [List.range_succ, List.any_append]
  simp
theorem rv_true (l : List Pj) (t : Int) (A i m : Nat) (hi : i < l.length) (hm : m < l.length) (h : cvP t A (l.getD i default) (l.getD m default) = true) : rvTo l t A l.length = true := by
  unfold rvTo
  rw [List.any_eq_true]
  refine ⟨i, List.mem_range.2 hi, ?_⟩
  unfold rvIn
  rw [List.any_eq_true]
  exact ⟨m, List.mem_range.2 hm, h⟩
theorem cvP_comm (t : Int) (A : Nat) (p q : Pj) : cvP t A p q = cvP t A q p := by
  unfold cvP
  rw [Nat.or_comm (cbt p.cl) (cbt q.cl)]
  cases (p.tb == t) <;> cases (q.tb == t) <;> simp
theorem rv_eq (l : List Pj) (t : Int) (A : Nat) : rvTo l t A l.length = cvTo l t A l.length := by
  rw [Bool.eq_iff_iff]
  constructor
  · intro h
    unfold rvTo rvIn at h
    rw [List.any_eq_true] at h
    obtain ⟨i, hi, h⟩ := h
    rw [List.any_eq_true] at h
    obtain ⟨k, hk, h⟩ := h
    rw [List.mem_range] at hi hk
    by_cases hik : i ≤ k
    · exact cv_true l t A i (k - i) hi (by omega) (by rw [show i + (k - i) = k by omega]; exact h)
    · exact cv_true l t A k (i - k) hk (by omega) (by rw [show k + (i - k) = i by omega, cvP_comm]; exact h)
  · intro h
    unfold cvTo cvIn at h
    rw [List.any_eq_true] at h
    obtain ⟨i, hi, h⟩ := h
    rw [List.any_eq_true] at h
    obtain ⟨k, hk, h⟩ := h
    rw [List.mem_range] at hi hk
    exact rv_true l t A i (i + k) hi (by omega) h
end Go.Proofs.Ytckicbaidbgonaa
end

section
namespace Go.Proofs.Ytckicbaidbgonaa
open Go.RowKit Go.Hay
set_option linter.unusedVariables false
set_option linter.unusedSimpArgs false

set_option maxHeartbeats 8000000 in
set_option maxRecDepth 100000 in
theorem rCovered (c : Cg) (t : Nat) (w : World) (hc : c.ok w) (htl : t < c.tl.length) (hm8 : c.tl[t].l.length ≤ 8) (hcl : ∀ p ∈ c.pl, p.tb = (t : Int) → ∀ y ∈ p.cl, 0 ≤ y ∧ y < (c.tl[t].l.length : Int)) : Calls Try.prog 40 #[c.v, .int .i64 (t : Int)] w fun e w' => e = .returned (.bool (cvTo c.pl t (allB c.tl[t]) c.pl.length)) ∧ Kp [] w w' := by
  obtain ⟨W, eW, kW, zW, bC⟩ := boxC c w
  rw [← rv_eq]
  obtain ⟨r, hr⟩ : ∃ r, Hid (rvTo c.pl t (allB c.tl[t]) c.pl.length = r) := ⟨_, hid rfl⟩
  rw [hr.out]
  have HC := hid hc
  have hpm : c.pl.length ≤ 9223372036854775807 := by have := hc.pcap; have := hc.pmax; omega
  obtain ⟨gt, ot, egt, _, _⟩ := tbAt hc.ts (j := t) (t := c.tl[t]) (by simp [htl])
  have htt : Hid (∀ w', Kp [] w w' → w'.cell? ⟨gt, ot + t * 2, none⟩ = some (.string c.tl[t].nm) ∧ w'.cell? ⟨gt, ot + t * 2 + 1, none⟩ = some (.slice c.tl[t].a c.tl[t].l.length c.tl[t].c)) := fun w' k => by
    obtain ⟨g2, o2, e2, h1, h2⟩ := tbAt (hc.kept k).ts (j := t) (t := c.tl[t]) (by simp [htl])
    rw [egt] at e2
    injection e2 with e2
    injection e2 with e3 e4
    subst e3 e4
    exact ⟨h1, h2⟩
  obtain ⟨AL, hAL⟩ : ∃ A, Hid (allB c.tl[t] = A) := ⟨_, hid rfl⟩
  rw [hAL.out] at hr
  have hAl : Hid (∀ p q : Pj, p ∈ c.pl → q ∈ c.pl → p.tb = (t : Int) → q.tb = (t : Int) → alR c.tl[t].l.length p.cl q.cl = cvP (t : Int) AL p q) := fun p q hp hq h1 h2 => by
    have e := alR_bits c.tl[t].l.length p.cl q.cl (hcl p hp h1) (hcl q hq h2)
    unfold cvP
    rw [e, h1, h2, ← hAL.out]
    unfold allB
    simp
  have t0 : (0 : Int) ≤ (t : Int) := by omega
  have t1 : (t : Int) < (c.tl.length : Int) := by omega
  rw [egt] at eW bC
  have BC := hid bC
  have KW := hid kW
  have zW' : w.heap.size < W.heap.size := by omega
  generalize c.tl[t] = T at *
  clear hc kW bC zW hcl htl hAL
  simp only [Cg.v]
  rw [egt]
  obtain ⟨pa, hpa⟩ : ∃ pa, Hid (c.pa = pa) := ⟨_, hid rfl⟩
  rw [hpa.out] at eW BC
  rw [hpa.out]
  have EGT := hid egt
  clear egt
  go_enter Try.func40, Try.ntmps40
  go_wp2_with fail
  go_loopw [5, 6, 7] (fun i _ _ wr => ∃ j : Nat, j ≤ c.pl.length ∧ i = .int .i64 j ∧ Hid (rvTo c.pl t AL j = false) ∧ Hid (Bn wr w.heap.size [.int .i64 c.n, .int .i64 c.s, .int .i64 c.k, .slice (some ⟨gt, ot, none⟩) c.tl.length c.tc, .slice pa c.pl.length c.pc]) ∧ Hid (Kp [] w wr)) (fun i _ _ _ => c.pl.length - (intOf i).toNat)
  case atStart => exact ⟨0, Nat.zero_le _, rfl, hid rfl, BC, KW⟩
  case round =>
    obtain ⟨j, hj, rfl, hst, bx, kr⟩ := hrel
    clear BC KW eW zW'
    have b4 := bx.out.get 4 _ rfl
    have wlt := bx.out.lt (by simp)
    by_cases hjl : j < c.pl.length
    · obtain ⟨g, o, eg, _⟩ := pjAt (HC.out.ps.keptNew kr.out) (j := j) (p := c.pl[j]) (by simp [hjl])
      rw [hpa.out] at eg
      subst eg
      have hpx : Hid (∀ (k : Nat) (h : k < c.pl.length) w', Kp [] w w' → (w'.cell? ⟨g, o + k * 6, none⟩ = some (.string c.pl[k].nm) ∧ w'.cell? ⟨g, o + k * 6 + 1, none⟩ = some (.int .i64 c.pl[k].tb) ∧ w'.cell? ⟨g, o + k * 6 + 2, none⟩ = some (.slice c.pl[k].ca c.pl[k].cl.length c.pl[k].cc) ∧ w'.cell? ⟨g, o + k * 6 + 3, none⟩ = some (.slice c.pl[k].sa c.pl[k].sl.length c.pl[k].sc) ∧ w'.cell? ⟨g, o + k * 6 + 4, none⟩ = some (.int .i64 c.pl[k].by_) ∧ w'.cell? ⟨g, o + k * 6 + 5, none⟩ = some (.int .i64 c.pl[k].sh))) := fun k h w' hk => by
        obtain ⟨g2, o2, e2, h1⟩ := pjAt (HC.out.ps.keptNew hk) (j := k) (p := c.pl[k]) (by simp [h])
        rw [hpa.out] at e2
        injection e2 with e2
        injection e2 with e3 e4
        subst e3 e4
        exact h1
      have hsu := hid (rvTo_succ c.pl t AL j)
      have hgd : Hid (c.pl.getD j default = c.pl[j]) := by show _ = _; simp [hjl]
      have hpo := hid (HC.out.pok _ (List.getElem_mem hjl))
      have hmp : Hid (c.pl[j] ∈ c.pl) := List.getElem_mem hjl
      have hpj := hid (hpx.out j hjl)
      have i1 : (0 : Int) ≤ (j : Int) := by omega
      have i2 : (j : Int) < (c.pl.length : Int) := by omega
      have i3 : (j : Int) + 1 ≤ 9223372036854775807 := by omega
      rw [hst.out] at hsu
      generalize c.pl[j] = p at *
      go_wp2_with fail
      clear b4
      go_loopw [6, 7] (fun i _ wn => ∃ m : Nat, m ≤ c.pl.length ∧ i = .int .i64 m ∧ Hid (rvIn c.pl t AL j m = false) ∧ Hid (Bn wn w.heap.size [.int .i64 c.n, .int .i64 c.s, .int .i64 c.k, .slice (some ⟨gt, ot, none⟩) c.tl.length c.tc, .slice (some ⟨g, o, none⟩) c.pl.length c.pc]) ∧ Hid (Kp [] w wn)) (fun i _ _ => c.pl.length - (intOf i).toNat)
      case atStart => exact ⟨0, Nat.zero_le _, rfl, hid rfl, bx, kr⟩
      case round =>
        obtain ⟨m, hm, rfl, hin, bx2, km⟩ := hrel
        clear bx kr
        have b4 := bx2.out.get 4 _ rfl
        by_cases hml : m < c.pl.length
        · have hgq : Hid (c.pl.getD m default = c.pl[m]) := by show _ = _; simp [hml]
          have hqo := hid (HC.out.pok _ (List.getElem_mem hml))
          have hmq : Hid (c.pl[m] ∈ c.pl) := List.getElem_mem hml
          have hqj := hid (hpx.out m hml)
          have hins := hid (rvIn_succ c.pl t AL j m)
          have htr := hid (rv_true c.pl t AL j m hjl hml)
          rw [hin.out, hgd.out, hgq.out] at hins
          rw [hgd.out, hgq.out] at htr
          have m1 : (0 : Int) ≤ (m : Int) := by omega
          have m2 : (m : Int) < (c.pl.length : Int) := by omega
          have m3 : (m : Int) + 1 ≤ 9223372036854775807 := by omega
          generalize c.pl[m] = q at *
          obtain ⟨x0, x1, x2, x3, x4, x5⟩ := hpj.out _ km.out
          obtain ⟨y0, y1, y2, y3, y4, y5⟩ := hqj.out _ km.out
          by_cases h1 : p.tb = (t : Int)
          rotate_left
          · have d1 : (p.tb == (t : Int)) = false := by simpa using h1
            have hins2 : Hid (rvIn c.pl t AL j (m + 1) = false) := by show _ = _; rw [hins.out]; unfold cvP; rw [d1]; rfl
            clear hins htr h1
            go_wp2_with fail
            exact ⟨⟨m + 1, by omega, by go_num, hins2, bx2, km⟩, by simp [intOf]; omega⟩
          have d1 : (p.tb == (t : Int)) = true := by simpa using h1
          by_cases h2 : q.tb = (t : Int)
          rotate_left
          · have d2 : (q.tb == (t : Int)) = false := by simpa using h2
            have hins2 : Hid (rvIn c.pl t AL j (m + 1) = false) := by show _ = _; rw [hins.out]; unfold cvP; rw [d2]; simp
            have h1' := hid h1
            clear hins htr h1 h2
            go_wp2_with fail
            exact ⟨⟨m + 1, by omega, by go_num, hins2, bx2, km⟩, by simp [intOf]; omega⟩
          have d2 : (q.tb == (t : Int)) = true := by simpa using h2
          have hal := hAl.out p q hmp.out hmq.out h1 h2
          obtain ⟨V, hV⟩ : ∃ V, Hid (cvP (t : Int) AL p q = V) := ⟨_, hid rfl⟩
          rw [hV.out] at hal hins htr
          have aA := hid (fun w' (k : Kp [] w w') => rAllC T p q w' (by omega) (hpo.out.kept k) (hqo.out.kept k))
          rw [hal] at aA
          simp only [Tb.v, Pj.v] at aA
          have hF : Hid (∀ W', Kp [] wr W' → (W'.cell? ⟨w.heap.size, 3, none⟩ = some (.slice (some ⟨gt, ot, none⟩) c.tl.length c.tc) ∧ W'.cell? ⟨w.heap.size, 4, none⟩ = some (.slice (some ⟨g, o, none⟩) c.pl.length c.pc) ∧ W'.cell? ⟨gt, ot + t * 2, none⟩ = some (.string T.nm) ∧ W'.cell? ⟨gt, ot + t * 2 + 1, none⟩ = some (.slice T.a T.l.length T.c) ∧ W'.cell? ⟨g, o + j * 6, none⟩ = some (.string p.nm) ∧ W'.cell? ⟨g, o + j * 6 + 1, none⟩ = some (.int .i64 p.tb) ∧ W'.cell? ⟨g, o + j * 6 + 2, none⟩ = some (.slice p.ca p.cl.length p.cc) ∧ W'.cell? ⟨g, o + j * 6 + 3, none⟩ = some (.slice p.sa p.sl.length p.sc) ∧ W'.cell? ⟨g, o + j * 6 + 4, none⟩ = some (.int .i64 p.by_) ∧ W'.cell? ⟨g, o + j * 6 + 5, none⟩ = some (.int .i64 p.sh) ∧ W'.cell? ⟨g, o + m * 6, none⟩ = some (.string q.nm) ∧ W'.cell? ⟨g, o + m * 6 + 1, none⟩ = some (.int .i64 q.tb) ∧ W'.cell? ⟨g, o + m * 6 + 2, none⟩ = some (.slice q.ca q.cl.length q.cc) ∧ W'.cell? ⟨g, o + m * 6 + 3, none⟩ = some (.slice q.sa q.sl.length q.sc) ∧ W'.cell? ⟨g, o + m * 6 + 4, none⟩ = some (.int .i64 q.by_) ∧ W'.cell? ⟨g, o + m * 6 + 5, none⟩ = some (.int .i64 q.sh))) := fun W' k => by
            have hk := km.out.trans k (by simp)
            have e1 := bx2.out.kept k
            obtain ⟨f0, f1⟩ := htt.out _ hk
            obtain ⟨x0, x1, x2, x3, x4, x5⟩ := hpj.out _ hk
            obtain ⟨y0, y1, y2, y3, y4, y5⟩ := hqj.out _ hk
            exact ⟨e1.get 3 _ rfl, e1.get 4 _ rfl, f0, f1, x0, x1, x2, x3, x4, x5, y0, y1, y2, y3, y4, y5⟩
          have h12 := hid (And.intro h1 h2)
          clear h1 h2 hal hV
          go_wp2_with fail
          refine wp_region_held_drew (S := fun W' => W'.cell? ⟨w.heap.size, 3, none⟩ = some (.slice (some ⟨gt, ot, none⟩) c.tl.length c.tc) ∧ W'.cell? ⟨w.heap.size, 4, none⟩ = some (.slice (some ⟨g, o, none⟩) c.pl.length c.pc) ∧ W'.cell? ⟨gt, ot + t * 2, none⟩ = some (.string T.nm) ∧ W'.cell? ⟨gt, ot + t * 2 + 1, none⟩ = some (.slice T.a T.l.length T.c) ∧ W'.cell? ⟨g, o + j * 6, none⟩ = some (.string p.nm) ∧ W'.cell? ⟨g, o + j * 6 + 1, none⟩ = some (.int .i64 p.tb) ∧ W'.cell? ⟨g, o + j * 6 + 2, none⟩ = some (.slice p.ca p.cl.length p.cc) ∧ W'.cell? ⟨g, o + j * 6 + 3, none⟩ = some (.slice p.sa p.sl.length p.sc) ∧ W'.cell? ⟨g, o + j * 6 + 4, none⟩ = some (.int .i64 p.by_) ∧ W'.cell? ⟨g, o + j * 6 + 5, none⟩ = some (.int .i64 p.sh) ∧ W'.cell? ⟨g, o + m * 6, none⟩ = some (.string q.nm) ∧ W'.cell? ⟨g, o + m * 6 + 1, none⟩ = some (.int .i64 q.tb) ∧ W'.cell? ⟨g, o + m * 6 + 2, none⟩ = some (.slice q.ca q.cl.length q.cc) ∧ W'.cell? ⟨g, o + m * 6 + 3, none⟩ = some (.slice q.sa q.sl.length q.sc) ∧ W'.cell? ⟨g, o + m * 6 + 4, none⟩ = some (.int .i64 q.by_) ∧ W'.cell? ⟨g, o + m * 6 + 5, none⟩ = some (.int .i64 q.sh)) (by kernel_rfl) ?_ (fun hHeld => ?_)
          · exact hF.out _ (Kp.refl _ _).drew
          have KD : Hid (Kp [] wr wr.drew) := hid (Kp.refl _ _).drew
          generalize wr.drew = Wd at *
          clear x0 x1 x2 x3 x4 x5 y0 y1 y2 y3 y4 y5 b4
          refine wpAnyH_take (i := 0) (v := ?_) rfl (by kernel_rfl) (by kernel_rfl) (by kernel_rfl) (fun _ _ _ h => h) (Or.inl ⟨by rfl, ?_⟩) (by assumption) ?_
          rotate_left
          · intro w hSw; (try dsimp only at hSw); go_simp <;> with_reducible rfl
          try simp only [Act.put, List.getElem_toArray, List.getElem_cons_zero, List.getElem_cons_succ, List.setIfInBounds_toArray, List.set_cons_zero, List.set_cons_succ]
          refine wpAnyH_take (i := 1) (v := ?_) rfl (by kernel_rfl) (by kernel_rfl) (by kernel_rfl) (fun _ _ _ h => h) (Or.inl ⟨by rfl, ?_⟩) (by assumption) ?_
          rotate_left
          · intro w hSw; (try dsimp only at hSw); go_simp <;> with_reducible rfl
          try simp only [Act.put, List.getElem_toArray, List.getElem_cons_zero, List.getElem_cons_succ, List.setIfInBounds_toArray, List.set_cons_zero, List.set_cons_succ]
          refine wpAnyH_take (i := 2) (v := ?_) rfl (by kernel_rfl) (by kernel_rfl) (by kernel_rfl) (fun _ _ _ h => h) (Or.inl ⟨by rfl, ?_⟩) (by assumption) ?_
          rotate_left
          · intro w hSw; (try dsimp only at hSw); go_simp <;> with_reducible rfl
          try simp only [Act.put, List.getElem_toArray, List.getElem_cons_zero, List.getElem_cons_succ, List.setIfInBounds_toArray, List.set_cons_zero, List.set_cons_succ]
          refine wpAnyH_take (i := 3) (v := ?_) rfl (by kernel_rfl) (by kernel_rfl) (by kernel_rfl) (fun _ _ _ h => h) (Or.inl ⟨by rfl, ?_⟩) (by assumption) ?_
          rotate_left
          · intro w hSw; (try dsimp only at hSw); go_simp <;> with_reducible rfl
          try simp only [Act.put, List.getElem_toArray, List.getElem_cons_zero, List.getElem_cons_succ, List.setIfInBounds_toArray, List.set_cons_zero, List.set_cons_succ]
          refine wpAnyH_take (i := 4) (v := ?_) rfl (by kernel_rfl) (by kernel_rfl) (by kernel_rfl) (fun _ _ _ h => h) (Or.inl ⟨by rfl, ?_⟩) (by assumption) ?_
          rotate_left
          · intro w hSw; (try dsimp only at hSw); go_simp <;> with_reducible rfl
          try simp only [Act.put, List.getElem_toArray, List.getElem_cons_zero, List.getElem_cons_succ, List.setIfInBounds_toArray, List.set_cons_zero, List.set_cons_succ]
          refine wpAnyH_take (i := 5) (v := ?_) rfl (by kernel_rfl) (by kernel_rfl) (by kernel_rfl) (fun _ _ _ h => h) (Or.inl ⟨by rfl, ?_⟩) (by assumption) ?_
          rotate_left
          · intro w hSw; (try dsimp only at hSw); go_simp <;> with_reducible rfl
          try simp only [Act.put, List.getElem_toArray, List.getElem_cons_zero, List.getElem_cons_succ, List.setIfInBounds_toArray, List.set_cons_zero, List.set_cons_succ]
          refine wpAnyH_take (i := 6) (v := ?_) rfl (by kernel_rfl) (by kernel_rfl) (by kernel_rfl) (fun _ _ _ h => h) (Or.inl ⟨by rfl, ?_⟩) (by assumption) ?_
          rotate_left
          · intro w hSw; (try dsimp only at hSw); go_simp <;> with_reducible rfl
          try simp only [Act.put, List.getElem_toArray, List.getElem_cons_zero, List.getElem_cons_succ, List.setIfInBounds_toArray, List.set_cons_zero, List.set_cons_succ]
          refine wpAnyH_take (i := 7) (v := ?_) rfl (by kernel_rfl) (by kernel_rfl) (by kernel_rfl) (fun _ _ _ h => h) (Or.inl ⟨by rfl, ?_⟩) (by assumption) ?_
          rotate_left
          · intro w hSw; (try dsimp only at hSw); go_simp <;> with_reducible rfl
          try simp only [Act.put, List.getElem_toArray, List.getElem_cons_zero, List.getElem_cons_succ, List.setIfInBounds_toArray, List.set_cons_zero, List.set_cons_succ]
          refine wpAnyH_take (i := 8) (v := ?_) rfl (by kernel_rfl) (by kernel_rfl) (by kernel_rfl) (fun _ _ _ h => h) (Or.inl ⟨by rfl, ?_⟩) (by assumption) ?_
          rotate_left
          · intro w hSw; (try dsimp only at hSw); go_simp <;> with_reducible rfl
          try simp only [Act.put, List.getElem_toArray, List.getElem_cons_zero, List.getElem_cons_succ, List.setIfInBounds_toArray, List.set_cons_zero, List.set_cons_succ]
          refine wpAnyH_take (i := 9) (v := ?_) rfl (by kernel_rfl) (by kernel_rfl) (by kernel_rfl) (fun _ _ _ h => h) (Or.inl ⟨by rfl, ?_⟩) (by assumption) ?_
          rotate_left
          · intro w hSw; (try dsimp only at hSw); go_simp <;> with_reducible rfl
          try simp only [Act.put, List.getElem_toArray, List.getElem_cons_zero, List.getElem_cons_succ, List.setIfInBounds_toArray, List.set_cons_zero, List.set_cons_succ]
          refine wpAnyH_take (i := 10) (v := ?_) rfl (by kernel_rfl) (by kernel_rfl) (by kernel_rfl) (fun _ _ _ h => h) (Or.inl ⟨by rfl, ?_⟩) (by assumption) ?_
          rotate_left
          · intro w hSw; (try dsimp only at hSw); go_simp <;> with_reducible rfl
          try simp only [Act.put, List.getElem_toArray, List.getElem_cons_zero, List.getElem_cons_succ, List.setIfInBounds_toArray, List.set_cons_zero, List.set_cons_succ]
          refine wpAnyH_take (i := 11) (v := ?_) rfl (by kernel_rfl) (by kernel_rfl) (by kernel_rfl) (fun _ _ _ h => h) (Or.inl ⟨by rfl, ?_⟩) (by assumption) ?_
          rotate_left
          · intro w hSw; (try dsimp only at hSw); go_simp <;> with_reducible rfl
          try simp only [Act.put, List.getElem_toArray, List.getElem_cons_zero, List.getElem_cons_succ, List.setIfInBounds_toArray, List.set_cons_zero, List.set_cons_succ]
          refine wpAnyH_take (i := 12) (v := ?_) rfl (by kernel_rfl) (by kernel_rfl) (by kernel_rfl) (fun _ _ _ h => h) (Or.inl ⟨by rfl, ?_⟩) (by assumption) ?_
          rotate_left
          · intro w hSw; (try dsimp only at hSw); go_simp <;> with_reducible rfl
          try simp only [Act.put, List.getElem_toArray, List.getElem_cons_zero, List.getElem_cons_succ, List.setIfInBounds_toArray, List.set_cons_zero, List.set_cons_succ]
          refine wpAnyH_take (i := 13) (v := ?_) rfl (by kernel_rfl) (by kernel_rfl) (by kernel_rfl) (fun _ _ _ h => h) (Or.inl ⟨by rfl, ?_⟩) (by assumption) ?_
          rotate_left
          · intro w hSw; (try dsimp only at hSw); go_simp <;> with_reducible rfl
          try simp only [Act.put, List.getElem_toArray, List.getElem_cons_zero, List.getElem_cons_succ, List.setIfInBounds_toArray, List.set_cons_zero, List.set_cons_succ]
          refine wpAnyH_take (i := 14) (v := ?_) rfl (by kernel_rfl) (by kernel_rfl) (by kernel_rfl) (fun _ _ _ h => h) (Or.inl ⟨by rfl, ?_⟩) (by assumption) ?_
          rotate_left
          · intro w hSw; (try dsimp only at hSw); go_simp <;> with_reducible rfl
          try simp only [Act.put, List.getElem_toArray, List.getElem_cons_zero, List.getElem_cons_succ, List.setIfInBounds_toArray, List.set_cons_zero, List.set_cons_succ]
          refine wpAnyH_ready (rs := [15]) (by kernel_rfl) (by simp) ?_
          refine AllReadyH.cons rfl (fun K hK => ?_) AllReadyH.nil
          go_simp
          refine (aA.out Wd (km.out.trans KD.out (by simp))).mono ?_
          rintro e w5 ⟨rfl, k5⟩
          (try go_wp2_with fail)
          refine hK.out _ _ ?_ (fun hHeld => ?_)
          · exact hF.out _ (KD.out.trans k5 (by simp))
          clear hK K
          try simp only [Act.put, List.getElem_toArray, List.getElem_cons_zero, List.getElem_cons_succ, List.setIfInBounds_toArray, List.set_cons_zero, List.set_cons_succ]
          have K5 := hid (KD.out.trans k5 (by simp))
          clear k5 aA hF
          refine wpAnyH_take (i := 16) (v := ?_) rfl (by kernel_rfl) (by kernel_rfl) (by kernel_rfl) (fun _ _ _ h => h) (Or.inl ⟨by rfl, ?_⟩) (by assumption) ?_
          rotate_left
          · intro w hSw; (try dsimp only at hSw); go_simp <;> with_reducible rfl
          try simp only [Act.put, List.getElem_toArray, List.getElem_cons_zero, List.getElem_cons_succ, List.setIfInBounds_toArray, List.set_cons_zero, List.set_cons_succ]
          refine wpAnyH_done (by kernel_rfl) ?_ _
          clear hHeld
          have km5 := hid (km.out.trans K5.out (by simp))
          cases V with
          | true =>
            have hR : Hid (r = true) := by show _ = _; rw [← hr.out]; exact htr.out rfl
            clear htr hins
            go_wp2_with fail
            go_ret
            exact ⟨by rw [hR.out]; rfl, km5.out⟩
          | false =>
            have hins2 : Hid (rvIn c.pl t AL j (m + 1) = false) := by show _ = _; rw [hins.out]; rfl
            clear htr hins
            go_wp2_with fail
            exact ⟨⟨m + 1, by omega, by go_num, hins2, hid (bx2.out.kept K5.out), km5⟩, by simp [intOf]; omega⟩
        · have e : m = c.pl.length := by omega
          have hsu2 : Hid (rvTo c.pl t AL (j + 1) = false) := by show _ = _; rw [hsu.out, ← e, hin.out]; rfl
          have e2 : ((m : Int) < (c.pl.length : Int)) = False := by simp [e]
          go_wp2_with fail
          exact ⟨⟨j + 1, by omega, by go_num, hsu2, bx2, km⟩, by simp [intOf]; omega⟩
    · have e : j = c.pl.length := by omega
      have hR : Hid (r = false) := by show _ = _; rw [← hr.out, ← e]; exact hst.out
      subst e
      go_wp2_with fail
      go_ret
      exact ⟨by rw [hR.out]; rfl, kr.out⟩
end Go.Proofs.Ytckicbaidbgonaa
end

section
namespace Go.Proofs.Ytckicbaidbgonaa
open Go.RowKit Go.Hay
set_option linter.unusedVariables false
set_option linter.unusedSimpArgs false

theorem wpAppRun {P : Program} {w w' : World} {ops : Array Oper} {rest : List Oper} {o : Oper} {a : Act} {Q : Exit → Act → World → Prop} (hgd : o.guard = none) (s x : Operand) (t tx : TypeId)
    (ho : o.op = .call { callee := .builtin .append, args := #[s, x], argTypes := #[t, tx] }) (v xv v' : Value) (hv : a.eval s = v) (hx : a.eval x = xv)
    (hrun : (Builtin.append_ #[t, tx] o.type #[v, xv]).run P w = .ok v' w') (h : wpList P ops Q rest (a.put o.dst v') w') : wpList P ops Q (o :: rest) a w := by
  refine wpList_plain hgd fun K hK' => ?_
  have hfin := hK' _ _ h
  unfold Oper.wp
  simp [execOp, ho, resolve, invoke, builtin, hv, hx, hrun, Result.andThen]
  exact hfin
/-- The first so many segments. -/
def sgTo (M s : Nat) : List (Nat × Nat) := (List.range s).map fun k => (k / M, k % M)
theorem sgTo_len (M s : Nat) : (sgTo M s).length = s := by simp [sgTo]
theorem sgTo_succ (M k j : Nat) (h : j < M) : sgTo M (k * M + j + 1) = sgTo M (k * M + j) ++ [(k, j)] := by
  unfold sgTo
  rw [List.range_succ, List.map_append]
  have e1 : (k * M + j) / M = k := by rw [Nat.add_comm, Nat.add_mul_div_right _ _ (by omega), Nat.div_eq_of_lt h]; omega
  have e2 : (k * M + j) % M = j := by rw [Nat.add_comm, Nat.add_mul_mod_self_right, Nat.mod_eq_of_lt h]
  simp only [List.map_cons, List.map_nil, e1, e2]
/-- One more, appended to a row that is the call's own. -/
theorem appSg (w : World) (a : Option Addr) (cp : Nat) (l : List (Nat × Nat)) (x : Nat × Nat) (N : Nat) (hrow : SgE.Row w (.slice a l.length cp) l) (hnw : ∀ k ∈ blk a, N ≤ k) (hN : N ≤ w.heap.size) (hl : l.length ≤ 1000000) :
    ∃ a' cp' W', (Builtin.append_ #[33, 33] 33 #[.slice a l.length cp, .slice (some ⟨w.heap.size, 0, none⟩) 1 1]).run Try.prog (w.alloc (.cells #[.int .i64 (x.1 : Int), .int .i64 (x.2 : Int)] 31)) = .ok (.slice a' (l ++ [x]).length cp') W' ∧ SgE.Row W' (.slice a' (l ++ [x]).length cp') (l ++ [x]) ∧ (∀ k ∈ blk a', N ≤ k) ∧ Kp (blk a) w W' := by
  obtain ⟨A1, hA1⟩ : ∃ A1, w.alloc (.cells #[.int .i64 (x.1 : Int), .int .i64 (x.2 : Int)] 31) = A1 := ⟨_, rfl⟩
  have kA1 : Kp [] w A1 := by rw [← hA1]; exact (Kp.refl _ _).alloc _
  have bx1 : Bn A1 w.heap.size (SgE.c x) := by rw [← hA1]; exact Bn.new w (SgE.c x) _
  have hs1 : SgE.See A1 (some ⟨w.heap.size, 0, none⟩) [x] := .inr ⟨w.heap.size, 0, rfl, fun j u hu => by rw [Nat.zero_add]; exact bx1.get j u (by simpa [El.cs] using hu)⟩
  obtain ⟨i0, hi, hz0', hz1', hz2'⟩ := infoSg
  have hsr := hs1.src (P := Try.prog) Try.underlying33 1
  obtain ⟨v', A2, hrun, hrow2, k2, hn2⟩ := run_appendG (E := SgE) (P := Try.prog) A1 33 33 33 31 i0 _ 16 Try.underlying33 hi hz0' hz1' hz2' rfl (.slice a l.length cp) l (hrow.keptNew kA1) _ [x] hsr (by simp only [List.length_cons, List.length_nil]; omega) (by simp only [List.length_cons, List.length_nil]; omega)
  obtain ⟨a', c', rfl, _⟩ := hrow2.see
  simp only [ownSl] at k2 hn2
  rw [hA1]
  have z1 := kA1.size
  exact ⟨a', c', A2, hrun, hrow2, fun k hk => by
    rcases hn2 k hk with e | e
    · exact hnw k e
    · omega, (kA1.mono (by simp)).trans k2 (fun j hj => .inl hj)⟩
set_option maxHeartbeats 8000000 in
set_option maxRecDepth 100000 in
theorem rSegments (c : Cg) (M P : Nat) (w : World) (hM : c.s = (M : Int)) (hPl : c.pl.length = P) (hM8 : M ≤ 8) (hP8 : P ≤ 8) : Calls Try.prog 16 #[c.v] w (OfP (sgTo M (P * M)) w) := by
  obtain ⟨W, eW, kW, zW, bC⟩ := boxC c w
  simp only [Cg.v]
  rw [hM, hPl] at eW bC
  rw [hM, hPl]
  have BC := hid bC
  have KW := hid kW
  have zW' : w.heap.size < W.heap.size := by omega
  have hF : Hid (∀ w', Kp [] W w' → w'.cell? ⟨w.heap.size, 1, none⟩ = some (.int .i64 (M : Int)) ∧ w'.cell? ⟨w.heap.size, 4, none⟩ = some (.slice c.pa P c.pc)) := fun w' k => ⟨(BC.out.kept k).get 1 _ rfl, (BC.out.kept k).get 4 _ rfl⟩
  have hzW := hid (And.intro zW hPl)
  clear kW bC zW hM hPl
  go_enter Try.func16, Try.ntmps16
  go_wp2_with fail
  go_loopw [3, 4, 5] (fun lv pv _ wr => ∃ (k : Nat) (a : Option Addr) (cp : Nat) (l : List (Nat × Nat)), k ≤ P ∧ pv = .int .i64 k ∧ lv = .slice a l.length cp ∧ Hid (l = sgTo M (k * M)) ∧ Hid (SgE.Row wr (.slice a l.length cp) l ∧ (∀ z ∈ blk a, W.heap.size ≤ z) ∧ Kp [] W wr)) (fun _ pv _ _ => P - (intOf pv).toNat)
  case atStart => exact ⟨0, none, 0, [], Nat.zero_le _, rfl, rfl, hid (by simp [sgTo]), hid ⟨.inl ⟨rfl, rfl⟩, by simp [blk], Kp.refl _ _⟩⟩
  case round =>
    obtain ⟨k, a, cp, l, hk, rfl, rfl, hl, hw⟩ := hrel
    obtain ⟨b1, b4⟩ := hF.out _ hw.out.2.2
    by_cases hkl : k < P
    · have i1 : (0 : Int) ≤ (k : Int) := by omega
      have i2 : (k : Int) < (P : Int) := by omega
      have i3 : (k : Int) + 1 ≤ 9223372036854775807 := by omega
      go_wp2_with fail
      clear b1 b4
      go_loopw [3, 5] (fun lv nv wn => ∃ (j : Nat) (a : Option Addr) (cp : Nat) (l : List (Nat × Nat)), j ≤ M ∧ nv = .int .i64 j ∧ lv = .slice a l.length cp ∧ Hid (l = sgTo M (k * M + j)) ∧ Hid (SgE.Row wn (.slice a l.length cp) l ∧ (∀ z ∈ blk a, W.heap.size ≤ z) ∧ Kp [] W wn)) (fun _ nv _ => M - (intOf nv).toNat)
      case atStart => exact ⟨0, a, cp, l, Nat.zero_le _, rfl, rfl, hl, hw⟩
      case round =>
        obtain ⟨j, a, cp, l, hj, rfl, rfl, hl, hw⟩ := hrel
        obtain ⟨b1, b4⟩ := hF.out _ hw.out.2.2
        by_cases hjl : j < M
        · have j1 : (0 : Int) ≤ (j : Int) := by omega
          have j2 : (j : Int) < (M : Int) := by omega
          have j3 : (j : Int) + 1 ≤ 9223372036854775807 := by omega
          have hlen : l.length ≤ 1000000 := by
            rw [hl.out, sgTo_len]
            have : k * M ≤ 8 * 8 := Nat.mul_le_mul (by omega) hM8
            omega
          have hzw := hw.out.2.2.size
          obtain ⟨a', cp', W', hrun, hrow', hnw', k'⟩ := appSg wr a cp l (k, j) W.heap.size hw.out.1 hw.out.2.1 hzw hlen
          have hl2 : Hid (l ++ [(k, j)] = sgTo M (k * M + (j + 1))) := by show _ = _; rw [← Nat.add_assoc, sgTo_succ M k j hjl, ← hl.out]
          have hw2 : Hid (SgE.Row W' (.slice a' (l ++ [(k, j)]).length cp') (l ++ [(k, j)]) ∧ (∀ z ∈ blk a', W.heap.size ≤ z) ∧ Kp [] W W') := hid ⟨hrow', hnw', hw.out.2.2.trans k' (fun z hz => .inr (hw.out.2.1 z hz))⟩
          obtain ⟨L2, hL2⟩ : ∃ L2, Hid (l ++ [(k, j)] = L2) := ⟨_, hid rfl⟩
          rw [hL2.out] at hl2 hw2 hrun
          clear hrow' hnw' k' hlen hl hw
          dsimp only at hrun
          go_wp2_with (first | (refine wpAppRun rfl _ _ 33 33 rfl _ _ _ rfl rfl hrun ?_) | fail)
          exact ⟨⟨j + 1, a', cp', L2, by omega, by go_num, rfl, hl2, hw2⟩, by simp [intOf]; omega⟩
        · have e : j = M := by omega
          have e2 : ((j : Int) < (M : Int)) = False := by simp [e]
          have hl2 : Hid (l = sgTo M ((k + 1) * M)) := by show _ = _; rw [Nat.succ_mul, hl.out, e]
          clear hl
          go_wp2_with fail
          exact ⟨⟨k + 1, a, cp, l, by omega, by go_num, rfl, hl2, hw⟩, by simp [intOf]; omega⟩
    · have e : k = P := by omega
      subst e
      go_wp2_with fail
      go_ret
      obtain ⟨_, _, e, hsee, _, hcp, _⟩ := hw.out.1.see
      cases e
      exact ⟨a, cp, by rw [← hl.out]; rfl, by rw [← hl.out]; exact hsee, by rw [← hl.out]; exact hcp, KW.out.trans hw.out.2.2 (by simp)⟩
end Go.Proofs.Ytckicbaidbgonaa
end

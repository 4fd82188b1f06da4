/- A block that is cut is none; what stands behind one does not bear on it. -/
import Derived.Test.YtcjnojbjgdechaaGreatDoorB19
import Derived.Test.YtcjnojbjgdechaaGreatDoorB3
import Derived.SizedLaws
import Derived.JoinedCond
import Derived.Deep.CondSized
section
namespace Go.Proofs.YtcjnojbjgdechaaGreatDoor
open Go.RowKit Go.Hay
set_option linter.unusedVariables false
set_option linter.unusedSimpArgs false

set_option maxHeartbeats 16000000 in
set_option maxRecDepth 100000 in
theorem walkBC (k : Int) (a : Option Addr) (ca : Nat) (l : List Val) (cut : Int) (w : World) (ht0 : Tab w) (ha : Vals w a l) (hc : l.length ≤ ca) (hm : ca ≤ maxLen) (hin : ∀ x ∈ l, x.in64) :
    Calls Tryz.prog 8 #[.int .i64 k, .slice a l.length ca, .int .i64 cut] w fun e w' => e = .returned (.bool true) ∧ Kp [] w w' := by
  have hml : l.length ≤ 9223372036854775807 := by unfold maxLen at hm; omega
  have ht : Hid (∀ W, Kp [] w W → Tab W) := fun W k => ht0.kept k (by simp)
  have hal : Hid (∀ W, Kp [] w W → Calls Tryz.prog 12 #[] W fun e w' => e = .returned (.bool true) ∧ Kp [] W w') := fun W k => bAlive W (ht0.kept k (by simp))
  have cW := cWriteB k a ca l w ht0 ha hc hm
  have hla := hid (fun W (kp : Kp [] w W) => ha.kept kp)
  have hbk : Hid ((wrB k l).2 = 0 → ∀ q, rdR ((wrB k l).1 ++ q) = (l, (wrB k l).1.length, 0)) := fun h q => by
    obtain ⟨h0, hr, e⟩ := wrB_ok h
    have := rdR_blk (kindW k l) l h0 hin hr q
    rw [e]
    exact this
  have hcut : Hid ((wrB k l).2 = 0 → ∀ n, n < (wrB k l).1.length → hdR ((wrB k l).1.take n) = none) := fun h n hn => by
    obtain ⟨h0, hr, e⟩ := wrB_ok h
    rw [e] at hn ⊢
    exact hdR_cut (kindW k l) l h0 hin hr n hn
  have hwl := wrB_le k l
  obtain ⟨⟨X, E⟩, hX⟩ : ∃ r, Hid (wrB k l = r) := ⟨_, rfl⟩
  rw [hX.out] at cW hwl
  simp only [hX.out] at hbk hcut
  unfold BsP at cW
  dsimp only at cW hbk hcut hwl
  obtain ⟨i0, hi, hz0, hz1, hz2⟩ := infoU'
  clear ht0 ha hX
  go_enter Tryz.func8, Tryz.ntmps8
  go_wp2_with fail
  refine cW.mono ?_
  rintro e w1 ⟨b1, c1, rfl, hrow1, k1, hn1⟩
  clear cW hn1
  by_cases hE0 : E = 0
  · subst hE0
    by_cases hneg : cut < 0
    · clear hrow1
      go_wp2_with fail
      refine (hal.out w1 k1).mono ?_
      rintro e w2 ⟨rfl, k2⟩
      go_wp2_with fail
      go_ret
      exact ⟨rfl, k1.trans k2 (by simp)⟩
    · by_cases hbig : (X.length : Int) ≤ cut
      · clear hrow1
        go_wp2_with fail
        refine (hal.out w1 k1).mono ?_
        rintro e w2 ⟨rfl, k2⟩
        go_wp2_with fail
        go_ret
        exact ⟨rfl, k1.trans k2 (by simp)⟩
      · obtain ⟨n, rfl⟩ := Int.eq_ofNat_of_zero_le (by omega : 0 ≤ cut)
        have hn : n < X.length := by omega
        obtain ⟨hs1, hc1, hm1⟩ := rowSee hrow1
        obtain ⟨g, o, rfl⟩ : ∃ g o, b1 = some ⟨g, o, none⟩ := by
          rcases hs1 with h | ⟨g, o, h, _⟩
          · rw [h] at hn; simp at hn
          · exact ⟨g, o, h⟩
        have hnone := hcut.out rfl n hn
        have hP : hdP (X.take n) = (zeroI, 0, 70) := by unfold hdP; rw [hnone]
        have hlt : (X.take n).length = n := by rw [List.length_take]; omega
        have cH := bHead (some ⟨g, o, none⟩) c1 (X.take n) w1 (hs1.front n) (by omega) hm1
        rw [hP, zeroI_v, hlt] at cH
        have hcR : Hid (∀ W, Kp [] w1 W → Calls Tryz.prog 16 #[.slice (some ⟨g, o, none⟩) n c1] W (RdP ([], 0, 70) W)) := fun W kW => by
          have := bRead (some ⟨g, o, none⟩) c1 (X.take n) W (ht.out W (k1.trans kW (by simp))) ((hs1.front n).kept kW (by simp)) (by omega) hm1 (by omega)
          rwa [rdR_none hnone, hlt] at this
        unfold RdP at hcR
        dsimp only at cH hcR
        have hs1' := hid hs1
        have hm1' := hid hm1
        unfold maxLen at hm1
        have hcn : n ≤ c1 := by omega
        clear hs1 hrow1 hcut hnone hP hlt
        go_wp2_with fail
        refine cH.mono ?_
        rintro e w2 ⟨rfl, k2⟩
        have kw2 := k1.trans k2 (by simp)
        obtain ⟨w3, hw3, k3, bI⟩ : ∃ w3, w2.alloc (.cells #[.int .i64 0, .int .i64 0, .int .i64 0, .bool false, .int .i64 0, .string ⟨#[]⟩, .int .i64 0, .bool false, .int .i64 0, .string ⟨#[]⟩, .int .i64 0, .int .i64 0] 34) = w3 ∧ Kp [] w2 w3 ∧ Bx w3 w2.heap.size [.int .i64 0, .int .i64 0, .int .i64 0, .bool false, .int .i64 0, .string ⟨#[]⟩, .int .i64 0, .bool false, .int .i64 0, .string ⟨#[]⟩, .int .i64 0, .int .i64 0] := ⟨_, rfl, (Kp.refl _ _).alloc _, Bx.new w2 _ _⟩
        obtain ⟨qi, hqi⟩ : ∃ q, Hid (w2.heap.size = q) := ⟨_, rfl⟩
        rw [hqi.out] at bI
        have p0 := bI.get 0 _ rfl; have f0 := bI.free 0
        have p1 := bI.get 1 _ rfl; have f1 := bI.free 1
        have p2 := bI.get 2 _ rfl; have f2 := bI.free 2
        have p3 := bI.get 3 _ rfl; have f3 := bI.free 3
        have p4 := bI.get 4 _ rfl; have f4 := bI.free 4
        have p5 := bI.get 5 _ rfl; have f5 := bI.free 5
        have p6 := bI.get 6 _ rfl; have f6 := bI.free 6
        have p7 := bI.get 7 _ rfl; have f7 := bI.free 7
        have p8 := bI.get 8 _ rfl; have f8 := bI.free 8
        have p9 := bI.get 9 _ rfl; have f9 := bI.free 9
        have p10 := bI.get 10 _ rfl; have f10 := bI.free 10
        have p11 := bI.get 11 _ rfl; have f11 := bI.free 11
        obtain ⟨W, hW, bW, kW⟩ : ∃ Y9, ((((((((((((w3.setCell ⟨qi, 0, none⟩ (.int .i64 0)).setCell ⟨qi, 1, none⟩ (.int .i64 0)).setCell ⟨qi, 2, none⟩ (.int .i64 0)).setCell ⟨qi, 3, none⟩ (.bool false)).setCell ⟨qi, 4, none⟩ (.int .i64 0)).setCell ⟨qi, 5, none⟩ (.string ⟨#[]⟩)).setCell ⟨qi, 6, none⟩ (.int .i64 0)).setCell ⟨qi, 7, none⟩ (.bool false)).setCell ⟨qi, 8, none⟩ (.int .i64 0)).setCell ⟨qi, 9, none⟩ (.string ⟨#[]⟩)).setCell ⟨qi, 10, none⟩ (.int .i64 0)).setCell ⟨qi, 11, none⟩ (.int .i64 0)) = Y9 ∧ Bx Y9 qi [.int .i64 0, .int .i64 0, .int .i64 0, .bool false, .int .i64 0, .string ⟨#[]⟩, .int .i64 0, .bool false, .int .i64 0, .string ⟨#[]⟩, .int .i64 0, .int .i64 0] ∧ Kp [qi] w3 Y9 := ⟨_, rfl, gen12q (R := fun Y9 => Bx Y9 qi [.int .i64 0, .int .i64 0, .int .i64 0, .bool false, .int .i64 0, .string ⟨#[]⟩, .int .i64 0, .bool false, .int .i64 0, .string ⟨#[]⟩, .int .i64 0, .int .i64 0]) bI rfl (.int .i64 0) (.int .i64 0) (.int .i64 0) (.bool false) (.int .i64 0) (.string ⟨#[]⟩) (.int .i64 0) (.bool false) (.int .i64 0) (.string ⟨#[]⟩) (.int .i64 0) (.int .i64 0) (fun Y9 b _ => b), gen12q (R := fun Y9 => Kp [qi] w3 Y9) bI rfl (.int .i64 0) (.int .i64 0) (.int .i64 0) (.bool false) (.int .i64 0) (.string ⟨#[]⟩) (.int .i64 0) (.bool false) (.int .i64 0) (.string ⟨#[]⟩) (.int .i64 0) (.int .i64 0) (fun Y9 _ k => k)⟩
        have k23 : Kp [] w2 W := k3.trans kW (fun x hx => .inr (by simp at hx; rw [hx, ← hqi.out]; exact Nat.le_refl _))
        have k1W := k2.trans k23 (by simp)
        have cR := hcR.out W k1W
        have kkW := hid (And.intro k1W (k1.trans k1W (by simp)))
        have hqi' := hqi.out
        clear cH k2 kw2 k3 bI kW bW k23 k1W hcR
        go_wp2_with fail
        refine cR.mono ?_
        rintro e w4 ⟨a4, c4, rfl, _, k4, _⟩
        have k14 := hid (kkW.out.1.trans k4 (by simp))
        have kw4 := hid (k1.trans k14.out (by simp))
        clear cR k4 p0 f0 p1 f1 p2 f2 p3 f3 p4 f4 p5 f5 p6 f6 p7 f7 p8 f8 p9 f9 p10 f10 p11 f11 hW hw3 hqi'
        go_wp2_with fail
        have kd : Kp [] w4 w4.drew := (Kp.refl _ _).drew
        refine wp_region_held_drew (S := (fun A => True)) (by kernel_rfl) ?_ (fun hHeld => ?_)
        · trivial
        have k1d := hid (k14.out.trans kd (by simp))
        have kwd := hid (kw4.out.trans kd (by simp))
        clear kd
        generalize w4.drew = wd at *
        -- b, and its beginning behind it, in memory of their own
        obtain ⟨X1, hX1⟩ : ∃ X1, wd.alloc (.cells #[] 5) = X1 := ⟨_, rfl⟩
        have kX1 : Kp [] wd X1 := by rw [← hX1]; exact (Kp.refl _ _).alloc _
        have hr0 : BytE.Row X1 (.slice (some ⟨wd.heap.size, 0, none⟩) 0 0) [] := by
          rw [← hX1]
          exact .inr ⟨wd.heap.size, 0, 0, rfl, Nat.le_refl _, by decide, by simp, fun j u hu => by simp [El.cs] at hu, fun j hj => absurd hj (by simp)⟩
        have hsb : BytE.See X1 (some ⟨g, o, none⟩) X := seeByt.2 ((hs1'.out.kept k1d.out (by simp)).kept kX1 (by simp))
        have hsrc := hsb.src (P := Tryz.prog) Tryz.underlying24 c1
        obtain ⟨v5, X2, hrun1, hrow5, kk5, hn5⟩ := run_appendG (E := BytE) (P := Tryz.prog) X1 24 24 24 5 i0 _ 1 Tryz.underlying24 hi hz0 hz1 hz2 rfl (.slice (some ⟨wd.heap.size, 0, none⟩) 0 0) [] hr0 (.slice (some ⟨g, o, none⟩) X.length c1) X hsrc (by simp; omega) (by simp; omega)
        rw [List.nil_append] at hrow5
        obtain ⟨a5, c5, rfl, _⟩ := hrow5.see
        rw [ownS] at kk5
        have hb1 : blk (some (⟨wd.heap.size, 0, none⟩ : Addr)) = [wd.heap.size] := rfl
        have kX2 : Kp [] wd X2 := kX1.trans kk5 (fun q hq => .inr (by rw [hb1] at hq; simp at hq; omega))
        have hn5' : ∀ q ∈ blk a5, wd.heap.size ≤ q := fun q hq => by
          rcases hn5 q (by rw [ownS]; exact hq) with h | h
          · rw [ownS, hb1] at h; simp at h; omega
          · have := kX1.size; omega
        have hlt : (X.take n).length = n := by rw [List.length_take]; omega
        have hsx : Sees X2 (some ⟨g, o, none⟩) (X.take n) := ((hs1'.out.kept k1d.out (by simp)).kept kX2 (by simp)).front n
        have hsrc2 := (seeByt.2 hsx).src (P := Tryz.prog) Tryz.underlying24 c1
        rw [hlt] at hsrc2
        obtain ⟨v6, X4, hrun2, hrow6, kk6, hn6⟩ := run_appendG (E := BytE) (P := Tryz.prog) X2 24 24 24 5 i0 _ 1 Tryz.underlying24 hi hz0 hz1 hz2 rfl (.slice a5 X.length c5) X hrow5 (.slice (some ⟨g, o, none⟩) n c1) (X.take n) (by rw [hlt]; exact hsrc2) (by simp; omega) (by simp; omega)
        obtain ⟨a6, c6, rfl, hs6, _, hl6, hm6, _⟩ := hrow6.see
        rw [ownS] at kk6
        have kX4 : Kp [] wd X4 := kX2.trans kk6 (fun q hq => .inr (hn5' q hq))
        have kw4' := hid (kwd.out.trans kX4 (by simp))
        have cR2 := bRead a6 c6 (X ++ X.take n) X4 (ht.out X4 kw4'.out) (seeByt.1 hs6) hl6 hm6 (by simp; omega)
        rw [hbk.out (by trivial)] at cR2
        have hrl : (X ++ X.take n).length = X.length + n := by rw [List.length_append, hlt]
        rw [hrl] at cR2 hrun2
        unfold RdP at cR2
        dsimp only at cR2
        have hX1' := hid hX1
        have hcR2 := hid cR2
        have hrun1' := hid hrun1
        have hrun2' := hid hrun2
        clear hX1 hsb hsrc hsrc2 hr0 hrow5 hrow6 hs6 hsx hn5 hn6 hbk hs1' hm1' kk5 kk6 hrl cR2 hrun1 hrun2 kX1 hb1 kX2 hn5' kX4 hlt
        refine wpAnyH_take (i := 1) (v := ?_) rfl (by kernel_rfl) (by kernel_rfl) (by kernel_rfl) (fun _ _ _ h => h) (Or.inl ⟨by rfl, ?_⟩) (by assumption) ?_
        rotate_left
        · intro w hSw; (try dsimp only at hSw); go_simp <;> with_reducible rfl
        try simp only [Act.put, List.getElem_toArray, List.getElem_cons_zero, List.getElem_cons_succ, List.setIfInBounds_toArray, List.set_cons_zero, List.set_cons_succ]
        refine wpAnyH_take (i := 3) (v := ?_) rfl (by kernel_rfl) (by kernel_rfl) (by kernel_rfl) (fun _ _ _ h => h) (Or.inl ⟨by rfl, ?_⟩) (by assumption) ?_
        rotate_left
        · intro w hSw; (try dsimp only at hSw); go_simp <;> with_reducible rfl
        try simp only [Act.put, List.getElem_toArray, List.getElem_cons_zero, List.getElem_cons_succ, List.setIfInBounds_toArray, List.set_cons_zero, List.set_cons_succ]
        refine wpAnyH_take (i := 4) (v := ?_) rfl (by kernel_rfl) (by kernel_rfl) (by kernel_rfl) (fun _ _ _ h => h) (Or.inl ⟨by rfl, ?_⟩) (by assumption) ?_
        rotate_left
        · intro w hSw; (try dsimp only at hSw); go_simp <;> with_reducible rfl
        try simp only [Act.put, List.getElem_toArray, List.getElem_cons_zero, List.getElem_cons_succ, List.setIfInBounds_toArray, List.set_cons_zero, List.set_cons_succ]
        refine wpAnyH_take (i := 5) (v := ?_) rfl (by kernel_rfl) (by kernel_rfl) (by kernel_rfl) (fun _ _ _ h => h) (Or.inl ⟨by rfl, ?_⟩) (by assumption) ?_
        rotate_left
        · intro w hSw; (try dsimp only at hSw); go_simp <;> with_reducible rfl
        try simp only [Act.put, List.getElem_toArray, List.getElem_cons_zero, List.getElem_cons_succ, List.setIfInBounds_toArray, List.set_cons_zero, List.set_cons_succ]
        refine wpAnyH_ready (rs := [0]) (by kernel_rfl) (by simp) ?_
        refine AllReadyH.cons rfl (fun K hK => ?_) AllReadyH.nil
        go_simp
        rw [hX1'.out]
        refine hK.out _ _ trivial (fun hHeld => ?_)
        clear hK K
        try simp only [Act.put, List.getElem_toArray, List.getElem_cons_zero, List.getElem_cons_succ, List.setIfInBounds_toArray, List.set_cons_zero, List.set_cons_succ]
        refine wpAnyH_ready (rs := [2]) (by kernel_rfl) (by simp) ?_
        refine AllReadyH.cons rfl (fun K hK => ?_) AllReadyH.nil
        refine stepAppRun rfl _ _ 24 24 rfl _ _ _ rfl rfl hrun1'.out ?_
        refine hK.out _ _ trivial (fun hHeld => ?_)
        clear hK K
        try simp only [Act.put, List.getElem_toArray, List.getElem_cons_zero, List.getElem_cons_succ, List.setIfInBounds_toArray, List.set_cons_zero, List.set_cons_succ]
        refine wpAnyH_ready (rs := [6]) (by kernel_rfl) (by simp) ?_
        refine AllReadyH.cons rfl (fun K hK => ?_) AllReadyH.nil
        refine stepAppRun rfl _ _ 24 24 rfl _ _ _ rfl rfl hrun2'.out ?_
        refine hK.out _ _ trivial (fun hHeld => ?_)
        clear hK K
        try simp only [Act.put, List.getElem_toArray, List.getElem_cons_zero, List.getElem_cons_succ, List.setIfInBounds_toArray, List.set_cons_zero, List.set_cons_succ]
        refine wpAnyH_ready (rs := [7]) (by kernel_rfl) (by simp) ?_
        refine AllReadyH.cons rfl (fun K hK => ?_) AllReadyH.nil
        go_simp
        refine hcR2.out.mono ?_
        rintro e w7 ⟨a7, c7, rfl, hrow7, k7, hn7⟩
        (try go_wp2_with fail)
        refine hK.out _ _ trivial (fun hHeld => ?_)
        clear hK K
        try simp only [Act.put, List.getElem_toArray, List.getElem_cons_zero, List.getElem_cons_succ, List.setIfInBounds_toArray, List.set_cons_zero, List.set_cons_succ]
        refine wpAnyH_take (i := 8) (v := ?_) rfl (by kernel_rfl) (by kernel_rfl) (by kernel_rfl) (fun _ _ _ h => h) (Or.inl ⟨by rfl, ?_⟩) (by assumption) ?_
        rotate_left
        · intro w hSw; (try dsimp only at hSw); go_simp <;> with_reducible rfl
        try simp only [Act.put, List.getElem_toArray, List.getElem_cons_zero, List.getElem_cons_succ, List.setIfInBounds_toArray, List.set_cons_zero, List.set_cons_succ]
        refine wpAnyH_take (i := 9) (v := ?_) rfl (by kernel_rfl) (by kernel_rfl) (by kernel_rfl) (fun _ _ _ h => h) (Or.inl ⟨by rfl, ?_⟩) (by assumption) ?_
        rotate_left
        · intro w hSw; (try dsimp only at hSw); go_simp <;> with_reducible rfl
        try simp only [Act.put, List.getElem_toArray, List.getElem_cons_zero, List.getElem_cons_succ, List.setIfInBounds_toArray, List.set_cons_zero, List.set_cons_succ]
        refine wpAnyH_take (i := 10) (v := ?_) rfl (by kernel_rfl) (by kernel_rfl) (by kernel_rfl) (fun _ _ _ h => h) (Or.inl ⟨by rfl, ?_⟩) (by assumption) ?_
        rotate_left
        · intro w hSw; (try dsimp only at hSw); go_simp <;> with_reducible rfl
        try simp only [Act.put, List.getElem_toArray, List.getElem_cons_zero, List.getElem_cons_succ, List.setIfInBounds_toArray, List.set_cons_zero, List.set_cons_succ]
        refine wpAnyH_take (i := 11) (v := ?_) rfl (by kernel_rfl) (by kernel_rfl) (by kernel_rfl) (fun _ _ _ h => h) (Or.inl ⟨by rfl, ?_⟩) (by assumption) ?_
        rotate_left
        · intro w hSw; (try dsimp only at hSw); go_simp <;> with_reducible rfl
        try simp only [Act.put, List.getElem_toArray, List.getElem_cons_zero, List.getElem_cons_succ, List.setIfInBounds_toArray, List.set_cons_zero, List.set_cons_succ]
        refine wpAnyH_take (i := 12) (v := ?_) rfl (by kernel_rfl) (by kernel_rfl) (by kernel_rfl) (fun _ _ _ h => h) (Or.inl ⟨by rfl, ?_⟩) (by assumption) ?_
        rotate_left
        · intro w hSw; (try dsimp only at hSw); go_simp <;> with_reducible rfl
        try simp only [Act.put, List.getElem_toArray, List.getElem_cons_zero, List.getElem_cons_succ, List.setIfInBounds_toArray, List.set_cons_zero, List.set_cons_succ]
        refine wpAnyH_take (i := 13) (v := ?_) rfl (by kernel_rfl) (by kernel_rfl) (by kernel_rfl) (fun _ _ _ h => h) (Or.inl ⟨by rfl, ?_⟩) (by assumption) ?_
        rotate_left
        · intro w hSw; (try dsimp only at hSw); go_simp <;> with_reducible rfl
        try simp only [Act.put, List.getElem_toArray, List.getElem_cons_zero, List.getElem_cons_succ, List.setIfInBounds_toArray, List.set_cons_zero, List.set_cons_succ]
        refine wpAnyH_take (i := 14) (v := ?_) rfl (by kernel_rfl) (by kernel_rfl) (by kernel_rfl) (fun _ _ _ h => h) (Or.inl ⟨by rfl, ?_⟩) (by assumption) ?_
        rotate_left
        · intro w hSw; (try dsimp only at hSw); go_simp <;> with_reducible rfl
        try simp only [Act.put, List.getElem_toArray, List.getElem_cons_zero, List.getElem_cons_succ, List.setIfInBounds_toArray, List.set_cons_zero, List.set_cons_succ]
        refine wpAnyH_done (by kernel_rfl) ?_ _
        have kk7 := hid (kw4'.out.trans k7 (by simp))
        obtain ⟨hv7, hl7, hm7⟩ := rowVals hrow7
        clear hHeld hn7 hrow7 k7
        go_wp2_with fail
        refine (hal.out w7 kk7.out).mono ?_
        rintro e w8 ⟨rfl, k8⟩
        have kk8 := hid (kk7.out.trans k8 (by simp))
        have cS := cSame a7 a c7 ca l l w8 (hv7.kept k8) (hla.out w8 kk8.out) hml hml
        rw [sameV_self] at cS
        clear hv7 k8
        go_wp2_with fail
        refine cS.mono ?_
        rintro e w9 ⟨rfl, k9⟩
        have kk9 := hid (kk8.out.trans k9 (by simp))
        clear cS k9
        go_wp2_with fail
        go_ret
        exact ⟨rfl, kk9.out⟩
  · have d5 : (E != 0) = true := by simpa using hE0
    have d6 : (E == 0) = false := by simpa using hE0
    clear hrow1
    go_wp2_with fail
    refine (hal.out w1 k1).mono ?_
    rintro e w2 ⟨rfl, k2⟩
    go_wp2_with fail
    go_ret
    exact ⟨rfl, k1.trans k2 (by simp)⟩
theorem cutsWalk7 (k : Int) (a : Option Addr) (len ca : Nat) (l : List Val) (cut : Int) (w : World) (ht : Tab w) (hs : Vals w a l) (hlen : len = l.length) (hl : l.length ≤ ca) (hm : ca ≤ maxLen) (hin : ∀ x ∈ l, x.in64) :
    Calls Tryz.prog 8 #[.int .i64 k, .slice a len ca, .int .i64 cut] w fun e w' => e = .returned (.bool true) ∧ Below w.heap.size w w' := by
  subst hlen
  exact (walkBC k a ca l cut w ht hs hl hm hin).mono fun e w' ⟨h1, h2⟩ => ⟨h1, h2.below⟩
end Go.Proofs.YtcjnojbjgdechaaGreatDoor
end

section
namespace Go.Proofs.YtcjnojbjgdechaaGreatDoor
open Go.ChangeShapes Go.WideShapes Go.ChangeAt Go.RowKit Go.Hay
set_option linter.unusedVariables false

set_option maxRecDepth 100000 in
theorem blockCutsContract (H : Type) (enc : TypeId × Value → H) (W : World) (base : Nat) (args : Array Value) (ds gs : List (DataW H)) (before : List MemPlace)
    (hval : ∀ (j : Nat) t v, Tryz.f8.params[j]? = some t → args[j]? = some v → Value.okWide Tryz.prog W .any base t v)
    (hW : DataW.Whole enc Tryz.prog Tryz.f8.params.toList Rows.blockCutsSpec.vars false W args.toList ds gs before)
    (hsz : (DataW.weightsEach Tryz.prog (Tryz.f8.params.toList ++ (OpenSpec.ofChange Rows.blockCutsSpec).bare.plain.varTypes Tryz.prog) (ds ++ gs)).all (· ≤ reachBytes) = true)
    (hL : laidMetH Tryz.prog Rows.blockCutsRow.laid W) :
    Calls Tryz.prog 8 args W fun e W' => ∃ v, e = .returned v ∧ Rows.blockCutsSpec.post enc Tryz.prog Tryz.f8 false true false false W args v W' := by
  have hW' := hW
  obtain ⟨p, q, hA0, hV, rfl, hfz, hnd⟩ := hW
  have hA : DataW.TrodAll enc Tryz.prog W 0 (fun _ => true) true Tryz.f8.params.toList args.toList ds p := hA0
  rw [Tryz.params8] at hA hval hsz
  obtain ⟨v0, vs0, d0, ds0, p0, q0, hargs, rfl, rfl, h0, r0⟩ := trodAll_cons hA
  obtain ⟨v1, vs1, d1, ds1, p1, q1, rfl, rfl, rfl, h1, r1⟩ := trodAll_cons r0
  obtain ⟨v2, vs2, d2, ds2, p2, q2, rfl, rfl, rfl, h2, r2⟩ := trodAll_cons r1
  obtain ⟨rfl, rfl, rfl⟩ := trodAll_nil r2
  obtain rfl : args = #[v0, v1, v2] := by cases args; simp_all
  obtain ⟨rfl, rfl⟩ := trodVars_none hV
  obtain ⟨a0, rfl, rfl, rfl, w0⟩ := open_int Tryz.underlying3 (hval 0 3 v0 rfl rfl) h0
  have hb0 := bounds_i64 w0
  obtain ⟨a1, len1, cap1, rfl⟩ := okWide_slice Tryz.underlying22 (hval 1 22 v1 rfl rfl)
  have k1 := h1
  have lt1 : ∀ x ∈ p1, x.block < W.heap.size := by obtain ⟨m, hm⟩ := k1; exact DataW.trod_lt m _ _ _ hm
  obtain ⟨l1, hlen1, hs1, hl1, hm1, hok1⟩ := openVals h1
  obtain ⟨a2, rfl, rfl, rfl, w2⟩ := open_int Tryz.underlying3 (hval 2 3 v2 rfl rfl) h2
  have hb2 := bounds_i64 w2
  clear hA0
  refine (cutsWalk7 a0 a1 len1 cap1 l1 a2 W (table hL) hs1 hlen1 hl1 hm1 (fun x hx => (hok1 x hx).2.1)).mono fun e W' ⟨he, bel⟩ => ?_
  subst he
  exact ⟨_, rfl, _, _, _, [], _, [], hW', trodAll_mk1 (shut_bool Tryz.underlying4 _), (trodAll_cons_mk (shut_int Tryz.underlying3 w0) (trodAll_cons_mk (Below.trod Tryz.laidOut (by kernel_rfl) (of_decide_eq_true (by kernel_rfl)) k1 bel lt1) (trodAll_cons_mk (shut_int Tryz.underlying3 w2) trodAll_mk0))), rfl, bel.frame _, fun h => by cases h⟩

set_option maxRecDepth 100000 in
theorem blockCutsLifted (os : Os) (started : os.Started) (H : Type) (enc : TypeId × Value → H) (F : Stop.Interp) :
    ReturnsInHanded {} Tryz.checked os 8 .any ((OpenSpec.ofChange Rows.blockCutsSpec).preRow enc Tryz.prog Tryz.f8 Rows.blockCutsRow.domain false Rows.blockCutsRow.laid) (((OpenSpec.ofChange Rows.blockCutsSpec).at F).post enc Tryz.prog Tryz.f8 false true false false) := by
  refine returnsInHanded_of_row (C := Tryz.checked) (s := OpenSpec.ofChange Rows.blockCutsSpec) Tryz.own started (by kernel_rfl) Tryz.func8
    (witness_row_at (enc := enc) (C := Tryz.checked) false ({ World.holding Tryz.prog os ⟨#[], #[], []⟩ with heap := (World.holding Tryz.prog os ⟨#[], #[], []⟩).heap.modify 0 fun
      | .cells _ t frozen => .cells tabCells t frozen
      | o => o }) #[.int .i64 0, .slice none 0 0, .int .i64 0] rfl (by kernel_rfl) (by kernel_rfl) (by kernel_rfl)
      (OpenSpec.preRow_of_cond (x := ([.lit (.int .i64 0), .nil, .lit (.int .i64 0)], [], [])) 8 (by kernel_rfl) (by kernel_rfl) (fun k hk => by cases hk) (by kernel_rfl) (laidMet_of_run' 8 (by kernel_rfl) (by kernel_rfl)))) ?_
  intro W base args ds gs before hval hW _ hcond hsz hL _ _
  exact blockCutsContract H enc W base args ds gs before hval hW hsz hL

theorem blockCutsSaid : Rows.BlockCutsSaid :=
  OpenClaim.holds_of_cond 8 Tryz.f8 rfl rfl rfl rfl rfl rfl rfl ⟨rfl, rfl, rfl, rfl, rfl⟩ rfl rfl rfl rfl rfl (by kernel_rfl) Tryz.func8 (by kernel_rfl)
    (of_decide_eq_true (by kernel_rfl)) (by unfold Func.isWrapper; first | (rw [if_pos (by decide +kernel)]; kernel_rfl) | (rw [if_neg (by decide +kernel)]; exact ⟨rfl, rfl⟩))
    (fun os started H enc _ F => by rw [OpenClaim.pre_eq_preRow]; exact blockCutsLifted os started H enc F)

theorem blockCutsPlain (f : FuncId) (fn : Func) (hf : Tryz.pinned.checked.prog.funcNamed "hayloft/hayloftlaw07.BlockCuts" = some f) (hfn : Tryz.pinned.checked.prog.funcs[f]? = some fn) :
    false = Tryz.pinned.checked.prog.looks [] ∧ ∀ (j : Nat) t, fn.params[j]? = some t → Tryz.pinned.checked.prog.wantsStandIn t = false := by
  obtain rfl : f = 8 := Option.some.inj ((show Tryz.prog.funcNamed "hayloft/hayloftlaw07.BlockCuts" = some 8 by kernel_rfl).symm.trans hf) |>.symm
  obtain rfl : fn = Tryz.f8 := (Option.some.inj (Tryz.func8.symm.trans hfn)).symm
  refine ⟨by kernel_rfl, fun j t ht => ?_⟩
  rw [Tryz.params8] at ht
  have hm := Array.mem_of_getElem? ht
  have h2 : t = 3 ∨ t = 22 := by first | (simpa using hm) | (rcases (show t = 3 ∨ t = 22 ∨ t = 3 from by simpa using hm) with h | h | h <;> simp [h])
  rcases h2 with rfl | rfl
  · exact (show Tryz.prog.wantsStandIn 3 = false by kernel_rfl)
  · exact (show Tryz.prog.wantsStandIn 22 = false by kernel_rfl)

theorem BlockCuts_holds : Rows.BlockCutsCardSaid :=
  Claim7.holds_tied_plain_at .later [] _ _ _ _ blockCutsSaid (fun _ h => by cases h) (by kernel_rfl) (fun _ h => by cases h) blockCuts_row_tie rfl ⟨rfl, rfl⟩ (by kernel_rfl) rfl blockCutsPlain (by kernel_rfl)
#print axioms BlockCuts_holds
end Go.Proofs.YtcjnojbjgdechaaGreatDoor
end

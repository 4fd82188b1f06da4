/- What the proof stands on: contracts of functions that the statement calls, and plain lemmas. No statement of the seat is proved here. -/
import Derived.Test.YtcgkkofmnajedaaGreatDoorB3
import Derived.Lib.AppendZeros
import Derived.Test.YtcgkkofmnajedaaGreatDoorB1
set_option maxHeartbeats 64000000
set_option maxRecDepth 100000
set_option linter.unusedVariables false
set_option linter.unusedSimpArgs false
section
namespace Go.Proofs.YtcgkkofmnajedaaGreatDoor
open Go.RowKit Go.Hay
attribute [local go_sem] Oper.semAt_some
def chI (m : Nat) (pick : Int) : Int := Int.tmod (Int.tmod pick m + m) m
def chV (R : List (Int × Int)) (pick : Int) : (Int × Int) × Int :=
 match R[(chI R.length pick).toNat]? with
 | some x => (x, 0)
 | none => ((0, 0), 161)
theorem chI_ok {m : Nat} (hm : 0 < m) (pick : Int) : 0 ≤ chI m pick ∧ chI m pick < m := by
 unfold chI
 have h1 := Int.tmod_lt_of_pos pick (show (0 : Int) < (m : Int) by omega)
 have h2 := Int.lt_tmod_of_pos pick (show (0 : Int) < (m : Int) by omega)
 exact ⟨Int.tmod_nonneg _ (by omega), Int.tmod_lt_of_pos _ (by omega)⟩
def ClW (W : World) (q j : Nat) (v : Value) : Prop := W.cell? ⟨q, j, none⟩ = some v ∧ W.frozen? ⟨q, j, none⟩ = false
theorem ClW.ck {P : Nat → Prop} {X Y : World} {q j : Nat} {v : Value} (h : ClW X q j v) (k : CK P X Y) (hp : P q) : ClW Y q j v := by
 obtain ⟨a, b⟩ := k.2 ⟨q, j, none⟩ v hp h.1;exact ⟨a, b.trans h.2⟩
theorem ClW.set {X : World} {q j : Nat} {v : Value} (h : ClW X q j v) (u : Value) : ClW (X.setCell ⟨q, j, none⟩ u) q j u :=
 ⟨World.cell?_setCell_same _ _ _ h.1, by rw [World.frozen?_setCell]; exact h.2⟩
theorem ClW.other {X : World} {q j q' j' : Nat} {v : Value} (h : ClW X q j v) (u : Value) (hn : q ≠ q' ∨ j ≠ j') : ClW (X.setCell ⟨q', j', none⟩ u) q j v :=
 ⟨by rw [World.cell?_setCell_other _ _ _ _ (by simp <;> omega)]; exact h.1, by rw [World.frozen?_setCell]; exact h.2⟩
theorem ClW.lt {X : World} {q j : Nat} {v : Value} (h : ClW X q j v) : q < X.heap.size := World.block_lt_of_cell? _ _ h.1
structure ChI (w1 : World) (q6 q7 q9 : Nat) (R : List (Int × Int)) (A : Nat) (s : Sw) (W : World) : Prop where
 co : CoW w1 [q6, q7, q9] s W
 c60 : ClW W q6 0 (.int .i64 0)
 c61 : ClW W q6 1 (.int .i64 0)
 c7 : ClW W q7 0 (.int .i64 0)
 c9 : ClW W q9 0 (.int .i64 ((A : Int) - (s.i : Int)))
 few : s.i ≤ A
 pend : ∀ x, s.p = some x → R[s.i]? = some x
theorem ChI.own {w1 : World} {q6 q7 q9 : Nat} {R : List (Int × Int)} {A : Nat} : OwnFrom w1.heap.size (ChI w1 q6 q7 q9 R A) := fun s X Y row h hg hr => by
 have ck := CK.ofGrown hg (fun r e => (hr r e).2)
 exact ⟨h.co.grown hg hr, h.c60.ck ck trivial, h.c61.ck ck trivial, h.c7.ck ck trivial, h.c9.ck ck trivial, h.few, h.pend⟩
theorem ChI.step {w1 : World} {q6 q7 q9 : Nat} {R : List (Int × Int)} {A : Nat} (hq : ∀ k ∈ [q6, q7, q9], k < w1.heap.size) {s s' : Sw} {X Y : World} (hz : w1.heap.size + 2 ≤ X.heap.size) (h : ChI w1 q6 q7 q9 R A s X) (ht : StepW R s s' X Y) : ChI w1 q6 q7 q9 R A s' Y := by
 have hn : ∀ k ∈ [q6, q7, q9], k ∉ s'.qs := fun k hk hm => by
  have := hq k hk
  rcases ht.qs k hm with e | e
  ·have := h.co.own k e; omega
  ·omega
 have ck := CK.ofKp ht.turn
 refine ⟨h.co.step hq hz ht, h.c60.ck ck (hn _ (by simp)), h.c61.ck ck (hn _ (by simp)), h.c7.ck ck (hn _ (by simp)), by rw [ht.on]; exact h.c9.ck ck (hn _ (by simp)), by rw [ht.on]; exact h.few, fun x hx => ?_⟩
 rw [ht.on]
 rcases ht.given with e | ⟨y, e, hy⟩
 ·rw [e] at hx; cases hx
 ·rw [e] at hx; cases hx; exact hy
structure ChX (w1 : World) (q6 q7 q9 : Nat) (R : List (Int × Int)) (A : Nat) (s : Sw) (W : World) : Prop where
 co : CoW w1 [q6, q7, q9] s W
 got : ∃ x, R[A]? = some x ∧ W.cell? ⟨q6, 0, none⟩ = some (.int .i64 x.1) ∧ W.cell? ⟨q6, 1, none⟩ = some (.int .i64 x.2)
 c7 : W.cell? ⟨q7, 0, none⟩ = some (.int .i64 0)
theorem ChX.own {w1 : World} {q6 q7 q9 : Nat} {R : List (Int × Int)} {A : Nat} : OwnFrom w1.heap.size (ChX w1 q6 q7 q9 R A) := fun s X Y row h hg hr => by
 have ck := CK.ofGrown hg (fun r e => (hr r e).2)
 obtain ⟨x, h1, h2, h3⟩ := h.got;exact ⟨h.co.grown hg hr, ⟨x, h1, (ck.2 _ _ trivial h2).1, (ck.2 _ _ trivial h3).1⟩, (ck.2 _ _ trivial h.c7).1⟩
theorem ChX.stepX {w1 : World} {q6 q7 q9 : Nat} {R : List (Int × Int)} {A : Nat} {s : Sw} {X Y : World} (h : ChX w1 q6 q7 q9 R A s X) (ht : StepWX s X Y) : ChX w1 q6 q7 q9 R A s Y := by
 have ck := CK.ofKp ht
 obtain ⟨x, h1, h2, h3⟩ := h.got;exact ⟨h.co.stepX ht, ⟨x, h1, (ck.2 _ _ (by simp) h2).1, (ck.2 _ _ (by simp) h3).1⟩, (ck.2 _ _ (by simp) h.c7).1⟩
theorem cChoose (c : Cg) (t pick : Int) (w : World) (hc : c.ok w) (hT8 : ∀ x ∈ c.tl, x.l.length ≤ 9223372036854775806) (htl : c.tl.length ≤ 9223372036854775807) (hpl : c.pl.length ≤ 4000000000000) (hR8 : (waysV c t).length ≤ 4000000000000) :
  CallsIn Fence.wide 5 Tryz.prog 12 #[c.v, .int .i64 t, .int .i64 pick] w fun e w' => e = .returned (.tuple #[plV (chV (waysV c t) pick).1, .int .i64 (chV (waysV c t) pick).2]) ∧ Kp [] w w' := by
 obtain ⟨v0, hv0, k0, b0⟩ : ∃ x, w.alloc (.cells #[.int .i64 c.n, .int .i64 c.s, .int .i64 c.k, .slice c.ta c.tl.length c.tc, .slice c.pa c.pl.length c.pc] 25) = x ∧ Kp [] w x ∧ Bn x w.heap.size [.int .i64 c.n, .int .i64 c.s, .int .i64 c.k, .slice c.ta c.tl.length c.tc, .slice c.pa c.pl.length c.pc] := ⟨_, rfl, (Kp.refl _ _).alloc _, Bn.new w _ _⟩
 obtain ⟨v1, hv1, k1, b1⟩ : ∃ x, v0.alloc (.cells #[.int .i64 0, .int .i64 0] 38) = x ∧ Kp [] v0 x ∧ Bn x v0.heap.size [.int .i64 0, .int .i64 0] := ⟨_, rfl, (Kp.refl _ _).alloc _, Bn.new v0 _ _⟩
 obtain ⟨v2, hv2, k2, b2⟩ : ∃ x, v1.alloc (.cells #[.int .i64 0] 33) = x ∧ Kp [] v1 x ∧ Bn x v1.heap.size [.int .i64 0] := ⟨_, rfl, (Kp.refl _ _).alloc _, Bn.new v1 _ _⟩
 have hz0 : v0.heap.size = w.heap.size + 1 := by rw [← hv0]; simp
 have hz1 : v1.heap.size = v0.heap.size + 1 := by rw [← hv1]; simp
 have hz2 : v2.heap.size = v1.heap.size + 1 := by rw [← hv2]; simp
 obtain ⟨q6, hq6⟩ : ∃ q, Hid (v0.heap.size = q) := ⟨_, hid rfl⟩
 obtain ⟨q7, hq7⟩ : ∃ q, Hid (v1.heap.size = q) := ⟨_, hid rfl⟩
 rw [hq6.out] at b1;rw [hq7.out] at b2;have b02 := (b0.kept k1).kept k2
 have b12 := b1.kept k2
 have kk := (k0.trans k1 (by simp)).trans k2 (by simp)
 have hck := hc.kept kk
 obtain ⟨R, hR⟩ : ∃ R, Hid (waysV c t = R) := ⟨_, hid rfl⟩
 have cM := cMany c t v2 hck hT8 htl hpl hR8
 rw [hR.out] at hR8 cM ⊢;have cM' := hid (callsIn_wide.1 cM)
 have cc0 := b02.get 0 _ rfl; have cc1 := b02.get 1 _ rfl; have cc2 := b02.get 2 _ rfl; have cc3 := b02.get 3 _ rfl; have cc4 := b02.get 4 _ rfl
 have HB := hid (And.intro b02 (And.intro b12 (And.intro b2 kk)))
 have HZ := hid (And.intro hz0 (And.intro hz1 hz2))
 have HC := hid hc
 clear b0 b1 b2 b02 b12 k0 k1 k2 kk hck hc hz0 hz1 hz2 cM;simp only [Cg.v] at cM' ⊢;refine callsIn_of_wp_marks Tryz.func12 rfl trivial ?_ rfl;simp only [Tryz.ntmps12, List.size_toArray, List.length_cons, List.length_nil, Nat.reduceAdd, Nat.reduceSub, Array.replicate_succ, Array.replicate_zero, List.push_toArray, List.append_toArray, List.nil_append, List.cons_append];refine wpIn_wide.2 ?_;have hq6' := hq6.out
 have hq7' := hq7.out
 go_wp2_with fail;refine cM'.out.mono ?_;rintro e w2 ⟨rfl, k3⟩;have K3 := hid k3
 clear cM' k3 hq6' hq7'
 by_cases hm : 0 < R.length
 ·have d1 : decide ((0 : Int) < (R.length : Int)) = true := by simp; exact hm
  have d2 : (0 : Int) < (R.length : Int) := by omega
  obtain ⟨h0, h1⟩ := chI_ok hm pick;obtain ⟨A, hA⟩ := Int.eq_ofNat_of_zero_le h0;have hAR : A < R.length := by omega
  have hg1 := Int.tmod_lt_of_pos pick d2
  have hg2 := Int.lt_tmod_of_pos pick d2
  unfold chI at hA
  obtain ⟨r1, e1⟩ : ∃ r, Int.tmod pick (R.length : Int) = r := ⟨_, rfl⟩
  rw [e1] at hA hg1 hg2;have e2 : wrap64 (r1 + (R.length : Int)) = r1 + (R.length : Int) := by unfold wrap64; omega
  obtain ⟨r2, e3⟩ : ∃ r, r1 + (R.length : Int) = r := ⟨_, rfl⟩
  rw [e3] at e2 hA;obtain ⟨w3, hw3, k4, b9⟩ : ∃ x, w2.alloc (.cells #[.int .i64 (A : Int)] 3) = x ∧ Kp [] w2 x ∧ Bn x w2.heap.size [.int .i64 (A : Int)] := ⟨_, rfl, (Kp.refl _ _).alloc _, Bn.new w2 _ _⟩
  obtain ⟨q9, hq9⟩ : ∃ q, Hid (w2.heap.size = q) := ⟨_, hid rfl⟩
  rw [hq9.out] at b9;have k34 := K3.out.trans k4 (by simp)
  have b0 := HB.out.1.kept k34
  have cc0 := b0.get 0 _ rfl; have cc1 := b0.get 1 _ rfl; have cc2 := b0.get 2 _ rfl; have cc3 := b0.get 3 _ rfl; have cc4 := b0.get 4 _ rfl
  have cW := hid (cWays c t w3 ((HC.out.kept HB.out.2.2.2).kept k34))
  simp only [Cg.v] at cW;have B9 := hid (And.intro b9 (And.intro ((HB.out.2.1).kept k34) (And.intro (HB.out.2.2.1.kept k34) (HB.out.2.2.2.trans k34 (by simp)))))
  have hz3 : w3.heap.size = w2.heap.size + 1 := by rw [← hw3]; simp
  have HZ3 := hid hz3
  have hAe := hid hA
  have e4 : Int.tmod r2 (R.length : Int) = (A : Int) := hA
  have hRA : Hid (R[A]? = some R[A]) := by show _ = _; simp [hAR]
  have hq9' := hq9.out
  clear h0 h1 hA hg1 hg2 k4 b9 k34 b0 hz3;go_wp2_with fail;refine cW.out.mono ?_;rintro e w4 ⟨q2, q3, rfl, hAt, hJ, k5⟩;have HA := hid hAt
  have HJ := hid hJ
  have K5 := hid k5
  have e1' : Int.tmod pick (R.length : Int) = r1 := e1
  have e3' : r1 + (R.length : Int) = r2 := e3
  clear cW hAt hJ k5 hq9' e1 e2 e3 e4 cc0 cc1 cc2 cc3 cc4;go_wp2_with fail;obtain ⟨js, hjsE⟩ : ∃ js, Hid (q2 :: q3 :: catJs c = js) := ⟨_, hid rfl⟩
  have hzs := HZ.out
  have hzs3 := HZ3.out
  have hzk := K5.out.size
  have hzk3 := K3.out.size
  have hw0 := hq6.out
  have hw1 := hq7.out
  have hw2 := hq9.out
  have b6 := B9.out.2.1.kept K5.out
  have b7 := B9.out.2.2.1.kept K5.out
  have b9 := B9.out.1.kept K5.out
  have hSl : ∀ k ∈ [q6, q7, q9], k < w4.heap.size := fun k hk => by
   simp only [List.mem_cons, List.not_mem_nil, or_false] at hk
   rcases hk with rfl | rfl | rfl
   ·exact b6.lt (by simp)
   ·exact b7.lt (by simp)
   ·exact b9.lt (by simp)
  have n67 : q6 ≠ q7 := by omega
  have n69 : q6 ≠ q9 := by omega
  have n79 : q7 ≠ q9 := by omega
  have HSQ : Hid (PlSeq 4 80 #[.pointer (some ⟨q3, 0, none⟩), .pointer (some ⟨q2, 0, none⟩)] R js w4) := hid (by
   have h := waysSeq 4 (by omega) q2 q3 c t _ w4 HA.out (fun j hj => (HJ.out j hj).1) hT8 htl hpl
   rw [hR.out, hjsE.out] at h;exact h)
  have hcl := catJs_lt HC.out
  have HI0 : Hid (ChI w4 q6 q7 q9 R A ⟨[], js, 0, none⟩ w4) := hid ⟨⟨rfl, rfl, rfl, Nat.le_refl _, fun _ _ _ => rfl, by simp, fun j hj => by
   rw [← hjsE.out] at hj;obtain ⟨h1, h2⟩ := HJ.out j hj;refine ⟨fun hm => ?_, by omega, by omega⟩
   simp only [List.mem_cons, List.not_mem_nil, or_false] at hm;have := hcl j (h2 (by omega))
   omega, fun j hj => by rw [← hjsE.out] at hj; exact (HJ.out j hj).1⟩, ⟨b6.get 0 _ rfl, b6.free 0⟩, ⟨b6.get 1 _ rfl, b6.free 1⟩, ⟨b7.get 0 _ rfl, b7.free 0⟩, ⟨by have := b9.get 0 _ rfl; simpa using this, b9.free 0⟩, Nat.zero_le _, fun x hx => (by cases hx)⟩
  have HKW : Hid (Kp [] w w4) := hid (B9.out.2.2.2.trans K5.out (by simp))
  have HQ : Hid (w.heap.size < q6 ∧ w.heap.size < q7 ∧ w.heap.size < q9) := hid ⟨by omega, by omega, by omega⟩
  clear hzs hzs3 hzk hzk3 hw0 hw1 hw2 b6 b7 b9 hcl;refine (wpIn_wide (n := 5)).1 ?_
  refine wpRangeY rfl (by omega) (gf := 80) (lb := #[.pointer (some ⟨q3, 0, none⟩), .pointer (some ⟨q2, 0, none⟩)]) rfl trivial (fun _ _ => rfl)
   HSQ.out (fun _ => rfl) KeepW.trans (fun s W o => KeepB.alloc _ _ _) (KeepB.refl _ _)
   (ChI w4 q6 q7 q9 R A) (fun c s W' => c = .ret ∧ ChX w4 q6 q7 q9 R A s W') ChI.own (fun c s X Y row h hg hr => ⟨h.1, ChX.own s X Y row h.2 hg hr⟩) HI0.out
   (fun s s' A B h ht k o hk ho => (ht.low (Array.getElem?_eq_some_iff.1 ho).1 h.co.own (by omega)).trans ho) (fun c s A B h ht k o hk ho => (ht.block k (Array.getElem?_eq_some_iff.1 ho).1 (by simp)).trans ho) (fun s s' A B hz h ht => h.step hSl hz ht) (fun c s A B h ht => ⟨h.1, h.2.stepX ht⟩)
   (fun s W o' h => h.co.recs o') (fun s x W o' h => h.co.recs o') (fun c s x W o' h => h.2.co.recs o')
   (fun x => .cells #[.int .i64 x.1, .int .i64 x.2] 38)
   (fun x q => { tmps := #[.agg #[.int .i64 c.n, .int .i64 c.s, .int .i64 c.k, .slice c.ta c.tl.length c.tc, .slice c.pa c.pl.length c.pc], .int .i64 t, .int .i64 pick, .pointer (some ⟨w.heap.size, 0, none⟩), undef, undef, .pointer (some ⟨q6, 0, none⟩), .pointer (some ⟨q7, 0, none⟩), .int .i64 (R.length : Int), .pointer (some ⟨q9, 0, none⟩), .pointer (some ⟨q, 0, none⟩), .agg #[.int .i64 c.n, .int .i64 c.s, .int .i64 c.k, .slice c.ta c.tl.length c.tc, .slice c.pa c.pl.length c.pc], .int .i64 t, .int .i64 (R.length : Int), .int .i64 (R.length : Int), .bool true, .int .i64 pick, .int .i64 (R.length : Int), .int .i64 r1, .int .i64 (R.length : Int), .int .i64 (wrap64 r2), .int .i64 (R.length : Int), .int .i64 (A : Int), .agg #[.int .i64 c.n, .int .i64 c.s, .int .i64 c.k, .slice c.ta c.tl.length c.tc, .slice c.pa c.pl.length c.pc], .int .i64 t, .func (.func 80) #[] #[.pointer (some ⟨q3, 0, none⟩), .pointer (some ⟨q2, 0, none⟩)], plV x, undef, undef, undef, undef, undef, undef], defers := [] }) ?assign ?body ?done ?stop
  case assign =>
   rintro l ⟨x1, x2⟩ W C hC;simp only [encW, plV] at hC ⊢;gi_wp2_with fail;exact hC
  case body =>
   rintro l0 s ⟨x1, x2⟩ W q h hp hob hq2;dsimp only at hob ⊢;have hRi := h.pend _ hp
   have o0 : W.cell? ⟨q, 0, none⟩ = some (.int .i64 x1) := by unfold World.cell?; simp [hob]
   have o1 : W.cell? ⟨q, 1, none⟩ = some (.int .i64 x2) := by unfold World.cell?; simp [hob]
   have h' := hid h
   have hRi' := hid hRi
   have hfew := h.few
   have hS0 := hid hSl
   obtain ⟨δ, hδ⟩ : ∃ δ, Hid ((A : Int) - (s.i : Int) = δ) := ⟨_, hid rfl⟩
   have hc9 := h.c9
   rw [hδ.out] at hc9;have hjn : ∀ k ∈ [q6, q7, q9], k ∉ s.js := fun k hk hm => (h.co.js k hm).1 hk
   by_cases hz : A = s.i
   ·have hd0 : δ = 0 := by have := hδ.out; omega
    rw [hd0] at hc9;have c9 := hc9.1
    have c60 := h.c60
    have c61 := h.c61
    have c70 := h.c7
    obtain ⟨w9, hw9⟩ : ∃ y, ((W.setCell ⟨q6, 0, none⟩ (.int .i64 x1)).setCell ⟨q6, 1, none⟩ (.int .i64 x2)).setCell ⟨q7, 0, none⟩ (.int .i64 0) = y := ⟨_, rfl⟩
    have k9 : Kp [q6, q7] W w9 := by rw [← hw9]; exact (((Kp.refl _ _).setCell (by simp) _).setCell (by simp) _).setCell (by simp) _
    have g60 : w9.cell? ⟨q6, 0, none⟩ = some (.int .i64 x1) := by rw [← hw9]; exact (((c60.set _).other _ (.inr (by omega))).other _ (.inl n67)).1
    have g61 : w9.cell? ⟨q6, 1, none⟩ = some (.int .i64 x2) := by rw [← hw9]; exact (((c61.other _ (.inr (by omega))).set _).other _ (.inl n67)).1
    have g70 : w9.cell? ⟨q7, 0, none⟩ = some (.int .i64 0) := by rw [← hw9]; exact (((c70.other _ (.inl n67.symm)).other _ (.inl n67.symm)).set _).1
    obtain ⟨t1, t2, t3⟩ := h.co.round (x := (x1, x2)) k9 (fun k hk => by
     rcases List.mem_cons.1 hk with rfl | hk
     ·exact cellCel c60.1
     ·rw [List.mem_singleton.1 hk]; exact cellCel c70.1) (fun k hk => .inl (by simp at hk ⊢; omega)) (fun k hk => hjn k (by simp at hk ⊢; omega))
    have HR4 : Hid (KeepsFrom w4.heap.size W w9 ∧ KeepW s W w9 ∧ ChX w4 q6 q7 q9 R A (s.nx (x1, x2)) w9) := hid ⟨t1, t2, t3, ⟨(x1, x2), by rw [hz]; exact hRi, g60, g61⟩, g70⟩
    have a0 := c60.1
    have a1 := c61.1
    have a2 := c70.1
    have p0 := c60.2
    have p1 := c61.2
    have p2 := c70.2
    have n1 : ¬ q6 = q7 := n67
    have n2 : ¬ q7 = q6 := fun e => n67 e.symm
    have d3 : ((0 : Int) == 0) = true := rfl
    clear hc9 c60 c61 c70 k9 g60 g61 g70 t1 t2 t3 h hp hRi hob hq2 hfew hz hd0 HI0 HSQ hjn;gi_wp2_with fail;exact ⟨HR4.out.1, HR4.out.2.1, rfl, HR4.out.2.2⟩
   ·have d3 : (δ == 0) = false := by have := hδ.out; rw [beq_eq_false_iff_ne]; omega
    have hb1 : -9223372036854775808 ≤ δ - 1 := by have := hδ.out; omega
    have hb2 : δ - 1 ≤ 9223372036854775807 := by have := hδ.out; omega
    have c9 := hc9.1
    have f9 := hc9.2
    have k9 : Kp [q9] W (W.setCell ⟨q9, 0, none⟩ (.int .i64 (δ - 1))) := (Kp.refl _ _).setCell (by simp) _
    obtain ⟨t1, t2, t3⟩ := h.co.round (x := (x1, x2)) k9 (fun k hk => by rw [List.mem_singleton.1 hk]; exact cellCel c9) (fun k hk => .inl (by simp at hk ⊢; omega)) (fun k hk => hjn k (by simp at hk ⊢; omega))
    have HR4 : Hid (KeepsFrom w4.heap.size W (W.setCell ⟨q9, 0, none⟩ (.int .i64 (δ - 1))) ∧ KeepW s W (W.setCell ⟨q9, 0, none⟩ (.int .i64 (δ - 1))) ∧ ChI w4 q6 q7 q9 R A (s.nx (x1, x2)) (W.setCell ⟨q9, 0, none⟩ (.int .i64 (δ - 1)))) := hid ⟨t1, t2, t3, h.c60.other _ (.inl n69), h.c61.other _ (.inl n69), h.c7.other _ (.inl n79), by
     have e : (A : Int) - ((s.nx (x1, x2)).i : Int) = δ - 1 := by
      have := hδ.out
      simp only [Sw.nx];omega
     rw [e];exact hc9.set _, by show s.i + 1 ≤ A; omega, fun y hy => (by cases hy)⟩
    clear hc9 k9 t1 t2 t3 h hp hRi hob hq2 hfew hz HI0 HSQ hjn o0 o1;gi_wp2_with fail;exact ⟨HR4.out.1, HR4.out.2.1, HR4.out.2.2⟩
  case done =>
   rintro D s X hD ⟨hsi, hsp⟩ h hrec;have := h.few
   exfalso
   omega
  case stop =>
   rintro D c s X hD hsm ⟨rfl, h⟩ hrec;obtain ⟨x, g1, g2, g3⟩ := h.got;have hAe' := hAe.out
   have hV : Hid (chV R pick = (x, 0)) := by
    show _ = _
    unfold chV chI
    rw [e1', e3', hAe'];simp [g1]
   have h' := hid h
   have hrec' := hid hrec
   have HG := hid (And.intro g2 g3)
   clear h hrec g1 g2 g3 HI0 HSQ;gi_wp2_with fail;have hmk : Mks [D] X := (Mks.nil X).cons hrec'.out (by simp)
   have kwX : Kp [] w X := HKW.out.trans h'.out.co.kp (fun x hx => .inr (by have := HQ.out; simp at hx; omega))
   show LeavesInM _ _ _ _ _ _ (marks [D]) .returning _
   refine leaves_marks [D] X hmk fun w' hk => ?_
   have ck : CK (fun _ => True) X w' := CK.ofBlock hk.size fun k _ hl => by
    by_cases e : k = D
    ·exact .inr ⟨_, by rw [e]; exact hrec'.out, rfl⟩
    ·exact .inl (hk.block k hl (by simpa using e))
   have g4 := (ck.2 _ _ trivial HG.out.1).1
   have g5 := (ck.2 _ _ trivial HG.out.2).1
   have g7 := (ck.2 _ _ trivial h'.out.c7).1
   have hzz := HKW.out.size
   exact ⟨.tuple #[plV x, .int .i64 0], by simp [results, Tryz.results12, go_sem, g4, g5, g7], by rw [hV.out], kwX.trans hk (fun x hx => .inr (by simp at hx; omega))⟩
 ·have hm0 : R.length = 0 := by omega
  have d1 : decide ((0 : Int) < (R.length : Int)) = false := by rw [hm0]; rfl
  have d2 : ¬ (0 : Int) < (R.length : Int) := by omega
  have hR0 : Hid (chV R pick = ((0, 0), 161)) := by
   show _ = _
   have : R = [] := List.length_eq_zero_iff.1 hm0
   subst this;rfl
  have b6 := HB.out.2.1.kept K3.out
  have b7 := HB.out.2.2.1.kept K3.out
  have c60 : ClW w2 q6 0 (.int .i64 0) := ⟨b6.get 0 _ rfl, b6.free 0⟩
  have c61 : ClW w2 q6 1 (.int .i64 0) := ⟨b6.get 1 _ rfl, b6.free 1⟩
  have c70 : ClW w2 q7 0 (.int .i64 0) := ⟨b7.get 0 _ rfl, b7.free 0⟩
  have hz := HZ.out
  have n67 : q6 ≠ q7 := by have := hq6.out; have := hq7.out; omega
  obtain ⟨w9, hw9⟩ : ∃ x, ((w2.setCell ⟨q6, 0, none⟩ (.int .i64 0)).setCell ⟨q6, 1, none⟩ (.int .i64 0)).setCell ⟨q7, 0, none⟩ (.int .i64 161) = x := ⟨_, rfl⟩
  have k9 : Kp [q6, q7] w2 w9 := by rw [← hw9]; exact (((Kp.refl _ _).setCell (by simp) _).setCell (by simp) _).setCell (by simp) _
  have g60 : w9.cell? ⟨q6, 0, none⟩ = some (.int .i64 0) := by rw [← hw9]; exact (((c60.set _).other _ (.inr (by omega))).other _ (.inl n67)).1
  have g61 : w9.cell? ⟨q6, 1, none⟩ = some (.int .i64 0) := by rw [← hw9]; exact (((c61.other _ (.inr (by omega))).set _).other _ (.inl n67)).1
  have g70 : w9.cell? ⟨q7, 0, none⟩ = some (.int .i64 161) := by rw [← hw9]; exact (((c70.other _ (.inl n67.symm)).other _ (.inl n67.symm)).set _).1
  have HG := hid (And.intro g60 (And.intro g61 (And.intro g70 k9)))
  have a0 := c60.1
  have a1 := c61.1
  have a2 := c70.1
  have p0 := c60.2
  have p1 := c61.2
  have p2 := c70.2
  have n1 : ¬ q6 = q7 := n67
  have n2 : ¬ q7 = q6 := fun e => n67 e.symm
  have HQ : Hid (w.heap.size < q6 ∧ w.heap.size < q7) := hid ⟨by have := hq6.out; omega, by have := hq7.out; omega⟩
  clear b6 b7 c60 c61 c70 hz n67 k9 g60 g61 g70;go_wp2_with fail;show LeavesInM _ _ _ _ _ _ (marks []) .returning _
  refine leaves_marks [] w9 (Mks.nil w9) fun w' hk => ?_
  have g4 := kpAt hk HG.out.1
  have g5 := kpAt hk HG.out.2.1
  have g7 := kpAt hk HG.out.2.2.1
  have kw := HB.out.2.2.2.trans K3.out (by simp)
  exact ⟨.tuple #[plV (0, 0), .int .i64 161], by simp [results, Tryz.results12, go_sem, g4, g5, g7], by rw [hR0.out], (kw.trans HG.out.2.2.2 (fun x hx => .inr (by have := HQ.out; simp at hx; omega))).trans hk (by simp)⟩
def cgS (qa qb qc qd qe qf : Nat) : Cg := ⟨1, 1, 0, some ⟨qb, 0, none⟩, 1, [⟨⟨#[116]⟩, some ⟨qa, 0, none⟩, 2, [⟨⟨#[97]⟩, 2, false⟩, ⟨⟨#[98]⟩, 2, false⟩]⟩], some ⟨qf, 0, none⟩, 3,
 [⟨⟨#[112]⟩, 0, some ⟨qc, 0, none⟩, 2, [0, 1], none, 0, [], 0, 0⟩, ⟨⟨#[113]⟩, 0, some ⟨qd, 0, none⟩, 1, [0], none, 0, [], 0, 0⟩, ⟨⟨#[114]⟩, 0, some ⟨qe, 0, none⟩, 1, [1], none, 0, [], 1, 0⟩]⟩
theorem cgS_ways (qa qb qc qd qe qf : Nat) : waysV (cgS qa qb qc qd qe qf) 0 = [(0, -1), (1, 2)] := by
 simp [waysV, cgS, wi, tbM, sgW, ptW, isS, isP, hvA, hasC, colsOf, pjOf, prW, inW, bothW, List.range, List.range.loop, List.range']
theorem cgS_pick (qa qb qc qd qe qf : Nat) : chV (waysV (cgS qa qb qc qd qe qf) 0) (-1) = ((1, 2), 0) := by
 rw [cgS_ways]; rfl
theorem cgS_ok {W : World} {qa qb qc qd qe qf : Nat} (b1 : Bn W qa [.string ⟨#[97]⟩, .int .i64 2, .bool false, .string ⟨#[98]⟩, .int .i64 2, .bool false]) (b2 : Bn W qb [.string ⟨#[116]⟩, .slice (some ⟨qa, 0, none⟩) 2 2])
  (b3 : Bn W qc [.int .i64 0, .int .i64 1]) (b4 : Bn W qd [.int .i64 0]) (b5 : Bn W qe [.int .i64 1])
  (b6 : Bn W qf [.string ⟨#[112]⟩, .int .i64 0, .slice (some ⟨qc, 0, none⟩) 2 2, .slice none 0 0, .int .i64 0, .int .i64 0, .string ⟨#[113]⟩, .int .i64 0, .slice (some ⟨qd, 0, none⟩) 1 1, .slice none 0 0, .int .i64 0, .int .i64 0, .string ⟨#[114]⟩, .int .i64 0, .slice (some ⟨qe, 0, none⟩) 1 1, .slice none 0 0, .int .i64 1, .int .i64 0]) : (cgS qa qb qc qd qe qf).ok W := by
 refine ⟨.inr ⟨_, 0, rfl, fun j u hu => ?_⟩, fun t ht => ?_, by simp [cgS], by simp [cgS], .inr ⟨_, 0, rfl, fun j u hu => ?_⟩, fun p hp => ?_, by simp [cgS], by simp [cgS]⟩
 ·rw [Nat.zero_add]; exact b2.get j u (by simpa [cgS, El.cs, TbE] using hu)
 ·simp [cgS] at ht
  subst ht;refine ⟨.inr ⟨qa, 0, rfl, fun j x hx => ?_⟩, by simp, by simp⟩
  match j, hx with
  | 0, hx =>
   simp at hx
   subst hx;exact ⟨b1.get 0 _ rfl, b1.get 1 _ rfl, b1.get 2 _ rfl⟩
  | 1, hx =>
   simp at hx
   subst hx;exact ⟨b1.get 3 _ rfl, b1.get 4 _ rfl, b1.get 5 _ rfl⟩
  | j + 2, hx => simp at hx
 ·rw [Nat.zero_add]; exact b6.get j u (by simpa [cgS, El.cs, PjE] using hu)
 ·simp [cgS] at hp
  rcases hp with rfl | rfl | rfl
  ·exact ⟨.inr ⟨_, 0, rfl, fun j u hu => by rw [Nat.zero_add]; exact b3.get j u (by simpa [El.cs, IntE] using hu)⟩, .inl rfl, by simp, by simp, by simp, by simp⟩
  ·exact ⟨.inr ⟨_, 0, rfl, fun j u hu => by rw [Nat.zero_add]; exact b4.get j u (by simpa [El.cs, IntE] using hu)⟩, .inl rfl, by simp, by simp, by simp, by simp⟩
  ·exact ⟨.inr ⟨_, 0, rfl, fun j u hu => by rw [Nat.zero_add]; exact b5.get j u (by simpa [El.cs, IntE] using hu)⟩, .inl rfl, by simp, by simp, by simp, by simp⟩
theorem cSmall (w : World) : Calls Tryz.prog 29 #[] w fun e w' => ∃ qa qb qc qd qe qf, e = .returned (cgS qa qb qc qd qe qf).v ∧ (cgS qa qb qc qd qe qf).ok w' ∧ Kp [] w w' := by
 obtain ⟨v0, hv0, k0, b0⟩ : ∃ x, w.alloc (.cells #[.int .i64 0, .int .i64 0, .int .i64 0, .slice none 0 0, .slice none 0 0] 25) = x ∧ Kp [] w x ∧ Bn x w.heap.size [.int .i64 0, .int .i64 0, .int .i64 0, .slice none 0 0, .slice none 0 0] := ⟨_, rfl, (Kp.refl _ _).alloc _, Bn.new w _ _⟩
 obtain ⟨v1, hv1, k1, b1⟩ : ∃ x, v0.alloc (.cells #[.string ⟨#[97]⟩, .int .i64 2, .bool false, .string ⟨#[98]⟩, .int .i64 2, .bool false] 104) = x ∧ Kp [] v0 x ∧ Bn x v0.heap.size [.string ⟨#[97]⟩, .int .i64 2, .bool false, .string ⟨#[98]⟩, .int .i64 2, .bool false] := ⟨_, rfl, (Kp.refl _ _).alloc _, Bn.new v0 _ _⟩
 obtain ⟨v2, hv2, k2, b2⟩ : ∃ x, v1.alloc (.cells #[.string ⟨#[116]⟩, .slice (some ⟨v0.heap.size, 0, none⟩) 2 2] 77) = x ∧ Kp [] v1 x ∧ Bn x v1.heap.size [.string ⟨#[116]⟩, .slice (some ⟨v0.heap.size, 0, none⟩) 2 2] := ⟨_, rfl, (Kp.refl _ _).alloc _, Bn.new v1 _ _⟩
 obtain ⟨v3, hv3, k3, b3⟩ : ∃ x, v2.alloc (.cells #[.int .i64 0, .int .i64 1] 3) = x ∧ Kp [] v2 x ∧ Bn x v2.heap.size [.int .i64 0, .int .i64 1] := ⟨_, rfl, (Kp.refl _ _).alloc _, Bn.new v2 _ _⟩
 obtain ⟨v4, hv4, k4, b4⟩ : ∃ x, v3.alloc (.cells #[.int .i64 0] 3) = x ∧ Kp [] v3 x ∧ Bn x v3.heap.size [.int .i64 0] := ⟨_, rfl, (Kp.refl _ _).alloc _, Bn.new v3 _ _⟩
 obtain ⟨v5, hv5, k5, b5⟩ : ∃ x, v4.alloc (.cells #[.int .i64 1] 3) = x ∧ Kp [] v4 x ∧ Bn x v4.heap.size [.int .i64 1] := ⟨_, rfl, (Kp.refl _ _).alloc _, Bn.new v4 _ _⟩
 obtain ⟨v6, hv6, k6, b6⟩ : ∃ x, v5.alloc (.cells #[.string ⟨#[112]⟩, .int .i64 0, .slice (some ⟨v2.heap.size, 0, none⟩) 2 2, .slice none 0 0, .int .i64 0, .int .i64 0, .string ⟨#[113]⟩, .int .i64 0, .slice (some ⟨v3.heap.size, 0, none⟩) 1 1, .slice none 0 0, .int .i64 0, .int .i64 0, .string ⟨#[114]⟩, .int .i64 0, .slice (some ⟨v4.heap.size, 0, none⟩) 1 1, .slice none 0 0, .int .i64 1, .int .i64 0] 92) = x ∧ Kp [] v5 x ∧ Bn x v5.heap.size [.string ⟨#[112]⟩, .int .i64 0, .slice (some ⟨v2.heap.size, 0, none⟩) 2 2, .slice none 0 0, .int .i64 0, .int .i64 0, .string ⟨#[113]⟩, .int .i64 0, .slice (some ⟨v3.heap.size, 0, none⟩) 1 1, .slice none 0 0, .int .i64 0, .int .i64 0, .string ⟨#[114]⟩, .int .i64 0, .slice (some ⟨v4.heap.size, 0, none⟩) 1 1, .slice none 0 0, .int .i64 1, .int .i64 0] := ⟨_, rfl, (Kp.refl _ _).alloc _, Bn.new v5 _ _⟩
 have z1 := k1.size; have z2 := k2.size; have z3 := k3.size; have z4 := k4.size; have z5 := k5.size; have z6 := k6.size
 have z0 : v0.heap.size = w.heap.size + 1 := by rw [← hv0]; simp
 have m0 := ((((((b0.kept k1).kept k2).kept k3).kept k4).kept k5).kept k6)
 have m1 := (((((b1.kept k2).kept k3).kept k4).kept k5).kept k6)
 have m2 := ((((b2.kept k3).kept k4).kept k5).kept k6)
 have m3 := (((b3.kept k4).kept k5).kept k6)
 have m4 := ((b4.kept k5).kept k6)
 have m5 := (b5.kept k6)
 obtain ⟨q0, hq0⟩ : ∃ q, Hid (w.heap.size = q) := ⟨_, hid rfl⟩
 rw [hq0.out] at m0;obtain ⟨v7, hv7⟩ : ∃ x, ((((v6.setCell ⟨q0, 0, none⟩ (.int .i64 1)).setCell ⟨q0, 1, none⟩ (.int .i64 1)).setCell ⟨q0, 2, none⟩ (.int .i64 0)).setCell ⟨q0, 3, none⟩ (.slice (some ⟨v1.heap.size, 0, none⟩) 1 1)).setCell ⟨q0, 4, none⟩ (.slice (some ⟨v5.heap.size, 0, none⟩) 3 3) = x := ⟨_, rfl⟩
 have k7 : Kp [q0] v6 v7 := by rw [← hv7]; exact ((((((Kp.refl _ _).setCell (by simp) _).setCell (by simp) _).setCell (by simp) _).setCell (by simp) _).setCell (by simp) _)
 have m7 : Bn v7 q0 [.int .i64 1, .int .i64 1, .int .i64 0, .slice (some ⟨v1.heap.size, 0, none⟩) 1 1, .slice (some ⟨v5.heap.size, 0, none⟩) 3 3] := by rw [← hv7]; exact (((((m0.set 0 (by simp) (.int .i64 1)).set 1 (by simp) (.int .i64 1)).set 2 (by simp) (.int .i64 0)).set 3 (by simp) (.slice (some ⟨v1.heap.size, 0, none⟩) 1 1)).set 4 (by simp) (.slice (some ⟨v5.heap.size, 0, none⟩) 3 3))
 have hne : ∀ q, w.heap.size + 1 ≤ q → q ∉ [q0] := fun q h => by have := hq0.out; simp; omega
 have HOK : Hid ((cgS v0.heap.size v1.heap.size v2.heap.size v3.heap.size v4.heap.size v5.heap.size).ok v7) := hid (cgS_ok (m1.keptS k7 (hne _ (by omega)) (m1.lt (by simp))) (m2.keptS k7 (hne _ (by omega)) (m2.lt (by simp))) (m3.keptS k7 (hne _ (by omega)) (m3.lt (by simp))) (m4.keptS k7 (hne _ (by omega)) (m4.lt (by simp))) (m5.keptS k7 (hne _ (by omega)) (m5.lt (by simp))) (b6.keptS k7 (hne _ (by omega)) (b6.lt (by simp))))
 have HK : Hid (Kp [] w v7) := hid (((((((k0.trans k1 (by simp)).trans k2 (by simp)).trans k3 (by simp)).trans k4 (by simp)).trans k5 (by simp)).trans k6 (by simp)).trans k7 (fun x hx => .inr (by have := hq0.out; simp at hx; omega)))
 have a0 := m0.get 0 _ rfl; have a1 := m0.get 1 _ rfl; have a2 := m0.get 2 _ rfl; have a3 := m0.get 3 _ rfl; have a4 := m0.get 4 _ rfl
 have f0 := m0.free 0; have f1 := m0.free 1; have f2 := m0.free 2; have f3 := m0.free 3; have f4 := m0.free 4
 have g0 := m7.get 0 _ rfl; have g1 := m7.get 1 _ rfl; have g2 := m7.get 2 _ rfl; have g3 := m7.get 3 _ rfl; have g4 := m7.get 4 _ rfl
 have hq0' := hq0.out
 clear b0 b1 b2 b3 b4 b5 b6 m0 m1 m2 m3 m4 m5 m7 k0 k1 k2 k3 k4 k5 k6 k7 z0 z1 z2 z3 z4 z5 z6 hne;go_enter Tryz.func29, Tryz.ntmps29
 go_wp2_with fail;exact bodyPost_ret (v := .agg #[.int .i64 1, .int .i64 1, .int .i64 0, .slice (some ⟨v1.heap.size, 0, none⟩) 1 1, .slice (some ⟨v5.heap.size, 0, none⟩) 3 3]) (by simp [results, Tryz.results29, go_sem, g0, g1, g2, g3, g4]) rfl ⟨_, _, _, _, _, _, rfl, HOK.out, HK.out⟩
end Go.Proofs.YtcgkkofmnajedaaGreatDoor
end

section
namespace Go.Proofs.YtcgkkofmnajedaaGreatDoor
open Go.RowKit Go.Hay
theorem TurnR.mono {B0 B1 : Nat} {qs ps : List Nat} {A B : World} (h : TurnR B0 qs A B) (hb : B1 ≤ B0) (hq : ∀ q ∈ qs, q ∈ ps) : TurnR B1 ps A B :=
 ⟨h.os, h.tape, h.output, h.size, fun k hk => by
  rcases h.block k hk with e | e | ⟨e, o⟩
  ·exact .inl e
  ·exact .inr (.inl (hq k e))
  ·exact .inr (.inr ⟨by omega, o⟩)⟩
theorem RowSeq.move {fr : Bool} {n g : Nat} {lb : Array Value} {R : List (List Val)} {js : List Nat} {w W : World} (h : RowSeq fr n g lb R js w) (k : KeepB js w W) : RowSeq fr n g lb R js W :=
 fun l J Jx W' hW => h l J Jx W' ⟨k.trans hW.js, fun e => (by cases e)⟩
structure InJ (J : Sr → World → Prop) (RL R : List (List Val)) (f : List Val → List (List Val)) (M : World → Prop) (Mj : List Nat) (w3 : World) (sl : Sr) (W : World) (js qs : List Nat) (i : Nat) : Prop where
 j : J ⟨true, w3.heap.size, qs, js, i, none⟩ W
 sub : ∀ j ∈ sl.js, j ∈ js
 mj : ∀ j ∈ Mj, j ∈ js
 qsub : ∀ q ∈ sl.qs, q ∈ qs
 m : M W
 rel : R.drop i = (RL.drop sl.i).flatMap f
 il : i ≤ R.length
 size : w3.heap.size ≤ W.heap.size
 mde : sl.made = true → w3.heap.size + 2 ≤ sl.B0 ∧ ∀ q ∈ sl.qs, w3.heap.size + 2 ≤ q
 lj : ∀ j ∈ sl.js, j ≠ w3.heap.size ∧ j ≠ w3.heap.size + 1
 pend : ∀ x, sl.p = some x → RL[sl.i]? = some x.l ∧ x.lies W
 jl : ∀ j ∈ js, j < W.heap.size
 ql : ∀ q ∈ qs, q < W.heap.size
def InG (J : Sr → World → Prop) (RL R : List (List Val)) (f : List Val → List (List Val)) (M : World → Prop) (Mj : List Nat) (w3 : World) (sl : Sr) (W : World) : Prop := ∃ js qs i, InJ J RL R f M Mj w3 sl W js qs i
def InX (Jx : Sr → World → Prop) (w3 : World) (sl : Sr) (W : World) : Prop := ∃ s : Sr, s.made = true ∧ s.B0 = w3.heap.size ∧ (∀ q ∈ sl.qs, q ∈ s.qs) ∧ (sl.made = true → w3.heap.size + 2 ≤ sl.B0 ∧ ∀ q ∈ sl.qs, w3.heap.size + 2 ≤ q) ∧ (∀ j ∈ sl.js, j ≠ w3.heap.size ∧ j ≠ w3.heap.size + 1) ∧ Jx s W
section
variable {J Jx : Sr → World → Prop} {fr : Bool} {RL R : List (List Val)} {f : List Val → List (List Val)} {M : World → Prop} {Mj : List Nat} {w3 : World}
theorem InG.own (hT : ∀ s s' A B, J s A → StepR true R s s' A B → J s' B) (hM : ∀ X Y, M X → CK (fun k => k ∈ Mj) X Y → M Y) : OwnFrom w3.heap.size (InG J RL R f M Mj w3) := fun sl X Y row ⟨js, qs, i, h⟩ hg hr => by
 have ck := CK.ofGrown hg (fun r e => (hr r e).2)
 exact ⟨js, qs, i, hT _ _ _ _ h.j (StepR.same rfl rfl (TurnR.ofGrown hg (fun r e => hr r e))), h.sub, h.mj, h.qsub, hM _ _ h.m (ck.mono fun _ _ => trivial), h.rel, h.il, Nat.le_trans h.size hg.size, h.mde, h.lj, fun x hx => ⟨(h.pend x hx).1, (h.pend x hx).2.ck ck (fun _ _ => trivial)⟩, fun j hj => Nat.lt_of_lt_of_le (h.jl j hj) hg.size, fun j hj => Nat.lt_of_lt_of_le (h.ql j hj) hg.size⟩
theorem InX.own (hX : ∀ s A B, Jx s A → StepRX s A B → Jx s B) : OwnFrom w3.heap.size (InX Jx w3) := fun sl X Y row ⟨s, h1, h2, h3, h4, h5, h6⟩ hg hr =>
 ⟨s, h1, h2, h3, h4, h5, hX _ _ _ h6 ⟨h1, TurnR.ofGrown hg (fun r e => by rw [h2]; exact hr r e)⟩⟩
theorem InG.step (hT : ∀ s s' A B, J s A → StepR true R s s' A B → J s' B) (hM : ∀ X Y, M X → CK (fun k => k ∈ Mj) X Y → M Y) (hMj : ∀ j ∈ Mj, j < w3.heap.size) {sl sl' : Sr} {A B : World} (hz : w3.heap.size + 2 ≤ A.heap.size) (h : InG J RL R f M Mj w3 sl A) (ht : StepR fr RL sl sl' A B) : InG J RL R f M Mj w3 sl' B := by
 obtain ⟨js, qs, i, h⟩ := h
 have hmd : sl'.made = true ∧ w3.heap.size + 2 ≤ sl'.B0 ∧ ∀ q ∈ sl'.qs, w3.heap.size + 2 ≤ q := by
  cases hs : sl.made with
  | true =>
   obtain ⟨e0, e1, e2⟩ := ht.stays hs;obtain ⟨h1, h2⟩ := h.mde hs;exact ⟨e0, by omega, fun q hq => by rcases e2 q hq with e | e; exact h2 q e; omega⟩
  | false =>
   obtain ⟨e0, e1, e2⟩ := ht.makes hs;exact ⟨e0, by omega, fun q hq => by have := (e2 q hq).1; omega⟩
 have hqn : ∀ q ∈ sl'.qs, q ∈ qs ∨ (A.heap.size ≤ q ∧ q < B.heap.size) := fun q hq => by
  cases hs : sl.made with
  | true => rcases (ht.stays hs).2.2 q hq with e | e; exact .inl (h.qsub q e); exact .inr e
  | false => exact .inr ((ht.makes hs).2.2 q hq)
 have ck := CK.ofTurn ht.turn
 have hJ : J ⟨true, w3.heap.size, qs ++ sl'.qs, js ++ sl'.js, i, none⟩ B := hT _ _ _ _ h.j ⟨ht.turn.mono (by show w3.heap.size ≤ _; omega) (fun q hq => List.mem_append.2 (.inr hq)), fun _ => ⟨rfl, rfl, fun q hq => by
  rcases List.mem_append.1 hq with e | e
  ·exact .inl e
  ·exact hqn q e⟩, fun e => (by cases e), fun j hj => by
  rcases List.mem_append.1 hj with e | e
  ·exact .inl e
  ·rcases ht.js j e with e2 | e2
   ·exact .inl (h.sub j e2)
   ·exact .inr e2, rfl, .inl rfl⟩
 refine ⟨_, _, i, hJ, fun j hj => List.mem_append.2 (.inr hj), fun j hj => List.mem_append.2 (.inl (h.mj j hj)), fun q hq => List.mem_append.2 (.inr hq), hM _ _ h.m (ck.mono fun k hk hm => ?_), by rw [ht.on]; exact h.rel, h.il, Nat.le_trans h.size ht.turn.size, fun _ => hmd.2, fun j hj => ?_, fun x hx => ?_, fun j hj => ?_, fun q hq => ?_⟩
 ·have := hMj k hk
  have := hmd.2.2 k hm
  omega
 ·rcases ht.js j hj with e | e
  ·exact h.lj j e
  ·omega
 ·rcases ht.given with e | ⟨y, e, hy, hl, _⟩
  ·rw [e] at hx; cases hx
  ·rw [e] at hx
   cases hx
   exact ⟨by rw [ht.on]; exact hy, hl⟩
 ·rcases List.mem_append.1 hj with e | e
  ·exact Nat.lt_of_lt_of_le (h.jl j e) ht.turn.size
  ·rcases ht.js j e with e2 | e2
   ·exact Nat.lt_of_lt_of_le (h.jl j (h.sub j e2)) ht.turn.size
   ·exact e2.2
 ·rcases List.mem_append.1 hq with e | e
  ·exact Nat.lt_of_lt_of_le (h.ql q e) ht.turn.size
  ·rcases hqn q e with e2 | e2
   ·exact Nat.lt_of_lt_of_le (h.ql q e2) ht.turn.size
   ·exact e2.2
theorem InG.keeps {sl sl' : Sr} {A B : World} (h : InG J RL R f M Mj w3 sl A) (ht : StepR fr RL sl sl' A B) (k : Nat) (o : Obj) (hk : k = w3.heap.size ∨ k = w3.heap.size + 1) (ho : A.heap[k]? = some o) : B.heap[k]? = some o := by
 obtain ⟨js, qs, i, h⟩ := h;exact (ht.low h.mde (Array.getElem?_eq_some_iff.1 ho).1 (by omega)).trans ho
theorem InX.step (hX : ∀ s A B, Jx s A → StepRX s A B → Jx s B) {sl : Sr} {A B : World} (h : InX Jx w3 sl A) (ht : StepRX sl A B) : InX Jx w3 sl B := by
 obtain ⟨s, h1, h2, h3, h4, h5, h6⟩ := h;exact ⟨s, h1, h2, h3, h4, h5, hX _ _ _ h6 ⟨h1, ht.2.mono (by rw [h2]; have := (h4 ht.1).1; omega) h3⟩⟩
theorem InX.keeps {sl : Sr} {A B : World} (h : InX Jx w3 sl A) (ht : StepRX sl A B) (k : Nat) (o : Obj) (hk : k = w3.heap.size ∨ k = w3.heap.size + 1) (ho : A.heap[k]? = some o) : B.heap[k]? = some o := by
 obtain ⟨s, h1, h2, h3, h4, h5, h6⟩ := h;obtain ⟨g1, g2⟩ := h4 ht.1;exact (turnLowR ht.2 (Array.getElem?_eq_some_iff.1 ho).1 (by omega) (fun hq => by have := g2 k hq; omega)).trans ho
theorem recsOf {sl : Sr} {W : World} {N : Nat} (hm : sl.made = true → N + 2 ≤ sl.B0 ∧ ∀ q ∈ sl.qs, N + 2 ≤ q) (hj : ∀ j ∈ sl.js, j ≠ N ∧ j ≠ N + 1) (o' : Obj) : KeepR sl W (W.putObj (N + 1) o') :=
 ⟨⟨by simp, fun k hk o ho => (World.putObj_heap_other (by have := (hj k hk).2; omega)).trans ho⟩, fun h k o hk ho _ => (World.putObj_heap_other (by have := (hm h).1; omega)).trans ho⟩
theorem InG.recs {sl : Sr} {W : World} (h : InG J RL R f M Mj w3 sl W) (o' : Obj) : KeepR sl W (W.putObj (w3.heap.size + 1) o') := by
 obtain ⟨js, qs, i, h⟩ := h;exact recsOf h.mde h.lj o'
theorem InG.recs' {sl : Sr} {x : Vs} {W : World} (h : InG J RL R f M Mj w3 (sl.nx x) W) (o' : Obj) : KeepR sl W (W.putObj (w3.heap.size + 1) o') := by
 obtain ⟨js, qs, i, h⟩ := h;exact recsOf (sl := sl) h.mde h.lj o'
theorem InX.recs' {sl : Sr} {x : Vs} {W : World} (h : InX Jx w3 (sl.nx x) W) (o' : Obj) : KeepR sl W (W.putObj (w3.heap.size + 1) o') := by
 obtain ⟨s, h1, h2, h3, h4, h5, h6⟩ := h;exact recsOf (sl := sl) h4 h5 o'
theorem InJ.keepR {sl : Sr} {W W' : World} {js qs : List Nat} {i : Nat} (h : InJ J RL R f M Mj w3 sl W js qs i) {s : Sr} (hs : s.made = true) (hb : s.B0 = w3.heap.size) (hj : ∀ j ∈ js, j ∈ s.js) (k : KeepR s W W') : KeepR sl W W' ∧ KeepsFrom w3.heap.size W W' ∧ KeepB Mj W W' :=
 ⟨⟨⟨k.js.1, fun j hj' o ho => k.js.2 j (hj j (h.sub j hj')) o ho⟩, fun hm j o hj' ho hc => k.recs hs j o (by rw [hb]; have := (h.mde hm).1; omega) ho hc⟩, ⟨k.js.1, fun j o hj' ho hc => k.recs hs j o (by rw [hb]; exact hj') ho hc⟩, ⟨k.js.1, fun j hj' o ho => k.js.2 j (hj j (h.mj j hj')) o ho⟩⟩
end
end Go.Proofs.YtcgkkofmnajedaaGreatDoor
end

section
namespace Go.Proofs.YtcgkkofmnajedaaGreatDoor
open Go.RowKit Go.Hay
attribute [local go_sem] Oper.semAt_some
theorem cAlikeC (a : Option Addr) (c : Nat) (l : List Val) (v : Val) (qo : Nat) (on : Int) (w : World) (ha : Vals w a l) (hl : l.length ≤ 9223372036854775807) (ho : w.cell? ⟨qo, 0, none⟩ = some (.int .i64 on)) :
  Calls Tryz.prog 138 #[.slice a l.length c, .agg #[.int .i64 v.k, .bool v.b, .int .i64 v.n, .string v.t], .pointer (some ⟨qo, 0, none⟩)] w fun e w' => e = .returned (.int .i64 (cmpV (vAt l on) v)) ∧ Kp [] w w' := by
 obtain ⟨vk, vb, vn, vt⟩ := v;dsimp only;obtain ⟨w1, hw1, k1, b1⟩ : ∃ w1, w.alloc (.cells #[.int .i64 vk, .bool vb, .int .i64 vn, .string vt] 88) = w1 ∧ Kp [] w w1 ∧ Bn w1 w.heap.size [.int .i64 vk, .bool vb, .int .i64 vn, .string vt] := ⟨_, rfl, (Kp.refl _ _).alloc _, Bn.new w _ _⟩
 obtain ⟨q4, hq4⟩ : ∃ q, w.heap.size = q := ⟨_, rfl⟩
 rw [hq4] at b1;have hS : Hid (∀ A, Kp [] w1 A → ((A.cell? ⟨qo, 0, none⟩ = some (.int .i64 on)) ∧ A.cell? ⟨q4, 0, none⟩ = some (.int .i64 vk) ∧ A.cell? ⟨q4, 1, none⟩ = some (.bool vb) ∧ A.cell? ⟨q4, 2, none⟩ = some (.int .i64 vn) ∧ A.cell? ⟨q4, 3, none⟩ = some (.string vt))) := fun A k => ⟨kpAt (k1.trans k (by simp)) ho, (b1.kept k).get 0 _ rfl, (b1.kept k).get 1 _ rfl, (b1.kept k).get 2 _ rfl, (b1.kept k).get 3 _ rfl⟩
 have cA : Hid (∀ A, Kp [] w1 A → Calls Tryz.prog 99 #[.slice a l.length c, .int .i64 on] A fun e w' => e = .returned (.agg #[.int .i64 (vAt l on).k, .bool (vAt l on).b, .int .i64 (vAt l on).n, .string (vAt l on).t]) ∧ Kp [] A w') := fun A k => cAtE a c l on A (ha.kept (k1.trans k (by simp))) hl
 obtain ⟨⟨yk, yb, yn, yt⟩, hy⟩ : ∃ y, Hid (vAt l on = y) := ⟨_, rfl⟩
 simp only [hy.out] at cA;rw [hy.out];have cC := hid (fun A => cCompare ⟨yk, yb, yn, yt⟩ ⟨vk, vb, vn, vt⟩ A)
 simp only [Val.v] at cC;have K1 := hid k1
 clear ha ho k1 b1;go_enter Tryz.func138, Tryz.ntmps138
 go_wp2_with fail;refine wp_noPanicY ?_;refine wp_region_held_drew (S := fun A => (A.cell? ⟨qo, 0, none⟩ = some (.int .i64 on)) ∧ A.cell? ⟨q4, 0, none⟩ = some (.int .i64 vk) ∧ A.cell? ⟨q4, 1, none⟩ = some (.bool vb) ∧ A.cell? ⟨q4, 2, none⟩ = some (.int .i64 vn) ∧ A.cell? ⟨q4, 3, none⟩ = some (.string vt)) (by kernel_rfl) ?_ (fun hHeld => ?_)
 ·exact hS.out _ (Kp.refl _ _).drew
 have KD : Hid (Kp [] w1 w1.drew) := hid (Kp.refl _ _).drew
 generalize w1.drew = wd at *
 refine tkH ?_ 0 rfl (by kernel_rfl) (fun _ _ _ h => by cases h.1) (by rfl) ?_ ‹_› ?_;rotate_left
 ·intro w h; (try dsimp only at h); go_simp <;> with_reducible rfl
 (try simp only [Act.put, lz]);refine tkH ?_ 1 rfl (by kernel_rfl) (fun _ _ _ h => by cases h.1) (by rfl) ?_ ‹_› ?_;rotate_left
 ·intro w h; (try dsimp only at h); go_simp <;> with_reducible rfl
 (try simp only [Act.put, lz]);refine tkH ?_ 3 rfl (by kernel_rfl) (fun _ _ _ h => by cases h.1) (by rfl) ?_ ‹_› ?_;rotate_left
 ·intro w h; (try dsimp only at h); go_simp <;> with_reducible rfl
 (try simp only [Act.put, lz]);refine rdH 2 (by kernel_rfl) rfl fun K hK => ?_
 go_simp;refine (cA.out wd KD.out).mono ?_;rintro e we ⟨rfl, ke⟩;(try go_wp2_with fail);refine hK.out _ _ ?_ (fun hHeld => ?_)
 ·exact hS.out we (KD.out.trans ke (by simp))
 clear hK K;(try simp only [Act.put, lz]);refine rdH 4 (by kernel_rfl) rfl fun K hK => ?_
 go_simp;refine (cC.out we).mono ?_;rintro e wf ⟨rfl, kf⟩;(try go_wp2_with fail);refine hK.out _ _ ?_ (fun hHeld => ?_)
 ·exact hS.out wf ((KD.out.trans ke (by simp)).trans kf (by simp))
 clear hK K;(try simp only [Act.put, lz]);refine tkH ?_ 5 rfl (by kernel_rfl) (fun _ _ _ h => by cases h.1) (by rfl) ?_ ‹_› ?_;rotate_left
 ·intro w h; (try dsimp only at h); go_simp <;> with_reducible rfl
 (try simp only [Act.put, lz]);refine wpAnyH_done (by kernel_rfl) ⟨rfl, ?_⟩ _
 have KE := hid (K1.out.trans ((KD.out.trans ke (by simp)).trans kf (by simp)) (by simp))
 clear hHeld ke kf;go_wp2_with fail;go_returns;exact ⟨rfl, KE.out⟩
def cAt (L : List Vs) (on : Int) (v : Val) (i : Nat) : Int := cmpV (vAt (L.getD i default).l on) v
theorem cAt_in {L : List Vs} {on : Int} {v : Val} {i : Nat} (h : i < L.length) : cAt L on v i = cmpV (vAt L[i].l on) v := by unfold cAt; simp [h]
def BinP (L : List Vs) (on : Int) (v : Val) (w : World) (e : Ending) (w' : World) : Prop := ∃ (i : Nat) (f : Bool), e = .returned (.tuple #[.int .i64 (i : Int), .bool f]) ∧ i ≤ L.length ∧ (∀ k, k < i → cAt L on v k < 0) ∧ (∀ k, i ≤ k → k < L.length → 0 ≤ cAt L on v k) ∧ Kp [] w w'
theorem cBinS (ra : Option Addr) (rc : Nat) (L : List Vs) (v : Val) (qo : Nat) (on : Int) (w : World) (hs : VsE.See w ra L) (hx : ∀ x ∈ L, x.lies w) (ho : w.cell? ⟨qo, 0, none⟩ = some (.int .i64 on)) (hl : L.length ≤ 4000000000000) (hm : ∀ i j, i ≤ j → j < L.length → cAt L on v j < 0 → cAt L on v i < 0) :
  Calls Tryz.prog 137 #[.slice ra L.length rc, .agg #[.int .i64 v.k, .bool v.b, .int .i64 v.n, .string v.t], .func (.func 138) #[] #[.pointer (some ⟨qo, 0, none⟩)]] w (BinP L on v w) := by
 obtain ⟨vk, vb, vn, vt⟩ := v;dsimp only;obtain ⟨w1, hw1, k1, b1⟩ : ∃ w1, w.alloc (.cells #[.int .i64 vk, .bool vb, .int .i64 vn, .string vt] 88) = w1 ∧ Kp [] w w1 ∧ Bn w1 w.heap.size [.int .i64 vk, .bool vb, .int .i64 vn, .string vt] := ⟨_, rfl, (Kp.refl _ _).alloc _, Bn.new w _ _⟩
 obtain ⟨q4, hq4⟩ : ∃ q, w.heap.size = q := ⟨_, rfl⟩
 rw [hq4] at b1;have hB : Hid (∀ A, Kp [] w1 A → (A.cell? ⟨q4, 0, none⟩ = some (.int .i64 vk) ∧ A.cell? ⟨q4, 1, none⟩ = some (.bool vb) ∧ A.cell? ⟨q4, 2, none⟩ = some (.int .i64 vn) ∧ A.cell? ⟨q4, 3, none⟩ = some (.string vt))) := fun A k => ⟨(b1.kept k).get 0 _ rfl, (b1.kept k).get 1 _ rfl, (b1.kept k).get 2 _ rfl, (b1.kept k).get 3 _ rfl⟩
 have HS := hid hs
 have HX := hid hx
 have HO := hid ho
 have HM := hid hm
 have K1 := hid k1
 clear hs hx ho hm k1 b1;go_enter Tryz.func137, Tryz.ntmps137
 go_wp2_with fail;go_loopw [9, 10] (fun vi vj wr => ∃ (i j : Nat), vi = .int .i64 (i : Int) ∧ vj = .int .i64 (j : Int) ∧ i ≤ j ∧ j ≤ L.length ∧ Hid (∀ k, k < i → cAt L on ⟨vk, vb, vn, vt⟩ k < 0) ∧ Hid (∀ k, j ≤ k → k < L.length → 0 ≤ cAt L on ⟨vk, vb, vn, vt⟩ k) ∧ Hid (Kp [] w1 wr)) (fun vi vj _ => (intOf vj).toNat - (intOf vi).toNat)
 case atStart => exact ⟨0, L.length, rfl, rfl, Nat.zero_le _, Nat.le_refl _, fun k hk => by omega, fun k h1 h2 => by omega, hid (Kp.refl _ _)⟩
 case round =>
  obtain ⟨i, j, rfl, rfl, hij, hjn, hlo, hhi, hk⟩ := hrel
  by_cases hlt : i < j
  ·obtain ⟨t, ht⟩ : ∃ t : Nat, t = i + j := ⟨_, rfl⟩
   obtain ⟨h, hh0⟩ : ∃ h : Nat, h = t / 2 := ⟨_, rfl⟩
   have et : (i : Int) + (j : Int) = (t : Int) := by omega
   have et1 : (-9223372036854775808 : Int) ≤ (i : Int) + (j : Int) := by omega
   have et2 : (i : Int) + (j : Int) ≤ 9223372036854775807 := by omega
   have et3 : (0 : Int) ≤ (t : Int) := by omega
   have et4 : (t : Int) ≤ 9223372036854775807 := by omega
   have et5 : (t : Int) < 18446744073709551616 := by omega
   have eh : (t : Int) / 2 = (h : Int) := by omega
   have eh2 : (h : Int) ≤ 9223372036854775807 := by omega
   have eu : IntKind.u64.wrap (t : Int) = (t : Int) := by rw [IntKind.wrap_u64]; omega
   have ew : IntKind.i64.wrap (h : Int) = (h : Int) := by rw [IntKind.wrap_i64]; omega
   have ewt : IntKind.i64.wrap (t : Int) = (t : Int) := by rw [IntKind.wrap_i64]; omega
   have hh : h < L.length := by omega
   have hhi2 : i ≤ h ∧ h < j := by omega
   have d1 : (i : Int) < (j : Int) := by omega
   have eh3 : (0 : Int) ≤ (h : Int) := by omega
   have eh4 : (h : Int) < (L.length : Int) := by omega
   have eh5 : (h : Int) + 1 ≤ 9223372036854775807 := by omega
   have eh6 : (-9223372036854775808 : Int) ≤ (h : Int) + 1 := by omega
   have hce : Hid (cAt L on ⟨vk, vb, vn, vt⟩ h = cmpV (vAt L[h].l on) ⟨vk, vb, vn, vt⟩) := cAt_in hh
   have hxj : L[h]? = some L[h] := by simp [hh]
   obtain ⟨g, o, ea, c0⟩ := vsAt HS.out hxj;have hlj := HX.out L[h] (List.getElem_mem hh)
   have hcc := hlj.cap
   have hcm := hlj.most
   unfold maxLen at hcm
   have cC : Hid (∀ A, Kp [] w1 A → Calls Tryz.prog 138 #[.slice L[h].a L[h].l.length L[h].c, .agg #[.int .i64 vk, .bool vb, .int .i64 vn, .string vt], .pointer (some ⟨qo, 0, none⟩)] A fun e w' => e = .returned (.int .i64 (cmpV (vAt L[h].l on) ⟨vk, vb, vn, vt⟩)) ∧ Kp [] A w') := fun A k => cAlikeC _ _ _ ⟨vk, vb, vn, vt⟩ qo on A (hlj.see.kept (K1.out.trans k (by simp))) (by omega) (kpAt (K1.out.trans k (by simp)) HO.out)
   obtain ⟨cc, hcc2⟩ : ∃ z, Hid (cmpV (vAt L[h].l on) ⟨vk, vb, vn, vt⟩ = z) := ⟨cmpV (vAt L[h].l on) ⟨vk, vb, vn, vt⟩, rfl⟩
   simp only [hcc2.out] at cC;obtain ⟨x, hx⟩ : ∃ x, Hid (L[h] = x) := ⟨L[h], rfl⟩
   rw [hx.out] at c0;simp only [hx.out] at cC;have hcl : Hid (∀ A, Kp [] w1 A → A.cell? ⟨g, o + h, none⟩ = some (.slice x.a x.l.length x.c)) := fun A k => kpAt (K1.out.trans k (by simp)) c0
   obtain ⟨xa, xc, xl⟩ := x;dsimp only at hcl cC;subst ea;clear c0 hxj hlj hcc hcm;have hce2 : Hid (cAt L on ⟨vk, vb, vn, vt⟩ h = cc) := by show _ = _; rw [hce.out, hcc2.out]
   clear hh0 ht;go_wp2_with fail;refine wp_noPanicY ?_;refine wp_region_held_drew (S := fun A => (A.cell? ⟨g, o + h, none⟩ = some (.slice xa xl.length xc)) ∧ A.cell? ⟨q4, 0, none⟩ = some (.int .i64 vk) ∧ A.cell? ⟨q4, 1, none⟩ = some (.bool vb) ∧ A.cell? ⟨q4, 2, none⟩ = some (.int .i64 vn) ∧ A.cell? ⟨q4, 3, none⟩ = some (.string vt)) (by kernel_rfl) ?_ (fun hHeld => ?_)
   ·exact ⟨hcl.out _ (hk.out.drew), hB.out _ (hk.out.drew)⟩
   have KD : Hid (Kp [] w1 wr.drew) := hid hk.out.drew
   generalize wr.drew = wd at *
   refine tkH ?_ 0 rfl (by kernel_rfl) (fun _ _ _ h => by cases h.1) (by rfl) ?_ ‹_› ?_;rotate_left
   ·intro w h; (try dsimp only at h); go_simp <;> with_reducible rfl
   (try simp only [Act.put, lz]);refine tkH ?_ 1 rfl (by kernel_rfl) (fun _ _ _ h => by cases h.1) (by rfl) ?_ ‹_› ?_;rotate_left
   ·intro w h; (try dsimp only at h); go_simp <;> with_reducible rfl
   (try simp only [Act.put, lz]);refine tkH ?_ 2 rfl (by kernel_rfl) (fun _ _ _ h => by cases h.1) (by rfl) ?_ ‹_› ?_;rotate_left
   ·intro w h; (try dsimp only at h); go_simp <;> with_reducible rfl
   (try simp only [Act.put, lz]);refine tkH ?_ 3 rfl (by kernel_rfl) (fun _ _ _ h => by cases h.1) (by rfl) ?_ ‹_› ?_;rotate_left
   ·intro w h; (try dsimp only at h); go_simp <;> with_reducible rfl
   (try simp only [Act.put, lz]);refine tkH ?_ 4 rfl (by kernel_rfl) (fun _ _ _ h => by cases h.1) (by rfl) ?_ ‹_› ?_;rotate_left
   ·intro w h; (try dsimp only at h); go_simp <;> with_reducible rfl
   (try simp only [Act.put, lz]);refine tkH ?_ 5 rfl (by kernel_rfl) (fun _ _ _ h => by cases h.1) (by rfl) ?_ ‹_› ?_;rotate_left
   ·intro w h; (try dsimp only at h); go_simp <;> with_reducible rfl
   (try simp only [Act.put, lz]);refine rdH 6 (by kernel_rfl) rfl fun K hK => ?_
   go_simp;refine (cC.out wd KD.out).mono ?_;rintro e we ⟨rfl, ke⟩;(try go_wp2_with fail);refine hK.out _ _ ?_ (fun hHeld => ?_)
   ·exact ⟨hcl.out we (KD.out.trans ke (by simp)), hB.out we (KD.out.trans ke (by simp))⟩
   clear hK K;(try simp only [Act.put, lz]);have KE := hid (KD.out.trans ke (by simp))
   by_cases hneg : cc < 0
   ·have dn : decide (cc < 0) = true := by simpa using hneg
    try simp only [dn]
    refine tkH ?_ 7 rfl (by kernel_rfl) (fun _ _ _ h => by cases h.1) (by rfl) ?_ ‹_› ?_;rotate_left
    ·intro w h; (try dsimp only at h); go_simp <;> with_reducible rfl
    (try simp only [Act.put, lz]);try simp only [dn]
    refine wpAnyH_done (by kernel_rfl) ⟨rfl, ?_⟩ _
    clear hHeld ke cC hcl;go_wp2_with fail;go_roundw
    case rel => exact ⟨h + 1, j, by simp, rfl, by omega, hjn, fun k hk' => HM.out k h (by omega) hh (by rw [hce2.out]; exact hneg), hhi, KE⟩
    case measure => simp [intOf]; omega
   ·have dn : decide (cc < 0) = false := by simpa using hneg
    try simp only [dn]
    refine tkH ?_ 7 rfl (by kernel_rfl) (fun _ _ _ h => by cases h.1) (by rfl) ?_ ‹_› ?_;rotate_left
    ·intro w h; (try dsimp only at h); go_simp <;> with_reducible rfl
    (try simp only [Act.put, lz]);try simp only [dn]
    refine wpAnyH_done (by kernel_rfl) ⟨rfl, ?_⟩ _
    clear hHeld ke cC hcl;go_wp2_with fail;go_roundw
    case rel => exact ⟨i, h, rfl, rfl, by omega, by omega, hlo, fun k h1 h2 => Int.not_lt.1 (fun hlt' => hneg (by have := HM.out h k h1 h2 hlt'; rw [hce2.out] at this; exact this)), KE⟩
    case measure => simp [intOf]; omega
  ·obtain rfl : i = j := by omega
   have d1 : ¬ (i : Int) < (i : Int) := by omega
   have d2 : decide ((i : Int) < (i : Int)) = false := by simp
   by_cases hh : i < L.length
   ·have e1 : (i : Int) < (L.length : Int) := by omega
    have e2 : decide ((i : Int) < (L.length : Int)) = true := by simpa using e1
    have e2n : decide (i < L.length) = true := by simpa using hh
    have e3 : (0 : Int) ≤ (i : Int) := by omega
    have hxj : L[i]? = some L[i] := by simp [hh]
    obtain ⟨g, o, ea, c0⟩ := vsAt HS.out hxj;have hlj := HX.out L[i] (List.getElem_mem hh)
    have hcc := hlj.cap
    have hcm := hlj.most
    unfold maxLen at hcm
    have cC : Hid (∀ A, Kp [] w1 A → Calls Tryz.prog 138 #[.slice L[i].a L[i].l.length L[i].c, .agg #[.int .i64 vk, .bool vb, .int .i64 vn, .string vt], .pointer (some ⟨qo, 0, none⟩)] A fun e w' => e = .returned (.int .i64 (cmpV (vAt L[i].l on) ⟨vk, vb, vn, vt⟩)) ∧ Kp [] A w') := fun A k => cAlikeC _ _ _ ⟨vk, vb, vn, vt⟩ qo on A (hlj.see.kept (K1.out.trans k (by simp))) (by omega) (kpAt (K1.out.trans k (by simp)) HO.out)
    obtain ⟨cc, hcc2⟩ : ∃ z, Hid (cmpV (vAt L[i].l on) ⟨vk, vb, vn, vt⟩ = z) := ⟨cmpV (vAt L[i].l on) ⟨vk, vb, vn, vt⟩, rfl⟩
    simp only [hcc2.out] at cC;obtain ⟨x, hx⟩ : ∃ x, Hid (L[i] = x) := ⟨L[i], rfl⟩
    rw [hx.out] at c0;simp only [hx.out] at cC;have hcl : Hid (∀ A, Kp [] w1 A → A.cell? ⟨g, o + i, none⟩ = some (.slice x.a x.l.length x.c)) := fun A k => kpAt (K1.out.trans k (by simp)) c0
    obtain ⟨xa, xc, xl⟩ := x;dsimp only at hcl cC;subst ea;clear c0 hxj hlj hcc hcm;go_wp2_with fail;refine wp_noPanicY ?_;refine wp_region_held_drew (S := fun A => (A.cell? ⟨g, o + i, none⟩ = some (.slice xa xl.length xc)) ∧ A.cell? ⟨q4, 0, none⟩ = some (.int .i64 vk) ∧ A.cell? ⟨q4, 1, none⟩ = some (.bool vb) ∧ A.cell? ⟨q4, 2, none⟩ = some (.int .i64 vn) ∧ A.cell? ⟨q4, 3, none⟩ = some (.string vt)) (by kernel_rfl) ?_ (fun hHeld => ?_)
    ·exact ⟨hcl.out _ (hk.out.drew), hB.out _ (hk.out.drew)⟩
    have KD : Hid (Kp [] w1 wr.drew) := hid hk.out.drew
    generalize wr.drew = wd at *
    refine tkH ?_ 0 rfl (by kernel_rfl) (fun _ _ _ h => by cases h.1) (by rfl) ?_ ‹_› ?_;rotate_left
    ·intro w h; (try dsimp only at h); go_simp <;> with_reducible rfl
    (try simp only [Act.put, lz]);refine tkH ?_ 1 rfl (by kernel_rfl) (fun _ _ _ h => by cases h.1) (by rfl) ?_ ‹_› ?_;rotate_left
    ·intro w h; (try dsimp only at h); go_simp <;> with_reducible rfl
    (try simp only [Act.put, lz]);refine tkH ?_ 2 rfl (by kernel_rfl) (fun _ _ _ h => by cases h.1) (by rfl) ?_ ‹_› ?_;rotate_left
    ·intro w h; (try dsimp only at h); go_simp <;> with_reducible rfl
    (try simp only [Act.put, lz]);refine tkH ?_ 3 rfl (by kernel_rfl) (fun _ _ _ h => by cases h.1) (by rfl) ?_ ‹_› ?_;rotate_left
    ·intro w h; (try dsimp only at h); go_simp <;> with_reducible rfl
    (try simp only [Act.put, lz]);try simp only [e2, e2n]
    refine tkH ?_ 4 rfl (by kernel_rfl) (fun _ _ _ h => by cases h.1) (by rfl) ?_ ‹_› ?_;rotate_left
    ·intro w h; (try dsimp only at h); go_simp <;> with_reducible rfl
    (try simp only [Act.put, lz]);try simp only [e2, e2n]
    refine tkH ?_ 5 rfl (by kernel_rfl) (fun _ _ _ h => by cases h.1) (by rfl) ?_ ‹_› ?_;rotate_left
    ·intro w h; (try dsimp only at h); go_simp <;> with_reducible rfl
    (try simp only [Act.put, lz]);refine tkH ?_ 6 rfl (by kernel_rfl) (fun _ _ _ h => by cases h.1) (by rfl) ?_ ‹_› ?_;rotate_left
    ·intro w h; (try dsimp only at h); go_simp <;> with_reducible rfl
    (try simp only [Act.put, lz]);refine tkH ?_ 7 rfl (by kernel_rfl) (fun _ _ _ h => by cases h.1) (by rfl) ?_ ‹_› ?_;rotate_left
    ·intro w h; (try dsimp only at h); go_simp <;> with_reducible rfl
    (try simp only [Act.put, lz]);refine tkH ?_ 8 rfl (by kernel_rfl) (fun _ _ _ h => by cases h.1) (by rfl) ?_ ‹_› ?_;rotate_left
    ·intro w h; (try dsimp only at h); go_simp <;> with_reducible rfl
    (try simp only [Act.put, lz]);refine tkH ?_ 9 rfl (by kernel_rfl) (fun _ _ _ h => by cases h.1) (by rfl) ?_ ‹_› ?_;rotate_left
    ·intro w h; (try dsimp only at h); go_simp <;> with_reducible rfl
    (try simp only [Act.put, lz]);refine tkH ?_ 10 rfl (by kernel_rfl) (fun _ _ _ h => by cases h.1) (by rfl) ?_ ‹_› ?_;rotate_left
    ·intro w h; (try dsimp only at h); go_simp <;> with_reducible rfl
    (try simp only [Act.put, lz]);refine rdH 11 (by kernel_rfl) rfl fun K hK => ?_
    go_simp;refine (cC.out wd KD.out).mono ?_;rintro e we ⟨rfl, ke⟩;(try go_wp2_with fail);refine hK.out _ _ ?_ (fun hHeld => ?_)
    ·exact ⟨hcl.out we (KD.out.trans ke (by simp)), hB.out we (KD.out.trans ke (by simp))⟩
    clear hK K;(try simp only [Act.put, lz]);refine tkH ?_ 12 rfl (by kernel_rfl) (fun _ _ _ h => by cases h.1) (by rfl) ?_ ‹_› ?_;rotate_left
    ·intro w h; (try dsimp only at h); go_simp <;> with_reducible rfl
    (try simp only [Act.put, lz]);refine tkH ?_ 13 rfl (by kernel_rfl) (fun _ _ _ h => by cases h.1) (by rfl) ?_ ‹_› ?_;rotate_left
    ·intro w h; (try dsimp only at h); go_simp <;> with_reducible rfl
    (try simp only [Act.put, lz]);refine tkH ?_ 14 rfl (by kernel_rfl) (fun _ _ _ h => by cases h.1) (by rfl) ?_ ‹_› ?_;rotate_left
    ·intro w h; (try dsimp only at h); go_simp <;> with_reducible rfl
    (try simp only [Act.put, lz]);refine tkH ?_ 15 rfl (by kernel_rfl) (fun _ _ _ h => by cases h.1) (by rfl) ?_ ‹_› ?_;rotate_left
    ·intro w h; (try dsimp only at h); go_simp <;> with_reducible rfl
    (try simp only [Act.put, lz]);refine wpAnyH_done (by kernel_rfl) ⟨rfl, ?_⟩ _
    have KE := hid (KD.out.trans ke (by simp))
    clear hHeld ke cC hcl;go_wp2_with fail;refine bodyPost_ret (results_tmp2 rfl _ _ _) rfl ?_;exact ⟨i, _, rfl, hjn, hlo.out, hhi.out, K1.out.trans KE.out (by simp)⟩
   ·have e1 : ¬ (i : Int) < (L.length : Int) := by omega
    have e2 : decide ((i : Int) < (L.length : Int)) = false := by simp; omega
    have e2n : decide (i < L.length) = false := by simp; omega
    go_wp2_with fail;refine wp_noPanicY ?_;refine wp_region_held_drew (S := fun A => True) (by kernel_rfl) trivial (fun hHeld => ?_)
    have KD : Hid (Kp [] w1 wr.drew) := hid hk.out.drew
    generalize wr.drew = wd at *
    refine tkH ?_ 0 rfl (by kernel_rfl) (fun _ _ _ h => by cases h.1) (by rfl) ?_ ‹_› ?_;rotate_left
    ·intro w h; (try dsimp only at h); go_simp <;> with_reducible rfl
    (try simp only [Act.put, lz]);refine tkH ?_ 1 rfl (by kernel_rfl) (fun _ _ _ h => by cases h.1) (by rfl) ?_ ‹_› ?_;rotate_left
    ·intro w h; (try dsimp only at h); go_simp <;> with_reducible rfl
    (try simp only [Act.put, lz]);refine tkH ?_ 2 rfl (by kernel_rfl) (fun _ _ _ h => by cases h.1) (by rfl) ?_ ‹_› ?_;rotate_left
    ·intro w h; (try dsimp only at h); go_simp <;> with_reducible rfl
    (try simp only [Act.put, lz]);refine tkH ?_ 3 rfl (by kernel_rfl) (fun _ _ _ h => by cases h.1) (by rfl) ?_ ‹_› ?_;rotate_left
    ·intro w h; (try dsimp only at h); go_simp <;> with_reducible rfl
    (try simp only [Act.put, lz]);try simp only [e2, e2n]
    refine tkH ?_ 4 rfl (by kernel_rfl) (fun _ _ _ h => by cases h.1) (by rfl) ?_ ‹_› ?_;rotate_left
    ·intro w h; (try dsimp only at h); go_simp <;> with_reducible rfl
    (try simp only [Act.put, lz]);try simp only [e2, e2n]
    refine tkU 5 rfl (by kernel_rfl) (fun _ _ _ h => by cases h.1) (by rfl) ‹_› ?_
    (try simp only [Act.put, lz]);refine tkU 6 rfl (by kernel_rfl) (fun _ _ _ h => by cases h.1) (by rfl) ‹_› ?_
    (try simp only [Act.put, lz]);refine tkU 7 rfl (by kernel_rfl) (fun _ _ _ h => by cases h.1) (by rfl) ‹_› ?_
    (try simp only [Act.put, lz]);refine tkU 8 rfl (by kernel_rfl) (fun _ _ _ h => by cases h.1) (by rfl) ‹_› ?_
    (try simp only [Act.put, lz]);refine tkU 9 rfl (by kernel_rfl) (fun _ _ _ h => by cases h.1) (by rfl) ‹_› ?_
    (try simp only [Act.put, lz]);refine tkU 10 rfl (by kernel_rfl) (fun _ _ _ h => by cases h.1) (by rfl) ‹_› ?_
    (try simp only [Act.put, lz]);refine tkU 11 rfl (by kernel_rfl) (fun _ _ _ h => by cases h.1) (by rfl) ‹_› ?_
    (try simp only [Act.put, lz]);refine tkU 12 rfl (by kernel_rfl) (fun _ _ _ h => by cases h.1) (by rfl) ‹_› ?_
    (try simp only [Act.put, lz]);refine tkH ?_ 13 rfl (by kernel_rfl) (fun _ _ _ h => by cases h.1) (by rfl) ?_ ‹_› ?_;rotate_left
    ·intro w h; (try dsimp only at h); go_simp <;> with_reducible rfl
    (try simp only [Act.put, lz]);refine tkH ?_ 14 rfl (by kernel_rfl) (fun _ _ _ h => by cases h.1) (by rfl) ?_ ‹_› ?_;rotate_left
    ·intro w h; (try dsimp only at h); go_simp <;> with_reducible rfl
    (try simp only [Act.put, lz]);refine tkH ?_ 15 rfl (by kernel_rfl) (fun _ _ _ h => by cases h.1) (by rfl) ?_ ‹_› ?_;rotate_left
    ·intro w h; (try dsimp only at h); go_simp <;> with_reducible rfl
    (try simp only [Act.put, lz]);refine wpAnyH_done (by kernel_rfl) ⟨rfl, ?_⟩ _
    clear hHeld;go_wp2_with fail;refine bodyPost_ret (results_tmp2 rfl _ _ _) rfl ?_;exact ⟨i, _, rfl, hjn, hlo.out, hhi.out, K1.out.trans KD.out (by simp)⟩
theorem seeDropVs {w : World} {a : Option Addr} {L : List Vs} (h : VsE.See w a L) (i : Nat) : VsE.See w (a.map fun x => x.add i) (L.drop i) := by
 rcases h with e | ⟨g, o, e, hc⟩
 ·exact .inl (by rw [e]; simp)
 ·subst e
  refine .inr ⟨g, o + i, by simp [Addr.add], fun j u hu => ?_⟩
  have e1 : VsE.cs (L.drop i) = (VsE.cs L).drop i := by
   have : ∀ (M : List Vs) (n : Nat), VsE.cs (M.drop n) = (VsE.cs M).drop n := fun M => by
    induction M with
    | nil => intro n; simp [El.cs]
    | cons x M ih =>
     intro n
     cases n with
     | zero => rfl
     | succ n =>
      rw [List.drop_succ_cons, ih n];simp [El.cs, VsE]
   exact this L i
  rw [e1, List.getElem?_drop] at hu;have := hc (i + j) u hu
  rw [← Nat.add_assoc] at this;exact this
def AlkP (ra : Option Addr) (L : List Vs) (on : Int) (v : Val) (w : World) (e : Ending) (w' : World) : Prop := ∃ (i m : Nat) (a : Option Addr) (c : Nat), e = .returned (.slice a m c) ∧ i + m ≤ L.length ∧ (∀ k, i ≤ k → k < i + m → cAt L on v k = 0) ∧ (∀ k, k < L.length → cAt L on v k = 0 → i ≤ k ∧ k < i + m) ∧ VsE.See w' a ((L.drop i).take m) ∧ (∀ k ∈ blk a, k ∈ blk ra) ∧ Kp [] w w'
theorem seeTakeVs {w : World} {a : Option Addr} {L : List Vs} (h : VsE.See w a L) (m : Nat) : VsE.See w a (L.take m) := by
 rcases h with e | ⟨g, o, e, hc⟩
 ·exact .inl (by rw [e]; simp)
 ·refine .inr ⟨g, o, e, fun j u hu => hc j u ?_⟩
  have e1 : VsE.cs (L.take m) = (VsE.cs L).take m := by
   have : ∀ (M : List Vs) (n : Nat), VsE.cs (M.take n) = (VsE.cs M).take n := fun M => by
    induction M with
    | nil => intro n; simp [El.cs]
    | cons x M ih =>
     intro n
     cases n with
     | zero => rfl
     | succ n => simp [El.cs, VsE] at ih ⊢; exact ih n
   exact this L m
  rw [e1, List.getElem?_take] at hu;split at hu
  ·exact hu
  ·cases hu
theorem cAlike (ra : Option Addr) (rc : Nat) (L : List Vs) (on : Int) (v : Val) (w : World) (hs : VsE.See w ra L) (hx : ∀ x ∈ L, x.lies w) (hc : L.length ≤ rc) (hrm : rc ≤ maxLen) (hl : L.length ≤ 4000000000000) (hm : ∀ i j, i ≤ j → j < L.length → cAt L on v j < 0 → cAt L on v i < 0) (hm2 : ∀ i j, i ≤ j → j < L.length → cAt L on v j ≤ 0 → cAt L on v i ≤ 0) :
  Calls Tryz.prog 98 #[.slice ra L.length rc, .int .i64 on, .agg #[.int .i64 v.k, .bool v.b, .int .i64 v.n, .string v.t]] w (AlkP ra L on v w) := by
 obtain ⟨vk, vb, vn, vt⟩ := v;dsimp only;obtain ⟨w0, hw0, k0, b0⟩ : ∃ w0, w.alloc (.cells #[.int .i64 on] 3) = w0 ∧ Kp [] w w0 ∧ Bn w0 w.heap.size [.int .i64 on] := ⟨_, rfl, (Kp.refl _ _).alloc _, Bn.new w _ _⟩
 obtain ⟨w1, hw1, k1, b1⟩ : ∃ w1, w0.alloc (.cells #[.int .i64 vk, .bool vb, .int .i64 vn, .string vt] 88) = w1 ∧ Kp [] w0 w1 ∧ Bn w1 w0.heap.size [.int .i64 vk, .bool vb, .int .i64 vn, .string vt] := ⟨_, rfl, (Kp.refl _ _).alloc _, Bn.new w0 _ _⟩
 obtain ⟨q4, hq4⟩ : ∃ q, w.heap.size = q := ⟨_, rfl⟩
 obtain ⟨q5, hq5⟩ : ∃ q, w0.heap.size = q := ⟨_, rfl⟩
 rw [hq4] at b0;rw [hq5] at b1;have b01 := b0.kept k1
 have hB : Hid (∀ A, Kp [] w1 A → (A.cell? ⟨q4, 0, none⟩ = some (.int .i64 on) ∧ A.cell? ⟨q5, 0, none⟩ = some (.int .i64 vk) ∧ A.cell? ⟨q5, 1, none⟩ = some (.bool vb) ∧ A.cell? ⟨q5, 2, none⟩ = some (.int .i64 vn) ∧ A.cell? ⟨q5, 3, none⟩ = some (.string vt))) := fun A k => ⟨(b01.kept k).get 0 _ rfl, (b1.kept k).get 0 _ rfl, (b1.kept k).get 1 _ rfl, (b1.kept k).get 2 _ rfl, (b1.kept k).get 3 _ rfl⟩
 have K1 := hid (k0.trans k1 (by simp))
 have HS := hid (hs.keptNew K1.out)
 have HX := hid hx
 have HM := hid hm
 have HM2 := hid hm2
 have cB := hid (cBinS ra rc L ⟨vk, vb, vn, vt⟩ q4 on w1 HS.out (fun x h => (hx x h).ck (CK.ofKp K1.out) (by simp)) (hB.out w1 (Kp.refl _ _)).1 hl hm)
 obtain ⟨y0, y1, y2, y3, y4⟩ := hB.out w1 (Kp.refl _ _);unfold maxLen at hrm
 clear hs hx hm hm2 k0 k1 b0 b1 b01;go_enter Tryz.func98, Tryz.ntmps98
 go_wp2_with fail;refine cB.out.mono ?_;rintro e w2 ⟨i, f, rfl, hi, hlo, hhi, k2⟩;have HLO := hid hlo
 have HHI := hid hhi
 have K2 := hid k2
 have i1 : (0 : Int) ≤ (i : Int) := by omega
 have i2 : (i : Int) ≤ (L.length : Int) := by omega
 have i3 : (i : Int) ≤ (rc : Int) := by omega
 clear cB hlo hhi k2 y0 y1 y2 y3 y4;go_wp2_with fail
 case inl h =>
  have hd0 : L.drop i = [] := List.drop_eq_nil_of_le (by omega)
  have HD : Hid (VsE.See w2 ra (L.drop i)) := .inl hd0
  have HBk : Hid (∀ k ∈ blk ra, k ∈ blk ra) := fun k hk => hk
  have hnc : L.length - i ≤ 0 := by omega
  clear hd0;obtain ⟨C1, hC1⟩ : ∃ C : Nat, Hid (0 = C) := ⟨_, rfl⟩
  have hC2 : L.length - i ≤ C1 := by omega
  generalize hn : L.length - i = n at *
  have hnl : (L.drop i).length = n := by rw [List.length_drop]; exact hn
  have hin : Hid (i + n = L.length) := by show _ = _; omega
  have hnH := hid hn
  clear hn;go_loopw [23] (fun vi wr => ∃ m : Nat, vi = .int .i64 (m : Int) ∧ m ≤ n ∧ Hid (∀ k, k < m → cAt L on ⟨vk, vb, vn, vt⟩ (i + k) = 0) ∧ Hid (Kp [] w2 wr)) (fun vi _ => n - (intOf vi).toNat)
  case atStart => exact ⟨0, rfl, Nat.zero_le _, fun k hk => by omega, hid (Kp.refl _ _)⟩
  case round =>
   obtain ⟨m, rfl, hmn, hz, hk⟩ := hrel;have kwr := hid (K2.out.trans hk.out (by simp))
   by_cases hlt : m < n
   ·have hil : i + m < L.length := by have := hin.out; omega
    have hxj : (L.drop i)[m]? = some L[i + m] := by rw [List.getElem?_drop]; simp [hil]
    obtain ⟨g, o, ea, c0⟩ := vsAt HD.out hxj;have hlj := HX.out L[i + m] (List.getElem_mem hil)
    have hcc := hlj.cap
    have hcm := hlj.most
    unfold maxLen at hcm
    have hce : Hid (cAt L on ⟨vk, vb, vn, vt⟩ (i + m) = cmpV (vAt L[i + m].l on) ⟨vk, vb, vn, vt⟩) := cAt_in hil
    have cA : Hid (∀ A, Kp [] w1 A → Calls Tryz.prog 99 #[.slice L[i + m].a L[i + m].l.length L[i + m].c, .int .i64 on] A fun e w' => e = .returned (.agg #[.int .i64 (vAt L[i + m].l on).k, .bool (vAt L[i + m].l on).b, .int .i64 (vAt L[i + m].l on).n, .string (vAt L[i + m].l on).t]) ∧ Kp [] A w') := fun A k => cAtE _ _ _ on A (hlj.see.kept (K1.out.trans k (by simp))) (by omega)
    obtain ⟨x, hx⟩ : ∃ x, Hid (L[i + m] = x) := ⟨L[i + m], rfl⟩
    rw [hx.out] at c0 hce;simp only [hx.out] at cA;obtain ⟨xa, xc, xl⟩ := x;dsimp only at c0 hce cA;obtain ⟨⟨zk, zb, zn, zt⟩, hzv⟩ : ∃ z, Hid (vAt xl on = z) := ⟨vAt xl on, rfl⟩
    rw [hzv.out] at hce;simp only [hzv.out] at cA;have cC := hid (fun A => cCompare ⟨zk, zb, zn, zt⟩ ⟨vk, vb, vn, vt⟩ A)
    simp only [Val.v] at cC;obtain ⟨cc, hcv⟩ : ∃ z, Hid (cmpV ⟨zk, zb, zn, zt⟩ ⟨vk, vb, vn, vt⟩ = z) := ⟨cmpV ⟨zk, zb, zn, zt⟩ ⟨vk, vb, vn, vt⟩, rfl⟩
    rw [hcv.out] at hce;simp only [hcv.out] at cC;have cg := kpAt hk.out c0
    have d1 : (m : Int) < (n : Int) := by omega
    have d2 : (0 : Int) ≤ (m : Int) := by omega
    have d3 : (m : Int) + 1 ≤ 9223372036854775807 := by omega
    have d4 : (-9223372036854775808 : Int) ≤ (m : Int) + 1 := by omega
    have d5 : (m : Int) ≤ (0 : Int) := by omega
    clear c0 hxj hlj hcc hcm;subst ea;go_wp2_with fail;refine wp_noPanicY ?_;refine wp_region_held_drew (S := fun A => A.cell? ⟨q4, 0, none⟩ = some (.int .i64 on) ∧ A.cell? ⟨q5, 0, none⟩ = some (.int .i64 vk) ∧ A.cell? ⟨q5, 1, none⟩ = some (.bool vb) ∧ A.cell? ⟨q5, 2, none⟩ = some (.int .i64 vn) ∧ A.cell? ⟨q5, 3, none⟩ = some (.string vt)) (by kernel_rfl) ?_ (fun hHeld => ?_)
    ·exact hB.out _ kwr.out.drew
    have KD : Hid (Kp [] w1 wr.drew) := hid kwr.out.drew
    have KD2 : Hid (Kp [] w2 wr.drew) := hid hk.out.drew
    generalize wr.drew = wd at *
    refine tkH ?_ 0 rfl (by kernel_rfl) (fun _ _ _ h => by cases h.1) (by rfl) ?_ ‹_› ?_;rotate_left
    ·intro w h; (try dsimp only at h); go_simp <;> with_reducible rfl
    (try simp only [Act.put, lz]);refine tkH ?_ 1 rfl (by kernel_rfl) (fun _ _ _ h => by cases h.1) (by rfl) ?_ ‹_› ?_;rotate_left
    ·intro w h; (try dsimp only at h); go_simp <;> with_reducible rfl
    (try simp only [Act.put, lz]);refine tkH ?_ 3 rfl (by kernel_rfl) (fun _ _ _ h => by cases h.1) (by rfl) ?_ ‹_› ?_;rotate_left
    ·intro w h; (try dsimp only at h); go_simp <;> with_reducible rfl
    (try simp only [Act.put, lz]);refine rdH 2 (by kernel_rfl) rfl fun K hK => ?_
    go_simp;refine (cA.out wd KD.out).mono ?_;rintro e we ⟨rfl, ke⟩;(try go_wp2_with fail);refine hK.out _ _ ?_ (fun hHeld => ?_)
    ·exact hB.out we (KD.out.trans ke (by simp))
    clear hK K;(try simp only [Act.put, lz]);refine rdH 4 (by kernel_rfl) rfl fun K hK => ?_
    go_simp;refine (cC.out we).mono ?_;rintro e wf ⟨rfl, kf⟩;(try go_wp2_with fail);refine hK.out _ _ ?_ (fun hHeld => ?_)
    ·exact hB.out wf ((KD.out.trans ke (by simp)).trans kf (by simp))
    clear hK K;(try simp only [Act.put, lz]);have KE := hid ((KD2.out.trans ke (by simp)).trans kf (by simp))
    by_cases hc0 : cc = 0
    ·have dn : (cc != 0) = false := by simpa using hc0
     have hc0' := hid hc0
     clear hc0;try simp only [dn]
     refine tkH ?_ 5 rfl (by kernel_rfl) (fun _ _ _ h => by cases h.1) (by rfl) ?_ ‹_› ?_;rotate_left
     ·intro w h; (try dsimp only at h); go_simp <;> with_reducible rfl
     (try simp only [Act.put, lz]);try simp only [dn]
     refine wpAnyH_done (by kernel_rfl) ⟨rfl, ?_⟩ _
     clear hHeld ke kf cA cC;go_wp2_with fail;go_roundw
     case rel => exact ⟨m + 1, by simp, by omega, fun k hk' => by
      by_cases e : k = m
      ·rw [e, hce.out, hc0'.out]
      ·exact hz.out k (by omega), KE⟩
     case measure => simp [intOf]; omega
    ·have dn : (cc != 0) = true := by simpa using hc0
     have hc0' := hid hc0
     clear hc0;try simp only [dn]
     refine tkH ?_ 5 rfl (by kernel_rfl) (fun _ _ _ h => by cases h.1) (by rfl) ?_ ‹_› ?_;rotate_left
     ·intro w h; (try dsimp only at h); go_simp <;> with_reducible rfl
     (try simp only [Act.put, lz]);try simp only [dn]
     refine wpAnyH_done (by kernel_rfl) ⟨rfl, ?_⟩ _
     clear hHeld ke kf cA cC;go_wp2_with fail;go_ret;refine ⟨i, m, _, _, rfl, by omega, fun k h1 h2 => by have := hz.out (k - i) (by omega); rw [show i + (k - i) = k by omega] at this; exact this, fun k h1 h2 => ?_, ?_, HBk.out, K1.out.trans (K2.out.trans KE.out (by simp)) (by simp)⟩
     ·have ha : i ≤ k := Nat.le_of_not_lt (fun h => by have := HLO.out k h; omega)
      refine ⟨ha, Nat.lt_of_not_le (fun h => ?_)⟩
      have h3 := HM2.out (i + m) k h h1 (by omega)
      have h4 := HHI.out (i + m) (by omega) hil
      rw [hce.out] at h3 h4;exact hc0'.out (by omega)
     ·exact seeTakeVs (HD.out.keptNew KE.out) m
   ·obtain rfl : m = n := by omega
    have dj1 : ¬ (m : Int) < (m : Int) := by omega
    have dj2 : decide ((m : Int) < (m : Int)) = false := by simp
    go_wp2_with fail;go_ret;refine ⟨i, m, _, _, rfl, by have := hin.out; omega, fun k h1 h2 => by have := hz.out (k - i) (by omega); rw [show i + (k - i) = k by omega] at this; exact this, fun k h1 h2 => ?_, ?_, HBk.out, K1.out.trans (K2.out.trans hk.out (by simp)) (by simp)⟩
    ·have ha : i ≤ k := Nat.le_of_not_lt (fun h => by have := HLO.out k h; omega)
     exact ⟨ha, by have := hin.out; omega⟩
    ·exact seeTakeVs (HD.out.keptNew hk.out) m
 case inr h =>
  have HD : Hid (VsE.See w2 (ra.map fun x => x.add i) (L.drop i)) := seeDropVs (HS.out.keptNew K2.out) i
  have HBk : Hid (∀ k ∈ blk (ra.map fun x => x.add i), k ∈ blk ra) := fun k hk => by rw [blk_tail] at hk; exact hk
  have hnc : L.length - i ≤ rc - i := by omega
  generalize Option.map (fun x => x.add i) ra = A1 at *
  generalize hC1 : rc - i = C1 at *
  generalize hn : L.length - i = n at *
  have hnl : (L.drop i).length = n := by rw [List.length_drop]; exact hn
  have hin : Hid (i + n = L.length) := by show _ = _; omega
  have hnH := hid hn
  clear hn;go_loopw [23] (fun vi wr => ∃ m : Nat, vi = .int .i64 (m : Int) ∧ m ≤ n ∧ Hid (∀ k, k < m → cAt L on ⟨vk, vb, vn, vt⟩ (i + k) = 0) ∧ Hid (Kp [] w2 wr)) (fun vi _ => n - (intOf vi).toNat)
  case atStart => exact ⟨0, rfl, Nat.zero_le _, fun k hk => by omega, hid (Kp.refl _ _)⟩
  case round =>
   obtain ⟨m, rfl, hmn, hz, hk⟩ := hrel;have kwr := hid (K2.out.trans hk.out (by simp))
   by_cases hlt : m < n
   ·have hil : i + m < L.length := by have := hin.out; omega
    have hxj : (L.drop i)[m]? = some L[i + m] := by rw [List.getElem?_drop]; simp [hil]
    obtain ⟨g, o, ea, c0⟩ := vsAt HD.out hxj;have hlj := HX.out L[i + m] (List.getElem_mem hil)
    have hcc := hlj.cap
    have hcm := hlj.most
    unfold maxLen at hcm
    have hce : Hid (cAt L on ⟨vk, vb, vn, vt⟩ (i + m) = cmpV (vAt L[i + m].l on) ⟨vk, vb, vn, vt⟩) := cAt_in hil
    have cA : Hid (∀ A, Kp [] w1 A → Calls Tryz.prog 99 #[.slice L[i + m].a L[i + m].l.length L[i + m].c, .int .i64 on] A fun e w' => e = .returned (.agg #[.int .i64 (vAt L[i + m].l on).k, .bool (vAt L[i + m].l on).b, .int .i64 (vAt L[i + m].l on).n, .string (vAt L[i + m].l on).t]) ∧ Kp [] A w') := fun A k => cAtE _ _ _ on A (hlj.see.kept (K1.out.trans k (by simp))) (by omega)
    obtain ⟨x, hx⟩ : ∃ x, Hid (L[i + m] = x) := ⟨L[i + m], rfl⟩
    rw [hx.out] at c0 hce;simp only [hx.out] at cA;obtain ⟨xa, xc, xl⟩ := x;dsimp only at c0 hce cA;obtain ⟨⟨zk, zb, zn, zt⟩, hzv⟩ : ∃ z, Hid (vAt xl on = z) := ⟨vAt xl on, rfl⟩
    rw [hzv.out] at hce;simp only [hzv.out] at cA;have cC := hid (fun A => cCompare ⟨zk, zb, zn, zt⟩ ⟨vk, vb, vn, vt⟩ A)
    simp only [Val.v] at cC;obtain ⟨cc, hcv⟩ : ∃ z, Hid (cmpV ⟨zk, zb, zn, zt⟩ ⟨vk, vb, vn, vt⟩ = z) := ⟨cmpV ⟨zk, zb, zn, zt⟩ ⟨vk, vb, vn, vt⟩, rfl⟩
    rw [hcv.out] at hce;simp only [hcv.out] at cC;have cg := kpAt hk.out c0
    have d1 : (m : Int) < (n : Int) := by omega
    have d2 : (0 : Int) ≤ (m : Int) := by omega
    have d3 : (m : Int) + 1 ≤ 9223372036854775807 := by omega
    have d4 : (-9223372036854775808 : Int) ≤ (m : Int) + 1 := by omega
    have d5 : (m : Int) ≤ (C1 : Int) := by omega
    clear c0 hxj hlj hcc hcm;subst ea;go_wp2_with fail;refine wp_noPanicY ?_;refine wp_region_held_drew (S := fun A => A.cell? ⟨q4, 0, none⟩ = some (.int .i64 on) ∧ A.cell? ⟨q5, 0, none⟩ = some (.int .i64 vk) ∧ A.cell? ⟨q5, 1, none⟩ = some (.bool vb) ∧ A.cell? ⟨q5, 2, none⟩ = some (.int .i64 vn) ∧ A.cell? ⟨q5, 3, none⟩ = some (.string vt)) (by kernel_rfl) ?_ (fun hHeld => ?_)
    ·exact hB.out _ kwr.out.drew
    have KD : Hid (Kp [] w1 wr.drew) := hid kwr.out.drew
    have KD2 : Hid (Kp [] w2 wr.drew) := hid hk.out.drew
    generalize wr.drew = wd at *
    refine tkH ?_ 0 rfl (by kernel_rfl) (fun _ _ _ h => by cases h.1) (by rfl) ?_ ‹_› ?_;rotate_left
    ·intro w h; (try dsimp only at h); go_simp <;> with_reducible rfl
    (try simp only [Act.put, lz]);refine tkH ?_ 1 rfl (by kernel_rfl) (fun _ _ _ h => by cases h.1) (by rfl) ?_ ‹_› ?_;rotate_left
    ·intro w h; (try dsimp only at h); go_simp <;> with_reducible rfl
    (try simp only [Act.put, lz]);refine tkH ?_ 3 rfl (by kernel_rfl) (fun _ _ _ h => by cases h.1) (by rfl) ?_ ‹_› ?_;rotate_left
    ·intro w h; (try dsimp only at h); go_simp <;> with_reducible rfl
    (try simp only [Act.put, lz]);refine rdH 2 (by kernel_rfl) rfl fun K hK => ?_
    go_simp;refine (cA.out wd KD.out).mono ?_;rintro e we ⟨rfl, ke⟩;(try go_wp2_with fail);refine hK.out _ _ ?_ (fun hHeld => ?_)
    ·exact hB.out we (KD.out.trans ke (by simp))
    clear hK K;(try simp only [Act.put, lz]);refine rdH 4 (by kernel_rfl) rfl fun K hK => ?_
    go_simp;refine (cC.out we).mono ?_;rintro e wf ⟨rfl, kf⟩;(try go_wp2_with fail);refine hK.out _ _ ?_ (fun hHeld => ?_)
    ·exact hB.out wf ((KD.out.trans ke (by simp)).trans kf (by simp))
    clear hK K;(try simp only [Act.put, lz]);have KE := hid ((KD2.out.trans ke (by simp)).trans kf (by simp))
    by_cases hc0 : cc = 0
    ·have dn : (cc != 0) = false := by simpa using hc0
     have hc0' := hid hc0
     clear hc0;try simp only [dn]
     refine tkH ?_ 5 rfl (by kernel_rfl) (fun _ _ _ h => by cases h.1) (by rfl) ?_ ‹_› ?_;rotate_left
     ·intro w h; (try dsimp only at h); go_simp <;> with_reducible rfl
     (try simp only [Act.put, lz]);try simp only [dn]
     refine wpAnyH_done (by kernel_rfl) ⟨rfl, ?_⟩ _
     clear hHeld ke kf cA cC;go_wp2_with fail;go_roundw
     case rel => exact ⟨m + 1, by simp, by omega, fun k hk' => by
      by_cases e : k = m
      ·rw [e, hce.out, hc0'.out]
      ·exact hz.out k (by omega), KE⟩
     case measure => simp [intOf]; omega
    ·have dn : (cc != 0) = true := by simpa using hc0
     have hc0' := hid hc0
     clear hc0;try simp only [dn]
     refine tkH ?_ 5 rfl (by kernel_rfl) (fun _ _ _ h => by cases h.1) (by rfl) ?_ ‹_› ?_;rotate_left
     ·intro w h; (try dsimp only at h); go_simp <;> with_reducible rfl
     (try simp only [Act.put, lz]);try simp only [dn]
     refine wpAnyH_done (by kernel_rfl) ⟨rfl, ?_⟩ _
     clear hHeld ke kf cA cC;go_wp2_with fail;go_ret;refine ⟨i, m, _, _, rfl, by omega, fun k h1 h2 => by have := hz.out (k - i) (by omega); rw [show i + (k - i) = k by omega] at this; exact this, fun k h1 h2 => ?_, ?_, HBk.out, K1.out.trans (K2.out.trans KE.out (by simp)) (by simp)⟩
     ·have ha : i ≤ k := Nat.le_of_not_lt (fun h => by have := HLO.out k h; omega)
      refine ⟨ha, Nat.lt_of_not_le (fun h => ?_)⟩
      have h3 := HM2.out (i + m) k h h1 (by omega)
      have h4 := HHI.out (i + m) (by omega) hil
      rw [hce.out] at h3 h4;exact hc0'.out (by omega)
     ·exact seeTakeVs (HD.out.keptNew KE.out) m
   ·obtain rfl : m = n := by omega
    have dj1 : ¬ (m : Int) < (m : Int) := by omega
    have dj2 : decide ((m : Int) < (m : Int)) = false := by simp
    go_wp2_with fail;go_ret;refine ⟨i, m, _, _, rfl, by have := hin.out; omega, fun k h1 h2 => by have := hz.out (k - i) (by omega); rw [show i + (k - i) = k by omega] at this; exact this, fun k h1 h2 => ?_, ?_, HBk.out, K1.out.trans (K2.out.trans hk.out (by simp)) (by simp)⟩
    ·have ha : i ≤ k := Nat.le_of_not_lt (fun h => by have := HLO.out k h; omega)
     exact ⟨ha, by have := hin.out; omega⟩
    ·exact seeTakeVs (HD.out.keptNew hk.out) m
def NewE (w : World) (e : Ending) (w' : World) : Prop := ∃ a c, e = .returned (.slice a 0 c) ∧ VE.Row w' (.slice a 0 c) [] ∧ Kp [] w w' ∧ ∀ k ∈ blk a, w.heap.size ≤ k
theorem cGrowE (n : Nat) (w : World) (hn : n ≤ 3600000000000) : Calls Tryz.prog 131 #[.slice none 0 0, .int .i64 (n : Int)] w (NewE w) := by
 rcases Nat.eq_zero_or_pos n with h0 | h0
 ·subst h0
  go_enter Tryz.func131, Tryz.ntmps131
  go_wp2_with fail;go_ret;exact ⟨none, 0, rfl, .inl ⟨rfl, rfl⟩, Kp.refl _ _, by simp [blk]⟩
 ·obtain ⟨i0, hi, hz0, hz1, hz2⟩ := infoVal
  have hrun := Lib.run_append_nil_zeros (P := Tryz.prog) w 61 3 61 88 i0 _ .i64 .i64 Tryz.underlying61 Tryz.underlying3 hi hz0 n h0 (by omega) (by omega) (by rw [hz2]; omega)
  have hge := grownCap_ge w n 0 88
  have hcm := grownCap_le_maxLen w n 0 88 (by unfold maxLen; omega)
  obtain ⟨C, hC⟩ : ∃ C, grownCap w n 0 88 = C := ⟨_, rfl⟩
  rw [hC] at hrun hge hcm;obtain ⟨W, hW⟩ : ∃ W, w.drew.alloc (.cells (Builtin.zeroCells (Value.agg #[.int .i64 0, .bool false, .int .i64 0, .string ⟨#[]⟩]).cells n ++ Builtin.zeroCells (Value.agg #[.int .i64 0, .bool false, .int .i64 0, .string ⟨#[]⟩]).cells (C - n)) 88) = W := ⟨_, rfl⟩
  rw [hW] at hrun
  have hrow : VE.Row W (.slice (some ⟨w.heap.size, 0, none⟩) 0 C) [] := by
   refine .inr ⟨w.heap.size, 0, C, rfl, Nat.zero_le _, hcm, by rw [← hW]; simp, fun j u hu => by simp [El.cs] at hu, fun j hj => ?_⟩
   rw [← hW];refine ⟨?_, World.frozen?_alloc_new w.drew _ _ (0 + j)⟩;have e1 := World.cell?_alloc_new w.drew (Builtin.zeroCells (Value.agg #[.int .i64 0, .bool false, .int .i64 0, .string ⟨#[]⟩]).cells n ++ Builtin.zeroCells (Value.agg #[.int .i64 0, .bool false, .int .i64 0, .string ⟨#[]⟩]).cells (C - n)) 88 (0 + j)
   refine (congrArg Option.isSome e1).trans ?_
   rw [Nat.zero_add, Array.getElem?_eq_getElem (by
    rw [Array.size_append, size_zeroCells, size_zeroCells];have e4 : (Value.agg #[.int .i64 0, .bool false, .int .i64 0, .string ⟨#[]⟩]).cells.size = 4 := rfl
    have e5 : VE.n = 4 := rfl
    rw [e4];rw [e5] at hj;omega)]
   rfl
  have kW : Kp [] w W := by rw [← hW]; exact (Kp.refl _ w).drew.alloc _
  have hCb : C ≤ 9223372036854775807 := by unfold maxLen at hcm; omega
  have d1 : decide ((n : Int) < 0) = false := by simp
  have d2 : (0 : Int) < (n : Int) := by omega
  have d3 : decide ((0 : Int) < (n : Int)) = true := by simp; omega
  have HW := hid (And.intro hrow kW)
  obtain ⟨q, hq⟩ : ∃ q, w.heap.size = q := ⟨_, rfl⟩
  rw [hq] at hrun HW;have hq' := hid hq
  clear hrow kW hW hcm hge hC hi hz0 hz1 hz2 h0 hq;go_enter Tryz.func131, Tryz.ntmps131
  go_wp2_with (first | (refine wpAppRunY rfl _ _ 61 3 rfl _ _ _ rfl rfl hrun ?_) | fail)
  go_ret;exact ⟨_, _, rfl, HW.out.1, HW.out.2, fun k hk => by simp [blk] at hk; rw [hk, hq'.out]; exact Nat.le_refl _⟩
def sumL (L : List Vs) : Nat := (L.map fun x => x.l.length).sum
theorem sumL_take {L : List Vs} {j : Nat} (h : j < L.length) : sumL (L.take (j + 1)) = sumL (L.take j) + L[j].l.length := by
 unfold sumL
 rw [List.take_succ_eq_append_getElem h, List.map_append, List.sum_append_nat];simp
theorem sumL_le (L : List Vs) (j : Nat) : sumL (L.take j) ≤ sumL L := by
 have e : sumL L = sumL (L.take j) + sumL (L.drop j) := by
  unfold sumL
  conv => lhs; rw [← List.take_append_drop j L, List.map_append, List.sum_append_nat]
 omega
def catL (L : List Vs) : List Val := L.flatMap (·.l)
theorem catL_take {L : List Vs} {j : Nat} (h : j < L.length) : catL (L.take (j + 1)) = catL (L.take j) ++ L[j].l := by
 unfold catL
 rw [List.take_succ_eq_append_getElem h, List.flatMap_append];simp
theorem catL_len (L : List Vs) : (catL L).length = sumL L := by unfold catL sumL; rw [List.length_flatMap]
theorem appVY {W : World} {a : Option Addr} {c : Nat} {l : List Val} (h : VE.Row W (.slice a l.length c) l) (a2 : Option Addr) (c2 : Nat) (ys : List Val) (hs : Vals W a2 ys) (hl : l.length + ys.length ≤ 3600000000000) :
  ∃ a' c' W', (Builtin.append_ #[61, 61] 61 #[.slice a l.length c, .slice a2 ys.length c2]).run Tryz.prog W = .ok (.slice a' (l ++ ys).length c') W' ∧ VE.Row W' (.slice a' (l ++ ys).length c') (l ++ ys) ∧ Kp (blk a) W W' ∧ ∀ k ∈ blk a', k ∈ blk a ∨ W.heap.size ≤ k := by
 obtain ⟨i0, hi, hz0, hz1, hz2⟩ := infoVal;have hsrc := (seeV.2 hs).src (P := Tryz.prog) Tryz.underlying61 c2
 obtain ⟨v6, X4, hrun2, hrow6, kk6, hn6⟩ := run_appendG (E := VE) (P := Tryz.prog) _ 61 61 61 88 i0 _ 40 Tryz.underlying61 hi hz0 hz1 hz2 rfl (.slice a l.length c) l h _ ys hsrc (by omega) (by omega)
 obtain ⟨a6, c6, rfl, _⟩ := hrow6.see;rw [ownV] at kk6;simp only [ownV] at hn6;exact ⟨a6, c6, X4, hrun2, hrow6, kk6, hn6⟩
theorem cConcat (sa : Option Addr) (sc : Nat) (L : List Vs) (w : World) (hs : VsE.See w sa L) (hx : ∀ x ∈ L, x.lies w) (hl : L.length ≤ 4000000000000) (hsum : sumL L ≤ 3600000000000) :
  Calls Tryz.prog 84 #[.slice sa L.length sc] w (NewR (catL L) w) := by
 have HS := hid hs
 have HX := hid hx
 have hrow : Hid (∀ (j : Nat) (hj : j < L.length), ∃ g o, sa = some ⟨g, o, none⟩ ∧ w.cell? ⟨g, o + j, none⟩ = some (.slice L[j].a L[j].l.length L[j].c)) := fun j hj => vsAt HS.out (by simp [hj])
 have hsl := hid (fun j => sumL_le L j)
 clear hs hx;go_enter Tryz.func84, Tryz.ntmps84
 go_wp2_with fail;go_loopw [3, 11] (fun v3 i wr => ∃ (j N : Nat), j ≤ L.length ∧ i = .int .i64 (j : Int) ∧ v3 = .int .i64 (N : Int) ∧ Hid (N = sumL (L.take j)) ∧ w = wr) (fun _ i _ => L.length - (intOf i).toNat)
 case atStart => exact ⟨0, 0, Nat.zero_le _, rfl, rfl, rfl, rfl⟩
 case round =>
  obtain ⟨j, N, hj, rfl, rfl, hN, rfl⟩ := hrel
  by_cases hlt : j < L.length
  ·obtain ⟨g, o, ea, c0⟩ := hrow.out j hlt
   have hst := hid (sumL_take hlt)
   have hs1 := hsl.out (j + 1)
   rw [hst.out, ← hN.out] at hs1;obtain ⟨x, hx⟩ : ∃ x, Hid (L[j] = x) := ⟨L[j], rfl⟩
   rw [hx.out] at c0 hs1 hst;obtain ⟨xa, xc, xl⟩ := x;dsimp only at c0 hs1 hst;subst ea;obtain ⟨M, hM⟩ : ∃ M : Nat, N + xl.length = M := ⟨_, rfl⟩
   have eM : (N : Int) + (xl.length : Int) = (M : Int) := by omega
   have i1 : (0 : Int) ≤ (j : Int) := by omega
   have i2 : (j : Int) < (L.length : Int) := by omega
   have i3 : (j : Int) + 1 ≤ 9223372036854775807 := by omega
   have i4 : (-9223372036854775808 : Int) ≤ (N : Int) + (xl.length : Int) := by omega
   have i5 : (N : Int) + (xl.length : Int) ≤ 9223372036854775807 := by omega
   have i6 : decide ((M : Int) < 0) = false := by simp
   have hM' : Hid (M = sumL (L.take (j + 1))) := by show _ = _; rw [hst.out, ← hN.out, hM]
   clear hM hst;go_wp2_with fail;go_roundw
   case rel => exact ⟨j + 1, M, by omega, by go_num, by simp [eM, IntKind.wrap_i64], hM', by simp⟩
   case measure => simp [intOf]; omega
  ·obtain rfl : j = L.length := by omega
   have dj1 : ¬ (L.length : Int) < (L.length : Int) := by omega
   have dj2 : decide ((L.length : Int) < (L.length : Int)) = false := by simp
   have hNs : N ≤ 3600000000000 := by rw [hN.out, List.take_length]; exact hsum
   have cG := hid (cGrowE N w hNs)
   go_wp2_with fail;refine cG.out.mono ?_;rintro e w2 ⟨ga, gc, rfl, hgr, k2, hgb⟩;have HG := hid (And.intro hgr (And.intro k2 hgb))
   clear cG hgr k2 hgb;go_wp2_with fail;go_loopw [6, 27] (fun v6 i wn => ∃ (j : Nat) (a : Option Addr) (c : Nat) (l : List Val), j ≤ L.length ∧ i = .int .i64 (j : Int) ∧ v6 = .slice a l.length c ∧ Hid (l = catL (L.take j)) ∧ Hid (VE.Row wn (.slice a l.length c) l ∧ Kp [] w wn ∧ ∀ k ∈ blk a, w.heap.size ≤ k)) (fun _ i _ => L.length - (intOf i).toNat)
   case atStart => exact ⟨0, ga, gc, [], Nat.zero_le _, rfl, rfl, rfl, HG⟩
   case round =>
    obtain ⟨j, a, c, l, hj, rfl, rfl, hl', H⟩ := hrel;clear HG
    by_cases hlt : j < L.length
    ·obtain ⟨g, o, ea, c0⟩ := hrow.out j hlt
     have cg := kpAt H.out.2.1 c0
     have hlj := HX.out L[j] (List.getElem_mem hlt)
     have hct := hid (catL_take hlt)
     have hs1 := hsl.out (j + 1)
     rw [sumL_take hlt, ← catL_len, ← hl'.out] at hs1;obtain ⟨a4, c4, W4, hrun, hr4, k4, hn4⟩ := appVY H.out.1 L[j].a L[j].c L[j].l (hlj.see.kept H.out.2.1) (by omega)
     obtain ⟨l4, hl4⟩ : ∃ l4, Hid (l ++ L[j].l = l4) := ⟨l ++ L[j].l, rfl⟩
     rw [hl4.out] at hrun hr4;have hl5 : Hid (l4 = catL (L.take (j + 1))) := by show _ = _; rw [hct.out, ← hl'.out, hl4.out]
     obtain ⟨x, hx⟩ : ∃ x, Hid (L[j] = x) := ⟨L[j], rfl⟩
     rw [hx.out] at cg hrun;obtain ⟨xa, xc, xl⟩ := x;dsimp only at cg hrun
     have HF : Hid (VE.Row W4 (.slice a4 l4.length c4) l4 ∧ Kp [] w W4 ∧ ∀ k ∈ blk a4, w.heap.size ≤ k) := ⟨hr4, H.out.2.1.trans k4 (fun x hx => .inr (H.out.2.2 x hx)), fun k hk => by
      rcases hn4 k hk with e | e
      ·exact H.out.2.2 k e
      ·have := H.out.2.1.size; omega⟩
     have i1 : (0 : Int) ≤ (j : Int) := by omega
     have i2 : (j : Int) < (L.length : Int) := by omega
     have i3 : (j : Int) + 1 ≤ 9223372036854775807 := by omega
     clear c0 hlj hs1 hr4 k4 hn4 hct;subst ea;go_wp2_with (first | (refine wpAppRunY rfl _ _ 61 61 rfl _ _ _ rfl rfl hrun ?_) | fail)
     go_roundw
     case rel => exact ⟨j + 1, a4, c4, l4, by omega, by go_num, rfl, hl5, HF⟩
     case measure => simp [intOf]; omega
    ·obtain rfl : j = L.length := by omega
     have hlc : l = catL L := by rw [hl'.out, List.take_length]
     subst hlc;go_wp2_with fail;go_ret;exact ⟨a, c, rfl, H.out.1, H.out.2.1, H.out.2.2⟩
theorem cIntE (n : Int) (w : World) : Calls Tryz.prog 154 #[.int .i64 n] w fun e w' => e = .returned (.agg #[.int .i64 2, .bool false, .int .i64 n, .string ⟨#[]⟩]) ∧ Kp [] w w' := by
 obtain ⟨q, W1, W2, eq, e1, b1, e2, b2, k2, z2⟩ := boxV4Y w ⟨2, false, n, ⟨#[]⟩⟩;have m0 := b1.get 0 _ rfl; have m1 := b1.get 1 _ rfl; have m2 := b1.get 2 _ rfl; have m3 := b1.get 3 _ rfl
 have f0 := b1.free 0; have f1 := b1.free 1; have f2 := b1.free 2; have f3 := b1.free 3
 have v0 := b2.get 0 _ rfl; have v1 := b2.get 1 _ rfl; have v2 := b2.get 2 _ rfl; have v3 := b2.get 3 _ rfl
 dsimp only at e2 v0 v1 v2 v3;clear b1 b2;go_enter Tryz.func154, Tryz.ntmps154
 go_wp2_with fail;exact bodyPost_ret (v := .agg #[.int .i64 2, .bool false, .int .i64 n, .string ⟨#[]⟩]) (by simp [results, Tryz.results154, go_sem, v0, v1, v2, v3]) rfl ⟨rfl, k2⟩
def pickV (l : List Val) (ps : List Int) : List Val := ps.map fun p => vAt l p
theorem pickV_take {l : List Val} {ps : List Int} {j : Nat} (h : j < ps.length) : pickV l (ps.take (j + 1)) = pickV l (ps.take j) ++ [vAt l ps[j]] := by
 unfold pickV
 rw [List.take_succ_eq_append_getElem h, List.map_append];rfl
theorem appV1 {W : World} {a : Option Addr} {c : Nat} {l : List Val} (h : VE.Row W (.slice a l.length c) l) (v : Val) (hl : l.length ≤ 3000000000000) :
  ∃ a' c' W', (Builtin.append_ #[61, 61] 61 #[.slice a l.length c, .slice (some ⟨W.heap.size, 0, none⟩) 1 1]).run Tryz.prog (W.alloc (.cells #[.int .i64 v.k, .bool v.b, .int .i64 v.n, .string v.t] 88)) = .ok (.slice a' (l ++ [v]).length c') W' ∧ VE.Row W' (.slice a' (l ++ [v]).length c') (l ++ [v]) ∧ Kp (blk a) W W' ∧ ∀ k ∈ blk a', k ∈ blk a ∨ W.heap.size ≤ k := by
 obtain ⟨A1, hA1⟩ : ∃ A1, W.alloc (.cells #[.int .i64 v.k, .bool v.b, .int .i64 v.n, .string v.t] 88) = A1 := ⟨_, rfl⟩
 have kA1 : Kp [] W A1 := by rw [← hA1]; exact (Kp.refl _ _).alloc _
 have bx1 : Bn A1 W.heap.size (VE.c v) := by rw [← hA1]; exact Bn.new W (VE.c v) _
 have hs1 : VE.See A1 (some ⟨W.heap.size, 0, none⟩) [v] := .inr ⟨W.heap.size, 0, rfl, fun j u hu => by rw [Nat.zero_add]; exact bx1.get j u (by simpa [El.cs] using hu)⟩
 obtain ⟨a', c', W', hrun, hrow, k, hn⟩ := appVY (h.keptNew kA1) (some ⟨W.heap.size, 0, none⟩) 1 [v] (seeV.1 hs1) (by simp; omega)
 rw [hA1];have z1 := kA1.size
 exact ⟨a', c', W', hrun, hrow, (kA1.mono (by simp)).trans k (fun j hj => .inl hj), fun k hk => by
  rcases hn k hk with e | e
  ·exact .inl e
  ·exact .inr (by omega)⟩
theorem makeV0 (w : World) (n : Nat) (hn : n ≤ 3000000000000) : ∃ W, (Instr.makeSlice 61 (.int .i64 0) (.int .i64 (n : Int))).run Tryz.prog w = .ok (.slice (some ⟨w.heap.size, 0, none⟩) 0 n) W ∧ VE.Row W (.slice (some ⟨w.heap.size, 0, none⟩) 0 n) [] ∧ Kp [] w W := by
 obtain ⟨i0, hi, hz0, hz1, hz2⟩ := infoVal;have hr := run_make (P := Tryz.prog) w 61 88 i0 _ Tryz.underlying61 hi hz0 .i64 .i64 0 n (by omega) (by omega) (by rw [hz2]; omega) (by omega)
 rw [Int.toNat_natCast, hz1] at hr;refine ⟨_, hr, .inr ⟨w.heap.size, 0, n, rfl, Nat.zero_le _, by unfold maxLen; omega, by simp, fun j u hu => by simp [El.cs] at hu, fun j hj => ⟨?_, World.frozen?_alloc_new w _ _ (0 + j)⟩⟩, (Kp.refl _ _).alloc _⟩
 have e1 := World.cell?_alloc_new w (madeCells (Value.agg #[.int .i64 0, .bool false, .int .i64 0, .string ⟨#[]⟩]).cells (n * 4)) 88 (0 + j)
 refine (congrArg Option.isSome e1).trans ?_;have e5 : VE.n = 4 := rfl
 rw [e5] at hj;unfold madeCells
 rw [Nat.zero_add, Array.getElem?_map, Array.getElem?_range, if_pos hj];rfl
theorem cPick (a : Option Addr) (c : Nat) (l : List Val) (pa : Option Addr) (pc : Nat) (ps : List Int) (w : World) (ha : Vals w a l) (hl : l.length ≤ 9223372036854775807) (hp : IntE.See w pa ps) (hpl : ps.length ≤ 3000000000000) :
  Calls Tryz.prog 146 #[.slice a l.length c, .slice pa ps.length pc] w (NewR (pickV l ps) w) := by
 have HA := hid ha
 have HP := hid hp
 obtain ⟨W, hmk, hr0, k0⟩ := makeV0 w ps.length hpl;have H0 : Hid (VE.Row W (.slice (some ⟨w.heap.size, 0, none⟩) 0 ps.length) [] ∧ Kp [] w W ∧ ∀ k ∈ blk (some (⟨w.heap.size, 0, none⟩ : Addr)), w.heap.size ≤ k) := ⟨hr0, k0, fun k hk => by simp [blk] at hk; omega⟩
 clear ha hp hr0 k0;go_enter Tryz.func146, Tryz.ntmps146
 go_wp2_with fail;go_loopw [5, 13] (fun v5 i wr => ∃ (j : Nat) (ra : Option Addr) (rc : Nat) (m : List Val), j ≤ ps.length ∧ i = .int .i64 (j : Int) ∧ v5 = .slice ra m.length rc ∧ Hid (m = pickV l (ps.take j)) ∧ Hid (VE.Row wr (.slice ra m.length rc) m ∧ Kp [] w wr ∧ ∀ k ∈ blk ra, w.heap.size ≤ k)) (fun _ i _ => ps.length - (intOf i).toNat)
 case atStart => exact ⟨0, _, _, [], Nat.zero_le _, rfl, rfl, rfl, H0⟩
 case round =>
  obtain ⟨j, ra, rc, m, hj, rfl, rfl, hm, H⟩ := hrel;clear H0
  by_cases hlt : j < ps.length
  ·obtain ⟨g, o, ea, c0⟩ := intAt HP.out j hlt
   have cg := kpAt H.out.2.1 c0
   have hpt := hid (pickV_take (l := l) hlt)
   obtain ⟨p, hp⟩ : ∃ p, Hid (ps[j] = p) := ⟨ps[j], rfl⟩
   rw [hp.out] at cg hpt;have cA := hid (cAtE a c l p wr (HA.out.kept H.out.2.1) hl)
   obtain ⟨⟨vk, vb, vn, vt⟩, hv⟩ : ∃ v, Hid (vAt l p = v) := ⟨vAt l p, rfl⟩
   rw [hv.out] at cA hpt;dsimp only at cA;have hml : m.length ≤ 3000000000000 := by rw [hm.out]; unfold pickV; simp; omega
   have i1 : (0 : Int) ≤ (j : Int) := by omega
   have i2 : (j : Int) < (ps.length : Int) := by omega
   have i3 : (j : Int) + 1 ≤ 9223372036854775807 := by omega
   subst ea;clear c0;go_wp2_with fail;refine cA.out.mono ?_;rintro e wd ⟨rfl, kd⟩;obtain ⟨a4, c4, W4, hrun, hr4, k4, hn4⟩ := appV1 (H.out.1.keptNew kd) ⟨vk, vb, vn, vt⟩ hml;obtain ⟨m4, hm4⟩ : ∃ m4, Hid (m ++ [(⟨vk, vb, vn, vt⟩ : Val)] = m4) := ⟨_, rfl⟩
   rw [hm4.out] at hrun hr4;dsimp only at hrun;have kwd := H.out.2.1.trans kd (by simp)
   have HF : Hid (VE.Row W4 (.slice a4 m4.length c4) m4 ∧ Kp [] w W4 ∧ ∀ k ∈ blk a4, w.heap.size ≤ k) := ⟨hr4, kwd.trans k4 (fun x hx => .inr (H.out.2.2 x hx)), fun k hk => by
    rcases hn4 k hk with e | e
    ·exact H.out.2.2 k e
    ·have := kwd.size; omega⟩
   have hm5 : Hid (m4 = pickV l (ps.take (j + 1))) := by show _ = _; rw [hpt.out, ← hm.out, hm4.out]
   clear cA kd hr4 k4 hn4 kwd;go_wp2_with (first | (refine wpAppRunY rfl _ _ 61 61 rfl _ _ _ rfl rfl hrun ?_) | fail)
   go_roundw
   case rel => exact ⟨j + 1, a4, c4, m4, by omega, by go_num, rfl, hm5, HF⟩
   case measure => simp [intOf]; omega
  ·have hmm : m = pickV l ps := by rw [hm.out, show j = ps.length by omega, List.take_length]
   have dj1 : ¬ (j : Int) < (ps.length : Int) := by omega
   have dj2 : decide ((j : Int) < (ps.length : Int)) = false := by simp; omega
   subst hmm;go_wp2_with fail;go_ret;exact ⟨ra, rc, rfl, H.out.1, H.out.2.1, H.out.2.2⟩
end Go.Proofs.YtcgkkofmnajedaaGreatDoor
end

/- exec.Limit's iterator. exec.Limit's closure. exec.Project's iterator. What a term says of a value: plain. Terms as plain values, and how they lie. -/
import Derived.Test.YtcgkkofmnajedaaGreatDoorB6
import Derived.Test.YtcgkkofmnajedaaGreatDoorB1
import Derived.Test.YtcgkkofmnajedaaGreatDoorB3
set_option maxHeartbeats 64000000
set_option maxRecDepth 100000
section
namespace Go.Proofs.YtcgkkofmnajedaaGreatDoor
open Go.RowKit Go.Hay
attribute [local go_sem] Oper.semAt_some
set_option linter.unusedVariables false
set_option linter.unusedSimpArgs false
theorem limSeq (n : Nat) (hn : 2 ≤ n) (q1 q2 : Nat) (fr : Bool) (gl : Nat) (lbl : Array Value) (RL : List (List Val)) (jsl js : List Nat) (many : Int) (w : World)
  (heL : ∀ args w, (callFunc gl args).run Tryz.prog w = .ok (.enter gl args) w)
  (c1 : w.cell? ⟨q1, 0, none⟩ = some (.int .i64 many)) (c2 : w.cell? ⟨q2, 0, none⟩ = some (.func (.func gl) #[] lbl))
  (hq : ∀ q ∈ [q1, q2], q ∈ js) (hjl : ∀ j ∈ jsl, j ∈ js) (hjb : ∀ j ∈ js, j < w.heap.size)
  (hL : RowSeq fr (n - 1) gl lbl RL jsl w) (hRLl : ∀ l ∈ RL, l.length ≤ 1800000000000) (hRLn : RL.length ≤ 4000000000000) (hmx : many ≤ 9223372036854775807) :
  RowSeq true n 109 #[.pointer (some ⟨q1, 0, none⟩), .pointer (some ⟨q2, 0, none⟩)] (RL.take many.toNat) js w := by
 intro ly J Jx W hW hT hX hY h0
 obtain ⟨RJ, hRJ⟩ : ∃ R, Hid (RL.take many.toNat = R) := ⟨_, rfl⟩
 rw [hRJ.out] at hT ⊢
 have kjs := hW.js
 have d1 := kjs.cell (hq q1 (by simp)) c1
 have d2 := kjs.cell (hq q2 (by simp)) c2
 have hlW := hL.move (W := W) ⟨kjs.1, fun j hj o ho => kjs.2 j (hjl j hj) o ho⟩
 have hjW : ∀ j ∈ js, j < W.heap.size := fun j hj => Nat.lt_of_lt_of_le (hjb j hj) kjs.1
 obtain ⟨W1, hW1, k1, b1⟩ : ∃ W1, W.alloc (.cells #[.func (.yield ly) #[] #[]] 169) = W1 ∧ Kp [] W W1 ∧ Bn W1 W.heap.size [.func (.yield ly) #[] #[]] := ⟨_, rfl, (Kp.refl _ _).alloc _, Bn.new W _ _⟩
 obtain ⟨q3, hq3⟩ : ∃ q, Hid (W.heap.size = q) := ⟨_, rfl⟩
 rw [hq3.out] at b1
 have e1 := kpAt k1 d1
 have e2 := kpAt k1 d2
 have hq3' := hq3.out
 by_cases hm1 : many < 1
 ·have g1 : decide (many < 1) = true := by simpa using hm1
  have hRe : RJ.length = 0 := by rw [← hRJ.out, show many.toNat = 0 by omega]; rfl
  have hJ1 : Hid (J ⟨true, W1.heap.size, [], js, 0, none⟩ W1) := hT _ _ _ _ h0 ⟨TurnR.ofKp0 k1, fun h => (by cases h), fun _ => ⟨rfl, k1.size, by simp⟩, fun j hj => .inl hj, rfl, .inl rfl⟩
  have hRe' := hid hRe
  clear c1 c2 hL hW kjs hjb hlW k1 b1 d1 d2 h0 hRe hm1
  refine callsIn_of_wp_marks Tryz.func109 rfl trivial ?_ rfl
  simp only [Tryz.ntmps109, List.size_toArray, List.length_cons, List.length_nil, Nat.reduceAdd, Nat.reduceSub, Array.replicate_succ, Array.replicate_zero, List.push_toArray, List.append_toArray, List.nil_append, List.cons_append]
  refine wpIn_wide.2 ?_
  go_wp2_with fail
  exact ⟨_, results_none rfl _ _ _, ⟨_, rfl⟩, .inl ⟨_, ⟨rfl, hRe'.out.symm, rfl⟩, hJ1.out⟩⟩
 ·have g1 : decide (many < 1) = false := by simpa using hm1
  obtain ⟨W2z, hW2z, k2z, b2z⟩ : ∃ W2, W1.alloc (.cells #[.int .i64 0] 3) = W2 ∧ Kp [] W1 W2 ∧ Bn W2 W1.heap.size [.int .i64 0] := ⟨_, rfl, (Kp.refl _ _).alloc _, Bn.new W1 _ _⟩
  obtain ⟨q4, hq4⟩ : ∃ q, Hid (W1.heap.size = q) := ⟨_, rfl⟩
  rw [hq4.out] at b2z
  have hq4' := hq4.out
  have z0 := b2z.get 0 _ rfl
  have zf := b2z.free 0
  obtain ⟨W2, hW2, k2, b2⟩ : ∃ W2, W2z.setCell ⟨q4, 0, none⟩ (.int .i64 0) = W2 ∧ Kp [] W1 W2 ∧ Bn W2 q4 [.int .i64 0] := ⟨_, rfl, k2z.setCell (.inr (by rw [hq4.out]; exact Nat.le_refl _)) _, b2z.set 0 (by simp) _⟩
  have n42 : ∀ k, 1 ≤ k → W2.cell? ⟨q4, k, none⟩ = none := fun k hk => by
   rw [← hW2, cellFar _ _ _ _ hk, ← hW2z, ← hq4.out, World.cell?_alloc_new]
   simp; omega
  have k02 := k1.trans k2 (by simp)
  have f2 := kpAt k2 e2
  have z1 := k1.size
  have hq42 : q4 < W2.heap.size := b2.lt (by simp)
  have hq14 : q1 ≠ q4 := by have := hjW q1 (hq q1 (by simp)); omega
  have hq34 : q3 ≠ q4 := by have : q3 < W1.heap.size := b1.lt (by simp); omega
  obtain ⟨Mj, hMj⟩ : ∃ M, Hid (M = [q1, q3, q4]) := ⟨_, rfl⟩
  have hM2 : ML many q1 q3 q4 ly 0 W2 := ⟨kpAt k2 e1, (b1.kept k2).get 0 _ rfl, b2.get 0 _ rfl, b2.free 0, n42, by omega⟩
  have hMst : ∀ n A B, ML many q1 q3 q4 ly n A → CB (fun k => k ∈ Mj) A B → ML many q1 q3 q4 ly n B := fun n A B h k => h.ck (by rw [← hMj.out]; exact k)
  have hMn : ∀ j ∈ Mj, j ∈ js ∨ (W.heap.size ≤ j ∧ j < W2.heap.size) := fun j hj => by
   rw [hMj.out] at hj
   simp only [List.mem_cons, List.not_mem_nil, or_false] at hj
   rcases hj with rfl | rfl | rfl
   ·exact .inl (hq _ (by simp))
   ·exact .inr ⟨by rw [hq3.out]; exact Nat.le_refl _, (b1.kept k2).lt (by simp)⟩
   ·exact .inr ⟨by omega, hq42⟩
  have hMb : ∀ j ∈ Mj, j < W2.heap.size := fun j hj => by
   rcases hMn j hj with e | e
   ·exact Nat.lt_of_lt_of_le (hjW j e) k02.size
   ·exact e.2
  have hJ2 : J ⟨true, W2.heap.size, [q4], js ++ Mj, 0, none⟩ W2 := hT _ _ _ _ h0 ⟨TurnR.ofKp (k02.mono (by simp)), fun h => (by cases h), fun _ => ⟨rfl, k02.size, fun q hq' => by rw [List.mem_singleton.1 hq']; exact ⟨by omega, hq42⟩⟩, fun j hj => by
   rcases List.mem_append.1 hj with e | e
   ·exact .inl e
   ·exact hMn j e, rfl, .inl rfl⟩
  have hI0 : LiG J RL (ML many q1 q3 q4 ly) Mj W2 q4 ⟨false, 0, [], jsl, 0, none⟩ W2 := ⟨js ++ Mj, [q4], 0, hJ2, fun j hj => List.mem_append.2 (.inl (hjl j hj)), fun j hj => List.mem_append.2 (.inr hj), by simp, by simp, hM2, rfl, Nat.le_refl _, fun h => (by cases h), fun j hj => by have := hjW j (hjl j hj); have := k02.size; omega, fun j hj => by have := hjW j (hjl j hj); omega, fun x hx => (by cases hx), fun j hj => by
   rcases List.mem_append.1 hj with e | e
   ·have := hjW j e; have := k02.size; omega
   ·exact hMb j e, fun q hq' => by rw [List.mem_singleton.1 hq']; exact hq42⟩
  have hsq := hid (hlW.move (KeepB.ofKp k02 (by simp)))
  have HI0 := hid hI0
  have HMS := hid hMst
  have HMB := hid hMb
  clear c1 c2 hL hW kjs hjb hlW k1 b1 d1 d2 hM2 hMn hJ2 hI0 hMst hMb h0 k2 k2z b2 b2z k02 z1
  refine callsIn_of_wp_marks Tryz.func109 rfl trivial ?_ rfl
  simp only [Tryz.ntmps109, List.size_toArray, List.length_cons, List.length_nil, Nat.reduceAdd, Nat.reduceSub, Array.replicate_succ, Array.replicate_zero, List.push_toArray, List.append_toArray, List.nil_append, List.cons_append]
  refine wpIn_wide.2 ?_
  go_wp2_with fail
  refine (wpIn_wide (n := n)).1 ?_
  refine wpRangeX rfl (by omega) (gf := gl) (lb := lbl) rfl trivial heL
   hsq.out (fun _ => rfl) KeepR.trans (fun s W o => KeepR.alloc s W o) (KeepR.refl _ _)
   (LiG J RL (ML many q1 q3 q4 ly) Mj W2 q4) (fun c s W' => c = .ret ∧ InX (JxD J Jx RJ.length) W2 s W') (LiG.own hT HMS.out) (fun c s X Y row h hg hr => ⟨h.1, InX.own (JxD.step hT hX) s X Y row h.2 hg hr⟩) HI0.out
   (fun s s' A B h ht k o hk ho => h.keeps ht k o hk ho) (fun c s A B h ht k o hk ho => h.2.keeps ht k o hk ho) (fun s s' A B hz h ht => h.step hT HMS.out HMB.out hq42 hz ht) (fun c s A B h ht => ⟨h.1, h.2.step (JxD.step hT hX) ht⟩)
   (fun s W o' h => h.recs o') (fun s x W o' h => h.recs' o') (fun c s x W o' h => h.2.recs' o')
   (fun x => { tmps := #[.func (.yield ly) #[] #[], .pointer (some ⟨q1, 0, none⟩), .pointer (some ⟨q2, 0, none⟩), .pointer (some ⟨q3, 0, none⟩), .pointer (some ⟨q4, 0, none⟩), .slice x.a x.l.length x.c, .int .i64 many, .bool false, .func (.func gl) #[] lbl, .slice x.a x.l.length x.c, undef, undef, undef, undef, undef, undef, undef, undef, undef, undef, undef, undef], defers := [] }) ?assign ?body ?done ?stop
  case assign =>
   intro l x W C hC
   gi_wp2_with fail
   exact hC
  case body =>
   rintro l0 s ⟨xa, xc, xl⟩ A ⟨jsA, qsA, i, h⟩ hp
   obtain ⟨hRi, hxl⟩ := h.pend _ hp
   dsimp only at hRi ⊢
   have hxn : xl.length ≤ 1800000000000 := hRLl _ (List.mem_of_getElem? hRi)
   have hiR : s.i < RL.length := (List.getElem?_eq_some_iff.1 hRi).1
   have hil := h.m.lt
   have hie := hid h.rel
   have hR1 : Hid (RJ[i]? = some xl) := by
    show _ = _
    rw [← hRJ.out, hie.out, List.getElem?_take, if_pos (by omega)]
    exact hRi
   have c4 := h.m.c4
   have f4 := h.m.f4
   have c1A := h.m.c1
   have c3A := h.m.c3
   have i1 : (s.i : Int) + 1 ≤ 9223372036854775807 := by omega
   obtain ⟨A1, eA1⟩ : ∃ x, A.setCell ⟨q4, 0, none⟩ (.int .i64 ((s.i : Int) + 1)) = x := ⟨_, rfl⟩
   have kA1 : Kp [q4] A A1 := by rw [← eA1]; exact (Kp.refl _ _).setCell (by simp) _
   have c4A1 : A1.cell? ⟨q4, 0, none⟩ = some (.int .i64 ((s.i : Int) + 1)) := by rw [← eA1]; exact World.cell?_setCell_same _ _ _ c4
   have f4A1 : A1.frozen? ⟨q4, 0, none⟩ = false := by rw [← eA1, World.frozen?_setCell]; exact f4
   have c1A1 := (kA1.cell (p := ⟨q1, 0, none⟩) (World.block_lt_of_cell? _ _ c1A) (by simpa using hq14)).trans c1A
   have c3A1 := (kA1.cell (p := ⟨q3, 0, none⟩) (World.block_lt_of_cell? _ _ c3A) (by simpa using hq34)).trans c3A
   have hn4 := h.m.n4
   have hxl1 : (⟨xa, xc, xl⟩ : Vs).lies A1 := by
    refine ⟨?_, hxl.cap, hxl.most, hxl.nil⟩
    by_cases hb : q4 ∈ blk xa
    ·rcases hxl.see with e | ⟨g, o, e, hv⟩
     ·exact .inl e
     ·dsimp only at e hv
      subst e
      simp [blk] at hb
      subst hb
      by_cases hnil : xl = []
      ·exact .inl hnil
      ·obtain ⟨_, b1', _⟩ := hv 0 (xl[0]'(List.length_pos_iff.2 hnil)) (List.getElem?_eq_getElem (List.length_pos_iff.2 hnil))
       rw [hn4 _ (by omega)] at b1'
       cases b1'
    ·exact ckVals (CK.ofKp kA1) hxl.see (fun k hk hm => by rw [List.mem_singleton.1 hm] at hk; exact hb hk)
   have n4A1 : ∀ k, 1 ≤ k → A1.cell? ⟨q4, k, none⟩ = none := fun k hk => by
    rw [← eA1, cellFar _ _ _ _ hk]
    exact hn4 k hk
   have HN := hid n4A1
   have h' := hid h
   have KA1 := hid kA1
   have HC := hid (And.intro c1A1 (And.intro c3A1 (And.intro c4A1 f4A1)))
   have hcel := hid (cellCel c4)
   have hxl' := hid hxl1
   clear h hRi hxl HI0 hn4 n4A1 c1A c3A c1A1 c3A1 f4A1 kA1 hxl1 c4A1
   gi_wp2_with fail
   refine wpIn_region_any (by kernel_rfl) ?_
   change wpAnyIn _ _ _ _ _ _ _ _ _ A1.drew
   have kD : Kp [] A1 A1.drew := (Kp.refl _ _).drew
   generalize A1.drew = wd at *
   have KB := hid (KA1.out.trans kD (by simp))
   have KD := hid kD
   have c3b := kpAt kD HC.out.2.1
   have cCt := hid (cCloneR xa xc xl wd (hxl'.out.see.kept kD) hxl'.out.nil (by omega))
   clear kD c4 f4
   refine wpAnyIn_ready (rs := [0, 1]) (by kernel_rfl) (by simp) ?_
   refine AllReadyIn.cons rfl (fun K hK => ?_) (AllReadyIn.cons rfl (fun K hK => ?_) AllReadyIn.nil)
   ·go_simp
    refine hK _ _ ?_
    clear hK K
    try simp only [Act.put, lz]
    refine rdI 1 (by kernel_rfl) rfl fun K hK => ?_
    go_simp
    refine hK _ _ ?_
    clear hK K
    try simp only [Act.put, lz]
    refine rdI 2 (by kernel_rfl) rfl fun K hK => ?_
    go_simp
    refine ⟨trivial, fun h => (by cases h), (CallsIn.inRound l0 (callsIn_wide.2 cCt.out)).mono ?_⟩
    rintro e Wz ⟨za, zc, rfl, hzrow, kz, hzb⟩
    have c3z := kpAt kz c3b
    refine hK _ _ ?_
    clear hK K
    try simp only [Act.put, lz]
    have kWz := hid (KB.out.trans kz (by simp))
    have hzl := rowLies hzrow
    have hzb2 : ∀ j ∈ blk za, A.heap.size ≤ j := fun j hj => by have := hzb j hj; have := KB.out.size; omega
    have hJz : J ⟨true, W2.heap.size, qsA, jsA, i, some ⟨za, zc, xl⟩⟩ Wz := hT _ _ _ _ h'.out.j ⟨TurnR.ofKp (kWz.out.mono (fun q hq' => by rw [List.mem_singleton.1 hq']; exact .inl h'.out.qq)), fun _ => ⟨rfl, rfl, fun q hq => .inl hq⟩, fun e => (by cases e), fun j hj => .inl hj, rfl, .inr ⟨_, rfl, hR1.out, hzl, fun _ => ⟨hzrow, fun j hj => ⟨hzb2 j hj, fun hm => by have := h'.out.jl j hm; have := hzb2 j hj; omega, fun hm => by have := h'.out.ql j hm; have := hzb2 j hj; omega⟩⟩⟩⟩
    obtain ⟨fn, tmps, assign, body, hyl5, hR⟩ := hY _ ⟨za, zc, xl⟩ Wz hJz rfl
    have hR' : RoundIn (Fence.wide.inRound l0) (n - 1 - 1 - 1) Tryz.prog ly fn tmps assign body Wz _ := RoundIn.anyDepthJ (F := Fence.wide.inRound l0) rfl hR
    have hgo : Hid (∀ A3, KeepR ⟨true, W2.heap.size, qsA, jsA, i, some ⟨za, zc, xl⟩⟩ Wz A3 → KeepR s A A3 ∧ KeepsFrom W2.heap.size A A3 ∧ A3.cell? ⟨q1, 0, none⟩ = some (.int .i64 many) ∧ A3.cell? ⟨q3, 0, none⟩ = some (.func (.yield ly) #[] #[]) ∧ A3.cell? ⟨q4, 0, none⟩ = some (.int .i64 ((s.i : Int) + 1)) ∧ A3.frozen? ⟨q4, 0, none⟩ = false ∧ ∀ k, 1 ≤ k → A3.cell? ⟨q4, k, none⟩ = none) := fun A3 hk3 => by
     have hnr : ∀ j (o : Obj), A.heap[j]? = some o → o.isCells = false → j ∉ [q4] := fun j o ho hc hm => by
      rw [List.mem_singleton.1 hm] at ho
      have := hcel.out
      rw [ho] at this
      simp [hc] at this
     have t1 : KeepR s A Wz := ⟨KeepB.ofKp kWz.out (fun j hj hm => h'.out.lq j hj (List.mem_singleton.1 hm)), fun _ j o _ ho hc => (kWz.out.block j (Array.getElem?_eq_some_iff.1 ho).1 (hnr j o ho hc)).trans ho⟩
     have t2 : KeepR s Wz A3 := ⟨⟨hk3.js.1, fun j hj o ho => hk3.js.2 j (h'.out.sub j hj) o ho⟩, fun hm j o hj ho hc => hk3.recs rfl j o (by have := (h'.out.mde hm).1; show W2.heap.size ≤ j; omega) ho hc⟩
     have ck3 := ckOfKeepB hk3.js
     have kz1 : Kp [] A1 Wz := KD.out.trans kz (by simp)
     have hin : ∀ q ∈ [q1, q3, q4], q ∈ jsA := fun q hq' => h'.out.mj q (by rw [hMj.out]; exact hq')
     have a4 := kpAt kz1 HC.out.2.2.1
     refine ⟨t1.trans t2, ⟨Nat.le_trans kWz.out.size hk3.js.1, fun j o hj ho hc => hk3.recs rfl j o hj ((kWz.out.block j (Array.getElem?_eq_some_iff.1 ho).1 (hnr j o ho hc)).trans ho) hc⟩, (ck3.2 ⟨q1, 0, none⟩ _ (hin q1 (by simp)) (kpAt kz1 HC.out.1)).1, (ck3.2 ⟨q3, 0, none⟩ _ (hin q3 (by simp)) (kpAt kz1 HC.out.2.1)).1, (ck3.2 ⟨q4, 0, none⟩ _ (hin q4 (by simp)) a4).1, ((ck3.2 ⟨q4, 0, none⟩ _ (hin q4 (by simp)) a4).2).trans ((kz1.frozen (p := ⟨q4, 0, none⟩) (World.block_lt_of_cell? _ _ HC.out.2.2.1) (by simp)).trans HC.out.2.2.2), noneCB (CB.ofKeepB hk3.js) (hin q4 (by simp)) a4 (noneCB (CB.ofKp kz1) (by simp) HC.out.2.2.1 HN.out)⟩
    have hyl6 := hyl5
    simp only [encR] at hyl6
    clear hR hJz hzl hzrow kz hzb hzb2 hyl5 cCt
    refine rdI 3 (by kernel_rfl) rfl fun K hK => ?_
    go_simp
    refine ⟨fun h => (by cases h), hR'.mono ?_⟩
    rintro e A3 (⟨rfl, hJ3, hk3⟩ | ⟨rfl, hJ3, hk3⟩)
    ·have HG := hid (hgo.out A3 hk3)
     have hJ4 : Hid (J ⟨true, W2.heap.size, qsA, jsA, i + 1, none⟩ A3) := hJ3
     have y1 := HG.out.2.2.1
     have y4 := HG.out.2.2.2.2.1
     clear hgo hR' hyl6 hJ3 hk3
     refine hK _ _ ?_
     clear hK K
     try simp only [Act.put, lz]
     refine rdI 4 (by kernel_rfl) rfl fun K hK => ?_
     go_simp
     refine hK _ _ ?_
     clear hK K
     try simp only [Act.put, lz]
     refine rdI 5 (by kernel_rfl) rfl fun K hK => ?_
     go_simp
     refine hK _ _ ?_
     clear hK K
     try simp only [Act.put, lz]
     by_cases hfin0 : (s.i : Int) + 1 = many
     ·have dE : ((s.i : Int) + 1 == many) = true := by simpa using hfin0
      have hfin := hid hfin0
      clear hfin0
      refine wpAnyIn_ready (rs := [6, 7]) (by kernel_rfl) (by simp) ?_
      refine AllReadyIn.cons rfl (fun K hK => ?_) (AllReadyIn.cons rfl (fun K hK => ?_) AllReadyIn.nil)
      ·go_simp
       refine hK _ _ ?_
       clear hK K
       try simp only [Act.put, lz]
       refine rdI 7 (by kernel_rfl) rfl fun K hK => ?_
       go_simp
       refine hK _ _ ?_
       clear hK K
       try simp only [Act.put, lz]
       refine rdI 8 (by kernel_rfl) rfl fun K hK => ?_
       go_simp
       refine hK _ _ ?_
       clear hK K
       try simp only [Act.put, lz]
       refine rdI 9 (by kernel_rfl) rfl fun K hK => ?_
       go_simp
       refine hK _ _ ?_
       clear hK K
       try simp only [Act.put, lz]
       refine wpAnyIn_done (by kernel_rfl) ?_ _
       gi_wp2_with fail
       refine ⟨HG.out.2.1, HG.out.1, rfl, ⟨true, W2.heap.size, qsA, jsA, i + 1, none⟩, rfl, rfl, h'.out.qsub, h'.out.mde, h'.out.lj, .inr ⟨?_, rfl, hJ4.out⟩⟩
       show i + 1 = RJ.length
       have h1 := hie.out
       have h2 := hfin.out
       rw [← hRJ.out, List.length_take]
       omega
      ·go_simp
       refine hK _ _ ?_
       clear hK K
       try simp only [Act.put, lz]
       refine rdI 6 (by kernel_rfl) rfl fun K hK => ?_
       go_simp
       refine hK _ _ ?_
       clear hK K
       try simp only [Act.put, lz]
       refine rdI 8 (by kernel_rfl) rfl fun K hK => ?_
       go_simp
       refine hK _ _ ?_
       clear hK K
       try simp only [Act.put, lz]
       refine rdI 9 (by kernel_rfl) rfl fun K hK => ?_
       go_simp
       refine hK _ _ ?_
       clear hK K
       try simp only [Act.put, lz]
       refine wpAnyIn_done (by kernel_rfl) ?_ _
       gi_wp2_with fail
       refine ⟨HG.out.2.1, HG.out.1, rfl, ⟨true, W2.heap.size, qsA, jsA, i + 1, none⟩, rfl, rfl, h'.out.qsub, h'.out.mde, h'.out.lj, .inr ⟨?_, rfl, hJ4.out⟩⟩
       show i + 1 = RJ.length
       have h1 := hie.out
       have h2 := hfin.out
       rw [← hRJ.out, List.length_take]
       omega
     ·have dE : ((s.i : Int) + 1 == many) = false := beq_eq_false_iff_ne.2 hfin0
      have hfin := hid hfin0
      clear hfin0
      refine wpAnyIn_ready (rs := [6, 7]) (by kernel_rfl) (by simp) ?_
      refine AllReadyIn.cons rfl (fun K hK => ?_) (AllReadyIn.cons rfl (fun K hK => ?_) AllReadyIn.nil)
      ·go_simp
       refine hK _ _ ?_
       clear hK K
       try simp only [Act.put, lz]
       refine rdI 7 (by kernel_rfl) rfl fun K hK => ?_
       go_simp
       refine hK _ _ ?_
       clear hK K
       try simp only [Act.put, lz]
       refine rdI 8 (by kernel_rfl) rfl fun K hK => ?_
       go_simp
       refine hK _ _ ?_
       clear hK K
       try simp only [Act.put, lz]
       refine rdI 9 (by kernel_rfl) rfl fun K hK => ?_
       go_simp
       refine hK _ _ ?_
       clear hK K
       try simp only [Act.put, lz]
       refine wpAnyIn_done (by kernel_rfl) ?_ _
       gi_wp2_with fail
       refine ⟨HG.out.2.1, HG.out.1, jsA, qsA, i + 1, hJ4.out, h'.out.sub, h'.out.mj, h'.out.qsub, h'.out.qq, ⟨HG.out.2.2.1, HG.out.2.2.2.1, by simpa [Sr.nx] using HG.out.2.2.2.2.1, HG.out.2.2.2.2.2.1, HG.out.2.2.2.2.2.2, by show ((s.i + 1 : Nat) : Int) < many; have := hfin.out; omega⟩, by show i + 1 = s.i + 1; rw [hie.out], Nat.le_trans h'.out.size HG.out.2.1.size, h'.out.mde, h'.out.lj, h'.out.lq, fun x hx => (by cases hx), fun j hj => Nat.lt_of_lt_of_le (h'.out.jl j hj) HG.out.2.1.size, fun q hq => Nat.lt_of_lt_of_le (h'.out.ql q hq) HG.out.2.1.size⟩
      ·go_simp
       refine hK _ _ ?_
       clear hK K
       try simp only [Act.put, lz]
       refine rdI 6 (by kernel_rfl) rfl fun K hK => ?_
       go_simp
       refine hK _ _ ?_
       clear hK K
       try simp only [Act.put, lz]
       refine rdI 8 (by kernel_rfl) rfl fun K hK => ?_
       go_simp
       refine hK _ _ ?_
       clear hK K
       try simp only [Act.put, lz]
       refine rdI 9 (by kernel_rfl) rfl fun K hK => ?_
       go_simp
       refine hK _ _ ?_
       clear hK K
       try simp only [Act.put, lz]
       refine wpAnyIn_done (by kernel_rfl) ?_ _
       gi_wp2_with fail
       refine ⟨HG.out.2.1, HG.out.1, jsA, qsA, i + 1, hJ4.out, h'.out.sub, h'.out.mj, h'.out.qsub, h'.out.qq, ⟨HG.out.2.2.1, HG.out.2.2.2.1, by simpa [Sr.nx] using HG.out.2.2.2.2.1, HG.out.2.2.2.2.2.1, HG.out.2.2.2.2.2.2, by show ((s.i + 1 : Nat) : Int) < many; have := hfin.out; omega⟩, by show i + 1 = s.i + 1; rw [hie.out], Nat.le_trans h'.out.size HG.out.2.1.size, h'.out.mde, h'.out.lj, h'.out.lq, fun x hx => (by cases hx), fun j hj => Nat.lt_of_lt_of_le (h'.out.jl j hj) HG.out.2.1.size, fun q hq => Nat.lt_of_lt_of_le (h'.out.ql q hq) HG.out.2.1.size⟩
    ·have HG := hid (hgo.out A3 hk3)
     have hJ4 := hid hJ3
     clear hgo hR' hyl6 hJ3 hk3
     refine hK _ _ ?_
     clear hK K
     try simp only [Act.put, lz]
     refine rdI 4 (by kernel_rfl) rfl fun K hK => ?_
     go_simp
     refine hK _ _ ?_
     clear hK K
     try simp only [Act.put, lz]
     refine rdI 5 (by kernel_rfl) rfl fun K hK => ?_
     go_simp
     refine hK _ _ ?_
     clear hK K
     try simp only [Act.put, lz]
     refine wpAnyIn_ready (rs := [6, 7]) (by kernel_rfl) (by simp) ?_
     refine AllReadyIn.cons rfl (fun K hK => ?_) (AllReadyIn.cons rfl (fun K hK => ?_) AllReadyIn.nil)
     ·go_simp
      refine hK _ _ ?_
      clear hK K
      try simp only [Act.put, lz]
      refine rdI 7 (by kernel_rfl) rfl fun K hK => ?_
      go_simp
      refine hK _ _ ?_
      clear hK K
      try simp only [Act.put, lz]
      refine rdI 8 (by kernel_rfl) rfl fun K hK => ?_
      go_simp
      refine hK _ _ ?_
      clear hK K
      try simp only [Act.put, lz]
      refine rdI 9 (by kernel_rfl) rfl fun K hK => ?_
      go_simp
      refine hK _ _ ?_
      clear hK K
      try simp only [Act.put, lz]
      refine wpAnyIn_done (by kernel_rfl) ?_ _
      gi_wp2_with fail
      exact ⟨HG.out.2.1, HG.out.1, rfl, Sr.nx ⟨true, W2.heap.size, qsA, jsA, i, some ⟨za, zc, xl⟩⟩ ⟨za, zc, xl⟩, rfl, rfl, h'.out.qsub, h'.out.mde, h'.out.lj, .inl hJ4.out⟩
     ·go_simp
      refine hK _ _ ?_
      clear hK K
      try simp only [Act.put, lz]
      refine rdI 6 (by kernel_rfl) rfl fun K hK => ?_
      go_simp
      refine hK _ _ ?_
      clear hK K
      try simp only [Act.put, lz]
      refine rdI 8 (by kernel_rfl) rfl fun K hK => ?_
      go_simp
      refine hK _ _ ?_
      clear hK K
      try simp only [Act.put, lz]
      refine rdI 9 (by kernel_rfl) rfl fun K hK => ?_
      go_simp
      refine hK _ _ ?_
      clear hK K
      try simp only [Act.put, lz]
      refine wpAnyIn_done (by kernel_rfl) ?_ _
      gi_wp2_with fail
      exact ⟨HG.out.2.1, HG.out.1, rfl, Sr.nx ⟨true, W2.heap.size, qsA, jsA, i, some ⟨za, zc, xl⟩⟩ ⟨za, zc, xl⟩, rfl, rfl, h'.out.qsub, h'.out.mde, h'.out.lj, .inl hJ4.out⟩
   ·go_simp
    refine hK _ _ ?_
    clear hK K
    try simp only [Act.put, lz]
    refine wpAnyIn_ready (rs := [0, 2]) (by kernel_rfl) (by simp) ?_
    refine AllReadyIn.cons rfl (fun K hK => ?_) (AllReadyIn.cons rfl (fun K hK => ?_) AllReadyIn.nil)
    ·go_simp
     refine hK _ _ ?_
     clear hK K
     try simp only [Act.put, lz]
     refine rdI 2 (by kernel_rfl) rfl fun K hK => ?_
     go_simp
     refine ⟨trivial, fun h => (by cases h), (CallsIn.inRound l0 (callsIn_wide.2 cCt.out)).mono ?_⟩
     rintro e Wz ⟨za, zc, rfl, hzrow, kz, hzb⟩
     have c3z := kpAt kz c3b
     refine hK _ _ ?_
     clear hK K
     try simp only [Act.put, lz]
     have kWz := hid (KB.out.trans kz (by simp))
     have hzl := rowLies hzrow
     have hzb2 : ∀ j ∈ blk za, A.heap.size ≤ j := fun j hj => by have := hzb j hj; have := KB.out.size; omega
     have hJz : J ⟨true, W2.heap.size, qsA, jsA, i, some ⟨za, zc, xl⟩⟩ Wz := hT _ _ _ _ h'.out.j ⟨TurnR.ofKp (kWz.out.mono (fun q hq' => by rw [List.mem_singleton.1 hq']; exact .inl h'.out.qq)), fun _ => ⟨rfl, rfl, fun q hq => .inl hq⟩, fun e => (by cases e), fun j hj => .inl hj, rfl, .inr ⟨_, rfl, hR1.out, hzl, fun _ => ⟨hzrow, fun j hj => ⟨hzb2 j hj, fun hm => by have := h'.out.jl j hm; have := hzb2 j hj; omega, fun hm => by have := h'.out.ql j hm; have := hzb2 j hj; omega⟩⟩⟩⟩
     obtain ⟨fn, tmps, assign, body, hyl5, hR⟩ := hY _ ⟨za, zc, xl⟩ Wz hJz rfl
     have hR' : RoundIn (Fence.wide.inRound l0) (n - 1 - 1 - 1) Tryz.prog ly fn tmps assign body Wz _ := RoundIn.anyDepthJ (F := Fence.wide.inRound l0) rfl hR
     have hgo : Hid (∀ A3, KeepR ⟨true, W2.heap.size, qsA, jsA, i, some ⟨za, zc, xl⟩⟩ Wz A3 → KeepR s A A3 ∧ KeepsFrom W2.heap.size A A3 ∧ A3.cell? ⟨q1, 0, none⟩ = some (.int .i64 many) ∧ A3.cell? ⟨q3, 0, none⟩ = some (.func (.yield ly) #[] #[]) ∧ A3.cell? ⟨q4, 0, none⟩ = some (.int .i64 ((s.i : Int) + 1)) ∧ A3.frozen? ⟨q4, 0, none⟩ = false ∧ ∀ k, 1 ≤ k → A3.cell? ⟨q4, k, none⟩ = none) := fun A3 hk3 => by
      have hnr : ∀ j (o : Obj), A.heap[j]? = some o → o.isCells = false → j ∉ [q4] := fun j o ho hc hm => by
       rw [List.mem_singleton.1 hm] at ho
       have := hcel.out
       rw [ho] at this
       simp [hc] at this
      have t1 : KeepR s A Wz := ⟨KeepB.ofKp kWz.out (fun j hj hm => h'.out.lq j hj (List.mem_singleton.1 hm)), fun _ j o _ ho hc => (kWz.out.block j (Array.getElem?_eq_some_iff.1 ho).1 (hnr j o ho hc)).trans ho⟩
      have t2 : KeepR s Wz A3 := ⟨⟨hk3.js.1, fun j hj o ho => hk3.js.2 j (h'.out.sub j hj) o ho⟩, fun hm j o hj ho hc => hk3.recs rfl j o (by have := (h'.out.mde hm).1; show W2.heap.size ≤ j; omega) ho hc⟩
      have ck3 := ckOfKeepB hk3.js
      have kz1 : Kp [] A1 Wz := KD.out.trans kz (by simp)
      have hin : ∀ q ∈ [q1, q3, q4], q ∈ jsA := fun q hq' => h'.out.mj q (by rw [hMj.out]; exact hq')
      have a4 := kpAt kz1 HC.out.2.2.1
      refine ⟨t1.trans t2, ⟨Nat.le_trans kWz.out.size hk3.js.1, fun j o hj ho hc => hk3.recs rfl j o hj ((kWz.out.block j (Array.getElem?_eq_some_iff.1 ho).1 (hnr j o ho hc)).trans ho) hc⟩, (ck3.2 ⟨q1, 0, none⟩ _ (hin q1 (by simp)) (kpAt kz1 HC.out.1)).1, (ck3.2 ⟨q3, 0, none⟩ _ (hin q3 (by simp)) (kpAt kz1 HC.out.2.1)).1, (ck3.2 ⟨q4, 0, none⟩ _ (hin q4 (by simp)) a4).1, ((ck3.2 ⟨q4, 0, none⟩ _ (hin q4 (by simp)) a4).2).trans ((kz1.frozen (p := ⟨q4, 0, none⟩) (World.block_lt_of_cell? _ _ HC.out.2.2.1) (by simp)).trans HC.out.2.2.2), noneCB (CB.ofKeepB hk3.js) (hin q4 (by simp)) a4 (noneCB (CB.ofKp kz1) (by simp) HC.out.2.2.1 HN.out)⟩
     have hyl6 := hyl5
     simp only [encR] at hyl6
     clear hR hJz hzl hzrow kz hzb hzb2 hyl5 cCt
     refine rdI 3 (by kernel_rfl) rfl fun K hK => ?_
     go_simp
     refine ⟨fun h => (by cases h), hR'.mono ?_⟩
     rintro e A3 (⟨rfl, hJ3, hk3⟩ | ⟨rfl, hJ3, hk3⟩)
     ·have HG := hid (hgo.out A3 hk3)
      have hJ4 : Hid (J ⟨true, W2.heap.size, qsA, jsA, i + 1, none⟩ A3) := hJ3
      have y1 := HG.out.2.2.1
      have y4 := HG.out.2.2.2.2.1
      clear hgo hR' hyl6 hJ3 hk3
      refine hK _ _ ?_
      clear hK K
      try simp only [Act.put, lz]
      refine rdI 4 (by kernel_rfl) rfl fun K hK => ?_
      go_simp
      refine hK _ _ ?_
      clear hK K
      try simp only [Act.put, lz]
      refine rdI 5 (by kernel_rfl) rfl fun K hK => ?_
      go_simp
      refine hK _ _ ?_
      clear hK K
      try simp only [Act.put, lz]
      by_cases hfin0 : (s.i : Int) + 1 = many
      ·have dE : ((s.i : Int) + 1 == many) = true := by simpa using hfin0
       have hfin := hid hfin0
       clear hfin0
       refine wpAnyIn_ready (rs := [6, 7]) (by kernel_rfl) (by simp) ?_
       refine AllReadyIn.cons rfl (fun K hK => ?_) (AllReadyIn.cons rfl (fun K hK => ?_) AllReadyIn.nil)
       ·go_simp
        refine hK _ _ ?_
        clear hK K
        try simp only [Act.put, lz]
        refine rdI 7 (by kernel_rfl) rfl fun K hK => ?_
        go_simp
        refine hK _ _ ?_
        clear hK K
        try simp only [Act.put, lz]
        refine rdI 8 (by kernel_rfl) rfl fun K hK => ?_
        go_simp
        refine hK _ _ ?_
        clear hK K
        try simp only [Act.put, lz]
        refine rdI 9 (by kernel_rfl) rfl fun K hK => ?_
        go_simp
        refine hK _ _ ?_
        clear hK K
        try simp only [Act.put, lz]
        refine wpAnyIn_done (by kernel_rfl) ?_ _
        gi_wp2_with fail
        refine ⟨HG.out.2.1, HG.out.1, rfl, ⟨true, W2.heap.size, qsA, jsA, i + 1, none⟩, rfl, rfl, h'.out.qsub, h'.out.mde, h'.out.lj, .inr ⟨?_, rfl, hJ4.out⟩⟩
        show i + 1 = RJ.length
        have h1 := hie.out
        have h2 := hfin.out
        rw [← hRJ.out, List.length_take]
        omega
       ·go_simp
        refine hK _ _ ?_
        clear hK K
        try simp only [Act.put, lz]
        refine rdI 6 (by kernel_rfl) rfl fun K hK => ?_
        go_simp
        refine hK _ _ ?_
        clear hK K
        try simp only [Act.put, lz]
        refine rdI 8 (by kernel_rfl) rfl fun K hK => ?_
        go_simp
        refine hK _ _ ?_
        clear hK K
        try simp only [Act.put, lz]
        refine rdI 9 (by kernel_rfl) rfl fun K hK => ?_
        go_simp
        refine hK _ _ ?_
        clear hK K
        try simp only [Act.put, lz]
        refine wpAnyIn_done (by kernel_rfl) ?_ _
        gi_wp2_with fail
        refine ⟨HG.out.2.1, HG.out.1, rfl, ⟨true, W2.heap.size, qsA, jsA, i + 1, none⟩, rfl, rfl, h'.out.qsub, h'.out.mde, h'.out.lj, .inr ⟨?_, rfl, hJ4.out⟩⟩
        show i + 1 = RJ.length
        have h1 := hie.out
        have h2 := hfin.out
        rw [← hRJ.out, List.length_take]
        omega
      ·have dE : ((s.i : Int) + 1 == many) = false := beq_eq_false_iff_ne.2 hfin0
       have hfin := hid hfin0
       clear hfin0
       refine wpAnyIn_ready (rs := [6, 7]) (by kernel_rfl) (by simp) ?_
       refine AllReadyIn.cons rfl (fun K hK => ?_) (AllReadyIn.cons rfl (fun K hK => ?_) AllReadyIn.nil)
       ·go_simp
        refine hK _ _ ?_
        clear hK K
        try simp only [Act.put, lz]
        refine rdI 7 (by kernel_rfl) rfl fun K hK => ?_
        go_simp
        refine hK _ _ ?_
        clear hK K
        try simp only [Act.put, lz]
        refine rdI 8 (by kernel_rfl) rfl fun K hK => ?_
        go_simp
        refine hK _ _ ?_
        clear hK K
        try simp only [Act.put, lz]
        refine rdI 9 (by kernel_rfl) rfl fun K hK => ?_
        go_simp
        refine hK _ _ ?_
        clear hK K
        try simp only [Act.put, lz]
        refine wpAnyIn_done (by kernel_rfl) ?_ _
        gi_wp2_with fail
        refine ⟨HG.out.2.1, HG.out.1, jsA, qsA, i + 1, hJ4.out, h'.out.sub, h'.out.mj, h'.out.qsub, h'.out.qq, ⟨HG.out.2.2.1, HG.out.2.2.2.1, by simpa [Sr.nx] using HG.out.2.2.2.2.1, HG.out.2.2.2.2.2.1, HG.out.2.2.2.2.2.2, by show ((s.i + 1 : Nat) : Int) < many; have := hfin.out; omega⟩, by show i + 1 = s.i + 1; rw [hie.out], Nat.le_trans h'.out.size HG.out.2.1.size, h'.out.mde, h'.out.lj, h'.out.lq, fun x hx => (by cases hx), fun j hj => Nat.lt_of_lt_of_le (h'.out.jl j hj) HG.out.2.1.size, fun q hq => Nat.lt_of_lt_of_le (h'.out.ql q hq) HG.out.2.1.size⟩
       ·go_simp
        refine hK _ _ ?_
        clear hK K
        try simp only [Act.put, lz]
        refine rdI 6 (by kernel_rfl) rfl fun K hK => ?_
        go_simp
        refine hK _ _ ?_
        clear hK K
        try simp only [Act.put, lz]
        refine rdI 8 (by kernel_rfl) rfl fun K hK => ?_
        go_simp
        refine hK _ _ ?_
        clear hK K
        try simp only [Act.put, lz]
        refine rdI 9 (by kernel_rfl) rfl fun K hK => ?_
        go_simp
        refine hK _ _ ?_
        clear hK K
        try simp only [Act.put, lz]
        refine wpAnyIn_done (by kernel_rfl) ?_ _
        gi_wp2_with fail
        refine ⟨HG.out.2.1, HG.out.1, jsA, qsA, i + 1, hJ4.out, h'.out.sub, h'.out.mj, h'.out.qsub, h'.out.qq, ⟨HG.out.2.2.1, HG.out.2.2.2.1, by simpa [Sr.nx] using HG.out.2.2.2.2.1, HG.out.2.2.2.2.2.1, HG.out.2.2.2.2.2.2, by show ((s.i + 1 : Nat) : Int) < many; have := hfin.out; omega⟩, by show i + 1 = s.i + 1; rw [hie.out], Nat.le_trans h'.out.size HG.out.2.1.size, h'.out.mde, h'.out.lj, h'.out.lq, fun x hx => (by cases hx), fun j hj => Nat.lt_of_lt_of_le (h'.out.jl j hj) HG.out.2.1.size, fun q hq => Nat.lt_of_lt_of_le (h'.out.ql q hq) HG.out.2.1.size⟩
     ·have HG := hid (hgo.out A3 hk3)
      have hJ4 := hid hJ3
      clear hgo hR' hyl6 hJ3 hk3
      refine hK _ _ ?_
      clear hK K
      try simp only [Act.put, lz]
      refine rdI 4 (by kernel_rfl) rfl fun K hK => ?_
      go_simp
      refine hK _ _ ?_
      clear hK K
      try simp only [Act.put, lz]
      refine rdI 5 (by kernel_rfl) rfl fun K hK => ?_
      go_simp
      refine hK _ _ ?_
      clear hK K
      try simp only [Act.put, lz]
      refine wpAnyIn_ready (rs := [6, 7]) (by kernel_rfl) (by simp) ?_
      refine AllReadyIn.cons rfl (fun K hK => ?_) (AllReadyIn.cons rfl (fun K hK => ?_) AllReadyIn.nil)
      ·go_simp
       refine hK _ _ ?_
       clear hK K
       try simp only [Act.put, lz]
       refine rdI 7 (by kernel_rfl) rfl fun K hK => ?_
       go_simp
       refine hK _ _ ?_
       clear hK K
       try simp only [Act.put, lz]
       refine rdI 8 (by kernel_rfl) rfl fun K hK => ?_
       go_simp
       refine hK _ _ ?_
       clear hK K
       try simp only [Act.put, lz]
       refine rdI 9 (by kernel_rfl) rfl fun K hK => ?_
       go_simp
       refine hK _ _ ?_
       clear hK K
       try simp only [Act.put, lz]
       refine wpAnyIn_done (by kernel_rfl) ?_ _
       gi_wp2_with fail
       exact ⟨HG.out.2.1, HG.out.1, rfl, Sr.nx ⟨true, W2.heap.size, qsA, jsA, i, some ⟨za, zc, xl⟩⟩ ⟨za, zc, xl⟩, rfl, rfl, h'.out.qsub, h'.out.mde, h'.out.lj, .inl hJ4.out⟩
      ·go_simp
       refine hK _ _ ?_
       clear hK K
       try simp only [Act.put, lz]
       refine rdI 6 (by kernel_rfl) rfl fun K hK => ?_
       go_simp
       refine hK _ _ ?_
       clear hK K
       try simp only [Act.put, lz]
       refine rdI 8 (by kernel_rfl) rfl fun K hK => ?_
       go_simp
       refine hK _ _ ?_
       clear hK K
       try simp only [Act.put, lz]
       refine rdI 9 (by kernel_rfl) rfl fun K hK => ?_
       go_simp
       refine hK _ _ ?_
       clear hK K
       try simp only [Act.put, lz]
       refine wpAnyIn_done (by kernel_rfl) ?_ _
       gi_wp2_with fail
       exact ⟨HG.out.2.1, HG.out.1, rfl, Sr.nx ⟨true, W2.heap.size, qsA, jsA, i, some ⟨za, zc, xl⟩⟩ ⟨za, zc, xl⟩, rfl, rfl, h'.out.qsub, h'.out.mde, h'.out.lj, .inl hJ4.out⟩
    ·go_simp
     refine ⟨trivial, fun h => (by cases h), (CallsIn.inRound l0 (callsIn_wide.2 cCt.out)).mono ?_⟩
     rintro e Wz ⟨za, zc, rfl, hzrow, kz, hzb⟩
     have c3z := kpAt kz c3b
     refine hK _ _ ?_
     clear hK K
     try simp only [Act.put, lz]
     refine rdI 0 (by kernel_rfl) rfl fun K hK => ?_
     go_simp
     refine hK _ _ ?_
     clear hK K
     try simp only [Act.put, lz]
     have kWz := hid (KB.out.trans kz (by simp))
     have hzl := rowLies hzrow
     have hzb2 : ∀ j ∈ blk za, A.heap.size ≤ j := fun j hj => by have := hzb j hj; have := KB.out.size; omega
     have hJz : J ⟨true, W2.heap.size, qsA, jsA, i, some ⟨za, zc, xl⟩⟩ Wz := hT _ _ _ _ h'.out.j ⟨TurnR.ofKp (kWz.out.mono (fun q hq' => by rw [List.mem_singleton.1 hq']; exact .inl h'.out.qq)), fun _ => ⟨rfl, rfl, fun q hq => .inl hq⟩, fun e => (by cases e), fun j hj => .inl hj, rfl, .inr ⟨_, rfl, hR1.out, hzl, fun _ => ⟨hzrow, fun j hj => ⟨hzb2 j hj, fun hm => by have := h'.out.jl j hm; have := hzb2 j hj; omega, fun hm => by have := h'.out.ql j hm; have := hzb2 j hj; omega⟩⟩⟩⟩
     obtain ⟨fn, tmps, assign, body, hyl5, hR⟩ := hY _ ⟨za, zc, xl⟩ Wz hJz rfl
     have hR' : RoundIn (Fence.wide.inRound l0) (n - 1 - 1 - 1) Tryz.prog ly fn tmps assign body Wz _ := RoundIn.anyDepthJ (F := Fence.wide.inRound l0) rfl hR
     have hgo : Hid (∀ A3, KeepR ⟨true, W2.heap.size, qsA, jsA, i, some ⟨za, zc, xl⟩⟩ Wz A3 → KeepR s A A3 ∧ KeepsFrom W2.heap.size A A3 ∧ A3.cell? ⟨q1, 0, none⟩ = some (.int .i64 many) ∧ A3.cell? ⟨q3, 0, none⟩ = some (.func (.yield ly) #[] #[]) ∧ A3.cell? ⟨q4, 0, none⟩ = some (.int .i64 ((s.i : Int) + 1)) ∧ A3.frozen? ⟨q4, 0, none⟩ = false ∧ ∀ k, 1 ≤ k → A3.cell? ⟨q4, k, none⟩ = none) := fun A3 hk3 => by
      have hnr : ∀ j (o : Obj), A.heap[j]? = some o → o.isCells = false → j ∉ [q4] := fun j o ho hc hm => by
       rw [List.mem_singleton.1 hm] at ho
       have := hcel.out
       rw [ho] at this
       simp [hc] at this
      have t1 : KeepR s A Wz := ⟨KeepB.ofKp kWz.out (fun j hj hm => h'.out.lq j hj (List.mem_singleton.1 hm)), fun _ j o _ ho hc => (kWz.out.block j (Array.getElem?_eq_some_iff.1 ho).1 (hnr j o ho hc)).trans ho⟩
      have t2 : KeepR s Wz A3 := ⟨⟨hk3.js.1, fun j hj o ho => hk3.js.2 j (h'.out.sub j hj) o ho⟩, fun hm j o hj ho hc => hk3.recs rfl j o (by have := (h'.out.mde hm).1; show W2.heap.size ≤ j; omega) ho hc⟩
      have ck3 := ckOfKeepB hk3.js
      have kz1 : Kp [] A1 Wz := KD.out.trans kz (by simp)
      have hin : ∀ q ∈ [q1, q3, q4], q ∈ jsA := fun q hq' => h'.out.mj q (by rw [hMj.out]; exact hq')
      have a4 := kpAt kz1 HC.out.2.2.1
      refine ⟨t1.trans t2, ⟨Nat.le_trans kWz.out.size hk3.js.1, fun j o hj ho hc => hk3.recs rfl j o hj ((kWz.out.block j (Array.getElem?_eq_some_iff.1 ho).1 (hnr j o ho hc)).trans ho) hc⟩, (ck3.2 ⟨q1, 0, none⟩ _ (hin q1 (by simp)) (kpAt kz1 HC.out.1)).1, (ck3.2 ⟨q3, 0, none⟩ _ (hin q3 (by simp)) (kpAt kz1 HC.out.2.1)).1, (ck3.2 ⟨q4, 0, none⟩ _ (hin q4 (by simp)) a4).1, ((ck3.2 ⟨q4, 0, none⟩ _ (hin q4 (by simp)) a4).2).trans ((kz1.frozen (p := ⟨q4, 0, none⟩) (World.block_lt_of_cell? _ _ HC.out.2.2.1) (by simp)).trans HC.out.2.2.2), noneCB (CB.ofKeepB hk3.js) (hin q4 (by simp)) a4 (noneCB (CB.ofKp kz1) (by simp) HC.out.2.2.1 HN.out)⟩
     have hyl6 := hyl5
     simp only [encR] at hyl6
     clear hR hJz hzl hzrow kz hzb hzb2 hyl5 cCt
     refine rdI 3 (by kernel_rfl) rfl fun K hK => ?_
     go_simp
     refine ⟨fun h => (by cases h), hR'.mono ?_⟩
     rintro e A3 (⟨rfl, hJ3, hk3⟩ | ⟨rfl, hJ3, hk3⟩)
     ·have HG := hid (hgo.out A3 hk3)
      have hJ4 : Hid (J ⟨true, W2.heap.size, qsA, jsA, i + 1, none⟩ A3) := hJ3
      have y1 := HG.out.2.2.1
      have y4 := HG.out.2.2.2.2.1
      clear hgo hR' hyl6 hJ3 hk3
      refine hK _ _ ?_
      clear hK K
      try simp only [Act.put, lz]
      refine rdI 4 (by kernel_rfl) rfl fun K hK => ?_
      go_simp
      refine hK _ _ ?_
      clear hK K
      try simp only [Act.put, lz]
      refine rdI 5 (by kernel_rfl) rfl fun K hK => ?_
      go_simp
      refine hK _ _ ?_
      clear hK K
      try simp only [Act.put, lz]
      by_cases hfin0 : (s.i : Int) + 1 = many
      ·have dE : ((s.i : Int) + 1 == many) = true := by simpa using hfin0
       have hfin := hid hfin0
       clear hfin0
       refine wpAnyIn_ready (rs := [6, 7]) (by kernel_rfl) (by simp) ?_
       refine AllReadyIn.cons rfl (fun K hK => ?_) (AllReadyIn.cons rfl (fun K hK => ?_) AllReadyIn.nil)
       ·go_simp
        refine hK _ _ ?_
        clear hK K
        try simp only [Act.put, lz]
        refine rdI 7 (by kernel_rfl) rfl fun K hK => ?_
        go_simp
        refine hK _ _ ?_
        clear hK K
        try simp only [Act.put, lz]
        refine rdI 8 (by kernel_rfl) rfl fun K hK => ?_
        go_simp
        refine hK _ _ ?_
        clear hK K
        try simp only [Act.put, lz]
        refine rdI 9 (by kernel_rfl) rfl fun K hK => ?_
        go_simp
        refine hK _ _ ?_
        clear hK K
        try simp only [Act.put, lz]
        refine wpAnyIn_done (by kernel_rfl) ?_ _
        gi_wp2_with fail
        refine ⟨HG.out.2.1, HG.out.1, rfl, ⟨true, W2.heap.size, qsA, jsA, i + 1, none⟩, rfl, rfl, h'.out.qsub, h'.out.mde, h'.out.lj, .inr ⟨?_, rfl, hJ4.out⟩⟩
        show i + 1 = RJ.length
        have h1 := hie.out
        have h2 := hfin.out
        rw [← hRJ.out, List.length_take]
        omega
       ·go_simp
        refine hK _ _ ?_
        clear hK K
        try simp only [Act.put, lz]
        refine rdI 6 (by kernel_rfl) rfl fun K hK => ?_
        go_simp
        refine hK _ _ ?_
        clear hK K
        try simp only [Act.put, lz]
        refine rdI 8 (by kernel_rfl) rfl fun K hK => ?_
        go_simp
        refine hK _ _ ?_
        clear hK K
        try simp only [Act.put, lz]
        refine rdI 9 (by kernel_rfl) rfl fun K hK => ?_
        go_simp
        refine hK _ _ ?_
        clear hK K
        try simp only [Act.put, lz]
        refine wpAnyIn_done (by kernel_rfl) ?_ _
        gi_wp2_with fail
        refine ⟨HG.out.2.1, HG.out.1, rfl, ⟨true, W2.heap.size, qsA, jsA, i + 1, none⟩, rfl, rfl, h'.out.qsub, h'.out.mde, h'.out.lj, .inr ⟨?_, rfl, hJ4.out⟩⟩
        show i + 1 = RJ.length
        have h1 := hie.out
        have h2 := hfin.out
        rw [← hRJ.out, List.length_take]
        omega
      ·have dE : ((s.i : Int) + 1 == many) = false := beq_eq_false_iff_ne.2 hfin0
       have hfin := hid hfin0
       clear hfin0
       refine wpAnyIn_ready (rs := [6, 7]) (by kernel_rfl) (by simp) ?_
       refine AllReadyIn.cons rfl (fun K hK => ?_) (AllReadyIn.cons rfl (fun K hK => ?_) AllReadyIn.nil)
       ·go_simp
        refine hK _ _ ?_
        clear hK K
        try simp only [Act.put, lz]
        refine rdI 7 (by kernel_rfl) rfl fun K hK => ?_
        go_simp
        refine hK _ _ ?_
        clear hK K
        try simp only [Act.put, lz]
        refine rdI 8 (by kernel_rfl) rfl fun K hK => ?_
        go_simp
        refine hK _ _ ?_
        clear hK K
        try simp only [Act.put, lz]
        refine rdI 9 (by kernel_rfl) rfl fun K hK => ?_
        go_simp
        refine hK _ _ ?_
        clear hK K
        try simp only [Act.put, lz]
        refine wpAnyIn_done (by kernel_rfl) ?_ _
        gi_wp2_with fail
        refine ⟨HG.out.2.1, HG.out.1, jsA, qsA, i + 1, hJ4.out, h'.out.sub, h'.out.mj, h'.out.qsub, h'.out.qq, ⟨HG.out.2.2.1, HG.out.2.2.2.1, by simpa [Sr.nx] using HG.out.2.2.2.2.1, HG.out.2.2.2.2.2.1, HG.out.2.2.2.2.2.2, by show ((s.i + 1 : Nat) : Int) < many; have := hfin.out; omega⟩, by show i + 1 = s.i + 1; rw [hie.out], Nat.le_trans h'.out.size HG.out.2.1.size, h'.out.mde, h'.out.lj, h'.out.lq, fun x hx => (by cases hx), fun j hj => Nat.lt_of_lt_of_le (h'.out.jl j hj) HG.out.2.1.size, fun q hq => Nat.lt_of_lt_of_le (h'.out.ql q hq) HG.out.2.1.size⟩
       ·go_simp
        refine hK _ _ ?_
        clear hK K
        try simp only [Act.put, lz]
        refine rdI 6 (by kernel_rfl) rfl fun K hK => ?_
        go_simp
        refine hK _ _ ?_
        clear hK K
        try simp only [Act.put, lz]
        refine rdI 8 (by kernel_rfl) rfl fun K hK => ?_
        go_simp
        refine hK _ _ ?_
        clear hK K
        try simp only [Act.put, lz]
        refine rdI 9 (by kernel_rfl) rfl fun K hK => ?_
        go_simp
        refine hK _ _ ?_
        clear hK K
        try simp only [Act.put, lz]
        refine wpAnyIn_done (by kernel_rfl) ?_ _
        gi_wp2_with fail
        refine ⟨HG.out.2.1, HG.out.1, jsA, qsA, i + 1, hJ4.out, h'.out.sub, h'.out.mj, h'.out.qsub, h'.out.qq, ⟨HG.out.2.2.1, HG.out.2.2.2.1, by simpa [Sr.nx] using HG.out.2.2.2.2.1, HG.out.2.2.2.2.2.1, HG.out.2.2.2.2.2.2, by show ((s.i + 1 : Nat) : Int) < many; have := hfin.out; omega⟩, by show i + 1 = s.i + 1; rw [hie.out], Nat.le_trans h'.out.size HG.out.2.1.size, h'.out.mde, h'.out.lj, h'.out.lq, fun x hx => (by cases hx), fun j hj => Nat.lt_of_lt_of_le (h'.out.jl j hj) HG.out.2.1.size, fun q hq => Nat.lt_of_lt_of_le (h'.out.ql q hq) HG.out.2.1.size⟩
     ·have HG := hid (hgo.out A3 hk3)
      have hJ4 := hid hJ3
      clear hgo hR' hyl6 hJ3 hk3
      refine hK _ _ ?_
      clear hK K
      try simp only [Act.put, lz]
      refine rdI 4 (by kernel_rfl) rfl fun K hK => ?_
      go_simp
      refine hK _ _ ?_
      clear hK K
      try simp only [Act.put, lz]
      refine rdI 5 (by kernel_rfl) rfl fun K hK => ?_
      go_simp
      refine hK _ _ ?_
      clear hK K
      try simp only [Act.put, lz]
      refine wpAnyIn_ready (rs := [6, 7]) (by kernel_rfl) (by simp) ?_
      refine AllReadyIn.cons rfl (fun K hK => ?_) (AllReadyIn.cons rfl (fun K hK => ?_) AllReadyIn.nil)
      ·go_simp
       refine hK _ _ ?_
       clear hK K
       try simp only [Act.put, lz]
       refine rdI 7 (by kernel_rfl) rfl fun K hK => ?_
       go_simp
       refine hK _ _ ?_
       clear hK K
       try simp only [Act.put, lz]
       refine rdI 8 (by kernel_rfl) rfl fun K hK => ?_
       go_simp
       refine hK _ _ ?_
       clear hK K
       try simp only [Act.put, lz]
       refine rdI 9 (by kernel_rfl) rfl fun K hK => ?_
       go_simp
       refine hK _ _ ?_
       clear hK K
       try simp only [Act.put, lz]
       refine wpAnyIn_done (by kernel_rfl) ?_ _
       gi_wp2_with fail
       exact ⟨HG.out.2.1, HG.out.1, rfl, Sr.nx ⟨true, W2.heap.size, qsA, jsA, i, some ⟨za, zc, xl⟩⟩ ⟨za, zc, xl⟩, rfl, rfl, h'.out.qsub, h'.out.mde, h'.out.lj, .inl hJ4.out⟩
      ·go_simp
       refine hK _ _ ?_
       clear hK K
       try simp only [Act.put, lz]
       refine rdI 6 (by kernel_rfl) rfl fun K hK => ?_
       go_simp
       refine hK _ _ ?_
       clear hK K
       try simp only [Act.put, lz]
       refine rdI 8 (by kernel_rfl) rfl fun K hK => ?_
       go_simp
       refine hK _ _ ?_
       clear hK K
       try simp only [Act.put, lz]
       refine rdI 9 (by kernel_rfl) rfl fun K hK => ?_
       go_simp
       refine hK _ _ ?_
       clear hK K
       try simp only [Act.put, lz]
       refine wpAnyIn_done (by kernel_rfl) ?_ _
       gi_wp2_with fail
       exact ⟨HG.out.2.1, HG.out.1, rfl, Sr.nx ⟨true, W2.heap.size, qsA, jsA, i, some ⟨za, zc, xl⟩⟩ ⟨za, zc, xl⟩, rfl, rfl, h'.out.qsub, h'.out.mde, h'.out.lj, .inl hJ4.out⟩
  case done =>
   rintro D s X hD ⟨hmd, hsi, hsp⟩ ⟨jsA, qsA, i, h⟩ hrec
   have hie : i = RJ.length := by
    have h1 := h.rel
    have h2 := h.m.lt
    rw [← hRJ.out, List.length_take]
    omega
   have hJD := hT _ _ _ _ h.j (StepR.same rfl rfl (TurnR.ofGrown (grownBy_putObj' X D (.deferred none)) (fun r e => by cases e; exact ⟨hD, _, hrec, rfl⟩)))
   gi_wp2_with fail
   refine ⟨by simp, .inl ⟨_, _, rfl, run_takeDeferred hrec, ?_⟩⟩
   exact ⟨_, results_none rfl _ _ _, ⟨_, rfl⟩, .inl ⟨_, ⟨rfl, hie, rfl⟩, hJD⟩⟩
  case stop =>
   rintro D c s X hD hsm ⟨rfl, h⟩ hrec
   obtain ⟨s2, h1, h2, h3, h4, h5, h6⟩ := h
   have hJD := JxD.step hT hX _ _ _ h6 ⟨h1, TurnR.ofGrown (grownBy_putObj' X D (.deferred none)) (fun r e => by cases e; exact ⟨by rw [h2]; exact hD, _, hrec, rfl⟩)⟩
   gi_wp2_with fail
   refine ⟨by simp, .inl ⟨_, _, rfl, run_takeDeferred hrec, ?_⟩⟩
   refine ⟨_, results_none rfl _ _ _, ⟨_, rfl⟩, ?_⟩
   rcases hJD with e | ⟨e1, e2, e3⟩
   ·exact .inr ⟨s2, h1, e⟩
   ·exact .inl ⟨s2, ⟨h1, e1, e2⟩, e3⟩
theorem cLimitE (gl : Nat) (lbl : Array Value) (many : Int) (w : World) : Calls Tryz.prog 60 #[.func (.func gl) #[] lbl, .int .i64 many] w fun e w' => e = .returned (.func (.func 109) #[] #[.pointer (some ⟨w.heap.size + 1, 0, none⟩), .pointer (some ⟨w.heap.size, 0, none⟩)]) ∧
  w' = (w.alloc (.cells #[.func (.func gl) #[] lbl] 123)).alloc (.cells #[.int .i64 many] 3) := by
 go_enter Tryz.func60, Tryz.ntmps60
 go_wp2_with fail
 go_returns
 exact ⟨rfl, rfl⟩
theorem heLim : ∀ (args : Array Value) (w : World), (callFunc 109 args).run Tryz.prog w = .ok (.enter 109 args) w := fun _ _ => rfl
theorem limSrc {gl : Nat} {lbl : Array Value} {many : Int} {w w' : World} (hw : w' = (w.alloc (.cells #[.func (.func gl) #[] lbl] 123)).alloc (.cells #[.int .i64 many] 3)) (m : Nat) (hm : 2 ≤ m) (fr : Bool) (RL : List (List Val)) (jsl : List Nat) (heg : ∀ args w, (callFunc gl args).run Tryz.prog w = .ok (.enter gl args) w) (hL : ∀ n, m ≤ n → RowSeq fr (n - 1) gl lbl RL jsl w) (hjl : ∀ j ∈ jsl, j < w.heap.size) (hRLl : ∀ l ∈ RL, l.length ≤ 1800000000000) (hRLn : RL.length ≤ 4000000000000) (hmx : many ≤ 9223372036854775807) :
  ∃ js, (∀ j ∈ js, j < w'.heap.size) ∧ (∀ n, m ≤ n → RowSeq true n 109 #[.pointer (some ⟨w.heap.size + 1, 0, none⟩), .pointer (some ⟨w.heap.size, 0, none⟩)] (RL.take many.toNat) js w') ∧ Kp [] w w' := by
 obtain ⟨wa, ha⟩ : ∃ x, x = w.alloc (.cells #[.func (.func gl) #[] lbl] 123) := ⟨_, rfl⟩
 rw [← ha] at hw
 have za : wa.heap.size = w.heap.size + 1 := by rw [ha]; simp
 have zb : w'.heap.size = w.heap.size + 2 := by rw [hw]; simp [za]
 have ka : Kp [] w wa := by rw [ha]; exact (Kp.refl _ _).alloc _
 have kb : Kp [] wa w' := by rw [hw]; exact (Kp.refl _ _).alloc _
 have ba : Bn wa w.heap.size [.func (.func gl) #[] lbl] := by rw [ha]; exact Bn.new w _ _
 have bb : Bn w' (w.heap.size + 1) [.int .i64 many] := by rw [hw, ← za]; exact Bn.new wa _ _
 have k := ka.trans kb (by simp)
 have hjs : ∀ j ∈ jsl ++ [w.heap.size + 1, w.heap.size], j < w'.heap.size := fun j hj => by
  rcases List.mem_append.1 hj with e | e
  ·have := hjl j e; omega
  ·simp at e; omega
 exact ⟨_, hjs, fun n hn => limSeq n (by omega) _ _ fr gl lbl RL jsl _ many w' heg (bb.get 0 _ rfl) ((ba.kept kb).get 0 _ rfl) (fun q hq => List.mem_append.2 (.inr hq)) (fun j hj => List.mem_append.2 (.inl hj)) hjs ((hL n hn).move (KeepB.ofKp k (by simp))) hRLl hRLn hmx, k⟩
def projF (ps : List Int) (x : List Val) : List (List Val) := [pickV x ps]
theorem projSeq (n : Nat) (hn : 2 ≤ n) (q1 q2 : Nat) (fr : Bool) (gl : Nat) (lbl : Array Value) (RL : List (List Val)) (jsl js : List Nat) (pa : Option Addr) (pc : Nat) (ps : List Int) (w : World)
  (heL : ∀ args w, (callFunc gl args).run Tryz.prog w = .ok (.enter gl args) w)
  (c1 : w.cell? ⟨q1, 0, none⟩ = some (.func (.func gl) #[] lbl)) (c2 : w.cell? ⟨q2, 0, none⟩ = some (Value.slice pa ps.length pc)) (hXw : (fun W => IntE.See W pa ps) w)
  (hq : ∀ q ∈ [q1, q2], q ∈ js) (hjl : ∀ j ∈ jsl, j ∈ js) (hXj : ∀ j ∈ blk pa, j ∈ js) (hjb : ∀ j ∈ js, j < w.heap.size)
  (hL : RowSeq fr (n - 1) gl lbl RL jsl w) (hRLl : ∀ l ∈ RL, l.length ≤ 1800000000000) (hpl : ps.length ≤ 3000000000000) :
  RowSeq true n 145 #[.pointer (some ⟨q1, 0, none⟩), .pointer (some ⟨q2, 0, none⟩)] (RL.flatMap (projF ps)) js w := by
 intro ly J Jx W hW hT hX hY h0
 obtain ⟨f, hf⟩ : ∃ f, Hid (projF ps = f) := ⟨_, rfl⟩
 obtain ⟨RJ, hRJ⟩ : ∃ R, Hid (RL.flatMap f = R) := ⟨_, rfl⟩
 rw [hf.out, hRJ.out] at hT ⊢
 obtain ⟨X, hXd⟩ : ∃ X, Hid ((fun W => IntE.See W pa ps) = X) := ⟨_, rfl⟩
 obtain ⟨Xj, hXjd⟩ : ∃ X, Hid (blk pa = X) := ⟨_, rfl⟩
 have hXck : ∀ A B, X A → CK (fun k => k ∈ Xj) A B → X B := by rw [← hXd.out, ← hXjd.out]; exact (fun A B h k => ckSee k h (fun j hj => hj))
 have hXw : X w := by rw [← hXd.out]; exact hXw
 rw [hXjd.out] at hXj
 have kjs := hW.js
 have d1 := kjs.cell (hq q1 (by simp)) c1
 have d2 := kjs.cell (hq q2 (by simp)) c2
 have dX := hXck _ _ hXw ((ckOfKeepB kjs).mono fun k hk => hXj k hk)
 have hlW := hL.move (W := W) ⟨kjs.1, fun j hj o ho => kjs.2 j (hjl j hj) o ho⟩
 have hjW : ∀ j ∈ js, j < W.heap.size := fun j hj => Nat.lt_of_lt_of_le (hjb j hj) kjs.1
 obtain ⟨W1, hW1, k1, b1⟩ : ∃ W1, W.alloc (.cells #[.func (.yield ly) #[] #[]] 169) = W1 ∧ Kp [] W W1 ∧ Bn W1 W.heap.size [.func (.yield ly) #[] #[]] := ⟨_, rfl, (Kp.refl _ _).alloc _, Bn.new W _ _⟩
 obtain ⟨q3, hq3⟩ : ∃ q, Hid (W.heap.size = q) := ⟨_, rfl⟩
 rw [hq3.out] at b1
 have e1 := kpAt k1 d1
 obtain ⟨Mj, hMj⟩ : ∃ M, Hid (M = q2 :: q3 :: Xj) := ⟨_, rfl⟩
 obtain ⟨V2, hV2⟩ : ∃ v, Hid (Value.slice pa ps.length pc = v) := ⟨_, rfl⟩
 rw [hV2.out] at d2
 have hM1 : MI V2 q2 q3 ly X W1 := ⟨kpAt k1 d2, b1.get 0 _ rfl, hXck _ _ dX ((CK.ofKp k1).mono (by simp))⟩
 have hMst : ∀ A B, MI V2 q2 q3 ly X A → CK (fun k => k ∈ Mj) A B → MI V2 q2 q3 ly X B := fun A B h k => h.ck hXck (by rw [← hMj.out]; exact k)
 have hMn : ∀ j ∈ Mj, j ∈ js ∨ (W.heap.size ≤ j ∧ j < W1.heap.size) := fun j hj => by
  rw [hMj.out] at hj
  rcases List.mem_cons.1 hj with rfl | hj
  ·exact .inl (hq _ (by simp))
  ·rcases List.mem_cons.1 hj with rfl | hj
   ·exact .inr ⟨by rw [← hq3.out]; exact Nat.le_refl _, b1.lt (by simp)⟩
   ·exact .inl (hXj j hj)
 have hMb : ∀ j ∈ Mj, j < W1.heap.size := fun j hj => by
  rcases hMn j hj with e | e
  ·exact Nat.lt_of_lt_of_le (hjW j e) k1.size
  ·exact e.2
 have hJ1 : J ⟨true, W1.heap.size, [], js ++ Mj, 0, none⟩ W1 := hT _ _ _ _ h0 ⟨TurnR.ofKp0 k1, fun h => (by cases h), fun _ => ⟨rfl, k1.size, by simp⟩, fun j hj => by
  rcases List.mem_append.1 hj with e | e
  ·exact .inl e
  ·exact hMn j e, rfl, .inl rfl⟩
 have hI0 : InG J RL RJ f (MI V2 q2 q3 ly X) Mj W1 ⟨false, 0, [], jsl, 0, none⟩ W1 := ⟨js ++ Mj, [], 0, hJ1, fun j hj => List.mem_append.2 (.inl (hjl j hj)), fun j hj => List.mem_append.2 (.inr hj), by simp, hM1, by rw [← hRJ.out]; rfl, Nat.zero_le _, Nat.le_refl _, fun h => (by cases h), fun j hj => by have := hjW j (hjl j hj); have := k1.size; omega, fun x hx => (by cases hx), fun j hj => by
  rcases List.mem_append.1 hj with e | e
  ·have := hjW j e; have := k1.size; omega
  ·exact hMb j e, by simp⟩
 have hsq := hid (hlW.move (KeepB.ofKp k1 (by simp)))
 have HI0 := hid hI0
 have HMS := hid hMst
 have HMB := hid hMb
 have hq3' := hq3.out
 clear c1 c2 hL hW kjs hjb hlW k1 b1 d1 d2 hM1 hMn hJ1 hI0 hMst hMb h0 dX
 refine callsIn_of_wp_marks Tryz.func145 rfl trivial ?_ rfl
 simp only [Tryz.ntmps145, List.size_toArray, List.length_cons, List.length_nil, Nat.reduceAdd, Nat.reduceSub, Array.replicate_succ, Array.replicate_zero, List.push_toArray, List.append_toArray, List.nil_append, List.cons_append]
 refine wpIn_wide.2 ?_
 go_wp2_with fail
 refine (wpIn_wide (n := n)).1 ?_
 refine wpRangeX rfl (by omega) (gf := gl) (lb := lbl) rfl trivial heL
  hsq.out (fun _ => rfl) KeepR.trans (fun s W o => KeepR.alloc s W o) (KeepR.refl _ _)
  (InG J RL RJ f (MI V2 q2 q3 ly X) Mj W1) (fun c s W' => c = .ret ∧ InX Jx W1 s W') (InG.own hT HMS.out) (fun c s X Y row h hg hr => ⟨h.1, InX.own hX s X Y row h.2 hg hr⟩) HI0.out
  (fun s s' A B h ht k o hk ho => h.keeps ht k o hk ho) (fun c s A B h ht k o hk ho => h.2.keeps ht k o hk ho) (fun s s' A B hz h ht => h.step hT HMS.out HMB.out hz ht) (fun c s A B h ht => ⟨h.1, h.2.step hX ht⟩)
  (fun s W o' h => h.recs o') (fun s x W o' h => h.recs' o') (fun c s x W o' h => h.2.recs' o')
  (fun x => { tmps := #[.func (.yield ly) #[] #[], .pointer (some ⟨q1, 0, none⟩), .pointer (some ⟨q2, 0, none⟩), .pointer (some ⟨q3, 0, none⟩), .slice x.a x.l.length x.c, .func (.func gl) #[] lbl, .slice x.a x.l.length x.c, undef, undef, undef, undef, undef, undef], defers := [] }) ?assign ?body ?done ?stop
 case assign =>
  intro l x W C hC
  gi_wp2_with fail
  exact hC
 case body =>
  rintro l0 s ⟨xa, xc, xl⟩ A ⟨jsA, qsA, i, h⟩ hp
  obtain ⟨hRi, hxl⟩ := h.pend _ hp
  dsimp only at hRi ⊢
  have hxn : xl.length ≤ 1800000000000 := hRLl _ (List.mem_of_getElem? hRi)
  have hrel := hid (relStep h.rel hRi)
  have h' := hid h
  have hxl' := hid hxl
  have hmK : Hid (∀ A', Kp [] A A' → MI V2 q2 q3 ly X A') := fun A' k => HMS.out _ _ h'.out.m ((CK.ofKp k).mono (by simp))
  clear h hRi hxl HI0
  rw [← hV2.out] at hmK
  have hR1 : Hid (RJ[i]? = some (pickV xl ps) ∧ RJ.drop (i + 1) = (RL.drop (s.i + 1)).flatMap f ∧ i + 1 ≤ RJ.length) := relOne (by rw [hrel.out, ← hf.out]; rfl)
  obtain ⟨zl, hzl0⟩ : ∃ z, Hid (pickV xl ps = z) := ⟨_, rfl⟩
  rw [hzl0.out] at hR1
  gi_wp2_with fail
  refine wpIn_region_any (by kernel_rfl) ?_
  change wpAnyIn _ _ _ _ _ _ _ _ _ A.drew
  have kD : Kp [] A A.drew := (Kp.refl _ _).drew
  generalize A.drew = wd at *
  have KB := hid kD
  have c2b := (hmK.out wd kD).c2
  have c3b := (hmK.out wd kD).c3
  have cCt : Hid (Calls Tryz.prog 146 #[.slice xa xl.length xc, .slice pa ps.length pc] wd (NewR zl wd)) := by
   rw [← hzl0.out]
   have hx := (hmK.out wd kD).x
   rw [← hXd.out] at hx
   exact cPick xa xc xl pa pc ps wd (hxl'.out.see.kept kD) (by omega) hx hpl
  clear kD
  refine wpAnyIn_ready (rs := [0, 1, 2]) (by kernel_rfl) (by simp) ?_
  refine AllReadyIn.cons rfl (fun K hK => ?_) (AllReadyIn.cons rfl (fun K hK => ?_) (AllReadyIn.cons rfl (fun K hK => ?_) AllReadyIn.nil))
  ·go_simp
   refine hK _ _ ?_
   clear hK K
   try simp only [Act.put, lz]
   refine wpAnyIn_ready (rs := [1, 2]) (by kernel_rfl) (by simp) ?_
   refine AllReadyIn.cons rfl (fun K hK => ?_) (AllReadyIn.cons rfl (fun K hK => ?_) AllReadyIn.nil)
   ·go_simp
    refine hK _ _ ?_
    clear hK K
    try simp only [Act.put, lz]
    refine rdI 2 (by kernel_rfl) rfl fun K hK => ?_
    go_simp
    refine hK _ _ ?_
    clear hK K
    try simp only [Act.put, lz]
    refine rdI 3 (by kernel_rfl) rfl fun K hK => ?_
    go_simp
    refine ⟨trivial, fun h => (by cases h), (CallsIn.inRound l0 (callsIn_wide.2 cCt.out)).mono ?_⟩
    rintro e Wz ⟨za, zc, rfl, hzrow, kz, hzb⟩
    have c3z := kpAt kz c3b
    refine hK _ _ ?_
    clear hK K
    try simp only [Act.put, lz]
    have kWz := hid (KB.out.trans kz (by simp))
    have hzl := rowLies hzrow
    have hzb2 : ∀ j ∈ blk za, A.heap.size ≤ j := fun j hj => by have := hzb j hj; have := KB.out.size; omega
    have hJz : J ⟨true, W1.heap.size, qsA, jsA, i, some ⟨za, zc, zl⟩⟩ Wz := hT _ _ _ _ h'.out.j ⟨TurnR.ofKp0 kWz.out, fun _ => ⟨rfl, rfl, fun q hq => .inl hq⟩, fun e => (by cases e), fun j hj => .inl hj, rfl, .inr ⟨_, rfl, hR1.out.1, hzl, fun _ => ⟨hzrow, fun j hj => ⟨hzb2 j hj, fun hm => by have := h'.out.jl j hm; have := hzb2 j hj; omega, fun hm => by have := h'.out.ql j hm; have := hzb2 j hj; omega⟩⟩⟩⟩
    obtain ⟨fn, tmps, assign, body, hyl5, hR⟩ := hY _ ⟨za, zc, zl⟩ Wz hJz rfl
    have hR' : RoundIn (Fence.wide.inRound l0) (n - 1 - 1 - 1) Tryz.prog ly fn tmps assign body Wz _ := RoundIn.anyDepthJ (F := Fence.wide.inRound l0) rfl hR
    have hgo : Hid (∀ A3, KeepR ⟨true, W1.heap.size, qsA, jsA, i, some ⟨za, zc, zl⟩⟩ Wz A3 → KeepR s A A3 ∧ KeepsFrom W1.heap.size A A3 ∧ KeepB Mj A A3) := fun A3 hk3 => h'.out.keepR (s := ⟨true, W1.heap.size, qsA, jsA, i, some ⟨za, zc, zl⟩⟩) rfl rfl (fun j hj => hj) (KeepR.trans ⟨KeepB.ofKp kWz.out (by simp), fun _ j o _ ho _ => (kWz.out.block j (Array.getElem?_eq_some_iff.1 ho).1 (by simp)).trans ho⟩ hk3)
    have hyl6 := hyl5
    simp only [encR] at hyl6
    clear hR hJz hzl hzrow kz hzb hzb2 hyl5 cCt
    refine rdI 4 (by kernel_rfl) rfl fun K hK => ?_
    go_simp
    refine ⟨fun h => (by cases h), hR'.mono ?_⟩
    rintro e A3 (⟨rfl, hJ3, hk3⟩ | ⟨rfl, hJ3, hk3⟩)
    ·have HG := hid (hgo.out A3 hk3)
     have hJ4 : Hid (J ⟨true, W1.heap.size, qsA, jsA, i + 1, none⟩ A3) := hJ3
     clear hgo hR' hyl6 hJ3 hk3
     refine hK _ _ ?_
     clear hK K
     try simp only [Act.put, lz]
     refine rdI 5 (by kernel_rfl) rfl fun K hK => ?_
     go_simp
     refine hK _ _ ?_
     clear hK K
     try simp only [Act.put, lz]
     refine wpAnyIn_done (by kernel_rfl) ?_ _
     gi_wp2_with fail
     refine ⟨HG.out.2.1, HG.out.1, jsA, qsA, i + 1, hJ4.out, h'.out.sub, h'.out.mj, h'.out.qsub, HMS.out _ _ h'.out.m (ckOfKeepB HG.out.2.2), hR1.out.2.1, hR1.out.2.2, Nat.le_trans h'.out.size HG.out.2.1.size, h'.out.mde, h'.out.lj, fun x hx => (by cases hx), fun j hj => Nat.lt_of_lt_of_le (h'.out.jl j hj) HG.out.2.1.size, fun q hq => Nat.lt_of_lt_of_le (h'.out.ql q hq) HG.out.2.1.size⟩
    ·have HG := hid (hgo.out A3 hk3)
     have hJ4 := hid hJ3
     clear hgo hR' hyl6 hJ3 hk3
     refine hK _ _ ?_
     clear hK K
     try simp only [Act.put, lz]
     refine rdI 5 (by kernel_rfl) rfl fun K hK => ?_
     go_simp
     refine hK _ _ ?_
     clear hK K
     try simp only [Act.put, lz]
     refine wpAnyIn_done (by kernel_rfl) ?_ _
     gi_wp2_with fail
     refine ⟨HG.out.2.1, HG.out.1, rfl, Sr.nx ⟨true, W1.heap.size, qsA, jsA, i, some ⟨za, zc, zl⟩⟩ ⟨za, zc, zl⟩, rfl, rfl, h'.out.qsub, h'.out.mde, h'.out.lj, hJ4.out⟩
   ·go_simp
    refine hK _ _ ?_
    clear hK K
    try simp only [Act.put, lz]
    refine rdI 1 (by kernel_rfl) rfl fun K hK => ?_
    go_simp
    refine hK _ _ ?_
    clear hK K
    try simp only [Act.put, lz]
    refine rdI 3 (by kernel_rfl) rfl fun K hK => ?_
    go_simp
    refine ⟨trivial, fun h => (by cases h), (CallsIn.inRound l0 (callsIn_wide.2 cCt.out)).mono ?_⟩
    rintro e Wz ⟨za, zc, rfl, hzrow, kz, hzb⟩
    have c3z := kpAt kz c3b
    refine hK _ _ ?_
    clear hK K
    try simp only [Act.put, lz]
    have kWz := hid (KB.out.trans kz (by simp))
    have hzl := rowLies hzrow
    have hzb2 : ∀ j ∈ blk za, A.heap.size ≤ j := fun j hj => by have := hzb j hj; have := KB.out.size; omega
    have hJz : J ⟨true, W1.heap.size, qsA, jsA, i, some ⟨za, zc, zl⟩⟩ Wz := hT _ _ _ _ h'.out.j ⟨TurnR.ofKp0 kWz.out, fun _ => ⟨rfl, rfl, fun q hq => .inl hq⟩, fun e => (by cases e), fun j hj => .inl hj, rfl, .inr ⟨_, rfl, hR1.out.1, hzl, fun _ => ⟨hzrow, fun j hj => ⟨hzb2 j hj, fun hm => by have := h'.out.jl j hm; have := hzb2 j hj; omega, fun hm => by have := h'.out.ql j hm; have := hzb2 j hj; omega⟩⟩⟩⟩
    obtain ⟨fn, tmps, assign, body, hyl5, hR⟩ := hY _ ⟨za, zc, zl⟩ Wz hJz rfl
    have hR' : RoundIn (Fence.wide.inRound l0) (n - 1 - 1 - 1) Tryz.prog ly fn tmps assign body Wz _ := RoundIn.anyDepthJ (F := Fence.wide.inRound l0) rfl hR
    have hgo : Hid (∀ A3, KeepR ⟨true, W1.heap.size, qsA, jsA, i, some ⟨za, zc, zl⟩⟩ Wz A3 → KeepR s A A3 ∧ KeepsFrom W1.heap.size A A3 ∧ KeepB Mj A A3) := fun A3 hk3 => h'.out.keepR (s := ⟨true, W1.heap.size, qsA, jsA, i, some ⟨za, zc, zl⟩⟩) rfl rfl (fun j hj => hj) (KeepR.trans ⟨KeepB.ofKp kWz.out (by simp), fun _ j o _ ho _ => (kWz.out.block j (Array.getElem?_eq_some_iff.1 ho).1 (by simp)).trans ho⟩ hk3)
    have hyl6 := hyl5
    simp only [encR] at hyl6
    clear hR hJz hzl hzrow kz hzb hzb2 hyl5 cCt
    refine rdI 4 (by kernel_rfl) rfl fun K hK => ?_
    go_simp
    refine ⟨fun h => (by cases h), hR'.mono ?_⟩
    rintro e A3 (⟨rfl, hJ3, hk3⟩ | ⟨rfl, hJ3, hk3⟩)
    ·have HG := hid (hgo.out A3 hk3)
     have hJ4 : Hid (J ⟨true, W1.heap.size, qsA, jsA, i + 1, none⟩ A3) := hJ3
     clear hgo hR' hyl6 hJ3 hk3
     refine hK _ _ ?_
     clear hK K
     try simp only [Act.put, lz]
     refine rdI 5 (by kernel_rfl) rfl fun K hK => ?_
     go_simp
     refine hK _ _ ?_
     clear hK K
     try simp only [Act.put, lz]
     refine wpAnyIn_done (by kernel_rfl) ?_ _
     gi_wp2_with fail
     refine ⟨HG.out.2.1, HG.out.1, jsA, qsA, i + 1, hJ4.out, h'.out.sub, h'.out.mj, h'.out.qsub, HMS.out _ _ h'.out.m (ckOfKeepB HG.out.2.2), hR1.out.2.1, hR1.out.2.2, Nat.le_trans h'.out.size HG.out.2.1.size, h'.out.mde, h'.out.lj, fun x hx => (by cases hx), fun j hj => Nat.lt_of_lt_of_le (h'.out.jl j hj) HG.out.2.1.size, fun q hq => Nat.lt_of_lt_of_le (h'.out.ql q hq) HG.out.2.1.size⟩
    ·have HG := hid (hgo.out A3 hk3)
     have hJ4 := hid hJ3
     clear hgo hR' hyl6 hJ3 hk3
     refine hK _ _ ?_
     clear hK K
     try simp only [Act.put, lz]
     refine rdI 5 (by kernel_rfl) rfl fun K hK => ?_
     go_simp
     refine hK _ _ ?_
     clear hK K
     try simp only [Act.put, lz]
     refine wpAnyIn_done (by kernel_rfl) ?_ _
     gi_wp2_with fail
     refine ⟨HG.out.2.1, HG.out.1, rfl, Sr.nx ⟨true, W1.heap.size, qsA, jsA, i, some ⟨za, zc, zl⟩⟩ ⟨za, zc, zl⟩, rfl, rfl, h'.out.qsub, h'.out.mde, h'.out.lj, hJ4.out⟩
  ·go_simp
   refine hK _ _ ?_
   clear hK K
   try simp only [Act.put, lz]
   refine wpAnyIn_ready (rs := [0, 2]) (by kernel_rfl) (by simp) ?_
   refine AllReadyIn.cons rfl (fun K hK => ?_) (AllReadyIn.cons rfl (fun K hK => ?_) AllReadyIn.nil)
   ·go_simp
    refine hK _ _ ?_
    clear hK K
    try simp only [Act.put, lz]
    refine rdI 2 (by kernel_rfl) rfl fun K hK => ?_
    go_simp
    refine hK _ _ ?_
    clear hK K
    try simp only [Act.put, lz]
    refine rdI 3 (by kernel_rfl) rfl fun K hK => ?_
    go_simp
    refine ⟨trivial, fun h => (by cases h), (CallsIn.inRound l0 (callsIn_wide.2 cCt.out)).mono ?_⟩
    rintro e Wz ⟨za, zc, rfl, hzrow, kz, hzb⟩
    have c3z := kpAt kz c3b
    refine hK _ _ ?_
    clear hK K
    try simp only [Act.put, lz]
    have kWz := hid (KB.out.trans kz (by simp))
    have hzl := rowLies hzrow
    have hzb2 : ∀ j ∈ blk za, A.heap.size ≤ j := fun j hj => by have := hzb j hj; have := KB.out.size; omega
    have hJz : J ⟨true, W1.heap.size, qsA, jsA, i, some ⟨za, zc, zl⟩⟩ Wz := hT _ _ _ _ h'.out.j ⟨TurnR.ofKp0 kWz.out, fun _ => ⟨rfl, rfl, fun q hq => .inl hq⟩, fun e => (by cases e), fun j hj => .inl hj, rfl, .inr ⟨_, rfl, hR1.out.1, hzl, fun _ => ⟨hzrow, fun j hj => ⟨hzb2 j hj, fun hm => by have := h'.out.jl j hm; have := hzb2 j hj; omega, fun hm => by have := h'.out.ql j hm; have := hzb2 j hj; omega⟩⟩⟩⟩
    obtain ⟨fn, tmps, assign, body, hyl5, hR⟩ := hY _ ⟨za, zc, zl⟩ Wz hJz rfl
    have hR' : RoundIn (Fence.wide.inRound l0) (n - 1 - 1 - 1) Tryz.prog ly fn tmps assign body Wz _ := RoundIn.anyDepthJ (F := Fence.wide.inRound l0) rfl hR
    have hgo : Hid (∀ A3, KeepR ⟨true, W1.heap.size, qsA, jsA, i, some ⟨za, zc, zl⟩⟩ Wz A3 → KeepR s A A3 ∧ KeepsFrom W1.heap.size A A3 ∧ KeepB Mj A A3) := fun A3 hk3 => h'.out.keepR (s := ⟨true, W1.heap.size, qsA, jsA, i, some ⟨za, zc, zl⟩⟩) rfl rfl (fun j hj => hj) (KeepR.trans ⟨KeepB.ofKp kWz.out (by simp), fun _ j o _ ho _ => (kWz.out.block j (Array.getElem?_eq_some_iff.1 ho).1 (by simp)).trans ho⟩ hk3)
    have hyl6 := hyl5
    simp only [encR] at hyl6
    clear hR hJz hzl hzrow kz hzb hzb2 hyl5 cCt
    refine rdI 4 (by kernel_rfl) rfl fun K hK => ?_
    go_simp
    refine ⟨fun h => (by cases h), hR'.mono ?_⟩
    rintro e A3 (⟨rfl, hJ3, hk3⟩ | ⟨rfl, hJ3, hk3⟩)
    ·have HG := hid (hgo.out A3 hk3)
     have hJ4 : Hid (J ⟨true, W1.heap.size, qsA, jsA, i + 1, none⟩ A3) := hJ3
     clear hgo hR' hyl6 hJ3 hk3
     refine hK _ _ ?_
     clear hK K
     try simp only [Act.put, lz]
     refine rdI 5 (by kernel_rfl) rfl fun K hK => ?_
     go_simp
     refine hK _ _ ?_
     clear hK K
     try simp only [Act.put, lz]
     refine wpAnyIn_done (by kernel_rfl) ?_ _
     gi_wp2_with fail
     refine ⟨HG.out.2.1, HG.out.1, jsA, qsA, i + 1, hJ4.out, h'.out.sub, h'.out.mj, h'.out.qsub, HMS.out _ _ h'.out.m (ckOfKeepB HG.out.2.2), hR1.out.2.1, hR1.out.2.2, Nat.le_trans h'.out.size HG.out.2.1.size, h'.out.mde, h'.out.lj, fun x hx => (by cases hx), fun j hj => Nat.lt_of_lt_of_le (h'.out.jl j hj) HG.out.2.1.size, fun q hq => Nat.lt_of_lt_of_le (h'.out.ql q hq) HG.out.2.1.size⟩
    ·have HG := hid (hgo.out A3 hk3)
     have hJ4 := hid hJ3
     clear hgo hR' hyl6 hJ3 hk3
     refine hK _ _ ?_
     clear hK K
     try simp only [Act.put, lz]
     refine rdI 5 (by kernel_rfl) rfl fun K hK => ?_
     go_simp
     refine hK _ _ ?_
     clear hK K
     try simp only [Act.put, lz]
     refine wpAnyIn_done (by kernel_rfl) ?_ _
     gi_wp2_with fail
     refine ⟨HG.out.2.1, HG.out.1, rfl, Sr.nx ⟨true, W1.heap.size, qsA, jsA, i, some ⟨za, zc, zl⟩⟩ ⟨za, zc, zl⟩, rfl, rfl, h'.out.qsub, h'.out.mde, h'.out.lj, hJ4.out⟩
   ·go_simp
    refine hK _ _ ?_
    clear hK K
    try simp only [Act.put, lz]
    refine wpAnyIn_ready (rs := [0, 3]) (by kernel_rfl) (by simp) ?_
    refine AllReadyIn.cons rfl (fun K hK => ?_) (AllReadyIn.cons rfl (fun K hK => ?_) AllReadyIn.nil)
    ·go_simp
     refine hK _ _ ?_
     clear hK K
     try simp only [Act.put, lz]
     refine rdI 3 (by kernel_rfl) rfl fun K hK => ?_
     go_simp
     refine ⟨trivial, fun h => (by cases h), (CallsIn.inRound l0 (callsIn_wide.2 cCt.out)).mono ?_⟩
     rintro e Wz ⟨za, zc, rfl, hzrow, kz, hzb⟩
     have c3z := kpAt kz c3b
     refine hK _ _ ?_
     clear hK K
     try simp only [Act.put, lz]
     have kWz := hid (KB.out.trans kz (by simp))
     have hzl := rowLies hzrow
     have hzb2 : ∀ j ∈ blk za, A.heap.size ≤ j := fun j hj => by have := hzb j hj; have := KB.out.size; omega
     have hJz : J ⟨true, W1.heap.size, qsA, jsA, i, some ⟨za, zc, zl⟩⟩ Wz := hT _ _ _ _ h'.out.j ⟨TurnR.ofKp0 kWz.out, fun _ => ⟨rfl, rfl, fun q hq => .inl hq⟩, fun e => (by cases e), fun j hj => .inl hj, rfl, .inr ⟨_, rfl, hR1.out.1, hzl, fun _ => ⟨hzrow, fun j hj => ⟨hzb2 j hj, fun hm => by have := h'.out.jl j hm; have := hzb2 j hj; omega, fun hm => by have := h'.out.ql j hm; have := hzb2 j hj; omega⟩⟩⟩⟩
     obtain ⟨fn, tmps, assign, body, hyl5, hR⟩ := hY _ ⟨za, zc, zl⟩ Wz hJz rfl
     have hR' : RoundIn (Fence.wide.inRound l0) (n - 1 - 1 - 1) Tryz.prog ly fn tmps assign body Wz _ := RoundIn.anyDepthJ (F := Fence.wide.inRound l0) rfl hR
     have hgo : Hid (∀ A3, KeepR ⟨true, W1.heap.size, qsA, jsA, i, some ⟨za, zc, zl⟩⟩ Wz A3 → KeepR s A A3 ∧ KeepsFrom W1.heap.size A A3 ∧ KeepB Mj A A3) := fun A3 hk3 => h'.out.keepR (s := ⟨true, W1.heap.size, qsA, jsA, i, some ⟨za, zc, zl⟩⟩) rfl rfl (fun j hj => hj) (KeepR.trans ⟨KeepB.ofKp kWz.out (by simp), fun _ j o _ ho _ => (kWz.out.block j (Array.getElem?_eq_some_iff.1 ho).1 (by simp)).trans ho⟩ hk3)
     have hyl6 := hyl5
     simp only [encR] at hyl6
     clear hR hJz hzl hzrow kz hzb hzb2 hyl5 cCt
     refine rdI 4 (by kernel_rfl) rfl fun K hK => ?_
     go_simp
     refine ⟨fun h => (by cases h), hR'.mono ?_⟩
     rintro e A3 (⟨rfl, hJ3, hk3⟩ | ⟨rfl, hJ3, hk3⟩)
     ·have HG := hid (hgo.out A3 hk3)
      have hJ4 : Hid (J ⟨true, W1.heap.size, qsA, jsA, i + 1, none⟩ A3) := hJ3
      clear hgo hR' hyl6 hJ3 hk3
      refine hK _ _ ?_
      clear hK K
      try simp only [Act.put, lz]
      refine rdI 5 (by kernel_rfl) rfl fun K hK => ?_
      go_simp
      refine hK _ _ ?_
      clear hK K
      try simp only [Act.put, lz]
      refine wpAnyIn_done (by kernel_rfl) ?_ _
      gi_wp2_with fail
      refine ⟨HG.out.2.1, HG.out.1, jsA, qsA, i + 1, hJ4.out, h'.out.sub, h'.out.mj, h'.out.qsub, HMS.out _ _ h'.out.m (ckOfKeepB HG.out.2.2), hR1.out.2.1, hR1.out.2.2, Nat.le_trans h'.out.size HG.out.2.1.size, h'.out.mde, h'.out.lj, fun x hx => (by cases hx), fun j hj => Nat.lt_of_lt_of_le (h'.out.jl j hj) HG.out.2.1.size, fun q hq => Nat.lt_of_lt_of_le (h'.out.ql q hq) HG.out.2.1.size⟩
     ·have HG := hid (hgo.out A3 hk3)
      have hJ4 := hid hJ3
      clear hgo hR' hyl6 hJ3 hk3
      refine hK _ _ ?_
      clear hK K
      try simp only [Act.put, lz]
      refine rdI 5 (by kernel_rfl) rfl fun K hK => ?_
      go_simp
      refine hK _ _ ?_
      clear hK K
      try simp only [Act.put, lz]
      refine wpAnyIn_done (by kernel_rfl) ?_ _
      gi_wp2_with fail
      refine ⟨HG.out.2.1, HG.out.1, rfl, Sr.nx ⟨true, W1.heap.size, qsA, jsA, i, some ⟨za, zc, zl⟩⟩ ⟨za, zc, zl⟩, rfl, rfl, h'.out.qsub, h'.out.mde, h'.out.lj, hJ4.out⟩
    ·go_simp
     refine ⟨trivial, fun h => (by cases h), (CallsIn.inRound l0 (callsIn_wide.2 cCt.out)).mono ?_⟩
     rintro e Wz ⟨za, zc, rfl, hzrow, kz, hzb⟩
     have c3z := kpAt kz c3b
     refine hK _ _ ?_
     clear hK K
     try simp only [Act.put, lz]
     refine rdI 0 (by kernel_rfl) rfl fun K hK => ?_
     go_simp
     refine hK _ _ ?_
     clear hK K
     try simp only [Act.put, lz]
     have kWz := hid (KB.out.trans kz (by simp))
     have hzl := rowLies hzrow
     have hzb2 : ∀ j ∈ blk za, A.heap.size ≤ j := fun j hj => by have := hzb j hj; have := KB.out.size; omega
     have hJz : J ⟨true, W1.heap.size, qsA, jsA, i, some ⟨za, zc, zl⟩⟩ Wz := hT _ _ _ _ h'.out.j ⟨TurnR.ofKp0 kWz.out, fun _ => ⟨rfl, rfl, fun q hq => .inl hq⟩, fun e => (by cases e), fun j hj => .inl hj, rfl, .inr ⟨_, rfl, hR1.out.1, hzl, fun _ => ⟨hzrow, fun j hj => ⟨hzb2 j hj, fun hm => by have := h'.out.jl j hm; have := hzb2 j hj; omega, fun hm => by have := h'.out.ql j hm; have := hzb2 j hj; omega⟩⟩⟩⟩
     obtain ⟨fn, tmps, assign, body, hyl5, hR⟩ := hY _ ⟨za, zc, zl⟩ Wz hJz rfl
     have hR' : RoundIn (Fence.wide.inRound l0) (n - 1 - 1 - 1) Tryz.prog ly fn tmps assign body Wz _ := RoundIn.anyDepthJ (F := Fence.wide.inRound l0) rfl hR
     have hgo : Hid (∀ A3, KeepR ⟨true, W1.heap.size, qsA, jsA, i, some ⟨za, zc, zl⟩⟩ Wz A3 → KeepR s A A3 ∧ KeepsFrom W1.heap.size A A3 ∧ KeepB Mj A A3) := fun A3 hk3 => h'.out.keepR (s := ⟨true, W1.heap.size, qsA, jsA, i, some ⟨za, zc, zl⟩⟩) rfl rfl (fun j hj => hj) (KeepR.trans ⟨KeepB.ofKp kWz.out (by simp), fun _ j o _ ho _ => (kWz.out.block j (Array.getElem?_eq_some_iff.1 ho).1 (by simp)).trans ho⟩ hk3)
     have hyl6 := hyl5
     simp only [encR] at hyl6
     clear hR hJz hzl hzrow kz hzb hzb2 hyl5 cCt
     refine rdI 4 (by kernel_rfl) rfl fun K hK => ?_
     go_simp
     refine ⟨fun h => (by cases h), hR'.mono ?_⟩
     rintro e A3 (⟨rfl, hJ3, hk3⟩ | ⟨rfl, hJ3, hk3⟩)
     ·have HG := hid (hgo.out A3 hk3)
      have hJ4 : Hid (J ⟨true, W1.heap.size, qsA, jsA, i + 1, none⟩ A3) := hJ3
      clear hgo hR' hyl6 hJ3 hk3
      refine hK _ _ ?_
      clear hK K
      try simp only [Act.put, lz]
      refine rdI 5 (by kernel_rfl) rfl fun K hK => ?_
      go_simp
      refine hK _ _ ?_
      clear hK K
      try simp only [Act.put, lz]
      refine wpAnyIn_done (by kernel_rfl) ?_ _
      gi_wp2_with fail
      refine ⟨HG.out.2.1, HG.out.1, jsA, qsA, i + 1, hJ4.out, h'.out.sub, h'.out.mj, h'.out.qsub, HMS.out _ _ h'.out.m (ckOfKeepB HG.out.2.2), hR1.out.2.1, hR1.out.2.2, Nat.le_trans h'.out.size HG.out.2.1.size, h'.out.mde, h'.out.lj, fun x hx => (by cases hx), fun j hj => Nat.lt_of_lt_of_le (h'.out.jl j hj) HG.out.2.1.size, fun q hq => Nat.lt_of_lt_of_le (h'.out.ql q hq) HG.out.2.1.size⟩
     ·have HG := hid (hgo.out A3 hk3)
      have hJ4 := hid hJ3
      clear hgo hR' hyl6 hJ3 hk3
      refine hK _ _ ?_
      clear hK K
      try simp only [Act.put, lz]
      refine rdI 5 (by kernel_rfl) rfl fun K hK => ?_
      go_simp
      refine hK _ _ ?_
      clear hK K
      try simp only [Act.put, lz]
      refine wpAnyIn_done (by kernel_rfl) ?_ _
      gi_wp2_with fail
      refine ⟨HG.out.2.1, HG.out.1, rfl, Sr.nx ⟨true, W1.heap.size, qsA, jsA, i, some ⟨za, zc, zl⟩⟩ ⟨za, zc, zl⟩, rfl, rfl, h'.out.qsub, h'.out.mde, h'.out.lj, hJ4.out⟩
  ·go_simp
   refine hK _ _ ?_
   clear hK K
   try simp only [Act.put, lz]
   refine wpAnyIn_ready (rs := [0, 1]) (by kernel_rfl) (by simp) ?_
   refine AllReadyIn.cons rfl (fun K hK => ?_) (AllReadyIn.cons rfl (fun K hK => ?_) AllReadyIn.nil)
   ·go_simp
    refine hK _ _ ?_
    clear hK K
    try simp only [Act.put, lz]
    refine rdI 1 (by kernel_rfl) rfl fun K hK => ?_
    go_simp
    refine hK _ _ ?_
    clear hK K
    try simp only [Act.put, lz]
    refine rdI 3 (by kernel_rfl) rfl fun K hK => ?_
    go_simp
    refine ⟨trivial, fun h => (by cases h), (CallsIn.inRound l0 (callsIn_wide.2 cCt.out)).mono ?_⟩
    rintro e Wz ⟨za, zc, rfl, hzrow, kz, hzb⟩
    have c3z := kpAt kz c3b
    refine hK _ _ ?_
    clear hK K
    try simp only [Act.put, lz]
    have kWz := hid (KB.out.trans kz (by simp))
    have hzl := rowLies hzrow
    have hzb2 : ∀ j ∈ blk za, A.heap.size ≤ j := fun j hj => by have := hzb j hj; have := KB.out.size; omega
    have hJz : J ⟨true, W1.heap.size, qsA, jsA, i, some ⟨za, zc, zl⟩⟩ Wz := hT _ _ _ _ h'.out.j ⟨TurnR.ofKp0 kWz.out, fun _ => ⟨rfl, rfl, fun q hq => .inl hq⟩, fun e => (by cases e), fun j hj => .inl hj, rfl, .inr ⟨_, rfl, hR1.out.1, hzl, fun _ => ⟨hzrow, fun j hj => ⟨hzb2 j hj, fun hm => by have := h'.out.jl j hm; have := hzb2 j hj; omega, fun hm => by have := h'.out.ql j hm; have := hzb2 j hj; omega⟩⟩⟩⟩
    obtain ⟨fn, tmps, assign, body, hyl5, hR⟩ := hY _ ⟨za, zc, zl⟩ Wz hJz rfl
    have hR' : RoundIn (Fence.wide.inRound l0) (n - 1 - 1 - 1) Tryz.prog ly fn tmps assign body Wz _ := RoundIn.anyDepthJ (F := Fence.wide.inRound l0) rfl hR
    have hgo : Hid (∀ A3, KeepR ⟨true, W1.heap.size, qsA, jsA, i, some ⟨za, zc, zl⟩⟩ Wz A3 → KeepR s A A3 ∧ KeepsFrom W1.heap.size A A3 ∧ KeepB Mj A A3) := fun A3 hk3 => h'.out.keepR (s := ⟨true, W1.heap.size, qsA, jsA, i, some ⟨za, zc, zl⟩⟩) rfl rfl (fun j hj => hj) (KeepR.trans ⟨KeepB.ofKp kWz.out (by simp), fun _ j o _ ho _ => (kWz.out.block j (Array.getElem?_eq_some_iff.1 ho).1 (by simp)).trans ho⟩ hk3)
    have hyl6 := hyl5
    simp only [encR] at hyl6
    clear hR hJz hzl hzrow kz hzb hzb2 hyl5 cCt
    refine rdI 4 (by kernel_rfl) rfl fun K hK => ?_
    go_simp
    refine ⟨fun h => (by cases h), hR'.mono ?_⟩
    rintro e A3 (⟨rfl, hJ3, hk3⟩ | ⟨rfl, hJ3, hk3⟩)
    ·have HG := hid (hgo.out A3 hk3)
     have hJ4 : Hid (J ⟨true, W1.heap.size, qsA, jsA, i + 1, none⟩ A3) := hJ3
     clear hgo hR' hyl6 hJ3 hk3
     refine hK _ _ ?_
     clear hK K
     try simp only [Act.put, lz]
     refine rdI 5 (by kernel_rfl) rfl fun K hK => ?_
     go_simp
     refine hK _ _ ?_
     clear hK K
     try simp only [Act.put, lz]
     refine wpAnyIn_done (by kernel_rfl) ?_ _
     gi_wp2_with fail
     refine ⟨HG.out.2.1, HG.out.1, jsA, qsA, i + 1, hJ4.out, h'.out.sub, h'.out.mj, h'.out.qsub, HMS.out _ _ h'.out.m (ckOfKeepB HG.out.2.2), hR1.out.2.1, hR1.out.2.2, Nat.le_trans h'.out.size HG.out.2.1.size, h'.out.mde, h'.out.lj, fun x hx => (by cases hx), fun j hj => Nat.lt_of_lt_of_le (h'.out.jl j hj) HG.out.2.1.size, fun q hq => Nat.lt_of_lt_of_le (h'.out.ql q hq) HG.out.2.1.size⟩
    ·have HG := hid (hgo.out A3 hk3)
     have hJ4 := hid hJ3
     clear hgo hR' hyl6 hJ3 hk3
     refine hK _ _ ?_
     clear hK K
     try simp only [Act.put, lz]
     refine rdI 5 (by kernel_rfl) rfl fun K hK => ?_
     go_simp
     refine hK _ _ ?_
     clear hK K
     try simp only [Act.put, lz]
     refine wpAnyIn_done (by kernel_rfl) ?_ _
     gi_wp2_with fail
     refine ⟨HG.out.2.1, HG.out.1, rfl, Sr.nx ⟨true, W1.heap.size, qsA, jsA, i, some ⟨za, zc, zl⟩⟩ ⟨za, zc, zl⟩, rfl, rfl, h'.out.qsub, h'.out.mde, h'.out.lj, hJ4.out⟩
   ·go_simp
    refine hK _ _ ?_
    clear hK K
    try simp only [Act.put, lz]
    refine wpAnyIn_ready (rs := [0, 3]) (by kernel_rfl) (by simp) ?_
    refine AllReadyIn.cons rfl (fun K hK => ?_) (AllReadyIn.cons rfl (fun K hK => ?_) AllReadyIn.nil)
    ·go_simp
     refine hK _ _ ?_
     clear hK K
     try simp only [Act.put, lz]
     refine rdI 3 (by kernel_rfl) rfl fun K hK => ?_
     go_simp
     refine ⟨trivial, fun h => (by cases h), (CallsIn.inRound l0 (callsIn_wide.2 cCt.out)).mono ?_⟩
     rintro e Wz ⟨za, zc, rfl, hzrow, kz, hzb⟩
     have c3z := kpAt kz c3b
     refine hK _ _ ?_
     clear hK K
     try simp only [Act.put, lz]
     have kWz := hid (KB.out.trans kz (by simp))
     have hzl := rowLies hzrow
     have hzb2 : ∀ j ∈ blk za, A.heap.size ≤ j := fun j hj => by have := hzb j hj; have := KB.out.size; omega
     have hJz : J ⟨true, W1.heap.size, qsA, jsA, i, some ⟨za, zc, zl⟩⟩ Wz := hT _ _ _ _ h'.out.j ⟨TurnR.ofKp0 kWz.out, fun _ => ⟨rfl, rfl, fun q hq => .inl hq⟩, fun e => (by cases e), fun j hj => .inl hj, rfl, .inr ⟨_, rfl, hR1.out.1, hzl, fun _ => ⟨hzrow, fun j hj => ⟨hzb2 j hj, fun hm => by have := h'.out.jl j hm; have := hzb2 j hj; omega, fun hm => by have := h'.out.ql j hm; have := hzb2 j hj; omega⟩⟩⟩⟩
     obtain ⟨fn, tmps, assign, body, hyl5, hR⟩ := hY _ ⟨za, zc, zl⟩ Wz hJz rfl
     have hR' : RoundIn (Fence.wide.inRound l0) (n - 1 - 1 - 1) Tryz.prog ly fn tmps assign body Wz _ := RoundIn.anyDepthJ (F := Fence.wide.inRound l0) rfl hR
     have hgo : Hid (∀ A3, KeepR ⟨true, W1.heap.size, qsA, jsA, i, some ⟨za, zc, zl⟩⟩ Wz A3 → KeepR s A A3 ∧ KeepsFrom W1.heap.size A A3 ∧ KeepB Mj A A3) := fun A3 hk3 => h'.out.keepR (s := ⟨true, W1.heap.size, qsA, jsA, i, some ⟨za, zc, zl⟩⟩) rfl rfl (fun j hj => hj) (KeepR.trans ⟨KeepB.ofKp kWz.out (by simp), fun _ j o _ ho _ => (kWz.out.block j (Array.getElem?_eq_some_iff.1 ho).1 (by simp)).trans ho⟩ hk3)
     have hyl6 := hyl5
     simp only [encR] at hyl6
     clear hR hJz hzl hzrow kz hzb hzb2 hyl5 cCt
     refine rdI 4 (by kernel_rfl) rfl fun K hK => ?_
     go_simp
     refine ⟨fun h => (by cases h), hR'.mono ?_⟩
     rintro e A3 (⟨rfl, hJ3, hk3⟩ | ⟨rfl, hJ3, hk3⟩)
     ·have HG := hid (hgo.out A3 hk3)
      have hJ4 : Hid (J ⟨true, W1.heap.size, qsA, jsA, i + 1, none⟩ A3) := hJ3
      clear hgo hR' hyl6 hJ3 hk3
      refine hK _ _ ?_
      clear hK K
      try simp only [Act.put, lz]
      refine rdI 5 (by kernel_rfl) rfl fun K hK => ?_
      go_simp
      refine hK _ _ ?_
      clear hK K
      try simp only [Act.put, lz]
      refine wpAnyIn_done (by kernel_rfl) ?_ _
      gi_wp2_with fail
      refine ⟨HG.out.2.1, HG.out.1, jsA, qsA, i + 1, hJ4.out, h'.out.sub, h'.out.mj, h'.out.qsub, HMS.out _ _ h'.out.m (ckOfKeepB HG.out.2.2), hR1.out.2.1, hR1.out.2.2, Nat.le_trans h'.out.size HG.out.2.1.size, h'.out.mde, h'.out.lj, fun x hx => (by cases hx), fun j hj => Nat.lt_of_lt_of_le (h'.out.jl j hj) HG.out.2.1.size, fun q hq => Nat.lt_of_lt_of_le (h'.out.ql q hq) HG.out.2.1.size⟩
     ·have HG := hid (hgo.out A3 hk3)
      have hJ4 := hid hJ3
      clear hgo hR' hyl6 hJ3 hk3
      refine hK _ _ ?_
      clear hK K
      try simp only [Act.put, lz]
      refine rdI 5 (by kernel_rfl) rfl fun K hK => ?_
      go_simp
      refine hK _ _ ?_
      clear hK K
      try simp only [Act.put, lz]
      refine wpAnyIn_done (by kernel_rfl) ?_ _
      gi_wp2_with fail
      refine ⟨HG.out.2.1, HG.out.1, rfl, Sr.nx ⟨true, W1.heap.size, qsA, jsA, i, some ⟨za, zc, zl⟩⟩ ⟨za, zc, zl⟩, rfl, rfl, h'.out.qsub, h'.out.mde, h'.out.lj, hJ4.out⟩
    ·go_simp
     refine ⟨trivial, fun h => (by cases h), (CallsIn.inRound l0 (callsIn_wide.2 cCt.out)).mono ?_⟩
     rintro e Wz ⟨za, zc, rfl, hzrow, kz, hzb⟩
     have c3z := kpAt kz c3b
     refine hK _ _ ?_
     clear hK K
     try simp only [Act.put, lz]
     refine rdI 0 (by kernel_rfl) rfl fun K hK => ?_
     go_simp
     refine hK _ _ ?_
     clear hK K
     try simp only [Act.put, lz]
     have kWz := hid (KB.out.trans kz (by simp))
     have hzl := rowLies hzrow
     have hzb2 : ∀ j ∈ blk za, A.heap.size ≤ j := fun j hj => by have := hzb j hj; have := KB.out.size; omega
     have hJz : J ⟨true, W1.heap.size, qsA, jsA, i, some ⟨za, zc, zl⟩⟩ Wz := hT _ _ _ _ h'.out.j ⟨TurnR.ofKp0 kWz.out, fun _ => ⟨rfl, rfl, fun q hq => .inl hq⟩, fun e => (by cases e), fun j hj => .inl hj, rfl, .inr ⟨_, rfl, hR1.out.1, hzl, fun _ => ⟨hzrow, fun j hj => ⟨hzb2 j hj, fun hm => by have := h'.out.jl j hm; have := hzb2 j hj; omega, fun hm => by have := h'.out.ql j hm; have := hzb2 j hj; omega⟩⟩⟩⟩
     obtain ⟨fn, tmps, assign, body, hyl5, hR⟩ := hY _ ⟨za, zc, zl⟩ Wz hJz rfl
     have hR' : RoundIn (Fence.wide.inRound l0) (n - 1 - 1 - 1) Tryz.prog ly fn tmps assign body Wz _ := RoundIn.anyDepthJ (F := Fence.wide.inRound l0) rfl hR
     have hgo : Hid (∀ A3, KeepR ⟨true, W1.heap.size, qsA, jsA, i, some ⟨za, zc, zl⟩⟩ Wz A3 → KeepR s A A3 ∧ KeepsFrom W1.heap.size A A3 ∧ KeepB Mj A A3) := fun A3 hk3 => h'.out.keepR (s := ⟨true, W1.heap.size, qsA, jsA, i, some ⟨za, zc, zl⟩⟩) rfl rfl (fun j hj => hj) (KeepR.trans ⟨KeepB.ofKp kWz.out (by simp), fun _ j o _ ho _ => (kWz.out.block j (Array.getElem?_eq_some_iff.1 ho).1 (by simp)).trans ho⟩ hk3)
     have hyl6 := hyl5
     simp only [encR] at hyl6
     clear hR hJz hzl hzrow kz hzb hzb2 hyl5 cCt
     refine rdI 4 (by kernel_rfl) rfl fun K hK => ?_
     go_simp
     refine ⟨fun h => (by cases h), hR'.mono ?_⟩
     rintro e A3 (⟨rfl, hJ3, hk3⟩ | ⟨rfl, hJ3, hk3⟩)
     ·have HG := hid (hgo.out A3 hk3)
      have hJ4 : Hid (J ⟨true, W1.heap.size, qsA, jsA, i + 1, none⟩ A3) := hJ3
      clear hgo hR' hyl6 hJ3 hk3
      refine hK _ _ ?_
      clear hK K
      try simp only [Act.put, lz]
      refine rdI 5 (by kernel_rfl) rfl fun K hK => ?_
      go_simp
      refine hK _ _ ?_
      clear hK K
      try simp only [Act.put, lz]
      refine wpAnyIn_done (by kernel_rfl) ?_ _
      gi_wp2_with fail
      refine ⟨HG.out.2.1, HG.out.1, jsA, qsA, i + 1, hJ4.out, h'.out.sub, h'.out.mj, h'.out.qsub, HMS.out _ _ h'.out.m (ckOfKeepB HG.out.2.2), hR1.out.2.1, hR1.out.2.2, Nat.le_trans h'.out.size HG.out.2.1.size, h'.out.mde, h'.out.lj, fun x hx => (by cases hx), fun j hj => Nat.lt_of_lt_of_le (h'.out.jl j hj) HG.out.2.1.size, fun q hq => Nat.lt_of_lt_of_le (h'.out.ql q hq) HG.out.2.1.size⟩
     ·have HG := hid (hgo.out A3 hk3)
      have hJ4 := hid hJ3
      clear hgo hR' hyl6 hJ3 hk3
      refine hK _ _ ?_
      clear hK K
      try simp only [Act.put, lz]
      refine rdI 5 (by kernel_rfl) rfl fun K hK => ?_
      go_simp
      refine hK _ _ ?_
      clear hK K
      try simp only [Act.put, lz]
      refine wpAnyIn_done (by kernel_rfl) ?_ _
      gi_wp2_with fail
      refine ⟨HG.out.2.1, HG.out.1, rfl, Sr.nx ⟨true, W1.heap.size, qsA, jsA, i, some ⟨za, zc, zl⟩⟩ ⟨za, zc, zl⟩, rfl, rfl, h'.out.qsub, h'.out.mde, h'.out.lj, hJ4.out⟩
 case done =>
  rintro D s X hD ⟨hmd, hsi, hsp⟩ ⟨jsA, qsA, i, h⟩ hrec
  have hie : i = RJ.length := by
   have := h.rel
   rw [hsi, List.drop_length, List.flatMap_nil] at this
   have := congrArg List.length this
   rw [List.length_drop, List.length_nil] at this
   have := h.il
   omega
  have hJD := hT _ _ _ _ h.j (StepR.same rfl rfl (TurnR.ofGrown (grownBy_putObj' X D (.deferred none)) (fun r e => by cases e; exact ⟨hD, _, hrec, rfl⟩)))
  gi_wp2_with fail
  refine ⟨by simp, .inl ⟨_, _, rfl, run_takeDeferred hrec, ?_⟩⟩
  exact ⟨_, results_none rfl _ _ _, ⟨_, rfl⟩, .inl ⟨_, ⟨rfl, hie, rfl⟩, hJD⟩⟩
 case stop =>
  rintro D c s X hD hsm ⟨rfl, h⟩ hrec
  obtain ⟨s2, h1, h2, h3, h4, h5, h6⟩ := h
  have hJD := hX _ _ _ h6 ⟨h1, TurnR.ofGrown (grownBy_putObj' X D (.deferred none)) (fun r e => by cases e; exact ⟨by rw [h2]; exact hD, _, hrec, rfl⟩)⟩
  gi_wp2_with fail
  refine ⟨by simp, .inl ⟨_, _, rfl, run_takeDeferred hrec, ?_⟩⟩
  exact ⟨_, results_none rfl _ _ _, ⟨_, rfl⟩, .inr ⟨s2, h1, hJD⟩⟩
end Go.Proofs.YtcgkkofmnajedaaGreatDoor
end

section
namespace Go.Proofs.YtcgkkofmnajedaaGreatDoor
open Go.RowKit Go.Hay
def teC (op a : Int) : Bool :=
 if op = 0 then a == 0 else if op = 1 then !(a == 0) else if op = 2 then decide (a < 0) else if op = 3 then decide (a ≤ 0) else if op = 4 then decide (0 < a) else if op = 5 then decide (0 ≤ a) else false
def termC (op xk vk a : Int) : Bool := if op = 6 then xk == 0 else if op = 7 then !(xk == 0) else if xk = 0 ∨ vk = 0 then false else teC op a
end Go.Proofs.YtcgkkofmnajedaaGreatDoor
end

section
namespace Go.Proofs.YtcgkkofmnajedaaGreatDoor
open Go.RowKit Go.Hay
set_option linter.unusedVariables false
set_option linter.unusedSimpArgs false
structure Tm where
 co : Int
 op : Int
 x : Val
instance : Inhabited Tm := ⟨⟨0, 0, ⟨0, false, 0, ⟨#[]⟩⟩⟩⟩
def Tm.v (t : Tm) : Value := .agg #[.int .i64 t.co, .int .i64 t.op, .int .i64 t.x.k, .bool t.x.b, .int .i64 t.x.n, .string t.x.t]
def TmE : El Tm where
 n := 6
 c t := [.int .i64 t.co, .int .i64 t.op, .int .i64 t.x.k, .bool t.x.b, .int .i64 t.x.n, .string t.x.t]
 len _ := rfl
 one _ u hu := by simp at hu; rcases hu with rfl | rfl | rfl | rfl | rfl | rfl <;> rfl
 pos := by decide
theorem tmAt {w : World} {a : Option Addr} {l : List Tm} (h : TmE.See w a l) {j : Nat} {t : Tm} (hx : l[j]? = some t) : ∃ g o, a = some ⟨g, o, none⟩ ∧ w.cell? ⟨g, o + j * 6, none⟩ = some (.int .i64 t.co) ∧ w.cell? ⟨g, o + j * 6 + 1, none⟩ = some (.int .i64 t.op) ∧ w.cell? ⟨g, o + j * 6 + 2, none⟩ = some (.int .i64 t.x.k) ∧ w.cell? ⟨g, o + j * 6 + 3, none⟩ = some (.bool t.x.b) ∧ w.cell? ⟨g, o + j * 6 + 4, none⟩ = some (.int .i64 t.x.n) ∧ w.cell? ⟨g, o + j * 6 + 5, none⟩ = some (.string t.x.t) := by
 obtain ⟨g, o, rfl, hc⟩ := h.at hx
 exact ⟨g, o, rfl, hc 0 _ rfl, hc 1 _ rfl, hc 2 _ rfl, hc 3 _ rfl, hc 4 _ rfl, hc 5 _ rfl⟩
def askL : List Bool := [false, true, false, true, false, true, true, false, false, true, true, false, false, false, true, false, true, true]
def Asks (w : World) : Prop := 0 < w.heap.size ∧ ∀ i, i < 18 → w.cell? ⟨0, i, none⟩ = some (.bool (askL.getD i false))
theorem Asks.kept {w w' : World} {S : List Nat} (h : Asks w) (hk : Kp S w w') (h0 : 0 ∉ S) : Asks w' :=
 ⟨Nat.lt_of_lt_of_le h.1 hk.size, fun i hi => (hk.cell (p := ⟨0, i, none⟩) h.1 h0).trans (h.2 i hi)⟩
def termT (t : Tm) (l : List Val) : Bool := if t.co < 0 ∨ (l.length : Int) ≤ t.co then false else termC t.op (l.getD t.co.toNat nulV).k t.x.k (cmpV (l.getD t.co.toNat nulV) t.x)
def allT (l : List Tm) (r : List Val) : Bool := l.all fun t => termT t r
theorem termT_out (t : Tm) (l : List Val) (h : t.co < 0 ∨ (l.length : Int) ≤ t.co) : termT t l = false := by unfold termT; rw [if_pos h]
theorem termT_at (t : Tm) (l : List Val) (i : Nat) (hi : i < l.length) (e : t.co = i) : termT t l = termC t.op l[i].k t.x.k (cmpV l[i] t.x) := by
 unfold termT
 rw [if_neg (by omega), e]
 simp [hi]
end Go.Proofs.YtcgkkofmnajedaaGreatDoor
end

/- What the proof stands on: contracts of functions that the statement calls, and plain lemmas. No statement of the seat is proved here. -/
import Derived.Test.YtlgfekjoknbfdaaGreatDoorB4
import Derived.Test.YtlgfekjoknbfdaaGreatDoorB1
import Derived.Test.YtlgfekjoknbfdaaGreatDoorB3
import Derived.Test.YtlgfekjoknbfdaaGreatDoorB2
import Derived.Deep.RegionHeld3
import Derived.Deep.Cut
import Derived.Deep.CutRange
set_option maxHeartbeats 64000000
set_option maxRecDepth 100000
set_option linter.unusedVariables false
set_option linter.unusedSimpArgs false
section
namespace Go.Proofs.YtlgfekjoknbfdaaGreatDoor
open Go.RowKit Go.Hay
attribute [local go_sem] Oper.semAt_some
def filtF (ts : List Tm) (x : List Val) : List (List Val) := if allT ts x then [x] else []
theorem asksCK {P : Nat → Prop} {A B : World} (h : Asks A) (k : CK P A B) (hp : P 0) : Asks B := ⟨Nat.lt_of_lt_of_le h.1 k.1, fun i hi => (k.2 ⟨0, i, none⟩ _ hp (h.2 i hi)).1⟩
theorem filtSeq (n : Nat) (hn : 2 ≤ n) (q1 q2 : Nat) (fr : Bool) (gl : Nat) (lbl : Array Value) (RL : List (List Val)) (jsl js : List Nat) (ta : Option Addr) (tc : Nat) (ts : List Tm) (w : World)
  (heL : ∀ args w, (callFunc gl args).run Tryz.prog w = .ok (.enter gl args) w)
  (c1 : w.cell? ⟨q1, 0, none⟩ = some (.func (.func gl) #[] lbl)) (c2 : w.cell? ⟨q2, 0, none⟩ = some (Value.slice ta ts.length tc)) (hXw : (fun W => TmE.See W ta ts ∧ Asks W) w)
  (hq : ∀ q ∈ [q1, q2], q ∈ js) (hjl : ∀ j ∈ jsl, j ∈ js) (hXj : ∀ j ∈ (0 :: blk ta), j ∈ js) (hjb : ∀ j ∈ js, j < w.heap.size)
  (hL : RowSeq fr (n - 1) gl lbl RL jsl w) (hRLl : ∀ l ∈ RL, l.length ≤ 1800000000000) (htl : ts.length ≤ 3000000000000) :
  RowSeq true n 103 #[.pointer (some ⟨q1, 0, none⟩), .pointer (some ⟨q2, 0, none⟩)] (RL.flatMap (filtF ts)) js w := by
 intro ly J Jx W hW hT hX hY h0
 obtain ⟨f, hf⟩ : ∃ f, Hid (filtF ts = f) := ⟨_, rfl⟩
 obtain ⟨RJ, hRJ⟩ : ∃ R, Hid (RL.flatMap f = R) := ⟨_, rfl⟩
 rw [hf.out, hRJ.out] at hT ⊢;obtain ⟨X, hXd⟩ : ∃ X, Hid ((fun W => TmE.See W ta ts ∧ Asks W) = X) := ⟨_, rfl⟩
 obtain ⟨Xj, hXjd⟩ : ∃ X, Hid ((0 :: blk ta) = X) := ⟨_, rfl⟩
 have hXck : ∀ A B, X A → CK (fun k => k ∈ Xj) A B → X B := by rw [← hXd.out, ← hXjd.out]; exact (fun A B h k => ⟨ckSee k h.1 (fun j hj => by simp [hj]), asksCK h.2 k (by simp)⟩)
 have hXw : X w := by rw [← hXd.out]; exact hXw
 rw [hXjd.out] at hXj;have kjs := hW.js
 have d1 := kjs.cell (hq q1 (by simp)) c1
 have d2 := kjs.cell (hq q2 (by simp)) c2
 have dX := hXck _ _ hXw ((ckOfKeepB kjs).mono fun k hk => hXj k hk)
 have hlW := hL.move (W := W) ⟨kjs.1, fun j hj o ho => kjs.2 j (hjl j hj) o ho⟩
 have hjW : ∀ j ∈ js, j < W.heap.size := fun j hj => Nat.lt_of_lt_of_le (hjb j hj) kjs.1
 obtain ⟨W1, hW1, k1, b1⟩ : ∃ W1, W.alloc (.cells #[.func (.yield ly) #[] #[]] 169) = W1 ∧ Kp [] W W1 ∧ Bn W1 W.heap.size [.func (.yield ly) #[] #[]] := ⟨_, rfl, (Kp.refl _ _).alloc _, Bn.new W _ _⟩
 obtain ⟨q3, hq3⟩ : ∃ q, Hid (W.heap.size = q) := ⟨_, rfl⟩
 rw [hq3.out] at b1;have e1 := kpAt k1 d1
 obtain ⟨Mj, hMj⟩ : ∃ M, Hid (M = q2 :: q3 :: Xj) := ⟨_, rfl⟩
 obtain ⟨V2, hV2⟩ : ∃ v, Hid (Value.slice ta ts.length tc = v) := ⟨_, rfl⟩
 rw [hV2.out] at d2;have hM1 : MI V2 q2 q3 ly X W1 := ⟨kpAt k1 d2, b1.get 0 _ rfl, hXck _ _ dX ((CK.ofKp k1).mono (by simp))⟩
 have hMst : ∀ A B, MI V2 q2 q3 ly X A → CK (fun k => k ∈ Mj) A B → MI V2 q2 q3 ly X B := fun A B h k => h.ck hXck (by rw [← hMj.out]; exact k)
 have hMn : ∀ j ∈ Mj, j ∈ js ∨ (W.heap.size ≤ j ∧ j < W1.heap.size) := fun j hj => by
  rw [hMj.out] at hj
  rcases List.mem_cons.1 hj with rfl | hj
  ·exact .inl (hq _ (by simp))
  ·rcases List.mem_cons.1 hj with rfl | hj
   ·exact .inr ⟨by rw [← hq3.out]; exact Nat.le_refl _, b1.lt (by simp)⟩
   ·exact .inl (hXj j hj)
 have hMb : ∀ j ∈ Mj, j < W1.heap.size := fun j hj => by
  rcases hMn j hj with e | e
  ·exact Nat.lt_of_lt_of_le (hjW j e) k1.size
  ·exact e.2
 have hJ1 : J ⟨true, W1.heap.size, [], js ++ Mj, 0, none⟩ W1 := hT _ _ _ _ h0 ⟨TurnR.ofKp0 k1, fun h => (by cases h), fun _ => ⟨rfl, k1.size, by simp⟩, fun j hj => by
  rcases List.mem_append.1 hj with e | e
  ·exact .inl e
  ·exact hMn j e, rfl, .inl rfl⟩
 have hI0 : InG J RL RJ f (MI V2 q2 q3 ly X) Mj W1 ⟨false, 0, [], jsl, 0, none⟩ W1 := ⟨js ++ Mj, [], 0, hJ1, fun j hj => List.mem_append.2 (.inl (hjl j hj)), fun j hj => List.mem_append.2 (.inr hj), by simp, hM1, by rw [← hRJ.out]; rfl, Nat.zero_le _, Nat.le_refl _, fun h => (by cases h), fun j hj => by have := hjW j (hjl j hj); have := k1.size; omega, fun x hx => (by cases hx), fun j hj => by
  rcases List.mem_append.1 hj with e | e
  ·have := hjW j e; have := k1.size; omega
  ·exact hMb j e, by simp⟩
 have hsq := hid (hlW.move (KeepB.ofKp k1 (by simp)))
 have HI0 := hid hI0
 have HMS := hid hMst
 have HMB := hid hMb
 have hq3' := hq3.out
 clear c1 c2 hL hW kjs hjb hlW k1 b1 d1 d2 hM1 hMn hJ1 hI0 hMst hMb h0 dX;refine callsIn_of_wp_marks Tryz.func103 rfl trivial ?_ rfl;simp only [Tryz.ntmps103, List.size_toArray, List.length_cons, List.length_nil, Nat.reduceAdd, Nat.reduceSub, Array.replicate_succ, Array.replicate_zero, List.push_toArray, List.append_toArray, List.nil_append, List.cons_append];refine wpIn_wide.2 ?_;go_wp2_with fail;refine (wpIn_wide (n := n)).1 ?_
 refine wpRangeX rfl (by omega) (gf := gl) (lb := lbl) rfl trivial heL
  hsq.out (fun _ => rfl) KeepR.trans (fun s W o => KeepR.alloc s W o) (KeepR.refl _ _)
  (InG J RL RJ f (MI V2 q2 q3 ly X) Mj W1) (fun c s W' => c = .ret ∧ InX Jx W1 s W') (InG.own hT HMS.out) (fun c s X Y row h hg hr => ⟨h.1, InX.own hX s X Y row h.2 hg hr⟩) HI0.out
  (fun s s' A B h ht k o hk ho => h.keeps ht k o hk ho) (fun c s A B h ht k o hk ho => h.2.keeps ht k o hk ho) (fun s s' A B hz h ht => h.step hT HMS.out HMB.out hz ht) (fun c s A B h ht => ⟨h.1, h.2.step hX ht⟩)
  (fun s W o' h => h.recs o') (fun s x W o' h => h.recs' o') (fun c s x W o' h => h.2.recs' o')
  (fun x => { tmps := #[.func (.yield ly) #[] #[], .pointer (some ⟨q1, 0, none⟩), .pointer (some ⟨q2, 0, none⟩), .pointer (some ⟨q3, 0, none⟩), .slice x.a x.l.length x.c, .func (.func gl) #[] lbl, .slice x.a x.l.length x.c, undef, undef, undef, undef, undef, undef, undef, undef, undef, undef], defers := [] }) ?assign ?body ?done ?stop
 case assign =>
  intro l x W C hC
  gi_wp2_with fail;exact hC
 case body =>
  rintro l0 s ⟨xa, xc, xl⟩ A ⟨jsA, qsA, i, h⟩ hp;obtain ⟨hRi, hxl⟩ := h.pend _ hp;dsimp only at hRi ⊢;have hxn : xl.length ≤ 1800000000000 := hRLl _ (List.mem_of_getElem? hRi)
  have hrel := hid (relStep h.rel hRi)
  have h' := hid h
  have hxl' := hid hxl
  have hmK : Hid (∀ A', Kp [] A A' → MI V2 q2 q3 ly X A') := fun A' k => HMS.out _ _ h'.out.m ((CK.ofKp k).mono (by simp))
  clear h hRi hxl HI0;rw [← hV2.out] at hmK
  have cAl0 : Hid (∀ A', Kp [] A A' → Calls Tryz.prog 104 #[.slice ta ts.length tc, .slice xa xl.length xc] A' fun e w' => e = .returned (.bool (allT ts xl)) ∧ Kp [] A' w') := fun A' k => by
   have hx := (hmK.out A' k).x
   rw [← hXd.out] at hx;exact xAll ta xa tc xc ts xl A' hx.2 hx.1 (seeV.2 (hxl'.out.see.kept k)) (by omega) (by omega)
  have cCp : Hid (∀ W', Kp [] A W' → Calls Tryz.prog 95 #[.slice xa xl.length xc] W' (NewR xl W')) := fun W' k => cCloneR xa xc xl W' (hxl'.out.see.kept k) hxl'.out.nil (by omega)
  gi_wp2_with fail
  by_cases hall : allT ts xl = true
  ·have hR1 : Hid (RJ[i]? = some xl ∧ RJ.drop (i + 1) = (RL.drop (s.i + 1)).flatMap f ∧ i + 1 ≤ RJ.length) := relOne (by rw [hrel.out, ← hf.out, filtF, if_pos hall])
   refine wpIn_region_any (by kernel_rfl) ?_
   change wpAnyIn _ _ _ _ _ _ _ _ _ A.drew
   have kD : Kp [] A A.drew := (Kp.refl _ _).drew
   generalize A.drew = wd at *
   have KB := hid kD
   have c2b := (hmK.out wd kD).c2
   have c3b := (hmK.out wd kD).c3
   have cAl := hid (cAl0.out wd kD)
   rw [hall] at cAl;clear kD hall;refine rdJ 0 1 (by kernel_rfl) rfl rfl (fun K hK => ?_) fun K hK => ?_
   ·go_simp
    refine hK _ _ ?_;clear hK K;(try simp only [Act.put, lz]);refine rdI 1 (by kernel_rfl) rfl fun K hK => ?_
    go_simp;refine hK _ _ ?_;clear hK K;(try simp only [Act.put, lz]);refine rdI 2 (by kernel_rfl) rfl fun K hK => ?_
    go_simp;refine ⟨trivial, fun h => (by cases h), (CallsIn.inRound l0 (callsIn_wide.2 cAl.out)).mono ?_⟩
    rintro e we ⟨rfl, ke⟩;have KB := hid (KB.out.trans ke (by simp))
    have c3b := kpAt ke c3b
    have cCt := hid (cCp.out we KB.out)
    clear ke;refine hK _ _ ?_;clear hK K;(try simp only [Act.put, lz]);refine rdI 3 (by kernel_rfl) rfl fun K hK => ?_
    go_simp;refine hK _ _ ?_;clear hK K;(try simp only [Act.put, lz]);refine rdJ 4 5 (by kernel_rfl) rfl rfl (fun K hK => ?_) fun K hK => ?_
    ·go_simp
     refine hK _ _ ?_;clear hK K;(try simp only [Act.put, lz]);refine rdI 5 (by kernel_rfl) rfl fun K hK => ?_
     go_simp;refine hK _ _ ?_;clear hK K;(try simp only [Act.put, lz]);refine rdI 6 (by kernel_rfl) rfl fun K hK => ?_
     go_simp;refine ⟨trivial, fun h => (by cases h), (CallsIn.inRound l0 (callsIn_wide.2 cCt.out)).mono ?_⟩
     rintro e Wz ⟨za, zc, rfl, hzrow, kz, hzb⟩;have c3z := kpAt kz c3b
     refine hK _ _ ?_;clear hK K;(try simp only [Act.put, lz]);have kWz := hid (KB.out.trans kz (by simp))
     have hzl := rowLies hzrow
     have hzb2 : ∀ j ∈ blk za, A.heap.size ≤ j := fun j hj => by have := hzb j hj; have := KB.out.size; omega
     have hJz : J ⟨true, W1.heap.size, qsA, jsA, i, some ⟨za, zc, xl⟩⟩ Wz := hT _ _ _ _ h'.out.j ⟨TurnR.ofKp0 kWz.out, fun _ => ⟨rfl, rfl, fun q hq => .inl hq⟩, fun e => (by cases e), fun j hj => .inl hj, rfl, .inr ⟨_, rfl, hR1.out.1, hzl, fun _ => ⟨hzrow, fun j hj => ⟨hzb2 j hj, fun hm => by have := h'.out.jl j hm; have := hzb2 j hj; omega, fun hm => by have := h'.out.ql j hm; have := hzb2 j hj; omega⟩⟩⟩⟩
     obtain ⟨fn, tmps, assign, body, hyl5, hR⟩ := hY _ ⟨za, zc, xl⟩ Wz hJz rfl;have hR' : RoundIn (Fence.wide.inRound l0) (n - 1 - 1 - 1) Tryz.prog ly fn tmps assign body Wz _ := RoundIn.anyDepthJ (F := Fence.wide.inRound l0) rfl hR
     have hgo : Hid (∀ A3, KeepR ⟨true, W1.heap.size, qsA, jsA, i, some ⟨za, zc, xl⟩⟩ Wz A3 → KeepR s A A3 ∧ KeepsFrom W1.heap.size A A3 ∧ KeepB Mj A A3) := fun A3 hk3 => h'.out.keepR (s := ⟨true, W1.heap.size, qsA, jsA, i, some ⟨za, zc, xl⟩⟩) rfl rfl (fun j hj => hj) (KeepR.trans ⟨KeepB.ofKp kWz.out (by simp), fun _ j o _ ho _ => (kWz.out.block j (Array.getElem?_eq_some_iff.1 ho).1 (by simp)).trans ho⟩ hk3)
     have hyl6 := hyl5
     simp only [encR] at hyl6;clear hR hJz hzl hzrow kz hzb hzb2 hyl5 cCt;refine rdI 7 (by kernel_rfl) rfl fun K hK => ?_
     go_simp;refine ⟨fun h => (by cases h), hR'.mono ?_⟩
     rintro e A3 (⟨rfl, hJ3, hk3⟩ | ⟨rfl, hJ3, hk3⟩)
     ·have HG := hid (hgo.out A3 hk3)
      have hJ4 : Hid (J ⟨true, W1.heap.size, qsA, jsA, i + 1, none⟩ A3) := hJ3
      clear hgo hR' hyl6 hJ3 hk3;refine hK _ _ ?_;clear hK K;(try simp only [Act.put, lz]);refine rdI 8 (by kernel_rfl) rfl fun K hK => ?_
      go_simp;refine hK _ _ ?_;clear hK K;(try simp only [Act.put, lz]);refine rdI 9 (by kernel_rfl) rfl fun K hK => ?_
      go_simp;refine hK _ _ ?_;clear hK K;(try simp only [Act.put, lz]);refine wpAnyIn_done (by kernel_rfl) ?_ _
      gi_wp2_with fail;refine ⟨HG.out.2.1, HG.out.1, jsA, qsA, i + 1, hJ4.out, h'.out.sub, h'.out.mj, h'.out.qsub, HMS.out _ _ h'.out.m (ckOfKeepB HG.out.2.2), hR1.out.2.1, hR1.out.2.2, Nat.le_trans h'.out.size HG.out.2.1.size, h'.out.mde, h'.out.lj, fun x hx => (by cases hx), fun j hj => Nat.lt_of_lt_of_le (h'.out.jl j hj) HG.out.2.1.size, fun q hq => Nat.lt_of_lt_of_le (h'.out.ql q hq) HG.out.2.1.size⟩
     ·have HG := hid (hgo.out A3 hk3)
      have hJ4 := hid hJ3
      clear hgo hR' hyl6 hJ3 hk3;refine hK _ _ ?_;clear hK K;(try simp only [Act.put, lz]);refine rdI 8 (by kernel_rfl) rfl fun K hK => ?_
      go_simp;refine hK _ _ ?_;clear hK K;(try simp only [Act.put, lz]);refine rdI 9 (by kernel_rfl) rfl fun K hK => ?_
      go_simp;refine hK _ _ ?_;clear hK K;(try simp only [Act.put, lz]);refine wpAnyIn_done (by kernel_rfl) ?_ _
      gi_wp2_with fail;refine ⟨HG.out.2.1, HG.out.1, rfl, Sr.nx ⟨true, W1.heap.size, qsA, jsA, i, some ⟨za, zc, xl⟩⟩ ⟨za, zc, xl⟩, rfl, rfl, h'.out.qsub, h'.out.mde, h'.out.lj, hJ4.out⟩
    ·go_simp
     refine hK _ _ ?_;clear hK K;(try simp only [Act.put, lz]);refine rdJ 4 6 (by kernel_rfl) rfl rfl (fun K hK => ?_) fun K hK => ?_
     ·go_simp
      refine hK _ _ ?_;clear hK K;(try simp only [Act.put, lz]);refine rdI 6 (by kernel_rfl) rfl fun K hK => ?_
      go_simp;refine ⟨trivial, fun h => (by cases h), (CallsIn.inRound l0 (callsIn_wide.2 cCt.out)).mono ?_⟩
      rintro e Wz ⟨za, zc, rfl, hzrow, kz, hzb⟩;have c3z := kpAt kz c3b
      refine hK _ _ ?_;clear hK K;(try simp only [Act.put, lz]);have kWz := hid (KB.out.trans kz (by simp))
      have hzl := rowLies hzrow
      have hzb2 : ∀ j ∈ blk za, A.heap.size ≤ j := fun j hj => by have := hzb j hj; have := KB.out.size; omega
      have hJz : J ⟨true, W1.heap.size, qsA, jsA, i, some ⟨za, zc, xl⟩⟩ Wz := hT _ _ _ _ h'.out.j ⟨TurnR.ofKp0 kWz.out, fun _ => ⟨rfl, rfl, fun q hq => .inl hq⟩, fun e => (by cases e), fun j hj => .inl hj, rfl, .inr ⟨_, rfl, hR1.out.1, hzl, fun _ => ⟨hzrow, fun j hj => ⟨hzb2 j hj, fun hm => by have := h'.out.jl j hm; have := hzb2 j hj; omega, fun hm => by have := h'.out.ql j hm; have := hzb2 j hj; omega⟩⟩⟩⟩
      obtain ⟨fn, tmps, assign, body, hyl5, hR⟩ := hY _ ⟨za, zc, xl⟩ Wz hJz rfl;have hR' : RoundIn (Fence.wide.inRound l0) (n - 1 - 1 - 1) Tryz.prog ly fn tmps assign body Wz _ := RoundIn.anyDepthJ (F := Fence.wide.inRound l0) rfl hR
      have hgo : Hid (∀ A3, KeepR ⟨true, W1.heap.size, qsA, jsA, i, some ⟨za, zc, xl⟩⟩ Wz A3 → KeepR s A A3 ∧ KeepsFrom W1.heap.size A A3 ∧ KeepB Mj A A3) := fun A3 hk3 => h'.out.keepR (s := ⟨true, W1.heap.size, qsA, jsA, i, some ⟨za, zc, xl⟩⟩) rfl rfl (fun j hj => hj) (KeepR.trans ⟨KeepB.ofKp kWz.out (by simp), fun _ j o _ ho _ => (kWz.out.block j (Array.getElem?_eq_some_iff.1 ho).1 (by simp)).trans ho⟩ hk3)
      have hyl6 := hyl5
      simp only [encR] at hyl6;clear hR hJz hzl hzrow kz hzb hzb2 hyl5 cCt;refine rdI 7 (by kernel_rfl) rfl fun K hK => ?_
      go_simp;refine ⟨fun h => (by cases h), hR'.mono ?_⟩
      rintro e A3 (⟨rfl, hJ3, hk3⟩ | ⟨rfl, hJ3, hk3⟩)
      ·have HG := hid (hgo.out A3 hk3)
       have hJ4 : Hid (J ⟨true, W1.heap.size, qsA, jsA, i + 1, none⟩ A3) := hJ3
       clear hgo hR' hyl6 hJ3 hk3;refine hK _ _ ?_;clear hK K;(try simp only [Act.put, lz]);refine rdI 8 (by kernel_rfl) rfl fun K hK => ?_
       go_simp;refine hK _ _ ?_;clear hK K;(try simp only [Act.put, lz]);refine rdI 9 (by kernel_rfl) rfl fun K hK => ?_
       go_simp;refine hK _ _ ?_;clear hK K;(try simp only [Act.put, lz]);refine wpAnyIn_done (by kernel_rfl) ?_ _
       gi_wp2_with fail;refine ⟨HG.out.2.1, HG.out.1, jsA, qsA, i + 1, hJ4.out, h'.out.sub, h'.out.mj, h'.out.qsub, HMS.out _ _ h'.out.m (ckOfKeepB HG.out.2.2), hR1.out.2.1, hR1.out.2.2, Nat.le_trans h'.out.size HG.out.2.1.size, h'.out.mde, h'.out.lj, fun x hx => (by cases hx), fun j hj => Nat.lt_of_lt_of_le (h'.out.jl j hj) HG.out.2.1.size, fun q hq => Nat.lt_of_lt_of_le (h'.out.ql q hq) HG.out.2.1.size⟩
      ·have HG := hid (hgo.out A3 hk3)
       have hJ4 := hid hJ3
       clear hgo hR' hyl6 hJ3 hk3;refine hK _ _ ?_;clear hK K;(try simp only [Act.put, lz]);refine rdI 8 (by kernel_rfl) rfl fun K hK => ?_
       go_simp;refine hK _ _ ?_;clear hK K;(try simp only [Act.put, lz]);refine rdI 9 (by kernel_rfl) rfl fun K hK => ?_
       go_simp;refine hK _ _ ?_;clear hK K;(try simp only [Act.put, lz]);refine wpAnyIn_done (by kernel_rfl) ?_ _
       gi_wp2_with fail;refine ⟨HG.out.2.1, HG.out.1, rfl, Sr.nx ⟨true, W1.heap.size, qsA, jsA, i, some ⟨za, zc, xl⟩⟩ ⟨za, zc, xl⟩, rfl, rfl, h'.out.qsub, h'.out.mde, h'.out.lj, hJ4.out⟩
     ·go_simp
      refine ⟨trivial, fun h => (by cases h), (CallsIn.inRound l0 (callsIn_wide.2 cCt.out)).mono ?_⟩
      rintro e Wz ⟨za, zc, rfl, hzrow, kz, hzb⟩;have c3z := kpAt kz c3b
      refine hK _ _ ?_;clear hK K;(try simp only [Act.put, lz]);refine rdI 4 (by kernel_rfl) rfl fun K hK => ?_
      go_simp;refine hK _ _ ?_;clear hK K;(try simp only [Act.put, lz]);have kWz := hid (KB.out.trans kz (by simp))
      have hzl := rowLies hzrow
      have hzb2 : ∀ j ∈ blk za, A.heap.size ≤ j := fun j hj => by have := hzb j hj; have := KB.out.size; omega
      have hJz : J ⟨true, W1.heap.size, qsA, jsA, i, some ⟨za, zc, xl⟩⟩ Wz := hT _ _ _ _ h'.out.j ⟨TurnR.ofKp0 kWz.out, fun _ => ⟨rfl, rfl, fun q hq => .inl hq⟩, fun e => (by cases e), fun j hj => .inl hj, rfl, .inr ⟨_, rfl, hR1.out.1, hzl, fun _ => ⟨hzrow, fun j hj => ⟨hzb2 j hj, fun hm => by have := h'.out.jl j hm; have := hzb2 j hj; omega, fun hm => by have := h'.out.ql j hm; have := hzb2 j hj; omega⟩⟩⟩⟩
      obtain ⟨fn, tmps, assign, body, hyl5, hR⟩ := hY _ ⟨za, zc, xl⟩ Wz hJz rfl;have hR' : RoundIn (Fence.wide.inRound l0) (n - 1 - 1 - 1) Tryz.prog ly fn tmps assign body Wz _ := RoundIn.anyDepthJ (F := Fence.wide.inRound l0) rfl hR
      have hgo : Hid (∀ A3, KeepR ⟨true, W1.heap.size, qsA, jsA, i, some ⟨za, zc, xl⟩⟩ Wz A3 → KeepR s A A3 ∧ KeepsFrom W1.heap.size A A3 ∧ KeepB Mj A A3) := fun A3 hk3 => h'.out.keepR (s := ⟨true, W1.heap.size, qsA, jsA, i, some ⟨za, zc, xl⟩⟩) rfl rfl (fun j hj => hj) (KeepR.trans ⟨KeepB.ofKp kWz.out (by simp), fun _ j o _ ho _ => (kWz.out.block j (Array.getElem?_eq_some_iff.1 ho).1 (by simp)).trans ho⟩ hk3)
      have hyl6 := hyl5
      simp only [encR] at hyl6;clear hR hJz hzl hzrow kz hzb hzb2 hyl5 cCt;refine rdI 7 (by kernel_rfl) rfl fun K hK => ?_
      go_simp;refine ⟨fun h => (by cases h), hR'.mono ?_⟩
      rintro e A3 (⟨rfl, hJ3, hk3⟩ | ⟨rfl, hJ3, hk3⟩)
      ·have HG := hid (hgo.out A3 hk3)
       have hJ4 : Hid (J ⟨true, W1.heap.size, qsA, jsA, i + 1, none⟩ A3) := hJ3
       clear hgo hR' hyl6 hJ3 hk3;refine hK _ _ ?_;clear hK K;(try simp only [Act.put, lz]);refine rdI 8 (by kernel_rfl) rfl fun K hK => ?_
       go_simp;refine hK _ _ ?_;clear hK K;(try simp only [Act.put, lz]);refine rdI 9 (by kernel_rfl) rfl fun K hK => ?_
       go_simp;refine hK _ _ ?_;clear hK K;(try simp only [Act.put, lz]);refine wpAnyIn_done (by kernel_rfl) ?_ _
       gi_wp2_with fail;refine ⟨HG.out.2.1, HG.out.1, jsA, qsA, i + 1, hJ4.out, h'.out.sub, h'.out.mj, h'.out.qsub, HMS.out _ _ h'.out.m (ckOfKeepB HG.out.2.2), hR1.out.2.1, hR1.out.2.2, Nat.le_trans h'.out.size HG.out.2.1.size, h'.out.mde, h'.out.lj, fun x hx => (by cases hx), fun j hj => Nat.lt_of_lt_of_le (h'.out.jl j hj) HG.out.2.1.size, fun q hq => Nat.lt_of_lt_of_le (h'.out.ql q hq) HG.out.2.1.size⟩
      ·have HG := hid (hgo.out A3 hk3)
       have hJ4 := hid hJ3
       clear hgo hR' hyl6 hJ3 hk3;refine hK _ _ ?_;clear hK K;(try simp only [Act.put, lz]);refine rdI 8 (by kernel_rfl) rfl fun K hK => ?_
       go_simp;refine hK _ _ ?_;clear hK K;(try simp only [Act.put, lz]);refine rdI 9 (by kernel_rfl) rfl fun K hK => ?_
       go_simp;refine hK _ _ ?_;clear hK K;(try simp only [Act.put, lz]);refine wpAnyIn_done (by kernel_rfl) ?_ _
       gi_wp2_with fail;refine ⟨HG.out.2.1, HG.out.1, rfl, Sr.nx ⟨true, W1.heap.size, qsA, jsA, i, some ⟨za, zc, xl⟩⟩ ⟨za, zc, xl⟩, rfl, rfl, h'.out.qsub, h'.out.mde, h'.out.lj, hJ4.out⟩
   ·go_simp
    refine hK _ _ ?_;clear hK K;(try simp only [Act.put, lz]);refine rdI 0 (by kernel_rfl) rfl fun K hK => ?_
    go_simp;refine hK _ _ ?_;clear hK K;(try simp only [Act.put, lz]);refine rdI 2 (by kernel_rfl) rfl fun K hK => ?_
    go_simp;refine ⟨trivial, fun h => (by cases h), (CallsIn.inRound l0 (callsIn_wide.2 cAl.out)).mono ?_⟩
    rintro e we ⟨rfl, ke⟩;have KB := hid (KB.out.trans ke (by simp))
    have c3b := kpAt ke c3b
    have cCt := hid (cCp.out we KB.out)
    clear ke;refine hK _ _ ?_;clear hK K;(try simp only [Act.put, lz]);refine rdI 3 (by kernel_rfl) rfl fun K hK => ?_
    go_simp;refine hK _ _ ?_;clear hK K;(try simp only [Act.put, lz]);refine rdJ 4 5 (by kernel_rfl) rfl rfl (fun K hK => ?_) fun K hK => ?_
    ·go_simp
     refine hK _ _ ?_;clear hK K;(try simp only [Act.put, lz]);refine rdI 5 (by kernel_rfl) rfl fun K hK => ?_
     go_simp;refine hK _ _ ?_;clear hK K;(try simp only [Act.put, lz]);refine rdI 6 (by kernel_rfl) rfl fun K hK => ?_
     go_simp;refine ⟨trivial, fun h => (by cases h), (CallsIn.inRound l0 (callsIn_wide.2 cCt.out)).mono ?_⟩
     rintro e Wz ⟨za, zc, rfl, hzrow, kz, hzb⟩;have c3z := kpAt kz c3b
     refine hK _ _ ?_;clear hK K;(try simp only [Act.put, lz]);have kWz := hid (KB.out.trans kz (by simp))
     have hzl := rowLies hzrow
     have hzb2 : ∀ j ∈ blk za, A.heap.size ≤ j := fun j hj => by have := hzb j hj; have := KB.out.size; omega
     have hJz : J ⟨true, W1.heap.size, qsA, jsA, i, some ⟨za, zc, xl⟩⟩ Wz := hT _ _ _ _ h'.out.j ⟨TurnR.ofKp0 kWz.out, fun _ => ⟨rfl, rfl, fun q hq => .inl hq⟩, fun e => (by cases e), fun j hj => .inl hj, rfl, .inr ⟨_, rfl, hR1.out.1, hzl, fun _ => ⟨hzrow, fun j hj => ⟨hzb2 j hj, fun hm => by have := h'.out.jl j hm; have := hzb2 j hj; omega, fun hm => by have := h'.out.ql j hm; have := hzb2 j hj; omega⟩⟩⟩⟩
     obtain ⟨fn, tmps, assign, body, hyl5, hR⟩ := hY _ ⟨za, zc, xl⟩ Wz hJz rfl;have hR' : RoundIn (Fence.wide.inRound l0) (n - 1 - 1 - 1) Tryz.prog ly fn tmps assign body Wz _ := RoundIn.anyDepthJ (F := Fence.wide.inRound l0) rfl hR
     have hgo : Hid (∀ A3, KeepR ⟨true, W1.heap.size, qsA, jsA, i, some ⟨za, zc, xl⟩⟩ Wz A3 → KeepR s A A3 ∧ KeepsFrom W1.heap.size A A3 ∧ KeepB Mj A A3) := fun A3 hk3 => h'.out.keepR (s := ⟨true, W1.heap.size, qsA, jsA, i, some ⟨za, zc, xl⟩⟩) rfl rfl (fun j hj => hj) (KeepR.trans ⟨KeepB.ofKp kWz.out (by simp), fun _ j o _ ho _ => (kWz.out.block j (Array.getElem?_eq_some_iff.1 ho).1 (by simp)).trans ho⟩ hk3)
     have hyl6 := hyl5
     simp only [encR] at hyl6;clear hR hJz hzl hzrow kz hzb hzb2 hyl5 cCt;refine rdI 7 (by kernel_rfl) rfl fun K hK => ?_
     go_simp;refine ⟨fun h => (by cases h), hR'.mono ?_⟩
     rintro e A3 (⟨rfl, hJ3, hk3⟩ | ⟨rfl, hJ3, hk3⟩)
     ·have HG := hid (hgo.out A3 hk3)
      have hJ4 : Hid (J ⟨true, W1.heap.size, qsA, jsA, i + 1, none⟩ A3) := hJ3
      clear hgo hR' hyl6 hJ3 hk3;refine hK _ _ ?_;clear hK K;(try simp only [Act.put, lz]);refine rdI 8 (by kernel_rfl) rfl fun K hK => ?_
      go_simp;refine hK _ _ ?_;clear hK K;(try simp only [Act.put, lz]);refine rdI 9 (by kernel_rfl) rfl fun K hK => ?_
      go_simp;refine hK _ _ ?_;clear hK K;(try simp only [Act.put, lz]);refine wpAnyIn_done (by kernel_rfl) ?_ _
      gi_wp2_with fail;refine ⟨HG.out.2.1, HG.out.1, jsA, qsA, i + 1, hJ4.out, h'.out.sub, h'.out.mj, h'.out.qsub, HMS.out _ _ h'.out.m (ckOfKeepB HG.out.2.2), hR1.out.2.1, hR1.out.2.2, Nat.le_trans h'.out.size HG.out.2.1.size, h'.out.mde, h'.out.lj, fun x hx => (by cases hx), fun j hj => Nat.lt_of_lt_of_le (h'.out.jl j hj) HG.out.2.1.size, fun q hq => Nat.lt_of_lt_of_le (h'.out.ql q hq) HG.out.2.1.size⟩
     ·have HG := hid (hgo.out A3 hk3)
      have hJ4 := hid hJ3
      clear hgo hR' hyl6 hJ3 hk3;refine hK _ _ ?_;clear hK K;(try simp only [Act.put, lz]);refine rdI 8 (by kernel_rfl) rfl fun K hK => ?_
      go_simp;refine hK _ _ ?_;clear hK K;(try simp only [Act.put, lz]);refine rdI 9 (by kernel_rfl) rfl fun K hK => ?_
      go_simp;refine hK _ _ ?_;clear hK K;(try simp only [Act.put, lz]);refine wpAnyIn_done (by kernel_rfl) ?_ _
      gi_wp2_with fail;refine ⟨HG.out.2.1, HG.out.1, rfl, Sr.nx ⟨true, W1.heap.size, qsA, jsA, i, some ⟨za, zc, xl⟩⟩ ⟨za, zc, xl⟩, rfl, rfl, h'.out.qsub, h'.out.mde, h'.out.lj, hJ4.out⟩
    ·go_simp
     refine hK _ _ ?_;clear hK K;(try simp only [Act.put, lz]);refine rdJ 4 6 (by kernel_rfl) rfl rfl (fun K hK => ?_) fun K hK => ?_
     ·go_simp
      refine hK _ _ ?_;clear hK K;(try simp only [Act.put, lz]);refine rdI 6 (by kernel_rfl) rfl fun K hK => ?_
      go_simp;refine ⟨trivial, fun h => (by cases h), (CallsIn.inRound l0 (callsIn_wide.2 cCt.out)).mono ?_⟩
      rintro e Wz ⟨za, zc, rfl, hzrow, kz, hzb⟩;have c3z := kpAt kz c3b
      refine hK _ _ ?_;clear hK K;(try simp only [Act.put, lz]);have kWz := hid (KB.out.trans kz (by simp))
      have hzl := rowLies hzrow
      have hzb2 : ∀ j ∈ blk za, A.heap.size ≤ j := fun j hj => by have := hzb j hj; have := KB.out.size; omega
      have hJz : J ⟨true, W1.heap.size, qsA, jsA, i, some ⟨za, zc, xl⟩⟩ Wz := hT _ _ _ _ h'.out.j ⟨TurnR.ofKp0 kWz.out, fun _ => ⟨rfl, rfl, fun q hq => .inl hq⟩, fun e => (by cases e), fun j hj => .inl hj, rfl, .inr ⟨_, rfl, hR1.out.1, hzl, fun _ => ⟨hzrow, fun j hj => ⟨hzb2 j hj, fun hm => by have := h'.out.jl j hm; have := hzb2 j hj; omega, fun hm => by have := h'.out.ql j hm; have := hzb2 j hj; omega⟩⟩⟩⟩
      obtain ⟨fn, tmps, assign, body, hyl5, hR⟩ := hY _ ⟨za, zc, xl⟩ Wz hJz rfl;have hR' : RoundIn (Fence.wide.inRound l0) (n - 1 - 1 - 1) Tryz.prog ly fn tmps assign body Wz _ := RoundIn.anyDepthJ (F := Fence.wide.inRound l0) rfl hR
      have hgo : Hid (∀ A3, KeepR ⟨true, W1.heap.size, qsA, jsA, i, some ⟨za, zc, xl⟩⟩ Wz A3 → KeepR s A A3 ∧ KeepsFrom W1.heap.size A A3 ∧ KeepB Mj A A3) := fun A3 hk3 => h'.out.keepR (s := ⟨true, W1.heap.size, qsA, jsA, i, some ⟨za, zc, xl⟩⟩) rfl rfl (fun j hj => hj) (KeepR.trans ⟨KeepB.ofKp kWz.out (by simp), fun _ j o _ ho _ => (kWz.out.block j (Array.getElem?_eq_some_iff.1 ho).1 (by simp)).trans ho⟩ hk3)
      have hyl6 := hyl5
      simp only [encR] at hyl6;clear hR hJz hzl hzrow kz hzb hzb2 hyl5 cCt;refine rdI 7 (by kernel_rfl) rfl fun K hK => ?_
      go_simp;refine ⟨fun h => (by cases h), hR'.mono ?_⟩
      rintro e A3 (⟨rfl, hJ3, hk3⟩ | ⟨rfl, hJ3, hk3⟩)
      ·have HG := hid (hgo.out A3 hk3)
       have hJ4 : Hid (J ⟨true, W1.heap.size, qsA, jsA, i + 1, none⟩ A3) := hJ3
       clear hgo hR' hyl6 hJ3 hk3;refine hK _ _ ?_;clear hK K;(try simp only [Act.put, lz]);refine rdI 8 (by kernel_rfl) rfl fun K hK => ?_
       go_simp;refine hK _ _ ?_;clear hK K;(try simp only [Act.put, lz]);refine rdI 9 (by kernel_rfl) rfl fun K hK => ?_
       go_simp;refine hK _ _ ?_;clear hK K;(try simp only [Act.put, lz]);refine wpAnyIn_done (by kernel_rfl) ?_ _
       gi_wp2_with fail;refine ⟨HG.out.2.1, HG.out.1, jsA, qsA, i + 1, hJ4.out, h'.out.sub, h'.out.mj, h'.out.qsub, HMS.out _ _ h'.out.m (ckOfKeepB HG.out.2.2), hR1.out.2.1, hR1.out.2.2, Nat.le_trans h'.out.size HG.out.2.1.size, h'.out.mde, h'.out.lj, fun x hx => (by cases hx), fun j hj => Nat.lt_of_lt_of_le (h'.out.jl j hj) HG.out.2.1.size, fun q hq => Nat.lt_of_lt_of_le (h'.out.ql q hq) HG.out.2.1.size⟩
      ·have HG := hid (hgo.out A3 hk3)
       have hJ4 := hid hJ3
       clear hgo hR' hyl6 hJ3 hk3;refine hK _ _ ?_;clear hK K;(try simp only [Act.put, lz]);refine rdI 8 (by kernel_rfl) rfl fun K hK => ?_
       go_simp;refine hK _ _ ?_;clear hK K;(try simp only [Act.put, lz]);refine rdI 9 (by kernel_rfl) rfl fun K hK => ?_
       go_simp;refine hK _ _ ?_;clear hK K;(try simp only [Act.put, lz]);refine wpAnyIn_done (by kernel_rfl) ?_ _
       gi_wp2_with fail;refine ⟨HG.out.2.1, HG.out.1, rfl, Sr.nx ⟨true, W1.heap.size, qsA, jsA, i, some ⟨za, zc, xl⟩⟩ ⟨za, zc, xl⟩, rfl, rfl, h'.out.qsub, h'.out.mde, h'.out.lj, hJ4.out⟩
     ·go_simp
      refine ⟨trivial, fun h => (by cases h), (CallsIn.inRound l0 (callsIn_wide.2 cCt.out)).mono ?_⟩
      rintro e Wz ⟨za, zc, rfl, hzrow, kz, hzb⟩;have c3z := kpAt kz c3b
      refine hK _ _ ?_;clear hK K;(try simp only [Act.put, lz]);refine rdI 4 (by kernel_rfl) rfl fun K hK => ?_
      go_simp;refine hK _ _ ?_;clear hK K;(try simp only [Act.put, lz]);have kWz := hid (KB.out.trans kz (by simp))
      have hzl := rowLies hzrow
      have hzb2 : ∀ j ∈ blk za, A.heap.size ≤ j := fun j hj => by have := hzb j hj; have := KB.out.size; omega
      have hJz : J ⟨true, W1.heap.size, qsA, jsA, i, some ⟨za, zc, xl⟩⟩ Wz := hT _ _ _ _ h'.out.j ⟨TurnR.ofKp0 kWz.out, fun _ => ⟨rfl, rfl, fun q hq => .inl hq⟩, fun e => (by cases e), fun j hj => .inl hj, rfl, .inr ⟨_, rfl, hR1.out.1, hzl, fun _ => ⟨hzrow, fun j hj => ⟨hzb2 j hj, fun hm => by have := h'.out.jl j hm; have := hzb2 j hj; omega, fun hm => by have := h'.out.ql j hm; have := hzb2 j hj; omega⟩⟩⟩⟩
      obtain ⟨fn, tmps, assign, body, hyl5, hR⟩ := hY _ ⟨za, zc, xl⟩ Wz hJz rfl;have hR' : RoundIn (Fence.wide.inRound l0) (n - 1 - 1 - 1) Tryz.prog ly fn tmps assign body Wz _ := RoundIn.anyDepthJ (F := Fence.wide.inRound l0) rfl hR
      have hgo : Hid (∀ A3, KeepR ⟨true, W1.heap.size, qsA, jsA, i, some ⟨za, zc, xl⟩⟩ Wz A3 → KeepR s A A3 ∧ KeepsFrom W1.heap.size A A3 ∧ KeepB Mj A A3) := fun A3 hk3 => h'.out.keepR (s := ⟨true, W1.heap.size, qsA, jsA, i, some ⟨za, zc, xl⟩⟩) rfl rfl (fun j hj => hj) (KeepR.trans ⟨KeepB.ofKp kWz.out (by simp), fun _ j o _ ho _ => (kWz.out.block j (Array.getElem?_eq_some_iff.1 ho).1 (by simp)).trans ho⟩ hk3)
      have hyl6 := hyl5
      simp only [encR] at hyl6;clear hR hJz hzl hzrow kz hzb hzb2 hyl5 cCt;refine rdI 7 (by kernel_rfl) rfl fun K hK => ?_
      go_simp;refine ⟨fun h => (by cases h), hR'.mono ?_⟩
      rintro e A3 (⟨rfl, hJ3, hk3⟩ | ⟨rfl, hJ3, hk3⟩)
      ·have HG := hid (hgo.out A3 hk3)
       have hJ4 : Hid (J ⟨true, W1.heap.size, qsA, jsA, i + 1, none⟩ A3) := hJ3
       clear hgo hR' hyl6 hJ3 hk3;refine hK _ _ ?_;clear hK K;(try simp only [Act.put, lz]);refine rdI 8 (by kernel_rfl) rfl fun K hK => ?_
       go_simp;refine hK _ _ ?_;clear hK K;(try simp only [Act.put, lz]);refine rdI 9 (by kernel_rfl) rfl fun K hK => ?_
       go_simp;refine hK _ _ ?_;clear hK K;(try simp only [Act.put, lz]);refine wpAnyIn_done (by kernel_rfl) ?_ _
       gi_wp2_with fail;refine ⟨HG.out.2.1, HG.out.1, jsA, qsA, i + 1, hJ4.out, h'.out.sub, h'.out.mj, h'.out.qsub, HMS.out _ _ h'.out.m (ckOfKeepB HG.out.2.2), hR1.out.2.1, hR1.out.2.2, Nat.le_trans h'.out.size HG.out.2.1.size, h'.out.mde, h'.out.lj, fun x hx => (by cases hx), fun j hj => Nat.lt_of_lt_of_le (h'.out.jl j hj) HG.out.2.1.size, fun q hq => Nat.lt_of_lt_of_le (h'.out.ql q hq) HG.out.2.1.size⟩
      ·have HG := hid (hgo.out A3 hk3)
       have hJ4 := hid hJ3
       clear hgo hR' hyl6 hJ3 hk3;refine hK _ _ ?_;clear hK K;(try simp only [Act.put, lz]);refine rdI 8 (by kernel_rfl) rfl fun K hK => ?_
       go_simp;refine hK _ _ ?_;clear hK K;(try simp only [Act.put, lz]);refine rdI 9 (by kernel_rfl) rfl fun K hK => ?_
       go_simp;refine hK _ _ ?_;clear hK K;(try simp only [Act.put, lz]);refine wpAnyIn_done (by kernel_rfl) ?_ _
       gi_wp2_with fail;refine ⟨HG.out.2.1, HG.out.1, rfl, Sr.nx ⟨true, W1.heap.size, qsA, jsA, i, some ⟨za, zc, xl⟩⟩ ⟨za, zc, xl⟩, rfl, rfl, h'.out.qsub, h'.out.mde, h'.out.lj, hJ4.out⟩
  ·have hall' : allT ts xl = false := by simpa using hall
   have hr0 : Hid (RJ.drop i = (RL.drop (s.i + 1)).flatMap f) := by show _ = _; rw [hrel.out, ← hf.out, filtF, hall']; rfl
   refine region_round (fun B => B.cell? ⟨q2, 0, none⟩ = some (.slice ta ts.length tc)) (by kernel_rfl) (by kernel_rfl) (by rintro ⟨_, _, hlo⟩; exact hlo) (hmK.out _ (Kp.refl [] A).drew).c2 (fun hHeld => ?_)
   have KD : Hid (Kp [] A A.drew) := hid (Kp.refl [] A).drew
   generalize A.drew = wd at *
   have cAl := hid (cAl0.out wd KD.out)
   rw [hall'] at cAl;refine tkH ?_ 0 rfl (by kernel_rfl) (fun _ _ _ h => h) (by rfl) ?_ ‹_› ?_;rotate_left
   ·intro w h; (try dsimp only at h); go_simp <;> with_reducible rfl
   (try simp only [Act.put, lz]);refine tkH ?_ 1 rfl (by kernel_rfl) (fun _ _ _ h => h) (by rfl) ?_ ‹_› ?_;rotate_left
   ·intro w h; (try dsimp only at h); go_simp <;> with_reducible rfl
   (try simp only [Act.put, lz]);refine rdH 2 (by kernel_rfl) rfl fun K hK => ?_
   go_simp;refine cAl.out.mono ?_;rintro e we ⟨rfl, ke⟩;(try go_wp2_with fail);refine hK.out _ _ ?_ (fun hHeld => ?_)
   ·exact (hmK.out _ (KD.out.trans ke (by simp))).c2
   clear hK K;(try simp only [Act.put, lz]);refine tkH ?_ 3 rfl (by kernel_rfl) (fun _ _ _ h => h) (by rfl) ?_ ‹_› ?_;rotate_left
   ·intro w h; (try dsimp only at h); go_simp <;> with_reducible rfl
   (try simp only [Act.put, lz]);refine tkU 4 rfl (by kernel_rfl) (fun _ _ _ h => h) (by rfl) ‹_› ?_
   (try simp only [Act.put, lz]);refine tkU 5 rfl (by kernel_rfl) (fun _ _ _ h => h) (by rfl) ‹_› ?_
   (try simp only [Act.put, lz]);refine tkU 6 rfl (by kernel_rfl) (fun _ _ _ h => h) (by rfl) ‹_› ?_
   (try simp only [Act.put, lz]);refine tkU 7 rfl (by kernel_rfl) (fun _ _ _ h => h) (by rfl) ‹_› ?_
   (try simp only [Act.put, lz]);refine tkU 8 rfl (by kernel_rfl) (fun _ _ _ h => h) (by rfl) ‹_› ?_
   (try simp only [Act.put, lz]);refine tkH ?_ 9 rfl (by kernel_rfl) (fun _ _ _ h => h) (by rfl) ?_ ‹_› ?_;rotate_left
   ·intro w h; (try dsimp only at h); go_simp <;> with_reducible rfl
   (try simp only [Act.put, lz]);refine wpAnyH_done (by kernel_rfl) ?_ _
   have KE := hid (KD.out.trans ke (by simp))
   clear ke hHeld cAl;gi_wp2_with fail;obtain ⟨g1, g2, g3⟩ := h'.out.keepR (s := ⟨true, W1.heap.size, qsA, jsA, i, none⟩) rfl rfl (fun j hj => hj) (W' := we) ⟨KeepB.ofKp KE.out (by simp), fun _ j o _ ho _ => (KE.out.block j (Array.getElem?_eq_some_iff.1 ho).1 (by simp)).trans ho⟩
   exact ⟨g2, g1, jsA, qsA, i, hT _ _ _ _ h'.out.j (StepR.same rfl rfl (TurnR.ofKp0 KE.out)), h'.out.sub, h'.out.mj, h'.out.qsub, HMS.out _ _ h'.out.m ((CK.ofKp KE.out).mono (by simp)), hr0.out, h'.out.il, Nat.le_trans h'.out.size KE.out.size, h'.out.mde, h'.out.lj, fun x hx => (by cases hx), fun j hj => Nat.lt_of_lt_of_le (h'.out.jl j hj) KE.out.size, fun q hq => Nat.lt_of_lt_of_le (h'.out.ql q hq) KE.out.size⟩
 case done =>
  rintro D s X hD ⟨hmd, hsi, hsp⟩ ⟨jsA, qsA, i, h⟩ hrec
  have hie : i = RJ.length := by
   have := h.rel
   rw [hsi, List.drop_length, List.flatMap_nil] at this;have := congrArg List.length this
   rw [List.length_drop, List.length_nil] at this;have := h.il
   omega
  have hJD := hT _ _ _ _ h.j (StepR.same rfl rfl (TurnR.ofGrown (grownBy_putObj' X D (.deferred none)) (fun r e => by cases e; exact ⟨hD, _, hrec, rfl⟩)))
  gi_wp2_with fail;refine ⟨by simp, .inl ⟨_, _, rfl, run_takeDeferred hrec, ?_⟩⟩
  exact ⟨_, results_none rfl _ _ _, ⟨_, rfl⟩, .inl ⟨_, ⟨rfl, hie, rfl⟩, hJD⟩⟩
 case stop =>
  rintro D c s X hD hsm ⟨rfl, h⟩ hrec;obtain ⟨s2, h1, h2, h3, h4, h5, h6⟩ := h;have hJD := hX _ _ _ h6 ⟨h1, TurnR.ofGrown (grownBy_putObj' X D (.deferred none)) (fun r e => by cases e; exact ⟨by rw [h2]; exact hD, _, hrec, rfl⟩)⟩
  gi_wp2_with fail;refine ⟨by simp, .inl ⟨_, _, rfl, run_takeDeferred hrec, ?_⟩⟩
  exact ⟨_, results_none rfl _ _ _, ⟨_, rfl⟩, .inr ⟨s2, h1, hJD⟩⟩
theorem infoTY : ∃ i : TypeInfo, Tryz.prog.info? 145 = some i ∧ i.zero = some (.agg #[.int .i64 0, .int .i64 0, .int .i64 0, .bool false, .int .i64 0, .string ⟨#[]⟩]) ∧ i.size = 6 ∧ i.bytes = 56 := by
 have h : (Tryz.prog.info? 145).map (fun i => (i.zero, i.size, i.bytes)) = some (some (.agg #[.int .i64 0, .int .i64 0, .int .i64 0, .bool false, .int .i64 0, .string ⟨#[]⟩]), 6, 56) := by kernel_rfl
 cases e : Tryz.prog.info? 145 with
 | none => rw [e] at h; cases h
 | some i =>
  rw [e] at h;simp at h
  exact ⟨i, rfl, h.1, h.2.1, h.2.2⟩
theorem eqNilTY (a : Option Addr) (n c : Nat) (w : World) : (binOp .eql 26 (.slice a n c) (.slice none 0 0)).run Tryz.prog w = .ok (.bool a.isNone) w := by
 simp only [binOp];simp [run_equal_slice_nil w 26 145 a n c Tryz.underlying26]
def NewTY (l : List (Tm)) (w : World) (e : Ending) (w' : World) : Prop := ∃ a c, e = .returned (.slice a l.length c) ∧ TmE.Row w' (.slice a l.length c) l ∧ Kp [] w w' ∧ ∀ k ∈ blk a, w.heap.size ≤ k
theorem cCloneTY (a : Option Addr) (c : Nat) (l : List (Tm)) (w : World) (hs : TmE.See w a l) (hn : a = none → c = 0) (hb : l.length ≤ 3600000000000) :
  Calls Tryz.prog 102 #[.slice a l.length c] w (NewTY l w) := by
 cases a with
 | none =>
  have hl : l = [] := by rcases hs with h | ⟨g, o, h, _⟩; exact h; cases h
  subst hl;rw [hn rfl];have e1 := eqNilTY none 0 0
  go_enter Tryz.func102, Tryz.ntmps102
  go_wp2_with fail;go_ret;exact ⟨none, 0, rfl, .inl ⟨rfl, rfl⟩, Kp.refl _ _, by simp [blk]⟩
 | some ad =>
  have e0 := eqNilTY (some ad) l.length c
  go_enter Tryz.func102, Tryz.ntmps102
  have k1 : Kp [] w (w.alloc (.cells #[] 145)) := (Kp.refl _ _).alloc _
  have hr := rowNoneY TmE w rfl #[] 145
  have hsr := (hs.keptNew k1).src (P := Tryz.prog) Tryz.underlying26 c
  obtain ⟨i0, hi, hz0, hz1, hz2⟩ := infoTY;go_wp2_with (first | (refine wpAppG (E := TmE) rfl _ _ 26 26 145 rfl i0 _ 56 Tryz.underlying26 hi hz0 hz1 hz2 rfl _ [] rfl hr _ l rfl hsr (by simp; omega) (by simp; omega) ?_; intro ys a' c' w' hy hrow hg hn) | fail)
  go_ret;have e : ys = l := by rw [hy.out]; rfl
  subst e;refine ⟨a', c', rfl, hrow, k1.trans hg (fun k hk => .inr ?_), fun k hk => ?_⟩
  ·simp [own, Value.ownBlock, Act.eval] at hk; omega
  ·rcases hn k hk with h1 | h1
   ·simp [own, Value.ownBlock, Act.eval] at h1; omega
   ·exact Nat.le_trans k1.size h1
def FiltP (g : Nat) (lb : Array Value) (ts : List (Tm)) (w : World) (e : Ending) (w' : World) : Prop := ∃ (q2 q3 : Nat) (a : Option Addr) (c : Nat), e = .returned (.func (.func 103) #[] #[.pointer (some ⟨q2, 0, none⟩), .pointer (some ⟨q3, 0, none⟩)]) ∧ w'.cell? ⟨q2, 0, none⟩ = some (.func (.func g) #[] lb) ∧ w'.cell? ⟨q3, 0, none⟩ = some (.slice a ts.length c) ∧ TmE.Row w' (.slice a ts.length c) ts ∧ Kp [] w w'
theorem cFiltE (g : Nat) (lb : Array Value) (ta : Option Addr) (tc : Nat) (ts : List (Tm)) (w : World) (ht : TmE.See w ta ts) (htn : ta = none → tc = 0) (htl : ts.length ≤ 3600000000000) :
  Calls Tryz.prog 57 #[.func (.func g) #[] lb, .slice ta ts.length tc] w (FiltP g lb ts w) := by
 obtain ⟨w1, hw1, k1, b1⟩ : ∃ w1, w.alloc (.cells #[.func (.func g) #[] lb] 123) = w1 ∧ Kp [] w w1 ∧ Bn w1 w.heap.size [.func (.func g) #[] lb] := ⟨_, rfl, (Kp.refl _ _).alloc _, Bn.new w _ _⟩
 obtain ⟨w2, hw2, k2, b2⟩ : ∃ w2, w1.alloc (.cells #[.slice ta ts.length tc] 26) = w2 ∧ Kp [] w1 w2 ∧ Bn w2 w1.heap.size [.slice ta ts.length tc] := ⟨_, rfl, (Kp.refl _ _).alloc _, Bn.new w1 _ _⟩
 obtain ⟨q2, hq2⟩ : ∃ q, Hid (w.heap.size = q) := ⟨_, rfl⟩
 obtain ⟨q3, hq3⟩ : ∃ q, Hid (w1.heap.size = q) := ⟨_, rfl⟩
 rw [hq2.out] at b1;rw [hq3.out] at b2;have hq2' := hq2.out
 have hq3' := hq3.out
 have k12 := k1.trans k2 (by simp)
 have b12 := b1.kept k2
 have z1 := k1.size
 have cC := hid (cCloneTY ta tc ts w2 (ht.keptNew k12) htn htl)
 have v3 := b2.get 0 _ rfl
 have HB := hid (And.intro b12 (And.intro b2 (And.intro k12 z1)))
 clear ht k1 k2 b1 b2 b12 k12 z1;go_enter Tryz.func57, Tryz.ntmps57
 go_wp2_with fail;refine cC.out.mono ?_;rintro e w3 ⟨a, c, rfl, hr, k3, hb⟩;have b3 := HB.out.2.1.kept k3
 have y3 := b3.get 0 _ rfl
 have f3 := b3.free 0
 obtain ⟨w4, e4, b4, k4⟩ : ∃ W2, w3.setCell ⟨q3, 0, none⟩ (.slice a ts.length c) = W2 ∧ Bn W2 q3 [.slice a ts.length c] ∧ Kp [q3] w3 W2 := ⟨_, rfl, b3.set 0 (by simp) _, (Kp.refl _ _).setCell (by simp) _⟩
 have hbq : ∀ k ∈ blk a, k ∉ [q3] := fun k hk hm => by
  simp at hm
  have h1 := hb k hk
  have h2 : q3 < w2.heap.size := HB.out.2.1.lt (by simp)
  omega
 have r4 : TmE.Row w4 (.slice a ts.length c) ts := ckRow (CK.ofKp k4) hr hbq
 have hne : q2 ∉ [q3] := by
  simp
  rw [← hq2.out, ← hq3.out, ← hw1];simp
 have x2 : w4.cell? ⟨q2, 0, none⟩ = some (.func (.func g) #[] lb) := (k4.cell (p := ⟨q2, 0, none⟩) (by have := (HB.out.1.kept k3).lt (by simp); exact this) hne).trans ((HB.out.1.kept k3).get 0 _ rfl)
 have kk : Kp [] w w4 := (HB.out.2.2.1.trans k3 (by simp)).trans k4 (fun j hj => .inr (by simp at hj; rw [hj, ← hq3.out]; exact HB.out.2.2.2))
 have HF := hid (And.intro x2 (And.intro (b4.get 0 _ rfl) (And.intro r4 kk)))
 clear cC hr k3 hb b3 b4 k4 hbq r4 x2 kk v3;go_wp2_with fail;go_ret;exact ⟨q2, q3, a, c, rfl, HF.out.1, HF.out.2.1, HF.out.2.2.1, HF.out.2.2.2⟩
def ProjP (g : Nat) (lb : Array Value) (ts : List (Int)) (w : World) (e : Ending) (w' : World) : Prop := ∃ (q2 q3 : Nat) (a : Option Addr) (c : Nat), e = .returned (.func (.func 145) #[] #[.pointer (some ⟨q2, 0, none⟩), .pointer (some ⟨q3, 0, none⟩)]) ∧ w'.cell? ⟨q2, 0, none⟩ = some (.func (.func g) #[] lb) ∧ w'.cell? ⟨q3, 0, none⟩ = some (.slice a ts.length c) ∧ IntE.Row w' (.slice a ts.length c) ts ∧ Kp [] w w'
theorem cProjE (g : Nat) (lb : Array Value) (ta : Option Addr) (tc : Nat) (ts : List (Int)) (w : World) (ht : IntE.See w ta ts) (htn : ta = none → tc = 0) (htl : ts.length ≤ 3600000000000) :
  Calls Tryz.prog 101 #[.func (.func g) #[] lb, .slice ta ts.length tc] w (ProjP g lb ts w) := by
 obtain ⟨w1, hw1, k1, b1⟩ : ∃ w1, w.alloc (.cells #[.func (.func g) #[] lb] 123) = w1 ∧ Kp [] w w1 ∧ Bn w1 w.heap.size [.func (.func g) #[] lb] := ⟨_, rfl, (Kp.refl _ _).alloc _, Bn.new w _ _⟩
 obtain ⟨w2, hw2, k2, b2⟩ : ∃ w2, w1.alloc (.cells #[.slice ta ts.length tc] 27) = w2 ∧ Kp [] w1 w2 ∧ Bn w2 w1.heap.size [.slice ta ts.length tc] := ⟨_, rfl, (Kp.refl _ _).alloc _, Bn.new w1 _ _⟩
 obtain ⟨q2, hq2⟩ : ∃ q, Hid (w.heap.size = q) := ⟨_, rfl⟩
 obtain ⟨q3, hq3⟩ : ∃ q, Hid (w1.heap.size = q) := ⟨_, rfl⟩
 rw [hq2.out] at b1;rw [hq3.out] at b2;have hq2' := hq2.out
 have hq3' := hq3.out
 have k12 := k1.trans k2 (by simp)
 have b12 := b1.kept k2
 have z1 := k1.size
 have cC := hid (cCloneIY ta tc ts w2 (ht.keptNew k12) htn htl)
 have v3 := b2.get 0 _ rfl
 have HB := hid (And.intro b12 (And.intro b2 (And.intro k12 z1)))
 clear ht k1 k2 b1 b2 b12 k12 z1;go_enter Tryz.func101, Tryz.ntmps101
 go_wp2_with fail;refine cC.out.mono ?_;rintro e w3 ⟨a, c, rfl, hr, k3, hb⟩;have b3 := HB.out.2.1.kept k3
 have y3 := b3.get 0 _ rfl
 have f3 := b3.free 0
 obtain ⟨w4, e4, b4, k4⟩ : ∃ W2, w3.setCell ⟨q3, 0, none⟩ (.slice a ts.length c) = W2 ∧ Bn W2 q3 [.slice a ts.length c] ∧ Kp [q3] w3 W2 := ⟨_, rfl, b3.set 0 (by simp) _, (Kp.refl _ _).setCell (by simp) _⟩
 have hbq : ∀ k ∈ blk a, k ∉ [q3] := fun k hk hm => by
  simp at hm
  have h1 := hb k hk
  have h2 : q3 < w2.heap.size := HB.out.2.1.lt (by simp)
  omega
 have r4 : IntE.Row w4 (.slice a ts.length c) ts := ckRow (CK.ofKp k4) hr hbq
 have hne : q2 ∉ [q3] := by
  simp
  rw [← hq2.out, ← hq3.out, ← hw1];simp
 have x2 : w4.cell? ⟨q2, 0, none⟩ = some (.func (.func g) #[] lb) := (k4.cell (p := ⟨q2, 0, none⟩) (by have := (HB.out.1.kept k3).lt (by simp); exact this) hne).trans ((HB.out.1.kept k3).get 0 _ rfl)
 have kk : Kp [] w w4 := (HB.out.2.2.1.trans k3 (by simp)).trans k4 (fun j hj => .inr (by simp at hj; rw [hj, ← hq3.out]; exact HB.out.2.2.2))
 have HF := hid (And.intro x2 (And.intro (b4.get 0 _ rfl) (And.intro r4 kk)))
 clear cC hr k3 hb b3 b4 k4 hbq r4 x2 kk v3;go_wp2_with fail;go_ret;exact ⟨q2, q3, a, c, rfl, HF.out.1, HF.out.2.1, HF.out.2.2.1, HF.out.2.2.2⟩
theorem heFilt : ∀ (args : Array Value) (w : World), (callFunc 103 args).run Tryz.prog w = .ok (.enter 103 args) w := fun _ _ => rfl
theorem heProj : ∀ (args : Array Value) (w : World), (callFunc 145 args).run Tryz.prog w = .ok (.enter 145 args) w := fun _ _ => rfl
theorem filtSrc {g : Nat} {lb : Array Value} {ts : List Tm} {w w' : World} {e : Ending} (h : FiltP g lb ts w e w') (m : Nat) (hm : 2 ≤ m) (fr : Bool) (RL : List (List Val)) (jsl : List Nat) (heg : ∀ args w, (callFunc g args).run Tryz.prog w = .ok (.enter g args) w) (hL : ∀ n, m ≤ n → RowSeq fr (n - 1) g lb RL jsl w) (hjl : ∀ j ∈ jsl, j < w.heap.size) (hA : Asks w) (hRLl : ∀ l ∈ RL, l.length ≤ 1800000000000) (htl : ts.length ≤ 3000000000000) :
  ∃ lb', e = .returned (.func (.func 103) #[] lb') ∧ ∃ js, (∀ j ∈ js, j < w'.heap.size) ∧ (∀ n, m ≤ n → RowSeq true n 103 lb' (RL.flatMap (filtF ts)) js w') ∧ Kp [] w w' := by
 obtain ⟨q2, q3, a, c, rfl, c1, c2, hr, k⟩ := h;obtain ⟨a', c', e, hs, _⟩ := hr.see
 cases e
 have hA' : Asks w' := hA.kept k (by simp)
 have hjs : ∀ j ∈ jsl ++ ([q2, q3] ++ (0 :: blk a)), j < w'.heap.size := fun j hj => by
  rcases List.mem_append.1 hj with e | e
  ·exact Nat.lt_of_lt_of_le (hjl j e) k.size
  ·rcases List.mem_append.1 e with e | e
   ·simp at e
    rcases e with rfl | rfl
    ·exact World.block_lt_of_cell? _ _ c1
    ·exact World.block_lt_of_cell? _ _ c2
   ·rcases List.mem_cons.1 e with rfl | e
    ·exact hA'.1
    ·exact hr.lt j (by rw [ownV]; exact e)
 exact ⟨_, rfl, _, hjs, fun n hn => filtSeq n (by omega) q2 q3 fr g lb RL jsl _ a c ts w' heg c1 c2 ⟨hs, hA'⟩ (fun q hq => List.mem_append.2 (.inr (List.mem_append.2 (.inl hq)))) (fun j hj => List.mem_append.2 (.inl hj)) (fun j hj => List.mem_append.2 (.inr (List.mem_append.2 (.inr hj)))) hjs ((hL n hn).move (KeepB.ofKp k (by simp))) hRLl htl, k⟩
theorem projSrc {g : Nat} {lb : Array Value} {ps : List Int} {w w' : World} {e : Ending} (h : ProjP g lb ps w e w') (m : Nat) (hm : 2 ≤ m) (fr : Bool) (RL : List (List Val)) (jsl : List Nat) (heg : ∀ args w, (callFunc g args).run Tryz.prog w = .ok (.enter g args) w) (hL : ∀ n, m ≤ n → RowSeq fr (n - 1) g lb RL jsl w) (hjl : ∀ j ∈ jsl, j < w.heap.size) (hRLl : ∀ l ∈ RL, l.length ≤ 1800000000000) (htl : ps.length ≤ 3000000000000) :
  ∃ lb', e = .returned (.func (.func 145) #[] lb') ∧ ∃ js, (∀ j ∈ js, j < w'.heap.size) ∧ (∀ n, m ≤ n → RowSeq true n 145 lb' (RL.flatMap (projF ps)) js w') ∧ Kp [] w w' := by
 obtain ⟨q2, q3, a, c, rfl, c1, c2, hr, k⟩ := h;obtain ⟨a', c', e, hs, _⟩ := hr.see
 cases e
 have hjs : ∀ j ∈ jsl ++ ([q2, q3] ++ blk a), j < w'.heap.size := fun j hj => by
  rcases List.mem_append.1 hj with e | e
  ·exact Nat.lt_of_lt_of_le (hjl j e) k.size
  ·rcases List.mem_append.1 e with e | e
   ·simp at e
    rcases e with rfl | rfl
    ·exact World.block_lt_of_cell? _ _ c1
    ·exact World.block_lt_of_cell? _ _ c2
   ·exact hr.lt j (by rw [ownV]; exact e)
 exact ⟨_, rfl, _, hjs, fun n hn => projSeq n (by omega) q2 q3 fr g lb RL jsl _ a c ps w' heg c1 c2 hs (fun q hq => List.mem_append.2 (.inr (List.mem_append.2 (.inl hq)))) (fun j hj => List.mem_append.2 (.inl hj)) (fun j hj => List.mem_append.2 (.inr (List.mem_append.2 (.inr hj)))) hjs ((hL n hn).move (KeepB.ofKp k (by simp))) hRLl htl, k⟩
theorem heVal : ∀ (args : Array Value) (w : World), (callFunc 94 args).run Tryz.prog w = .ok (.enter 94 args) w := fun _ _ => rfl
end Go.Proofs.YtlgfekjoknbfdaaGreatDoor
end

section
namespace Go.Proofs.YtlgfekjoknbfdaaGreatDoor
open Go.RowKit Go.Hay
attribute [local go_sem] Oper.semAt_some
end Go.Proofs.YtlgfekjoknbfdaaGreatDoor
end

section
namespace Go.Proofs.YtlgfekjoknbfdaaGreatDoor
open Go.RowKit Go.Hay
attribute [local go_sem] Oper.semAt_some
theorem projLen2 (ps : List Int) (R : List (List Val)) : (R.flatMap (projF ps)).length = R.length ∧ ∀ l ∈ R.flatMap (projF ps), l.length = ps.length := by
 refine ⟨?_, fun l hl => ?_⟩
 ·induction R with
  | nil => rfl
  | cons x R ih => rw [List.flatMap_cons, List.length_append, ih]; simp [projF]; omega
 ·obtain ⟨x, hx, hm⟩ := List.mem_flatMap.1 hl
  unfold projF at hm
  rw [List.mem_singleton.1 hm];simp [pickV]
def Src (m : Nat) (fr : Bool) (R : List (List Val)) (g : Nat) (lb : Array Value) (W : World) : Prop := (∀ args w, (callFunc g args).run Tryz.prog w = .ok (.enter g args) w) ∧ ∃ js, (∀ j ∈ js, j < W.heap.size) ∧ ∀ n, m ≤ n → RowSeq fr n g lb R js W
end Go.Proofs.YtlgfekjoknbfdaaGreatDoor
end

section
namespace Go.Hay
def PermIn (a b : Nat) (s : Nat → Nat) : Prop := (∀ k, a ≤ k → k < b → a ≤ s k ∧ s k < b) ∧ (∀ k, ¬ (a ≤ k ∧ k < b) → s k = k) ∧ ∀ i j, s i = s j → i = j
theorem PermIn.id (a b : Nat) : PermIn a b (fun k => k) := ⟨fun k h1 h2 => ⟨h1, h2⟩, fun _ _ => rfl, fun _ _ h => h⟩
theorem PermIn.comp {a b : Nat} {s t : Nat → Nat} (hs : PermIn a b s) (ht : PermIn a b t) : PermIn a b (fun k => s (t k)) :=
 ⟨fun k h1 h2 => hs.1 _ (ht.1 k h1 h2).1 (ht.1 k h1 h2).2, fun k h => by show s (t k) = k; rw [ht.2.1 k h, hs.2.1 k h], fun i j h => ht.2.2 _ _ (hs.2.2 _ _ h)⟩
theorem PermIn.mono {a b c d : Nat} {s : Nat → Nat} (hs : PermIn a b s) (h1 : c ≤ a) (h2 : b ≤ d) : PermIn c d s :=
 ⟨fun k h3 h4 => by
  by_cases h : a ≤ k ∧ k < b
  ·have := hs.1 k h.1 h.2
   omega
  ·rw [hs.2.1 k h]; omega, fun k h => hs.2.1 k (by omega), hs.2.2⟩
def swp (i j : Nat) : Nat → Nat := fun k => if k = i then j else if k = j then i else k
def swR (a b n : Nat) : Nat → Nat := fun k => if a ≤ k ∧ k < a + n then k - a + b else if b ≤ k ∧ k < b + n then k - b + a else k
theorem swR_zero (a b : Nat) : swR a b 0 = fun k => k := by
 funext k
 unfold swR
 split <;> (try split) <;> omega
theorem swR_succ (a b i : Nat) (h : a + (i + 1) ≤ b) : swR a b (i + 1) = fun k => swR a b i (swp (a + i) (b + i) k) := by
 funext k
 unfold swR swp
 repeat' split
 all_goals omega
def rot (a m b : Nat) : Nat → Nat := fun k => if a ≤ k ∧ k < b then (if k < a + (b - m) then k + (m - a) else k - (b - m)) else k
theorem rot_perm {lo hi a m b : Nat} (h1 : lo ≤ a) (h2 : a ≤ m) (h3 : m ≤ b) (h4 : b ≤ hi) : PermIn lo hi (rot a m b) := by
 refine ⟨fun k _ _ => ?_, fun k h => ?_, fun x y h => ?_⟩
 ·unfold rot; repeat' split
  all_goals omega
 ·unfold rot; repeat' split
  all_goals omega
 ·unfold rot at h
  repeat' split at h
  all_goals omega
theorem rot_left (m b : Nat) : rot m m b = fun k => k := by
 funext k
 unfold rot
 repeat' split
 all_goals omega
theorem rot_right (a m : Nat) (h : a ≤ m) : rot a m m = fun k => k := by
 funext k
 unfold rot
 repeat' split
 all_goals omega
theorem rot_step1 (m i j : Nat) (hi : i ≤ m) (h : j < i) : rot (m - i) m (m + j) = fun k => swR (m - i) m j (rot (m - (i - j)) m (m + j) k) := by
 funext k
 unfold rot swR
 repeat' split
 all_goals omega
theorem rot_step2 (m i j : Nat) (hi : i ≤ m) (h : i < j) : rot (m - i) m (m + j) = fun k => swR (m - i) (m + j - i) i (rot (m - i) m (m + (j - i)) k) := by
 funext k
 unfold rot swR
 repeat' split
 all_goals omega
theorem rot_end (m i : Nat) (hi : i ≤ m) : rot (m - i) m (m + i) = swR (m - i) m i := by
 funext k
 unfold rot swR
 repeat' split
 all_goals omega
theorem rot_pull (j i : Nat) (h : j < i) : rot j i (i + 1) = fun k => rot (j + 1) i (i + 1) (swp (j + 1) j k) := by
 funext k
 unfold rot swp
 repeat' split
 all_goals omega
theorem rot_push (a k i : Nat) (h1 : a ≤ k) (h2 : k + 1 < i) : rot a (a + 1) (k + 2) = fun x => rot a (a + 1) (k + 1) (swp k (k + 1) x) := by
 funext x
 unfold rot swp
 repeat' split
 all_goals omega
def bef (lt : Nat → Nat → Prop) (x y : Nat) : Prop := lt x y ∨ (¬ lt y x ∧ x < y)
structure Swo (lt : Nat → Nat → Prop) : Prop where
 asym : ∀ x y, lt x y → ¬ lt y x
 ntr : ∀ x y z, ¬ lt x y → ¬ lt y z → ¬ lt x z
theorem bef_trans {lt : Nat → Nat → Prop} (h : Swo lt) {x y z : Nat} (h1 : bef lt x y) (h2 : bef lt y z) : bef lt x z := by
 have nyx : ¬ lt y x := by rcases h1 with h1 | h1; exact h.asym _ _ h1; exact h1.1
 have nzy : ¬ lt z y := by rcases h2 with h2 | h2; exact h.asym _ _ h2; exact h2.1
 have nzx : ¬ lt z x := h.ntr _ _ _ nzy nyx
 by_cases hxz : lt x z
 ·exact .inl hxz
 ·right
  refine ⟨nzx, ?_⟩
  rcases h1 with h1 | h1
  ·exact absurd h1 (h.ntr _ _ _ hxz nzy)
  ·rcases h2 with h2 | h2
   ·exact absurd h2 (h.ntr _ _ _ nyx hxz)
   ·omega
theorem bef_asym {lt : Nat → Nat → Prop} (h : Swo lt) {x y : Nat} (h1 : bef lt x y) (h2 : bef lt y x) : False := by
 rcases h1 with h1 | h1
 ·rcases h2 with h2 | h2
  ·exact h.asym _ _ h1 h2
  ·exact h2.1 h1
 ·rcases h2 with h2 | h2
  ·exact h1.1 h2
  ·omega
def Srt (lt : Nat → Nat → Prop) (p : Nat → Nat) (a b : Nat) : Prop := ∀ i j, a ≤ i → i < j → j < b → bef lt (p i) (p j)
def Low (p : Nat → Nat) (a m b : Nat) : Prop := ∀ i j, a ≤ i → i < m → m ≤ j → j < b → p i < p j
theorem Srt.one (lt : Nat → Nat → Prop) (p : Nat → Nat) (a b : Nat) (h : b ≤ a + 1) : Srt lt p a b := fun i j h1 h2 h3 => by omega
theorem Srt.sub {lt : Nat → Nat → Prop} {p : Nat → Nat} {a b c d : Nat} (h : Srt lt p a b) (h1 : a ≤ c) (h2 : d ≤ b) : Srt lt p c d := fun i j h3 h4 h5 => h i j (by omega) h4 (by omega)
theorem Srt.to {lt : Nat → Nat → Prop} (hl : Swo lt) {p : Nat → Nat} {a b i j k : Nat} (h : Srt lt p a b) (h1 : a ≤ i) (h2 : i ≤ j) (h3 : j < b) (hb : bef lt (p j) k) : bef lt (p i) k := by
 rcases Nat.lt_or_ge i j with h4 | h4
 ·exact bef_trans hl (h i j h1 h4 h3) hb
 ·obtain rfl : i = j := by omega
  exact hb
theorem Srt.from {lt : Nat → Nat → Prop} (hl : Swo lt) {p : Nat → Nat} {a b i j k : Nat} (h : Srt lt p a b) (h1 : a ≤ i) (h2 : i ≤ j) (h3 : j < b) (hb : bef lt k (p i)) : bef lt k (p j) := by
 rcases Nat.lt_or_ge i j with h4 | h4
 ·exact bef_trans hl hb (h i j h1 h4 h3)
 ·obtain rfl : i = j := by omega
  exact hb
theorem rot_first (s m e k : Nat) (h1 : s ≤ k) (h2 : k < s + (e - m)) (h3 : s ≤ m) (h4 : m ≤ e) : rot s m e k = k + (m - s) := by unfold rot; rw [if_pos (by omega), if_pos h2]
theorem rot_second (s m e k : Nat) (h1 : s + (e - m) ≤ k) (h2 : k < e) (h3 : s ≤ m) (h4 : m ≤ e) : rot s m e k = k - (e - m) := by unfold rot; rw [if_pos (by omega), if_neg (by omega)]
theorem rot_out (s m e k : Nat) (h : k < s ∨ e ≤ k) : rot s m e k = k := by unfold rot; rw [if_neg (by omega)]
theorem sym_parts {lt : Nat → Nat → Prop} (hl : Swo lt) {p : Nat → Nat} {a s m e b mid : Nat} (h1 : a ≤ s) (h2 : s ≤ m) (h3 : m ≤ e) (h4 : e ≤ b) (hmid : mid = s + (e - m)) (hA : Srt lt p a m) (hB : Srt lt p m b) (hLo : Low p a m b)
  (F1 : s < m → m < e → lt (p (e - 1)) (p s)) (F2 : a < s → e < b → ¬ lt (p e) (p (s - 1))) :
  (Srt lt (fun k => p (rot s m e k)) a s ∧ Srt lt (fun k => p (rot s m e k)) s mid ∧ Low (fun k => p (rot s m e k)) a s mid) ∧ (Srt lt (fun k => p (rot s m e k)) mid e ∧ Srt lt (fun k => p (rot s m e k)) e b ∧ Low (fun k => p (rot s m e k)) mid e b) ∧ ∀ x y, a ≤ x → x < mid → mid ≤ y → y < b → bef lt (p (rot s m e x)) (p (rot s m e y)) := by
 subst hmid;refine ⟨⟨fun i j g1 g2 g3 => ?_, fun i j g1 g2 g3 => ?_, fun i j g1 g2 g3 g4 => ?_⟩, ⟨fun i j g1 g2 g3 => ?_, fun i j g1 g2 g3 => ?_, fun i j g1 g2 g3 g4 => ?_⟩, fun x y g1 g2 g3 g4 => ?_⟩
 ·show bef lt (p (rot s m e i)) (p (rot s m e j))
  rw [rot_out s m e i (by omega), rot_out s m e j (by omega)]
  exact hA i j g1 g2 (by omega)
 ·show bef lt (p (rot s m e i)) (p (rot s m e j))
  rw [rot_first s m e i (by omega) (by omega) h2 h3, rot_first s m e j (by omega) (by omega) h2 h3]
  exact hB _ _ (by omega) (by omega) (by omega)
 ·show p (rot s m e i) < p (rot s m e j)
  rw [rot_out s m e i (by omega), rot_first s m e j (by omega) (by omega) h2 h3]
  exact hLo _ _ (by omega) (by omega) (by omega) (by omega)
 ·show bef lt (p (rot s m e i)) (p (rot s m e j))
  rw [rot_second s m e i (by omega) (by omega) h2 h3, rot_second s m e j (by omega) (by omega) h2 h3]
  exact hA _ _ (by omega) (by omega) (by omega)
 ·show bef lt (p (rot s m e i)) (p (rot s m e j))
  rw [rot_out s m e i (by omega), rot_out s m e j (by omega)]
  exact hB i j (by omega) g2 g3
 ·show p (rot s m e i) < p (rot s m e j)
  rw [rot_second s m e i (by omega) (by omega) h2 h3, rot_out s m e j (by omega)]
  exact hLo _ _ (by omega) (by omega) (by omega) (by omega)
 ·by_cases c1 : x < s
  ·rw [rot_out s m e x (by omega)]
   by_cases c2 : y < e
   ·rw [rot_second s m e y (by omega) (by omega) h2 h3]
    exact hA _ _ (by omega) (by omega) (by omega)
   ·rw [rot_out s m e y (by omega)]
    have f2 := F2 (by omega) (by omega)
    have hb : bef lt (p (s - 1)) (p e) := .inr ⟨f2, hLo _ _ (by omega) (by omega) (by omega) (by omega)⟩
    exact hB.from hl (i := e) (by omega) (by omega) (by omega) (hA.to hl (j := s - 1) g1 (by omega) (by omega) hb)
  ·rw [rot_first s m e x (by omega) (by omega) h2 h3]
   by_cases c2 : y < e
   ·rw [rot_second s m e y (by omega) (by omega) h2 h3]
    have f1 := F1 (by omega) (by omega)
    exact hA.from hl (i := s) (by omega) (by omega) (by omega) (hB.to hl (j := e - 1) (by omega) (by omega) (by omega) (.inl f1))
   ·rw [rot_out s m e y (by omega)]
    exact hB _ _ (by omega) (by omega) (by omega)
theorem Srt.join {lt : Nat → Nat → Prop} {p s t : Nat → Nat} {a m b : Nat} (hs : PermIn a m s) (ht : PermIn m b t) (h1 : Srt lt (fun k => p (s k)) a m) (h2 : Srt lt (fun k => p (t k)) m b) (hx : ∀ x y, a ≤ x → x < m → m ≤ y → y < b → bef lt (p x) (p y)) : Srt lt (fun k => p (s (t k))) a b := fun i j g1 g2 g3 => by
 show bef lt (p (s (t i))) (p (s (t j)))
 by_cases c1 : j < m
 ·rw [ht.2.1 i (by omega), ht.2.1 j (by omega)]
  exact h1 i j g1 g2 c1
 ·have hj := ht.1 j (by omega) g3
  rw [hs.2.1 (t j) (by omega)]
  by_cases c2 : i < m
  ·rw [ht.2.1 i (by omega)]
   have hi := hs.1 i g1 c2
   exact hx _ _ hi.1 hi.2 hj.1 hj.2
  ·have hi := ht.1 i (by omega) (by omega)
   rw [hs.2.1 (t i) (by omega)]
   exact h2 i j (by omega) g2 g3
theorem ins_right {lt : Nat → Nat → Prop} (hl : Swo lt) {p : Nat → Nat} {a b i : Nat} (h1 : a + 1 ≤ i) (h2 : i ≤ b) (hB : Srt lt p (a + 1) b) (hLo : Low p a (a + 1) b) (F1 : i = a + 1 ∨ lt (p (i - 1)) (p a)) (F2 : i = b ∨ ¬ lt (p i) (p a)) : Srt lt (fun k => p (rot a (a + 1) i k)) a b := by
 obtain ⟨⟨_, q2, _⟩, ⟨q4, q5, _⟩, q7⟩ := sym_parts hl (p := p) (a := a) (s := a) (m := a + 1) (e := i) (b := b) (mid := a + (i - (a + 1))) (Nat.le_refl _) (by omega) h1 h2 rfl (Srt.one _ _ _ _ (by omega)) hB hLo (fun _ h => by rcases F1 with h' | h'; omega; exact h') (fun h => by omega)
 intro x y g1 g2 g3
 show bef lt (p (rot a (a + 1) i x)) (p (rot a (a + 1) i y))
 by_cases c1 : y < a + (i - (a + 1))
 ·exact q2 x y g1 g2 c1
 ·by_cases c2 : x < a + (i - (a + 1))
  ·exact q7 x y g1 c2 (by omega) g3
  ·by_cases c3 : y < i
   ·omega
   ·by_cases c4 : x < i
    ·rw [rot_second a (a + 1) i x (by omega) (by omega) (by omega) h1, rot_out a (a + 1) i y (by omega)]
     have e : x - (i - (a + 1)) = a := by omega
     rw [e];have f2 : ¬ lt (p i) (p a) := by rcases F2 with h | h; omega; exact h
     exact hB.from hl (i := i) h1 (by omega) g3 (.inr ⟨f2, hLo _ _ (by omega) (by omega) (by omega) (by omega)⟩)
    ·exact q5 x y (by omega) g2 g3
theorem ins_left {lt : Nat → Nat → Prop} (hl : Swo lt) {p : Nat → Nat} {a m i : Nat} (h1 : a ≤ i) (h2 : i ≤ m) (hA : Srt lt p a m) (hLo : Low p a m (m + 1)) (F1 : i = m ∨ lt (p m) (p i)) (F2 : i = a ∨ ¬ lt (p m) (p (i - 1))) : Srt lt (fun k => p (rot i m (m + 1) k)) a (m + 1) := by
 intro x y g1 g2 g3
 show bef lt (p (rot i m (m + 1) x)) (p (rot i m (m + 1) y))
 by_cases c1 : x < i
 ·rw [rot_out i m (m + 1) x (by omega)]
  have f2 : i = a ∨ bef lt (p (i - 1)) (p m) := by
   rcases F2 with h | h
   ·exact .inl h
   ·by_cases hia : i = a
    ·exact .inl hia
    ·exact .inr (.inr ⟨h, hLo _ _ (by omega) (by omega) (by omega) (by omega)⟩)
  by_cases c2 : y < i
  ·rw [rot_out i m (m + 1) y (by omega)]
   exact hA x y g1 g2 (by omega)
  ·by_cases c3 : y = i
   ·subst c3
    rw [rot_first y m (m + 1) y (by omega) (by omega) h2 (by omega), show y + (m - y) = m by omega]
    rcases f2 with h | h
    ·omega
    ·exact hA.to hl (j := y - 1) g1 (by omega) (by omega) h
   ·rw [rot_second i m (m + 1) y (by omega) (by omega) h2 (by omega)]
    exact hA _ _ g1 (by omega) (by omega)
 ·by_cases c3 : x = i
  ·subst c3
   rw [rot_first x m (m + 1) x (by omega) (by omega) h2 (by omega), show x + (m - x) = m by omega, rot_second x m (m + 1) y (by omega) (by omega) h2 (by omega)]
   have f1 : lt (p m) (p x) := by rcases F1 with h | h; omega; exact h
   exact hA.from hl (i := x) h1 (by omega) (by omega) (.inl f1)
  ·rw [rot_second i m (m + 1) x (by omega) (by omega) h2 (by omega), rot_second i m (m + 1) y (by omega) (by omega) h2 (by omega)]
   exact hA _ _ (by omega) (by omega) (by omega)
end Go.Hay
end

section
namespace Go.Proofs.YtlgfekjoknbfdaaGreatDoor
open Go.RowKit Go.Hay
def insP (lt : Nat → Nat → Prop) [∀ x y, Decidable (lt x y)] (v : Nat) (L : List Nat) : Nat → Nat
 | 0 => 0
 | k + 1 => if lt v (L.getD k 0) then insP lt v L k else k + 1
def insI (lt : Nat → Nat → Prop) [∀ x y, Decidable (lt x y)] (v : Nat) (L : List Nat) : List Nat := L.take (insP lt v L L.length) ++ v :: L.drop (insP lt v L L.length)
theorem insP_le (lt : Nat → Nat → Prop) [∀ x y, Decidable (lt x y)] (v : Nat) (L : List Nat) : ∀ k, insP lt v L k ≤ k
 | 0 => Nat.le_refl _
 | k + 1 => by
  unfold insP
  have := insP_le lt v L k
  split <;> omega
theorem insP_lt (lt : Nat → Nat → Prop) [∀ x y, Decidable (lt x y)] (v : Nat) (L : List Nat) : ∀ k j, insP lt v L k ≤ j → j < k → lt v (L.getD j 0)
 | 0, j, _, h => by omega
 | k + 1, j, h1, h2 => by
  unfold insP at h1
  split at h1
  ·rename_i hl
   by_cases e : j = k
   ·rw [e]; exact hl
   ·exact insP_lt lt v L k j h1 (by omega)
  ·omega
theorem insP_ge (lt : Nat → Nat → Prop) [∀ x y, Decidable (lt x y)] (v : Nat) (L : List Nat) : ∀ k, insP lt v L k = 0 ∨ ¬ lt v (L.getD (insP lt v L k - 1) 0)
 | 0 => .inl rfl
 | k + 1 => by
  unfold insP
  split
  ·exact insP_ge lt v L k
  ·rename_i hl
   exact .inr (by simpa using hl)
theorem insI_sorted {lt : Nat → Nat → Prop} [∀ x y, Decidable (lt x y)] (hl : Swo lt) (v : Nat) (L : List Nat) (hs : L.Pairwise (bef lt)) (hv : ∀ y ∈ L, y < v) : (insI lt v L).Pairwise (bef lt) := by
 have h0 := insP_le lt v L L.length
 have h1 := insP_lt lt v L L.length
 have h2 := insP_ge lt v L L.length
 unfold insI
 generalize insP lt v L L.length = k at *
 have hp := List.pairwise_iff_getElem.1 hs
 rw [List.pairwise_append];refine ⟨hs.sublist (List.take_sublist _ _), ?_, fun x hx y hy => ?_⟩
 ·rw [List.pairwise_cons]
  refine ⟨fun y hy => ?_, hs.sublist (List.drop_sublist _ _)⟩
  obtain ⟨j, hj, e⟩ := List.mem_iff_getElem.1 hy;rw [List.getElem_drop] at e;rw [List.length_drop] at hj;have h3 := h1 (k + j) (by omega) (by omega)
  rw [List.getD_eq_getElem?_getD, List.getElem?_eq_getElem (by omega), Option.getD_some, e] at h3
  exact .inl h3
 ·obtain ⟨i, hi, e⟩ := List.mem_iff_getElem.1 hx
  rw [List.getElem_take] at e;rw [List.length_take] at hi;have hk : ¬ lt v (L.getD (k - 1) 0) := by rcases h2 with h | h; omega; exact h
  rw [List.getD_eq_getElem?_getD, List.getElem?_eq_getElem (show k - 1 < L.length by omega), Option.getD_some] at hk
  have hb : bef lt L[k - 1] v := .inr ⟨hk, hv _ (List.getElem_mem _)⟩
  have hxv : bef lt x v := by
   by_cases c : i = k - 1
   ·subst c; rw [← e]; exact hb
   ·rw [← e]; exact bef_trans hl (hp i (k - 1) (by omega) (by omega) (by omega)) hb
  rcases List.mem_cons.1 hy with rfl | hy
  ·exact hxv
  ·obtain ⟨j, hj, e2⟩ := List.mem_iff_getElem.1 hy
   rw [List.getElem_drop] at e2;rw [List.length_drop] at hj;rw [← e, ← e2];exact hp i (k + j) (by omega) (by omega) (by omega)
theorem insI_perm (lt : Nat → Nat → Prop) [∀ x y, Decidable (lt x y)] (v : Nat) (L : List Nat) : (insI lt v L).Perm (L ++ [v]) := by
 unfold insI
 generalize insP lt v L L.length = k
 have h1 : (L.take k ++ v :: L.drop k).Perm (v :: (L.take k ++ L.drop k)) := List.perm_middle
 rw [List.take_append_drop] at h1;exact h1.trans (List.perm_append_comm (l₁ := [v]) (l₂ := L))
def srtI (lt : Nat → Nat → Prop) [∀ x y, Decidable (lt x y)] : Nat → List Nat
 | 0 => []
 | n + 1 => insI lt n (srtI lt n)
theorem srtI_perm (lt : Nat → Nat → Prop) [∀ x y, Decidable (lt x y)] : ∀ n, (srtI lt n).Perm (List.range n)
 | 0 => List.Perm.refl _
 | n + 1 => by
  rw [srtI, List.range_succ];exact (insI_perm lt n _).trans ((srtI_perm lt n).append_right [n])
theorem srtI_sorted {lt : Nat → Nat → Prop} [∀ x y, Decidable (lt x y)] (hl : Swo lt) : ∀ n, (srtI lt n).Pairwise (bef lt)
 | 0 => List.Pairwise.nil
 | n + 1 => insI_sorted hl n _ (srtI_sorted hl n) (fun y hy => by have := (srtI_perm lt n).mem_iff.1 hy; simpa using this)
theorem perm_of_sub : ∀ (l m : List Nat), l.Nodup → (∀ x ∈ l, x ∈ m) → m.length ≤ l.length → l.Perm m
 | [], m, _, _, h => by
  have : m = [] := List.length_eq_zero_iff.1 (Nat.le_zero.1 h)
  rw [this]
 | a :: l, m, hn, hs, h => by
  have ha : a ∈ m := hs a (List.mem_cons_self ..)
  have hn' := List.nodup_cons.1 hn
  have h1 : l.Perm (m.erase a) := perm_of_sub l (m.erase a) hn'.2 (fun x hx => by
   have hne : x ≠ a := fun e => hn'.1 (e ▸ hx)
   exact (List.mem_erase_of_ne hne).2 (hs x (List.mem_cons_of_mem _ hx))) (by
   rw [List.length_erase_of_mem ha]; simp only [List.length_cons] at h; omega)
  exact (h1.cons a).trans (List.perm_cons_erase ha).symm
theorem sorted_eq {lt : Nat → Nat → Prop} [∀ x y, Decidable (lt x y)] (hl : Swo lt) {n : Nat} {s : Nat → Nat} (hp : PermIn 0 n s) (hs : Srt lt s 0 n) : (List.range n).map s = srtI lt n := by
 have h1 : ((List.range n).map s).Pairwise (bef lt) := by
  rw [List.pairwise_map];refine List.Pairwise.imp_of_mem (R := fun a b => a < b) (fun {a b} ha hb hab => ?_) List.pairwise_lt_range
  exact hs a b (Nat.zero_le _) hab (List.mem_range.1 hb)
 have hnd : ((List.range n).map s).Nodup := by
  unfold List.Nodup
  rw [List.pairwise_map];exact List.Pairwise.imp (fun {a b} hab e => hab (hp.2.2 _ _ e)) List.nodup_range
 have h2 : ((List.range n).map s).Perm (List.range n) := by
  refine perm_of_sub _ _ hnd ?_ (by simp)
  intro y hy
  obtain ⟨k, hk, rfl⟩ := List.mem_map.1 hy;exact List.mem_range.2 (hp.1 k (Nat.zero_le _) (List.mem_range.1 hk)).2
 refine List.Perm.eq_of_pairwise (le := bef lt) (fun a b _ _ h3 h4 => (bef_asym hl h3 h4).elim) h1 (srtI_sorted hl n) (h2.trans (srtI_perm lt n).symm)
end Go.Proofs.YtlgfekjoknbfdaaGreatDoor
end

section
namespace Go.Proofs.YtlgfekjoknbfdaaGreatDoor
open Go.RowKit Go.Hay
attribute [local go_sem] Oper.semAt_some
def sumS (col : Int) (out : Val) (l : List Val) : Val := if (vAt l col).k = 2 then ⟨2, false, IntKind.i64.wrap (out.n + (vAt l col).n), ⟨#[]⟩⟩ else out
def sumV (col : Int) (R : List (List Val)) : Val := R.foldl (sumS col) nulV
def utmS (col side : Int) (out : Val) (l : List Val) : Val := if (vAt l col).k = 0 then out else if out.k = 0 ∨ cmpV (vAt l col) out = side then vAt l col else out
def utmV (col side : Int) (R : List (List Val)) : Val := R.foldl (utmS col side) nulV
def tellV (R : List (List Val)) (a : Int × Int) : Val := if a.1 = 0 then ⟨2, false, (R.length : Int), ⟨#[]⟩⟩ else if a.1 = 1 then sumV a.2 R else if a.1 = 2 then utmV a.2 (-1) R else if a.1 = 3 then utmV a.2 1 R else nulV
def cV (v : Val) : List Value := [.int .i64 v.k, .bool v.b, .int .i64 v.n, .string v.t]
end Go.Proofs.YtlgfekjoknbfdaaGreatDoor
end

section
namespace Go.Proofs.YtlgfekjoknbfdaaGreatDoor
open Go.RowKit Go.Hay
theorem rows_lt_le {a b c : List Val} (h : rowsV a b < 0) (k : rowsV b c ≤ 0) : rowsV a c < 0 := by
 have h1 := rows_trans a b c (by omega) k
 by_cases e : rowsV a c = 0
 ·have n1 := rows_neg a c
  have n2 := rows_neg a b
  have := rows_trans b c a k (by omega)
  omega
 ·omega
theorem rows_zz {a b c : List Val} (h : rowsV a b = 0) (k : rowsV b c = 0) : rowsV a c = 0 := by
 have h1 := rows_trans a b c (by omega) (by omega)
 have n1 := rows_neg a b
 have n2 := rows_neg b c
 have h2 := rows_trans c b a (by omega) (by omega)
 have n3 := rows_neg a c
 omega
theorem rows_sym {a b : List Val} (h : rowsV a b = 0) : rowsV b a = 0 := by
 have n1 := rows_neg a b
 omega
theorem rows_refl0 (a : List Val) : rowsV a a = 0 := by
 have n1 := rows_neg a a
 omega
def posK (k : List Val) : List (List Val) → Nat
 | [] => 0
 | x :: ks => if rowsV x k < 0 then posK k ks + 1 else 0
theorem posK_le (k : List Val) : ∀ ks, posK k ks ≤ ks.length
 | [] => Nat.le_refl _
 | x :: ks => by
  unfold posK
  have := posK_le k ks
  split
  ·simp; omega
  ·simp
theorem posK_lt (k : List Val) : ∀ (ks : List (List Val)) (j : Nat), j < posK k ks → rowsV (ks.getD j []) k < 0
 | [], j, h => by simp [posK] at h
 | x :: ks, j, h => by
  unfold posK at h
  split at h
  ·rename_i hx
   cases j with
   | zero => exact hx
   | succ j => exact posK_lt k ks j (by omega)
  ·omega
theorem posK_ge (k : List Val) : ∀ (ks : List (List Val)), posK k ks < ks.length → ¬ rowsV (ks.getD (posK k ks) []) k < 0
 | [], h => by simp at h
 | x :: ks, h => by
  unfold posK at h ⊢
  split
  ·rename_i hx
   rw [if_pos hx] at h;simp at h
   exact posK_ge k ks h
  ·rename_i hx; exact hx
def hitK (k : List Val) (ks : List (List Val)) : Bool := decide (posK k ks < ks.length) && (rowsV (ks.getD (posK k ks) []) k == 0)
def insK (ks : List (List Val)) (k : List Val) : List (List Val) := if hitK k ks then ks else ks.take (posK k ks) ++ k :: ks.drop (posK k ks)
def keysV (bs : List Int) (R : List (List Val)) : List (List Val) := R.foldl (fun ks l => insK ks (pickV l bs)) []
theorem keysV_snoc (bs : List Int) (R : List (List Val)) (l : List Val) : keysV bs (R ++ [l]) = insK (keysV bs R) (pickV l bs) := by
 unfold keysV
 rw [List.foldl_append];rfl
abbrev Up (ks : List (List Val)) : Prop := ks.Pairwise fun a b => rowsV a b < 0
theorem hit_of_mem {ks : List (List Val)} (hu : Up ks) {k x : List Val} (hx : x ∈ ks) (h : rowsV x k = 0) : hitK k ks = true := by
 induction ks with
 | nil => simp at hx
 | cons y ks ih =>
  rw [Up, List.pairwise_cons] at hu;unfold hitK posK
  rcases List.mem_cons.1 hx with rfl | hx
  ·rw [if_neg (by omega)]
   simp [h]
  ·have hy := rows_lt_le (hu.1 x hx) (by omega : rowsV x k ≤ 0)
   have := ih hu.2 hx
   unfold hitK at this
   rw [if_pos hy];simpa using this
theorem insK_up {ks : List (List Val)} (hu : Up ks) (k : List Val) : Up (insK ks k) := by
 unfold insK
 cases hh : hitK k ks with
 | true => simpa using hu
 | false =>
  simp only [Bool.false_eq_true, if_false];have h0 := posK_le k ks
  have h1 := posK_lt k ks
  have h2 := posK_ge k ks
  have h3 : posK k ks < ks.length → ¬ rowsV (ks.getD (posK k ks) []) k = 0 := fun h e => by
   unfold hitK at hh
   rw [e] at hh;simp at hh
   omega
  generalize posK k ks = n at *
  have hp := List.pairwise_iff_getElem.1 hu
  have hge : ∀ j (hj : j < ks.length), n ≤ j → rowsV k ks[j] < 0 := fun j hj hn => by
   have hnl : n < ks.length := by omega
   have a1 := h2 hnl
   have a2 := h3 hnl
   rw [List.getD_eq_getElem?_getD, List.getElem?_eq_getElem hnl] at a1 a2;have a3 := rows_neg ks[n] k
   have a4 : rowsV k ks[n] < 0 := by
    have b1 : ¬ rowsV ks[n] k < 0 := a1
    have b2 : ¬ rowsV ks[n] k = 0 := a2
    omega
   by_cases e : j = n
   ·subst e; exact a4
   ·exact rows_lt_le a4 (by have := hp n j hnl hj (by omega); omega)
  have hlt : ∀ j (hj : j < ks.length), j < n → rowsV ks[j] k < 0 := fun j hj hn => by
   have := h1 j hn
   rwa [List.getD_eq_getElem?_getD, List.getElem?_eq_getElem hj] at this
  rw [Up, List.pairwise_append];refine ⟨hu.sublist (List.take_sublist _ _), ?_, fun x hx y hy => ?_⟩
  ·rw [List.pairwise_cons]
   refine ⟨fun y hy => ?_, hu.sublist (List.drop_sublist _ _)⟩
   obtain ⟨j, hj, e⟩ := List.mem_iff_getElem.1 hy;rw [List.getElem_drop] at e;rw [List.length_drop] at hj;rw [← e];exact hge (n + j) (by omega) (by omega)
  ·obtain ⟨i, hi, e⟩ := List.mem_iff_getElem.1 hx
   rw [List.getElem_take] at e;rw [List.length_take] at hi;rw [← e]
   rcases List.mem_cons.1 hy with rfl | hy
   ·exact hlt i (by omega) (by omega)
   ·obtain ⟨j, hj, e2⟩ := List.mem_iff_getElem.1 hy
    rw [List.getElem_drop] at e2;rw [List.length_drop] at hj;rw [← e2];exact hp i (n + j) (by omega) (by omega) (by omega)
theorem insK_mem {ks : List (List Val)} {k x : List Val} : x ∈ insK ks k ↔ x ∈ ks ∨ (x = k ∧ hitK k ks = false) := by
 unfold insK
 cases hh : hitK k ks with
 | true => simp
 | false =>
  simp only [Bool.false_eq_true, if_false, and_true];rw [List.mem_append, List.mem_cons]
  have e : x ∈ ks ↔ x ∈ ks.take (posK k ks) ∨ x ∈ ks.drop (posK k ks) := by
   rw [← List.mem_append, List.take_append_drop]
  rw [e];constructor
  ·rintro (h | h | h)
   ·exact .inl (.inl h)
   ·exact .inr h
   ·exact .inl (.inr h)
  ·rintro ((h | h) | h)
   ·exact .inl h
   ·exact .inr (.inr h)
   ·exact .inr (.inl h)
structure KeysOk (bs : List Int) (R ks : List (List Val)) : Prop where
 up : Up ks
 each : ∀ l ∈ R, ∃ k ∈ ks, rowsV (pickV l bs) k = 0
 first : ∀ k ∈ ks, ∃ l, (R.filter fun l => rowsV (pickV l bs) k == 0).head? = some l ∧ pickV l bs = k
theorem revInd {α : Type} {p : List α → Prop} (h0 : p []) (h1 : ∀ l a, p l → p (l ++ [a])) : ∀ l, p l := fun l => by
 have : ∀ m : List α, p m.reverse := fun m => by
  induction m with
  | nil => exact h0
  | cons a m ih => rw [List.reverse_cons]; exact h1 _ _ ih
 have h := this l.reverse
 rwa [List.reverse_reverse] at h
theorem keysV_ok (bs : List Int) : ∀ R, KeysOk bs R (keysV bs R) := revInd ⟨List.Pairwise.nil, by simp, by simp [keysV]⟩ fun R l ih => by
 rw [keysV_snoc];refine ⟨insK_up ih.up _, fun x hx => ?_, fun k hk => ?_⟩
 ·rcases List.mem_append.1 hx with hx | hx
  ·obtain ⟨k, hk, e⟩ := ih.each x hx
   exact ⟨k, insK_mem.2 (.inl hk), e⟩
  ·rw [List.mem_singleton.1 hx]
   cases hh : hitK (pickV l bs) (keysV bs R) with
   | false => exact ⟨pickV l bs, insK_mem.2 (.inr ⟨rfl, hh⟩), rows_refl0 _⟩
   | true =>
    unfold hitK at hh
    rw [Bool.and_eq_true] at hh;have h1 := of_decide_eq_true hh.1
    have h2 : rowsV ((keysV bs R).getD (posK (pickV l bs) (keysV bs R)) []) (pickV l bs) = 0 := by simpa using hh.2
    rw [List.getD_eq_getElem?_getD, List.getElem?_eq_getElem h1] at h2;exact ⟨_, insK_mem.2 (.inl (List.getElem_mem h1)), rows_sym h2⟩
 ·rw [List.filter_append]
  rcases insK_mem.1 hk with hk | ⟨rfl, hh⟩
  ·obtain ⟨x, hx, e⟩ := ih.first k hk
   refine ⟨x, ?_, e⟩;rw [List.head?_append, hx];rfl
  ·refine ⟨l, ?_, rfl⟩
   have h0 : (R.filter fun x => rowsV (pickV x bs) (pickV l bs) == 0) = [] := by
    rw [List.filter_eq_nil_iff];intro x hx he
    have he' : rowsV (pickV x bs) (pickV l bs) = 0 := by simpa using he
    obtain ⟨k, hk, e⟩ := ih.each x hx;have := hit_of_mem ih.up hk (rows_zz (rows_sym e) he')
    rw [hh] at this
    cases this
   rw [h0];have e2 : (rowsV (pickV l bs) (pickV l bs) == 0) = true := by rw [rows_refl0]; rfl
   simp [e2]
def refG (bs : List Int) (gs : List (Int × Int)) (R : List (List Val)) : List (List Val) := (if bs = [] then [[]] else keysV bs R).map fun k => k ++ gs.map (tellV (R.filter fun l => rowsV (pickV l bs) k == 0))
end Go.Proofs.YtlgfekjoknbfdaaGreatDoor
end

section
namespace Go.Proofs.YtlgfekjoknbfdaaGreatDoor
open Go.RowKit Go.Hay
open Go.RowKit Go.Hay
open Go.RowKit Go.Hay
open Go.RowKit Go.Hay
open Go.RowKit Go.Hay
open Go.RowKit Go.Hay
open Go.RowKit Go.Hay
open Go.RowKit Go.Hay
open Go.RowKit Go.Hay
end Go.Proofs.YtlgfekjoknbfdaaGreatDoor
end

section
namespace Go.Proofs.YtlgfekjoknbfdaaGreatDoor
open Go.RowKit Go.Hay
attribute [local go_sem] Oper.semAt_some
def keyV (bs : List Int) (R : List (List Val)) (i : Nat) : List Val := pickV (R.getD i []) bs
def ltK (bs : List Int) (R : List (List Val)) (x y : Nat) : Prop := rowsV (keyV bs R x) (keyV bs R y) < 0
instance (bs : List Int) (R : List (List Val)) : ∀ x y, Decidable (ltK bs R x y) := fun x y => by unfold ltK; infer_instance
end Go.Proofs.YtlgfekjoknbfdaaGreatDoor
end

section
namespace Go.Proofs.YtlgfekjoknbfdaaGreatDoor
open Go.RowKit Go.Hay
attribute [local go_sem] Oper.semAt_some
attribute [local go_sem] Oper.semAt_some
attribute [local go_sem] Oper.semAt_some
attribute [local go_sem] Oper.semAt_some
attribute [local go_sem] Oper.semAt_some
attribute [local go_sem] Oper.semAt_some
attribute [local go_sem] Oper.semAt_some
end Go.Proofs.YtlgfekjoknbfdaaGreatDoor
end

section
namespace Go.Proofs.YtlgfekjoknbfdaaGreatDoor
open Go.RowKit Go.Hay
end Go.Proofs.YtlgfekjoknbfdaaGreatDoor
end

section
namespace Go.Proofs.YtlgfekjoknbfdaaGreatDoor
open Go.RowKit Go.Hay
attribute [local go_sem] Oper.semAt_some
def OrE : El (Int × Bool) where
 n := 2
 c x := [.int .i64 x.1, .bool x.2]
 len _ := rfl
 one _ u hu := by simp at hu; rcases hu with rfl | rfl <;> rfl
 pos := by decide
theorem orAt {w : World} {a : Option Addr} {l : List (Int × Bool)} (h : OrE.See w a l) (j : Nat) (hj : j < l.length) : ∃ g o, a = some ⟨g, o, none⟩ ∧ w.cell? ⟨g, o + j * 2, none⟩ = some (.int .i64 l[j].1) ∧ w.cell? ⟨g, o + j * 2 + 1, none⟩ = some (.bool l[j].2) := by
 obtain ⟨g, o, e, hc⟩ := h.at (j := j) (x := l[j]) (by simp [hj])
 exact ⟨g, o, e, hc 0 _ rfl, hc 1 _ rfl⟩
theorem boxOr (w : World) (x : Int) (y : Bool) : ∃ q W1 W2, w.heap.size = q ∧ w.alloc (.cells #[.int .i64 0, .bool false] 106) = W1 ∧ Bn W1 q [.int .i64 0, .bool false] ∧ (W1.setCell ⟨q, 0, none⟩ (.int .i64 x)).setCell ⟨q, 1, none⟩ (.bool y) = W2 ∧ Bn W2 q [.int .i64 x, .bool y] ∧ Kp [] w W2 := by
 have b0 := Bn.new w [.int .i64 0, .bool false] 106
 have k0 : Kp [] w (w.alloc (.cells #[.int .i64 0, .bool false] 106)) := (Kp.refl _ _).alloc _
 have h : w.heap.size ∈ ([] : List Nat) ∨ w.heap.size ≤ w.heap.size := .inr (Nat.le_refl _)
 exact ⟨_, _, _, rfl, rfl, b0, rfl, (b0.set 0 (by simp) (.int .i64 x)).set 1 (by simp) (.bool y), (k0.setCell h _).setCell h _⟩
def dirC (d : Bool) (k : Int) : Int := if d then -k else k
def cmpO : List (Int × Bool) → List Val → List Val → Int
 | [], a, b => rowsV a b
 | o :: os, a, b => if dirC o.2 (cmpV (vAt a o.1) (vAt b o.1)) = 0 then cmpO os a b else dirC o.2 (cmpV (vAt a o.1) (vAt b o.1))
theorem cmpO_drop (os : List (Int × Bool)) (a b : List Val) (j : Nat) (h : j < os.length) : cmpO (os.drop j) a b = if dirC os[j].2 (cmpV (vAt a os[j].1) (vAt b os[j].1)) = 0 then cmpO (os.drop (j + 1)) a b else dirC os[j].2 (cmpV (vAt a os[j].1) (vAt b os[j].1)) := by
 rw [List.drop_eq_getElem_cons h];rfl
theorem cCmpO (x y : Vs) (oa : Option Addr) (oc : Nat) (os : List (Int × Bool)) (w : World) (hx : x.lies w) (hy : y.lies w) (ho : OrE.See w oa os) (hol : os.length ≤ 4000000000000) :
  Calls Tryz.prog 107 #[.slice x.a x.l.length x.c, .slice y.a y.l.length y.c, .slice oa os.length oc] w fun e w' => e = .returned (.int .i64 (cmpO os x.l y.l)) ∧ Kp [] w w' := by
 obtain ⟨xa, xc, xl⟩ := x;obtain ⟨ya, yc, yl⟩ := y;have h1 := hx.cap; have h2 := hx.most; have h3 := hy.cap; have h4 := hy.most
 unfold maxLen at h2 h4
 dsimp only at *;have HX := hid hx
 have HY := hid hy
 have HO := hid ho
 obtain ⟨Z, hZ⟩ : ∃ Z, Hid (cmpO os xl yl = Z) := ⟨_, rfl⟩
 rw [hZ.out];clear hx hy ho;go_enter Tryz.func107, Tryz.ntmps107
 go_wp2_with fail;go_loopw [12] (fun i wr => ∃ j : Nat, j ≤ os.length ∧ i = .int .i64 (j : Int) ∧ Hid (cmpO (os.drop j) xl yl = Z) ∧ Hid (Kp [] w wr)) (fun i _ => os.length - (intOf i).toNat)
 case atStart => exact ⟨0, Nat.zero_le _, rfl, hZ, Kp.refl _ _⟩
 case round =>
  obtain ⟨j, hj, rfl, hz, H⟩ := hrel
  by_cases hlt : j < os.length
  ·obtain ⟨g, o, ea, c0, c1⟩ := orAt HO.out j hlt
   have cg0 := kpAt H.out c0
   have cg1 := kpAt H.out c1
   have hdr := hid (cmpO_drop os xl yl j hlt)
   obtain ⟨p, hp⟩ : ∃ p, Hid (os[j] = p) := ⟨os[j], rfl⟩
   rw [hp.out] at cg0 cg1 hdr;obtain ⟨col, dn⟩ := p;dsimp only at cg0 cg1 hdr;obtain ⟨q8, W1, W2, eq8, e1, b1, e2, b2, kb⟩ := boxOr wr col dn;have m0 := b1.get 0 _ rfl; have m1 := b1.get 1 _ rfl
   have f0 := b1.free 0; have f1 := b1.free 1
   have KW := hid (H.out.trans kb (by simp))
   have hS : Hid (∀ A, Kp [] W2 A → A.cell? ⟨q8, 0, none⟩ = some (.int .i64 col) ∧ A.cell? ⟨q8, 1, none⟩ = some (.bool dn)) := fun A k => ⟨(b2.kept k).get 0 _ rfl, (b2.kept k).get 1 _ rfl⟩
   have cA : Hid (∀ A, Kp [] w A → Calls Tryz.prog 99 #[.slice xa xl.length xc, .int .i64 col] A fun e w' => e = .returned (.agg #[.int .i64 (vAt xl col).k, .bool (vAt xl col).b, .int .i64 (vAt xl col).n, .string (vAt xl col).t]) ∧ Kp [] A w') := fun A k => cAtE xa xc xl col A (HX.out.see.kept k) (by omega)
   have cB : Hid (∀ A, Kp [] w A → Calls Tryz.prog 99 #[.slice ya yl.length yc, .int .i64 col] A fun e w' => e = .returned (.agg #[.int .i64 (vAt yl col).k, .bool (vAt yl col).b, .int .i64 (vAt yl col).n, .string (vAt yl col).t]) ∧ Kp [] A w') := fun A k => cAtE ya yc yl col A (HY.out.see.kept k) (by omega)
   obtain ⟨⟨uk, ub, un, ut⟩, hu⟩ : ∃ y, Hid (vAt xl col = y) := ⟨_, rfl⟩
   obtain ⟨⟨vk, vb, vn, vt⟩, hv⟩ : ∃ y, Hid (vAt yl col = y) := ⟨_, rfl⟩
   simp only [hu.out] at cA;simp only [hv.out] at cB;rw [hu.out, hv.out] at hdr;have cC := hid (fun A => cCompare ⟨uk, ub, un, ut⟩ ⟨vk, vb, vn, vt⟩ A)
   simp only [Val.v] at cC;have hrg := cmp_range ⟨uk, ub, un, ut⟩ ⟨vk, vb, vn, vt⟩
   obtain ⟨C, hC⟩ : ∃ C, Hid (cmpV ⟨uk, ub, un, ut⟩ ⟨vk, vb, vn, vt⟩ = C) := ⟨_, rfl⟩
   simp only [hC.out] at cC;rw [hC.out] at hdr hrg;have i1 : (0 : Int) ≤ (j : Int) := by omega
   have i2 : (j : Int) < (os.length : Int) := by omega
   have i3 : (j : Int) + 1 ≤ 9223372036854775807 := by omega
   subst ea;clear c0 c1 b1 b2 kb;go_wp2_with fail;refine wp_noPanicY ?_;refine wp_region_held_drew (S := fun A => A.cell? ⟨q8, 0, none⟩ = some (.int .i64 col) ∧ A.cell? ⟨q8, 1, none⟩ = some (.bool dn)) (by kernel_rfl) (hS.out _ (Kp.refl _ _).drew) (fun hHeld => ?_)
   have KD : Hid (Kp [] W2 W2.drew) := hid (Kp.refl _ _).drew
   generalize W2.drew = wd at *
   refine tkH ?_ 0 rfl (by kernel_rfl) (fun _ _ _ h => by cases h.1) (by rfl) ?_ ‹_› ?_;rotate_left
   ·intro w h; (try dsimp only at h); go_simp <;> with_reducible rfl
   (try simp only [Act.put, lz]);refine tkH ?_ 1 rfl (by kernel_rfl) (fun _ _ _ h => by cases h.1) (by rfl) ?_ ‹_› ?_;rotate_left
   ·intro w h; (try dsimp only at h); go_simp <;> with_reducible rfl
   (try simp only [Act.put, lz]);refine tkH ?_ 2 rfl (by kernel_rfl) (fun _ _ _ h => by cases h.1) (by rfl) ?_ ‹_› ?_;rotate_left
   ·intro w h; (try dsimp only at h); go_simp <;> with_reducible rfl
   (try simp only [Act.put, lz]);refine tkH ?_ 4 rfl (by kernel_rfl) (fun _ _ _ h => by cases h.1) (by rfl) ?_ ‹_› ?_;rotate_left
   ·intro w h; (try dsimp only at h); go_simp <;> with_reducible rfl
   (try simp only [Act.put, lz]);refine tkH ?_ 5 rfl (by kernel_rfl) (fun _ _ _ h => by cases h.1) (by rfl) ?_ ‹_› ?_;rotate_left
   ·intro w h; (try dsimp only at h); go_simp <;> with_reducible rfl
   (try simp only [Act.put, lz]);refine tkH ?_ 6 rfl (by kernel_rfl) (fun _ _ _ h => by cases h.1) (by rfl) ?_ ‹_› ?_;rotate_left
   ·intro w h; (try dsimp only at h); go_simp <;> with_reducible rfl
   (try simp only [Act.put, lz]);refine rdH 3 (by kernel_rfl) rfl fun K hK => ?_
   go_simp;refine (cA.out wd (KW.out.trans KD.out (by simp))).mono ?_
   rintro e we ⟨rfl, ke⟩;(try go_wp2_with fail);refine hK.out _ _ ?_ (fun hHeld => ?_)
   ·exact hS.out we (KD.out.trans ke (by simp))
   clear hK K;(try simp only [Act.put, lz]);have KE := hid (KD.out.trans ke (by simp))
   refine rdH 7 (by kernel_rfl) rfl fun K hK => ?_
   go_simp;refine (cB.out we (KW.out.trans KE.out (by simp))).mono ?_
   rintro e wf ⟨rfl, kf⟩;(try go_wp2_with fail);refine hK.out _ _ ?_ (fun hHeld => ?_)
   ·exact hS.out wf (KE.out.trans kf (by simp))
   clear hK K;(try simp only [Act.put, lz]);have KF := hid (KE.out.trans kf (by simp))
   refine rdH 8 (by kernel_rfl) rfl fun K hK => ?_
   go_simp;refine (cC.out wf).mono ?_;rintro e wg ⟨rfl, kg⟩;(try go_wp2_with fail);refine hK.out _ _ ?_ (fun hHeld => ?_)
   ·exact hS.out wg (KF.out.trans kg (by simp))
   clear hK K;(try simp only [Act.put, lz]);refine tkH ?_ 9 rfl (by kernel_rfl) (fun _ _ _ h => by cases h.1) (by rfl) ?_ ‹_› ?_;rotate_left
   ·intro w h; (try dsimp only at h); go_simp <;> with_reducible rfl
   (try simp only [Act.put, lz]);refine wpAnyH_done (by kernel_rfl) ⟨rfl, ?_⟩ _
   have KG := hid (KF.out.trans kg (by simp))
   have KWG := hid (KW.out.trans KG.out (by simp))
   obtain ⟨s0, s1⟩ := hS.out wg KG.out;clear hHeld ke kf kg m0 m1 f0 f1 cg0 cg1
   cases dn with
   | false =>
    by_cases hC0 : C = 0
    ·have d1 : (C != 0) = false := by simpa using hC0
     have hz2 : Hid (cmpO (os.drop (j + 1)) xl yl = Z) := by show _ = _; rw [← hz.out, hdr.out, dirC]; simp [hC0]
     clear hC0;go_wp2_with fail;go_roundw
     case rel => exact ⟨j + 1, by omega, by go_num, hz2, KWG⟩
     case measure => simp [intOf]; omega
    ·have d1 : (C != 0) = true := by simpa using hC0
     have hz2 : Hid (C = Z) := by show _ = _; rw [← hz.out, hdr.out, dirC]; simp [hC0]
     clear hC0;go_wp2_with fail;go_ret;rw [← hz2.out];exact ⟨rfl, KWG.out⟩
   | true =>
    have n1 : (-9223372036854775808 : Int) ≤ -C := by omega
    have n2 : -C ≤ 9223372036854775807 := by omega
    have nw : IntKind.i64.wrap (-C) = -C := by rw [IntKind.wrap_i64]; omega
    by_cases hC0 : C = 0
    ·have d1 : (-C != 0) = false := by simp [hC0]
     have d2 : (C != 0) = false := by simp [hC0]
     have hz2 : Hid (cmpO (os.drop (j + 1)) xl yl = Z) := by show _ = _; rw [← hz.out, hdr.out, dirC]; simp [hC0]
     clear hC0;go_wp2_with fail;go_roundw
     case rel => exact ⟨j + 1, by omega, by go_num, hz2, KWG⟩
     case measure => simp [intOf]; omega
    ·have d1 : (-C != 0) = true := by simpa using hC0
     have hz2 : Hid (-C = Z) := by
      show _ = _
      rw [← hz.out, hdr.out, dirC];simp [hC0]
     clear hC0;go_wp2_with fail;go_ret;rw [← hz2.out];exact ⟨by simp [nw], KWG.out⟩
  ·have hje : os.drop j = [] := List.drop_eq_nil_of_le (by omega)
   have hz2 : Hid (rowsV xl yl = Z) := by show _ = _; rw [← hz.out, hje]; rfl
   have cR := hid (cRows xa ya xc yc xl yl wr (HX.out.see.kept H.out) (HY.out.see.kept H.out) (by omega) (by omega))
   rw [hz2.out] at cR;have dj1 : ¬ (j : Int) < (os.length : Int) := by omega
   have dj2 : decide ((j : Int) < (os.length : Int)) = false := by simp; omega
   clear hje;go_wp2_with fail;refine cR.out.mono ?_;rintro e w2 ⟨rfl, k2⟩;have KF := hid (H.out.trans k2 (by simp))
   clear cR k2;go_wp2_with fail;go_ret;exact ⟨rfl, KF.out⟩
structure Sl (α : Type) where
 a : Option Addr
 c : Nat
 l : List α
abbrev Sl.v {α : Type} (s : Sl α) : Value := .slice s.a s.l.length s.c
structure Sl.ok {α : Type} (E : El α) (W : World) (s : Sl α) : Prop where
 see : E.See W s.a s.l
 nil : s.a = none → s.c = 0
 few : s.l.length ≤ 1048576
theorem Sl.ok.kept {α : Type} {E : El α} {W W' : World} {s : Sl α} (h : s.ok E W) (k : Kp [] W W') : s.ok E W' := ⟨h.see.keptNew k, h.nil, h.few⟩
structure Qy where
 tb : Int
 jn : Bool
 rt : Int
 lo : Int
 ro : Int
 wh : Sl Tm
 cl : Sl Int
 gr : Bool
 by_ : Sl Int
 ag : Sl (Int × Int)
 od : Sl (Int × Bool)
 lim : Int
def Qy.cs (q : Qy) : List Value := [.int .i64 q.tb, .bool q.jn, .int .i64 q.rt, .int .i64 q.lo, .int .i64 q.ro, q.wh.v, q.cl.v, .bool q.gr, q.by_.v, q.ag.v, q.od.v, .int .i64 q.lim]
structure Qy.ok (W : World) (q : Qy) : Prop where
 wh : q.wh.ok TmE W
 cl : q.cl.ok IntE W
 by_ : q.by_.ok IntE W
 ag : q.ag.ok AgE W
 od : q.od.ok OrE W
 lim : q.lim ≤ 9223372036854775807
theorem Qy.ok.kept {W W' : World} {q : Qy} (h : q.ok W) (k : Kp [] W W') : q.ok W' := ⟨h.wh.kept k, h.cl.kept k, h.by_.kept k, h.ag.kept k, h.od.kept k, h.lim⟩
def shapeV (q : Qy) (R : List (List Val)) : List (List Val) := if q.gr then refG q.by_.l q.ag.l R else R.flatMap (projF q.cl.l)
def SmP (R : List (List Val)) : Prop := R.length ≤ 4000000 ∧ ∀ l ∈ R, l.length ≤ 4000000
structure AtW (q : Nat) (ra : Option Addr) (rc : Nat) (L : List Vs) (js : List Nat) (w : World) : Prop where
 box : w.cell? ⟨q, 0, none⟩ = some (.slice ra L.length rc)
 see : VsE.See w ra L
 lies : ∀ x ∈ L, x.lies w
 len : L.length ≤ 9223372036854775807
 q_ : q ∈ js
 ra_ : L ≠ [] → ∀ k ∈ blk ra, k ∈ js
 row_ : ∀ x ∈ L, x.l ≠ [] → ∀ k ∈ blk x.a, k ∈ js
theorem valuesSeqW (n : Nat) (hn : 1 ≤ n) (q : Nat) (ra : Option Addr) (rc : Nat) (L : List Vs) (js : List Nat) (w : World) (hA : AtW q ra rc L js w) :
  RowSeq false n 94 #[.pointer (some ⟨q, 0, none⟩)] (L.map (·.l)) js w := by
 intro ly J Jx W hW hT hX hY h0
 have hb1W := hW.js.cell hA.q_ hA.box
 have hkW := hid hW.js
 have hJ1 : J ⟨true, W.heap.size, [], js, 0, none⟩ W := hT _ _ _ _ h0 ⟨TurnR.refl _ _ _, fun h => (by cases h), fun _ => ⟨rfl, Nat.le_refl _, by simp⟩, fun j hj => .inl hj, rfl, .inl rfl⟩
 have HA := hid hA
 have hlen := hA.len
 obtain ⟨B0, hB0⟩ : ∃ B, Hid (W.heap.size = B) := ⟨_, rfl⟩
 rw [hB0.out] at hJ1;clear hA hW h0;refine callsIn_of_wp Tryz.func94 rfl trivial ?_ rfl;simp only [Tryz.ntmps94, List.size_toArray, List.length_cons, List.length_nil, Nat.reduceAdd, Nat.reduceSub, Array.replicate_succ, Array.replicate_zero, List.push_toArray, List.append_toArray, List.nil_append, List.cons_append];gi_wp2_with fail;gi_loopw [7] (fun i wr => ∃ k : Nat, k ≤ L.length ∧ i = .int .i64 k ∧ J ⟨true, B0, [], js, k, none⟩ wr ∧ Hid (KeepB js w wr)) (fun i _ => L.length - (intOf i).toNat)
 case atStart => exact ⟨0, Nat.zero_le _, rfl, hJ1, hkW⟩
 case round =>
  obtain ⟨k, hk, rfl, hJk, hkr⟩ := hrel;clear hJ1 hb1W hkW
  by_cases hkL : k < L.length
  ·have hx : L[k]? = some L[k] := by simp [hkL]
   obtain ⟨g, o, ea, c0⟩ := vsAt HA.out.see hx;have cg : wr.cell? ⟨g, o + k, none⟩ = some (.slice L[k].a L[k].l.length L[k].c) := hkr.out.cell (HA.out.ra_ (fun e => by rw [e] at hkL; simp at hkL) g (by rw [ea]; simp [blk])) c0
   have hli := HA.out.lies L[k] (List.getElem_mem hkL)
   have hl2 : L[k].lies wr := ⟨(if e : L[k].l = [] then .inl e else valsKeepB hli.see hkr.out (HA.out.row_ L[k] (List.getElem_mem hkL) e)), hli.cap, hli.most, hli.nil⟩
   have hJ2 : J ⟨true, B0, [], js, k, some L[k]⟩ wr := hT _ _ _ _ hJk ⟨TurnR.refl _ _ _, fun _ => ⟨rfl, rfl, fun q hq => .inl hq⟩, fun h => (by cases h), fun j hj => .inl hj, rfl, .inr ⟨_, rfl, by simp [hkL], hl2, fun h => (by cases h)⟩⟩
   obtain ⟨fn, tmps, assign, body, hy, hR⟩ := hY _ _ _ hJ2 rfl;dsimp only [encR] at hy;generalize L[k] = x at *
   obtain ⟨xa, xc, xl⟩ := x;dsimp only at cg hy;have i1 : (0 : Int) ≤ (k : Int) := by omega
   have i2 : (k : Int) < (L.length : Int) := by omega
   have i3 : (k : Int) + 1 ≤ 9223372036854775807 := by omega
   have hR' := hid hR
   subst ea;clear hR hJ2 hl2 hli hx c0 hJk;gi_wp2_with fail;refine hR'.out.mono ?_;rintro e1 W3 (⟨rfl, hJ3, hk3⟩ | ⟨rfl, hJx, hk3⟩)
   ·have hkk := hid (hkr.out.trans hk3.js)
    have hJ4 : J ⟨true, B0, [], js, k + 1, none⟩ W3 := hJ3
    clear hR' hy hkr hJ3;gi_wp2_with fail;go_roundw
    case rel => exact ⟨k + 1, by omega, by go_num, hJ4, hkk⟩
    case measure => simp [intOf]; omega
   ·clear hR' hy
    gi_wp2_with fail;refine bodyPost_ret (results_none rfl _ _ _) rfl ?_;exact ⟨⟨_, rfl⟩, .inr ⟨_, rfl, hJx⟩⟩
  ·have e : k = L.length := by omega
   subst e;gi_wp2
   go_end0
   exact ⟨⟨_, rfl⟩, .inl ⟨_, ⟨rfl, by simp, rfl⟩, hJk⟩⟩
def jsW (q : Nat) (ra : Option Addr) (L : List Vs) : List Nat := q :: ((if L = [] then [] else blk ra) ++ L.flatMap fun x => if x.l = [] then [] else blk x.a)
theorem valSrcW {w : World} {ra : Option Addr} {rc : Nat} {L : List Vs} (hs : VsE.See w ra L) (hx : ∀ x ∈ L, x.lies w) (hl : L.length ≤ 4000000000000) (t : TypeId) :
  (∀ n, 1 ≤ n → RowSeq false n 94 #[.pointer (some ⟨w.heap.size, 0, none⟩)] (L.map (·.l)) (jsW w.heap.size ra L) (w.alloc (.cells #[.slice ra L.length rc] t))) ∧ ∀ j ∈ jsW w.heap.size ra L, j < (w.alloc (.cells #[.slice ra L.length rc] t)).heap.size := by
 have b := Bn.new w [.slice ra L.length rc] t
 have k : Kp [] w (w.alloc (.cells #[.slice ra L.length rc] t)) := (Kp.refl _ _).alloc _
 have ck := CK.ofKp k
 refine ⟨fun n hn => valuesSeqW n hn _ ra rc L _ _ ⟨b.get 0 _ rfl, ckSee ck hs (by simp), fun x h => (hx x h).ck ck (by simp), by omega, by simp [jsW], fun hne k hk => by simp [jsW, hne, hk], fun x h hne k hk => ?_⟩, fun j hj => ?_⟩
 ·simp only [jsW, List.mem_cons, List.mem_append, List.mem_flatMap]
  exact .inr (.inr ⟨x, h, by rw [if_neg hne]; exact hk⟩)
 ·have hz : (w.alloc (.cells #[.slice ra L.length rc] t)).heap.size = w.heap.size + 1 := by simp
  simp only [jsW, List.mem_cons, List.mem_append, List.mem_flatMap] at hj
  rcases hj with rfl | hj | ⟨x, h, hj⟩
  ·omega
  ·split at hj
   ·simp at hj
   ·rename_i hne
    rcases hs with e | ⟨g, o, rfl, hc⟩
    ·exact absurd e hne
    ·simp [blk] at hj
     subst hj;obtain ⟨x, L', rfl⟩ := List.exists_cons_of_ne_nil hne;have := World.block_lt_of_cell? _ _ (hc 0 (.slice x.a x.l.length x.c) rfl)
     dsimp only at this;omega
  ·split at hj
   ·simp at hj
   ·rename_i hne
    rcases (hx x h).see with e | ⟨g, o, e, hc⟩
    ·exact absurd e hne
    ·rw [e] at hj
     simp [blk] at hj
     subst hj;obtain ⟨y, l', e2⟩ := List.exists_cons_of_ne_nil hne;have := World.block_lt_of_cell? _ _ (hc 0 y (by rw [e2]; rfl)).1
     dsimp only at this;omega
end Go.Proofs.YtlgfekjoknbfdaaGreatDoor
end

section
namespace Go.Proofs.YtlgfekjoknbfdaaGreatDoor
open Go.RowKit Go.Hay
attribute [local go_sem] Oper.semAt_some
end Go.Proofs.YtlgfekjoknbfdaaGreatDoor
end

section
namespace Go.Proofs.YtlgfekjoknbfdaaGreatDoor
open Go.RowKit Go.Hay
attribute [local go_sem] Oper.semAt_some
theorem dir_neg (d : Bool) (k : Int) : dirC d (-k) = -dirC d k := by cases d <;> simp [dirC]
theorem dirc_neg (d : Bool) (a b : Val) : dirC d (cmpV b a) = -dirC d (cmpV a b) := by rw [cmp_neg a b, dir_neg]
theorem dirc_trans (d : Bool) (a b c : Val) (h : dirC d (cmpV a b) ≤ 0) (k : dirC d (cmpV b c) ≤ 0) : dirC d (cmpV a c) ≤ 0 := by
 cases d with
 | false => exact cmp_trans a b c h k
 | true =>
  simp only [dirC, if_true] at h k ⊢;have h1 := cmp_neg a b
  have h2 := cmp_neg b c
  have h3 := cmp_neg a c
  have := cmp_trans c b a (by omega) (by omega)
  omega
theorem cmpO_neg : ∀ (os : List (Int × Bool)) (x y : List Val), cmpO os y x = -cmpO os x y
 | [], x, y => rows_neg x y
 | q :: os, x, y => by
  have h := dirc_neg q.2 (vAt x q.1) (vAt y q.1)
  have ih := cmpO_neg os x y
  unfold cmpO
  by_cases h0 : dirC q.2 (cmpV (vAt x q.1) (vAt y q.1)) = 0
  ·rw [if_pos h0, if_pos (by omega), ih]
  ·rw [if_neg h0, if_neg (by omega), h]
theorem cmpO_trans : ∀ (os : List (Int × Bool)) (x y z : List Val), cmpO os x y ≤ 0 → cmpO os y z ≤ 0 → cmpO os x z ≤ 0
 | [], x, y, z, h1, h2 => rows_trans x y z h1 h2
 | q :: os, x, y, z, h1, h2 => by
  have ih := cmpO_trans os x y z
  unfold cmpO at h1 h2 ⊢
  generalize vAt x q.1 = a at *
  generalize vAt y q.1 = b at *
  generalize vAt z q.1 = c at *
  have n1 := dirc_neg q.2 a b
  have n2 := dirc_neg q.2 b c
  have n3 := dirc_neg q.2 a c
  have hab : dirC q.2 (cmpV a b) ≤ 0 := by
   by_cases e1 : dirC q.2 (cmpV a b) = 0
   ·omega
   ·rw [if_neg e1] at h1; omega
  have hbc : dirC q.2 (cmpV b c) ≤ 0 := by
   by_cases e1 : dirC q.2 (cmpV b c) = 0
   ·omega
   ·rw [if_neg e1] at h2; omega
  have hac := dirc_trans q.2 a b c hab hbc
  by_cases e3 : dirC q.2 (cmpV a c) = 0
  ·have hca : dirC q.2 (cmpV c a) ≤ 0 := by omega
   have hcb := dirc_trans q.2 c a b hca hab
   have hba := dirc_trans q.2 b c a hbc hca
   rw [if_pos (by omega)] at h1
   rw [if_pos (by omega)] at h2
   rw [if_pos e3];exact ih h1 h2
  ·rw [if_neg e3]
   exact hac
theorem cmpO_swo (os : List (Int × Bool)) (f : Nat → List Val) : Swo (fun x y => cmpO os (f x) (f y) < 0) where
 asym x y h := by
  have := cmpO_neg os (f x) (f y)
  show ¬ cmpO os (f y) (f x) < 0
  have h' : cmpO os (f x) (f y) < 0 := h
  omega
 ntr x y z h1 h2 := by
  have n1 := cmpO_neg os (f x) (f y)
  have n2 := cmpO_neg os (f y) (f z)
  have n3 := cmpO_neg os (f x) (f z)
  have h1' : ¬ cmpO os (f x) (f y) < 0 := h1
  have h2' : ¬ cmpO os (f y) (f z) < 0 := h2
  have := cmpO_trans os (f z) (f y) (f x) (by omega) (by omega)
  show ¬ cmpO os (f x) (f z) < 0
  omega
def ltO (os : List (Int × Bool)) (R : List (List Val)) (x y : Nat) : Prop := cmpO os (R.getD x []) (R.getD y []) < 0
instance (os : List (Int × Bool)) (R : List (List Val)) : ∀ x y, Decidable (ltO os R x y) := fun x y => by unfold ltO; infer_instance
theorem ltO_swo (os : List (Int × Bool)) (R : List (List Val)) : Swo (ltO os R) := cmpO_swo os (fun x => R.getD x [])
def srtO (os : List (Int × Bool)) (R : List (List Val)) : List (List Val) := (srtI (ltO os R) R.length).map fun i => R.getD i []
theorem cSortC (x y : Vs) (q : Nat) (oa : Option Addr) (oc : Nat) (os : List (Int × Bool)) (w : World) (hx : x.lies w) (hy : y.lies w) (ho : OrE.See w oa os) (hol : os.length ≤ 4000000000000) (hb : w.cell? ⟨q, 0, none⟩ = some (.slice oa os.length oc)) :
  Calls Tryz.prog 106 #[.slice x.a x.l.length x.c, .slice y.a y.l.length y.c, .pointer (some ⟨q, 0, none⟩)] w fun e w' => e = .returned (.int .i64 (cmpO os x.l y.l)) ∧ Kp [] w w' := by
 have cC := hid (cCmpO x y oa oc os w hx hy ho hol)
 clear hx hy ho;go_enter Tryz.func106, Tryz.ntmps106
 go_wp2_with fail;refine cC.out.mono ?_;rintro e w2 ⟨rfl, k2⟩;have K2 := hid k2
 clear cC k2;go_wp2_with fail;go_ret;exact ⟨rfl, K2.out⟩
end Go.Proofs.YtlgfekjoknbfdaaGreatDoor
end

section
namespace Go.Proofs.YtlgfekjoknbfdaaGreatDoor
open Go.RowKit Go.Hay
abbrev Vs.v (x : Vs) : Value := .slice x.a x.l.length x.c
def arr (A : Nat → Vs) (p : Nat → Nat) (n : Nat) : List Vs := (List.range n).map fun k => A (p k)
theorem arr_len (A : Nat → Vs) (p : Nat → Nat) (n : Nat) : (arr A p n).length = n := by simp [arr]
theorem arr_at (A : Nat → Vs) (p : Nat → Nat) (n i : Nat) (h : i < n) : (arr A p n)[i]? = some (A (p i)) := by simp [arr, h]
theorem arr_swap (A : Nat → Vs) (p : Nat → Nat) (n i j : Nat) (hi : i < n) (hj : j < n) : ((arr A p n).set i (A (p j))).set j (A (p i)) = arr A (fun k => p (swp i j k)) n := by
 apply List.ext_getElem?
 intro k
 by_cases hk : k < n
 ·rw [arr_at A _ n k hk, List.getElem?_set, List.getElem?_set]
  simp only [List.length_set, arr_len, hj, hi, if_true]
  by_cases c1 : j = k
  ·subst c1
   rw [if_pos rfl];unfold swp
   split
   ·rename_i h; rw [h]
   ·rw [if_pos rfl]
  ·rw [if_neg c1]
   by_cases c2 : i = k
   ·subst c2
    rw [if_pos rfl];unfold swp
    rw [if_pos rfl]
   ·rw [if_neg c2, arr_at A _ n k hk]
    unfold swp
    rw [if_neg (fun h => c2 h.symm), if_neg (fun h => c1 h.symm)]
 ·rw [List.getElem?_eq_none (by simp [arr_len]; omega), List.getElem?_eq_none (by simp [arr_len]; omega)]
def Hd (W : World) (g o n cap : Nat) (A : Nat → Vs) (p : Nat → Nat) : Prop := VsE.Row W (.slice (some ⟨g, o, none⟩) n cap) (arr A p n)
theorem Hd.cells {W : World} {g o n cap : Nat} {A : Nat → Vs} {p : Nat → Nat} (h : Hd W g o n cap A p) (i : Nat) (hi : i < n) : W.cell? ⟨g, o + i, none⟩ = some (.slice (A (p i)).a (A (p i)).l.length (A (p i)).c) ∧ W.frozen? ⟨g, o + i, none⟩ = false := by
 obtain ⟨a', c', e, hs, _⟩ := El.Row.see h;have e1 := Value.slice.inj e
 obtain ⟨g', o', e2, x0⟩ := vsAt hs (arr_at A p n i hi);rw [← e1.1] at e2
 cases e2
 refine ⟨x0, ?_⟩
 rcases h with ⟨e3, _⟩ | ⟨g2, o2, cc, e3, hl, hx, hg, hc, ht⟩
 ·cases e3
 ·have e4 := Value.slice.inj e3
  obtain ⟨e5, e6, e7⟩ := e4
  cases e5
  subst e7;have en : VsE.n = 1 := rfl
  rw [en] at ht;rw [arr_len] at hl;exact (ht i (by omega)).2
def put1 (W : World) (g x : Nat) (v : Vs) : World := W.setCell ⟨g, x, none⟩ (.slice v.a v.l.length v.c)
theorem put1_kp (W : World) (g x : Nat) (v : Vs) : Kp [g] W (put1 W g x v) := (Kp.refl _ _).setCell (by simp) _
theorem row_put1 {W : World} {g o n cap : Nat} {l : List Vs} (h : VsE.Row W (.slice (some ⟨g, o, none⟩) n cap) l) (i : Nat) (hi : i < l.length) (x : Vs) : VsE.Row (put1 W g (o + i) x) (.slice (some ⟨g, o, none⟩) n cap) (l.set i x) := by
 have := h.setAt i hi x
 have e : VsE.n = 1 := rfl
 rw [e, Nat.mul_one] at this;exact this
theorem Hd.swap {W : World} {g o n cap : Nat} {A : Nat → Vs} {p : Nat → Nat} (h : Hd W g o n cap A p) (i j : Nat) (hi : i < n) (hj : j < n) : Hd (put1 (put1 W g (o + i) (A (p j))) g (o + j) (A (p i))) g o n cap A (fun k => p (swp i j k)) := by
 unfold Hd
 rw [← arr_swap A p n i j hi hj];exact row_put1 (row_put1 h i (by rw [arr_len]; exact hi) _) j (by rw [List.length_set, arr_len]; exact hj) _
theorem put1_cells {W : World} {g o n cap : Nat} {A : Nat → Vs} {p : Nat → Nat} (h : Hd W g o n cap A p) (i j : Nat) (hi : i < n) (hj : j < n) (x : Vs) : ∀ c, c < 1 → (∃ u, (put1 W g (o + i) x).cell? ⟨g, o + j + c, none⟩ = some u) ∧ (put1 W g (o + i) x).frozen? ⟨g, o + j + c, none⟩ = false := by
 intro c hc
 obtain rfl : c = 0 := by omega
 have h1 := row_put1 h i (by rw [arr_len]; exact hi) x
 rcases h1 with ⟨e3, _⟩ | ⟨g2, o2, cc, e3, hl, hx, hg, hcc, ht⟩
 ·cases e3
 ·obtain ⟨e5, e6, e7⟩ := Value.slice.inj e3
  cases e5
  subst e7;have en : VsE.n = 1 := rfl
  rw [en] at ht;rw [List.length_set, arr_len] at hl;have := ht j (by omega)
  exact ⟨Option.isSome_iff_exists.1 this.1, this.2⟩
theorem Hd.kept {W W' : World} {g o n cap : Nat} {A : Nat → Vs} {p : Nat → Nat} (h : Hd W g o n cap A p) (k : Kp [] W W') : Hd W' g o n cap A p := El.Row.keptNew h k
theorem Hd.lt {W : World} {g o n cap : Nat} {A : Nat → Vs} {p : Nat → Nat} (h : Hd W g o n cap A p) : g < W.heap.size := El.Row.lt h g (by simp [own, Value.ownBlock])
end Go.Proofs.YtlgfekjoknbfdaaGreatDoor
end

/- What the proof stands on: contracts of functions that the statement calls, and plain lemmas. No statement of the seat is proved here. -/
import Derived.Test.YtcgkkofmnajedaaGreatDoorB4
set_option maxHeartbeats 64000000
set_option maxRecDepth 100000
set_option linter.unusedVariables false
set_option linter.unusedSimpArgs false
section
namespace Go.Proofs.YtcgkkofmnajedaaGreatDoor
open Go.RowKit Go.Hay
attribute [local go_sem] Oper.semAt_some
theorem roomJ_of_none {F : Fence} (hd : F.depth = none) (k : Nat) : F.room k := fun d h => by rw [hd] at h; cases h
theorem RoundIn.anyDepthJ {F : Fence} (hd : F.depth = none) {m m' : Nat} {P : Program} {l : Nat} {f : FuncId} {tmps : Array Value} {assign body : Code} {w : World} {R : Ending → World → Prop}
  (h : RoundIn F m P l f tmps assign body w R) : RoundIn F m' P l f tmps assign body w R := ⟨h.1, fun c cs _ => h.2 c cs (roomJ_of_none hd _)⟩
theorem filter_range {α : Type} (p : α → Bool) (L : List α) (i m : Nat) (h : i + m ≤ L.length) (h1 : ∀ k (hk : k < L.length), i ≤ k → k < i + m → p L[k] = true) (h2 : ∀ k (hk : k < L.length), p L[k] = true → i ≤ k ∧ k < i + m) : L.filter p = (L.drop i).take m := by
 have e : L = L.take i ++ ((L.drop i).take m ++ (L.drop i).drop m) := by rw [List.take_append_drop, List.take_append_drop]
 conv => lhs; rw [e]
 rw [List.filter_append, List.filter_append]
 have a1 : (L.take i).filter p = [] := List.filter_eq_nil_iff.2 fun x hx => by
  obtain ⟨k, hk, rfl⟩ := List.getElem_of_mem hx;rw [List.length_take] at hk;rw [List.getElem_take];intro hp
  have := h2 k (by omega) hp
  omega
 have a2 : ((L.drop i).take m).filter p = (L.drop i).take m := List.filter_eq_self.2 fun x hx => by
  obtain ⟨k, hk, rfl⟩ := List.getElem_of_mem hx;rw [List.length_take, List.length_drop] at hk;rw [List.getElem_take, List.getElem_drop];exact h1 (i + k) (by omega) (by omega) (by omega)
 have a3 : ((L.drop i).drop m).filter p = [] := List.filter_eq_nil_iff.2 fun x hx => by
  obtain ⟨k, hk, rfl⟩ := List.getElem_of_mem hx;rw [List.length_drop, List.length_drop] at hk;rw [List.getElem_drop, List.getElem_drop];intro hp
  have := h2 (i + (m + k)) (by omega) hp
  omega
 rw [a1, a2, a3];simp
def fJ (S : List (List Val)) (lo ro : Int) (x : List Val) : List (List Val) := (S.filter fun r => cmpV (vAt r ro) (vAt x lo) == 0).map (x ++ ·)
theorem fJ_sub {SL : List Vs} {S : List (List Val)} (hS : SL.map (·.l) = S) {lo ro : Int} {x : List Val} {i m : Nat} (h : i + m ≤ SL.length) (h1 : ∀ k, i ≤ k → k < i + m → cAt SL ro (vAt x lo) k = 0) (h2 : ∀ k, k < SL.length → cAt SL ro (vAt x lo) k = 0 → i ≤ k ∧ k < i + m) : fJ S lo ro x = ((SL.drop i).take m).map fun o => x ++ o.l := by
 unfold fJ
 rw [← hS, List.filter_map, filter_range _ SL i m h (fun k hk a b => by have := h1 k a b; rw [cAt_in hk] at this; simpa using this) (fun k hk a => h2 k hk (by rw [cAt_in hk]; simpa using a)), List.map_map]
 rfl
def joinR (RL S : List (List Val)) (lo ro : Int) : List (List Val) := RL.flatMap (fJ S lo ro)
structure MJ (lo ro : Int) (q2 q4 q5 q6 ly N : Nat) (sra : Option Addr) (src : Nat) (SL : List Vs) (W : World) : Prop where
 c2 : W.cell? ⟨q2, 0, none⟩ = some (.int .i64 ro)
 c4 : W.cell? ⟨q4, 0, none⟩ = some (.int .i64 lo)
 c5 : W.cell? ⟨q5, 0, none⟩ = some (.func (.yield ly) #[] #[])
 c6 : W.cell? ⟨q6, 0, none⟩ = some (.slice sra SL.length src)
 lot : Lot N sra src SL W
def mjs (q2 q4 q5 q6 : Nat) (sra : Option Addr) (SL : List Vs) : List Nat := [q2, q4, q5, q6] ++ blk sra ++ SL.flatMap fun x => blk x.a
theorem MJ.ck {lo ro : Int} {q2 q4 q5 q6 ly N : Nat} {sra : Option Addr} {src : Nat} {SL : List Vs} {X Y : World} (h : MJ lo ro q2 q4 q5 q6 ly N sra src SL X) (k : CK (fun k => k ∈ mjs q2 q4 q5 q6 sra SL) X Y) : MJ lo ro q2 q4 q5 q6 ly N sra src SL Y :=
 ⟨(k.2 ⟨q2, 0, none⟩ _ (by simp [mjs]) h.c2).1, (k.2 ⟨q4, 0, none⟩ _ (by simp [mjs]) h.c4).1, (k.2 ⟨q5, 0, none⟩ _ (by simp [mjs]) h.c5).1, (k.2 ⟨q6, 0, none⟩ _ (by simp [mjs]) h.c6).1, h.lot.ck k (fun j hj => by simp [mjs, hj]) (fun x hx j hj => by simp only [mjs, List.mem_append, List.mem_flatMap]; exact .inr ⟨x, hx, hj⟩)⟩
theorem ckOfKeepB {js : List Nat} {X Y : World} (h : KeepB js X Y) : CK (fun k => k ∈ js) X Y := ⟨h.1, fun p u hp hc => by
 have hl := World.block_lt_of_cell? _ _ hc
 have e : X.heap[p.block]? = some X.heap[p.block] := by simp [hl]
 have e2 := (h.2 _ hp _ e).trans e.symm
 exact ⟨(World.cell?_of_block e2).trans hc, World.frozen?_of_block e2⟩⟩
theorem joinSeq (n : Nat) (hn : 4 ≤ n) (q1 q2 q3 q4 : Nat) (frL frR : Bool) (gl gr : Nat) (lbl lbr : Array Value) (RL RR S : List (List Val)) (jsl jsr js : List Nat) (lo ro : Int) (w : World)
  (heL : ∀ args w, (callFunc gl args).run Tryz.prog w = .ok (.enter gl args) w) (heR : ∀ args w, (callFunc gr args).run Tryz.prog w = .ok (.enter gr args) w)
  (c1 : w.cell? ⟨q1, 0, none⟩ = some (.func (.func gr) #[] lbr)) (c2 : w.cell? ⟨q2, 0, none⟩ = some (.int .i64 ro)) (c3 : w.cell? ⟨q3, 0, none⟩ = some (.func (.func gl) #[] lbl)) (c4 : w.cell? ⟨q4, 0, none⟩ = some (.int .i64 lo))
  (hq : ∀ q ∈ [q1, q2, q3, q4], q ∈ js) (hjl : ∀ j ∈ jsl, j ∈ js) (hjr : ∀ j ∈ jsr, j ∈ js) (hjb : ∀ j ∈ js, j < w.heap.size)
  (hL : ∀ n, 1 ≤ n → RowSeq frL n gl lbl RL jsl w) (hR : ∀ n, 1 ≤ n → RowSeq frR n gr lbr RR jsr w)
  (hRR : RR.length ≤ 4000000000000) (hRRl : ∀ l ∈ RR, l.length ≤ 1800000000000) (hRLl : ∀ l ∈ RL, l.length ≤ 1800000000000) (hSl : S.length ≤ 4000000000000) (hSll : ∀ l ∈ S, l.length ≤ 1800000000000)
  (hsort : ∀ (W : World) (N q : Nat) (ra : Option Addr) (rc : Nat) (L : List Vs), Lot N ra rc L W → L.map (·.l) = ordR ro RR → W.cell? ⟨q, 0, none⟩ = some (.int .i64 ro) → q ∉ blk ra → Calls Tryz.prog 105 #[.slice ra L.length rc, .func (.func 135) #[] #[.pointer (some ⟨q, 0, none⟩)]] W (SortP N ra rc L.length S W))
  (hmono : ∀ (SL : List Vs) (v : Val), SL.map (·.l) = S → (∀ i j, i ≤ j → j < SL.length → cAt SL ro v j < 0 → cAt SL ro v i < 0) ∧ (∀ i j, i ≤ j → j < SL.length → cAt SL ro v j ≤ 0 → cAt SL ro v i ≤ 0)) :
  RowSeq true n 96 #[.pointer (some ⟨q1, 0, none⟩), .pointer (some ⟨q2, 0, none⟩), .pointer (some ⟨q3, 0, none⟩), .pointer (some ⟨q4, 0, none⟩)] (joinR RL S lo ro) js w := by
 intro ly J Jx W hW hT hX hY h0
 obtain ⟨RJ, hRJ⟩ : ∃ R, Hid (joinR RL S lo ro = R) := ⟨_, rfl⟩
 rw [hRJ.out] at hT ⊢;have kjs := hW.js
 have d1 := kjs.cell (hq q1 (by simp)) c1
 have d2 := kjs.cell (hq q2 (by simp)) c2
 have d3 := kjs.cell (hq q3 (by simp)) c3
 have d4 := kjs.cell (hq q4 (by simp)) c4
 have hlW : ∀ n, 1 ≤ n → RowSeq frL n gl lbl RL jsl W := fun n h => (hL n h).move ⟨kjs.1, fun j hj o ho => kjs.2 j (hjl j hj) o ho⟩
 have hrW : ∀ n, 1 ≤ n → RowSeq frR n gr lbr RR jsr W := fun n h => (hR n h).move ⟨kjs.1, fun j hj o ho => kjs.2 j (hjr j hj) o ho⟩
 have hjW : ∀ j ∈ js, j < W.heap.size := fun j hj => Nat.lt_of_lt_of_le (hjb j hj) kjs.1
 obtain ⟨W1, hW1, k1, b1⟩ : ∃ W1, W.alloc (.cells #[.func (.yield ly) #[] #[]] 169) = W1 ∧ Kp [] W W1 ∧ Bn W1 W.heap.size [.func (.yield ly) #[] #[]] := ⟨_, rfl, (Kp.refl _ _).alloc _, Bn.new W _ _⟩
 obtain ⟨q5, hq5⟩ : ∃ q, Hid (W.heap.size = q) := ⟨_, rfl⟩
 rw [hq5.out] at b1;have cO := hid (callsIn_wide.1 (cOrderedG 4 (by omega) frR gr lbr RR jsr ro S W1 heR ((hrW 3 (by omega)).move (KeepB.ofKp k1 (by simp))) (fun j hj => Nat.lt_of_lt_of_le (hjW j (hjr j hj)) k1.size) hRR (fun l h => by have := hRRl l h; omega) hsort))
 have e1 := kpAt k1 d1; have e2 := kpAt k1 d2; have e3 := kpAt k1 d3; have e4 := kpAt k1 d4
 have HA := hid (And.intro k1 (And.intro b1 (And.intro hlW (And.intro hjW (And.intro d2 (And.intro d3 d4))))))
 have h0' := hid h0
 clear c1 c2 c3 c4 hL hR hsort hW kjs hjb hrW hlW k1 b1 d1 d2 d3 d4 hRR hRRl h0;refine callsIn_of_wp_marks Tryz.func96 rfl trivial ?_ rfl;simp only [Tryz.ntmps96, List.size_toArray, List.length_cons, List.length_nil, Nat.reduceAdd, Nat.reduceSub, Array.replicate_succ, Array.replicate_zero, List.push_toArray, List.append_toArray, List.nil_append, List.cons_append];refine wpIn_wide.2 ?_;have hq5' := hq5.out
 go_wp2_with fail;go_step3
 go_wp2_with fail;refine cO.out.mono ?_;rintro e W2 ⟨sra, src, SL, rfl, hlot, hSL, k2⟩;obtain ⟨q6, hq6⟩ : ∃ q, Hid (W2.heap.size = q) := ⟨_, rfl⟩
 obtain ⟨W3z, hW3z, k3z, b3z⟩ : ∃ W3, W2.alloc (.cells #[.slice none 0 0] 60) = W3 ∧ Kp [] W2 W3 ∧ Bn W3 q6 [.slice none 0 0] := ⟨_, rfl, (Kp.refl _ _).alloc _, by have := Bn.new W2 [.slice none 0 0] 60; rw [hq6.out] at this; exact this⟩
 have z0 := b3z.get 0 _ rfl
 have zf := b3z.free 0
 obtain ⟨W3, hW3, k3, b3⟩ : ∃ W3, W3z.setCell ⟨q6, 0, none⟩ (.slice sra SL.length src) = W3 ∧ Kp [] W2 W3 ∧ Bn W3 q6 [.slice sra SL.length src] := ⟨_, rfl, k3z.setCell (.inr (by rw [← hq6.out]; exact Nat.le_refl _)) _, b3z.set 0 (by simp) _⟩
 have k13 := k2.trans k3 (by simp)
 have k03 := HA.out.1.trans k13 (by simp)
 have f3 := kpAt k03 HA.out.2.2.2.2.2.1
 have hM3 : MJ lo ro q2 q4 q5 q6 ly W1.heap.size sra src SL W3 := ⟨kpAt k03 HA.out.2.2.2.2.1, kpAt k03 HA.out.2.2.2.2.2.2, (HA.out.2.1.kept k13).get 0 _ rfl, b3.get 0 _ rfl, hlot.ck (CK.ofKp k3) (by simp) (by simp)⟩
 obtain ⟨Mj, hMj⟩ : ∃ M, Hid (M = mjs q2 q4 q5 q6 sra SL) := ⟨_, rfl⟩
 have hMb : ∀ j ∈ Mj, j < W3.heap.size := fun j hj => by
  rw [hMj.out] at hj;have hz := k03.size
  simp only [mjs, List.mem_append, List.mem_cons, List.mem_flatMap, List.not_mem_nil, or_false] at hj
  rcases hj with ((rfl | rfl | rfl | rfl) | hj) | ⟨x, hx, hj⟩
  ·exact World.block_lt_of_cell? _ _ hM3.c2
  ·exact World.block_lt_of_cell? _ _ hM3.c4
  ·exact World.block_lt_of_cell? _ _ hM3.c5
  ·exact World.block_lt_of_cell? _ _ hM3.c6
  ·exact hM3.lot.lt j hj
  ·exact (hM3.lot.rows x hx j hj).2.1
 have hMst : ∀ X Y, MJ lo ro q2 q4 q5 q6 ly W1.heap.size sra src SL X → CK (fun k => k ∈ Mj) X Y → MJ lo ro q2 q4 q5 q6 ly W1.heap.size sra src SL Y := fun X Y h k => h.ck (by rw [← hMj.out]; exact k)
 have hMn : ∀ j ∈ Mj, j ∈ js ∨ (W.heap.size ≤ j ∧ j < W3.heap.size) := fun j hj => by
  have hlt := hMb j hj
  rw [hMj.out] at hj;have hz1 := HA.out.1.size
  have hz2 := k2.size
  simp only [mjs, List.mem_append, List.mem_cons, List.mem_flatMap, List.not_mem_nil, or_false] at hj
  rcases hj with ((rfl | rfl | rfl | rfl) | hj) | ⟨x, hx, hj⟩
  ·exact .inl (hq _ (by simp))
  ·exact .inl (hq _ (by simp))
  ·exact .inr ⟨by rw [← hq5.out]; exact Nat.le_refl _, hlt⟩
  ·exact .inr ⟨by rw [← hq6.out]; omega, hlt⟩
  ·exact .inr ⟨by have := hlot.own j hj; omega, hlt⟩
  ·exact .inr ⟨by have := (hlot.rows x hx j hj).1; omega, hlt⟩
 have hJ3 : J ⟨true, W3.heap.size, [], js ++ Mj, 0, none⟩ W3 := hT _ _ _ _ h0'.out ⟨TurnR.ofKp0 k03, fun h => (by cases h), fun _ => ⟨rfl, k03.size, by simp⟩, fun j hj => by
  rcases List.mem_append.1 hj with e | e
  ·exact .inl e
  ·exact hMn j e, rfl, .inl rfl⟩
 have hI0 : InG J RL RJ (fJ S lo ro) (MJ lo ro q2 q4 q5 q6 ly W1.heap.size sra src SL) Mj W3 ⟨false, 0, [], jsl, 0, none⟩ W3 := ⟨js ++ Mj, [], 0, hJ3, fun j hj => List.mem_append.2 (.inl (hjl j hj)), fun j hj => List.mem_append.2 (.inr hj), by simp, hM3, by rw [← hRJ.out]; rfl, Nat.zero_le _, Nat.le_refl _, fun h => (by cases h), fun j hj => by have := HA.out.2.2.2.1 j (hjl j hj); have := k03.size; omega, fun x hx => (by cases hx), fun j hj => by
  rcases List.mem_append.1 hj with e | e
  ·have := HA.out.2.2.2.1 j e; have := k03.size; omega
  ·exact hMb j e, by simp⟩
 have hsq := hid ((HA.out.2.2.1 (n - 1) (by omega)).move (KeepB.ofKp k03 (by simp)))
 have HI0 := hid hI0
 have HMS := hid hMst
 have HMB := hid hMb
 have HSL := hid hSL
 have hq6' := hq6.out
 clear cO hlot hSL k2 k3z b3z b3 k13 k03 hM3 hMn hJ3 hI0 hMst hMb k3 e1 e2 e3 e4;go_wp2_with fail;go_step3
 go_wp2_with fail;refine (wpIn_wide (n := n)).1 ?_
 refine wpRangeX rfl (by omega) (gf := gl) (lb := lbl) rfl trivial heL
  hsq.out (fun _ => rfl) KeepR.trans (fun s W o => KeepR.alloc s W o) (KeepR.refl _ _)
  (InG J RL RJ (fJ S lo ro) (MJ lo ro q2 q4 q5 q6 ly W1.heap.size sra src SL) Mj W3) (fun c s W' => c = .exit 0 ∧ InX Jx W3 s W') (InG.own hT HMS.out) (fun c s X Y row h hg hr => ⟨h.1, InX.own hX s X Y row h.2 hg hr⟩) HI0.out
  (fun s s' A B h ht k o hk ho => h.keeps ht k o hk ho) (fun c s A B h ht k o hk ho => h.2.keeps ht k o hk ho) (fun s s' A B hz h ht => h.step hT HMS.out HMB.out hz ht) (fun c s A B h ht => ⟨h.1, h.2.step hX ht⟩)
  (fun s W o' h => h.recs o') (fun s x W o' h => h.recs' o') (fun c s x W o' h => h.2.recs' o')
  (fun x => { tmps := #[.func (.yield ly) #[] #[], .pointer (some ⟨q1, 0, none⟩), .pointer (some ⟨q2, 0, none⟩), .pointer (some ⟨q3, 0, none⟩), .pointer (some ⟨q4, 0, none⟩), .pointer (some ⟨q5, 0, none⟩), .pointer (some ⟨q6, 0, none⟩), .slice x.a x.l.length x.c, undef, undef, .func (.func gr) #[] lbr, .int .i64 ro, .slice sra SL.length src, .func (.func gl) #[] lbl, .slice x.a x.l.length x.c, undef, undef, undef, undef, undef, undef, undef, undef, undef, undef, undef, undef, undef, undef, undef, undef, undef, undef, undef, undef, undef], defers := [] }) ?assign ?body ?done ?stop
 case assign =>
  intro l x W C hC
  gi_wp2_with fail;exact hC
 case body =>
  rintro l0 s ⟨xa, xc, xl⟩ A ⟨jsA, qsA, i, h⟩ hp;obtain ⟨hRi, hxl⟩ := h.pend _ hp;dsimp only at hRi ⊢;have hxn : xl.length ≤ 1800000000000 := hRLl _ (List.mem_of_getElem? hRi)
  have cC := hid (cCloneR xa xc xl A hxl.see hxl.nil (by omega))
  have h' := hid h
  have hRi' := hid hRi
  clear h hRi hxl HI0;gi_wp2_with fail;refine ⟨trivial, fun h => (by cases h), (CallsIn.inRound l0 (callsIn_wide.2 cC.out)).mono ?_⟩
  rintro e A1 ⟨ya, yc, rfl, hyrow, kC, hyb⟩;have KC := hid kC
  have HY1 := hid (And.intro hyrow hyb)
  clear cC kC hyrow hyb;gi_wp2_with fail;have hmK : Hid (∀ A', Kp [] A A' → MJ lo ro q2 q4 q5 q6 ly W1.heap.size sra src SL A') := fun A' k => h'.out.m.ck ((CK.ofKp k).mono (by simp))
  have hyl := hid (rowLies HY1.out.1)
  have cA : Hid (∀ A', Kp [] A1 A' → Calls Tryz.prog 99 #[.slice ya xl.length yc, .int .i64 lo] A' fun e w' => e = .returned (.agg #[.int .i64 (vAt xl lo).k, .bool (vAt xl lo).b, .int .i64 (vAt xl lo).n, .string (vAt xl lo).t]) ∧ Kp [] A' w') := fun A' k => cAtE ya yc xl lo A' (hyl.out.see.kept k) (by omega)
  have hSn : SL.length ≤ 4000000000000 := by have := congrArg List.length HSL.out; simp at this; omega
  have cL : Hid (∀ A', Kp [] A A' → Calls Tryz.prog 98 #[.slice sra SL.length src, .int .i64 ro, .agg #[.int .i64 (vAt xl lo).k, .bool (vAt xl lo).b, .int .i64 (vAt xl lo).n, .string (vAt xl lo).t]] A' (AlkP sra SL ro (vAt xl lo) A')) := fun A' k => by
   have hm := hmK.out A' k
   obtain ⟨a', c', e, hs, _, h1, h2, _⟩ := hm.lot.row.see
   cases e
   exact cAlike sra src SL ro (vAt xl lo) A' hs hm.lot.lies h1 h2 hSn (hmono SL _ HSL.out).1 (hmono SL _ HSL.out).2
  obtain ⟨v, hv⟩ : ∃ v, Hid (vAt xl lo = v) := ⟨vAt xl lo, rfl⟩
  simp only [hv.out] at cA cL;obtain ⟨vk, vb, vn, vt⟩ := v;dsimp only at cA cL;refine region_round (fun B => B.cell? ⟨q6, 0, none⟩ = some (.slice sra SL.length src) ∧ B.cell? ⟨q2, 0, none⟩ = some (.int .i64 ro) ∧ B.cell? ⟨q4, 0, none⟩ = some (.int .i64 lo)) (by kernel_rfl) (by kernel_rfl) (by rintro ⟨_, _, hlo⟩; exact hlo) ?_ (fun hHeld => ?_)
  ·have := hmK.out A1.drew KC.out.drew
   exact ⟨this.c6, this.c2, this.c4⟩
  have KD1 : Hid (Kp [] A1 A1.drew) := hid (Kp.refl _ _).drew
  have KD : Hid (Kp [] A A1.drew) := hid KC.out.drew
  generalize A1.drew = wd at *
  refine tkH ?_ 0 rfl (by kernel_rfl) (fun _ _ _ h => h) (by rfl) ?_ ‹_› ?_;rotate_left
  ·intro w h; (try dsimp only at h); go_simp <;> with_reducible rfl
  (try simp only [Act.put, lz]);refine tkH ?_ 1 rfl (by kernel_rfl) (fun _ _ _ h => h) (by rfl) ?_ ‹_› ?_;rotate_left
  ·intro w h; (try dsimp only at h); go_simp <;> with_reducible rfl
  (try simp only [Act.put, lz]);refine tkH ?_ 2 rfl (by kernel_rfl) (fun _ _ _ h => h) (by rfl) ?_ ‹_› ?_;rotate_left
  ·intro w h; (try dsimp only at h); go_simp <;> with_reducible rfl
  (try simp only [Act.put, lz]);refine tkH ?_ 3 rfl (by kernel_rfl) (fun _ _ _ h => h) (by rfl) ?_ ‹_› ?_;rotate_left
  ·intro w h; (try dsimp only at h); go_simp <;> with_reducible rfl
  (try simp only [Act.put, lz]);refine tkH ?_ 7 rfl (by kernel_rfl) (fun _ _ _ h => h) (by rfl) ?_ ‹_› ?_;rotate_left
  ·intro w h; (try dsimp only at h); go_simp <;> with_reducible rfl
  (try simp only [Act.put, lz]);refine rdH 4 (by kernel_rfl) rfl fun K hK => ?_
  go_simp;refine (cA.out wd KD1.out).mono ?_;rintro e we ⟨rfl, ke⟩;(try go_wp2_with fail);refine hK.out _ _ ?_ (fun hHeld => ?_)
  ·have := hmK.out we (KD.out.trans ke (by simp)); exact ⟨this.c6, this.c2, this.c4⟩
  clear hK K;(try simp only [Act.put, lz]);have KE := hid (KD.out.trans ke (by simp))
  have KD1E := hid (KD1.out.trans ke (by simp))
  refine rdH 5 (by kernel_rfl) rfl fun K hK => ?_
  go_simp;refine (cL.out we KE.out).mono ?_;rintro e A2 ⟨i0, m, aL, cL2, rfl, him, hz0, hall, hsee, hbk, kl⟩;(try go_wp2_with fail);refine hK.out _ _ ?_ (fun hHeld => ?_)
  ·have := hmK.out A2 (KE.out.trans kl (by simp)); exact ⟨this.c6, this.c2, this.c4⟩
  clear hK K;(try simp only [Act.put, lz]);have KD2 := hid (KD1E.out.trans kl (by simp))
  refine tkH ?_ 6 rfl (by kernel_rfl) (fun _ _ _ h => h) (by rfl) ?_ ‹_› ?_;rotate_left
  ·intro w h; (try dsimp only at h); go_simp <;> with_reducible rfl
  (try simp only [Act.put, lz]);have K2 := hid (KE.out.trans kl (by simp))
  clear hHeld kl;refine wpAnyH_done (by kernel_rfl) ?_ _
  have hfx := hid (fJ_sub (lo := lo) (x := xl) HSL.out him (by rw [hv.out]; exact hz0) (by rw [hv.out]; exact hall))
  obtain ⟨sub, hsub⟩ : ∃ u, Hid ((SL.drop i0).take m = u) := ⟨_, rfl⟩
  rw [hsub.out] at hsee hfx;have hsl : sub.length = m := by rw [← hsub.out, List.length_take, List.length_drop]; omega
  have hsm : Hid (∀ o ∈ sub, o ∈ SL) := fun o ho => by rw [← hsub.out] at ho; exact List.mem_of_mem_drop (List.mem_of_mem_take ho)
  have hdr : RJ.drop i = fJ S lo ro xl ++ (RL.drop (s.i + 1)).flatMap (fJ S lo ro) := by
   have hi := (List.getElem?_eq_some_iff.1 hRi'.out)
   rw [h'.out.rel, List.drop_eq_getElem_cons hi.1, hi.2, List.flatMap_cons]
  rw [hfx.out] at hdr
  have hRk : Hid (∀ k (hk : k < sub.length), RJ[i + k]? = some (xl ++ sub[k].l)) := fun k hk => by
   have := congrArg (fun z => z[k]?) hdr
   simp only [List.getElem?_drop] at this;rw [this, List.getElem?_append_left (by simpa using hk)]
   simp [hk]
  have hRe : Hid (RJ.drop (i + m) = (RL.drop (s.i + 1)).flatMap (fJ S lo ro)) := by
   show _ = _
   rw [← List.drop_drop, hdr, List.drop_append];simp [hsl]
  have hiR : Hid (i + m ≤ RJ.length) := by
   show _ ≤ _
   have := congrArg List.length hdr
   rw [List.length_drop, List.length_append, List.length_map, hsl] at this;have := h'.out.il
   omega
  obtain ⟨jsB, hjsB⟩ : ∃ u, Hid (jsA ++ blk ya = u) := ⟨_, rfl⟩
  have hyA2 : ∀ k ∈ blk ya, k < A2.heap.size := fun k hk => Nat.lt_of_lt_of_le (HY1.out.1.lt k (by rw [ownV]; exact hk)) (KD2.out.size)
  have hJ2 : J ⟨true, W3.heap.size, qsA, jsB, i, none⟩ A2 := by
   rw [← hjsB.out]
   exact hT _ _ _ _ h'.out.j ⟨TurnR.ofKp0 K2.out, fun _ => ⟨rfl, rfl, fun q hq => .inl hq⟩, fun e => (by cases e), fun j hj => by
    rcases List.mem_append.1 hj with e | e
    ·exact .inl e
    ·exact .inr ⟨HY1.out.2 j e, hyA2 j e⟩, rfl, .inl rfl⟩
  have hjB : Hid (∀ j ∈ jsB, j < A2.heap.size) := fun j hj => by
   rw [← hjsB.out] at hj
   rcases List.mem_append.1 hj with e | e
   ·exact Nat.lt_of_lt_of_le (h'.out.jl j e) K2.out.size
   ·exact hyA2 j e
  have hMB : Hid (∀ j ∈ Mj, j ∈ jsB) := fun j hj => by rw [← hjsB.out]; exact List.mem_append.2 (.inl (h'.out.mj j hj))
  have hJA : Hid (∀ j ∈ jsA, j ∈ jsB) := fun j hj => by rw [← hjsB.out]; exact List.mem_append.2 (.inl hj)
  have hYB : Hid (∀ j ∈ blk ya, j ∈ jsB) := fun j hj => by rw [← hjsB.out]; exact List.mem_append.2 (.inr hj)
  have hSB : Hid (∀ j ∈ blk aL, j ∈ jsB) := fun j hj => hMB.out j (by rw [hMj.out]; have := hbk j hj; simp [mjs, this])
  have hKA : Hid (KeepR s A A2 ∧ KeepsFrom W3.heap.size A A2) := ⟨⟨KeepB.ofKp K2.out (by simp), fun _ k o _ ho _ => (K2.out.block k (Array.getElem?_eq_some_iff.1 ho).1 (by simp)).trans ho⟩, ⟨K2.out.size, fun k o _ ho _ => (K2.out.block k (Array.getElem?_eq_some_iff.1 ho).1 (by simp)).trans ho⟩⟩
  have hmA2 := hid (hmK.out A2 K2.out)
  have hse2 := hid hsee
  have hyl2 : Hid ((⟨ya, yc, xl⟩ : Vs).lies A2) := hyl.out.ck (CK.ofKp KD2.out) (by simp)
  have hm4 : m ≤ 4000000000000 := by omega
  clear hsee hdr hfx hbk hz0 hall him cA cL;gi_wp2_with fail;gi_loopw [24] (fun vi wr => ∃ k : Nat, vi = .int .i64 (k : Int) ∧ k ≤ m ∧ Hid (J ⟨true, W3.heap.size, qsA, jsB, i + k, none⟩ wr) ∧ Hid (KeepB jsB A2 wr) ∧ Hid (KeepR s A wr ∧ KeepsFrom W3.heap.size A wr)) (fun vi _ => m - (intOf vi).toNat)
  case atStart => exact ⟨0, rfl, Nat.zero_le _, hid hJ2, hid (KeepB.refl _ _), hKA⟩
  case round =>
   obtain ⟨k, rfl, hkm, hJk, hkB, hkA⟩ := hrel;clear hJ2 hKA;have hmr := hid (hmA2.out.ck (by rw [← hMj.out]; exact (ckOfKeepB hkB.out).mono hMB.out))
   have hslm := hid hsl
   by_cases hlt : k < m
   ·have hks : k < sub.length := by rw [hsl]; exact hlt
    have hxo : sub[k]? = some sub[k] := by simp [hks]
    obtain ⟨g, o, ea, c0⟩ := vsAt hse2.out hxo;have cg : wr.cell? ⟨g, o + k, none⟩ = some (.slice sub[k].a sub[k].l.length sub[k].c) := hkB.out.cell (hSB.out g (by rw [ea]; simp [blk])) c0
    have hol := hmr.out.lot.lies sub[k] (hsm.out _ (List.getElem_mem hks))
    have hoS : sub[k].l.length ≤ 1800000000000 := hSll _ (by rw [← HSL.out]; exact List.mem_map.2 ⟨sub[k], hsm.out _ (List.getElem_mem hks), rfl⟩)
    have hRk2 := hid (hRk.out k hks)
    have hyr : (⟨ya, yc, xl⟩ : Vs).lies wr := hyl2.out.ck (ckOfKeepB hkB.out) hYB.out
    obtain ⟨x2, hx2⟩ : ∃ x, Hid (sub[k] = x) := ⟨sub[k], rfl⟩
    rw [hx2.out] at cg hol hoS hRk2;obtain ⟨oa, oc, ol⟩ := x2;dsimp only at cg hoS hRk2;have HOL := hid (And.intro hol (And.intro hoS hyr))
    have i1 : (0 : Int) ≤ (k : Int) := by omega
    have i2 : (k : Int) < (m : Int) := by omega
    have i3 : (k : Int) + 1 ≤ 9223372036854775807 := by omega
    subst ea;clear c0 hxo hol hoS hyr;gi_wp2_with fail;refine wpIn_region_any (by kernel_rfl) ?_
    change wpAnyIn _ _ _ _ _ _ _ _ _ wr.drew
    have kD : Kp [] wr wr.drew := (Kp.refl _ _).drew
    generalize wr.drew = wd at *
    obtain ⟨hol, hoS, hyr⟩ := HOL.out;have c5 := kpAt kD hmr.out.c5
    obtain ⟨Wb, hWb⟩ : ∃ Y, wd.alloc (.cells #[.slice ya xl.length yc, .slice oa ol.length oc] 61) = Y := ⟨_, rfl⟩
    have kb : Kp [] wr Wb := by rw [← hWb]; exact kD.alloc _
    obtain ⟨qb, hqb⟩ : ∃ q, wd.heap.size = q := ⟨_, rfl⟩
    have bb : Bn Wb qb [.slice ya xl.length yc, .slice oa ol.length oc] := by rw [← hWb, ← hqb]; exact Bn.new wd _ _
    have sb : VsE.See Wb (some ⟨qb, 0, none⟩) [⟨ya, yc, xl⟩, ⟨oa, oc, ol⟩] := .inr ⟨qb, 0, rfl, fun j u hu => by rw [Nat.zero_add]; exact bb.get j u (by simpa [El.cs, VsE] using hu)⟩
    have cCt := hid (cConcat (some ⟨qb, 0, none⟩) 2 [⟨ya, yc, xl⟩, ⟨oa, oc, ol⟩] Wb sb (fun x hx => by
     have ckb := CK.ofKp kb
     rcases List.mem_cons.1 hx with rfl | hx
     ·exact hyr.ck ckb (by simp)
     ·rw [List.mem_singleton.1 hx]; exact hol.ck ckb (by simp)) (by simp) (by simp [sumL]; omega))
    have ecat : catL [(⟨ya, yc, xl⟩ : Vs), ⟨oa, oc, ol⟩] = xl ++ ol := by simp [catL]
    rw [ecat] at cCt;have c5b := kpAt kb hmr.out.c5
    have KB := hid kb
    clear hol hoS hyr kb bb sb ecat kD;refine wpAnyIn_ready (rs := [0, 1, 2]) (by kernel_rfl) (by simp) ?_
    refine AllReadyIn.cons rfl (fun K hK => ?_) (AllReadyIn.cons rfl (fun K hK => ?_) (AllReadyIn.cons rfl (fun K hK => ?_) AllReadyIn.nil))
    ·go_simp
     refine hK _ _ ?_;clear hK K;(try simp only [Act.put, lz]);refine rdJ 1 2 (by kernel_rfl) rfl rfl (fun K hK => ?_) fun K hK => ?_
     ·go_simp
      refine hK _ _ ?_;clear hK K;(try simp only [Act.put, lz]);refine rdI 2 (by kernel_rfl) rfl fun K hK => ?_
      go_simp;refine hK _ _ ?_;clear hK K;(try simp only [Act.put, lz]);refine rdI 3 (by kernel_rfl) rfl fun K hK => ?_
      go_simp;refine hK _ _ ?_;clear hK K;(try simp only [Act.put, lz]);refine rdI 4 (by kernel_rfl) rfl fun K hK => ?_
      go_simp;refine ⟨trivial, fun h => (by cases h), (CallsIn.inRound l0 (callsIn_wide.2 cCt.out)).mono ?_⟩
      rintro e Wz ⟨za, zc, rfl, hzrow, kz, hzb⟩;have c5z := kpAt kz c5b
      refine hK _ _ ?_;clear hK K;(try simp only [Act.put, lz]);have kWz := hid (KB.out.trans kz (by simp))
      have hzl := rowLies hzrow
      have hzb2 : ∀ j ∈ blk za, wr.heap.size ≤ j := fun j hj => by have := hzb j hj; have := KB.out.size; omega
      have hJz : J ⟨true, W3.heap.size, qsA, jsB, i + k, some ⟨za, zc, xl ++ ol⟩⟩ Wz := hT _ _ _ _ hJk.out ⟨TurnR.ofKp0 kWz.out, fun _ => ⟨rfl, rfl, fun q hq => .inl hq⟩, fun e => (by cases e), fun j hj => .inl hj, rfl, .inr ⟨_, rfl, hRk2.out, hzl, fun _ => ⟨hzrow, fun j hj => ⟨hzb2 j hj, fun hm => by have := hjB.out j hm; have := hkB.out.1; have := hzb2 j hj; omega, fun hm => by have := h'.out.ql j hm; have := hkA.out.2.size; have := hzb2 j hj; omega⟩⟩⟩⟩
      obtain ⟨fn, tmps, assign, body, hyl5, hR⟩ := hY _ ⟨za, zc, xl ++ ol⟩ Wz hJz rfl;have hR' : RoundIn (Fence.wide.inRound l0) (n - 1 - 1 - 1) Tryz.prog ly fn tmps assign body Wz _ := RoundIn.anyDepthJ (F := Fence.wide.inRound l0) rfl hR
      have hgo : Hid (∀ A3, KeepR ⟨true, W3.heap.size, qsA, jsB, i + k, some ⟨za, zc, xl ++ ol⟩⟩ Wz A3 → KeepB jsB A2 A3 ∧ KeepR s A A3 ∧ KeepsFrom W3.heap.size A A3) := fun A3 hk3 => by
       have t1 : KeepR s wr Wz := ⟨KeepB.ofKp kWz.out (by simp), fun _ j o _ ho _ => (kWz.out.block j (Array.getElem?_eq_some_iff.1 ho).1 (by simp)).trans ho⟩
       have t2 : KeepR s Wz A3 := ⟨⟨hk3.js.1, fun j hj o ho => hk3.js.2 j (hJA.out j (h'.out.sub j hj)) o ho⟩, fun hm j o hj ho hc => hk3.recs rfl j o (by have := (h'.out.mde hm).1; show W3.heap.size ≤ j; omega) ho hc⟩
       exact ⟨hkB.out.trans ((KeepB.ofKp kWz.out (by simp)).trans hk3.js), (hkA.out.1.trans t1).trans t2, ⟨Nat.le_trans hkA.out.2.size (Nat.le_trans kWz.out.size hk3.js.1), fun j o hj ho hc => by
        have g1 := hkA.out.2.same j o hj ho hc
        have g2 := (kWz.out.block j (Array.getElem?_eq_some_iff.1 g1).1 (by simp)).trans g1
        exact hk3.recs rfl j o hj g2 hc⟩⟩
      have hyl6 := hyl5
      simp only [encR, List.length_append] at hyl6;clear hR hJz hzl hzrow kz hzb hzb2 hyl5 cCt;refine rdI 5 (by kernel_rfl) rfl fun K hK => ?_
      go_simp;refine ⟨fun h => (by cases h), hR'.mono ?_⟩
      rintro e A3 (⟨rfl, hJ3, hk3⟩ | ⟨rfl, hJ3, hk3⟩)
      ·have HG := hid (hgo.out A3 hk3)
       have hJ4 : Hid (J ⟨true, W3.heap.size, qsA, jsB, i + (k + 1), none⟩ A3) := hJ3
       clear hgo hR' hyl6 hJ3 hk3;refine hK _ _ ?_;clear hK K;(try simp only [Act.put, lz]);refine rdI 6 (by kernel_rfl) rfl fun K hK => ?_
       go_simp;refine hK _ _ ?_;clear hK K;(try simp only [Act.put, lz]);refine wpAnyIn_done (by kernel_rfl) ?_ _
       gi_wp2_with fail;go_roundw
       case rel => exact ⟨k + 1, by simp, by omega, hJ4, hid HG.out.1, hid HG.out.2⟩
       case measure => simp [intOf]; omega
      ·have HG := hid (hgo.out A3 hk3)
       have hJ4 := hid hJ3
       clear hgo hR' hyl6 hJ3 hk3;refine hK _ _ ?_;clear hK K;(try simp only [Act.put, lz]);refine rdI 6 (by kernel_rfl) rfl fun K hK => ?_
       go_simp;refine hK _ _ ?_;clear hK K;(try simp only [Act.put, lz]);refine wpAnyIn_done (by kernel_rfl) ?_ _
       gi_wp2_with fail;refine ⟨HG.out.2.2, HG.out.2.1, rfl, Sr.nx ⟨true, W3.heap.size, qsA, jsB, i + k, some ⟨za, zc, xl ++ ol⟩⟩ ⟨za, zc, xl ++ ol⟩, rfl, rfl, h'.out.qsub, h'.out.mde, h'.out.lj, hJ4.out⟩
     ·go_simp
      refine hK _ _ ?_;clear hK K;(try simp only [Act.put, lz]);refine rdI 1 (by kernel_rfl) rfl fun K hK => ?_
      go_simp;refine hK _ _ ?_;clear hK K;(try simp only [Act.put, lz]);refine rdI 3 (by kernel_rfl) rfl fun K hK => ?_
      go_simp;refine hK _ _ ?_;clear hK K;(try simp only [Act.put, lz]);refine rdI 4 (by kernel_rfl) rfl fun K hK => ?_
      go_simp;refine ⟨trivial, fun h => (by cases h), (CallsIn.inRound l0 (callsIn_wide.2 cCt.out)).mono ?_⟩
      rintro e Wz ⟨za, zc, rfl, hzrow, kz, hzb⟩;have c5z := kpAt kz c5b
      refine hK _ _ ?_;clear hK K;(try simp only [Act.put, lz]);have kWz := hid (KB.out.trans kz (by simp))
      have hzl := rowLies hzrow
      have hzb2 : ∀ j ∈ blk za, wr.heap.size ≤ j := fun j hj => by have := hzb j hj; have := KB.out.size; omega
      have hJz : J ⟨true, W3.heap.size, qsA, jsB, i + k, some ⟨za, zc, xl ++ ol⟩⟩ Wz := hT _ _ _ _ hJk.out ⟨TurnR.ofKp0 kWz.out, fun _ => ⟨rfl, rfl, fun q hq => .inl hq⟩, fun e => (by cases e), fun j hj => .inl hj, rfl, .inr ⟨_, rfl, hRk2.out, hzl, fun _ => ⟨hzrow, fun j hj => ⟨hzb2 j hj, fun hm => by have := hjB.out j hm; have := hkB.out.1; have := hzb2 j hj; omega, fun hm => by have := h'.out.ql j hm; have := hkA.out.2.size; have := hzb2 j hj; omega⟩⟩⟩⟩
      obtain ⟨fn, tmps, assign, body, hyl5, hR⟩ := hY _ ⟨za, zc, xl ++ ol⟩ Wz hJz rfl;have hR' : RoundIn (Fence.wide.inRound l0) (n - 1 - 1 - 1) Tryz.prog ly fn tmps assign body Wz _ := RoundIn.anyDepthJ (F := Fence.wide.inRound l0) rfl hR
      have hgo : Hid (∀ A3, KeepR ⟨true, W3.heap.size, qsA, jsB, i + k, some ⟨za, zc, xl ++ ol⟩⟩ Wz A3 → KeepB jsB A2 A3 ∧ KeepR s A A3 ∧ KeepsFrom W3.heap.size A A3) := fun A3 hk3 => by
       have t1 : KeepR s wr Wz := ⟨KeepB.ofKp kWz.out (by simp), fun _ j o _ ho _ => (kWz.out.block j (Array.getElem?_eq_some_iff.1 ho).1 (by simp)).trans ho⟩
       have t2 : KeepR s Wz A3 := ⟨⟨hk3.js.1, fun j hj o ho => hk3.js.2 j (hJA.out j (h'.out.sub j hj)) o ho⟩, fun hm j o hj ho hc => hk3.recs rfl j o (by have := (h'.out.mde hm).1; show W3.heap.size ≤ j; omega) ho hc⟩
       exact ⟨hkB.out.trans ((KeepB.ofKp kWz.out (by simp)).trans hk3.js), (hkA.out.1.trans t1).trans t2, ⟨Nat.le_trans hkA.out.2.size (Nat.le_trans kWz.out.size hk3.js.1), fun j o hj ho hc => by
        have g1 := hkA.out.2.same j o hj ho hc
        have g2 := (kWz.out.block j (Array.getElem?_eq_some_iff.1 g1).1 (by simp)).trans g1
        exact hk3.recs rfl j o hj g2 hc⟩⟩
      have hyl6 := hyl5
      simp only [encR, List.length_append] at hyl6;clear hR hJz hzl hzrow kz hzb hzb2 hyl5 cCt;refine rdI 5 (by kernel_rfl) rfl fun K hK => ?_
      go_simp;refine ⟨fun h => (by cases h), hR'.mono ?_⟩
      rintro e A3 (⟨rfl, hJ3, hk3⟩ | ⟨rfl, hJ3, hk3⟩)
      ·have HG := hid (hgo.out A3 hk3)
       have hJ4 : Hid (J ⟨true, W3.heap.size, qsA, jsB, i + (k + 1), none⟩ A3) := hJ3
       clear hgo hR' hyl6 hJ3 hk3;refine hK _ _ ?_;clear hK K;(try simp only [Act.put, lz]);refine rdI 6 (by kernel_rfl) rfl fun K hK => ?_
       go_simp;refine hK _ _ ?_;clear hK K;(try simp only [Act.put, lz]);refine wpAnyIn_done (by kernel_rfl) ?_ _
       gi_wp2_with fail;go_roundw
       case rel => exact ⟨k + 1, by simp, by omega, hJ4, hid HG.out.1, hid HG.out.2⟩
       case measure => simp [intOf]; omega
      ·have HG := hid (hgo.out A3 hk3)
       have hJ4 := hid hJ3
       clear hgo hR' hyl6 hJ3 hk3;refine hK _ _ ?_;clear hK K;(try simp only [Act.put, lz]);refine rdI 6 (by kernel_rfl) rfl fun K hK => ?_
       go_simp;refine hK _ _ ?_;clear hK K;(try simp only [Act.put, lz]);refine wpAnyIn_done (by kernel_rfl) ?_ _
       gi_wp2_with fail;refine ⟨HG.out.2.2, HG.out.2.1, rfl, Sr.nx ⟨true, W3.heap.size, qsA, jsB, i + k, some ⟨za, zc, xl ++ ol⟩⟩ ⟨za, zc, xl ++ ol⟩, rfl, rfl, h'.out.qsub, h'.out.mde, h'.out.lj, hJ4.out⟩
    ·go_simp
     refine hK _ _ ?_;clear hK K;(try simp only [Act.put, lz]);refine rdJ 0 2 (by kernel_rfl) rfl rfl (fun K hK => ?_) fun K hK => ?_
     ·go_simp
      refine hK _ _ ?_;clear hK K;(try simp only [Act.put, lz]);refine rdI 2 (by kernel_rfl) rfl fun K hK => ?_
      go_simp;refine hK _ _ ?_;clear hK K;(try simp only [Act.put, lz]);refine rdI 3 (by kernel_rfl) rfl fun K hK => ?_
      go_simp;refine hK _ _ ?_;clear hK K;(try simp only [Act.put, lz]);refine rdI 4 (by kernel_rfl) rfl fun K hK => ?_
      go_simp;refine ⟨trivial, fun h => (by cases h), (CallsIn.inRound l0 (callsIn_wide.2 cCt.out)).mono ?_⟩
      rintro e Wz ⟨za, zc, rfl, hzrow, kz, hzb⟩;have c5z := kpAt kz c5b
      refine hK _ _ ?_;clear hK K;(try simp only [Act.put, lz]);have kWz := hid (KB.out.trans kz (by simp))
      have hzl := rowLies hzrow
      have hzb2 : ∀ j ∈ blk za, wr.heap.size ≤ j := fun j hj => by have := hzb j hj; have := KB.out.size; omega
      have hJz : J ⟨true, W3.heap.size, qsA, jsB, i + k, some ⟨za, zc, xl ++ ol⟩⟩ Wz := hT _ _ _ _ hJk.out ⟨TurnR.ofKp0 kWz.out, fun _ => ⟨rfl, rfl, fun q hq => .inl hq⟩, fun e => (by cases e), fun j hj => .inl hj, rfl, .inr ⟨_, rfl, hRk2.out, hzl, fun _ => ⟨hzrow, fun j hj => ⟨hzb2 j hj, fun hm => by have := hjB.out j hm; have := hkB.out.1; have := hzb2 j hj; omega, fun hm => by have := h'.out.ql j hm; have := hkA.out.2.size; have := hzb2 j hj; omega⟩⟩⟩⟩
      obtain ⟨fn, tmps, assign, body, hyl5, hR⟩ := hY _ ⟨za, zc, xl ++ ol⟩ Wz hJz rfl;have hR' : RoundIn (Fence.wide.inRound l0) (n - 1 - 1 - 1) Tryz.prog ly fn tmps assign body Wz _ := RoundIn.anyDepthJ (F := Fence.wide.inRound l0) rfl hR
      have hgo : Hid (∀ A3, KeepR ⟨true, W3.heap.size, qsA, jsB, i + k, some ⟨za, zc, xl ++ ol⟩⟩ Wz A3 → KeepB jsB A2 A3 ∧ KeepR s A A3 ∧ KeepsFrom W3.heap.size A A3) := fun A3 hk3 => by
       have t1 : KeepR s wr Wz := ⟨KeepB.ofKp kWz.out (by simp), fun _ j o _ ho _ => (kWz.out.block j (Array.getElem?_eq_some_iff.1 ho).1 (by simp)).trans ho⟩
       have t2 : KeepR s Wz A3 := ⟨⟨hk3.js.1, fun j hj o ho => hk3.js.2 j (hJA.out j (h'.out.sub j hj)) o ho⟩, fun hm j o hj ho hc => hk3.recs rfl j o (by have := (h'.out.mde hm).1; show W3.heap.size ≤ j; omega) ho hc⟩
       exact ⟨hkB.out.trans ((KeepB.ofKp kWz.out (by simp)).trans hk3.js), (hkA.out.1.trans t1).trans t2, ⟨Nat.le_trans hkA.out.2.size (Nat.le_trans kWz.out.size hk3.js.1), fun j o hj ho hc => by
        have g1 := hkA.out.2.same j o hj ho hc
        have g2 := (kWz.out.block j (Array.getElem?_eq_some_iff.1 g1).1 (by simp)).trans g1
        exact hk3.recs rfl j o hj g2 hc⟩⟩
      have hyl6 := hyl5
      simp only [encR, List.length_append] at hyl6;clear hR hJz hzl hzrow kz hzb hzb2 hyl5 cCt;refine rdI 5 (by kernel_rfl) rfl fun K hK => ?_
      go_simp;refine ⟨fun h => (by cases h), hR'.mono ?_⟩
      rintro e A3 (⟨rfl, hJ3, hk3⟩ | ⟨rfl, hJ3, hk3⟩)
      ·have HG := hid (hgo.out A3 hk3)
       have hJ4 : Hid (J ⟨true, W3.heap.size, qsA, jsB, i + (k + 1), none⟩ A3) := hJ3
       clear hgo hR' hyl6 hJ3 hk3;refine hK _ _ ?_;clear hK K;(try simp only [Act.put, lz]);refine rdI 6 (by kernel_rfl) rfl fun K hK => ?_
       go_simp;refine hK _ _ ?_;clear hK K;(try simp only [Act.put, lz]);refine wpAnyIn_done (by kernel_rfl) ?_ _
       gi_wp2_with fail;go_roundw
       case rel => exact ⟨k + 1, by simp, by omega, hJ4, hid HG.out.1, hid HG.out.2⟩
       case measure => simp [intOf]; omega
      ·have HG := hid (hgo.out A3 hk3)
       have hJ4 := hid hJ3
       clear hgo hR' hyl6 hJ3 hk3;refine hK _ _ ?_;clear hK K;(try simp only [Act.put, lz]);refine rdI 6 (by kernel_rfl) rfl fun K hK => ?_
       go_simp;refine hK _ _ ?_;clear hK K;(try simp only [Act.put, lz]);refine wpAnyIn_done (by kernel_rfl) ?_ _
       gi_wp2_with fail;refine ⟨HG.out.2.2, HG.out.2.1, rfl, Sr.nx ⟨true, W3.heap.size, qsA, jsB, i + k, some ⟨za, zc, xl ++ ol⟩⟩ ⟨za, zc, xl ++ ol⟩, rfl, rfl, h'.out.qsub, h'.out.mde, h'.out.lj, hJ4.out⟩
     ·go_simp
      refine hK _ _ ?_;clear hK K;(try simp only [Act.put, lz]);refine rdJ 0 3 (by kernel_rfl) rfl rfl (fun K hK => ?_) fun K hK => ?_
      ·go_simp
       refine hK _ _ ?_;clear hK K;(try simp only [Act.put, lz]);refine rdI 3 (by kernel_rfl) rfl fun K hK => ?_
       go_simp;refine hK _ _ ?_;clear hK K;(try simp only [Act.put, lz]);refine rdI 4 (by kernel_rfl) rfl fun K hK => ?_
       go_simp;refine ⟨trivial, fun h => (by cases h), (CallsIn.inRound l0 (callsIn_wide.2 cCt.out)).mono ?_⟩
       rintro e Wz ⟨za, zc, rfl, hzrow, kz, hzb⟩;have c5z := kpAt kz c5b
       refine hK _ _ ?_;clear hK K;(try simp only [Act.put, lz]);have kWz := hid (KB.out.trans kz (by simp))
       have hzl := rowLies hzrow
       have hzb2 : ∀ j ∈ blk za, wr.heap.size ≤ j := fun j hj => by have := hzb j hj; have := KB.out.size; omega
       have hJz : J ⟨true, W3.heap.size, qsA, jsB, i + k, some ⟨za, zc, xl ++ ol⟩⟩ Wz := hT _ _ _ _ hJk.out ⟨TurnR.ofKp0 kWz.out, fun _ => ⟨rfl, rfl, fun q hq => .inl hq⟩, fun e => (by cases e), fun j hj => .inl hj, rfl, .inr ⟨_, rfl, hRk2.out, hzl, fun _ => ⟨hzrow, fun j hj => ⟨hzb2 j hj, fun hm => by have := hjB.out j hm; have := hkB.out.1; have := hzb2 j hj; omega, fun hm => by have := h'.out.ql j hm; have := hkA.out.2.size; have := hzb2 j hj; omega⟩⟩⟩⟩
       obtain ⟨fn, tmps, assign, body, hyl5, hR⟩ := hY _ ⟨za, zc, xl ++ ol⟩ Wz hJz rfl;have hR' : RoundIn (Fence.wide.inRound l0) (n - 1 - 1 - 1) Tryz.prog ly fn tmps assign body Wz _ := RoundIn.anyDepthJ (F := Fence.wide.inRound l0) rfl hR
       have hgo : Hid (∀ A3, KeepR ⟨true, W3.heap.size, qsA, jsB, i + k, some ⟨za, zc, xl ++ ol⟩⟩ Wz A3 → KeepB jsB A2 A3 ∧ KeepR s A A3 ∧ KeepsFrom W3.heap.size A A3) := fun A3 hk3 => by
        have t1 : KeepR s wr Wz := ⟨KeepB.ofKp kWz.out (by simp), fun _ j o _ ho _ => (kWz.out.block j (Array.getElem?_eq_some_iff.1 ho).1 (by simp)).trans ho⟩
        have t2 : KeepR s Wz A3 := ⟨⟨hk3.js.1, fun j hj o ho => hk3.js.2 j (hJA.out j (h'.out.sub j hj)) o ho⟩, fun hm j o hj ho hc => hk3.recs rfl j o (by have := (h'.out.mde hm).1; show W3.heap.size ≤ j; omega) ho hc⟩
        exact ⟨hkB.out.trans ((KeepB.ofKp kWz.out (by simp)).trans hk3.js), (hkA.out.1.trans t1).trans t2, ⟨Nat.le_trans hkA.out.2.size (Nat.le_trans kWz.out.size hk3.js.1), fun j o hj ho hc => by
         have g1 := hkA.out.2.same j o hj ho hc
         have g2 := (kWz.out.block j (Array.getElem?_eq_some_iff.1 g1).1 (by simp)).trans g1
         exact hk3.recs rfl j o hj g2 hc⟩⟩
       have hyl6 := hyl5
       simp only [encR, List.length_append] at hyl6;clear hR hJz hzl hzrow kz hzb hzb2 hyl5 cCt;refine rdI 5 (by kernel_rfl) rfl fun K hK => ?_
       go_simp;refine ⟨fun h => (by cases h), hR'.mono ?_⟩
       rintro e A3 (⟨rfl, hJ3, hk3⟩ | ⟨rfl, hJ3, hk3⟩)
       ·have HG := hid (hgo.out A3 hk3)
        have hJ4 : Hid (J ⟨true, W3.heap.size, qsA, jsB, i + (k + 1), none⟩ A3) := hJ3
        clear hgo hR' hyl6 hJ3 hk3;refine hK _ _ ?_;clear hK K;(try simp only [Act.put, lz]);refine rdI 6 (by kernel_rfl) rfl fun K hK => ?_
        go_simp;refine hK _ _ ?_;clear hK K;(try simp only [Act.put, lz]);refine wpAnyIn_done (by kernel_rfl) ?_ _
        gi_wp2_with fail;go_roundw
        case rel => exact ⟨k + 1, by simp, by omega, hJ4, hid HG.out.1, hid HG.out.2⟩
        case measure => simp [intOf]; omega
       ·have HG := hid (hgo.out A3 hk3)
        have hJ4 := hid hJ3
        clear hgo hR' hyl6 hJ3 hk3;refine hK _ _ ?_;clear hK K;(try simp only [Act.put, lz]);refine rdI 6 (by kernel_rfl) rfl fun K hK => ?_
        go_simp;refine hK _ _ ?_;clear hK K;(try simp only [Act.put, lz]);refine wpAnyIn_done (by kernel_rfl) ?_ _
        gi_wp2_with fail;refine ⟨HG.out.2.2, HG.out.2.1, rfl, Sr.nx ⟨true, W3.heap.size, qsA, jsB, i + k, some ⟨za, zc, xl ++ ol⟩⟩ ⟨za, zc, xl ++ ol⟩, rfl, rfl, h'.out.qsub, h'.out.mde, h'.out.lj, hJ4.out⟩
      ·go_simp
       refine hK _ _ ?_;clear hK K;(try simp only [Act.put, lz]);refine rdJ 0 4 (by kernel_rfl) rfl rfl (fun K hK => ?_) fun K hK => ?_
       ·go_simp
        refine hK _ _ ?_;clear hK K;(try simp only [Act.put, lz]);refine rdI 4 (by kernel_rfl) rfl fun K hK => ?_
        go_simp;refine ⟨trivial, fun h => (by cases h), (CallsIn.inRound l0 (callsIn_wide.2 cCt.out)).mono ?_⟩
        rintro e Wz ⟨za, zc, rfl, hzrow, kz, hzb⟩;have c5z := kpAt kz c5b
        refine hK _ _ ?_;clear hK K;(try simp only [Act.put, lz]);have kWz := hid (KB.out.trans kz (by simp))
        have hzl := rowLies hzrow
        have hzb2 : ∀ j ∈ blk za, wr.heap.size ≤ j := fun j hj => by have := hzb j hj; have := KB.out.size; omega
        have hJz : J ⟨true, W3.heap.size, qsA, jsB, i + k, some ⟨za, zc, xl ++ ol⟩⟩ Wz := hT _ _ _ _ hJk.out ⟨TurnR.ofKp0 kWz.out, fun _ => ⟨rfl, rfl, fun q hq => .inl hq⟩, fun e => (by cases e), fun j hj => .inl hj, rfl, .inr ⟨_, rfl, hRk2.out, hzl, fun _ => ⟨hzrow, fun j hj => ⟨hzb2 j hj, fun hm => by have := hjB.out j hm; have := hkB.out.1; have := hzb2 j hj; omega, fun hm => by have := h'.out.ql j hm; have := hkA.out.2.size; have := hzb2 j hj; omega⟩⟩⟩⟩
        obtain ⟨fn, tmps, assign, body, hyl5, hR⟩ := hY _ ⟨za, zc, xl ++ ol⟩ Wz hJz rfl;have hR' : RoundIn (Fence.wide.inRound l0) (n - 1 - 1 - 1) Tryz.prog ly fn tmps assign body Wz _ := RoundIn.anyDepthJ (F := Fence.wide.inRound l0) rfl hR
        have hgo : Hid (∀ A3, KeepR ⟨true, W3.heap.size, qsA, jsB, i + k, some ⟨za, zc, xl ++ ol⟩⟩ Wz A3 → KeepB jsB A2 A3 ∧ KeepR s A A3 ∧ KeepsFrom W3.heap.size A A3) := fun A3 hk3 => by
         have t1 : KeepR s wr Wz := ⟨KeepB.ofKp kWz.out (by simp), fun _ j o _ ho _ => (kWz.out.block j (Array.getElem?_eq_some_iff.1 ho).1 (by simp)).trans ho⟩
         have t2 : KeepR s Wz A3 := ⟨⟨hk3.js.1, fun j hj o ho => hk3.js.2 j (hJA.out j (h'.out.sub j hj)) o ho⟩, fun hm j o hj ho hc => hk3.recs rfl j o (by have := (h'.out.mde hm).1; show W3.heap.size ≤ j; omega) ho hc⟩
         exact ⟨hkB.out.trans ((KeepB.ofKp kWz.out (by simp)).trans hk3.js), (hkA.out.1.trans t1).trans t2, ⟨Nat.le_trans hkA.out.2.size (Nat.le_trans kWz.out.size hk3.js.1), fun j o hj ho hc => by
          have g1 := hkA.out.2.same j o hj ho hc
          have g2 := (kWz.out.block j (Array.getElem?_eq_some_iff.1 g1).1 (by simp)).trans g1
          exact hk3.recs rfl j o hj g2 hc⟩⟩
        have hyl6 := hyl5
        simp only [encR, List.length_append] at hyl6;clear hR hJz hzl hzrow kz hzb hzb2 hyl5 cCt;refine rdI 5 (by kernel_rfl) rfl fun K hK => ?_
        go_simp;refine ⟨fun h => (by cases h), hR'.mono ?_⟩
        rintro e A3 (⟨rfl, hJ3, hk3⟩ | ⟨rfl, hJ3, hk3⟩)
        ·have HG := hid (hgo.out A3 hk3)
         have hJ4 : Hid (J ⟨true, W3.heap.size, qsA, jsB, i + (k + 1), none⟩ A3) := hJ3
         clear hgo hR' hyl6 hJ3 hk3;refine hK _ _ ?_;clear hK K;(try simp only [Act.put, lz]);refine rdI 6 (by kernel_rfl) rfl fun K hK => ?_
         go_simp;refine hK _ _ ?_;clear hK K;(try simp only [Act.put, lz]);refine wpAnyIn_done (by kernel_rfl) ?_ _
         gi_wp2_with fail;go_roundw
         case rel => exact ⟨k + 1, by simp, by omega, hJ4, hid HG.out.1, hid HG.out.2⟩
         case measure => simp [intOf]; omega
        ·have HG := hid (hgo.out A3 hk3)
         have hJ4 := hid hJ3
         clear hgo hR' hyl6 hJ3 hk3;refine hK _ _ ?_;clear hK K;(try simp only [Act.put, lz]);refine rdI 6 (by kernel_rfl) rfl fun K hK => ?_
         go_simp;refine hK _ _ ?_;clear hK K;(try simp only [Act.put, lz]);refine wpAnyIn_done (by kernel_rfl) ?_ _
         gi_wp2_with fail;refine ⟨HG.out.2.2, HG.out.2.1, rfl, Sr.nx ⟨true, W3.heap.size, qsA, jsB, i + k, some ⟨za, zc, xl ++ ol⟩⟩ ⟨za, zc, xl ++ ol⟩, rfl, rfl, h'.out.qsub, h'.out.mde, h'.out.lj, hJ4.out⟩
       ·go_simp
        refine ⟨trivial, fun h => (by cases h), (CallsIn.inRound l0 (callsIn_wide.2 cCt.out)).mono ?_⟩
        rintro e Wz ⟨za, zc, rfl, hzrow, kz, hzb⟩;have c5z := kpAt kz c5b
        refine hK _ _ ?_;clear hK K;(try simp only [Act.put, lz]);refine rdI 0 (by kernel_rfl) rfl fun K hK => ?_
        go_simp;refine hK _ _ ?_;clear hK K;(try simp only [Act.put, lz]);have kWz := hid (KB.out.trans kz (by simp))
        have hzl := rowLies hzrow
        have hzb2 : ∀ j ∈ blk za, wr.heap.size ≤ j := fun j hj => by have := hzb j hj; have := KB.out.size; omega
        have hJz : J ⟨true, W3.heap.size, qsA, jsB, i + k, some ⟨za, zc, xl ++ ol⟩⟩ Wz := hT _ _ _ _ hJk.out ⟨TurnR.ofKp0 kWz.out, fun _ => ⟨rfl, rfl, fun q hq => .inl hq⟩, fun e => (by cases e), fun j hj => .inl hj, rfl, .inr ⟨_, rfl, hRk2.out, hzl, fun _ => ⟨hzrow, fun j hj => ⟨hzb2 j hj, fun hm => by have := hjB.out j hm; have := hkB.out.1; have := hzb2 j hj; omega, fun hm => by have := h'.out.ql j hm; have := hkA.out.2.size; have := hzb2 j hj; omega⟩⟩⟩⟩
        obtain ⟨fn, tmps, assign, body, hyl5, hR⟩ := hY _ ⟨za, zc, xl ++ ol⟩ Wz hJz rfl;have hR' : RoundIn (Fence.wide.inRound l0) (n - 1 - 1 - 1) Tryz.prog ly fn tmps assign body Wz _ := RoundIn.anyDepthJ (F := Fence.wide.inRound l0) rfl hR
        have hgo : Hid (∀ A3, KeepR ⟨true, W3.heap.size, qsA, jsB, i + k, some ⟨za, zc, xl ++ ol⟩⟩ Wz A3 → KeepB jsB A2 A3 ∧ KeepR s A A3 ∧ KeepsFrom W3.heap.size A A3) := fun A3 hk3 => by
         have t1 : KeepR s wr Wz := ⟨KeepB.ofKp kWz.out (by simp), fun _ j o _ ho _ => (kWz.out.block j (Array.getElem?_eq_some_iff.1 ho).1 (by simp)).trans ho⟩
         have t2 : KeepR s Wz A3 := ⟨⟨hk3.js.1, fun j hj o ho => hk3.js.2 j (hJA.out j (h'.out.sub j hj)) o ho⟩, fun hm j o hj ho hc => hk3.recs rfl j o (by have := (h'.out.mde hm).1; show W3.heap.size ≤ j; omega) ho hc⟩
         exact ⟨hkB.out.trans ((KeepB.ofKp kWz.out (by simp)).trans hk3.js), (hkA.out.1.trans t1).trans t2, ⟨Nat.le_trans hkA.out.2.size (Nat.le_trans kWz.out.size hk3.js.1), fun j o hj ho hc => by
          have g1 := hkA.out.2.same j o hj ho hc
          have g2 := (kWz.out.block j (Array.getElem?_eq_some_iff.1 g1).1 (by simp)).trans g1
          exact hk3.recs rfl j o hj g2 hc⟩⟩
        have hyl6 := hyl5
        simp only [encR, List.length_append] at hyl6;clear hR hJz hzl hzrow kz hzb hzb2 hyl5 cCt;refine rdI 5 (by kernel_rfl) rfl fun K hK => ?_
        go_simp;refine ⟨fun h => (by cases h), hR'.mono ?_⟩
        rintro e A3 (⟨rfl, hJ3, hk3⟩ | ⟨rfl, hJ3, hk3⟩)
        ·have HG := hid (hgo.out A3 hk3)
         have hJ4 : Hid (J ⟨true, W3.heap.size, qsA, jsB, i + (k + 1), none⟩ A3) := hJ3
         clear hgo hR' hyl6 hJ3 hk3;refine hK _ _ ?_;clear hK K;(try simp only [Act.put, lz]);refine rdI 6 (by kernel_rfl) rfl fun K hK => ?_
         go_simp;refine hK _ _ ?_;clear hK K;(try simp only [Act.put, lz]);refine wpAnyIn_done (by kernel_rfl) ?_ _
         gi_wp2_with fail;go_roundw
         case rel => exact ⟨k + 1, by simp, by omega, hJ4, hid HG.out.1, hid HG.out.2⟩
         case measure => simp [intOf]; omega
        ·have HG := hid (hgo.out A3 hk3)
         have hJ4 := hid hJ3
         clear hgo hR' hyl6 hJ3 hk3;refine hK _ _ ?_;clear hK K;(try simp only [Act.put, lz]);refine rdI 6 (by kernel_rfl) rfl fun K hK => ?_
         go_simp;refine hK _ _ ?_;clear hK K;(try simp only [Act.put, lz]);refine wpAnyIn_done (by kernel_rfl) ?_ _
         gi_wp2_with fail;refine ⟨HG.out.2.2, HG.out.2.1, rfl, Sr.nx ⟨true, W3.heap.size, qsA, jsB, i + k, some ⟨za, zc, xl ++ ol⟩⟩ ⟨za, zc, xl ++ ol⟩, rfl, rfl, h'.out.qsub, h'.out.mde, h'.out.lj, hJ4.out⟩
    ·go_simp
     refine hK _ _ ?_;clear hK K;(try simp only [Act.put, lz]);refine rdJ 0 1 (by kernel_rfl) rfl rfl (fun K hK => ?_) fun K hK => ?_
     ·go_simp
      refine hK _ _ ?_;clear hK K;(try simp only [Act.put, lz]);refine rdI 1 (by kernel_rfl) rfl fun K hK => ?_
      go_simp;refine hK _ _ ?_;clear hK K;(try simp only [Act.put, lz]);refine rdI 3 (by kernel_rfl) rfl fun K hK => ?_
      go_simp;refine hK _ _ ?_;clear hK K;(try simp only [Act.put, lz]);refine rdI 4 (by kernel_rfl) rfl fun K hK => ?_
      go_simp;refine ⟨trivial, fun h => (by cases h), (CallsIn.inRound l0 (callsIn_wide.2 cCt.out)).mono ?_⟩
      rintro e Wz ⟨za, zc, rfl, hzrow, kz, hzb⟩;have c5z := kpAt kz c5b
      refine hK _ _ ?_;clear hK K;(try simp only [Act.put, lz]);have kWz := hid (KB.out.trans kz (by simp))
      have hzl := rowLies hzrow
      have hzb2 : ∀ j ∈ blk za, wr.heap.size ≤ j := fun j hj => by have := hzb j hj; have := KB.out.size; omega
      have hJz : J ⟨true, W3.heap.size, qsA, jsB, i + k, some ⟨za, zc, xl ++ ol⟩⟩ Wz := hT _ _ _ _ hJk.out ⟨TurnR.ofKp0 kWz.out, fun _ => ⟨rfl, rfl, fun q hq => .inl hq⟩, fun e => (by cases e), fun j hj => .inl hj, rfl, .inr ⟨_, rfl, hRk2.out, hzl, fun _ => ⟨hzrow, fun j hj => ⟨hzb2 j hj, fun hm => by have := hjB.out j hm; have := hkB.out.1; have := hzb2 j hj; omega, fun hm => by have := h'.out.ql j hm; have := hkA.out.2.size; have := hzb2 j hj; omega⟩⟩⟩⟩
      obtain ⟨fn, tmps, assign, body, hyl5, hR⟩ := hY _ ⟨za, zc, xl ++ ol⟩ Wz hJz rfl;have hR' : RoundIn (Fence.wide.inRound l0) (n - 1 - 1 - 1) Tryz.prog ly fn tmps assign body Wz _ := RoundIn.anyDepthJ (F := Fence.wide.inRound l0) rfl hR
      have hgo : Hid (∀ A3, KeepR ⟨true, W3.heap.size, qsA, jsB, i + k, some ⟨za, zc, xl ++ ol⟩⟩ Wz A3 → KeepB jsB A2 A3 ∧ KeepR s A A3 ∧ KeepsFrom W3.heap.size A A3) := fun A3 hk3 => by
       have t1 : KeepR s wr Wz := ⟨KeepB.ofKp kWz.out (by simp), fun _ j o _ ho _ => (kWz.out.block j (Array.getElem?_eq_some_iff.1 ho).1 (by simp)).trans ho⟩
       have t2 : KeepR s Wz A3 := ⟨⟨hk3.js.1, fun j hj o ho => hk3.js.2 j (hJA.out j (h'.out.sub j hj)) o ho⟩, fun hm j o hj ho hc => hk3.recs rfl j o (by have := (h'.out.mde hm).1; show W3.heap.size ≤ j; omega) ho hc⟩
       exact ⟨hkB.out.trans ((KeepB.ofKp kWz.out (by simp)).trans hk3.js), (hkA.out.1.trans t1).trans t2, ⟨Nat.le_trans hkA.out.2.size (Nat.le_trans kWz.out.size hk3.js.1), fun j o hj ho hc => by
        have g1 := hkA.out.2.same j o hj ho hc
        have g2 := (kWz.out.block j (Array.getElem?_eq_some_iff.1 g1).1 (by simp)).trans g1
        exact hk3.recs rfl j o hj g2 hc⟩⟩
      have hyl6 := hyl5
      simp only [encR, List.length_append] at hyl6;clear hR hJz hzl hzrow kz hzb hzb2 hyl5 cCt;refine rdI 5 (by kernel_rfl) rfl fun K hK => ?_
      go_simp;refine ⟨fun h => (by cases h), hR'.mono ?_⟩
      rintro e A3 (⟨rfl, hJ3, hk3⟩ | ⟨rfl, hJ3, hk3⟩)
      ·have HG := hid (hgo.out A3 hk3)
       have hJ4 : Hid (J ⟨true, W3.heap.size, qsA, jsB, i + (k + 1), none⟩ A3) := hJ3
       clear hgo hR' hyl6 hJ3 hk3;refine hK _ _ ?_;clear hK K;(try simp only [Act.put, lz]);refine rdI 6 (by kernel_rfl) rfl fun K hK => ?_
       go_simp;refine hK _ _ ?_;clear hK K;(try simp only [Act.put, lz]);refine wpAnyIn_done (by kernel_rfl) ?_ _
       gi_wp2_with fail;go_roundw
       case rel => exact ⟨k + 1, by simp, by omega, hJ4, hid HG.out.1, hid HG.out.2⟩
       case measure => simp [intOf]; omega
      ·have HG := hid (hgo.out A3 hk3)
       have hJ4 := hid hJ3
       clear hgo hR' hyl6 hJ3 hk3;refine hK _ _ ?_;clear hK K;(try simp only [Act.put, lz]);refine rdI 6 (by kernel_rfl) rfl fun K hK => ?_
       go_simp;refine hK _ _ ?_;clear hK K;(try simp only [Act.put, lz]);refine wpAnyIn_done (by kernel_rfl) ?_ _
       gi_wp2_with fail;refine ⟨HG.out.2.2, HG.out.2.1, rfl, Sr.nx ⟨true, W3.heap.size, qsA, jsB, i + k, some ⟨za, zc, xl ++ ol⟩⟩ ⟨za, zc, xl ++ ol⟩, rfl, rfl, h'.out.qsub, h'.out.mde, h'.out.lj, hJ4.out⟩
     ·go_simp
      refine hK _ _ ?_;clear hK K;(try simp only [Act.put, lz]);refine rdJ 0 3 (by kernel_rfl) rfl rfl (fun K hK => ?_) fun K hK => ?_
      ·go_simp
       refine hK _ _ ?_;clear hK K;(try simp only [Act.put, lz]);refine rdI 3 (by kernel_rfl) rfl fun K hK => ?_
       go_simp;refine hK _ _ ?_;clear hK K;(try simp only [Act.put, lz]);refine rdI 4 (by kernel_rfl) rfl fun K hK => ?_
       go_simp;refine ⟨trivial, fun h => (by cases h), (CallsIn.inRound l0 (callsIn_wide.2 cCt.out)).mono ?_⟩
       rintro e Wz ⟨za, zc, rfl, hzrow, kz, hzb⟩;have c5z := kpAt kz c5b
       refine hK _ _ ?_;clear hK K;(try simp only [Act.put, lz]);have kWz := hid (KB.out.trans kz (by simp))
       have hzl := rowLies hzrow
       have hzb2 : ∀ j ∈ blk za, wr.heap.size ≤ j := fun j hj => by have := hzb j hj; have := KB.out.size; omega
       have hJz : J ⟨true, W3.heap.size, qsA, jsB, i + k, some ⟨za, zc, xl ++ ol⟩⟩ Wz := hT _ _ _ _ hJk.out ⟨TurnR.ofKp0 kWz.out, fun _ => ⟨rfl, rfl, fun q hq => .inl hq⟩, fun e => (by cases e), fun j hj => .inl hj, rfl, .inr ⟨_, rfl, hRk2.out, hzl, fun _ => ⟨hzrow, fun j hj => ⟨hzb2 j hj, fun hm => by have := hjB.out j hm; have := hkB.out.1; have := hzb2 j hj; omega, fun hm => by have := h'.out.ql j hm; have := hkA.out.2.size; have := hzb2 j hj; omega⟩⟩⟩⟩
       obtain ⟨fn, tmps, assign, body, hyl5, hR⟩ := hY _ ⟨za, zc, xl ++ ol⟩ Wz hJz rfl;have hR' : RoundIn (Fence.wide.inRound l0) (n - 1 - 1 - 1) Tryz.prog ly fn tmps assign body Wz _ := RoundIn.anyDepthJ (F := Fence.wide.inRound l0) rfl hR
       have hgo : Hid (∀ A3, KeepR ⟨true, W3.heap.size, qsA, jsB, i + k, some ⟨za, zc, xl ++ ol⟩⟩ Wz A3 → KeepB jsB A2 A3 ∧ KeepR s A A3 ∧ KeepsFrom W3.heap.size A A3) := fun A3 hk3 => by
        have t1 : KeepR s wr Wz := ⟨KeepB.ofKp kWz.out (by simp), fun _ j o _ ho _ => (kWz.out.block j (Array.getElem?_eq_some_iff.1 ho).1 (by simp)).trans ho⟩
        have t2 : KeepR s Wz A3 := ⟨⟨hk3.js.1, fun j hj o ho => hk3.js.2 j (hJA.out j (h'.out.sub j hj)) o ho⟩, fun hm j o hj ho hc => hk3.recs rfl j o (by have := (h'.out.mde hm).1; show W3.heap.size ≤ j; omega) ho hc⟩
        exact ⟨hkB.out.trans ((KeepB.ofKp kWz.out (by simp)).trans hk3.js), (hkA.out.1.trans t1).trans t2, ⟨Nat.le_trans hkA.out.2.size (Nat.le_trans kWz.out.size hk3.js.1), fun j o hj ho hc => by
         have g1 := hkA.out.2.same j o hj ho hc
         have g2 := (kWz.out.block j (Array.getElem?_eq_some_iff.1 g1).1 (by simp)).trans g1
         exact hk3.recs rfl j o hj g2 hc⟩⟩
       have hyl6 := hyl5
       simp only [encR, List.length_append] at hyl6;clear hR hJz hzl hzrow kz hzb hzb2 hyl5 cCt;refine rdI 5 (by kernel_rfl) rfl fun K hK => ?_
       go_simp;refine ⟨fun h => (by cases h), hR'.mono ?_⟩
       rintro e A3 (⟨rfl, hJ3, hk3⟩ | ⟨rfl, hJ3, hk3⟩)
       ·have HG := hid (hgo.out A3 hk3)
        have hJ4 : Hid (J ⟨true, W3.heap.size, qsA, jsB, i + (k + 1), none⟩ A3) := hJ3
        clear hgo hR' hyl6 hJ3 hk3;refine hK _ _ ?_;clear hK K;(try simp only [Act.put, lz]);refine rdI 6 (by kernel_rfl) rfl fun K hK => ?_
        go_simp;refine hK _ _ ?_;clear hK K;(try simp only [Act.put, lz]);refine wpAnyIn_done (by kernel_rfl) ?_ _
        gi_wp2_with fail;go_roundw
        case rel => exact ⟨k + 1, by simp, by omega, hJ4, hid HG.out.1, hid HG.out.2⟩
        case measure => simp [intOf]; omega
       ·have HG := hid (hgo.out A3 hk3)
        have hJ4 := hid hJ3
        clear hgo hR' hyl6 hJ3 hk3;refine hK _ _ ?_;clear hK K;(try simp only [Act.put, lz]);refine rdI 6 (by kernel_rfl) rfl fun K hK => ?_
        go_simp;refine hK _ _ ?_;clear hK K;(try simp only [Act.put, lz]);refine wpAnyIn_done (by kernel_rfl) ?_ _
        gi_wp2_with fail;refine ⟨HG.out.2.2, HG.out.2.1, rfl, Sr.nx ⟨true, W3.heap.size, qsA, jsB, i + k, some ⟨za, zc, xl ++ ol⟩⟩ ⟨za, zc, xl ++ ol⟩, rfl, rfl, h'.out.qsub, h'.out.mde, h'.out.lj, hJ4.out⟩
      ·go_simp
       refine hK _ _ ?_;clear hK K;(try simp only [Act.put, lz]);refine rdJ 0 4 (by kernel_rfl) rfl rfl (fun K hK => ?_) fun K hK => ?_
       ·go_simp
        refine hK _ _ ?_;clear hK K;(try simp only [Act.put, lz]);refine rdI 4 (by kernel_rfl) rfl fun K hK => ?_
        go_simp;refine ⟨trivial, fun h => (by cases h), (CallsIn.inRound l0 (callsIn_wide.2 cCt.out)).mono ?_⟩
        rintro e Wz ⟨za, zc, rfl, hzrow, kz, hzb⟩;have c5z := kpAt kz c5b
        refine hK _ _ ?_;clear hK K;(try simp only [Act.put, lz]);have kWz := hid (KB.out.trans kz (by simp))
        have hzl := rowLies hzrow
        have hzb2 : ∀ j ∈ blk za, wr.heap.size ≤ j := fun j hj => by have := hzb j hj; have := KB.out.size; omega
        have hJz : J ⟨true, W3.heap.size, qsA, jsB, i + k, some ⟨za, zc, xl ++ ol⟩⟩ Wz := hT _ _ _ _ hJk.out ⟨TurnR.ofKp0 kWz.out, fun _ => ⟨rfl, rfl, fun q hq => .inl hq⟩, fun e => (by cases e), fun j hj => .inl hj, rfl, .inr ⟨_, rfl, hRk2.out, hzl, fun _ => ⟨hzrow, fun j hj => ⟨hzb2 j hj, fun hm => by have := hjB.out j hm; have := hkB.out.1; have := hzb2 j hj; omega, fun hm => by have := h'.out.ql j hm; have := hkA.out.2.size; have := hzb2 j hj; omega⟩⟩⟩⟩
        obtain ⟨fn, tmps, assign, body, hyl5, hR⟩ := hY _ ⟨za, zc, xl ++ ol⟩ Wz hJz rfl;have hR' : RoundIn (Fence.wide.inRound l0) (n - 1 - 1 - 1) Tryz.prog ly fn tmps assign body Wz _ := RoundIn.anyDepthJ (F := Fence.wide.inRound l0) rfl hR
        have hgo : Hid (∀ A3, KeepR ⟨true, W3.heap.size, qsA, jsB, i + k, some ⟨za, zc, xl ++ ol⟩⟩ Wz A3 → KeepB jsB A2 A3 ∧ KeepR s A A3 ∧ KeepsFrom W3.heap.size A A3) := fun A3 hk3 => by
         have t1 : KeepR s wr Wz := ⟨KeepB.ofKp kWz.out (by simp), fun _ j o _ ho _ => (kWz.out.block j (Array.getElem?_eq_some_iff.1 ho).1 (by simp)).trans ho⟩
         have t2 : KeepR s Wz A3 := ⟨⟨hk3.js.1, fun j hj o ho => hk3.js.2 j (hJA.out j (h'.out.sub j hj)) o ho⟩, fun hm j o hj ho hc => hk3.recs rfl j o (by have := (h'.out.mde hm).1; show W3.heap.size ≤ j; omega) ho hc⟩
         exact ⟨hkB.out.trans ((KeepB.ofKp kWz.out (by simp)).trans hk3.js), (hkA.out.1.trans t1).trans t2, ⟨Nat.le_trans hkA.out.2.size (Nat.le_trans kWz.out.size hk3.js.1), fun j o hj ho hc => by
          have g1 := hkA.out.2.same j o hj ho hc
          have g2 := (kWz.out.block j (Array.getElem?_eq_some_iff.1 g1).1 (by simp)).trans g1
          exact hk3.recs rfl j o hj g2 hc⟩⟩
        have hyl6 := hyl5
        simp only [encR, List.length_append] at hyl6;clear hR hJz hzl hzrow kz hzb hzb2 hyl5 cCt;refine rdI 5 (by kernel_rfl) rfl fun K hK => ?_
        go_simp;refine ⟨fun h => (by cases h), hR'.mono ?_⟩
        rintro e A3 (⟨rfl, hJ3, hk3⟩ | ⟨rfl, hJ3, hk3⟩)
        ·have HG := hid (hgo.out A3 hk3)
         have hJ4 : Hid (J ⟨true, W3.heap.size, qsA, jsB, i + (k + 1), none⟩ A3) := hJ3
         clear hgo hR' hyl6 hJ3 hk3;refine hK _ _ ?_;clear hK K;(try simp only [Act.put, lz]);refine rdI 6 (by kernel_rfl) rfl fun K hK => ?_
         go_simp;refine hK _ _ ?_;clear hK K;(try simp only [Act.put, lz]);refine wpAnyIn_done (by kernel_rfl) ?_ _
         gi_wp2_with fail;go_roundw
         case rel => exact ⟨k + 1, by simp, by omega, hJ4, hid HG.out.1, hid HG.out.2⟩
         case measure => simp [intOf]; omega
        ·have HG := hid (hgo.out A3 hk3)
         have hJ4 := hid hJ3
         clear hgo hR' hyl6 hJ3 hk3;refine hK _ _ ?_;clear hK K;(try simp only [Act.put, lz]);refine rdI 6 (by kernel_rfl) rfl fun K hK => ?_
         go_simp;refine hK _ _ ?_;clear hK K;(try simp only [Act.put, lz]);refine wpAnyIn_done (by kernel_rfl) ?_ _
         gi_wp2_with fail;refine ⟨HG.out.2.2, HG.out.2.1, rfl, Sr.nx ⟨true, W3.heap.size, qsA, jsB, i + k, some ⟨za, zc, xl ++ ol⟩⟩ ⟨za, zc, xl ++ ol⟩, rfl, rfl, h'.out.qsub, h'.out.mde, h'.out.lj, hJ4.out⟩
       ·go_simp
        refine ⟨trivial, fun h => (by cases h), (CallsIn.inRound l0 (callsIn_wide.2 cCt.out)).mono ?_⟩
        rintro e Wz ⟨za, zc, rfl, hzrow, kz, hzb⟩;have c5z := kpAt kz c5b
        refine hK _ _ ?_;clear hK K;(try simp only [Act.put, lz]);refine rdI 0 (by kernel_rfl) rfl fun K hK => ?_
        go_simp;refine hK _ _ ?_;clear hK K;(try simp only [Act.put, lz]);have kWz := hid (KB.out.trans kz (by simp))
        have hzl := rowLies hzrow
        have hzb2 : ∀ j ∈ blk za, wr.heap.size ≤ j := fun j hj => by have := hzb j hj; have := KB.out.size; omega
        have hJz : J ⟨true, W3.heap.size, qsA, jsB, i + k, some ⟨za, zc, xl ++ ol⟩⟩ Wz := hT _ _ _ _ hJk.out ⟨TurnR.ofKp0 kWz.out, fun _ => ⟨rfl, rfl, fun q hq => .inl hq⟩, fun e => (by cases e), fun j hj => .inl hj, rfl, .inr ⟨_, rfl, hRk2.out, hzl, fun _ => ⟨hzrow, fun j hj => ⟨hzb2 j hj, fun hm => by have := hjB.out j hm; have := hkB.out.1; have := hzb2 j hj; omega, fun hm => by have := h'.out.ql j hm; have := hkA.out.2.size; have := hzb2 j hj; omega⟩⟩⟩⟩
        obtain ⟨fn, tmps, assign, body, hyl5, hR⟩ := hY _ ⟨za, zc, xl ++ ol⟩ Wz hJz rfl;have hR' : RoundIn (Fence.wide.inRound l0) (n - 1 - 1 - 1) Tryz.prog ly fn tmps assign body Wz _ := RoundIn.anyDepthJ (F := Fence.wide.inRound l0) rfl hR
        have hgo : Hid (∀ A3, KeepR ⟨true, W3.heap.size, qsA, jsB, i + k, some ⟨za, zc, xl ++ ol⟩⟩ Wz A3 → KeepB jsB A2 A3 ∧ KeepR s A A3 ∧ KeepsFrom W3.heap.size A A3) := fun A3 hk3 => by
         have t1 : KeepR s wr Wz := ⟨KeepB.ofKp kWz.out (by simp), fun _ j o _ ho _ => (kWz.out.block j (Array.getElem?_eq_some_iff.1 ho).1 (by simp)).trans ho⟩
         have t2 : KeepR s Wz A3 := ⟨⟨hk3.js.1, fun j hj o ho => hk3.js.2 j (hJA.out j (h'.out.sub j hj)) o ho⟩, fun hm j o hj ho hc => hk3.recs rfl j o (by have := (h'.out.mde hm).1; show W3.heap.size ≤ j; omega) ho hc⟩
         exact ⟨hkB.out.trans ((KeepB.ofKp kWz.out (by simp)).trans hk3.js), (hkA.out.1.trans t1).trans t2, ⟨Nat.le_trans hkA.out.2.size (Nat.le_trans kWz.out.size hk3.js.1), fun j o hj ho hc => by
          have g1 := hkA.out.2.same j o hj ho hc
          have g2 := (kWz.out.block j (Array.getElem?_eq_some_iff.1 g1).1 (by simp)).trans g1
          exact hk3.recs rfl j o hj g2 hc⟩⟩
        have hyl6 := hyl5
        simp only [encR, List.length_append] at hyl6;clear hR hJz hzl hzrow kz hzb hzb2 hyl5 cCt;refine rdI 5 (by kernel_rfl) rfl fun K hK => ?_
        go_simp;refine ⟨fun h => (by cases h), hR'.mono ?_⟩
        rintro e A3 (⟨rfl, hJ3, hk3⟩ | ⟨rfl, hJ3, hk3⟩)
        ·have HG := hid (hgo.out A3 hk3)
         have hJ4 : Hid (J ⟨true, W3.heap.size, qsA, jsB, i + (k + 1), none⟩ A3) := hJ3
         clear hgo hR' hyl6 hJ3 hk3;refine hK _ _ ?_;clear hK K;(try simp only [Act.put, lz]);refine rdI 6 (by kernel_rfl) rfl fun K hK => ?_
         go_simp;refine hK _ _ ?_;clear hK K;(try simp only [Act.put, lz]);refine wpAnyIn_done (by kernel_rfl) ?_ _
         gi_wp2_with fail;go_roundw
         case rel => exact ⟨k + 1, by simp, by omega, hJ4, hid HG.out.1, hid HG.out.2⟩
         case measure => simp [intOf]; omega
        ·have HG := hid (hgo.out A3 hk3)
         have hJ4 := hid hJ3
         clear hgo hR' hyl6 hJ3 hk3;refine hK _ _ ?_;clear hK K;(try simp only [Act.put, lz]);refine rdI 6 (by kernel_rfl) rfl fun K hK => ?_
         go_simp;refine hK _ _ ?_;clear hK K;(try simp only [Act.put, lz]);refine wpAnyIn_done (by kernel_rfl) ?_ _
         gi_wp2_with fail;refine ⟨HG.out.2.2, HG.out.2.1, rfl, Sr.nx ⟨true, W3.heap.size, qsA, jsB, i + k, some ⟨za, zc, xl ++ ol⟩⟩ ⟨za, zc, xl ++ ol⟩, rfl, rfl, h'.out.qsub, h'.out.mde, h'.out.lj, hJ4.out⟩
   ·obtain rfl : k = m := by omega
    have dj1 : ¬ (k : Int) < (k : Int) := by omega
    have dj2 : decide ((k : Int) < (k : Int)) = false := by simp
    gi_wp2_with fail;refine ⟨hkA.out.2, hkA.out.1, jsB, qsA, i + k, hJk.out, fun j hj => hJA.out j (h'.out.sub j hj), hMB.out, h'.out.qsub, hmr.out, hRe.out, hiR.out, Nat.le_trans h'.out.size hkA.out.2.size, h'.out.mde, h'.out.lj, fun x hx => (by cases hx), fun j hj => Nat.lt_of_lt_of_le (hjB.out j hj) hkB.out.1, fun q hq => Nat.lt_of_lt_of_le (h'.out.ql q hq) hkA.out.2.size⟩
 case done =>
  rintro D s X hD ⟨hmd, hsi, hsp⟩ ⟨jsA, qsA, i, h⟩ hrec
  have hie : i = RJ.length := by
   have := h.rel
   rw [hsi, List.drop_length, List.flatMap_nil] at this;have := congrArg List.length this
   rw [List.length_drop, List.length_nil] at this;have := h.il
   omega
  have hJD := hT _ _ _ _ h.j (StepR.same rfl rfl (TurnR.ofGrown (grownBy_putObj' X D (.deferred none)) (fun r e => by cases e; exact ⟨hD, _, hrec, rfl⟩)))
  gi_wp2_with fail;rw [Exit.noGoto_normal];refine ⟨by simp, .inl ⟨_, _, rfl, run_takeDeferred hrec, ?_⟩⟩
  exact ⟨_, results_none rfl _ _ _, ⟨_, rfl⟩, .inl ⟨_, ⟨rfl, hie, rfl⟩, hJD⟩⟩
 case stop =>
  rintro D c s X hD hsm ⟨rfl, h⟩ hrec;obtain ⟨s2, h1, h2, h3, h4, h5, h6⟩ := h;have hJD := hX _ _ _ h6 ⟨h1, TurnR.ofGrown (grownBy_putObj' X D (.deferred none)) (fun r e => by cases e; exact ⟨by rw [h2]; exact hD, _, hrec, rfl⟩)⟩
  gi_wp2_with fail;rw [Exit.noGoto_normal];refine ⟨by simp, .inl ⟨_, _, rfl, run_takeDeferred hrec, ?_⟩⟩
  exact ⟨_, results_none rfl _ _ _, ⟨_, rfl⟩, .inr ⟨s2, h1, hJD⟩⟩
theorem cJoinE (gl gr : Nat) (lbl lbr : Array Value) (lo ro : Int) (w : World) : Calls Tryz.prog 55 #[.func (.func gl) #[] lbl, .func (.func gr) #[] lbr, .int .i64 lo, .int .i64 ro] w fun e w' => e = .returned (.func (.func 96) #[] #[.pointer (some ⟨w.heap.size + 1, 0, none⟩), .pointer (some ⟨w.heap.size + 3, 0, none⟩), .pointer (some ⟨w.heap.size, 0, none⟩), .pointer (some ⟨w.heap.size + 2, 0, none⟩)]) ∧
  w' = (((w.alloc (.cells #[.func (.func gl) #[] lbl] 123)).alloc (.cells #[.func (.func gr) #[] lbr] 123)).alloc (.cells #[.int .i64 lo] 3)).alloc (.cells #[.int .i64 ro] 3) := by
 go_enter Tryz.func55, Tryz.ntmps55
 go_wp2_with fail;go_returns;exact ⟨rfl, rfl⟩
theorem cTell0 (a : Option Addr) (n c : Nat) (col : Int) (w : World) : Calls Tryz.prog 167 #[.slice a n c, .agg #[.int .i64 0, .int .i64 col]] w fun e w' => e = .returned (.agg #[.int .i64 2, .bool false, .int .i64 (n : Int), .string ⟨#[]⟩]) ∧ Kp [] w w' := by
 obtain ⟨w1, hw1, k1, b1⟩ : ∃ w1, w.alloc (.cells #[.int .i64 0, .int .i64 col] 102) = w1 ∧ Kp [] w w1 ∧ Bn w1 w.heap.size [.int .i64 0, .int .i64 col] := ⟨_, rfl, (Kp.refl _ _).alloc _, Bn.new w _ _⟩
 obtain ⟨w2, hw2, k2, b2⟩ : ∃ w2, w1.alloc (.cells #[.int .i64 0, .bool false, .int .i64 0, .string ⟨#[]⟩] 88) = w2 ∧ Kp [] w1 w2 ∧ Bn w2 w1.heap.size [.int .i64 0, .bool false, .int .i64 0, .string ⟨#[]⟩] := ⟨_, rfl, (Kp.refl _ _).alloc _, Bn.new w1 _ _⟩
 obtain ⟨q3, hq3⟩ : ∃ q, w.heap.size = q := ⟨_, rfl⟩
 obtain ⟨q4, hq4⟩ : ∃ q, Hid (w1.heap.size = q) := ⟨_, rfl⟩
 rw [hq3] at b1;rw [hq4.out] at b2;have b12 := b1.kept k2
 have a0 := b12.get 0 _ rfl
 have a1 := b12.get 1 _ rfl
 have cI := hid (cIntE (n : Int) w2)
 have H2 := hid (And.intro b2 (And.intro (k1.trans k2 (by simp)) k1.size))
 have hq4' := hq4.out
 clear b1 b2 b12 k1 k2;go_enter Tryz.func167, Tryz.ntmps167
 go_wp2_with fail;refine cI.out.mono ?_;rintro e w3 ⟨rfl, k3⟩;have b3 := H2.out.1.kept k3
 have m0 := b3.get 0 _ rfl; have m1 := b3.get 1 _ rfl; have m2 := b3.get 2 _ rfl; have m3 := b3.get 3 _ rfl
 have f0 := b3.free 0; have f1 := b3.free 1; have f2 := b3.free 2; have f3 := b3.free 3
 have hh : q4 ∈ ([] : List Nat) ∨ w.heap.size ≤ q4 := .inr (by rw [← hq4.out]; exact H2.out.2.2)
 obtain ⟨w4, e4, b4, k4⟩ : ∃ W2, (((w3.setCell ⟨q4, 0, none⟩ (.int .i64 2)).setCell ⟨q4, 1, none⟩ (.bool false)).setCell ⟨q4, 2, none⟩ (.int .i64 (n : Int))).setCell ⟨q4, 3, none⟩ (.string ⟨#[]⟩) = W2 ∧ Bn W2 q4 [.int .i64 2, .bool false, .int .i64 (n : Int), .string ⟨#[]⟩] ∧ Kp [] w W2 :=
  ⟨_, rfl, (((b3.set 0 (by simp) (.int .i64 2)).set 1 (by simp) (.bool false)).set 2 (by simp) (.int .i64 (n : Int))).set 3 (by simp) (.string ⟨#[]⟩), (((((H2.out.2.1.trans k3 (by simp)).setCell hh _).setCell hh _).setCell hh _).setCell hh _)⟩
 have v0 := b4.get 0 _ rfl; have v1 := b4.get 1 _ rfl; have v2 := b4.get 2 _ rfl; have v3 := b4.get 3 _ rfl
 have K4 := hid k4
 clear b3 b4 k4 k3 cI H2 hh;go_wp2_with fail;exact bodyPost_ret (v := .agg #[.int .i64 2, .bool false, .int .i64 (n : Int), .string ⟨#[]⟩]) (by simp [results, Tryz.results167, go_sem, v0, v1, v2, v3]) rfl ⟨rfl, K4.out⟩
def AgE : El (Int × Int) where
 n := 2
 c x := [.int .i64 x.1, .int .i64 x.2]
 len _ := rfl
 one _ u hu := by simp at hu; rcases hu with rfl | rfl <;> rfl
 pos := by decide
theorem agAt {w : World} {a : Option Addr} {l : List (Int × Int)} (h : AgE.See w a l) (j : Nat) (hj : j < l.length) : ∃ g o, a = some ⟨g, o, none⟩ ∧ w.cell? ⟨g, o + j * 2, none⟩ = some (.int .i64 l[j].1) ∧ w.cell? ⟨g, o + j * 2 + 1, none⟩ = some (.int .i64 l[j].2) := by
 obtain ⟨g, o, e, hc⟩ := h.at (j := j) (x := l[j]) (by simp [hj])
 exact ⟨g, o, e, hc 0 _ rfl, hc 1 _ rfl⟩
theorem boxAg (w : World) (x y : Int) : ∃ q W1 W2, w.heap.size = q ∧ w.alloc (.cells #[.int .i64 0, .int .i64 0] 102) = W1 ∧ Bn W1 q [.int .i64 0, .int .i64 0] ∧ (W1.setCell ⟨q, 0, none⟩ (.int .i64 x)).setCell ⟨q, 1, none⟩ (.int .i64 y) = W2 ∧ Bn W2 q [.int .i64 x, .int .i64 y] ∧ Kp [] w W2 := by
 have b0 := Bn.new w [.int .i64 0, .int .i64 0] 102
 have k0 : Kp [] w (w.alloc (.cells #[.int .i64 0, .int .i64 0] 102)) := (Kp.refl _ _).alloc _
 have h : w.heap.size ∈ ([] : List Nat) ∨ w.heap.size ≤ w.heap.size := .inr (Nat.le_refl _)
 exact ⟨_, _, _, rfl, rfl, b0, rfl, (b0.set 0 (by simp) (.int .i64 x)).set 1 (by simp) (.int .i64 y), (k0.setCell h _).setCell h _⟩
theorem cTold (ka : Option Addr) (kc : Nat) (key : List Val) (ma : Option Addr) (mn mc : Nat) (ga : Option Addr) (gc : Nat) (gs : List (Int × Int)) (tv : Int × Int → Val) (w : World) (hk : (⟨ka, kc, key⟩ : Vs).lies w) (hg : AgE.See w ga gs) (hkl : key.length + gs.length ≤ 3000000000000)
  (ht : ∀ g ∈ gs, ∀ W, Kp [] w W → Calls Tryz.prog 167 #[.slice ma mn mc, .agg #[.int .i64 g.1, .int .i64 g.2]] W fun e w' => e = .returned (.agg #[.int .i64 (tv g).k, .bool (tv g).b, .int .i64 (tv g).n, .string (tv g).t]) ∧ Kp [] W w') :
  Calls Tryz.prog 143 #[.slice ka key.length kc, .slice ma mn mc, .slice ga gs.length gc] w (NewR (key ++ gs.map tv) w) := by
 have cC := hid (cCloneR ka kc key w hk.see hk.nil (by omega))
 have HG := hid hg
 have HT := hid ht
 clear hg ht hk;go_enter Tryz.func143, Tryz.ntmps143
 go_wp2_with fail;refine cC.out.mono ?_;rintro e w0 ⟨ya, yc, rfl, hyr, ky, hyb⟩;have H0 := hid (And.intro hyr (And.intro ky hyb))
 clear cC hyr ky hyb;go_wp2_with fail;go_loopw [7, 14] (fun v7 i wr => ∃ (j : Nat) (ra : Option Addr) (rc : Nat) (m : List Val), j ≤ gs.length ∧ i = .int .i64 (j : Int) ∧ v7 = .slice ra m.length rc ∧ Hid (m = key ++ (gs.take j).map tv) ∧ Hid (VE.Row wr (.slice ra m.length rc) m ∧ Kp [] w wr ∧ ∀ k ∈ blk ra, w.heap.size ≤ k)) (fun _ i _ => gs.length - (intOf i).toNat)
 case atStart => exact ⟨0, ya, yc, key, Nat.zero_le _, rfl, rfl, by simp [hid], H0⟩
 case round =>
  obtain ⟨j, ra, rc, m, hj, rfl, rfl, hm, H⟩ := hrel;clear H0
  by_cases hlt : j < gs.length
  ·obtain ⟨g, o, ea, c0, c1⟩ := agAt HG.out j hlt
   have cg0 := kpAt H.out.2.1 c0
   have cg1 := kpAt H.out.2.1 c1
   have htk : Hid ((gs.take (j + 1)).map tv = (gs.take j).map tv ++ [tv gs[j]]) := by show _ = _; rw [List.take_succ_eq_append_getElem hlt, List.map_append]; rfl
   have hT := hid (HT.out gs[j] (List.getElem_mem hlt))
   obtain ⟨x, hx⟩ : ∃ x, Hid (gs[j] = x) := ⟨gs[j], rfl⟩
   rw [hx.out] at cg0 cg1 htk hT;obtain ⟨x1, x2⟩ := x;dsimp only at cg0 cg1 hT;obtain ⟨q9, B1, B2, eq9, e1, b1, e2, b2, kb⟩ := boxAg wr x1 x2;have m0 := b1.get 0 _ rfl; have m1 := b1.get 1 _ rfl
   have f0 := b1.free 0; have f1 := b1.free 1
   have v0 := b2.get 0 _ rfl; have v1 := b2.get 1 _ rfl
   have cT := hid (hT.out B2 (H.out.2.1.trans kb (by simp)))
   obtain ⟨⟨tk, tb, tn, tt⟩, htv⟩ : ∃ v, Hid (tv (x1, x2) = v) := ⟨tv (x1, x2), rfl⟩
   rw [htv.out] at cT htk;dsimp only at cT;have hml : m.length ≤ 3000000000000 := by rw [hm.out]; simp; omega
   have i1 : (0 : Int) ≤ (j : Int) := by omega
   have i2 : (j : Int) < (gs.length : Int) := by omega
   have i3 : (j : Int) + 1 ≤ 9223372036854775807 := by omega
   have KB := hid kb
   subst ea;clear c0 c1 b1 b2 kb;go_wp2_with fail;refine cT.out.mono ?_;rintro e wd ⟨rfl, kd⟩;have kbd := KB.out.trans kd (by simp)
   obtain ⟨a4, c4, W4, hrun, hr4, k4, hn4⟩ := appV1 (H.out.1.keptNew kbd) ⟨tk, tb, tn, tt⟩ hml;obtain ⟨m4, hm4⟩ : ∃ m4, Hid (m ++ [(⟨tk, tb, tn, tt⟩ : Val)] = m4) := ⟨_, rfl⟩
   rw [hm4.out] at hrun hr4;dsimp only at hrun;have kwd := H.out.2.1.trans kbd (by simp)
   have HF : Hid (VE.Row W4 (.slice a4 m4.length c4) m4 ∧ Kp [] w W4 ∧ ∀ k ∈ blk a4, w.heap.size ≤ k) := ⟨hr4, kwd.trans k4 (fun x hx => .inr (H.out.2.2 x hx)), fun k hk => by
    rcases hn4 k hk with e | e
    ·exact H.out.2.2 k e
    ·have := kwd.size; omega⟩
   have hm5 : Hid (m4 = key ++ (gs.take (j + 1)).map tv) := by show _ = _; rw [htk.out, ← List.append_assoc, ← hm.out, hm4.out]
   clear cT kd hr4 k4 hn4 kwd kbd m0 m1 f0 f1 v0 v1;go_wp2_with (first | (refine wpAppRunY rfl _ _ 61 61 rfl _ _ _ rfl rfl hrun ?_) | fail)
   go_roundw
   case rel => exact ⟨j + 1, a4, c4, m4, by omega, by go_num, rfl, hm5, HF⟩
   case measure => simp [intOf]; omega
  ·have hmm : m = key ++ gs.map tv := by rw [hm.out, show j = gs.length by omega, List.take_length]
   have dj1 : ¬ (j : Int) < (gs.length : Int) := by omega
   have dj2 : decide ((j : Int) < (gs.length : Int)) = false := by simp; omega
   have hmm' := hid hmm
   clear hmm;go_wp2_with fail;go_ret;rw [← hmm'.out];exact ⟨ra, rc, rfl, H.out.1, H.out.2.1, H.out.2.2⟩
end Go.Proofs.YtcgkkofmnajedaaGreatDoor
end

section
namespace Go.Proofs.YtcgkkofmnajedaaGreatDoor
open Go.RowKit Go.Hay
attribute [local go_sem] Oper.semAt_some
end Go.Proofs.YtcgkkofmnajedaaGreatDoor
end

section
namespace Go.Proofs.YtcgkkofmnajedaaGreatDoor
open Go.RowKit Go.Hay
attribute [local go_sem] Oper.semAt_some
theorem infoIY : ∃ i : TypeInfo, Tryz.prog.info? 3 = some i ∧ i.zero = some (.int .i64 0) ∧ i.size = 1 ∧ i.bytes = 8 := by
 have h : (Tryz.prog.info? 3).map (fun i => (i.zero, i.size, i.bytes)) = some (some (.int .i64 0), 1, 8) := by kernel_rfl
 cases e : Tryz.prog.info? 3 with
 | none => rw [e] at h; cases h
 | some i =>
  rw [e] at h;simp at h
  exact ⟨i, rfl, h.1, h.2.1, h.2.2⟩
theorem eqNilIY (a : Option Addr) (n c : Nat) (w : World) : (binOp .eql 27 (.slice a n c) (.slice none 0 0)).run Tryz.prog w = .ok (.bool a.isNone) w := by
 simp only [binOp];simp [run_equal_slice_nil w 27 3 a n c Tryz.underlying27]
def NewIY (l : List (Int)) (w : World) (e : Ending) (w' : World) : Prop := ∃ a c, e = .returned (.slice a l.length c) ∧ IntE.Row w' (.slice a l.length c) l ∧ Kp [] w w' ∧ ∀ k ∈ blk a, w.heap.size ≤ k
theorem cCloneIY (a : Option Addr) (c : Nat) (l : List (Int)) (w : World) (hs : IntE.See w a l) (hn : a = none → c = 0) (hb : l.length ≤ 3600000000000) :
  Calls Tryz.prog 139 #[.slice a l.length c] w (NewIY l w) := by
 cases a with
 | none =>
  have hl : l = [] := by rcases hs with h | ⟨g, o, h, _⟩; exact h; cases h
  subst hl;rw [hn rfl];have e1 := eqNilIY none 0 0
  go_enter Tryz.func139, Tryz.ntmps139
  go_wp2_with fail;go_ret;exact ⟨none, 0, rfl, .inl ⟨rfl, rfl⟩, Kp.refl _ _, by simp [blk]⟩
 | some ad =>
  have e0 := eqNilIY (some ad) l.length c
  go_enter Tryz.func139, Tryz.ntmps139
  have k1 : Kp [] w (w.alloc (.cells #[] 3)) := (Kp.refl _ _).alloc _
  have hr := rowNoneY IntE w rfl #[] 3
  have hsr := (hs.keptNew k1).src (P := Tryz.prog) Tryz.underlying27 c
  obtain ⟨i0, hi, hz0, hz1, hz2⟩ := infoIY;go_wp2_with (first | (refine wpAppG (E := IntE) rfl _ _ 27 27 3 rfl i0 _ 8 Tryz.underlying27 hi hz0 hz1 hz2 rfl _ [] rfl hr _ l rfl hsr (by simp; omega) (by simp; omega) ?_; intro ys a' c' w' hy hrow hg hn) | fail)
  go_ret;have e : ys = l := by rw [hy.out]; rfl
  subst e;refine ⟨a', c', rfl, hrow, k1.trans hg (fun k hk => .inr ?_), fun k hk => ?_⟩
  ·simp [own, Value.ownBlock, Act.eval] at hk; omega
  ·rcases hn k hk with h1 | h1
   ·simp [own, Value.ownBlock, Act.eval] at h1; omega
   ·exact Nat.le_trans k1.size h1
theorem infoAY : ∃ i : TypeInfo, Tryz.prog.info? 102 = some i ∧ i.zero = some (.agg #[.int .i64 0, .int .i64 0]) ∧ i.size = 2 ∧ i.bytes = 16 := by
 have h : (Tryz.prog.info? 102).map (fun i => (i.zero, i.size, i.bytes)) = some (some (.agg #[.int .i64 0, .int .i64 0]), 2, 16) := by kernel_rfl
 cases e : Tryz.prog.info? 102 with
 | none => rw [e] at h; cases h
 | some i =>
  rw [e] at h;simp at h
  exact ⟨i, rfl, h.1, h.2.1, h.2.2⟩
theorem eqNilAY (a : Option Addr) (n c : Nat) (w : World) : (binOp .eql 28 (.slice a n c) (.slice none 0 0)).run Tryz.prog w = .ok (.bool a.isNone) w := by
 simp only [binOp];simp [run_equal_slice_nil w 28 102 a n c Tryz.underlying28]
def NewAY (l : List (Int × Int)) (w : World) (e : Ending) (w' : World) : Prop := ∃ a c, e = .returned (.slice a l.length c) ∧ AgE.Row w' (.slice a l.length c) l ∧ Kp [] w w' ∧ ∀ k ∈ blk a, w.heap.size ≤ k
theorem cCloneAY (a : Option Addr) (c : Nat) (l : List (Int × Int)) (w : World) (hs : AgE.See w a l) (hn : a = none → c = 0) (hb : l.length ≤ 3600000000000) :
  Calls Tryz.prog 140 #[.slice a l.length c] w (NewAY l w) := by
 cases a with
 | none =>
  have hl : l = [] := by rcases hs with h | ⟨g, o, h, _⟩; exact h; cases h
  subst hl;rw [hn rfl];have e1 := eqNilAY none 0 0
  go_enter Tryz.func140, Tryz.ntmps140
  go_wp2_with fail;go_ret;exact ⟨none, 0, rfl, .inl ⟨rfl, rfl⟩, Kp.refl _ _, by simp [blk]⟩
 | some ad =>
  have e0 := eqNilAY (some ad) l.length c
  go_enter Tryz.func140, Tryz.ntmps140
  have k1 : Kp [] w (w.alloc (.cells #[] 102)) := (Kp.refl _ _).alloc _
  have hr := rowNoneY AgE w rfl #[] 102
  have hsr := (hs.keptNew k1).src (P := Tryz.prog) Tryz.underlying28 c
  obtain ⟨i0, hi, hz0, hz1, hz2⟩ := infoAY;go_wp2_with (first | (refine wpAppG (E := AgE) rfl _ _ 28 28 102 rfl i0 _ 16 Tryz.underlying28 hi hz0 hz1 hz2 rfl _ [] rfl hr _ l rfl hsr (by simp; omega) (by simp; omega) ?_; intro ys a' c' w' hy hrow hg hn) | fail)
  go_ret;have e : ys = l := by rw [hy.out]; rfl
  subst e;refine ⟨a', c', rfl, hrow, k1.trans hg (fun k hk => .inr ?_), fun k hk => ?_⟩
  ·simp [own, Value.ownBlock, Act.eval] at hk; omega
  ·rcases hn k hk with h1 | h1
   ·simp [own, Value.ownBlock, Act.eval] at h1; omega
   ·exact Nat.le_trans k1.size h1
def GrpP (g : Nat) (lb : Array Value) (bs : List Int) (gs : List (Int × Int)) (w : World) (e : Ending) (w' : World) : Prop := ∃ (q3 q4 q5 : Nat) (a4 : Option Addr) (c4 : Nat) (a5 : Option Addr) (c5 : Nat), e = .returned (.func (.func 141) #[] #[.pointer (some ⟨q3, 0, none⟩), .pointer (some ⟨q4, 0, none⟩), .pointer (some ⟨q5, 0, none⟩)]) ∧ w'.cell? ⟨q3, 0, none⟩ = some (.func (.func g) #[] lb) ∧ w'.cell? ⟨q4, 0, none⟩ = some (.slice a4 bs.length c4) ∧ w'.cell? ⟨q5, 0, none⟩ = some (.slice a5 gs.length c5) ∧ IntE.Row w' (.slice a4 bs.length c4) bs ∧ AgE.Row w' (.slice a5 gs.length c5) gs ∧ w.heap.size ≤ q3 ∧ w.heap.size ≤ q4 ∧ w.heap.size ≤ q5 ∧ (∀ k ∈ blk a4, w.heap.size ≤ k) ∧ (∀ k ∈ blk a5, w.heap.size ≤ k) ∧ Kp [] w w'
theorem cGroupE (g : Nat) (lb : Array Value) (ba : Option Addr) (bc : Nat) (bs : List Int) (ga : Option Addr) (gc : Nat) (gs : List (Int × Int)) (w : World) (hb : IntE.See w ba bs) (hbn : ba = none → bc = 0) (hbl : bs.length ≤ 3600000000000) (hg : AgE.See w ga gs) (hgn : ga = none → gc = 0) (hgl : gs.length ≤ 3600000000000) :
  Calls Tryz.prog 100 #[.func (.func g) #[] lb, .slice ba bs.length bc, .slice ga gs.length gc] w (GrpP g lb bs gs w) := by
 obtain ⟨w1, hw1, k1, b1⟩ : ∃ w1, w.alloc (.cells #[.func (.func g) #[] lb] 123) = w1 ∧ Kp [] w w1 ∧ Bn w1 w.heap.size [.func (.func g) #[] lb] := ⟨_, rfl, (Kp.refl _ _).alloc _, Bn.new w _ _⟩
 obtain ⟨w2, hw2, k2, b2⟩ : ∃ w2, w1.alloc (.cells #[.slice ba bs.length bc] 27) = w2 ∧ Kp [] w1 w2 ∧ Bn w2 w1.heap.size [.slice ba bs.length bc] := ⟨_, rfl, (Kp.refl _ _).alloc _, Bn.new w1 _ _⟩
 obtain ⟨w3, hw3, k3, b3⟩ : ∃ w3, w2.alloc (.cells #[.slice ga gs.length gc] 28) = w3 ∧ Kp [] w2 w3 ∧ Bn w3 w2.heap.size [.slice ga gs.length gc] := ⟨_, rfl, (Kp.refl _ _).alloc _, Bn.new w2 _ _⟩
 obtain ⟨q3, hq3⟩ : ∃ q, Hid (w.heap.size = q) := ⟨_, rfl⟩
 obtain ⟨q4, hq4⟩ : ∃ q, Hid (w1.heap.size = q) := ⟨_, rfl⟩
 obtain ⟨q5, hq5⟩ : ∃ q, Hid (w2.heap.size = q) := ⟨_, rfl⟩
 rw [hq3.out] at b1;rw [hq4.out] at b2;rw [hq5.out] at b3;have hq3' := hq3.out
 have hq4' := hq4.out
 have hq5' := hq5.out
 have b13 := (b1.kept k2).kept k3
 have b23 := b2.kept k3
 have kw := (k1.trans k2 (by simp)).trans k3 (by simp)
 have HZ : Hid (w.heap.size ≤ q3 ∧ q3 < q4 ∧ q4 < q5 ∧ q5 < w3.heap.size) := ⟨by rw [← hq3.out]; exact Nat.le_refl _, by rw [← hq4.out]; exact b1.lt (by simp), by rw [← hq5.out]; exact b2.lt (by simp), b3.lt (by simp)⟩
 have KW := hid kw
 have hc : Hid (∀ W, Kp [] w3 W → W.cell? ⟨q3, 0, none⟩ = some (.func (.func g) #[] lb) ∧ W.cell? ⟨q5, 0, none⟩ = some (.slice ga gs.length gc) ∧ W.cell? ⟨q4, 0, none⟩ = some (.slice ba bs.length bc) ∧ W.frozen? ⟨q4, 0, none⟩ = false ∧ W.frozen? ⟨q5, 0, none⟩ = false) := fun W k => ⟨(b13.kept k).get 0 _ rfl, (b3.kept k).get 0 _ rfl, (b23.kept k).get 0 _ rfl, (b23.kept k).free 0, (b3.kept k).free 0⟩
 have cI : Hid (∀ W, Kp [] w3 W → Calls Tryz.prog 139 #[.slice ba bs.length bc] W (NewIY bs W)) := fun W k => cCloneIY ba bc bs W (hb.keptNew (kw.trans k (by simp))) hbn hbl
 have cA : Hid (∀ W, Kp [] w3 W → Calls Tryz.prog 140 #[.slice ga gs.length gc] W (NewAY gs W)) := fun W k => cCloneAY ga gc gs W (hg.keptNew (kw.trans k (by simp))) hgn hgl
 clear k1 k2 k3 b1 b2 b3 b13 b23 kw hb hg;go_enter Tryz.func100, Tryz.ntmps100
 go_wp2_with fail;refine wp_noPanicY ?_;refine wp_region_held_drew (S := fun A => True) (by kernel_rfl) trivial (fun _ => ?_)
 have KD : Hid (Kp [] w3 w3.drew) := hid (Kp.refl _ _).drew
 generalize w3.drew = wd at *
 have d5 := (hc.out wd KD.out).2.1
 have d4 := (hc.out wd KD.out).2.2.1
 refine wpAnyH_ready (rs := [0, 2]) (by kernel_rfl) (by simp) ?_
 refine AllReadyH.cons rfl (fun K hK => ?_) (AllReadyH.cons rfl (fun K hK => ?_) AllReadyH.nil)
 ·go_simp
  (try go_wp2_with fail);refine hK.out _ _ trivial (fun _ => ?_)
  clear hK K;(try simp only [Act.put, lz]);refine wpAnyH_ready (rs := [1, 2]) (by kernel_rfl) (by simp) ?_
  refine AllReadyH.cons rfl (fun K hK => ?_) (AllReadyH.cons rfl (fun K hK => ?_) AllReadyH.nil)
  ·go_simp
   refine (cI.out _ KD.out).mono ?_;rintro e W5 ⟨a4, c4, rfl, hI5, k5, hn5⟩;(try go_wp2_with fail);refine hK.out _ _ trivial (fun _ => ?_)
   clear hK K;(try simp only [Act.put, lz]);have K5 := hid (KD.out.trans k5 (by simp))
   have e5 := (hc.out W5 K5.out).2.1
   refine rdH 2 (by kernel_rfl) rfl fun K hK => ?_
   go_simp;(try go_wp2_with fail);refine hK.out _ _ trivial (fun _ => ?_)
   clear hK K;(try simp only [Act.put, lz]);refine rdH 3 (by kernel_rfl) rfl fun K hK => ?_
   go_simp;refine (cA.out _ K5.out).mono ?_;rintro e W6 ⟨a5, c5, rfl, hA6, k6, hn6⟩;(try go_wp2_with fail);refine hK.out _ _ trivial (fun _ => ?_)
   clear hK K;(try simp only [Act.put, lz]);have hz0 := HZ.out
   have K6 := hid (K5.out.trans k6 (by simp))
   obtain ⟨g3, g5, g4, gf4, gf5⟩ := hc.out W6 K6.out;have k47 : Kp [q4] W6 (W6.setCell ⟨q4, 0, none⟩ (.slice a4 bs.length c4)) := (Kp.refl _ _).setCell (by simp) _
   have x4 : (W6.setCell ⟨q4, 0, none⟩ (.slice a4 bs.length c4)).cell? ⟨q4, 0, none⟩ = some (.slice a4 bs.length c4) := World.cell?_setCell_same _ _ _ g4
   have x5 : (W6.setCell ⟨q4, 0, none⟩ (.slice a4 bs.length c4)).cell? ⟨q5, 0, none⟩ = some (.slice ga gs.length gc) := (k47.cell (p := ⟨q5, 0, none⟩) (World.block_lt_of_cell? _ _ g5) (by simp; omega)).trans g5
   have x3 : (W6.setCell ⟨q4, 0, none⟩ (.slice a4 bs.length c4)).cell? ⟨q3, 0, none⟩ = some (.func (.func g) #[] lb) := (k47.cell (p := ⟨q3, 0, none⟩) (World.block_lt_of_cell? _ _ g3) (by simp; omega)).trans g3
   have xf : (W6.setCell ⟨q4, 0, none⟩ (.slice a4 bs.length c4)).frozen? ⟨q5, 0, none⟩ = false := by rw [World.frozen?_setCell]; exact gf5
   obtain ⟨W7, hW7⟩ : ∃ Y, W6.setCell ⟨q4, 0, none⟩ (.slice a4 bs.length c4) = Y := ⟨_, rfl⟩
   rw [hW7] at k47 x4 x5 x3 xf;have k78 : Kp [q5] W7 (W7.setCell ⟨q5, 0, none⟩ (.slice a5 gs.length c5)) := (Kp.refl _ _).setCell (by simp) _
   have hF : Hid (GrpP g lb bs gs w (.returned (.func (.func 141) #[] #[.pointer (some ⟨q3, 0, none⟩), .pointer (some ⟨q4, 0, none⟩), .pointer (some ⟨q5, 0, none⟩)])) (W7.setCell ⟨q5, 0, none⟩ (.slice a5 gs.length c5))) := by
    have hz := HZ.out
    have zD := KD.out.size
    have z5 := K5.out.size
    have r4 : IntE.Row (W7.setCell ⟨q5, 0, none⟩ (.slice a5 gs.length c5)) (.slice a4 bs.length c4) bs := ((hI5.keptNew k6).kept k47 (fun j hj hm => by rw [ownV] at hj; simp at hm; have := hn5 j hj; omega)).kept k78 (fun j hj hm => by rw [ownV] at hj; simp at hm; have := hn5 j hj; omega)
    have r5 : AgE.Row (W7.setCell ⟨q5, 0, none⟩ (.slice a5 gs.length c5)) (.slice a5 gs.length c5) gs := (hA6.kept k47 (fun j hj hm => by rw [ownV] at hj; simp at hm; have := hn6 j hj; omega)).kept k78 (fun j hj hm => by rw [ownV] at hj; simp at hm; have := hn6 j hj; omega)
    exact ⟨q3, q4, q5, a4, c4, a5, c5, rfl, (k78.cell (p := ⟨q3, 0, none⟩) (World.block_lt_of_cell? _ _ x3) (by simp; omega)).trans x3, (k78.cell (p := ⟨q4, 0, none⟩) (World.block_lt_of_cell? _ _ x4) (by simp; omega)).trans x4, World.cell?_setCell_same _ _ _ x5, r4, r5, by omega, by omega, by omega, fun k hk => by have := hn5 k hk; omega, fun k hk => by have := hn6 k hk; omega, ((KW.out.trans K6.out (by simp)).trans k47 (fun x hx => .inr (by simp at hx; omega))).trans k78 (fun x hx => .inr (by simp at hx; omega))⟩
   clear hI5 hA6 k5 k6 hn5 hn6 k47 k78 g3 hz0;refine rdH 4 (by kernel_rfl) rfl fun K hK => ?_
   go_simp;(try go_wp2_with fail);refine hK.out _ _ trivial (fun _ => ?_)
   clear hK K;(try simp only [Act.put, lz]);refine rdH 5 (by kernel_rfl) rfl fun K hK => ?_
   go_simp;(try go_wp2_with fail);refine hK.out _ _ trivial (fun _ => ?_)
   clear hK K;(try simp only [Act.put, lz]);refine wpAnyH_done (by kernel_rfl) ⟨rfl, ?_⟩ _
   go_wp2_with fail;go_ret;exact hF.out
  ·go_simp
   (try go_wp2_with fail);refine hK.out _ _ trivial (fun _ => ?_)
   clear hK K;(try simp only [Act.put, lz]);refine rdH 1 (by kernel_rfl) rfl fun K hK => ?_
   go_simp;refine (cI.out _ KD.out).mono ?_;rintro e W5 ⟨a4, c4, rfl, hI5, k5, hn5⟩;(try go_wp2_with fail);refine hK.out _ _ trivial (fun _ => ?_)
   clear hK K;(try simp only [Act.put, lz]);have K5 := hid (KD.out.trans k5 (by simp))
   have e5 := (hc.out W5 K5.out).2.1
   refine rdH 3 (by kernel_rfl) rfl fun K hK => ?_
   go_simp;refine (cA.out _ K5.out).mono ?_;rintro e W6 ⟨a5, c5, rfl, hA6, k6, hn6⟩;(try go_wp2_with fail);refine hK.out _ _ trivial (fun _ => ?_)
   clear hK K;(try simp only [Act.put, lz]);have hz0 := HZ.out
   have K6 := hid (K5.out.trans k6 (by simp))
   obtain ⟨g3, g5, g4, gf4, gf5⟩ := hc.out W6 K6.out;have k47 : Kp [q4] W6 (W6.setCell ⟨q4, 0, none⟩ (.slice a4 bs.length c4)) := (Kp.refl _ _).setCell (by simp) _
   have x4 : (W6.setCell ⟨q4, 0, none⟩ (.slice a4 bs.length c4)).cell? ⟨q4, 0, none⟩ = some (.slice a4 bs.length c4) := World.cell?_setCell_same _ _ _ g4
   have x5 : (W6.setCell ⟨q4, 0, none⟩ (.slice a4 bs.length c4)).cell? ⟨q5, 0, none⟩ = some (.slice ga gs.length gc) := (k47.cell (p := ⟨q5, 0, none⟩) (World.block_lt_of_cell? _ _ g5) (by simp; omega)).trans g5
   have x3 : (W6.setCell ⟨q4, 0, none⟩ (.slice a4 bs.length c4)).cell? ⟨q3, 0, none⟩ = some (.func (.func g) #[] lb) := (k47.cell (p := ⟨q3, 0, none⟩) (World.block_lt_of_cell? _ _ g3) (by simp; omega)).trans g3
   have xf : (W6.setCell ⟨q4, 0, none⟩ (.slice a4 bs.length c4)).frozen? ⟨q5, 0, none⟩ = false := by rw [World.frozen?_setCell]; exact gf5
   obtain ⟨W7, hW7⟩ : ∃ Y, W6.setCell ⟨q4, 0, none⟩ (.slice a4 bs.length c4) = Y := ⟨_, rfl⟩
   rw [hW7] at k47 x4 x5 x3 xf;have k78 : Kp [q5] W7 (W7.setCell ⟨q5, 0, none⟩ (.slice a5 gs.length c5)) := (Kp.refl _ _).setCell (by simp) _
   have hF : Hid (GrpP g lb bs gs w (.returned (.func (.func 141) #[] #[.pointer (some ⟨q3, 0, none⟩), .pointer (some ⟨q4, 0, none⟩), .pointer (some ⟨q5, 0, none⟩)])) (W7.setCell ⟨q5, 0, none⟩ (.slice a5 gs.length c5))) := by
    have hz := HZ.out
    have zD := KD.out.size
    have z5 := K5.out.size
    have r4 : IntE.Row (W7.setCell ⟨q5, 0, none⟩ (.slice a5 gs.length c5)) (.slice a4 bs.length c4) bs := ((hI5.keptNew k6).kept k47 (fun j hj hm => by rw [ownV] at hj; simp at hm; have := hn5 j hj; omega)).kept k78 (fun j hj hm => by rw [ownV] at hj; simp at hm; have := hn5 j hj; omega)
    have r5 : AgE.Row (W7.setCell ⟨q5, 0, none⟩ (.slice a5 gs.length c5)) (.slice a5 gs.length c5) gs := (hA6.kept k47 (fun j hj hm => by rw [ownV] at hj; simp at hm; have := hn6 j hj; omega)).kept k78 (fun j hj hm => by rw [ownV] at hj; simp at hm; have := hn6 j hj; omega)
    exact ⟨q3, q4, q5, a4, c4, a5, c5, rfl, (k78.cell (p := ⟨q3, 0, none⟩) (World.block_lt_of_cell? _ _ x3) (by simp; omega)).trans x3, (k78.cell (p := ⟨q4, 0, none⟩) (World.block_lt_of_cell? _ _ x4) (by simp; omega)).trans x4, World.cell?_setCell_same _ _ _ x5, r4, r5, by omega, by omega, by omega, fun k hk => by have := hn5 k hk; omega, fun k hk => by have := hn6 k hk; omega, ((KW.out.trans K6.out (by simp)).trans k47 (fun x hx => .inr (by simp at hx; omega))).trans k78 (fun x hx => .inr (by simp at hx; omega))⟩
   clear hI5 hA6 k5 k6 hn5 hn6 k47 k78 g3 hz0;refine rdH 4 (by kernel_rfl) rfl fun K hK => ?_
   go_simp;(try go_wp2_with fail);refine hK.out _ _ trivial (fun _ => ?_)
   clear hK K;(try simp only [Act.put, lz]);refine rdH 5 (by kernel_rfl) rfl fun K hK => ?_
   go_simp;(try go_wp2_with fail);refine hK.out _ _ trivial (fun _ => ?_)
   clear hK K;(try simp only [Act.put, lz]);refine wpAnyH_done (by kernel_rfl) ⟨rfl, ?_⟩ _
   go_wp2_with fail;go_ret;exact hF.out
 ·go_simp
  (try go_wp2_with fail);refine hK.out _ _ trivial (fun _ => ?_)
  clear hK K;(try simp only [Act.put, lz]);refine rdH 0 (by kernel_rfl) rfl fun K hK => ?_
  go_simp;(try go_wp2_with fail);refine hK.out _ _ trivial (fun _ => ?_)
  clear hK K;(try simp only [Act.put, lz]);refine rdH 1 (by kernel_rfl) rfl fun K hK => ?_
  go_simp;refine (cI.out _ KD.out).mono ?_;rintro e W5 ⟨a4, c4, rfl, hI5, k5, hn5⟩;(try go_wp2_with fail);refine hK.out _ _ trivial (fun _ => ?_)
  clear hK K;(try simp only [Act.put, lz]);have K5 := hid (KD.out.trans k5 (by simp))
  have e5 := (hc.out W5 K5.out).2.1
  refine rdH 3 (by kernel_rfl) rfl fun K hK => ?_
  go_simp;refine (cA.out _ K5.out).mono ?_;rintro e W6 ⟨a5, c5, rfl, hA6, k6, hn6⟩;(try go_wp2_with fail);refine hK.out _ _ trivial (fun _ => ?_)
  clear hK K;(try simp only [Act.put, lz]);have hz0 := HZ.out
  have K6 := hid (K5.out.trans k6 (by simp))
  obtain ⟨g3, g5, g4, gf4, gf5⟩ := hc.out W6 K6.out;have k47 : Kp [q4] W6 (W6.setCell ⟨q4, 0, none⟩ (.slice a4 bs.length c4)) := (Kp.refl _ _).setCell (by simp) _
  have x4 : (W6.setCell ⟨q4, 0, none⟩ (.slice a4 bs.length c4)).cell? ⟨q4, 0, none⟩ = some (.slice a4 bs.length c4) := World.cell?_setCell_same _ _ _ g4
  have x5 : (W6.setCell ⟨q4, 0, none⟩ (.slice a4 bs.length c4)).cell? ⟨q5, 0, none⟩ = some (.slice ga gs.length gc) := (k47.cell (p := ⟨q5, 0, none⟩) (World.block_lt_of_cell? _ _ g5) (by simp; omega)).trans g5
  have x3 : (W6.setCell ⟨q4, 0, none⟩ (.slice a4 bs.length c4)).cell? ⟨q3, 0, none⟩ = some (.func (.func g) #[] lb) := (k47.cell (p := ⟨q3, 0, none⟩) (World.block_lt_of_cell? _ _ g3) (by simp; omega)).trans g3
  have xf : (W6.setCell ⟨q4, 0, none⟩ (.slice a4 bs.length c4)).frozen? ⟨q5, 0, none⟩ = false := by rw [World.frozen?_setCell]; exact gf5
  obtain ⟨W7, hW7⟩ : ∃ Y, W6.setCell ⟨q4, 0, none⟩ (.slice a4 bs.length c4) = Y := ⟨_, rfl⟩
  rw [hW7] at k47 x4 x5 x3 xf;have k78 : Kp [q5] W7 (W7.setCell ⟨q5, 0, none⟩ (.slice a5 gs.length c5)) := (Kp.refl _ _).setCell (by simp) _
  have hF : Hid (GrpP g lb bs gs w (.returned (.func (.func 141) #[] #[.pointer (some ⟨q3, 0, none⟩), .pointer (some ⟨q4, 0, none⟩), .pointer (some ⟨q5, 0, none⟩)])) (W7.setCell ⟨q5, 0, none⟩ (.slice a5 gs.length c5))) := by
   have hz := HZ.out
   have zD := KD.out.size
   have z5 := K5.out.size
   have r4 : IntE.Row (W7.setCell ⟨q5, 0, none⟩ (.slice a5 gs.length c5)) (.slice a4 bs.length c4) bs := ((hI5.keptNew k6).kept k47 (fun j hj hm => by rw [ownV] at hj; simp at hm; have := hn5 j hj; omega)).kept k78 (fun j hj hm => by rw [ownV] at hj; simp at hm; have := hn5 j hj; omega)
   have r5 : AgE.Row (W7.setCell ⟨q5, 0, none⟩ (.slice a5 gs.length c5)) (.slice a5 gs.length c5) gs := (hA6.kept k47 (fun j hj hm => by rw [ownV] at hj; simp at hm; have := hn6 j hj; omega)).kept k78 (fun j hj hm => by rw [ownV] at hj; simp at hm; have := hn6 j hj; omega)
   exact ⟨q3, q4, q5, a4, c4, a5, c5, rfl, (k78.cell (p := ⟨q3, 0, none⟩) (World.block_lt_of_cell? _ _ x3) (by simp; omega)).trans x3, (k78.cell (p := ⟨q4, 0, none⟩) (World.block_lt_of_cell? _ _ x4) (by simp; omega)).trans x4, World.cell?_setCell_same _ _ _ x5, r4, r5, by omega, by omega, by omega, fun k hk => by have := hn5 k hk; omega, fun k hk => by have := hn6 k hk; omega, ((KW.out.trans K6.out (by simp)).trans k47 (fun x hx => .inr (by simp at hx; omega))).trans k78 (fun x hx => .inr (by simp at hx; omega))⟩
  clear hI5 hA6 k5 k6 hn5 hn6 k47 k78 g3 hz0;refine rdH 4 (by kernel_rfl) rfl fun K hK => ?_
  go_simp;(try go_wp2_with fail);refine hK.out _ _ trivial (fun _ => ?_)
  clear hK K;(try simp only [Act.put, lz]);refine rdH 5 (by kernel_rfl) rfl fun K hK => ?_
  go_simp;(try go_wp2_with fail);refine hK.out _ _ trivial (fun _ => ?_)
  clear hK K;(try simp only [Act.put, lz]);refine wpAnyH_done (by kernel_rfl) ⟨rfl, ?_⟩ _
  go_wp2_with fail;go_ret;exact hF.out
structure Mb where
 k : Vs
 r : Vs
instance : Inhabited Mb := ⟨⟨default, default⟩⟩
def MbE : El Mb where
 n := 2
 c x := [.slice x.k.a x.k.l.length x.k.c, .slice x.r.a x.r.l.length x.r.c]
 len _ := rfl
 one _ u hu := by simp at hu; rcases hu with rfl | rfl <;> rfl
 pos := by decide
def Mb.bs (x : Mb) : List Nat := blk x.k.a ++ blk x.r.a
def Mb.pr (x : Mb) : List Val × List Val := (x.k.l, x.r.l)
def mbR (bs : List Int) (R : List (List Val)) : List (List Val × List Val) := R.map fun l => (pickV l bs, l)
theorem mbR_snoc (bs : List Int) (R : List (List Val)) (i : Nat) (l : List Val) (h : R[i]? = some l) : mbR bs (R.take (i + 1)) = mbR bs (R.take i) ++ [(pickV l bs, l)] := by
 rw [List.take_add_one, h];simp [mbR]
structure Mb.lies (w : World) (x : Mb) : Prop where
 k : x.k.lies w
 r : x.r.lies w
theorem Mb.lies.ck {P : Nat → Prop} {X Y : World} {x : Mb} (hx : Mb.lies X x) (h : CK P X Y) (hP : ∀ k ∈ x.bs, P k) : Mb.lies Y x := ⟨hx.k.ck h (fun k hk => hP k (by simp [Mb.bs, hk])), hx.r.ck h (fun k hk => hP k (by simp [Mb.bs, hk]))⟩
theorem mbAt {w : World} {a : Option Addr} {l : List Mb} (h : MbE.See w a l) (j : Nat) (hj : j < l.length) : ∃ g o, a = some ⟨g, o, none⟩ ∧ w.cell? ⟨g, o + j * 2, none⟩ = some (.slice l[j].k.a l[j].k.l.length l[j].k.c) ∧ w.cell? ⟨g, o + j * 2 + 1, none⟩ = some (.slice l[j].r.a l[j].r.l.length l[j].r.c) := by
 obtain ⟨g, o, e, hc⟩ := h.at (j := j) (x := l[j]) (by simp [hj])
 exact ⟨g, o, e, hc 0 _ rfl, hc 1 _ rfl⟩
structure Lom (N : Nat) (ra : Option Addr) (rc : Nat) (L : List Mb) (W : World) : Prop where
 row : MbE.Row W (.slice ra L.length rc) L
 lies : ∀ x ∈ L, Mb.lies W x
 own : ∀ k ∈ blk ra, N ≤ k
 rows : ∀ x ∈ L, ∀ k ∈ x.bs, N ≤ k ∧ k < W.heap.size ∧ k ∉ blk ra
theorem Lom.nil (N : Nat) (W : World) : Lom N none 0 [] W := ⟨.inl ⟨rfl, rfl⟩, by simp, by simp [blk], by simp⟩
theorem Lom.ck {N : Nat} {ra : Option Addr} {rc : Nat} {L : List Mb} {P : Nat → Prop} {X Y : World} (h : Lom N ra rc L X) (k : CK P X Y) (h1 : ∀ k ∈ blk ra, P k) (h2 : ∀ x ∈ L, ∀ k ∈ x.bs, P k) : Lom N ra rc L Y :=
 ⟨ckRow k h.row h1, fun x hx => (h.lies x hx).ck k (h2 x hx), h.own, fun x hx j hj => ⟨(h.rows x hx j hj).1, Nat.lt_of_lt_of_le (h.rows x hx j hj).2.1 k.1, (h.rows x hx j hj).2.2⟩⟩
theorem Lom.lt {N : Nat} {ra : Option Addr} {rc : Nat} {L : List Mb} {X : World} (h : Lom N ra rc L X) : ∀ k ∈ blk ra, k < X.heap.size := fun k hk => h.row.lt k (by rw [ownV]; exact hk)
theorem Lom.mono {N M : Nat} {ra : Option Addr} {rc : Nat} {L : List Mb} {X : World} (h : Lom N ra rc L X) (hm : M ≤ N) : Lom M ra rc L X :=
 ⟨h.row, h.lies, fun k hk => Nat.le_trans hm (h.own k hk), fun x hx k hk => ⟨Nat.le_trans hm (h.rows x hx k hk).1, (h.rows x hx k hk).2⟩⟩
theorem infoMb : ∃ i : TypeInfo, Tryz.prog.info? 206 = some i ∧ i.zero = some (.agg #[.slice none 0 0, .slice none 0 0]) ∧ i.size = 2 ∧ i.bytes = 48 := by
 have h : (Tryz.prog.info? 206).map (fun i => (i.zero, i.size, i.bytes)) = some (some (.agg #[.slice none 0 0, .slice none 0 0]), 2, 48) := by kernel_rfl
 cases e : Tryz.prog.info? 206 with
 | none => rw [e] at h; cases h
 | some i =>
  rw [e] at h;simp at h
  exact ⟨i, rfl, h.1, h.2.1, h.2.2⟩
theorem Lom.app {N : Nat} {ra : Option Addr} {rc : Nat} {L : List Mb} {w : World} (h : Lom N ra rc L w) (x : Mb) (hx : Mb.lies w x) (hN : N ≤ w.heap.size) (hb : ∀ k ∈ x.bs, N ≤ k ∧ k < w.heap.size ∧ k ∉ blk ra) (hl : L.length ≤ 4000000000000) :
  ∃ a' c' W', (Builtin.append_ #[201, 201] 201 #[.slice ra L.length rc, .slice (some ⟨w.heap.size, 0, none⟩) 1 1]).run Tryz.prog (w.alloc (.cells #[.slice x.k.a x.k.l.length x.k.c, .slice x.r.a x.r.l.length x.r.c] 206)) = .ok (.slice a' (L ++ [x]).length c') W' ∧ Lom N a' c' (L ++ [x]) W' ∧ Kp (blk ra) w W' ∧ ∀ k ∈ blk a', k ∈ blk ra ∨ w.heap.size ≤ k := by
 obtain ⟨A1, hA1⟩ : ∃ A1, w.alloc (.cells #[.slice x.k.a x.k.l.length x.k.c, .slice x.r.a x.r.l.length x.r.c] 206) = A1 := ⟨_, rfl⟩
 have kA1 : Kp [] w A1 := by rw [← hA1]; exact (Kp.refl _ _).alloc _
 have bx1 : Bn A1 w.heap.size (MbE.c x) := by rw [← hA1]; exact Bn.new w (MbE.c x) _
 have hs1 : MbE.See A1 (some ⟨w.heap.size, 0, none⟩) [x] := .inr ⟨w.heap.size, 0, rfl, fun j u hu => by rw [Nat.zero_add]; exact bx1.get j u (by simpa [El.cs] using hu)⟩
 obtain ⟨i0, hi, hz0', hz1', hz2'⟩ := infoMb;have hsr := hs1.src (P := Tryz.prog) Tryz.underlying201 1
 obtain ⟨v', A2, hrun, hrow2, k2, hn2⟩ := run_appendG (E := MbE) (P := Tryz.prog) A1 201 201 201 206 i0 _ 48 Tryz.underlying201 hi hz0' hz1' hz2' rfl (.slice ra L.length rc) L (h.row.keptNew kA1) _ [x] hsr (by simp only [List.length_cons, List.length_nil]; omega) (by simp only [List.length_cons, List.length_nil]; omega)
 obtain ⟨a', c', rfl, _⟩ := hrow2.see;simp only [ownV] at k2 hn2;rw [hA1];have z1 := kA1.size
 have kw : Kp (blk ra) w A2 := (kA1.mono (by simp)).trans k2 (fun j hj => .inl hj)
 have hnew : ∀ k ∈ blk a', k ∈ blk ra ∨ w.heap.size ≤ k := fun k hk => by
  rcases hn2 k hk with e | e
  ·exact .inl e
  ·exact .inr (by omega)
 have ck := CK.ofKp kw
 refine ⟨a', c', A2, hrun, ⟨hrow2, fun y hy => ?_, fun k hk => ?_, fun y hy k hk => ?_⟩, kw, hnew⟩
 ·rcases List.mem_append.1 hy with hy | hy
  ·exact (h.lies y hy).ck ck (fun k hk => (h.rows y hy k hk).2.2)
  ·rw [List.mem_singleton.1 hy]; exact hx.ck ck (fun k hk => (hb k hk).2.2)
 ·rcases hnew k hk with e | e
  ·exact h.own k e
  ·omega
 ·have h0 : N ≤ k ∧ k < w.heap.size ∧ k ∉ blk ra := by
   rcases List.mem_append.1 hy with hy | hy
   ·exact h.rows y hy k hk
   ·rw [List.mem_singleton.1 hy] at hk; exact hb k hk
  refine ⟨h0.1, Nat.lt_of_lt_of_le h0.2.1 kw.size, fun hm => ?_⟩
  rcases hnew k hm with e | e
  ·exact h0.2.2 e
  ·omega
structure GamJ (w1 : World) (q3 : Nat) (R : List (List Val)) (bs : List Int) (s : Sr) (W : World) (ra : Option Addr) (rc : Nat) (L : List Mb) : Prop where
 co : CoR w1 [q3] s W
 box : W.cell? ⟨q3, 0, none⟩ = some (.slice ra L.length rc)
 free : W.frozen? ⟨q3, 0, none⟩ = false
 lot : Lom w1.heap.size ra rc L W
 took : L.map Mb.pr = mbR bs (R.take s.i)
 ne : ∀ k ∈ blk ra, k ∉ s.js ∧ k ∉ s.qs
 nes : ∀ x ∈ L, ∀ k ∈ x.bs, k ∉ s.qs
 nil : L = [] → ra = none
 pend : ∀ x, s.p = some x → R[s.i]? = some x.l ∧ x.lies W
def GamI (w1 : World) (q3 : Nat) (R : List (List Val)) (bs : List Int) (s : Sr) (W : World) : Prop := ∃ ra rc L, GamJ w1 q3 R bs s W ra rc L
theorem GamI.own {w1 : World} {q3 : Nat} {R : List (List Val)} {bs : List Int} : OwnFrom w1.heap.size (GamI w1 q3 R bs) := fun s X Y row ⟨ra, rc, L, h⟩ hg hr => by
 have ck := CK.ofGrown hg (fun r e => (hr r e).2)
 obtain ⟨h1, h2⟩ := ck.2 _ _ trivial h.box
 exact ⟨ra, rc, L, h.co.grown hg hr, h1, h2.trans h.free, h.lot.ck ck (fun _ _ => trivial) (fun _ _ _ _ => trivial), h.took, h.ne, h.nes, h.nil, fun x hx => by
  obtain ⟨p1, p2⟩ := h.pend x hx;exact ⟨p1, p2.ck ck (fun _ _ => trivial)⟩⟩
theorem GamI.step {w1 : World} {q3 : Nat} {fr : Bool} {R : List (List Val)} {bs : List Int} (hq : q3 < w1.heap.size) {s s' : Sr} {A B : World} (hz : w1.heap.size + 2 ≤ A.heap.size) (h : GamI w1 q3 R bs s A) (ht : StepR fr R s s' A B) : GamI w1 q3 R bs s' B := by
 obtain ⟨ra, rc, L, h⟩ := h;have co := h.co.step (by simpa using hq) hz ht
 have hqs : ∀ k, k < A.heap.size → k ∉ s.qs → k ∉ s'.qs := fun k hk hn hm => by
  cases hs : s.made with
  | true => rcases (ht.stays hs).2.2 k hm with e | e; exact hn e; omega
  | false => have := ((ht.makes hs).2.2 k hm).1; omega
 have hq3 : q3 ∉ s'.qs := fun hm => by
  have hm' : s'.made = true := by
   cases hs : s.made with
   | true => exact (ht.stays hs).1
   | false => exact (ht.makes hs).1
  have := (co.mde hm').2 q3 hm
  omega
 have ck := CK.ofTurn ht.turn
 obtain ⟨h1, h2⟩ := ck.2 _ _ hq3 h.box;have hlt := h.lot.lt
 refine ⟨ra, rc, L, co, h1, h2.trans h.free, h.lot.ck ck (fun k hk => hqs k (hlt k hk) (h.ne k hk).2) (fun x hx k hk => hqs k (h.lot.rows x hx k hk).2.1 (h.nes x hx k hk)), by rw [ht.on]; exact h.took, fun k hk => ⟨fun hm => ?_, hqs k (hlt k hk) (h.ne k hk).2⟩, fun x hx k hk => hqs k (h.lot.rows x hx k hk).2.1 (h.nes x hx k hk), h.nil, fun x hx => ?_⟩
 ·rcases ht.js k hm with e | e
  ·exact (h.ne k hk).1 e
  ·have := hlt k hk; omega
 ·rcases ht.given with e | ⟨y, e, hy, hl, hf⟩
  ·rw [e] at hx; cases hx
  ·rw [e] at hx
   cases hx
   exact ⟨by rw [ht.on]; exact hy, hl⟩
end Go.Proofs.YtcgkkofmnajedaaGreatDoor
end

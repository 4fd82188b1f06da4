/- What the proof stands on: contracts of functions that the statement calls, and plain lemmas. No statement of the seat is proved here. -/
import Derived.Test.YtcgkkofmnajedaaGreatDoorB3
import Derived.Test.YtcgkkofmnajedaaGreatDoorB10
import Derived.Test.YtcgkkofmnajedaaGreatDoorB8
import Derived.Test.YtcgkkofmnajedaaGreatDoorB2
import Derived.Test.YtcgkkofmnajedaaGreatDoorB1
import Derived.Deep.RegionHeld3
set_option maxHeartbeats 64000000
set_option maxRecDepth 100000
set_option linter.unusedVariables false
set_option linter.unusedSimpArgs false
section
namespace Go.Proofs.YtcgkkofmnajedaaGreatDoor
open Go.RowKit Go.Hay
attribute [local go_sem] Oper.semAt_some
theorem wpAppRunInY {F : Fence} {n : Nat} {P : Program} {w w' : World} {ops : Array Oper} {rest : List Oper} {o : Oper} {a : Act} {Q : Exit → Act → World → Prop} (hgd : o.guard = none) (s x : Operand) (t tx : TypeId)
  (ho : o.op = .call { callee := .builtin .append, args := #[s, x], argTypes := #[t, tx] }) (v xv v' : Value) (hv : a.eval s = v) (hx : a.eval x = xv)
  (hrun : (Builtin.append_ #[t, tx] o.type #[v, xv]).run P w = .ok v' w') (h : wpListIn F n P ops Q rest (a.put o.dst v') w') : wpListIn F n P ops Q (o :: rest) a w := by
 refine wpListIn_plain hgd fun K hK' => ?_
 unfold Oper.wpIn
 refine ⟨?_, ?_⟩
 ·simp [Oper.about, ho, resolve, Target.leads, Sem.run_pure]
 ·rw [Oper.semAt_plain F _ _ (by rw [ho]; intro c hc'; cases hc')]
  simp [execOp, ho, resolve, invoke, builtin, hv, hx, hrun, Result.andThen]
  exact hK' _ _ h
structure SclJ (w1 : World) (q3 : Nat) (R : List (List Val)) (s : Sr) (W : World) (ra : Option Addr) (rc : Nat) (L : List Vs) : Prop where
 co : CoR w1 [q3] s W
 box : W.cell? ⟨q3, 0, none⟩ = some (.slice ra L.length rc)
 free : W.frozen? ⟨q3, 0, none⟩ = false
 lot : Lot w1.heap.size ra rc L W
 took : L.map (·.l) = R.take s.i
 ne : ∀ k ∈ blk ra, k ∉ s.js ∧ k ∉ s.qs
 nes : ∀ x ∈ L, ∀ k ∈ blk x.a, k ∉ s.qs
 nil : L = [] → ra = none
 pend : ∀ x, s.p = some x → R[s.i]? = some x.l ∧ VE.Row W (.slice x.a x.l.length x.c) x.l ∧ ∀ k ∈ blk x.a, w1.heap.size + 2 ≤ k ∧ k ∉ blk ra ∧ k ∉ s.qs
def SclI (w1 : World) (q3 : Nat) (R : List (List Val)) (s : Sr) (W : World) : Prop := ∃ ra rc L, SclJ w1 q3 R s W ra rc L
theorem SclI.own {w1 : World} {q3 : Nat} {R : List (List Val)} : OwnFrom w1.heap.size (SclI w1 q3 R) := fun s X Y row ⟨ra, rc, L, h⟩ hg hr => by
 have ck := CK.ofGrown hg (fun r e => (hr r e).2)
 obtain ⟨h1, h2⟩ := ck.2 _ _ trivial h.box
 exact ⟨ra, rc, L, h.co.grown hg hr, h1, h2.trans h.free, h.lot.ck ck (fun _ _ => trivial) (fun _ _ _ _ => trivial), h.took, h.ne, h.nes, h.nil, fun x hx => by
  obtain ⟨p1, p2, p3⟩ := h.pend x hx;exact ⟨p1, ckRow ck p2 (fun _ _ => trivial), p3⟩⟩
theorem SclI.step {w1 : World} {q3 : Nat} {R : List (List Val)} (hq : q3 < w1.heap.size) {s s' : Sr} {A B : World} (hz : w1.heap.size + 2 ≤ A.heap.size) (h : SclI w1 q3 R s A) (ht : StepR true R s s' A B) : SclI w1 q3 R s' B := by
 obtain ⟨ra, rc, L, h⟩ := h;have co := h.co.step (by simpa using hq) hz ht
 have hqs : ∀ k, k < A.heap.size → k ∉ s.qs → k ∉ s'.qs := fun k hk hn hm => by
  cases hs : s.made with
  | true => rcases (ht.stays hs).2.2 k hm with e | e; exact hn e; omega
  | false => have := ((ht.makes hs).2.2 k hm).1; omega
 have hq3 : q3 ∉ s'.qs := fun hm => by
  have hm' : s'.made = true := by
   cases hs : s.made with
   | true => exact (ht.stays hs).1
   | false => exact (ht.makes hs).1
  have := (co.mde hm').2 q3 hm
  omega
 have ck := CK.ofTurn ht.turn
 obtain ⟨h1, h2⟩ := ck.2 _ _ hq3 h.box;have hlt := h.lot.lt
 refine ⟨ra, rc, L, co, h1, h2.trans h.free, h.lot.ck ck (fun k hk => hqs k (hlt k hk) (h.ne k hk).2) (fun x hx k hk => hqs k (h.lot.rows x hx k hk).2.1 (h.nes x hx k hk)), by rw [ht.on]; exact h.took, fun k hk => ⟨fun hm => ?_, hqs k (hlt k hk) (h.ne k hk).2⟩, fun x hx k hk => hqs k (h.lot.rows x hx k hk).2.1 (h.nes x hx k hk), h.nil, fun x hx => ?_⟩
 ·rcases ht.js k hm with e | e
  ·exact (h.ne k hk).1 e
  ·have := hlt k hk; omega
 ·rcases ht.given with e | ⟨y, e, hy, hl, hf⟩
  ·rw [e] at hx; cases hx
  ·rw [e] at hx
   cases hx
   obtain ⟨hr, hb⟩ := hf rfl;exact ⟨by rw [ht.on]; exact hy, hr, fun k hk => ⟨by have := (hb k hk).1; omega, fun hm => by have := hlt k hm; have := (hb k hk).1; omega, (hb k hk).2.2⟩⟩
theorem cAppSeqR (d : Nat) (hd : 3 ≤ d) (g : Nat) (lb : Array Value) (R : List (List Val)) (js : List Nat) (w : World) (heg : ∀ args w, (callFunc g args).run Tryz.prog w = .ok (.enter g args) w) (hseq : RowSeq true (d - 1) g lb R js w) (hjs : ∀ j ∈ js, j < w.heap.size) (hR : R.length ≤ 4000000000000) :
  CallsIn Fence.wide d Tryz.prog 108 #[.slice none 0 0, .func (.func g) #[] lb] w (LotP R w) := by
 obtain ⟨w1, hw1, k1, b1⟩ : ∃ w1, w.alloc (.cells #[.slice none 0 0] 60) = w1 ∧ Kp [] w w1 ∧ Bn w1 w.heap.size [.slice none 0 0] := ⟨_, rfl, (Kp.refl _ _).alloc _, Bn.new w _ _⟩
 obtain ⟨q3, hq3⟩ : ∃ q, Hid (w.heap.size = q) := ⟨_, hid rfl⟩
 rw [hq3.out] at b1;have hq31 : q3 < w1.heap.size := b1.lt (by simp)
 have hz1 : w1.heap.size = w.heap.size + 1 := by rw [← hw1]; simp
 have hI0 : SclI w1 q3 R ⟨false, 0, [], js, 0, none⟩ w1 := ⟨none, 0, [], ⟨rfl, rfl, rfl, Nat.le_refl _, fun _ _ _ => rfl, fun h => (by cases h), fun j hj => ⟨by have := hjs j hj; have := hq3.out; simp; omega, by have := hjs j hj; omega, by have := hjs j hj; omega⟩, fun j hj => by have := hjs j hj; omega, by simp⟩, b1.get 0 _ rfl, b1.free 0, Lot.nil _ _, rfl, by simp [blk], by simp, fun _ => rfl, fun x hx => (by cases hx)⟩
 have HI0 := hid hI0
 have HK1 := hid k1
 have HSQ := hid hseq
 have hz1' := hid hz1
 have hKR : Hid (KeepR ⟨false, 0, [], js, 0, none⟩ w w1) := hid ⟨KeepB.ofKp k1 (by simp), fun h => (by cases h)⟩
 clear hI0 k1 b1 hseq hjs hz1;refine callsIn_of_wp_marks Tryz.func108 rfl trivial ?_ rfl;simp only [Tryz.ntmps108, List.size_toArray, List.length_cons, List.length_nil, Nat.reduceAdd, Nat.reduceSub, Array.replicate_succ, Array.replicate_zero, List.push_toArray, List.append_toArray, List.nil_append, List.cons_append];refine wpIn_wide.2 ?_;have hq3' := hq3.out
 go_wp2_with fail;clear hq3';refine (wpIn_wide (n := d)).1 ?_
 refine wpRangeX rfl (by omega) (gf := g) (lb := lb) rfl trivial heg
  HSQ.out (fun _ => rfl) KeepR.trans (fun s W o => KeepR.alloc s W o) hKR.out
  (SclI w1 q3 R) (fun _ _ _ => False) SclI.own (fun _ _ _ _ _ h _ _ => h) HI0.out
  (fun s s' A B ⟨_, _, _, h⟩ ht k o hk ho => h.co.keeps ht k o hk ho) (fun _ _ _ _ h => h.elim) (fun s s' A B hz h ht => h.step hq31 hz ht) (fun _ _ _ _ h => h.elim)
  (fun s W o' ⟨_, _, _, h⟩ => h.co.recs o') (fun s x W o' ⟨_, _, _, h⟩ => CoR.recs (S := [q3]) (s := s) ⟨h.co.os, h.co.tape, h.co.output, h.co.size, h.co.low, h.co.mde, h.co.js, h.co.jl, h.co.ql⟩ o') (fun _ _ _ _ _ h => h.elim)
  (fun x => { tmps := #[.slice none 0 0, .func (.func g) #[] lb, .pointer (some ⟨q3, 0, none⟩), undef, .slice none 0 0, .slice x.a x.l.length x.c, .func (.func g) #[] lb, .slice x.a x.l.length x.c, undef, undef, undef, undef, undef], defers := [] }) ?assign ?body ?done ?stop
 case assign =>
  intro l x W C hC
  gi_wp2_with fail;exact hC
 case body =>
  rintro l0 s ⟨xa, xc, xl⟩ W ⟨ra, rc, L, h⟩ hp;obtain ⟨hRi, hxr, hxb⟩ := h.pend _ hp;dsimp only at hRi hxr hxb ⊢;have hiR : s.i < R.length := (List.getElem?_eq_some_iff.1 hRi).1
  have hLi : L.length = s.i := by
   have h1 := congrArg List.length h.took
   rw [List.length_map, List.length_take] at h1;omega
  have hLl : L.length ≤ 4000000000000 := by omega
  have c3 := h.box
  have h' := hid h
  have hxlt : ∀ k ∈ blk xa, k < W.heap.size := fun k hk => hxr.lt k (by rw [ownV]; exact hk)
  obtain ⟨ra4, rc4, W4, hrun, hl4, k4, hra4⟩ := h.lot.app ⟨xa, xc, xl⟩ (rowLies hxr) h.co.size (fun k hk => ⟨by have := (hxb k hk).1; omega, hxlt k hk, (hxb k hk).2.1⟩) hLl
  obtain ⟨L4, hL4⟩ : ∃ L4, Hid (L4 = L ++ [(⟨xa, xc, xl⟩ : Vs)]) := ⟨_, hid rfl⟩
  rw [← hL4.out] at hrun hl4;dsimp only at hrun;have hq3ra : q3 ∉ blk ra := fun hm => by have := h.lot.own q3 hm; omega
  have c3A : (W.alloc (.cells #[.slice xa xl.length xc] 61)).cell? ⟨q3, 0, none⟩ = some (.slice ra L.length rc) := kpAt ((Kp.refl _ _).alloc _) c3
  obtain ⟨c3W, f3W⟩ := (CK.ofKp k4).2 ⟨q3, 0, none⟩ _ hq3ra c3;have f3 : W4.frozen? ⟨q3, 0, none⟩ = false := f3W.trans h.free
  have HE : Hid (∀ A, leftX w1.heap.size KeepR (SclI w1 q3 R) (fun _ _ _ => False) s (s.nx ⟨xa, xc, xl⟩) W .normal A (W4.setCell ⟨q3, 0, none⟩ (.slice ra4 L4.length rc4))) := hid fun A => by
   have kS : Kp [q3] W4 (W4.setCell ⟨q3, 0, none⟩ (.slice ra4 L4.length rc4)) := (Kp.refl _ _).setCell (by simp) _
   have ckS := CK.ofKp kS
   have kT : Kp (q3 :: blk ra) W (W4.setCell ⟨q3, 0, none⟩ (.slice ra4 L4.length rc4)) := (k4.mono (fun j hj => by simp [hj])).trans kS (fun j hj => .inl (by simp at hj; simp [hj]))
   obtain ⟨r1, r2, r3⟩ := h.co.round (x := ⟨xa, xc, xl⟩) kT (fun k hk => by
    rcases List.mem_cons.1 hk with rfl | hk
    ·exact cellCel h.box
    ·refine rowCel h.lot.row (fun e => ?_) k hk
     rw [h.nil e] at hk;simp [blk] at hk) (fun k hk => by
    rcases List.mem_cons.1 hk with rfl | hk
    ·exact .inl (by simp)
    ·exact .inr (h.lot.own k hk)) (fun k hk => by
    rcases List.mem_cons.1 hk with rfl | hk
    ·exact fun hm => (h.co.js k hm).1 (by simp)
    ·exact (h.ne k hk).1)
   refine ⟨r1, r2, ra4, rc4, L4, r3, World.cell?_setCell_same _ _ _ c3W, by rw [World.frozen?_setCell]; exact f3, hl4.ck ckS (fun k hk hm => ?_) (fun x hx k hk hm => ?_), ?_, fun k hk => ?_, fun x hx k hk => ?_, fun e => (by rw [hL4.out] at e; simp at e), fun x hx => (by cases hx)⟩
   ·simp at hm
    have := hl4.own k hk
    omega
   ·simp at hm
    have := (hl4.rows x hx k hk).1
    omega
   ·show _ = R.take (s.i + 1)
    rw [List.take_add_one, hRi, hL4.out, List.map_append, h.took];rfl
   ·rcases hra4 k hk with e | e
    ·exact h.ne k e
    ·exact ⟨fun hm => by have := h.co.jl k hm; omega, fun hm => by have := h.co.ql k hm; omega⟩
   ·rw [hL4.out] at hx
    rcases List.mem_append.1 hx with hx | hx
    ·exact h.nes x hx k hk
    ·rw [List.mem_singleton.1 hx] at hk
     exact (hxb k hk).2.2
  have hrun' := hid hrun
  clear h hRi hxr hxb hxlt hl4 k4 hra4 f3W hrun hLi;gi_wp2_with (first | (refine wpAppRunInY rfl _ _ 60 60 rfl _ _ _ rfl rfl hrun'.out ?_) | fail)
  exact HE.out _
 case done =>
  rintro D s X hD ⟨hmd, hsi, hsp⟩ ⟨ra, rc, L, h⟩ hrec;have hLr : L.map (·.l) = R := by rw [h.took, hsi, List.take_length]
  have hbx := h.box
  have h' := hid h
  have hrec' := hid hrec
  have hLm := hid hLr
  clear h hrec hLr;go_wp2_with fail;have h := h'.out
  have hmk : Mks [D] X := (Mks.nil X).cons hrec'.out (by simp)
  have hzw := hz1'.out
  have hzq := hq3.out
  have kwX : Kp [] w X := HK1.out.trans h.co.kp (fun x hx => .inr (by simp at hx; omega))
  show LeavesInM _ _ _ _ _ _ (marks [D]) .returning _
  refine leaves_marks [D] X hmk fun w' hk => ⟨_, results_tmp rfl _ _ _, ra, rc, L, rfl, ?_, hLm.out, kwX.trans hk (fun x hx => .inr (by simp at hx; omega))⟩
  have ck : CK (fun _ => True) X w' := CK.ofBlock hk.size fun k _ hl => by
   by_cases e : k = D
   ·exact .inr ⟨_, by rw [e]; exact hrec'.out, rfl⟩
   ·exact .inl (hk.block k hl (by simpa using e))
  exact (h.lot.ck ck (fun _ _ => trivial) (fun _ _ _ _ => trivial)).mono (by omega)
 case stop =>
  rintro D c s X hD _ h;exact h.elim
theorem cCollectS (d : Nat) (hd : 4 ≤ d) (g : Nat) (lb : Array Value) (R : List (List Val)) (js : List Nat) (w : World) (heg : ∀ args w, (callFunc g args).run Tryz.prog w = .ok (.enter g args) w) (hseq : RowSeq true (d - 2) g lb R js w) (hjs : ∀ j ∈ js, j < w.heap.size) (hR : R.length ≤ 4000000000000) :
  Calls Tryz.prog 59 #[.func (.func g) #[] lb] w (LotP R w) := by
 have h := callsIn_wide.1 (cAppSeqR (d - 1) (by omega) g lb R js w heg hseq hjs hR)
 have cA := hid h
 clear h hseq;go_enter Tryz.func59, Tryz.ntmps59
 go_wp2_with fail;refine cA.out.mono ?_;rintro e w2 ⟨ra, rc, L, rfl, hl, hL, k2⟩;have HF := hid (And.intro hl (And.intro hL k2))
 clear hl hL k2 cA;go_wp2_with fail;go_ret;exact ⟨ra, rc, L, rfl, HF.out.1, HF.out.2.1, HF.out.2.2⟩
theorem dir_neg (d : Bool) (k : Int) : dirC d (-k) = -dirC d k := by cases d <;> simp [dirC]
theorem dir_zero (d : Bool) (k : Int) : dirC d k = 0 ↔ k = 0 := by cases d <;> simp [dirC]
theorem dirc_neg (d : Bool) (a b : Val) : dirC d (cmpV b a) = -dirC d (cmpV a b) := by rw [cmp_neg a b, dir_neg]
theorem dirc_trans (d : Bool) (a b c : Val) (h : dirC d (cmpV a b) ≤ 0) (k : dirC d (cmpV b c) ≤ 0) : dirC d (cmpV a c) ≤ 0 := by
 cases d with
 | false => exact cmp_trans a b c h k
 | true =>
  simp only [dirC, if_true] at h k ⊢;have h1 := cmp_neg a b
  have h2 := cmp_neg b c
  have h3 := cmp_neg a c
  have := cmp_trans c b a (by omega) (by omega)
  omega
theorem cmpO_neg : ∀ (os : List (Int × Bool)) (x y : List Val), cmpO os y x = -cmpO os x y
 | [], x, y => rows_neg x y
 | q :: os, x, y => by
  have h := dirc_neg q.2 (vAt x q.1) (vAt y q.1)
  have ih := cmpO_neg os x y
  unfold cmpO
  by_cases h0 : dirC q.2 (cmpV (vAt x q.1) (vAt y q.1)) = 0
  ·rw [if_pos h0, if_pos (by omega), ih]
  ·rw [if_neg h0, if_neg (by omega), h]
theorem cmpO_trans : ∀ (os : List (Int × Bool)) (x y z : List Val), cmpO os x y ≤ 0 → cmpO os y z ≤ 0 → cmpO os x z ≤ 0
 | [], x, y, z, h1, h2 => rows_trans x y z h1 h2
 | q :: os, x, y, z, h1, h2 => by
  have ih := cmpO_trans os x y z
  unfold cmpO at h1 h2 ⊢
  generalize vAt x q.1 = a at *
  generalize vAt y q.1 = b at *
  generalize vAt z q.1 = c at *
  have n1 := dirc_neg q.2 a b
  have n2 := dirc_neg q.2 b c
  have n3 := dirc_neg q.2 a c
  have hab : dirC q.2 (cmpV a b) ≤ 0 := by
   by_cases e1 : dirC q.2 (cmpV a b) = 0
   ·omega
   ·rw [if_neg e1] at h1; omega
  have hbc : dirC q.2 (cmpV b c) ≤ 0 := by
   by_cases e1 : dirC q.2 (cmpV b c) = 0
   ·omega
   ·rw [if_neg e1] at h2; omega
  have hac := dirc_trans q.2 a b c hab hbc
  by_cases e3 : dirC q.2 (cmpV a c) = 0
  ·have hca : dirC q.2 (cmpV c a) ≤ 0 := by omega
   have hcb := dirc_trans q.2 c a b hca hab
   have hba := dirc_trans q.2 b c a hbc hca
   rw [if_pos (by omega)] at h1
   rw [if_pos (by omega)] at h2
   rw [if_pos e3];exact ih h1 h2
  ·rw [if_neg e3]
   exact hac
theorem cmpO_swo (os : List (Int × Bool)) (f : Nat → List Val) : Swo (fun x y => cmpO os (f x) (f y) < 0) where
 asym x y h := by
  have := cmpO_neg os (f x) (f y)
  show ¬ cmpO os (f y) (f x) < 0
  have h' : cmpO os (f x) (f y) < 0 := h
  omega
 ntr x y z h1 h2 := by
  have n1 := cmpO_neg os (f x) (f y)
  have n2 := cmpO_neg os (f y) (f z)
  have n3 := cmpO_neg os (f x) (f z)
  have h1' : ¬ cmpO os (f x) (f y) < 0 := h1
  have h2' : ¬ cmpO os (f y) (f z) < 0 := h2
  have := cmpO_trans os (f z) (f y) (f x) (by omega) (by omega)
  show ¬ cmpO os (f x) (f z) < 0
  omega
def ltO (os : List (Int × Bool)) (R : List (List Val)) (x y : Nat) : Prop := cmpO os (R.getD x []) (R.getD y []) < 0
instance (os : List (Int × Bool)) (R : List (List Val)) : ∀ x y, Decidable (ltO os R x y) := fun x y => by unfold ltO; infer_instance
theorem ltO_swo (os : List (Int × Bool)) (R : List (List Val)) : Swo (ltO os R) := cmpO_swo os (fun x => R.getD x [])
def srtO (os : List (Int × Bool)) (R : List (List Val)) : List (List Val) := (srtI (ltO os R) R.length).map fun i => R.getD i []
theorem cSortC (x y : Vs) (q : Nat) (oa : Option Addr) (oc : Nat) (os : List (Int × Bool)) (w : World) (hx : x.lies w) (hy : y.lies w) (ho : OrE.See w oa os) (hol : os.length ≤ 4000000000000) (hb : w.cell? ⟨q, 0, none⟩ = some (.slice oa os.length oc)) :
  Calls Tryz.prog 106 #[.slice x.a x.l.length x.c, .slice y.a y.l.length y.c, .pointer (some ⟨q, 0, none⟩)] w fun e w' => e = .returned (.int .i64 (cmpO os x.l y.l)) ∧ Kp [] w w' := by
 have cC := hid (cCmpO x y oa oc os w hx hy ho hol)
 clear hx hy ho;go_enter Tryz.func106, Tryz.ntmps106
 go_wp2_with fail;refine cC.out.mono ?_;rintro e w2 ⟨rfl, k2⟩;have K2 := hid k2
 clear cC k2;go_wp2_with fail;go_ret;exact ⟨rfl, K2.out⟩
end Go.Proofs.YtcgkkofmnajedaaGreatDoor
end

section
namespace Go.Proofs.YtcgkkofmnajedaaGreatDoor
open Go.RowKit Go.Hay
abbrev Vs.v (x : Vs) : Value := .slice x.a x.l.length x.c
def arr (A : Nat → Vs) (p : Nat → Nat) (n : Nat) : List Vs := (List.range n).map fun k => A (p k)
theorem arr_len (A : Nat → Vs) (p : Nat → Nat) (n : Nat) : (arr A p n).length = n := by simp [arr]
theorem arr_at (A : Nat → Vs) (p : Nat → Nat) (n i : Nat) (h : i < n) : (arr A p n)[i]? = some (A (p i)) := by simp [arr, h]
theorem arr_swap (A : Nat → Vs) (p : Nat → Nat) (n i j : Nat) (hi : i < n) (hj : j < n) : ((arr A p n).set i (A (p j))).set j (A (p i)) = arr A (fun k => p (swp i j k)) n := by
 apply List.ext_getElem?
 intro k
 by_cases hk : k < n
 ·rw [arr_at A _ n k hk, List.getElem?_set, List.getElem?_set]
  simp only [List.length_set, arr_len, hj, hi, if_true]
  by_cases c1 : j = k
  ·subst c1
   rw [if_pos rfl];unfold swp
   split
   ·rename_i h; rw [h]
   ·rw [if_pos rfl]
  ·rw [if_neg c1]
   by_cases c2 : i = k
   ·subst c2
    rw [if_pos rfl];unfold swp
    rw [if_pos rfl]
   ·rw [if_neg c2, arr_at A _ n k hk]
    unfold swp
    rw [if_neg (fun h => c2 h.symm), if_neg (fun h => c1 h.symm)]
 ·rw [List.getElem?_eq_none (by simp [arr_len]; omega), List.getElem?_eq_none (by simp [arr_len]; omega)]
def Hd (W : World) (g o n cap : Nat) (A : Nat → Vs) (p : Nat → Nat) : Prop := VsE.Row W (.slice (some ⟨g, o, none⟩) n cap) (arr A p n)
theorem Hd.cells {W : World} {g o n cap : Nat} {A : Nat → Vs} {p : Nat → Nat} (h : Hd W g o n cap A p) (i : Nat) (hi : i < n) : W.cell? ⟨g, o + i, none⟩ = some (.slice (A (p i)).a (A (p i)).l.length (A (p i)).c) ∧ W.frozen? ⟨g, o + i, none⟩ = false := by
 obtain ⟨a', c', e, hs, _⟩ := El.Row.see h;have e1 := Value.slice.inj e
 obtain ⟨g', o', e2, x0⟩ := vsAt hs (arr_at A p n i hi);rw [← e1.1] at e2
 cases e2
 refine ⟨x0, ?_⟩
 rcases h with ⟨e3, _⟩ | ⟨g2, o2, cc, e3, hl, hx, hg, hc, ht⟩
 ·cases e3
 ·have e4 := Value.slice.inj e3
  obtain ⟨e5, e6, e7⟩ := e4
  cases e5
  subst e7;have en : VsE.n = 1 := rfl
  rw [en] at ht;rw [arr_len] at hl;exact (ht i (by omega)).2
def put1 (W : World) (g x : Nat) (v : Vs) : World := W.setCell ⟨g, x, none⟩ (.slice v.a v.l.length v.c)
theorem put1_kp (W : World) (g x : Nat) (v : Vs) : Kp [g] W (put1 W g x v) := (Kp.refl _ _).setCell (by simp) _
theorem row_put1 {W : World} {g o n cap : Nat} {l : List Vs} (h : VsE.Row W (.slice (some ⟨g, o, none⟩) n cap) l) (i : Nat) (hi : i < l.length) (x : Vs) : VsE.Row (put1 W g (o + i) x) (.slice (some ⟨g, o, none⟩) n cap) (l.set i x) := by
 have := h.setAt i hi x
 have e : VsE.n = 1 := rfl
 rw [e, Nat.mul_one] at this;exact this
theorem Hd.swap {W : World} {g o n cap : Nat} {A : Nat → Vs} {p : Nat → Nat} (h : Hd W g o n cap A p) (i j : Nat) (hi : i < n) (hj : j < n) : Hd (put1 (put1 W g (o + i) (A (p j))) g (o + j) (A (p i))) g o n cap A (fun k => p (swp i j k)) := by
 unfold Hd
 rw [← arr_swap A p n i j hi hj];exact row_put1 (row_put1 h i (by rw [arr_len]; exact hi) _) j (by rw [List.length_set, arr_len]; exact hj) _
theorem put1_cells {W : World} {g o n cap : Nat} {A : Nat → Vs} {p : Nat → Nat} (h : Hd W g o n cap A p) (i j : Nat) (hi : i < n) (hj : j < n) (x : Vs) : ∀ c, c < 1 → (∃ u, (put1 W g (o + i) x).cell? ⟨g, o + j + c, none⟩ = some u) ∧ (put1 W g (o + i) x).frozen? ⟨g, o + j + c, none⟩ = false := by
 intro c hc
 obtain rfl : c = 0 := by omega
 have h1 := row_put1 h i (by rw [arr_len]; exact hi) x
 rcases h1 with ⟨e3, _⟩ | ⟨g2, o2, cc, e3, hl, hx, hg, hcc, ht⟩
 ·cases e3
 ·obtain ⟨e5, e6, e7⟩ := Value.slice.inj e3
  cases e5
  subst e7;have en : VsE.n = 1 := rfl
  rw [en] at ht;rw [List.length_set, arr_len] at hl;have := ht j (by omega)
  exact ⟨Option.isSome_iff_exists.1 this.1, this.2⟩
theorem Hd.kept {W W' : World} {g o n cap : Nat} {A : Nat → Vs} {p : Nat → Nat} (h : Hd W g o n cap A p) (k : Kp [] W W') : Hd W' g o n cap A p := El.Row.keptNew h k
theorem Hd.lt {W : World} {g o n cap : Nat} {A : Nat → Vs} {p : Nat → Nat} (h : Hd W g o n cap A p) : g < W.heap.size := El.Row.lt h g (by simp [own, Value.ownBlock])
theorem cSwapR (g o n cap : Nat) (A : Nat → Vs) (p : Nat → Nat) (a b m : Nat) (f : Value) (w : World) (h : Hd w g o n cap A p) (h1 : a + m ≤ b) (h2 : b + m ≤ n) (hn : n ≤ 4000000000000) (hcap : n ≤ cap) : Calls Tryz.prog 186 #[.slice (some ⟨g, o, none⟩) n cap, .int .i64 (a : Int), .int .i64 (b : Int), .int .i64 (m : Int), f] w fun e w' => (∃ v, e = .returned v) ∧ Hd w' g o n cap A (fun k => p (swR a b m k)) ∧ Kp [g] w w' := by
 have HH := hid h
 clear h;go_enter Tryz.func186, Tryz.ntmps186
 go_wp2_with fail;go_loopw [10] (fun iv wr => ∃ i : Nat, i ≤ m ∧ iv = .int .i64 (i : Int) ∧ Hid (Hd wr g o n cap A (fun k => p (swR a b i k)) ∧ Kp [g] w wr)) (fun iv _ => m - (intOf iv).toNat)
 case atStart => exact ⟨0, Nat.zero_le _, rfl, hid ⟨by rw [swR_zero]; exact HH.out, Kp.refl _ _⟩⟩
 case round =>
  obtain ⟨i, hi, rfl, hr⟩ := hrel
  by_cases hlt : i < m
  ·obtain ⟨x, hx⟩ : ∃ x : Nat, x = a + i := ⟨_, rfl⟩
   obtain ⟨y, hy⟩ : ∃ y : Nat, y = b + i := ⟨_, rfl⟩
   have ex : (a : Int) + (i : Int) = (x : Int) := by omega
   have ey : (b : Int) + (i : Int) = (y : Int) := by omega
   have hxn : x < n := by omega
   have hyn : y < n := by omega
   have b1 : (-9223372036854775808 : Int) ≤ (a : Int) + (i : Int) := by omega
   have b2 : (a : Int) + (i : Int) ≤ 9223372036854775807 := by omega
   have b3 : (-9223372036854775808 : Int) ≤ (b : Int) + (i : Int) := by omega
   have b4 : (b : Int) + (i : Int) ≤ 9223372036854775807 := by omega
   have i1 : (0 : Int) ≤ (x : Int) := by omega
   have i2 : (x : Int) < (n : Int) := by omega
   have i3 : (0 : Int) ≤ (y : Int) := by omega
   have i4 : (y : Int) < (n : Int) := by omega
   have i5 : (i : Int) + 1 ≤ 9223372036854775807 := by omega
   have i6 : (i : Int) < (m : Int) := by omega
   have wx : IntKind.i64.wrap ((a : Int) + (i : Int)) = (x : Int) := by rw [ex, IntKind.wrap_i64]; omega
   have wy : IntKind.i64.wrap ((b : Int) + (i : Int)) = (y : Int) := by rw [ey, IntKind.wrap_i64]; omega
   have wx2 : IntKind.i64.wrap (x : Int) = (x : Int) := by rw [IntKind.wrap_i64]; omega
   have wy2 : IntKind.i64.wrap (y : Int) = (y : Int) := by rw [IntKind.wrap_i64]; omega
   obtain ⟨P, hP⟩ : ∃ P, Hid (P = fun k => p (swR a b i k)) := ⟨_, hid rfl⟩
   have hd := hr.out.1
   have kr := hid hr.out.2
   rw [← hP.out] at hd;have HX := hid (And.intro hx hy)
   clear hx hy hr;go_wp2_with fail;refine wp_region_held_drew (S := fun _ => True) (by kernel_rfl) trivial (fun hHeld => ?_)
   have KD : Kp [] wr wr.drew := (Kp.refl [] wr).drew
   have hd2 := hd.kept KD
   generalize wr.drew = Wd at *
   obtain ⟨x0, fx0⟩ := hd2.cells x (by omega)
   obtain ⟨y0, fy0⟩ := hd2.cells y (by omega)
   have hsw := hd2.swap x y (by omega) (by omega)
   have hpc := put1_cells hd2 x y (by omega) (by omega)
   obtain ⟨V1, hV1⟩ : ∃ V, V = A (P x) := ⟨_, rfl⟩
   obtain ⟨V2, hV2⟩ : ∃ V, V = A (P y) := ⟨_, rfl⟩
   rw [← hV1] at x0 hsw;rw [← hV2] at y0 hsw;replace hpc := hpc V2
   obtain ⟨⟨u0, hu0⟩, gu0⟩ := hpc 0 (by omega)
   try simp only [Nat.add_zero] at hu0 gu0
   obtain ⟨W1, eW1⟩ : ∃ Y, (Wd.setCell ⟨g, o + x, none⟩ (.slice V2.a V2.l.length V2.c)) = Y := ⟨_, rfl⟩
   have eP1 : put1 Wd g (o + x) V2 = W1 := eW1
   obtain ⟨W2, eW2⟩ : ∃ Y, (W1.setCell ⟨g, o + y, none⟩ (.slice V1.a V1.l.length V1.c)) = Y := ⟨_, rfl⟩
   have eP2 : put1 W1 g (o + y) V1 = W2 := eW2
   have kP1 : Kp [g] Wd W1 := by rw [← eP1]; exact put1_kp _ _ _ _
   have kP2 : Kp [g] W1 W2 := by rw [← eP2]; exact put1_kp _ _ _ _
   simp only [eP1] at hu0 gu0 hsw;simp only [eP2] at hsw;have zW1 := kP1.size
   have HSW := hid (And.intro hsw (kP1.trans kP2 (by simp)))
   have zg : g < Wd.heap.size := hd2.lt
   have zg1 : g < W1.heap.size := by omega
   clear hpc hsw eP1 eP2 kP1 kP2 hV1 hV2 zW1;obtain ⟨a1, c1, l1⟩ := V1;obtain ⟨a2, c2, l2⟩ := V2;dsimp only at *
   have hfin : Hid (Hd W2 g o n cap A (fun k => p (swR a b (i + 1) k)) ∧ Kp [g] w W2) := hid ⟨by
    have := HSW.out.1
    rw [hP.out] at this;rw [swR_succ a b i (by omega), ← HX.out.1, ← HX.out.2]
    exact this, (kr.out.trans KD (by simp)).trans HSW.out.2 (by simp)⟩
   clear hd hd2 HSW hP kr KD HX;refine tkH ?_ 0 rfl (by kernel_rfl) (fun _ _ _ h => h) (by rfl) ?_ ‹_› ?_;rotate_left
   ·intro w h; (try dsimp only at h); go_simp <;> with_reducible rfl
   (try simp only [Act.put, lz]);refine tkH ?_ 1 rfl (by kernel_rfl) (fun _ _ _ h => h) (by rfl) ?_ ‹_› ?_;rotate_left
   ·intro w h; (try dsimp only at h); go_simp <;> with_reducible rfl
   (try simp only [Act.put, lz]);refine tkH ?_ 2 rfl (by kernel_rfl) (fun _ _ _ h => h) (by rfl) ?_ ‹_› ?_;rotate_left
   ·intro w h; (try dsimp only at h); go_simp <;> with_reducible rfl
   (try simp only [Act.put, lz]);refine tkH ?_ 3 rfl (by kernel_rfl) (fun _ _ _ h => h) (by rfl) ?_ ‹_› ?_;rotate_left
   ·intro w hSw; (try dsimp only at hSw); go_simp <;> (try simp only [wx, wy, wx2, wy2]) <;> with_reducible rfl
   (try simp only [Act.put, lz]);try simp only [wx, wy, wx2, wy2]
   refine tkH ?_ 4 rfl (by kernel_rfl) (fun _ _ _ h => h) (by rfl) ?_ ‹_› ?_;rotate_left
   ·intro w h; (try dsimp only at h); go_simp <;> with_reducible rfl
   (try simp only [Act.put, lz]);refine tkH ?_ 5 rfl (by kernel_rfl) (fun _ _ _ h => h) (by rfl) ?_ ‹_› ?_;rotate_left
   ·intro w h; (try dsimp only at h); go_simp <;> with_reducible rfl
   (try simp only [Act.put, lz]);refine tkH ?_ 6 rfl (by kernel_rfl) (fun _ _ _ h => h) (by rfl) ?_ ‹_› ?_;rotate_left
   ·intro w h; (try dsimp only at h); go_simp <;> with_reducible rfl
   (try simp only [Act.put, lz]);refine tkH ?_ 7 rfl (by kernel_rfl) (fun _ _ _ h => h) (by rfl) ?_ ‹_› ?_;rotate_left
   ·intro w hSw; (try dsimp only at hSw); go_simp <;> (try simp only [wx, wy, wx2, wy2]) <;> with_reducible rfl
   (try simp only [Act.put, lz]);try simp only [wx, wy, wx2, wy2]
   refine tkH ?_ 8 rfl (by kernel_rfl) (fun _ _ _ h => h) (by rfl) ?_ ‹_› ?_;rotate_left
   ·intro w h; (try dsimp only at h); go_simp <;> with_reducible rfl
   (try simp only [Act.put, lz]);refine tkH ?_ 9 rfl (by kernel_rfl) (fun _ _ _ h => h) (by rfl) ?_ ‹_› ?_;rotate_left
   ·intro w h; (try dsimp only at h); go_simp <;> with_reducible rfl
   (try simp only [Act.put, lz]);refine tkH ?_ 10 rfl (by kernel_rfl) (fun _ _ _ h => h) (by rfl) ?_ ‹_› ?_;rotate_left
   ·intro w h; (try dsimp only at h); go_simp <;> with_reducible rfl
   (try simp only [Act.put, lz]);refine tkH ?_ 11 rfl (by kernel_rfl) (fun _ _ _ h => h) (by rfl) ?_ ‹_› ?_;rotate_left
   ·intro w hSw; (try dsimp only at hSw); go_simp <;> (try simp only [wx, wy, wx2, wy2]) <;> with_reducible rfl
   (try simp only [Act.put, lz]);try simp only [wx, wy, wx2, wy2]
   refine tkH ?_ 12 rfl (by kernel_rfl) (fun _ _ _ h => h) (by rfl) ?_ ‹_› ?_;rotate_left
   ·intro w h; (try dsimp only at h); go_simp <;> with_reducible rfl
   (try simp only [Act.put, lz]);refine tkH ?_ 14 rfl (by kernel_rfl) (fun _ _ _ h => h) (by rfl) ?_ ‹_› ?_;rotate_left
   ·intro w h; (try dsimp only at h); go_simp <;> with_reducible rfl
   (try simp only [Act.put, lz]);refine tkH ?_ 15 rfl (by kernel_rfl) (fun _ _ _ h => h) (by rfl) ?_ ‹_› ?_;rotate_left
   ·intro w h; (try dsimp only at h); go_simp <;> with_reducible rfl
   (try simp only [Act.put, lz]);refine tkH ?_ 16 rfl (by kernel_rfl) (fun _ _ _ h => h) (by rfl) ?_ ‹_› ?_;rotate_left
   ·intro w h; (try dsimp only at h); go_simp <;> with_reducible rfl
   (try simp only [Act.put, lz]);refine tkH ?_ 17 rfl (by kernel_rfl) (fun _ _ _ h => h) (by rfl) ?_ ‹_› ?_;rotate_left
   ·intro w hSw; (try dsimp only at hSw); go_simp <;> (try simp only [wx, wy, wx2, wy2]) <;> with_reducible rfl
   (try simp only [Act.put, lz]);try simp only [wx, wy, wx2, wy2]
   refine tkH ?_ 18 rfl (by kernel_rfl) (fun _ _ _ h => h) (by rfl) ?_ ‹_› ?_;rotate_left
   ·intro w h; (try dsimp only at h); go_simp <;> with_reducible rfl
   (try simp only [Act.put, lz]);refine wpAnyH_ready (rs := [13, 19]) (by kernel_rfl) (by simp) ?_
   refine AllReadyH.cons rfl (fun K hK => ?_) (AllReadyH.cons rfl (fun K hK => ?_) AllReadyH.nil)
   ·go_simp
    (try go_wp2_with fail);refine hK.out _ _ trivial (fun hHeld => ?_)
    clear hK K;(try simp only [Act.put, lz]);refine rdH 19 (by kernel_rfl) rfl fun K hK => ?_
    go_simp;(try go_wp2_with fail);refine hK.out _ _ trivial (fun hHeld => ?_)
    clear hK K;(try simp only [Act.put, lz]);refine tkH ?_ 20 rfl (by kernel_rfl) (fun _ _ _ h => h) (by rfl) ?_ ‹_› ?_;rotate_left
    ·intro w h; (try dsimp only at h); go_simp <;> with_reducible rfl
    (try simp only [Act.put, lz]);refine rdH 21 (by kernel_rfl) rfl fun K hK => ?_
    go_simp;(try go_wp2_with fail);refine hK.out _ _ trivial (fun hHeld => ?_)
    clear hK K;(try simp only [Act.put, lz]);refine tkH ?_ 22 rfl (by kernel_rfl) (fun _ _ _ h => h) (by rfl) ?_ ‹_› ?_;rotate_left
    ·intro w h; (try dsimp only at h); go_simp <;> with_reducible rfl
    (try simp only [Act.put, lz]);refine rdH 23 (by kernel_rfl) rfl fun K hK => ?_
    go_simp;(try go_wp2_with fail);refine hK.out _ _ trivial (fun hHeld => ?_)
    clear hK K;(try simp only [Act.put, lz]);refine wpAnyH_done (by kernel_rfl) ?_ _
    clear hHeld;go_wp2_with fail;exact ⟨⟨i + 1, by omega, by go_num, hfin⟩, by simp [intOf]; omega⟩
   ·go_simp
    (try go_wp2_with fail);refine hK.out _ _ trivial (fun hHeld => ?_)
    clear hK K;(try simp only [Act.put, lz]);refine rdH 13 (by kernel_rfl) rfl fun K hK => ?_
    go_simp;(try go_wp2_with fail);refine hK.out _ _ trivial (fun hHeld => ?_)
    clear hK K;(try simp only [Act.put, lz]);refine tkH ?_ 20 rfl (by kernel_rfl) (fun _ _ _ h => h) (by rfl) ?_ ‹_› ?_;rotate_left
    ·intro w h; (try dsimp only at h); go_simp <;> with_reducible rfl
    (try simp only [Act.put, lz]);refine rdH 21 (by kernel_rfl) rfl fun K hK => ?_
    go_simp;(try go_wp2_with fail);refine hK.out _ _ trivial (fun hHeld => ?_)
    clear hK K;(try simp only [Act.put, lz]);refine tkH ?_ 22 rfl (by kernel_rfl) (fun _ _ _ h => h) (by rfl) ?_ ‹_› ?_;rotate_left
    ·intro w h; (try dsimp only at h); go_simp <;> with_reducible rfl
    (try simp only [Act.put, lz]);refine rdH 23 (by kernel_rfl) rfl fun K hK => ?_
    go_simp;(try go_wp2_with fail);refine hK.out _ _ trivial (fun hHeld => ?_)
    clear hK K;(try simp only [Act.put, lz]);refine wpAnyH_done (by kernel_rfl) ?_ _
    clear hHeld;go_wp2_with fail;exact ⟨⟨i + 1, by omega, by go_num, hfin⟩, by simp [intOf]; omega⟩
  ·have e : i = m := by omega
   subst e;go_wp2_with fail;go_end0
   exact ⟨⟨_, rfl⟩, hr.out.1, hr.out.2⟩
theorem cRot (g o n cap : Nat) (A : Nat → Vs) (p : Nat → Nat) (a m b : Nat) (f : Value) (w : World) (h : Hd w g o n cap A p) (h1 : a < m) (h2 : m < b) (h3 : b ≤ n) (hn : n ≤ 4000000000000) (hcap : n ≤ cap) : Calls Tryz.prog 181 #[.slice (some ⟨g, o, none⟩) n cap, .int .i64 (a : Int), .int .i64 (m : Int), .int .i64 (b : Int), f] w fun e w' => (∃ v, e = .returned v) ∧ Hd w' g o n cap A (fun k => p (rot a m b k)) ∧ Kp [g] w w' := by
 have HH := hid h
 obtain ⟨i0, hi0⟩ : ∃ i : Nat, i = m - a := ⟨_, rfl⟩
 obtain ⟨j0, hj0⟩ : ∃ j : Nat, j = b - m := ⟨_, rfl⟩
 have ei : (m : Int) - (a : Int) = (i0 : Int) := by omega
 have ej : (b : Int) - (m : Int) = (j0 : Int) := by omega
 have q1 : (-9223372036854775808 : Int) ≤ (m : Int) - (a : Int) := by omega
 have q2 : (m : Int) - (a : Int) ≤ 9223372036854775807 := by omega
 have q3 : (-9223372036854775808 : Int) ≤ (b : Int) - (m : Int) := by omega
 have q4 : (b : Int) - (m : Int) ≤ 9223372036854775807 := by omega
 have hst : Hid ((fun k => rot (m - i0) m (m + j0) k) = rot a m b) := hid (by rw [show m - i0 = a by omega, show m + j0 = b by omega])
 have hb0 : 1 ≤ i0 ∧ 1 ≤ j0 ∧ i0 ≤ m ∧ m + j0 ≤ n := by omega
 clear h hi0 hj0;go_enter Tryz.func181, Tryz.ntmps181
 go_wp2_with fail;clear ei ej q1 q2 q3 q4;go_loopw [10, 11] (fun iv jv wr => ∃ (i j : Nat) (s : Nat → Nat), (1 ≤ i ∧ 1 ≤ j ∧ i ≤ m ∧ m + j ≤ n) ∧ iv = .int .i64 (i : Int) ∧ jv = .int .i64 (j : Int) ∧ Hid ((fun k => s (rot (m - i) m (m + j) k)) = rot a m b) ∧ Hid (Hd wr g o n cap A (fun k => p (s k)) ∧ Kp [g] w wr)) (fun iv jv _ => (intOf iv).toNat + (intOf jv).toNat)
 case atStart => exact ⟨i0, j0, fun k => k, hb0, rfl, rfl, hst, hid ⟨HH.out, Kp.refl _ _⟩⟩
 case round =>
  obtain ⟨i, j, s, ⟨bi, bj, bm, bn⟩, rfl, rfl, hs, hr⟩ := hrel;clear hb0 hst;obtain ⟨x, hx⟩ : ∃ x : Nat, x = m - i := ⟨_, rfl⟩
  have ex : (m : Int) - (i : Int) = (x : Int) := by omega
  have q1 : (-9223372036854775808 : Int) ≤ (m : Int) - (i : Int) := by omega
  have q2 : (m : Int) - (i : Int) ≤ 9223372036854775807 := by omega
  by_cases hij : i = j
  ·subst hij
   have hne : ((i : Int) != (i : Int)) = false := by simp
   have cS := hid (cSwapR g o n cap A (fun k => p (s k)) x m i f wr hr.out.1 (by omega) (by omega) hn hcap)
   have hs2 : Hid ((fun k => s (swR x m i k)) = rot a m b) := hid (by rw [← hs.out, rot_end m i bm, hx])
   have KR := hid hr.out.2
   clear hx hs hr;go_wp2_with fail;refine cS.out.mono ?_;rintro e w1 ⟨⟨v, rfl⟩, hd, k1⟩;have HF := hid (And.intro hd (KR.out.trans k1 (by simp)))
   clear hd k1;go_wp2_with fail;go_end0
   refine ⟨⟨_, rfl⟩, ?_, HF.out.2⟩;rw [← hs2.out];exact HF.out.1
  have hne : ((i : Int) != (j : Int)) = true := by simp; omega
  by_cases hgt : j < i
  ·have dg : decide ((j : Int) < (i : Int)) = true := by simp; omega
   have cS := hid (cSwapR g o n cap A (fun k => p (s k)) x m j f wr hr.out.1 (by omega) (by omega) hn hcap)
   have hs2 : Hid ((fun k => s (swR x m j (rot (m - (i - j)) m (m + j) k))) = rot a m b) := hid (by rw [← hs.out, rot_step1 m i j bm hgt, hx])
   have KR := hid hr.out.2
   obtain ⟨i', hi'⟩ : ∃ i' : Nat, i' = i - j := ⟨_, rfl⟩
   have ei : (i : Int) - (j : Int) = (i' : Int) := by omega
   have q3 : (-9223372036854775808 : Int) ≤ (i : Int) - (j : Int) := by omega
   have q4 : (i : Int) - (j : Int) ≤ 9223372036854775807 := by omega
   rw [← hi'] at hs2;have hb : 1 ≤ i' ∧ 1 ≤ j ∧ i' ≤ m ∧ m + j ≤ n := by omega
   have hdec : i' + j < i + j := by omega
   clear hx hs hr hi' hij;go_wp2_with fail;refine cS.out.mono ?_;rintro e w1 ⟨⟨v, rfl⟩, hd, k1⟩;have HF := hid (And.intro hd (KR.out.trans k1 (by simp)))
   clear hd k1;go_wp2_with fail;exact ⟨⟨i', j, fun k => s (swR x m j k), hb, rfl, rfl, hs2, HF⟩, by simp [intOf]; omega⟩
  ·have dg : decide ((j : Int) < (i : Int)) = false := by simp; omega
   obtain ⟨z, hz⟩ : ∃ z : Nat, z = m + j := ⟨_, rfl⟩
   obtain ⟨y, hy⟩ : ∃ y : Nat, y = m + j - i := ⟨_, rfl⟩
   have ez : (m : Int) + (j : Int) = (z : Int) := by omega
   have ey : (z : Int) - (i : Int) = (y : Int) := by omega
   have q5 : (-9223372036854775808 : Int) ≤ (m : Int) + (j : Int) := by omega
   have q6 : (m : Int) + (j : Int) ≤ 9223372036854775807 := by omega
   have q7 : (-9223372036854775808 : Int) ≤ (z : Int) - (i : Int) := by omega
   have q8 : (z : Int) - (i : Int) ≤ 9223372036854775807 := by omega
   have cS := hid (cSwapR g o n cap A (fun k => p (s k)) x y i f wr hr.out.1 (by omega) (by omega) hn hcap)
   have hs2 : Hid ((fun k => s (swR x y i (rot (m - i) m (m + (j - i)) k))) = rot a m b) := hid (by rw [← hs.out, rot_step2 m i j bm (by omega), hx, hy])
   have KR := hid hr.out.2
   obtain ⟨j', hj'⟩ : ∃ j' : Nat, j' = j - i := ⟨_, rfl⟩
   have ej : (j : Int) - (i : Int) = (j' : Int) := by omega
   have q3 : (-9223372036854775808 : Int) ≤ (j : Int) - (i : Int) := by omega
   have q4 : (j : Int) - (i : Int) ≤ 9223372036854775807 := by omega
   rw [← hj'] at hs2;have hb : 1 ≤ i ∧ 1 ≤ j' ∧ i ≤ m ∧ m + j' ≤ n := by omega
   have hdec : i + j' < i + j := by omega
   clear hx hs hr hj' hy hz hij;go_wp2_with fail;refine cS.out.mono ?_;rintro e w1 ⟨⟨v, rfl⟩, hd, k1⟩;have HF := hid (And.intro hd (KR.out.trans k1 (by simp)))
   clear hd k1;go_wp2_with fail;exact ⟨⟨i, j', fun k => s (swR x y i k), hb, rfl, rfl, hs2, HF⟩, by simp [intOf]; omega⟩
structure CmpOk (fid : Nat) (g n : Nat) (A : Nat → Vs) (cv : Value) (cf : Nat → Nat → Int) (Inv : World → Prop) : Prop where
 enter : ∀ args w, (callFunc fid args).run Tryz.prog w = .ok (.enter fid args) w
 calls : ∀ W x y, Inv W → x < n → y < n → Calls Tryz.prog fid #[(A x).v, (A y).v, cv] W fun e w' => e = .returned (.int .i64 (cf x y)) ∧ Kp [] W w'
 keep : ∀ W W', Inv W → Kp [g] W W' → Inv W'
 swo : Swo (fun x y => cf x y < 0)
theorem cIns {fid : Nat} (g o n cap : Nat) (A : Nat → Vs) (cv : Value) (cf : Nat → Nat → Int) (Inv : World → Prop) (hC : CmpOk fid g n A cv cf Inv) (p : Nat → Nat) (a b : Nat) (w : World) (h : Hd w g o n cap A p) (hI : Inv w) (hid0 : ∀ k, a ≤ k → k < b → p k = k) (h1 : a ≤ b) (h3 : b ≤ n) (hn : n ≤ 4000000000000) (hcap : n ≤ cap) : Calls Tryz.prog 169 #[.slice (some ⟨g, o, none⟩) n cap, .int .i64 (a : Int), .int .i64 (b : Int), .func (.func fid) #[] #[cv]] w fun e w' => (∃ v, e = .returned v) ∧ ∃ s, PermIn a b s ∧ Srt (fun x y => cf x y < 0) (fun k => p (s k)) a b ∧ Hd w' g o n cap A (fun k => p (s k)) ∧ Kp [g] w w' := by
 have HC := hid hC
 have hE := hC.enter
 have HI := hid hI
 have HH := hid h
 have HID := hid hid0
 have q1 : (-9223372036854775808 : Int) ≤ (a : Int) + 1 := by omega
 have q2 : (a : Int) + 1 ≤ 9223372036854775807 := by omega
 clear hC hI h hid0
 by_cases hab : a = b
 ·subst hab
  have d0 : decide ((a : Int) + 1 < (a : Int)) = false := by simp; omega
  have d1 : ¬ ((a : Int) + 1 < (a : Int)) := by omega
  go_enter Tryz.func169, Tryz.ntmps169
  go_wp2_with fail;go_loopw [8, 9] (fun iv _ wr => iv = .int .i64 ((a : Int) + 1) ∧ wr = w) (fun _ _ _ => 0)
  case atStart => exact ⟨rfl, rfl⟩
  case round =>
   obtain ⟨rfl, rfl⟩ := hrel;go_wp2_with fail;go_end0
   exact ⟨⟨_, rfl⟩, fun k => k, PermIn.id _ _, Srt.one _ _ _ _ (by omega), HH.out, Kp.refl _ _⟩
 go_enter Tryz.func169, Tryz.ntmps169
 go_wp2_with fail;go_loopw [8, 9] (fun iv _ wr => ∃ (i : Nat) (s : Nat → Nat), (a + 1 ≤ i ∧ i ≤ b) ∧ iv = .int .i64 (i : Int) ∧ Hid (PermIn a i s ∧ Srt (fun x y => cf x y < 0) (fun k => p (s k)) a i) ∧ Hid (Hd wr g o n cap A (fun k => p (s k)) ∧ Kp [g] w wr)) (fun iv _ _ => b - (intOf iv).toNat)
 case atStart => exact ⟨a + 1, fun k => k, by omega, by go_num, hid ⟨PermIn.id _ _, Srt.one _ _ _ _ (by omega)⟩, hid ⟨HH.out, Kp.refl _ _⟩⟩
 case round =>
  obtain ⟨i, s, ⟨bi, bb⟩, rfl, hs, hr⟩ := hrel;clear q1 q2;have i5 : (i : Int) + 1 ≤ 9223372036854775807 := by omega
  by_cases hlt : i < b
  ·have i6 : (i : Int) < (b : Int) := by omega
   obtain ⟨P, hP⟩ : ∃ P, Hid (P = fun k => p (s k)) := ⟨_, hid rfl⟩
   rw [← hP.out] at hr hs;have hPi : Hid (P i = i) := hid (by rw [hP.out]; show p (s i) = i; rw [hs.out.1.2.1 i (by omega)]; exact HID.out i (by omega) hlt)
   have hPk : Hid (∀ k, a ≤ k → k < i → a ≤ P k ∧ P k < i) := hid (fun k g1 g2 => by
    rw [hP.out];show a ≤ p (s k) ∧ p (s k) < i
    have := hs.out.1.1 k g1 g2
    rw [HID.out (s k) this.1 (by omega)]
    exact this)
   have hLow : Hid (Low P a i (i + 1)) := hid (fun x y g1 g2 g3 g4 => by
    obtain rfl : y = i := by omega
    rw [hPi.out];exact (hPk.out x g1 g2).2)
   go_wp2_with fail;go_loopw [9] (fun jv wn => ∃ j : Nat, (a ≤ j ∧ j ≤ i) ∧ jv = .int .i64 (j : Int) ∧ Hid (j = i ∨ cf (P i) (P j) < 0) ∧ Hid (Hd wn g o n cap A (fun k => P (rot j i (i + 1) k)) ∧ Kp [g] w wn)) (fun jv _ => (intOf jv).toNat)
   case atStart => exact ⟨i, by omega, rfl, hid (.inl rfl), hid ⟨by rw [rot_left]; exact hr.out.1, hr.out.2⟩⟩
   case round =>
    obtain ⟨j, ⟨ja, ji⟩, rfl, hj, hw⟩ := hrel;clear hr
    by_cases hja : j = a
    ·have hfin : Hid (PermIn a (i + 1) (fun k => s (rot j i (i + 1) k)) ∧ Srt (fun x y => cf x y < 0) (fun k => p (s (rot j i (i + 1) k))) a (i + 1)) := hid ⟨(hs.out.1.mono (Nat.le_refl _) (by omega)).comp (rot_perm ja ji (by omega) (Nat.le_refl _)), by
      have := ins_left HC.out.swo ja ji hs.out.2 hLow.out hj.out (.inl hja)
      rw [hP.out] at this;exact this⟩
     have hw2 : Hid (Hd wr g o n cap A (fun k => p (s (rot j i (i + 1) k))) ∧ Kp [g] w wr) := hid ⟨by have := hw.out.1; rw [hP.out] at this; exact this, hw.out.2⟩
     have hne : decide ((a : Int) < (j : Int)) = false := by simp; omega
     have hneN : decide (a < j) = false := by simp; omega
     have hng : ¬ ((a : Int) < (j : Int)) := by omega
     clear hj hw hja;go_wp2_with fail;refine wp_region_held_drew (S := fun _ => True) (by kernel_rfl) trivial (fun hHeld => ?_)
     have hw3 : Hid (Hd wr.drew g o n cap A (fun k => p (s (rot j i (i + 1) k))) ∧ Kp [g] w wr.drew) := hid ⟨hw2.out.1.kept (Kp.refl [] wr).drew, hw2.out.2.drew⟩
     generalize wr.drew = Wd at *
     clear hw2;refine tkH ?_ 0 rfl (by kernel_rfl) (fun _ _ _ h => h) (by rfl) ?_ ‹_› ?_;rotate_left
     ·intro w h; (try dsimp only at h); go_simp <;> with_reducible rfl
     (try simp only [Act.put, lz]);refine tkH ?_ 1 rfl (by kernel_rfl) (fun _ _ _ h => h) (by rfl) ?_ ‹_› ?_;rotate_left
     ·intro w h; (try dsimp only at h); go_simp <;> with_reducible rfl
     (try simp only [Act.put, lz]);refine tkH ?_ 2 rfl (by kernel_rfl) (fun _ _ _ h => h) (by rfl) ?_ ‹_› ?_;rotate_left
     ·intro w hSw; (try dsimp only at hSw); go_simp <;> (try simp only [hne, hneN]) <;> with_reducible rfl
     (try simp only [Act.put, lz]);try simp only [hne, hneN]
     refine tkH ?_ 3 rfl (by kernel_rfl) (fun _ _ _ h => h) (by rfl) ?_ ‹_› ?_;rotate_left
     ·intro w h; (try dsimp only at h); go_simp <;> with_reducible rfl
     (try simp only [Act.put, lz]);refine tkU 4 rfl (by kernel_rfl) (fun _ _ _ h => h) (by rfl) ‹_› ?_
     (try simp only [Act.put, lz]);refine tkU 5 rfl (by kernel_rfl) (fun _ _ _ h => h) (by rfl) ‹_› ?_
     (try simp only [Act.put, lz]);refine tkU 6 rfl (by kernel_rfl) (fun _ _ _ h => h) (by rfl) ‹_› ?_
     (try simp only [Act.put, lz]);refine tkU 7 rfl (by kernel_rfl) (fun _ _ _ h => h) (by rfl) ‹_› ?_
     (try simp only [Act.put, lz]);refine tkU 8 rfl (by kernel_rfl) (fun _ _ _ h => h) (by rfl) ‹_› ?_
     (try simp only [Act.put, lz]);refine tkU 9 rfl (by kernel_rfl) (fun _ _ _ h => h) (by rfl) ‹_› ?_
     (try simp only [Act.put, lz]);refine tkU 10 rfl (by kernel_rfl) (fun _ _ _ h => h) (by rfl) ‹_› ?_
     (try simp only [Act.put, lz]);refine tkU 11 rfl (by kernel_rfl) (fun _ _ _ h => h) (by rfl) ‹_› ?_
     (try simp only [Act.put, lz]);refine tkU 12 rfl (by kernel_rfl) (fun _ _ _ h => h) (by rfl) ‹_› ?_
     (try simp only [Act.put, lz]);refine tkU 13 rfl (by kernel_rfl) (fun _ _ _ h => h) (by rfl) ‹_› ?_
     (try simp only [Act.put, lz]);refine tkU 14 rfl (by kernel_rfl) (fun _ _ _ h => h) (by rfl) ‹_› ?_
     (try simp only [Act.put, lz]);refine tkU 15 rfl (by kernel_rfl) (fun _ _ _ h => h) (by rfl) ‹_› ?_
     (try simp only [Act.put, lz]);refine tkH ?_ 16 rfl (by kernel_rfl) (fun _ _ _ h => h) (by rfl) ?_ ‹_› ?_;rotate_left
     ·intro w h; (try dsimp only at h); go_simp <;> with_reducible rfl
     (try simp only [Act.put, lz]);refine wpAnyH_done (by kernel_rfl) ?_ _
     clear hHeld;go_wp2_with fail;exact ⟨⟨i + 1, fun k => s (rot j i (i + 1) k), by omega, by go_num, hfin, hw3⟩, by simp [intOf]; omega⟩
    obtain ⟨y, hy⟩ : ∃ y : Nat, y = j - 1 := ⟨_, rfl⟩
    have ey : (j : Int) - 1 = (y : Int) := by omega
    have wy : IntKind.i64.wrap ((j : Int) - 1) = (y : Int) := by rw [ey, IntKind.wrap_i64]; omega
    have wy2 : IntKind.i64.wrap (y : Int) = (y : Int) := by rw [IntKind.wrap_i64]; omega
    have dg : decide ((a : Int) < (j : Int)) = true := by simp; omega
    have dgN : decide (a < j) = true := by simp; omega
    have dg2 : (a : Int) < (j : Int) := by omega
    have i1 : (0 : Int) ≤ (j : Int) := by omega
    have i2 : (j : Int) < (n : Int) := by omega
    have i3 : (0 : Int) ≤ (y : Int) := by omega
    have i4 : (y : Int) < (n : Int) := by omega
    have b1 : (-9223372036854775808 : Int) ≤ (j : Int) - 1 := by omega
    have b2 : (j : Int) - 1 ≤ 9223372036854775807 := by omega
    have hjy : j = y + 1 := by omega
    obtain ⟨Q, hQ⟩ : ∃ Q, Hid (Q = fun k => P (rot j i (i + 1) k)) := ⟨_, hid rfl⟩
    have hQj : Hid (Q j = P i) := hid (by rw [hQ.out]; show P (rot j i (i + 1) j) = P i; rw [rot_first j i (i + 1) j (by omega) (by omega) ji (by omega), show j + (i - j) = i by omega])
    have hQy : Hid (Q y = P y) := hid (by rw [hQ.out]; show P (rot j i (i + 1) y) = P y; rw [rot_out j i (i + 1) y (by omega)])
    rw [← hQ.out] at hw
    have hQn : Q j < n ∧ Q y < n := by
     rw [hQj.out, hQy.out, hPi.out];have := hPk.out y (by omega) (by omega)
     omega
    have cC := hid (fun W' (k : Kp [] wr W') => HC.out.calls W' (Q j) (Q y) (HC.out.keep _ _ HI.out (hw.out.2.trans k (by simp))) hQn.1 hQn.2)
    obtain ⟨x0, _⟩ := hw.out.1.cells j (by omega)
    obtain ⟨y0, _⟩ := hw.out.1.cells y (by omega)
    obtain ⟨V1, hV1⟩ : ∃ V, Hid (V = A (Q j)) := ⟨_, hid rfl⟩
    obtain ⟨V2, hV2⟩ : ∃ V, Hid (V = A (Q y)) := ⟨_, hid rfl⟩
    rw [← hV1.out] at x0 cC;rw [← hV2.out] at y0 cC;obtain ⟨C, hCf⟩ : ∃ C, Hid (cf (Q j) (Q y) = C) := ⟨_, hid rfl⟩
    rw [hCf.out] at cC;obtain ⟨a1, c1, l1⟩ := V1;obtain ⟨a2, c2, l2⟩ := V2;simp only [Vs.v] at cC;dsimp only at *;have hF : Hid (∀ W', Kp [] wr W' → (W'.cell? ⟨g, o + j, none⟩ = some (.slice a1 l1.length c1) ∧ W'.cell? ⟨g, o + y, none⟩ = some (.slice a2 l2.length c2))) := fun W' k => ⟨kpAt k x0, kpAt k y0⟩
    have zg : g < wr.heap.size := hw.out.1.lt
    clear x0 y0;have HYJ := hid (And.intro hy hjy)
    have HJA := hid hja
    clear hy hjy hja;go_wp2_with fail;refine wp_region_held_drew (S := fun W' => W'.cell? ⟨g, o + j, none⟩ = some (.slice a1 l1.length c1) ∧ W'.cell? ⟨g, o + y, none⟩ = some (.slice a2 l2.length c2)) (by kernel_rfl) ?_ (fun hHeld => ?_)
    ·exact hF.out _ (Kp.refl [] wr).drew
    have KD : Hid (Kp [] wr wr.drew) := hid (Kp.refl [] wr).drew
    generalize wr.drew = Wd at *
    refine tkH ?_ 0 rfl (by kernel_rfl) (fun _ _ _ h => h) (by rfl) ?_ ‹_› ?_;rotate_left
    ·intro w h; (try dsimp only at h); go_simp <;> with_reducible rfl
    (try simp only [Act.put, lz]);refine tkH ?_ 1 rfl (by kernel_rfl) (fun _ _ _ h => h) (by rfl) ?_ ‹_› ?_;rotate_left
    ·intro w h; (try dsimp only at h); go_simp <;> with_reducible rfl
    (try simp only [Act.put, lz]);refine tkH ?_ 2 rfl (by kernel_rfl) (fun _ _ _ h => h) (by rfl) ?_ ‹_› ?_;rotate_left
    ·intro w hSw; (try dsimp only at hSw); go_simp <;> (try simp only [dg, dgN]) <;> with_reducible rfl
    (try simp only [Act.put, lz]);try simp only [dg, dgN]
    refine tkH ?_ 3 rfl (by kernel_rfl) (fun _ _ _ h => h) (by rfl) ?_ ‹_› ?_;rotate_left
    ·intro w h; (try dsimp only at h); go_simp <;> with_reducible rfl
    (try simp only [Act.put, lz]);refine tkH ?_ 4 rfl (by kernel_rfl) (fun _ _ _ h => h) (by rfl) ?_ ‹_› ?_;rotate_left
    ·intro w h; (try dsimp only at h); go_simp <;> with_reducible rfl
    (try simp only [Act.put, lz]);refine tkH ?_ 5 rfl (by kernel_rfl) (fun _ _ _ h => h) (by rfl) ?_ ‹_› ?_;rotate_left
    ·intro w h; (try dsimp only at h); go_simp <;> with_reducible rfl
    (try simp only [Act.put, lz]);refine tkH ?_ 6 rfl (by kernel_rfl) (fun _ _ _ h => h) (by rfl) ?_ ‹_› ?_;rotate_left
    ·intro w h; (try dsimp only at h); go_simp <;> with_reducible rfl
    (try simp only [Act.put, lz]);refine tkH ?_ 7 rfl (by kernel_rfl) (fun _ _ _ h => h) (by rfl) ?_ ‹_› ?_;rotate_left
    ·intro w h; (try dsimp only at h); go_simp <;> with_reducible rfl
    (try simp only [Act.put, lz]);refine tkH ?_ 8 rfl (by kernel_rfl) (fun _ _ _ h => h) (by rfl) ?_ ‹_› ?_;rotate_left
    ·intro w h; (try dsimp only at h); go_simp <;> with_reducible rfl
    (try simp only [Act.put, lz]);refine tkH ?_ 9 rfl (by kernel_rfl) (fun _ _ _ h => h) (by rfl) ?_ ‹_› ?_;rotate_left
    ·intro w h; (try dsimp only at h); go_simp <;> with_reducible rfl
    (try simp only [Act.put, lz]);refine tkH ?_ 10 rfl (by kernel_rfl) (fun _ _ _ h => h) (by rfl) ?_ ‹_› ?_;rotate_left
    ·intro w h; (try dsimp only at h); go_simp <;> with_reducible rfl
    (try simp only [Act.put, lz]);refine tkH ?_ 11 rfl (by kernel_rfl) (fun _ _ _ h => h) (by rfl) ?_ ‹_› ?_;rotate_left
    ·intro w hSw; (try dsimp only at hSw); go_simp <;> (try simp only [wy, wy2]) <;> with_reducible rfl
    (try simp only [Act.put, lz]);try simp only [wy, wy2]
    refine tkH ?_ 12 rfl (by kernel_rfl) (fun _ _ _ h => h) (by rfl) ?_ ‹_› ?_;rotate_left
    ·intro w h; (try dsimp only at h); go_simp <;> with_reducible rfl
    (try simp only [Act.put, lz]);refine tkH ?_ 13 rfl (by kernel_rfl) (fun _ _ _ h => h) (by rfl) ?_ ‹_› ?_;rotate_left
    ·intro w h; (try dsimp only at h); go_simp <;> with_reducible rfl
    (try simp only [Act.put, lz]);refine rdH 14 (by kernel_rfl) rfl fun K hK => ?_
    go_simp;refine (cC.out Wd KD.out).mono ?_;rintro e u1 ⟨rfl, l1'⟩;(try go_wp2_with fail);refine hK.out _ _ ?_ (fun hHeld => ?_)
    ·exact hF.out _ (KD.out.trans l1' (by simp))
    clear hK K;(try simp only [Act.put, lz]);have K1 := hid (KD.out.trans l1' (by simp))
    clear l1' KD;have hw1 : Hid (Hd u1 g o n cap A Q ∧ Kp [g] w u1) := hid ⟨hw.out.1.kept K1.out, hw.out.2.trans K1.out (by simp)⟩
    by_cases hc0 : C < 0
    ·have dc : decide (C < 0) = true := by simpa using hc0
     refine tkH ?_ 15 rfl (by kernel_rfl) (fun _ _ _ h => h) (by rfl) ?_ ‹_› ?_;rotate_left
     ·intro w hSw; (try dsimp only at hSw); go_simp <;> (try simp only [dc]) <;> with_reducible rfl
     (try simp only [Act.put, lz]);try simp only [dc]
     refine tkH ?_ 16 rfl (by kernel_rfl) (fun _ _ _ h => h) (by rfl) ?_ ‹_› ?_;rotate_left
     ·intro w h; (try dsimp only at h); go_simp <;> with_reducible rfl
     (try simp only [Act.put, lz]);refine wpAnyH_done (by kernel_rfl) ?_ _
     have hj2 : Hid (y = i ∨ cf (P i) (P y) < 0) := hid (.inr (by rw [← hQj.out, ← hQy.out, hCf.out]; exact hc0))
     clear hHeld hF cC hj hw hc0;go_wp2_with fail;refine wp_region_held_drew (S := fun _ => True) (by kernel_rfl) trivial (fun hHeld => ?_)
     have KD2 : Kp [] u1 u1.drew := (Kp.refl [] u1).drew
     have hd2 := hw1.out.1.kept KD2
     have hk2 := hid (hw1.out.2.trans KD2 (by simp))
     generalize u1.drew = Wd2 at *
     clear KD2 hw1 hV1 hV2;obtain ⟨x0, fx0⟩ := hd2.cells j (by omega)
     obtain ⟨y0, fy0⟩ := hd2.cells y (by omega)
     have hsw := hd2.swap j y (by omega) (by omega)
     have hpc := put1_cells hd2 j y (by omega) (by omega)
     obtain ⟨U1, hU1⟩ : ∃ V, V = A (Q j) := ⟨_, rfl⟩
     obtain ⟨U2, hU2⟩ : ∃ V, V = A (Q y) := ⟨_, rfl⟩
     rw [← hU1] at x0 hsw;rw [← hU2] at y0 hsw;replace hpc := hpc U2
     obtain ⟨⟨u0, hu0⟩, gu0⟩ := hpc 0 (by omega)
     try simp only [Nat.add_zero] at hu0 gu0
     obtain ⟨W1, eW1⟩ : ∃ Y, (Wd2.setCell ⟨g, o + j, none⟩ (.slice U2.a U2.l.length U2.c)) = Y := ⟨_, rfl⟩
     have eP1 : put1 Wd2 g (o + j) U2 = W1 := eW1
     obtain ⟨W2, eW2⟩ : ∃ Y, (W1.setCell ⟨g, o + y, none⟩ (.slice U1.a U1.l.length U1.c)) = Y := ⟨_, rfl⟩
     have eP2 : put1 W1 g (o + y) U1 = W2 := eW2
     have kP1 : Kp [g] Wd2 W1 := by rw [← eP1]; exact put1_kp _ _ _ _
     have kP2 : Kp [g] W1 W2 := by rw [← eP2]; exact put1_kp _ _ _ _
     simp only [eP1] at hu0 gu0 hsw;simp only [eP2] at hsw;have zW1 := kP1.size
     have HSW := hid (And.intro hsw (kP1.trans kP2 (by simp)))
     have zg : g < Wd2.heap.size := hd2.lt
     have zg1 : g < W1.heap.size := by omega
     clear hpc hsw eP1 eP2 kP1 kP2 hU1 hU2 zW1;obtain ⟨a3, c3, l3⟩ := U1;obtain ⟨a4, c4, l4⟩ := U2;dsimp only at *
     have hfin : Hid (Hd W2 g o n cap A (fun k => P (rot y i (i + 1) k)) ∧ Kp [g] w W2) := hid ⟨by
      have := HSW.out.1
      rw [hQ.out] at this;rw [rot_pull y i (by have := HYJ.out; omega), ← HYJ.out.2]
      exact this, hk2.out.trans HSW.out.2 (by simp)⟩
     have hya : a ≤ y ∧ y ≤ i := by have := HYJ.out; have := HJA.out; omega
     have hyj : y < j := by have := HYJ.out; omega
     clear hd2 HSW hk2;refine tkH ?_ 0 rfl (by kernel_rfl) (fun _ _ _ h => h) (by rfl) ?_ ‹_› ?_;rotate_left
     ·intro w h; (try dsimp only at h); go_simp <;> with_reducible rfl
     (try simp only [Act.put, lz]);refine tkH ?_ 1 rfl (by kernel_rfl) (fun _ _ _ h => h) (by rfl) ?_ ‹_› ?_;rotate_left
     ·intro w h; (try dsimp only at h); go_simp <;> with_reducible rfl
     (try simp only [Act.put, lz]);refine tkH ?_ 2 rfl (by kernel_rfl) (fun _ _ _ h => h) (by rfl) ?_ ‹_› ?_;rotate_left
     ·intro w h; (try dsimp only at h); go_simp <;> with_reducible rfl
     (try simp only [Act.put, lz]);refine tkH ?_ 3 rfl (by kernel_rfl) (fun _ _ _ h => h) (by rfl) ?_ ‹_› ?_;rotate_left
     ·intro w h; (try dsimp only at h); go_simp <;> with_reducible rfl
     (try simp only [Act.put, lz]);refine tkH ?_ 4 rfl (by kernel_rfl) (fun _ _ _ h => h) (by rfl) ?_ ‹_› ?_;rotate_left
     ·intro w hSw; (try dsimp only at hSw); go_simp <;> (try simp only [wy, wy2]) <;> with_reducible rfl
     (try simp only [Act.put, lz]);try simp only [wy, wy2]
     refine tkH ?_ 5 rfl (by kernel_rfl) (fun _ _ _ h => h) (by rfl) ?_ ‹_› ?_;rotate_left
     ·intro w h; (try dsimp only at h); go_simp <;> with_reducible rfl
     (try simp only [Act.put, lz]);refine tkH ?_ 6 rfl (by kernel_rfl) (fun _ _ _ h => h) (by rfl) ?_ ‹_› ?_;rotate_left
     ·intro w h; (try dsimp only at h); go_simp <;> with_reducible rfl
     (try simp only [Act.put, lz]);refine tkH ?_ 7 rfl (by kernel_rfl) (fun _ _ _ h => h) (by rfl) ?_ ‹_› ?_;rotate_left
     ·intro w hSw; (try dsimp only at hSw); go_simp <;> (try simp only [wy, wy2]) <;> with_reducible rfl
     (try simp only [Act.put, lz]);try simp only [wy, wy2]
     refine tkH ?_ 8 rfl (by kernel_rfl) (fun _ _ _ h => h) (by rfl) ?_ ‹_› ?_;rotate_left
     ·intro w h; (try dsimp only at h); go_simp <;> with_reducible rfl
     (try simp only [Act.put, lz]);refine tkH ?_ 10 rfl (by kernel_rfl) (fun _ _ _ h => h) (by rfl) ?_ ‹_› ?_;rotate_left
     ·intro w h; (try dsimp only at h); go_simp <;> with_reducible rfl
     (try simp only [Act.put, lz]);refine tkH ?_ 11 rfl (by kernel_rfl) (fun _ _ _ h => h) (by rfl) ?_ ‹_› ?_;rotate_left
     ·intro w h; (try dsimp only at h); go_simp <;> with_reducible rfl
     (try simp only [Act.put, lz]);refine tkH ?_ 12 rfl (by kernel_rfl) (fun _ _ _ h => h) (by rfl) ?_ ‹_› ?_;rotate_left
     ·intro w h; (try dsimp only at h); go_simp <;> with_reducible rfl
     (try simp only [Act.put, lz]);refine wpAnyH_ready (rs := [9, 13]) (by kernel_rfl) (by simp) ?_
     refine AllReadyH.cons rfl (fun K hK => ?_) (AllReadyH.cons rfl (fun K hK => ?_) AllReadyH.nil)
     ·go_simp
      (try go_wp2_with fail);refine hK.out _ _ trivial (fun hHeld => ?_)
      clear hK K;(try simp only [Act.put, lz]);refine rdH 13 (by kernel_rfl) rfl fun K hK => ?_
      go_simp;(try go_wp2_with fail);refine hK.out _ _ trivial (fun hHeld => ?_)
      clear hK K;(try simp only [Act.put, lz]);refine tkH ?_ 14 rfl (by kernel_rfl) (fun _ _ _ h => h) (by rfl) ?_ ‹_› ?_;rotate_left
      ·intro w h; (try dsimp only at h); go_simp <;> with_reducible rfl
      (try simp only [Act.put, lz]);refine rdH 15 (by kernel_rfl) rfl fun K hK => ?_
      go_simp;(try go_wp2_with fail);refine hK.out _ _ trivial (fun hHeld => ?_)
      clear hK K;(try simp only [Act.put, lz]);refine tkH ?_ 16 rfl (by kernel_rfl) (fun _ _ _ h => h) (by rfl) ?_ ‹_› ?_;rotate_left
      ·intro w h; (try dsimp only at h); go_simp <;> with_reducible rfl
      (try simp only [Act.put, lz]);refine rdH 17 (by kernel_rfl) rfl fun K hK => ?_
      go_simp;(try go_wp2_with fail);refine hK.out _ _ trivial (fun hHeld => ?_)
      clear hK K;(try simp only [Act.put, lz]);refine wpAnyH_done (by kernel_rfl) ?_ _
      clear hHeld;go_wp2_with fail;exact ⟨⟨y, hya, by go_num, hj2, hfin⟩, by simp [intOf]; omega⟩
     ·go_simp
      (try go_wp2_with fail);refine hK.out _ _ trivial (fun hHeld => ?_)
      clear hK K;(try simp only [Act.put, lz]);refine rdH 9 (by kernel_rfl) rfl fun K hK => ?_
      go_simp;(try go_wp2_with fail);refine hK.out _ _ trivial (fun hHeld => ?_)
      clear hK K;(try simp only [Act.put, lz]);refine tkH ?_ 14 rfl (by kernel_rfl) (fun _ _ _ h => h) (by rfl) ?_ ‹_› ?_;rotate_left
      ·intro w h; (try dsimp only at h); go_simp <;> with_reducible rfl
      (try simp only [Act.put, lz]);refine rdH 15 (by kernel_rfl) rfl fun K hK => ?_
      go_simp;(try go_wp2_with fail);refine hK.out _ _ trivial (fun hHeld => ?_)
      clear hK K;(try simp only [Act.put, lz]);refine tkH ?_ 16 rfl (by kernel_rfl) (fun _ _ _ h => h) (by rfl) ?_ ‹_› ?_;rotate_left
      ·intro w h; (try dsimp only at h); go_simp <;> with_reducible rfl
      (try simp only [Act.put, lz]);refine rdH 17 (by kernel_rfl) rfl fun K hK => ?_
      go_simp;(try go_wp2_with fail);refine hK.out _ _ trivial (fun hHeld => ?_)
      clear hK K;(try simp only [Act.put, lz]);refine wpAnyH_done (by kernel_rfl) ?_ _
      clear hHeld;go_wp2_with fail;exact ⟨⟨y, hya, by go_num, hj2, hfin⟩, by simp [intOf]; omega⟩
    ·have dc : decide (C < 0) = false := by simpa using hc0
     refine tkH ?_ 15 rfl (by kernel_rfl) (fun _ _ _ h => h) (by rfl) ?_ ‹_› ?_;rotate_left
     ·intro w hSw; (try dsimp only at hSw); go_simp <;> (try simp only [dc]) <;> with_reducible rfl
     (try simp only [Act.put, lz]);try simp only [dc]
     refine tkH ?_ 16 rfl (by kernel_rfl) (fun _ _ _ h => h) (by rfl) ?_ ‹_› ?_;rotate_left
     ·intro w h; (try dsimp only at h); go_simp <;> with_reducible rfl
     (try simp only [Act.put, lz]);refine wpAnyH_done (by kernel_rfl) ?_ _
     have hfin : Hid (PermIn a (i + 1) (fun k => s (rot j i (i + 1) k)) ∧ Srt (fun x y => cf x y < 0) (fun k => p (s (rot j i (i + 1) k))) a (i + 1)) := hid ⟨(hs.out.1.mono (Nat.le_refl _) (by omega)).comp (rot_perm ja ji (by omega) (Nat.le_refl _)), by
      have := ins_left HC.out.swo ja ji hs.out.2 hLow.out hj.out (.inr (by rw [← HYJ.out.1, ← hQj.out, ← hQy.out, hCf.out]; exact hc0))
      rw [hP.out] at this;exact this⟩
     have hw2 : Hid (Hd u1 g o n cap A (fun k => p (s (rot j i (i + 1) k))) ∧ Kp [g] w u1) := hid ⟨by have := hw1.out.1; rw [hQ.out, hP.out] at this; exact this, hw1.out.2⟩
     clear hHeld hF cC hj hw hc0 hw1;go_wp2_with fail;exact ⟨⟨i + 1, fun k => s (rot j i (i + 1) k), by omega, by go_num, hfin, hw2⟩, by simp [intOf]; omega⟩
  ·have e : i = b := by omega
   subst e;go_wp2_with fail;go_end0
   exact ⟨⟨_, rfl⟩, s, hs.out.1, hs.out.2, hr.out.1, hr.out.2⟩
theorem cSymA {fid : Nat} (g o n cap : Nat) (A : Nat → Vs) (cv : Value) (cf : Nat → Nat → Int) (Inv : World → Prop) (hC : CmpOk fid g n A cv cf Inv) (p : Nat → Nat) (a m b : Nat) (w : World) (h : Hd w g o n cap A p) (hI : Inv w) (hpn : ∀ k, k < n → p k < n) (h1 : a < m) (h2 : m < b) (h3 : b ≤ n) (hA : Srt (fun x y => cf x y < 0) p a m) (hB : Srt (fun x y => cf x y < 0) p m b) (hLo : Low p a m b) (hn : n ≤ 4000000000000) (hcap : n ≤ cap) (hma : m ≤ a + 1) : Calls Tryz.prog 170 #[.slice (some ⟨g, o, none⟩) n cap, .int .i64 (a : Int), .int .i64 (m : Int), .int .i64 (b : Int), .func (.func fid) #[] #[cv]] w fun e w' => (∃ v, e = .returned v) ∧ ∃ s, PermIn a b s ∧ Srt (fun x y => cf x y < 0) (fun k => p (s k)) a b ∧ Hd w' g o n cap A (fun k => p (s k)) ∧ Kp [g] w w' := by
 have HC := hid hC
 have hE := hC.enter
 have HI := hid hI
 have HH := hid h
 have HPN := hid hpn
 have HSR := hid (And.intro hA (And.intro hB hLo))
 have q1 : (-9223372036854775808 : Int) ≤ (m : Int) - (a : Int) := by omega
 have q2 : (m : Int) - (a : Int) ≤ 9223372036854775807 := by omega
 clear hC hI h hpn hA hB hLo;have hm1 : (m : Int) - (a : Int) = 1 := by omega
 go_enter Tryz.func170, Tryz.ntmps170
 go_wp2_with fail;clear q1 q2 hm1;go_loopw [10, 11, 12] (fun iv jv _ wr => ∃ i j : Nat, (m ≤ i ∧ i ≤ j ∧ j ≤ b) ∧ iv = .int .i64 (i : Int) ∧ jv = .int .i64 (j : Int) ∧ Hid ((i = m ∨ cf (p (i - 1)) (p a) < 0) ∧ (j = b ∨ 0 ≤ cf (p j) (p a))) ∧ Hid (Hd wr g o n cap A p ∧ Kp [g] w wr)) (fun iv jv _ _ => (intOf jv).toNat - (intOf iv).toNat)
 case atStart => exact ⟨m, b, by omega, rfl, rfl, hid ⟨.inl rfl, .inl rfl⟩, hid ⟨HH.out, Kp.refl _ _⟩⟩
 case round =>
  obtain ⟨i, j, ⟨bi, bij, bj⟩, rfl, rfl, hs, hw⟩ := hrel
  by_cases hij : i < j
  ·have i0 : (i : Int) < (j : Int) := by omega
   obtain ⟨t, ht⟩ : ∃ t : Nat, t = i + j := ⟨_, rfl⟩
   obtain ⟨h, hh⟩ : ∃ h : Nat, h = t / 2 := ⟨_, rfl⟩
   have et : (i : Int) + (j : Int) = (t : Int) := by omega
   have et1 : (-9223372036854775808 : Int) ≤ (i : Int) + (j : Int) := by omega
   have et2 : (i : Int) + (j : Int) ≤ 9223372036854775807 := by omega
   have et3 : (0 : Int) ≤ (t : Int) := by omega
   have et4 : (t : Int) ≤ 9223372036854775807 := by omega
   have et5 : (t : Int) < 18446744073709551616 := by omega
   have eh : (t : Int) / 2 = (h : Int) := by omega
   have eh2 : (h : Int) ≤ 9223372036854775807 := by omega
   have eu : IntKind.u64.wrap (t : Int) = (t : Int) := by rw [IntKind.wrap_u64]; omega
   have ew : IntKind.i64.wrap (h : Int) = (h : Int) := by rw [IntKind.wrap_i64]; omega
   have ewt : IntKind.i64.wrap (t : Int) = (t : Int) := by rw [IntKind.wrap_i64]; omega
   have hhb : i ≤ h ∧ h < j := by omega
   have HT := hid (And.intro ht hh)
   clear ht hh;have i1 : (0 : Int) ≤ (h : Int) := by omega
   have i2 : (h : Int) < (n : Int) := by omega
   have i5 : (h : Int) + 1 ≤ 9223372036854775807 := by omega
   have i3 : (0 : Int) ≤ (a : Int) := by omega
   have i4 : (a : Int) < (n : Int) := by omega
   have cC := hid (fun W' (k : Kp [] wr W') => HC.out.calls W' (p h) (p a) (HC.out.keep _ _ HI.out (hw.out.2.trans k (by simp))) (HPN.out _ (by omega)) (HPN.out _ (by omega)))
   obtain ⟨x0, _⟩ := hw.out.1.cells h (by omega)
   obtain ⟨y0, _⟩ := hw.out.1.cells a (by omega)
   obtain ⟨V1, hV1⟩ : ∃ V, Hid (V = A (p h)) := ⟨_, hid rfl⟩
   obtain ⟨V2, hV2⟩ : ∃ V, Hid (V = A (p a)) := ⟨_, hid rfl⟩
   rw [← hV1.out] at x0 cC;rw [← hV2.out] at y0 cC;obtain ⟨C, hCf⟩ : ∃ C, Hid (cf (p h) (p a) = C) := ⟨_, hid rfl⟩
   rw [hCf.out] at cC;obtain ⟨a1, c1, l1⟩ := V1;obtain ⟨a2, c2, l2⟩ := V2;simp only [Vs.v] at cC;dsimp only at *;have hF : Hid (∀ W', Kp [] wr W' → (W'.cell? ⟨g, o + h, none⟩ = some (.slice a1 l1.length c1) ∧ W'.cell? ⟨g, o + a, none⟩ = some (.slice a2 l2.length c2))) := fun W' k => ⟨kpAt k x0, kpAt k y0⟩
   clear x0 y0 hV1 hV2;go_wp2_with fail;refine wp_region_held_drew (S := fun W' => W'.cell? ⟨g, o + h, none⟩ = some (.slice a1 l1.length c1) ∧ W'.cell? ⟨g, o + a, none⟩ = some (.slice a2 l2.length c2)) (by kernel_rfl) ?_ (fun hHeld => ?_)
   ·exact hF.out _ (Kp.refl [] wr).drew
   have KD : Hid (Kp [] wr wr.drew) := hid (Kp.refl [] wr).drew
   generalize wr.drew = Wd at *
   refine tkH ?_ 0 rfl (by kernel_rfl) (fun _ _ _ h => h) (by rfl) ?_ ‹_› ?_;rotate_left
   ·intro w h; (try dsimp only at h); go_simp <;> with_reducible rfl
   (try simp only [Act.put, lz]);refine tkH ?_ 1 rfl (by kernel_rfl) (fun _ _ _ h => h) (by rfl) ?_ ‹_› ?_;rotate_left
   ·intro w h; (try dsimp only at h); go_simp <;> with_reducible rfl
   (try simp only [Act.put, lz]);refine tkH ?_ 2 rfl (by kernel_rfl) (fun _ _ _ h => h) (by rfl) ?_ ‹_› ?_;rotate_left
   ·intro w h; (try dsimp only at h); go_simp <;> with_reducible rfl
   (try simp only [Act.put, lz]);refine tkH ?_ 3 rfl (by kernel_rfl) (fun _ _ _ h => h) (by rfl) ?_ ‹_› ?_;rotate_left
   ·intro w h; (try dsimp only at h); go_simp <;> with_reducible rfl
   (try simp only [Act.put, lz]);refine tkH ?_ 4 rfl (by kernel_rfl) (fun _ _ _ h => h) (by rfl) ?_ ‹_› ?_;rotate_left
   ·intro w h; (try dsimp only at h); go_simp <;> with_reducible rfl
   (try simp only [Act.put, lz]);refine tkH ?_ 5 rfl (by kernel_rfl) (fun _ _ _ h => h) (by rfl) ?_ ‹_› ?_;rotate_left
   ·intro w h; (try dsimp only at h); go_simp <;> with_reducible rfl
   (try simp only [Act.put, lz]);refine tkH ?_ 6 rfl (by kernel_rfl) (fun _ _ _ h => h) (by rfl) ?_ ‹_› ?_;rotate_left
   ·intro w h; (try dsimp only at h); go_simp <;> with_reducible rfl
   (try simp only [Act.put, lz]);refine tkH ?_ 7 rfl (by kernel_rfl) (fun _ _ _ h => h) (by rfl) ?_ ‹_› ?_;rotate_left
   ·intro w h; (try dsimp only at h); go_simp <;> with_reducible rfl
   (try simp only [Act.put, lz]);refine tkH ?_ 8 rfl (by kernel_rfl) (fun _ _ _ h => h) (by rfl) ?_ ‹_› ?_;rotate_left
   ·intro w h; (try dsimp only at h); go_simp <;> with_reducible rfl
   (try simp only [Act.put, lz]);refine rdH 9 (by kernel_rfl) rfl fun K hK => ?_
   go_simp;refine (cC.out Wd KD.out).mono ?_;rintro e u1 ⟨rfl, l1'⟩;(try go_wp2_with fail);refine hK.out _ _ ?_ (fun hHeld => ?_)
   ·exact hF.out _ (KD.out.trans l1' (by simp))
   clear hK K;(try simp only [Act.put, lz]);have K1 := hid (KD.out.trans l1' (by simp))
   clear l1' KD;have hw1 : Hid (Hd u1 g o n cap A p ∧ Kp [g] w u1) := hid ⟨hw.out.1.kept K1.out, hw.out.2.trans K1.out (by simp)⟩
   by_cases hc0 : C < 0
   ·have dc : decide (C < 0) = true := by simpa using hc0
    refine tkH ?_ 10 rfl (by kernel_rfl) (fun _ _ _ h => h) (by rfl) ?_ ‹_› ?_;rotate_left
    ·intro w hSw; (try dsimp only at hSw); go_simp <;> (try simp only [dc]) <;> with_reducible rfl
    (try simp only [Act.put, lz]);try simp only [dc]
    refine wpAnyH_done (by kernel_rfl) ?_ _
    have hs2 : Hid ((h + 1 = m ∨ cf (p (h + 1 - 1)) (p a) < 0) ∧ (j = b ∨ 0 ≤ cf (p j) (p a))) := hid ⟨.inr (by rw [Nat.add_sub_cancel, hCf.out]; exact hc0), hs.out.2⟩
    clear hHeld hF cC hs hw hc0;go_wp2_with fail;exact ⟨⟨h + 1, j, by omega, by go_num, rfl, hs2, hw1⟩, by simp [intOf]; omega⟩
   ·have dc : decide (C < 0) = false := by simpa using hc0
    refine tkH ?_ 10 rfl (by kernel_rfl) (fun _ _ _ h => h) (by rfl) ?_ ‹_› ?_;rotate_left
    ·intro w hSw; (try dsimp only at hSw); go_simp <;> (try simp only [dc]) <;> with_reducible rfl
    (try simp only [Act.put, lz]);try simp only [dc]
    refine wpAnyH_done (by kernel_rfl) ?_ _
    have hs2 : Hid ((i = m ∨ cf (p (i - 1)) (p a) < 0) ∧ (h = b ∨ 0 ≤ cf (p h) (p a))) := hid ⟨hs.out.1, .inr (by rw [hCf.out]; omega)⟩
    clear hHeld hF cC hs hw hc0;go_wp2_with fail;exact ⟨⟨i, h, by omega, rfl, rfl, hs2, hw1⟩, by simp [intOf]; omega⟩
  ·have e : j = i := by omega
   subst e
   have hfin : Hid (PermIn a b (rot a (a + 1) j) ∧ Srt (fun x y => cf x y < 0) (fun k => p (rot a (a + 1) j k)) a b) := hid ⟨rot_perm (Nat.le_refl _) (by omega) (by omega) bj, by
    have em : m = a + 1 := by omega
    refine ins_right HC.out.swo (by omega) bj (em ▸ HSR.out.2.1) (em ▸ HSR.out.2.2) ?_ (hs.out.2.imp_right fun h => Int.not_lt.2 h)
    have := hs.out.1
    rwa [em] at this⟩
   have q3 : (-9223372036854775808 : Int) ≤ (j : Int) - 1 := by omega
   have q4 : (j : Int) - 1 ≤ 9223372036854775807 := by omega
   clear hs;go_wp2_with fail;go_loopw [13] (fun kv wn => ∃ k : Nat, (a ≤ k ∧ k + 1 ≤ j) ∧ kv = .int .i64 (k : Int) ∧ Hid (Hd wn g o n cap A (fun x => p (rot a (a + 1) (k + 1) x)) ∧ Kp [g] w wn)) (fun kv _ => j - (intOf kv).toNat)
   case atStart => exact ⟨a, by omega, rfl, hid ⟨by rw [rot_right a (a + 1) (by omega)]; exact hw.out.1, hw.out.2⟩⟩
   case round =>
    obtain ⟨k, ⟨bk, bk2⟩, rfl, hw3⟩ := hrel;clear hw
    by_cases hkj : k + 1 < j
    ·have d1 : decide ((k : Int) < (j : Int) - 1) = true := by simp; omega
     have d2 : (k : Int) < (j : Int) - 1 := by omega
     obtain ⟨y, hy⟩ : ∃ y : Nat, y = k + 1 := ⟨_, rfl⟩
     have ey : (k : Int) + 1 = (y : Int) := by omega
     have wy : IntKind.i64.wrap ((k : Int) + 1) = (y : Int) := by rw [ey, IntKind.wrap_i64]; omega
     have wy2 : IntKind.i64.wrap (y : Int) = (y : Int) := by rw [IntKind.wrap_i64]; omega
     have i1 : (0 : Int) ≤ (k : Int) := by omega
     have i2 : (k : Int) < (n : Int) := by omega
     have i3 : (0 : Int) ≤ (y : Int) := by omega
     have i4 : (y : Int) < (n : Int) := by omega
     have b1 : (-9223372036854775808 : Int) ≤ (k : Int) + 1 := by omega
     have b2 : (k : Int) + 1 ≤ 9223372036854775807 := by omega
     have HY := hid hy
     obtain ⟨Q, hQ⟩ : ∃ Q, Hid (Q = fun x => p (rot a (a + 1) (k + 1) x)) := ⟨_, hid rfl⟩
     rw [← hQ.out] at hw3;have hyb : y < n ∧ y + 1 ≤ j := by omega
     clear hy;go_wp2_with fail;refine wp_region_held_drew (S := fun _ => True) (by kernel_rfl) trivial (fun hHeld => ?_)
     have KD2 : Kp [] wr wr.drew := (Kp.refl [] wr).drew
     have hd2 := hw3.out.1.kept KD2
     have hk2 := hid (hw3.out.2.trans KD2 (by simp))
     generalize wr.drew = Wd2 at *
     clear KD2 hw3;obtain ⟨x0, fx0⟩ := hd2.cells k (by omega)
     obtain ⟨y0, fy0⟩ := hd2.cells y (by omega)
     have hsw := hd2.swap k y (by omega) (by omega)
     have hpc := put1_cells hd2 k y (by omega) (by omega)
     obtain ⟨U1, hU1⟩ : ∃ V, V = A (Q k) := ⟨_, rfl⟩
     obtain ⟨U2, hU2⟩ : ∃ V, V = A (Q y) := ⟨_, rfl⟩
     rw [← hU1] at x0 hsw;rw [← hU2] at y0 hsw;replace hpc := hpc U2
     obtain ⟨⟨u0, hu0⟩, gu0⟩ := hpc 0 (by omega)
     try simp only [Nat.add_zero] at hu0 gu0
     obtain ⟨W1, eW1⟩ : ∃ Y, (Wd2.setCell ⟨g, o + k, none⟩ (.slice U2.a U2.l.length U2.c)) = Y := ⟨_, rfl⟩
     have eP1 : put1 Wd2 g (o + k) U2 = W1 := eW1
     obtain ⟨W2, eW2⟩ : ∃ Y, (W1.setCell ⟨g, o + y, none⟩ (.slice U1.a U1.l.length U1.c)) = Y := ⟨_, rfl⟩
     have eP2 : put1 W1 g (o + y) U1 = W2 := eW2
     have kP1 : Kp [g] Wd2 W1 := by rw [← eP1]; exact put1_kp _ _ _ _
     have kP2 : Kp [g] W1 W2 := by rw [← eP2]; exact put1_kp _ _ _ _
     simp only [eP1] at hu0 gu0 hsw;simp only [eP2] at hsw;have zW1 := kP1.size
     have HSW := hid (And.intro hsw (kP1.trans kP2 (by simp)))
     have zg : g < Wd2.heap.size := hd2.lt
     have zg1 : g < W1.heap.size := by omega
     clear hpc hsw eP1 eP2 kP1 kP2 hU1 hU2 zW1;obtain ⟨a3, c3, l3⟩ := U1;obtain ⟨a4, c4, l4⟩ := U2;dsimp only at *
     have hfin2 : Hid (Hd W2 g o n cap A (fun x => p (rot a (a + 1) (y + 1) x)) ∧ Kp [g] w W2) := hid ⟨by
      have := HSW.out.1
      rw [hQ.out] at this;have e := HY.out
      subst e;rw [rot_push a k j bk hkj];exact this, hk2.out.trans HSW.out.2 (by simp)⟩
     have hky : a ≤ y ∧ k < y := by have := HY.out; omega
     clear hd2 HSW hk2;refine tkH ?_ 0 rfl (by kernel_rfl) (fun _ _ _ h => h) (by rfl) ?_ ‹_› ?_;rotate_left
     ·intro w h; (try dsimp only at h); go_simp <;> with_reducible rfl
     (try simp only [Act.put, lz]);refine tkH ?_ 1 rfl (by kernel_rfl) (fun _ _ _ h => h) (by rfl) ?_ ‹_› ?_;rotate_left
     ·intro w h; (try dsimp only at h); go_simp <;> with_reducible rfl
     (try simp only [Act.put, lz]);refine tkH ?_ 2 rfl (by kernel_rfl) (fun _ _ _ h => h) (by rfl) ?_ ‹_› ?_;rotate_left
     ·intro w h; (try dsimp only at h); go_simp <;> with_reducible rfl
     (try simp only [Act.put, lz]);refine tkH ?_ 3 rfl (by kernel_rfl) (fun _ _ _ h => h) (by rfl) ?_ ‹_› ?_;rotate_left
     ·intro w h; (try dsimp only at h); go_simp <;> with_reducible rfl
     (try simp only [Act.put, lz]);refine tkH ?_ 4 rfl (by kernel_rfl) (fun _ _ _ h => h) (by rfl) ?_ ‹_› ?_;rotate_left
     ·intro w hSw; (try dsimp only at hSw); go_simp <;> (try simp only [wy, wy2]) <;> with_reducible rfl
     (try simp only [Act.put, lz]);try simp only [wy, wy2]
     refine tkH ?_ 5 rfl (by kernel_rfl) (fun _ _ _ h => h) (by rfl) ?_ ‹_› ?_;rotate_left
     ·intro w h; (try dsimp only at h); go_simp <;> with_reducible rfl
     (try simp only [Act.put, lz]);refine tkH ?_ 6 rfl (by kernel_rfl) (fun _ _ _ h => h) (by rfl) ?_ ‹_› ?_;rotate_left
     ·intro w h; (try dsimp only at h); go_simp <;> with_reducible rfl
     (try simp only [Act.put, lz]);refine tkH ?_ 7 rfl (by kernel_rfl) (fun _ _ _ h => h) (by rfl) ?_ ‹_› ?_;rotate_left
     ·intro w hSw; (try dsimp only at hSw); go_simp <;> (try simp only [wy, wy2]) <;> with_reducible rfl
     (try simp only [Act.put, lz]);try simp only [wy, wy2]
     refine tkH ?_ 8 rfl (by kernel_rfl) (fun _ _ _ h => h) (by rfl) ?_ ‹_› ?_;rotate_left
     ·intro w h; (try dsimp only at h); go_simp <;> with_reducible rfl
     (try simp only [Act.put, lz]);refine tkH ?_ 10 rfl (by kernel_rfl) (fun _ _ _ h => h) (by rfl) ?_ ‹_› ?_;rotate_left
     ·intro w h; (try dsimp only at h); go_simp <;> with_reducible rfl
     (try simp only [Act.put, lz]);refine tkH ?_ 11 rfl (by kernel_rfl) (fun _ _ _ h => h) (by rfl) ?_ ‹_› ?_;rotate_left
     ·intro w h; (try dsimp only at h); go_simp <;> with_reducible rfl
     (try simp only [Act.put, lz]);refine tkH ?_ 12 rfl (by kernel_rfl) (fun _ _ _ h => h) (by rfl) ?_ ‹_› ?_;rotate_left
     ·intro w h; (try dsimp only at h); go_simp <;> with_reducible rfl
     (try simp only [Act.put, lz]);refine wpAnyH_ready (rs := [9, 13]) (by kernel_rfl) (by simp) ?_
     refine AllReadyH.cons rfl (fun K hK => ?_) (AllReadyH.cons rfl (fun K hK => ?_) AllReadyH.nil)
     ·go_simp
      (try go_wp2_with fail);refine hK.out _ _ trivial (fun hHeld => ?_)
      clear hK K;(try simp only [Act.put, lz]);refine rdH 13 (by kernel_rfl) rfl fun K hK => ?_
      go_simp;(try go_wp2_with fail);refine hK.out _ _ trivial (fun hHeld => ?_)
      clear hK K;(try simp only [Act.put, lz]);refine tkH ?_ 14 rfl (by kernel_rfl) (fun _ _ _ h => h) (by rfl) ?_ ‹_› ?_;rotate_left
      ·intro w h; (try dsimp only at h); go_simp <;> with_reducible rfl
      (try simp only [Act.put, lz]);refine rdH 15 (by kernel_rfl) rfl fun K hK => ?_
      go_simp;(try go_wp2_with fail);refine hK.out _ _ trivial (fun hHeld => ?_)
      clear hK K;(try simp only [Act.put, lz]);refine tkH ?_ 16 rfl (by kernel_rfl) (fun _ _ _ h => h) (by rfl) ?_ ‹_› ?_;rotate_left
      ·intro w h; (try dsimp only at h); go_simp <;> with_reducible rfl
      (try simp only [Act.put, lz]);refine rdH 17 (by kernel_rfl) rfl fun K hK => ?_
      go_simp;(try go_wp2_with fail);refine hK.out _ _ trivial (fun hHeld => ?_)
      clear hK K;(try simp only [Act.put, lz]);refine wpAnyH_done (by kernel_rfl) ?_ _
      clear hHeld;go_wp2_with fail;exact ⟨⟨y, by omega, by go_num, hfin2⟩, by simp [intOf]; omega⟩
     ·go_simp
      (try go_wp2_with fail);refine hK.out _ _ trivial (fun hHeld => ?_)
      clear hK K;(try simp only [Act.put, lz]);refine rdH 9 (by kernel_rfl) rfl fun K hK => ?_
      go_simp;(try go_wp2_with fail);refine hK.out _ _ trivial (fun hHeld => ?_)
      clear hK K;(try simp only [Act.put, lz]);refine tkH ?_ 14 rfl (by kernel_rfl) (fun _ _ _ h => h) (by rfl) ?_ ‹_› ?_;rotate_left
      ·intro w h; (try dsimp only at h); go_simp <;> with_reducible rfl
      (try simp only [Act.put, lz]);refine rdH 15 (by kernel_rfl) rfl fun K hK => ?_
      go_simp;(try go_wp2_with fail);refine hK.out _ _ trivial (fun hHeld => ?_)
      clear hK K;(try simp only [Act.put, lz]);refine tkH ?_ 16 rfl (by kernel_rfl) (fun _ _ _ h => h) (by rfl) ?_ ‹_› ?_;rotate_left
      ·intro w h; (try dsimp only at h); go_simp <;> with_reducible rfl
      (try simp only [Act.put, lz]);refine rdH 17 (by kernel_rfl) rfl fun K hK => ?_
      go_simp;(try go_wp2_with fail);refine hK.out _ _ trivial (fun hHeld => ?_)
      clear hK K;(try simp only [Act.put, lz]);refine wpAnyH_done (by kernel_rfl) ?_ _
      clear hHeld;go_wp2_with fail;exact ⟨⟨y, by omega, by go_num, hfin2⟩, by simp [intOf]; omega⟩
    ·have d1 : decide ((k : Int) < (j : Int) - 1) = false := by simp; omega
     have d2 : ¬ ((k : Int) < (j : Int) - 1) := by omega
     have ek : k + 1 = j := by omega
     rw [ek] at hw3;clear ek;go_wp2_with fail;refine bodyPost_ret (results_none rfl _ _ _) rfl ?_;exact ⟨⟨_, rfl⟩, _, hfin.out.1, hfin.out.2, hw3.out.1, hw3.out.2⟩
theorem cSymB {fid : Nat} (g o n cap : Nat) (A : Nat → Vs) (cv : Value) (cf : Nat → Nat → Int) (Inv : World → Prop) (hC : CmpOk fid g n A cv cf Inv) (p : Nat → Nat) (a m b : Nat) (w : World) (h : Hd w g o n cap A p) (hI : Inv w) (hpn : ∀ k, k < n → p k < n) (h1 : a < m) (h2 : m < b) (h3 : b ≤ n) (hA : Srt (fun x y => cf x y < 0) p a m) (hB : Srt (fun x y => cf x y < 0) p m b) (hLo : Low p a m b) (hn : n ≤ 4000000000000) (hcap : n ≤ cap) (hma : a + 1 < m) (hmb : b ≤ m + 1) : Calls Tryz.prog 170 #[.slice (some ⟨g, o, none⟩) n cap, .int .i64 (a : Int), .int .i64 (m : Int), .int .i64 (b : Int), .func (.func fid) #[] #[cv]] w fun e w' => (∃ v, e = .returned v) ∧ ∃ s, PermIn a b s ∧ Srt (fun x y => cf x y < 0) (fun k => p (s k)) a b ∧ Hd w' g o n cap A (fun k => p (s k)) ∧ Kp [g] w w' := by
 have HC := hid hC
 have hE := hC.enter
 have HI := hid hI
 have HH := hid h
 have HPN := hid hpn
 have HSR := hid (And.intro hA (And.intro hB hLo))
 have q1 : (-9223372036854775808 : Int) ≤ (m : Int) - (a : Int) := by omega
 have q2 : (m : Int) - (a : Int) ≤ 9223372036854775807 := by omega
 clear hC hI h hpn hA hB hLo;have hm1 : ((m : Int) - (a : Int) == 1) = false := by simp; omega
 have hm2 : ¬ ((m : Int) - (a : Int) = 1) := by omega
 have hb1 : (b : Int) - (m : Int) = 1 := by omega
 have q3 : (-9223372036854775808 : Int) ≤ (b : Int) - (m : Int) := by omega
 have q4 : (b : Int) - (m : Int) ≤ 9223372036854775807 := by omega
 go_enter Tryz.func170, Tryz.ntmps170
 go_wp2_with fail;clear q1 q2 hm1 hm2 hb1 q3 q4;go_loopw [14, 15, 16] (fun iv jv _ wr => ∃ i j : Nat, (a ≤ i ∧ i ≤ j ∧ j ≤ m) ∧ iv = .int .i64 (i : Int) ∧ jv = .int .i64 (j : Int) ∧ Hid ((i = a ∨ 0 ≤ cf (p m) (p (i - 1))) ∧ (j = m ∨ cf (p m) (p j) < 0)) ∧ Hid (Hd wr g o n cap A p ∧ Kp [g] w wr)) (fun iv jv _ _ => (intOf jv).toNat - (intOf iv).toNat)
 case atStart => exact ⟨a, m, by omega, rfl, rfl, hid ⟨.inl rfl, .inl rfl⟩, hid ⟨HH.out, Kp.refl _ _⟩⟩
 case round =>
  obtain ⟨i, j, ⟨bi, bij, bj⟩, rfl, rfl, hs, hw⟩ := hrel
  by_cases hij : i < j
  ·have i0 : (i : Int) < (j : Int) := by omega
   obtain ⟨t, ht⟩ : ∃ t : Nat, t = i + j := ⟨_, rfl⟩
   obtain ⟨h, hh⟩ : ∃ h : Nat, h = t / 2 := ⟨_, rfl⟩
   have et : (i : Int) + (j : Int) = (t : Int) := by omega
   have et1 : (-9223372036854775808 : Int) ≤ (i : Int) + (j : Int) := by omega
   have et2 : (i : Int) + (j : Int) ≤ 9223372036854775807 := by omega
   have et3 : (0 : Int) ≤ (t : Int) := by omega
   have et4 : (t : Int) ≤ 9223372036854775807 := by omega
   have et5 : (t : Int) < 18446744073709551616 := by omega
   have eh : (t : Int) / 2 = (h : Int) := by omega
   have eh2 : (h : Int) ≤ 9223372036854775807 := by omega
   have eu : IntKind.u64.wrap (t : Int) = (t : Int) := by rw [IntKind.wrap_u64]; omega
   have ew : IntKind.i64.wrap (h : Int) = (h : Int) := by rw [IntKind.wrap_i64]; omega
   have ewt : IntKind.i64.wrap (t : Int) = (t : Int) := by rw [IntKind.wrap_i64]; omega
   have hhb : i ≤ h ∧ h < j := by omega
   have HT := hid (And.intro ht hh)
   clear ht hh;have i1 : (0 : Int) ≤ (h : Int) := by omega
   have i2 : (h : Int) < (n : Int) := by omega
   have i5 : (h : Int) + 1 ≤ 9223372036854775807 := by omega
   have i3 : (0 : Int) ≤ (m : Int) := by omega
   have i4 : (m : Int) < (n : Int) := by omega
   have cC := hid (fun W' (k : Kp [] wr W') => HC.out.calls W' (p m) (p h) (HC.out.keep _ _ HI.out (hw.out.2.trans k (by simp))) (HPN.out _ (by omega)) (HPN.out _ (by omega)))
   obtain ⟨x0, _⟩ := hw.out.1.cells m (by omega)
   obtain ⟨y0, _⟩ := hw.out.1.cells h (by omega)
   obtain ⟨V1, hV1⟩ : ∃ V, Hid (V = A (p m)) := ⟨_, hid rfl⟩
   obtain ⟨V2, hV2⟩ : ∃ V, Hid (V = A (p h)) := ⟨_, hid rfl⟩
   rw [← hV1.out] at x0 cC;rw [← hV2.out] at y0 cC;obtain ⟨C, hCf⟩ : ∃ C, Hid (cf (p m) (p h) = C) := ⟨_, hid rfl⟩
   rw [hCf.out] at cC;obtain ⟨a1, c1, l1⟩ := V1;obtain ⟨a2, c2, l2⟩ := V2;simp only [Vs.v] at cC;dsimp only at *;have hF : Hid (∀ W', Kp [] wr W' → (W'.cell? ⟨g, o + m, none⟩ = some (.slice a1 l1.length c1) ∧ W'.cell? ⟨g, o + h, none⟩ = some (.slice a2 l2.length c2))) := fun W' k => ⟨kpAt k x0, kpAt k y0⟩
   clear x0 y0 hV1 hV2;go_wp2_with fail;refine wp_region_held_drew (S := fun W' => W'.cell? ⟨g, o + m, none⟩ = some (.slice a1 l1.length c1) ∧ W'.cell? ⟨g, o + h, none⟩ = some (.slice a2 l2.length c2)) (by kernel_rfl) ?_ (fun hHeld => ?_)
   ·exact hF.out _ (Kp.refl [] wr).drew
   have KD : Hid (Kp [] wr wr.drew) := hid (Kp.refl [] wr).drew
   generalize wr.drew = Wd at *
   refine tkH ?_ 0 rfl (by kernel_rfl) (fun _ _ _ h => h) (by rfl) ?_ ‹_› ?_;rotate_left
   ·intro w h; (try dsimp only at h); go_simp <;> with_reducible rfl
   (try simp only [Act.put, lz]);refine tkH ?_ 1 rfl (by kernel_rfl) (fun _ _ _ h => h) (by rfl) ?_ ‹_› ?_;rotate_left
   ·intro w h; (try dsimp only at h); go_simp <;> with_reducible rfl
   (try simp only [Act.put, lz]);refine tkH ?_ 2 rfl (by kernel_rfl) (fun _ _ _ h => h) (by rfl) ?_ ‹_› ?_;rotate_left
   ·intro w h; (try dsimp only at h); go_simp <;> with_reducible rfl
   (try simp only [Act.put, lz]);refine tkH ?_ 3 rfl (by kernel_rfl) (fun _ _ _ h => h) (by rfl) ?_ ‹_› ?_;rotate_left
   ·intro w h; (try dsimp only at h); go_simp <;> with_reducible rfl
   (try simp only [Act.put, lz]);refine tkH ?_ 4 rfl (by kernel_rfl) (fun _ _ _ h => h) (by rfl) ?_ ‹_› ?_;rotate_left
   ·intro w h; (try dsimp only at h); go_simp <;> with_reducible rfl
   (try simp only [Act.put, lz]);refine tkH ?_ 5 rfl (by kernel_rfl) (fun _ _ _ h => h) (by rfl) ?_ ‹_› ?_;rotate_left
   ·intro w h; (try dsimp only at h); go_simp <;> with_reducible rfl
   (try simp only [Act.put, lz]);refine tkH ?_ 6 rfl (by kernel_rfl) (fun _ _ _ h => h) (by rfl) ?_ ‹_› ?_;rotate_left
   ·intro w h; (try dsimp only at h); go_simp <;> with_reducible rfl
   (try simp only [Act.put, lz]);refine tkH ?_ 7 rfl (by kernel_rfl) (fun _ _ _ h => h) (by rfl) ?_ ‹_› ?_;rotate_left
   ·intro w h; (try dsimp only at h); go_simp <;> with_reducible rfl
   (try simp only [Act.put, lz]);refine tkH ?_ 8 rfl (by kernel_rfl) (fun _ _ _ h => h) (by rfl) ?_ ‹_› ?_;rotate_left
   ·intro w h; (try dsimp only at h); go_simp <;> with_reducible rfl
   (try simp only [Act.put, lz]);refine rdH 9 (by kernel_rfl) rfl fun K hK => ?_
   go_simp;refine (cC.out Wd KD.out).mono ?_;rintro e u1 ⟨rfl, l1'⟩;(try go_wp2_with fail);refine hK.out _ _ ?_ (fun hHeld => ?_)
   ·exact hF.out _ (KD.out.trans l1' (by simp))
   clear hK K;(try simp only [Act.put, lz]);have K1 := hid (KD.out.trans l1' (by simp))
   clear l1' KD;have hw1 : Hid (Hd u1 g o n cap A p ∧ Kp [g] w u1) := hid ⟨hw.out.1.kept K1.out, hw.out.2.trans K1.out (by simp)⟩
   by_cases hc0 : C < 0
   ·have dc : decide (C < 0) = true := by simpa using hc0
    refine tkH ?_ 10 rfl (by kernel_rfl) (fun _ _ _ h => h) (by rfl) ?_ ‹_› ?_;rotate_left
    ·intro w hSw; (try dsimp only at hSw); go_simp <;> (try simp only [dc]) <;> with_reducible rfl
    (try simp only [Act.put, lz]);try simp only [dc]
    refine tkH ?_ 11 rfl (by kernel_rfl) (fun _ _ _ h => h) (by rfl) ?_ ‹_› ?_;rotate_left
    ·intro w h; (try dsimp only at h); go_simp <;> with_reducible rfl
    (try simp only [Act.put, lz]);try simp only [Bool.not_true, Bool.not_false]
    refine wpAnyH_done (by kernel_rfl) ?_ _
    have hs2 : Hid ((i = a ∨ 0 ≤ cf (p m) (p (i - 1))) ∧ (h = m ∨ cf (p m) (p h) < 0)) := hid ⟨hs.out.1, .inr (by rw [hCf.out]; exact hc0)⟩
    clear hHeld hF cC hs hw hc0;go_wp2_with fail;exact ⟨⟨i, h, by omega, rfl, rfl, hs2, hw1⟩, by simp [intOf]; omega⟩
   ·have dc : decide (C < 0) = false := by simpa using hc0
    refine tkH ?_ 10 rfl (by kernel_rfl) (fun _ _ _ h => h) (by rfl) ?_ ‹_› ?_;rotate_left
    ·intro w hSw; (try dsimp only at hSw); go_simp <;> (try simp only [dc]) <;> with_reducible rfl
    (try simp only [Act.put, lz]);try simp only [dc]
    refine tkH ?_ 11 rfl (by kernel_rfl) (fun _ _ _ h => h) (by rfl) ?_ ‹_› ?_;rotate_left
    ·intro w h; (try dsimp only at h); go_simp <;> with_reducible rfl
    (try simp only [Act.put, lz]);try simp only [Bool.not_true, Bool.not_false]
    refine wpAnyH_done (by kernel_rfl) ?_ _
    have hs2 : Hid ((h + 1 = a ∨ 0 ≤ cf (p m) (p (h + 1 - 1))) ∧ (j = m ∨ cf (p m) (p j) < 0)) := hid ⟨.inr (by rw [Nat.add_sub_cancel, hCf.out]; omega), hs.out.2⟩
    clear hHeld hF cC hs hw hc0;go_wp2_with fail;exact ⟨⟨h + 1, j, by omega, by go_num, rfl, hs2, hw1⟩, by simp [intOf]; omega⟩
  ·have e : j = i := by omega
   subst e;have eb : b = m + 1 := by omega
   have hfin : Hid (PermIn a b (rot j m (m + 1)) ∧ Srt (fun x y => cf x y < 0) (fun k => p (rot j m (m + 1) k)) a b) := hid ⟨rot_perm bi bj (by omega) (by omega), by
    have h5 := ins_left HC.out.swo bi bj HSR.out.1 (eb ▸ HSR.out.2.2) hs.out.2 (hs.out.1.imp_right fun h => Int.not_lt.2 h)
    exact h5.sub (Nat.le_refl _) (by omega)⟩
   clear hs eb;go_wp2_with fail;go_loopw [17] (fun kv wn => ∃ k : Nat, (j ≤ k ∧ k ≤ m) ∧ kv = .int .i64 (k : Int) ∧ Hid (Hd wn g o n cap A (fun x => p (rot k m (m + 1) x)) ∧ Kp [g] w wn)) (fun kv _ => (intOf kv).toNat)
   case atStart => exact ⟨m, by omega, rfl, hid ⟨by rw [rot_left]; exact hw.out.1, hw.out.2⟩⟩
   case round =>
    obtain ⟨k, ⟨bk, bk2⟩, rfl, hw3⟩ := hrel;clear hw
    by_cases hkj : j < k
    ·have d1 : decide ((j : Int) < (k : Int)) = true := by simp; omega
     have d2 : (j : Int) < (k : Int) := by omega
     obtain ⟨y, hy⟩ : ∃ y : Nat, y = k - 1 := ⟨_, rfl⟩
     have ey : (k : Int) - 1 = (y : Int) := by omega
     have wy : IntKind.i64.wrap ((k : Int) - 1) = (y : Int) := by rw [ey, IntKind.wrap_i64]; omega
     have wy2 : IntKind.i64.wrap (y : Int) = (y : Int) := by rw [IntKind.wrap_i64]; omega
     have i1 : (0 : Int) ≤ (k : Int) := by omega
     have i2 : (k : Int) < (n : Int) := by omega
     have i3 : (0 : Int) ≤ (y : Int) := by omega
     have i4 : (y : Int) < (n : Int) := by omega
     have b1 : (-9223372036854775808 : Int) ≤ (k : Int) - 1 := by omega
     have b2 : (k : Int) - 1 ≤ 9223372036854775807 := by omega
     have HY : Hid (k = y + 1) := hid (by omega)
     obtain ⟨Q, hQ⟩ : ∃ Q, Hid (Q = fun x => p (rot k m (m + 1) x)) := ⟨_, hid rfl⟩
     rw [← hQ.out] at hw3;have hyb : y < n ∧ j ≤ y := by omega
     clear hy;go_wp2_with fail;refine wp_region_held_drew (S := fun _ => True) (by kernel_rfl) trivial (fun hHeld => ?_)
     have KD2 : Kp [] wr wr.drew := (Kp.refl [] wr).drew
     have hd2 := hw3.out.1.kept KD2
     have hk2 := hid (hw3.out.2.trans KD2 (by simp))
     generalize wr.drew = Wd2 at *
     clear KD2 hw3;obtain ⟨x0, fx0⟩ := hd2.cells k (by omega)
     obtain ⟨y0, fy0⟩ := hd2.cells y (by omega)
     have hsw := hd2.swap k y (by omega) (by omega)
     have hpc := put1_cells hd2 k y (by omega) (by omega)
     obtain ⟨U1, hU1⟩ : ∃ V, V = A (Q k) := ⟨_, rfl⟩
     obtain ⟨U2, hU2⟩ : ∃ V, V = A (Q y) := ⟨_, rfl⟩
     rw [← hU1] at x0 hsw;rw [← hU2] at y0 hsw;replace hpc := hpc U2
     obtain ⟨⟨u0, hu0⟩, gu0⟩ := hpc 0 (by omega)
     try simp only [Nat.add_zero] at hu0 gu0
     obtain ⟨W1, eW1⟩ : ∃ Y, (Wd2.setCell ⟨g, o + k, none⟩ (.slice U2.a U2.l.length U2.c)) = Y := ⟨_, rfl⟩
     have eP1 : put1 Wd2 g (o + k) U2 = W1 := eW1
     obtain ⟨W2, eW2⟩ : ∃ Y, (W1.setCell ⟨g, o + y, none⟩ (.slice U1.a U1.l.length U1.c)) = Y := ⟨_, rfl⟩
     have eP2 : put1 W1 g (o + y) U1 = W2 := eW2
     have kP1 : Kp [g] Wd2 W1 := by rw [← eP1]; exact put1_kp _ _ _ _
     have kP2 : Kp [g] W1 W2 := by rw [← eP2]; exact put1_kp _ _ _ _
     simp only [eP1] at hu0 gu0 hsw;simp only [eP2] at hsw;have zW1 := kP1.size
     have HSW := hid (And.intro hsw (kP1.trans kP2 (by simp)))
     have zg : g < Wd2.heap.size := hd2.lt
     have zg1 : g < W1.heap.size := by omega
     clear hpc hsw eP1 eP2 kP1 kP2 hU1 hU2 zW1;obtain ⟨a3, c3, l3⟩ := U1;obtain ⟨a4, c4, l4⟩ := U2;dsimp only at *
     have hfin2 : Hid (Hd W2 g o n cap A (fun x => p (rot y m (m + 1) x)) ∧ Kp [g] w W2) := hid ⟨by
      have := HSW.out.1
      rw [hQ.out] at this;have e := HY.out
      rw [rot_pull y m (by omega), ← e]
      exact this, hk2.out.trans HSW.out.2 (by simp)⟩
     have hky : y < k ∧ y ≤ m := by have := HY.out; omega
     clear hd2 HSW hk2;refine tkH ?_ 0 rfl (by kernel_rfl) (fun _ _ _ h => h) (by rfl) ?_ ‹_› ?_;rotate_left
     ·intro w h; (try dsimp only at h); go_simp <;> with_reducible rfl
     (try simp only [Act.put, lz]);refine tkH ?_ 1 rfl (by kernel_rfl) (fun _ _ _ h => h) (by rfl) ?_ ‹_› ?_;rotate_left
     ·intro w h; (try dsimp only at h); go_simp <;> with_reducible rfl
     (try simp only [Act.put, lz]);refine tkH ?_ 2 rfl (by kernel_rfl) (fun _ _ _ h => h) (by rfl) ?_ ‹_› ?_;rotate_left
     ·intro w h; (try dsimp only at h); go_simp <;> with_reducible rfl
     (try simp only [Act.put, lz]);refine tkH ?_ 3 rfl (by kernel_rfl) (fun _ _ _ h => h) (by rfl) ?_ ‹_› ?_;rotate_left
     ·intro w h; (try dsimp only at h); go_simp <;> with_reducible rfl
     (try simp only [Act.put, lz]);refine tkH ?_ 4 rfl (by kernel_rfl) (fun _ _ _ h => h) (by rfl) ?_ ‹_› ?_;rotate_left
     ·intro w hSw; (try dsimp only at hSw); go_simp <;> (try simp only [wy, wy2]) <;> with_reducible rfl
     (try simp only [Act.put, lz]);try simp only [wy, wy2]
     refine tkH ?_ 5 rfl (by kernel_rfl) (fun _ _ _ h => h) (by rfl) ?_ ‹_› ?_;rotate_left
     ·intro w h; (try dsimp only at h); go_simp <;> with_reducible rfl
     (try simp only [Act.put, lz]);refine tkH ?_ 6 rfl (by kernel_rfl) (fun _ _ _ h => h) (by rfl) ?_ ‹_› ?_;rotate_left
     ·intro w h; (try dsimp only at h); go_simp <;> with_reducible rfl
     (try simp only [Act.put, lz]);refine tkH ?_ 7 rfl (by kernel_rfl) (fun _ _ _ h => h) (by rfl) ?_ ‹_› ?_;rotate_left
     ·intro w hSw; (try dsimp only at hSw); go_simp <;> (try simp only [wy, wy2]) <;> with_reducible rfl
     (try simp only [Act.put, lz]);try simp only [wy, wy2]
     refine tkH ?_ 8 rfl (by kernel_rfl) (fun _ _ _ h => h) (by rfl) ?_ ‹_› ?_;rotate_left
     ·intro w h; (try dsimp only at h); go_simp <;> with_reducible rfl
     (try simp only [Act.put, lz]);refine tkH ?_ 10 rfl (by kernel_rfl) (fun _ _ _ h => h) (by rfl) ?_ ‹_› ?_;rotate_left
     ·intro w h; (try dsimp only at h); go_simp <;> with_reducible rfl
     (try simp only [Act.put, lz]);refine tkH ?_ 11 rfl (by kernel_rfl) (fun _ _ _ h => h) (by rfl) ?_ ‹_› ?_;rotate_left
     ·intro w h; (try dsimp only at h); go_simp <;> with_reducible rfl
     (try simp only [Act.put, lz]);refine tkH ?_ 12 rfl (by kernel_rfl) (fun _ _ _ h => h) (by rfl) ?_ ‹_› ?_;rotate_left
     ·intro w h; (try dsimp only at h); go_simp <;> with_reducible rfl
     (try simp only [Act.put, lz]);refine wpAnyH_ready (rs := [9, 13]) (by kernel_rfl) (by simp) ?_
     refine AllReadyH.cons rfl (fun K hK => ?_) (AllReadyH.cons rfl (fun K hK => ?_) AllReadyH.nil)
     ·go_simp
      (try go_wp2_with fail);refine hK.out _ _ trivial (fun hHeld => ?_)
      clear hK K;(try simp only [Act.put, lz]);refine rdH 13 (by kernel_rfl) rfl fun K hK => ?_
      go_simp;(try go_wp2_with fail);refine hK.out _ _ trivial (fun hHeld => ?_)
      clear hK K;(try simp only [Act.put, lz]);refine tkH ?_ 14 rfl (by kernel_rfl) (fun _ _ _ h => h) (by rfl) ?_ ‹_› ?_;rotate_left
      ·intro w h; (try dsimp only at h); go_simp <;> with_reducible rfl
      (try simp only [Act.put, lz]);refine rdH 15 (by kernel_rfl) rfl fun K hK => ?_
      go_simp;(try go_wp2_with fail);refine hK.out _ _ trivial (fun hHeld => ?_)
      clear hK K;(try simp only [Act.put, lz]);refine tkH ?_ 16 rfl (by kernel_rfl) (fun _ _ _ h => h) (by rfl) ?_ ‹_› ?_;rotate_left
      ·intro w h; (try dsimp only at h); go_simp <;> with_reducible rfl
      (try simp only [Act.put, lz]);refine rdH 17 (by kernel_rfl) rfl fun K hK => ?_
      go_simp;(try go_wp2_with fail);refine hK.out _ _ trivial (fun hHeld => ?_)
      clear hK K;(try simp only [Act.put, lz]);refine wpAnyH_done (by kernel_rfl) ?_ _
      clear hHeld;go_wp2_with fail;exact ⟨⟨y, by omega, by go_num, hfin2⟩, by simp [intOf]; omega⟩
     ·go_simp
      (try go_wp2_with fail);refine hK.out _ _ trivial (fun hHeld => ?_)
      clear hK K;(try simp only [Act.put, lz]);refine rdH 9 (by kernel_rfl) rfl fun K hK => ?_
      go_simp;(try go_wp2_with fail);refine hK.out _ _ trivial (fun hHeld => ?_)
      clear hK K;(try simp only [Act.put, lz]);refine tkH ?_ 14 rfl (by kernel_rfl) (fun _ _ _ h => h) (by rfl) ?_ ‹_› ?_;rotate_left
      ·intro w h; (try dsimp only at h); go_simp <;> with_reducible rfl
      (try simp only [Act.put, lz]);refine rdH 15 (by kernel_rfl) rfl fun K hK => ?_
      go_simp;(try go_wp2_with fail);refine hK.out _ _ trivial (fun hHeld => ?_)
      clear hK K;(try simp only [Act.put, lz]);refine tkH ?_ 16 rfl (by kernel_rfl) (fun _ _ _ h => h) (by rfl) ?_ ‹_› ?_;rotate_left
      ·intro w h; (try dsimp only at h); go_simp <;> with_reducible rfl
      (try simp only [Act.put, lz]);refine rdH 17 (by kernel_rfl) rfl fun K hK => ?_
      go_simp;(try go_wp2_with fail);refine hK.out _ _ trivial (fun hHeld => ?_)
      clear hK K;(try simp only [Act.put, lz]);refine wpAnyH_done (by kernel_rfl) ?_ _
      clear hHeld;go_wp2_with fail;exact ⟨⟨y, by omega, by go_num, hfin2⟩, by simp [intOf]; omega⟩
    ·have d1 : decide ((j : Int) < (k : Int)) = false := by simp; omega
     have d2 : ¬ ((j : Int) < (k : Int)) := by omega
     have ek : k = j := by omega
     subst ek;go_wp2_with fail;refine bodyPost_ret (results_none rfl _ _ _) rfl ?_;exact ⟨⟨_, rfl⟩, _, hfin.out.1, hfin.out.2, hw3.out.1, hw3.out.2⟩
end Go.Proofs.YtcgkkofmnajedaaGreatDoor
end

/- ExecTwice (second form): to filter twice is to filter by all terms, columns of columns are columns, the first few of the first many are the first few, where what is given is of bulk at most 1048576. -/
import Derived.Test.YtfolkjjhlcjfgabDoorB9
import Derived.Test.YtfolkjjhlcjfgabDoorB10
import Derived.Test.YtfolkjjhlcjfgabDoorB11
import Derived.Test.YtfolkjjhlcjfgabDoorB2
import Derived.Test.YtfolkjjhlcjfgabDoorB5
import Derived.SizedLaws
import Derived.JoinedCond
import Derived.Deep.CondSized
section
namespace Go.Proofs.YtfolkjjhlcjfgabDoor
open Go.RowKit Go.Hay
set_option linter.unusedVariables false
set_option linter.unusedSimpArgs false

/-- The iterator's own memory: what it was given, in a box; yield, in a box; and what it reads besides. -/
structure MI (v2 : Value) (q2 q3 ly : Nat) (X : World → Prop) (W : World) : Prop where
  c2 : W.cell? ⟨q2, 0, none⟩ = some v2
  c3 : W.cell? ⟨q3, 0, none⟩ = some (.func (.yield ly) #[] #[])
  x : X W
theorem MI.ck {v2 : Value} {q2 q3 ly : Nat} {X : World → Prop} {Xj : List Nat} (hX : ∀ A B, X A → CK (fun k => k ∈ Xj) A B → X B) {A B : World} (h : MI v2 q2 q3 ly X A) (k : CK (fun k => k ∈ q2 :: q3 :: Xj) A B) : MI v2 q2 q3 ly X B :=
  ⟨(k.2 ⟨q2, 0, none⟩ _ (by simp) h.c2).1, (k.2 ⟨q3, 0, none⟩ _ (by simp) h.c3).1, hX A B h.x (k.mono fun j hj => by simp [hj])⟩
theorem relStep {RL RJ : List (List Val)} {f : List Val → List (List Val)} {i k : Nat} {x : List Val} (h : RJ.drop i = (RL.drop k).flatMap f) (hx : RL[k]? = some x) : RJ.drop i = f x ++ (RL.drop (k + 1)).flatMap f := by
  obtain ⟨hk, e⟩ := List.getElem?_eq_some_iff.1 hx
  rw [h, List.drop_eq_getElem_cons hk, e, List.flatMap_cons]
theorem relOne {RJ : List (List Val)} {i : Nat} {z : List Val} {l : List (List Val)} (h : RJ.drop i = [z] ++ l) : RJ[i]? = some z ∧ RJ.drop (i + 1) = l ∧ i + 1 ≤ RJ.length := by
  have h0 : RJ[i]? = some z := by
    have := congrArg (fun z => z[0]?) h
    simpa [List.getElem?_drop] using this
  refine ⟨h0, ?_, (List.getElem?_eq_some_iff.1 h0).1⟩
  have := congrArg (List.drop 1) h
  simpa [List.drop_drop] using this
end Go.Proofs.YtfolkjjhlcjfgabDoor
end

section
namespace Go.Proofs.YtfolkjjhlcjfgabDoor
open Go.RowKit Go.Hay
set_option linter.unusedVariables false
set_option linter.unusedSimpArgs false

/-- The blocks of P that hold cells stand as they stood. -/
def CB (P : Nat → Prop) (X Y : World) : Prop := X.heap.size ≤ Y.heap.size ∧ ∀ (k : Nat) (o : Obj), P k → X.heap[k]? = some o → o.isCells = true → Y.heap[k]? = some o
theorem CB.mono {P Q : Nat → Prop} {X Y : World} (h : CB P X Y) (hq : ∀ k, Q k → P k) : CB Q X Y := ⟨h.1, fun k o hk => h.2 k o (hq k hk)⟩
theorem CB.ck {P : Nat → Prop} {X Y : World} (h : CB P X Y) : CK P X Y := CK.ofBlock h.1 fun k hk hl => by
  have e : X.heap[k]? = some X.heap[k] := by simp [hl]
  cases hc : (X.heap[k]).isCells with
  | true => exact .inl ((h.2 k _ hk e hc).trans e.symm)
  | false => exact .inr ⟨_, e, hc⟩
theorem CB.ofKp {S : List Nat} {X Y : World} (h : Kp S X Y) : CB (fun k => k ∉ S) X Y := ⟨h.size, fun k o hk ho _ => (h.block k (Array.getElem?_eq_some_iff.1 ho).1 hk).trans ho⟩
theorem CB.ofTurn {B0 : Nat} {qs : List Nat} {X Y : World} (h : TurnR B0 qs X Y) : CB (fun k => k ∉ qs) X Y := ⟨h.size, fun k o hk ho hc => by
  rcases h.block k (Array.getElem?_eq_some_iff.1 ho).1 with e | e | ⟨_, o', e, f⟩
  · exact e.trans ho
  · exact absurd e hk
  · rw [ho] at e
    cases e
    rw [hc] at f
    cases f⟩
theorem CB.ofGrown {X Y : World} {row : Option Nat} (h : X.grownBy Y row) (hr : ∀ r, row = some r → ∃ o : Obj, X.heap[r]? = some o ∧ o.isCells = false) : CB (fun _ => True) X Y := ⟨h.size, fun k o _ ho hc => by
  by_cases e : row = some k
  · obtain ⟨o', e', f⟩ := hr k e
    rw [ho] at e'
    cases e'
    rw [hc] at f
    cases f
  · exact (h.block k (Array.getElem?_eq_some_iff.1 ho).1 (fun e' => e e'.symm)).trans ho⟩
theorem CB.ofKeepB {js : List Nat} {X Y : World} (h : KeepB js X Y) : CB (fun k => k ∈ js) X Y := ⟨h.1, fun k o hk ho _ => h.2 k hk o ho⟩
/-- How the inner range stands: J: what who ranges over the outer iterator keeps; RL the inner rows, R the outer ones, f: which rows one inner row gives; M, Mj: the outer iterator's own memory, in the blocks Mj. -/
structure LiJ (J : Sr → World → Prop) (RL : List (List Val)) (M : Nat → World → Prop) (Mj : List Nat) (w3 : World) (q4 : Nat) (sl : Sr) (W : World) (js qs : List Nat) (i : Nat) : Prop where
  j : J ⟨true, w3.heap.size, qs, js, i, none⟩ W
  sub : ∀ j ∈ sl.js, j ∈ js
  mj : ∀ j ∈ Mj, j ∈ js
  qsub : ∀ q ∈ sl.qs, q ∈ qs
  qq : q4 ∈ qs
  m : M sl.i W
  rel : i = sl.i
  size : w3.heap.size ≤ W.heap.size
  mde : sl.made = true → w3.heap.size + 2 ≤ sl.B0 ∧ ∀ q ∈ sl.qs, w3.heap.size + 2 ≤ q
  lj : ∀ j ∈ sl.js, j ≠ w3.heap.size ∧ j ≠ w3.heap.size + 1
  lq : ∀ j ∈ sl.js, j ≠ q4
  pend : ∀ x, sl.p = some x → RL[sl.i]? = some x.l ∧ x.lies W
  jl : ∀ j ∈ js, j < W.heap.size
  ql : ∀ q ∈ qs, q < W.heap.size
def LiG (J : Sr → World → Prop) (RL : List (List Val)) (M : Nat → World → Prop) (Mj : List Nat) (w3 : World) (q4 : Nat) (sl : Sr) (W : World) : Prop := ∃ js qs i, LiJ J RL M Mj w3 q4 sl W js qs i
section
variable {J : Sr → World → Prop} {fr : Bool} {RL R : List (List Val)} {M : Nat → World → Prop} {Mj : List Nat} {w3 : World} {q4 : Nat}
theorem LiG.own (hT : ∀ s s' A B, J s A → StepR true R s s' A B → J s' B) (hM : ∀ n X Y, M n X → CB (fun k => k ∈ Mj) X Y → M n Y) : OwnFrom w3.heap.size (LiG J RL M Mj w3 q4) := fun sl X Y row ⟨js, qs, i, h⟩ hg hr => by
  have ck := CK.ofGrown hg (fun r e => (hr r e).2)
  exact ⟨js, qs, i, hT _ _ _ _ h.j (StepR.same rfl rfl (TurnR.ofGrown hg (fun r e => hr r e))), h.sub, h.mj, h.qsub, h.qq, hM _ _ _ h.m ((CB.ofGrown hg (fun r e => (hr r e).2)).mono fun _ _ => trivial), h.rel, Nat.le_trans h.size hg.size, h.mde, h.lj, h.lq, fun x hx => ⟨(h.pend x hx).1, (h.pend x hx).2.ck ck (fun _ _ => trivial)⟩, fun j hj => Nat.lt_of_lt_of_le (h.jl j hj) hg.size, fun j hj => Nat.lt_of_lt_of_le (h.ql j hj) hg.size⟩
theorem LiG.step (hT : ∀ s s' A B, J s A → StepR true R s s' A B → J s' B) (hM : ∀ n X Y, M n X → CB (fun k => k ∈ Mj) X Y → M n Y) (hMj : ∀ j ∈ Mj, j < w3.heap.size) (hq4 : q4 < w3.heap.size) {sl sl' : Sr} {A B : World} (hz : w3.heap.size + 2 ≤ A.heap.size) (h : LiG J RL M Mj w3 q4 sl A) (ht : StepR fr RL sl sl' A B) : LiG J RL M Mj w3 q4 sl' B := by
  obtain ⟨js, qs, i, h⟩ := h
  have hmd : sl'.made = true ∧ w3.heap.size + 2 ≤ sl'.B0 ∧ ∀ q ∈ sl'.qs, w3.heap.size + 2 ≤ q := by
    cases hs : sl.made with
    | true =>
      obtain ⟨e0, e1, e2⟩ := ht.stays hs
      obtain ⟨h1, h2⟩ := h.mde hs
      exact ⟨e0, by omega, fun q hq => by rcases e2 q hq with e | e; exact h2 q e; omega⟩
    | false =>
      obtain ⟨e0, e1, e2⟩ := ht.makes hs
      exact ⟨e0, by omega, fun q hq => by have := (e2 q hq).1; omega⟩
  have hqn : ∀ q ∈ sl'.qs, q ∈ qs ∨ (A.heap.size ≤ q ∧ q < B.heap.size) := fun q hq => by
    cases hs : sl.made with
    | true => rcases (ht.stays hs).2.2 q hq with e | e; exact .inl (h.qsub q e); exact .inr e
    | false => exact .inr ((ht.makes hs).2.2 q hq)
  have ck := CK.ofTurn ht.turn
  have hJ : J ⟨true, w3.heap.size, qs ++ sl'.qs, js ++ sl'.js, i, none⟩ B := hT _ _ _ _ h.j ⟨ht.turn.mono (by show w3.heap.size ≤ _; omega) (fun q hq => List.mem_append.2 (.inr hq)), fun _ => ⟨rfl, rfl, fun q hq => by
    rcases List.mem_append.1 hq with e | e
    · exact .inl e
    · exact hqn q e⟩, fun e => (by cases e), fun j hj => by
    rcases List.mem_append.1 hj with e | e
    · exact .inl e
    · rcases ht.js j e with e2 | e2
      · exact .inl (h.sub j e2)
      · exact .inr e2, rfl, .inl rfl⟩
  refine ⟨_, _, i, hJ, fun j hj => List.mem_append.2 (.inr hj), fun j hj => List.mem_append.2 (.inl (h.mj j hj)), fun q hq => List.mem_append.2 (.inr hq), List.mem_append.2 (.inl h.qq), (congrArg (fun n => M n B) ht.on).mpr (hM _ _ _ h.m ((CB.ofTurn ht.turn).mono fun k hk hm => ?_)), by rw [ht.on]; exact h.rel, Nat.le_trans h.size ht.turn.size, fun _ => hmd.2, fun j hj => ?_, fun j hj => ?_, fun x hx => ?_, fun j hj => ?_, fun q hq => ?_⟩
  · have := hMj k hk
    have := hmd.2.2 k hm
    omega
  · rcases ht.js j hj with e | e
    · exact h.lj j e
    · omega
  · rcases ht.js j hj with e | e
    · exact h.lq j e
    · omega
  · rcases ht.given with e | ⟨y, e, hy, hl, _⟩
    · rw [e] at hx; cases hx
    · rw [e] at hx
      cases hx
      exact ⟨by rw [ht.on]; exact hy, hl⟩
  · rcases List.mem_append.1 hj with e | e
    · exact Nat.lt_of_lt_of_le (h.jl j e) ht.turn.size
    · rcases ht.js j e with e2 | e2
      · exact Nat.lt_of_lt_of_le (h.jl j (h.sub j e2)) ht.turn.size
      · exact e2.2
  · rcases List.mem_append.1 hq with e | e
    · exact Nat.lt_of_lt_of_le (h.ql q e) ht.turn.size
    · rcases hqn q e with e2 | e2
      · exact Nat.lt_of_lt_of_le (h.ql q e2) ht.turn.size
      · exact e2.2
theorem LiG.keeps {sl sl' : Sr} {A B : World} (h : LiG J RL M Mj w3 q4 sl A) (ht : StepR fr RL sl sl' A B) (k : Nat) (o : Obj) (hk : k = w3.heap.size ∨ k = w3.heap.size + 1) (ho : A.heap[k]? = some o) : B.heap[k]? = some o := by
  obtain ⟨js, qs, i, h⟩ := h
  exact (ht.low h.mde (Array.getElem?_eq_some_iff.1 ho).1 (by omega)).trans ho
theorem LiG.recs {sl : Sr} {W : World} (h : LiG J RL M Mj w3 q4 sl W) (o' : Obj) : KeepR sl W (W.putObj (w3.heap.size + 1) o') := by
  obtain ⟨js, qs, i, h⟩ := h
  exact recsOf h.mde h.lj o'
theorem LiG.recs' {sl : Sr} {x : Vs} {W : World} (h : LiG J RL M Mj w3 q4 (sl.nx x) W) (o' : Obj) : KeepR sl W (W.putObj (w3.heap.size + 1) o') := by
  obtain ⟨js, qs, i, h⟩ := h
  exact recsOf (sl := sl) h.mde h.lj o'
/-- What who ranges over the outer iterator keeps serves the inner one. -/
theorem LiJ.keepR {sl : Sr} {W W' : World} {js qs : List Nat} {i : Nat} (h : LiJ J RL M Mj w3 q4 sl W js qs i) {s : Sr} (hs : s.made = true) (hb : s.B0 = w3.heap.size) (hj : ∀ j ∈ js, j ∈ s.js) (k : KeepR s W W') : KeepR sl W W' ∧ KeepsFrom w3.heap.size W W' ∧ KeepB Mj W W' :=
  ⟨⟨⟨k.js.1, fun j hj' o ho => k.js.2 j (hj j (h.sub j hj')) o ho⟩, fun hm j o hj' ho hc => k.recs hs j o (by rw [hb]; have := (h.mde hm).1; omega) ho hc⟩, ⟨k.js.1, fun j o hj' ho hc => k.recs hs j o (by rw [hb]; exact hj') ho hc⟩, ⟨k.js.1, fun j hj' o ho => k.js.2 j (hj j (h.mj j hj')) o ho⟩⟩
end
/-- What who ranges keeps, where it was left or where the iterator has ended. -/
def JxD (J Jx : Sr → World → Prop) (n : Nat) (s : Sr) (W : World) : Prop := Jx s W ∨ (s.i = n ∧ s.p = none ∧ J s W)
theorem JxD.step {J Jx : Sr → World → Prop} {R : List (List Val)} (hT : ∀ s s' A B, J s A → StepR true R s s' A B → J s' B) (hX : ∀ s A B, Jx s A → StepRX s A B → Jx s B) {n : Nat} : ∀ s A B, JxD J Jx n s A → StepRX s A B → JxD J Jx n s B := fun s A B h ht => by
  rcases h with h | ⟨h1, h2, h3⟩
  · exact .inl (hX _ _ _ h ht)
  · exact .inr ⟨h1, h2, hT _ _ _ _ h3 (StepR.same ht.1 h2 ht.2)⟩
/-- The iterator's own memory: how many are asked, yield, how many were given. -/
structure ML (many : Int) (q1 q3 q4 ly : Nat) (n : Nat) (W : World) : Prop where
  c1 : W.cell? ⟨q1, 0, none⟩ = some (.int .i64 many)
  c3 : W.cell? ⟨q3, 0, none⟩ = some (.func (.yield ly) #[] #[])
  c4 : W.cell? ⟨q4, 0, none⟩ = some (.int .i64 (n : Int))
  f4 : W.frozen? ⟨q4, 0, none⟩ = false
  n4 : ∀ k, 1 ≤ k → W.cell? ⟨q4, k, none⟩ = none
  lt : (n : Int) < many
theorem cellFar (w : World) (q k : Nat) (v : Value) (h : 1 ≤ k) : (w.setCell ⟨q, 0, none⟩ v).cell? ⟨q, k, none⟩ = w.cell? ⟨q, k, none⟩ := by
  rw [World.cell?_setCell_other]
  intro e
  have := congrArg Addr.off e
  simp at this
  omega
theorem noneCB {P : Nat → Prop} {A B : World} {q : Nat} {v : Value} (k : CB P A B) (hq : P q) (hc : A.cell? ⟨q, 0, none⟩ = some v) (h : ∀ k, 1 ≤ k → A.cell? ⟨q, k, none⟩ = none) : ∀ k, 1 ≤ k → B.cell? ⟨q, k, none⟩ = none := fun j hj => by
  have hl := World.block_lt_of_cell? _ _ hc
  have e : A.heap[q]? = some A.heap[q] := by simp [show q < A.heap.size from hl]
  have hcel := cellCel hc
  rw [show A.heap[(⟨q, 0, none⟩ : Addr).block]? = A.heap[q]? from rfl, e] at hcel
  have e2 := (k.2 q _ hq e (by simpa using hcel)).trans e.symm
  exact (World.cell?_of_block (a := ⟨q, j, none⟩) e2).trans (h j hj)
theorem ML.ck {many : Int} {q1 q3 q4 ly n : Nat} {A B : World} (h : ML many q1 q3 q4 ly n A) (k : CB (fun k => k ∈ [q1, q3, q4]) A B) : ML many q1 q3 q4 ly n B :=
  ⟨(k.ck.2 ⟨q1, 0, none⟩ _ (by simp) h.c1).1, (k.ck.2 ⟨q3, 0, none⟩ _ (by simp) h.c3).1, (k.ck.2 ⟨q4, 0, none⟩ _ (by simp) h.c4).1, ((k.ck.2 ⟨q4, 0, none⟩ _ (by simp) h.c4).2).trans h.f4, noneCB k (by simp) h.c4 h.n4, h.lt⟩
end Go.Proofs.YtfolkjjhlcjfgabDoor
end

section
namespace Go.Proofs.YtfolkjjhlcjfgabDoor
open Go.RowKit Go.Hay
attribute [local go_sem] Oper.semAt_some
set_option linter.unusedVariables false
set_option linter.unusedSimpArgs false

set_option maxHeartbeats 64000000 in
set_option maxRecDepth 100000 in
theorem limSeq (n : Nat) (hn : 2 ≤ n) (q1 q2 : Nat) (fr : Bool) (gl : Nat) (lbl : Array Value) (RL : List (List Val)) (jsl js : List Nat) (many : Int) (w : World)
    (heL : ∀ args w, (callFunc gl args).run Tryd.prog w = .ok (.enter gl args) w)
    (c1 : w.cell? ⟨q1, 0, none⟩ = some (.int .i64 many)) (c2 : w.cell? ⟨q2, 0, none⟩ = some (.func (.func gl) #[] lbl))
    (hq : ∀ q ∈ [q1, q2], q ∈ js) (hjl : ∀ j ∈ jsl, j ∈ js) (hjb : ∀ j ∈ js, j < w.heap.size)
    (hL : RowSeq fr (n - 1) gl lbl RL jsl w) (hRLl : ∀ l ∈ RL, l.length ≤ 1800000000000) (hRLn : RL.length ≤ 4000000000000) (hmx : many ≤ 9223372036854775807) :
    RowSeq true n 24 #[.pointer (some ⟨q1, 0, none⟩), .pointer (some ⟨q2, 0, none⟩)] (RL.take many.toNat) js w := by
  intro ly J Jx W hW hT hX hY h0
  obtain ⟨RJ, hRJ⟩ : ∃ R, Hid (RL.take many.toNat = R) := ⟨_, rfl⟩
  rw [hRJ.out] at hT ⊢
  have kjs := hW.js
  have d1 := kjs.cell (hq q1 (by simp)) c1
  have d2 := kjs.cell (hq q2 (by simp)) c2
  have hlW := hL.move (W := W) ⟨kjs.1, fun j hj o ho => kjs.2 j (hjl j hj) o ho⟩
  have hjW : ∀ j ∈ js, j < W.heap.size := fun j hj => Nat.lt_of_lt_of_le (hjb j hj) kjs.1
  obtain ⟨W1, hW1, k1, b1⟩ : ∃ W1, W.alloc (.cells #[.func (.yield ly) #[] #[]] 43) = W1 ∧ Kp [] W W1 ∧ Bn W1 W.heap.size [.func (.yield ly) #[] #[]] := ⟨_, rfl, (Kp.refl _ _).alloc _, Bn.new W _ _⟩
  obtain ⟨q3, hq3⟩ : ∃ q, Hid (W.heap.size = q) := ⟨_, rfl⟩
  rw [hq3.out] at b1
  have e1 := kpAt k1 d1
  have e2 := kpAt k1 d2
  have hq3' := hq3.out
  by_cases hm1 : many < 1
  · have g1 : decide (many < 1) = true := by simpa using hm1
    have hRe : RJ.length = 0 := by rw [← hRJ.out, show many.toNat = 0 by omega]; rfl
    have hJ1 : Hid (J ⟨true, W1.heap.size, [], js, 0, none⟩ W1) := hT _ _ _ _ h0 ⟨TurnR.ofKp0 k1, fun h => (by cases h), fun _ => ⟨rfl, k1.size, by simp⟩, fun j hj => .inl hj, rfl, .inl rfl⟩
    have hRe' := hid hRe
    clear c1 c2 hL hW kjs hjb hlW k1 b1 d1 d2 h0 hRe hm1
    refine callsIn_of_wp_marks Tryd.func24 rfl trivial ?_ rfl
    simp only [Tryd.ntmps24, List.size_toArray, List.length_cons, List.length_nil, Nat.reduceAdd, Nat.reduceSub, Array.replicate_succ, Array.replicate_zero, List.push_toArray, List.append_toArray, List.nil_append, List.cons_append]
    refine wpIn_wide.2 ?_
    go_wp2_with fail
    exact ⟨_, results_none rfl _ _ _, ⟨_, rfl⟩, .inl ⟨_, ⟨rfl, hRe'.out.symm, rfl⟩, hJ1.out⟩⟩
  · have g1 : decide (many < 1) = false := by simpa using hm1
    obtain ⟨W2z, hW2z, k2z, b2z⟩ : ∃ W2, W1.alloc (.cells #[.int .i64 0] 3) = W2 ∧ Kp [] W1 W2 ∧ Bn W2 W1.heap.size [.int .i64 0] := ⟨_, rfl, (Kp.refl _ _).alloc _, Bn.new W1 _ _⟩
    obtain ⟨q4, hq4⟩ : ∃ q, Hid (W1.heap.size = q) := ⟨_, rfl⟩
    rw [hq4.out] at b2z
    have hq4' := hq4.out
    have z0 := b2z.get 0 _ rfl
    have zf := b2z.free 0
    obtain ⟨W2, hW2, k2, b2⟩ : ∃ W2, W2z.setCell ⟨q4, 0, none⟩ (.int .i64 0) = W2 ∧ Kp [] W1 W2 ∧ Bn W2 q4 [.int .i64 0] := ⟨_, rfl, k2z.setCell (.inr (by rw [hq4.out]; exact Nat.le_refl _)) _, b2z.set 0 (by simp) _⟩
    have n42 : ∀ k, 1 ≤ k → W2.cell? ⟨q4, k, none⟩ = none := fun k hk => by
      rw [← hW2, cellFar _ _ _ _ hk, ← hW2z, ← hq4.out, World.cell?_alloc_new]
      simp; omega
    have k02 := k1.trans k2 (by simp)
    have f2 := kpAt k2 e2
    have z1 := k1.size
    have hq42 : q4 < W2.heap.size := b2.lt (by simp)
    have hq14 : q1 ≠ q4 := by have := hjW q1 (hq q1 (by simp)); omega
    have hq34 : q3 ≠ q4 := by have : q3 < W1.heap.size := b1.lt (by simp); omega
    obtain ⟨Mj, hMj⟩ : ∃ M, Hid (M = [q1, q3, q4]) := ⟨_, rfl⟩
    have hM2 : ML many q1 q3 q4 ly 0 W2 := ⟨kpAt k2 e1, (b1.kept k2).get 0 _ rfl, b2.get 0 _ rfl, b2.free 0, n42, by omega⟩
    have hMst : ∀ n A B, ML many q1 q3 q4 ly n A → CB (fun k => k ∈ Mj) A B → ML many q1 q3 q4 ly n B := fun n A B h k => h.ck (by rw [← hMj.out]; exact k)
    have hMn : ∀ j ∈ Mj, j ∈ js ∨ (W.heap.size ≤ j ∧ j < W2.heap.size) := fun j hj => by
      rw [hMj.out] at hj
      simp only [List.mem_cons, List.not_mem_nil, or_false] at hj
      rcases hj with rfl | rfl | rfl
      · exact .inl (hq _ (by simp))
      · exact .inr ⟨by rw [hq3.out]; exact Nat.le_refl _, (b1.kept k2).lt (by simp)⟩
      · exact .inr ⟨by omega, hq42⟩
    have hMb : ∀ j ∈ Mj, j < W2.heap.size := fun j hj => by
      rcases hMn j hj with e | e
      · exact Nat.lt_of_lt_of_le (hjW j e) k02.size
      · exact e.2
    have hJ2 : J ⟨true, W2.heap.size, [q4], js ++ Mj, 0, none⟩ W2 := hT _ _ _ _ h0 ⟨TurnR.ofKp (k02.mono (by simp)), fun h => (by cases h), fun _ => ⟨rfl, k02.size, fun q hq' => by rw [List.mem_singleton.1 hq']; exact ⟨by omega, hq42⟩⟩, fun j hj => by
      rcases List.mem_append.1 hj with e | e
      · exact .inl e
      · exact hMn j e, rfl, .inl rfl⟩
    have hI0 : LiG J RL (ML many q1 q3 q4 ly) Mj W2 q4 ⟨false, 0, [], jsl, 0, none⟩ W2 := ⟨js ++ Mj, [q4], 0, hJ2, fun j hj => List.mem_append.2 (.inl (hjl j hj)), fun j hj => List.mem_append.2 (.inr hj), by simp, by simp, hM2, rfl, Nat.le_refl _, fun h => (by cases h), fun j hj => by have := hjW j (hjl j hj); have := k02.size; omega, fun j hj => by have := hjW j (hjl j hj); omega, fun x hx => (by cases hx), fun j hj => by
      rcases List.mem_append.1 hj with e | e
      · have := hjW j e; have := k02.size; omega
      · exact hMb j e, fun q hq' => by rw [List.mem_singleton.1 hq']; exact hq42⟩
    have hsq := hid (hlW.move (KeepB.ofKp k02 (by simp)))
    have HI0 := hid hI0
    have HMS := hid hMst
    have HMB := hid hMb
    clear c1 c2 hL hW kjs hjb hlW k1 b1 d1 d2 hM2 hMn hJ2 hI0 hMst hMb h0 k2 k2z b2 b2z k02 z1
    refine callsIn_of_wp_marks Tryd.func24 rfl trivial ?_ rfl
    simp only [Tryd.ntmps24, List.size_toArray, List.length_cons, List.length_nil, Nat.reduceAdd, Nat.reduceSub, Array.replicate_succ, Array.replicate_zero, List.push_toArray, List.append_toArray, List.nil_append, List.cons_append]
    refine wpIn_wide.2 ?_
    go_wp2_with fail
    refine (wpIn_wide (n := n)).1 ?_
    refine wpRangeX rfl (by omega) (gf := gl) (lb := lbl) rfl trivial heL
      hsq.out (fun _ => rfl) KeepR.trans (fun s W o => KeepR.alloc s W o) (KeepR.refl _ _)
      (LiG J RL (ML many q1 q3 q4 ly) Mj W2 q4) (fun c s W' => c = .ret ∧ InX (JxD J Jx RJ.length) W2 s W') (LiG.own hT HMS.out) (fun c s X Y row h hg hr => ⟨h.1, InX.own (JxD.step hT hX) s X Y row h.2 hg hr⟩) HI0.out
      (fun s s' A B h ht k o hk ho => h.keeps ht k o hk ho) (fun c s A B h ht k o hk ho => h.2.keeps ht k o hk ho) (fun s s' A B hz h ht => h.step hT HMS.out HMB.out hq42 hz ht) (fun c s A B h ht => ⟨h.1, h.2.step (JxD.step hT hX) ht⟩)
      (fun s W o' h => h.recs o') (fun s x W o' h => h.recs' o') (fun c s x W o' h => h.2.recs' o')
      (fun x => { tmps := #[.func (.yield ly) #[] #[], .pointer (some ⟨q1, 0, none⟩), .pointer (some ⟨q2, 0, none⟩), .pointer (some ⟨q3, 0, none⟩), .pointer (some ⟨q4, 0, none⟩), .slice x.a x.l.length x.c, .int .i64 many, .bool false, .func (.func gl) #[] lbl, .slice x.a x.l.length x.c, undef, undef, undef, undef, undef, undef, undef, undef, undef, undef, undef, undef], defers := [] }) ?assign ?body ?done ?stop
    case assign =>
      intro l x W C hC
      gi_wp2_with fail
      exact hC
    case body =>
      rintro l0 s ⟨xa, xc, xl⟩ A ⟨jsA, qsA, i, h⟩ hp
      obtain ⟨hRi, hxl⟩ := h.pend _ hp
      dsimp only at hRi ⊢
      have hxn : xl.length ≤ 1800000000000 := hRLl _ (List.mem_of_getElem? hRi)
      have hiR : s.i < RL.length := (List.getElem?_eq_some_iff.1 hRi).1
      have hil := h.m.lt
      have hie := hid h.rel
      have hR1 : Hid (RJ[i]? = some xl) := by
        show _ = _
        rw [← hRJ.out, hie.out, List.getElem?_take, if_pos (by omega)]
        exact hRi
      have c4 := h.m.c4
      have f4 := h.m.f4
      have c1A := h.m.c1
      have c3A := h.m.c3
      have i1 : (s.i : Int) + 1 ≤ 9223372036854775807 := by omega
      obtain ⟨A1, eA1⟩ : ∃ x, A.setCell ⟨q4, 0, none⟩ (.int .i64 ((s.i : Int) + 1)) = x := ⟨_, rfl⟩
      have kA1 : Kp [q4] A A1 := by rw [← eA1]; exact (Kp.refl _ _).setCell (by simp) _
      have c4A1 : A1.cell? ⟨q4, 0, none⟩ = some (.int .i64 ((s.i : Int) + 1)) := by rw [← eA1]; exact World.cell?_setCell_same _ _ _ c4
      have f4A1 : A1.frozen? ⟨q4, 0, none⟩ = false := by rw [← eA1, World.frozen?_setCell]; exact f4
      have c1A1 := (kA1.cell (p := ⟨q1, 0, none⟩) (World.block_lt_of_cell? _ _ c1A) (by simpa using hq14)).trans c1A
      have c3A1 := (kA1.cell (p := ⟨q3, 0, none⟩) (World.block_lt_of_cell? _ _ c3A) (by simpa using hq34)).trans c3A
      have hn4 := h.m.n4
      have hxl1 : (⟨xa, xc, xl⟩ : Vs).lies A1 := by
        refine ⟨?_, hxl.cap, hxl.most, hxl.nil⟩
        by_cases hb : q4 ∈ blk xa
        · rcases hxl.see with e | ⟨g, o, e, hv⟩
          · exact .inl e
          · dsimp only at e hv
            subst e
            simp [blk] at hb
            subst hb
            by_cases hnil : xl = []
            · exact .inl hnil
            · obtain ⟨_, b1', _⟩ := hv 0 (xl[0]'(List.length_pos_iff.2 hnil)) (List.getElem?_eq_getElem (List.length_pos_iff.2 hnil))
              rw [hn4 _ (by omega)] at b1'
              cases b1'
        · exact ckVals (CK.ofKp kA1) hxl.see (fun k hk hm => by rw [List.mem_singleton.1 hm] at hk; exact hb hk)
      have n4A1 : ∀ k, 1 ≤ k → A1.cell? ⟨q4, k, none⟩ = none := fun k hk => by
        rw [← eA1, cellFar _ _ _ _ hk]
        exact hn4 k hk
      have HN := hid n4A1
      have h' := hid h
      have KA1 := hid kA1
      have HC := hid (And.intro c1A1 (And.intro c3A1 (And.intro c4A1 f4A1)))
      have hcel := hid (cellCel c4)
      have hxl' := hid hxl1
      clear h hRi hxl HI0 hn4 n4A1 c1A c3A c1A1 c3A1 f4A1 kA1 hxl1 c4A1
      gi_wp2_with fail
      refine wpIn_region_any (by kernel_rfl) ?_
      change wpAnyIn _ _ _ _ _ _ _ _ _ A1.drew
      have kD : Kp [] A1 A1.drew := (Kp.refl _ _).drew
      generalize A1.drew = wd at *
      have KB := hid (KA1.out.trans kD (by simp))
      have KD := hid kD
      have c3b := kpAt kD HC.out.2.1
      have cCt := hid (cCloneR xa xc xl wd (hxl'.out.see.kept kD) hxl'.out.nil (by omega))
      clear kD c4 f4
      refine wpAnyIn_ready (rs := [0, 1]) (by kernel_rfl) (by simp) ?_
      refine AllReadyIn.cons rfl (fun K hK => ?_) (AllReadyIn.cons rfl (fun K hK => ?_) AllReadyIn.nil)
      · go_simp
        refine hK _ _ ?_
        clear hK K
        try simp only [Act.put, List.getElem_toArray, List.getElem_cons_zero, List.getElem_cons_succ, List.setIfInBounds_toArray, List.set_cons_zero, List.set_cons_succ]
        refine wpAnyIn_ready (rs := [1]) (by kernel_rfl) (by simp) ?_
        refine AllReadyIn.cons rfl (fun K hK => ?_) AllReadyIn.nil
        go_simp
        refine hK _ _ ?_
        clear hK K
        try simp only [Act.put, List.getElem_toArray, List.getElem_cons_zero, List.getElem_cons_succ, List.setIfInBounds_toArray, List.set_cons_zero, List.set_cons_succ]
        refine wpAnyIn_ready (rs := [2]) (by kernel_rfl) (by simp) ?_
        refine AllReadyIn.cons rfl (fun K hK => ?_) AllReadyIn.nil
        go_simp
        refine ⟨trivial, fun h => (by cases h), (CallsIn.inRound l0 (callsIn_wide.2 cCt.out)).mono ?_⟩
        rintro e Wz ⟨za, zc, rfl, hzrow, kz, hzb⟩
        have c3z := kpAt kz c3b
        refine hK _ _ ?_
        clear hK K
        try simp only [Act.put, List.getElem_toArray, List.getElem_cons_zero, List.getElem_cons_succ, List.setIfInBounds_toArray, List.set_cons_zero, List.set_cons_succ]
        have kWz := hid (KB.out.trans kz (by simp))
        have hzl := rowLies hzrow
        have hzb2 : ∀ j ∈ blk za, A.heap.size ≤ j := fun j hj => by have := hzb j hj; have := KB.out.size; omega
        have hJz : J ⟨true, W2.heap.size, qsA, jsA, i, some ⟨za, zc, xl⟩⟩ Wz := hT _ _ _ _ h'.out.j ⟨TurnR.ofKp (kWz.out.mono (fun q hq' => by rw [List.mem_singleton.1 hq']; exact .inl h'.out.qq)), fun _ => ⟨rfl, rfl, fun q hq => .inl hq⟩, fun e => (by cases e), fun j hj => .inl hj, rfl, .inr ⟨_, rfl, hR1.out, hzl, fun _ => ⟨hzrow, fun j hj => ⟨hzb2 j hj, fun hm => by have := h'.out.jl j hm; have := hzb2 j hj; omega, fun hm => by have := h'.out.ql j hm; have := hzb2 j hj; omega⟩⟩⟩⟩
        obtain ⟨fn, tmps, assign, body, hyl5, hR⟩ := hY _ ⟨za, zc, xl⟩ Wz hJz rfl
        have hR' : RoundIn (Fence.wide.inRound l0) (n - 1 - 1 - 1) Tryd.prog ly fn tmps assign body Wz _ := RoundIn.anyDepthJ (F := Fence.wide.inRound l0) rfl hR
        have hgo : Hid (∀ A3, KeepR ⟨true, W2.heap.size, qsA, jsA, i, some ⟨za, zc, xl⟩⟩ Wz A3 → KeepR s A A3 ∧ KeepsFrom W2.heap.size A A3 ∧ A3.cell? ⟨q1, 0, none⟩ = some (.int .i64 many) ∧ A3.cell? ⟨q3, 0, none⟩ = some (.func (.yield ly) #[] #[]) ∧ A3.cell? ⟨q4, 0, none⟩ = some (.int .i64 ((s.i : Int) + 1)) ∧ A3.frozen? ⟨q4, 0, none⟩ = false ∧ ∀ k, 1 ≤ k → A3.cell? ⟨q4, k, none⟩ = none) := fun A3 hk3 => by
          have hnr : ∀ j (o : Obj), A.heap[j]? = some o → o.isCells = false → j ∉ [q4] := fun j o ho hc hm => by
            rw [List.mem_singleton.1 hm] at ho
            have := hcel.out
            rw [ho] at this
            simp [hc] at this
          have t1 : KeepR s A Wz := ⟨KeepB.ofKp kWz.out (fun j hj hm => h'.out.lq j hj (List.mem_singleton.1 hm)), fun _ j o _ ho hc => (kWz.out.block j (Array.getElem?_eq_some_iff.1 ho).1 (hnr j o ho hc)).trans ho⟩
          have t2 : KeepR s Wz A3 := ⟨⟨hk3.js.1, fun j hj o ho => hk3.js.2 j (h'.out.sub j hj) o ho⟩, fun hm j o hj ho hc => hk3.recs rfl j o (by have := (h'.out.mde hm).1; show W2.heap.size ≤ j; omega) ho hc⟩
          have ck3 := ckOfKeepB hk3.js
          have kz1 : Kp [] A1 Wz := KD.out.trans kz (by simp)
          have hin : ∀ q ∈ [q1, q3, q4], q ∈ jsA := fun q hq' => h'.out.mj q (by rw [hMj.out]; exact hq')
          have a4 := kpAt kz1 HC.out.2.2.1
          refine ⟨t1.trans t2, ⟨Nat.le_trans kWz.out.size hk3.js.1, fun j o hj ho hc => hk3.recs rfl j o hj ((kWz.out.block j (Array.getElem?_eq_some_iff.1 ho).1 (hnr j o ho hc)).trans ho) hc⟩, (ck3.2 ⟨q1, 0, none⟩ _ (hin q1 (by simp)) (kpAt kz1 HC.out.1)).1, (ck3.2 ⟨q3, 0, none⟩ _ (hin q3 (by simp)) (kpAt kz1 HC.out.2.1)).1, (ck3.2 ⟨q4, 0, none⟩ _ (hin q4 (by simp)) a4).1, ((ck3.2 ⟨q4, 0, none⟩ _ (hin q4 (by simp)) a4).2).trans ((kz1.frozen (p := ⟨q4, 0, none⟩) (World.block_lt_of_cell? _ _ HC.out.2.2.1) (by simp)).trans HC.out.2.2.2), noneCB (CB.ofKeepB hk3.js) (hin q4 (by simp)) a4 (noneCB (CB.ofKp kz1) (by simp) HC.out.2.2.1 HN.out)⟩
        have hyl6 := hyl5
        simp only [encR] at hyl6
        clear hR hJz hzl hzrow kz hzb hzb2 hyl5 cCt
        refine wpAnyIn_ready (rs := [3]) (by kernel_rfl) (by simp) ?_
        refine AllReadyIn.cons rfl (fun K hK => ?_) AllReadyIn.nil
        go_simp
        refine ⟨fun h => (by cases h), hR'.mono ?_⟩
        rintro e A3 (⟨rfl, hJ3, hk3⟩ | ⟨rfl, hJ3, hk3⟩)
        · have HG := hid (hgo.out A3 hk3)
          have hJ4 : Hid (J ⟨true, W2.heap.size, qsA, jsA, i + 1, none⟩ A3) := hJ3
          have y1 := HG.out.2.2.1
          have y4 := HG.out.2.2.2.2.1
          clear hgo hR' hyl6 hJ3 hk3
          refine hK _ _ ?_
          clear hK K
          try simp only [Act.put, List.getElem_toArray, List.getElem_cons_zero, List.getElem_cons_succ, List.setIfInBounds_toArray, List.set_cons_zero, List.set_cons_succ]
          refine wpAnyIn_ready (rs := [4]) (by kernel_rfl) (by simp) ?_
          refine AllReadyIn.cons rfl (fun K hK => ?_) AllReadyIn.nil
          go_simp
          refine hK _ _ ?_
          clear hK K
          try simp only [Act.put, List.getElem_toArray, List.getElem_cons_zero, List.getElem_cons_succ, List.setIfInBounds_toArray, List.set_cons_zero, List.set_cons_succ]
          refine wpAnyIn_ready (rs := [5]) (by kernel_rfl) (by simp) ?_
          refine AllReadyIn.cons rfl (fun K hK => ?_) AllReadyIn.nil
          go_simp
          refine hK _ _ ?_
          clear hK K
          try simp only [Act.put, List.getElem_toArray, List.getElem_cons_zero, List.getElem_cons_succ, List.setIfInBounds_toArray, List.set_cons_zero, List.set_cons_succ]
          by_cases hfin0 : (s.i : Int) + 1 = many
          · have dE : ((s.i : Int) + 1 == many) = true := by simpa using hfin0
            have hfin := hid hfin0
            clear hfin0
            refine wpAnyIn_ready (rs := [6, 7]) (by kernel_rfl) (by simp) ?_
            refine AllReadyIn.cons rfl (fun K hK => ?_) (AllReadyIn.cons rfl (fun K hK => ?_) AllReadyIn.nil)
            · go_simp
              refine hK _ _ ?_
              clear hK K
              try simp only [Act.put, List.getElem_toArray, List.getElem_cons_zero, List.getElem_cons_succ, List.setIfInBounds_toArray, List.set_cons_zero, List.set_cons_succ]
              refine wpAnyIn_ready (rs := [7]) (by kernel_rfl) (by simp) ?_
              refine AllReadyIn.cons rfl (fun K hK => ?_) AllReadyIn.nil
              go_simp
              refine hK _ _ ?_
              clear hK K
              try simp only [Act.put, List.getElem_toArray, List.getElem_cons_zero, List.getElem_cons_succ, List.setIfInBounds_toArray, List.set_cons_zero, List.set_cons_succ]
              refine wpAnyIn_ready (rs := [8]) (by kernel_rfl) (by simp) ?_
              refine AllReadyIn.cons rfl (fun K hK => ?_) AllReadyIn.nil
              go_simp
              refine hK _ _ ?_
              clear hK K
              try simp only [Act.put, List.getElem_toArray, List.getElem_cons_zero, List.getElem_cons_succ, List.setIfInBounds_toArray, List.set_cons_zero, List.set_cons_succ]
              refine wpAnyIn_ready (rs := [9]) (by kernel_rfl) (by simp) ?_
              refine AllReadyIn.cons rfl (fun K hK => ?_) AllReadyIn.nil
              go_simp
              refine hK _ _ ?_
              clear hK K
              try simp only [Act.put, List.getElem_toArray, List.getElem_cons_zero, List.getElem_cons_succ, List.setIfInBounds_toArray, List.set_cons_zero, List.set_cons_succ]
              refine wpAnyIn_done (by kernel_rfl) ?_ _
              gi_wp2_with fail
              refine ⟨HG.out.2.1, HG.out.1, rfl, ⟨true, W2.heap.size, qsA, jsA, i + 1, none⟩, rfl, rfl, h'.out.qsub, h'.out.mde, h'.out.lj, .inr ⟨?_, rfl, hJ4.out⟩⟩
              show i + 1 = RJ.length
              have h1 := hie.out
              have h2 := hfin.out
              rw [← hRJ.out, List.length_take]
              omega
            · go_simp
              refine hK _ _ ?_
              clear hK K
              try simp only [Act.put, List.getElem_toArray, List.getElem_cons_zero, List.getElem_cons_succ, List.setIfInBounds_toArray, List.set_cons_zero, List.set_cons_succ]
              refine wpAnyIn_ready (rs := [6]) (by kernel_rfl) (by simp) ?_
              refine AllReadyIn.cons rfl (fun K hK => ?_) AllReadyIn.nil
              go_simp
              refine hK _ _ ?_
              clear hK K
              try simp only [Act.put, List.getElem_toArray, List.getElem_cons_zero, List.getElem_cons_succ, List.setIfInBounds_toArray, List.set_cons_zero, List.set_cons_succ]
              refine wpAnyIn_ready (rs := [8]) (by kernel_rfl) (by simp) ?_
              refine AllReadyIn.cons rfl (fun K hK => ?_) AllReadyIn.nil
              go_simp
              refine hK _ _ ?_
              clear hK K
              try simp only [Act.put, List.getElem_toArray, List.getElem_cons_zero, List.getElem_cons_succ, List.setIfInBounds_toArray, List.set_cons_zero, List.set_cons_succ]
              refine wpAnyIn_ready (rs := [9]) (by kernel_rfl) (by simp) ?_
              refine AllReadyIn.cons rfl (fun K hK => ?_) AllReadyIn.nil
              go_simp
              refine hK _ _ ?_
              clear hK K
              try simp only [Act.put, List.getElem_toArray, List.getElem_cons_zero, List.getElem_cons_succ, List.setIfInBounds_toArray, List.set_cons_zero, List.set_cons_succ]
              refine wpAnyIn_done (by kernel_rfl) ?_ _
              gi_wp2_with fail
              refine ⟨HG.out.2.1, HG.out.1, rfl, ⟨true, W2.heap.size, qsA, jsA, i + 1, none⟩, rfl, rfl, h'.out.qsub, h'.out.mde, h'.out.lj, .inr ⟨?_, rfl, hJ4.out⟩⟩
              show i + 1 = RJ.length
              have h1 := hie.out
              have h2 := hfin.out
              rw [← hRJ.out, List.length_take]
              omega
          · have dE : ((s.i : Int) + 1 == many) = false := beq_eq_false_iff_ne.2 hfin0
            have hfin := hid hfin0
            clear hfin0
            refine wpAnyIn_ready (rs := [6, 7]) (by kernel_rfl) (by simp) ?_
            refine AllReadyIn.cons rfl (fun K hK => ?_) (AllReadyIn.cons rfl (fun K hK => ?_) AllReadyIn.nil)
            · go_simp
              refine hK _ _ ?_
              clear hK K
              try simp only [Act.put, List.getElem_toArray, List.getElem_cons_zero, List.getElem_cons_succ, List.setIfInBounds_toArray, List.set_cons_zero, List.set_cons_succ]
              refine wpAnyIn_ready (rs := [7]) (by kernel_rfl) (by simp) ?_
              refine AllReadyIn.cons rfl (fun K hK => ?_) AllReadyIn.nil
              go_simp
              refine hK _ _ ?_
              clear hK K
              try simp only [Act.put, List.getElem_toArray, List.getElem_cons_zero, List.getElem_cons_succ, List.setIfInBounds_toArray, List.set_cons_zero, List.set_cons_succ]
              refine wpAnyIn_ready (rs := [8]) (by kernel_rfl) (by simp) ?_
              refine AllReadyIn.cons rfl (fun K hK => ?_) AllReadyIn.nil
              go_simp
              refine hK _ _ ?_
              clear hK K
              try simp only [Act.put, List.getElem_toArray, List.getElem_cons_zero, List.getElem_cons_succ, List.setIfInBounds_toArray, List.set_cons_zero, List.set_cons_succ]
              refine wpAnyIn_ready (rs := [9]) (by kernel_rfl) (by simp) ?_
              refine AllReadyIn.cons rfl (fun K hK => ?_) AllReadyIn.nil
              go_simp
              refine hK _ _ ?_
              clear hK K
              try simp only [Act.put, List.getElem_toArray, List.getElem_cons_zero, List.getElem_cons_succ, List.setIfInBounds_toArray, List.set_cons_zero, List.set_cons_succ]
              refine wpAnyIn_done (by kernel_rfl) ?_ _
              gi_wp2_with fail
              refine ⟨HG.out.2.1, HG.out.1, jsA, qsA, i + 1, hJ4.out, h'.out.sub, h'.out.mj, h'.out.qsub, h'.out.qq, ⟨HG.out.2.2.1, HG.out.2.2.2.1, by simpa [Sr.nx] using HG.out.2.2.2.2.1, HG.out.2.2.2.2.2.1, HG.out.2.2.2.2.2.2, by show ((s.i + 1 : Nat) : Int) < many; have := hfin.out; omega⟩, by show i + 1 = s.i + 1; rw [hie.out], Nat.le_trans h'.out.size HG.out.2.1.size, h'.out.mde, h'.out.lj, h'.out.lq, fun x hx => (by cases hx), fun j hj => Nat.lt_of_lt_of_le (h'.out.jl j hj) HG.out.2.1.size, fun q hq => Nat.lt_of_lt_of_le (h'.out.ql q hq) HG.out.2.1.size⟩
            · go_simp
              refine hK _ _ ?_
              clear hK K
              try simp only [Act.put, List.getElem_toArray, List.getElem_cons_zero, List.getElem_cons_succ, List.setIfInBounds_toArray, List.set_cons_zero, List.set_cons_succ]
              refine wpAnyIn_ready (rs := [6]) (by kernel_rfl) (by simp) ?_
              refine AllReadyIn.cons rfl (fun K hK => ?_) AllReadyIn.nil
              go_simp
              refine hK _ _ ?_
              clear hK K
              try simp only [Act.put, List.getElem_toArray, List.getElem_cons_zero, List.getElem_cons_succ, List.setIfInBounds_toArray, List.set_cons_zero, List.set_cons_succ]
              refine wpAnyIn_ready (rs := [8]) (by kernel_rfl) (by simp) ?_
              refine AllReadyIn.cons rfl (fun K hK => ?_) AllReadyIn.nil
              go_simp
              refine hK _ _ ?_
              clear hK K
              try simp only [Act.put, List.getElem_toArray, List.getElem_cons_zero, List.getElem_cons_succ, List.setIfInBounds_toArray, List.set_cons_zero, List.set_cons_succ]
              refine wpAnyIn_ready (rs := [9]) (by kernel_rfl) (by simp) ?_
              refine AllReadyIn.cons rfl (fun K hK => ?_) AllReadyIn.nil
              go_simp
              refine hK _ _ ?_
              clear hK K
              try simp only [Act.put, List.getElem_toArray, List.getElem_cons_zero, List.getElem_cons_succ, List.setIfInBounds_toArray, List.set_cons_zero, List.set_cons_succ]
              refine wpAnyIn_done (by kernel_rfl) ?_ _
              gi_wp2_with fail
              refine ⟨HG.out.2.1, HG.out.1, jsA, qsA, i + 1, hJ4.out, h'.out.sub, h'.out.mj, h'.out.qsub, h'.out.qq, ⟨HG.out.2.2.1, HG.out.2.2.2.1, by simpa [Sr.nx] using HG.out.2.2.2.2.1, HG.out.2.2.2.2.2.1, HG.out.2.2.2.2.2.2, by show ((s.i + 1 : Nat) : Int) < many; have := hfin.out; omega⟩, by show i + 1 = s.i + 1; rw [hie.out], Nat.le_trans h'.out.size HG.out.2.1.size, h'.out.mde, h'.out.lj, h'.out.lq, fun x hx => (by cases hx), fun j hj => Nat.lt_of_lt_of_le (h'.out.jl j hj) HG.out.2.1.size, fun q hq => Nat.lt_of_lt_of_le (h'.out.ql q hq) HG.out.2.1.size⟩
        · have HG := hid (hgo.out A3 hk3)
          have hJ4 := hid hJ3
          clear hgo hR' hyl6 hJ3 hk3
          refine hK _ _ ?_
          clear hK K
          try simp only [Act.put, List.getElem_toArray, List.getElem_cons_zero, List.getElem_cons_succ, List.setIfInBounds_toArray, List.set_cons_zero, List.set_cons_succ]
          refine wpAnyIn_ready (rs := [4]) (by kernel_rfl) (by simp) ?_
          refine AllReadyIn.cons rfl (fun K hK => ?_) AllReadyIn.nil
          go_simp
          refine hK _ _ ?_
          clear hK K
          try simp only [Act.put, List.getElem_toArray, List.getElem_cons_zero, List.getElem_cons_succ, List.setIfInBounds_toArray, List.set_cons_zero, List.set_cons_succ]
          refine wpAnyIn_ready (rs := [5]) (by kernel_rfl) (by simp) ?_
          refine AllReadyIn.cons rfl (fun K hK => ?_) AllReadyIn.nil
          go_simp
          refine hK _ _ ?_
          clear hK K
          try simp only [Act.put, List.getElem_toArray, List.getElem_cons_zero, List.getElem_cons_succ, List.setIfInBounds_toArray, List.set_cons_zero, List.set_cons_succ]
          refine wpAnyIn_ready (rs := [6, 7]) (by kernel_rfl) (by simp) ?_
          refine AllReadyIn.cons rfl (fun K hK => ?_) (AllReadyIn.cons rfl (fun K hK => ?_) AllReadyIn.nil)
          · go_simp
            refine hK _ _ ?_
            clear hK K
            try simp only [Act.put, List.getElem_toArray, List.getElem_cons_zero, List.getElem_cons_succ, List.setIfInBounds_toArray, List.set_cons_zero, List.set_cons_succ]
            refine wpAnyIn_ready (rs := [7]) (by kernel_rfl) (by simp) ?_
            refine AllReadyIn.cons rfl (fun K hK => ?_) AllReadyIn.nil
            go_simp
            refine hK _ _ ?_
            clear hK K
            try simp only [Act.put, List.getElem_toArray, List.getElem_cons_zero, List.getElem_cons_succ, List.setIfInBounds_toArray, List.set_cons_zero, List.set_cons_succ]
            refine wpAnyIn_ready (rs := [8]) (by kernel_rfl) (by simp) ?_
            refine AllReadyIn.cons rfl (fun K hK => ?_) AllReadyIn.nil
            go_simp
            refine hK _ _ ?_
            clear hK K
            try simp only [Act.put, List.getElem_toArray, List.getElem_cons_zero, List.getElem_cons_succ, List.setIfInBounds_toArray, List.set_cons_zero, List.set_cons_succ]
            refine wpAnyIn_ready (rs := [9]) (by kernel_rfl) (by simp) ?_
            refine AllReadyIn.cons rfl (fun K hK => ?_) AllReadyIn.nil
            go_simp
            refine hK _ _ ?_
            clear hK K
            try simp only [Act.put, List.getElem_toArray, List.getElem_cons_zero, List.getElem_cons_succ, List.setIfInBounds_toArray, List.set_cons_zero, List.set_cons_succ]
            refine wpAnyIn_done (by kernel_rfl) ?_ _
            gi_wp2_with fail
            exact ⟨HG.out.2.1, HG.out.1, rfl, Sr.nx ⟨true, W2.heap.size, qsA, jsA, i, some ⟨za, zc, xl⟩⟩ ⟨za, zc, xl⟩, rfl, rfl, h'.out.qsub, h'.out.mde, h'.out.lj, .inl hJ4.out⟩
          · go_simp
            refine hK _ _ ?_
            clear hK K
            try simp only [Act.put, List.getElem_toArray, List.getElem_cons_zero, List.getElem_cons_succ, List.setIfInBounds_toArray, List.set_cons_zero, List.set_cons_succ]
            refine wpAnyIn_ready (rs := [6]) (by kernel_rfl) (by simp) ?_
            refine AllReadyIn.cons rfl (fun K hK => ?_) AllReadyIn.nil
            go_simp
            refine hK _ _ ?_
            clear hK K
            try simp only [Act.put, List.getElem_toArray, List.getElem_cons_zero, List.getElem_cons_succ, List.setIfInBounds_toArray, List.set_cons_zero, List.set_cons_succ]
            refine wpAnyIn_ready (rs := [8]) (by kernel_rfl) (by simp) ?_
            refine AllReadyIn.cons rfl (fun K hK => ?_) AllReadyIn.nil
            go_simp
            refine hK _ _ ?_
            clear hK K
            try simp only [Act.put, List.getElem_toArray, List.getElem_cons_zero, List.getElem_cons_succ, List.setIfInBounds_toArray, List.set_cons_zero, List.set_cons_succ]
            refine wpAnyIn_ready (rs := [9]) (by kernel_rfl) (by simp) ?_
            refine AllReadyIn.cons rfl (fun K hK => ?_) AllReadyIn.nil
            go_simp
            refine hK _ _ ?_
            clear hK K
            try simp only [Act.put, List.getElem_toArray, List.getElem_cons_zero, List.getElem_cons_succ, List.setIfInBounds_toArray, List.set_cons_zero, List.set_cons_succ]
            refine wpAnyIn_done (by kernel_rfl) ?_ _
            gi_wp2_with fail
            exact ⟨HG.out.2.1, HG.out.1, rfl, Sr.nx ⟨true, W2.heap.size, qsA, jsA, i, some ⟨za, zc, xl⟩⟩ ⟨za, zc, xl⟩, rfl, rfl, h'.out.qsub, h'.out.mde, h'.out.lj, .inl hJ4.out⟩
      · go_simp
        refine hK _ _ ?_
        clear hK K
        try simp only [Act.put, List.getElem_toArray, List.getElem_cons_zero, List.getElem_cons_succ, List.setIfInBounds_toArray, List.set_cons_zero, List.set_cons_succ]
        refine wpAnyIn_ready (rs := [0, 2]) (by kernel_rfl) (by simp) ?_
        refine AllReadyIn.cons rfl (fun K hK => ?_) (AllReadyIn.cons rfl (fun K hK => ?_) AllReadyIn.nil)
        · go_simp
          refine hK _ _ ?_
          clear hK K
          try simp only [Act.put, List.getElem_toArray, List.getElem_cons_zero, List.getElem_cons_succ, List.setIfInBounds_toArray, List.set_cons_zero, List.set_cons_succ]
          refine wpAnyIn_ready (rs := [2]) (by kernel_rfl) (by simp) ?_
          refine AllReadyIn.cons rfl (fun K hK => ?_) AllReadyIn.nil
          go_simp
          refine ⟨trivial, fun h => (by cases h), (CallsIn.inRound l0 (callsIn_wide.2 cCt.out)).mono ?_⟩
          rintro e Wz ⟨za, zc, rfl, hzrow, kz, hzb⟩
          have c3z := kpAt kz c3b
          refine hK _ _ ?_
          clear hK K
          try simp only [Act.put, List.getElem_toArray, List.getElem_cons_zero, List.getElem_cons_succ, List.setIfInBounds_toArray, List.set_cons_zero, List.set_cons_succ]
          have kWz := hid (KB.out.trans kz (by simp))
          have hzl := rowLies hzrow
          have hzb2 : ∀ j ∈ blk za, A.heap.size ≤ j := fun j hj => by have := hzb j hj; have := KB.out.size; omega
          have hJz : J ⟨true, W2.heap.size, qsA, jsA, i, some ⟨za, zc, xl⟩⟩ Wz := hT _ _ _ _ h'.out.j ⟨TurnR.ofKp (kWz.out.mono (fun q hq' => by rw [List.mem_singleton.1 hq']; exact .inl h'.out.qq)), fun _ => ⟨rfl, rfl, fun q hq => .inl hq⟩, fun e => (by cases e), fun j hj => .inl hj, rfl, .inr ⟨_, rfl, hR1.out, hzl, fun _ => ⟨hzrow, fun j hj => ⟨hzb2 j hj, fun hm => by have := h'.out.jl j hm; have := hzb2 j hj; omega, fun hm => by have := h'.out.ql j hm; have := hzb2 j hj; omega⟩⟩⟩⟩
          obtain ⟨fn, tmps, assign, body, hyl5, hR⟩ := hY _ ⟨za, zc, xl⟩ Wz hJz rfl
          have hR' : RoundIn (Fence.wide.inRound l0) (n - 1 - 1 - 1) Tryd.prog ly fn tmps assign body Wz _ := RoundIn.anyDepthJ (F := Fence.wide.inRound l0) rfl hR
          have hgo : Hid (∀ A3, KeepR ⟨true, W2.heap.size, qsA, jsA, i, some ⟨za, zc, xl⟩⟩ Wz A3 → KeepR s A A3 ∧ KeepsFrom W2.heap.size A A3 ∧ A3.cell? ⟨q1, 0, none⟩ = some (.int .i64 many) ∧ A3.cell? ⟨q3, 0, none⟩ = some (.func (.yield ly) #[] #[]) ∧ A3.cell? ⟨q4, 0, none⟩ = some (.int .i64 ((s.i : Int) + 1)) ∧ A3.frozen? ⟨q4, 0, none⟩ = false ∧ ∀ k, 1 ≤ k → A3.cell? ⟨q4, k, none⟩ = none) := fun A3 hk3 => by
            have hnr : ∀ j (o : Obj), A.heap[j]? = some o → o.isCells = false → j ∉ [q4] := fun j o ho hc hm => by
              rw [List.mem_singleton.1 hm] at ho
              have := hcel.out
              rw [ho] at this
              simp [hc] at this
            have t1 : KeepR s A Wz := ⟨KeepB.ofKp kWz.out (fun j hj hm => h'.out.lq j hj (List.mem_singleton.1 hm)), fun _ j o _ ho hc => (kWz.out.block j (Array.getElem?_eq_some_iff.1 ho).1 (hnr j o ho hc)).trans ho⟩
            have t2 : KeepR s Wz A3 := ⟨⟨hk3.js.1, fun j hj o ho => hk3.js.2 j (h'.out.sub j hj) o ho⟩, fun hm j o hj ho hc => hk3.recs rfl j o (by have := (h'.out.mde hm).1; show W2.heap.size ≤ j; omega) ho hc⟩
            have ck3 := ckOfKeepB hk3.js
            have kz1 : Kp [] A1 Wz := KD.out.trans kz (by simp)
            have hin : ∀ q ∈ [q1, q3, q4], q ∈ jsA := fun q hq' => h'.out.mj q (by rw [hMj.out]; exact hq')
            have a4 := kpAt kz1 HC.out.2.2.1
            refine ⟨t1.trans t2, ⟨Nat.le_trans kWz.out.size hk3.js.1, fun j o hj ho hc => hk3.recs rfl j o hj ((kWz.out.block j (Array.getElem?_eq_some_iff.1 ho).1 (hnr j o ho hc)).trans ho) hc⟩, (ck3.2 ⟨q1, 0, none⟩ _ (hin q1 (by simp)) (kpAt kz1 HC.out.1)).1, (ck3.2 ⟨q3, 0, none⟩ _ (hin q3 (by simp)) (kpAt kz1 HC.out.2.1)).1, (ck3.2 ⟨q4, 0, none⟩ _ (hin q4 (by simp)) a4).1, ((ck3.2 ⟨q4, 0, none⟩ _ (hin q4 (by simp)) a4).2).trans ((kz1.frozen (p := ⟨q4, 0, none⟩) (World.block_lt_of_cell? _ _ HC.out.2.2.1) (by simp)).trans HC.out.2.2.2), noneCB (CB.ofKeepB hk3.js) (hin q4 (by simp)) a4 (noneCB (CB.ofKp kz1) (by simp) HC.out.2.2.1 HN.out)⟩
          have hyl6 := hyl5
          simp only [encR] at hyl6
          clear hR hJz hzl hzrow kz hzb hzb2 hyl5 cCt
          refine wpAnyIn_ready (rs := [3]) (by kernel_rfl) (by simp) ?_
          refine AllReadyIn.cons rfl (fun K hK => ?_) AllReadyIn.nil
          go_simp
          refine ⟨fun h => (by cases h), hR'.mono ?_⟩
          rintro e A3 (⟨rfl, hJ3, hk3⟩ | ⟨rfl, hJ3, hk3⟩)
          · have HG := hid (hgo.out A3 hk3)
            have hJ4 : Hid (J ⟨true, W2.heap.size, qsA, jsA, i + 1, none⟩ A3) := hJ3
            have y1 := HG.out.2.2.1
            have y4 := HG.out.2.2.2.2.1
            clear hgo hR' hyl6 hJ3 hk3
            refine hK _ _ ?_
            clear hK K
            try simp only [Act.put, List.getElem_toArray, List.getElem_cons_zero, List.getElem_cons_succ, List.setIfInBounds_toArray, List.set_cons_zero, List.set_cons_succ]
            refine wpAnyIn_ready (rs := [4]) (by kernel_rfl) (by simp) ?_
            refine AllReadyIn.cons rfl (fun K hK => ?_) AllReadyIn.nil
            go_simp
            refine hK _ _ ?_
            clear hK K
            try simp only [Act.put, List.getElem_toArray, List.getElem_cons_zero, List.getElem_cons_succ, List.setIfInBounds_toArray, List.set_cons_zero, List.set_cons_succ]
            refine wpAnyIn_ready (rs := [5]) (by kernel_rfl) (by simp) ?_
            refine AllReadyIn.cons rfl (fun K hK => ?_) AllReadyIn.nil
            go_simp
            refine hK _ _ ?_
            clear hK K
            try simp only [Act.put, List.getElem_toArray, List.getElem_cons_zero, List.getElem_cons_succ, List.setIfInBounds_toArray, List.set_cons_zero, List.set_cons_succ]
            by_cases hfin0 : (s.i : Int) + 1 = many
            · have dE : ((s.i : Int) + 1 == many) = true := by simpa using hfin0
              have hfin := hid hfin0
              clear hfin0
              refine wpAnyIn_ready (rs := [6, 7]) (by kernel_rfl) (by simp) ?_
              refine AllReadyIn.cons rfl (fun K hK => ?_) (AllReadyIn.cons rfl (fun K hK => ?_) AllReadyIn.nil)
              · go_simp
                refine hK _ _ ?_
                clear hK K
                try simp only [Act.put, List.getElem_toArray, List.getElem_cons_zero, List.getElem_cons_succ, List.setIfInBounds_toArray, List.set_cons_zero, List.set_cons_succ]
                refine wpAnyIn_ready (rs := [7]) (by kernel_rfl) (by simp) ?_
                refine AllReadyIn.cons rfl (fun K hK => ?_) AllReadyIn.nil
                go_simp
                refine hK _ _ ?_
                clear hK K
                try simp only [Act.put, List.getElem_toArray, List.getElem_cons_zero, List.getElem_cons_succ, List.setIfInBounds_toArray, List.set_cons_zero, List.set_cons_succ]
                refine wpAnyIn_ready (rs := [8]) (by kernel_rfl) (by simp) ?_
                refine AllReadyIn.cons rfl (fun K hK => ?_) AllReadyIn.nil
                go_simp
                refine hK _ _ ?_
                clear hK K
                try simp only [Act.put, List.getElem_toArray, List.getElem_cons_zero, List.getElem_cons_succ, List.setIfInBounds_toArray, List.set_cons_zero, List.set_cons_succ]
                refine wpAnyIn_ready (rs := [9]) (by kernel_rfl) (by simp) ?_
                refine AllReadyIn.cons rfl (fun K hK => ?_) AllReadyIn.nil
                go_simp
                refine hK _ _ ?_
                clear hK K
                try simp only [Act.put, List.getElem_toArray, List.getElem_cons_zero, List.getElem_cons_succ, List.setIfInBounds_toArray, List.set_cons_zero, List.set_cons_succ]
                refine wpAnyIn_done (by kernel_rfl) ?_ _
                gi_wp2_with fail
                refine ⟨HG.out.2.1, HG.out.1, rfl, ⟨true, W2.heap.size, qsA, jsA, i + 1, none⟩, rfl, rfl, h'.out.qsub, h'.out.mde, h'.out.lj, .inr ⟨?_, rfl, hJ4.out⟩⟩
                show i + 1 = RJ.length
                have h1 := hie.out
                have h2 := hfin.out
                rw [← hRJ.out, List.length_take]
                omega
              · go_simp
                refine hK _ _ ?_
                clear hK K
                try simp only [Act.put, List.getElem_toArray, List.getElem_cons_zero, List.getElem_cons_succ, List.setIfInBounds_toArray, List.set_cons_zero, List.set_cons_succ]
                refine wpAnyIn_ready (rs := [6]) (by kernel_rfl) (by simp) ?_
                refine AllReadyIn.cons rfl (fun K hK => ?_) AllReadyIn.nil
                go_simp
                refine hK _ _ ?_
                clear hK K
                try simp only [Act.put, List.getElem_toArray, List.getElem_cons_zero, List.getElem_cons_succ, List.setIfInBounds_toArray, List.set_cons_zero, List.set_cons_succ]
                refine wpAnyIn_ready (rs := [8]) (by kernel_rfl) (by simp) ?_
                refine AllReadyIn.cons rfl (fun K hK => ?_) AllReadyIn.nil
                go_simp
                refine hK _ _ ?_
                clear hK K
                try simp only [Act.put, List.getElem_toArray, List.getElem_cons_zero, List.getElem_cons_succ, List.setIfInBounds_toArray, List.set_cons_zero, List.set_cons_succ]
                refine wpAnyIn_ready (rs := [9]) (by kernel_rfl) (by simp) ?_
                refine AllReadyIn.cons rfl (fun K hK => ?_) AllReadyIn.nil
                go_simp
                refine hK _ _ ?_
                clear hK K
                try simp only [Act.put, List.getElem_toArray, List.getElem_cons_zero, List.getElem_cons_succ, List.setIfInBounds_toArray, List.set_cons_zero, List.set_cons_succ]
                refine wpAnyIn_done (by kernel_rfl) ?_ _
                gi_wp2_with fail
                refine ⟨HG.out.2.1, HG.out.1, rfl, ⟨true, W2.heap.size, qsA, jsA, i + 1, none⟩, rfl, rfl, h'.out.qsub, h'.out.mde, h'.out.lj, .inr ⟨?_, rfl, hJ4.out⟩⟩
                show i + 1 = RJ.length
                have h1 := hie.out
                have h2 := hfin.out
                rw [← hRJ.out, List.length_take]
                omega
            · have dE : ((s.i : Int) + 1 == many) = false := beq_eq_false_iff_ne.2 hfin0
              have hfin := hid hfin0
              clear hfin0
              refine wpAnyIn_ready (rs := [6, 7]) (by kernel_rfl) (by simp) ?_
              refine AllReadyIn.cons rfl (fun K hK => ?_) (AllReadyIn.cons rfl (fun K hK => ?_) AllReadyIn.nil)
              · go_simp
                refine hK _ _ ?_
                clear hK K
                try simp only [Act.put, List.getElem_toArray, List.getElem_cons_zero, List.getElem_cons_succ, List.setIfInBounds_toArray, List.set_cons_zero, List.set_cons_succ]
                refine wpAnyIn_ready (rs := [7]) (by kernel_rfl) (by simp) ?_
                refine AllReadyIn.cons rfl (fun K hK => ?_) AllReadyIn.nil
                go_simp
                refine hK _ _ ?_
                clear hK K
                try simp only [Act.put, List.getElem_toArray, List.getElem_cons_zero, List.getElem_cons_succ, List.setIfInBounds_toArray, List.set_cons_zero, List.set_cons_succ]
                refine wpAnyIn_ready (rs := [8]) (by kernel_rfl) (by simp) ?_
                refine AllReadyIn.cons rfl (fun K hK => ?_) AllReadyIn.nil
                go_simp
                refine hK _ _ ?_
                clear hK K
                try simp only [Act.put, List.getElem_toArray, List.getElem_cons_zero, List.getElem_cons_succ, List.setIfInBounds_toArray, List.set_cons_zero, List.set_cons_succ]
                refine wpAnyIn_ready (rs := [9]) (by kernel_rfl) (by simp) ?_
                refine AllReadyIn.cons rfl (fun K hK => ?_) AllReadyIn.nil
                go_simp
                refine hK _ _ ?_
                clear hK K
                try simp only [Act.put, List.getElem_toArray, List.getElem_cons_zero, List.getElem_cons_succ, List.setIfInBounds_toArray, List.set_cons_zero, List.set_cons_succ]
                refine wpAnyIn_done (by kernel_rfl) ?_ _
                gi_wp2_with fail
                refine ⟨HG.out.2.1, HG.out.1, jsA, qsA, i + 1, hJ4.out, h'.out.sub, h'.out.mj, h'.out.qsub, h'.out.qq, ⟨HG.out.2.2.1, HG.out.2.2.2.1, by simpa [Sr.nx] using HG.out.2.2.2.2.1, HG.out.2.2.2.2.2.1, HG.out.2.2.2.2.2.2, by show ((s.i + 1 : Nat) : Int) < many; have := hfin.out; omega⟩, by show i + 1 = s.i + 1; rw [hie.out], Nat.le_trans h'.out.size HG.out.2.1.size, h'.out.mde, h'.out.lj, h'.out.lq, fun x hx => (by cases hx), fun j hj => Nat.lt_of_lt_of_le (h'.out.jl j hj) HG.out.2.1.size, fun q hq => Nat.lt_of_lt_of_le (h'.out.ql q hq) HG.out.2.1.size⟩
              · go_simp
                refine hK _ _ ?_
                clear hK K
                try simp only [Act.put, List.getElem_toArray, List.getElem_cons_zero, List.getElem_cons_succ, List.setIfInBounds_toArray, List.set_cons_zero, List.set_cons_succ]
                refine wpAnyIn_ready (rs := [6]) (by kernel_rfl) (by simp) ?_
                refine AllReadyIn.cons rfl (fun K hK => ?_) AllReadyIn.nil
                go_simp
                refine hK _ _ ?_
                clear hK K
                try simp only [Act.put, List.getElem_toArray, List.getElem_cons_zero, List.getElem_cons_succ, List.setIfInBounds_toArray, List.set_cons_zero, List.set_cons_succ]
                refine wpAnyIn_ready (rs := [8]) (by kernel_rfl) (by simp) ?_
                refine AllReadyIn.cons rfl (fun K hK => ?_) AllReadyIn.nil
                go_simp
                refine hK _ _ ?_
                clear hK K
                try simp only [Act.put, List.getElem_toArray, List.getElem_cons_zero, List.getElem_cons_succ, List.setIfInBounds_toArray, List.set_cons_zero, List.set_cons_succ]
                refine wpAnyIn_ready (rs := [9]) (by kernel_rfl) (by simp) ?_
                refine AllReadyIn.cons rfl (fun K hK => ?_) AllReadyIn.nil
                go_simp
                refine hK _ _ ?_
                clear hK K
                try simp only [Act.put, List.getElem_toArray, List.getElem_cons_zero, List.getElem_cons_succ, List.setIfInBounds_toArray, List.set_cons_zero, List.set_cons_succ]
                refine wpAnyIn_done (by kernel_rfl) ?_ _
                gi_wp2_with fail
                refine ⟨HG.out.2.1, HG.out.1, jsA, qsA, i + 1, hJ4.out, h'.out.sub, h'.out.mj, h'.out.qsub, h'.out.qq, ⟨HG.out.2.2.1, HG.out.2.2.2.1, by simpa [Sr.nx] using HG.out.2.2.2.2.1, HG.out.2.2.2.2.2.1, HG.out.2.2.2.2.2.2, by show ((s.i + 1 : Nat) : Int) < many; have := hfin.out; omega⟩, by show i + 1 = s.i + 1; rw [hie.out], Nat.le_trans h'.out.size HG.out.2.1.size, h'.out.mde, h'.out.lj, h'.out.lq, fun x hx => (by cases hx), fun j hj => Nat.lt_of_lt_of_le (h'.out.jl j hj) HG.out.2.1.size, fun q hq => Nat.lt_of_lt_of_le (h'.out.ql q hq) HG.out.2.1.size⟩
          · have HG := hid (hgo.out A3 hk3)
            have hJ4 := hid hJ3
            clear hgo hR' hyl6 hJ3 hk3
            refine hK _ _ ?_
            clear hK K
            try simp only [Act.put, List.getElem_toArray, List.getElem_cons_zero, List.getElem_cons_succ, List.setIfInBounds_toArray, List.set_cons_zero, List.set_cons_succ]
            refine wpAnyIn_ready (rs := [4]) (by kernel_rfl) (by simp) ?_
            refine AllReadyIn.cons rfl (fun K hK => ?_) AllReadyIn.nil
            go_simp
            refine hK _ _ ?_
            clear hK K
            try simp only [Act.put, List.getElem_toArray, List.getElem_cons_zero, List.getElem_cons_succ, List.setIfInBounds_toArray, List.set_cons_zero, List.set_cons_succ]
            refine wpAnyIn_ready (rs := [5]) (by kernel_rfl) (by simp) ?_
            refine AllReadyIn.cons rfl (fun K hK => ?_) AllReadyIn.nil
            go_simp
            refine hK _ _ ?_
            clear hK K
            try simp only [Act.put, List.getElem_toArray, List.getElem_cons_zero, List.getElem_cons_succ, List.setIfInBounds_toArray, List.set_cons_zero, List.set_cons_succ]
            refine wpAnyIn_ready (rs := [6, 7]) (by kernel_rfl) (by simp) ?_
            refine AllReadyIn.cons rfl (fun K hK => ?_) (AllReadyIn.cons rfl (fun K hK => ?_) AllReadyIn.nil)
            · go_simp
              refine hK _ _ ?_
              clear hK K
              try simp only [Act.put, List.getElem_toArray, List.getElem_cons_zero, List.getElem_cons_succ, List.setIfInBounds_toArray, List.set_cons_zero, List.set_cons_succ]
              refine wpAnyIn_ready (rs := [7]) (by kernel_rfl) (by simp) ?_
              refine AllReadyIn.cons rfl (fun K hK => ?_) AllReadyIn.nil
              go_simp
              refine hK _ _ ?_
              clear hK K
              try simp only [Act.put, List.getElem_toArray, List.getElem_cons_zero, List.getElem_cons_succ, List.setIfInBounds_toArray, List.set_cons_zero, List.set_cons_succ]
              refine wpAnyIn_ready (rs := [8]) (by kernel_rfl) (by simp) ?_
              refine AllReadyIn.cons rfl (fun K hK => ?_) AllReadyIn.nil
              go_simp
              refine hK _ _ ?_
              clear hK K
              try simp only [Act.put, List.getElem_toArray, List.getElem_cons_zero, List.getElem_cons_succ, List.setIfInBounds_toArray, List.set_cons_zero, List.set_cons_succ]
              refine wpAnyIn_ready (rs := [9]) (by kernel_rfl) (by simp) ?_
              refine AllReadyIn.cons rfl (fun K hK => ?_) AllReadyIn.nil
              go_simp
              refine hK _ _ ?_
              clear hK K
              try simp only [Act.put, List.getElem_toArray, List.getElem_cons_zero, List.getElem_cons_succ, List.setIfInBounds_toArray, List.set_cons_zero, List.set_cons_succ]
              refine wpAnyIn_done (by kernel_rfl) ?_ _
              gi_wp2_with fail
              exact ⟨HG.out.2.1, HG.out.1, rfl, Sr.nx ⟨true, W2.heap.size, qsA, jsA, i, some ⟨za, zc, xl⟩⟩ ⟨za, zc, xl⟩, rfl, rfl, h'.out.qsub, h'.out.mde, h'.out.lj, .inl hJ4.out⟩
            · go_simp
              refine hK _ _ ?_
              clear hK K
              try simp only [Act.put, List.getElem_toArray, List.getElem_cons_zero, List.getElem_cons_succ, List.setIfInBounds_toArray, List.set_cons_zero, List.set_cons_succ]
              refine wpAnyIn_ready (rs := [6]) (by kernel_rfl) (by simp) ?_
              refine AllReadyIn.cons rfl (fun K hK => ?_) AllReadyIn.nil
              go_simp
              refine hK _ _ ?_
              clear hK K
              try simp only [Act.put, List.getElem_toArray, List.getElem_cons_zero, List.getElem_cons_succ, List.setIfInBounds_toArray, List.set_cons_zero, List.set_cons_succ]
              refine wpAnyIn_ready (rs := [8]) (by kernel_rfl) (by simp) ?_
              refine AllReadyIn.cons rfl (fun K hK => ?_) AllReadyIn.nil
              go_simp
              refine hK _ _ ?_
              clear hK K
              try simp only [Act.put, List.getElem_toArray, List.getElem_cons_zero, List.getElem_cons_succ, List.setIfInBounds_toArray, List.set_cons_zero, List.set_cons_succ]
              refine wpAnyIn_ready (rs := [9]) (by kernel_rfl) (by simp) ?_
              refine AllReadyIn.cons rfl (fun K hK => ?_) AllReadyIn.nil
              go_simp
              refine hK _ _ ?_
              clear hK K
              try simp only [Act.put, List.getElem_toArray, List.getElem_cons_zero, List.getElem_cons_succ, List.setIfInBounds_toArray, List.set_cons_zero, List.set_cons_succ]
              refine wpAnyIn_done (by kernel_rfl) ?_ _
              gi_wp2_with fail
              exact ⟨HG.out.2.1, HG.out.1, rfl, Sr.nx ⟨true, W2.heap.size, qsA, jsA, i, some ⟨za, zc, xl⟩⟩ ⟨za, zc, xl⟩, rfl, rfl, h'.out.qsub, h'.out.mde, h'.out.lj, .inl hJ4.out⟩
        · go_simp
          refine ⟨trivial, fun h => (by cases h), (CallsIn.inRound l0 (callsIn_wide.2 cCt.out)).mono ?_⟩
          rintro e Wz ⟨za, zc, rfl, hzrow, kz, hzb⟩
          have c3z := kpAt kz c3b
          refine hK _ _ ?_
          clear hK K
          try simp only [Act.put, List.getElem_toArray, List.getElem_cons_zero, List.getElem_cons_succ, List.setIfInBounds_toArray, List.set_cons_zero, List.set_cons_succ]
          refine wpAnyIn_ready (rs := [0]) (by kernel_rfl) (by simp) ?_
          refine AllReadyIn.cons rfl (fun K hK => ?_) AllReadyIn.nil
          go_simp
          refine hK _ _ ?_
          clear hK K
          try simp only [Act.put, List.getElem_toArray, List.getElem_cons_zero, List.getElem_cons_succ, List.setIfInBounds_toArray, List.set_cons_zero, List.set_cons_succ]
          have kWz := hid (KB.out.trans kz (by simp))
          have hzl := rowLies hzrow
          have hzb2 : ∀ j ∈ blk za, A.heap.size ≤ j := fun j hj => by have := hzb j hj; have := KB.out.size; omega
          have hJz : J ⟨true, W2.heap.size, qsA, jsA, i, some ⟨za, zc, xl⟩⟩ Wz := hT _ _ _ _ h'.out.j ⟨TurnR.ofKp (kWz.out.mono (fun q hq' => by rw [List.mem_singleton.1 hq']; exact .inl h'.out.qq)), fun _ => ⟨rfl, rfl, fun q hq => .inl hq⟩, fun e => (by cases e), fun j hj => .inl hj, rfl, .inr ⟨_, rfl, hR1.out, hzl, fun _ => ⟨hzrow, fun j hj => ⟨hzb2 j hj, fun hm => by have := h'.out.jl j hm; have := hzb2 j hj; omega, fun hm => by have := h'.out.ql j hm; have := hzb2 j hj; omega⟩⟩⟩⟩
          obtain ⟨fn, tmps, assign, body, hyl5, hR⟩ := hY _ ⟨za, zc, xl⟩ Wz hJz rfl
          have hR' : RoundIn (Fence.wide.inRound l0) (n - 1 - 1 - 1) Tryd.prog ly fn tmps assign body Wz _ := RoundIn.anyDepthJ (F := Fence.wide.inRound l0) rfl hR
          have hgo : Hid (∀ A3, KeepR ⟨true, W2.heap.size, qsA, jsA, i, some ⟨za, zc, xl⟩⟩ Wz A3 → KeepR s A A3 ∧ KeepsFrom W2.heap.size A A3 ∧ A3.cell? ⟨q1, 0, none⟩ = some (.int .i64 many) ∧ A3.cell? ⟨q3, 0, none⟩ = some (.func (.yield ly) #[] #[]) ∧ A3.cell? ⟨q4, 0, none⟩ = some (.int .i64 ((s.i : Int) + 1)) ∧ A3.frozen? ⟨q4, 0, none⟩ = false ∧ ∀ k, 1 ≤ k → A3.cell? ⟨q4, k, none⟩ = none) := fun A3 hk3 => by
            have hnr : ∀ j (o : Obj), A.heap[j]? = some o → o.isCells = false → j ∉ [q4] := fun j o ho hc hm => by
              rw [List.mem_singleton.1 hm] at ho
              have := hcel.out
              rw [ho] at this
              simp [hc] at this
            have t1 : KeepR s A Wz := ⟨KeepB.ofKp kWz.out (fun j hj hm => h'.out.lq j hj (List.mem_singleton.1 hm)), fun _ j o _ ho hc => (kWz.out.block j (Array.getElem?_eq_some_iff.1 ho).1 (hnr j o ho hc)).trans ho⟩
            have t2 : KeepR s Wz A3 := ⟨⟨hk3.js.1, fun j hj o ho => hk3.js.2 j (h'.out.sub j hj) o ho⟩, fun hm j o hj ho hc => hk3.recs rfl j o (by have := (h'.out.mde hm).1; show W2.heap.size ≤ j; omega) ho hc⟩
            have ck3 := ckOfKeepB hk3.js
            have kz1 : Kp [] A1 Wz := KD.out.trans kz (by simp)
            have hin : ∀ q ∈ [q1, q3, q4], q ∈ jsA := fun q hq' => h'.out.mj q (by rw [hMj.out]; exact hq')
            have a4 := kpAt kz1 HC.out.2.2.1
            refine ⟨t1.trans t2, ⟨Nat.le_trans kWz.out.size hk3.js.1, fun j o hj ho hc => hk3.recs rfl j o hj ((kWz.out.block j (Array.getElem?_eq_some_iff.1 ho).1 (hnr j o ho hc)).trans ho) hc⟩, (ck3.2 ⟨q1, 0, none⟩ _ (hin q1 (by simp)) (kpAt kz1 HC.out.1)).1, (ck3.2 ⟨q3, 0, none⟩ _ (hin q3 (by simp)) (kpAt kz1 HC.out.2.1)).1, (ck3.2 ⟨q4, 0, none⟩ _ (hin q4 (by simp)) a4).1, ((ck3.2 ⟨q4, 0, none⟩ _ (hin q4 (by simp)) a4).2).trans ((kz1.frozen (p := ⟨q4, 0, none⟩) (World.block_lt_of_cell? _ _ HC.out.2.2.1) (by simp)).trans HC.out.2.2.2), noneCB (CB.ofKeepB hk3.js) (hin q4 (by simp)) a4 (noneCB (CB.ofKp kz1) (by simp) HC.out.2.2.1 HN.out)⟩
          have hyl6 := hyl5
          simp only [encR] at hyl6
          clear hR hJz hzl hzrow kz hzb hzb2 hyl5 cCt
          refine wpAnyIn_ready (rs := [3]) (by kernel_rfl) (by simp) ?_
          refine AllReadyIn.cons rfl (fun K hK => ?_) AllReadyIn.nil
          go_simp
          refine ⟨fun h => (by cases h), hR'.mono ?_⟩
          rintro e A3 (⟨rfl, hJ3, hk3⟩ | ⟨rfl, hJ3, hk3⟩)
          · have HG := hid (hgo.out A3 hk3)
            have hJ4 : Hid (J ⟨true, W2.heap.size, qsA, jsA, i + 1, none⟩ A3) := hJ3
            have y1 := HG.out.2.2.1
            have y4 := HG.out.2.2.2.2.1
            clear hgo hR' hyl6 hJ3 hk3
            refine hK _ _ ?_
            clear hK K
            try simp only [Act.put, List.getElem_toArray, List.getElem_cons_zero, List.getElem_cons_succ, List.setIfInBounds_toArray, List.set_cons_zero, List.set_cons_succ]
            refine wpAnyIn_ready (rs := [4]) (by kernel_rfl) (by simp) ?_
            refine AllReadyIn.cons rfl (fun K hK => ?_) AllReadyIn.nil
            go_simp
            refine hK _ _ ?_
            clear hK K
            try simp only [Act.put, List.getElem_toArray, List.getElem_cons_zero, List.getElem_cons_succ, List.setIfInBounds_toArray, List.set_cons_zero, List.set_cons_succ]
            refine wpAnyIn_ready (rs := [5]) (by kernel_rfl) (by simp) ?_
            refine AllReadyIn.cons rfl (fun K hK => ?_) AllReadyIn.nil
            go_simp
            refine hK _ _ ?_
            clear hK K
            try simp only [Act.put, List.getElem_toArray, List.getElem_cons_zero, List.getElem_cons_succ, List.setIfInBounds_toArray, List.set_cons_zero, List.set_cons_succ]
            by_cases hfin0 : (s.i : Int) + 1 = many
            · have dE : ((s.i : Int) + 1 == many) = true := by simpa using hfin0
              have hfin := hid hfin0
              clear hfin0
              refine wpAnyIn_ready (rs := [6, 7]) (by kernel_rfl) (by simp) ?_
              refine AllReadyIn.cons rfl (fun K hK => ?_) (AllReadyIn.cons rfl (fun K hK => ?_) AllReadyIn.nil)
              · go_simp
                refine hK _ _ ?_
                clear hK K
                try simp only [Act.put, List.getElem_toArray, List.getElem_cons_zero, List.getElem_cons_succ, List.setIfInBounds_toArray, List.set_cons_zero, List.set_cons_succ]
                refine wpAnyIn_ready (rs := [7]) (by kernel_rfl) (by simp) ?_
                refine AllReadyIn.cons rfl (fun K hK => ?_) AllReadyIn.nil
                go_simp
                refine hK _ _ ?_
                clear hK K
                try simp only [Act.put, List.getElem_toArray, List.getElem_cons_zero, List.getElem_cons_succ, List.setIfInBounds_toArray, List.set_cons_zero, List.set_cons_succ]
                refine wpAnyIn_ready (rs := [8]) (by kernel_rfl) (by simp) ?_
                refine AllReadyIn.cons rfl (fun K hK => ?_) AllReadyIn.nil
                go_simp
                refine hK _ _ ?_
                clear hK K
                try simp only [Act.put, List.getElem_toArray, List.getElem_cons_zero, List.getElem_cons_succ, List.setIfInBounds_toArray, List.set_cons_zero, List.set_cons_succ]
                refine wpAnyIn_ready (rs := [9]) (by kernel_rfl) (by simp) ?_
                refine AllReadyIn.cons rfl (fun K hK => ?_) AllReadyIn.nil
                go_simp
                refine hK _ _ ?_
                clear hK K
                try simp only [Act.put, List.getElem_toArray, List.getElem_cons_zero, List.getElem_cons_succ, List.setIfInBounds_toArray, List.set_cons_zero, List.set_cons_succ]
                refine wpAnyIn_done (by kernel_rfl) ?_ _
                gi_wp2_with fail
                refine ⟨HG.out.2.1, HG.out.1, rfl, ⟨true, W2.heap.size, qsA, jsA, i + 1, none⟩, rfl, rfl, h'.out.qsub, h'.out.mde, h'.out.lj, .inr ⟨?_, rfl, hJ4.out⟩⟩
                show i + 1 = RJ.length
                have h1 := hie.out
                have h2 := hfin.out
                rw [← hRJ.out, List.length_take]
                omega
              · go_simp
                refine hK _ _ ?_
                clear hK K
                try simp only [Act.put, List.getElem_toArray, List.getElem_cons_zero, List.getElem_cons_succ, List.setIfInBounds_toArray, List.set_cons_zero, List.set_cons_succ]
                refine wpAnyIn_ready (rs := [6]) (by kernel_rfl) (by simp) ?_
                refine AllReadyIn.cons rfl (fun K hK => ?_) AllReadyIn.nil
                go_simp
                refine hK _ _ ?_
                clear hK K
                try simp only [Act.put, List.getElem_toArray, List.getElem_cons_zero, List.getElem_cons_succ, List.setIfInBounds_toArray, List.set_cons_zero, List.set_cons_succ]
                refine wpAnyIn_ready (rs := [8]) (by kernel_rfl) (by simp) ?_
                refine AllReadyIn.cons rfl (fun K hK => ?_) AllReadyIn.nil
                go_simp
                refine hK _ _ ?_
                clear hK K
                try simp only [Act.put, List.getElem_toArray, List.getElem_cons_zero, List.getElem_cons_succ, List.setIfInBounds_toArray, List.set_cons_zero, List.set_cons_succ]
                refine wpAnyIn_ready (rs := [9]) (by kernel_rfl) (by simp) ?_
                refine AllReadyIn.cons rfl (fun K hK => ?_) AllReadyIn.nil
                go_simp
                refine hK _ _ ?_
                clear hK K
                try simp only [Act.put, List.getElem_toArray, List.getElem_cons_zero, List.getElem_cons_succ, List.setIfInBounds_toArray, List.set_cons_zero, List.set_cons_succ]
                refine wpAnyIn_done (by kernel_rfl) ?_ _
                gi_wp2_with fail
                refine ⟨HG.out.2.1, HG.out.1, rfl, ⟨true, W2.heap.size, qsA, jsA, i + 1, none⟩, rfl, rfl, h'.out.qsub, h'.out.mde, h'.out.lj, .inr ⟨?_, rfl, hJ4.out⟩⟩
                show i + 1 = RJ.length
                have h1 := hie.out
                have h2 := hfin.out
                rw [← hRJ.out, List.length_take]
                omega
            · have dE : ((s.i : Int) + 1 == many) = false := beq_eq_false_iff_ne.2 hfin0
              have hfin := hid hfin0
              clear hfin0
              refine wpAnyIn_ready (rs := [6, 7]) (by kernel_rfl) (by simp) ?_
              refine AllReadyIn.cons rfl (fun K hK => ?_) (AllReadyIn.cons rfl (fun K hK => ?_) AllReadyIn.nil)
              · go_simp
                refine hK _ _ ?_
                clear hK K
                try simp only [Act.put, List.getElem_toArray, List.getElem_cons_zero, List.getElem_cons_succ, List.setIfInBounds_toArray, List.set_cons_zero, List.set_cons_succ]
                refine wpAnyIn_ready (rs := [7]) (by kernel_rfl) (by simp) ?_
                refine AllReadyIn.cons rfl (fun K hK => ?_) AllReadyIn.nil
                go_simp
                refine hK _ _ ?_
                clear hK K
                try simp only [Act.put, List.getElem_toArray, List.getElem_cons_zero, List.getElem_cons_succ, List.setIfInBounds_toArray, List.set_cons_zero, List.set_cons_succ]
                refine wpAnyIn_ready (rs := [8]) (by kernel_rfl) (by simp) ?_
                refine AllReadyIn.cons rfl (fun K hK => ?_) AllReadyIn.nil
                go_simp
                refine hK _ _ ?_
                clear hK K
                try simp only [Act.put, List.getElem_toArray, List.getElem_cons_zero, List.getElem_cons_succ, List.setIfInBounds_toArray, List.set_cons_zero, List.set_cons_succ]
                refine wpAnyIn_ready (rs := [9]) (by kernel_rfl) (by simp) ?_
                refine AllReadyIn.cons rfl (fun K hK => ?_) AllReadyIn.nil
                go_simp
                refine hK _ _ ?_
                clear hK K
                try simp only [Act.put, List.getElem_toArray, List.getElem_cons_zero, List.getElem_cons_succ, List.setIfInBounds_toArray, List.set_cons_zero, List.set_cons_succ]
                refine wpAnyIn_done (by kernel_rfl) ?_ _
                gi_wp2_with fail
                refine ⟨HG.out.2.1, HG.out.1, jsA, qsA, i + 1, hJ4.out, h'.out.sub, h'.out.mj, h'.out.qsub, h'.out.qq, ⟨HG.out.2.2.1, HG.out.2.2.2.1, by simpa [Sr.nx] using HG.out.2.2.2.2.1, HG.out.2.2.2.2.2.1, HG.out.2.2.2.2.2.2, by show ((s.i + 1 : Nat) : Int) < many; have := hfin.out; omega⟩, by show i + 1 = s.i + 1; rw [hie.out], Nat.le_trans h'.out.size HG.out.2.1.size, h'.out.mde, h'.out.lj, h'.out.lq, fun x hx => (by cases hx), fun j hj => Nat.lt_of_lt_of_le (h'.out.jl j hj) HG.out.2.1.size, fun q hq => Nat.lt_of_lt_of_le (h'.out.ql q hq) HG.out.2.1.size⟩
              · go_simp
                refine hK _ _ ?_
                clear hK K
                try simp only [Act.put, List.getElem_toArray, List.getElem_cons_zero, List.getElem_cons_succ, List.setIfInBounds_toArray, List.set_cons_zero, List.set_cons_succ]
                refine wpAnyIn_ready (rs := [6]) (by kernel_rfl) (by simp) ?_
                refine AllReadyIn.cons rfl (fun K hK => ?_) AllReadyIn.nil
                go_simp
                refine hK _ _ ?_
                clear hK K
                try simp only [Act.put, List.getElem_toArray, List.getElem_cons_zero, List.getElem_cons_succ, List.setIfInBounds_toArray, List.set_cons_zero, List.set_cons_succ]
                refine wpAnyIn_ready (rs := [8]) (by kernel_rfl) (by simp) ?_
                refine AllReadyIn.cons rfl (fun K hK => ?_) AllReadyIn.nil
                go_simp
                refine hK _ _ ?_
                clear hK K
                try simp only [Act.put, List.getElem_toArray, List.getElem_cons_zero, List.getElem_cons_succ, List.setIfInBounds_toArray, List.set_cons_zero, List.set_cons_succ]
                refine wpAnyIn_ready (rs := [9]) (by kernel_rfl) (by simp) ?_
                refine AllReadyIn.cons rfl (fun K hK => ?_) AllReadyIn.nil
                go_simp
                refine hK _ _ ?_
                clear hK K
                try simp only [Act.put, List.getElem_toArray, List.getElem_cons_zero, List.getElem_cons_succ, List.setIfInBounds_toArray, List.set_cons_zero, List.set_cons_succ]
                refine wpAnyIn_done (by kernel_rfl) ?_ _
                gi_wp2_with fail
                refine ⟨HG.out.2.1, HG.out.1, jsA, qsA, i + 1, hJ4.out, h'.out.sub, h'.out.mj, h'.out.qsub, h'.out.qq, ⟨HG.out.2.2.1, HG.out.2.2.2.1, by simpa [Sr.nx] using HG.out.2.2.2.2.1, HG.out.2.2.2.2.2.1, HG.out.2.2.2.2.2.2, by show ((s.i + 1 : Nat) : Int) < many; have := hfin.out; omega⟩, by show i + 1 = s.i + 1; rw [hie.out], Nat.le_trans h'.out.size HG.out.2.1.size, h'.out.mde, h'.out.lj, h'.out.lq, fun x hx => (by cases hx), fun j hj => Nat.lt_of_lt_of_le (h'.out.jl j hj) HG.out.2.1.size, fun q hq => Nat.lt_of_lt_of_le (h'.out.ql q hq) HG.out.2.1.size⟩
          · have HG := hid (hgo.out A3 hk3)
            have hJ4 := hid hJ3
            clear hgo hR' hyl6 hJ3 hk3
            refine hK _ _ ?_
            clear hK K
            try simp only [Act.put, List.getElem_toArray, List.getElem_cons_zero, List.getElem_cons_succ, List.setIfInBounds_toArray, List.set_cons_zero, List.set_cons_succ]
            refine wpAnyIn_ready (rs := [4]) (by kernel_rfl) (by simp) ?_
            refine AllReadyIn.cons rfl (fun K hK => ?_) AllReadyIn.nil
            go_simp
            refine hK _ _ ?_
            clear hK K
            try simp only [Act.put, List.getElem_toArray, List.getElem_cons_zero, List.getElem_cons_succ, List.setIfInBounds_toArray, List.set_cons_zero, List.set_cons_succ]
            refine wpAnyIn_ready (rs := [5]) (by kernel_rfl) (by simp) ?_
            refine AllReadyIn.cons rfl (fun K hK => ?_) AllReadyIn.nil
            go_simp
            refine hK _ _ ?_
            clear hK K
            try simp only [Act.put, List.getElem_toArray, List.getElem_cons_zero, List.getElem_cons_succ, List.setIfInBounds_toArray, List.set_cons_zero, List.set_cons_succ]
            refine wpAnyIn_ready (rs := [6, 7]) (by kernel_rfl) (by simp) ?_
            refine AllReadyIn.cons rfl (fun K hK => ?_) (AllReadyIn.cons rfl (fun K hK => ?_) AllReadyIn.nil)
            · go_simp
              refine hK _ _ ?_
              clear hK K
              try simp only [Act.put, List.getElem_toArray, List.getElem_cons_zero, List.getElem_cons_succ, List.setIfInBounds_toArray, List.set_cons_zero, List.set_cons_succ]
              refine wpAnyIn_ready (rs := [7]) (by kernel_rfl) (by simp) ?_
              refine AllReadyIn.cons rfl (fun K hK => ?_) AllReadyIn.nil
              go_simp
              refine hK _ _ ?_
              clear hK K
              try simp only [Act.put, List.getElem_toArray, List.getElem_cons_zero, List.getElem_cons_succ, List.setIfInBounds_toArray, List.set_cons_zero, List.set_cons_succ]
              refine wpAnyIn_ready (rs := [8]) (by kernel_rfl) (by simp) ?_
              refine AllReadyIn.cons rfl (fun K hK => ?_) AllReadyIn.nil
              go_simp
              refine hK _ _ ?_
              clear hK K
              try simp only [Act.put, List.getElem_toArray, List.getElem_cons_zero, List.getElem_cons_succ, List.setIfInBounds_toArray, List.set_cons_zero, List.set_cons_succ]
              refine wpAnyIn_ready (rs := [9]) (by kernel_rfl) (by simp) ?_
              refine AllReadyIn.cons rfl (fun K hK => ?_) AllReadyIn.nil
              go_simp
              refine hK _ _ ?_
              clear hK K
              try simp only [Act.put, List.getElem_toArray, List.getElem_cons_zero, List.getElem_cons_succ, List.setIfInBounds_toArray, List.set_cons_zero, List.set_cons_succ]
              refine wpAnyIn_done (by kernel_rfl) ?_ _
              gi_wp2_with fail
              exact ⟨HG.out.2.1, HG.out.1, rfl, Sr.nx ⟨true, W2.heap.size, qsA, jsA, i, some ⟨za, zc, xl⟩⟩ ⟨za, zc, xl⟩, rfl, rfl, h'.out.qsub, h'.out.mde, h'.out.lj, .inl hJ4.out⟩
            · go_simp
              refine hK _ _ ?_
              clear hK K
              try simp only [Act.put, List.getElem_toArray, List.getElem_cons_zero, List.getElem_cons_succ, List.setIfInBounds_toArray, List.set_cons_zero, List.set_cons_succ]
              refine wpAnyIn_ready (rs := [6]) (by kernel_rfl) (by simp) ?_
              refine AllReadyIn.cons rfl (fun K hK => ?_) AllReadyIn.nil
              go_simp
              refine hK _ _ ?_
              clear hK K
              try simp only [Act.put, List.getElem_toArray, List.getElem_cons_zero, List.getElem_cons_succ, List.setIfInBounds_toArray, List.set_cons_zero, List.set_cons_succ]
              refine wpAnyIn_ready (rs := [8]) (by kernel_rfl) (by simp) ?_
              refine AllReadyIn.cons rfl (fun K hK => ?_) AllReadyIn.nil
              go_simp
              refine hK _ _ ?_
              clear hK K
              try simp only [Act.put, List.getElem_toArray, List.getElem_cons_zero, List.getElem_cons_succ, List.setIfInBounds_toArray, List.set_cons_zero, List.set_cons_succ]
              refine wpAnyIn_ready (rs := [9]) (by kernel_rfl) (by simp) ?_
              refine AllReadyIn.cons rfl (fun K hK => ?_) AllReadyIn.nil
              go_simp
              refine hK _ _ ?_
              clear hK K
              try simp only [Act.put, List.getElem_toArray, List.getElem_cons_zero, List.getElem_cons_succ, List.setIfInBounds_toArray, List.set_cons_zero, List.set_cons_succ]
              refine wpAnyIn_done (by kernel_rfl) ?_ _
              gi_wp2_with fail
              exact ⟨HG.out.2.1, HG.out.1, rfl, Sr.nx ⟨true, W2.heap.size, qsA, jsA, i, some ⟨za, zc, xl⟩⟩ ⟨za, zc, xl⟩, rfl, rfl, h'.out.qsub, h'.out.mde, h'.out.lj, .inl hJ4.out⟩
    case done =>
      rintro D s X hD ⟨hmd, hsi, hsp⟩ ⟨jsA, qsA, i, h⟩ hrec
      have hie : i = RJ.length := by
        have h1 := h.rel
        have h2 := h.m.lt
        rw [← hRJ.out, List.length_take]
        omega
      have hJD := hT _ _ _ _ h.j (StepR.same rfl rfl (TurnR.ofGrown (grownBy_putObj' X D (.deferred none)) (fun r e => by cases e; exact ⟨hD, _, hrec, rfl⟩)))
      gi_wp2_with fail
      refine ⟨by simp, .inl ⟨_, _, rfl, run_takeDeferred hrec, ?_⟩⟩
      exact ⟨_, results_none rfl _ _ _, ⟨_, rfl⟩, .inl ⟨_, ⟨rfl, hie, rfl⟩, hJD⟩⟩
    case stop =>
      rintro D c s X hD hsm ⟨rfl, h⟩ hrec
      obtain ⟨s2, h1, h2, h3, h4, h5, h6⟩ := h
      have hJD := JxD.step hT hX _ _ _ h6 ⟨h1, TurnR.ofGrown (grownBy_putObj' X D (.deferred none)) (fun r e => by cases e; exact ⟨by rw [h2]; exact hD, _, hrec, rfl⟩)⟩
      gi_wp2_with fail
      refine ⟨by simp, .inl ⟨_, _, rfl, run_takeDeferred hrec, ?_⟩⟩
      refine ⟨_, results_none rfl _ _ _, ⟨_, rfl⟩, ?_⟩
      rcases hJD with e | ⟨e1, e2, e3⟩
      · exact .inr ⟨s2, h1, e⟩
      · exact .inl ⟨s2, ⟨h1, e1, e2⟩, e3⟩
end Go.Proofs.YtfolkjjhlcjfgabDoor
end

section
namespace Go.Proofs.YtfolkjjhlcjfgabDoor
open Go.RowKit Go.Hay
attribute [local go_sem] Oper.semAt_some
set_option linter.unusedVariables false
set_option linter.unusedSimpArgs false

set_option maxHeartbeats 4000000 in
set_option maxRecDepth 100000 in
theorem cLimitE (gl : Nat) (lbl : Array Value) (many : Int) (w : World) : Calls Tryd.prog 11 #[.func (.func gl) #[] lbl, .int .i64 many] w fun e w' => e = .returned (.func (.func 24) #[] #[.pointer (some ⟨w.heap.size + 1, 0, none⟩), .pointer (some ⟨w.heap.size, 0, none⟩)]) ∧
    w' = (w.alloc (.cells #[.func (.func gl) #[] lbl] 27)).alloc (.cells #[.int .i64 many] 3) := by
  go_enter Tryd.func11, Tryd.ntmps11
  go_wp2_with fail
  go_returns
  exact ⟨rfl, rfl⟩
theorem heLim : ∀ (args : Array Value) (w : World), (callFunc 24 args).run Tryd.prog w = .ok (.enter 24 args) w := fun _ _ => rfl
/-- What Limit gives is an iterator of the first so many rows. -/
theorem limSrc {gl : Nat} {lbl : Array Value} {many : Int} {w w' : World} (hw : w' = (w.alloc (.cells #[.func (.func gl) #[] lbl] 27)).alloc (.cells #[.int .i64 many] 3)) (m : Nat) (hm : 2 ≤ m) (fr : Bool) (RL : List (List Val)) (jsl : List Nat) (heg : ∀ args w, (callFunc gl args).run Tryd.prog w = .ok (.enter gl args) w) (hL : ∀ n, m ≤ n → RowSeq fr (n - 1) gl lbl RL jsl w) (hjl : ∀ j ∈ jsl, j < w.heap.size) (hRLl : ∀ l ∈ RL, l.length ≤ 1800000000000) (hRLn : RL.length ≤ 4000000000000) (hmx : many ≤ 9223372036854775807) :
    ∃ js, (∀ j ∈ js, j < w'.heap.size) ∧ (∀ n, m ≤ n → RowSeq true n 24 #[.pointer (some ⟨w.heap.size + 1, 0, none⟩), .pointer (some ⟨w.heap.size, 0, none⟩)] (RL.take many.toNat) js w') ∧ Kp [] w w' := by
  obtain ⟨wa, ha⟩ : ∃ x, x = w.alloc (.cells #[.func (.func gl) #[] lbl] 27) := ⟨_, rfl⟩
  rw [← ha] at hw
  have za : wa.heap.size = w.heap.size + 1 := by rw [ha]; simp
  have zb : w'.heap.size = w.heap.size + 2 := by rw [hw]; simp [za]
  have ka : Kp [] w wa := by rw [ha]; exact (Kp.refl _ _).alloc _
  have kb : Kp [] wa w' := by rw [hw]; exact (Kp.refl _ _).alloc _
  have ba : Bn wa w.heap.size [.func (.func gl) #[] lbl] := by rw [ha]; exact Bn.new w _ _
  have bb : Bn w' (w.heap.size + 1) [.int .i64 many] := by rw [hw, ← za]; exact Bn.new wa _ _
  have k := ka.trans kb (by simp)
  have hjs : ∀ j ∈ jsl ++ [w.heap.size + 1, w.heap.size], j < w'.heap.size := fun j hj => by
    rcases List.mem_append.1 hj with e | e
    · have := hjl j e; omega
    · simp at e; omega
  exact ⟨_, hjs, fun n hn => limSeq n (by omega) _ _ fr gl lbl RL jsl _ many w' heg (bb.get 0 _ rfl) ((ba.kept kb).get 0 _ rfl) (fun q hq => List.mem_append.2 (.inr hq)) (fun j hj => List.mem_append.2 (.inl hj)) hjs ((hL n hn).move (KeepB.ofKp k (by simp))) hRLl hRLn hmx, k⟩
end Go.Proofs.YtfolkjjhlcjfgabDoor
end

section
namespace Go.Proofs.YtfolkjjhlcjfgabDoor
open Go.RowKit Go.Hay
attribute [local go_sem] Oper.semAt_some
set_option linter.unusedVariables false
set_option linter.unusedSimpArgs false

/-- Which rows one row gives. -/
def projF (ps : List Int) (x : List Val) : List (List Val) := [pickV x ps]
set_option maxHeartbeats 64000000 in
set_option maxRecDepth 100000 in
theorem projSeq (n : Nat) (hn : 2 ≤ n) (q1 q2 : Nat) (fr : Bool) (gl : Nat) (lbl : Array Value) (RL : List (List Val)) (jsl js : List Nat) (pa : Option Addr) (pc : Nat) (ps : List Int) (w : World)
    (heL : ∀ args w, (callFunc gl args).run Tryd.prog w = .ok (.enter gl args) w)
    (c1 : w.cell? ⟨q1, 0, none⟩ = some (.func (.func gl) #[] lbl)) (c2 : w.cell? ⟨q2, 0, none⟩ = some (Value.slice pa ps.length pc)) (hXw : (fun W => IntE.See W pa ps) w)
    (hq : ∀ q ∈ [q1, q2], q ∈ js) (hjl : ∀ j ∈ jsl, j ∈ js) (hXj : ∀ j ∈ blk pa, j ∈ js) (hjb : ∀ j ∈ js, j < w.heap.size)
    (hL : RowSeq fr (n - 1) gl lbl RL jsl w) (hRLl : ∀ l ∈ RL, l.length ≤ 1800000000000) (hpl : ps.length ≤ 3000000000000) :
    RowSeq true n 22 #[.pointer (some ⟨q1, 0, none⟩), .pointer (some ⟨q2, 0, none⟩)] (RL.flatMap (projF ps)) js w := by
  intro ly J Jx W hW hT hX hY h0
  obtain ⟨f, hf⟩ : ∃ f, Hid (projF ps = f) := ⟨_, rfl⟩
  obtain ⟨RJ, hRJ⟩ : ∃ R, Hid (RL.flatMap f = R) := ⟨_, rfl⟩
  rw [hf.out, hRJ.out] at hT ⊢
  obtain ⟨X, hXd⟩ : ∃ X, Hid ((fun W => IntE.See W pa ps) = X) := ⟨_, rfl⟩
  obtain ⟨Xj, hXjd⟩ : ∃ X, Hid (blk pa = X) := ⟨_, rfl⟩
  have hXck : ∀ A B, X A → CK (fun k => k ∈ Xj) A B → X B := by rw [← hXd.out, ← hXjd.out]; exact (fun A B h k => ckSee k h (fun j hj => hj))
  have hXw : X w := by rw [← hXd.out]; exact hXw
  rw [hXjd.out] at hXj
  have kjs := hW.js
  have d1 := kjs.cell (hq q1 (by simp)) c1
  have d2 := kjs.cell (hq q2 (by simp)) c2
  have dX := hXck _ _ hXw ((ckOfKeepB kjs).mono fun k hk => hXj k hk)
  have hlW := hL.move (W := W) ⟨kjs.1, fun j hj o ho => kjs.2 j (hjl j hj) o ho⟩
  have hjW : ∀ j ∈ js, j < W.heap.size := fun j hj => Nat.lt_of_lt_of_le (hjb j hj) kjs.1
  obtain ⟨W1, hW1, k1, b1⟩ : ∃ W1, W.alloc (.cells #[.func (.yield ly) #[] #[]] 43) = W1 ∧ Kp [] W W1 ∧ Bn W1 W.heap.size [.func (.yield ly) #[] #[]] := ⟨_, rfl, (Kp.refl _ _).alloc _, Bn.new W _ _⟩
  obtain ⟨q3, hq3⟩ : ∃ q, Hid (W.heap.size = q) := ⟨_, rfl⟩
  rw [hq3.out] at b1
  have e1 := kpAt k1 d1
  obtain ⟨Mj, hMj⟩ : ∃ M, Hid (M = q2 :: q3 :: Xj) := ⟨_, rfl⟩
  obtain ⟨V2, hV2⟩ : ∃ v, Hid (Value.slice pa ps.length pc = v) := ⟨_, rfl⟩
  rw [hV2.out] at d2
  have hM1 : MI V2 q2 q3 ly X W1 := ⟨kpAt k1 d2, b1.get 0 _ rfl, hXck _ _ dX ((CK.ofKp k1).mono (by simp))⟩
  have hMst : ∀ A B, MI V2 q2 q3 ly X A → CK (fun k => k ∈ Mj) A B → MI V2 q2 q3 ly X B := fun A B h k => h.ck hXck (by rw [← hMj.out]; exact k)
  have hMn : ∀ j ∈ Mj, j ∈ js ∨ (W.heap.size ≤ j ∧ j < W1.heap.size) := fun j hj => by
    rw [hMj.out] at hj
    rcases List.mem_cons.1 hj with rfl | hj
    · exact .inl (hq _ (by simp))
    · rcases List.mem_cons.1 hj with rfl | hj
      · exact .inr ⟨by rw [← hq3.out]; exact Nat.le_refl _, b1.lt (by simp)⟩
      · exact .inl (hXj j hj)
  have hMb : ∀ j ∈ Mj, j < W1.heap.size := fun j hj => by
    rcases hMn j hj with e | e
    · exact Nat.lt_of_lt_of_le (hjW j e) k1.size
    · exact e.2
  have hJ1 : J ⟨true, W1.heap.size, [], js ++ Mj, 0, none⟩ W1 := hT _ _ _ _ h0 ⟨TurnR.ofKp0 k1, fun h => (by cases h), fun _ => ⟨rfl, k1.size, by simp⟩, fun j hj => by
    rcases List.mem_append.1 hj with e | e
    · exact .inl e
    · exact hMn j e, rfl, .inl rfl⟩
  have hI0 : InG J RL RJ f (MI V2 q2 q3 ly X) Mj W1 ⟨false, 0, [], jsl, 0, none⟩ W1 := ⟨js ++ Mj, [], 0, hJ1, fun j hj => List.mem_append.2 (.inl (hjl j hj)), fun j hj => List.mem_append.2 (.inr hj), by simp, hM1, by rw [← hRJ.out]; rfl, Nat.zero_le _, Nat.le_refl _, fun h => (by cases h), fun j hj => by have := hjW j (hjl j hj); have := k1.size; omega, fun x hx => (by cases hx), fun j hj => by
    rcases List.mem_append.1 hj with e | e
    · have := hjW j e; have := k1.size; omega
    · exact hMb j e, by simp⟩
  have hsq := hid (hlW.move (KeepB.ofKp k1 (by simp)))
  have HI0 := hid hI0
  have HMS := hid hMst
  have HMB := hid hMb
  have hq3' := hq3.out
  clear c1 c2 hL hW kjs hjb hlW k1 b1 d1 d2 hM1 hMn hJ1 hI0 hMst hMb h0 dX
  refine callsIn_of_wp_marks Tryd.func22 rfl trivial ?_ rfl
  simp only [Tryd.ntmps22, List.size_toArray, List.length_cons, List.length_nil, Nat.reduceAdd, Nat.reduceSub, Array.replicate_succ, Array.replicate_zero, List.push_toArray, List.append_toArray, List.nil_append, List.cons_append]
  refine wpIn_wide.2 ?_
  go_wp2_with fail
  refine (wpIn_wide (n := n)).1 ?_
  refine wpRangeX rfl (by omega) (gf := gl) (lb := lbl) rfl trivial heL
    hsq.out (fun _ => rfl) KeepR.trans (fun s W o => KeepR.alloc s W o) (KeepR.refl _ _)
    (InG J RL RJ f (MI V2 q2 q3 ly X) Mj W1) (fun c s W' => c = .ret ∧ InX Jx W1 s W') (InG.own hT HMS.out) (fun c s X Y row h hg hr => ⟨h.1, InX.own hX s X Y row h.2 hg hr⟩) HI0.out
    (fun s s' A B h ht k o hk ho => h.keeps ht k o hk ho) (fun c s A B h ht k o hk ho => h.2.keeps ht k o hk ho) (fun s s' A B hz h ht => h.step hT HMS.out HMB.out hz ht) (fun c s A B h ht => ⟨h.1, h.2.step hX ht⟩)
    (fun s W o' h => h.recs o') (fun s x W o' h => h.recs' o') (fun c s x W o' h => h.2.recs' o')
    (fun x => { tmps := #[.func (.yield ly) #[] #[], .pointer (some ⟨q1, 0, none⟩), .pointer (some ⟨q2, 0, none⟩), .pointer (some ⟨q3, 0, none⟩), .slice x.a x.l.length x.c, .func (.func gl) #[] lbl, .slice x.a x.l.length x.c, undef, undef, undef, undef, undef, undef], defers := [] }) ?assign ?body ?done ?stop
  case assign =>
    intro l x W C hC
    gi_wp2_with fail
    exact hC
  case body =>
    rintro l0 s ⟨xa, xc, xl⟩ A ⟨jsA, qsA, i, h⟩ hp
    obtain ⟨hRi, hxl⟩ := h.pend _ hp
    dsimp only at hRi ⊢
    have hxn : xl.length ≤ 1800000000000 := hRLl _ (List.mem_of_getElem? hRi)
    have hrel := hid (relStep h.rel hRi)
    have h' := hid h
    have hxl' := hid hxl
    have hmK : Hid (∀ A', Kp [] A A' → MI V2 q2 q3 ly X A') := fun A' k => HMS.out _ _ h'.out.m ((CK.ofKp k).mono (by simp))
    clear h hRi hxl HI0
    rw [← hV2.out] at hmK
    have hR1 : Hid (RJ[i]? = some (pickV xl ps) ∧ RJ.drop (i + 1) = (RL.drop (s.i + 1)).flatMap f ∧ i + 1 ≤ RJ.length) := relOne (by rw [hrel.out, ← hf.out]; rfl)
    obtain ⟨zl, hzl0⟩ : ∃ z, Hid (pickV xl ps = z) := ⟨_, rfl⟩
    rw [hzl0.out] at hR1
    gi_wp2_with fail
    refine wpIn_region_any (by kernel_rfl) ?_
    change wpAnyIn _ _ _ _ _ _ _ _ _ A.drew
    have kD : Kp [] A A.drew := (Kp.refl _ _).drew
    generalize A.drew = wd at *
    have KB := hid kD
    have c2b := (hmK.out wd kD).c2
    have c3b := (hmK.out wd kD).c3
    have cCt : Hid (Calls Tryd.prog 23 #[.slice xa xl.length xc, .slice pa ps.length pc] wd (NewR zl wd)) := by
      rw [← hzl0.out]
      have hx := (hmK.out wd kD).x
      rw [← hXd.out] at hx
      exact cPick xa xc xl pa pc ps wd (hxl'.out.see.kept kD) (by omega) hx hpl
    clear kD
    refine wpAnyIn_ready (rs := [0, 1, 2]) (by kernel_rfl) (by simp) ?_
    refine AllReadyIn.cons rfl (fun K hK => ?_) (AllReadyIn.cons rfl (fun K hK => ?_) (AllReadyIn.cons rfl (fun K hK => ?_) AllReadyIn.nil))
    · go_simp
      refine hK _ _ ?_
      clear hK K
      try simp only [Act.put, List.getElem_toArray, List.getElem_cons_zero, List.getElem_cons_succ, List.setIfInBounds_toArray, List.set_cons_zero, List.set_cons_succ]
      refine wpAnyIn_ready (rs := [1, 2]) (by kernel_rfl) (by simp) ?_
      refine AllReadyIn.cons rfl (fun K hK => ?_) (AllReadyIn.cons rfl (fun K hK => ?_) AllReadyIn.nil)
      · go_simp
        refine hK _ _ ?_
        clear hK K
        try simp only [Act.put, List.getElem_toArray, List.getElem_cons_zero, List.getElem_cons_succ, List.setIfInBounds_toArray, List.set_cons_zero, List.set_cons_succ]
        refine wpAnyIn_ready (rs := [2]) (by kernel_rfl) (by simp) ?_
        refine AllReadyIn.cons rfl (fun K hK => ?_) AllReadyIn.nil
        go_simp
        refine hK _ _ ?_
        clear hK K
        try simp only [Act.put, List.getElem_toArray, List.getElem_cons_zero, List.getElem_cons_succ, List.setIfInBounds_toArray, List.set_cons_zero, List.set_cons_succ]
        refine wpAnyIn_ready (rs := [3]) (by kernel_rfl) (by simp) ?_
        refine AllReadyIn.cons rfl (fun K hK => ?_) AllReadyIn.nil
        go_simp
        refine ⟨trivial, fun h => (by cases h), (CallsIn.inRound l0 (callsIn_wide.2 cCt.out)).mono ?_⟩
        rintro e Wz ⟨za, zc, rfl, hzrow, kz, hzb⟩
        have c3z := kpAt kz c3b
        refine hK _ _ ?_
        clear hK K
        try simp only [Act.put, List.getElem_toArray, List.getElem_cons_zero, List.getElem_cons_succ, List.setIfInBounds_toArray, List.set_cons_zero, List.set_cons_succ]
        have kWz := hid (KB.out.trans kz (by simp))
        have hzl := rowLies hzrow
        have hzb2 : ∀ j ∈ blk za, A.heap.size ≤ j := fun j hj => by have := hzb j hj; have := KB.out.size; omega
        have hJz : J ⟨true, W1.heap.size, qsA, jsA, i, some ⟨za, zc, zl⟩⟩ Wz := hT _ _ _ _ h'.out.j ⟨TurnR.ofKp0 kWz.out, fun _ => ⟨rfl, rfl, fun q hq => .inl hq⟩, fun e => (by cases e), fun j hj => .inl hj, rfl, .inr ⟨_, rfl, hR1.out.1, hzl, fun _ => ⟨hzrow, fun j hj => ⟨hzb2 j hj, fun hm => by have := h'.out.jl j hm; have := hzb2 j hj; omega, fun hm => by have := h'.out.ql j hm; have := hzb2 j hj; omega⟩⟩⟩⟩
        obtain ⟨fn, tmps, assign, body, hyl5, hR⟩ := hY _ ⟨za, zc, zl⟩ Wz hJz rfl
        have hR' : RoundIn (Fence.wide.inRound l0) (n - 1 - 1 - 1) Tryd.prog ly fn tmps assign body Wz _ := RoundIn.anyDepthJ (F := Fence.wide.inRound l0) rfl hR
        have hgo : Hid (∀ A3, KeepR ⟨true, W1.heap.size, qsA, jsA, i, some ⟨za, zc, zl⟩⟩ Wz A3 → KeepR s A A3 ∧ KeepsFrom W1.heap.size A A3 ∧ KeepB Mj A A3) := fun A3 hk3 => h'.out.keepR (s := ⟨true, W1.heap.size, qsA, jsA, i, some ⟨za, zc, zl⟩⟩) rfl rfl (fun j hj => hj) (KeepR.trans ⟨KeepB.ofKp kWz.out (by simp), fun _ j o _ ho _ => (kWz.out.block j (Array.getElem?_eq_some_iff.1 ho).1 (by simp)).trans ho⟩ hk3)
        have hyl6 := hyl5
        simp only [encR] at hyl6
        clear hR hJz hzl hzrow kz hzb hzb2 hyl5 cCt
        refine wpAnyIn_ready (rs := [4]) (by kernel_rfl) (by simp) ?_
        refine AllReadyIn.cons rfl (fun K hK => ?_) AllReadyIn.nil
        go_simp
        refine ⟨fun h => (by cases h), hR'.mono ?_⟩
        rintro e A3 (⟨rfl, hJ3, hk3⟩ | ⟨rfl, hJ3, hk3⟩)
        · have HG := hid (hgo.out A3 hk3)
          have hJ4 : Hid (J ⟨true, W1.heap.size, qsA, jsA, i + 1, none⟩ A3) := hJ3
          clear hgo hR' hyl6 hJ3 hk3
          refine hK _ _ ?_
          clear hK K
          try simp only [Act.put, List.getElem_toArray, List.getElem_cons_zero, List.getElem_cons_succ, List.setIfInBounds_toArray, List.set_cons_zero, List.set_cons_succ]
          refine wpAnyIn_ready (rs := [5]) (by kernel_rfl) (by simp) ?_
          refine AllReadyIn.cons rfl (fun K hK => ?_) AllReadyIn.nil
          go_simp
          refine hK _ _ ?_
          clear hK K
          try simp only [Act.put, List.getElem_toArray, List.getElem_cons_zero, List.getElem_cons_succ, List.setIfInBounds_toArray, List.set_cons_zero, List.set_cons_succ]
          refine wpAnyIn_done (by kernel_rfl) ?_ _
          gi_wp2_with fail
          refine ⟨HG.out.2.1, HG.out.1, jsA, qsA, i + 1, hJ4.out, h'.out.sub, h'.out.mj, h'.out.qsub, HMS.out _ _ h'.out.m (ckOfKeepB HG.out.2.2), hR1.out.2.1, hR1.out.2.2, Nat.le_trans h'.out.size HG.out.2.1.size, h'.out.mde, h'.out.lj, fun x hx => (by cases hx), fun j hj => Nat.lt_of_lt_of_le (h'.out.jl j hj) HG.out.2.1.size, fun q hq => Nat.lt_of_lt_of_le (h'.out.ql q hq) HG.out.2.1.size⟩
        · have HG := hid (hgo.out A3 hk3)
          have hJ4 := hid hJ3
          clear hgo hR' hyl6 hJ3 hk3
          refine hK _ _ ?_
          clear hK K
          try simp only [Act.put, List.getElem_toArray, List.getElem_cons_zero, List.getElem_cons_succ, List.setIfInBounds_toArray, List.set_cons_zero, List.set_cons_succ]
          refine wpAnyIn_ready (rs := [5]) (by kernel_rfl) (by simp) ?_
          refine AllReadyIn.cons rfl (fun K hK => ?_) AllReadyIn.nil
          go_simp
          refine hK _ _ ?_
          clear hK K
          try simp only [Act.put, List.getElem_toArray, List.getElem_cons_zero, List.getElem_cons_succ, List.setIfInBounds_toArray, List.set_cons_zero, List.set_cons_succ]
          refine wpAnyIn_done (by kernel_rfl) ?_ _
          gi_wp2_with fail
          refine ⟨HG.out.2.1, HG.out.1, rfl, Sr.nx ⟨true, W1.heap.size, qsA, jsA, i, some ⟨za, zc, zl⟩⟩ ⟨za, zc, zl⟩, rfl, rfl, h'.out.qsub, h'.out.mde, h'.out.lj, hJ4.out⟩
      · go_simp
        refine hK _ _ ?_
        clear hK K
        try simp only [Act.put, List.getElem_toArray, List.getElem_cons_zero, List.getElem_cons_succ, List.setIfInBounds_toArray, List.set_cons_zero, List.set_cons_succ]
        refine wpAnyIn_ready (rs := [1]) (by kernel_rfl) (by simp) ?_
        refine AllReadyIn.cons rfl (fun K hK => ?_) AllReadyIn.nil
        go_simp
        refine hK _ _ ?_
        clear hK K
        try simp only [Act.put, List.getElem_toArray, List.getElem_cons_zero, List.getElem_cons_succ, List.setIfInBounds_toArray, List.set_cons_zero, List.set_cons_succ]
        refine wpAnyIn_ready (rs := [3]) (by kernel_rfl) (by simp) ?_
        refine AllReadyIn.cons rfl (fun K hK => ?_) AllReadyIn.nil
        go_simp
        refine ⟨trivial, fun h => (by cases h), (CallsIn.inRound l0 (callsIn_wide.2 cCt.out)).mono ?_⟩
        rintro e Wz ⟨za, zc, rfl, hzrow, kz, hzb⟩
        have c3z := kpAt kz c3b
        refine hK _ _ ?_
        clear hK K
        try simp only [Act.put, List.getElem_toArray, List.getElem_cons_zero, List.getElem_cons_succ, List.setIfInBounds_toArray, List.set_cons_zero, List.set_cons_succ]
        have kWz := hid (KB.out.trans kz (by simp))
        have hzl := rowLies hzrow
        have hzb2 : ∀ j ∈ blk za, A.heap.size ≤ j := fun j hj => by have := hzb j hj; have := KB.out.size; omega
        have hJz : J ⟨true, W1.heap.size, qsA, jsA, i, some ⟨za, zc, zl⟩⟩ Wz := hT _ _ _ _ h'.out.j ⟨TurnR.ofKp0 kWz.out, fun _ => ⟨rfl, rfl, fun q hq => .inl hq⟩, fun e => (by cases e), fun j hj => .inl hj, rfl, .inr ⟨_, rfl, hR1.out.1, hzl, fun _ => ⟨hzrow, fun j hj => ⟨hzb2 j hj, fun hm => by have := h'.out.jl j hm; have := hzb2 j hj; omega, fun hm => by have := h'.out.ql j hm; have := hzb2 j hj; omega⟩⟩⟩⟩
        obtain ⟨fn, tmps, assign, body, hyl5, hR⟩ := hY _ ⟨za, zc, zl⟩ Wz hJz rfl
        have hR' : RoundIn (Fence.wide.inRound l0) (n - 1 - 1 - 1) Tryd.prog ly fn tmps assign body Wz _ := RoundIn.anyDepthJ (F := Fence.wide.inRound l0) rfl hR
        have hgo : Hid (∀ A3, KeepR ⟨true, W1.heap.size, qsA, jsA, i, some ⟨za, zc, zl⟩⟩ Wz A3 → KeepR s A A3 ∧ KeepsFrom W1.heap.size A A3 ∧ KeepB Mj A A3) := fun A3 hk3 => h'.out.keepR (s := ⟨true, W1.heap.size, qsA, jsA, i, some ⟨za, zc, zl⟩⟩) rfl rfl (fun j hj => hj) (KeepR.trans ⟨KeepB.ofKp kWz.out (by simp), fun _ j o _ ho _ => (kWz.out.block j (Array.getElem?_eq_some_iff.1 ho).1 (by simp)).trans ho⟩ hk3)
        have hyl6 := hyl5
        simp only [encR] at hyl6
        clear hR hJz hzl hzrow kz hzb hzb2 hyl5 cCt
        refine wpAnyIn_ready (rs := [4]) (by kernel_rfl) (by simp) ?_
        refine AllReadyIn.cons rfl (fun K hK => ?_) AllReadyIn.nil
        go_simp
        refine ⟨fun h => (by cases h), hR'.mono ?_⟩
        rintro e A3 (⟨rfl, hJ3, hk3⟩ | ⟨rfl, hJ3, hk3⟩)
        · have HG := hid (hgo.out A3 hk3)
          have hJ4 : Hid (J ⟨true, W1.heap.size, qsA, jsA, i + 1, none⟩ A3) := hJ3
          clear hgo hR' hyl6 hJ3 hk3
          refine hK _ _ ?_
          clear hK K
          try simp only [Act.put, List.getElem_toArray, List.getElem_cons_zero, List.getElem_cons_succ, List.setIfInBounds_toArray, List.set_cons_zero, List.set_cons_succ]
          refine wpAnyIn_ready (rs := [5]) (by kernel_rfl) (by simp) ?_
          refine AllReadyIn.cons rfl (fun K hK => ?_) AllReadyIn.nil
          go_simp
          refine hK _ _ ?_
          clear hK K
          try simp only [Act.put, List.getElem_toArray, List.getElem_cons_zero, List.getElem_cons_succ, List.setIfInBounds_toArray, List.set_cons_zero, List.set_cons_succ]
          refine wpAnyIn_done (by kernel_rfl) ?_ _
          gi_wp2_with fail
          refine ⟨HG.out.2.1, HG.out.1, jsA, qsA, i + 1, hJ4.out, h'.out.sub, h'.out.mj, h'.out.qsub, HMS.out _ _ h'.out.m (ckOfKeepB HG.out.2.2), hR1.out.2.1, hR1.out.2.2, Nat.le_trans h'.out.size HG.out.2.1.size, h'.out.mde, h'.out.lj, fun x hx => (by cases hx), fun j hj => Nat.lt_of_lt_of_le (h'.out.jl j hj) HG.out.2.1.size, fun q hq => Nat.lt_of_lt_of_le (h'.out.ql q hq) HG.out.2.1.size⟩
        · have HG := hid (hgo.out A3 hk3)
          have hJ4 := hid hJ3
          clear hgo hR' hyl6 hJ3 hk3
          refine hK _ _ ?_
          clear hK K
          try simp only [Act.put, List.getElem_toArray, List.getElem_cons_zero, List.getElem_cons_succ, List.setIfInBounds_toArray, List.set_cons_zero, List.set_cons_succ]
          refine wpAnyIn_ready (rs := [5]) (by kernel_rfl) (by simp) ?_
          refine AllReadyIn.cons rfl (fun K hK => ?_) AllReadyIn.nil
          go_simp
          refine hK _ _ ?_
          clear hK K
          try simp only [Act.put, List.getElem_toArray, List.getElem_cons_zero, List.getElem_cons_succ, List.setIfInBounds_toArray, List.set_cons_zero, List.set_cons_succ]
          refine wpAnyIn_done (by kernel_rfl) ?_ _
          gi_wp2_with fail
          refine ⟨HG.out.2.1, HG.out.1, rfl, Sr.nx ⟨true, W1.heap.size, qsA, jsA, i, some ⟨za, zc, zl⟩⟩ ⟨za, zc, zl⟩, rfl, rfl, h'.out.qsub, h'.out.mde, h'.out.lj, hJ4.out⟩
    · go_simp
      refine hK _ _ ?_
      clear hK K
      try simp only [Act.put, List.getElem_toArray, List.getElem_cons_zero, List.getElem_cons_succ, List.setIfInBounds_toArray, List.set_cons_zero, List.set_cons_succ]
      refine wpAnyIn_ready (rs := [0, 2]) (by kernel_rfl) (by simp) ?_
      refine AllReadyIn.cons rfl (fun K hK => ?_) (AllReadyIn.cons rfl (fun K hK => ?_) AllReadyIn.nil)
      · go_simp
        refine hK _ _ ?_
        clear hK K
        try simp only [Act.put, List.getElem_toArray, List.getElem_cons_zero, List.getElem_cons_succ, List.setIfInBounds_toArray, List.set_cons_zero, List.set_cons_succ]
        refine wpAnyIn_ready (rs := [2]) (by kernel_rfl) (by simp) ?_
        refine AllReadyIn.cons rfl (fun K hK => ?_) AllReadyIn.nil
        go_simp
        refine hK _ _ ?_
        clear hK K
        try simp only [Act.put, List.getElem_toArray, List.getElem_cons_zero, List.getElem_cons_succ, List.setIfInBounds_toArray, List.set_cons_zero, List.set_cons_succ]
        refine wpAnyIn_ready (rs := [3]) (by kernel_rfl) (by simp) ?_
        refine AllReadyIn.cons rfl (fun K hK => ?_) AllReadyIn.nil
        go_simp
        refine ⟨trivial, fun h => (by cases h), (CallsIn.inRound l0 (callsIn_wide.2 cCt.out)).mono ?_⟩
        rintro e Wz ⟨za, zc, rfl, hzrow, kz, hzb⟩
        have c3z := kpAt kz c3b
        refine hK _ _ ?_
        clear hK K
        try simp only [Act.put, List.getElem_toArray, List.getElem_cons_zero, List.getElem_cons_succ, List.setIfInBounds_toArray, List.set_cons_zero, List.set_cons_succ]
        have kWz := hid (KB.out.trans kz (by simp))
        have hzl := rowLies hzrow
        have hzb2 : ∀ j ∈ blk za, A.heap.size ≤ j := fun j hj => by have := hzb j hj; have := KB.out.size; omega
        have hJz : J ⟨true, W1.heap.size, qsA, jsA, i, some ⟨za, zc, zl⟩⟩ Wz := hT _ _ _ _ h'.out.j ⟨TurnR.ofKp0 kWz.out, fun _ => ⟨rfl, rfl, fun q hq => .inl hq⟩, fun e => (by cases e), fun j hj => .inl hj, rfl, .inr ⟨_, rfl, hR1.out.1, hzl, fun _ => ⟨hzrow, fun j hj => ⟨hzb2 j hj, fun hm => by have := h'.out.jl j hm; have := hzb2 j hj; omega, fun hm => by have := h'.out.ql j hm; have := hzb2 j hj; omega⟩⟩⟩⟩
        obtain ⟨fn, tmps, assign, body, hyl5, hR⟩ := hY _ ⟨za, zc, zl⟩ Wz hJz rfl
        have hR' : RoundIn (Fence.wide.inRound l0) (n - 1 - 1 - 1) Tryd.prog ly fn tmps assign body Wz _ := RoundIn.anyDepthJ (F := Fence.wide.inRound l0) rfl hR
        have hgo : Hid (∀ A3, KeepR ⟨true, W1.heap.size, qsA, jsA, i, some ⟨za, zc, zl⟩⟩ Wz A3 → KeepR s A A3 ∧ KeepsFrom W1.heap.size A A3 ∧ KeepB Mj A A3) := fun A3 hk3 => h'.out.keepR (s := ⟨true, W1.heap.size, qsA, jsA, i, some ⟨za, zc, zl⟩⟩) rfl rfl (fun j hj => hj) (KeepR.trans ⟨KeepB.ofKp kWz.out (by simp), fun _ j o _ ho _ => (kWz.out.block j (Array.getElem?_eq_some_iff.1 ho).1 (by simp)).trans ho⟩ hk3)
        have hyl6 := hyl5
        simp only [encR] at hyl6
        clear hR hJz hzl hzrow kz hzb hzb2 hyl5 cCt
        refine wpAnyIn_ready (rs := [4]) (by kernel_rfl) (by simp) ?_
        refine AllReadyIn.cons rfl (fun K hK => ?_) AllReadyIn.nil
        go_simp
        refine ⟨fun h => (by cases h), hR'.mono ?_⟩
        rintro e A3 (⟨rfl, hJ3, hk3⟩ | ⟨rfl, hJ3, hk3⟩)
        · have HG := hid (hgo.out A3 hk3)
          have hJ4 : Hid (J ⟨true, W1.heap.size, qsA, jsA, i + 1, none⟩ A3) := hJ3
          clear hgo hR' hyl6 hJ3 hk3
          refine hK _ _ ?_
          clear hK K
          try simp only [Act.put, List.getElem_toArray, List.getElem_cons_zero, List.getElem_cons_succ, List.setIfInBounds_toArray, List.set_cons_zero, List.set_cons_succ]
          refine wpAnyIn_ready (rs := [5]) (by kernel_rfl) (by simp) ?_
          refine AllReadyIn.cons rfl (fun K hK => ?_) AllReadyIn.nil
          go_simp
          refine hK _ _ ?_
          clear hK K
          try simp only [Act.put, List.getElem_toArray, List.getElem_cons_zero, List.getElem_cons_succ, List.setIfInBounds_toArray, List.set_cons_zero, List.set_cons_succ]
          refine wpAnyIn_done (by kernel_rfl) ?_ _
          gi_wp2_with fail
          refine ⟨HG.out.2.1, HG.out.1, jsA, qsA, i + 1, hJ4.out, h'.out.sub, h'.out.mj, h'.out.qsub, HMS.out _ _ h'.out.m (ckOfKeepB HG.out.2.2), hR1.out.2.1, hR1.out.2.2, Nat.le_trans h'.out.size HG.out.2.1.size, h'.out.mde, h'.out.lj, fun x hx => (by cases hx), fun j hj => Nat.lt_of_lt_of_le (h'.out.jl j hj) HG.out.2.1.size, fun q hq => Nat.lt_of_lt_of_le (h'.out.ql q hq) HG.out.2.1.size⟩
        · have HG := hid (hgo.out A3 hk3)
          have hJ4 := hid hJ3
          clear hgo hR' hyl6 hJ3 hk3
          refine hK _ _ ?_
          clear hK K
          try simp only [Act.put, List.getElem_toArray, List.getElem_cons_zero, List.getElem_cons_succ, List.setIfInBounds_toArray, List.set_cons_zero, List.set_cons_succ]
          refine wpAnyIn_ready (rs := [5]) (by kernel_rfl) (by simp) ?_
          refine AllReadyIn.cons rfl (fun K hK => ?_) AllReadyIn.nil
          go_simp
          refine hK _ _ ?_
          clear hK K
          try simp only [Act.put, List.getElem_toArray, List.getElem_cons_zero, List.getElem_cons_succ, List.setIfInBounds_toArray, List.set_cons_zero, List.set_cons_succ]
          refine wpAnyIn_done (by kernel_rfl) ?_ _
          gi_wp2_with fail
          refine ⟨HG.out.2.1, HG.out.1, rfl, Sr.nx ⟨true, W1.heap.size, qsA, jsA, i, some ⟨za, zc, zl⟩⟩ ⟨za, zc, zl⟩, rfl, rfl, h'.out.qsub, h'.out.mde, h'.out.lj, hJ4.out⟩
      · go_simp
        refine hK _ _ ?_
        clear hK K
        try simp only [Act.put, List.getElem_toArray, List.getElem_cons_zero, List.getElem_cons_succ, List.setIfInBounds_toArray, List.set_cons_zero, List.set_cons_succ]
        refine wpAnyIn_ready (rs := [0, 3]) (by kernel_rfl) (by simp) ?_
        refine AllReadyIn.cons rfl (fun K hK => ?_) (AllReadyIn.cons rfl (fun K hK => ?_) AllReadyIn.nil)
        · go_simp
          refine hK _ _ ?_
          clear hK K
          try simp only [Act.put, List.getElem_toArray, List.getElem_cons_zero, List.getElem_cons_succ, List.setIfInBounds_toArray, List.set_cons_zero, List.set_cons_succ]
          refine wpAnyIn_ready (rs := [3]) (by kernel_rfl) (by simp) ?_
          refine AllReadyIn.cons rfl (fun K hK => ?_) AllReadyIn.nil
          go_simp
          refine ⟨trivial, fun h => (by cases h), (CallsIn.inRound l0 (callsIn_wide.2 cCt.out)).mono ?_⟩
          rintro e Wz ⟨za, zc, rfl, hzrow, kz, hzb⟩
          have c3z := kpAt kz c3b
          refine hK _ _ ?_
          clear hK K
          try simp only [Act.put, List.getElem_toArray, List.getElem_cons_zero, List.getElem_cons_succ, List.setIfInBounds_toArray, List.set_cons_zero, List.set_cons_succ]
          have kWz := hid (KB.out.trans kz (by simp))
          have hzl := rowLies hzrow
          have hzb2 : ∀ j ∈ blk za, A.heap.size ≤ j := fun j hj => by have := hzb j hj; have := KB.out.size; omega
          have hJz : J ⟨true, W1.heap.size, qsA, jsA, i, some ⟨za, zc, zl⟩⟩ Wz := hT _ _ _ _ h'.out.j ⟨TurnR.ofKp0 kWz.out, fun _ => ⟨rfl, rfl, fun q hq => .inl hq⟩, fun e => (by cases e), fun j hj => .inl hj, rfl, .inr ⟨_, rfl, hR1.out.1, hzl, fun _ => ⟨hzrow, fun j hj => ⟨hzb2 j hj, fun hm => by have := h'.out.jl j hm; have := hzb2 j hj; omega, fun hm => by have := h'.out.ql j hm; have := hzb2 j hj; omega⟩⟩⟩⟩
          obtain ⟨fn, tmps, assign, body, hyl5, hR⟩ := hY _ ⟨za, zc, zl⟩ Wz hJz rfl
          have hR' : RoundIn (Fence.wide.inRound l0) (n - 1 - 1 - 1) Tryd.prog ly fn tmps assign body Wz _ := RoundIn.anyDepthJ (F := Fence.wide.inRound l0) rfl hR
          have hgo : Hid (∀ A3, KeepR ⟨true, W1.heap.size, qsA, jsA, i, some ⟨za, zc, zl⟩⟩ Wz A3 → KeepR s A A3 ∧ KeepsFrom W1.heap.size A A3 ∧ KeepB Mj A A3) := fun A3 hk3 => h'.out.keepR (s := ⟨true, W1.heap.size, qsA, jsA, i, some ⟨za, zc, zl⟩⟩) rfl rfl (fun j hj => hj) (KeepR.trans ⟨KeepB.ofKp kWz.out (by simp), fun _ j o _ ho _ => (kWz.out.block j (Array.getElem?_eq_some_iff.1 ho).1 (by simp)).trans ho⟩ hk3)
          have hyl6 := hyl5
          simp only [encR] at hyl6
          clear hR hJz hzl hzrow kz hzb hzb2 hyl5 cCt
          refine wpAnyIn_ready (rs := [4]) (by kernel_rfl) (by simp) ?_
          refine AllReadyIn.cons rfl (fun K hK => ?_) AllReadyIn.nil
          go_simp
          refine ⟨fun h => (by cases h), hR'.mono ?_⟩
          rintro e A3 (⟨rfl, hJ3, hk3⟩ | ⟨rfl, hJ3, hk3⟩)
          · have HG := hid (hgo.out A3 hk3)
            have hJ4 : Hid (J ⟨true, W1.heap.size, qsA, jsA, i + 1, none⟩ A3) := hJ3
            clear hgo hR' hyl6 hJ3 hk3
            refine hK _ _ ?_
            clear hK K
            try simp only [Act.put, List.getElem_toArray, List.getElem_cons_zero, List.getElem_cons_succ, List.setIfInBounds_toArray, List.set_cons_zero, List.set_cons_succ]
            refine wpAnyIn_ready (rs := [5]) (by kernel_rfl) (by simp) ?_
            refine AllReadyIn.cons rfl (fun K hK => ?_) AllReadyIn.nil
            go_simp
            refine hK _ _ ?_
            clear hK K
            try simp only [Act.put, List.getElem_toArray, List.getElem_cons_zero, List.getElem_cons_succ, List.setIfInBounds_toArray, List.set_cons_zero, List.set_cons_succ]
            refine wpAnyIn_done (by kernel_rfl) ?_ _
            gi_wp2_with fail
            refine ⟨HG.out.2.1, HG.out.1, jsA, qsA, i + 1, hJ4.out, h'.out.sub, h'.out.mj, h'.out.qsub, HMS.out _ _ h'.out.m (ckOfKeepB HG.out.2.2), hR1.out.2.1, hR1.out.2.2, Nat.le_trans h'.out.size HG.out.2.1.size, h'.out.mde, h'.out.lj, fun x hx => (by cases hx), fun j hj => Nat.lt_of_lt_of_le (h'.out.jl j hj) HG.out.2.1.size, fun q hq => Nat.lt_of_lt_of_le (h'.out.ql q hq) HG.out.2.1.size⟩
          · have HG := hid (hgo.out A3 hk3)
            have hJ4 := hid hJ3
            clear hgo hR' hyl6 hJ3 hk3
            refine hK _ _ ?_
            clear hK K
            try simp only [Act.put, List.getElem_toArray, List.getElem_cons_zero, List.getElem_cons_succ, List.setIfInBounds_toArray, List.set_cons_zero, List.set_cons_succ]
            refine wpAnyIn_ready (rs := [5]) (by kernel_rfl) (by simp) ?_
            refine AllReadyIn.cons rfl (fun K hK => ?_) AllReadyIn.nil
            go_simp
            refine hK _ _ ?_
            clear hK K
            try simp only [Act.put, List.getElem_toArray, List.getElem_cons_zero, List.getElem_cons_succ, List.setIfInBounds_toArray, List.set_cons_zero, List.set_cons_succ]
            refine wpAnyIn_done (by kernel_rfl) ?_ _
            gi_wp2_with fail
            refine ⟨HG.out.2.1, HG.out.1, rfl, Sr.nx ⟨true, W1.heap.size, qsA, jsA, i, some ⟨za, zc, zl⟩⟩ ⟨za, zc, zl⟩, rfl, rfl, h'.out.qsub, h'.out.mde, h'.out.lj, hJ4.out⟩
        · go_simp
          refine ⟨trivial, fun h => (by cases h), (CallsIn.inRound l0 (callsIn_wide.2 cCt.out)).mono ?_⟩
          rintro e Wz ⟨za, zc, rfl, hzrow, kz, hzb⟩
          have c3z := kpAt kz c3b
          refine hK _ _ ?_
          clear hK K
          try simp only [Act.put, List.getElem_toArray, List.getElem_cons_zero, List.getElem_cons_succ, List.setIfInBounds_toArray, List.set_cons_zero, List.set_cons_succ]
          refine wpAnyIn_ready (rs := [0]) (by kernel_rfl) (by simp) ?_
          refine AllReadyIn.cons rfl (fun K hK => ?_) AllReadyIn.nil
          go_simp
          refine hK _ _ ?_
          clear hK K
          try simp only [Act.put, List.getElem_toArray, List.getElem_cons_zero, List.getElem_cons_succ, List.setIfInBounds_toArray, List.set_cons_zero, List.set_cons_succ]
          have kWz := hid (KB.out.trans kz (by simp))
          have hzl := rowLies hzrow
          have hzb2 : ∀ j ∈ blk za, A.heap.size ≤ j := fun j hj => by have := hzb j hj; have := KB.out.size; omega
          have hJz : J ⟨true, W1.heap.size, qsA, jsA, i, some ⟨za, zc, zl⟩⟩ Wz := hT _ _ _ _ h'.out.j ⟨TurnR.ofKp0 kWz.out, fun _ => ⟨rfl, rfl, fun q hq => .inl hq⟩, fun e => (by cases e), fun j hj => .inl hj, rfl, .inr ⟨_, rfl, hR1.out.1, hzl, fun _ => ⟨hzrow, fun j hj => ⟨hzb2 j hj, fun hm => by have := h'.out.jl j hm; have := hzb2 j hj; omega, fun hm => by have := h'.out.ql j hm; have := hzb2 j hj; omega⟩⟩⟩⟩
          obtain ⟨fn, tmps, assign, body, hyl5, hR⟩ := hY _ ⟨za, zc, zl⟩ Wz hJz rfl
          have hR' : RoundIn (Fence.wide.inRound l0) (n - 1 - 1 - 1) Tryd.prog ly fn tmps assign body Wz _ := RoundIn.anyDepthJ (F := Fence.wide.inRound l0) rfl hR
          have hgo : Hid (∀ A3, KeepR ⟨true, W1.heap.size, qsA, jsA, i, some ⟨za, zc, zl⟩⟩ Wz A3 → KeepR s A A3 ∧ KeepsFrom W1.heap.size A A3 ∧ KeepB Mj A A3) := fun A3 hk3 => h'.out.keepR (s := ⟨true, W1.heap.size, qsA, jsA, i, some ⟨za, zc, zl⟩⟩) rfl rfl (fun j hj => hj) (KeepR.trans ⟨KeepB.ofKp kWz.out (by simp), fun _ j o _ ho _ => (kWz.out.block j (Array.getElem?_eq_some_iff.1 ho).1 (by simp)).trans ho⟩ hk3)
          have hyl6 := hyl5
          simp only [encR] at hyl6
          clear hR hJz hzl hzrow kz hzb hzb2 hyl5 cCt
          refine wpAnyIn_ready (rs := [4]) (by kernel_rfl) (by simp) ?_
          refine AllReadyIn.cons rfl (fun K hK => ?_) AllReadyIn.nil
          go_simp
          refine ⟨fun h => (by cases h), hR'.mono ?_⟩
          rintro e A3 (⟨rfl, hJ3, hk3⟩ | ⟨rfl, hJ3, hk3⟩)
          · have HG := hid (hgo.out A3 hk3)
            have hJ4 : Hid (J ⟨true, W1.heap.size, qsA, jsA, i + 1, none⟩ A3) := hJ3
            clear hgo hR' hyl6 hJ3 hk3
            refine hK _ _ ?_
            clear hK K
            try simp only [Act.put, List.getElem_toArray, List.getElem_cons_zero, List.getElem_cons_succ, List.setIfInBounds_toArray, List.set_cons_zero, List.set_cons_succ]
            refine wpAnyIn_ready (rs := [5]) (by kernel_rfl) (by simp) ?_
            refine AllReadyIn.cons rfl (fun K hK => ?_) AllReadyIn.nil
            go_simp
            refine hK _ _ ?_
            clear hK K
            try simp only [Act.put, List.getElem_toArray, List.getElem_cons_zero, List.getElem_cons_succ, List.setIfInBounds_toArray, List.set_cons_zero, List.set_cons_succ]
            refine wpAnyIn_done (by kernel_rfl) ?_ _
            gi_wp2_with fail
            refine ⟨HG.out.2.1, HG.out.1, jsA, qsA, i + 1, hJ4.out, h'.out.sub, h'.out.mj, h'.out.qsub, HMS.out _ _ h'.out.m (ckOfKeepB HG.out.2.2), hR1.out.2.1, hR1.out.2.2, Nat.le_trans h'.out.size HG.out.2.1.size, h'.out.mde, h'.out.lj, fun x hx => (by cases hx), fun j hj => Nat.lt_of_lt_of_le (h'.out.jl j hj) HG.out.2.1.size, fun q hq => Nat.lt_of_lt_of_le (h'.out.ql q hq) HG.out.2.1.size⟩
          · have HG := hid (hgo.out A3 hk3)
            have hJ4 := hid hJ3
            clear hgo hR' hyl6 hJ3 hk3
            refine hK _ _ ?_
            clear hK K
            try simp only [Act.put, List.getElem_toArray, List.getElem_cons_zero, List.getElem_cons_succ, List.setIfInBounds_toArray, List.set_cons_zero, List.set_cons_succ]
            refine wpAnyIn_ready (rs := [5]) (by kernel_rfl) (by simp) ?_
            refine AllReadyIn.cons rfl (fun K hK => ?_) AllReadyIn.nil
            go_simp
            refine hK _ _ ?_
            clear hK K
            try simp only [Act.put, List.getElem_toArray, List.getElem_cons_zero, List.getElem_cons_succ, List.setIfInBounds_toArray, List.set_cons_zero, List.set_cons_succ]
            refine wpAnyIn_done (by kernel_rfl) ?_ _
            gi_wp2_with fail
            refine ⟨HG.out.2.1, HG.out.1, rfl, Sr.nx ⟨true, W1.heap.size, qsA, jsA, i, some ⟨za, zc, zl⟩⟩ ⟨za, zc, zl⟩, rfl, rfl, h'.out.qsub, h'.out.mde, h'.out.lj, hJ4.out⟩
    · go_simp
      refine hK _ _ ?_
      clear hK K
      try simp only [Act.put, List.getElem_toArray, List.getElem_cons_zero, List.getElem_cons_succ, List.setIfInBounds_toArray, List.set_cons_zero, List.set_cons_succ]
      refine wpAnyIn_ready (rs := [0, 1]) (by kernel_rfl) (by simp) ?_
      refine AllReadyIn.cons rfl (fun K hK => ?_) (AllReadyIn.cons rfl (fun K hK => ?_) AllReadyIn.nil)
      · go_simp
        refine hK _ _ ?_
        clear hK K
        try simp only [Act.put, List.getElem_toArray, List.getElem_cons_zero, List.getElem_cons_succ, List.setIfInBounds_toArray, List.set_cons_zero, List.set_cons_succ]
        refine wpAnyIn_ready (rs := [1]) (by kernel_rfl) (by simp) ?_
        refine AllReadyIn.cons rfl (fun K hK => ?_) AllReadyIn.nil
        go_simp
        refine hK _ _ ?_
        clear hK K
        try simp only [Act.put, List.getElem_toArray, List.getElem_cons_zero, List.getElem_cons_succ, List.setIfInBounds_toArray, List.set_cons_zero, List.set_cons_succ]
        refine wpAnyIn_ready (rs := [3]) (by kernel_rfl) (by simp) ?_
        refine AllReadyIn.cons rfl (fun K hK => ?_) AllReadyIn.nil
        go_simp
        refine ⟨trivial, fun h => (by cases h), (CallsIn.inRound l0 (callsIn_wide.2 cCt.out)).mono ?_⟩
        rintro e Wz ⟨za, zc, rfl, hzrow, kz, hzb⟩
        have c3z := kpAt kz c3b
        refine hK _ _ ?_
        clear hK K
        try simp only [Act.put, List.getElem_toArray, List.getElem_cons_zero, List.getElem_cons_succ, List.setIfInBounds_toArray, List.set_cons_zero, List.set_cons_succ]
        have kWz := hid (KB.out.trans kz (by simp))
        have hzl := rowLies hzrow
        have hzb2 : ∀ j ∈ blk za, A.heap.size ≤ j := fun j hj => by have := hzb j hj; have := KB.out.size; omega
        have hJz : J ⟨true, W1.heap.size, qsA, jsA, i, some ⟨za, zc, zl⟩⟩ Wz := hT _ _ _ _ h'.out.j ⟨TurnR.ofKp0 kWz.out, fun _ => ⟨rfl, rfl, fun q hq => .inl hq⟩, fun e => (by cases e), fun j hj => .inl hj, rfl, .inr ⟨_, rfl, hR1.out.1, hzl, fun _ => ⟨hzrow, fun j hj => ⟨hzb2 j hj, fun hm => by have := h'.out.jl j hm; have := hzb2 j hj; omega, fun hm => by have := h'.out.ql j hm; have := hzb2 j hj; omega⟩⟩⟩⟩
        obtain ⟨fn, tmps, assign, body, hyl5, hR⟩ := hY _ ⟨za, zc, zl⟩ Wz hJz rfl
        have hR' : RoundIn (Fence.wide.inRound l0) (n - 1 - 1 - 1) Tryd.prog ly fn tmps assign body Wz _ := RoundIn.anyDepthJ (F := Fence.wide.inRound l0) rfl hR
        have hgo : Hid (∀ A3, KeepR ⟨true, W1.heap.size, qsA, jsA, i, some ⟨za, zc, zl⟩⟩ Wz A3 → KeepR s A A3 ∧ KeepsFrom W1.heap.size A A3 ∧ KeepB Mj A A3) := fun A3 hk3 => h'.out.keepR (s := ⟨true, W1.heap.size, qsA, jsA, i, some ⟨za, zc, zl⟩⟩) rfl rfl (fun j hj => hj) (KeepR.trans ⟨KeepB.ofKp kWz.out (by simp), fun _ j o _ ho _ => (kWz.out.block j (Array.getElem?_eq_some_iff.1 ho).1 (by simp)).trans ho⟩ hk3)
        have hyl6 := hyl5
        simp only [encR] at hyl6
        clear hR hJz hzl hzrow kz hzb hzb2 hyl5 cCt
        refine wpAnyIn_ready (rs := [4]) (by kernel_rfl) (by simp) ?_
        refine AllReadyIn.cons rfl (fun K hK => ?_) AllReadyIn.nil
        go_simp
        refine ⟨fun h => (by cases h), hR'.mono ?_⟩
        rintro e A3 (⟨rfl, hJ3, hk3⟩ | ⟨rfl, hJ3, hk3⟩)
        · have HG := hid (hgo.out A3 hk3)
          have hJ4 : Hid (J ⟨true, W1.heap.size, qsA, jsA, i + 1, none⟩ A3) := hJ3
          clear hgo hR' hyl6 hJ3 hk3
          refine hK _ _ ?_
          clear hK K
          try simp only [Act.put, List.getElem_toArray, List.getElem_cons_zero, List.getElem_cons_succ, List.setIfInBounds_toArray, List.set_cons_zero, List.set_cons_succ]
          refine wpAnyIn_ready (rs := [5]) (by kernel_rfl) (by simp) ?_
          refine AllReadyIn.cons rfl (fun K hK => ?_) AllReadyIn.nil
          go_simp
          refine hK _ _ ?_
          clear hK K
          try simp only [Act.put, List.getElem_toArray, List.getElem_cons_zero, List.getElem_cons_succ, List.setIfInBounds_toArray, List.set_cons_zero, List.set_cons_succ]
          refine wpAnyIn_done (by kernel_rfl) ?_ _
          gi_wp2_with fail
          refine ⟨HG.out.2.1, HG.out.1, jsA, qsA, i + 1, hJ4.out, h'.out.sub, h'.out.mj, h'.out.qsub, HMS.out _ _ h'.out.m (ckOfKeepB HG.out.2.2), hR1.out.2.1, hR1.out.2.2, Nat.le_trans h'.out.size HG.out.2.1.size, h'.out.mde, h'.out.lj, fun x hx => (by cases hx), fun j hj => Nat.lt_of_lt_of_le (h'.out.jl j hj) HG.out.2.1.size, fun q hq => Nat.lt_of_lt_of_le (h'.out.ql q hq) HG.out.2.1.size⟩
        · have HG := hid (hgo.out A3 hk3)
          have hJ4 := hid hJ3
          clear hgo hR' hyl6 hJ3 hk3
          refine hK _ _ ?_
          clear hK K
          try simp only [Act.put, List.getElem_toArray, List.getElem_cons_zero, List.getElem_cons_succ, List.setIfInBounds_toArray, List.set_cons_zero, List.set_cons_succ]
          refine wpAnyIn_ready (rs := [5]) (by kernel_rfl) (by simp) ?_
          refine AllReadyIn.cons rfl (fun K hK => ?_) AllReadyIn.nil
          go_simp
          refine hK _ _ ?_
          clear hK K
          try simp only [Act.put, List.getElem_toArray, List.getElem_cons_zero, List.getElem_cons_succ, List.setIfInBounds_toArray, List.set_cons_zero, List.set_cons_succ]
          refine wpAnyIn_done (by kernel_rfl) ?_ _
          gi_wp2_with fail
          refine ⟨HG.out.2.1, HG.out.1, rfl, Sr.nx ⟨true, W1.heap.size, qsA, jsA, i, some ⟨za, zc, zl⟩⟩ ⟨za, zc, zl⟩, rfl, rfl, h'.out.qsub, h'.out.mde, h'.out.lj, hJ4.out⟩
      · go_simp
        refine hK _ _ ?_
        clear hK K
        try simp only [Act.put, List.getElem_toArray, List.getElem_cons_zero, List.getElem_cons_succ, List.setIfInBounds_toArray, List.set_cons_zero, List.set_cons_succ]
        refine wpAnyIn_ready (rs := [0, 3]) (by kernel_rfl) (by simp) ?_
        refine AllReadyIn.cons rfl (fun K hK => ?_) (AllReadyIn.cons rfl (fun K hK => ?_) AllReadyIn.nil)
        · go_simp
          refine hK _ _ ?_
          clear hK K
          try simp only [Act.put, List.getElem_toArray, List.getElem_cons_zero, List.getElem_cons_succ, List.setIfInBounds_toArray, List.set_cons_zero, List.set_cons_succ]
          refine wpAnyIn_ready (rs := [3]) (by kernel_rfl) (by simp) ?_
          refine AllReadyIn.cons rfl (fun K hK => ?_) AllReadyIn.nil
          go_simp
          refine ⟨trivial, fun h => (by cases h), (CallsIn.inRound l0 (callsIn_wide.2 cCt.out)).mono ?_⟩
          rintro e Wz ⟨za, zc, rfl, hzrow, kz, hzb⟩
          have c3z := kpAt kz c3b
          refine hK _ _ ?_
          clear hK K
          try simp only [Act.put, List.getElem_toArray, List.getElem_cons_zero, List.getElem_cons_succ, List.setIfInBounds_toArray, List.set_cons_zero, List.set_cons_succ]
          have kWz := hid (KB.out.trans kz (by simp))
          have hzl := rowLies hzrow
          have hzb2 : ∀ j ∈ blk za, A.heap.size ≤ j := fun j hj => by have := hzb j hj; have := KB.out.size; omega
          have hJz : J ⟨true, W1.heap.size, qsA, jsA, i, some ⟨za, zc, zl⟩⟩ Wz := hT _ _ _ _ h'.out.j ⟨TurnR.ofKp0 kWz.out, fun _ => ⟨rfl, rfl, fun q hq => .inl hq⟩, fun e => (by cases e), fun j hj => .inl hj, rfl, .inr ⟨_, rfl, hR1.out.1, hzl, fun _ => ⟨hzrow, fun j hj => ⟨hzb2 j hj, fun hm => by have := h'.out.jl j hm; have := hzb2 j hj; omega, fun hm => by have := h'.out.ql j hm; have := hzb2 j hj; omega⟩⟩⟩⟩
          obtain ⟨fn, tmps, assign, body, hyl5, hR⟩ := hY _ ⟨za, zc, zl⟩ Wz hJz rfl
          have hR' : RoundIn (Fence.wide.inRound l0) (n - 1 - 1 - 1) Tryd.prog ly fn tmps assign body Wz _ := RoundIn.anyDepthJ (F := Fence.wide.inRound l0) rfl hR
          have hgo : Hid (∀ A3, KeepR ⟨true, W1.heap.size, qsA, jsA, i, some ⟨za, zc, zl⟩⟩ Wz A3 → KeepR s A A3 ∧ KeepsFrom W1.heap.size A A3 ∧ KeepB Mj A A3) := fun A3 hk3 => h'.out.keepR (s := ⟨true, W1.heap.size, qsA, jsA, i, some ⟨za, zc, zl⟩⟩) rfl rfl (fun j hj => hj) (KeepR.trans ⟨KeepB.ofKp kWz.out (by simp), fun _ j o _ ho _ => (kWz.out.block j (Array.getElem?_eq_some_iff.1 ho).1 (by simp)).trans ho⟩ hk3)
          have hyl6 := hyl5
          simp only [encR] at hyl6
          clear hR hJz hzl hzrow kz hzb hzb2 hyl5 cCt
          refine wpAnyIn_ready (rs := [4]) (by kernel_rfl) (by simp) ?_
          refine AllReadyIn.cons rfl (fun K hK => ?_) AllReadyIn.nil
          go_simp
          refine ⟨fun h => (by cases h), hR'.mono ?_⟩
          rintro e A3 (⟨rfl, hJ3, hk3⟩ | ⟨rfl, hJ3, hk3⟩)
          · have HG := hid (hgo.out A3 hk3)
            have hJ4 : Hid (J ⟨true, W1.heap.size, qsA, jsA, i + 1, none⟩ A3) := hJ3
            clear hgo hR' hyl6 hJ3 hk3
            refine hK _ _ ?_
            clear hK K
            try simp only [Act.put, List.getElem_toArray, List.getElem_cons_zero, List.getElem_cons_succ, List.setIfInBounds_toArray, List.set_cons_zero, List.set_cons_succ]
            refine wpAnyIn_ready (rs := [5]) (by kernel_rfl) (by simp) ?_
            refine AllReadyIn.cons rfl (fun K hK => ?_) AllReadyIn.nil
            go_simp
            refine hK _ _ ?_
            clear hK K
            try simp only [Act.put, List.getElem_toArray, List.getElem_cons_zero, List.getElem_cons_succ, List.setIfInBounds_toArray, List.set_cons_zero, List.set_cons_succ]
            refine wpAnyIn_done (by kernel_rfl) ?_ _
            gi_wp2_with fail
            refine ⟨HG.out.2.1, HG.out.1, jsA, qsA, i + 1, hJ4.out, h'.out.sub, h'.out.mj, h'.out.qsub, HMS.out _ _ h'.out.m (ckOfKeepB HG.out.2.2), hR1.out.2.1, hR1.out.2.2, Nat.le_trans h'.out.size HG.out.2.1.size, h'.out.mde, h'.out.lj, fun x hx => (by cases hx), fun j hj => Nat.lt_of_lt_of_le (h'.out.jl j hj) HG.out.2.1.size, fun q hq => Nat.lt_of_lt_of_le (h'.out.ql q hq) HG.out.2.1.size⟩
          · have HG := hid (hgo.out A3 hk3)
            have hJ4 := hid hJ3
            clear hgo hR' hyl6 hJ3 hk3
            refine hK _ _ ?_
            clear hK K
            try simp only [Act.put, List.getElem_toArray, List.getElem_cons_zero, List.getElem_cons_succ, List.setIfInBounds_toArray, List.set_cons_zero, List.set_cons_succ]
            refine wpAnyIn_ready (rs := [5]) (by kernel_rfl) (by simp) ?_
            refine AllReadyIn.cons rfl (fun K hK => ?_) AllReadyIn.nil
            go_simp
            refine hK _ _ ?_
            clear hK K
            try simp only [Act.put, List.getElem_toArray, List.getElem_cons_zero, List.getElem_cons_succ, List.setIfInBounds_toArray, List.set_cons_zero, List.set_cons_succ]
            refine wpAnyIn_done (by kernel_rfl) ?_ _
            gi_wp2_with fail
            refine ⟨HG.out.2.1, HG.out.1, rfl, Sr.nx ⟨true, W1.heap.size, qsA, jsA, i, some ⟨za, zc, zl⟩⟩ ⟨za, zc, zl⟩, rfl, rfl, h'.out.qsub, h'.out.mde, h'.out.lj, hJ4.out⟩
        · go_simp
          refine ⟨trivial, fun h => (by cases h), (CallsIn.inRound l0 (callsIn_wide.2 cCt.out)).mono ?_⟩
          rintro e Wz ⟨za, zc, rfl, hzrow, kz, hzb⟩
          have c3z := kpAt kz c3b
          refine hK _ _ ?_
          clear hK K
          try simp only [Act.put, List.getElem_toArray, List.getElem_cons_zero, List.getElem_cons_succ, List.setIfInBounds_toArray, List.set_cons_zero, List.set_cons_succ]
          refine wpAnyIn_ready (rs := [0]) (by kernel_rfl) (by simp) ?_
          refine AllReadyIn.cons rfl (fun K hK => ?_) AllReadyIn.nil
          go_simp
          refine hK _ _ ?_
          clear hK K
          try simp only [Act.put, List.getElem_toArray, List.getElem_cons_zero, List.getElem_cons_succ, List.setIfInBounds_toArray, List.set_cons_zero, List.set_cons_succ]
          have kWz := hid (KB.out.trans kz (by simp))
          have hzl := rowLies hzrow
          have hzb2 : ∀ j ∈ blk za, A.heap.size ≤ j := fun j hj => by have := hzb j hj; have := KB.out.size; omega
          have hJz : J ⟨true, W1.heap.size, qsA, jsA, i, some ⟨za, zc, zl⟩⟩ Wz := hT _ _ _ _ h'.out.j ⟨TurnR.ofKp0 kWz.out, fun _ => ⟨rfl, rfl, fun q hq => .inl hq⟩, fun e => (by cases e), fun j hj => .inl hj, rfl, .inr ⟨_, rfl, hR1.out.1, hzl, fun _ => ⟨hzrow, fun j hj => ⟨hzb2 j hj, fun hm => by have := h'.out.jl j hm; have := hzb2 j hj; omega, fun hm => by have := h'.out.ql j hm; have := hzb2 j hj; omega⟩⟩⟩⟩
          obtain ⟨fn, tmps, assign, body, hyl5, hR⟩ := hY _ ⟨za, zc, zl⟩ Wz hJz rfl
          have hR' : RoundIn (Fence.wide.inRound l0) (n - 1 - 1 - 1) Tryd.prog ly fn tmps assign body Wz _ := RoundIn.anyDepthJ (F := Fence.wide.inRound l0) rfl hR
          have hgo : Hid (∀ A3, KeepR ⟨true, W1.heap.size, qsA, jsA, i, some ⟨za, zc, zl⟩⟩ Wz A3 → KeepR s A A3 ∧ KeepsFrom W1.heap.size A A3 ∧ KeepB Mj A A3) := fun A3 hk3 => h'.out.keepR (s := ⟨true, W1.heap.size, qsA, jsA, i, some ⟨za, zc, zl⟩⟩) rfl rfl (fun j hj => hj) (KeepR.trans ⟨KeepB.ofKp kWz.out (by simp), fun _ j o _ ho _ => (kWz.out.block j (Array.getElem?_eq_some_iff.1 ho).1 (by simp)).trans ho⟩ hk3)
          have hyl6 := hyl5
          simp only [encR] at hyl6
          clear hR hJz hzl hzrow kz hzb hzb2 hyl5 cCt
          refine wpAnyIn_ready (rs := [4]) (by kernel_rfl) (by simp) ?_
          refine AllReadyIn.cons rfl (fun K hK => ?_) AllReadyIn.nil
          go_simp
          refine ⟨fun h => (by cases h), hR'.mono ?_⟩
          rintro e A3 (⟨rfl, hJ3, hk3⟩ | ⟨rfl, hJ3, hk3⟩)
          · have HG := hid (hgo.out A3 hk3)
            have hJ4 : Hid (J ⟨true, W1.heap.size, qsA, jsA, i + 1, none⟩ A3) := hJ3
            clear hgo hR' hyl6 hJ3 hk3
            refine hK _ _ ?_
            clear hK K
            try simp only [Act.put, List.getElem_toArray, List.getElem_cons_zero, List.getElem_cons_succ, List.setIfInBounds_toArray, List.set_cons_zero, List.set_cons_succ]
            refine wpAnyIn_ready (rs := [5]) (by kernel_rfl) (by simp) ?_
            refine AllReadyIn.cons rfl (fun K hK => ?_) AllReadyIn.nil
            go_simp
            refine hK _ _ ?_
            clear hK K
            try simp only [Act.put, List.getElem_toArray, List.getElem_cons_zero, List.getElem_cons_succ, List.setIfInBounds_toArray, List.set_cons_zero, List.set_cons_succ]
            refine wpAnyIn_done (by kernel_rfl) ?_ _
            gi_wp2_with fail
            refine ⟨HG.out.2.1, HG.out.1, jsA, qsA, i + 1, hJ4.out, h'.out.sub, h'.out.mj, h'.out.qsub, HMS.out _ _ h'.out.m (ckOfKeepB HG.out.2.2), hR1.out.2.1, hR1.out.2.2, Nat.le_trans h'.out.size HG.out.2.1.size, h'.out.mde, h'.out.lj, fun x hx => (by cases hx), fun j hj => Nat.lt_of_lt_of_le (h'.out.jl j hj) HG.out.2.1.size, fun q hq => Nat.lt_of_lt_of_le (h'.out.ql q hq) HG.out.2.1.size⟩
          · have HG := hid (hgo.out A3 hk3)
            have hJ4 := hid hJ3
            clear hgo hR' hyl6 hJ3 hk3
            refine hK _ _ ?_
            clear hK K
            try simp only [Act.put, List.getElem_toArray, List.getElem_cons_zero, List.getElem_cons_succ, List.setIfInBounds_toArray, List.set_cons_zero, List.set_cons_succ]
            refine wpAnyIn_ready (rs := [5]) (by kernel_rfl) (by simp) ?_
            refine AllReadyIn.cons rfl (fun K hK => ?_) AllReadyIn.nil
            go_simp
            refine hK _ _ ?_
            clear hK K
            try simp only [Act.put, List.getElem_toArray, List.getElem_cons_zero, List.getElem_cons_succ, List.setIfInBounds_toArray, List.set_cons_zero, List.set_cons_succ]
            refine wpAnyIn_done (by kernel_rfl) ?_ _
            gi_wp2_with fail
            refine ⟨HG.out.2.1, HG.out.1, rfl, Sr.nx ⟨true, W1.heap.size, qsA, jsA, i, some ⟨za, zc, zl⟩⟩ ⟨za, zc, zl⟩, rfl, rfl, h'.out.qsub, h'.out.mde, h'.out.lj, hJ4.out⟩
  case done =>
    rintro D s X hD ⟨hmd, hsi, hsp⟩ ⟨jsA, qsA, i, h⟩ hrec
    have hie : i = RJ.length := by
      have := h.rel
      rw [hsi, List.drop_length, List.flatMap_nil] at this
      have := congrArg List.length this
      rw [List.length_drop, List.length_nil] at this
      have := h.il
      omega
    have hJD := hT _ _ _ _ h.j (StepR.same rfl rfl (TurnR.ofGrown (grownBy_putObj' X D (.deferred none)) (fun r e => by cases e; exact ⟨hD, _, hrec, rfl⟩)))
    gi_wp2_with fail
    refine ⟨by simp, .inl ⟨_, _, rfl, run_takeDeferred hrec, ?_⟩⟩
    exact ⟨_, results_none rfl _ _ _, ⟨_, rfl⟩, .inl ⟨_, ⟨rfl, hie, rfl⟩, hJD⟩⟩
  case stop =>
    rintro D c s X hD hsm ⟨rfl, h⟩ hrec
    obtain ⟨s2, h1, h2, h3, h4, h5, h6⟩ := h
    have hJD := hX _ _ _ h6 ⟨h1, TurnR.ofGrown (grownBy_putObj' X D (.deferred none)) (fun r e => by cases e; exact ⟨by rw [h2]; exact hD, _, hrec, rfl⟩)⟩
    gi_wp2_with fail
    refine ⟨by simp, .inl ⟨_, _, rfl, run_takeDeferred hrec, ?_⟩⟩
    exact ⟨_, results_none rfl _ _ _, ⟨_, rfl⟩, .inr ⟨s2, h1, hJD⟩⟩
end Go.Proofs.YtfolkjjhlcjfgabDoor
end

section
namespace Go.Proofs.YtfolkjjhlcjfgabDoor
open Go.RowKit Go.Hay
attribute [local go_sem] Oper.semAt_some
set_option linter.unusedVariables false
set_option linter.unusedSimpArgs false

/-- Which rows one row gives. -/
def filtF (ts : List Tm) (x : List Val) : List (List Val) := if allT ts x then [x] else []
theorem asksCK {P : Nat → Prop} {A B : World} (h : Asks A) (k : CK P A B) (hp : P 0) : Asks B := ⟨Nat.lt_of_lt_of_le h.1 k.1, fun i hi => (k.2 ⟨0, i, none⟩ _ hp (h.2 i hi)).1⟩
set_option maxHeartbeats 64000000 in
set_option maxRecDepth 100000 in
theorem filtSeq (n : Nat) (hn : 2 ≤ n) (q1 q2 : Nat) (fr : Bool) (gl : Nat) (lbl : Array Value) (RL : List (List Val)) (jsl js : List Nat) (ta : Option Addr) (tc : Nat) (ts : List Tm) (w : World)
    (heL : ∀ args w, (callFunc gl args).run Tryd.prog w = .ok (.enter gl args) w)
    (c1 : w.cell? ⟨q1, 0, none⟩ = some (.func (.func gl) #[] lbl)) (c2 : w.cell? ⟨q2, 0, none⟩ = some (Value.slice ta ts.length tc)) (hXw : (fun W => TmE.See W ta ts ∧ Asks W) w)
    (hq : ∀ q ∈ [q1, q2], q ∈ js) (hjl : ∀ j ∈ jsl, j ∈ js) (hXj : ∀ j ∈ (0 :: blk ta), j ∈ js) (hjb : ∀ j ∈ js, j < w.heap.size)
    (hL : RowSeq fr (n - 1) gl lbl RL jsl w) (hRLl : ∀ l ∈ RL, l.length ≤ 1800000000000) (htl : ts.length ≤ 3000000000000) :
    RowSeq true n 14 #[.pointer (some ⟨q1, 0, none⟩), .pointer (some ⟨q2, 0, none⟩)] (RL.flatMap (filtF ts)) js w := by
  intro ly J Jx W hW hT hX hY h0
  obtain ⟨f, hf⟩ : ∃ f, Hid (filtF ts = f) := ⟨_, rfl⟩
  obtain ⟨RJ, hRJ⟩ : ∃ R, Hid (RL.flatMap f = R) := ⟨_, rfl⟩
  rw [hf.out, hRJ.out] at hT ⊢
  obtain ⟨X, hXd⟩ : ∃ X, Hid ((fun W => TmE.See W ta ts ∧ Asks W) = X) := ⟨_, rfl⟩
  obtain ⟨Xj, hXjd⟩ : ∃ X, Hid ((0 :: blk ta) = X) := ⟨_, rfl⟩
  have hXck : ∀ A B, X A → CK (fun k => k ∈ Xj) A B → X B := by rw [← hXd.out, ← hXjd.out]; exact (fun A B h k => ⟨ckSee k h.1 (fun j hj => by simp [hj]), asksCK h.2 k (by simp)⟩)
  have hXw : X w := by rw [← hXd.out]; exact hXw
  rw [hXjd.out] at hXj
  have kjs := hW.js
  have d1 := kjs.cell (hq q1 (by simp)) c1
  have d2 := kjs.cell (hq q2 (by simp)) c2
  have dX := hXck _ _ hXw ((ckOfKeepB kjs).mono fun k hk => hXj k hk)
  have hlW := hL.move (W := W) ⟨kjs.1, fun j hj o ho => kjs.2 j (hjl j hj) o ho⟩
  have hjW : ∀ j ∈ js, j < W.heap.size := fun j hj => Nat.lt_of_lt_of_le (hjb j hj) kjs.1
  obtain ⟨W1, hW1, k1, b1⟩ : ∃ W1, W.alloc (.cells #[.func (.yield ly) #[] #[]] 43) = W1 ∧ Kp [] W W1 ∧ Bn W1 W.heap.size [.func (.yield ly) #[] #[]] := ⟨_, rfl, (Kp.refl _ _).alloc _, Bn.new W _ _⟩
  obtain ⟨q3, hq3⟩ : ∃ q, Hid (W.heap.size = q) := ⟨_, rfl⟩
  rw [hq3.out] at b1
  have e1 := kpAt k1 d1
  obtain ⟨Mj, hMj⟩ : ∃ M, Hid (M = q2 :: q3 :: Xj) := ⟨_, rfl⟩
  obtain ⟨V2, hV2⟩ : ∃ v, Hid (Value.slice ta ts.length tc = v) := ⟨_, rfl⟩
  rw [hV2.out] at d2
  have hM1 : MI V2 q2 q3 ly X W1 := ⟨kpAt k1 d2, b1.get 0 _ rfl, hXck _ _ dX ((CK.ofKp k1).mono (by simp))⟩
  have hMst : ∀ A B, MI V2 q2 q3 ly X A → CK (fun k => k ∈ Mj) A B → MI V2 q2 q3 ly X B := fun A B h k => h.ck hXck (by rw [← hMj.out]; exact k)
  have hMn : ∀ j ∈ Mj, j ∈ js ∨ (W.heap.size ≤ j ∧ j < W1.heap.size) := fun j hj => by
    rw [hMj.out] at hj
    rcases List.mem_cons.1 hj with rfl | hj
    · exact .inl (hq _ (by simp))
    · rcases List.mem_cons.1 hj with rfl | hj
      · exact .inr ⟨by rw [← hq3.out]; exact Nat.le_refl _, b1.lt (by simp)⟩
      · exact .inl (hXj j hj)
  have hMb : ∀ j ∈ Mj, j < W1.heap.size := fun j hj => by
    rcases hMn j hj with e | e
    · exact Nat.lt_of_lt_of_le (hjW j e) k1.size
    · exact e.2
  have hJ1 : J ⟨true, W1.heap.size, [], js ++ Mj, 0, none⟩ W1 := hT _ _ _ _ h0 ⟨TurnR.ofKp0 k1, fun h => (by cases h), fun _ => ⟨rfl, k1.size, by simp⟩, fun j hj => by
    rcases List.mem_append.1 hj with e | e
    · exact .inl e
    · exact hMn j e, rfl, .inl rfl⟩
  have hI0 : InG J RL RJ f (MI V2 q2 q3 ly X) Mj W1 ⟨false, 0, [], jsl, 0, none⟩ W1 := ⟨js ++ Mj, [], 0, hJ1, fun j hj => List.mem_append.2 (.inl (hjl j hj)), fun j hj => List.mem_append.2 (.inr hj), by simp, hM1, by rw [← hRJ.out]; rfl, Nat.zero_le _, Nat.le_refl _, fun h => (by cases h), fun j hj => by have := hjW j (hjl j hj); have := k1.size; omega, fun x hx => (by cases hx), fun j hj => by
    rcases List.mem_append.1 hj with e | e
    · have := hjW j e; have := k1.size; omega
    · exact hMb j e, by simp⟩
  have hsq := hid (hlW.move (KeepB.ofKp k1 (by simp)))
  have HI0 := hid hI0
  have HMS := hid hMst
  have HMB := hid hMb
  have hq3' := hq3.out
  clear c1 c2 hL hW kjs hjb hlW k1 b1 d1 d2 hM1 hMn hJ1 hI0 hMst hMb h0 dX
  refine callsIn_of_wp_marks Tryd.func14 rfl trivial ?_ rfl
  simp only [Tryd.ntmps14, List.size_toArray, List.length_cons, List.length_nil, Nat.reduceAdd, Nat.reduceSub, Array.replicate_succ, Array.replicate_zero, List.push_toArray, List.append_toArray, List.nil_append, List.cons_append]
  refine wpIn_wide.2 ?_
  go_wp2_with fail
  refine (wpIn_wide (n := n)).1 ?_
  refine wpRangeX rfl (by omega) (gf := gl) (lb := lbl) rfl trivial heL
    hsq.out (fun _ => rfl) KeepR.trans (fun s W o => KeepR.alloc s W o) (KeepR.refl _ _)
    (InG J RL RJ f (MI V2 q2 q3 ly X) Mj W1) (fun c s W' => c = .ret ∧ InX Jx W1 s W') (InG.own hT HMS.out) (fun c s X Y row h hg hr => ⟨h.1, InX.own hX s X Y row h.2 hg hr⟩) HI0.out
    (fun s s' A B h ht k o hk ho => h.keeps ht k o hk ho) (fun c s A B h ht k o hk ho => h.2.keeps ht k o hk ho) (fun s s' A B hz h ht => h.step hT HMS.out HMB.out hz ht) (fun c s A B h ht => ⟨h.1, h.2.step hX ht⟩)
    (fun s W o' h => h.recs o') (fun s x W o' h => h.recs' o') (fun c s x W o' h => h.2.recs' o')
    (fun x => { tmps := #[.func (.yield ly) #[] #[], .pointer (some ⟨q1, 0, none⟩), .pointer (some ⟨q2, 0, none⟩), .pointer (some ⟨q3, 0, none⟩), .slice x.a x.l.length x.c, .func (.func gl) #[] lbl, .slice x.a x.l.length x.c, undef, undef, undef, undef, undef, undef, undef, undef, undef, undef], defers := [] }) ?assign ?body ?done ?stop
  case assign =>
    intro l x W C hC
    gi_wp2_with fail
    exact hC
  case body =>
    rintro l0 s ⟨xa, xc, xl⟩ A ⟨jsA, qsA, i, h⟩ hp
    obtain ⟨hRi, hxl⟩ := h.pend _ hp
    dsimp only at hRi ⊢
    have hxn : xl.length ≤ 1800000000000 := hRLl _ (List.mem_of_getElem? hRi)
    have hrel := hid (relStep h.rel hRi)
    have h' := hid h
    have hxl' := hid hxl
    have hmK : Hid (∀ A', Kp [] A A' → MI V2 q2 q3 ly X A') := fun A' k => HMS.out _ _ h'.out.m ((CK.ofKp k).mono (by simp))
    clear h hRi hxl HI0
    rw [← hV2.out] at hmK
    have cAl0 : Hid (∀ A', Kp [] A A' → Calls Tryd.prog 15 #[.slice ta ts.length tc, .slice xa xl.length xc] A' fun e w' => e = .returned (.bool (allT ts xl)) ∧ Kp [] A' w') := fun A' k => by
      have hx := (hmK.out A' k).x
      rw [← hXd.out] at hx
      exact xAll ta xa tc xc ts xl A' hx.2 hx.1 (seeV.2 (hxl'.out.see.kept k)) (by omega) (by omega)
    have cCp : Hid (∀ W', Kp [] A W' → Calls Tryd.prog 16 #[.slice xa xl.length xc] W' (NewR xl W')) := fun W' k => cCloneR xa xc xl W' (hxl'.out.see.kept k) hxl'.out.nil (by omega)
    gi_wp2_with fail
    by_cases hall : allT ts xl = true
    · have hR1 : Hid (RJ[i]? = some xl ∧ RJ.drop (i + 1) = (RL.drop (s.i + 1)).flatMap f ∧ i + 1 ≤ RJ.length) := relOne (by rw [hrel.out, ← hf.out, filtF, if_pos hall])
      refine wpIn_region_any (by kernel_rfl) ?_
      change wpAnyIn _ _ _ _ _ _ _ _ _ A.drew
      have kD : Kp [] A A.drew := (Kp.refl _ _).drew
      generalize A.drew = wd at *
      have KB := hid kD
      have c2b := (hmK.out wd kD).c2
      have c3b := (hmK.out wd kD).c3
      have cAl := hid (cAl0.out wd kD)
      rw [hall] at cAl
      clear kD hall
      refine wpAnyIn_ready (rs := [0, 1]) (by kernel_rfl) (by simp) ?_
      refine AllReadyIn.cons rfl (fun K hK => ?_) (AllReadyIn.cons rfl (fun K hK => ?_) AllReadyIn.nil)
      · go_simp
        refine hK _ _ ?_
        clear hK K
        try simp only [Act.put, List.getElem_toArray, List.getElem_cons_zero, List.getElem_cons_succ, List.setIfInBounds_toArray, List.set_cons_zero, List.set_cons_succ]
        refine wpAnyIn_ready (rs := [1]) (by kernel_rfl) (by simp) ?_
        refine AllReadyIn.cons rfl (fun K hK => ?_) AllReadyIn.nil
        go_simp
        refine hK _ _ ?_
        clear hK K
        try simp only [Act.put, List.getElem_toArray, List.getElem_cons_zero, List.getElem_cons_succ, List.setIfInBounds_toArray, List.set_cons_zero, List.set_cons_succ]
        refine wpAnyIn_ready (rs := [2]) (by kernel_rfl) (by simp) ?_
        refine AllReadyIn.cons rfl (fun K hK => ?_) AllReadyIn.nil
        go_simp
        refine ⟨trivial, fun h => (by cases h), (CallsIn.inRound l0 (callsIn_wide.2 cAl.out)).mono ?_⟩
        rintro e we ⟨rfl, ke⟩
        have KB := hid (KB.out.trans ke (by simp))
        have c3b := kpAt ke c3b
        have cCt := hid (cCp.out we KB.out)
        clear ke
        refine hK _ _ ?_
        clear hK K
        try simp only [Act.put, List.getElem_toArray, List.getElem_cons_zero, List.getElem_cons_succ, List.setIfInBounds_toArray, List.set_cons_zero, List.set_cons_succ]
        refine wpAnyIn_ready (rs := [3]) (by kernel_rfl) (by simp) ?_
        refine AllReadyIn.cons rfl (fun K hK => ?_) AllReadyIn.nil
        go_simp
        refine hK _ _ ?_
        clear hK K
        try simp only [Act.put, List.getElem_toArray, List.getElem_cons_zero, List.getElem_cons_succ, List.setIfInBounds_toArray, List.set_cons_zero, List.set_cons_succ]
        refine wpAnyIn_ready (rs := [4, 5]) (by kernel_rfl) (by simp) ?_
        refine AllReadyIn.cons rfl (fun K hK => ?_) (AllReadyIn.cons rfl (fun K hK => ?_) AllReadyIn.nil)
        · go_simp
          refine hK _ _ ?_
          clear hK K
          try simp only [Act.put, List.getElem_toArray, List.getElem_cons_zero, List.getElem_cons_succ, List.setIfInBounds_toArray, List.set_cons_zero, List.set_cons_succ]
          refine wpAnyIn_ready (rs := [5]) (by kernel_rfl) (by simp) ?_
          refine AllReadyIn.cons rfl (fun K hK => ?_) AllReadyIn.nil
          go_simp
          refine hK _ _ ?_
          clear hK K
          try simp only [Act.put, List.getElem_toArray, List.getElem_cons_zero, List.getElem_cons_succ, List.setIfInBounds_toArray, List.set_cons_zero, List.set_cons_succ]
          refine wpAnyIn_ready (rs := [6]) (by kernel_rfl) (by simp) ?_
          refine AllReadyIn.cons rfl (fun K hK => ?_) AllReadyIn.nil
          go_simp
          refine ⟨trivial, fun h => (by cases h), (CallsIn.inRound l0 (callsIn_wide.2 cCt.out)).mono ?_⟩
          rintro e Wz ⟨za, zc, rfl, hzrow, kz, hzb⟩
          have c3z := kpAt kz c3b
          refine hK _ _ ?_
          clear hK K
          try simp only [Act.put, List.getElem_toArray, List.getElem_cons_zero, List.getElem_cons_succ, List.setIfInBounds_toArray, List.set_cons_zero, List.set_cons_succ]
          have kWz := hid (KB.out.trans kz (by simp))
          have hzl := rowLies hzrow
          have hzb2 : ∀ j ∈ blk za, A.heap.size ≤ j := fun j hj => by have := hzb j hj; have := KB.out.size; omega
          have hJz : J ⟨true, W1.heap.size, qsA, jsA, i, some ⟨za, zc, xl⟩⟩ Wz := hT _ _ _ _ h'.out.j ⟨TurnR.ofKp0 kWz.out, fun _ => ⟨rfl, rfl, fun q hq => .inl hq⟩, fun e => (by cases e), fun j hj => .inl hj, rfl, .inr ⟨_, rfl, hR1.out.1, hzl, fun _ => ⟨hzrow, fun j hj => ⟨hzb2 j hj, fun hm => by have := h'.out.jl j hm; have := hzb2 j hj; omega, fun hm => by have := h'.out.ql j hm; have := hzb2 j hj; omega⟩⟩⟩⟩
          obtain ⟨fn, tmps, assign, body, hyl5, hR⟩ := hY _ ⟨za, zc, xl⟩ Wz hJz rfl
          have hR' : RoundIn (Fence.wide.inRound l0) (n - 1 - 1 - 1) Tryd.prog ly fn tmps assign body Wz _ := RoundIn.anyDepthJ (F := Fence.wide.inRound l0) rfl hR
          have hgo : Hid (∀ A3, KeepR ⟨true, W1.heap.size, qsA, jsA, i, some ⟨za, zc, xl⟩⟩ Wz A3 → KeepR s A A3 ∧ KeepsFrom W1.heap.size A A3 ∧ KeepB Mj A A3) := fun A3 hk3 => h'.out.keepR (s := ⟨true, W1.heap.size, qsA, jsA, i, some ⟨za, zc, xl⟩⟩) rfl rfl (fun j hj => hj) (KeepR.trans ⟨KeepB.ofKp kWz.out (by simp), fun _ j o _ ho _ => (kWz.out.block j (Array.getElem?_eq_some_iff.1 ho).1 (by simp)).trans ho⟩ hk3)
          have hyl6 := hyl5
          simp only [encR] at hyl6
          clear hR hJz hzl hzrow kz hzb hzb2 hyl5 cCt
          refine wpAnyIn_ready (rs := [7]) (by kernel_rfl) (by simp) ?_
          refine AllReadyIn.cons rfl (fun K hK => ?_) AllReadyIn.nil
          go_simp
          refine ⟨fun h => (by cases h), hR'.mono ?_⟩
          rintro e A3 (⟨rfl, hJ3, hk3⟩ | ⟨rfl, hJ3, hk3⟩)
          · have HG := hid (hgo.out A3 hk3)
            have hJ4 : Hid (J ⟨true, W1.heap.size, qsA, jsA, i + 1, none⟩ A3) := hJ3
            clear hgo hR' hyl6 hJ3 hk3
            refine hK _ _ ?_
            clear hK K
            try simp only [Act.put, List.getElem_toArray, List.getElem_cons_zero, List.getElem_cons_succ, List.setIfInBounds_toArray, List.set_cons_zero, List.set_cons_succ]
            refine wpAnyIn_ready (rs := [8]) (by kernel_rfl) (by simp) ?_
            refine AllReadyIn.cons rfl (fun K hK => ?_) AllReadyIn.nil
            go_simp
            refine hK _ _ ?_
            clear hK K
            try simp only [Act.put, List.getElem_toArray, List.getElem_cons_zero, List.getElem_cons_succ, List.setIfInBounds_toArray, List.set_cons_zero, List.set_cons_succ]
            refine wpAnyIn_ready (rs := [9]) (by kernel_rfl) (by simp) ?_
            refine AllReadyIn.cons rfl (fun K hK => ?_) AllReadyIn.nil
            go_simp
            refine hK _ _ ?_
            clear hK K
            try simp only [Act.put, List.getElem_toArray, List.getElem_cons_zero, List.getElem_cons_succ, List.setIfInBounds_toArray, List.set_cons_zero, List.set_cons_succ]
            refine wpAnyIn_done (by kernel_rfl) ?_ _
            gi_wp2_with fail
            refine ⟨HG.out.2.1, HG.out.1, jsA, qsA, i + 1, hJ4.out, h'.out.sub, h'.out.mj, h'.out.qsub, HMS.out _ _ h'.out.m (ckOfKeepB HG.out.2.2), hR1.out.2.1, hR1.out.2.2, Nat.le_trans h'.out.size HG.out.2.1.size, h'.out.mde, h'.out.lj, fun x hx => (by cases hx), fun j hj => Nat.lt_of_lt_of_le (h'.out.jl j hj) HG.out.2.1.size, fun q hq => Nat.lt_of_lt_of_le (h'.out.ql q hq) HG.out.2.1.size⟩
          · have HG := hid (hgo.out A3 hk3)
            have hJ4 := hid hJ3
            clear hgo hR' hyl6 hJ3 hk3
            refine hK _ _ ?_
            clear hK K
            try simp only [Act.put, List.getElem_toArray, List.getElem_cons_zero, List.getElem_cons_succ, List.setIfInBounds_toArray, List.set_cons_zero, List.set_cons_succ]
            refine wpAnyIn_ready (rs := [8]) (by kernel_rfl) (by simp) ?_
            refine AllReadyIn.cons rfl (fun K hK => ?_) AllReadyIn.nil
            go_simp
            refine hK _ _ ?_
            clear hK K
            try simp only [Act.put, List.getElem_toArray, List.getElem_cons_zero, List.getElem_cons_succ, List.setIfInBounds_toArray, List.set_cons_zero, List.set_cons_succ]
            refine wpAnyIn_ready (rs := [9]) (by kernel_rfl) (by simp) ?_
            refine AllReadyIn.cons rfl (fun K hK => ?_) AllReadyIn.nil
            go_simp
            refine hK _ _ ?_
            clear hK K
            try simp only [Act.put, List.getElem_toArray, List.getElem_cons_zero, List.getElem_cons_succ, List.setIfInBounds_toArray, List.set_cons_zero, List.set_cons_succ]
            refine wpAnyIn_done (by kernel_rfl) ?_ _
            gi_wp2_with fail
            refine ⟨HG.out.2.1, HG.out.1, rfl, Sr.nx ⟨true, W1.heap.size, qsA, jsA, i, some ⟨za, zc, xl⟩⟩ ⟨za, zc, xl⟩, rfl, rfl, h'.out.qsub, h'.out.mde, h'.out.lj, hJ4.out⟩
        · go_simp
          refine hK _ _ ?_
          clear hK K
          try simp only [Act.put, List.getElem_toArray, List.getElem_cons_zero, List.getElem_cons_succ, List.setIfInBounds_toArray, List.set_cons_zero, List.set_cons_succ]
          refine wpAnyIn_ready (rs := [4, 6]) (by kernel_rfl) (by simp) ?_
          refine AllReadyIn.cons rfl (fun K hK => ?_) (AllReadyIn.cons rfl (fun K hK => ?_) AllReadyIn.nil)
          · go_simp
            refine hK _ _ ?_
            clear hK K
            try simp only [Act.put, List.getElem_toArray, List.getElem_cons_zero, List.getElem_cons_succ, List.setIfInBounds_toArray, List.set_cons_zero, List.set_cons_succ]
            refine wpAnyIn_ready (rs := [6]) (by kernel_rfl) (by simp) ?_
            refine AllReadyIn.cons rfl (fun K hK => ?_) AllReadyIn.nil
            go_simp
            refine ⟨trivial, fun h => (by cases h), (CallsIn.inRound l0 (callsIn_wide.2 cCt.out)).mono ?_⟩
            rintro e Wz ⟨za, zc, rfl, hzrow, kz, hzb⟩
            have c3z := kpAt kz c3b
            refine hK _ _ ?_
            clear hK K
            try simp only [Act.put, List.getElem_toArray, List.getElem_cons_zero, List.getElem_cons_succ, List.setIfInBounds_toArray, List.set_cons_zero, List.set_cons_succ]
            have kWz := hid (KB.out.trans kz (by simp))
            have hzl := rowLies hzrow
            have hzb2 : ∀ j ∈ blk za, A.heap.size ≤ j := fun j hj => by have := hzb j hj; have := KB.out.size; omega
            have hJz : J ⟨true, W1.heap.size, qsA, jsA, i, some ⟨za, zc, xl⟩⟩ Wz := hT _ _ _ _ h'.out.j ⟨TurnR.ofKp0 kWz.out, fun _ => ⟨rfl, rfl, fun q hq => .inl hq⟩, fun e => (by cases e), fun j hj => .inl hj, rfl, .inr ⟨_, rfl, hR1.out.1, hzl, fun _ => ⟨hzrow, fun j hj => ⟨hzb2 j hj, fun hm => by have := h'.out.jl j hm; have := hzb2 j hj; omega, fun hm => by have := h'.out.ql j hm; have := hzb2 j hj; omega⟩⟩⟩⟩
            obtain ⟨fn, tmps, assign, body, hyl5, hR⟩ := hY _ ⟨za, zc, xl⟩ Wz hJz rfl
            have hR' : RoundIn (Fence.wide.inRound l0) (n - 1 - 1 - 1) Tryd.prog ly fn tmps assign body Wz _ := RoundIn.anyDepthJ (F := Fence.wide.inRound l0) rfl hR
            have hgo : Hid (∀ A3, KeepR ⟨true, W1.heap.size, qsA, jsA, i, some ⟨za, zc, xl⟩⟩ Wz A3 → KeepR s A A3 ∧ KeepsFrom W1.heap.size A A3 ∧ KeepB Mj A A3) := fun A3 hk3 => h'.out.keepR (s := ⟨true, W1.heap.size, qsA, jsA, i, some ⟨za, zc, xl⟩⟩) rfl rfl (fun j hj => hj) (KeepR.trans ⟨KeepB.ofKp kWz.out (by simp), fun _ j o _ ho _ => (kWz.out.block j (Array.getElem?_eq_some_iff.1 ho).1 (by simp)).trans ho⟩ hk3)
            have hyl6 := hyl5
            simp only [encR] at hyl6
            clear hR hJz hzl hzrow kz hzb hzb2 hyl5 cCt
            refine wpAnyIn_ready (rs := [7]) (by kernel_rfl) (by simp) ?_
            refine AllReadyIn.cons rfl (fun K hK => ?_) AllReadyIn.nil
            go_simp
            refine ⟨fun h => (by cases h), hR'.mono ?_⟩
            rintro e A3 (⟨rfl, hJ3, hk3⟩ | ⟨rfl, hJ3, hk3⟩)
            · have HG := hid (hgo.out A3 hk3)
              have hJ4 : Hid (J ⟨true, W1.heap.size, qsA, jsA, i + 1, none⟩ A3) := hJ3
              clear hgo hR' hyl6 hJ3 hk3
              refine hK _ _ ?_
              clear hK K
              try simp only [Act.put, List.getElem_toArray, List.getElem_cons_zero, List.getElem_cons_succ, List.setIfInBounds_toArray, List.set_cons_zero, List.set_cons_succ]
              refine wpAnyIn_ready (rs := [8]) (by kernel_rfl) (by simp) ?_
              refine AllReadyIn.cons rfl (fun K hK => ?_) AllReadyIn.nil
              go_simp
              refine hK _ _ ?_
              clear hK K
              try simp only [Act.put, List.getElem_toArray, List.getElem_cons_zero, List.getElem_cons_succ, List.setIfInBounds_toArray, List.set_cons_zero, List.set_cons_succ]
              refine wpAnyIn_ready (rs := [9]) (by kernel_rfl) (by simp) ?_
              refine AllReadyIn.cons rfl (fun K hK => ?_) AllReadyIn.nil
              go_simp
              refine hK _ _ ?_
              clear hK K
              try simp only [Act.put, List.getElem_toArray, List.getElem_cons_zero, List.getElem_cons_succ, List.setIfInBounds_toArray, List.set_cons_zero, List.set_cons_succ]
              refine wpAnyIn_done (by kernel_rfl) ?_ _
              gi_wp2_with fail
              refine ⟨HG.out.2.1, HG.out.1, jsA, qsA, i + 1, hJ4.out, h'.out.sub, h'.out.mj, h'.out.qsub, HMS.out _ _ h'.out.m (ckOfKeepB HG.out.2.2), hR1.out.2.1, hR1.out.2.2, Nat.le_trans h'.out.size HG.out.2.1.size, h'.out.mde, h'.out.lj, fun x hx => (by cases hx), fun j hj => Nat.lt_of_lt_of_le (h'.out.jl j hj) HG.out.2.1.size, fun q hq => Nat.lt_of_lt_of_le (h'.out.ql q hq) HG.out.2.1.size⟩
            · have HG := hid (hgo.out A3 hk3)
              have hJ4 := hid hJ3
              clear hgo hR' hyl6 hJ3 hk3
              refine hK _ _ ?_
              clear hK K
              try simp only [Act.put, List.getElem_toArray, List.getElem_cons_zero, List.getElem_cons_succ, List.setIfInBounds_toArray, List.set_cons_zero, List.set_cons_succ]
              refine wpAnyIn_ready (rs := [8]) (by kernel_rfl) (by simp) ?_
              refine AllReadyIn.cons rfl (fun K hK => ?_) AllReadyIn.nil
              go_simp
              refine hK _ _ ?_
              clear hK K
              try simp only [Act.put, List.getElem_toArray, List.getElem_cons_zero, List.getElem_cons_succ, List.setIfInBounds_toArray, List.set_cons_zero, List.set_cons_succ]
              refine wpAnyIn_ready (rs := [9]) (by kernel_rfl) (by simp) ?_
              refine AllReadyIn.cons rfl (fun K hK => ?_) AllReadyIn.nil
              go_simp
              refine hK _ _ ?_
              clear hK K
              try simp only [Act.put, List.getElem_toArray, List.getElem_cons_zero, List.getElem_cons_succ, List.setIfInBounds_toArray, List.set_cons_zero, List.set_cons_succ]
              refine wpAnyIn_done (by kernel_rfl) ?_ _
              gi_wp2_with fail
              refine ⟨HG.out.2.1, HG.out.1, rfl, Sr.nx ⟨true, W1.heap.size, qsA, jsA, i, some ⟨za, zc, xl⟩⟩ ⟨za, zc, xl⟩, rfl, rfl, h'.out.qsub, h'.out.mde, h'.out.lj, hJ4.out⟩
          · go_simp
            refine ⟨trivial, fun h => (by cases h), (CallsIn.inRound l0 (callsIn_wide.2 cCt.out)).mono ?_⟩
            rintro e Wz ⟨za, zc, rfl, hzrow, kz, hzb⟩
            have c3z := kpAt kz c3b
            refine hK _ _ ?_
            clear hK K
            try simp only [Act.put, List.getElem_toArray, List.getElem_cons_zero, List.getElem_cons_succ, List.setIfInBounds_toArray, List.set_cons_zero, List.set_cons_succ]
            refine wpAnyIn_ready (rs := [4]) (by kernel_rfl) (by simp) ?_
            refine AllReadyIn.cons rfl (fun K hK => ?_) AllReadyIn.nil
            go_simp
            refine hK _ _ ?_
            clear hK K
            try simp only [Act.put, List.getElem_toArray, List.getElem_cons_zero, List.getElem_cons_succ, List.setIfInBounds_toArray, List.set_cons_zero, List.set_cons_succ]
            have kWz := hid (KB.out.trans kz (by simp))
            have hzl := rowLies hzrow
            have hzb2 : ∀ j ∈ blk za, A.heap.size ≤ j := fun j hj => by have := hzb j hj; have := KB.out.size; omega
            have hJz : J ⟨true, W1.heap.size, qsA, jsA, i, some ⟨za, zc, xl⟩⟩ Wz := hT _ _ _ _ h'.out.j ⟨TurnR.ofKp0 kWz.out, fun _ => ⟨rfl, rfl, fun q hq => .inl hq⟩, fun e => (by cases e), fun j hj => .inl hj, rfl, .inr ⟨_, rfl, hR1.out.1, hzl, fun _ => ⟨hzrow, fun j hj => ⟨hzb2 j hj, fun hm => by have := h'.out.jl j hm; have := hzb2 j hj; omega, fun hm => by have := h'.out.ql j hm; have := hzb2 j hj; omega⟩⟩⟩⟩
            obtain ⟨fn, tmps, assign, body, hyl5, hR⟩ := hY _ ⟨za, zc, xl⟩ Wz hJz rfl
            have hR' : RoundIn (Fence.wide.inRound l0) (n - 1 - 1 - 1) Tryd.prog ly fn tmps assign body Wz _ := RoundIn.anyDepthJ (F := Fence.wide.inRound l0) rfl hR
            have hgo : Hid (∀ A3, KeepR ⟨true, W1.heap.size, qsA, jsA, i, some ⟨za, zc, xl⟩⟩ Wz A3 → KeepR s A A3 ∧ KeepsFrom W1.heap.size A A3 ∧ KeepB Mj A A3) := fun A3 hk3 => h'.out.keepR (s := ⟨true, W1.heap.size, qsA, jsA, i, some ⟨za, zc, xl⟩⟩) rfl rfl (fun j hj => hj) (KeepR.trans ⟨KeepB.ofKp kWz.out (by simp), fun _ j o _ ho _ => (kWz.out.block j (Array.getElem?_eq_some_iff.1 ho).1 (by simp)).trans ho⟩ hk3)
            have hyl6 := hyl5
            simp only [encR] at hyl6
            clear hR hJz hzl hzrow kz hzb hzb2 hyl5 cCt
            refine wpAnyIn_ready (rs := [7]) (by kernel_rfl) (by simp) ?_
            refine AllReadyIn.cons rfl (fun K hK => ?_) AllReadyIn.nil
            go_simp
            refine ⟨fun h => (by cases h), hR'.mono ?_⟩
            rintro e A3 (⟨rfl, hJ3, hk3⟩ | ⟨rfl, hJ3, hk3⟩)
            · have HG := hid (hgo.out A3 hk3)
              have hJ4 : Hid (J ⟨true, W1.heap.size, qsA, jsA, i + 1, none⟩ A3) := hJ3
              clear hgo hR' hyl6 hJ3 hk3
              refine hK _ _ ?_
              clear hK K
              try simp only [Act.put, List.getElem_toArray, List.getElem_cons_zero, List.getElem_cons_succ, List.setIfInBounds_toArray, List.set_cons_zero, List.set_cons_succ]
              refine wpAnyIn_ready (rs := [8]) (by kernel_rfl) (by simp) ?_
              refine AllReadyIn.cons rfl (fun K hK => ?_) AllReadyIn.nil
              go_simp
              refine hK _ _ ?_
              clear hK K
              try simp only [Act.put, List.getElem_toArray, List.getElem_cons_zero, List.getElem_cons_succ, List.setIfInBounds_toArray, List.set_cons_zero, List.set_cons_succ]
              refine wpAnyIn_ready (rs := [9]) (by kernel_rfl) (by simp) ?_
              refine AllReadyIn.cons rfl (fun K hK => ?_) AllReadyIn.nil
              go_simp
              refine hK _ _ ?_
              clear hK K
              try simp only [Act.put, List.getElem_toArray, List.getElem_cons_zero, List.getElem_cons_succ, List.setIfInBounds_toArray, List.set_cons_zero, List.set_cons_succ]
              refine wpAnyIn_done (by kernel_rfl) ?_ _
              gi_wp2_with fail
              refine ⟨HG.out.2.1, HG.out.1, jsA, qsA, i + 1, hJ4.out, h'.out.sub, h'.out.mj, h'.out.qsub, HMS.out _ _ h'.out.m (ckOfKeepB HG.out.2.2), hR1.out.2.1, hR1.out.2.2, Nat.le_trans h'.out.size HG.out.2.1.size, h'.out.mde, h'.out.lj, fun x hx => (by cases hx), fun j hj => Nat.lt_of_lt_of_le (h'.out.jl j hj) HG.out.2.1.size, fun q hq => Nat.lt_of_lt_of_le (h'.out.ql q hq) HG.out.2.1.size⟩
            · have HG := hid (hgo.out A3 hk3)
              have hJ4 := hid hJ3
              clear hgo hR' hyl6 hJ3 hk3
              refine hK _ _ ?_
              clear hK K
              try simp only [Act.put, List.getElem_toArray, List.getElem_cons_zero, List.getElem_cons_succ, List.setIfInBounds_toArray, List.set_cons_zero, List.set_cons_succ]
              refine wpAnyIn_ready (rs := [8]) (by kernel_rfl) (by simp) ?_
              refine AllReadyIn.cons rfl (fun K hK => ?_) AllReadyIn.nil
              go_simp
              refine hK _ _ ?_
              clear hK K
              try simp only [Act.put, List.getElem_toArray, List.getElem_cons_zero, List.getElem_cons_succ, List.setIfInBounds_toArray, List.set_cons_zero, List.set_cons_succ]
              refine wpAnyIn_ready (rs := [9]) (by kernel_rfl) (by simp) ?_
              refine AllReadyIn.cons rfl (fun K hK => ?_) AllReadyIn.nil
              go_simp
              refine hK _ _ ?_
              clear hK K
              try simp only [Act.put, List.getElem_toArray, List.getElem_cons_zero, List.getElem_cons_succ, List.setIfInBounds_toArray, List.set_cons_zero, List.set_cons_succ]
              refine wpAnyIn_done (by kernel_rfl) ?_ _
              gi_wp2_with fail
              refine ⟨HG.out.2.1, HG.out.1, rfl, Sr.nx ⟨true, W1.heap.size, qsA, jsA, i, some ⟨za, zc, xl⟩⟩ ⟨za, zc, xl⟩, rfl, rfl, h'.out.qsub, h'.out.mde, h'.out.lj, hJ4.out⟩
      · go_simp
        refine hK _ _ ?_
        clear hK K
        try simp only [Act.put, List.getElem_toArray, List.getElem_cons_zero, List.getElem_cons_succ, List.setIfInBounds_toArray, List.set_cons_zero, List.set_cons_succ]
        refine wpAnyIn_ready (rs := [0]) (by kernel_rfl) (by simp) ?_
        refine AllReadyIn.cons rfl (fun K hK => ?_) AllReadyIn.nil
        go_simp
        refine hK _ _ ?_
        clear hK K
        try simp only [Act.put, List.getElem_toArray, List.getElem_cons_zero, List.getElem_cons_succ, List.setIfInBounds_toArray, List.set_cons_zero, List.set_cons_succ]
        refine wpAnyIn_ready (rs := [2]) (by kernel_rfl) (by simp) ?_
        refine AllReadyIn.cons rfl (fun K hK => ?_) AllReadyIn.nil
        go_simp
        refine ⟨trivial, fun h => (by cases h), (CallsIn.inRound l0 (callsIn_wide.2 cAl.out)).mono ?_⟩
        rintro e we ⟨rfl, ke⟩
        have KB := hid (KB.out.trans ke (by simp))
        have c3b := kpAt ke c3b
        have cCt := hid (cCp.out we KB.out)
        clear ke
        refine hK _ _ ?_
        clear hK K
        try simp only [Act.put, List.getElem_toArray, List.getElem_cons_zero, List.getElem_cons_succ, List.setIfInBounds_toArray, List.set_cons_zero, List.set_cons_succ]
        refine wpAnyIn_ready (rs := [3]) (by kernel_rfl) (by simp) ?_
        refine AllReadyIn.cons rfl (fun K hK => ?_) AllReadyIn.nil
        go_simp
        refine hK _ _ ?_
        clear hK K
        try simp only [Act.put, List.getElem_toArray, List.getElem_cons_zero, List.getElem_cons_succ, List.setIfInBounds_toArray, List.set_cons_zero, List.set_cons_succ]
        refine wpAnyIn_ready (rs := [4, 5]) (by kernel_rfl) (by simp) ?_
        refine AllReadyIn.cons rfl (fun K hK => ?_) (AllReadyIn.cons rfl (fun K hK => ?_) AllReadyIn.nil)
        · go_simp
          refine hK _ _ ?_
          clear hK K
          try simp only [Act.put, List.getElem_toArray, List.getElem_cons_zero, List.getElem_cons_succ, List.setIfInBounds_toArray, List.set_cons_zero, List.set_cons_succ]
          refine wpAnyIn_ready (rs := [5]) (by kernel_rfl) (by simp) ?_
          refine AllReadyIn.cons rfl (fun K hK => ?_) AllReadyIn.nil
          go_simp
          refine hK _ _ ?_
          clear hK K
          try simp only [Act.put, List.getElem_toArray, List.getElem_cons_zero, List.getElem_cons_succ, List.setIfInBounds_toArray, List.set_cons_zero, List.set_cons_succ]
          refine wpAnyIn_ready (rs := [6]) (by kernel_rfl) (by simp) ?_
          refine AllReadyIn.cons rfl (fun K hK => ?_) AllReadyIn.nil
          go_simp
          refine ⟨trivial, fun h => (by cases h), (CallsIn.inRound l0 (callsIn_wide.2 cCt.out)).mono ?_⟩
          rintro e Wz ⟨za, zc, rfl, hzrow, kz, hzb⟩
          have c3z := kpAt kz c3b
          refine hK _ _ ?_
          clear hK K
          try simp only [Act.put, List.getElem_toArray, List.getElem_cons_zero, List.getElem_cons_succ, List.setIfInBounds_toArray, List.set_cons_zero, List.set_cons_succ]
          have kWz := hid (KB.out.trans kz (by simp))
          have hzl := rowLies hzrow
          have hzb2 : ∀ j ∈ blk za, A.heap.size ≤ j := fun j hj => by have := hzb j hj; have := KB.out.size; omega
          have hJz : J ⟨true, W1.heap.size, qsA, jsA, i, some ⟨za, zc, xl⟩⟩ Wz := hT _ _ _ _ h'.out.j ⟨TurnR.ofKp0 kWz.out, fun _ => ⟨rfl, rfl, fun q hq => .inl hq⟩, fun e => (by cases e), fun j hj => .inl hj, rfl, .inr ⟨_, rfl, hR1.out.1, hzl, fun _ => ⟨hzrow, fun j hj => ⟨hzb2 j hj, fun hm => by have := h'.out.jl j hm; have := hzb2 j hj; omega, fun hm => by have := h'.out.ql j hm; have := hzb2 j hj; omega⟩⟩⟩⟩
          obtain ⟨fn, tmps, assign, body, hyl5, hR⟩ := hY _ ⟨za, zc, xl⟩ Wz hJz rfl
          have hR' : RoundIn (Fence.wide.inRound l0) (n - 1 - 1 - 1) Tryd.prog ly fn tmps assign body Wz _ := RoundIn.anyDepthJ (F := Fence.wide.inRound l0) rfl hR
          have hgo : Hid (∀ A3, KeepR ⟨true, W1.heap.size, qsA, jsA, i, some ⟨za, zc, xl⟩⟩ Wz A3 → KeepR s A A3 ∧ KeepsFrom W1.heap.size A A3 ∧ KeepB Mj A A3) := fun A3 hk3 => h'.out.keepR (s := ⟨true, W1.heap.size, qsA, jsA, i, some ⟨za, zc, xl⟩⟩) rfl rfl (fun j hj => hj) (KeepR.trans ⟨KeepB.ofKp kWz.out (by simp), fun _ j o _ ho _ => (kWz.out.block j (Array.getElem?_eq_some_iff.1 ho).1 (by simp)).trans ho⟩ hk3)
          have hyl6 := hyl5
          simp only [encR] at hyl6
          clear hR hJz hzl hzrow kz hzb hzb2 hyl5 cCt
          refine wpAnyIn_ready (rs := [7]) (by kernel_rfl) (by simp) ?_
          refine AllReadyIn.cons rfl (fun K hK => ?_) AllReadyIn.nil
          go_simp
          refine ⟨fun h => (by cases h), hR'.mono ?_⟩
          rintro e A3 (⟨rfl, hJ3, hk3⟩ | ⟨rfl, hJ3, hk3⟩)
          · have HG := hid (hgo.out A3 hk3)
            have hJ4 : Hid (J ⟨true, W1.heap.size, qsA, jsA, i + 1, none⟩ A3) := hJ3
            clear hgo hR' hyl6 hJ3 hk3
            refine hK _ _ ?_
            clear hK K
            try simp only [Act.put, List.getElem_toArray, List.getElem_cons_zero, List.getElem_cons_succ, List.setIfInBounds_toArray, List.set_cons_zero, List.set_cons_succ]
            refine wpAnyIn_ready (rs := [8]) (by kernel_rfl) (by simp) ?_
            refine AllReadyIn.cons rfl (fun K hK => ?_) AllReadyIn.nil
            go_simp
            refine hK _ _ ?_
            clear hK K
            try simp only [Act.put, List.getElem_toArray, List.getElem_cons_zero, List.getElem_cons_succ, List.setIfInBounds_toArray, List.set_cons_zero, List.set_cons_succ]
            refine wpAnyIn_ready (rs := [9]) (by kernel_rfl) (by simp) ?_
            refine AllReadyIn.cons rfl (fun K hK => ?_) AllReadyIn.nil
            go_simp
            refine hK _ _ ?_
            clear hK K
            try simp only [Act.put, List.getElem_toArray, List.getElem_cons_zero, List.getElem_cons_succ, List.setIfInBounds_toArray, List.set_cons_zero, List.set_cons_succ]
            refine wpAnyIn_done (by kernel_rfl) ?_ _
            gi_wp2_with fail
            refine ⟨HG.out.2.1, HG.out.1, jsA, qsA, i + 1, hJ4.out, h'.out.sub, h'.out.mj, h'.out.qsub, HMS.out _ _ h'.out.m (ckOfKeepB HG.out.2.2), hR1.out.2.1, hR1.out.2.2, Nat.le_trans h'.out.size HG.out.2.1.size, h'.out.mde, h'.out.lj, fun x hx => (by cases hx), fun j hj => Nat.lt_of_lt_of_le (h'.out.jl j hj) HG.out.2.1.size, fun q hq => Nat.lt_of_lt_of_le (h'.out.ql q hq) HG.out.2.1.size⟩
          · have HG := hid (hgo.out A3 hk3)
            have hJ4 := hid hJ3
            clear hgo hR' hyl6 hJ3 hk3
            refine hK _ _ ?_
            clear hK K
            try simp only [Act.put, List.getElem_toArray, List.getElem_cons_zero, List.getElem_cons_succ, List.setIfInBounds_toArray, List.set_cons_zero, List.set_cons_succ]
            refine wpAnyIn_ready (rs := [8]) (by kernel_rfl) (by simp) ?_
            refine AllReadyIn.cons rfl (fun K hK => ?_) AllReadyIn.nil
            go_simp
            refine hK _ _ ?_
            clear hK K
            try simp only [Act.put, List.getElem_toArray, List.getElem_cons_zero, List.getElem_cons_succ, List.setIfInBounds_toArray, List.set_cons_zero, List.set_cons_succ]
            refine wpAnyIn_ready (rs := [9]) (by kernel_rfl) (by simp) ?_
            refine AllReadyIn.cons rfl (fun K hK => ?_) AllReadyIn.nil
            go_simp
            refine hK _ _ ?_
            clear hK K
            try simp only [Act.put, List.getElem_toArray, List.getElem_cons_zero, List.getElem_cons_succ, List.setIfInBounds_toArray, List.set_cons_zero, List.set_cons_succ]
            refine wpAnyIn_done (by kernel_rfl) ?_ _
            gi_wp2_with fail
            refine ⟨HG.out.2.1, HG.out.1, rfl, Sr.nx ⟨true, W1.heap.size, qsA, jsA, i, some ⟨za, zc, xl⟩⟩ ⟨za, zc, xl⟩, rfl, rfl, h'.out.qsub, h'.out.mde, h'.out.lj, hJ4.out⟩
        · go_simp
          refine hK _ _ ?_
          clear hK K
          try simp only [Act.put, List.getElem_toArray, List.getElem_cons_zero, List.getElem_cons_succ, List.setIfInBounds_toArray, List.set_cons_zero, List.set_cons_succ]
          refine wpAnyIn_ready (rs := [4, 6]) (by kernel_rfl) (by simp) ?_
          refine AllReadyIn.cons rfl (fun K hK => ?_) (AllReadyIn.cons rfl (fun K hK => ?_) AllReadyIn.nil)
          · go_simp
            refine hK _ _ ?_
            clear hK K
            try simp only [Act.put, List.getElem_toArray, List.getElem_cons_zero, List.getElem_cons_succ, List.setIfInBounds_toArray, List.set_cons_zero, List.set_cons_succ]
            refine wpAnyIn_ready (rs := [6]) (by kernel_rfl) (by simp) ?_
            refine AllReadyIn.cons rfl (fun K hK => ?_) AllReadyIn.nil
            go_simp
            refine ⟨trivial, fun h => (by cases h), (CallsIn.inRound l0 (callsIn_wide.2 cCt.out)).mono ?_⟩
            rintro e Wz ⟨za, zc, rfl, hzrow, kz, hzb⟩
            have c3z := kpAt kz c3b
            refine hK _ _ ?_
            clear hK K
            try simp only [Act.put, List.getElem_toArray, List.getElem_cons_zero, List.getElem_cons_succ, List.setIfInBounds_toArray, List.set_cons_zero, List.set_cons_succ]
            have kWz := hid (KB.out.trans kz (by simp))
            have hzl := rowLies hzrow
            have hzb2 : ∀ j ∈ blk za, A.heap.size ≤ j := fun j hj => by have := hzb j hj; have := KB.out.size; omega
            have hJz : J ⟨true, W1.heap.size, qsA, jsA, i, some ⟨za, zc, xl⟩⟩ Wz := hT _ _ _ _ h'.out.j ⟨TurnR.ofKp0 kWz.out, fun _ => ⟨rfl, rfl, fun q hq => .inl hq⟩, fun e => (by cases e), fun j hj => .inl hj, rfl, .inr ⟨_, rfl, hR1.out.1, hzl, fun _ => ⟨hzrow, fun j hj => ⟨hzb2 j hj, fun hm => by have := h'.out.jl j hm; have := hzb2 j hj; omega, fun hm => by have := h'.out.ql j hm; have := hzb2 j hj; omega⟩⟩⟩⟩
            obtain ⟨fn, tmps, assign, body, hyl5, hR⟩ := hY _ ⟨za, zc, xl⟩ Wz hJz rfl
            have hR' : RoundIn (Fence.wide.inRound l0) (n - 1 - 1 - 1) Tryd.prog ly fn tmps assign body Wz _ := RoundIn.anyDepthJ (F := Fence.wide.inRound l0) rfl hR
            have hgo : Hid (∀ A3, KeepR ⟨true, W1.heap.size, qsA, jsA, i, some ⟨za, zc, xl⟩⟩ Wz A3 → KeepR s A A3 ∧ KeepsFrom W1.heap.size A A3 ∧ KeepB Mj A A3) := fun A3 hk3 => h'.out.keepR (s := ⟨true, W1.heap.size, qsA, jsA, i, some ⟨za, zc, xl⟩⟩) rfl rfl (fun j hj => hj) (KeepR.trans ⟨KeepB.ofKp kWz.out (by simp), fun _ j o _ ho _ => (kWz.out.block j (Array.getElem?_eq_some_iff.1 ho).1 (by simp)).trans ho⟩ hk3)
            have hyl6 := hyl5
            simp only [encR] at hyl6
            clear hR hJz hzl hzrow kz hzb hzb2 hyl5 cCt
            refine wpAnyIn_ready (rs := [7]) (by kernel_rfl) (by simp) ?_
            refine AllReadyIn.cons rfl (fun K hK => ?_) AllReadyIn.nil
            go_simp
            refine ⟨fun h => (by cases h), hR'.mono ?_⟩
            rintro e A3 (⟨rfl, hJ3, hk3⟩ | ⟨rfl, hJ3, hk3⟩)
            · have HG := hid (hgo.out A3 hk3)
              have hJ4 : Hid (J ⟨true, W1.heap.size, qsA, jsA, i + 1, none⟩ A3) := hJ3
              clear hgo hR' hyl6 hJ3 hk3
              refine hK _ _ ?_
              clear hK K
              try simp only [Act.put, List.getElem_toArray, List.getElem_cons_zero, List.getElem_cons_succ, List.setIfInBounds_toArray, List.set_cons_zero, List.set_cons_succ]
              refine wpAnyIn_ready (rs := [8]) (by kernel_rfl) (by simp) ?_
              refine AllReadyIn.cons rfl (fun K hK => ?_) AllReadyIn.nil
              go_simp
              refine hK _ _ ?_
              clear hK K
              try simp only [Act.put, List.getElem_toArray, List.getElem_cons_zero, List.getElem_cons_succ, List.setIfInBounds_toArray, List.set_cons_zero, List.set_cons_succ]
              refine wpAnyIn_ready (rs := [9]) (by kernel_rfl) (by simp) ?_
              refine AllReadyIn.cons rfl (fun K hK => ?_) AllReadyIn.nil
              go_simp
              refine hK _ _ ?_
              clear hK K
              try simp only [Act.put, List.getElem_toArray, List.getElem_cons_zero, List.getElem_cons_succ, List.setIfInBounds_toArray, List.set_cons_zero, List.set_cons_succ]
              refine wpAnyIn_done (by kernel_rfl) ?_ _
              gi_wp2_with fail
              refine ⟨HG.out.2.1, HG.out.1, jsA, qsA, i + 1, hJ4.out, h'.out.sub, h'.out.mj, h'.out.qsub, HMS.out _ _ h'.out.m (ckOfKeepB HG.out.2.2), hR1.out.2.1, hR1.out.2.2, Nat.le_trans h'.out.size HG.out.2.1.size, h'.out.mde, h'.out.lj, fun x hx => (by cases hx), fun j hj => Nat.lt_of_lt_of_le (h'.out.jl j hj) HG.out.2.1.size, fun q hq => Nat.lt_of_lt_of_le (h'.out.ql q hq) HG.out.2.1.size⟩
            · have HG := hid (hgo.out A3 hk3)
              have hJ4 := hid hJ3
              clear hgo hR' hyl6 hJ3 hk3
              refine hK _ _ ?_
              clear hK K
              try simp only [Act.put, List.getElem_toArray, List.getElem_cons_zero, List.getElem_cons_succ, List.setIfInBounds_toArray, List.set_cons_zero, List.set_cons_succ]
              refine wpAnyIn_ready (rs := [8]) (by kernel_rfl) (by simp) ?_
              refine AllReadyIn.cons rfl (fun K hK => ?_) AllReadyIn.nil
              go_simp
              refine hK _ _ ?_
              clear hK K
              try simp only [Act.put, List.getElem_toArray, List.getElem_cons_zero, List.getElem_cons_succ, List.setIfInBounds_toArray, List.set_cons_zero, List.set_cons_succ]
              refine wpAnyIn_ready (rs := [9]) (by kernel_rfl) (by simp) ?_
              refine AllReadyIn.cons rfl (fun K hK => ?_) AllReadyIn.nil
              go_simp
              refine hK _ _ ?_
              clear hK K
              try simp only [Act.put, List.getElem_toArray, List.getElem_cons_zero, List.getElem_cons_succ, List.setIfInBounds_toArray, List.set_cons_zero, List.set_cons_succ]
              refine wpAnyIn_done (by kernel_rfl) ?_ _
              gi_wp2_with fail
              refine ⟨HG.out.2.1, HG.out.1, rfl, Sr.nx ⟨true, W1.heap.size, qsA, jsA, i, some ⟨za, zc, xl⟩⟩ ⟨za, zc, xl⟩, rfl, rfl, h'.out.qsub, h'.out.mde, h'.out.lj, hJ4.out⟩
          · go_simp
            refine ⟨trivial, fun h => (by cases h), (CallsIn.inRound l0 (callsIn_wide.2 cCt.out)).mono ?_⟩
            rintro e Wz ⟨za, zc, rfl, hzrow, kz, hzb⟩
            have c3z := kpAt kz c3b
            refine hK _ _ ?_
            clear hK K
            try simp only [Act.put, List.getElem_toArray, List.getElem_cons_zero, List.getElem_cons_succ, List.setIfInBounds_toArray, List.set_cons_zero, List.set_cons_succ]
            refine wpAnyIn_ready (rs := [4]) (by kernel_rfl) (by simp) ?_
            refine AllReadyIn.cons rfl (fun K hK => ?_) AllReadyIn.nil
            go_simp
            refine hK _ _ ?_
            clear hK K
            try simp only [Act.put, List.getElem_toArray, List.getElem_cons_zero, List.getElem_cons_succ, List.setIfInBounds_toArray, List.set_cons_zero, List.set_cons_succ]
            have kWz := hid (KB.out.trans kz (by simp))
            have hzl := rowLies hzrow
            have hzb2 : ∀ j ∈ blk za, A.heap.size ≤ j := fun j hj => by have := hzb j hj; have := KB.out.size; omega
            have hJz : J ⟨true, W1.heap.size, qsA, jsA, i, some ⟨za, zc, xl⟩⟩ Wz := hT _ _ _ _ h'.out.j ⟨TurnR.ofKp0 kWz.out, fun _ => ⟨rfl, rfl, fun q hq => .inl hq⟩, fun e => (by cases e), fun j hj => .inl hj, rfl, .inr ⟨_, rfl, hR1.out.1, hzl, fun _ => ⟨hzrow, fun j hj => ⟨hzb2 j hj, fun hm => by have := h'.out.jl j hm; have := hzb2 j hj; omega, fun hm => by have := h'.out.ql j hm; have := hzb2 j hj; omega⟩⟩⟩⟩
            obtain ⟨fn, tmps, assign, body, hyl5, hR⟩ := hY _ ⟨za, zc, xl⟩ Wz hJz rfl
            have hR' : RoundIn (Fence.wide.inRound l0) (n - 1 - 1 - 1) Tryd.prog ly fn tmps assign body Wz _ := RoundIn.anyDepthJ (F := Fence.wide.inRound l0) rfl hR
            have hgo : Hid (∀ A3, KeepR ⟨true, W1.heap.size, qsA, jsA, i, some ⟨za, zc, xl⟩⟩ Wz A3 → KeepR s A A3 ∧ KeepsFrom W1.heap.size A A3 ∧ KeepB Mj A A3) := fun A3 hk3 => h'.out.keepR (s := ⟨true, W1.heap.size, qsA, jsA, i, some ⟨za, zc, xl⟩⟩) rfl rfl (fun j hj => hj) (KeepR.trans ⟨KeepB.ofKp kWz.out (by simp), fun _ j o _ ho _ => (kWz.out.block j (Array.getElem?_eq_some_iff.1 ho).1 (by simp)).trans ho⟩ hk3)
            have hyl6 := hyl5
            simp only [encR] at hyl6
            clear hR hJz hzl hzrow kz hzb hzb2 hyl5 cCt
            refine wpAnyIn_ready (rs := [7]) (by kernel_rfl) (by simp) ?_
            refine AllReadyIn.cons rfl (fun K hK => ?_) AllReadyIn.nil
            go_simp
            refine ⟨fun h => (by cases h), hR'.mono ?_⟩
            rintro e A3 (⟨rfl, hJ3, hk3⟩ | ⟨rfl, hJ3, hk3⟩)
            · have HG := hid (hgo.out A3 hk3)
              have hJ4 : Hid (J ⟨true, W1.heap.size, qsA, jsA, i + 1, none⟩ A3) := hJ3
              clear hgo hR' hyl6 hJ3 hk3
              refine hK _ _ ?_
              clear hK K
              try simp only [Act.put, List.getElem_toArray, List.getElem_cons_zero, List.getElem_cons_succ, List.setIfInBounds_toArray, List.set_cons_zero, List.set_cons_succ]
              refine wpAnyIn_ready (rs := [8]) (by kernel_rfl) (by simp) ?_
              refine AllReadyIn.cons rfl (fun K hK => ?_) AllReadyIn.nil
              go_simp
              refine hK _ _ ?_
              clear hK K
              try simp only [Act.put, List.getElem_toArray, List.getElem_cons_zero, List.getElem_cons_succ, List.setIfInBounds_toArray, List.set_cons_zero, List.set_cons_succ]
              refine wpAnyIn_ready (rs := [9]) (by kernel_rfl) (by simp) ?_
              refine AllReadyIn.cons rfl (fun K hK => ?_) AllReadyIn.nil
              go_simp
              refine hK _ _ ?_
              clear hK K
              try simp only [Act.put, List.getElem_toArray, List.getElem_cons_zero, List.getElem_cons_succ, List.setIfInBounds_toArray, List.set_cons_zero, List.set_cons_succ]
              refine wpAnyIn_done (by kernel_rfl) ?_ _
              gi_wp2_with fail
              refine ⟨HG.out.2.1, HG.out.1, jsA, qsA, i + 1, hJ4.out, h'.out.sub, h'.out.mj, h'.out.qsub, HMS.out _ _ h'.out.m (ckOfKeepB HG.out.2.2), hR1.out.2.1, hR1.out.2.2, Nat.le_trans h'.out.size HG.out.2.1.size, h'.out.mde, h'.out.lj, fun x hx => (by cases hx), fun j hj => Nat.lt_of_lt_of_le (h'.out.jl j hj) HG.out.2.1.size, fun q hq => Nat.lt_of_lt_of_le (h'.out.ql q hq) HG.out.2.1.size⟩
            · have HG := hid (hgo.out A3 hk3)
              have hJ4 := hid hJ3
              clear hgo hR' hyl6 hJ3 hk3
              refine hK _ _ ?_
              clear hK K
              try simp only [Act.put, List.getElem_toArray, List.getElem_cons_zero, List.getElem_cons_succ, List.setIfInBounds_toArray, List.set_cons_zero, List.set_cons_succ]
              refine wpAnyIn_ready (rs := [8]) (by kernel_rfl) (by simp) ?_
              refine AllReadyIn.cons rfl (fun K hK => ?_) AllReadyIn.nil
              go_simp
              refine hK _ _ ?_
              clear hK K
              try simp only [Act.put, List.getElem_toArray, List.getElem_cons_zero, List.getElem_cons_succ, List.setIfInBounds_toArray, List.set_cons_zero, List.set_cons_succ]
              refine wpAnyIn_ready (rs := [9]) (by kernel_rfl) (by simp) ?_
              refine AllReadyIn.cons rfl (fun K hK => ?_) AllReadyIn.nil
              go_simp
              refine hK _ _ ?_
              clear hK K
              try simp only [Act.put, List.getElem_toArray, List.getElem_cons_zero, List.getElem_cons_succ, List.setIfInBounds_toArray, List.set_cons_zero, List.set_cons_succ]
              refine wpAnyIn_done (by kernel_rfl) ?_ _
              gi_wp2_with fail
              refine ⟨HG.out.2.1, HG.out.1, rfl, Sr.nx ⟨true, W1.heap.size, qsA, jsA, i, some ⟨za, zc, xl⟩⟩ ⟨za, zc, xl⟩, rfl, rfl, h'.out.qsub, h'.out.mde, h'.out.lj, hJ4.out⟩
    · have hall' : allT ts xl = false := by simpa using hall
      have hr0 : Hid (RJ.drop i = (RL.drop (s.i + 1)).flatMap f) := by show _ = _; rw [hrel.out, ← hf.out, filtF, hall']; rfl
      refine region_round (fun B => B.cell? ⟨q2, 0, none⟩ = some (.slice ta ts.length tc)) (by kernel_rfl) (by kernel_rfl) (by rintro ⟨_, _, hlo⟩; exact hlo) (hmK.out _ (Kp.refl [] A).drew).c2 (fun hHeld => ?_)
      have KD : Hid (Kp [] A A.drew) := hid (Kp.refl [] A).drew
      generalize A.drew = wd at *
      have cAl := hid (cAl0.out wd KD.out)
      rw [hall'] at cAl
      refine wpAnyH_take (i := 0) (v := ?_) rfl (by kernel_rfl) (by kernel_rfl) (by kernel_rfl) (fun _ _ _ h => h) (Or.inl ⟨by rfl, ?_⟩) (by assumption) ?_
      rotate_left
      · intro w hSw; (try dsimp only at hSw); go_simp <;> with_reducible rfl
      try simp only [Act.put, List.getElem_toArray, List.getElem_cons_zero, List.getElem_cons_succ, List.setIfInBounds_toArray, List.set_cons_zero, List.set_cons_succ]
      refine wpAnyH_take (i := 1) (v := ?_) rfl (by kernel_rfl) (by kernel_rfl) (by kernel_rfl) (fun _ _ _ h => h) (Or.inl ⟨by rfl, ?_⟩) (by assumption) ?_
      rotate_left
      · intro w hSw; (try dsimp only at hSw); go_simp <;> with_reducible rfl
      try simp only [Act.put, List.getElem_toArray, List.getElem_cons_zero, List.getElem_cons_succ, List.setIfInBounds_toArray, List.set_cons_zero, List.set_cons_succ]
      refine wpAnyH_ready (rs := [2]) (by kernel_rfl) (by simp) ?_
      refine AllReadyH.cons rfl (fun K hK => ?_) AllReadyH.nil
      go_simp
      refine cAl.out.mono ?_
      rintro e we ⟨rfl, ke⟩
      (try go_wp2_with fail)
      refine hK.out _ _ ?_ (fun hHeld => ?_)
      · exact (hmK.out _ (KD.out.trans ke (by simp))).c2
      clear hK K
      try simp only [Act.put, List.getElem_toArray, List.getElem_cons_zero, List.getElem_cons_succ, List.setIfInBounds_toArray, List.set_cons_zero, List.set_cons_succ]
      refine wpAnyH_take (i := 3) (v := ?_) rfl (by kernel_rfl) (by kernel_rfl) (by kernel_rfl) (fun _ _ _ h => h) (Or.inl ⟨by rfl, ?_⟩) (by assumption) ?_
      rotate_left
      · intro w hSw; (try dsimp only at hSw); go_simp <;> with_reducible rfl
      try simp only [Act.put, List.getElem_toArray, List.getElem_cons_zero, List.getElem_cons_succ, List.setIfInBounds_toArray, List.set_cons_zero, List.set_cons_succ]
      refine wpAnyH_take (i := 4) (v := undef) rfl (by kernel_rfl) (by kernel_rfl) (by kernel_rfl) (fun _ _ _ h => h) (Or.inr ⟨by rfl, rfl⟩) (by assumption) ?_
      try simp only [Act.put, List.getElem_toArray, List.getElem_cons_zero, List.getElem_cons_succ, List.setIfInBounds_toArray, List.set_cons_zero, List.set_cons_succ]
      refine wpAnyH_take (i := 5) (v := undef) rfl (by kernel_rfl) (by kernel_rfl) (by kernel_rfl) (fun _ _ _ h => h) (Or.inr ⟨by rfl, rfl⟩) (by assumption) ?_
      try simp only [Act.put, List.getElem_toArray, List.getElem_cons_zero, List.getElem_cons_succ, List.setIfInBounds_toArray, List.set_cons_zero, List.set_cons_succ]
      refine wpAnyH_take (i := 6) (v := undef) rfl (by kernel_rfl) (by kernel_rfl) (by kernel_rfl) (fun _ _ _ h => h) (Or.inr ⟨by rfl, rfl⟩) (by assumption) ?_
      try simp only [Act.put, List.getElem_toArray, List.getElem_cons_zero, List.getElem_cons_succ, List.setIfInBounds_toArray, List.set_cons_zero, List.set_cons_succ]
      refine wpAnyH_take (i := 7) (v := undef) rfl (by kernel_rfl) (by kernel_rfl) (by kernel_rfl) (fun _ _ _ h => h) (Or.inr ⟨by rfl, rfl⟩) (by assumption) ?_
      try simp only [Act.put, List.getElem_toArray, List.getElem_cons_zero, List.getElem_cons_succ, List.setIfInBounds_toArray, List.set_cons_zero, List.set_cons_succ]
      refine wpAnyH_take (i := 8) (v := undef) rfl (by kernel_rfl) (by kernel_rfl) (by kernel_rfl) (fun _ _ _ h => h) (Or.inr ⟨by rfl, rfl⟩) (by assumption) ?_
      try simp only [Act.put, List.getElem_toArray, List.getElem_cons_zero, List.getElem_cons_succ, List.setIfInBounds_toArray, List.set_cons_zero, List.set_cons_succ]
      refine wpAnyH_take (i := 9) (v := ?_) rfl (by kernel_rfl) (by kernel_rfl) (by kernel_rfl) (fun _ _ _ h => h) (Or.inl ⟨by rfl, ?_⟩) (by assumption) ?_
      rotate_left
      · intro w hSw; (try dsimp only at hSw); go_simp <;> with_reducible rfl
      try simp only [Act.put, List.getElem_toArray, List.getElem_cons_zero, List.getElem_cons_succ, List.setIfInBounds_toArray, List.set_cons_zero, List.set_cons_succ]
      refine wpAnyH_done (by kernel_rfl) ?_ _
      have KE := hid (KD.out.trans ke (by simp))
      clear ke hHeld cAl
      gi_wp2_with fail
      obtain ⟨g1, g2, g3⟩ := h'.out.keepR (s := ⟨true, W1.heap.size, qsA, jsA, i, none⟩) rfl rfl (fun j hj => hj) (W' := we) ⟨KeepB.ofKp KE.out (by simp), fun _ j o _ ho _ => (KE.out.block j (Array.getElem?_eq_some_iff.1 ho).1 (by simp)).trans ho⟩
      exact ⟨g2, g1, jsA, qsA, i, hT _ _ _ _ h'.out.j (StepR.same rfl rfl (TurnR.ofKp0 KE.out)), h'.out.sub, h'.out.mj, h'.out.qsub, HMS.out _ _ h'.out.m ((CK.ofKp KE.out).mono (by simp)), hr0.out, h'.out.il, Nat.le_trans h'.out.size KE.out.size, h'.out.mde, h'.out.lj, fun x hx => (by cases hx), fun j hj => Nat.lt_of_lt_of_le (h'.out.jl j hj) KE.out.size, fun q hq => Nat.lt_of_lt_of_le (h'.out.ql q hq) KE.out.size⟩
  case done =>
    rintro D s X hD ⟨hmd, hsi, hsp⟩ ⟨jsA, qsA, i, h⟩ hrec
    have hie : i = RJ.length := by
      have := h.rel
      rw [hsi, List.drop_length, List.flatMap_nil] at this
      have := congrArg List.length this
      rw [List.length_drop, List.length_nil] at this
      have := h.il
      omega
    have hJD := hT _ _ _ _ h.j (StepR.same rfl rfl (TurnR.ofGrown (grownBy_putObj' X D (.deferred none)) (fun r e => by cases e; exact ⟨hD, _, hrec, rfl⟩)))
    gi_wp2_with fail
    refine ⟨by simp, .inl ⟨_, _, rfl, run_takeDeferred hrec, ?_⟩⟩
    exact ⟨_, results_none rfl _ _ _, ⟨_, rfl⟩, .inl ⟨_, ⟨rfl, hie, rfl⟩, hJD⟩⟩
  case stop =>
    rintro D c s X hD hsm ⟨rfl, h⟩ hrec
    obtain ⟨s2, h1, h2, h3, h4, h5, h6⟩ := h
    have hJD := hX _ _ _ h6 ⟨h1, TurnR.ofGrown (grownBy_putObj' X D (.deferred none)) (fun r e => by cases e; exact ⟨by rw [h2]; exact hD, _, hrec, rfl⟩)⟩
    gi_wp2_with fail
    refine ⟨by simp, .inl ⟨_, _, rfl, run_takeDeferred hrec, ?_⟩⟩
    exact ⟨_, results_none rfl _ _ _, ⟨_, rfl⟩, .inr ⟨s2, h1, hJD⟩⟩
end Go.Proofs.YtfolkjjhlcjfgabDoor
end

section
namespace Go.Proofs.YtfolkjjhlcjfgabDoor
open Go.RowKit Go.Hay
attribute [local go_sem] Oper.semAt_some
set_option linter.unusedVariables false
set_option linter.unusedSimpArgs false

theorem infoTY : ∃ i : TypeInfo, Tryd.prog.info? 42 = some i ∧ i.zero = some (.agg #[.int .i64 0, .int .i64 0, .int .i64 0, .bool false, .int .i64 0, .string ⟨#[]⟩]) ∧ i.size = 6 ∧ i.bytes = 56 := by
  have h : (Tryd.prog.info? 42).map (fun i => (i.zero, i.size, i.bytes)) = some (some (.agg #[.int .i64 0, .int .i64 0, .int .i64 0, .bool false, .int .i64 0, .string ⟨#[]⟩]), 6, 56) := by kernel_rfl
  cases e : Tryd.prog.info? 42 with
  | none => rw [e] at h; cases h
  | some i =>
    rw [e] at h
    simp at h
    exact ⟨i, rfl, h.1, h.2.1, h.2.2⟩
theorem eqNilTY (a : Option Addr) (n c : Nat) (w : World) : (binOp .eql 23 (.slice a n c) (.slice none 0 0)).run Tryd.prog w = .ok (.bool a.isNone) w := by
  simp only [binOp]
  simp [run_equal_slice_nil w 23 42 a n c Tryd.underlying23]
/-- A row of its own. -/
def NewTY (l : List (Tm)) (w : World) (e : Ending) (w' : World) : Prop := ∃ a c, e = .returned (.slice a l.length c) ∧ TmE.Row w' (.slice a l.length c) l ∧ Kp [] w w' ∧ ∀ k ∈ blk a, w.heap.size ≤ k
set_option maxHeartbeats 4000000 in
set_option maxRecDepth 100000 in
theorem cCloneTY (a : Option Addr) (c : Nat) (l : List (Tm)) (w : World) (hs : TmE.See w a l) (hn : a = none → c = 0) (hb : l.length ≤ 3600000000000) :
    Calls Tryd.prog 13 #[.slice a l.length c] w (NewTY l w) := by
  cases a with
  | none =>
    have hl : l = [] := by rcases hs with h | ⟨g, o, h, _⟩; exact h; cases h
    subst hl
    rw [hn rfl]
    have e1 := eqNilTY none 0 0
    go_enter Tryd.func13, Tryd.ntmps13
    go_wp2_with fail
    go_ret
    exact ⟨none, 0, rfl, .inl ⟨rfl, rfl⟩, Kp.refl _ _, by simp [blk]⟩
  | some ad =>
    have e0 := eqNilTY (some ad) l.length c
    go_enter Tryd.func13, Tryd.ntmps13
    have k1 : Kp [] w (w.alloc (.cells #[] 42)) := (Kp.refl _ _).alloc _
    have hr := rowNoneY TmE w rfl #[] 42
    have hsr := (hs.keptNew k1).src (P := Tryd.prog) Tryd.underlying23 c
    obtain ⟨i0, hi, hz0, hz1, hz2⟩ := infoTY
    go_wp2_with (first | (refine wpAppG (E := TmE) rfl _ _ 23 23 42 rfl i0 _ 56 Tryd.underlying23 hi hz0 hz1 hz2 rfl _ [] rfl hr _ l rfl hsr (by simp; omega) (by simp; omega) ?_; intro ys a' c' w' hy hrow hg hn) | fail)
    go_ret
    have e : ys = l := by rw [hy.out]; rfl
    subst e
    refine ⟨a', c', rfl, hrow, k1.trans hg (fun k hk => .inr ?_), fun k hk => ?_⟩
    · simp [own, Value.ownBlock, Act.eval] at hk; omega
    · rcases hn k hk with h1 | h1
      · simp [own, Value.ownBlock, Act.eval] at h1; omega
      · exact Nat.le_trans k1.size h1
/-- What Filter hands back: a closure, with what it was given in boxes, and a row of its own. -/
def FiltP (g : Nat) (lb : Array Value) (ts : List (Tm)) (w : World) (e : Ending) (w' : World) : Prop := ∃ (q2 q3 : Nat) (a : Option Addr) (c : Nat), e = .returned (.func (.func 14) #[] #[.pointer (some ⟨q2, 0, none⟩), .pointer (some ⟨q3, 0, none⟩)]) ∧ w'.cell? ⟨q2, 0, none⟩ = some (.func (.func g) #[] lb) ∧ w'.cell? ⟨q3, 0, none⟩ = some (.slice a ts.length c) ∧ TmE.Row w' (.slice a ts.length c) ts ∧ Kp [] w w'
set_option maxHeartbeats 8000000 in
set_option maxRecDepth 100000 in
theorem cFiltE (g : Nat) (lb : Array Value) (ta : Option Addr) (tc : Nat) (ts : List (Tm)) (w : World) (ht : TmE.See w ta ts) (htn : ta = none → tc = 0) (htl : ts.length ≤ 3600000000000) :
    Calls Tryd.prog 5 #[.func (.func g) #[] lb, .slice ta ts.length tc] w (FiltP g lb ts w) := by
  obtain ⟨w1, hw1, k1, b1⟩ : ∃ w1, w.alloc (.cells #[.func (.func g) #[] lb] 27) = w1 ∧ Kp [] w w1 ∧ Bn w1 w.heap.size [.func (.func g) #[] lb] := ⟨_, rfl, (Kp.refl _ _).alloc _, Bn.new w _ _⟩
  obtain ⟨w2, hw2, k2, b2⟩ : ∃ w2, w1.alloc (.cells #[.slice ta ts.length tc] 23) = w2 ∧ Kp [] w1 w2 ∧ Bn w2 w1.heap.size [.slice ta ts.length tc] := ⟨_, rfl, (Kp.refl _ _).alloc _, Bn.new w1 _ _⟩
  obtain ⟨q2, hq2⟩ : ∃ q, Hid (w.heap.size = q) := ⟨_, rfl⟩
  obtain ⟨q3, hq3⟩ : ∃ q, Hid (w1.heap.size = q) := ⟨_, rfl⟩
  rw [hq2.out] at b1
  rw [hq3.out] at b2
  have hq2' := hq2.out
  have hq3' := hq3.out
  have k12 := k1.trans k2 (by simp)
  have b12 := b1.kept k2
  have z1 := k1.size
  have cC := hid (cCloneTY ta tc ts w2 (ht.keptNew k12) htn htl)
  have v3 := b2.get 0 _ rfl
  have HB := hid (And.intro b12 (And.intro b2 (And.intro k12 z1)))
  clear ht k1 k2 b1 b2 b12 k12 z1
  go_enter Tryd.func5, Tryd.ntmps5
  go_wp2_with fail
  refine cC.out.mono ?_
  rintro e w3 ⟨a, c, rfl, hr, k3, hb⟩
  have b3 := HB.out.2.1.kept k3
  have y3 := b3.get 0 _ rfl
  have f3 := b3.free 0
  obtain ⟨w4, e4, b4, k4⟩ : ∃ W2, w3.setCell ⟨q3, 0, none⟩ (.slice a ts.length c) = W2 ∧ Bn W2 q3 [.slice a ts.length c] ∧ Kp [q3] w3 W2 := ⟨_, rfl, b3.set 0 (by simp) _, (Kp.refl _ _).setCell (by simp) _⟩
  have hbq : ∀ k ∈ blk a, k ∉ [q3] := fun k hk hm => by
    simp at hm
    have h1 := hb k hk
    have h2 : q3 < w2.heap.size := HB.out.2.1.lt (by simp)
    omega
  have r4 : TmE.Row w4 (.slice a ts.length c) ts := ckRow (CK.ofKp k4) hr hbq
  have hne : q2 ∉ [q3] := by
    simp
    rw [← hq2.out, ← hq3.out, ← hw1]
    simp
  have x2 : w4.cell? ⟨q2, 0, none⟩ = some (.func (.func g) #[] lb) := (k4.cell (p := ⟨q2, 0, none⟩) (by have := (HB.out.1.kept k3).lt (by simp); exact this) hne).trans ((HB.out.1.kept k3).get 0 _ rfl)
  have kk : Kp [] w w4 := (HB.out.2.2.1.trans k3 (by simp)).trans k4 (fun j hj => .inr (by simp at hj; rw [hj, ← hq3.out]; exact HB.out.2.2.2))
  have HF := hid (And.intro x2 (And.intro (b4.get 0 _ rfl) (And.intro r4 kk)))
  clear cC hr k3 hb b3 b4 k4 hbq r4 x2 kk v3
  go_wp2_with fail
  go_ret
  exact ⟨q2, q3, a, c, rfl, HF.out.1, HF.out.2.1, HF.out.2.2.1, HF.out.2.2.2⟩
/-- What Project hands back: a closure, with what it was given in boxes, and a row of its own. -/
def ProjP (g : Nat) (lb : Array Value) (ts : List (Int)) (w : World) (e : Ending) (w' : World) : Prop := ∃ (q2 q3 : Nat) (a : Option Addr) (c : Nat), e = .returned (.func (.func 22) #[] #[.pointer (some ⟨q2, 0, none⟩), .pointer (some ⟨q3, 0, none⟩)]) ∧ w'.cell? ⟨q2, 0, none⟩ = some (.func (.func g) #[] lb) ∧ w'.cell? ⟨q3, 0, none⟩ = some (.slice a ts.length c) ∧ IntE.Row w' (.slice a ts.length c) ts ∧ Kp [] w w'
set_option maxHeartbeats 8000000 in
set_option maxRecDepth 100000 in
theorem cProjE (g : Nat) (lb : Array Value) (ta : Option Addr) (tc : Nat) (ts : List (Int)) (w : World) (ht : IntE.See w ta ts) (htn : ta = none → tc = 0) (htl : ts.length ≤ 3600000000000) :
    Calls Tryd.prog 10 #[.func (.func g) #[] lb, .slice ta ts.length tc] w (ProjP g lb ts w) := by
  obtain ⟨w1, hw1, k1, b1⟩ : ∃ w1, w.alloc (.cells #[.func (.func g) #[] lb] 27) = w1 ∧ Kp [] w w1 ∧ Bn w1 w.heap.size [.func (.func g) #[] lb] := ⟨_, rfl, (Kp.refl _ _).alloc _, Bn.new w _ _⟩
  obtain ⟨w2, hw2, k2, b2⟩ : ∃ w2, w1.alloc (.cells #[.slice ta ts.length tc] 24) = w2 ∧ Kp [] w1 w2 ∧ Bn w2 w1.heap.size [.slice ta ts.length tc] := ⟨_, rfl, (Kp.refl _ _).alloc _, Bn.new w1 _ _⟩
  obtain ⟨q2, hq2⟩ : ∃ q, Hid (w.heap.size = q) := ⟨_, rfl⟩
  obtain ⟨q3, hq3⟩ : ∃ q, Hid (w1.heap.size = q) := ⟨_, rfl⟩
  rw [hq2.out] at b1
  rw [hq3.out] at b2
  have hq2' := hq2.out
  have hq3' := hq3.out
  have k12 := k1.trans k2 (by simp)
  have b12 := b1.kept k2
  have z1 := k1.size
  have cC := hid (cCloneIY ta tc ts w2 (ht.keptNew k12) htn htl)
  have v3 := b2.get 0 _ rfl
  have HB := hid (And.intro b12 (And.intro b2 (And.intro k12 z1)))
  clear ht k1 k2 b1 b2 b12 k12 z1
  go_enter Tryd.func10, Tryd.ntmps10
  go_wp2_with fail
  refine cC.out.mono ?_
  rintro e w3 ⟨a, c, rfl, hr, k3, hb⟩
  have b3 := HB.out.2.1.kept k3
  have y3 := b3.get 0 _ rfl
  have f3 := b3.free 0
  obtain ⟨w4, e4, b4, k4⟩ : ∃ W2, w3.setCell ⟨q3, 0, none⟩ (.slice a ts.length c) = W2 ∧ Bn W2 q3 [.slice a ts.length c] ∧ Kp [q3] w3 W2 := ⟨_, rfl, b3.set 0 (by simp) _, (Kp.refl _ _).setCell (by simp) _⟩
  have hbq : ∀ k ∈ blk a, k ∉ [q3] := fun k hk hm => by
    simp at hm
    have h1 := hb k hk
    have h2 : q3 < w2.heap.size := HB.out.2.1.lt (by simp)
    omega
  have r4 : IntE.Row w4 (.slice a ts.length c) ts := ckRow (CK.ofKp k4) hr hbq
  have hne : q2 ∉ [q3] := by
    simp
    rw [← hq2.out, ← hq3.out, ← hw1]
    simp
  have x2 : w4.cell? ⟨q2, 0, none⟩ = some (.func (.func g) #[] lb) := (k4.cell (p := ⟨q2, 0, none⟩) (by have := (HB.out.1.kept k3).lt (by simp); exact this) hne).trans ((HB.out.1.kept k3).get 0 _ rfl)
  have kk : Kp [] w w4 := (HB.out.2.2.1.trans k3 (by simp)).trans k4 (fun j hj => .inr (by simp at hj; rw [hj, ← hq3.out]; exact HB.out.2.2.2))
  have HF := hid (And.intro x2 (And.intro (b4.get 0 _ rfl) (And.intro r4 kk)))
  clear cC hr k3 hb b3 b4 k4 hbq r4 x2 kk v3
  go_wp2_with fail
  go_ret
  exact ⟨q2, q3, a, c, rfl, HF.out.1, HF.out.2.1, HF.out.2.2.1, HF.out.2.2.2⟩
theorem heFilt : ∀ (args : Array Value) (w : World), (callFunc 14 args).run Tryd.prog w = .ok (.enter 14 args) w := fun _ _ => rfl
theorem heProj : ∀ (args : Array Value) (w : World), (callFunc 22 args).run Tryd.prog w = .ok (.enter 22 args) w := fun _ _ => rfl
/-- What Filter gives is an iterator of the rows of which all terms are true. -/
theorem filtSrc {g : Nat} {lb : Array Value} {ts : List Tm} {w w' : World} {e : Ending} (h : FiltP g lb ts w e w') (m : Nat) (hm : 2 ≤ m) (fr : Bool) (RL : List (List Val)) (jsl : List Nat) (heg : ∀ args w, (callFunc g args).run Tryd.prog w = .ok (.enter g args) w) (hL : ∀ n, m ≤ n → RowSeq fr (n - 1) g lb RL jsl w) (hjl : ∀ j ∈ jsl, j < w.heap.size) (hA : Asks w) (hRLl : ∀ l ∈ RL, l.length ≤ 1800000000000) (htl : ts.length ≤ 3000000000000) :
    ∃ lb', e = .returned (.func (.func 14) #[] lb') ∧ ∃ js, (∀ j ∈ js, j < w'.heap.size) ∧ (∀ n, m ≤ n → RowSeq true n 14 lb' (RL.flatMap (filtF ts)) js w') ∧ Kp [] w w' := by
  obtain ⟨q2, q3, a, c, rfl, c1, c2, hr, k⟩ := h
  obtain ⟨a', c', e, hs, _⟩ := hr.see
  cases e
  have hA' : Asks w' := hA.kept k (by simp)
  have hjs : ∀ j ∈ jsl ++ ([q2, q3] ++ (0 :: blk a)), j < w'.heap.size := fun j hj => by
    rcases List.mem_append.1 hj with e | e
    · exact Nat.lt_of_lt_of_le (hjl j e) k.size
    · rcases List.mem_append.1 e with e | e
      · simp at e
        rcases e with rfl | rfl
        · exact World.block_lt_of_cell? _ _ c1
        · exact World.block_lt_of_cell? _ _ c2
      · rcases List.mem_cons.1 e with rfl | e
        · exact hA'.1
        · exact hr.lt j (by rw [ownV]; exact e)
  exact ⟨_, rfl, _, hjs, fun n hn => filtSeq n (by omega) q2 q3 fr g lb RL jsl _ a c ts w' heg c1 c2 ⟨hs, hA'⟩ (fun q hq => List.mem_append.2 (.inr (List.mem_append.2 (.inl hq)))) (fun j hj => List.mem_append.2 (.inl hj)) (fun j hj => List.mem_append.2 (.inr (List.mem_append.2 (.inr hj)))) hjs ((hL n hn).move (KeepB.ofKp k (by simp))) hRLl htl, k⟩
/-- What Project gives is an iterator of the values at these places. -/
theorem projSrc {g : Nat} {lb : Array Value} {ps : List Int} {w w' : World} {e : Ending} (h : ProjP g lb ps w e w') (m : Nat) (hm : 2 ≤ m) (fr : Bool) (RL : List (List Val)) (jsl : List Nat) (heg : ∀ args w, (callFunc g args).run Tryd.prog w = .ok (.enter g args) w) (hL : ∀ n, m ≤ n → RowSeq fr (n - 1) g lb RL jsl w) (hjl : ∀ j ∈ jsl, j < w.heap.size) (hRLl : ∀ l ∈ RL, l.length ≤ 1800000000000) (htl : ps.length ≤ 3000000000000) :
    ∃ lb', e = .returned (.func (.func 22) #[] lb') ∧ ∃ js, (∀ j ∈ js, j < w'.heap.size) ∧ (∀ n, m ≤ n → RowSeq true n 22 lb' (RL.flatMap (projF ps)) js w') ∧ Kp [] w w' := by
  obtain ⟨q2, q3, a, c, rfl, c1, c2, hr, k⟩ := h
  obtain ⟨a', c', e, hs, _⟩ := hr.see
  cases e
  have hjs : ∀ j ∈ jsl ++ ([q2, q3] ++ blk a), j < w'.heap.size := fun j hj => by
    rcases List.mem_append.1 hj with e | e
    · exact Nat.lt_of_lt_of_le (hjl j e) k.size
    · rcases List.mem_append.1 e with e | e
      · simp at e
        rcases e with rfl | rfl
        · exact World.block_lt_of_cell? _ _ c1
        · exact World.block_lt_of_cell? _ _ c2
      · exact hr.lt j (by rw [ownV]; exact e)
  exact ⟨_, rfl, _, hjs, fun n hn => projSeq n (by omega) q2 q3 fr g lb RL jsl _ a c ps w' heg c1 c2 hs (fun q hq => List.mem_append.2 (.inr (List.mem_append.2 (.inl hq)))) (fun j hj => List.mem_append.2 (.inl hj)) (fun j hj => List.mem_append.2 (.inr (List.mem_append.2 (.inr hj)))) hjs ((hL n hn).move (KeepB.ofKp k (by simp))) hRLl htl, k⟩
end Go.Proofs.YtfolkjjhlcjfgabDoor
end

section
namespace Go.Proofs.YtfolkjjhlcjfgabDoor
open Go.RowKit Go.Hay
attribute [local go_sem] Oper.semAt_some
set_option linter.unusedVariables false
set_option linter.unusedSimpArgs false

theorem csDropT : ∀ (M : List Tm) (n : Nat), TmE.cs (M.drop n) = (TmE.cs M).drop (n * 6)
  | [], n => by simp [El.cs]
  | x :: M, 0 => by simp
  | x :: M, n + 1 => by
    rw [List.drop_succ_cons, csDropT M n, show (n + 1) * 6 = n * 6 + 1 + 1 + 1 + 1 + 1 + 1 by omega]
    simp [El.cs, TmE]
theorem csTakeT : ∀ (M : List Tm) (n : Nat), TmE.cs (M.take n) = (TmE.cs M).take (n * 6)
  | [], n => by simp [El.cs]
  | x :: M, 0 => by simp [El.cs]
  | x :: M, n + 1 => by
    have := csTakeT M n
    rw [show (n + 1) * 6 = n * 6 + 1 + 1 + 1 + 1 + 1 + 1 by omega]
    simp [El.cs, TmE] at this ⊢
    exact this
theorem seeDropT {w : World} {a : Option Addr} {L : List Tm} (h : TmE.See w a L) (i : Nat) : TmE.See w (a.map fun x => x.add (i * 6)) (L.drop i) := by
  rcases h with e | ⟨g, o, e, hc⟩
  · exact .inl (by rw [e]; simp)
  · subst e
    refine .inr ⟨g, o + i * 6, by simp [Addr.add_lit], fun j u hu => ?_⟩
    rw [csDropT, List.getElem?_drop] at hu
    have := hc (i * 6 + j) u hu
    rw [← Nat.add_assoc] at this
    exact this
theorem seeTakeT {w : World} {a : Option Addr} {L : List Tm} (h : TmE.See w a L) (m : Nat) : TmE.See w a (L.take m) := by
  rcases h with e | ⟨g, o, e, hc⟩
  · exact .inl (by rw [e]; simp)
  · refine .inr ⟨g, o, e, fun j u hu => hc j u ?_⟩
    rw [csTakeT, List.getElem?_take] at hu
    split at hu
    · exact hu
    · cases hu
theorem filtFilt (a b : List Tm) (R : List (List Val)) : (R.flatMap (filtF a)).flatMap (filtF b) = R.flatMap (filtF (a ++ b)) := by
  induction R with
  | nil => rfl
  | cons x R ih =>
    rw [List.flatMap_cons, List.flatMap_append, ih, List.flatMap_cons]
    congr 1
    unfold filtF allT
    rw [List.all_append]
    by_cases h : (a.all fun t => termT t x) = true
    · rw [if_pos h, h]; simp
    · rw [if_neg h]; simp [h]
theorem pickPick (l : List Val) (ps : List Int) : pickV (pickV l ps) ((List.range ps.length).map fun i : Nat => (i : Int)) = pickV l ps := by
  apply List.ext_getElem?
  intro k
  by_cases hk : k < ps.length
  · have h1 : k < (pickV l ps).length := by simpa [pickV] using hk
    have h2 : (pickV (pickV l ps) ((List.range ps.length).map fun i : Nat => (i : Int)))[k]? = some (vAt (pickV l ps) (k : Int)) := by
      simp [pickV, hk]
    rw [h2, vAt_in _ k h1, List.getElem?_eq_getElem h1]
  · rw [List.getElem?_eq_none (by simp [pickV]; omega), List.getElem?_eq_none (by simp [pickV]; omega)]
theorem projProj (ps : List Int) (R : List (List Val)) : (R.flatMap (projF ps)).flatMap (projF ((List.range ps.length).map fun i : Nat => (i : Int))) = R.flatMap (projF ps) := by
  induction R with
  | nil => rfl
  | cons x R ih =>
    rw [List.flatMap_cons, List.flatMap_append, ih]
    congr 1
    simp [projF, pickPick]
theorem filtLen2 (ts : List Tm) (R : List (List Val)) : (R.flatMap (filtF ts)).length ≤ R.length ∧ ∀ l ∈ R.flatMap (filtF ts), l ∈ R := by
  refine ⟨?_, fun l hl => ?_⟩
  · induction R with
    | nil => simp
    | cons x R ih =>
      rw [List.flatMap_cons, List.length_append]
      have : (filtF ts x).length ≤ 1 := by unfold filtF; split <;> simp
      simp only [List.length_cons]
      omega
  · obtain ⟨x, hx, hm⟩ := List.mem_flatMap.1 hl
    unfold filtF at hm
    split at hm
    · rw [List.mem_singleton.1 hm]; exact hx
    · cases hm
theorem projLen2 (ps : List Int) (R : List (List Val)) : (R.flatMap (projF ps)).length = R.length ∧ ∀ l ∈ R.flatMap (projF ps), l.length = ps.length := by
  refine ⟨?_, fun l hl => ?_⟩
  · induction R with
    | nil => rfl
    | cons x R ih => rw [List.flatMap_cons, List.length_append, ih]; simp [projF]; omega
  · obtain ⟨x, hx, hm⟩ := List.mem_flatMap.1 hl
    unfold projF at hm
    rw [List.mem_singleton.1 hm]
    simp [pickV]
/-- Rows of which there are not too many. -/
def Sm (R : List (List Val)) : Prop := R.length ≤ 1048576 ∧ ∀ l ∈ R, l.length ≤ 1048576
theorem Sm.filt {R : List (List Val)} (h : Sm R) (ts : List Tm) : Sm (R.flatMap (filtF ts)) := ⟨Nat.le_trans (filtLen2 ts R).1 h.1, fun l hl => h.2 l ((filtLen2 ts R).2 l hl)⟩
theorem Sm.proj {R : List (List Val)} (h : Sm R) (ps : List Int) (hp : ps.length ≤ 1048576) : Sm (R.flatMap (projF ps)) := ⟨by rw [(projLen2 ps R).1]; exact h.1, fun l hl => by rw [(projLen2 ps R).2 l hl]; exact hp⟩
theorem Sm.take {R : List (List Val)} (h : Sm R) (n : Nat) : Sm (R.take n) := ⟨Nat.le_trans (by rw [List.length_take]; omega) h.1, fun l hl => h.2 l (List.mem_of_mem_take hl)⟩
/-- The closure v is an iterator of just these rows. -/
def Src (m : Nat) (fr : Bool) (R : List (List Val)) (g : Nat) (lb : Array Value) (W : World) : Prop := (∀ args w, (callFunc g args).run Tryd.prog w = .ok (.enter g args) w) ∧ ∃ js, (∀ j ∈ js, j < W.heap.size) ∧ ∀ n, m ≤ n → RowSeq fr n g lb R js W
theorem Src.val {N : Nat} {w w' : World} {ra : Option Addr} {rc : Nat} {L : List Vs} {R : List (List Val)} (h : Lot N ra rc L w) (hL : L.map (·.l) = R) (hs : Sm R) (hw : w' = w.alloc (.cells #[.slice ra L.length rc] 22)) : Src 1 false R 17 #[.pointer (some ⟨w.heap.size, 0, none⟩)] w' ∧ Kp [] w w' := by
  have hl : L.length ≤ 4000000000000 := by have := congrArg List.length hL; have h2 := hs.1; rw [List.length_map] at this; omega
  obtain ⟨h1, h2⟩ := h.src hl 22
  rw [hL, ← hw] at h1
  rw [← hw] at h2
  exact ⟨⟨heVal, _, h2, h1⟩, by rw [hw]; exact (Kp.refl _ _).alloc _⟩
theorem Src.filt {m : Nat} {fr : Bool} {R : List (List Val)} {g : Nat} {lb : Array Value} {w w' : World} {e : Ending} {ts : List Tm} (h : Src m fr R g lb w) (hm : 1 ≤ m) (hs : Sm R) (hA : Asks w) (ht : ts.length ≤ 1048576) (hF : FiltP g lb ts w e w') : ∃ lb', e = .returned (.func (.func 14) #[] lb') ∧ Src (m + 1) true (R.flatMap (filtF ts)) 14 lb' w' ∧ Kp [] w w' := by
  obtain ⟨he, js, hj, hr⟩ := h
  obtain ⟨lb', e1, js', hj', hr', k⟩ := filtSrc hF (m + 1) (by omega) fr R js he (fun n hn => hr (n - 1) (by omega)) hj hA (fun l h => by have := hs.2 l h; omega) (by omega)
  exact ⟨lb', e1, ⟨heFilt, js', hj', hr'⟩, k⟩
theorem Src.proj {m : Nat} {fr : Bool} {R : List (List Val)} {g : Nat} {lb : Array Value} {w w' : World} {e : Ending} {ps : List Int} (h : Src m fr R g lb w) (hm : 1 ≤ m) (hs : Sm R) (ht : ps.length ≤ 1048576) (hF : ProjP g lb ps w e w') : ∃ lb', e = .returned (.func (.func 22) #[] lb') ∧ Src (m + 1) true (R.flatMap (projF ps)) 22 lb' w' ∧ Kp [] w w' := by
  obtain ⟨he, js, hj, hr⟩ := h
  obtain ⟨lb', e1, js', hj', hr', k⟩ := projSrc hF (m + 1) (by omega) fr R js he (fun n hn => hr (n - 1) (by omega)) hj (fun l h => by have := hs.2 l h; omega) (by omega)
  exact ⟨lb', e1, ⟨heProj, js', hj', hr'⟩, k⟩
theorem Src.lim {m : Nat} {fr : Bool} {R : List (List Val)} {g : Nat} {lb : Array Value} {w w' : World} {many : Int} (h : Src m fr R g lb w) (hm : 1 ≤ m) (hs : Sm R) (hmx : many ≤ 9223372036854775807) (hw : w' = (w.alloc (.cells #[.func (.func g) #[] lb] 27)).alloc (.cells #[.int .i64 many] 3)) : Src (m + 1) true (R.take many.toNat) 24 #[.pointer (some ⟨w.heap.size + 1, 0, none⟩), .pointer (some ⟨w.heap.size, 0, none⟩)] w' ∧ Kp [] w w' := by
  obtain ⟨he, js, hj, hr⟩ := h
  obtain ⟨js', hj', hr', k⟩ := limSrc hw (m + 1) (by omega) fr R js he (fun n hn => hr (n - 1) (by omega)) hj (fun l h => by have := hs.2 l h; omega) (by have := hs.1; omega) hmx
  exact ⟨⟨heLim, js', hj', hr'⟩, k⟩
theorem Src.all {m : Nat} {R : List (List Val)} {g : Nat} {lb : Array Value} {w : World} (h : Src m true R g lb w) (hm : 2 ≤ m) (hs : Sm R) : Calls Tryd.prog 4 #[.func (.func g) #[] lb] w (LotP R w) := by
  obtain ⟨he, js, hj, hr⟩ := h
  exact callsIn_wide.1 (cAllR (m + 1) (by omega) g lb R js w he (hr m (Nat.le_refl _)) hj (by have := hs.1; omega) (fun l h => by have := hs.2 l h; omega))
theorem lotSame {N1 N2 : Nat} {ra rb : Option Addr} {ca cb : Nat} {L M : List Vs} {R : List (List Val)} {w : World} (h1 : Lot N1 ra ca L w) (h2 : Lot N2 rb cb M w) (e1 : L.map (·.l) = R) (e2 : M.map (·.l) = R) (hs : Sm R) : Calls Tryd.prog 9 #[.slice ra L.length ca, .slice rb M.length cb] w fun e w' => e = .returned (.bool true) ∧ Kp [] w w' := by
  obtain ⟨a', c', e, s1, _⟩ := h1.row.see
  cases e
  obtain ⟨a', c', e, s2, _⟩ := h2.row.see
  cases e
  exact cSameAll ra rb ca cb L M w s1 s2 h1.lies h2.lies (e1.trans e2.symm) (by have := congrArg List.length e1; have h2 := hs.1; rw [List.length_map] at this; omega)
theorem Lot.kp {N : Nat} {ra : Option Addr} {rc : Nat} {L : List Vs} {X Y : World} (h : Lot N ra rc L X) (k : Kp [] X Y) : Lot N ra rc L Y := h.ck (CK.ofKp k) (by simp) (by simp)
/-- One more place, behind others. -/
theorem appI1 {W : World} {a : Option Addr} {c : Nat} {l : List Int} (h : IntE.Row W (.slice a l.length c) l) (v : Int) (hl : l.length ≤ 3000000000000) :
    ∃ a' c' W', (Builtin.append_ #[24, 24] 24 #[.slice a l.length c, .slice (some ⟨W.heap.size, 0, none⟩) 1 1]).run Tryd.prog (W.alloc (.cells #[.int .i64 v] 3)) = .ok (.slice a' (l ++ [v]).length c') W' ∧ IntE.Row W' (.slice a' (l ++ [v]).length c') (l ++ [v]) ∧ Kp (blk a) W W' ∧ ∀ k ∈ blk a', k ∈ blk a ∨ W.heap.size ≤ k := by
  obtain ⟨A1, hA1⟩ : ∃ A1, W.alloc (.cells #[.int .i64 v] 3) = A1 := ⟨_, rfl⟩
  have kA1 : Kp [] W A1 := by rw [← hA1]; exact (Kp.refl _ _).alloc _
  have bx1 : Bn A1 W.heap.size (IntE.c v) := by rw [← hA1]; exact Bn.new W (IntE.c v) _
  have hs1 : IntE.See A1 (some ⟨W.heap.size, 0, none⟩) [v] := .inr ⟨W.heap.size, 0, rfl, fun j u hu => by rw [Nat.zero_add]; exact bx1.get j u (by simpa [El.cs] using hu)⟩
  obtain ⟨i0, hi, hz0', hz1', hz2'⟩ := infoIY
  have hsr := hs1.src (P := Tryd.prog) Tryd.underlying24 1
  obtain ⟨v', A2, hrun, hrow2, k2, hn2⟩ := run_appendG (E := IntE) (P := Tryd.prog) A1 24 24 24 3 i0 _ 8 Tryd.underlying24 hi hz0' hz1' hz2' rfl (.slice a l.length c) l (h.keptNew kA1) _ [v] hsr (by simp only [List.length_cons, List.length_nil]; omega) (by simp only [List.length_cons, List.length_nil]; omega)
  obtain ⟨a', c', rfl, _⟩ := hrow2.see
  simp only [ownV] at k2 hn2
  rw [hA1]
  have z1 := kA1.size
  exact ⟨a', c', A2, hrun, hrow2, (kA1.mono (by simp)).trans k2 (fun j hj => .inl hj), fun k hk => by
    rcases hn2 k hk with e | e
    · exact .inl e
    · exact .inr (by omega)⟩
set_option maxHeartbeats 32000000 in
set_option maxRecDepth 100000 in
theorem twiceWalk (a0 : Option Addr) (c0 : Nat) (L0 : List Vs) (a1 : Option Addr) (c1 : Nat) (ts : List Tm) (a2 : Option Addr) (c2 : Nat) (ps : List Int) (w : World) (hA : Asks w) (hs : VsE.See w a0 L0) (hx : ∀ x ∈ L0, x.lies w) (hl : L0.length ≤ 1048576) (hr : ∀ x ∈ L0, x.l.length ≤ 1048576) (ht : TmE.See w a1 ts) (htn : a1 = none → c1 = 0) (htc : ts.length ≤ c1) (htm : c1 ≤ maxLen) (htl : ts.length ≤ 1048576) (hp : IntE.See w a2 ps) (hpn : a2 = none → c2 = 0) (hpl : ps.length ≤ 1048576) :
    Calls Tryd.prog 3 #[.slice a0 L0.length c0, .slice a1 ts.length c1, .slice a2 ps.length c2] w fun e w' => e = .returned (.bool true) ∧ Below w.heap.size w w' := by
  have HT : Hid (∀ W, Kp [] w W → TmE.See W a1 ts ∧ Asks W) := fun W k => ⟨ckSee (CK.ofKp k) ht (by simp), hA.kept k (by simp)⟩
  have HP : Hid (∀ W, Kp [] w W → IntE.See W a2 ps) := fun W k => ckSee (CK.ofKp k) hp (by simp)
  obtain ⟨R0, hR0⟩ : ∃ R, Hid (L0.map (·.l) = R) := ⟨_, rfl⟩
  have hS : Hid (Sm R0) := ⟨by rw [← hR0.out]; simpa using hl, fun l hm => by rw [← hR0.out] at hm; obtain ⟨x, hx', rfl⟩ := List.mem_map.1 hm; exact hr x hx'⟩
  have cC : Hid (∀ W, Kp [] w W → Calls Tryd.prog 7 #[.slice a0 L0.length c0] W (LotP R0 W)) := fun W k => by
    have h1 := cCopied a0 c0 L0 W (ckSee (CK.ofKp k) hs (by simp)) (fun x h => (hx x h).ck (CK.ofKp k) (by simp)) (by omega) (fun x h => by have := hr x h; omega)
    rw [hR0.out] at h1
    exact h1
  unfold maxLen at htm
  obtain ⟨cut, hcut⟩ : ∃ c, Hid (ts.length / 2 = c) := ⟨_, rfl⟩
  have hcl : cut ≤ ts.length := by rw [← hcut.out]; omega
  have ecut : ((ts.length : Nat) : Int) / 2 = ((cut : Nat) : Int) := by rw [← hcut.out]; omega
  have i1 : (0 : Int) ≤ (cut : Int) := by omega
  have i2 : (cut : Int) ≤ (ts.length : Int) := by omega
  have i3 : (cut : Int) ≤ (c1 : Int) := by omega
  have i4 : (ps.length : Int) + 1 ≤ 9223372036854775807 := by omega
  clear hs hx ht hA hp hr
  go_enter Tryd.func3, Tryd.ntmps3
  go_wp2_with fail
  refine (cC.out w (Kp.refl [] w)).mono ?_
  rintro e w1 ⟨ra1, rc1, L1, rfl, lo1, hL1, k1⟩
  have K1 := hid ((Kp.refl [] w).trans k1 (by simp))
  have cV := hid (cValuesE ra1 L1.length rc1 w1)
  go_wp2_with fail
  refine (cV.out).mono ?_
  rintro e w2 ⟨rfl, hw⟩
  obtain ⟨sr2, k2⟩ := Src.val lo1 hL1 hS.out hw
  obtain ⟨q2, hq2⟩ : ∃ q, Hid (w1.heap.size = q) := ⟨_, rfl⟩
  rw [hq2.out] at sr2 ⊢
  have S2 := hid sr2
  have K2 := hid (K1.out.trans k2 (by simp))
  clear cV hw lo1 hL1 sr2
  have cF := hid (cFiltE 17 #[.pointer (some ⟨q2, 0, none⟩)] a1 c1 ts w2 ((HT.out w2 K2.out).1) htn (by omega))
  go_wp2_with fail
  refine (cF.out).mono ?_
  intro e w3 hF
  obtain ⟨lb3, rfl, sr3, k3⟩ := S2.out.filt (by omega) (hS.out) (HT.out w2 K2.out).2 (by omega) hF
  have S3 := hid sr3
  have K3 := hid (K2.out.trans k3 (by simp))
  clear cF hF sr3 S2
  have cF := hid (S3.out.all (by omega) ((hS.out).filt _))
  go_wp2_with fail
  refine (cF.out).mono ?_
  rintro e w4 ⟨rONE, cONE, ONE, rfl, loONE, heONE, k4⟩
  have HEONE := hid heONE
  have K4 := hid (K3.out.trans k4 (by simp))
  have LOONE := hid loONE
  clear cF S3 loONE heONE k4
  go_wp2_with fail
  refine wp_noPanicY ?_
  refine wp_region_held_drew (S := fun _ => True) (by kernel_rfl) trivial (fun hHeld => ?_)
  have k5 : Kp [] w4 w4.drew := (Kp.refl _ _).drew
  generalize w4.drew = w5 at *
  have K5 := hid (K4.out.trans k5 (by simp))
  replace LOONE := hid (LOONE.out.kp k5)
  refine wpAnyH_take (i := 0) (v := ?_) rfl (by kernel_rfl) (by kernel_rfl) (by kernel_rfl) (fun _ _ _ h => by cases h.1) (Or.inl ⟨by rfl, ?_⟩) (by assumption) ?_
  rotate_left
  · intro w hSw; (try dsimp only at hSw); go_simp <;> with_reducible rfl
  try simp only [Act.put, List.getElem_toArray, List.getElem_cons_zero, List.getElem_cons_succ, List.setIfInBounds_toArray, List.set_cons_zero, List.set_cons_succ]
  refine wpAnyH_take (i := 3) (v := ?_) rfl (by kernel_rfl) (by kernel_rfl) (by kernel_rfl) (fun _ _ _ h => by cases h.1) (Or.inl ⟨by rfl, ?_⟩) (by assumption) ?_
  rotate_left
  · intro w hSw; (try dsimp only at hSw); go_simp <;> with_reducible rfl
  try simp only [Act.put, List.getElem_toArray, List.getElem_cons_zero, List.getElem_cons_succ, List.setIfInBounds_toArray, List.set_cons_zero, List.set_cons_succ]
  refine wpAnyH_take (i := 4) (v := ?_) rfl (by kernel_rfl) (by kernel_rfl) (by kernel_rfl) (fun _ _ _ h => by cases h.1) (Or.inl ⟨by rfl, ?_⟩) (by assumption) ?_
  rotate_left
  · intro w hSw; (try dsimp only at hSw); go_simp <;> with_reducible rfl
  try simp only [Act.put, List.getElem_toArray, List.getElem_cons_zero, List.getElem_cons_succ, List.setIfInBounds_toArray, List.set_cons_zero, List.set_cons_succ]
  refine wpAnyH_take (i := 5) (v := ?_) rfl (by kernel_rfl) (by kernel_rfl) (by kernel_rfl) (fun _ _ _ h => by cases h.1) (Or.inl ⟨by rfl, ?_⟩) (by assumption) ?_
  rotate_left
  · intro w hSw; (try dsimp only at hSw); go_simp <;> with_reducible rfl
  try simp only [Act.put, List.getElem_toArray, List.getElem_cons_zero, List.getElem_cons_succ, List.setIfInBounds_toArray, List.set_cons_zero, List.set_cons_succ]
  refine wpAnyH_take (i := 7) (v := ?_) rfl (by kernel_rfl) (by kernel_rfl) (by kernel_rfl) (fun _ _ _ h => by cases h.1) (Or.inl ⟨by rfl, ?_⟩) (by assumption) ?_
  rotate_left
  · intro w hSw; (try dsimp only at hSw); go_simp <;> with_reducible rfl
  try simp only [Act.put, List.getElem_toArray, List.getElem_cons_zero, List.getElem_cons_succ, List.setIfInBounds_toArray, List.set_cons_zero, List.set_cons_succ]
  refine wpAnyH_take (i := 8) (v := ?_) rfl (by kernel_rfl) (by kernel_rfl) (by kernel_rfl) (fun _ _ _ h => by cases h.1) (Or.inl ⟨by rfl, ?_⟩) (by assumption) ?_
  rotate_left
  · intro w hSw; (try dsimp only at hSw); go_simp <;> with_reducible rfl
  try simp only [Act.put, List.getElem_toArray, List.getElem_cons_zero, List.getElem_cons_succ, List.setIfInBounds_toArray, List.set_cons_zero, List.set_cons_succ]
  refine wpAnyH_take (i := 9) (v := ?_) rfl (by kernel_rfl) (by kernel_rfl) (by kernel_rfl) (fun _ _ _ h => by cases h.1) (Or.inl ⟨by rfl, ?_⟩) (by assumption) ?_
  rotate_left
  · intro w hSw; (try dsimp only at hSw); go_simp <;> with_reducible rfl
  try simp only [Act.put, List.getElem_toArray, List.getElem_cons_zero, List.getElem_cons_succ, List.setIfInBounds_toArray, List.set_cons_zero, List.set_cons_succ]
  obtain ⟨aD, haD⟩ : ∃ a, Hid ((if c1 = cut then a1 else Option.map (fun x => x.add (cut * 6)) a1) = a) := ⟨_, rfl⟩
  rw [haD.out]
  obtain ⟨cD, hcD⟩ : ∃ c, Hid (c1 - cut = c) := ⟨_, rfl⟩
  rw [hcD.out]
  obtain ⟨tA, htA⟩ : ∃ t, Hid (ts.take cut = t) := ⟨_, rfl⟩
  obtain ⟨tB, htB⟩ : ∃ t, Hid (ts.drop cut = t) := ⟨_, rfl⟩
  have ltA : tA.length = cut := by rw [← htA.out, List.length_take]; omega
  have ltB : ts.length - cut = tB.length := by rw [← htB.out, List.length_drop]
  rw [ltB, ← ltA]
  have HTA : Hid (∀ W, Kp [] w W → TmE.See W a1 tA) := fun W k => by rw [← htA.out]; exact seeTakeT (HT.out W k).1 cut
  have HTB : Hid (∀ W, Kp [] w W → TmE.See W aD tB) := fun W k => by
    rw [← htB.out, ← haD.out]
    split
    · exact .inl (List.drop_eq_nil_of_le (by omega))
    · exact seeDropT (HT.out W k).1 cut
  have hDn : aD = none → cD = 0 := fun e => by
    rw [← haD.out] at e
    split at e
    · have := htn e; have := hcD.out; omega
    · have h2 : a1 = none := by simpa using e
      have := htn h2; have := hcD.out; omega
  have htAl : tA.length ≤ 1048576 := by omega
  have htBl : tB.length ≤ 1048576 := by omega
  have LT := hid (And.intro ltA ltB)
  clear ltA ltB
  refine wpAnyH_ready (rs := [1]) (by kernel_rfl) (by simp) ?_
  refine AllReadyH.cons rfl (fun K hK => ?_) AllReadyH.nil
  go_simp
  refine (cC.out w5 K5.out).mono ?_
  rintro e w6 ⟨ra6, rc6, L6, rfl, lo6, hL6, k6⟩
  have K6 := hid (K5.out.trans k6 (by simp))
  replace LOONE := hid (LOONE.out.kp k6)
  (try go_wp2_with fail)
  refine hK.out _ _ trivial (fun hHeld => ?_)
  clear hK K
  try simp only [Act.put, List.getElem_toArray, List.getElem_cons_zero, List.getElem_cons_succ, List.setIfInBounds_toArray, List.set_cons_zero, List.set_cons_succ]
  have cV := hid (cValuesE ra6 L6.length rc6 w6)
  refine wpAnyH_ready (rs := [2]) (by kernel_rfl) (by simp) ?_
  refine AllReadyH.cons rfl (fun K hK => ?_) AllReadyH.nil
  go_simp
  refine (cV.out).mono ?_
  rintro e w7 ⟨rfl, hw⟩
  obtain ⟨sr7, k7⟩ := Src.val lo6 hL6 hS.out hw
  obtain ⟨q7, hq7⟩ : ∃ q, Hid (w6.heap.size = q) := ⟨_, rfl⟩
  rw [hq7.out] at sr7 ⊢
  have S7 := hid sr7
  have K7 := hid (K6.out.trans k7 (by simp))
  replace LOONE := hid (LOONE.out.kp k7)
  clear cV hw lo6 hL6 sr7
  (try go_wp2_with fail)
  refine hK.out _ _ trivial (fun hHeld => ?_)
  clear hK K
  try simp only [Act.put, List.getElem_toArray, List.getElem_cons_zero, List.getElem_cons_succ, List.setIfInBounds_toArray, List.set_cons_zero, List.set_cons_succ]
  have cF := hid (cFiltE 17 #[.pointer (some ⟨q7, 0, none⟩)] a1 c1 tA w7 (HTA.out w7 K7.out) htn (by omega))
  refine wpAnyH_ready (rs := [6]) (by kernel_rfl) (by simp) ?_
  refine AllReadyH.cons rfl (fun K hK => ?_) AllReadyH.nil
  go_simp
  refine (cF.out).mono ?_
  intro e w8 hF
  obtain ⟨lb8, rfl, sr8, k8⟩ := S7.out.filt (by omega) (hS.out) (HT.out w7 K7.out).2 (by omega) hF
  have S8 := hid sr8
  have K8 := hid (K7.out.trans k8 (by simp))
  replace LOONE := hid (LOONE.out.kp k8)
  clear cF hF sr8 S7
  (try go_wp2_with fail)
  refine hK.out _ _ trivial (fun hHeld => ?_)
  clear hK K
  try simp only [Act.put, List.getElem_toArray, List.getElem_cons_zero, List.getElem_cons_succ, List.setIfInBounds_toArray, List.set_cons_zero, List.set_cons_succ]
  have cF := hid (cFiltE 14 lb8 aD cD tB w8 (HTB.out w8 K8.out) hDn (by omega))
  refine wpAnyH_ready (rs := [10]) (by kernel_rfl) (by simp) ?_
  refine AllReadyH.cons rfl (fun K hK => ?_) AllReadyH.nil
  go_simp
  refine (cF.out).mono ?_
  intro e w9 hF
  obtain ⟨lb9, rfl, sr9, k9⟩ := S8.out.filt (by omega) ((hS.out).filt _) (HT.out w8 K8.out).2 (by omega) hF
  have S9 := hid sr9
  have K9 := hid (K8.out.trans k9 (by simp))
  replace LOONE := hid (LOONE.out.kp k9)
  clear cF hF sr9 S8
  (try go_wp2_with fail)
  refine hK.out _ _ trivial (fun hHeld => ?_)
  clear hK K
  try simp only [Act.put, List.getElem_toArray, List.getElem_cons_zero, List.getElem_cons_succ, List.setIfInBounds_toArray, List.set_cons_zero, List.set_cons_succ]
  have cF := hid (S9.out.all (by omega) (((hS.out).filt _).filt _))
  refine wpAnyH_ready (rs := [11]) (by kernel_rfl) (by simp) ?_
  refine AllReadyH.cons rfl (fun K hK => ?_) AllReadyH.nil
  go_simp
  refine (cF.out).mono ?_
  rintro e w10 ⟨rTWO, cTWO, TWO, rfl, loTWO, heTWO, k10⟩
  have HETWO := hid heTWO
  have K10 := hid (K9.out.trans k10 (by simp))
  replace LOONE := hid (LOONE.out.kp k10)
  have LOTWO := hid loTWO
  clear cF S9 loTWO heTWO k10
  (try go_wp2_with fail)
  refine hK.out _ _ trivial (fun hHeld => ?_)
  clear hK K
  try simp only [Act.put, List.getElem_toArray, List.getElem_cons_zero, List.getElem_cons_succ, List.setIfInBounds_toArray, List.set_cons_zero, List.set_cons_succ]
  refine wpAnyH_take (i := 12) (v := ?_) rfl (by kernel_rfl) (by kernel_rfl) (by kernel_rfl) (fun _ _ _ h => by cases h.1) (Or.inl ⟨by rfl, ?_⟩) (by assumption) ?_
  rotate_left
  · intro w hSw; (try dsimp only at hSw); go_simp <;> with_reducible rfl
  try simp only [Act.put, List.getElem_toArray, List.getElem_cons_zero, List.getElem_cons_succ, List.setIfInBounds_toArray, List.set_cons_zero, List.set_cons_succ]
  refine wpAnyH_done (by kernel_rfl) ⟨rfl, ?_⟩ _
  clear hHeld
  have e12 : Hid ((R0.flatMap (filtF tA)).flatMap (filtF tB) = R0.flatMap (filtF ts)) := by show _ = _; rw [filtFilt, ← htA.out, ← htB.out, List.take_append_drop]
  rw [e12.out] at HETWO
  go_wp2_with fail
  refine (cAlive15 w10).mono ?_
  rintro e w11 ⟨rfl, k11⟩
  have K11 := hid (K10.out.trans k11 (by simp))
  replace LOONE := hid (LOONE.out.kp k11)
  replace LOTWO := hid (LOTWO.out.kp k11)
  clear k11
  have cS := hid (lotSame LOONE.out LOTWO.out HEONE.out HETWO.out (hS.out.filt _))
  go_wp2_with fail
  refine (cS.out).mono ?_
  rintro e w12 ⟨rfl, k12⟩
  have K12 := hid (K11.out.trans k12 (by simp))
  clear k12 cS LOONE LOTWO HEONE HETWO
  go_wp2_with fail
  go_loopw [10, 47] (fun v10 i wr => ∃ (j : Nat) (ra : Option Addr) (rc : Nat) (m : List Int), j ≤ ps.length ∧ i = .int .i64 (j : Int) ∧ v10 = .slice ra m.length rc ∧ Hid (m = (List.range j).map fun i : Nat => (i : Int)) ∧ Hid (IntE.Row wr (.slice ra m.length rc) m ∧ Kp [] w12 wr ∧ ∀ k ∈ blk ra, w12.heap.size ≤ k)) (fun _ i _ => ps.length - (intOf i).toNat)
  case atStart => exact ⟨0, none, 0, [], Nat.zero_le _, rfl, rfl, rfl, ⟨.inl ⟨rfl, rfl⟩, Kp.refl _ _, by simp [blk]⟩⟩
  case round =>
    obtain ⟨j, ra, rc, m, hj, rfl, rfl, hm, H⟩ := hrel
    have hml : m.length = j := by rw [hm.out]; simp
    by_cases hlt : j < ps.length
    · obtain ⟨a4, c4, W4, hrun, hr4, k4, hn4⟩ := appI1 H.out.1 (j : Int) (by omega)
      obtain ⟨m4, hm4⟩ : ∃ m4, Hid (m ++ [(j : Int)] = m4) := ⟨_, rfl⟩
      rw [hm4.out] at hrun hr4
      have HF : Hid (IntE.Row W4 (.slice a4 m4.length c4) m4 ∧ Kp [] w12 W4 ∧ ∀ k ∈ blk a4, w12.heap.size ≤ k) := ⟨hr4, H.out.2.1.trans k4 (fun x hx => .inr (H.out.2.2 x hx)), fun k hk => by
        rcases hn4 k hk with e | e
        · exact H.out.2.2 k e
        · have := H.out.2.1.size; omega⟩
      have hm5 : Hid (m4 = (List.range (j + 1)).map fun i : Nat => (i : Int)) := by show _ = _; rw [← hm4.out, hm.out, List.range_succ, List.map_append]; rfl
      have j1 : (j : Int) < (ps.length : Int) := by omega
      have j2 : (j : Int) + 1 ≤ 9223372036854775807 := by omega
      have hml' := hid hml
      clear hr4 k4 hn4 hml
      go_wp2_with (first | (refine wpAppRunY rfl _ _ 24 24 rfl _ _ _ rfl rfl hrun ?_) | fail)
      go_roundw
      case rel => exact ⟨j + 1, a4, c4, m4, by omega, by go_num, rfl, hm5, HF⟩
      case measure => simp [intOf]; omega
    · have hje : j = ps.length := by omega
      subst hje
      have dj1 : ¬ (ps.length : Int) < (ps.length : Int) := by omega
      have dj2 : decide ((ps.length : Int) < (ps.length : Int)) = false := by simp
      have hml' := hid hml
      clear hml
      obtain ⟨w13, hw13⟩ : ∃ x, wr = x := ⟨_, rfl⟩
      subst hw13
      have K13 := hid (K12.out.trans H.out.2.1 (by simp))
      have HSM : Hid (∀ W, Kp [] wr W → IntE.See W ra m) := fun W k => by
        obtain ⟨a', c', e, hs, _⟩ := (H.out.1.keptNew k).see
        cases e
        exact hs
      have hmn : ra = none → rc = 0 := fun e => by
        obtain ⟨a', c', e2, _, h0, _⟩ := H.out.1.see
        cases e2
        exact (h0 e).2
      have hmp := hid hm.out
      have hm48 : m.length ≤ 1048576 := by have := hml'.out; omega
      have KR : Hid (Kp [] wr wr) := Kp.refl _ _
      go_wp2_with fail
      refine (cC.out wr K13.out).mono ?_
      rintro e w14 ⟨ra14, rc14, L14, rfl, lo14, hL14, k14⟩
      have K14 := hid (K13.out.trans k14 (by simp))
      replace KR := hid (KR.out.trans k14 (by simp))
      have cV := hid (cValuesE ra14 L14.length rc14 w14)
      go_wp2_with fail
      refine (cV.out).mono ?_
      rintro e w15 ⟨rfl, hw⟩
      obtain ⟨sr15, k15⟩ := Src.val lo14 hL14 hS.out hw
      obtain ⟨q15, hq15⟩ : ∃ q, Hid (w14.heap.size = q) := ⟨_, rfl⟩
      rw [hq15.out] at sr15 ⊢
      have S15 := hid sr15
      have K15 := hid (K14.out.trans k15 (by simp))
      replace KR := hid (KR.out.trans k15 (by simp))
      clear cV hw lo14 hL14 sr15
      have cF := hid (cProjE 17 #[.pointer (some ⟨q15, 0, none⟩)] a2 c2 ps w15 (HP.out w15 K15.out) hpn (by omega))
      go_wp2_with fail
      refine (cF.out).mono ?_
      intro e w16 hF
      obtain ⟨lb16, rfl, sr16, k16⟩ := S15.out.proj (by omega) (hS.out) (by omega) hF
      have S16 := hid sr16
      have K16 := hid (K15.out.trans k16 (by simp))
      replace KR := hid (KR.out.trans k16 (by simp))
      clear cF hF sr16 S15
      have cF := hid (S16.out.all (by omega) ((hS.out).proj _ (by omega)))
      go_wp2_with fail
      refine (cF.out).mono ?_
      rintro e w17 ⟨rPA, cPA, PA, rfl, loPA, hePA, k17⟩
      have HEPA := hid hePA
      have K17 := hid (K16.out.trans k17 (by simp))
      replace KR := hid (KR.out.trans k17 (by simp))
      have LOPA := hid loPA
      clear cF S16 loPA hePA k17
      go_wp2_with fail
      refine (cC.out w17 K17.out).mono ?_
      rintro e w18 ⟨ra18, rc18, L18, rfl, lo18, hL18, k18⟩
      have K18 := hid (K17.out.trans k18 (by simp))
      replace KR := hid (KR.out.trans k18 (by simp))
      replace LOPA := hid (LOPA.out.kp k18)
      have cV := hid (cValuesE ra18 L18.length rc18 w18)
      go_wp2_with fail
      refine (cV.out).mono ?_
      rintro e w19 ⟨rfl, hw⟩
      obtain ⟨sr19, k19⟩ := Src.val lo18 hL18 hS.out hw
      obtain ⟨q19, hq19⟩ : ∃ q, Hid (w18.heap.size = q) := ⟨_, rfl⟩
      rw [hq19.out] at sr19 ⊢
      have S19 := hid sr19
      have K19 := hid (K18.out.trans k19 (by simp))
      replace KR := hid (KR.out.trans k19 (by simp))
      replace LOPA := hid (LOPA.out.kp k19)
      clear cV hw lo18 hL18 sr19
      have cF := hid (cProjE 17 #[.pointer (some ⟨q19, 0, none⟩)] a2 c2 ps w19 (HP.out w19 K19.out) hpn (by omega))
      go_wp2_with fail
      refine (cF.out).mono ?_
      intro e w20 hF
      obtain ⟨lb20, rfl, sr20, k20⟩ := S19.out.proj (by omega) (hS.out) (by omega) hF
      have S20 := hid sr20
      have K20 := hid (K19.out.trans k20 (by simp))
      replace KR := hid (KR.out.trans k20 (by simp))
      replace LOPA := hid (LOPA.out.kp k20)
      clear cF hF sr20 S19
      have cF := hid (cProjE 22 lb20 ra rc m w20 (HSM.out w20 KR.out) hmn (by omega))
      go_wp2_with fail
      refine (cF.out).mono ?_
      intro e w21 hF
      obtain ⟨lb21, rfl, sr21, k21⟩ := S20.out.proj (by omega) ((hS.out).proj _ (by omega)) (by omega) hF
      have S21 := hid sr21
      have K21 := hid (K20.out.trans k21 (by simp))
      replace KR := hid (KR.out.trans k21 (by simp))
      replace LOPA := hid (LOPA.out.kp k21)
      clear cF hF sr21 S20
      have cF := hid (S21.out.all (by omega) (((hS.out).proj _ (by omega)).proj _ (by omega)))
      go_wp2_with fail
      refine (cF.out).mono ?_
      rintro e w22 ⟨rPB, cPB, PB, rfl, loPB, hePB, k22⟩
      have HEPB := hid hePB
      have K22 := hid (K21.out.trans k22 (by simp))
      replace KR := hid (KR.out.trans k22 (by simp))
      replace LOPA := hid (LOPA.out.kp k22)
      have LOPB := hid loPB
      clear cF S21 loPB hePB k22
      rw [hmp.out, projProj] at HEPB
      go_wp2_with fail
      refine (cC.out w22 K22.out).mono ?_
      rintro e w23 ⟨ra23, rc23, L23, rfl, lo23, hL23, k23⟩
      have K23 := hid (K22.out.trans k23 (by simp))
      replace KR := hid (KR.out.trans k23 (by simp))
      replace LOPA := hid (LOPA.out.kp k23)
      replace LOPB := hid (LOPB.out.kp k23)
      have cV := hid (cValuesE ra23 L23.length rc23 w23)
      go_wp2_with fail
      refine (cV.out).mono ?_
      rintro e w24 ⟨rfl, hw⟩
      obtain ⟨sr24, k24⟩ := Src.val lo23 hL23 hS.out hw
      obtain ⟨q24, hq24⟩ : ∃ q, Hid (w23.heap.size = q) := ⟨_, rfl⟩
      rw [hq24.out] at sr24 ⊢
      have S24 := hid sr24
      have K24 := hid (K23.out.trans k24 (by simp))
      replace KR := hid (KR.out.trans k24 (by simp))
      replace LOPA := hid (LOPA.out.kp k24)
      replace LOPB := hid (LOPB.out.kp k24)
      clear cV hw lo23 hL23 sr24
      have cF := hid (cLimitE 17 #[.pointer (some ⟨q24, 0, none⟩)] ((ps.length : Int) + 1) w24)
      go_wp2_with fail
      refine (cF.out).mono ?_
      rintro e w25 ⟨rfl, hw⟩
      obtain ⟨sr25, k25⟩ := S24.out.lim (by omega) (hS.out) (by omega) hw
      obtain ⟨lb25, hlb25⟩ : ∃ l : Array Value, Hid (#[Value.pointer (some ⟨w24.heap.size + 1, 0, none⟩), Value.pointer (some ⟨w24.heap.size, 0, none⟩)] = l) := ⟨_, rfl⟩
      rw [hlb25.out] at sr25 ⊢
      have S25 := hid sr25
      have K25 := hid (K24.out.trans k25 (by simp))
      replace KR := hid (KR.out.trans k25 (by simp))
      replace LOPA := hid (LOPA.out.kp k25)
      replace LOPB := hid (LOPB.out.kp k25)
      clear cF hw sr25 S24
      have cF := hid (cLimitE 24 lb25 (ps.length : Int) w25)
      go_wp2_with fail
      refine (cF.out).mono ?_
      rintro e w26 ⟨rfl, hw⟩
      obtain ⟨sr26, k26⟩ := S25.out.lim (by omega) ((hS.out).take _) (by omega) hw
      obtain ⟨lb26, hlb26⟩ : ∃ l : Array Value, Hid (#[Value.pointer (some ⟨w25.heap.size + 1, 0, none⟩), Value.pointer (some ⟨w25.heap.size, 0, none⟩)] = l) := ⟨_, rfl⟩
      rw [hlb26.out] at sr26 ⊢
      have S26 := hid sr26
      have K26 := hid (K25.out.trans k26 (by simp))
      replace KR := hid (KR.out.trans k26 (by simp))
      replace LOPA := hid (LOPA.out.kp k26)
      replace LOPB := hid (LOPB.out.kp k26)
      clear cF hw sr26 S25
      have cF := hid (S26.out.all (by omega) (((hS.out).take _).take _))
      go_wp2_with fail
      refine (cF.out).mono ?_
      rintro e w27 ⟨rLA, cLA, LA, rfl, loLA, heLA, k27⟩
      have HELA := hid heLA
      have K27 := hid (K26.out.trans k27 (by simp))
      replace KR := hid (KR.out.trans k27 (by simp))
      replace LOPA := hid (LOPA.out.kp k27)
      replace LOPB := hid (LOPB.out.kp k27)
      have LOLA := hid loLA
      clear cF S26 loLA heLA k27
      have etk : Hid ((R0.take ((ps.length : Int) + 1).toNat).take ((ps.length : Int)).toNat = R0.take ((ps.length : Int)).toNat) := by show _ = _; rw [List.take_take]; congr 1; omega
      rw [etk.out] at HELA
      have cS := hid (lotSame LOPA.out LOPB.out HEPA.out HEPB.out (hS.out.proj _ (by omega)))
      go_wp2_with fail
      refine (cS.out).mono ?_
      rintro e w28 ⟨rfl, k28⟩
      have K28 := hid (K27.out.trans k28 (by simp))
      replace KR := hid (KR.out.trans k28 (by simp))
      replace LOPA := hid (LOPA.out.kp k28)
      replace LOPB := hid (LOPB.out.kp k28)
      replace LOLA := hid (LOLA.out.kp k28)
      clear k28 cS LOPA LOPB HEPA HEPB
      go_wp2_with fail
      refine (cC.out w28 K28.out).mono ?_
      rintro e w29 ⟨ra29, rc29, L29, rfl, lo29, hL29, k29⟩
      have K29 := hid (K28.out.trans k29 (by simp))
      replace KR := hid (KR.out.trans k29 (by simp))
      replace LOLA := hid (LOLA.out.kp k29)
      have cV := hid (cValuesE ra29 L29.length rc29 w29)
      go_wp2_with fail
      refine (cV.out).mono ?_
      rintro e w30 ⟨rfl, hw⟩
      obtain ⟨sr30, k30⟩ := Src.val lo29 hL29 hS.out hw
      obtain ⟨q30, hq30⟩ : ∃ q, Hid (w29.heap.size = q) := ⟨_, rfl⟩
      rw [hq30.out] at sr30 ⊢
      have S30 := hid sr30
      have K30 := hid (K29.out.trans k30 (by simp))
      replace KR := hid (KR.out.trans k30 (by simp))
      replace LOLA := hid (LOLA.out.kp k30)
      clear cV hw lo29 hL29 sr30
      have cF := hid (cLimitE 17 #[.pointer (some ⟨q30, 0, none⟩)] (ps.length : Int) w30)
      go_wp2_with fail
      refine (cF.out).mono ?_
      rintro e w31 ⟨rfl, hw⟩
      obtain ⟨sr31, k31⟩ := S30.out.lim (by omega) (hS.out) (by omega) hw
      obtain ⟨lb31, hlb31⟩ : ∃ l : Array Value, Hid (#[Value.pointer (some ⟨w30.heap.size + 1, 0, none⟩), Value.pointer (some ⟨w30.heap.size, 0, none⟩)] = l) := ⟨_, rfl⟩
      rw [hlb31.out] at sr31 ⊢
      have S31 := hid sr31
      have K31 := hid (K30.out.trans k31 (by simp))
      replace KR := hid (KR.out.trans k31 (by simp))
      replace LOLA := hid (LOLA.out.kp k31)
      clear cF hw sr31 S30
      have cF := hid (S31.out.all (by omega) ((hS.out).take _))
      go_wp2_with fail
      refine (cF.out).mono ?_
      rintro e w32 ⟨rLB, cLB, LB, rfl, loLB, heLB, k32⟩
      have HELB := hid heLB
      have K32 := hid (K31.out.trans k32 (by simp))
      replace KR := hid (KR.out.trans k32 (by simp))
      replace LOLA := hid (LOLA.out.kp k32)
      have LOLB := hid loLB
      clear cF S31 loLB heLB k32
      have cS := hid (lotSame LOLA.out LOLB.out HELA.out HELB.out (hS.out.take _))
      go_wp2_with fail
      refine (cS.out).mono ?_
      rintro e w33 ⟨rfl, k33⟩
      have K33 := hid (K32.out.trans k33 (by simp))
      replace KR := hid (KR.out.trans k33 (by simp))
      clear k33 cS LOLA LOLB HELA HELB
      go_wp2_with fail
      go_ret
      exact ⟨rfl, K33.out.below⟩
end Go.Proofs.YtfolkjjhlcjfgabDoor
end

section
namespace Go.Proofs.YtfolkjjhlcjfgabDoor
open Go.ChangeShapes Go.WideShapes Go.ChangeAt Go.RowKit Go.Hay
set_option linter.unusedVariables false
set_option linter.unusedSimpArgs false

theorem cellsYI : Tryd.prog.cellsOf 3 = 1 := by kernel_rfl
theorem bytesYI : Tryd.prog.bytesOf 3 = 8 := by kernel_rfl
section
variable {H : Type} {enc : TypeId × Value → H} {W : World} {a : Option Addr} {len cap : Nat} {d : DataW H} {ps : List MemPlace}
theorem openVlists (h : DataW.Trod enc Tryd.prog W 0 (fun _ => true) true 22 (.slice a len cap) d ps) :
    ∃ l : List Vs, len = l.length ∧ VsE.See W a l ∧ (∀ y ∈ l, y.lies W) ∧ l.length ≤ cap ∧ cap ≤ maxLen ∧ (a = none → cap = 0) ∧ (Fit 22 d → cap * 24 ≤ 140737488351232 ∧ ∀ y ∈ l, y.c * 40 ≤ 140737488351232) ∧ (l.map fun y => y.l.length).sum ≤ Rows.uptoBulk d ∧ cap + 1 ≤ Rows.uptoBulk d :=
  openEls VsE Tryd.underlying22 cellsVs 24 bytesVs (fun y => y.lies W) (fun y => y.c * 40 ≤ 140737488351232) (fun y => y.l.length) (fun fuel cs x hx hcs => by
    obtain ⟨v, rfl⟩ : ∃ v, cs = [v] := by
      match cs, hcs with
      | [v], _ => exact ⟨v, rfl⟩
    have hv : ∃ a len cap, v = .slice a len cap := by
      rcases Go.Deep.open_slice Tryd.underlying30 hx with ⟨hcs, _⟩ | ⟨a, len, cap, _, _, _, _, hcs, _⟩
      · exact ⟨none, 0, 0, by simpa using hcs⟩
      · exact ⟨_, _, _, by simpa using hcs⟩
    obtain ⟨a, len, cap, rfl⟩ := hv
    have ht : DataW.Trod enc Tryd.prog W 0 (fun _ => true) true 30 (.slice a len cap) x.1 x.2 := ⟨fuel, hx⟩
    obtain ⟨l, rfl, hs, _, hl, hm, hn, hf, _, hb⟩ := openXv ht
    exact ⟨⟨a, cap, l⟩, ⟨seeV.1 hs, hl, hm, hn⟩, rfl, fun h => (hf h).1, by simp only; omega⟩) h
theorem openInts (h : DataW.Trod enc Tryd.prog W 0 (fun _ => true) true 24 (.slice a len cap) d ps) :
    ∃ l : List Int, len = l.length ∧ IntE.See W a l ∧ (∀ y ∈ l, True) ∧ l.length ≤ cap ∧ cap ≤ maxLen ∧ (a = none → cap = 0) ∧ (Fit 24 d → cap * 8 ≤ 140737488351232 ∧ ∀ y ∈ l, True) ∧ (l.map fun _ => 0).sum ≤ Rows.uptoBulk d ∧ cap + 1 ≤ Rows.uptoBulk d :=
  openEls IntE Tryd.underlying24 cellsYI 8 bytesYI (fun _ => True) (fun _ => True) (fun _ => 0) (fun fuel cs x hx hcs => by
    obtain ⟨v, rfl⟩ : ∃ v, cs = [v] := by
      match cs, hcs with
      | [v], _ => exact ⟨v, rfl⟩
    obtain ⟨n, e, _, _⟩ := DataW.trod_int Tryd.underlying3 hx
    simp at e
    subst e
    exact ⟨n, trivial, rfl, fun _ => trivial, Nat.zero_le _⟩) h
theorem lenOfSum {L : List Vs} {n : Nat} (h : (L.map fun y => y.l.length).sum ≤ n) : ∀ x ∈ L, x.l.length ≤ n := by
  induction L with
  | nil => simp
  | cons y L ih =>
    simp at h
    intro x hx
    rcases List.mem_cons.1 hx with rfl | hx
    · omega
    · exact ih (by omega) x hx
end
end Go.Proofs.YtfolkjjhlcjfgabDoor
end

section
namespace Go.Proofs.YtfolkjjhlcjfgabDoor
open Go.ChangeShapes Go.WideShapes Go.ChangeAt Go.RowKit Go.Hay
set_option linter.unusedVariables false

set_option maxRecDepth 100000 in
theorem execTwiceContract (H : Type) (enc : TypeId × Value → H) (W : World) (base : Nat) (args : Array Value) (ds gs : List (DataW H)) (before : List MemPlace)
    (hval : ∀ (j : Nat) t v, Tryd.f3.params[j]? = some t → args[j]? = some v → Value.okWide Tryd.prog W .any base t v)
    (hW : DataW.Whole enc Tryd.prog Tryd.f3.params.toList Rows.execTwiceSpec.vars false W args.toList ds gs before)
    (hsz : (DataW.weightsEach Tryd.prog (Tryd.f3.params.toList ++ (Rows.OpenSpec.upto Rows.execTwiceSpec).bare.plain.varTypes Tryd.prog) (ds ++ gs)).all (· ≤ reachBytes) = true)
    (hk : Rows.uptoSmall H (ds ++ gs) = true)
    (hL : laidMetH Tryd.prog Rows.execTwiceUptoRow.laid W) :
    Calls Tryd.prog 3 args W fun e W' => ∃ v, e = .returned v ∧ Rows.execTwiceSpec.post enc Tryd.prog Tryd.f3 false true false false W args v W' := by
  have hW' := hW
  obtain ⟨p, q, hA0, hV, rfl, hfz, hnd⟩ := hW
  have hA : DataW.TrodAll enc Tryd.prog W 0 (fun _ => true) true Tryd.f3.params.toList args.toList ds p := hA0
  rw [Tryd.params3] at hA hval hsz
  obtain ⟨v0, vs0, d0, ds0, p0, q0, hargs, rfl, rfl, h0, r0⟩ := trodAll_cons hA
  obtain ⟨v1, vs1, d1, ds1, p1, q1, rfl, rfl, rfl, h1, r1⟩ := trodAll_cons r0
  obtain ⟨v2, vs2, d2, ds2, p2, q2, rfl, rfl, rfl, h2, r2⟩ := trodAll_cons r1
  obtain ⟨rfl, rfl, rfl⟩ := trodAll_nil r2
  obtain rfl : args = #[v0, v1, v2] := by cases args; simp_all
  obtain ⟨rfl, rfl⟩ := trodVars_none hV
  obtain ⟨a0, len0, cap0, rfl⟩ := okWide_slice Tryd.underlying22 (hval 0 22 v0 rfl rfl)
  have k0 := h0
  have lt0 : ∀ x ∈ p0, x.block < W.heap.size := by obtain ⟨m, hm⟩ := k0; exact DataW.trod_lt m _ _ _ hm
  obtain ⟨l0, rfl, hs0, hok0, hl0, hm0, hn0, hfit0, hbk0, hcp0⟩ := openVlists h0
  obtain ⟨hc0, hq0⟩ := hfit0 (List.all_eq_true.2 fun x hx => List.all_eq_true.1 hsz x (by simp [DataW.weightsEach]; first | exact .inl hx | exact .inr hx | exact .inr (.inl hx) | exact .inr (.inr hx) | exact hx))
  obtain ⟨a1, len1, cap1, rfl⟩ := okWide_slice Tryd.underlying23 (hval 1 23 v1 rfl rfl)
  have k1 := h1
  have lt1 : ∀ x ∈ p1, x.block < W.heap.size := by obtain ⟨m, hm⟩ := k1; exact DataW.trod_lt m _ _ _ hm
  obtain ⟨l1, rfl, hs1, hok1, hl1, hm1, hn1, hfit1, hbk1, hcp1⟩ := openTerms h1
  obtain ⟨hc1, hq1⟩ := hfit1 (List.all_eq_true.2 fun x hx => List.all_eq_true.1 hsz x (by simp [DataW.weightsEach]; first | exact .inl hx | exact .inr hx | exact .inr (.inl hx) | exact .inr (.inr hx) | exact hx))
  obtain ⟨a2, len2, cap2, rfl⟩ := okWide_slice Tryd.underlying24 (hval 2 24 v2 rfl rfl)
  have k2 := h2
  have lt2 : ∀ x ∈ p2, x.block < W.heap.size := by obtain ⟨m, hm⟩ := k2; exact DataW.trod_lt m _ _ _ hm
  obtain ⟨l2, rfl, hs2, hok2, hl2, hm2, hn2, hfit2, hbk2, hcp2⟩ := openInts h2
  obtain ⟨hc2, hq2⟩ := hfit2 (List.all_eq_true.2 fun x hx => List.all_eq_true.1 hsz x (by simp [DataW.weightsEach]; first | exact .inl hx | exact .inr hx | exact .inr (.inl hx) | exact .inr (.inr hx) | exact hx))
  have hbk := of_decide_eq_true hk
  simp only [List.append_nil, Rows.uptoBulkAll] at hbk
  clear hA0
  refine (twiceWalk a0 cap0 l0 a1 cap1 l1 a2 cap2 l2 W (table hL) hs0 hok0 (by omega) (fun x h => by have := lenOfSum hbk0 x h; omega) hs1 hn1 hl1 hm1 (by omega) hs2 hn2 (by omega)).mono fun e W' ⟨he, bel⟩ => ?_
  subst he
  exact ⟨_, rfl, _, _, _, [], _, [], hW', trodAll_mk1 (shut_bool Tryd.underlying4 _), (trodAll_cons_mk (Below.trod Tryd.laidOut (by kernel_rfl) (of_decide_eq_true (by kernel_rfl)) k0 bel lt0) (trodAll_cons_mk (Below.trod Tryd.laidOut (by kernel_rfl) (of_decide_eq_true (by kernel_rfl)) k1 bel lt1) (trodAll_cons_mk (Below.trod Tryd.laidOut (by kernel_rfl) (of_decide_eq_true (by kernel_rfl)) k2 bel lt2) trodAll_mk0))), rfl, bel.frame _, fun h => by cases h⟩

set_option maxRecDepth 100000 in
theorem execTwiceLifted (os : Os) (started : os.Started) (H : Type) (enc : TypeId × Value → H) (F : Stop.Interp) :
    ReturnsInHanded {} Tryd.checked os 3 .any ((Rows.OpenSpec.upto Rows.execTwiceSpec).preRow enc Tryd.prog Tryd.f3 Rows.execTwiceUptoRow.domain false Rows.execTwiceUptoRow.laid) (((Rows.OpenSpec.upto Rows.execTwiceSpec).at F).post enc Tryd.prog Tryd.f3 false true false false) := by
  refine returnsInHanded_of_row (C := Tryd.checked) (s := Rows.OpenSpec.upto Rows.execTwiceSpec) Tryd.own started (by kernel_rfl) Tryd.func3
    (witness_row_at (enc := enc) (C := Tryd.checked) false ({ World.holding Tryd.prog os ⟨#[], #[], []⟩ with heap := (World.holding Tryd.prog os ⟨#[], #[], []⟩).heap.modify 0 fun
      | .cells _ t frozen => .cells tabCells t frozen
      | o => o }) #[.slice none 0 0, .slice none 0 0, .slice none 0 0] rfl (by kernel_rfl) (by kernel_rfl) (by kernel_rfl)
      (OpenSpec.preRow_of_cond (x := ([.nil, .nil, .nil], [], [])) 8 (by kernel_rfl) (by kernel_rfl) (fun k hk => by cases hk; kernel_rfl) (by kernel_rfl) (laidMet_of_run' 8 (by kernel_rfl) (by kernel_rfl)))) ?_
  intro W base args ds gs before hval hW _ hcond hsz hL _ _
  exact execTwiceContract H enc W base args ds gs before hval hW hsz (hcond _ rfl) hL

theorem execTwiceSaid : Rows.ExecTwiceUptoSaid :=
  OpenClaim.holds_of_cond 3 Tryd.f3 rfl rfl rfl rfl rfl rfl rfl ⟨rfl, rfl, rfl, rfl, rfl⟩ rfl rfl rfl rfl rfl (by kernel_rfl) Tryd.func3 (by kernel_rfl)
    (of_decide_eq_true (by kernel_rfl)) (by unfold Func.isWrapper; first | (rw [if_pos (by decide +kernel)]; kernel_rfl) | (rw [if_neg (by decide +kernel)]; exact ⟨rfl, rfl⟩))
    (fun os started H enc _ F => by rw [OpenClaim.pre_eq_preRow]; exact execTwiceLifted os started H enc F)

theorem execTwicePlain (f : FuncId) (fn : Func) (hf : Tryd.pinned.checked.prog.funcNamed "hayloft/hayloftlaw15.ExecTwice" = some f) (hfn : Tryd.pinned.checked.prog.funcs[f]? = some fn) :
    false = Tryd.pinned.checked.prog.looks [] ∧ ∀ (j : Nat) t, fn.params[j]? = some t → Tryd.pinned.checked.prog.wantsStandIn t = false := by
  obtain rfl : f = 3 := Option.some.inj ((show Tryd.prog.funcNamed "hayloft/hayloftlaw15.ExecTwice" = some 3 by kernel_rfl).symm.trans hf) |>.symm
  obtain rfl : fn = Tryd.f3 := (Option.some.inj (Tryd.func3.symm.trans hfn)).symm
  refine ⟨by kernel_rfl, fun j t ht => ?_⟩
  rw [Tryd.params3] at ht
  have hm := Array.mem_of_getElem? ht
  have h2 : t = 22 ∨ t = 23 ∨ t = 24 := by first | (simpa using hm) | (rcases (show t = 22 ∨ t = 23 ∨ t = 24 from by simpa using hm) with h | h | h <;> simp [h])
  rcases h2 with rfl | rfl | rfl
  · exact (show Tryd.prog.wantsStandIn 22 = false by kernel_rfl)
  · exact (show Tryd.prog.wantsStandIn 23 = false by kernel_rfl)
  · exact (show Tryd.prog.wantsStandIn 24 = false by kernel_rfl)

theorem ExecTwice_holds : Rows.ExecTwiceUptoCardSaid :=
  Claim7.holds_tied_plain_at .later [] _ _ _ _ execTwiceSaid (fun _ h => by cases h) (by kernel_rfl) (fun _ h => by cases h) execTwiceUpto_row_tie rfl ⟨rfl, rfl⟩ (by kernel_rfl) rfl execTwicePlain (by kernel_rfl)
#print axioms ExecTwice_holds
end Go.Proofs.YtfolkjjhlcjfgabDoor
end

/- Rows that are ranged over: what an iterator of rows promises, and who ranges over it keeps. slices.Values over rows. Rows that are gathered: a row of rows, each in blocks of its own. plan.ways as a plain list, and what an iterator of plans promises. -/
import Derived.Test.YtcgkkofmnajedaaGreatDoorB1
import Derived.Shelf.RegionOpen
import Derived.LoopIn
import Derived.LoopNIn
import Derived.OrdersIn
import Derived.TacticsInMore
import Derived.OwnWalkIn
import Derived.RegionIn
import Derived.RangeFuncCalls
section
namespace Go.Proofs.YtcgkkofmnajedaaGreatDoor
open Go.RowKit Go.Hay
set_option linter.unusedVariables false
set_option linter.unusedSimpArgs false

/-- A row is handed on as a slice. -/
abbrev encR (x : Vs) : Array Value := #[.slice x.a x.l.length x.c]
/-- How it stands: whether its memory is made, from which block on its records lie, which cells of its own it may turn, which blocks the rounds leave alone, how many rows were given, and the one that is given now. -/
structure Sr where
 made : Bool
 B0 : Nat
 qs : List Nat
 js : List Nat
 i : Nat
 p : Option Vs
def Sr.nx (s : Sr) (x : Vs) : Sr := { s with i := s.i + 1, p := none }
/-- What the iterator's own step may turn: new memory, records that hold no cells, from B0 on, and the cells qs. -/
structure TurnR (B0 : Nat) (qs : List Nat) (A B : World) : Prop where
 os : B.os = A.os
 tape : B.tape = A.tape
 output : B.output = A.output
 size : A.heap.size ≤ B.heap.size
 block : ∀ k, k < A.heap.size → B.heap[k]? = A.heap[k]? ∨ k ∈ qs ∨ (B0 ≤ k ∧ ∃ o : Obj, A.heap[k]? = some o ∧ o.isCells = false)
theorem TurnR.ofKp {B0 : Nat} {qs : List Nat} {A B : World} (h : Kp qs A B) : TurnR B0 qs A B := ⟨h.os, h.tape, h.output, h.size, fun k hk => by
 by_cases e : k ∈ qs
 ·exact .inr (.inl e)
 ·exact .inl (h.block k hk e)⟩
theorem TurnR.ofKp0 {B0 : Nat} {qs : List Nat} {A B : World} (h : Kp [] A B) : TurnR B0 qs A B := TurnR.ofKp (h.mono (by simp))
theorem TurnR.refl (B0 : Nat) (qs : List Nat) (A : World) : TurnR B0 qs A A := TurnR.ofKp0 (Kp.refl _ _)
theorem TurnR.ofGrown {B0 : Nat} {qs : List Nat} {A B : World} {row : Option Nat} (h : A.grownBy B row) (hr : ∀ r, row = some r → B0 ≤ r ∧ ∃ o : Obj, A.heap[r]? = some o ∧ o.isCells = false) : TurnR B0 qs A B :=
 ⟨h.os, h.tape, h.output, h.size, fun k hk => by
  by_cases e : row = some k
  ·exact .inr (.inr (hr k e))
  ·exact .inl (h.block k hk (fun e' => e e'.symm))⟩
theorem TurnR.trans {B0 : Nat} {qs : List Nat} {A B C : World} (h : TurnR B0 qs A B) (k : TurnR B0 qs B C) : TurnR B0 qs A C :=
 ⟨k.os.trans h.os, k.tape.trans h.tape, k.output.trans h.output, Nat.le_trans h.size k.size, fun j hj => by
  rcases h.block j hj with e | e | e
  ·rcases k.block j (Nat.lt_of_lt_of_le hj h.size) with e2 | e2 | ⟨e2, o, ho, hc⟩
   ·exact .inl (e2.trans e)
   ·exact .inr (.inl e2)
   ·exact .inr (.inr ⟨e2, o, e ▸ ho, hc⟩)
  ·exact .inr (.inl e)
  ·exact .inr (.inr e)⟩
/-- What is given lies in memory so. -/
structure Vs.lies (w : World) (x : Vs) : Prop where
 see : Vals w x.a x.l
 cap : x.l.length ≤ x.c
 most : x.c ≤ maxLen
 nil : x.a = none → x.c = 0
/-- The iterator's own step; fr: what it gives is new, and nobody else's. -/
structure StepR (fr : Bool) (R : List (List Val)) (s s' : Sr) (A B : World) : Prop where
 turn : TurnR s'.B0 s'.qs A B
 stays : s.made = true → s'.made = true ∧ s'.B0 = s.B0 ∧ ∀ q ∈ s'.qs, q ∈ s.qs ∨ (A.heap.size ≤ q ∧ q < B.heap.size)
 makes : s.made = false → s'.made = true ∧ A.heap.size ≤ s'.B0 ∧ ∀ q ∈ s'.qs, A.heap.size ≤ q ∧ q < B.heap.size
 js : ∀ j ∈ s'.js, j ∈ s.js ∨ (A.heap.size ≤ j ∧ j < B.heap.size)
 on : s'.i = s.i
 given : s'.p = none ∨ ∃ x, s'.p = some x ∧ R[s.i]? = some x.l ∧ x.lies B ∧ (fr = true → VE.Row B (.slice x.a x.l.length x.c) x.l ∧ ∀ k ∈ blk x.a, A.heap.size ≤ k ∧ k ∉ s'.js ∧ k ∉ s'.qs)
theorem StepR.same {fr : Bool} {R : List (List Val)} {s : Sr} {A B : World} (hm : s.made = true) (hp : s.p = none) (ht : TurnR s.B0 s.qs A B) : StepR fr R s s A B :=
 ⟨ht, fun _ => ⟨hm, rfl, fun q hq => .inl hq⟩, fun h => (by rw [hm] at h; cases h), fun j hj => .inl hj, rfl, .inl hp⟩
/-- What the iterator may turn behind its end. -/
def StepRX (s : Sr) (A B : World) : Prop := s.made = true ∧ TurnR s.B0 s.qs A B
/-- What the rounds leave alone: the blocks js, and every record from B0 on. -/
structure KeepR (s : Sr) (A B : World) : Prop where
 js : KeepB s.js A B
 recs : s.made = true → ∀ (k : Nat) (o : Obj), s.B0 ≤ k → A.heap[k]? = some o → o.isCells = false → B.heap[k]? = some o
theorem KeepR.trans {s : Sr} {A B C : World} (h : KeepR s A B) (k : KeepR s B C) : KeepR s A C :=
 ⟨h.js.trans k.js, fun hm j o hj ho hc => k.recs hm j o hj (h.recs hm j o hj ho hc) hc⟩
theorem KeepR.refl (s : Sr) (A : World) : KeepR s A A := ⟨KeepB.refl _ _, fun _ _ _ _ h _ => h⟩
theorem KeepR.alloc (s : Sr) (W : World) (o : Obj) : KeepR s W (W.alloc o) :=
 ⟨KeepB.alloc _ _ _, fun _ k o' _ ho _ => (Below.heap_alloc W o k (Array.getElem?_eq_some_iff.1 ho).1).trans ho⟩
/-- An iterator of just these rows: js: the blocks from which it reads. -/
def RowSeq (fr : Bool) (n : Nat) (g : Nat) (lb : Array Value) (R : List (List Val)) (js : List Nat) (w : World) : Prop :=
 SeqX Fence.wide n Tryz.prog g lb encR (StepR fr R) StepRX KeepR (fun s x => s.p = some x) Sr.nx (fun s => s.made = true ∧ s.i = R.length ∧ s.p = none) (fun s => s.made = true) ⟨false, 0, [], js, 0, none⟩ w
/-- Who ranges: the blocks below w0, but for those of S, lie as they lay; the iterator's own blocks are new, or are left alone. -/
structure CoR (w0 : World) (S : List Nat) (s : Sr) (W : World) : Prop where
 os : W.os = w0.os
 tape : W.tape = w0.tape
 output : W.output = w0.output
 size : w0.heap.size ≤ W.heap.size
 low : ∀ k, k < w0.heap.size → k ∉ S → W.heap[k]? = w0.heap[k]?
 mde : s.made = true → w0.heap.size + 2 ≤ s.B0 ∧ ∀ q ∈ s.qs, w0.heap.size + 2 ≤ q
 js : ∀ j ∈ s.js, j ∉ S ∧ j ≠ w0.heap.size ∧ j ≠ w0.heap.size + 1
 jl : ∀ j ∈ s.js, j < W.heap.size
 ql : ∀ q ∈ s.qs, q < W.heap.size
theorem CoR.kp {w0 : World} {S : List Nat} {s : Sr} {W : World} (h : CoR w0 S s W) : Kp S w0 W := ⟨h.os, h.tape, h.output, h.size, fun k hk hn => h.low k hk hn⟩
theorem CoR.grown {w0 : World} {S : List Nat} {s : Sr} {X Y : World} {row : Option Nat} (h : CoR w0 S s X) (hg : X.grownBy Y row) (hr : ∀ r, row = some r → w0.heap.size ≤ r ∧ ∃ o : Obj, X.heap[r]? = some o ∧ o.isCells = false) : CoR w0 S s Y :=
 ⟨hg.os.trans h.os, hg.tape.trans h.tape, hg.output.trans h.output, Nat.le_trans h.size hg.size, fun k hk hn => (hg.block k (Nat.lt_of_lt_of_le hk h.size) (fun e => by have := (hr k e.symm).1; omega)).trans (h.low k hk hn), h.mde, h.js, fun j hj => Nat.lt_of_lt_of_le (h.jl j hj) hg.size, fun j hj => Nat.lt_of_lt_of_le (h.ql j hj) hg.size⟩
theorem turnLowR {B0 : Nat} {qs : List Nat} {A B : World} (h : TurnR B0 qs A B) {k : Nat} (hk : k < A.heap.size) (h1 : k < B0) (h2 : k ∉ qs) : B.heap[k]? = A.heap[k]? := by
 rcases h.block k hk with e | e | ⟨e, _⟩
 ·exact e
 ·exact absurd e h2
 ·omega
theorem StepR.low {fr : Bool} {R : List (List Val)} {w0 : World} {s s' : Sr} {A B : World} (ht : StepR fr R s s' A B) (hm : s.made = true → w0.heap.size + 2 ≤ s.B0 ∧ ∀ q ∈ s.qs, w0.heap.size + 2 ≤ q) {k : Nat} (hk : k < A.heap.size) (hk2 : k < w0.heap.size + 2) : B.heap[k]? = A.heap[k]? := by
 cases hs : s.made with
 | true =>
  obtain ⟨_, e1, e2⟩ := ht.stays hs
  obtain ⟨h1, h2⟩ := hm hs
  exact turnLowR ht.turn hk (by omega) (fun hq => by rcases e2 k hq with e | e; have := h2 k e; omega; omega)
 | false =>
  obtain ⟨_, e1, e2⟩ := ht.makes hs
  exact turnLowR ht.turn hk (by omega) (fun hq => by have := (e2 k hq).1; omega)
theorem CoR.step {fr : Bool} {R : List (List Val)} {w0 : World} {S : List Nat} {s s' : Sr} {A B : World} (hS : ∀ k ∈ S, k < w0.heap.size) (hz : w0.heap.size + 2 ≤ A.heap.size) (h : CoR w0 S s A) (ht : StepR fr R s s' A B) : CoR w0 S s' B := by
 refine ⟨ht.turn.os.trans h.os, ht.turn.tape.trans h.tape, ht.turn.output.trans h.output, Nat.le_trans h.size ht.turn.size, fun k hk hn => (ht.low h.mde (by omega) (by omega)).trans (h.low k hk hn), fun _ => ?_, fun j hj => ?_, fun j hj => ?_, fun q hq => ?_⟩
 ·cases hs : s.made with
  | true =>
   obtain ⟨_, e1, e2⟩ := ht.stays hs
   obtain ⟨h1, h2⟩ := h.mde hs
   exact ⟨by omega, fun q hq => by rcases e2 q hq with e | e; exact h2 q e; omega⟩
  | false =>
   obtain ⟨_, e1, e2⟩ := ht.makes hs
   exact ⟨by omega, fun q hq => by have := (e2 q hq).1; omega⟩
 ·rcases ht.js j hj with e | e
  ·exact h.js j e
  ·exact ⟨fun hm => by have := hS j hm; omega, by omega, by omega⟩
 ·rcases ht.js j hj with e | e
  ·exact Nat.lt_of_lt_of_le (h.jl j e) ht.turn.size
  ·exact e.2
 ·cases hs : s.made with
  | true =>
   obtain ⟨_, e1, e2⟩ := ht.stays hs
   rcases e2 q hq with e | e
   ·exact Nat.lt_of_lt_of_le (h.ql q e) ht.turn.size
   ·exact e.2
  | false => exact ((ht.makes hs).2.2 q hq).2
theorem CoR.recs {w0 : World} {S : List Nat} {s : Sr} {W : World} (h : CoR w0 S s W) (o' : Obj) : KeepR s W (W.putObj (w0.heap.size + 1) o') :=
 ⟨⟨by simp, fun k hk o ho => (World.putObj_heap_other (by have := (h.js k hk).2.2; omega)).trans ho⟩, fun hm k o hk ho _ => (World.putObj_heap_other (by have := (h.mde hm).1; omega)).trans ho⟩
theorem CoR.keeps {fr : Bool} {R : List (List Val)} {w0 : World} {S : List Nat} {s s' : Sr} {A B : World} (h : CoR w0 S s A) (ht : StepR fr R s s' A B) (k : Nat) (o : Obj) (hk : k = w0.heap.size ∨ k = w0.heap.size + 1) (ho : A.heap[k]? = some o) : B.heap[k]? = some o :=
 (ht.low h.mde (Array.getElem?_eq_some_iff.1 ho).1 (by omega)).trans ho
theorem CoR.stepX {w0 : World} {S : List Nat} {s : Sr} {A B : World} (h : CoR w0 S s A) (ht : StepRX s A B) : CoR w0 S s B := by
 obtain ⟨h1, h2⟩ := h.mde ht.1
 exact ⟨ht.2.os.trans h.os, ht.2.tape.trans h.tape, ht.2.output.trans h.output, Nat.le_trans h.size ht.2.size, fun k hk hn => (turnLowR ht.2 (Nat.lt_of_lt_of_le hk h.size) (by omega) (fun hq => by have := h2 k hq; omega)).trans (h.low k hk hn), h.mde, h.js, fun j hj => Nat.lt_of_lt_of_le (h.jl j hj) ht.2.size, fun j hj => Nat.lt_of_lt_of_le (h.ql j hj) ht.2.size⟩
theorem CoR.keepsX {w0 : World} {S : List Nat} {s : Sr} {A B : World} (h : CoR w0 S s A) (ht : StepRX s A B) (k : Nat) (o : Obj) (hk : k = w0.heap.size ∨ k = w0.heap.size + 1) (ho : A.heap[k]? = some o) : B.heap[k]? = some o := by
 obtain ⟨h1, h2⟩ := h.mde ht.1
 exact (turnLowR ht.2 (Array.getElem?_eq_some_iff.1 ho).1 (by omega) (fun hq => by have := h2 k hq; omega)).trans ho
/-- A round that writes into the blocks T, all of them cells and none of them the iterator's. -/
theorem CoR.round {w0 : World} {S T : List Nat} {s : Sr} {A B : World} {x : Vs} (h : CoR w0 S s A) (hk : Kp T A B) (hT : ∀ k ∈ T, A.heap[k]?.map Obj.isCells = some true) (hS : ∀ k ∈ T, k ∈ S ∨ w0.heap.size ≤ k) (hj : ∀ k ∈ T, k ∉ s.js) : KeepsFrom w0.heap.size A B ∧ KeepR s A B ∧ CoR w0 S (s.nx x) B := by
 have hne : ∀ k (o : Obj), A.heap[k]? = some o → o.isCells = false → k ∉ T := fun k o ho hc e => by
  have := hT k e
  rw [ho] at this
  simp at this
  rw [this] at hc
  cases hc
 refine ⟨⟨hk.size, fun k o _ ho hc => (hk.block k (Array.getElem?_eq_some_iff.1 ho).1 (hne k o ho hc)).trans ho⟩, ⟨⟨hk.size, fun k hk' o ho => (hk.block k (Array.getElem?_eq_some_iff.1 ho).1 (fun hm => hj k hm hk')).trans ho⟩, fun _ k o _ ho hc => (hk.block k (Array.getElem?_eq_some_iff.1 ho).1 (hne k o ho hc)).trans ho⟩, ⟨hk.os.trans h.os, hk.tape.trans h.tape, hk.output.trans h.output, Nat.le_trans h.size hk.size, fun k hk' hn => (hk.block k (Nat.lt_of_lt_of_le hk' h.size) (fun hm => by rcases hS k hm with e | e; exact hn e; omega)).trans (h.low k hk' hn), h.mde, h.js, fun j hj => Nat.lt_of_lt_of_le (h.jl j hj) hk.size, fun j hj => Nat.lt_of_lt_of_le (h.ql j hj) hk.size⟩⟩
end Go.Proofs.YtcgkkofmnajedaaGreatDoor
end

section
namespace Go.Proofs.YtcgkkofmnajedaaGreatDoor
open Go.RowKit Go.Hay
attribute [local go_sem] Oper.semAt_some
set_option linter.unusedVariables false
set_option linter.unusedSimpArgs false

theorem vsAt {w : World} {a : Option Addr} {l : List Vs} (h : VsE.See w a l) {k : Nat} {x : Vs} (hx : l[k]? = some x) : ∃ g o, a = some ⟨g, o, none⟩ ∧ w.cell? ⟨g, o + k, none⟩ = some (.slice x.a x.l.length x.c) := by
 obtain ⟨g, o, e, hc⟩ := h.at hx
 refine ⟨g, o, e, ?_⟩
 have := hc 0 _ rfl
 simpa [VsE] using this
theorem valsKeepB {X Y : World} {a : Option Addr} {l : List Val} {js : List Nat} (h : Vals X a l) (hk : KeepB js X Y) (hj : ∀ k ∈ blk a, k ∈ js) : Vals Y a l := by
 rcases h with e | ⟨g, o, e, h⟩
 ·exact .inl e
 ·subst e
  have hg : g ∈ js := hj g (by simp [blk])
  refine .inr ⟨g, o, rfl, fun j y hy => ?_⟩
  obtain ⟨h0, h1, h2, h3⟩ := h j y hy
  exact ⟨hk.cell hg h0, hk.cell hg h1, hk.cell hg h2, hk.cell hg h3⟩
/-- A slice of rows in a box, and all that it sees in the blocks js. -/
structure AtV (q : Nat) (ra : Option Addr) (rc : Nat) (L : List Vs) (js : List Nat) (w : World) : Prop where
 box : w.cell? ⟨q, 0, none⟩ = some (.slice ra L.length rc)
 see : VsE.See w ra L
 lies : ∀ x ∈ L, x.lies w
 len : L.length ≤ 9223372036854775807
 q_ : q ∈ js
 ra_ : ∀ k ∈ blk ra, k ∈ js
 row_ : ∀ x ∈ L, ∀ k ∈ blk x.a, k ∈ js
set_option maxHeartbeats 8000000 in
set_option maxRecDepth 100000 in
theorem valuesSeq (n : Nat) (hn : 1 ≤ n) (q : Nat) (ra : Option Addr) (rc : Nat) (L : List Vs) (js : List Nat) (w : World) (hA : AtV q ra rc L js w) :
  RowSeq false n 94 #[.pointer (some ⟨q, 0, none⟩)] (L.map (·.l)) js w := by
 intro ly J Jx W hW hT hX hY h0
 have hb1W := hW.js.cell hA.q_ hA.box
 have hkW := hid hW.js
 have hJ1 : J ⟨true, W.heap.size, [], js, 0, none⟩ W := hT _ _ _ _ h0 ⟨TurnR.refl _ _ _, fun h => (by cases h), fun _ => ⟨rfl, Nat.le_refl _, by simp⟩, fun j hj => .inl hj, rfl, .inl rfl⟩
 have HA := hid hA
 have hlen := hA.len
 obtain ⟨B0, hB0⟩ : ∃ B, Hid (W.heap.size = B) := ⟨_, rfl⟩
 rw [hB0.out] at hJ1
 clear hA hW h0
 refine callsIn_of_wp Tryz.func94 rfl trivial ?_ rfl
 simp only [Tryz.ntmps94, List.size_toArray, List.length_cons, List.length_nil, Nat.reduceAdd, Nat.reduceSub, Array.replicate_succ, Array.replicate_zero, List.push_toArray, List.append_toArray, List.nil_append, List.cons_append]
 gi_wp2_with fail
 gi_loopw [7] (fun i wr => ∃ k : Nat, k ≤ L.length ∧ i = .int .i64 k ∧ J ⟨true, B0, [], js, k, none⟩ wr ∧ Hid (KeepB js w wr)) (fun i _ => L.length - (intOf i).toNat)
 case atStart => exact ⟨0, Nat.zero_le _, rfl, hJ1, hkW⟩
 case round =>
  obtain ⟨k, hk, rfl, hJk, hkr⟩ := hrel
  clear hJ1 hb1W hkW
  by_cases hkL : k < L.length
  ·have hx : L[k]? = some L[k] := by simp [hkL]
   obtain ⟨g, o, ea, c0⟩ := vsAt HA.out.see hx
   have cg : wr.cell? ⟨g, o + k, none⟩ = some (.slice L[k].a L[k].l.length L[k].c) := hkr.out.cell (HA.out.ra_ g (by rw [ea]; simp [blk])) c0
   have hli := HA.out.lies L[k] (List.getElem_mem hkL)
   have hl2 : L[k].lies wr := ⟨valsKeepB hli.see hkr.out (HA.out.row_ L[k] (List.getElem_mem hkL)), hli.cap, hli.most, hli.nil⟩
   have hJ2 : J ⟨true, B0, [], js, k, some L[k]⟩ wr := hT _ _ _ _ hJk ⟨TurnR.refl _ _ _, fun _ => ⟨rfl, rfl, fun q hq => .inl hq⟩, fun h => (by cases h), fun j hj => .inl hj, rfl, .inr ⟨_, rfl, by simp [hkL], hl2, fun h => (by cases h)⟩⟩
   obtain ⟨fn, tmps, assign, body, hy, hR⟩ := hY _ _ _ hJ2 rfl
   dsimp only [encR] at hy
   generalize L[k] = x at *
   obtain ⟨xa, xc, xl⟩ := x
   dsimp only at cg hy
   have i1 : (0 : Int) ≤ (k : Int) := by omega
   have i2 : (k : Int) < (L.length : Int) := by omega
   have i3 : (k : Int) + 1 ≤ 9223372036854775807 := by omega
   have hR' := hid hR
   subst ea
   clear hR hJ2 hl2 hli hx c0 hJk
   gi_wp2_with fail
   refine hR'.out.mono ?_
   rintro e1 W3 (⟨rfl, hJ3, hk3⟩ | ⟨rfl, hJx, hk3⟩)
   ·have hkk := hid (hkr.out.trans hk3.js)
    have hJ4 : J ⟨true, B0, [], js, k + 1, none⟩ W3 := hJ3
    clear hR' hy hkr hJ3
    gi_wp2_with fail
    go_roundw
    case rel => exact ⟨k + 1, by omega, by go_num, hJ4, hkk⟩
    case measure => simp [intOf]; omega
   ·clear hR' hy
    gi_wp2_with fail
    refine bodyPost_ret (results_none rfl _ _ _) rfl ?_
    exact ⟨⟨_, rfl⟩, .inr ⟨_, rfl, hJx⟩⟩
  ·have e : k = L.length := by omega
   subst e
   gi_wp2
   go_end0
   exact ⟨⟨_, rfl⟩, .inl ⟨_, ⟨rfl, by simp, rfl⟩, hJk⟩⟩
end Go.Proofs.YtcgkkofmnajedaaGreatDoor
end

section
namespace Go.Proofs.YtcgkkofmnajedaaGreatDoor
open Go.RowKit Go.Hay
set_option linter.unusedVariables false
set_option linter.unusedSimpArgs false

theorem ownV (a : Option Addr) (n c : Nat) : own (.slice a n c) = blk a := by cases a <;> rfl
/-- The cells of the blocks of P stand as they stood. -/
def CK (P : Nat → Prop) (X Y : World) : Prop := X.heap.size ≤ Y.heap.size ∧ ∀ p u, P p.block → X.cell? p = some u → Y.cell? p = some u ∧ Y.frozen? p = X.frozen? p
theorem CK.mono {P Q : Nat → Prop} {X Y : World} (h : CK P X Y) (hq : ∀ k, Q k → P k) : CK Q X Y := ⟨h.1, fun p u hp hc => h.2 p u (hq _ hp) hc⟩
theorem CK.trans {P : Nat → Prop} {X Y Z : World} (h : CK P X Y) (k : CK P Y Z) : CK P X Z := ⟨Nat.le_trans h.1 k.1, fun p u hp hc => by
 obtain ⟨h1, h2⟩ := h.2 p u hp hc
 obtain ⟨h3, h4⟩ := k.2 p u hp h1
 exact ⟨h3, h4.trans h2⟩⟩
theorem CK.ofBlock {P : Nat → Prop} {X Y : World} (hz : X.heap.size ≤ Y.heap.size) (h : ∀ k, P k → k < X.heap.size → Y.heap[k]? = X.heap[k]? ∨ ∃ o : Obj, X.heap[k]? = some o ∧ o.isCells = false) : CK P X Y := ⟨hz, fun p u hp hc => by
 have hl := World.block_lt_of_cell? _ _ hc
 rcases h p.block hp hl with e | ⟨o, ho, hf⟩
 ·exact ⟨(World.cell?_of_block e).trans hc, World.frozen?_of_block e⟩
 ·unfold World.cell? at hc
  rw [ho] at hc
  cases o <;> simp_all [Obj.isCells]⟩
theorem CK.ofKp {S : List Nat} {X Y : World} (h : Kp S X Y) : CK (fun k => k ∉ S) X Y := CK.ofBlock h.size fun k hk hl => .inl (h.block k hl hk)
theorem CK.ofTurn {B0 : Nat} {qs : List Nat} {X Y : World} (h : TurnR B0 qs X Y) : CK (fun k => k ∉ qs) X Y := CK.ofBlock h.size fun k hk hl => by
 rcases h.block k hl with e | e | ⟨_, e⟩
 ·exact .inl e
 ·exact absurd e hk
 ·exact .inr e
theorem CK.ofGrown {X Y : World} {row : Option Nat} (h : X.grownBy Y row) (hr : ∀ r, row = some r → ∃ o : Obj, X.heap[r]? = some o ∧ o.isCells = false) : CK (fun _ => True) X Y := CK.ofBlock h.size fun k _ hl => by
 by_cases e : row = some k
 ·exact .inr (hr k e)
 ·exact .inl (h.block k hl (fun e' => e e'.symm))
theorem ckVals {P : Nat → Prop} {X Y : World} (h : CK P X Y) {a : Option Addr} {l : List Val} (hv : Vals X a l) (hP : ∀ k ∈ blk a, P k) : Vals Y a l := by
 rcases hv with e | ⟨g, o, e, hc⟩
 ·exact .inl e
 ·subst e
  have hg := hP g (by simp [blk])
  refine .inr ⟨g, o, rfl, fun j y hy => ?_⟩
  obtain ⟨h0, h1, h2, h3⟩ := hc j y hy
  exact ⟨(h.2 ⟨g, _, none⟩ _ hg h0).1, (h.2 ⟨g, _, none⟩ _ hg h1).1, (h.2 ⟨g, _, none⟩ _ hg h2).1, (h.2 ⟨g, _, none⟩ _ hg h3).1⟩
theorem ckRow {α : Type} {E : El α} {P : Nat → Prop} {X Y : World} (h : CK P X Y) {a : Option Addr} {n c : Nat} {l : List α} (hr : E.Row X (.slice a n c) l) (hP : ∀ k ∈ blk a, P k) : E.Row Y (.slice a n c) l := by
 rcases hr with e | ⟨g, o, cap, e, h1, h2, h3, h4, h5⟩
 ·exact .inl e
 ·injection e with e1 e2 e3
  subst e1 e2 e3
  have hg := hP g (by simp [blk])
  refine .inr ⟨g, o, c, rfl, h1, h2, Nat.lt_of_lt_of_le h3 h.1, fun j u hu => (h.2 ⟨g, _, none⟩ u hg (h4 j u hu)).1, fun j hj => ?_⟩
  obtain ⟨h6, h7⟩ := h5 j hj
  obtain ⟨u, hu⟩ := Option.isSome_iff_exists.1 h6
  obtain ⟨h8, h9⟩ := h.2 ⟨g, _, none⟩ u hg hu
  exact ⟨by rw [h8]; rfl, h9.trans h7⟩
theorem Vs.lies.ck {P : Nat → Prop} {X Y : World} {x : Vs} (hx : x.lies X) (h : CK P X Y) (hP : ∀ k ∈ blk x.a, P k) : x.lies Y := ⟨ckVals h hx.see hP, hx.cap, hx.most, hx.nil⟩
/-- Rows that were gathered: all blocks from N on, the rows apart from the row of rows. -/
structure Lot (N : Nat) (ra : Option Addr) (rc : Nat) (L : List Vs) (W : World) : Prop where
 row : VsE.Row W (.slice ra L.length rc) L
 lies : ∀ x ∈ L, x.lies W
 own : ∀ k ∈ blk ra, N ≤ k
 rows : ∀ x ∈ L, ∀ k ∈ blk x.a, N ≤ k ∧ k < W.heap.size ∧ k ∉ blk ra
theorem Lot.nil (N : Nat) (W : World) : Lot N none 0 [] W := ⟨.inl ⟨rfl, rfl⟩, by simp, by simp [blk], by simp⟩
theorem Lot.ck {N : Nat} {ra : Option Addr} {rc : Nat} {L : List Vs} {P : Nat → Prop} {X Y : World} (h : Lot N ra rc L X) (k : CK P X Y) (h1 : ∀ k ∈ blk ra, P k) (h2 : ∀ x ∈ L, ∀ k ∈ blk x.a, P k) : Lot N ra rc L Y :=
 ⟨ckRow k h.row h1, fun x hx => (h.lies x hx).ck k (h2 x hx), h.own, fun x hx j hj => ⟨(h.rows x hx j hj).1, Nat.lt_of_lt_of_le (h.rows x hx j hj).2.1 k.1, (h.rows x hx j hj).2.2⟩⟩
theorem Lot.lt {N : Nat} {ra : Option Addr} {rc : Nat} {L : List Vs} {X : World} (h : Lot N ra rc L X) : ∀ k ∈ blk ra, k < X.heap.size := fun k hk => h.row.lt k (by rw [ownV]; exact hk)
theorem Lot.mono {N M : Nat} {ra : Option Addr} {rc : Nat} {L : List Vs} {X : World} (h : Lot N ra rc L X) (hm : M ≤ N) : Lot M ra rc L X :=
 ⟨h.row, h.lies, fun k hk => Nat.le_trans hm (h.own k hk), fun x hx k hk => ⟨Nat.le_trans hm (h.rows x hx k hk).1, (h.rows x hx k hk).2⟩⟩
theorem infoVs : ∃ i : TypeInfo, Tryz.prog.info? 61 = some i ∧ i.zero = some (.slice none 0 0) ∧ i.size = 1 ∧ i.bytes = 24 := by
 have h : (Tryz.prog.info? 61).map (fun i => (i.zero, i.size, i.bytes)) = some (some (.slice none 0 0), 1, 24) := by kernel_rfl
 cases e : Tryz.prog.info? 61 with
 | none => rw [e] at h; cases h
 | some i =>
  rw [e] at h
  simp at h
  exact ⟨i, rfl, h.1, h.2.1, h.2.2⟩
/-- One more row, behind the others. -/
theorem Lot.app {N : Nat} {ra : Option Addr} {rc : Nat} {L : List Vs} {w : World} (h : Lot N ra rc L w) (x : Vs) (hx : x.lies w) (hN : N ≤ w.heap.size) (hb : ∀ k ∈ blk x.a, N ≤ k ∧ k < w.heap.size ∧ k ∉ blk ra) (hl : L.length ≤ 4000000000000) :
  ∃ a' c' W', (Builtin.append_ #[60, 60] 60 #[.slice ra L.length rc, .slice (some ⟨w.heap.size, 0, none⟩) 1 1]).run Tryz.prog (w.alloc (.cells #[.slice x.a x.l.length x.c] 61)) = .ok (.slice a' (L ++ [x]).length c') W' ∧ Lot N a' c' (L ++ [x]) W' ∧ Kp (blk ra) w W' ∧ ∀ k ∈ blk a', k ∈ blk ra ∨ w.heap.size ≤ k := by
 obtain ⟨A1, hA1⟩ : ∃ A1, w.alloc (.cells #[.slice x.a x.l.length x.c] 61) = A1 := ⟨_, rfl⟩
 have kA1 : Kp [] w A1 := by rw [← hA1]; exact (Kp.refl _ _).alloc _
 have bx1 : Bn A1 w.heap.size (VsE.c x) := by rw [← hA1]; exact Bn.new w (VsE.c x) _
 have hs1 : VsE.See A1 (some ⟨w.heap.size, 0, none⟩) [x] := .inr ⟨w.heap.size, 0, rfl, fun j u hu => by rw [Nat.zero_add]; exact bx1.get j u (by simpa [El.cs] using hu)⟩
 obtain ⟨i0, hi, hz0', hz1', hz2'⟩ := infoVs
 have hsr := hs1.src (P := Tryz.prog) Tryz.underlying60 1
 obtain ⟨v', A2, hrun, hrow2, k2, hn2⟩ := run_appendG (E := VsE) (P := Tryz.prog) A1 60 60 60 61 i0 _ 24 Tryz.underlying60 hi hz0' hz1' hz2' rfl (.slice ra L.length rc) L (h.row.keptNew kA1) _ [x] hsr (by simp only [List.length_cons, List.length_nil]; omega) (by simp only [List.length_cons, List.length_nil]; omega)
 obtain ⟨a', c', rfl, _⟩ := hrow2.see
 simp only [ownV] at k2 hn2
 rw [hA1]
 have z1 := kA1.size
 have kw : Kp (blk ra) w A2 := (kA1.mono (by simp)).trans k2 (fun j hj => .inl hj)
 have hnew : ∀ k ∈ blk a', k ∈ blk ra ∨ w.heap.size ≤ k := fun k hk => by
  rcases hn2 k hk with e | e
  ·exact .inl e
  ·exact .inr (by omega)
 have ck := CK.ofKp kw
 refine ⟨a', c', A2, hrun, ⟨hrow2, fun y hy => ?_, fun k hk => ?_, fun y hy k hk => ?_⟩, kw, hnew⟩
 ·rcases List.mem_append.1 hy with hy | hy
  ·exact (h.lies y hy).ck ck (fun k hk => (h.rows y hy k hk).2.2)
  ·rw [List.mem_singleton.1 hy]; exact hx.ck ck (fun k hk => (hb k hk).2.2)
 ·rcases hnew k hk with e | e
  ·exact h.own k e
  ·omega
 ·have h0 : N ≤ k ∧ k < w.heap.size ∧ k ∉ blk ra := by
   rcases List.mem_append.1 hy with hy | hy
   ·exact h.rows y hy k hk
   ·rw [List.mem_singleton.1 hy] at hk; exact hb k hk
  refine ⟨h0.1, Nat.lt_of_lt_of_le h0.2.1 kw.size, fun hm => ?_⟩
  rcases hnew k hm with e | e
  ·exact h0.2.2 e
  ·omega
end Go.Proofs.YtcgkkofmnajedaaGreatDoor
end

section
namespace Go.Proofs.YtcgkkofmnajedaaGreatDoor
open Go.RowKit Go.Hay
attribute [local go_sem] Oper.semAt_some
set_option linter.unusedVariables false
set_option linter.unusedSimpArgs false

/-- A plan is handed on as two numbers. -/
abbrev plV (x : Int × Int) : Value := .agg #[.int .i64 x.1, .int .i64 x.2]
abbrev encW (x : Int × Int) : Array Value := #[plV x]
/-- How it stands: its own cells that it may turn, the blocks the rounds leave alone, how many were given, and the one that is given now. -/
structure Sw where
 qs : List Nat
 js : List Nat
 i : Nat
 p : Option (Int × Int)
def Sw.nx (s : Sw) (x : Int × Int) : Sw := { s with i := s.i + 1, p := none }
/-- The iterator's own step. -/
structure StepW (R : List (Int × Int)) (s s' : Sw) (A B : World) : Prop where
 turn : Kp s'.qs A B
 qs : ∀ q ∈ s'.qs, q ∈ s.qs ∨ (A.heap.size ≤ q ∧ q < B.heap.size)
 js : ∀ j ∈ s'.js, j ∈ s.js ∨ (A.heap.size ≤ j ∧ j < B.heap.size)
 on : s'.i = s.i
 given : s'.p = none ∨ ∃ x, s'.p = some x ∧ R[s.i]? = some x
def StepWX (s : Sw) (A B : World) : Prop := Kp [] A B
def KeepW (s : Sw) (A B : World) : Prop := KeepB s.js A B
theorem KeepW.trans {s : Sw} {A B C : World} (h : KeepW s A B) (k : KeepW s B C) : KeepW s A C := KeepB.trans h k
/-- An iterator of just these plans: js: the blocks from which it reads. -/
def PlSeq (n : Nat) (g : Nat) (lb : Array Value) (R : List (Int × Int)) (js : List Nat) (w : World) : Prop :=
 SeqX Fence.wide n Tryz.prog g lb encW (StepW R) StepWX KeepW (fun s x => s.p = some x) Sw.nx (fun s => s.i = R.length ∧ s.p = none) (fun _ => True) ⟨[], js, 0, none⟩ w
/-- Who ranges: the blocks below w0, but for those of S, lie as they lay. -/
structure CoW (w0 : World) (S : List Nat) (s : Sw) (W : World) : Prop where
 os : W.os = w0.os
 tape : W.tape = w0.tape
 output : W.output = w0.output
 size : w0.heap.size ≤ W.heap.size
 low : ∀ k, k < w0.heap.size → k ∉ S → W.heap[k]? = w0.heap[k]?
 own : ∀ q ∈ s.qs, w0.heap.size + 2 ≤ q
 js : ∀ j ∈ s.js, j ∉ S ∧ j ≠ w0.heap.size ∧ j ≠ w0.heap.size + 1
 jl : ∀ j ∈ s.js, j < W.heap.size
theorem CoW.kp {w0 : World} {S : List Nat} {s : Sw} {W : World} (h : CoW w0 S s W) : Kp S w0 W := ⟨h.os, h.tape, h.output, h.size, fun k hk hn => h.low k hk hn⟩
theorem CoW.grown {w0 : World} {S : List Nat} {s : Sw} {X Y : World} {row : Option Nat} (h : CoW w0 S s X) (hg : X.grownBy Y row) (hr : ∀ r, row = some r → w0.heap.size ≤ r ∧ ∃ o : Obj, X.heap[r]? = some o ∧ o.isCells = false) : CoW w0 S s Y :=
 ⟨hg.os.trans h.os, hg.tape.trans h.tape, hg.output.trans h.output, Nat.le_trans h.size hg.size, fun k hk hn => (hg.block k (Nat.lt_of_lt_of_le hk h.size) (fun e => by have := (hr k e.symm).1; omega)).trans (h.low k hk hn), h.own, h.js, fun j hj => Nat.lt_of_lt_of_le (h.jl j hj) hg.size⟩
theorem StepW.low {R : List (Int × Int)} {w0 : World} {s s' : Sw} {A B : World} {k : Nat} (hk : k < A.heap.size) (ht : StepW R s s' A B) (hm : ∀ q ∈ s.qs, w0.heap.size + 2 ≤ q) (hk2 : k < w0.heap.size + 2) : B.heap[k]? = A.heap[k]? :=
 ht.turn.block k hk (fun hq => by rcases ht.qs k hq with e | e; have := hm k e; omega; omega)
theorem CoW.step {R : List (Int × Int)} {w0 : World} {S : List Nat} {s s' : Sw} {A B : World} (hS : ∀ k ∈ S, k < w0.heap.size) (hz : w0.heap.size + 2 ≤ A.heap.size) (h : CoW w0 S s A) (ht : StepW R s s' A B) : CoW w0 S s' B := by
 refine ⟨ht.turn.os.trans h.os, ht.turn.tape.trans h.tape, ht.turn.output.trans h.output, Nat.le_trans h.size ht.turn.size, fun k hk hn => (ht.low (by omega) h.own (by omega)).trans (h.low k hk hn), fun q hq => ?_, fun j hj => ?_, fun j hj => ?_⟩
 ·rcases ht.qs q hq with e | e
  ·exact h.own q e
  ·omega
 ·rcases ht.js j hj with e | e
  ·exact h.js j e
  ·exact ⟨fun hm => by have := hS j hm; omega, by omega, by omega⟩
 ·rcases ht.js j hj with e | e
  ·exact Nat.lt_of_lt_of_le (h.jl j e) ht.turn.size
  ·exact e.2
theorem CoW.recs {w0 : World} {S : List Nat} {s : Sw} {W : World} (h : CoW w0 S s W) (o' : Obj) : KeepW s W (W.putObj (w0.heap.size + 1) o') :=
 ⟨by simp, fun k hk o ho => (World.putObj_heap_other (by have := (h.js k hk).2.2; omega)).trans ho⟩
theorem CoW.stepX {w0 : World} {S : List Nat} {s : Sw} {A B : World} (h : CoW w0 S s A) (ht : StepWX s A B) : CoW w0 S s B :=
 ⟨ht.os.trans h.os, ht.tape.trans h.tape, ht.output.trans h.output, Nat.le_trans h.size ht.size, fun k hk hn => (ht.block k (Nat.lt_of_lt_of_le hk h.size) (by simp)).trans (h.low k hk hn), h.own, h.js, fun j hj => Nat.lt_of_lt_of_le (h.jl j hj) ht.size⟩
/-- A round that writes into the blocks T, none of them the iterator's. -/
theorem CoW.round {w0 : World} {S T : List Nat} {s : Sw} {A B : World} {x : Int × Int} (h : CoW w0 S s A) (hk : Kp T A B) (hT : ∀ k ∈ T, A.heap[k]?.map Obj.isCells = some true) (hS : ∀ k ∈ T, k ∈ S ∨ w0.heap.size ≤ k) (hj : ∀ k ∈ T, k ∉ s.js) : KeepsFrom w0.heap.size A B ∧ KeepW s A B ∧ CoW w0 S (s.nx x) B := by
 have hne : ∀ k (o : Obj), A.heap[k]? = some o → o.isCells = false → k ∉ T := fun k o ho hc e => by
  have := hT k e
  rw [ho] at this
  simp at this
  rw [this] at hc
  cases hc
 exact ⟨⟨hk.size, fun k o _ ho hc => (hk.block k (Array.getElem?_eq_some_iff.1 ho).1 (hne k o ho hc)).trans ho⟩, ⟨hk.size, fun k hk' o ho => (hk.block k (Array.getElem?_eq_some_iff.1 ho).1 (fun hm => hj k hm hk')).trans ho⟩, ⟨hk.os.trans h.os, hk.tape.trans h.tape, hk.output.trans h.output, Nat.le_trans h.size hk.size, fun k hk' hn => (hk.block k (Nat.lt_of_lt_of_le hk' h.size) (fun hm => by rcases hS k hm with e | e; exact hn e; omega)).trans (h.low k hk' hn), h.own, h.js, fun j hj => Nat.lt_of_lt_of_le (h.jl j hj) hk.size⟩⟩

/-- A projection's columns, as they lie. -/
def colsOf (p : Pj) : Il := ⟨p.ca, p.cc, p.cl⟩
theorem colsOf_ok {w : World} {p : Pj} (h : p.ok w) : (colsOf p).ok w := ⟨h.cols, Nat.le_trans h.ccap h.cmax⟩
/-- It gives the table alone. -/
def isS (m : Nat) (t : Int) (p : Pj) : Bool := decide (p.tb = t) && hvA m [colsOf p]
/-- It gives a part of the table. -/
def isP (m : Nat) (t : Int) (p : Pj) : Bool := decide (p.tb = t) && !hvA m [colsOf p]
def pjOf (pl : List Pj) (i : Nat) : Pj := pl.getD i default
def sgW (m : Nat) (t : Int) (pl : List Pj) (ix : List Nat) : List (Int × Int) := (ix.filter fun i => isS m t (pjOf pl i)).map fun (i : Nat) => ((i : Int), (-1 : Int))
def ptW (m : Nat) (t : Int) (pl : List Pj) (ix : List Nat) : List Nat := ix.filter fun i => isP m t (pjOf pl i)
def bothW (m : Nat) (pl : List Pj) (i k : Nat) : Bool := hvA m [colsOf (pjOf pl i), colsOf (pjOf pl k)]
def inW (f : Nat → Nat → Bool) (i : Nat) (r : List Nat) : List (Int × Int) := (r.filter (f i)).map fun (k : Nat) => ((i : Int), (k : Int))
def prW (f : Nat → Nat → Bool) : List Nat → List (Int × Int)
 | [] => []
 | i :: r => inW f i r ++ prW f r
def tbM (c : Cg) (t : Int) : Nat := (c.tl.getD t.toNat default).l.length
/-- The ways to get a table's rows. -/
def waysV (c : Cg) (t : Int) : List (Int × Int) :=
 if wi t c.tl.length then sgW (tbM c t) t c.pl (List.range' 0 c.pl.length) ++ prW (bothW (tbM c t) c.pl) (ptW (tbM c t) t c.pl (List.range' 0 c.pl.length)) else []
theorem range'_at {n j : Nat} (h : j < n) : List.range' j (n - j) = j :: List.range' (j + 1) (n - (j + 1)) := by
 have e : n - j = (n - (j + 1)) + 1 := by omega
 rw [e, List.range'_succ]
theorem range'_end (n : Nat) : List.range' n (n - n) = [] := by simp
theorem range'_to (j : Nat) : List.range' 0 (j + 1) = List.range' 0 j ++ [j] := by rw [List.range'_concat]; simp
theorem drop_at {α : Type} {R : List α} {i : Nat} {x : α} {r : List α} (h : R.drop i = x :: r) : R[i]? = some x ∧ R.drop (i + 1) = r := by
 have h1 := congrArg (fun l => l[0]?) h
 simp only [List.getElem?_drop, Nat.add_zero, List.getElem?_cons_zero] at h1
 refine ⟨h1, ?_⟩
 rw [← List.drop_drop, h]
 rfl
theorem sgW_cons {m : Nat} {t : Int} {pl : List Pj} {i : Nat} {r : List Nat} : sgW m t pl (i :: r) = (if isS m t (pjOf pl i) then [((i : Int), (-1 : Int))] else []) ++ sgW m t pl r := by
 unfold sgW
 rw [List.filter_cons]
 split <;> simp
theorem inW_cons {f : Nat → Nat → Bool} {i k : Nat} {r : List Nat} : inW f i (k :: r) = (if f i k then [((i : Int), (k : Int))] else []) ++ inW f i r := by
 unfold inW
 rw [List.filter_cons]
 split <;> simp
theorem ptW_to {m : Nat} {t : Int} {pl : List Pj} {j : Nat} : ptW m t pl (List.range' 0 (j + 1)) = ptW m t pl (List.range' 0 j) ++ (if isP m t (pjOf pl j) then [j] else []) := by
 unfold ptW
 rw [range'_to, List.filter_append]
 congr 1
 rw [List.filter_cons]
 split <;> simp
theorem prW_at {f : Nat → Nat → Bool} {P : List Nat} {a i : Nat} (h : P[a]? = some i) : prW f (P.drop a) = inW f i (P.drop (a + 1)) ++ prW f (P.drop (a + 1)) := by
 obtain ⟨h1, h2⟩ := List.getElem?_eq_some_iff.1 h
 rw [List.drop_eq_getElem_cons h1, h2]
 rfl
end Go.Proofs.YtcgkkofmnajedaaGreatDoor
end

/- What the proof stands on: contracts of functions that the statement calls, and plain lemmas. No statement of the seat is proved here. -/
import Derived.Test.YtlgfekjoknbfdaaGreatDoorB1
import Derived.Laws.MakeOwn
import Derived.OrdersHeld
import Derived.OrdersIn
import Derived.OwnWalkIn
import Derived.RangeFuncCalls
import Derived.Deep.RegionHeld3
import Derived.RangeFuncLeaves
import Derived.RangeFuncRecord
set_option maxHeartbeats 64000000
set_option maxRecDepth 100000
set_option linter.unusedVariables false
set_option linter.unusedSimpArgs false
section
namespace Go.Proofs.YtlgfekjoknbfdaaGreatDoor
open Go.RowKit Go.Hay
attribute [local go_sem] Oper.semAt_some
abbrev plV (x : Int × Int) : Value := .agg #[.int .i64 x.1, .int .i64 x.2]
abbrev encW (x : Int × Int) : Array Value := #[plV x]
structure Sw where
 qs : List Nat
 js : List Nat
 i : Nat
 p : Option (Int × Int)
def Sw.nx (s : Sw) (x : Int × Int) : Sw := { s with i := s.i + 1, p := none }
structure StepW (R : List (Int × Int)) (s s' : Sw) (A B : World) : Prop where
 turn : Kp s'.qs A B
 qs : ∀ q ∈ s'.qs, q ∈ s.qs ∨ (A.heap.size ≤ q ∧ q < B.heap.size)
 js : ∀ j ∈ s'.js, j ∈ s.js ∨ (A.heap.size ≤ j ∧ j < B.heap.size)
 on : s'.i = s.i
 given : s'.p = none ∨ ∃ x, s'.p = some x ∧ R[s.i]? = some x
def StepWX (s : Sw) (A B : World) : Prop := Kp [] A B
def KeepW (s : Sw) (A B : World) : Prop := KeepB s.js A B
theorem KeepW.trans {s : Sw} {A B C : World} (h : KeepW s A B) (k : KeepW s B C) : KeepW s A C := KeepB.trans h k
def PlSeq (n : Nat) (g : Nat) (lb : Array Value) (R : List (Int × Int)) (js : List Nat) (w : World) : Prop :=
 SeqX Fence.wide n Tryz.prog g lb encW (StepW R) StepWX KeepW (fun s x => s.p = some x) Sw.nx (fun s => s.i = R.length ∧ s.p = none) (fun _ => True) ⟨[], js, 0, none⟩ w
structure CoW (w0 : World) (S : List Nat) (s : Sw) (W : World) : Prop where
 os : W.os = w0.os
 tape : W.tape = w0.tape
 output : W.output = w0.output
 size : w0.heap.size ≤ W.heap.size
 low : ∀ k, k < w0.heap.size → k ∉ S → W.heap[k]? = w0.heap[k]?
 own : ∀ q ∈ s.qs, w0.heap.size + 2 ≤ q
 js : ∀ j ∈ s.js, j ∉ S ∧ j ≠ w0.heap.size ∧ j ≠ w0.heap.size + 1
 jl : ∀ j ∈ s.js, j < W.heap.size
theorem CoW.kp {w0 : World} {S : List Nat} {s : Sw} {W : World} (h : CoW w0 S s W) : Kp S w0 W := ⟨h.os, h.tape, h.output, h.size, fun k hk hn => h.low k hk hn⟩
theorem CoW.grown {w0 : World} {S : List Nat} {s : Sw} {X Y : World} {row : Option Nat} (h : CoW w0 S s X) (hg : X.grownBy Y row) (hr : ∀ r, row = some r → w0.heap.size ≤ r ∧ ∃ o : Obj, X.heap[r]? = some o ∧ o.isCells = false) : CoW w0 S s Y :=
 ⟨hg.os.trans h.os, hg.tape.trans h.tape, hg.output.trans h.output, Nat.le_trans h.size hg.size, fun k hk hn => (hg.block k (Nat.lt_of_lt_of_le hk h.size) (fun e => by have := (hr k e.symm).1; omega)).trans (h.low k hk hn), h.own, h.js, fun j hj => Nat.lt_of_lt_of_le (h.jl j hj) hg.size⟩
theorem StepW.low {R : List (Int × Int)} {w0 : World} {s s' : Sw} {A B : World} {k : Nat} (hk : k < A.heap.size) (ht : StepW R s s' A B) (hm : ∀ q ∈ s.qs, w0.heap.size + 2 ≤ q) (hk2 : k < w0.heap.size + 2) : B.heap[k]? = A.heap[k]? :=
 ht.turn.block k hk (fun hq => by rcases ht.qs k hq with e | e; have := hm k e; omega; omega)
theorem CoW.step {R : List (Int × Int)} {w0 : World} {S : List Nat} {s s' : Sw} {A B : World} (hS : ∀ k ∈ S, k < w0.heap.size) (hz : w0.heap.size + 2 ≤ A.heap.size) (h : CoW w0 S s A) (ht : StepW R s s' A B) : CoW w0 S s' B := by
 refine ⟨ht.turn.os.trans h.os, ht.turn.tape.trans h.tape, ht.turn.output.trans h.output, Nat.le_trans h.size ht.turn.size, fun k hk hn => (ht.low (by omega) h.own (by omega)).trans (h.low k hk hn), fun q hq => ?_, fun j hj => ?_, fun j hj => ?_⟩
 ·rcases ht.qs q hq with e | e
  ·exact h.own q e
  ·omega
 ·rcases ht.js j hj with e | e
  ·exact h.js j e
  ·exact ⟨fun hm => by have := hS j hm; omega, by omega, by omega⟩
 ·rcases ht.js j hj with e | e
  ·exact Nat.lt_of_lt_of_le (h.jl j e) ht.turn.size
  ·exact e.2
theorem CoW.recs {w0 : World} {S : List Nat} {s : Sw} {W : World} (h : CoW w0 S s W) (o' : Obj) : KeepW s W (W.putObj (w0.heap.size + 1) o') :=
 ⟨by simp, fun k hk o ho => (World.putObj_heap_other (by have := (h.js k hk).2.2; omega)).trans ho⟩
theorem CoW.stepX {w0 : World} {S : List Nat} {s : Sw} {A B : World} (h : CoW w0 S s A) (ht : StepWX s A B) : CoW w0 S s B :=
 ⟨ht.os.trans h.os, ht.tape.trans h.tape, ht.output.trans h.output, Nat.le_trans h.size ht.size, fun k hk hn => (ht.block k (Nat.lt_of_lt_of_le hk h.size) (by simp)).trans (h.low k hk hn), h.own, h.js, fun j hj => Nat.lt_of_lt_of_le (h.jl j hj) ht.size⟩
theorem CoW.round {w0 : World} {S T : List Nat} {s : Sw} {A B : World} {x : Int × Int} (h : CoW w0 S s A) (hk : Kp T A B) (hT : ∀ k ∈ T, A.heap[k]?.map Obj.isCells = some true) (hS : ∀ k ∈ T, k ∈ S ∨ w0.heap.size ≤ k) (hj : ∀ k ∈ T, k ∉ s.js) : KeepsFrom w0.heap.size A B ∧ KeepW s A B ∧ CoW w0 S (s.nx x) B := by
 have hne : ∀ k (o : Obj), A.heap[k]? = some o → o.isCells = false → k ∉ T := fun k o ho hc e => by
  have := hT k e
  rw [ho] at this;simp at this
  rw [this] at hc
  cases hc
 exact ⟨⟨hk.size, fun k o _ ho hc => (hk.block k (Array.getElem?_eq_some_iff.1 ho).1 (hne k o ho hc)).trans ho⟩, ⟨hk.size, fun k hk' o ho => (hk.block k (Array.getElem?_eq_some_iff.1 ho).1 (fun hm => hj k hm hk')).trans ho⟩, ⟨hk.os.trans h.os, hk.tape.trans h.tape, hk.output.trans h.output, Nat.le_trans h.size hk.size, fun k hk' hn => (hk.block k (Nat.lt_of_lt_of_le hk' h.size) (fun hm => by rcases hS k hm with e | e; exact hn e; omega)).trans (h.low k hk' hn), h.own, h.js, fun j hj => Nat.lt_of_lt_of_le (h.jl j hj) hk.size⟩⟩
def colsOf (p : Pj) : Il := ⟨p.ca, p.cc, p.cl⟩
theorem colsOf_ok {w : World} {p : Pj} (h : p.ok w) : (colsOf p).ok w := ⟨h.cols, Nat.le_trans h.ccap h.cmax⟩
def isS (m : Nat) (t : Int) (p : Pj) : Bool := decide (p.tb = t) && hvA m [colsOf p]
def isP (m : Nat) (t : Int) (p : Pj) : Bool := decide (p.tb = t) && !hvA m [colsOf p]
def pjOf (pl : List Pj) (i : Nat) : Pj := pl.getD i default
def sgW (m : Nat) (t : Int) (pl : List Pj) (ix : List Nat) : List (Int × Int) := (ix.filter fun i => isS m t (pjOf pl i)).map fun (i : Nat) => ((i : Int), (-1 : Int))
def ptW (m : Nat) (t : Int) (pl : List Pj) (ix : List Nat) : List Nat := ix.filter fun i => isP m t (pjOf pl i)
def bothW (m : Nat) (pl : List Pj) (i k : Nat) : Bool := hvA m [colsOf (pjOf pl i), colsOf (pjOf pl k)]
def inW (f : Nat → Nat → Bool) (i : Nat) (r : List Nat) : List (Int × Int) := (r.filter (f i)).map fun (k : Nat) => ((i : Int), (k : Int))
def prW (f : Nat → Nat → Bool) : List Nat → List (Int × Int)
 | [] => []
 | i :: r => inW f i r ++ prW f r
def tbM (c : Cg) (t : Int) : Nat := (c.tl.getD t.toNat default).l.length
def waysV (c : Cg) (t : Int) : List (Int × Int) :=
 if wi t c.tl.length then sgW (tbM c t) t c.pl (List.range' 0 c.pl.length) ++ prW (bothW (tbM c t) c.pl) (ptW (tbM c t) t c.pl (List.range' 0 c.pl.length)) else []
theorem range'_at {n j : Nat} (h : j < n) : List.range' j (n - j) = j :: List.range' (j + 1) (n - (j + 1)) := by
 have e : n - j = (n - (j + 1)) + 1 := by omega
 rw [e, List.range'_succ]
theorem range'_end (n : Nat) : List.range' n (n - n) = [] := by simp
theorem range'_to (j : Nat) : List.range' 0 (j + 1) = List.range' 0 j ++ [j] := by rw [List.range'_concat]; simp
theorem drop_at {α : Type} {R : List α} {i : Nat} {x : α} {r : List α} (h : R.drop i = x :: r) : R[i]? = some x ∧ R.drop (i + 1) = r := by
 have h1 := congrArg (fun l => l[0]?) h
 simp only [List.getElem?_drop, Nat.add_zero, List.getElem?_cons_zero] at h1;refine ⟨h1, ?_⟩;rw [← List.drop_drop, h];rfl
theorem sgW_cons {m : Nat} {t : Int} {pl : List Pj} {i : Nat} {r : List Nat} : sgW m t pl (i :: r) = (if isS m t (pjOf pl i) then [((i : Int), (-1 : Int))] else []) ++ sgW m t pl r := by
 unfold sgW
 rw [List.filter_cons];split <;> simp
theorem inW_cons {f : Nat → Nat → Bool} {i k : Nat} {r : List Nat} : inW f i (k :: r) = (if f i k then [((i : Int), (k : Int))] else []) ++ inW f i r := by
 unfold inW
 rw [List.filter_cons];split <;> simp
theorem ptW_to {m : Nat} {t : Int} {pl : List Pj} {j : Nat} : ptW m t pl (List.range' 0 (j + 1)) = ptW m t pl (List.range' 0 j) ++ (if isP m t (pjOf pl j) then [j] else []) := by
 unfold ptW
 rw [range'_to, List.filter_append];congr 1
 rw [List.filter_cons];split <;> simp
theorem prW_at {f : Nat → Nat → Bool} {P : List Nat} {a i : Nat} (h : P[a]? = some i) : prW f (P.drop a) = inW f i (P.drop (a + 1)) ++ prW f (P.drop (a + 1)) := by
 obtain ⟨h1, h2⟩ := List.getElem?_eq_some_iff.1 h;rw [List.drop_eq_getElem_cons h1, h2];rfl
theorem wpAppRunInW {F : Fence} {n : Nat} {P : Program} {w w' : World} {ops : Array Oper} {rest : List Oper} {o : Oper} {a : Act} {Q : Exit → Act → World → Prop} (hgd : o.guard = none) (s x : Operand) (t tx : TypeId)
  (ho : o.op = .call { callee := .builtin .append, args := #[s, x], argTypes := #[t, tx] }) (v xv v' : Value) (hv : a.eval s = v) (hx : a.eval x = xv)
  (hrun : (Builtin.append_ #[t, tx] o.type #[v, xv]).run P w = .ok v' w') (h : wpListIn F n P ops Q rest (a.put o.dst v') w') : wpListIn F n P ops Q (o :: rest) a w := by
 refine wpListIn_plain hgd fun K hK' => ?_
 unfold Oper.wpIn
 refine ⟨?_, ?_⟩
 ·simp [Oper.about, ho, resolve, Target.leads, Sem.run_pure]
 ·rw [Oper.semAt_plain F _ _ (by rw [ho]; intro c hc'; cases hc')]
  simp [execOp, ho, resolve, invoke, builtin, hv, hx, hrun, Result.andThen]
  exact hK' _ _ h
theorem ckOfKeepBW {js : List Nat} {X Y : World} (h : KeepB js X Y) : CK (fun k => k ∈ js) X Y := ⟨h.1, fun p u hp hc => by
 have hl := World.block_lt_of_cell? _ _ hc
 have e : X.heap[p.block]? = some X.heap[p.block] := by simp [hl]
 have e2 := (h.2 _ hp _ e).trans e.symm
 exact ⟨(World.cell?_of_block e2).trans hc, World.frozen?_of_block e2⟩⟩
theorem ckSeeW {α : Type} {E : El α} {P : Nat → Prop} {X Y : World} (h : CK P X Y) {a : Option Addr} {l : List α} (hs : E.See X a l) (hP : l ≠ [] → ∀ k ∈ blk a, P k) : E.See Y a l := by
 by_cases h0 : l = []
 ·exact .inl h0
 replace hP := hP h0
 rcases hs with e | ⟨g, o, rfl, hc⟩
 ·exact .inl e
 ·exact .inr ⟨g, o, rfl, fun j u hu => (h.2 ⟨g, o + j, none⟩ u (hP g (by simp [blk])) (hc j u hu)).1⟩
theorem infoIW : ∃ i : TypeInfo, Tryz.prog.info? 3 = some i ∧ i.zero = some (.int .i64 0) ∧ i.size = 1 ∧ i.bytes = 8 := by
 have h : (Tryz.prog.info? 3).map (fun i => (i.zero, i.size, i.bytes)) = some (some (.int .i64 0), 1, 8) := by kernel_rfl
 cases hi : Tryz.prog.info? 3 with
 | none => rw [hi] at h; cases h
 | some i =>
  rw [hi] at h;simp at h
  exact ⟨i, rfl, h.1, h.2.1, h.2.2⟩
theorem appIW (w : World) (a : Option Addr) (cp : Nat) (l : List Int) (x : Int) (hrow : IntE.Row w (.slice a l.length cp) l) (hl : l.length ≤ 4000000000000) :
  ∃ a' cp' W', (Builtin.append_ #[27, 27] 27 #[.slice a l.length cp, .slice (some ⟨w.heap.size, 0, none⟩) 1 1]).run Tryz.prog (w.alloc (.cells #[.int .i64 x] 3)) = .ok (.slice a' (l ++ [x]).length cp') W' ∧ IntE.Row W' (.slice a' (l ++ [x]).length cp') (l ++ [x]) ∧ (∀ k ∈ blk a', k ∈ blk a ∨ w.heap.size ≤ k) ∧ Kp (blk a) w W' := by
 obtain ⟨A1, hA1⟩ : ∃ A1, w.alloc (.cells #[.int .i64 x] 3) = A1 := ⟨_, rfl⟩
 have kA1 : Kp [] w A1 := by rw [← hA1]; exact (Kp.refl _ _).alloc _
 have bx1 : Bn A1 w.heap.size (IntE.c x) := by rw [← hA1]; exact Bn.new w (IntE.c x) _
 have hs1 : IntE.See A1 (some ⟨w.heap.size, 0, none⟩) [x] := .inr ⟨w.heap.size, 0, rfl, fun j u hu => by rw [Nat.zero_add]; exact bx1.get j u (by simpa [El.cs] using hu)⟩
 obtain ⟨i0, hi, hz0', hz1', hz2'⟩ := infoIW;have hsr := hs1.src (P := Tryz.prog) Tryz.underlying27 1
 obtain ⟨v', A2, hrun, hrow2, k2, hn2⟩ := run_appendG (E := IntE) (P := Tryz.prog) A1 27 27 27 3 i0 _ 8 Tryz.underlying27 hi hz0' hz1' hz2' rfl (.slice a l.length cp) l (hrow.keptNew kA1) _ [x] hsr (by simp only [List.length_cons, List.length_nil]; omega) (by simp only [List.length_cons, List.length_nil]; omega)
 obtain ⟨a', c', rfl, _⟩ := hrow2.see;simp only [ownV] at k2 hn2;rw [hA1];have z1 := kA1.size
 exact ⟨a', c', A2, hrun, hrow2, fun k hk => by
  rcases hn2 k hk with e | e
  ·exact .inl e
  ·exact .inr (by omega), (kA1.mono (by simp)).trans k2 (fun j hj => .inl hj)⟩
structure AtWy (q2 q3 : Nat) (c : Cg) (t : Int) (js : List Nat) (w : World) : Prop where
 bt : w.cell? ⟨q2, 3, none⟩ = some (.slice c.ta c.tl.length c.tc)
 bp : w.cell? ⟨q2, 4, none⟩ = some (.slice c.pa c.pl.length c.pc)
 b3 : w.cell? ⟨q3, 0, none⟩ = some (.int .i64 t)
 ts : TbE.See w c.ta c.tl
 ps : PjE.See w c.pa c.pl
 cs : ∀ p ∈ c.pl, (colsOf p).ok w
 q2_ : q2 ∈ js
 q3_ : q3 ∈ js
 ta_ : c.tl ≠ [] → ∀ k ∈ blk c.ta, k ∈ js
 pa_ : c.pl ≠ [] → ∀ k ∈ blk c.pa, k ∈ js
 ca_ : ∀ p ∈ c.pl, p.cl ≠ [] → ∀ k ∈ blk p.ca, k ∈ js
theorem AtWy.keep {q2 q3 : Nat} {c : Cg} {t : Int} {js : List Nat} {X Y : World} (h : AtWy q2 q3 c t js X) (hk : KeepB js X Y) : AtWy q2 q3 c t js Y := by
 have k := ckOfKeepBW hk
 exact ⟨(k.2 ⟨q2, 3, none⟩ _ h.q2_ h.bt).1, (k.2 ⟨q2, 4, none⟩ _ h.q2_ h.bp).1, (k.2 ⟨q3, 0, none⟩ _ h.q3_ h.b3).1, ckSeeW k h.ts h.ta_, ckSeeW k h.ps h.pa_, fun p hp => ⟨ckSeeW k (h.cs p hp).see (h.ca_ p hp), (h.cs p hp).max⟩, h.q2_, h.q3_, h.ta_, h.pa_, h.ca_⟩
def nI (P : List Nat) : List Int := P.map fun (n : Nat) => (n : Int)
theorem nI_app (P : List Nat) (x : Nat) : nI (P ++ [x]) = nI P ++ [(x : Int)] := by simp [nI]
theorem nI_len (P : List Nat) : (nI P).length = P.length := by simp [nI]
theorem ptW_len {m : Nat} {t : Int} {pl : List Pj} {j : Nat} : (ptW m t pl (List.range' 0 j)).length ≤ j := by
 have := List.length_filter_le (fun i => isP m t (pjOf pl i)) (List.range' 0 j)
 simpa [ptW] using this
theorem ptW_mem {m : Nat} {t : Int} {pl : List Pj} {j i : Nat} (h : i ∈ ptW m t pl (List.range' 0 j)) : i < j := by
 have := (List.mem_filter.1 h).1
 simpa using this
theorem sliceFromI (a : Option Addr) (n c k : Nat) (w : World) (hk : k ≤ n) : (Instr.slice 27 (.slice a n c) (some (.int .i64 (k : Int))) none none).run Tryz.prog w = .ok (.slice (if c = k then a else a.map (·.add k)) (n - k) (c - k)) w := by
 obtain ⟨i0, hi, hz0, hz1, hz2⟩ := infoIW;have hsz := run_sizeOf (P := Tryz.prog) (w := w) hi
 have h1 : (0 : Int) ≤ (k : Int) := by omega
 have h2 : (k : Int) ≤ (n : Int) := by omega
 simp [Instr.slice, Instr.sliceBounds, Instr.sliceBound, run_underlying Tryz.underlying27, h1, h2, hk, asIntOf]
theorem seeFromI {w : World} {a : Option Addr} {P : List Nat} (h : IntE.See w a (nI P)) (c k : Nat) (hc : P.length ≤ c) : IntE.See w (if c = k then a else a.map (·.add k)) (nI (P.drop k)) := by
 by_cases e : c = k
 ·exact .inl (by unfold nI; rw [List.drop_eq_nil_of_le (by omega)]; rfl)
 ·rw [if_neg e]
  rcases h with h | ⟨g, o, rfl, h⟩
  ·have : P = [] := by simpa [nI] using h
   subst this;exact .inl (by simp [nI])
  ·have ea : (⟨g, o, none⟩ : Addr).add k = ⟨g, o + k, none⟩ := by
    unfold Addr.add
    split
    ·rename_i h0; subst h0; rfl
    ·rfl
   refine .inr ⟨g, o + k, by rw [Option.map_some, ea], fun j u hu => ?_⟩
   have e2 : o + k + j = o + (k + j) := by omega
   rw [e2];refine h (k + j) u ?_
   have h1 : IntE.cs (nI (P.drop k)) = (IntE.cs (nI P)).drop k := by
    have h0 : ∀ l : List Int, IntE.cs l = l.map (Value.int .i64 ·) := fun l => by
     induction l with
     | nil => rfl
     | cons x l ih => simp [El.cs, IntE] at ih ⊢; exact ih
    rw [h0, h0, nI, nI, List.map_drop, List.map_drop]
   rw [h1, List.getElem?_drop] at hu;exact hu
theorem waysSeq (n : Nat) (hn : 1 ≤ n) (q2 q3 : Nat) (c : Cg) (t : Int) (js : List Nat) (w : World) (hA : AtWy q2 q3 c t js w) (hjl : ∀ j ∈ js, j < w.heap.size) (hT8 : ∀ x ∈ c.tl, x.l.length ≤ 9223372036854775806) (htl : c.tl.length ≤ 9223372036854775807) (hpl : c.pl.length ≤ 4000000000000) :
  PlSeq n 80 #[.pointer (some ⟨q3, 0, none⟩), .pointer (some ⟨q2, 0, none⟩)] (waysV c t) js w := by
 intro ly J Jx W hW hT hX hY h0
 obtain ⟨R, hR⟩ : ∃ R, Hid (waysV c t = R) := ⟨_, rfl⟩
 rw [hR.out] at hT ⊢;have hkW := hid hW
 have HA := hid (hA.keep hW)
 have hjW : Hid (∀ j ∈ js, j < W.heap.size) := fun j hj => Nat.lt_of_lt_of_le (hjl j hj) hW.1
 have d3 := HA.out.b3
 have dt := HA.out.bt
 have dp := HA.out.bp
 have HT8 := hid hT8
 clear hA hW hjl hT8;have cWi := hid (cWithinP t (c.tl.length : Int) W)
 refine callsIn_of_wp Tryz.func80 rfl trivial ?_ rfl;simp only [Tryz.ntmps80, List.size_toArray, List.length_cons, List.length_nil, Nat.reduceAdd, Nat.reduceSub, Array.replicate_succ, Array.replicate_zero, List.push_toArray, List.append_toArray, List.nil_append, List.cons_append]
 by_cases hwi : wi t (c.tl.length : Int) = true
 ·rw [hwi] at cWi
  obtain ⟨m, hm⟩ : ∃ m, Hid (tbM c t = m) := ⟨_, rfl⟩
  have hw2 : 0 ≤ t ∧ t < (c.tl.length : Int) := by simpa [wi] using hwi
  obtain ⟨tn, rfl⟩ := Int.eq_ofNat_of_zero_le hw2.1;have ht' : tn < c.tl.length := by omega
  have hx : c.tl[tn]? = some c.tl[tn] := by simp [ht']
  obtain ⟨g, o, ea, x0, x1⟩ := tbAt HA.out.ts hx
  have hml : c.tl[tn].l.length = m := by
   rw [← hm.out];simp [tbM, ht']
  have hm8 : m ≤ 9223372036854775806 := by rw [← hml]; exact HT8.out _ (List.getElem_mem ht')
  rw [hml] at x1
  have hR1 : Hid (R = sgW m tn c.pl (List.range' 0 c.pl.length) ++ prW (bothW m c.pl) (ptW m tn c.pl (List.range' 0 c.pl.length))) := by
   show _ = _
   rw [← hR.out, ← hm.out];unfold waysV
   rw [if_pos hwi]
  have hw3 : (0 : Int) ≤ (tn : Int) := by omega
  have hw4 : (tn : Int) < (c.tl.length : Int) := by omega
  generalize c.tl[tn] = xt at *
  obtain ⟨xn, xa, xc, xl⟩ := xt;dsimp only at x0 x1;clear hx hml hw2 ht' x0 hwi;rw [ea] at dt;gi_wp2_with fail;refine ⟨trivial, (callsIn_wide.2 cWi.out).mono ?_⟩;rintro e W ⟨rfl, rfl⟩;clear cWi;gi_wp2_with fail;gi_loopw [5, 28] (fun v5 v28 wr => ∃ (j i : Nat) (a : Option Addr) (cp : Nat) (qs : List Nat), j ≤ c.pl.length ∧ v28 = .int .i64 (j : Int) ∧ v5 = .slice a (nI (ptW m tn c.pl (List.range' 0 j))).length cp ∧ Hid (IntE.Row wr (.slice a (nI (ptW m tn c.pl (List.range' 0 j))).length cp) (nI (ptW m tn c.pl (List.range' 0 j)))) ∧ Hid ((∀ k ∈ blk a, k ∈ qs) ∧ ∀ q ∈ qs, W.heap.size ≤ q) ∧ J ⟨qs, js ++ qs, i, none⟩ wr ∧ Hid (R.drop i = sgW m tn c.pl (List.range' j (c.pl.length - j)) ++ prW (bothW m c.pl) (ptW m tn c.pl (List.range' 0 c.pl.length))) ∧ i ≤ R.length ∧ Hid (KeepB js W wr)) (fun _ v28 _ => c.pl.length - (intOf v28).toNat)
  case atStart => exact ⟨0, 0, none, 0, [], Nat.zero_le _, rfl, rfl, hid (.inl ⟨rfl, rfl⟩), hid ⟨by simp [blk], by simp⟩, by simpa using h0, by show _ = _; rw [hR1.out]; rfl, Nat.zero_le _, KeepB.refl _ _⟩
  case round =>
   obtain ⟨j, i, a, cp, qs, hj, rfl, rfl, hrow, hqs, hJi, hdr, hiR, hkr⟩ := hrel;clear h0
   by_cases hlt : j < c.pl.length
   ·have hAr := hid (HA.out.keep hkr.out)
    have hxp : c.pl[j]? = some c.pl[j] := by simp [hlt]
    have hpj : Hid (pjOf c.pl j = c.pl[j]) := by show _ = _; simp [pjOf, hlt]
    obtain ⟨g2, o2, ep, y0, y1, y2, y3, y4, y5⟩ := pjAt hAr.out.ps hxp;have hok := hid (hAr.out.cs _ (List.getElem_mem hlt))
    have r3 := hAr.out.b3
    have rp := hAr.out.bp
    have hdj := hdr.out
    rw [range'_at hlt, sgW_cons] at hdj;rw [hpj.out] at hdj;have hpt := hid (ptW_to (m := m) (t := (tn : Int)) (pl := c.pl) (j := j))
    rw [hpj.out] at hpt;have hdj' := hid hdj
    have i1 : (0 : Int) ≤ (j : Int) := by omega
    have i2 : (j : Int) < (c.pl.length : Int) := by omega
    have i3 : (j : Int) + 1 ≤ 9223372036854775807 := by omega
    have hCA := hid (HA.out.ca_ _ (List.getElem_mem hlt))
    generalize c.pl[j] = p at *
    obtain ⟨WA, eWA⟩ : ∃ Y, wr.alloc (.cells #[.string ⟨#[]⟩, .int .i64 0, .slice none 0 0, .slice none 0 0, .int .i64 0, .int .i64 0] 92) = Y := ⟨_, rfl⟩
    have kWA : Kp [] wr WA := by rw [← eWA]; exact (Kp.refl _ _).alloc _
    have xWA : Bn WA (wr.heap.size) [.string ⟨#[]⟩, .int .i64 0, .slice none 0 0, .slice none 0 0, .int .i64 0, .int .i64 0] := by rw [← eWA]; exact Bn.new wr [.string ⟨#[]⟩, .int .i64 0, .slice none 0 0, .slice none 0 0, .int .i64 0, .int .i64 0] 92
    obtain ⟨WB, eWB⟩ : ∃ Y, ((((((WA.setCell ⟨wr.heap.size, 0, none⟩ (.string p.nm)).setCell ⟨wr.heap.size, 1, none⟩ (.int .i64 p.tb)).setCell ⟨wr.heap.size, 2, none⟩ (.slice p.ca p.cl.length p.cc)).setCell ⟨wr.heap.size, 3, none⟩ (.slice p.sa p.sl.length p.sc)).setCell ⟨wr.heap.size, 4, none⟩ (.int .i64 p.by_)).setCell ⟨wr.heap.size, 5, none⟩ (.int .i64 p.sh)) = Y := ⟨_, rfl⟩
    have kWB : Kp [wr.heap.size] WA WB := by rw [← eWB]; exact (((((((Kp.refl _ _).setCell (by simp) _).setCell (by simp) _).setCell (by simp) _).setCell (by simp) _).setCell (by simp) _).setCell (by simp) _)
    have xWB : Bn WB (wr.heap.size) [.string p.nm, .int .i64 p.tb, .slice p.ca p.cl.length p.cc, .slice p.sa p.sl.length p.sc, .int .i64 p.by_, .int .i64 p.sh] := by rw [← eWB]; exact ((((((xWA.set 0 (by simp) (.string p.nm)).set 1 (by simp) (.int .i64 p.tb)).set 2 (by simp) (.slice p.ca p.cl.length p.cc)).set 3 (by simp) (.slice p.sa p.sl.length p.sc)).set 4 (by simp) (.int .i64 p.by_)).set 5 (by simp) (.int .i64 p.sh))
    have ma0 := xWA.get 0 _ rfl; have ma1 := xWA.get 1 _ rfl; have ma2 := xWA.get 2 _ rfl; have ma3 := xWA.get 3 _ rfl; have ma4 := xWA.get 4 _ rfl; have ma5 := xWA.get 5 _ rfl
    have mf0 := xWA.free 0; have mf1 := xWA.free 1; have mf2 := xWA.free 2; have mf3 := xWA.free 3; have mf4 := xWA.free 4; have mf5 := xWA.free 5
    have pp1 := xWB.get 1 _ rfl; have pp2 := xWB.get 2 _ rfl
    have kB : Kp [] wr WB := kWA.trans kWB (fun x hx => .inr (by simp at hx; omega))
    have KB := hid kB
    have r3B := kpAt kB r3
    have rlt := xWB.lt (by simp)
    clear hxp hdr hdj kWA kWB xWA xWB kB;rw [ep] at rp
    by_cases hpt1 : p.tb = (tn : Int)
    ·have t1 : (p.tb == (tn : Int)) = true := by simpa using hpt1
     have t2 : (p.tb != (tn : Int)) = false := by simp [hpt1]
     obtain ⟨WC, eWC⟩ : ∃ Y, WB.alloc (.cells #[.slice p.ca p.cl.length p.cc] 27) = Y := ⟨_, rfl⟩
     have kC : Kp [] WB WC := by rw [← eWC]; exact (Kp.refl _ _).alloc _
     have bC : Bn WC WB.heap.size [.slice p.ca p.cl.length p.cc] := by rw [← eWC]; exact Bn.new WB _ _
     have kBC := hid (KB.out.trans kC (by simp))
     have sC : IlE.See WC (some ⟨WB.heap.size, 0, none⟩) [colsOf p] := .inr ⟨WB.heap.size, 0, rfl, fun k u hu => by rw [Nat.zero_add]; exact bC.get k u (by simpa [El.cs, IlE, colsOf] using hu)⟩
     have cH := hid (cHaveAll m (some ⟨WB.heap.size, 0, none⟩) 1 [colsOf p] WC sC (fun x hx => by rw [List.mem_singleton.1 hx]; exact hok.out.kept kBC.out) (by simp) hm8)
     obtain ⟨V, hV⟩ : ∃ V, Hid (hvA m [colsOf p] = V) := ⟨_, rfl⟩
     rw [hV.out] at cH;have hSV : Hid (isS m tn p = V) := by show _ = _; unfold isS; rw [hV.out]; simp [hpt1]
     have hPV : Hid (isP m tn p = !V) := by show _ = _; unfold isP; rw [hV.out]; simp [hpt1]
     have hpt2 := hid hpt1
     clear kC bC sC hpt1;gi_wp2_with fail;refine ⟨trivial, (callsIn_wide.2 cH.out).mono ?_⟩;rintro e w3 ⟨rfl, k3⟩;have K3 := hid (kBC.out.trans k3 (by simp))
     clear cH k3;have hrow3 := hid (hrow.out.keptNew K3.out)
     have hkW3 : Hid (KeepB js W w3) := hid (hkr.out.trans (KeepB.ofKp K3.out (by simp)))
     cases V with
     | true =>
      have hd2 := hdj'.out
      rw [hSV.out, if_pos rfl, List.append_assoc, List.singleton_append] at hd2;obtain ⟨hRi, hRd⟩ := drop_at hd2;have hRd' := hid hRd
      have hiR2 : i + 1 ≤ R.length := (List.getElem?_eq_some_iff.1 hRi).1
      have hpt3 : Hid (ptW m tn c.pl (List.range' 0 (j + 1)) = ptW m tn c.pl (List.range' 0 j)) := by
       show _ = _
       rw [hpt.out, hPV.out];simp
      have hJ2 : J ⟨qs, js ++ qs, i, some ((j : Int), -1)⟩ w3 := hT _ _ _ _ hJi ⟨K3.out.mono (by simp), fun q hq => .inl hq, fun q hq => .inl hq, rfl, .inr ⟨_, rfl, hRi⟩⟩
      obtain ⟨fn, tmps, assign, body, hy, hRr⟩ := hY _ _ _ hJ2 rfl;have hR' := hid hRr
      dsimp only [encW, plV] at hy;clear hRr hJ2 hRd hd2 hdj' hJi hRi;gi_wp2_with fail;refine hR'.out.mono ?_;rintro e1 W3 (⟨rfl, hJ3, hk3⟩ | ⟨rfl, hJx, hk3⟩)
      ·have hJ4 : Hid (J ⟨qs, js ++ qs, i + 1, none⟩ W3) := hJ3
       have hk4 : KeepB (js ++ qs) w3 W3 := hk3
       have hrow4 := hid (ckRow (ckOfKeepBW hk4) hrow3.out (fun k hk => List.mem_append.2 (.inr (hqs.out.1 k hk))))
       have hk5 : Hid (KeepB js W W3) := hid (hkW3.out.trans ⟨hk4.1, fun k hk o ho => hk4.2 k (List.mem_append.2 (.inl hk)) o ho⟩)
       clear hR' hy hJ3 hk3 hk4;gi_wp2_with fail;rw [← ep];refine ⟨⟨_, _, _, _, _, _, _, _, _, _, _, _, _, _, _, _, _, _, _, _, _, _, _, _, _, _, _, _, _, _, _, ⟨j + 1, i + 1, a, cp, qs, by omega, (show Value.int .i64 ((j : Int) + 1) = .int .i64 ((j + 1 : Nat) : Int) by simp), (show Value.slice a (nI (ptW m tn c.pl (List.range' 0 j))).length cp = .slice a (nI (ptW m tn c.pl (List.range' 0 (j + 1)))).length cp by rw [hpt3.out]), by rw [hpt3.out]; exact hrow4, hqs, hJ4.out, hRd', hiR2, hk5⟩, rfl⟩, ?_⟩
       simp [intOf]; omega
      ·have hJ4 := hid hJx
       clear hR' hy hk3 hJx;gi_wp2_with fail;refine bodyPost_ret (results_none rfl _ _ _) rfl ?_;exact ⟨⟨_, rfl⟩, .inr ⟨_, trivial, hJ4.out⟩⟩
     | false =>
      have hd2 := hdj'.out
      rw [hSV.out, if_neg (by simp), List.nil_append] at hd2
      have hRd' := hid hd2
      have hpt3 : Hid (ptW m tn c.pl (List.range' 0 (j + 1)) = ptW m tn c.pl (List.range' 0 j) ++ [j]) := by
       show _ = _
       rw [hpt.out, hPV.out];simp
      have hPl : (ptW m tn c.pl (List.range' 0 j)).length ≤ j := ptW_len
      obtain ⟨a', cp', W', hrun, hrw, hnb, kA⟩ := appIW w3 a cp (nI (ptW m tn c.pl (List.range' 0 j))) (j : Int) hrow3.out (by rw [nI_len]; omega)
      rw [← nI_app, ← hpt3.out] at hrun hrw;have hrun' := hid hrun
      have hz3 := K3.out.size
      have hzk := hkr.out.1
      have kAll : Hid (Kp (qs ++ blk a') wr W') := hid ((K3.out.mono (by simp)).trans kA (fun k hk => .inl (List.mem_append.2 (.inl (hqs.out.1 k hk)))))
      have hblt := hrw.lt
      have hnew : ∀ k ∈ blk a', k ∈ qs ∨ (wr.heap.size ≤ k ∧ k < W'.heap.size) := fun k hk => by
       rcases hnb k hk with e | e
       ·exact .inl (hqs.out.1 k e)
       ·exact .inr ⟨by omega, hblt k (by rw [ownV]; exact hk)⟩
      have hJ2 : J ⟨qs ++ blk a', js ++ (qs ++ blk a'), i, none⟩ W' := hT _ _ _ _ hJi ⟨kAll.out, fun q hq => by
       rcases List.mem_append.1 hq with e | e
       ·exact .inl e
       ·exact hnew q e, fun q hq => by
       rcases List.mem_append.1 hq with e | e
       ·exact .inl (List.mem_append.2 (.inl e))
       ·rcases List.mem_append.1 e with e | e
        ·exact .inl (List.mem_append.2 (.inr e))
        ·rcases hnew q e with e | e
         ·exact .inl (List.mem_append.2 (.inr e))
         ·exact .inr e, rfl, .inl rfl⟩
      have hJ3 := hid hJ2
      have hrw' := hid hrw
      have hqs' : Hid ((∀ k ∈ blk a', k ∈ qs ++ blk a') ∧ ∀ q ∈ qs ++ blk a', W.heap.size ≤ q) := hid ⟨fun k hk => List.mem_append.2 (.inr hk), fun q hq => by
       rcases List.mem_append.1 hq with e | e
       ·exact hqs.out.2 q e
       ·rcases hnew q e with e | e
        ·exact hqs.out.2 q e
        ·omega⟩
      have hkW' : Hid (KeepB js W W') := hid (hkW3.out.trans (KeepB.ofKp kA (fun k hk hm => by
       have := hjW.out k hk
       have := hqs.out.2 k (hqs.out.1 k hm)
       omega)))
      clear hrun hrw hJ2 hJi hdj' hd2 hnew hblt kA kAll hnb;gi_wp2_with (first | (refine wpAppRunInW rfl _ _ 27 27 rfl _ _ _ rfl rfl hrun'.out ?_) | fail)
      rw [← ep];refine ⟨⟨_, _, _, _, _, _, _, _, _, _, _, _, _, _, _, _, _, _, _, _, _, _, _, _, _, _, _, _, _, _, _, ⟨j + 1, i, a', cp', qs ++ blk a', by omega, (show Value.int .i64 ((j : Int) + 1) = .int .i64 ((j + 1 : Nat) : Int) by simp), rfl, hrw', hqs', hJ3.out, hRd', hiR, hkW'⟩, rfl⟩, ?_⟩
      simp [intOf]; omega
    ·have t1 : (p.tb == (tn : Int)) = false := by simpa using hpt1
     have t2 : (p.tb != (tn : Int)) = true := by simp [hpt1]
     have hS0 : isS m tn p = false := by unfold isS; simp [hpt1]
     have hP0 : isP m tn p = false := by unfold isP; simp [hpt1]
     have hd2 := hdj'.out
     rw [hS0, if_neg (by simp), List.nil_append] at hd2
     have hRd' := hid hd2
     have hpt3 : Hid (ptW m tn c.pl (List.range' 0 (j + 1)) = ptW m tn c.pl (List.range' 0 j)) := by
      show _ = _
      rw [hpt.out, hP0];simp
     have hJ2 : J ⟨qs, js ++ qs, i, none⟩ WB := hT _ _ _ _ hJi ⟨KB.out.mono (by simp), fun q hq => .inl hq, fun q hq => .inl hq, rfl, .inl rfl⟩
     have hJ3 := hid hJ2
     have hrow3 := hid (hrow.out.keptNew KB.out)
     have hkW3 : Hid (KeepB js W WB) := hid (hkr.out.trans (KeepB.ofKp KB.out (by simp)))
     clear hd2 hdj' hS0 hP0 hJ2 hJi;gi_wp2_with fail;refine ⟨⟨j + 1, i, a, cp, qs, by omega, by simp, by rw [hpt3.out], by rw [hpt3.out]; exact hrow3, hqs, hJ3.out, hRd', hiR, hkW3⟩, by simp [intOf]; omega⟩
   ·obtain rfl : j = c.pl.length := by omega
    have dj1 : ¬ (c.pl.length : Int) < (c.pl.length : Int) := by omega
    have dj2 : decide ((c.pl.length : Int) < (c.pl.length : Int)) = false := by simp
    obtain ⟨P, hP⟩ : ∃ P, Hid (ptW m tn c.pl (List.range' 0 c.pl.length) = P) := ⟨_, rfl⟩
    have hPm : Hid (∀ x ∈ P, x < c.pl.length) := fun x hx => by rw [← hP.out] at hx; exact ptW_mem hx
    have hPl : P.length ≤ 4000000000000 := by rw [← hP.out]; exact Nat.le_trans ptW_len hpl
    have hdr1 := hdr.out
    rw [range'_end] at hdr1;rw [hP.out] at hdr1 hrow;simp only [hP.out];obtain ⟨f, hf⟩ : ∃ f, Hid (bothW m c.pl = f) := ⟨_, rfl⟩
    rw [hf.out] at hdr1;have hdr2 : Hid (R.drop i = prW f (P.drop 0)) := hid hdr1
    obtain ⟨a2, c2, e2, hsee, hnil, hlc, hcm, howz⟩ := hrow.out.see
    cases e2
    have hcm2 : cp ≤ 9223372036854775807 := by unfold maxLen at hcm; omega
    clear howz hcm;have hsee' := hid hsee
    have hAr := hid (HA.out.keep hkr.out)
    have hzW := hkr.out.1
    have hJi' := hid hJi
    have hjb : Hid (∀ j ∈ js ++ qs, j ∈ js ∨ j ∈ qs) := fun j hj => List.mem_append.1 hj
    rw [nI_len] at hlc ⊢;have hkW1 : Hid (KeepB (js ++ qs) wr wr) := hid (KeepB.refl _ _)
    clear hdr hdr1 hrow hR1 hJi hnil hsee;generalize wr = W1 at *
    gi_wp2_with fail;gi_loopw [58] (fun v wx => ∃ (x i : Nat), x ≤ P.length ∧ v = .int .i64 (x : Int) ∧ Hid (J ⟨qs, js ++ qs, i, none⟩ wx) ∧ Hid (R.drop i = prW f (P.drop x)) ∧ i ≤ R.length ∧ Hid (KeepB (js ++ qs) W1 wx)) (fun v _ => P.length - (intOf v).toNat)
    case atStart => exact ⟨0, i, Nat.zero_le _, rfl, hJi', hdr2, hiR, hkW1⟩
    case round =>
     obtain ⟨x, i, hx, rfl, hJx, hdx, hiR, hkx⟩ := hrel;clear hJi' hdr2 hkW1
     by_cases hlt : x < P.length
     ·have hxP : P[x]? = some P[x] := by simp [hlt]
      have hdx2 := hdx.out
      rw [prW_at hxP] at hdx2;have hdx3 := hid hdx2
      have hseex := ckSeeW (ckOfKeepBW hkx.out) hsee'.out (fun _ k hk => List.mem_append.2 (.inr (hqs.out.1 k hk)))
      obtain ⟨g3, o3, eq3, z0⟩ := intAt hseex x (by rw [nI_len]; exact hlt)
      have hnx : (nI P)[x]'(by rw [nI_len]; exact hlt) = (P[x] : Int) := by simp [nI]
      rw [hnx] at z0;have hpx : P[x] < c.pl.length := hPm.out _ (List.getElem_mem hlt)
      have i1 : (0 : Int) ≤ (x : Int) := by omega
      have i2 : (x : Int) < (P.length : Int) := by omega
      have i3 : (x : Int) + 1 ≤ 9223372036854775807 := by omega
      obtain ⟨s1, hs1⟩ : ∃ s : Nat, (x : Int) + 1 = (s : Int) := ⟨x + 1, by simp⟩
      have i4 : (s1 : Int) ≤ (P.length : Int) := by omega
      have i5 : (0 : Int) ≤ (s1 : Int) := by omega
      have i6 : (s1 : Int) ≤ (cp : Int) := by omega
      have i7 : (s1 : Int) ≤ 9223372036854775807 := by omega
      have i8 : (P.length : Int) ≤ (cp : Int) := by omega
      have hs1' : Hid (s1 = x + 1) := by show _ = _; omega
      generalize P[x] = px at *
      have hsx : s1 ≤ P.length := by omega
      have hsl := sliceFromI a P.length cp s1 wr hsx
      have hs4 := seeFromI hseex cp s1 hlc
      have hb4 : Hid (∀ k ∈ blk (if cp = s1 then a else a.map (·.add s1)), k ∈ blk a) := fun k hk => by
       split at hk
       ·exact hk
       ·cases a with
        | none => simp [blk] at hk
        | some y =>
         have e0 : (y.add s1).block = y.block := by unfold Addr.add; split <;> rfl
         simpa [blk, e0] using hk
      generalize (if cp = s1 then a else a.map (·.add s1)) = a4 at *
      obtain ⟨c4, hc4⟩ : ∃ c4, cp - s1 = c4 := ⟨_, rfl⟩
      obtain ⟨T, hT4⟩ : ∃ T, Hid (P.drop s1 = T) := ⟨_, rfl⟩
      have hTl : P.length - s1 = T.length := by rw [← hT4.out, List.length_drop]
      rw [hc4, hTl] at hsl;rw [hT4.out] at hs4;rw [← hs1'.out, hT4.out] at hdx3;have hTm : Hid (∀ y ∈ T, y ∈ P) := fun y hy => by rw [← hT4.out] at hy; exact List.mem_of_mem_drop hy
      have hTl2 : T.length ≤ 4000000000000 := by omega
      have hs4' := hid hs4
      clear hnx hdx2 hxP hlt hx hs4 hsx hTl hc4 hseex;subst eq3;have hkx2 := hid (KeepB.refl (js ++ qs) wr)
      generalize wr = W2 at *
      gi_wp2_with fail;gi_loopw [68] (fun v wy => ∃ (y i : Nat), y ≤ T.length ∧ v = .int .i64 (y : Int) ∧ Hid (J ⟨qs, js ++ qs, i, none⟩ wy) ∧ Hid (R.drop i = inW f px (T.drop y) ++ prW f T) ∧ i ≤ R.length ∧ Hid (KeepB (js ++ qs) W2 wy)) (fun v _ => T.length - (intOf v).toNat)
      case atStart => exact ⟨0, i, Nat.zero_le _, rfl, hJx, hdx3, hiR, hkx2⟩
      case round =>
       obtain ⟨y, i, hy, rfl, hJy, hdy, hiR, hky⟩ := hrel;clear hJx hdx3 hkx2
       by_cases hlt : y < T.length
       ·have hyT : T[y] ∈ T := List.getElem_mem hlt
        have hseey := ckSeeW (ckOfKeepBW hky.out) hs4'.out (fun _ k hk => List.mem_append.2 (.inr (hqs.out.1 k (hb4.out k hk))))
        obtain ⟨g5, o5, eq5, z5⟩ := intAt hseey y (by rw [nI_len]; exact hlt)
        have hny : (nI T)[y]'(by rw [nI_len]; exact hlt) = (T[y] : Int) := by simp [nI]
        rw [hny] at z5;have hpy : T[y] < c.pl.length := hPm.out _ (hTm.out _ hyT)
        have hdy2 := hdy.out
        rw [List.drop_eq_getElem_cons hlt, inW_cons, List.append_assoc] at hdy2;have hdy3 := hid hdy2
        obtain ⟨py, hpye⟩ : ∃ py, Hid (T[y] = py) := ⟨_, hid rfl⟩
        rw [hpye.out] at z5 hpy hdy3;have kAll : Hid (KeepB (js ++ qs) W1 wr) := hid (hkx.out.trans hky.out)
        have kJs : Hid (KeepB js W wr) := hid (hkr.out.trans ⟨kAll.out.1, fun k hk o ho => kAll.out.2 k (List.mem_append.2 (.inl hk)) o ho⟩)
        have hAy := hid (HA.out.keep kJs.out)
        have hXx : c.pl[px]? = some c.pl[px] := by simp [hpx]
        have hXy : c.pl[py]? = some c.pl[py] := by simp [hpy]
        obtain ⟨g6, o6, ep6, _, _, v2, _, _, _⟩ := pjAt hAy.out.ps hXx;obtain ⟨g7, o7, ep7, _, _, v7, _, _, _⟩ := pjAt hAy.out.ps hXy;obtain ⟨rfl, rfl⟩ : g7 = g6 ∧ o7 = o6 := by rw [ep6] at ep7; simp at ep7; exact ⟨ep7.1.symm, ep7.2.symm⟩
        have rp := hAy.out.bp
        rw [ep6] at rp;have okx := hid (hAy.out.cs _ (List.getElem_mem hpx))
        have oky := hid (hAy.out.cs _ (List.getElem_mem hpy))
        have hfv : Hid (f px py = hvA m [colsOf c.pl[px], colsOf c.pl[py]]) := by
         show _ = _
         rw [← hf.out];simp [bothW, pjOf, hpx, hpy]
        have b1 : (0 : Int) ≤ (px : Int) := by omega
        have b2 : (px : Int) < (c.pl.length : Int) := by omega
        have b3 : (0 : Int) ≤ (py : Int) := by omega
        have b4 : (py : Int) < (c.pl.length : Int) := by omega
        have i9 : (0 : Int) ≤ (y : Int) := by omega
        have i10 : (y : Int) < (T.length : Int) := by omega
        have i11 : (y : Int) + 1 ≤ 9223372036854775807 := by omega
        obtain ⟨xp, hxp⟩ : ∃ xp, Hid (c.pl[px] = xp) := ⟨_, hid rfl⟩
        obtain ⟨yp, hyp⟩ : ∃ yp, Hid (c.pl[py] = yp) := ⟨_, hid rfl⟩
        rw [hxp.out] at v2 okx hfv;rw [hyp.out] at v7 oky hfv;clear hny hdy2 hXx hXy ep6 ep7 hyT hseey hy hpye hlt;subst eq5;gi_wp2_with fail;have kD : Kp [] wr wr.drew := (Kp.refl _ _).drew
        refine wpIn_region_any (by kernel_rfl) ?_
        change wpAnyIn _ _ _ _ _ _ _ _ _ wr.drew
        generalize wr.drew = wd at *
        have KD := hid kD
        have rpd := kpAt kD rp
        have v2d := kpAt kD v2
        have v7d := kpAt kD v7
        obtain ⟨We, hWe⟩ : ∃ Y, wd.alloc (.cells #[.slice xp.ca xp.cl.length xp.cc, .slice yp.ca yp.cl.length yp.cc] 27) = Y := ⟨_, rfl⟩
        have kE : Kp [] wd We := by rw [← hWe]; exact (Kp.refl _ _).alloc _
        have bE : Bn We wd.heap.size [.slice xp.ca xp.cl.length xp.cc, .slice yp.ca yp.cl.length yp.cc] := by rw [← hWe]; exact Bn.new wd _ _
        have KE := hid (KD.out.trans kE (by simp))
        have sE : IlE.See We (some ⟨wd.heap.size, 0, none⟩) [colsOf xp, colsOf yp] := .inr ⟨wd.heap.size, 0, rfl, fun k u hu => by rw [Nat.zero_add]; exact bE.get k u (by simpa [El.cs, IlE, colsOf] using hu)⟩
        have cH := hid (cHaveAll m (some ⟨wd.heap.size, 0, none⟩) 2 [colsOf xp, colsOf yp] We sE (fun z hz => by
         rcases List.mem_cons.1 hz with rfl | hz
         ·exact okx.out.kept KE.out
         ·rw [List.mem_singleton.1 hz]; exact oky.out.kept KE.out) (by simp) hm8)
        obtain ⟨V, hV⟩ : ∃ V, Hid (hvA m [colsOf xp, colsOf yp] = V) := ⟨_, hid rfl⟩
        rw [hV.out] at cH hfv;rw [hfv.out] at hdy3;clear rp v2 v7 kD kE bE sE;refine tkI ?_ 0 rfl rfl (by kernel_rfl) (fun _ _ _ h => h) ⟨Or.inl ⟨by rfl, ?_⟩, fun _ => rfl⟩ ?_
        rotate_left
        ·intro w; go_simp <;> with_reducible rfl
        (try simp only [Act.put, lz]);refine tkI ?_ 1 rfl rfl (by kernel_rfl) (fun _ _ _ h => h) ⟨Or.inl ⟨by rfl, ?_⟩, fun _ => rfl⟩ ?_
        rotate_left
        ·intro w; go_simp <;> with_reducible rfl
        (try simp only [Act.put, lz]);refine tkI ?_ 3 rfl rfl (by kernel_rfl) (fun _ _ _ h => h) ⟨Or.inl ⟨by rfl, ?_⟩, fun _ => rfl⟩ ?_
        rotate_left
        ·intro w; go_simp <;> with_reducible rfl
        (try simp only [Act.put, lz]);refine tkI ?_ 7 rfl rfl (by kernel_rfl) (fun _ _ _ h => h) ⟨Or.inl ⟨by rfl, ?_⟩, fun _ => rfl⟩ ?_
        rotate_left
        ·intro w; go_simp <;> with_reducible rfl
        (try simp only [Act.put, lz]);refine tkI ?_ 9 rfl rfl (by kernel_rfl) (fun _ _ _ h => h) ⟨Or.inl ⟨by rfl, ?_⟩, fun _ => rfl⟩ ?_
        rotate_left
        ·intro w; go_simp <;> with_reducible rfl
        (try simp only [Act.put, lz]);refine rdJ 2 8 (by kernel_rfl) rfl rfl (fun K hK => ?_) fun K hK => ?_
        ·go_simp
         refine hK _ _ ?_;clear hK K;(try simp only [Act.put, lz]);refine tkI ?_ 4 rfl rfl (by kernel_rfl) (fun _ _ _ h => h) ⟨Or.inl ⟨by rfl, ?_⟩, fun _ => rfl⟩ ?_
         rotate_left
         ·intro w; go_simp <;> with_reducible rfl
         (try simp only [Act.put, lz]);refine tkI ?_ 5 rfl rfl (by kernel_rfl) (fun _ _ _ h => h) ⟨Or.inl ⟨by rfl, ?_⟩, fun _ => rfl⟩ ?_
         rotate_left
         ·intro w; go_simp <;> with_reducible rfl
         (try simp only [Act.put, lz]);refine rdJ 6 8 (by kernel_rfl) rfl rfl (fun K hK => ?_) fun K hK => ?_
         ·go_simp
          refine hK _ _ ?_;clear hK K;(try simp only [Act.put, lz]);refine rdI 8 (by kernel_rfl) rfl fun K hK => ?_
          go_simp;refine hK _ _ ?_;clear hK K;(try simp only [Act.put, lz]);refine tkI ?_ 10 rfl rfl (by kernel_rfl) (fun _ _ _ h => h) ⟨Or.inl ⟨by rfl, ?_⟩, fun _ => rfl⟩ ?_
          rotate_left
          ·intro w; go_simp <;> with_reducible rfl
          (try simp only [Act.put, lz]);refine tkI ?_ 11 rfl rfl (by kernel_rfl) (fun _ _ _ h => h) ⟨Or.inl ⟨by rfl, ?_⟩, fun _ => rfl⟩ ?_
          rotate_left
          ·intro w; go_simp <;> with_reducible rfl
          (try simp only [Act.put, lz]);refine rdI 12 (by kernel_rfl) rfl fun K hK => ?_
          go_simp;refine hK _ _ ?_;clear hK K;(try simp only [Act.put, lz]);refine rdI 13 (by kernel_rfl) rfl fun K hK => ?_
          go_simp;refine hK _ _ ?_;clear hK K;(try simp only [Act.put, lz]);refine rdI 14 (by kernel_rfl) rfl fun K hK => ?_
          go_simp;refine ⟨trivial, (callsIn_wide.2 cH.out).mono ?_⟩;rintro e Wz ⟨rfl, kz⟩;refine hK _ _ ?_;clear hK K;(try simp only [Act.put, lz]);have KZ := hid (KE.out.trans kz (by simp))
          have hkZ : Hid (KeepB (js ++ qs) W2 Wz) := hid (hky.out.trans (KeepB.ofKp KZ.out (by simp)))
          clear kz cH;refine tkI ?_ 15 rfl rfl (by kernel_rfl) (fun _ _ _ h => h) ⟨Or.inl ⟨by rfl, ?_⟩, fun _ => rfl⟩ ?_
          rotate_left
          ·intro w; go_simp <;> with_reducible rfl
          try simp only [Act.put, lz]
          cases V with
          | true =>
           have hd5 := hdy3.out
           rw [if_pos rfl, List.singleton_append] at hd5;obtain ⟨hRi, hRd⟩ := drop_at hd5;have hRd' := hid hRd
           have hiR2 : i + 1 ≤ R.length := (List.getElem?_eq_some_iff.1 hRi).1
           have hJ2 : J ⟨qs, js ++ qs, i, some ((px : Int), (py : Int))⟩ Wz := hT _ _ _ _ hJy.out ⟨KZ.out.mono (by simp), fun q hq => .inl hq, fun q hq => .inl hq, rfl, .inr ⟨_, rfl, hRi⟩⟩
           obtain ⟨fn, tmps, assign, body, hyl, hRr⟩ := hY _ _ _ hJ2 rfl;have hR' := hid hRr
           dsimp only [encW, plV] at hyl;clear hRr hJ2 hRd hd5 hdy3 hRi;refine tkI ?_ 16 rfl rfl (by kernel_rfl) (fun _ _ _ h => h) ⟨Or.inl ⟨by rfl, ?_⟩, fun _ => rfl⟩ ?_
           rotate_left
           ·intro w; go_simp <;> with_reducible rfl
           (try simp only [Act.put, lz]);refine tkI ?_ 17 rfl rfl (by kernel_rfl) (fun _ _ _ h => h) ⟨Or.inl ⟨by rfl, ?_⟩, fun _ => rfl⟩ ?_
           rotate_left
           ·intro w; go_simp <;> with_reducible rfl
           (try simp only [Act.put, lz]);refine tkI ?_ 18 rfl rfl (by kernel_rfl) (fun _ _ _ h => h) ⟨Or.inl ⟨by rfl, ?_⟩, fun _ => rfl⟩ ?_
           rotate_left
           ·intro w; go_simp <;> with_reducible rfl
           (try simp only [Act.put, lz]);refine tkI ?_ 19 rfl rfl (by kernel_rfl) (fun _ _ _ h => h) ⟨Or.inl ⟨by rfl, ?_⟩, fun _ => rfl⟩ ?_
           rotate_left
           ·intro w; go_simp <;> with_reducible rfl
           (try simp only [Act.put, lz]);refine rdI 20 (by kernel_rfl) rfl fun K hK => ?_
           go_simp;refine hR'.out.mono ?_;rintro e1 A3 (⟨rfl, hJ3, hk3⟩ | ⟨rfl, hJ3, hk3⟩)
           ·have hJ4 : Hid (J ⟨qs, js ++ qs, i + 1, none⟩ A3) := hid hJ3
            have hk5 : Hid (KeepB (js ++ qs) W2 A3) := hid (hkZ.out.trans hk3)
            clear hR' hyl hJ3 hk3;refine hK _ _ ?_;clear hK K;(try simp only [Act.put, lz]);refine tkI ?_ 21 rfl rfl (by kernel_rfl) (fun _ _ _ h => h) ⟨Or.inl ⟨by rfl, ?_⟩, fun _ => rfl⟩ ?_
            rotate_left
            ·intro w; go_simp <;> with_reducible rfl
            (try simp only [Act.put, lz]);refine tkI ?_ 22 rfl rfl (by kernel_rfl) (fun _ _ _ h => h) ⟨Or.inl ⟨by rfl, ?_⟩, fun _ => rfl⟩ ?_
            rotate_left
            ·intro w; go_simp <;> with_reducible rfl
            (try simp only [Act.put, lz]);refine wpAnyIn_done (by kernel_rfl) ?_ _
            gi_wp2_with fail;exact ⟨⟨y + 1, i + 1, by omega, by simp, hJ4, hRd', hiR2, hk5⟩, by simp [intOf]; omega⟩
           ·have hJ4 := hid hJ3
            clear hR' hyl hJ3 hk3;refine hK _ _ ?_;clear hK K;(try simp only [Act.put, lz]);refine tkI ?_ 21 rfl rfl (by kernel_rfl) (fun _ _ _ h => h) ⟨Or.inl ⟨by rfl, ?_⟩, fun _ => rfl⟩ ?_
            rotate_left
            ·intro w; go_simp <;> with_reducible rfl
            (try simp only [Act.put, lz]);refine tkI ?_ 22 rfl rfl (by kernel_rfl) (fun _ _ _ h => h) ⟨Or.inl ⟨by rfl, ?_⟩, fun _ => rfl⟩ ?_
            rotate_left
            ·intro w; go_simp <;> with_reducible rfl
            (try simp only [Act.put, lz]);refine wpAnyIn_done (by kernel_rfl) ?_ _
            gi_wp2_with fail;refine bodyPost_ret (results_none rfl _ _ _) rfl ?_;exact ⟨⟨_, rfl⟩, .inr ⟨_, trivial, hJ4.out⟩⟩
          | false =>
           have hd5 := hdy3.out
           rw [if_neg (by simp), List.nil_append] at hd5
           have hRd' := hid hd5
           have hJ4 : Hid (J ⟨qs, js ++ qs, i, none⟩ Wz) := hid (hT _ _ _ _ hJy.out ⟨KZ.out.mono (by simp), fun q hq => .inl hq, fun q hq => .inl hq, rfl, .inl rfl⟩)
           clear hd5 hdy3;refine tkI undef 16 rfl rfl (by kernel_rfl) (fun _ _ _ h => h) ⟨Or.inr ⟨by rfl, rfl⟩, fun _ => rfl⟩ ?_
           (try simp only [Act.put, lz]);refine tkI undef 17 rfl rfl (by kernel_rfl) (fun _ _ _ h => h) ⟨Or.inr ⟨by rfl, rfl⟩, fun _ => rfl⟩ ?_
           (try simp only [Act.put, lz]);refine tkI undef 18 rfl rfl (by kernel_rfl) (fun _ _ _ h => h) ⟨Or.inr ⟨by rfl, rfl⟩, fun _ => rfl⟩ ?_
           (try simp only [Act.put, lz]);refine tkI undef 19 rfl rfl (by kernel_rfl) (fun _ _ _ h => h) ⟨Or.inr ⟨by rfl, rfl⟩, fun _ => rfl⟩ ?_
           (try simp only [Act.put, lz]);refine tkI undef 20 rfl rfl (by kernel_rfl) (fun _ _ _ h => h) ⟨Or.inr ⟨by rfl, rfl⟩, fun _ => rfl⟩ ?_
           (try simp only [Act.put, lz]);refine tkI undef 21 rfl rfl (by kernel_rfl) (fun _ _ _ h => h) ⟨Or.inr ⟨by rfl, rfl⟩, fun _ => rfl⟩ ?_
           (try simp only [Act.put, lz]);refine tkI ?_ 22 rfl rfl (by kernel_rfl) (fun _ _ _ h => h) ⟨Or.inl ⟨by rfl, ?_⟩, fun _ => rfl⟩ ?_
           rotate_left
           ·intro w; go_simp <;> with_reducible rfl
           (try simp only [Act.put, lz]);refine wpAnyIn_done (by kernel_rfl) ?_ _
           gi_wp2_with fail;exact ⟨⟨y + 1, i, by omega, by simp, hJ4, hRd', hiR, hkZ⟩, by simp [intOf]; omega⟩
         ·go_simp
          refine hK _ _ ?_;clear hK K;(try simp only [Act.put, lz]);refine tkI ?_ 10 rfl rfl (by kernel_rfl) (fun _ _ _ h => h) ⟨Or.inl ⟨by rfl, ?_⟩, fun _ => rfl⟩ ?_
          rotate_left
          ·intro w; go_simp <;> with_reducible rfl
          (try simp only [Act.put, lz]);refine tkI ?_ 11 rfl rfl (by kernel_rfl) (fun _ _ _ h => h) ⟨Or.inl ⟨by rfl, ?_⟩, fun _ => rfl⟩ ?_
          rotate_left
          ·intro w; go_simp <;> with_reducible rfl
          (try simp only [Act.put, lz]);refine rdJ 6 12 (by kernel_rfl) rfl rfl (fun K hK => ?_) fun K hK => ?_
          ·go_simp
           refine hK _ _ ?_;clear hK K;(try simp only [Act.put, lz]);refine rdI 12 (by kernel_rfl) rfl fun K hK => ?_
           go_simp;refine hK _ _ ?_;clear hK K;(try simp only [Act.put, lz]);refine rdI 13 (by kernel_rfl) rfl fun K hK => ?_
           go_simp;refine hK _ _ ?_;clear hK K;(try simp only [Act.put, lz]);refine rdI 14 (by kernel_rfl) rfl fun K hK => ?_
           go_simp;refine ⟨trivial, (callsIn_wide.2 cH.out).mono ?_⟩;rintro e Wz ⟨rfl, kz⟩;refine hK _ _ ?_;clear hK K;(try simp only [Act.put, lz]);have KZ := hid (KE.out.trans kz (by simp))
           have hkZ : Hid (KeepB (js ++ qs) W2 Wz) := hid (hky.out.trans (KeepB.ofKp KZ.out (by simp)))
           clear kz cH;refine tkI ?_ 15 rfl rfl (by kernel_rfl) (fun _ _ _ h => h) ⟨Or.inl ⟨by rfl, ?_⟩, fun _ => rfl⟩ ?_
           rotate_left
           ·intro w; go_simp <;> with_reducible rfl
           try simp only [Act.put, lz]
           cases V with
           | true =>
            have hd5 := hdy3.out
            rw [if_pos rfl, List.singleton_append] at hd5;obtain ⟨hRi, hRd⟩ := drop_at hd5;have hRd' := hid hRd
            have hiR2 : i + 1 ≤ R.length := (List.getElem?_eq_some_iff.1 hRi).1
            have hJ2 : J ⟨qs, js ++ qs, i, some ((px : Int), (py : Int))⟩ Wz := hT _ _ _ _ hJy.out ⟨KZ.out.mono (by simp), fun q hq => .inl hq, fun q hq => .inl hq, rfl, .inr ⟨_, rfl, hRi⟩⟩
            obtain ⟨fn, tmps, assign, body, hyl, hRr⟩ := hY _ _ _ hJ2 rfl;have hR' := hid hRr
            dsimp only [encW, plV] at hyl;clear hRr hJ2 hRd hd5 hdy3 hRi;refine tkI ?_ 16 rfl rfl (by kernel_rfl) (fun _ _ _ h => h) ⟨Or.inl ⟨by rfl, ?_⟩, fun _ => rfl⟩ ?_
            rotate_left
            ·intro w; go_simp <;> with_reducible rfl
            (try simp only [Act.put, lz]);refine tkI ?_ 17 rfl rfl (by kernel_rfl) (fun _ _ _ h => h) ⟨Or.inl ⟨by rfl, ?_⟩, fun _ => rfl⟩ ?_
            rotate_left
            ·intro w; go_simp <;> with_reducible rfl
            (try simp only [Act.put, lz]);refine tkI ?_ 18 rfl rfl (by kernel_rfl) (fun _ _ _ h => h) ⟨Or.inl ⟨by rfl, ?_⟩, fun _ => rfl⟩ ?_
            rotate_left
            ·intro w; go_simp <;> with_reducible rfl
            (try simp only [Act.put, lz]);refine tkI ?_ 19 rfl rfl (by kernel_rfl) (fun _ _ _ h => h) ⟨Or.inl ⟨by rfl, ?_⟩, fun _ => rfl⟩ ?_
            rotate_left
            ·intro w; go_simp <;> with_reducible rfl
            (try simp only [Act.put, lz]);refine rdI 20 (by kernel_rfl) rfl fun K hK => ?_
            go_simp;refine hR'.out.mono ?_;rintro e1 A3 (⟨rfl, hJ3, hk3⟩ | ⟨rfl, hJ3, hk3⟩)
            ·have hJ4 : Hid (J ⟨qs, js ++ qs, i + 1, none⟩ A3) := hid hJ3
             have hk5 : Hid (KeepB (js ++ qs) W2 A3) := hid (hkZ.out.trans hk3)
             clear hR' hyl hJ3 hk3;refine hK _ _ ?_;clear hK K;(try simp only [Act.put, lz]);refine tkI ?_ 21 rfl rfl (by kernel_rfl) (fun _ _ _ h => h) ⟨Or.inl ⟨by rfl, ?_⟩, fun _ => rfl⟩ ?_
             rotate_left
             ·intro w; go_simp <;> with_reducible rfl
             (try simp only [Act.put, lz]);refine tkI ?_ 22 rfl rfl (by kernel_rfl) (fun _ _ _ h => h) ⟨Or.inl ⟨by rfl, ?_⟩, fun _ => rfl⟩ ?_
             rotate_left
             ·intro w; go_simp <;> with_reducible rfl
             (try simp only [Act.put, lz]);refine wpAnyIn_done (by kernel_rfl) ?_ _
             gi_wp2_with fail;exact ⟨⟨y + 1, i + 1, by omega, by simp, hJ4, hRd', hiR2, hk5⟩, by simp [intOf]; omega⟩
            ·have hJ4 := hid hJ3
             clear hR' hyl hJ3 hk3;refine hK _ _ ?_;clear hK K;(try simp only [Act.put, lz]);refine tkI ?_ 21 rfl rfl (by kernel_rfl) (fun _ _ _ h => h) ⟨Or.inl ⟨by rfl, ?_⟩, fun _ => rfl⟩ ?_
             rotate_left
             ·intro w; go_simp <;> with_reducible rfl
             (try simp only [Act.put, lz]);refine tkI ?_ 22 rfl rfl (by kernel_rfl) (fun _ _ _ h => h) ⟨Or.inl ⟨by rfl, ?_⟩, fun _ => rfl⟩ ?_
             rotate_left
             ·intro w; go_simp <;> with_reducible rfl
             (try simp only [Act.put, lz]);refine wpAnyIn_done (by kernel_rfl) ?_ _
             gi_wp2_with fail;refine bodyPost_ret (results_none rfl _ _ _) rfl ?_;exact ⟨⟨_, rfl⟩, .inr ⟨_, trivial, hJ4.out⟩⟩
           | false =>
            have hd5 := hdy3.out
            rw [if_neg (by simp), List.nil_append] at hd5
            have hRd' := hid hd5
            have hJ4 : Hid (J ⟨qs, js ++ qs, i, none⟩ Wz) := hid (hT _ _ _ _ hJy.out ⟨KZ.out.mono (by simp), fun q hq => .inl hq, fun q hq => .inl hq, rfl, .inl rfl⟩)
            clear hd5 hdy3;refine tkI undef 16 rfl rfl (by kernel_rfl) (fun _ _ _ h => h) ⟨Or.inr ⟨by rfl, rfl⟩, fun _ => rfl⟩ ?_
            (try simp only [Act.put, lz]);refine tkI undef 17 rfl rfl (by kernel_rfl) (fun _ _ _ h => h) ⟨Or.inr ⟨by rfl, rfl⟩, fun _ => rfl⟩ ?_
            (try simp only [Act.put, lz]);refine tkI undef 18 rfl rfl (by kernel_rfl) (fun _ _ _ h => h) ⟨Or.inr ⟨by rfl, rfl⟩, fun _ => rfl⟩ ?_
            (try simp only [Act.put, lz]);refine tkI undef 19 rfl rfl (by kernel_rfl) (fun _ _ _ h => h) ⟨Or.inr ⟨by rfl, rfl⟩, fun _ => rfl⟩ ?_
            (try simp only [Act.put, lz]);refine tkI undef 20 rfl rfl (by kernel_rfl) (fun _ _ _ h => h) ⟨Or.inr ⟨by rfl, rfl⟩, fun _ => rfl⟩ ?_
            (try simp only [Act.put, lz]);refine tkI undef 21 rfl rfl (by kernel_rfl) (fun _ _ _ h => h) ⟨Or.inr ⟨by rfl, rfl⟩, fun _ => rfl⟩ ?_
            (try simp only [Act.put, lz]);refine tkI ?_ 22 rfl rfl (by kernel_rfl) (fun _ _ _ h => h) ⟨Or.inl ⟨by rfl, ?_⟩, fun _ => rfl⟩ ?_
            rotate_left
            ·intro w; go_simp <;> with_reducible rfl
            (try simp only [Act.put, lz]);refine wpAnyIn_done (by kernel_rfl) ?_ _
            gi_wp2_with fail;exact ⟨⟨y + 1, i, by omega, by simp, hJ4, hRd', hiR, hkZ⟩, by simp [intOf]; omega⟩
          ·go_simp
           refine hK _ _ ?_;clear hK K;(try simp only [Act.put, lz]);refine rdI 6 (by kernel_rfl) rfl fun K hK => ?_
           go_simp;refine hK _ _ ?_;clear hK K;(try simp only [Act.put, lz]);refine rdI 13 (by kernel_rfl) rfl fun K hK => ?_
           go_simp;refine hK _ _ ?_;clear hK K;(try simp only [Act.put, lz]);refine rdI 14 (by kernel_rfl) rfl fun K hK => ?_
           go_simp;refine ⟨trivial, (callsIn_wide.2 cH.out).mono ?_⟩;rintro e Wz ⟨rfl, kz⟩;refine hK _ _ ?_;clear hK K;(try simp only [Act.put, lz]);have KZ := hid (KE.out.trans kz (by simp))
           have hkZ : Hid (KeepB (js ++ qs) W2 Wz) := hid (hky.out.trans (KeepB.ofKp KZ.out (by simp)))
           clear kz cH;refine tkI ?_ 15 rfl rfl (by kernel_rfl) (fun _ _ _ h => h) ⟨Or.inl ⟨by rfl, ?_⟩, fun _ => rfl⟩ ?_
           rotate_left
           ·intro w; go_simp <;> with_reducible rfl
           try simp only [Act.put, lz]
           cases V with
           | true =>
            have hd5 := hdy3.out
            rw [if_pos rfl, List.singleton_append] at hd5;obtain ⟨hRi, hRd⟩ := drop_at hd5;have hRd' := hid hRd
            have hiR2 : i + 1 ≤ R.length := (List.getElem?_eq_some_iff.1 hRi).1
            have hJ2 : J ⟨qs, js ++ qs, i, some ((px : Int), (py : Int))⟩ Wz := hT _ _ _ _ hJy.out ⟨KZ.out.mono (by simp), fun q hq => .inl hq, fun q hq => .inl hq, rfl, .inr ⟨_, rfl, hRi⟩⟩
            obtain ⟨fn, tmps, assign, body, hyl, hRr⟩ := hY _ _ _ hJ2 rfl;have hR' := hid hRr
            dsimp only [encW, plV] at hyl;clear hRr hJ2 hRd hd5 hdy3 hRi;refine tkI ?_ 16 rfl rfl (by kernel_rfl) (fun _ _ _ h => h) ⟨Or.inl ⟨by rfl, ?_⟩, fun _ => rfl⟩ ?_
            rotate_left
            ·intro w; go_simp <;> with_reducible rfl
            (try simp only [Act.put, lz]);refine tkI ?_ 17 rfl rfl (by kernel_rfl) (fun _ _ _ h => h) ⟨Or.inl ⟨by rfl, ?_⟩, fun _ => rfl⟩ ?_
            rotate_left
            ·intro w; go_simp <;> with_reducible rfl
            (try simp only [Act.put, lz]);refine tkI ?_ 18 rfl rfl (by kernel_rfl) (fun _ _ _ h => h) ⟨Or.inl ⟨by rfl, ?_⟩, fun _ => rfl⟩ ?_
            rotate_left
            ·intro w; go_simp <;> with_reducible rfl
            (try simp only [Act.put, lz]);refine tkI ?_ 19 rfl rfl (by kernel_rfl) (fun _ _ _ h => h) ⟨Or.inl ⟨by rfl, ?_⟩, fun _ => rfl⟩ ?_
            rotate_left
            ·intro w; go_simp <;> with_reducible rfl
            (try simp only [Act.put, lz]);refine rdI 20 (by kernel_rfl) rfl fun K hK => ?_
            go_simp;refine hR'.out.mono ?_;rintro e1 A3 (⟨rfl, hJ3, hk3⟩ | ⟨rfl, hJ3, hk3⟩)
            ·have hJ4 : Hid (J ⟨qs, js ++ qs, i + 1, none⟩ A3) := hid hJ3
             have hk5 : Hid (KeepB (js ++ qs) W2 A3) := hid (hkZ.out.trans hk3)
             clear hR' hyl hJ3 hk3;refine hK _ _ ?_;clear hK K;(try simp only [Act.put, lz]);refine tkI ?_ 21 rfl rfl (by kernel_rfl) (fun _ _ _ h => h) ⟨Or.inl ⟨by rfl, ?_⟩, fun _ => rfl⟩ ?_
             rotate_left
             ·intro w; go_simp <;> with_reducible rfl
             (try simp only [Act.put, lz]);refine tkI ?_ 22 rfl rfl (by kernel_rfl) (fun _ _ _ h => h) ⟨Or.inl ⟨by rfl, ?_⟩, fun _ => rfl⟩ ?_
             rotate_left
             ·intro w; go_simp <;> with_reducible rfl
             (try simp only [Act.put, lz]);refine wpAnyIn_done (by kernel_rfl) ?_ _
             gi_wp2_with fail;exact ⟨⟨y + 1, i + 1, by omega, by simp, hJ4, hRd', hiR2, hk5⟩, by simp [intOf]; omega⟩
            ·have hJ4 := hid hJ3
             clear hR' hyl hJ3 hk3;refine hK _ _ ?_;clear hK K;(try simp only [Act.put, lz]);refine tkI ?_ 21 rfl rfl (by kernel_rfl) (fun _ _ _ h => h) ⟨Or.inl ⟨by rfl, ?_⟩, fun _ => rfl⟩ ?_
             rotate_left
             ·intro w; go_simp <;> with_reducible rfl
             (try simp only [Act.put, lz]);refine tkI ?_ 22 rfl rfl (by kernel_rfl) (fun _ _ _ h => h) ⟨Or.inl ⟨by rfl, ?_⟩, fun _ => rfl⟩ ?_
             rotate_left
             ·intro w; go_simp <;> with_reducible rfl
             (try simp only [Act.put, lz]);refine wpAnyIn_done (by kernel_rfl) ?_ _
             gi_wp2_with fail;refine bodyPost_ret (results_none rfl _ _ _) rfl ?_;exact ⟨⟨_, rfl⟩, .inr ⟨_, trivial, hJ4.out⟩⟩
           | false =>
            have hd5 := hdy3.out
            rw [if_neg (by simp), List.nil_append] at hd5
            have hRd' := hid hd5
            have hJ4 : Hid (J ⟨qs, js ++ qs, i, none⟩ Wz) := hid (hT _ _ _ _ hJy.out ⟨KZ.out.mono (by simp), fun q hq => .inl hq, fun q hq => .inl hq, rfl, .inl rfl⟩)
            clear hd5 hdy3;refine tkI undef 16 rfl rfl (by kernel_rfl) (fun _ _ _ h => h) ⟨Or.inr ⟨by rfl, rfl⟩, fun _ => rfl⟩ ?_
            (try simp only [Act.put, lz]);refine tkI undef 17 rfl rfl (by kernel_rfl) (fun _ _ _ h => h) ⟨Or.inr ⟨by rfl, rfl⟩, fun _ => rfl⟩ ?_
            (try simp only [Act.put, lz]);refine tkI undef 18 rfl rfl (by kernel_rfl) (fun _ _ _ h => h) ⟨Or.inr ⟨by rfl, rfl⟩, fun _ => rfl⟩ ?_
            (try simp only [Act.put, lz]);refine tkI undef 19 rfl rfl (by kernel_rfl) (fun _ _ _ h => h) ⟨Or.inr ⟨by rfl, rfl⟩, fun _ => rfl⟩ ?_
            (try simp only [Act.put, lz]);refine tkI undef 20 rfl rfl (by kernel_rfl) (fun _ _ _ h => h) ⟨Or.inr ⟨by rfl, rfl⟩, fun _ => rfl⟩ ?_
            (try simp only [Act.put, lz]);refine tkI undef 21 rfl rfl (by kernel_rfl) (fun _ _ _ h => h) ⟨Or.inr ⟨by rfl, rfl⟩, fun _ => rfl⟩ ?_
            (try simp only [Act.put, lz]);refine tkI ?_ 22 rfl rfl (by kernel_rfl) (fun _ _ _ h => h) ⟨Or.inl ⟨by rfl, ?_⟩, fun _ => rfl⟩ ?_
            rotate_left
            ·intro w; go_simp <;> with_reducible rfl
            (try simp only [Act.put, lz]);refine wpAnyIn_done (by kernel_rfl) ?_ _
            gi_wp2_with fail;exact ⟨⟨y + 1, i, by omega, by simp, hJ4, hRd', hiR, hkZ⟩, by simp [intOf]; omega⟩
        ·go_simp
         refine hK _ _ ?_;clear hK K;(try simp only [Act.put, lz]);refine tkI ?_ 10 rfl rfl (by kernel_rfl) (fun _ _ _ h => h) ⟨Or.inl ⟨by rfl, ?_⟩, fun _ => rfl⟩ ?_
         rotate_left
         ·intro w; go_simp <;> with_reducible rfl
         (try simp only [Act.put, lz]);refine tkI ?_ 11 rfl rfl (by kernel_rfl) (fun _ _ _ h => h) ⟨Or.inl ⟨by rfl, ?_⟩, fun _ => rfl⟩ ?_
         rotate_left
         ·intro w; go_simp <;> with_reducible rfl
         (try simp only [Act.put, lz]);refine rdJ 2 12 (by kernel_rfl) rfl rfl (fun K hK => ?_) fun K hK => ?_
         ·go_simp
          refine hK _ _ ?_;clear hK K;(try simp only [Act.put, lz]);refine tkI ?_ 4 rfl rfl (by kernel_rfl) (fun _ _ _ h => h) ⟨Or.inl ⟨by rfl, ?_⟩, fun _ => rfl⟩ ?_
          rotate_left
          ·intro w; go_simp <;> with_reducible rfl
          (try simp only [Act.put, lz]);refine tkI ?_ 5 rfl rfl (by kernel_rfl) (fun _ _ _ h => h) ⟨Or.inl ⟨by rfl, ?_⟩, fun _ => rfl⟩ ?_
          rotate_left
          ·intro w; go_simp <;> with_reducible rfl
          (try simp only [Act.put, lz]);refine rdJ 6 12 (by kernel_rfl) rfl rfl (fun K hK => ?_) fun K hK => ?_
          ·go_simp
           refine hK _ _ ?_;clear hK K;(try simp only [Act.put, lz]);refine rdI 12 (by kernel_rfl) rfl fun K hK => ?_
           go_simp;refine hK _ _ ?_;clear hK K;(try simp only [Act.put, lz]);refine rdI 13 (by kernel_rfl) rfl fun K hK => ?_
           go_simp;refine hK _ _ ?_;clear hK K;(try simp only [Act.put, lz]);refine rdI 14 (by kernel_rfl) rfl fun K hK => ?_
           go_simp;refine ⟨trivial, (callsIn_wide.2 cH.out).mono ?_⟩;rintro e Wz ⟨rfl, kz⟩;refine hK _ _ ?_;clear hK K;(try simp only [Act.put, lz]);have KZ := hid (KE.out.trans kz (by simp))
           have hkZ : Hid (KeepB (js ++ qs) W2 Wz) := hid (hky.out.trans (KeepB.ofKp KZ.out (by simp)))
           clear kz cH;refine tkI ?_ 15 rfl rfl (by kernel_rfl) (fun _ _ _ h => h) ⟨Or.inl ⟨by rfl, ?_⟩, fun _ => rfl⟩ ?_
           rotate_left
           ·intro w; go_simp <;> with_reducible rfl
           try simp only [Act.put, lz]
           cases V with
           | true =>
            have hd5 := hdy3.out
            rw [if_pos rfl, List.singleton_append] at hd5;obtain ⟨hRi, hRd⟩ := drop_at hd5;have hRd' := hid hRd
            have hiR2 : i + 1 ≤ R.length := (List.getElem?_eq_some_iff.1 hRi).1
            have hJ2 : J ⟨qs, js ++ qs, i, some ((px : Int), (py : Int))⟩ Wz := hT _ _ _ _ hJy.out ⟨KZ.out.mono (by simp), fun q hq => .inl hq, fun q hq => .inl hq, rfl, .inr ⟨_, rfl, hRi⟩⟩
            obtain ⟨fn, tmps, assign, body, hyl, hRr⟩ := hY _ _ _ hJ2 rfl;have hR' := hid hRr
            dsimp only [encW, plV] at hyl;clear hRr hJ2 hRd hd5 hdy3 hRi;refine tkI ?_ 16 rfl rfl (by kernel_rfl) (fun _ _ _ h => h) ⟨Or.inl ⟨by rfl, ?_⟩, fun _ => rfl⟩ ?_
            rotate_left
            ·intro w; go_simp <;> with_reducible rfl
            (try simp only [Act.put, lz]);refine tkI ?_ 17 rfl rfl (by kernel_rfl) (fun _ _ _ h => h) ⟨Or.inl ⟨by rfl, ?_⟩, fun _ => rfl⟩ ?_
            rotate_left
            ·intro w; go_simp <;> with_reducible rfl
            (try simp only [Act.put, lz]);refine tkI ?_ 18 rfl rfl (by kernel_rfl) (fun _ _ _ h => h) ⟨Or.inl ⟨by rfl, ?_⟩, fun _ => rfl⟩ ?_
            rotate_left
            ·intro w; go_simp <;> with_reducible rfl
            (try simp only [Act.put, lz]);refine tkI ?_ 19 rfl rfl (by kernel_rfl) (fun _ _ _ h => h) ⟨Or.inl ⟨by rfl, ?_⟩, fun _ => rfl⟩ ?_
            rotate_left
            ·intro w; go_simp <;> with_reducible rfl
            (try simp only [Act.put, lz]);refine rdI 20 (by kernel_rfl) rfl fun K hK => ?_
            go_simp;refine hR'.out.mono ?_;rintro e1 A3 (⟨rfl, hJ3, hk3⟩ | ⟨rfl, hJ3, hk3⟩)
            ·have hJ4 : Hid (J ⟨qs, js ++ qs, i + 1, none⟩ A3) := hid hJ3
             have hk5 : Hid (KeepB (js ++ qs) W2 A3) := hid (hkZ.out.trans hk3)
             clear hR' hyl hJ3 hk3;refine hK _ _ ?_;clear hK K;(try simp only [Act.put, lz]);refine tkI ?_ 21 rfl rfl (by kernel_rfl) (fun _ _ _ h => h) ⟨Or.inl ⟨by rfl, ?_⟩, fun _ => rfl⟩ ?_
             rotate_left
             ·intro w; go_simp <;> with_reducible rfl
             (try simp only [Act.put, lz]);refine tkI ?_ 22 rfl rfl (by kernel_rfl) (fun _ _ _ h => h) ⟨Or.inl ⟨by rfl, ?_⟩, fun _ => rfl⟩ ?_
             rotate_left
             ·intro w; go_simp <;> with_reducible rfl
             (try simp only [Act.put, lz]);refine wpAnyIn_done (by kernel_rfl) ?_ _
             gi_wp2_with fail;exact ⟨⟨y + 1, i + 1, by omega, by simp, hJ4, hRd', hiR2, hk5⟩, by simp [intOf]; omega⟩
            ·have hJ4 := hid hJ3
             clear hR' hyl hJ3 hk3;refine hK _ _ ?_;clear hK K;(try simp only [Act.put, lz]);refine tkI ?_ 21 rfl rfl (by kernel_rfl) (fun _ _ _ h => h) ⟨Or.inl ⟨by rfl, ?_⟩, fun _ => rfl⟩ ?_
             rotate_left
             ·intro w; go_simp <;> with_reducible rfl
             (try simp only [Act.put, lz]);refine tkI ?_ 22 rfl rfl (by kernel_rfl) (fun _ _ _ h => h) ⟨Or.inl ⟨by rfl, ?_⟩, fun _ => rfl⟩ ?_
             rotate_left
             ·intro w; go_simp <;> with_reducible rfl
             (try simp only [Act.put, lz]);refine wpAnyIn_done (by kernel_rfl) ?_ _
             gi_wp2_with fail;refine bodyPost_ret (results_none rfl _ _ _) rfl ?_;exact ⟨⟨_, rfl⟩, .inr ⟨_, trivial, hJ4.out⟩⟩
           | false =>
            have hd5 := hdy3.out
            rw [if_neg (by simp), List.nil_append] at hd5
            have hRd' := hid hd5
            have hJ4 : Hid (J ⟨qs, js ++ qs, i, none⟩ Wz) := hid (hT _ _ _ _ hJy.out ⟨KZ.out.mono (by simp), fun q hq => .inl hq, fun q hq => .inl hq, rfl, .inl rfl⟩)
            clear hd5 hdy3;refine tkI undef 16 rfl rfl (by kernel_rfl) (fun _ _ _ h => h) ⟨Or.inr ⟨by rfl, rfl⟩, fun _ => rfl⟩ ?_
            (try simp only [Act.put, lz]);refine tkI undef 17 rfl rfl (by kernel_rfl) (fun _ _ _ h => h) ⟨Or.inr ⟨by rfl, rfl⟩, fun _ => rfl⟩ ?_
            (try simp only [Act.put, lz]);refine tkI undef 18 rfl rfl (by kernel_rfl) (fun _ _ _ h => h) ⟨Or.inr ⟨by rfl, rfl⟩, fun _ => rfl⟩ ?_
            (try simp only [Act.put, lz]);refine tkI undef 19 rfl rfl (by kernel_rfl) (fun _ _ _ h => h) ⟨Or.inr ⟨by rfl, rfl⟩, fun _ => rfl⟩ ?_
            (try simp only [Act.put, lz]);refine tkI undef 20 rfl rfl (by kernel_rfl) (fun _ _ _ h => h) ⟨Or.inr ⟨by rfl, rfl⟩, fun _ => rfl⟩ ?_
            (try simp only [Act.put, lz]);refine tkI undef 21 rfl rfl (by kernel_rfl) (fun _ _ _ h => h) ⟨Or.inr ⟨by rfl, rfl⟩, fun _ => rfl⟩ ?_
            (try simp only [Act.put, lz]);refine tkI ?_ 22 rfl rfl (by kernel_rfl) (fun _ _ _ h => h) ⟨Or.inl ⟨by rfl, ?_⟩, fun _ => rfl⟩ ?_
            rotate_left
            ·intro w; go_simp <;> with_reducible rfl
            (try simp only [Act.put, lz]);refine wpAnyIn_done (by kernel_rfl) ?_ _
            gi_wp2_with fail;exact ⟨⟨y + 1, i, by omega, by simp, hJ4, hRd', hiR, hkZ⟩, by simp [intOf]; omega⟩
          ·go_simp
           refine hK _ _ ?_;clear hK K;(try simp only [Act.put, lz]);refine rdI 6 (by kernel_rfl) rfl fun K hK => ?_
           go_simp;refine hK _ _ ?_;clear hK K;(try simp only [Act.put, lz]);refine rdI 13 (by kernel_rfl) rfl fun K hK => ?_
           go_simp;refine hK _ _ ?_;clear hK K;(try simp only [Act.put, lz]);refine rdI 14 (by kernel_rfl) rfl fun K hK => ?_
           go_simp;refine ⟨trivial, (callsIn_wide.2 cH.out).mono ?_⟩;rintro e Wz ⟨rfl, kz⟩;refine hK _ _ ?_;clear hK K;(try simp only [Act.put, lz]);have KZ := hid (KE.out.trans kz (by simp))
           have hkZ : Hid (KeepB (js ++ qs) W2 Wz) := hid (hky.out.trans (KeepB.ofKp KZ.out (by simp)))
           clear kz cH;refine tkI ?_ 15 rfl rfl (by kernel_rfl) (fun _ _ _ h => h) ⟨Or.inl ⟨by rfl, ?_⟩, fun _ => rfl⟩ ?_
           rotate_left
           ·intro w; go_simp <;> with_reducible rfl
           try simp only [Act.put, lz]
           cases V with
           | true =>
            have hd5 := hdy3.out
            rw [if_pos rfl, List.singleton_append] at hd5;obtain ⟨hRi, hRd⟩ := drop_at hd5;have hRd' := hid hRd
            have hiR2 : i + 1 ≤ R.length := (List.getElem?_eq_some_iff.1 hRi).1
            have hJ2 : J ⟨qs, js ++ qs, i, some ((px : Int), (py : Int))⟩ Wz := hT _ _ _ _ hJy.out ⟨KZ.out.mono (by simp), fun q hq => .inl hq, fun q hq => .inl hq, rfl, .inr ⟨_, rfl, hRi⟩⟩
            obtain ⟨fn, tmps, assign, body, hyl, hRr⟩ := hY _ _ _ hJ2 rfl;have hR' := hid hRr
            dsimp only [encW, plV] at hyl;clear hRr hJ2 hRd hd5 hdy3 hRi;refine tkI ?_ 16 rfl rfl (by kernel_rfl) (fun _ _ _ h => h) ⟨Or.inl ⟨by rfl, ?_⟩, fun _ => rfl⟩ ?_
            rotate_left
            ·intro w; go_simp <;> with_reducible rfl
            (try simp only [Act.put, lz]);refine tkI ?_ 17 rfl rfl (by kernel_rfl) (fun _ _ _ h => h) ⟨Or.inl ⟨by rfl, ?_⟩, fun _ => rfl⟩ ?_
            rotate_left
            ·intro w; go_simp <;> with_reducible rfl
            (try simp only [Act.put, lz]);refine tkI ?_ 18 rfl rfl (by kernel_rfl) (fun _ _ _ h => h) ⟨Or.inl ⟨by rfl, ?_⟩, fun _ => rfl⟩ ?_
            rotate_left
            ·intro w; go_simp <;> with_reducible rfl
            (try simp only [Act.put, lz]);refine tkI ?_ 19 rfl rfl (by kernel_rfl) (fun _ _ _ h => h) ⟨Or.inl ⟨by rfl, ?_⟩, fun _ => rfl⟩ ?_
            rotate_left
            ·intro w; go_simp <;> with_reducible rfl
            (try simp only [Act.put, lz]);refine rdI 20 (by kernel_rfl) rfl fun K hK => ?_
            go_simp;refine hR'.out.mono ?_;rintro e1 A3 (⟨rfl, hJ3, hk3⟩ | ⟨rfl, hJ3, hk3⟩)
            ·have hJ4 : Hid (J ⟨qs, js ++ qs, i + 1, none⟩ A3) := hid hJ3
             have hk5 : Hid (KeepB (js ++ qs) W2 A3) := hid (hkZ.out.trans hk3)
             clear hR' hyl hJ3 hk3;refine hK _ _ ?_;clear hK K;(try simp only [Act.put, lz]);refine tkI ?_ 21 rfl rfl (by kernel_rfl) (fun _ _ _ h => h) ⟨Or.inl ⟨by rfl, ?_⟩, fun _ => rfl⟩ ?_
             rotate_left
             ·intro w; go_simp <;> with_reducible rfl
             (try simp only [Act.put, lz]);refine tkI ?_ 22 rfl rfl (by kernel_rfl) (fun _ _ _ h => h) ⟨Or.inl ⟨by rfl, ?_⟩, fun _ => rfl⟩ ?_
             rotate_left
             ·intro w; go_simp <;> with_reducible rfl
             (try simp only [Act.put, lz]);refine wpAnyIn_done (by kernel_rfl) ?_ _
             gi_wp2_with fail;exact ⟨⟨y + 1, i + 1, by omega, by simp, hJ4, hRd', hiR2, hk5⟩, by simp [intOf]; omega⟩
            ·have hJ4 := hid hJ3
             clear hR' hyl hJ3 hk3;refine hK _ _ ?_;clear hK K;(try simp only [Act.put, lz]);refine tkI ?_ 21 rfl rfl (by kernel_rfl) (fun _ _ _ h => h) ⟨Or.inl ⟨by rfl, ?_⟩, fun _ => rfl⟩ ?_
             rotate_left
             ·intro w; go_simp <;> with_reducible rfl
             (try simp only [Act.put, lz]);refine tkI ?_ 22 rfl rfl (by kernel_rfl) (fun _ _ _ h => h) ⟨Or.inl ⟨by rfl, ?_⟩, fun _ => rfl⟩ ?_
             rotate_left
             ·intro w; go_simp <;> with_reducible rfl
             (try simp only [Act.put, lz]);refine wpAnyIn_done (by kernel_rfl) ?_ _
             gi_wp2_with fail;refine bodyPost_ret (results_none rfl _ _ _) rfl ?_;exact ⟨⟨_, rfl⟩, .inr ⟨_, trivial, hJ4.out⟩⟩
           | false =>
            have hd5 := hdy3.out
            rw [if_neg (by simp), List.nil_append] at hd5
            have hRd' := hid hd5
            have hJ4 : Hid (J ⟨qs, js ++ qs, i, none⟩ Wz) := hid (hT _ _ _ _ hJy.out ⟨KZ.out.mono (by simp), fun q hq => .inl hq, fun q hq => .inl hq, rfl, .inl rfl⟩)
            clear hd5 hdy3;refine tkI undef 16 rfl rfl (by kernel_rfl) (fun _ _ _ h => h) ⟨Or.inr ⟨by rfl, rfl⟩, fun _ => rfl⟩ ?_
            (try simp only [Act.put, lz]);refine tkI undef 17 rfl rfl (by kernel_rfl) (fun _ _ _ h => h) ⟨Or.inr ⟨by rfl, rfl⟩, fun _ => rfl⟩ ?_
            (try simp only [Act.put, lz]);refine tkI undef 18 rfl rfl (by kernel_rfl) (fun _ _ _ h => h) ⟨Or.inr ⟨by rfl, rfl⟩, fun _ => rfl⟩ ?_
            (try simp only [Act.put, lz]);refine tkI undef 19 rfl rfl (by kernel_rfl) (fun _ _ _ h => h) ⟨Or.inr ⟨by rfl, rfl⟩, fun _ => rfl⟩ ?_
            (try simp only [Act.put, lz]);refine tkI undef 20 rfl rfl (by kernel_rfl) (fun _ _ _ h => h) ⟨Or.inr ⟨by rfl, rfl⟩, fun _ => rfl⟩ ?_
            (try simp only [Act.put, lz]);refine tkI undef 21 rfl rfl (by kernel_rfl) (fun _ _ _ h => h) ⟨Or.inr ⟨by rfl, rfl⟩, fun _ => rfl⟩ ?_
            (try simp only [Act.put, lz]);refine tkI ?_ 22 rfl rfl (by kernel_rfl) (fun _ _ _ h => h) ⟨Or.inl ⟨by rfl, ?_⟩, fun _ => rfl⟩ ?_
            rotate_left
            ·intro w; go_simp <;> with_reducible rfl
            (try simp only [Act.put, lz]);refine wpAnyIn_done (by kernel_rfl) ?_ _
            gi_wp2_with fail;exact ⟨⟨y + 1, i, by omega, by simp, hJ4, hRd', hiR, hkZ⟩, by simp [intOf]; omega⟩
         ·go_simp
          refine hK _ _ ?_;clear hK K;(try simp only [Act.put, lz]);refine rdI 2 (by kernel_rfl) rfl fun K hK => ?_
          go_simp;refine hK _ _ ?_;clear hK K;(try simp only [Act.put, lz]);refine tkI ?_ 4 rfl rfl (by kernel_rfl) (fun _ _ _ h => h) ⟨Or.inl ⟨by rfl, ?_⟩, fun _ => rfl⟩ ?_
          rotate_left
          ·intro w; go_simp <;> with_reducible rfl
          (try simp only [Act.put, lz]);refine tkI ?_ 5 rfl rfl (by kernel_rfl) (fun _ _ _ h => h) ⟨Or.inl ⟨by rfl, ?_⟩, fun _ => rfl⟩ ?_
          rotate_left
          ·intro w; go_simp <;> with_reducible rfl
          (try simp only [Act.put, lz]);refine rdI 6 (by kernel_rfl) rfl fun K hK => ?_
          go_simp;refine hK _ _ ?_;clear hK K;(try simp only [Act.put, lz]);refine rdI 13 (by kernel_rfl) rfl fun K hK => ?_
          go_simp;refine hK _ _ ?_;clear hK K;(try simp only [Act.put, lz]);refine rdI 14 (by kernel_rfl) rfl fun K hK => ?_
          go_simp;refine ⟨trivial, (callsIn_wide.2 cH.out).mono ?_⟩;rintro e Wz ⟨rfl, kz⟩;refine hK _ _ ?_;clear hK K;(try simp only [Act.put, lz]);have KZ := hid (KE.out.trans kz (by simp))
          have hkZ : Hid (KeepB (js ++ qs) W2 Wz) := hid (hky.out.trans (KeepB.ofKp KZ.out (by simp)))
          clear kz cH;refine tkI ?_ 15 rfl rfl (by kernel_rfl) (fun _ _ _ h => h) ⟨Or.inl ⟨by rfl, ?_⟩, fun _ => rfl⟩ ?_
          rotate_left
          ·intro w; go_simp <;> with_reducible rfl
          try simp only [Act.put, lz]
          cases V with
          | true =>
           have hd5 := hdy3.out
           rw [if_pos rfl, List.singleton_append] at hd5;obtain ⟨hRi, hRd⟩ := drop_at hd5;have hRd' := hid hRd
           have hiR2 : i + 1 ≤ R.length := (List.getElem?_eq_some_iff.1 hRi).1
           have hJ2 : J ⟨qs, js ++ qs, i, some ((px : Int), (py : Int))⟩ Wz := hT _ _ _ _ hJy.out ⟨KZ.out.mono (by simp), fun q hq => .inl hq, fun q hq => .inl hq, rfl, .inr ⟨_, rfl, hRi⟩⟩
           obtain ⟨fn, tmps, assign, body, hyl, hRr⟩ := hY _ _ _ hJ2 rfl;have hR' := hid hRr
           dsimp only [encW, plV] at hyl;clear hRr hJ2 hRd hd5 hdy3 hRi;refine tkI ?_ 16 rfl rfl (by kernel_rfl) (fun _ _ _ h => h) ⟨Or.inl ⟨by rfl, ?_⟩, fun _ => rfl⟩ ?_
           rotate_left
           ·intro w; go_simp <;> with_reducible rfl
           (try simp only [Act.put, lz]);refine tkI ?_ 17 rfl rfl (by kernel_rfl) (fun _ _ _ h => h) ⟨Or.inl ⟨by rfl, ?_⟩, fun _ => rfl⟩ ?_
           rotate_left
           ·intro w; go_simp <;> with_reducible rfl
           (try simp only [Act.put, lz]);refine tkI ?_ 18 rfl rfl (by kernel_rfl) (fun _ _ _ h => h) ⟨Or.inl ⟨by rfl, ?_⟩, fun _ => rfl⟩ ?_
           rotate_left
           ·intro w; go_simp <;> with_reducible rfl
           (try simp only [Act.put, lz]);refine tkI ?_ 19 rfl rfl (by kernel_rfl) (fun _ _ _ h => h) ⟨Or.inl ⟨by rfl, ?_⟩, fun _ => rfl⟩ ?_
           rotate_left
           ·intro w; go_simp <;> with_reducible rfl
           (try simp only [Act.put, lz]);refine rdI 20 (by kernel_rfl) rfl fun K hK => ?_
           go_simp;refine hR'.out.mono ?_;rintro e1 A3 (⟨rfl, hJ3, hk3⟩ | ⟨rfl, hJ3, hk3⟩)
           ·have hJ4 : Hid (J ⟨qs, js ++ qs, i + 1, none⟩ A3) := hid hJ3
            have hk5 : Hid (KeepB (js ++ qs) W2 A3) := hid (hkZ.out.trans hk3)
            clear hR' hyl hJ3 hk3;refine hK _ _ ?_;clear hK K;(try simp only [Act.put, lz]);refine tkI ?_ 21 rfl rfl (by kernel_rfl) (fun _ _ _ h => h) ⟨Or.inl ⟨by rfl, ?_⟩, fun _ => rfl⟩ ?_
            rotate_left
            ·intro w; go_simp <;> with_reducible rfl
            (try simp only [Act.put, lz]);refine tkI ?_ 22 rfl rfl (by kernel_rfl) (fun _ _ _ h => h) ⟨Or.inl ⟨by rfl, ?_⟩, fun _ => rfl⟩ ?_
            rotate_left
            ·intro w; go_simp <;> with_reducible rfl
            (try simp only [Act.put, lz]);refine wpAnyIn_done (by kernel_rfl) ?_ _
            gi_wp2_with fail;exact ⟨⟨y + 1, i + 1, by omega, by simp, hJ4, hRd', hiR2, hk5⟩, by simp [intOf]; omega⟩
           ·have hJ4 := hid hJ3
            clear hR' hyl hJ3 hk3;refine hK _ _ ?_;clear hK K;(try simp only [Act.put, lz]);refine tkI ?_ 21 rfl rfl (by kernel_rfl) (fun _ _ _ h => h) ⟨Or.inl ⟨by rfl, ?_⟩, fun _ => rfl⟩ ?_
            rotate_left
            ·intro w; go_simp <;> with_reducible rfl
            (try simp only [Act.put, lz]);refine tkI ?_ 22 rfl rfl (by kernel_rfl) (fun _ _ _ h => h) ⟨Or.inl ⟨by rfl, ?_⟩, fun _ => rfl⟩ ?_
            rotate_left
            ·intro w; go_simp <;> with_reducible rfl
            (try simp only [Act.put, lz]);refine wpAnyIn_done (by kernel_rfl) ?_ _
            gi_wp2_with fail;refine bodyPost_ret (results_none rfl _ _ _) rfl ?_;exact ⟨⟨_, rfl⟩, .inr ⟨_, trivial, hJ4.out⟩⟩
          | false =>
           have hd5 := hdy3.out
           rw [if_neg (by simp), List.nil_append] at hd5
           have hRd' := hid hd5
           have hJ4 : Hid (J ⟨qs, js ++ qs, i, none⟩ Wz) := hid (hT _ _ _ _ hJy.out ⟨KZ.out.mono (by simp), fun q hq => .inl hq, fun q hq => .inl hq, rfl, .inl rfl⟩)
           clear hd5 hdy3;refine tkI undef 16 rfl rfl (by kernel_rfl) (fun _ _ _ h => h) ⟨Or.inr ⟨by rfl, rfl⟩, fun _ => rfl⟩ ?_
           (try simp only [Act.put, lz]);refine tkI undef 17 rfl rfl (by kernel_rfl) (fun _ _ _ h => h) ⟨Or.inr ⟨by rfl, rfl⟩, fun _ => rfl⟩ ?_
           (try simp only [Act.put, lz]);refine tkI undef 18 rfl rfl (by kernel_rfl) (fun _ _ _ h => h) ⟨Or.inr ⟨by rfl, rfl⟩, fun _ => rfl⟩ ?_
           (try simp only [Act.put, lz]);refine tkI undef 19 rfl rfl (by kernel_rfl) (fun _ _ _ h => h) ⟨Or.inr ⟨by rfl, rfl⟩, fun _ => rfl⟩ ?_
           (try simp only [Act.put, lz]);refine tkI undef 20 rfl rfl (by kernel_rfl) (fun _ _ _ h => h) ⟨Or.inr ⟨by rfl, rfl⟩, fun _ => rfl⟩ ?_
           (try simp only [Act.put, lz]);refine tkI undef 21 rfl rfl (by kernel_rfl) (fun _ _ _ h => h) ⟨Or.inr ⟨by rfl, rfl⟩, fun _ => rfl⟩ ?_
           (try simp only [Act.put, lz]);refine tkI ?_ 22 rfl rfl (by kernel_rfl) (fun _ _ _ h => h) ⟨Or.inl ⟨by rfl, ?_⟩, fun _ => rfl⟩ ?_
           rotate_left
           ·intro w; go_simp <;> with_reducible rfl
           (try simp only [Act.put, lz]);refine wpAnyIn_done (by kernel_rfl) ?_ _
           gi_wp2_with fail;exact ⟨⟨y + 1, i, by omega, by simp, hJ4, hRd', hiR, hkZ⟩, by simp [intOf]; omega⟩
       ·obtain rfl : y = T.length := by omega
        have dj5 : ¬ (T.length : Int) < (T.length : Int) := by omega
        have dj6 : decide ((T.length : Int) < (T.length : Int)) = false := by simp
        have hdz : Hid (R.drop i = prW f (P.drop s1)) := by
         have := hdy.out
         rw [List.drop_length] at this;rw [hT4.out];exact hid this
        have hkz : Hid (KeepB (js ++ qs) W1 wr) := hid (hkx.out.trans hky.out)
        gi_wp2_with fail;exact ⟨⟨s1, i, by omega, by simp [hs1], hJy, hdz, hiR, hkz⟩, by simp [intOf]; omega⟩
     ·obtain rfl : x = P.length := by omega
      have dj3 : ¬ (P.length : Int) < (P.length : Int) := by omega
      have dj4 : decide ((P.length : Int) < (P.length : Int)) = false := by simp
      have hie : i = R.length := by
       have := hdx.out
       rw [List.drop_length] at this;have h2 := congrArg List.length this
       simp [prW] at h2
       omega
      have HE := hid (And.intro hie hJx.out)
      clear hie;gi_wp2_with fail;go_end0
      exact ⟨⟨_, rfl⟩, .inl ⟨_, ⟨HE.out.1, rfl⟩, HE.out.2⟩⟩
 ·have hwf : wi t (c.tl.length : Int) = false := by simpa using hwi
  rw [hwf] at cWi
  have hR0 : Hid (R = []) := by
   show _ = _
   rw [← hR.out];unfold waysV
   rw [if_neg hwi]
  clear hwi hwf;gi_wp2_with fail;refine ⟨trivial, (callsIn_wide.2 cWi.out).mono ?_⟩;rintro e W ⟨rfl, rfl⟩;clear cWi;gi_wp2_with fail;refine bodyPost_ret (results_none rfl _ _ _) rfl ?_;exact ⟨⟨_, rfl⟩, .inl ⟨_, ⟨by rw [hR0.out]; rfl, rfl⟩, h0⟩⟩
def catJs (c : Cg) : List Nat := (if c.tl = [] then [] else blk c.ta) ++ ((if c.pl = [] then [] else blk c.pa) ++ c.pl.flatMap fun p => if p.cl = [] then [] else blk p.ca)
theorem seeBlk {α : Type} {E : El α} {w : World} {a : Option Addr} {l : List α} (h : E.See w a l) (hl : l ≠ []) : ∀ k ∈ blk a, k < w.heap.size := fun k hk => by
 rcases h with e | ⟨g, o, rfl, hc⟩
 ·exact absurd e hl
 ·simp [blk] at hk
  subst hk
  cases l with
  | nil => exact absurd rfl hl
  | cons x l =>
   have hx := E.pos
   have hc0 : (E.cs (x :: l))[0]? = some ((E.c x)[0]'(by rw [E.len]; exact hx)) := by
    simp [El.cs, List.getElem?_append_left, E.len, hx]
   exact World.block_lt_of_cell? _ _ (hc 0 _ hc0)
theorem catJs_lt {w : World} {c : Cg} (hc : c.ok w) : ∀ k ∈ catJs c, k < w.heap.size := fun k hk => by
 unfold catJs at hk
 rcases List.mem_append.1 hk with hk | hk
 ·split at hk
  ·simp at hk
  ·rename_i h; exact seeBlk hc.ts h k hk
 ·rcases List.mem_append.1 hk with hk | hk
  ·split at hk
   ·simp at hk
   ·rename_i h; exact seeBlk hc.ps h k hk
  ·obtain ⟨p, hp, hk⟩ := List.mem_flatMap.1 hk
   split at hk
   ·simp at hk
   ·rename_i h; exact seeBlk (hc.pok p hp).cols h k hk
def WayP (c : Cg) (t : Int) (w : World) (e : Ending) (w' : World) : Prop :=
 ∃ q2 q3, e = .returned (.func (.func 80) #[] #[.pointer (some ⟨q3, 0, none⟩), .pointer (some ⟨q2, 0, none⟩)]) ∧ AtWy q2 q3 c t (q2 :: q3 :: catJs c) w' ∧ (∀ j ∈ q2 :: q3 :: catJs c, j < w'.heap.size ∧ (j < w.heap.size → j ∈ catJs c)) ∧ Kp [] w w'
theorem cWays (c : Cg) (t : Int) (w : World) (hc : c.ok w) : Calls Tryz.prog 41 #[c.v, .int .i64 t] w (WayP c t w) := by
 obtain ⟨v0, hv0, k0, b0⟩ : ∃ x, w.alloc (.cells #[.int .i64 c.n, .int .i64 c.s, .int .i64 c.k, .slice c.ta c.tl.length c.tc, .slice c.pa c.pl.length c.pc] 25) = x ∧ Kp [] w x ∧ Bn x w.heap.size [.int .i64 c.n, .int .i64 c.s, .int .i64 c.k, .slice c.ta c.tl.length c.tc, .slice c.pa c.pl.length c.pc] := ⟨_, rfl, (Kp.refl _ _).alloc _, Bn.new w _ _⟩
 obtain ⟨v1, hv1, k1, b1⟩ : ∃ x, v0.alloc (.cells #[.int .i64 t] 3) = x ∧ Kp [] v0 x ∧ Bn x v0.heap.size [.int .i64 t] := ⟨_, rfl, (Kp.refl _ _).alloc _, Bn.new v0 _ _⟩
 have hz0 : v0.heap.size = w.heap.size + 1 := by rw [← hv0]; simp
 have hz1 : v1.heap.size = v0.heap.size + 1 := by rw [← hv1]; simp
 have b01 := b0.kept k1
 have kk := k0.trans k1 (by simp)
 have hcv := hc.kept kk
 have hjs := catJs_lt hc
 have HA : Hid (AtWy w.heap.size v0.heap.size c t (w.heap.size :: v0.heap.size :: catJs c) v1) := hid ⟨b01.get 3 _ rfl, b01.get 4 _ rfl, b1.get 0 _ rfl, hcv.ts, hcv.ps, fun p hp => colsOf_ok (hcv.pok p hp), by simp, by simp,
  fun h k hk => by simp [catJs, h, hk], fun h k hk => by simp [catJs, h, hk], fun p hp h k hk => by
   refine List.mem_cons_of_mem _ (List.mem_cons_of_mem _ ?_);exact List.mem_append.2 (.inr (List.mem_append.2 (.inr (List.mem_flatMap.2 ⟨p, hp, by rw [if_neg h]; exact hk⟩))))⟩
 have HJ : Hid (∀ j ∈ w.heap.size :: v0.heap.size :: catJs c, j < v1.heap.size ∧ (j < w.heap.size → j ∈ catJs c)) := hid fun j hj => by
  rcases List.mem_cons.1 hj with rfl | hj
  ·exact ⟨by omega, fun h => by omega⟩
  ·rcases List.mem_cons.1 hj with rfl | hj
   ·exact ⟨by omega, fun h => by omega⟩
   ·exact ⟨by have := hjs j hj; omega, fun _ => hj⟩
 have HK := hid kk
 clear b0 b1 b01 k0 k1 kk hcv hjs hc hz0 hz1;simp only [Cg.v];go_enter Tryz.func41, Tryz.ntmps41
 go_wp2_with fail;go_returns;exact ⟨_, _, rfl, HA.out, HJ.out, HK.out⟩
structure MnI (w1 : World) (q5 : Nat) (R : List (Int × Int)) (s : Sw) (W : World) : Prop where
 co : CoW w1 [q5] s W
 box : W.cell? ⟨q5, 0, none⟩ = some (.int .i64 (s.i : Int))
 free : W.frozen? ⟨q5, 0, none⟩ = false
 pend : ∀ x, s.p = some x → s.i < R.length
theorem MnI.own {w1 : World} {q5 : Nat} {R : List (Int × Int)} : OwnFrom w1.heap.size (MnI w1 q5 R) := fun s X Y row h hg hr => by
 have ck := CK.ofGrown hg (fun r e => (hr r e).2)
 obtain ⟨h1, h2⟩ := ck.2 _ _ trivial h.box;exact ⟨h.co.grown hg hr, h1, h2.trans h.free, h.pend⟩
theorem MnI.step {w1 : World} {q5 : Nat} {R : List (Int × Int)} (hq : q5 < w1.heap.size) {s s' : Sw} {A B : World} (hz : w1.heap.size + 2 ≤ A.heap.size) (h : MnI w1 q5 R s A) (ht : StepW R s s' A B) : MnI w1 q5 R s' B := by
 have hn : q5 ∉ s'.qs := fun hm => by
  rcases ht.qs q5 hm with e | e
  ·have := h.co.own q5 e; omega
  ·omega
 have hlt : q5 < A.heap.size := by omega
 refine ⟨h.co.step (fun k hk => by rw [List.mem_singleton.1 hk]; exact hq) hz ht, ?_, ?_, fun x hx => ?_⟩
 ·rw [ht.on, ht.turn.cell (p := ⟨q5, 0, none⟩) hlt hn]; exact h.box
 ·rw [ht.turn.frozen (p := ⟨q5, 0, none⟩) hlt hn]; exact h.free
 ·rw [ht.on]
  rcases ht.given with e | ⟨y, e, hy⟩
  ·rw [e] at hx; cases hx
  ·exact (List.getElem?_eq_some_iff.1 hy).1
end Go.Proofs.YtlgfekjoknbfdaaGreatDoor
end

section
namespace Go.Hay
open Go.RowKit
section
variable {α : Type} {E : El α}
theorem El.cs_replicate (z : α) (n : Nat) (j : Nat) (u : Value) (h : (E.cs (List.replicate n z))[j]? = some u) : (E.c z)[j % E.n]? = some u ∧ j < n * E.n := by
 have hj : j < n * E.n := by have := (List.getElem?_eq_some_iff.1 h).1; rwa [El.cs_length, List.length_replicate] at this
 refine ⟨?_, hj⟩;have hq : j / E.n < n := (Nat.div_lt_iff_lt_mul E.pos).2 hj
 have hm : j % E.n < E.n := Nat.mod_lt _ E.pos
 have hx : (List.replicate n z)[j / E.n]? = some z := by rw [List.getElem?_replicate, if_pos hq]
 have e := El.cs_get E hx hm
 rw [Nat.mul_comm, Nat.div_add_mod] at e;rw [← e]; exact h
theorem run_makeG {P : Program} (w : World) (t e : TypeId) (i : TypeInfo) (zv : Value) (z : α) (bytes : Nat) (ht : P.underlying t = some (.slice e)) (hi : P.info? e = some i) (hz : i.zero = some zv) (hsize : i.size = E.n) (hby : i.bytes = bytes) (hzc : zv.cells = (E.c z).toArray)
  (kl kc : IntKind) (n : Nat) (hn : n * bytes ≤ 281474976710656) (h63 : n ≤ maxLen) :
  ∃ W, (Instr.makeSlice t (.int kl (n : Int)) (.int kc (n : Int))).run P w = .ok (.slice (some ⟨w.heap.size, 0, none⟩) n n) W ∧ E.Row W (.slice (some ⟨w.heap.size, 0, none⟩) n n) (List.replicate n z) ∧ Kp [] w W ∧ W.heap.size = w.heap.size + 1 := by
 have hr := run_make (P := P) w t e i zv ht hi hz kl kc n n (by omega) (by omega) (by rw [hby]; have h : ((n * bytes : Nat) : Int) ≤ ((281474976710656 : Nat) : Int) := Int.ofNat_le.2 hn; rw [Int.natCast_mul, Int.mul_comm] at h; exact h) (by unfold maxLen at h63; omega)
 rw [Int.toNat_natCast, hsize] at hr;have hzs : zv.cells.size = E.n := by rw [hzc]; simp [E.len]
 have hget : ∀ j, j < n * E.n → (w.alloc (.cells (madeCells zv.cells (n * E.n)) e)).cell? ⟨w.heap.size, 0 + j, none⟩ = some zv.cells[j % E.n]! := fun j hj => by
  have e1 : (w.alloc (.cells (madeCells zv.cells (n * E.n)) e)).cell? ⟨w.heap.size, 0 + j, none⟩ = _ := World.cell?_alloc_new w _ _ (0 + j)
  rw [e1, Nat.zero_add];unfold madeCells
  rw [Array.getElem?_map, Array.getElem?_range, if_pos hj, hzs];rfl
 refine ⟨_, hr, .inr ⟨w.heap.size, 0, n, by rw [List.length_replicate], by rw [List.length_replicate]; exact Nat.le_refl _, h63, by simp, fun j u hu => ?_, fun j hj => ⟨?_, World.frozen?_alloc_new w _ _ (0 + j)⟩⟩, (Kp.refl _ _).alloc _, by simp⟩
 ·obtain ⟨h1, h2⟩ := El.cs_replicate z n j u hu
  rw [hget j h2, hzc];have hm : j % E.n < (E.c z).length := by rw [E.len]; exact Nat.mod_lt _ E.pos
  rw [getElem!_pos _ _ (by simpa using hm)]
  have := (List.getElem?_eq_some_iff.1 h1).2
  simp [this]
 ·rw [hget j hj]; rfl
theorem El.Row.setAt {w : World} {g o n cap : Nat} {l : List α} (h : E.Row w (.slice (some ⟨g, o, none⟩) n cap) l) (i : Nat) (hi : i < l.length) (x : α) : E.Row (w.setCells g (o + i * E.n) (E.c x)) (.slice (some ⟨g, o, none⟩) n cap) (l.set i x) := by
 rcases h with ⟨e, _⟩ | ⟨g, o, c, e, hl, hx, hg, hc, ht⟩
 ·cases e
 ·cases e
  have hin : i * E.n + E.n ≤ l.length * E.n := by rw [← Nat.succ_mul]; exact Nat.mul_le_mul_right _ hi
  have hcap : l.length * E.n ≤ cap * E.n := Nat.mul_le_mul_right _ hl
  have hsome : ∀ j, j < (E.c x).length → (w.cell? ⟨g, o + i * E.n + j, none⟩).isSome = true := fun j hj => by rw [E.len] at hj; rw [Nat.add_assoc]; exact (ht _ (by omega)).1
  refine .inr ⟨g, o, cap, by rw [List.length_set], by rw [List.length_set]; exact hl, hx, by rw [size_setCells]; exact hg, fun j u hu => ?_, fun j hj => ⟨?_, (World.frozen?_setCells g _ _ _ _).trans (ht j hj).2⟩⟩
  ·have hjl : j < l.length * E.n := by have := (List.getElem?_eq_some_iff.1 hu).1; rwa [El.cs_length, List.length_set] at this
   have hq : j / E.n < l.length := (Nat.div_lt_iff_lt_mul E.pos).2 hjl
   have hm : j % E.n < E.n := Nat.mod_lt _ E.pos
   have hjd : j = j / E.n * E.n + j % E.n := by rw [Nat.mul_comm]; exact (Nat.div_add_mod j E.n).symm
   by_cases hji : j / E.n = i
   ·have hx' : (l.set i x)[j / E.n]? = some x := by rw [hji]; exact List.getElem?_set_self hi
    have e := El.cs_get E hx' hm
    rw [← hjd, hu] at e;have hk : j % E.n < (E.c x).length := by rw [E.len]; exact hm
    have := World.cell?_setCells_in g (E.c x) (o + i * E.n) w hsome (j % E.n) hk
    rw [← List.getElem?_eq_getElem hk, ← e] at this;rw [show o + i * E.n + j % E.n = o + j by rw [hji] at hjd; omega] at this
    exact this
   ·have hy : (l.set i x)[j / E.n]? = some l[j / E.n] := by rw [List.getElem?_set_ne (fun e => hji e.symm)]; simp [hq]
    have e := El.cs_get E hy hm
    have e2 := El.cs_get E (show l[j / E.n]? = some l[j / E.n] by simp [hq]) hm
    rw [← hjd, hu] at e;rw [← hjd, ← e] at e2;rw [World.cell?_setCells_out g _ _ _ _ (fun _ _ => ?_)]
    ·exact hc j u e2
    ·rw [E.len]
     show o + j < o + i * E.n ∨ o + i * E.n + E.n ≤ o + j
     rcases Nat.lt_or_gt_of_ne hji with h1 | h1
     ·have : (j / E.n + 1) * E.n ≤ i * E.n := Nat.mul_le_mul_right _ h1
      rw [Nat.succ_mul] at this;left; omega
     ·have : (i + 1) * E.n ≤ j / E.n * E.n := Nat.mul_le_mul_right _ h1
      rw [Nat.succ_mul] at this;right; omega
  ·by_cases hin2 : i * E.n ≤ j ∧ j < i * E.n + E.n
   ·have := World.cell?_setCells_in g (E.c x) (o + i * E.n) w hsome (j - i * E.n) (by rw [E.len]; omega)
    rw [show o + i * E.n + (j - i * E.n) = o + j by omega] at this
    rw [this]; rfl
   ·rw [World.cell?_setCells_out g _ _ _ _ (fun _ _ => by rw [E.len]; show o + j < o + i * E.n ∨ o + i * E.n + E.n ≤ o + j; omega)]
    exact (ht j hj).1
end
variable {F : Fence} {n : Nat} {P : Program} {σ α : Type}
theorem wpRangeY {g : Operand} {ps : Array Tmp} {assign body : Code} {Q : Exit → Act → World → Prop} {a : Act} {w : World}
  (hro : F.round = none) (h1 : 1 ≤ n) {gf : Nat} {lb : Array Value} (hg : a.eval g = .func (.func gf) #[] lb) (hFg : F.fn gf) (eg : ∀ args w, (callFunc gf args).run P w = .ok (.enter gf args) w)
  {encs : α → Array Value} {T : σ → σ → World → World → Prop} {Tx : σ → World → World → Prop} {K : σ → World → World → Prop} {ok : σ → α → Prop} {nx : σ → α → σ} {S Sp : σ → Prop} {s0 : σ} {w0 : World}
  (hseq : SeqX F (n - 1) P gf lb encs T Tx K ok nx S Sp s0 w0) (hps : ∀ x, (encs x).size = ps.size)
  (hKt : ∀ {s : σ} {A B C : World}, K s A B → K s B C → K s A C) (hKa : ∀ s W o, K s W (W.alloc o)) (hb0 : K s0 w0 w)
  (I : σ → World → Prop) (Ix : Code → σ → World → Prop) (hI : OwnFrom w.heap.size I) (hIx : ∀ c, OwnFrom w.heap.size (Ix c)) (h0 : I s0 w)
  (hTk : ∀ s s' A B, I s A → T s s' A B → ∀ (k : Nat) (o : Obj), (k = w.heap.size ∨ k = w.heap.size + 1) → A.heap[k]? = some o → B.heap[k]? = some o)
  (hXk : ∀ c s A B, Ix c s A → Tx s A B → ∀ (k : Nat) (o : Obj), (k = w.heap.size ∨ k = w.heap.size + 1) → A.heap[k]? = some o → B.heap[k]? = some o)
  (hIT : ∀ s s' A B, w.heap.size + 2 ≤ A.heap.size → I s A → T s s' A B → I s' B) (hXT : ∀ c s A B, Ix c s A → Tx s A B → Ix c s B)
  (hKb : ∀ (s : σ) (W : World) (o' : Obj), I s W → K s W (W.putObj (w.heap.size + 1) o')) (hKc : ∀ (s : σ) (x : α) (W : World) (o' : Obj), I (nx s x) W → K s W (W.putObj (w.heap.size + 1) o'))
  (hKx : ∀ (c : Code) (s : σ) (x : α) (W : World) (o' : Obj), Ix c (nx s x) W → K s W (W.putObj (w.heap.size + 1) o'))
  (ob : α → Obj) (a₁ : α → Nat → Act) (hassign : ∀ (l : Nat) (x : α) (W : World) (C : Act → World → Prop), C (a₁ x W.heap.size) (W.alloc (ob x)) →
   assign.wpIn (F.inRound l) (n - 1 - 1) P (Exit.then C (fun _ _ _ => False)) { tmps := (ps.zip (encs x)).foldl (fun t (p, v) => t.setIfInBounds p v) a.tmps, defers := [] } W)
  (hbody : ∀ (l : Nat) (s : σ) (x : α) (W : World) (q : Nat), I s W → ok s x → W.heap[q]? = some (ob x) → w.heap.size + 2 ≤ q → body.wpIn (F.inRound l) (n - 1 - 1) P (leftX w.heap.size K I Ix s (nx s x) W) (a₁ x q) W)
  (hdone : ∀ (D : Nat) (s : σ) (W : World), w.heap.size ≤ D → S s → I s W → W.heap[D]? = some (.deferred (some [])) → Q .normal { a with defers := { target := .collected D, args := #[] } :: a.defers } W)
  (hstop : ∀ (D : Nat) (c : Code) (s : σ) (W : World), w.heap.size ≤ D → Sp s → Ix c s W → W.heap[D]? = some (.deferred (some [])) → c.wpIn F n P Q { a with defers := { target := .collected D, args := #[] } :: a.defers } W) :
  (Code.rangeFunc g ps assign body).wpIn F n P Q a w := by
 refine wpIn_rangeFunc fun fn hfn => ?_
 rw [hro]
 -- the loop's record, as it may stand
 let R : LoopState → Option Code → Obj := fun st pe => .loop { state := st, pending := pe, fn, tmps := a.tmps, params := ps, assign, body, defers := w.heap.size }
 let Bk : LoopState → Option Code → World → Prop := fun st pe W => W.heap[w.heap.size + 1]? = some (R st pe) ∧ W.heap[w.heap.size]? = some (.deferred (some []))
 have bkK : ∀ {st pe A B}, KeepsFrom w.heap.size A B → Bk st pe A → Bk st pe B := fun hk hb => ⟨hk.same _ _ (by omega) hb.1 rfl, hk.same _ _ (Nat.le_refl _) hb.2 rfl⟩
 have bkP : ∀ {st pe st' pe' A}, Bk st pe A → Bk st' pe' (A.putObj (w.heap.size + 1) (R st' pe')) := fun hb =>
  ⟨World.putObj_heap_same (Array.getElem?_eq_some_iff.1 hb.1).1, (World.putObj_heap_other (by omega)).trans hb.2⟩
 have iP : ∀ {st pe s A} (o : Obj), Bk st pe A → I s A → I s (A.putObj (w.heap.size + 1) o) := fun o hb hi => hI.putObj o hi (by omega) hb.1 rfl
 have ixP : ∀ {st pe s c A} (o : Obj), Bk st pe A → Ix c s A → Ix c s (A.putObj (w.heap.size + 1) o) := fun o hb hi => (hIx _).putObj o hi (by omega) hb.1 rfl
 have bsz : ∀ {st pe A}, Bk st pe A → w.heap.size + 2 ≤ A.heap.size := fun hb => by have := (Array.getElem?_eq_some_iff.1 hb.1).1; omega
 have b0 : Bk .ready none ((w.alloc (.deferred (some []))).alloc (R .ready none)) :=
  ⟨by have := World.alloc_heap_new (w.alloc (.deferred (some []))) (R .ready none); rwa [World.size_alloc] at this, (Below.heap_alloc _ _ _ (by simp)).trans (World.alloc_heap_new w _)⟩
 refine ⟨w.heap.size + 1, [{ target := .collected w.heap.size, args := #[] }], ((w.alloc (.deferred (some []))).alloc (R .ready none)), { target := .fn (.func gf) lb, args := #[.func (.yield (w.heap.size + 1)) #[] #[]] }, ((w.alloc (.deferred (some []))).alloc (R .ready none)), gf, #[.func (.yield (w.heap.size + 1)) #[] #[]] ++ lb, ((w.alloc (.deferred (some []))).alloc (R .ready none)),
  run_enterLoop_outer _ _ _ _ _, by simp only [resolve, hg]; simp [go_sem], fun f' hf' => by simp [Target.leads] at hf'; subst hf'; exact hFg, by simp [invoke, go_sem, eg], fun _ => h1, ?_⟩
 refine (hseq (w.heap.size + 1) (fun s A => I s A ∧ Bk .ready none A) (fun s A => ∃ c, Ix c s A ∧ Bk .done (some c) A) _ (hKt hb0 (hKt (hKa _ _ _) (hKa _ _ _)))
  (fun s s' A B hs ht => ⟨hIT s s' A B (bsz hs.2) hs.1 ht, hTk s s' A B hs.1 ht _ _ (.inr rfl) hs.2.1, hTk s s' A B hs.1 ht _ _ (.inl rfl) hs.2.2⟩)
  (fun s A B ⟨c, hs, hb⟩ ht => ⟨c, hXT c s A B hs ht, hXk c s A B hs ht _ _ (.inr rfl) hb.1, hXk c s A B hs ht _ _ (.inl rfl) hb.2⟩) ?_ ⟨hI.alloc _ (hI.alloc _ h0), b0⟩).mono ?_
 ·-- one round
  rintro s x A ⟨hi, hb⟩ hok;have hb1 : Bk .ready none (A.alloc (ob x)) := ⟨(Below.heap_alloc A _ _ (Array.getElem?_eq_some_iff.1 hb.1).1).trans hb.1, (Below.heap_alloc A _ _ (Array.getElem?_eq_some_iff.1 hb.2).1).trans hb.2⟩
  have hi1 : I s (A.alloc (ob x)) := hI.alloc _ hi
  have hz := bsz hb
  refine ⟨fn, _, assign, body, run_yield hb.1 (hps x), roundIn_of_wpIn hfn (hassign _ x A _ ⟨_, run_beginRound hb1.1 rfl, ?_⟩)⟩;have hb2 : Bk .busy none ((A.alloc (ob x)).putObj (w.heap.size + 1) (R .busy none)) := bkP hb1
  refine wpIn_mono (hbody _ s x _ A.heap.size (iP _ hb1 hi1) hok ((World.putObj_heap_other (by omega)).trans (World.alloc_heap_new A (ob x))) hz) ?_
  rintro e a3 W3 hp
  cases e with
  | normal =>
   have hb3 := bkK hp.1 hb2
   exact ⟨_, _, run_endRound none hb3.1, .inl ⟨rfl, ⟨iP _ hb3 hp.2.2, bkP hb3⟩, hKt (hKa _ _ _) (hKt (hKb _ _ _ hi1) (hKt hp.2.1 (hKc _ _ _ _ hp.2.2)))⟩⟩
  | ret => have hb3 := bkK hp.1 hb2; exact ⟨_, _, run_endRound (some .ret) hb3.1, .inr ⟨rfl, ⟨.ret, ixP _ hb3 hp.2.2, bkP hb3⟩, hKt (hKa _ _ _) (hKt (hKb _ _ _ hi1) (hKt hp.2.1 (hKx _ _ _ _ _ hp.2.2)))⟩⟩
  | exit id => have hb3 := bkK hp.1 hb2; exact ⟨_, _, run_endRound (some (.exit id)) hb3.1, .inr ⟨rfl, ⟨.exit id, ixP _ hb3 hp.2.2, bkP hb3⟩, hKt (hKa _ _ _) (hKt (hKb _ _ _ hi1) (hKt hp.2.1 (hKx _ _ _ _ _ hp.2.2)))⟩⟩
  | goto t => have hb3 := bkK hp.1 hb2; exact ⟨_, _, run_endRound (some (.goto t)) hb3.1, .inr ⟨rfl, ⟨.goto t, ixP _ hb3 hp.2.2, bkP hb3⟩, hKt (hKa _ _ _) (hKt (hKb _ _ _ hi1) (hKt hp.2.1 (hKx _ _ _ _ _ hp.2.2)))⟩⟩
  | panic ch => exact hp.elim
  | outgrown => exact hp.elim
 ·-- behind the iterator
  rintro e A ⟨⟨v, rfl⟩, (⟨s, hS, hi, hb⟩ | ⟨s, hSp, c, hi, hb⟩)⟩
  ·exact ⟨none, _, run_endLoop hb.1 (by simp), hdone _ s _ (Nat.le_refl _) hS (iP _ hb hi) ((World.putObj_heap_other (by omega)).trans hb.2)⟩
  ·exact ⟨some c, _, run_endLoop hb.1 (by simp), hstop _ c s _ (Nat.le_refl _) hSp (ixP _ hb hi) ((World.putObj_heap_other (by omega)).trans hb.2)⟩
variable {P : Program} {l n : Nat}
theorem upon_round {o : Oper} {a : Act} {K : Act → World → Prop} {Q : Exit → Act → World → Prop} : ∀ {r : Result Next}, o.upon P a K Q r → o.uponIn (Fence.wide.inRound l) n P a K Q r := by
 intro r h
 have hdep : (Fence.wide.inRound l).depth.isSome = true → 1 ≤ n := fun h => by cases h
 unfold Oper.upon at h
 split at h
 ·exact h
 ·exact h
 ·exact h
 ·exact ⟨hdep, callsIn_wide.2 h⟩
 ·refine ⟨hdep, fun c cs _ => ?_⟩
  obtain ⟨v, w', hr, hs⟩ := h c cs;exact ⟨v, w', hr, stepsIn_wide.2 hs⟩
 ·exact h
 ·exact h.elim
theorem op_round {ops : Array Oper} {i : Nat} {K : Act → World → Prop} {Q : Exit → Act → World → Prop} {a : Act} {w : World} (hnd : ∀ o, ops[i]? = some o → ∀ c, o.op ≠ .defer c) (hlo : ¬ LetsOut Q) (h : wpOp P ops Q i K a w) : wpOpIn (Fence.wide.inRound l) n P ops Q i K a w := by
 unfold wpOp at h
 unfold wpOpIn
 cases ho : ops[i]? with
 | none => rw [ho] at h; exact h
 | some o =>
  rw [ho] at h;simp only at h ⊢
  split
  ·rename_i hw
   rw [if_pos hw] at h
   rcases h with h | h
   ·refine ⟨fun _ _ => trivial, ?_⟩
    rw [Oper.semAt_plain _ _ _ (hnd o ho)];exact upon_round h
   ·exact absurd h.2 hlo
  ·rename_i hw
   rw [if_neg hw] at h;exact ⟨fun _ _ => trivial, h⟩
theorem any_round {ops : Array Oper} {Q : Exit → Act → World → Prop} {S : World → Prop} (hnd : ∀ (i : Nat) (o : Oper), ops[i]? = some o → ∀ c, o.op ≠ .defer c) (hlo : ¬ LetsOut Q) : ∀ (fuel : Nat) (listed : Array Bool) (a : Act) (w : World), wpAnyH P .any ops Q S fuel listed a w → wpAnyIn (Fence.wide.inRound l) n P .any ops Q fuel listed a w
 | 0, _, _, _, h => h
 | fuel + 1, listed, a, w, h => ⟨h.1, fun i hi => op_round (hnd i) hlo (wpOp_mono (fun a w hk => any_round hnd hlo fuel _ a w hk.2) (h.2 i hi))⟩
def noDefer (ops : Array Oper) : Bool := ops.all fun o => match o.op with | .defer _ => false | _ => true
theorem noDefer_spec {ops : Array Oper} (h : noDefer ops = true) (i : Nat) (o : Oper) (ho : ops[i]? = some o) (c : Call) : o.op ≠ .defer c := fun e => by
 have := Array.all_eq_true.1 h i (Array.getElem?_eq_some_iff.1 ho).1
 rw [(Array.getElem?_eq_some_iff.1 ho).2, e] at this
 cases this
theorem region_round {id : Nat} {ops : Array Oper} {Q : Exit → Act → World → Prop} {a : Act} {w : World} (S : World → Prop) (hm : P.follows .mixedOrders = true) (hnd : noDefer ops = true) (hlo : ¬ LetsOut Q) (hS : S w.drew)
  (h : S w.drew → wpAnyH P .any ops Q S ops.size (Array.replicate ops.size false) a w.drew) : (Code.region id ops true).wpIn (Fence.wide.inRound l) n P Q a w :=
 wpIn_region_any hm (any_round (noDefer_spec hnd) hlo _ _ _ _ (h hS))
def marks (Ds : List Nat) : List Deferred := Ds.map fun D => { target := .collected D, args := #[] }
structure Mks (Ds : List Nat) (w : World) : Prop where
 nd : Ds.Nodup
 at_ : ∀ D ∈ Ds, w.heap[D]? = some (.deferred (some []))
theorem Mks.nil (w : World) : Mks [] w := ⟨List.nodup_nil, by simp⟩
theorem Mks.lt {Ds : List Nat} {w : World} (h : Mks Ds w) : ∀ D ∈ Ds, D < w.heap.size := fun D hD => (Array.getElem?_eq_some_iff.1 (h.at_ D hD)).1
theorem Mks.kept {Ds : List Nat} {w w' : World} {S : List Nat} (h : Mks Ds w) (hk : Kp S w w') (hS : ∀ D ∈ Ds, D ∉ S) : Mks Ds w' :=
 ⟨h.nd, fun D hD => (hk.block D (h.lt D hD) (hS D hD)).trans (h.at_ D hD)⟩
theorem Mks.cons {Ds : List Nat} {w : World} {D : Nat} (h : Mks Ds w) (hD : w.heap[D]? = some (.deferred (some []))) (hn : D ∉ Ds) : Mks (D :: Ds) w :=
 ⟨List.nodup_cons.2 ⟨hn, h.nd⟩, fun E hE => by rcases List.mem_cons.1 hE with rfl | hE; exact hD; exact h.at_ E hE⟩
theorem leaves_marks {F : Fence} {n : Nat} {P : Program} {fn : Func} {tmps : Array Value} {R : Ending → World → Prop} : ∀ (Ds : List Nat) (w : World), Mks Ds w →
  (∀ w', Kp Ds w w' → ∃ v, (results fn tmps).run P w' = .ok v w' ∧ R (.returned v) w') → LeavesInM F n P fn tmps R (marks Ds) .returning w
 | [], w, _, h => h w (Kp.refl _ _)
 | D :: Ds, w, hM, h => by
  have hD := hM.at_ D (by simp)
  have hnd := List.nodup_cons.1 hM.nd
  have kD : Kp [D] w (w.putObj D (.deferred none)) := ⟨rfl, rfl, rfl, by simp, fun k hk hn => World.putObj_heap_other (by simpa using hn)⟩
  have hM2 : Mks Ds w := ⟨hnd.2, fun E hE => hM.at_ E (by simp [hE])⟩
  refine ⟨by simp, .inl ⟨D, _, rfl, run_takeDeferred hD, leaves_marks Ds _ (hM2.kept kD (fun E hE => by simp; rintro rfl; exact hnd.1 hE)) fun w' hk => h w' ?_⟩⟩
  exact (kD.mono (fun x hx => .inl (by simp at hx; simp [hx]))).trans hk (fun x hx => .inl (by simp [hx]))
end Go.Hay
end

section
namespace Go.Proofs.YtlgfekjoknbfdaaGreatDoor
open Go.RowKit Go.Hay
attribute [local go_sem] Oper.semAt_some
theorem infoVal : ∃ i : TypeInfo, Tryz.prog.info? 88 = some i ∧ i.zero = some (.agg #[.int .i64 0, .bool false, .int .i64 0, .string ⟨#[]⟩]) ∧ i.size = 4 ∧ i.bytes = 40 := by
 have h : (Tryz.prog.info? 88).map (fun i => (i.zero, i.size, i.bytes)) = some (some (.agg #[.int .i64 0, .bool false, .int .i64 0, .string ⟨#[]⟩]), 4, 40) := by kernel_rfl
 cases e : Tryz.prog.info? 88 with
 | none => rw [e] at h; cases h
 | some i =>
  rw [e] at h;simp at h
  exact ⟨i, rfl, h.1, h.2.1, h.2.2⟩
theorem wpAppRunY {P : Program} {w w' : World} {ops : Array Oper} {rest : List Oper} {o : Oper} {a : Act} {Q : Exit → Act → World → Prop} (hgd : o.guard = none) (s x : Operand) (t tx : TypeId)
  (ho : o.op = .call { callee := .builtin .append, args := #[s, x], argTypes := #[t, tx] }) (v xv v' : Value) (hv : a.eval s = v) (hx : a.eval x = xv)
  (hrun : (Builtin.append_ #[t, tx] o.type #[v, xv]).run P w = .ok v' w') (h : wpList P ops Q rest (a.put o.dst v') w') : wpList P ops Q (o :: rest) a w := by
 refine wpList_plain hgd fun K hK' => ?_
 have hfin := hK' _ _ h
 unfold Oper.wp
 simp [execOp, ho, resolve, invoke, builtin, hv, hx, hrun, Result.andThen]
 exact hfin
def NewR (l : List Val) (w : World) (e : Ending) (w' : World) : Prop := ∃ a c, e = .returned (.slice a l.length c) ∧ VE.Row w' (.slice a l.length c) l ∧ Kp [] w w' ∧ ∀ k ∈ blk a, w.heap.size ≤ k
theorem rowLies {w : World} {a : Option Addr} {c : Nat} {l : List Val} (h : VE.Row w (.slice a l.length c) l) : (⟨a, c, l⟩ : Vs).lies w := by
 obtain ⟨a', c', e, hs, h0, h1, h2, _⟩ := h.see
 cases e
 exact ⟨seeV.1 hs, h1, h2, fun e => (h0 e).2⟩
def LotP (R : List (List Val)) (w : World) (e : Ending) (w' : World) : Prop := ∃ ra rc L, e = .returned (.slice ra L.length rc) ∧ Lot w.heap.size ra rc L w' ∧ L.map (·.l) = R ∧ Kp [] w w'
theorem cellCel {W : World} {k z : Nat} {v : Value} (h : W.cell? ⟨k, z, none⟩ = some v) : W.heap[k]?.map Obj.isCells = some true := by
 unfold World.cell? at h
 cases e : W.heap[k]? with
 | none => rw [e] at h; cases h
 | some ob => rw [e] at h; cases ob <;> simp_all [Obj.isCells]
theorem rowCel {α : Type} {E : El α} {W : World} {a : Option Addr} {n c : Nat} {l : List α} (h : E.Row W (.slice a n c) l) (hl : l ≠ []) : ∀ k ∈ blk a, W.heap[k]?.map Obj.isCells = some true := fun k hk => by
 rcases h with ⟨e, e2⟩ | ⟨g, o, cc, e, h1, _, _, _, ht⟩
 ·exact absurd e2 hl
 ·injection e with e1
  subst e1;simp [blk] at hk
  subst hk;have hp := E.pos
  have hlp : 0 < l.length := List.length_pos_iff.2 hl
  obtain ⟨u, hu⟩ := Option.isSome_iff_exists.1 (ht 0 (Nat.mul_pos (by omega) hp)).1
  exact cellCel hu
end Go.Proofs.YtlgfekjoknbfdaaGreatDoor
end

section
namespace Go.Proofs.YtlgfekjoknbfdaaGreatDoor
open Go.RowKit Go.Hay
def vAt (l : List Val) (n : Int) : Val := if 0 ≤ n ∧ n < (l.length : Int) then l.getD n.toNat nulV else nulV
theorem vAt_in (l : List Val) (i : Nat) (h : i < l.length) : vAt l (i : Int) = l[i] := by
 unfold vAt
 rw [if_pos (by omega)]
 simp [h]
theorem vAt_out (l : List Val) (n : Int) (h : ¬ (0 ≤ n ∧ n < (l.length : Int))) : vAt l n = nulV := by unfold vAt; rw [if_neg h]
end Go.Proofs.YtlgfekjoknbfdaaGreatDoor
end

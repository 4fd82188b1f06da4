/- A region that draws its order, inside a round of a range over a function: as a plain one, where nothing is deferred. No statement of the seat is proved here. -/
import Derived.RangeFuncNested
import Derived.RangeFuncBound
import Derived.RangeFuncCalls
import Derived.RangeFuncLeaves
import Derived.RangeFuncSeq
import Derived.Test.YtohbdbecioanaaaGreatDoorB19
import Derived.Shelf.RegionOpen
import Derived.LoopIn
import Derived.LoopNIn
import Derived.OrdersIn
import Derived.TacticsInMore
import Derived.OwnWalkIn
import Derived.RegionIn
import Derived.Test.YtohbdbecioanaaaGreatDoorB18
import Derived.Test.YtohbdbecioanaaaGreatDoorB15
import Derived.Deep.RegionHeld3
import Derived.Test.YtohbdbecioanaaaGreatDoorB14
import Derived.Test.YtohbdbecioanaaaGreatDoorB11
import Derived.Test.YtohbdbecioanaaaGreatDoorB3
import Derived.Test.YtohbdbecioanaaaGreatDoorB2
import Derived.OrdersHeld
section
namespace Go.Hay
open Go.RowKit
set_option linter.unusedVariables false

variable {F : Fence} {n : Nat} {P : Program} {σ α : Type}

/-- What an iterator that stands at some s of σ promises: it hands on things x (as encs x), each behind a step T of its own, which may turn memory; a round that goes on takes it from s to nx s x and keeps what K says; S: it is at its end; Sp: a round has said 'no more'. -/
def SeqS (F : Fence) (n : Nat) (P : Program) (g : Nat) (lb : Array Value) (encs : α → Array Value) (T : σ → σ → World → World → Prop) (K : σ → World → World → Prop) (ok : σ → α → Prop) (nx : σ → α → σ) (S Sp : σ → Prop) (s0 : σ) (w : World) : Prop :=
  ∀ (l : Nat) (J Jx : σ → World → Prop) (W : World), K s0 w W → (∀ s s' A B, J s A → T s s' A B → J s' B) →
    (∀ s x A, J s A → ok s x → YieldAt F (n - 1) P l (encs x) A fun e A' => (e = .returned (.bool true) ∧ J (nx s x) A' ∧ K s A A') ∨ (e = .returned (.bool false) ∧ Jx (nx s x) A')) →
    J s0 W → CallsIn F n P g (#[.func (.yield l) #[] #[]] ++ lb) W fun e A' => (∃ v, e = .returned v) ∧ ((∃ s, S s ∧ J s A') ∨ (∃ s, Sp s ∧ Jx s A'))

/-- How a round's body may be left: B: from which block on whatever is no cells must lie as it lay. -/
def leftS (B : Nat) (K : σ → World → World → Prop) (I : σ → World → Prop) (Ix : Code → σ → World → Prop) (s0 s : σ) (W : World) : Exit → Act → World → Prop
  | .normal, _, W' => KeepsFrom B W W' ∧ K s0 W W' ∧ I s W'
  | .ret, _, W' => KeepsFrom B W W' ∧ Ix .ret s W'
  | .exit id, _, W' => KeepsFrom B W W' ∧ Ix (.exit id) s W'
  | .goto t, _, W' => KeepsFrom B W W' ∧ Ix (.goto t) s W'
  | _, _, _ => False

/-- The law. -/
theorem wpRangeS {g : Operand} {ps : Array Tmp} {assign body : Code} {Q : Exit → Act → World → Prop} {a : Act} {w : World}
    (hro : F.round = none) (h1 : 1 ≤ n) {gf : Nat} {lb : Array Value} (hg : a.eval g = .func (.func gf) #[] lb) (hFg : F.fn gf) (eg : ∀ args w, (callFunc gf args).run P w = .ok (.enter gf args) w)
    {encs : α → Array Value} {T : σ → σ → World → World → Prop} {K : σ → World → World → Prop} {ok : σ → α → Prop} {nx : σ → α → σ} {S Sp : σ → Prop} {s0 : σ} {w0 : World}
    (hseq : SeqS F (n - 1) P gf lb encs T K ok nx S Sp s0 w0) (hps : ∀ x, (encs x).size = ps.size)
    (hKt : ∀ {s : σ} {A B C : World}, K s A B → K s B C → K s A C) (hKa : ∀ s W o, K s W (W.alloc o)) (hKb : ∀ (s : σ) (W : World) (l : Nat) (o o' : Obj), w.heap.size ≤ l → W.heap[l]? = some o → o.isCells = false → o.isWalk = false → K s W (W.putObj l o')) (hb0 : K s0 w0 w)
    (hTk : ∀ s s' A B, T s s' A B → ∀ (k : Nat) (o : Obj), w.heap.size ≤ k → A.heap[k]? = some o → o.isCells = false → o.isWalk = false → B.heap[k]? = some o)
    (I : σ → World → Prop) (Ix : Code → σ → World → Prop) (hI : OwnFrom w.heap.size I) (hIx : ∀ c, OwnFrom w.heap.size (Ix c)) (hIT : ∀ s s' A B, I s A → T s s' A B → I s' B) (h0 : I s0 w)
    (a₁ : α → Act) (hassign : ∀ (l : Nat) (x : α) (W : World) (C : Act → World → Prop), C (a₁ x) W →
      assign.wpIn (F.inRound l) (n - 1 - 1) P (Exit.then C (fun _ _ _ => False)) { tmps := (ps.zip (encs x)).foldl (fun t (p, v) => t.setIfInBounds p v) a.tmps, defers := [] } W)
    (hbody : ∀ (l : Nat) (s : σ) (x : α) (W : World), I s W → ok s x → body.wpIn (F.inRound l) (n - 1 - 1) P (leftS w.heap.size K I Ix s (nx s x) W) (a₁ x) W)
    (hdone : ∀ (D : Nat) (s : σ) (W : World), w.heap.size ≤ D → S s → I s W → W.heap[D]? = some (.deferred (some [])) → Q .normal { a with defers := { target := .collected D, args := #[] } :: a.defers } W)
    (hstop : ∀ (D : Nat) (c : Code) (s : σ) (W : World), w.heap.size ≤ D → Sp s → Ix c s W → W.heap[D]? = some (.deferred (some [])) → c.wpIn F n P Q { a with defers := { target := .collected D, args := #[] } :: a.defers } W) :
    (Code.rangeFunc g ps assign body).wpIn F n P Q a w := by
  refine wpIn_rangeFunc fun fn hfn => ?_
  rw [hro]
  -- the loop's record, as it may stand
  let R : LoopState → Option Code → Obj := fun st pe => .loop { state := st, pending := pe, fn, tmps := a.tmps, params := ps, assign, body, defers := w.heap.size }
  let Bk : LoopState → Option Code → World → Prop := fun st pe W => W.heap[w.heap.size + 1]? = some (R st pe) ∧ W.heap[w.heap.size]? = some (.deferred (some []))
  have bkK : ∀ {st pe A B}, KeepsFrom w.heap.size A B → Bk st pe A → Bk st pe B := fun hk hb => ⟨hk.same _ _ (by omega) hb.1 rfl, hk.same _ _ (Nat.le_refl _) hb.2 rfl⟩
  have bkP : ∀ {st pe st' pe' A}, Bk st pe A → Bk st' pe' (A.putObj (w.heap.size + 1) (R st' pe')) := fun hb =>
    ⟨World.putObj_heap_same (Array.getElem?_eq_some_iff.1 hb.1).1, (World.putObj_heap_other (by omega)).trans hb.2⟩
  have iP : ∀ {st pe s A} (o : Obj), Bk st pe A → I s A → I s (A.putObj (w.heap.size + 1) o) := fun o hb hi => hI.putObj o hi (by omega) hb.1 rfl
  have ixP : ∀ {st pe s c A} (o : Obj), Bk st pe A → Ix c s A → Ix c s (A.putObj (w.heap.size + 1) o) := fun o hb hi => (hIx _).putObj o hi (by omega) hb.1 rfl
  have kP : ∀ {s st pe A} (o : Obj), Bk st pe A → K s A (A.putObj (w.heap.size + 1) o) := fun o hb => hKb _ _ _ _ _ (by omega) hb.1 rfl rfl
  have bkT : ∀ {s s' st pe A B}, T s s' A B → Bk st pe A → Bk st pe B := fun ht hb => ⟨hTk _ _ _ _ ht _ _ (by omega) hb.1 rfl rfl, hTk _ _ _ _ ht _ _ (Nat.le_refl _) hb.2 rfl rfl⟩
  have b0 : Bk .ready none ((w.alloc (.deferred (some []))).alloc (R .ready none)) :=
    ⟨by have := World.alloc_heap_new (w.alloc (.deferred (some []))) (R .ready none); rwa [World.size_alloc] at this, (Below.heap_alloc _ _ _ (by simp)).trans (World.alloc_heap_new w _)⟩
  refine ⟨w.heap.size + 1, [{ target := .collected w.heap.size, args := #[] }], ((w.alloc (.deferred (some []))).alloc (R .ready none)), { target := .fn (.func gf) lb, args := #[.func (.yield (w.heap.size + 1)) #[] #[]] }, ((w.alloc (.deferred (some []))).alloc (R .ready none)), gf, #[.func (.yield (w.heap.size + 1)) #[] #[]] ++ lb, ((w.alloc (.deferred (some []))).alloc (R .ready none)),
    run_enterLoop_outer _ _ _ _ _, by simp only [resolve, hg]; simp [go_sem], fun f' hf' => by simp [Target.leads] at hf'; subst hf'; exact hFg, by simp [invoke, go_sem, eg], fun _ => h1, ?_⟩
  refine (hseq (w.heap.size + 1) (fun s A => I s A ∧ Bk .ready none A) (fun s A => ∃ c, Ix c s A ∧ Bk .done (some c) A) _ (hKt hb0 (hKt (hKa _ _ _) (hKa _ _ _)))
    (fun s s' A B hs ht => ⟨hIT s s' A B hs.1 ht, bkT ht hs.2⟩) ?_ ⟨hI.alloc _ (hI.alloc _ h0), b0⟩).mono ?_
  · -- one round
    rintro s x A ⟨hi, hb⟩ hok
    refine ⟨fn, _, assign, body, run_yield hb.1 (hps x), roundIn_of_wpIn hfn (hassign _ x A _ ⟨_, run_beginRound hb.1 rfl, ?_⟩)⟩
    have hb2 : Bk .busy none (A.putObj (w.heap.size + 1) (R .busy none)) := bkP hb
    refine wpIn_mono (hbody _ s x _ (iP _ hb hi) hok) ?_
    rintro e a3 W3 hp
    cases e with
    | normal =>
      have hb3 := bkK hp.1 hb2
      exact ⟨_, _, run_endRound none hb3.1, .inl ⟨rfl, ⟨iP _ hb3 hp.2.2, bkP hb3⟩, hKt (kP _ hb) (hKt hp.2.1 (kP _ hb3))⟩⟩
    | ret => have hb3 := bkK hp.1 hb2; exact ⟨_, _, run_endRound (some .ret) hb3.1, .inr ⟨rfl, .ret, ixP _ hb3 hp.2, bkP hb3⟩⟩
    | exit id => have hb3 := bkK hp.1 hb2; exact ⟨_, _, run_endRound (some (.exit id)) hb3.1, .inr ⟨rfl, .exit id, ixP _ hb3 hp.2, bkP hb3⟩⟩
    | goto t => have hb3 := bkK hp.1 hb2; exact ⟨_, _, run_endRound (some (.goto t)) hb3.1, .inr ⟨rfl, .goto t, ixP _ hb3 hp.2, bkP hb3⟩⟩
    | panic ch => exact hp.elim
    | outgrown => exact hp.elim
  · -- behind the iterator
    rintro e A ⟨⟨v, rfl⟩, (⟨s, hS, hi, hb⟩ | ⟨s, hSp, c, hi, hb⟩)⟩
    · exact ⟨none, _, run_endLoop hb.1 (by simp), hdone _ s _ (Nat.le_refl _) hS (iP _ hb hi) ((World.putObj_heap_other (by omega)).trans hb.2)⟩
    · exact ⟨some c, _, run_endLoop hb.1 (by simp), hstop _ c s _ (Nat.le_refl _) hSp (ixP _ hb hi) ((World.putObj_heap_other (by omega)).trans hb.2)⟩
end Go.Hay
end

section
namespace Go.Proofs.YtohbdbecioanaaaGreatDoor
open Go.RowKit Go.Hay
attribute [local go_sem] Oper.semAt_some
set_option linter.unusedVariables false
set_option linter.unusedSimpArgs false

/-- What the rounds leave alone: the blocks Js. -/
def KeepB (Js : List Nat) (A B : World) : Prop := A.heap.size ≤ B.heap.size ∧ ∀ k ∈ Js, ∀ o, A.heap[k]? = some o → B.heap[k]? = some o
theorem KeepB.trans {Js : List Nat} {A B C : World} (h : KeepB Js A B) (k : KeepB Js B C) : KeepB Js A C := ⟨Nat.le_trans h.1 k.1, fun j hj o ho => k.2 j hj o (h.2 j hj o ho)⟩
theorem KeepB.refl (Js : List Nat) (A : World) : KeepB Js A A := ⟨Nat.le_refl _, fun _ _ _ h => h⟩
theorem KeepB.ofKp {Js S : List Nat} {A B : World} (hk : Kp S A B) (hJ : ∀ j ∈ Js, j ∉ S) : KeepB Js A B := ⟨hk.size, fun j hj o ho => (hk.block j (Array.getElem?_eq_some_iff.1 ho).1 (hJ j hj)).trans ho⟩
theorem KeepB.cell {Js : List Nat} {A B : World} (h : KeepB Js A B) {g j : Nat} (hg : g ∈ Js) {v : Value} (hc : A.cell? ⟨g, j, none⟩ = some v) : B.cell? ⟨g, j, none⟩ = some v := by
  have hl := World.block_lt_of_cell? _ _ hc
  have e : A.heap[g]? = some A.heap[g] := by simp at hl; simp [hl]
  exact (World.cell?_of_block (a := ⟨g, j, none⟩) ((h.2 g hg _ e).trans e.symm)).trans hc
/-- What is given: a slice of values, of a block of so many bytes. -/
structure Gl where
  a : Option Addr
  c : Nat
  l : List Val
  n : Nat
abbrev encL (x : Gl) : Array Value := #[.slice x.a x.l.length x.c]
/-- How the iterator stands: so many bytes are read; what is given now. -/
structure Ls where
  d : Nat
  v : Option Gl
def Ls.nx (s : Ls) (x : Gl) : Ls := ⟨s.d + x.n, none⟩
/-- The iterator's own step: it reads a block, into memory of its own. -/
structure StepL (bs : List UInt8) (s s' : Ls) (A B : World) : Prop where
  kp : Kp [] A B
  was : s.v = none
  same : s'.d = s.d
  given : s'.v = none ∨ ∃ x : Gl, s'.v = some x ∧ rdR (bs.drop s.d) = (x.l, x.n, 0) ∧ VE.Row B (.slice x.a x.l.length x.c) x.l ∧ ∀ k ∈ blk x.a, A.heap.size ≤ k
/-- The block of bytes, where there are any. -/
def bk (a : Option Addr) (bs : List UInt8) : List Nat := if bs = [] then [] else blk a
/-- What the iterator finds: the slice in its box, the bytes, the table of the sums. -/
structure AtL (q : Nat) (a : Option Addr) (c : Nat) (bs : List UInt8) (w : World) : Prop where
  box : w.cell? ⟨q, 0, none⟩ = some (.slice a bs.length c)
  sees : Sees w a bs
  tab : Tab w
theorem AtL.kept {q : Nat} {a : Option Addr} {c : Nat} {bs : List UInt8} {A B : World} (h : AtL q a c bs A) (hk : KeepB (0 :: q :: bk a bs) A B) : AtL q a c bs B := by
  refine ⟨hk.cell (by simp) h.box, ?_, ?_⟩
  · by_cases hbs : bs = []
    · exact .inl hbs
    rcases h.sees with e | ⟨g, o, e, hc⟩
    · exact .inl e
    · subst e
      exact .inr ⟨g, o, rfl, fun j u hu => hk.cell (by simp [bk, hbs, blk]) (hc j u hu)⟩
  · exact ⟨Nat.lt_of_lt_of_le h.tab.1 hk.1, fun d hd => hk.cell (by simp) (h.tab.2 d hd)⟩
/-- The end: nothing is left, or no block. -/
def endL (bs : List UInt8) (s : Ls) : Prop := s.v = none ∧ (bs.drop s.d = [] ∨ (rdR (bs.drop s.d)).2.2 ≠ 0)
/-- How many things a slice has. -/
def slen : Value → Nat
  | .slice _ n _ => n
  | _ => 0
theorem rdR_n {bs : List UInt8} {l : List Val} {n : Nat} (h : rdR bs = (l, n, 0)) : 0 < n ∧ n ≤ bs.length := by
  obtain ⟨i, s, _, _, _, _, h5, _, h7⟩ := rdR_put h
  exact ⟨h7, h5⟩
set_option maxHeartbeats 16000000 in
set_option maxRecDepth 100000 in
theorem listsSeq (n : Nat) (hn : 1 ≤ n) (q : Nat) (a : Option Addr) (c : Nat) (bs : List UInt8) (hl : bs.length ≤ c) (hm : c ≤ maxLen) (hb : bs.length ≤ 200000000000000) (w : World) (hA : AtL q a c bs w) :
    SeqS Fence.wide n Tryz.prog 29 #[.pointer (some ⟨q, 0, none⟩)] encL (StepL bs) (fun _ => KeepB (0 :: q :: bk a bs))
      (fun s x => s.v = some x ∧ rdR (bs.drop s.d) = (x.l, x.n, 0)) Ls.nx (endL bs) (fun _ => True) ⟨0, none⟩ w := by
  intro ly J Jx W hW hT hY h0
  have hAW := hA.kept hW
  have hbx := hAW.box
  have hAW' := hid hAW
  have hT' := hid hT
  have hY' := hid hY
  clear hA hW hAW hT hY
  refine callsIn_of_wp Tryz.func29 rfl trivial ?_ rfl
  simp only [Tryz.ntmps29, List.size_toArray, List.length_cons, List.length_nil, Nat.reduceAdd, Nat.reduceSub, Array.replicate_succ, Array.replicate_zero, List.push_toArray, List.append_toArray, List.nil_append, List.cons_append]
  gi_wp2_with fail
  gi_loopw [3] (fun v wr => ∃ (d : Nat) (A : Option Addr), d ≤ bs.length ∧ v = .slice A (bs.length - d) (c - d) ∧ (bs.drop d = [] ∨ ∃ g o, a = some ⟨g, o, none⟩ ∧ A = some ⟨g, o + d, none⟩) ∧ J ⟨d, none⟩ wr ∧ KeepB (0 :: q :: bk a bs) W wr) (fun v _ => slen v)
  case atStart =>
    refine ⟨0, a, Nat.zero_le _, rfl, ?_, h0, KeepB.refl _ _⟩
    rcases hAW'.out.sees with e | ⟨g, o, e, _⟩
    · left; rw [e]; rfl
    · right; exact ⟨g, o, e, by rw [e]; rfl⟩
  case round =>
    obtain ⟨d, A, hd, rfl, hAd, hJd, hkr⟩ := hrel
    clear h0 hbx
    have hAr := hAW'.out.kept hkr
    have hld : (bs.drop d).length = bs.length - d := List.length_drop
    by_cases hz : bs.length - d = 0
    · have e0 : bs.drop d = [] := List.drop_of_length_le (by omega)
      rw [hz]
      clear hAr
      gi_wp2
      go_end0
      exact ⟨⟨_, rfl⟩, .inl ⟨⟨d, none⟩, ⟨rfl, .inl e0⟩, hJd⟩⟩
    · obtain ⟨g, o, ea, eA⟩ : ∃ g o, a = some ⟨g, o, none⟩ ∧ A = some ⟨g, o + d, none⟩ := by
        rcases hAd with e | h
        · rw [e] at hld; simp at hld; omega
        · exact h
      subst eA
      subst ea
      have hsd : Sees wr (some ⟨g, o + d, none⟩) (bs.drop d) := by
        have := hAr.sees.tail d
        simpa [Addr.add_lit] using this
      have cR := bRead (some ⟨g, o + d, none⟩) (c - d) (bs.drop d) wr hAr.tab hsd (by omega) (by unfold maxLen at hm ⊢; omega) (by omega)
      rw [hld] at cR
      have hrn := hid (fun l n => rdR_n (bs := bs.drop d) (l := l) (n := n))
      obtain ⟨⟨L, N, F⟩, hF⟩ : ∃ r, Hid (rdR (bs.drop d) = r) := ⟨_, rfl⟩
      rw [hF.out] at cR
      simp only [hF.out] at hrn
      unfold RdP at cR
      dsimp only at cR
      have hpos : ¬ ((bs.length - d : Nat) : Int) ≤ 0 := by omega
      have hpos2 : (0 : Int) < ((bs.length - d : Nat) : Int) := by omega
      obtain ⟨LN, hLN⟩ : ∃ x : Nat, Hid (bs.length - d = x) := ⟨_, rfl⟩
      rw [hLN.out] at cR hpos hpos2 hz ⊢
      clear hAr hsd hAd hld
      gi_wp2_with fail
      refine ⟨trivial, (callsIn_wide.2 cR).mono ?_⟩
      rintro e w2 ⟨a2, c2, rfl, hrow2, k2, hn2⟩
      by_cases hF0 : F = 0
      · subst hF0
        obtain ⟨hN0, hNl⟩ := hrn.out L N rfl
        rw [List.length_drop] at hNl
        have hJ2 : J ⟨d, some ⟨a2, c2, L, N⟩⟩ w2 := hT'.out _ _ wr w2 hJd ⟨k2, rfl, rfl, .inr ⟨⟨a2, c2, L, N⟩, rfl, hF.out, hrow2, hn2⟩⟩
        obtain ⟨fn, tmps, assign, body, hy, hR⟩ := hY'.out ⟨d, some ⟨a2, c2, L, N⟩⟩ ⟨a2, c2, L, N⟩ w2 hJ2 ⟨rfl, hF.out⟩
        have hk2 := hid (hkr.trans (KeepB.ofKp k2 (by simp)))
        have hNc : N ≤ c - d := by omega
        have hNL : N ≤ LN := by rw [← hLN.out]; omega
        clear cR hrow2 hn2 k2 hJd hkr hrn
        gi_wp2
        refine hR.mono ?_
        rintro e1 W3 (⟨rfl, hJ3, hk3⟩ | ⟨rfl, hJx⟩)
        · have hN1 : (N : Int) ≤ (LN : Int) := by omega
          unfold maxLen at hm
          gi_wp2
          have hLN' := hLN.out
          have hJ3' : J ⟨d + N, none⟩ W3 := hJ3
          refine ⟨⟨d + N, (if c - d = N then some { block := g, off := o + d } else some { block := g, off := o + d + N }), by omega, by rw [show LN - N = bs.length - (d + N) by omega, show c - d - N = c - (d + N) by omega], ?_, hJ3', hk2.out.trans hk3⟩, by show LN - N < LN; omega⟩
          by_cases hcd : c - d = N
          · left; exact List.drop_of_length_le (by omega)
          · right; exact ⟨g, o, rfl, by rw [if_neg hcd, Nat.add_assoc]⟩
        · gi_wp2
          go_returns
          exact ⟨⟨_, rfl⟩, .inr ⟨_, trivial, hJx⟩⟩
      · have hJ2 : J ⟨d, none⟩ w2 := hT'.out _ _ wr w2 hJd ⟨k2, rfl, rfl, .inl rfl⟩
        have hend : endL bs ⟨d, none⟩ := ⟨rfl, .inr (by show (rdR (bs.drop d)).2.2 ≠ 0; rw [hF.out]; exact hF0)⟩
        have d5 : (F != 0) = true := by simpa using hF0
        clear cR hrow2 hn2 k2 hJd hkr hrn
        gi_wp2
        refine ⟨fun f hf => (by cases hf), ?_⟩
        gi_wp2
        go_returns
        exact ⟨⟨_, rfl⟩, .inl ⟨⟨d, none⟩, hend, hJ2⟩⟩
end Go.Proofs.YtohbdbecioanaaaGreatDoor
end

section
namespace Go.Hay
open Go.RowKit
set_option linter.unusedVariables false

variable {F : Fence} {n : Nat} {P : Program} {σ α : Type}

/-- As SeqS; a round keeps what K says also where it has said 'no more', and behind that the iterator may turn what Tx says. -/
def SeqX (F : Fence) (n : Nat) (P : Program) (g : Nat) (lb : Array Value) (encs : α → Array Value) (T : σ → σ → World → World → Prop) (Tx : σ → World → World → Prop) (K : σ → World → World → Prop) (ok : σ → α → Prop) (nx : σ → α → σ) (S Sp : σ → Prop) (s0 : σ) (w : World) : Prop :=
  ∀ (l : Nat) (J Jx : σ → World → Prop) (W : World), K s0 w W → (∀ s s' A B, J s A → T s s' A B → J s' B) → (∀ s A B, Jx s A → Tx s A B → Jx s B) →
    (∀ s x A, J s A → ok s x → YieldAt F (n - 1) P l (encs x) A fun e A' => (e = .returned (.bool true) ∧ J (nx s x) A' ∧ K s A A') ∨ (e = .returned (.bool false) ∧ Jx (nx s x) A' ∧ K s A A')) →
    J s0 W → CallsIn F n P g (#[.func (.yield l) #[] #[]] ++ lb) W fun e A' => (∃ v, e = .returned v) ∧ ((∃ s, S s ∧ J s A') ∨ (∃ s, Sp s ∧ Jx s A'))

/-- How a round's body may be left. -/
def leftX (B : Nat) (K : σ → World → World → Prop) (I : σ → World → Prop) (Ix : Code → σ → World → Prop) (s0 s : σ) (W : World) : Exit → Act → World → Prop
  | .normal, _, W' => KeepsFrom B W W' ∧ K s0 W W' ∧ I s W'
  | .ret, _, W' => KeepsFrom B W W' ∧ K s0 W W' ∧ Ix .ret s W'
  | .exit id, _, W' => KeepsFrom B W W' ∧ K s0 W W' ∧ Ix (.exit id) s W'
  | .goto t, _, W' => KeepsFrom B W W' ∧ K s0 W W' ∧ Ix (.goto t) s W'
  | _, _, _ => False

/-- The law. -/
theorem wpRangeX {g : Operand} {ps : Array Tmp} {assign body : Code} {Q : Exit → Act → World → Prop} {a : Act} {w : World}
    (hro : F.round = none) (h1 : 1 ≤ n) {gf : Nat} {lb : Array Value} (hg : a.eval g = .func (.func gf) #[] lb) (hFg : F.fn gf) (eg : ∀ args w, (callFunc gf args).run P w = .ok (.enter gf args) w)
    {encs : α → Array Value} {T : σ → σ → World → World → Prop} {Tx : σ → World → World → Prop} {K : σ → World → World → Prop} {ok : σ → α → Prop} {nx : σ → α → σ} {S Sp : σ → Prop} {s0 : σ} {w0 : World}
    (hseq : SeqX F (n - 1) P gf lb encs T Tx K ok nx S Sp s0 w0) (hps : ∀ x, (encs x).size = ps.size)
    (hKt : ∀ {s : σ} {A B C : World}, K s A B → K s B C → K s A C) (hKa : ∀ s W o, K s W (W.alloc o)) (hb0 : K s0 w0 w)
    (I : σ → World → Prop) (Ix : Code → σ → World → Prop) (hI : OwnFrom w.heap.size I) (hIx : ∀ c, OwnFrom w.heap.size (Ix c)) (h0 : I s0 w)
    (hTk : ∀ s s' A B, I s A → T s s' A B → ∀ (k : Nat) (o : Obj), (k = w.heap.size ∨ k = w.heap.size + 1) → A.heap[k]? = some o → B.heap[k]? = some o)
    (hXk : ∀ c s A B, Ix c s A → Tx s A B → ∀ (k : Nat) (o : Obj), (k = w.heap.size ∨ k = w.heap.size + 1) → A.heap[k]? = some o → B.heap[k]? = some o)
    (hIT : ∀ s s' A B, w.heap.size + 2 ≤ A.heap.size → I s A → T s s' A B → I s' B) (hXT : ∀ c s A B, Ix c s A → Tx s A B → Ix c s B)
    (hKb : ∀ (s : σ) (W : World) (o' : Obj), I s W → K s W (W.putObj (w.heap.size + 1) o')) (hKc : ∀ (s : σ) (x : α) (W : World) (o' : Obj), I (nx s x) W → K s W (W.putObj (w.heap.size + 1) o'))
    (hKx : ∀ (c : Code) (s : σ) (x : α) (W : World) (o' : Obj), Ix c (nx s x) W → K s W (W.putObj (w.heap.size + 1) o'))
    (a₁ : α → Act) (hassign : ∀ (l : Nat) (x : α) (W : World) (C : Act → World → Prop), C (a₁ x) W →
      assign.wpIn (F.inRound l) (n - 1 - 1) P (Exit.then C (fun _ _ _ => False)) { tmps := (ps.zip (encs x)).foldl (fun t (p, v) => t.setIfInBounds p v) a.tmps, defers := [] } W)
    (hbody : ∀ (l : Nat) (s : σ) (x : α) (W : World), I s W → ok s x → body.wpIn (F.inRound l) (n - 1 - 1) P (leftX w.heap.size K I Ix s (nx s x) W) (a₁ x) W)
    (hdone : ∀ (D : Nat) (s : σ) (W : World), w.heap.size ≤ D → S s → I s W → W.heap[D]? = some (.deferred (some [])) → Q .normal { a with defers := { target := .collected D, args := #[] } :: a.defers } W)
    (hstop : ∀ (D : Nat) (c : Code) (s : σ) (W : World), w.heap.size ≤ D → Sp s → Ix c s W → W.heap[D]? = some (.deferred (some [])) → c.wpIn F n P Q { a with defers := { target := .collected D, args := #[] } :: a.defers } W) :
    (Code.rangeFunc g ps assign body).wpIn F n P Q a w := by
  refine wpIn_rangeFunc fun fn hfn => ?_
  rw [hro]
  -- the loop's record, as it may stand
  let R : LoopState → Option Code → Obj := fun st pe => .loop { state := st, pending := pe, fn, tmps := a.tmps, params := ps, assign, body, defers := w.heap.size }
  let Bk : LoopState → Option Code → World → Prop := fun st pe W => W.heap[w.heap.size + 1]? = some (R st pe) ∧ W.heap[w.heap.size]? = some (.deferred (some []))
  have bkK : ∀ {st pe A B}, KeepsFrom w.heap.size A B → Bk st pe A → Bk st pe B := fun hk hb => ⟨hk.same _ _ (by omega) hb.1 rfl, hk.same _ _ (Nat.le_refl _) hb.2 rfl⟩
  have bkP : ∀ {st pe st' pe' A}, Bk st pe A → Bk st' pe' (A.putObj (w.heap.size + 1) (R st' pe')) := fun hb =>
    ⟨World.putObj_heap_same (Array.getElem?_eq_some_iff.1 hb.1).1, (World.putObj_heap_other (by omega)).trans hb.2⟩
  have iP : ∀ {st pe s A} (o : Obj), Bk st pe A → I s A → I s (A.putObj (w.heap.size + 1) o) := fun o hb hi => hI.putObj o hi (by omega) hb.1 rfl
  have ixP : ∀ {st pe s c A} (o : Obj), Bk st pe A → Ix c s A → Ix c s (A.putObj (w.heap.size + 1) o) := fun o hb hi => (hIx _).putObj o hi (by omega) hb.1 rfl
  have bsz : ∀ {st pe A}, Bk st pe A → w.heap.size + 2 ≤ A.heap.size := fun hb => by have := (Array.getElem?_eq_some_iff.1 hb.1).1; omega
  have b0 : Bk .ready none ((w.alloc (.deferred (some []))).alloc (R .ready none)) :=
    ⟨by have := World.alloc_heap_new (w.alloc (.deferred (some []))) (R .ready none); rwa [World.size_alloc] at this, (Below.heap_alloc _ _ _ (by simp)).trans (World.alloc_heap_new w _)⟩
  refine ⟨w.heap.size + 1, [{ target := .collected w.heap.size, args := #[] }], ((w.alloc (.deferred (some []))).alloc (R .ready none)), { target := .fn (.func gf) lb, args := #[.func (.yield (w.heap.size + 1)) #[] #[]] }, ((w.alloc (.deferred (some []))).alloc (R .ready none)), gf, #[.func (.yield (w.heap.size + 1)) #[] #[]] ++ lb, ((w.alloc (.deferred (some []))).alloc (R .ready none)),
    run_enterLoop_outer _ _ _ _ _, by simp only [resolve, hg]; simp [go_sem], fun f' hf' => by simp [Target.leads] at hf'; subst hf'; exact hFg, by simp [invoke, go_sem, eg], fun _ => h1, ?_⟩
  refine (hseq (w.heap.size + 1) (fun s A => I s A ∧ Bk .ready none A) (fun s A => ∃ c, Ix c s A ∧ Bk .done (some c) A) _ (hKt hb0 (hKt (hKa _ _ _) (hKa _ _ _)))
    (fun s s' A B hs ht => ⟨hIT s s' A B (bsz hs.2) hs.1 ht, hTk s s' A B hs.1 ht _ _ (.inr rfl) hs.2.1, hTk s s' A B hs.1 ht _ _ (.inl rfl) hs.2.2⟩)
    (fun s A B ⟨c, hs, hb⟩ ht => ⟨c, hXT c s A B hs ht, hXk c s A B hs ht _ _ (.inr rfl) hb.1, hXk c s A B hs ht _ _ (.inl rfl) hb.2⟩) ?_ ⟨hI.alloc _ (hI.alloc _ h0), b0⟩).mono ?_
  · -- one round
    rintro s x A ⟨hi, hb⟩ hok
    refine ⟨fn, _, assign, body, run_yield hb.1 (hps x), roundIn_of_wpIn hfn (hassign _ x A _ ⟨_, run_beginRound hb.1 rfl, ?_⟩)⟩
    have hb2 : Bk .busy none (A.putObj (w.heap.size + 1) (R .busy none)) := bkP hb
    refine wpIn_mono (hbody _ s x _ (iP _ hb hi) hok) ?_
    rintro e a3 W3 hp
    cases e with
    | normal =>
      have hb3 := bkK hp.1 hb2
      exact ⟨_, _, run_endRound none hb3.1, .inl ⟨rfl, ⟨iP _ hb3 hp.2.2, bkP hb3⟩, hKt (hKb _ _ _ hi) (hKt hp.2.1 (hKc _ _ _ _ hp.2.2))⟩⟩
    | ret => have hb3 := bkK hp.1 hb2; exact ⟨_, _, run_endRound (some .ret) hb3.1, .inr ⟨rfl, ⟨.ret, ixP _ hb3 hp.2.2, bkP hb3⟩, hKt (hKb _ _ _ hi) (hKt hp.2.1 (hKx _ _ _ _ _ hp.2.2))⟩⟩
    | exit id => have hb3 := bkK hp.1 hb2; exact ⟨_, _, run_endRound (some (.exit id)) hb3.1, .inr ⟨rfl, ⟨.exit id, ixP _ hb3 hp.2.2, bkP hb3⟩, hKt (hKb _ _ _ hi) (hKt hp.2.1 (hKx _ _ _ _ _ hp.2.2))⟩⟩
    | goto t => have hb3 := bkK hp.1 hb2; exact ⟨_, _, run_endRound (some (.goto t)) hb3.1, .inr ⟨rfl, ⟨.goto t, ixP _ hb3 hp.2.2, bkP hb3⟩, hKt (hKb _ _ _ hi) (hKt hp.2.1 (hKx _ _ _ _ _ hp.2.2))⟩⟩
    | panic ch => exact hp.elim
    | outgrown => exact hp.elim
  · -- behind the iterator
    rintro e A ⟨⟨v, rfl⟩, (⟨s, hS, hi, hb⟩ | ⟨s, hSp, c, hi, hb⟩)⟩
    · exact ⟨none, _, run_endLoop hb.1 (by simp), hdone _ s _ (Nat.le_refl _) hS (iP _ hb hi) ((World.putObj_heap_other (by omega)).trans hb.2)⟩
    · exact ⟨some c, _, run_endLoop hb.1 (by simp), hstop _ c s _ (Nat.le_refl _) hSp (ixP _ hb hi) ((World.putObj_heap_other (by omega)).trans hb.2)⟩
end Go.Hay
end

section
namespace Go.Proofs.YtohbdbecioanaaaGreatDoor
open Go.RowKit Go.Hay
set_option linter.unusedVariables false
set_option linter.unusedSimpArgs false

/-- The values of blocks that stand one behind the other. -/
def allF : Nat → List UInt8 → List Val
  | 0, _ => []
  | f + 1, bs => if bs = [] ∨ (rdR bs).2.2 ≠ 0 then [] else (rdR bs).1 ++ allF f (bs.drop (rdR bs).2.1)
def allV (bs : List UInt8) : List Val := allF bs.length bs
theorem allF_more : ∀ (f g : Nat) (bs : List UInt8), bs.length ≤ f → bs.length ≤ g → allF f bs = allF g bs
  | 0, 0, _, _, _ => rfl
  | 0, g + 1, bs, h, _ => by
    have e : bs = [] := List.eq_nil_of_length_eq_zero (by omega)
    rw [e]; simp [allF]
  | f + 1, 0, bs, _, h => by
    have e : bs = [] := List.eq_nil_of_length_eq_zero (by omega)
    rw [e]; simp [allF]
  | f + 1, g + 1, bs, h1, h2 => by
    unfold allF
    by_cases hc : bs = [] ∨ (rdR bs).2.2 ≠ 0
    · rw [if_pos hc, if_pos hc]
    · rw [if_neg hc, if_neg hc]
      have hz : (rdR bs).2.2 = 0 := Classical.byContradiction fun h => hc (.inr h)
      have hn := rdR_n (bs := bs) (l := (rdR bs).1) (n := (rdR bs).2.1) (by rw [← hz])
      rw [allF_more f g (bs.drop (rdR bs).2.1) (by rw [List.length_drop]; omega) (by rw [List.length_drop]; omega)]
theorem allV_end {bs : List UInt8} (h : bs = [] ∨ (rdR bs).2.2 ≠ 0) : allV bs = [] := by
  unfold allV
  cases e : bs.length with
  | zero => rfl
  | succ f => unfold allF; rw [if_pos h]
theorem allV_step {bs : List UInt8} {l : List Val} {n : Nat} (h : rdR bs = (l, n, 0)) : allV bs = l ++ allV (bs.drop n) := by
  have hn := rdR_n h
  have hne : ¬ (bs = [] ∨ (rdR bs).2.2 ≠ 0) := by
    rw [h]
    rintro (e | e)
    · rw [e] at hn; simp at hn; omega
    · exact e rfl
  unfold allV
  cases e : bs.length with
  | zero => omega
  | succ f =>
    conv => lhs; unfold allF
    rw [if_neg hne, h]
    dsimp only
    rw [allF_more f (bs.drop n).length (bs.drop n) (by rw [List.length_drop]; omega) (Nat.le_refl _)]
/-- What is given: a number, and a value. -/
structure Gv where
  i : Nat
  v : Val
abbrev encV (x : Gv) : Array Value := #[.int .i64 (x.i : Int), .agg #[.int .i64 x.v.k, .bool x.v.b, .int .i64 x.v.n, .string x.v.t]]
/-- How it stands: whether its memory is made, from which block on its records lie, its number's block, which blocks the rounds leave alone, how many values were given. -/
structure Sa where
  made : Bool
  B0 : Nat
  qn : Nat
  js : List Nat
  i : Nat
def Sa.nx (s : Sa) (x : Gv) : Sa := { s with i := s.i + 1 }
/-- What the iterator's own step may turn: new memory, records that hold no cells, from B0 on, and its number. -/
structure TurnA (B0 qn : Nat) (A B : World) : Prop where
  os : B.os = A.os
  tape : B.tape = A.tape
  output : B.output = A.output
  size : A.heap.size ≤ B.heap.size
  block : ∀ k, k < A.heap.size → B.heap[k]? = A.heap[k]? ∨ k = qn ∨ (B0 ≤ k ∧ ∃ o : Obj, A.heap[k]? = some o ∧ o.isCells = false)
theorem TurnA.ofKp {B0 qn : Nat} {A B : World} (h : Kp [] A B) : TurnA B0 qn A B := ⟨h.os, h.tape, h.output, h.size, fun k hk => .inl (h.block k hk (by simp))⟩
theorem TurnA.ofKpq {B0 qn : Nat} {A B : World} (h : Kp [qn] A B) : TurnA B0 qn A B := ⟨h.os, h.tape, h.output, h.size, fun k hk => by
  by_cases e : k = qn
  · exact .inr (.inl e)
  · exact .inl (h.block k hk (by simpa using e))⟩
theorem TurnA.ofGrown {B0 qn : Nat} {A B : World} {row : Option Nat} (h : A.grownBy B row) (hr : ∀ r, row = some r → B0 ≤ r ∧ ∃ o : Obj, A.heap[r]? = some o ∧ o.isCells = false) : TurnA B0 qn A B :=
  ⟨h.os, h.tape, h.output, h.size, fun k hk => by
    by_cases e : row = some k
    · exact .inr (.inr (hr k e))
    · exact .inl (h.block k hk (fun e' => e e'.symm))⟩
/-- The iterator's own step. -/
structure StepA (s s' : Sa) (A B : World) : Prop where
  turn : TurnA s'.B0 s'.qn A B
  stays : s.made = true → s'.made = true ∧ s'.B0 = s.B0 ∧ s'.qn = s.qn
  makes : s.made = false → s'.made = true ∧ A.heap.size ≤ s'.B0 ∧ A.heap.size ≤ s'.qn
  js : ∀ j ∈ s'.js, j ∈ s.js ∨ (A.heap.size ≤ j ∧ j < B.heap.size)
  on : s'.i = s.i
theorem StepA.same {s : Sa} {A B : World} (hm : s.made = true) (ht : TurnA s.B0 s.qn A B) : StepA s s A B :=
  ⟨ht, fun _ => ⟨hm, rfl, rfl⟩, fun h => (by rw [hm] at h; cases h), fun j hj => .inl hj, rfl⟩
/-- What the iterator may turn behind its end. -/
def StepAX (s : Sa) (A B : World) : Prop := s.made = true ∧ TurnA s.B0 s.qn A B
/-- What the rounds leave alone: the blocks js, and every record from B0 on. -/
structure KeepA (s : Sa) (A B : World) : Prop where
  js : KeepB s.js A B
  recs : s.made = true → ∀ (k : Nat) (o : Obj), s.B0 ≤ k → A.heap[k]? = some o → o.isCells = false → B.heap[k]? = some o
theorem KeepA.trans {s : Sa} {A B C : World} (h : KeepA s A B) (k : KeepA s B C) : KeepA s A C :=
  ⟨h.js.trans k.js, fun hm j o hj ho hc => k.recs hm j o hj (h.recs hm j o hj ho hc) hc⟩
theorem KeepA.refl (s : Sa) (A : World) : KeepA s A A := ⟨KeepB.refl _ _, fun _ _ _ _ h _ => h⟩
end Go.Proofs.YtohbdbecioanaaaGreatDoor
end

section
namespace Go.Proofs.YtohbdbecioanaaaGreatDoor
open Go.RowKit Go.Hay
attribute [local go_sem] Oper.semAt_some
set_option linter.unusedVariables false
set_option linter.unusedSimpArgs false

theorem roomB_of_none {F : Fence} (hd : F.depth = none) (k : Nat) : F.room k := fun d h => by rw [hd] at h; cases h
theorem RoundIn.anyDepthB {F : Fence} (hd : F.depth = none) {m m' : Nat} {P : Program} {l : Nat} {f : FuncId} {tmps : Array Value} {assign body : Code} {w : World} {R : Ending → World → Prop}
    (h : RoundIn F m P l f tmps assign body w R) : RoundIn F m' P l f tmps assign body w R := ⟨h.1, fun c cs _ => h.2 c cs (roomB_of_none hd _)⟩
theorem cLists (a : Option Addr) (n c : Nat) (w : World) : Calls Tryz.prog 12 #[.slice a n c] w fun e w' => e = .returned (.func (.func 29) #[] #[.pointer (some ⟨w.heap.size, 0, none⟩)]) ∧ w' = w.alloc (.cells #[.slice a n c] 22) := by
  go_enter Tryz.func12, Tryz.ntmps12
  go_wp2_with fail
  go_returns
  exact ⟨by simp, rfl⟩
theorem grownCell {X Y : World} {row : Option Nat} (hg : X.grownBy Y row) (hr : ∀ r, row = some r → ∃ o : Obj, X.heap[r]? = some o ∧ o.isCells = false) {p : Addr} {v : Value} (hc : X.cell? p = some v) : Y.cell? p = some v ∧ Y.frozen? p = X.frozen? p := by
  have hl := World.block_lt_of_cell? _ _ hc
  obtain ⟨o, ho⟩ : ∃ o, X.heap[p.block]? = some o := ⟨X.heap[p.block], by simp [hl]⟩
  have hoc : o.isCells = true := by
    unfold World.cell? at hc
    rw [ho] at hc
    cases o <;> simp_all [Obj.isCells]
  have e : Y.heap[p.block]? = X.heap[p.block]? := hg.block p.block hl (fun e => by
    obtain ⟨o', h1, h2⟩ := hr p.block e.symm
    rw [ho] at h1
    cases h1
    rw [hoc] at h2
    cases h2)
  exact ⟨(World.cell?_of_block e).trans hc, World.frozen?_of_block e⟩
theorem valsMap {X Y : World} {a : Option Addr} {l : List Val} (h : Vals X a l) (hc : ∀ p v, X.cell? p = some v → Y.cell? p = some v) : Vals Y a l := by
  rcases h with e | ⟨g, o, e, h⟩
  · exact .inl e
  · refine .inr ⟨g, o, e, fun j y hy => ?_⟩
    obtain ⟨h0, h1, h2, h3⟩ := h j y hy
    exact ⟨hc _ _ h0, hc _ _ h1, hc _ _ h2, hc _ _ h3⟩
theorem valsKeep {X Y : World} {a : Option Addr} {l : List Val} {js : List Nat} (h : Vals X a l) (hk : KeepB js X Y) (hj : ∀ k ∈ blk a, k ∈ js) : Vals Y a l := by
  rcases h with e | ⟨g, o, e, h⟩
  · exact .inl e
  · subst e
    have hg : g ∈ js := hj g (by simp [blk])
    refine .inr ⟨g, o, rfl, fun j y hy => ?_⟩
    obtain ⟨h0, h1, h2, h3⟩ := h j y hy
    exact ⟨hk.cell hg h0, hk.cell hg h1, hk.cell hg h2, hk.cell hg h3⟩
theorem KeepB.alloc (Js : List Nat) (W : World) (o : Obj) : KeepB Js W (W.alloc o) := ⟨by simp, fun k _ o' ho => (Below.heap_alloc W o k (Array.getElem?_eq_some_iff.1 ho).1).trans ho⟩
theorem KeepB.putObj {Js : List Nat} {B : Nat} (hB : ∀ j ∈ Js, j < B) (W : World) (l : Nat) (o' : Obj) (hl : B ≤ l) : KeepB Js W (W.putObj l o') :=
  ⟨by simp, fun k hk o'' h'' => (World.putObj_heap_other (by have := hB k hk; omega)).trans h''⟩
theorem allF_len : ∀ (f : Nat) (bs : List UInt8), (allF f bs).length ≤ 64 * bs.length
  | 0, bs => by simp [allF]
  | f + 1, bs => by
    unfold allF
    by_cases hc : bs = [] ∨ (rdR bs).2.2 ≠ 0
    · rw [if_pos hc]; simp
    · rw [if_neg hc]
      have hz : (rdR bs).2.2 = 0 := Classical.byContradiction fun h => hc (.inr h)
      obtain ⟨i, s, _, h2, _, _, h5, _, h7⟩ := rdR_put (bs := bs) (l := (rdR bs).1) (n := (rdR bs).2.1) (by rw [← hz])
      have h64 := (refE_ok h2).2.1
      have := allF_len f (bs.drop (rdR bs).2.1)
      rw [List.length_drop] at this
      rw [List.length_append]
      omega
theorem allV_len (bs : List UInt8) : (allV bs).length ≤ 64 * bs.length := allF_len _ _
/-- What the inner range keeps. -/
structure InA (bs : List UInt8) (J : Sa → World → Prop) (B0 qy qn : Nat) (js0 : List Nat) (ly : Nat) (Z : Nat) (s : Ls) (W : World) : Prop where
  all : ∃ js i, J ⟨true, B0, qn, js, i⟩ W ∧ (∀ j ∈ js0, j ∈ js) ∧ W.cell? ⟨qy, 0, none⟩ = some (.func (.yield ly) #[] #[]) ∧ W.cell? ⟨qn, 0, none⟩ = some (.int .i64 (i : Int)) ∧ W.frozen? ⟨qn, 0, none⟩ = false ∧ (allV bs).drop i = allV (bs.drop s.d) ∧ i ≤ (allV bs).length ∧ Z ≤ W.heap.size ∧
    ∀ x, s.v = some x → Vals W x.a x.l ∧ x.l.length ≤ x.c ∧ x.c ≤ maxLen ∧ ∀ k ∈ blk x.a, k ∈ js ∧ Z ≤ k
set_option maxHeartbeats 32000000 in
set_option maxRecDepth 100000 in
theorem allSeq (d : Nat) (hd : 4 ≤ d) (qb : Nat) (a : Option Addr) (c : Nat) (bs : List UInt8) (hl : bs.length ≤ c) (hm : c ≤ maxLen) (hb : bs.length ≤ 200000000000000) (w : World) (hA : AtL qb a c bs w) :
    SeqX Fence.wide d Tryz.prog 11 #[.pointer (some ⟨qb, 0, none⟩)] encV StepA StepAX KeepA (fun s x => x.i = s.i ∧ (allV bs)[s.i]? = some x.v) Sa.nx (fun s => s.made = true ∧ s.i = (allV bs).length) (fun _ => True) ⟨false, 0, 0, 0 :: qb :: bk a bs, 0⟩ w := by
  intro ly J Jx W hW hT hX hY h0
  have hAW := hA.kept hW.js
  obtain ⟨W1, hW1⟩ : ∃ W1, W.alloc (.cells #[.func (.yield ly) #[] #[]] 41) = W1 := ⟨_, rfl⟩
  obtain ⟨W2z, hW2z⟩ : ∃ W2, W1.alloc (.cells #[.int .i64 0] 3) = W2 := ⟨_, rfl⟩
  have hz1 : W1.heap.size = W.heap.size + 1 := by rw [← hW1]; simp
  obtain ⟨W2, hW2⟩ : ∃ W2, W2z.setCell ⟨W.heap.size + 1, 0, none⟩ (.int .i64 0) = W2 := ⟨_, rfl⟩
  have k1 : Kp [] W W1 := by rw [← hW1]; exact (Kp.refl _ _).alloc _
  have n2z : W2z.cell? ⟨W.heap.size + 1, 0, none⟩ = some (.int .i64 0) := by rw [← hW2z, ← hz1]; exact World.cell?_alloc_new W1 _ _ 0
  have f2z : W2z.frozen? ⟨W.heap.size + 1, 0, none⟩ = false := by rw [← hW2z, ← hz1]; exact World.frozen?_alloc_new W1 _ _ 0
  have k2 : Kp [] W1 W2 := by
    have kz : Kp [] W1 W2z := by rw [← hW2z]; exact (Kp.refl _ _).alloc _
    rw [← hW2]
    exact kz.setCell (.inr (by show W1.heap.size ≤ W.heap.size + 1; omega)) _
  have k02 := k1.trans k2 (by simp)
  have hz2 : W2.heap.size = W.heap.size + 2 := by rw [← hW2, ← hW2z]; simp [World.setCell, hz1]
  have y1 : W1.cell? ⟨W.heap.size, 0, none⟩ = some (.func (.yield ly) #[] #[]) := by rw [← hW1]; exact World.cell?_alloc_new W _ _ 0
  have y2 := kpAt k2 y1
  have n2 : W2.cell? ⟨W.heap.size + 1, 0, none⟩ = some (.int .i64 0) := by rw [← hW2]; exact World.cell?_setCell_same _ _ _ n2z
  have f2 : W2.frozen? ⟨W.heap.size + 1, 0, none⟩ = false := by rw [← hW2, World.frozen?_setCell]; exact f2z
  have hbx : W2.cell? ⟨qb, 0, none⟩ = some (.slice a bs.length c) := kpAt k02 hAW.box
  have cL := cLists a bs.length c W2
  refine callsIn_of_wp_marks Tryz.func11 rfl trivial ?_ rfl
  simp only [Tryz.ntmps11, List.size_toArray, List.length_cons, List.length_nil, Nat.reduceAdd, Nat.reduceSub, Array.replicate_succ, Array.replicate_zero, List.push_toArray, List.append_toArray, List.nil_append, List.cons_append]
  refine wpIn_wide.2 ?_
  have hz1' := hid hz1
  have hz2' := hid hz2
  have HK := hid (And.intro k02 (And.intro y2 (And.intro n2 f2)))
  have hAW' := hid hAW
  clear hz2 k1 k2 k02 y1 y2 n2 f2 hAW hA hW
  go_wp2_with fail
  refine cL.mono ?_
  rintro e W3 ⟨rfl, hW3⟩
  have kk := HK.out.1
  have k3 : Kp [] W2 W3 := by rw [hW3]; exact (Kp.refl _ _).alloc _
  have kW3 := kk.trans k3 (by simp)
  have hz3 : W3.heap.size = W.heap.size + 3 := by rw [hW3]; simp [hz2'.out]
  obtain ⟨q, hq⟩ : ∃ q, Hid (W2.heap.size = q) := ⟨_, rfl⟩
  have hqz : q = W.heap.size + 2 := by rw [← hq.out]; exact hz2'.out
  have bx3 : W3.cell? ⟨q, 0, none⟩ = some (.slice a bs.length c) := by rw [hW3, ← hq.out]; exact World.cell?_alloc_new W2 _ _ 0
  have hAt : AtL q a c bs W3 := ⟨bx3, hAW'.out.sees.kept kW3 (by simp), hAW'.out.tab.kept kW3 (by simp)⟩
  have y3 := kpAt k3 HK.out.2.1
  have n3 := kpAt k3 HK.out.2.2.1
  have f3 : W3.frozen? ⟨W.heap.size + 1, 0, none⟩ = false := (k3.frozen (p := ⟨W.heap.size + 1, 0, none⟩) (by show W.heap.size + 1 < W2.heap.size; have := hz2'.out; omega) (by simp)).trans HK.out.2.2.2
  obtain ⟨B0, hB0⟩ : ∃ B0, Hid (B0 = W3.heap.size) := ⟨_, rfl⟩
  obtain ⟨js0, hjs⟩ : ∃ js, Hid (js = W.heap.size :: (W.heap.size + 1) :: 0 :: q :: bk a bs) := ⟨_, rfl⟩
  have hblk : ∀ k ∈ bk a bs, k < W.heap.size := fun k hk => by
    unfold bk at hk
    by_cases hbs : bs = []
    · rw [if_pos hbs] at hk; simp at hk
    · rw [if_neg hbs] at hk
      exact hAW'.out.sees.lt hbs k hk
  have hJ3 : J ⟨true, B0, W.heap.size + 1, js0, 0⟩ W3 := hT _ _ _ _ h0 ⟨TurnA.ofKp kW3, fun h => (by cases h), fun _ => ⟨rfl, by rw [hB0.out]; exact kW3.size, Nat.le_succ _⟩, fun j hj => by
    rw [hjs.out] at hj
    simp only [List.mem_cons] at hj ⊢
    rcases hj with rfl | rfl | rfl | rfl | hj
    · right; omega
    · right; omega
    · left; left; rfl
    · right; omega
    · left; right; right; exact hj, rfl⟩
  have hlo : ∀ j ∈ 0 :: q :: bk a bs, j < W3.heap.size := fun j hj => by
    simp only [List.mem_cons] at hj
    rcases hj with rfl | rfl | hj
    · omega
    · omega
    · have := hblk j hj; omega
  clear cL hW3
  go_wp2_with fail
  refine (wpIn_wide (n := d)).1 ?_
  have hseq := listsSeq (d - 1) (by omega) q a c bs hl hm hb W3 hAt
  refine wpRangeS rfl (by omega) (gf := 29) (lb := #[.pointer (some ⟨q, 0, none⟩)]) (by rw [← hq.out]; rfl) trivial (enters_of Tryz.func29 (by kernel_rfl) rfl)
    hseq (fun _ => rfl) KeepB.trans (fun s => KeepB.alloc _) (fun s W l o o' hl ho hc _ => KeepB.putObj (B := W3.heap.size) hlo W l o' hl) (KeepB.refl _ _) (fun s s' A B ht k o _ ho _ _ => (ht.kp.block k (Array.getElem?_eq_some_iff.1 ho).1 (by simp)).trans ho)
    (InA bs J B0 W.heap.size (W.heap.size + 1) js0 ly W3.heap.size)
    (fun c s W' => c = .ret ∧ ∃ s : Sa, s.made = true ∧ s.B0 = B0 ∧ s.qn = W.heap.size + 1 ∧ Jx s W')
    ?hI ?hIx ?hIT ⟨js0, 0, hJ3, fun j h => h, y3, n3, f3, rfl, Nat.zero_le _, Nat.le_refl _, fun x hx => (by cases hx)⟩
    (fun x => { tmps := #[.func (.yield ly) #[] #[], .pointer (some ⟨qb, 0, none⟩), .pointer (some ⟨W.heap.size, 0, none⟩), .pointer (some ⟨W.heap.size + 1, 0, none⟩), .slice x.a x.l.length x.c, undef, undef, .slice a bs.length c, .func (.func 29) #[] #[.pointer (some ⟨W2.heap.size, 0, none⟩)], .slice x.a x.l.length x.c, undef, undef, undef, undef, undef, undef, undef, undef, undef, undef, undef, undef, undef, undef], defers := [] })
    ?assign ?body ?done ?stop
  case hI =>
    rintro s X Y row ⟨js, i, hJ, hjj, hy, hn, hf, hdr, hi, hz, hv⟩ hg hr
    have hrc : ∀ r, row = some r → ∃ o : Obj, X.heap[r]? = some o ∧ o.isCells = false := fun r e => (hr r e).2
    refine ⟨js, i, hT _ _ _ _ hJ (StepA.same rfl (TurnA.ofGrown hg (fun r e => by have := hr r e; simp only; rw [hB0.out]; exact this))), hjj, (grownCell hg hrc hy).1, (grownCell hg hrc hn).1, (grownCell hg hrc hn).2.trans hf, hdr, hi, Nat.le_trans hz hg.size, fun x hx => ?_⟩
    obtain ⟨h1, h2⟩ := hv x hx
    exact ⟨valsMap h1 (fun p v hc => (grownCell hg hrc hc).1), h2⟩
  case hIx =>
    rintro c s X Y row ⟨hc, s', hm', hs0, hsn, hJ⟩ hg hr
    exact ⟨hc, s', hm', hs0, hsn, hX _ _ _ hJ ⟨hm', TurnA.ofGrown hg (fun r e => by have := hr r e; rw [hs0, hB0.out]; exact this)⟩⟩
  case hIT =>
    rintro s s' A B ⟨js, i, hJ, hjj, hy, hn, hf, hdr, hi, hz, hv⟩ ht
    have hk := ht.kp
    have hfr : B.frozen? ⟨W.heap.size + 1, 0, none⟩ = false := (hk.frozen (World.block_lt_of_cell? _ _ hn) (by simp)).trans hf
    rcases ht.given with e | ⟨x, e, hrd, hrow, hnew⟩
    · exact ⟨js, i, hT _ _ _ _ hJ (StepA.same rfl (TurnA.ofKp hk)), hjj, kpAt hk hy, kpAt hk hn, hfr, by rw [ht.same]; exact hdr, hi, Nat.le_trans hz hk.size, fun x hx => (by rw [e] at hx; cases hx)⟩
    · obtain ⟨hv1, hl1, hm1⟩ := rowVals hrow
      refine ⟨blk x.a ++ js, i, hT _ _ _ _ hJ ⟨TurnA.ofKp hk, fun _ => ⟨rfl, rfl, rfl⟩, fun h => (by cases h), fun j hj => ?_, rfl⟩, fun j hj => by simp [hjj j hj], kpAt hk hy, kpAt hk hn, hfr, by rw [ht.same]; exact hdr, hi, Nat.le_trans hz hk.size, fun x' hx' => ?_⟩
      · simp only [List.mem_append] at hj
        rcases hj with hj | hj
        · right
          exact ⟨hnew j hj, hrow.lt j (by rw [ownS]; exact hj)⟩
        · left; exact hj
      · rw [e] at hx'
        injection hx' with hx'
        subst hx'
        exact ⟨hv1, hl1, hm1, fun k hk' => ⟨by simp [hk'], Nat.le_trans hz (hnew k hk')⟩⟩
  case assign =>
    intro l x W C hC
    gi_wp2_with fail
    exact hC
  case body =>
    rintro l s ⟨xa, xc, xl, xn⟩ A ⟨js, i, hJ, hjj, hy, hn, hf, hdr, hi, hz, hv⟩ ⟨hsv, hrd⟩
    obtain ⟨hvl, hlc, hmc, hbl⟩ := hv _ hsv
    simp only at *
    have hall := allV_step hrd
    have hlen : i + xl.length ≤ (allV bs).length := by
      have := congrArg List.length hdr
      rw [hall, List.length_drop, List.length_append] at this
      omega
    have hget : Hid (∀ j (h : j < xl.length), (allV bs)[i + j]? = some xl[j]) := fun j h => by
      have e : ((allV bs).drop i)[j]? = some xl[j] := by
        rw [hdr, hall, List.getElem?_append_left h]
        simp [h]
      rwa [List.getElem?_drop] at e
    have hnext : Hid ((allV bs).drop (i + xl.length) = allV (bs.drop (s.d + xn))) := by
      show _ = _
      rw [← List.drop_drop, hdr, hall, List.drop_left, List.drop_drop]
    have hJ' := hid hJ
    have hvl' := hid hvl
    have hA0 := hid (And.intro hy (And.intro hn hf))
    have hlen' := hid hlen
    have hmx : xl.length ≤ 9223372036854775807 := by unfold maxLen at hmc; omega
    have hall2 : (allV bs).length ≤ 9000000000000000000 := by have := allV_len bs; omega
    have hi2 : i + xl.length ≤ 9000000000000000000 := by omega
    clear hJ hvl hy hn hf hv hdr hall hlen hrd hsv
    gi_wp2_with fail
    gi_loopw [12] (fun v wr => ∃ (j : Nat), j ≤ xl.length ∧ v = .int .i64 (j : Int) ∧ J ⟨true, B0, W.heap.size + 1, js, i + j⟩ wr ∧ wr.cell? ⟨W.heap.size, 0, none⟩ = some (.func (.yield ly) #[] #[]) ∧ wr.cell? ⟨W.heap.size + 1, 0, none⟩ = some (.int .i64 ((i + j : Nat) : Int)) ∧ wr.frozen? ⟨W.heap.size + 1, 0, none⟩ = false ∧ Vals wr xa xl ∧ KeepsFrom W3.heap.size A wr ∧ KeepB (0 :: q :: bk a bs) A wr) (fun v _ => xl.length - (intOf v).toNat)
    case atStart => exact ⟨0, Nat.zero_le _, rfl, hJ'.out, hA0.out.1, hA0.out.2.1, hA0.out.2.2, hvl'.out, KeepsFrom.refl _ _, KeepB.refl _ _⟩
    case round =>
      obtain ⟨j, hj, rfl, hJj, hyj, hnj, hfj, hvj, hkf, hkb⟩ := hrel
      by_cases hlt : j < xl.length
      · obtain ⟨g, o, ea, c0, c1, c2, c3⟩ := hvj.at j hlt
        have hgj := hget.out j hlt
        obtain ⟨M, hM⟩ : ∃ x : Nat, Hid (i + j = x) := ⟨_, rfl⟩
        rw [hM.out] at hgj hJj hnj
        have hMb : M < 9000000000000000000 := by rw [← hM.out]; omega
        obtain ⟨⟨vk, vb, vn, vt⟩, hv⟩ : ∃ v, Hid (xl[j]'hlt = v) := ⟨_, rfl⟩
        rw [hv.out] at c0 c1 c2 c3 hgj
        dsimp only at c0 c1 c2 c3
        obtain ⟨wb, hwb⟩ : ∃ wb, wr.alloc (.cells #[.int .i64 vk, .bool vb, .int .i64 vn, .string vt] 30) = wb := ⟨_, rfl⟩
        have kb : Kp [] wr wb := by rw [← hwb]; exact (Kp.refl _ _).alloc _
        have bx := Box4.new wr (.int .i64 vk) (.bool vb) (.int .i64 vn) (.string vt) 30
        rw [hwb] at bx
        have p0 := bx.c0; have p1 := bx.c1; have p2 := bx.c2; have p3 := bx.c3
        have yb := kpAt kb hyj
        have nb := kpAt kb hnj
        have fb : wb.frozen? ⟨W.heap.size + 1, 0, none⟩ = false := (kb.frozen (World.block_lt_of_cell? _ _ hnj) (by simp)).trans hfj
        have hvb := hvj.kept kb
        have hJb : J ⟨true, B0, W.heap.size + 1, js, M⟩ wb := hT _ _ _ _ hJj (StepA.same rfl (TurnA.ofKp kb))
        obtain ⟨fn, tmps, assign, body, hyl, hR⟩ := hY _ ⟨M, ⟨vk, vb, vn, vt⟩⟩ wb hJb ⟨rfl, hgj⟩
        have hR' : RoundIn (Fence.wide.inRound l) (d - 1 - 1 - 1) Tryz.prog ly fn tmps assign body wb _ := RoundIn.anyDepthB (F := Fence.wide.inRound l) rfl hR
        have hin : ∀ k ∈ 0 :: q :: bk a bs, k ∈ js := fun k hk => hjj k (by rw [hjs.out]; simp only [List.mem_cons] at hk ⊢; rcases hk with h | h | h; exact .inr (.inr (.inl h)); exact .inr (.inr (.inr (.inl h))); exact .inr (.inr (.inr (.inr h))))
        have kf : Hid (∀ A2, KeepA ⟨true, B0, W.heap.size + 1, js, M⟩ wb A2 → KeepsFrom W3.heap.size A A2 ∧ KeepB (0 :: q :: bk a bs) A A2 ∧ A2.cell? ⟨W.heap.size, 0, none⟩ = some (.func (.yield ly) #[] #[]) ∧ A2.cell? ⟨W.heap.size + 1, 0, none⟩ = some (.int .i64 (M : Int)) ∧ A2.frozen? ⟨W.heap.size + 1, 0, none⟩ = false ∧ Vals A2 xa xl) := fun A2 hk => by
          have h1 : KeepB js wr A2 := (KeepB.ofKp kb (by simp)).trans hk.js
          have hqy : W.heap.size ∈ js := hjj _ (by rw [hjs.out]; simp)
          have hqn : W.heap.size + 1 ∈ js := hjj _ (by rw [hjs.out]; simp)
          have hll := World.block_lt_of_cell? _ _ nb
          have eb : wb.heap[W.heap.size + 1]? = some wb.heap[W.heap.size + 1] := by simp at hll; simp [hll]
          have efr : A2.frozen? ⟨W.heap.size + 1, 0, none⟩ = wb.frozen? ⟨W.heap.size + 1, 0, none⟩ := World.frozen?_of_block (a := ⟨W.heap.size + 1, 0, none⟩) ((hk.js.2 _ hqn _ eb).trans eb.symm)
          refine ⟨⟨Nat.le_trans hkf.size h1.1, fun k o hk' ho hc => ?_⟩, hkb.trans ⟨h1.1, fun k hk' => h1.2 k (hin k hk')⟩, hk.js.cell hqy yb, hk.js.cell hqn nb, efr.trans fb, valsKeep hvb hk.js (fun k hk' => (hbl k hk').1)⟩
          have e1 := hkf.same k o hk' ho hc
          have e2 : wb.heap[k]? = some o := (kb.block k (Array.getElem?_eq_some_iff.1 e1).1 (by simp)).trans e1
          exact hk.recs rfl k o (by simp only; rw [hB0.out]; exact hk') e2 hc
        have djl : (j : Int) < (xl.length : Int) := by omega
        subst ea
        clear hget hgj hv hR hJb hJj hyj hnj hfj hvj hkf hkb hin bx kb fb hvb hJ' hvl' hA0 hnext
        gi_wp2_with fail
        refine ⟨fun _ => by omega, ?_⟩
        refine hR'.mono ?_
        rintro e A2 (⟨rfl, hJ3, hk3⟩ | ⟨rfl, hJ3, hk3⟩)
        · obtain ⟨f1, f2, f3, f4, f5, f6⟩ := kf.out A2 hk3
          have hlq := World.block_lt_of_cell? _ _ f4
          obtain ⟨A3, hA3⟩ : ∃ A3, A2.setCell ⟨W.heap.size + 1, 0, none⟩ (.int .i64 ((M : Int) + 1)) = A3 := ⟨_, rfl⟩
          have kS : Kp [W.heap.size + 1] A2 A3 := by rw [← hA3]; exact (Kp.refl [W.heap.size + 1] A2).setCell (p := ⟨W.heap.size + 1, 0, none⟩) (.inl (by simp)) _
          have hJ4 : J ⟨true, B0, W.heap.size + 1, js, M + 1⟩ A3 := hT _ _ _ _ hJ3 (StepA.same rfl (TurnA.ofKpq kS))
          have n4 : A3.cell? ⟨W.heap.size + 1, 0, none⟩ = some (.int .i64 ((M : Int) + 1)) := by rw [← hA3]; exact World.cell?_setCell_same _ _ _ f4
          have fr4 : A3.frozen? ⟨W.heap.size + 1, 0, none⟩ = false := by rw [← hA3, World.frozen?_setCell]; exact f5
          have y4 : A3.cell? ⟨W.heap.size, 0, none⟩ = some (.func (.yield ly) #[] #[]) := (kS.cell (p := ⟨W.heap.size, 0, none⟩) (World.block_lt_of_cell? _ _ f3) (by simp)).trans f3
          have hq3 : ∀ k ∈ 0 :: q :: bk a bs, k ≠ W.heap.size + 1 := fun k hk => by
            simp only [List.mem_cons] at hk
            rcases hk with rfl | rfl | hk
            · omega
            · omega
            · have := hblk k hk; omega
          have kf4 : KeepsFrom W3.heap.size A A3 := ⟨Nat.le_trans f1.size kS.size, fun k o hk ho hc => by
            have e1 := f1.same k o hk ho hc
            exact (kS.block k (Array.getElem?_eq_some_iff.1 e1).1 (by simp only [List.mem_singleton]; omega)).trans e1⟩
          have kb4 : KeepB (0 :: q :: bk a bs) A A3 := f2.trans (KeepB.ofKp kS (fun j hj => by simpa using hq3 j hj))
          have hg4 : W3.heap.size ≤ g := (hbl g (by simp [blk])).2
          have v4 : Vals A3 (some ⟨g, o, none⟩) xl := by
            rcases f6 with e | ⟨g', o', e, h⟩
            · exact .inl e
            · cases e
              refine .inr ⟨g, o, rfl, fun jj y hy => ?_⟩
              obtain ⟨h0, h1, h2, h3⟩ := h jj y hy
              have hc : ∀ z v, A2.cell? ⟨g, z, none⟩ = some v → A3.cell? ⟨g, z, none⟩ = some v := fun z v hv => (kS.cell (p := ⟨g, z, none⟩) (World.block_lt_of_cell? _ _ hv) (by simp; omega)).trans hv
              exact ⟨hc _ _ h0, hc _ _ h1, hc _ _ h2, hc _ _ h3⟩
          have H4 := hid (And.intro hJ4 (And.intro y4 (And.intro n4 (And.intro fr4 (And.intro v4 (And.intro kf4 kb4))))))
          clear kf hR' f1 f2 f3 f6 hJ3 hk3 hJ4 n4 fr4 y4 v4 kf4 kb4 kS
          gi_wp2_with fail
          have hM' := hM.out
          refine ⟨⟨j + 1, by omega, by go_num, ?_, H4.out.2.1, ?_, H4.out.2.2.2.1, H4.out.2.2.2.2.1, H4.out.2.2.2.2.2.1, H4.out.2.2.2.2.2.2⟩, by simp [intOf]; omega⟩
          · rw [show i + (j + 1) = M + 1 by omega]; exact H4.out.1
          · rw [show ((i + (j + 1) : Nat) : Int) = (M : Int) + 1 by omega]; exact H4.out.2.2.1
        · obtain ⟨f1, f2, f3, f4, f5, f6⟩ := kf.out A2 hk3
          clear kf hR'
          gi_wp2_with fail
          exact ⟨f1, rfl, _, rfl, rfl, rfl, hJ3⟩
      · have e : j = xl.length := by omega
        subst e
        have hnx := hnext.out
        clear hnext hget
        gi_wp2_with fail
        refine ⟨hkf, hkb, js, i + xl.length, hJj, hjj, hyj, hnj, hfj, hnx, hlen'.out, Nat.le_trans hz hkf.size, fun x hx => (by cases hx)⟩
  case done =>
    rintro D s X hD hS ⟨js, i, hJ, hjj, hy, hn, hf, hdr, hi, hz, hv⟩ hK
    have hie : i = (allV bs).length := by
      have e1 : allV (bs.drop s.d) = [] := allV_end hS.2
      rw [e1] at hdr
      have := congrArg List.length hdr
      rw [List.length_drop, List.length_nil] at this
      omega
    have hJD := hT _ _ _ _ hJ (StepA.same rfl (TurnA.ofGrown (B0 := B0) (grownBy_putObj' X D (.deferred none)) (fun r e => by cases e; exact ⟨by rw [hB0.out]; exact hD, _, hK, rfl⟩)))
    gi_wp2_with fail
    refine ⟨by simp, .inl ⟨_, _, rfl, run_takeDeferred hK, ?_⟩⟩
    exact ⟨_, results_none rfl _ _ _, ⟨_, rfl⟩, .inl ⟨_, ⟨rfl, hie⟩, hJD⟩⟩
  case stop =>
    rintro D c s X hD _ ⟨rfl, s', hm', hs0, hsn, hJ⟩ hK
    have hJD := hX _ _ _ hJ ⟨hm', TurnA.ofGrown (grownBy_putObj' X D (.deferred none)) (fun r e => by cases e; exact ⟨by rw [hs0, hB0.out]; exact hD, _, hK, rfl⟩)⟩
    gi_wp2_with fail
    refine ⟨by simp, .inl ⟨_, _, rfl, run_takeDeferred hK, ?_⟩⟩
    exact ⟨_, results_none rfl _ _ _, ⟨_, rfl⟩, .inr ⟨s', trivial, hJD⟩⟩
end Go.Proofs.YtohbdbecioanaaaGreatDoor
end

section
namespace Go.Proofs.YtohbdbecioanaaaGreatDoor
open Go.RowKit Go.Hay
set_option linter.unusedVariables false
set_option linter.unusedSimpArgs false

theorem hdR_short (bs : List UInt8) (h : bs.length < 3) : hdR bs = none := by unfold hdR; rw [if_pos (.inl h)]
theorem hdR_first (bs : List UInt8) (h : 4 < (bs.getD 0 0).toNat ∨ (bs.getD 1 0).toNat = 0 ∨ 64 < (bs.getD 1 0).toNat ∨ (bs.getD 1 0).toNat < (bs.getD 2 0).toNat) : hdR bs = none := by unfold hdR; rw [if_pos (.inr h)]
set_option maxHeartbeats 64000000 in
set_option maxRecDepth 100000 in
theorem rHeadS (a : Option Addr) (c : Nat) (bs : List UInt8) (w : World) (hs : Sees w a bs) (hl : bs.length ≤ c) (hm : c ≤ maxLen) (h3 : bs.length < 3) :
    Calls Tryz.prog 24 #[.slice a bs.length c] w (HdP (hdP bs) w) := by
  obtain ⟨w0, hw0, kw0, bR⟩ : ∃ w0, w.alloc (.cells #[.int .i64 0, .int .i64 0, .int .i64 0, .bool false, .int .i64 0, .string ⟨#[]⟩, .int .i64 0, .bool false, .int .i64 0, .string ⟨#[]⟩, .int .i64 0, .int .i64 0] 59) = w0 ∧ Kp [] w w0 ∧ Bx w0 w.heap.size [.int .i64 0, .int .i64 0, .int .i64 0, .bool false, .int .i64 0, .string ⟨#[]⟩, .int .i64 0, .bool false, .int .i64 0, .string ⟨#[]⟩, .int .i64 0, .int .i64 0] := ⟨_, rfl, (Kp.refl _ _).alloc _, Bx.new w _ _⟩
  obtain ⟨q, hq⟩ : ∃ q, Hid (w.heap.size = q) := ⟨_, rfl⟩
  have hqw : w.heap.size ≤ q := by rw [hq.out]; omega
  rw [hq.out] at bR
  have d1 : (bs.length : Int) < 3 := by omega
  have d1' : decide ((bs.length : Int) < 3) = true := by simpa using d1
  have hbR := hid bR
  have hkw := hid kw0
  have hq' := hq.out
  clear bR kw0 hs
  go_enter Tryz.func24, Tryz.ntmps24
  go_wp2_with fail
  go_quiet (fail)
  have bRq := hid (hbR.out.kept ((Kp.refl [] w0).drewN nq) (by simp) (hbR.out.lt (by simp)))
  have kq := hid (hkw.out.drewN nq)
  generalize w0.drewN nq = wq at *
  have hnone : Hid (hdR bs = none) := hdR_short bs h3
  have p0 := bRq.out.get 0 _ rfl; have f0 := bRq.out.free 0
  have p1 := bRq.out.get 1 _ rfl; have f1 := bRq.out.free 1
  have p2 := bRq.out.get 2 _ rfl; have f2 := bRq.out.free 2
  have p3 := bRq.out.get 3 _ rfl; have f3 := bRq.out.free 3
  have p4 := bRq.out.get 4 _ rfl; have f4 := bRq.out.free 4
  have p5 := bRq.out.get 5 _ rfl; have f5 := bRq.out.free 5
  have p6 := bRq.out.get 6 _ rfl; have f6 := bRq.out.free 6
  have p7 := bRq.out.get 7 _ rfl; have f7 := bRq.out.free 7
  have p8 := bRq.out.get 8 _ rfl; have f8 := bRq.out.free 8
  have p9 := bRq.out.get 9 _ rfl; have f9 := bRq.out.free 9
  have p10 := bRq.out.get 10 _ rfl; have f10 := bRq.out.free 10
  have p11 := bRq.out.get 11 _ rfl; have f11 := bRq.out.free 11
  obtain ⟨W, hW, bW, kW⟩ : ∃ Y9, ((((((((((((wq.setCell ⟨q, 0, none⟩ (.int .i64 0)).setCell ⟨q, 1, none⟩ (.int .i64 0)).setCell ⟨q, 2, none⟩ (.int .i64 0)).setCell ⟨q, 3, none⟩ (.bool false)).setCell ⟨q, 4, none⟩ (.int .i64 0)).setCell ⟨q, 5, none⟩ (.string ⟨#[]⟩)).setCell ⟨q, 6, none⟩ (.int .i64 0)).setCell ⟨q, 7, none⟩ (.bool false)).setCell ⟨q, 8, none⟩ (.int .i64 0)).setCell ⟨q, 9, none⟩ (.string ⟨#[]⟩)).setCell ⟨q, 10, none⟩ (.int .i64 0)).setCell ⟨q, 11, none⟩ (.int .i64 0)) = Y9 ∧ Bx Y9 q [.int .i64 0, .int .i64 0, .int .i64 0, .bool false, .int .i64 0, .string ⟨#[]⟩, .int .i64 0, .bool false, .int .i64 0, .string ⟨#[]⟩, .int .i64 0, .int .i64 0] ∧ Kp [q] wq Y9 := ⟨_, rfl, gen12q (R := fun Y9 => Bx Y9 q [.int .i64 0, .int .i64 0, .int .i64 0, .bool false, .int .i64 0, .string ⟨#[]⟩, .int .i64 0, .bool false, .int .i64 0, .string ⟨#[]⟩, .int .i64 0, .int .i64 0]) bRq.out rfl (.int .i64 0) (.int .i64 0) (.int .i64 0) (.bool false) (.int .i64 0) (.string ⟨#[]⟩) (.int .i64 0) (.bool false) (.int .i64 0) (.string ⟨#[]⟩) (.int .i64 0) (.int .i64 0) (fun Y9 b _ => b), gen12q (R := fun Y9 => Kp [q] wq Y9) bRq.out rfl (.int .i64 0) (.int .i64 0) (.int .i64 0) (.bool false) (.int .i64 0) (.string ⟨#[]⟩) (.int .i64 0) (.bool false) (.int .i64 0) (.string ⟨#[]⟩) (.int .i64 0) (.int .i64 0) (fun Y9 _ k => k)⟩
  have r0 := bW.get 0 _ rfl
  have r1 := bW.get 1 _ rfl
  have r2 := bW.get 2 _ rfl
  have r3 := bW.get 3 _ rfl
  have r4 := bW.get 4 _ rfl
  have r5 := bW.get 5 _ rfl
  have r6 := bW.get 6 _ rfl
  have r7 := bW.get 7 _ rfl
  have r8 := bW.get 8 _ rfl
  have r9 := bW.get 9 _ rfl
  have r10 := bW.get 10 _ rfl
  have r11 := bW.get 11 _ rfl
  have kkW := hid (kq.out.trans kW (fun x hx => .inr (by simp at hx; omega)))
  clear kW bW
  go_wp2_with fail
  refine bodyPost_ret (v := .tuple #[zeroI.v, .int .i64 0, .int .i64 70]) (by rw [zeroI_v]; simp [results, Tryz.results24, go_sem, r0, r1, r2, r3, r4, r5, r6, r7, r8, r9, r10, r11]) rfl ?_
  unfold HdP
  have e70 : hdP bs = (zeroI, 0, 70) := by unfold hdP; rw [hnone.out]
  rw [e70]
  exact ⟨rfl, kkW.out⟩
set_option maxHeartbeats 64000000 in
set_option maxRecDepth 100000 in
theorem rHeadL (a : Option Addr) (c : Nat) (k m n : UInt8) (r bs : List UInt8) (hbs : bs = k :: m :: n :: r) (w : World) (hs : Sees w a bs) (hl : bs.length ≤ c) (hm : c ≤ maxLen) (hb2 : bs.length ≤ 200000000000000) :
    Calls Tryz.prog 24 #[.slice a bs.length c] w (HdP (hdP bs) w) := by
  obtain ⟨w0, hw0, kw0, bR⟩ : ∃ w0, w.alloc (.cells #[.int .i64 0, .int .i64 0, .int .i64 0, .bool false, .int .i64 0, .string ⟨#[]⟩, .int .i64 0, .bool false, .int .i64 0, .string ⟨#[]⟩, .int .i64 0, .int .i64 0] 59) = w0 ∧ Kp [] w w0 ∧ Bx w0 w.heap.size [.int .i64 0, .int .i64 0, .int .i64 0, .bool false, .int .i64 0, .string ⟨#[]⟩, .int .i64 0, .bool false, .int .i64 0, .string ⟨#[]⟩, .int .i64 0, .int .i64 0] := ⟨_, rfl, (Kp.refl _ _).alloc _, Bx.new w _ _⟩
  obtain ⟨q, hq⟩ : ∃ q, Hid (w.heap.size = q) := ⟨_, rfl⟩
  have hqw : w.heap.size ≤ q := by rw [hq.out]; omega
  rw [hq.out] at bR
  obtain ⟨g, o, rfl, hc⟩ : ∃ g o, a = some ⟨g, o, none⟩ ∧ ∀ j u, bs[j]? = some u → w.cell? ⟨g, o + j, none⟩ = some (.int .u8 u.toNat) := by
    rcases hs with h | h
    · rw [hbs] at h; cases h
    · exact h
  have hs' : Sees w (some ⟨g, o, none⟩) bs := .inr ⟨g, o, rfl, hc⟩
  have hlen : bs.length = r.length + 3 := by rw [hbs]; simp
  have hat : Hid (∀ W, Kp [] w W → W.cell? ⟨g, o, none⟩ = some (.int .u8 k.toNat) ∧ W.cell? ⟨g, o + 1, none⟩ = some (.int .u8 m.toNat) ∧ W.cell? ⟨g, o + 2, none⟩ = some (.int .u8 n.toNat)) := fun W kW => ⟨kpAt kW (hc 0 k (by rw [hbs]; rfl)), kpAt kW (hc 1 m (by rw [hbs]; rfl)), kpAt kW (hc 2 n (by rw [hbs]; rfl))⟩
  have hg : Hid ((bs.getD 0 0) = k ∧ (bs.getD 1 0) = m ∧ (bs.getD 2 0) = n) := by rw [hbs]; exact ⟨rfl, rfl, rfl⟩
  have hkl := k.toNat_lt
  have hml := m.toNat_lt
  have hnl := n.toNat_lt
  have hsB := hid (fun W (kW : Kp [] w W) => hs'.kept kW (by simp))
  have hlh := hid hlen
  have hlb : 3 ≤ bs.length := by omega
  have hfirst : Hid (4 < k.toNat ∨ m.toNat = 0 ∨ 64 < m.toNat ∨ m.toNat < n.toNat → hdR bs = none) := fun h => hdR_first bs (by rw [hg.out.1, hg.out.2.1, hg.out.2.2]; exact h)
  have hsome : Hid (¬ (4 < k.toNat ∨ m.toNat = 0 ∨ 64 < m.toNat ∨ m.toNat < n.toNat) → hdR bs = if (rowF (bs.drop 3)).2 = 0 then none
      else if (rowF (bs.drop (3 + (rowF (bs.drop 3)).2))).2 = 0 ∨ bs.length < 3 + (rowF (bs.drop 3)).2 + (rowF (bs.drop (3 + (rowF (bs.drop 3)).2))).2 + 2 then none
      else if bs.length < endR bs (3 + (rowF (bs.drop 3)).2 + (rowF (bs.drop (3 + (rowF (bs.drop 3)).2))).2) then none
      else some (⟨k.toNat, m.toNat, (rowF (bs.drop 3)).1, (rowF (bs.drop (3 + (rowF (bs.drop 3)).2))).1, n.toNat, endR bs (3 + (rowF (bs.drop 3)).2 + (rowF (bs.drop (3 + (rowF (bs.drop 3)).2))).2)⟩, 3 + (rowF (bs.drop 3)).2 + (rowF (bs.drop (3 + (rowF (bs.drop 3)).2))).2 + 2)) := fun h => by
    unfold hdR
    rw [hg.out.1, hg.out.2.1, hg.out.2.2, if_neg (fun h' => by rcases h' with h' | h'; omega; exact h h')]
  obtain ⟨K, hK⟩ : ∃ x : Nat, Hid (k.toNat = x) := ⟨_, rfl⟩
  obtain ⟨M, hM⟩ : ∃ x : Nat, Hid (m.toNat = x) := ⟨_, rfl⟩
  obtain ⟨N, hN⟩ : ∃ x : Nat, Hid (n.toNat = x) := ⟨_, rfl⟩
  rw [hK.out] at hkl hfirst hsome
  rw [hM.out] at hml hfirst hsome
  rw [hN.out] at hnl hfirst hsome
  simp only [hK.out, hM.out, hN.out] at hat
  have d1 : ¬ (bs.length : Int) < 3 := by omega
  have d1' : decide ((bs.length : Int) < 3) = false := by simpa using d1
  have z0 : (0 : Int) < (bs.length : Int) := by omega
  have z1 : (1 : Int) < (bs.length : Int) := by omega
  have z2 : (2 : Int) < (bs.length : Int) := by omega
  have n0 : 0 < bs.length := by omega
  have n1 : 1 < bs.length := by omega
  have n2 : 2 < bs.length := by omega
  obtain ⟨x0, x1, x2⟩ := hat.out w0 kw0
  have hbR := hid bR
  have hkw := hid kw0
  have hq' := hq.out
  unfold maxLen at hm
  clear bR kw0 hs hs' hc hg hK hM hN hlen hbs
  by_cases hA : 4 < K
  · have y1 : (4 : Int) < (K : Int) := by omega
    have y1' : decide ((4 : Int) < (K : Int)) = true := by simpa using y1
    go_enter Tryz.func24, Tryz.ntmps24
    go_wp2_with fail
    go_quiet (fail)
    have bRq := hid (hbR.out.kept ((Kp.refl [] w0).drewN nq) (by simp) (hbR.out.lt (by simp)))
    have kq := hid (hkw.out.drewN nq)
    generalize w0.drewN nq = wq at *
    clear x0 x1 x2 hw0 hq'
    have hnone : Hid (hdR bs = none) := hfirst.out (.inl hA)
    have p0 := bRq.out.get 0 _ rfl; have f0 := bRq.out.free 0
    have p1 := bRq.out.get 1 _ rfl; have f1 := bRq.out.free 1
    have p2 := bRq.out.get 2 _ rfl; have f2 := bRq.out.free 2
    have p3 := bRq.out.get 3 _ rfl; have f3 := bRq.out.free 3
    have p4 := bRq.out.get 4 _ rfl; have f4 := bRq.out.free 4
    have p5 := bRq.out.get 5 _ rfl; have f5 := bRq.out.free 5
    have p6 := bRq.out.get 6 _ rfl; have f6 := bRq.out.free 6
    have p7 := bRq.out.get 7 _ rfl; have f7 := bRq.out.free 7
    have p8 := bRq.out.get 8 _ rfl; have f8 := bRq.out.free 8
    have p9 := bRq.out.get 9 _ rfl; have f9 := bRq.out.free 9
    have p10 := bRq.out.get 10 _ rfl; have f10 := bRq.out.free 10
    have p11 := bRq.out.get 11 _ rfl; have f11 := bRq.out.free 11
    obtain ⟨W, hW, bW, kW⟩ : ∃ Y9, ((((((((((((wq.setCell ⟨q, 0, none⟩ (.int .i64 0)).setCell ⟨q, 1, none⟩ (.int .i64 0)).setCell ⟨q, 2, none⟩ (.int .i64 0)).setCell ⟨q, 3, none⟩ (.bool false)).setCell ⟨q, 4, none⟩ (.int .i64 0)).setCell ⟨q, 5, none⟩ (.string ⟨#[]⟩)).setCell ⟨q, 6, none⟩ (.int .i64 0)).setCell ⟨q, 7, none⟩ (.bool false)).setCell ⟨q, 8, none⟩ (.int .i64 0)).setCell ⟨q, 9, none⟩ (.string ⟨#[]⟩)).setCell ⟨q, 10, none⟩ (.int .i64 0)).setCell ⟨q, 11, none⟩ (.int .i64 0)) = Y9 ∧ Bx Y9 q [.int .i64 0, .int .i64 0, .int .i64 0, .bool false, .int .i64 0, .string ⟨#[]⟩, .int .i64 0, .bool false, .int .i64 0, .string ⟨#[]⟩, .int .i64 0, .int .i64 0] ∧ Kp [q] wq Y9 := ⟨_, rfl, gen12q (R := fun Y9 => Bx Y9 q [.int .i64 0, .int .i64 0, .int .i64 0, .bool false, .int .i64 0, .string ⟨#[]⟩, .int .i64 0, .bool false, .int .i64 0, .string ⟨#[]⟩, .int .i64 0, .int .i64 0]) bRq.out rfl (.int .i64 0) (.int .i64 0) (.int .i64 0) (.bool false) (.int .i64 0) (.string ⟨#[]⟩) (.int .i64 0) (.bool false) (.int .i64 0) (.string ⟨#[]⟩) (.int .i64 0) (.int .i64 0) (fun Y9 b _ => b), gen12q (R := fun Y9 => Kp [q] wq Y9) bRq.out rfl (.int .i64 0) (.int .i64 0) (.int .i64 0) (.bool false) (.int .i64 0) (.string ⟨#[]⟩) (.int .i64 0) (.bool false) (.int .i64 0) (.string ⟨#[]⟩) (.int .i64 0) (.int .i64 0) (fun Y9 _ k => k)⟩
    have r0 := bW.get 0 _ rfl
    have r1 := bW.get 1 _ rfl
    have r2 := bW.get 2 _ rfl
    have r3 := bW.get 3 _ rfl
    have r4 := bW.get 4 _ rfl
    have r5 := bW.get 5 _ rfl
    have r6 := bW.get 6 _ rfl
    have r7 := bW.get 7 _ rfl
    have r8 := bW.get 8 _ rfl
    have r9 := bW.get 9 _ rfl
    have r10 := bW.get 10 _ rfl
    have r11 := bW.get 11 _ rfl
    have kkW := hid (kq.out.trans kW (fun x hx => .inr (by simp at hx; omega)))
    clear kW bW
    go_wp2_with fail
    refine bodyPost_ret (v := .tuple #[zeroI.v, .int .i64 0, .int .i64 70]) (by rw [zeroI_v]; simp [results, Tryz.results24, go_sem, r0, r1, r2, r3, r4, r5, r6, r7, r8, r9, r10, r11]) rfl ?_
    unfold HdP
    have e70 : hdP bs = (zeroI, 0, 70) := by unfold hdP; rw [hnone.out]
    rw [e70]
    exact ⟨rfl, kkW.out⟩
  have y1 : ¬ (4 : Int) < (K : Int) := by omega
  have y1' : decide ((4 : Int) < (K : Int)) = false := by simpa using y1
  by_cases hB : M = 0
  · have y2 : ((M : Int) == 0) = true := by simpa using hB
    go_enter Tryz.func24, Tryz.ntmps24
    go_wp2_with fail
    go_quiet (fail)
    have bRq := hid (hbR.out.kept ((Kp.refl [] w0).drewN nq) (by simp) (hbR.out.lt (by simp)))
    have kq := hid (hkw.out.drewN nq)
    generalize w0.drewN nq = wq at *
    clear x0 x1 x2 hw0 hq'
    have hnone : Hid (hdR bs = none) := hfirst.out (.inr (.inl hB))
    have p0 := bRq.out.get 0 _ rfl; have f0 := bRq.out.free 0
    have p1 := bRq.out.get 1 _ rfl; have f1 := bRq.out.free 1
    have p2 := bRq.out.get 2 _ rfl; have f2 := bRq.out.free 2
    have p3 := bRq.out.get 3 _ rfl; have f3 := bRq.out.free 3
    have p4 := bRq.out.get 4 _ rfl; have f4 := bRq.out.free 4
    have p5 := bRq.out.get 5 _ rfl; have f5 := bRq.out.free 5
    have p6 := bRq.out.get 6 _ rfl; have f6 := bRq.out.free 6
    have p7 := bRq.out.get 7 _ rfl; have f7 := bRq.out.free 7
    have p8 := bRq.out.get 8 _ rfl; have f8 := bRq.out.free 8
    have p9 := bRq.out.get 9 _ rfl; have f9 := bRq.out.free 9
    have p10 := bRq.out.get 10 _ rfl; have f10 := bRq.out.free 10
    have p11 := bRq.out.get 11 _ rfl; have f11 := bRq.out.free 11
    obtain ⟨W, hW, bW, kW⟩ : ∃ Y9, ((((((((((((wq.setCell ⟨q, 0, none⟩ (.int .i64 0)).setCell ⟨q, 1, none⟩ (.int .i64 0)).setCell ⟨q, 2, none⟩ (.int .i64 0)).setCell ⟨q, 3, none⟩ (.bool false)).setCell ⟨q, 4, none⟩ (.int .i64 0)).setCell ⟨q, 5, none⟩ (.string ⟨#[]⟩)).setCell ⟨q, 6, none⟩ (.int .i64 0)).setCell ⟨q, 7, none⟩ (.bool false)).setCell ⟨q, 8, none⟩ (.int .i64 0)).setCell ⟨q, 9, none⟩ (.string ⟨#[]⟩)).setCell ⟨q, 10, none⟩ (.int .i64 0)).setCell ⟨q, 11, none⟩ (.int .i64 0)) = Y9 ∧ Bx Y9 q [.int .i64 0, .int .i64 0, .int .i64 0, .bool false, .int .i64 0, .string ⟨#[]⟩, .int .i64 0, .bool false, .int .i64 0, .string ⟨#[]⟩, .int .i64 0, .int .i64 0] ∧ Kp [q] wq Y9 := ⟨_, rfl, gen12q (R := fun Y9 => Bx Y9 q [.int .i64 0, .int .i64 0, .int .i64 0, .bool false, .int .i64 0, .string ⟨#[]⟩, .int .i64 0, .bool false, .int .i64 0, .string ⟨#[]⟩, .int .i64 0, .int .i64 0]) bRq.out rfl (.int .i64 0) (.int .i64 0) (.int .i64 0) (.bool false) (.int .i64 0) (.string ⟨#[]⟩) (.int .i64 0) (.bool false) (.int .i64 0) (.string ⟨#[]⟩) (.int .i64 0) (.int .i64 0) (fun Y9 b _ => b), gen12q (R := fun Y9 => Kp [q] wq Y9) bRq.out rfl (.int .i64 0) (.int .i64 0) (.int .i64 0) (.bool false) (.int .i64 0) (.string ⟨#[]⟩) (.int .i64 0) (.bool false) (.int .i64 0) (.string ⟨#[]⟩) (.int .i64 0) (.int .i64 0) (fun Y9 _ k => k)⟩
    have r0 := bW.get 0 _ rfl
    have r1 := bW.get 1 _ rfl
    have r2 := bW.get 2 _ rfl
    have r3 := bW.get 3 _ rfl
    have r4 := bW.get 4 _ rfl
    have r5 := bW.get 5 _ rfl
    have r6 := bW.get 6 _ rfl
    have r7 := bW.get 7 _ rfl
    have r8 := bW.get 8 _ rfl
    have r9 := bW.get 9 _ rfl
    have r10 := bW.get 10 _ rfl
    have r11 := bW.get 11 _ rfl
    have kkW := hid (kq.out.trans kW (fun x hx => .inr (by simp at hx; omega)))
    clear kW bW
    go_wp2_with fail
    refine bodyPost_ret (v := .tuple #[zeroI.v, .int .i64 0, .int .i64 70]) (by rw [zeroI_v]; simp [results, Tryz.results24, go_sem, r0, r1, r2, r3, r4, r5, r6, r7, r8, r9, r10, r11]) rfl ?_
    unfold HdP
    have e70 : hdP bs = (zeroI, 0, 70) := by unfold hdP; rw [hnone.out]
    rw [e70]
    exact ⟨rfl, kkW.out⟩
  have y2 : ((M : Int) == 0) = false := beq_eq_false_iff_ne.2 (by omega)
  by_cases hC : 64 < M
  · have y3 : (64 : Int) < (M : Int) := by omega
    have y3' : decide ((64 : Int) < (M : Int)) = true := by simpa using y3
    go_enter Tryz.func24, Tryz.ntmps24
    go_wp2_with fail
    go_quiet (fail)
    have bRq := hid (hbR.out.kept ((Kp.refl [] w0).drewN nq) (by simp) (hbR.out.lt (by simp)))
    have kq := hid (hkw.out.drewN nq)
    generalize w0.drewN nq = wq at *
    clear x0 x1 x2 hw0 hq'
    have hnone : Hid (hdR bs = none) := hfirst.out (.inr (.inr (.inl hC)))
    have p0 := bRq.out.get 0 _ rfl; have f0 := bRq.out.free 0
    have p1 := bRq.out.get 1 _ rfl; have f1 := bRq.out.free 1
    have p2 := bRq.out.get 2 _ rfl; have f2 := bRq.out.free 2
    have p3 := bRq.out.get 3 _ rfl; have f3 := bRq.out.free 3
    have p4 := bRq.out.get 4 _ rfl; have f4 := bRq.out.free 4
    have p5 := bRq.out.get 5 _ rfl; have f5 := bRq.out.free 5
    have p6 := bRq.out.get 6 _ rfl; have f6 := bRq.out.free 6
    have p7 := bRq.out.get 7 _ rfl; have f7 := bRq.out.free 7
    have p8 := bRq.out.get 8 _ rfl; have f8 := bRq.out.free 8
    have p9 := bRq.out.get 9 _ rfl; have f9 := bRq.out.free 9
    have p10 := bRq.out.get 10 _ rfl; have f10 := bRq.out.free 10
    have p11 := bRq.out.get 11 _ rfl; have f11 := bRq.out.free 11
    obtain ⟨W, hW, bW, kW⟩ : ∃ Y9, ((((((((((((wq.setCell ⟨q, 0, none⟩ (.int .i64 0)).setCell ⟨q, 1, none⟩ (.int .i64 0)).setCell ⟨q, 2, none⟩ (.int .i64 0)).setCell ⟨q, 3, none⟩ (.bool false)).setCell ⟨q, 4, none⟩ (.int .i64 0)).setCell ⟨q, 5, none⟩ (.string ⟨#[]⟩)).setCell ⟨q, 6, none⟩ (.int .i64 0)).setCell ⟨q, 7, none⟩ (.bool false)).setCell ⟨q, 8, none⟩ (.int .i64 0)).setCell ⟨q, 9, none⟩ (.string ⟨#[]⟩)).setCell ⟨q, 10, none⟩ (.int .i64 0)).setCell ⟨q, 11, none⟩ (.int .i64 0)) = Y9 ∧ Bx Y9 q [.int .i64 0, .int .i64 0, .int .i64 0, .bool false, .int .i64 0, .string ⟨#[]⟩, .int .i64 0, .bool false, .int .i64 0, .string ⟨#[]⟩, .int .i64 0, .int .i64 0] ∧ Kp [q] wq Y9 := ⟨_, rfl, gen12q (R := fun Y9 => Bx Y9 q [.int .i64 0, .int .i64 0, .int .i64 0, .bool false, .int .i64 0, .string ⟨#[]⟩, .int .i64 0, .bool false, .int .i64 0, .string ⟨#[]⟩, .int .i64 0, .int .i64 0]) bRq.out rfl (.int .i64 0) (.int .i64 0) (.int .i64 0) (.bool false) (.int .i64 0) (.string ⟨#[]⟩) (.int .i64 0) (.bool false) (.int .i64 0) (.string ⟨#[]⟩) (.int .i64 0) (.int .i64 0) (fun Y9 b _ => b), gen12q (R := fun Y9 => Kp [q] wq Y9) bRq.out rfl (.int .i64 0) (.int .i64 0) (.int .i64 0) (.bool false) (.int .i64 0) (.string ⟨#[]⟩) (.int .i64 0) (.bool false) (.int .i64 0) (.string ⟨#[]⟩) (.int .i64 0) (.int .i64 0) (fun Y9 _ k => k)⟩
    have r0 := bW.get 0 _ rfl
    have r1 := bW.get 1 _ rfl
    have r2 := bW.get 2 _ rfl
    have r3 := bW.get 3 _ rfl
    have r4 := bW.get 4 _ rfl
    have r5 := bW.get 5 _ rfl
    have r6 := bW.get 6 _ rfl
    have r7 := bW.get 7 _ rfl
    have r8 := bW.get 8 _ rfl
    have r9 := bW.get 9 _ rfl
    have r10 := bW.get 10 _ rfl
    have r11 := bW.get 11 _ rfl
    have kkW := hid (kq.out.trans kW (fun x hx => .inr (by simp at hx; omega)))
    clear kW bW
    go_wp2_with fail
    refine bodyPost_ret (v := .tuple #[zeroI.v, .int .i64 0, .int .i64 70]) (by rw [zeroI_v]; simp [results, Tryz.results24, go_sem, r0, r1, r2, r3, r4, r5, r6, r7, r8, r9, r10, r11]) rfl ?_
    unfold HdP
    have e70 : hdP bs = (zeroI, 0, 70) := by unfold hdP; rw [hnone.out]
    rw [e70]
    exact ⟨rfl, kkW.out⟩
  have y3 : ¬ (64 : Int) < (M : Int) := by omega
  have y3' : decide ((64 : Int) < (M : Int)) = false := by simpa using y3
  by_cases hD : M < N
  · have y4 : (M : Int) < (N : Int) := by omega
    have y4' : decide ((M : Int) < (N : Int)) = true := by simpa using y4
    go_enter Tryz.func24, Tryz.ntmps24
    go_wp2_with fail
    go_quiet (fail)
    have bRq := hid (hbR.out.kept ((Kp.refl [] w0).drewN nq) (by simp) (hbR.out.lt (by simp)))
    have kq := hid (hkw.out.drewN nq)
    generalize w0.drewN nq = wq at *
    clear x0 x1 x2 hw0 hq'
    have hnone : Hid (hdR bs = none) := hfirst.out (.inr (.inr (.inr hD)))
    have p0 := bRq.out.get 0 _ rfl; have f0 := bRq.out.free 0
    have p1 := bRq.out.get 1 _ rfl; have f1 := bRq.out.free 1
    have p2 := bRq.out.get 2 _ rfl; have f2 := bRq.out.free 2
    have p3 := bRq.out.get 3 _ rfl; have f3 := bRq.out.free 3
    have p4 := bRq.out.get 4 _ rfl; have f4 := bRq.out.free 4
    have p5 := bRq.out.get 5 _ rfl; have f5 := bRq.out.free 5
    have p6 := bRq.out.get 6 _ rfl; have f6 := bRq.out.free 6
    have p7 := bRq.out.get 7 _ rfl; have f7 := bRq.out.free 7
    have p8 := bRq.out.get 8 _ rfl; have f8 := bRq.out.free 8
    have p9 := bRq.out.get 9 _ rfl; have f9 := bRq.out.free 9
    have p10 := bRq.out.get 10 _ rfl; have f10 := bRq.out.free 10
    have p11 := bRq.out.get 11 _ rfl; have f11 := bRq.out.free 11
    obtain ⟨W, hW, bW, kW⟩ : ∃ Y9, ((((((((((((wq.setCell ⟨q, 0, none⟩ (.int .i64 0)).setCell ⟨q, 1, none⟩ (.int .i64 0)).setCell ⟨q, 2, none⟩ (.int .i64 0)).setCell ⟨q, 3, none⟩ (.bool false)).setCell ⟨q, 4, none⟩ (.int .i64 0)).setCell ⟨q, 5, none⟩ (.string ⟨#[]⟩)).setCell ⟨q, 6, none⟩ (.int .i64 0)).setCell ⟨q, 7, none⟩ (.bool false)).setCell ⟨q, 8, none⟩ (.int .i64 0)).setCell ⟨q, 9, none⟩ (.string ⟨#[]⟩)).setCell ⟨q, 10, none⟩ (.int .i64 0)).setCell ⟨q, 11, none⟩ (.int .i64 0)) = Y9 ∧ Bx Y9 q [.int .i64 0, .int .i64 0, .int .i64 0, .bool false, .int .i64 0, .string ⟨#[]⟩, .int .i64 0, .bool false, .int .i64 0, .string ⟨#[]⟩, .int .i64 0, .int .i64 0] ∧ Kp [q] wq Y9 := ⟨_, rfl, gen12q (R := fun Y9 => Bx Y9 q [.int .i64 0, .int .i64 0, .int .i64 0, .bool false, .int .i64 0, .string ⟨#[]⟩, .int .i64 0, .bool false, .int .i64 0, .string ⟨#[]⟩, .int .i64 0, .int .i64 0]) bRq.out rfl (.int .i64 0) (.int .i64 0) (.int .i64 0) (.bool false) (.int .i64 0) (.string ⟨#[]⟩) (.int .i64 0) (.bool false) (.int .i64 0) (.string ⟨#[]⟩) (.int .i64 0) (.int .i64 0) (fun Y9 b _ => b), gen12q (R := fun Y9 => Kp [q] wq Y9) bRq.out rfl (.int .i64 0) (.int .i64 0) (.int .i64 0) (.bool false) (.int .i64 0) (.string ⟨#[]⟩) (.int .i64 0) (.bool false) (.int .i64 0) (.string ⟨#[]⟩) (.int .i64 0) (.int .i64 0) (fun Y9 _ k => k)⟩
    have r0 := bW.get 0 _ rfl
    have r1 := bW.get 1 _ rfl
    have r2 := bW.get 2 _ rfl
    have r3 := bW.get 3 _ rfl
    have r4 := bW.get 4 _ rfl
    have r5 := bW.get 5 _ rfl
    have r6 := bW.get 6 _ rfl
    have r7 := bW.get 7 _ rfl
    have r8 := bW.get 8 _ rfl
    have r9 := bW.get 9 _ rfl
    have r10 := bW.get 10 _ rfl
    have r11 := bW.get 11 _ rfl
    have kkW := hid (kq.out.trans kW (fun x hx => .inr (by simp at hx; omega)))
    clear kW bW
    go_wp2_with fail
    refine bodyPost_ret (v := .tuple #[zeroI.v, .int .i64 0, .int .i64 70]) (by rw [zeroI_v]; simp [results, Tryz.results24, go_sem, r0, r1, r2, r3, r4, r5, r6, r7, r8, r9, r10, r11]) rfl ?_
    unfold HdP
    have e70 : hdP bs = (zeroI, 0, 70) := by unfold hdP; rw [hnone.out]
    rw [e70]
    exact ⟨rfl, kkW.out⟩
  have y4 : ¬ (M : Int) < (N : Int) := by omega
  have y4' : decide ((M : Int) < (N : Int)) = false := by simpa using y4
  have hsm := hid (hsome.out (by omega))
  clear hsome hfirst
  go_enter Tryz.func24, Tryz.ntmps24
  go_wp2_with fail
  go_quiet (fail)
  have bRq := hid (hbR.out.kept ((Kp.refl [] w0).drewN nq) (by simp) (hbR.out.lt (by simp)))
  have kq := hid (hkw.out.drewN nq)
  generalize w0.drewN nq = wq at *
  clear x0 x1 x2 hw0 hq'
  clear y1 y1' y2 y3 y3' y4 y4' d1 d1'
  -- the head's first three fields
  have kd : Kp [] wq wq.drew := (Kp.refl _ _).drew
  have hS : Hid (∀ A, Kp [] wq A → (A.cell? ⟨g, o, none⟩ = some (.int .u8 K) ∧ A.cell? ⟨g, o + 1, none⟩ = some (.int .u8 M) ∧ A.cell? ⟨g, o + 2, none⟩ = some (.int .u8 N))) := fun A kA => hat.out A (kq.out.trans kA (by simp))
  go_wp2_with fail
  refine wp_region_held_drew (S := (fun A => A.cell? ⟨g, o, none⟩ = some (.int .u8 K) ∧ A.cell? ⟨g, o + 1, none⟩ = some (.int .u8 M) ∧ A.cell? ⟨g, o + 2, none⟩ = some (.int .u8 N))) (by kernel_rfl) ?_ (fun hHeld => ?_)
  · exact hS.out _ kd
  have hkd := hid kd
  have kwd := hid (kq.out.trans kd (by simp))
  have hbd := hid (bRq.out.kept kd (by simp) (bRq.out.lt (by simp)))
  clear hHeld kd bRq
  have hHeld := hS.out _ hkd.out
  generalize wq.drew = wd at *
  have wk : IntKind.i64.wrap (K : Int) = (K : Int) := by rw [IntKind.wrap_i64]; omega
  have wm : IntKind.i64.wrap (M : Int) = (M : Int) := by rw [IntKind.wrap_i64]; omega
  have wn : IntKind.i64.wrap (N : Int) = (N : Int) := by rw [IntKind.wrap_i64]; omega
  refine wpAnyH_take (i := 0) (v := ?_) rfl (by kernel_rfl) (by kernel_rfl) (by kernel_rfl) (fun _ _ _ h => h) (Or.inl ⟨by rfl, ?_⟩) (by assumption) ?_
  rotate_left
  · intro w hSw; (try dsimp only at hSw); go_simp <;> with_reducible rfl
  try simp only [Act.put, List.getElem_toArray, List.getElem_cons_zero, List.getElem_cons_succ, List.setIfInBounds_toArray, List.set_cons_zero, List.set_cons_succ]
  refine wpAnyH_take (i := 1) (v := ?_) rfl (by kernel_rfl) (by kernel_rfl) (by kernel_rfl) (fun _ _ _ h => h) (Or.inl ⟨by rfl, ?_⟩) (by assumption) ?_
  rotate_left
  · intro w hSw; (try dsimp only at hSw); go_simp <;> with_reducible rfl
  try simp only [Act.put, List.getElem_toArray, List.getElem_cons_zero, List.getElem_cons_succ, List.setIfInBounds_toArray, List.set_cons_zero, List.set_cons_succ]
  refine wpAnyH_take (i := 2) (v := ?_) rfl (by kernel_rfl) (by kernel_rfl) (by kernel_rfl) (fun _ _ _ h => h) (Or.inl ⟨by rfl, ?_⟩) (by assumption) ?_
  rotate_left
  · intro w hSw; (try dsimp only at hSw); go_simp <;> with_reducible rfl
  try simp only [Act.put, List.getElem_toArray, List.getElem_cons_zero, List.getElem_cons_succ, List.setIfInBounds_toArray, List.set_cons_zero, List.set_cons_succ]
  refine wpAnyH_take (i := 3) (v := ?_) rfl (by kernel_rfl) (by kernel_rfl) (by kernel_rfl) (fun _ _ _ h => h) (Or.inl ⟨by rfl, ?_⟩) (by assumption) ?_
  rotate_left
  · intro w hSw; (try dsimp only at hSw); go_simp <;> with_reducible rfl
  try simp only [Act.put, List.getElem_toArray, List.getElem_cons_zero, List.getElem_cons_succ, List.setIfInBounds_toArray, List.set_cons_zero, List.set_cons_succ]
  refine wpAnyH_take (i := 4) (v := ?_) rfl (by kernel_rfl) (by kernel_rfl) (by kernel_rfl) (fun _ _ _ h => h) (Or.inl ⟨by rfl, ?_⟩) (by assumption) ?_
  rotate_left
  · intro w hSw; (try dsimp only at hSw); go_simp <;> with_reducible rfl
  try simp only [Act.put, List.getElem_toArray, List.getElem_cons_zero, List.getElem_cons_succ, List.setIfInBounds_toArray, List.set_cons_zero, List.set_cons_succ]
  refine wpAnyH_take (i := 5) (v := ?_) rfl (by kernel_rfl) (by kernel_rfl) (by kernel_rfl) (fun _ _ _ h => h) (Or.inl ⟨by rfl, ?_⟩) (by assumption) ?_
  rotate_left
  · intro w hSw; (try dsimp only at hSw); go_simp <;> with_reducible rfl
  try simp only [Act.put, List.getElem_toArray, List.getElem_cons_zero, List.getElem_cons_succ, List.setIfInBounds_toArray, List.set_cons_zero, List.set_cons_succ]
  refine wpAnyH_take (i := 6) (v := ?_) rfl (by kernel_rfl) (by kernel_rfl) (by kernel_rfl) (fun _ _ _ h => h) (Or.inl ⟨by rfl, ?_⟩) (by assumption) ?_
  rotate_left
  · intro w hSw; (try dsimp only at hSw); go_simp <;> with_reducible rfl
  try simp only [Act.put, List.getElem_toArray, List.getElem_cons_zero, List.getElem_cons_succ, List.setIfInBounds_toArray, List.set_cons_zero, List.set_cons_succ]
  refine wpAnyH_take (i := 7) (v := ?_) rfl (by kernel_rfl) (by kernel_rfl) (by kernel_rfl) (fun _ _ _ h => h) (Or.inl ⟨by rfl, ?_⟩) (by assumption) ?_
  rotate_left
  · intro w hSw; (try dsimp only at hSw); go_simp <;> with_reducible rfl
  try simp only [Act.put, List.getElem_toArray, List.getElem_cons_zero, List.getElem_cons_succ, List.setIfInBounds_toArray, List.set_cons_zero, List.set_cons_succ]
  refine wpAnyH_take (i := 8) (v := ?_) rfl (by kernel_rfl) (by kernel_rfl) (by kernel_rfl) (fun _ _ _ h => h) (Or.inl ⟨by rfl, ?_⟩) (by assumption) ?_
  rotate_left
  · intro w hSw; (try dsimp only at hSw); go_simp <;> with_reducible rfl
  try simp only [Act.put, List.getElem_toArray, List.getElem_cons_zero, List.getElem_cons_succ, List.setIfInBounds_toArray, List.set_cons_zero, List.set_cons_succ]
  refine wpAnyH_take (i := 9) (v := ?_) rfl (by kernel_rfl) (by kernel_rfl) (by kernel_rfl) (fun _ _ _ h => h) (Or.inl ⟨by rfl, ?_⟩) (by assumption) ?_
  rotate_left
  · intro w hSw; (try dsimp only at hSw); go_simp <;> with_reducible rfl
  try simp only [Act.put, List.getElem_toArray, List.getElem_cons_zero, List.getElem_cons_succ, List.setIfInBounds_toArray, List.set_cons_zero, List.set_cons_succ]
  refine wpAnyH_take (i := 10) (v := ?_) rfl (by kernel_rfl) (by kernel_rfl) (by kernel_rfl) (fun _ _ _ h => h) (Or.inl ⟨by rfl, ?_⟩) (by assumption) ?_
  rotate_left
  · intro w hSw; (try dsimp only at hSw); go_simp <;> with_reducible rfl
  try simp only [Act.put, List.getElem_toArray, List.getElem_cons_zero, List.getElem_cons_succ, List.setIfInBounds_toArray, List.set_cons_zero, List.set_cons_succ]
  refine wpAnyH_take (i := 11) (v := ?_) rfl (by kernel_rfl) (by kernel_rfl) (by kernel_rfl) (fun _ _ _ h => h) (Or.inl ⟨by rfl, ?_⟩) (by assumption) ?_
  rotate_left
  · intro w hSw; (try dsimp only at hSw); go_simp <;> with_reducible rfl
  try simp only [Act.put, List.getElem_toArray, List.getElem_cons_zero, List.getElem_cons_succ, List.setIfInBounds_toArray, List.set_cons_zero, List.set_cons_succ]
  refine wpAnyH_take (i := 12) (v := ?_) rfl (by kernel_rfl) (by kernel_rfl) (by kernel_rfl) (fun _ _ _ h => h) (Or.inl ⟨by rfl, ?_⟩) (by assumption) ?_
  rotate_left
  · intro w hSw; (try dsimp only at hSw); go_simp <;> with_reducible rfl
  try simp only [Act.put, List.getElem_toArray, List.getElem_cons_zero, List.getElem_cons_succ, List.setIfInBounds_toArray, List.set_cons_zero, List.set_cons_succ]
  obtain ⟨w1, hw1, k1, bI⟩ : ∃ w1, wd.alloc (.cells #[.int .i64 0, .int .i64 0, .int .i64 0, .bool false, .int .i64 0, .string ⟨#[]⟩, .int .i64 0, .bool false, .int .i64 0, .string ⟨#[]⟩, .int .i64 0, .int .i64 0] 59) = w1 ∧ Kp [] wd w1 ∧ Bx w1 wd.heap.size [.int .i64 0, .int .i64 0, .int .i64 0, .bool false, .int .i64 0, .string ⟨#[]⟩, .int .i64 0, .bool false, .int .i64 0, .string ⟨#[]⟩, .int .i64 0, .int .i64 0] := ⟨_, rfl, (Kp.refl _ _).alloc _, Bx.new wd _ _⟩
  obtain ⟨qi, hqi⟩ : ∃ q, Hid (wd.heap.size = q) := ⟨_, rfl⟩
  have hne : q ≠ qi := by rw [← hqi.out]; have := hbd.out.lt (by simp); omega
  have hqiw : w.heap.size ≤ qi := by rw [← hqi.out]; exact kwd.out.size
  rw [hqi.out] at bI
  have hw1' := hid hw1
  have hbI := hid bI
  have k1' := hid k1
  clear hw1 bI k1
  refine wpAnyH_ready (rs := [13]) (by kernel_rfl) (by simp) ?_
  refine AllReadyH.cons rfl (fun K1 hK => ?_) AllReadyH.nil
  go_simp
  rw [hw1'.out, hqi.out]
  refine hK.out _ _ ?_ (fun hHeld => ?_)
  · exact hS.out _ (hkd.out.trans k1'.out (by simp))
  clear hK
  try simp only [Act.put, List.getElem_toArray, List.getElem_cons_zero, List.getElem_cons_succ, List.setIfInBounds_toArray, List.set_cons_zero, List.set_cons_succ]
  have p0 := hbI.out.get 0 _ rfl; have f0 := hbI.out.free 0
  have p1 := hbI.out.get 1 _ rfl; have f1 := hbI.out.free 1
  have p2 := hbI.out.get 2 _ rfl; have f2 := hbI.out.free 2
  have p3 := hbI.out.get 3 _ rfl; have f3 := hbI.out.free 3
  have p4 := hbI.out.get 4 _ rfl; have f4 := hbI.out.free 4
  have p5 := hbI.out.get 5 _ rfl; have f5 := hbI.out.free 5
  have p6 := hbI.out.get 6 _ rfl; have f6 := hbI.out.free 6
  have p7 := hbI.out.get 7 _ rfl; have f7 := hbI.out.free 7
  have p8 := hbI.out.get 8 _ rfl; have f8 := hbI.out.free 8
  have p9 := hbI.out.get 9 _ rfl; have f9 := hbI.out.free 9
  have p10 := hbI.out.get 10 _ rfl; have f10 := hbI.out.free 10
  have p11 := hbI.out.get 11 _ rfl; have f11 := hbI.out.free 11
  obtain ⟨W, hW, bW, kW⟩ : ∃ Y9, ((((((((((((w1.setCell ⟨qi, 0, none⟩ (.int .i64 (K : Int))).setCell ⟨qi, 1, none⟩ (.int .i64 (M : Int))).setCell ⟨qi, 2, none⟩ (.int .i64 0)).setCell ⟨qi, 3, none⟩ (.bool false)).setCell ⟨qi, 4, none⟩ (.int .i64 0)).setCell ⟨qi, 5, none⟩ (.string ⟨#[]⟩)).setCell ⟨qi, 6, none⟩ (.int .i64 0)).setCell ⟨qi, 7, none⟩ (.bool false)).setCell ⟨qi, 8, none⟩ (.int .i64 0)).setCell ⟨qi, 9, none⟩ (.string ⟨#[]⟩)).setCell ⟨qi, 10, none⟩ (.int .i64 (N : Int))).setCell ⟨qi, 11, none⟩ (.int .i64 0)) = Y9 ∧ Bx Y9 qi [.int .i64 (K : Int), .int .i64 (M : Int), .int .i64 0, .bool false, .int .i64 0, .string ⟨#[]⟩, .int .i64 0, .bool false, .int .i64 0, .string ⟨#[]⟩, .int .i64 (N : Int), .int .i64 0] ∧ Kp [qi] w1 Y9 := ⟨_, rfl, gen12q (R := fun Y9 => Bx Y9 qi [.int .i64 (K : Int), .int .i64 (M : Int), .int .i64 0, .bool false, .int .i64 0, .string ⟨#[]⟩, .int .i64 0, .bool false, .int .i64 0, .string ⟨#[]⟩, .int .i64 (N : Int), .int .i64 0]) hbI.out rfl (.int .i64 (K : Int)) (.int .i64 (M : Int)) (.int .i64 0) (.bool false) (.int .i64 0) (.string ⟨#[]⟩) (.int .i64 0) (.bool false) (.int .i64 0) (.string ⟨#[]⟩) (.int .i64 (N : Int)) (.int .i64 0) (fun Y9 b _ => b), gen12q (R := fun Y9 => Kp [qi] w1 Y9) hbI.out rfl (.int .i64 (K : Int)) (.int .i64 (M : Int)) (.int .i64 0) (.bool false) (.int .i64 0) (.string ⟨#[]⟩) (.int .i64 0) (.bool false) (.int .i64 0) (.string ⟨#[]⟩) (.int .i64 (N : Int)) (.int .i64 0) (fun Y9 _ k => k)⟩
  refine wpAnyH_ready (rs := [14]) (by kernel_rfl) (by simp) ?_
  refine AllReadyH.cons rfl (fun K2 hK => ?_) AllReadyH.nil
  go_simp
  refine hK.out _ _ ?_ (fun hHeld => ?_)
  · exact hS.out _ ((hkd.out.trans k1'.out (by simp)).trans kW (fun x hx => .inr (by simp at hx; have := hkd.out.size; rw [hx, ← hqi.out]; omega)))
  clear hK K2
  try simp only [Act.put, List.getElem_toArray, List.getElem_cons_zero, List.getElem_cons_succ, List.setIfInBounds_toArray, List.set_cons_zero, List.set_cons_succ]
  refine wpAnyH_done (by kernel_rfl) ?_ _
  have kwW := hid (((kwd.out.trans k1'.out (by simp)).trans kW (fun x hx => .inr (by simp at hx; omega))))
  have bRW := hid ((hbd.out.kept k1'.out (by simp) (hbd.out.lt (by simp))).kept kW (by simpa using hne) (by have := hbd.out.lt (by simp); have := k1'.out.size; omega))
  have hbW := hid bW
  clear p0 f0 p1 f1 p2 f2 p3 f3 p4 f4 p5 f5 p6 f6 p7 f7 p8 f8 p9 f9 p10 f10 p11 f11 hHeld hW bW kW hS hbd hkd hbI hw1' k1' kwd wk wm wn
  -- the least
  obtain ⟨A3, hA3⟩ : ∃ A, (if c = 3 then some ({ block := g, off := o } : Addr) else some ({ block := g, off := o + 3 } : Addr)) = A := ⟨_, rfl⟩
  have hs3 : Sees W A3 (bs.drop 3) := by
    rw [← hA3]
    by_cases h : c = 3
    · exact .inl (List.drop_of_length_le (by omega))
    · rw [if_neg h]
      have := (hsB.out W kwW.out).tail 3
      simpa [Addr.add_lit] using this
  have l3 : (bs.drop 3).length = bs.length - 3 := List.length_drop
  have cF := cFront A3 (c - 3) (bs.drop 3) W hs3 (by omega) (by unfold maxLen; omega)
  have hle1 := rowF_le (bs.drop 3)
  unfold Tk at cF
  rw [l3] at cF hle1
  obtain ⟨⟨⟨mk, mb, mn, mt⟩, n1⟩, hv1⟩ : ∃ v, Hid (rowF (bs.drop 3) = v) := ⟨_, rfl⟩
  rw [hv1.out] at cF hle1
  simp only [hv1.out] at hsm
  unfold Val.v at cF
  dsimp only at cF hle1
  have q3 : (3 : Int) ≤ (bs.length : Int) := by omega
  clear hs3 l3 hv1 hat
  go_wp2_with fail
  try rw [hA3]
  refine cF.mono ?_
  rintro e w3 ⟨rfl, k3⟩
  have kw3 := hid (kwW.out.trans k3 (by simp))
  have bR3 := hid (bRW.out.kept k3 (by simp) (bRW.out.lt (by simp)))
  have bI3 := hid (hbW.out.kept k3 (by simp) (hbW.out.lt (by simp)))
  obtain ⟨w4, hw4⟩ : ∃ w4, w3.alloc (.cells #[.int .i64 mk, .bool mb, .int .i64 mn, .string mt] 30) = w4 := ⟨_, rfl⟩
  have k4 : Kp [] w3 w4 := by rw [← hw4]; exact (Kp.refl _ _).alloc _
  obtain ⟨q6, hq6⟩ : ∃ q, Hid (w3.heap.size = q) := ⟨_, rfl⟩
  have bx6 := Box4.new w3 (.int .i64 mk) (.bool mb) (.int .i64 mn) (.string mt) 30
  rw [hw4, hq6.out] at bx6
  have hbx6 := hid bx6
  have kw4 := hid (kw3.out.trans k4 (by simp))
  have bR4 := hid (bR3.out.kept k4 (by simp) (bR3.out.lt (by simp)))
  have bI4 := hid (bI3.out.kept k4 (by simp) (bI3.out.lt (by simp)))
  have hqi6 : qi < q6 := by rw [← hq6.out]; exact bI3.out.lt (by simp)
  have hqq6 : q < q6 := by rw [← hq6.out]; exact bR3.out.lt (by simp)
  have hq6' := hq6.out
  clear cF k3 bR3 bI3 bRW hbW bx6 k4 kw3 kwW q3 hA3
  by_cases hn1 : n1 = 0
  · have y1 : ((n1 : Int) == 0) = true := by simpa using hn1
    have hnone : Hid (hdR bs = none) := by show _ = _; rw [hsm.out, if_pos hn1]
    have p0 := bR4.out.get 0 _ rfl; have f0 := bR4.out.free 0
    have p1 := bR4.out.get 1 _ rfl; have f1 := bR4.out.free 1
    have p2 := bR4.out.get 2 _ rfl; have f2 := bR4.out.free 2
    have p3 := bR4.out.get 3 _ rfl; have f3 := bR4.out.free 3
    have p4 := bR4.out.get 4 _ rfl; have f4 := bR4.out.free 4
    have p5 := bR4.out.get 5 _ rfl; have f5 := bR4.out.free 5
    have p6 := bR4.out.get 6 _ rfl; have f6 := bR4.out.free 6
    have p7 := bR4.out.get 7 _ rfl; have f7 := bR4.out.free 7
    have p8 := bR4.out.get 8 _ rfl; have f8 := bR4.out.free 8
    have p9 := bR4.out.get 9 _ rfl; have f9 := bR4.out.free 9
    have p10 := bR4.out.get 10 _ rfl; have f10 := bR4.out.free 10
    have p11 := bR4.out.get 11 _ rfl; have f11 := bR4.out.free 11
    obtain ⟨W, hW, bW, kW⟩ : ∃ Y9, ((((((((((((w4.setCell ⟨q, 0, none⟩ (.int .i64 0)).setCell ⟨q, 1, none⟩ (.int .i64 0)).setCell ⟨q, 2, none⟩ (.int .i64 0)).setCell ⟨q, 3, none⟩ (.bool false)).setCell ⟨q, 4, none⟩ (.int .i64 0)).setCell ⟨q, 5, none⟩ (.string ⟨#[]⟩)).setCell ⟨q, 6, none⟩ (.int .i64 0)).setCell ⟨q, 7, none⟩ (.bool false)).setCell ⟨q, 8, none⟩ (.int .i64 0)).setCell ⟨q, 9, none⟩ (.string ⟨#[]⟩)).setCell ⟨q, 10, none⟩ (.int .i64 0)).setCell ⟨q, 11, none⟩ (.int .i64 0)) = Y9 ∧ Bx Y9 q [.int .i64 0, .int .i64 0, .int .i64 0, .bool false, .int .i64 0, .string ⟨#[]⟩, .int .i64 0, .bool false, .int .i64 0, .string ⟨#[]⟩, .int .i64 0, .int .i64 0] ∧ Kp [q] w4 Y9 := ⟨_, rfl, gen12q (R := fun Y9 => Bx Y9 q [.int .i64 0, .int .i64 0, .int .i64 0, .bool false, .int .i64 0, .string ⟨#[]⟩, .int .i64 0, .bool false, .int .i64 0, .string ⟨#[]⟩, .int .i64 0, .int .i64 0]) bR4.out rfl (.int .i64 0) (.int .i64 0) (.int .i64 0) (.bool false) (.int .i64 0) (.string ⟨#[]⟩) (.int .i64 0) (.bool false) (.int .i64 0) (.string ⟨#[]⟩) (.int .i64 0) (.int .i64 0) (fun Y9 b _ => b), gen12q (R := fun Y9 => Kp [q] w4 Y9) bR4.out rfl (.int .i64 0) (.int .i64 0) (.int .i64 0) (.bool false) (.int .i64 0) (.string ⟨#[]⟩) (.int .i64 0) (.bool false) (.int .i64 0) (.string ⟨#[]⟩) (.int .i64 0) (.int .i64 0) (fun Y9 _ k => k)⟩
    have r0 := bW.get 0 _ rfl
    have r1 := bW.get 1 _ rfl
    have r2 := bW.get 2 _ rfl
    have r3 := bW.get 3 _ rfl
    have r4 := bW.get 4 _ rfl
    have r5 := bW.get 5 _ rfl
    have r6 := bW.get 6 _ rfl
    have r7 := bW.get 7 _ rfl
    have r8 := bW.get 8 _ rfl
    have r9 := bW.get 9 _ rfl
    have r10 := bW.get 10 _ rfl
    have r11 := bW.get 11 _ rfl
    have kkW := hid (kw4.out.trans kW (fun x hx => .inr (by simp at hx; omega)))
    clear kW bW
    go_wp2_with fail
    refine bodyPost_ret (v := .tuple #[zeroI.v, .int .i64 0, .int .i64 70]) (by rw [zeroI_v]; simp [results, Tryz.results24, go_sem, r0, r1, r2, r3, r4, r5, r6, r7, r8, r9, r10, r11]) rfl ?_
    unfold HdP
    have e70 : hdP bs = (zeroI, 0, 70) := by unfold hdP; rw [hnone.out]
    rw [e70]
    exact ⟨rfl, kkW.out⟩
  have y1 : ((n1 : Int) == 0) = false := beq_eq_false_iff_ne.2 (by omega)
  rw [if_neg hn1] at hsm
  -- the greatest
  obtain ⟨P3, hP3⟩ : ∃ x : Nat, Hid (3 + n1 = x) := ⟨_, rfl⟩
  rw [hP3.out] at hsm
  have hPn : P3 ≤ bs.length := by rw [← hP3.out]; omega
  obtain ⟨A4, hA4⟩ : ∃ A, (if c = P3 then some ({ block := g, off := o } : Addr) else some ({ block := g, off := o + P3 } : Addr)) = A := ⟨_, rfl⟩
  have hs4 : Sees w4 A4 (bs.drop P3) := by
    rw [← hA4]
    by_cases h : c = P3
    · exact .inl (List.drop_of_length_le (by omega))
    · rw [if_neg h]
      have := (hsB.out w4 kw4.out).tail P3
      simpa [Addr.add_lit] using this
  have l4 : (bs.drop P3).length = bs.length - P3 := List.length_drop
  have cF := cFront A4 (c - P3) (bs.drop P3) w4 hs4 (by omega) (by unfold maxLen; omega)
  have hle2 := rowF_le (bs.drop P3)
  unfold Tk at cF
  rw [l4] at cF hle2
  obtain ⟨⟨⟨xk, xb, xn, xt⟩, n2'⟩, hv2⟩ : ∃ v, Hid (rowF (bs.drop P3) = v) := ⟨_, rfl⟩
  rw [hv2.out] at cF hle2
  simp only [hv2.out] at hsm
  unfold Val.v at cF
  dsimp only at cF hle2
  have i3 : (3 : Int) + (n1 : Int) = (P3 : Int) := by have := hP3.out; omega
  have q4 : (P3 : Int) ≤ (bs.length : Int) := by omega
  clear hs4 l4 hv2
  go_wp2_with fail
  try rw [hA4]
  refine cF.mono ?_
  rintro e w5 ⟨rfl, k5⟩
  have kw5 := hid (kw4.out.trans k5 (by simp))
  have bR5 := hid (bR4.out.kept k5 (by simp) (bR4.out.lt (by simp)))
  have bI5 := hid (bI4.out.kept k5 (by simp) (bI4.out.lt (by simp)))
  have bx5 := hid (hbx6.out.kept k5 (by simp))
  obtain ⟨w6, hw6⟩ : ∃ w6, w5.alloc (.cells #[.int .i64 xk, .bool xb, .int .i64 xn, .string xt] 30) = w6 := ⟨_, rfl⟩
  have k6 : Kp [] w5 w6 := by rw [← hw6]; exact (Kp.refl _ _).alloc _
  obtain ⟨q8, hq8⟩ : ∃ q, Hid (w5.heap.size = q) := ⟨_, rfl⟩
  have bx8 := Box4.new w5 (.int .i64 xk) (.bool xb) (.int .i64 xn) (.string xt) 30
  rw [hw6, hq8.out] at bx8
  have hbx8 := hid bx8
  have kw6 := hid (kw5.out.trans k6 (by simp))
  have bR6 := hid (bR5.out.kept k6 (by simp) (bR5.out.lt (by simp)))
  have bI6 := hid (bI5.out.kept k6 (by simp) (bI5.out.lt (by simp)))
  have bx6 := hid (bx5.out.kept k6 (by simp))
  have hqi8 : qi < q8 := by rw [← hq8.out]; exact bI5.out.lt (by simp)
  have hqq8 : q < q8 := by rw [← hq8.out]; exact bR5.out.lt (by simp)
  have hq8' := hq8.out
  obtain ⟨AT, hAT⟩ : ∃ x : Nat, Hid (P3 + n2' = x) := ⟨_, rfl⟩
  have hATb : AT ≤ bs.length := by have := hAT.out; omega
  have i4 : (P3 : Int) + (n2' : Int) = (AT : Int) := by have := hAT.out; omega
  rw [hAT.out] at hsm
  clear cF k5 bR5 bI5 bx5 bx8 k6 kw5 kw4 bR4 bI4 hbx6 hA4 hw4 hq6'
  by_cases hn2 : n2' = 0
  · have y2 : ((n2' : Int) == 0) = true := by simpa using hn2
    have hnone : Hid (hdR bs = none) := by show _ = _; rw [hsm.out, if_pos (.inl hn2)]
    have p0 := bR6.out.get 0 _ rfl; have f0 := bR6.out.free 0
    have p1 := bR6.out.get 1 _ rfl; have f1 := bR6.out.free 1
    have p2 := bR6.out.get 2 _ rfl; have f2 := bR6.out.free 2
    have p3 := bR6.out.get 3 _ rfl; have f3 := bR6.out.free 3
    have p4 := bR6.out.get 4 _ rfl; have f4 := bR6.out.free 4
    have p5 := bR6.out.get 5 _ rfl; have f5 := bR6.out.free 5
    have p6 := bR6.out.get 6 _ rfl; have f6 := bR6.out.free 6
    have p7 := bR6.out.get 7 _ rfl; have f7 := bR6.out.free 7
    have p8 := bR6.out.get 8 _ rfl; have f8 := bR6.out.free 8
    have p9 := bR6.out.get 9 _ rfl; have f9 := bR6.out.free 9
    have p10 := bR6.out.get 10 _ rfl; have f10 := bR6.out.free 10
    have p11 := bR6.out.get 11 _ rfl; have f11 := bR6.out.free 11
    obtain ⟨W, hW, bW, kW⟩ : ∃ Y9, ((((((((((((w6.setCell ⟨q, 0, none⟩ (.int .i64 0)).setCell ⟨q, 1, none⟩ (.int .i64 0)).setCell ⟨q, 2, none⟩ (.int .i64 0)).setCell ⟨q, 3, none⟩ (.bool false)).setCell ⟨q, 4, none⟩ (.int .i64 0)).setCell ⟨q, 5, none⟩ (.string ⟨#[]⟩)).setCell ⟨q, 6, none⟩ (.int .i64 0)).setCell ⟨q, 7, none⟩ (.bool false)).setCell ⟨q, 8, none⟩ (.int .i64 0)).setCell ⟨q, 9, none⟩ (.string ⟨#[]⟩)).setCell ⟨q, 10, none⟩ (.int .i64 0)).setCell ⟨q, 11, none⟩ (.int .i64 0)) = Y9 ∧ Bx Y9 q [.int .i64 0, .int .i64 0, .int .i64 0, .bool false, .int .i64 0, .string ⟨#[]⟩, .int .i64 0, .bool false, .int .i64 0, .string ⟨#[]⟩, .int .i64 0, .int .i64 0] ∧ Kp [q] w6 Y9 := ⟨_, rfl, gen12q (R := fun Y9 => Bx Y9 q [.int .i64 0, .int .i64 0, .int .i64 0, .bool false, .int .i64 0, .string ⟨#[]⟩, .int .i64 0, .bool false, .int .i64 0, .string ⟨#[]⟩, .int .i64 0, .int .i64 0]) bR6.out rfl (.int .i64 0) (.int .i64 0) (.int .i64 0) (.bool false) (.int .i64 0) (.string ⟨#[]⟩) (.int .i64 0) (.bool false) (.int .i64 0) (.string ⟨#[]⟩) (.int .i64 0) (.int .i64 0) (fun Y9 b _ => b), gen12q (R := fun Y9 => Kp [q] w6 Y9) bR6.out rfl (.int .i64 0) (.int .i64 0) (.int .i64 0) (.bool false) (.int .i64 0) (.string ⟨#[]⟩) (.int .i64 0) (.bool false) (.int .i64 0) (.string ⟨#[]⟩) (.int .i64 0) (.int .i64 0) (fun Y9 _ k => k)⟩
    have r0 := bW.get 0 _ rfl
    have r1 := bW.get 1 _ rfl
    have r2 := bW.get 2 _ rfl
    have r3 := bW.get 3 _ rfl
    have r4 := bW.get 4 _ rfl
    have r5 := bW.get 5 _ rfl
    have r6 := bW.get 6 _ rfl
    have r7 := bW.get 7 _ rfl
    have r8 := bW.get 8 _ rfl
    have r9 := bW.get 9 _ rfl
    have r10 := bW.get 10 _ rfl
    have r11 := bW.get 11 _ rfl
    have kkW := hid (kw6.out.trans kW (fun x hx => .inr (by simp at hx; omega)))
    clear kW bW
    go_wp2_with fail
    refine bodyPost_ret (v := .tuple #[zeroI.v, .int .i64 0, .int .i64 70]) (by rw [zeroI_v]; simp [results, Tryz.results24, go_sem, r0, r1, r2, r3, r4, r5, r6, r7, r8, r9, r10, r11]) rfl ?_
    unfold HdP
    have e70 : hdP bs = (zeroI, 0, 70) := by unfold hdP; rw [hnone.out]
    rw [e70]
    exact ⟨rfl, kkW.out⟩
  have y2 : ((n2' : Int) == 0) = false := beq_eq_false_iff_ne.2 (by omega)
  by_cases hA2 : bs.length < AT + 2
  · have y3 : (bs.length : Int) < (AT : Int) + 2 := by omega
    have y3' : decide ((bs.length : Int) < (AT : Int) + 2) = true := by simpa using y3
    have hnone : Hid (hdR bs = none) := by show _ = _; rw [hsm.out, if_pos (.inr hA2)]
    have p0 := bR6.out.get 0 _ rfl; have f0 := bR6.out.free 0
    have p1 := bR6.out.get 1 _ rfl; have f1 := bR6.out.free 1
    have p2 := bR6.out.get 2 _ rfl; have f2 := bR6.out.free 2
    have p3 := bR6.out.get 3 _ rfl; have f3 := bR6.out.free 3
    have p4 := bR6.out.get 4 _ rfl; have f4 := bR6.out.free 4
    have p5 := bR6.out.get 5 _ rfl; have f5 := bR6.out.free 5
    have p6 := bR6.out.get 6 _ rfl; have f6 := bR6.out.free 6
    have p7 := bR6.out.get 7 _ rfl; have f7 := bR6.out.free 7
    have p8 := bR6.out.get 8 _ rfl; have f8 := bR6.out.free 8
    have p9 := bR6.out.get 9 _ rfl; have f9 := bR6.out.free 9
    have p10 := bR6.out.get 10 _ rfl; have f10 := bR6.out.free 10
    have p11 := bR6.out.get 11 _ rfl; have f11 := bR6.out.free 11
    obtain ⟨W, hW, bW, kW⟩ : ∃ Y9, ((((((((((((w6.setCell ⟨q, 0, none⟩ (.int .i64 0)).setCell ⟨q, 1, none⟩ (.int .i64 0)).setCell ⟨q, 2, none⟩ (.int .i64 0)).setCell ⟨q, 3, none⟩ (.bool false)).setCell ⟨q, 4, none⟩ (.int .i64 0)).setCell ⟨q, 5, none⟩ (.string ⟨#[]⟩)).setCell ⟨q, 6, none⟩ (.int .i64 0)).setCell ⟨q, 7, none⟩ (.bool false)).setCell ⟨q, 8, none⟩ (.int .i64 0)).setCell ⟨q, 9, none⟩ (.string ⟨#[]⟩)).setCell ⟨q, 10, none⟩ (.int .i64 0)).setCell ⟨q, 11, none⟩ (.int .i64 0)) = Y9 ∧ Bx Y9 q [.int .i64 0, .int .i64 0, .int .i64 0, .bool false, .int .i64 0, .string ⟨#[]⟩, .int .i64 0, .bool false, .int .i64 0, .string ⟨#[]⟩, .int .i64 0, .int .i64 0] ∧ Kp [q] w6 Y9 := ⟨_, rfl, gen12q (R := fun Y9 => Bx Y9 q [.int .i64 0, .int .i64 0, .int .i64 0, .bool false, .int .i64 0, .string ⟨#[]⟩, .int .i64 0, .bool false, .int .i64 0, .string ⟨#[]⟩, .int .i64 0, .int .i64 0]) bR6.out rfl (.int .i64 0) (.int .i64 0) (.int .i64 0) (.bool false) (.int .i64 0) (.string ⟨#[]⟩) (.int .i64 0) (.bool false) (.int .i64 0) (.string ⟨#[]⟩) (.int .i64 0) (.int .i64 0) (fun Y9 b _ => b), gen12q (R := fun Y9 => Kp [q] w6 Y9) bR6.out rfl (.int .i64 0) (.int .i64 0) (.int .i64 0) (.bool false) (.int .i64 0) (.string ⟨#[]⟩) (.int .i64 0) (.bool false) (.int .i64 0) (.string ⟨#[]⟩) (.int .i64 0) (.int .i64 0) (fun Y9 _ k => k)⟩
    have r0 := bW.get 0 _ rfl
    have r1 := bW.get 1 _ rfl
    have r2 := bW.get 2 _ rfl
    have r3 := bW.get 3 _ rfl
    have r4 := bW.get 4 _ rfl
    have r5 := bW.get 5 _ rfl
    have r6 := bW.get 6 _ rfl
    have r7 := bW.get 7 _ rfl
    have r8 := bW.get 8 _ rfl
    have r9 := bW.get 9 _ rfl
    have r10 := bW.get 10 _ rfl
    have r11 := bW.get 11 _ rfl
    have kkW := hid (kw6.out.trans kW (fun x hx => .inr (by simp at hx; omega)))
    clear kW bW
    go_wp2_with fail
    refine bodyPost_ret (v := .tuple #[zeroI.v, .int .i64 0, .int .i64 70]) (by rw [zeroI_v]; simp [results, Tryz.results24, go_sem, r0, r1, r2, r3, r4, r5, r6, r7, r8, r9, r10, r11]) rfl ?_
    unfold HdP
    have e70 : hdP bs = (zeroI, 0, 70) := by unfold hdP; rw [hnone.out]
    rw [e70]
    exact ⟨rfl, kkW.out⟩
  have y3 : ¬ (bs.length : Int) < (AT : Int) + 2 := by omega
  have y3' : decide ((bs.length : Int) < (AT : Int) + 2) = false := by simpa using y3
  rw [if_neg (by intro h; rcases h with h | h; exact hn2 h; exact hA2 h)] at hsm
  have e0 := bx6.out.c0; have e1 := bx6.out.c1; have e2 := bx6.out.c2; have e3 := bx6.out.c3
  have g2 := bI6.out.get 2 _ rfl; have gf2 := bI6.out.free 2
  have g3 := bI6.out.get 3 _ rfl; have gf3 := bI6.out.free 3
  have g4 := bI6.out.get 4 _ rfl; have gf4 := bI6.out.free 4
  have g5 := bI6.out.get 5 _ rfl; have gf5 := bI6.out.free 5
  obtain ⟨V, hV, bV, kV⟩ : ∃ Y9, ((((w6.setCell ⟨qi, 2, none⟩ (.int .i64 mk)).setCell ⟨qi, 3, none⟩ (.bool mb)).setCell ⟨qi, 4, none⟩ (.int .i64 mn)).setCell ⟨qi, 5, none⟩ (.string mt)) = Y9 ∧ Bx Y9 qi [.int .i64 (K : Int), .int .i64 (M : Int), .int .i64 mk, .bool mb, .int .i64 mn, .string mt, .int .i64 0, .bool false, .int .i64 0, .string ⟨#[]⟩, .int .i64 (N : Int), .int .i64 0] ∧ Kp [qi] w6 Y9 := ⟨_, rfl, genS4 (R := fun Y9 => Bx Y9 qi [.int .i64 (K : Int), .int .i64 (M : Int), .int .i64 mk, .bool mb, .int .i64 mn, .string mt, .int .i64 0, .bool false, .int .i64 0, .string ⟨#[]⟩, .int .i64 (N : Int), .int .i64 0]) bI6.out 2 3 4 5 (by simp) (by simp) (by simp) (by simp) (.int .i64 mk) (.bool mb) (.int .i64 mn) (.string mt) (fun Y9 b _ => b), genS4 (R := fun Y9 => Kp [qi] w6 Y9) bI6.out 2 3 4 5 (by simp) (by simp) (by simp) (by simp) (.int .i64 mk) (.bool mb) (.int .i64 mn) (.string mt) (fun Y9 _ k => k)⟩
  have bx8V := hbx8.out.kept kV (by simp; omega)
  have j0 := bx8V.c0; have j1 := bx8V.c1; have j2 := bx8V.c2; have j3 := bx8V.c3
  have g6 := bV.get 6 _ rfl; have gf6 := bV.free 6
  have g7 := bV.get 7 _ rfl; have gf7 := bV.free 7
  have g8 := bV.get 8 _ rfl; have gf8 := bV.free 8
  have g9 := bV.get 9 _ rfl; have gf9 := bV.free 9
  obtain ⟨U, hU, bU, kU⟩ : ∃ Y9, ((((V.setCell ⟨qi, 6, none⟩ (.int .i64 xk)).setCell ⟨qi, 7, none⟩ (.bool xb)).setCell ⟨qi, 8, none⟩ (.int .i64 xn)).setCell ⟨qi, 9, none⟩ (.string xt)) = Y9 ∧ Bx Y9 qi [.int .i64 (K : Int), .int .i64 (M : Int), .int .i64 mk, .bool mb, .int .i64 mn, .string mt, .int .i64 xk, .bool xb, .int .i64 xn, .string xt, .int .i64 (N : Int), .int .i64 0] ∧ Kp [qi] V Y9 := ⟨_, rfl, genS4 (R := fun Y9 => Bx Y9 qi [.int .i64 (K : Int), .int .i64 (M : Int), .int .i64 mk, .bool mb, .int .i64 mn, .string mt, .int .i64 xk, .bool xb, .int .i64 xn, .string xt, .int .i64 (N : Int), .int .i64 0]) bV 6 7 8 9 (by simp) (by simp) (by simp) (by simp) (.int .i64 xk) (.bool xb) (.int .i64 xn) (.string xt) (fun Y9 b _ => b), genS4 (R := fun Y9 => Kp [qi] V Y9) bV 6 7 8 9 (by simp) (by simp) (by simp) (by simp) (.int .i64 xk) (.bool xb) (.int .i64 xn) (.string xt) (fun Y9 _ k => k)⟩
  have kwU := hid ((kw6.out.trans kV (fun x hx => .inr (by simp at hx; omega))).trans kU (fun x hx => .inr (by simp at hx; omega)))
  have bRU := hid ((bR6.out.kept kV (by simpa using hne) (bR6.out.lt (by simp))).kept kU (by simpa using hne) (by have := bR6.out.lt (by simp); have := kV.size; omega))
  have hbU := hid bU
  have sU : Sees U (some ⟨g, o + AT, none⟩) ((bs.drop AT).take 2) := by have := ((hsB.out U kwU.out).tail AT).front 2; simpa [Addr.add_lit] using this
  have l2 : ((bs.drop AT).take 2).length = 2 := by rw [List.length_take, List.length_drop]; omega
  have cS := cRefSaid (some ⟨g, o + AT, none⟩) 2 (c - AT) ((bs.drop AT).take 2) U sU l2.symm (by omega)
  have hnb := num_lt_of ((bs.drop AT).take 2) 2 (by omega)
  have hend : Hid (endR bs AT = AT + 2 + num ((bs.drop AT).take 2) + 4) := rfl
  obtain ⟨S2, hS2⟩ : ∃ x : Nat, Hid (num ((bs.drop AT).take 2) = x) := ⟨_, rfl⟩
  rw [hS2.out] at cS hnb hend
  obtain ⟨B, hBB⟩ : ∃ x : Nat, Hid (AT + 2 + S2 + 4 = x) := ⟨_, rfl⟩
  rw [hBB.out] at hend
  rw [hend.out] at hsm
  have i5 : (AT : Int) + 2 + (S2 : Int) + 4 = (B : Int) := by have := hBB.out; omega
  have i6 : IntKind.i64.wrap (S2 : Int) = (S2 : Int) := by rw [IntKind.wrap_i64]; omega
  have hB7 : B ≤ 9223372036854000000 := by rw [← hBB.out]; omega
  have v1 : (AT : Int) ≤ (AT : Int) + 2 := by omega
  have v2 : (AT : Int) + 2 ≤ (c : Int) := by omega
  have v3 : c ≠ AT := by omega
  have v4 : AT ≤ c := by omega
  have v5 : AT + 2 ≤ c := by omega
  clear sU l2 kV bV kU bU hend hS2 bx6 hbx8 bx8V kw6 bR6 bI6
  go_wp2_with fail
  refine cS.mono ?_
  rintro e w7 ⟨rfl, hw7⟩
  subst hw7
  have g11 := hbU.out.get 11 _ rfl
  have gf11 := hbU.out.free 11
  obtain ⟨T, hT, bT, kT⟩ : ∃ Y9, w7.setCell ⟨qi, 11, none⟩ (.int .i64 (B : Int)) = Y9 ∧ Bx Y9 qi [.int .i64 (K : Int), .int .i64 (M : Int), .int .i64 mk, .bool mb, .int .i64 mn, .string mt, .int .i64 xk, .bool xb, .int .i64 xn, .string xt, .int .i64 (N : Int), .int .i64 (B : Int)] ∧ Kp [qi] w7 Y9 := ⟨_, rfl, genS (R := fun Y9 => Bx Y9 qi [.int .i64 (K : Int), .int .i64 (M : Int), .int .i64 mk, .bool mb, .int .i64 mn, .string mt, .int .i64 xk, .bool xb, .int .i64 xn, .string xt, .int .i64 (N : Int), .int .i64 (B : Int)]) hbU.out 11 (by simp) (.int .i64 (B : Int)) (fun Y9 b _ => b), genS (R := fun Y9 => Kp [qi] w7 Y9) hbU.out 11 (by simp) (.int .i64 (B : Int)) (fun Y9 _ k => k)⟩
  have kwT := hid (kwU.out.trans kT (fun x hx => .inr (by simp at hx; omega)))
  have bRT := hid (bRU.out.kept kT (by simpa using hne) (bRU.out.lt (by simp)))
  have s0 := bT.get 0 _ rfl
  have s1 := bT.get 1 _ rfl
  have s2 := bT.get 2 _ rfl
  have s3 := bT.get 3 _ rfl
  have s4 := bT.get 4 _ rfl
  have s5 := bT.get 5 _ rfl
  have s6 := bT.get 6 _ rfl
  have s7 := bT.get 7 _ rfl
  have s8 := bT.get 8 _ rfl
  have s9 := bT.get 9 _ rfl
  have s10 := bT.get 10 _ rfl
  have s11 := bT.get 11 _ rfl
  clear cS kT bT bRU kwU hbU e0 e1 e2 e3 j0 j1 j2 j3 hw6 hq8' hV hU
  clear g2 gf2 g3 gf3 g4 gf4 g5 gf5 g6 gf6 g7 gf7 g8 gf8 g9 gf9
  by_cases hBn : bs.length < B
  · have y5 : (bs.length : Int) < (B : Int) := by omega
    have y5' : decide ((bs.length : Int) < (B : Int)) = true := by simpa using y5
    have hnone : Hid (hdR bs = none) := by show _ = _; rw [hsm.out, if_pos hBn]
    have p0 := bRT.out.get 0 _ rfl; have f0 := bRT.out.free 0
    have p1 := bRT.out.get 1 _ rfl; have f1 := bRT.out.free 1
    have p2 := bRT.out.get 2 _ rfl; have f2 := bRT.out.free 2
    have p3 := bRT.out.get 3 _ rfl; have f3 := bRT.out.free 3
    have p4 := bRT.out.get 4 _ rfl; have f4 := bRT.out.free 4
    have p5 := bRT.out.get 5 _ rfl; have f5 := bRT.out.free 5
    have p6 := bRT.out.get 6 _ rfl; have f6 := bRT.out.free 6
    have p7 := bRT.out.get 7 _ rfl; have f7 := bRT.out.free 7
    have p8 := bRT.out.get 8 _ rfl; have f8 := bRT.out.free 8
    have p9 := bRT.out.get 9 _ rfl; have f9 := bRT.out.free 9
    have p10 := bRT.out.get 10 _ rfl; have f10 := bRT.out.free 10
    have p11 := bRT.out.get 11 _ rfl; have f11 := bRT.out.free 11
    obtain ⟨W, hW, bW, kW⟩ : ∃ Y9, ((((((((((((T.setCell ⟨q, 0, none⟩ (.int .i64 0)).setCell ⟨q, 1, none⟩ (.int .i64 0)).setCell ⟨q, 2, none⟩ (.int .i64 0)).setCell ⟨q, 3, none⟩ (.bool false)).setCell ⟨q, 4, none⟩ (.int .i64 0)).setCell ⟨q, 5, none⟩ (.string ⟨#[]⟩)).setCell ⟨q, 6, none⟩ (.int .i64 0)).setCell ⟨q, 7, none⟩ (.bool false)).setCell ⟨q, 8, none⟩ (.int .i64 0)).setCell ⟨q, 9, none⟩ (.string ⟨#[]⟩)).setCell ⟨q, 10, none⟩ (.int .i64 0)).setCell ⟨q, 11, none⟩ (.int .i64 0)) = Y9 ∧ Bx Y9 q [.int .i64 0, .int .i64 0, .int .i64 0, .bool false, .int .i64 0, .string ⟨#[]⟩, .int .i64 0, .bool false, .int .i64 0, .string ⟨#[]⟩, .int .i64 0, .int .i64 0] ∧ Kp [q] T Y9 := ⟨_, rfl, gen12q (R := fun Y9 => Bx Y9 q [.int .i64 0, .int .i64 0, .int .i64 0, .bool false, .int .i64 0, .string ⟨#[]⟩, .int .i64 0, .bool false, .int .i64 0, .string ⟨#[]⟩, .int .i64 0, .int .i64 0]) bRT.out rfl (.int .i64 0) (.int .i64 0) (.int .i64 0) (.bool false) (.int .i64 0) (.string ⟨#[]⟩) (.int .i64 0) (.bool false) (.int .i64 0) (.string ⟨#[]⟩) (.int .i64 0) (.int .i64 0) (fun Y9 b _ => b), gen12q (R := fun Y9 => Kp [q] T Y9) bRT.out rfl (.int .i64 0) (.int .i64 0) (.int .i64 0) (.bool false) (.int .i64 0) (.string ⟨#[]⟩) (.int .i64 0) (.bool false) (.int .i64 0) (.string ⟨#[]⟩) (.int .i64 0) (.int .i64 0) (fun Y9 _ k => k)⟩
    have r0 := bW.get 0 _ rfl
    have r1 := bW.get 1 _ rfl
    have r2 := bW.get 2 _ rfl
    have r3 := bW.get 3 _ rfl
    have r4 := bW.get 4 _ rfl
    have r5 := bW.get 5 _ rfl
    have r6 := bW.get 6 _ rfl
    have r7 := bW.get 7 _ rfl
    have r8 := bW.get 8 _ rfl
    have r9 := bW.get 9 _ rfl
    have r10 := bW.get 10 _ rfl
    have r11 := bW.get 11 _ rfl
    have kkW := hid (kwT.out.trans kW (fun x hx => .inr (by simp at hx; omega)))
    clear kW bW
    go_wp2_with fail
    refine bodyPost_ret (v := .tuple #[zeroI.v, .int .i64 0, .int .i64 70]) (by rw [zeroI_v]; simp [results, Tryz.results24, go_sem, r0, r1, r2, r3, r4, r5, r6, r7, r8, r9, r10, r11]) rfl ?_
    unfold HdP
    have e70 : hdP bs = (zeroI, 0, 70) := by unfold hdP; rw [hnone.out]
    rw [e70]
    exact ⟨rfl, kkW.out⟩
  have y5 : ¬ (bs.length : Int) < (B : Int) := by omega
  have y5' : decide ((bs.length : Int) < (B : Int)) = false := by simpa using y5
  rw [if_neg hBn] at hsm
  have p0 := bRT.out.get 0 _ rfl; have f0 := bRT.out.free 0
  have p1 := bRT.out.get 1 _ rfl; have f1 := bRT.out.free 1
  have p2 := bRT.out.get 2 _ rfl; have f2 := bRT.out.free 2
  have p3 := bRT.out.get 3 _ rfl; have f3 := bRT.out.free 3
  have p4 := bRT.out.get 4 _ rfl; have f4 := bRT.out.free 4
  have p5 := bRT.out.get 5 _ rfl; have f5 := bRT.out.free 5
  have p6 := bRT.out.get 6 _ rfl; have f6 := bRT.out.free 6
  have p7 := bRT.out.get 7 _ rfl; have f7 := bRT.out.free 7
  have p8 := bRT.out.get 8 _ rfl; have f8 := bRT.out.free 8
  have p9 := bRT.out.get 9 _ rfl; have f9 := bRT.out.free 9
  have p10 := bRT.out.get 10 _ rfl; have f10 := bRT.out.free 10
  have p11 := bRT.out.get 11 _ rfl; have f11 := bRT.out.free 11
  obtain ⟨Q, hQ, bQ, kQ⟩ : ∃ Y9, ((((((((((((T.setCell ⟨q, 0, none⟩ (.int .i64 (K : Int))).setCell ⟨q, 1, none⟩ (.int .i64 (M : Int))).setCell ⟨q, 2, none⟩ (.int .i64 mk)).setCell ⟨q, 3, none⟩ (.bool mb)).setCell ⟨q, 4, none⟩ (.int .i64 mn)).setCell ⟨q, 5, none⟩ (.string mt)).setCell ⟨q, 6, none⟩ (.int .i64 xk)).setCell ⟨q, 7, none⟩ (.bool xb)).setCell ⟨q, 8, none⟩ (.int .i64 xn)).setCell ⟨q, 9, none⟩ (.string xt)).setCell ⟨q, 10, none⟩ (.int .i64 (N : Int))).setCell ⟨q, 11, none⟩ (.int .i64 (B : Int))) = Y9 ∧ Bx Y9 q [.int .i64 (K : Int), .int .i64 (M : Int), .int .i64 mk, .bool mb, .int .i64 mn, .string mt, .int .i64 xk, .bool xb, .int .i64 xn, .string xt, .int .i64 (N : Int), .int .i64 (B : Int)] ∧ Kp [q] T Y9 := ⟨_, rfl, gen12q (R := fun Y9 => Bx Y9 q [.int .i64 (K : Int), .int .i64 (M : Int), .int .i64 mk, .bool mb, .int .i64 mn, .string mt, .int .i64 xk, .bool xb, .int .i64 xn, .string xt, .int .i64 (N : Int), .int .i64 (B : Int)]) bRT.out rfl (.int .i64 (K : Int)) (.int .i64 (M : Int)) (.int .i64 mk) (.bool mb) (.int .i64 mn) (.string mt) (.int .i64 xk) (.bool xb) (.int .i64 xn) (.string xt) (.int .i64 (N : Int)) (.int .i64 (B : Int)) (fun Y9 b _ => b), gen12q (R := fun Y9 => Kp [q] T Y9) bRT.out rfl (.int .i64 (K : Int)) (.int .i64 (M : Int)) (.int .i64 mk) (.bool mb) (.int .i64 mn) (.string mt) (.int .i64 xk) (.bool xb) (.int .i64 xn) (.string xt) (.int .i64 (N : Int)) (.int .i64 (B : Int)) (fun Y9 _ k => k)⟩
  have r0 := bQ.get 0 _ rfl
  have r1 := bQ.get 1 _ rfl
  have r2 := bQ.get 2 _ rfl
  have r3 := bQ.get 3 _ rfl
  have r4 := bQ.get 4 _ rfl
  have r5 := bQ.get 5 _ rfl
  have r6 := bQ.get 6 _ rfl
  have r7 := bQ.get 7 _ rfl
  have r8 := bQ.get 8 _ rfl
  have r9 := bQ.get 9 _ rfl
  have r10 := bQ.get 10 _ rfl
  have r11 := bQ.get 11 _ rfl
  have kkQ := hid (kwT.out.trans kQ (fun x hx => .inr (by simp at hx; omega)))
  clear kQ bQ
  go_wp2_with fail
  refine bodyPost_ret (v := .tuple #[Inf.v ⟨(K : Int), (M : Int), ⟨mk, mb, mn, mt⟩, ⟨xk, xb, xn, xt⟩, (N : Int), (B : Int)⟩, .int .i64 ((AT : Int) + 2), .int .i64 0]) (by simp [results, Tryz.results24, go_sem, Inf.v, Inf.cs, r0, r1, r2, r3, r4, r5, r6, r7, r8, r9, r10, r11]) rfl ?_
  unfold HdP
  have e70 : hdP bs = (⟨(K : Int), (M : Int), ⟨mk, mb, mn, mt⟩, ⟨xk, xb, xn, xt⟩, (N : Int), (B : Int)⟩, AT + 2, 0) := by unfold hdP; rw [hsm.out]
  rw [e70]
  exact ⟨by simp, kkQ.out⟩
theorem rHead (a : Option Addr) (c : Nat) (bs : List UInt8) (w : World) (hs : Sees w a bs) (hl : bs.length ≤ c) (hm : c ≤ maxLen) (hb2 : bs.length ≤ 200000000000000) : Calls Tryz.prog 24 #[.slice a bs.length c] w (HdP (hdP bs) w) := by
  match hb : bs with
  | k :: m :: n :: r => exact rHeadL a c k m n r (k :: m :: n :: r) rfl w hs hl hm hb2
  | [] => exact rHeadS a c [] w hs hl hm (by simp)
  | [_] => exact rHeadS a c _ w hs hl hm (by simp)
  | [_, _] => exact rHeadS a c _ w hs hl hm (by simp)
end Go.Proofs.YtohbdbecioanaaaGreatDoor
end

section
namespace Go.Proofs.YtohbdbecioanaaaGreatDoor
open Go.RowKit Go.Hay
set_option linter.unusedVariables false
set_option linter.unusedSimpArgs false

theorem min_step (l : List Val) (j : Nat) : minTo l (j + 1 - 1) = if cmpV (l.getD j nv) (minTo l (j - 1)) < 0 then l.getD j nv else minTo l (j - 1) := by
  cases j with
  | zero => rw [if_neg (by show ¬ cmpV (l.getD 0 nv) (l.getD 0 nv) < 0; rw [cmp_self]; omega)]
  | succ j => rfl
theorem max_step (l : List Val) (j : Nat) : maxTo l (j + 1 - 1) = if 0 < cmpV (l.getD j nv) (maxTo l (j - 1)) then l.getD j nv else maxTo l (j - 1) := by
  cases j with
  | zero => rw [if_neg (by show ¬ 0 < cmpV (l.getD 0 nv) (l.getD 0 nv); rw [cmp_self]; omega)]
  | succ j => rfl
set_option maxHeartbeats 64000000 in
set_option maxRecDepth 100000 in
theorem rFacts (k : Int) (a : Option Addr) (ca : Nat) (l : List Val) (w : World) (ha : Vals w a l) (h0 : 0 < l.length) (hl : l.length ≤ 1000000) :
    Calls Tryz.prog 28 #[.int .i64 k, .slice a l.length ca] w fun e w' => e = .returned (Inf.v ⟨k, l.length, minV l, maxV l, nullsV l, 0⟩) ∧ Kp [] w w' := by
  obtain ⟨g, o, rfl, hdrop⟩ := ha.at 0 h0
  clear hdrop
  have hat : Hid (∀ W, Kp [] w W → ∀ j, j < l.length → W.cell? ⟨g, o + j * 4, none⟩ = some (.int .i64 (l.getD j nv).k) ∧ W.cell? ⟨g, o + j * 4 + 1, none⟩ = some (.bool (l.getD j nv).b) ∧ W.cell? ⟨g, o + j * 4 + 2, none⟩ = some (.int .i64 (l.getD j nv).n) ∧ W.cell? ⟨g, o + j * 4 + 3, none⟩ = some (.string (l.getD j nv).t)) := fun W kW j hj => by
    obtain ⟨_, _, e, y0, y1, y2, y3⟩ := (ha.kept kW).at j hj
    cases e
    have eg : l.getD j nv = l[j] := by simp [hj]
    rw [eg]
    exact ⟨y0, y1, y2, y3⟩
  have hnul : Hid (∀ j, j < l.length → nullsV (l.take (j + 1)) = nullsV (l.take j) + (if (l.getD j nv).k = 0 then 1 else 0)) := fun j hj => by
    have := nulls_take l j hj
    rw [this]
    simp [hj]
  obtain ⟨w0, hw0, kW0, bR⟩ : ∃ w0, w.alloc (.cells #[.int .i64 0, .int .i64 0, .int .i64 0, .bool false, .int .i64 0, .string ⟨#[]⟩, .int .i64 0, .bool false, .int .i64 0, .string ⟨#[]⟩, .int .i64 0, .int .i64 0] 59) = w0 ∧ Kp [] w w0 ∧ Bx w0 w.heap.size [.int .i64 0, .int .i64 0, .int .i64 0, .bool false, .int .i64 0, .string ⟨#[]⟩, .int .i64 0, .bool false, .int .i64 0, .string ⟨#[]⟩, .int .i64 0, .int .i64 0] := ⟨_, rfl, (Kp.refl _ _).alloc _, Bx.new w _ _⟩
  obtain ⟨q, hq⟩ : ∃ q, Hid (w.heap.size = q) := ⟨_, rfl⟩
  have hqw : w.heap.size ≤ q := by rw [hq.out]; omega
  rw [hq.out] at bR
  have hm0 : Hid (minTo l (0 - 1) = l.getD 0 nv) := rfl
  have hx0 : Hid (maxTo l (0 - 1) = l.getD 0 nv) := rfl
  have hfm : Hid (minV l = minTo l (l.length - 1)) := rfl
  have hfx : Hid (maxV l = maxTo l (l.length - 1)) := rfl
  obtain ⟨⟨zk, zb, zn, zt⟩, hz⟩ : ∃ m, Hid (l.getD 0 nv = m) := ⟨_, rfl⟩
  have hz0 := hat.out
  rw [hz.out] at hm0 hx0
  have hat0 : Hid (∀ W, Kp [] w W → (W.cell? ⟨g, o, none⟩ = some (.int .i64 zk) ∧ W.cell? ⟨g, o + 1, none⟩ = some (.bool zb) ∧ W.cell? ⟨g, o + 2, none⟩ = some (.int .i64 zn) ∧ W.cell? ⟨g, o + 3, none⟩ = some (.string zt))) := fun W kW => by
    have := hat.out W kW 0 h0
    rw [hz.out, Nat.zero_mul, Nat.add_zero] at this
    exact this
  have hbR := hid bR
  have hkw := hid kW0
  have hw0' := hid hw0
  clear bR kW0 hw0 ha hz0 hz
  go_enter Tryz.func28, Tryz.ntmps28
  go_wp2_with fail
  rw [hw0'.out, hq.out]
  have kd : Kp [] w0 w0.drew := (Kp.refl _ _).drew
  have kwd := hid (hkw.out.trans kd (by simp))
  have hS : Hid (∀ A, Kp [] w0 A → (A.cell? ⟨g, o, none⟩ = some (.int .i64 zk) ∧ A.cell? ⟨g, o + 1, none⟩ = some (.bool zb) ∧ A.cell? ⟨g, o + 2, none⟩ = some (.int .i64 zn) ∧ A.cell? ⟨g, o + 3, none⟩ = some (.string zt))) := fun A kA => hat0.out A (hkw.out.trans kA (by simp))
  have hbd := hid (hbR.out.kept kd (by simp) (hbR.out.lt (by simp)))
  refine wp_region_held_drew (S := (fun A => (A.cell? ⟨g, o, none⟩ = some (.int .i64 zk) ∧ A.cell? ⟨g, o + 1, none⟩ = some (.bool zb) ∧ A.cell? ⟨g, o + 2, none⟩ = some (.int .i64 zn) ∧ A.cell? ⟨g, o + 3, none⟩ = some (.string zt)))) (by kernel_rfl) ?_ (fun hHeld => ?_)
  · exact hS.out _ kd
  have hHeld' := hS.out _ kd
  have hkd := hid kd
  clear hHeld hHeld' kd hbR hkw hw0'
  have hHeld := hS.out _ hkd.out
  generalize w0.drew = wd at *
  have dl : (0 : Int) < (l.length : Int) := by omega
  have dl2 : ((0 : Nat) : Int) < (l.length : Int) := by omega
  refine wpAnyH_take (i := 0) (v := ?_) rfl (by kernel_rfl) (by kernel_rfl) (by kernel_rfl) (fun _ _ _ h => h) (Or.inl ⟨by rfl, ?_⟩) (by assumption) ?_
  rotate_left
  · intro w hSw; (try dsimp only at hSw); go_simp <;> with_reducible rfl
  try simp only [Act.put, List.getElem_toArray, List.getElem_cons_zero, List.getElem_cons_succ, List.setIfInBounds_toArray, List.set_cons_zero, List.set_cons_succ]
  refine wpAnyH_take (i := 1) (v := ?_) rfl (by kernel_rfl) (by kernel_rfl) (by kernel_rfl) (fun _ _ _ h => h) (Or.inl ⟨by rfl, ?_⟩) (by assumption) ?_
  rotate_left
  · intro w hSw; (try dsimp only at hSw); go_simp <;> with_reducible rfl
  try simp only [Act.put, List.getElem_toArray, List.getElem_cons_zero, List.getElem_cons_succ, List.setIfInBounds_toArray, List.set_cons_zero, List.set_cons_succ]
  refine wpAnyH_take (i := 2) (v := ?_) rfl (by kernel_rfl) (by kernel_rfl) (by kernel_rfl) (fun _ _ _ h => h) (Or.inl ⟨by rfl, ?_⟩) (by assumption) ?_
  rotate_left
  · intro w hSw; (try dsimp only at hSw); go_simp <;> with_reducible rfl
  try simp only [Act.put, List.getElem_toArray, List.getElem_cons_zero, List.getElem_cons_succ, List.setIfInBounds_toArray, List.set_cons_zero, List.set_cons_succ]
  refine wpAnyH_take (i := 3) (v := ?_) rfl (by kernel_rfl) (by kernel_rfl) (by kernel_rfl) (fun _ _ _ h => h) (Or.inl ⟨by rfl, ?_⟩) (by assumption) ?_
  rotate_left
  · intro w hSw; (try dsimp only at hSw); go_simp <;> with_reducible rfl
  try simp only [Act.put, List.getElem_toArray, List.getElem_cons_zero, List.getElem_cons_succ, List.setIfInBounds_toArray, List.set_cons_zero, List.set_cons_succ]
  refine wpAnyH_take (i := 4) (v := ?_) rfl (by kernel_rfl) (by kernel_rfl) (by kernel_rfl) (fun _ _ _ h => h) (Or.inl ⟨by rfl, ?_⟩) (by assumption) ?_
  rotate_left
  · intro w hSw; (try dsimp only at hSw); go_simp <;> with_reducible rfl
  try simp only [Act.put, List.getElem_toArray, List.getElem_cons_zero, List.getElem_cons_succ, List.setIfInBounds_toArray, List.set_cons_zero, List.set_cons_succ]
  refine wpAnyH_take (i := 5) (v := ?_) rfl (by kernel_rfl) (by kernel_rfl) (by kernel_rfl) (fun _ _ _ h => h) (Or.inl ⟨by rfl, ?_⟩) (by assumption) ?_
  rotate_left
  · intro w hSw; (try dsimp only at hSw); go_simp <;> with_reducible rfl
  try simp only [Act.put, List.getElem_toArray, List.getElem_cons_zero, List.getElem_cons_succ, List.setIfInBounds_toArray, List.set_cons_zero, List.set_cons_succ]
  refine wpAnyH_take (i := 6) (v := ?_) rfl (by kernel_rfl) (by kernel_rfl) (by kernel_rfl) (fun _ _ _ h => h) (Or.inl ⟨by rfl, ?_⟩) (by assumption) ?_
  rotate_left
  · intro w hSw; (try dsimp only at hSw); go_simp <;> with_reducible rfl
  try simp only [Act.put, List.getElem_toArray, List.getElem_cons_zero, List.getElem_cons_succ, List.setIfInBounds_toArray, List.set_cons_zero, List.set_cons_succ]
  refine wpAnyH_take (i := 7) (v := ?_) rfl (by kernel_rfl) (by kernel_rfl) (by kernel_rfl) (fun _ _ _ h => h) (Or.inl ⟨by rfl, ?_⟩) (by assumption) ?_
  rotate_left
  · intro w hSw; (try dsimp only at hSw); go_simp <;> with_reducible rfl
  try simp only [Act.put, List.getElem_toArray, List.getElem_cons_zero, List.getElem_cons_succ, List.setIfInBounds_toArray, List.set_cons_zero, List.set_cons_succ]
  refine wpAnyH_take (i := 8) (v := ?_) rfl (by kernel_rfl) (by kernel_rfl) (by kernel_rfl) (fun _ _ _ h => h) (Or.inl ⟨by rfl, ?_⟩) (by assumption) ?_
  rotate_left
  · intro w hSw; (try dsimp only at hSw); go_simp <;> with_reducible rfl
  try simp only [Act.put, List.getElem_toArray, List.getElem_cons_zero, List.getElem_cons_succ, List.setIfInBounds_toArray, List.set_cons_zero, List.set_cons_succ]
  refine wpAnyH_take (i := 9) (v := ?_) rfl (by kernel_rfl) (by kernel_rfl) (by kernel_rfl) (fun _ _ _ h => h) (Or.inl ⟨by rfl, ?_⟩) (by assumption) ?_
  rotate_left
  · intro w hSw; (try dsimp only at hSw); go_simp <;> with_reducible rfl
  try simp only [Act.put, List.getElem_toArray, List.getElem_cons_zero, List.getElem_cons_succ, List.setIfInBounds_toArray, List.set_cons_zero, List.set_cons_succ]
  obtain ⟨w1, hw1, k1, bI⟩ : ∃ w1, wd.alloc (.cells #[.int .i64 0, .int .i64 0, .int .i64 0, .bool false, .int .i64 0, .string ⟨#[]⟩, .int .i64 0, .bool false, .int .i64 0, .string ⟨#[]⟩, .int .i64 0, .int .i64 0] 59) = w1 ∧ Kp [] wd w1 ∧ Bx w1 wd.heap.size [.int .i64 0, .int .i64 0, .int .i64 0, .bool false, .int .i64 0, .string ⟨#[]⟩, .int .i64 0, .bool false, .int .i64 0, .string ⟨#[]⟩, .int .i64 0, .int .i64 0] := ⟨_, rfl, (Kp.refl _ _).alloc _, Bx.new wd _ _⟩
  obtain ⟨qi, hqi⟩ : ∃ q, Hid (wd.heap.size = q) := ⟨_, rfl⟩
  have hne : q ≠ qi := by rw [← hqi.out]; have := hbd.out.lt (by simp); omega
  have hqiw : w.heap.size ≤ qi := by rw [← hqi.out]; exact kwd.out.size
  rw [hqi.out] at bI
  have hw1' := hid hw1
  have hbI := hid bI
  have k1' := hid k1
  clear hw1 bI k1
  refine wpAnyH_ready (rs := [10]) (by kernel_rfl) (by simp) ?_
  refine AllReadyH.cons rfl (fun K hK => ?_) AllReadyH.nil
  go_simp
  rw [hw1'.out, hqi.out]
  refine hK.out _ _ ?_ (fun hHeld => ?_)
  · exact hS.out _ (hkd.out.trans k1'.out (by simp))
  clear hK K
  try simp only [Act.put, List.getElem_toArray, List.getElem_cons_zero, List.getElem_cons_succ, List.setIfInBounds_toArray, List.set_cons_zero, List.set_cons_succ]
  have p0 := hbI.out.get 0 _ rfl; have f0 := hbI.out.free 0
  have p1 := hbI.out.get 1 _ rfl; have f1 := hbI.out.free 1
  have p2 := hbI.out.get 2 _ rfl; have f2 := hbI.out.free 2
  have p3 := hbI.out.get 3 _ rfl; have f3 := hbI.out.free 3
  have p4 := hbI.out.get 4 _ rfl; have f4 := hbI.out.free 4
  have p5 := hbI.out.get 5 _ rfl; have f5 := hbI.out.free 5
  have p6 := hbI.out.get 6 _ rfl; have f6 := hbI.out.free 6
  have p7 := hbI.out.get 7 _ rfl; have f7 := hbI.out.free 7
  have p8 := hbI.out.get 8 _ rfl; have f8 := hbI.out.free 8
  have p9 := hbI.out.get 9 _ rfl; have f9 := hbI.out.free 9
  have p10 := hbI.out.get 10 _ rfl; have f10 := hbI.out.free 10
  have p11 := hbI.out.get 11 _ rfl; have f11 := hbI.out.free 11
  obtain ⟨W, hW, bW, kW⟩ : ∃ Y9, ((((((((((((w1.setCell ⟨qi, 0, none⟩ (.int .i64 k)).setCell ⟨qi, 1, none⟩ (.int .i64 (l.length : Int))).setCell ⟨qi, 2, none⟩ (.int .i64 zk)).setCell ⟨qi, 3, none⟩ (.bool zb)).setCell ⟨qi, 4, none⟩ (.int .i64 zn)).setCell ⟨qi, 5, none⟩ (.string zt)).setCell ⟨qi, 6, none⟩ (.int .i64 zk)).setCell ⟨qi, 7, none⟩ (.bool zb)).setCell ⟨qi, 8, none⟩ (.int .i64 zn)).setCell ⟨qi, 9, none⟩ (.string zt)).setCell ⟨qi, 10, none⟩ (.int .i64 0)).setCell ⟨qi, 11, none⟩ (.int .i64 0)) = Y9 ∧ Bx Y9 qi [.int .i64 k, .int .i64 (l.length : Int), .int .i64 zk, .bool zb, .int .i64 zn, .string zt, .int .i64 zk, .bool zb, .int .i64 zn, .string zt, .int .i64 0, .int .i64 0] ∧ Kp [qi] w1 Y9 := ⟨_, rfl, gen12q (R := fun Y9 => Bx Y9 qi [.int .i64 k, .int .i64 (l.length : Int), .int .i64 zk, .bool zb, .int .i64 zn, .string zt, .int .i64 zk, .bool zb, .int .i64 zn, .string zt, .int .i64 0, .int .i64 0]) hbI.out rfl (.int .i64 k) (.int .i64 (l.length : Int)) (.int .i64 zk) (.bool zb) (.int .i64 zn) (.string zt) (.int .i64 zk) (.bool zb) (.int .i64 zn) (.string zt) (.int .i64 0) (.int .i64 0) (fun Y9 b _ => b), gen12q (R := fun Y9 => Kp [qi] w1 Y9) hbI.out rfl (.int .i64 k) (.int .i64 (l.length : Int)) (.int .i64 zk) (.bool zb) (.int .i64 zn) (.string zt) (.int .i64 zk) (.bool zb) (.int .i64 zn) (.string zt) (.int .i64 0) (.int .i64 0) (fun Y9 _ k => k)⟩
  have hW' := hid hW
  refine wpAnyH_ready (rs := [11]) (by kernel_rfl) (by simp) ?_
  refine AllReadyH.cons rfl (fun K hK => ?_) AllReadyH.nil
  go_simp
  refine hK.out _ _ ?_ (fun hHeld => ?_)
  · exact hS.out _ ((hkd.out.trans k1'.out (by simp)).trans kW (fun x hx => .inr (by simp at hx; have := hkd.out.size; rw [hx, ← hqi.out]; omega)))
  clear hK K
  try simp only [Act.put, List.getElem_toArray, List.getElem_cons_zero, List.getElem_cons_succ, List.setIfInBounds_toArray, List.set_cons_zero, List.set_cons_succ]
  refine wpAnyH_done (by kernel_rfl) ?_ _
  have kwW := hid (((kwd.out.trans k1'.out (by simp)).trans kW (fun x hx => .inr (by simp at hx; omega))))
  have bRW := hid ((hbd.out.kept k1'.out (by simp) (hbd.out.lt (by simp))).kept kW (by simpa using hne) (by have := hbd.out.lt (by simp); have := k1'.out.size; omega))
  have hbW := hid bW
  clear p0 f0 p1 f1 p2 f2 p3 f3 p4 f4 p5 f5 p6 f6 p7 f7 p8 f8 p9 f9 p10 f10 p11 f11 hHeld hW hW' bW kW hS hbd hkd hbI hw1' k1' kwd hat0
  go_wp2_with fail
  go_loopw [6] (fun i wn => ∃ (j n : Nat) (m x : Val), j ≤ l.length ∧ i = .int .i64 (j : Int) ∧ Hid (minTo l (j - 1) = m) ∧ Hid (maxTo l (j - 1) = x) ∧ Hid (nullsV (l.take j) = n) ∧ n ≤ j ∧ Kp [] w wn ∧ Bx wn q [.int .i64 0, .int .i64 0, .int .i64 0, .bool false, .int .i64 0, .string ⟨#[]⟩, .int .i64 0, .bool false, .int .i64 0, .string ⟨#[]⟩, .int .i64 0, .int .i64 0] ∧ Bx wn qi [.int .i64 k, .int .i64 (l.length : Int), .int .i64 m.k, .bool m.b, .int .i64 m.n, .string m.t, .int .i64 x.k, .bool x.b, .int .i64 x.n, .string x.t, .int .i64 (n : Int), .int .i64 0]) (fun i _ => l.length - (intOf i).toNat)
  case atStart => exact ⟨0, 0, ⟨zk, zb, zn, zt⟩, ⟨zk, zb, zn, zt⟩, Nat.zero_le _, rfl, hm0, hx0, by show _ = _; simp [nullsV], Nat.le_refl _, kwW.out, bRW.out, hbW.out⟩
  case round =>
    clear kwW bRW hbW hm0 hx0
    obtain ⟨j, n, ⟨mk, mb, mn, mt⟩, ⟨xk, xb, xn, xt⟩, hj, rfl, hm, hx, hn, hnj, kn, bR, bQ⟩ := hrel
    dsimp only at bQ
    by_cases hlt : j < l.length
    · have hcy := hid (fun W kW => hat.out W kW j hlt)
      have hsm := hid (min_step l j)
      have hsx := hid (max_step l j)
      have hsn := hid (hnul.out j hlt)
      rw [hm.out] at hsm
      rw [hx.out] at hsx
      rw [hn.out] at hsn
      obtain ⟨⟨yk, yb, yn, yt⟩, hy⟩ : ∃ y, Hid (l.getD j nv = y) := ⟨_, rfl⟩
      rw [hy.out] at hsm hsx hsn
      simp only [hy.out] at hcy
      dsimp only at hsn
      have hCm := hid (fun W => cRefCompare ⟨yk, yb, yn, yt⟩ ⟨mk, mb, mn, mt⟩ W)
      have hCx := hid (fun W => cRefCompare ⟨yk, yb, yn, yt⟩ ⟨xk, xb, xn, xt⟩ W)
      obtain ⟨Cm, hcm⟩ : ∃ C, Hid (cmpV ⟨yk, yb, yn, yt⟩ ⟨mk, mb, mn, mt⟩ = C) := ⟨_, rfl⟩
      obtain ⟨Cx, hcx⟩ : ∃ C, Hid (cmpV ⟨yk, yb, yn, yt⟩ ⟨xk, xb, xn, xt⟩ = C) := ⟨_, rfl⟩
      simp only [hcm.out] at hCm hsm
      simp only [hcx.out] at hCx hsx
      unfold Val.v at hCm hCx
      dsimp only at hCm hCx hcy
      have djl : (j : Int) < (l.length : Int) := by omega
      have d00 : (0 : Int) ≤ (j : Int) := by omega
      have hbQ := hid bQ
      have hbR := hid bR
      have hkn := hid kn
      clear bQ bR kn hm hx hn hy hcm hcx
      go_wp2_with fail
      have kd : Kp [] wr wr.drew := (Kp.refl _ _).drew
      have hS : Hid (∀ A, Kp [] wr A → (A.cell? ⟨g, o + j * 4, none⟩ = some (.int .i64 yk) ∧ A.cell? ⟨g, o + j * 4 + 1, none⟩ = some (.bool yb) ∧ A.cell? ⟨g, o + j * 4 + 2, none⟩ = some (.int .i64 yn) ∧ A.cell? ⟨g, o + j * 4 + 3, none⟩ = some (.string yt)) ∧ (A.cell? ⟨qi, 2, none⟩ = some (.int .i64 mk) ∧ A.cell? ⟨qi, 3, none⟩ = some (.bool mb) ∧ A.cell? ⟨qi, 4, none⟩ = some (.int .i64 mn) ∧ A.cell? ⟨qi, 5, none⟩ = some (.string mt))) := fun A kA => ⟨hcy.out A (hkn.out.trans kA (by simp)), (hbQ.out.kept kA (by simp) (hbQ.out.lt (by simp))).get 2 _ rfl, (hbQ.out.kept kA (by simp) (hbQ.out.lt (by simp))).get 3 _ rfl, (hbQ.out.kept kA (by simp) (hbQ.out.lt (by simp))).get 4 _ rfl, (hbQ.out.kept kA (by simp) (hbQ.out.lt (by simp))).get 5 _ rfl⟩
      refine wp_region_held_drew (S := (fun A => (A.cell? ⟨g, o + j * 4, none⟩ = some (.int .i64 yk) ∧ A.cell? ⟨g, o + j * 4 + 1, none⟩ = some (.bool yb) ∧ A.cell? ⟨g, o + j * 4 + 2, none⟩ = some (.int .i64 yn) ∧ A.cell? ⟨g, o + j * 4 + 3, none⟩ = some (.string yt)) ∧ (A.cell? ⟨qi, 2, none⟩ = some (.int .i64 mk) ∧ A.cell? ⟨qi, 3, none⟩ = some (.bool mb) ∧ A.cell? ⟨qi, 4, none⟩ = some (.int .i64 mn) ∧ A.cell? ⟨qi, 5, none⟩ = some (.string mt)))) (by kernel_rfl) ?_ (fun hHeld => ?_)
      · exact hS.out _ kd
      have kdr := hid kd
      clear kd hHeld
      have hHeld := hS.out _ kdr.out
      generalize wr.drew = wd at *
      refine wpAnyH_take (i := 0) (v := ?_) rfl (by kernel_rfl) (by kernel_rfl) (by kernel_rfl) (fun _ _ _ h => h) (Or.inl ⟨by rfl, ?_⟩) (by assumption) ?_
      rotate_left
      · intro w hSw; (try dsimp only at hSw); go_simp <;> with_reducible rfl
      try simp only [Act.put, List.getElem_toArray, List.getElem_cons_zero, List.getElem_cons_succ, List.setIfInBounds_toArray, List.set_cons_zero, List.set_cons_succ]
      refine wpAnyH_take (i := 1) (v := ?_) rfl (by kernel_rfl) (by kernel_rfl) (by kernel_rfl) (fun _ _ _ h => h) (Or.inl ⟨by rfl, ?_⟩) (by assumption) ?_
      rotate_left
      · intro w hSw; (try dsimp only at hSw); go_simp <;> with_reducible rfl
      try simp only [Act.put, List.getElem_toArray, List.getElem_cons_zero, List.getElem_cons_succ, List.setIfInBounds_toArray, List.set_cons_zero, List.set_cons_succ]
      refine wpAnyH_take (i := 2) (v := ?_) rfl (by kernel_rfl) (by kernel_rfl) (by kernel_rfl) (fun _ _ _ h => h) (Or.inl ⟨by rfl, ?_⟩) (by assumption) ?_
      rotate_left
      · intro w hSw; (try dsimp only at hSw); go_simp <;> with_reducible rfl
      try simp only [Act.put, List.getElem_toArray, List.getElem_cons_zero, List.getElem_cons_succ, List.setIfInBounds_toArray, List.set_cons_zero, List.set_cons_succ]
      refine wpAnyH_take (i := 3) (v := ?_) rfl (by kernel_rfl) (by kernel_rfl) (by kernel_rfl) (fun _ _ _ h => h) (Or.inl ⟨by rfl, ?_⟩) (by assumption) ?_
      rotate_left
      · intro w hSw; (try dsimp only at hSw); go_simp <;> with_reducible rfl
      try simp only [Act.put, List.getElem_toArray, List.getElem_cons_zero, List.getElem_cons_succ, List.setIfInBounds_toArray, List.set_cons_zero, List.set_cons_succ]
      refine wpAnyH_take (i := 4) (v := ?_) rfl (by kernel_rfl) (by kernel_rfl) (by kernel_rfl) (fun _ _ _ h => h) (Or.inl ⟨by rfl, ?_⟩) (by assumption) ?_
      rotate_left
      · intro w hSw; (try dsimp only at hSw); go_simp <;> with_reducible rfl
      try simp only [Act.put, List.getElem_toArray, List.getElem_cons_zero, List.getElem_cons_succ, List.setIfInBounds_toArray, List.set_cons_zero, List.set_cons_succ]
      refine wpAnyH_take (i := 5) (v := ?_) rfl (by kernel_rfl) (by kernel_rfl) (by kernel_rfl) (fun _ _ _ h => h) (Or.inl ⟨by rfl, ?_⟩) (by assumption) ?_
      rotate_left
      · intro w hSw; (try dsimp only at hSw); go_simp <;> with_reducible rfl
      try simp only [Act.put, List.getElem_toArray, List.getElem_cons_zero, List.getElem_cons_succ, List.setIfInBounds_toArray, List.set_cons_zero, List.set_cons_succ]
      refine wpAnyH_ready (rs := [6]) (by kernel_rfl) (by simp) ?_
      refine AllReadyH.cons rfl (fun K hK => ?_) AllReadyH.nil
      go_simp
      refine (hCm.out wd).mono ?_
      rintro e w2 ⟨rfl, k2⟩
      (try go_wp2_with fail)
      refine hK.out _ _ ?_ (fun hHeld => ?_)
      · exact hS.out _ (kdr.out.trans k2 (by simp))
      clear hK K
      try simp only [Act.put, List.getElem_toArray, List.getElem_cons_zero, List.getElem_cons_succ, List.setIfInBounds_toArray, List.set_cons_zero, List.set_cons_succ]
      refine wpAnyH_take (i := 7) (v := ?_) rfl (by kernel_rfl) (by kernel_rfl) (by kernel_rfl) (fun _ _ _ h => h) (Or.inl ⟨by rfl, ?_⟩) (by assumption) ?_
      rotate_left
      · intro w hSw; (try dsimp only at hSw); go_simp <;> with_reducible rfl
      try simp only [Act.put, List.getElem_toArray, List.getElem_cons_zero, List.getElem_cons_succ, List.setIfInBounds_toArray, List.set_cons_zero, List.set_cons_succ]
      refine wpAnyH_done (by kernel_rfl) ?_ _
      have kw2 : Kp [] wr w2 := kdr.out.trans k2 (by simp)
      have hkn2 := hid (hkn.out.trans kw2 (by simp))
      have hbQ2 := hid (hbQ.out.kept kw2 (by simp) (hbQ.out.lt (by simp)))
      have hbR2 := hid (hbR.out.kept kw2 (by simp) (hbR.out.lt (by simp)))
      clear hHeld hS kdr k2 hkn hbQ hbR kw2
      have hkn := hkn2
      have hbQ := hbQ2
      have hbR := hbR2
      clear hkn2 hbQ2 hbR2
      by_cases hcc : Cm < 0
      · have hmN : Hid (minTo l (j + 1 - 1) = ⟨yk, yb, yn, yt⟩) := by show _ = _; rw [hsm.out, if_pos hcc]
        clear hsm
        obtain ⟨y0, y1, y2, y3⟩ := hcy.out w2 hkn.out
        have e0 := hbQ.out.get 2 _ rfl; have ef0 := hbQ.out.free 2
        have e1 := hbQ.out.get 3 _ rfl; have ef1 := hbQ.out.free 3
        have e2 := hbQ.out.get 4 _ rfl; have ef2 := hbQ.out.free 4
        have e3 := hbQ.out.get 5 _ rfl; have ef3 := hbQ.out.free 5
        go_wp2_with fail
        refine genS4 (R := fun W => Code.wp _ _ _ _ W) hbQ.out 2 3 4 5 (by simp) (by simp) (by simp) (by simp) _ _ _ _ ?_
        intro w3 bI kI
        have hkn2 := hid (hkn.out.trans kI (fun x hx => .inr (by simp at hx; omega)))
        have hbR2 := hid (hbR.out.kept kI (by simpa using hne) (hbR.out.lt (by simp)))
        have hbQ2 := hid (show Bx w3 qi [.int .i64 k, .int .i64 (l.length : Int), .int .i64 yk, .bool yb, .int .i64 yn, .string yt, .int .i64 xk, .bool xb, .int .i64 xn, .string xt, .int .i64 (n : Int), .int .i64 0] from bI)
        clear y0 y1 y2 y3 e0 e1 e2 e3 ef0 ef1 ef2 ef3 hkn hbQ hbR bI kI
        have hkn := hkn2
        have hbQ := hbQ2
        have hbR := hbR2
        clear hkn2 hbQ2 hbR2
        have kd : Kp [] w3 w3.drew := (Kp.refl _ _).drew
        have hS : Hid (∀ A, Kp [] w3 A → (A.cell? ⟨g, o + j * 4, none⟩ = some (.int .i64 yk) ∧ A.cell? ⟨g, o + j * 4 + 1, none⟩ = some (.bool yb) ∧ A.cell? ⟨g, o + j * 4 + 2, none⟩ = some (.int .i64 yn) ∧ A.cell? ⟨g, o + j * 4 + 3, none⟩ = some (.string yt)) ∧ (A.cell? ⟨qi, 6, none⟩ = some (.int .i64 xk) ∧ A.cell? ⟨qi, 7, none⟩ = some (.bool xb) ∧ A.cell? ⟨qi, 8, none⟩ = some (.int .i64 xn) ∧ A.cell? ⟨qi, 9, none⟩ = some (.string xt))) := fun A kA => ⟨hcy.out A (hkn.out.trans kA (by simp)), (hbQ.out.kept kA (by simp) (hbQ.out.lt (by simp))).get 6 _ rfl, (hbQ.out.kept kA (by simp) (hbQ.out.lt (by simp))).get 7 _ rfl, (hbQ.out.kept kA (by simp) (hbQ.out.lt (by simp))).get 8 _ rfl, (hbQ.out.kept kA (by simp) (hbQ.out.lt (by simp))).get 9 _ rfl⟩
        refine wp_region_held_drew (S := (fun A => (A.cell? ⟨g, o + j * 4, none⟩ = some (.int .i64 yk) ∧ A.cell? ⟨g, o + j * 4 + 1, none⟩ = some (.bool yb) ∧ A.cell? ⟨g, o + j * 4 + 2, none⟩ = some (.int .i64 yn) ∧ A.cell? ⟨g, o + j * 4 + 3, none⟩ = some (.string yt)) ∧ (A.cell? ⟨qi, 6, none⟩ = some (.int .i64 xk) ∧ A.cell? ⟨qi, 7, none⟩ = some (.bool xb) ∧ A.cell? ⟨qi, 8, none⟩ = some (.int .i64 xn) ∧ A.cell? ⟨qi, 9, none⟩ = some (.string xt)))) (by kernel_rfl) ?_ (fun hHeld => ?_)
        · exact hS.out _ kd
        have kdr := hid kd
        clear kd hHeld
        have hHeld := hS.out _ kdr.out
        generalize w3.drew = wd at *
        refine wpAnyH_take (i := 0) (v := ?_) rfl (by kernel_rfl) (by kernel_rfl) (by kernel_rfl) (fun _ _ _ h => h) (Or.inl ⟨by rfl, ?_⟩) (by assumption) ?_
        rotate_left
        · intro w hSw; (try dsimp only at hSw); go_simp <;> with_reducible rfl
        try simp only [Act.put, List.getElem_toArray, List.getElem_cons_zero, List.getElem_cons_succ, List.setIfInBounds_toArray, List.set_cons_zero, List.set_cons_succ]
        refine wpAnyH_take (i := 1) (v := ?_) rfl (by kernel_rfl) (by kernel_rfl) (by kernel_rfl) (fun _ _ _ h => h) (Or.inl ⟨by rfl, ?_⟩) (by assumption) ?_
        rotate_left
        · intro w hSw; (try dsimp only at hSw); go_simp <;> with_reducible rfl
        try simp only [Act.put, List.getElem_toArray, List.getElem_cons_zero, List.getElem_cons_succ, List.setIfInBounds_toArray, List.set_cons_zero, List.set_cons_succ]
        refine wpAnyH_take (i := 2) (v := ?_) rfl (by kernel_rfl) (by kernel_rfl) (by kernel_rfl) (fun _ _ _ h => h) (Or.inl ⟨by rfl, ?_⟩) (by assumption) ?_
        rotate_left
        · intro w hSw; (try dsimp only at hSw); go_simp <;> with_reducible rfl
        try simp only [Act.put, List.getElem_toArray, List.getElem_cons_zero, List.getElem_cons_succ, List.setIfInBounds_toArray, List.set_cons_zero, List.set_cons_succ]
        refine wpAnyH_take (i := 3) (v := ?_) rfl (by kernel_rfl) (by kernel_rfl) (by kernel_rfl) (fun _ _ _ h => h) (Or.inl ⟨by rfl, ?_⟩) (by assumption) ?_
        rotate_left
        · intro w hSw; (try dsimp only at hSw); go_simp <;> with_reducible rfl
        try simp only [Act.put, List.getElem_toArray, List.getElem_cons_zero, List.getElem_cons_succ, List.setIfInBounds_toArray, List.set_cons_zero, List.set_cons_succ]
        refine wpAnyH_take (i := 4) (v := ?_) rfl (by kernel_rfl) (by kernel_rfl) (by kernel_rfl) (fun _ _ _ h => h) (Or.inl ⟨by rfl, ?_⟩) (by assumption) ?_
        rotate_left
        · intro w hSw; (try dsimp only at hSw); go_simp <;> with_reducible rfl
        try simp only [Act.put, List.getElem_toArray, List.getElem_cons_zero, List.getElem_cons_succ, List.setIfInBounds_toArray, List.set_cons_zero, List.set_cons_succ]
        refine wpAnyH_take (i := 5) (v := ?_) rfl (by kernel_rfl) (by kernel_rfl) (by kernel_rfl) (fun _ _ _ h => h) (Or.inl ⟨by rfl, ?_⟩) (by assumption) ?_
        rotate_left
        · intro w hSw; (try dsimp only at hSw); go_simp <;> with_reducible rfl
        try simp only [Act.put, List.getElem_toArray, List.getElem_cons_zero, List.getElem_cons_succ, List.setIfInBounds_toArray, List.set_cons_zero, List.set_cons_succ]
        refine wpAnyH_ready (rs := [6]) (by kernel_rfl) (by simp) ?_
        refine AllReadyH.cons rfl (fun K hK => ?_) AllReadyH.nil
        go_simp
        refine (hCx.out wd).mono ?_
        rintro e w4a ⟨rfl, k2⟩
        (try go_wp2_with fail)
        refine hK.out _ _ ?_ (fun hHeld => ?_)
        · exact hS.out _ (kdr.out.trans k2 (by simp))
        clear hK K
        try simp only [Act.put, List.getElem_toArray, List.getElem_cons_zero, List.getElem_cons_succ, List.setIfInBounds_toArray, List.set_cons_zero, List.set_cons_succ]
        refine wpAnyH_take (i := 7) (v := ?_) rfl (by kernel_rfl) (by kernel_rfl) (by kernel_rfl) (fun _ _ _ h => h) (Or.inl ⟨by rfl, ?_⟩) (by assumption) ?_
        rotate_left
        · intro w hSw; (try dsimp only at hSw); go_simp <;> with_reducible rfl
        try simp only [Act.put, List.getElem_toArray, List.getElem_cons_zero, List.getElem_cons_succ, List.setIfInBounds_toArray, List.set_cons_zero, List.set_cons_succ]
        refine wpAnyH_done (by kernel_rfl) ?_ _
        have kw4a : Kp [] w3 w4a := kdr.out.trans k2 (by simp)
        have hkn2 := hid (hkn.out.trans kw4a (by simp))
        have hbQ2 := hid (hbQ.out.kept kw4a (by simp) (hbQ.out.lt (by simp)))
        have hbR2 := hid (hbR.out.kept kw4a (by simp) (hbR.out.lt (by simp)))
        clear hHeld hS kdr k2 hkn hbQ hbR kw4a
        have hkn := hkn2
        have hbQ := hbQ2
        have hbR := hbR2
        clear hkn2 hbQ2 hbR2
        by_cases hcc2 : 0 < Cx
        · have hxN : Hid (maxTo l (j + 1 - 1) = ⟨yk, yb, yn, yt⟩) := by show _ = _; rw [hsx.out, if_pos hcc2]
          have hcc2b : Cx > 0 := hcc2
          clear hsx
          obtain ⟨y0, y1, y2, y3⟩ := hcy.out w4a hkn.out
          have e0 := hbQ.out.get 6 _ rfl; have ef0 := hbQ.out.free 6
          have e1 := hbQ.out.get 7 _ rfl; have ef1 := hbQ.out.free 7
          have e2 := hbQ.out.get 8 _ rfl; have ef2 := hbQ.out.free 8
          have e3 := hbQ.out.get 9 _ rfl; have ef3 := hbQ.out.free 9
          obtain ⟨w5a, hw5a, bI, kI⟩ : ∃ Y9, ((((w4a.setCell ⟨qi, 6, none⟩ (.int .i64 yk)).setCell ⟨qi, 7, none⟩ (.bool yb)).setCell ⟨qi, 8, none⟩ (.int .i64 yn)).setCell ⟨qi, 9, none⟩ (.string yt)) = Y9 ∧ Bx Y9 qi [.int .i64 k, .int .i64 (l.length : Int), .int .i64 yk, .bool yb, .int .i64 yn, .string yt, .int .i64 yk, .bool yb, .int .i64 yn, .string yt, .int .i64 (n : Int), .int .i64 0] ∧ Kp [qi] w4a Y9 := ⟨_, rfl, genS4 (R := fun Y9 => Bx Y9 qi [.int .i64 k, .int .i64 (l.length : Int), .int .i64 yk, .bool yb, .int .i64 yn, .string yt, .int .i64 yk, .bool yb, .int .i64 yn, .string yt, .int .i64 (n : Int), .int .i64 0]) hbQ.out 6 7 8 9 (by simp) (by simp) (by simp) (by simp) (.int .i64 yk) (.bool yb) (.int .i64 yn) (.string yt) (fun Y9 b _ => b), genS4 (R := fun Y9 => Kp [qi] w4a Y9) hbQ.out 6 7 8 9 (by simp) (by simp) (by simp) (by simp) (.int .i64 yk) (.bool yb) (.int .i64 yn) (.string yt) (fun Y9 _ k => k)⟩
          have hkn2 := hid (hkn.out.trans kI (fun x hx => .inr (by simp at hx; omega)))
          have hbR2 := hid (hbR.out.kept kI (by simpa using hne) (hbR.out.lt (by simp)))
          have hbQ2 := hid bI
          clear hkn hbQ hbR bI kI
          have hkn := hkn2
          have hbQ := hbQ2
          have hbR := hbR2
          clear hkn2 hbQ2 hbR2
          obtain ⟨s0, _, _, _⟩ := hcy.out w5a hkn.out
          have hkN := hid hkn.out
          by_cases hv0 : yk = 0
          · have d0 : (yk == 0) = true := by simpa using hv0
            have hst2 : Hid (nullsV (l.take (j + 1)) = n + 1) := by show _ = _; rw [hsn.out, if_pos hv0]
            clear hv0
            have c10 := hbQ.out.get 10 _ rfl
            have f10 := hbQ.out.free 10
            have hB := hbQ.out.set 10 (by simp) (.int .i64 ((n : Int) + 1))
            have kS : Kp [qi] w5a (w5a.setCell ⟨qi, 10, none⟩ (.int .i64 ((n : Int) + 1))) := (Kp.refl [qi] w5a).setCell (p := ⟨qi, 10, none⟩) (.inl (by simp)) _
            have hA := hbR.out.kept kS (by simpa using hne) (hbR.out.lt (by simp))
            have kW := hkn.out.trans kS (fun x hx => .inr (by simp at hx; omega))
            have hN := hid (And.intro kW (And.intro hA hB))
            clear hsn hB hA kS kW
            go_wp2_with fail
            exact ⟨⟨j + 1, n + 1, ⟨yk, yb, yn, yt⟩, ⟨yk, yb, yn, yt⟩, by omega, by go_num, hmN, hxN, hst2, by omega, hN.out.1, hN.out.2.1, hN.out.2.2⟩, by simp [intOf]; omega⟩
          · have hst2 : Hid (nullsV (l.take (j + 1)) = n) := by show _ = _; rw [hsn.out, if_neg hv0]; rfl
            have d0 : (yk == 0) = false := by simpa using hv0
            clear hsn
            go_wp2_with fail
            exact ⟨⟨j + 1, n, ⟨yk, yb, yn, yt⟩, ⟨yk, yb, yn, yt⟩, by omega, by go_num, hmN, hxN, hst2, by omega, hkn.out, hbR.out, hbQ.out⟩, by simp [intOf]; omega⟩
        · have hxN : Hid (maxTo l (j + 1 - 1) = ⟨xk, xb, xn, xt⟩) := by show _ = _; rw [hsx.out, if_neg hcc2]
          clear hsx
          obtain ⟨s0, _, _, _⟩ := hcy.out w4a hkn.out
          have hkN := hid hkn.out
          by_cases hv0 : yk = 0
          · have d0 : (yk == 0) = true := by simpa using hv0
            have hst2 : Hid (nullsV (l.take (j + 1)) = n + 1) := by show _ = _; rw [hsn.out, if_pos hv0]
            clear hv0
            have c10 := hbQ.out.get 10 _ rfl
            have f10 := hbQ.out.free 10
            have hB := hbQ.out.set 10 (by simp) (.int .i64 ((n : Int) + 1))
            have kS : Kp [qi] w4a (w4a.setCell ⟨qi, 10, none⟩ (.int .i64 ((n : Int) + 1))) := (Kp.refl [qi] w4a).setCell (p := ⟨qi, 10, none⟩) (.inl (by simp)) _
            have hA := hbR.out.kept kS (by simpa using hne) (hbR.out.lt (by simp))
            have kW := hkn.out.trans kS (fun x hx => .inr (by simp at hx; omega))
            have hN := hid (And.intro kW (And.intro hA hB))
            clear hsn hB hA kS kW
            go_wp2_with fail
            exact ⟨⟨j + 1, n + 1, ⟨yk, yb, yn, yt⟩, ⟨xk, xb, xn, xt⟩, by omega, by go_num, hmN, hxN, hst2, by omega, hN.out.1, hN.out.2.1, hN.out.2.2⟩, by simp [intOf]; omega⟩
          · have hst2 : Hid (nullsV (l.take (j + 1)) = n) := by show _ = _; rw [hsn.out, if_neg hv0]; rfl
            have d0 : (yk == 0) = false := by simpa using hv0
            clear hsn
            go_wp2_with fail
            exact ⟨⟨j + 1, n, ⟨yk, yb, yn, yt⟩, ⟨xk, xb, xn, xt⟩, by omega, by go_num, hmN, hxN, hst2, by omega, hkn.out, hbR.out, hbQ.out⟩, by simp [intOf]; omega⟩
      · have hmN : Hid (minTo l (j + 1 - 1) = ⟨mk, mb, mn, mt⟩) := by show _ = _; rw [hsm.out, if_neg hcc]
        clear hsm
        go_wp2_with fail
        have kd : Kp [] w2 w2.drew := (Kp.refl _ _).drew
        have hS : Hid (∀ A, Kp [] w2 A → (A.cell? ⟨g, o + j * 4, none⟩ = some (.int .i64 yk) ∧ A.cell? ⟨g, o + j * 4 + 1, none⟩ = some (.bool yb) ∧ A.cell? ⟨g, o + j * 4 + 2, none⟩ = some (.int .i64 yn) ∧ A.cell? ⟨g, o + j * 4 + 3, none⟩ = some (.string yt)) ∧ (A.cell? ⟨qi, 6, none⟩ = some (.int .i64 xk) ∧ A.cell? ⟨qi, 7, none⟩ = some (.bool xb) ∧ A.cell? ⟨qi, 8, none⟩ = some (.int .i64 xn) ∧ A.cell? ⟨qi, 9, none⟩ = some (.string xt))) := fun A kA => ⟨hcy.out A (hkn.out.trans kA (by simp)), (hbQ.out.kept kA (by simp) (hbQ.out.lt (by simp))).get 6 _ rfl, (hbQ.out.kept kA (by simp) (hbQ.out.lt (by simp))).get 7 _ rfl, (hbQ.out.kept kA (by simp) (hbQ.out.lt (by simp))).get 8 _ rfl, (hbQ.out.kept kA (by simp) (hbQ.out.lt (by simp))).get 9 _ rfl⟩
        refine wp_region_held_drew (S := (fun A => (A.cell? ⟨g, o + j * 4, none⟩ = some (.int .i64 yk) ∧ A.cell? ⟨g, o + j * 4 + 1, none⟩ = some (.bool yb) ∧ A.cell? ⟨g, o + j * 4 + 2, none⟩ = some (.int .i64 yn) ∧ A.cell? ⟨g, o + j * 4 + 3, none⟩ = some (.string yt)) ∧ (A.cell? ⟨qi, 6, none⟩ = some (.int .i64 xk) ∧ A.cell? ⟨qi, 7, none⟩ = some (.bool xb) ∧ A.cell? ⟨qi, 8, none⟩ = some (.int .i64 xn) ∧ A.cell? ⟨qi, 9, none⟩ = some (.string xt)))) (by kernel_rfl) ?_ (fun hHeld => ?_)
        · exact hS.out _ kd
        have kdr := hid kd
        clear kd hHeld
        have hHeld := hS.out _ kdr.out
        generalize w2.drew = wd at *
        refine wpAnyH_take (i := 0) (v := ?_) rfl (by kernel_rfl) (by kernel_rfl) (by kernel_rfl) (fun _ _ _ h => h) (Or.inl ⟨by rfl, ?_⟩) (by assumption) ?_
        rotate_left
        · intro w hSw; (try dsimp only at hSw); go_simp <;> with_reducible rfl
        try simp only [Act.put, List.getElem_toArray, List.getElem_cons_zero, List.getElem_cons_succ, List.setIfInBounds_toArray, List.set_cons_zero, List.set_cons_succ]
        refine wpAnyH_take (i := 1) (v := ?_) rfl (by kernel_rfl) (by kernel_rfl) (by kernel_rfl) (fun _ _ _ h => h) (Or.inl ⟨by rfl, ?_⟩) (by assumption) ?_
        rotate_left
        · intro w hSw; (try dsimp only at hSw); go_simp <;> with_reducible rfl
        try simp only [Act.put, List.getElem_toArray, List.getElem_cons_zero, List.getElem_cons_succ, List.setIfInBounds_toArray, List.set_cons_zero, List.set_cons_succ]
        refine wpAnyH_take (i := 2) (v := ?_) rfl (by kernel_rfl) (by kernel_rfl) (by kernel_rfl) (fun _ _ _ h => h) (Or.inl ⟨by rfl, ?_⟩) (by assumption) ?_
        rotate_left
        · intro w hSw; (try dsimp only at hSw); go_simp <;> with_reducible rfl
        try simp only [Act.put, List.getElem_toArray, List.getElem_cons_zero, List.getElem_cons_succ, List.setIfInBounds_toArray, List.set_cons_zero, List.set_cons_succ]
        refine wpAnyH_take (i := 3) (v := ?_) rfl (by kernel_rfl) (by kernel_rfl) (by kernel_rfl) (fun _ _ _ h => h) (Or.inl ⟨by rfl, ?_⟩) (by assumption) ?_
        rotate_left
        · intro w hSw; (try dsimp only at hSw); go_simp <;> with_reducible rfl
        try simp only [Act.put, List.getElem_toArray, List.getElem_cons_zero, List.getElem_cons_succ, List.setIfInBounds_toArray, List.set_cons_zero, List.set_cons_succ]
        refine wpAnyH_take (i := 4) (v := ?_) rfl (by kernel_rfl) (by kernel_rfl) (by kernel_rfl) (fun _ _ _ h => h) (Or.inl ⟨by rfl, ?_⟩) (by assumption) ?_
        rotate_left
        · intro w hSw; (try dsimp only at hSw); go_simp <;> with_reducible rfl
        try simp only [Act.put, List.getElem_toArray, List.getElem_cons_zero, List.getElem_cons_succ, List.setIfInBounds_toArray, List.set_cons_zero, List.set_cons_succ]
        refine wpAnyH_take (i := 5) (v := ?_) rfl (by kernel_rfl) (by kernel_rfl) (by kernel_rfl) (fun _ _ _ h => h) (Or.inl ⟨by rfl, ?_⟩) (by assumption) ?_
        rotate_left
        · intro w hSw; (try dsimp only at hSw); go_simp <;> with_reducible rfl
        try simp only [Act.put, List.getElem_toArray, List.getElem_cons_zero, List.getElem_cons_succ, List.setIfInBounds_toArray, List.set_cons_zero, List.set_cons_succ]
        refine wpAnyH_ready (rs := [6]) (by kernel_rfl) (by simp) ?_
        refine AllReadyH.cons rfl (fun K hK => ?_) AllReadyH.nil
        go_simp
        refine (hCx.out wd).mono ?_
        rintro e w4b ⟨rfl, k2⟩
        (try go_wp2_with fail)
        refine hK.out _ _ ?_ (fun hHeld => ?_)
        · exact hS.out _ (kdr.out.trans k2 (by simp))
        clear hK K
        try simp only [Act.put, List.getElem_toArray, List.getElem_cons_zero, List.getElem_cons_succ, List.setIfInBounds_toArray, List.set_cons_zero, List.set_cons_succ]
        refine wpAnyH_take (i := 7) (v := ?_) rfl (by kernel_rfl) (by kernel_rfl) (by kernel_rfl) (fun _ _ _ h => h) (Or.inl ⟨by rfl, ?_⟩) (by assumption) ?_
        rotate_left
        · intro w hSw; (try dsimp only at hSw); go_simp <;> with_reducible rfl
        try simp only [Act.put, List.getElem_toArray, List.getElem_cons_zero, List.getElem_cons_succ, List.setIfInBounds_toArray, List.set_cons_zero, List.set_cons_succ]
        refine wpAnyH_done (by kernel_rfl) ?_ _
        have kw4b : Kp [] w2 w4b := kdr.out.trans k2 (by simp)
        have hkn2 := hid (hkn.out.trans kw4b (by simp))
        have hbQ2 := hid (hbQ.out.kept kw4b (by simp) (hbQ.out.lt (by simp)))
        have hbR2 := hid (hbR.out.kept kw4b (by simp) (hbR.out.lt (by simp)))
        clear hHeld hS kdr k2 hkn hbQ hbR kw4b
        have hkn := hkn2
        have hbQ := hbQ2
        have hbR := hbR2
        clear hkn2 hbQ2 hbR2
        by_cases hcc2 : 0 < Cx
        · have hxN : Hid (maxTo l (j + 1 - 1) = ⟨yk, yb, yn, yt⟩) := by show _ = _; rw [hsx.out, if_pos hcc2]
          have hcc2b : Cx > 0 := hcc2
          clear hsx
          obtain ⟨y0, y1, y2, y3⟩ := hcy.out w4b hkn.out
          have e0 := hbQ.out.get 6 _ rfl; have ef0 := hbQ.out.free 6
          have e1 := hbQ.out.get 7 _ rfl; have ef1 := hbQ.out.free 7
          have e2 := hbQ.out.get 8 _ rfl; have ef2 := hbQ.out.free 8
          have e3 := hbQ.out.get 9 _ rfl; have ef3 := hbQ.out.free 9
          obtain ⟨w5b, hw5b, bI, kI⟩ : ∃ Y9, ((((w4b.setCell ⟨qi, 6, none⟩ (.int .i64 yk)).setCell ⟨qi, 7, none⟩ (.bool yb)).setCell ⟨qi, 8, none⟩ (.int .i64 yn)).setCell ⟨qi, 9, none⟩ (.string yt)) = Y9 ∧ Bx Y9 qi [.int .i64 k, .int .i64 (l.length : Int), .int .i64 mk, .bool mb, .int .i64 mn, .string mt, .int .i64 yk, .bool yb, .int .i64 yn, .string yt, .int .i64 (n : Int), .int .i64 0] ∧ Kp [qi] w4b Y9 := ⟨_, rfl, genS4 (R := fun Y9 => Bx Y9 qi [.int .i64 k, .int .i64 (l.length : Int), .int .i64 mk, .bool mb, .int .i64 mn, .string mt, .int .i64 yk, .bool yb, .int .i64 yn, .string yt, .int .i64 (n : Int), .int .i64 0]) hbQ.out 6 7 8 9 (by simp) (by simp) (by simp) (by simp) (.int .i64 yk) (.bool yb) (.int .i64 yn) (.string yt) (fun Y9 b _ => b), genS4 (R := fun Y9 => Kp [qi] w4b Y9) hbQ.out 6 7 8 9 (by simp) (by simp) (by simp) (by simp) (.int .i64 yk) (.bool yb) (.int .i64 yn) (.string yt) (fun Y9 _ k => k)⟩
          have hkn2 := hid (hkn.out.trans kI (fun x hx => .inr (by simp at hx; omega)))
          have hbR2 := hid (hbR.out.kept kI (by simpa using hne) (hbR.out.lt (by simp)))
          have hbQ2 := hid bI
          clear hkn hbQ hbR bI kI
          have hkn := hkn2
          have hbQ := hbQ2
          have hbR := hbR2
          clear hkn2 hbQ2 hbR2
          obtain ⟨s0, _, _, _⟩ := hcy.out w5b hkn.out
          have hkN := hid hkn.out
          by_cases hv0 : yk = 0
          · have d0 : (yk == 0) = true := by simpa using hv0
            have hst2 : Hid (nullsV (l.take (j + 1)) = n + 1) := by show _ = _; rw [hsn.out, if_pos hv0]
            clear hv0
            have c10 := hbQ.out.get 10 _ rfl
            have f10 := hbQ.out.free 10
            have hB := hbQ.out.set 10 (by simp) (.int .i64 ((n : Int) + 1))
            have kS : Kp [qi] w5b (w5b.setCell ⟨qi, 10, none⟩ (.int .i64 ((n : Int) + 1))) := (Kp.refl [qi] w5b).setCell (p := ⟨qi, 10, none⟩) (.inl (by simp)) _
            have hA := hbR.out.kept kS (by simpa using hne) (hbR.out.lt (by simp))
            have kW := hkn.out.trans kS (fun x hx => .inr (by simp at hx; omega))
            have hN := hid (And.intro kW (And.intro hA hB))
            clear hsn hB hA kS kW
            go_wp2_with fail
            exact ⟨⟨j + 1, n + 1, ⟨mk, mb, mn, mt⟩, ⟨yk, yb, yn, yt⟩, by omega, by go_num, hmN, hxN, hst2, by omega, hN.out.1, hN.out.2.1, hN.out.2.2⟩, by simp [intOf]; omega⟩
          · have hst2 : Hid (nullsV (l.take (j + 1)) = n) := by show _ = _; rw [hsn.out, if_neg hv0]; rfl
            have d0 : (yk == 0) = false := by simpa using hv0
            clear hsn
            go_wp2_with fail
            exact ⟨⟨j + 1, n, ⟨mk, mb, mn, mt⟩, ⟨yk, yb, yn, yt⟩, by omega, by go_num, hmN, hxN, hst2, by omega, hkn.out, hbR.out, hbQ.out⟩, by simp [intOf]; omega⟩
        · have hxN : Hid (maxTo l (j + 1 - 1) = ⟨xk, xb, xn, xt⟩) := by show _ = _; rw [hsx.out, if_neg hcc2]
          clear hsx
          obtain ⟨s0, _, _, _⟩ := hcy.out w4b hkn.out
          have hkN := hid hkn.out
          by_cases hv0 : yk = 0
          · have d0 : (yk == 0) = true := by simpa using hv0
            have hst2 : Hid (nullsV (l.take (j + 1)) = n + 1) := by show _ = _; rw [hsn.out, if_pos hv0]
            clear hv0
            have c10 := hbQ.out.get 10 _ rfl
            have f10 := hbQ.out.free 10
            have hB := hbQ.out.set 10 (by simp) (.int .i64 ((n : Int) + 1))
            have kS : Kp [qi] w4b (w4b.setCell ⟨qi, 10, none⟩ (.int .i64 ((n : Int) + 1))) := (Kp.refl [qi] w4b).setCell (p := ⟨qi, 10, none⟩) (.inl (by simp)) _
            have hA := hbR.out.kept kS (by simpa using hne) (hbR.out.lt (by simp))
            have kW := hkn.out.trans kS (fun x hx => .inr (by simp at hx; omega))
            have hN := hid (And.intro kW (And.intro hA hB))
            clear hsn hB hA kS kW
            go_wp2_with fail
            exact ⟨⟨j + 1, n + 1, ⟨mk, mb, mn, mt⟩, ⟨xk, xb, xn, xt⟩, by omega, by go_num, hmN, hxN, hst2, by omega, hN.out.1, hN.out.2.1, hN.out.2.2⟩, by simp [intOf]; omega⟩
          · have hst2 : Hid (nullsV (l.take (j + 1)) = n) := by show _ = _; rw [hsn.out, if_neg hv0]; rfl
            have d0 : (yk == 0) = false := by simpa using hv0
            clear hsn
            go_wp2_with fail
            exact ⟨⟨j + 1, n, ⟨mk, mb, mn, mt⟩, ⟨xk, xb, xn, xt⟩, by omega, by go_num, hmN, hxN, hst2, by omega, hkn.out, hbR.out, hbQ.out⟩, by simp [intOf]; omega⟩
    · obtain rfl : j = l.length := by omega
      rw [List.take_length] at hn
      have hkn := hid kn
      have hbQ := hid bQ
      have p0 := bQ.get 0 _ rfl; have y0 := bR.get 0 _ rfl; have f0 := bR.free 0
      have p1 := bQ.get 1 _ rfl; have y1 := bR.get 1 _ rfl; have f1 := bR.free 1
      have p2 := bQ.get 2 _ rfl; have y2 := bR.get 2 _ rfl; have f2 := bR.free 2
      have p3 := bQ.get 3 _ rfl; have y3 := bR.get 3 _ rfl; have f3 := bR.free 3
      have p4 := bQ.get 4 _ rfl; have y4 := bR.get 4 _ rfl; have f4 := bR.free 4
      have p5 := bQ.get 5 _ rfl; have y5 := bR.get 5 _ rfl; have f5 := bR.free 5
      have p6 := bQ.get 6 _ rfl; have y6 := bR.get 6 _ rfl; have f6 := bR.free 6
      have p7 := bQ.get 7 _ rfl; have y7 := bR.get 7 _ rfl; have f7 := bR.free 7
      have p8 := bQ.get 8 _ rfl; have y8 := bR.get 8 _ rfl; have f8 := bR.free 8
      have p9 := bQ.get 9 _ rfl; have y9 := bR.get 9 _ rfl; have f9 := bR.free 9
      have p10 := bQ.get 10 _ rfl; have y10 := bR.get 10 _ rfl; have f10 := bR.free 10
      have p11 := bQ.get 11 _ rfl; have y11 := bR.get 11 _ rfl; have f11 := bR.free 11
      obtain ⟨W, hW, bW, kW⟩ : ∃ Y9, ((((((((((((wr.setCell ⟨q, 0, none⟩ (.int .i64 k)).setCell ⟨q, 1, none⟩ (.int .i64 (l.length : Int))).setCell ⟨q, 2, none⟩ (.int .i64 mk)).setCell ⟨q, 3, none⟩ (.bool mb)).setCell ⟨q, 4, none⟩ (.int .i64 mn)).setCell ⟨q, 5, none⟩ (.string mt)).setCell ⟨q, 6, none⟩ (.int .i64 xk)).setCell ⟨q, 7, none⟩ (.bool xb)).setCell ⟨q, 8, none⟩ (.int .i64 xn)).setCell ⟨q, 9, none⟩ (.string xt)).setCell ⟨q, 10, none⟩ (.int .i64 (n : Int))).setCell ⟨q, 11, none⟩ (.int .i64 0)) = Y9 ∧ Bx Y9 q [.int .i64 k, .int .i64 (l.length : Int), .int .i64 mk, .bool mb, .int .i64 mn, .string mt, .int .i64 xk, .bool xb, .int .i64 xn, .string xt, .int .i64 (n : Int), .int .i64 0] ∧ Kp [q] wr Y9 := ⟨_, rfl, gen12q (R := fun Y9 => Bx Y9 q [.int .i64 k, .int .i64 (l.length : Int), .int .i64 mk, .bool mb, .int .i64 mn, .string mt, .int .i64 xk, .bool xb, .int .i64 xn, .string xt, .int .i64 (n : Int), .int .i64 0]) bR rfl (.int .i64 k) (.int .i64 (l.length : Int)) (.int .i64 mk) (.bool mb) (.int .i64 mn) (.string mt) (.int .i64 xk) (.bool xb) (.int .i64 xn) (.string xt) (.int .i64 (n : Int)) (.int .i64 0) (fun Y9 b _ => b), gen12q (R := fun Y9 => Kp [q] wr Y9) bR rfl (.int .i64 k) (.int .i64 (l.length : Int)) (.int .i64 mk) (.bool mb) (.int .i64 mn) (.string mt) (.int .i64 xk) (.bool xb) (.int .i64 xn) (.string xt) (.int .i64 (n : Int)) (.int .i64 0) (fun Y9 _ k => k)⟩
      have kkW := hid (kn.trans kW (fun x hx => .inr (by simp at hx; omega)))
      have r0 := bW.get 0 _ rfl
      have r1 := bW.get 1 _ rfl
      have r2 := bW.get 2 _ rfl
      have r3 := bW.get 3 _ rfl
      have r4 := bW.get 4 _ rfl
      have r5 := bW.get 5 _ rfl
      have r6 := bW.get 6 _ rfl
      have r7 := bW.get 7 _ rfl
      have r8 := bW.get 8 _ rfl
      have r9 := bW.get 9 _ rfl
      have r10 := bW.get 10 _ rfl
      have r11 := bW.get 11 _ rfl
      clear bQ bR kn kW bW
      go_wp2_with fail
      refine bodyPost_ret (v := Inf.v ⟨k, l.length, ⟨mk, mb, mn, mt⟩, ⟨xk, xb, xn, xt⟩, n, 0⟩) (by simp [results, Tryz.results28, go_sem, Inf.v, Inf.cs, r0, r1, r2, r3, r4, r5, r6, r7, r8, r9, r10, r11]) rfl ⟨by rw [hfm.out, hm.out, hfx.out, hx.out, hn.out], kkW.out⟩
end Go.Proofs.YtohbdbecioanaaaGreatDoor
end

section
namespace Go.Proofs.YtohbdbecioanaaaGreatDoor
open Go.RowKit Go.Hay
set_option linter.unusedVariables false
set_option linter.unusedSimpArgs false

theorem eqv_sym (x y : Val) : x.eqv y = y.eqv x := by
  cases h : y.eqv x with
  | true => rw [eqv_iff] at h ⊢; exact h.symm
  | false =>
    cases h2 : x.eqv y with
    | false => rfl
    | true => rw [eqv_iff] at h2; rw [h2, eqv_iff.2 rfl] at h; cases h
theorem eqI_sym (i : Inf) (l : List Val) {k y : Int} (hk : i.kind = k) (hy : i.bytes = y) : Inf.eqI ⟨k, l.length, minV l, maxV l, nullsV l, y⟩ i = tellB i l := by
  subst hk hy
  rw [← eqI_tell]
  unfold Inf.eqI
  dsimp only
  rw [eqv_sym (minV l), eqv_sym (maxV l)]
  have hb : ∀ a b : Int, (a == b) = (b == a) := fun a b => by
    cases h : b == a with
    | true => rw [beq_iff_eq] at h ⊢; exact h.symm
    | false =>
      rw [beq_eq_false_iff_ne] at h ⊢
      exact fun e => h e.symm
  rw [hb (l.length : Int), hb (nullsV l : Int)]
set_option maxHeartbeats 8000000 in
set_option maxRecDepth 100000 in
theorem neR_run (a b : Inf) : ∃ X : Bool, Hid (X = !(a.eqI b)) ∧ ∀ w : World, (binOp .neq 59 a.v b.v).run Tryz.prog w = .ok (.bool X) w := by
  refine ⟨_, rfl, fun w => ?_⟩
  unfold Inf.v Inf.cs
  rw [run_neq_struct, run_equalIn_agg (ht := by kernel_rfl) (hp := by kernel_rfl)]
  simp only [Inf.eqI, Val.eqv]
  by_cases h0 : a.kind = b.kind
  · by_cases h1 : a.many = b.many
    · by_cases h2 : a.mn.k = b.mn.k
      · by_cases h3 : a.mn.b = b.mn.b
        · by_cases h4 : a.mn.n = b.mn.n
          · by_cases h5 : a.mn.t.toList = b.mn.t.toList
            · by_cases h6 : a.mx.k = b.mx.k
              · by_cases h7 : a.mx.b = b.mx.b
                · by_cases h8 : a.mx.n = b.mx.n
                  · by_cases h9 : a.mx.t.toList = b.mx.t.toList
                    · by_cases h10 : a.nulls = b.nulls
                      · by_cases h11 : a.bytes = b.bytes
                        · simp [go_sem, h0, h1, h2, h3, h4, h5, h6, h7, h8, h9, h10, h11]
                        · simp [go_sem, h0, h1, h2, h3, h4, h5, h6, h7, h8, h9, h10, h11]
                      · simp [go_sem, h0, h1, h2, h3, h4, h5, h6, h7, h8, h9, h10]
                    · simp [go_sem, h0, h1, h2, h3, h4, h5, h6, h7, h8, h9]
                  · simp [go_sem, h0, h1, h2, h3, h4, h5, h6, h7, h8]
                · simp [go_sem, h0, h1, h2, h3, h4, h5, h6, h7]
              · simp [go_sem, h0, h1, h2, h3, h4, h5, h6]
            · simp [go_sem, h0, h1, h2, h3, h4, h5]
          · simp [go_sem, h0, h1, h2, h3, h4]
        · simp [go_sem, h0, h1, h2, h3]
      · simp [go_sem, h0, h1, h2]
    · simp [go_sem, h0, h1]
  · simp [go_sem, h0]
set_option maxHeartbeats 16000000 in
set_option maxRecDepth 100000 in
theorem rReadN (a : Option Addr) (c : Nat) (bs : List UInt8) (w : World) (hs : Sees w a bs) (hl : bs.length ≤ c) (hm : c ≤ maxLen) (hb : bs.length ≤ 200000000000000) (hn : hdR bs = none) :
    Calls Tryz.prog 9 #[.slice a bs.length c] w (RdP ([], 0, 70) w) := by
  have cT := rHead a c bs w hs hl hm hb
  have hP : hdP bs = (zeroI, 0, 70) := by unfold hdP; rw [hn]
  rw [hP] at cT
  unfold HdP at cT
  rw [zeroI_v] at cT
  clear hs hn hP
  go_enter Tryz.func9, Tryz.ntmps9
  go_wp2_with fail
  refine cT.mono ?_
  rintro e w1 ⟨rfl, k1⟩
  obtain ⟨w2, hw2, k2, bI⟩ : ∃ w2, w1.alloc (.cells #[.int .i64 0, .int .i64 0, .int .i64 0, .bool false, .int .i64 0, .string ⟨#[]⟩, .int .i64 0, .bool false, .int .i64 0, .string ⟨#[]⟩, .int .i64 0, .int .i64 0] 59) = w2 ∧ Kp [] w1 w2 ∧ Bx w2 w1.heap.size [.int .i64 0, .int .i64 0, .int .i64 0, .bool false, .int .i64 0, .string ⟨#[]⟩, .int .i64 0, .bool false, .int .i64 0, .string ⟨#[]⟩, .int .i64 0, .int .i64 0] := ⟨_, rfl, (Kp.refl _ _).alloc _, Bx.new w1 _ _⟩
  obtain ⟨qi, hqi⟩ : ∃ q, Hid (w1.heap.size = q) := ⟨_, rfl⟩
  have hqiw : w.heap.size ≤ qi := by rw [← hqi.out]; exact k1.size
  rw [hqi.out] at bI
  have p0 := bI.get 0 _ rfl; have f0 := bI.free 0
  have p1 := bI.get 1 _ rfl; have f1 := bI.free 1
  have p2 := bI.get 2 _ rfl; have f2 := bI.free 2
  have p3 := bI.get 3 _ rfl; have f3 := bI.free 3
  have p4 := bI.get 4 _ rfl; have f4 := bI.free 4
  have p5 := bI.get 5 _ rfl; have f5 := bI.free 5
  have p6 := bI.get 6 _ rfl; have f6 := bI.free 6
  have p7 := bI.get 7 _ rfl; have f7 := bI.free 7
  have p8 := bI.get 8 _ rfl; have f8 := bI.free 8
  have p9 := bI.get 9 _ rfl; have f9 := bI.free 9
  have p10 := bI.get 10 _ rfl; have f10 := bI.free 10
  have p11 := bI.get 11 _ rfl; have f11 := bI.free 11
  obtain ⟨W, hW, bW, kW⟩ : ∃ Y9, ((((((((((((w2.setCell ⟨qi, 0, none⟩ (.int .i64 0)).setCell ⟨qi, 1, none⟩ (.int .i64 0)).setCell ⟨qi, 2, none⟩ (.int .i64 0)).setCell ⟨qi, 3, none⟩ (.bool false)).setCell ⟨qi, 4, none⟩ (.int .i64 0)).setCell ⟨qi, 5, none⟩ (.string ⟨#[]⟩)).setCell ⟨qi, 6, none⟩ (.int .i64 0)).setCell ⟨qi, 7, none⟩ (.bool false)).setCell ⟨qi, 8, none⟩ (.int .i64 0)).setCell ⟨qi, 9, none⟩ (.string ⟨#[]⟩)).setCell ⟨qi, 10, none⟩ (.int .i64 0)).setCell ⟨qi, 11, none⟩ (.int .i64 0)) = Y9 ∧ Bx Y9 qi [.int .i64 0, .int .i64 0, .int .i64 0, .bool false, .int .i64 0, .string ⟨#[]⟩, .int .i64 0, .bool false, .int .i64 0, .string ⟨#[]⟩, .int .i64 0, .int .i64 0] ∧ Kp [qi] w2 Y9 := ⟨_, rfl, gen12q (R := fun Y9 => Bx Y9 qi [.int .i64 0, .int .i64 0, .int .i64 0, .bool false, .int .i64 0, .string ⟨#[]⟩, .int .i64 0, .bool false, .int .i64 0, .string ⟨#[]⟩, .int .i64 0, .int .i64 0]) bI rfl (.int .i64 0) (.int .i64 0) (.int .i64 0) (.bool false) (.int .i64 0) (.string ⟨#[]⟩) (.int .i64 0) (.bool false) (.int .i64 0) (.string ⟨#[]⟩) (.int .i64 0) (.int .i64 0) (fun Y9 b _ => b), gen12q (R := fun Y9 => Kp [qi] w2 Y9) bI rfl (.int .i64 0) (.int .i64 0) (.int .i64 0) (.bool false) (.int .i64 0) (.string ⟨#[]⟩) (.int .i64 0) (.bool false) (.int .i64 0) (.string ⟨#[]⟩) (.int .i64 0) (.int .i64 0) (fun Y9 _ k => k)⟩
  have kkW := hid ((k1.trans k2 (by simp)).trans kW (fun x hx => .inr (by simp at hx; omega)))
  have hqi' := hqi.out
  clear cT k1 k2 bI kW bW
  go_wp2_with fail
  go_ret3
  exact rdP_no 70 kkW.out
set_option maxHeartbeats 32000000 in
set_option maxRecDepth 100000 in
theorem rReadS (a : Option Addr) (c : Nat) (bs : List UInt8) (w : World) (hs : Sees w a bs) (hl : bs.length ≤ c) (hm : c ≤ maxLen) (hb : bs.length ≤ 200000000000000)
    (K : Int) (M s n B : Nat) (mk : Int) (mb : Bool) (mn : Int) (mt : ByteArray) (xk : Int) (xb : Bool) (xn : Int) (xt : ByteArray) (NN : Int)
    (hn : hdR bs = some (⟨K, (M : Int), ⟨mk, mb, mn, mt⟩, ⟨xk, xb, xn, xt⟩, NN, (B : Int)⟩, s)) (hB : n + 4 = B) (hBl : B ≤ bs.length) (hsn : s ≤ n) (hs0 : 0 < s) (hM0 : 0 < M) (hM : M ≤ 64) :
    Calls Tryz.prog 9 #[.slice a bs.length c] w (RdP (rdR bs) w) := by
  have cT := rHead a c bs w hs hl hm hb
  have hP : hdP bs = (⟨K, (M : Int), ⟨mk, mb, mn, mt⟩, ⟨xk, xb, xn, xt⟩, NN, (B : Int)⟩, s, 0) := by unfold hdP; rw [hn]
  rw [hP] at cT
  unfold HdP Inf.v Inf.cs at cT
  dsimp only at cT
  have hrd : Hid (rdR bs = if num ((bs.drop n).take 4) ≠ crc (bs.take n) then ([], 0, 71) else if (decA K ((bs.take n).drop s) M).2 = 0 ∧ tellB ⟨K, (M : Int), ⟨mk, mb, mn, mt⟩, ⟨xk, xb, xn, xt⟩, NN, (B : Int)⟩ (decA K ((bs.take n).drop s) M).1 = true then ((decA K ((bs.take n).drop s) M).1, B, 0) else ([], 0, 70)) := by
    show _ = _
    unfold rdR
    rw [hn]
    dsimp only
    rw [Int.toNat_natCast, Int.toNat_natCast, show B - 4 = n by omega]
  obtain ⟨g, o, rfl, hc⟩ : ∃ g o, a = some ⟨g, o, none⟩ ∧ ∀ j u, bs[j]? = some u → w.cell? ⟨g, o + j, none⟩ = some (.int .u8 u.toNat) := by
    rcases hs with h | h
    · rw [h] at hBl; simp at hBl; omega
    · exact h
  have hs' : Sees w (some ⟨g, o, none⟩) bs := .inr ⟨g, o, rfl, hc⟩
  have s4 : Sees w (some ⟨g, o + n, none⟩) ((bs.drop n).take 4) := by have := (hs'.tail n).front 4; simpa [Addr.add_lit] using this
  have l4 : ((bs.drop n).take 4).length = 4 := by rw [List.length_take, List.length_drop]; omega
  have sn : Sees w (some ⟨g, o, none⟩) (bs.take n) := hs'.front n
  have ln : (bs.take n).length = n := by rw [List.length_take]; omega
  have sD : Sees w (some ⟨g, o + s, none⟩) ((bs.take n).drop s) := by have := sn.tail s; simpa [Addr.add_lit] using this
  have lD : ((bs.take n).drop s).length = n - s := by rw [List.length_drop, ln]
  have hcR : Hid (∀ W, Kp [] w W → Calls Tryz.prog 25 #[.slice (some ⟨g, o + n, none⟩) 4 (c - n)] W fun e w' => e = .returned (.int .u64 (num ((bs.drop n).take 4))) ∧ w' = W) := fun W kW => cRefSaid (some ⟨g, o + n, none⟩) 4 (c - n) ((bs.drop n).take 4) W (s4.kept kW (by simp)) l4.symm (by omega)
  have hcS : Hid (∀ W, Kp [] w W → Calls Tryz.prog 26 #[.slice (some ⟨g, o, none⟩) n c] W fun e w' => e = .returned (.int .u32 (crc (bs.take n))) ∧ w' = W) := fun W kW => cRefSum (some ⟨g, o, none⟩) n c (bs.take n) W (sn.kept kW (by simp)) ln.symm (by omega)
  have hcD : Hid (∀ W, Kp [] w W → Calls Tryz.prog 27 #[.int .i64 K, .slice (some ⟨g, o + s, none⟩) (n - s) (c - s), .int .i64 (M : Int)] W (DecP W (decA K ((bs.take n).drop s) M))) := fun W kW => by
    have := cRefDec K (some ⟨g, o + s, none⟩) (c - s) ((bs.take n).drop s) (M : Int) W (sD.kept kW (by simp)) (by rw [lD]; omega) (by omega) (by rw [lD]; omega)
    have ed : decI K ((bs.take n).drop s) (M : Int) = decA K ((bs.take n).drop s) M := by
      unfold decI
      by_cases hk : knownB K = false
      · rw [if_pos hk]; unfold decA; rw [if_pos hk]
      · rw [if_neg hk, if_neg (by omega), Int.toNat_natCast]
    rwa [lD, ed] at this
  have hb4 := num_lt_of ((bs.drop n).take 4) 4 (by omega)
  have hbc := crc_lt (bs.take n)
  have hMn : Hid (∀ l, (decA K ((bs.take n).drop s) M).2 = 0 → (decA K ((bs.take n).drop s) M).1 = l → l.length = M) := fun l h1 h2 => by
    subst h2
    unfold decA at h1 ⊢
    split at h1
    · simp at h1
    · split at h1
      · simp at h1
      · unfold decE at h1 ⊢
        split at h1
        · rename_i q1 q2 q3
          rw [if_neg q1, if_neg q2, if_pos q3]
          exact q3.2.1
        · simp at h1
  obtain ⟨N4, hN4⟩ : ∃ x : Nat, Hid (num ((bs.drop n).take 4) = x) := ⟨_, rfl⟩
  obtain ⟨CR, hCR⟩ : ∃ x : Nat, Hid (crc (bs.take n) = x) := ⟨_, rfl⟩
  simp only [hN4.out] at hcR
  rw [hN4.out] at hb4
  rw [hCR.out] at hbc
  simp only [hCR.out] at hcS
  rw [hN4.out, hCR.out] at hrd
  obtain ⟨⟨L, DE⟩, hDD⟩ : ∃ r, Hid (decA K ((bs.take n).drop s) M = r) := ⟨_, rfl⟩
  simp only [hDD.out] at hcD hMn hrd
  unfold DecP at hcD
  dsimp only at hcD hMn hrd
  unfold maxLen at hm
  clear hs hs' hc s4 sn sD l4 ln lD hn hP hN4 hCR hDD
  go_enter Tryz.func9, Tryz.ntmps9
  go_wp2_with fail
  refine cT.mono ?_
  rintro e w1 ⟨rfl, k1⟩
  obtain ⟨w2, hw2, k2, bI⟩ : ∃ w2, w1.alloc (.cells #[.int .i64 0, .int .i64 0, .int .i64 0, .bool false, .int .i64 0, .string ⟨#[]⟩, .int .i64 0, .bool false, .int .i64 0, .string ⟨#[]⟩, .int .i64 0, .int .i64 0] 59) = w2 ∧ Kp [] w1 w2 ∧ Bx w2 w1.heap.size [.int .i64 0, .int .i64 0, .int .i64 0, .bool false, .int .i64 0, .string ⟨#[]⟩, .int .i64 0, .bool false, .int .i64 0, .string ⟨#[]⟩, .int .i64 0, .int .i64 0] := ⟨_, rfl, (Kp.refl _ _).alloc _, Bx.new w1 _ _⟩
  obtain ⟨qi, hqi⟩ : ∃ q, Hid (w1.heap.size = q) := ⟨_, rfl⟩
  have hqiw : w.heap.size ≤ qi := by rw [← hqi.out]; exact k1.size
  rw [hqi.out] at bI
  have p0 := bI.get 0 _ rfl; have f0 := bI.free 0
  have p1 := bI.get 1 _ rfl; have f1 := bI.free 1
  have p2 := bI.get 2 _ rfl; have f2 := bI.free 2
  have p3 := bI.get 3 _ rfl; have f3 := bI.free 3
  have p4 := bI.get 4 _ rfl; have f4 := bI.free 4
  have p5 := bI.get 5 _ rfl; have f5 := bI.free 5
  have p6 := bI.get 6 _ rfl; have f6 := bI.free 6
  have p7 := bI.get 7 _ rfl; have f7 := bI.free 7
  have p8 := bI.get 8 _ rfl; have f8 := bI.free 8
  have p9 := bI.get 9 _ rfl; have f9 := bI.free 9
  have p10 := bI.get 10 _ rfl; have f10 := bI.free 10
  have p11 := bI.get 11 _ rfl; have f11 := bI.free 11
  obtain ⟨W, hW, bW, kW⟩ : ∃ Y9, ((((((((((((w2.setCell ⟨qi, 0, none⟩ (.int .i64 K)).setCell ⟨qi, 1, none⟩ (.int .i64 (M : Int))).setCell ⟨qi, 2, none⟩ (.int .i64 mk)).setCell ⟨qi, 3, none⟩ (.bool mb)).setCell ⟨qi, 4, none⟩ (.int .i64 mn)).setCell ⟨qi, 5, none⟩ (.string mt)).setCell ⟨qi, 6, none⟩ (.int .i64 xk)).setCell ⟨qi, 7, none⟩ (.bool xb)).setCell ⟨qi, 8, none⟩ (.int .i64 xn)).setCell ⟨qi, 9, none⟩ (.string xt)).setCell ⟨qi, 10, none⟩ (.int .i64 NN)).setCell ⟨qi, 11, none⟩ (.int .i64 (B : Int))) = Y9 ∧ Bx Y9 qi [.int .i64 K, .int .i64 (M : Int), .int .i64 mk, .bool mb, .int .i64 mn, .string mt, .int .i64 xk, .bool xb, .int .i64 xn, .string xt, .int .i64 NN, .int .i64 (B : Int)] ∧ Kp [qi] w2 Y9 := ⟨_, rfl, gen12q (R := fun Y9 => Bx Y9 qi [.int .i64 K, .int .i64 (M : Int), .int .i64 mk, .bool mb, .int .i64 mn, .string mt, .int .i64 xk, .bool xb, .int .i64 xn, .string xt, .int .i64 NN, .int .i64 (B : Int)]) bI rfl (.int .i64 K) (.int .i64 (M : Int)) (.int .i64 mk) (.bool mb) (.int .i64 mn) (.string mt) (.int .i64 xk) (.bool xb) (.int .i64 xn) (.string xt) (.int .i64 NN) (.int .i64 (B : Int)) (fun Y9 b _ => b), gen12q (R := fun Y9 => Kp [qi] w2 Y9) bI rfl (.int .i64 K) (.int .i64 (M : Int)) (.int .i64 mk) (.bool mb) (.int .i64 mn) (.string mt) (.int .i64 xk) (.bool xb) (.int .i64 xn) (.string xt) (.int .i64 NN) (.int .i64 (B : Int)) (fun Y9 _ k => k)⟩
  have kkW := hid ((k1.trans k2 (by simp)).trans kW (fun x hx => .inr (by simp at hx; omega)))
  have hbW := hid bW
  have u11 := bW.get 11 _ rfl
  have hqi' := hqi.out
  have hB4 : (B : Int) - 4 = (n : Int) := by omega
  clear cT k1 k2 bI kW bW
  go_wp2_with fail
  clear p0 f0 p1 f1 p2 f2 p3 f3 p4 f4 p5 f5 p6 f6 p7 f7 p8 f8 p9 f9 p10 f10 p11 f11 hW hqi' hw2 hB4 u11
  have kd : Kp [] W W.drew := (Kp.refl _ _).drew
  have hS : Hid (∀ A, Kp [] W A → A.cell? ⟨qi, 11, none⟩ = some (.int .i64 (B : Int))) := fun A kA => (hbW.out.kept kA (by simp) (hbW.out.lt (by simp))).get 11 _ rfl
  refine wp_region_held_drew (S := (fun A => A.cell? ⟨qi, 11, none⟩ = some (.int .i64 (B : Int)))) (by kernel_rfl) ?_ (fun hHeld => ?_)
  · exact hS.out _ kd
  have kwd := hid (kkW.out.trans kd (by simp))
  have hWd : Hid (Kp [] W W.drew) := kd
  clear kd
  generalize W.drew = wd at *
  have y1 : (0 : Int) ≤ (n : Int) := by omega
  have yc : IntKind.u64.wrap (CR : Int) = (CR : Int) := by rw [IntKind.wrap_u64]; omega
  have y2 : (n : Int) ≤ (B : Int) := by omega
  have y3 : (B : Int) ≤ (c : Int) := by omega
  have y4 : n ≤ B := by omega
  have y5 : B ≤ c := by omega
  have y6 : n < c := by omega
  have y7 : (n : Int) ≤ (c : Int) := by omega
  have y8 : B - n = 4 := by omega
  have y9 : n ≠ c := by omega
  have y10 : n ≤ c := by omega
  have y11 : c ≠ n := by omega
  refine wpAnyH_take (i := 0) (v := ?_) rfl (by kernel_rfl) (by kernel_rfl) (by kernel_rfl) (fun _ _ _ h => h) (Or.inl ⟨by rfl, ?_⟩) (by assumption) ?_
  rotate_left
  · intro w hSw; (try dsimp only at hSw); go_simp <;> with_reducible rfl
  try simp only [Act.put, List.getElem_toArray, List.getElem_cons_zero, List.getElem_cons_succ, List.setIfInBounds_toArray, List.set_cons_zero, List.set_cons_succ]
  refine wpAnyH_take (i := 1) (v := ?_) rfl (by kernel_rfl) (by kernel_rfl) (by kernel_rfl) (fun _ _ _ h => h) (Or.inl ⟨by rfl, ?_⟩) (by assumption) ?_
  rotate_left
  · intro w hSw; (try dsimp only at hSw); go_simp <;> with_reducible rfl
  try simp only [Act.put, List.getElem_toArray, List.getElem_cons_zero, List.getElem_cons_succ, List.setIfInBounds_toArray, List.set_cons_zero, List.set_cons_succ]
  refine wpAnyH_take (i := 2) (v := ?_) rfl (by kernel_rfl) (by kernel_rfl) (by kernel_rfl) (fun _ _ _ h => h) (Or.inl ⟨by rfl, ?_⟩) (by assumption) ?_
  rotate_left
  · intro w hSw; (try dsimp only at hSw); go_simp <;> with_reducible rfl
  try simp only [Act.put, List.getElem_toArray, List.getElem_cons_zero, List.getElem_cons_succ, List.setIfInBounds_toArray, List.set_cons_zero, List.set_cons_succ]
  refine wpAnyH_take (i := 3) (v := ?_) rfl (by kernel_rfl) (by kernel_rfl) (by kernel_rfl) (fun _ _ _ h => h) (Or.inl ⟨by rfl, ?_⟩) (by assumption) ?_
  rotate_left
  · intro w hSw; (try dsimp only at hSw); go_simp <;> with_reducible rfl
  try simp only [Act.put, List.getElem_toArray, List.getElem_cons_zero, List.getElem_cons_succ, List.setIfInBounds_toArray, List.set_cons_zero, List.set_cons_succ]
  refine wpAnyH_take (i := 4) (v := ?_) rfl (by kernel_rfl) (by kernel_rfl) (by kernel_rfl) (fun _ _ _ h => h) (Or.inl ⟨by rfl, ?_⟩) (by assumption) ?_
  rotate_left
  · intro w hSw; (try dsimp only at hSw); go_simp <;> with_reducible rfl
  try simp only [Act.put, List.getElem_toArray, List.getElem_cons_zero, List.getElem_cons_succ, List.setIfInBounds_toArray, List.set_cons_zero, List.set_cons_succ]
  refine wpAnyH_take (i := 6) (v := ?_) rfl (by kernel_rfl) (by kernel_rfl) (by kernel_rfl) (fun _ _ _ h => h) (Or.inl ⟨by rfl, ?_⟩) (by assumption) ?_
  rotate_left
  · intro w hSw; (try dsimp only at hSw); go_simp <;> with_reducible rfl
  try simp only [Act.put, List.getElem_toArray, List.getElem_cons_zero, List.getElem_cons_succ, List.setIfInBounds_toArray, List.set_cons_zero, List.set_cons_succ]
  refine wpAnyH_take (i := 7) (v := ?_) rfl (by kernel_rfl) (by kernel_rfl) (by kernel_rfl) (fun _ _ _ h => h) (Or.inl ⟨by rfl, ?_⟩) (by assumption) ?_
  rotate_left
  · intro w hSw; (try dsimp only at hSw); go_simp <;> with_reducible rfl
  try simp only [Act.put, List.getElem_toArray, List.getElem_cons_zero, List.getElem_cons_succ, List.setIfInBounds_toArray, List.set_cons_zero, List.set_cons_succ]
  refine wpAnyH_take (i := 8) (v := ?_) rfl (by kernel_rfl) (by kernel_rfl) (by kernel_rfl) (fun _ _ _ h => h) (Or.inl ⟨by rfl, ?_⟩) (by assumption) ?_
  rotate_left
  · intro w hSw; (try dsimp only at hSw); go_simp <;> with_reducible rfl
  try simp only [Act.put, List.getElem_toArray, List.getElem_cons_zero, List.getElem_cons_succ, List.setIfInBounds_toArray, List.set_cons_zero, List.set_cons_succ]
  refine wpAnyH_ready (rs := [5]) (by kernel_rfl) (by simp) ?_
  refine AllReadyH.cons rfl (fun K hK => ?_) AllReadyH.nil
  go_simp
  refine (hcR.out wd kwd.out).mono ?_
  rintro e w5 ⟨rfl, hw5⟩
  rw [hw5]
  (try go_wp2_with fail)
  refine hK.out _ _ ?_ (fun hHeld => ?_)
  · exact hS.out _ hWd.out
  clear hK K
  try simp only [Act.put, List.getElem_toArray, List.getElem_cons_zero, List.getElem_cons_succ, List.setIfInBounds_toArray, List.set_cons_zero, List.set_cons_succ]
  have kw6 := hid kwd.out
  refine wpAnyH_ready (rs := [9]) (by kernel_rfl) (by simp) ?_
  refine AllReadyH.cons rfl (fun K hK => ?_) AllReadyH.nil
  go_simp
  refine (hcS.out wd kwd.out).mono ?_
  rintro e w6 ⟨rfl, hw6⟩
  rw [hw6]
  (try go_wp2_with fail)
  refine hK.out _ _ ?_ (fun hHeld => ?_)
  · exact hS.out _ hWd.out
  clear hK K
  try simp only [Act.put, List.getElem_toArray, List.getElem_cons_zero, List.getElem_cons_succ, List.setIfInBounds_toArray, List.set_cons_zero, List.set_cons_succ]
  refine wpAnyH_take (i := 10) (v := ?_) rfl (by kernel_rfl) (by kernel_rfl) (by kernel_rfl) (fun _ _ _ h => h) (Or.inl ⟨by rfl, ?_⟩) (by assumption) ?_
  rotate_left
  · intro w hSw; (try dsimp only at hSw); go_simp <;> with_reducible rfl
  try simp only [Act.put, List.getElem_toArray, List.getElem_cons_zero, List.getElem_cons_succ, List.setIfInBounds_toArray, List.set_cons_zero, List.set_cons_succ]
  refine wpAnyH_take (i := 11) (v := ?_) rfl (by kernel_rfl) (by kernel_rfl) (by kernel_rfl) (fun _ _ _ h => h) (Or.inl ⟨by rfl, ?_⟩) (by assumption) ?_
  rotate_left
  · intro w hSw; (try dsimp only at hSw); go_simp <;> with_reducible rfl
  try simp only [Act.put, List.getElem_toArray, List.getElem_cons_zero, List.getElem_cons_succ, List.setIfInBounds_toArray, List.set_cons_zero, List.set_cons_succ]
  refine wpAnyH_done (by kernel_rfl) ?_ _
  have b6 := hid (hbW.out.kept hWd.out (by simp) (hbW.out.lt (by simp)))
  clear hHeld
  generalize hww6 : wd = w6 at *
  clear y2 y3 y4 y5 y8 hS hcR hcS
  by_cases hne : N4 = CR
  · have d1 : ((N4 : Int) != (CR : Int)) = false := by simp [hne]
    have hrd2 : Hid (rdR bs = if DE = 0 ∧ tellB ⟨K, (M : Int), ⟨mk, mb, mn, mt⟩, ⟨xk, xb, xn, xt⟩, NN, (B : Int)⟩ L = true then (L, B, 0) else ([], 0, 70)) := by show _ = _; rw [hrd.out, if_neg (by simp [hne])]
    clear hrd hne
    have u0 := b6.out.get 0 _ rfl
    have u1 := b6.out.get 1 _ rfl
    go_wp2_with fail
    have kd : Kp [] w6 w6.drew := (Kp.refl _ _).drew
    have hS : Hid (∀ A, Kp [] w6 A → (A.cell? ⟨qi, 0, none⟩ = some (.int .i64 K) ∧ A.cell? ⟨qi, 1, none⟩ = some (.int .i64 (M : Int)))) := fun A kA => ⟨(b6.out.kept kA (by simp) (b6.out.lt (by simp))).get 0 _ rfl, (b6.out.kept kA (by simp) (b6.out.lt (by simp))).get 1 _ rfl⟩
    refine wp_region_held_drew (S := (fun A => (A.cell? ⟨qi, 0, none⟩ = some (.int .i64 K) ∧ A.cell? ⟨qi, 1, none⟩ = some (.int .i64 (M : Int))))) (by kernel_rfl) ?_ (fun hHeld => ?_)
    · exact hS.out _ kd
    have kwd6 := hid (kw6.out.trans kd (by simp))
    have hWd6 : Hid (Kp [] w6 w6.drew) := kd
    clear kd u0 u1 hHeld
    generalize w6.drew = wd6 at *
    have hHeld := hS.out _ hWd6.out
    have v1 : (0 : Int) ≤ (s : Int) := by omega
    have v2 : (s : Int) ≤ (n : Int) := by omega
    have v3 : s ≤ n := by omega
    have v4 : s < c := by omega
    have v5 : s ≠ c := by omega
    have v6 : s ≤ c := by omega
    have v9 : c ≠ s := by omega
    have v7 : (s : Int) ≤ (c : Int) := by omega
    have v8 : (n : Int) - (s : Int) = ((n - s : Nat) : Int) := by omega
    refine wpAnyH_take (i := 0) (v := ?_) rfl (by kernel_rfl) (by kernel_rfl) (by kernel_rfl) (fun _ _ _ h => h) (Or.inl ⟨by rfl, ?_⟩) (by assumption) ?_
    rotate_left
    · intro w hSw; (try dsimp only at hSw); go_simp <;> with_reducible rfl
    try simp only [Act.put, List.getElem_toArray, List.getElem_cons_zero, List.getElem_cons_succ, List.setIfInBounds_toArray, List.set_cons_zero, List.set_cons_succ]
    refine wpAnyH_take (i := 1) (v := ?_) rfl (by kernel_rfl) (by kernel_rfl) (by kernel_rfl) (fun _ _ _ h => h) (Or.inl ⟨by rfl, ?_⟩) (by assumption) ?_
    rotate_left
    · intro w hSw; (try dsimp only at hSw); go_simp <;> with_reducible rfl
    try simp only [Act.put, List.getElem_toArray, List.getElem_cons_zero, List.getElem_cons_succ, List.setIfInBounds_toArray, List.set_cons_zero, List.set_cons_succ]
    refine wpAnyH_take (i := 2) (v := ?_) rfl (by kernel_rfl) (by kernel_rfl) (by kernel_rfl) (fun _ _ _ h => h) (Or.inl ⟨by rfl, ?_⟩) (by assumption) ?_
    rotate_left
    · intro w hSw; (try dsimp only at hSw); go_simp <;> with_reducible rfl
    try simp only [Act.put, List.getElem_toArray, List.getElem_cons_zero, List.getElem_cons_succ, List.setIfInBounds_toArray, List.set_cons_zero, List.set_cons_succ]
    refine wpAnyH_take (i := 3) (v := ?_) rfl (by kernel_rfl) (by kernel_rfl) (by kernel_rfl) (fun _ _ _ h => h) (Or.inl ⟨by rfl, ?_⟩) (by assumption) ?_
    rotate_left
    · intro w hSw; (try dsimp only at hSw); go_simp <;> with_reducible rfl
    try simp only [Act.put, List.getElem_toArray, List.getElem_cons_zero, List.getElem_cons_succ, List.setIfInBounds_toArray, List.set_cons_zero, List.set_cons_succ]
    refine wpAnyH_take (i := 4) (v := ?_) rfl (by kernel_rfl) (by kernel_rfl) (by kernel_rfl) (fun _ _ _ h => h) (Or.inl ⟨by rfl, ?_⟩) (by assumption) ?_
    rotate_left
    · intro w hSw; (try dsimp only at hSw); go_simp <;> with_reducible rfl
    try simp only [Act.put, List.getElem_toArray, List.getElem_cons_zero, List.getElem_cons_succ, List.setIfInBounds_toArray, List.set_cons_zero, List.set_cons_succ]
    refine wpAnyH_take (i := 5) (v := ?_) rfl (by kernel_rfl) (by kernel_rfl) (by kernel_rfl) (fun _ _ _ h => h) (Or.inl ⟨by rfl, ?_⟩) (by assumption) ?_
    rotate_left
    · intro w hSw; (try dsimp only at hSw); go_simp <;> with_reducible rfl
    try simp only [Act.put, List.getElem_toArray, List.getElem_cons_zero, List.getElem_cons_succ, List.setIfInBounds_toArray, List.set_cons_zero, List.set_cons_succ]
    refine wpAnyH_take (i := 6) (v := ?_) rfl (by kernel_rfl) (by kernel_rfl) (by kernel_rfl) (fun _ _ _ h => h) (Or.inl ⟨by rfl, ?_⟩) (by assumption) ?_
    rotate_left
    · intro w hSw; (try dsimp only at hSw); go_simp <;> with_reducible rfl
    try simp only [Act.put, List.getElem_toArray, List.getElem_cons_zero, List.getElem_cons_succ, List.setIfInBounds_toArray, List.set_cons_zero, List.set_cons_succ]
    refine wpAnyH_take (i := 7) (v := ?_) rfl (by kernel_rfl) (by kernel_rfl) (by kernel_rfl) (fun _ _ _ h => h) (Or.inl ⟨by rfl, ?_⟩) (by assumption) ?_
    rotate_left
    · intro w hSw; (try dsimp only at hSw); go_simp <;> with_reducible rfl
    try simp only [Act.put, List.getElem_toArray, List.getElem_cons_zero, List.getElem_cons_succ, List.setIfInBounds_toArray, List.set_cons_zero, List.set_cons_succ]
    refine wpAnyH_ready (rs := [8]) (by kernel_rfl) (by simp) ?_
    refine AllReadyH.cons rfl (fun K hK => ?_) AllReadyH.nil
    go_simp
    refine (hcD.out wd6 kwd6.out).mono ?_
    rintro e w8 ⟨a8, c8, rfl, hrow8, k8, hn8⟩
    (try go_wp2_with fail)
    refine hK.out _ _ ?_ (fun hHeld => ?_)
    · exact hS.out _ (hWd6.out.trans k8 (by simp))
    clear hK K
    try simp only [Act.put, List.getElem_toArray, List.getElem_cons_zero, List.getElem_cons_succ, List.setIfInBounds_toArray, List.set_cons_zero, List.set_cons_succ]
    have kw8 := hid (kwd6.out.trans k8 (by simp))
    have b8 := hid (b6.out.kept (hWd6.out.trans k8 (by simp)) (by simp) (b6.out.lt (by simp)))
    have hr8 := hid (And.intro hrow8 hn8)
    clear hrow8 hn8 k8
    refine wpAnyH_take (i := 9) (v := ?_) rfl (by kernel_rfl) (by kernel_rfl) (by kernel_rfl) (fun _ _ _ h => h) (Or.inl ⟨by rfl, ?_⟩) (by assumption) ?_
    rotate_left
    · intro w hSw; (try dsimp only at hSw); go_simp <;> with_reducible rfl
    try simp only [Act.put, List.getElem_toArray, List.getElem_cons_zero, List.getElem_cons_succ, List.setIfInBounds_toArray, List.set_cons_zero, List.set_cons_succ]
    refine wpAnyH_take (i := 10) (v := ?_) rfl (by kernel_rfl) (by kernel_rfl) (by kernel_rfl) (fun _ _ _ h => h) (Or.inl ⟨by rfl, ?_⟩) (by assumption) ?_
    rotate_left
    · intro w hSw; (try dsimp only at hSw); go_simp <;> with_reducible rfl
    try simp only [Act.put, List.getElem_toArray, List.getElem_cons_zero, List.getElem_cons_succ, List.setIfInBounds_toArray, List.set_cons_zero, List.set_cons_succ]
    refine wpAnyH_take (i := 11) (v := ?_) rfl (by kernel_rfl) (by kernel_rfl) (by kernel_rfl) (fun _ _ _ h => h) (Or.inl ⟨by rfl, ?_⟩) (by assumption) ?_
    rotate_left
    · intro w hSw; (try dsimp only at hSw); go_simp <;> with_reducible rfl
    try simp only [Act.put, List.getElem_toArray, List.getElem_cons_zero, List.getElem_cons_succ, List.setIfInBounds_toArray, List.set_cons_zero, List.set_cons_succ]
    refine wpAnyH_take (i := 12) (v := ?_) rfl (by kernel_rfl) (by kernel_rfl) (by kernel_rfl) (fun _ _ _ h => h) (Or.inl ⟨by rfl, ?_⟩) (by assumption) ?_
    rotate_left
    · intro w hSw; (try dsimp only at hSw); go_simp <;> with_reducible rfl
    try simp only [Act.put, List.getElem_toArray, List.getElem_cons_zero, List.getElem_cons_succ, List.setIfInBounds_toArray, List.set_cons_zero, List.set_cons_succ]
    refine wpAnyH_take (i := 13) (v := ?_) rfl (by kernel_rfl) (by kernel_rfl) (by kernel_rfl) (fun _ _ _ h => h) (Or.inl ⟨by rfl, ?_⟩) (by assumption) ?_
    rotate_left
    · intro w hSw; (try dsimp only at hSw); go_simp <;> with_reducible rfl
    try simp only [Act.put, List.getElem_toArray, List.getElem_cons_zero, List.getElem_cons_succ, List.setIfInBounds_toArray, List.set_cons_zero, List.set_cons_succ]
    refine wpAnyH_done (by kernel_rfl) ?_ _
    clear hS v1 v2 v3 v4 v5 v6 v7 v8 hcD
    by_cases hDE : DE = 0
    · subst hDE
      have hLM := hMn.out L rfl rfl
      obtain ⟨hv8, hl8, hm8⟩ := rowVals hr8.out.1
      have cL := rFacts K a8 c8 L w8 hv8 (by omega) (by omega)
      have hI : Hid (Inf.eqI ⟨K, L.length, minV L, maxV L, nullsV L, (B : Int)⟩ ⟨K, (M : Int), ⟨mk, mb, mn, mt⟩, ⟨xk, xb, xn, xt⟩, NN, (B : Int)⟩ = tellB ⟨K, (M : Int), ⟨mk, mb, mn, mt⟩, ⟨xk, xb, xn, xt⟩, NN, (B : Int)⟩ L) := eqI_sym _ _ rfl rfl
      obtain ⟨⟨uk, ub, un, ut⟩, hU⟩ : ∃ u, Hid (minV L = u) := ⟨_, rfl⟩
      obtain ⟨⟨zk, zb, zn, zt⟩, hZ⟩ : ∃ u, Hid (maxV L = u) := ⟨_, rfl⟩
      obtain ⟨NU, hN⟩ : ∃ n : Nat, Hid (nullsV L = n) := ⟨_, rfl⟩
      rw [hU.out, hZ.out, hN.out] at cL hI
      obtain ⟨X, HX, hX⟩ := neR_run ⟨K, L.length, ⟨uk, ub, un, ut⟩, ⟨zk, zb, zn, zt⟩, NU, (B : Int)⟩ ⟨K, (M : Int), ⟨mk, mb, mn, mt⟩, ⟨xk, xb, xn, xt⟩, NN, (B : Int)⟩
      have hfin : Hid (X = !(tellB ⟨K, (M : Int), ⟨mk, mb, mn, mt⟩, ⟨xk, xb, xn, xt⟩, NN, (B : Int)⟩ L)) := by show _ = _; rw [HX.out, hI.out]
      obtain ⟨TB, hTB⟩ : ∃ T9, Hid (tellB ⟨K, (M : Int), ⟨mk, mb, mn, mt⟩, ⟨xk, xb, xn, xt⟩, NN, (B : Int)⟩ L = T9) := ⟨_, rfl⟩
      rw [hTB.out] at hfin hrd2
      unfold Inf.v Inf.cs at cL hX
      dsimp only at cL hX
      have u0 := b8.out.get 0 _ rfl
      clear hLM hv8 hl8 hm8 hTB hMn hU hZ hN hI HX
      go_wp2_with fail
      refine cL.mono ?_
      rintro e w9 ⟨rfl, k9⟩
      have kw9 := kw8.out.trans k9 (by simp)
      have b9 := b8.out.kept k9 (by simp) (b8.out.lt (by simp))
      obtain ⟨wa, hwa, ka, bz⟩ : ∃ wa, w9.alloc (.cells #[.int .i64 0, .int .i64 0, .int .i64 0, .bool false, .int .i64 0, .string ⟨#[]⟩, .int .i64 0, .bool false, .int .i64 0, .string ⟨#[]⟩, .int .i64 0, .int .i64 0] 59) = wa ∧ Kp [] w9 wa ∧ Bx wa w9.heap.size [.int .i64 0, .int .i64 0, .int .i64 0, .bool false, .int .i64 0, .string ⟨#[]⟩, .int .i64 0, .bool false, .int .i64 0, .string ⟨#[]⟩, .int .i64 0, .int .i64 0] := ⟨_, rfl, (Kp.refl _ _).alloc _, Bx.new w9 _ _⟩
      obtain ⟨qw, hqw⟩ : ∃ q, Hid (w9.heap.size = q) := ⟨_, rfl⟩
      have hnq : qi ≠ qw := by rw [← hqw.out]; have := b9.lt (by simp); omega
      have hqww : w.heap.size ≤ qw := by rw [← hqw.out]; exact kw9.size
      have ba := b9.kept ka (by simp) (b9.lt (by simp))
      rw [hqw.out] at bz
      have p0 := bz.get 0 _ rfl; have f0 := bz.free 0
      have p1 := bz.get 1 _ rfl; have f1 := bz.free 1
      have p2 := bz.get 2 _ rfl; have f2 := bz.free 2
      have p3 := bz.get 3 _ rfl; have f3 := bz.free 3
      have p4 := bz.get 4 _ rfl; have f4 := bz.free 4
      have p5 := bz.get 5 _ rfl; have f5 := bz.free 5
      have p6 := bz.get 6 _ rfl; have f6 := bz.free 6
      have p7 := bz.get 7 _ rfl; have f7 := bz.free 7
      have p8 := bz.get 8 _ rfl; have f8 := bz.free 8
      have p9 := bz.get 9 _ rfl; have f9 := bz.free 9
      have p10 := bz.get 10 _ rfl; have f10 := bz.free 10
      have p11 := bz.get 11 _ rfl; have f11 := bz.free 11
      obtain ⟨WA, hWA, bWA, kWA⟩ : ∃ Y9, ((((((((((((wa.setCell ⟨qw, 0, none⟩ (.int .i64 K)).setCell ⟨qw, 1, none⟩ (.int .i64 (L.length : Int))).setCell ⟨qw, 2, none⟩ (.int .i64 uk)).setCell ⟨qw, 3, none⟩ (.bool ub)).setCell ⟨qw, 4, none⟩ (.int .i64 un)).setCell ⟨qw, 5, none⟩ (.string ut)).setCell ⟨qw, 6, none⟩ (.int .i64 zk)).setCell ⟨qw, 7, none⟩ (.bool zb)).setCell ⟨qw, 8, none⟩ (.int .i64 zn)).setCell ⟨qw, 9, none⟩ (.string zt)).setCell ⟨qw, 10, none⟩ (.int .i64 (NU : Int))).setCell ⟨qw, 11, none⟩ (.int .i64 0)) = Y9 ∧ Bx Y9 qw [.int .i64 K, .int .i64 (L.length : Int), .int .i64 uk, .bool ub, .int .i64 un, .string ut, .int .i64 zk, .bool zb, .int .i64 zn, .string zt, .int .i64 (NU : Int), .int .i64 0] ∧ Kp [qw] wa Y9 := ⟨_, rfl, gen12q (R := fun Y9 => Bx Y9 qw [.int .i64 K, .int .i64 (L.length : Int), .int .i64 uk, .bool ub, .int .i64 un, .string ut, .int .i64 zk, .bool zb, .int .i64 zn, .string zt, .int .i64 (NU : Int), .int .i64 0]) bz rfl (.int .i64 K) (.int .i64 (L.length : Int)) (.int .i64 uk) (.bool ub) (.int .i64 un) (.string ut) (.int .i64 zk) (.bool zb) (.int .i64 zn) (.string zt) (.int .i64 (NU : Int)) (.int .i64 0) (fun Y9 b _ => b), gen12q (R := fun Y9 => Kp [qw] wa Y9) bz rfl (.int .i64 K) (.int .i64 (L.length : Int)) (.int .i64 uk) (.bool ub) (.int .i64 un) (.string ut) (.int .i64 zk) (.bool zb) (.int .i64 zn) (.string zt) (.int .i64 (NU : Int)) (.int .i64 0) (fun Y9 _ k => k)⟩
      have bq := ba.kept kWA (by simpa using hnq) (ba.lt (by simp))
      have y11 := bq.get 11 _ rfl
      have z11 := bWA.get 11 _ rfl
      have z11f := bWA.free 11
      have kk3 := (kw9.trans ka (by simp)).trans kWA (fun x hx => .inr (by simp at hx; omega))
      obtain ⟨V, hV, bV, kV⟩ : ∃ V, WA.setCell ⟨qw, 11, none⟩ (.int .i64 (B : Int)) = V ∧ Bx V qw [.int .i64 K, .int .i64 (L.length : Int), .int .i64 uk, .bool ub, .int .i64 un, .string ut, .int .i64 zk, .bool zb, .int .i64 zn, .string zt, .int .i64 (NU : Int), .int .i64 (B : Int)] ∧ Kp [qw] WA V := ⟨_, rfl, genS (R := fun V => Bx V qw [.int .i64 K, .int .i64 (L.length : Int), .int .i64 uk, .bool ub, .int .i64 un, .string ut, .int .i64 zk, .bool zb, .int .i64 zn, .string zt, .int .i64 (NU : Int), .int .i64 (B : Int)]) bWA 11 (by simp) (.int .i64 (B : Int)) (fun W b _ => b), genS (R := fun V => Kp [qw] WA V) bWA 11 (by simp) (.int .i64 (B : Int)) (fun W _ k => k)⟩
      have bqV := bq.kept kV (by simpa using hnq) (bq.lt (by simp))
      have kkV := hid (kk3.trans kV (fun x hx => .inr (by simp at hx; omega)))
      have hr9 := hid (And.intro (((hr8.out.1.keptNew k9).keptNew ka).kept (kWA.trans kV (fun x hx => .inl hx)) (fun k hk => by
        rw [ownS] at hk
        simp only [List.mem_singleton]
        intro e
        have h1 := hr8.out.1.lt k (by rw [ownS]; exact hk)
        rw [e, ← hqw.out] at h1
        have := k9.size
        omega)) (fun k hk => Nat.le_trans kwd6.out.size (hr8.out.2 k hk)))
      have hb9 := hid bqV
      have s0 := bqV.get 0 _ rfl; have t0 := bV.get 0 _ rfl
      have s1 := bqV.get 1 _ rfl; have t1 := bV.get 1 _ rfl
      have s2 := bqV.get 2 _ rfl; have t2 := bV.get 2 _ rfl
      have s3 := bqV.get 3 _ rfl; have t3 := bV.get 3 _ rfl
      have s4 := bqV.get 4 _ rfl; have t4 := bV.get 4 _ rfl
      have s5 := bqV.get 5 _ rfl; have t5 := bV.get 5 _ rfl
      have s6 := bqV.get 6 _ rfl; have t6 := bV.get 6 _ rfl
      have s7 := bqV.get 7 _ rfl; have t7 := bV.get 7 _ rfl
      have s8 := bqV.get 8 _ rfl; have t8 := bV.get 8 _ rfl
      have s9 := bqV.get 9 _ rfl; have t9 := bV.get 9 _ rfl
      have s10 := bqV.get 10 _ rfl; have t10 := bV.get 10 _ rfl
      have s11 := bqV.get 11 _ rfl; have t11 := bV.get 11 _ rfl
      have hqw' := hqw.out
      clear cL k9 kw9 b9 ka bz ba bWA kWA bq kk3 bV kV bqV u0
      cases TB with
      | false =>
        have hrd3 : Hid (rdR bs = ([], 0, 70)) := by show _ = _; rw [hrd2.out, if_neg (by simp)]
        have hX1 : X = true := by rw [hfin.out]; rfl
        subst hX1
        clear hrd2
        go_wp2_with fail
        go_ret3
        rw [hrd3.out]
        exact rdP_no 70 kkV.out
      | true =>
        have hrd3 : Hid (rdR bs = (L, B, 0)) := by show _ = _; rw [hrd2.out, if_pos (by simp)]
        have hX1 : X = false := by rw [hfin.out]; rfl
        subst hX1
        clear hrd2
        go_wp2_with fail
        go_quiet (fail)
        go_wp2_with fail
        go_ret3
        rw [hrd3.out]
        exact ⟨a8, c8, rfl, hr9.out.1, kkV.out.drewN _, hr9.out.2⟩
    · have hrd3 : Hid (rdR bs = ([], 0, 70)) := by show _ = _; rw [hrd2.out, if_neg (fun h => hDE h.1)]
      have d2 : (DE != 0) = true := by simpa using hDE
      clear hrd2
      go_wp2_with fail
      go_ret3
      rw [hrd3.out]
      exact rdP_no 70 kw8.out
  · have d1 : ((N4 : Int) != (CR : Int)) = true := by simp; omega
    have hrd2 : Hid (rdR bs = ([], 0, 71)) := by show _ = _; rw [hrd.out, if_pos hne]
    clear hrd
    go_wp2_with fail
    go_ret3
    rw [hrd2.out]
    exact rdP_no 71 kw6.out
theorem rRead7 (a : Option Addr) (c : Nat) (bs : List UInt8) (w : World) (hs : Sees w a bs) (hl : bs.length ≤ c) (hm : c ≤ maxLen) (hb : bs.length ≤ 200000000000000) :
    Calls Tryz.prog 9 #[.slice a bs.length c] w (RdP (rdR bs) w) := by
  cases hn : hdR bs with
  | none => rw [rdR_none hn]; exact rReadN a c bs w hs hl hm hb hn
  | some r =>
    obtain ⟨i, s⟩ := r
    obtain ⟨k, m, n, ⟨mk, mb, mn, mt⟩, ⟨xk, xb, xn, xt⟩, x, y, rest, hbs, r1, r2, i1, i2, hk, hm1, hm2, hn2, hi, hss, hle⟩ := hdR_some hn
    rw [hi] at hn
    exact rReadS a c bs w hs hl hm hb k.toNat m.toNat s (s + (x.toNat * 256 + y.toNat)) (s + (x.toNat * 256 + y.toNat) + 4) mk mb mn mt xk xb xn xt n.toNat hn rfl hle (by omega) (by omega) (by omega) hm2
end Go.Proofs.YtohbdbecioanaaaGreatDoor
end

section
namespace Go.Proofs.YtohbdbecioanaaaGreatDoor
open Go.RowKit Go.Hay
set_option linter.unusedVariables false
set_option linter.unusedSimpArgs false

/-- What block.All hands back. -/
def AllP (bs : List UInt8) (w : World) (e : Ending) (w' : World) : Prop := ∃ q a' c', e = .returned (.func (.func 11) #[] #[.pointer (some ⟨q, 0, none⟩)]) ∧ AtL q a' c' bs w' ∧ bs.length ≤ c' ∧ c' ≤ maxLen ∧ Kp [] w w' ∧ w.heap.size ≤ q ∧ ∀ k ∈ bk a' bs, w.heap.size ≤ k
set_option maxHeartbeats 4000000 in
theorem cAll (a : Option Addr) (c : Nat) (bs : List UInt8) (w : World) (ht : Tab w) (hs : Sees w a bs) (hb : bs.length ≤ 200000000000000) :
    Calls Tryz.prog 6 #[.slice a bs.length c] w (AllP bs w) := by
  obtain ⟨w1, hw1⟩ : ∃ w1, w.alloc (.cells #[.slice a bs.length c] 22) = w1 := ⟨_, rfl⟩
  have k1 : Kp [] w w1 := by rw [← hw1]; exact (Kp.refl _ _).alloc _
  have b1 : w1.cell? ⟨w.heap.size, 0, none⟩ = some (.slice a bs.length c) := by rw [← hw1]; exact World.cell?_alloc_new w _ _ 0
  have f1 : w1.frozen? ⟨w.heap.size, 0, none⟩ = false := by rw [← hw1]; exact World.frozen?_alloc_new w _ _ 0
  have cC := cClone a bs.length c bs w1 (hs.kept k1 (by simp)) rfl hb
  have ht' := hid ht
  have hs' := hid hs
  clear ht hs
  go_enter Tryz.func6, Tryz.ntmps6
  go_wp2_with fail
  refine cC.mono ?_
  rintro e w2 ⟨v2, rfl, hr2, k2, hn2⟩
  have b2 := kpAt k2 b1
  have hl1 : w.heap.size < w1.heap.size := World.block_lt_of_cell? _ _ b1
  have f2 : w2.frozen? ⟨w.heap.size, 0, none⟩ = false := (k2.frozen (p := ⟨w.heap.size, 0, none⟩) hl1 (by simp)).trans f1
  obtain ⟨a2, c2, rfl, hs2, ho2⟩ := hr2.sees
  obtain ⟨_, hc2, hm2⟩ := rowSee hr2
  obtain ⟨w3, hw3⟩ : ∃ w3, w2.setCell ⟨w.heap.size, 0, none⟩ (.slice a2 bs.length c2) = w3 := ⟨_, rfl⟩
  have k3 : Kp [w.heap.size] w2 w3 := by rw [← hw3]; exact (Kp.refl [w.heap.size] w2).setCell (p := ⟨w.heap.size, 0, none⟩) (.inl (by simp)) _
  have b3 : w3.cell? ⟨w.heap.size, 0, none⟩ = some (.slice a2 bs.length c2) := by rw [← hw3]; exact World.cell?_setCell_same _ _ _ b2
  have kk : Kp [] w w3 := (k1.trans k2 (by simp)).trans k3 (fun x hx => .inr (by simp at hx; omega))
  have hnew : ∀ k ∈ blk a2, w1.heap.size ≤ k := fun k hk => hn2 k (by rw [ho2]; exact hk)
  have hs3 : Sees w3 a2 bs := hs2.kept k3 (fun k hk => by simp only [List.mem_singleton]; have := hnew k hk; omega)
  have H := hid (And.intro b3 (And.intro hs3 (And.intro kk hnew)))
  clear cC hr2 k2 hn2 hs2 ho2 k3 b3 kk hnew hs3 k1 b1 f1
  go_wp2_with fail
  go_ret
  refine ⟨w.heap.size, a2, c2, rfl, ⟨H.out.1, H.out.2.1, ht'.out.kept H.out.2.2.1 (by simp)⟩, hc2, hm2, H.out.2.2.1, Nat.le_refl _, fun k hk => ?_⟩
  unfold bk at hk
  split at hk
  · simp at hk
  · have := H.out.2.2.2 k hk; omega
set_option maxHeartbeats 16000000 in
set_option maxRecDepth 100000 in
theorem rAll (a : Option Addr) (c : Nat) (bs : List UInt8) (w : World) (hs : Sees w a bs) (hl : bs.length ≤ c) (hm : c ≤ maxLen) (hb : bs.length ≤ 2000000) :
    Calls Tryz.prog 5 #[.slice a bs.length c] w fun e w' => ∃ a' c', e = .returned (.slice a' (allV bs).length c') ∧ VE.Row w' (.slice a' (allV bs).length c') (allV bs) ∧ Kp [] w w' ∧ ∀ k ∈ blk a', w.heap.size ≤ k := by
  obtain ⟨i0, hi, hz0, hz1, hz2⟩ := infoV'
  have hs' := hid hs
  have hall := allV_len bs
  obtain ⟨V, hV⟩ : ∃ V, Hid (allV bs = V) := ⟨_, rfl⟩
  rw [hV.out] at hall ⊢
  have hstart : Hid (bs.drop 0 = [] ∨ ∃ g o, a = some ⟨g, o, none⟩ ∧ a = some ⟨g, o + 0, none⟩) := by
    rcases hs with e | ⟨g, o, e, _⟩
    · left; rw [e]; rfl
    · right; exact ⟨g, o, e, by rw [e]; rfl⟩
  have hv0 : Hid ([] ++ allV (bs.drop 0) = V) := by show _ = _; rw [List.nil_append, List.drop_zero]; exact hV.out
  clear hs hV
  unfold maxLen at hm
  go_enter Tryz.func5, Tryz.ntmps5
  go_wp2_with fail
  go_loopw [0, 3] (fun v u wr => ∃ (d : Nat) (A : Option Addr) (acc : List Val) (au : Option Addr) (cu : Nat), d ≤ bs.length ∧ v = .slice A (bs.length - d) (c - d) ∧ Hid (bs.drop d = [] ∨ ∃ g o, a = some ⟨g, o, none⟩ ∧ A = some ⟨g, o + d, none⟩) ∧ u = .slice au acc.length cu ∧ VE.Row wr (.slice au acc.length cu) acc ∧ (∀ k ∈ blk au, w.heap.size ≤ k) ∧ Hid (acc ++ allV (bs.drop d) = V) ∧ Kp [] w wr) (fun v _ _ => slen v)
  case atStart => exact ⟨0, a, [], none, 0, Nat.zero_le _, rfl, hstart, rfl, .inl ⟨rfl, rfl⟩, by simp [blk], hv0, Kp.refl _ _⟩
  case round =>
    clear hstart hv0
    obtain ⟨d, A, acc, au, cu, hd, rfl, hAd, rfl, hrow, hnew, hacc, kn⟩ := hrel
    have hld : (bs.drop d).length = bs.length - d := List.length_drop
    by_cases hz : bs.length - d = 0
    · have e0 : bs.drop d = [] := List.drop_of_length_le (by omega)
      have eV : Hid (acc = V) := by
        have := hacc.out
        rw [e0, allV_end (.inl rfl), List.append_nil] at this
        exact this
      rw [hz]
      clear hld hacc hAd
      go_wp2_with fail
      go_ret
      rw [← eV.out]
      exact ⟨au, cu, rfl, hrow, kn, hnew⟩
    · obtain ⟨g, o, ea, eA⟩ : ∃ g o, a = some ⟨g, o, none⟩ ∧ A = some ⟨g, o + d, none⟩ := by
        rcases hAd.out with e | h
        · rw [e] at hld; simp at hld; omega
        · exact h
      subst eA
      subst ea
      have hsd : Sees wr (some ⟨g, o + d, none⟩) (bs.drop d) := by
        have := (hs'.out.kept kn (by simp)).tail d
        simpa [Addr.add_lit] using this
      have cR := rRead7 (some ⟨g, o + d, none⟩) (c - d) (bs.drop d) wr hsd (by omega) (by unfold maxLen; omega) (by omega)
      rw [hld] at cR
      have hrn := hid (fun l n => rdR_n (bs := bs.drop d) (l := l) (n := n))
      have hst := hid (fun l n => allV_step (bs := bs.drop d) (l := l) (n := n))
      obtain ⟨⟨L, N, F⟩, hF⟩ : ∃ r, Hid (rdR (bs.drop d) = r) := ⟨_, rfl⟩
      rw [hF.out] at cR
      simp only [hF.out] at hrn hst
      unfold RdP at cR
      dsimp only at cR
      have hpos2 : (0 : Int) < ((bs.length - d : Nat) : Int) := by omega
      obtain ⟨LN, hLN⟩ : ∃ x : Nat, Hid (bs.length - d = x) := ⟨_, rfl⟩
      rw [hLN.out] at cR hpos2 hz ⊢
      have hrow' := hid hrow
      have hnew' := hid hnew
      clear hsd hAd hld hrow hnew
      go_wp2_with fail
      refine cR.mono ?_
      rintro e w2 ⟨a2, c2, rfl, hrow2, k2, hn2⟩
      have kw2 := kn.trans k2 (by simp)
      by_cases hF0 : F = 0
      · subst hF0
        obtain ⟨hN0, hNl⟩ := hrn.out L N rfl
        have hstep := hst.out L N rfl
        rw [List.length_drop] at hNl
        have hacc2 : Hid ((acc ++ L) ++ allV (bs.drop (d + N)) = V) := by
          show _ = _
          have := hacc.out
          rw [hstep, List.drop_drop] at this
          rw [List.append_assoc]
          exact this
        have hlen2 : acc.length + L.length ≤ V.length := by
          have := congrArg List.length hacc2.out
          simp only [List.length_append] at this
          omega
        obtain ⟨hv2, hl2, hm2⟩ := rowVals hrow2
        have hsrc := (seeV.2 hv2).src (P := Tryz.prog) Tryz.underlying23 c2
        obtain ⟨v5, X2, hrun1, hrow5, kk5, hn5⟩ := run_appendG (E := VE) (P := Tryz.prog) w2 23 23 23 30 i0 _ 40 Tryz.underlying23 hi hz0 hz1 hz2 rfl (.slice au acc.length cu) acc (hrow'.out.keptNew k2) _ L hsrc (by omega) (by omega)
        obtain ⟨a5, c5, rfl, _⟩ := hrow5.see
        rw [ownS] at kk5
        have kX2 : Kp [] w X2 := kw2.trans kk5 (fun q hq => .inr (hnew'.out q hq))
        have hn5' : ∀ q ∈ blk a5, w.heap.size ≤ q := fun q hq => by
          rcases hn5 q (by rw [ownS]; exact hq) with h | h
          · rw [ownS] at h; exact hnew'.out q h
          · have := kw2.size; omega
        have hNc : N ≤ c - d := by omega
        have hNL : N ≤ LN := by rw [← hLN.out]; omega
        have hN1 : (N : Int) ≤ (LN : Int) := by omega
        have H := hid (And.intro hrow5 (And.intro kX2 hn5'))
        obtain ⟨L5, hL5⟩ : ∃ x : Nat, Hid ((acc ++ L).length = x) := ⟨_, rfl⟩
        rw [hL5.out] at hrun1
        clear cR hrow2 hn2 k2 kn hrn hst hstep hv2 hl2 hm2 hsrc kk5 hn5 hrow5 kX2 hn5' hrow' hnew' hacc
        go_wp2_with (first | (refine wpAppRun rfl _ _ 23 23 rfl _ _ _ rfl rfl hrun1 ?_) | fail)
        have hLN' := hLN.out
        refine ⟨⟨d + N, (if c - d = N then some { block := g, off := o + d } else some { block := g, off := o + d + N }), acc ++ L, a5, c5, by omega, by rw [show LN - N = bs.length - (d + N) by omega, show c - d - N = c - (d + N) by omega], ?_, by rw [hL5.out], H.out.1, H.out.2.2, hacc2, H.out.2.1⟩, by show LN - N < LN; omega⟩
        show _ ∨ _
        by_cases hcd : c - d = N
        · left; exact List.drop_of_length_le (by omega)
        · right; exact ⟨g, o, rfl, by rw [if_neg hcd, Nat.add_assoc]⟩
      · have eV : Hid (acc = V) := by
          have := hacc.out
          rw [allV_end (.inr (by rw [hF.out]; exact hF0)), List.append_nil] at this
          exact this
        have d5 : (F != 0) = true := by simpa using hF0
        have H := hid (And.intro (hrow'.out.keptNew k2) (And.intro kw2 hnew'.out))
        clear cR hrow2 hn2 k2 kn hrn hst hrow' hnew' hacc kw2
        go_wp2_with fail
        go_ret
        rw [← eV.out]
        exact ⟨au, cu, rfl, H.out.1, H.out.2.1, H.out.2.2⟩
end Go.Proofs.YtohbdbecioanaaaGreatDoor
end

section
namespace Go.Proofs.YtohbdbecioanaaaGreatDoor
open Go.RowKit Go.Hay
set_option linter.unusedVariables false
set_option linter.unusedSimpArgs false

/-- The blocks below w0, but for a counter's, lie as they lay; the iterator's own blocks are new, or are left alone. -/
structure CoX (w0 : World) (qc : Nat) (s : Sa) (W : World) : Prop where
  os : W.os = w0.os
  tape : W.tape = w0.tape
  output : W.output = w0.output
  size : w0.heap.size ≤ W.heap.size
  low : ∀ k, k < w0.heap.size → k ≠ qc → W.heap[k]? = w0.heap[k]?
  mde : s.made = true → w0.heap.size + 2 ≤ s.B0 ∧ w0.heap.size + 2 ≤ s.qn
  js : ∀ j ∈ s.js, j ≠ qc ∧ j ≠ w0.heap.size ∧ j ≠ w0.heap.size + 1
/-- .. and the counter tells how many values were given. -/
structure CoI (w0 : World) (qc : Nat) (s : Sa) (W : World) : Prop where
  co : CoX w0 qc s W
  cnt : W.cell? ⟨qc, 0, none⟩ = some (.int .i64 (s.i : Int))
  free : W.frozen? ⟨qc, 0, none⟩ = false
theorem CoX.kp {w0 : World} {qc : Nat} {s : Sa} {W : World} (h : CoX w0 qc s W) : Kp [qc] w0 W := ⟨h.os, h.tape, h.output, h.size, fun k hk hn => h.low k hk (by simpa using hn)⟩
theorem lowKeep {X Y : World} {qc : Nat} (e : Y.heap[qc]? = X.heap[qc]?) {v : Value} (hc : X.cell? ⟨qc, 0, none⟩ = some v) (hf : X.frozen? ⟨qc, 0, none⟩ = false) : Y.cell? ⟨qc, 0, none⟩ = some v ∧ Y.frozen? ⟨qc, 0, none⟩ = false :=
  ⟨(World.cell?_of_block (a := ⟨qc, 0, none⟩) e).trans hc, (World.frozen?_of_block (a := ⟨qc, 0, none⟩) e).trans hf⟩
theorem CoX.grown {w0 : World} {qc : Nat} {s : Sa} {X Y : World} {row : Option Nat} (h : CoX w0 qc s X) (hg : X.grownBy Y row) (hr : ∀ r, row = some r → w0.heap.size ≤ r ∧ ∃ o : Obj, X.heap[r]? = some o ∧ o.isCells = false) : CoX w0 qc s Y :=
  ⟨hg.os.trans h.os, hg.tape.trans h.tape, hg.output.trans h.output, Nat.le_trans h.size hg.size, fun k hk hn => (hg.block k (Nat.lt_of_lt_of_le hk h.size) (fun e => by have := (hr k e.symm).1; omega)).trans (h.low k hk hn), h.mde, h.js⟩
theorem CoX.own (w0 : World) (qc : Nat) : OwnFrom w0.heap.size (CoX w0 qc) := fun s X Y row h hg hr => h.grown hg hr
theorem CoI.own {w0 : World} {qc : Nat} (hq : qc < w0.heap.size) : OwnFrom w0.heap.size (CoI w0 qc) := fun s X Y row h hg hr => by
  have e : Y.heap[qc]? = X.heap[qc]? := hg.block qc (Nat.lt_of_lt_of_le hq h.co.size) (fun e => by have := (hr qc e.symm).1; omega)
  obtain ⟨h1, h2⟩ := lowKeep e h.cnt h.free
  exact ⟨h.co.grown hg hr, h1, h2⟩
theorem turnLow {B0 qn : Nat} {A B : World} (h : TurnA B0 qn A B) {k : Nat} (hk : k < A.heap.size) (h1 : k < B0) (h2 : k ≠ qn) : B.heap[k]? = A.heap[k]? := by
  rcases h.block k hk with e | e | ⟨e, _⟩
  · exact e
  · exact absurd e h2
  · omega
theorem StepA.low {w0 : World} {s s' : Sa} {A B : World} (ht : StepA s s' A B) (hm : s.made = true → w0.heap.size + 2 ≤ s.B0 ∧ w0.heap.size + 2 ≤ s.qn) {k : Nat} (hk : k < A.heap.size) (hk2 : k < w0.heap.size + 2) : B.heap[k]? = A.heap[k]? := by
  cases hs : s.made with
  | true =>
    obtain ⟨_, e1, e2⟩ := ht.stays hs
    obtain ⟨h1, h2⟩ := hm hs
    exact turnLow ht.turn hk (by omega) (by omega)
  | false =>
    obtain ⟨_, e1, e2⟩ := ht.makes hs
    exact turnLow ht.turn hk (by omega) (by omega)
theorem CoX.step {w0 : World} {qc : Nat} {s s' : Sa} {A B : World} (hq : qc < w0.heap.size) (hz : w0.heap.size + 2 ≤ A.heap.size) (h : CoX w0 qc s A) (ht : StepA s s' A B) : CoX w0 qc s' B := by
  refine ⟨ht.turn.os.trans h.os, ht.turn.tape.trans h.tape, ht.turn.output.trans h.output, Nat.le_trans h.size ht.turn.size, fun k hk hn => (ht.low h.mde (by omega) (by omega)).trans (h.low k hk hn), fun _ => ?_, fun j hj => ?_⟩
  · cases hs : s.made with
    | true =>
      obtain ⟨_, e1, e2⟩ := ht.stays hs
      obtain ⟨h1, h2⟩ := h.mde hs
      omega
    | false =>
      obtain ⟨_, e1, e2⟩ := ht.makes hs
      omega
  · rcases ht.js j hj with e | e
    · exact h.js j e
    · omega
theorem CoI.step {w0 : World} {qc : Nat} {s s' : Sa} {A B : World} (hq : qc < w0.heap.size) (hz : w0.heap.size + 2 ≤ A.heap.size) (h : CoI w0 qc s A) (ht : StepA s s' A B) : CoI w0 qc s' B := by
  obtain ⟨h1, h2⟩ := lowKeep (ht.low h.co.mde (k := qc) (by omega) (by omega)) h.cnt h.free
  exact ⟨h.co.step hq hz ht, by rw [ht.on]; exact h1, h2⟩
theorem CoX.recs {w0 : World} {qc : Nat} {s : Sa} {W : World} (h : CoX w0 qc s W) (o' : Obj) : KeepA s W (W.putObj (w0.heap.size + 1) o') :=
  ⟨⟨by simp, fun k hk o ho => (World.putObj_heap_other (by have := (h.js k hk).2.2; omega)).trans ho⟩, fun hm k o hk ho _ => (World.putObj_heap_other (by have := (h.mde hm).1; omega)).trans ho⟩
theorem CoX.keeps {w0 : World} {qc : Nat} {s s' : Sa} {A B : World} (h : CoX w0 qc s A) (ht : StepA s s' A B) (k : Nat) (o : Obj) (hk : k = w0.heap.size ∨ k = w0.heap.size + 1) (ho : A.heap[k]? = some o) : B.heap[k]? = some o :=
  (ht.low h.mde (Array.getElem?_eq_some_iff.1 ho).1 (by omega)).trans ho
theorem KeepA.alloc (s : Sa) (W : World) (o : Obj) : KeepA s W (W.alloc o) :=
  ⟨KeepB.alloc _ _ _, fun _ k o' _ ho _ => (Below.heap_alloc W o k (Array.getElem?_eq_some_iff.1 ho).1).trans ho⟩
/-- Behind the end the iterator's own memory alone may turn. -/
theorem CoX.stepX {w0 : World} {qc : Nat} {s : Sa} {A B : World} (h : CoX w0 qc s A) (ht : StepAX s A B) : CoX w0 qc s B := by
  obtain ⟨h1, h2⟩ := h.mde ht.1
  exact ⟨ht.2.os.trans h.os, ht.2.tape.trans h.tape, ht.2.output.trans h.output, Nat.le_trans h.size ht.2.size, fun k hk hn => (turnLow ht.2 (Nat.lt_of_lt_of_le hk h.size) (by omega) (by omega)).trans (h.low k hk hn), h.mde, h.js⟩
theorem CoX.keepsX {w0 : World} {qc : Nat} {s : Sa} {A B : World} (h : CoX w0 qc s A) (ht : StepAX s A B) (k : Nat) (o : Obj) (hk : k = w0.heap.size ∨ k = w0.heap.size + 1) (ho : A.heap[k]? = some o) : B.heap[k]? = some o := by
  obtain ⟨h1, h2⟩ := h.mde ht.1
  exact (turnLow ht.2 (Array.getElem?_eq_some_iff.1 ho).1 (by omega) (by omega)).trans ho
/-- A round that writes into the counter, and makes memory. -/
theorem CoX.round {w0 : World} {qc : Nat} {s : Sa} {A B : World} {x : Gv} (h : CoX w0 qc s A) (hk : Kp [qc] A B) (hq : A.heap[qc]?.map Obj.isCells = some true) : KeepsFrom w0.heap.size A B ∧ KeepA s A B ∧ CoX w0 qc (s.nx x) B := by
  have hne : ∀ k (o : Obj), A.heap[k]? = some o → o.isCells = false → k ≠ qc := fun k o ho hc e => by
    subst e
    rw [ho] at hq
    simp at hq
    rw [hq] at hc
    cases hc
  refine ⟨⟨hk.size, fun k o _ ho hc => (hk.block k (Array.getElem?_eq_some_iff.1 ho).1 (by simpa using hne k o ho hc)).trans ho⟩, ⟨⟨hk.size, fun k hk' o ho => (hk.block k (Array.getElem?_eq_some_iff.1 ho).1 (by simpa using (h.js k hk').1)).trans ho⟩, fun _ k o _ ho hc => (hk.block k (Array.getElem?_eq_some_iff.1 ho).1 (by simpa using hne k o ho hc)).trans ho⟩, ⟨hk.os.trans h.os, hk.tape.trans h.tape, hk.output.trans h.output, Nat.le_trans h.size hk.size, fun k hk' hn => (hk.block k (Nat.lt_of_lt_of_le hk' h.size) (by simpa using hn)).trans (h.low k hk' hn), h.mde, h.js⟩⟩
end Go.Proofs.YtohbdbecioanaaaGreatDoor
end

section
namespace Go.Proofs.YtohbdbecioanaaaGreatDoor
open Go.RowKit Go.Hay
set_option linter.unusedVariables false
set_option linter.unusedSimpArgs false

/-- The kind that is asked for the list at a place. -/
def kAt (ks : List Int) (i : Nat) : Int := if h : i < ks.length then ks[i] else -1
/-- The bytes of the lists from a place on. -/
def mB (ks : List Int) : Nat → List (List Val) → List UInt8
  | _, [] => []
  | i, x :: r => (wrB (kAt ks i) x).1 ++ mB ks (i + 1) r
/-- .. and the values of those that could be written. -/
def mV (ks : List Int) : Nat → List (List Val) → List Val
  | _, [] => []
  | i, x :: r => (if (wrB (kAt ks i) x).2 = 0 then x else []) ++ mV ks (i + 1) r
theorem wrB_not {k : Int} {l : List Val} (h : (wrB k l).2 ≠ 0) : (wrB k l).1 = [] := by
  unfold wrB at h ⊢
  by_cases h0 : l.length = 0
  · rw [if_pos h0]
  · rw [if_neg h0] at h ⊢
    by_cases h1 : refE (kindW k l) l = 0
    · rw [if_pos h1] at h; exact absurd rfl h
    · rw [if_neg h1]
theorem wrB_is {k : Int} {l : List Val} (h : (wrB k l).2 = 0) : 0 < l.length ∧ refE (kindW k l) l = 0 ∧ (wrB k l).1 = blkB (kindW k l) l := by
  unfold wrB at h ⊢
  by_cases h0 : l.length = 0
  · rw [if_pos h0] at h; cases h
  · rw [if_neg h0] at h ⊢
    by_cases h1 : refE (kindW k l) l = 0
    · rw [if_pos h1]; exact ⟨by omega, h1, rfl⟩
    · rw [if_neg h1] at h; exact absurd h h1
theorem wrB_len (k : Int) (l : List Val) : (wrB k l).1.length ≤ 10200 := by
  by_cases h : (wrB k l).2 = 0
  · obtain ⟨h0, h1, e⟩ := wrB_is h
    rw [e]
    exact blkB_le _ _ h1 h0
  · rw [wrB_not h]; simp
theorem allV_many (ks : List Int) : ∀ (l : List (List Val)) (i : Nat), (∀ x ∈ l, ∀ y ∈ x, y.in64) → allV (mB ks i l) = mV ks i l
  | [], i, _ => allV_end (.inl rfl)
  | x :: r, i, h => by
    have ih := allV_many ks r (i + 1) (fun y hy => h y (by simp [hy]))
    rw [mB, mV]
    by_cases h0 : (wrB (kAt ks i) x).2 = 0
    · obtain ⟨hp, h1, e⟩ := wrB_is h0
      rw [if_pos h0, e, allV_step (rdR_blk _ x hp (h x (by simp)) h1 _), List.drop_left, ih]
    · rw [if_neg h0, wrB_not h0, List.nil_append, List.nil_append, ih]
theorem mB_len (ks : List Int) : ∀ (l : List (List Val)) (i : Nat), (mB ks i l).length ≤ 10200 * l.length
  | [], i => by simp [mB]
  | x :: r, i => by
    have := mB_len ks r (i + 1)
    have := wrB_len (kAt ks i) x
    rw [mB, List.length_append, List.length_cons]
    omega
theorem mV_len (ks : List Int) : ∀ (l : List (List Val)) (i : Nat), (mV ks i l).length ≤ (l.map List.length).sum
  | [], i => by simp [mV]
  | x :: r, i => by
    have := mV_len ks r (i + 1)
    rw [mV, List.length_append, List.map_cons, List.sum_cons]
    split
    · omega
    · simp; omega
/-- Bytes that a slice sees, behind a row; long ones. -/
theorem appB {W : World} {a : Option Addr} {c : Nat} {bs : List UInt8} (h : BytE.Row W (.slice a bs.length c) bs) (a2 : Option Addr) (c2 : Nat) (ys : List UInt8) (hs : Sees W a2 ys) (hl : bs.length ≤ 1000000000000) (hy : ys.length ≤ 100000) :
    ∃ a' c' W', (Builtin.append_ #[22, 22] 22 #[.slice a bs.length c, .slice a2 ys.length c2]).run Tryz.prog W = .ok (.slice a' (bs ++ ys).length c') W' ∧ BytE.Row W' (.slice a' (bs ++ ys).length c') (bs ++ ys) ∧ Kp (blk a) W W' ∧ ∀ k ∈ blk a', k ∈ blk a ∨ W.heap.size ≤ k := by
  obtain ⟨i0, hi, hz0, hz1, hz2⟩ := infoU'
  have hsrc := (seeByt.2 hs).src (P := Tryz.prog) Tryz.underlying22 c2
  obtain ⟨v6, X4, hrun2, hrow6, kk6, hn6⟩ := run_appendG (E := BytE) (P := Tryz.prog) _ 22 22 22 5 i0 _ 1 Tryz.underlying22 hi hz0 hz1 hz2 rfl (.slice a bs.length c) bs h _ ys hsrc (by omega) (by omega)
  obtain ⟨a6, c6, rfl, _⟩ := hrow6.see
  rw [ownS] at kk6
  simp only [ownS] at hn6
  exact ⟨a6, c6, X4, hrun2, hrow6, kk6, hn6⟩
/-- Values that a slice sees, behind a row. -/
theorem appV {W : World} {a : Option Addr} {c : Nat} {l : List Val} (h : VE.Row W (.slice a l.length c) l) (a2 : Option Addr) (c2 : Nat) (ys : List Val) (hs : Vals W a2 ys) (hl : l.length ≤ 1000000000) (hy : ys.length ≤ 1000000000) :
    ∃ a' c' W', (Builtin.append_ #[23, 23] 23 #[.slice a l.length c, .slice a2 ys.length c2]).run Tryz.prog W = .ok (.slice a' (l ++ ys).length c') W' ∧ VE.Row W' (.slice a' (l ++ ys).length c') (l ++ ys) ∧ Kp (blk a) W W' ∧ ∀ k ∈ blk a', k ∈ blk a ∨ W.heap.size ≤ k := by
  obtain ⟨i0, hi, hz0, hz1, hz2⟩ := infoV'
  have hsrc := (seeV.2 hs).src (P := Tryz.prog) Tryz.underlying23 c2
  obtain ⟨v6, X4, hrun2, hrow6, kk6, hn6⟩ := run_appendG (E := VE) (P := Tryz.prog) _ 23 23 23 30 i0 _ 40 Tryz.underlying23 hi hz0 hz1 hz2 rfl (.slice a l.length c) l h _ ys hsrc (by omega) (by omega)
  obtain ⟨a6, c6, rfl, _⟩ := hrow6.see
  rw [ownS] at kk6
  simp only [ownS] at hn6
  exact ⟨a6, c6, X4, hrun2, hrow6, kk6, hn6⟩
/-- How the two rows stand: bytes, and values whose slice lies in a box. -/
structure MI (w2 : World) (q6 : Nat) (W : World) (ba : Option Addr) (bc : Nat) (bs : List UInt8) (va : Option Addr) (vc : Nat) (vs : List Val) : Prop where
  b : BytE.Row W (.slice ba bs.length bc) bs
  v : VE.Row W (.slice va vs.length vc) vs
  bn : ∀ k ∈ blk ba, w2.heap.size ≤ k
  vn : ∀ k ∈ blk va, w2.heap.size ≤ k
  ne : ∀ k ∈ blk ba, k ∉ blk va
  bx : Bx W q6 [.slice va vs.length vc]
  kp : Kp [q6] w2 W
theorem blkLtB {W : World} {a : Option Addr} {c : Nat} {bs : List UInt8} (h : BytE.Row W (.slice a bs.length c) bs) : ∀ k ∈ blk a, k < W.heap.size := fun k hk => h.lt k (by rw [ownS]; exact hk)
theorem blkLtV {W : World} {a : Option Addr} {c : Nat} {bs : List Val} (h : VE.Row W (.slice a bs.length c) bs) : ∀ k ∈ blk a, k < W.heap.size := fun k hk => h.lt k (by rw [ownS]; exact hk)
theorem MI.keep {w2 : World} {q6 : Nat} {W W' : World} {ba : Option Addr} {bc : Nat} {bs : List UInt8} {va : Option Addr} {vc : Nat} {vs : List Val} (h : MI w2 q6 W ba bc bs va vc vs) (k : Kp [] W W') : MI w2 q6 W' ba bc bs va vc vs :=
  ⟨h.b.keptNew k, h.v.keptNew k, h.bn, h.vn, h.ne, h.bx.kept k (by simp) (h.bx.lt (by simp)), h.kp.trans k (by simp)⟩
theorem MI.addB {w2 : World} {q6 : Nat} {W W' : World} {ba : Option Addr} {bc : Nat} {bs : List UInt8} {va : Option Addr} {vc : Nat} {vs : List Val} (hq : q6 < w2.heap.size) (h : MI w2 q6 W ba bc bs va vc vs)
    {a' : Option Addr} {c' : Nat} {bs' : List UInt8} (hr : BytE.Row W' (.slice a' bs'.length c') bs') (k : Kp (blk ba) W W') (hn : ∀ k ∈ blk a', k ∈ blk ba ∨ W.heap.size ≤ k) : MI w2 q6 W' a' c' bs' va vc vs := by
  refine ⟨hr, h.v.kept k (fun j hj hm => h.ne j hm (by rw [ownS] at hj; exact hj)), fun j hj => ?_, h.vn, fun j hj hm => ?_, h.bx.kept k (fun hm => ?_) (h.bx.lt (by simp)), h.kp.trans k (fun j hj => .inr (h.bn j hj))⟩
  · rcases hn j hj with e | e
    · exact h.bn j e
    · have := h.kp.size; omega
  · rcases hn j hj with e | e
    · exact h.ne j e hm
    · have := blkLtV h.v j hm; omega
  · have := h.bn _ hm; omega
theorem MI.addV {w2 : World} {q6 : Nat} {W W' : World} {ba : Option Addr} {bc : Nat} {bs : List UInt8} {va : Option Addr} {vc : Nat} {vs : List Val} (hq : q6 < w2.heap.size) (h : MI w2 q6 W ba bc bs va vc vs)
    {a' : Option Addr} {c' : Nat} {vs' : List Val} (hr : VE.Row W' (.slice a' vs'.length c') vs') (k : Kp (blk va) W W') (hn : ∀ k ∈ blk a', k ∈ blk va ∨ W.heap.size ≤ k) : Bx W' q6 [.slice va vs.length vc] ∧ MI w2 q6 (W'.setCell ⟨q6, 0, none⟩ (.slice a' vs'.length c')) ba bc bs a' c' vs' := by
  have hbx := h.bx.kept k (fun hm => by have := h.vn _ hm; omega) (h.bx.lt (by simp))
  have kS : Kp [q6] W' (W'.setCell ⟨q6, 0, none⟩ (.slice a' vs'.length c')) := (Kp.refl _ _).setCell (by simp) _
  have hvn : ∀ j ∈ blk a', w2.heap.size ≤ j := fun j hj => by
    rcases hn j hj with e | e
    · exact h.vn j e
    · have := h.kp.size; omega
  refine ⟨hbx, (h.b.kept k (fun j hj hm => h.ne j (by rw [ownS] at hj; exact hj) hm)).kept kS (fun j hj hm => by rw [ownS] at hj; have := h.bn j hj; simp at hm; omega), hr.kept kS (fun j hj hm => by rw [ownS] at hj; have := hvn j hj; simp at hm; omega), h.bn, hvn, fun j hj hm => ?_, ?_, (h.kp.trans k (fun j hj => .inr (h.vn j hj))).trans kS (fun j hj => .inl hj)⟩
  · rcases hn j hm with e | e
    · exact h.ne j hj e
    · have := blkLtB h.b j hj; omega
  · have := hbx.set 0 (by simp) (.slice a' vs'.length c')
    exact this
end Go.Proofs.YtohbdbecioanaaaGreatDoor
end

section
namespace Go.Proofs.YtohbdbecioanaaaGreatDoor
open Go.ChangeShapes Go.WideShapes Go.ChangeAt Go.RowKit Go.Hay
theorem bulk_pos {H : Type} (d : DataW H) : 1 ≤ Rows.uptoBulk d := by
  cases d with
  | lit l => cases l <;> simp [Rows.uptoBulk]
  | _ => simp [Rows.uptoBulk]
theorem bulkAll_ge {H : Type} (l : List (DataW H)) : l.length ≤ Rows.uptoBulkAll l := by
  induction l with
  | nil => simp
  | cons d l ih => have := bulk_pos d; simp only [Rows.uptoBulkAll, List.length_cons]; omega
theorem bulk_cap {H : Type} (d : DataW H) : capD d + 1 ≤ Rows.uptoBulk d := by
  cases d with
  | slice e sp => have := bulkAll_ge e; have := bulkAll_ge sp; simp only [capD, Rows.uptoBulk]; omega
  | lit l => cases l <;> simp [capD, Rows.uptoBulk]
  | _ => simp [capD, Rows.uptoBulk]
end Go.Proofs.YtohbdbecioanaaaGreatDoor
end

section
namespace Go.Proofs.YtohbdbecioanaaaGreatDoor
open Go.ChangeShapes Go.WideShapes Go.ChangeAt Go.RowKit Go.Hay
set_option linter.unusedVariables false

theorem bulkAll_map {H : Type} (n : Nat) (D : Nat → DataW H) (f : Nat → Nat) (h : ∀ i, i < n → f i ≤ Rows.uptoBulk (D i)) : ((List.range n).map f).sum ≤ Rows.uptoBulkAll ((List.range n).map D) := by
  have gen : ∀ l : List Nat, (∀ i ∈ l, f i ≤ Rows.uptoBulk (D i)) → (l.map f).sum ≤ Rows.uptoBulkAll (l.map D) := by
    intro l
    induction l with
    | nil => intro _; simp
    | cons i l ih =>
      intro hl
      have h1 := hl i (by simp)
      have h2 := ih (fun j hj => hl j (by simp [hj]))
      simp only [List.map_cons, List.sum_cons, Rows.uptoBulkAll]
      omega
  exact gen _ (fun i hi => h i (List.mem_range.1 hi))
theorem mem_weightsAll {H : Type} {P : Program} {e : TypeId} {l : List (DataW H)} {d : DataW H} (hd : d ∈ l) {x : Nat} (hx : x ∈ d.weights P e) : x ∈ DataW.weightsAll P e l := by
  induction l with
  | nil => cases hd
  | cons y l ih =>
    rw [DataW.weightsAll, List.mem_append]
    rcases List.mem_cons.1 hd with rfl | h
    · exact .inl hx
    · exact .inr (ih h)
/-- Within the form's reach. -/
def Fit {H : Type} (t : TypeId) (d : DataW H) : Prop := (DataW.weights Tryz.prog t d).all (· ≤ reachBytes) = true

theorem openEls {α : Type} [Inhabited α] (E : El α) {t e : TypeId} (ht : Tryz.prog.underlying t = some (.slice e)) (hcells : Tryz.prog.cellsOf e = E.n) (B : Nat) (hB : Tryz.prog.bytesOf e = B)
    {H : Type} {enc : TypeId × Value → H} {W : World} (ok : α → Prop) (Q : α → Prop) (bk : α → Nat)
    (op : ∀ fuel cs x, DataW.trod enc Tryz.prog W 0 (fun _ => true) true fuel e cs = some x → cs.length = E.n → ∃ y : α, ok y ∧ cs = E.c y ∧ (Fit e x.1 → Q y) ∧ bk y ≤ Rows.uptoBulk x.1)
    {a : Option Addr} {len cap : Nat} {d : DataW H} {ps : List MemPlace} (h : DataW.Trod enc Tryz.prog W 0 (fun _ => true) true t (.slice a len cap) d ps) :
    ∃ l : List α, len = l.length ∧ E.See W a l ∧ (∀ y ∈ l, ok y) ∧ l.length ≤ cap ∧ cap ≤ maxLen ∧ (a = none → cap = 0) ∧ (Fit t d → cap * B ≤ 140737488351232 ∧ ∀ y ∈ l, Q y) ∧ (l.map bk).sum ≤ Rows.uptoBulk d ∧ cap + 1 ≤ Rows.uptoBulk d := by
  obtain ⟨fuel, hf⟩ := h
  rcases Go.Deep.open_slice ht hf with ⟨hcs, hx⟩ | ⟨x, len', cap', m, n, D, Pl, hcs, _, hl, hmx, hm, hx, hcell⟩
  · simp [Value.cells] at hcs
    obtain ⟨rfl, rfl, rfl⟩ := hcs
    cases hx
    exact ⟨[], rfl, .inl rfl, by simp, Nat.le_refl _, Nat.zero_le _, fun _ => rfl, fun _ => ⟨by omega, by simp⟩, by simp, by simp [Rows.uptoBulk]⟩
  · simp [Value.cells] at hcs
    obtain ⟨rfl, rfl, rfl⟩ := hcs
    cases hx
    have hm' : m = cap := by simpa using hm
    subst hm'
    rw [hcells] at hcell
    obtain ⟨Y, hY⟩ := Go.Deep.choose_lt (α := α) (n := len) (p := fun i y => ok y ∧ (∀ k u, (E.c y)[k]? = some u → W.cell? ((x.add (i * E.n)).add k) = some u) ∧ (Fit e (D i) → Q y) ∧ bk y ≤ Rows.uptoBulk (D i)) (fun i hi => by
      obtain ⟨cs', h1, h2⟩ := hcell i (by omega)
      obtain ⟨_, hlen, hc⟩ := World.cells?_some h1
      obtain ⟨y, g1, rfl, g2, g3⟩ := op _ _ _ h2 hlen
      refine ⟨y, g1, fun k u hu => ?_, g2, g3⟩
      have hk : k < E.n := by have := (List.getElem?_eq_some_iff.1 hu).1; rwa [E.len] at this
      exact (hc k hk).trans hu)
    refine ⟨(List.range len).map Y, by simp, ?_, ?_, by simpa using hl, hmx, fun h => (by cases h), fun hfit => ?_, ?_, ?_⟩
    · cases hlen : len with
      | zero => exact .inl rfl
      | succ k =>
        obtain ⟨b, off, spot⟩ := x
        have h0 : 0 < (E.c (Y 0)).length := by rw [E.len]; exact E.pos
        have hc0 := (hY 0 (by omega)).2.1 0 _ (List.getElem?_eq_getElem h0)
        have hspot : spot = none := by
          have := World.cell?_spot hc0
          simpa [Addr.add] using this
        subst hspot
        refine .inr ⟨b, off, rfl, fun j u hu => ?_⟩
        rw [← hlen] at hu
        have hj : j < ((List.range len).map Y).length * E.n := by have := (List.getElem?_eq_some_iff.1 hu).1; rwa [El.cs_length] at this
        have hpos := E.pos
        have hq : j / E.n < len := by
          rw [List.length_map, List.length_range] at hj
          exact Nat.div_lt_of_lt_mul (by rw [Nat.mul_comm]; exact hj)
        have hr : j % E.n < E.n := Nat.mod_lt _ hpos
        have hje : j = j / E.n * E.n + j % E.n := by rw [Nat.mul_comm]; exact (Nat.div_add_mod j E.n).symm
        have hget : ((List.range len).map Y)[j / E.n]? = some (Y (j / E.n)) := by rw [List.getElem?_map, List.getElem?_range hq]; rfl
        rw [hje, El.cs_get E hget hr] at hu
        have hcc := (hY _ hq).2.1 _ _ hu
        rw [Addr.add_lit, Addr.add_lit, Nat.add_assoc, ← hje] at hcc
        exact hcc
    · intro y hy
      obtain ⟨i, hi, rfl⟩ := List.mem_map.1 hy
      exact (hY i (List.mem_range.1 hi)).1
    · unfold Fit at hfit
      simp only [DataW.weights, ht] at hfit
      rw [List.all_cons, Bool.and_eq_true] at hfit
      refine ⟨?_, fun y hy => ?_⟩
      · have := of_decide_eq_true hfit.1
        simp only [List.length_map, List.length_range, hB, reachBytes] at this
        rwa [show len + (m - len) = m by omega] at this
      · obtain ⟨i, hi, rfl⟩ := List.mem_map.1 hy
        refine (hY i (List.mem_range.1 hi)).2.2.1 (List.all_eq_true.2 fun x hx => List.all_eq_true.1 hfit.2 x ?_)
        rw [List.mem_append]
        exact .inl (mem_weightsAll (List.mem_map_of_mem hi) hx)
    · have := bulkAll_map len D (fun i => bk (Y i)) (fun i hi => (hY i hi).2.2.2)
      simp only [List.map_map, Rows.uptoBulk]
      have e : (List.range len).map (bk ∘ Y) = (List.range len).map (fun i => bk (Y i)) := rfl
      rw [e]
      omega
    · have := bulk_cap (.slice ((List.range len).map D) ((List.range (m - len)).map fun j => D (len + j)) : DataW H)
      simp only [capD, List.length_map, List.length_range] at this
      omega

theorem bulkVals {H : Type} {enc : TypeId × Value → H} {W : World} {a : Option Addr} {len cap : Nat} {d : DataW H} {ps : List MemPlace}
    (h : DataW.Trod enc Tryz.prog W 0 (fun _ => true) true 23 (.slice a len cap) d ps) : len ≤ Rows.uptoBulk d := by
  obtain ⟨fuel, hf⟩ := h
  rcases Go.Deep.open_slice Tryz.underlying23 hf with ⟨hcs, hx⟩ | ⟨x, len', cap', m, n, D, Pl, hcs, _, hl, hmx, hm, hx, hcell⟩
  · simp [Value.cells] at hcs
    obtain ⟨rfl, rfl, rfl⟩ := hcs
    omega
  · simp [Value.cells] at hcs
    obtain ⟨rfl, rfl, rfl⟩ := hcs
    cases hx
    have := bulkAll_ge ((List.range len).map D)
    simp only [Rows.uptoBulk]
    simp at this
    omega

def IntE : El Int where
  n := 1
  c x := [.int .i64 x]
  len _ := rfl
  one _ u hu := by simp at hu; subst hu; rfl
  pos := by decide
/-- A slice of values, and what it sees. -/
structure Vs where
  a : Option Addr
  c : Nat
  l : List Val
instance : Inhabited Vs := ⟨⟨none, 0, []⟩⟩
structure Vs.ok (w : World) (x : Vs) : Prop where
  see : Vals w x.a x.l
  cap : x.l.length ≤ x.c
  most : x.c ≤ maxLen
  val : ∀ y ∈ x.l, y.ok
def VsE : El Vs where
  n := 1
  c x := [.slice x.a x.l.length x.c]
  len _ := rfl
  one _ u hu := by simp at hu; subst hu; rfl
  pos := by decide
theorem cellsVs : Tryz.prog.cellsOf 23 = 1 := by kernel_rfl
theorem bytesVs : Tryz.prog.bytesOf 23 = 24 := by kernel_rfl
theorem bytesI : Tryz.prog.bytesOf 3 = 8 := by kernel_rfl
theorem one_of {l : List Value} (h : l.length = 1) : ∃ v, l = [v] := by
  match l, h with
  | [v], _ => exact ⟨v, rfl⟩
section
variable {H : Type} {enc : TypeId × Value → H} {W : World} {a : Option Addr} {len cap : Nat} {d : DataW H} {ps : List MemPlace}
theorem openVlists (h : DataW.Trod enc Tryz.prog W 0 (fun _ => true) true 32 (.slice a len cap) d ps) :
    ∃ l : List Vs, len = l.length ∧ VsE.See W a l ∧ (∀ y ∈ l, y.ok W) ∧ l.length ≤ cap ∧ cap ≤ maxLen ∧ (a = none → cap = 0) ∧ (Fit 32 d → cap * 24 ≤ 140737488351232 ∧ ∀ y ∈ l, True) ∧ (l.map fun y => y.l.length).sum ≤ Rows.uptoBulk d ∧ cap + 1 ≤ Rows.uptoBulk d :=
  openEls VsE Tryz.underlying32 cellsVs 24 bytesVs (fun y => y.ok W) (fun _ => True) (fun y => y.l.length) (fun fuel cs x hx hcs => by
    obtain ⟨v, rfl⟩ := one_of hcs
    have hv : ∃ a len cap, v = .slice a len cap := by
      rcases Go.Deep.open_slice Tryz.underlying23 hx with ⟨hcs, _⟩ | ⟨a, len, cap, _, _, _, _, hcs, _⟩
      · exact ⟨none, 0, 0, by simpa using hcs⟩
      · exact ⟨_, _, _, by simpa using hcs⟩
    obtain ⟨a, len, cap, rfl⟩ := hv
    have ht : DataW.Trod enc Tryz.prog W 0 (fun _ => true) true 23 (.slice a len cap) x.1 x.2 := ⟨fuel, hx⟩
    obtain ⟨l, rfl, hs, hl, hm, hok⟩ := openVals ht
    exact ⟨⟨a, cap, l⟩, ⟨hs, hl, hm, hok⟩, rfl, fun _ => trivial, by have := bulkVals ht; simp only; omega⟩) h
theorem openInts (h : DataW.Trod enc Tryz.prog W 0 (fun _ => true) true 33 (.slice a len cap) d ps) :
    ∃ l : List Int, len = l.length ∧ IntE.See W a l ∧ (∀ y ∈ l, True) ∧ l.length ≤ cap ∧ cap ≤ maxLen ∧ (a = none → cap = 0) ∧ (Fit 33 d → cap * 8 ≤ 140737488351232 ∧ ∀ y ∈ l, True) ∧ (l.map fun _ => 0).sum ≤ Rows.uptoBulk d ∧ cap + 1 ≤ Rows.uptoBulk d :=
  openEls IntE Tryz.underlying33 cellsI 8 bytesI (fun _ => True) (fun _ => True) (fun _ => 0) (fun fuel cs x hx hcs => by
    obtain ⟨n, rfl, _, hw⟩ := DataW.trod_int Tryz.underlying3 hx
    exact ⟨n, trivial, rfl, fun _ => trivial, Nat.zero_le _⟩) h
end
end Go.Proofs.YtohbdbecioanaaaGreatDoor
end

section
namespace Go.Hay
open Go.RowKit
set_option linter.unusedVariables false

variable {F : Fence} {n : Nat} {P : Program} {σ α : Type}

/-- The law. -/
theorem wpRangeY {g : Operand} {ps : Array Tmp} {assign body : Code} {Q : Exit → Act → World → Prop} {a : Act} {w : World}
    (hro : F.round = none) (h1 : 1 ≤ n) {gf : Nat} {lb : Array Value} (hg : a.eval g = .func (.func gf) #[] lb) (hFg : F.fn gf) (eg : ∀ args w, (callFunc gf args).run P w = .ok (.enter gf args) w)
    {encs : α → Array Value} {T : σ → σ → World → World → Prop} {Tx : σ → World → World → Prop} {K : σ → World → World → Prop} {ok : σ → α → Prop} {nx : σ → α → σ} {S Sp : σ → Prop} {s0 : σ} {w0 : World}
    (hseq : SeqX F (n - 1) P gf lb encs T Tx K ok nx S Sp s0 w0) (hps : ∀ x, (encs x).size = ps.size)
    (hKt : ∀ {s : σ} {A B C : World}, K s A B → K s B C → K s A C) (hKa : ∀ s W o, K s W (W.alloc o)) (hb0 : K s0 w0 w)
    (I : σ → World → Prop) (Ix : Code → σ → World → Prop) (hI : OwnFrom w.heap.size I) (hIx : ∀ c, OwnFrom w.heap.size (Ix c)) (h0 : I s0 w)
    (hTk : ∀ s s' A B, I s A → T s s' A B → ∀ (k : Nat) (o : Obj), (k = w.heap.size ∨ k = w.heap.size + 1) → A.heap[k]? = some o → B.heap[k]? = some o)
    (hXk : ∀ c s A B, Ix c s A → Tx s A B → ∀ (k : Nat) (o : Obj), (k = w.heap.size ∨ k = w.heap.size + 1) → A.heap[k]? = some o → B.heap[k]? = some o)
    (hIT : ∀ s s' A B, w.heap.size + 2 ≤ A.heap.size → I s A → T s s' A B → I s' B) (hXT : ∀ c s A B, Ix c s A → Tx s A B → Ix c s B)
    (hKb : ∀ (s : σ) (W : World) (o' : Obj), I s W → K s W (W.putObj (w.heap.size + 1) o')) (hKc : ∀ (s : σ) (x : α) (W : World) (o' : Obj), I (nx s x) W → K s W (W.putObj (w.heap.size + 1) o'))
    (hKx : ∀ (c : Code) (s : σ) (x : α) (W : World) (o' : Obj), Ix c (nx s x) W → K s W (W.putObj (w.heap.size + 1) o'))
    (ob : α → Obj) (a₁ : α → Nat → Act) (hassign : ∀ (l : Nat) (x : α) (W : World) (C : Act → World → Prop), C (a₁ x W.heap.size) (W.alloc (ob x)) →
      assign.wpIn (F.inRound l) (n - 1 - 1) P (Exit.then C (fun _ _ _ => False)) { tmps := (ps.zip (encs x)).foldl (fun t (p, v) => t.setIfInBounds p v) a.tmps, defers := [] } W)
    (hbody : ∀ (l : Nat) (s : σ) (x : α) (W : World) (q : Nat), I s W → ok s x → W.heap[q]? = some (ob x) → w.heap.size + 2 ≤ q → body.wpIn (F.inRound l) (n - 1 - 1) P (leftX w.heap.size K I Ix s (nx s x) W) (a₁ x q) W)
    (hdone : ∀ (D : Nat) (s : σ) (W : World), w.heap.size ≤ D → S s → I s W → W.heap[D]? = some (.deferred (some [])) → Q .normal { a with defers := { target := .collected D, args := #[] } :: a.defers } W)
    (hstop : ∀ (D : Nat) (c : Code) (s : σ) (W : World), w.heap.size ≤ D → Sp s → Ix c s W → W.heap[D]? = some (.deferred (some [])) → c.wpIn F n P Q { a with defers := { target := .collected D, args := #[] } :: a.defers } W) :
    (Code.rangeFunc g ps assign body).wpIn F n P Q a w := by
  refine wpIn_rangeFunc fun fn hfn => ?_
  rw [hro]
  -- the loop's record, as it may stand
  let R : LoopState → Option Code → Obj := fun st pe => .loop { state := st, pending := pe, fn, tmps := a.tmps, params := ps, assign, body, defers := w.heap.size }
  let Bk : LoopState → Option Code → World → Prop := fun st pe W => W.heap[w.heap.size + 1]? = some (R st pe) ∧ W.heap[w.heap.size]? = some (.deferred (some []))
  have bkK : ∀ {st pe A B}, KeepsFrom w.heap.size A B → Bk st pe A → Bk st pe B := fun hk hb => ⟨hk.same _ _ (by omega) hb.1 rfl, hk.same _ _ (Nat.le_refl _) hb.2 rfl⟩
  have bkP : ∀ {st pe st' pe' A}, Bk st pe A → Bk st' pe' (A.putObj (w.heap.size + 1) (R st' pe')) := fun hb =>
    ⟨World.putObj_heap_same (Array.getElem?_eq_some_iff.1 hb.1).1, (World.putObj_heap_other (by omega)).trans hb.2⟩
  have iP : ∀ {st pe s A} (o : Obj), Bk st pe A → I s A → I s (A.putObj (w.heap.size + 1) o) := fun o hb hi => hI.putObj o hi (by omega) hb.1 rfl
  have ixP : ∀ {st pe s c A} (o : Obj), Bk st pe A → Ix c s A → Ix c s (A.putObj (w.heap.size + 1) o) := fun o hb hi => (hIx _).putObj o hi (by omega) hb.1 rfl
  have bsz : ∀ {st pe A}, Bk st pe A → w.heap.size + 2 ≤ A.heap.size := fun hb => by have := (Array.getElem?_eq_some_iff.1 hb.1).1; omega
  have b0 : Bk .ready none ((w.alloc (.deferred (some []))).alloc (R .ready none)) :=
    ⟨by have := World.alloc_heap_new (w.alloc (.deferred (some []))) (R .ready none); rwa [World.size_alloc] at this, (Below.heap_alloc _ _ _ (by simp)).trans (World.alloc_heap_new w _)⟩
  refine ⟨w.heap.size + 1, [{ target := .collected w.heap.size, args := #[] }], ((w.alloc (.deferred (some []))).alloc (R .ready none)), { target := .fn (.func gf) lb, args := #[.func (.yield (w.heap.size + 1)) #[] #[]] }, ((w.alloc (.deferred (some []))).alloc (R .ready none)), gf, #[.func (.yield (w.heap.size + 1)) #[] #[]] ++ lb, ((w.alloc (.deferred (some []))).alloc (R .ready none)),
    run_enterLoop_outer _ _ _ _ _, by simp only [resolve, hg]; simp [go_sem], fun f' hf' => by simp [Target.leads] at hf'; subst hf'; exact hFg, by simp [invoke, go_sem, eg], fun _ => h1, ?_⟩
  refine (hseq (w.heap.size + 1) (fun s A => I s A ∧ Bk .ready none A) (fun s A => ∃ c, Ix c s A ∧ Bk .done (some c) A) _ (hKt hb0 (hKt (hKa _ _ _) (hKa _ _ _)))
    (fun s s' A B hs ht => ⟨hIT s s' A B (bsz hs.2) hs.1 ht, hTk s s' A B hs.1 ht _ _ (.inr rfl) hs.2.1, hTk s s' A B hs.1 ht _ _ (.inl rfl) hs.2.2⟩)
    (fun s A B ⟨c, hs, hb⟩ ht => ⟨c, hXT c s A B hs ht, hXk c s A B hs ht _ _ (.inr rfl) hb.1, hXk c s A B hs ht _ _ (.inl rfl) hb.2⟩) ?_ ⟨hI.alloc _ (hI.alloc _ h0), b0⟩).mono ?_
  · -- one round
    rintro s x A ⟨hi, hb⟩ hok
    have hb1 : Bk .ready none (A.alloc (ob x)) := ⟨(Below.heap_alloc A _ _ (Array.getElem?_eq_some_iff.1 hb.1).1).trans hb.1, (Below.heap_alloc A _ _ (Array.getElem?_eq_some_iff.1 hb.2).1).trans hb.2⟩
    have hi1 : I s (A.alloc (ob x)) := hI.alloc _ hi
    have hz := bsz hb
    refine ⟨fn, _, assign, body, run_yield hb.1 (hps x), roundIn_of_wpIn hfn (hassign _ x A _ ⟨_, run_beginRound hb1.1 rfl, ?_⟩)⟩
    have hb2 : Bk .busy none ((A.alloc (ob x)).putObj (w.heap.size + 1) (R .busy none)) := bkP hb1
    refine wpIn_mono (hbody _ s x _ A.heap.size (iP _ hb1 hi1) hok ((World.putObj_heap_other (by omega)).trans (World.alloc_heap_new A (ob x))) hz) ?_
    rintro e a3 W3 hp
    cases e with
    | normal =>
      have hb3 := bkK hp.1 hb2
      exact ⟨_, _, run_endRound none hb3.1, .inl ⟨rfl, ⟨iP _ hb3 hp.2.2, bkP hb3⟩, hKt (hKa _ _ _) (hKt (hKb _ _ _ hi1) (hKt hp.2.1 (hKc _ _ _ _ hp.2.2)))⟩⟩
    | ret => have hb3 := bkK hp.1 hb2; exact ⟨_, _, run_endRound (some .ret) hb3.1, .inr ⟨rfl, ⟨.ret, ixP _ hb3 hp.2.2, bkP hb3⟩, hKt (hKa _ _ _) (hKt (hKb _ _ _ hi1) (hKt hp.2.1 (hKx _ _ _ _ _ hp.2.2)))⟩⟩
    | exit id => have hb3 := bkK hp.1 hb2; exact ⟨_, _, run_endRound (some (.exit id)) hb3.1, .inr ⟨rfl, ⟨.exit id, ixP _ hb3 hp.2.2, bkP hb3⟩, hKt (hKa _ _ _) (hKt (hKb _ _ _ hi1) (hKt hp.2.1 (hKx _ _ _ _ _ hp.2.2)))⟩⟩
    | goto t => have hb3 := bkK hp.1 hb2; exact ⟨_, _, run_endRound (some (.goto t)) hb3.1, .inr ⟨rfl, ⟨.goto t, ixP _ hb3 hp.2.2, bkP hb3⟩, hKt (hKa _ _ _) (hKt (hKb _ _ _ hi1) (hKt hp.2.1 (hKx _ _ _ _ _ hp.2.2)))⟩⟩
    | panic ch => exact hp.elim
    | outgrown => exact hp.elim
  · -- behind the iterator
    rintro e A ⟨⟨v, rfl⟩, (⟨s, hS, hi, hb⟩ | ⟨s, hSp, c, hi, hb⟩)⟩
    · exact ⟨none, _, run_endLoop hb.1 (by simp), hdone _ s _ (Nat.le_refl _) hS (iP _ hb hi) ((World.putObj_heap_other (by omega)).trans hb.2)⟩
    · exact ⟨some c, _, run_endLoop hb.1 (by simp), hstop _ c s _ (Nat.le_refl _) hSp (ixP _ hb hi) ((World.putObj_heap_other (by omega)).trans hb.2)⟩
end Go.Hay
end

section
namespace Go.Hay
open Go.RowKit
set_option linter.unusedVariables false

variable {P : Program} {l n : Nat}
theorem upon_round {o : Oper} {a : Act} {K : Act → World → Prop} {Q : Exit → Act → World → Prop} : ∀ {r : Result Next}, o.upon P a K Q r → o.uponIn (Fence.wide.inRound l) n P a K Q r := by
  intro r h
  have hdep : (Fence.wide.inRound l).depth.isSome = true → 1 ≤ n := fun h => by cases h
  unfold Oper.upon at h
  split at h
  · exact h
  · exact h
  · exact h
  · exact ⟨hdep, callsIn_wide.2 h⟩
  · refine ⟨hdep, fun c cs _ => ?_⟩
    obtain ⟨v, w', hr, hs⟩ := h c cs
    exact ⟨v, w', hr, stepsIn_wide.2 hs⟩
  · exact h
  · exact h.elim
theorem op_round {ops : Array Oper} {i : Nat} {K : Act → World → Prop} {Q : Exit → Act → World → Prop} {a : Act} {w : World} (hnd : ∀ o, ops[i]? = some o → ∀ c, o.op ≠ .defer c) (hlo : ¬ LetsOut Q) (h : wpOp P ops Q i K a w) : wpOpIn (Fence.wide.inRound l) n P ops Q i K a w := by
  unfold wpOp at h
  unfold wpOpIn
  cases ho : ops[i]? with
  | none => rw [ho] at h; exact h
  | some o =>
    rw [ho] at h
    simp only at h ⊢
    split
    · rename_i hw
      rw [if_pos hw] at h
      rcases h with h | h
      · refine ⟨fun _ _ => trivial, ?_⟩
        rw [Oper.semAt_plain _ _ _ (hnd o ho)]
        exact upon_round h
      · exact absurd h.2 hlo
    · rename_i hw
      rw [if_neg hw] at h
      exact ⟨fun _ _ => trivial, h⟩
theorem any_round {ops : Array Oper} {Q : Exit → Act → World → Prop} {S : World → Prop} (hnd : ∀ (i : Nat) (o : Oper), ops[i]? = some o → ∀ c, o.op ≠ .defer c) (hlo : ¬ LetsOut Q) : ∀ (fuel : Nat) (listed : Array Bool) (a : Act) (w : World), wpAnyH P .any ops Q S fuel listed a w → wpAnyIn (Fence.wide.inRound l) n P .any ops Q fuel listed a w
  | 0, _, _, _, h => h
  | fuel + 1, listed, a, w, h => ⟨h.1, fun i hi => op_round (hnd i) hlo (wpOp_mono (fun a w hk => any_round hnd hlo fuel _ a w hk.2) (h.2 i hi))⟩
def noDefer (ops : Array Oper) : Bool := ops.all fun o => match o.op with | .defer _ => false | _ => true
theorem noDefer_spec {ops : Array Oper} (h : noDefer ops = true) (i : Nat) (o : Oper) (ho : ops[i]? = some o) (c : Call) : o.op ≠ .defer c := fun e => by
  have := Array.all_eq_true.1 h i (Array.getElem?_eq_some_iff.1 ho).1
  rw [(Array.getElem?_eq_some_iff.1 ho).2, e] at this
  cases this
theorem region_round {id : Nat} {ops : Array Oper} {Q : Exit → Act → World → Prop} {a : Act} {w : World} (S : World → Prop) (hm : P.follows .mixedOrders = true) (hnd : noDefer ops = true) (hlo : ¬ LetsOut Q) (hS : S w.drew)
    (h : S w.drew → wpAnyH P .any ops Q S ops.size (Array.replicate ops.size false) a w.drew) : (Code.region id ops true).wpIn (Fence.wide.inRound l) n P Q a w :=
  wpIn_region_any hm (any_round (noDefer_spec hnd) hlo _ _ _ _ (h hS))
end Go.Hay
end

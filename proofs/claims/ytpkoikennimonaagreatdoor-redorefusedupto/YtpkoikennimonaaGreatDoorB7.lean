/- Same, the reference's: two rows of records. A range over an iterator that makes memory of its own, which the rounds leave alone: a law. No statement of the seat is proved here. All: the iterator over a log's records. gone: all that a log tells; Len, Size. Disks as plain values: files by rising names, and what each call makes of them. What every disk is, it is behind each call. -/
import Derived.Test.YtpkoikennimonaaGreatDoorB6
import Derived.Deep.RegionHeld3
import Derived.RangeFuncNested
import Derived.RangeFuncBound
import Derived.RangeFuncCalls
import Derived.RangeFuncLeaves
import Derived.RangeFuncSeq
import Derived.Shelf.RegionOpen
import Derived.LoopIn
import Derived.LoopNIn
import Derived.OrdersIn
import Derived.TacticsInMore
import Derived.OwnWalkIn
import Derived.RegionIn
import Derived.Test.YtpkoikennimonaaGreatDoorB1
import Derived.Sort.KeysCollected
section
namespace Go.Proofs.YtpkoikennimonaaGreatDoor
open Go.RowKit Go.Hay
set_option linter.unusedVariables false
set_option linter.unusedSimpArgs false

theorem convSees {w : World} {a : Option Addr} {l : List UInt8} (h : Sees w a l) (c : Nat) : (convert 45 9 (.slice a l.length c)).run Tryz.prog w = .ok (.string ⟨l.toArray⟩) w := by
  rcases h with rfl | ⟨g, o, rfl, hc⟩
  · cases a with
    | none => exact run_convert_bytes_nil w 45 5 Tryz.underlying45 Tryz.underlying5 0 c 9 Tryz.underlying9
    | some ad => exact run_convert_bytes_back (P := Tryz.prog) w 45 9 5 ad c [] Tryz.underlying45 Tryz.underlying5 Tryz.underlying9 (fun j hj => by simp at hj)
  · refine run_convert_bytes_back (P := Tryz.prog) w 45 9 5 ⟨g, o, none⟩ c l Tryz.underlying45 Tryz.underlying5 Tryz.underlying9 (fun j hj => ?_)
    rw [Addr.add_lit]
    exact hc j l[j] (by simp)
/-- A row of rows, as slices. -/
theorem RowP.bs {B : Nat → Prop} {w : World} {v : Value} {L : List (List UInt8)} (h : RowP B w v L) : ∃ a c l, v = .slice a (l : List Bs).length c ∧ BsE.See w a l ∧ (∀ y ∈ l, y.ok w ∧ ∀ k ∈ blk y.a, B k) ∧ bsl l = L := by
  obtain ⟨vs, hvl, hs, hfr, hel⟩ := h
  have hex : ∀ i, i < vs.length → ∃ y : Bs, vs[i]? = some (.slice y.a y.bs.length y.c) ∧ L[i]? = some y.bs ∧ y.ok w ∧ ∀ k ∈ blk y.a, B k := fun i hi => by
    obtain ⟨hr, hb⟩ := hel i vs[i] (L[i]'(by omega)) (by simp [hi]) (by simp [show i < L.length by omega])
    obtain ⟨a, c, e, hse, ho⟩ := hr.sees
    obtain ⟨a', c', e', hle⟩ := hr.shape
    have hnl : a = none → c = 0 := fun hn => by
      rcases hr with ⟨h1, _⟩ | ⟨g, o, cap, h1, _⟩
      · rw [e] at h1; injection h1
      · rw [e] at h1; injection h1 with h2; rw [h2] at hn; cases hn
    have hlc : (L[i]'(by omega)).length ≤ c := by rw [e] at e'; cases e'; exact hle
    refine ⟨⟨a, c, L[i]'(by omega)⟩, by simp [hi, e], by simp [show i < L.length by omega], ⟨hse, hlc, hnl⟩, fun k hk => ?_⟩
    exact (hb k (by rw [ho]; exact hk)).1
  obtain ⟨Y, hY⟩ := Go.Deep.choose_lt (α := Bs) (n := vs.length) hex
  have hbl : bsl ((List.range vs.length).map Y) = L := by
    refine List.ext_getElem? fun i => ?_
    unfold bsl
    rw [List.getElem?_map, List.getElem?_map]
    by_cases hi : i < vs.length
    · rw [List.getElem?_range hi, (hY i hi).2.1]; rfl
    · rw [List.getElem?_eq_none (by simpa using hi), List.getElem?_eq_none (by omega)]; rfl
  have hoks : ∀ y ∈ (List.range vs.length).map Y, y.ok w ∧ ∀ k ∈ blk y.a, B k := fun y hy => by
    obtain ⟨i, hi, rfl⟩ := List.mem_map.1 hy
    exact (hY i (List.mem_range.1 hi)).2.2
  rcases hs with ⟨rfl, rfl⟩ | ⟨g, o, cap, rfl, hl, hm, hg, hc, ht⟩
  · exact ⟨none, 0, [], rfl, .inl rfl, by simp, by simpa using hbl⟩
  · refine ⟨some ⟨g, o, none⟩, cap, (List.range vs.length).map Y, by simp, .inr ⟨g, o, rfl, fun j u hu => ?_⟩, hoks, hbl⟩
    have hj : j < vs.length := by
      have := (List.getElem?_eq_some_iff.1 hu).1
      rw [El.cs_length] at this
      simpa [BsE] using this
    have e1 : ((List.range vs.length).map Y)[j]? = some (Y j) := by rw [List.getElem?_map, List.getElem?_range hj]; rfl
    have e2 := El.cs_get BsE e1 (k := 0) (by decide)
    have e3 : BsE.n = 1 := rfl
    rw [e3, Nat.mul_one, Nat.add_zero, hu] at e2
    cases e2
    exact hc j _ (hY j hj).1
theorem strEqQ (a b : List UInt8) : ((⟨a.toArray⟩ : ByteArray).toList == (⟨b.toArray⟩ : ByteArray).toList) = decide (a = b) := by
  rw [← beq_toListBytes]
  show (a.toArray == b.toArray) = _
  by_cases h : a = b
  · subst h; simp
  · simp [h]
set_option maxHeartbeats 8000000 in
set_option maxRecDepth 100000 in
theorem cSameQ (a b : Option Addr) (ca cb : Nat) (L M : List Bs) (w : World) (ha : BsE.See w a L) (hb : BsE.See w b M) (oa : ∀ y ∈ L, y.ok w) (ob : ∀ y ∈ M, y.ok w) (hl : L.length ≤ 6000000000000) (hm : M.length ≤ 6000000000000) :
    Calls Tryz.prog 15 #[.slice a L.length ca, .slice b M.length cb] w fun e w' => e = .returned (.bool (decide (bsl L = bsl M))) ∧ Kp [] w w' := by
  obtain ⟨R, hR⟩ : ∃ R, Hid (decide (bsl L = bsl M) = R) := ⟨_, rfl⟩
  rw [hR.out]
  have HA : Hid (∀ (j : Nat) (h : j < L.length) (W : World), Kp [] w W → ∃ g o, a = some ⟨g, o, none⟩ ∧ W.cell? ⟨g, o + j, none⟩ = some (.slice L[j].a L[j].bs.length L[j].c) ∧ Sees W L[j].a L[j].bs) := fun j h W k => by
    obtain ⟨g, o, e, hc⟩ := bsAt ha (k := j) (x := L[j]) (by simp [h])
    exact ⟨g, o, e, (k.cell (p := ⟨g, o + j, none⟩) (World.block_lt_of_cell? _ _ hc) (by simp)).trans hc, (oa _ (List.getElem_mem h)).see.kept k (by simp)⟩
  have HB : Hid (∀ (j : Nat) (h : j < M.length) (W : World), Kp [] w W → ∃ g o, b = some ⟨g, o, none⟩ ∧ W.cell? ⟨g, o + j, none⟩ = some (.slice M[j].a M[j].bs.length M[j].c) ∧ Sees W M[j].a M[j].bs) := fun j h W k => by
    obtain ⟨g, o, e, hc⟩ := bsAt hb (k := j) (x := M[j]) (by simp [h])
    exact ⟨g, o, e, (k.cell (p := ⟨g, o + j, none⟩) (World.block_lt_of_cell? _ _ hc) (by simp)).trans hc, (ob _ (List.getElem_mem h)).see.kept k (by simp)⟩
  clear ha hb oa ob
  by_cases hlm : L.length = M.length
  · have hRt : Hid ((∀ j (h : j < L.length), L[j].bs = (M[j]'(by omega)).bs) → R = true) := fun h => by
      rw [← hR.out, decide_eq_true_iff]
      refine List.ext_getElem (by rw [bsl_len, bsl_len, hlm]) fun j h1 h2 => ?_
      rw [bsl_get (by simpa [bsl_len] using h1), bsl_get (by simpa [bsl_len] using h2)]
      exact h j (by simpa [bsl_len] using h1)
    have hRf : Hid (∀ j (h : j < L.length), L[j].bs ≠ (M[j]'(by omega)).bs → R = false) := fun j h hne => by
      rw [← hR.out, decide_eq_false_iff_not]
      intro he
      refine hne ?_
      rw [← bsl_get h, ← bsl_get (show j < M.length by omega)]
      simp only [he]
    have HL := hid hlm
    have hn1 : ((L.length : Int) != (M.length : Int)) = false := by rw [hlm]; simp
    clear hR
    go_enter Tryz.func15, Tryz.ntmps15
    go_wp2_with fail
    go_loopw [5] (fun i wn => ∃ (j : Nat), j ≤ L.length ∧ i = .int .i64 j ∧ Hid (Kp [] w wn) ∧ Hid (∀ k (h : k < L.length), k < j → L[k].bs = (M[k]'(by have := HL.out; omega)).bs)) (fun i _ => L.length - (intOf i).toNat)
    case atStart => exact ⟨0, Nat.zero_le _, rfl, Kp.refl _ _, fun k _ h => absurd h (by omega)⟩
    case round =>
      obtain ⟨j, hj, rfl, HK, HE⟩ := hrel
      by_cases hlt : j < L.length
      · have hlt2 : j < M.length := by have := HL.out; omega
        have kd : Kp [] w wr.drew := HK.out.drew
        obtain ⟨g, o, ea, cA, sA⟩ := HA.out j hlt _ kd
        obtain ⟨g2, o2, eb, cB, sB⟩ := HB.out j hlt2 _ kd
        have hf := hRf.out j hlt
        have hE2 := fun hh : L[j].bs = M[j].bs => (fun k (h : k < L.length) (hk : k < j + 1) => by
          by_cases hkj : k < j
          · exact HE.out k h hkj
          · obtain rfl : k = j := by omega
            exact hh : ∀ k (h : k < L.length), k < j + 1 → L[k].bs = (M[k]'(by have := HL.out; omega)).bs)
        have HE2 := hid hE2
        obtain ⟨X, hX⟩ : ∃ X, L[j] = X := ⟨_, rfl⟩
        obtain ⟨Y, hY⟩ : ∃ Y, M[j] = Y := ⟨_, rfl⟩
        rw [hX] at cA sA hf HE2
        rw [hY] at cB sB hf HE2
        obtain ⟨xa, xc, xb⟩ := X
        obtain ⟨ya, yc, yb⟩ := Y
        dsimp only at cA sA cB sB hf HE2
        have cv1 := convSees sA xc
        have cv2 := convSees sB yc
        have hse := strEqQ xb yb
        have KD := hid kd
        have hf' := hid hf
        clear sA sB hX hY hE2 kd hf HA HB
        subst ea eb
        have dj1 : (j : Int) < (L.length : Int) := by omega
        have dj2 : (j : Int) < (M.length : Int) := by omega
        have dj0 : (0 : Int) ≤ (j : Int) := by omega
        generalize xb.length = xl at *
        generalize yb.length = yl at *
        generalize (⟨xb.toArray⟩ : ByteArray) = xs at *
        generalize (⟨yb.toArray⟩ : ByteArray) = ys at *
        have hS : wr.drew.cell? ⟨g, o + j, none⟩ = some (.slice xa xl xc) ∧ wr.drew.cell? ⟨g2, o2 + j, none⟩ = some (.slice ya yl yc) ∧ (convert 45 9 (.slice xa xl xc)).run Tryz.prog wr.drew = .ok (.string xs) wr.drew ∧ (convert 45 9 (.slice ya yl yc)).run Tryz.prog wr.drew = .ok (.string ys) wr.drew := ⟨cA, cB, cv1, cv2⟩
        clear cA cB cv1 cv2
        by_cases he : xb = yb
        · have hse2 : (xs.toList == ys.toList) = true := by rw [hse]; simp [he]
          have H2 := hid (HE2.out he)
          clear HE2 hse hf' HE
          go_wp2_with fail
          go_region_held3 (fun w' => w'.cell? ⟨g, o + j, none⟩ = some (.slice xa xl xc) ∧ w'.cell? ⟨g2, o2 + j, none⟩ = some (.slice ya yl yc) ∧ (convert 45 9 (.slice xa xl xc)).run Tryz.prog w' = .ok (.string xs) w' ∧ (convert 45 9 (.slice ya yl yc)).run Tryz.prog w' = .ok (.string ys) w')
            (first | assumption) (fail)
          go_wp2_with fail
          go_roundw
          case rel => exact ⟨j + 1, by omega, by simp, KD, H2⟩
          case measure => simp [intOf]; omega
        · have hse2 : (xs.toList == ys.toList) = false := by rw [hse]; simp [he]
          have hR0 := hf'.out he
          subst hR0
          clear HE2 hse hf' HE hRt hRf
          go_wp2_with fail
          go_region_held3 (fun w' => w'.cell? ⟨g, o + j, none⟩ = some (.slice xa xl xc) ∧ w'.cell? ⟨g2, o2 + j, none⟩ = some (.slice ya yl yc) ∧ (convert 45 9 (.slice xa xl xc)).run Tryz.prog w' = .ok (.string xs) w' ∧ (convert 45 9 (.slice ya yl yc)).run Tryz.prog w' = .ok (.string ys) w')
            (first | assumption) (fail)
          go_wp2_with fail
          go_ret
          exact ⟨rfl, KD.out⟩
      · have dj2 : decide ((j : Int) < (L.length : Int)) = false := by simp; omega
        have hR0 := hRt.out (fun k h => HE.out k h (by omega))
        subst hR0
        clear HE hRt hRf
        go_wp2_with fail
        go_ret
        exact ⟨rfl, HK.out⟩
  · have hR0 : R = false := by
      rw [← hR.out, decide_eq_false_iff_not]
      intro he
      have := congrArg List.length he
      rw [bsl_len, bsl_len] at this
      exact hlm this
    subst hR0
    have hn1 : ((L.length : Int) != (M.length : Int)) = true := by
      rw [bne_iff_ne]
      intro h
      omega
    clear hR hlm
    go_enter Tryz.func15, Tryz.ntmps15
    go_wp2_with fail
    go_ret
    exact ⟨rfl, Kp.refl _ _⟩
end Go.Proofs.YtpkoikennimonaaGreatDoor
end

section
namespace Go.Hay
open Go.RowKit
set_option linter.unusedVariables false

variable {F : Fence} {n : Nat} {P : Program} {σ α : Type}

/-- What an iterator that stands at some s of σ promises: it hands on things x (as encs x), each behind a step T of its own, which may turn memory; a round that goes on takes it from s to nx s x and keeps what K says; S: it is at its end; Sp: a round has said 'no more'. -/
def SeqS (F : Fence) (n : Nat) (P : Program) (g : Nat) (lb : Array Value) (encs : α → Array Value) (T : σ → σ → World → World → Prop) (K : σ → World → World → Prop) (ok : σ → α → Prop) (nx : σ → α → σ) (S Sp : σ → Prop) (s0 : σ) (w : World) : Prop :=
  ∀ (l : Nat) (J Jx : σ → World → Prop) (W : World), K s0 w W → (∀ s s' A B, J s A → T s s' A B → J s' B) →
    (∀ s x A, J s A → ok s x → YieldAt F (n - 1) P l (encs x) A fun e A' => (e = .returned (.bool true) ∧ J (nx s x) A' ∧ K s A A') ∨ (e = .returned (.bool false) ∧ Jx (nx s x) A')) →
    J s0 W → CallsIn F n P g (#[.func (.yield l) #[] #[]] ++ lb) W fun e A' => (∃ v, e = .returned v) ∧ ((∃ s, S s ∧ J s A') ∨ (∃ s, Sp s ∧ Jx s A'))

/-- How a round's body may be left: B: from which block on whatever is no cells must lie as it lay. -/
def leftS (B : Nat) (K : σ → World → World → Prop) (I : σ → World → Prop) (Ix : Code → σ → World → Prop) (s0 s : σ) (W : World) : Exit → Act → World → Prop
  | .normal, _, W' => KeepsFrom B W W' ∧ K s0 W W' ∧ I s W'
  | .ret, _, W' => KeepsFrom B W W' ∧ Ix .ret s W'
  | .exit id, _, W' => KeepsFrom B W W' ∧ Ix (.exit id) s W'
  | .goto t, _, W' => KeepsFrom B W W' ∧ Ix (.goto t) s W'
  | _, _, _ => False

/-- The law. -/
theorem wpRangeS {g : Operand} {ps : Array Tmp} {assign body : Code} {Q : Exit → Act → World → Prop} {a : Act} {w : World}
    (hro : F.round = none) (h1 : 1 ≤ n) {gf : Nat} {lb : Array Value} (hg : a.eval g = .func (.func gf) #[] lb) (hFg : F.fn gf) (eg : ∀ args w, (callFunc gf args).run P w = .ok (.enter gf args) w)
    {encs : α → Array Value} {T : σ → σ → World → World → Prop} {K : σ → World → World → Prop} {ok : σ → α → Prop} {nx : σ → α → σ} {S Sp : σ → Prop} {s0 : σ} {w0 : World}
    (hseq : SeqS F (n - 1) P gf lb encs T K ok nx S Sp s0 w0) (hps : ∀ x, (encs x).size = ps.size)
    (hKt : ∀ {s : σ} {A B C : World}, K s A B → K s B C → K s A C) (hKa : ∀ s W o, K s W (W.alloc o)) (hKb : ∀ (s : σ) (W : World) (l : Nat) (o o' : Obj), w.heap.size ≤ l → W.heap[l]? = some o → o.isCells = false → o.isWalk = false → K s W (W.putObj l o')) (hb0 : K s0 w0 w)
    (hTk : ∀ s s' A B, T s s' A B → ∀ (k : Nat) (o : Obj), w.heap.size ≤ k → A.heap[k]? = some o → o.isCells = false → o.isWalk = false → B.heap[k]? = some o)
    (I : σ → World → Prop) (Ix : Code → σ → World → Prop) (hI : OwnFrom w.heap.size I) (hIx : ∀ c, OwnFrom w.heap.size (Ix c)) (hIT : ∀ s s' A B, I s A → T s s' A B → I s' B) (h0 : I s0 w)
    (a₁ : α → Act) (hassign : ∀ (l : Nat) (x : α) (W : World) (C : Act → World → Prop), C (a₁ x) W →
      assign.wpIn (F.inRound l) (n - 1 - 1) P (Exit.then C (fun _ _ _ => False)) { tmps := (ps.zip (encs x)).foldl (fun t (p, v) => t.setIfInBounds p v) a.tmps, defers := [] } W)
    (hbody : ∀ (l : Nat) (s : σ) (x : α) (W : World), I s W → ok s x → body.wpIn (F.inRound l) (n - 1 - 1) P (leftS w.heap.size K I Ix s (nx s x) W) (a₁ x) W)
    (hdone : ∀ (D : Nat) (s : σ) (W : World), w.heap.size ≤ D → S s → I s W → W.heap[D]? = some (.deferred (some [])) → Q .normal { a with defers := { target := .collected D, args := #[] } :: a.defers } W)
    (hstop : ∀ (D : Nat) (c : Code) (s : σ) (W : World), w.heap.size ≤ D → Sp s → Ix c s W → W.heap[D]? = some (.deferred (some [])) → c.wpIn F n P Q { a with defers := { target := .collected D, args := #[] } :: a.defers } W) :
    (Code.rangeFunc g ps assign body).wpIn F n P Q a w := by
  refine wpIn_rangeFunc fun fn hfn => ?_
  rw [hro]
  -- the loop's record, as it may stand
  let R : LoopState → Option Code → Obj := fun st pe => .loop { state := st, pending := pe, fn, tmps := a.tmps, params := ps, assign, body, defers := w.heap.size }
  let Bk : LoopState → Option Code → World → Prop := fun st pe W => W.heap[w.heap.size + 1]? = some (R st pe) ∧ W.heap[w.heap.size]? = some (.deferred (some []))
  have bkK : ∀ {st pe A B}, KeepsFrom w.heap.size A B → Bk st pe A → Bk st pe B := fun hk hb => ⟨hk.same _ _ (by omega) hb.1 rfl, hk.same _ _ (Nat.le_refl _) hb.2 rfl⟩
  have bkP : ∀ {st pe st' pe' A}, Bk st pe A → Bk st' pe' (A.putObj (w.heap.size + 1) (R st' pe')) := fun hb =>
    ⟨World.putObj_heap_same (Array.getElem?_eq_some_iff.1 hb.1).1, (World.putObj_heap_other (by omega)).trans hb.2⟩
  have iP : ∀ {st pe s A} (o : Obj), Bk st pe A → I s A → I s (A.putObj (w.heap.size + 1) o) := fun o hb hi => hI.putObj o hi (by omega) hb.1 rfl
  have ixP : ∀ {st pe s c A} (o : Obj), Bk st pe A → Ix c s A → Ix c s (A.putObj (w.heap.size + 1) o) := fun o hb hi => (hIx _).putObj o hi (by omega) hb.1 rfl
  have kP : ∀ {s st pe A} (o : Obj), Bk st pe A → K s A (A.putObj (w.heap.size + 1) o) := fun o hb => hKb _ _ _ _ _ (by omega) hb.1 rfl rfl
  have bkT : ∀ {s s' st pe A B}, T s s' A B → Bk st pe A → Bk st pe B := fun ht hb => ⟨hTk _ _ _ _ ht _ _ (by omega) hb.1 rfl rfl, hTk _ _ _ _ ht _ _ (Nat.le_refl _) hb.2 rfl rfl⟩
  have b0 : Bk .ready none ((w.alloc (.deferred (some []))).alloc (R .ready none)) :=
    ⟨by have := World.alloc_heap_new (w.alloc (.deferred (some []))) (R .ready none); rwa [World.size_alloc] at this, (Below.heap_alloc _ _ _ (by simp)).trans (World.alloc_heap_new w _)⟩
  refine ⟨w.heap.size + 1, [{ target := .collected w.heap.size, args := #[] }], ((w.alloc (.deferred (some []))).alloc (R .ready none)), { target := .fn (.func gf) lb, args := #[.func (.yield (w.heap.size + 1)) #[] #[]] }, ((w.alloc (.deferred (some []))).alloc (R .ready none)), gf, #[.func (.yield (w.heap.size + 1)) #[] #[]] ++ lb, ((w.alloc (.deferred (some []))).alloc (R .ready none)),
    run_enterLoop_outer _ _ _ _ _, by simp only [resolve, hg]; simp [go_sem], fun f' hf' => by simp [Target.leads] at hf'; subst hf'; exact hFg, by simp [invoke, go_sem, eg], fun _ => h1, ?_⟩
  refine (hseq (w.heap.size + 1) (fun s A => I s A ∧ Bk .ready none A) (fun s A => ∃ c, Ix c s A ∧ Bk .done (some c) A) _ (hKt hb0 (hKt (hKa _ _ _) (hKa _ _ _)))
    (fun s s' A B hs ht => ⟨hIT s s' A B hs.1 ht, bkT ht hs.2⟩) ?_ ⟨hI.alloc _ (hI.alloc _ h0), b0⟩).mono ?_
  · -- one round
    rintro s x A ⟨hi, hb⟩ hok
    refine ⟨fn, _, assign, body, run_yield hb.1 (hps x), roundIn_of_wpIn hfn (hassign _ x A _ ⟨_, run_beginRound hb.1 rfl, ?_⟩)⟩
    have hb2 : Bk .busy none (A.putObj (w.heap.size + 1) (R .busy none)) := bkP hb
    refine wpIn_mono (hbody _ s x _ (iP _ hb hi) hok) ?_
    rintro e a3 W3 hp
    cases e with
    | normal =>
      have hb3 := bkK hp.1 hb2
      exact ⟨_, _, run_endRound none hb3.1, .inl ⟨rfl, ⟨iP _ hb3 hp.2.2, bkP hb3⟩, hKt (kP _ hb) (hKt hp.2.1 (kP _ hb3))⟩⟩
    | ret => have hb3 := bkK hp.1 hb2; exact ⟨_, _, run_endRound (some .ret) hb3.1, .inr ⟨rfl, .ret, ixP _ hb3 hp.2, bkP hb3⟩⟩
    | exit id => have hb3 := bkK hp.1 hb2; exact ⟨_, _, run_endRound (some (.exit id)) hb3.1, .inr ⟨rfl, .exit id, ixP _ hb3 hp.2, bkP hb3⟩⟩
    | goto t => have hb3 := bkK hp.1 hb2; exact ⟨_, _, run_endRound (some (.goto t)) hb3.1, .inr ⟨rfl, .goto t, ixP _ hb3 hp.2, bkP hb3⟩⟩
    | panic ch => exact hp.elim
    | outgrown => exact hp.elim
  · -- behind the iterator
    rintro e A ⟨⟨v, rfl⟩, (⟨s, hS, hi, hb⟩ | ⟨s, hSp, c, hi, hb⟩)⟩
    · exact ⟨none, _, run_endLoop hb.1 (by simp), hdone _ s _ (Nat.le_refl _) hS (iP _ hb hi) ((World.putObj_heap_other (by omega)).trans hb.2)⟩
    · exact ⟨some c, _, run_endLoop hb.1 (by simp), hstop _ c s _ (Nat.le_refl _) hSp (ixP _ hb hi) ((World.putObj_heap_other (by omega)).trans hb.2)⟩
end Go.Hay
end

section
namespace Go.Proofs.YtpkoikennimonaaGreatDoor
open Go.RowKit Go.Hay
attribute [local go_sem] Oper.semAt_some
set_option linter.unusedVariables false
set_option linter.unusedSimpArgs false

/-- The cells of G stand. -/
def KeepC (G : Addr → Prop) (A B : World) : Prop := A.heap.size ≤ B.heap.size ∧ ∀ a v, G a → A.cell? a = some v → B.cell? a = some v
theorem KeepC.refl (G : Addr → Prop) (A : World) : KeepC G A A := ⟨Nat.le_refl _, fun _ _ _ h => h⟩
theorem KeepC.trans {G : Addr → Prop} {A B C : World} (h : KeepC G A B) (k : KeepC G B C) : KeepC G A C := ⟨Nat.le_trans h.1 k.1, fun a v g hc => k.2 a v g (h.2 a v g hc)⟩
theorem KeepC.ofKp {G : Addr → Prop} {S : List Nat} {A B : World} (hk : Kp S A B) (hS : ∀ a, G a → a.block ∉ S) : KeepC G A B := ⟨hk.size, fun a v g hc => (hk.cell (World.block_lt_of_cell? _ _ hc) (hS a g)).trans hc⟩
theorem KeepC.alloc (G : Addr → Prop) (W : World) (o : Obj) : KeepC G W (W.alloc o) := KeepC.ofKp (S := []) ((Kp.refl _ _).alloc _) (by simp)
theorem KeepC.putObj (G : Addr → Prop) (W : World) (l : Nat) (o o' : Obj) (ho : W.heap[l]? = some o) (hc : o.isCells = false) : KeepC G W (W.putObj l o') :=
  ⟨by simp, fun a v _ hv => by
    have hne : a.block ≠ l := fun e => by
      unfold World.cell? at hv
      rw [e, ho] at hv
      cases o <;> simp_all [Obj.isCells]
    exact (World.cell?_of_block (World.putObj_heap_other (by simpa using hne))).trans hv⟩
theorem KeepC.sub {G H : Addr → Prop} {A B : World} (h : KeepC G A B) (hs : ∀ a, H a → G a) : KeepC H A B := ⟨h.1, fun a v g hc => h.2 a v (hs a g) hc⟩
/-- The cells that the records are in. -/
def Gr (a : Option Addr) (l : List Bs) : Addr → Prop := fun x => (∃ g o, a = some ⟨g, o, none⟩ ∧ x.block = g ∧ o ≤ x.off ∧ x.off < o + l.length) ∨ ∃ y ∈ l, x.block ∈ blk y.a
theorem KeepC.see {a : Option Addr} {l : List Bs} {A B : World} (h : KeepC (Gr a l) A B) (hs : BsE.See A a l) : BsE.See B a l := by
  rcases hs with e | ⟨g, o, rfl, hc⟩
  · exact .inl e
  · refine .inr ⟨g, o, rfl, fun j u hu => h.2 _ _ (.inl ⟨g, o, rfl, rfl, by simp, ?_⟩) (hc j u hu)⟩
    have := (List.getElem?_eq_some_iff.1 hu).1
    rw [El.cs_length] at this
    simp [BsE] at this
    simp
    omega
theorem KeepC.sees {a : Option Addr} {l : List Bs} {A B : World} (h : KeepC (Gr a l) A B) {y : Bs} (hy : y ∈ l) (hs : Sees A y.a y.bs) : Sees B y.a y.bs := by
  rcases hs with e | ⟨g, o, e, hc⟩
  · exact .inl e
  · exact .inr ⟨g, o, e, fun j u hu => h.2 _ _ (.inr ⟨y, hy, by rw [e]; simp [blk]⟩) (hc j u hu)⟩
/-- How the iterator stands: whether it has begun, which record comes, the one at hand. -/
structure Sl where
  go : Bool
  i : Nat
  pend : Option (Value × List UInt8)
def Sl.nx (s : Sl) (x : Nat × Value × List UInt8) : Sl := ⟨s.go, s.i + 1, none⟩
structure StepL (l : List Bs) (s s' : Sl) (A B : World) : Prop where
  kp : Kp [] A B
  how : (s.go = false ∧ s' = ⟨true, s.i, none⟩) ∨ (s.go = true ∧ s.pend = none ∧ ∃ v y, l[s.i]? = some y ∧ s' = ⟨true, s.i, some (v, y.bs)⟩ ∧ Row B v y.bs ∧ ∀ k ∈ own v, A.heap.size ≤ k)
/-- What the rounds must leave. -/
def Gl (q1 p : Nat) (a : Option Addr) (l : List Bs) (s : Sl) : Addr → Prop := fun x => (s.go = false ∧ (x.block = q1 ∨ x.block = p)) ∨ Gr a l x
theorem Gl.kr {q1 p : Nat} {a : Option Addr} {l : List Bs} {s : Sl} {A B : World} (h : KeepC (Gl q1 p a l s) A B) : KeepC (Gr a l) A B := h.sub fun _ hx => .inr hx
set_option maxHeartbeats 8000000 in
set_option maxRecDepth 100000 in
theorem allSeqQ (n : Nat) (hn : 2 ≤ n) (q1 p : Nat) (a : Option Addr) (c : Nat) (l : List Bs) (w : World) (hb : w.cell? ⟨q1, 0, none⟩ = some (.pointer (some ⟨p, 0, none⟩))) (hc2 : w.cell? ⟨p, 2, none⟩ = some (.slice a l.length c)) (hs : BsE.See w a l) (hok : ∀ y ∈ l, Sees w y.a y.bs ∧ y.bs.length ≤ 200000000000000) (hf : l.length ≤ 6000000000000) :
    SeqS Fence.wide n Tryz.prog 46 #[.pointer (some ⟨q1, 0, none⟩)] (fun x : Nat × Value × List UInt8 => #[.int .i64 x.1, x.2.1]) (StepL l) (fun s => KeepC (Gl q1 p a l s))
      (fun s x => s.pend = some (x.2.1, x.2.2) ∧ x.1 = s.i) Sl.nx (fun s => s.go = true ∧ s.i = l.length ∧ s.pend = none) (fun s => s.go = true ∧ s.pend = none) ⟨false, 0, none⟩ w := by
  intro ly J Jx W hW hT hY h0
  have hbW := hW.2 _ _ (.inl ⟨rfl, .inl rfl⟩) hb
  have hcW := hW.2 _ _ (.inl ⟨rfl, .inr rfl⟩) hc2
  have hsW := hid (hW.sub (H := Gr a l) (fun _ hx => .inr hx))
  have hw' := hid (And.intro hs hok)
  have hplt := World.block_lt_of_cell? _ _ hcW
  have hJ1 : J ⟨true, 0, none⟩ W := hT _ _ _ _ h0 ⟨Kp.refl _ _, .inl ⟨rfl, rfl⟩⟩
  clear hs hok hb hc2 hW h0
  refine callsIn_of_wp Tryz.func46 rfl trivial ?_ rfl
  simp only [Tryz.ntmps46, List.size_toArray, List.length_cons, List.length_nil, Nat.reduceAdd, Nat.reduceSub, Array.replicate_succ, Array.replicate_zero, List.push_toArray, List.append_toArray, List.nil_append, List.cons_append]
  gi_wp2_with fail
  gi_loopw [3, 4, 10] (fun _ _ i wr => ∃ j : Nat, j ≤ l.length ∧ i = .int .i64 j ∧ J ⟨true, j, none⟩ wr ∧ Hid (KeepC (Gr a l) w wr)) (fun _ _ i _ => l.length - (intOf i).toNat)
  case atStart => exact ⟨0, Nat.zero_le _, rfl, hJ1, hsW⟩
  case round =>
    obtain ⟨j, hj, rfl, hJj, hkr⟩ := hrel
    clear hJ1 hbW hcW
    by_cases hjl : j < l.length
    · have hx : l[j]? = some l[j] := by simp [hjl]
      have hm : l[j] ∈ l := List.getElem_mem hjl
      obtain ⟨g, o, ea, c0⟩ := bsAt (hkr.out.see hw'.out.1) hx
      have hse := hkr.out.sees hm (hw'.out.2 _ hm).1
      have hln := (hw'.out.2 _ hm).2
      obtain ⟨Y, hY0⟩ : ∃ Y, l[j] = Y := ⟨_, rfl⟩
      rw [hY0] at c0 hse hln hx
      have hx' := hid hx
      obtain ⟨ya, yc, yb⟩ := Y
      dsimp only at c0 hse hln
      have hCl := hid (cClone ya yb.length yc yb wr hse rfl hln)
      have i1 : (0 : Int) ≤ (j : Int) := by omega
      have i2 : (j : Int) < (l.length : Int) := by omega
      clear hx hm hY0 hse
      subst ea
      gi_wp2_with fail
      refine ⟨trivial, fun _ => by omega, (callsIn_wide.2 hCl.out).mono ?_⟩
      rintro e w2 ⟨v2, rfl, hr2, k2, hn2⟩
      have hJ2 : J ⟨true, j, some (v2, yb)⟩ w2 := hT _ _ _ _ hJj ⟨k2, .inr ⟨rfl, rfl, v2, ⟨ya, yc, yb⟩, hx'.out, rfl, hr2, hn2⟩⟩
      obtain ⟨a2, c2, rfl, -, -⟩ := hr2.sees
      obtain ⟨fn, tmps, assign, body, hy, hR⟩ := hY _ (j, .slice a2 yb.length c2, yb) w2 hJ2 ⟨rfl, rfl⟩
      dsimp only at hy
      have hkr2 := hid (hkr.out.trans (KeepC.ofKp k2 (by simp)))
      clear hCl hr2 k2 hn2 hJ2 hJj hkr
      gi_wp2_with fail
      refine ⟨fun _ => by omega, hR.mono ?_⟩
      rintro e1 W3 (⟨rfl, hJ3, hk3⟩ | ⟨rfl, hJx⟩)
      · have hkk := hid (hkr2.out.trans (Gl.kr hk3))
        clear hR hy c0 hkr2
        gi_wp2_with fail
        go_roundw
        case rel => exact ⟨j + 1, by omega, by go_num, hJ3, hkk⟩
        case measure => simp [intOf]; omega
      · clear hR hy c0
        gi_wp2_with fail
        refine bodyPost_ret (results_none rfl _ _ _) rfl ?_
        exact ⟨⟨_, rfl⟩, .inr ⟨_, ⟨rfl, rfl⟩, hJx⟩⟩
    · have e : j = l.length := by omega
      subst e
      gi_wp2
      go_end0
      exact ⟨⟨_, rfl⟩, .inl ⟨_, ⟨rfl, rfl, rfl⟩, hJj⟩⟩
/-- What All hands back. -/
theorem cAllQ (p : Nat) (w : World) : Calls Tryz.prog 29 #[.pointer (some ⟨p, 0, none⟩)] w fun e w' => e = .returned (.func (.func 46) #[] #[.pointer (some ⟨w.heap.size, 0, none⟩)]) ∧ w' = w.alloc (.cells #[.pointer (some ⟨p, 0, none⟩)] 29) := by
  go_enter Tryz.func29, Tryz.ntmps29
  go_wp2_with fail
  go_ret
  exact ⟨rfl, rfl⟩
end Go.Proofs.YtpkoikennimonaaGreatDoor
end

section
namespace Go.Proofs.YtpkoikennimonaaGreatDoor
open Go.RowKit Go.Hay Go.Shelf
attribute [local go_sem] Oper.semAt_some
set_option linter.unusedVariables false
set_option linter.unusedSimpArgs false

/-- How gone's memory stands between two rounds. -/
structure GoI (w : World) (l : List Bs) (s : Sl) (W : World) (v : Value) : Prop where
  box : W.cell? ⟨w.heap.size, 0, none⟩ = some v
  free : W.frozen? ⟨w.heap.size, 0, none⟩ = false
  row : RowP (fun k => w.heap.size + 2 ≤ k) W v (bsl (l.take s.i))
  nil : l.take s.i = [] → v = .slice none 0 0
  kp : Kp [] w W
  size : w.heap.size + 2 ≤ W.heap.size
  le : s.i ≤ l.length
  pend : ∀ x out, s.pend = some (x, out) → (∃ y, l[s.i]? = some y ∧ y.bs = out) ∧ Row W x out ∧ ∀ k ∈ own x, w.heap.size + 2 ≤ k ∧ k ∉ own v
def GoJ (w : World) (l : List Bs) (s : Sl) (W : World) : Prop := ∃ v, GoI w l s W v
theorem goOwn (w : World) (l : List Bs) (B : Nat) (hB : w.heap.size ≤ B) : OwnFrom B (GoJ w l) := by
  rintro s W W' row ⟨v, h⟩ hg hr
  have hk := kpOfGrown hg
  have hn := nocOf hr
  exact ⟨v, cellN hk hn h.box, (frozenN hk hn (by rw [h.box]; rfl)).trans h.free, rowPN hk hn h.row, h.nil, h.kp.trans hk (fun x hx => .inr (by have := (hr x (by simpa [Option.mem_toList] using hx)).1; omega)), Nat.le_trans h.size hk.size, h.le, fun x out hp => ⟨(h.pend x out hp).1, rowN hk hn (h.pend x out hp).2.1, (h.pend x out hp).2.2⟩⟩
theorem goStep (w : World) (l : List Bs) (s s' : Sl) (A B : World) (h : GoJ w l s A) (ht : StepL l s s' A B) : GoJ w l s' B := by
  obtain ⟨v, h⟩ := h
  have hk := ht.kp
  have hb := (hk.cell (p := ⟨w.heap.size, 0, none⟩) (World.block_lt_of_cell? _ _ h.box) (by simp)).trans h.box
  have hf := (hk.frozen (p := ⟨w.heap.size, 0, none⟩) (World.block_lt_of_cell? _ _ h.box) (by simp)).trans h.free
  rcases ht.how with ⟨_, rfl⟩ | ⟨_, _, v', y, hy, rfl, hrow, hown⟩
  · exact ⟨v, hb, hf, h.row.kept hk (by simp), h.nil, h.kp.trans hk (by simp), Nat.le_trans h.size hk.size, h.le, fun x out hp => by cases hp⟩
  · refine ⟨v, hb, hf, h.row.kept hk (by simp), h.nil, h.kp.trans hk (by simp), Nat.le_trans h.size hk.size, h.le, fun x out hp => ?_⟩
    cases hp
    refine ⟨⟨y, hy, rfl⟩, hrow, fun k hk' => ⟨by have := hown k hk'; have := h.size; omega, fun hm => ?_⟩⟩
    have := h.row.lt k hm
    have := hown k hk'
    omega
theorem take_snoc {l : List Bs} {i : Nat} {y : Bs} (h : l[i]? = some y) : bsl (l.take (i + 1)) = bsl (l.take i) ++ [y.bs] := by
  obtain ⟨hi, e⟩ := List.getElem?_eq_some_iff.1 h
  rw [List.take_succ_eq_append_getElem hi, e]
  simp [bsl]
set_option maxHeartbeats 8000000 in
set_option maxRecDepth 100000 in
theorem cGone (p : Nat) (a : Option Addr) (c : Nat) (l : List Bs) (w : World) (hc2 : w.cell? ⟨p, 2, none⟩ = some (.slice a l.length c)) (hs : BsE.See w a l) (hok : ∀ y ∈ l, Sees w y.a y.bs ∧ y.bs.length ≤ 200000000000000) (hf : l.length ≤ 4000000000000) (hbl : ∀ k ∈ blk a, k < w.heap.size) (hbk : ∀ y ∈ l, ∀ k ∈ blk y.a, k < w.heap.size) :
    Calls Tryz.prog 10 #[.pointer (some ⟨p, 0, none⟩)] w fun e w' => ∃ v, e = .returned v ∧ RowP (fun k => w.heap.size ≤ k) w' v (bsl l) ∧ Kp [] w w' := by
  refine (callsIn_wide (n := 5)).1 ?_
  refine callsIn_of_wp_marks Tryz.func10 rfl trivial ?_ rfl
  simp only [Tryz.ntmps10, List.size_toArray, List.length_cons, List.length_nil, Nat.reduceAdd, Nat.reduceSub, Array.replicate_succ, Array.replicate_zero, List.push_toArray, List.append_toArray, List.nil_append, List.cons_append]
  gi_wp2_with fail
  refine ⟨trivial, (callsIn_wide.2 (cAllQ p _)).mono ?_⟩
  rintro e w1 ⟨rfl, hw1⟩
  rw [World.size_alloc] 
  have k0 : Kp [] w (w.alloc (.cells #[.slice none 0 0] 30)) := (Kp.refl _ _).alloc _
  have k1 : Kp [] w w1 := by rw [hw1]; exact k0.alloc _
  have hsz : w1.heap.size = w.heap.size + 2 := by rw [hw1]; simp
  have bx : w1.cell? ⟨w.heap.size, 0, none⟩ = some (.slice none 0 0) := by rw [hw1]; exact oldCell (newCell _ _ _ rfl) _
  have bf : w1.frozen? ⟨w.heap.size, 0, none⟩ = false := by
    rw [hw1]
    exact (((Kp.refl [] (w.alloc (.cells #[.slice none 0 0] 30))).alloc (.cells #[.pointer (some ⟨p, 0, none⟩)] 29)).frozen (p := ⟨w.heap.size, 0, none⟩) (by simp) (by simp)).trans (World.frozen?_alloc_new w _ _ 0)
  have q1 : w1.cell? ⟨w.heap.size + 1, 0, none⟩ = some (.pointer (some ⟨p, 0, none⟩)) := by rw [hw1]; exact newCell _ _ _ (by simp)
  have hc21 := (k1.cell (p := ⟨p, 2, none⟩) (World.block_lt_of_cell? _ _ hc2) (by simp)).trans hc2
  have hI0 : GoJ w l ⟨false, 0, none⟩ w1 := ⟨.slice none 0 0, bx, bf, by simp [bsl]; exact RowP.nil _ _, fun _ => rfl, k1, by omega, Nat.zero_le _, fun x out h => by cases h⟩
  have hseq := allSeqQ (5 - 1) (by omega) (w.heap.size + 1) p a c l w1 q1 hc21 (hs.keptNew k1) (fun y hy => ⟨(hok y hy).1.kept k1 (by simp), (hok y hy).2⟩) (by omega)
  have hplt := World.block_lt_of_cell? _ _ hc2
  have hG : ∀ s x, Gl (w.heap.size + 1) p a l s x → x.block < w.heap.size ∨ x.block = w.heap.size + 1 := fun s x hx => by
    rcases hx with ⟨_, h | h⟩ | ⟨g, o, e, hg, _⟩ | ⟨y, hy, hk⟩
    · exact .inr h
    · exact .inl (by rw [h]; exact hplt)
    · exact .inl (hbl _ (by rw [e, hg]; simp [blk]))
    · exact .inl (hbk y hy _ hk)
  have hG' := hid hG
  clear bx bf q1 k0 k1 hc21 hc2 hs hok hw1 hG
  gi_wp2_with fail
  refine wpRangeS rfl (by omega) (gf := 46) (lb := #[.pointer (some ⟨w.heap.size + 1, 0, none⟩)]) rfl trivial (enters_of Tryz.func46 (by kernel_rfl) rfl)
    hseq (fun _ => rfl) KeepC.trans (fun s W o => KeepC.alloc _ W o) (fun s W k o o' _ ho hc _ => KeepC.putObj _ W k o o' ho hc) (KeepC.refl _ _) (fun s s' A B ht k o hk ho _ _ => (ht.kp.block k (Array.getElem?_eq_some_iff.1 ho).1 (by simp)).trans ho)
    (GoJ w l) (fun _ _ _ => False) (goOwn w l _ (by omega)) (fun _ _ _ _ _ h _ _ => h) (goStep w l) hI0
    (fun x => { tmps := #[.pointer (some ⟨p, 0, none⟩), undef, .slice none 0 0, .pointer (some ⟨w.heap.size, 0, none⟩), undef, x.2.1, .pointer (some ⟨p, 0, none⟩), .func (.func 46) #[] #[.pointer (some ⟨w.heap.size + 1, 0, none⟩)], .int .i64 x.1, x.2.1, undef, undef, undef, undef, undef], defers := [] }) ?assign ?body ?done ?stop
  case assign =>
    intro l x W C hC
    gi_wp2_with fail
    exact hC
  case body =>
    rintro ly s ⟨i, xv, out⟩ X ⟨vv, h⟩ ⟨hpe, hxk⟩
    dsimp only at hpe hxk
    obtain ⟨⟨y, hy, hyo⟩, hrx, hox⟩ := h.pend _ _ hpe
    have hcel := rowPcel h.row (fun hh => h.nil (by simpa [bsl] using hh))
    obtain ⟨ax, cx, rfl, _⟩ := hrx.shape
    have hsn := hid (take_snoc hy)
    have hil : s.i < l.length := (List.getElem?_eq_some_iff.1 hy).1
    obtain ⟨M, hM⟩ : ∃ M, Hid (bsl (l.take s.i) = M) := ⟨_, rfl⟩
    have h4 := h.row
    have hal : (bsl (l.take s.i)).length + 1 ≤ 5000000000000 := by rw [bsl_len, List.length_take]; omega
    rw [hM.out] at h4 hal
    obtain ⟨av, cv, rfl⟩ := rowPshape h4
    have hfrom := h4.from
    have h2 := h.box
    have h3 := h.free
    have h7 := h.size
    have hlt2 := World.block_lt_of_cell? _ _ h2
    gi_wp2_with (gi_at_builtin; refine wpAppendPIn rfl _ _ rfl _ M rfl h4 _ out hrx hox (fun k hk => by omega) rfl rfl hal ?_)
    intro v5 w5 r2 k5 hnew
    obtain ⟨a5, c5, rfl⟩ := rowPshape r2
    have hbo : w.heap.size ∉ own (.slice av M.length cv) := fun hm => by have := hfrom _ hm; omega
    have b5 : w5.cell? ⟨w.heap.size, 0, none⟩ = some (.slice av M.length cv) := (k5.cell (p := ⟨w.heap.size, 0, none⟩) hlt2 hbo).trans h2
    have f5 : w5.frozen? ⟨w.heap.size, 0, none⟩ = false := (k5.frozen (p := ⟨w.heap.size, 0, none⟩) hlt2 hbo).trans h3
    obtain ⟨L2, hL2⟩ : ∃ L2, Hid (M ++ [out] = L2) := ⟨_, rfl⟩
    rw [hL2.out] at r2 ⊢
    have kS : Kp [w.heap.size] w5 (w5.setCell ⟨w.heap.size, 0, none⟩ (.slice a5 L2.length c5)) := (Kp.refl _ _).setCell (by simp) _
    have kAll : Kp (w.heap.size :: own (.slice av M.length cv)) X (w5.setCell ⟨w.heap.size, 0, none⟩ (.slice a5 L2.length c5)) := (k5.mono (T := w.heap.size :: own (.slice av M.length cv)) (fun x hx => .inl (by simp [hx]))).trans kS (fun x hx => .inl (by simp at hx; simp [hx]))
    have hbx : ∃ o : Obj, X.heap[w.heap.size]? = some o ∧ o.isCells = true := cellsOf (a := ⟨w.heap.size, 0, none⟩) (by rw [h2]; rfl)
    have hSc : ∀ k ∈ w.heap.size :: own (.slice av M.length cv), ∃ o : Obj, X.heap[k]? = some o ∧ o.isCells = true := fun k hk => by rcases List.mem_cons.1 hk with rfl | hk; exact hbx; exact hcel k hk
    have r3 := r2.kept kS (fun k hk hb => by simp at hk; omega)
    have kk : Kp [] w (w5.setCell ⟨w.heap.size, 0, none⟩ (.slice a5 L2.length c5)) := h.kp.trans kAll (fun x hx => .inr (by rcases List.mem_cons.1 hx with rfl | hx; omega; have := hfrom x hx; omega))
    have hL3 : Hid (bsl (l.take (s.i + 1)) = L2) := by show _ = _; rw [hsn.out, hM.out, hyo, hL2.out]
    have Hfin := hid (And.intro r3 kk)
    have hSc' := hid hSc
    clear r3 kk r2 k5 hnew hSc hbx hcel h4 hrx hox
    gi_wp2_with fail
    refine ⟨keepsCel kAll hSc'.out _, KeepC.ofKp kAll (fun x hx hm => ?_), .slice a5 L2.length c5, World.cell?_setCell_same _ _ _ b5, by rw [World.frozen?_setCell]; exact f5, by show RowP _ _ _ (bsl (l.take (s.i + 1))); rw [hL3.out]; exact Hfin.out.1, fun hh => ?_, Hfin.out.2, Nat.le_trans h7 kAll.size, by show s.i + 1 ≤ l.length; omega, fun x o hh => (by cases hh)⟩
    · rcases hG'.out _ _ hx with hh | hh <;> rcases List.mem_cons.1 hm with he | he
      · omega
      · have := hfrom _ he; omega
      · omega
      · have := hfrom _ he; omega
    · have hh' : l.take (s.i + 1) = [] := hh
      have := congrArg List.length hh'
      simp only [List.length_take, List.length_nil] at this
      omega
  case done =>
    rintro D' s X hDz ⟨hgo, hsi, hpn⟩ ⟨vv, h⟩ hK'
    have hbx := h.box
    have hkD : Kp [D'] X (X.putObj D' (.deferred none)) := ⟨rfl, rfl, rfl, by simp, fun k hk hn => World.putObj_heap_other (by simpa using hn)⟩
    have hnD : NoC [D'] X := fun r hr' => by obtain rfl : r = D' := by simpa using hr'
                                             exact ⟨_, hK', rfl⟩
    have hr := h.row
    rw [hsi, List.take_length] at hr
    have rD := (rowPN hkD hnD hr).mono (C := fun k => w.heap.size ≤ k) (fun k _ hk => by omega)
    have kD := h.kp.trans hkD (fun x hx => .inr (by simp at hx; omega))
    have HF := hid (And.intro rD kD)
    clear h hr rD kD
    gi_wp2_with fail
    refine ⟨by simp, .inl ⟨_, _, rfl, run_takeDeferred hK', ?_⟩⟩
    exact ⟨_, results_tmp rfl _ _ _, vv, rfl, HF.out.1, HF.out.2⟩
  case stop =>
    rintro D' c s X _ _ h _
    exact h.elim
end Go.Proofs.YtpkoikennimonaaGreatDoor
end

section
namespace Go.Hay
open Go.RowKit
set_option linter.unusedVariables false
set_option linter.unusedSimpArgs false

/-- A file: its name, its bytes, how many of them last. -/
structure Fl where
  name : List UInt8
  bytes : List UInt8
  last : Nat
/-- A disk. -/
structure Dk where
  room : Nat
  steps : Nat
  files : List Fl
  arm : Option Nat
  dead : Bool

def nameOk (s : List UInt8) : Bool := s.all (fun c => decide (33 ≤ c.toNat) && decide (c.toNat ≤ 126)) && (decide (1 ≤ s.length) && decide (s.length ≤ 32))

/-- No later than. -/
def leN (a b : List UInt8) : Bool := bytesBefore a b || a == b
theorem bb_irrefl : ∀ (a : List UInt8), bytesBefore a a = false
  | [] => rfl
  | x :: r => by simp [bytesBefore, bb_irrefl r]
theorem bb_total : ∀ (a b : List UInt8), a ≠ b → bytesBefore a b = true ∨ bytesBefore b a = true
  | [], [], h => absurd rfl h
  | [], _ :: _, _ => .inl rfl
  | _ :: _, [], _ => .inr rfl
  | x :: r, y :: s, h => by
    simp only [bytesBefore, Bool.or_eq_true, Bool.and_eq_true, decide_eq_true_eq, beq_iff_eq]
    rcases Nat.lt_trichotomy x.toNat y.toNat with h1 | h1 | h1
    · exact .inl (.inl (UInt8.lt_iff_toNat_lt.2 h1))
    · have e : x = y := UInt8.toNat_inj.1 h1
      subst e
      rcases bb_total r s (fun e => h (by rw [e])) with h2 | h2
      · exact .inl (.inr ⟨rfl, h2⟩)
      · exact .inr (.inr ⟨rfl, h2⟩)
    · exact .inr (.inl (UInt8.lt_iff_toNat_lt.2 h1))
theorem bb_trans : ∀ (a b c : List UInt8), bytesBefore a b = true → bytesBefore b c = true → bytesBefore a c = true
  | [], [], _, h, _ => by cases h
  | [], _ :: _, [], _, h => by cases h
  | [], _ :: _, _ :: _, _, _ => rfl
  | _ :: _, [], _, h, _ => by cases h
  | _ :: _, _ :: _, [], _, h => by cases h
  | x :: r, y :: s, z :: t, h, k => by
    simp only [bytesBefore, Bool.or_eq_true, Bool.and_eq_true, decide_eq_true_eq, beq_iff_eq] at h k ⊢
    rcases h with h | ⟨rfl, h⟩
    · rcases k with k | ⟨rfl, k⟩
      · exact .inl (UInt8.lt_trans h k)
      · exact .inl h
    · rcases k with k | ⟨rfl, k⟩
      · exact .inl k
      · exact .inr ⟨rfl, bb_trans r s t h k⟩
theorem bb_asymm {a b : List UInt8} (h : bytesBefore a b = true) : bytesBefore b a = false := by
  cases hb : bytesBefore b a with
  | false => rfl
  | true => have := bb_trans _ _ _ h hb; rw [bb_irrefl] at this; cases this
theorem bb_ne {a b : List UInt8} (h : bytesBefore a b = true) : a ≠ b := fun e => by subst e; rw [bb_irrefl] at h; cases h
/-- .. as lists are ordered. -/
theorem bb_lt : ∀ (a b : List UInt8), bytesBefore a b = true ↔ a < b
  | [], [] => by simp [bytesBefore]
  | [], _ :: _ => by simp [bytesBefore]
  | _ :: _, [] => by simp [bytesBefore]
  | x :: r, y :: s => by
    simp only [bytesBefore, Bool.or_eq_true, Bool.and_eq_true, decide_eq_true_eq, beq_iff_eq, List.cons_lt_cons_iff, bb_lt r s]

section
variable {α : Type} (nm : α → List UInt8)
/-- A thing put into its place; of its name there was one, or none. -/
def putG (f : α) : Bool → List α → List α
  | done, [] => if done then [] else [f]
  | done, g :: r => (if !done && leN (nm f) (nm g) then [f] else []) ++ ((if nm g == nm f then [] else [g]) ++ putG f (done || leN (nm f) (nm g)) r)
def dropG (k : List UInt8) (l : List α) : List α := l.filter fun g => !(nm g == k)
def riseG (l : List α) : Prop := l.Pairwise fun a b => bytesBefore (nm a) (nm b) = true
def lookG (k : List UInt8) (l : List α) : Option α := l.find? fun g => nm g == k
def insG (f : α) : List α → List α
  | [] => [f]
  | y :: r => if bytesBefore (nm f) (nm y) then f :: y :: r else y :: insG f r
variable {nm}
theorem putG_done (f : α) : ∀ l, putG nm f true l = dropG nm (nm f) l
  | [] => rfl
  | g :: r => by
    simp only [putG, Bool.not_true, Bool.false_and, Bool.true_or, putG_done f r, dropG, List.filter_cons]
    cases nm g == nm f <;> simp
theorem dropG_all {k : List UInt8} {l : List α} (h : ∀ x ∈ l, nm x ≠ k) : dropG nm k l = l := by
  unfold dropG
  rw [List.filter_eq_self]
  intro x hx
  simp [h x hx]
theorem putG_ins (f : α) : ∀ (l : List α), riseG nm l → putG nm f false l = insG nm f (dropG nm (nm f) l)
  | [], _ => rfl
  | g :: r, h => by
    have hr := (List.pairwise_cons.1 h)
    by_cases e : nm g = nm f
    · have hd : dropG nm (nm f) r = r := dropG_all (fun x hx e' => bb_ne (hr.1 x hx) (e.trans e'.symm))
      have h1 : dropG nm (nm f) (g :: r) = r := by
        have : dropG nm (nm f) (g :: r) = dropG nm (nm f) r := by simp [dropG, List.filter_cons, e]
        rw [this, hd]
      rw [h1]
      have h2 : putG nm f false (g :: r) = f :: r := by simp [putG, leN, e, putG_done, hd]
      rw [h2]
      cases r with
      | nil => rfl
      | cons y s => have := hr.1 y (by simp); rw [e] at this; simp [insG, this]
    · have h1 : dropG nm (nm f) (g :: r) = g :: dropG nm (nm f) r := by simp [dropG, List.filter_cons, e]
      rw [h1]
      by_cases hb : bytesBefore (nm f) (nm g) = true
      · simp [putG, leN, hb, e, putG_done, insG]
      · have hle : leN (nm f) (nm g) = false := by simp [leN, hb, Ne.symm e]
        simp only [Bool.not_eq_true] at hb
        simp [putG, hle, e, insG, hb, putG_ins f r hr.2]
theorem riseG_drop (k : List UInt8) {l : List α} (h : riseG nm l) : riseG nm (dropG nm k l) := h.sublist List.filter_sublist
theorem mem_insG {f x : α} : ∀ {l : List α}, x ∈ insG nm f l ↔ x = f ∨ x ∈ l
  | [] => by simp [insG]
  | y :: r => by
    unfold insG
    split
    · simp
    · simp only [List.mem_cons, mem_insG (l := r)]
      constructor
      · rintro (h | h | h) <;> simp [h]
      · rintro (h | h | h) <;> simp [h]
theorem mem_dropG {k : List UInt8} {x : α} {l : List α} : x ∈ dropG nm k l ↔ x ∈ l ∧ nm x ≠ k := by simp [dropG]
theorem mem_putG {f x : α} {l : List α} (h : riseG nm l) : x ∈ putG nm f false l ↔ x = f ∨ (x ∈ l ∧ nm x ≠ nm f) := by
  rw [putG_ins f l h, mem_insG, mem_dropG]
theorem riseG_ins {f : α} : ∀ {l : List α}, riseG nm l → (∀ x ∈ l, nm x ≠ nm f) → riseG nm (insG nm f l)
  | [], _, _ => List.pairwise_singleton _ _
  | y :: r, h, hn => by
    have hr := List.pairwise_cons.1 h
    unfold insG
    split
    · rename_i hb
      refine List.pairwise_cons.2 ⟨fun x hx => ?_, h⟩
      rcases List.mem_cons.1 hx with rfl | hx
      · exact hb
      · exact bb_trans _ _ _ hb (hr.1 x hx)
    · rename_i hb
      refine List.pairwise_cons.2 ⟨fun x hx => ?_, riseG_ins hr.2 (fun x hx => hn x (by simp [hx]))⟩
      rcases mem_insG.1 hx with rfl | hx
      · rcases bb_total _ _ (hn y (by simp)) with h1 | h1
        · exact h1
        · exact absurd h1 hb
      · exact hr.1 x hx
theorem riseG_put (f : α) {l : List α} (h : riseG nm l) : riseG nm (putG nm f false l) := by
  rw [putG_ins f l h]
  exact riseG_ins (riseG_drop _ h) (fun x hx => (mem_dropG.1 hx).2)
theorem putG_map {β : Type} {nm' : β → List UInt8} (φ : α → β) (hφ : ∀ x, nm' (φ x) = nm x) (f : α) : ∀ (b : Bool) (l : List α), (putG nm f b l).map φ = putG nm' (φ f) b (l.map φ)
  | b, [] => by cases b <;> rfl
  | b, g :: r => by
    simp only [putG, List.map_append, List.map_cons, hφ, putG_map φ hφ f _ r]
    congr 1
    · split <;> rfl
    · congr 1
      split <;> rfl
theorem dropG_map {β : Type} {nm' : β → List UInt8} (φ : α → β) (hφ : ∀ x, nm' (φ x) = nm x) (k : List UInt8) (l : List α) : (dropG nm k l).map φ = dropG nm' k (l.map φ) := by
  simp [dropG, List.filter_map, Function.comp_def, hφ]
theorem riseG_map {β : Type} {nm' : β → List UInt8} (φ : α → β) (hφ : ∀ x, nm' (φ x) = nm x) {l : List α} : riseG nm' (l.map φ) ↔ riseG nm l := by
  simp [riseG, List.pairwise_map, hφ]
theorem lookG_map {β : Type} {nm' : β → List UInt8} (φ : α → β) (hφ : ∀ x, nm' (φ x) = nm x) (k : List UInt8) (l : List α) : lookG nm' k (l.map φ) = (lookG nm k l).map φ := by
  simp [lookG, List.find?_map, Function.comp_def, hφ]
theorem lookG_some {k : List UInt8} {l : List α} {x : α} (h : lookG nm k l = some x) : x ∈ l ∧ nm x = k :=
  ⟨List.mem_of_find?_eq_some h, by simpa using List.find?_some h⟩
theorem lookG_none {k : List UInt8} {l : List α} (h : lookG nm k l = none) : ∀ x ∈ l, nm x ≠ k := fun x hx => by simpa using List.find?_eq_none.1 h x hx
theorem rise_inj {l : List α} (h : riseG nm l) {x y : α} (hx : x ∈ l) (hy : y ∈ l) (e : nm x = nm y) : x = y := by
  induction l with
  | nil => cases hx
  | cons a l ih =>
    have hr := List.pairwise_cons.1 h
    rcases List.mem_cons.1 hx with ex | hx' <;> rcases List.mem_cons.1 hy with ey | hy'
    · exact ex.trans ey.symm
    · exact absurd e (by rw [ex]; exact bb_ne (hr.1 y hy'))
    · exact absurd e.symm (by rw [ey]; exact bb_ne (hr.1 x hx'))
    · exact ih hr.2 hx' hy'
theorem lookG_mem {k : List UInt8} {l : List α} (h : riseG nm l) {x : α} (hx : x ∈ l) (e : nm x = k) : lookG nm k l = some x := by
  cases hl : lookG nm k l with
  | none => exact absurd e (lookG_none hl x hx)
  | some y => obtain ⟨hy, ey⟩ := lookG_some hl; rw [rise_inj h hy hx (ey.trans e.symm)]
/-- Where one of the name is there, the place is its own. -/
theorem putG_set (f : α) : ∀ (l : List α), riseG nm l → (∃ x ∈ l, nm x = nm f) → putG nm f false l = l.map fun g => if nm g == nm f then f else g
  | [], _, h => by obtain ⟨x, hx, _⟩ := h; cases hx
  | g :: r, h, hx => by
    have hr := List.pairwise_cons.1 h
    by_cases e : nm g = nm f
    · have hd : dropG nm (nm f) r = r := dropG_all (fun x hx e' => bb_ne (hr.1 x hx) (e.trans e'.symm))
      have hm : r.map (fun g => if nm g == nm f then f else g) = r := by
        conv => rhs; rw [← List.map_id r]
        refine List.map_congr_left fun x hx => ?_
        have : nm x ≠ nm f := fun e' => bb_ne (hr.1 x hx) (e.trans e'.symm)
        simp [this]
      rw [List.map_cons, hm]
      simp [putG, leN, e, putG_done, hd]
    · obtain ⟨x, hx, ex⟩ := hx
      rcases List.mem_cons.1 hx with rfl | hx
      · exact absurd ex e
      · have hb := hr.1 x hx
        rw [ex] at hb
        have hle : leN (nm f) (nm g) = false := by simp [leN, bb_asymm hb, Ne.symm e]
        simp [putG, hle, e, putG_set f r hr.2 ⟨x, hx, ex⟩]
theorem sum_drop (φ : α → Nat) {k : List UInt8} : ∀ {l : List α}, riseG nm l → ((dropG nm k l).map φ).sum + ((lookG nm k l).map φ).getD 0 = (l.map φ).sum
  | [], _ => rfl
  | g :: r, h => by
    have hr := List.pairwise_cons.1 h
    have ih := sum_drop φ (k := k) hr.2
    by_cases e : nm g = k
    · have hd : dropG nm k r = r := dropG_all (fun x hx e' => bb_ne (hr.1 x hx) (e.trans e'.symm))
      have h1 : dropG nm k (g :: r) = r := by
        have : dropG nm k (g :: r) = dropG nm k r := by simp [dropG, List.filter_cons, e]
        rw [this, hd]
      simp [h1, lookG, e]
      omega
    · have h1 : dropG nm k (g :: r) = g :: dropG nm k r := by simp [dropG, List.filter_cons, e]
      have h2 : lookG nm k (g :: r) = lookG nm k r := by simp [lookG, e]
      rw [h1, h2]
      simp only [List.map_cons, List.sum_cons]
      omega
theorem sum_sub (φ : α → Nat) : ∀ (s l : List α), riseG nm l → (∀ y ∈ s, y ∈ l) → (s.map nm).Nodup → (s.map φ).sum ≤ (l.map φ).sum
  | [], _, _, _, _ => Nat.zero_le _
  | y :: s, l, hr, hm, hn => by
    rw [List.map_cons, List.nodup_cons] at hn
    have h1 := sum_sub φ s (dropG nm (nm y) l) (riseG_drop _ hr) (fun z hz => mem_dropG.2 ⟨hm z (by simp [hz]), fun e => hn.1 (by rw [← e]; exact List.mem_map_of_mem hz)⟩) hn.2
    have h2 := sum_drop (nm := nm) φ (k := nm y) hr
    rw [lookG_mem hr (hm y (by simp)) rfl] at h2
    simp only [Option.map_some, Option.getD_some, List.map_cons, List.sum_cons] at h2 ⊢
    omega
theorem sum_ins (φ : α → Nat) (f : α) : ∀ (l : List α), ((insG nm f l).map φ).sum = φ f + (l.map φ).sum
  | [] => rfl
  | y :: r => by
    unfold insG
    split
    · simp
    · simp only [List.map_cons, List.sum_cons, sum_ins φ f r]; omega
theorem sum_put (φ : α → Nat) (f : α) {l : List α} (h : riseG nm l) : ((putG nm f false l).map φ).sum + ((lookG nm (nm f) l).map φ).getD 0 = (l.map φ).sum + φ f := by
  rw [putG_ins f l h, sum_ins]
  have := sum_drop (nm := nm) φ (k := nm f) h
  omega
end

/-- How many bytes there are. -/
def sumF (l : List Fl) : Nat := (l.map fun f => f.bytes.length).sum
/-- What every disk is. -/
structure Okd (d : Dk) : Prop where
  rise : riseG Fl.name d.files
  last : ∀ f ∈ d.files, f.last ≤ f.bytes.length
  name : ∀ f ∈ d.files, nameOk f.name = true
  sum : sumF d.files ≤ d.room
  room : d.room < 9223372036854775808
  arm : ∀ n, d.arm = some n → n < 9223372036854775808

def newD (room : Int) : Dk := ⟨room.toNat, 0, [], none, false⟩
def freeD (d : Dk) : Int := (d.room : Int) - sumF d.files
/-- A step: the disk behind it; does it die there? -/
def stepD (d : Dk) : Dk × Bool := if d.arm = some 0 then ({ d with steps := d.steps + 1, dead := true }, true) else ({ d with steps := d.steps + 1, arm := d.arm.map (· - 1) }, false)
def fileOf (l : List Fl) (name : List UInt8) : Fl := (lookG Fl.name name l).getD ⟨name, [], 0⟩
def grownF (l : List Fl) (name b : List UInt8) : List Fl := putG Fl.name { fileOf l name with bytes := (fileOf l name).bytes ++ b } false l
def appendD (d : Dk) (name b : List UInt8) : Dk × Int :=
  if d.dead then (d, 44) else if !nameOk name then (d, 40) else if (b.length : Int) > freeD d then (d, 41) else
    ((stepD { d with files := grownF d.files name b }).1, if (stepD { d with files := grownF d.files name b }).2 then 44 else 0)
def refusedD (d : Dk) (call : Int) (name to : List UInt8) (n : Int) : Int :=
  if d.dead then 44 else match lookG Fl.name name d.files with
    | none => 42
    | some f => if call == 2 && (decide (n < 0) || decide (n > (f.bytes.length : Int))) then 43 else if call == 3 && !nameOk to then 40 else 0
def changedF (l : List Fl) (call : Int) (name to : List UInt8) (n : Int) : List Fl :=
  if call = 1 then putG Fl.name { fileOf l name with last := (fileOf l name).bytes.length } false l
  else if call = 2 then putG Fl.name { fileOf l name with bytes := (fileOf l name).bytes.take n.toNat, last := min (fileOf l name).last n.toNat } false l
  else if call = 3 then putG Fl.name { fileOf l name with name := to } false (dropG Fl.name name l)
  else dropG Fl.name name l
def doD (d : Dk) (call : Int) (name to : List UInt8) (n : Int) : Dk × Int :=
  if refusedD d call name to n ≠ 0 then (d, refusedD d call name to n)
  else if (stepD d).2 then ((stepD d).1, 44)
  else ({ (stepD d).1 with files := changedF d.files call name to n }, 0)
def armD (d : Dk) (at_ : Int) : Dk := if d.dead then d else { d with arm := if at_ ≥ 0 then some at_.toNat else none }
def keptF (f : Fl) (k : Int) : Fl := { f with bytes := f.bytes.take (f.last + min k.toNat (f.bytes.length - f.last)), last := f.last + min k.toNat (f.bytes.length - f.last) }
def crashF : List Fl → List Int → List Fl
  | [], _ => []
  | f :: r, [] => keptF f 0 :: crashF r []
  | f :: r, k :: ks => keptF f k :: crashF r ks
def crashD (d : Dk) (keep : List Int) : Dk := ⟨d.room, 0, crashF d.files keep, none, false⟩
def flipOk (d : Dk) (name : List UInt8) (at_ bit : Int) : Bool :=
  match lookG Fl.name name d.files with
  | none => false
  | some f => decide (0 ≤ at_) && decide (at_ < f.bytes.length) && decide (0 ≤ bit) && decide (bit ≤ 7)
def flipB (bs : List UInt8) (i bit : Nat) : List UInt8 := bs.set i ((bs.getD i 0) ^^^ UInt8.ofNat (2 ^ bit))
def flipD (d : Dk) (name : List UInt8) (at_ bit : Int) : Dk :=
  if flipOk d name at_ bit then { d with files := putG Fl.name { fileOf d.files name with bytes := flipB (fileOf d.files name).bytes at_.toNat bit.toNat } false d.files } else d
def wipeD (d : Dk) : Dk := { d with files := [] }
end Go.Hay
end

section
namespace Go.Hay
open Go.RowKit
set_option linter.unusedVariables false
set_option linter.unusedSimpArgs false

theorem fileOf_some {l : List Fl} {k : List UInt8} {f : Fl} (h : lookG Fl.name k l = some f) : fileOf l k = f := by simp [fileOf, h]
theorem fileOf_none {l : List Fl} {k : List UInt8} (h : lookG Fl.name k l = none) : fileOf l k = ⟨k, [], 0⟩ := by simp [fileOf, h]
theorem fileOf_name (l : List Fl) (k : List UInt8) : (fileOf l k).name = k := by
  cases h : lookG Fl.name k l with
  | none => rw [fileOf_none h]
  | some f => rw [fileOf_some h]; exact (lookG_some h).2
theorem fileOf_len (l : List Fl) (k : List UInt8) : ((lookG Fl.name k l).map fun f => f.bytes.length).getD 0 = (fileOf l k).bytes.length := by
  cases h : lookG Fl.name k l with
  | none => rw [fileOf_none h]; rfl
  | some f => rw [fileOf_some h]; rfl
theorem fileOf_last {d : Dk} (ho : Okd d) (k : List UInt8) : (fileOf d.files k).last ≤ (fileOf d.files k).bytes.length := by
  cases h : lookG Fl.name k d.files with
  | none => rw [fileOf_none h]; exact Nat.le_refl _
  | some f => rw [fileOf_some h]; exact ho.last f (lookG_some h).1
/-- A file put. -/
theorem okPut {d : Dk} (ho : Okd d) (f : Fl) (hl : f.last ≤ f.bytes.length) (hn : nameOk f.name = true) (hs : sumF d.files + f.bytes.length ≤ d.room + (fileOf d.files f.name).bytes.length) : Okd { d with files := putG Fl.name f false d.files } := by
  refine ⟨riseG_put f ho.rise, fun x hx => ?_, fun x hx => ?_, ?_, ho.room, ho.arm⟩
  · rcases (mem_putG ho.rise).1 hx with rfl | hx
    · exact hl
    · exact ho.last x hx.1
  · rcases (mem_putG ho.rise).1 hx with rfl | hx
    · exact hn
    · exact ho.name x hx.1
  · have := sum_put (nm := Fl.name) (fun f : Fl => f.bytes.length) f ho.rise
    rw [fileOf_len] at this
    simp only [sumF] at hs ⊢
    omega
theorem okDrop {d : Dk} (ho : Okd d) (k : List UInt8) : Okd { d with files := dropG Fl.name k d.files } := by
  refine ⟨riseG_drop k ho.rise, fun x hx => ho.last x (mem_dropG.1 hx).1, fun x hx => ho.name x (mem_dropG.1 hx).1, ?_, ho.room, ho.arm⟩
  have := sum_drop (nm := Fl.name) (fun f : Fl => f.bytes.length) (k := k) ho.rise
  have := ho.sum
  simp only [sumF] at *
  omega
theorem okGrown {d : Dk} (ho : Okd d) {name b : List UInt8} (hn : nameOk name = true) (hf : (b.length : Int) ≤ freeD d) : Okd { d with files := grownF d.files name b } := by
  refine okPut ho _ ?_ (by simp only [fileOf_name]; exact hn) ?_
  · have := fileOf_last ho name
    simp only [List.length_append]
    omega
  · simp only [fileOf_name, List.length_append]
    unfold freeD at hf
    omega
theorem okSync {d : Dk} (ho : Okd d) {name : List UInt8} {f : Fl} (h : lookG Fl.name name d.files = some f) : Okd { d with files := putG Fl.name { f with last := f.bytes.length } false d.files } := by
  obtain ⟨hm, rfl⟩ := lookG_some h
  refine okPut ho _ (Nat.le_refl _) (ho.name f hm) ?_
  have e := fileOf_some h
  have := ho.sum
  simp only [e]
  omega
theorem okTrunc {d : Dk} (ho : Okd d) {name : List UInt8} {f : Fl} (h : lookG Fl.name name d.files = some f) (n : Nat) (hn : n ≤ f.bytes.length) : Okd { d with files := putG Fl.name { f with bytes := f.bytes.take n, last := min f.last n } false d.files } := by
  obtain ⟨hm, rfl⟩ := lookG_some h
  refine okPut ho _ ?_ (ho.name f hm) ?_
  · simp only [List.length_take]
    have := ho.last f hm
    omega
  · have e := fileOf_some h
    have := ho.sum
    simp only [e, List.length_take]
    omega
theorem flipB_length (bs : List UInt8) (i bit : Nat) : (flipB bs i bit).length = bs.length := by simp [flipB]
theorem okFlip {d : Dk} (ho : Okd d) {name : List UInt8} {f : Fl} (h : lookG Fl.name name d.files = some f) (i b : Nat) : Okd { d with files := putG Fl.name { f with bytes := flipB f.bytes i b } false d.files } := by
  obtain ⟨hm, rfl⟩ := lookG_some h
  refine okPut ho _ ?_ (ho.name f hm) ?_
  · simp only [flipB_length]; exact ho.last f hm
  · have e := fileOf_some h
    have := ho.sum
    simp only [e, flipB_length]
    omega
theorem okRename {d : Dk} (ho : Okd d) {name to : List UInt8} {f : Fl} (h : lookG Fl.name name d.files = some f) (ht : nameOk to = true) : Okd { d with files := putG Fl.name { f with name := to } false (dropG Fl.name name d.files) } := by
  have hd := okDrop ho name
  refine okPut hd { f with name := to } ?_ ht ?_
  · exact ho.last f (lookG_some h).1
  · have := sum_drop (nm := Fl.name) (fun f : Fl => f.bytes.length) (k := name) ho.rise
    have e := fileOf_len d.files name
    rw [fileOf_some h] at e
    have h2 := ho.sum
    simp only [sumF] at *
    omega
theorem okWipe {d : Dk} (ho : Okd d) : Okd (wipeD d) := ⟨List.Pairwise.nil, by simp [wipeD], by simp [wipeD], by simp [wipeD, sumF], ho.room, ho.arm⟩
theorem keptF_le {f : Fl} (h : f.last ≤ f.bytes.length) (k : Int) : (keptF f k).bytes.length = (keptF f k).last ∧ (keptF f k).last ≤ f.bytes.length ∧ (keptF f k).name = f.name := by
  simp only [keptF, List.length_take]
  refine ⟨by omega, by omega, trivial⟩
theorem crashF_name : ∀ (l : List Fl) (ks : List Int), (crashF l ks).map Fl.name = l.map Fl.name
  | [], _ => by simp [crashF]
  | f :: r, [] => by simp [crashF, crashF_name r, keptF]
  | f :: r, k :: ks => by simp [crashF, crashF_name r, keptF]
theorem crashF_mem : ∀ (l : List Fl) (ks : List Int), ∀ x ∈ crashF l ks, ∃ f ∈ l, ∃ k, x = keptF f k
  | [], _ => by simp [crashF]
  | f :: r, [] => by
    intro x hx
    rcases List.mem_cons.1 hx with rfl | hx
    · exact ⟨f, by simp, 0, rfl⟩
    · obtain ⟨g, hg, k, e⟩ := crashF_mem r [] x hx
      exact ⟨g, by simp [hg], k, e⟩
  | f :: r, k :: ks => by
    intro x hx
    rcases List.mem_cons.1 hx with rfl | hx
    · exact ⟨f, by simp, k, rfl⟩
    · obtain ⟨g, hg, k, e⟩ := crashF_mem r ks x hx
      exact ⟨g, by simp [hg], k, e⟩
theorem crashF_sum : ∀ (l : List Fl) (ks : List Int), (∀ f ∈ l, f.last ≤ f.bytes.length) → sumF (crashF l ks) ≤ sumF l
  | [], _, _ => by simp [crashF]
  | f :: r, [], h => by
    have := crashF_sum r [] (fun x hx => h x (by simp [hx]))
    have := keptF_le (h f (by simp)) 0
    simp only [crashF, sumF, List.map_cons, List.sum_cons] at *
    omega
  | f :: r, k :: ks, h => by
    have := crashF_sum r ks (fun x hx => h x (by simp [hx]))
    have := keptF_le (h f (by simp)) k
    simp only [crashF, sumF, List.map_cons, List.sum_cons] at *
    omega
theorem okCrash {d : Dk} (ho : Okd d) (ks : List Int) : Okd (crashD d ks) := by
  refine ⟨?_, fun x hx => ?_, fun x hx => ?_, ?_, ho.room, by simp [crashD]⟩
  · have e := crashF_name d.files ks
    have h1 : riseG id ((crashF d.files ks).map Fl.name) := by rw [e]; exact (riseG_map Fl.name (fun _ => rfl)).2 ho.rise
    exact (riseG_map (nm := Fl.name) (nm' := id) Fl.name (fun _ => rfl)).1 h1
  · obtain ⟨f, hf, k, rfl⟩ := crashF_mem _ _ x hx
    exact Nat.le_of_eq (keptF_le (ho.last f hf) k).1.symm
  · obtain ⟨f, hf, k, rfl⟩ := crashF_mem _ _ x hx
    rw [(keptF_le (ho.last f hf) k).2.2]; exact ho.name f hf
  · exact Nat.le_trans (crashF_sum _ _ ho.last) ho.sum
end Go.Hay
end

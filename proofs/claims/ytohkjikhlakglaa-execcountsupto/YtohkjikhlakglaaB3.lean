/- Rows of any element: made, written at a place, copied into. No statement of the seat is proved here. A range whose rounds begin by making a box for what is given: a law. No statement of the seat is proved here. A region that draws its order, inside a round of a range over a function: as a plain one, where nothing is deferred. No statement of the seat is proved here. Marks among the deferred calls, however many: a loop in which there is a range over a function. The law's all: who gathers the rows of an iterator, and spoils what was given. The law's all, over any iterator of rows. An iterator of rows that ranges over another one. A row's value at a place: plain. -/
import Derived.Test.YtohkjikhlakglaaB1
import Derived.Laws.MakeOwn
import Derived.Test.YtohkjikhlakglaaB2
import Derived.OrdersHeld
import Derived.OrdersIn
import Derived.OwnWalkIn
import Derived.RangeFuncCalls
import Derived.Deep.RegionHeld3
import Derived.RangeFuncLeaves
import Derived.RangeFuncRecord
section
namespace Go.Hay
open Go.RowKit
set_option linter.unusedVariables false

section
variable {α : Type} {E : El α}
theorem El.cs_replicate (z : α) (n : Nat) (j : Nat) (u : Value) (h : (E.cs (List.replicate n z))[j]? = some u) : (E.c z)[j % E.n]? = some u ∧ j < n * E.n := by
  have hj : j < n * E.n := by have := (List.getElem?_eq_some_iff.1 h).1; rwa [El.cs_length, List.length_replicate] at this
  refine ⟨?_, hj⟩
  have hq : j / E.n < n := (Nat.div_lt_iff_lt_mul E.pos).2 hj
  have hm : j % E.n < E.n := Nat.mod_lt _ E.pos
  have hx : (List.replicate n z)[j / E.n]? = some z := by rw [List.getElem?_replicate, if_pos hq]
  have e := El.cs_get E hx hm
  rw [Nat.mul_comm, Nat.div_add_mod] at e
  rw [← e]; exact h
/-- So many elements, all nought, made. -/
theorem run_makeG {P : Program} (w : World) (t e : TypeId) (i : TypeInfo) (zv : Value) (z : α) (bytes : Nat) (ht : P.underlying t = some (.slice e)) (hi : P.info? e = some i) (hz : i.zero = some zv) (hsize : i.size = E.n) (hby : i.bytes = bytes) (hzc : zv.cells = (E.c z).toArray)
    (kl kc : IntKind) (n : Nat) (hn : n * bytes ≤ 281474976710656) (h63 : n ≤ maxLen) :
    ∃ W, (Instr.makeSlice t (.int kl (n : Int)) (.int kc (n : Int))).run P w = .ok (.slice (some ⟨w.heap.size, 0, none⟩) n n) W ∧ E.Row W (.slice (some ⟨w.heap.size, 0, none⟩) n n) (List.replicate n z) ∧ Kp [] w W ∧ W.heap.size = w.heap.size + 1 := by
  have hr := run_make (P := P) w t e i zv ht hi hz kl kc n n (by omega) (by omega) (by rw [hby]; have h : ((n * bytes : Nat) : Int) ≤ ((281474976710656 : Nat) : Int) := Int.ofNat_le.2 hn; rw [Int.natCast_mul, Int.mul_comm] at h; exact h) (by unfold maxLen at h63; omega)
  rw [Int.toNat_natCast, hsize] at hr
  have hzs : zv.cells.size = E.n := by rw [hzc]; simp [E.len]
  have hget : ∀ j, j < n * E.n → (w.alloc (.cells (madeCells zv.cells (n * E.n)) e)).cell? ⟨w.heap.size, 0 + j, none⟩ = some zv.cells[j % E.n]! := fun j hj => by
    have e1 : (w.alloc (.cells (madeCells zv.cells (n * E.n)) e)).cell? ⟨w.heap.size, 0 + j, none⟩ = _ := World.cell?_alloc_new w _ _ (0 + j)
    rw [e1, Nat.zero_add]
    unfold madeCells
    rw [Array.getElem?_map, Array.getElem?_range, if_pos hj, hzs]
    rfl
  refine ⟨_, hr, .inr ⟨w.heap.size, 0, n, by rw [List.length_replicate], by rw [List.length_replicate]; exact Nat.le_refl _, h63, by simp, fun j u hu => ?_, fun j hj => ⟨?_, World.frozen?_alloc_new w _ _ (0 + j)⟩⟩, (Kp.refl _ _).alloc _, by simp⟩
  · obtain ⟨h1, h2⟩ := El.cs_replicate z n j u hu
    rw [hget j h2, hzc]
    have hm : j % E.n < (E.c z).length := by rw [E.len]; exact Nat.mod_lt _ E.pos
    rw [getElem!_pos _ _ (by simpa using hm)]
    have := (List.getElem?_eq_some_iff.1 h1).2
    simp [this]
  · rw [hget j hj]; rfl
/-- .. written at a place. -/
theorem El.Row.setAt {w : World} {g o n cap : Nat} {l : List α} (h : E.Row w (.slice (some ⟨g, o, none⟩) n cap) l) (i : Nat) (hi : i < l.length) (x : α) : E.Row (w.setCells g (o + i * E.n) (E.c x)) (.slice (some ⟨g, o, none⟩) n cap) (l.set i x) := by
  rcases h with ⟨e, _⟩ | ⟨g, o, c, e, hl, hx, hg, hc, ht⟩
  · cases e
  · cases e
    have hin : i * E.n + E.n ≤ l.length * E.n := by rw [← Nat.succ_mul]; exact Nat.mul_le_mul_right _ hi
    have hcap : l.length * E.n ≤ cap * E.n := Nat.mul_le_mul_right _ hl
    have hsome : ∀ j, j < (E.c x).length → (w.cell? ⟨g, o + i * E.n + j, none⟩).isSome = true := fun j hj => by rw [E.len] at hj; rw [Nat.add_assoc]; exact (ht _ (by omega)).1
    refine .inr ⟨g, o, cap, by rw [List.length_set], by rw [List.length_set]; exact hl, hx, by rw [size_setCells]; exact hg, fun j u hu => ?_, fun j hj => ⟨?_, (World.frozen?_setCells g _ _ _ _).trans (ht j hj).2⟩⟩
    · have hjl : j < l.length * E.n := by have := (List.getElem?_eq_some_iff.1 hu).1; rwa [El.cs_length, List.length_set] at this
      have hq : j / E.n < l.length := (Nat.div_lt_iff_lt_mul E.pos).2 hjl
      have hm : j % E.n < E.n := Nat.mod_lt _ E.pos
      have hjd : j = j / E.n * E.n + j % E.n := by rw [Nat.mul_comm]; exact (Nat.div_add_mod j E.n).symm
      by_cases hji : j / E.n = i
      · have hx' : (l.set i x)[j / E.n]? = some x := by rw [hji]; exact List.getElem?_set_self hi
        have e := El.cs_get E hx' hm
        rw [← hjd, hu] at e
        have hk : j % E.n < (E.c x).length := by rw [E.len]; exact hm
        have := World.cell?_setCells_in g (E.c x) (o + i * E.n) w hsome (j % E.n) hk
        rw [← List.getElem?_eq_getElem hk, ← e] at this
        rw [show o + i * E.n + j % E.n = o + j by rw [hji] at hjd; omega] at this
        exact this
      · have hy : (l.set i x)[j / E.n]? = some l[j / E.n] := by rw [List.getElem?_set_ne (fun e => hji e.symm)]; simp [hq]
        have e := El.cs_get E hy hm
        have e2 := El.cs_get E (show l[j / E.n]? = some l[j / E.n] by simp [hq]) hm
        rw [← hjd, hu] at e
        rw [← hjd, ← e] at e2
        rw [World.cell?_setCells_out g _ _ _ _ (fun _ _ => ?_)]
        · exact hc j u e2
        · rw [E.len]
          show o + j < o + i * E.n ∨ o + i * E.n + E.n ≤ o + j
          rcases Nat.lt_or_gt_of_ne hji with h1 | h1
          · have : (j / E.n + 1) * E.n ≤ i * E.n := Nat.mul_le_mul_right _ h1
            rw [Nat.succ_mul] at this
            left; omega
          · have : (i + 1) * E.n ≤ j / E.n * E.n := Nat.mul_le_mul_right _ h1
            rw [Nat.succ_mul] at this
            right; omega
    · by_cases hin2 : i * E.n ≤ j ∧ j < i * E.n + E.n
      · have := World.cell?_setCells_in g (E.c x) (o + i * E.n) w hsome (j - i * E.n) (by rw [E.len]; omega)
        rw [show o + i * E.n + (j - i * E.n) = o + j by omega] at this
        rw [this]; rfl
      · rw [World.cell?_setCells_out g _ _ _ _ (fun _ _ => by rw [E.len]; show o + j < o + i * E.n ∨ o + i * E.n + E.n ≤ o + j; omega)]
        exact (ht j hj).1
end
def BytE : El UInt8 where
  n := 1
  c x := [.int .u8 x.toNat]
  len _ := rfl
  one _ u hu := by simp at hu; subst hu; rfl
  pos := by decide
theorem bytE_cs (bs : List UInt8) : BytE.cs bs = bs.map fun x => .int .u8 x.toNat := by
  unfold El.cs BytE
  induction bs with
  | nil => rfl
  | cons x l ih => simp [List.flatMap_cons, ih]
theorem rowByt {w : World} {v : Value} {bs : List UInt8} : BytE.Row w v bs ↔ Row w v bs := by
  have hn : BytE.n = 1 := rfl
  constructor
  · rintro (h | ⟨g, o, cap, rfl, hl, hm, hg, hc, ht⟩)
    · exact .inl h
    · exact .inr ⟨g, o, cap, rfl, hl, hm, hg, fun j u hu => hc j _ (by rw [bytE_cs, List.getElem?_map, hu]; rfl), fun j hj => ht j (by rw [hn]; omega)⟩
  · rintro (h | ⟨g, o, cap, rfl, hl, hm, hg, hc, ht⟩)
    · exact .inl h
    · refine .inr ⟨g, o, cap, rfl, hl, hm, hg, fun j u hu => ?_, fun j hj => ht j (by rw [hn] at hj; omega)⟩
      rw [bytE_cs, List.getElem?_map] at hu
      cases hb : bs[j]? with
      | none => rw [hb] at hu; cases hu
      | some b => rw [hb] at hu; cases hu; exact hc j b hb
theorem seeByt {w : World} {a : Option Addr} {bs : List UInt8} : BytE.See w a bs ↔ Sees w a bs := by
  constructor
  · rintro (h | ⟨g, o, rfl, hc⟩)
    · exact .inl h
    · exact .inr ⟨g, o, rfl, fun j u hu => hc j _ (by rw [bytE_cs, List.getElem?_map, hu]; rfl)⟩
  · rintro (h | ⟨g, o, rfl, hc⟩)
    · exact .inl h
    · refine .inr ⟨g, o, rfl, fun j u hu => ?_⟩
      rw [bytE_cs, List.getElem?_map] at hu
      cases hb : bs[j]? with
      | none => rw [hb] at hu; cases hu
      | some b => rw [hb] at hu; cases hu; exact hc j b hb
end Go.Hay
end

section
namespace Go.Hay
open Go.RowKit
set_option linter.unusedVariables false

variable {F : Fence} {n : Nat} {P : Program} {σ α : Type}

/-- The law. -/
theorem wpRangeY {g : Operand} {ps : Array Tmp} {assign body : Code} {Q : Exit → Act → World → Prop} {a : Act} {w : World}
    (hro : F.round = none) (h1 : 1 ≤ n) {gf : Nat} {lb : Array Value} (hg : a.eval g = .func (.func gf) #[] lb) (hFg : F.fn gf) (eg : ∀ args w, (callFunc gf args).run P w = .ok (.enter gf args) w)
    {encs : α → Array Value} {T : σ → σ → World → World → Prop} {Tx : σ → World → World → Prop} {K : σ → World → World → Prop} {ok : σ → α → Prop} {nx : σ → α → σ} {S Sp : σ → Prop} {s0 : σ} {w0 : World}
    (hseq : SeqX F (n - 1) P gf lb encs T Tx K ok nx S Sp s0 w0) (hps : ∀ x, (encs x).size = ps.size)
    (hKt : ∀ {s : σ} {A B C : World}, K s A B → K s B C → K s A C) (hKa : ∀ s W o, K s W (W.alloc o)) (hb0 : K s0 w0 w)
    (I : σ → World → Prop) (Ix : Code → σ → World → Prop) (hI : OwnFrom w.heap.size I) (hIx : ∀ c, OwnFrom w.heap.size (Ix c)) (h0 : I s0 w)
    (hTk : ∀ s s' A B, I s A → T s s' A B → ∀ (k : Nat) (o : Obj), (k = w.heap.size ∨ k = w.heap.size + 1) → A.heap[k]? = some o → B.heap[k]? = some o)
    (hXk : ∀ c s A B, Ix c s A → Tx s A B → ∀ (k : Nat) (o : Obj), (k = w.heap.size ∨ k = w.heap.size + 1) → A.heap[k]? = some o → B.heap[k]? = some o)
    (hIT : ∀ s s' A B, w.heap.size + 2 ≤ A.heap.size → I s A → T s s' A B → I s' B) (hXT : ∀ c s A B, Ix c s A → Tx s A B → Ix c s B)
    (hKb : ∀ (s : σ) (W : World) (o' : Obj), I s W → K s W (W.putObj (w.heap.size + 1) o')) (hKc : ∀ (s : σ) (x : α) (W : World) (o' : Obj), I (nx s x) W → K s W (W.putObj (w.heap.size + 1) o'))
    (hKx : ∀ (c : Code) (s : σ) (x : α) (W : World) (o' : Obj), Ix c (nx s x) W → K s W (W.putObj (w.heap.size + 1) o'))
    (ob : α → Obj) (a₁ : α → Nat → Act) (hassign : ∀ (l : Nat) (x : α) (W : World) (C : Act → World → Prop), C (a₁ x W.heap.size) (W.alloc (ob x)) →
      assign.wpIn (F.inRound l) (n - 1 - 1) P (Exit.then C (fun _ _ _ => False)) { tmps := (ps.zip (encs x)).foldl (fun t (p, v) => t.setIfInBounds p v) a.tmps, defers := [] } W)
    (hbody : ∀ (l : Nat) (s : σ) (x : α) (W : World) (q : Nat), I s W → ok s x → W.heap[q]? = some (ob x) → w.heap.size + 2 ≤ q → body.wpIn (F.inRound l) (n - 1 - 1) P (leftX w.heap.size K I Ix s (nx s x) W) (a₁ x q) W)
    (hdone : ∀ (D : Nat) (s : σ) (W : World), w.heap.size ≤ D → S s → I s W → W.heap[D]? = some (.deferred (some [])) → Q .normal { a with defers := { target := .collected D, args := #[] } :: a.defers } W)
    (hstop : ∀ (D : Nat) (c : Code) (s : σ) (W : World), w.heap.size ≤ D → Sp s → Ix c s W → W.heap[D]? = some (.deferred (some [])) → c.wpIn F n P Q { a with defers := { target := .collected D, args := #[] } :: a.defers } W) :
    (Code.rangeFunc g ps assign body).wpIn F n P Q a w := by
  refine wpIn_rangeFunc fun fn hfn => ?_
  rw [hro]
  -- the loop's record, as it may stand
  let R : LoopState → Option Code → Obj := fun st pe => .loop { state := st, pending := pe, fn, tmps := a.tmps, params := ps, assign, body, defers := w.heap.size }
  let Bk : LoopState → Option Code → World → Prop := fun st pe W => W.heap[w.heap.size + 1]? = some (R st pe) ∧ W.heap[w.heap.size]? = some (.deferred (some []))
  have bkK : ∀ {st pe A B}, KeepsFrom w.heap.size A B → Bk st pe A → Bk st pe B := fun hk hb => ⟨hk.same _ _ (by omega) hb.1 rfl, hk.same _ _ (Nat.le_refl _) hb.2 rfl⟩
  have bkP : ∀ {st pe st' pe' A}, Bk st pe A → Bk st' pe' (A.putObj (w.heap.size + 1) (R st' pe')) := fun hb =>
    ⟨World.putObj_heap_same (Array.getElem?_eq_some_iff.1 hb.1).1, (World.putObj_heap_other (by omega)).trans hb.2⟩
  have iP : ∀ {st pe s A} (o : Obj), Bk st pe A → I s A → I s (A.putObj (w.heap.size + 1) o) := fun o hb hi => hI.putObj o hi (by omega) hb.1 rfl
  have ixP : ∀ {st pe s c A} (o : Obj), Bk st pe A → Ix c s A → Ix c s (A.putObj (w.heap.size + 1) o) := fun o hb hi => (hIx _).putObj o hi (by omega) hb.1 rfl
  have bsz : ∀ {st pe A}, Bk st pe A → w.heap.size + 2 ≤ A.heap.size := fun hb => by have := (Array.getElem?_eq_some_iff.1 hb.1).1; omega
  have b0 : Bk .ready none ((w.alloc (.deferred (some []))).alloc (R .ready none)) :=
    ⟨by have := World.alloc_heap_new (w.alloc (.deferred (some []))) (R .ready none); rwa [World.size_alloc] at this, (Below.heap_alloc _ _ _ (by simp)).trans (World.alloc_heap_new w _)⟩
  refine ⟨w.heap.size + 1, [{ target := .collected w.heap.size, args := #[] }], ((w.alloc (.deferred (some []))).alloc (R .ready none)), { target := .fn (.func gf) lb, args := #[.func (.yield (w.heap.size + 1)) #[] #[]] }, ((w.alloc (.deferred (some []))).alloc (R .ready none)), gf, #[.func (.yield (w.heap.size + 1)) #[] #[]] ++ lb, ((w.alloc (.deferred (some []))).alloc (R .ready none)),
    run_enterLoop_outer _ _ _ _ _, by simp only [resolve, hg]; simp [go_sem], fun f' hf' => by simp [Target.leads] at hf'; subst hf'; exact hFg, by simp [invoke, go_sem, eg], fun _ => h1, ?_⟩
  refine (hseq (w.heap.size + 1) (fun s A => I s A ∧ Bk .ready none A) (fun s A => ∃ c, Ix c s A ∧ Bk .done (some c) A) _ (hKt hb0 (hKt (hKa _ _ _) (hKa _ _ _)))
    (fun s s' A B hs ht => ⟨hIT s s' A B (bsz hs.2) hs.1 ht, hTk s s' A B hs.1 ht _ _ (.inr rfl) hs.2.1, hTk s s' A B hs.1 ht _ _ (.inl rfl) hs.2.2⟩)
    (fun s A B ⟨c, hs, hb⟩ ht => ⟨c, hXT c s A B hs ht, hXk c s A B hs ht _ _ (.inr rfl) hb.1, hXk c s A B hs ht _ _ (.inl rfl) hb.2⟩) ?_ ⟨hI.alloc _ (hI.alloc _ h0), b0⟩).mono ?_
  · -- one round
    rintro s x A ⟨hi, hb⟩ hok
    have hb1 : Bk .ready none (A.alloc (ob x)) := ⟨(Below.heap_alloc A _ _ (Array.getElem?_eq_some_iff.1 hb.1).1).trans hb.1, (Below.heap_alloc A _ _ (Array.getElem?_eq_some_iff.1 hb.2).1).trans hb.2⟩
    have hi1 : I s (A.alloc (ob x)) := hI.alloc _ hi
    have hz := bsz hb
    refine ⟨fn, _, assign, body, run_yield hb.1 (hps x), roundIn_of_wpIn hfn (hassign _ x A _ ⟨_, run_beginRound hb1.1 rfl, ?_⟩)⟩
    have hb2 : Bk .busy none ((A.alloc (ob x)).putObj (w.heap.size + 1) (R .busy none)) := bkP hb1
    refine wpIn_mono (hbody _ s x _ A.heap.size (iP _ hb1 hi1) hok ((World.putObj_heap_other (by omega)).trans (World.alloc_heap_new A (ob x))) hz) ?_
    rintro e a3 W3 hp
    cases e with
    | normal =>
      have hb3 := bkK hp.1 hb2
      exact ⟨_, _, run_endRound none hb3.1, .inl ⟨rfl, ⟨iP _ hb3 hp.2.2, bkP hb3⟩, hKt (hKa _ _ _) (hKt (hKb _ _ _ hi1) (hKt hp.2.1 (hKc _ _ _ _ hp.2.2)))⟩⟩
    | ret => have hb3 := bkK hp.1 hb2; exact ⟨_, _, run_endRound (some .ret) hb3.1, .inr ⟨rfl, ⟨.ret, ixP _ hb3 hp.2.2, bkP hb3⟩, hKt (hKa _ _ _) (hKt (hKb _ _ _ hi1) (hKt hp.2.1 (hKx _ _ _ _ _ hp.2.2)))⟩⟩
    | exit id => have hb3 := bkK hp.1 hb2; exact ⟨_, _, run_endRound (some (.exit id)) hb3.1, .inr ⟨rfl, ⟨.exit id, ixP _ hb3 hp.2.2, bkP hb3⟩, hKt (hKa _ _ _) (hKt (hKb _ _ _ hi1) (hKt hp.2.1 (hKx _ _ _ _ _ hp.2.2)))⟩⟩
    | goto t => have hb3 := bkK hp.1 hb2; exact ⟨_, _, run_endRound (some (.goto t)) hb3.1, .inr ⟨rfl, ⟨.goto t, ixP _ hb3 hp.2.2, bkP hb3⟩, hKt (hKa _ _ _) (hKt (hKb _ _ _ hi1) (hKt hp.2.1 (hKx _ _ _ _ _ hp.2.2)))⟩⟩
    | panic ch => exact hp.elim
    | outgrown => exact hp.elim
  · -- behind the iterator
    rintro e A ⟨⟨v, rfl⟩, (⟨s, hS, hi, hb⟩ | ⟨s, hSp, c, hi, hb⟩)⟩
    · exact ⟨none, _, run_endLoop hb.1 (by simp), hdone _ s _ (Nat.le_refl _) hS (iP _ hb hi) ((World.putObj_heap_other (by omega)).trans hb.2)⟩
    · exact ⟨some c, _, run_endLoop hb.1 (by simp), hstop _ c s _ (Nat.le_refl _) hSp (ixP _ hb hi) ((World.putObj_heap_other (by omega)).trans hb.2)⟩
end Go.Hay
end

section
namespace Go.Hay
open Go.RowKit
set_option linter.unusedVariables false

variable {P : Program} {l n : Nat}
theorem upon_round {o : Oper} {a : Act} {K : Act → World → Prop} {Q : Exit → Act → World → Prop} : ∀ {r : Result Next}, o.upon P a K Q r → o.uponIn (Fence.wide.inRound l) n P a K Q r := by
  intro r h
  have hdep : (Fence.wide.inRound l).depth.isSome = true → 1 ≤ n := fun h => by cases h
  unfold Oper.upon at h
  split at h
  · exact h
  · exact h
  · exact h
  · exact ⟨hdep, callsIn_wide.2 h⟩
  · refine ⟨hdep, fun c cs _ => ?_⟩
    obtain ⟨v, w', hr, hs⟩ := h c cs
    exact ⟨v, w', hr, stepsIn_wide.2 hs⟩
  · exact h
  · exact h.elim
theorem op_round {ops : Array Oper} {i : Nat} {K : Act → World → Prop} {Q : Exit → Act → World → Prop} {a : Act} {w : World} (hnd : ∀ o, ops[i]? = some o → ∀ c, o.op ≠ .defer c) (hlo : ¬ LetsOut Q) (h : wpOp P ops Q i K a w) : wpOpIn (Fence.wide.inRound l) n P ops Q i K a w := by
  unfold wpOp at h
  unfold wpOpIn
  cases ho : ops[i]? with
  | none => rw [ho] at h; exact h
  | some o =>
    rw [ho] at h
    simp only at h ⊢
    split
    · rename_i hw
      rw [if_pos hw] at h
      rcases h with h | h
      · refine ⟨fun _ _ => trivial, ?_⟩
        rw [Oper.semAt_plain _ _ _ (hnd o ho)]
        exact upon_round h
      · exact absurd h.2 hlo
    · rename_i hw
      rw [if_neg hw] at h
      exact ⟨fun _ _ => trivial, h⟩
theorem any_round {ops : Array Oper} {Q : Exit → Act → World → Prop} {S : World → Prop} (hnd : ∀ (i : Nat) (o : Oper), ops[i]? = some o → ∀ c, o.op ≠ .defer c) (hlo : ¬ LetsOut Q) : ∀ (fuel : Nat) (listed : Array Bool) (a : Act) (w : World), wpAnyH P .any ops Q S fuel listed a w → wpAnyIn (Fence.wide.inRound l) n P .any ops Q fuel listed a w
  | 0, _, _, _, h => h
  | fuel + 1, listed, a, w, h => ⟨h.1, fun i hi => op_round (hnd i) hlo (wpOp_mono (fun a w hk => any_round hnd hlo fuel _ a w hk.2) (h.2 i hi))⟩
def noDefer (ops : Array Oper) : Bool := ops.all fun o => match o.op with | .defer _ => false | _ => true
theorem noDefer_spec {ops : Array Oper} (h : noDefer ops = true) (i : Nat) (o : Oper) (ho : ops[i]? = some o) (c : Call) : o.op ≠ .defer c := fun e => by
  have := Array.all_eq_true.1 h i (Array.getElem?_eq_some_iff.1 ho).1
  rw [(Array.getElem?_eq_some_iff.1 ho).2, e] at this
  cases this
theorem region_round {id : Nat} {ops : Array Oper} {Q : Exit → Act → World → Prop} {a : Act} {w : World} (S : World → Prop) (hm : P.follows .mixedOrders = true) (hnd : noDefer ops = true) (hlo : ¬ LetsOut Q) (hS : S w.drew)
    (h : S w.drew → wpAnyH P .any ops Q S ops.size (Array.replicate ops.size false) a w.drew) : (Code.region id ops true).wpIn (Fence.wide.inRound l) n P Q a w :=
  wpIn_region_any hm (any_round (noDefer_spec hnd) hlo _ _ _ _ (h hS))
end Go.Hay
end

section
namespace Go.Hay
open Go.RowKit
set_option linter.unusedVariables false
/-- The marks of ranges that are over. -/
def marks (Ds : List Nat) : List Deferred := Ds.map fun D => { target := .collected D, args := #[] }
/-- They stand, and none stands twice. -/
structure Mks (Ds : List Nat) (w : World) : Prop where
  nd : Ds.Nodup
  at_ : ∀ D ∈ Ds, w.heap[D]? = some (.deferred (some []))
theorem Mks.nil (w : World) : Mks [] w := ⟨List.nodup_nil, by simp⟩
theorem Mks.lt {Ds : List Nat} {w : World} (h : Mks Ds w) : ∀ D ∈ Ds, D < w.heap.size := fun D hD => (Array.getElem?_eq_some_iff.1 (h.at_ D hD)).1
theorem Mks.kept {Ds : List Nat} {w w' : World} {S : List Nat} (h : Mks Ds w) (hk : Kp S w w') (hS : ∀ D ∈ Ds, D ∉ S) : Mks Ds w' :=
  ⟨h.nd, fun D hD => (hk.block D (h.lt D hD) (hS D hD)).trans (h.at_ D hD)⟩
theorem Mks.cons {Ds : List Nat} {w : World} {D : Nat} (h : Mks Ds w) (hD : w.heap[D]? = some (.deferred (some []))) (hn : D ∉ Ds) : Mks (D :: Ds) w :=
  ⟨List.nodup_cons.2 ⟨hn, h.nd⟩, fun E hE => by rcases List.mem_cons.1 hE with rfl | hE; exact hD; exact h.at_ E hE⟩
/-- A block that holds cells is no mark. -/
theorem Mks.cell {Ds : List Nat} {w : World} (h : Mks Ds w) {a : Addr} (hc : (w.cell? a).isSome = true) : a.block ∉ Ds := fun hm => by
  have := h.at_ _ hm
  unfold World.cell? at hc
  rw [this] at hc
  simp at hc
theorem leaves_marks {F : Fence} {n : Nat} {P : Program} {fn : Func} {tmps : Array Value} {R : Ending → World → Prop} : ∀ (Ds : List Nat) (w : World), Mks Ds w →
    (∀ w', Kp Ds w w' → ∃ v, (results fn tmps).run P w' = .ok v w' ∧ R (.returned v) w') → LeavesInM F n P fn tmps R (marks Ds) .returning w
  | [], w, _, h => h w (Kp.refl _ _)
  | D :: Ds, w, hM, h => by
    have hD := hM.at_ D (by simp)
    have hnd := List.nodup_cons.1 hM.nd
    have kD : Kp [D] w (w.putObj D (.deferred none)) := ⟨rfl, rfl, rfl, by simp, fun k hk hn => World.putObj_heap_other (by simpa using hn)⟩
    have hM2 : Mks Ds w := ⟨hnd.2, fun E hE => hM.at_ E (by simp [hE])⟩
    refine ⟨by simp, .inl ⟨D, _, rfl, run_takeDeferred hD, leaves_marks Ds _ (hM2.kept kD (fun E hE => by simp; rintro rfl; exact hnd.1 hE)) fun w' hk => h w' ?_⟩⟩
    exact (kD.mono (fun x hx => .inl (by simp at hx; simp [hx]))).trans hk (fun x hx => .inl (by simp [hx]))
end Go.Hay
end

section
namespace Go.Proofs.Ytohkjikhlakglaa
open Go.RowKit Go.Hay
attribute [local go_sem] Oper.semAt_some
set_option linter.unusedVariables false
set_option linter.unusedSimpArgs false

theorem infoVal : ∃ i : TypeInfo, Try.prog.info? 47 = some i ∧ i.zero = some (.agg #[.int .i64 0, .bool false, .int .i64 0, .string ⟨#[]⟩]) ∧ i.size = 4 ∧ i.bytes = 40 := by
  have h : (Try.prog.info? 47).map (fun i => (i.zero, i.size, i.bytes)) = some (some (.agg #[.int .i64 0, .bool false, .int .i64 0, .string ⟨#[]⟩]), 4, 40) := by kernel_rfl
  cases e : Try.prog.info? 47 with
  | none => rw [e] at h; cases h
  | some i =>
    rw [e] at h
    simp at h
    exact ⟨i, rfl, h.1, h.2.1, h.2.2⟩
theorem wpAppRunY {P : Program} {w w' : World} {ops : Array Oper} {rest : List Oper} {o : Oper} {a : Act} {Q : Exit → Act → World → Prop} (hgd : o.guard = none) (s x : Operand) (t tx : TypeId)
    (ho : o.op = .call { callee := .builtin .append, args := #[s, x], argTypes := #[t, tx] }) (v xv v' : Value) (hv : a.eval s = v) (hx : a.eval x = xv)
    (hrun : (Builtin.append_ #[t, tx] o.type #[v, xv]).run P w = .ok v' w') (h : wpList P ops Q rest (a.put o.dst v') w') : wpList P ops Q (o :: rest) a w := by
  refine wpList_plain hgd fun K hK' => ?_
  have hfin := hK' _ _ h
  unfold Oper.wp
  simp [execOp, ho, resolve, invoke, builtin, hv, hx, hrun, Result.andThen]
  exact hfin
/-- A row in memory of its own. -/
def NewR (l : List Val) (w : World) (e : Ending) (w' : World) : Prop := ∃ a c, e = .returned (.slice a l.length c) ∧ VE.Row w' (.slice a l.length c) l ∧ Kp [] w w' ∧ ∀ k ∈ blk a, w.heap.size ≤ k
theorem rowLies {w : World} {a : Option Addr} {c : Nat} {l : List Val} (h : VE.Row w (.slice a l.length c) l) : (⟨a, c, l⟩ : Vs).lies w := by
  obtain ⟨a', c', e, hs, h0, h1, h2, _⟩ := h.see
  cases e
  exact ⟨seeV.1 hs, h1, h2, fun e => (h0 e).2⟩
set_option maxHeartbeats 4000000 in
set_option maxRecDepth 100000 in
theorem cCopyR (a : Option Addr) (ca : Nat) (l : List Val) (w : World) (ha : Vals w a l) (hl : l.length ≤ 3600000000000) :
    Calls Try.prog 8 #[.slice a l.length ca] w (NewR l w) := by
  obtain ⟨i0, hi, hz0, hz1, hz2⟩ := infoVal
  obtain ⟨X1, hX1⟩ : ∃ X1, w.alloc (.cells #[] 47) = X1 := ⟨_, rfl⟩
  have kX1 : Kp [] w X1 := by rw [← hX1]; exact (Kp.refl _ _).alloc _
  have hr0 : VE.Row X1 (.slice (some ⟨w.heap.size, 0, none⟩) 0 0) [] := by
    refine .inr ⟨w.heap.size, 0, 0, rfl, Nat.le_refl _, Nat.zero_le _, by rw [← hX1]; simp, fun j u hu => by simp [El.cs] at hu, fun j hj => by omega⟩
  have hsrc := (seeV.2 (ha.kept kX1)).src (P := Try.prog) Try.underlying24 ca
  obtain ⟨v5, X2, hrun1, hrow5, kk5, hn5⟩ := run_appendG (E := VE) (P := Try.prog) X1 24 24 24 47 i0 _ 40 Try.underlying24 hi hz0 hz1 hz2 rfl (.slice (some ⟨w.heap.size, 0, none⟩) 0 0) [] hr0 _ l hsrc (by simp; omega) (by simp; omega)
  rw [List.nil_append] at hrow5
  obtain ⟨a5, c5, rfl, _⟩ := hrow5.see
  rw [ownV] at kk5
  have hb1 : blk (some (⟨w.heap.size, 0, none⟩ : Addr)) = [w.heap.size] := rfl
  have kX2 : Kp [] w X2 := kX1.trans kk5 (fun q hq => .inr (by rw [hb1] at hq; simp at hq; omega))
  have hn5' : ∀ q ∈ blk a5, w.heap.size ≤ q := fun q hq => by
    rcases hn5 q (by rw [ownV]; exact hq) with h | h
    · rw [ownV, hb1] at h; simp at h; omega
    · have := kX1.size; omega
  have hrow' := hid hrow5
  clear ha hr0 hsrc hrow5 kk5 hn5
  go_enter Try.func8, Try.ntmps8
  go_wp2_with (first | (refine wpAppRunY rfl _ _ 24 24 rfl _ _ _ rfl rfl hrun1 ?_) | fail)
  go_ret
  exact ⟨a5, c5, rfl, hrow'.out, kX2, hn5'⟩
theorem eqlFuncNilY {P : Program} {t : TypeId} {ps rs : Array TypeId} {v : Bool} (h : P.underlying t = some (.func ps rs v)) (f : Fn) (fi ca : Array Value) (w : World) : (binOp .eql t (.func f fi ca) .nilFunc).run P w = .ok (.bool false) w := by
  have e0 : ∀ d : Nat, (Op.equalIn (d + 1) t (.func f fi ca) .nilFunc).run P w = .ok false w := fun d => by simp [Op.equalIn, run_underlying h]
  have e : (Op.equal t (.func f fi ca) .nilFunc).run P w = .ok false w := e0 9999
  simp only [binOp]
  simp [e]
/-- How the gathering stands. -/
structure ColJ (w1 : World) (q3 : Nat) (R : List (List Val)) (s : Sr) (W : World) (ra : Option Addr) (rc : Nat) (L : List Vs) : Prop where
  co : CoR w1 [q3] s W
  box : W.cell? ⟨q3, 0, none⟩ = some (.slice ra L.length rc)
  free : W.frozen? ⟨q3, 0, none⟩ = false
  lot : Lot w1.heap.size ra rc L W
  took : L.map (·.l) = R.take s.i
  ne : ∀ k ∈ blk ra, k ∉ s.js ∧ k ∉ s.qs
  nes : ∀ x ∈ L, ∀ k ∈ blk x.a, k ∉ s.qs
  nil : L = [] → ra = none
  pend : ∀ x, s.p = some x → R[s.i]? = some x.l ∧ VE.Row W (.slice x.a x.l.length x.c) x.l ∧ ∀ k ∈ blk x.a, w1.heap.size + 2 ≤ k ∧ k ∉ s.js ∧ k ∉ blk ra ∧ ∀ y ∈ L, k ∉ blk y.a
def ColI (w1 : World) (q3 : Nat) (R : List (List Val)) (s : Sr) (W : World) : Prop := ∃ ra rc L, ColJ w1 q3 R s W ra rc L
theorem ColI.own {w1 : World} {q3 : Nat} {R : List (List Val)} : OwnFrom w1.heap.size (ColI w1 q3 R) := fun s X Y row ⟨ra, rc, L, h⟩ hg hr => by
  have ck := CK.ofGrown hg (fun r e => (hr r e).2)
  obtain ⟨h1, h2⟩ := ck.2 _ _ trivial h.box
  exact ⟨ra, rc, L, h.co.grown hg hr, h1, h2.trans h.free, h.lot.ck ck (fun _ _ => trivial) (fun _ _ _ _ => trivial), h.took, h.ne, h.nes, h.nil, fun x hx => by
    obtain ⟨p1, p2, p3⟩ := h.pend x hx
    exact ⟨p1, ckRow ck p2 (fun _ _ => trivial), p3⟩⟩
theorem ColI.step {w1 : World} {q3 : Nat} {R : List (List Val)} (hq : q3 < w1.heap.size) {s s' : Sr} {A B : World} (hz : w1.heap.size + 2 ≤ A.heap.size) (h : ColI w1 q3 R s A) (ht : StepR true R s s' A B) : ColI w1 q3 R s' B := by
  obtain ⟨ra, rc, L, h⟩ := h
  have co := h.co.step (by simpa using hq) hz ht
  have hqs : ∀ k, k < A.heap.size → k ∉ s.qs → k ∉ s'.qs := fun k hk hn hm => by
    cases hs : s.made with
    | true => rcases (ht.stays hs).2.2 k hm with e | e; exact hn e; omega
    | false => have := ((ht.makes hs).2.2 k hm).1; omega
  have hq3 : q3 ∉ s'.qs := fun hm => by
    have hm' : s'.made = true := by
      cases hs : s.made with
      | true => exact (ht.stays hs).1
      | false => exact (ht.makes hs).1
    have := (co.mde hm').2 q3 hm
    omega
  have ck := CK.ofTurn ht.turn
  obtain ⟨h1, h2⟩ := ck.2 _ _ hq3 h.box
  have hlt := h.lot.lt
  refine ⟨ra, rc, L, co, h1, h2.trans h.free, h.lot.ck ck (fun k hk => hqs k (hlt k hk) (h.ne k hk).2) (fun x hx k hk => hqs k (h.lot.rows x hx k hk).2.1 (h.nes x hx k hk)), by rw [ht.on]; exact h.took, fun k hk => ⟨fun hm => ?_, hqs k (hlt k hk) (h.ne k hk).2⟩, fun x hx k hk => hqs k (h.lot.rows x hx k hk).2.1 (h.nes x hx k hk), h.nil, fun x hx => ?_⟩
  · rcases ht.js k hm with e | e
    · exact (h.ne k hk).1 e
    · have := hlt k hk; omega
  · rcases ht.given with e | ⟨y, e, hy, hl, hf⟩
    · rw [e] at hx; cases hx
    · rw [e] at hx
      cases hx
      obtain ⟨hr, hb⟩ := hf rfl
      exact ⟨by rw [ht.on]; exact hy, hr, fun k hk => ⟨by have := (hb k hk).1; omega, (hb k hk).2.1, fun hm => by have := hlt k hm; have := (hb k hk).1; omega, fun z hz' hm => by have := (h.lot.rows z hz' k hm).2.1; have := (hb k hk).1; omega⟩⟩
/-- What all hands back. -/
def LotP (R : List (List Val)) (w : World) (e : Ending) (w' : World) : Prop := ∃ ra rc L, e = .returned (.slice ra L.length rc) ∧ Lot w.heap.size ra rc L w' ∧ L.map (·.l) = R ∧ Kp [] w w'
end Go.Proofs.Ytohkjikhlakglaa
end

section
namespace Go.Proofs.Ytohkjikhlakglaa
open Go.RowKit Go.Hay
attribute [local go_sem] Oper.semAt_some
set_option linter.unusedVariables false
set_option linter.unusedSimpArgs false

theorem cellCel {W : World} {k z : Nat} {v : Value} (h : W.cell? ⟨k, z, none⟩ = some v) : W.heap[k]?.map Obj.isCells = some true := by
  unfold World.cell? at h
  cases e : W.heap[k]? with
  | none => rw [e] at h; cases h
  | some ob => rw [e] at h; cases ob <;> simp_all [Obj.isCells]
theorem rowCel {α : Type} {E : El α} {W : World} {a : Option Addr} {n c : Nat} {l : List α} (h : E.Row W (.slice a n c) l) (hl : l ≠ []) : ∀ k ∈ blk a, W.heap[k]?.map Obj.isCells = some true := fun k hk => by
  rcases h with ⟨e, e2⟩ | ⟨g, o, cc, e, h1, _, _, _, ht⟩
  · exact absurd e2 hl
  · injection e with e1
    subst e1
    simp [blk] at hk
    subst hk
    have hp := E.pos
    have hlp : 0 < l.length := List.length_pos_iff.2 hl
    obtain ⟨u, hu⟩ := Option.isSome_iff_exists.1 (ht 0 (Nat.mul_pos (by omega) hp)).1
    exact cellCel hu
/-- A row whose places are all written over. -/
theorem spoilCells {w : World} {g o n c : Nat} {l : List Val} (h : VE.Row w (.slice (some ⟨g, o, none⟩) n c) l) (i : Nat) (hi : i < l.length) : ∀ j, j < 4 → (∃ u, w.cell? ⟨g, o + i * 4 + j, none⟩ = some u) ∧ w.frozen? ⟨g, o + i * 4 + j, none⟩ = false := by
  intro j hj
  rcases h with ⟨e, _⟩ | ⟨g', o', cc, e, hl, hx, hg, hc, ht⟩
  · cases e
  · cases e
    have e : VE.n = 4 := rfl
    have := ht (i * 4 + j) (by rw [e]; omega)
    rw [← Nat.add_assoc] at this
    exact ⟨Option.isSome_iff_exists.1 this.1, this.2⟩
theorem spoilSet {w : World} {g o n c : Nat} {l : List Val} (h : VE.Row w (.slice (some ⟨g, o, none⟩) n c) l) (i : Nat) (hi : i < l.length) (x : Val) : VE.Row ((((w.setCell ⟨g, o + i * 4, none⟩ (.int .i64 x.k)).setCell ⟨g, o + i * 4 + 1, none⟩ (.bool x.b)).setCell ⟨g, o + i * 4 + 2, none⟩ (.int .i64 x.n)).setCell ⟨g, o + i * 4 + 3, none⟩ (.string x.t)) (.slice (some ⟨g, o, none⟩) n c) (l.set i x) := h.setAt i hi x
set_option maxHeartbeats 32000000 in
set_option maxRecDepth 100000 in
theorem cAllR (d : Nat) (hd : 3 ≤ d) (g : Nat) (lb : Array Value) (R : List (List Val)) (js : List Nat) (w : World) (heg : ∀ args w, (callFunc g args).run Try.prog w = .ok (.enter g args) w) (hseq : RowSeq true (d - 1) g lb R js w) (hjs : ∀ j ∈ js, j < w.heap.size) (hR : R.length ≤ 4000000000000) (hRl : ∀ l ∈ R, l.length ≤ 3600000000000) :
    CallsIn Fence.wide d Try.prog 9 #[.func (.func g) #[] lb] w (LotP R w) := by
  obtain ⟨w1, hw1, k1, b1⟩ : ∃ w1, w.alloc (.cells #[.slice none 0 0] 22) = w1 ∧ Kp [] w w1 ∧ Bn w1 w.heap.size [.slice none 0 0] := ⟨_, rfl, (Kp.refl _ _).alloc _, Bn.new w _ _⟩
  obtain ⟨q3, hq3⟩ : ∃ q, Hid (w.heap.size = q) := ⟨_, rfl⟩
  rw [hq3.out] at b1
  have hq31 : q3 < w1.heap.size := b1.lt (by simp)
  have hz1 : w1.heap.size = w.heap.size + 1 := by rw [← hw1]; simp
  have hnf : ∀ W : World, (binOp .eql 28 (.func (.func g) #[] lb) .nilFunc).run Try.prog W = .ok (.bool false) W := fun W => eqlFuncNilY Try.underlying28 _ _ _ W
  have hI0 : ColI w1 q3 R ⟨false, 0, [], js, 0, none⟩ w1 := ⟨none, 0, [], ⟨rfl, rfl, rfl, Nat.le_refl _, fun _ _ _ => rfl, fun h => (by cases h), fun j hj => ⟨by have := hjs j hj; simp; rw [← hq3.out]; omega, by have := hjs j hj; omega, by have := hjs j hj; omega⟩, fun j hj => by have := hjs j hj; omega, by simp⟩, b1.get 0 _ rfl, b1.free 0, Lot.nil _ _, rfl, by simp [blk], by simp, fun _ => rfl, fun x hx => (by cases hx)⟩
  have HI0 := hid hI0
  have HK1 := hid k1
  have HSQ := hid hseq
  have hz1' := hid hz1
  clear hI0 k1 b1 hseq hjs hz1
  refine callsIn_of_wp_marks Try.func9 rfl trivial ?_ rfl
  simp only [Try.ntmps9, List.size_toArray, List.length_cons, List.length_nil, Nat.reduceAdd, Nat.reduceSub, Array.replicate_succ, Array.replicate_zero, List.push_toArray, List.append_toArray, List.nil_append, List.cons_append]
  refine wpIn_wide.2 ?_
  have hq3' := hq3.out
  go_wp2_with fail
  refine (wpIn_wide (n := d)).1 ?_
  refine wpRangeX rfl (by omega) (gf := g) (lb := lb) rfl trivial heg
    HSQ.out (fun _ => rfl) KeepR.trans (fun s W o => KeepR.alloc s W o) (by rw [← hw1]; exact KeepR.alloc _ _ _)
    (ColI w1 q3 R) (fun _ _ _ => False) ColI.own (fun _ _ _ _ _ h _ _ => h) HI0.out
    (fun s s' A B ⟨_, _, _, h⟩ ht k o hk ho => h.co.keeps ht k o hk ho) (fun _ _ _ _ h => h.elim) (fun s s' A B hz h ht => h.step hq31 hz ht) (fun _ _ _ _ h => h.elim)
    (fun s W o' ⟨_, _, _, h⟩ => h.co.recs o') (fun s x W o' ⟨_, _, _, h⟩ => CoR.recs (S := [q3]) (s := s) ⟨h.co.os, h.co.tape, h.co.output, h.co.size, h.co.low, h.co.mde, h.co.js, h.co.jl, h.co.ql⟩ o') (fun _ _ _ _ _ h => h.elim)
    (fun x => { tmps := #[.func (.func g) #[] lb, undef, .slice none 0 0, .pointer (some ⟨q3, 0, none⟩), .slice x.a x.l.length x.c, undef, .func (.func g) #[] lb, .bool false, .func (.func g) #[] lb, .slice x.a x.l.length x.c, undef, undef, undef, undef, undef, undef, undef, undef, undef, undef, undef, undef, undef, undef, undef, undef], defers := [] }) ?assign ?body ?done ?stop
  case assign =>
    intro l x W C hC
    gi_wp2_with fail
    exact hC
  case body =>
    rintro l0 s ⟨xa, xc, xl⟩ W ⟨ra, rc, L, h⟩ hp
    obtain ⟨hRi, hrow, hxb⟩ := h.pend _ hp
    dsimp only at hRi hrow hxb ⊢
    have hxl : xl.length ≤ 3600000000000 := hRl _ (List.mem_of_getElem? hRi)
    have hiR : s.i < R.length := (List.getElem?_eq_some_iff.1 hRi).1
    have hLl : L.length ≤ 4000000000000 := by have := congrArg List.length h.took; simp at this; omega
    have h' := hid h
    have hrow' := hid hrow
    have hxb' := hid hxb
    have hRi' := hid hRi
    clear h hrow hxb hRi
    gi_wp2_with fail
    rename_i K1 hK
    obtain ⟨sp, hsp⟩ : ∃ sp : List Nat, Hid (sp = if xl = [] then [] else blk xa) := ⟨_, rfl⟩
    have hspa : Hid (∀ k ∈ sp, k ∈ blk xa ∧ xl ≠ []) := fun k hk => by
      rw [hsp.out] at hk
      split at hk
      · simp at hk
      · rename_i e; exact ⟨hk, e⟩
    have HR : Hid (∀ (ra4 : Option Addr) (rc4 : Nat) (y : Vs) (L4 : List Vs) (x10 x11 x12 x13 x14 : Value) (W4 : World), L4 = L ++ [y] → y.l = xl → (∀ k ∈ blk y.a, W.heap.size ≤ k) → (∀ k ∈ blk ra4, k ∈ blk ra ∨ W.heap.size ≤ k) → Kp (q3 :: blk ra) W W4 → W4.cell? ⟨q3, 0, none⟩ = some (.slice ra4 L4.length rc4) → W4.frozen? ⟨q3, 0, none⟩ = false → Lot w1.heap.size ra4 rc4 L4 W4 → K1 { tmps := #[.func (.func g) #[] lb, undef, .slice none 0 0, .pointer (some ⟨q3, 0, none⟩), .slice xa xl.length xc, undef, .func (.func g) #[] lb, .bool false, .func (.func g) #[] lb, .slice xa xl.length xc, x10, x11, x12, x13, x14, undef, undef, undef, undef, undef, undef, undef, undef, undef, undef, undef], defers := [] } W4) := by
      intro ra4 rc4 y L4 x10 x11 x12 x13 x14 W4 eL ey hyb hrb k4 c4 f4 hl4
      refine hK _ _ ?_
      have hxlt : ∀ k ∈ blk xa, k < W.heap.size := fun k hk => hrow'.out.lt k (by rw [ownV]; exact hk)
      have hr4 : VE.Row W4 (.slice xa xl.length xc) xl := ckRow (CK.ofKp k4) hrow'.out (fun k hk => by
        have := hxb'.out k hk
        simp only [List.mem_cons, not_or]
        exact ⟨by omega, this.2.2.1⟩)
      have HX := hid (And.intro eL (And.intro ey (And.intro hyb (And.intro hrb (And.intro k4 (And.intro c4 (And.intro f4 hl4)))))))
      have hr4' := hid hr4
      have hxlt' := hid hxlt
      clear hK eL ey hyb hrb k4 c4 f4 hl4 hr4 hxlt
      gi_wp2_with fail
      gi_loopw [17] (fun i wr => ∃ (m : Nat) (l' : List Val), m ≤ xl.length ∧ i = .int .i64 (m : Int) ∧ l'.length = xl.length ∧ Hid (VE.Row wr (.slice xa xl.length xc) l') ∧ Hid (Kp sp W4 wr)) (fun i _ => xl.length - (intOf i).toNat)
      case atStart => exact ⟨0, xl, Nat.zero_le _, rfl, rfl, hr4', hid (Kp.refl _ _)⟩
      case round =>
        obtain ⟨m, l', hm, rfl, hl', hrw, hkw⟩ := hrel
        by_cases hml : m < xl.length
        · obtain ⟨gx, ox, ex, -⟩ : ∃ gx ox, xa = some ⟨gx, ox, none⟩ ∧ True := by
            rcases hrw.out with ⟨e, e2⟩ | ⟨gx, ox, cc, e, _⟩
            · rw [e2] at hl'; simp at hl'; omega
            · injection e with e1; exact ⟨gx, ox, e1, trivial⟩
          have hgx : gx ∈ sp := by
            rw [hsp.out, if_neg (fun e => by rw [e] at hml; simp at hml), ex]
            simp [blk]
          have hrw2 := hrw.out
          rw [ex] at hrw2
          have hcc := spoilCells hrw2 m (by omega)
          obtain ⟨⟨z0, c0⟩, f0⟩ := hcc 0 (by omega)
          obtain ⟨⟨z1, c1⟩, f1⟩ := hcc 1 (by omega)
          obtain ⟨⟨z2, c2⟩, f2⟩ := hcc 2 (by omega)
          obtain ⟨⟨z3, c3⟩, f3⟩ := hcc 3 (by omega)
          have hset := spoilSet hrw2 m (by omega) ⟨77, false, 0, ⟨#[]⟩⟩
          have hks : ∀ (A : World) (z : Nat) (v : Value), Kp sp A (A.setCell ⟨gx, z, none⟩ v) := fun A z v => (Kp.refl _ _).setCell (.inl hgx) _
          obtain ⟨WS, eWS, hWS, kWS⟩ : ∃ WS, ((((wr.setCell ⟨gx, ox + m * 4, none⟩ (.int .i64 77)).setCell ⟨gx, ox + m * 4 + 1, none⟩ (.bool false)).setCell ⟨gx, ox + m * 4 + 2, none⟩ (.int .i64 0)).setCell ⟨gx, ox + m * 4 + 3, none⟩ (.string ⟨#[]⟩)) = WS ∧ VE.Row WS (.slice (some ⟨gx, ox, none⟩) xl.length xc) (l'.set m ⟨77, false, 0, ⟨#[]⟩⟩) ∧ Kp sp wr WS := ⟨_, rfl, hset, (((hks _ _ _).trans (hks _ _ _) (fun _ h => .inl h)).trans (hks _ _ _) (fun _ h => .inl h)).trans (hks _ _ _) (fun _ h => .inl h)⟩
          have hfin := hid (And.intro hWS (hkw.out.trans kWS (fun _ h => .inl h)))
          rw [← ex] at hfin
          rw [Nat.add_zero] at c0 f0
          have i1 : (0 : Int) ≤ (m : Int) := by omega
          have i2 : (m : Int) < (xl.length : Int) := by omega
          have i3 : (m : Int) + 1 ≤ 9223372036854775807 := by omega
          have i4 : (-9223372036854775808 : Int) ≤ (m : Int) + 1 := by omega
          clear hrw2 hcc hset hks hWS kWS
          subst ex
          gi_wp2_with fail
          go_roundw
          case rel => exact ⟨m + 1, _, by omega, by simp, by simpa using hl', hid hfin.out.1, hid hfin.out.2⟩
          case measure => simp [intOf]; omega
        · have dm1 : ¬ (m : Int) < (xl.length : Int) := by omega
          have dm2 : decide ((m : Int) < (xl.length : Int)) = false := by simp; omega
          gi_wp2_with fail
          obtain ⟨eL, ey, hyb, hrb, k4, c4, f4, hl4⟩ := HX.out
          have h := h'.out
          have k45 := hkw.out
          have hspl : ∀ k ∈ sp, k < W.heap.size := fun k hk => hxlt'.out k (hspa.out k hk).1
          have hq3s : q3 ∉ sp := fun hm => by have := (hxb'.out q3 (hspa.out q3 hm).1).1; omega
          have hT : Kp (q3 :: blk ra ++ sp) W wr := (k4.mono (T := q3 :: blk ra ++ sp) (fun x hx => .inl (List.mem_append.2 (.inl hx)))).trans k45 (fun x hx => .inl (List.mem_append.2 (.inr hx)))
          obtain ⟨r1, r2, r3⟩ := h.co.round (x := ⟨xa, xc, xl⟩) hT (fun k hk => by
            rcases List.mem_append.1 hk with hk | hk
            · rcases List.mem_cons.1 hk with rfl | hk
              · exact cellCel h.box
              · refine rowCel h.lot.row (fun e => ?_) k hk
                rw [h.nil e] at hk
                simp [blk] at hk
            · exact rowCel hrow'.out (hspa.out k hk).2 k (hspa.out k hk).1) (fun k hk => by
            rcases List.mem_append.1 hk with hk | hk
            · rcases List.mem_cons.1 hk with rfl | hk
              · exact .inl (by simp)
              · exact .inr (h.lot.own k hk)
            · exact .inr (by have := (hxb'.out k (hspa.out k hk).1).1; omega)) (fun k hk => by
            rcases List.mem_append.1 hk with hk | hk
            · rcases List.mem_cons.1 hk with rfl | hk
              · exact fun hm => (h.co.js k hm).1 (by simp)
              · exact (h.ne k hk).1
            · exact (hxb'.out k (hspa.out k hk).1).2.1)
          have ck := CK.ofKp k45
          obtain ⟨c5, f5⟩ := ck.2 ⟨q3, 0, none⟩ _ hq3s c4
          refine ⟨r1, r2, ra4, rc4, L4, r3, c5, f5.trans f4, hl4.ck ck (fun k hk hm => ?_) (fun x hx k hk hm => ?_), ?_, fun k hk => ?_, fun x hx k hk => ?_, fun e => (by rw [eL] at e; simp at e), fun x hx => (by cases hx)⟩
          · rcases hrb k hk with e | e
            · exact (hxb'.out k (hspa.out k hm).1).2.2.1 e
            · have := hspl k hm; omega
          · rw [eL] at hx
            rcases List.mem_append.1 hx with hx | hx
            · exact (hxb'.out k (hspa.out k hm).1).2.2.2 x hx hk
            · rw [List.mem_singleton.1 hx] at hk
              have := hyb k hk
              have := hspl k hm
              omega
          · show _ = R.take (s.i + 1)
            rw [List.take_add_one, hRi'.out, eL, List.map_append, h.took]
            simp [ey]
          · rcases hrb k hk with e | e
            · exact h.ne k e
            · exact ⟨fun hm => by have := h.co.jl k hm; omega, fun hm => by have := h.co.ql k hm; omega⟩
          · rw [eL] at hx
            rcases List.mem_append.1 hx with hx | hx
            · exact h.nes x hx k hk
            · rw [List.mem_singleton.1 hx] at hk
              exact fun hm => by have := hyb k hk; have := h.co.ql k hm; omega
    refine region_round (fun _ => True) (by kernel_rfl) (by kernel_rfl) (by rintro ⟨_, _, hlo⟩; exact hlo) trivial (fun _ => ?_)
    have KD : Hid (Kp [] W W.drew) := hid (Kp.refl _ _).drew
    have cCp : Hid (∀ W', Kp [] W W' → Calls Try.prog 8 #[.slice xa xl.length xc] W' (NewR xl W')) := fun W' k => cCopyR xa xc xl W' ((rowLies hrow'.out).see.kept k) hxl
    have hbx : Hid (∀ W', Kp [] W W' → W'.cell? ⟨q3, 0, none⟩ = some (.slice ra L.length rc)) := fun W' k => kpAt k h'.out.box
    clear hK
    generalize W.drew = wd at *
    have hT0 : True := trivial
    refine wpAnyH_take (i := 1) (v := ?_) rfl (by kernel_rfl) (by kernel_rfl) (by kernel_rfl) (fun _ _ _ h => h) (Or.inl ⟨by rfl, ?_⟩) (by assumption) ?_
    rotate_left
    · intro w hSw; (try dsimp only at hSw); go_simp <;> with_reducible rfl
    try simp only [Act.put, List.getElem_toArray, List.getElem_cons_zero, List.getElem_cons_succ, List.setIfInBounds_toArray, List.set_cons_zero, List.set_cons_succ]
    have c3d := hbx.out wd KD.out
    refine wpAnyH_ready (rs := [0, 2]) (by kernel_rfl) (by simp) ?_
    refine AllReadyH.cons rfl (fun K hK => ?_) (AllReadyH.cons rfl (fun K hK => ?_) AllReadyH.nil)
    · go_simp
      (try go_wp2_with fail)
      refine hK.out _ _ trivial (fun _ => ?_)
      clear hK K
      try simp only [Act.put, List.getElem_toArray, List.getElem_cons_zero, List.getElem_cons_succ, List.setIfInBounds_toArray, List.set_cons_zero, List.set_cons_succ]
      refine wpAnyH_ready (rs := [2]) (by kernel_rfl) (by simp) ?_
      refine AllReadyH.cons rfl (fun K hK => ?_) AllReadyH.nil
      go_simp
      refine (cCp.out _ KD.out).mono ?_
      rintro e WD ⟨ya, yc, rfl, hyrow, kD, hyb⟩
      (try go_wp2_with fail)
      refine hK.out _ _ trivial (fun _ => ?_)
      clear hK K
      try simp only [Act.put, List.getElem_toArray, List.getElem_cons_zero, List.getElem_cons_succ, List.setIfInBounds_toArray, List.set_cons_zero, List.set_cons_succ]
      have kWD := hid (KD.out.trans kD (by simp))
      have hyl := rowLies hyrow
      have hlD : Lot w1.heap.size ra rc L WD := h'.out.lot.ck (CK.ofKp kWD.out) (by simp) (by simp)
      have hzD := kWD.out.size
      have hwz := h'.out.co.size
      have hywd : ∀ k ∈ blk ya, k < WD.heap.size := fun k hk => hyrow.lt k (by rw [ownV]; exact hk)
      have hyW : ∀ k ∈ blk ya, W.heap.size ≤ k := fun k hk => by have := hyb k hk; have := KD.out.size; omega
      obtain ⟨ra4, rc4, W4, hrun, hl4, k4, hra4⟩ := hlD.app ⟨ya, yc, xl⟩ hyl (by omega) (fun k hk => ⟨by have := hyW k hk; omega, hywd k hk, fun hm => by have := hyW k hk; have := h'.out.lot.lt k hm; omega⟩) hLl
      obtain ⟨L4, hL4⟩ : ∃ L4, Hid (L4 = L ++ [(⟨ya, yc, xl⟩ : Vs)]) := ⟨_, rfl⟩
      rw [← hL4.out] at hrun hl4
      have hq3ra : q3 ∉ blk ra := fun hm => by have := h'.out.lot.own q3 hm; omega
      have c3D := hbx.out WD kWD.out
      have c3A : (WD.alloc (.cells #[.slice ya xl.length yc] 24)).cell? ⟨q3, 0, none⟩ = some (.slice ra L.length rc) := kpAt ((Kp.refl _ _).alloc _) c3D
      have ck4 := CK.ofKp k4
      obtain ⟨c3W, f3W⟩ := ck4.2 ⟨q3, 0, none⟩ _ hq3ra c3D
      have f3 : W4.frozen? ⟨q3, 0, none⟩ = false := f3W.trans ((kWD.out.frozen (p := ⟨q3, 0, none⟩) (World.block_lt_of_cell? _ _ h'.out.box) (by simp)).trans h'.out.free)
      have HE : Hid (∀ x10 x11 x12 x13 x14, K1 { tmps := #[.func (.func g) #[] lb, undef, .slice none 0 0, .pointer (some ⟨q3, 0, none⟩), .slice xa xl.length xc, undef, .func (.func g) #[] lb, .bool false, .func (.func g) #[] lb, .slice xa xl.length xc, x10, x11, x12, x13, x14, undef, undef, undef, undef, undef, undef, undef, undef, undef, undef, undef], defers := [] } (W4.setCell ⟨q3, 0, none⟩ (.slice ra4 L4.length rc4))) := fun x10 x11 x12 x13 x14 => by
        have kS : Kp [q3] W4 (W4.setCell ⟨q3, 0, none⟩ (.slice ra4 L4.length rc4)) := (Kp.refl _ _).setCell (by simp) _
        have ckS := CK.ofKp kS
        refine HR.out ra4 rc4 ⟨ya, yc, xl⟩ L4 x10 x11 x12 x13 x14 _ hL4.out rfl hyW (fun k hk => ?_) (((kWD.out.mono (T := q3 :: blk ra) (by simp)).trans k4 (fun j hj => .inl (by simp [hj]))).trans kS (fun j hj => .inl (by simp at hj; simp [hj]))) (World.cell?_setCell_same _ _ _ c3W) (by rw [World.frozen?_setCell]; exact f3) (hl4.ck ckS (fun k hk hm => ?_) (fun x hx k hk hm => ?_))
        · rcases hra4 k hk with e | e
          · exact .inl e
          · exact .inr (by omega)
        · simp at hm
          have := hl4.own k hk
          omega
        · simp at hm
          have := (hl4.rows x hx k hk).1
          omega
      clear hyl hlD hra4 k4 ck4 f3W hyb hyW hywd hl4 kD
      refine wpAnyH_ready (rs := [3]) (by kernel_rfl) (by simp) ?_
      refine AllReadyH.cons rfl (fun K hK => ?_) AllReadyH.nil
      go_simp
      (try go_wp2_with fail)
      refine hK.out _ _ trivial (fun _ => ?_)
      clear hK K
      try simp only [Act.put, List.getElem_toArray, List.getElem_cons_zero, List.getElem_cons_succ, List.setIfInBounds_toArray, List.set_cons_zero, List.set_cons_succ]
      refine wpAnyH_ready (rs := [4]) (by kernel_rfl) (by simp) ?_
      refine AllReadyH.cons rfl (fun K hK => ?_) AllReadyH.nil
      refine stepAppRun rfl _ _ 22 22 rfl _ _ _ rfl rfl hrun ?_
      refine hK.out _ _ trivial (fun _ => ?_)
      clear hK K
      try simp only [Act.put, List.getElem_toArray, List.getElem_cons_zero, List.getElem_cons_succ, List.setIfInBounds_toArray, List.set_cons_zero, List.set_cons_succ]
      refine wpAnyH_ready (rs := [5]) (by kernel_rfl) (by simp) ?_
      refine AllReadyH.cons rfl (fun K hK => ?_) AllReadyH.nil
      go_simp
      (try go_wp2_with fail)
      refine hK.out _ _ trivial (fun _ => ?_)
      clear hK K
      try simp only [Act.put, List.getElem_toArray, List.getElem_cons_zero, List.getElem_cons_succ, List.setIfInBounds_toArray, List.set_cons_zero, List.set_cons_succ]
      refine wpAnyH_done (by kernel_rfl) ?_ _
      exact HE.out _ _ _ _ _
    · go_simp
      refine (cCp.out _ KD.out).mono ?_
      rintro e WD ⟨ya, yc, rfl, hyrow, kD, hyb⟩
      (try go_wp2_with fail)
      refine hK.out _ _ trivial (fun _ => ?_)
      clear hK K
      try simp only [Act.put, List.getElem_toArray, List.getElem_cons_zero, List.getElem_cons_succ, List.setIfInBounds_toArray, List.set_cons_zero, List.set_cons_succ]
      have kWD := hid (KD.out.trans kD (by simp))
      have hyl := rowLies hyrow
      have hlD : Lot w1.heap.size ra rc L WD := h'.out.lot.ck (CK.ofKp kWD.out) (by simp) (by simp)
      have hzD := kWD.out.size
      have hwz := h'.out.co.size
      have hywd : ∀ k ∈ blk ya, k < WD.heap.size := fun k hk => hyrow.lt k (by rw [ownV]; exact hk)
      have hyW : ∀ k ∈ blk ya, W.heap.size ≤ k := fun k hk => by have := hyb k hk; have := KD.out.size; omega
      obtain ⟨ra4, rc4, W4, hrun, hl4, k4, hra4⟩ := hlD.app ⟨ya, yc, xl⟩ hyl (by omega) (fun k hk => ⟨by have := hyW k hk; omega, hywd k hk, fun hm => by have := hyW k hk; have := h'.out.lot.lt k hm; omega⟩) hLl
      obtain ⟨L4, hL4⟩ : ∃ L4, Hid (L4 = L ++ [(⟨ya, yc, xl⟩ : Vs)]) := ⟨_, rfl⟩
      rw [← hL4.out] at hrun hl4
      have hq3ra : q3 ∉ blk ra := fun hm => by have := h'.out.lot.own q3 hm; omega
      have c3D := hbx.out WD kWD.out
      have c3A : (WD.alloc (.cells #[.slice ya xl.length yc] 24)).cell? ⟨q3, 0, none⟩ = some (.slice ra L.length rc) := kpAt ((Kp.refl _ _).alloc _) c3D
      have ck4 := CK.ofKp k4
      obtain ⟨c3W, f3W⟩ := ck4.2 ⟨q3, 0, none⟩ _ hq3ra c3D
      have f3 : W4.frozen? ⟨q3, 0, none⟩ = false := f3W.trans ((kWD.out.frozen (p := ⟨q3, 0, none⟩) (World.block_lt_of_cell? _ _ h'.out.box) (by simp)).trans h'.out.free)
      have HE : Hid (∀ x10 x11 x12 x13 x14, K1 { tmps := #[.func (.func g) #[] lb, undef, .slice none 0 0, .pointer (some ⟨q3, 0, none⟩), .slice xa xl.length xc, undef, .func (.func g) #[] lb, .bool false, .func (.func g) #[] lb, .slice xa xl.length xc, x10, x11, x12, x13, x14, undef, undef, undef, undef, undef, undef, undef, undef, undef, undef, undef], defers := [] } (W4.setCell ⟨q3, 0, none⟩ (.slice ra4 L4.length rc4))) := fun x10 x11 x12 x13 x14 => by
        have kS : Kp [q3] W4 (W4.setCell ⟨q3, 0, none⟩ (.slice ra4 L4.length rc4)) := (Kp.refl _ _).setCell (by simp) _
        have ckS := CK.ofKp kS
        refine HR.out ra4 rc4 ⟨ya, yc, xl⟩ L4 x10 x11 x12 x13 x14 _ hL4.out rfl hyW (fun k hk => ?_) (((kWD.out.mono (T := q3 :: blk ra) (by simp)).trans k4 (fun j hj => .inl (by simp [hj]))).trans kS (fun j hj => .inl (by simp at hj; simp [hj]))) (World.cell?_setCell_same _ _ _ c3W) (by rw [World.frozen?_setCell]; exact f3) (hl4.ck ckS (fun k hk hm => ?_) (fun x hx k hk hm => ?_))
        · rcases hra4 k hk with e | e
          · exact .inl e
          · exact .inr (by omega)
        · simp at hm
          have := hl4.own k hk
          omega
        · simp at hm
          have := (hl4.rows x hx k hk).1
          omega
      clear hyl hlD hra4 k4 ck4 f3W hyb hyW hywd hl4 kD
      refine wpAnyH_ready (rs := [0, 3]) (by kernel_rfl) (by simp) ?_
      refine AllReadyH.cons rfl (fun K hK => ?_) (AllReadyH.cons rfl (fun K hK => ?_) AllReadyH.nil)
      · go_simp
        (try go_wp2_with fail)
        refine hK.out _ _ trivial (fun _ => ?_)
        clear hK K
        try simp only [Act.put, List.getElem_toArray, List.getElem_cons_zero, List.getElem_cons_succ, List.setIfInBounds_toArray, List.set_cons_zero, List.set_cons_succ]
        refine wpAnyH_ready (rs := [3]) (by kernel_rfl) (by simp) ?_
        refine AllReadyH.cons rfl (fun K hK => ?_) AllReadyH.nil
        go_simp
        (try go_wp2_with fail)
        refine hK.out _ _ trivial (fun _ => ?_)
        clear hK K
        try simp only [Act.put, List.getElem_toArray, List.getElem_cons_zero, List.getElem_cons_succ, List.setIfInBounds_toArray, List.set_cons_zero, List.set_cons_succ]
        refine wpAnyH_ready (rs := [4]) (by kernel_rfl) (by simp) ?_
        refine AllReadyH.cons rfl (fun K hK => ?_) AllReadyH.nil
        refine stepAppRun rfl _ _ 22 22 rfl _ _ _ rfl rfl hrun ?_
        refine hK.out _ _ trivial (fun _ => ?_)
        clear hK K
        try simp only [Act.put, List.getElem_toArray, List.getElem_cons_zero, List.getElem_cons_succ, List.setIfInBounds_toArray, List.set_cons_zero, List.set_cons_succ]
        refine wpAnyH_ready (rs := [5]) (by kernel_rfl) (by simp) ?_
        refine AllReadyH.cons rfl (fun K hK => ?_) AllReadyH.nil
        go_simp
        (try go_wp2_with fail)
        refine hK.out _ _ trivial (fun _ => ?_)
        clear hK K
        try simp only [Act.put, List.getElem_toArray, List.getElem_cons_zero, List.getElem_cons_succ, List.setIfInBounds_toArray, List.set_cons_zero, List.set_cons_succ]
        refine wpAnyH_done (by kernel_rfl) ?_ _
        exact HE.out _ _ _ _ _
      · go_simp
        (try go_wp2_with fail)
        refine hK.out _ _ trivial (fun _ => ?_)
        clear hK K
        try simp only [Act.put, List.getElem_toArray, List.getElem_cons_zero, List.getElem_cons_succ, List.setIfInBounds_toArray, List.set_cons_zero, List.set_cons_succ]
        refine wpAnyH_ready (rs := [0]) (by kernel_rfl) (by simp) ?_
        refine AllReadyH.cons rfl (fun K hK => ?_) AllReadyH.nil
        go_simp
        (try go_wp2_with fail)
        refine hK.out _ _ trivial (fun _ => ?_)
        clear hK K
        try simp only [Act.put, List.getElem_toArray, List.getElem_cons_zero, List.getElem_cons_succ, List.setIfInBounds_toArray, List.set_cons_zero, List.set_cons_succ]
        refine wpAnyH_ready (rs := [4]) (by kernel_rfl) (by simp) ?_
        refine AllReadyH.cons rfl (fun K hK => ?_) AllReadyH.nil
        refine stepAppRun rfl _ _ 22 22 rfl _ _ _ rfl rfl hrun ?_
        refine hK.out _ _ trivial (fun _ => ?_)
        clear hK K
        try simp only [Act.put, List.getElem_toArray, List.getElem_cons_zero, List.getElem_cons_succ, List.setIfInBounds_toArray, List.set_cons_zero, List.set_cons_succ]
        refine wpAnyH_ready (rs := [5]) (by kernel_rfl) (by simp) ?_
        refine AllReadyH.cons rfl (fun K hK => ?_) AllReadyH.nil
        go_simp
        (try go_wp2_with fail)
        refine hK.out _ _ trivial (fun _ => ?_)
        clear hK K
        try simp only [Act.put, List.getElem_toArray, List.getElem_cons_zero, List.getElem_cons_succ, List.setIfInBounds_toArray, List.set_cons_zero, List.set_cons_succ]
        refine wpAnyH_done (by kernel_rfl) ?_ _
        exact HE.out _ _ _ _ _
  case done =>
    rintro D s X hD ⟨hmd, hsi, hsp⟩ ⟨ra, rc, L, h⟩ hrec
    have hbx := h.box
    have h' := hid h
    have hrec' := hid hrec
    clear h hrec
    go_wp2_with fail
    have h := h'.out
    have hmk : Mks [D] X := (Mks.nil X).cons hrec'.out (by simp)
    have hLr : L.map (·.l) = R := by rw [h.took, hsi, List.take_length]
    have hzw := hz1'.out
    have kwX : Kp [] w X := HK1.out.trans h.co.kp (fun x hx => .inr (by simp at hx; omega))
    show LeavesInM _ _ _ _ _ _ (marks [D]) .returning _
    refine leaves_marks [D] X hmk fun w' hk => ⟨_, results_tmp rfl _ _ _, ra, rc, L, rfl, ?_, hLr, kwX.trans hk (fun x hx => .inr (by simp at hx; omega))⟩
    have ck : CK (fun _ => True) X w' := CK.ofBlock hk.size fun k _ hl => by
      by_cases e : k = D
      · exact .inr ⟨_, by rw [e]; exact hrec'.out, rfl⟩
      · exact .inl (hk.block k hl (by simpa using e))
    exact (h.lot.ck ck (fun _ _ => trivial) (fun _ _ _ _ => trivial)).mono (by omega)
  case stop =>
    rintro D c s X hD _ h
    exact h.elim
end Go.Proofs.Ytohkjikhlakglaa
end

section
namespace Go.Proofs.Ytohkjikhlakglaa
open Go.RowKit Go.Hay
set_option linter.unusedVariables false
set_option linter.unusedSimpArgs false

theorem TurnR.mono {B0 B1 : Nat} {qs ps : List Nat} {A B : World} (h : TurnR B0 qs A B) (hb : B1 ≤ B0) (hq : ∀ q ∈ qs, q ∈ ps) : TurnR B1 ps A B :=
  ⟨h.os, h.tape, h.output, h.size, fun k hk => by
    rcases h.block k hk with e | e | ⟨e, o⟩
    · exact .inl e
    · exact .inr (.inl (hq k e))
    · exact .inr (.inr ⟨by omega, o⟩)⟩
theorem RowSeq.move {fr : Bool} {n g : Nat} {lb : Array Value} {R : List (List Val)} {js : List Nat} {w W : World} (h : RowSeq fr n g lb R js w) (k : KeepB js w W) : RowSeq fr n g lb R js W :=
  fun l J Jx W' hW => h l J Jx W' ⟨k.trans hW.js, fun e => (by cases e)⟩
/-- How the inner range stands: J: what who ranges over the outer iterator keeps; RL the inner rows, R the outer ones, f: which rows one inner row gives; M, Mj: the outer iterator's own memory, in the blocks Mj. -/
structure InJ (J : Sr → World → Prop) (RL R : List (List Val)) (f : List Val → List (List Val)) (M : World → Prop) (Mj : List Nat) (w3 : World) (sl : Sr) (W : World) (js qs : List Nat) (i : Nat) : Prop where
  j : J ⟨true, w3.heap.size, qs, js, i, none⟩ W
  sub : ∀ j ∈ sl.js, j ∈ js
  mj : ∀ j ∈ Mj, j ∈ js
  qsub : ∀ q ∈ sl.qs, q ∈ qs
  m : M W
  rel : R.drop i = (RL.drop sl.i).flatMap f
  il : i ≤ R.length
  size : w3.heap.size ≤ W.heap.size
  mde : sl.made = true → w3.heap.size + 2 ≤ sl.B0 ∧ ∀ q ∈ sl.qs, w3.heap.size + 2 ≤ q
  lj : ∀ j ∈ sl.js, j ≠ w3.heap.size ∧ j ≠ w3.heap.size + 1
  pend : ∀ x, sl.p = some x → RL[sl.i]? = some x.l ∧ x.lies W
  jl : ∀ j ∈ js, j < W.heap.size
  ql : ∀ q ∈ qs, q < W.heap.size
def InG (J : Sr → World → Prop) (RL R : List (List Val)) (f : List Val → List (List Val)) (M : World → Prop) (Mj : List Nat) (w3 : World) (sl : Sr) (W : World) : Prop := ∃ js qs i, InJ J RL R f M Mj w3 sl W js qs i
/-- .. where it is left. -/
def InX (Jx : Sr → World → Prop) (w3 : World) (sl : Sr) (W : World) : Prop := ∃ s : Sr, s.made = true ∧ s.B0 = w3.heap.size ∧ (∀ q ∈ sl.qs, q ∈ s.qs) ∧ (sl.made = true → w3.heap.size + 2 ≤ sl.B0 ∧ ∀ q ∈ sl.qs, w3.heap.size + 2 ≤ q) ∧ (∀ j ∈ sl.js, j ≠ w3.heap.size ∧ j ≠ w3.heap.size + 1) ∧ Jx s W
section
variable {J Jx : Sr → World → Prop} {fr : Bool} {RL R : List (List Val)} {f : List Val → List (List Val)} {M : World → Prop} {Mj : List Nat} {w3 : World}
theorem InG.own (hT : ∀ s s' A B, J s A → StepR true R s s' A B → J s' B) (hM : ∀ X Y, M X → CK (fun k => k ∈ Mj) X Y → M Y) : OwnFrom w3.heap.size (InG J RL R f M Mj w3) := fun sl X Y row ⟨js, qs, i, h⟩ hg hr => by
  have ck := CK.ofGrown hg (fun r e => (hr r e).2)
  exact ⟨js, qs, i, hT _ _ _ _ h.j (StepR.same rfl rfl (TurnR.ofGrown hg (fun r e => hr r e))), h.sub, h.mj, h.qsub, hM _ _ h.m (ck.mono fun _ _ => trivial), h.rel, h.il, Nat.le_trans h.size hg.size, h.mde, h.lj, fun x hx => ⟨(h.pend x hx).1, (h.pend x hx).2.ck ck (fun _ _ => trivial)⟩, fun j hj => Nat.lt_of_lt_of_le (h.jl j hj) hg.size, fun j hj => Nat.lt_of_lt_of_le (h.ql j hj) hg.size⟩
theorem InX.own (hX : ∀ s A B, Jx s A → StepRX s A B → Jx s B) : OwnFrom w3.heap.size (InX Jx w3) := fun sl X Y row ⟨s, h1, h2, h3, h4, h5, h6⟩ hg hr =>
  ⟨s, h1, h2, h3, h4, h5, hX _ _ _ h6 ⟨h1, TurnR.ofGrown hg (fun r e => by rw [h2]; exact hr r e)⟩⟩
theorem InG.step (hT : ∀ s s' A B, J s A → StepR true R s s' A B → J s' B) (hM : ∀ X Y, M X → CK (fun k => k ∈ Mj) X Y → M Y) (hMj : ∀ j ∈ Mj, j < w3.heap.size) {sl sl' : Sr} {A B : World} (hz : w3.heap.size + 2 ≤ A.heap.size) (h : InG J RL R f M Mj w3 sl A) (ht : StepR fr RL sl sl' A B) : InG J RL R f M Mj w3 sl' B := by
  obtain ⟨js, qs, i, h⟩ := h
  have hmd : sl'.made = true ∧ w3.heap.size + 2 ≤ sl'.B0 ∧ ∀ q ∈ sl'.qs, w3.heap.size + 2 ≤ q := by
    cases hs : sl.made with
    | true =>
      obtain ⟨e0, e1, e2⟩ := ht.stays hs
      obtain ⟨h1, h2⟩ := h.mde hs
      exact ⟨e0, by omega, fun q hq => by rcases e2 q hq with e | e; exact h2 q e; omega⟩
    | false =>
      obtain ⟨e0, e1, e2⟩ := ht.makes hs
      exact ⟨e0, by omega, fun q hq => by have := (e2 q hq).1; omega⟩
  have hqn : ∀ q ∈ sl'.qs, q ∈ qs ∨ (A.heap.size ≤ q ∧ q < B.heap.size) := fun q hq => by
    cases hs : sl.made with
    | true => rcases (ht.stays hs).2.2 q hq with e | e; exact .inl (h.qsub q e); exact .inr e
    | false => exact .inr ((ht.makes hs).2.2 q hq)
  have ck := CK.ofTurn ht.turn
  have hJ : J ⟨true, w3.heap.size, qs ++ sl'.qs, js ++ sl'.js, i, none⟩ B := hT _ _ _ _ h.j ⟨ht.turn.mono (by show w3.heap.size ≤ _; omega) (fun q hq => List.mem_append.2 (.inr hq)), fun _ => ⟨rfl, rfl, fun q hq => by
    rcases List.mem_append.1 hq with e | e
    · exact .inl e
    · exact hqn q e⟩, fun e => (by cases e), fun j hj => by
    rcases List.mem_append.1 hj with e | e
    · exact .inl e
    · rcases ht.js j e with e2 | e2
      · exact .inl (h.sub j e2)
      · exact .inr e2, rfl, .inl rfl⟩
  refine ⟨_, _, i, hJ, fun j hj => List.mem_append.2 (.inr hj), fun j hj => List.mem_append.2 (.inl (h.mj j hj)), fun q hq => List.mem_append.2 (.inr hq), hM _ _ h.m (ck.mono fun k hk hm => ?_), by rw [ht.on]; exact h.rel, h.il, Nat.le_trans h.size ht.turn.size, fun _ => hmd.2, fun j hj => ?_, fun x hx => ?_, fun j hj => ?_, fun q hq => ?_⟩
  · have := hMj k hk
    have := hmd.2.2 k hm
    omega
  · rcases ht.js j hj with e | e
    · exact h.lj j e
    · omega
  · rcases ht.given with e | ⟨y, e, hy, hl, _⟩
    · rw [e] at hx; cases hx
    · rw [e] at hx
      cases hx
      exact ⟨by rw [ht.on]; exact hy, hl⟩
  · rcases List.mem_append.1 hj with e | e
    · exact Nat.lt_of_lt_of_le (h.jl j e) ht.turn.size
    · rcases ht.js j e with e2 | e2
      · exact Nat.lt_of_lt_of_le (h.jl j (h.sub j e2)) ht.turn.size
      · exact e2.2
  · rcases List.mem_append.1 hq with e | e
    · exact Nat.lt_of_lt_of_le (h.ql q e) ht.turn.size
    · rcases hqn q e with e2 | e2
      · exact Nat.lt_of_lt_of_le (h.ql q e2) ht.turn.size
      · exact e2.2
theorem InG.keeps {sl sl' : Sr} {A B : World} (h : InG J RL R f M Mj w3 sl A) (ht : StepR fr RL sl sl' A B) (k : Nat) (o : Obj) (hk : k = w3.heap.size ∨ k = w3.heap.size + 1) (ho : A.heap[k]? = some o) : B.heap[k]? = some o := by
  obtain ⟨js, qs, i, h⟩ := h
  exact (ht.low h.mde (Array.getElem?_eq_some_iff.1 ho).1 (by omega)).trans ho
theorem InX.step (hX : ∀ s A B, Jx s A → StepRX s A B → Jx s B) {sl : Sr} {A B : World} (h : InX Jx w3 sl A) (ht : StepRX sl A B) : InX Jx w3 sl B := by
  obtain ⟨s, h1, h2, h3, h4, h5, h6⟩ := h
  exact ⟨s, h1, h2, h3, h4, h5, hX _ _ _ h6 ⟨h1, ht.2.mono (by rw [h2]; have := (h4 ht.1).1; omega) h3⟩⟩
theorem InX.keeps {sl : Sr} {A B : World} (h : InX Jx w3 sl A) (ht : StepRX sl A B) (k : Nat) (o : Obj) (hk : k = w3.heap.size ∨ k = w3.heap.size + 1) (ho : A.heap[k]? = some o) : B.heap[k]? = some o := by
  obtain ⟨s, h1, h2, h3, h4, h5, h6⟩ := h
  obtain ⟨g1, g2⟩ := h4 ht.1
  exact (turnLowR ht.2 (Array.getElem?_eq_some_iff.1 ho).1 (by omega) (fun hq => by have := g2 k hq; omega)).trans ho
theorem recsOf {sl : Sr} {W : World} {N : Nat} (hm : sl.made = true → N + 2 ≤ sl.B0 ∧ ∀ q ∈ sl.qs, N + 2 ≤ q) (hj : ∀ j ∈ sl.js, j ≠ N ∧ j ≠ N + 1) (o' : Obj) : KeepR sl W (W.putObj (N + 1) o') :=
  ⟨⟨by simp, fun k hk o ho => (World.putObj_heap_other (by have := (hj k hk).2; omega)).trans ho⟩, fun h k o hk ho _ => (World.putObj_heap_other (by have := (hm h).1; omega)).trans ho⟩
theorem InG.recs {sl : Sr} {W : World} (h : InG J RL R f M Mj w3 sl W) (o' : Obj) : KeepR sl W (W.putObj (w3.heap.size + 1) o') := by
  obtain ⟨js, qs, i, h⟩ := h
  exact recsOf h.mde h.lj o'
theorem InG.recs' {sl : Sr} {x : Vs} {W : World} (h : InG J RL R f M Mj w3 (sl.nx x) W) (o' : Obj) : KeepR sl W (W.putObj (w3.heap.size + 1) o') := by
  obtain ⟨js, qs, i, h⟩ := h
  exact recsOf (sl := sl) h.mde h.lj o'
theorem InX.recs' {sl : Sr} {x : Vs} {W : World} (h : InX Jx w3 (sl.nx x) W) (o' : Obj) : KeepR sl W (W.putObj (w3.heap.size + 1) o') := by
  obtain ⟨s, h1, h2, h3, h4, h5, h6⟩ := h
  exact recsOf (sl := sl) h4 h5 o'
/-- What who ranges over the outer iterator keeps serves the inner one. -/
theorem InJ.keepR {sl : Sr} {W W' : World} {js qs : List Nat} {i : Nat} (h : InJ J RL R f M Mj w3 sl W js qs i) {s : Sr} (hs : s.made = true) (hb : s.B0 = w3.heap.size) (hj : ∀ j ∈ js, j ∈ s.js) (k : KeepR s W W') : KeepR sl W W' ∧ KeepsFrom w3.heap.size W W' ∧ KeepB Mj W W' :=
  ⟨⟨⟨k.js.1, fun j hj' o ho => k.js.2 j (hj j (h.sub j hj')) o ho⟩, fun hm j o hj' ho hc => k.recs hs j o (by rw [hb]; have := (h.mde hm).1; omega) ho hc⟩, ⟨k.js.1, fun j o hj' ho hc => k.recs hs j o (by rw [hb]; exact hj') ho hc⟩, ⟨k.js.1, fun j hj' o ho => k.js.2 j (hj j (h.mj j hj')) o ho⟩⟩
end
end Go.Proofs.Ytohkjikhlakglaa
end

section
namespace Go.Proofs.Ytohkjikhlakglaa
open Go.RowKit Go.Hay
set_option linter.unusedVariables false

/-- A row's value at a place. -/
def vAt (l : List Val) (n : Int) : Val := if 0 ≤ n ∧ n < (l.length : Int) then l.getD n.toNat nulV else nulV
theorem vAt_in (l : List Val) (i : Nat) (h : i < l.length) : vAt l (i : Int) = l[i] := by
  unfold vAt
  rw [if_pos (by omega)]
  simp [h]
theorem vAt_out (l : List Val) (n : Int) (h : ¬ (0 ≤ n ∧ n < (l.length : Int))) : vAt l n = nulV := by unfold vAt; rw [if_neg h]
end Go.Proofs.Ytohkjikhlakglaa
end

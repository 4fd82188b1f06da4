/- A disk's files by rising names, given to a range. -/
import Derived.Test.YtgllkonbgigcbabDkey
namespace Go.Proofs.Ytgllkonbgigcbab
open Go.RowKit Go.Hay Go.Maps Go.Sort Go.Shelf
attribute [local go_sem] Oper.semAt_some
set_option linter.unusedVariables false
set_option linter.unusedSimpArgs false

/-- How the iterator stands: the block of the names that it has made, and how many files it has given. -/
structure Sr where
  q : Option Nat
  i : Nat
/-- What the rounds leave alone: the blocks Js, and the names' block. -/
def KeepR (Js : List Nat) (s : Sr) (A B : World) : Prop := A.heap.size ≤ B.heap.size ∧ (∀ k ∈ Js, ∀ o, A.heap[k]? = some o → B.heap[k]? = some o) ∧ ∀ q, s.q = some q → ∀ o : Obj, A.heap[q]? = some o → o.isCells = true → B.heap[q]? = some o
theorem KeepR.trans {Js : List Nat} {s : Sr} {A B C : World} (h : KeepR Js s A B) (k : KeepR Js s B C) : KeepR Js s A C :=
  ⟨Nat.le_trans h.1 k.1, fun j hj o ho => k.2.1 j hj o (h.2.1 j hj o ho), fun q hq o ho hc => k.2.2 q hq o (h.2.2 q hq o ho hc) hc⟩
theorem KeepR.refl (Js : List Nat) (s : Sr) (A : World) : KeepR Js s A A := ⟨Nat.le_refl _, fun _ _ _ h => h, fun _ _ _ h _ => h⟩
theorem KeepR.alloc (Js : List Nat) (s : Sr) (W : World) (o : Obj) : KeepR Js s W (W.alloc o) :=
  ⟨by simp, fun k _ o' ho => (Below.heap_alloc W o k (Array.getElem?_eq_some_iff.1 ho).1).trans ho, fun q _ o' ho _ => (Below.heap_alloc W o q (Array.getElem?_eq_some_iff.1 ho).1).trans ho⟩
theorem KeepR.putObj {Js : List Nat} {s : Sr} {B : Nat} (hB : ∀ j ∈ Js, j < B) (W : World) (l : Nat) (o o' : Obj) (hl : B ≤ l) (h : W.heap[l]? = some o) (ho : o.isCells = false) : KeepR Js s W (W.putObj l o') :=
  ⟨by simp, fun k hk o'' h'' => (World.putObj_heap_other (by have := hB k hk; omega)).trans h'', fun q _ o'' h'' hc => by
    by_cases e : q = l
    · subst e; rw [h] at h''; cases h''; rw [ho] at hc; cases hc
    · exact (World.putObj_heap_other e).trans h''⟩
/-- .. a round that turns only blocks of S. -/
theorem KeepR.ofKp {Js : List Nat} {s : Sr} {S : List Nat} {A B : World} (hk : Kp S A B) (hJ : ∀ j ∈ Js, j ∉ S) (hq : ∀ q, s.q = some q → q ∉ S) : KeepR Js s A B :=
  ⟨hk.size, fun j hj o ho => (hk.block j (Array.getElem?_eq_some_iff.1 ho).1 (hJ j hj)).trans ho, fun q e o ho _ => (hk.block q (Array.getElem?_eq_some_iff.1 ho).1 (hq q e)).trans ho⟩
/-- The iterator's own step: it makes the names. -/
def StepR (s s' : Sr) (A B : World) : Prop := s.q = none ∧ s' = ⟨s'.q, s.i⟩ ∧ Kp [] A B ∧ ∃ q, s'.q = some q ∧ A.heap.size ≤ q ∧ q < B.heap.size
def Sr.nx (s : Sr) (x : Ent) : Sr := ⟨s.q, s.i + 1⟩
abbrev encFile (x : Ent) : Array Value := #[encStr x.name, .pointer (some ⟨x.blk, 0, none⟩)]

theorem cRising (p : Nat) (w : World) : Calls Try.prog 30 #[.pointer (some ⟨p, 0, none⟩)] w fun e w' => e = .returned (.func (.func 41) #[] #[.pointer (some ⟨w.heap.size, 0, none⟩)]) ∧ w' = w.alloc (.cells #[.pointer (some ⟨p, 0, none⟩)] 23) := by
  go_enter Try.func30, Try.ntmps30
  go_wp2_with fail
  go_returns
  exact ⟨rfl, rfl⟩

/-- What the iterator reads, in whatever world keeps its blocks. -/
structure At (q0 p mb : Nat) (xs : List Ent) (w : World) : Prop where
  box : w.cell? ⟨q0, 0, none⟩ = some (.pointer (some ⟨p, 0, none⟩))
  c1 : w.cell? ⟨p, 1, none⟩ = some (.map (some mb))
  map : OwnsM w mb xs
theorem At.kept {q0 p mb : Nat} {xs : List Ent} {A B : World} {s : Sr} (h : At q0 p mb xs A) (hk : KeepR [q0, p, mb] s A B) : At q0 p mb xs B := by
  have same : ∀ k ∈ [q0, p, mb], k < A.heap.size → B.heap[k]? = A.heap[k]? := fun k hk' hl => by
    have e : A.heap[k]? = some A.heap[k] := by simp [hl]
    rw [e]; exact hk.2.1 k hk' _ e
  refine ⟨(World.cell?_of_block (a := ⟨q0, 0, none⟩) (same q0 (by simp) (World.block_lt_of_cell? _ _ h.box))).trans h.box, (World.cell?_of_block (a := ⟨p, 1, none⟩) (same p (by simp) (World.block_lt_of_cell? _ _ h.c1))).trans h.c1, ?_⟩
  have hlt := h.map.lt
  obtain ⟨es, clock, hb, F, hs, hD⟩ := h.map
  exact ⟨es, clock, (same mb (by simp) hlt).trans hb, F, hs, hD⟩

set_option maxHeartbeats 8000000 in
set_option maxRecDepth 100000 in
theorem risingSeq (n : Nat) (hn : 1 ≤ n) (q0 p mb : Nat) (xs : List Ent) (hrise : riseG Ent.name xs) (hN : xs.length ≤ 8796093022208) (hnl : ∀ x ∈ xs, x.name.length ≤ maxLen) (w : World) (hA : At q0 p mb xs w) :
    SeqS Fence.wide n Try.prog 41 #[.pointer (some ⟨q0, 0, none⟩)] encFile StepR (KeepR [q0, p, mb])
      (fun s x => s.q.isSome = true ∧ xs[s.i]? = some x) Sr.nx (fun s => s.q.isSome = true ∧ s.i = xs.length) (fun _ => True) ⟨none, 0⟩ w := by
  intro l J Jx W hW hT hY h0
  have hAW := hA.kept hW
  have hbx := hAW.box
  have hc1 := hAW.c1
  have hmW := hAW.map
  refine callsIn_of_wp Try.func41 rfl trivial ?_ rfl
  simp only [Try.ntmps41, List.size_toArray, List.length_cons, List.length_nil, Nat.reduceAdd, Nat.reduceSub, Array.replicate_succ, Array.replicate_zero, List.push_toArray, List.append_toArray, List.nil_append, List.cons_append]
  gi_wp2_with fail
  refine ⟨trivial, (callsIn_wide.2 (cKeys _ _)).mono ?_⟩
  rintro e w' ⟨rfl, rfl⟩
  gi_wp2_with fail
  refine ⟨trivial, (callsIn_wide.2 (cSorted hmW hrise hN)).mono ?_⟩
  rintro e w2 ⟨a, c, rfl, hnm, k2, hnew⟩
  have kW : Kp [] W w2 := ((Kp.refl [] W).alloc _).trans k2 (by simp)
  have hsz : W.heap.size < w2.heap.size := by have := k2.size; simp at this; omega
  have hA2 : At q0 p mb xs w2 := hAW.kept (s := ⟨none, 0⟩) (KeepR.ofKp kW (by simp) (by simp))
  obtain ⟨q, hq1, hq2, hq3⟩ : ∃ q, W.heap.size ≤ q ∧ q < w2.heap.size ∧ ∀ g, a = some ⟨g, 0, none⟩ → g = q := by
    cases a with
    | none => exact ⟨W.heap.size, Nat.le_refl _, hsz, by simp⟩
    | some ad =>
      have := hnew ad.block (by simp [blk])
      simp at this
      exact ⟨ad.block, by omega, this.2, fun g e => by cases e; rfl⟩
  have hJ2 : J ⟨some q, 0⟩ w2 := hT ⟨none, 0⟩ ⟨some q, 0⟩ W w2 h0 ⟨rfl, rfl, kW, q, rfl, hq1, hq2⟩
  gi_wp2_with fail
  gi_loopw [4, 12] (fun _ i wr => ∃ j : Nat, j ≤ xs.length ∧ i = .int .i64 j ∧ J ⟨some q, j⟩ wr ∧ KeepR [q0, p, mb] ⟨some q, 0⟩ w2 wr) (fun _ i _ => xs.length - (intOf i).toNat)
  case atStart => exact ⟨0, Nat.zero_le _, rfl, hJ2, KeepR.refl _ _ _⟩
  case round =>
    obtain ⟨j, hj, rfl, hJj, hkr⟩ := hrel
    by_cases hjl : j < xs.length
    · obtain ⟨x, hx⟩ : ∃ x, xs[j]? = some x := ⟨xs[j], by simp [hjl]⟩
      have hxm : x ∈ xs := List.mem_of_getElem? hx
      have hAr := hA2.kept hkr
      have rbx := hAr.box
      have rc1 := hAr.c1
      have hlk := lookF hAr.map x.name (hnl x hxm)
      rw [lookG_mem hrise hxm rfl] at hlk
      simp only [ptrOf] at hlk
      rcases hnm with hnil | ⟨g, rfl, hcs⟩
      · simp at hnil; subst hnil; simp at hjl
      · obtain rfl := hq3 g rfl
        have hcw := hcs j x.name (by simp [hx])
        have hcell : wr.cell? ⟨g, j, none⟩ = some (encStr x.name) := by
          obtain ⟨o, ho, hoc⟩ : ∃ o : Obj, w2.heap[g]? = some o ∧ o.isCells = true := by
            unfold World.cell? at hcw
            cases ho : w2.heap[g]? with
            | none => simp [ho] at hcw
            | some o => exact ⟨o, rfl, by cases o <;> simp_all [Obj.isCells]⟩
          have hb := hkr.2.2 g rfl o ho hoc
          exact (World.cell?_of_block (a := ⟨g, j, none⟩) (hb.trans ho.symm)).trans hcw
        obtain ⟨fn, tmps, assign, body, hy, hR⟩ := hY ⟨some g, j⟩ x wr hJj ⟨rfl, hx⟩
        have hN' : (xs.length : Int) < 9223372036854775807 := by omega
        clear hcw hcs hnew hx
        gi_wp2
        refine hR.mono ?_
        rintro e1 W3 (⟨rfl, hJ3, hk3⟩ | ⟨rfl, hJx⟩)
        · gi_wp2
          go_roundw
          case rel => exact ⟨j + 1, by omega, by go_num, hJ3, hkr.trans hk3⟩
          case measure => simp [intOf]; omega
        · gi_wp2
          go_returns
          exact ⟨⟨_, rfl⟩, .inr ⟨_, trivial, hJx⟩⟩
    · have e : j = xs.length := by omega
      subst e
      gi_wp2
      go_end0
      exact ⟨⟨_, rfl⟩, .inl ⟨⟨some q, xs.length⟩, ⟨rfl, rfl⟩, hJj⟩⟩
end Go.Proofs.Ytgllkonbgigcbab

/- maps.Values over a disk's files: each file comes once, in some order. -/
import Derived.Test.YtgllkonbgigcbabDop3
import Derived.Test.YtgllkonbgigcbabDrng
import Derived.Sort.MapsRangeIn
import Derived.Sort.KeysCollected
import Derived.Shelf.Abstract
import Derived.Shelf.RegionOpen
import Derived.WalkKit
import Derived.OwnWalkIn
import Derived.TacticsInMore
import Derived.RegionIn
import Derived.LoopNIn
import Derived.LoopIn
namespace Go.Proofs.Ytgllkonbgigcbab
open Go.RowKit Go.Hay Go.Maps Go.Sort Go.Shelf
set_option linter.unusedVariables false
set_option linter.unusedSimpArgs false

/-- What the rounds leave alone: maps and their iterators, and one block. -/
def KeepV (q : Nat) (A B : World) : Prop := KeepsWalks A B ∧ ∀ o, A.heap[q]? = some o → B.heap[q]? = some o
theorem KeepV.trans {q : Nat} {A B C : World} (h : KeepV q A B) (k : KeepV q B C) : KeepV q A C := ⟨h.1.trans k.1, fun o ho => k.2 o (h.2 o ho)⟩
theorem KeepV.alloc (q : Nat) (W : World) (o : Obj) : KeepV q W (W.alloc o) := ⟨KeepsWalks.alloc W o, fun o' ho => (Below.heap_alloc W o q (Array.getElem?_eq_some_iff.1 ho).1).trans ho⟩
theorem KeepV.putObj {q : Nat} (W : World) (l : Nat) (o o' : Obj) (hl : q < l) (h : W.heap[l]? = some o) (ho : o.isWalk = false) : KeepV q W (W.putObj l o') :=
  ⟨KeepsWalks.putObj o' h ho, fun o'' h'' => (World.putObj_heap_other (by omega)).trans h''⟩
/-- The iterator's own step. -/
def StepV (b : Nat) (s s' : List Ent) (A B : World) : Prop := s' = s ∧ ∃ row, A.grownBy B row ∧ ∀ r, row = some r → b ≤ r ∧ ∃ o : Obj, A.heap[r]? = some o ∧ o.isWalk = true
abbrev encPtr (x : Ent) : Array Value := #[.pointer (some ⟨x.blk, 0, none⟩)]

theorem cValues (mb : Option Nat) (w : World) : Calls Try.prog 31 #[.map mb] w fun e w' => e = .returned (.func (.func 44) #[] #[.pointer (some ⟨w.heap.size, 0, none⟩)]) ∧ w' = w.alloc (.cells #[.map mb] 60) := by
  go_enter Try.func31, Try.ntmps31
  go_wp2_with fail
  go_returns
  exact ⟨rfl, rfl⟩

theorem look_of_at {xs : List Ent} {k : List UInt8} {y : DataW Unit} (h : ∀ z, DataW.atKey (.map (xs.map Ent.dat)) (.string k) z = y) : ∃ x, lookG Ent.name k xs = some x ∧ y = .lit (.int .i64 x.blk) := by
  cases hl : lookG Ent.name k xs with
  | some x => exact ⟨x, rfl, by rw [← h .nil, dat_at, hl]⟩
  | none =>
    have h1 := h .nil
    have h2 := h (.lit (.bool true))
    rw [dat_at, hl] at h1 h2
    rw [← h1] at h2
    cases h2
theorem nodup_of_map {α β : Type} {f : α → β} {l : List α} (h : (l.map f).Nodup) : l.Nodup := by
  rw [List.nodup_iff_pairwise_ne, List.pairwise_map] at h
  exact List.nodup_iff_pairwise_ne.2 (h.imp (fun h e => h (by rw [e])))
theorem perm_ents {xs s : List Ent} (hr : riseG Ent.name xs) (hs : ∀ x ∈ s, x ∈ xs) (hp : (s.map Ent.name).Perm (xs.map Ent.name)) : s.Perm xs := by
  have hn : (xs.map Ent.name).Nodup := by
    rw [List.nodup_iff_pairwise_ne, List.pairwise_map]
    exact hr.imp (fun h => bb_ne h)
  have hn2 : (s.map Ent.name).Nodup := hp.nodup_iff.2 hn
  refine (List.perm_ext_iff_of_nodup (nodup_of_map hn2) (nodup_of_map hn)).2 fun y => ⟨hs y, fun hy => ?_⟩
  obtain ⟨x, hx, e⟩ := List.mem_map.1 (hp.mem_iff.2 (List.mem_map_of_mem hy))
  rw [← rise_inj hr (hs x hx) hy e]
  exact hx

set_option maxHeartbeats 4000000 in
set_option maxRecDepth 100000 in
theorem valuesSeq (n : Nat) (hn : 1 ≤ n) (q mb : Nat) (xs : List Ent) (hrise : riseG Ent.name xs) (w : World) (hq : w.heap[q]? = some (.cells #[.map (some mb)] 60 (0, 0))) (hown : OwnsM w mb xs) :
    SeqS Fence.wide n Try.prog 44 #[.pointer (some ⟨q, 0, none⟩)] encPtr (StepV w.heap.size) (fun _ => KeepV q)
      (fun s x => x ∈ xs ∧ x.name ∉ s.map Ent.name) (fun s x => s ++ [x]) (fun s => s.Perm xs) (fun _ => True) [] w := by
  intro l J Jx W hW hT hY h0
  have hqW := hW.2 _ hq
  have hcW : W.cell? ⟨q, 0, none⟩ = some (.map (some mb)) := by unfold World.cell?; rw [hqW]; rfl
  have hownW : OwnsM W mb xs := by
    obtain ⟨es, clock, hb, F, hs, hD⟩ := hown
    exact ⟨es, clock, hW.1.same mb _ hb rfl, F, hs, hD⟩
  refine callsIn_of_wp Try.func44 rfl trivial ?_ rfl
  simp only [Try.ntmps44, List.size_toArray, List.length_cons, List.length_nil, Nat.reduceAdd, Nat.reduceSub, Array.replicate_succ, Array.replicate_zero, List.push_toArray, List.append_toArray, List.nil_append, List.cons_append]
  gi_wp2_with (first
    | (gi_at_range; refine wpListIn_range_own _ rfl _ 60 rfl 9 58 keyedS Try.underlying60 _ mb xs.length _ rfl hownW ?_; intro w0 hrg0 hg0 hs0)
    | gi_in)
  gi_loopw [4] (fun _ wr => ∃ (left : Lit → Bool) (cnt : Nat) (s : List Ent), wr.ranges Try.prog 9 ptrR mb W.heap.size xs.length (.map (xs.map Ent.dat)) left cnt ∧ Collected (DataW.map (xs.map Ent.dat)) left (s.map Ent.name) ∧ (∀ x ∈ s, x ∈ xs) ∧ J s wr)
    (fun _ wr => wr.rangeLeft mb W.heap.size)
  case atStart =>
    exact ⟨_, _, [], hrg0, Collected.start _, by simp, hT [] [] W w0 h0 ⟨rfl, none, hg0, fun r e => by cases e⟩⟩
  case round =>
    obtain ⟨left, cnt, s, hrg, hC, hsx, hJs⟩ := hrel
    gi_wp2_with (first
      | (gi_at_next; refine wpListIn_next_ranges _ rfl _ rfl 9 keyedS ptrR encStr id (fun key kl hk => by obtain ⟨x, hx, _⟩ := Maps.keyOf_str Try.underlying9 hk; exact ⟨x, hx⟩) (fun v _ _ => ⟨v, rfl⟩) mb W.heap.size xs.length _ _ _ rfl hrg ?_ ?_)
      | gi_in)
    · intro hc0 hl0
      gi_wp2
      go_end0
      have hp := hC.perm hownW keyedS Try.underlying9 hl0
      rw [dat_keys] at hp
      exact ⟨⟨_, rfl⟩, .inl ⟨s, perm_ents hrise hsx hp, hJs⟩⟩
    · intro x c kl yd yp w2 cnt2 hkey hlk hv hat hrg2 hlt hg2 hs2 hen
      obtain ⟨x', ex, rfl, _⟩ := Maps.keyOf_str Try.underlying9 hkey
      obtain rfl : x = x' := encStr_inj ex
      obtain ⟨e, hl, rfl⟩ := look_of_at hat
      obtain ⟨hex, hen2⟩ := lookG_some hl
      have hcp : c = .pointer (some ⟨e.blk, 0, none⟩) := ptrR_inv hv
      have hJ2 : J s w2 := hT s s wr w2 hJs ⟨rfl, some W.heap.size, hg2, fun r e => by cases e; exact ⟨hW.1.size, hrg.iter_walk⟩⟩
      have hnot : e.name ∉ s.map Ent.name := fun hm => by
        have := (hC.2 e.name).1 hm
        rw [hen2] at this
        rw [this.2] at hlk
        cases hlk
      obtain ⟨fn, tmps, assign, body, hy, hR⟩ := hY s e w2 hJ2 ⟨hex, hnot⟩
      have hC3 := hC.step hlk hat
      subst hcp
      unfold encPtr at hy
      clear hs2 hat
      gi_wp2
      refine hR.mono ?_
      rintro e1 W3 (⟨rfl, hJ3, hk3⟩ | ⟨rfl, hJx⟩)
      · gi_wp2
        have hrg3 := hrg2.of_walks hk3.1
        go_roundw
        case rel => exact ⟨_, cnt2, s ++ [e], hrg3, by rw [List.map_append]; show Collected _ _ (_ ++ [e.name]); rw [hen2]; exact hC3, fun y hy => by rcases List.mem_append.1 hy with h | h; exact hsx y h; rw [List.mem_singleton.1 h]; exact hex, hJ3⟩
        case measure => rw [hrg3.left_eq, hrg.left_eq]; exact hlt
      · gi_wp2
        go_returns
        exact ⟨⟨_, rfl⟩, .inr ⟨_, trivial, hJx⟩⟩
end Go.Proofs.Ytgllkonbgigcbab

/- maps.Values over a disk's files: each file comes once, in some order. Free: how much room a disk has. Append. Contracts of the library, laid at this program. slices.Sorted(maps.Keys(files)): the names, rising. A disk's files by rising names, given to a range. Names: all names, rising. What is found of a file behind a crash. A region that draws its order, inside a round of a range over a function: as a plain one, where nothing is deferred. No statement of the seat is proved here. -/
import Derived.Test.YtpkoikennimonaaGreatDoorB8
import Derived.Test.YtpkoikennimonaaGreatDoorB7
import Derived.Sort.MapsRangeIn
import Derived.Sort.KeysCollected
import Derived.Shelf.Abstract
import Derived.Shelf.RegionOpen
import Derived.WalkKit
import Derived.OwnWalkIn
import Derived.TacticsInMore
import Derived.RegionIn
import Derived.LoopNIn
import Derived.LoopIn
import Derived.Shelf.SlIter.Nil
import Derived.Shelf.SortM.Plain
import Derived.Shelf.SortM.SortNone
import Derived.Ground.GgzProg
import Derived.Ground.SlgmProg
import Derived.Test.YtpkoikennimonaaGreatDoorProg
import Derived.Maps.OwnIn
import Derived.RegionTactic
import Derived.BigRegion
import Derived.OrdersHeld
import Derived.OrdersIn
import Derived.RangeFuncCalls
import Derived.Deep.RegionHeld3
section
namespace Go.Proofs.YtpkoikennimonaaGreatDoor
open Go.RowKit Go.Hay Go.Maps Go.Sort Go.Shelf
set_option linter.unusedVariables false
set_option linter.unusedSimpArgs false

/-- What the rounds leave alone: maps and their iterators, and one block. -/
def KeepV (q : Nat) (A B : World) : Prop := KeepsWalks A B ∧ ∀ o, A.heap[q]? = some o → B.heap[q]? = some o
theorem KeepV.trans {q : Nat} {A B C : World} (h : KeepV q A B) (k : KeepV q B C) : KeepV q A C := ⟨h.1.trans k.1, fun o ho => k.2 o (h.2 o ho)⟩
theorem KeepV.alloc (q : Nat) (W : World) (o : Obj) : KeepV q W (W.alloc o) := ⟨KeepsWalks.alloc W o, fun o' ho => (Below.heap_alloc W o q (Array.getElem?_eq_some_iff.1 ho).1).trans ho⟩
theorem KeepV.putObj {q : Nat} (W : World) (l : Nat) (o o' : Obj) (hl : q < l) (h : W.heap[l]? = some o) (ho : o.isWalk = false) : KeepV q W (W.putObj l o') :=
  ⟨KeepsWalks.putObj o' h ho, fun o'' h'' => (World.putObj_heap_other (by omega)).trans h''⟩
/-- The iterator's own step. -/
def StepV (b : Nat) (s s' : List Ent) (A B : World) : Prop := s' = s ∧ ∃ row, A.grownBy B row ∧ ∀ r, row = some r → b ≤ r ∧ ∃ o : Obj, A.heap[r]? = some o ∧ o.isWalk = true
abbrev encPtr (x : Ent) : Array Value := #[.pointer (some ⟨x.blk, 0, none⟩)]

theorem cValues (mb : Option Nat) (w : World) : Calls Tryz.prog 96 #[.map mb] w fun e w' => e = .returned (.func (.func 106) #[] #[.pointer (some ⟨w.heap.size, 0, none⟩)]) ∧ w' = w.alloc (.cells #[.map mb] 52) := by
  go_enter Tryz.func96, Tryz.ntmps96
  go_wp2_with fail
  go_returns
  exact ⟨rfl, rfl⟩

theorem look_of_at {xs : List Ent} {k : List UInt8} {y : DataW Unit} (h : ∀ z, DataW.atKey (.map (xs.map Ent.dat)) (.string k) z = y) : ∃ x, lookG Ent.name k xs = some x ∧ y = .lit (.int .i64 x.blk) := by
  cases hl : lookG Ent.name k xs with
  | some x => exact ⟨x, rfl, by rw [← h .nil, dat_at, hl]⟩
  | none =>
    have h1 := h .nil
    have h2 := h (.lit (.bool true))
    rw [dat_at, hl] at h1 h2
    rw [← h1] at h2
    cases h2
theorem nodup_of_map {α β : Type} {f : α → β} {l : List α} (h : (l.map f).Nodup) : l.Nodup := by
  rw [List.nodup_iff_pairwise_ne, List.pairwise_map] at h
  exact List.nodup_iff_pairwise_ne.2 (h.imp (fun h e => h (by rw [e])))
theorem perm_ents {xs s : List Ent} (hr : riseG Ent.name xs) (hs : ∀ x ∈ s, x ∈ xs) (hp : (s.map Ent.name).Perm (xs.map Ent.name)) : s.Perm xs := by
  have hn : (xs.map Ent.name).Nodup := by
    rw [List.nodup_iff_pairwise_ne, List.pairwise_map]
    exact hr.imp (fun h => bb_ne h)
  have hn2 : (s.map Ent.name).Nodup := hp.nodup_iff.2 hn
  refine (List.perm_ext_iff_of_nodup (nodup_of_map hn2) (nodup_of_map hn)).2 fun y => ⟨hs y, fun hy => ?_⟩
  obtain ⟨x, hx, e⟩ := List.mem_map.1 (hp.mem_iff.2 (List.mem_map_of_mem hy))
  rw [← rise_inj hr (hs x hx) hy e]
  exact hx

set_option maxHeartbeats 4000000 in
set_option maxRecDepth 100000 in
theorem valuesSeq (n : Nat) (hn : 1 ≤ n) (q mb : Nat) (xs : List Ent) (hrise : riseG Ent.name xs) (w : World) (hq : w.heap[q]? = some (.cells #[.map (some mb)] 52 (0, 0))) (hown : OwnsM w mb xs) :
    SeqS Fence.wide n Tryz.prog 106 #[.pointer (some ⟨q, 0, none⟩)] encPtr (StepV w.heap.size) (fun _ => KeepV q)
      (fun s x => x ∈ xs ∧ x.name ∉ s.map Ent.name) (fun s x => s ++ [x]) (fun s => s.Perm xs) (fun _ => True) [] w := by
  intro l J Jx W hW hT hY h0
  have hqW := hW.2 _ hq
  have hcW : W.cell? ⟨q, 0, none⟩ = some (.map (some mb)) := by unfold World.cell?; rw [hqW]; rfl
  have hownW : OwnsM W mb xs := by
    obtain ⟨es, clock, hb, F, hs, hD⟩ := hown
    exact ⟨es, clock, hW.1.same mb _ hb rfl, F, hs, hD⟩
  refine callsIn_of_wp Tryz.func106 rfl trivial ?_ rfl
  simp only [Tryz.ntmps106, List.size_toArray, List.length_cons, List.length_nil, Nat.reduceAdd, Nat.reduceSub, Array.replicate_succ, Array.replicate_zero, List.push_toArray, List.append_toArray, List.nil_append, List.cons_append]
  gi_wp2_with (first
    | (gi_at_range; refine wpListIn_range_own _ rfl _ 52 rfl 9 74 keyedS Tryz.underlying52 _ mb xs.length _ rfl hownW ?_; intro w0 hrg0 hg0 hs0)
    | gi_in)
  gi_loopw [4] (fun _ wr => ∃ (left : Lit → Bool) (cnt : Nat) (s : List Ent), wr.ranges Tryz.prog 9 ptrR mb W.heap.size xs.length (.map (xs.map Ent.dat)) left cnt ∧ Collected (DataW.map (xs.map Ent.dat)) left (s.map Ent.name) ∧ (∀ x ∈ s, x ∈ xs) ∧ J s wr)
    (fun _ wr => wr.rangeLeft mb W.heap.size)
  case atStart =>
    exact ⟨_, _, [], hrg0, Collected.start _, by simp, hT [] [] W w0 h0 ⟨rfl, none, hg0, fun r e => by cases e⟩⟩
  case round =>
    obtain ⟨left, cnt, s, hrg, hC, hsx, hJs⟩ := hrel
    gi_wp2_with (first
      | (gi_at_next; refine wpListIn_next_ranges _ rfl _ rfl 9 keyedS ptrR encStr id (fun key kl hk => by obtain ⟨x, hx, _⟩ := Maps.keyOf_str Tryz.underlying9 hk; exact ⟨x, hx⟩) (fun v _ _ => ⟨v, rfl⟩) mb W.heap.size xs.length _ _ _ rfl hrg ?_ ?_)
      | gi_in)
    · intro hc0 hl0
      gi_wp2
      go_end0
      have hp := hC.perm hownW keyedS Tryz.underlying9 hl0
      rw [dat_keys] at hp
      exact ⟨⟨_, rfl⟩, .inl ⟨s, perm_ents hrise hsx hp, hJs⟩⟩
    · intro x c kl yd yp w2 cnt2 hkey hlk hv hat hrg2 hlt hg2 hs2 hen
      obtain ⟨x', ex, rfl, _⟩ := Maps.keyOf_str Tryz.underlying9 hkey
      obtain rfl : x = x' := encStr_inj ex
      obtain ⟨e, hl, rfl⟩ := look_of_at hat
      obtain ⟨hex, hen2⟩ := lookG_some hl
      have hcp : c = .pointer (some ⟨e.blk, 0, none⟩) := ptrR_inv hv
      have hJ2 : J s w2 := hT s s wr w2 hJs ⟨rfl, some W.heap.size, hg2, fun r e => by cases e; exact ⟨hW.1.size, hrg.iter_walk⟩⟩
      have hnot : e.name ∉ s.map Ent.name := fun hm => by
        have := (hC.2 e.name).1 hm
        rw [hen2] at this
        rw [this.2] at hlk
        cases hlk
      obtain ⟨fn, tmps, assign, body, hy, hR⟩ := hY s e w2 hJ2 ⟨hex, hnot⟩
      have hC3 := hC.step hlk hat
      subst hcp
      unfold encPtr at hy
      clear hs2 hat
      gi_wp2
      refine hR.mono ?_
      rintro e1 W3 (⟨rfl, hJ3, hk3⟩ | ⟨rfl, hJx⟩)
      · gi_wp2
        have hrg3 := hrg2.of_walks hk3.1
        go_roundw
        case rel => exact ⟨_, cnt2, s ++ [e], hrg3, by rw [List.map_append]; show Collected _ _ (_ ++ [e.name]); rw [hen2]; exact hC3, fun y hy => by rcases List.mem_append.1 hy with h | h; exact hsx y h; rw [List.mem_singleton.1 h]; exact hex, hJ3⟩
        case measure => rw [hrg3.left_eq, hrg.left_eq]; exact hlt
      · gi_wp2
        go_returns
        exact ⟨⟨_, rfl⟩, .inr ⟨_, trivial, hJx⟩⟩
end Go.Proofs.YtpkoikennimonaaGreatDoor
end

section
namespace Go.Proofs.YtpkoikennimonaaGreatDoor
open Go.RowKit Go.Hay Go.Maps Go.Sort Go.Shelf
attribute [local go_sem] Oper.semAt_some
set_option linter.unusedVariables false
set_option linter.unusedSimpArgs false

/-- How it stands between two rounds. -/
def FreeI (xs : List Ent) (room : Nat) (w : World) (s : List Ent) (W : World) : Prop := W.cell? ⟨w.heap.size, 0, none⟩ = some (.int .i64 ((room : Int) - ((s.map fun x => x.bytes.length).sum : Nat))) ∧ W.frozen? ⟨w.heap.size, 0, none⟩ = false ∧ Kp [] w W ∧ w.heap.size + 2 ≤ W.heap.size ∧ (∀ y ∈ s, y ∈ xs) ∧ (s.map Ent.name).Nodup
theorem freeOwn (xs : List Ent) (room : Nat) (w : World) (B : Nat) (hB : w.heap.size < B) : OwnFrom B (FreeI xs room w) := fun s W W' row h hg hr => by
  have hb : W'.heap[w.heap.size]? = W.heap[w.heap.size]? := hg.block _ (World.block_lt_of_cell? _ _ h.1) (fun e => by have := (hr _ e.symm).1; omega)
  exact ⟨(World.cell?_of_block (a := ⟨w.heap.size, 0, none⟩) hb).trans h.1, (World.frozen?_of_block (a := ⟨w.heap.size, 0, none⟩) hb).trans h.2.1, h.2.2.1.grown hg (fun k e => by have := (hr k e).1; exact .inr (by omega)), Nat.le_trans h.2.2.2.1 hg.size, h.2.2.2.2⟩
theorem freeTurn (xs : List Ent) (room : Nat) (w : World) (B : Nat) (hB : w.heap.size < B) (s s' : List Ent) (A A' : World) (h : FreeI xs room w s A) (ht : StepV B s s' A A') : FreeI xs room w s' A' := by
  obtain ⟨rfl, row, hg, hr⟩ := ht
  have hb : A'.heap[w.heap.size]? = A.heap[w.heap.size]? := hg.block _ (World.block_lt_of_cell? _ _ h.1) (fun e => by have := (hr _ e.symm).1; omega)
  exact ⟨(World.cell?_of_block (a := ⟨w.heap.size, 0, none⟩) hb).trans h.1, (World.frozen?_of_block (a := ⟨w.heap.size, 0, none⟩) hb).trans h.2.1, h.2.2.1.grown hg (fun k e => by have := (hr k e).1; exact .inr (by omega)), Nat.le_trans h.2.2.2.1 hg.size, h.2.2.2.2⟩
theorem stepKeeps {B : Nat} {s s' : List Ent} {A A' : World} (ht : StepV B s s' A A') (k : Nat) (o : Obj) (ho : A.heap[k]? = some o) (hw : o.isWalk = false) : A'.heap[k]? = some o := by
  obtain ⟨rfl, row, hg, hr⟩ := ht
  exact (grownBy_keeps hg (fun r e => (hr r e).2) ho hw).trans ho

set_option maxHeartbeats 8000000 in
set_option maxRecDepth 100000 in
theorem cFree {w : World} {p mb : Nat} {xs : List Ent} {d : Dk} (hD : Disk w p mb xs d) : Calls Tryz.prog 82 #[.pointer (some ⟨p, 0, none⟩)] w fun e w' => e = .returned (.int .i64 (freeD d)) ∧ Kp [] w w' := by
  have c0 := hD.hd.c0
  have c1 := hD.hd.c1
  have hplt := hD.hd.lt
  have hroom := hD.ok.room
  refine (callsIn_wide (n := 4)).1 ?_
  refine callsIn_of_wp_marks Tryz.func82 rfl trivial ?_ rfl
  simp only [Tryz.ntmps82, List.size_toArray, List.length_cons, List.length_nil, Nat.reduceAdd, Nat.reduceSub, Array.replicate_succ, Array.replicate_zero, List.push_toArray, List.append_toArray, List.nil_append, List.cons_append]
  gi_wp2_with fail
  refine ⟨trivial, (callsIn_wide.2 (cValues _ _)).mono ?_⟩
  rintro e w' ⟨rfl, rfl⟩
  obtain ⟨w1, hw1⟩ : ∃ w1, w1 = (w.alloc (.cells #[.int .i64 (d.room : Int)] 3)).alloc (.cells #[.map (some mb)] 52) := ⟨_, rfl⟩
  have hs1 : w1.heap.size = w.heap.size + 2 := by rw [hw1]; simp
  have k1 : Kp [] w w1 := by rw [hw1]; exact ((Kp.refl _ _).alloc _).alloc _
  have b0 : w1.cell? ⟨w.heap.size, 0, none⟩ = some (.int .i64 (d.room : Int)) := by rw [hw1]; simp
  have f0 : w1.frozen? ⟨w.heap.size, 0, none⟩ = false := by rw [hw1]; simp
  have b1 : w1.heap[w.heap.size + 1]? = some (.cells #[.map (some mb)] 52 (0, 0)) := by
    rw [hw1]
    have := World.alloc_heap_new (w.alloc (.cells #[.int .i64 (d.room : Int)] 3)) (.cells #[.map (some mb)] 52)
    rwa [World.size_alloc] at this
  rw [← hw1]
  simp only [World.size_alloc]
  have hD1 := hD.keptNew k1
  have hseq := valuesSeq (4 - 1) (by omega) (w.heap.size + 1) mb xs hD.rise w1 b1 hD1.map
  have hI0 : FreeI xs d.room w [] w1 := ⟨by simpa using b0, f0, k1, by omega, by simp, by simp⟩
  have hmaplt := hD.map.lt
  clear b0 f0 hw1 c0 c1
  gi_wp2_with fail
  refine wpRangeS rfl (by omega) (gf := 106) (lb := #[.pointer (some ⟨w.heap.size + 1, 0, none⟩)]) rfl trivial (enters_of Tryz.func106 (by kernel_rfl) rfl)
    hseq (fun _ => rfl) KeepV.trans (fun _ => KeepV.alloc _) (fun _ W l o o' hl ho _ hw => KeepV.putObj W l o o' (by omega) ho hw) ⟨KeepsWalks.refl _, fun _ h => h⟩ (fun s s' A B ht k o _ ho _ hw => stepKeeps ht k o ho hw)
    (FreeI xs d.room w) (fun _ _ _ => False) (freeOwn xs d.room w _ (by omega)) (fun _ _ _ _ _ h _ _ => h) (freeTurn xs d.room w _ (by omega)) hI0
    (fun x => { tmps := #[.pointer (some ⟨p, 0, none⟩), undef, .int .i64 0, .pointer (some ⟨w.heap.size, 0, none⟩), .pointer (some ⟨x.blk, 0, none⟩), .pointer (some ⟨p, 0, none⟩), .pointer (some ⟨p, 0, none⟩), .pointer (some ⟨p, 0, none⟩), .int .i64 (d.room : Int), .pointer (some ⟨p, 0, none⟩), .pointer (some ⟨p, 0, none⟩), .pointer (some ⟨p, 1, none⟩), .map (some mb), .func (.func 106) #[] #[.pointer (some ⟨w.heap.size + 1, 0, none⟩)], .pointer (some ⟨x.blk, 0, none⟩), undef, undef, undef, undef, undef, undef, undef, undef], defers := [] }) ?assign ?body ?done ?stop
  case assign =>
    intro l x W C hC
    gi_wp2_with fail
    exact hC
  case body =>
    rintro l s x W ⟨h1, h2, h3, h4, h5, h6⟩ ⟨hx, hnot⟩
    have hf := (hD.keptNew h3).files x hx
    obtain ⟨a, c, ev, hsee, hnil, hcap⟩ := Row.parts hf.row
    have c0 := hf.box.c0
    have hxl := hf.box.lt
    have hxl0 := (hD.files x hx).box.lt
    rw [ev] at c0
    have h7 : ∀ y ∈ s ++ [x], y ∈ xs := fun y hy => by
      rcases List.mem_append.1 hy with h | h
      · exact h5 y h
      · rw [List.mem_singleton.1 h]; exact hx
    have h8 : ((s ++ [x]).map Ent.name).Nodup := by
      rw [List.map_append, List.nodup_append]
      refine ⟨h6, by simp, fun a ha b hb => ?_⟩
      simp at hb
      subst hb
      exact fun e => hnot (by rw [← e]; exact ha)
    have hsum : ((s ++ [x]).map fun x => x.bytes.length).sum = (s.map fun x => x.bytes.length).sum + x.bytes.length := by simp
    have hle := sum_sub (nm := Ent.name) (fun x => x.bytes.length) (s ++ [x]) xs hD.rise h7 h8
    have htot : (xs.map fun x => x.bytes.length).sum = sumF d.files := by rw [hD.fl]; simp [sumF, Function.comp_def, Ent.fl]
    have hsm := hD.ok.sum
    have hfin : ∀ z : Int, z = (d.room : Int) - (((s ++ [x]).map fun x => x.bytes.length).sum : Nat) → leftS w1.heap.size (fun _ => KeepV (w.heap.size + 1)) (FreeI xs d.room w) (fun _ _ _ => False) s (s ++ [x]) W .normal { tmps := #[], defers := [] } (W.setCell ⟨w.heap.size, 0, none⟩ (.int .i64 z)).drew := fun z hz => by
      subst hz
      have kS : Kp [w.heap.size] W (W.setCell ⟨w.heap.size, 0, none⟩ (.int .i64 ((d.room : Int) - (((s ++ [x]).map fun x => x.bytes.length).sum : Nat)))) := (Kp.refl _ _).setCell (p := ⟨w.heap.size, 0, none⟩) (by simp) _
      have hne : ∀ k, k ≠ w.heap.size → (W.setCell ⟨w.heap.size, 0, none⟩ (.int .i64 ((d.room : Int) - (((s ++ [x]).map fun x => x.bytes.length).sum : Nat)))).heap[k]? = W.heap[k]? := fun k hk => Below.heap_setCell W _ _ k hk
      refine ⟨⟨kS.size, fun k o hk ho _ => (hne k (by omega)).trans ho⟩, ⟨⟨kS.size, fun k o ho hw => ?_⟩, fun o ho => (hne _ (by omega)).trans ho⟩, ?_, ?_, ?_, ?_, h7, h8⟩
      · by_cases e : k = w.heap.size
        · subst e
          obtain ⟨o', ho', hw'⟩ := not_walk_of_cell h1
          rw [ho] at ho'; cases ho'; rw [hw] at hw'; cases hw'
        · exact (hne k e).trans ho
      · exact World.cell?_setCell_same _ _ _ h1
      · exact (World.frozen?_setCell _ _ _ _).trans h2
      · exact (h3.setCell (p := ⟨w.heap.size, 0, none⟩) (.inr (Nat.le_refl _)) _).drew
      · exact Nat.le_trans h4 kS.size
    have hwr : ∀ z : Int, z = (d.room : Int) - (s.map fun x => x.bytes.length).sum - x.bytes.length → IntKind.i64.wrap z = z := fun z hz => by
      rw [IntKind.wrap_i64]; omega
    have hwr' := hwr _ rfl
    gi_wp2_with fail
    gi_region
    all_goals
      gi_wp2_with fail
      exact hfin _ (by rw [hsum]; simp only [Int.natCast_add]; omega)
  case done =>
    rintro D' s W hD' hS ⟨h1, h2, h3, h4, h5, h6⟩ hK
    have htot : (xs.map fun x => x.bytes.length).sum = sumF d.files := by rw [hD.fl]; simp [sumF, Function.comp_def, Ent.fl]
    have hsum : (s.map fun x => x.bytes.length).sum = sumF d.files := by rw [← htot]; exact (hS.map _).sum_nat
    rw [hsum] at h1
    have hfr : freeD d = (d.room : Int) - (sumF d.files : Nat) := rfl
    rw [← hfr] at h1
    have hkD : Kp [D'] W (W.putObj D' (.deferred none)) := ⟨rfl, rfl, rfl, by simp, fun k hk hn => World.putObj_heap_other (by simpa using hn)⟩
    have kD := h3.trans hkD (fun x hx => .inr (by simp at hx; omega))
    clear hsum htot hfr
    gi_wp2_with fail
    refine ⟨by simp, .inl ⟨_, _, rfl, run_takeDeferred hK, ?_⟩⟩
    exact ⟨_, results_tmp rfl _ _ _, rfl, kD⟩
  case stop =>
    rintro D' c s W _ _ h _
    exact h.elim
end Go.Proofs.YtpkoikennimonaaGreatDoor
end

section
namespace Go.Proofs.YtpkoikennimonaaGreatDoor
open Go.RowKit Go.Hay Go.Maps
set_option linter.unusedVariables false
set_option linter.unusedSimpArgs false

theorem putG_twice {α : Type} {nm : α → List UInt8} (f g : α) (h : nm g = nm f) {l : List α} (hr : riseG nm l) : putG nm f false (putG nm g false l) = putG nm f false l := by
  rw [putG_ins f _ (riseG_put g hr), putG_ins f l hr, putG_ins g l hr, h]
  congr 1
  have : ∀ (m : List α), (∀ x ∈ m, nm x ≠ nm f) → dropG nm (nm f) (insG nm g m) = m := by
    intro m
    induction m with
    | nil => intro _; simp [insG, dropG, h]
    | cons y m ih =>
      intro hm
      have hy := hm y (by simp)
      unfold insG
      split
      · have e : dropG nm (nm f) (g :: y :: m) = dropG nm (nm f) (y :: m) := by simp [dropG, h]
        rw [e]
        exact dropG_all hm
      · have e : dropG nm (nm f) (y :: insG nm g m) = y :: dropG nm (nm f) (insG nm g m) := by simp [dropG, hy]
        rw [e, ih (fun x hx => hm x (by simp [hx]))]
  exact this _ (fun x hx => (mem_dropG.1 hx).2)

section
variable {w w1 : World} {p mb : Nat} {xs : List Ent} {d : Dk}
theorem Disk.appended (h : Disk w p mb xs d) {x : Ent} (hx : x ∈ xs) {v' : Value} {bs : List UInt8} (hr : Row w1 v' bs) (hg : Grew x.v w v' w1) (ok : Okd { d with files := putG Fl.name ⟨x.name, bs, x.last⟩ false d.files }) :
    w1.cell? ⟨x.blk, 0, none⟩ = some x.v ∧ w1.frozen? ⟨x.blk, 0, none⟩ = false ∧
    Disk (w1.setCell ⟨x.blk, 0, none⟩ v') p mb (putG Ent.name ⟨x.name, x.blk, v', bs, x.last⟩ false xs) { d with files := putG Fl.name ⟨x.name, bs, x.last⟩ false d.files } ∧ Mv (foot p mb xs) w (foot p mb (putG Ent.name ⟨x.name, x.blk, v', bs, x.last⟩ false xs)) (w1.setCell ⟨x.blk, 0, none⟩ v') := by
  have hf := h.files x hx
  have hb1 := hf.box.kept hg.kp hf.ap
  have hap : x.blk ∉ own v' := fun hm => by
    rcases hg.new _ hm with h1 | h1
    · exact hf.ap h1
    · have := hf.box.lt; omega
  have kS : Kp [x.blk] w1 (w1.setCell ⟨x.blk, 0, none⟩ v') := (Kp.refl _ _).setCell (p := ⟨x.blk, 0, none⟩) (by simp) _
  have kA : Kp x.foot w (w1.setCell ⟨x.blk, 0, none⟩ v') := (hg.kp.mono (T := x.foot) (fun k hk => .inl (by simp [Ent.foot, hk]))).trans kS (fun k hk => .inl (by simp at hk; simp [Ent.foot, hk]))
  have hin := h.inPlace ⟨x.name, x.blk, v', bs, x.last⟩ hx rfl rfl kA ⟨hb1.set0 _, hr.kept kS (fun k hk e => hap (by rw [List.mem_singleton] at e; subst e; exact hk)), hap⟩ (fun k hk => by
    rcases List.mem_cons.1 hk with rfl | hk
    · exact .inl (by simp [Ent.foot])
    · exact (hg.new k hk).imp (fun h => by simp [Ent.foot, h]) id) ok
  exact ⟨hb1.c0, hb1.free 0, hin⟩
end

theorem stepD_with (d : Dk) (G : List Fl) : stepD { d with files := G } = ({ (stepD d).1 with files := G }, (stepD d).2) := by
  unfold stepD
  simp only
  split <;> rfl
theorem append_done {d : Dk} {name b : List UInt8} (hd : d.dead = false) (hn : nameOk name = true) (hle : (b.length : Int) ≤ freeD d) : appendD d name b = ({ (stepD d).1 with files := grownF d.files name b }, if (stepD d).2 then 44 else 0) := by
  have h1 : ¬ (b.length : Int) > freeD d := by omega
  unfold appendD
  rw [if_neg (by simp [hd]), if_neg (by simp [hn]), if_neg h1, stepD_with]
set_option maxHeartbeats 4000000 in
set_option maxRecDepth 100000 in
theorem cAppend {w : World} {p mb : Nat} {xs : List Ent} {d : Dk} (hD : Disk w p mb xs d) (hs : d.steps < 9000000000000000000) (hN : xs.length < 9000000000000000000) (hB : Small d) (name : List UInt8) (hk : name.length ≤ maxLen) (ab : Option Addr) (cb : Nat) (b : List UInt8) (hsee : Sees w ab b) (hoff : b ≠ [] → ∀ k ∈ blk ab, k ∉ foot p mb xs)
    (hlen : (fileOf d.files name).bytes.length + b.length ≤ 140737488355328) :
    Calls Tryz.prog 53 #[.pointer (some ⟨p, 0, none⟩), .string ⟨name.toArray⟩, .slice ab b.length cb] w (ChgP p mb xs (appendD d name b) w) := by
  have c4 := hD.hd.c4
  have hnm : ∀ w, Calls Tryz.prog 81 #[.string ⟨name.toArray⟩] w fun e w' => e = .returned (.bool (nameOk name)) ∧ w' = w := fun w => cIsName ⟨name.toArray⟩ w (by simpa [ByteArray.size] using hk)
  go_enter Tryz.func53, Tryz.ntmps53
  cases hd : d.dead with
  | true =>
    have hfin : ChgP p mb xs (appendD d name b) w (.returned (.int .i64 44)) w := ChgP.same hD (by simp [appendD, hd])
    rw [hd] at c4
    go_wp2_with fail
    go_ret
    exact hfin
  | false =>
    rw [hd] at c4
    cases hn : nameOk name with
    | false =>
      have hfin : ChgP p mb xs (appendD d name b) w (.returned (.int .i64 40)) w := ChgP.same hD (by simp [appendD, hd, hn])
      rw [hn] at hnm
      go_wp2_with fail
      refine (hnm w).mono ?_
      rintro e w1 ⟨rfl, rfl⟩
      go_wp2_with fail
      go_ret
      exact hfin
    | true =>
      rw [hn] at hnm
      have hfree := cFree hD
      by_cases hfull : freeD d < (b.length : Int)
      · have hfin : ∀ w', Kp [] w w' → ChgP p mb xs (appendD d name b) w (.returned (.int .i64 41)) w' := fun w' kk => by
          have e : appendD d name b = (d, 41) := by simp [appendD, hd, hn, hfull]
          rw [e]
          exact ⟨rfl, xs, hD.keptNew kk, Mv.ofNew kk⟩
        go_wp2_with fail
        refine (hnm w).mono ?_
        rintro e w1 ⟨rfl, rfl⟩
        go_wp2_with fail
        refine hfree.mono ?_
        rintro e w2 ⟨rfl, k2⟩
        go_wp2_with fail
        go_ret
        exact hfin _ k2
      · have hle : (b.length : Int) ≤ freeD d := by omega
        have hok := okGrown hD.ok hn hle
        have hfb : (fileOf d.files name).name = name := fileOf_name _ _
        go_wp2_with fail
        refine (hnm w).mono ?_
        rintro e w1 ⟨rfl, rfl⟩
        go_wp2_with fail
        refine hfree.mono ?_
        rintro e w2 ⟨rfl, k2⟩
        have hD2 := hD.keptNew k2
        have hst := cStep hD2 hs hd
        go_wp2_with fail
        refine hst.mono ?_
        rintro e w3 ⟨rfl, hD3, k3⟩
        have c1 := hD3.hd.c1
        have hl := lookF hD3.map name hk
        have hlk := hD.look name
        have hap := append_done hd hn hle
        have hok3 : Okd { (stepD d).1 with files := grownF d.files name b } := by have := okStep hok; rw [stepD_with] at this; exact this
        have ef := (stepD_files d).1
        have hsee3 : Sees w3 ab b := (hsee.kept k2 (by simp)).kept' k3 (fun h k hk' e => hoff h k hk' (by rw [List.mem_singleton] at e; subst e; exact mem_foot.2 (.inl rfl)))
        have mv3 : Mv (foot p mb xs) w1 (foot p mb xs) w3 := (Mv.ofNew k2).trans (mvStep k3)
        generalize stepD d = sd at *
        obtain ⟨d1, alive⟩ := sd
        simp only at hD3 hap hok3 ef hst
        cases hx : lookG Ent.name name xs with
        | some x =>
          rw [hx] at hl hlk
          simp only [ptrOf] at hl
          have hx1 := (lookG_some hx).1
          have hxn := (lookG_some hx).2
          have hf := hD3.files x hx1
          have hfo : fileOf d.files name = x.fl := fileOf_some hlk
          rw [hfo] at hlen
          simp only [Ent.fl] at hlen
          have hG : grownF d.files name b = putG Fl.name ⟨x.name, x.bytes ++ b, x.last⟩ false d1.files := by rw [ef]; simp only [grownF, hfo]; rfl
          rw [hG] at hap hok3
          have hrow := hf.row
          have c0 := hf.box.c0
          obtain ⟨a, c, ev, _, _, hcap⟩ := Row.parts hrow
          have hfin : ∀ ys v' w', Hid (ys = x.bytes ++ b) → Row w' v' ys → Grew (.slice a x.bytes.length c) w3 v' w' → w'.cell? ⟨x.blk, 0, none⟩ = some (.slice a x.bytes.length c) ∧ w'.frozen? ⟨x.blk, 0, none⟩ = false ∧ ChgP p mb xs (appendD d name b) w1 (.returned (.int .i64 (if alive then 44 else 0))) (w'.setCell ⟨x.blk, 0, none⟩ v') := fun ys v' w' hy hr hg => by
            rw [hy.out] at hr
            rw [← ev] at hg ⊢
            obtain ⟨h1, h2, h3, h4⟩ := hD3.appended hx1 hr hg hok3
            refine ⟨h1, h2, ?_⟩
            rw [hap]
            exact ⟨rfl, _, h3, mv3.trans h4⟩
          rw [ev] at c0 hrow
          clear hG ef hlk hx hfull hf hst hfree hnm hap hok3 hok hfb hfo
          cases alive
          all_goals
            go_wp2_with (first | (refine wpAppR rfl _ _ rfl _ x.bytes rfl hrow _ _ _ b rfl rfl hsee3 (by omega) ?_; intro ys a' c' w4 hy hyl hrow4 hg4; obtain ⟨cc, ff, hch⟩ := hfin _ _ _ hy hrow4 hg4) | fail)
            go_ret
            exact hch
        | none =>
          rw [hx] at hl hlk
          simp only [ptrOf] at hl
          have hfo : fileOf d.files name = ⟨name, [], 0⟩ := fileOf_none hlk
          have hG : grownF d.files name b = putG Fl.name ⟨name, [] ++ b, 0⟩ false (putG Fl.name ⟨name, [], 0⟩ false d1.files) := by
            rw [putG_twice (nm := Fl.name) ⟨name, [] ++ b, 0⟩ ⟨name, [], 0⟩ rfl hD3.ok.rise, ef]
            simp only [grownF, hfo]
          rw [hfo] at hlen
          simp only [List.length_nil] at hlen
          rw [hG] at hap hok3
          have hok0 : Okd { d1 with files := putG Fl.name (⟨name, w3.heap.size, .slice none 0 0, [], 0⟩ : Ent).fl false d1.files } := okPut hD3.ok ⟨name, [], 0⟩ (Nat.le_refl _) hn (by have := hD3.ok.sum; simp; omega)
          obtain ⟨w4, hw4⟩ : ∃ w4, w4 = w3.alloc (.cells #[.slice none 0 0, .int .i64 0] 78) := ⟨_, rfl⟩
          have k4 : Kp [] w3 w4 := by rw [hw4]; exact (Kp.refl _ _).alloc _
          have b4 : Fx w4 w3.heap.size (.slice none 0 0) 0 := by rw [hw4]; exact Fx.at _ rfl _
          have hm4 : OwnsM w4 mb xs := hD3.map.kept k4 (by simp)
          obtain ⟨w5, hrun, hown5, k5⟩ := storeF hm4 hD3.rise (by unfold maxLen; omega) ⟨name, w3.heap.size, .slice none 0 0, [], 0⟩ hk
          obtain ⟨hD5, mv5⟩ := hD3.added ⟨name, w3.heap.size, .slice none 0 0, [], 0⟩ k4 ⟨b4, Row.nil _, by simp [own, Value.ownBlock]⟩ (by intro k hk'; simp [Ent.foot, own, Value.ownBlock] at hk'; omega) k5 hown5 hok0
          have hx5 : (⟨name, w3.heap.size, .slice none 0 0, [], 0⟩ : Ent) ∈ putG Ent.name ⟨name, w3.heap.size, .slice none 0 0, [], 0⟩ false xs := (mem_putG hD3.rise).2 (.inl rfl)
          have c1' : w4.cell? ⟨p, 1, none⟩ = some (.map (some mb)) := (k4.cell (p := ⟨p, 1, none⟩) hD3.hd.lt (by simp)).trans c1
          have c0 := (hD5.files _ hx5).box.c0
          have hsee5 : Sees w5 ab b := (hsee3.kept k4 (by simp)).kept' k5 (fun h k hk' e => hoff h k hk' (by rw [List.mem_singleton] at e; subst e; exact mem_foot.2 (.inr (.inl rfl))))
          have hfin : ∀ ys v' w', Hid (ys = [] ++ b) → Row w' v' ys → Grew (.slice none 0 0) w5 v' w' → w'.cell? ⟨w3.heap.size, 0, none⟩ = some (.slice none 0 0) ∧ w'.frozen? ⟨w3.heap.size, 0, none⟩ = false ∧ ChgP p mb xs (appendD d name b) w1 (.returned (.int .i64 (if alive then 44 else 0))) (w'.setCell ⟨w3.heap.size, 0, none⟩ v') := fun ys v' w' hy hr hg => by
            rw [hy.out] at hr
            obtain ⟨h1, h2, h3, h4⟩ := hD5.appended hx5 hr hg hok3
            refine ⟨h1, h2, ?_⟩
            rw [hap]
            exact ⟨rfl, _, h3, (mv3.trans mv5).trans h4⟩
          simp only at hrun c0
          have hnil := Row.nil w5
          clear hG ef hlk hx hfull hst hfree hnm hap hok3 hok hfb hfo hok0 hD5 mv5 hown5 hm4 b4 hx5
          have halloc : w3.alloc (.cells #[.slice none 0 0, .int .i64 0] 78) = w4 := hw4.symm
          clear hw4
          cases alive
          all_goals
            go_wp2_with (first | (refine wpAppR rfl _ _ rfl _ [] rfl hnil _ _ _ b rfl rfl hsee5 (by simp; omega) ?_; intro ys a' c' w6 hy hyl hrow6 hg6; obtain ⟨cc, ff, hch⟩ := hfin _ _ _ hy hrow6 hg6) | fail)
            go_ret
            exact hch
end Go.Proofs.YtpkoikennimonaaGreatDoor
end

section
namespace Go.Proofs
open Go.Shelf
def Tryz.lkeys_ren : Go.Shelf.Ren := ⟨fun | 7 => 70 | 10 => 94 | n => n, fun | 23 => 52 | 26 => 9 | 3 => 74 | 28 => 123 | 0 => 0 | 27 => 122 | 33 => 118 | 4 => 4 | n => n, fun | n => n⟩
theorem Tryz.lkeys : Go.Proofs.SlLaysZ.n7 Tryz.prog Tryz.lkeys_ren := {
  mixed := by kernel_rfl
  f7 := ⟨Tryz.f70.name, by decide, Tryz.func70.trans (congrArg some (by kernel_rfl))⟩
  f10 := ⟨Tryz.f94.name, by decide, Tryz.func94.trans (congrArg some (by kernel_rfl))⟩
  t0 := Tryz.underlying0
  a0 := Tryz.isAgg0
  z0 := Tryz.sizeOf0
  v0 := Tryz.zeroValue0
  t4 := Tryz.underlying4
  a4 := Tryz.isAgg4
  z4 := Tryz.sizeOf4
  v4 := Tryz.zeroValue4
  t23 := Tryz.underlying52
  a23 := Tryz.isAgg52
  z23 := Tryz.sizeOf52
  v23 := Tryz.zeroValue52
  t26 := Tryz.underlying9
  a26 := Tryz.isAgg9
  z26 := Tryz.sizeOf9
  v26 := Tryz.zeroValue9
  t27 := Tryz.underlying122
  a27 := Tryz.isAgg122
  z27 := Tryz.sizeOf122
  v27 := Tryz.zeroValue122
  t28 := Tryz.underlying123
  a28 := Tryz.isAgg123
  z28 := Tryz.sizeOf123
  v28 := Tryz.zeroValue123
  t33 := Tryz.underlying118
  a33 := Tryz.isAgg118
  z33 := Tryz.sizeOf118
  v33 := Tryz.zeroValue118 }
def Tryz.lsorted_ren : Go.Shelf.Ren := ⟨fun | 6 => 69 | 8 => 92 | 9 => 93 | 11 => 103 | 13 => 105 | 12 => 104 | 23 => 118 | 24 => 119 | 14 => 109 | 15 => 110 | 16 => 111 | 17 => 112 | 18 => 113 | 19 => 114 | 20 => 115 | 21 => 116 | 22 => 117 | 25 => 120 | 26 => 121 | 27 => 122 | 28 => 123 | 29 => 124 | 30 => 125 | 31 => 126 | n => n, fun | 26 => 9 | 28 => 123 | 24 => 65 | 0 => 0 | 3 => 3 | 37 => 149 | 48 => 133 | 50 => 99 | 4 => 4 | 40 => 165 | 39 => 164 | 45 => 170 | 5 => 5 | 9 => 9 | 51 => 174 | 55 => 178 | 57 => 180 | 58 => 181 | 33 => 118 | n => n, fun | n => n⟩
theorem Tryz.lsorted : Go.Proofs.SlLaysZ.n6 Tryz.prog Tryz.lsorted_ren := {
  mixed := by kernel_rfl
  f6 := ⟨Tryz.f69.name, by decide, Tryz.func69.trans (congrArg some (by kernel_rfl))⟩
  f8 := ⟨Tryz.f92.name, by decide, Tryz.func92.trans (congrArg some (by kernel_rfl))⟩
  f11 := ⟨Tryz.f103.name, by decide, Tryz.func103.trans (congrArg some (by kernel_rfl))⟩
  t0 := Tryz.underlying0
  a0 := Tryz.isAgg0
  z0 := Tryz.sizeOf0
  v0 := Tryz.zeroValue0
  t24 := Tryz.underlying65
  a24 := Tryz.isAgg65
  z24 := Tryz.sizeOf65
  v24 := Tryz.zeroValue65
  t26 := Tryz.underlying9
  a26 := Tryz.isAgg9
  z26 := Tryz.sizeOf9
  v26 := Tryz.zeroValue9
  t28 := Tryz.underlying123
  a28 := Tryz.isAgg123
  z28 := Tryz.sizeOf123
  v28 := Tryz.zeroValue123
  i26 := by kernel_rfl }
def Tryz.lsort_ren : Go.Shelf.Ren := ⟨fun | 6 => 93 | 8 => 105 | 9 => 104 | 19 => 118 | 20 => 119 | 21 => 109 | 22 => 110 | 23 => 111 | 24 => 112 | 25 => 113 | 26 => 114 | 27 => 115 | 28 => 116 | 29 => 117 | 36 => 120 | 31 => 121 | 32 => 122 | 37 => 123 | 38 => 124 | 39 => 125 | 41 => 126 | n => n, fun | 27 => 65 | 29 => 9 | 3 => 3 | 32 => 149 | 26 => 65 | 0 => 0 | 44 => 133 | 46 => 99 | 4 => 4 | 36 => 165 | 35 => 164 | 41 => 170 | 5 => 5 | 9 => 9 | 53 => 174 | 57 => 178 | 63 => 180 | 64 => 181 | n => n, fun | n => n⟩
theorem Tryz.lsort : Go.Proofs.SlLaysM.n6 Tryz.prog Tryz.lsort_ren := {
  mixed := by kernel_rfl
  f6 := ⟨Tryz.f93.name, by decide, Tryz.func93.trans (congrArg some (by kernel_rfl))⟩
  f8 := Tryz.func105.trans (congrArg some (by kernel_rfl))
  f9 := ⟨Tryz.f104.name, by decide, Tryz.func104.trans (congrArg some (by kernel_rfl))⟩
  f19 := Tryz.func118.trans (congrArg some (by kernel_rfl))
  f20 := Tryz.func119.trans (congrArg some (by kernel_rfl))
  f21 := ⟨Tryz.f109.name, by decide, Tryz.func109.trans (congrArg some (by kernel_rfl))⟩
  f22 := ⟨Tryz.f110.name, by decide, Tryz.func110.trans (congrArg some (by kernel_rfl))⟩
  f23 := ⟨Tryz.f111.name, by decide, Tryz.func111.trans (congrArg some (by kernel_rfl))⟩
  f24 := ⟨Tryz.f112.name, by decide, Tryz.func112.trans (congrArg some (by kernel_rfl))⟩
  f25 := ⟨Tryz.f113.name, by decide, Tryz.func113.trans (congrArg some (by kernel_rfl))⟩
  f26 := ⟨Tryz.f114.name, by decide, Tryz.func114.trans (congrArg some (by kernel_rfl))⟩
  f27 := ⟨Tryz.f115.name, by decide, Tryz.func115.trans (congrArg some (by kernel_rfl))⟩
  f28 := ⟨Tryz.f116.name, by decide, Tryz.func116.trans (congrArg some (by kernel_rfl))⟩
  f29 := ⟨Tryz.f117.name, by decide, Tryz.func117.trans (congrArg some (by kernel_rfl))⟩
  f31 := Tryz.func121.trans (congrArg some (by kernel_rfl))
  f32 := Tryz.func122.trans (congrArg some (by kernel_rfl))
  f36 := ⟨Tryz.f120.name, by decide, Tryz.func120.trans (congrArg some (by kernel_rfl))⟩
  f37 := ⟨Tryz.f123.name, by decide, Tryz.func123.trans (congrArg some (by kernel_rfl))⟩
  f38 := ⟨Tryz.f124.name, by decide, Tryz.func124.trans (congrArg some (by kernel_rfl))⟩
  f39 := ⟨Tryz.f125.name, by decide, Tryz.func125.trans (congrArg some (by kernel_rfl))⟩
  f41 := ⟨Tryz.f126.name, by decide, Tryz.func126.trans (congrArg some (by kernel_rfl))⟩
  t0 := Tryz.underlying0
  a0 := Tryz.isAgg0
  z0 := Tryz.sizeOf0
  v0 := Tryz.zeroValue0
  t3 := Tryz.underlying3
  a3 := Tryz.isAgg3
  z3 := Tryz.sizeOf3
  v3 := Tryz.zeroValue3
  t4 := Tryz.underlying4
  a4 := Tryz.isAgg4
  z4 := Tryz.sizeOf4
  v4 := Tryz.zeroValue4
  t5 := Tryz.underlying5
  a5 := Tryz.isAgg5
  z5 := Tryz.sizeOf5
  v5 := Tryz.zeroValue5
  t9 := Tryz.underlying9
  a9 := Tryz.isAgg9
  z9 := Tryz.sizeOf9
  v9 := Tryz.zeroValue9
  t26 := Tryz.underlying65
  a26 := Tryz.isAgg65
  z26 := Tryz.sizeOf65
  v26 := Tryz.zeroValue65
  t27 := Tryz.underlying65
  a27 := Tryz.isAgg65
  z27 := Tryz.sizeOf65
  v27 := Tryz.zeroValue65
  t29 := Tryz.underlying9
  a29 := Tryz.isAgg9
  z29 := Tryz.sizeOf9
  v29 := Tryz.zeroValue9
  t32 := Tryz.underlying149
  a32 := Tryz.isAgg149
  z32 := Tryz.sizeOf149
  v32 := Tryz.zeroValue149
  t35 := Tryz.underlying164
  a35 := Tryz.isAgg164
  z35 := Tryz.sizeOf164
  v35 := Tryz.zeroValue164
  t36 := Tryz.underlying165
  a36 := Tryz.isAgg165
  z36 := Tryz.sizeOf165
  v36 := Tryz.zeroValue165
  t41 := Tryz.underlying170
  a41 := Tryz.isAgg170
  z41 := Tryz.sizeOf170
  v41 := Tryz.zeroValue170
  t44 := Tryz.underlying133
  a44 := Tryz.isAgg133
  z44 := Tryz.sizeOf133
  v44 := Tryz.zeroValue133
  t46 := Tryz.underlying99
  a46 := Tryz.isAgg99
  z46 := Tryz.sizeOf99
  v46 := Tryz.zeroValue99
  t53 := Tryz.underlying174
  a53 := Tryz.isAgg174
  z53 := Tryz.sizeOf174
  v53 := Tryz.zeroValue174
  t57 := Tryz.underlying178
  a57 := Tryz.isAgg178
  z57 := Tryz.sizeOf178
  v57 := Tryz.zeroValue178
  t63 := Tryz.underlying180
  a63 := Tryz.isAgg180
  z63 := Tryz.sizeOf180
  v63 := Tryz.zeroValue180
  t64 := Tryz.underlying181
  a64 := Tryz.isAgg181
  z64 := Tryz.sizeOf181
  v64 := Tryz.zeroValue181 }
end Go.Proofs
end

section
namespace Go.Proofs.YtpkoikennimonaaGreatDoor
open Go.RowKit Go.Hay Go.Maps Go.Sort Go.Shelf
set_option linter.unusedVariables false
set_option linter.unusedSimpArgs false

theorem sortsS (m : Nat) : AnyZ.SortsIn Tryz.prog Tryz.lsorted_ren Fence.wide m :=
  ⟨fun blk off cap ss W hH hblk hsz => callsIn_wide.2 (AnyM.slices_Sort_string Tryz.lsort blk off cap ss W hH hblk hsz), fun p cap W => callsIn_wide.2 (AnyM.slices_Sort_string_none Tryz.lsort p cap W)⟩
theorem cKeys (mb : Option Nat) (W : World) : Calls Tryz.prog 70 #[.map mb] W fun e w' => e = .returned (.func (.func 94) #[] #[.pointer (some ⟨W.heap.size, 0, none⟩)]) ∧ w' = W.alloc (.cells #[.map mb] 52) :=
  (callsIn_wide (n := 5)).1 (AnyZ.keys_in Tryz.lkeys Fence.wide 5 trivial rfl mb W)

theorem mergeSort_rise {xs : List Ent} (hr : riseG Ent.name xs) {ss : List (List UInt8)} (hp : ss.Perm (xs.map Ent.name)) : ss.mergeSort (fun x y => decide (x ≤ y)) = xs.map Ent.name := by
  have e1 := mergeSort_of_perm hp
  have e2 : (xs.map Ent.name).mergeSort leB = xs.map Ent.name := by
    refine List.mergeSort_of_pairwise ?_
    rw [List.pairwise_map]
    refine hr.imp fun h => ?_
    have h1 := (bb_lt _ _).1 h
    simp only [leB, decide_eq_true_eq]
    exact List.le_of_lt h1
  exact e1.trans e2
/-- A slice of texts. -/
def Nms (w : World) (a : Option Addr) (l : List (List UInt8)) : Prop := l = [] ∨ ∃ g, a = some ⟨g, 0, none⟩ ∧ ∀ j s, l[j]? = some s → w.cell? ⟨g, j, none⟩ = some (encStr s)
def SortedP (xs : List Ent) (w : World) (e : Ending) (w' : World) : Prop := ∃ a c, e = .returned (.slice a xs.length c) ∧ Nms w' a (xs.map Ent.name) ∧ Kp [] w w' ∧ ∀ k ∈ blk a, w.heap.size ≤ k ∧ k < w'.heap.size
theorem Nms.ofRow {w : World} {base : Nat} {v : Value} {l : List (List UInt8)} (h : w.ownsRow base 9 1 v l.length (l.map encStr)) : ∃ a c, v = .slice a l.length c ∧ Nms w a l ∧ ∀ k ∈ blk a, base ≤ k ∧ k < w.heap.size := by
  obtain ⟨_, ⟨rfl, h0⟩ | ⟨g, cap, cur, rfl, hb, hg, hl, hm, hsz, ht⟩⟩ := h
  · obtain rfl : l = [] := List.length_eq_zero_iff.1 h0
    exact ⟨none, 0, rfl, .inl rfl, by simp [blk]⟩
  · refine ⟨some ⟨g, 0, none⟩, cap, rfl, .inr ⟨g, rfl, fun j s hs => ?_⟩, fun k hk => ?_⟩
    · have hu : (l.map encStr)[j]? = some (encStr s) := by simp [hs]
      rw [← ht, List.getElem?_take] at hu
      split at hu
      · rw [World.cell?, hg]; simpa using hu
      · cases hu
    · simp [blk] at hk
      subst hk
      exact ⟨hb, (Array.getElem?_eq_some_iff.1 hg).1⟩
set_option maxHeartbeats 1000000 in
theorem cSorted {w : World} {mb : Nat} {xs : List Ent} (hown : OwnsM w mb xs) (hr : riseG Ent.name xs) (hN : xs.length ≤ 8796093022208) :
    Calls Tryz.prog 69 #[.func (.func 94) #[] #[.pointer (some ⟨w.heap.size, 0, none⟩)]] (w.alloc (.cells #[.map (some mb)] 52)) (SortedP xs (w.alloc (.cells #[.map (some mb)] 52))) := by
  have hbl := hown.lt
  have hseq : SeqGives Fence.wide 2 Tryz.prog 94 #[.pointer (some ⟨w.heap.size, 0, none⟩)] encStr (fun ss => ss.Perm (strKeys (DataW.map (xs.map Ent.dat)))) (Maps.size (DataW.map (xs.map Ent.dat))) (w.alloc (.cells #[.map (some mb)] 52)) :=
    AnyZ.keys_gives (ρ := Tryz.lkeys_ren) { Tryz.lkeys with } Fence.wide _ trivial rfl (by omega) w.heap.size mb xs.length (DataW.map (xs.map Ent.dat)) _ (by simp) (by simp) (by
      obtain ⟨es, clock, hb, Ft, hs, hD⟩ := hown
      exact ⟨es, clock, (Below.heap_alloc _ _ mb hbl).trans hb, Ft, hs, hD⟩)
  have hc := AnyZ.sorted_in Tryz.lsorted Fence.wide 5 trivial trivial trivial trivial rfl (by omega) (sortsS _) (enters_of Tryz.func93 (by kernel_rfl) rfl) 94 #[.pointer (some ⟨w.heap.size, 0, none⟩)] trivial (enters_of Tryz.func94 (by kernel_rfl) rfl) _ _
    (by rw [dat_size]; unfold maxLen; omega) (by rw [dat_size]; omega) _ hseq
  refine (callsIn_wide (n := 5)).1 (CallsIn.mono hc ?_)
  rintro e w' ⟨v, ss, rfl, hS, hrow, hnil, hb⟩
  rw [dat_keys] at hS
  rw [mergeSort_rise hr hS] at hrow
  have hlen : ss.length = (xs.map Ent.name).length := hS.length_eq
  rw [hlen] at hrow
  obtain ⟨a, c, rfl, hn, hk⟩ := Nms.ofRow hrow
  exact ⟨a, c, by rw [List.length_map], hn, Kp.ofBelow hb _, hk⟩
end Go.Proofs.YtpkoikennimonaaGreatDoor
end

section
namespace Go.Proofs.YtpkoikennimonaaGreatDoor
open Go.RowKit Go.Hay Go.Maps Go.Sort Go.Shelf
attribute [local go_sem] Oper.semAt_some
set_option linter.unusedVariables false
set_option linter.unusedSimpArgs false

/-- How the iterator stands: the block of the names that it has made, and how many files it has given. -/
structure Sr where
  q : Option Nat
  i : Nat
/-- What the rounds leave alone: the blocks Js, and the names' block. -/
def KeepR (Js : List Nat) (s : Sr) (A B : World) : Prop := A.heap.size ≤ B.heap.size ∧ (∀ k ∈ Js, ∀ o, A.heap[k]? = some o → B.heap[k]? = some o) ∧ ∀ q, s.q = some q → ∀ o : Obj, A.heap[q]? = some o → o.isCells = true → B.heap[q]? = some o
theorem KeepR.trans {Js : List Nat} {s : Sr} {A B C : World} (h : KeepR Js s A B) (k : KeepR Js s B C) : KeepR Js s A C :=
  ⟨Nat.le_trans h.1 k.1, fun j hj o ho => k.2.1 j hj o (h.2.1 j hj o ho), fun q hq o ho hc => k.2.2 q hq o (h.2.2 q hq o ho hc) hc⟩
theorem KeepR.refl (Js : List Nat) (s : Sr) (A : World) : KeepR Js s A A := ⟨Nat.le_refl _, fun _ _ _ h => h, fun _ _ _ h _ => h⟩
theorem KeepR.alloc (Js : List Nat) (s : Sr) (W : World) (o : Obj) : KeepR Js s W (W.alloc o) :=
  ⟨by simp, fun k _ o' ho => (Below.heap_alloc W o k (Array.getElem?_eq_some_iff.1 ho).1).trans ho, fun q _ o' ho _ => (Below.heap_alloc W o q (Array.getElem?_eq_some_iff.1 ho).1).trans ho⟩
theorem KeepR.putObj {Js : List Nat} {s : Sr} {B : Nat} (hB : ∀ j ∈ Js, j < B) (W : World) (l : Nat) (o o' : Obj) (hl : B ≤ l) (h : W.heap[l]? = some o) (ho : o.isCells = false) : KeepR Js s W (W.putObj l o') :=
  ⟨by simp, fun k hk o'' h'' => (World.putObj_heap_other (by have := hB k hk; omega)).trans h'', fun q _ o'' h'' hc => by
    by_cases e : q = l
    · subst e; rw [h] at h''; cases h''; rw [ho] at hc; cases hc
    · exact (World.putObj_heap_other e).trans h''⟩
/-- .. a round that turns only blocks of S. -/
theorem KeepR.ofKp {Js : List Nat} {s : Sr} {S : List Nat} {A B : World} (hk : Kp S A B) (hJ : ∀ j ∈ Js, j ∉ S) (hq : ∀ q, s.q = some q → q ∉ S) : KeepR Js s A B :=
  ⟨hk.size, fun j hj o ho => (hk.block j (Array.getElem?_eq_some_iff.1 ho).1 (hJ j hj)).trans ho, fun q e o ho _ => (hk.block q (Array.getElem?_eq_some_iff.1 ho).1 (hq q e)).trans ho⟩
/-- The iterator's own step: it makes the names. -/
def StepR (s s' : Sr) (A B : World) : Prop := s.q = none ∧ s' = ⟨s'.q, s.i⟩ ∧ Kp [] A B ∧ ∃ q, s'.q = some q ∧ A.heap.size ≤ q ∧ q < B.heap.size
def Sr.nx (s : Sr) (x : Ent) : Sr := ⟨s.q, s.i + 1⟩
abbrev encFile (x : Ent) : Array Value := #[encStr x.name, .pointer (some ⟨x.blk, 0, none⟩)]

theorem cRising (p : Nat) (w : World) : Calls Tryz.prog 42 #[.pointer (some ⟨p, 0, none⟩)] w fun e w' => e = .returned (.func (.func 68) #[] #[.pointer (some ⟨w.heap.size, 0, none⟩)]) ∧ w' = w.alloc (.cells #[.pointer (some ⟨p, 0, none⟩)] 23) := by
  go_enter Tryz.func42, Tryz.ntmps42
  go_wp2_with fail
  go_returns
  exact ⟨rfl, rfl⟩

/-- What the iterator reads, in whatever world keeps its blocks. -/
structure At (q0 p mb : Nat) (xs : List Ent) (w : World) : Prop where
  box : w.cell? ⟨q0, 0, none⟩ = some (.pointer (some ⟨p, 0, none⟩))
  c1 : w.cell? ⟨p, 1, none⟩ = some (.map (some mb))
  map : OwnsM w mb xs
theorem At.kept {q0 p mb : Nat} {xs : List Ent} {A B : World} {s : Sr} (h : At q0 p mb xs A) (hk : KeepR [q0, p, mb] s A B) : At q0 p mb xs B := by
  have same : ∀ k ∈ [q0, p, mb], k < A.heap.size → B.heap[k]? = A.heap[k]? := fun k hk' hl => by
    have e : A.heap[k]? = some A.heap[k] := by simp [hl]
    rw [e]; exact hk.2.1 k hk' _ e
  refine ⟨(World.cell?_of_block (a := ⟨q0, 0, none⟩) (same q0 (by simp) (World.block_lt_of_cell? _ _ h.box))).trans h.box, (World.cell?_of_block (a := ⟨p, 1, none⟩) (same p (by simp) (World.block_lt_of_cell? _ _ h.c1))).trans h.c1, ?_⟩
  have hlt := h.map.lt
  obtain ⟨es, clock, hb, F, hs, hD⟩ := h.map
  exact ⟨es, clock, (same mb (by simp) hlt).trans hb, F, hs, hD⟩

set_option maxHeartbeats 8000000 in
set_option maxRecDepth 100000 in
theorem risingSeq (n : Nat) (hn : 1 ≤ n) (q0 p mb : Nat) (xs : List Ent) (hrise : riseG Ent.name xs) (hN : xs.length ≤ 8796093022208) (hnl : ∀ x ∈ xs, x.name.length ≤ maxLen) (w : World) (hA : At q0 p mb xs w) :
    SeqS Fence.wide n Tryz.prog 68 #[.pointer (some ⟨q0, 0, none⟩)] encFile StepR (KeepR [q0, p, mb])
      (fun s x => s.q.isSome = true ∧ xs[s.i]? = some x) Sr.nx (fun s => s.q.isSome = true ∧ s.i = xs.length) (fun _ => True) ⟨none, 0⟩ w := by
  intro l J Jx W hW hT hY h0
  have hAW := hA.kept hW
  have hbx := hAW.box
  have hc1 := hAW.c1
  have hmW := hAW.map
  refine callsIn_of_wp Tryz.func68 rfl trivial ?_ rfl
  simp only [Tryz.ntmps68, List.size_toArray, List.length_cons, List.length_nil, Nat.reduceAdd, Nat.reduceSub, Array.replicate_succ, Array.replicate_zero, List.push_toArray, List.append_toArray, List.nil_append, List.cons_append]
  gi_wp2_with fail
  refine ⟨trivial, (callsIn_wide.2 (cKeys _ _)).mono ?_⟩
  rintro e w' ⟨rfl, rfl⟩
  gi_wp2_with fail
  refine ⟨trivial, (callsIn_wide.2 (cSorted hmW hrise hN)).mono ?_⟩
  rintro e w2 ⟨a, c, rfl, hnm, k2, hnew⟩
  have kW : Kp [] W w2 := ((Kp.refl [] W).alloc _).trans k2 (by simp)
  have hsz : W.heap.size < w2.heap.size := by have := k2.size; simp at this; omega
  have hA2 : At q0 p mb xs w2 := hAW.kept (s := ⟨none, 0⟩) (KeepR.ofKp kW (by simp) (by simp))
  obtain ⟨q, hq1, hq2, hq3⟩ : ∃ q, W.heap.size ≤ q ∧ q < w2.heap.size ∧ ∀ g, a = some ⟨g, 0, none⟩ → g = q := by
    cases a with
    | none => exact ⟨W.heap.size, Nat.le_refl _, hsz, by simp⟩
    | some ad =>
      have := hnew ad.block (by simp [blk])
      simp at this
      exact ⟨ad.block, by omega, this.2, fun g e => by cases e; rfl⟩
  have hJ2 : J ⟨some q, 0⟩ w2 := hT ⟨none, 0⟩ ⟨some q, 0⟩ W w2 h0 ⟨rfl, rfl, kW, q, rfl, hq1, hq2⟩
  gi_wp2_with fail
  gi_loopw [4, 12] (fun _ i wr => ∃ j : Nat, j ≤ xs.length ∧ i = .int .i64 j ∧ J ⟨some q, j⟩ wr ∧ KeepR [q0, p, mb] ⟨some q, 0⟩ w2 wr) (fun _ i _ => xs.length - (intOf i).toNat)
  case atStart => exact ⟨0, Nat.zero_le _, rfl, hJ2, KeepR.refl _ _ _⟩
  case round =>
    obtain ⟨j, hj, rfl, hJj, hkr⟩ := hrel
    by_cases hjl : j < xs.length
    · obtain ⟨x, hx⟩ : ∃ x, xs[j]? = some x := ⟨xs[j], by simp [hjl]⟩
      have hxm : x ∈ xs := List.mem_of_getElem? hx
      have hAr := hA2.kept hkr
      have rbx := hAr.box
      have rc1 := hAr.c1
      have hlk := lookF hAr.map x.name (hnl x hxm)
      rw [lookG_mem hrise hxm rfl] at hlk
      simp only [ptrOf] at hlk
      rcases hnm with hnil | ⟨g, rfl, hcs⟩
      · simp at hnil; subst hnil; simp at hjl
      · obtain rfl := hq3 g rfl
        have hcw := hcs j x.name (by simp [hx])
        have hcell : wr.cell? ⟨g, j, none⟩ = some (encStr x.name) := by
          obtain ⟨o, ho, hoc⟩ : ∃ o : Obj, w2.heap[g]? = some o ∧ o.isCells = true := by
            unfold World.cell? at hcw
            cases ho : w2.heap[g]? with
            | none => simp [ho] at hcw
            | some o => exact ⟨o, rfl, by cases o <;> simp_all [Obj.isCells]⟩
          have hb := hkr.2.2 g rfl o ho hoc
          exact (World.cell?_of_block (a := ⟨g, j, none⟩) (hb.trans ho.symm)).trans hcw
        obtain ⟨fn, tmps, assign, body, hy, hR⟩ := hY ⟨some g, j⟩ x wr hJj ⟨rfl, hx⟩
        have hN' : (xs.length : Int) < 9223372036854775807 := by omega
        clear hcw hcs hnew hx
        gi_wp2
        refine hR.mono ?_
        rintro e1 W3 (⟨rfl, hJ3, hk3⟩ | ⟨rfl, hJx⟩)
        · gi_wp2
          go_roundw
          case rel => exact ⟨j + 1, by omega, by go_num, hJ3, hkr.trans hk3⟩
          case measure => simp [intOf]; omega
        · gi_wp2
          go_returns
          exact ⟨⟨_, rfl⟩, .inr ⟨_, trivial, hJx⟩⟩
    · have e : j = xs.length := by omega
      subst e
      gi_wp2
      go_end0
      exact ⟨⟨_, rfl⟩, .inl ⟨⟨some q, xs.length⟩, ⟨rfl, rfl⟩, hJj⟩⟩
end Go.Proofs.YtpkoikennimonaaGreatDoor
end

section
namespace Go.Proofs.YtpkoikennimonaaGreatDoor
open Go.RowKit Go.Hay Go.Maps Go.Sort Go.Shelf
attribute [local go_sem] Oper.semAt_some
set_option linter.unusedVariables false
set_option linter.unusedSimpArgs false

abbrev RowN (base : Nat) (w : World) (v : Value) (l : List (List UInt8)) : Prop := w.ownsRow base 9 1 v l.length (l.map encStr)
theorem RowN.lt {base : Nat} {w : World} {v : Value} {l : List (List UInt8)} (h : RowN base w v l) : ∀ k, v.ownBlock = some k → base ≤ k ∧ k < w.heap.size ∧ ∃ o : Obj, w.heap[k]? = some o ∧ o.isCells = true := by
  obtain ⟨_, ⟨rfl, _⟩ | ⟨g, cap, cur, rfl, hb, hg, _⟩⟩ := h
  · intro k hk; cases hk
  · intro k hk; cases hk; exact ⟨hb, (Array.getElem?_eq_some_iff.1 hg).1, _, hg, rfl⟩
theorem RowN.kept {base : Nat} {w w' : World} {v : Value} {l : List (List UInt8)} (h : RowN base w v l) (hb : ∀ k, v.ownBlock = some k → w'.heap[k]? = w.heap[k]?) : RowN base w' v l := by
  obtain ⟨h0, ⟨rfl, h1⟩ | ⟨g, cap, cur, rfl, hb', hg, h2⟩⟩ := h
  · exact ⟨h0, .inl ⟨rfl, h1⟩⟩
  · exact ⟨h0, .inr ⟨g, cap, cur, rfl, hb', (hb g rfl).trans hg, h2⟩⟩
theorem RowN.shape {base : Nat} {w : World} {v : Value} {l : List (List UInt8)} (h : RowN base w v l) : ∃ a c, v = .slice a l.length c := by
  obtain ⟨_, ⟨rfl, h0⟩ | ⟨g, cap, cur, rfl, _⟩⟩ := h
  · exact ⟨none, 0, by rw [h0]⟩
  · exact ⟨_, _, rfl⟩
theorem RowN.low {base m : Nat} {w : World} {v : Value} {l : List (List UInt8)} (h : RowN base w v l) (hm : m ≤ base) : RowN m w v l := by
  obtain ⟨h0, ⟨rfl, h1⟩ | ⟨g, cap, cur, rfl, hb', hg, h2⟩⟩ := h
  · exact ⟨h0, .inl ⟨rfl, h1⟩⟩
  · exact ⟨h0, .inr ⟨g, cap, cur, rfl, Nat.le_trans hm hb', hg, h2⟩⟩
theorem infoS : ∃ i : TypeInfo, Tryz.prog.info? 9 = some i ∧ i.zero = some (.string ⟨#[]⟩) ∧ i.size = 1 ∧ i.bytes = 16 := info3 (by kernel_rfl)

/-- One text more, for the fenced walk. -/
theorem wpAppN {F : Fence} {n : Nat} {w : World} {ops : Array Oper} {rest : List Oper} {o : Oper} {a : Act} {Q : Exit → Act → World → Prop} (hgd : o.guard = none) (s x : Operand)
    (ho : o.op = .call { callee := .builtin .append, args := #[s, x], argTypes := #[65, 65] })
    (b0 : Nat) (v : Value) (l : List (List UInt8)) (hv : a.eval s = v) (hown : RowN b0 w v l) (t : List UInt8) (q : Nat) (hq : w.heap.size = q) (hx : a.eval x = .slice (some ⟨q, 0, none⟩) 1 1) (hb : l.length + 1 ≤ 5000000000000) (hbase : b0 ≤ w.heap.size)
    (hK : ∀ l' a' c' w', Hid (l' = l ++ [t]) → RowN b0 w' (.slice a' l'.length c') l' → Kp v.ownBlock.toList w w' → (∀ k, (Value.slice a' l'.length c').ownBlock = some k → v.ownBlock = some k ∨ w.heap.size ≤ k) → wpListIn F n Tryz.prog ops Q rest (a.put o.dst (.slice a' l'.length c')) w') :
    wpListIn F n Tryz.prog ops Q (o :: rest) a (w.alloc (.cells #[.string ⟨t.toArray⟩] 9)) := by
  subst hq
  obtain ⟨i, hi, hz, hz1, hz2⟩ := infoS
  have hown1 : RowN b0 (w.alloc (.cells #[.string ⟨t.toArray⟩] 9)) v l := RowN.kept hown (fun k hk => Below.heap_alloc _ _ k (RowN.lt hown k hk).2.1)
  refine wpListIn_append_own_at _ hgd s x 65 ho b0 9 i _ 1 16 Tryz.underlying65 hi hz hz1 hz2 rfl (by decide) v l.length (l.map encStr) hv hown1 ⟨w.heap.size, 0, none⟩ 1 1 [encStr t] hx rfl (cell_one_new w _ _) (by intro u hu; simp at hu; subst hu; rfl) (by unfold maxLen; omega) (by omega) (by simp; omega) ?_
  intro v' w' h2 h3 _ h5
  have h2' : RowN b0 w' v' (l ++ [t]) := by
    unfold RowN
    rw [List.length_append, List.map_append]
    exact h2
  obtain ⟨a', c', rfl⟩ := RowN.shape h2'
  refine hK (l ++ [t]) a' c' w' rfl h2' ?_ ?_
  · exact ((Kp.refl _ w).alloc _).grown h3 (fun k e => .inl (by rw [Option.mem_toList]; exact e))
  · intro k hk
    rcases h5 with h5 | h5
    · exact .inl (h5.symm.trans hk)
    · rw [hk] at h5
      cases h5
      exact .inr (by simp)
/-- How it stands between two rounds. -/
def NamesI (xs : List Ent) (b0 : Nat) (w : World) (s : Sr) (W : World) : Prop := ∃ v l, W.cell? ⟨w.heap.size, 0, none⟩ = some v ∧ W.frozen? ⟨w.heap.size, 0, none⟩ = false ∧ RowN b0 W v l ∧ l = (xs.map Ent.name).take s.i ∧ Kp [] w W ∧ b0 ≤ W.heap.size ∧ s.i ≤ xs.length ∧ ∀ q, s.q = some q → b0 ≤ q ∧ q < W.heap.size ∧ v.ownBlock ≠ some q
theorem namesOwn (xs : List Ent) (b0 : Nat) (w : World) (hB : w.heap.size < b0) : OwnFrom b0 (NamesI xs b0 w) := fun s W W' row h hg hr => by
  obtain ⟨v, l, h1, h2, h3, h4, h5, h6, h7, h8⟩ := h
  have hb : W'.heap[w.heap.size]? = W.heap[w.heap.size]? := hg.block _ (World.block_lt_of_cell? _ _ h1) (fun e => by have := (hr _ e.symm).1; omega)
  refine ⟨v, l, (World.cell?_of_block (a := ⟨w.heap.size, 0, none⟩) hb).trans h1, (World.frozen?_of_block (a := ⟨w.heap.size, 0, none⟩) hb).trans h2, h3.kept (fun k hk => hg.block k (h3.lt k hk).2.1 (fun e => ?_)), h4, h5.grown hg (fun k e => by have := (hr k e).1; exact .inr (by omega)), Nat.le_trans h6 hg.size, h7, fun q hq => ⟨(h8 q hq).1, Nat.lt_of_lt_of_le (h8 q hq).2.1 hg.size, (h8 q hq).2.2⟩⟩
  obtain ⟨_, o, ho, hc⟩ := hr k e.symm
  obtain ⟨_, _, o', ho', hc'⟩ := h3.lt k hk
  rw [ho] at ho'; cases ho'; rw [hc] at hc'; cases hc'
theorem namesTurn (xs : List Ent) (b0 : Nat) (w : World) (hB : w.heap.size < b0) (s s' : Sr) (A B : World) (h : NamesI xs b0 w s A) (ht : StepR s s' A B) : NamesI xs b0 w s' B := by
  obtain ⟨v, l, h1, h2, h3, h4, h5, h6, h7, h8⟩ := h
  obtain ⟨_, e, hk, q, hq, hq1, hq2⟩ := ht
  have ei : s'.i = s.i := by rw [e]
  have hlt := World.block_lt_of_cell? _ _ h1
  refine ⟨v, l, (hk.cell (p := ⟨w.heap.size, 0, none⟩) hlt (by simp)).trans h1, (hk.frozen (p := ⟨w.heap.size, 0, none⟩) hlt (by simp)).trans h2, h3.kept (fun k hk' => hk.block k (h3.lt k hk').2.1 (by simp)), by rw [ei]; exact h4, h5.trans hk (by simp), Nat.le_trans h6 hk.size, by rw [ei]; exact h7, fun q' hq' => ?_⟩
  rw [hq] at hq'
  cases hq'
  exact ⟨by omega, hq2, fun e => by have := (h3.lt _ e).2.1; omega⟩
theorem stepRKeeps {s s' : Sr} {A B : World} (ht : StepR s s' A B) (k : Nat) (o : Obj) (ho : A.heap[k]? = some o) : B.heap[k]? = some o :=
  (ht.2.2.1.block k (Array.getElem?_eq_some_iff.1 ho).1 (by simp)).trans ho

def NamesP (xs : List Ent) (w : World) (e : Ending) (w' : World) : Prop := ∃ a c, e = .returned (.slice a xs.length c) ∧ RowN w.heap.size w' (.slice a xs.length c) (xs.map Ent.name) ∧ Kp [] w w'
theorem Disk.names {w : World} {p mb : Nat} {xs : List Ent} {d : Dk} (h : Disk w p mb xs d) : ∀ x ∈ xs, x.name.length ≤ maxLen := fun x hx => by
  have := h.ok.name x.fl (by rw [h.fl]; exact List.mem_map_of_mem hx)
  simp only [nameOk, Ent.fl, Bool.and_eq_true, decide_eq_true_eq] at this
  obtain ⟨_, _, h32⟩ := this
  have h33 : x.name.length ≤ 32 := of_decide_eq_true h32
  unfold maxLen
  omega

set_option maxHeartbeats 8000000 in
set_option maxRecDepth 100000 in
theorem cNames {w : World} {p mb : Nat} {xs : List Ent} {d : Dk} (hD : Disk w p mb xs d) (hN : xs.length ≤ 1000000000000) : Calls Tryz.prog 26 #[.pointer (some ⟨p, 0, none⟩)] w (NamesP xs w) := by
  have hplt := hD.hd.lt
  have hmlt := hD.map.lt
  refine (callsIn_wide (n := 4)).1 ?_
  refine callsIn_of_wp_marks Tryz.func26 rfl trivial ?_ rfl
  simp only [Tryz.ntmps26, List.size_toArray, List.length_cons, List.length_nil, Nat.reduceAdd, Nat.reduceSub, Array.replicate_succ, Array.replicate_zero, List.push_toArray, List.append_toArray, List.nil_append, List.cons_append]
  gi_wp2_with fail
  refine ⟨trivial, (callsIn_wide.2 (cRising _ _)).mono ?_⟩
  rintro e w' ⟨rfl, rfl⟩
  obtain ⟨w1, hw1⟩ : ∃ w1, w1 = (w.alloc (.cells #[.slice none 0 0] 65)).alloc (.cells #[.pointer (some ⟨p, 0, none⟩)] 23) := ⟨_, rfl⟩
  have hs1 : w1.heap.size = w.heap.size + 2 := by rw [hw1]; simp
  have k1 : Kp [] w w1 := by rw [hw1]; exact ((Kp.refl _ _).alloc _).alloc _
  have b0 : w1.cell? ⟨w.heap.size, 0, none⟩ = some (.slice none 0 0) := by rw [hw1]; simp
  have f0 : w1.frozen? ⟨w.heap.size, 0, none⟩ = false := by rw [hw1]; simp
  have b1 : w1.cell? ⟨w.heap.size + 1, 0, none⟩ = some (.pointer (some ⟨p, 0, none⟩)) := by
    rw [hw1]
    have := World.cell?_alloc_new (w.alloc (.cells #[.slice none 0 0] 65)) #[.pointer (some ⟨p, 0, none⟩)] 23 0
    rwa [World.size_alloc] at this
  rw [← hw1]
  simp only [World.size_alloc]
  have hD1 := hD.keptNew k1
  have hseq := risingSeq (4 - 1) (by omega) (w.heap.size + 1) p mb xs hD.rise (by omega) hD.names w1 ⟨b1, hD1.hd.c1, hD1.map⟩
  have hI0 : NamesI xs w1.heap.size w ⟨none, 0⟩ w1 := ⟨_, [], b0, f0, ⟨rfl, .inl ⟨rfl, rfl⟩⟩, by simp, k1, Nat.le_refl _, Nat.zero_le _, by simp⟩
  have hJs : ∀ j ∈ [w.heap.size + 1, p, mb], j < w1.heap.size := by intro j hj; simp at hj; omega
  have hs1a : w.heap.size + 2 ≤ w1.heap.size := by omega
  have hs1b : w1.heap.size ≤ w.heap.size + 2 := by omega
  clear b0 f0 hw1 hs1
  gi_wp2_with fail
  refine wpRangeS rfl (by omega) (gf := 68) (lb := #[.pointer (some ⟨w.heap.size + 1, 0, none⟩)]) rfl trivial (enters_of Tryz.func68 (by kernel_rfl) rfl)
    hseq (fun _ => rfl) KeepR.trans (fun s => KeepR.alloc _ s) (fun s W l o o' hl ho hc _ => KeepR.putObj hJs W l o o' hl ho hc) (KeepR.refl _ _ _) (fun s s' A B ht k o _ ho _ _ => stepRKeeps ht k o ho)
    (NamesI xs w1.heap.size w) (fun _ _ _ => False) (namesOwn xs _ w (by omega)) (fun _ _ _ _ _ h _ _ => h) (namesTurn xs _ w (by omega)) hI0
    (fun x => { tmps := #[.pointer (some ⟨p, 0, none⟩), undef, .slice none 0 0, .pointer (some ⟨w.heap.size, 0, none⟩), encStr x.name, .pointer (some ⟨p, 0, none⟩), .func (.func 68) #[] #[.pointer (some ⟨w.heap.size + 1, 0, none⟩)], encStr x.name, .pointer (some ⟨x.blk, 0, none⟩), undef, undef, undef, undef, undef], defers := [] }) ?assign ?body ?done ?stop
  case assign =>
    intro l x W C hC
    gi_wp2_with fail
    exact hC
  case body =>
    rintro l ⟨sq, i⟩ x W ⟨v, nl, h1, h2, h3, h4, h5, h6, h7, h8⟩ ⟨hsq, hx⟩
    simp only at hsq hx h4 h7 h8
    have hil : i < xs.length := (List.getElem?_eq_some_iff.1 hx).1
    have hlen : nl.length ≤ 1000000000000 := by rw [h4, List.length_take]; omega
    have hn2 : nl ++ [x.name] = (xs.map Ent.name).take (i + 1) := by rw [h4, List.take_add_one]; simp [hx]
    have hlt := World.block_lt_of_cell? _ _ h1
    obtain ⟨av, cv, rfl⟩ := RowN.shape h3
    have h3lt := RowN.lt h3
    have hH4 := hid h4
    have hHn := hid hn2
    clear h4 hn2
    gi_wp2_with (gi_at_builtin; refine wpAppN rfl _ _ rfl w1.heap.size _ nl rfl h3 x.name _ rfl rfl (by omega) h6 ?_)
    intro l' a' c' w3 hl' r3 k3 hnew
    have hwn : w.heap.size ∉ (Value.slice av nl.length cv).ownBlock.toList := fun hm => by have := (h3lt _ (by simpa [Option.mem_toList] using hm)).1; omega
    have cb : w3.cell? ⟨w.heap.size, 0, none⟩ = some (.slice av nl.length cv) := (k3.cell (p := ⟨w.heap.size, 0, none⟩) hlt hwn).trans h1
    have fb : w3.frozen? ⟨w.heap.size, 0, none⟩ = false := (k3.frozen (p := ⟨w.heap.size, 0, none⟩) hlt hwn).trans h2
    have kS : Kp [w.heap.size] w3 (w3.setCell ⟨w.heap.size, 0, none⟩ (.slice a' l'.length c')) := (Kp.refl _ _).setCell (p := ⟨w.heap.size, 0, none⟩) (by simp) _
    have kA : Kp (w.heap.size :: (Value.slice av nl.length cv).ownBlock.toList) W (w3.setCell ⟨w.heap.size, 0, none⟩ (.slice a' l'.length c')) := (k3.mono (T := w.heap.size :: (Value.slice av nl.length cv).ownBlock.toList) (fun k hk => .inl (by simp only [List.mem_cons]; exact .inr hk))).trans kS (fun k hk => .inl (by rw [List.mem_singleton] at hk; simp [hk]))
    have hmem : ∀ k, k ∈ w.heap.size :: (Value.slice av nl.length cv).ownBlock.toList → k = w.heap.size ∨ (Value.slice av nl.length cv).ownBlock = some k := fun k hk => by
      rcases List.mem_cons.1 hk with h | h
      · exact .inl h
      · exact .inr (by simpa [Option.mem_toList] using h)
    have hr4 : RowN w1.heap.size (w3.setCell ⟨w.heap.size, 0, none⟩ (.slice a' l'.length c')) (.slice a' l'.length c') l' := RowN.kept r3 (fun k hk => kS.block k (RowN.lt r3 k hk).2.1 (by have := (RowN.lt r3 k hk).1; simp; omega))
    have hfin : leftS w1.heap.size (KeepR [w.heap.size + 1, p, mb]) (NamesI xs w1.heap.size w) (fun _ _ _ => False) ⟨sq, i⟩ (Sr.nx ⟨sq, i⟩ x) W .normal { tmps := #[], defers := [] } (w3.setCell ⟨w.heap.size, 0, none⟩ (.slice a' l'.length c')) := by
      refine ⟨⟨kA.size, fun k o hk ho hc => (kA.block k (Array.getElem?_eq_some_iff.1 ho).1 (fun hm => ?_)).trans ho⟩, KeepR.ofKp kA (fun j hj hm => ?_) (fun q hq hm => ?_), .slice a' l'.length c', l', World.cell?_setCell_same _ _ _ cb, by rw [World.frozen?_setCell]; exact fb, hr4, by rw [hl'.out]; exact hHn.out, h5.trans kA (fun k hk => .inr ?_), Nat.le_trans h6 kA.size, by simp only [Sr.nx]; omega, fun q hq => ?_⟩
      · rcases hmem k hm with rfl | h
        · omega
        · obtain ⟨_, _, o', ho', hc'⟩ := h3lt k h
          rw [ho] at ho'; cases ho'; rw [hc] at hc'; cases hc'
      · rcases hmem j hm with rfl | h
        · simp at hj; omega
        · have := (h3lt j h).1; have := hJs j hj; omega
      · have := h8 q hq
        rcases hmem q hm with rfl | h
        · omega
        · exact this.2.2 h
      · rcases hmem k hk with rfl | h
        · exact Nat.le_refl _
        · have := (h3lt k h).1; omega
      · have h9 := h8 q hq
        refine ⟨h9.1, Nat.lt_of_lt_of_le h9.2.1 kA.size, fun e => ?_⟩
        rcases hnew q e with h | h
        · exact h9.2.2 h
        · omega
    clear hr4 kA kS hmem hnew k3 r3 hl' hHn hH4 h8
    gi_wp2_with fail
    exact hfin
  case done =>
    rintro D' ⟨sq, i⟩ W hD' ⟨hsq, hS⟩ ⟨v, nl, h1, h2, h3, h4, h5, h6, h7, h8⟩ hK
    simp only at hS h4
    have hnl : nl = xs.map Ent.name := by rw [h4, hS]; exact List.take_of_length_le (by simp)
    have hkD : Kp [D'] W (W.putObj D' (.deferred none)) := ⟨rfl, rfl, rfl, by simp, fun k hk hn => World.putObj_heap_other (by simpa using hn)⟩
    have kD := h5.trans hkD (fun x hx => .inr (by simp at hx; omega))
    have r3 : RowN w.heap.size (W.putObj D' (.deferred none)) v nl := RowN.low (RowN.kept h3 (fun k hk => hkD.block k (RowN.lt h3 k hk).2.1 (fun hm => by
      rw [List.mem_singleton] at hm
      subst hm
      obtain ⟨_, _, o', ho', hc'⟩ := RowN.lt h3 k hk
      rw [hK] at ho'; cases ho'; cases hc'))) (by omega)
    obtain ⟨av, cv, rfl⟩ := RowN.shape h3
    subst hnl
    have hlen : (xs.map Ent.name).length = xs.length := by simp
    rw [hlen] at r3 h1
    clear h4 h3 hS
    gi_wp2_with fail
    refine ⟨by simp, .inl ⟨_, _, rfl, run_takeDeferred hK, ?_⟩⟩
    exact ⟨_, results_tmp rfl _ _ _, av, cv, rfl, r3, kD⟩
  case stop =>
    rintro D' c s W _ _ h _
    exact h.elim
end Go.Proofs.YtpkoikennimonaaGreatDoor
end

section
namespace Go.Proofs.YtpkoikennimonaaGreatDoor
open Go.RowKit Go.Hay Go.Maps
set_option linter.unusedVariables false
set_option linter.unusedSimpArgs false

def FoundP (x : Ent) (k : Int) (w : World) (e : Ending) (w' : World) : Prop := ∃ b v, e = .returned (.pointer (some ⟨b, 0, none⟩)) ∧ FileAt w' ⟨x.name, b, v, (keptF x.fl k).bytes, (keptF x.fl k).last⟩ ∧ Kp [] w w' ∧ ∀ j ∈ b :: own v, w.heap.size ≤ j
set_option maxHeartbeats 2000000 in
set_option maxRecDepth 100000 in
theorem cFound {w : World} {x : Ent} (hf : FileAt w x) (hle : x.last ≤ x.bytes.length) (hb : x.bytes.length ≤ 140737488355328) (k : Int) (hk0 : -9223372036854775808 ≤ k) (hk1 : k < 9223372036854775808) :
    Calls Tryz.prog 43 #[.pointer (some ⟨x.blk, 0, none⟩), .int .i64 k] w (FoundP x k w) := by
  have c1 := hf.box.c1
  have c0 := hf.box.c0
  obtain ⟨a, c, ev, hsee, hnil, hcap⟩ := Row.parts hf.row
  rw [ev] at c0
  have hxl := hf.box.lt
  obtain ⟨m, hm⟩ : ∃ m : Nat, m = min k.toNat (x.bytes.length - x.last) := ⟨_, rfl⟩
  have hlast : (keptF x.fl k).last = x.last + m := by rw [hm]; rfl
  have hbytes : (keptF x.fl k).bytes = x.bytes.take (x.last + m) := by rw [hm]; rfl
  have hmle : x.last + m ≤ x.bytes.length := by omega
  have hc := cCloneB a c (x.bytes.take (x.last + m)) w.drew (hsee.front _) (fun h => ⟨by rw [(hnil h).1]; simp, (hnil h).2⟩) (by rw [List.length_take]; omega)
  rw [List.length_take, Nat.min_eq_left hmle] at hc
  have hlen : (x.bytes.take (x.last + m)).length = x.last + m := by rw [List.length_take, Nat.min_eq_left hmle]
  have hfin : ∀ a' c' w1, Row w1 (.slice a' (x.last + m) c') (x.bytes.take (x.last + m)) → Kp [] w w1 → (∀ k ∈ blk a', w.heap.size ≤ k) → FoundP x k w (.returned (.pointer (some ⟨w1.heap.size, 0, none⟩))) (w1.alloc (.cells #[.slice a' (x.last + m) c', .int .i64 ((x.last + m : Nat) : Int)] 78)) := fun a' c' w1 hr hk hn => by
    have ka : Kp [] w1 (w1.alloc (.cells #[.slice a' (x.last + m) c', .int .i64 ((x.last + m : Nat) : Int)] 78)) := (Kp.refl _ _).alloc _
    refine ⟨w1.heap.size, .slice a' (x.last + m) c', rfl, ⟨?_, ?_, ?_⟩, hk.trans ka (by simp), fun j hj => ?_⟩
    · rw [hlast]; exact Fx.at _ rfl _
    · rw [hbytes]; exact hr.kept ka (by simp)
    · intro hm'
      exact Nat.lt_irrefl _ (hr.lt _ hm')
    · rcases List.mem_cons.1 hj with rfl | hj
      · exact hk.size
      · rw [own_slice] at hj; exact hn j hj
  go_enter Tryz.func43, Tryz.ntmps43
  have H1 := hid hlen
  have H2 := hid hbytes
  have H3 := hid hlast
  have H4 := hid hm
  have H5 := hid ev
  clear hlen hbytes hlast hm ev hnil hsee
  have e1 : min (max k 0) ((x.bytes.length : Int) - x.last) = (m : Int) := by rw [H4.out]; omega
  go_wp2_with fail
  go_region
  clear e1
  go_wp2_with fail
  refine hc.mono ?_
  rintro e w1 ⟨a', c', rfl, hr, hk', hnew⟩
  rw [H1.out] at hr
  have hf2 := hfin a' c' w1 hr (((Kp.refl [] w).drew).trans hk' (by simp)) hnew
  rw [H1.out]
  clear hfin hr H1 H2 H3 H4 H5
  rw [Int.natCast_add] at hf2
  go_wp2_with fail
  go_ret
  exact hf2
end Go.Proofs.YtpkoikennimonaaGreatDoor
end

section
namespace Go.Hay
open Go.RowKit
set_option linter.unusedVariables false

variable {P : Program} {l n : Nat}
theorem upon_round {o : Oper} {a : Act} {K : Act → World → Prop} {Q : Exit → Act → World → Prop} : ∀ {r : Result Next}, o.upon P a K Q r → o.uponIn (Fence.wide.inRound l) n P a K Q r := by
  intro r h
  have hdep : (Fence.wide.inRound l).depth.isSome = true → 1 ≤ n := fun h => by cases h
  unfold Oper.upon at h
  split at h
  · exact h
  · exact h
  · exact h
  · exact ⟨hdep, callsIn_wide.2 h⟩
  · refine ⟨hdep, fun c cs _ => ?_⟩
    obtain ⟨v, w', hr, hs⟩ := h c cs
    exact ⟨v, w', hr, stepsIn_wide.2 hs⟩
  · exact h
  · exact h.elim
theorem op_round {ops : Array Oper} {i : Nat} {K : Act → World → Prop} {Q : Exit → Act → World → Prop} {a : Act} {w : World} (hnd : ∀ o, ops[i]? = some o → ∀ c, o.op ≠ .defer c) (hlo : ¬ LetsOut Q) (h : wpOp P ops Q i K a w) : wpOpIn (Fence.wide.inRound l) n P ops Q i K a w := by
  unfold wpOp at h
  unfold wpOpIn
  cases ho : ops[i]? with
  | none => rw [ho] at h; exact h
  | some o =>
    rw [ho] at h
    simp only at h ⊢
    split
    · rename_i hw
      rw [if_pos hw] at h
      rcases h with h | h
      · refine ⟨fun _ _ => trivial, ?_⟩
        rw [Oper.semAt_plain _ _ _ (hnd o ho)]
        exact upon_round h
      · exact absurd h.2 hlo
    · rename_i hw
      rw [if_neg hw] at h
      exact ⟨fun _ _ => trivial, h⟩
theorem any_round {ops : Array Oper} {Q : Exit → Act → World → Prop} {S : World → Prop} (hnd : ∀ (i : Nat) (o : Oper), ops[i]? = some o → ∀ c, o.op ≠ .defer c) (hlo : ¬ LetsOut Q) : ∀ (fuel : Nat) (listed : Array Bool) (a : Act) (w : World), wpAnyH P .any ops Q S fuel listed a w → wpAnyIn (Fence.wide.inRound l) n P .any ops Q fuel listed a w
  | 0, _, _, _, h => h
  | fuel + 1, listed, a, w, h => ⟨h.1, fun i hi => op_round (hnd i) hlo (wpOp_mono (fun a w hk => any_round hnd hlo fuel _ a w hk.2) (h.2 i hi))⟩
def noDefer (ops : Array Oper) : Bool := ops.all fun o => match o.op with | .defer _ => false | _ => true
theorem noDefer_spec {ops : Array Oper} (h : noDefer ops = true) (i : Nat) (o : Oper) (ho : ops[i]? = some o) (c : Call) : o.op ≠ .defer c := fun e => by
  have := Array.all_eq_true.1 h i (Array.getElem?_eq_some_iff.1 ho).1
  rw [(Array.getElem?_eq_some_iff.1 ho).2, e] at this
  cases this
theorem region_round {id : Nat} {ops : Array Oper} {Q : Exit → Act → World → Prop} {a : Act} {w : World} (S : World → Prop) (hm : P.follows .mixedOrders = true) (hnd : noDefer ops = true) (hlo : ¬ LetsOut Q) (hS : S w.drew)
    (h : S w.drew → wpAnyH P .any ops Q S ops.size (Array.replicate ops.size false) a w.drew) : (Code.region id ops true).wpIn (Fence.wide.inRound l) n P Q a w :=
  wpIn_region_any hm (any_round (noDefer_spec hnd) hlo _ _ _ _ (h hS))
end Go.Hay
end

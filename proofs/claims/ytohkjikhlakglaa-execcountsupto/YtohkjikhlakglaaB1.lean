/- What memory holds, told of a world: rows of bytes that the calls made, bytes that a slice sees, and which blocks a call may have turned. No statement of the seat is proved here. What the rounds of a range leave alone: blocks. Rows of structs, for any element: how a slice of them lies in memory, how it grows, how it is copied onto itself. No statement of the seat is proved here. Values: what a value is, which is right, which fits a column, how two are ordered; and the calls that make one. How two values are ordered: the program's Compare, the reference's. -/
import Derived.WalkKit
import Derived.WalkSpells
import Derived.Deep.Upon
import Derived.Deep.DeepAppendWide
import Derived.WalkSmall
import Derived.RangeFuncRecord
import Derived.Laws.IdiomCopy
import Derived.Deep.RegionLaw
import Derived.Test.YtohkjikhlakglaaRows
import Derived.Laws.StructEq
import Derived.Handy
import Derived.BigQuiet
import Derived.Deep.QuietTactic
section
namespace Go.Hay
open Go.RowKit

/-- A list of bytes, as cells. -/
def bcells (bs : List UInt8) : List Value := bs.map fun x => .int .u8 x.toNat
theorem bcells_length (bs : List UInt8) : (bcells bs).length = bs.length := by simp [bcells]
theorem bcells_append (a b : List UInt8) : bcells (a ++ b) = bcells a ++ bcells b := by simp [bcells]
theorem bcells_get (bs : List UInt8) (j : Nat) : (bcells bs)[j]? = bs[j]?.map fun x => .int .u8 x.toNat := by simp [bcells]
theorem bcells_one (bs : List UInt8) : ∀ u ∈ bcells bs, u.oneCell' = true := by
  intro u hu
  obtain ⟨x, _, rfl⟩ := List.mem_map.1 hu
  rfl

/-- Only blocks of S may have turned. -/
structure Kp (S : List Nat) (w w' : World) : Prop where
  os : w'.os = w.os
  tape : w'.tape = w.tape
  output : w'.output = w.output
  size : w.heap.size ≤ w'.heap.size
  block : ∀ k, k < w.heap.size → k ∉ S → w'.heap[k]? = w.heap[k]?

theorem Kp.refl (S : List Nat) (w : World) : Kp S w w := ⟨rfl, rfl, rfl, Nat.le_refl _, fun _ _ _ => rfl⟩
/-- Two steps: what the second one may turn is what the first one may, or is new. -/
theorem Kp.trans {S T : List Nat} {a b c : World} (h : Kp S a b) (k : Kp T b c) (hT : ∀ x ∈ T, x ∈ S ∨ a.heap.size ≤ x) : Kp S a c :=
  ⟨k.os.trans h.os, k.tape.trans h.tape, k.output.trans h.output, Nat.le_trans h.size k.size, fun i hi hn =>
    (k.block i (Nat.lt_of_lt_of_le hi h.size) (fun hm => by rcases hT i hm with h1 | h1; exact hn h1; omega)).trans (h.block i hi hn)⟩
theorem Kp.mono {S T : List Nat} {a b : World} (h : Kp S a b) (hT : ∀ x ∈ S, x ∈ T ∨ a.heap.size ≤ x) : Kp T a b :=
  ⟨h.os, h.tape, h.output, h.size, fun i hi hn => h.block i hi (fun hm => by rcases hT i hm with h1 | h1; exact hn h1; omega)⟩
theorem Kp.drew {S : List Nat} {a w : World} (h : Kp S a w) : Kp S a w.drew := ⟨h.os, h.tape, h.output, h.size, h.block⟩
theorem Kp.drewN {S : List Nat} {a w : World} (h : Kp S a w) (n : Nat) : Kp S a (w.drewN n) := ⟨h.os, h.tape, h.output, h.size, h.block⟩
theorem Kp.alloc {S : List Nat} {a w : World} (h : Kp S a w) (o : Obj) : Kp S a (w.alloc o) :=
  ⟨h.os, h.tape, h.output, by have := h.size; simp; omega, fun k hk hn => (Below.heap_alloc w o k (Nat.lt_of_lt_of_le hk h.size)).trans (h.block k hk hn)⟩
theorem Kp.setCell {S : List Nat} {a w : World} (h : Kp S a w) {p : Addr} (hp : p.block ∈ S ∨ a.heap.size ≤ p.block) (u : Value) : Kp S a (w.setCell p u) :=
  ⟨h.os, h.tape, h.output, by have := h.size; simpa [World.setCell] using this, fun k hk hn =>
    (Below.heap_setCell w p u k (fun e => by subst e; rcases hp with h1 | h1; exact hn h1; omega)).trans (h.block k hk hn)⟩
theorem Kp.grown {S : List Nat} {a w w' : World} {row : Option Nat} (h : Kp S a w) (hg : w.grownBy w' row) (hr : ∀ k, row = some k → k ∈ S ∨ a.heap.size ≤ k) : Kp S a w' :=
  ⟨hg.os.trans h.os, hg.tape.trans h.tape, hg.output.trans h.output, Nat.le_trans h.size hg.size, fun k hk hn =>
    (hg.block k (Nat.lt_of_lt_of_le hk h.size) (fun e => by rcases hr k e.symm with h1 | h1; exact hn h1; omega)).trans (h.block k hk hn)⟩
theorem Kp.ofBelow {w w' : World} (h : Below w.heap.size w w') (S : List Nat) : Kp S w w' := ⟨h.os, h.tape, h.output, h.size, fun k hk _ => h.block k hk⟩
theorem Kp.below {w w' : World} (h : Kp [] w w') : Below w.heap.size w w' := ⟨h.os, h.tape, h.output, h.size, fun k hk => h.block k hk (by simp)⟩
theorem Kp.cell {S : List Nat} {w w' : World} (h : Kp S w w') {p : Addr} (hp : p.block < w.heap.size) (hn : p.block ∉ S) : w'.cell? p = w.cell? p := World.cell?_of_block (h.block p.block hp hn)
theorem Kp.frozen {S : List Nat} {w w' : World} (h : Kp S w w') {p : Addr} (hp : p.block < w.heap.size) (hn : p.block ∉ S) : w'.frozen? p = w.frozen? p := World.frozen?_of_block (h.block p.block hp hn)

/-- The block of a row of the call's own, as a list. -/
def own (v : Value) : List Nat := v.ownBlock.toList
theorem mem_own {v : Value} {k : Nat} : k ∈ own v ↔ v.ownBlock = some k := by simp [own, Option.mem_toList]

/-- v is a row of bytes of the calls' own: its cells are there, and none is frozen: it may be written and appended to. -/
def Row (w : World) (v : Value) (bs : List UInt8) : Prop :=
  (v = .slice none 0 0 ∧ bs = []) ∨ ∃ g o cap, v = .slice (some ⟨g, o, none⟩) bs.length cap ∧ bs.length ≤ cap ∧ cap ≤ maxLen ∧ g < w.heap.size ∧
    (∀ j u, bs[j]? = some u → w.cell? ⟨g, o + j, none⟩ = some (.int .u8 u.toNat)) ∧ ∀ j, j < cap → (w.cell? ⟨g, o + j, none⟩).isSome = true ∧ w.frozen? ⟨g, o + j, none⟩ = false
theorem Row.nil (w : World) : Row w (.slice none 0 0) [] := .inl ⟨rfl, rfl⟩
theorem Row.lt {w : World} {v : Value} {bs : List UInt8} (h : Row w v bs) : ∀ k ∈ own v, k < w.heap.size := by
  rcases h with ⟨rfl, _⟩ | ⟨g, o, cap, rfl, _, _, hg, _⟩
  · intro k hk; simp [own, Value.ownBlock] at hk
  · intro k hk; simp [own, Value.ownBlock] at hk; omega
theorem Row.shape {w : World} {v : Value} {bs : List UInt8} (h : Row w v bs) : ∃ a c, v = .slice a bs.length c ∧ bs.length ≤ c := by
  rcases h with ⟨rfl, rfl⟩ | ⟨g, o, cap, rfl, hl, _⟩
  · exact ⟨none, 0, rfl, Nat.le_refl _⟩
  · exact ⟨_, _, rfl, hl⟩
theorem Row.kept {w w' : World} {v : Value} {bs : List UInt8} {S : List Nat} (h : Row w v bs) (hk : Kp S w w') (hn : ∀ k ∈ own v, k ∉ S) : Row w' v bs := by
  rcases h with h | ⟨g, o, cap, rfl, hl, hm, hg, hc, ht⟩
  · exact .inl h
  · have hgS : g ∉ S := hn g (by simp [own, Value.ownBlock])
    have e1 : ∀ j, w'.cell? ⟨g, o + j, none⟩ = w.cell? ⟨g, o + j, none⟩ := fun j => hk.cell (p := ⟨g, o + j, none⟩) hg hgS
    have e2 : ∀ j, w'.frozen? ⟨g, o + j, none⟩ = w.frozen? ⟨g, o + j, none⟩ := fun j => hk.frozen (p := ⟨g, o + j, none⟩) hg hgS
    exact .inr ⟨g, o, cap, rfl, hl, hm, Nat.lt_of_lt_of_le hg hk.size, fun j u hu => (e1 j).trans (hc j u hu), fun j hj => by rw [e1, e2]; exact ht j hj⟩

/-- What a slice's value sees: its first bytes, told by cells. -/
def Sees (w : World) (a : Option Addr) (bs : List UInt8) : Prop :=
  bs = [] ∨ ∃ g o, a = some ⟨g, o, none⟩ ∧ ∀ j u, bs[j]? = some u → w.cell? ⟨g, o + j, none⟩ = some (.int .u8 u.toNat)
theorem Sees.nil (w : World) (a : Option Addr) : Sees w a [] := .inl rfl
/-- The block of an address, as a list. -/
def blk (a : Option Addr) : List Nat := (a.map (·.block)).toList
theorem Sees.lt {w : World} {a : Option Addr} {bs : List UInt8} (h : Sees w a bs) (hb : bs ≠ []) : ∀ k ∈ blk a, k < w.heap.size := by
  rcases h with rfl | ⟨g, o, rfl, hc⟩
  · exact absurd rfl hb
  · intro k hk
    simp [blk] at hk
    subst hk
    cases bs with
    | nil => exact absurd rfl hb
    | cons x r => exact World.block_lt_of_cell? _ _ (hc 0 x rfl)
theorem Sees.kept {w w' : World} {a : Option Addr} {bs : List UInt8} {S : List Nat} (h : Sees w a bs) (hk : Kp S w w') (hn : ∀ k ∈ blk a, k ∉ S) : Sees w' a bs := by
  rcases h with rfl | ⟨g, o, rfl, hc⟩
  · exact .inl rfl
  · exact .inr ⟨g, o, rfl, fun j u hu => (hk.cell (World.block_lt_of_cell? _ _ (hc j u hu)) (hn g (by simp [blk]))).trans (hc j u hu)⟩
theorem Sees.kept' {w w' : World} {a : Option Addr} {bs : List UInt8} {S : List Nat} (h : Sees w a bs) (hk : Kp S w w') (hn : bs ≠ [] → ∀ k ∈ blk a, k ∉ S) : Sees w' a bs := by
  by_cases hb : bs = []
  · exact .inl hb
  · exact h.kept hk (hn hb)
theorem Row.sees {w : World} {v : Value} {bs : List UInt8} (h : Row w v bs) : ∃ a c, v = .slice a bs.length c ∧ Sees w a bs ∧ own v = blk a := by
  rcases h with ⟨rfl, rfl⟩ | ⟨g, o, cap, rfl, hl, hm, hg, hc, ht⟩
  · exact ⟨none, 0, rfl, .inl rfl, rfl⟩
  · exact ⟨_, _, rfl, .inr ⟨g, o, rfl, hc⟩, rfl⟩
theorem Sees.cells {w : World} {g o : Nat} {bs : List UInt8} (hc : ∀ j u, bs[j]? = some u → w.cell? ⟨g, o + j, none⟩ = some (.int .u8 u.toNat)) : ∀ j u, (bcells bs)[j]? = some u → w.cell? ((⟨g, o, none⟩ : Addr).add j) = some u := by
  intro j u hu
  rw [bcells_get] at hu
  rw [Addr.add_lit]
  cases hb : bs[j]? with
  | none => rw [hb] at hu; cases hu
  | some x => rw [hb] at hu; cases hu; exact hc j x hb

/-- Parts of what is seen. -/
theorem Sees.front {w : World} {a : Option Addr} {bs : List UInt8} (h : Sees w a bs) (n : Nat) : Sees w a (bs.take n) := by
  rcases h with rfl | ⟨g, o, rfl, hc⟩
  · exact .inl (by simp)
  · refine .inr ⟨g, o, rfl, fun j u hu => ?_⟩
    rw [List.getElem?_take] at hu
    split at hu
    · exact hc j u hu
    · cases hu
theorem Sees.tail {w : World} {a : Option Addr} {bs : List UInt8} (h : Sees w a bs) (n : Nat) : Sees w (a.map (fun x => x.add n)) (bs.drop n) := by
  rcases h with rfl | ⟨g, o, rfl, hc⟩
  · exact .inl (by simp)
  · refine .inr ⟨g, o + n, by simp [Addr.add_lit], fun j u hu => ?_⟩
    rw [List.getElem?_drop] at hu
    have := hc (n + j) u hu
    rwa [show o + n + j = o + (n + j) by omega]
theorem blk_tail (a : Option Addr) (n : Nat) : blk (a.map (fun x => x.add n)) = blk a := by
  cases a with
  | none => rfl
  | some x =>
    obtain ⟨b, o, s⟩ := x
    simp only [blk, Option.map_some, Addr.add]
    split <;> rfl

theorem tape_setCells (g : Nat) : ∀ (vs : List Value) (o : Nat) (w : World), (w.setCells g o vs).tape = w.tape
  | [], _, _ => rfl
  | v :: r, o, w => by rw [World.setCells, tape_setCells g r]; rfl
theorem size_setCells (g : Nat) : ∀ (vs : List Value) (o : Nat) (w : World), (w.setCells g o vs).heap.size = w.heap.size
  | [], _, _ => rfl
  | v :: r, o, w => by rw [World.setCells, size_setCells g r]; simp [World.setCell]
theorem Kp.setCells {S : List Nat} {a w : World} (h : Kp S a w) {g : Nat} (hg : g ∈ S ∨ a.heap.size ≤ g) : ∀ (vs : List Value) (o : Nat), Kp S a (w.setCells g o vs) := by
  intro vs
  induction vs generalizing w with
  | nil => intro o; exact h
  | cons v r ih => intro o; exact ih (h.setCell (p := ⟨g, o, none⟩) hg v) (o + 1)

section
variable {P : Program} (w : World)
/-- What bytes that a slice sees are, to an append. -/
theorem Sees.src {w : World} {a : Option Addr} {bs : List UInt8} (hs : Sees w a bs) {t : TypeId} (ht : P.underlying t = some (.slice 5)) (c : Nat) : Src P 1 t (.slice a bs.length c) bs.length (bcells bs) w := by
  rcases hs with rfl | ⟨g, o, rfl, hc⟩
  · cases a with
    | none => exact Src.ofNil w ht c
    | some ad => exact Src.ofSlice w ht ad 0 c [] rfl (by intro j u hu; simp at hu) (by intro u hu; simp at hu)
  · exact Src.ofSlice w ht ⟨g, o, none⟩ bs.length c (bcells bs) (by rw [bcells_length]; omega) (Sees.cells hc) (bcells_one bs)

theorem grown_cells (g : Nat) (xs : List UInt8) (z : Array Value) (h : g = w.heap.size) (t : TypeId) : ∀ j u, xs[j]? = some u → (w.alloc (.cells ((bcells xs).toArray ++ z) t)).cell? ⟨g, 0 + j, none⟩ = some (.int .u8 u.toNat) := by
  subst h
  intro j u hu
  have hj : j < xs.length := (List.getElem?_eq_some_iff.1 hu).1
  have e1 : (w.alloc (.cells ((bcells xs).toArray ++ z) t)).cell? ⟨w.heap.size, 0 + j, none⟩ = _ := World.cell?_alloc_new w _ _ (0 + j)
  rw [e1, Nat.zero_add, Array.getElem?_append_left (by simp only [List.size_toArray, bcells_length]; exact hj), List.getElem?_toArray, bcells_get, hu]
  rfl

/-- An append of bytes, out of whatever yields them, onto a row of the call's own. -/
theorem run_append_src (t tx ty : TypeId) (i : TypeInfo) (ht : P.underlying t = some (.slice 5)) (hi : P.info? 5 = some i) (hz : i.zero = some (.int .u8 0)) (hsize : i.size = 1) (hby : i.bytes = 1)
    (v : Value) (xs : List UInt8) (hown : Row w v xs) (x : Value) (bs : List UInt8) (hs : Src P 1 tx x bs.length (bcells bs) w) (hb : xs.length + bs.length ≤ 200000000000000) :
    ∃ v' w', (Builtin.append_ #[t, tx] ty #[v, x]).run P w = .ok v' w' ∧ Row w' v' (xs ++ bs) ∧ Kp (own v) w w' ∧ ∀ k ∈ own v', k ∈ own v ∨ w.heap.size ≤ k := by
  have hs' := hs
  rw [← hsize] at hs'
  -- A NEW ROW
  have grow : ∀ (ao : Option Addr) (cap : Nat), v = .slice ao xs.length cap → cap < xs.length + bs.length → (Builtin.firstCells i.size xs.length (.slice ao xs.length cap)).run P w.drew = .ok (bcells xs).toArray w.drew →
      ∃ v' w', (Builtin.append_ #[t, tx] ty #[v, x]).run P w = .ok v' w' ∧ Row w' v' (xs ++ bs) ∧ Kp (own v) w w' ∧ ∀ k ∈ own v', k ∈ own v ∨ w.heap.size ≤ k := by
    rintro ao cap rfl hlt hold
    have hrun := run_append_grow_src (P := P) w t tx ty 5 i (.int .u8 0) ht hi hz ao xs.length cap (bcells xs) hold x bs.length (bcells bs) hs' hlt (by omega) (growslice_fits_wide hlt (by rw [hby]; omega))
    have hge := grownCap_ge w (xs.length + bs.length) cap 5
    have hcm := grownCap_le_maxLen w (xs.length + bs.length) cap 5 (by unfold maxLen; omega)
    rw [← bcells_append] at hrun
    refine ⟨_, _, hrun, .inr ⟨w.heap.size, 0, _, by rw [List.length_append], by rw [List.length_append]; omega, hcm, by simp, ?_, ?_⟩, (Kp.refl _ w).drew.alloc _, ?_⟩
    · exact grown_cells w.drew _ (xs ++ bs) _ rfl _
    · intro j hj
      refine ⟨?_, World.frozen?_alloc_new w.drew _ _ (0 + j)⟩
      have e1 := World.cell?_alloc_new w.drew ((bcells (xs ++ bs)).toArray ++ Builtin.zeroCells (Value.int .u8 0).cells (grownCap w (xs.length + bs.length) cap 5 - (xs.length + bs.length))) 5 (0 + j)
      have hsz : ((bcells (xs ++ bs)).toArray ++ Builtin.zeroCells (Value.int .u8 0).cells (grownCap w (xs.length + bs.length) cap 5 - (xs.length + bs.length))).size = grownCap w (xs.length + bs.length) cap 5 := by
        rw [Array.size_append, List.size_toArray, bcells_length, List.length_append, size_zeroCells]
        simp [Value.cells]
        omega
      refine (congrArg Option.isSome e1).trans ?_
      rw [Nat.zero_add, Array.getElem?_eq_getElem (by rw [hsz]; exact hj)]
      rfl
    · intro k hk
      simp [own, Value.ownBlock] at hk
      omega
  rcases hown with ⟨rfl, rfl⟩ | ⟨g, o, cap, rfl, hl, hm, hg, hc, ht'⟩
  · rcases Nat.eq_zero_or_pos bs.length with h0 | h0
    · obtain rfl : bs = [] := List.length_eq_zero_iff.1 h0
      exact ⟨_, _, run_append_nothing (P := P) w t tx ty 5 i ht hi none 0 0 (Nat.le_refl _) x hs', .inl ⟨rfl, rfl⟩, Kp.refl _ _, fun _ h => .inl h⟩
    · exact grow none 0 rfl (by simpa using h0) (run_firstCells_none w.drew i.size 0 0 0)
  · by_cases hroom : xs.length + bs.length ≤ cap
    · have hsome : ∀ j, j < (bcells bs).length → (w.cell? ⟨g, o + xs.length * i.size + j, none⟩).isSome = true := fun j hj => by
        rw [bcells_length] at hj; rw [hsize, Nat.mul_one, Nat.add_assoc]; exact (ht' (xs.length + j) (by omega)).1
      have hrun := run_append_room_src (P := P) w t tx ty 5 i ht hi g o xs.length cap x bs.length (bcells bs) hs' hroom hsome
        (fun j hj => by rw [bcells_length] at hj; rw [hsize, Nat.mul_one, Nat.add_assoc]; exact (ht' (xs.length + j) (by omega)).2)
      rw [hsize, Nat.mul_one] at hsome
      rw [hsize, Nat.mul_one] at hrun
      refine ⟨_, _, hrun, .inr ⟨g, o, cap, by rw [List.length_append], by rw [List.length_append]; omega, hm, by rw [size_setCells]; exact hg, ?_, ?_⟩, (Kp.refl _ w).setCells (by simp [own, Value.ownBlock]) _ _, fun k hk => .inl hk⟩
      · intro j u hu
        by_cases hj : j < xs.length
        · rw [World.cell?_setCells_out g _ _ _ _ (fun _ _ => Or.inl (by show o + j < o + xs.length; omega))]
          rw [List.getElem?_append_left hj] at hu
          exact hc j u hu
        · rw [List.getElem?_append_right (by omega)] at hu
          have hj2 : j - xs.length < bs.length := (List.getElem?_eq_some_iff.1 hu).1
          have := World.cell?_setCells_in g (bcells bs) (o + xs.length) w hsome (j - xs.length) (by rw [bcells_length]; exact hj2)
          rw [show o + xs.length + (j - xs.length) = o + j by omega, ← List.getElem?_eq_getElem (by rw [bcells_length]; exact hj2), bcells_get, hu] at this
          exact this
      · intro j hj
        refine ⟨?_, (World.frozen?_setCells g _ _ _ _).trans (ht' j hj).2⟩
        by_cases hin : xs.length ≤ j ∧ j < xs.length + bs.length
        · have := World.cell?_setCells_in g (bcells bs) (o + xs.length) w hsome (j - xs.length) (by rw [bcells_length]; omega)
          rw [show o + xs.length + (j - xs.length) = o + j by omega] at this
          rw [this]; rfl
        · rw [World.cell?_setCells_out g _ _ _ _ (fun _ _ => by rw [bcells_length]; show o + j < o + xs.length ∨ o + xs.length + bs.length ≤ o + j; omega)]
          exact (ht' j hj).1
    · refine grow (some ⟨g, o, none⟩) cap rfl (by omega) ?_
      exact run_firstCells_some w.drew i.size xs.length ⟨g, o, none⟩ xs.length cap (bcells xs) (by rw [bcells_length, hsize]; omega) (by simpa using Sees.cells (w := w.drew) hc)

/-- .. for the walk. -/
theorem wpList_append_src {ops : Array Oper} {rest : List Oper} {o : Oper} {a : Act} {Q : Exit → Act → World → Prop} (hgd : o.guard = none) (s x : Operand) (t tx : TypeId)
    (ho : o.op = .call { callee := .builtin .append, args := #[s, x], argTypes := #[t, tx] })
    (i : TypeInfo) (ht : P.underlying t = some (.slice 5)) (hi : P.info? 5 = some i) (hz : i.zero = some (.int .u8 0)) (hsize : i.size = 1) (hby : i.bytes = 1)
    (v : Value) (xs : List UInt8) (hv : a.eval s = v) (hown : Row w v xs) (xv : Value) (bs : List UInt8) (hx : a.eval x = xv) (hs : Src P 1 tx xv bs.length (bcells bs) w) (hb : xs.length + bs.length ≤ 200000000000000)
    (hK : ∀ v' w', Row w' v' (xs ++ bs) → Kp (own v) w w' → (∀ k ∈ own v', k ∈ own v ∨ w.heap.size ≤ k) → wpList P ops Q rest (a.put o.dst v') w') : wpList P ops Q (o :: rest) a w := by
  refine wpList_plain hgd fun K hK' => ?_
  obtain ⟨v', w', hrun, h1, h2, h3⟩ := run_append_src (P := P) w t tx o.type i ht hi hz hsize hby v xs hown xv bs hs hb
  unfold Oper.wp
  simp [execOp, ho, resolve, invoke, builtin, hv, hx, hrun, Result.andThen]
  exact hK' _ _ (hK v' w' h1 h2 h3)
end

/-- A Writer lies in block p: its one cell holds v, a row of the bytes bs. -/
structure Wr (w : World) (p : Nat) (v : Value) (bs : List UInt8) : Prop where
  cell : w.cell? ⟨p, 0, none⟩ = some v
  free : w.frozen? ⟨p, 0, none⟩ = false
  row : Row w v bs
  apart : p ∉ own v
theorem Wr.lt {w : World} {p : Nat} {v : Value} {bs : List UInt8} (h : Wr w p v bs) : p < w.heap.size := World.block_lt_of_cell? _ _ h.cell
theorem Wr.kept {w w' : World} {p : Nat} {v : Value} {bs : List UInt8} {S : List Nat} (h : Wr w p v bs) (hk : Kp S w w') (hn : ∀ k ∈ p :: own v, k ∉ S) : Wr w' p v bs :=
  ⟨(hk.cell h.lt (hn p (by simp))).trans h.cell, (hk.frozen h.lt (hn p (by simp))).trans h.free, h.row.kept hk (fun k hk' => hn k (by simp [hk'])), h.apart⟩
theorem Wr.keptNew {w w' : World} {p : Nat} {v : Value} {bs : List UInt8} (h : Wr w p v bs) (hk : Kp [] w w') : Wr w' p v bs := h.kept hk (by simp)

/-- What a writer's call may turn: the writer's own cell and row; the row behind it is that one, or new. -/
structure Wrote (p : Nat) (v : Value) (w : World) (v' : Value) (w' : World) : Prop where
  kp : Kp (p :: own v) w w'
  new : ∀ k ∈ own v', k ∈ own v ∨ w.heap.size ≤ k
theorem Wrote.refl (p : Nat) (v : Value) (w : World) : Wrote p v w v w := ⟨Kp.refl _ _, fun _ h => .inl h⟩
theorem Wrote.trans {p : Nat} {v v1 v2 : Value} {w w1 w2 : World} (h : Wrote p v w v1 w1) (k : Wrote p v1 w1 v2 w2) : Wrote p v w v2 w2 :=
  ⟨h.kp.trans k.kp (fun x hx => by
      rcases List.mem_cons.1 hx with rfl | hx
      · simp
      · rcases h.new x hx with h1 | h1
        · simp [h1]
        · exact .inr h1),
   fun x hx => by
      rcases k.new x hx with h1 | h1
      · exact h.new x h1
      · exact .inr (Nat.le_trans h.kp.size h1)⟩
theorem Wrote.pre {p : Nat} {v v1 : Value} {w w0 w1 : World} (h : Kp [] w w0) (k : Wrote p v w0 v1 w1) : Wrote p v w v1 w1 :=
  ⟨(h.mono (T := p :: own v) (by simp)).trans k.kp (fun _ hx => .inl hx), fun x hx => (k.new x hx).imp id (Nat.le_trans h.size)⟩
theorem Wrote.post {p : Nat} {v v1 : Value} {w w1 w2 : World} (h : Wrote p v w v1 w1) (k : Kp [] w1 w2) : Wrote p v w v1 w2 :=
  ⟨h.kp.trans k (by simp), h.new⟩

/-- Behind an append onto the writer's row, and the store of the row into its cell. -/
theorem Wr.stored {w w0 w1 : World} {p : Nat} {v v' : Value} {bs bs' : List UInt8} (h : Wr w p v bs) (h0 : Kp [] w w0) (hr : Row w1 v' bs') (hg : Kp (own v) w0 w1) (hnew : ∀ k ∈ own v', k ∈ own v ∨ w0.heap.size ≤ k) :
    w1.cell? ⟨p, 0, none⟩ = some v ∧ w1.frozen? ⟨p, 0, none⟩ = false ∧ Wr (w1.setCell ⟨p, 0, none⟩ v') p v' bs' ∧ Wrote p v w v' (w1.setCell ⟨p, 0, none⟩ v') := by
  have hlt := h.lt
  have hnew' : ∀ k ∈ own v', k ∈ own v ∨ w.heap.size ≤ k := fun k hk => (hnew k hk).imp id (Nat.le_trans h0.size)
  have k1 : Kp (own v) w w1 := (h0.mono (T := own v) (by simp)).trans hg (fun _ hx => .inl hx)
  have hpv : p ∉ own v := h.apart
  have hpv' : p ∉ own v' := fun hp => by rcases hnew' p hp with h1 | h1; exact hpv h1; omega
  have c1 : w1.cell? ⟨p, 0, none⟩ = some v := (k1.cell hlt hpv).trans h.cell
  have f1 : w1.frozen? ⟨p, 0, none⟩ = false := (k1.frozen hlt hpv).trans h.free
  have k2 : Kp [p] w1 (w1.setCell ⟨p, 0, none⟩ v') := (Kp.refl [p] w1).setCell (by simp) _
  refine ⟨c1, f1, ⟨World.cell?_setCell_same _ _ _ c1, ?_, hr.kept k2 (fun k hk e => ?_), hpv'⟩, ⟨?_, hnew'⟩⟩
  · rw [World.frozen?_setCell]; exact f1
  · rw [List.mem_singleton] at e; subst e; exact hpv' hk
  · exact (k1.mono (T := p :: own v) (fun x hx => .inl (by simp [hx]))).setCell (by simp) _

theorem Sees.new (w : World) (C : Array Value) (t : TypeId) (fr : Nat × Nat) (bs : List UInt8) (h : C.toList = bcells bs) : Sees (w.alloc (.cells C t fr)) (some ⟨w.heap.size, 0, none⟩) bs := by
  refine .inr ⟨w.heap.size, 0, rfl, fun j u hu => ?_⟩
  have e : (w.alloc (.cells C t fr)).heap[w.heap.size]? = some (.cells C t fr) := by show (w.heap.push (.cells C t fr))[w.heap.size]? = _; simp
  have e2 : (w.alloc (.cells C t fr)).cell? ⟨w.heap.size, 0 + j, none⟩ = C[0 + j]? := by unfold World.cell?; rw [e]; rfl
  rw [e2, Nat.zero_add, ← Array.getElem?_toList, h, bcells_get, hu]
  rfl
/-- A writer of the call's own, at work: nothing that was there turns. -/
theorem stepW {w wn wm : World} {p : Nat} {v v' : Value} (kw : Kp [] w wn) (hp : w.heap.size ≤ p) (ho : ∀ k ∈ own v, w.heap.size ≤ k) (hr : Wrote p v wn v' wm) : Kp [] w wm ∧ ∀ k ∈ own v', w.heap.size ≤ k :=
  ⟨kw.trans hr.kp (fun x hx => .inr (by rcases List.mem_cons.1 hx with rfl | hx; exact hp; exact ho x hx)), fun k hk => by
    rcases hr.new k hk with h1 | h1
    · exact ho k h1
    · exact Nat.le_trans kw.size h1⟩
/-- A reader of the call's own, at work. -/
theorem stepR {w wn wm : World} {p : Nat} (kw : Kp [] w wn) (hp : w.heap.size ≤ p) (hr : Kp [p] wn wm) : Kp [] w wm :=
  kw.trans hr (fun x hx => .inr (by rw [List.mem_singleton] at hx; omega))
theorem Sees.set {w : World} {g o : Nat} {bs : List UInt8} (hc : ∀ j u, bs[j]? = some u → w.cell? ⟨g, o + j, none⟩ = some (.int .u8 u.toNat)) (i : Nat) (y : UInt8) (hi : i < bs.length) :
    Sees (w.setCell ⟨g, o + i, none⟩ (.int .u8 y.toNat)) (some ⟨g, o, none⟩) (bs.set i y) := by
  refine .inr ⟨g, o, rfl, fun j u hu => ?_⟩
  by_cases hj : j = i
  · subst hj
    rw [List.getElem?_set_self hi] at hu
    cases hu
    exact World.cell?_setCell_same _ _ _ (hc j bs[j] (by simp [hi]))
  · rw [List.getElem?_set_ne (fun h => hj h.symm)] at hu
    rw [World.cell?_setCell_other _ _ _ _ (by intro h; simp only [Addr.mk.injEq] at h; omega)]
    exact hc j u hu
theorem Sees.drew {w : World} {a : Option Addr} {bs : List UInt8} (h : Sees w a bs) : Sees w.drew a bs := h
/-- An append onto a row of the call's own. -/
theorem stepA {w wn wm : World} {v v' : Value} (kw : Kp [] w wn) (ho : ∀ k ∈ own v, w.heap.size ≤ k) (hk : Kp (own v) wn wm) (hn : ∀ k ∈ own v', k ∈ own v ∨ wn.heap.size ≤ k) : Kp [] w wm ∧ ∀ k ∈ own v', w.heap.size ≤ k :=
  ⟨kw.trans hk (fun x hx => .inr (ho x hx)), fun k hk' => by
    rcases hn k hk' with h1 | h1
    · exact ho k h1
    · exact Nat.le_trans kw.size h1⟩
theorem ret_int {k : IntKind} {a b : Int} (h : a = b) : Ending.returned (.int k a) = .returned (.int k b) := by rw [h]
theorem hid {p : Prop} (h : p) : Hid p := h
end Go.Hay
end

section
namespace Go.Proofs.Ytohkjikhlakglaa
open Go.RowKit Go.Hay
set_option linter.unusedVariables false

/-- What the rounds leave alone: the blocks Js. -/
def KeepB (Js : List Nat) (A B : World) : Prop := A.heap.size ≤ B.heap.size ∧ ∀ k ∈ Js, ∀ o, A.heap[k]? = some o → B.heap[k]? = some o
theorem KeepB.trans {Js : List Nat} {A B C : World} (h : KeepB Js A B) (k : KeepB Js B C) : KeepB Js A C := ⟨Nat.le_trans h.1 k.1, fun j hj o ho => k.2 j hj o (h.2 j hj o ho)⟩
theorem KeepB.refl (Js : List Nat) (A : World) : KeepB Js A A := ⟨Nat.le_refl _, fun _ _ _ h => h⟩
theorem KeepB.ofKp {Js S : List Nat} {A B : World} (hk : Kp S A B) (hJ : ∀ j ∈ Js, j ∉ S) : KeepB Js A B := ⟨hk.size, fun j hj o ho => (hk.block j (Array.getElem?_eq_some_iff.1 ho).1 (hJ j hj)).trans ho⟩
theorem KeepB.cell {Js : List Nat} {A B : World} (h : KeepB Js A B) {g j : Nat} (hg : g ∈ Js) {v : Value} (hc : A.cell? ⟨g, j, none⟩ = some v) : B.cell? ⟨g, j, none⟩ = some v := by
  have hl := World.block_lt_of_cell? _ _ hc
  have e : A.heap[g]? = some A.heap[g] := by simp at hl; simp [hl]
  exact (World.cell?_of_block (a := ⟨g, j, none⟩) ((h.2 g hg _ e).trans e.symm)).trans hc
theorem KeepB.alloc (Js : List Nat) (W : World) (o : Obj) : KeepB Js W (W.alloc o) := ⟨by simp, fun k _ o' ho => (Below.heap_alloc W o k (Array.getElem?_eq_some_iff.1 ho).1).trans ho⟩
theorem KeepB.putObj {Js : List Nat} {B : Nat} (hB : ∀ j ∈ Js, j < B) (W : World) (l : Nat) (o' : Obj) (hl : B ≤ l) : KeepB Js W (W.putObj l o') :=
  ⟨by simp, fun k hk o'' h'' => (World.putObj_heap_other (by have := hB k hk; omega)).trans h''⟩
end Go.Proofs.Ytohkjikhlakglaa
end

section
namespace Go.Hay
open Go.RowKit

/-- How an element lies in cells. -/
structure El (α : Type) where
  n : Nat
  c : α → List Value
  len : ∀ x, (c x).length = n
  one : ∀ x, ∀ u ∈ c x, u.oneCell' = true
  pos : 0 < n
section
variable {α : Type} (E : El α)
def El.cs (l : List α) : List Value := l.flatMap E.c
theorem El.cs_cons (x : α) (l : List α) : E.cs (x :: l) = E.c x ++ E.cs l := rfl
theorem El.cs_append (a b : List α) : E.cs (a ++ b) = E.cs a ++ E.cs b := by simp [El.cs]
theorem El.cs_length (l : List α) : (E.cs l).length = l.length * E.n := by
  induction l with
  | nil => simp [El.cs]
  | cons x l ih => rw [El.cs_cons, List.length_append, E.len, ih, List.length_cons, Nat.succ_mul]; omega
theorem El.cs_one (l : List α) : ∀ u ∈ E.cs l, u.oneCell' = true := by
  intro u hu
  obtain ⟨x, _, hx⟩ := List.mem_flatMap.1 hu
  exact E.one x u hx
theorem El.cs_drop (l : List α) : ∀ i, E.cs (l.drop i) = (E.cs l).drop (i * E.n) := by
  induction l with
  | nil => intro i; simp [El.cs]
  | cons x l ih =>
    intro i
    cases i with
    | zero => simp
    | succ i =>
      rw [List.drop_succ_cons, ih i, El.cs_cons, Nat.succ_mul, Nat.add_comm, ← List.drop_drop, List.drop_left' (E.len x)]
theorem El.cs_take (l : List α) : ∀ i, E.cs (l.take i) = (E.cs l).take (i * E.n) := by
  induction l with
  | nil => intro i; simp [El.cs]
  | cons x l ih =>
    intro i
    cases i with
    | zero => simp [El.cs]
    | succ i =>
      rw [List.take_succ_cons, El.cs_cons, ih i, El.cs_cons, Nat.succ_mul, Nat.add_comm, List.take_append, E.len, List.take_of_length_le (l := E.c x) (by rw [E.len]; omega), Nat.add_sub_cancel_left]
theorem El.cs_get {l : List α} {j k : Nat} {x : α} (h : l[j]? = some x) (hk : k < E.n) : (E.cs l)[j * E.n + k]? = (E.c x)[k]? := by
  have e := El.cs_drop E l j
  have hl : l.drop j = x :: l.drop (j + 1) := by
    obtain ⟨h1, rfl⟩ := List.getElem?_eq_some_iff.1 h
    exact List.drop_eq_getElem_cons h1
  rw [hl, El.cs_cons] at e
  have : (E.cs l)[j * E.n + k]? = ((E.cs l).drop (j * E.n))[k]? := by rw [List.getElem?_drop]
  rw [this, ← e, List.getElem?_append_left (by rw [E.len]; exact hk)]

/-- What a slice of elements sees. -/
def El.See (w : World) (a : Option Addr) (l : List α) : Prop :=
  l = [] ∨ ∃ g o, a = some ⟨g, o, none⟩ ∧ ∀ j u, (E.cs l)[j]? = some u → w.cell? ⟨g, o + j, none⟩ = some u
variable {E}
theorem El.See.nil (w : World) (a : Option Addr) : E.See w a [] := .inl rfl
theorem El.See.kept {w w' : World} {a : Option Addr} {l : List α} {S : List Nat} (h : E.See w a l) (hk : Kp S w w') (hn : l ≠ [] → ∀ k ∈ blk a, k ∉ S) : E.See w' a l := by
  rcases h with rfl | ⟨g, o, rfl, hc⟩
  · exact .inl rfl
  · by_cases hl : l = []
    · exact .inl hl
    · exact .inr ⟨g, o, rfl, fun j u hu => (hk.cell (World.block_lt_of_cell? _ _ (hc j u hu)) (hn hl g (by simp [blk]))).trans (hc j u hu)⟩
theorem El.See.keptNew {w w' : World} {a : Option Addr} {l : List α} (h : E.See w a l) (hk : Kp [] w w') : E.See w' a l := h.kept hk (by simp)
theorem El.See.at {w : World} {a : Option Addr} {l : List α} (h : E.See w a l) {j : Nat} {x : α} (hx : l[j]? = some x) : ∃ g o, a = some ⟨g, o, none⟩ ∧ ∀ k u, (E.c x)[k]? = some u → w.cell? ⟨g, o + j * E.n + k, none⟩ = some u := by
  rcases h with rfl | ⟨g, o, rfl, hc⟩
  · simp at hx
  · refine ⟨g, o, rfl, fun k u hu => ?_⟩
    have hk : k < E.n := by have := (List.getElem?_eq_some_iff.1 hu).1; rwa [E.len] at this
    rw [Nat.add_assoc]
    exact hc _ _ ((El.cs_get E hx hk).trans hu)
theorem El.See.lt {w : World} {a : Option Addr} {l : List α} (h : E.See w a l) (hl : l ≠ []) : ∀ k ∈ blk a, k < w.heap.size := by
  cases l with
  | nil => exact absurd rfl hl
  | cons x l =>
    obtain ⟨g, o, rfl, hc⟩ := h.at (j := 0) (x := x) rfl
    intro k hk
    simp [blk] at hk
    subst hk
    have h0 : 0 < (E.c x).length := by rw [E.len]; exact E.pos
    exact World.block_lt_of_cell? _ _ (hc 0 _ (List.getElem?_eq_getElem h0))
theorem El.See.src {P : Program} {w : World} {a : Option Addr} {l : List α} (h : E.See w a l) {t e : TypeId} (ht : P.underlying t = some (.slice e)) (c : Nat) : Src P E.n t (.slice a l.length c) l.length (E.cs l) w := by
  rcases h with rfl | ⟨g, o, rfl, hc⟩
  · cases a with
    | none => exact Src.ofNil w ht c
    | some ad => exact Src.ofSlice w ht ad 0 c [] (by simp) (by intro j u hu; simp at hu) (by intro u hu; simp at hu)
  · exact Src.ofSlice w ht ⟨g, o, none⟩ l.length c (E.cs l) (El.cs_length E l) (fun j u hu => by rw [Addr.add_lit]; exact hc j u hu) (El.cs_one E l)
theorem El.See.front {w : World} {a : Option Addr} {l : List α} (h : E.See w a l) (i : Nat) : E.See w a (l.take i) := by
  rcases h with rfl | ⟨g, o, rfl, hc⟩
  · exact .inl (by simp)
  · refine .inr ⟨g, o, rfl, fun j u hu => ?_⟩
    rw [El.cs_take, List.getElem?_take] at hu
    split at hu
    · exact hc j u hu
    · cases hu

variable (E)
/-- A row of elements of the calls' own: its cells are there, none is frozen. -/
def El.Row (w : World) (v : Value) (l : List α) : Prop :=
  (v = .slice none 0 0 ∧ l = []) ∨ ∃ g o cap, v = .slice (some ⟨g, o, none⟩) l.length cap ∧ l.length ≤ cap ∧ cap ≤ maxLen ∧ g < w.heap.size ∧
    (∀ j u, (E.cs l)[j]? = some u → w.cell? ⟨g, o + j, none⟩ = some u) ∧ ∀ j, j < cap * E.n → (w.cell? ⟨g, o + j, none⟩).isSome = true ∧ w.frozen? ⟨g, o + j, none⟩ = false
variable {E}
theorem El.Row.nil (w : World) : E.Row w (.slice none 0 0) [] := .inl ⟨rfl, rfl⟩
theorem El.Row.lt {w : World} {v : Value} {l : List α} (h : E.Row w v l) : ∀ k ∈ own v, k < w.heap.size := by
  rcases h with ⟨rfl, _⟩ | ⟨g, o, cap, rfl, _, _, hg, _⟩
  · intro k hk; simp [own, Value.ownBlock] at hk
  · intro k hk; simp [own, Value.ownBlock] at hk; omega
theorem El.Row.see {w : World} {v : Value} {l : List α} (h : E.Row w v l) : ∃ a c, v = .slice a l.length c ∧ E.See w a l ∧ (a = none → l = [] ∧ c = 0) ∧ l.length ≤ c ∧ c ≤ maxLen ∧ own v = blk a := by
  rcases h with ⟨rfl, rfl⟩ | ⟨g, o, cap, rfl, hl, hm, hg, hc, ht⟩
  · exact ⟨none, 0, rfl, .inl rfl, fun _ => ⟨rfl, rfl⟩, Nat.le_refl _, Nat.zero_le _, rfl⟩
  · exact ⟨_, _, rfl, .inr ⟨g, o, rfl, hc⟩, fun h => (by cases h), hl, hm, rfl⟩
theorem El.Row.kept {w w' : World} {v : Value} {l : List α} {S : List Nat} (h : E.Row w v l) (hk : Kp S w w') (hn : ∀ k ∈ own v, k ∉ S) : E.Row w' v l := by
  rcases h with h | ⟨g, o, cap, rfl, hl, hm, hg, hc, ht⟩
  · exact .inl h
  · have hgS : g ∉ S := hn g (by simp [own, Value.ownBlock])
    have e1 : ∀ j, w'.cell? ⟨g, o + j, none⟩ = w.cell? ⟨g, o + j, none⟩ := fun j => hk.cell (p := ⟨g, o + j, none⟩) hg hgS
    have e2 : ∀ j, w'.frozen? ⟨g, o + j, none⟩ = w.frozen? ⟨g, o + j, none⟩ := fun j => hk.frozen (p := ⟨g, o + j, none⟩) hg hgS
    exact .inr ⟨g, o, cap, rfl, hl, hm, Nat.lt_of_lt_of_le hg hk.size, fun j u hu => (e1 j).trans (hc j u hu), fun j hj => by rw [e1, e2]; exact ht j hj⟩
theorem El.Row.keptNew {w w' : World} {v : Value} {l : List α} (h : E.Row w v l) (hk : Kp [] w w') : E.Row w' v l := h.kept hk (by simp)

theorem grown_cellsG (w : World) (g : Nat) (xs : List Value) (z : Array Value) (h : g = w.heap.size) (t : TypeId) : ∀ j u, xs[j]? = some u → (w.alloc (.cells (xs.toArray ++ z) t)).cell? ⟨g, 0 + j, none⟩ = some u := by
  subst h
  intro j u hu
  have hj : j < xs.length := (List.getElem?_eq_some_iff.1 hu).1
  have e1 : (w.alloc (.cells (xs.toArray ++ z) t)).cell? ⟨w.heap.size, 0 + j, none⟩ = _ := World.cell?_alloc_new w _ _ (0 + j)
  rw [e1, Nat.zero_add, Array.getElem?_append_left (by simp only [List.size_toArray]; exact hj), List.getElem?_toArray, hu]

/-- An append of elements, out of whatever yields them, onto a row of the call's own. -/
theorem run_appendG {P : Program} (w : World) (t tx ty e : TypeId) (i : TypeInfo) (z : Value) (bytes : Nat) (ht : P.underlying t = some (.slice e)) (hi : P.info? e = some i) (hz : i.zero = some z) (hsize : i.size = E.n) (hby : i.bytes = bytes) (hzs : z.cells.size = E.n)
    (v : Value) (xs : List α) (hown : E.Row w v xs) (x : Value) (bs : List α) (hs : Src P E.n tx x bs.length (E.cs bs) w) (hb : (xs.length + bs.length + (xs.length + bs.length) / 4 + 192) * bytes ≤ 281474976710656) (h63 : xs.length + bs.length ≤ 100000000000000) :
    ∃ v' w', (Builtin.append_ #[t, tx] ty #[v, x]).run P w = .ok v' w' ∧ E.Row w' v' (xs ++ bs) ∧ Kp (own v) w w' ∧ ∀ k ∈ own v', k ∈ own v ∨ w.heap.size ≤ k := by
  have hs' := hs
  rw [← hsize] at hs'
  have grow : ∀ (ao : Option Addr) (cap : Nat), v = .slice ao xs.length cap → cap < xs.length + bs.length → (Builtin.firstCells i.size xs.length (.slice ao xs.length cap)).run P w.drew = .ok (E.cs xs).toArray w.drew →
      ∃ v' w', (Builtin.append_ #[t, tx] ty #[v, x]).run P w = .ok v' w' ∧ E.Row w' v' (xs ++ bs) ∧ Kp (own v) w w' ∧ ∀ k ∈ own v', k ∈ own v ∨ w.heap.size ≤ k := by
    rintro ao cap rfl hlt hold
    have hrun := run_append_grow_src (P := P) w t tx ty e i z ht hi hz ao xs.length cap (E.cs xs) hold x bs.length (E.cs bs) hs' hlt (by omega) (growslice_fits_wide hlt (by rw [hby]; exact hb))
    have hge := grownCap_ge w (xs.length + bs.length) cap e
    have hcm := grownCap_le_maxLen w (xs.length + bs.length) cap e (by unfold maxLen; omega)
    rw [← El.cs_append] at hrun
    refine ⟨_, _, hrun, .inr ⟨w.heap.size, 0, _, by rw [List.length_append], by rw [List.length_append]; omega, hcm, by simp, ?_, ?_⟩, (Kp.refl _ w).drew.alloc _, ?_⟩
    · exact grown_cellsG w.drew _ (E.cs (xs ++ bs)) _ rfl _
    · intro j hj
      refine ⟨?_, World.frozen?_alloc_new w.drew _ _ (0 + j)⟩
      have e1 := World.cell?_alloc_new w.drew ((E.cs (xs ++ bs)).toArray ++ Builtin.zeroCells z.cells (grownCap w (xs.length + bs.length) cap e - (xs.length + bs.length))) e (0 + j)
      have hsz : ((E.cs (xs ++ bs)).toArray ++ Builtin.zeroCells z.cells (grownCap w (xs.length + bs.length) cap e - (xs.length + bs.length))).size = grownCap w (xs.length + bs.length) cap e * E.n := by
        rw [Array.size_append, List.size_toArray, El.cs_length, List.length_append, size_zeroCells, hzs, ← Nat.add_mul]
        congr 1
        omega
      refine (congrArg Option.isSome e1).trans ?_
      rw [Nat.zero_add, Array.getElem?_eq_getElem (by rw [hsz]; exact hj)]
      rfl
    · intro k hk
      simp [own, Value.ownBlock] at hk
      omega
  rcases hown with ⟨rfl, rfl⟩ | ⟨g, o, cap, rfl, hl, hm, hg, hc, ht'⟩
  · rcases Nat.eq_zero_or_pos bs.length with h0 | h0
    · obtain rfl : bs = [] := List.length_eq_zero_iff.1 h0
      exact ⟨_, _, run_append_nothing (P := P) w t tx ty e i ht hi none 0 0 (Nat.le_refl _) x hs', .inl ⟨rfl, rfl⟩, Kp.refl _ _, fun _ h => .inl h⟩
    · exact grow none 0 rfl (by simpa using h0) (run_firstCells_none w.drew i.size 0 0 0)
  · by_cases hroom : xs.length + bs.length ≤ cap
    · have hmul : (xs.length + bs.length) * E.n ≤ cap * E.n := Nat.mul_le_mul_right _ hroom
      rw [Nat.add_mul] at hmul
      have hsome : ∀ j, j < (E.cs bs).length → (w.cell? ⟨g, o + xs.length * i.size + j, none⟩).isSome = true := fun j hj => by
        rw [El.cs_length] at hj; rw [hsize, Nat.add_assoc]; exact (ht' _ (by omega)).1
      have hrun := run_append_room_src (P := P) w t tx ty e i ht hi g o xs.length cap x bs.length (E.cs bs) hs' hroom hsome
        (fun j hj => by rw [El.cs_length] at hj; rw [hsize, Nat.add_assoc]; exact (ht' _ (by omega)).2)
      rw [hsize] at hsome
      rw [hsize] at hrun
      refine ⟨_, _, hrun, .inr ⟨g, o, cap, by rw [List.length_append], by rw [List.length_append]; omega, hm, by rw [size_setCells]; exact hg, ?_, ?_⟩, (Kp.refl _ w).setCells (by simp [own, Value.ownBlock]) _ _, fun k hk => .inl hk⟩
      · intro j u hu
        rw [El.cs_append] at hu
        by_cases hj : j < (E.cs xs).length
        · rw [World.cell?_setCells_out g _ _ _ _ (fun _ _ => Or.inl (by show o + j < o + xs.length * E.n; rw [El.cs_length] at hj; omega))]
          rw [List.getElem?_append_left hj] at hu
          exact hc j u hu
        · rw [List.getElem?_append_right (by omega)] at hu
          have hj2 : j - (E.cs xs).length < (E.cs bs).length := (List.getElem?_eq_some_iff.1 hu).1
          have := World.cell?_setCells_in g (E.cs bs) (o + xs.length * E.n) w hsome (j - (E.cs xs).length) hj2
          rw [← List.getElem?_eq_getElem hj2, hu] at this
          rw [El.cs_length] at hj this
          rw [show o + xs.length * E.n + (j - xs.length * E.n) = o + j by omega] at this
          exact this
      · intro j hj
        refine ⟨?_, (World.frozen?_setCells g _ _ _ _).trans (ht' j hj).2⟩
        by_cases hin : xs.length * E.n ≤ j ∧ j < xs.length * E.n + (E.cs bs).length
        · have := World.cell?_setCells_in g (E.cs bs) (o + xs.length * E.n) w hsome (j - xs.length * E.n) (by omega)
          rw [show o + xs.length * E.n + (j - xs.length * E.n) = o + j by omega] at this
          rw [this]; rfl
        · rw [World.cell?_setCells_out g _ _ _ _ (fun _ _ => by show o + j < o + xs.length * E.n ∨ o + xs.length * E.n + (E.cs bs).length ≤ o + j; omega)]
          exact (ht' j hj).1
    · refine grow (some ⟨g, o, none⟩) cap rfl (by omega) ?_
      exact run_firstCells_some w.drew i.size xs.length ⟨g, o, none⟩ xs.length cap (E.cs xs) (by rw [El.cs_length, hsize]) (fun j u hu => by rw [Addr.add_lit]; exact hc j u hu)

/-- .. for the walk. -/
theorem wpAppG {P : Program} {w : World} {ops : Array Oper} {rest : List Oper} {o : Oper} {a : Act} {Q : Exit → Act → World → Prop} (hgd : o.guard = none) (s x : Operand) (t tx e : TypeId)
    (ho : o.op = .call { callee := .builtin .append, args := #[s, x], argTypes := #[t, tx] })
    (i : TypeInfo) (z : Value) (bytes : Nat) (ht : P.underlying t = some (.slice e)) (hi : P.info? e = some i) (hz : i.zero = some z) (hsize : i.size = E.n) (hby : i.bytes = bytes) (hzs : z.cells.size = E.n)
    (v : Value) (xs : List α) (hv : a.eval s = v) (hown : E.Row w v xs) (xv : Value) (bs : List α) (hx : a.eval x = xv) (hs : Src P E.n tx xv bs.length (E.cs bs) w) (hb : (xs.length + bs.length + (xs.length + bs.length) / 4 + 192) * bytes ≤ 281474976710656) (h63 : xs.length + bs.length ≤ 100000000000000)
    (hK : ∀ l' a' c' w', Hid (l' = xs ++ bs) → E.Row w' (.slice a' l'.length c') l' → Kp (own v) w w' → (∀ k ∈ blk a', k ∈ own v ∨ w.heap.size ≤ k) → wpList P ops Q rest (a.put o.dst (.slice a' l'.length c')) w') : wpList P ops Q (o :: rest) a w := by
  refine wpList_plain hgd fun K hK' => ?_
  obtain ⟨v', w', hrun, h1, h2, h3⟩ := run_appendG (P := P) w t tx o.type e i z bytes ht hi hz hsize hby hzs v xs hown xv bs hs hb h63
  obtain ⟨l', hl'⟩ : ∃ l', l' = xs ++ bs := ⟨_, rfl⟩
  rw [← hl'] at h1
  obtain ⟨a', c', rfl, _, _, _, _, eo⟩ := h1.see
  have hfin := hK' _ _ (hK l' a' c' w' hl' h1 h2 (fun k hk => h3 k (by rw [eo]; exact hk)))
  unfold Oper.wp
  simp [execOp, ho, resolve, invoke, builtin, hv, hx, hrun, Result.andThen]
  exact hfin
end
theorem run_copyG {P : Program} (w : World) (dT sT ty elem : TypeId) (i : TypeInfo) (hu : P.underlying dT = some (.slice elem)) (hi : P.info? elem = some i) (b o dLen dCap : Nat) (a : Addr) (sLen sCap : Nat) (hsd : sLen ≤ dLen) (cs : List Value)
    (hn : cs.length = sLen * i.size) (hsrc : ∀ j v, cs[j]? = some v → w.cell? (a.add j) = some v) (hc : ∀ j, j < cs.length → (w.cell? ⟨b, o + j, none⟩).isSome = true) (hf : ∀ j, j < cs.length → w.frozen? ⟨b, o + j, none⟩ = false) (h1 : ∀ v ∈ cs, v.oneCell' = true) :
    (Builtin.copy_ #[dT, sT] ty #[.slice (some ⟨b, o, none⟩) dLen dCap, .slice (some a) sLen sCap]).run P w = .ok (goInt sLen) (w.setCells b o cs) := by
  have hl := run_loadCells_list (P := P) w a cs hsrc
  have hst := run_storeCells_cells (P := P) b o cs 0 w (by simpa using hc) (by simpa using hf) h1
  simp only [Nat.add_zero] at hst
  have hmin : Nat.min sLen dLen = sLen := Nat.min_eq_left hsd
  simp [Builtin.copy_, run_underlying hu, Builtin.lenOf, Builtin.firstCells, sizeOf, typeInfo, hi, hmin, ← hn, hl, hst]
/-- An append, or a copy, whose run is known, at a step of a region that draws its order. -/
theorem stepAppRun {P : Program} {w w' : World} {ops : Array Oper} {o : Oper} {a : Act} {K : Act → World → Prop} {Q : Exit → Act → World → Prop} {E : Prop} (hgd : o.guard = none) (s x : Operand) (t tx : TypeId)
    (ho : o.op = .call { callee := .builtin .append, args := #[s, x], argTypes := #[t, tx] }) (v xv v' : Value) (hv : a.eval s = v) (hx : a.eval x = xv)
    (hrun : (Builtin.append_ #[t, tx] o.type #[v, xv]).run P w = .ok v' w') (h : K (a.put o.dst v') w') : if Region.wanted o (yielded ops a.tmps) = true then Oper.wp P o a w K Q else E := by
  have hw : Region.wanted o (yielded ops a.tmps) = true := by simp [Region.wanted, hgd]
  rw [if_pos hw]
  unfold Oper.wp execOp
  simp only [ho, resolve, invoke, builtin, Sem.run_bind, Sem.run_pure, Result.andThen_ok, List.map_toArray, List.map_cons, List.map_nil, hv, hx, hrun]
  exact h
theorem stepCpyRun {P : Program} {w w' : World} {ops : Array Oper} {o : Oper} {a : Act} {K : Act → World → Prop} {Q : Exit → Act → World → Prop} {E : Prop} (hgd : o.guard = none) (s x : Operand) (t tx : TypeId)
    (ho : o.op = .call { callee := .builtin .copy, args := #[s, x], argTypes := #[t, tx] }) (v xv v' : Value) (hv : a.eval s = v) (hx : a.eval x = xv)
    (hrun : (Builtin.copy_ #[t, tx] o.type #[v, xv]).run P w = .ok v' w') (h : K (a.put o.dst v') w') : if Region.wanted o (yielded ops a.tmps) = true then Oper.wp P o a w K Q else E := by
  have hw : Region.wanted o (yielded ops a.tmps) = true := by simp [Region.wanted, hgd]
  rw [if_pos hw]
  unfold Oper.wp execOp
  simp only [ho, resolve, invoke, builtin, Sem.run_bind, Sem.run_pure, Result.andThen_ok, List.map_toArray, List.map_cons, List.map_nil, hv, hx, hrun]
  exact h
end Go.Hay
end

section
namespace Go.Proofs.Ytohkjikhlakglaa
open Go.RowKit Go.Hay
set_option linter.unusedVariables false
set_option linter.unusedSimpArgs false

/-- A value's four fields. -/
structure Val where
  k : Int
  b : Bool
  n : Int
  t : ByteArray
def Val.v (x : Val) : Value := .agg #[.int .i64 x.k, .bool x.b, .int .i64 x.n, .string x.t]

/-- A block of four cells. -/
structure Box4 (w : World) (q : Nat) (a b c d : Value) : Prop where
  c0 : w.cell? ⟨q, 0, none⟩ = some a
  c1 : w.cell? ⟨q, 1, none⟩ = some b
  c2 : w.cell? ⟨q, 2, none⟩ = some c
  c3 : w.cell? ⟨q, 3, none⟩ = some d
  free : ∀ j, w.frozen? ⟨q, j, none⟩ = false
theorem Box4.new (w : World) (a b c d : Value) (t : TypeId) : Box4 (w.alloc (.cells #[a, b, c, d] t)) w.heap.size a b c d :=
  ⟨World.cell?_alloc_new w _ _ 0, World.cell?_alloc_new w _ _ 1, World.cell?_alloc_new w _ _ 2, World.cell?_alloc_new w _ _ 3, fun j => World.frozen?_alloc_new w _ _ j⟩
theorem Box4.at {w : World} (q : Nat) (hq : w.heap.size = q) (a b c d : Value) (t : TypeId) : Box4 (w.alloc (.cells #[a, b, c, d] t)) q a b c d := by subst hq; exact Box4.new w a b c d t
theorem Box4.lt {w : World} {q : Nat} {a b c d : Value} (h : Box4 w q a b c d) : q < w.heap.size := World.block_lt_of_cell? _ _ h.c0
theorem Box4.kept {w w' : World} {q : Nat} {a b c d : Value} {S : List Nat} (h : Box4 w q a b c d) (hk : Kp S w w') (hq : q ∉ S) : Box4 w' q a b c d :=
  ⟨(hk.cell (p := ⟨q, 0, none⟩) h.lt hq).trans h.c0, (hk.cell (p := ⟨q, 1, none⟩) h.lt hq).trans h.c1, (hk.cell (p := ⟨q, 2, none⟩) h.lt hq).trans h.c2, (hk.cell (p := ⟨q, 3, none⟩) h.lt hq).trans h.c3, fun j => (hk.frozen (p := ⟨q, j, none⟩) h.lt hq).trans (h.free j)⟩
theorem Box4.drew {w : World} {q : Nat} {a b c d : Value} (h : Box4 w q a b c d) : Box4 w.drew q a b c d := ⟨h.c0, h.c1, h.c2, h.c3, h.free⟩
theorem Box4.drewN {w : World} {q : Nat} {a b c d : Value} (n : Nat) (h : Box4 w q a b c d) : Box4 (w.drewN n) q a b c d := ⟨h.c0, h.c1, h.c2, h.c3, h.free⟩

/-- A block of three cells. -/
structure Box3 (w : World) (q : Nat) (a b c : Value) : Prop where
  c0 : w.cell? ⟨q, 0, none⟩ = some a
  c1 : w.cell? ⟨q, 1, none⟩ = some b
  c2 : w.cell? ⟨q, 2, none⟩ = some c
  free : ∀ j, w.frozen? ⟨q, j, none⟩ = false
theorem Box3.new (w : World) (a b c : Value) (t : TypeId) : Box3 (w.alloc (.cells #[a, b, c] t)) w.heap.size a b c :=
  ⟨World.cell?_alloc_new w _ _ 0, World.cell?_alloc_new w _ _ 1, World.cell?_alloc_new w _ _ 2, fun j => World.frozen?_alloc_new w _ _ j⟩
theorem Box3.lt {w : World} {q : Nat} {a b c : Value} (h : Box3 w q a b c) : q < w.heap.size := World.block_lt_of_cell? _ _ h.c0
theorem Box3.kept {w w' : World} {q : Nat} {a b c : Value} {S : List Nat} (h : Box3 w q a b c) (hk : Kp S w w') (hq : q ∉ S) : Box3 w' q a b c :=
  ⟨(hk.cell (p := ⟨q, 0, none⟩) h.lt hq).trans h.c0, (hk.cell (p := ⟨q, 1, none⟩) h.lt hq).trans h.c1, (hk.cell (p := ⟨q, 2, none⟩) h.lt hq).trans h.c2, fun j => (hk.frozen (p := ⟨q, j, none⟩) h.lt hq).trans (h.free j)⟩
theorem Box3.drew {w : World} {q : Nat} {a b c : Value} (h : Box3 w q a b c) : Box3 w.drew q a b c := ⟨h.c0, h.c1, h.c2, h.free⟩

theorem cNull (w : World) : Calls Try.prog 59 #[] w fun e w' => e = .returned (.agg #[.int .i64 0, .bool false, .int .i64 0, .string ⟨#[]⟩]) ∧ Kp [] w w' := by
  go_enter Try.func59, Try.ntmps59
  go_wp2_with fail
  go_returns
  exact ⟨rfl, (Kp.refl _ _).alloc _⟩
theorem cInt (n : Int) (w : World) : Calls Try.prog 63 #[.int .i64 n] w fun e w' => e = .returned (.agg #[.int .i64 2, .bool false, .int .i64 n, .string ⟨#[]⟩]) ∧ Kp [] w w' := by
  go_enter Try.func63, Try.ntmps63
  go_wp2_with fail
  go_returns
  exact ⟨rfl, (Kp.refl _ _).alloc _⟩
end Go.Proofs.Ytohkjikhlakglaa
end

section
namespace Go.Proofs.Ytohkjikhlakglaa
open Go.RowKit Go.Hay
set_option linter.unusedVariables false
set_option linter.unusedSimpArgs false

/-- Is a text below another one? -/
def bl (s t : ByteArray) : Bool := Op.bytesLess s.toList t.toList
/-- Is a value below another one? -/
def Val.lt (a b : Val) : Bool :=
  if a.k ≠ b.k then decide (a.k < b.k) else if a.k = 1 then !a.b && b.b else if a.k = 2 then decide (a.n < b.n) else if a.k = 3 then bl a.t b.t else false
/-- The order of numbers, of texts, of bools. -/
def ci (x y : Int) : Int := if x < y then -1 else if y < x then 1 else 0
def cs (x y : ByteArray) : Int := if bl x y then -1 else if bl y x then 1 else 0
def cb (x y : Bool) : Int := if (!x && y) then -1 else if (!y && x) then 1 else 0
/-- The order. -/
def cmpV (a b : Val) : Int := if a.lt b then -1 else if b.lt a then 1 else 0

theorem cNanI (x : Int) (w : World) : Calls Try.prog 73 #[.int .i64 x] w fun e w' => e = .returned (.bool false) ∧ w' = w := by
  go_enter Try.func73, Try.ntmps73
  go_wp2_with fail
  go_ret
  exact ⟨rfl, rfl⟩
theorem cNanL (x : Int) (w : World) : Calls Try.prog 75 #[.int .i64 x] w fun e w' => e = .returned (.bool false) ∧ w' = w := by
  go_enter Try.func75, Try.ntmps75
  go_wp2_with fail
  go_ret
  exact ⟨rfl, rfl⟩
theorem cNanS (x : ByteArray) (w : World) : Calls Try.prog 76 #[.string x] w fun e w' => e = .returned (.bool false) ∧ w' = w := by
  go_enter Try.func76, Try.ntmps76
  go_wp2_with fail
  go_ret
  exact ⟨rfl, rfl⟩
theorem cCmpI (x y : Int) (w : World) : Calls Try.prog 62 #[.int .i64 x, .int .i64 y] w fun e w' => e = .returned (.int .i64 (ci x y)) ∧ w' = w := by
  go_enter Try.func62, Try.ntmps62
  go_wp2_with (first | (go_at_call 73; refine (cNanI _ _).mono ?_; rintro e w' ⟨rfl, rfl⟩))
  all_goals (go_ret; refine ⟨?_, rfl⟩; show Ending.returned _ = _)
  all_goals (unfold ci; first | (rw [if_pos (by omega)]; rfl) | (rw [if_neg (by omega), if_pos (by omega)]; rfl) | (rw [if_neg (by omega), if_neg (by omega)]; rfl))
theorem cCmpL (x y : Int) (w : World) : Calls Try.prog 69 #[.int .i64 x, .int .i64 y] w fun e w' => e = .returned (.int .i64 (ci x y)) ∧ w' = w := by
  go_enter Try.func69, Try.ntmps69
  go_wp2_with (first | (go_at_call 75; refine (cNanL _ _).mono ?_; rintro e w' ⟨rfl, rfl⟩))
  all_goals (go_ret; refine ⟨?_, rfl⟩; show Ending.returned _ = _)
  all_goals (unfold ci; first | (rw [if_pos (by omega)]; rfl) | (rw [if_neg (by omega), if_pos (by omega)]; rfl) | (rw [if_neg (by omega), if_neg (by omega)]; rfl))
theorem less_irr : ∀ s : List UInt8, Op.bytesLess s s = false
  | [] => rfl
  | x :: s => by simp [Op.bytesLess, less_irr s]
theorem UInt8.lt_trichotomy (x y : UInt8) : x < y ∨ x = y ∨ y < x := by
  rw [UInt8.lt_iff_toNat_lt, UInt8.lt_iff_toNat_lt, ← UInt8.toNat_inj]
  omega
theorem less_total : ∀ s t : List UInt8, (!Op.bytesLess s t && !(s == t)) = Op.bytesLess t s
  | [], [] => rfl
  | [], y :: t => rfl
  | x :: s, [] => rfl
  | x :: s, y :: t => by
    have ih := less_total s t
    simp only [Op.bytesLess]
    rw [show ((x :: s : List UInt8) == y :: t) = (x == y && s == t) from rfl]
    rcases UInt8.lt_trichotomy x y with h | h | h
    · have h2 : ¬ y < x := fun h3 => by rw [UInt8.lt_iff_toNat_lt] at h h3; omega
      have h3 : (y == x) = false := by simp; rintro rfl; exact h2 h
      simp [h, h2, h3]
    · subst h
      have h2 : ¬ x < x := fun h3 => by rw [UInt8.lt_iff_toNat_lt] at h3; omega
      simp [h2]
      simpa using ih
    · have h2 : ¬ x < y := fun h3 => by rw [UInt8.lt_iff_toNat_lt] at h h3; omega
      have h3 : (x == y) = false := by simp; rintro rfl; exact h2 h
      simp [h, h2, h3]
theorem gtS (t : TypeId) (a b : ByteArray) : binOp .gtr t (.string a) (.string b) = pure (.bool (Op.bytesLess b.toList a.toList)) := by
  rw [← less_total]
  simp [binOp, Op.stringOp]
theorem cCmpS (x y : ByteArray) (w : World) : Calls Try.prog 70 #[.string x, .string y] w fun e w' => e = .returned (.int .i64 (cs x y)) ∧ w' = w := by
  have hg := gtS
  go_enter Try.func70, Try.ntmps70
  go_wp2_with (first | (go_at_call 76; refine (cNanS _ _).mono ?_; rintro e w' ⟨rfl, rfl⟩))
  all_goals (go_ret; refine ⟨?_, rfl⟩; show Ending.returned _ = _)
  all_goals simp_all [bl, cs]
theorem cBools (x y : Bool) (w : World) : Calls Try.prog 68 #[.bool x, .bool y] w fun e w' => e = .returned (.int .i64 (cb x y)) ∧ w' = w := by
  cases x <;> cases y
  all_goals (go_enter Try.func68, Try.ntmps68; go_wp2_with fail; go_ret; exact ⟨rfl, rfl⟩)

set_option maxHeartbeats 2000000 in
set_option maxRecDepth 100000 in
theorem cCompare (a b : Val) (w : World) : Calls Try.prog 54 #[a.v, b.v] w fun e w' => e = .returned (.int .i64 (cmpV a b)) ∧ Kp [] w w' := by
  obtain ⟨ak, ab, an, at'⟩ := a
  obtain ⟨bk, bb, bn, bt⟩ := b
  unfold Val.v
  have kw : Kp [] w ((w.alloc (.cells #[.int .i64 ak, .bool ab, .int .i64 an, .string at'] 47)).alloc (.cells #[.int .i64 bk, .bool bb, .int .i64 bn, .string bt] 47)) := ((Kp.refl _ _).alloc _).alloc _
  by_cases hk : ak = bk
  · subst hk
    by_cases h1 : ak = 1
    · subst h1
      go_enter Try.func54, Try.ntmps54
      go_wp2_with (first | (go_at_call 68; refine (cBools _ _ _).mono ?_; rintro e w' ⟨rfl, rfl⟩))
      go_ret
      exact ⟨by simp [cmpV, Val.lt, ci, cs, cb], kw⟩
    by_cases h2 : ak = 2
    · subst h2
      go_enter Try.func54, Try.ntmps54
      go_wp2_with (first | (go_at_call 69; refine (cCmpL _ _ _).mono ?_; rintro e w' ⟨rfl, rfl⟩))
      go_ret
      exact ⟨by simp [cmpV, Val.lt, ci, cs, cb], kw⟩
    by_cases h3 : ak = 3
    · subst h3
      go_enter Try.func54, Try.ntmps54
      go_wp2_with (first | (go_at_call 70; refine (cCmpS _ _ _).mono ?_; rintro e w' ⟨rfl, rfl⟩))
      go_ret
      exact ⟨by simp [cmpV, Val.lt, ci, cs, cb], kw⟩
    · have d1 : (ak == 1) = false := by simpa using h1
      have d2 : (ak == 2) = false := by simpa using h2
      have d3 : (ak == 3) = false := by simpa using h3
      go_enter Try.func54, Try.ntmps54
      go_wp2_with fail
      go_ret
      exact ⟨by simp [cmpV, Val.lt, ci, cs, cb, h1, h2, h3], kw⟩
  · have d1 : (ak == bk) = false := by simpa using hk
    have hk' : ¬ bk = ak := fun h => hk h.symm
    go_enter Try.func54, Try.ntmps54
    go_wp2_with (first | (go_at_call 62; refine (cCmpI _ _ _).mono ?_; rintro e w' ⟨rfl, rfl⟩))
    go_ret
    exact ⟨by simp [cmpV, Val.lt, ci, cs, cb, hk, hk'], kw⟩

set_option maxHeartbeats 2000000 in
set_option maxRecDepth 100000 in
theorem cLess (a b : Val) (w : World) : Calls Try.prog 55 #[a.v, b.v] w fun e w' => e = .returned (.bool (a.lt b)) ∧ Kp [] w w' := by
  obtain ⟨ak, ab, an, at'⟩ := a
  obtain ⟨bk, bb, bn, bt⟩ := b
  unfold Val.v
  have kw : Kp [] w ((w.alloc (.cells #[.int .i64 ak, .bool ab, .int .i64 an, .string at'] 47)).alloc (.cells #[.int .i64 bk, .bool bb, .int .i64 bn, .string bt] 47)) := ((Kp.refl _ _).alloc _).alloc _
  by_cases hk : ak = bk
  · subst hk
    by_cases h1 : ak = 1
    · subst h1
      cases ab
      all_goals (go_enter Try.func55, Try.ntmps55; go_wp2_with fail; go_ret; exact ⟨by simp [Val.lt], kw⟩)
    by_cases h2 : ak = 2
    · subst h2
      go_enter Try.func55, Try.ntmps55
      go_wp2_with fail
      go_ret
      exact ⟨by simp [Val.lt], kw⟩
    by_cases h3 : ak = 3
    · subst h3
      go_enter Try.func55, Try.ntmps55
      go_wp2_with fail
      go_ret
      exact ⟨by simp [Val.lt, bl], kw⟩
    · have d1 : (ak == 1) = false := by simpa using h1
      have d2 : (ak == 2) = false := by simpa using h2
      have d3 : (ak == 3) = false := by simpa using h3
      go_enter Try.func55, Try.ntmps55
      go_wp2_with fail
      go_ret
      exact ⟨by simp [Val.lt, h1, h2, h3], kw⟩
  · have d1 : (ak == bk) = false := by simpa using hk
    go_enter Try.func55, Try.ntmps55
    go_wp2_with fail
    go_ret
    exact ⟨by simp [Val.lt, hk], kw⟩
theorem cRefCompare (a b : Val) (w : World) : Calls Try.prog 41 #[a.v, b.v] w fun e w' => e = .returned (.int .i64 (cmpV a b)) ∧ Kp [] w w' := by
  obtain ⟨ak, ab, an, at'⟩ := a
  obtain ⟨bk, bb, bn, bt⟩ := b
  rw [show Val.v ⟨ak, ab, an, at'⟩ = .agg #[.int .i64 ak, .bool ab, .int .i64 an, .string at'] from rfl, show Val.v ⟨bk, bb, bn, bt⟩ = .agg #[.int .i64 bk, .bool bb, .int .i64 bn, .string bt] from rfl]
  have kw : Kp [] w ((w.alloc (.cells #[.int .i64 ak, .bool ab, .int .i64 an, .string at'] 47)).alloc (.cells #[.int .i64 bk, .bool bb, .int .i64 bn, .string bt] 47)) := ((Kp.refl _ _).alloc _).alloc _
  have bA := (Box4.new w (.int .i64 ak) (.bool ab) (.int .i64 an) (.string at') 47).kept (S := []) ((Kp.refl _ _).alloc (.cells #[.int .i64 bk, .bool bb, .int .i64 bn, .string bt] 47)) (by simp)
  have bB := Box4.at (w := w.alloc (.cells #[.int .i64 ak, .bool ab, .int .i64 an, .string at'] 47)) (w.heap.size + 1) (by simp) (.int .i64 bk) (.bool bb) (.int .i64 bn) (.string bt) 47
  go_enter Try.func41, Try.ntmps41
  go_wp2_with fail
  refine (cLess ⟨ak, ab, an, at'⟩ ⟨bk, bb, bn, bt⟩ _).mono ?_
  rintro e w1 ⟨rfl, k1⟩
  have bA1 := bA.kept k1 (by simp)
  have bB1 := bB.kept k1 (by simp)
  have kw1 := kw.trans k1 (by simp)
  clear bA bB kw k1
  have a0 := bA1.c0; have a1 := bA1.c1; have a2 := bA1.c2; have a3 := bA1.c3
  have b0 := bB1.c0; have b1 := bB1.c1; have b2 := bB1.c2; have b3 := bB1.c3
  go_wp2_with fail
  refine (cLess ⟨bk, bb, bn, bt⟩ ⟨ak, ab, an, at'⟩ _).mono ?_
  rintro e w2 ⟨rfl, k2⟩
  have kw2 := kw1.trans k2 (by simp)
  clear a0 a1 a2 a3 b0 b1 b2 b3
  obtain ⟨l1, H1⟩ : ∃ l1 : Bool, Hid (Val.lt ⟨ak, ab, an, at'⟩ ⟨bk, bb, bn, bt⟩ = l1) := ⟨_, rfl⟩
  obtain ⟨l2, H2⟩ : ∃ l2 : Bool, Hid (Val.lt ⟨bk, bb, bn, bt⟩ ⟨ak, ab, an, at'⟩ = l2) := ⟨_, rfl⟩
  have HC : Hid (cmpV ⟨ak, ab, an, at'⟩ ⟨bk, bb, bn, bt⟩ = if l1 then -1 else if l2 then 1 else 0) := by unfold cmpV; rw [H1.out, H2.out]; rfl
  rw [H1.out, H2.out]
  cases l1
  · cases l2
    · go_wp2_with fail
      go_ret
      exact ⟨by rw [HC.out]; rfl, kw2⟩
    · go_wp2_with fail
      go_ret
      exact ⟨by rw [HC.out]; rfl, kw2⟩
  · go_wp2_with fail
    go_ret
    exact ⟨by rw [HC.out]; rfl, kw2⟩
end Go.Proofs.Ytohkjikhlakglaa
end

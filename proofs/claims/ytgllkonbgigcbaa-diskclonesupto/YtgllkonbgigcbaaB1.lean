/- What memory holds, told of a world: rows of bytes that the calls made, bytes that a slice sees, and which blocks a call may have turned. No statement of the seat is proved here. Disks as plain values: files by rising names, and what each call makes of them. What every disk is, it is behind each call. How a disk lies in memory: its own block, the map of its files, the files' blocks and their rows of bytes. Rows of bytes of the calls' own: appends, cuts, copies; a disk's file changed in its place. -/
import Derived.WalkKit
import Derived.WalkSpells
import Derived.Deep.Upon
import Derived.Deep.DeepAppendWide
import Derived.WalkSmall
import Derived.Sort.KeysCollected
import Derived.Test.YtgllkonbgigcbaaRows
import Derived.Maps.OwnSet
import Derived.Maps.RangeWalk
import Derived.Handy
import Derived.StringKeys
import Derived.BigQuiet
import Derived.Deep.QuietTactic
import Derived.Laws.Cover3
section
namespace Go.Hay
open Go.RowKit

/-- A list of bytes, as cells. -/
def bcells (bs : List UInt8) : List Value := bs.map fun x => .int .u8 x.toNat
theorem bcells_length (bs : List UInt8) : (bcells bs).length = bs.length := by simp [bcells]
theorem bcells_append (a b : List UInt8) : bcells (a ++ b) = bcells a ++ bcells b := by simp [bcells]
theorem bcells_get (bs : List UInt8) (j : Nat) : (bcells bs)[j]? = bs[j]?.map fun x => .int .u8 x.toNat := by simp [bcells]
theorem bcells_one (bs : List UInt8) : ∀ u ∈ bcells bs, u.oneCell' = true := by
  intro u hu
  obtain ⟨x, _, rfl⟩ := List.mem_map.1 hu
  rfl

/-- Only blocks of S may have turned. -/
structure Kp (S : List Nat) (w w' : World) : Prop where
  os : w'.os = w.os
  tape : w'.tape = w.tape
  output : w'.output = w.output
  size : w.heap.size ≤ w'.heap.size
  block : ∀ k, k < w.heap.size → k ∉ S → w'.heap[k]? = w.heap[k]?

theorem Kp.refl (S : List Nat) (w : World) : Kp S w w := ⟨rfl, rfl, rfl, Nat.le_refl _, fun _ _ _ => rfl⟩
/-- Two steps: what the second one may turn is what the first one may, or is new. -/
theorem Kp.trans {S T : List Nat} {a b c : World} (h : Kp S a b) (k : Kp T b c) (hT : ∀ x ∈ T, x ∈ S ∨ a.heap.size ≤ x) : Kp S a c :=
  ⟨k.os.trans h.os, k.tape.trans h.tape, k.output.trans h.output, Nat.le_trans h.size k.size, fun i hi hn =>
    (k.block i (Nat.lt_of_lt_of_le hi h.size) (fun hm => by rcases hT i hm with h1 | h1; exact hn h1; omega)).trans (h.block i hi hn)⟩
theorem Kp.mono {S T : List Nat} {a b : World} (h : Kp S a b) (hT : ∀ x ∈ S, x ∈ T ∨ a.heap.size ≤ x) : Kp T a b :=
  ⟨h.os, h.tape, h.output, h.size, fun i hi hn => h.block i hi (fun hm => by rcases hT i hm with h1 | h1; exact hn h1; omega)⟩
theorem Kp.drew {S : List Nat} {a w : World} (h : Kp S a w) : Kp S a w.drew := ⟨h.os, h.tape, h.output, h.size, h.block⟩
theorem Kp.drewN {S : List Nat} {a w : World} (h : Kp S a w) (n : Nat) : Kp S a (w.drewN n) := ⟨h.os, h.tape, h.output, h.size, h.block⟩
theorem Kp.alloc {S : List Nat} {a w : World} (h : Kp S a w) (o : Obj) : Kp S a (w.alloc o) :=
  ⟨h.os, h.tape, h.output, by have := h.size; simp; omega, fun k hk hn => (Below.heap_alloc w o k (Nat.lt_of_lt_of_le hk h.size)).trans (h.block k hk hn)⟩
theorem Kp.setCell {S : List Nat} {a w : World} (h : Kp S a w) {p : Addr} (hp : p.block ∈ S ∨ a.heap.size ≤ p.block) (u : Value) : Kp S a (w.setCell p u) :=
  ⟨h.os, h.tape, h.output, by have := h.size; simpa [World.setCell] using this, fun k hk hn =>
    (Below.heap_setCell w p u k (fun e => by subst e; rcases hp with h1 | h1; exact hn h1; omega)).trans (h.block k hk hn)⟩
theorem Kp.grown {S : List Nat} {a w w' : World} {row : Option Nat} (h : Kp S a w) (hg : w.grownBy w' row) (hr : ∀ k, row = some k → k ∈ S ∨ a.heap.size ≤ k) : Kp S a w' :=
  ⟨hg.os.trans h.os, hg.tape.trans h.tape, hg.output.trans h.output, Nat.le_trans h.size hg.size, fun k hk hn =>
    (hg.block k (Nat.lt_of_lt_of_le hk h.size) (fun e => by rcases hr k e.symm with h1 | h1; exact hn h1; omega)).trans (h.block k hk hn)⟩
theorem Kp.ofBelow {w w' : World} (h : Below w.heap.size w w') (S : List Nat) : Kp S w w' := ⟨h.os, h.tape, h.output, h.size, fun k hk _ => h.block k hk⟩
theorem Kp.below {w w' : World} (h : Kp [] w w') : Below w.heap.size w w' := ⟨h.os, h.tape, h.output, h.size, fun k hk => h.block k hk (by simp)⟩
theorem Kp.cell {S : List Nat} {w w' : World} (h : Kp S w w') {p : Addr} (hp : p.block < w.heap.size) (hn : p.block ∉ S) : w'.cell? p = w.cell? p := World.cell?_of_block (h.block p.block hp hn)
theorem Kp.frozen {S : List Nat} {w w' : World} (h : Kp S w w') {p : Addr} (hp : p.block < w.heap.size) (hn : p.block ∉ S) : w'.frozen? p = w.frozen? p := World.frozen?_of_block (h.block p.block hp hn)

/-- The block of a row of the call's own, as a list. -/
def own (v : Value) : List Nat := v.ownBlock.toList
theorem mem_own {v : Value} {k : Nat} : k ∈ own v ↔ v.ownBlock = some k := by simp [own, Option.mem_toList]

/-- v is a row of bytes of the calls' own: its cells are there, and none is frozen: it may be written and appended to. -/
def Row (w : World) (v : Value) (bs : List UInt8) : Prop :=
  (v = .slice none 0 0 ∧ bs = []) ∨ ∃ g o cap, v = .slice (some ⟨g, o, none⟩) bs.length cap ∧ bs.length ≤ cap ∧ cap ≤ maxLen ∧ g < w.heap.size ∧
    (∀ j u, bs[j]? = some u → w.cell? ⟨g, o + j, none⟩ = some (.int .u8 u.toNat)) ∧ ∀ j, j < cap → (w.cell? ⟨g, o + j, none⟩).isSome = true ∧ w.frozen? ⟨g, o + j, none⟩ = false
theorem Row.nil (w : World) : Row w (.slice none 0 0) [] := .inl ⟨rfl, rfl⟩
theorem Row.lt {w : World} {v : Value} {bs : List UInt8} (h : Row w v bs) : ∀ k ∈ own v, k < w.heap.size := by
  rcases h with ⟨rfl, _⟩ | ⟨g, o, cap, rfl, _, _, hg, _⟩
  · intro k hk; simp [own, Value.ownBlock] at hk
  · intro k hk; simp [own, Value.ownBlock] at hk; omega
theorem Row.shape {w : World} {v : Value} {bs : List UInt8} (h : Row w v bs) : ∃ a c, v = .slice a bs.length c ∧ bs.length ≤ c := by
  rcases h with ⟨rfl, rfl⟩ | ⟨g, o, cap, rfl, hl, _⟩
  · exact ⟨none, 0, rfl, Nat.le_refl _⟩
  · exact ⟨_, _, rfl, hl⟩
theorem Row.kept {w w' : World} {v : Value} {bs : List UInt8} {S : List Nat} (h : Row w v bs) (hk : Kp S w w') (hn : ∀ k ∈ own v, k ∉ S) : Row w' v bs := by
  rcases h with h | ⟨g, o, cap, rfl, hl, hm, hg, hc, ht⟩
  · exact .inl h
  · have hgS : g ∉ S := hn g (by simp [own, Value.ownBlock])
    have e1 : ∀ j, w'.cell? ⟨g, o + j, none⟩ = w.cell? ⟨g, o + j, none⟩ := fun j => hk.cell (p := ⟨g, o + j, none⟩) hg hgS
    have e2 : ∀ j, w'.frozen? ⟨g, o + j, none⟩ = w.frozen? ⟨g, o + j, none⟩ := fun j => hk.frozen (p := ⟨g, o + j, none⟩) hg hgS
    exact .inr ⟨g, o, cap, rfl, hl, hm, Nat.lt_of_lt_of_le hg hk.size, fun j u hu => (e1 j).trans (hc j u hu), fun j hj => by rw [e1, e2]; exact ht j hj⟩

/-- What a slice's value sees: its first bytes, told by cells. -/
def Sees (w : World) (a : Option Addr) (bs : List UInt8) : Prop :=
  bs = [] ∨ ∃ g o, a = some ⟨g, o, none⟩ ∧ ∀ j u, bs[j]? = some u → w.cell? ⟨g, o + j, none⟩ = some (.int .u8 u.toNat)
theorem Sees.nil (w : World) (a : Option Addr) : Sees w a [] := .inl rfl
/-- The block of an address, as a list. -/
def blk (a : Option Addr) : List Nat := (a.map (·.block)).toList
theorem Sees.lt {w : World} {a : Option Addr} {bs : List UInt8} (h : Sees w a bs) (hb : bs ≠ []) : ∀ k ∈ blk a, k < w.heap.size := by
  rcases h with rfl | ⟨g, o, rfl, hc⟩
  · exact absurd rfl hb
  · intro k hk
    simp [blk] at hk
    subst hk
    cases bs with
    | nil => exact absurd rfl hb
    | cons x r => exact World.block_lt_of_cell? _ _ (hc 0 x rfl)
theorem Sees.kept {w w' : World} {a : Option Addr} {bs : List UInt8} {S : List Nat} (h : Sees w a bs) (hk : Kp S w w') (hn : ∀ k ∈ blk a, k ∉ S) : Sees w' a bs := by
  rcases h with rfl | ⟨g, o, rfl, hc⟩
  · exact .inl rfl
  · exact .inr ⟨g, o, rfl, fun j u hu => (hk.cell (World.block_lt_of_cell? _ _ (hc j u hu)) (hn g (by simp [blk]))).trans (hc j u hu)⟩
theorem Sees.kept' {w w' : World} {a : Option Addr} {bs : List UInt8} {S : List Nat} (h : Sees w a bs) (hk : Kp S w w') (hn : bs ≠ [] → ∀ k ∈ blk a, k ∉ S) : Sees w' a bs := by
  by_cases hb : bs = []
  · exact .inl hb
  · exact h.kept hk (hn hb)
theorem Row.sees {w : World} {v : Value} {bs : List UInt8} (h : Row w v bs) : ∃ a c, v = .slice a bs.length c ∧ Sees w a bs ∧ own v = blk a := by
  rcases h with ⟨rfl, rfl⟩ | ⟨g, o, cap, rfl, hl, hm, hg, hc, ht⟩
  · exact ⟨none, 0, rfl, .inl rfl, rfl⟩
  · exact ⟨_, _, rfl, .inr ⟨g, o, rfl, hc⟩, rfl⟩
theorem Sees.cells {w : World} {g o : Nat} {bs : List UInt8} (hc : ∀ j u, bs[j]? = some u → w.cell? ⟨g, o + j, none⟩ = some (.int .u8 u.toNat)) : ∀ j u, (bcells bs)[j]? = some u → w.cell? ((⟨g, o, none⟩ : Addr).add j) = some u := by
  intro j u hu
  rw [bcells_get] at hu
  rw [Addr.add_lit]
  cases hb : bs[j]? with
  | none => rw [hb] at hu; cases hu
  | some x => rw [hb] at hu; cases hu; exact hc j x hb

/-- Parts of what is seen. -/
theorem Sees.front {w : World} {a : Option Addr} {bs : List UInt8} (h : Sees w a bs) (n : Nat) : Sees w a (bs.take n) := by
  rcases h with rfl | ⟨g, o, rfl, hc⟩
  · exact .inl (by simp)
  · refine .inr ⟨g, o, rfl, fun j u hu => ?_⟩
    rw [List.getElem?_take] at hu
    split at hu
    · exact hc j u hu
    · cases hu
theorem Sees.tail {w : World} {a : Option Addr} {bs : List UInt8} (h : Sees w a bs) (n : Nat) : Sees w (a.map (fun x => x.add n)) (bs.drop n) := by
  rcases h with rfl | ⟨g, o, rfl, hc⟩
  · exact .inl (by simp)
  · refine .inr ⟨g, o + n, by simp [Addr.add_lit], fun j u hu => ?_⟩
    rw [List.getElem?_drop] at hu
    have := hc (n + j) u hu
    rwa [show o + n + j = o + (n + j) by omega]
theorem blk_tail (a : Option Addr) (n : Nat) : blk (a.map (fun x => x.add n)) = blk a := by
  cases a with
  | none => rfl
  | some x =>
    obtain ⟨b, o, s⟩ := x
    simp only [blk, Option.map_some, Addr.add]
    split <;> rfl

theorem tape_setCells (g : Nat) : ∀ (vs : List Value) (o : Nat) (w : World), (w.setCells g o vs).tape = w.tape
  | [], _, _ => rfl
  | v :: r, o, w => by rw [World.setCells, tape_setCells g r]; rfl
theorem size_setCells (g : Nat) : ∀ (vs : List Value) (o : Nat) (w : World), (w.setCells g o vs).heap.size = w.heap.size
  | [], _, _ => rfl
  | v :: r, o, w => by rw [World.setCells, size_setCells g r]; simp [World.setCell]
theorem Kp.setCells {S : List Nat} {a w : World} (h : Kp S a w) {g : Nat} (hg : g ∈ S ∨ a.heap.size ≤ g) : ∀ (vs : List Value) (o : Nat), Kp S a (w.setCells g o vs) := by
  intro vs
  induction vs generalizing w with
  | nil => intro o; exact h
  | cons v r ih => intro o; exact ih (h.setCell (p := ⟨g, o, none⟩) hg v) (o + 1)

section
variable {P : Program} (w : World)
/-- What bytes that a slice sees are, to an append. -/
theorem Sees.src {w : World} {a : Option Addr} {bs : List UInt8} (hs : Sees w a bs) {t : TypeId} (ht : P.underlying t = some (.slice 5)) (c : Nat) : Src P 1 t (.slice a bs.length c) bs.length (bcells bs) w := by
  rcases hs with rfl | ⟨g, o, rfl, hc⟩
  · cases a with
    | none => exact Src.ofNil w ht c
    | some ad => exact Src.ofSlice w ht ad 0 c [] rfl (by intro j u hu; simp at hu) (by intro u hu; simp at hu)
  · exact Src.ofSlice w ht ⟨g, o, none⟩ bs.length c (bcells bs) (by rw [bcells_length]; omega) (Sees.cells hc) (bcells_one bs)

theorem grown_cells (g : Nat) (xs : List UInt8) (z : Array Value) (h : g = w.heap.size) (t : TypeId) : ∀ j u, xs[j]? = some u → (w.alloc (.cells ((bcells xs).toArray ++ z) t)).cell? ⟨g, 0 + j, none⟩ = some (.int .u8 u.toNat) := by
  subst h
  intro j u hu
  have hj : j < xs.length := (List.getElem?_eq_some_iff.1 hu).1
  have e1 : (w.alloc (.cells ((bcells xs).toArray ++ z) t)).cell? ⟨w.heap.size, 0 + j, none⟩ = _ := World.cell?_alloc_new w _ _ (0 + j)
  rw [e1, Nat.zero_add, Array.getElem?_append_left (by simp only [List.size_toArray, bcells_length]; exact hj), List.getElem?_toArray, bcells_get, hu]
  rfl

/-- An append of bytes, out of whatever yields them, onto a row of the call's own. -/
theorem run_append_src (t tx ty : TypeId) (i : TypeInfo) (ht : P.underlying t = some (.slice 5)) (hi : P.info? 5 = some i) (hz : i.zero = some (.int .u8 0)) (hsize : i.size = 1) (hby : i.bytes = 1)
    (v : Value) (xs : List UInt8) (hown : Row w v xs) (x : Value) (bs : List UInt8) (hs : Src P 1 tx x bs.length (bcells bs) w) (hb : xs.length + bs.length ≤ 200000000000000) :
    ∃ v' w', (Builtin.append_ #[t, tx] ty #[v, x]).run P w = .ok v' w' ∧ Row w' v' (xs ++ bs) ∧ Kp (own v) w w' ∧ ∀ k ∈ own v', k ∈ own v ∨ w.heap.size ≤ k := by
  have hs' := hs
  rw [← hsize] at hs'
  -- A NEW ROW
  have grow : ∀ (ao : Option Addr) (cap : Nat), v = .slice ao xs.length cap → cap < xs.length + bs.length → (Builtin.firstCells i.size xs.length (.slice ao xs.length cap)).run P w.drew = .ok (bcells xs).toArray w.drew →
      ∃ v' w', (Builtin.append_ #[t, tx] ty #[v, x]).run P w = .ok v' w' ∧ Row w' v' (xs ++ bs) ∧ Kp (own v) w w' ∧ ∀ k ∈ own v', k ∈ own v ∨ w.heap.size ≤ k := by
    rintro ao cap rfl hlt hold
    have hrun := run_append_grow_src (P := P) w t tx ty 5 i (.int .u8 0) ht hi hz ao xs.length cap (bcells xs) hold x bs.length (bcells bs) hs' hlt (by omega) (growslice_fits_wide hlt (by rw [hby]; omega))
    have hge := grownCap_ge w (xs.length + bs.length) cap 5
    have hcm := grownCap_le_maxLen w (xs.length + bs.length) cap 5 (by unfold maxLen; omega)
    rw [← bcells_append] at hrun
    refine ⟨_, _, hrun, .inr ⟨w.heap.size, 0, _, by rw [List.length_append], by rw [List.length_append]; omega, hcm, by simp, ?_, ?_⟩, (Kp.refl _ w).drew.alloc _, ?_⟩
    · exact grown_cells w.drew _ (xs ++ bs) _ rfl _
    · intro j hj
      refine ⟨?_, World.frozen?_alloc_new w.drew _ _ (0 + j)⟩
      have e1 := World.cell?_alloc_new w.drew ((bcells (xs ++ bs)).toArray ++ Builtin.zeroCells (Value.int .u8 0).cells (grownCap w (xs.length + bs.length) cap 5 - (xs.length + bs.length))) 5 (0 + j)
      have hsz : ((bcells (xs ++ bs)).toArray ++ Builtin.zeroCells (Value.int .u8 0).cells (grownCap w (xs.length + bs.length) cap 5 - (xs.length + bs.length))).size = grownCap w (xs.length + bs.length) cap 5 := by
        rw [Array.size_append, List.size_toArray, bcells_length, List.length_append, size_zeroCells]
        simp [Value.cells]
        omega
      refine (congrArg Option.isSome e1).trans ?_
      rw [Nat.zero_add, Array.getElem?_eq_getElem (by rw [hsz]; exact hj)]
      rfl
    · intro k hk
      simp [own, Value.ownBlock] at hk
      omega
  rcases hown with ⟨rfl, rfl⟩ | ⟨g, o, cap, rfl, hl, hm, hg, hc, ht'⟩
  · rcases Nat.eq_zero_or_pos bs.length with h0 | h0
    · obtain rfl : bs = [] := List.length_eq_zero_iff.1 h0
      exact ⟨_, _, run_append_nothing (P := P) w t tx ty 5 i ht hi none 0 0 (Nat.le_refl _) x hs', .inl ⟨rfl, rfl⟩, Kp.refl _ _, fun _ h => .inl h⟩
    · exact grow none 0 rfl (by simpa using h0) (run_firstCells_none w.drew i.size 0 0 0)
  · by_cases hroom : xs.length + bs.length ≤ cap
    · have hsome : ∀ j, j < (bcells bs).length → (w.cell? ⟨g, o + xs.length * i.size + j, none⟩).isSome = true := fun j hj => by
        rw [bcells_length] at hj; rw [hsize, Nat.mul_one, Nat.add_assoc]; exact (ht' (xs.length + j) (by omega)).1
      have hrun := run_append_room_src (P := P) w t tx ty 5 i ht hi g o xs.length cap x bs.length (bcells bs) hs' hroom hsome
        (fun j hj => by rw [bcells_length] at hj; rw [hsize, Nat.mul_one, Nat.add_assoc]; exact (ht' (xs.length + j) (by omega)).2)
      rw [hsize, Nat.mul_one] at hsome
      rw [hsize, Nat.mul_one] at hrun
      refine ⟨_, _, hrun, .inr ⟨g, o, cap, by rw [List.length_append], by rw [List.length_append]; omega, hm, by rw [size_setCells]; exact hg, ?_, ?_⟩, (Kp.refl _ w).setCells (by simp [own, Value.ownBlock]) _ _, fun k hk => .inl hk⟩
      · intro j u hu
        by_cases hj : j < xs.length
        · rw [World.cell?_setCells_out g _ _ _ _ (fun _ _ => Or.inl (by show o + j < o + xs.length; omega))]
          rw [List.getElem?_append_left hj] at hu
          exact hc j u hu
        · rw [List.getElem?_append_right (by omega)] at hu
          have hj2 : j - xs.length < bs.length := (List.getElem?_eq_some_iff.1 hu).1
          have := World.cell?_setCells_in g (bcells bs) (o + xs.length) w hsome (j - xs.length) (by rw [bcells_length]; exact hj2)
          rw [show o + xs.length + (j - xs.length) = o + j by omega, ← List.getElem?_eq_getElem (by rw [bcells_length]; exact hj2), bcells_get, hu] at this
          exact this
      · intro j hj
        refine ⟨?_, (World.frozen?_setCells g _ _ _ _).trans (ht' j hj).2⟩
        by_cases hin : xs.length ≤ j ∧ j < xs.length + bs.length
        · have := World.cell?_setCells_in g (bcells bs) (o + xs.length) w hsome (j - xs.length) (by rw [bcells_length]; omega)
          rw [show o + xs.length + (j - xs.length) = o + j by omega] at this
          rw [this]; rfl
        · rw [World.cell?_setCells_out g _ _ _ _ (fun _ _ => by rw [bcells_length]; show o + j < o + xs.length ∨ o + xs.length + bs.length ≤ o + j; omega)]
          exact (ht' j hj).1
    · refine grow (some ⟨g, o, none⟩) cap rfl (by omega) ?_
      exact run_firstCells_some w.drew i.size xs.length ⟨g, o, none⟩ xs.length cap (bcells xs) (by rw [bcells_length, hsize]; omega) (by simpa using Sees.cells (w := w.drew) hc)

/-- .. for the walk. -/
theorem wpList_append_src {ops : Array Oper} {rest : List Oper} {o : Oper} {a : Act} {Q : Exit → Act → World → Prop} (hgd : o.guard = none) (s x : Operand) (t tx : TypeId)
    (ho : o.op = .call { callee := .builtin .append, args := #[s, x], argTypes := #[t, tx] })
    (i : TypeInfo) (ht : P.underlying t = some (.slice 5)) (hi : P.info? 5 = some i) (hz : i.zero = some (.int .u8 0)) (hsize : i.size = 1) (hby : i.bytes = 1)
    (v : Value) (xs : List UInt8) (hv : a.eval s = v) (hown : Row w v xs) (xv : Value) (bs : List UInt8) (hx : a.eval x = xv) (hs : Src P 1 tx xv bs.length (bcells bs) w) (hb : xs.length + bs.length ≤ 200000000000000)
    (hK : ∀ v' w', Row w' v' (xs ++ bs) → Kp (own v) w w' → (∀ k ∈ own v', k ∈ own v ∨ w.heap.size ≤ k) → wpList P ops Q rest (a.put o.dst v') w') : wpList P ops Q (o :: rest) a w := by
  refine wpList_plain hgd fun K hK' => ?_
  obtain ⟨v', w', hrun, h1, h2, h3⟩ := run_append_src (P := P) w t tx o.type i ht hi hz hsize hby v xs hown xv bs hs hb
  unfold Oper.wp
  simp [execOp, ho, resolve, invoke, builtin, hv, hx, hrun, Result.andThen]
  exact hK' _ _ (hK v' w' h1 h2 h3)
end

/-- A Writer lies in block p: its one cell holds v, a row of the bytes bs. -/
structure Wr (w : World) (p : Nat) (v : Value) (bs : List UInt8) : Prop where
  cell : w.cell? ⟨p, 0, none⟩ = some v
  free : w.frozen? ⟨p, 0, none⟩ = false
  row : Row w v bs
  apart : p ∉ own v
theorem Wr.lt {w : World} {p : Nat} {v : Value} {bs : List UInt8} (h : Wr w p v bs) : p < w.heap.size := World.block_lt_of_cell? _ _ h.cell
theorem Wr.kept {w w' : World} {p : Nat} {v : Value} {bs : List UInt8} {S : List Nat} (h : Wr w p v bs) (hk : Kp S w w') (hn : ∀ k ∈ p :: own v, k ∉ S) : Wr w' p v bs :=
  ⟨(hk.cell h.lt (hn p (by simp))).trans h.cell, (hk.frozen h.lt (hn p (by simp))).trans h.free, h.row.kept hk (fun k hk' => hn k (by simp [hk'])), h.apart⟩
theorem Wr.keptNew {w w' : World} {p : Nat} {v : Value} {bs : List UInt8} (h : Wr w p v bs) (hk : Kp [] w w') : Wr w' p v bs := h.kept hk (by simp)

/-- What a writer's call may turn: the writer's own cell and row; the row behind it is that one, or new. -/
structure Wrote (p : Nat) (v : Value) (w : World) (v' : Value) (w' : World) : Prop where
  kp : Kp (p :: own v) w w'
  new : ∀ k ∈ own v', k ∈ own v ∨ w.heap.size ≤ k
theorem Wrote.refl (p : Nat) (v : Value) (w : World) : Wrote p v w v w := ⟨Kp.refl _ _, fun _ h => .inl h⟩
theorem Wrote.trans {p : Nat} {v v1 v2 : Value} {w w1 w2 : World} (h : Wrote p v w v1 w1) (k : Wrote p v1 w1 v2 w2) : Wrote p v w v2 w2 :=
  ⟨h.kp.trans k.kp (fun x hx => by
      rcases List.mem_cons.1 hx with rfl | hx
      · simp
      · rcases h.new x hx with h1 | h1
        · simp [h1]
        · exact .inr h1),
   fun x hx => by
      rcases k.new x hx with h1 | h1
      · exact h.new x h1
      · exact .inr (Nat.le_trans h.kp.size h1)⟩
theorem Wrote.pre {p : Nat} {v v1 : Value} {w w0 w1 : World} (h : Kp [] w w0) (k : Wrote p v w0 v1 w1) : Wrote p v w v1 w1 :=
  ⟨(h.mono (T := p :: own v) (by simp)).trans k.kp (fun _ hx => .inl hx), fun x hx => (k.new x hx).imp id (Nat.le_trans h.size)⟩
theorem Wrote.post {p : Nat} {v v1 : Value} {w w1 w2 : World} (h : Wrote p v w v1 w1) (k : Kp [] w1 w2) : Wrote p v w v1 w2 :=
  ⟨h.kp.trans k (by simp), h.new⟩

/-- Behind an append onto the writer's row, and the store of the row into its cell. -/
theorem Wr.stored {w w0 w1 : World} {p : Nat} {v v' : Value} {bs bs' : List UInt8} (h : Wr w p v bs) (h0 : Kp [] w w0) (hr : Row w1 v' bs') (hg : Kp (own v) w0 w1) (hnew : ∀ k ∈ own v', k ∈ own v ∨ w0.heap.size ≤ k) :
    w1.cell? ⟨p, 0, none⟩ = some v ∧ w1.frozen? ⟨p, 0, none⟩ = false ∧ Wr (w1.setCell ⟨p, 0, none⟩ v') p v' bs' ∧ Wrote p v w v' (w1.setCell ⟨p, 0, none⟩ v') := by
  have hlt := h.lt
  have hnew' : ∀ k ∈ own v', k ∈ own v ∨ w.heap.size ≤ k := fun k hk => (hnew k hk).imp id (Nat.le_trans h0.size)
  have k1 : Kp (own v) w w1 := (h0.mono (T := own v) (by simp)).trans hg (fun _ hx => .inl hx)
  have hpv : p ∉ own v := h.apart
  have hpv' : p ∉ own v' := fun hp => by rcases hnew' p hp with h1 | h1; exact hpv h1; omega
  have c1 : w1.cell? ⟨p, 0, none⟩ = some v := (k1.cell hlt hpv).trans h.cell
  have f1 : w1.frozen? ⟨p, 0, none⟩ = false := (k1.frozen hlt hpv).trans h.free
  have k2 : Kp [p] w1 (w1.setCell ⟨p, 0, none⟩ v') := (Kp.refl [p] w1).setCell (by simp) _
  refine ⟨c1, f1, ⟨World.cell?_setCell_same _ _ _ c1, ?_, hr.kept k2 (fun k hk e => ?_), hpv'⟩, ⟨?_, hnew'⟩⟩
  · rw [World.frozen?_setCell]; exact f1
  · rw [List.mem_singleton] at e; subst e; exact hpv' hk
  · exact (k1.mono (T := p :: own v) (fun x hx => .inl (by simp [hx]))).setCell (by simp) _

theorem Sees.new (w : World) (C : Array Value) (t : TypeId) (fr : Nat × Nat) (bs : List UInt8) (h : C.toList = bcells bs) : Sees (w.alloc (.cells C t fr)) (some ⟨w.heap.size, 0, none⟩) bs := by
  refine .inr ⟨w.heap.size, 0, rfl, fun j u hu => ?_⟩
  have e : (w.alloc (.cells C t fr)).heap[w.heap.size]? = some (.cells C t fr) := by show (w.heap.push (.cells C t fr))[w.heap.size]? = _; simp
  have e2 : (w.alloc (.cells C t fr)).cell? ⟨w.heap.size, 0 + j, none⟩ = C[0 + j]? := by unfold World.cell?; rw [e]; rfl
  rw [e2, Nat.zero_add, ← Array.getElem?_toList, h, bcells_get, hu]
  rfl
/-- A writer of the call's own, at work: nothing that was there turns. -/
theorem stepW {w wn wm : World} {p : Nat} {v v' : Value} (kw : Kp [] w wn) (hp : w.heap.size ≤ p) (ho : ∀ k ∈ own v, w.heap.size ≤ k) (hr : Wrote p v wn v' wm) : Kp [] w wm ∧ ∀ k ∈ own v', w.heap.size ≤ k :=
  ⟨kw.trans hr.kp (fun x hx => .inr (by rcases List.mem_cons.1 hx with rfl | hx; exact hp; exact ho x hx)), fun k hk => by
    rcases hr.new k hk with h1 | h1
    · exact ho k h1
    · exact Nat.le_trans kw.size h1⟩
/-- A reader of the call's own, at work. -/
theorem stepR {w wn wm : World} {p : Nat} (kw : Kp [] w wn) (hp : w.heap.size ≤ p) (hr : Kp [p] wn wm) : Kp [] w wm :=
  kw.trans hr (fun x hx => .inr (by rw [List.mem_singleton] at hx; omega))
theorem Sees.set {w : World} {g o : Nat} {bs : List UInt8} (hc : ∀ j u, bs[j]? = some u → w.cell? ⟨g, o + j, none⟩ = some (.int .u8 u.toNat)) (i : Nat) (y : UInt8) (hi : i < bs.length) :
    Sees (w.setCell ⟨g, o + i, none⟩ (.int .u8 y.toNat)) (some ⟨g, o, none⟩) (bs.set i y) := by
  refine .inr ⟨g, o, rfl, fun j u hu => ?_⟩
  by_cases hj : j = i
  · subst hj
    rw [List.getElem?_set_self hi] at hu
    cases hu
    exact World.cell?_setCell_same _ _ _ (hc j bs[j] (by simp [hi]))
  · rw [List.getElem?_set_ne (fun h => hj h.symm)] at hu
    rw [World.cell?_setCell_other _ _ _ _ (by intro h; simp only [Addr.mk.injEq] at h; omega)]
    exact hc j u hu
theorem Sees.drew {w : World} {a : Option Addr} {bs : List UInt8} (h : Sees w a bs) : Sees w.drew a bs := h
/-- An append onto a row of the call's own. -/
theorem stepA {w wn wm : World} {v v' : Value} (kw : Kp [] w wn) (ho : ∀ k ∈ own v, w.heap.size ≤ k) (hk : Kp (own v) wn wm) (hn : ∀ k ∈ own v', k ∈ own v ∨ wn.heap.size ≤ k) : Kp [] w wm ∧ ∀ k ∈ own v', w.heap.size ≤ k :=
  ⟨kw.trans hk (fun x hx => .inr (ho x hx)), fun k hk' => by
    rcases hn k hk' with h1 | h1
    · exact ho k h1
    · exact Nat.le_trans kw.size h1⟩
theorem ret_int {k : IntKind} {a b : Int} (h : a = b) : Ending.returned (.int k a) = .returned (.int k b) := by rw [h]
theorem hid {p : Prop} (h : p) : Hid p := h
end Go.Hay
end

section
namespace Go.Hay
open Go.RowKit
set_option linter.unusedVariables false
set_option linter.unusedSimpArgs false

/-- A file: its name, its bytes, how many of them last. -/
structure Fl where
  name : List UInt8
  bytes : List UInt8
  last : Nat
/-- A disk. -/
structure Dk where
  room : Nat
  steps : Nat
  files : List Fl
  arm : Option Nat
  dead : Bool

def nameOk (s : List UInt8) : Bool := s.all (fun c => decide (33 ≤ c.toNat) && decide (c.toNat ≤ 126)) && (decide (1 ≤ s.length) && decide (s.length ≤ 32))

/-- No later than. -/
def leN (a b : List UInt8) : Bool := bytesBefore a b || a == b
theorem bb_irrefl : ∀ (a : List UInt8), bytesBefore a a = false
  | [] => rfl
  | x :: r => by simp [bytesBefore, bb_irrefl r]
theorem bb_total : ∀ (a b : List UInt8), a ≠ b → bytesBefore a b = true ∨ bytesBefore b a = true
  | [], [], h => absurd rfl h
  | [], _ :: _, _ => .inl rfl
  | _ :: _, [], _ => .inr rfl
  | x :: r, y :: s, h => by
    simp only [bytesBefore, Bool.or_eq_true, Bool.and_eq_true, decide_eq_true_eq, beq_iff_eq]
    rcases Nat.lt_trichotomy x.toNat y.toNat with h1 | h1 | h1
    · exact .inl (.inl (UInt8.lt_iff_toNat_lt.2 h1))
    · have e : x = y := UInt8.toNat_inj.1 h1
      subst e
      rcases bb_total r s (fun e => h (by rw [e])) with h2 | h2
      · exact .inl (.inr ⟨rfl, h2⟩)
      · exact .inr (.inr ⟨rfl, h2⟩)
    · exact .inr (.inl (UInt8.lt_iff_toNat_lt.2 h1))
theorem bb_trans : ∀ (a b c : List UInt8), bytesBefore a b = true → bytesBefore b c = true → bytesBefore a c = true
  | [], [], _, h, _ => by cases h
  | [], _ :: _, [], _, h => by cases h
  | [], _ :: _, _ :: _, _, _ => rfl
  | _ :: _, [], _, h, _ => by cases h
  | _ :: _, _ :: _, [], _, h => by cases h
  | x :: r, y :: s, z :: t, h, k => by
    simp only [bytesBefore, Bool.or_eq_true, Bool.and_eq_true, decide_eq_true_eq, beq_iff_eq] at h k ⊢
    rcases h with h | ⟨rfl, h⟩
    · rcases k with k | ⟨rfl, k⟩
      · exact .inl (UInt8.lt_trans h k)
      · exact .inl h
    · rcases k with k | ⟨rfl, k⟩
      · exact .inl k
      · exact .inr ⟨rfl, bb_trans r s t h k⟩
theorem bb_asymm {a b : List UInt8} (h : bytesBefore a b = true) : bytesBefore b a = false := by
  cases hb : bytesBefore b a with
  | false => rfl
  | true => have := bb_trans _ _ _ h hb; rw [bb_irrefl] at this; cases this
theorem bb_ne {a b : List UInt8} (h : bytesBefore a b = true) : a ≠ b := fun e => by subst e; rw [bb_irrefl] at h; cases h
/-- .. as lists are ordered. -/
theorem bb_lt : ∀ (a b : List UInt8), bytesBefore a b = true ↔ a < b
  | [], [] => by simp [bytesBefore]
  | [], _ :: _ => by simp [bytesBefore]
  | _ :: _, [] => by simp [bytesBefore]
  | x :: r, y :: s => by
    simp only [bytesBefore, Bool.or_eq_true, Bool.and_eq_true, decide_eq_true_eq, beq_iff_eq, List.cons_lt_cons_iff, bb_lt r s]

section
variable {α : Type} (nm : α → List UInt8)
/-- A thing put into its place; of its name there was one, or none. -/
def putG (f : α) : Bool → List α → List α
  | done, [] => if done then [] else [f]
  | done, g :: r => (if !done && leN (nm f) (nm g) then [f] else []) ++ ((if nm g == nm f then [] else [g]) ++ putG f (done || leN (nm f) (nm g)) r)
def dropG (k : List UInt8) (l : List α) : List α := l.filter fun g => !(nm g == k)
def riseG (l : List α) : Prop := l.Pairwise fun a b => bytesBefore (nm a) (nm b) = true
def lookG (k : List UInt8) (l : List α) : Option α := l.find? fun g => nm g == k
def insG (f : α) : List α → List α
  | [] => [f]
  | y :: r => if bytesBefore (nm f) (nm y) then f :: y :: r else y :: insG f r
variable {nm}
theorem putG_done (f : α) : ∀ l, putG nm f true l = dropG nm (nm f) l
  | [] => rfl
  | g :: r => by
    simp only [putG, Bool.not_true, Bool.false_and, Bool.true_or, putG_done f r, dropG, List.filter_cons]
    cases nm g == nm f <;> simp
theorem dropG_all {k : List UInt8} {l : List α} (h : ∀ x ∈ l, nm x ≠ k) : dropG nm k l = l := by
  unfold dropG
  rw [List.filter_eq_self]
  intro x hx
  simp [h x hx]
theorem putG_ins (f : α) : ∀ (l : List α), riseG nm l → putG nm f false l = insG nm f (dropG nm (nm f) l)
  | [], _ => rfl
  | g :: r, h => by
    have hr := (List.pairwise_cons.1 h)
    by_cases e : nm g = nm f
    · have hd : dropG nm (nm f) r = r := dropG_all (fun x hx e' => bb_ne (hr.1 x hx) (e.trans e'.symm))
      have h1 : dropG nm (nm f) (g :: r) = r := by
        have : dropG nm (nm f) (g :: r) = dropG nm (nm f) r := by simp [dropG, List.filter_cons, e]
        rw [this, hd]
      rw [h1]
      have h2 : putG nm f false (g :: r) = f :: r := by simp [putG, leN, e, putG_done, hd]
      rw [h2]
      cases r with
      | nil => rfl
      | cons y s => have := hr.1 y (by simp); rw [e] at this; simp [insG, this]
    · have h1 : dropG nm (nm f) (g :: r) = g :: dropG nm (nm f) r := by simp [dropG, List.filter_cons, e]
      rw [h1]
      by_cases hb : bytesBefore (nm f) (nm g) = true
      · simp [putG, leN, hb, e, putG_done, insG]
      · have hle : leN (nm f) (nm g) = false := by simp [leN, hb, Ne.symm e]
        simp only [Bool.not_eq_true] at hb
        simp [putG, hle, e, insG, hb, putG_ins f r hr.2]
theorem riseG_drop (k : List UInt8) {l : List α} (h : riseG nm l) : riseG nm (dropG nm k l) := h.sublist List.filter_sublist
theorem mem_insG {f x : α} : ∀ {l : List α}, x ∈ insG nm f l ↔ x = f ∨ x ∈ l
  | [] => by simp [insG]
  | y :: r => by
    unfold insG
    split
    · simp
    · simp only [List.mem_cons, mem_insG (l := r)]
      constructor
      · rintro (h | h | h) <;> simp [h]
      · rintro (h | h | h) <;> simp [h]
theorem mem_dropG {k : List UInt8} {x : α} {l : List α} : x ∈ dropG nm k l ↔ x ∈ l ∧ nm x ≠ k := by simp [dropG]
theorem mem_putG {f x : α} {l : List α} (h : riseG nm l) : x ∈ putG nm f false l ↔ x = f ∨ (x ∈ l ∧ nm x ≠ nm f) := by
  rw [putG_ins f l h, mem_insG, mem_dropG]
theorem riseG_ins {f : α} : ∀ {l : List α}, riseG nm l → (∀ x ∈ l, nm x ≠ nm f) → riseG nm (insG nm f l)
  | [], _, _ => List.pairwise_singleton _ _
  | y :: r, h, hn => by
    have hr := List.pairwise_cons.1 h
    unfold insG
    split
    · rename_i hb
      refine List.pairwise_cons.2 ⟨fun x hx => ?_, h⟩
      rcases List.mem_cons.1 hx with rfl | hx
      · exact hb
      · exact bb_trans _ _ _ hb (hr.1 x hx)
    · rename_i hb
      refine List.pairwise_cons.2 ⟨fun x hx => ?_, riseG_ins hr.2 (fun x hx => hn x (by simp [hx]))⟩
      rcases mem_insG.1 hx with rfl | hx
      · rcases bb_total _ _ (hn y (by simp)) with h1 | h1
        · exact h1
        · exact absurd h1 hb
      · exact hr.1 x hx
theorem riseG_put (f : α) {l : List α} (h : riseG nm l) : riseG nm (putG nm f false l) := by
  rw [putG_ins f l h]
  exact riseG_ins (riseG_drop _ h) (fun x hx => (mem_dropG.1 hx).2)
theorem putG_map {β : Type} {nm' : β → List UInt8} (φ : α → β) (hφ : ∀ x, nm' (φ x) = nm x) (f : α) : ∀ (b : Bool) (l : List α), (putG nm f b l).map φ = putG nm' (φ f) b (l.map φ)
  | b, [] => by cases b <;> rfl
  | b, g :: r => by
    simp only [putG, List.map_append, List.map_cons, hφ, putG_map φ hφ f _ r]
    congr 1
    · split <;> rfl
    · congr 1
      split <;> rfl
theorem dropG_map {β : Type} {nm' : β → List UInt8} (φ : α → β) (hφ : ∀ x, nm' (φ x) = nm x) (k : List UInt8) (l : List α) : (dropG nm k l).map φ = dropG nm' k (l.map φ) := by
  simp [dropG, List.filter_map, Function.comp_def, hφ]
theorem riseG_map {β : Type} {nm' : β → List UInt8} (φ : α → β) (hφ : ∀ x, nm' (φ x) = nm x) {l : List α} : riseG nm' (l.map φ) ↔ riseG nm l := by
  simp [riseG, List.pairwise_map, hφ]
theorem lookG_map {β : Type} {nm' : β → List UInt8} (φ : α → β) (hφ : ∀ x, nm' (φ x) = nm x) (k : List UInt8) (l : List α) : lookG nm' k (l.map φ) = (lookG nm k l).map φ := by
  simp [lookG, List.find?_map, Function.comp_def, hφ]
theorem lookG_some {k : List UInt8} {l : List α} {x : α} (h : lookG nm k l = some x) : x ∈ l ∧ nm x = k :=
  ⟨List.mem_of_find?_eq_some h, by simpa using List.find?_some h⟩
theorem lookG_none {k : List UInt8} {l : List α} (h : lookG nm k l = none) : ∀ x ∈ l, nm x ≠ k := fun x hx => by simpa using List.find?_eq_none.1 h x hx
theorem rise_inj {l : List α} (h : riseG nm l) {x y : α} (hx : x ∈ l) (hy : y ∈ l) (e : nm x = nm y) : x = y := by
  induction l with
  | nil => cases hx
  | cons a l ih =>
    have hr := List.pairwise_cons.1 h
    rcases List.mem_cons.1 hx with ex | hx' <;> rcases List.mem_cons.1 hy with ey | hy'
    · exact ex.trans ey.symm
    · exact absurd e (by rw [ex]; exact bb_ne (hr.1 y hy'))
    · exact absurd e.symm (by rw [ey]; exact bb_ne (hr.1 x hx'))
    · exact ih hr.2 hx' hy'
theorem lookG_mem {k : List UInt8} {l : List α} (h : riseG nm l) {x : α} (hx : x ∈ l) (e : nm x = k) : lookG nm k l = some x := by
  cases hl : lookG nm k l with
  | none => exact absurd e (lookG_none hl x hx)
  | some y => obtain ⟨hy, ey⟩ := lookG_some hl; rw [rise_inj h hy hx (ey.trans e.symm)]
/-- Where one of the name is there, the place is its own. -/
theorem putG_set (f : α) : ∀ (l : List α), riseG nm l → (∃ x ∈ l, nm x = nm f) → putG nm f false l = l.map fun g => if nm g == nm f then f else g
  | [], _, h => by obtain ⟨x, hx, _⟩ := h; cases hx
  | g :: r, h, hx => by
    have hr := List.pairwise_cons.1 h
    by_cases e : nm g = nm f
    · have hd : dropG nm (nm f) r = r := dropG_all (fun x hx e' => bb_ne (hr.1 x hx) (e.trans e'.symm))
      have hm : r.map (fun g => if nm g == nm f then f else g) = r := by
        conv => rhs; rw [← List.map_id r]
        refine List.map_congr_left fun x hx => ?_
        have : nm x ≠ nm f := fun e' => bb_ne (hr.1 x hx) (e.trans e'.symm)
        simp [this]
      rw [List.map_cons, hm]
      simp [putG, leN, e, putG_done, hd]
    · obtain ⟨x, hx, ex⟩ := hx
      rcases List.mem_cons.1 hx with rfl | hx
      · exact absurd ex e
      · have hb := hr.1 x hx
        rw [ex] at hb
        have hle : leN (nm f) (nm g) = false := by simp [leN, bb_asymm hb, Ne.symm e]
        simp [putG, hle, e, putG_set f r hr.2 ⟨x, hx, ex⟩]
theorem sum_drop (φ : α → Nat) {k : List UInt8} : ∀ {l : List α}, riseG nm l → ((dropG nm k l).map φ).sum + ((lookG nm k l).map φ).getD 0 = (l.map φ).sum
  | [], _ => rfl
  | g :: r, h => by
    have hr := List.pairwise_cons.1 h
    have ih := sum_drop φ (k := k) hr.2
    by_cases e : nm g = k
    · have hd : dropG nm k r = r := dropG_all (fun x hx e' => bb_ne (hr.1 x hx) (e.trans e'.symm))
      have h1 : dropG nm k (g :: r) = r := by
        have : dropG nm k (g :: r) = dropG nm k r := by simp [dropG, List.filter_cons, e]
        rw [this, hd]
      simp [h1, lookG, e]
      omega
    · have h1 : dropG nm k (g :: r) = g :: dropG nm k r := by simp [dropG, List.filter_cons, e]
      have h2 : lookG nm k (g :: r) = lookG nm k r := by simp [lookG, e]
      rw [h1, h2]
      simp only [List.map_cons, List.sum_cons]
      omega
theorem sum_sub (φ : α → Nat) : ∀ (s l : List α), riseG nm l → (∀ y ∈ s, y ∈ l) → (s.map nm).Nodup → (s.map φ).sum ≤ (l.map φ).sum
  | [], _, _, _, _ => Nat.zero_le _
  | y :: s, l, hr, hm, hn => by
    rw [List.map_cons, List.nodup_cons] at hn
    have h1 := sum_sub φ s (dropG nm (nm y) l) (riseG_drop _ hr) (fun z hz => mem_dropG.2 ⟨hm z (by simp [hz]), fun e => hn.1 (by rw [← e]; exact List.mem_map_of_mem hz)⟩) hn.2
    have h2 := sum_drop (nm := nm) φ (k := nm y) hr
    rw [lookG_mem hr (hm y (by simp)) rfl] at h2
    simp only [Option.map_some, Option.getD_some, List.map_cons, List.sum_cons] at h2 ⊢
    omega
theorem sum_ins (φ : α → Nat) (f : α) : ∀ (l : List α), ((insG nm f l).map φ).sum = φ f + (l.map φ).sum
  | [] => rfl
  | y :: r => by
    unfold insG
    split
    · simp
    · simp only [List.map_cons, List.sum_cons, sum_ins φ f r]; omega
theorem sum_put (φ : α → Nat) (f : α) {l : List α} (h : riseG nm l) : ((putG nm f false l).map φ).sum + ((lookG nm (nm f) l).map φ).getD 0 = (l.map φ).sum + φ f := by
  rw [putG_ins f l h, sum_ins]
  have := sum_drop (nm := nm) φ (k := nm f) h
  omega
end

/-- How many bytes there are. -/
def sumF (l : List Fl) : Nat := (l.map fun f => f.bytes.length).sum
/-- What every disk is. -/
structure Okd (d : Dk) : Prop where
  rise : riseG Fl.name d.files
  last : ∀ f ∈ d.files, f.last ≤ f.bytes.length
  name : ∀ f ∈ d.files, nameOk f.name = true
  sum : sumF d.files ≤ d.room
  room : d.room < 9223372036854775808
  arm : ∀ n, d.arm = some n → n < 9223372036854775808

def newD (room : Int) : Dk := ⟨room.toNat, 0, [], none, false⟩
def freeD (d : Dk) : Int := (d.room : Int) - sumF d.files
/-- A step: the disk behind it; does it die there? -/
def stepD (d : Dk) : Dk × Bool := if d.arm = some 0 then ({ d with steps := d.steps + 1, dead := true }, true) else ({ d with steps := d.steps + 1, arm := d.arm.map (· - 1) }, false)
def fileOf (l : List Fl) (name : List UInt8) : Fl := (lookG Fl.name name l).getD ⟨name, [], 0⟩
def grownF (l : List Fl) (name b : List UInt8) : List Fl := putG Fl.name { fileOf l name with bytes := (fileOf l name).bytes ++ b } false l
def appendD (d : Dk) (name b : List UInt8) : Dk × Int :=
  if d.dead then (d, 44) else if !nameOk name then (d, 40) else if (b.length : Int) > freeD d then (d, 41) else
    ((stepD { d with files := grownF d.files name b }).1, if (stepD { d with files := grownF d.files name b }).2 then 44 else 0)
def refusedD (d : Dk) (call : Int) (name to : List UInt8) (n : Int) : Int :=
  if d.dead then 44 else match lookG Fl.name name d.files with
    | none => 42
    | some f => if call == 2 && (decide (n < 0) || decide (n > (f.bytes.length : Int))) then 43 else if call == 3 && !nameOk to then 40 else 0
def changedF (l : List Fl) (call : Int) (name to : List UInt8) (n : Int) : List Fl :=
  if call = 1 then putG Fl.name { fileOf l name with last := (fileOf l name).bytes.length } false l
  else if call = 2 then putG Fl.name { fileOf l name with bytes := (fileOf l name).bytes.take n.toNat, last := min (fileOf l name).last n.toNat } false l
  else if call = 3 then putG Fl.name { fileOf l name with name := to } false (dropG Fl.name name l)
  else dropG Fl.name name l
def doD (d : Dk) (call : Int) (name to : List UInt8) (n : Int) : Dk × Int :=
  if refusedD d call name to n ≠ 0 then (d, refusedD d call name to n)
  else if (stepD d).2 then ((stepD d).1, 44)
  else ({ (stepD d).1 with files := changedF d.files call name to n }, 0)
def armD (d : Dk) (at_ : Int) : Dk := if d.dead then d else { d with arm := if at_ ≥ 0 then some at_.toNat else none }
def keptF (f : Fl) (k : Int) : Fl := { f with bytes := f.bytes.take (f.last + min k.toNat (f.bytes.length - f.last)), last := f.last + min k.toNat (f.bytes.length - f.last) }
def crashF : List Fl → List Int → List Fl
  | [], _ => []
  | f :: r, [] => keptF f 0 :: crashF r []
  | f :: r, k :: ks => keptF f k :: crashF r ks
def crashD (d : Dk) (keep : List Int) : Dk := ⟨d.room, 0, crashF d.files keep, none, false⟩
def flipOk (d : Dk) (name : List UInt8) (at_ bit : Int) : Bool :=
  match lookG Fl.name name d.files with
  | none => false
  | some f => decide (0 ≤ at_) && decide (at_ < f.bytes.length) && decide (0 ≤ bit) && decide (bit ≤ 7)
def flipB (bs : List UInt8) (i bit : Nat) : List UInt8 := bs.set i ((bs.getD i 0) ^^^ UInt8.ofNat (2 ^ bit))
def flipD (d : Dk) (name : List UInt8) (at_ bit : Int) : Dk :=
  if flipOk d name at_ bit then { d with files := putG Fl.name { fileOf d.files name with bytes := flipB (fileOf d.files name).bytes at_.toNat bit.toNat } false d.files } else d
def wipeD (d : Dk) : Dk := { d with files := [] }
end Go.Hay
end

section
namespace Go.Hay
open Go.RowKit
set_option linter.unusedVariables false
set_option linter.unusedSimpArgs false

theorem fileOf_some {l : List Fl} {k : List UInt8} {f : Fl} (h : lookG Fl.name k l = some f) : fileOf l k = f := by simp [fileOf, h]
theorem fileOf_none {l : List Fl} {k : List UInt8} (h : lookG Fl.name k l = none) : fileOf l k = ⟨k, [], 0⟩ := by simp [fileOf, h]
theorem fileOf_name (l : List Fl) (k : List UInt8) : (fileOf l k).name = k := by
  cases h : lookG Fl.name k l with
  | none => rw [fileOf_none h]
  | some f => rw [fileOf_some h]; exact (lookG_some h).2
theorem fileOf_len (l : List Fl) (k : List UInt8) : ((lookG Fl.name k l).map fun f => f.bytes.length).getD 0 = (fileOf l k).bytes.length := by
  cases h : lookG Fl.name k l with
  | none => rw [fileOf_none h]; rfl
  | some f => rw [fileOf_some h]; rfl
theorem fileOf_last {d : Dk} (ho : Okd d) (k : List UInt8) : (fileOf d.files k).last ≤ (fileOf d.files k).bytes.length := by
  cases h : lookG Fl.name k d.files with
  | none => rw [fileOf_none h]; exact Nat.le_refl _
  | some f => rw [fileOf_some h]; exact ho.last f (lookG_some h).1
/-- A file put. -/
theorem okPut {d : Dk} (ho : Okd d) (f : Fl) (hl : f.last ≤ f.bytes.length) (hn : nameOk f.name = true) (hs : sumF d.files + f.bytes.length ≤ d.room + (fileOf d.files f.name).bytes.length) : Okd { d with files := putG Fl.name f false d.files } := by
  refine ⟨riseG_put f ho.rise, fun x hx => ?_, fun x hx => ?_, ?_, ho.room, ho.arm⟩
  · rcases (mem_putG ho.rise).1 hx with rfl | hx
    · exact hl
    · exact ho.last x hx.1
  · rcases (mem_putG ho.rise).1 hx with rfl | hx
    · exact hn
    · exact ho.name x hx.1
  · have := sum_put (nm := Fl.name) (fun f : Fl => f.bytes.length) f ho.rise
    rw [fileOf_len] at this
    simp only [sumF] at hs ⊢
    omega
theorem okDrop {d : Dk} (ho : Okd d) (k : List UInt8) : Okd { d with files := dropG Fl.name k d.files } := by
  refine ⟨riseG_drop k ho.rise, fun x hx => ho.last x (mem_dropG.1 hx).1, fun x hx => ho.name x (mem_dropG.1 hx).1, ?_, ho.room, ho.arm⟩
  have := sum_drop (nm := Fl.name) (fun f : Fl => f.bytes.length) (k := k) ho.rise
  have := ho.sum
  simp only [sumF] at *
  omega
theorem okGrown {d : Dk} (ho : Okd d) {name b : List UInt8} (hn : nameOk name = true) (hf : (b.length : Int) ≤ freeD d) : Okd { d with files := grownF d.files name b } := by
  refine okPut ho _ ?_ (by simp only [fileOf_name]; exact hn) ?_
  · have := fileOf_last ho name
    simp only [List.length_append]
    omega
  · simp only [fileOf_name, List.length_append]
    unfold freeD at hf
    omega
theorem okSync {d : Dk} (ho : Okd d) {name : List UInt8} {f : Fl} (h : lookG Fl.name name d.files = some f) : Okd { d with files := putG Fl.name { f with last := f.bytes.length } false d.files } := by
  obtain ⟨hm, rfl⟩ := lookG_some h
  refine okPut ho _ (Nat.le_refl _) (ho.name f hm) ?_
  have e := fileOf_some h
  have := ho.sum
  simp only [e]
  omega
theorem okTrunc {d : Dk} (ho : Okd d) {name : List UInt8} {f : Fl} (h : lookG Fl.name name d.files = some f) (n : Nat) (hn : n ≤ f.bytes.length) : Okd { d with files := putG Fl.name { f with bytes := f.bytes.take n, last := min f.last n } false d.files } := by
  obtain ⟨hm, rfl⟩ := lookG_some h
  refine okPut ho _ ?_ (ho.name f hm) ?_
  · simp only [List.length_take]
    have := ho.last f hm
    omega
  · have e := fileOf_some h
    have := ho.sum
    simp only [e, List.length_take]
    omega
theorem flipB_length (bs : List UInt8) (i bit : Nat) : (flipB bs i bit).length = bs.length := by simp [flipB]
theorem okFlip {d : Dk} (ho : Okd d) {name : List UInt8} {f : Fl} (h : lookG Fl.name name d.files = some f) (i b : Nat) : Okd { d with files := putG Fl.name { f with bytes := flipB f.bytes i b } false d.files } := by
  obtain ⟨hm, rfl⟩ := lookG_some h
  refine okPut ho _ ?_ (ho.name f hm) ?_
  · simp only [flipB_length]; exact ho.last f hm
  · have e := fileOf_some h
    have := ho.sum
    simp only [e, flipB_length]
    omega
theorem okRename {d : Dk} (ho : Okd d) {name to : List UInt8} {f : Fl} (h : lookG Fl.name name d.files = some f) (ht : nameOk to = true) : Okd { d with files := putG Fl.name { f with name := to } false (dropG Fl.name name d.files) } := by
  have hd := okDrop ho name
  refine okPut hd { f with name := to } ?_ ht ?_
  · exact ho.last f (lookG_some h).1
  · have := sum_drop (nm := Fl.name) (fun f : Fl => f.bytes.length) (k := name) ho.rise
    have e := fileOf_len d.files name
    rw [fileOf_some h] at e
    have h2 := ho.sum
    simp only [sumF] at *
    omega
theorem okWipe {d : Dk} (ho : Okd d) : Okd (wipeD d) := ⟨List.Pairwise.nil, by simp [wipeD], by simp [wipeD], by simp [wipeD, sumF], ho.room, ho.arm⟩
theorem keptF_le {f : Fl} (h : f.last ≤ f.bytes.length) (k : Int) : (keptF f k).bytes.length = (keptF f k).last ∧ (keptF f k).last ≤ f.bytes.length ∧ (keptF f k).name = f.name := by
  simp only [keptF, List.length_take]
  refine ⟨by omega, by omega, trivial⟩
theorem crashF_name : ∀ (l : List Fl) (ks : List Int), (crashF l ks).map Fl.name = l.map Fl.name
  | [], _ => by simp [crashF]
  | f :: r, [] => by simp [crashF, crashF_name r, keptF]
  | f :: r, k :: ks => by simp [crashF, crashF_name r, keptF]
theorem crashF_mem : ∀ (l : List Fl) (ks : List Int), ∀ x ∈ crashF l ks, ∃ f ∈ l, ∃ k, x = keptF f k
  | [], _ => by simp [crashF]
  | f :: r, [] => by
    intro x hx
    rcases List.mem_cons.1 hx with rfl | hx
    · exact ⟨f, by simp, 0, rfl⟩
    · obtain ⟨g, hg, k, e⟩ := crashF_mem r [] x hx
      exact ⟨g, by simp [hg], k, e⟩
  | f :: r, k :: ks => by
    intro x hx
    rcases List.mem_cons.1 hx with rfl | hx
    · exact ⟨f, by simp, k, rfl⟩
    · obtain ⟨g, hg, k, e⟩ := crashF_mem r ks x hx
      exact ⟨g, by simp [hg], k, e⟩
theorem crashF_sum : ∀ (l : List Fl) (ks : List Int), (∀ f ∈ l, f.last ≤ f.bytes.length) → sumF (crashF l ks) ≤ sumF l
  | [], _, _ => by simp [crashF]
  | f :: r, [], h => by
    have := crashF_sum r [] (fun x hx => h x (by simp [hx]))
    have := keptF_le (h f (by simp)) 0
    simp only [crashF, sumF, List.map_cons, List.sum_cons] at *
    omega
  | f :: r, k :: ks, h => by
    have := crashF_sum r ks (fun x hx => h x (by simp [hx]))
    have := keptF_le (h f (by simp)) k
    simp only [crashF, sumF, List.map_cons, List.sum_cons] at *
    omega
theorem okCrash {d : Dk} (ho : Okd d) (ks : List Int) : Okd (crashD d ks) := by
  refine ⟨?_, fun x hx => ?_, fun x hx => ?_, ?_, ho.room, by simp [crashD]⟩
  · have e := crashF_name d.files ks
    have h1 : riseG id ((crashF d.files ks).map Fl.name) := by rw [e]; exact (riseG_map Fl.name (fun _ => rfl)).2 ho.rise
    exact (riseG_map (nm := Fl.name) (nm' := id) Fl.name (fun _ => rfl)).1 h1
  · obtain ⟨f, hf, k, rfl⟩ := crashF_mem _ _ x hx
    exact Nat.le_of_eq (keptF_le (ho.last f hf) k).1.symm
  · obtain ⟨f, hf, k, rfl⟩ := crashF_mem _ _ x hx
    rw [(keptF_le (ho.last f hf) k).2.2]; exact ho.name f hf
  · exact Nat.le_trans (crashF_sum _ _ ho.last) ho.sum
end Go.Hay
end

section
namespace Go.Proofs.Ytgllkonbgigcbaa
open Go.RowKit Go.Hay Go.Maps
set_option linter.unusedVariables false
set_option linter.unusedSimpArgs false

/-- A disk's own block. -/
structure Hd (w : World) (p : Nat) (room : Int) (mb : Nat) (steps left : Int) (dead : Bool) : Prop where
  c0 : w.cell? ⟨p, 0, none⟩ = some (.int .i64 room)
  c1 : w.cell? ⟨p, 1, none⟩ = some (.map (some mb))
  c2 : w.cell? ⟨p, 2, none⟩ = some (.int .i64 steps)
  c3 : w.cell? ⟨p, 3, none⟩ = some (.int .i64 left)
  c4 : w.cell? ⟨p, 4, none⟩ = some (.bool dead)
  free : ∀ j, w.frozen? ⟨p, j, none⟩ = false
section
variable {w w' : World} {p mb : Nat} {room steps left : Int} {dead : Bool}
theorem Hd.lt (h : Hd w p room mb steps left dead) : p < w.heap.size := World.block_lt_of_cell? _ _ h.c0
theorem Hd.kept {S : List Nat} (h : Hd w p room mb steps left dead) (hk : Kp S w w') (hp : p ∉ S) : Hd w' p room mb steps left dead :=
  ⟨(hk.cell (p := ⟨p, 0, none⟩) h.lt hp).trans h.c0, (hk.cell (p := ⟨p, 1, none⟩) h.lt hp).trans h.c1, (hk.cell (p := ⟨p, 2, none⟩) h.lt hp).trans h.c2, (hk.cell (p := ⟨p, 3, none⟩) h.lt hp).trans h.c3, (hk.cell (p := ⟨p, 4, none⟩) h.lt hp).trans h.c4, fun j => (hk.frozen (p := ⟨p, j, none⟩) h.lt hp).trans (h.free j)⟩
theorem off_ne {p i j : Nat} (h : i ≠ j) : (⟨p, i, none⟩ : Addr) ≠ ⟨p, j, none⟩ := fun e => h (by injection e)
theorem setCell_off {w : World} {p i j : Nat} (h : i ≠ j) (v : Value) : (w.setCell ⟨p, j, none⟩ v).cell? ⟨p, i, none⟩ = w.cell? ⟨p, i, none⟩ := World.cell?_setCell_other _ _ _ _ (off_ne (Ne.symm h))
theorem Hd.set2 (h : Hd w p room mb steps left dead) (s : Int) : Hd (w.setCell ⟨p, 2, none⟩ (.int .i64 s)) p room mb s left dead :=
  ⟨(setCell_off (by decide) _).trans h.c0, (setCell_off (by decide) _).trans h.c1, World.cell?_setCell_same _ _ _ h.c2, (setCell_off (by decide) _).trans h.c3, (setCell_off (by decide) _).trans h.c4, fun j => (World.frozen?_setCell _ _ _ _).trans (h.free j)⟩
theorem Hd.set3 (h : Hd w p room mb steps left dead) (s : Int) : Hd (w.setCell ⟨p, 3, none⟩ (.int .i64 s)) p room mb steps s dead :=
  ⟨(setCell_off (by decide) _).trans h.c0, (setCell_off (by decide) _).trans h.c1, (setCell_off (by decide) _).trans h.c2, World.cell?_setCell_same _ _ _ h.c3, (setCell_off (by decide) _).trans h.c4, fun j => (World.frozen?_setCell _ _ _ _).trans (h.free j)⟩
theorem Hd.set4 (h : Hd w p room mb steps left dead) (s : Bool) : Hd (w.setCell ⟨p, 4, none⟩ (.bool s)) p room mb steps left s :=
  ⟨(setCell_off (by decide) _).trans h.c0, (setCell_off (by decide) _).trans h.c1, (setCell_off (by decide) _).trans h.c2, (setCell_off (by decide) _).trans h.c3, World.cell?_setCell_same _ _ _ h.c4, fun j => (World.frozen?_setCell _ _ _ _).trans (h.free j)⟩
theorem Hd.set1 (h : Hd w p room mb steps left dead) (m : Nat) : Hd (w.setCell ⟨p, 1, none⟩ (.map (some m))) p room m steps left dead :=
  ⟨(setCell_off (by decide) _).trans h.c0, World.cell?_setCell_same _ _ _ h.c1, (setCell_off (by decide) _).trans h.c2, (setCell_off (by decide) _).trans h.c3, (setCell_off (by decide) _).trans h.c4, fun j => (World.frozen?_setCell _ _ _ _).trans (h.free j)⟩
theorem Hd.new (w : World) (t : TypeId) : Hd (w.alloc (.cells #[.int .i64 room, .map (some mb), .int .i64 steps, .int .i64 left, .bool dead] t)) w.heap.size room mb steps left dead :=
  ⟨World.cell?_alloc_new w _ _ 0, World.cell?_alloc_new w _ _ 1, World.cell?_alloc_new w _ _ 2, World.cell?_alloc_new w _ _ 3, World.cell?_alloc_new w _ _ 4, fun j => World.frozen?_alloc_new w _ _ j⟩
theorem Hd.at (q : Nat) (hq : w.heap.size = q) (t : TypeId) : Hd (w.alloc (.cells #[.int .i64 room, .map (some mb), .int .i64 steps, .int .i64 left, .bool dead] t)) q room mb steps left dead := by subst hq; exact Hd.new w t
end

/-- A file's own block. -/
structure Fx (w : World) (b : Nat) (v : Value) (last : Int) : Prop where
  c0 : w.cell? ⟨b, 0, none⟩ = some v
  c1 : w.cell? ⟨b, 1, none⟩ = some (.int .i64 last)
  free : ∀ j, w.frozen? ⟨b, j, none⟩ = false
section
variable {w w' : World} {b : Nat} {v : Value} {last : Int}
theorem Fx.lt (h : Fx w b v last) : b < w.heap.size := World.block_lt_of_cell? _ _ h.c0
theorem Fx.kept {S : List Nat} (h : Fx w b v last) (hk : Kp S w w') (hp : b ∉ S) : Fx w' b v last :=
  ⟨(hk.cell (p := ⟨b, 0, none⟩) h.lt hp).trans h.c0, (hk.cell (p := ⟨b, 1, none⟩) h.lt hp).trans h.c1, fun j => (hk.frozen (p := ⟨b, j, none⟩) h.lt hp).trans (h.free j)⟩
theorem Fx.set0 (h : Fx w b v last) (u : Value) : Fx (w.setCell ⟨b, 0, none⟩ u) b u last :=
  ⟨World.cell?_setCell_same _ _ _ h.c0, (setCell_off (by decide) _).trans h.c1, fun j => (World.frozen?_setCell _ _ _ _).trans (h.free j)⟩
theorem Fx.set1 (h : Fx w b v last) (l : Int) : Fx (w.setCell ⟨b, 1, none⟩ (.int .i64 l)) b v l :=
  ⟨(setCell_off (by decide) _).trans h.c0, World.cell?_setCell_same _ _ _ h.c1, fun j => (World.frozen?_setCell _ _ _ _).trans (h.free j)⟩
theorem Fx.at (q : Nat) (hq : w.heap.size = q) (t : TypeId) : Fx (w.alloc (.cells #[v, .int .i64 last] t)) q v last := by
  subst hq
  exact ⟨World.cell?_alloc_new w _ _ 0, World.cell?_alloc_new w _ _ 1, fun j => World.frozen?_alloc_new w _ _ j⟩
end

/-- A file, and where it lies. -/
structure Ent where
  name : List UInt8
  blk : Nat
  v : Value
  bytes : List UInt8
  last : Nat
def Ent.fl (x : Ent) : Fl := ⟨x.name, x.bytes, x.last⟩
def Ent.foot (x : Ent) : List Nat := x.blk :: own x.v
def Ent.dat (x : Ent) : Lit × DataW Unit := (.string x.name, .lit (.int .i64 x.blk))
/-- How a pointer to a file reads: as its block's number. -/
def ptrR : Value → Option (DataW Unit × List MemPlace)
  | .pointer none => some (.nil, [])
  | .pointer (some ⟨b, 0, none⟩) => some (.lit (.int .i64 b), [])
  | _ => none
theorem ptrR_inv {v : Value} {b : Nat} {ps : List MemPlace} (h : ptrR v = some (.lit (.int .i64 b), ps)) : v = .pointer (some ⟨b, 0, none⟩) := by
  unfold ptrR at h
  split at h
  · simp at h
  · simp at h; rw [Int.ofNat_inj.1 h.1]
  · cases h
theorem ptrR_nil {v : Value} {ps : List MemPlace} (h : ptrR v = some (.nil, ps)) : v = .pointer none := by
  unfold ptrR at h
  split at h
  · rfl
  · simp at h
  · cases h

structure FileAt (w : World) (x : Ent) : Prop where
  box : Fx w x.blk x.v x.last
  row : Row w x.v x.bytes
  ap : x.blk ∉ own x.v
theorem FileAt.kept {w w' : World} {x : Ent} {S : List Nat} (h : FileAt w x) (hk : Kp S w w') (hn : ∀ k ∈ x.foot, k ∉ S) : FileAt w' x :=
  ⟨h.box.kept hk (hn _ (by simp [Ent.foot])), h.row.kept hk (fun k hk' => hn k (by simp [Ent.foot, hk'])), h.ap⟩
theorem FileAt.lt {w : World} {x : Ent} (h : FileAt w x) : ∀ k ∈ x.foot, k < w.heap.size := fun k hk => by
  rcases List.mem_cons.1 hk with rfl | hk
  · exact h.box.lt
  · exact h.row.lt k hk

def foot (p mb : Nat) (xs : List Ent) : List Nat := p :: mb :: xs.flatMap Ent.foot
theorem mem_foot {p mb k : Nat} {xs : List Ent} : k ∈ foot p mb xs ↔ k = p ∨ k = mb ∨ ∃ x ∈ xs, k ∈ x.foot := by simp [foot]
def leftOf (d : Dk) : Int := match d.arm with | none => -1 | some n => n

abbrev OwnsM (w : World) (mb : Nat) (xs : List Ent) : Prop := w.ownsMap Try.prog 9 ptrR mb xs.length (.map (xs.map Ent.dat))
theorem OwnsM.kept {w w' : World} {mb : Nat} {xs : List Ent} {S : List Nat} (h : OwnsM w mb xs) (hk : Kp S w w') (hn : mb ∉ S) : OwnsM w' mb xs := by
  have hlt := h.lt
  obtain ⟨es, clock, hb, F, hs, hD⟩ := h
  exact ⟨es, clock, (hk.block mb hlt hn).trans hb, F, hs, hD⟩

/-- A disk lies at p. -/
structure Disk (w : World) (p mb : Nat) (xs : List Ent) (d : Dk) : Prop where
  hd : Hd w p d.room mb d.steps (leftOf d) d.dead
  map : OwnsM w mb xs
  files : ∀ x ∈ xs, FileAt w x
  rise : riseG Ent.name xs
  pm : p ≠ mb
  px : ∀ x ∈ xs, p ∉ x.foot ∧ mb ∉ x.foot
  xy : ∀ x ∈ xs, ∀ y ∈ xs, x.name ≠ y.name → ∀ k ∈ x.foot, k ∉ y.foot
  fl : d.files = xs.map Ent.fl
  ok : Okd d
theorem Disk.lt {w : World} {p mb : Nat} {xs : List Ent} {d : Dk} (h : Disk w p mb xs d) : ∀ k ∈ foot p mb xs, k < w.heap.size := fun k hk => by
  rcases mem_foot.1 hk with rfl | rfl | ⟨x, hx, hk⟩
  · exact h.hd.lt
  · exact h.map.lt
  · exact (h.files x hx).lt k hk
theorem Disk.kept {w w' : World} {p mb : Nat} {xs : List Ent} {d : Dk} {S : List Nat} (h : Disk w p mb xs d) (hk : Kp S w w') (hn : ∀ k ∈ foot p mb xs, k ∉ S) : Disk w' p mb xs d :=
  ⟨h.hd.kept hk (hn p (mem_foot.2 (.inl rfl))), h.map.kept hk (hn mb (mem_foot.2 (.inr (.inl rfl)))), fun x hx => (h.files x hx).kept hk (fun k hk' => hn k (mem_foot.2 (.inr (.inr ⟨x, hx, hk'⟩)))), h.rise, h.pm, h.px, h.xy, h.fl, h.ok⟩
theorem Disk.keptNew {w w' : World} {p mb : Nat} {xs : List Ent} {d : Dk} (h : Disk w p mb xs d) (hk : Kp [] w w') : Disk w' p mb xs d := h.kept hk (by simp)

/-- Behind stores into the disk's own block. -/
theorem Disk.reHd {w w' : World} {p mb : Nat} {xs : List Ent} {d d' : Dk} (h : Disk w p mb xs d) (hk : Kp [p] w w') (hh : Hd w' p d'.room mb d'.steps (leftOf d') d'.dead) (hf : d'.files = d.files) (ho : Okd d') : Disk w' p mb xs d' :=
  ⟨hh, h.map.kept hk (by simpa using Ne.symm h.pm), fun x hx => (h.files x hx).kept hk (fun k hk' e => (h.px x hx).1 (by rw [List.mem_singleton] at e; rw [← e]; exact hk')), h.rise, h.pm, h.px, h.xy, hf.trans h.fl, ho⟩
theorem mvHd {w w' : World} {p mb : Nat} {xs : List Ent} (hk : Kp [p] w w') : Kp (foot p mb xs) w w' := hk.mono (fun x hx => by rw [List.mem_singleton] at hx; subst hx; exact .inl (mem_foot.2 (.inl rfl)))
/-- What a call on a disk may turn: the disk's own blocks; those behind it are these, or new. -/
structure Mv (S : List Nat) (w : World) (S' : List Nat) (w' : World) : Prop where
  kp : Kp S w w'
  new : ∀ k ∈ S', k ∈ S ∨ w.heap.size ≤ k
theorem Mv.refl (S : List Nat) (w : World) : Mv S w S w := ⟨Kp.refl _ _, fun _ h => .inl h⟩
theorem Mv.trans {S S1 S2 : List Nat} {w w1 w2 : World} (h : Mv S w S1 w1) (k : Mv S1 w1 S2 w2) : Mv S w S2 w2 :=
  ⟨h.kp.trans k.kp h.new, fun x hx => by
    rcases k.new x hx with h1 | h1
    · exact h.new x h1
    · exact .inr (Nat.le_trans h.kp.size h1)⟩
theorem Mv.ofNew {S : List Nat} {w w' : World} (h : Kp [] w w') : Mv S w S w' := ⟨h.mono (by simp), fun _ h => .inl h⟩

theorem keyedS : Keyed Try.prog 9 := string_keyed Try.underlying9
theorem keyS (k : List UInt8) (h : k.length ≤ maxLen) : keyOf Try.prog 9 (.string ⟨k.toArray⟩) = some (.string k) := by
  have := Go.WideMaps.keyOf_string_mk (P := Try.prog) (k := 9) Try.underlying9 (s := ⟨k.toArray⟩) (by simpa [ByteArray.size] using h)
  simpa using this

/-- The map's datum, by names. -/
theorem dat_at (xs : List Ent) (k : List UInt8) (z : DataW Unit) : DataW.atKey (.map (xs.map Ent.dat)) (.string k) z = match lookG Ent.name k xs with | some x => .lit (.int .i64 x.blk) | none => z := by
  have e : (xs.map Ent.dat).find? (fun p => p.1.sameKey (.string k)) = (lookG Ent.name k xs).map Ent.dat := by
    unfold lookG
    rw [List.find?_map]
    rfl
  unfold DataW.atKey
  simp only [e]
  cases lookG Ent.name k xs <;> rfl
theorem dat_filter (k : List UInt8) (l : List Ent) : (l.map Ent.dat).filter (fun p => !p.1.sameKey (.string k)) = (dropG Ent.name k l).map Ent.dat := by
  unfold dropG
  rw [List.filter_map]
  rfl
theorem dat_insert (e : Ent) : ∀ (l : List Ent), DataW.insert e.dat (l.map Ent.dat) = (insG Ent.name e l).map Ent.dat
  | [] => rfl
  | y :: r => by
    simp only [List.map_cons, DataW.insert, insG]
    have hb : e.dat.1.before y.dat.1 = bytesBefore e.name y.name := rfl
    rw [hb, dat_insert e r]
    split <;> rfl
theorem dat_put {xs : List Ent} (h : riseG Ent.name xs) (e : Ent) : DataW.put (.map (xs.map Ent.dat)) (.string e.name) (.lit (.int .i64 e.blk)) = .map ((putG Ent.name e false xs).map Ent.dat) := by
  unfold DataW.put
  simp only [dat_filter]
  rw [putG_ins e xs h]
  exact congrArg _ (dat_insert e _)
theorem dat_del (xs : List Ent) (k : List UInt8) : DataW.del (.map (xs.map Ent.dat)) (.string k) = .map ((dropG Ent.name k xs).map Ent.dat) := by
  unfold DataW.del
  simp only [dat_filter]
theorem dat_size (xs : List Ent) : Maps.size (DataW.map (xs.map Ent.dat)) = xs.length := by simp [Maps.size]
theorem dat_keys (xs : List Ent) : strKeys (DataW.map (xs.map Ent.dat)) = xs.map Ent.name := by
  simp [strKeys, Function.comp_def, Ent.dat, strOf]
theorem OwnsM.norm {w : World} {mb n : Nat} {xs : List Ent} (h : w.ownsMap Try.prog 9 ptrR mb n (.map (xs.map Ent.dat))) : OwnsM w mb xs := by
  obtain ⟨es, clock, hb, F, hs, hD⟩ := h
  refine ⟨es, clock, hb, F, ?_, hD⟩
  have := congrArg Maps.size hD
  rw [dat_size] at this
  rw [this]
  simp [Maps.size, length_sorted]
def ptrOf : Option Ent → Value
  | none => .pointer none
  | some x => .pointer (some ⟨x.blk, 0, none⟩)
theorem lookF {w : World} {mb : Nat} {xs : List Ent} (h : OwnsM w mb xs) (k : List UInt8) (hk : k.length ≤ maxLen) : (Instr.lookup 63 (.map (some mb)) (.string ⟨k.toArray⟩) false).run Try.prog w = .ok (ptrOf (lookG Ent.name k xs)) w := by
  obtain ⟨v, ps, hrun, hv⟩ := h.lookup keyedS Try.underlying63 (Try.zeroValue69 w) (zd := .nil) (zp := []) rfl (keyS k hk)
  rw [hrun]
  rw [dat_at] at hv
  cases hl : lookG Ent.name k xs with
  | none => rw [hl] at hv; rw [ptrR_nil hv]; rfl
  | some x => rw [hl] at hv; rw [ptrR_inv hv]; rfl
theorem lookF2 {w : World} {mb : Nat} {xs : List Ent} (h : OwnsM w mb xs) (k : List UInt8) (hk : k.length ≤ maxLen) : (Instr.lookup 63 (.map (some mb)) (.string ⟨k.toArray⟩) true).run Try.prog w = .ok (.tuple #[ptrOf (lookG Ent.name k xs), .bool (lookG Ent.name k xs).isSome]) w := by
  obtain ⟨v, ps, hrun, hv⟩ := h.look_ok keyedS Try.underlying63 (Try.zeroValue69 w) (zd := .nil) (zp := []) rfl (keyS k hk)
  rw [hrun]
  rw [dat_at] at hv
  have hh : Maps.has (DataW.map (xs.map Ent.dat)) (.string k) = (lookG Ent.name k xs).isSome := by
    cases hl : lookG Ent.name k xs with
    | none => exact Maps.has_false_of_atKey (fun z => by rw [dat_at, hl])
    | some x => exact Maps.has_true_of_atKey (y := .lit (.int .i64 x.blk)) (fun z => by rw [dat_at, hl])
  rw [hh]
  cases hl : lookG Ent.name k xs with
  | none => rw [hl] at hv; rw [ptrR_nil hv]; rfl
  | some x => rw [hl] at hv; rw [ptrR_inv hv]; rfl
theorem turned_kp {w w' : World} {b : Nat} (h : w.mapTurned w' b) : Kp [b] w w' :=
  (Kp.refl [b] w).grown h.grown (fun k e => by cases e; simp)
/-- 'm[k] = f'. -/
theorem storeF {w : World} {mb : Nat} {xs : List Ent} (h : OwnsM w mb xs) (hr : riseG Ent.name xs) (hn : xs.length < maxLen) (e : Ent) (he : e.name.length ≤ maxLen) :
    ∃ w', (Instr.mapUpdate 63 (.map (some mb)) (.string ⟨e.name.toArray⟩) (.pointer (some ⟨e.blk, 0, none⟩))).run Try.prog w = .ok () w' ∧ OwnsM w' mb (putG Ent.name e false xs) ∧ Kp [mb] w w' := by
  obtain ⟨w', hrun, hown, ht⟩ := h.store keyedS Try.underlying63 hn (keyS e.name he) (val := .pointer (some ⟨e.blk, 0, none⟩)) (d := .lit (.int .i64 e.blk)) (ps := []) rfl
  rw [dat_put hr] at hown
  exact ⟨w', hrun, OwnsM.norm hown, turned_kp ht⟩
/-- 'delete(m, k)'. -/
theorem dropF {w : World} {mb : Nat} {xs : List Ent} (h : OwnsM w mb xs) (k : List UInt8) (hk : k.length ≤ maxLen) (ty : TypeId) :
    ∃ w', (Builtin.delete_ #[63, 9] ty #[.map (some mb), .string ⟨k.toArray⟩]).run Try.prog w = .ok (.tuple #[]) w' ∧ OwnsM w' mb (dropG Ent.name k xs) ∧ Kp [mb] w w' := by
  obtain ⟨w', hrun, hown, ht⟩ := h.drop keyedS Try.underlying63 (keyS k hk) ty
  rw [dat_del] at hown
  exact ⟨w', hrun, OwnsM.norm hown, turned_kp ht⟩
end Go.Proofs.Ytgllkonbgigcbaa
end

section
namespace Go.Proofs.Ytgllkonbgigcbaa
open Go.RowKit Go.Hay
set_option linter.unusedVariables false
set_option linter.unusedSimpArgs false

/-- What a call that appends onto v may turn: v's own block; the row behind it is that one, or new. -/
structure Grew (v : Value) (w : World) (v' : Value) (w' : World) : Prop where
  kp : Kp (own v) w w'
  new : ∀ k ∈ own v', k ∈ own v ∨ w.heap.size ≤ k
theorem info3 {P : Program} {t : TypeId} {z : Value} {a b : Nat} (h : (P.info? t).map (fun i => (i.zero, i.size, i.bytes)) = some (some z, a, b)) : ∃ i, P.info? t = some i ∧ i.zero = some z ∧ i.size = a ∧ i.bytes = b := by
  cases hp : P.info? t with
  | none => rw [hp] at h; cases h
  | some i =>
    rw [hp] at h
    simp at h
    exact ⟨i, rfl, h.1, h.2.1, h.2.2⟩
theorem infoU : ∃ i : TypeInfo, Try.prog.info? 5 = some i ∧ i.zero = some (.int .u8 0) ∧ i.size = 1 ∧ i.bytes = 1 := info3 (by kernel_rfl)
/-- An append of what a slice sees. -/
theorem wpAppR {w : World} {ops : Array Oper} {rest : List Oper} {o : Oper} {a : Act} {Q : Exit → Act → World → Prop} (hgd : o.guard = none) (s x : Operand)
    (ho : o.op = .call { callee := .builtin .append, args := #[s, x], argTypes := #[34, 34] })
    (v : Value) (xs : List UInt8) (hv : a.eval s = v) (hown : Row w v xs) (sa : Option Addr) (m c : Nat) (bs : List UInt8) (hx : a.eval x = .slice sa m c) (hm : m = bs.length) (hs : Sees w sa bs) (hb : xs.length + bs.length ≤ 200000000000000)
    (hK : ∀ ys a' c' w', Hid (ys = xs ++ bs) → ys.length ≤ xs.length + bs.length → Row w' (.slice a' ys.length c') ys → Grew v w (.slice a' ys.length c') w' → wpList Try.prog ops Q rest (a.put o.dst (.slice a' ys.length c')) w') : wpList Try.prog ops Q (o :: rest) a w := by
  obtain ⟨i0, hi, hz0, hz1, hz2⟩ := infoU
  subst hm
  exact wpList_append_src _ hgd s x 34 34 ho i0 Try.underlying34 hi hz0 hz1 hz2 v xs hv hown _ bs hx (hs.src Try.underlying34 c) hb (fun v' w' h1 h2 h3 => by obtain ⟨a', c', rfl, _⟩ := h1.shape; exact hK _ a' c' w' rfl (by simp) h1 ⟨h2, h3⟩)
/-- A row of no bytes, in a block of its own. -/
theorem rowNone (w : World) {q : Nat} (hq : w.heap.size = q) (C : Array Value) (t : TypeId) : Row (w.alloc (.cells C t)) (.slice (some ⟨q, 0, none⟩) 0 0) [] := by
  subst hq
  exact .inr ⟨_, 0, 0, rfl, Nat.le_refl _, Nat.zero_le _, by simp, by intro j u hu; simp at hu, by intro j hj; omega⟩

/-- A copy: a row all new. -/
def CloneP (bs : List UInt8) (w : World) (e : Ending) (w' : World) : Prop := ∃ a c, e = .returned (.slice a bs.length c) ∧ Row w' (.slice a bs.length c) bs ∧ Kp [] w w' ∧ ∀ k ∈ blk a, w.heap.size ≤ k
theorem eqNilS (a : Option Addr) (n c : Nat) (w : World) : (binOp .eql 34 (.slice a n c) (.slice none 0 0)).run Try.prog w = .ok (.bool a.isNone) w := by
  simp only [binOp]
  simp [run_equal_slice_nil w 34 5 a n c Try.underlying34]
theorem own_slice (a : Option Addr) (n c : Nat) : own (.slice a n c) = blk a := by cases a <;> rfl
set_option maxRecDepth 100000 in
theorem cCloneB (a : Option Addr) (c : Nat) (bs : List UInt8) (w : World) (hs : Sees w a bs) (hc : a = none → bs = [] ∧ c = 0) (hb : bs.length ≤ 140737488355328) :
    Calls Try.prog 30 #[.slice a bs.length c] w (CloneP bs w) := by
  cases a with
  | none =>
    obtain ⟨rfl, rfl⟩ := hc rfl
    have e1 := eqNilS none 0 0
    go_enter Try.func30, Try.ntmps30
    go_wp2_with fail
    go_ret
    exact ⟨none, 0, rfl, Row.nil _, Kp.refl _ _, by simp [blk]⟩
  | some ad =>
    have e0 := eqNilS (some ad) bs.length c
    go_enter Try.func30, Try.ntmps30
    clear hc
    have k1 : Kp [] w (w.alloc (.cells #[] 5)) := (Kp.refl _ _).alloc _
    have hr := rowNone w rfl #[] 5
    have hs1 := hs.kept k1 (by simp)
    go_wp2_with (first | (refine wpAppR rfl _ _ rfl _ [] rfl hr _ _ _ bs rfl rfl hs1 (by simp; omega) ?_; intro ys a' c' w' hy hyl hrow hg) | fail)
    go_ret
    have e : ys = bs := by rw [hy.out]; rfl
    subst e
    refine ⟨a', c', rfl, hrow, k1.trans hg.kp (fun k hk => .inr ?_), fun k hk => ?_⟩
    · simp [own, Value.ownBlock, Act.eval] at hk; omega
    · rcases hg.new k (by rw [own_slice]; exact hk) with h1 | h1
      · simp [own, Value.ownBlock, Act.eval] at h1; omega
      · exact Nat.le_trans k1.size h1
end Go.Proofs.Ytgllkonbgigcbaa
end

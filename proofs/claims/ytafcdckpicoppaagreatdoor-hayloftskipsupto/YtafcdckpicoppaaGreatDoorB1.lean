/- What memory holds, told of a world: rows of bytes that the calls made, bytes that a slice sees, and which blocks a call may have turned. No statement of the seat is proved here. Values: what a value is, which is right, which fits a column, how two are ordered; and the calls that make one. Plain mathematics of the bytes: numbers in so many bytes, the highest first; the form of a Var. No Go text. More plain mathematics: a number and its bytes, back and forth; what a Var read comes to. Plain mathematics: a number's bytes, a number of bytes. Rows of bytes of the calls' own, that grow: an append, for the walk. A number's eight bytes: the program's longOf and number, the reference's Number and Said. Which values are right, which fit a column: the program's and the reference's. -/
import Derived.WalkKit
import Derived.WalkSpells
import Derived.Deep.Upon
import Derived.Deep.DeepAppendWide
import Derived.WalkSmall
import Derived.Test.YtafcdckpicoppaaGreatDoorRows
import Derived.Laws.StructEq
import Derived.Handy
import Derived.BigQuiet
import Derived.Deep.QuietTactic
import Derived.Below
import Derived.Laws.BitsAllLaws
import Derived.Deep.RegionHeld3
import Derived.Deep.RegionWith
import Derived.BigGuard
section
namespace Go.Hay
open Go.RowKit

/-- A list of bytes, as cells. -/
def bcells (bs : List UInt8) : List Value := bs.map fun x => .int .u8 x.toNat
theorem bcells_length (bs : List UInt8) : (bcells bs).length = bs.length := by simp [bcells]
theorem bcells_append (a b : List UInt8) : bcells (a ++ b) = bcells a ++ bcells b := by simp [bcells]
theorem bcells_get (bs : List UInt8) (j : Nat) : (bcells bs)[j]? = bs[j]?.map fun x => .int .u8 x.toNat := by simp [bcells]
theorem bcells_one (bs : List UInt8) : ∀ u ∈ bcells bs, u.oneCell' = true := by
  intro u hu
  obtain ⟨x, _, rfl⟩ := List.mem_map.1 hu
  rfl

/-- Only blocks of S may have turned. -/
structure Kp (S : List Nat) (w w' : World) : Prop where
  os : w'.os = w.os
  tape : w'.tape = w.tape
  output : w'.output = w.output
  size : w.heap.size ≤ w'.heap.size
  block : ∀ k, k < w.heap.size → k ∉ S → w'.heap[k]? = w.heap[k]?

theorem Kp.refl (S : List Nat) (w : World) : Kp S w w := ⟨rfl, rfl, rfl, Nat.le_refl _, fun _ _ _ => rfl⟩
/-- Two steps: what the second one may turn is what the first one may, or is new. -/
theorem Kp.trans {S T : List Nat} {a b c : World} (h : Kp S a b) (k : Kp T b c) (hT : ∀ x ∈ T, x ∈ S ∨ a.heap.size ≤ x) : Kp S a c :=
  ⟨k.os.trans h.os, k.tape.trans h.tape, k.output.trans h.output, Nat.le_trans h.size k.size, fun i hi hn =>
    (k.block i (Nat.lt_of_lt_of_le hi h.size) (fun hm => by rcases hT i hm with h1 | h1; exact hn h1; omega)).trans (h.block i hi hn)⟩
theorem Kp.mono {S T : List Nat} {a b : World} (h : Kp S a b) (hT : ∀ x ∈ S, x ∈ T ∨ a.heap.size ≤ x) : Kp T a b :=
  ⟨h.os, h.tape, h.output, h.size, fun i hi hn => h.block i hi (fun hm => by rcases hT i hm with h1 | h1; exact hn h1; omega)⟩
theorem Kp.drew {S : List Nat} {a w : World} (h : Kp S a w) : Kp S a w.drew := ⟨h.os, h.tape, h.output, h.size, h.block⟩
theorem Kp.drewN {S : List Nat} {a w : World} (h : Kp S a w) (n : Nat) : Kp S a (w.drewN n) := ⟨h.os, h.tape, h.output, h.size, h.block⟩
theorem Kp.alloc {S : List Nat} {a w : World} (h : Kp S a w) (o : Obj) : Kp S a (w.alloc o) :=
  ⟨h.os, h.tape, h.output, by have := h.size; simp; omega, fun k hk hn => (Below.heap_alloc w o k (Nat.lt_of_lt_of_le hk h.size)).trans (h.block k hk hn)⟩
theorem Kp.setCell {S : List Nat} {a w : World} (h : Kp S a w) {p : Addr} (hp : p.block ∈ S ∨ a.heap.size ≤ p.block) (u : Value) : Kp S a (w.setCell p u) :=
  ⟨h.os, h.tape, h.output, by have := h.size; simpa [World.setCell] using this, fun k hk hn =>
    (Below.heap_setCell w p u k (fun e => by subst e; rcases hp with h1 | h1; exact hn h1; omega)).trans (h.block k hk hn)⟩
theorem Kp.grown {S : List Nat} {a w w' : World} {row : Option Nat} (h : Kp S a w) (hg : w.grownBy w' row) (hr : ∀ k, row = some k → k ∈ S ∨ a.heap.size ≤ k) : Kp S a w' :=
  ⟨hg.os.trans h.os, hg.tape.trans h.tape, hg.output.trans h.output, Nat.le_trans h.size hg.size, fun k hk hn =>
    (hg.block k (Nat.lt_of_lt_of_le hk h.size) (fun e => by rcases hr k e.symm with h1 | h1; exact hn h1; omega)).trans (h.block k hk hn)⟩
theorem Kp.ofBelow {w w' : World} (h : Below w.heap.size w w') (S : List Nat) : Kp S w w' := ⟨h.os, h.tape, h.output, h.size, fun k hk _ => h.block k hk⟩
theorem Kp.below {w w' : World} (h : Kp [] w w') : Below w.heap.size w w' := ⟨h.os, h.tape, h.output, h.size, fun k hk => h.block k hk (by simp)⟩
theorem Kp.cell {S : List Nat} {w w' : World} (h : Kp S w w') {p : Addr} (hp : p.block < w.heap.size) (hn : p.block ∉ S) : w'.cell? p = w.cell? p := World.cell?_of_block (h.block p.block hp hn)
theorem Kp.frozen {S : List Nat} {w w' : World} (h : Kp S w w') {p : Addr} (hp : p.block < w.heap.size) (hn : p.block ∉ S) : w'.frozen? p = w.frozen? p := World.frozen?_of_block (h.block p.block hp hn)

/-- The block of a row of the call's own, as a list. -/
def own (v : Value) : List Nat := v.ownBlock.toList
theorem mem_own {v : Value} {k : Nat} : k ∈ own v ↔ v.ownBlock = some k := by simp [own, Option.mem_toList]

/-- v is a row of bytes of the calls' own: its cells are there, and none is frozen: it may be written and appended to. -/
def Row (w : World) (v : Value) (bs : List UInt8) : Prop :=
  (v = .slice none 0 0 ∧ bs = []) ∨ ∃ g o cap, v = .slice (some ⟨g, o, none⟩) bs.length cap ∧ bs.length ≤ cap ∧ cap ≤ maxLen ∧ g < w.heap.size ∧
    (∀ j u, bs[j]? = some u → w.cell? ⟨g, o + j, none⟩ = some (.int .u8 u.toNat)) ∧ ∀ j, j < cap → (w.cell? ⟨g, o + j, none⟩).isSome = true ∧ w.frozen? ⟨g, o + j, none⟩ = false
theorem Row.nil (w : World) : Row w (.slice none 0 0) [] := .inl ⟨rfl, rfl⟩
theorem Row.lt {w : World} {v : Value} {bs : List UInt8} (h : Row w v bs) : ∀ k ∈ own v, k < w.heap.size := by
  rcases h with ⟨rfl, _⟩ | ⟨g, o, cap, rfl, _, _, hg, _⟩
  · intro k hk; simp [own, Value.ownBlock] at hk
  · intro k hk; simp [own, Value.ownBlock] at hk; omega
theorem Row.shape {w : World} {v : Value} {bs : List UInt8} (h : Row w v bs) : ∃ a c, v = .slice a bs.length c ∧ bs.length ≤ c := by
  rcases h with ⟨rfl, rfl⟩ | ⟨g, o, cap, rfl, hl, _⟩
  · exact ⟨none, 0, rfl, Nat.le_refl _⟩
  · exact ⟨_, _, rfl, hl⟩
theorem Row.kept {w w' : World} {v : Value} {bs : List UInt8} {S : List Nat} (h : Row w v bs) (hk : Kp S w w') (hn : ∀ k ∈ own v, k ∉ S) : Row w' v bs := by
  rcases h with h | ⟨g, o, cap, rfl, hl, hm, hg, hc, ht⟩
  · exact .inl h
  · have hgS : g ∉ S := hn g (by simp [own, Value.ownBlock])
    have e1 : ∀ j, w'.cell? ⟨g, o + j, none⟩ = w.cell? ⟨g, o + j, none⟩ := fun j => hk.cell (p := ⟨g, o + j, none⟩) hg hgS
    have e2 : ∀ j, w'.frozen? ⟨g, o + j, none⟩ = w.frozen? ⟨g, o + j, none⟩ := fun j => hk.frozen (p := ⟨g, o + j, none⟩) hg hgS
    exact .inr ⟨g, o, cap, rfl, hl, hm, Nat.lt_of_lt_of_le hg hk.size, fun j u hu => (e1 j).trans (hc j u hu), fun j hj => by rw [e1, e2]; exact ht j hj⟩

/-- What a slice's value sees: its first bytes, told by cells. -/
def Sees (w : World) (a : Option Addr) (bs : List UInt8) : Prop :=
  bs = [] ∨ ∃ g o, a = some ⟨g, o, none⟩ ∧ ∀ j u, bs[j]? = some u → w.cell? ⟨g, o + j, none⟩ = some (.int .u8 u.toNat)
theorem Sees.nil (w : World) (a : Option Addr) : Sees w a [] := .inl rfl
/-- The block of an address, as a list. -/
def blk (a : Option Addr) : List Nat := (a.map (·.block)).toList
theorem Sees.lt {w : World} {a : Option Addr} {bs : List UInt8} (h : Sees w a bs) (hb : bs ≠ []) : ∀ k ∈ blk a, k < w.heap.size := by
  rcases h with rfl | ⟨g, o, rfl, hc⟩
  · exact absurd rfl hb
  · intro k hk
    simp [blk] at hk
    subst hk
    cases bs with
    | nil => exact absurd rfl hb
    | cons x r => exact World.block_lt_of_cell? _ _ (hc 0 x rfl)
theorem Sees.kept {w w' : World} {a : Option Addr} {bs : List UInt8} {S : List Nat} (h : Sees w a bs) (hk : Kp S w w') (hn : ∀ k ∈ blk a, k ∉ S) : Sees w' a bs := by
  rcases h with rfl | ⟨g, o, rfl, hc⟩
  · exact .inl rfl
  · exact .inr ⟨g, o, rfl, fun j u hu => (hk.cell (World.block_lt_of_cell? _ _ (hc j u hu)) (hn g (by simp [blk]))).trans (hc j u hu)⟩
theorem Sees.kept' {w w' : World} {a : Option Addr} {bs : List UInt8} {S : List Nat} (h : Sees w a bs) (hk : Kp S w w') (hn : bs ≠ [] → ∀ k ∈ blk a, k ∉ S) : Sees w' a bs := by
  by_cases hb : bs = []
  · exact .inl hb
  · exact h.kept hk (hn hb)
theorem Row.sees {w : World} {v : Value} {bs : List UInt8} (h : Row w v bs) : ∃ a c, v = .slice a bs.length c ∧ Sees w a bs ∧ own v = blk a := by
  rcases h with ⟨rfl, rfl⟩ | ⟨g, o, cap, rfl, hl, hm, hg, hc, ht⟩
  · exact ⟨none, 0, rfl, .inl rfl, rfl⟩
  · exact ⟨_, _, rfl, .inr ⟨g, o, rfl, hc⟩, rfl⟩
theorem Sees.cells {w : World} {g o : Nat} {bs : List UInt8} (hc : ∀ j u, bs[j]? = some u → w.cell? ⟨g, o + j, none⟩ = some (.int .u8 u.toNat)) : ∀ j u, (bcells bs)[j]? = some u → w.cell? ((⟨g, o, none⟩ : Addr).add j) = some u := by
  intro j u hu
  rw [bcells_get] at hu
  rw [Addr.add_lit]
  cases hb : bs[j]? with
  | none => rw [hb] at hu; cases hu
  | some x => rw [hb] at hu; cases hu; exact hc j x hb

/-- Parts of what is seen. -/
theorem Sees.front {w : World} {a : Option Addr} {bs : List UInt8} (h : Sees w a bs) (n : Nat) : Sees w a (bs.take n) := by
  rcases h with rfl | ⟨g, o, rfl, hc⟩
  · exact .inl (by simp)
  · refine .inr ⟨g, o, rfl, fun j u hu => ?_⟩
    rw [List.getElem?_take] at hu
    split at hu
    · exact hc j u hu
    · cases hu
theorem Sees.tail {w : World} {a : Option Addr} {bs : List UInt8} (h : Sees w a bs) (n : Nat) : Sees w (a.map (fun x => x.add n)) (bs.drop n) := by
  rcases h with rfl | ⟨g, o, rfl, hc⟩
  · exact .inl (by simp)
  · refine .inr ⟨g, o + n, by simp [Addr.add_lit], fun j u hu => ?_⟩
    rw [List.getElem?_drop] at hu
    have := hc (n + j) u hu
    rwa [show o + n + j = o + (n + j) by omega]
theorem blk_tail (a : Option Addr) (n : Nat) : blk (a.map (fun x => x.add n)) = blk a := by
  cases a with
  | none => rfl
  | some x =>
    obtain ⟨b, o, s⟩ := x
    simp only [blk, Option.map_some, Addr.add]
    split <;> rfl

theorem tape_setCells (g : Nat) : ∀ (vs : List Value) (o : Nat) (w : World), (w.setCells g o vs).tape = w.tape
  | [], _, _ => rfl
  | v :: r, o, w => by rw [World.setCells, tape_setCells g r]; rfl
theorem size_setCells (g : Nat) : ∀ (vs : List Value) (o : Nat) (w : World), (w.setCells g o vs).heap.size = w.heap.size
  | [], _, _ => rfl
  | v :: r, o, w => by rw [World.setCells, size_setCells g r]; simp [World.setCell]
theorem Kp.setCells {S : List Nat} {a w : World} (h : Kp S a w) {g : Nat} (hg : g ∈ S ∨ a.heap.size ≤ g) : ∀ (vs : List Value) (o : Nat), Kp S a (w.setCells g o vs) := by
  intro vs
  induction vs generalizing w with
  | nil => intro o; exact h
  | cons v r ih => intro o; exact ih (h.setCell (p := ⟨g, o, none⟩) hg v) (o + 1)

section
variable {P : Program} (w : World)
/-- What bytes that a slice sees are, to an append. -/
theorem Sees.src {w : World} {a : Option Addr} {bs : List UInt8} (hs : Sees w a bs) {t : TypeId} (ht : P.underlying t = some (.slice 5)) (c : Nat) : Src P 1 t (.slice a bs.length c) bs.length (bcells bs) w := by
  rcases hs with rfl | ⟨g, o, rfl, hc⟩
  · cases a with
    | none => exact Src.ofNil w ht c
    | some ad => exact Src.ofSlice w ht ad 0 c [] rfl (by intro j u hu; simp at hu) (by intro u hu; simp at hu)
  · exact Src.ofSlice w ht ⟨g, o, none⟩ bs.length c (bcells bs) (by rw [bcells_length]; omega) (Sees.cells hc) (bcells_one bs)

theorem grown_cells (g : Nat) (xs : List UInt8) (z : Array Value) (h : g = w.heap.size) (t : TypeId) : ∀ j u, xs[j]? = some u → (w.alloc (.cells ((bcells xs).toArray ++ z) t)).cell? ⟨g, 0 + j, none⟩ = some (.int .u8 u.toNat) := by
  subst h
  intro j u hu
  have hj : j < xs.length := (List.getElem?_eq_some_iff.1 hu).1
  have e1 : (w.alloc (.cells ((bcells xs).toArray ++ z) t)).cell? ⟨w.heap.size, 0 + j, none⟩ = _ := World.cell?_alloc_new w _ _ (0 + j)
  rw [e1, Nat.zero_add, Array.getElem?_append_left (by simp only [List.size_toArray, bcells_length]; exact hj), List.getElem?_toArray, bcells_get, hu]
  rfl

/-- An append of bytes, out of whatever yields them, onto a row of the call's own. -/
theorem run_append_src (t tx ty : TypeId) (i : TypeInfo) (ht : P.underlying t = some (.slice 5)) (hi : P.info? 5 = some i) (hz : i.zero = some (.int .u8 0)) (hsize : i.size = 1) (hby : i.bytes = 1)
    (v : Value) (xs : List UInt8) (hown : Row w v xs) (x : Value) (bs : List UInt8) (hs : Src P 1 tx x bs.length (bcells bs) w) (hb : xs.length + bs.length ≤ 200000000000000) :
    ∃ v' w', (Builtin.append_ #[t, tx] ty #[v, x]).run P w = .ok v' w' ∧ Row w' v' (xs ++ bs) ∧ Kp (own v) w w' ∧ ∀ k ∈ own v', k ∈ own v ∨ w.heap.size ≤ k := by
  have hs' := hs
  rw [← hsize] at hs'
  -- A NEW ROW
  have grow : ∀ (ao : Option Addr) (cap : Nat), v = .slice ao xs.length cap → cap < xs.length + bs.length → (Builtin.firstCells i.size xs.length (.slice ao xs.length cap)).run P w.drew = .ok (bcells xs).toArray w.drew →
      ∃ v' w', (Builtin.append_ #[t, tx] ty #[v, x]).run P w = .ok v' w' ∧ Row w' v' (xs ++ bs) ∧ Kp (own v) w w' ∧ ∀ k ∈ own v', k ∈ own v ∨ w.heap.size ≤ k := by
    rintro ao cap rfl hlt hold
    have hrun := run_append_grow_src (P := P) w t tx ty 5 i (.int .u8 0) ht hi hz ao xs.length cap (bcells xs) hold x bs.length (bcells bs) hs' hlt (by omega) (growslice_fits_wide hlt (by rw [hby]; omega))
    have hge := grownCap_ge w (xs.length + bs.length) cap 5
    have hcm := grownCap_le_maxLen w (xs.length + bs.length) cap 5 (by unfold maxLen; omega)
    rw [← bcells_append] at hrun
    refine ⟨_, _, hrun, .inr ⟨w.heap.size, 0, _, by rw [List.length_append], by rw [List.length_append]; omega, hcm, by simp, ?_, ?_⟩, (Kp.refl _ w).drew.alloc _, ?_⟩
    · exact grown_cells w.drew _ (xs ++ bs) _ rfl _
    · intro j hj
      refine ⟨?_, World.frozen?_alloc_new w.drew _ _ (0 + j)⟩
      have e1 := World.cell?_alloc_new w.drew ((bcells (xs ++ bs)).toArray ++ Builtin.zeroCells (Value.int .u8 0).cells (grownCap w (xs.length + bs.length) cap 5 - (xs.length + bs.length))) 5 (0 + j)
      have hsz : ((bcells (xs ++ bs)).toArray ++ Builtin.zeroCells (Value.int .u8 0).cells (grownCap w (xs.length + bs.length) cap 5 - (xs.length + bs.length))).size = grownCap w (xs.length + bs.length) cap 5 := by
        rw [Array.size_append, List.size_toArray, bcells_length, List.length_append, size_zeroCells]
        simp [Value.cells]
        omega
      refine (congrArg Option.isSome e1).trans ?_
      rw [Nat.zero_add, Array.getElem?_eq_getElem (by rw [hsz]; exact hj)]
      rfl
    · intro k hk
      simp [own, Value.ownBlock] at hk
      omega
  rcases hown with ⟨rfl, rfl⟩ | ⟨g, o, cap, rfl, hl, hm, hg, hc, ht'⟩
  · rcases Nat.eq_zero_or_pos bs.length with h0 | h0
    · obtain rfl : bs = [] := List.length_eq_zero_iff.1 h0
      exact ⟨_, _, run_append_nothing (P := P) w t tx ty 5 i ht hi none 0 0 (Nat.le_refl _) x hs', .inl ⟨rfl, rfl⟩, Kp.refl _ _, fun _ h => .inl h⟩
    · exact grow none 0 rfl (by simpa using h0) (run_firstCells_none w.drew i.size 0 0 0)
  · by_cases hroom : xs.length + bs.length ≤ cap
    · have hsome : ∀ j, j < (bcells bs).length → (w.cell? ⟨g, o + xs.length * i.size + j, none⟩).isSome = true := fun j hj => by
        rw [bcells_length] at hj; rw [hsize, Nat.mul_one, Nat.add_assoc]; exact (ht' (xs.length + j) (by omega)).1
      have hrun := run_append_room_src (P := P) w t tx ty 5 i ht hi g o xs.length cap x bs.length (bcells bs) hs' hroom hsome
        (fun j hj => by rw [bcells_length] at hj; rw [hsize, Nat.mul_one, Nat.add_assoc]; exact (ht' (xs.length + j) (by omega)).2)
      rw [hsize, Nat.mul_one] at hsome
      rw [hsize, Nat.mul_one] at hrun
      refine ⟨_, _, hrun, .inr ⟨g, o, cap, by rw [List.length_append], by rw [List.length_append]; omega, hm, by rw [size_setCells]; exact hg, ?_, ?_⟩, (Kp.refl _ w).setCells (by simp [own, Value.ownBlock]) _ _, fun k hk => .inl hk⟩
      · intro j u hu
        by_cases hj : j < xs.length
        · rw [World.cell?_setCells_out g _ _ _ _ (fun _ _ => Or.inl (by show o + j < o + xs.length; omega))]
          rw [List.getElem?_append_left hj] at hu
          exact hc j u hu
        · rw [List.getElem?_append_right (by omega)] at hu
          have hj2 : j - xs.length < bs.length := (List.getElem?_eq_some_iff.1 hu).1
          have := World.cell?_setCells_in g (bcells bs) (o + xs.length) w hsome (j - xs.length) (by rw [bcells_length]; exact hj2)
          rw [show o + xs.length + (j - xs.length) = o + j by omega, ← List.getElem?_eq_getElem (by rw [bcells_length]; exact hj2), bcells_get, hu] at this
          exact this
      · intro j hj
        refine ⟨?_, (World.frozen?_setCells g _ _ _ _).trans (ht' j hj).2⟩
        by_cases hin : xs.length ≤ j ∧ j < xs.length + bs.length
        · have := World.cell?_setCells_in g (bcells bs) (o + xs.length) w hsome (j - xs.length) (by rw [bcells_length]; omega)
          rw [show o + xs.length + (j - xs.length) = o + j by omega] at this
          rw [this]; rfl
        · rw [World.cell?_setCells_out g _ _ _ _ (fun _ _ => by rw [bcells_length]; show o + j < o + xs.length ∨ o + xs.length + bs.length ≤ o + j; omega)]
          exact (ht' j hj).1
    · refine grow (some ⟨g, o, none⟩) cap rfl (by omega) ?_
      exact run_firstCells_some w.drew i.size xs.length ⟨g, o, none⟩ xs.length cap (bcells xs) (by rw [bcells_length, hsize]; omega) (by simpa using Sees.cells (w := w.drew) hc)

/-- .. for the walk. -/
theorem wpList_append_src {ops : Array Oper} {rest : List Oper} {o : Oper} {a : Act} {Q : Exit → Act → World → Prop} (hgd : o.guard = none) (s x : Operand) (t tx : TypeId)
    (ho : o.op = .call { callee := .builtin .append, args := #[s, x], argTypes := #[t, tx] })
    (i : TypeInfo) (ht : P.underlying t = some (.slice 5)) (hi : P.info? 5 = some i) (hz : i.zero = some (.int .u8 0)) (hsize : i.size = 1) (hby : i.bytes = 1)
    (v : Value) (xs : List UInt8) (hv : a.eval s = v) (hown : Row w v xs) (xv : Value) (bs : List UInt8) (hx : a.eval x = xv) (hs : Src P 1 tx xv bs.length (bcells bs) w) (hb : xs.length + bs.length ≤ 200000000000000)
    (hK : ∀ v' w', Row w' v' (xs ++ bs) → Kp (own v) w w' → (∀ k ∈ own v', k ∈ own v ∨ w.heap.size ≤ k) → wpList P ops Q rest (a.put o.dst v') w') : wpList P ops Q (o :: rest) a w := by
  refine wpList_plain hgd fun K hK' => ?_
  obtain ⟨v', w', hrun, h1, h2, h3⟩ := run_append_src (P := P) w t tx o.type i ht hi hz hsize hby v xs hown xv bs hs hb
  unfold Oper.wp
  simp [execOp, ho, resolve, invoke, builtin, hv, hx, hrun, Result.andThen]
  exact hK' _ _ (hK v' w' h1 h2 h3)
end

/-- A Writer lies in block p: its one cell holds v, a row of the bytes bs. -/
structure Wr (w : World) (p : Nat) (v : Value) (bs : List UInt8) : Prop where
  cell : w.cell? ⟨p, 0, none⟩ = some v
  free : w.frozen? ⟨p, 0, none⟩ = false
  row : Row w v bs
  apart : p ∉ own v
theorem Wr.lt {w : World} {p : Nat} {v : Value} {bs : List UInt8} (h : Wr w p v bs) : p < w.heap.size := World.block_lt_of_cell? _ _ h.cell
theorem Wr.kept {w w' : World} {p : Nat} {v : Value} {bs : List UInt8} {S : List Nat} (h : Wr w p v bs) (hk : Kp S w w') (hn : ∀ k ∈ p :: own v, k ∉ S) : Wr w' p v bs :=
  ⟨(hk.cell h.lt (hn p (by simp))).trans h.cell, (hk.frozen h.lt (hn p (by simp))).trans h.free, h.row.kept hk (fun k hk' => hn k (by simp [hk'])), h.apart⟩
theorem Wr.keptNew {w w' : World} {p : Nat} {v : Value} {bs : List UInt8} (h : Wr w p v bs) (hk : Kp [] w w') : Wr w' p v bs := h.kept hk (by simp)

/-- What a writer's call may turn: the writer's own cell and row; the row behind it is that one, or new. -/
structure Wrote (p : Nat) (v : Value) (w : World) (v' : Value) (w' : World) : Prop where
  kp : Kp (p :: own v) w w'
  new : ∀ k ∈ own v', k ∈ own v ∨ w.heap.size ≤ k
theorem Wrote.refl (p : Nat) (v : Value) (w : World) : Wrote p v w v w := ⟨Kp.refl _ _, fun _ h => .inl h⟩
theorem Wrote.trans {p : Nat} {v v1 v2 : Value} {w w1 w2 : World} (h : Wrote p v w v1 w1) (k : Wrote p v1 w1 v2 w2) : Wrote p v w v2 w2 :=
  ⟨h.kp.trans k.kp (fun x hx => by
      rcases List.mem_cons.1 hx with rfl | hx
      · simp
      · rcases h.new x hx with h1 | h1
        · simp [h1]
        · exact .inr h1),
   fun x hx => by
      rcases k.new x hx with h1 | h1
      · exact h.new x h1
      · exact .inr (Nat.le_trans h.kp.size h1)⟩
theorem Wrote.pre {p : Nat} {v v1 : Value} {w w0 w1 : World} (h : Kp [] w w0) (k : Wrote p v w0 v1 w1) : Wrote p v w v1 w1 :=
  ⟨(h.mono (T := p :: own v) (by simp)).trans k.kp (fun _ hx => .inl hx), fun x hx => (k.new x hx).imp id (Nat.le_trans h.size)⟩
theorem Wrote.post {p : Nat} {v v1 : Value} {w w1 w2 : World} (h : Wrote p v w v1 w1) (k : Kp [] w1 w2) : Wrote p v w v1 w2 :=
  ⟨h.kp.trans k (by simp), h.new⟩

/-- Behind an append onto the writer's row, and the store of the row into its cell. -/
theorem Wr.stored {w w0 w1 : World} {p : Nat} {v v' : Value} {bs bs' : List UInt8} (h : Wr w p v bs) (h0 : Kp [] w w0) (hr : Row w1 v' bs') (hg : Kp (own v) w0 w1) (hnew : ∀ k ∈ own v', k ∈ own v ∨ w0.heap.size ≤ k) :
    w1.cell? ⟨p, 0, none⟩ = some v ∧ w1.frozen? ⟨p, 0, none⟩ = false ∧ Wr (w1.setCell ⟨p, 0, none⟩ v') p v' bs' ∧ Wrote p v w v' (w1.setCell ⟨p, 0, none⟩ v') := by
  have hlt := h.lt
  have hnew' : ∀ k ∈ own v', k ∈ own v ∨ w.heap.size ≤ k := fun k hk => (hnew k hk).imp id (Nat.le_trans h0.size)
  have k1 : Kp (own v) w w1 := (h0.mono (T := own v) (by simp)).trans hg (fun _ hx => .inl hx)
  have hpv : p ∉ own v := h.apart
  have hpv' : p ∉ own v' := fun hp => by rcases hnew' p hp with h1 | h1; exact hpv h1; omega
  have c1 : w1.cell? ⟨p, 0, none⟩ = some v := (k1.cell hlt hpv).trans h.cell
  have f1 : w1.frozen? ⟨p, 0, none⟩ = false := (k1.frozen hlt hpv).trans h.free
  have k2 : Kp [p] w1 (w1.setCell ⟨p, 0, none⟩ v') := (Kp.refl [p] w1).setCell (by simp) _
  refine ⟨c1, f1, ⟨World.cell?_setCell_same _ _ _ c1, ?_, hr.kept k2 (fun k hk e => ?_), hpv'⟩, ⟨?_, hnew'⟩⟩
  · rw [World.frozen?_setCell]; exact f1
  · rw [List.mem_singleton] at e; subst e; exact hpv' hk
  · exact (k1.mono (T := p :: own v) (fun x hx => .inl (by simp [hx]))).setCell (by simp) _

theorem Sees.new (w : World) (C : Array Value) (t : TypeId) (fr : Nat × Nat) (bs : List UInt8) (h : C.toList = bcells bs) : Sees (w.alloc (.cells C t fr)) (some ⟨w.heap.size, 0, none⟩) bs := by
  refine .inr ⟨w.heap.size, 0, rfl, fun j u hu => ?_⟩
  have e : (w.alloc (.cells C t fr)).heap[w.heap.size]? = some (.cells C t fr) := by show (w.heap.push (.cells C t fr))[w.heap.size]? = _; simp
  have e2 : (w.alloc (.cells C t fr)).cell? ⟨w.heap.size, 0 + j, none⟩ = C[0 + j]? := by unfold World.cell?; rw [e]; rfl
  rw [e2, Nat.zero_add, ← Array.getElem?_toList, h, bcells_get, hu]
  rfl
/-- A writer of the call's own, at work: nothing that was there turns. -/
theorem stepW {w wn wm : World} {p : Nat} {v v' : Value} (kw : Kp [] w wn) (hp : w.heap.size ≤ p) (ho : ∀ k ∈ own v, w.heap.size ≤ k) (hr : Wrote p v wn v' wm) : Kp [] w wm ∧ ∀ k ∈ own v', w.heap.size ≤ k :=
  ⟨kw.trans hr.kp (fun x hx => .inr (by rcases List.mem_cons.1 hx with rfl | hx; exact hp; exact ho x hx)), fun k hk => by
    rcases hr.new k hk with h1 | h1
    · exact ho k h1
    · exact Nat.le_trans kw.size h1⟩
/-- A reader of the call's own, at work. -/
theorem stepR {w wn wm : World} {p : Nat} (kw : Kp [] w wn) (hp : w.heap.size ≤ p) (hr : Kp [p] wn wm) : Kp [] w wm :=
  kw.trans hr (fun x hx => .inr (by rw [List.mem_singleton] at hx; omega))
theorem Sees.set {w : World} {g o : Nat} {bs : List UInt8} (hc : ∀ j u, bs[j]? = some u → w.cell? ⟨g, o + j, none⟩ = some (.int .u8 u.toNat)) (i : Nat) (y : UInt8) (hi : i < bs.length) :
    Sees (w.setCell ⟨g, o + i, none⟩ (.int .u8 y.toNat)) (some ⟨g, o, none⟩) (bs.set i y) := by
  refine .inr ⟨g, o, rfl, fun j u hu => ?_⟩
  by_cases hj : j = i
  · subst hj
    rw [List.getElem?_set_self hi] at hu
    cases hu
    exact World.cell?_setCell_same _ _ _ (hc j bs[j] (by simp [hi]))
  · rw [List.getElem?_set_ne (fun h => hj h.symm)] at hu
    rw [World.cell?_setCell_other _ _ _ _ (by intro h; simp only [Addr.mk.injEq] at h; omega)]
    exact hc j u hu
theorem Sees.drew {w : World} {a : Option Addr} {bs : List UInt8} (h : Sees w a bs) : Sees w.drew a bs := h
/-- An append onto a row of the call's own. -/
theorem stepA {w wn wm : World} {v v' : Value} (kw : Kp [] w wn) (ho : ∀ k ∈ own v, w.heap.size ≤ k) (hk : Kp (own v) wn wm) (hn : ∀ k ∈ own v', k ∈ own v ∨ wn.heap.size ≤ k) : Kp [] w wm ∧ ∀ k ∈ own v', w.heap.size ≤ k :=
  ⟨kw.trans hk (fun x hx => .inr (ho x hx)), fun k hk' => by
    rcases hn k hk' with h1 | h1
    · exact ho k h1
    · exact Nat.le_trans kw.size h1⟩
theorem ret_int {k : IntKind} {a b : Int} (h : a = b) : Ending.returned (.int k a) = .returned (.int k b) := by rw [h]
theorem hid {p : Prop} (h : p) : Hid p := h
end Go.Hay
end

section
namespace Go.Proofs.YtafcdckpicoppaaGreatDoor
open Go.RowKit Go.Hay
set_option linter.unusedVariables false
set_option linter.unusedSimpArgs false

/-- A value's four fields. -/
structure Val where
  k : Int
  b : Bool
  n : Int
  t : ByteArray
def Val.v (x : Val) : Value := .agg #[.int .i64 x.k, .bool x.b, .int .i64 x.n, .string x.t]

/-- A block of four cells. -/
structure Box4 (w : World) (q : Nat) (a b c d : Value) : Prop where
  c0 : w.cell? ⟨q, 0, none⟩ = some a
  c1 : w.cell? ⟨q, 1, none⟩ = some b
  c2 : w.cell? ⟨q, 2, none⟩ = some c
  c3 : w.cell? ⟨q, 3, none⟩ = some d
  free : ∀ j, w.frozen? ⟨q, j, none⟩ = false
theorem Box4.new (w : World) (a b c d : Value) (t : TypeId) : Box4 (w.alloc (.cells #[a, b, c, d] t)) w.heap.size a b c d :=
  ⟨World.cell?_alloc_new w _ _ 0, World.cell?_alloc_new w _ _ 1, World.cell?_alloc_new w _ _ 2, World.cell?_alloc_new w _ _ 3, fun j => World.frozen?_alloc_new w _ _ j⟩
theorem Box4.at {w : World} (q : Nat) (hq : w.heap.size = q) (a b c d : Value) (t : TypeId) : Box4 (w.alloc (.cells #[a, b, c, d] t)) q a b c d := by subst hq; exact Box4.new w a b c d t
theorem Box4.lt {w : World} {q : Nat} {a b c d : Value} (h : Box4 w q a b c d) : q < w.heap.size := World.block_lt_of_cell? _ _ h.c0
theorem Box4.kept {w w' : World} {q : Nat} {a b c d : Value} {S : List Nat} (h : Box4 w q a b c d) (hk : Kp S w w') (hq : q ∉ S) : Box4 w' q a b c d :=
  ⟨(hk.cell (p := ⟨q, 0, none⟩) h.lt hq).trans h.c0, (hk.cell (p := ⟨q, 1, none⟩) h.lt hq).trans h.c1, (hk.cell (p := ⟨q, 2, none⟩) h.lt hq).trans h.c2, (hk.cell (p := ⟨q, 3, none⟩) h.lt hq).trans h.c3, fun j => (hk.frozen (p := ⟨q, j, none⟩) h.lt hq).trans (h.free j)⟩
theorem Box4.drew {w : World} {q : Nat} {a b c d : Value} (h : Box4 w q a b c d) : Box4 w.drew q a b c d := ⟨h.c0, h.c1, h.c2, h.c3, h.free⟩
theorem Box4.drewN {w : World} {q : Nat} {a b c d : Value} (n : Nat) (h : Box4 w q a b c d) : Box4 (w.drewN n) q a b c d := ⟨h.c0, h.c1, h.c2, h.c3, h.free⟩

/-- A block of three cells. -/
structure Box3 (w : World) (q : Nat) (a b c : Value) : Prop where
  c0 : w.cell? ⟨q, 0, none⟩ = some a
  c1 : w.cell? ⟨q, 1, none⟩ = some b
  c2 : w.cell? ⟨q, 2, none⟩ = some c
  free : ∀ j, w.frozen? ⟨q, j, none⟩ = false
theorem Box3.new (w : World) (a b c : Value) (t : TypeId) : Box3 (w.alloc (.cells #[a, b, c] t)) w.heap.size a b c :=
  ⟨World.cell?_alloc_new w _ _ 0, World.cell?_alloc_new w _ _ 1, World.cell?_alloc_new w _ _ 2, fun j => World.frozen?_alloc_new w _ _ j⟩
theorem Box3.lt {w : World} {q : Nat} {a b c : Value} (h : Box3 w q a b c) : q < w.heap.size := World.block_lt_of_cell? _ _ h.c0
theorem Box3.kept {w w' : World} {q : Nat} {a b c : Value} {S : List Nat} (h : Box3 w q a b c) (hk : Kp S w w') (hq : q ∉ S) : Box3 w' q a b c :=
  ⟨(hk.cell (p := ⟨q, 0, none⟩) h.lt hq).trans h.c0, (hk.cell (p := ⟨q, 1, none⟩) h.lt hq).trans h.c1, (hk.cell (p := ⟨q, 2, none⟩) h.lt hq).trans h.c2, fun j => (hk.frozen (p := ⟨q, j, none⟩) h.lt hq).trans (h.free j)⟩
theorem Box3.drew {w : World} {q : Nat} {a b c : Value} (h : Box3 w q a b c) : Box3 w.drew q a b c := ⟨h.c0, h.c1, h.c2, h.free⟩

theorem cNull (w : World) : Calls Tryz.prog 60 #[] w fun e w' => e = .returned (.agg #[.int .i64 0, .bool false, .int .i64 0, .string ⟨#[]⟩]) ∧ Kp [] w w' := by
  go_enter Tryz.func60, Tryz.ntmps60
  go_wp2_with fail
  go_returns
  exact ⟨rfl, (Kp.refl _ _).alloc _⟩
theorem cBool (b : Bool) (w : World) : Calls Tryz.prog 61 #[.bool b] w fun e w' => e = .returned (.agg #[.int .i64 1, .bool b, .int .i64 0, .string ⟨#[]⟩]) ∧ Kp [] w w' := by
  go_enter Tryz.func61, Tryz.ntmps61
  go_wp2_with fail
  go_returns
  exact ⟨rfl, (Kp.refl _ _).alloc _⟩
theorem cInt (n : Int) (w : World) : Calls Tryz.prog 63 #[.int .i64 n] w fun e w' => e = .returned (.agg #[.int .i64 2, .bool false, .int .i64 n, .string ⟨#[]⟩]) ∧ Kp [] w w' := by
  go_enter Tryz.func63, Tryz.ntmps63
  go_wp2_with fail
  go_returns
  exact ⟨rfl, (Kp.refl _ _).alloc _⟩
theorem cText (s : ByteArray) (w : World) : Calls Tryz.prog 65 #[.string s] w fun e w' => e = .returned (.agg #[.int .i64 3, .bool false, .int .i64 0, .string s]) ∧ Kp [] w w' := by
  go_enter Tryz.func65, Tryz.ntmps65
  go_wp2_with fail
  go_returns
  exact ⟨rfl, (Kp.refl _ _).alloc _⟩
end Go.Proofs.YtafcdckpicoppaaGreatDoor
end

section
namespace Go.Hay

/-- n in k bytes, the highest first. -/
def be (n : Nat) : Nat → List UInt8
  | 0 => []
  | k + 1 => UInt8.ofNat (n / 256 ^ k % 256) :: be n k
theorem be_length (n k : Nat) : (be n k).length = k := by
  induction k with
  | zero => rfl
  | succ k ih => simp [be, ih]
/-- The first byte of n's Var. -/
def leadI (n : Int) : Int := if n < 253 then n else if n < 65536 then 253 else if n < 4294967296 then 254 else 255
/-- How many bytes a Var has behind its first one. -/
def behindI (f : Int) : Int := if f = 253 then 2 else if f = 254 then 4 else if f = 255 then 8 else 0
theorem leadI_bd (n : Int) (h : 0 ≤ n) : 0 ≤ leadI n ∧ leadI n ≤ 255 := by unfold leadI; repeat (first | split | omega)
theorem behindI_bd (n : Int) : 0 ≤ behindI n ∧ behindI n ≤ 8 := by unfold behindI; repeat (first | split | omega)
/-- The number that bytes say, the highest first. -/
def num (bs : List UInt8) : Nat := bs.foldl (fun n x => n * 256 + x.toNat) 0
theorem num_snoc (bs : List UInt8) (x : UInt8) : num (bs ++ [x]) = num bs * 256 + x.toNat := by simp [num]
theorem num_lt (bs : List UInt8) : num bs < 256 ^ bs.length := by
  suffices ∀ (l : List UInt8), num l.reverse < 256 ^ l.length by simpa using this bs.reverse
  intro l
  induction l with
  | nil => simp [num]
  | cons x l ih =>
    rw [List.reverse_cons, num_snoc, List.length_cons, Nat.pow_succ]
    have := x.toNat_lt
    omega
/-- A byte, of a number. -/
def octet (n : Int) : UInt8 := UInt8.ofNat n.toNat
theorem octet_toNat (n : Int) (h0 : 0 ≤ n) (h1 : n ≤ 255) : ((octet n).toNat : Int) = n := by
  unfold octet
  rw [UInt8.toNat_ofNat']
  omega
/-- A number's Var. -/
def varB (n : Int) : List UInt8 := octet (leadI n) :: be n.toNat (behindI (leadI n)).toNat
theorem varB_length (n : Int) : (varB n).length ≤ 9 ∧ 1 ≤ (varB n).length := by
  have := behindI_bd (leadI n)
  simp only [varB, List.length_cons, be_length]
  omega
/-- What bytes begin with, read as a Var: the number, in how many bytes, what is amiss. -/
def fv (bs : List UInt8) : Int × Int × Int :=
  match bs with
  | [] => (0, 0, 10)
  | f :: r =>
    if behindI f.toNat = 0 then (f.toNat, 1, 0)
    else if (r.length : Int) < behindI f.toNat then (0, 0, 10)
    else if leadI (num (r.take (behindI f.toNat).toNat)) ≠ f.toNat then (0, 0, 11)
    else (num (r.take (behindI f.toNat).toNat), 1 + behindI f.toNat, 0)
theorem fv_bd (bs : List UInt8) : 0 ≤ (fv bs).1 ∧ (fv bs).1 < 18446744073709551616 ∧ 0 ≤ (fv bs).2.1 ∧ (fv bs).2.1 ≤ 9 ∧ (fv bs).2.1 ≤ bs.length := by
  cases bs with
  | nil => simp [fv]
  | cons f r =>
    have hf := f.toNat_lt
    have hb := behindI_bd f.toNat
    simp only [fv]
    have h64 : ∀ k : Nat, k ≤ 8 → num (r.take k) < 18446744073709551616 := fun k hk => by
      have h1 := num_lt (r.take k)
      have h2 : (r.take k).length ≤ 8 := by simp; omega
      have h3 : 256 ^ (r.take k).length ≤ 256 ^ 8 := Nat.pow_le_pow_right (by omega) h2
      omega
    have h64' := h64 (behindI f.toNat).toNat (by omega)
    generalize num (r.take (behindI f.toNat).toNat) = m at *
    simp only [List.length_cons]
    split
    · simp; omega
    · split
      · simp; omega
      · split
        · simp; omega
        · simp; omega
/-- A reader that takes n bytes: what it gives, what is left, what was amiss. -/
def takeS (n : Nat) (bs : List UInt8) (e : Int) : List UInt8 × List UInt8 × Int :=
  if e ≠ 0 then ([], bs, e) else if bs.length < n then ([], bs, 10) else (bs.take n, bs.drop n, 0)
/-- A reader that reads a Var. -/
def varS (most : Int) (bs : List UInt8) (e : Int) : Int × List UInt8 × Int :=
  if e ≠ 0 then (0, bs, e) else if (fv bs).2.2 ≠ 0 then (0, bs, (fv bs).2.2) else if most < (fv bs).1 then (0, bs, 12) else ((fv bs).1, bs.drop (fv bs).2.1.toNat, 0)
/-- .. raw bytes. -/
def rawS (n : Int) (bs : List UInt8) (e : Int) : List UInt8 × List UInt8 × Int :=
  if n < 0 then ([], bs, if e = 0 then 12 else e) else takeS n.toNat bs e
/-- .. a count. -/
def countS (most : Int) (bs : List UInt8) (e : Int) : Int × List UInt8 × Int :=
  if 0 ≤ most then varS most bs e else (0, bs, if (varS 18446744073709551615 bs e).2.2 = 0 then 12 else (varS 18446744073709551615 bs e).2.2)
/-- .. a text. -/
def textS (most : Int) (bs : List UInt8) (e : Int) : List UInt8 × List UInt8 × Int :=
  if (rawS (countS most bs e).1 (countS most bs e).2.1 (countS most bs e).2.2).2.2 ≠ 0 then ((rawS (countS most bs e).1 (countS most bs e).2.1 (countS most bs e).2.2).1, bs, (rawS (countS most bs e).1 (countS most bs e).2.1 (countS most bs e).2.2).2.2)
  else rawS (countS most bs e).1 (countS most bs e).2.1 (countS most bs e).2.2
/-- A text. -/
def textB (b : List UInt8) : List UInt8 := varB b.length ++ b
end Go.Hay
end

section
namespace Go.Hay
set_option linter.unusedVariables false

theorem be_snoc (n k : Nat) : be n (k + 1) = be (n / 256) k ++ [UInt8.ofNat (n % 256)] := by
  induction k with
  | zero => simp [be]
  | succ k ih =>
    rw [be, ih, be, List.cons_append]
    congr 2
    rw [Nat.div_div_eq_div_mul, Nat.pow_succ, Nat.mul_comm]
theorem be_num_rev (l : List UInt8) : be (num l.reverse) l.length = l.reverse := by
  induction l with
  | nil => simp [be]
  | cons x l ih =>
    have hx := x.toNat_lt
    rw [List.reverse_cons, num_snoc, List.length_cons, be_snoc, show (num l.reverse * 256 + x.toNat) / 256 = num l.reverse by omega, ih, show (num l.reverse * 256 + x.toNat) % 256 = x.toNat by omega, UInt8.ofNat_toNat]
theorem be_num (xs : List UInt8) : be (num xs) xs.length = xs := by simpa using be_num_rev xs.reverse
theorem num_be (n k : Nat) : num (be n k) = n % 256 ^ k := by
  induction k generalizing n with
  | zero => simp [be, num, Nat.mod_one]
  | succ k ih =>
    rw [be_snoc, num_snoc, ih, UInt8.toNat_ofNat', show 256 ^ (k + 1) = 256 * 256 ^ k by rw [Nat.pow_succ, Nat.mul_comm], Nat.mod_mul]
    omega
theorem octet_nat (x : UInt8) : octet x.toNat = x := by simp [octet]

/-- What is read as a number is written as the same bytes. -/
theorem fv_back (bs : List UInt8) (h : (fv bs).2.2 = 0) : varB (fv bs).1 = bs.take (fv bs).2.1.toNat ∧ 1 ≤ (fv bs).2.1 := by
  cases bs with
  | nil => simp [fv] at h
  | cons f r =>
    have hf := f.toNat_lt
    have hb := behindI_bd f.toNat
    simp only [fv] at h ⊢
    split
    · rename_i h0
      have hl : leadI f.toNat = f.toNat := by
        unfold behindI at h0
        unfold leadI
        repeat (first | split at h0 | (split <;> omega) | omega)
      simp only [varB, hl, h0, octet_nat]
      simp [be]
    · rename_i h0
      rw [if_neg h0] at h
      by_cases h1 : (r.length : Int) < behindI f.toNat
      · rw [if_pos h1] at h; simp at h
      rw [if_neg h1] at h ⊢
      by_cases h2 : leadI (num (r.take (behindI f.toNat).toNat)) ≠ f.toNat
      · rw [if_pos h2] at h; simp at h
      rw [if_neg h2]
      have h3 : leadI (num (r.take (behindI f.toNat).toNat)) = f.toNat := Decidable.not_not.1 h2
      obtain ⟨k, hk⟩ : ∃ k : Nat, behindI f.toNat = k := ⟨(behindI f.toNat).toNat, by omega⟩
      rw [hk, Int.toNat_natCast] at h3
      have hlen : (r.take k).length = k := by simp; omega
      refine ⟨?_, by show 1 ≤ 1 + behindI f.toNat; omega⟩
      show varB (num (r.take (behindI f.toNat).toNat)) = List.take (1 + behindI f.toNat).toNat (f :: r)
      rw [hk, Int.toNat_natCast]
      simp only [varB]
      rw [h3, hk, Int.toNat_natCast, Int.toNat_natCast, octet_nat]
      have e := be_num (r.take k)
      rw [hlen] at e
      rw [e, show (1 + (k : Int)).toNat = k + 1 by omega, List.take_succ_cons]

/-- Of a Var that was read: in words that the law uses. -/
theorem varS_cases (most : Int) (bs : List UInt8) {n : Int} {bs' : List UInt8} {e' : Int} (h0 : 0 ≤ most) (h : varS most bs 0 = (n, bs', e')) :
    0 ≤ n ∧ n < 18446744073709551616 ∧ bs'.length ≤ bs.length ∧ (e' ≠ 0 → n = 0 ∧ bs' = bs) ∧ (e' = 0 → n ≤ most ∧ varB n = bs.take (bs.length - bs'.length)) := by
  have hbd := fv_bd bs
  have hbk := fv_back bs
  unfold varS at h
  rw [if_neg (by simp)] at h
  split at h
  · rename_i h1
    cases h
    exact ⟨by omega, by omega, Nat.le_refl _, fun _ => ⟨rfl, rfl⟩, fun h => absurd h h1⟩
  · rename_i h1
    have h1' : (fv bs).2.2 = 0 := Decidable.not_not.1 h1
    have hbk := hbk h1'
    split at h
    · cases h
      exact ⟨by omega, by omega, Nat.le_refl _, fun _ => ⟨rfl, rfl⟩, fun h => by simp at h⟩
    · cases h
      refine ⟨by omega, by omega, by simp, fun h => absurd rfl h, fun _ => ⟨by omega, ?_⟩⟩
      rw [hbk.1]
      congr 1
      rw [List.length_drop]
      omega
end Go.Hay
end

section
namespace Go.Hay
open Go.RowKit
set_option linter.unusedVariables false

theorem octet_shift (n : Int) (j : Nat) (h0 : 0 ≤ n) : octet (n / 2 ^ (8 * j) % 256) = UInt8.ofNat (n.toNat / 256 ^ j % 256) := by
  obtain ⟨m, rfl⟩ := Int.eq_ofNat_of_zero_le h0
  unfold octet
  have e : ((m : Int) / 2 ^ (8 * j) % 256) = ((m / 256 ^ j % 256 : Nat) : Int) := by
    rw [Int.pow_mul]
    simp
  rw [e, Int.toNat_natCast, Int.toNat_natCast]
theorem shift_bd (n : Int) (j : Nat) : 0 ≤ n / 2 ^ (8 * j) % 256 ∧ n / 2 ^ (8 * j) % 256 ≤ 255 := by omega
/-- The low bytes of n, noughts ahead: what stands in eight bytes when j of them are laid. -/
def low8 (n j : Nat) : List UInt8 := List.replicate (8 - j) 0 ++ be n j
theorem low8_length (n j : Nat) (h : j ≤ 8) : (low8 n j).length = 8 := by simp [low8, be_length]; omega
theorem low8_succ (n j : Nat) (h : j < 8) : low8 n (j + 1) = (low8 n j).set (7 - j) (UInt8.ofNat (n / 256 ^ j % 256)) := by
  unfold low8
  rw [be, show 8 - j = (7 - j) + 1 by omega, List.replicate_succ', List.append_assoc, List.set_append_right _ _ (by simp)]
  simp [show 8 - (j + 1) = 7 - j by omega]
theorem low8_all (n : Nat) : low8 n 8 = be n 8 := by simp [low8]
theorem or_byte (m x : Nat) (hm : m < 72057594037927936) (hx : x < 256) : bits BinOp.or IntKind.u64 (IntKind.u64.wrap ((m : Int) * 256)) (x : Int) = ((m * 256 + x : Nat) : Int) := by
  have e : IntKind.u64.wrap ((m : Int) * 256) = ((m * 256 : Nat) : Int) := by rw [IntKind.wrap_u64]; omega
  rw [e, bits_or_u64_nat _ _ (by omega) (by omega)]
  have := Nat.two_pow_add_eq_or_of_lt (i := 8) (b := x) (by omega) m
  rw [Nat.mul_comm m 256]
  congr 1
  exact this.symm
theorem num_take_succ (xs : List UInt8) (k : Nat) (h : k < xs.length) : num (xs.take (k + 1)) = num (xs.take k) * 256 + xs[k].toNat := by
  rw [List.take_succ_eq_append_getElem h, num_snoc]
theorem num_take_lt (xs : List UInt8) (k : Nat) (h : k ≤ 7) : num (xs.take k) < 72057594037927936 := by
  have h1 := num_lt (xs.take k)
  have h2 : (xs.take k).length ≤ 7 := by simp; omega
  have h3 : 256 ^ (xs.take k).length ≤ 256 ^ 7 := Nat.pow_le_pow_right (by omega) h2
  omega
theorem num_lt64 (xs : List UInt8) (h : xs.length ≤ 8) : num xs < 18446744073709551616 := by
  have h1 := num_lt xs
  have h3 : 256 ^ xs.length ≤ 256 ^ 8 := Nat.pow_le_pow_right (by omega) h
  omega
end Go.Hay
end

section
namespace Go.Proofs.YtafcdckpicoppaaGreatDoor
open Go.RowKit Go.Hay
set_option linter.unusedVariables false
set_option linter.unusedSimpArgs false

/-- What a call that appends onto v may turn: v's own block; the row behind it is that one, or new. -/
structure Grew (v : Value) (w : World) (v' : Value) (w' : World) : Prop where
  kp : Kp (own v) w w'
  new : ∀ k ∈ own v', k ∈ own v ∨ w.heap.size ≤ k
theorem Grew.refl (v : Value) (w : World) : Grew v w v w := ⟨Kp.refl _ _, fun _ h => .inl h⟩
theorem Grew.trans {v v1 v2 : Value} {w w1 w2 : World} (h : Grew v w v1 w1) (k : Grew v1 w1 v2 w2) : Grew v w v2 w2 :=
  ⟨h.kp.trans k.kp (fun x hx => h.new x hx), fun x hx => by
      rcases k.new x hx with h1 | h1
      · exact h.new x h1
      · exact .inr (Nat.le_trans h.kp.size h1)⟩
theorem Grew.pre {v v1 : Value} {w w0 w1 : World} (h : Kp [] w w0) (k : Grew v w0 v1 w1) : Grew v w v1 w1 :=
  ⟨(h.mono (T := own v) (by simp)).trans k.kp (fun _ hx => .inl hx), fun x hx => (k.new x hx).imp id (Nat.le_trans h.size)⟩
theorem Grew.post {v v1 : Value} {w w1 w2 : World} (h : Grew v w v1 w1) (k : Kp [] w1 w2) : Grew v w v1 w2 := ⟨h.kp.trans k (by simp), h.new⟩
/-- Where v is no older than the call. -/
theorem Grew.fresh {v v' : Value} {w wn wm : World} (h : Grew v wn v' wm) (kw : Kp [] w wn) (ho : ∀ k ∈ own v, w.heap.size ≤ k) : Kp [] w wm ∧ ∀ k ∈ own v', w.heap.size ≤ k := stepA kw ho h.kp h.new

theorem kpNew (w : World) (o : Obj) : Kp [] w (w.alloc o) := (Kp.refl _ _).alloc _
theorem rowKeep {w w' : World} {v : Value} {bs : List UInt8} (h : Row w v bs) (hk : Kp [] w w') : Row w' v bs := h.kept hk (by simp)
theorem seesKeep {w w' : World} {a : Option Addr} {bs : List UInt8} (h : Sees w a bs) (hk : Kp [] w w') : Sees w' a bs := h.kept hk (by simp)
theorem boxKeep {w w' : World} {q : Nat} {a b c d : Value} (h : Box4 w q a b c d) (hk : Kp [] w w') : Box4 w' q a b c d := h.kept hk (by simp)
/-- A box that is no row's. -/
theorem boxGrew {w w' : World} {q : Nat} {a b c d v v' : Value} (h : Box4 w q a b c d) (hg : Grew v w v' w') (hq : q ∉ own v) : Box4 w' q a b c d := h.kept hg.kp hq
theorem info3 {P : Program} {t : TypeId} {z : Value} {a b : Nat} (h : (P.info? t).map (fun i => (i.zero, i.size, i.bytes)) = some (some z, a, b)) : ∃ i, P.info? t = some i ∧ i.zero = some z ∧ i.size = a ∧ i.bytes = b := by
  cases hp : P.info? t with
  | none => rw [hp] at h; cases h
  | some i =>
    rw [hp] at h
    simp at h
    exact ⟨i, rfl, h.1, h.2.1, h.2.2⟩
theorem infoU : ∃ i : TypeInfo, Tryz.prog.info? 5 = some i ∧ i.zero = some (.int .u8 0) ∧ i.size = 1 ∧ i.bytes = 1 := info3 (by kernel_rfl)

/-- An append of what a slice sees. -/
theorem wpAppR {w : World} {ops : Array Oper} {rest : List Oper} {o : Oper} {a : Act} {Q : Exit → Act → World → Prop} (hgd : o.guard = none) (s x : Operand)
    (ho : o.op = .call { callee := .builtin .append, args := #[s, x], argTypes := #[28, 28] })
    (v : Value) (xs : List UInt8) (hv : a.eval s = v) (hown : Row w v xs) (sa : Option Addr) (m c : Nat) (bs : List UInt8) (hx : a.eval x = .slice sa m c) (hm : m = bs.length) (hs : Sees w sa bs) (hb : xs.length + bs.length ≤ 200000000000000)
    (hK : ∀ ys a' c' w', Hid (ys = xs ++ bs) → ys.length ≤ xs.length + bs.length → Row w' (.slice a' ys.length c') ys → Grew v w (.slice a' ys.length c') w' → wpList Tryz.prog ops Q rest (a.put o.dst (.slice a' ys.length c')) w') : wpList Tryz.prog ops Q (o :: rest) a w := by
  obtain ⟨i0, hi, hz0, hz1, hz2⟩ := infoU
  subst hm
  exact wpList_append_src _ hgd s x 28 28 ho i0 Tryz.underlying28 hi hz0 hz1 hz2 v xs hv hown _ bs hx (hs.src Tryz.underlying28 c) hb (fun v' w' h1 h2 h3 => by obtain ⟨a', c', rfl, _⟩ := h1.shape; exact hK _ a' c' w' rfl (by simp) h1 ⟨h2, h3⟩)
theorem bcells_byteCells (s : ByteArray) : byteCells s = bcells s.data.toList := by
  simp [byteCells, bcells]
/-- An append of a string's bytes. -/
theorem wpAppS {w : World} {ops : Array Oper} {rest : List Oper} {o : Oper} {a : Act} {Q : Exit → Act → World → Prop} (hgd : o.guard = none) (s x : Operand)
    (ho : o.op = .call { callee := .builtin .append, args := #[s, x], argTypes := #[28, 9] })
    (v : Value) (xs : List UInt8) (hv : a.eval s = v) (hown : Row w v xs) (t : ByteArray) (hx : a.eval x = .string t) (hb : xs.length + t.size ≤ 200000000000000)
    (hK : ∀ ys a' c' w', Hid (ys = xs ++ t.data.toList) → ys.length ≤ xs.length + t.size → Row w' (.slice a' ys.length c') ys → Grew v w (.slice a' ys.length c') w' → wpList Tryz.prog ops Q rest (a.put o.dst (.slice a' ys.length c')) w') : wpList Tryz.prog ops Q (o :: rest) a w := by
  obtain ⟨i0, hi, hz0, hz1, hz2⟩ := infoU
  have hlen : t.data.toList.length = t.size := by simp
  have hs := Src.ofString (P := Tryz.prog) w (tx := 9) Tryz.underlying9 t
  rw [← hlen, bcells_byteCells] at hs
  exact wpList_append_src _ hgd s x 28 9 ho i0 Tryz.underlying28 hi hz0 hz1 hz2 v xs hv hown _ t.data.toList hx hs (by rw [hlen]; exact hb) (fun v' w' h1 h2 h3 => by obtain ⟨a', c', rfl, _⟩ := h1.shape; exact hK _ a' c' w' rfl (by simp) h1 ⟨h2, h3⟩)
/-- One byte, two bytes in a new block. -/
theorem seesOne (w : World) {q : Nat} (hq : w.heap.size = q) (x : Int) (h0 : 0 ≤ x) (h1 : x ≤ 255) (t : TypeId) : Sees (w.alloc (.cells #[.int .u8 x] t)) (some ⟨q, 0, none⟩) [octet x] := by
  subst hq
  exact Sees.new w _ t _ _ (by simp [bcells, octet_toNat x h0 h1])
theorem seesTwo (w : World) {q : Nat} (hq : w.heap.size = q) (x y : Int) (h0 : 0 ≤ x) (h1 : x ≤ 255) (g0 : 0 ≤ y) (g1 : y ≤ 255) (t : TypeId) : Sees (w.alloc (.cells #[.int .u8 x, .int .u8 y] t)) (some ⟨q, 0, none⟩) [octet x, octet y] := by
  subst hq
  exact Sees.new w _ t _ _ (by simp [bcells, octet_toNat x h0 h1, octet_toNat y g0 g1])
theorem rowNew (w : World) {q : Nat} (hq : w.heap.size = q) (x : Int) (h0 : 0 ≤ x) (h1 : x ≤ 255) (t : TypeId) : Row (w.alloc (.cells #[.int .u8 x] t)) (.slice (some ⟨q, 0, none⟩) 1 1) [octet x] := by
  subst hq
  refine .inr ⟨w.heap.size, 0, 1, rfl, Nat.le_refl _, by unfold maxLen; omega, by simp, ?_, ?_⟩
  · intro j u hu
    match j, hu with
    | 0, hu => cases hu; rw [octet_toNat x h0 h1]; exact World.cell?_alloc_new w _ _ 0
    | j + 1, hu => simp at hu
  · intro j hj
    obtain rfl : j = 0 := by omega
    exact ⟨by rw [show (w.alloc (.cells #[.int .u8 x] t)).cell? ⟨w.heap.size, 0 + 0, none⟩ = _ from World.cell?_alloc_new w _ _ 0]; rfl, World.frozen?_alloc_new w _ _ 0⟩
end Go.Proofs.YtafcdckpicoppaaGreatDoor
end

section
namespace Go.Proofs.YtafcdckpicoppaaGreatDoor
open Go.RowKit Go.Hay
set_option linter.unusedVariables false
set_option linter.unusedSimpArgs false

/-- A block of eight cells: bytes. -/
structure Box8 (w : World) (q : Nat) (l : List UInt8) : Prop where
  len : l.length = 8
  cell : ∀ j u, l[j]? = some u → w.cell? ⟨q, j, none⟩ = some (.int .u8 u.toNat)
  free : ∀ j, w.frozen? ⟨q, j, none⟩ = false
theorem Box8.at {w : World} {q : Nat} {l : List UInt8} (h : Box8 w q l) (j : Nat) (hj : j < 8) : w.cell? ⟨q, j, none⟩ = some (.int .u8 (l.getD j 0).toNat) := by
  have hl := h.len
  have : l[j]? = some (l.getD j 0) := by rw [List.getElem?_eq_getElem (by omega)]; simp [List.getD_eq_getElem?_getD, List.getElem?_eq_getElem (by omega : j < l.length)]
  exact h.cell j _ this
theorem Box8.set {w : World} {q : Nat} {l : List UInt8} (h : Box8 w q l) (i : Nat) (x : UInt8) (hi : i < 8) : Box8 (w.setCell ⟨q, i, none⟩ (.int .u8 x.toNat)) q (l.set i x) := by
  have hl := h.len
  refine ⟨by simpa using hl, fun j u hu => ?_, fun j => by rw [World.frozen?_setCell]; exact h.free j⟩
  by_cases hj : j = i
  · subst hj
    rw [List.getElem?_set_self (by omega)] at hu
    cases hu
    exact World.cell?_setCell_same _ _ _ (h.at j hi)
  · rw [List.getElem?_set_ne (fun e => hj e.symm)] at hu
    rw [World.cell?_setCell_other _ _ _ _ (by intro e; simp only [Addr.mk.injEq] at e; omega)]
    exact h.cell j u hu
theorem Box8.lt {w : World} {q : Nat} {l : List UInt8} (h : Box8 w q l) : q < w.heap.size := World.block_lt_of_cell? _ _ (h.at 0 (by omega))
theorem Box8.kept {w w' : World} {q : Nat} {l : List UInt8} {S : List Nat} (h : Box8 w q l) (hk : Kp S w w') (hq : q ∉ S) : Box8 w' q l :=
  ⟨h.len, fun j u hu => (hk.cell (p := ⟨q, j, none⟩) h.lt hq).trans (h.cell j u hu), fun j => (hk.frozen (p := ⟨q, j, none⟩) h.lt hq).trans (h.free j)⟩

/-- Eight bytes, as a value. -/
def long8 (l : List UInt8) : Value := .agg #[.int .u8 (l.getD 0 0).toNat, .int .u8 (l.getD 1 0).toNat, .int .u8 (l.getD 2 0).toNat, .int .u8 (l.getD 3 0).toNat, .int .u8 (l.getD 4 0).toNat, .int .u8 (l.getD 5 0).toNat, .int .u8 (l.getD 6 0).toNat, .int .u8 (l.getD 7 0).toNat]

theorem Box8.zero {w : World} (q : Nat) (hq : w.heap.size = q) (t : TypeId) : Box8 (w.alloc (.cells #[.int .u8 0, .int .u8 0, .int .u8 0, .int .u8 0, .int .u8 0, .int .u8 0, .int .u8 0, .int .u8 0] t)) q (low8 0 0) := by
  subst hq
  refine ⟨rfl, fun j u hu => ?_, fun j => World.frozen?_alloc_new w _ _ j⟩
  have e := World.cell?_alloc_new w #[.int .u8 0, .int .u8 0, .int .u8 0, .int .u8 0, .int .u8 0, .int .u8 0, .int .u8 0, .int .u8 0] t j
  rw [e]
  match j, hu with
  | 0, hu | 1, hu | 2, hu | 3, hu | 4, hu | 5, hu | 6, hu | 7, hu => cases hu; rfl
  | j + 8, hu => simp [low8, be] at hu
/-- Eight bytes, laid one by one. -/
def put8 (w : World) (q : Nat) (x0 x1 x2 x3 x4 x5 x6 x7 : UInt8) : World :=
  (((((((w.setCell ⟨q, 0, none⟩ (.int .u8 x0.toNat)).setCell ⟨q, 1, none⟩ (.int .u8 x1.toNat)).setCell ⟨q, 2, none⟩ (.int .u8 x2.toNat)).setCell ⟨q, 3, none⟩ (.int .u8 x3.toNat)).setCell ⟨q, 4, none⟩ (.int .u8 x4.toNat)).setCell ⟨q, 5, none⟩ (.int .u8 x5.toNat)).setCell ⟨q, 6, none⟩ (.int .u8 x6.toNat)).setCell ⟨q, 7, none⟩ (.int .u8 x7.toNat)
theorem Box8.put {w : World} {q : Nat} {l : List UInt8} (h : Box8 w q l) (x0 x1 x2 x3 x4 x5 x6 x7 : UInt8) : Box8 (put8 w q x0 x1 x2 x3 x4 x5 x6 x7) q [x0, x1, x2, x3, x4, x5, x6, x7] := by
  have hh := (((((((h.set 0 x0 (by omega)).set 1 x1 (by omega)).set 2 x2 (by omega)).set 3 x3 (by omega)).set 4 x4 (by omega)).set 5 x5 (by omega)).set 6 x6 (by omega)).set 7 x7 (by omega)
  have hl := h.len
  match l, hl with
  | [_, _, _, _, _, _, _, _], _ => exact hh
theorem gen8 {w0 w : World} {q : Nat} {l : List UInt8} {R : World → Prop} (h : Box8 w q l) (hk : Kp [] w0 w) (hq : w0.heap.size ≤ q) (x0 x1 x2 x3 x4 x5 x6 x7 : UInt8)
    (H : ∀ W, Box8 W q [x0, x1, x2, x3, x4, x5, x6, x7] → Kp [] w0 W → R W) :
    R ((((((((w.setCell ⟨q, 0, none⟩ (.int .u8 x0.toNat)).setCell ⟨q, 1, none⟩ (.int .u8 x1.toNat)).setCell ⟨q, 2, none⟩ (.int .u8 x2.toNat)).setCell ⟨q, 3, none⟩ (.int .u8 x3.toNat)).setCell ⟨q, 4, none⟩ (.int .u8 x4.toNat)).setCell ⟨q, 5, none⟩ (.int .u8 x5.toNat)).setCell ⟨q, 6, none⟩ (.int .u8 x6.toNat)).setCell ⟨q, 7, none⟩ (.int .u8 x7.toNat)) :=
  H _ (h.put x0 x1 x2 x3 x4 x5 x6 x7) ((((((((hk.setCell (.inr hq) _).setCell (.inr hq) _).setCell (.inr hq) _).setCell (.inr hq) _).setCell (.inr hq) _).setCell (.inr hq) _).setCell (.inr hq) _).setCell (.inr hq) _)
theorem Box8.box (w : World) (l : List UInt8) (hl : l.length = 8) (t : TypeId) : Box8 (w.alloc (.cells #[.int .u8 (l.getD 0 0).toNat, .int .u8 (l.getD 1 0).toNat, .int .u8 (l.getD 2 0).toNat, .int .u8 (l.getD 3 0).toNat, .int .u8 (l.getD 4 0).toNat, .int .u8 (l.getD 5 0).toNat, .int .u8 (l.getD 6 0).toNat, .int .u8 (l.getD 7 0).toNat] t)) w.heap.size l := by
  match l, hl with
  | [x0, x1, x2, x3, x4, x5, x6, x7], _ =>
  refine ⟨rfl, fun j u hu => ?_, fun j => World.frozen?_alloc_new w _ _ j⟩
  rw [World.cell?_alloc_new w _ _ j]
  match j, hu with
  | 0, hu | 1, hu | 2, hu | 3, hu | 4, hu | 5, hu | 6, hu | 7, hu => cases hu; rfl
  | j + 8, hu => simp at hu
theorem low8_zero (n : Nat) : low8 n 0 = low8 0 0 := rfl
theorem kpOther {w : World} {q i : Nat} {v : Value} {S : List Nat} (hq : q ∈ S) : Kp S w (w.setCell ⟨q, i, none⟩ v) := (Kp.refl S w).setCell (p := ⟨q, i, none⟩) (.inl hq) v

set_option maxHeartbeats 2000000 in
set_option maxRecDepth 100000 in
theorem cLongOf (n : Int) (w : World) (h0 : 0 ≤ n) (h1 : n < 18446744073709551616) :
    Calls Tryz.prog 114 #[.int .u64 n] w fun e w' => e = .returned (long8 (be n.toNat 8)) ∧ Kp [] w w' := by
  go_enter Tryz.func114, Tryz.ntmps114
  go_wp2_with fail
  go_loopw [5] (fun i wn => ∃ j : Nat, j ≤ 8 ∧ i = .int .i64 j ∧ Box8 wn w.heap.size (low8 0 0) ∧ Box8 wn (w.heap.size + 1) (low8 n.toNat j) ∧ wn.heap.size = w.heap.size + 2 ∧ Kp [] w wn) (fun i _ => 8 - (intOf i).toNat)
  case atStart =>
    refine ⟨0, Nat.zero_le _, rfl, (Box8.zero (w := w) _ rfl _).kept (S := []) ((Kp.refl _ _).alloc _) (by simp), Box8.zero _ (by simp) _, by simp, ((Kp.refl _ _).alloc _).alloc _⟩
  case round =>
    obtain ⟨j, hj, rfl, hb0, hbx, hsz, hk⟩ := hrel
    by_cases hlt : j < 8
    · have hc := hbx.at (7 - j) (by omega)
      have hf := hbx.free (7 - j)
      go_wp2_with fail
      have hbd := shift_bd n j
      rw [← octet_toNat _ hbd.1 hbd.2, octet_shift n j h0]
      refine ⟨⟨j + 1, by omega, by go_num, ?_, ?_, ?_, ?_⟩, by simp [intOf]; omega⟩
      · exact hb0.kept (S := [w.heap.size + 1]) (kpOther (by simp)) (by simp)
      · rw [low8_succ _ _ hlt]; exact hbx.set (7 - j) _ (by omega)
      · simpa [World.setCell] using hsz
      · exact hk.setCell (p := ⟨w.heap.size + 1, 7 - j, none⟩) (.inr (by simp)) _
    · obtain rfl : j = 8 := by omega
      rw [low8_all] at hbx
      obtain ⟨x0, x1, x2, x3, x4, x5, x6, x7, hbe⟩ : ∃ x0 x1 x2 x3 x4 x5 x6 x7 : UInt8, Hid (be n.toNat 8 = [x0, x1, x2, x3, x4, x5, x6, x7]) := ⟨_, _, _, _, _, _, _, _, rfl⟩
      rw [hbe.out] at hbx
      have c0 := hbx.cell 0 _ rfl; have c1 := hbx.cell 1 _ rfl; have c2 := hbx.cell 2 _ rfl; have c3 := hbx.cell 3 _ rfl
      have c4 := hbx.cell 4 _ rfl; have c5 := hbx.cell 5 _ rfl; have c6 := hbx.cell 6 _ rfl; have c7 := hbx.cell 7 _ rfl
      have z0 := hb0.cell 0 0 rfl; have z1 := hb0.cell 1 0 rfl; have z2 := hb0.cell 2 0 rfl; have z3 := hb0.cell 3 0 rfl
      have z4 := hb0.cell 4 0 rfl; have z5 := hb0.cell 5 0 rfl; have z6 := hb0.cell 6 0 rfl; have z7 := hb0.cell 7 0 rfl
      have f0 := hb0.free 0; have f1 := hb0.free 1; have f2 := hb0.free 2; have f3 := hb0.free 3
      have f4 := hb0.free 4; have f5 := hb0.free 5; have f6 := hb0.free 6; have f7 := hb0.free 7
      clear hbx
      go_wp2_with fail
      refine gen8 (R := fun W => bodyPost _ _ _ _ _ W) hb0 hk (Nat.le_refl _) x0 x1 x2 x3 x4 x5 x6 x7 ?_
      intro W hb8 hk8
      clear c0 c1 c2 c3 c4 c5 c6 c7
      have c0 := hb8.cell 0 _ rfl; have c1 := hb8.cell 1 _ rfl; have c2 := hb8.cell 2 _ rfl; have c3 := hb8.cell 3 _ rfl
      have c4 := hb8.cell 4 _ rfl; have c5 := hb8.cell 5 _ rfl; have c6 := hb8.cell 6 _ rfl; have c7 := hb8.cell 7 _ rfl
      refine bodyPost_ret (v := long8 [x0, x1, x2, x3, x4, x5, x6, x7]) (by simp [results, Tryz.results114, go_sem, c0, c1, c2, c3, c4, c5, c6, c7]; rfl) rfl ⟨by rw [hbe.out], hk8⟩

set_option maxHeartbeats 2000000 in
set_option maxRecDepth 100000 in
theorem cLongNum (l : List UInt8) (hl : l.length = 8) (w : World) :
    Calls Tryz.prog 130 #[long8 l] w fun e w' => e = .returned (.int .u64 (num l)) ∧ Kp [] w w' := by
  have hL := hid hl
  have hx := Box8.box w l hl 153
  unfold long8
  generalize (l.getD 0 0).toNat = y0 at *; generalize (l.getD 1 0).toNat = y1 at *; generalize (l.getD 2 0).toNat = y2 at *; generalize (l.getD 3 0).toNat = y3 at *
  generalize (l.getD 4 0).toNat = y4 at *; generalize (l.getD 5 0).toNat = y5 at *; generalize (l.getD 6 0).toNat = y6 at *; generalize (l.getD 7 0).toNat = y7 at *
  have hkw : Kp [] w (w.alloc (.cells #[.int .u8 y0, .int .u8 y1, .int .u8 y2, .int .u8 y3, .int .u8 y4, .int .u8 y5, .int .u8 y6, .int .u8 y7] 153)) := (Kp.refl _ _).alloc _
  clear hl
  go_enter Tryz.func130, Tryz.ntmps130
  go_wp2_with fail
  generalize w.alloc (.cells #[.int .u8 y0, .int .u8 y1, .int .u8 y2, .int .u8 y3, .int .u8 y4, .int .u8 y5, .int .u8 y6, .int .u8 y7] 153) = W at *
  go_loopw [3, 5] (fun s i wn => ∃ k : Nat, k ≤ 8 ∧ i = .int .i64 k ∧ s = .int .u64 (num (l.take k)) ∧ wn = W) (fun _ i _ => 8 - (intOf i).toNat)
  case atStart => exact ⟨0, Nat.zero_le _, rfl, rfl, rfl⟩
  case round =>
    obtain ⟨k, hk, rfl, rfl, rfl⟩ := hrel
    by_cases hlt : k < 8
    · have hkl : k < l.length := by rw [hL.out]; exact hlt
      have hck := hx.cell k l[k] (by simp)
      have H := hid (num_take_succ l k hkl)
      have H2 := hid (num_take_lt l k (by omega))
      have hx8 : l[k].toNat < 256 := l[k].toNat_lt
      go_wp2_with fail
      refine ⟨⟨k + 1, by omega, by go_num, ?_, trivial⟩, by simp [intOf]; omega⟩
      rw [or_byte _ _ H2.out hx8, ← H.out]
    · go_wp2_with fail
      go_ret
      exact ⟨ret_int (by rw [List.take_of_length_le (by rw [hL.out]; omega)]), hkw⟩

end Go.Proofs.YtafcdckpicoppaaGreatDoor
end

section
namespace Go.Proofs.YtafcdckpicoppaaGreatDoor
open Go.RowKit Go.Hay
set_option linter.unusedVariables false
set_option linter.unusedSimpArgs false

/-- Are two values the same? -/
def Val.eqv (x y : Val) : Bool := x.k == y.k && (x.b == y.b && (x.n == y.n && x.t.toList == y.t.toList))
/-- Which values are right. -/
def Val.right (x : Val) : Bool :=
  if x.k = 0 then x.b == false && (x.n == 0 && x.t.toList == [])
  else if x.k = 1 then x.n == 0 && x.t.toList == []
  else if x.k = 2 then x.b == false && x.t.toList == []
  else if x.k = 3 then (x.b == false && x.n == 0) && decide ((x.t.size : Int) ≤ 64)
  else false
theorem emptyL : (⟨#[]⟩ : ByteArray).toList = [] := by rw [ByteArray.toList]; unfold ByteArray.toList.loop; rfl
theorem eqV (x y : Val) : ∃ X : Bool, Hid (X = x.eqv y) ∧ ∀ w : World, (binOp .eql 25 (.agg #[.int .i64 x.k, .bool x.b, .int .i64 x.n, .string x.t]) (.agg #[.int .i64 y.k, .bool y.b, .int .i64 y.n, .string y.t])).run Tryz.prog w = .ok (.bool X) w := by
  refine ⟨_, rfl, fun w => ?_⟩
  rw [run_eql_struct, run_equalIn_agg (ht := by kernel_rfl) (hp := by kernel_rfl)]
  obtain ⟨k1, b1, n1, t1⟩ := x
  obtain ⟨k2, b2, n2, t2⟩ := y
  simp only [Val.eqv]
  by_cases h1 : k1 = k2
  · by_cases h2 : b1 = b2
    · by_cases h3 : n1 = n2
      · by_cases h4 : t1.toList = t2.toList
        · simp [go_sem, h1, h2, h3, h4]
        · simp [go_sem, h1, h2, h3, h4]
      · simp [go_sem, h1, h2, h3]
    · simp [go_sem, h1, h2]
  · simp [go_sem, h1]

set_option maxHeartbeats 2000000 in
set_option maxRecDepth 100000 in
theorem cRight (x : Val) (w : World) : Calls Tryz.prog 72 #[x.v] w fun e w' => e = .returned (.bool x.right) ∧ Kp [] w w' := by
  obtain ⟨k, b, n, t⟩ := x
  unfold Val.v
  have kw : Kp [] w (w.alloc (.cells #[.int .i64 k, .bool b, .int .i64 n, .string t] 25)) := (Kp.refl _ _).alloc _
  have bA := Box4.new w (.int .i64 k) (.bool b) (.int .i64 n) (.string t) 25
  by_cases h0 : k = 0
  · subst h0
    obtain ⟨X, HX, hX⟩ := eqV ⟨0, b, n, t⟩ ⟨0, false, 0, ⟨#[]⟩⟩
    have q0 := bA.c0; have q1 := bA.c1; have q2 := bA.c2; have q3 := bA.c3
    go_enter Tryz.func72, Tryz.ntmps72
    go_wp2_with fail
    go_region_held3 (fun w' => w'.cell? ⟨w.heap.size, 0, none⟩ = some (.int .i64 0) ∧ w'.cell? ⟨w.heap.size, 1, none⟩ = some (.bool b) ∧ w'.cell? ⟨w.heap.size, 2, none⟩ = some (.int .i64 n) ∧ w'.cell? ⟨w.heap.size, 3, none⟩ = some (.string t)) (first | go_keep) (first | (go_at_call 60; refine (cNull _).mono ?_; rintro e w1 ⟨rfl, k1⟩; have bA1 := bA.drew.kept k1 (by simp); have y0 := bA1.c0; have y1 := bA1.c1; have y2 := bA1.c2; have y3 := bA1.c3))
    go_wp2_with fail
    go_ret
    have hr : Val.right ⟨0, b, n, t⟩ = X := by rw [HX.out]; simp [Val.right, Val.eqv, emptyL]
    exact ⟨by rw [hr]; rfl, kw.drew.trans k1 (by simp)⟩
  by_cases h1 : k = 1
  · subst h1
    obtain ⟨X, HX, hX⟩ := eqV ⟨1, b, n, t⟩ ⟨1, b, 0, ⟨#[]⟩⟩
    have q0 := bA.c0; have q1 := bA.c1; have q2 := bA.c2; have q3 := bA.c3
    go_enter Tryz.func72, Tryz.ntmps72
    go_wp2_with fail
    go_region_held3 (fun w' => w'.cell? ⟨w.heap.size, 0, none⟩ = some (.int .i64 1) ∧ w'.cell? ⟨w.heap.size, 1, none⟩ = some (.bool b) ∧ w'.cell? ⟨w.heap.size, 2, none⟩ = some (.int .i64 n) ∧ w'.cell? ⟨w.heap.size, 3, none⟩ = some (.string t)) (first | go_keep) (first | (go_at_call 61; refine (cBool b _).mono ?_; rintro e w1 ⟨rfl, k1⟩; have bA1 := bA.drew.kept k1 (by simp); have y0 := bA1.c0; have y1 := bA1.c1; have y2 := bA1.c2; have y3 := bA1.c3))
    go_wp2_with fail
    go_ret
    have hr : Val.right ⟨1, b, n, t⟩ = X := by rw [HX.out]; simp [Val.right, Val.eqv, emptyL]
    exact ⟨by rw [hr]; rfl, kw.drew.trans k1 (by simp)⟩
  by_cases h2 : k = 2
  · subst h2
    obtain ⟨X, HX, hX⟩ := eqV ⟨2, b, n, t⟩ ⟨2, false, n, ⟨#[]⟩⟩
    have q0 := bA.c0; have q1 := bA.c1; have q2 := bA.c2; have q3 := bA.c3
    go_enter Tryz.func72, Tryz.ntmps72
    go_wp2_with fail
    go_region_held3 (fun w' => w'.cell? ⟨w.heap.size, 0, none⟩ = some (.int .i64 2) ∧ w'.cell? ⟨w.heap.size, 1, none⟩ = some (.bool b) ∧ w'.cell? ⟨w.heap.size, 2, none⟩ = some (.int .i64 n) ∧ w'.cell? ⟨w.heap.size, 3, none⟩ = some (.string t)) (first | go_keep) (first | (go_at_call 63; refine (cInt n _).mono ?_; rintro e w1 ⟨rfl, k1⟩; have bA1 := bA.drew.kept k1 (by simp); have y0 := bA1.c0; have y1 := bA1.c1; have y2 := bA1.c2; have y3 := bA1.c3))
    go_wp2_with fail
    go_ret
    have hr : Val.right ⟨2, b, n, t⟩ = X := by rw [HX.out]; simp [Val.right, Val.eqv, emptyL]
    exact ⟨by rw [hr]; rfl, kw.drew.trans k1 (by simp)⟩
  by_cases h3 : k = 3
  · subst h3
    obtain ⟨X, HX, hX⟩ := eqV ⟨3, b, n, t⟩ ⟨3, false, 0, t⟩
    have q0 := bA.c0; have q1 := bA.c1; have q2 := bA.c2; have q3 := bA.c3
    cases X
    · go_enter Tryz.func72, Tryz.ntmps72
      go_wp2_with fail
      first
        | go_region_with (first | (go_at_call 65; refine (cText t _).mono ?_; rintro e w1 ⟨rfl, k1⟩; have bA1 := bA.drew.kept k1 (by simp); have y0 := bA1.c0; have y1 := bA1.c1; have y2 := bA1.c2; have y3 := bA1.c3))
        | fail
      all_goals go_wp2_with fail
      all_goals go_ret
      all_goals have hr : Val.right ⟨3, b, n, t⟩ = false := by have := HX.out; simp [Val.eqv] at this; simp [Val.right]; intro h1 h2; exact absurd h2 (this h1)
      all_goals exact ⟨by rw [hr]; rfl, kw.drew.trans k1 (by simp)⟩
    · go_enter Tryz.func72, Tryz.ntmps72
      go_wp2_with fail
      go_region_held3 (fun w' => w'.cell? ⟨w.heap.size, 0, none⟩ = some (.int .i64 3) ∧ w'.cell? ⟨w.heap.size, 1, none⟩ = some (.bool b) ∧ w'.cell? ⟨w.heap.size, 2, none⟩ = some (.int .i64 n) ∧ w'.cell? ⟨w.heap.size, 3, none⟩ = some (.string t)) (first | go_keep) (first | (go_at_call 65; refine (cText t _).mono ?_; rintro e w1 ⟨rfl, k1⟩; have bA1 := bA.drew.kept k1 (by simp); have y0 := bA1.c0; have y1 := bA1.c1; have y2 := bA1.c2; have y3 := bA1.c3))
      go_wp2_with fail
      go_ret
      have hr : Val.right ⟨3, b, n, t⟩ = decide ((t.size : Int) ≤ 64) := by have := HX.out; simp [Val.eqv] at this; simp [Val.right, this]
      exact ⟨by rw [hr]; rfl, kw.drew.trans k1 (by simp)⟩
  · have d0 : (k == 0) = false := by simpa using h0
    have d1 : (k == 1) = false := by simpa using h1
    have d2 : (k == 2) = false := by simpa using h2
    have d3 : (k == 3) = false := by simpa using h3
    have hr : Val.right ⟨k, b, n, t⟩ = false := by simp [Val.right, h0, h1, h2, h3]
    have HR := hid hr
    clear hr h0 h1 h2 h3
    go_enter Tryz.func72, Tryz.ntmps72
    go_wp2_with fail
    go_ret
    exact ⟨by rw [HR.out]; rfl, kw⟩
end Go.Proofs.YtafcdckpicoppaaGreatDoor
end

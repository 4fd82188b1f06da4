/- What memory holds, told of a world: rows of bytes that the calls made, bytes that a slice sees, and which blocks a call may have turned. No statement of the seat is proved here. Rows of structs, for any element: how a slice of them lies in memory, how it grows, how it is copied onto itself. No statement of the seat is proved here. Versions as plain values: names and their order, lists by rising names, what each call makes of them. No statement of the seat is proved here. -/
import Derived.WalkKit
import Derived.WalkSpells
import Derived.Deep.Upon
import Derived.Deep.DeepAppendWide
import Derived.WalkSmall
import Derived.Laws.IdiomCopy
import Derived.Deep.RegionLaw
section
namespace Go.Hay
open Go.RowKit

/-- A list of bytes, as cells. -/
def bcells (bs : List UInt8) : List Value := bs.map fun x => .int .u8 x.toNat
theorem bcells_length (bs : List UInt8) : (bcells bs).length = bs.length := by simp [bcells]
theorem bcells_append (a b : List UInt8) : bcells (a ++ b) = bcells a ++ bcells b := by simp [bcells]
theorem bcells_get (bs : List UInt8) (j : Nat) : (bcells bs)[j]? = bs[j]?.map fun x => .int .u8 x.toNat := by simp [bcells]
theorem bcells_one (bs : List UInt8) : ∀ u ∈ bcells bs, u.oneCell' = true := by
  intro u hu
  obtain ⟨x, _, rfl⟩ := List.mem_map.1 hu
  rfl

/-- Only blocks of S may have turned. -/
structure Kp (S : List Nat) (w w' : World) : Prop where
  os : w'.os = w.os
  tape : w'.tape = w.tape
  output : w'.output = w.output
  size : w.heap.size ≤ w'.heap.size
  block : ∀ k, k < w.heap.size → k ∉ S → w'.heap[k]? = w.heap[k]?

theorem Kp.refl (S : List Nat) (w : World) : Kp S w w := ⟨rfl, rfl, rfl, Nat.le_refl _, fun _ _ _ => rfl⟩
/-- Two steps: what the second one may turn is what the first one may, or is new. -/
theorem Kp.trans {S T : List Nat} {a b c : World} (h : Kp S a b) (k : Kp T b c) (hT : ∀ x ∈ T, x ∈ S ∨ a.heap.size ≤ x) : Kp S a c :=
  ⟨k.os.trans h.os, k.tape.trans h.tape, k.output.trans h.output, Nat.le_trans h.size k.size, fun i hi hn =>
    (k.block i (Nat.lt_of_lt_of_le hi h.size) (fun hm => by rcases hT i hm with h1 | h1; exact hn h1; omega)).trans (h.block i hi hn)⟩
theorem Kp.mono {S T : List Nat} {a b : World} (h : Kp S a b) (hT : ∀ x ∈ S, x ∈ T ∨ a.heap.size ≤ x) : Kp T a b :=
  ⟨h.os, h.tape, h.output, h.size, fun i hi hn => h.block i hi (fun hm => by rcases hT i hm with h1 | h1; exact hn h1; omega)⟩
theorem Kp.drew {S : List Nat} {a w : World} (h : Kp S a w) : Kp S a w.drew := ⟨h.os, h.tape, h.output, h.size, h.block⟩
theorem Kp.drewN {S : List Nat} {a w : World} (h : Kp S a w) (n : Nat) : Kp S a (w.drewN n) := ⟨h.os, h.tape, h.output, h.size, h.block⟩
theorem Kp.alloc {S : List Nat} {a w : World} (h : Kp S a w) (o : Obj) : Kp S a (w.alloc o) :=
  ⟨h.os, h.tape, h.output, by have := h.size; simp; omega, fun k hk hn => (Below.heap_alloc w o k (Nat.lt_of_lt_of_le hk h.size)).trans (h.block k hk hn)⟩
theorem Kp.setCell {S : List Nat} {a w : World} (h : Kp S a w) {p : Addr} (hp : p.block ∈ S ∨ a.heap.size ≤ p.block) (u : Value) : Kp S a (w.setCell p u) :=
  ⟨h.os, h.tape, h.output, by have := h.size; simpa [World.setCell] using this, fun k hk hn =>
    (Below.heap_setCell w p u k (fun e => by subst e; rcases hp with h1 | h1; exact hn h1; omega)).trans (h.block k hk hn)⟩
theorem Kp.grown {S : List Nat} {a w w' : World} {row : Option Nat} (h : Kp S a w) (hg : w.grownBy w' row) (hr : ∀ k, row = some k → k ∈ S ∨ a.heap.size ≤ k) : Kp S a w' :=
  ⟨hg.os.trans h.os, hg.tape.trans h.tape, hg.output.trans h.output, Nat.le_trans h.size hg.size, fun k hk hn =>
    (hg.block k (Nat.lt_of_lt_of_le hk h.size) (fun e => by rcases hr k e.symm with h1 | h1; exact hn h1; omega)).trans (h.block k hk hn)⟩
theorem Kp.ofBelow {w w' : World} (h : Below w.heap.size w w') (S : List Nat) : Kp S w w' := ⟨h.os, h.tape, h.output, h.size, fun k hk _ => h.block k hk⟩
theorem Kp.below {w w' : World} (h : Kp [] w w') : Below w.heap.size w w' := ⟨h.os, h.tape, h.output, h.size, fun k hk => h.block k hk (by simp)⟩
theorem Kp.cell {S : List Nat} {w w' : World} (h : Kp S w w') {p : Addr} (hp : p.block < w.heap.size) (hn : p.block ∉ S) : w'.cell? p = w.cell? p := World.cell?_of_block (h.block p.block hp hn)
theorem Kp.frozen {S : List Nat} {w w' : World} (h : Kp S w w') {p : Addr} (hp : p.block < w.heap.size) (hn : p.block ∉ S) : w'.frozen? p = w.frozen? p := World.frozen?_of_block (h.block p.block hp hn)

/-- The block of a row of the call's own, as a list. -/
def own (v : Value) : List Nat := v.ownBlock.toList
theorem mem_own {v : Value} {k : Nat} : k ∈ own v ↔ v.ownBlock = some k := by simp [own, Option.mem_toList]

/-- v is a row of bytes of the calls' own: its cells are there, and none is frozen: it may be written and appended to. -/
def Row (w : World) (v : Value) (bs : List UInt8) : Prop :=
  (v = .slice none 0 0 ∧ bs = []) ∨ ∃ g o cap, v = .slice (some ⟨g, o, none⟩) bs.length cap ∧ bs.length ≤ cap ∧ cap ≤ maxLen ∧ g < w.heap.size ∧
    (∀ j u, bs[j]? = some u → w.cell? ⟨g, o + j, none⟩ = some (.int .u8 u.toNat)) ∧ ∀ j, j < cap → (w.cell? ⟨g, o + j, none⟩).isSome = true ∧ w.frozen? ⟨g, o + j, none⟩ = false
theorem Row.nil (w : World) : Row w (.slice none 0 0) [] := .inl ⟨rfl, rfl⟩
theorem Row.lt {w : World} {v : Value} {bs : List UInt8} (h : Row w v bs) : ∀ k ∈ own v, k < w.heap.size := by
  rcases h with ⟨rfl, _⟩ | ⟨g, o, cap, rfl, _, _, hg, _⟩
  · intro k hk; simp [own, Value.ownBlock] at hk
  · intro k hk; simp [own, Value.ownBlock] at hk; omega
theorem Row.shape {w : World} {v : Value} {bs : List UInt8} (h : Row w v bs) : ∃ a c, v = .slice a bs.length c ∧ bs.length ≤ c := by
  rcases h with ⟨rfl, rfl⟩ | ⟨g, o, cap, rfl, hl, _⟩
  · exact ⟨none, 0, rfl, Nat.le_refl _⟩
  · exact ⟨_, _, rfl, hl⟩
theorem Row.kept {w w' : World} {v : Value} {bs : List UInt8} {S : List Nat} (h : Row w v bs) (hk : Kp S w w') (hn : ∀ k ∈ own v, k ∉ S) : Row w' v bs := by
  rcases h with h | ⟨g, o, cap, rfl, hl, hm, hg, hc, ht⟩
  · exact .inl h
  · have hgS : g ∉ S := hn g (by simp [own, Value.ownBlock])
    have e1 : ∀ j, w'.cell? ⟨g, o + j, none⟩ = w.cell? ⟨g, o + j, none⟩ := fun j => hk.cell (p := ⟨g, o + j, none⟩) hg hgS
    have e2 : ∀ j, w'.frozen? ⟨g, o + j, none⟩ = w.frozen? ⟨g, o + j, none⟩ := fun j => hk.frozen (p := ⟨g, o + j, none⟩) hg hgS
    exact .inr ⟨g, o, cap, rfl, hl, hm, Nat.lt_of_lt_of_le hg hk.size, fun j u hu => (e1 j).trans (hc j u hu), fun j hj => by rw [e1, e2]; exact ht j hj⟩

/-- What a slice's value sees: its first bytes, told by cells. -/
def Sees (w : World) (a : Option Addr) (bs : List UInt8) : Prop :=
  bs = [] ∨ ∃ g o, a = some ⟨g, o, none⟩ ∧ ∀ j u, bs[j]? = some u → w.cell? ⟨g, o + j, none⟩ = some (.int .u8 u.toNat)
theorem Sees.nil (w : World) (a : Option Addr) : Sees w a [] := .inl rfl
/-- The block of an address, as a list. -/
def blk (a : Option Addr) : List Nat := (a.map (·.block)).toList
theorem Sees.lt {w : World} {a : Option Addr} {bs : List UInt8} (h : Sees w a bs) (hb : bs ≠ []) : ∀ k ∈ blk a, k < w.heap.size := by
  rcases h with rfl | ⟨g, o, rfl, hc⟩
  · exact absurd rfl hb
  · intro k hk
    simp [blk] at hk
    subst hk
    cases bs with
    | nil => exact absurd rfl hb
    | cons x r => exact World.block_lt_of_cell? _ _ (hc 0 x rfl)
theorem Sees.kept {w w' : World} {a : Option Addr} {bs : List UInt8} {S : List Nat} (h : Sees w a bs) (hk : Kp S w w') (hn : ∀ k ∈ blk a, k ∉ S) : Sees w' a bs := by
  rcases h with rfl | ⟨g, o, rfl, hc⟩
  · exact .inl rfl
  · exact .inr ⟨g, o, rfl, fun j u hu => (hk.cell (World.block_lt_of_cell? _ _ (hc j u hu)) (hn g (by simp [blk]))).trans (hc j u hu)⟩
theorem Sees.kept' {w w' : World} {a : Option Addr} {bs : List UInt8} {S : List Nat} (h : Sees w a bs) (hk : Kp S w w') (hn : bs ≠ [] → ∀ k ∈ blk a, k ∉ S) : Sees w' a bs := by
  by_cases hb : bs = []
  · exact .inl hb
  · exact h.kept hk (hn hb)
theorem Row.sees {w : World} {v : Value} {bs : List UInt8} (h : Row w v bs) : ∃ a c, v = .slice a bs.length c ∧ Sees w a bs ∧ own v = blk a := by
  rcases h with ⟨rfl, rfl⟩ | ⟨g, o, cap, rfl, hl, hm, hg, hc, ht⟩
  · exact ⟨none, 0, rfl, .inl rfl, rfl⟩
  · exact ⟨_, _, rfl, .inr ⟨g, o, rfl, hc⟩, rfl⟩
theorem Sees.cells {w : World} {g o : Nat} {bs : List UInt8} (hc : ∀ j u, bs[j]? = some u → w.cell? ⟨g, o + j, none⟩ = some (.int .u8 u.toNat)) : ∀ j u, (bcells bs)[j]? = some u → w.cell? ((⟨g, o, none⟩ : Addr).add j) = some u := by
  intro j u hu
  rw [bcells_get] at hu
  rw [Addr.add_lit]
  cases hb : bs[j]? with
  | none => rw [hb] at hu; cases hu
  | some x => rw [hb] at hu; cases hu; exact hc j x hb

/-- Parts of what is seen. -/
theorem Sees.front {w : World} {a : Option Addr} {bs : List UInt8} (h : Sees w a bs) (n : Nat) : Sees w a (bs.take n) := by
  rcases h with rfl | ⟨g, o, rfl, hc⟩
  · exact .inl (by simp)
  · refine .inr ⟨g, o, rfl, fun j u hu => ?_⟩
    rw [List.getElem?_take] at hu
    split at hu
    · exact hc j u hu
    · cases hu
theorem Sees.tail {w : World} {a : Option Addr} {bs : List UInt8} (h : Sees w a bs) (n : Nat) : Sees w (a.map (fun x => x.add n)) (bs.drop n) := by
  rcases h with rfl | ⟨g, o, rfl, hc⟩
  · exact .inl (by simp)
  · refine .inr ⟨g, o + n, by simp [Addr.add_lit], fun j u hu => ?_⟩
    rw [List.getElem?_drop] at hu
    have := hc (n + j) u hu
    rwa [show o + n + j = o + (n + j) by omega]
theorem blk_tail (a : Option Addr) (n : Nat) : blk (a.map (fun x => x.add n)) = blk a := by
  cases a with
  | none => rfl
  | some x =>
    obtain ⟨b, o, s⟩ := x
    simp only [blk, Option.map_some, Addr.add]
    split <;> rfl

theorem tape_setCells (g : Nat) : ∀ (vs : List Value) (o : Nat) (w : World), (w.setCells g o vs).tape = w.tape
  | [], _, _ => rfl
  | v :: r, o, w => by rw [World.setCells, tape_setCells g r]; rfl
theorem size_setCells (g : Nat) : ∀ (vs : List Value) (o : Nat) (w : World), (w.setCells g o vs).heap.size = w.heap.size
  | [], _, _ => rfl
  | v :: r, o, w => by rw [World.setCells, size_setCells g r]; simp [World.setCell]
theorem Kp.setCells {S : List Nat} {a w : World} (h : Kp S a w) {g : Nat} (hg : g ∈ S ∨ a.heap.size ≤ g) : ∀ (vs : List Value) (o : Nat), Kp S a (w.setCells g o vs) := by
  intro vs
  induction vs generalizing w with
  | nil => intro o; exact h
  | cons v r ih => intro o; exact ih (h.setCell (p := ⟨g, o, none⟩) hg v) (o + 1)

section
variable {P : Program} (w : World)
/-- What bytes that a slice sees are, to an append. -/
theorem Sees.src {w : World} {a : Option Addr} {bs : List UInt8} (hs : Sees w a bs) {t : TypeId} (ht : P.underlying t = some (.slice 5)) (c : Nat) : Src P 1 t (.slice a bs.length c) bs.length (bcells bs) w := by
  rcases hs with rfl | ⟨g, o, rfl, hc⟩
  · cases a with
    | none => exact Src.ofNil w ht c
    | some ad => exact Src.ofSlice w ht ad 0 c [] rfl (by intro j u hu; simp at hu) (by intro u hu; simp at hu)
  · exact Src.ofSlice w ht ⟨g, o, none⟩ bs.length c (bcells bs) (by rw [bcells_length]; omega) (Sees.cells hc) (bcells_one bs)

theorem grown_cells (g : Nat) (xs : List UInt8) (z : Array Value) (h : g = w.heap.size) (t : TypeId) : ∀ j u, xs[j]? = some u → (w.alloc (.cells ((bcells xs).toArray ++ z) t)).cell? ⟨g, 0 + j, none⟩ = some (.int .u8 u.toNat) := by
  subst h
  intro j u hu
  have hj : j < xs.length := (List.getElem?_eq_some_iff.1 hu).1
  have e1 : (w.alloc (.cells ((bcells xs).toArray ++ z) t)).cell? ⟨w.heap.size, 0 + j, none⟩ = _ := World.cell?_alloc_new w _ _ (0 + j)
  rw [e1, Nat.zero_add, Array.getElem?_append_left (by simp only [List.size_toArray, bcells_length]; exact hj), List.getElem?_toArray, bcells_get, hu]
  rfl

/-- An append of bytes, out of whatever yields them, onto a row of the call's own. -/
theorem run_append_src (t tx ty : TypeId) (i : TypeInfo) (ht : P.underlying t = some (.slice 5)) (hi : P.info? 5 = some i) (hz : i.zero = some (.int .u8 0)) (hsize : i.size = 1) (hby : i.bytes = 1)
    (v : Value) (xs : List UInt8) (hown : Row w v xs) (x : Value) (bs : List UInt8) (hs : Src P 1 tx x bs.length (bcells bs) w) (hb : xs.length + bs.length ≤ 200000000000000) :
    ∃ v' w', (Builtin.append_ #[t, tx] ty #[v, x]).run P w = .ok v' w' ∧ Row w' v' (xs ++ bs) ∧ Kp (own v) w w' ∧ ∀ k ∈ own v', k ∈ own v ∨ w.heap.size ≤ k := by
  have hs' := hs
  rw [← hsize] at hs'
  -- A NEW ROW
  have grow : ∀ (ao : Option Addr) (cap : Nat), v = .slice ao xs.length cap → cap < xs.length + bs.length → (Builtin.firstCells i.size xs.length (.slice ao xs.length cap)).run P w.drew = .ok (bcells xs).toArray w.drew →
      ∃ v' w', (Builtin.append_ #[t, tx] ty #[v, x]).run P w = .ok v' w' ∧ Row w' v' (xs ++ bs) ∧ Kp (own v) w w' ∧ ∀ k ∈ own v', k ∈ own v ∨ w.heap.size ≤ k := by
    rintro ao cap rfl hlt hold
    have hrun := run_append_grow_src (P := P) w t tx ty 5 i (.int .u8 0) ht hi hz ao xs.length cap (bcells xs) hold x bs.length (bcells bs) hs' hlt (by omega) (growslice_fits_wide hlt (by rw [hby]; omega))
    have hge := grownCap_ge w (xs.length + bs.length) cap 5
    have hcm := grownCap_le_maxLen w (xs.length + bs.length) cap 5 (by unfold maxLen; omega)
    rw [← bcells_append] at hrun
    refine ⟨_, _, hrun, .inr ⟨w.heap.size, 0, _, by rw [List.length_append], by rw [List.length_append]; omega, hcm, by simp, ?_, ?_⟩, (Kp.refl _ w).drew.alloc _, ?_⟩
    · exact grown_cells w.drew _ (xs ++ bs) _ rfl _
    · intro j hj
      refine ⟨?_, World.frozen?_alloc_new w.drew _ _ (0 + j)⟩
      have e1 := World.cell?_alloc_new w.drew ((bcells (xs ++ bs)).toArray ++ Builtin.zeroCells (Value.int .u8 0).cells (grownCap w (xs.length + bs.length) cap 5 - (xs.length + bs.length))) 5 (0 + j)
      have hsz : ((bcells (xs ++ bs)).toArray ++ Builtin.zeroCells (Value.int .u8 0).cells (grownCap w (xs.length + bs.length) cap 5 - (xs.length + bs.length))).size = grownCap w (xs.length + bs.length) cap 5 := by
        rw [Array.size_append, List.size_toArray, bcells_length, List.length_append, size_zeroCells]
        simp [Value.cells]
        omega
      refine (congrArg Option.isSome e1).trans ?_
      rw [Nat.zero_add, Array.getElem?_eq_getElem (by rw [hsz]; exact hj)]
      rfl
    · intro k hk
      simp [own, Value.ownBlock] at hk
      omega
  rcases hown with ⟨rfl, rfl⟩ | ⟨g, o, cap, rfl, hl, hm, hg, hc, ht'⟩
  · rcases Nat.eq_zero_or_pos bs.length with h0 | h0
    · obtain rfl : bs = [] := List.length_eq_zero_iff.1 h0
      exact ⟨_, _, run_append_nothing (P := P) w t tx ty 5 i ht hi none 0 0 (Nat.le_refl _) x hs', .inl ⟨rfl, rfl⟩, Kp.refl _ _, fun _ h => .inl h⟩
    · exact grow none 0 rfl (by simpa using h0) (run_firstCells_none w.drew i.size 0 0 0)
  · by_cases hroom : xs.length + bs.length ≤ cap
    · have hsome : ∀ j, j < (bcells bs).length → (w.cell? ⟨g, o + xs.length * i.size + j, none⟩).isSome = true := fun j hj => by
        rw [bcells_length] at hj; rw [hsize, Nat.mul_one, Nat.add_assoc]; exact (ht' (xs.length + j) (by omega)).1
      have hrun := run_append_room_src (P := P) w t tx ty 5 i ht hi g o xs.length cap x bs.length (bcells bs) hs' hroom hsome
        (fun j hj => by rw [bcells_length] at hj; rw [hsize, Nat.mul_one, Nat.add_assoc]; exact (ht' (xs.length + j) (by omega)).2)
      rw [hsize, Nat.mul_one] at hsome
      rw [hsize, Nat.mul_one] at hrun
      refine ⟨_, _, hrun, .inr ⟨g, o, cap, by rw [List.length_append], by rw [List.length_append]; omega, hm, by rw [size_setCells]; exact hg, ?_, ?_⟩, (Kp.refl _ w).setCells (by simp [own, Value.ownBlock]) _ _, fun k hk => .inl hk⟩
      · intro j u hu
        by_cases hj : j < xs.length
        · rw [World.cell?_setCells_out g _ _ _ _ (fun _ _ => Or.inl (by show o + j < o + xs.length; omega))]
          rw [List.getElem?_append_left hj] at hu
          exact hc j u hu
        · rw [List.getElem?_append_right (by omega)] at hu
          have hj2 : j - xs.length < bs.length := (List.getElem?_eq_some_iff.1 hu).1
          have := World.cell?_setCells_in g (bcells bs) (o + xs.length) w hsome (j - xs.length) (by rw [bcells_length]; exact hj2)
          rw [show o + xs.length + (j - xs.length) = o + j by omega, ← List.getElem?_eq_getElem (by rw [bcells_length]; exact hj2), bcells_get, hu] at this
          exact this
      · intro j hj
        refine ⟨?_, (World.frozen?_setCells g _ _ _ _).trans (ht' j hj).2⟩
        by_cases hin : xs.length ≤ j ∧ j < xs.length + bs.length
        · have := World.cell?_setCells_in g (bcells bs) (o + xs.length) w hsome (j - xs.length) (by rw [bcells_length]; omega)
          rw [show o + xs.length + (j - xs.length) = o + j by omega] at this
          rw [this]; rfl
        · rw [World.cell?_setCells_out g _ _ _ _ (fun _ _ => by rw [bcells_length]; show o + j < o + xs.length ∨ o + xs.length + bs.length ≤ o + j; omega)]
          exact (ht' j hj).1
    · refine grow (some ⟨g, o, none⟩) cap rfl (by omega) ?_
      exact run_firstCells_some w.drew i.size xs.length ⟨g, o, none⟩ xs.length cap (bcells xs) (by rw [bcells_length, hsize]; omega) (by simpa using Sees.cells (w := w.drew) hc)

/-- .. for the walk. -/
theorem wpList_append_src {ops : Array Oper} {rest : List Oper} {o : Oper} {a : Act} {Q : Exit → Act → World → Prop} (hgd : o.guard = none) (s x : Operand) (t tx : TypeId)
    (ho : o.op = .call { callee := .builtin .append, args := #[s, x], argTypes := #[t, tx] })
    (i : TypeInfo) (ht : P.underlying t = some (.slice 5)) (hi : P.info? 5 = some i) (hz : i.zero = some (.int .u8 0)) (hsize : i.size = 1) (hby : i.bytes = 1)
    (v : Value) (xs : List UInt8) (hv : a.eval s = v) (hown : Row w v xs) (xv : Value) (bs : List UInt8) (hx : a.eval x = xv) (hs : Src P 1 tx xv bs.length (bcells bs) w) (hb : xs.length + bs.length ≤ 200000000000000)
    (hK : ∀ v' w', Row w' v' (xs ++ bs) → Kp (own v) w w' → (∀ k ∈ own v', k ∈ own v ∨ w.heap.size ≤ k) → wpList P ops Q rest (a.put o.dst v') w') : wpList P ops Q (o :: rest) a w := by
  refine wpList_plain hgd fun K hK' => ?_
  obtain ⟨v', w', hrun, h1, h2, h3⟩ := run_append_src (P := P) w t tx o.type i ht hi hz hsize hby v xs hown xv bs hs hb
  unfold Oper.wp
  simp [execOp, ho, resolve, invoke, builtin, hv, hx, hrun, Result.andThen]
  exact hK' _ _ (hK v' w' h1 h2 h3)
end

/-- A Writer lies in block p: its one cell holds v, a row of the bytes bs. -/
structure Wr (w : World) (p : Nat) (v : Value) (bs : List UInt8) : Prop where
  cell : w.cell? ⟨p, 0, none⟩ = some v
  free : w.frozen? ⟨p, 0, none⟩ = false
  row : Row w v bs
  apart : p ∉ own v
theorem Wr.lt {w : World} {p : Nat} {v : Value} {bs : List UInt8} (h : Wr w p v bs) : p < w.heap.size := World.block_lt_of_cell? _ _ h.cell
theorem Wr.kept {w w' : World} {p : Nat} {v : Value} {bs : List UInt8} {S : List Nat} (h : Wr w p v bs) (hk : Kp S w w') (hn : ∀ k ∈ p :: own v, k ∉ S) : Wr w' p v bs :=
  ⟨(hk.cell h.lt (hn p (by simp))).trans h.cell, (hk.frozen h.lt (hn p (by simp))).trans h.free, h.row.kept hk (fun k hk' => hn k (by simp [hk'])), h.apart⟩
theorem Wr.keptNew {w w' : World} {p : Nat} {v : Value} {bs : List UInt8} (h : Wr w p v bs) (hk : Kp [] w w') : Wr w' p v bs := h.kept hk (by simp)

/-- What a writer's call may turn: the writer's own cell and row; the row behind it is that one, or new. -/
structure Wrote (p : Nat) (v : Value) (w : World) (v' : Value) (w' : World) : Prop where
  kp : Kp (p :: own v) w w'
  new : ∀ k ∈ own v', k ∈ own v ∨ w.heap.size ≤ k
theorem Wrote.refl (p : Nat) (v : Value) (w : World) : Wrote p v w v w := ⟨Kp.refl _ _, fun _ h => .inl h⟩
theorem Wrote.trans {p : Nat} {v v1 v2 : Value} {w w1 w2 : World} (h : Wrote p v w v1 w1) (k : Wrote p v1 w1 v2 w2) : Wrote p v w v2 w2 :=
  ⟨h.kp.trans k.kp (fun x hx => by
      rcases List.mem_cons.1 hx with rfl | hx
      · simp
      · rcases h.new x hx with h1 | h1
        · simp [h1]
        · exact .inr h1),
   fun x hx => by
      rcases k.new x hx with h1 | h1
      · exact h.new x h1
      · exact .inr (Nat.le_trans h.kp.size h1)⟩
theorem Wrote.pre {p : Nat} {v v1 : Value} {w w0 w1 : World} (h : Kp [] w w0) (k : Wrote p v w0 v1 w1) : Wrote p v w v1 w1 :=
  ⟨(h.mono (T := p :: own v) (by simp)).trans k.kp (fun _ hx => .inl hx), fun x hx => (k.new x hx).imp id (Nat.le_trans h.size)⟩
theorem Wrote.post {p : Nat} {v v1 : Value} {w w1 w2 : World} (h : Wrote p v w v1 w1) (k : Kp [] w1 w2) : Wrote p v w v1 w2 :=
  ⟨h.kp.trans k (by simp), h.new⟩

/-- Behind an append onto the writer's row, and the store of the row into its cell. -/
theorem Wr.stored {w w0 w1 : World} {p : Nat} {v v' : Value} {bs bs' : List UInt8} (h : Wr w p v bs) (h0 : Kp [] w w0) (hr : Row w1 v' bs') (hg : Kp (own v) w0 w1) (hnew : ∀ k ∈ own v', k ∈ own v ∨ w0.heap.size ≤ k) :
    w1.cell? ⟨p, 0, none⟩ = some v ∧ w1.frozen? ⟨p, 0, none⟩ = false ∧ Wr (w1.setCell ⟨p, 0, none⟩ v') p v' bs' ∧ Wrote p v w v' (w1.setCell ⟨p, 0, none⟩ v') := by
  have hlt := h.lt
  have hnew' : ∀ k ∈ own v', k ∈ own v ∨ w.heap.size ≤ k := fun k hk => (hnew k hk).imp id (Nat.le_trans h0.size)
  have k1 : Kp (own v) w w1 := (h0.mono (T := own v) (by simp)).trans hg (fun _ hx => .inl hx)
  have hpv : p ∉ own v := h.apart
  have hpv' : p ∉ own v' := fun hp => by rcases hnew' p hp with h1 | h1; exact hpv h1; omega
  have c1 : w1.cell? ⟨p, 0, none⟩ = some v := (k1.cell hlt hpv).trans h.cell
  have f1 : w1.frozen? ⟨p, 0, none⟩ = false := (k1.frozen hlt hpv).trans h.free
  have k2 : Kp [p] w1 (w1.setCell ⟨p, 0, none⟩ v') := (Kp.refl [p] w1).setCell (by simp) _
  refine ⟨c1, f1, ⟨World.cell?_setCell_same _ _ _ c1, ?_, hr.kept k2 (fun k hk e => ?_), hpv'⟩, ⟨?_, hnew'⟩⟩
  · rw [World.frozen?_setCell]; exact f1
  · rw [List.mem_singleton] at e; subst e; exact hpv' hk
  · exact (k1.mono (T := p :: own v) (fun x hx => .inl (by simp [hx]))).setCell (by simp) _

theorem Sees.new (w : World) (C : Array Value) (t : TypeId) (fr : Nat × Nat) (bs : List UInt8) (h : C.toList = bcells bs) : Sees (w.alloc (.cells C t fr)) (some ⟨w.heap.size, 0, none⟩) bs := by
  refine .inr ⟨w.heap.size, 0, rfl, fun j u hu => ?_⟩
  have e : (w.alloc (.cells C t fr)).heap[w.heap.size]? = some (.cells C t fr) := by show (w.heap.push (.cells C t fr))[w.heap.size]? = _; simp
  have e2 : (w.alloc (.cells C t fr)).cell? ⟨w.heap.size, 0 + j, none⟩ = C[0 + j]? := by unfold World.cell?; rw [e]; rfl
  rw [e2, Nat.zero_add, ← Array.getElem?_toList, h, bcells_get, hu]
  rfl
/-- A writer of the call's own, at work: nothing that was there turns. -/
theorem stepW {w wn wm : World} {p : Nat} {v v' : Value} (kw : Kp [] w wn) (hp : w.heap.size ≤ p) (ho : ∀ k ∈ own v, w.heap.size ≤ k) (hr : Wrote p v wn v' wm) : Kp [] w wm ∧ ∀ k ∈ own v', w.heap.size ≤ k :=
  ⟨kw.trans hr.kp (fun x hx => .inr (by rcases List.mem_cons.1 hx with rfl | hx; exact hp; exact ho x hx)), fun k hk => by
    rcases hr.new k hk with h1 | h1
    · exact ho k h1
    · exact Nat.le_trans kw.size h1⟩
/-- A reader of the call's own, at work. -/
theorem stepR {w wn wm : World} {p : Nat} (kw : Kp [] w wn) (hp : w.heap.size ≤ p) (hr : Kp [p] wn wm) : Kp [] w wm :=
  kw.trans hr (fun x hx => .inr (by rw [List.mem_singleton] at hx; omega))
theorem Sees.set {w : World} {g o : Nat} {bs : List UInt8} (hc : ∀ j u, bs[j]? = some u → w.cell? ⟨g, o + j, none⟩ = some (.int .u8 u.toNat)) (i : Nat) (y : UInt8) (hi : i < bs.length) :
    Sees (w.setCell ⟨g, o + i, none⟩ (.int .u8 y.toNat)) (some ⟨g, o, none⟩) (bs.set i y) := by
  refine .inr ⟨g, o, rfl, fun j u hu => ?_⟩
  by_cases hj : j = i
  · subst hj
    rw [List.getElem?_set_self hi] at hu
    cases hu
    exact World.cell?_setCell_same _ _ _ (hc j bs[j] (by simp [hi]))
  · rw [List.getElem?_set_ne (fun h => hj h.symm)] at hu
    rw [World.cell?_setCell_other _ _ _ _ (by intro h; simp only [Addr.mk.injEq] at h; omega)]
    exact hc j u hu
theorem Sees.drew {w : World} {a : Option Addr} {bs : List UInt8} (h : Sees w a bs) : Sees w.drew a bs := h
/-- An append onto a row of the call's own. -/
theorem stepA {w wn wm : World} {v v' : Value} (kw : Kp [] w wn) (ho : ∀ k ∈ own v, w.heap.size ≤ k) (hk : Kp (own v) wn wm) (hn : ∀ k ∈ own v', k ∈ own v ∨ wn.heap.size ≤ k) : Kp [] w wm ∧ ∀ k ∈ own v', w.heap.size ≤ k :=
  ⟨kw.trans hk (fun x hx => .inr (ho x hx)), fun k hk' => by
    rcases hn k hk' with h1 | h1
    · exact ho k h1
    · exact Nat.le_trans kw.size h1⟩
theorem ret_int {k : IntKind} {a b : Int} (h : a = b) : Ending.returned (.int k a) = .returned (.int k b) := by rw [h]
theorem hid {p : Prop} (h : p) : Hid p := h
end Go.Hay
end

section
namespace Go.Hay
open Go.RowKit

/-- How an element lies in cells. -/
structure El (α : Type) where
  n : Nat
  c : α → List Value
  len : ∀ x, (c x).length = n
  one : ∀ x, ∀ u ∈ c x, u.oneCell' = true
  pos : 0 < n
section
variable {α : Type} (E : El α)
def El.cs (l : List α) : List Value := l.flatMap E.c
theorem El.cs_cons (x : α) (l : List α) : E.cs (x :: l) = E.c x ++ E.cs l := rfl
theorem El.cs_append (a b : List α) : E.cs (a ++ b) = E.cs a ++ E.cs b := by simp [El.cs]
theorem El.cs_length (l : List α) : (E.cs l).length = l.length * E.n := by
  induction l with
  | nil => simp [El.cs]
  | cons x l ih => rw [El.cs_cons, List.length_append, E.len, ih, List.length_cons, Nat.succ_mul]; omega
theorem El.cs_one (l : List α) : ∀ u ∈ E.cs l, u.oneCell' = true := by
  intro u hu
  obtain ⟨x, _, hx⟩ := List.mem_flatMap.1 hu
  exact E.one x u hx
theorem El.cs_drop (l : List α) : ∀ i, E.cs (l.drop i) = (E.cs l).drop (i * E.n) := by
  induction l with
  | nil => intro i; simp [El.cs]
  | cons x l ih =>
    intro i
    cases i with
    | zero => simp
    | succ i =>
      rw [List.drop_succ_cons, ih i, El.cs_cons, Nat.succ_mul, Nat.add_comm, ← List.drop_drop, List.drop_left' (E.len x)]
theorem El.cs_take (l : List α) : ∀ i, E.cs (l.take i) = (E.cs l).take (i * E.n) := by
  induction l with
  | nil => intro i; simp [El.cs]
  | cons x l ih =>
    intro i
    cases i with
    | zero => simp [El.cs]
    | succ i =>
      rw [List.take_succ_cons, El.cs_cons, ih i, El.cs_cons, Nat.succ_mul, Nat.add_comm, List.take_append, E.len, List.take_of_length_le (l := E.c x) (by rw [E.len]; omega), Nat.add_sub_cancel_left]
theorem El.cs_get {l : List α} {j k : Nat} {x : α} (h : l[j]? = some x) (hk : k < E.n) : (E.cs l)[j * E.n + k]? = (E.c x)[k]? := by
  have e := El.cs_drop E l j
  have hl : l.drop j = x :: l.drop (j + 1) := by
    obtain ⟨h1, rfl⟩ := List.getElem?_eq_some_iff.1 h
    exact List.drop_eq_getElem_cons h1
  rw [hl, El.cs_cons] at e
  have : (E.cs l)[j * E.n + k]? = ((E.cs l).drop (j * E.n))[k]? := by rw [List.getElem?_drop]
  rw [this, ← e, List.getElem?_append_left (by rw [E.len]; exact hk)]

/-- What a slice of elements sees. -/
def El.See (w : World) (a : Option Addr) (l : List α) : Prop :=
  l = [] ∨ ∃ g o, a = some ⟨g, o, none⟩ ∧ ∀ j u, (E.cs l)[j]? = some u → w.cell? ⟨g, o + j, none⟩ = some u
variable {E}
theorem El.See.nil (w : World) (a : Option Addr) : E.See w a [] := .inl rfl
theorem El.See.kept {w w' : World} {a : Option Addr} {l : List α} {S : List Nat} (h : E.See w a l) (hk : Kp S w w') (hn : l ≠ [] → ∀ k ∈ blk a, k ∉ S) : E.See w' a l := by
  rcases h with rfl | ⟨g, o, rfl, hc⟩
  · exact .inl rfl
  · by_cases hl : l = []
    · exact .inl hl
    · exact .inr ⟨g, o, rfl, fun j u hu => (hk.cell (World.block_lt_of_cell? _ _ (hc j u hu)) (hn hl g (by simp [blk]))).trans (hc j u hu)⟩
theorem El.See.keptNew {w w' : World} {a : Option Addr} {l : List α} (h : E.See w a l) (hk : Kp [] w w') : E.See w' a l := h.kept hk (by simp)
theorem El.See.at {w : World} {a : Option Addr} {l : List α} (h : E.See w a l) {j : Nat} {x : α} (hx : l[j]? = some x) : ∃ g o, a = some ⟨g, o, none⟩ ∧ ∀ k u, (E.c x)[k]? = some u → w.cell? ⟨g, o + j * E.n + k, none⟩ = some u := by
  rcases h with rfl | ⟨g, o, rfl, hc⟩
  · simp at hx
  · refine ⟨g, o, rfl, fun k u hu => ?_⟩
    have hk : k < E.n := by have := (List.getElem?_eq_some_iff.1 hu).1; rwa [E.len] at this
    rw [Nat.add_assoc]
    exact hc _ _ ((El.cs_get E hx hk).trans hu)
theorem El.See.lt {w : World} {a : Option Addr} {l : List α} (h : E.See w a l) (hl : l ≠ []) : ∀ k ∈ blk a, k < w.heap.size := by
  cases l with
  | nil => exact absurd rfl hl
  | cons x l =>
    obtain ⟨g, o, rfl, hc⟩ := h.at (j := 0) (x := x) rfl
    intro k hk
    simp [blk] at hk
    subst hk
    have h0 : 0 < (E.c x).length := by rw [E.len]; exact E.pos
    exact World.block_lt_of_cell? _ _ (hc 0 _ (List.getElem?_eq_getElem h0))
theorem El.See.src {P : Program} {w : World} {a : Option Addr} {l : List α} (h : E.See w a l) {t e : TypeId} (ht : P.underlying t = some (.slice e)) (c : Nat) : Src P E.n t (.slice a l.length c) l.length (E.cs l) w := by
  rcases h with rfl | ⟨g, o, rfl, hc⟩
  · cases a with
    | none => exact Src.ofNil w ht c
    | some ad => exact Src.ofSlice w ht ad 0 c [] (by simp) (by intro j u hu; simp at hu) (by intro u hu; simp at hu)
  · exact Src.ofSlice w ht ⟨g, o, none⟩ l.length c (E.cs l) (El.cs_length E l) (fun j u hu => by rw [Addr.add_lit]; exact hc j u hu) (El.cs_one E l)
theorem El.See.front {w : World} {a : Option Addr} {l : List α} (h : E.See w a l) (i : Nat) : E.See w a (l.take i) := by
  rcases h with rfl | ⟨g, o, rfl, hc⟩
  · exact .inl (by simp)
  · refine .inr ⟨g, o, rfl, fun j u hu => ?_⟩
    rw [El.cs_take, List.getElem?_take] at hu
    split at hu
    · exact hc j u hu
    · cases hu

variable (E)
/-- A row of elements of the calls' own: its cells are there, none is frozen. -/
def El.Row (w : World) (v : Value) (l : List α) : Prop :=
  (v = .slice none 0 0 ∧ l = []) ∨ ∃ g o cap, v = .slice (some ⟨g, o, none⟩) l.length cap ∧ l.length ≤ cap ∧ cap ≤ maxLen ∧ g < w.heap.size ∧
    (∀ j u, (E.cs l)[j]? = some u → w.cell? ⟨g, o + j, none⟩ = some u) ∧ ∀ j, j < cap * E.n → (w.cell? ⟨g, o + j, none⟩).isSome = true ∧ w.frozen? ⟨g, o + j, none⟩ = false
variable {E}
theorem El.Row.nil (w : World) : E.Row w (.slice none 0 0) [] := .inl ⟨rfl, rfl⟩
theorem El.Row.lt {w : World} {v : Value} {l : List α} (h : E.Row w v l) : ∀ k ∈ own v, k < w.heap.size := by
  rcases h with ⟨rfl, _⟩ | ⟨g, o, cap, rfl, _, _, hg, _⟩
  · intro k hk; simp [own, Value.ownBlock] at hk
  · intro k hk; simp [own, Value.ownBlock] at hk; omega
theorem El.Row.see {w : World} {v : Value} {l : List α} (h : E.Row w v l) : ∃ a c, v = .slice a l.length c ∧ E.See w a l ∧ (a = none → l = [] ∧ c = 0) ∧ l.length ≤ c ∧ c ≤ maxLen ∧ own v = blk a := by
  rcases h with ⟨rfl, rfl⟩ | ⟨g, o, cap, rfl, hl, hm, hg, hc, ht⟩
  · exact ⟨none, 0, rfl, .inl rfl, fun _ => ⟨rfl, rfl⟩, Nat.le_refl _, Nat.zero_le _, rfl⟩
  · exact ⟨_, _, rfl, .inr ⟨g, o, rfl, hc⟩, fun h => (by cases h), hl, hm, rfl⟩
theorem El.Row.kept {w w' : World} {v : Value} {l : List α} {S : List Nat} (h : E.Row w v l) (hk : Kp S w w') (hn : ∀ k ∈ own v, k ∉ S) : E.Row w' v l := by
  rcases h with h | ⟨g, o, cap, rfl, hl, hm, hg, hc, ht⟩
  · exact .inl h
  · have hgS : g ∉ S := hn g (by simp [own, Value.ownBlock])
    have e1 : ∀ j, w'.cell? ⟨g, o + j, none⟩ = w.cell? ⟨g, o + j, none⟩ := fun j => hk.cell (p := ⟨g, o + j, none⟩) hg hgS
    have e2 : ∀ j, w'.frozen? ⟨g, o + j, none⟩ = w.frozen? ⟨g, o + j, none⟩ := fun j => hk.frozen (p := ⟨g, o + j, none⟩) hg hgS
    exact .inr ⟨g, o, cap, rfl, hl, hm, Nat.lt_of_lt_of_le hg hk.size, fun j u hu => (e1 j).trans (hc j u hu), fun j hj => by rw [e1, e2]; exact ht j hj⟩
theorem El.Row.keptNew {w w' : World} {v : Value} {l : List α} (h : E.Row w v l) (hk : Kp [] w w') : E.Row w' v l := h.kept hk (by simp)

theorem grown_cellsG (w : World) (g : Nat) (xs : List Value) (z : Array Value) (h : g = w.heap.size) (t : TypeId) : ∀ j u, xs[j]? = some u → (w.alloc (.cells (xs.toArray ++ z) t)).cell? ⟨g, 0 + j, none⟩ = some u := by
  subst h
  intro j u hu
  have hj : j < xs.length := (List.getElem?_eq_some_iff.1 hu).1
  have e1 : (w.alloc (.cells (xs.toArray ++ z) t)).cell? ⟨w.heap.size, 0 + j, none⟩ = _ := World.cell?_alloc_new w _ _ (0 + j)
  rw [e1, Nat.zero_add, Array.getElem?_append_left (by simp only [List.size_toArray]; exact hj), List.getElem?_toArray, hu]

/-- An append of elements, out of whatever yields them, onto a row of the call's own. -/
theorem run_appendG {P : Program} (w : World) (t tx ty e : TypeId) (i : TypeInfo) (z : Value) (bytes : Nat) (ht : P.underlying t = some (.slice e)) (hi : P.info? e = some i) (hz : i.zero = some z) (hsize : i.size = E.n) (hby : i.bytes = bytes) (hzs : z.cells.size = E.n)
    (v : Value) (xs : List α) (hown : E.Row w v xs) (x : Value) (bs : List α) (hs : Src P E.n tx x bs.length (E.cs bs) w) (hb : (xs.length + bs.length + (xs.length + bs.length) / 4 + 192) * bytes ≤ 281474976710656) (h63 : xs.length + bs.length ≤ 100000000000000) :
    ∃ v' w', (Builtin.append_ #[t, tx] ty #[v, x]).run P w = .ok v' w' ∧ E.Row w' v' (xs ++ bs) ∧ Kp (own v) w w' ∧ ∀ k ∈ own v', k ∈ own v ∨ w.heap.size ≤ k := by
  have hs' := hs
  rw [← hsize] at hs'
  have grow : ∀ (ao : Option Addr) (cap : Nat), v = .slice ao xs.length cap → cap < xs.length + bs.length → (Builtin.firstCells i.size xs.length (.slice ao xs.length cap)).run P w.drew = .ok (E.cs xs).toArray w.drew →
      ∃ v' w', (Builtin.append_ #[t, tx] ty #[v, x]).run P w = .ok v' w' ∧ E.Row w' v' (xs ++ bs) ∧ Kp (own v) w w' ∧ ∀ k ∈ own v', k ∈ own v ∨ w.heap.size ≤ k := by
    rintro ao cap rfl hlt hold
    have hrun := run_append_grow_src (P := P) w t tx ty e i z ht hi hz ao xs.length cap (E.cs xs) hold x bs.length (E.cs bs) hs' hlt (by omega) (growslice_fits_wide hlt (by rw [hby]; exact hb))
    have hge := grownCap_ge w (xs.length + bs.length) cap e
    have hcm := grownCap_le_maxLen w (xs.length + bs.length) cap e (by unfold maxLen; omega)
    rw [← El.cs_append] at hrun
    refine ⟨_, _, hrun, .inr ⟨w.heap.size, 0, _, by rw [List.length_append], by rw [List.length_append]; omega, hcm, by simp, ?_, ?_⟩, (Kp.refl _ w).drew.alloc _, ?_⟩
    · exact grown_cellsG w.drew _ (E.cs (xs ++ bs)) _ rfl _
    · intro j hj
      refine ⟨?_, World.frozen?_alloc_new w.drew _ _ (0 + j)⟩
      have e1 := World.cell?_alloc_new w.drew ((E.cs (xs ++ bs)).toArray ++ Builtin.zeroCells z.cells (grownCap w (xs.length + bs.length) cap e - (xs.length + bs.length))) e (0 + j)
      have hsz : ((E.cs (xs ++ bs)).toArray ++ Builtin.zeroCells z.cells (grownCap w (xs.length + bs.length) cap e - (xs.length + bs.length))).size = grownCap w (xs.length + bs.length) cap e * E.n := by
        rw [Array.size_append, List.size_toArray, El.cs_length, List.length_append, size_zeroCells, hzs, ← Nat.add_mul]
        congr 1
        omega
      refine (congrArg Option.isSome e1).trans ?_
      rw [Nat.zero_add, Array.getElem?_eq_getElem (by rw [hsz]; exact hj)]
      rfl
    · intro k hk
      simp [own, Value.ownBlock] at hk
      omega
  rcases hown with ⟨rfl, rfl⟩ | ⟨g, o, cap, rfl, hl, hm, hg, hc, ht'⟩
  · rcases Nat.eq_zero_or_pos bs.length with h0 | h0
    · obtain rfl : bs = [] := List.length_eq_zero_iff.1 h0
      exact ⟨_, _, run_append_nothing (P := P) w t tx ty e i ht hi none 0 0 (Nat.le_refl _) x hs', .inl ⟨rfl, rfl⟩, Kp.refl _ _, fun _ h => .inl h⟩
    · exact grow none 0 rfl (by simpa using h0) (run_firstCells_none w.drew i.size 0 0 0)
  · by_cases hroom : xs.length + bs.length ≤ cap
    · have hmul : (xs.length + bs.length) * E.n ≤ cap * E.n := Nat.mul_le_mul_right _ hroom
      rw [Nat.add_mul] at hmul
      have hsome : ∀ j, j < (E.cs bs).length → (w.cell? ⟨g, o + xs.length * i.size + j, none⟩).isSome = true := fun j hj => by
        rw [El.cs_length] at hj; rw [hsize, Nat.add_assoc]; exact (ht' _ (by omega)).1
      have hrun := run_append_room_src (P := P) w t tx ty e i ht hi g o xs.length cap x bs.length (E.cs bs) hs' hroom hsome
        (fun j hj => by rw [El.cs_length] at hj; rw [hsize, Nat.add_assoc]; exact (ht' _ (by omega)).2)
      rw [hsize] at hsome
      rw [hsize] at hrun
      refine ⟨_, _, hrun, .inr ⟨g, o, cap, by rw [List.length_append], by rw [List.length_append]; omega, hm, by rw [size_setCells]; exact hg, ?_, ?_⟩, (Kp.refl _ w).setCells (by simp [own, Value.ownBlock]) _ _, fun k hk => .inl hk⟩
      · intro j u hu
        rw [El.cs_append] at hu
        by_cases hj : j < (E.cs xs).length
        · rw [World.cell?_setCells_out g _ _ _ _ (fun _ _ => Or.inl (by show o + j < o + xs.length * E.n; rw [El.cs_length] at hj; omega))]
          rw [List.getElem?_append_left hj] at hu
          exact hc j u hu
        · rw [List.getElem?_append_right (by omega)] at hu
          have hj2 : j - (E.cs xs).length < (E.cs bs).length := (List.getElem?_eq_some_iff.1 hu).1
          have := World.cell?_setCells_in g (E.cs bs) (o + xs.length * E.n) w hsome (j - (E.cs xs).length) hj2
          rw [← List.getElem?_eq_getElem hj2, hu] at this
          rw [El.cs_length] at hj this
          rw [show o + xs.length * E.n + (j - xs.length * E.n) = o + j by omega] at this
          exact this
      · intro j hj
        refine ⟨?_, (World.frozen?_setCells g _ _ _ _).trans (ht' j hj).2⟩
        by_cases hin : xs.length * E.n ≤ j ∧ j < xs.length * E.n + (E.cs bs).length
        · have := World.cell?_setCells_in g (E.cs bs) (o + xs.length * E.n) w hsome (j - xs.length * E.n) (by omega)
          rw [show o + xs.length * E.n + (j - xs.length * E.n) = o + j by omega] at this
          rw [this]; rfl
        · rw [World.cell?_setCells_out g _ _ _ _ (fun _ _ => by show o + j < o + xs.length * E.n ∨ o + xs.length * E.n + (E.cs bs).length ≤ o + j; omega)]
          exact (ht' j hj).1
    · refine grow (some ⟨g, o, none⟩) cap rfl (by omega) ?_
      exact run_firstCells_some w.drew i.size xs.length ⟨g, o, none⟩ xs.length cap (E.cs xs) (by rw [El.cs_length, hsize]) (fun j u hu => by rw [Addr.add_lit]; exact hc j u hu)

/-- .. for the walk. -/
theorem wpAppG {P : Program} {w : World} {ops : Array Oper} {rest : List Oper} {o : Oper} {a : Act} {Q : Exit → Act → World → Prop} (hgd : o.guard = none) (s x : Operand) (t tx e : TypeId)
    (ho : o.op = .call { callee := .builtin .append, args := #[s, x], argTypes := #[t, tx] })
    (i : TypeInfo) (z : Value) (bytes : Nat) (ht : P.underlying t = some (.slice e)) (hi : P.info? e = some i) (hz : i.zero = some z) (hsize : i.size = E.n) (hby : i.bytes = bytes) (hzs : z.cells.size = E.n)
    (v : Value) (xs : List α) (hv : a.eval s = v) (hown : E.Row w v xs) (xv : Value) (bs : List α) (hx : a.eval x = xv) (hs : Src P E.n tx xv bs.length (E.cs bs) w) (hb : (xs.length + bs.length + (xs.length + bs.length) / 4 + 192) * bytes ≤ 281474976710656) (h63 : xs.length + bs.length ≤ 100000000000000)
    (hK : ∀ l' a' c' w', Hid (l' = xs ++ bs) → E.Row w' (.slice a' l'.length c') l' → Kp (own v) w w' → (∀ k ∈ blk a', k ∈ own v ∨ w.heap.size ≤ k) → wpList P ops Q rest (a.put o.dst (.slice a' l'.length c')) w') : wpList P ops Q (o :: rest) a w := by
  refine wpList_plain hgd fun K hK' => ?_
  obtain ⟨v', w', hrun, h1, h2, h3⟩ := run_appendG (P := P) w t tx o.type e i z bytes ht hi hz hsize hby hzs v xs hown xv bs hs hb h63
  obtain ⟨l', hl'⟩ : ∃ l', l' = xs ++ bs := ⟨_, rfl⟩
  rw [← hl'] at h1
  obtain ⟨a', c', rfl, _, _, _, _, eo⟩ := h1.see
  have hfin := hK' _ _ (hK l' a' c' w' hl' h1 h2 (fun k hk => h3 k (by rw [eo]; exact hk)))
  unfold Oper.wp
  simp [execOp, ho, resolve, invoke, builtin, hv, hx, hrun, Result.andThen]
  exact hfin
end
theorem run_copyG {P : Program} (w : World) (dT sT ty elem : TypeId) (i : TypeInfo) (hu : P.underlying dT = some (.slice elem)) (hi : P.info? elem = some i) (b o dLen dCap : Nat) (a : Addr) (sLen sCap : Nat) (hsd : sLen ≤ dLen) (cs : List Value)
    (hn : cs.length = sLen * i.size) (hsrc : ∀ j v, cs[j]? = some v → w.cell? (a.add j) = some v) (hc : ∀ j, j < cs.length → (w.cell? ⟨b, o + j, none⟩).isSome = true) (hf : ∀ j, j < cs.length → w.frozen? ⟨b, o + j, none⟩ = false) (h1 : ∀ v ∈ cs, v.oneCell' = true) :
    (Builtin.copy_ #[dT, sT] ty #[.slice (some ⟨b, o, none⟩) dLen dCap, .slice (some a) sLen sCap]).run P w = .ok (goInt sLen) (w.setCells b o cs) := by
  have hl := run_loadCells_list (P := P) w a cs hsrc
  have hst := run_storeCells_cells (P := P) b o cs 0 w (by simpa using hc) (by simpa using hf) h1
  simp only [Nat.add_zero] at hst
  have hmin : Nat.min sLen dLen = sLen := Nat.min_eq_left hsd
  simp [Builtin.copy_, run_underlying hu, Builtin.lenOf, Builtin.firstCells, sizeOf, typeInfo, hi, hmin, ← hn, hl, hst]
/-- An append, or a copy, whose run is known, at a step of a region that draws its order. -/
theorem stepAppRun {P : Program} {w w' : World} {ops : Array Oper} {o : Oper} {a : Act} {K : Act → World → Prop} {Q : Exit → Act → World → Prop} {E : Prop} (hgd : o.guard = none) (s x : Operand) (t tx : TypeId)
    (ho : o.op = .call { callee := .builtin .append, args := #[s, x], argTypes := #[t, tx] }) (v xv v' : Value) (hv : a.eval s = v) (hx : a.eval x = xv)
    (hrun : (Builtin.append_ #[t, tx] o.type #[v, xv]).run P w = .ok v' w') (h : K (a.put o.dst v') w') : if Region.wanted o (yielded ops a.tmps) = true then Oper.wp P o a w K Q else E := by
  have hw : Region.wanted o (yielded ops a.tmps) = true := by simp [Region.wanted, hgd]
  rw [if_pos hw]
  unfold Oper.wp execOp
  simp only [ho, resolve, invoke, builtin, Sem.run_bind, Sem.run_pure, Result.andThen_ok, List.map_toArray, List.map_cons, List.map_nil, hv, hx, hrun]
  exact h
theorem stepCpyRun {P : Program} {w w' : World} {ops : Array Oper} {o : Oper} {a : Act} {K : Act → World → Prop} {Q : Exit → Act → World → Prop} {E : Prop} (hgd : o.guard = none) (s x : Operand) (t tx : TypeId)
    (ho : o.op = .call { callee := .builtin .copy, args := #[s, x], argTypes := #[t, tx] }) (v xv v' : Value) (hv : a.eval s = v) (hx : a.eval x = xv)
    (hrun : (Builtin.copy_ #[t, tx] o.type #[v, xv]).run P w = .ok v' w') (h : K (a.put o.dst v') w') : if Region.wanted o (yielded ops a.tmps) = true then Oper.wp P o a w K Q else E := by
  have hw : Region.wanted o (yielded ops a.tmps) = true := by simp [Region.wanted, hgd]
  rw [if_pos hw]
  unfold Oper.wp execOp
  simp only [ho, resolve, invoke, builtin, Sem.run_bind, Sem.run_pure, Result.andThen_ok, List.map_toArray, List.map_cons, List.map_nil, hv, hx, hrun]
  exact h
end Go.Hay
end

section
namespace Go.Hay
open Go.RowKit
set_option linter.unusedVariables false
set_option linter.unusedSimpArgs false

/-- A value's four fields. -/
structure Val where
  k : Int
  b : Bool
  n : Int
  t : ByteArray
def VE : El Val where
  n := 4
  c x := [.int .i64 x.k, .bool x.b, .int .i64 x.n, .string x.t]
  len _ := rfl
  one _ u hu := by simp at hu; rcases hu with rfl | rfl | rfl | rfl <;> rfl
  pos := by decide
instance : Inhabited Val := ⟨⟨0, false, 0, ⟨#[]⟩⟩⟩
/-- A version: its name, its row (where it lies, its room), the epoch at which it was deleted. -/
structure Vn where
  ep : Int
  num : Int
  a : Option Addr
  c : Nat
  row : List Val
  del : Int
instance : Inhabited Vn := ⟨⟨0, 0, none, 0, [], 0⟩⟩
def VnE : El Vn where
  n := 4
  c x := [.int .u64 x.ep, .int .u32 x.num, .slice x.a x.row.length x.c, .int .u64 x.del]
  len _ := rfl
  one _ u hu := by simp at hu; rcases hu with rfl | rfl | rfl | rfl <;> rfl
  pos := by decide
def Vn.v (x : Vn) : Value := .agg #[.int .u64 x.ep, .int .u32 x.num, .slice x.a x.row.length x.c, .int .u64 x.del]
/-- Its plain part. -/
structure Pv where
  ep : Int
  num : Int
  row : List Val
  del : Int
def Vn.p (x : Vn) : Pv := ⟨x.ep, x.num, x.row, x.del⟩
abbrev Vn.id (x : Vn) : Int × Int := (x.ep, x.num)
/-- The order of names. -/
def ltI (a b : Int × Int) : Bool := if a.1 = b.1 then decide (a.2 < b.2) else decide (a.1 < b.1)
theorem ltI_irrefl (a : Int × Int) : ltI a a = false := by simp [ltI]
theorem ltI_trans {a b c : Int × Int} (h : ltI a b = true) (k : ltI b c = true) : ltI a c = true := by
  obtain ⟨a1, a2⟩ := a; obtain ⟨b1, b2⟩ := b; obtain ⟨c1, c2⟩ := c
  simp only [ltI] at *
  split at h <;> split at k <;> split <;> simp_all <;> omega
theorem ltI_asymm {a b : Int × Int} (h : ltI a b = true) : ltI b a = false := by
  cases e : ltI b a with
  | false => rfl
  | true => have := ltI_trans h e; rw [ltI_irrefl] at this; cases this
theorem ltI_eq {a b : Int × Int} (h : ltI a b = false) (k : ltI b a = false) : a = b := by
  obtain ⟨a1, a2⟩ := a; obtain ⟨b1, b2⟩ := b
  simp only [ltI] at *
  split at h <;> split at k <;> simp_all <;> omega
theorem ltI_ne {a b : Int × Int} (h : ltI a b = true) : a ≠ b := fun e => by subst e; rw [ltI_irrefl] at h; cases h
/-- By rising names. -/
def Srt (l : List Vn) : Prop := l.Pairwise fun x y => ltI x.id y.id = true
/-- How many are ahead of a name. -/
def kOf (l : List Vn) (i : Int × Int) : Nat := l.countP fun x => ltI x.id i
theorem kOf_le (l : List Vn) (i : Int × Int) : kOf l i ≤ l.length := List.countP_le_length
theorem kOf_cons (x : Vn) (l : List Vn) (i : Int × Int) : kOf (x :: l) i = kOf l i + if ltI x.id i = true then 1 else 0 := by unfold kOf; rw [List.countP_cons]
theorem kOf_zero {x : Vn} {l : List Vn} {i : Int × Int} (h : Srt (x :: l)) (hx : ltI x.id i = false) : kOf l i = 0 := by
  unfold kOf
  rw [List.countP_eq_zero]
  intro y hy hlt
  have h1 := (List.pairwise_cons.1 h).1 y hy
  rw [ltI_trans h1 hlt] at hx
  cases hx
/-- Those ahead of the place are ahead of the name, those from it on are not. -/
theorem kOf_at {l : List Vn} (hs : Srt l) (i : Int × Int) : ∀ (j : Nat) (x : Vn), l[j]? = some x → (ltI x.id i = true ↔ j < kOf l i) := by
  induction l with
  | nil => intro j x h; simp at h
  | cons y l ih =>
    intro j x h
    rw [kOf_cons]
    cases j with
    | zero =>
      cases h
      by_cases hy : ltI y.id i = true
      · simp [hy]
      · simp only [Bool.not_eq_true] at hy
        rw [kOf_zero hs hy]; simp [hy]
    | succ j =>
      have h' : l[j]? = some x := by simpa using h
      have hi := ih (List.pairwise_cons.1 hs).2 j x h'
      by_cases hy : ltI y.id i = true
      · rw [if_pos hy, hi]; omega
      · have hy' : ltI y.id i = false := by simpa using hy
        have h0 := kOf_zero hs hy'
        rw [if_neg hy, h0]
        rw [h0] at hi
        simp only [Nat.not_lt_zero, iff_false] at hi
        simp [hi]
/-- Whether a name is there. -/
def hasV (l : List Vn) (i : Int × Int) : Bool := l.any fun x => x.id == i
theorem has_at {l : List Vn} (hs : Srt l) (i : Int × Int) (h : hasV l i = true) : ∃ x, l[kOf l i]? = some x ∧ x.id = i := by
  obtain ⟨x, hx, e⟩ := List.any_eq_true.1 h
  obtain ⟨j, hj⟩ := List.mem_iff_getElem?.1 hx
  have e' : x.id = i := by simpa using e
  have h1 := kOf_at hs i j x hj
  rw [e', ltI_irrefl] at h1
  have hge : kOf l i ≤ j := by
    rcases Nat.lt_or_ge j (kOf l i) with h | h
    · have := h1.2 h; cases this
    · exact h
  have hjl := (List.getElem?_eq_some_iff.1 hj).1
  obtain ⟨y, hy⟩ : ∃ y, l[kOf l i]? = some y := ⟨l[kOf l i]'(by omega), by simp⟩
  rcases Nat.eq_or_lt_of_le hge with e | hlt
  · rw [e]; exact ⟨x, hj, e'⟩
  · have h2 := kOf_at hs i _ y hy
    have h3 : ltI y.id i = false := by
      cases e2 : ltI y.id i with
      | false => rfl
      | true => have := h2.1 e2; omega
    obtain ⟨g1, rfl⟩ := List.getElem?_eq_some_iff.1 hy
    obtain ⟨g2, rfl⟩ := List.getElem?_eq_some_iff.1 hj
    have := List.pairwise_iff_getElem.1 hs _ _ g1 g2 hlt
    rw [e', h3] at this
    cases this
theorem hasNot_at {l : List Vn} (i : Int × Int) (h : hasV l i = false) : ∀ x ∈ l, x.id ≠ i := fun x hx e => by
  have : hasV l i = true := List.any_eq_true.2 ⟨x, hx, by simpa using e⟩
  rw [h] at this; cases this
/-- One more, in its place. -/
def insV (l : List Vn) (v : Vn) : List Vn := l.take (kOf l v.id) ++ v :: l.drop (kOf l v.id)
def addV (l : List Vn) (v : Vn) : List Vn × Int := if hasV l v.id = true then (l, 100) else if v.del ≠ 0 ∧ v.del ≤ v.ep then (l, 101) else (insV l v, 0)
def erased (x : Vn) (e : Int) : Vn := { x with del := e }
/-- The one at a name's place. -/
def atP (l : List Vn) (i : Int × Int) : Vn := (l[kOf l i]?).getD default
def eraV (l : List Vn) (i : Int × Int) (e : Int) : List Vn × Int :=
  if hasV l i = false then (l, 102) else if e ≤ i.1 then (l, 101) else if (atP l i).del ≠ 0 then (l, 103) else (l.set (kOf l i) (erased (atP l i) e), 0)
def seenV (e : Int) (x : Vn) : Bool := decide (x.ep ≤ e) && (decide (x.del = 0) || decide (e < x.del))
def asV (e : Int) (x : Vn) : Vn := if e < x.del then erased x 0 else x
def atV (e : Int) (l : List Vn) : List Vn := (l.filter (seenV e)).map (asV e)
def stays (m : Int) (x : Vn) : Bool := decide (x.del = 0) || decide (m < x.del)
def purV (m : Int) (l : List Vn) : List Vn := l.filter (stays m)
/-- The same but for where the rows lie. -/
def Like (l r : List Vn) : Prop := l.map Vn.p = r.map Vn.p
theorem Like.len {l r : List Vn} (h : Like l r) : l.length = r.length := by have := congrArg List.length h; simpa using this
theorem Like.refl (l : List Vn) : Like l l := rfl
theorem Like.at {l r : List Vn} (h : Like l r) {j : Nat} {x : Vn} (hx : l[j]? = some x) : ∃ y, r[j]? = some y ∧ x.p = y.p := by
  have e : (l.map Vn.p)[j]? = (r.map Vn.p)[j]? := by rw [h]
  rw [List.getElem?_map, List.getElem?_map, hx] at e
  cases hy : r[j]? with
  | none => rw [hy] at e; cases e
  | some y => rw [hy] at e; simp at e; exact ⟨y, rfl, e⟩
theorem Like.symm {l r : List Vn} (h : Like l r) : Like r l := Eq.symm h
theorem Like.trans {l r s : List Vn} (h : Like l r) (k : Like r s) : Like l s := Eq.trans h k
theorem p_id {x y : Vn} (h : x.p = y.p) : x.id = y.id := by simp only [Vn.p, Pv.mk.injEq] at h; simp [Vn.id, h]
theorem p_del {x y : Vn} (h : x.p = y.p) : x.del = y.del := by simp only [Vn.p, Pv.mk.injEq] at h; exact h.2.2.2
theorem p_row {x y : Vn} (h : x.p = y.p) : x.row = y.row := by simp only [Vn.p, Pv.mk.injEq] at h; exact h.2.2.1
theorem p_ep {x y : Vn} (h : x.p = y.p) : x.ep = y.ep := by simp only [Vn.p, Pv.mk.injEq] at h; exact h.1
theorem p_num {x y : Vn} (h : x.p = y.p) : x.num = y.num := by simp only [Vn.p, Pv.mk.injEq] at h; exact h.2.1
theorem p_era {x y : Vn} (h : x.p = y.p) (e : Int) : (erased x e).p = (erased y e).p := by simp only [Vn.p, Pv.mk.injEq, erased] at *; exact ⟨h.1, h.2.1, h.2.2.1, trivial⟩
theorem Like.nil {r : List Vn} (h : Like [] r) : r = [] := by cases r with | nil => rfl | cons y r => simp [Like] at h
theorem Like.cons {x : Vn} {l r : List Vn} (h : Like (x :: l) r) : ∃ y s, r = y :: s ∧ x.p = y.p ∧ Like l s := by
  cases r with
  | nil => simp [Like] at h
  | cons y s => simp only [Like, List.map_cons, List.cons.injEq] at h; exact ⟨y, s, rfl, h.1, h.2⟩
theorem Like.mk {x y : Vn} {l r : List Vn} (h : x.p = y.p) (k : Like l r) : Like (x :: l) (y :: r) := by simp only [Like, List.map_cons, List.cons.injEq]; exact ⟨h, k⟩
theorem Like.append {a b c d : List Vn} (h : Like a b) (k : Like c d) : Like (a ++ c) (b ++ d) := by simp only [Like, List.map_append] at *; rw [h, k]
theorem Like.take {l r : List Vn} (h : Like l r) (n : Nat) : Like (l.take n) (r.take n) := by simp only [Like, List.map_take] at *; rw [h]
theorem Like.drop {l r : List Vn} (h : Like l r) (n : Nat) : Like (l.drop n) (r.drop n) := by simp only [Like, List.map_drop] at *; rw [h]
theorem Like.kOf {l r : List Vn} (h : Like l r) (i : Int × Int) : kOf l i = kOf r i := by
  induction l generalizing r with
  | nil => rw [h.nil]
  | cons x l ih => obtain ⟨y, s, rfl, e, k⟩ := h.cons; rw [kOf_cons, kOf_cons, ih k, p_id e]
theorem Like.has {l r : List Vn} (h : Like l r) (i : Int × Int) : hasV l i = hasV r i := by
  induction l generalizing r with
  | nil => rw [h.nil]
  | cons x l ih => obtain ⟨y, s, rfl, e, k⟩ := h.cons; simp only [hasV, List.any_cons] at *; rw [ih k, p_id e]
theorem Like.srt {l r : List Vn} (h : Like l r) (hs : Srt l) : Srt r := by
  have key : ∀ s : List Vn, Srt s ↔ (s.map Vn.p).Pairwise (fun x y => ltI (x.ep, x.num) (y.ep, y.num) = true) := fun s => by rw [List.pairwise_map]; rfl
  rw [key] at *
  rw [← h]; exact hs
theorem Like.filter {l r : List Vn} (h : Like l r) (f : Vn → Bool) (hf : ∀ x y : Vn, x.p = y.p → f x = f y) : Like (l.filter f) (r.filter f) := by
  induction l generalizing r with
  | nil => rw [h.nil]; rfl
  | cons x l ih =>
    obtain ⟨y, s, rfl, e, k⟩ := h.cons
    simp only [List.filter_cons, hf x y e]
    split
    · exact Like.mk e (ih k)
    · exact ih k
theorem Like.map {l r : List Vn} (h : Like l r) (f : Vn → Vn) (hf : ∀ x y : Vn, x.p = y.p → (f x).p = (f y).p) : Like (l.map f) (r.map f) := by
  induction l generalizing r with
  | nil => rw [h.nil]; rfl
  | cons x l ih => obtain ⟨y, s, rfl, e, k⟩ := h.cons; exact Like.mk (hf x y e) (ih k)
theorem seen_p (e : Int) (x y : Vn) (h : x.p = y.p) : seenV e x = seenV e y := by unfold seenV; rw [p_ep h, p_del h]
theorem as_p (e : Int) (x y : Vn) (h : x.p = y.p) : (asV e x).p = (asV e y).p := by unfold asV; rw [p_del h]; split; exact p_era h 0; exact h
theorem stays_p (m : Int) (x y : Vn) (h : x.p = y.p) : stays m x = stays m y := by unfold stays; rw [p_del h]
theorem Like.atV {l r : List Vn} (h : Like l r) (e : Int) : Like (atV e l) (atV e r) := (h.filter _ (seen_p e)).map _ (as_p e)
theorem Like.purV {l r : List Vn} (h : Like l r) (m : Int) : Like (purV m l) (purV m r) := h.filter _ (stays_p m)
theorem Like.ins {l r : List Vn} (h : Like l r) {x y : Vn} (e : x.p = y.p) : Like (insV l x) (insV r y) := by
  unfold insV
  rw [h.kOf, p_id e]
  exact (h.take _).append (Like.mk e (h.drop _))
theorem Like.add {l r : List Vn} (h : Like l r) {x y : Vn} (e : x.p = y.p) : Like (addV l x).1 (addV r y).1 ∧ (addV l x).2 = (addV r y).2 := by
  unfold addV
  rw [h.has, p_id e, p_del e, p_ep e]
  split
  · exact ⟨h, rfl⟩
  · split
    · exact ⟨h, rfl⟩
    · exact ⟨h.ins e, rfl⟩
theorem Like.atP {l r : List Vn} (h : Like l r) (i : Int × Int) : (atP l i).p = (atP r i).p := by
  unfold Hay.atP
  rw [h.kOf]
  cases hx : l[Hay.kOf r i]? with
  | none =>
    have : r[Hay.kOf r i]? = none := by rw [List.getElem?_eq_none_iff] at *; rw [← h.len]; exact hx
    rw [this]
  | some x => obtain ⟨y, hy, e⟩ := h.at hx; rw [hy]; exact e
theorem Like.set {l r : List Vn} (h : Like l r) {x y : Vn} (e : x.p = y.p) (k : Nat) : Like (l.set k x) (r.set k y) := by simp only [Like, List.map_set] at *; rw [h, e]
theorem Like.era {l r : List Vn} (h : Like l r) (i : Int × Int) (e : Int) : Like (eraV l i e).1 (eraV r i e).1 ∧ (eraV l i e).2 = (eraV r i e).2 := by
  unfold eraV
  rw [h.has, p_del (h.atP i)]
  split
  · exact ⟨h, rfl⟩
  · split
    · exact ⟨h, rfl⟩
    · split
      · exact ⟨h, rfl⟩
      · rw [h.kOf]; exact ⟨h.set (p_era (h.atP i) e) _, rfl⟩
/-- Behind a call the names rise again. -/
theorem Srt.ins {l : List Vn} (h : Srt l) {v : Vn} (hn : hasV l v.id = false) : Srt (insV l v) := by
  unfold insV Srt
  rw [List.pairwise_append, List.pairwise_cons]
  have hp := List.pairwise_append.1 (by rw [List.take_append_drop]; exact h : (l.take (kOf l v.id) ++ l.drop (kOf l v.id)).Pairwise fun x y => ltI x.id y.id = true)
  have ge : ∀ y ∈ l.drop (kOf l v.id), ltI v.id y.id = true := fun y hy => by
    obtain ⟨j, hj⟩ := List.mem_iff_getElem?.1 hy
    rw [List.getElem?_drop] at hj
    have h1 := kOf_at h v.id _ y hj
    have h2 : ltI y.id v.id = false := by
      cases e : ltI y.id v.id with
      | false => rfl
      | true => have := h1.1 e; omega
    cases e : ltI v.id y.id with
    | true => rfl
    | false => exact absurd (ltI_eq h2 e) (hasNot_at _ hn y (List.mem_of_getElem? hj))
  have lt : ∀ x ∈ l.take (kOf l v.id), ltI x.id v.id = true := fun x hx => by
    obtain ⟨j, hj⟩ := List.mem_iff_getElem?.1 hx
    rw [List.getElem?_take] at hj
    split at hj
    · rename_i hlt; exact (kOf_at h v.id j x hj).2 hlt
    · cases hj
  refine ⟨hp.1, ⟨ge, hp.2.1⟩, fun x hx y hy => ?_⟩
  rcases List.mem_cons.1 hy with rfl | hy
  · exact lt x hx
  · exact hp.2.2 x hx y hy
theorem Srt.set {l : List Vn} (h : Srt l) (k : Nat) (x y : Vn) (hx : l[k]? = some x) (e : y.id = x.id) : Srt (l.set k y) := by
  have key : ∀ s : List Vn, Srt s ↔ (s.map Vn.id).Pairwise (fun x y => ltI x y = true) := fun s => by rw [List.pairwise_map]; rfl
  rw [key] at *
  rw [List.map_set, e]
  have : (l.map Vn.id)[k]? = some x.id := by rw [List.getElem?_map, hx]; rfl
  obtain ⟨h1, h2⟩ := List.getElem?_eq_some_iff.1 this
  rw [← h2, List.set_getElem_self]
  exact h
theorem Srt.filter {l : List Vn} (h : Srt l) (f : Vn → Bool) : Srt (l.filter f) := List.Pairwise.filter _ h
theorem Srt.add {l : List Vn} (h : Srt l) (v : Vn) : Srt (addV l v).1 := by
  unfold addV
  split
  · exact h
  · split
    · exact h
    · rename_i h1 _; exact h.ins (by simpa using h1)
theorem Srt.era {l : List Vn} (h : Srt l) (i : Int × Int) (e : Int) : Srt (eraV l i e).1 := by
  unfold eraV
  split
  · exact h
  · split
    · exact h
    · split
      · exact h
      · rename_i h1 _ _
        obtain ⟨x, hx, _⟩ := has_at h i (by simpa using h1)
        refine h.set _ x _ hx ?_
        unfold atP
        rw [hx]; rfl
theorem len_add (l : List Vn) (v : Vn) : (addV l v).1.length ≤ l.length + 1 := by
  have := kOf_le l v.id
  unfold addV
  split
  · simp
  · split
    · simp
    · unfold insV; simp; omega
theorem len_era (l : List Vn) (i : Int × Int) (e : Int) : (eraV l i e).1.length = l.length := by
  unfold eraV
  split
  · rfl
  · split
    · rfl
    · split
      · rfl
      · simp
end Go.Hay
end

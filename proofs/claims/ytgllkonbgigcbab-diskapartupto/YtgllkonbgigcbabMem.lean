/- What memory holds, told of a world: rows of bytes that the calls made, bytes that a slice sees, and which blocks a call may have turned. No statement of the seat is proved here. -/
import Derived.WalkKit
import Derived.WalkSpells
import Derived.Deep.Upon
import Derived.Deep.DeepAppendWide
import Derived.WalkSmall
namespace Go.Hay
open Go.RowKit

/-- A list of bytes, as cells. -/
def bcells (bs : List UInt8) : List Value := bs.map fun x => .int .u8 x.toNat
theorem bcells_length (bs : List UInt8) : (bcells bs).length = bs.length := by simp [bcells]
theorem bcells_append (a b : List UInt8) : bcells (a ++ b) = bcells a ++ bcells b := by simp [bcells]
theorem bcells_get (bs : List UInt8) (j : Nat) : (bcells bs)[j]? = bs[j]?.map fun x => .int .u8 x.toNat := by simp [bcells]
theorem bcells_one (bs : List UInt8) : ∀ u ∈ bcells bs, u.oneCell' = true := by
  intro u hu
  obtain ⟨x, _, rfl⟩ := List.mem_map.1 hu
  rfl

/-- Only blocks of S may have turned. -/
structure Kp (S : List Nat) (w w' : World) : Prop where
  os : w'.os = w.os
  tape : w'.tape = w.tape
  output : w'.output = w.output
  size : w.heap.size ≤ w'.heap.size
  block : ∀ k, k < w.heap.size → k ∉ S → w'.heap[k]? = w.heap[k]?

theorem Kp.refl (S : List Nat) (w : World) : Kp S w w := ⟨rfl, rfl, rfl, Nat.le_refl _, fun _ _ _ => rfl⟩
/-- Two steps: what the second one may turn is what the first one may, or is new. -/
theorem Kp.trans {S T : List Nat} {a b c : World} (h : Kp S a b) (k : Kp T b c) (hT : ∀ x ∈ T, x ∈ S ∨ a.heap.size ≤ x) : Kp S a c :=
  ⟨k.os.trans h.os, k.tape.trans h.tape, k.output.trans h.output, Nat.le_trans h.size k.size, fun i hi hn =>
    (k.block i (Nat.lt_of_lt_of_le hi h.size) (fun hm => by rcases hT i hm with h1 | h1; exact hn h1; omega)).trans (h.block i hi hn)⟩
theorem Kp.mono {S T : List Nat} {a b : World} (h : Kp S a b) (hT : ∀ x ∈ S, x ∈ T ∨ a.heap.size ≤ x) : Kp T a b :=
  ⟨h.os, h.tape, h.output, h.size, fun i hi hn => h.block i hi (fun hm => by rcases hT i hm with h1 | h1; exact hn h1; omega)⟩
theorem Kp.drew {S : List Nat} {a w : World} (h : Kp S a w) : Kp S a w.drew := ⟨h.os, h.tape, h.output, h.size, h.block⟩
theorem Kp.drewN {S : List Nat} {a w : World} (h : Kp S a w) (n : Nat) : Kp S a (w.drewN n) := ⟨h.os, h.tape, h.output, h.size, h.block⟩
theorem Kp.alloc {S : List Nat} {a w : World} (h : Kp S a w) (o : Obj) : Kp S a (w.alloc o) :=
  ⟨h.os, h.tape, h.output, by have := h.size; simp; omega, fun k hk hn => (Below.heap_alloc w o k (Nat.lt_of_lt_of_le hk h.size)).trans (h.block k hk hn)⟩
theorem Kp.setCell {S : List Nat} {a w : World} (h : Kp S a w) {p : Addr} (hp : p.block ∈ S ∨ a.heap.size ≤ p.block) (u : Value) : Kp S a (w.setCell p u) :=
  ⟨h.os, h.tape, h.output, by have := h.size; simpa [World.setCell] using this, fun k hk hn =>
    (Below.heap_setCell w p u k (fun e => by subst e; rcases hp with h1 | h1; exact hn h1; omega)).trans (h.block k hk hn)⟩
theorem Kp.grown {S : List Nat} {a w w' : World} {row : Option Nat} (h : Kp S a w) (hg : w.grownBy w' row) (hr : ∀ k, row = some k → k ∈ S ∨ a.heap.size ≤ k) : Kp S a w' :=
  ⟨hg.os.trans h.os, hg.tape.trans h.tape, hg.output.trans h.output, Nat.le_trans h.size hg.size, fun k hk hn =>
    (hg.block k (Nat.lt_of_lt_of_le hk h.size) (fun e => by rcases hr k e.symm with h1 | h1; exact hn h1; omega)).trans (h.block k hk hn)⟩
theorem Kp.ofBelow {w w' : World} (h : Below w.heap.size w w') (S : List Nat) : Kp S w w' := ⟨h.os, h.tape, h.output, h.size, fun k hk _ => h.block k hk⟩
theorem Kp.below {w w' : World} (h : Kp [] w w') : Below w.heap.size w w' := ⟨h.os, h.tape, h.output, h.size, fun k hk => h.block k hk (by simp)⟩
theorem Kp.cell {S : List Nat} {w w' : World} (h : Kp S w w') {p : Addr} (hp : p.block < w.heap.size) (hn : p.block ∉ S) : w'.cell? p = w.cell? p := World.cell?_of_block (h.block p.block hp hn)
theorem Kp.frozen {S : List Nat} {w w' : World} (h : Kp S w w') {p : Addr} (hp : p.block < w.heap.size) (hn : p.block ∉ S) : w'.frozen? p = w.frozen? p := World.frozen?_of_block (h.block p.block hp hn)

/-- The block of a row of the call's own, as a list. -/
def own (v : Value) : List Nat := v.ownBlock.toList
theorem mem_own {v : Value} {k : Nat} : k ∈ own v ↔ v.ownBlock = some k := by simp [own, Option.mem_toList]

/-- v is a row of bytes of the calls' own: its cells are there, and none is frozen: it may be written and appended to. -/
def Row (w : World) (v : Value) (bs : List UInt8) : Prop :=
  (v = .slice none 0 0 ∧ bs = []) ∨ ∃ g o cap, v = .slice (some ⟨g, o, none⟩) bs.length cap ∧ bs.length ≤ cap ∧ cap ≤ maxLen ∧ g < w.heap.size ∧
    (∀ j u, bs[j]? = some u → w.cell? ⟨g, o + j, none⟩ = some (.int .u8 u.toNat)) ∧ ∀ j, j < cap → (w.cell? ⟨g, o + j, none⟩).isSome = true ∧ w.frozen? ⟨g, o + j, none⟩ = false
theorem Row.nil (w : World) : Row w (.slice none 0 0) [] := .inl ⟨rfl, rfl⟩
theorem Row.lt {w : World} {v : Value} {bs : List UInt8} (h : Row w v bs) : ∀ k ∈ own v, k < w.heap.size := by
  rcases h with ⟨rfl, _⟩ | ⟨g, o, cap, rfl, _, _, hg, _⟩
  · intro k hk; simp [own, Value.ownBlock] at hk
  · intro k hk; simp [own, Value.ownBlock] at hk; omega
theorem Row.shape {w : World} {v : Value} {bs : List UInt8} (h : Row w v bs) : ∃ a c, v = .slice a bs.length c ∧ bs.length ≤ c := by
  rcases h with ⟨rfl, rfl⟩ | ⟨g, o, cap, rfl, hl, _⟩
  · exact ⟨none, 0, rfl, Nat.le_refl _⟩
  · exact ⟨_, _, rfl, hl⟩
theorem Row.kept {w w' : World} {v : Value} {bs : List UInt8} {S : List Nat} (h : Row w v bs) (hk : Kp S w w') (hn : ∀ k ∈ own v, k ∉ S) : Row w' v bs := by
  rcases h with h | ⟨g, o, cap, rfl, hl, hm, hg, hc, ht⟩
  · exact .inl h
  · have hgS : g ∉ S := hn g (by simp [own, Value.ownBlock])
    have e1 : ∀ j, w'.cell? ⟨g, o + j, none⟩ = w.cell? ⟨g, o + j, none⟩ := fun j => hk.cell (p := ⟨g, o + j, none⟩) hg hgS
    have e2 : ∀ j, w'.frozen? ⟨g, o + j, none⟩ = w.frozen? ⟨g, o + j, none⟩ := fun j => hk.frozen (p := ⟨g, o + j, none⟩) hg hgS
    exact .inr ⟨g, o, cap, rfl, hl, hm, Nat.lt_of_lt_of_le hg hk.size, fun j u hu => (e1 j).trans (hc j u hu), fun j hj => by rw [e1, e2]; exact ht j hj⟩

/-- What a slice's value sees: its first bytes, told by cells. -/
def Sees (w : World) (a : Option Addr) (bs : List UInt8) : Prop :=
  bs = [] ∨ ∃ g o, a = some ⟨g, o, none⟩ ∧ ∀ j u, bs[j]? = some u → w.cell? ⟨g, o + j, none⟩ = some (.int .u8 u.toNat)
theorem Sees.nil (w : World) (a : Option Addr) : Sees w a [] := .inl rfl
/-- The block of an address, as a list. -/
def blk (a : Option Addr) : List Nat := (a.map (·.block)).toList
theorem Sees.lt {w : World} {a : Option Addr} {bs : List UInt8} (h : Sees w a bs) (hb : bs ≠ []) : ∀ k ∈ blk a, k < w.heap.size := by
  rcases h with rfl | ⟨g, o, rfl, hc⟩
  · exact absurd rfl hb
  · intro k hk
    simp [blk] at hk
    subst hk
    cases bs with
    | nil => exact absurd rfl hb
    | cons x r => exact World.block_lt_of_cell? _ _ (hc 0 x rfl)
theorem Sees.kept {w w' : World} {a : Option Addr} {bs : List UInt8} {S : List Nat} (h : Sees w a bs) (hk : Kp S w w') (hn : ∀ k ∈ blk a, k ∉ S) : Sees w' a bs := by
  rcases h with rfl | ⟨g, o, rfl, hc⟩
  · exact .inl rfl
  · exact .inr ⟨g, o, rfl, fun j u hu => (hk.cell (World.block_lt_of_cell? _ _ (hc j u hu)) (hn g (by simp [blk]))).trans (hc j u hu)⟩
theorem Sees.kept' {w w' : World} {a : Option Addr} {bs : List UInt8} {S : List Nat} (h : Sees w a bs) (hk : Kp S w w') (hn : bs ≠ [] → ∀ k ∈ blk a, k ∉ S) : Sees w' a bs := by
  by_cases hb : bs = []
  · exact .inl hb
  · exact h.kept hk (hn hb)
theorem Row.sees {w : World} {v : Value} {bs : List UInt8} (h : Row w v bs) : ∃ a c, v = .slice a bs.length c ∧ Sees w a bs ∧ own v = blk a := by
  rcases h with ⟨rfl, rfl⟩ | ⟨g, o, cap, rfl, hl, hm, hg, hc, ht⟩
  · exact ⟨none, 0, rfl, .inl rfl, rfl⟩
  · exact ⟨_, _, rfl, .inr ⟨g, o, rfl, hc⟩, rfl⟩
theorem Sees.cells {w : World} {g o : Nat} {bs : List UInt8} (hc : ∀ j u, bs[j]? = some u → w.cell? ⟨g, o + j, none⟩ = some (.int .u8 u.toNat)) : ∀ j u, (bcells bs)[j]? = some u → w.cell? ((⟨g, o, none⟩ : Addr).add j) = some u := by
  intro j u hu
  rw [bcells_get] at hu
  rw [Addr.add_lit]
  cases hb : bs[j]? with
  | none => rw [hb] at hu; cases hu
  | some x => rw [hb] at hu; cases hu; exact hc j x hb

/-- Parts of what is seen. -/
theorem Sees.front {w : World} {a : Option Addr} {bs : List UInt8} (h : Sees w a bs) (n : Nat) : Sees w a (bs.take n) := by
  rcases h with rfl | ⟨g, o, rfl, hc⟩
  · exact .inl (by simp)
  · refine .inr ⟨g, o, rfl, fun j u hu => ?_⟩
    rw [List.getElem?_take] at hu
    split at hu
    · exact hc j u hu
    · cases hu
theorem Sees.tail {w : World} {a : Option Addr} {bs : List UInt8} (h : Sees w a bs) (n : Nat) : Sees w (a.map (fun x => x.add n)) (bs.drop n) := by
  rcases h with rfl | ⟨g, o, rfl, hc⟩
  · exact .inl (by simp)
  · refine .inr ⟨g, o + n, by simp [Addr.add_lit], fun j u hu => ?_⟩
    rw [List.getElem?_drop] at hu
    have := hc (n + j) u hu
    rwa [show o + n + j = o + (n + j) by omega]
theorem blk_tail (a : Option Addr) (n : Nat) : blk (a.map (fun x => x.add n)) = blk a := by
  cases a with
  | none => rfl
  | some x =>
    obtain ⟨b, o, s⟩ := x
    simp only [blk, Option.map_some, Addr.add]
    split <;> rfl

theorem tape_setCells (g : Nat) : ∀ (vs : List Value) (o : Nat) (w : World), (w.setCells g o vs).tape = w.tape
  | [], _, _ => rfl
  | v :: r, o, w => by rw [World.setCells, tape_setCells g r]; rfl
theorem size_setCells (g : Nat) : ∀ (vs : List Value) (o : Nat) (w : World), (w.setCells g o vs).heap.size = w.heap.size
  | [], _, _ => rfl
  | v :: r, o, w => by rw [World.setCells, size_setCells g r]; simp [World.setCell]
theorem Kp.setCells {S : List Nat} {a w : World} (h : Kp S a w) {g : Nat} (hg : g ∈ S ∨ a.heap.size ≤ g) : ∀ (vs : List Value) (o : Nat), Kp S a (w.setCells g o vs) := by
  intro vs
  induction vs generalizing w with
  | nil => intro o; exact h
  | cons v r ih => intro o; exact ih (h.setCell (p := ⟨g, o, none⟩) hg v) (o + 1)

section
variable {P : Program} (w : World)
/-- What bytes that a slice sees are, to an append. -/
theorem Sees.src {w : World} {a : Option Addr} {bs : List UInt8} (hs : Sees w a bs) {t : TypeId} (ht : P.underlying t = some (.slice 5)) (c : Nat) : Src P 1 t (.slice a bs.length c) bs.length (bcells bs) w := by
  rcases hs with rfl | ⟨g, o, rfl, hc⟩
  · cases a with
    | none => exact Src.ofNil w ht c
    | some ad => exact Src.ofSlice w ht ad 0 c [] rfl (by intro j u hu; simp at hu) (by intro u hu; simp at hu)
  · exact Src.ofSlice w ht ⟨g, o, none⟩ bs.length c (bcells bs) (by rw [bcells_length]; omega) (Sees.cells hc) (bcells_one bs)

theorem grown_cells (g : Nat) (xs : List UInt8) (z : Array Value) (h : g = w.heap.size) (t : TypeId) : ∀ j u, xs[j]? = some u → (w.alloc (.cells ((bcells xs).toArray ++ z) t)).cell? ⟨g, 0 + j, none⟩ = some (.int .u8 u.toNat) := by
  subst h
  intro j u hu
  have hj : j < xs.length := (List.getElem?_eq_some_iff.1 hu).1
  have e1 : (w.alloc (.cells ((bcells xs).toArray ++ z) t)).cell? ⟨w.heap.size, 0 + j, none⟩ = _ := World.cell?_alloc_new w _ _ (0 + j)
  rw [e1, Nat.zero_add, Array.getElem?_append_left (by simp only [List.size_toArray, bcells_length]; exact hj), List.getElem?_toArray, bcells_get, hu]
  rfl

/-- An append of bytes, out of whatever yields them, onto a row of the call's own. -/
theorem run_append_src (t tx ty : TypeId) (i : TypeInfo) (ht : P.underlying t = some (.slice 5)) (hi : P.info? 5 = some i) (hz : i.zero = some (.int .u8 0)) (hsize : i.size = 1) (hby : i.bytes = 1)
    (v : Value) (xs : List UInt8) (hown : Row w v xs) (x : Value) (bs : List UInt8) (hs : Src P 1 tx x bs.length (bcells bs) w) (hb : xs.length + bs.length ≤ 200000000000000) :
    ∃ v' w', (Builtin.append_ #[t, tx] ty #[v, x]).run P w = .ok v' w' ∧ Row w' v' (xs ++ bs) ∧ Kp (own v) w w' ∧ ∀ k ∈ own v', k ∈ own v ∨ w.heap.size ≤ k := by
  have hs' := hs
  rw [← hsize] at hs'
  -- A NEW ROW
  have grow : ∀ (ao : Option Addr) (cap : Nat), v = .slice ao xs.length cap → cap < xs.length + bs.length → (Builtin.firstCells i.size xs.length (.slice ao xs.length cap)).run P w.drew = .ok (bcells xs).toArray w.drew →
      ∃ v' w', (Builtin.append_ #[t, tx] ty #[v, x]).run P w = .ok v' w' ∧ Row w' v' (xs ++ bs) ∧ Kp (own v) w w' ∧ ∀ k ∈ own v', k ∈ own v ∨ w.heap.size ≤ k := by
    rintro ao cap rfl hlt hold
    have hrun := run_append_grow_src (P := P) w t tx ty 5 i (.int .u8 0) ht hi hz ao xs.length cap (bcells xs) hold x bs.length (bcells bs) hs' hlt (by omega) (growslice_fits_wide hlt (by rw [hby]; omega))
    have hge := grownCap_ge w (xs.length + bs.length) cap 5
    have hcm := grownCap_le_maxLen w (xs.length + bs.length) cap 5 (by unfold maxLen; omega)
    rw [← bcells_append] at hrun
    refine ⟨_, _, hrun, .inr ⟨w.heap.size, 0, _, by rw [List.length_append], by rw [List.length_append]; omega, hcm, by simp, ?_, ?_⟩, (Kp.refl _ w).drew.alloc _, ?_⟩
    · exact grown_cells w.drew _ (xs ++ bs) _ rfl _
    · intro j hj
      refine ⟨?_, World.frozen?_alloc_new w.drew _ _ (0 + j)⟩
      have e1 := World.cell?_alloc_new w.drew ((bcells (xs ++ bs)).toArray ++ Builtin.zeroCells (Value.int .u8 0).cells (grownCap w (xs.length + bs.length) cap 5 - (xs.length + bs.length))) 5 (0 + j)
      have hsz : ((bcells (xs ++ bs)).toArray ++ Builtin.zeroCells (Value.int .u8 0).cells (grownCap w (xs.length + bs.length) cap 5 - (xs.length + bs.length))).size = grownCap w (xs.length + bs.length) cap 5 := by
        rw [Array.size_append, List.size_toArray, bcells_length, List.length_append, size_zeroCells]
        simp [Value.cells]
        omega
      refine (congrArg Option.isSome e1).trans ?_
      rw [Nat.zero_add, Array.getElem?_eq_getElem (by rw [hsz]; exact hj)]
      rfl
    · intro k hk
      simp [own, Value.ownBlock] at hk
      omega
  rcases hown with ⟨rfl, rfl⟩ | ⟨g, o, cap, rfl, hl, hm, hg, hc, ht'⟩
  · rcases Nat.eq_zero_or_pos bs.length with h0 | h0
    · obtain rfl : bs = [] := List.length_eq_zero_iff.1 h0
      exact ⟨_, _, run_append_nothing (P := P) w t tx ty 5 i ht hi none 0 0 (Nat.le_refl _) x hs', .inl ⟨rfl, rfl⟩, Kp.refl _ _, fun _ h => .inl h⟩
    · exact grow none 0 rfl (by simpa using h0) (run_firstCells_none w.drew i.size 0 0 0)
  · by_cases hroom : xs.length + bs.length ≤ cap
    · have hsome : ∀ j, j < (bcells bs).length → (w.cell? ⟨g, o + xs.length * i.size + j, none⟩).isSome = true := fun j hj => by
        rw [bcells_length] at hj; rw [hsize, Nat.mul_one, Nat.add_assoc]; exact (ht' (xs.length + j) (by omega)).1
      have hrun := run_append_room_src (P := P) w t tx ty 5 i ht hi g o xs.length cap x bs.length (bcells bs) hs' hroom hsome
        (fun j hj => by rw [bcells_length] at hj; rw [hsize, Nat.mul_one, Nat.add_assoc]; exact (ht' (xs.length + j) (by omega)).2)
      rw [hsize, Nat.mul_one] at hsome
      rw [hsize, Nat.mul_one] at hrun
      refine ⟨_, _, hrun, .inr ⟨g, o, cap, by rw [List.length_append], by rw [List.length_append]; omega, hm, by rw [size_setCells]; exact hg, ?_, ?_⟩, (Kp.refl _ w).setCells (by simp [own, Value.ownBlock]) _ _, fun k hk => .inl hk⟩
      · intro j u hu
        by_cases hj : j < xs.length
        · rw [World.cell?_setCells_out g _ _ _ _ (fun _ _ => Or.inl (by show o + j < o + xs.length; omega))]
          rw [List.getElem?_append_left hj] at hu
          exact hc j u hu
        · rw [List.getElem?_append_right (by omega)] at hu
          have hj2 : j - xs.length < bs.length := (List.getElem?_eq_some_iff.1 hu).1
          have := World.cell?_setCells_in g (bcells bs) (o + xs.length) w hsome (j - xs.length) (by rw [bcells_length]; exact hj2)
          rw [show o + xs.length + (j - xs.length) = o + j by omega, ← List.getElem?_eq_getElem (by rw [bcells_length]; exact hj2), bcells_get, hu] at this
          exact this
      · intro j hj
        refine ⟨?_, (World.frozen?_setCells g _ _ _ _).trans (ht' j hj).2⟩
        by_cases hin : xs.length ≤ j ∧ j < xs.length + bs.length
        · have := World.cell?_setCells_in g (bcells bs) (o + xs.length) w hsome (j - xs.length) (by rw [bcells_length]; omega)
          rw [show o + xs.length + (j - xs.length) = o + j by omega] at this
          rw [this]; rfl
        · rw [World.cell?_setCells_out g _ _ _ _ (fun _ _ => by rw [bcells_length]; show o + j < o + xs.length ∨ o + xs.length + bs.length ≤ o + j; omega)]
          exact (ht' j hj).1
    · refine grow (some ⟨g, o, none⟩) cap rfl (by omega) ?_
      exact run_firstCells_some w.drew i.size xs.length ⟨g, o, none⟩ xs.length cap (bcells xs) (by rw [bcells_length, hsize]; omega) (by simpa using Sees.cells (w := w.drew) hc)

/-- .. for the walk. -/
theorem wpList_append_src {ops : Array Oper} {rest : List Oper} {o : Oper} {a : Act} {Q : Exit → Act → World → Prop} (hgd : o.guard = none) (s x : Operand) (t tx : TypeId)
    (ho : o.op = .call { callee := .builtin .append, args := #[s, x], argTypes := #[t, tx] })
    (i : TypeInfo) (ht : P.underlying t = some (.slice 5)) (hi : P.info? 5 = some i) (hz : i.zero = some (.int .u8 0)) (hsize : i.size = 1) (hby : i.bytes = 1)
    (v : Value) (xs : List UInt8) (hv : a.eval s = v) (hown : Row w v xs) (xv : Value) (bs : List UInt8) (hx : a.eval x = xv) (hs : Src P 1 tx xv bs.length (bcells bs) w) (hb : xs.length + bs.length ≤ 200000000000000)
    (hK : ∀ v' w', Row w' v' (xs ++ bs) → Kp (own v) w w' → (∀ k ∈ own v', k ∈ own v ∨ w.heap.size ≤ k) → wpList P ops Q rest (a.put o.dst v') w') : wpList P ops Q (o :: rest) a w := by
  refine wpList_plain hgd fun K hK' => ?_
  obtain ⟨v', w', hrun, h1, h2, h3⟩ := run_append_src (P := P) w t tx o.type i ht hi hz hsize hby v xs hown xv bs hs hb
  unfold Oper.wp
  simp [execOp, ho, resolve, invoke, builtin, hv, hx, hrun, Result.andThen]
  exact hK' _ _ (hK v' w' h1 h2 h3)
end

/-- A Writer lies in block p: its one cell holds v, a row of the bytes bs. -/
structure Wr (w : World) (p : Nat) (v : Value) (bs : List UInt8) : Prop where
  cell : w.cell? ⟨p, 0, none⟩ = some v
  free : w.frozen? ⟨p, 0, none⟩ = false
  row : Row w v bs
  apart : p ∉ own v
theorem Wr.lt {w : World} {p : Nat} {v : Value} {bs : List UInt8} (h : Wr w p v bs) : p < w.heap.size := World.block_lt_of_cell? _ _ h.cell
theorem Wr.kept {w w' : World} {p : Nat} {v : Value} {bs : List UInt8} {S : List Nat} (h : Wr w p v bs) (hk : Kp S w w') (hn : ∀ k ∈ p :: own v, k ∉ S) : Wr w' p v bs :=
  ⟨(hk.cell h.lt (hn p (by simp))).trans h.cell, (hk.frozen h.lt (hn p (by simp))).trans h.free, h.row.kept hk (fun k hk' => hn k (by simp [hk'])), h.apart⟩
theorem Wr.keptNew {w w' : World} {p : Nat} {v : Value} {bs : List UInt8} (h : Wr w p v bs) (hk : Kp [] w w') : Wr w' p v bs := h.kept hk (by simp)

/-- What a writer's call may turn: the writer's own cell and row; the row behind it is that one, or new. -/
structure Wrote (p : Nat) (v : Value) (w : World) (v' : Value) (w' : World) : Prop where
  kp : Kp (p :: own v) w w'
  new : ∀ k ∈ own v', k ∈ own v ∨ w.heap.size ≤ k
theorem Wrote.refl (p : Nat) (v : Value) (w : World) : Wrote p v w v w := ⟨Kp.refl _ _, fun _ h => .inl h⟩
theorem Wrote.trans {p : Nat} {v v1 v2 : Value} {w w1 w2 : World} (h : Wrote p v w v1 w1) (k : Wrote p v1 w1 v2 w2) : Wrote p v w v2 w2 :=
  ⟨h.kp.trans k.kp (fun x hx => by
      rcases List.mem_cons.1 hx with rfl | hx
      · simp
      · rcases h.new x hx with h1 | h1
        · simp [h1]
        · exact .inr h1),
   fun x hx => by
      rcases k.new x hx with h1 | h1
      · exact h.new x h1
      · exact .inr (Nat.le_trans h.kp.size h1)⟩
theorem Wrote.pre {p : Nat} {v v1 : Value} {w w0 w1 : World} (h : Kp [] w w0) (k : Wrote p v w0 v1 w1) : Wrote p v w v1 w1 :=
  ⟨(h.mono (T := p :: own v) (by simp)).trans k.kp (fun _ hx => .inl hx), fun x hx => (k.new x hx).imp id (Nat.le_trans h.size)⟩
theorem Wrote.post {p : Nat} {v v1 : Value} {w w1 w2 : World} (h : Wrote p v w v1 w1) (k : Kp [] w1 w2) : Wrote p v w v1 w2 :=
  ⟨h.kp.trans k (by simp), h.new⟩

/-- Behind an append onto the writer's row, and the store of the row into its cell. -/
theorem Wr.stored {w w0 w1 : World} {p : Nat} {v v' : Value} {bs bs' : List UInt8} (h : Wr w p v bs) (h0 : Kp [] w w0) (hr : Row w1 v' bs') (hg : Kp (own v) w0 w1) (hnew : ∀ k ∈ own v', k ∈ own v ∨ w0.heap.size ≤ k) :
    w1.cell? ⟨p, 0, none⟩ = some v ∧ w1.frozen? ⟨p, 0, none⟩ = false ∧ Wr (w1.setCell ⟨p, 0, none⟩ v') p v' bs' ∧ Wrote p v w v' (w1.setCell ⟨p, 0, none⟩ v') := by
  have hlt := h.lt
  have hnew' : ∀ k ∈ own v', k ∈ own v ∨ w.heap.size ≤ k := fun k hk => (hnew k hk).imp id (Nat.le_trans h0.size)
  have k1 : Kp (own v) w w1 := (h0.mono (T := own v) (by simp)).trans hg (fun _ hx => .inl hx)
  have hpv : p ∉ own v := h.apart
  have hpv' : p ∉ own v' := fun hp => by rcases hnew' p hp with h1 | h1; exact hpv h1; omega
  have c1 : w1.cell? ⟨p, 0, none⟩ = some v := (k1.cell hlt hpv).trans h.cell
  have f1 : w1.frozen? ⟨p, 0, none⟩ = false := (k1.frozen hlt hpv).trans h.free
  have k2 : Kp [p] w1 (w1.setCell ⟨p, 0, none⟩ v') := (Kp.refl [p] w1).setCell (by simp) _
  refine ⟨c1, f1, ⟨World.cell?_setCell_same _ _ _ c1, ?_, hr.kept k2 (fun k hk e => ?_), hpv'⟩, ⟨?_, hnew'⟩⟩
  · rw [World.frozen?_setCell]; exact f1
  · rw [List.mem_singleton] at e; subst e; exact hpv' hk
  · exact (k1.mono (T := p :: own v) (fun x hx => .inl (by simp [hx]))).setCell (by simp) _

theorem Sees.new (w : World) (C : Array Value) (t : TypeId) (fr : Nat × Nat) (bs : List UInt8) (h : C.toList = bcells bs) : Sees (w.alloc (.cells C t fr)) (some ⟨w.heap.size, 0, none⟩) bs := by
  refine .inr ⟨w.heap.size, 0, rfl, fun j u hu => ?_⟩
  have e : (w.alloc (.cells C t fr)).heap[w.heap.size]? = some (.cells C t fr) := by show (w.heap.push (.cells C t fr))[w.heap.size]? = _; simp
  have e2 : (w.alloc (.cells C t fr)).cell? ⟨w.heap.size, 0 + j, none⟩ = C[0 + j]? := by unfold World.cell?; rw [e]; rfl
  rw [e2, Nat.zero_add, ← Array.getElem?_toList, h, bcells_get, hu]
  rfl
/-- A writer of the call's own, at work: nothing that was there turns. -/
theorem stepW {w wn wm : World} {p : Nat} {v v' : Value} (kw : Kp [] w wn) (hp : w.heap.size ≤ p) (ho : ∀ k ∈ own v, w.heap.size ≤ k) (hr : Wrote p v wn v' wm) : Kp [] w wm ∧ ∀ k ∈ own v', w.heap.size ≤ k :=
  ⟨kw.trans hr.kp (fun x hx => .inr (by rcases List.mem_cons.1 hx with rfl | hx; exact hp; exact ho x hx)), fun k hk => by
    rcases hr.new k hk with h1 | h1
    · exact ho k h1
    · exact Nat.le_trans kw.size h1⟩
/-- A reader of the call's own, at work. -/
theorem stepR {w wn wm : World} {p : Nat} (kw : Kp [] w wn) (hp : w.heap.size ≤ p) (hr : Kp [p] wn wm) : Kp [] w wm :=
  kw.trans hr (fun x hx => .inr (by rw [List.mem_singleton] at hx; omega))
theorem Sees.set {w : World} {g o : Nat} {bs : List UInt8} (hc : ∀ j u, bs[j]? = some u → w.cell? ⟨g, o + j, none⟩ = some (.int .u8 u.toNat)) (i : Nat) (y : UInt8) (hi : i < bs.length) :
    Sees (w.setCell ⟨g, o + i, none⟩ (.int .u8 y.toNat)) (some ⟨g, o, none⟩) (bs.set i y) := by
  refine .inr ⟨g, o, rfl, fun j u hu => ?_⟩
  by_cases hj : j = i
  · subst hj
    rw [List.getElem?_set_self hi] at hu
    cases hu
    exact World.cell?_setCell_same _ _ _ (hc j bs[j] (by simp [hi]))
  · rw [List.getElem?_set_ne (fun h => hj h.symm)] at hu
    rw [World.cell?_setCell_other _ _ _ _ (by intro h; simp only [Addr.mk.injEq] at h; omega)]
    exact hc j u hu
theorem Sees.drew {w : World} {a : Option Addr} {bs : List UInt8} (h : Sees w a bs) : Sees w.drew a bs := h
/-- An append onto a row of the call's own. -/
theorem stepA {w wn wm : World} {v v' : Value} (kw : Kp [] w wn) (ho : ∀ k ∈ own v, w.heap.size ≤ k) (hk : Kp (own v) wn wm) (hn : ∀ k ∈ own v', k ∈ own v ∨ wn.heap.size ≤ k) : Kp [] w wm ∧ ∀ k ∈ own v', w.heap.size ≤ k :=
  ⟨kw.trans hk (fun x hx => .inr (ho x hx)), fun k hk' => by
    rcases hn k hk' with h1 | h1
    · exact ho k h1
    · exact Nat.le_trans kw.size h1⟩
theorem ret_int {k : IntKind} {a b : Int} (h : a = b) : Ending.returned (.int k a) = .returned (.int k b) := by rw [h]
theorem hid {p : Prop} (h : p) : Hid p := h
end Go.Hay

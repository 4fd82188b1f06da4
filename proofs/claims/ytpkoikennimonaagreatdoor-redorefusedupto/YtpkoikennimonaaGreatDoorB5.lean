/- Rows of structs, for any element: how a slice of them lies in memory, how it grows, how it is copied onto itself. No statement of the seat is proved here. Arguments opened: a slice of elements of whatever type, told by what it sees; how great it may be. Rows of slices of bytes. Frames, the program's. Rows of rows, and what a range over Items may turn. Rows of rows of bytes whose blocks keep to a set. Marks among the deferred calls, however many: a loop in which there is a range over a function. -/
import Derived.Test.YtpkoikennimonaaGreatDoorB1
import Derived.Laws.IdiomCopy
import Derived.Deep.RegionLaw
import Derived.Test.YtpkoikennimonaaGreatDoorRows
import Derived.Test.YtpkoikennimonaaGreatDoorB2
import Derived.ProofKit
import Derived.OpenShut
import Derived.ShutString
import Derived.ChangeOld
import Derived.Below
import Derived.Deep.Slices
import Derived.Test.YtpkoikennimonaaGreatDoorB4
import Derived.RangeFuncLeaves
import Derived.RangeFuncRecord
section
namespace Go.Hay
open Go.RowKit

/-- How an element lies in cells. -/
structure El (α : Type) where
  n : Nat
  c : α → List Value
  len : ∀ x, (c x).length = n
  one : ∀ x, ∀ u ∈ c x, u.oneCell' = true
  pos : 0 < n
section
variable {α : Type} (E : El α)
def El.cs (l : List α) : List Value := l.flatMap E.c
theorem El.cs_cons (x : α) (l : List α) : E.cs (x :: l) = E.c x ++ E.cs l := rfl
theorem El.cs_append (a b : List α) : E.cs (a ++ b) = E.cs a ++ E.cs b := by simp [El.cs]
theorem El.cs_length (l : List α) : (E.cs l).length = l.length * E.n := by
  induction l with
  | nil => simp [El.cs]
  | cons x l ih => rw [El.cs_cons, List.length_append, E.len, ih, List.length_cons, Nat.succ_mul]; omega
theorem El.cs_one (l : List α) : ∀ u ∈ E.cs l, u.oneCell' = true := by
  intro u hu
  obtain ⟨x, _, hx⟩ := List.mem_flatMap.1 hu
  exact E.one x u hx
theorem El.cs_drop (l : List α) : ∀ i, E.cs (l.drop i) = (E.cs l).drop (i * E.n) := by
  induction l with
  | nil => intro i; simp [El.cs]
  | cons x l ih =>
    intro i
    cases i with
    | zero => simp
    | succ i =>
      rw [List.drop_succ_cons, ih i, El.cs_cons, Nat.succ_mul, Nat.add_comm, ← List.drop_drop, List.drop_left' (E.len x)]
theorem El.cs_take (l : List α) : ∀ i, E.cs (l.take i) = (E.cs l).take (i * E.n) := by
  induction l with
  | nil => intro i; simp [El.cs]
  | cons x l ih =>
    intro i
    cases i with
    | zero => simp [El.cs]
    | succ i =>
      rw [List.take_succ_cons, El.cs_cons, ih i, El.cs_cons, Nat.succ_mul, Nat.add_comm, List.take_append, E.len, List.take_of_length_le (l := E.c x) (by rw [E.len]; omega), Nat.add_sub_cancel_left]
theorem El.cs_get {l : List α} {j k : Nat} {x : α} (h : l[j]? = some x) (hk : k < E.n) : (E.cs l)[j * E.n + k]? = (E.c x)[k]? := by
  have e := El.cs_drop E l j
  have hl : l.drop j = x :: l.drop (j + 1) := by
    obtain ⟨h1, rfl⟩ := List.getElem?_eq_some_iff.1 h
    exact List.drop_eq_getElem_cons h1
  rw [hl, El.cs_cons] at e
  have : (E.cs l)[j * E.n + k]? = ((E.cs l).drop (j * E.n))[k]? := by rw [List.getElem?_drop]
  rw [this, ← e, List.getElem?_append_left (by rw [E.len]; exact hk)]

/-- What a slice of elements sees. -/
def El.See (w : World) (a : Option Addr) (l : List α) : Prop :=
  l = [] ∨ ∃ g o, a = some ⟨g, o, none⟩ ∧ ∀ j u, (E.cs l)[j]? = some u → w.cell? ⟨g, o + j, none⟩ = some u
variable {E}
theorem El.See.nil (w : World) (a : Option Addr) : E.See w a [] := .inl rfl
theorem El.See.kept {w w' : World} {a : Option Addr} {l : List α} {S : List Nat} (h : E.See w a l) (hk : Kp S w w') (hn : l ≠ [] → ∀ k ∈ blk a, k ∉ S) : E.See w' a l := by
  rcases h with rfl | ⟨g, o, rfl, hc⟩
  · exact .inl rfl
  · by_cases hl : l = []
    · exact .inl hl
    · exact .inr ⟨g, o, rfl, fun j u hu => (hk.cell (World.block_lt_of_cell? _ _ (hc j u hu)) (hn hl g (by simp [blk]))).trans (hc j u hu)⟩
theorem El.See.keptNew {w w' : World} {a : Option Addr} {l : List α} (h : E.See w a l) (hk : Kp [] w w') : E.See w' a l := h.kept hk (by simp)
theorem El.See.at {w : World} {a : Option Addr} {l : List α} (h : E.See w a l) {j : Nat} {x : α} (hx : l[j]? = some x) : ∃ g o, a = some ⟨g, o, none⟩ ∧ ∀ k u, (E.c x)[k]? = some u → w.cell? ⟨g, o + j * E.n + k, none⟩ = some u := by
  rcases h with rfl | ⟨g, o, rfl, hc⟩
  · simp at hx
  · refine ⟨g, o, rfl, fun k u hu => ?_⟩
    have hk : k < E.n := by have := (List.getElem?_eq_some_iff.1 hu).1; rwa [E.len] at this
    rw [Nat.add_assoc]
    exact hc _ _ ((El.cs_get E hx hk).trans hu)
theorem El.See.lt {w : World} {a : Option Addr} {l : List α} (h : E.See w a l) (hl : l ≠ []) : ∀ k ∈ blk a, k < w.heap.size := by
  cases l with
  | nil => exact absurd rfl hl
  | cons x l =>
    obtain ⟨g, o, rfl, hc⟩ := h.at (j := 0) (x := x) rfl
    intro k hk
    simp [blk] at hk
    subst hk
    have h0 : 0 < (E.c x).length := by rw [E.len]; exact E.pos
    exact World.block_lt_of_cell? _ _ (hc 0 _ (List.getElem?_eq_getElem h0))
theorem El.See.src {P : Program} {w : World} {a : Option Addr} {l : List α} (h : E.See w a l) {t e : TypeId} (ht : P.underlying t = some (.slice e)) (c : Nat) : Src P E.n t (.slice a l.length c) l.length (E.cs l) w := by
  rcases h with rfl | ⟨g, o, rfl, hc⟩
  · cases a with
    | none => exact Src.ofNil w ht c
    | some ad => exact Src.ofSlice w ht ad 0 c [] (by simp) (by intro j u hu; simp at hu) (by intro u hu; simp at hu)
  · exact Src.ofSlice w ht ⟨g, o, none⟩ l.length c (E.cs l) (El.cs_length E l) (fun j u hu => by rw [Addr.add_lit]; exact hc j u hu) (El.cs_one E l)
theorem El.See.front {w : World} {a : Option Addr} {l : List α} (h : E.See w a l) (i : Nat) : E.See w a (l.take i) := by
  rcases h with rfl | ⟨g, o, rfl, hc⟩
  · exact .inl (by simp)
  · refine .inr ⟨g, o, rfl, fun j u hu => ?_⟩
    rw [El.cs_take, List.getElem?_take] at hu
    split at hu
    · exact hc j u hu
    · cases hu

variable (E)
/-- A row of elements of the calls' own: its cells are there, none is frozen. -/
def El.Row (w : World) (v : Value) (l : List α) : Prop :=
  (v = .slice none 0 0 ∧ l = []) ∨ ∃ g o cap, v = .slice (some ⟨g, o, none⟩) l.length cap ∧ l.length ≤ cap ∧ cap ≤ maxLen ∧ g < w.heap.size ∧
    (∀ j u, (E.cs l)[j]? = some u → w.cell? ⟨g, o + j, none⟩ = some u) ∧ ∀ j, j < cap * E.n → (w.cell? ⟨g, o + j, none⟩).isSome = true ∧ w.frozen? ⟨g, o + j, none⟩ = false
variable {E}
theorem El.Row.nil (w : World) : E.Row w (.slice none 0 0) [] := .inl ⟨rfl, rfl⟩
theorem El.Row.lt {w : World} {v : Value} {l : List α} (h : E.Row w v l) : ∀ k ∈ own v, k < w.heap.size := by
  rcases h with ⟨rfl, _⟩ | ⟨g, o, cap, rfl, _, _, hg, _⟩
  · intro k hk; simp [own, Value.ownBlock] at hk
  · intro k hk; simp [own, Value.ownBlock] at hk; omega
theorem El.Row.see {w : World} {v : Value} {l : List α} (h : E.Row w v l) : ∃ a c, v = .slice a l.length c ∧ E.See w a l ∧ (a = none → l = [] ∧ c = 0) ∧ l.length ≤ c ∧ c ≤ maxLen ∧ own v = blk a := by
  rcases h with ⟨rfl, rfl⟩ | ⟨g, o, cap, rfl, hl, hm, hg, hc, ht⟩
  · exact ⟨none, 0, rfl, .inl rfl, fun _ => ⟨rfl, rfl⟩, Nat.le_refl _, Nat.zero_le _, rfl⟩
  · exact ⟨_, _, rfl, .inr ⟨g, o, rfl, hc⟩, fun h => (by cases h), hl, hm, rfl⟩
theorem El.Row.kept {w w' : World} {v : Value} {l : List α} {S : List Nat} (h : E.Row w v l) (hk : Kp S w w') (hn : ∀ k ∈ own v, k ∉ S) : E.Row w' v l := by
  rcases h with h | ⟨g, o, cap, rfl, hl, hm, hg, hc, ht⟩
  · exact .inl h
  · have hgS : g ∉ S := hn g (by simp [own, Value.ownBlock])
    have e1 : ∀ j, w'.cell? ⟨g, o + j, none⟩ = w.cell? ⟨g, o + j, none⟩ := fun j => hk.cell (p := ⟨g, o + j, none⟩) hg hgS
    have e2 : ∀ j, w'.frozen? ⟨g, o + j, none⟩ = w.frozen? ⟨g, o + j, none⟩ := fun j => hk.frozen (p := ⟨g, o + j, none⟩) hg hgS
    exact .inr ⟨g, o, cap, rfl, hl, hm, Nat.lt_of_lt_of_le hg hk.size, fun j u hu => (e1 j).trans (hc j u hu), fun j hj => by rw [e1, e2]; exact ht j hj⟩
theorem El.Row.keptNew {w w' : World} {v : Value} {l : List α} (h : E.Row w v l) (hk : Kp [] w w') : E.Row w' v l := h.kept hk (by simp)

theorem grown_cellsG (w : World) (g : Nat) (xs : List Value) (z : Array Value) (h : g = w.heap.size) (t : TypeId) : ∀ j u, xs[j]? = some u → (w.alloc (.cells (xs.toArray ++ z) t)).cell? ⟨g, 0 + j, none⟩ = some u := by
  subst h
  intro j u hu
  have hj : j < xs.length := (List.getElem?_eq_some_iff.1 hu).1
  have e1 : (w.alloc (.cells (xs.toArray ++ z) t)).cell? ⟨w.heap.size, 0 + j, none⟩ = _ := World.cell?_alloc_new w _ _ (0 + j)
  rw [e1, Nat.zero_add, Array.getElem?_append_left (by simp only [List.size_toArray]; exact hj), List.getElem?_toArray, hu]

/-- An append of elements, out of whatever yields them, onto a row of the call's own. -/
theorem run_appendG {P : Program} (w : World) (t tx ty e : TypeId) (i : TypeInfo) (z : Value) (bytes : Nat) (ht : P.underlying t = some (.slice e)) (hi : P.info? e = some i) (hz : i.zero = some z) (hsize : i.size = E.n) (hby : i.bytes = bytes) (hzs : z.cells.size = E.n)
    (v : Value) (xs : List α) (hown : E.Row w v xs) (x : Value) (bs : List α) (hs : Src P E.n tx x bs.length (E.cs bs) w) (hb : (xs.length + bs.length + (xs.length + bs.length) / 4 + 192) * bytes ≤ 281474976710656) (h63 : xs.length + bs.length ≤ 100000000000000) :
    ∃ v' w', (Builtin.append_ #[t, tx] ty #[v, x]).run P w = .ok v' w' ∧ E.Row w' v' (xs ++ bs) ∧ Kp (own v) w w' ∧ ∀ k ∈ own v', k ∈ own v ∨ w.heap.size ≤ k := by
  have hs' := hs
  rw [← hsize] at hs'
  have grow : ∀ (ao : Option Addr) (cap : Nat), v = .slice ao xs.length cap → cap < xs.length + bs.length → (Builtin.firstCells i.size xs.length (.slice ao xs.length cap)).run P w.drew = .ok (E.cs xs).toArray w.drew →
      ∃ v' w', (Builtin.append_ #[t, tx] ty #[v, x]).run P w = .ok v' w' ∧ E.Row w' v' (xs ++ bs) ∧ Kp (own v) w w' ∧ ∀ k ∈ own v', k ∈ own v ∨ w.heap.size ≤ k := by
    rintro ao cap rfl hlt hold
    have hrun := run_append_grow_src (P := P) w t tx ty e i z ht hi hz ao xs.length cap (E.cs xs) hold x bs.length (E.cs bs) hs' hlt (by omega) (growslice_fits_wide hlt (by rw [hby]; exact hb))
    have hge := grownCap_ge w (xs.length + bs.length) cap e
    have hcm := grownCap_le_maxLen w (xs.length + bs.length) cap e (by unfold maxLen; omega)
    rw [← El.cs_append] at hrun
    refine ⟨_, _, hrun, .inr ⟨w.heap.size, 0, _, by rw [List.length_append], by rw [List.length_append]; omega, hcm, by simp, ?_, ?_⟩, (Kp.refl _ w).drew.alloc _, ?_⟩
    · exact grown_cellsG w.drew _ (E.cs (xs ++ bs)) _ rfl _
    · intro j hj
      refine ⟨?_, World.frozen?_alloc_new w.drew _ _ (0 + j)⟩
      have e1 := World.cell?_alloc_new w.drew ((E.cs (xs ++ bs)).toArray ++ Builtin.zeroCells z.cells (grownCap w (xs.length + bs.length) cap e - (xs.length + bs.length))) e (0 + j)
      have hsz : ((E.cs (xs ++ bs)).toArray ++ Builtin.zeroCells z.cells (grownCap w (xs.length + bs.length) cap e - (xs.length + bs.length))).size = grownCap w (xs.length + bs.length) cap e * E.n := by
        rw [Array.size_append, List.size_toArray, El.cs_length, List.length_append, size_zeroCells, hzs, ← Nat.add_mul]
        congr 1
        omega
      refine (congrArg Option.isSome e1).trans ?_
      rw [Nat.zero_add, Array.getElem?_eq_getElem (by rw [hsz]; exact hj)]
      rfl
    · intro k hk
      simp [own, Value.ownBlock] at hk
      omega
  rcases hown with ⟨rfl, rfl⟩ | ⟨g, o, cap, rfl, hl, hm, hg, hc, ht'⟩
  · rcases Nat.eq_zero_or_pos bs.length with h0 | h0
    · obtain rfl : bs = [] := List.length_eq_zero_iff.1 h0
      exact ⟨_, _, run_append_nothing (P := P) w t tx ty e i ht hi none 0 0 (Nat.le_refl _) x hs', .inl ⟨rfl, rfl⟩, Kp.refl _ _, fun _ h => .inl h⟩
    · exact grow none 0 rfl (by simpa using h0) (run_firstCells_none w.drew i.size 0 0 0)
  · by_cases hroom : xs.length + bs.length ≤ cap
    · have hmul : (xs.length + bs.length) * E.n ≤ cap * E.n := Nat.mul_le_mul_right _ hroom
      rw [Nat.add_mul] at hmul
      have hsome : ∀ j, j < (E.cs bs).length → (w.cell? ⟨g, o + xs.length * i.size + j, none⟩).isSome = true := fun j hj => by
        rw [El.cs_length] at hj; rw [hsize, Nat.add_assoc]; exact (ht' _ (by omega)).1
      have hrun := run_append_room_src (P := P) w t tx ty e i ht hi g o xs.length cap x bs.length (E.cs bs) hs' hroom hsome
        (fun j hj => by rw [El.cs_length] at hj; rw [hsize, Nat.add_assoc]; exact (ht' _ (by omega)).2)
      rw [hsize] at hsome
      rw [hsize] at hrun
      refine ⟨_, _, hrun, .inr ⟨g, o, cap, by rw [List.length_append], by rw [List.length_append]; omega, hm, by rw [size_setCells]; exact hg, ?_, ?_⟩, (Kp.refl _ w).setCells (by simp [own, Value.ownBlock]) _ _, fun k hk => .inl hk⟩
      · intro j u hu
        rw [El.cs_append] at hu
        by_cases hj : j < (E.cs xs).length
        · rw [World.cell?_setCells_out g _ _ _ _ (fun _ _ => Or.inl (by show o + j < o + xs.length * E.n; rw [El.cs_length] at hj; omega))]
          rw [List.getElem?_append_left hj] at hu
          exact hc j u hu
        · rw [List.getElem?_append_right (by omega)] at hu
          have hj2 : j - (E.cs xs).length < (E.cs bs).length := (List.getElem?_eq_some_iff.1 hu).1
          have := World.cell?_setCells_in g (E.cs bs) (o + xs.length * E.n) w hsome (j - (E.cs xs).length) hj2
          rw [← List.getElem?_eq_getElem hj2, hu] at this
          rw [El.cs_length] at hj this
          rw [show o + xs.length * E.n + (j - xs.length * E.n) = o + j by omega] at this
          exact this
      · intro j hj
        refine ⟨?_, (World.frozen?_setCells g _ _ _ _).trans (ht' j hj).2⟩
        by_cases hin : xs.length * E.n ≤ j ∧ j < xs.length * E.n + (E.cs bs).length
        · have := World.cell?_setCells_in g (E.cs bs) (o + xs.length * E.n) w hsome (j - xs.length * E.n) (by omega)
          rw [show o + xs.length * E.n + (j - xs.length * E.n) = o + j by omega] at this
          rw [this]; rfl
        · rw [World.cell?_setCells_out g _ _ _ _ (fun _ _ => by show o + j < o + xs.length * E.n ∨ o + xs.length * E.n + (E.cs bs).length ≤ o + j; omega)]
          exact (ht' j hj).1
    · refine grow (some ⟨g, o, none⟩) cap rfl (by omega) ?_
      exact run_firstCells_some w.drew i.size xs.length ⟨g, o, none⟩ xs.length cap (E.cs xs) (by rw [El.cs_length, hsize]) (fun j u hu => by rw [Addr.add_lit]; exact hc j u hu)

/-- .. for the walk. -/
theorem wpAppG {P : Program} {w : World} {ops : Array Oper} {rest : List Oper} {o : Oper} {a : Act} {Q : Exit → Act → World → Prop} (hgd : o.guard = none) (s x : Operand) (t tx e : TypeId)
    (ho : o.op = .call { callee := .builtin .append, args := #[s, x], argTypes := #[t, tx] })
    (i : TypeInfo) (z : Value) (bytes : Nat) (ht : P.underlying t = some (.slice e)) (hi : P.info? e = some i) (hz : i.zero = some z) (hsize : i.size = E.n) (hby : i.bytes = bytes) (hzs : z.cells.size = E.n)
    (v : Value) (xs : List α) (hv : a.eval s = v) (hown : E.Row w v xs) (xv : Value) (bs : List α) (hx : a.eval x = xv) (hs : Src P E.n tx xv bs.length (E.cs bs) w) (hb : (xs.length + bs.length + (xs.length + bs.length) / 4 + 192) * bytes ≤ 281474976710656) (h63 : xs.length + bs.length ≤ 100000000000000)
    (hK : ∀ l' a' c' w', Hid (l' = xs ++ bs) → E.Row w' (.slice a' l'.length c') l' → Kp (own v) w w' → (∀ k ∈ blk a', k ∈ own v ∨ w.heap.size ≤ k) → wpList P ops Q rest (a.put o.dst (.slice a' l'.length c')) w') : wpList P ops Q (o :: rest) a w := by
  refine wpList_plain hgd fun K hK' => ?_
  obtain ⟨v', w', hrun, h1, h2, h3⟩ := run_appendG (P := P) w t tx o.type e i z bytes ht hi hz hsize hby hzs v xs hown xv bs hs hb h63
  obtain ⟨l', hl'⟩ : ∃ l', l' = xs ++ bs := ⟨_, rfl⟩
  rw [← hl'] at h1
  obtain ⟨a', c', rfl, _, _, _, _, eo⟩ := h1.see
  have hfin := hK' _ _ (hK l' a' c' w' hl' h1 h2 (fun k hk => h3 k (by rw [eo]; exact hk)))
  unfold Oper.wp
  simp [execOp, ho, resolve, invoke, builtin, hv, hx, hrun, Result.andThen]
  exact hfin
end
theorem run_copyG {P : Program} (w : World) (dT sT ty elem : TypeId) (i : TypeInfo) (hu : P.underlying dT = some (.slice elem)) (hi : P.info? elem = some i) (b o dLen dCap : Nat) (a : Addr) (sLen sCap : Nat) (hsd : sLen ≤ dLen) (cs : List Value)
    (hn : cs.length = sLen * i.size) (hsrc : ∀ j v, cs[j]? = some v → w.cell? (a.add j) = some v) (hc : ∀ j, j < cs.length → (w.cell? ⟨b, o + j, none⟩).isSome = true) (hf : ∀ j, j < cs.length → w.frozen? ⟨b, o + j, none⟩ = false) (h1 : ∀ v ∈ cs, v.oneCell' = true) :
    (Builtin.copy_ #[dT, sT] ty #[.slice (some ⟨b, o, none⟩) dLen dCap, .slice (some a) sLen sCap]).run P w = .ok (goInt sLen) (w.setCells b o cs) := by
  have hl := run_loadCells_list (P := P) w a cs hsrc
  have hst := run_storeCells_cells (P := P) b o cs 0 w (by simpa using hc) (by simpa using hf) h1
  simp only [Nat.add_zero] at hst
  have hmin : Nat.min sLen dLen = sLen := Nat.min_eq_left hsd
  simp [Builtin.copy_, run_underlying hu, Builtin.lenOf, Builtin.firstCells, sizeOf, typeInfo, hi, hmin, ← hn, hl, hst]
/-- An append, or a copy, whose run is known, at a step of a region that draws its order. -/
theorem stepAppRun {P : Program} {w w' : World} {ops : Array Oper} {o : Oper} {a : Act} {K : Act → World → Prop} {Q : Exit → Act → World → Prop} {E : Prop} (hgd : o.guard = none) (s x : Operand) (t tx : TypeId)
    (ho : o.op = .call { callee := .builtin .append, args := #[s, x], argTypes := #[t, tx] }) (v xv v' : Value) (hv : a.eval s = v) (hx : a.eval x = xv)
    (hrun : (Builtin.append_ #[t, tx] o.type #[v, xv]).run P w = .ok v' w') (h : K (a.put o.dst v') w') : if Region.wanted o (yielded ops a.tmps) = true then Oper.wp P o a w K Q else E := by
  have hw : Region.wanted o (yielded ops a.tmps) = true := by simp [Region.wanted, hgd]
  rw [if_pos hw]
  unfold Oper.wp execOp
  simp only [ho, resolve, invoke, builtin, Sem.run_bind, Sem.run_pure, Result.andThen_ok, List.map_toArray, List.map_cons, List.map_nil, hv, hx, hrun]
  exact h
theorem stepCpyRun {P : Program} {w w' : World} {ops : Array Oper} {o : Oper} {a : Act} {K : Act → World → Prop} {Q : Exit → Act → World → Prop} {E : Prop} (hgd : o.guard = none) (s x : Operand) (t tx : TypeId)
    (ho : o.op = .call { callee := .builtin .copy, args := #[s, x], argTypes := #[t, tx] }) (v xv v' : Value) (hv : a.eval s = v) (hx : a.eval x = xv)
    (hrun : (Builtin.copy_ #[t, tx] o.type #[v, xv]).run P w = .ok v' w') (h : K (a.put o.dst v') w') : if Region.wanted o (yielded ops a.tmps) = true then Oper.wp P o a w K Q else E := by
  have hw : Region.wanted o (yielded ops a.tmps) = true := by simp [Region.wanted, hgd]
  rw [if_pos hw]
  unfold Oper.wp execOp
  simp only [ho, resolve, invoke, builtin, Sem.run_bind, Sem.run_pure, Result.andThen_ok, List.map_toArray, List.map_cons, List.map_nil, hv, hx, hrun]
  exact h
end Go.Hay
end

section
namespace Go.Proofs.YtpkoikennimonaaGreatDoor
open Go.ChangeShapes Go.WideShapes Go.ChangeAt Go.RowKit Go.Hay
set_option linter.unusedVariables false

theorem Tryz.own : ownKnob Tryz.prog.godebug = none := by kernel_rfl
theorem Tryz.laidOut : laidOutB Tryz.prog = true := by kernel_rfl

/-- How many values a slice's datum holds, its spare places too. -/
def capD {H : Type} : DataW H → Nat
  | .slice e sp => e.length + sp.length
  | _ => 0
theorem bulk_pos {H : Type} (d : DataW H) : 1 ≤ Rows.uptoBulk d := by
  cases d with
  | lit l => cases l <;> simp [Rows.uptoBulk]
  | _ => simp [Rows.uptoBulk]
theorem bulkAll_ge {H : Type} (l : List (DataW H)) : l.length ≤ Rows.uptoBulkAll l := by
  induction l with
  | nil => simp
  | cons d l ih => have := bulk_pos d; simp only [Rows.uptoBulkAll, List.length_cons]; omega
theorem bulk_cap {H : Type} (d : DataW H) : capD d + 1 ≤ Rows.uptoBulk d := by
  cases d with
  | slice e sp => have := bulkAll_ge e; have := bulkAll_ge sp; simp only [capD, Rows.uptoBulk]; omega
  | lit l => cases l <;> simp [capD, Rows.uptoBulk]
  | _ => simp [capD, Rows.uptoBulk]
theorem bulkAll_map {H : Type} (n : Nat) (D : Nat → DataW H) (f : Nat → Nat) (h : ∀ i, i < n → f i ≤ Rows.uptoBulk (D i)) : ((List.range n).map f).sum ≤ Rows.uptoBulkAll ((List.range n).map D) := by
  have gen : ∀ l : List Nat, (∀ i ∈ l, f i ≤ Rows.uptoBulk (D i)) → (l.map f).sum ≤ Rows.uptoBulkAll (l.map D) := by
    intro l
    induction l with
    | nil => intro _; simp
    | cons i l ih =>
      intro hl
      have h1 := hl i (by simp)
      have h2 := ih (fun j hj => hl j (by simp [hj]))
      simp only [List.map_cons, List.sum_cons, Rows.uptoBulkAll]
      omega
  exact gen _ (fun i hi => h i (List.mem_range.1 hi))
theorem mem_weightsAll {H : Type} {P : Program} {e : TypeId} {l : List (DataW H)} {d : DataW H} (hd : d ∈ l) {x : Nat} (hx : x ∈ d.weights P e) : x ∈ DataW.weightsAll P e l := by
  induction l with
  | nil => cases hd
  | cons y l ih =>
    rw [DataW.weightsAll, List.mem_append]
    rcases List.mem_cons.1 hd with rfl | h
    · exact .inl hx
    · exact .inr (ih h)
/-- Within the form's reach. -/
def Fit {H : Type} (t : TypeId) (d : DataW H) : Prop := (DataW.weights Tryz.prog t d).all (· ≤ reachBytes) = true

theorem openEls {α : Type} [Inhabited α] (E : El α) {t e : TypeId} (ht : Tryz.prog.underlying t = some (.slice e)) (hcells : Tryz.prog.cellsOf e = E.n) (B : Nat) (hB : Tryz.prog.bytesOf e = B)
    {H : Type} {enc : TypeId × Value → H} {W : World} (ok : α → Prop) (Q : α → Prop) (bk : α → Nat)
    (op : ∀ fuel cs x, DataW.trod enc Tryz.prog W 0 (fun _ => true) true fuel e cs = some x → cs.length = E.n → ∃ y : α, ok y ∧ cs = E.c y ∧ (Fit e x.1 → Q y) ∧ bk y ≤ Rows.uptoBulk x.1)
    {a : Option Addr} {len cap : Nat} {d : DataW H} {ps : List MemPlace} (h : DataW.Trod enc Tryz.prog W 0 (fun _ => true) true t (.slice a len cap) d ps) :
    ∃ l : List α, len = l.length ∧ E.See W a l ∧ (∀ y ∈ l, ok y) ∧ l.length ≤ cap ∧ cap ≤ maxLen ∧ (a = none → cap = 0) ∧ (Fit t d → cap * B ≤ 140737488351232 ∧ ∀ y ∈ l, Q y) ∧ (l.map bk).sum ≤ Rows.uptoBulk d ∧ cap + 1 ≤ Rows.uptoBulk d := by
  obtain ⟨fuel, hf⟩ := h
  rcases Go.Deep.open_slice ht hf with ⟨hcs, hx⟩ | ⟨x, len', cap', m, n, D, Pl, hcs, _, hl, hmx, hm, hx, hcell⟩
  · simp [Value.cells] at hcs
    obtain ⟨rfl, rfl, rfl⟩ := hcs
    cases hx
    exact ⟨[], rfl, .inl rfl, by simp, Nat.le_refl _, Nat.zero_le _, fun _ => rfl, fun _ => ⟨by omega, by simp⟩, by simp, by simp [Rows.uptoBulk]⟩
  · simp [Value.cells] at hcs
    obtain ⟨rfl, rfl, rfl⟩ := hcs
    cases hx
    have hm' : m = cap := by simpa using hm
    subst hm'
    rw [hcells] at hcell
    obtain ⟨Y, hY⟩ := Go.Deep.choose_lt (α := α) (n := len) (p := fun i y => ok y ∧ (∀ k u, (E.c y)[k]? = some u → W.cell? ((x.add (i * E.n)).add k) = some u) ∧ (Fit e (D i) → Q y) ∧ bk y ≤ Rows.uptoBulk (D i)) (fun i hi => by
      obtain ⟨cs', h1, h2⟩ := hcell i (by omega)
      obtain ⟨_, hlen, hc⟩ := World.cells?_some h1
      obtain ⟨y, g1, rfl, g2, g3⟩ := op _ _ _ h2 hlen
      refine ⟨y, g1, fun k u hu => ?_, g2, g3⟩
      have hk : k < E.n := by have := (List.getElem?_eq_some_iff.1 hu).1; rwa [E.len] at this
      exact (hc k hk).trans hu)
    refine ⟨(List.range len).map Y, by simp, ?_, ?_, by simpa using hl, hmx, fun h => (by cases h), fun hfit => ?_, ?_, ?_⟩
    · cases hlen : len with
      | zero => exact .inl rfl
      | succ k =>
        obtain ⟨b, off, spot⟩ := x
        have h0 : 0 < (E.c (Y 0)).length := by rw [E.len]; exact E.pos
        have hc0 := (hY 0 (by omega)).2.1 0 _ (List.getElem?_eq_getElem h0)
        have hspot : spot = none := by
          have := World.cell?_spot hc0
          simpa [Addr.add] using this
        subst hspot
        refine .inr ⟨b, off, rfl, fun j u hu => ?_⟩
        rw [← hlen] at hu
        have hj : j < ((List.range len).map Y).length * E.n := by have := (List.getElem?_eq_some_iff.1 hu).1; rwa [El.cs_length] at this
        have hpos := E.pos
        have hq : j / E.n < len := by
          rw [List.length_map, List.length_range] at hj
          exact Nat.div_lt_of_lt_mul (by rw [Nat.mul_comm]; exact hj)
        have hr : j % E.n < E.n := Nat.mod_lt _ hpos
        have hje : j = j / E.n * E.n + j % E.n := by rw [Nat.mul_comm]; exact (Nat.div_add_mod j E.n).symm
        have hget : ((List.range len).map Y)[j / E.n]? = some (Y (j / E.n)) := by rw [List.getElem?_map, List.getElem?_range hq]; rfl
        rw [hje, El.cs_get E hget hr] at hu
        have hcc := (hY _ hq).2.1 _ _ hu
        rw [Addr.add_lit, Addr.add_lit, Nat.add_assoc, ← hje] at hcc
        exact hcc
    · intro y hy
      obtain ⟨i, hi, rfl⟩ := List.mem_map.1 hy
      exact (hY i (List.mem_range.1 hi)).1
    · unfold Fit at hfit
      simp only [DataW.weights, ht] at hfit
      rw [List.all_cons, Bool.and_eq_true] at hfit
      refine ⟨?_, fun y hy => ?_⟩
      · have := of_decide_eq_true hfit.1
        simp only [List.length_map, List.length_range, hB, reachBytes] at this
        rwa [show len + (m - len) = m by omega] at this
      · obtain ⟨i, hi, rfl⟩ := List.mem_map.1 hy
        refine (hY i (List.mem_range.1 hi)).2.2.1 (List.all_eq_true.2 fun x hx => List.all_eq_true.1 hfit.2 x ?_)
        rw [List.mem_append]
        exact .inl (mem_weightsAll (List.mem_map_of_mem hi) hx)
    · have := bulkAll_map len D (fun i => bk (Y i)) (fun i hi => (hY i hi).2.2.2)
      simp only [List.map_map, Rows.uptoBulk]
      have e : (List.range len).map (bk ∘ Y) = (List.range len).map (fun i => bk (Y i)) := rfl
      rw [e]
      omega
    · have := bulk_cap (.slice ((List.range len).map D) ((List.range (m - len)).map fun j => D (len + j)) : DataW H)
      simp only [capD, List.length_map, List.length_range] at this
      omega

/-- A byte. -/
def ByteE : El UInt8 where
  n := 1
  c x := [.int .u8 x.toNat]
  len _ := rfl
  one _ u hu := by simp at hu; subst hu; rfl
  pos := by decide
theorem byteCs (l : List UInt8) : ByteE.cs l = bcells l := by
  induction l with
  | nil => rfl
  | cons x l ih => rw [El.cs_cons, ih]; rfl
theorem byteSee {w : World} {a : Option Addr} {l : List UInt8} (h : ByteE.See w a l) : Sees w a l := by
  rcases h with h | ⟨g, o, rfl, hc⟩
  · exact .inl h
  · refine .inr ⟨g, o, rfl, fun j u hu => hc j _ ?_⟩
    rw [byteCs, bcells_get, hu]
    rfl
/-- A slice of bytes, and what it sees. -/
structure Bs where
  a : Option Addr
  c : Nat
  bs : List UInt8
def Bs.v (x : Bs) : Value := .slice x.a x.bs.length x.c
structure Bs.ok (w : World) (x : Bs) : Prop where
  see : Sees w x.a x.bs
  cap : x.bs.length ≤ x.c
  nil : x.a = none → x.c = 0
theorem Bs.ok.kept {w w' : World} {x : Bs} {S : List Nat} (h : x.ok w) (hk : Kp S w w') (hn : x.bs ≠ [] → ∀ k ∈ blk x.a, k ∉ S) : x.ok w' := ⟨h.see.kept' hk hn, h.cap, h.nil⟩
theorem Bs.ok.keptNew {w w' : World} {x : Bs} (h : x.ok w) (hk : Kp [] w w') : x.ok w' := h.kept hk (by simp)
instance : Inhabited Bs := ⟨⟨none, 0, []⟩⟩
theorem cellsB : Tryz.prog.cellsOf 5 = 1 := by kernel_rfl
theorem bytesB : Tryz.prog.bytesOf 5 = 1 := by kernel_rfl
theorem cellsI : Tryz.prog.cellsOf 3 = 1 := by kernel_rfl
theorem cellsS : Tryz.prog.cellsOf 45 = 1 := by kernel_rfl
theorem bytesS : Tryz.prog.bytesOf 45 = 24 := by kernel_rfl
def Few (x : Bs) : Prop := x.bs.length ≤ 140737488351232
section
variable {H : Type} {enc : TypeId × Value → H} {W : World}
theorem openByt {fuel : Nat} {v : Value} {x : DataW H × List MemPlace} (h : DataW.trod enc Tryz.prog W 0 (fun _ => true) true fuel 45 [v] = some x) :
    ∃ y : Bs, y.ok W ∧ v = y.v ∧ (Fit 45 x.1 → Few y) ∧ y.bs.length + 1 ≤ Rows.uptoBulk x.1 := by
  have hv : ∃ a len cap, v = .slice a len cap := by
    rcases Go.Deep.open_slice Tryz.underlying45 h with ⟨hcs, _⟩ | ⟨a, len, cap, _, _, _, _, hcs, _⟩
    · exact ⟨none, 0, 0, by simpa using hcs⟩
    · exact ⟨_, _, _, by simpa using hcs⟩
  obtain ⟨a, len, cap, rfl⟩ := hv
  obtain ⟨l, rfl, hs, _, hl, hm, hn, hfit, _, hbk⟩ := openEls ByteE Tryz.underlying45 cellsB 1 bytesB (fun _ => True) (fun _ => True) (fun _ => 0)
    (fun fuel cs x hx hcs => by
      obtain ⟨n, rfl, _, hw⟩ := DataW.trod_int Tryz.underlying5 hx
      have hb := bounds_u8 hw
      exact ⟨octet n, trivial, by simp [ByteE]; exact (octet_toNat _ hb.1 hb.2).symm, fun _ => trivial, Nat.zero_le _⟩) (d := x.1) (ps := x.2) ⟨fuel, h⟩
  refine ⟨⟨a, cap, l⟩, ⟨byteSee hs, hl, hn⟩, rfl, fun hf => ?_, ?_⟩
  · have := (hfit hf).1
    unfold Few
    simp only
    omega
  · simp only
    omega
/-- A number among the arguments' cells. -/
theorem openI {fuel : Nat} {v : Value} {x : DataW H × List MemPlace} (h : DataW.trod enc Tryz.prog W 0 (fun _ => true) true fuel 3 [v] = some x) : ∃ n : Int, v = .int .i64 n ∧ -9223372036854775808 ≤ n ∧ n ≤ 9223372036854775807 := by
  obtain ⟨n, e, _, hw⟩ := DataW.trod_int Tryz.underlying3 h
  have hb := bounds_i64 hw
  exact ⟨n, by simpa using e, hb.1, hb.2⟩
end
end Go.Proofs.YtpkoikennimonaaGreatDoor
end

section
namespace Go.Proofs.YtpkoikennimonaaGreatDoor
open Go.RowKit Go.Hay
set_option linter.unusedVariables false
set_option linter.unusedSimpArgs false
def BsE : El Bs where
  n := 1
  c x := [.slice x.a x.bs.length x.c]
  len _ := rfl
  one _ u hu := by simp at hu; subst hu; rfl
  pos := by decide
theorem bsAt {w : World} {a : Option Addr} {l : List Bs} (h : BsE.See w a l) {k : Nat} {x : Bs} (hx : l[k]? = some x) : ∃ g o, a = some ⟨g, o, none⟩ ∧ w.cell? ⟨g, o + k, none⟩ = some (.slice x.a x.bs.length x.c) := by
  obtain ⟨g, o, e, hc⟩ := h.at hx
  refine ⟨g, o, e, ?_⟩
  have := hc 0 _ rfl
  simpa [BsE] using this
/-- What is told of them. -/
def bsl (l : List Bs) : List (List UInt8) := l.map (·.bs)
theorem bsl_len (l : List Bs) : (bsl l).length = l.length := by simp [bsl]
theorem bsl_get {l : List Bs} {k : Nat} (h : k < l.length) : (bsl l)[k]'(by simpa [bsl] using h) = l[k].bs := by simp [bsl]
end Go.Proofs.YtpkoikennimonaaGreatDoor
end

section
namespace Go.Proofs.YtpkoikennimonaaGreatDoor
open Go.RowKit Go.Hay
set_option linter.unusedVariables false
set_option linter.unusedSimpArgs false

/-- The texts of the first ones. -/
def txB (l : List (List UInt8)) : List UInt8 := l.flatMap textB
theorem txB_snoc (l : List (List UInt8)) (k : Nat) (h : k < l.length) : txB (l.take (k + 1)) = txB (l.take k) ++ textB l[k] := by
  unfold txB
  rw [List.take_succ_eq_append_getElem h, List.flatMap_append]
  simp only [List.flatMap_cons, List.flatMap_nil, List.append_nil]
theorem txB_split (l : List (List UInt8)) (k : Nat) (h : k < l.length) : txB l = txB (l.take k) ++ (textB l[k] ++ txB (l.drop (k + 1))) := by
  have e : l = l.take k ++ l[k] :: l.drop (k + 1) := by rw [← List.drop_eq_getElem_cons h, List.take_append_drop]
  conv => lhs; rw [e]
  unfold txB
  rw [List.flatMap_append, List.flatMap_cons]
theorem textB_len (b : List UInt8) : b.length + 1 ≤ (textB b).length ∧ (textB b).length ≤ b.length + 9 := by
  have := varB_length b.length
  unfold textB
  rw [List.length_append]
  omega
/-- New bytes, and an error. -/
def FrP (r : List UInt8 × Int) (w : World) (e : Ending) (w' : World) : Prop := ∃ b c, e = .returned (.tuple #[.slice b r.1.length c, .int .i64 r.2]) ∧ Row w' (.slice b r.1.length c) r.1 ∧ Kp [] w w' ∧ ∀ k ∈ blk b, w.heap.size ≤ k
theorem FrP.none {w w' : World} (k : Kp [] w w') (e : Int) : FrP ([], e) w (.returned (.tuple #[.slice none 0 0, .int .i64 e])) w' := ⟨Option.none, 0, rfl, Row.nil _, k, by simp [blk]⟩

set_option maxHeartbeats 8000000 in
set_option maxRecDepth 100000 in
theorem cFrames (a : Option Addr) (c : Nat) (L : List Bs) (w : World) (ht : Tab w) (hs : BsE.See w a L) (hok : ∀ y ∈ L, y.ok w) (hl : L.length ≤ 6000000000000) :
    Calls Tryz.prog 31 #[.slice a L.length c] w (FrP (frmR (bsl L)) w) := by
  obtain ⟨F, hF⟩ : ∃ F, Hid (frmR (bsl L) = F) := ⟨_, rfl⟩
  rw [hF.out]
  have hlong : Hid (16777216 < (recB (bsl L)).length → F = ([], 90)) := fun h => by rw [← hF.out, frmR, if_neg (by omega)]
  have hshort : Hid ((recB (bsl L)).length ≤ 16777216 → F = (frameB (recB (bsl L)), 0)) := fun h => by rw [← hF.out, frmR, if_pos h]
  have hcell : Hid (∀ (j : Nat) (h : j < L.length) (W : World), Kp [] w W → ∃ g o, a = some ⟨g, o, none⟩ ∧ W.cell? ⟨g, o + j, none⟩ = some (.slice L[j].a L[j].bs.length L[j].c) ∧ Sees W L[j].a L[j].bs ∧ (L[j].bs ≠ [] → ∀ k ∈ blk L[j].a, k < w.heap.size)) := fun j h W k => by
    obtain ⟨g, o, e, hc⟩ := bsAt hs (k := j) (x := L[j]) (by simp [h])
    exact ⟨g, o, e, (k.cell (p := ⟨g, o + j, none⟩) (World.block_lt_of_cell? _ _ hc) (by simp)).trans hc, (hok _ (List.getElem_mem h)).see.kept k (by simp), fun hb => (hok _ (List.getElem_mem h)).see.lt hb⟩
  have ht' := hid ht
  have hcu : IntKind.u64.wrap (L.length : Int) = (L.length : Int) := by rw [IntKind.wrap_u64]; omega
  clear hF hs hok ht
  go_enter Tryz.func31, Tryz.ntmps31
  go_wp2_with fail
  refine (wNew w).mono ?_
  rintro e w1 ⟨p, rfl, hp, hw1, k1⟩
  have hpw : w.heap.size ≤ p := by omega
  have hV := wVar p _ _ (L.length : Int) w1 hw1 (by simp) (by omega) (by omega)
  have H1 := hid k1
  clear hw1 k1 hp
  go_wp2_with fail
  refine hV.mono ?_
  rintro e w2 ⟨rfl, v2, hw2, hr2⟩
  obtain ⟨k2, ho2⟩ := stepW H1.out hpw (by simp [own, Value.ownBlock]) hr2
  rw [List.nil_append] at hw2
  have hI0 := hid (And.intro hw2 (And.intro k2 ho2))
  clear hV hw2 hr2 k2 ho2 H1
  go_wp2_with fail
  go_loopw [6, 17] (fun _ i wn => ∃ (j : Nat) (v : Value), j ≤ L.length ∧ i = .int .i64 j ∧ Hid (Wr wn p v (varB L.length ++ txB ((bsl L).take j)) ∧ Kp [] w wn ∧ ∀ k ∈ own v, w.heap.size ≤ k) ∧ (varB L.length ++ txB ((bsl L).take j)).length ≤ 16777300) (fun _ i _ => L.length - (intOf i).toNat)
  case atStart => exact ⟨0, v2, Nat.zero_le _, rfl, by simpa [txB] using hI0, by have := (varB_length L.length).1; simp [txB]; omega⟩
  case round =>
    obtain ⟨j, v, hj, rfl, HI, hle⟩ := hrel
    clear hI0
    by_cases hlt : j < L.length
    · obtain ⟨T, hT⟩ : ∃ T, Hid (varB L.length ++ txB ((bsl L).take j) = T) := ⟨_, rfl⟩
      rw [hT.out] at HI hle
      have kW := HI.out.2.1
      obtain ⟨g, o, ea, cL, hsee, hblt0⟩ := hcell.out j hlt _ kW
      have hblt := hid hblt0
      have hsn := txB_snoc (bsl L) j (by rw [bsl_len]; exact hlt)
      have hsp := txB_split (bsl L) j (by rw [bsl_len]; exact hlt)
      rw [bsl_get hlt] at hsn hsp
      obtain ⟨Y, hY⟩ : ∃ Y, L[j] = Y := ⟨_, rfl⟩
      rw [hY] at cL hsee hsn hsp hblt
      clear hblt0
      obtain ⟨ya, yc, ybs⟩ := Y
      dsimp only at cL hsee hsn hsp hblt
      have hrl : Hid ((recB (bsl L)).length = T.length + ((textB ybs).length + (txB ((bsl L).drop (j + 1))).length)) := by
        show _ = _
        rw [← hT.out]
        show (varB (bsl L).length ++ txB (bsl L)).length = _
        rw [bsl_len, hsp]
        simp only [List.length_append]
        omega
      have hT2 : Hid (varB L.length ++ txB ((bsl L).take (j + 1)) = T ++ textB ybs) := by
        show _ = _
        rw [hsn, ← List.append_assoc, hT.out]
      clear hsn hsp hY
      subst ea
      have dj1 : (j : Int) < (L.length : Int) := by omega
      have dj0 : (0 : Int) ≤ (j : Int) := by omega
      have hLn := wLen p v T _ HI.out.1
      have htl := textB_len ybs
      clear kW
      go_wp2_with fail
      refine hLn.mono ?_
      rintro e w3 ⟨rfl, rfl⟩
      have dn1 : (-9223372036854775808 : Int) ≤ 16777216 - (T.length : Int) := by omega
      have dn2 : 16777216 - (T.length : Int) ≤ 9223372036854775807 := by omega
      by_cases hgt : (16777216 : Int) - (T.length : Int) < (ybs.length : Int)
      · have hF0 := hlong.out (by rw [hrl.out]; omega)
        subst hF0
        clear hlong hshort hT hT2 hLn
        go_wp2_with fail
        go_ret2
        exact FrP.none HI.out.2.1 90
      · have dg : decide ((16777216 : Int) - (T.length : Int) < (ybs.length : Int)) = false := by simpa using hgt
        have hTx := wText p v T ya ybs.length yc ybs _ HI.out.1 hsee rfl (by omega) (fun hb k hk hm => by have := hblt.out hb k hk; rcases List.mem_cons.1 hm with rfl | hm; omega; have := HI.out.2.2 k hm; omega)
        clear hLn hsee
        go_wp2_with fail
        refine hTx.mono ?_
        rintro e w4 ⟨rfl, v4, hw4, hr4⟩
        obtain ⟨k4, ho4⟩ := stepW HI.out.2.1 hpw HI.out.2.2 hr4
        have H4 := hid (And.intro hw4 (And.intro k4 ho4))
        clear hTx hw4 hr4 k4 ho4 HI
        go_wp2_with fail
        go_roundw
        case rel => exact ⟨j + 1, v4, by omega, by simp, by rw [hT2.out]; exact H4, by rw [hT2.out, List.length_append]; omega⟩
        case measure => simp [intOf]; omega
    · have hjl : (bsl L).take j = bsl L := List.take_of_length_le (by rw [bsl_len]; omega)
      rw [hjl] at HI hle
      have e0 : varB L.length ++ txB (bsl L) = recB (bsl L) := by unfold recB txB; rw [bsl_len]
      rw [e0] at HI hle
      obtain ⟨T, hT⟩ : ∃ T, Hid (recB (bsl L) = T) := ⟨_, rfl⟩
      rw [hT.out] at HI hle hlong hshort
      have dj2 : decide ((j : Int) < (L.length : Int)) = false := by simp; omega
      have hB := wBytes p v T _ HI.out.1 (by omega)
      clear e0 hjl
      go_wp2_with fail
      refine hB.mono ?_
      rintro e w3 ⟨v3, rfl, hr3, k3, hn3⟩
      obtain ⟨a3, c3, rfl, hs3, _⟩ := hr3.sees
      have kW3 := HI.out.2.1.trans k3 (by simp)
      by_cases hlg : T.length ≤ 16777216
      · have hF0 := hshort.out hlg
        have hFm := cFrame a3 T.length c3 T w3 (ht'.out.kept kW3 (by simp)) hs3 rfl hlg
        have HH := hid kW3
        clear hB hr3 k3 hn3 hs3 kW3 hlong hshort HI
        go_wp2_with fail
        refine hFm.mono ?_
        rintro e w5 ⟨v5, rfl, hr5, k5, hn5⟩
        obtain ⟨a5, c5, rfl, hs5, ho5⟩ := hr5.sees
        have hfin := hid (And.intro hr5 (And.intro (HH.out.trans k5 (by simp)) (fun q (hq : q ∈ blk a5) => by have := hn5 q (by rw [ho5]; exact hq); have := HH.out.size; omega : ∀ q ∈ blk a5, w.heap.size ≤ q)))
        subst hF0
        clear hFm hr5 k5 hn5 hs5 ho5
        go_wp2_with fail
        go_ret2
        exact ⟨a5, c5, rfl, hfin.out.1, hfin.out.2.1, hfin.out.2.2⟩
      · have hF0 := hlong.out (by omega)
        subst hF0
        have hFm := cFrameLong a3 T.length c3 T w3 rfl (by omega)
        have HH := hid kW3
        clear hB hr3 k3 hn3 hs3 kW3 hlong hshort HI
        go_wp2_with fail
        refine hFm.mono ?_
        rintro e w5 ⟨rfl, rfl⟩
        clear hFm
        go_wp2_with fail
        go_ret2
        exact FrP.none HH.out 90
end Go.Proofs.YtpkoikennimonaaGreatDoor
end

section
namespace Go.Proofs.YtpkoikennimonaaGreatDoor
open Go.RowKit Go.Hay Go.Shelf
attribute [local go_sem] Oper.semAt_some
set_option linter.unusedVariables false
set_option linter.unusedSimpArgs false

theorem rowLshape {n0 : Nat} {w : World} {v : Value} {L : List (List UInt8)} (h : RowL n0 w v L) : ∃ a c, v = .slice a L.length c := by
  obtain ⟨vs, hvl, hs, _⟩ := h
  rcases hs with ⟨rfl, rfl⟩ | ⟨g, o, cap, rfl, _⟩
  · simp at hvl; exact ⟨none, 0, by rw [← hvl]⟩
  · exact ⟨_, _, by rw [hvl]⟩
theorem cellsOf {W : World} {a : Addr} (h : (W.cell? a).isSome = true) : ∃ o : Obj, W.heap[a.block]? = some o ∧ o.isCells = true := by
  unfold World.cell? at h
  cases ho : W.heap[a.block]? with
  | none => rw [ho] at h; simp at h
  | some o => exact ⟨o, rfl, by rw [ho] at h; cases o <;> simp_all [Obj.isCells]⟩
theorem rowLcel {n0 : Nat} {W : World} {v : Value} {L : List (List UInt8)} (h : RowL n0 W v L) (h0 : L = [] → v = .slice none 0 0) : ∀ k ∈ own v, ∃ o : Obj, W.heap[k]? = some o ∧ o.isCells = true := by
  intro k hk
  obtain ⟨vs, hvl, hs, _⟩ := h
  rcases hs with ⟨rfl, _⟩ | ⟨g, o, cap, rfl, hl, _, _, _, ht⟩
  · simp [own, Value.ownBlock] at hk
  · cases L with
    | nil => have := h0 rfl; cases this
    | cons x L =>
      have hkg : k = g := by simpa [own, Value.ownBlock, eq_comm] using hk
      rw [hkg]
      exact cellsOf (a := ⟨g, o + 0, none⟩) (ht 0 (by simp at hvl; omega)).1
theorem keepsCel {S : List Nat} {W W' : World} (hk : Kp S W W') (hS : ∀ k ∈ S, ∃ o : Obj, W.heap[k]? = some o ∧ o.isCells = true) (B : Nat) : KeepsFrom B W W' :=
  ⟨hk.size, fun k o _ ho hc => (hk.block k (Array.getElem?_eq_some_iff.1 ho).1 (fun hm => by obtain ⟨o', ho', hc'⟩ := hS k hm; rw [ho] at ho'; cases ho'; rw [hc] at hc'; cases hc')).trans ho⟩
theorem keepsTurn {p : Nat} {D : List Nat} {most : Int} {s s' : St} {A B : World} (h : Turn p D most s s' A B) (n : Nat) (hp : p < n) : KeepsFrom n A B :=
  ⟨h.1.size, fun k o hk ho _ => (h.1.block k (Array.getElem?_eq_some_iff.1 ho).1 (by simp; omega)).trans ho⟩

end Go.Proofs.YtpkoikennimonaaGreatDoor
end

section
namespace Go.Proofs.YtpkoikennimonaaGreatDoor
open Go.RowKit Go.Hay
set_option linter.unusedVariables false
set_option linter.unusedSimpArgs false

/-- A row of rows of bytes of the call's own; all its blocks are of B. -/
def RowP (B : Nat → Prop) (w : World) (v : Value) (L : List (List UInt8)) : Prop := ∃ vs : List Value, vs.length = L.length ∧ RowS w v vs ∧ (∀ k ∈ own v, B k) ∧ ∀ (i : Nat) (x : Value) (o : List UInt8), vs[i]? = some x → L[i]? = some o → Row w x o ∧ ∀ k ∈ own x, B k ∧ k ∉ own v
theorem RowP.ofL {n0 : Nat} {w : World} {v : Value} {L : List (List UInt8)} (h : RowL n0 w v L) : RowP (fun k => n0 ≤ k) w v L := h
theorem RowP.toL {n0 : Nat} {w : World} {v : Value} {L : List (List UInt8)} (h : RowP (fun k => n0 ≤ k) w v L) : RowL n0 w v L := h
theorem RowP.nil (B : Nat → Prop) (w : World) : RowP B w (.slice none 0 0) [] := ⟨[], rfl, RowS.nil w, fun k hk => by simp [own, Value.ownBlock] at hk, fun i x o h => by simp at h⟩
theorem RowP.lt {B : Nat → Prop} {w : World} {v : Value} {L : List (List UInt8)} (h : RowP B w v L) : ∀ k ∈ own v, k < w.heap.size := by
  obtain ⟨vs, _, hs, _⟩ := h
  exact hs.lt
theorem RowP.from {B : Nat → Prop} {w : World} {v : Value} {L : List (List UInt8)} (h : RowP B w v L) : ∀ k ∈ own v, B k := by
  obtain ⟨vs, _, _, hf, _⟩ := h
  exact hf
theorem RowP.kept {B : Nat → Prop} {w w' : World} {v : Value} {L : List (List UInt8)} {S : List Nat} (h : RowP B w v L) (hk : Kp S w w') (hS : ∀ k ∈ S, ¬ B k) : RowP B w' v L := by
  obtain ⟨vs, hvl, hs, hfr, hel⟩ := h
  exact ⟨vs, hvl, hs.kept hk (fun k hk' hm => hS k hm (hfr k hk')), hfr, fun i x o hx ho => ⟨(hel i x o hx ho).1.kept hk (fun k hk' hm => hS k hm ((hel i x o hx ho).2 k hk').1), (hel i x o hx ho).2⟩⟩
/-- Another set that has all of its blocks. -/
theorem RowP.mono {B C : Nat → Prop} {w : World} {v : Value} {L : List (List UInt8)} (h : RowP B w v L) (hn : ∀ k, k < w.heap.size → B k → C k) : RowP C w v L := by
  obtain ⟨vs, hvl, hs, hfr, hel⟩ := h
  exact ⟨vs, hvl, hs, fun k hk => hn k (hs.lt k hk) (hfr k hk), fun i x o hx ho => ⟨(hel i x o hx ho).1, fun k hk => ⟨hn k ((hel i x o hx ho).1.lt k hk) ((hel i x o hx ho).2 k hk).1, ((hel i x o hx ho).2 k hk).2⟩⟩⟩
theorem rowPN {S : List Nat} {W W' : World} (hk : Kp S W W') (hn : NoC S W) {B : Nat → Prop} {v : Value} {L : List (List UInt8)} (h : RowP B W v L) : RowP B W' v L := by
  obtain ⟨vs, hvl, hs, hfr, hel⟩ := h
  exact ⟨vs, hvl, rowSN hk hn hs, hfr, fun i x o hx ho => ⟨rowN hk hn (hel i x o hx ho).1, (hel i x o hx ho).2⟩⟩
theorem rowPshape {B : Nat → Prop} {w : World} {v : Value} {L : List (List UInt8)} (h : RowP B w v L) : ∃ a c, v = .slice a L.length c := by
  obtain ⟨vs, hvl, hs, _⟩ := h
  rcases hs with ⟨rfl, rfl⟩ | ⟨g, o, cap, rfl, _⟩
  · simp at hvl; exact ⟨none, 0, by rw [← hvl]⟩
  · exact ⟨_, _, by rw [hvl]⟩
theorem rowPcel {B : Nat → Prop} {W : World} {v : Value} {L : List (List UInt8)} (h : RowP B W v L) (h0 : L = [] → v = .slice none 0 0) : ∀ k ∈ own v, ∃ o : Obj, W.heap[k]? = some o ∧ o.isCells = true := by
  intro k hk
  obtain ⟨vs, hvl, hs, _⟩ := h
  rcases hs with ⟨rfl, _⟩ | ⟨g, o, cap, rfl, hl, _, _, _, ht⟩
  · simp [own, Value.ownBlock] at hk
  · cases L with
    | nil => have := h0 rfl; cases this
    | cons x L =>
      have hkg : k = g := by simpa [own, Value.ownBlock, eq_comm] using hk
      rw [hkg]
      exact cellsOf (a := ⟨g, o + 0, none⟩) (ht 0 (by simp at hvl; omega)).1
/-- An append of one slice, as it runs. -/
theorem runAppendP {B : Nat → Prop} {w : World} {v : Value} {L : List (List UInt8)} (h : RowP B w v L) {xv : Value} {bs : List UInt8} (hr : Row w xv bs) (hd : ∀ k ∈ own xv, B k ∧ k ∉ own v) (hB : ∀ k, w.heap.size ≤ k → B k) {q : Nat} (hq : w.heap.size = q) (hb : L.length + 1 ≤ 5000000000000) (ty : TypeId) :
    ∃ v' w', (Builtin.append_ #[30, 30] ty #[v, .slice (some ⟨q, 0, none⟩) 1 1]).run Tryz.prog (w.alloc (.cells #[xv] 45)) = .ok v' w' ∧ RowP B w' v' (L ++ [bs]) ∧ Kp (own v) w w' ∧ ∀ k ∈ own v', k ∈ own v ∨ w.heap.size ≤ k := by
  subst hq
  obtain ⟨i, hi, hz, hz1, hz2⟩ := infoSl
  obtain ⟨vs, hvl, hs, hfr, hel⟩ := h
  have hkA : Kp (own v) w (w.alloc (.cells #[xv] 45)) := (Kp.refl _ _).alloc _
  have hsA := hs.kept (S := []) ((Kp.refl _ _).alloc (.cells #[xv] 45)) (by simp)
  have hsrc : Src Tryz.prog 1 30 (.slice (some ⟨w.heap.size, 0, none⟩) 1 1) [xv].length [xv] (w.alloc (.cells #[xv] 45)) := by
    refine Src.ofSlice _ Tryz.underlying30 ⟨w.heap.size, 0, none⟩ 1 1 [xv] rfl ?_ (by intro u hu; simp at hu; subst hu; exact rowOne hr)
    intro j u hu
    match j, hu with
    | 0, hu => cases hu; rw [Addr.add_lit]; exact World.cell?_alloc_new w _ _ 0
    | j + 1, hu => simp at hu
  obtain ⟨v', w', hrun, h1, h2, h3⟩ := run_appendS (P := Tryz.prog) _ 30 30 ty i Tryz.underlying30 hi hz hz1 hz2 v vs hsA _ [xv] hsrc (by simp; omega)
  have hkk : Kp (own v) w w' := hkA.trans h2 (fun x hx => .inl hx)
  have hnew : ∀ k ∈ own v', k ∈ own v ∨ w.heap.size ≤ k := by
    intro k hk
    rcases h3 k hk with h | h
    · exact .inl h
    · right; simp at h; omega
  refine ⟨v', w', hrun, ⟨vs ++ [xv], by simp [hvl], h1, fun k hk => (by rcases hnew k hk with h | h; exact hfr k h; exact hB k h), ?_⟩, hkk, hnew⟩
  intro j y ob hy hob
  have key : Row w y ob ∧ ∀ k ∈ own y, B k ∧ k ∉ own v := by
    by_cases hj : j < vs.length
    · rw [List.getElem?_append_left hj] at hy
      rw [List.getElem?_append_left (by omega)] at hob
      exact hel j y ob hy hob
    · rw [List.getElem?_append_right (by omega)] at hy
      rw [List.getElem?_append_right (by omega)] at hob
      have : j - vs.length = 0 := by have := (List.getElem?_eq_some_iff.1 hy).1; simp at this; omega
      rw [this] at hy
      rw [← hvl, this] at hob
      cases hy
      cases hob
      exact ⟨hr, hd⟩
  refine ⟨key.1.kept hkk (fun k hk => (key.2 k hk).2), fun k hk => ⟨(key.2 k hk).1, fun hm => ?_⟩⟩
  rcases hnew k hm with h | h
  · exact (key.2 k hk).2 h
  · have := key.1.lt k hk; omega
/-- .. for the fenced walk. -/
theorem wpAppendPIn {F : Fence} {n : Nat} {B : Nat → Prop} {w : World} {ops : Array Oper} {rest : List Oper} {o : Oper} {a : Act} {Q : Exit → Act → World → Prop} (hgd : o.guard = none) (s x : Operand)
    (ho : o.op = .call { callee := .builtin .append, args := #[s, x], argTypes := #[30, 30] })
    (v : Value) (L : List (List UInt8)) (hv : a.eval s = v) (h : RowP B w v L) (xv : Value) (bs : List UInt8) (hr : Row w xv bs) (hd : ∀ k ∈ own xv, B k ∧ k ∉ own v) (hB : ∀ k, w.heap.size ≤ k → B k)
    {q : Nat} (hq : w.heap.size = q) (hx : a.eval x = .slice (some ⟨q, 0, none⟩) 1 1) (hb : L.length + 1 ≤ 5000000000000)
    (hK : ∀ v' w', RowP B w' v' (L ++ [bs]) → Kp (own v) w w' → (∀ k ∈ own v', k ∈ own v ∨ w.heap.size ≤ k) → wpListIn F n Tryz.prog ops Q rest (a.put o.dst v') w') : wpListIn F n Tryz.prog ops Q (o :: rest) a (w.alloc (.cells #[xv] 45)) := by
  refine wpListIn_plain hgd fun K hK' => ?_
  obtain ⟨v', w', hrun, r1, r2, r3⟩ := runAppendP h hr hd hB hq hb o.type
  unfold Oper.wpIn
  refine ⟨?_, ?_⟩
  · simp [Oper.about, ho, resolve, Target.leads, Sem.run_pure]
  · rw [Oper.semAt_plain F _ _ (by rw [ho]; intro c hc'; cases hc')]
    simp [execOp, ho, resolve, invoke, builtin, hv, hx, hrun, Result.andThen]
    exact hK' _ _ (hK v' w' r1 r2 r3)
end Go.Proofs.YtpkoikennimonaaGreatDoor
end

section
namespace Go.Hay
open Go.RowKit
set_option linter.unusedVariables false
/-- The marks of ranges that are over. -/
def marks (Ds : List Nat) : List Deferred := Ds.map fun D => { target := .collected D, args := #[] }
/-- They stand, and none stands twice. -/
structure Mks (Ds : List Nat) (w : World) : Prop where
  nd : Ds.Nodup
  at_ : ∀ D ∈ Ds, w.heap[D]? = some (.deferred (some []))
theorem Mks.nil (w : World) : Mks [] w := ⟨List.nodup_nil, by simp⟩
theorem Mks.lt {Ds : List Nat} {w : World} (h : Mks Ds w) : ∀ D ∈ Ds, D < w.heap.size := fun D hD => (Array.getElem?_eq_some_iff.1 (h.at_ D hD)).1
theorem Mks.kept {Ds : List Nat} {w w' : World} {S : List Nat} (h : Mks Ds w) (hk : Kp S w w') (hS : ∀ D ∈ Ds, D ∉ S) : Mks Ds w' :=
  ⟨h.nd, fun D hD => (hk.block D (h.lt D hD) (hS D hD)).trans (h.at_ D hD)⟩
theorem Mks.cons {Ds : List Nat} {w : World} {D : Nat} (h : Mks Ds w) (hD : w.heap[D]? = some (.deferred (some []))) (hn : D ∉ Ds) : Mks (D :: Ds) w :=
  ⟨List.nodup_cons.2 ⟨hn, h.nd⟩, fun E hE => by rcases List.mem_cons.1 hE with rfl | hE; exact hD; exact h.at_ E hE⟩
/-- A block that holds cells is no mark. -/
theorem Mks.cell {Ds : List Nat} {w : World} (h : Mks Ds w) {a : Addr} (hc : (w.cell? a).isSome = true) : a.block ∉ Ds := fun hm => by
  have := h.at_ _ hm
  unfold World.cell? at hc
  rw [this] at hc
  simp at hc
theorem leaves_marks {F : Fence} {n : Nat} {P : Program} {fn : Func} {tmps : Array Value} {R : Ending → World → Prop} : ∀ (Ds : List Nat) (w : World), Mks Ds w →
    (∀ w', Kp Ds w w' → ∃ v, (results fn tmps).run P w' = .ok v w' ∧ R (.returned v) w') → LeavesInM F n P fn tmps R (marks Ds) .returning w
  | [], w, _, h => h w (Kp.refl _ _)
  | D :: Ds, w, hM, h => by
    have hD := hM.at_ D (by simp)
    have hnd := List.nodup_cons.1 hM.nd
    have kD : Kp [D] w (w.putObj D (.deferred none)) := ⟨rfl, rfl, rfl, by simp, fun k hk hn => World.putObj_heap_other (by simpa using hn)⟩
    have hM2 : Mks Ds w := ⟨hnd.2, fun E hE => hM.at_ E (by simp [hE])⟩
    refine ⟨by simp, .inl ⟨D, _, rfl, run_takeDeferred hD, leaves_marks Ds _ (hM2.kept kD (fun E hE => by simp; rintro rfl; exact hnd.1 hE)) fun w' hk => h w' ?_⟩⟩
    exact (kD.mono (fun x hx => .inl (by simp at hx; simp [hx]))).trans hk (fun x hx => .inl (by simp [hx]))
end Go.Hay
end

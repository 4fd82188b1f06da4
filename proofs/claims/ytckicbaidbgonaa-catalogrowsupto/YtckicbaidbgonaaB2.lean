/- Rows of structs, for any element: how a slice of them lies in memory, how it grows, how it is copied onto itself. No statement of the seat is proved here. Plain mathematics of the bytes: numbers in so many bytes, the highest first; the form of a Var. No Go text. More plain mathematics: a number and its bytes, back and forth; what a Var read comes to. Arguments opened: a slice of elements of whatever type, told by what it sees; how great it may be. A block's cells. Rows of ints. Catalogs as plain values, and how they lie. catalog: counted, placesMay, columnsHave, columnBits. catalog: columnBits. -/
import Derived.Test.YtckicbaidbgonaaB1
import Derived.Laws.IdiomCopy
import Derived.Deep.RegionLaw
import Derived.Below
import Derived.Test.YtckicbaidbgonaaRows
import Derived.ProofKit
import Derived.OpenShut
import Derived.ShutString
import Derived.ChangeOld
import Derived.Deep.Slices
import Derived.Laws.BitsAllLaws
section
namespace Go.Hay
open Go.RowKit

/-- How an element lies in cells. -/
structure El (α : Type) where
  n : Nat
  c : α → List Value
  len : ∀ x, (c x).length = n
  one : ∀ x, ∀ u ∈ c x, u.oneCell' = true
  pos : 0 < n
section
variable {α : Type} (E : El α)
def El.cs (l : List α) : List Value := l.flatMap E.c
theorem El.cs_cons (x : α) (l : List α) : E.cs (x :: l) = E.c x ++ E.cs l := rfl
theorem El.cs_append (a b : List α) : E.cs (a ++ b) = E.cs a ++ E.cs b := by simp [El.cs]
theorem El.cs_length (l : List α) : (E.cs l).length = l.length * E.n := by
  induction l with
  | nil => simp [El.cs]
  | cons x l ih => rw [El.cs_cons, List.length_append, E.len, ih, List.length_cons, Nat.succ_mul]; omega
theorem El.cs_one (l : List α) : ∀ u ∈ E.cs l, u.oneCell' = true := by
  intro u hu
  obtain ⟨x, _, hx⟩ := List.mem_flatMap.1 hu
  exact E.one x u hx
theorem El.cs_drop (l : List α) : ∀ i, E.cs (l.drop i) = (E.cs l).drop (i * E.n) := by
  induction l with
  | nil => intro i; simp [El.cs]
  | cons x l ih =>
    intro i
    cases i with
    | zero => simp
    | succ i =>
      rw [List.drop_succ_cons, ih i, El.cs_cons, Nat.succ_mul, Nat.add_comm, ← List.drop_drop, List.drop_left' (E.len x)]
theorem El.cs_take (l : List α) : ∀ i, E.cs (l.take i) = (E.cs l).take (i * E.n) := by
  induction l with
  | nil => intro i; simp [El.cs]
  | cons x l ih =>
    intro i
    cases i with
    | zero => simp [El.cs]
    | succ i =>
      rw [List.take_succ_cons, El.cs_cons, ih i, El.cs_cons, Nat.succ_mul, Nat.add_comm, List.take_append, E.len, List.take_of_length_le (l := E.c x) (by rw [E.len]; omega), Nat.add_sub_cancel_left]
theorem El.cs_get {l : List α} {j k : Nat} {x : α} (h : l[j]? = some x) (hk : k < E.n) : (E.cs l)[j * E.n + k]? = (E.c x)[k]? := by
  have e := El.cs_drop E l j
  have hl : l.drop j = x :: l.drop (j + 1) := by
    obtain ⟨h1, rfl⟩ := List.getElem?_eq_some_iff.1 h
    exact List.drop_eq_getElem_cons h1
  rw [hl, El.cs_cons] at e
  have : (E.cs l)[j * E.n + k]? = ((E.cs l).drop (j * E.n))[k]? := by rw [List.getElem?_drop]
  rw [this, ← e, List.getElem?_append_left (by rw [E.len]; exact hk)]

/-- What a slice of elements sees. -/
def El.See (w : World) (a : Option Addr) (l : List α) : Prop :=
  l = [] ∨ ∃ g o, a = some ⟨g, o, none⟩ ∧ ∀ j u, (E.cs l)[j]? = some u → w.cell? ⟨g, o + j, none⟩ = some u
variable {E}
theorem El.See.nil (w : World) (a : Option Addr) : E.See w a [] := .inl rfl
theorem El.See.kept {w w' : World} {a : Option Addr} {l : List α} {S : List Nat} (h : E.See w a l) (hk : Kp S w w') (hn : l ≠ [] → ∀ k ∈ blk a, k ∉ S) : E.See w' a l := by
  rcases h with rfl | ⟨g, o, rfl, hc⟩
  · exact .inl rfl
  · by_cases hl : l = []
    · exact .inl hl
    · exact .inr ⟨g, o, rfl, fun j u hu => (hk.cell (World.block_lt_of_cell? _ _ (hc j u hu)) (hn hl g (by simp [blk]))).trans (hc j u hu)⟩
theorem El.See.keptNew {w w' : World} {a : Option Addr} {l : List α} (h : E.See w a l) (hk : Kp [] w w') : E.See w' a l := h.kept hk (by simp)
theorem El.See.at {w : World} {a : Option Addr} {l : List α} (h : E.See w a l) {j : Nat} {x : α} (hx : l[j]? = some x) : ∃ g o, a = some ⟨g, o, none⟩ ∧ ∀ k u, (E.c x)[k]? = some u → w.cell? ⟨g, o + j * E.n + k, none⟩ = some u := by
  rcases h with rfl | ⟨g, o, rfl, hc⟩
  · simp at hx
  · refine ⟨g, o, rfl, fun k u hu => ?_⟩
    have hk : k < E.n := by have := (List.getElem?_eq_some_iff.1 hu).1; rwa [E.len] at this
    rw [Nat.add_assoc]
    exact hc _ _ ((El.cs_get E hx hk).trans hu)
theorem El.See.lt {w : World} {a : Option Addr} {l : List α} (h : E.See w a l) (hl : l ≠ []) : ∀ k ∈ blk a, k < w.heap.size := by
  cases l with
  | nil => exact absurd rfl hl
  | cons x l =>
    obtain ⟨g, o, rfl, hc⟩ := h.at (j := 0) (x := x) rfl
    intro k hk
    simp [blk] at hk
    subst hk
    have h0 : 0 < (E.c x).length := by rw [E.len]; exact E.pos
    exact World.block_lt_of_cell? _ _ (hc 0 _ (List.getElem?_eq_getElem h0))
theorem El.See.src {P : Program} {w : World} {a : Option Addr} {l : List α} (h : E.See w a l) {t e : TypeId} (ht : P.underlying t = some (.slice e)) (c : Nat) : Src P E.n t (.slice a l.length c) l.length (E.cs l) w := by
  rcases h with rfl | ⟨g, o, rfl, hc⟩
  · cases a with
    | none => exact Src.ofNil w ht c
    | some ad => exact Src.ofSlice w ht ad 0 c [] (by simp) (by intro j u hu; simp at hu) (by intro u hu; simp at hu)
  · exact Src.ofSlice w ht ⟨g, o, none⟩ l.length c (E.cs l) (El.cs_length E l) (fun j u hu => by rw [Addr.add_lit]; exact hc j u hu) (El.cs_one E l)
theorem El.See.front {w : World} {a : Option Addr} {l : List α} (h : E.See w a l) (i : Nat) : E.See w a (l.take i) := by
  rcases h with rfl | ⟨g, o, rfl, hc⟩
  · exact .inl (by simp)
  · refine .inr ⟨g, o, rfl, fun j u hu => ?_⟩
    rw [El.cs_take, List.getElem?_take] at hu
    split at hu
    · exact hc j u hu
    · cases hu

variable (E)
/-- A row of elements of the calls' own: its cells are there, none is frozen. -/
def El.Row (w : World) (v : Value) (l : List α) : Prop :=
  (v = .slice none 0 0 ∧ l = []) ∨ ∃ g o cap, v = .slice (some ⟨g, o, none⟩) l.length cap ∧ l.length ≤ cap ∧ cap ≤ maxLen ∧ g < w.heap.size ∧
    (∀ j u, (E.cs l)[j]? = some u → w.cell? ⟨g, o + j, none⟩ = some u) ∧ ∀ j, j < cap * E.n → (w.cell? ⟨g, o + j, none⟩).isSome = true ∧ w.frozen? ⟨g, o + j, none⟩ = false
variable {E}
theorem El.Row.nil (w : World) : E.Row w (.slice none 0 0) [] := .inl ⟨rfl, rfl⟩
theorem El.Row.lt {w : World} {v : Value} {l : List α} (h : E.Row w v l) : ∀ k ∈ own v, k < w.heap.size := by
  rcases h with ⟨rfl, _⟩ | ⟨g, o, cap, rfl, _, _, hg, _⟩
  · intro k hk; simp [own, Value.ownBlock] at hk
  · intro k hk; simp [own, Value.ownBlock] at hk; omega
theorem El.Row.see {w : World} {v : Value} {l : List α} (h : E.Row w v l) : ∃ a c, v = .slice a l.length c ∧ E.See w a l ∧ (a = none → l = [] ∧ c = 0) ∧ l.length ≤ c ∧ c ≤ maxLen ∧ own v = blk a := by
  rcases h with ⟨rfl, rfl⟩ | ⟨g, o, cap, rfl, hl, hm, hg, hc, ht⟩
  · exact ⟨none, 0, rfl, .inl rfl, fun _ => ⟨rfl, rfl⟩, Nat.le_refl _, Nat.zero_le _, rfl⟩
  · exact ⟨_, _, rfl, .inr ⟨g, o, rfl, hc⟩, fun h => (by cases h), hl, hm, rfl⟩
theorem El.Row.kept {w w' : World} {v : Value} {l : List α} {S : List Nat} (h : E.Row w v l) (hk : Kp S w w') (hn : ∀ k ∈ own v, k ∉ S) : E.Row w' v l := by
  rcases h with h | ⟨g, o, cap, rfl, hl, hm, hg, hc, ht⟩
  · exact .inl h
  · have hgS : g ∉ S := hn g (by simp [own, Value.ownBlock])
    have e1 : ∀ j, w'.cell? ⟨g, o + j, none⟩ = w.cell? ⟨g, o + j, none⟩ := fun j => hk.cell (p := ⟨g, o + j, none⟩) hg hgS
    have e2 : ∀ j, w'.frozen? ⟨g, o + j, none⟩ = w.frozen? ⟨g, o + j, none⟩ := fun j => hk.frozen (p := ⟨g, o + j, none⟩) hg hgS
    exact .inr ⟨g, o, cap, rfl, hl, hm, Nat.lt_of_lt_of_le hg hk.size, fun j u hu => (e1 j).trans (hc j u hu), fun j hj => by rw [e1, e2]; exact ht j hj⟩
theorem El.Row.keptNew {w w' : World} {v : Value} {l : List α} (h : E.Row w v l) (hk : Kp [] w w') : E.Row w' v l := h.kept hk (by simp)

theorem grown_cellsG (w : World) (g : Nat) (xs : List Value) (z : Array Value) (h : g = w.heap.size) (t : TypeId) : ∀ j u, xs[j]? = some u → (w.alloc (.cells (xs.toArray ++ z) t)).cell? ⟨g, 0 + j, none⟩ = some u := by
  subst h
  intro j u hu
  have hj : j < xs.length := (List.getElem?_eq_some_iff.1 hu).1
  have e1 : (w.alloc (.cells (xs.toArray ++ z) t)).cell? ⟨w.heap.size, 0 + j, none⟩ = _ := World.cell?_alloc_new w _ _ (0 + j)
  rw [e1, Nat.zero_add, Array.getElem?_append_left (by simp only [List.size_toArray]; exact hj), List.getElem?_toArray, hu]

/-- An append of elements, out of whatever yields them, onto a row of the call's own. -/
theorem run_appendG {P : Program} (w : World) (t tx ty e : TypeId) (i : TypeInfo) (z : Value) (bytes : Nat) (ht : P.underlying t = some (.slice e)) (hi : P.info? e = some i) (hz : i.zero = some z) (hsize : i.size = E.n) (hby : i.bytes = bytes) (hzs : z.cells.size = E.n)
    (v : Value) (xs : List α) (hown : E.Row w v xs) (x : Value) (bs : List α) (hs : Src P E.n tx x bs.length (E.cs bs) w) (hb : (xs.length + bs.length + (xs.length + bs.length) / 4 + 192) * bytes ≤ 281474976710656) (h63 : xs.length + bs.length ≤ 100000000000000) :
    ∃ v' w', (Builtin.append_ #[t, tx] ty #[v, x]).run P w = .ok v' w' ∧ E.Row w' v' (xs ++ bs) ∧ Kp (own v) w w' ∧ ∀ k ∈ own v', k ∈ own v ∨ w.heap.size ≤ k := by
  have hs' := hs
  rw [← hsize] at hs'
  have grow : ∀ (ao : Option Addr) (cap : Nat), v = .slice ao xs.length cap → cap < xs.length + bs.length → (Builtin.firstCells i.size xs.length (.slice ao xs.length cap)).run P w.drew = .ok (E.cs xs).toArray w.drew →
      ∃ v' w', (Builtin.append_ #[t, tx] ty #[v, x]).run P w = .ok v' w' ∧ E.Row w' v' (xs ++ bs) ∧ Kp (own v) w w' ∧ ∀ k ∈ own v', k ∈ own v ∨ w.heap.size ≤ k := by
    rintro ao cap rfl hlt hold
    have hrun := run_append_grow_src (P := P) w t tx ty e i z ht hi hz ao xs.length cap (E.cs xs) hold x bs.length (E.cs bs) hs' hlt (by omega) (growslice_fits_wide hlt (by rw [hby]; exact hb))
    have hge := grownCap_ge w (xs.length + bs.length) cap e
    have hcm := grownCap_le_maxLen w (xs.length + bs.length) cap e (by unfold maxLen; omega)
    rw [← El.cs_append] at hrun
    refine ⟨_, _, hrun, .inr ⟨w.heap.size, 0, _, by rw [List.length_append], by rw [List.length_append]; omega, hcm, by simp, ?_, ?_⟩, (Kp.refl _ w).drew.alloc _, ?_⟩
    · exact grown_cellsG w.drew _ (E.cs (xs ++ bs)) _ rfl _
    · intro j hj
      refine ⟨?_, World.frozen?_alloc_new w.drew _ _ (0 + j)⟩
      have e1 := World.cell?_alloc_new w.drew ((E.cs (xs ++ bs)).toArray ++ Builtin.zeroCells z.cells (grownCap w (xs.length + bs.length) cap e - (xs.length + bs.length))) e (0 + j)
      have hsz : ((E.cs (xs ++ bs)).toArray ++ Builtin.zeroCells z.cells (grownCap w (xs.length + bs.length) cap e - (xs.length + bs.length))).size = grownCap w (xs.length + bs.length) cap e * E.n := by
        rw [Array.size_append, List.size_toArray, El.cs_length, List.length_append, size_zeroCells, hzs, ← Nat.add_mul]
        congr 1
        omega
      refine (congrArg Option.isSome e1).trans ?_
      rw [Nat.zero_add, Array.getElem?_eq_getElem (by rw [hsz]; exact hj)]
      rfl
    · intro k hk
      simp [own, Value.ownBlock] at hk
      omega
  rcases hown with ⟨rfl, rfl⟩ | ⟨g, o, cap, rfl, hl, hm, hg, hc, ht'⟩
  · rcases Nat.eq_zero_or_pos bs.length with h0 | h0
    · obtain rfl : bs = [] := List.length_eq_zero_iff.1 h0
      exact ⟨_, _, run_append_nothing (P := P) w t tx ty e i ht hi none 0 0 (Nat.le_refl _) x hs', .inl ⟨rfl, rfl⟩, Kp.refl _ _, fun _ h => .inl h⟩
    · exact grow none 0 rfl (by simpa using h0) (run_firstCells_none w.drew i.size 0 0 0)
  · by_cases hroom : xs.length + bs.length ≤ cap
    · have hmul : (xs.length + bs.length) * E.n ≤ cap * E.n := Nat.mul_le_mul_right _ hroom
      rw [Nat.add_mul] at hmul
      have hsome : ∀ j, j < (E.cs bs).length → (w.cell? ⟨g, o + xs.length * i.size + j, none⟩).isSome = true := fun j hj => by
        rw [El.cs_length] at hj; rw [hsize, Nat.add_assoc]; exact (ht' _ (by omega)).1
      have hrun := run_append_room_src (P := P) w t tx ty e i ht hi g o xs.length cap x bs.length (E.cs bs) hs' hroom hsome
        (fun j hj => by rw [El.cs_length] at hj; rw [hsize, Nat.add_assoc]; exact (ht' _ (by omega)).2)
      rw [hsize] at hsome
      rw [hsize] at hrun
      refine ⟨_, _, hrun, .inr ⟨g, o, cap, by rw [List.length_append], by rw [List.length_append]; omega, hm, by rw [size_setCells]; exact hg, ?_, ?_⟩, (Kp.refl _ w).setCells (by simp [own, Value.ownBlock]) _ _, fun k hk => .inl hk⟩
      · intro j u hu
        rw [El.cs_append] at hu
        by_cases hj : j < (E.cs xs).length
        · rw [World.cell?_setCells_out g _ _ _ _ (fun _ _ => Or.inl (by show o + j < o + xs.length * E.n; rw [El.cs_length] at hj; omega))]
          rw [List.getElem?_append_left hj] at hu
          exact hc j u hu
        · rw [List.getElem?_append_right (by omega)] at hu
          have hj2 : j - (E.cs xs).length < (E.cs bs).length := (List.getElem?_eq_some_iff.1 hu).1
          have := World.cell?_setCells_in g (E.cs bs) (o + xs.length * E.n) w hsome (j - (E.cs xs).length) hj2
          rw [← List.getElem?_eq_getElem hj2, hu] at this
          rw [El.cs_length] at hj this
          rw [show o + xs.length * E.n + (j - xs.length * E.n) = o + j by omega] at this
          exact this
      · intro j hj
        refine ⟨?_, (World.frozen?_setCells g _ _ _ _).trans (ht' j hj).2⟩
        by_cases hin : xs.length * E.n ≤ j ∧ j < xs.length * E.n + (E.cs bs).length
        · have := World.cell?_setCells_in g (E.cs bs) (o + xs.length * E.n) w hsome (j - xs.length * E.n) (by omega)
          rw [show o + xs.length * E.n + (j - xs.length * E.n) = o + j by omega] at this
          rw [this]; rfl
        · rw [World.cell?_setCells_out g _ _ _ _ (fun _ _ => by show o + j < o + xs.length * E.n ∨ o + xs.length * E.n + (E.cs bs).length ≤ o + j; omega)]
          exact (ht' j hj).1
    · refine grow (some ⟨g, o, none⟩) cap rfl (by omega) ?_
      exact run_firstCells_some w.drew i.size xs.length ⟨g, o, none⟩ xs.length cap (E.cs xs) (by rw [El.cs_length, hsize]) (fun j u hu => by rw [Addr.add_lit]; exact hc j u hu)

/-- .. for the walk. -/
theorem wpAppG {P : Program} {w : World} {ops : Array Oper} {rest : List Oper} {o : Oper} {a : Act} {Q : Exit → Act → World → Prop} (hgd : o.guard = none) (s x : Operand) (t tx e : TypeId)
    (ho : o.op = .call { callee := .builtin .append, args := #[s, x], argTypes := #[t, tx] })
    (i : TypeInfo) (z : Value) (bytes : Nat) (ht : P.underlying t = some (.slice e)) (hi : P.info? e = some i) (hz : i.zero = some z) (hsize : i.size = E.n) (hby : i.bytes = bytes) (hzs : z.cells.size = E.n)
    (v : Value) (xs : List α) (hv : a.eval s = v) (hown : E.Row w v xs) (xv : Value) (bs : List α) (hx : a.eval x = xv) (hs : Src P E.n tx xv bs.length (E.cs bs) w) (hb : (xs.length + bs.length + (xs.length + bs.length) / 4 + 192) * bytes ≤ 281474976710656) (h63 : xs.length + bs.length ≤ 100000000000000)
    (hK : ∀ l' a' c' w', Hid (l' = xs ++ bs) → E.Row w' (.slice a' l'.length c') l' → Kp (own v) w w' → (∀ k ∈ blk a', k ∈ own v ∨ w.heap.size ≤ k) → wpList P ops Q rest (a.put o.dst (.slice a' l'.length c')) w') : wpList P ops Q (o :: rest) a w := by
  refine wpList_plain hgd fun K hK' => ?_
  obtain ⟨v', w', hrun, h1, h2, h3⟩ := run_appendG (P := P) w t tx o.type e i z bytes ht hi hz hsize hby hzs v xs hown xv bs hs hb h63
  obtain ⟨l', hl'⟩ : ∃ l', l' = xs ++ bs := ⟨_, rfl⟩
  rw [← hl'] at h1
  obtain ⟨a', c', rfl, _, _, _, _, eo⟩ := h1.see
  have hfin := hK' _ _ (hK l' a' c' w' hl' h1 h2 (fun k hk => h3 k (by rw [eo]; exact hk)))
  unfold Oper.wp
  simp [execOp, ho, resolve, invoke, builtin, hv, hx, hrun, Result.andThen]
  exact hfin
end
theorem run_copyG {P : Program} (w : World) (dT sT ty elem : TypeId) (i : TypeInfo) (hu : P.underlying dT = some (.slice elem)) (hi : P.info? elem = some i) (b o dLen dCap : Nat) (a : Addr) (sLen sCap : Nat) (hsd : sLen ≤ dLen) (cs : List Value)
    (hn : cs.length = sLen * i.size) (hsrc : ∀ j v, cs[j]? = some v → w.cell? (a.add j) = some v) (hc : ∀ j, j < cs.length → (w.cell? ⟨b, o + j, none⟩).isSome = true) (hf : ∀ j, j < cs.length → w.frozen? ⟨b, o + j, none⟩ = false) (h1 : ∀ v ∈ cs, v.oneCell' = true) :
    (Builtin.copy_ #[dT, sT] ty #[.slice (some ⟨b, o, none⟩) dLen dCap, .slice (some a) sLen sCap]).run P w = .ok (goInt sLen) (w.setCells b o cs) := by
  have hl := run_loadCells_list (P := P) w a cs hsrc
  have hst := run_storeCells_cells (P := P) b o cs 0 w (by simpa using hc) (by simpa using hf) h1
  simp only [Nat.add_zero] at hst
  have hmin : Nat.min sLen dLen = sLen := Nat.min_eq_left hsd
  simp [Builtin.copy_, run_underlying hu, Builtin.lenOf, Builtin.firstCells, sizeOf, typeInfo, hi, hmin, ← hn, hl, hst]
/-- An append, or a copy, whose run is known, at a step of a region that draws its order. -/
theorem stepAppRun {P : Program} {w w' : World} {ops : Array Oper} {o : Oper} {a : Act} {K : Act → World → Prop} {Q : Exit → Act → World → Prop} {E : Prop} (hgd : o.guard = none) (s x : Operand) (t tx : TypeId)
    (ho : o.op = .call { callee := .builtin .append, args := #[s, x], argTypes := #[t, tx] }) (v xv v' : Value) (hv : a.eval s = v) (hx : a.eval x = xv)
    (hrun : (Builtin.append_ #[t, tx] o.type #[v, xv]).run P w = .ok v' w') (h : K (a.put o.dst v') w') : if Region.wanted o (yielded ops a.tmps) = true then Oper.wp P o a w K Q else E := by
  have hw : Region.wanted o (yielded ops a.tmps) = true := by simp [Region.wanted, hgd]
  rw [if_pos hw]
  unfold Oper.wp execOp
  simp only [ho, resolve, invoke, builtin, Sem.run_bind, Sem.run_pure, Result.andThen_ok, List.map_toArray, List.map_cons, List.map_nil, hv, hx, hrun]
  exact h
theorem stepCpyRun {P : Program} {w w' : World} {ops : Array Oper} {o : Oper} {a : Act} {K : Act → World → Prop} {Q : Exit → Act → World → Prop} {E : Prop} (hgd : o.guard = none) (s x : Operand) (t tx : TypeId)
    (ho : o.op = .call { callee := .builtin .copy, args := #[s, x], argTypes := #[t, tx] }) (v xv v' : Value) (hv : a.eval s = v) (hx : a.eval x = xv)
    (hrun : (Builtin.copy_ #[t, tx] o.type #[v, xv]).run P w = .ok v' w') (h : K (a.put o.dst v') w') : if Region.wanted o (yielded ops a.tmps) = true then Oper.wp P o a w K Q else E := by
  have hw : Region.wanted o (yielded ops a.tmps) = true := by simp [Region.wanted, hgd]
  rw [if_pos hw]
  unfold Oper.wp execOp
  simp only [ho, resolve, invoke, builtin, Sem.run_bind, Sem.run_pure, Result.andThen_ok, List.map_toArray, List.map_cons, List.map_nil, hv, hx, hrun]
  exact h
end Go.Hay
end

section
namespace Go.Hay

/-- n in k bytes, the highest first. -/
def be (n : Nat) : Nat → List UInt8
  | 0 => []
  | k + 1 => UInt8.ofNat (n / 256 ^ k % 256) :: be n k
theorem be_length (n k : Nat) : (be n k).length = k := by
  induction k with
  | zero => rfl
  | succ k ih => simp [be, ih]
/-- The first byte of n's Var. -/
def leadI (n : Int) : Int := if n < 253 then n else if n < 65536 then 253 else if n < 4294967296 then 254 else 255
/-- How many bytes a Var has behind its first one. -/
def behindI (f : Int) : Int := if f = 253 then 2 else if f = 254 then 4 else if f = 255 then 8 else 0
theorem leadI_bd (n : Int) (h : 0 ≤ n) : 0 ≤ leadI n ∧ leadI n ≤ 255 := by unfold leadI; repeat (first | split | omega)
theorem behindI_bd (n : Int) : 0 ≤ behindI n ∧ behindI n ≤ 8 := by unfold behindI; repeat (first | split | omega)
/-- The number that bytes say, the highest first. -/
def num (bs : List UInt8) : Nat := bs.foldl (fun n x => n * 256 + x.toNat) 0
theorem num_snoc (bs : List UInt8) (x : UInt8) : num (bs ++ [x]) = num bs * 256 + x.toNat := by simp [num]
theorem num_lt (bs : List UInt8) : num bs < 256 ^ bs.length := by
  suffices ∀ (l : List UInt8), num l.reverse < 256 ^ l.length by simpa using this bs.reverse
  intro l
  induction l with
  | nil => simp [num]
  | cons x l ih =>
    rw [List.reverse_cons, num_snoc, List.length_cons, Nat.pow_succ]
    have := x.toNat_lt
    omega
/-- A byte, of a number. -/
def octet (n : Int) : UInt8 := UInt8.ofNat n.toNat
theorem octet_toNat (n : Int) (h0 : 0 ≤ n) (h1 : n ≤ 255) : ((octet n).toNat : Int) = n := by
  unfold octet
  rw [UInt8.toNat_ofNat']
  omega
/-- A number's Var. -/
def varB (n : Int) : List UInt8 := octet (leadI n) :: be n.toNat (behindI (leadI n)).toNat
theorem varB_length (n : Int) : (varB n).length ≤ 9 ∧ 1 ≤ (varB n).length := by
  have := behindI_bd (leadI n)
  simp only [varB, List.length_cons, be_length]
  omega
/-- What bytes begin with, read as a Var: the number, in how many bytes, what is amiss. -/
def fv (bs : List UInt8) : Int × Int × Int :=
  match bs with
  | [] => (0, 0, 10)
  | f :: r =>
    if behindI f.toNat = 0 then (f.toNat, 1, 0)
    else if (r.length : Int) < behindI f.toNat then (0, 0, 10)
    else if leadI (num (r.take (behindI f.toNat).toNat)) ≠ f.toNat then (0, 0, 11)
    else (num (r.take (behindI f.toNat).toNat), 1 + behindI f.toNat, 0)
theorem fv_bd (bs : List UInt8) : 0 ≤ (fv bs).1 ∧ (fv bs).1 < 18446744073709551616 ∧ 0 ≤ (fv bs).2.1 ∧ (fv bs).2.1 ≤ 9 ∧ (fv bs).2.1 ≤ bs.length := by
  cases bs with
  | nil => simp [fv]
  | cons f r =>
    have hf := f.toNat_lt
    have hb := behindI_bd f.toNat
    simp only [fv]
    have h64 : ∀ k : Nat, k ≤ 8 → num (r.take k) < 18446744073709551616 := fun k hk => by
      have h1 := num_lt (r.take k)
      have h2 : (r.take k).length ≤ 8 := by simp; omega
      have h3 : 256 ^ (r.take k).length ≤ 256 ^ 8 := Nat.pow_le_pow_right (by omega) h2
      omega
    have h64' := h64 (behindI f.toNat).toNat (by omega)
    generalize num (r.take (behindI f.toNat).toNat) = m at *
    simp only [List.length_cons]
    split
    · simp; omega
    · split
      · simp; omega
      · split
        · simp; omega
        · simp; omega
/-- A reader that takes n bytes: what it gives, what is left, what was amiss. -/
def takeS (n : Nat) (bs : List UInt8) (e : Int) : List UInt8 × List UInt8 × Int :=
  if e ≠ 0 then ([], bs, e) else if bs.length < n then ([], bs, 10) else (bs.take n, bs.drop n, 0)
/-- A reader that reads a Var. -/
def varS (most : Int) (bs : List UInt8) (e : Int) : Int × List UInt8 × Int :=
  if e ≠ 0 then (0, bs, e) else if (fv bs).2.2 ≠ 0 then (0, bs, (fv bs).2.2) else if most < (fv bs).1 then (0, bs, 12) else ((fv bs).1, bs.drop (fv bs).2.1.toNat, 0)
/-- .. raw bytes. -/
def rawS (n : Int) (bs : List UInt8) (e : Int) : List UInt8 × List UInt8 × Int :=
  if n < 0 then ([], bs, if e = 0 then 12 else e) else takeS n.toNat bs e
/-- .. a count. -/
def countS (most : Int) (bs : List UInt8) (e : Int) : Int × List UInt8 × Int :=
  if 0 ≤ most then varS most bs e else (0, bs, if (varS 18446744073709551615 bs e).2.2 = 0 then 12 else (varS 18446744073709551615 bs e).2.2)
/-- .. a text. -/
def textS (most : Int) (bs : List UInt8) (e : Int) : List UInt8 × List UInt8 × Int :=
  if (rawS (countS most bs e).1 (countS most bs e).2.1 (countS most bs e).2.2).2.2 ≠ 0 then ((rawS (countS most bs e).1 (countS most bs e).2.1 (countS most bs e).2.2).1, bs, (rawS (countS most bs e).1 (countS most bs e).2.1 (countS most bs e).2.2).2.2)
  else rawS (countS most bs e).1 (countS most bs e).2.1 (countS most bs e).2.2
/-- A text. -/
def textB (b : List UInt8) : List UInt8 := varB b.length ++ b
end Go.Hay
end

section
namespace Go.Hay
set_option linter.unusedVariables false

theorem be_snoc (n k : Nat) : be n (k + 1) = be (n / 256) k ++ [UInt8.ofNat (n % 256)] := by
  induction k with
  | zero => simp [be]
  | succ k ih =>
    rw [be, ih, be, List.cons_append]
    congr 2
    rw [Nat.div_div_eq_div_mul, Nat.pow_succ, Nat.mul_comm]
theorem be_num_rev (l : List UInt8) : be (num l.reverse) l.length = l.reverse := by
  induction l with
  | nil => simp [be]
  | cons x l ih =>
    have hx := x.toNat_lt
    rw [List.reverse_cons, num_snoc, List.length_cons, be_snoc, show (num l.reverse * 256 + x.toNat) / 256 = num l.reverse by omega, ih, show (num l.reverse * 256 + x.toNat) % 256 = x.toNat by omega, UInt8.ofNat_toNat]
theorem be_num (xs : List UInt8) : be (num xs) xs.length = xs := by simpa using be_num_rev xs.reverse
theorem num_be (n k : Nat) : num (be n k) = n % 256 ^ k := by
  induction k generalizing n with
  | zero => simp [be, num, Nat.mod_one]
  | succ k ih =>
    rw [be_snoc, num_snoc, ih, UInt8.toNat_ofNat', show 256 ^ (k + 1) = 256 * 256 ^ k by rw [Nat.pow_succ, Nat.mul_comm], Nat.mod_mul]
    omega
theorem octet_nat (x : UInt8) : octet x.toNat = x := by simp [octet]

/-- What is read as a number is written as the same bytes. -/
theorem fv_back (bs : List UInt8) (h : (fv bs).2.2 = 0) : varB (fv bs).1 = bs.take (fv bs).2.1.toNat ∧ 1 ≤ (fv bs).2.1 := by
  cases bs with
  | nil => simp [fv] at h
  | cons f r =>
    have hf := f.toNat_lt
    have hb := behindI_bd f.toNat
    simp only [fv] at h ⊢
    split
    · rename_i h0
      have hl : leadI f.toNat = f.toNat := by
        unfold behindI at h0
        unfold leadI
        repeat (first | split at h0 | (split <;> omega) | omega)
      simp only [varB, hl, h0, octet_nat]
      simp [be]
    · rename_i h0
      rw [if_neg h0] at h
      by_cases h1 : (r.length : Int) < behindI f.toNat
      · rw [if_pos h1] at h; simp at h
      rw [if_neg h1] at h ⊢
      by_cases h2 : leadI (num (r.take (behindI f.toNat).toNat)) ≠ f.toNat
      · rw [if_pos h2] at h; simp at h
      rw [if_neg h2]
      have h3 : leadI (num (r.take (behindI f.toNat).toNat)) = f.toNat := Decidable.not_not.1 h2
      obtain ⟨k, hk⟩ : ∃ k : Nat, behindI f.toNat = k := ⟨(behindI f.toNat).toNat, by omega⟩
      rw [hk, Int.toNat_natCast] at h3
      have hlen : (r.take k).length = k := by simp; omega
      refine ⟨?_, by show 1 ≤ 1 + behindI f.toNat; omega⟩
      show varB (num (r.take (behindI f.toNat).toNat)) = List.take (1 + behindI f.toNat).toNat (f :: r)
      rw [hk, Int.toNat_natCast]
      simp only [varB]
      rw [h3, hk, Int.toNat_natCast, Int.toNat_natCast, octet_nat]
      have e := be_num (r.take k)
      rw [hlen] at e
      rw [e, show (1 + (k : Int)).toNat = k + 1 by omega, List.take_succ_cons]

/-- Of a Var that was read: in words that the law uses. -/
theorem varS_cases (most : Int) (bs : List UInt8) {n : Int} {bs' : List UInt8} {e' : Int} (h0 : 0 ≤ most) (h : varS most bs 0 = (n, bs', e')) :
    0 ≤ n ∧ n < 18446744073709551616 ∧ bs'.length ≤ bs.length ∧ (e' ≠ 0 → n = 0 ∧ bs' = bs) ∧ (e' = 0 → n ≤ most ∧ varB n = bs.take (bs.length - bs'.length)) := by
  have hbd := fv_bd bs
  have hbk := fv_back bs
  unfold varS at h
  rw [if_neg (by simp)] at h
  split at h
  · rename_i h1
    cases h
    exact ⟨by omega, by omega, Nat.le_refl _, fun _ => ⟨rfl, rfl⟩, fun h => absurd h h1⟩
  · rename_i h1
    have h1' : (fv bs).2.2 = 0 := Decidable.not_not.1 h1
    have hbk := hbk h1'
    split at h
    · cases h
      exact ⟨by omega, by omega, Nat.le_refl _, fun _ => ⟨rfl, rfl⟩, fun h => by simp at h⟩
    · cases h
      refine ⟨by omega, by omega, by simp, fun h => absurd rfl h, fun _ => ⟨by omega, ?_⟩⟩
      rw [hbk.1]
      congr 1
      rw [List.length_drop]
      omega
end Go.Hay
end

section
namespace Go.Proofs.Ytckicbaidbgonaa
open Go.ChangeShapes Go.WideShapes Go.ChangeAt Go.RowKit Go.Hay
set_option linter.unusedVariables false

theorem Try.own : ownKnob Try.prog.godebug = none := by kernel_rfl
theorem Try.laidOut : laidOutB Try.prog = true := by kernel_rfl

/-- How many values a slice's datum holds, its spare places too. -/
def capD {H : Type} : DataW H → Nat
  | .slice e sp => e.length + sp.length
  | _ => 0
theorem bulk_pos {H : Type} (d : DataW H) : 1 ≤ Rows.uptoBulk d := by
  cases d with
  | lit l => cases l <;> simp [Rows.uptoBulk]
  | _ => simp [Rows.uptoBulk]
theorem bulkAll_ge {H : Type} (l : List (DataW H)) : l.length ≤ Rows.uptoBulkAll l := by
  induction l with
  | nil => simp
  | cons d l ih => have := bulk_pos d; simp only [Rows.uptoBulkAll, List.length_cons]; omega
theorem bulk_cap {H : Type} (d : DataW H) : capD d + 1 ≤ Rows.uptoBulk d := by
  cases d with
  | slice e sp => have := bulkAll_ge e; have := bulkAll_ge sp; simp only [capD, Rows.uptoBulk]; omega
  | lit l => cases l <;> simp [capD, Rows.uptoBulk]
  | _ => simp [capD, Rows.uptoBulk]
theorem bulkAll_map {H : Type} (n : Nat) (D : Nat → DataW H) (f : Nat → Nat) (h : ∀ i, i < n → f i ≤ Rows.uptoBulk (D i)) : ((List.range n).map f).sum ≤ Rows.uptoBulkAll ((List.range n).map D) := by
  have gen : ∀ l : List Nat, (∀ i ∈ l, f i ≤ Rows.uptoBulk (D i)) → (l.map f).sum ≤ Rows.uptoBulkAll (l.map D) := by
    intro l
    induction l with
    | nil => intro _; simp
    | cons i l ih =>
      intro hl
      have h1 := hl i (by simp)
      have h2 := ih (fun j hj => hl j (by simp [hj]))
      simp only [List.map_cons, List.sum_cons, Rows.uptoBulkAll]
      omega
  exact gen _ (fun i hi => h i (List.mem_range.1 hi))
theorem mem_weightsAll {H : Type} {P : Program} {e : TypeId} {l : List (DataW H)} {d : DataW H} (hd : d ∈ l) {x : Nat} (hx : x ∈ d.weights P e) : x ∈ DataW.weightsAll P e l := by
  induction l with
  | nil => cases hd
  | cons y l ih =>
    rw [DataW.weightsAll, List.mem_append]
    rcases List.mem_cons.1 hd with rfl | h
    · exact .inl hx
    · exact .inr (ih h)
/-- Within the form's reach. -/
def Fit {H : Type} (t : TypeId) (d : DataW H) : Prop := (DataW.weights Try.prog t d).all (· ≤ reachBytes) = true

theorem openEls {α : Type} [Inhabited α] (E : El α) {t e : TypeId} (ht : Try.prog.underlying t = some (.slice e)) (hcells : Try.prog.cellsOf e = E.n) (B : Nat) (hB : Try.prog.bytesOf e = B)
    {H : Type} {enc : TypeId × Value → H} {W : World} (ok : α → Prop) (Q : α → Prop) (bk : α → Nat)
    (op : ∀ fuel cs x, DataW.trod enc Try.prog W 0 (fun _ => true) true fuel e cs = some x → cs.length = E.n → ∃ y : α, ok y ∧ cs = E.c y ∧ (Fit e x.1 → Q y) ∧ bk y ≤ Rows.uptoBulk x.1)
    {a : Option Addr} {len cap : Nat} {d : DataW H} {ps : List MemPlace} (h : DataW.Trod enc Try.prog W 0 (fun _ => true) true t (.slice a len cap) d ps) :
    ∃ l : List α, len = l.length ∧ E.See W a l ∧ (∀ y ∈ l, ok y) ∧ l.length ≤ cap ∧ cap ≤ maxLen ∧ (a = none → cap = 0) ∧ (Fit t d → cap * B ≤ 140737488351232 ∧ ∀ y ∈ l, Q y) ∧ (l.map bk).sum ≤ Rows.uptoBulk d ∧ cap + 1 ≤ Rows.uptoBulk d := by
  obtain ⟨fuel, hf⟩ := h
  rcases Go.Deep.open_slice ht hf with ⟨hcs, hx⟩ | ⟨x, len', cap', m, n, D, Pl, hcs, _, hl, hmx, hm, hx, hcell⟩
  · simp [Value.cells] at hcs
    obtain ⟨rfl, rfl, rfl⟩ := hcs
    cases hx
    exact ⟨[], rfl, .inl rfl, by simp, Nat.le_refl _, Nat.zero_le _, fun _ => rfl, fun _ => ⟨by omega, by simp⟩, by simp, by simp [Rows.uptoBulk]⟩
  · simp [Value.cells] at hcs
    obtain ⟨rfl, rfl, rfl⟩ := hcs
    cases hx
    have hm' : m = cap := by simpa using hm
    subst hm'
    rw [hcells] at hcell
    obtain ⟨Y, hY⟩ := Go.Deep.choose_lt (α := α) (n := len) (p := fun i y => ok y ∧ (∀ k u, (E.c y)[k]? = some u → W.cell? ((x.add (i * E.n)).add k) = some u) ∧ (Fit e (D i) → Q y) ∧ bk y ≤ Rows.uptoBulk (D i)) (fun i hi => by
      obtain ⟨cs', h1, h2⟩ := hcell i (by omega)
      obtain ⟨_, hlen, hc⟩ := World.cells?_some h1
      obtain ⟨y, g1, rfl, g2, g3⟩ := op _ _ _ h2 hlen
      refine ⟨y, g1, fun k u hu => ?_, g2, g3⟩
      have hk : k < E.n := by have := (List.getElem?_eq_some_iff.1 hu).1; rwa [E.len] at this
      exact (hc k hk).trans hu)
    refine ⟨(List.range len).map Y, by simp, ?_, ?_, by simpa using hl, hmx, fun h => (by cases h), fun hfit => ?_, ?_, ?_⟩
    · cases hlen : len with
      | zero => exact .inl rfl
      | succ k =>
        obtain ⟨b, off, spot⟩ := x
        have h0 : 0 < (E.c (Y 0)).length := by rw [E.len]; exact E.pos
        have hc0 := (hY 0 (by omega)).2.1 0 _ (List.getElem?_eq_getElem h0)
        have hspot : spot = none := by
          have := World.cell?_spot hc0
          simpa [Addr.add] using this
        subst hspot
        refine .inr ⟨b, off, rfl, fun j u hu => ?_⟩
        rw [← hlen] at hu
        have hj : j < ((List.range len).map Y).length * E.n := by have := (List.getElem?_eq_some_iff.1 hu).1; rwa [El.cs_length] at this
        have hpos := E.pos
        have hq : j / E.n < len := by
          rw [List.length_map, List.length_range] at hj
          exact Nat.div_lt_of_lt_mul (by rw [Nat.mul_comm]; exact hj)
        have hr : j % E.n < E.n := Nat.mod_lt _ hpos
        have hje : j = j / E.n * E.n + j % E.n := by rw [Nat.mul_comm]; exact (Nat.div_add_mod j E.n).symm
        have hget : ((List.range len).map Y)[j / E.n]? = some (Y (j / E.n)) := by rw [List.getElem?_map, List.getElem?_range hq]; rfl
        rw [hje, El.cs_get E hget hr] at hu
        have hcc := (hY _ hq).2.1 _ _ hu
        rw [Addr.add_lit, Addr.add_lit, Nat.add_assoc, ← hje] at hcc
        exact hcc
    · intro y hy
      obtain ⟨i, hi, rfl⟩ := List.mem_map.1 hy
      exact (hY i (List.mem_range.1 hi)).1
    · unfold Fit at hfit
      simp only [DataW.weights, ht] at hfit
      rw [List.all_cons, Bool.and_eq_true] at hfit
      refine ⟨?_, fun y hy => ?_⟩
      · have := of_decide_eq_true hfit.1
        simp only [List.length_map, List.length_range, hB, reachBytes] at this
        rwa [show len + (m - len) = m by omega] at this
      · obtain ⟨i, hi, rfl⟩ := List.mem_map.1 hy
        refine (hY i (List.mem_range.1 hi)).2.2.1 (List.all_eq_true.2 fun x hx => List.all_eq_true.1 hfit.2 x ?_)
        rw [List.mem_append]
        exact .inl (mem_weightsAll (List.mem_map_of_mem hi) hx)
    · have := bulkAll_map len D (fun i => bk (Y i)) (fun i hi => (hY i hi).2.2.2)
      simp only [List.map_map, Rows.uptoBulk]
      have e : (List.range len).map (bk ∘ Y) = (List.range len).map (fun i => bk (Y i)) := rfl
      rw [e]
      omega
    · have := bulk_cap (.slice ((List.range len).map D) ((List.range (m - len)).map fun j => D (len + j)) : DataW H)
      simp only [capD, List.length_map, List.length_range] at this
      omega

/-- A byte. -/
def ByteE : El UInt8 where
  n := 1
  c x := [.int .u8 x.toNat]
  len _ := rfl
  one _ u hu := by simp at hu; subst hu; rfl
  pos := by decide
theorem byteCs (l : List UInt8) : ByteE.cs l = bcells l := by
  induction l with
  | nil => rfl
  | cons x l ih => rw [El.cs_cons, ih]; rfl
theorem byteSee {w : World} {a : Option Addr} {l : List UInt8} (h : ByteE.See w a l) : Sees w a l := by
  rcases h with h | ⟨g, o, rfl, hc⟩
  · exact .inl h
  · refine .inr ⟨g, o, rfl, fun j u hu => hc j _ ?_⟩
    rw [byteCs, bcells_get, hu]
    rfl
/-- A slice of bytes, and what it sees. -/
structure Bs where
  a : Option Addr
  c : Nat
  bs : List UInt8
def Bs.v (x : Bs) : Value := .slice x.a x.bs.length x.c
structure Bs.ok (w : World) (x : Bs) : Prop where
  see : Sees w x.a x.bs
  cap : x.bs.length ≤ x.c
  nil : x.a = none → x.c = 0
theorem Bs.ok.kept {w w' : World} {x : Bs} {S : List Nat} (h : x.ok w) (hk : Kp S w w') (hn : x.bs ≠ [] → ∀ k ∈ blk x.a, k ∉ S) : x.ok w' := ⟨h.see.kept' hk hn, h.cap, h.nil⟩
theorem Bs.ok.keptNew {w w' : World} {x : Bs} (h : x.ok w) (hk : Kp [] w w') : x.ok w' := h.kept hk (by simp)
instance : Inhabited Bs := ⟨⟨none, 0, []⟩⟩
theorem cellsB : Try.prog.cellsOf 5 = 1 := by kernel_rfl
theorem bytesB : Try.prog.bytesOf 5 = 1 := by kernel_rfl
theorem cellsI : Try.prog.cellsOf 3 = 1 := by kernel_rfl
theorem cellsS : Try.prog.cellsOf 122 = 1 := by kernel_rfl
theorem bytesS : Try.prog.bytesOf 122 = 24 := by kernel_rfl
def Few (x : Bs) : Prop := x.bs.length ≤ 140737488351232
section
variable {H : Type} {enc : TypeId × Value → H} {W : World}
theorem openByt {fuel : Nat} {v : Value} {x : DataW H × List MemPlace} (h : DataW.trod enc Try.prog W 0 (fun _ => true) true fuel 122 [v] = some x) :
    ∃ y : Bs, y.ok W ∧ v = y.v ∧ (Fit 122 x.1 → Few y) ∧ y.bs.length + 1 ≤ Rows.uptoBulk x.1 := by
  have hv : ∃ a len cap, v = .slice a len cap := by
    rcases Go.Deep.open_slice Try.underlying122 h with ⟨hcs, _⟩ | ⟨a, len, cap, _, _, _, _, hcs, _⟩
    · exact ⟨none, 0, 0, by simpa using hcs⟩
    · exact ⟨_, _, _, by simpa using hcs⟩
  obtain ⟨a, len, cap, rfl⟩ := hv
  obtain ⟨l, rfl, hs, _, hl, hm, hn, hfit, _, hbk⟩ := openEls ByteE Try.underlying122 cellsB 1 bytesB (fun _ => True) (fun _ => True) (fun _ => 0)
    (fun fuel cs x hx hcs => by
      obtain ⟨n, rfl, _, hw⟩ := DataW.trod_int Try.underlying5 hx
      have hb := bounds_u8 hw
      exact ⟨octet n, trivial, by simp [ByteE]; exact (octet_toNat _ hb.1 hb.2).symm, fun _ => trivial, Nat.zero_le _⟩) (d := x.1) (ps := x.2) ⟨fuel, h⟩
  refine ⟨⟨a, cap, l⟩, ⟨byteSee hs, hl, hn⟩, rfl, fun hf => ?_, ?_⟩
  · have := (hfit hf).1
    unfold Few
    simp only
    omega
  · simp only
    omega
/-- A number among the arguments' cells. -/
theorem openI {fuel : Nat} {v : Value} {x : DataW H × List MemPlace} (h : DataW.trod enc Try.prog W 0 (fun _ => true) true fuel 3 [v] = some x) : ∃ n : Int, v = .int .i64 n ∧ -9223372036854775808 ≤ n ∧ n ≤ 9223372036854775807 := by
  obtain ⟨n, e, _, hw⟩ := DataW.trod_int Try.underlying3 h
  have hb := bounds_i64 hw
  exact ⟨n, by simpa using e, hb.1, hb.2⟩
end
end Go.Proofs.Ytckicbaidbgonaa
end

section
namespace Go.Proofs.Ytckicbaidbgonaa
open Go.RowKit Go.Hay
set_option linter.unusedVariables false
set_option linter.unusedSimpArgs false

structure Bn (w : World) (q : Nat) (cs : List Value) : Prop where
  get : ∀ i u, cs[i]? = some u → w.cell? ⟨q, i, none⟩ = some u
  free : ∀ i, w.frozen? ⟨q, i, none⟩ = false
theorem Bn.new (w : World) (cs : List Value) (t : TypeId) : Bn (w.alloc (.cells cs.toArray t)) w.heap.size cs :=
  ⟨fun i u hu => by
    have e : (w.alloc (.cells cs.toArray t)).cell? ⟨w.heap.size, i, none⟩ = _ := World.cell?_alloc_new w _ _ i
    rw [e]; simpa using hu, fun i => World.frozen?_alloc_new w _ _ i⟩
theorem Bn.lt {w : World} {q : Nat} {cs : List Value} (h : Bn w q cs) (hn : 0 < cs.length) : q < w.heap.size := World.block_lt_of_cell? _ _ (h.get 0 cs[0] (by simp [hn]))
theorem Bn.keptS {w w' : World} {S : List Nat} {q : Nat} {cs : List Value} (h : Bn w q cs) (hk : Kp S w w') (hq : q ∉ S) (hl : q < w.heap.size) : Bn w' q cs :=
  ⟨fun i u hu => (hk.cell (p := ⟨q, i, none⟩) hl hq).trans (h.get i u hu), fun i => (hk.frozen (p := ⟨q, i, none⟩) hl hq).trans (h.free i)⟩
theorem Bn.kept {w w' : World} {q : Nat} {c : Value} {cs : List Value} (h : Bn w q (c :: cs)) (hk : Kp [] w w') : Bn w' q (c :: cs) := h.keptS hk (by simp) (h.lt (by simp))
theorem Bn.set {w : World} {q : Nat} {cs : List Value} (h : Bn w q cs) (i : Nat) (hi : i < cs.length) (v : Value) : Bn (w.setCell ⟨q, i, none⟩ v) q (cs.set i v) :=
  ⟨fun j u hu => by
    by_cases e : j = i
    · subst e
      rw [List.getElem?_set_self hi] at hu
      cases hu
      exact World.cell?_setCell_same _ _ _ (h.get j cs[j] (by simp [hi]))
    · rw [List.getElem?_set_ne (fun h => e h.symm)] at hu
      rw [World.cell?_setCell_other _ _ _ _ (by intro h; simp only [Addr.mk.injEq] at h; omega)]
      exact h.get j u hu, fun j => by rw [World.frozen?_setCell]; exact h.free j⟩
end Go.Proofs.Ytckicbaidbgonaa
end

section
namespace Go.Proofs.Ytckicbaidbgonaa
open Go.RowKit Go.Hay
set_option linter.unusedVariables false
set_option linter.unusedSimpArgs false

def IntE : El Int where
  n := 1
  c x := [.int .i64 x]
  len _ := rfl
  one _ u hu := by simp at hu; subst hu; rfl
  pos := by decide
theorem intAt {w : World} {a : Option Addr} {l : List Int} (h : IntE.See w a l) (j : Nat) (hj : j < l.length) : ∃ g o, a = some ⟨g, o, none⟩ ∧ w.cell? ⟨g, o + j, none⟩ = some (.int .i64 l[j]) := by
  obtain ⟨g, o, e, hc⟩ := h.at (j := j) (x := l[j]) (by simp [hj])
  refine ⟨g, o, e, ?_⟩
  have := hc 0 _ rfl
  simpa [IntE] using this
end Go.Proofs.Ytckicbaidbgonaa
end

section
namespace Go.Proofs.Ytckicbaidbgonaa
open Go.RowKit Go.Hay
set_option linter.unusedVariables false
set_option linter.unusedSimpArgs false

/-- A table. -/
structure Tb where
  nm : ByteArray
  a : Option Addr
  c : Nat
  l : List Col
structure Tb.ok (w : World) (t : Tb) : Prop where
  cols : Cols w t.a t.l
  cap : t.l.length ≤ t.c
  max : t.c ≤ 9223372036854775807
theorem Tb.ok.kept {w w' : World} {t : Tb} (h : t.ok w) (k : Kp [] w w') : t.ok w' := ⟨h.cols.kept k, h.cap, h.max⟩
/-- A projection. -/
structure Pj where
  nm : ByteArray
  tb : Int
  ca : Option Addr
  cc : Nat
  cl : List Int
  sa : Option Addr
  sc : Nat
  sl : List Int
  by_ : Int
  sh : Int
structure Pj.ok (w : World) (p : Pj) : Prop where
  cols : IntE.See w p.ca p.cl
  sort : IntE.See w p.sa p.sl
  ccap : p.cl.length ≤ p.cc
  scap : p.sl.length ≤ p.sc
  cmax : p.cc ≤ 9223372036854775807
  smax : p.sc ≤ 9223372036854775807
theorem Pj.ok.kept {w w' : World} {p : Pj} (h : p.ok w) (k : Kp [] w w') : p.ok w' := ⟨h.cols.keptNew k, h.sort.keptNew k, h.ccap, h.scap, h.cmax, h.smax⟩
instance : Inhabited Tb := ⟨⟨default, none, 0, []⟩⟩
instance : Inhabited Pj := ⟨⟨default, 0, none, 0, [], none, 0, [], 0, 0⟩⟩
def TbE : El Tb where
  n := 2
  c t := [.string t.nm, .slice t.a t.l.length t.c]
  len _ := rfl
  one _ u hu := by simp at hu; rcases hu with rfl | rfl <;> rfl
  pos := by decide
def PjE : El Pj where
  n := 6
  c p := [.string p.nm, .int .i64 p.tb, .slice p.ca p.cl.length p.cc, .slice p.sa p.sl.length p.sc, .int .i64 p.by_, .int .i64 p.sh]
  len _ := rfl
  one _ u hu := by simp at hu; rcases hu with rfl | rfl | rfl | rfl | rfl | rfl <;> rfl
  pos := by decide
theorem tbAt {w : World} {a : Option Addr} {l : List Tb} (h : TbE.See w a l) {j : Nat} {t : Tb} (hx : l[j]? = some t) : ∃ g f, a = some ⟨g, f, none⟩ ∧ w.cell? ⟨g, f + j * 2, none⟩ = some (.string t.nm) ∧ w.cell? ⟨g, f + j * 2 + 1, none⟩ = some (.slice t.a t.l.length t.c) := by
  obtain ⟨g, f, rfl, hc⟩ := h.at hx
  exact ⟨g, f, rfl, hc 0 _ rfl, hc 1 _ rfl⟩
theorem pjAt {w : World} {a : Option Addr} {l : List Pj} (h : PjE.See w a l) {j : Nat} {p : Pj} (hx : l[j]? = some p) : ∃ g f, a = some ⟨g, f, none⟩ ∧ w.cell? ⟨g, f + j * 6, none⟩ = some (.string p.nm) ∧ w.cell? ⟨g, f + j * 6 + 1, none⟩ = some (.int .i64 p.tb) ∧ w.cell? ⟨g, f + j * 6 + 2, none⟩ = some (.slice p.ca p.cl.length p.cc) ∧ w.cell? ⟨g, f + j * 6 + 3, none⟩ = some (.slice p.sa p.sl.length p.sc) ∧ w.cell? ⟨g, f + j * 6 + 4, none⟩ = some (.int .i64 p.by_) ∧ w.cell? ⟨g, f + j * 6 + 5, none⟩ = some (.int .i64 p.sh) := by
  obtain ⟨g, f, rfl, hc⟩ := h.at hx
  exact ⟨g, f, rfl, hc 0 _ rfl, hc 1 _ rfl, hc 2 _ rfl, hc 3 _ rfl, hc 4 _ rfl, hc 5 _ rfl⟩
/-- A catalog. -/
structure Cg where
  n : Int
  s : Int
  k : Int
  ta : Option Addr
  tc : Nat
  tl : List Tb
  pa : Option Addr
  pc : Nat
  pl : List Pj
def Tb.v (t : Tb) : Value := .agg #[.string t.nm, .slice t.a t.l.length t.c]
def Pj.v (p : Pj) : Value := .agg #[.string p.nm, .int .i64 p.tb, .slice p.ca p.cl.length p.cc, .slice p.sa p.sl.length p.sc, .int .i64 p.by_, .int .i64 p.sh]
def Cg.v (c : Cg) : Value := .agg #[.int .i64 c.n, .int .i64 c.s, .int .i64 c.k, .slice c.ta c.tl.length c.tc, .slice c.pa c.pl.length c.pc]
def Cg.cs (c : Cg) : List Value := [.int .i64 c.n, .int .i64 c.s, .int .i64 c.k, .slice c.ta c.tl.length c.tc, .slice c.pa c.pl.length c.pc]
structure Cg.ok (w : World) (c : Cg) : Prop where
  ts : TbE.See w c.ta c.tl
  tok : ∀ t ∈ c.tl, t.ok w
  tcap : c.tl.length ≤ c.tc
  tmax : c.tc ≤ 9223372036854775807
  ps : PjE.See w c.pa c.pl
  pok : ∀ p ∈ c.pl, p.ok w
  pcap : c.pl.length ≤ c.pc
  pmax : c.pc ≤ 9223372036854775807
theorem Cg.ok.kept {w w' : World} {c : Cg} (h : c.ok w) (k : Kp [] w w') : c.ok w' :=
  ⟨h.ts.keptNew k, fun t ht => (h.tok t ht).kept k, h.tcap, h.tmax, h.ps.keptNew k, fun p hp => (h.pok p hp).kept k, h.pcap, h.pmax⟩

/-- Among so many? -/
def wi (x m : Int) : Bool := decide (0 ≤ x) && decide (x < m)
theorem cWithin (x m : Int) (w : World) : Calls Try.prog 49 #[.int .i64 x, .int .i64 m] w fun e w' => e = .returned (.bool (wi x m)) ∧ w' = w := by
  unfold wi
  by_cases h : 0 ≤ x
  · have d : decide (0 ≤ x) = true := by simpa using h
    rw [d]
    go_enter Try.func49, Try.ntmps49
    go_wp2_with fail
    go_returns
    exact ⟨by simp, rfl⟩
  · have d : decide (0 ≤ x) = false := by simpa using h
    rw [d]
    go_enter Try.func49, Try.ntmps49
    go_wp2_with fail
    go_returns
    exact ⟨by simp, rfl⟩
/-- Where a number is among some: -1, if it is not. -/
def ixI (l : List Int) (x : Int) : Int := if x ∈ l then (l.idxOf x : Int) else -1
theorem ixI_at {l : List Int} {x : Int} {j : Nat} (hj : j < l.length) (e : x = l[j]) (h : ∀ y ∈ l.take j, ¬ y = x) : ixI l x = j := by
  have hm : x ∈ l := by rw [e]; exact List.getElem_mem hj
  unfold ixI
  rw [if_pos hm]
  have h1 : l.idxOf x = j := by
    have e1 : l = l.take j ++ x :: l.drop (j + 1) := by rw [e, List.getElem_cons_drop, List.take_append_drop]
    rw [e1, List.idxOf_append, if_neg (fun hx => h x hx rfl)]
    simp [List.length_take]
    omega
  rw [h1]
theorem ixI_none {l : List Int} {x : Int} (h : ∀ y ∈ l, ¬ y = x) : ixI l x = -1 := by
  unfold ixI
  rw [if_neg (fun hx => h x hx rfl)]
theorem ixI_in (l : List Int) (x : Int) : decide (0 ≤ ixI l x) = decide (x ∈ l) := by
  unfold ixI
  by_cases h : x ∈ l
  · rw [if_pos h]; simp [h]
  · rw [if_neg h]; simp [h]
set_option maxHeartbeats 4000000 in
set_option maxRecDepth 100000 in
theorem cIndexI (a : Option Addr) (c : Nat) (l : List Int) (x : Int) (w : World) (hs : IntE.See w a l) (hl : l.length ≤ 9223372036854775807) :
    Calls Try.prog 48 #[.slice a l.length c, .int .i64 x] w fun e w' => e = .returned (.int .i64 (ixI l x)) ∧ Kp [] w w' := by
  obtain ⟨r, hr⟩ : ∃ r, Hid (ixI l x = r) := ⟨_, rfl⟩
  rw [hr.out]
  have hs' := hid hs
  clear hs
  go_enter Try.func48, Try.ntmps48
  go_wp2_with fail
  go_loopw [8] (fun i wr => ∃ j : Nat, j ≤ l.length ∧ i = .int .i64 j ∧ Hid (∀ y ∈ l.take j, ¬ y = x) ∧ Kp [] w wr) (fun i _ => l.length - (intOf i).toNat)
  case atStart => exact ⟨0, Nat.zero_le _, rfl, by intro y hy; simp at hy, Kp.refl _ _⟩
  case round =>
    obtain ⟨j, hj, rfl, hst, kr⟩ := hrel
    by_cases hjl : j < l.length
    · obtain ⟨g, o, rfl, c0⟩ := intAt (hs'.out.keptNew kr) j hjl
      have htk : Hid (l.take (j + 1) = l.take j ++ [l[j]]) := by show _ = _; rw [List.take_succ_eq_append_getElem hjl]
      have i1 : (0 : Int) ≤ (j : Int) := by omega
      have i2 : (j : Int) < (l.length : Int) := by omega
      have i3 : (j : Int) + 1 ≤ 9223372036854775807 := by omega
      obtain ⟨y, hy⟩ : ∃ y, Hid (l[j] = y) := ⟨l[j], hid rfl⟩
      rw [hy.out] at c0
      by_cases he : x = y
      · have d1 : (x == y) = true := by simpa using he
        have hR : Hid (r = j) := by show _ = _; rw [← hr.out]; exact ixI_at hjl (by rw [hy.out]; exact he) hst.out
        clear he
        go_wp2_with fail
        go_ret
        exact ⟨by rw [hR.out]; rfl, kr⟩
      · have d1 : (x == y) = false := by simpa using he
        have he' := hid he
        clear he
        go_wp2_with fail
        refine ⟨⟨j + 1, by omega, by go_num, fun z hz => ?_, kr⟩, by simp [intOf]; omega⟩
        rw [htk.out] at hz
        rcases List.mem_append.1 hz with h | h
        · exact hst.out z h
        · rw [List.mem_singleton, hy.out] at h; subst h; exact fun e => he'.out e.symm
    · have e : j = l.length := by omega
      subst e
      have hR : Hid (r = -1) := by show _ = _; rw [← hr.out]; exact ixI_none (fun z hz => hst.out z (by rw [List.take_length]; exact hz))
      go_wp2_with fail
      go_ret
      exact ⟨by rw [hR.out]; rfl, kr⟩
theorem cContainsI (a : Option Addr) (c : Nat) (l : List Int) (x : Int) (w : World) (hs : IntE.See w a l) (hl : l.length ≤ 9223372036854775807) :
    Calls Try.prog 42 #[.slice a l.length c, .int .i64 x] w fun e w' => e = .returned (.bool (decide (x ∈ l))) ∧ Kp [] w w' := by
  have h := hid (cIndexI a c l x w hs hl)
  rw [← ixI_in l x]
  go_enter Try.func42, Try.ntmps42
  go_wp2_with fail
  refine h.out.mono ?_
  rintro e w' ⟨rfl, k⟩
  go_wp2_with fail
  go_returns
  exact ⟨rfl, k⟩
end Go.Proofs.Ytckicbaidbgonaa
end

section
namespace Go.Proofs.Ytckicbaidbgonaa
open Go.RowKit Go.Hay
set_option linter.unusedVariables false
set_option linter.unusedSimpArgs false

/-- Are nodes, copies and segments so many as they may be? -/
def cntd (c : Cg) : Bool := decide (1 ≤ c.n) && (decide (c.n ≤ 8) && (wi c.k c.n && (decide (1 ≤ c.s) && decide (c.s ≤ 8))))
theorem cntd_iff (c : Cg) : cntd c = true ↔ (1 ≤ c.n ∧ c.n ≤ 8) ∧ (0 ≤ c.k ∧ c.k < c.n) ∧ 1 ≤ c.s ∧ c.s ≤ 8 := by
  unfold cntd wi
  simp
  omega
theorem cCounted (c : Cg) (w : World) : Calls Try.prog 33 #[c.v] w fun e w' => e = .returned (.bool (cntd c)) ∧ Kp [] w w' := by
  have hW := hid (fun w' => cWithin c.k c.n w')
  unfold cntd
  obtain ⟨n, s, k, ta, tc, tl, pa, pc, pl⟩ := c
  simp only [Cg.v] at *
  by_cases h0 : 1 ≤ n
  rotate_left
  · have d0 : decide (1 ≤ n) = false := by simpa using h0
    rw [d0]
    go_enter Try.func33, Try.ntmps33
    go_wp2_with fail
    go_returns
    exact ⟨rfl, (Kp.refl _ _).alloc _⟩
  have d0 : decide (1 ≤ n) = true := by simpa using h0
  rw [d0]
  by_cases h1 : n ≤ 8
  rotate_left
  · have d1 : decide (n ≤ 8) = false := by simpa using h1
    rw [d1]
    go_enter Try.func33, Try.ntmps33
    go_wp2_with fail
    go_returns
    exact ⟨rfl, (Kp.refl _ _).alloc _⟩
  have d1 : decide (n ≤ 8) = true := by simpa using h1
  rw [d1]
  obtain ⟨X, hX⟩ : ∃ X, Hid (wi k n = X) := ⟨_, rfl⟩
  cases X with
  | false =>
    rw [hX.out]
    go_enter Try.func33, Try.ntmps33
    go_wp2_with fail
    refine (hW.out _).mono ?_
    rintro e w' ⟨rfl, rfl⟩
    rw [hX.out]
    go_wp2_with fail
    go_returns
    exact ⟨rfl, (Kp.refl _ _).alloc _⟩
  | true =>
  rw [hX.out]
  by_cases h3 : 1 ≤ s
  rotate_left
  · have d3 : decide (1 ≤ s) = false := by simpa using h3
    rw [d3]
    go_enter Try.func33, Try.ntmps33
    go_wp2_with fail
    refine (hW.out _).mono ?_
    rintro e w' ⟨rfl, rfl⟩
    rw [hX.out]
    go_wp2_with fail
    go_returns
    exact ⟨rfl, (Kp.refl _ _).alloc _⟩
  have d3 : decide (1 ≤ s) = true := by simpa using h3
  rw [d3]
  by_cases h4 : s ≤ 8
  rotate_left
  · have d4 : decide (s ≤ 8) = false := by simpa using h4
    rw [d4]
    go_enter Try.func33, Try.ntmps33
    go_wp2_with fail
    refine (hW.out _).mono ?_
    rintro e w' ⟨rfl, rfl⟩
    rw [hX.out]
    go_wp2_with fail
    go_returns
    exact ⟨rfl, (Kp.refl _ _).alloc _⟩
  have d4 : decide (s ≤ 8) = true := by simpa using h4
  rw [d4]
  go_enter Try.func33, Try.ntmps33
  go_wp2_with fail
  refine (hW.out _).mono ?_
  rintro e w' ⟨rfl, rfl⟩
  rw [hX.out]
  go_wp2_with fail
  go_returns
  exact ⟨rfl, (Kp.refl _ _).alloc _⟩
/-- Places, none twice, all among so many: of the first ones. -/
def plTo (l : List Int) (m : Int) (j : Nat) : Bool := (List.range j).all fun i => wi (l.getD i 0) m && !decide (l.getD i 0 ∈ l.take i)
def plM (l : List Int) (m : Int) : Bool := plTo l m l.length
theorem plTo_succ (l : List Int) (m : Int) (j : Nat) (h : j < l.length) : plTo l m (j + 1) = (plTo l m j && (wi l[j] m && !decide (l[j] ∈ l.take j))) := by
  unfold plTo
  rw [List.range_succ, List.all_append]
  simp [h]
theorem plTo_mono (l : List Int) (m : Int) (j k : Nat) (h : j ≤ k) (hf : plTo l m j = false) : plTo l m k = false := by
  unfold plTo at hf ⊢
  rw [List.all_eq_false] at hf ⊢
  obtain ⟨x, hx, hx2⟩ := hf
  exact ⟨x, List.mem_range.2 (by have := List.mem_range.1 hx; omega), hx2⟩
set_option maxHeartbeats 4000000 in
set_option maxRecDepth 100000 in
theorem cPlaces (a : Option Addr) (c : Nat) (l : List Int) (m : Int) (w : World) (hs : IntE.See w a l) (hl : l.length ≤ c) (hc : c ≤ 9223372036854775807) :
    Calls Try.prog 74 #[.slice a l.length c, .int .i64 m] w fun e w' => e = .returned (.bool (plM l m)) ∧ Kp [] w w' := by
  obtain ⟨r, hr⟩ : ∃ r, Hid (plM l m = r) := ⟨_, rfl⟩
  rw [hr.out]
  have hs' := hid hs
  clear hs
  go_enter Try.func74, Try.ntmps74
  go_wp2_with fail
  go_loopw [9] (fun i wr => ∃ j : Nat, j ≤ l.length ∧ i = .int .i64 j ∧ Hid (plTo l m j = true) ∧ Kp [] w wr) (fun i _ => l.length - (intOf i).toNat)
  case atStart => exact ⟨0, Nat.zero_le _, rfl, hid rfl, Kp.refl _ _⟩
  case round =>
    obtain ⟨j, hj, rfl, hst, kr⟩ := hrel
    by_cases hjl : j < l.length
    · obtain ⟨g, o, rfl, c0⟩ := intAt (hs'.out.keptNew kr) j hjl
      have hsu := hid (plTo_succ l m j hjl)
      have hmo := hid (plTo_mono l m (j + 1) l.length (by omega))
      have i1 : (0 : Int) ≤ (j : Int) := by omega
      have i2 : (j : Int) < (l.length : Int) := by omega
      have i3 : (j : Int) + 1 ≤ 9223372036854775807 := by omega
      have i4 : (j : Int) ≤ (c : Int) := by omega
      have hj2 : (l.take j).length = j := by rw [List.length_take]; omega
      obtain ⟨y, hy⟩ : ∃ y, Hid (l[j] = y) := ⟨l[j], hid rfl⟩
      have aC := hid (fun w' (k : Kp [] wr w') => cContainsI (some ⟨g, o, none⟩) c (l.take j) y w' (((hs'.out.keptNew kr).keptNew k).front j) (by omega))
      rw [hj2] at aC
      rw [hy.out] at c0 hsu
      obtain ⟨X, hX⟩ : ∃ X, Hid (wi y m = X) := ⟨_, rfl⟩
      obtain ⟨Z, hZ⟩ : ∃ Z, Hid (decide (y ∈ l.take j) = Z) := ⟨_, rfl⟩
      have aW := hid (cWithin y m)
      rw [hX.out] at aW
      rw [hZ.out] at aC
      rw [hX.out, hZ.out, hst.out] at hsu
      clear hj2 hX hZ hy
      cases X with
      | false =>
        have hR : Hid (r = false) := by show _ = _; rw [← hr.out]; exact hmo.out hsu.out
        go_wp2_with fail
        refine (aW.out _).mono ?_
        rintro e w2 ⟨rfl, rfl⟩
        go_wp2_with fail
        go_ret
        exact ⟨by rw [hR.out]; rfl, kr⟩
      | true =>
        go_wp2_with fail
        refine (aW.out _).mono ?_
        rintro e w2 ⟨rfl, rfl⟩
        go_wp2_with fail
        refine (aC.out _ (Kp.refl _ _)).mono ?_
        rintro e w3 ⟨rfl, k3⟩
        have kw3 := kr.trans k3 (by simp)
        clear k3 aC aW c0
        cases Z with
        | true =>
          have hR : Hid (r = false) := by show _ = _; rw [← hr.out]; exact hmo.out hsu.out
          go_wp2_with fail
          go_ret
          exact ⟨by rw [hR.out]; rfl, kw3⟩
        | false =>
          go_wp2_with fail
          exact ⟨⟨j + 1, by omega, by go_num, hsu, kw3⟩, by simp [intOf]; omega⟩
    · have e : j = l.length := by omega
      subst e
      have hR : Hid (r = true) := by show _ = _; rw [← hr.out]; exact hst.out
      go_wp2_with fail
      go_ret
      exact ⟨by rw [hR.out]; rfl, kr⟩
/-- Are all of some places among others? -/
def hvC (C P : List Int) : Bool := P.all fun x => decide (x ∈ C)
set_option maxHeartbeats 4000000 in
set_option maxRecDepth 100000 in
theorem cColsHave (p : Pj) (a : Option Addr) (c : Nat) (l : List Int) (w : World) (hp : p.ok w) (hs : IntE.See w a l) (hl : l.length ≤ 9223372036854775807) :
    Calls Try.prog 75 #[p.v, .slice a l.length c] w fun e w' => e = .returned (.bool (hvC p.cl l)) ∧ Kp [] w w' := by
  obtain ⟨r, hr⟩ : ∃ r, Hid (hvC p.cl l = r) := ⟨_, rfl⟩
  rw [hr.out]
  have hs' := hid hs
  have hp' := hid hp
  obtain ⟨W1, eW⟩ : ∃ W1, w.alloc (.cells #[.string p.nm, .int .i64 p.tb, .slice p.ca p.cl.length p.cc, .slice p.sa p.sl.length p.sc, .int .i64 p.by_, .int .i64 p.sh] 48) = W1 := ⟨_, rfl⟩
  have kW : Kp [] w W1 := by rw [← eW]; exact (Kp.refl _ _).alloc _
  have bW : Bn W1 w.heap.size [.string p.nm, .int .i64 p.tb, .slice p.ca p.cl.length p.cc, .slice p.sa p.sl.length p.sc, .int .i64 p.by_, .int .i64 p.sh] := by rw [← eW]; exact Bn.new w _ _
  clear hs hp
  simp only [Pj.v]
  go_enter Try.func75, Try.ntmps75
  go_wp2_with fail
  go_loopw [9] (fun i wr => ∃ j : Nat, j ≤ l.length ∧ i = .int .i64 j ∧ Hid (hvC p.cl (l.take j) = true) ∧ Bn wr w.heap.size [.string p.nm, .int .i64 p.tb, .slice p.ca p.cl.length p.cc, .slice p.sa p.sl.length p.sc, .int .i64 p.by_, .int .i64 p.sh] ∧ Kp [] w wr) (fun i _ => l.length - (intOf i).toNat)
  case atStart => exact ⟨0, Nat.zero_le _, rfl, hid rfl, bW, kW⟩
  case round =>
    obtain ⟨j, hj, rfl, hst, bx, kr⟩ := hrel
    clear eW bW kW
    by_cases hjl : j < l.length
    · obtain ⟨g, o, rfl, c0⟩ := intAt (hs'.out.keptNew kr) j hjl
      have htk : Hid (l.take (j + 1) = l.take j ++ [l[j]]) := by show _ = _; rw [List.take_succ_eq_append_getElem hjl]
      have hmm : Hid (l[j] ∈ l) := List.getElem_mem hjl
      have i1 : (0 : Int) ≤ (j : Int) := by omega
      have i2 : (j : Int) < (l.length : Int) := by omega
      have i3 : (j : Int) + 1 ≤ 9223372036854775807 := by omega
      obtain ⟨y, hy⟩ : ∃ y, Hid (l[j] = y) := ⟨l[j], hid rfl⟩
      rw [hy.out] at c0 htk hmm
      have b2 := bx.get 2 _ rfl
      obtain ⟨X, hX⟩ : ∃ X, Hid (decide (y ∈ p.cl) = X) := ⟨_, rfl⟩
      have aC := hid (cContainsI p.ca p.cc p.cl y wr (hp'.out.cols.keptNew kr) (by have := hp'.out.ccap; have := hp'.out.cmax; omega))
      rw [hX.out] at aC
      have hX2 : Hid (hvC p.cl (l.take (j + 1)) = X) := by
        show _ = _
        rw [htk.out]
        unfold hvC at hst ⊢
        rw [List.all_append, hst.out]
        simp [hX.out]
      have hX3 : Hid (X = false → hvC p.cl l = false) := fun e => by
        unfold hvC
        rw [List.all_eq_false]
        exact ⟨y, hmm.out, by rw [hX.out, e]; simp⟩
      clear hy htk hmm hX
      go_wp2_with fail
      refine aC.out.mono ?_
      rintro e w3 ⟨rfl, k3⟩
      have kw3 := kr.trans k3 (by simp)
      have bx3 := bx.kept k3
      clear k3 aC c0 bx b2
      cases X with
      | false =>
        have hR : Hid (r = false) := by show _ = _; rw [← hr.out]; exact hX3.out rfl
        go_wp2_with fail
        go_ret
        exact ⟨by rw [hR.out]; rfl, kw3⟩
      | true =>
        go_wp2_with fail
        exact ⟨⟨j + 1, by omega, by go_num, hX2, bx3, kw3⟩, by simp [intOf]; omega⟩
    · have e : j = l.length := by omega
      subst e
      have hR : Hid (r = true) := by show _ = _; rw [← hr.out]; rw [← hst.out, List.take_length]
      go_wp2_with fail
      go_ret
      exact ⟨by rw [hR.out]; rfl, kr⟩
end Go.Proofs.Ytckicbaidbgonaa
end

section
namespace Go.Proofs.Ytckicbaidbgonaa
open Go.RowKit Go.Hay
set_option linter.unusedVariables false
set_option linter.unusedSimpArgs false

theorem or64 (A n : Nat) (hA : A < 256) (hn : n < 8) : bits .or .u64 (A : Int) (IntKind.u64.wrap (2 ^ n)) = ((A ||| 2 ^ n : Nat) : Int) := by
  have h2 : 2 ^ n < 2 ^ 8 := Nat.pow_lt_pow_right (by omega) hn
  have e : ((2 : Int) ^ n) = ((2 ^ n : Nat) : Int) := by simp
  rw [e]
  generalize 2 ^ n = m at *
  have hw : IntKind.u64.wrap (m : Int) = (m : Int) := by rw [IntKind.wrap_u64]; omega
  rw [hw]
  exact u64_or_nat A m (by omega) (by omega)
/-- A bit for each place. -/
def cbt : List Int → Nat := fun l => l.foldl (fun b p => b ||| 2 ^ p.toNat) 0
theorem cbt_succ (l : List Int) (j : Nat) (h : j < l.length) : cbt (l.take (j + 1)) = cbt (l.take j) ||| 2 ^ l[j].toNat := by
  unfold cbt
  rw [List.take_succ_eq_append_getElem h, List.foldl_append]
  rfl
theorem cbt_lt : ∀ (l : List Int) (b : Nat), b < 256 → (∀ y ∈ l, 0 ≤ y ∧ y < 8) → l.foldl (fun b p => b ||| 2 ^ p.toNat) b < 256
  | [], b, h, _ => h
  | y :: l, b, h, hl => by
    have hy := hl y (by simp)
    refine cbt_lt l (b ||| 2 ^ y.toNat) ?_ (fun z hz => hl z (by simp [hz]))
    have h2 : 2 ^ y.toNat < 2 ^ 8 := Nat.pow_lt_pow_right (by omega) (by omega)
    exact Nat.or_lt_two_pow (n := 8) h h2
set_option maxHeartbeats 4000000 in
set_option maxRecDepth 100000 in
theorem cBits (p : Pj) (w : World) (hp : p.ok w) (h8 : ∀ y ∈ p.cl, 0 ≤ y ∧ y < 8) :
    Calls Try.prog 77 #[p.v] w fun e w' => e = .returned (.int .u64 (cbt p.cl : Int)) ∧ Kp [] w w' := by
  have hp' := hid hp
  have h8' := hid h8
  have hlen : p.cl.length ≤ 9223372036854775807 := by have := hp.ccap; have := hp.cmax; omega
  obtain ⟨W1, eW⟩ : ∃ W1, w.alloc (.cells #[.string p.nm, .int .i64 p.tb, .slice p.ca p.cl.length p.cc, .slice p.sa p.sl.length p.sc, .int .i64 p.by_, .int .i64 p.sh] 48) = W1 := ⟨_, rfl⟩
  have kW : Kp [] w W1 := by rw [← eW]; exact (Kp.refl _ _).alloc _
  have bW : Bn W1 w.heap.size [.string p.nm, .int .i64 p.tb, .slice p.ca p.cl.length p.cc, .slice p.sa p.sl.length p.sc, .int .i64 p.by_, .int .i64 p.sh] := by rw [← eW]; exact Bn.new w _ _
  have b2 := bW.get 2 _ rfl
  clear hp h8
  obtain ⟨nm, tb, ca, cc, cl, sa, sc, sl, by_, sh⟩ := p
  simp only [Pj.v] at *
  go_enter Try.func77, Try.ntmps77
  go_wp2_with fail
  go_loopw [3, 9] (fun b i wr => ∃ j : Nat, j ≤ cl.length ∧ i = .int .i64 j ∧ (∃ B : Nat, b = .int .u64 (B : Int) ∧ B < 256 ∧ Hid (cbt (cl.take j) = B)) ∧ Kp [] w wr) (fun _ i _ => cl.length - (intOf i).toNat)
  case atStart => exact ⟨0, Nat.zero_le _, rfl, ⟨0, rfl, by omega, hid rfl⟩, kW⟩
  case round =>
    obtain ⟨j, hj, rfl, ⟨B, rfl, hB, hb⟩, kr⟩ := hrel
    clear eW bW kW b2
    by_cases hjl : j < cl.length
    · obtain ⟨g, o, rfl, c0⟩ := intAt (hp'.out.cols.keptNew kr) j hjl
      have hsu := hid (cbt_succ cl j hjl)
      have hlt : Hid (cbt (cl.take (j + 1)) < 256) := cbt_lt _ 0 (by omega) (fun y hy => h8'.out y (List.mem_of_mem_take hy))
      have i1 : (0 : Int) ≤ (j : Int) := by omega
      have i2 : (j : Int) < (cl.length : Int) := by omega
      have i3 : (j : Int) + 1 ≤ 9223372036854775807 := by omega
      have hy8 := h8'.out _ (List.getElem_mem hjl)
      obtain ⟨y, hy⟩ : ∃ y, cl[j] = y := ⟨cl[j], rfl⟩
      rw [hy] at c0 hsu hy8
      obtain ⟨n, rfl⟩ := Int.eq_ofNat_of_zero_le hy8.1
      have hn8 : n < 8 := by omega
      have e1 := or64 B n hB hn8
      have hB2 : Hid (cbt (cl.take (j + 1)) = B ||| 2 ^ n) := by show _ = _; rw [hsu.out, hb.out]; simp
      rw [hB2.out] at hlt
      obtain ⟨B2, hB3⟩ : ∃ B2, B ||| 2 ^ n = B2 := ⟨_, rfl⟩
      rw [hB3] at hB2 hlt e1
      clear hB3 hsu hy
      go_wp2_with fail
      exact ⟨⟨j + 1, by omega, by go_num, ⟨B2, rfl, hlt.out, hB2⟩, kr⟩, by simp [intOf]; omega⟩
    · have e : j = cl.length := by omega
      subst e
      rw [List.take_length] at hb
      go_wp2_with fail
      go_ret
      exact ⟨by rw [hb.out]; rfl, kr⟩
end Go.Proofs.Ytckicbaidbgonaa
end

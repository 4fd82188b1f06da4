/- Rows of structs, for any element: how a slice of them lies in memory, how it grows, how it is copied onto itself. No statement of the seat is proved here. -/
import Derived.Test.YtgllkonbgigcbabMem
import Derived.Laws.IdiomCopy
import Derived.Deep.RegionLaw
namespace Go.Hay
open Go.RowKit

/-- How an element lies in cells. -/
structure El (α : Type) where
  n : Nat
  c : α → List Value
  len : ∀ x, (c x).length = n
  one : ∀ x, ∀ u ∈ c x, u.oneCell' = true
  pos : 0 < n
section
variable {α : Type} (E : El α)
def El.cs (l : List α) : List Value := l.flatMap E.c
theorem El.cs_cons (x : α) (l : List α) : E.cs (x :: l) = E.c x ++ E.cs l := rfl
theorem El.cs_append (a b : List α) : E.cs (a ++ b) = E.cs a ++ E.cs b := by simp [El.cs]
theorem El.cs_length (l : List α) : (E.cs l).length = l.length * E.n := by
  induction l with
  | nil => simp [El.cs]
  | cons x l ih => rw [El.cs_cons, List.length_append, E.len, ih, List.length_cons, Nat.succ_mul]; omega
theorem El.cs_one (l : List α) : ∀ u ∈ E.cs l, u.oneCell' = true := by
  intro u hu
  obtain ⟨x, _, hx⟩ := List.mem_flatMap.1 hu
  exact E.one x u hx
theorem El.cs_drop (l : List α) : ∀ i, E.cs (l.drop i) = (E.cs l).drop (i * E.n) := by
  induction l with
  | nil => intro i; simp [El.cs]
  | cons x l ih =>
    intro i
    cases i with
    | zero => simp
    | succ i =>
      rw [List.drop_succ_cons, ih i, El.cs_cons, Nat.succ_mul, Nat.add_comm, ← List.drop_drop, List.drop_left' (E.len x)]
theorem El.cs_take (l : List α) : ∀ i, E.cs (l.take i) = (E.cs l).take (i * E.n) := by
  induction l with
  | nil => intro i; simp [El.cs]
  | cons x l ih =>
    intro i
    cases i with
    | zero => simp [El.cs]
    | succ i =>
      rw [List.take_succ_cons, El.cs_cons, ih i, El.cs_cons, Nat.succ_mul, Nat.add_comm, List.take_append, E.len, List.take_of_length_le (l := E.c x) (by rw [E.len]; omega), Nat.add_sub_cancel_left]
theorem El.cs_get {l : List α} {j k : Nat} {x : α} (h : l[j]? = some x) (hk : k < E.n) : (E.cs l)[j * E.n + k]? = (E.c x)[k]? := by
  have e := El.cs_drop E l j
  have hl : l.drop j = x :: l.drop (j + 1) := by
    obtain ⟨h1, rfl⟩ := List.getElem?_eq_some_iff.1 h
    exact List.drop_eq_getElem_cons h1
  rw [hl, El.cs_cons] at e
  have : (E.cs l)[j * E.n + k]? = ((E.cs l).drop (j * E.n))[k]? := by rw [List.getElem?_drop]
  rw [this, ← e, List.getElem?_append_left (by rw [E.len]; exact hk)]

/-- What a slice of elements sees. -/
def El.See (w : World) (a : Option Addr) (l : List α) : Prop :=
  l = [] ∨ ∃ g o, a = some ⟨g, o, none⟩ ∧ ∀ j u, (E.cs l)[j]? = some u → w.cell? ⟨g, o + j, none⟩ = some u
variable {E}
theorem El.See.nil (w : World) (a : Option Addr) : E.See w a [] := .inl rfl
theorem El.See.kept {w w' : World} {a : Option Addr} {l : List α} {S : List Nat} (h : E.See w a l) (hk : Kp S w w') (hn : l ≠ [] → ∀ k ∈ blk a, k ∉ S) : E.See w' a l := by
  rcases h with rfl | ⟨g, o, rfl, hc⟩
  · exact .inl rfl
  · by_cases hl : l = []
    · exact .inl hl
    · exact .inr ⟨g, o, rfl, fun j u hu => (hk.cell (World.block_lt_of_cell? _ _ (hc j u hu)) (hn hl g (by simp [blk]))).trans (hc j u hu)⟩
theorem El.See.keptNew {w w' : World} {a : Option Addr} {l : List α} (h : E.See w a l) (hk : Kp [] w w') : E.See w' a l := h.kept hk (by simp)
theorem El.See.at {w : World} {a : Option Addr} {l : List α} (h : E.See w a l) {j : Nat} {x : α} (hx : l[j]? = some x) : ∃ g o, a = some ⟨g, o, none⟩ ∧ ∀ k u, (E.c x)[k]? = some u → w.cell? ⟨g, o + j * E.n + k, none⟩ = some u := by
  rcases h with rfl | ⟨g, o, rfl, hc⟩
  · simp at hx
  · refine ⟨g, o, rfl, fun k u hu => ?_⟩
    have hk : k < E.n := by have := (List.getElem?_eq_some_iff.1 hu).1; rwa [E.len] at this
    rw [Nat.add_assoc]
    exact hc _ _ ((El.cs_get E hx hk).trans hu)
theorem El.See.lt {w : World} {a : Option Addr} {l : List α} (h : E.See w a l) (hl : l ≠ []) : ∀ k ∈ blk a, k < w.heap.size := by
  cases l with
  | nil => exact absurd rfl hl
  | cons x l =>
    obtain ⟨g, o, rfl, hc⟩ := h.at (j := 0) (x := x) rfl
    intro k hk
    simp [blk] at hk
    subst hk
    have h0 : 0 < (E.c x).length := by rw [E.len]; exact E.pos
    exact World.block_lt_of_cell? _ _ (hc 0 _ (List.getElem?_eq_getElem h0))
theorem El.See.src {P : Program} {w : World} {a : Option Addr} {l : List α} (h : E.See w a l) {t e : TypeId} (ht : P.underlying t = some (.slice e)) (c : Nat) : Src P E.n t (.slice a l.length c) l.length (E.cs l) w := by
  rcases h with rfl | ⟨g, o, rfl, hc⟩
  · cases a with
    | none => exact Src.ofNil w ht c
    | some ad => exact Src.ofSlice w ht ad 0 c [] (by simp) (by intro j u hu; simp at hu) (by intro u hu; simp at hu)
  · exact Src.ofSlice w ht ⟨g, o, none⟩ l.length c (E.cs l) (El.cs_length E l) (fun j u hu => by rw [Addr.add_lit]; exact hc j u hu) (El.cs_one E l)
theorem El.See.front {w : World} {a : Option Addr} {l : List α} (h : E.See w a l) (i : Nat) : E.See w a (l.take i) := by
  rcases h with rfl | ⟨g, o, rfl, hc⟩
  · exact .inl (by simp)
  · refine .inr ⟨g, o, rfl, fun j u hu => ?_⟩
    rw [El.cs_take, List.getElem?_take] at hu
    split at hu
    · exact hc j u hu
    · cases hu

variable (E)
/-- A row of elements of the calls' own: its cells are there, none is frozen. -/
def El.Row (w : World) (v : Value) (l : List α) : Prop :=
  (v = .slice none 0 0 ∧ l = []) ∨ ∃ g o cap, v = .slice (some ⟨g, o, none⟩) l.length cap ∧ l.length ≤ cap ∧ cap ≤ maxLen ∧ g < w.heap.size ∧
    (∀ j u, (E.cs l)[j]? = some u → w.cell? ⟨g, o + j, none⟩ = some u) ∧ ∀ j, j < cap * E.n → (w.cell? ⟨g, o + j, none⟩).isSome = true ∧ w.frozen? ⟨g, o + j, none⟩ = false
variable {E}
theorem El.Row.nil (w : World) : E.Row w (.slice none 0 0) [] := .inl ⟨rfl, rfl⟩
theorem El.Row.lt {w : World} {v : Value} {l : List α} (h : E.Row w v l) : ∀ k ∈ own v, k < w.heap.size := by
  rcases h with ⟨rfl, _⟩ | ⟨g, o, cap, rfl, _, _, hg, _⟩
  · intro k hk; simp [own, Value.ownBlock] at hk
  · intro k hk; simp [own, Value.ownBlock] at hk; omega
theorem El.Row.see {w : World} {v : Value} {l : List α} (h : E.Row w v l) : ∃ a c, v = .slice a l.length c ∧ E.See w a l ∧ (a = none → l = [] ∧ c = 0) ∧ l.length ≤ c ∧ c ≤ maxLen ∧ own v = blk a := by
  rcases h with ⟨rfl, rfl⟩ | ⟨g, o, cap, rfl, hl, hm, hg, hc, ht⟩
  · exact ⟨none, 0, rfl, .inl rfl, fun _ => ⟨rfl, rfl⟩, Nat.le_refl _, Nat.zero_le _, rfl⟩
  · exact ⟨_, _, rfl, .inr ⟨g, o, rfl, hc⟩, fun h => (by cases h), hl, hm, rfl⟩
theorem El.Row.kept {w w' : World} {v : Value} {l : List α} {S : List Nat} (h : E.Row w v l) (hk : Kp S w w') (hn : ∀ k ∈ own v, k ∉ S) : E.Row w' v l := by
  rcases h with h | ⟨g, o, cap, rfl, hl, hm, hg, hc, ht⟩
  · exact .inl h
  · have hgS : g ∉ S := hn g (by simp [own, Value.ownBlock])
    have e1 : ∀ j, w'.cell? ⟨g, o + j, none⟩ = w.cell? ⟨g, o + j, none⟩ := fun j => hk.cell (p := ⟨g, o + j, none⟩) hg hgS
    have e2 : ∀ j, w'.frozen? ⟨g, o + j, none⟩ = w.frozen? ⟨g, o + j, none⟩ := fun j => hk.frozen (p := ⟨g, o + j, none⟩) hg hgS
    exact .inr ⟨g, o, cap, rfl, hl, hm, Nat.lt_of_lt_of_le hg hk.size, fun j u hu => (e1 j).trans (hc j u hu), fun j hj => by rw [e1, e2]; exact ht j hj⟩
theorem El.Row.keptNew {w w' : World} {v : Value} {l : List α} (h : E.Row w v l) (hk : Kp [] w w') : E.Row w' v l := h.kept hk (by simp)

theorem grown_cellsG (w : World) (g : Nat) (xs : List Value) (z : Array Value) (h : g = w.heap.size) (t : TypeId) : ∀ j u, xs[j]? = some u → (w.alloc (.cells (xs.toArray ++ z) t)).cell? ⟨g, 0 + j, none⟩ = some u := by
  subst h
  intro j u hu
  have hj : j < xs.length := (List.getElem?_eq_some_iff.1 hu).1
  have e1 : (w.alloc (.cells (xs.toArray ++ z) t)).cell? ⟨w.heap.size, 0 + j, none⟩ = _ := World.cell?_alloc_new w _ _ (0 + j)
  rw [e1, Nat.zero_add, Array.getElem?_append_left (by simp only [List.size_toArray]; exact hj), List.getElem?_toArray, hu]

/-- An append of elements, out of whatever yields them, onto a row of the call's own. -/
theorem run_appendG {P : Program} (w : World) (t tx ty e : TypeId) (i : TypeInfo) (z : Value) (bytes : Nat) (ht : P.underlying t = some (.slice e)) (hi : P.info? e = some i) (hz : i.zero = some z) (hsize : i.size = E.n) (hby : i.bytes = bytes) (hzs : z.cells.size = E.n)
    (v : Value) (xs : List α) (hown : E.Row w v xs) (x : Value) (bs : List α) (hs : Src P E.n tx x bs.length (E.cs bs) w) (hb : (xs.length + bs.length + (xs.length + bs.length) / 4 + 192) * bytes ≤ 281474976710656) (h63 : xs.length + bs.length ≤ 100000000000000) :
    ∃ v' w', (Builtin.append_ #[t, tx] ty #[v, x]).run P w = .ok v' w' ∧ E.Row w' v' (xs ++ bs) ∧ Kp (own v) w w' ∧ ∀ k ∈ own v', k ∈ own v ∨ w.heap.size ≤ k := by
  have hs' := hs
  rw [← hsize] at hs'
  have grow : ∀ (ao : Option Addr) (cap : Nat), v = .slice ao xs.length cap → cap < xs.length + bs.length → (Builtin.firstCells i.size xs.length (.slice ao xs.length cap)).run P w.drew = .ok (E.cs xs).toArray w.drew →
      ∃ v' w', (Builtin.append_ #[t, tx] ty #[v, x]).run P w = .ok v' w' ∧ E.Row w' v' (xs ++ bs) ∧ Kp (own v) w w' ∧ ∀ k ∈ own v', k ∈ own v ∨ w.heap.size ≤ k := by
    rintro ao cap rfl hlt hold
    have hrun := run_append_grow_src (P := P) w t tx ty e i z ht hi hz ao xs.length cap (E.cs xs) hold x bs.length (E.cs bs) hs' hlt (by omega) (growslice_fits_wide hlt (by rw [hby]; exact hb))
    have hge := grownCap_ge w (xs.length + bs.length) cap e
    have hcm := grownCap_le_maxLen w (xs.length + bs.length) cap e (by unfold maxLen; omega)
    rw [← El.cs_append] at hrun
    refine ⟨_, _, hrun, .inr ⟨w.heap.size, 0, _, by rw [List.length_append], by rw [List.length_append]; omega, hcm, by simp, ?_, ?_⟩, (Kp.refl _ w).drew.alloc _, ?_⟩
    · exact grown_cellsG w.drew _ (E.cs (xs ++ bs)) _ rfl _
    · intro j hj
      refine ⟨?_, World.frozen?_alloc_new w.drew _ _ (0 + j)⟩
      have e1 := World.cell?_alloc_new w.drew ((E.cs (xs ++ bs)).toArray ++ Builtin.zeroCells z.cells (grownCap w (xs.length + bs.length) cap e - (xs.length + bs.length))) e (0 + j)
      have hsz : ((E.cs (xs ++ bs)).toArray ++ Builtin.zeroCells z.cells (grownCap w (xs.length + bs.length) cap e - (xs.length + bs.length))).size = grownCap w (xs.length + bs.length) cap e * E.n := by
        rw [Array.size_append, List.size_toArray, El.cs_length, List.length_append, size_zeroCells, hzs, ← Nat.add_mul]
        congr 1
        omega
      refine (congrArg Option.isSome e1).trans ?_
      rw [Nat.zero_add, Array.getElem?_eq_getElem (by rw [hsz]; exact hj)]
      rfl
    · intro k hk
      simp [own, Value.ownBlock] at hk
      omega
  rcases hown with ⟨rfl, rfl⟩ | ⟨g, o, cap, rfl, hl, hm, hg, hc, ht'⟩
  · rcases Nat.eq_zero_or_pos bs.length with h0 | h0
    · obtain rfl : bs = [] := List.length_eq_zero_iff.1 h0
      exact ⟨_, _, run_append_nothing (P := P) w t tx ty e i ht hi none 0 0 (Nat.le_refl _) x hs', .inl ⟨rfl, rfl⟩, Kp.refl _ _, fun _ h => .inl h⟩
    · exact grow none 0 rfl (by simpa using h0) (run_firstCells_none w.drew i.size 0 0 0)
  · by_cases hroom : xs.length + bs.length ≤ cap
    · have hmul : (xs.length + bs.length) * E.n ≤ cap * E.n := Nat.mul_le_mul_right _ hroom
      rw [Nat.add_mul] at hmul
      have hsome : ∀ j, j < (E.cs bs).length → (w.cell? ⟨g, o + xs.length * i.size + j, none⟩).isSome = true := fun j hj => by
        rw [El.cs_length] at hj; rw [hsize, Nat.add_assoc]; exact (ht' _ (by omega)).1
      have hrun := run_append_room_src (P := P) w t tx ty e i ht hi g o xs.length cap x bs.length (E.cs bs) hs' hroom hsome
        (fun j hj => by rw [El.cs_length] at hj; rw [hsize, Nat.add_assoc]; exact (ht' _ (by omega)).2)
      rw [hsize] at hsome
      rw [hsize] at hrun
      refine ⟨_, _, hrun, .inr ⟨g, o, cap, by rw [List.length_append], by rw [List.length_append]; omega, hm, by rw [size_setCells]; exact hg, ?_, ?_⟩, (Kp.refl _ w).setCells (by simp [own, Value.ownBlock]) _ _, fun k hk => .inl hk⟩
      · intro j u hu
        rw [El.cs_append] at hu
        by_cases hj : j < (E.cs xs).length
        · rw [World.cell?_setCells_out g _ _ _ _ (fun _ _ => Or.inl (by show o + j < o + xs.length * E.n; rw [El.cs_length] at hj; omega))]
          rw [List.getElem?_append_left hj] at hu
          exact hc j u hu
        · rw [List.getElem?_append_right (by omega)] at hu
          have hj2 : j - (E.cs xs).length < (E.cs bs).length := (List.getElem?_eq_some_iff.1 hu).1
          have := World.cell?_setCells_in g (E.cs bs) (o + xs.length * E.n) w hsome (j - (E.cs xs).length) hj2
          rw [← List.getElem?_eq_getElem hj2, hu] at this
          rw [El.cs_length] at hj this
          rw [show o + xs.length * E.n + (j - xs.length * E.n) = o + j by omega] at this
          exact this
      · intro j hj
        refine ⟨?_, (World.frozen?_setCells g _ _ _ _).trans (ht' j hj).2⟩
        by_cases hin : xs.length * E.n ≤ j ∧ j < xs.length * E.n + (E.cs bs).length
        · have := World.cell?_setCells_in g (E.cs bs) (o + xs.length * E.n) w hsome (j - xs.length * E.n) (by omega)
          rw [show o + xs.length * E.n + (j - xs.length * E.n) = o + j by omega] at this
          rw [this]; rfl
        · rw [World.cell?_setCells_out g _ _ _ _ (fun _ _ => by show o + j < o + xs.length * E.n ∨ o + xs.length * E.n + (E.cs bs).length ≤ o + j; omega)]
          exact (ht' j hj).1
    · refine grow (some ⟨g, o, none⟩) cap rfl (by omega) ?_
      exact run_firstCells_some w.drew i.size xs.length ⟨g, o, none⟩ xs.length cap (E.cs xs) (by rw [El.cs_length, hsize]) (fun j u hu => by rw [Addr.add_lit]; exact hc j u hu)

/-- .. for the walk. -/
theorem wpAppG {P : Program} {w : World} {ops : Array Oper} {rest : List Oper} {o : Oper} {a : Act} {Q : Exit → Act → World → Prop} (hgd : o.guard = none) (s x : Operand) (t tx e : TypeId)
    (ho : o.op = .call { callee := .builtin .append, args := #[s, x], argTypes := #[t, tx] })
    (i : TypeInfo) (z : Value) (bytes : Nat) (ht : P.underlying t = some (.slice e)) (hi : P.info? e = some i) (hz : i.zero = some z) (hsize : i.size = E.n) (hby : i.bytes = bytes) (hzs : z.cells.size = E.n)
    (v : Value) (xs : List α) (hv : a.eval s = v) (hown : E.Row w v xs) (xv : Value) (bs : List α) (hx : a.eval x = xv) (hs : Src P E.n tx xv bs.length (E.cs bs) w) (hb : (xs.length + bs.length + (xs.length + bs.length) / 4 + 192) * bytes ≤ 281474976710656) (h63 : xs.length + bs.length ≤ 100000000000000)
    (hK : ∀ l' a' c' w', Hid (l' = xs ++ bs) → E.Row w' (.slice a' l'.length c') l' → Kp (own v) w w' → (∀ k ∈ blk a', k ∈ own v ∨ w.heap.size ≤ k) → wpList P ops Q rest (a.put o.dst (.slice a' l'.length c')) w') : wpList P ops Q (o :: rest) a w := by
  refine wpList_plain hgd fun K hK' => ?_
  obtain ⟨v', w', hrun, h1, h2, h3⟩ := run_appendG (P := P) w t tx o.type e i z bytes ht hi hz hsize hby hzs v xs hown xv bs hs hb h63
  obtain ⟨l', hl'⟩ : ∃ l', l' = xs ++ bs := ⟨_, rfl⟩
  rw [← hl'] at h1
  obtain ⟨a', c', rfl, _, _, _, _, eo⟩ := h1.see
  have hfin := hK' _ _ (hK l' a' c' w' hl' h1 h2 (fun k hk => h3 k (by rw [eo]; exact hk)))
  unfold Oper.wp
  simp [execOp, ho, resolve, invoke, builtin, hv, hx, hrun, Result.andThen]
  exact hfin
end
theorem run_copyG {P : Program} (w : World) (dT sT ty elem : TypeId) (i : TypeInfo) (hu : P.underlying dT = some (.slice elem)) (hi : P.info? elem = some i) (b o dLen dCap : Nat) (a : Addr) (sLen sCap : Nat) (hsd : sLen ≤ dLen) (cs : List Value)
    (hn : cs.length = sLen * i.size) (hsrc : ∀ j v, cs[j]? = some v → w.cell? (a.add j) = some v) (hc : ∀ j, j < cs.length → (w.cell? ⟨b, o + j, none⟩).isSome = true) (hf : ∀ j, j < cs.length → w.frozen? ⟨b, o + j, none⟩ = false) (h1 : ∀ v ∈ cs, v.oneCell' = true) :
    (Builtin.copy_ #[dT, sT] ty #[.slice (some ⟨b, o, none⟩) dLen dCap, .slice (some a) sLen sCap]).run P w = .ok (goInt sLen) (w.setCells b o cs) := by
  have hl := run_loadCells_list (P := P) w a cs hsrc
  have hst := run_storeCells_cells (P := P) b o cs 0 w (by simpa using hc) (by simpa using hf) h1
  simp only [Nat.add_zero] at hst
  have hmin : Nat.min sLen dLen = sLen := Nat.min_eq_left hsd
  simp [Builtin.copy_, run_underlying hu, Builtin.lenOf, Builtin.firstCells, sizeOf, typeInfo, hi, hmin, ← hn, hl, hst]
/-- An append, or a copy, whose run is known, at a step of a region that draws its order. -/
theorem stepAppRun {P : Program} {w w' : World} {ops : Array Oper} {o : Oper} {a : Act} {K : Act → World → Prop} {Q : Exit → Act → World → Prop} {E : Prop} (hgd : o.guard = none) (s x : Operand) (t tx : TypeId)
    (ho : o.op = .call { callee := .builtin .append, args := #[s, x], argTypes := #[t, tx] }) (v xv v' : Value) (hv : a.eval s = v) (hx : a.eval x = xv)
    (hrun : (Builtin.append_ #[t, tx] o.type #[v, xv]).run P w = .ok v' w') (h : K (a.put o.dst v') w') : if Region.wanted o (yielded ops a.tmps) = true then Oper.wp P o a w K Q else E := by
  have hw : Region.wanted o (yielded ops a.tmps) = true := by simp [Region.wanted, hgd]
  rw [if_pos hw]
  unfold Oper.wp execOp
  simp only [ho, resolve, invoke, builtin, Sem.run_bind, Sem.run_pure, Result.andThen_ok, List.map_toArray, List.map_cons, List.map_nil, hv, hx, hrun]
  exact h
theorem stepCpyRun {P : Program} {w w' : World} {ops : Array Oper} {o : Oper} {a : Act} {K : Act → World → Prop} {Q : Exit → Act → World → Prop} {E : Prop} (hgd : o.guard = none) (s x : Operand) (t tx : TypeId)
    (ho : o.op = .call { callee := .builtin .copy, args := #[s, x], argTypes := #[t, tx] }) (v xv v' : Value) (hv : a.eval s = v) (hx : a.eval x = xv)
    (hrun : (Builtin.copy_ #[t, tx] o.type #[v, xv]).run P w = .ok v' w') (h : K (a.put o.dst v') w') : if Region.wanted o (yielded ops a.tmps) = true then Oper.wp P o a w K Q else E := by
  have hw : Region.wanted o (yielded ops a.tmps) = true := by simp [Region.wanted, hgd]
  rw [if_pos hw]
  unfold Oper.wp execOp
  simp only [ho, resolve, invoke, builtin, Sem.run_bind, Sem.run_pure, Result.andThen_ok, List.map_toArray, List.map_cons, List.map_nil, hv, hx, hrun]
  exact h
end Go.Hay

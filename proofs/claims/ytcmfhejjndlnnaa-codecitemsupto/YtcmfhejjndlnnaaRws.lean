/- Rows of slices of the call's own, that grow. -/
import Derived.Test.YtcmfhejjndlnnaaMem
namespace Go.Proofs.Ytcmfhejjndlnnaa
open Go.RowKit Go.Hay
set_option linter.unusedVariables false
set_option linter.unusedSimpArgs false

/-- v is a row of slices of the calls' own. -/
def RowS (w : World) (v : Value) (bs : List Value) : Prop :=
  (v = .slice none 0 0 ∧ bs = []) ∨ ∃ g o cap, v = .slice (some ⟨g, o, none⟩) bs.length cap ∧ bs.length ≤ cap ∧ cap ≤ maxLen ∧ g < w.heap.size ∧
    (∀ j u, bs[j]? = some u → w.cell? ⟨g, o + j, none⟩ = some u) ∧ ∀ j, j < cap → (w.cell? ⟨g, o + j, none⟩).isSome = true ∧ w.frozen? ⟨g, o + j, none⟩ = false
section
variable {P : Program} (w : World)
theorem grown_cellsS (g : Nat) (xs : List Value) (z : Array Value) (h : g = w.heap.size) (t : TypeId) : ∀ j u, xs[j]? = some u → (w.alloc (.cells (xs.toArray ++ z) t)).cell? ⟨g, 0 + j, none⟩ = some (u) := by
  subst h
  intro j u hu
  have hj : j < xs.length := (List.getElem?_eq_some_iff.1 hu).1
  have e1 : (w.alloc (.cells (xs.toArray ++ z) t)).cell? ⟨w.heap.size, 0 + j, none⟩ = _ := World.cell?_alloc_new w _ _ (0 + j)
  rw [e1, Nat.zero_add, Array.getElem?_append_left (by simp only [List.size_toArray]; exact hj), List.getElem?_toArray, hu]

/-- An append of bytes, out of whatever yields them, onto a row of the call's own. -/
theorem run_appendS (t tx ty : TypeId) (i : TypeInfo) (ht : P.underlying t = some (.slice 22)) (hi : P.info? 22 = some i) (hz : i.zero = some (.slice none 0 0)) (hsize : i.size = 1) (hby : i.bytes = 24)
    (v : Value) (xs : List Value) (hown : RowS w v xs) (x : Value) (bs : List Value) (hs : Src P 1 tx x bs.length bs w) (hb : xs.length + bs.length ≤ 5000000000000) :
    ∃ v' w', (Builtin.append_ #[t, tx] ty #[v, x]).run P w = .ok v' w' ∧ RowS w' v' (xs ++ bs) ∧ Kp (own v) w w' ∧ ∀ k ∈ own v', k ∈ own v ∨ w.heap.size ≤ k := by
  have hs' := hs
  rw [← hsize] at hs'
  -- A NEW ROW
  have grow : ∀ (ao : Option Addr) (cap : Nat), v = .slice ao xs.length cap → cap < xs.length + bs.length → (Builtin.firstCells i.size xs.length (.slice ao xs.length cap)).run P w.drew = .ok xs.toArray w.drew →
      ∃ v' w', (Builtin.append_ #[t, tx] ty #[v, x]).run P w = .ok v' w' ∧ RowS w' v' (xs ++ bs) ∧ Kp (own v) w w' ∧ ∀ k ∈ own v', k ∈ own v ∨ w.heap.size ≤ k := by
    rintro ao cap rfl hlt hold
    have hrun := run_append_grow_src (P := P) w t tx ty 22 i (.slice none 0 0) ht hi hz ao xs.length cap xs hold x bs.length bs hs' hlt (by omega) (growslice_fits_wide hlt (by rw [hby]; omega))
    have hge := grownCap_ge w (xs.length + bs.length) cap 22
    have hcm := grownCap_le_maxLen w (xs.length + bs.length) cap 22 (by unfold maxLen; omega)
    refine ⟨_, _, hrun, .inr ⟨w.heap.size, 0, _, by rw [List.length_append], by rw [List.length_append]; omega, hcm, by simp, ?_, ?_⟩, (Kp.refl _ w).drew.alloc _, ?_⟩
    · exact grown_cellsS w.drew _ (xs ++ bs) _ rfl _
    · intro j hj
      refine ⟨?_, World.frozen?_alloc_new w.drew _ _ (0 + j)⟩
      have e1 := World.cell?_alloc_new w.drew ((xs ++ bs).toArray ++ Builtin.zeroCells (Value.slice none 0 0).cells (grownCap w (xs.length + bs.length) cap 22 - (xs.length + bs.length))) 22 (0 + j)
      have hsz : ((xs ++ bs).toArray ++ Builtin.zeroCells (Value.slice none 0 0).cells (grownCap w (xs.length + bs.length) cap 22 - (xs.length + bs.length))).size = grownCap w (xs.length + bs.length) cap 22 := by
        rw [Array.size_append, List.size_toArray, List.length_append, size_zeroCells]
        simp [Value.cells]
        omega
      refine (congrArg Option.isSome e1).trans ?_
      rw [Nat.zero_add, Array.getElem?_eq_getElem (by rw [hsz]; exact hj)]
      rfl
    · intro k hk
      simp [own, Value.ownBlock] at hk
      omega
  rcases hown with ⟨rfl, rfl⟩ | ⟨g, o, cap, rfl, hl, hm, hg, hc, ht'⟩
  · rcases Nat.eq_zero_or_pos bs.length with h0 | h0
    · obtain rfl : bs = [] := List.length_eq_zero_iff.1 h0
      exact ⟨_, _, run_append_nothing (P := P) w t tx ty 22 i ht hi none 0 0 (Nat.le_refl _) x hs', .inl ⟨rfl, rfl⟩, Kp.refl _ _, fun _ h => .inl h⟩
    · exact grow none 0 rfl (by simpa using h0) (run_firstCells_none w.drew i.size 0 0 0)
  · by_cases hroom : xs.length + bs.length ≤ cap
    · have hsome : ∀ j, j < bs.length → (w.cell? ⟨g, o + xs.length * i.size + j, none⟩).isSome = true := fun j hj => by
        rw [hsize, Nat.mul_one, Nat.add_assoc]; exact (ht' (xs.length + j) (by omega)).1
      have hrun := run_append_room_src (P := P) w t tx ty 22 i ht hi g o xs.length cap x bs.length bs hs' hroom hsome
        (fun j hj => by rw [hsize, Nat.mul_one, Nat.add_assoc]; exact (ht' (xs.length + j) (by omega)).2)
      rw [hsize, Nat.mul_one] at hsome
      rw [hsize, Nat.mul_one] at hrun
      refine ⟨_, _, hrun, .inr ⟨g, o, cap, by rw [List.length_append], by rw [List.length_append]; omega, hm, by rw [size_setCells]; exact hg, ?_, ?_⟩, (Kp.refl _ w).setCells (by simp [own, Value.ownBlock]) _ _, fun k hk => .inl hk⟩
      · intro j u hu
        by_cases hj : j < xs.length
        · rw [World.cell?_setCells_out g _ _ _ _ (fun _ _ => Or.inl (by show o + j < o + xs.length; omega))]
          rw [List.getElem?_append_left hj] at hu
          exact hc j u hu
        · rw [List.getElem?_append_right (by omega)] at hu
          have hj2 : j - xs.length < bs.length := (List.getElem?_eq_some_iff.1 hu).1
          have := World.cell?_setCells_in g bs (o + xs.length) w hsome (j - xs.length) (hj2)
          rw [show o + xs.length + (j - xs.length) = o + j by omega, ← List.getElem?_eq_getElem (hj2), hu] at this
          exact this
      · intro j hj
        refine ⟨?_, (World.frozen?_setCells g _ _ _ _).trans (ht' j hj).2⟩
        by_cases hin : xs.length ≤ j ∧ j < xs.length + bs.length
        · have := World.cell?_setCells_in g bs (o + xs.length) w hsome (j - xs.length) (by omega)
          rw [show o + xs.length + (j - xs.length) = o + j by omega] at this
          rw [this]; rfl
        · rw [World.cell?_setCells_out g _ _ _ _ (fun _ _ => by show o + j < o + xs.length ∨ o + xs.length + bs.length ≤ o + j; omega)]
          exact (ht' j hj).1
    · refine grow (some ⟨g, o, none⟩) cap rfl (by omega) ?_
      exact run_firstCells_some w.drew i.size xs.length ⟨g, o, none⟩ xs.length cap xs (by rw [hsize]; omega) (fun j u hu => by rw [Addr.add_lit]; exact hc j u hu)

/-- .. for the walk. -/
theorem wpList_appendS {ops : Array Oper} {rest : List Oper} {o : Oper} {a : Act} {Q : Exit → Act → World → Prop} (hgd : o.guard = none) (s x : Operand) (t tx : TypeId)
    (ho : o.op = .call { callee := .builtin .append, args := #[s, x], argTypes := #[t, tx] })
    (i : TypeInfo) (ht : P.underlying t = some (.slice 22)) (hi : P.info? 22 = some i) (hz : i.zero = some (.slice none 0 0)) (hsize : i.size = 1) (hby : i.bytes = 24)
    (v : Value) (xs : List Value) (hv : a.eval s = v) (hown : RowS w v xs) (xv : Value) (bs : List Value) (hx : a.eval x = xv) (hs : Src P 1 tx xv bs.length bs w) (hb : xs.length + bs.length ≤ 5000000000000)
    (hK : ∀ v' w', RowS w' v' (xs ++ bs) → Kp (own v) w w' → (∀ k ∈ own v', k ∈ own v ∨ w.heap.size ≤ k) → wpList P ops Q rest (a.put o.dst v') w') : wpList P ops Q (o :: rest) a w := by
  refine wpList_plain hgd fun K hK' => ?_
  obtain ⟨v', w', hrun, h1, h2, h3⟩ := run_appendS (P := P) w t tx o.type i ht hi hz hsize hby v xs hown xv bs hs hb
  unfold Oper.wp
  simp [execOp, ho, resolve, invoke, builtin, hv, hx, hrun, Result.andThen]
  exact hK' _ _ (hK v' w' h1 h2 h3)
end
theorem RowS.nil (w : World) : RowS w (.slice none 0 0) [] := .inl ⟨rfl, rfl⟩
theorem RowS.lt {w : World} {v : Value} {bs : List Value} (h : RowS w v bs) : ∀ k ∈ own v, k < w.heap.size := by
  rcases h with ⟨rfl, _⟩ | ⟨g, o, cap, rfl, _, _, hg, _⟩
  · intro k hk; simp [own, Value.ownBlock] at hk
  · intro k hk; simp [own, Value.ownBlock] at hk; omega
theorem RowS.kept {w w' : World} {v : Value} {bs : List Value} {S : List Nat} (h : RowS w v bs) (hk : Kp S w w') (hn : ∀ k ∈ own v, k ∉ S) : RowS w' v bs := by
  rcases h with h | ⟨g, o, cap, rfl, hl, hm, hg, hc, ht⟩
  · exact .inl h
  · have hgS : g ∉ S := hn g (by simp [own, Value.ownBlock])
    have e1 : ∀ j, w'.cell? ⟨g, o + j, none⟩ = w.cell? ⟨g, o + j, none⟩ := fun j => hk.cell (p := ⟨g, o + j, none⟩) hg hgS
    have e2 : ∀ j, w'.frozen? ⟨g, o + j, none⟩ = w.frozen? ⟨g, o + j, none⟩ := fun j => hk.frozen (p := ⟨g, o + j, none⟩) hg hgS
    refine .inr ⟨g, o, cap, rfl, hl, hm, Nat.lt_of_lt_of_le hg hk.size, fun j u hu => (e1 j).trans (hc j u hu), fun j hj => ?_⟩
    rw [e1, e2]
    exact ht j hj
/-- A row of rows of bytes of the calls' own, all beyond n0: none lies in the row's own block. -/
def RowL (n0 : Nat) (w : World) (v : Value) (L : List (List UInt8)) : Prop := ∃ vs : List Value, vs.length = L.length ∧ RowS w v vs ∧ (∀ k ∈ own v, n0 ≤ k) ∧ ∀ (i : Nat) (x : Value) (o : List UInt8), vs[i]? = some x → L[i]? = some o → Row w x o ∧ ∀ k ∈ own x, n0 ≤ k ∧ k ∉ own v
theorem RowL.nil (n0 : Nat) (w : World) : RowL n0 w (.slice none 0 0) [] := ⟨[], rfl, RowS.nil w, fun k hk => by simp [own, Value.ownBlock] at hk, fun i x o h => by simp at h⟩
theorem RowL.lt {n0 : Nat} {w : World} {v : Value} {L : List (List UInt8)} (h : RowL n0 w v L) : ∀ k ∈ own v, k < w.heap.size := by
  obtain ⟨vs, _, hs, _⟩ := h
  exact hs.lt
theorem RowL.from {n0 : Nat} {w : World} {v : Value} {L : List (List UInt8)} (h : RowL n0 w v L) : ∀ k ∈ own v, n0 ≤ k := by
  obtain ⟨vs, _, _, hs, _⟩ := h
  exact hs
theorem RowL.kept {n0 : Nat} {w w' : World} {v : Value} {L : List (List UInt8)} {S : List Nat} (h : RowL n0 w v L) (hk : Kp S w w') (hS : ∀ k ∈ S, k < n0) : RowL n0 w' v L := by
  obtain ⟨vs, h1, h2, hf, h3⟩ := h
  refine ⟨vs, h1, h2.kept hk (fun k hk' hm => by have := hf k hk'; have := hS k hm; omega), hf, fun i x o hx ho => ?_⟩
  obtain ⟨h4, h5⟩ := h3 i x o hx ho
  exact ⟨h4.kept hk (fun k hk' hm => by have := (h5 k hk').1; have := hS k hm; omega), h5⟩
theorem RowL.mono {n0 n1 : Nat} {w : World} {v : Value} {L : List (List UInt8)} (h : RowL n0 w v L) (hn : n1 ≤ n0) : RowL n1 w v L := by
  obtain ⟨vs, h1, h2, hf, h3⟩ := h
  exact ⟨vs, h1, h2, fun k hk => Nat.le_trans hn (hf k hk), fun i x o hx ho => ⟨(h3 i x o hx ho).1, fun k hk => ⟨Nat.le_trans hn ((h3 i x o hx ho).2 k hk).1, ((h3 i x o hx ho).2 k hk).2⟩⟩⟩
end Go.Proofs.Ytcmfhejjndlnnaa

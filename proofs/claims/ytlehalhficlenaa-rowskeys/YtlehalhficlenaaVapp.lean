/- Rows of values of the calls' own, that grow. -/
import Derived.Test.YtlehalhficlenaaVrow
import Derived.Deep.DeepAppendWide
import Derived.Laws.AppendOwnNone
namespace Go.Proofs.Ytlehalhficlenaa
open Go.RowKit Go.Hay
set_option linter.unusedVariables false
set_option linter.unusedSimpArgs false

/-- Values' cells. -/
def vcells (l : List Val) : List Value := l.flatMap fun x => [.int .i64 x.k, .bool x.b, .int .i64 x.n, .string x.t]
theorem vcells_length (l : List Val) : (vcells l).length = l.length * 4 := by
  induction l with
  | nil => rfl
  | cons x l ih => simp only [vcells, List.flatMap_cons, List.length_append, List.length_cons, List.length_nil] at ih ⊢; omega
theorem vcells_append (a b : List Val) : vcells (a ++ b) = vcells a ++ vcells b := by simp [vcells]
theorem vcells_one (l : List Val) : ∀ u ∈ vcells l, u.oneCell' = true := by
  intro u hu
  obtain ⟨x, _, hx⟩ := List.mem_flatMap.1 hu
  simp at hx
  rcases hx with rfl | rfl | rfl | rfl <;> rfl
theorem vcells_cons (x : Val) (l : List Val) : vcells (x :: l) = [.int .i64 x.k, .bool x.b, .int .i64 x.n, .string x.t] ++ vcells l := rfl
theorem vcells_at (l : List Val) : ∀ (j : Nat) (x : Val), l[j]? = some x → (vcells l)[j * 4]? = some (.int .i64 x.k) ∧ (vcells l)[j * 4 + 1]? = some (.bool x.b) ∧ (vcells l)[j * 4 + 2]? = some (.int .i64 x.n) ∧ (vcells l)[j * 4 + 3]? = some (.string x.t) := by
  induction l with
  | nil => intro j x h; simp at h
  | cons y l ih =>
    intro j x h
    cases j with
    | zero => cases h; exact ⟨rfl, rfl, rfl, rfl⟩
    | succ j =>
      have := ih j x (by simpa using h)
      rw [vcells_cons, show (j + 1) * 4 = j * 4 + 4 by omega]
      simpa using this
theorem vcells_src (l : List Val) (w : World) (g o : Nat) (hc : ∀ j x, l[j]? = some x → w.cell? ⟨g, o + j * 4, none⟩ = some (.int .i64 x.k) ∧ w.cell? ⟨g, o + j * 4 + 1, none⟩ = some (.bool x.b) ∧ w.cell? ⟨g, o + j * 4 + 2, none⟩ = some (.int .i64 x.n) ∧ w.cell? ⟨g, o + j * 4 + 3, none⟩ = some (.string x.t)) (j : Nat) (u : Value) (h : (vcells l)[j]? = some u) : w.cell? ⟨g, o + j, none⟩ = some u := by
  have hj : j < (vcells l).length := (List.getElem?_eq_some_iff.1 h).1
  rw [vcells_length] at hj
  have hq : j / 4 < l.length := by omega
  obtain ⟨e0, e1, e2, e3⟩ := vcells_at l (j / 4) l[j / 4] (by simp)
  obtain ⟨c0, c1, c2, c3⟩ := hc (j / 4) l[j / 4] (by simp)
  rcases (by omega : j % 4 = 0 ∨ j % 4 = 1 ∨ j % 4 = 2 ∨ j % 4 = 3) with h4 | h4 | h4 | h4
  · rw [show j = j / 4 * 4 by omega] at h ⊢; rw [e0] at h; cases h; exact c0
  · rw [show j = j / 4 * 4 + 1 by omega] at h ⊢; rw [e1] at h; cases h; exact c1
  · rw [show j = j / 4 * 4 + 2 by omega] at h ⊢; rw [e2] at h; cases h; exact c2
  · rw [show j = j / 4 * 4 + 3 by omega] at h ⊢; rw [e3] at h; cases h; exact c3

/-- A row of values of the call's own. -/
def RowV (w0 w : World) (v : Value) (l : List Val) : Prop := w.ownsRow w0.heap.size 35 4 v l.length (vcells l)
theorem RowV.vals {w0 w : World} {v : Value} {l : List Val} (h : RowV w0 w v l) : ∃ a c, v = .slice a l.length c ∧ Vals w a l ∧ l.length ≤ c ∧ c ≤ maxLen := by
  obtain ⟨_, ⟨rfl, h0⟩ | ⟨g, cap, cur, rfl, _, hg, hl, hm, hsz, ht⟩⟩ := h
  · obtain rfl : l = [] := List.length_eq_zero_iff.1 h0
    exact ⟨none, 0, rfl, .inl rfl, Nat.le_refl _, Nat.zero_le _⟩
  · refine ⟨some ⟨g, 0, none⟩, cap, rfl, .inr ⟨g, 0, rfl, fun j x hx => ?_⟩, hl, hm⟩
    have cell : ∀ i u, (vcells l)[i]? = some u → w.cell? ⟨g, 0 + i, none⟩ = some u := fun i u hu => by
      rw [← ht, List.getElem?_take] at hu
      split at hu
      · rw [Nat.zero_add, World.cell?, hg]; simpa using hu
      · cases hu
    obtain ⟨e0, e1, e2, e3⟩ := vcells_at l j x hx
    exact ⟨cell _ _ e0, by rw [Nat.add_assoc]; exact cell _ _ e1, by rw [Nat.add_assoc]; exact cell _ _ e2, by rw [Nat.add_assoc]; exact cell _ _ e3⟩
theorem RowV.fresh {w0 w : World} (h : w0.heap.size ≤ w.heap.size) : RowV w0 (w.alloc (.cells #[] 35)) (.slice (some ⟨w.heap.size, 0, none⟩) 0 0) [] :=
  ⟨rfl, .inr ⟨w.heap.size, 0, #[], rfl, h, by show (w.heap.push _)[w.heap.size]? = _; exact Array.getElem?_push_size, Nat.le_refl _, Nat.zero_le _, rfl, rfl⟩⟩
theorem RowV.own {w0 w : World} {v : Value} {l : List Val} (h : RowV w0 w v l) : ∀ k, v.ownBlock = some k → w0.heap.size ≤ k := by
  obtain ⟨_, ⟨rfl, _⟩ | ⟨g, cap, cur, rfl, hb, _⟩⟩ := h
  · intro k hk; cases hk
  · intro k hk; cases hk; exact hb
theorem kpGrown {w0 w w' : World} {row : Option Nat} (h : Kp [] w0 w) (hg : w.grownBy w' row) (hr : ∀ k, row = some k → w0.heap.size ≤ k) : Kp [] w0 w' :=
  ⟨hg.os.trans h.os, hg.tape.trans h.tape, hg.output.trans h.output, Nat.le_trans h.size hg.size, fun k hk hS => (hg.block k (Nat.lt_of_lt_of_le hk h.size) (fun e => by have := hr k e.symm; omega)).trans (h.block k hk hS)⟩

theorem Vals.single (w : World) (x : Val) (t : TypeId) : Vals (w.alloc (.cells #[.int .i64 x.k, .bool x.b, .int .i64 x.n, .string x.t] t)) (some ⟨w.heap.size, 0, none⟩) [x] := by
  refine .inr ⟨_, _, rfl, fun j z hz => ?_⟩
  match j, hz with
  | 0, hz => cases hz; exact ⟨World.cell?_alloc_new w _ _ 0, World.cell?_alloc_new w _ _ 1, World.cell?_alloc_new w _ _ 2, World.cell?_alloc_new w _ _ 3⟩
  | j + 1, hz => simp at hz
theorem RowV.kept {w0 w w' : World} {v : Value} {l : List Val} (h : RowV w0 w v l) (hk : Kp [] w w') : RowV w0 w' v l := by
  obtain ⟨h1, h2 | ⟨g, cap, cur, h3, hb, hg, h4⟩⟩ := h
  · exact ⟨h1, .inl h2⟩
  · refine ⟨h1, .inr ⟨g, cap, cur, h3, hb, ?_, h4⟩⟩
    have hlt : g < w.heap.size := by
      rcases Nat.lt_or_ge g w.heap.size with h' | h'
      · exact h'
      · rw [Array.getElem?_eq_none h'] at hg; cases hg
    rw [hk.block g hlt (by simp)]
    exact hg
theorem info4 {P : Program} {t : TypeId} {z : Value} {a b : Nat} (h : (P.info? t).map (fun i => (i.zero, i.size, i.bytes)) = some (some z, a, b)) : ∃ i, P.info? t = some i ∧ i.zero = some z ∧ i.size = a ∧ i.bytes = b := by
  cases hp : P.info? t with
  | none => rw [hp] at h; cases h
  | some i =>
    rw [hp] at h
    simp at h
    exact ⟨i, rfl, h.1, h.2.1, h.2.2⟩
theorem infoV : ∃ i : TypeInfo, Try.prog.info? 35 = some i ∧ i.zero = some (.agg #[.int .i64 0, .bool false, .int .i64 0, .string ⟨#[]⟩]) ∧ i.size = 4 ∧ i.bytes = 40 := info4 (by kernel_rfl)

/-- An append of values onto a row of the call's own, for the walk. -/
theorem wpAppendV {w : World} {ops : Array Oper} {rest : List Oper} {o : Oper} {a : Act} {Q : Exit → Act → World → Prop} (hgd : o.guard = none) (s x : Operand)
    (ho : o.op = .call { callee := .builtin .append, args := #[s, x], argTypes := #[22, 22] })
    (w0 : World) (v : Value) (l : List Val) (hs : a.eval s = v) (hown : RowV w0 w v l) (src : Option Addr) (m c : Nat) (r : List Val) (hx : a.eval x = .slice src m c) (hmr : m = r.length) (hr : Vals w src r) (hc : src = none → c = 0)
    (hb : l.length + r.length ≤ 4000000000000) (hk : Kp [] w0 w)
    (h : ∀ v' w', RowV w0 w' v' (l ++ r) → Kp [] w0 w' → wpList Try.prog ops Q rest (a.put o.dst v') w') : wpList Try.prog ops Q (o :: rest) a w := by
  obtain ⟨i, hi, hz, hz1, hz2⟩ := infoV
  subst hmr
  cases src with
  | none =>
    obtain rfl : r = [] := by rcases hr with h | ⟨g, o, h, _⟩; exact h; cases h
    rw [hc rfl] at hx
    exact wpList_append_own_none hgd s x 22 ho w0.heap.size 35 i 4 Try.underlying22 hi v l.length (vcells l) hs hown hx (h v w (by simpa using hown) hk)
  | some ad =>
    refine wpList_append_own_wide w hgd s x 22 ho w0.heap.size 35 i _ 4 40 Try.underlying22 hi hz hz1 hz2 rfl (by omega) v l.length (vcells l) hs hown ad r.length c (vcells r) hx (vcells_length r) ?_ (vcells_one r) (by unfold maxLen; omega) (by omega) hk.size ?_
    · intro j u hu
      rcases hr with rfl | ⟨g, o', hg, hcell⟩
      · simp [vcells] at hu
      · cases hg
        rw [Addr.add_lit]
        exact vcells_src r w g o' hcell j u hu
    · intro v' w' h2 h3 _
      exact h v' w' (by unfold RowV; rw [List.length_append, vcells_append]; exact h2) (kpGrown hk h3 hown.own)
end Go.Proofs.Ytlehalhficlenaa

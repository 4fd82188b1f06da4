/- The reference's files: a slice of structs of three fields; how it grows. -/
import Derived.Test.YtgllkonbgigcbabDcrs
import Derived.Laws.AppendOwnNone
namespace Go.Proofs.Ytgllkonbgigcbab
open Go.RowKit Go.Hay
set_option linter.unusedVariables false
set_option linter.unusedSimpArgs false

/-- A file of the reference's: its fields, and the bytes that its slice sees. -/
structure RF where
  name : List UInt8
  ba : Option Addr
  bc : Nat
  bytes : List UInt8
  last : Nat
def RF.fl (f : RF) : Fl := ⟨f.name, f.bytes, f.last⟩
def RF.c (f : RF) : List Value := [.string ⟨f.name.toArray⟩, .slice f.ba f.bytes.length f.bc, .int .i64 (f.last : Int)]
def RF.v (f : RF) : Value := .agg #[.string ⟨f.name.toArray⟩, .slice f.ba f.bytes.length f.bc, .int .i64 (f.last : Int)]
def fcells (l : List RF) : List Value := l.flatMap RF.c
theorem fcells_length (l : List RF) : (fcells l).length = l.length * 3 := by
  induction l with
  | nil => rfl
  | cons x l ih => simp only [fcells, List.flatMap_cons, List.length_append, List.length_cons, RF.c, List.length_nil] at ih ⊢; omega
theorem fcells_append (a b : List RF) : fcells (a ++ b) = fcells a ++ fcells b := by simp [fcells]
theorem fcells_one (l : List RF) : ∀ u ∈ fcells l, u.oneCell' = true := by
  intro u hu
  obtain ⟨x, _, hx⟩ := List.mem_flatMap.1 hu
  simp [RF.c] at hx
  rcases hx with rfl | rfl | rfl <;> rfl
theorem fcells_cons (x : RF) (l : List RF) : fcells (x :: l) = RF.c x ++ fcells l := rfl
theorem fcells_at (l : List RF) : ∀ (j : Nat) (x : RF), l[j]? = some x → (fcells l)[j * 3]? = some (.string ⟨x.name.toArray⟩) ∧ (fcells l)[j * 3 + 1]? = some (.slice x.ba x.bytes.length x.bc) ∧ (fcells l)[j * 3 + 2]? = some (.int .i64 (x.last : Int)) := by
  induction l with
  | nil => intro j x h; simp at h
  | cons y l ih =>
    intro j x h
    cases j with
    | zero => cases h; exact ⟨rfl, rfl, rfl⟩
    | succ j =>
      have := ih j x (by simpa using h)
      rw [fcells_cons, show (j + 1) * 3 = j * 3 + 3 by omega]
      simpa [RF.c] using this
/-- A slice of such files. -/
def Fls (w : World) (a : Option Addr) (l : List RF) : Prop :=
  l = [] ∨ ∃ g o, a = some ⟨g, o, none⟩ ∧ ∀ j x, l[j]? = some x → w.cell? ⟨g, o + j * 3, none⟩ = some (.string ⟨x.name.toArray⟩) ∧ w.cell? ⟨g, o + j * 3 + 1, none⟩ = some (.slice x.ba x.bytes.length x.bc) ∧ w.cell? ⟨g, o + j * 3 + 2, none⟩ = some (.int .i64 (x.last : Int))
theorem Fls.kept {w w' : World} {a : Option Addr} {l : List RF} {S : List Nat} (h : Fls w a l) (hk : Kp S w w') (hn : ∀ k ∈ blk a, k ∉ S) : Fls w' a l := by
  rcases h with rfl | ⟨g, o, rfl, hc⟩
  · exact .inl rfl
  · refine .inr ⟨g, o, rfl, fun j x hx => ?_⟩
    obtain ⟨c0, c1, c2⟩ := hc j x hx
    have hg : g < w.heap.size := World.block_lt_of_cell? _ _ c0
    have hS : g ∉ S := hn g (by simp [blk])
    exact ⟨(hk.cell (p := ⟨g, _, none⟩) hg hS).trans c0, (hk.cell (p := ⟨g, _, none⟩) hg hS).trans c1, (hk.cell (p := ⟨g, _, none⟩) hg hS).trans c2⟩
theorem Fls.at {w : World} {a : Option Addr} {l : List RF} (h : Fls w a l) {j : Nat} {x : RF} (hx : l[j]? = some x) : ∃ g o, a = some ⟨g, o, none⟩ ∧ w.cell? ⟨g, o + j * 3, none⟩ = some (.string ⟨x.name.toArray⟩) ∧ w.cell? ⟨g, o + j * 3 + 1, none⟩ = some (.slice x.ba x.bytes.length x.bc) ∧ w.cell? ⟨g, o + j * 3 + 2, none⟩ = some (.int .i64 (x.last : Int)) := by
  rcases h with rfl | ⟨g, o, rfl, hc⟩
  · simp at hx
  · obtain ⟨c0, c1, c2⟩ := hc j x hx
    exact ⟨g, o, rfl, c0, c1, c2⟩
theorem fcells_src (l : List RF) (w : World) (g o : Nat) (hc : ∀ j x, l[j]? = some x → w.cell? ⟨g, o + j * 3, none⟩ = some (.string ⟨x.name.toArray⟩) ∧ w.cell? ⟨g, o + j * 3 + 1, none⟩ = some (.slice x.ba x.bytes.length x.bc) ∧ w.cell? ⟨g, o + j * 3 + 2, none⟩ = some (.int .i64 (x.last : Int))) (j : Nat) (u : Value) (h : (fcells l)[j]? = some u) : w.cell? ⟨g, o + j, none⟩ = some u := by
  have hj : j < (fcells l).length := (List.getElem?_eq_some_iff.1 h).1
  rw [fcells_length] at hj
  have hq : j / 3 < l.length := by omega
  obtain ⟨e0, e1, e2⟩ := fcells_at l (j / 3) l[j / 3] (by simp)
  obtain ⟨c0, c1, c2⟩ := hc (j / 3) l[j / 3] (by simp)
  rcases (by omega : j % 3 = 0 ∨ j % 3 = 1 ∨ j % 3 = 2) with h4 | h4 | h4
  · rw [show j = j / 3 * 3 by omega] at h ⊢; rw [e0] at h; cases h; exact c0
  · rw [show j = j / 3 * 3 + 1 by omega] at h ⊢; rw [e1] at h; cases h; exact c1
  · rw [show j = j / 3 * 3 + 2 by omega] at h ⊢; rw [e2] at h; cases h; exact c2

/-- A row of files of the call's own. -/
def RowF (n0 : Nat) (w : World) (v : Value) (l : List RF) : Prop := w.ownsRow n0 77 3 v l.length (fcells l)
theorem RowF.nil (n0 : Nat) (w : World) : RowF n0 w (.slice none 0 0) [] := ⟨rfl, .inl ⟨rfl, rfl⟩⟩
theorem RowF.fls {n0 : Nat} {w : World} {v : Value} {l : List RF} (h : RowF n0 w v l) : ∃ a c, v = .slice a l.length c ∧ Fls w a l ∧ l.length ≤ c ∧ c ≤ maxLen ∧ ∀ k ∈ blk a, n0 ≤ k := by
  obtain ⟨_, ⟨rfl, h0⟩ | ⟨g, cap, cur, rfl, hb, hg, hl, hm, hsz, ht⟩⟩ := h
  · obtain rfl : l = [] := List.length_eq_zero_iff.1 h0
    exact ⟨none, 0, rfl, .inl rfl, Nat.le_refl _, Nat.zero_le _, by simp [blk]⟩
  · refine ⟨some ⟨g, 0, none⟩, cap, rfl, .inr ⟨g, 0, rfl, fun j x hx => ?_⟩, hl, hm, by intro k hk; simp [blk] at hk; omega⟩
    have cell : ∀ i u, (fcells l)[i]? = some u → w.cell? ⟨g, 0 + i, none⟩ = some u := fun i u hu => by
      rw [← ht, List.getElem?_take] at hu
      split at hu
      · rw [Nat.zero_add, World.cell?, hg]; simpa using hu
      · cases hu
    obtain ⟨e0, e1, e2⟩ := fcells_at l j x hx
    exact ⟨cell _ _ e0, by rw [Nat.add_assoc]; exact cell _ _ e1, by rw [Nat.add_assoc]; exact cell _ _ e2⟩
theorem RowF.kept {n0 : Nat} {w w' : World} {v : Value} {l : List RF} (h : RowF n0 w v l) (hk : Kp [] w w') : RowF n0 w' v l := by
  obtain ⟨h1, h2 | ⟨g, cap, cur, h3, hb, hg, h4⟩⟩ := h
  · exact ⟨h1, .inl h2⟩
  · refine ⟨h1, .inr ⟨g, cap, cur, h3, hb, ?_, h4⟩⟩
    rw [hk.block g (Array.getElem?_eq_some_iff.1 hg).1 (by simp)]
    exact hg
theorem infoF : ∃ i : TypeInfo, Try.prog.info? 77 = some i ∧ i.zero = some (.agg #[.string ⟨#[]⟩, .slice none 0 0, .int .i64 0]) ∧ i.size = 3 ∧ i.bytes = 48 := info3 (by kernel_rfl)
theorem kpGrown {w0 w w' : World} {row : Option Nat} (h : Kp [] w0 w) (hg : w.grownBy w' row) (hr : ∀ k, row = some k → w0.heap.size ≤ k) : Kp [] w0 w' := h.grown hg (fun k e => .inr (hr k e))
/-- One file more, for the walk. -/
theorem wpAppF {w : World} {ops : Array Oper} {rest : List Oper} {o : Oper} {a : Act} {Q : Exit → Act → World → Prop} (hgd : o.guard = none) (s x : Operand)
    (ho : o.op = .call { callee := .builtin .append, args := #[s, x], argTypes := #[30, 30] })
    (w0 : World) (v : Value) (l : List RF) (hs : a.eval s = v) (hown : RowF w0.heap.size w v l) (r : RF) (q : Nat) (hq : w.heap.size = q) (hx : a.eval x = .slice (some ⟨q, 0, none⟩) 1 1)
    (hb : l.length ≤ 1000000000000) (hk : Kp [] w0 w)
    (h : ∀ l' a' c' w', Hid (l' = l ++ [r]) → RowF w0.heap.size w' (.slice a' l'.length c') l' → Kp [] w0 w' → w.heap.size < w'.heap.size → (∀ k, k < w.heap.size → v.ownBlock ≠ some k → w'.heap[k]? = w.heap[k]?) → wpList Try.prog ops Q rest (a.put o.dst (.slice a' l'.length c')) w') :
    wpList Try.prog ops Q (o :: rest) a (w.alloc (.cells #[.string ⟨r.name.toArray⟩, .slice r.ba r.bytes.length r.bc, .int .i64 (r.last : Int)] 77)) := by
  obtain ⟨i, hi, hz, hz1, hz2⟩ := infoF
  subst hq
  have hk1 : Kp [] w (w.alloc (.cells #[.string ⟨r.name.toArray⟩, .slice r.ba r.bytes.length r.bc, .int .i64 (r.last : Int)] 77)) := (Kp.refl _ _).alloc _
  have hown1 := hown.kept hk1
  refine wpList_append_own_wide _ hgd s x 30 ho w0.heap.size 77 i _ 3 48 Try.underlying30 hi hz hz1 hz2 rfl (by omega) v l.length (fcells l) hs hown1 ⟨w.heap.size, 0, none⟩ 1 1 (RF.c r) hx rfl ?_ (by intro u hu; simp [RF.c] at hu; rcases hu with rfl | rfl | rfl <;> rfl) (by unfold maxLen; omega) (by omega) (by have := hk.size; simp; omega) ?_
  · intro j u hu
    rw [Addr.add_lit, Nat.zero_add]
    match j, hu with
    | 0, hu => cases hu; exact World.cell?_alloc_new w _ _ 0
    | 1, hu => cases hu; exact World.cell?_alloc_new w _ _ 1
    | 2, hu => cases hu; exact World.cell?_alloc_new w _ _ 2
    | j + 3, hu => simp [RF.c] at hu
  · intro v' w' h2 h3 _
    have h2' : RowF w0.heap.size w' v' (l ++ [r]) := by
      unfold RowF
      rw [List.length_append, fcells_append]
      have : fcells [r] = RF.c r := by simp [fcells]
      rw [this]
      exact h2
    obtain ⟨a', c', rfl, _⟩ := RowF.fls h2'
    have hob : ∀ k, v.ownBlock = some k → w0.heap.size ≤ k := by
      obtain ⟨_, ⟨rfl, _⟩ | ⟨g, cap, cur, rfl, hb', _⟩⟩ := hown
      · intro k hk; cases hk
      · intro k hk; cases hk; exact hb'
    refine h (l ++ [r]) a' c' w' rfl h2' (kpGrown (hk.alloc _) h3 hob) ?_ (fun k hk' hne => ?_)
    · have := h3.size; simp at this; omega
    · exact (h3.block k (by simp; omega) (Ne.symm hne)).trans (Below.heap_alloc _ _ k hk')
end Go.Proofs.Ytgllkonbgigcbab

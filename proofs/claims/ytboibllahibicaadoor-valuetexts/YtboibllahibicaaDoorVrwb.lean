/- Rows of bytes of the calls' own, that grow. -/
import Derived.Test.YtboibllahibicaaDoorVbld
import Derived.Deep.DeepAppendWide
import Derived.Laws.BytesArg
import Derived.Laws.IdiomStrings
namespace Go.Proofs.YtboibllahibicaaDoor
open Go.RowKit Go.Hay
set_option linter.unusedVariables false
set_option linter.unusedSimpArgs false

/-- A row of bytes of the call's own. -/
def RowB (w0 w : World) (v : Value) (l : List UInt8) : Prop := w.ownsRow w0.heap.size 5 1 v l.length (bcells l)
theorem RowB.nil (w0 w : World) : RowB w0 w (.slice none 0 0) [] := ⟨rfl, .inl ⟨rfl, rfl⟩⟩
theorem RowB.new (w0 w : World) (h : w0.heap.size ≤ w.heap.size) (l : List UInt8) (n : Nat) (hn : n = l.length) (hm : n ≤ maxLen) : RowB w0 (w.alloc (.cells (bcells l).toArray 5)) (.slice (some ⟨w.heap.size, 0, none⟩) n n) l := by
  subst hn
  refine ⟨by rw [bcells_length, Nat.mul_one], .inr ⟨w.heap.size, l.length, (bcells l).toArray, rfl, h, by show (w.heap.push _)[w.heap.size]? = _; exact Array.getElem?_push_size, Nat.le_refl _, hm, by simp [bcells_length], ?_⟩⟩
  rw [Nat.mul_one, List.toList_toArray]
  exact List.take_of_length_le (by rw [bcells_length]; exact Nat.le_refl _)
theorem RowB.own {w0 w : World} {v : Value} {l : List UInt8} (h : RowB w0 w v l) : ∀ k, v.ownBlock = some k → w0.heap.size ≤ k := by
  obtain ⟨_, ⟨rfl, _⟩ | ⟨g, cap, cur, rfl, hb, _⟩⟩ := h
  · intro k hk; cases hk
  · intro k hk; cases hk; exact hb
theorem RowB.kept {w0 w w' : World} {v : Value} {l : List UInt8} (h : RowB w0 w v l) (hk : Kp [] w w') : RowB w0 w' v l := by
  obtain ⟨h1, h2 | ⟨g, cap, cur, h3, hb, hg, h4⟩⟩ := h
  · exact ⟨h1, .inl h2⟩
  · refine ⟨h1, .inr ⟨g, cap, cur, h3, hb, ?_, h4⟩⟩
    have hlt : g < w.heap.size := by
      rcases Nat.lt_or_ge g w.heap.size with h' | h'
      · exact h'
      · rw [Array.getElem?_eq_none h'] at hg; cases hg
    rw [hk.block g hlt (by simp)]
    exact hg
theorem kpGrownB {w0 w w' : World} {row : Option Nat} (h : Kp [] w0 w) (hg : w.grownBy w' row) (hr : ∀ k, row = some k → w0.heap.size ≤ k) : Kp [] w0 w' :=
  ⟨hg.os.trans h.os, hg.tape.trans h.tape, hg.output.trans h.output, Nat.le_trans h.size hg.size, fun k hk hS => (hg.block k (Nat.lt_of_lt_of_le hk h.size) (fun e => by have := hr k e.symm; omega)).trans (h.block k hk hS)⟩
theorem info4B {P : Program} {t : TypeId} {z : Value} {a b : Nat} (h : (P.info? t).map (fun i => (i.zero, i.size, i.bytes)) = some (some z, a, b)) : ∃ i, P.info? t = some i ∧ i.zero = some z ∧ i.size = a ∧ i.bytes = b := by
  cases hp : P.info? t with
  | none => rw [hp] at h; cases h
  | some i =>
    rw [hp] at h
    simp at h
    exact ⟨i, rfl, h.1, h.2.1, h.2.2⟩
theorem infoB8 : ∃ i : TypeInfo, Tryd.prog.info? 5 = some i ∧ i.zero = some (.int .u8 0) ∧ i.size = 1 ∧ i.bytes = 1 := info4B (by kernel_rfl)
/-- An append of bytes in a new block onto a row of the call's own, for the walk. -/
theorem wpAppendB {w : World} {ops : Array Oper} {rest : List Oper} {o : Oper} {a : Act} {Q : Exit → Act → World → Prop} (hgd : o.guard = none) (s x : Operand)
    (ho : o.op = .call { callee := .builtin .append, args := #[s, x], argTypes := #[64, 64] })
    (w0 : World) (v : Value) (l : List UInt8) (hs : a.eval s = v) (hown : RowB w0 w v l) (cs : Array Value) (m c : Nat) (r : List UInt8) (hx : a.eval x = .slice (some ⟨w.heap.size, 0, none⟩) m c) (hmr : m = r.length) (hcs : cs = (bcells r).toArray)
    (hb : l.length + r.length ≤ 200000000000000) (hk : Kp [] w0 w)
    (h : ∀ v' w', RowB w0 w' v' (l ++ r) → Kp [] w0 w' → wpList Tryd.prog ops Q rest (a.put o.dst v') w') : wpList Tryd.prog ops Q (o :: rest) a (w.alloc (.cells cs 5)) := by
  obtain ⟨i, hi, hz, hz1, hz2⟩ := infoB8
  subst hmr hcs
  have hkA := hk.alloc (.cells (bcells r).toArray 5)
  have hownA := hown.kept ((Kp.refl [] w).alloc (.cells (bcells r).toArray 5))
  refine wpList_append_own_wide _ hgd s x 64 ho w0.heap.size 5 i _ 1 1 Tryd.underlying64 hi hz hz1 hz2 rfl (by omega) v l.length (bcells l) hs hownA ⟨w.heap.size, 0, none⟩ r.length c (bcells r) hx (by rw [bcells_length, Nat.mul_one]) ?_ (bcells_one r) (by unfold maxLen; omega) (by omega) hkA.size ?_
  · intro j u hu
    rw [Addr.add_lit]
    rw [World.cell?_alloc_new w _ _ (0 + j), Nat.zero_add]
    simpa using hu
  · intro v' w' h2 h3 _
    exact h v' w' (by unfold RowB; rw [List.length_append, bcells_append]; exact h2) (kpGrownB hkA h3 hown.own)
/-- A row of bytes, as a string. -/
theorem convRow {w0 w : World} {v : Value} {l : List UInt8} (h : RowB w0 w v l) : (convert 64 9 v).run Tryd.prog w = .ok (.string ⟨l.toArray⟩) w := by
  obtain ⟨_, ⟨rfl, h0⟩ | ⟨g, cap, cur, rfl, hb, hg, hl, hm, hsz, ht⟩⟩ := h
  · obtain rfl : l = [] := List.length_eq_zero_iff.1 h0
    exact run_convert_bytes_nil w 64 5 Tryd.underlying64 Tryd.underlying5 0 0 9 Tryd.underlying9
  · refine run_convert_bytes_back (P := Tryd.prog) w 64 9 5 ⟨g, 0, none⟩ cap l Tryd.underlying64 Tryd.underlying5 Tryd.underlying9 (fun j hj => ?_)
    rw [Addr.add_lit, Nat.zero_add, World.cell?, hg]
    have : (bcells l)[j]? = some (.int .u8 l[j].toNat) := by rw [bcells_get, List.getElem?_eq_getElem hj]; rfl
    rw [← ht, List.getElem?_take] at this
    split at this
    · simpa using this
    · cases this
end Go.Proofs.YtboibllahibicaaDoor

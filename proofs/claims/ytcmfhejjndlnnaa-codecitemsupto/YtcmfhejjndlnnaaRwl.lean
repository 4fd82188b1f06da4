/- Rows of rows of bytes: an append. -/
import Derived.Test.YtcmfhejjndlnnaaRws
import Derived.Test.YtcmfhejjndlnnaaRdc
namespace Go.Proofs.Ytcmfhejjndlnnaa
open Go.RowKit Go.Hay
set_option linter.unusedVariables false
set_option linter.unusedSimpArgs false

theorem infoSl : ∃ i : TypeInfo, Try.prog.info? 22 = some i ∧ i.zero = some (.slice none 0 0) ∧ i.size = 1 ∧ i.bytes = 24 := by
  have h : (Try.prog.info? 22).map (fun i => (i.zero, i.size, i.bytes)) = some (some (.slice none 0 0), 1, 24) := by kernel_rfl
  cases hp : Try.prog.info? 22 with
  | none => rw [hp] at h; cases h
  | some i =>
    rw [hp] at h
    simp at h
    exact ⟨i, rfl, h.1, h.2.1, h.2.2⟩
theorem rowOne {w : World} {v : Value} {bs : List UInt8} (h : Row w v bs) : v.oneCell' = true := by
  rcases h with ⟨rfl, _⟩ | ⟨g, o, cap, rfl, _⟩ <;> rfl
/-- An append of one slice onto a row of the call's own, for the walk. -/
theorem wpAppendL {n0 : Nat} {w : World} {ops : Array Oper} {rest : List Oper} {o : Oper} {a : Act} {Q : Exit → Act → World → Prop} (hgd : o.guard = none) (s x : Operand)
    (ho : o.op = .call { callee := .builtin .append, args := #[s, x], argTypes := #[26, 26] })
    (v : Value) (L : List (List UInt8)) (hv : a.eval s = v) (h : RowL n0 w v L) (xv : Value) (bs : List UInt8) (hr : Row w xv bs) (hd : ∀ k ∈ own xv, n0 ≤ k ∧ k ∉ own v) (hn0 : n0 ≤ w.heap.size)
    {q : Nat} (hq : w.heap.size = q) (hx : a.eval x = .slice (some ⟨q, 0, none⟩) 1 1) (hb : L.length + 1 ≤ 5000000000000)
    (hK : ∀ v' w', RowL n0 w' v' (L ++ [bs]) → Kp (own v) w w' → (∀ k ∈ own v', k ∈ own v ∨ w.heap.size ≤ k) → wpList Try.prog ops Q rest (a.put o.dst v') w') : wpList Try.prog ops Q (o :: rest) a (w.alloc (.cells #[xv] 22)) := by
  subst hq
  obtain ⟨i, hi, hz, hz1, hz2⟩ := infoSl
  obtain ⟨vs, hvl, hs, hfr, hel⟩ := h
  have hkA : Kp (own v) w (w.alloc (.cells #[xv] 22)) := (Kp.refl _ _).alloc _
  have hsA := hs.kept (S := []) ((Kp.refl _ _).alloc (.cells #[xv] 22)) (by simp)
  refine wpList_appendS (P := Try.prog) _ hgd s x 26 26 ho i Try.underlying26 hi hz hz1 hz2 v vs hv hsA _ [xv] hx ?_ (by simp; omega) ?_
  · refine Src.ofSlice _ Try.underlying26 ⟨w.heap.size, 0, none⟩ 1 1 [xv] rfl ?_ (by intro u hu; simp at hu; subst hu; exact rowOne hr)
    intro j u hu
    match j, hu with
    | 0, hu => cases hu; rw [Addr.add_lit]; exact World.cell?_alloc_new w _ _ 0
    | j + 1, hu => simp at hu
  · intro v' w' h1 h2 h3
    have hkk : Kp (own v) w w' := hkA.trans h2 (fun x hx => .inl hx)
    have hnew : ∀ k ∈ own v', k ∈ own v ∨ w.heap.size ≤ k := by
      intro k hk
      rcases h3 k hk with h | h
      · exact .inl h
      · right; simp at h; omega
    refine hK v' w' ⟨vs ++ [xv], by simp [hvl], h1, fun k hk => (by rcases hnew k hk with h | h; exact hfr k h; omega), ?_⟩ hkk hnew
    intro j y ob hy hob
    have key : Row w y ob ∧ ∀ k ∈ own y, n0 ≤ k ∧ k ∉ own v := by
      by_cases hj : j < vs.length
      · rw [List.getElem?_append_left hj] at hy
        rw [List.getElem?_append_left (by omega)] at hob
        exact hel j y ob hy hob
      · rw [List.getElem?_append_right (by omega)] at hy
        rw [List.getElem?_append_right (by omega)] at hob
        have : j - vs.length = 0 := by have := (List.getElem?_eq_some_iff.1 hy).1; simp at this; omega
        rw [this] at hy
        rw [← hvl, this] at hob
        cases hy
        cases hob
        exact ⟨hr, hd⟩
    refine ⟨key.1.kept hkk (fun k hk => (key.2 k hk).2), fun k hk => ⟨(key.2 k hk).1, fun hm => ?_⟩⟩
    rcases hnew k hm with h | h
    · exact (key.2 k hk).2 h
    · have := key.1.lt k hk; omega
end Go.Proofs.Ytcmfhejjndlnnaa

/- What has come of a list when the iterator stands so; an append of a slice in a round. -/
import Derived.Test.YtcmfhejjndlnnaaLkep
namespace Go.Proofs.Ytcmfhejjndlnnaa
open Go.RowKit Go.Hay
set_option linter.unusedVariables false
set_option linter.unusedSimpArgs false

/-- The things that have come, and how the iterator stands. -/
def Run (most : Int) (full : List UInt8) (s : St) (L : List (List UInt8)) : Prop :=
  (s = ⟨0, 0, full, 0, false, none⟩ ∧ L = []) ∨
  (s.go = true ∧ L.length = s.k ∧ ∃ N bs1 e1, countS most full 0 = (N, bs1, e1) ∧
    match s.pend with
    | none => L.length + s.bs.length ≤ full.length ∧ lstS N.toNat bs1 e1 = (L ++ (lstS s.m s.bs s.e).1, (lstS s.m s.bs s.e).2)
    | some x => if s.e = 0 then L.length + 1 + s.bs.length ≤ full.length ∧ lstS N.toNat bs1 e1 = (L ++ x.2 :: (lstS (s.m - 1) s.bs 0).1, (lstS (s.m - 1) s.bs 0).2) else lstS N.toNat bs1 e1 = (L, s.bs, s.e))
theorem countS_le {most : Int} {bs bs' : List UInt8} {N e' : Int} (h : countS most bs 0 = (N, bs', e')) : bs'.length ≤ bs.length := by
  unfold countS at h
  split at h
  · exact (varS_cases most bs (by assumption) h).2.2.1
  · simp only [Prod.mk.injEq] at h
    rw [← h.2.1]
    exact Nat.le_refl _
theorem run_turn {most : Int} {full : List UInt8} {s s' : St} {L : List (List UInt8)} {p : Nat} {D : List Nat} {A B : World} (h : Run most full s L) (ht : Turn p D most s s' A B) : Run most full s' L := by
  obtain ⟨_, _, ⟨hg, n, hc, hn, hs'⟩ | ⟨hg, hp, he, hm, v, out, htx, hs', _⟩⟩ := ht
  · rcases h with ⟨rfl, rfl⟩ | ⟨hg', _⟩
    · have hle := countS_le hc
      rw [hs']
      refine .inr ⟨rfl, rfl, n, s'.bs, s'.e, hc, ?_⟩
      exact ⟨by simpa using hle, by simp⟩
    · rw [hg] at hg'; cases hg'
  · rcases h with ⟨rfl, rfl⟩ | ⟨_, hk, N, bs1, e1, hc, hm2⟩
    · cases hg
    · rw [hp, he] at hm2
      obtain ⟨hlen, hl⟩ := hm2
      rw [hs']
      refine .inr ⟨rfl, hk, N, bs1, e1, hc, ?_⟩
      show (if s'.e = 0 then L.length + 1 + s'.bs.length ≤ full.length ∧ _ else _)
      obtain ⟨m', hm'⟩ : ∃ m', s.m = m' + 1 := ⟨s.m - 1, by omega⟩
      by_cases he' : s'.e = 0
      · rw [if_pos he']
        rw [he'] at htx
        have hsh := textS_shorter htx
        refine ⟨by omega, ?_⟩
        rw [hl, hm', lstS_good _ _ _ _ htx]
        simp
      · rw [if_neg he', hl, hm', lstS_bad _ _ _ _ _ he' htx]
        simp
theorem run_next {most : Int} {full : List UInt8} {s : St} {L : List (List UInt8)} {x : Nat × Value × List UInt8} (h : Run most full s L) (he : s.e = 0) (hp : s.pend = some (x.2.1, x.2.2)) : Run most full (s.nx x) (L ++ [x.2.2]) ∧ L.length + 1 ≤ full.length := by
  rcases h with ⟨rfl, rfl⟩ | ⟨hg, hk, N, bs1, e1, hc, hm⟩
  · cases hp
  · rw [hp] at hm
    simp only at hm
    rw [if_pos he] at hm
    refine ⟨.inr ⟨hg, by simp [St.nx, hk], N, bs1, e1, hc, ?_⟩, by omega⟩
    show (L ++ [x.2.2]).length + s.bs.length ≤ full.length ∧ _
    refine ⟨by simp; omega, ?_⟩
    rw [hm.2]
    simp [St.nx, he]
theorem run_done {most : Int} {full : List UInt8} {s : St} {L : List (List UInt8)} (h : Run most full s L) (hg : s.go = true) (hS : (s.m = 0 ∧ s.pend = none) ∨ s.e ≠ 0) : ∃ N bs1 e1, countS most full 0 = (N, bs1, e1) ∧ lstS N.toNat bs1 e1 = (L, s.bs, s.e) := by
  rcases h with ⟨rfl, rfl⟩ | ⟨_, hk, N, bs1, e1, hc, hm⟩
  · cases hg
  · refine ⟨N, bs1, e1, hc, ?_⟩
    rcases hS with ⟨h0, hp⟩ | he
    · rw [hp] at hm
      rw [hm.2, h0, lstS]
      simp
    · cases hp : s.pend with
      | none =>
        rw [hp] at hm
        rw [hm.2, lstS_err _ _ _ he]
        simp
      | some x =>
        rw [hp] at hm
        simp only at hm
        rw [if_neg he] at hm
        exact hm
/-- An append of one slice, as it runs. -/
theorem runAppendL {n0 : Nat} {w : World} {v : Value} {L : List (List UInt8)} (h : RowL n0 w v L) {xv : Value} {bs : List UInt8} (hr : Row w xv bs) (hd : ∀ k ∈ own xv, n0 ≤ k ∧ k ∉ own v) (hn0 : n0 ≤ w.heap.size) {q : Nat} (hq : w.heap.size = q) (hb : L.length + 1 ≤ 5000000000000) (ty : TypeId) :
    ∃ v' w', (Builtin.append_ #[26, 26] ty #[v, .slice (some ⟨q, 0, none⟩) 1 1]).run Try.prog (w.alloc (.cells #[xv] 22)) = .ok v' w' ∧ RowL n0 w' v' (L ++ [bs]) ∧ Kp (own v) w w' ∧ ∀ k ∈ own v', k ∈ own v ∨ w.heap.size ≤ k := by
  subst hq
  obtain ⟨i, hi, hz, hz1, hz2⟩ := infoSl
  obtain ⟨vs, hvl, hs, hfr, hel⟩ := h
  have hkA : Kp (own v) w (w.alloc (.cells #[xv] 22)) := (Kp.refl _ _).alloc _
  have hsA := hs.kept (S := []) ((Kp.refl _ _).alloc (.cells #[xv] 22)) (by simp)
  have hsrc : Src Try.prog 1 26 (.slice (some ⟨w.heap.size, 0, none⟩) 1 1) [xv].length [xv] (w.alloc (.cells #[xv] 22)) := by
    refine Src.ofSlice _ Try.underlying26 ⟨w.heap.size, 0, none⟩ 1 1 [xv] rfl ?_ (by intro u hu; simp at hu; subst hu; exact rowOne hr)
    intro j u hu
    match j, hu with
    | 0, hu => cases hu; rw [Addr.add_lit]; exact World.cell?_alloc_new w _ _ 0
    | j + 1, hu => simp at hu
  obtain ⟨v', w', hrun, h1, h2, h3⟩ := run_appendS (P := Try.prog) _ 26 26 ty i Try.underlying26 hi hz hz1 hz2 v vs hsA _ [xv] hsrc (by simp; omega)
  have hkk : Kp (own v) w w' := hkA.trans h2 (fun x hx => .inl hx)
  have hnew : ∀ k ∈ own v', k ∈ own v ∨ w.heap.size ≤ k := by
    intro k hk
    rcases h3 k hk with h | h
    · exact .inl h
    · right; simp at h; omega
  refine ⟨v', w', hrun, ⟨vs ++ [xv], by simp [hvl], h1, fun k hk => (by rcases hnew k hk with h | h; exact hfr k h; omega), ?_⟩, hkk, hnew⟩
  intro j y ob hy hob
  have key : Row w y ob ∧ ∀ k ∈ own y, n0 ≤ k ∧ k ∉ own v := by
    by_cases hj : j < vs.length
    · rw [List.getElem?_append_left hj] at hy
      rw [List.getElem?_append_left (by omega)] at hob
      exact hel j y ob hy hob
    · rw [List.getElem?_append_right (by omega)] at hy
      rw [List.getElem?_append_right (by omega)] at hob
      have : j - vs.length = 0 := by have := (List.getElem?_eq_some_iff.1 hy).1; simp at this; omega
      rw [this] at hy
      rw [← hvl, this] at hob
      cases hy
      cases hob
      exact ⟨hr, hd⟩
  refine ⟨key.1.kept hkk (fun k hk => (key.2 k hk).2), fun k hk => ⟨(key.2 k hk).1, fun hm => ?_⟩⟩
  rcases hnew k hm with h | h
  · exact (key.2 k hk).2 h
  · have := key.1.lt k hk; omega
/-- .. for the fenced walk. -/
theorem wpAppendLIn {F : Fence} {n : Nat} {n0 : Nat} {w : World} {ops : Array Oper} {rest : List Oper} {o : Oper} {a : Act} {Q : Exit → Act → World → Prop} (hgd : o.guard = none) (s x : Operand)
    (ho : o.op = .call { callee := .builtin .append, args := #[s, x], argTypes := #[26, 26] })
    (v : Value) (L : List (List UInt8)) (hv : a.eval s = v) (h : RowL n0 w v L) (xv : Value) (bs : List UInt8) (hr : Row w xv bs) (hd : ∀ k ∈ own xv, n0 ≤ k ∧ k ∉ own v) (hn0 : n0 ≤ w.heap.size)
    {q : Nat} (hq : w.heap.size = q) (hx : a.eval x = .slice (some ⟨q, 0, none⟩) 1 1) (hb : L.length + 1 ≤ 5000000000000)
    (hK : ∀ v' w', RowL n0 w' v' (L ++ [bs]) → Kp (own v) w w' → (∀ k ∈ own v', k ∈ own v ∨ w.heap.size ≤ k) → wpListIn F n Try.prog ops Q rest (a.put o.dst v') w') : wpListIn F n Try.prog ops Q (o :: rest) a (w.alloc (.cells #[xv] 22)) := by
  refine wpListIn_plain hgd fun K hK' => ?_
  obtain ⟨v', w', hrun, r1, r2, r3⟩ := runAppendL h hr hd hn0 hq hb o.type
  unfold Oper.wpIn
  refine ⟨?_, ?_⟩
  · simp [Oper.about, ho, resolve, Target.leads, Sem.run_pure]
  · rw [Oper.semAt_plain F _ _ (by rw [ho]; intro c hc'; cases hc')]
    simp [execOp, ho, resolve, invoke, builtin, hv, hx, hrun, Result.andThen]
    exact hK' _ _ (hK v' w' r1 r2 r3)
end Go.Proofs.Ytcmfhejjndlnnaa

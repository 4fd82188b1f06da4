/- NetCounts: the walk. -/
import Derived.Test.YtgegdlllmpinfaaNcn2
namespace Go.Proofs.Ytgegdlllmpinfaa
open Go.RowKit Go.Hay
set_option linter.unusedVariables false
set_option linter.unusedSimpArgs false

theorem infoS : ∃ i : TypeInfo, Try.prog.info? 27 = some i ∧ i.zero = some (.slice none 0 0) ∧ i.size = 1 ∧ i.bytes = 24 := info3 (by kernel_rfl)
/-- One more slice of bytes, for the walk. -/
theorem wpAppB {w : World} {ops : Array Oper} {rest : List Oper} {o : Oper} {a : Act} {Q : Exit → Act → World → Prop} (hgd : o.guard = none) (s x : Operand)
    (ho : o.op = .call { callee := .builtin .append, args := #[s, x], argTypes := #[26, 26] })
    (v : Value) (l : List Bs) (hs : a.eval s = v) (hown : BsE.Row w v l) (y : Bs) (q : Nat) (hq : w.heap.size = q) (hx : a.eval x = .slice (some ⟨q, 0, none⟩) 1 1) (hb : l.length ≤ 6000000000000)
    (hK : ∀ l' a' c' w', Hid (l' = l ++ [y]) → BsE.Row w' (.slice a' l'.length c') l' → Kp (own v) w w' → (∀ k ∈ own (.slice a' l'.length c'), k ∈ own v ∨ w.heap.size ≤ k) → wpList Try.prog ops Q rest (a.put o.dst (.slice a' l'.length c')) w') :
    wpList Try.prog ops Q (o :: rest) a (w.alloc (.cells #[.slice y.a y.bs.length y.c] 27)) := by
  obtain ⟨i0, hi, hz0, hz1, hz2⟩ := infoS
  subst hq
  have kk : Kp [] w (w.alloc (.cells #[.slice y.a y.bs.length y.c] 27)) := (Kp.refl _ _).alloc _
  have hs1 : Src Try.prog 1 26 (.slice (some ⟨w.heap.size, 0, none⟩) 1 1) 1 (BsE.cs [y]) (w.alloc (.cells #[.slice y.a y.bs.length y.c] 27)) := by
    refine Src.ofSlice _ Try.underlying26 ⟨w.heap.size, 0, none⟩ 1 1 _ rfl ?_ (El.cs_one BsE [y])
    intro j u hu
    rw [Addr.add_lit, Nat.zero_add]
    match j, hu with
    | 0, hu => cases hu; exact World.cell?_alloc_new w _ _ 0
    | j + 1, hu => simp [El.cs, BsE] at hu
  refine wpAppG (E := BsE) hgd s x _ _ _ ho i0 _ 24 Try.underlying26 hi hz0 hz1 hz2 rfl v l hs (hown.keptNew kk) _ [y] hx hs1 (by simp only [List.length_cons, List.length_nil]; omega) (by simp only [List.length_cons, List.length_nil]; omega) ?_
  intro l' a' c' w' hl hr hk hn
  have hob : own (.slice a' l'.length c') = blk a' := by obtain ⟨_, _, e, _, _, _, _, h⟩ := hr.see; cases e; exact h
  refine hK l' a' c' w' hl hr ((kk.mono (T := own v) (by simp)).trans hk (fun _ h => .inl h)) (fun k hk' => ?_)
  rw [hob] at hk'
  rcases hn k hk' with h1 | h1
  · exact .inl h1
  · exact .inr (by have := kk.size; omega)
/-- What At tells, whatever it is. -/
theorem atShape {o : Option Msg} {w w' : World} {e : Ending} (h : AtP o w e w') : ∃ (t : Int) (y : Bs) (is : Bool), e = .returned (.tuple #[.int .i64 t, .slice y.a y.bs.length y.c, .bool is]) ∧ Kp [] w w' ∧ Hid (is = o.isSome) ∧ y.ok w' ∧ (∀ k ∈ blk y.a, w.heap.size ≤ k) ∧ ∀ m, o = some m → y.bs = m.body := by
  cases o with
  | none =>
    obtain ⟨rfl, hk⟩ := h
    exact ⟨0, ⟨none, 0, []⟩, false, rfl, hk, rfl, ⟨Sees.nil _ _, Nat.le_refl _, fun _ => rfl⟩, by simp [blk], fun m h => by cases h⟩
  | some m =>
    obtain ⟨a, c, rfl, hr, hk, hn⟩ := h
    obtain ⟨a', c', e, hs, _⟩ := hr.sees
    cases e
    refine ⟨m.to, ⟨a, c, m.body⟩, true, rfl, hk, rfl, ⟨hs, ?_, ?_⟩, hn, fun m' h => by cases h; rfl⟩
    · obtain ⟨_, _, e, hl⟩ := hr.shape; cases e; exact hl
    · intro h
      simp only at h
      subst h
      rcases hr with ⟨e, _⟩ | ⟨_, _, _, e, _⟩
      · simp only [Value.slice.injEq] at e; exact e.2.2
      · cases e
theorem takeShape {p : Nat} {v : Value} {n : Nt} {i : Int} {w w' : World} {e : Ending} (h : TakeP p v n i w e w') : ∃ (v' : Value) (t : Int) (y : Bs) (is : Bool), e = .returned (.tuple #[.int .i64 t, .slice y.a y.bs.length y.c, .bool is]) ∧ Net w' p v' (dropN n i) ∧ Wrote p v w v' w' ∧ Hid (is = (atN n i).isSome) ∧ y.ok w' ∧ (∀ k ∈ blk y.a, w.heap.size ≤ k ∧ k ∉ p :: own v') ∧ ∀ m, atN n i = some m → y.bs = m.body := by
  obtain ⟨v', hN, hW, hm⟩ := h
  cases ho : atN n i with
  | none =>
    rw [ho] at hm
    subst hm
    exact ⟨v', 0, ⟨none, 0, []⟩, false, rfl, hN, hW, rfl, ⟨Sees.nil _ _, Nat.le_refl _, fun _ => rfl⟩, by simp [blk], fun m h => by cases h⟩
  | some m =>
    rw [ho] at hm
    obtain ⟨a, c, rfl, hr, hn, hd⟩ := hm
    obtain ⟨a', c', e, hs, _⟩ := hr.sees
    cases e
    refine ⟨v', m.to, ⟨a, c, m.body⟩, true, rfl, hN, hW, rfl, ⟨hs, ?_, ?_⟩, fun k hk => ⟨hn k hk, hd k hk⟩, fun m' h => by cases h; rfl⟩
    · obtain ⟨_, _, e, hl⟩ := hr.shape; cases e; exact hl
    · intro h
      simp only at h
      subst h
      rcases hr with ⟨e, _⟩ | ⟨_, _, _, e, _⟩
      · simp only [Value.slice.injEq] at e; exact e.2.2
      · cases e
theorem offNew {F : List Nat} {w : World} {y : Bs} (h : ∀ k ∈ F, k < w.heap.size) (hn : ∀ k ∈ blk y.a, w.heap.size ≤ k) : Off F y := fun _ k hk hf => by have := h k hf; have := hn k hk; omega
theorem offOld {F : List Nat} {w : World} {y : Bs} (h : ∀ k ∈ F, w.heap.size ≤ k) (hy : y.ok w) : Off F y := fun hb k hk hf => by have := h k hf; have := hy.see.lt hb k hk; omega
theorem smalls_put {n : Nt} {m : Msg} (h : Smalls n) (hm : m.body.length ≤ 140737488355328) : Smalls (putN n m).1 := by
  unfold putN
  split
  · exact h
  · intro x hx
    rcases List.mem_append.1 hx with h1 | h1
    · exact h x h1
    · rw [List.mem_singleton] at h1; subst h1; exact hm
theorem smalls_drop {n : Nt} (i : Int) (h : Smalls n) : Smalls (dropN n i) := by
  unfold dropN
  split
  · exact fun x hx => h x (List.mem_of_mem_eraseIdx hx)
  · exact h
theorem len_put (n : Nt) (m : Msg) : (putN n m).1.l.length ≤ n.l.length + 1 := by unfold putN; split <;> simp
theorem len_drop (n : Nt) (i : Int) : (dropN n i).l.length ≤ n.l.length := by
  unfold dropN
  split
  · exact List.length_eraseIdx_le _ _
  · exact Nat.le_refl _
/-- All that a round keeps. -/
structure CntR (W : World) (p : Nat) (w : World) (v vi vo : Value) (li lo : List Bs) (n : Nt) (j : Nat) : Prop where
  I : CntI W p w v vi vo li lo n
  ev : Even li lo n
  sm : Smalls n
  a : li.length ≤ j
  b : lo.length ≤ j
  c : n.l.length ≤ j
theorem CntR.keep {W : World} {p : Nat} {w w' : World} {v vi vo : Value} {li lo : List Bs} {n : Nt} {j : Nat} (h : CntR W p w v vi vo li lo n j) (hk : Kp [] w w') : CntR W p w' v vi vo li lo n (j + 1) :=
  ⟨(h.I.keep hk).1, h.ev, h.sm, by have := h.a; omega, by have := h.b; omega, by have := h.c; omega⟩
end Go.Proofs.Ytgegdlllmpinfaa

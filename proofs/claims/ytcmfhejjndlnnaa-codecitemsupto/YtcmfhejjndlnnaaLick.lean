/- What is kept of a world's cells, but for some blocks; the things of a list read behind it. -/
import Derived.Test.YtcmfhejjndlnnaaLawl
namespace Go.Proofs.Ytcmfhejjndlnnaa
open Go.RowKit Go.Hay Go.Shelf
set_option linter.unusedVariables false
set_option linter.unusedSimpArgs false

/-- The cells of A outside of the blocks X stand in B as they stood. -/
structure CK (X : List Nat) (A B : World) : Prop where
  cell : ∀ a v, A.cell? a = some v → a.block ∉ X → B.cell? a = some v
  frozen : ∀ a v, A.cell? a = some v → a.block ∉ X → B.frozen? a = A.frozen? a
theorem CK.refl (X : List Nat) (A : World) : CK X A A := ⟨fun _ _ h _ => h, fun _ _ _ _ => rfl⟩
theorem CK.kp {X S : List Nat} {A B C : World} (h : CK X A B) (hk : Kp S B C) (hS : ∀ x ∈ S, x ∈ X) : CK X A C :=
  ⟨fun a v ha hx => (hk.cell (World.block_lt_of_cell? _ _ (h.cell a v ha hx)) (fun hm => hx (hS _ hm))).trans (h.cell a v ha hx),
   fun a v ha hx => (hk.frozen (World.block_lt_of_cell? _ _ (h.cell a v ha hx)) (fun hm => hx (hS _ hm))).trans (h.frozen a v ha hx)⟩
theorem CK.noc {X S : List Nat} {A B C : World} (h : CK X A B) (hk : Kp S B C) (hn : NoC S B) : CK X A C :=
  ⟨fun a v ha hx => cellN hk hn (h.cell a v ha hx), fun a v ha hx => (frozenN hk hn (by rw [h.cell a v ha hx]; rfl)).trans (h.frozen a v ha hx)⟩
theorem CK.pre {X : List Nat} {A B C : World} (hk : Kp [] A B) (h : CK X B C) : CK X A C :=
  ⟨fun a v ha hx => h.cell a v ((hk.cell (World.block_lt_of_cell? _ _ ha) (by simp)).trans ha) hx,
   fun a v ha hx => (h.frozen a v ((hk.cell (World.block_lt_of_cell? _ _ ha) (by simp)).trans ha) hx).trans (hk.frozen (World.block_lt_of_cell? _ _ ha) (by simp))⟩
theorem CK.drewN {X : List Nat} {A B : World} (h : CK X A B) (k : Nat) : CK X A (B.drewN k) := h.kp (S := []) ((Kp.refl _ _).drewN k) (by simp)

theorem rowLat2 {n0 : Nat} {X : List Nat} {A B : World} {v : Value} {L : List (List UInt8)} (h : RowL n0 A v L) (hk : CK X A B) (hX : ∀ x ∈ X, x < n0 ∨ A.heap.size ≤ x) (j : Nat) (hj : j < L.length) :
    ∃ g o c ax cx, v = .slice (some ⟨g, o, none⟩) L.length c ∧ B.cell? ⟨g, o + j, none⟩ = some (.slice ax L[j].length cx) ∧ Sees B ax L[j] := by
  have hfr := h.from
  obtain ⟨vs, hvl, hs, _, hel⟩ := h
  rcases hs with ⟨rfl, rfl⟩ | ⟨g, o, cap, rfl, _, _, hg, hc, _⟩
  · simp at hvl; omega
  · have hv : vs[j]? = some (vs[j]'(by omega)) := List.getElem?_eq_getElem (by omega)
    obtain ⟨hr, ho⟩ := hel j _ L[j] hv (by simp)
    obtain ⟨ax, cx, hx, hse, hown⟩ := hr.sees
    have hg0 := hfr g (by simp [own, Value.ownBlock])
    refine ⟨g, o, cap, ax, cx, by rw [hvl], hk.cell _ _ (by rw [hc j _ hv, hx]) (fun hm => by have := hX _ hm; dsimp only at this; omega), ?_⟩
    rcases hse with hse | ⟨g', o', rfl, hse⟩
    · exact .inl hse
    · have hg1 := (ho g' (by rw [hown]; simp [blk])).1
      refine .inr ⟨g', o', rfl, fun i u hu => hk.cell _ _ (hse i u hu) (fun hm => ?_)⟩
      have h1 := hX _ hm
      have h2 := World.block_lt_of_cell? _ _ (hse i u hu)
      dsimp only at h1 h2
      omega

/-- How the law's memory stands between two rounds: q: the box of k. -/
def ItemI (p q : Nat) (D : List Nat) (full : List UInt8) (most : Int) (w WB : World) (s : St) (W : World) : Prop :=
  ∃ L, Run most full s L ∧ W.cell? ⟨q, 0, none⟩ = some (.int .i64 s.k) ∧ W.frozen? ⟨q, 0, none⟩ = false ∧ CK [p, q] WB W ∧ Rd W p D s.bs s.e ∧ Kp [] w W ∧ WB.heap.size ≤ W.heap.size ∧
    ∀ x out, s.pend = some (x, out) → Row W x out
/-- .. where it has been left. -/
def ItemX (t : Nat) (w : World) (c : Code) (s : St) (W : World) : Prop := c = .ret ∧ W.cell? ⟨t, 0, none⟩ = some (.bool true) ∧ Kp [] w W

theorem itemOwn (p q : Nat) (D : List Nat) (full : List UInt8) (most : Int) (w WB : World) (B : Nat) (hB : w.heap.size ≤ B) : OwnFrom B (ItemI p q D full most w WB) := by
  intro s W W' row ⟨L, h1, h2, h3, h4, h5, h6, h7, h8⟩ hg hr
  have hk := kpOfGrown hg
  have hn := nocOf hr
  exact ⟨L, h1, cellN hk hn h2, (frozenN hk hn (by rw [h2]; rfl)).trans h3, h4.noc hk hn, rdN hk hn h5, h6.trans hk (fun x hx => .inr (by have := (hr x (by simpa [Option.mem_toList] using hx)).1; omega)), Nat.le_trans h7 hk.size, fun x out hp => rowN hk hn (h8 x out hp)⟩
theorem itemOwnX (t : Nat) (w : World) (c : Code) (B : Nat) (hB : w.heap.size ≤ B) : OwnFrom B (ItemX t w c) := by
  intro s W W' row ⟨h1, h2, h3⟩ hg hr
  have hk := kpOfGrown hg
  have hn := nocOf hr
  exact ⟨h1, cellN hk hn h2, h3.trans hk (fun x hx => .inr (by have := (hr x (by simpa [Option.mem_toList] using hx)).1; omega))⟩
theorem itemTurn (p q : Nat) (D : List Nat) (full : List UInt8) (most : Int) (w WB : World) (hp : w.heap.size ≤ p) (hq : q ≠ p) (s s' : St) (A B : World) (h : ItemI p q D full most w WB s A) (ht : Turn p D most s s' A B) : ItemI p q D full most w WB s' B := by
  obtain ⟨L, h1, h2, h3, h4, h5, h6, h7, h8⟩ := h
  have hk := ht.1
  have hsk : s'.k = s.k := by
    obtain ⟨_, _, ⟨_, n, _, _, hs'⟩ | ⟨_, _, _, _, v', out', _, hs', hrow, hown⟩⟩ := ht <;> rw [hs']
  refine ⟨L, run_turn h1 ht, by rw [hsk]; exact (hk.cell (p := ⟨q, 0, none⟩) (World.block_lt_of_cell? _ _ h2) (by simpa using hq)).trans h2, (hk.frozen (p := ⟨q, 0, none⟩) (World.block_lt_of_cell? _ _ h2) (by simpa using hq)).trans h3, h4.kp hk (by simp), ht.2.1, h6.trans hk (fun x hx => .inr (by simp at hx; omega)), Nat.le_trans h7 hk.size, ?_⟩
  intro x out hpe
  obtain ⟨_, _, ⟨_, n, _, _, hs'⟩ | ⟨_, _, _, _, v', out', _, hs', hrow, hown⟩⟩ := ht
  · rw [hs'] at hpe; cases hpe
  · rw [hs'] at hpe
    cases hpe
    exact hrow
/-- The thing at hand is the list's next. -/
theorem run_at {most : Int} {full : List UInt8} {s : St} {L : List (List UInt8)} {v : Value} {out : List UInt8} (h : Run most full s L) (he : s.e = 0) (hp : s.pend = some (v, out)) {N : Int} {bs1 bs2 : List UInt8} {e1 e2 : Int} {ML : List (List UInt8)} (hc : countS most full 0 = (N, bs1, e1)) (hl : lstS N.toNat bs1 e1 = (ML, bs2, e2)) :
    ∃ hk : s.k < ML.length, ML[s.k] = out := by
  rcases h with ⟨rfl, rfl⟩ | ⟨hg, hk, N', bs1', e1', hc', hm⟩
  · cases hp
  · rw [hc] at hc'
    simp only [Prod.mk.injEq] at hc'
    obtain ⟨rfl, rfl, rfl⟩ := hc'
    rw [hp] at hm
    simp only at hm
    rw [if_pos he, hl] at hm
    have hML := (Prod.mk.injEq .. ▸ hm.2 : ML = _ ∧ _).1
    subst hML
    exact ⟨by simp; omega, by simp [← hk]⟩
end Go.Proofs.Ytcmfhejjndlnnaa

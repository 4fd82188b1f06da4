/- What is kept where only blocks that hold no cells have turned. -/
import Derived.Test.YtcmfhejjndlnnaaLitr
namespace Go.Proofs.Ytcmfhejjndlnnaa
open Go.RowKit Go.Hay
set_option linter.unusedVariables false
set_option linter.unusedSimpArgs false

/-- None of these blocks holds cells. -/
def NoC (S : List Nat) (W : World) : Prop := ∀ r ∈ S, ∃ o : Obj, W.heap[r]? = some o ∧ o.isCells = false
theorem NoC.out {S : List Nat} {W : World} (h : NoC S W) {a : Addr} (hc : (W.cell? a).isSome = true) : a.block ∉ S := fun hm => by
  obtain ⟨o, ho, hn⟩ := h _ hm
  unfold World.cell? at hc
  rw [ho] at hc
  cases o <;> simp_all [Obj.isCells]
theorem kpOfGrown {W W' : World} {row : Option Nat} (hg : W.grownBy W' row) : Kp row.toList W W' :=
  ⟨hg.os, hg.tape, hg.output, hg.size, fun k hk hn => hg.block k hk (fun e => hn (by simp [← e]))⟩
theorem nocOf {W : World} {row : Option Nat} {B : Nat} (hr : ∀ r, row = some r → B ≤ r ∧ ∃ o : Obj, W.heap[r]? = some o ∧ o.isCells = false) : NoC row.toList W := fun r hm => (hr r (by simpa [Option.mem_toList] using hm)).2
theorem cellN {S : List Nat} {W W' : World} (hk : Kp S W W') (hn : NoC S W) {a : Addr} {v : Value} (hc : W.cell? a = some v) : W'.cell? a = some v :=
  (hk.cell (World.block_lt_of_cell? _ _ hc) (hn.out (by rw [hc]; rfl))).trans hc
theorem frozenN {S : List Nat} {W W' : World} (hk : Kp S W W') (hn : NoC S W) {a : Addr} (hc : (W.cell? a).isSome = true) : W'.frozen? a = W.frozen? a := by
  obtain ⟨v, hv⟩ := Option.isSome_iff_exists.1 hc
  exact hk.frozen (World.block_lt_of_cell? _ _ hv) (hn.out hc)
theorem someN {S : List Nat} {W W' : World} (hk : Kp S W W') (hn : NoC S W) {a : Addr} (hc : (W.cell? a).isSome = true) : (W'.cell? a).isSome = true := by
  obtain ⟨v, hv⟩ := Option.isSome_iff_exists.1 hc
  rw [cellN hk hn hv]; rfl
theorem rowN {S : List Nat} {W W' : World} (hk : Kp S W W') (hn : NoC S W) {v : Value} {bs : List UInt8} (h : Row W v bs) : Row W' v bs := by
  rcases h with h | ⟨g, o, cap, rfl, hl, hm, hg, hc, ht⟩
  · exact .inl h
  · exact .inr ⟨g, o, cap, rfl, hl, hm, Nat.lt_of_lt_of_le hg hk.size, fun j u hu => cellN hk hn (hc j u hu), fun j hj => ⟨someN hk hn (ht j hj).1, (frozenN hk hn (ht j hj).1).trans (ht j hj).2⟩⟩
theorem seesN {S : List Nat} {W W' : World} (hk : Kp S W W') (hn : NoC S W) {a : Option Addr} {bs : List UInt8} (h : Sees W a bs) : Sees W' a bs := by
  rcases h with h | ⟨g, o, h, hc⟩
  · exact .inl h
  · exact .inr ⟨g, o, h, fun j u hu => cellN hk hn (hc j u hu)⟩
theorem rdN {S : List Nat} {W W' : World} (hk : Kp S W W') (hn : NoC S W) {p : Nat} {D : List Nat} {bs : List UInt8} {e : Int} (h : Rd W p D bs e) : Rd W' p D bs e := by
  obtain ⟨a, c, h1, h2, h3, h4, h5⟩ := h.left
  exact ⟨⟨a, c, cellN hk hn h1, h2, h3, seesN hk hn h4, h5⟩, cellN hk hn h.err, (frozenN hk hn (by rw [h1]; rfl)).trans h.free0, (frozenN hk hn (by rw [h.err]; rfl)).trans h.free1, h.apart, fun k hk' => Nat.lt_of_lt_of_le (h.dlt k hk') hk.size⟩
theorem rowSN {S : List Nat} {W W' : World} (hk : Kp S W W') (hn : NoC S W) {v : Value} {vs : List Value} (h : RowS W v vs) : RowS W' v vs := by
  rcases h with h | ⟨g, o, cap, rfl, hl, hm, hg, hc, ht⟩
  · exact .inl h
  · exact .inr ⟨g, o, cap, rfl, hl, hm, Nat.lt_of_lt_of_le hg hk.size, fun j u hu => cellN hk hn (hc j u hu), fun j hj => ⟨someN hk hn (ht j hj).1, (frozenN hk hn (ht j hj).1).trans (ht j hj).2⟩⟩
theorem rowLN {S : List Nat} {W W' : World} (hk : Kp S W W') (hn : NoC S W) {n0 : Nat} {v : Value} {L : List (List UInt8)} (h : RowL n0 W v L) : RowL n0 W' v L := by
  obtain ⟨vs, hvl, hs, hfr, hel⟩ := h
  exact ⟨vs, hvl, rowSN hk hn hs, hfr, fun j y ob hy hob => ⟨rowN hk hn (hel j y ob hy hob).1, (hel j y ob hy hob).2⟩⟩

theorem newCell (w : World) (v : Value) (t : TypeId) {q : Nat} (hq : w.heap.size = q) : (w.alloc (.cells #[v] t)).cell? ⟨q, 0, none⟩ = some v := by subst hq; exact World.cell?_alloc_new w _ _ 0
theorem oldCell {w : World} {a : Addr} {v : Value} (h : w.cell? a = some v) (o : Obj) : (w.alloc o).cell? a = some v := (World.cell?_alloc_lt _ _ _ (World.block_lt_of_cell? _ _ h)).trans h
/-- What Items hands back: a closure over three boxes. -/
theorem cItems (p : Nat) (most : Int) (w : World) : Calls Try.prog 13 #[.pointer (some ⟨p, 0, none⟩), .int .i64 most, .func (.func 8) #[] #[]] w fun e w' =>
    e = .returned (.func (.func 26) #[] #[.pointer (some ⟨w.heap.size, 0, none⟩), .pointer (some ⟨w.heap.size + 1, 0, none⟩), .pointer (some ⟨w.heap.size + 2, 0, none⟩)]) ∧ Kp [] w w' ∧ w'.heap.size = w.heap.size + 3 ∧
    w'.cell? ⟨w.heap.size, 0, none⟩ = some (.pointer (some ⟨p, 0, none⟩)) ∧ w'.cell? ⟨w.heap.size + 1, 0, none⟩ = some (.int .i64 most) ∧ w'.cell? ⟨w.heap.size + 2, 0, none⟩ = some (.func (.func 8) #[] #[]) := by
  go_enter Try.func13, Try.ntmps13
  go_wp2_with fail
  go_ret
  refine ⟨rfl, (((Kp.refl _ _).alloc _).alloc _).alloc _, by simp, oldCell (oldCell (newCell _ _ _ rfl) _) _, oldCell (newCell _ _ _ (by simp)) _, newCell _ _ _ (by simp)⟩
end Go.Proofs.Ytcmfhejjndlnnaa

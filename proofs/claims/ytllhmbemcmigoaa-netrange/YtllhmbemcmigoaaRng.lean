/- A range over one's messages tells what there was when it began, whatever is sent or taken while it goes on; it may be left, and gone over again: the law answers true, for every room, every script and everyone. -/
import Derived.Test.YtllhmbemcmigoaaB7
import Derived.Test.YtllhmbemcmigoaaB6
import Derived.Test.YtllhmbemcmigoaaB2
import Derived.SizedLaws
import Derived.JoinedCond
import Derived.Deep.CondSized
section
namespace Go.Proofs.Ytllhmbemcmigoaa
open Go.RowKit Go.Hay
set_option linter.unusedVariables false
set_option linter.unusedSimpArgs false

instance : Inhabited Msg := ⟨⟨0, []⟩⟩
theorem Net.ck {X Y : World} (h : Ck X Y) {p : Nat} {v : Value} {n : Nt} (hN : Net X p v n) : Net Y p v n := by
  have e := h.block (a := ⟨p, 0, none⟩) (by rw [hN.c0]; rfl)
  exact ⟨h.cell hN.c0, h.cell hN.c1, fun j => (World.frozen?_of_block (a := ⟨p, j, none⟩) e).trans (hN.free j), h.rowE hN.row, hN.apart⟩
theorem RnOk.ck {X Y : World} (h : Ck X Y) {r : RN} (hr : RnOk X r) : RnOk Y r := ⟨h.seesE hr.see, fun x hx => h.sees (hr.raw x hx)⟩
/-- The first range: nothing old has turned. -/
structure RgA (wl : World) (s : Sb) (W : World) : Prop where
  kp : Kp [] wl W
  mb : s.made = true → wl.heap.size + 2 ≤ s.B0
  js : ∀ j ∈ s.js, (j < wl.heap.size ∧ s.made = false) ∨ wl.heap.size + 2 ≤ j
  jl : ∀ j ∈ s.js, j < W.heap.size
  un : s.made = false → s.v = none
theorem RgA.ownF {wl : World} : OwnFrom wl.heap.size (RgA wl) := fun s X Y row h hg hr => by
  have ht : TurnT wl.heap.size X Y := TurnT.ofGrown hg hr
  exact ⟨Kp.turn h.kp ht (Nat.le_refl _), h.mb, h.js, fun j hj => Nat.lt_of_lt_of_le (h.jl j hj) ht.size, h.un⟩
theorem RgA.step {wl : World} {l : List Msg} {to : Int} (s s' : Sb) (A B : World) (hz : wl.heap.size + 2 ≤ A.heap.size) (h : RgA wl s A) (ht : StepT l to s s' A B) : RgA wl s' B := by
  have hB := StepT.low h.mb hz ht
  have made' : s'.made = true := by
    cases e : s.made with
    | true => exact (ht.stays e).1
    | false => exact (ht.makes e).1
  refine ⟨Kp.turn h.kp ht.turn (by omega), fun _ => hB, fun j hj => .inr ?_, fun j hj => ?_, fun e => (by rw [made'] at e; cases e)⟩
  · cases e : s.made with
    | true =>
      rw [(ht.stays e).2.2] at hj
      rcases h.js j hj with h1 | h1
      · rw [e] at h1; cases h1.2
      · exact h1
    | false => have := (ht.makes e).2.2.1 j hj; omega
  · cases e : s.made with
    | true => rw [(ht.stays e).2.2] at hj; exact Nat.lt_of_lt_of_le (h.jl j hj) ht.turn.size
    | false => exact ((ht.makes e).2.2.1 j hj).2
/-- .. when it has been left. -/
def RgX (wl : World) (c0 c : Code) (s : Sb) (W : World) : Prop := c = c0 ∧ s.made = true ∧ RgA wl s W
theorem RgX.ownF {wl : World} {c0 c : Code} : OwnFrom wl.heap.size (RgX wl c0 c) := fun s X Y row h hg hr => ⟨h.1, h.2.1, RgA.ownF s X Y row h.2.2 hg hr⟩
theorem RgX.step {wl : World} {c0 c : Code} {s : Sb} {A B : World} (h : RgX wl c0 c s A) (ht : StepX s A B) : RgX wl c0 c s B :=
  ⟨h.1, h.2.1, Kp.turn h.2.2.kp ht.2 (by have := h.2.2.mb h.2.1; omega), h.2.2.mb, h.2.2.js, fun j hj => Nat.lt_of_lt_of_le (h.2.2.jl j hj) ht.2.size, h.2.2.un⟩
/-- The second range. -/
structure RgB (W0 : World) (Bx : List Nat) (q5 q6 q7 q9 q10 wl D p : Nat) (r : RN) (L0 : List Msg) (to : Int) (mx : Nat) (s : Sb) (X : World) : Prop where
  kp : Kp [] W0 X
  b5 : B1 X q5 (.int .i64 to)
  b6 : B1 X q6 (.bool false)
  b7 : B1 X q7 (.pointer (some ⟨p, 0, none⟩))
  b9 : B2 X q9 (.int .i64 r.room) (.slice r.la r.l.length r.lc)
  k : ∃ K : Nat, B1 X q10 (.int .i64 (K : Int)) ∧ K ≤ s.i ∧ ∀ i m, K ≤ i → i < s.i → L0[i]? = some m → m.to ≠ to
  R : RnOk X r
  dd : X.heap[D]? = some (.deferred (some []))
  net : ∃ v n, Net X p v n ∧ Smalls n ∧ RoomOk n ∧ n.l.length ≤ mx ∧ (∀ k ∈ p :: own v, W0.heap.size ≤ k ∧ k ∉ Bx ∧ k ∉ r.foot ∧ (s.made = true → k ∉ s.js) ∧ k ≠ D) ∧ ((∀ k ∈ p :: own v, k < wl) ∨ n.l ≠ []) ∧ p < wl ∧ (L0 ≠ [] → 1 ≤ n.room)
  mb : s.made = true → wl + 2 ≤ s.B0
  js : ∀ j ∈ s.js, (j < wl ∧ s.made = false) ∨ wl + 2 ≤ j
  jl : ∀ j ∈ s.js, j < X.heap.size
  un : s.made = false → s.v = none
  gv : ∀ u, s.v = some u → ∃ m, L0[s.i]? = some m ∧ m.to = to ∧ Row X u m.body ∧ ∀ k ∈ own u, wl ≤ k ∧ k ∉ s.js
section
variable {W0 : World} {Bx : List Nat} {q5 q6 q7 q9 q10 wl D p : Nat} {r : RN} {L0 : List Msg} {to : Int} {mx : Nat}
theorem RgB.turn {s : Sb} {X Y : World} {B0 : Nat} (h : RgB W0 Bx q5 q6 q7 q9 q10 wl D p r L0 to mx s X) (ht : TurnT B0 X Y) (hB : W0.heap.size ≤ B0) (hD : D < B0) : RgB W0 Bx q5 q6 q7 q9 q10 wl D p r L0 to mx s Y := by
  have c := ht.ck
  obtain ⟨K, k1, k2, k3⟩ := h.k
  obtain ⟨v, n, n1, n2, n3, n4, n5, n6, n7⟩ := h.net
  refine ⟨Kp.turn h.kp ht hB, h.b5.ck c, h.b6.ck c, h.b7.ck c, h.b9.ck c, ⟨K, k1.ck c, k2, k3⟩, RnOk.ck c h.R, (ht.low (Array.getElem?_eq_some_iff.1 h.dd).1 hD).trans h.dd, ⟨v, n, Net.ck c n1, n2, n3, n4, n5, n6, n7⟩, h.mb, h.js, fun j hj => Nat.lt_of_lt_of_le (h.jl j hj) ht.size, h.un, fun u hu => ?_⟩
  obtain ⟨m, h1, h2, h3, h4⟩ := h.gv u hu
  exact ⟨m, h1, h2, c.row h3, h4⟩
theorem RgB.ownF (hq : W0.heap.size ≤ wl) (hD : D < wl) : OwnFrom wl (RgB W0 Bx q5 q6 q7 q9 q10 wl D p r L0 to mx) := fun s X Y row h hg hr => h.turn (B0 := wl) (TurnT.ofGrown hg hr) hq hD
theorem RgB.step (hq : W0.heap.size ≤ wl) (hD : D < wl) (s s' : Sb) (A B : World) (hz : wl + 2 ≤ A.heap.size) (h : RgB W0 Bx q5 q6 q7 q9 q10 wl D p r L0 to mx s A) (ht : StepT L0 to s s' A B) : RgB W0 Bx q5 q6 q7 q9 q10 wl D p r L0 to mx s' B := by
  have hB := StepT.low h.mb hz ht
  have h' := h.turn ht.turn (by omega) (by omega)
  have made' : s'.made = true := by
    cases e : s.made with
    | true => exact (ht.stays e).1
    | false => exact (ht.makes e).1
  obtain ⟨K, k1, k2, k3⟩ := h'.k
  obtain ⟨v, n, n1, n2, n3, n4, n5, n6, n7⟩ := h'.net
  obtain ⟨v0, nn0, m1, _, _, _, m5, _⟩ := h.net
  have nl : ∀ k ∈ p :: own v, k ∉ s'.js := fun k hk hm => by
    cases e : s.made with
    | true => rw [(ht.stays e).2.2] at hm; exact (n5 k hk).2.2.2.1 e hm
    | false =>
      have h1 := ((ht.makes e).2.2.1 k hm).1
      obtain ⟨v9, n9, a1, _, _, _, a5, a6, _⟩ := h.net
      have : k < A.heap.size := by
        have ev : v9 = v := by
          have x1 := a1.c1
          have x2 := n1.c1
          have x3 := ht.turn.ck.cell x1
          rw [x3] at x2
          exact Option.some.inj x2
        rw [← ev] at hk
        exact a1.ltAll k hk
      omega
  refine ⟨h'.kp, h'.b5, h'.b6, h'.b7, h'.b9, ⟨K, k1, Nat.le_trans k2 ht.on, fun i m h1 h2 hm => ?_⟩, h'.R, h'.dd, ⟨v, n, n1, n2, n3, n4, fun k hk => ⟨(n5 k hk).1, (n5 k hk).2.1, (n5 k hk).2.2.1, fun _ => nl k hk, (n5 k hk).2.2.2.2⟩, n6, n7⟩, fun _ => hB, fun j hj => .inr ?_, fun j hj => ?_, fun e => (by rw [made'] at e; cases e), fun u hu => ?_⟩
  · by_cases hi : i < s.i
    · exact k3 i m h1 hi hm
    · exact ht.skip i m (by omega) h2 hm
  · cases e : s.made with
    | true =>
      rw [(ht.stays e).2.2] at hj
      rcases h.js j hj with h1 | h1
      · rw [e] at h1; cases h1.2
      · exact h1
    | false => have := (ht.makes e).2.2.1 j hj; omega
  · cases e : s.made with
    | true => rw [(ht.stays e).2.2] at hj; exact Nat.lt_of_lt_of_le (h.jl j hj) ht.turn.size
    | false => exact ((ht.makes e).2.2.1 j hj).2
  · rcases ht.given with h1 | ⟨u', m, h1, h2, h3, h4, h5⟩
    · rw [h1] at hu; cases hu
    · rw [h1] at hu
      cases hu
      refine ⟨m, h2, h3, h4, fun k hk => ⟨by have := h5 k hk; omega, fun hm => ?_⟩⟩
      cases e : s.made with
      | true => rw [(ht.stays e).2.2] at hm; have := h.jl k hm; have := h5 k hk; omega
      | false => rw [(ht.makes e).2.2.2] at h1; cases h1
theorem dropLen (n : Nt) : (dropN n 0).l.length = n.l.length - 1 ∧ (dropN n 0).room = n.room := by
  unfold dropN
  rw [if_pos (by omega)]
  constructor
  · simp [List.length_eraseIdx]
  · rfl
theorem rowCells {X : World} {v : Value} {l : List Msg} (h : RowM X v l) (hl : l ≠ []) {k : Nat} (hk : k ∈ own v) {o : Obj} (ho : X.heap[k]? = some o) : o.isCells = true := by
  rcases h with ⟨rfl, rfl⟩ | ⟨g, of, cap, rfl, h1, h2, h3, h4, h5⟩
  · exact absurd rfl hl
  · have : 0 < l.length := List.length_pos_iff.2 hl
    have hc := (h5 0 (by have : MsgE.n = 2 := rfl; rw [this]; omega)).1
    simp [own, Value.ownBlock] at hk
    subst hk
    unfold World.cell? at hc
    rw [ho] at hc
    cases o <;> simp_all [Obj.isCells]
theorem RgB.round {s : Sb} {x : Gv} {Y Z1 Z2 Z3 Z4 : World} (h : RgB W0 Bx q5 q6 q7 q9 q10 wl D p r L0 to mx s Y) (hmx : 1 ≤ mx) (hmade : s.made = true) (hL0 : L0 ≠ []) (hBx : Bx = [q5, q6, q7, q9, q10]) (hd5 : q5 ≠ q10) (hd6 : q6 ≠ q10) (hd7 : q7 ≠ q10) (hd9 : q9 ≠ q10) (hr10 : q10 ∉ r.foot) (hW0q : ¬ q10 < W0.heap.size) (hD10 : D ≠ q10) (hq10 : q10 < wl)
    (k1 : Kp [q10] Y Z1) (b : B1 Z1 q10 (.int .i64 ((s.i : Int) + 1))) {v1 v2 v4 : Value} {n1 : Nt} {m3 : Msg} (hm3 : m3.body.length ≤ 140737488355328) (hN1 : Net Y p v1 n1) (hS1 : Smalls n1) (hR1 : RoomOk n1) (hlen : n1.l.length ≤ mx) (hnet : ∀ k ∈ p :: own v1, W0.heap.size ≤ k ∧ k ∉ Bx ∧ k ∉ r.foot ∧ (s.made = true → k ∉ s.js) ∧ k ≠ D) (hcell : (∀ k ∈ p :: own v1, k < wl) ∨ n1.l ≠ []) (hp : p < wl) (hroom : L0 ≠ [] → 1 ≤ n1.room)
    (w2 : Wrote p v1 Z1 v2 Z2) (k3 : Kp [] Z2 Z3) (hN4 : Net Z4 p v4 (putN (dropN n1 0) m3).1) (w4 : Wrote p v2 Z3 v4 Z4) :
    KeepsFrom wl Y Z4 ∧ KeepT s Y Z4 ∧ RgB W0 Bx q5 q6 q7 q9 q10 wl D p r L0 to mx (s.nx x) Z4 := by
  have z1 := k1.size
  have z2 := w2.kp.size
  have z3 := k3.size
  have own2 : ∀ k ∈ p :: own v2, k ∈ p :: own v1 ∨ Z1.heap.size ≤ k := fun k hk => by
    rcases List.mem_cons.1 hk with rfl | hk
    · exact .inl (by simp)
    · exact (w2.new k hk).imp (fun h => List.mem_cons_of_mem _ h) id
  have own4 : ∀ k ∈ p :: own v4, k ∈ p :: own v1 ∨ Y.heap.size ≤ k := fun k hk => by
    rcases List.mem_cons.1 hk with rfl | hk
    · exact .inl (by simp)
    · rcases w4.new k hk with h1 | h1
      · rcases own2 k (List.mem_cons_of_mem _ h1) with h2 | h2
        · exact .inl h2
        · exact .inr (by omega)
      · exact .inr (by omega)
  have kAll : Kp (q10 :: p :: own v1) Y Z4 := by
    refine (((k1.mono (T := q10 :: p :: own v1) (fun k hk => .inl (by simp at hk; simp [hk]))).trans w2.kp (fun k hk => .inl (List.mem_cons_of_mem _ hk))).trans k3 (by simp)).trans w4.kp (fun k hk => ?_)
    rcases own2 k hk with h2 | h2
    · exact .inl (List.mem_cons_of_mem _ h2)
    · exact .inr (by omega)
  have kLast : Kp (p :: own v1) Z1 Z4 := (w2.kp.trans k3 (by simp)).trans w4.kp own2
  have h10n : q10 ∉ p :: own v1 := fun hm => (hnet q10 hm).2.1 (by rw [hBx]; simp)
  have off : ∀ q, q ∈ Bx → q ≠ q10 → q ∉ q10 :: p :: own v1 := fun q hq hne hm => by
    rcases List.mem_cons.1 hm with e | hm
    · exact hne e
    · exact (hnet q hm).2.1 hq
  have hrec : ∀ (k : Nat) (o : Obj), wl ≤ k → Y.heap[k]? = some o → o.isCells = false → Z4.heap[k]? = some o := fun k o hk ho hc => by
    refine (kAll.block k (Array.getElem?_eq_some_iff.1 ho).1 (fun hm => ?_)).trans ho
    rcases List.mem_cons.1 hm with e | hm
    · omega
    · rcases hcell with h1 | h1
      · have := h1 k hm; omega
      · rcases List.mem_cons.1 hm with e | hm
        · omega
        · have := rowCells hN1.row h1 hm ho; rw [hc] at this; cases this
  have hjs : ∀ j ∈ s.js, j ∉ q10 :: p :: own v1 := fun j hj hm => by
    rcases List.mem_cons.1 hm with e | hm
    · rcases h.js j hj with h1 | h1
      · rw [hmade] at h1; cases h1.2
      · omega
    · exact (hnet j hm).2.2.2.1 hmade hj
  have bxl : ∀ q ∈ Bx, q < Y.heap.size := fun q hq => by
    rw [hBx] at hq
    simp only [List.mem_cons, List.not_mem_nil, or_false] at hq
    obtain ⟨K, hK, _⟩ := h.k
    rcases hq with rfl | rfl | rfl | rfl | rfl
    · exact h.b5.lt
    · exact h.b6.lt
    · exact h.b7.lt
    · exact h.b9.lt
    · exact hK.lt
  obtain ⟨dl, dr⟩ := dropLen n1
  have hr4 : (putN (dropN n1 0) m3).1.room = n1.room := by rw [← dr]; unfold putN; split <;> rfl
  have hl4 : (putN (dropN n1 0) m3).1.l.length ≤ mx ∧ (putN (dropN n1 0) m3).1.l ≠ [] := by
    have hrm := hroom hL0
    unfold putN
    split
    · rename_i hge
      rw [dr] at hge
      exact ⟨by simp only; omega, fun e => by simp only at e; rw [e] at hge; simp at hge; omega⟩
    · simp only [List.length_append, List.length_cons, List.length_nil]
      exact ⟨by omega, by simp⟩
  refine ⟨⟨kAll.size, fun k o hk ho hc => hrec k o hk ho hc⟩, ⟨KeepN.ofKp kAll hjs, fun _ k o hk ho hc => hrec k o (by have := h.mb hmade; omega) ho hc⟩, ?_⟩
  refine ⟨h.kp.trans kAll (fun k hk => ?_), h.b5.keptS kAll (off q5 (by rw [hBx]; simp) hd5), h.b6.keptS kAll (off q6 (by rw [hBx]; simp) hd6), h.b7.keptS kAll (off q7 (by rw [hBx]; simp) hd7), h.b9.keptS kAll (off q9 (by rw [hBx]; simp) hd9), ⟨s.i + 1, ?_, Nat.le_refl _, fun i m h1 h2 => absurd h2 (by show ¬ i < s.i + 1; omega)⟩, h.R.kept kAll (fun k hk hm => ?_), (kAll.block D (Array.getElem?_eq_some_iff.1 h.dd).1 (fun hm => ?_)).trans h.dd,
    ⟨v4, _, hN4, smallsPut (smallsDrop _ hS1) hm3, roomPut _ (roomDrop _ hR1), hl4.1, fun k hk => ?_, .inr hl4.2, hp, fun e => by rw [hr4]; exact hroom e⟩, h.mb, h.js, fun j hj => Nat.lt_of_lt_of_le (h.jl j hj) kAll.size, fun _ => rfl, fun u hu => (by cases hu)⟩
  · rcases List.mem_cons.1 hk with rfl | hk
    · refine .inr ?_
      obtain ⟨K, hK, _⟩ := h.k
      exact Classical.byContradiction fun hlt => by
        exact hW0q (by omega)
    · exact .inr (hnet k hk).1
  · have := b.keptS kLast h10n
    simpa using this
  · rcases List.mem_cons.1 hm with rfl | hm
    · exact hr10 hk
    · exact (hnet k hm).2.2.1 hk
  · rcases List.mem_cons.1 hm with e | hm
    · exact hD10 e
    · exact (hnet D hm).2.2.2.2 rfl
  · rcases own4 k hk with h1 | h1
    · exact hnet k h1
    · refine ⟨?_, fun hm => ?_, fun hm => ?_, fun _ hm => ?_, fun e => ?_⟩
      · have := h.kp.size; omega
      · have := bxl k hm; omega
      · have := h.R.lt k hm; omega
      · have := h.jl k hm; omega
      · have := (Array.getElem?_eq_some_iff.1 h.dd).1; omega
end
end Go.Proofs.Ytllhmbemcmigoaa
end

section
namespace Go.Proofs.Ytllhmbemcmigoaa
open Go.RowKit Go.Hay
attribute [local go_sem] Oper.semAt_some
set_option linter.unusedVariables false
set_option linter.unusedSimpArgs false

/-- Behind a run that began with a box beside it, and the store of the reference into the box. -/
theorem runBox {W w x3 : World} {p p2 q : Nat} {v v2 : Value} {r0 r : RN} {n : Nt} {b0 b1 : Value} (mv : MvN W w (p :: own v) r0.foot p2 v2 r x3) (P : PN W x3 p2 v2 r n) (hb : (B2 w q b0 b1 ∧ q ∉ p :: own v ∧ q ∉ r0.foot) ∨ (B2 x3 q b0 b1 ∧ q ∉ p2 :: own v2 ∧ q ∉ r.foot)) (hq : W.heap.size ≤ q) :
    B2 x3 q b0 b1 ∧ q ∉ p2 :: own v2 ∧ q ∉ r.foot := by
  rcases hb with ⟨h1, h2, h3⟩ | h
  · have hl := h1.lt
    refine ⟨h1.keptS mv.kp h2, fun h => ?_, fun h => ?_⟩
    · rcases mv.net q h with h | h
      · exact h2 h
      · omega
    · rcases mv.ref q h with h | h | h
      · exact h3 h
      · omega
      · omega
  · exact h
theorem PN.stored {W w w' : World} {p q : Nat} {v : Value} {r : RN} {n : Nt} (P : PN W w p v r n) (k : Kp [q] w w') (h1 : q ∉ p :: own v) (h2 : q ∉ r.foot) (h3 : W.heap.size ≤ q) : PN W w' p v r n :=
  P.keepS k (by simpa using h1) (by simpa using h2) (by simpa using h3)

theorem run7 {W w x3 : World} {p p2 q : Nat} {v v2 : Value} {r0 r : RN} {b0 : Value} (mv : MvN W w (p :: own v) r0.foot p2 v2 r x3) (h1 : B1 w q b0) (h2 : q ∉ p :: own v) (h3 : q ∉ r0.foot) (hq : W.heap.size ≤ q) : B1 x3 q b0 ∧ q ∉ p2 :: own v2 ∧ q ∉ r.foot := by
  have hl := h1.lt
  refine ⟨h1.keptS mv.kp h2, fun h => ?_, fun h => ?_⟩
  · rcases mv.net q h with h | h
    · exact h2 h
    · omega
  · rcases mv.ref q h with h | h | h
    · exact h3 h
    · omega
    · omega
/-- Behind run: a net, its reference, and their boxes. -/
structure RgI (Wb w : World) (q7 q9 p : Nat) (v : Value) (n : Nt) (r : RN) : Prop where
  P : PN Wb w p v r n
  b7 : B1 w q7 (.pointer (some ⟨p, 0, none⟩))
  b9 : B2 w q9 (.int .i64 r.room) (.slice r.la r.l.length r.lc)
  g7 : Wb.heap.size ≤ q7
  g9 : Wb.heap.size ≤ q9
  f7 : q7 ∉ p :: own v
  f9 : q9 ∉ p :: own v
  r7 : q7 ∉ r.foot
  r9 : q9 ∉ r.foot
  ne : q7 ≠ q9
theorem RgI.made {Wb X Y Z : World} {q7 q9 p p' : Nat} {v : Value} {n : Nt} {r : RN} {b0 b1 : Value} (P : PN Wb X p v r n) (b7 : B1 X q7 (.pointer (some ⟨p', 0, none⟩))) (b9 : B2 X q9 b0 b1) (g7 : Wb.heap.size ≤ q7) (g9 : Wb.heap.size ≤ q9) (f7 : q7 ∉ p :: own v) (f9 : q9 ∉ p :: own v) (r7 : q7 ∉ r.foot) (r9 : q9 ∉ r.foot) (ne : q7 ≠ q9)
    (hY : X.setCell ⟨q7, 0, none⟩ (.pointer (some ⟨p, 0, none⟩)) = Y) (hZ : (Y.setCell ⟨q9, 0, none⟩ (.int .i64 r.room)).setCell ⟨q9, 1, none⟩ (.slice r.la r.l.length r.lc) = Z) : RgI Wb Z q7 q9 p v n r := by
  have kY : Kp [q7] X Y := by rw [← hY]; exact kpSet _ _ _ _
  have kZ : Kp [q9] Y Z := by rw [← hZ]; exact kpSet2 _ _ _ _
  have b9Y := b9.keptS kY (by simpa using Ne.symm ne)
  have b7Y : B1 Y q7 (.pointer (some ⟨p, 0, none⟩)) := by rw [← hY]; exact b7.set _
  obtain ⟨Z', hZ', bZ, _⟩ := set2_ex b9Y (.int .i64 r.room) (.slice r.la r.l.length r.lc)
  rw [hZ] at hZ'
  subst hZ'
  have PY := P.stored kY f7 r7 g7
  exact ⟨PY.stored kZ f9 r9 g9, b7Y.keptS kZ (by simpa using ne), bZ, g7, g9, f7, f9, r7, r9, ne⟩
set_option maxHeartbeats 16000000 in
set_option maxRecDepth 100000 in
theorem rngWalk (room : Int) (a : Option Addr) (c : Nat) (l : List NOp) (to : Int) (W : World) (hs1 : NOpE.See W a l) (hok1 : ∀ o ∈ l, o.ok W) (hfew : ∀ o ∈ l, FewO o) (hn1 : l.length ≤ 2940000000000) :
    Calls Try.prog 5 #[.int .i64 room, .slice a l.length c, .int .i64 to] W (fun e W' => e = .returned (.bool true) ∧ Below W.heap.size W W') := by
  obtain ⟨Wb, hWb, kb, b5, b6, hzb⟩ : ∃ Wb, (W.alloc (.cells #[.int .i64 to] 3)).alloc (.cells #[.bool false] 4) = Wb ∧ Kp [] W Wb ∧ B1 Wb W.heap.size (.int .i64 to) ∧ B1 Wb (W.heap.size + 1) (.bool false) ∧ Wb.heap.size = W.heap.size + 2 := ⟨_, rfl, ((Kp.refl _ _).alloc _).alloc _, (B1.at _ rfl _ _).kept ((Kp.refl _ _).alloc _), B1.at _ (by simp) _ _, by simp⟩
  have hWb' := hid hWb
  have hzb' := hid hzb
  clear hWb hzb
  refine (callsIn_wide (n := 8)).1 ?_
  refine callsIn_of_wp_marks Try.func5 rfl trivial ?_ rfl
  simp only [Try.ntmps5, List.size_toArray, List.length_cons, List.length_nil, Nat.reduceAdd, Nat.reduceSub, Array.replicate_succ, Array.replicate_zero, List.push_toArray, List.append_toArray, List.nil_append, List.cons_append]
  refine wpIn_wide.2 ?_
  go_wp2_with fail
  rw [hWb'.out]
  refine (cBegun room Wb).mono ?_
  rintro e w1 ⟨p, rfl, hN1, k1, hp⟩
  obtain ⟨w2, hw2, k2, b7, hz2⟩ : ∃ w2, w1.alloc (.cells #[.pointer (some ⟨p, 0, none⟩)] 23) = w2 ∧ Kp [] w1 w2 ∧ B1 w2 w1.heap.size (.pointer (some ⟨p, 0, none⟩)) ∧ w2.heap.size = w1.heap.size + 1 := ⟨_, rfl, (Kp.refl _ _).alloc _, B1.at _ rfl _ _, by simp⟩
  have hw2' := hid hw2
  have hz2' := hid hz2
  clear hw2 hz2
  go_wp2_with fail
  rw [hw2'.out]
  obtain ⟨q7, hq7⟩ : ∃ q7, w1.heap.size = q7 := ⟨_, rfl⟩
  rw [hq7] at b7 ⊢
  obtain ⟨Qj, hQe⟩ : ∃ Qj : Exit → Act → World → Prop, Qj = fun e a' w' => e = Exit.normal ∧ ∃ (q9 p2 : Nat) (v2 : Value) (n : Nt) (r r0 : RN), RgI Wb w' q7 q9 p2 v2 n r ∧ Smalls n ∧ RoomOk n ∧ n.l.length ≤ 0 + l.length ∧ a' = { tmps := #[.int .i64 room, .slice a l.length c, .int .i64 to, undef, undef, .pointer (some ⟨W.heap.size, 0, none⟩), .pointer (some ⟨W.heap.size + 1, 0, none⟩), .pointer (some ⟨q7, 0, none⟩), .bool true, .pointer (some ⟨q9, 0, none⟩), undef, undef, undef, .tuple #[.pointer (some ⟨p, 0, none⟩), .bool true], .int .i64 room, .tuple #[.pointer (some ⟨p, 0, none⟩), .bool true], .pointer (some ⟨p, 0, none⟩), .bool true, .bool true, .bool false, .tuple #[.pointer (some ⟨p2, 0, none⟩), .agg #[.int .i64 r.room, .slice r.la r.l.length r.lc], .bool true], .pointer (some ⟨p, 0, none⟩), .int .i64 room, r0.v, .slice a l.length c, .tuple #[.pointer (some ⟨p2, 0, none⟩), .agg #[.int .i64 r.room, .slice r.la r.l.length r.lc], .bool true], .pointer (some ⟨p2, 0, none⟩), .agg #[.int .i64 r.room, .slice r.la r.l.length r.lc], .bool true, undef, undef, undef, undef, undef, undef, undef, undef, undef, undef, undef, undef, undef, undef, undef, undef, undef, undef, undef, undef, undef, undef, undef, undef, undef, undef, undef, undef, undef, undef, undef, undef, undef, undef, undef, undef, undef, undef, undef, undef, undef, undef, undef, undef, undef, undef, undef, undef, undef, undef, undef, undef, undef, undef, undef, undef, undef, undef, undef, undef, undef, undef, undef, undef, undef, undef, undef, undef, undef, undef, undef, undef, undef, undef], defers := [] } := ⟨_, rfl⟩
  have hQp : Hid (∀ c (a b : Act) w, Qj (.panic c) a w → Qj (.panic c) b w) := fun c a b w h => by rw [hQe] at h; cases h.1
  have hQj : Hid (∀ (Z : World) (q9 p2 : Nat) (v2 : Value) (n : Nt) (r r0 : RN), RgI Wb Z q7 q9 p2 v2 n r → Smalls n → RoomOk n → n.l.length ≤ 0 + l.length → Qj .normal { tmps := #[.int .i64 room, .slice a l.length c, .int .i64 to, undef, undef, .pointer (some ⟨W.heap.size, 0, none⟩), .pointer (some ⟨W.heap.size + 1, 0, none⟩), .pointer (some ⟨q7, 0, none⟩), .bool true, .pointer (some ⟨q9, 0, none⟩), undef, undef, undef, .tuple #[.pointer (some ⟨p, 0, none⟩), .bool true], .int .i64 room, .tuple #[.pointer (some ⟨p, 0, none⟩), .bool true], .pointer (some ⟨p, 0, none⟩), .bool true, .bool true, .bool false, .tuple #[.pointer (some ⟨p2, 0, none⟩), .agg #[.int .i64 r.room, .slice r.la r.l.length r.lc], .bool true], .pointer (some ⟨p, 0, none⟩), .int .i64 room, r0.v, .slice a l.length c, .tuple #[.pointer (some ⟨p2, 0, none⟩), .agg #[.int .i64 r.room, .slice r.la r.l.length r.lc], .bool true], .pointer (some ⟨p2, 0, none⟩), .agg #[.int .i64 r.room, .slice r.la r.l.length r.lc], .bool true, undef, undef, undef, undef, undef, undef, undef, undef, undef, undef, undef, undef, undef, undef, undef, undef, undef, undef, undef, undef, undef, undef, undef, undef, undef, undef, undef, undef, undef, undef, undef, undef, undef, undef, undef, undef, undef, undef, undef, undef, undef, undef, undef, undef, undef, undef, undef, undef, undef, undef, undef, undef, undef, undef, undef, undef, undef, undef, undef, undef, undef, undef, undef, undef, undef, undef, undef, undef, undef, undef, undef, undef, undef, undef], defers := [] } Z) := fun Z q9 p2 v2 n r r0 h1 h2 h3 h4 => by rw [hQe]; exact ⟨rfl, q9, p2, v2, n, r, r0, h1, h2, h3, h4, rfl⟩
  have hQe' := hid hQe
  clear hQe
  have cR : Hid (∀ A (r0 : RN), PN Wb A p (.slice none 0 0) r0 ⟨room, []⟩ → Calls Try.prog 8 #[.pointer (some ⟨p, 0, none⟩), r0.v, .slice a l.length c] A (RunNR Wb A (p :: own (.slice none 0 0)) r0.foot (0 + l.length))) := fun A r0 P => cRunM P (by intro m hm; simp at hm) (roomNew room) (m0 := 0) (by simp) a c l (hs1.keptNew kb) (fun x hx => (hok1 x hx).kept (S := []) kb (by simp)) hfew (by omega)
  have mkP : Hid (∀ X A (r0 : RN), Kp [] w1 X → Kp [] X A → RnOk A r0 → LikeN r0 ⟨room, []⟩ → (∀ k ∈ r0.foot, k ∈ ([] : List Nat) ∨ X.heap.size ≤ k) → PN Wb A p (.slice none 0 0) r0 ⟨room, []⟩) := fun X A r0 kX kA hR hL hft => pnNew (hN1.keptNew kX) (k1.trans kX (by simp)) hp hR hL kA hft
  have hpl := hN1.ltAll
  have hq7p : q7 ∉ p :: own (.slice none 0 0) := fun h => by have := hpl _ (by simpa [own, Value.ownBlock] using h); omega
  have hg7 : Wb.heap.size ≤ q7 := by have := k1.size; omega
  have h7lt := b7.lt
  have kd : Kp [] w1 w2.drew := k2.drew
  have b7d : B1 w2.drew q7 (.pointer (some ⟨p, 0, none⟩)) := b7.kept (Kp.refl _ _).drew
  have hq7' := hid hq7
  clear hq7 b7
  refine Code.wp_mono (Q := Qj) ?_ ?_
  rotate_left
  · refine wp_region_held_drew (S := (fun A => True)) (by kernel_rfl) trivial (fun hHeld => ?_)
    generalize w2.drew = wd at *
    refine wpAnyH_take (i := 1) (v := ?_) rfl (by kernel_rfl) (by kernel_rfl) (by kernel_rfl) (fun _ _ _ h => hQp.out _ _ _ _ h) (Or.inl ⟨by rfl, ?_⟩) (by assumption) ?_
    rotate_left
    · intro w hSw; (try dsimp only at hSw); go_simp <;> with_reducible rfl
    try simp only [Act.put, List.getElem_toArray, List.getElem_cons_zero, List.getElem_cons_succ, List.setIfInBounds_toArray, List.set_cons_zero, List.set_cons_succ]
    refine wpAnyH_take (i := 3) (v := ?_) rfl (by kernel_rfl) (by kernel_rfl) (by kernel_rfl) (fun _ _ _ h => hQp.out _ _ _ _ h) (Or.inl ⟨by rfl, ?_⟩) (by assumption) ?_
    rotate_left
    · intro w hSw; (try dsimp only at hSw); go_simp <;> with_reducible rfl
    try simp only [Act.put, List.getElem_toArray, List.getElem_cons_zero, List.getElem_cons_succ, List.setIfInBounds_toArray, List.set_cons_zero, List.set_cons_succ]
    refine wpAnyH_ready (rs := [0, 2, 9]) (by kernel_rfl) (by simp) ?_
    refine (AllReadyH.cons rfl (fun K hK => ?_) (AllReadyH.cons rfl (fun K hK => ?_) (AllReadyH.cons rfl (fun K hK => ?_) AllReadyH.nil)))
    · have h7 := b7d.c0
      go_simp
      (try go_wp2_with fail)
      refine hK.out _ _ ?_ (fun hHeld => ?_)
      · trivial
      clear hK K
      try simp only [Act.put, List.getElem_toArray, List.getElem_cons_zero, List.getElem_cons_succ, List.setIfInBounds_toArray, List.set_cons_zero, List.set_cons_succ]
      refine wpAnyH_ready (rs := [2, 9]) (by kernel_rfl) (by simp) ?_
      refine (AllReadyH.cons rfl (fun K hK => ?_) (AllReadyH.cons rfl (fun K hK => ?_) AllReadyH.nil))
      · go_simp
        refine (cRNew room wd).mono ?_
        rintro e x2 ⟨v, rfl, r0, rfl, hR0, hL0, kN, hft0⟩
        have hr70 : q7 ∉ r0.foot := fun h => by
          rcases hft0 _ h with h | h
          · cases h
          · have := b7d.lt; omega
        have P0 := mkP.out wd x2 r0 (kd) kN hR0 hL0 hft0
        have kC : Kp [] w1 x2 := (kd).trans kN (by simp)
        have b7c := b7d.kept kN
        (try go_wp2_with fail)
        refine hK.out _ _ ?_ (fun hHeld => ?_)
        · trivial
        clear hK K
        try simp only [Act.put, List.getElem_toArray, List.getElem_cons_zero, List.getElem_cons_succ, List.setIfInBounds_toArray, List.set_cons_zero, List.set_cons_succ]
        refine wpAnyH_ready (rs := [4, 9]) (by kernel_rfl) (by simp) ?_
        refine (AllReadyH.cons rfl (fun K hK => ?_) (AllReadyH.cons rfl (fun K hK => ?_) AllReadyH.nil))
        · go_simp
          refine (cR.out x2 r0 P0).mono ?_
          rintro e x3 ⟨p2, v2, n, r, rfl, mv, P2, hsn, hro, hln⟩
          have fx7 := run7 mv b7c hq7p hr70 hg7
          have b7r := fx7.1
          (try go_wp2_with fail)
          refine hK.out _ _ ?_ (fun hHeld => ?_)
          · trivial
          clear hK K
          try simp only [Act.put, List.getElem_toArray, List.getElem_cons_zero, List.getElem_cons_succ, List.setIfInBounds_toArray, List.set_cons_zero, List.set_cons_succ]
          refine wpAnyH_take (i := 5) (v := ?_) rfl (by kernel_rfl) (by kernel_rfl) (by kernel_rfl) (fun _ _ _ h => hQp.out _ _ _ _ h) (Or.inl ⟨by rfl, ?_⟩) (by assumption) ?_
          rotate_left
          · intro w hSw; (try dsimp only at hSw); go_simp <;> with_reducible rfl
          try simp only [Act.put, List.getElem_toArray, List.getElem_cons_zero, List.getElem_cons_succ, List.setIfInBounds_toArray, List.set_cons_zero, List.set_cons_succ]
          refine wpAnyH_take (i := 6) (v := ?_) rfl (by kernel_rfl) (by kernel_rfl) (by kernel_rfl) (fun _ _ _ h => hQp.out _ _ _ _ h) (Or.inl ⟨by rfl, ?_⟩) (by assumption) ?_
          rotate_left
          · intro w hSw; (try dsimp only at hSw); go_simp <;> with_reducible rfl
          try simp only [Act.put, List.getElem_toArray, List.getElem_cons_zero, List.getElem_cons_succ, List.setIfInBounds_toArray, List.set_cons_zero, List.set_cons_succ]
          refine wpAnyH_take (i := 7) (v := ?_) rfl (by kernel_rfl) (by kernel_rfl) (by kernel_rfl) (fun _ _ _ h => hQp.out _ _ _ _ h) (Or.inl ⟨by rfl, ?_⟩) (by assumption) ?_
          rotate_left
          · intro w hSw; (try dsimp only at hSw); go_simp <;> with_reducible rfl
          try simp only [Act.put, List.getElem_toArray, List.getElem_cons_zero, List.getElem_cons_succ, List.setIfInBounds_toArray, List.set_cons_zero, List.set_cons_succ]
          refine wpAnyH_take (i := 8) (v := ?_) rfl (by kernel_rfl) (by kernel_rfl) (by kernel_rfl) (fun _ _ _ h => hQp.out _ _ _ _ h) (Or.inl ⟨by rfl, ?_⟩) (by assumption) ?_
          rotate_left
          · intro w hSw; (try dsimp only at hSw); go_simp <;> with_reducible rfl
          try simp only [Act.put, List.getElem_toArray, List.getElem_cons_zero, List.getElem_cons_succ, List.setIfInBounds_toArray, List.set_cons_zero, List.set_cons_succ]
          refine wpAnyH_ready (rs := [9]) (by kernel_rfl) (by simp) ?_
          refine (AllReadyH.cons rfl (fun K hK => ?_) AllReadyH.nil)
          · go_simp
            obtain ⟨x4, hwx, kA, bq⟩ : ∃ wz, x3.alloc (.cells #[.int .i64 0, .slice none 0 0] 28) = wz ∧ Kp [] x3 wz ∧ B2 wz x3.heap.size (.int .i64 0) (.slice none 0 0) := ⟨_, rfl, (Kp.refl _ _).alloc _, B2.at _ rfl _ _ _⟩
            rw [hwx]
            have b7a := b7r.kept kA
            have ne7 : q7 ≠ x3.heap.size := by have := b7r.lt; omega
            have P3 := P2.keep kA
            have hqW : Wb.heap.size ≤ x3.heap.size := P2.kp.size
            have fx : B2 x4 x3.heap.size (.int .i64 0) (.slice none 0 0) ∧ x3.heap.size ∉ p2 :: own v2 ∧ x3.heap.size ∉ r.foot := ⟨bq, fun h => by have := P2.D.ltAll _ h; omega, fun h => by have := P2.R.lt _ h; omega⟩
            (try go_wp2_with fail)
            refine hK.out _ _ ?_ (fun hHeld => ?_)
            · trivial
            clear hK K
            try simp only [Act.put, List.getElem_toArray, List.getElem_cons_zero, List.getElem_cons_succ, List.setIfInBounds_toArray, List.set_cons_zero, List.set_cons_succ]
            obtain ⟨bqx, f1, f2⟩ := fx
            have s0 := b7a.c0; have s1 := b7a.free
            obtain ⟨Y, hY⟩ : ∃ Y, x4.setCell ⟨q7, 0, none⟩ (.pointer (some ⟨p2, 0, none⟩)) = Y := ⟨_, rfl⟩
            have kY : Kp [q7] x4 Y := by rw [← hY]; exact kpSet _ _ _ _
            have bqY := bqx.keptS kY (by simpa using Ne.symm ne7)
            have g0 := bqY.c0; have g1 := bqY.c1; have g2 := bqY.free 0; have g3 := bqY.free 1
            have hZ : ∃ Z, (Y.setCell ⟨x3.heap.size, 0, none⟩ (.int .i64 r.room)).setCell ⟨x3.heap.size, 1, none⟩ (.slice r.la r.l.length r.lc) = Z := ⟨_, rfl⟩
            obtain ⟨Z, hZ⟩ := hZ
            have RG := RgI.made P3 b7a bqx hg7 hqW fx7.2.1 f1 fx7.2.2 f2 ne7 hY hZ
            have hfin := hQj.out Z _ p2 v2 n r r0 RG hsn hro hln
            have hY' := hid hY
            have hZ' := hid hZ
            obtain ⟨room9, la9, lc9, l9⟩ := r
            simp only [RN.v] at *
            clear hY hZ RG P3 bqx
            refine wpAnyH_ready (rs := [10]) (by kernel_rfl) (by simp) ?_
            refine AllReadyH.cons rfl (fun K hK => ?_) AllReadyH.nil
            go_simp
            (try go_wp2_with fail)
            refine hK.out _ _ ?_ (fun hHeld => ?_)
            · trivial
            clear hK K
            try simp only [Act.put, List.getElem_toArray, List.getElem_cons_zero, List.getElem_cons_succ, List.setIfInBounds_toArray, List.set_cons_zero, List.set_cons_succ]
            rw [hY'.out]
            refine wpAnyH_ready (rs := [11]) (by kernel_rfl) (by simp) ?_
            refine AllReadyH.cons rfl (fun K hK => ?_) AllReadyH.nil
            go_simp
            (try go_wp2_with fail)
            refine hK.out _ _ ?_ (fun hHeld => ?_)
            · trivial
            clear hK K
            try simp only [Act.put, List.getElem_toArray, List.getElem_cons_zero, List.getElem_cons_succ, List.setIfInBounds_toArray, List.set_cons_zero, List.set_cons_succ]
            refine wpAnyH_take (i := 12) (v := ?_) rfl (by kernel_rfl) (by kernel_rfl) (by kernel_rfl) (fun _ _ _ h => hQp.out _ _ _ _ h) (Or.inl ⟨by rfl, ?_⟩) (by assumption) ?_
            rotate_left
            · intro w hSw; (try dsimp only at hSw); go_simp <;> with_reducible rfl
            try simp only [Act.put, List.getElem_toArray, List.getElem_cons_zero, List.getElem_cons_succ, List.setIfInBounds_toArray, List.set_cons_zero, List.set_cons_succ]
            refine wpAnyH_done (by kernel_rfl) ?_ _
            rw [hZ'.out]
            exact hfin
        · go_simp
          obtain ⟨x5, hwx, kA, bq⟩ : ∃ wz, x2.alloc (.cells #[.int .i64 0, .slice none 0 0] 28) = wz ∧ Kp [] x2 wz ∧ B2 wz x2.heap.size (.int .i64 0) (.slice none 0 0) := ⟨_, rfl, (Kp.refl _ _).alloc _, B2.at _ rfl _ _ _⟩
          rw [hwx]
          have b7a := b7c.kept kA
          have ne7 : q7 ≠ x2.heap.size := by have := b7c.lt; omega
          have kC2 : Kp [] w1 x5 := (kC).trans kA (by simp)
          have P1 := P0.keep kA
          have hqn : x2.heap.size ∉ p :: own (.slice none 0 0) := fun h => by have := P0.D.ltAll _ h; omega
          have hqr0 : x2.heap.size ∉ r0.foot := fun h => by have := P0.R.lt _ h; omega
          have hqW : Wb.heap.size ≤ x2.heap.size := P0.kp.size
          (try go_wp2_with fail)
          refine hK.out _ _ ?_ (fun hHeld => ?_)
          · trivial
          clear hK K
          try simp only [Act.put, List.getElem_toArray, List.getElem_cons_zero, List.getElem_cons_succ, List.setIfInBounds_toArray, List.set_cons_zero, List.set_cons_succ]
          refine wpAnyH_ready (rs := [4]) (by kernel_rfl) (by simp) ?_
          refine (AllReadyH.cons rfl (fun K hK => ?_) AllReadyH.nil)
          · go_simp
            refine (cR.out x5 r0 P1).mono ?_
            rintro e x6 ⟨p2, v2, n, r, rfl, mv, P2, hsn, hro, hln⟩
            have fx7 := run7 mv b7a hq7p hr70 hg7
            have b7r := fx7.1
            have P3 := P2
            have fx := runBox mv P2 (.inl ⟨bq, hqn, hqr0⟩) hqW
            (try go_wp2_with fail)
            refine hK.out _ _ ?_ (fun hHeld => ?_)
            · trivial
            clear hK K
            try simp only [Act.put, List.getElem_toArray, List.getElem_cons_zero, List.getElem_cons_succ, List.setIfInBounds_toArray, List.set_cons_zero, List.set_cons_succ]
            refine wpAnyH_take (i := 5) (v := ?_) rfl (by kernel_rfl) (by kernel_rfl) (by kernel_rfl) (fun _ _ _ h => hQp.out _ _ _ _ h) (Or.inl ⟨by rfl, ?_⟩) (by assumption) ?_
            rotate_left
            · intro w hSw; (try dsimp only at hSw); go_simp <;> with_reducible rfl
            try simp only [Act.put, List.getElem_toArray, List.getElem_cons_zero, List.getElem_cons_succ, List.setIfInBounds_toArray, List.set_cons_zero, List.set_cons_succ]
            refine wpAnyH_take (i := 6) (v := ?_) rfl (by kernel_rfl) (by kernel_rfl) (by kernel_rfl) (fun _ _ _ h => hQp.out _ _ _ _ h) (Or.inl ⟨by rfl, ?_⟩) (by assumption) ?_
            rotate_left
            · intro w hSw; (try dsimp only at hSw); go_simp <;> with_reducible rfl
            try simp only [Act.put, List.getElem_toArray, List.getElem_cons_zero, List.getElem_cons_succ, List.setIfInBounds_toArray, List.set_cons_zero, List.set_cons_succ]
            refine wpAnyH_take (i := 7) (v := ?_) rfl (by kernel_rfl) (by kernel_rfl) (by kernel_rfl) (fun _ _ _ h => hQp.out _ _ _ _ h) (Or.inl ⟨by rfl, ?_⟩) (by assumption) ?_
            rotate_left
            · intro w hSw; (try dsimp only at hSw); go_simp <;> with_reducible rfl
            try simp only [Act.put, List.getElem_toArray, List.getElem_cons_zero, List.getElem_cons_succ, List.setIfInBounds_toArray, List.set_cons_zero, List.set_cons_succ]
            refine wpAnyH_take (i := 8) (v := ?_) rfl (by kernel_rfl) (by kernel_rfl) (by kernel_rfl) (fun _ _ _ h => hQp.out _ _ _ _ h) (Or.inl ⟨by rfl, ?_⟩) (by assumption) ?_
            rotate_left
            · intro w hSw; (try dsimp only at hSw); go_simp <;> with_reducible rfl
            try simp only [Act.put, List.getElem_toArray, List.getElem_cons_zero, List.getElem_cons_succ, List.setIfInBounds_toArray, List.set_cons_zero, List.set_cons_succ]
            obtain ⟨bqx, f1, f2⟩ := fx
            have s0 := b7r.c0; have s1 := b7r.free
            obtain ⟨Y, hY⟩ : ∃ Y, x6.setCell ⟨q7, 0, none⟩ (.pointer (some ⟨p2, 0, none⟩)) = Y := ⟨_, rfl⟩
            have kY : Kp [q7] x6 Y := by rw [← hY]; exact kpSet _ _ _ _
            have bqY := bqx.keptS kY (by simpa using Ne.symm ne7)
            have g0 := bqY.c0; have g1 := bqY.c1; have g2 := bqY.free 0; have g3 := bqY.free 1
            have hZ : ∃ Z, (Y.setCell ⟨x2.heap.size, 0, none⟩ (.int .i64 r.room)).setCell ⟨x2.heap.size, 1, none⟩ (.slice r.la r.l.length r.lc) = Z := ⟨_, rfl⟩
            obtain ⟨Z, hZ⟩ := hZ
            have RG := RgI.made P3 b7r bqx hg7 hqW fx7.2.1 f1 fx7.2.2 f2 ne7 hY hZ
            have hfin := hQj.out Z _ p2 v2 n r r0 RG hsn hro hln
            have hY' := hid hY
            have hZ' := hid hZ
            obtain ⟨room9, la9, lc9, l9⟩ := r
            simp only [RN.v] at *
            clear hY hZ RG P3 bqx
            refine wpAnyH_ready (rs := [10]) (by kernel_rfl) (by simp) ?_
            refine AllReadyH.cons rfl (fun K hK => ?_) AllReadyH.nil
            go_simp
            (try go_wp2_with fail)
            refine hK.out _ _ ?_ (fun hHeld => ?_)
            · trivial
            clear hK K
            try simp only [Act.put, List.getElem_toArray, List.getElem_cons_zero, List.getElem_cons_succ, List.setIfInBounds_toArray, List.set_cons_zero, List.set_cons_succ]
            rw [hY'.out]
            refine wpAnyH_ready (rs := [11]) (by kernel_rfl) (by simp) ?_
            refine AllReadyH.cons rfl (fun K hK => ?_) AllReadyH.nil
            go_simp
            (try go_wp2_with fail)
            refine hK.out _ _ ?_ (fun hHeld => ?_)
            · trivial
            clear hK K
            try simp only [Act.put, List.getElem_toArray, List.getElem_cons_zero, List.getElem_cons_succ, List.setIfInBounds_toArray, List.set_cons_zero, List.set_cons_succ]
            refine wpAnyH_take (i := 12) (v := ?_) rfl (by kernel_rfl) (by kernel_rfl) (by kernel_rfl) (fun _ _ _ h => hQp.out _ _ _ _ h) (Or.inl ⟨by rfl, ?_⟩) (by assumption) ?_
            rotate_left
            · intro w hSw; (try dsimp only at hSw); go_simp <;> with_reducible rfl
            try simp only [Act.put, List.getElem_toArray, List.getElem_cons_zero, List.getElem_cons_succ, List.setIfInBounds_toArray, List.set_cons_zero, List.set_cons_succ]
            refine wpAnyH_done (by kernel_rfl) ?_ _
            rw [hZ'.out]
            exact hfin
      · go_simp
        obtain ⟨x7, hwx, kA, bq⟩ : ∃ wz, wd.alloc (.cells #[.int .i64 0, .slice none 0 0] 28) = wz ∧ Kp [] wd wz ∧ B2 wz wd.heap.size (.int .i64 0) (.slice none 0 0) := ⟨_, rfl, (Kp.refl _ _).alloc _, B2.at _ rfl _ _ _⟩
        rw [hwx]
        have b7a := b7d.kept kA
        have ne7 : q7 ≠ wd.heap.size := by have := b7d.lt; omega
        have kC2 : Kp [] w1 x7 := (kd).trans kA (by simp)
        have hqn : wd.heap.size ∉ p :: own (.slice none 0 0) := fun h => by have := hpl _ (by simpa [own, Value.ownBlock] using h); have := (kd).size; omega
        have hqW : Wb.heap.size ≤ wd.heap.size := Nat.le_trans k1.size (kd).size
        (try go_wp2_with fail)
        refine hK.out _ _ ?_ (fun hHeld => ?_)
        · trivial
        clear hK K
        try simp only [Act.put, List.getElem_toArray, List.getElem_cons_zero, List.getElem_cons_succ, List.setIfInBounds_toArray, List.set_cons_zero, List.set_cons_succ]
        refine wpAnyH_ready (rs := [2]) (by kernel_rfl) (by simp) ?_
        refine (AllReadyH.cons rfl (fun K hK => ?_) AllReadyH.nil)
        · go_simp
          refine (cRNew room x7).mono ?_
          rintro e x8 ⟨v, rfl, r0, rfl, hR0, hL0, kN, hft0⟩
          have bq2 := bq.kept kN
          have hqr0 : wd.heap.size ∉ r0.foot := fun h => by
            rcases hft0 _ h with h | h
            · cases h
            · have := bq.lt; omega
          have hr70 : q7 ∉ r0.foot := fun h => by
            rcases hft0 _ h with h | h
            · cases h
            · have := b7a.lt; omega
          have P0 := mkP.out x7 x8 r0 (kC2) kN hR0 hL0 hft0
          have kC : Kp [] w1 x8 := (kC2).trans kN (by simp)
          have b7c := b7a.kept kN
          (try go_wp2_with fail)
          refine hK.out _ _ ?_ (fun hHeld => ?_)
          · trivial
          clear hK K
          try simp only [Act.put, List.getElem_toArray, List.getElem_cons_zero, List.getElem_cons_succ, List.setIfInBounds_toArray, List.set_cons_zero, List.set_cons_succ]
          refine wpAnyH_ready (rs := [4]) (by kernel_rfl) (by simp) ?_
          refine (AllReadyH.cons rfl (fun K hK => ?_) AllReadyH.nil)
          · go_simp
            refine (cR.out x8 r0 P0).mono ?_
            rintro e x9 ⟨p2, v2, n, r, rfl, mv, P2, hsn, hro, hln⟩
            have fx7 := run7 mv b7c hq7p hr70 hg7
            have b7r := fx7.1
            have P3 := P2
            have fx := runBox mv P2 (.inl ⟨bq2, hqn, hqr0⟩) hqW
            (try go_wp2_with fail)
            refine hK.out _ _ ?_ (fun hHeld => ?_)
            · trivial
            clear hK K
            try simp only [Act.put, List.getElem_toArray, List.getElem_cons_zero, List.getElem_cons_succ, List.setIfInBounds_toArray, List.set_cons_zero, List.set_cons_succ]
            refine wpAnyH_take (i := 5) (v := ?_) rfl (by kernel_rfl) (by kernel_rfl) (by kernel_rfl) (fun _ _ _ h => hQp.out _ _ _ _ h) (Or.inl ⟨by rfl, ?_⟩) (by assumption) ?_
            rotate_left
            · intro w hSw; (try dsimp only at hSw); go_simp <;> with_reducible rfl
            try simp only [Act.put, List.getElem_toArray, List.getElem_cons_zero, List.getElem_cons_succ, List.setIfInBounds_toArray, List.set_cons_zero, List.set_cons_succ]
            refine wpAnyH_take (i := 6) (v := ?_) rfl (by kernel_rfl) (by kernel_rfl) (by kernel_rfl) (fun _ _ _ h => hQp.out _ _ _ _ h) (Or.inl ⟨by rfl, ?_⟩) (by assumption) ?_
            rotate_left
            · intro w hSw; (try dsimp only at hSw); go_simp <;> with_reducible rfl
            try simp only [Act.put, List.getElem_toArray, List.getElem_cons_zero, List.getElem_cons_succ, List.setIfInBounds_toArray, List.set_cons_zero, List.set_cons_succ]
            refine wpAnyH_take (i := 7) (v := ?_) rfl (by kernel_rfl) (by kernel_rfl) (by kernel_rfl) (fun _ _ _ h => hQp.out _ _ _ _ h) (Or.inl ⟨by rfl, ?_⟩) (by assumption) ?_
            rotate_left
            · intro w hSw; (try dsimp only at hSw); go_simp <;> with_reducible rfl
            try simp only [Act.put, List.getElem_toArray, List.getElem_cons_zero, List.getElem_cons_succ, List.setIfInBounds_toArray, List.set_cons_zero, List.set_cons_succ]
            refine wpAnyH_take (i := 8) (v := ?_) rfl (by kernel_rfl) (by kernel_rfl) (by kernel_rfl) (fun _ _ _ h => hQp.out _ _ _ _ h) (Or.inl ⟨by rfl, ?_⟩) (by assumption) ?_
            rotate_left
            · intro w hSw; (try dsimp only at hSw); go_simp <;> with_reducible rfl
            try simp only [Act.put, List.getElem_toArray, List.getElem_cons_zero, List.getElem_cons_succ, List.setIfInBounds_toArray, List.set_cons_zero, List.set_cons_succ]
            obtain ⟨bqx, f1, f2⟩ := fx
            have s0 := b7r.c0; have s1 := b7r.free
            obtain ⟨Y, hY⟩ : ∃ Y, x9.setCell ⟨q7, 0, none⟩ (.pointer (some ⟨p2, 0, none⟩)) = Y := ⟨_, rfl⟩
            have kY : Kp [q7] x9 Y := by rw [← hY]; exact kpSet _ _ _ _
            have bqY := bqx.keptS kY (by simpa using Ne.symm ne7)
            have g0 := bqY.c0; have g1 := bqY.c1; have g2 := bqY.free 0; have g3 := bqY.free 1
            have hZ : ∃ Z, (Y.setCell ⟨wd.heap.size, 0, none⟩ (.int .i64 r.room)).setCell ⟨wd.heap.size, 1, none⟩ (.slice r.la r.l.length r.lc) = Z := ⟨_, rfl⟩
            obtain ⟨Z, hZ⟩ := hZ
            have RG := RgI.made P3 b7r bqx hg7 hqW fx7.2.1 f1 fx7.2.2 f2 ne7 hY hZ
            have hfin := hQj.out Z _ p2 v2 n r r0 RG hsn hro hln
            have hY' := hid hY
            have hZ' := hid hZ
            obtain ⟨room9, la9, lc9, l9⟩ := r
            simp only [RN.v] at *
            clear hY hZ RG P3 bqx
            refine wpAnyH_ready (rs := [10]) (by kernel_rfl) (by simp) ?_
            refine AllReadyH.cons rfl (fun K hK => ?_) AllReadyH.nil
            go_simp
            (try go_wp2_with fail)
            refine hK.out _ _ ?_ (fun hHeld => ?_)
            · trivial
            clear hK K
            try simp only [Act.put, List.getElem_toArray, List.getElem_cons_zero, List.getElem_cons_succ, List.setIfInBounds_toArray, List.set_cons_zero, List.set_cons_succ]
            rw [hY'.out]
            refine wpAnyH_ready (rs := [11]) (by kernel_rfl) (by simp) ?_
            refine AllReadyH.cons rfl (fun K hK => ?_) AllReadyH.nil
            go_simp
            (try go_wp2_with fail)
            refine hK.out _ _ ?_ (fun hHeld => ?_)
            · trivial
            clear hK K
            try simp only [Act.put, List.getElem_toArray, List.getElem_cons_zero, List.getElem_cons_succ, List.setIfInBounds_toArray, List.set_cons_zero, List.set_cons_succ]
            refine wpAnyH_take (i := 12) (v := ?_) rfl (by kernel_rfl) (by kernel_rfl) (by kernel_rfl) (fun _ _ _ h => hQp.out _ _ _ _ h) (Or.inl ⟨by rfl, ?_⟩) (by assumption) ?_
            rotate_left
            · intro w hSw; (try dsimp only at hSw); go_simp <;> with_reducible rfl
            try simp only [Act.put, List.getElem_toArray, List.getElem_cons_zero, List.getElem_cons_succ, List.setIfInBounds_toArray, List.set_cons_zero, List.set_cons_succ]
            refine wpAnyH_done (by kernel_rfl) ?_ _
            rw [hZ'.out]
            exact hfin
    · go_simp
      refine (cRNew room wd).mono ?_
      rintro e x10 ⟨v, rfl, r0, rfl, hR0, hL0, kN, hft0⟩
      have hr70 : q7 ∉ r0.foot := fun h => by
        rcases hft0 _ h with h | h
        · cases h
        · have := b7d.lt; omega
      have P0 := mkP.out wd x10 r0 (kd) kN hR0 hL0 hft0
      have kC : Kp [] w1 x10 := (kd).trans kN (by simp)
      have b7c := b7d.kept kN
      (try go_wp2_with fail)
      refine hK.out _ _ ?_ (fun hHeld => ?_)
      · trivial
      clear hK K
      try simp only [Act.put, List.getElem_toArray, List.getElem_cons_zero, List.getElem_cons_succ, List.setIfInBounds_toArray, List.set_cons_zero, List.set_cons_succ]
      refine wpAnyH_ready (rs := [0, 9]) (by kernel_rfl) (by simp) ?_
      refine (AllReadyH.cons rfl (fun K hK => ?_) (AllReadyH.cons rfl (fun K hK => ?_) AllReadyH.nil))
      · have h7 := b7c.c0
        go_simp
        (try go_wp2_with fail)
        refine hK.out _ _ ?_ (fun hHeld => ?_)
        · trivial
        clear hK K
        try simp only [Act.put, List.getElem_toArray, List.getElem_cons_zero, List.getElem_cons_succ, List.setIfInBounds_toArray, List.set_cons_zero, List.set_cons_succ]
        refine wpAnyH_ready (rs := [4, 9]) (by kernel_rfl) (by simp) ?_
        refine (AllReadyH.cons rfl (fun K hK => ?_) (AllReadyH.cons rfl (fun K hK => ?_) AllReadyH.nil))
        · go_simp
          refine (cR.out x10 r0 P0).mono ?_
          rintro e x12 ⟨p2, v2, n, r, rfl, mv, P2, hsn, hro, hln⟩
          have fx7 := run7 mv b7c hq7p hr70 hg7
          have b7r := fx7.1
          (try go_wp2_with fail)
          refine hK.out _ _ ?_ (fun hHeld => ?_)
          · trivial
          clear hK K
          try simp only [Act.put, List.getElem_toArray, List.getElem_cons_zero, List.getElem_cons_succ, List.setIfInBounds_toArray, List.set_cons_zero, List.set_cons_succ]
          refine wpAnyH_take (i := 5) (v := ?_) rfl (by kernel_rfl) (by kernel_rfl) (by kernel_rfl) (fun _ _ _ h => hQp.out _ _ _ _ h) (Or.inl ⟨by rfl, ?_⟩) (by assumption) ?_
          rotate_left
          · intro w hSw; (try dsimp only at hSw); go_simp <;> with_reducible rfl
          try simp only [Act.put, List.getElem_toArray, List.getElem_cons_zero, List.getElem_cons_succ, List.setIfInBounds_toArray, List.set_cons_zero, List.set_cons_succ]
          refine wpAnyH_take (i := 6) (v := ?_) rfl (by kernel_rfl) (by kernel_rfl) (by kernel_rfl) (fun _ _ _ h => hQp.out _ _ _ _ h) (Or.inl ⟨by rfl, ?_⟩) (by assumption) ?_
          rotate_left
          · intro w hSw; (try dsimp only at hSw); go_simp <;> with_reducible rfl
          try simp only [Act.put, List.getElem_toArray, List.getElem_cons_zero, List.getElem_cons_succ, List.setIfInBounds_toArray, List.set_cons_zero, List.set_cons_succ]
          refine wpAnyH_take (i := 7) (v := ?_) rfl (by kernel_rfl) (by kernel_rfl) (by kernel_rfl) (fun _ _ _ h => hQp.out _ _ _ _ h) (Or.inl ⟨by rfl, ?_⟩) (by assumption) ?_
          rotate_left
          · intro w hSw; (try dsimp only at hSw); go_simp <;> with_reducible rfl
          try simp only [Act.put, List.getElem_toArray, List.getElem_cons_zero, List.getElem_cons_succ, List.setIfInBounds_toArray, List.set_cons_zero, List.set_cons_succ]
          refine wpAnyH_take (i := 8) (v := ?_) rfl (by kernel_rfl) (by kernel_rfl) (by kernel_rfl) (fun _ _ _ h => hQp.out _ _ _ _ h) (Or.inl ⟨by rfl, ?_⟩) (by assumption) ?_
          rotate_left
          · intro w hSw; (try dsimp only at hSw); go_simp <;> with_reducible rfl
          try simp only [Act.put, List.getElem_toArray, List.getElem_cons_zero, List.getElem_cons_succ, List.setIfInBounds_toArray, List.set_cons_zero, List.set_cons_succ]
          refine wpAnyH_ready (rs := [9]) (by kernel_rfl) (by simp) ?_
          refine (AllReadyH.cons rfl (fun K hK => ?_) AllReadyH.nil)
          · go_simp
            obtain ⟨x13, hwx, kA, bq⟩ : ∃ wz, x12.alloc (.cells #[.int .i64 0, .slice none 0 0] 28) = wz ∧ Kp [] x12 wz ∧ B2 wz x12.heap.size (.int .i64 0) (.slice none 0 0) := ⟨_, rfl, (Kp.refl _ _).alloc _, B2.at _ rfl _ _ _⟩
            rw [hwx]
            have b7a := b7r.kept kA
            have ne7 : q7 ≠ x12.heap.size := by have := b7r.lt; omega
            have P3 := P2.keep kA
            have hqW : Wb.heap.size ≤ x12.heap.size := P2.kp.size
            have fx : B2 x13 x12.heap.size (.int .i64 0) (.slice none 0 0) ∧ x12.heap.size ∉ p2 :: own v2 ∧ x12.heap.size ∉ r.foot := ⟨bq, fun h => by have := P2.D.ltAll _ h; omega, fun h => by have := P2.R.lt _ h; omega⟩
            (try go_wp2_with fail)
            refine hK.out _ _ ?_ (fun hHeld => ?_)
            · trivial
            clear hK K
            try simp only [Act.put, List.getElem_toArray, List.getElem_cons_zero, List.getElem_cons_succ, List.setIfInBounds_toArray, List.set_cons_zero, List.set_cons_succ]
            obtain ⟨bqx, f1, f2⟩ := fx
            have s0 := b7a.c0; have s1 := b7a.free
            obtain ⟨Y, hY⟩ : ∃ Y, x13.setCell ⟨q7, 0, none⟩ (.pointer (some ⟨p2, 0, none⟩)) = Y := ⟨_, rfl⟩
            have kY : Kp [q7] x13 Y := by rw [← hY]; exact kpSet _ _ _ _
            have bqY := bqx.keptS kY (by simpa using Ne.symm ne7)
            have g0 := bqY.c0; have g1 := bqY.c1; have g2 := bqY.free 0; have g3 := bqY.free 1
            have hZ : ∃ Z, (Y.setCell ⟨x12.heap.size, 0, none⟩ (.int .i64 r.room)).setCell ⟨x12.heap.size, 1, none⟩ (.slice r.la r.l.length r.lc) = Z := ⟨_, rfl⟩
            obtain ⟨Z, hZ⟩ := hZ
            have RG := RgI.made P3 b7a bqx hg7 hqW fx7.2.1 f1 fx7.2.2 f2 ne7 hY hZ
            have hfin := hQj.out Z _ p2 v2 n r r0 RG hsn hro hln
            have hY' := hid hY
            have hZ' := hid hZ
            obtain ⟨room9, la9, lc9, l9⟩ := r
            simp only [RN.v] at *
            clear hY hZ RG P3 bqx
            refine wpAnyH_ready (rs := [10]) (by kernel_rfl) (by simp) ?_
            refine AllReadyH.cons rfl (fun K hK => ?_) AllReadyH.nil
            go_simp
            (try go_wp2_with fail)
            refine hK.out _ _ ?_ (fun hHeld => ?_)
            · trivial
            clear hK K
            try simp only [Act.put, List.getElem_toArray, List.getElem_cons_zero, List.getElem_cons_succ, List.setIfInBounds_toArray, List.set_cons_zero, List.set_cons_succ]
            rw [hY'.out]
            refine wpAnyH_ready (rs := [11]) (by kernel_rfl) (by simp) ?_
            refine AllReadyH.cons rfl (fun K hK => ?_) AllReadyH.nil
            go_simp
            (try go_wp2_with fail)
            refine hK.out _ _ ?_ (fun hHeld => ?_)
            · trivial
            clear hK K
            try simp only [Act.put, List.getElem_toArray, List.getElem_cons_zero, List.getElem_cons_succ, List.setIfInBounds_toArray, List.set_cons_zero, List.set_cons_succ]
            refine wpAnyH_take (i := 12) (v := ?_) rfl (by kernel_rfl) (by kernel_rfl) (by kernel_rfl) (fun _ _ _ h => hQp.out _ _ _ _ h) (Or.inl ⟨by rfl, ?_⟩) (by assumption) ?_
            rotate_left
            · intro w hSw; (try dsimp only at hSw); go_simp <;> with_reducible rfl
            try simp only [Act.put, List.getElem_toArray, List.getElem_cons_zero, List.getElem_cons_succ, List.setIfInBounds_toArray, List.set_cons_zero, List.set_cons_succ]
            refine wpAnyH_done (by kernel_rfl) ?_ _
            rw [hZ'.out]
            exact hfin
        · go_simp
          obtain ⟨x14, hwx, kA, bq⟩ : ∃ wz, x10.alloc (.cells #[.int .i64 0, .slice none 0 0] 28) = wz ∧ Kp [] x10 wz ∧ B2 wz x10.heap.size (.int .i64 0) (.slice none 0 0) := ⟨_, rfl, (Kp.refl _ _).alloc _, B2.at _ rfl _ _ _⟩
          rw [hwx]
          have b7a := b7c.kept kA
          have ne7 : q7 ≠ x10.heap.size := by have := b7c.lt; omega
          have kC2 : Kp [] w1 x14 := (kC).trans kA (by simp)
          have P1 := P0.keep kA
          have hqn : x10.heap.size ∉ p :: own (.slice none 0 0) := fun h => by have := P0.D.ltAll _ h; omega
          have hqr0 : x10.heap.size ∉ r0.foot := fun h => by have := P0.R.lt _ h; omega
          have hqW : Wb.heap.size ≤ x10.heap.size := P0.kp.size
          (try go_wp2_with fail)
          refine hK.out _ _ ?_ (fun hHeld => ?_)
          · trivial
          clear hK K
          try simp only [Act.put, List.getElem_toArray, List.getElem_cons_zero, List.getElem_cons_succ, List.setIfInBounds_toArray, List.set_cons_zero, List.set_cons_succ]
          refine wpAnyH_ready (rs := [4]) (by kernel_rfl) (by simp) ?_
          refine (AllReadyH.cons rfl (fun K hK => ?_) AllReadyH.nil)
          · go_simp
            refine (cR.out x14 r0 P1).mono ?_
            rintro e x15 ⟨p2, v2, n, r, rfl, mv, P2, hsn, hro, hln⟩
            have fx7 := run7 mv b7a hq7p hr70 hg7
            have b7r := fx7.1
            have P3 := P2
            have fx := runBox mv P2 (.inl ⟨bq, hqn, hqr0⟩) hqW
            (try go_wp2_with fail)
            refine hK.out _ _ ?_ (fun hHeld => ?_)
            · trivial
            clear hK K
            try simp only [Act.put, List.getElem_toArray, List.getElem_cons_zero, List.getElem_cons_succ, List.setIfInBounds_toArray, List.set_cons_zero, List.set_cons_succ]
            refine wpAnyH_take (i := 5) (v := ?_) rfl (by kernel_rfl) (by kernel_rfl) (by kernel_rfl) (fun _ _ _ h => hQp.out _ _ _ _ h) (Or.inl ⟨by rfl, ?_⟩) (by assumption) ?_
            rotate_left
            · intro w hSw; (try dsimp only at hSw); go_simp <;> with_reducible rfl
            try simp only [Act.put, List.getElem_toArray, List.getElem_cons_zero, List.getElem_cons_succ, List.setIfInBounds_toArray, List.set_cons_zero, List.set_cons_succ]
            refine wpAnyH_take (i := 6) (v := ?_) rfl (by kernel_rfl) (by kernel_rfl) (by kernel_rfl) (fun _ _ _ h => hQp.out _ _ _ _ h) (Or.inl ⟨by rfl, ?_⟩) (by assumption) ?_
            rotate_left
            · intro w hSw; (try dsimp only at hSw); go_simp <;> with_reducible rfl
            try simp only [Act.put, List.getElem_toArray, List.getElem_cons_zero, List.getElem_cons_succ, List.setIfInBounds_toArray, List.set_cons_zero, List.set_cons_succ]
            refine wpAnyH_take (i := 7) (v := ?_) rfl (by kernel_rfl) (by kernel_rfl) (by kernel_rfl) (fun _ _ _ h => hQp.out _ _ _ _ h) (Or.inl ⟨by rfl, ?_⟩) (by assumption) ?_
            rotate_left
            · intro w hSw; (try dsimp only at hSw); go_simp <;> with_reducible rfl
            try simp only [Act.put, List.getElem_toArray, List.getElem_cons_zero, List.getElem_cons_succ, List.setIfInBounds_toArray, List.set_cons_zero, List.set_cons_succ]
            refine wpAnyH_take (i := 8) (v := ?_) rfl (by kernel_rfl) (by kernel_rfl) (by kernel_rfl) (fun _ _ _ h => hQp.out _ _ _ _ h) (Or.inl ⟨by rfl, ?_⟩) (by assumption) ?_
            rotate_left
            · intro w hSw; (try dsimp only at hSw); go_simp <;> with_reducible rfl
            try simp only [Act.put, List.getElem_toArray, List.getElem_cons_zero, List.getElem_cons_succ, List.setIfInBounds_toArray, List.set_cons_zero, List.set_cons_succ]
            obtain ⟨bqx, f1, f2⟩ := fx
            have s0 := b7r.c0; have s1 := b7r.free
            obtain ⟨Y, hY⟩ : ∃ Y, x15.setCell ⟨q7, 0, none⟩ (.pointer (some ⟨p2, 0, none⟩)) = Y := ⟨_, rfl⟩
            have kY : Kp [q7] x15 Y := by rw [← hY]; exact kpSet _ _ _ _
            have bqY := bqx.keptS kY (by simpa using Ne.symm ne7)
            have g0 := bqY.c0; have g1 := bqY.c1; have g2 := bqY.free 0; have g3 := bqY.free 1
            have hZ : ∃ Z, (Y.setCell ⟨x10.heap.size, 0, none⟩ (.int .i64 r.room)).setCell ⟨x10.heap.size, 1, none⟩ (.slice r.la r.l.length r.lc) = Z := ⟨_, rfl⟩
            obtain ⟨Z, hZ⟩ := hZ
            have RG := RgI.made P3 b7r bqx hg7 hqW fx7.2.1 f1 fx7.2.2 f2 ne7 hY hZ
            have hfin := hQj.out Z _ p2 v2 n r r0 RG hsn hro hln
            have hY' := hid hY
            have hZ' := hid hZ
            obtain ⟨room9, la9, lc9, l9⟩ := r
            simp only [RN.v] at *
            clear hY hZ RG P3 bqx
            refine wpAnyH_ready (rs := [10]) (by kernel_rfl) (by simp) ?_
            refine AllReadyH.cons rfl (fun K hK => ?_) AllReadyH.nil
            go_simp
            (try go_wp2_with fail)
            refine hK.out _ _ ?_ (fun hHeld => ?_)
            · trivial
            clear hK K
            try simp only [Act.put, List.getElem_toArray, List.getElem_cons_zero, List.getElem_cons_succ, List.setIfInBounds_toArray, List.set_cons_zero, List.set_cons_succ]
            rw [hY'.out]
            refine wpAnyH_ready (rs := [11]) (by kernel_rfl) (by simp) ?_
            refine AllReadyH.cons rfl (fun K hK => ?_) AllReadyH.nil
            go_simp
            (try go_wp2_with fail)
            refine hK.out _ _ ?_ (fun hHeld => ?_)
            · trivial
            clear hK K
            try simp only [Act.put, List.getElem_toArray, List.getElem_cons_zero, List.getElem_cons_succ, List.setIfInBounds_toArray, List.set_cons_zero, List.set_cons_succ]
            refine wpAnyH_take (i := 12) (v := ?_) rfl (by kernel_rfl) (by kernel_rfl) (by kernel_rfl) (fun _ _ _ h => hQp.out _ _ _ _ h) (Or.inl ⟨by rfl, ?_⟩) (by assumption) ?_
            rotate_left
            · intro w hSw; (try dsimp only at hSw); go_simp <;> with_reducible rfl
            try simp only [Act.put, List.getElem_toArray, List.getElem_cons_zero, List.getElem_cons_succ, List.setIfInBounds_toArray, List.set_cons_zero, List.set_cons_succ]
            refine wpAnyH_done (by kernel_rfl) ?_ _
            rw [hZ'.out]
            exact hfin
      · go_simp
        obtain ⟨x16, hwx, kA, bq⟩ : ∃ wz, x10.alloc (.cells #[.int .i64 0, .slice none 0 0] 28) = wz ∧ Kp [] x10 wz ∧ B2 wz x10.heap.size (.int .i64 0) (.slice none 0 0) := ⟨_, rfl, (Kp.refl _ _).alloc _, B2.at _ rfl _ _ _⟩
        rw [hwx]
        have b7a := b7c.kept kA
        have ne7 : q7 ≠ x10.heap.size := by have := b7c.lt; omega
        have kC2 : Kp [] w1 x16 := (kC).trans kA (by simp)
        have P1 := P0.keep kA
        have hqn : x10.heap.size ∉ p :: own (.slice none 0 0) := fun h => by have := P0.D.ltAll _ h; omega
        have hqr0 : x10.heap.size ∉ r0.foot := fun h => by have := P0.R.lt _ h; omega
        have hqW : Wb.heap.size ≤ x10.heap.size := P0.kp.size
        (try go_wp2_with fail)
        refine hK.out _ _ ?_ (fun hHeld => ?_)
        · trivial
        clear hK K
        try simp only [Act.put, List.getElem_toArray, List.getElem_cons_zero, List.getElem_cons_succ, List.setIfInBounds_toArray, List.set_cons_zero, List.set_cons_succ]
        refine wpAnyH_ready (rs := [0]) (by kernel_rfl) (by simp) ?_
        refine (AllReadyH.cons rfl (fun K hK => ?_) AllReadyH.nil)
        · have h7 := b7a.c0
          go_simp
          (try go_wp2_with fail)
          refine hK.out _ _ ?_ (fun hHeld => ?_)
          · trivial
          clear hK K
          try simp only [Act.put, List.getElem_toArray, List.getElem_cons_zero, List.getElem_cons_succ, List.setIfInBounds_toArray, List.set_cons_zero, List.set_cons_succ]
          refine wpAnyH_ready (rs := [4]) (by kernel_rfl) (by simp) ?_
          refine (AllReadyH.cons rfl (fun K hK => ?_) AllReadyH.nil)
          · go_simp
            refine (cR.out x16 r0 P1).mono ?_
            rintro e x18 ⟨p2, v2, n, r, rfl, mv, P2, hsn, hro, hln⟩
            have fx7 := run7 mv b7a hq7p hr70 hg7
            have b7r := fx7.1
            have P3 := P2
            have fx := runBox mv P2 (.inl ⟨bq, hqn, hqr0⟩) hqW
            (try go_wp2_with fail)
            refine hK.out _ _ ?_ (fun hHeld => ?_)
            · trivial
            clear hK K
            try simp only [Act.put, List.getElem_toArray, List.getElem_cons_zero, List.getElem_cons_succ, List.setIfInBounds_toArray, List.set_cons_zero, List.set_cons_succ]
            refine wpAnyH_take (i := 5) (v := ?_) rfl (by kernel_rfl) (by kernel_rfl) (by kernel_rfl) (fun _ _ _ h => hQp.out _ _ _ _ h) (Or.inl ⟨by rfl, ?_⟩) (by assumption) ?_
            rotate_left
            · intro w hSw; (try dsimp only at hSw); go_simp <;> with_reducible rfl
            try simp only [Act.put, List.getElem_toArray, List.getElem_cons_zero, List.getElem_cons_succ, List.setIfInBounds_toArray, List.set_cons_zero, List.set_cons_succ]
            refine wpAnyH_take (i := 6) (v := ?_) rfl (by kernel_rfl) (by kernel_rfl) (by kernel_rfl) (fun _ _ _ h => hQp.out _ _ _ _ h) (Or.inl ⟨by rfl, ?_⟩) (by assumption) ?_
            rotate_left
            · intro w hSw; (try dsimp only at hSw); go_simp <;> with_reducible rfl
            try simp only [Act.put, List.getElem_toArray, List.getElem_cons_zero, List.getElem_cons_succ, List.setIfInBounds_toArray, List.set_cons_zero, List.set_cons_succ]
            refine wpAnyH_take (i := 7) (v := ?_) rfl (by kernel_rfl) (by kernel_rfl) (by kernel_rfl) (fun _ _ _ h => hQp.out _ _ _ _ h) (Or.inl ⟨by rfl, ?_⟩) (by assumption) ?_
            rotate_left
            · intro w hSw; (try dsimp only at hSw); go_simp <;> with_reducible rfl
            try simp only [Act.put, List.getElem_toArray, List.getElem_cons_zero, List.getElem_cons_succ, List.setIfInBounds_toArray, List.set_cons_zero, List.set_cons_succ]
            refine wpAnyH_take (i := 8) (v := ?_) rfl (by kernel_rfl) (by kernel_rfl) (by kernel_rfl) (fun _ _ _ h => hQp.out _ _ _ _ h) (Or.inl ⟨by rfl, ?_⟩) (by assumption) ?_
            rotate_left
            · intro w hSw; (try dsimp only at hSw); go_simp <;> with_reducible rfl
            try simp only [Act.put, List.getElem_toArray, List.getElem_cons_zero, List.getElem_cons_succ, List.setIfInBounds_toArray, List.set_cons_zero, List.set_cons_succ]
            obtain ⟨bqx, f1, f2⟩ := fx
            have s0 := b7r.c0; have s1 := b7r.free
            obtain ⟨Y, hY⟩ : ∃ Y, x18.setCell ⟨q7, 0, none⟩ (.pointer (some ⟨p2, 0, none⟩)) = Y := ⟨_, rfl⟩
            have kY : Kp [q7] x18 Y := by rw [← hY]; exact kpSet _ _ _ _
            have bqY := bqx.keptS kY (by simpa using Ne.symm ne7)
            have g0 := bqY.c0; have g1 := bqY.c1; have g2 := bqY.free 0; have g3 := bqY.free 1
            have hZ : ∃ Z, (Y.setCell ⟨x10.heap.size, 0, none⟩ (.int .i64 r.room)).setCell ⟨x10.heap.size, 1, none⟩ (.slice r.la r.l.length r.lc) = Z := ⟨_, rfl⟩
            obtain ⟨Z, hZ⟩ := hZ
            have RG := RgI.made P3 b7r bqx hg7 hqW fx7.2.1 f1 fx7.2.2 f2 ne7 hY hZ
            have hfin := hQj.out Z _ p2 v2 n r r0 RG hsn hro hln
            have hY' := hid hY
            have hZ' := hid hZ
            obtain ⟨room9, la9, lc9, l9⟩ := r
            simp only [RN.v] at *
            clear hY hZ RG P3 bqx
            refine wpAnyH_ready (rs := [10]) (by kernel_rfl) (by simp) ?_
            refine AllReadyH.cons rfl (fun K hK => ?_) AllReadyH.nil
            go_simp
            (try go_wp2_with fail)
            refine hK.out _ _ ?_ (fun hHeld => ?_)
            · trivial
            clear hK K
            try simp only [Act.put, List.getElem_toArray, List.getElem_cons_zero, List.getElem_cons_succ, List.setIfInBounds_toArray, List.set_cons_zero, List.set_cons_succ]
            rw [hY'.out]
            refine wpAnyH_ready (rs := [11]) (by kernel_rfl) (by simp) ?_
            refine AllReadyH.cons rfl (fun K hK => ?_) AllReadyH.nil
            go_simp
            (try go_wp2_with fail)
            refine hK.out _ _ ?_ (fun hHeld => ?_)
            · trivial
            clear hK K
            try simp only [Act.put, List.getElem_toArray, List.getElem_cons_zero, List.getElem_cons_succ, List.setIfInBounds_toArray, List.set_cons_zero, List.set_cons_succ]
            refine wpAnyH_take (i := 12) (v := ?_) rfl (by kernel_rfl) (by kernel_rfl) (by kernel_rfl) (fun _ _ _ h => hQp.out _ _ _ _ h) (Or.inl ⟨by rfl, ?_⟩) (by assumption) ?_
            rotate_left
            · intro w hSw; (try dsimp only at hSw); go_simp <;> with_reducible rfl
            try simp only [Act.put, List.getElem_toArray, List.getElem_cons_zero, List.getElem_cons_succ, List.setIfInBounds_toArray, List.set_cons_zero, List.set_cons_succ]
            refine wpAnyH_done (by kernel_rfl) ?_ _
            rw [hZ'.out]
            exact hfin
    · go_simp
      obtain ⟨x19, hwx, kA, bq⟩ : ∃ wz, wd.alloc (.cells #[.int .i64 0, .slice none 0 0] 28) = wz ∧ Kp [] wd wz ∧ B2 wz wd.heap.size (.int .i64 0) (.slice none 0 0) := ⟨_, rfl, (Kp.refl _ _).alloc _, B2.at _ rfl _ _ _⟩
      rw [hwx]
      have b7a := b7d.kept kA
      have ne7 : q7 ≠ wd.heap.size := by have := b7d.lt; omega
      have kC2 : Kp [] w1 x19 := (kd).trans kA (by simp)
      have hqn : wd.heap.size ∉ p :: own (.slice none 0 0) := fun h => by have := hpl _ (by simpa [own, Value.ownBlock] using h); have := (kd).size; omega
      have hqW : Wb.heap.size ≤ wd.heap.size := Nat.le_trans k1.size (kd).size
      (try go_wp2_with fail)
      refine hK.out _ _ ?_ (fun hHeld => ?_)
      · trivial
      clear hK K
      try simp only [Act.put, List.getElem_toArray, List.getElem_cons_zero, List.getElem_cons_succ, List.setIfInBounds_toArray, List.set_cons_zero, List.set_cons_succ]
      refine wpAnyH_ready (rs := [0, 2]) (by kernel_rfl) (by simp) ?_
      refine (AllReadyH.cons rfl (fun K hK => ?_) (AllReadyH.cons rfl (fun K hK => ?_) AllReadyH.nil))
      · have h7 := b7a.c0
        go_simp
        (try go_wp2_with fail)
        refine hK.out _ _ ?_ (fun hHeld => ?_)
        · trivial
        clear hK K
        try simp only [Act.put, List.getElem_toArray, List.getElem_cons_zero, List.getElem_cons_succ, List.setIfInBounds_toArray, List.set_cons_zero, List.set_cons_succ]
        refine wpAnyH_ready (rs := [2]) (by kernel_rfl) (by simp) ?_
        refine (AllReadyH.cons rfl (fun K hK => ?_) AllReadyH.nil)
        · go_simp
          refine (cRNew room x19).mono ?_
          rintro e x21 ⟨v, rfl, r0, rfl, hR0, hL0, kN, hft0⟩
          have bq2 := bq.kept kN
          have hqr0 : wd.heap.size ∉ r0.foot := fun h => by
            rcases hft0 _ h with h | h
            · cases h
            · have := bq.lt; omega
          have hr70 : q7 ∉ r0.foot := fun h => by
            rcases hft0 _ h with h | h
            · cases h
            · have := b7a.lt; omega
          have P0 := mkP.out x19 x21 r0 (kC2) kN hR0 hL0 hft0
          have kC : Kp [] w1 x21 := (kC2).trans kN (by simp)
          have b7c := b7a.kept kN
          (try go_wp2_with fail)
          refine hK.out _ _ ?_ (fun hHeld => ?_)
          · trivial
          clear hK K
          try simp only [Act.put, List.getElem_toArray, List.getElem_cons_zero, List.getElem_cons_succ, List.setIfInBounds_toArray, List.set_cons_zero, List.set_cons_succ]
          refine wpAnyH_ready (rs := [4]) (by kernel_rfl) (by simp) ?_
          refine (AllReadyH.cons rfl (fun K hK => ?_) AllReadyH.nil)
          · go_simp
            refine (cR.out x21 r0 P0).mono ?_
            rintro e x22 ⟨p2, v2, n, r, rfl, mv, P2, hsn, hro, hln⟩
            have fx7 := run7 mv b7c hq7p hr70 hg7
            have b7r := fx7.1
            have P3 := P2
            have fx := runBox mv P2 (.inl ⟨bq2, hqn, hqr0⟩) hqW
            (try go_wp2_with fail)
            refine hK.out _ _ ?_ (fun hHeld => ?_)
            · trivial
            clear hK K
            try simp only [Act.put, List.getElem_toArray, List.getElem_cons_zero, List.getElem_cons_succ, List.setIfInBounds_toArray, List.set_cons_zero, List.set_cons_succ]
            refine wpAnyH_take (i := 5) (v := ?_) rfl (by kernel_rfl) (by kernel_rfl) (by kernel_rfl) (fun _ _ _ h => hQp.out _ _ _ _ h) (Or.inl ⟨by rfl, ?_⟩) (by assumption) ?_
            rotate_left
            · intro w hSw; (try dsimp only at hSw); go_simp <;> with_reducible rfl
            try simp only [Act.put, List.getElem_toArray, List.getElem_cons_zero, List.getElem_cons_succ, List.setIfInBounds_toArray, List.set_cons_zero, List.set_cons_succ]
            refine wpAnyH_take (i := 6) (v := ?_) rfl (by kernel_rfl) (by kernel_rfl) (by kernel_rfl) (fun _ _ _ h => hQp.out _ _ _ _ h) (Or.inl ⟨by rfl, ?_⟩) (by assumption) ?_
            rotate_left
            · intro w hSw; (try dsimp only at hSw); go_simp <;> with_reducible rfl
            try simp only [Act.put, List.getElem_toArray, List.getElem_cons_zero, List.getElem_cons_succ, List.setIfInBounds_toArray, List.set_cons_zero, List.set_cons_succ]
            refine wpAnyH_take (i := 7) (v := ?_) rfl (by kernel_rfl) (by kernel_rfl) (by kernel_rfl) (fun _ _ _ h => hQp.out _ _ _ _ h) (Or.inl ⟨by rfl, ?_⟩) (by assumption) ?_
            rotate_left
            · intro w hSw; (try dsimp only at hSw); go_simp <;> with_reducible rfl
            try simp only [Act.put, List.getElem_toArray, List.getElem_cons_zero, List.getElem_cons_succ, List.setIfInBounds_toArray, List.set_cons_zero, List.set_cons_succ]
            refine wpAnyH_take (i := 8) (v := ?_) rfl (by kernel_rfl) (by kernel_rfl) (by kernel_rfl) (fun _ _ _ h => hQp.out _ _ _ _ h) (Or.inl ⟨by rfl, ?_⟩) (by assumption) ?_
            rotate_left
            · intro w hSw; (try dsimp only at hSw); go_simp <;> with_reducible rfl
            try simp only [Act.put, List.getElem_toArray, List.getElem_cons_zero, List.getElem_cons_succ, List.setIfInBounds_toArray, List.set_cons_zero, List.set_cons_succ]
            obtain ⟨bqx, f1, f2⟩ := fx
            have s0 := b7r.c0; have s1 := b7r.free
            obtain ⟨Y, hY⟩ : ∃ Y, x22.setCell ⟨q7, 0, none⟩ (.pointer (some ⟨p2, 0, none⟩)) = Y := ⟨_, rfl⟩
            have kY : Kp [q7] x22 Y := by rw [← hY]; exact kpSet _ _ _ _
            have bqY := bqx.keptS kY (by simpa using Ne.symm ne7)
            have g0 := bqY.c0; have g1 := bqY.c1; have g2 := bqY.free 0; have g3 := bqY.free 1
            have hZ : ∃ Z, (Y.setCell ⟨wd.heap.size, 0, none⟩ (.int .i64 r.room)).setCell ⟨wd.heap.size, 1, none⟩ (.slice r.la r.l.length r.lc) = Z := ⟨_, rfl⟩
            obtain ⟨Z, hZ⟩ := hZ
            have RG := RgI.made P3 b7r bqx hg7 hqW fx7.2.1 f1 fx7.2.2 f2 ne7 hY hZ
            have hfin := hQj.out Z _ p2 v2 n r r0 RG hsn hro hln
            have hY' := hid hY
            have hZ' := hid hZ
            obtain ⟨room9, la9, lc9, l9⟩ := r
            simp only [RN.v] at *
            clear hY hZ RG P3 bqx
            refine wpAnyH_ready (rs := [10]) (by kernel_rfl) (by simp) ?_
            refine AllReadyH.cons rfl (fun K hK => ?_) AllReadyH.nil
            go_simp
            (try go_wp2_with fail)
            refine hK.out _ _ ?_ (fun hHeld => ?_)
            · trivial
            clear hK K
            try simp only [Act.put, List.getElem_toArray, List.getElem_cons_zero, List.getElem_cons_succ, List.setIfInBounds_toArray, List.set_cons_zero, List.set_cons_succ]
            rw [hY'.out]
            refine wpAnyH_ready (rs := [11]) (by kernel_rfl) (by simp) ?_
            refine AllReadyH.cons rfl (fun K hK => ?_) AllReadyH.nil
            go_simp
            (try go_wp2_with fail)
            refine hK.out _ _ ?_ (fun hHeld => ?_)
            · trivial
            clear hK K
            try simp only [Act.put, List.getElem_toArray, List.getElem_cons_zero, List.getElem_cons_succ, List.setIfInBounds_toArray, List.set_cons_zero, List.set_cons_succ]
            refine wpAnyH_take (i := 12) (v := ?_) rfl (by kernel_rfl) (by kernel_rfl) (by kernel_rfl) (fun _ _ _ h => hQp.out _ _ _ _ h) (Or.inl ⟨by rfl, ?_⟩) (by assumption) ?_
            rotate_left
            · intro w hSw; (try dsimp only at hSw); go_simp <;> with_reducible rfl
            try simp only [Act.put, List.getElem_toArray, List.getElem_cons_zero, List.getElem_cons_succ, List.setIfInBounds_toArray, List.set_cons_zero, List.set_cons_succ]
            refine wpAnyH_done (by kernel_rfl) ?_ _
            rw [hZ'.out]
            exact hfin
      · go_simp
        refine (cRNew room x19).mono ?_
        rintro e x23 ⟨v, rfl, r0, rfl, hR0, hL0, kN, hft0⟩
        have bq2 := bq.kept kN
        have hqr0 : wd.heap.size ∉ r0.foot := fun h => by
          rcases hft0 _ h with h | h
          · cases h
          · have := bq.lt; omega
        have hr70 : q7 ∉ r0.foot := fun h => by
          rcases hft0 _ h with h | h
          · cases h
          · have := b7a.lt; omega
        have P0 := mkP.out x19 x23 r0 (kC2) kN hR0 hL0 hft0
        have kC : Kp [] w1 x23 := (kC2).trans kN (by simp)
        have b7c := b7a.kept kN
        (try go_wp2_with fail)
        refine hK.out _ _ ?_ (fun hHeld => ?_)
        · trivial
        clear hK K
        try simp only [Act.put, List.getElem_toArray, List.getElem_cons_zero, List.getElem_cons_succ, List.setIfInBounds_toArray, List.set_cons_zero, List.set_cons_succ]
        refine wpAnyH_ready (rs := [0]) (by kernel_rfl) (by simp) ?_
        refine (AllReadyH.cons rfl (fun K hK => ?_) AllReadyH.nil)
        · have h7 := b7c.c0
          go_simp
          (try go_wp2_with fail)
          refine hK.out _ _ ?_ (fun hHeld => ?_)
          · trivial
          clear hK K
          try simp only [Act.put, List.getElem_toArray, List.getElem_cons_zero, List.getElem_cons_succ, List.setIfInBounds_toArray, List.set_cons_zero, List.set_cons_succ]
          refine wpAnyH_ready (rs := [4]) (by kernel_rfl) (by simp) ?_
          refine (AllReadyH.cons rfl (fun K hK => ?_) AllReadyH.nil)
          · go_simp
            refine (cR.out x23 r0 P0).mono ?_
            rintro e x25 ⟨p2, v2, n, r, rfl, mv, P2, hsn, hro, hln⟩
            have fx7 := run7 mv b7c hq7p hr70 hg7
            have b7r := fx7.1
            have P3 := P2
            have fx := runBox mv P2 (.inl ⟨bq2, hqn, hqr0⟩) hqW
            (try go_wp2_with fail)
            refine hK.out _ _ ?_ (fun hHeld => ?_)
            · trivial
            clear hK K
            try simp only [Act.put, List.getElem_toArray, List.getElem_cons_zero, List.getElem_cons_succ, List.setIfInBounds_toArray, List.set_cons_zero, List.set_cons_succ]
            refine wpAnyH_take (i := 5) (v := ?_) rfl (by kernel_rfl) (by kernel_rfl) (by kernel_rfl) (fun _ _ _ h => hQp.out _ _ _ _ h) (Or.inl ⟨by rfl, ?_⟩) (by assumption) ?_
            rotate_left
            · intro w hSw; (try dsimp only at hSw); go_simp <;> with_reducible rfl
            try simp only [Act.put, List.getElem_toArray, List.getElem_cons_zero, List.getElem_cons_succ, List.setIfInBounds_toArray, List.set_cons_zero, List.set_cons_succ]
            refine wpAnyH_take (i := 6) (v := ?_) rfl (by kernel_rfl) (by kernel_rfl) (by kernel_rfl) (fun _ _ _ h => hQp.out _ _ _ _ h) (Or.inl ⟨by rfl, ?_⟩) (by assumption) ?_
            rotate_left
            · intro w hSw; (try dsimp only at hSw); go_simp <;> with_reducible rfl
            try simp only [Act.put, List.getElem_toArray, List.getElem_cons_zero, List.getElem_cons_succ, List.setIfInBounds_toArray, List.set_cons_zero, List.set_cons_succ]
            refine wpAnyH_take (i := 7) (v := ?_) rfl (by kernel_rfl) (by kernel_rfl) (by kernel_rfl) (fun _ _ _ h => hQp.out _ _ _ _ h) (Or.inl ⟨by rfl, ?_⟩) (by assumption) ?_
            rotate_left
            · intro w hSw; (try dsimp only at hSw); go_simp <;> with_reducible rfl
            try simp only [Act.put, List.getElem_toArray, List.getElem_cons_zero, List.getElem_cons_succ, List.setIfInBounds_toArray, List.set_cons_zero, List.set_cons_succ]
            refine wpAnyH_take (i := 8) (v := ?_) rfl (by kernel_rfl) (by kernel_rfl) (by kernel_rfl) (fun _ _ _ h => hQp.out _ _ _ _ h) (Or.inl ⟨by rfl, ?_⟩) (by assumption) ?_
            rotate_left
            · intro w hSw; (try dsimp only at hSw); go_simp <;> with_reducible rfl
            try simp only [Act.put, List.getElem_toArray, List.getElem_cons_zero, List.getElem_cons_succ, List.setIfInBounds_toArray, List.set_cons_zero, List.set_cons_succ]
            obtain ⟨bqx, f1, f2⟩ := fx
            have s0 := b7r.c0; have s1 := b7r.free
            obtain ⟨Y, hY⟩ : ∃ Y, x25.setCell ⟨q7, 0, none⟩ (.pointer (some ⟨p2, 0, none⟩)) = Y := ⟨_, rfl⟩
            have kY : Kp [q7] x25 Y := by rw [← hY]; exact kpSet _ _ _ _
            have bqY := bqx.keptS kY (by simpa using Ne.symm ne7)
            have g0 := bqY.c0; have g1 := bqY.c1; have g2 := bqY.free 0; have g3 := bqY.free 1
            have hZ : ∃ Z, (Y.setCell ⟨wd.heap.size, 0, none⟩ (.int .i64 r.room)).setCell ⟨wd.heap.size, 1, none⟩ (.slice r.la r.l.length r.lc) = Z := ⟨_, rfl⟩
            obtain ⟨Z, hZ⟩ := hZ
            have RG := RgI.made P3 b7r bqx hg7 hqW fx7.2.1 f1 fx7.2.2 f2 ne7 hY hZ
            have hfin := hQj.out Z _ p2 v2 n r r0 RG hsn hro hln
            have hY' := hid hY
            have hZ' := hid hZ
            obtain ⟨room9, la9, lc9, l9⟩ := r
            simp only [RN.v] at *
            clear hY hZ RG P3 bqx
            refine wpAnyH_ready (rs := [10]) (by kernel_rfl) (by simp) ?_
            refine AllReadyH.cons rfl (fun K hK => ?_) AllReadyH.nil
            go_simp
            (try go_wp2_with fail)
            refine hK.out _ _ ?_ (fun hHeld => ?_)
            · trivial
            clear hK K
            try simp only [Act.put, List.getElem_toArray, List.getElem_cons_zero, List.getElem_cons_succ, List.setIfInBounds_toArray, List.set_cons_zero, List.set_cons_succ]
            rw [hY'.out]
            refine wpAnyH_ready (rs := [11]) (by kernel_rfl) (by simp) ?_
            refine AllReadyH.cons rfl (fun K hK => ?_) AllReadyH.nil
            go_simp
            (try go_wp2_with fail)
            refine hK.out _ _ ?_ (fun hHeld => ?_)
            · trivial
            clear hK K
            try simp only [Act.put, List.getElem_toArray, List.getElem_cons_zero, List.getElem_cons_succ, List.setIfInBounds_toArray, List.set_cons_zero, List.set_cons_succ]
            refine wpAnyH_take (i := 12) (v := ?_) rfl (by kernel_rfl) (by kernel_rfl) (by kernel_rfl) (fun _ _ _ h => hQp.out _ _ _ _ h) (Or.inl ⟨by rfl, ?_⟩) (by assumption) ?_
            rotate_left
            · intro w hSw; (try dsimp only at hSw); go_simp <;> with_reducible rfl
            try simp only [Act.put, List.getElem_toArray, List.getElem_cons_zero, List.getElem_cons_succ, List.setIfInBounds_toArray, List.set_cons_zero, List.set_cons_succ]
            refine wpAnyH_done (by kernel_rfl) ?_ _
            rw [hZ'.out]
            exact hfin
  rintro e a' w3 hq
  rw [hQe'.out] at hq
  obtain ⟨rfl, q9, p2, v2, n, r, r0, G, hBn, hRn, hln, rfl⟩ := hq
  clear hQp hQe' Qj hQj cR mkP hpl kd b7d k2 hq7' hw2' hz2'
  have hWb2 : W.heap.size + 2 = Wb.heap.size := hzb'.out.symm
  have hWb3 := hid hWb2
  have kw3 := G.P.kp
  have c5 := b5.kept kw3
  have c6 := b6.kept kw3
  obtain ⟨wl, hwl⟩ : ∃ wl, (w3.alloc (.cells #[.pointer (some ⟨p2, 0, none⟩)] 23)).alloc (.cells #[.int .i64 to] 3) = wl := ⟨_, rfl⟩
  have kl : Kp [] w3 wl := by rw [← hwl]; exact ((Kp.refl _ _).alloc _).alloc _
  have hzl : Hid (wl.heap.size = w3.heap.size + 2) := by show _ = _; rw [← hwl]; simp
  have d1 : wl.cell? ⟨w3.heap.size, 0, none⟩ = some (.pointer (some ⟨p2, 0, none⟩)) := by rw [← hwl]; exact cell_kp ((Kp.refl _ _).alloc _) (World.cell?_alloc_new w3 _ _ 0)
  have d2 : wl.cell? ⟨w3.heap.size + 1, 0, none⟩ = some (.int .i64 to) := by
    rw [← hwl]
    have := World.cell?_alloc_new (w3.alloc (.cells #[.pointer (some ⟨p2, 0, none⟩)] 23)) #[.int .i64 to] 3 0
    rwa [World.size_alloc] at this
  have hAT : AtT w3.heap.size (w3.heap.size + 1) p2 v2 n to wl := ⟨d1, d2, G.P.D.keptNew kl⟩
  have cto := cTo p2 to w3
  rw [hwl] at cto
  have hseq := toSeq 7 (by omega) w3.heap.size (w3.heap.size + 1) p2 v2 n to wl hAT hBn (by omega)
  have s7 := G.b7.c0
  have s5 := c5.c0
  have hvl := G.P.D.ltAll
  have hA0 : RgA wl (sT w3.heap.size (w3.heap.size + 1) p2 v2) wl := by
    have hz := hzl.out
    refine ⟨Kp.refl _ _, fun h => (by cases h), fun j hj => .inl ⟨?_, rfl⟩, fun j hj => ?_, fun _ => rfl⟩
    · simp only [List.mem_cons] at hj
      rcases hj with rfl | rfl | hj
      · omega
      · omega
      · have := hvl j (by simpa using hj); omega
    · simp only [List.mem_cons] at hj
      rcases hj with rfl | rfl | hj
      · omega
      · omega
      · have := hvl j (by simpa using hj); omega
  obtain ⟨rr, hrr⟩ : ∃ rr, Hid (rr = r) := ⟨_, rfl⟩
  have hwl' := hid hwl
  clear hwl d1 d2
  go_wp2_with fail
  refine cto.mono ?_
  rintro e w' ⟨rfl, rfl⟩
  go_wp2_with fail
  refine (wpIn_wide (n := 8)).1 ?_
  have hK0 := cto
  refine wpIn_mono (Q := fun e a' X => (e = .normal ∨ e = .exit 0) ∧ ∃ D, a' = { tmps := #[.int .i64 room, .slice a l.length c, .int .i64 to, undef, undef, .pointer (some ⟨W.heap.size, 0, none⟩), .pointer (some ⟨W.heap.size + 1, 0, none⟩), .pointer (some ⟨q7, 0, none⟩), .bool true, .pointer (some ⟨q9, 0, none⟩), undef, undef, undef, .tuple #[.pointer (some ⟨p, 0, none⟩), .bool true], .int .i64 room, .tuple #[.pointer (some ⟨p, 0, none⟩), .bool true], .pointer (some ⟨p, 0, none⟩), .bool true, .bool true, .bool false, .tuple #[.pointer (some ⟨p2, 0, none⟩), .agg #[.int .i64 r.room, .slice r.la r.l.length r.lc], .bool true], .pointer (some ⟨p, 0, none⟩), .int .i64 room, r0.v, .slice a l.length c, .tuple #[.pointer (some ⟨p2, 0, none⟩), .agg #[.int .i64 r.room, .slice r.la r.l.length r.lc], .bool true], .pointer (some ⟨p2, 0, none⟩), .agg #[.int .i64 r.room, .slice r.la r.l.length r.lc], .bool true, .bool true, .bool false, .pointer (some ⟨p2, 0, none⟩), .int .i64 to, .func (.func 28) #[] #[.pointer (some ⟨w3.heap.size, 0, none⟩), .pointer (some ⟨w3.heap.size + 1, 0, none⟩)], undef, undef, undef, undef, undef, undef, undef, undef, undef, undef, undef, undef, undef, undef, undef, undef, undef, undef, undef, undef, undef, undef, undef, undef, undef, undef, undef, undef, undef, undef, undef, undef, undef, undef, undef, undef, undef, undef, undef, undef, undef, undef, undef, undef, undef, undef, undef, undef, undef, undef, undef, undef, undef, undef, undef, undef, undef, undef, undef, undef, undef, undef, undef, undef, undef, undef, undef, undef, undef], defers := { target := .collected D, args := #[] } :: [] } ∧ w'.heap.size ≤ D ∧ Kp [] w' X ∧ X.heap[D]? = some (.deferred (some []))) ?_ ?_
  · refine wpRangeX rfl (by omega) (gf := 28) (lb := #[.pointer (some ⟨w3.heap.size, 0, none⟩), .pointer (some ⟨w3.heap.size + 1, 0, none⟩)]) rfl trivial (enters_of Try.func28 (by kernel_rfl) rfl)
      hseq (fun _ => rfl) KeepT.trans (fun s W o => KeepT.alloc s W o) (KeepT.refl _ _)
      (RgA w') (RgX w' (.exit 0)) RgA.ownF (fun c => RgX.ownF) hA0
      (fun s s' A B h ht k o hk ho => TlI.keeps h.mb ht k o hk ho)
      (fun c s A B h ht k o hk ho => (ht.2.low (Array.getElem?_eq_some_iff.1 ho).1 (by have := h.2.2.mb h.2.1; omega)).trans ho)
      (fun s s' A B hz h ht => RgA.step s s' A B hz h ht) (fun c s A B h ht => h.step ht)
      (fun s W o' h => TlI.recs h.mb h.js o') (fun s x W o' h => TlI.recs (s := s) h.mb h.js o') (fun c s x W o' h => TlI.recs (s := s) h.2.2.mb h.2.2.js o')
      (fun x => { tmps := #[.int .i64 room, .slice a l.length c, .int .i64 to, undef, undef, .pointer (some ⟨W.heap.size, 0, none⟩), .pointer (some ⟨W.heap.size + 1, 0, none⟩), .pointer (some ⟨q7, 0, none⟩), .bool true, .pointer (some ⟨q9, 0, none⟩), undef, undef, undef, .tuple #[.pointer (some ⟨p, 0, none⟩), .bool true], .int .i64 room, .tuple #[.pointer (some ⟨p, 0, none⟩), .bool true], .pointer (some ⟨p, 0, none⟩), .bool true, .bool true, .bool false, .tuple #[.pointer (some ⟨p2, 0, none⟩), .agg #[.int .i64 r.room, .slice r.la r.l.length r.lc], .bool true], .pointer (some ⟨p, 0, none⟩), .int .i64 room, r0.v, .slice a l.length c, .tuple #[.pointer (some ⟨p2, 0, none⟩), .agg #[.int .i64 r.room, .slice r.la r.l.length r.lc], .bool true], .pointer (some ⟨p2, 0, none⟩), .agg #[.int .i64 r.room, .slice r.la r.l.length r.lc], .bool true, .bool true, .bool false, .pointer (some ⟨p2, 0, none⟩), .int .i64 to, .func (.func 28) #[] #[.pointer (some ⟨w3.heap.size, 0, none⟩), .pointer (some ⟨w3.heap.size + 1, 0, none⟩)], .int .i64 (x.i : Int), x.v, undef, undef, undef, undef, undef, undef, undef, undef, undef, undef, undef, undef, undef, undef, undef, undef, undef, undef, undef, undef, undef, undef, undef, undef, undef, undef, undef, undef, undef, undef, undef, undef, undef, undef, undef, undef, undef, undef, undef, undef, undef, undef, undef, undef, undef, undef, undef, undef, undef, undef, undef, undef, undef, undef, undef, undef, undef, undef, undef, undef, undef, undef, undef, undef, undef, undef, undef], defers := [] }) ?assign ?body ?done ?stop
    case assign =>
      intro l x W C hC
      gi_wp2_with fail
      exact hC
    case body =>
      rintro ln s x X hI ⟨hxv, hxi, m, hm, hto⟩
      have hmade : s.made = true := by
        cases e : s.made with
        | true => rfl
        | false => rw [hI.un e] at hxv; cases hxv
      clear hm
      gi_wp2_with fail
      exact ⟨⟨Nat.le_refl _, fun _ _ _ h _ => h⟩, KeepT.refl _ _, rfl, hmade, hI.kp, hI.mb, hI.js, hI.jl, fun _ => rfl⟩
    case done =>
      rintro D s X hD _ hI hKd
      exact ⟨.inl rfl, D, rfl, hD, hI.kp, hKd⟩
    case stop =>
      rintro D c s X hD _ ⟨rfl, _, hI⟩ hKd
      gi_wp2_with fail
      exact hI.kp
  rintro e a' X ⟨he, D, rfl, hD, kX, hKd⟩
  have hsame : ∀ (K : Act → World → Prop) (Q' : Exit → Act → World → Prop) a w, Exit.inBlock 0 (Exit.then K Q') .normal a w → Exit.inBlock 0 (Exit.then K Q') e a w := by
    rcases he with rfl | rfl
    · exact fun _ _ _ _ h => h
    · exact fun _ _ _ _ h => h
  refine hsame _ _ _ _ ?_
  clear hsame he hseq hA0 hAT cto hK0 s7 s5
  have kX3 : Kp [] w3 X := kl.trans kX (by simp)
  have x7 := G.b7.kept kX3
  have x9 := G.b9.kept kX3
  have x5 := c5.kept kX3
  have x6 := c6.kept kX3
  have PX := G.P.keep kX3
  have hX3 := kX3.size
  obtain ⟨q10, hq10⟩ : ∃ q10, Hid (X.heap.size = q10) := ⟨_, rfl⟩
  obtain ⟨wk, hwk⟩ : ∃ wk, X.alloc (.cells #[.int .i64 0] 3) = wk := ⟨_, rfl⟩
  have kk : Kp [] X wk := by rw [← hwk]; exact (Kp.refl _ _).alloc _
  have hzk : wk.heap.size = X.heap.size + 1 := by rw [← hwk]; simp
  have bk : B1 wk X.heap.size (.int .i64 0) := by rw [← hwk]; exact B1.at _ rfl _ _
  obtain ⟨wm, hwm⟩ : ∃ wm, (wk.alloc (.cells #[.pointer (some ⟨p2, 0, none⟩)] 23)).alloc (.cells #[.int .i64 to] 3) = wm := ⟨_, rfl⟩
  have km : Kp [] wk wm := by rw [← hwm]; exact ((Kp.refl _ _).alloc _).alloc _
  have hzm : Hid (wm.heap.size = X.heap.size + 3) := by show _ = _; rw [← hwm]; simp; omega
  have d1 : wm.cell? ⟨wk.heap.size, 0, none⟩ = some (.pointer (some ⟨p2, 0, none⟩)) := by rw [← hwm]; exact cell_kp ((Kp.refl _ _).alloc _) (World.cell?_alloc_new wk _ _ 0)
  have d2 : wm.cell? ⟨wk.heap.size + 1, 0, none⟩ = some (.int .i64 to) := by
    rw [← hwm]
    have := World.cell?_alloc_new (wk.alloc (.cells #[.pointer (some ⟨p2, 0, none⟩)] 23)) #[.int .i64 to] 3 0
    rwa [World.size_alloc] at this
  rw [hzk] at d1 d2
  have kXm : Kp [] X wm := kk.trans km (by simp)
  have hAT : AtT (X.heap.size + 1) (X.heap.size + 1 + 1) p2 v2 n to wm := ⟨d1, d2, PX.D.keptNew kXm⟩
  have cto := cTo p2 to wk
  rw [hwm, hzk] at cto
  have hseq := toSeq 7 (by omega) (X.heap.size + 1) (X.heap.size + 1 + 1) p2 v2 n to wm hAT hBn (by omega)
  have s7 := x7.c0
  have s5 := x5.c0
  have hlt7 := x7.lt
  have hlt5 := x5.lt
  have hDl : D < X.heap.size := (Array.getElem?_eq_some_iff.1 hKd).1
  have hvl := PX.D.ltAll
  have hG7 := G.g7
  have hG9 := G.g9
  have h9lt := x9.lt
  have h6lt := x6.lt
  have hwWb : W.heap.size ≤ Wb.heap.size := kb.size
  have hwX : Kp [] W X := kb.trans PX.kp (by simp)
  have hDw : w3.heap.size < D := by have := hzl.out; omega
  have hB0 : RgB W [W.heap.size, W.heap.size + 1, q7, q9, X.heap.size] W.heap.size (W.heap.size + 1) q7 q9 X.heap.size wm.heap.size D p2 r n.l to 5900000000000 (sT (X.heap.size + 1) (X.heap.size + 1 + 1) p2 v2) wm := by
    have hz := hzm.out
    have hnw := PX.nw
    refine ⟨hwX.trans kXm (by simp), x5.kept kXm, x6.kept kXm, x7.kept kXm, x9.kept kXm, ⟨0, bk.kept km, Nat.le_refl _, fun i m h1 h2 => absurd h2 (Nat.not_lt_zero _)⟩, PX.R.keptNew kXm, (kXm.block D hDl (by simp)).trans hKd, ⟨v2, n, PX.D.keptNew kXm, hBn, hRn, by omega, fun k hk => ?_, .inl (fun k hk => ?_), ?_, fun hne => ?_⟩, fun h => (by cases h), fun j hj => .inl ⟨?_, rfl⟩, fun j hj => ?_, fun _ => rfl, fun u hu => (by cases hu)⟩
    · have h1 := hnw k hk
      have h2 := hvl k hk
      have h3 := G.P.D.ltAll k hk
      refine ⟨by omega, fun hm => ?_, fun hm => PX.ap k hm hk, fun h => (by cases h), by omega⟩
      simp only [List.mem_cons, List.not_mem_nil, or_false] at hm
      rcases hm with rfl | rfl | rfl | rfl | rfl
      · omega
      · have := hWb3.out; omega
      · exact G.f7 hk
      · exact G.f9 hk
      · omega
    · have := hvl k hk; omega
    · have := hvl p2 (by simp); omega
    · have h1 := hRn
      unfold RoomOk at h1
      have : 0 < n.l.length := List.length_pos_iff.2 hne
      omega
    · simp only [List.mem_cons] at hj
      rcases hj with rfl | rfl | hj
      · omega
      · omega
      · have := hvl j (by simpa using hj); omega
    · simp only [List.mem_cons] at hj
      rcases hj with rfl | rfl | hj
      · omega
      · omega
      · have := hvl j (by simpa using hj); omega
  have hPL : Hid (r.l.map RM.m = n.l) := PX.L.l
  have hr10 : X.heap.size ∉ r.foot := fun h => by have := PX.R.lt _ h; omega
  have hDm : D < wm.heap.size := by rw [hzm.out]; omega
  have hWm : W.heap.size ≤ wm.heap.size := by rw [hzm.out]; have := hwX.size; omega
  have hq10m : X.heap.size < wm.heap.size := by rw [hzm.out]; omega
  have hwk' := hid hwk
  have hwm' := hid hwm
  clear hwk hwm d1 d2 bk
  go_wp2_with fail
  rw [hwk'.out]
  refine cto.mono ?_
  rintro e w9 ⟨rfl, hw9⟩
  go_wp2_with fail
  refine (wpIn_wide (n := 8)).1 ?_
  subst hw9
  refine wpRangeX rfl (by omega) (gf := 28) (lb := #[.pointer (some ⟨X.heap.size + 1, 0, none⟩), .pointer (some ⟨X.heap.size + 1 + 1, 0, none⟩)]) rfl trivial (enters_of Try.func28 (by kernel_rfl) rfl)
    hseq (fun _ => rfl) KeepT.trans (fun s W o => KeepT.alloc s W o) (KeepT.refl _ _)
    (RgB W [W.heap.size, W.heap.size + 1, q7, q9, X.heap.size] W.heap.size (W.heap.size + 1) q7 q9 X.heap.size w9.heap.size D p2 r n.l to 5900000000000) (fun _ _ _ => False) (RgB.ownF hWm hDm) (fun _ _ _ _ _ h _ _ => h) hB0
    (fun s s' A B h ht k o hk ho => TlI.keeps h.mb ht k o hk ho) (fun _ _ _ _ h => h.elim) (RgB.step hWm hDm) (fun _ _ _ _ h => h.elim)
    (fun s W o' h => TlI.recs h.mb h.js o') (fun s x W o' h => TlI.recs (s := s) h.mb h.js o') (fun _ _ _ _ _ h => h.elim)
    (fun x => { tmps := #[.int .i64 room, .slice a l.length c, .int .i64 to, undef, undef, .pointer (some ⟨W.heap.size, 0, none⟩), .pointer (some ⟨W.heap.size + 1, 0, none⟩), .pointer (some ⟨q7, 0, none⟩), .bool true, .pointer (some ⟨q9, 0, none⟩), .pointer (some ⟨X.heap.size, 0, none⟩), .int .i64 (x.i : Int), x.v, .tuple #[.pointer (some ⟨p, 0, none⟩), .bool true], .int .i64 room, .tuple #[.pointer (some ⟨p, 0, none⟩), .bool true], .pointer (some ⟨p, 0, none⟩), .bool true, .bool true, .bool false, .tuple #[.pointer (some ⟨p2, 0, none⟩), .agg #[.int .i64 r.room, .slice r.la r.l.length r.lc], .bool true], .pointer (some ⟨p, 0, none⟩), .int .i64 room, r0.v, .slice a l.length c, .tuple #[.pointer (some ⟨p2, 0, none⟩), .agg #[.int .i64 r.room, .slice r.la r.l.length r.lc], .bool true], .pointer (some ⟨p2, 0, none⟩), .agg #[.int .i64 r.room, .slice r.la r.l.length r.lc], .bool true, .bool true, .bool false, .pointer (some ⟨p2, 0, none⟩), .int .i64 to, .func (.func 28) #[] #[.pointer (some ⟨w3.heap.size, 0, none⟩), .pointer (some ⟨w3.heap.size + 1, 0, none⟩)], undef, undef, .pointer (some ⟨p2, 0, none⟩), .int .i64 to, .func (.func 28) #[] #[.pointer (some ⟨X.heap.size + 1, 0, none⟩), .pointer (some ⟨X.heap.size + 1 + 1, 0, none⟩)], .int .i64 (x.i : Int), x.v, undef, undef, undef, undef, undef, undef, undef, undef, undef, undef, undef, undef, undef, undef, undef, undef, undef, undef, undef, undef, undef, undef, undef, undef, undef, undef, undef, undef, undef, undef, undef, undef, undef, undef, undef, undef, undef, undef, undef, undef, undef, undef, undef, undef, undef, undef, undef, undef, undef, undef, undef, undef, undef, undef, undef, undef, undef, undef, undef, undef, undef, undef], defers := [] }) ?assign ?body ?done ?stop
  case assign =>
    intro l x W C hC
    gi_wp2_with fail
    exact hC
  case stop =>
    rintro D c s X hD _ h
    exact h.elim
  case done =>
    rintro D2 s X2 hD2 ⟨hmd, hsi, hv⟩ hI hKd2
    obtain ⟨K0, hK0, hKi, hKs⟩ := hI.k
    have n5 : W.heap.size ≠ X.heap.size := by have := hwX.size; omega
    have n6 : W.heap.size + 1 ≠ X.heap.size := by omega
    have n9 : q9 ≠ X.heap.size := by omega
    have hln9 : r.l.length = n.l.length := by rw [← hPL.out]; simp
    have hln9' := hid hln9
    have hlr : r.l.length ≤ 5900000000000 := by omega
    rw [hsi, ← hln9] at hKi
    rw [hsi] at hKs
    have hno : Hid (∀ j xk, K0 ≤ j → r.l[j]? = some xk → xk.to ≠ to) := fun j xk h1 h2 => by
      have : n.l[j]? = some xk.m := by rw [← hPL.out, List.getElem?_map, h2]; rfl
      exact hKs j xk.m h1 (by have := (List.getElem?_eq_some_iff.1 h2).1; rw [hln9'.out] at this; exact this) this
    have atx : Hid (∀ j xk, r.l[j]? = some xk → ∃ g o, r.la = some ⟨g, o, none⟩ ∧ X2.cell? ⟨g, o + j * 2, none⟩ = some (.int .i64 xk.to) ∧ g ≠ X.heap.size) := fun j xk hx => by
      obtain ⟨g, o, ea, c0, c1⟩ := rmAt hI.R.see hx
      refine ⟨g, o, ea, c0, fun e => ?_⟩
      refine hr10 ?_
      rw [← e]
      have hne : r.l ≠ [] := fun e => by rw [e] at hx; cases hx
      simp only [RN.foot, List.mem_append]
      exact .inl (by unfold RN.ff; rw [if_neg hne, ea]; simp [blk])
    have hIh := hid hI
    have r9 := hI.b9.c1
    have r10 := hK0.c0
    clear hI hKs hln9
    go_wp2_with fail
    go_loopw [88] (fun _ wn => ∃ K : Nat, K0 ≤ K ∧ K ≤ r.l.length ∧ B1 wn X.heap.size (.int .i64 (K : Int)) ∧ Kp [X.heap.size] X2 wn ∧ KeepsOthers X2 wn) (fun _ wn => r.l.length - (intOf ((wn.cell? ⟨X.heap.size, 0, none⟩).getD undef)).toNat)
    case atStart => exact ⟨K0, Nat.le_refl _, hKi, hK0, Kp.refl _ _, KeepsOthers.refl _⟩
    case round =>
      clear r9 r10
      obtain ⟨K, hK1, hKl, bK, kn, kon⟩ := hrel
      have f5 := (hIh.out.b5.keptS kn (by simpa using n5)).c0
      have f9 := (hIh.out.b9.keptS kn (by simpa using n9)).c1
      have fk := bK.c0
      by_cases hlt : K < r.l.length
      · obtain ⟨xk, hxk⟩ : ∃ xk, r.l[K]? = some xk := ⟨r.l[K], by simp [hlt]⟩
        have hne := hno.out K xk hK1 hxk
        obtain ⟨g, o, ela, v0, hgX⟩ := atx.out K xk hxk
        rw [ela] at f9
        have v1 := (kn.cell (p := ⟨g, o + K * 2, none⟩) (World.block_lt_of_cell? _ _ v0) (by simpa using hgX)).trans v0
        have t2 : (xk.to == to) = false := by simpa using hne
        have hK9 : K ≤ 5900000000000 := by omega
        have hlt' : (K : Int) < (r.l.length : Int) := by omega
        clear v0 hxk hne ela
        go_wp2_with fail
        have hold' := hid fk
        go_quiet ((fail))
        have bKd : B1 (wr.drewN nq) X.heap.size (.int .i64 (K : Int)) := bK.kept ((Kp.refl [] wr).drewN nq)
        have knd : Kp [X.heap.size] X2 (wr.drewN nq) := kn.trans ((Kp.refl [] wr).drewN nq) (by simp)
        have kond : KeepsOthers X2 (wr.drewN nq) := ⟨kon.size, kon.same⟩
        generalize wr.drewN nq = wd at *
        have s0 := bKd.c0
        have s1 := bKd.free
        have bN := bKd.set (.int .i64 ((K : Int) + 1))
        have kN : Kp [X.heap.size] X2 (wd.setCell ⟨X.heap.size, 0, none⟩ (.int .i64 ((K : Int) + 1))) := knd.setCell (p := ⟨X.heap.size, 0, none⟩) (by simp) _
        have koN : KeepsOthers X2 (wd.setCell ⟨X.heap.size, 0, none⟩ (.int .i64 ((K : Int) + 1))) := kond.trans (KeepsOthers.setCell _ _ _)
        have hbN := hid bN
        have hnewc' := hid bN.c0
        clear bN f5 f9 fk v1
        go_wp2_with fail
        refine ⟨⟨K + 1, by omega, by omega, by simpa using hbN.out, kN, koN⟩, ?_⟩
        rw [hnewc'.out, hold'.out]
        simp [intOf]
        omega
      · have eK : K = r.l.length := by omega
        rw [eK] at fk
        have hnl : ¬ ((r.l.length : Int) < (r.l.length : Int)) := by omega
        have b6 := hIh.out.b6.keptS kn (by simpa using n6)
        have s0 := b6.c0
        have s1 := b6.free
        obtain ⟨Z, hZ⟩ : ∃ Z, wr.setCell ⟨W.heap.size + 1, 0, none⟩ (.bool true) = Z := ⟨_, rfl⟩
        have bz : B1 Z (W.heap.size + 1) (.bool true) := by rw [← hZ]; exact b6.set _
        have koz : KeepsOthers X2 Z := by rw [← hZ]; exact kon.trans (KeepsOthers.setCell _ _ _)
        have kZ : Kp [] W Z := by rw [← hZ]; exact (hIh.out.kp.trans kn (fun k hk => .inr (by simp at hk; have := hwX.size; omega))).setCell (p := ⟨W.heap.size + 1, 0, none⟩) (.inr (by simp)) _
        have hK2 : Z.heap[D2]? = some (.deferred (some [])) := koz.same D2 _ hKd2 rfl
        have hK1' : Z.heap[D]? = some (.deferred (some [])) := koz.same D _ hIh.out.dd rfl
        have hDD : D ≠ D2 := by omega
        have ht1 : TurnT D2 Z (Z.putObj D2 (.deferred none)) := TurnT.ofGrown (grownBy_putObj' Z D2 (.deferred none)) (fun r e => by cases e; exact ⟨Nat.le_refl _, _, hK2, rfl⟩)
        have hK3 : (Z.putObj D2 (.deferred none)).heap[D]? = some (.deferred (some [])) := (World.putObj_heap_other hDD).trans hK1'
        have ht2 : TurnT D (Z.putObj D2 (.deferred none)) ((Z.putObj D2 (.deferred none)).putObj D (.deferred none)) := TurnT.ofGrown (grownBy_putObj' _ D (.deferred none)) (fun r e => by cases e; exact ⟨Nat.le_refl _, _, hK3, rfl⟩)
        have hres := (bz.ck ht1.ck).ck ht2.ck
        have kF : Kp [] W ((Z.putObj D2 (.deferred none)).putObj D (.deferred none)) := Kp.turn (Kp.turn kZ ht1 (by omega)) ht2 (by have h1 := kw3.size; have h2 := kb.size; omega)
        have hZ' := hid hZ
        clear hZ bz
        go_wp2_with fail
        rw [hZ'.out]
        refine ⟨by simp, .inl ⟨_, _, rfl, run_takeDeferred hK2, ?_⟩⟩
        refine ⟨by simp, .inl ⟨_, _, rfl, run_takeDeferred hK3, ?_⟩⟩
        exact ⟨_, results_cell_one rfl rfl hres.c0, rfl, kF.below⟩
  case body =>
    rintro ln s x Y hI ⟨hxv, hxi, m, hm, hto⟩
    have hmade : s.made = true := by
      cases e : s.made with
      | true => rfl
      | false => rw [hI.un e] at hxv; cases hxv
    obtain ⟨m', hm', _, hrow, hnew⟩ := hI.gv x.v hxv
    rw [hm] at hm'
    cases hm'
    obtain ⟨i, u⟩ := x
    simp only at hxv hxi hrow hnew
    subst hxi
    obtain ⟨ya, yc, rfl, hsy, _⟩ := hrow.sees
    obtain ⟨K0, hK0, hKi, hKs⟩ := hI.k
    have at1 : Hid (∀ j mj, n.l[j]? = some mj → ∃ xr g o, xr ∈ r.l ∧ xr.to = mj.to ∧ xr.bs = mj.body ∧ r.la = some ⟨g, o, none⟩ ∧ Y.cell? ⟨g, o + j * 2, none⟩ = some (.int .i64 xr.to) ∧ Y.cell? ⟨g, o + j * 2 + 1, none⟩ = some (.slice xr.a xr.bs.length xr.c) ∧ Sees Y xr.a xr.bs ∧ g ≠ X.heap.size ∧ j < r.l.length) := fun j mj hj => by
      rw [← hPL.out, List.getElem?_map] at hj
      cases hx : r.l[j]? with
      | none => rw [hx] at hj; cases hj
      | some y =>
        rw [hx] at hj
        have ey : y.m = mj := by simpa using hj
        obtain ⟨g, o, ea, c0, c1⟩ := rmAt hI.R.see hx
        refine ⟨y, g, o, List.mem_of_getElem? hx, by rw [← ey]; rfl, by rw [← ey]; rfl, ea, c0, c1, hI.R.raw y (List.mem_of_getElem? hx), fun e => ?_, (List.getElem?_eq_some_iff.1 hx).1⟩
        refine hr10 ?_
        rw [← e]
        have hne : r.l ≠ [] := fun e => by rw [e] at hx; cases hx
        simp only [RN.foot, List.mem_append]
        exact .inl (by unfold RN.ff; rw [if_neg hne, ea]; simp [blk])
    obtain ⟨xr, g, o, hxr, ext, exb, ela, e0, e1, hraw, hgX, hil⟩ := at1.out s.i m hm
    have hIh := hid hI
    have hIb5 := hI.b5
    have hIb9 := hI.b9
    have n5 : W.heap.size ≠ X.heap.size := by have := hwX.size; omega
    have n7 : q7 ≠ X.heap.size := by omega
    have n9 : q9 ≠ X.heap.size := by omega
    have n6 : W.heap.size + 1 ≠ X.heap.size := by omega
    have hmh := hid hm
    have htoh := hid hto
    have hsm : m.body.length ≤ 140737488355328 := hBn m (List.mem_of_getElem? hm)
    have hilen : r.l.length ≤ 5900000000000 := by have := congrArg List.length hPL.out; simp at this; omega
    have hrowh := hid hrow
    have hsyh := hid hsy
    have hrawh := hid hraw
    have elah := hid ela
    have hKsh := hid hKs
    have fin0 : Hid (∀ wn, Kp [X.heap.size] Y wn → B1 wn W.heap.size (.int .i64 to) ∧ B2 wn q9 (.int .i64 r.room) (.slice r.la r.l.length r.lc)) := fun wn kn => ⟨hIh.out.b5.keptS kn (by simpa using n5), hIh.out.b9.keptS kn (by simpa using n9)⟩
    clear hm hto hxr hrow hsy hraw ela e0 e1 hKs hxv hI hIb5 hIb9
    gi_wp2_with fail
    gi_loopw [41] (fun _ wn => ∃ K : Nat, K ≤ s.i ∧ (∀ i m, K ≤ i → i < s.i → n.l[i]? = some m → m.to ≠ to) ∧ B1 wn X.heap.size (.int .i64 (K : Int)) ∧ Kp [X.heap.size] Y wn ∧ KeepsOthers Y wn) (fun _ wn => s.i - (intOf ((wn.cell? ⟨X.heap.size, 0, none⟩).getD undef)).toNat)
    case atStart => exact ⟨K0, hKi, hKsh.out, hK0, Kp.refl _ _, KeepsOthers.refl _⟩
    case round =>
      obtain ⟨K, hKl, hKn, bK, kn, kon⟩ := hrel
      obtain ⟨f5, f9⟩ := fin0.out wr kn
      have hkd : Kp [] wr wr.drew := (Kp.refl _ _).drew
      by_cases hlt : K < s.i
      · have hKln : K < n.l.length := by have := congrArg List.length hPL.out; simp at this; omega
        obtain ⟨xk, gk, ok, _, et, _, elk, v0, _, _, hgk, hkl⟩ := at1.out K n.l[K] (by simp [hKln])
        have hne : xk.to ≠ to := by rw [et]; exact hKn K _ (Nat.le_refl _) hlt (by simp [hKln])
        have q9c := f9.c1
        rw [elk] at q9c
        have hS0 : wr.drew.cell? ⟨X.heap.size, 0, none⟩ = some (.int .i64 (K : Int)) ∧ wr.drew.cell? ⟨q9, 1, none⟩ = some (.slice (some ⟨gk, ok, none⟩) r.l.length r.lc) ∧ wr.drew.cell? ⟨gk, ok + K * 2, none⟩ = some (.int .i64 xk.to) ∧ wr.drew.cell? ⟨W.heap.size, 0, none⟩ = some (.int .i64 to) := ⟨bK.c0, q9c, (kn.cell (p := ⟨gk, ok + K * 2, none⟩) (World.block_lt_of_cell? _ _ v0) (by simpa using hgk)).trans v0, f5.c0⟩
        have t1 : decide (K < r.l.length) = true := by simpa using hkl
        have t2 : (xk.to == to) = false := by simpa using hne
        have t3 : (xk.to != to) = true := by simpa using hne
        have hK9 : K ≤ 5900000000000 := by omega
        have bKd := bK.kept hkd
        have knd : Kp [X.heap.size] Y wr.drew := kn.trans hkd (by simp)
        have kond : KeepsOthers Y wr.drew := kon.trans (KeepsOthers.drew wr)
        have hold : wr.cell? ⟨X.heap.size, 0, none⟩ = some (.int .i64 (K : Int)) := bK.c0
        have hold' := hid hold
        clear hold v0 q9c hne
        gi_wp2_with fail
        refine region_round (fun A => A.cell? ⟨X.heap.size, 0, none⟩ = some (.int .i64 (K : Int)) ∧ A.cell? ⟨q9, 1, none⟩ = some (.slice (some ⟨gk, ok, none⟩) r.l.length r.lc) ∧ A.cell? ⟨gk, ok + K * 2, none⟩ = some (.int .i64 xk.to) ∧ A.cell? ⟨W.heap.size, 0, none⟩ = some (.int .i64 to)) (by kernel_rfl) (by kernel_rfl) (by rintro ⟨_, _, hlo⟩; exact hlo) ?_ (fun hHeld => ?_)
        · exact hS0
        generalize wr.drew = wd at *
        refine wpAnyH_take (i := 0) (v := ?_) rfl (by kernel_rfl) (by kernel_rfl) (by kernel_rfl) (fun _ _ _ h => h) (Or.inl ⟨by rfl, ?_⟩) (by assumption) ?_
        rotate_left
        · intro w hSw; (try dsimp only at hSw); go_simp <;> with_reducible rfl
        try simp only [Act.put, List.getElem_toArray, List.getElem_cons_zero, List.getElem_cons_succ, List.setIfInBounds_toArray, List.set_cons_zero, List.set_cons_succ]
        refine wpAnyH_take (i := 1) (v := ?_) rfl (by kernel_rfl) (by kernel_rfl) (by kernel_rfl) (fun _ _ _ h => h) (Or.inl ⟨by rfl, ?_⟩) (by assumption) ?_
        rotate_left
        · intro w hSw; (try dsimp only at hSw); go_simp <;> with_reducible rfl
        try simp only [Act.put, List.getElem_toArray, List.getElem_cons_zero, List.getElem_cons_succ, List.setIfInBounds_toArray, List.set_cons_zero, List.set_cons_succ]
        refine wpAnyH_take (i := 2) (v := ?_) rfl (by kernel_rfl) (by kernel_rfl) (by kernel_rfl) (fun _ _ _ h => h) (Or.inl ⟨by rfl, ?_⟩) (by assumption) ?_
        rotate_left
        · intro w hSw; (try dsimp only at hSw); go_simp <;> with_reducible rfl
        try simp only [Act.put, List.getElem_toArray, List.getElem_cons_zero, List.getElem_cons_succ, List.setIfInBounds_toArray, List.set_cons_zero, List.set_cons_succ]
        refine wpAnyH_take (i := 3) (v := ?_) rfl (by kernel_rfl) (by kernel_rfl) (by kernel_rfl) (fun _ _ _ h => h) (Or.inl ⟨by rfl, ?_⟩) (by assumption) ?_
        rotate_left
        · intro w hSw; (try dsimp only at hSw); go_simp <;> with_reducible rfl
        try simp only [Act.put, List.getElem_toArray, List.getElem_cons_zero, List.getElem_cons_succ, List.setIfInBounds_toArray, List.set_cons_zero, List.set_cons_succ]
        refine wpAnyH_take (i := 4) (v := ?_) rfl (by kernel_rfl) (by kernel_rfl) (by kernel_rfl) (fun _ _ _ h => h) (Or.inl ⟨by rfl, ?_⟩) (by assumption) ?_
        rotate_left
        · intro w hSw; (try dsimp only at hSw); go_simp <;> with_reducible rfl
        try simp only [Act.put, List.getElem_toArray, List.getElem_cons_zero, List.getElem_cons_succ, List.setIfInBounds_toArray, List.set_cons_zero, List.set_cons_succ]
        refine wpAnyH_take (i := 5) (v := ?_) rfl (by kernel_rfl) (by kernel_rfl) (by kernel_rfl) (fun _ _ _ h => h) (Or.inl ⟨by rfl, ?_⟩) (by assumption) ?_
        rotate_left
        · intro w hSw; (try dsimp only at hSw); go_simp <;> with_reducible rfl
        try simp only [Act.put, List.getElem_toArray, List.getElem_cons_zero, List.getElem_cons_succ, List.setIfInBounds_toArray, List.set_cons_zero, List.set_cons_succ]
        refine wpAnyH_take (i := 6) (v := ?_) rfl (by kernel_rfl) (by kernel_rfl) (by kernel_rfl) (fun _ _ _ h => h) (Or.inl ⟨by rfl, ?_⟩) (by assumption) ?_
        rotate_left
        · intro w hSw; (try dsimp only at hSw); go_simp <;> with_reducible rfl
        try simp only [Act.put, List.getElem_toArray, List.getElem_cons_zero, List.getElem_cons_succ, List.setIfInBounds_toArray, List.set_cons_zero, List.set_cons_succ]
        refine wpAnyH_take (i := 7) (v := ?_) rfl (by kernel_rfl) (by kernel_rfl) (by kernel_rfl) (fun _ _ _ h => h) (Or.inl ⟨by rfl, ?_⟩) (by assumption) ?_
        rotate_left
        · intro w hSw; (try dsimp only at hSw); go_simp <;> with_reducible rfl
        try simp only [Act.put, List.getElem_toArray, List.getElem_cons_zero, List.getElem_cons_succ, List.setIfInBounds_toArray, List.set_cons_zero, List.set_cons_succ]
        refine wpAnyH_take (i := 8) (v := ?_) rfl (by kernel_rfl) (by kernel_rfl) (by kernel_rfl) (fun _ _ _ h => h) (Or.inl ⟨by rfl, ?_⟩) (by assumption) ?_
        rotate_left
        · intro w hSw; (try dsimp only at hSw); go_simp <;> with_reducible rfl
        try simp only [Act.put, List.getElem_toArray, List.getElem_cons_zero, List.getElem_cons_succ, List.setIfInBounds_toArray, List.set_cons_zero, List.set_cons_succ]
        refine wpAnyH_take (i := 9) (v := ?_) rfl (by kernel_rfl) (by kernel_rfl) (by kernel_rfl) (fun _ _ _ h => h) (Or.inl ⟨by rfl, ?_⟩) (by assumption) ?_
        rotate_left
        · intro w hSw; (try dsimp only at hSw); go_simp <;> with_reducible rfl
        try simp only [Act.put, List.getElem_toArray, List.getElem_cons_zero, List.getElem_cons_succ, List.setIfInBounds_toArray, List.set_cons_zero, List.set_cons_succ]
        refine wpAnyH_take (i := 10) (v := ?_) rfl (by kernel_rfl) (by kernel_rfl) (by kernel_rfl) (fun _ _ _ h => h) (Or.inl ⟨by rfl, ?_⟩) (by assumption) ?_
        rotate_left
        · intro w hSw; (try dsimp only at hSw); go_simp <;> with_reducible rfl
        try simp only [Act.put, List.getElem_toArray, List.getElem_cons_zero, List.getElem_cons_succ, List.setIfInBounds_toArray, List.set_cons_zero, List.set_cons_succ]
        refine wpAnyH_take (i := 11) (v := ?_) rfl (by kernel_rfl) (by kernel_rfl) (by kernel_rfl) (fun _ _ _ h => h) (Or.inl ⟨by rfl, ?_⟩) (by assumption) ?_
        rotate_left
        · intro w hSw; (try dsimp only at hSw); go_simp <;> with_reducible rfl
        try simp only [Act.put, List.getElem_toArray, List.getElem_cons_zero, List.getElem_cons_succ, List.setIfInBounds_toArray, List.set_cons_zero, List.set_cons_succ]
        refine wpAnyH_take (i := 12) (v := ?_) rfl (by kernel_rfl) (by kernel_rfl) (by kernel_rfl) (fun _ _ _ h => h) (Or.inl ⟨by rfl, ?_⟩) (by assumption) ?_
        rotate_left
        · intro w hSw; (try dsimp only at hSw); go_simp <;> with_reducible rfl
        try simp only [Act.put, List.getElem_toArray, List.getElem_cons_zero, List.getElem_cons_succ, List.setIfInBounds_toArray, List.set_cons_zero, List.set_cons_succ]
        refine wpAnyH_take (i := 13) (v := ?_) rfl (by kernel_rfl) (by kernel_rfl) (by kernel_rfl) (fun _ _ _ h => h) (Or.inl ⟨by rfl, ?_⟩) (by assumption) ?_
        rotate_left
        · intro w hSw; (try dsimp only at hSw); go_simp <;> with_reducible rfl
        try simp only [Act.put, List.getElem_toArray, List.getElem_cons_zero, List.getElem_cons_succ, List.setIfInBounds_toArray, List.set_cons_zero, List.set_cons_succ]
        refine wpAnyH_take (i := 14) (v := ?_) rfl (by kernel_rfl) (by kernel_rfl) (by kernel_rfl) (fun _ _ _ h => h) (Or.inl ⟨by rfl, ?_⟩) (by assumption) ?_
        rotate_left
        · intro w hSw; (try dsimp only at hSw); go_simp <;> with_reducible rfl
        try simp only [Act.put, List.getElem_toArray, List.getElem_cons_zero, List.getElem_cons_succ, List.setIfInBounds_toArray, List.set_cons_zero, List.set_cons_succ]
        refine wpAnyH_done (by kernel_rfl) ?_ _
        have s0 := bKd.c0
        have s1 := bKd.free
        have bN := bKd.set (.int .i64 ((K : Int) + 1))
        have kN : Kp [X.heap.size] Y (wd.setCell ⟨X.heap.size, 0, none⟩ (.int .i64 ((K : Int) + 1))) := knd.setCell (p := ⟨X.heap.size, 0, none⟩) (by simp) _
        have koN : KeepsOthers Y (wd.setCell ⟨X.heap.size, 0, none⟩ (.int .i64 ((K : Int) + 1))) := kond.trans (KeepsOthers.setCell _ _ _)
        have hnewc := bN.c0
        have hbN := hid bN
        have hnewc' := hid hnewc
        clear bN hnewc hHeld hS0
        gi_wp2_with fail
        go_roundw
        case rel => exact ⟨K + 1, by omega, fun i m h1 => hKn i m (by omega), by simpa using hbN.out, kN, koN⟩
        case measure => rw [hnewc'.out, hold'.out]; simp [intOf]; omega
      · have eK : K = s.i := by omega
        rw [eK] at bK
        clear eK hlt hKl hKn
        obtain ⟨xr, g, o, hxm0, ext, exb, elk, v0, v1, hraw, hgk, hkl⟩ := at1.out s.i m hmh.out
        have exb' := hid exb
        have q9c := f9.c1
        rw [elk] at q9c
        have w0 := (kn.cell (p := ⟨g, o + s.i * 2, none⟩) (World.block_lt_of_cell? _ _ v0) (by simpa using hgk)).trans v0
        have w1' := (kn.cell (p := ⟨g, o + s.i * 2 + 1, none⟩) (World.block_lt_of_cell? _ _ v1) (by simpa using hgk)).trans v1
        have hS0 : wr.drew.cell? ⟨X.heap.size, 0, none⟩ = some (.int .i64 (s.i : Int)) ∧ wr.drew.cell? ⟨q9, 1, none⟩ = some (.slice (some ⟨g, o, none⟩) r.l.length r.lc) ∧ wr.drew.cell? ⟨g, o + s.i * 2, none⟩ = some (.int .i64 xr.to) ∧ wr.drew.cell? ⟨W.heap.size, 0, none⟩ = some (.int .i64 to) := ⟨bK.c0, q9c, w0, f5.c0⟩
        have ett : xr.to = to := ext.trans htoh.out
        have t1 : decide (s.i < r.l.length) = true := by simpa using hkl
        have t1' : decide (r.l.length ≤ s.i) = false := by simp; omega
        have t2 : (xr.to == to) = true := by simpa using ett
        have t3 : (xr.to != to) = false := by simpa using ett
        have hyS : Sees wr.drew ya xr.bs := by
          rw [exb]
          have hq : ∀ k ∈ blk ya, k ∉ [X.heap.size] := fun k hk hm => by
            have h1 := (hnew k (by rw [own_slice]; exact hk)).1
            simp at hm
            omega
          exact (hsyh.out.kept kn hq).kept hkd (by simp)
        have hrS : Sees wr.drew xr.a xr.bs := by
          have hq : xr.bs ≠ [] → ∀ k ∈ blk xr.a, k ∉ [X.heap.size] := fun hne k hk hm => by
            simp at hm
            refine hr10 ?_
            rw [← hm]
            have hxm : xr ∈ r.l := hxm0
            simp only [RN.foot, List.mem_append, List.mem_flatMap]
            exact .inr ⟨xr, hxm, by unfold RM.ft; rw [if_neg hne]; exact hk⟩
          exact (hraw.kept' kn hq).kept' hkd (by simp)
        have bKd := bK.kept hkd
        have knd : Kp [X.heap.size] Y wr.drew := kn.trans hkd (by simp)
        have kond : KeepsOthers Y wr.drew := kon.trans (KeepsOthers.drew wr)
        have f5d := f5.kept hkd
        have w1d : wr.drew.cell? ⟨g, o + s.i * 2 + 1, none⟩ = some (.slice xr.a xr.bs.length xr.c) := w1'
        have hi9 : s.i ≤ 5900000000000 := by omega
        rw [← exb]
        clear v0 v1 q9c w0 w1' bK kn kon f5 f9 ext exb hraw
        gi_wp2_with fail
        refine region_round (fun A => A.cell? ⟨X.heap.size, 0, none⟩ = some (.int .i64 (s.i : Int)) ∧ A.cell? ⟨q9, 1, none⟩ = some (.slice (some ⟨g, o, none⟩) r.l.length r.lc) ∧ A.cell? ⟨g, o + s.i * 2, none⟩ = some (.int .i64 xr.to) ∧ A.cell? ⟨W.heap.size, 0, none⟩ = some (.int .i64 to)) (by kernel_rfl) (by kernel_rfl) (by rintro ⟨_, _, hlo⟩; exact hlo) ?_ (fun hHeld => ?_)
        · exact hS0
        generalize wr.drew = wd at *
        refine wpAnyH_take (i := 0) (v := ?_) rfl (by kernel_rfl) (by kernel_rfl) (by kernel_rfl) (fun _ _ _ h => h) (Or.inl ⟨by rfl, ?_⟩) (by assumption) ?_
        rotate_left
        · intro w hSw; (try dsimp only at hSw); go_simp <;> with_reducible rfl
        try simp only [Act.put, List.getElem_toArray, List.getElem_cons_zero, List.getElem_cons_succ, List.setIfInBounds_toArray, List.set_cons_zero, List.set_cons_succ]
        refine wpAnyH_take (i := 1) (v := ?_) rfl (by kernel_rfl) (by kernel_rfl) (by kernel_rfl) (fun _ _ _ h => h) (Or.inl ⟨by rfl, ?_⟩) (by assumption) ?_
        rotate_left
        · intro w hSw; (try dsimp only at hSw); go_simp <;> with_reducible rfl
        try simp only [Act.put, List.getElem_toArray, List.getElem_cons_zero, List.getElem_cons_succ, List.setIfInBounds_toArray, List.set_cons_zero, List.set_cons_succ]
        refine wpAnyH_take (i := 2) (v := ?_) rfl (by kernel_rfl) (by kernel_rfl) (by kernel_rfl) (fun _ _ _ h => h) (Or.inl ⟨by rfl, ?_⟩) (by assumption) ?_
        rotate_left
        · intro w hSw; (try dsimp only at hSw); go_simp <;> with_reducible rfl
        try simp only [Act.put, List.getElem_toArray, List.getElem_cons_zero, List.getElem_cons_succ, List.setIfInBounds_toArray, List.set_cons_zero, List.set_cons_succ]
        refine wpAnyH_take (i := 3) (v := ?_) rfl (by kernel_rfl) (by kernel_rfl) (by kernel_rfl) (fun _ _ _ h => h) (Or.inl ⟨by rfl, ?_⟩) (by assumption) ?_
        rotate_left
        · intro w hSw; (try dsimp only at hSw); go_simp <;> with_reducible rfl
        try simp only [Act.put, List.getElem_toArray, List.getElem_cons_zero, List.getElem_cons_succ, List.setIfInBounds_toArray, List.set_cons_zero, List.set_cons_succ]
        refine wpAnyH_take (i := 4) (v := ?_) rfl (by kernel_rfl) (by kernel_rfl) (by kernel_rfl) (fun _ _ _ h => h) (Or.inl ⟨by rfl, ?_⟩) (by assumption) ?_
        rotate_left
        · intro w hSw; (try dsimp only at hSw); go_simp <;> with_reducible rfl
        try simp only [Act.put, List.getElem_toArray, List.getElem_cons_zero, List.getElem_cons_succ, List.setIfInBounds_toArray, List.set_cons_zero, List.set_cons_succ]
        refine wpAnyH_take (i := 5) (v := ?_) rfl (by kernel_rfl) (by kernel_rfl) (by kernel_rfl) (fun _ _ _ h => h) (Or.inl ⟨by rfl, ?_⟩) (by assumption) ?_
        rotate_left
        · intro w hSw; (try dsimp only at hSw); go_simp <;> with_reducible rfl
        try simp only [Act.put, List.getElem_toArray, List.getElem_cons_zero, List.getElem_cons_succ, List.setIfInBounds_toArray, List.set_cons_zero, List.set_cons_succ]
        refine wpAnyH_take (i := 6) (v := ?_) rfl (by kernel_rfl) (by kernel_rfl) (by kernel_rfl) (fun _ _ _ h => h) (Or.inl ⟨by rfl, ?_⟩) (by assumption) ?_
        rotate_left
        · intro w hSw; (try dsimp only at hSw); go_simp <;> with_reducible rfl
        try simp only [Act.put, List.getElem_toArray, List.getElem_cons_zero, List.getElem_cons_succ, List.setIfInBounds_toArray, List.set_cons_zero, List.set_cons_succ]
        refine wpAnyH_take (i := 7) (v := ?_) rfl (by kernel_rfl) (by kernel_rfl) (by kernel_rfl) (fun _ _ _ h => h) (Or.inl ⟨by rfl, ?_⟩) (by assumption) ?_
        rotate_left
        · intro w hSw; (try dsimp only at hSw); go_simp <;> with_reducible rfl
        try simp only [Act.put, List.getElem_toArray, List.getElem_cons_zero, List.getElem_cons_succ, List.setIfInBounds_toArray, List.set_cons_zero, List.set_cons_succ]
        refine wpAnyH_take (i := 8) (v := ?_) rfl (by kernel_rfl) (by kernel_rfl) (by kernel_rfl) (fun _ _ _ h => h) (Or.inl ⟨by rfl, ?_⟩) (by assumption) ?_
        rotate_left
        · intro w hSw; (try dsimp only at hSw); go_simp <;> with_reducible rfl
        try simp only [Act.put, List.getElem_toArray, List.getElem_cons_zero, List.getElem_cons_succ, List.setIfInBounds_toArray, List.set_cons_zero, List.set_cons_succ]
        refine wpAnyH_take (i := 9) (v := ?_) rfl (by kernel_rfl) (by kernel_rfl) (by kernel_rfl) (fun _ _ _ h => h) (Or.inl ⟨by rfl, ?_⟩) (by assumption) ?_
        rotate_left
        · intro w hSw; (try dsimp only at hSw); go_simp <;> with_reducible rfl
        try simp only [Act.put, List.getElem_toArray, List.getElem_cons_zero, List.getElem_cons_succ, List.setIfInBounds_toArray, List.set_cons_zero, List.set_cons_succ]
        refine wpAnyH_take (i := 10) (v := ?_) rfl (by kernel_rfl) (by kernel_rfl) (by kernel_rfl) (fun _ _ _ h => h) (Or.inl ⟨by rfl, ?_⟩) (by assumption) ?_
        rotate_left
        · intro w hSw; (try dsimp only at hSw); go_simp <;> with_reducible rfl
        try simp only [Act.put, List.getElem_toArray, List.getElem_cons_zero, List.getElem_cons_succ, List.setIfInBounds_toArray, List.set_cons_zero, List.set_cons_succ]
        refine wpAnyH_take (i := 11) (v := ?_) rfl (by kernel_rfl) (by kernel_rfl) (by kernel_rfl) (fun _ _ _ h => h) (Or.inl ⟨by rfl, ?_⟩) (by assumption) ?_
        rotate_left
        · intro w hSw; (try dsimp only at hSw); go_simp <;> with_reducible rfl
        try simp only [Act.put, List.getElem_toArray, List.getElem_cons_zero, List.getElem_cons_succ, List.setIfInBounds_toArray, List.set_cons_zero, List.set_cons_succ]
        refine wpAnyH_take (i := 12) (v := ?_) rfl (by kernel_rfl) (by kernel_rfl) (by kernel_rfl) (fun _ _ _ h => h) (Or.inl ⟨by rfl, ?_⟩) (by assumption) ?_
        rotate_left
        · intro w hSw; (try dsimp only at hSw); go_simp <;> with_reducible rfl
        try simp only [Act.put, List.getElem_toArray, List.getElem_cons_zero, List.getElem_cons_succ, List.setIfInBounds_toArray, List.set_cons_zero, List.set_cons_succ]
        refine wpAnyH_take (i := 13) (v := ?_) rfl (by kernel_rfl) (by kernel_rfl) (by kernel_rfl) (fun _ _ _ h => h) (Or.inl ⟨by rfl, ?_⟩) (by assumption) ?_
        rotate_left
        · intro w hSw; (try dsimp only at hSw); go_simp <;> with_reducible rfl
        try simp only [Act.put, List.getElem_toArray, List.getElem_cons_zero, List.getElem_cons_succ, List.setIfInBounds_toArray, List.set_cons_zero, List.set_cons_succ]
        refine wpAnyH_take (i := 14) (v := ?_) rfl (by kernel_rfl) (by kernel_rfl) (by kernel_rfl) (fun _ _ _ h => h) (Or.inl ⟨by rfl, ?_⟩) (by assumption) ?_
        rotate_left
        · intro w hSw; (try dsimp only at hSw); go_simp <;> with_reducible rfl
        try simp only [Act.put, List.getElem_toArray, List.getElem_cons_zero, List.getElem_cons_succ, List.setIfInBounds_toArray, List.set_cons_zero, List.set_cons_succ]
        refine wpAnyH_done (by kernel_rfl) ?_ _
        have hq9d := hHeld.2.1
        have hS1 : wd.drew.cell? ⟨X.heap.size, 0, none⟩ = some (.int .i64 (s.i : Int)) ∧ wd.drew.cell? ⟨q9, 1, none⟩ = some (.slice (some ⟨g, o, none⟩) r.l.length r.lc) ∧ wd.drew.cell? ⟨g, o + s.i * 2 + 1, none⟩ = some (.slice xr.a xr.bs.length xr.c) ∧ (convert 37 9 (.slice ya xr.bs.length yc)).run Try.prog wd.drew = .ok (.string ⟨xr.bs.toArray⟩) wd.drew ∧ (convert 37 9 (.slice xr.a xr.bs.length xr.c)).run Try.prog wd.drew = .ok (.string ⟨xr.bs.toArray⟩) wd.drew := ⟨bKd.c0, hq9d, w1d, convSees (show Sees wd.drew ya xr.bs from hyS) yc, convSees (show Sees wd.drew xr.a xr.bs from hrS) xr.c⟩
        have bK2 := bKd.kept (w' := wd.drew) (Kp.refl _ _).drew
        have kn2 : Kp [X.heap.size] Y wd.drew := knd.trans (Kp.refl [] wd).drew (by simp)
        have ko2 : KeepsOthers Y wd.drew := kond.trans (KeepsOthers.drew wd)
        clear hHeld hS0 hq9d bKd knd kond w1d hyS hrS f5d
        gi_wp2_with fail
        refine region_round (fun A => A.cell? ⟨X.heap.size, 0, none⟩ = some (.int .i64 (s.i : Int)) ∧ A.cell? ⟨q9, 1, none⟩ = some (.slice (some ⟨g, o, none⟩) r.l.length r.lc) ∧ A.cell? ⟨g, o + s.i * 2 + 1, none⟩ = some (.slice xr.a xr.bs.length xr.c) ∧ (convert 37 9 (.slice ya xr.bs.length yc)).run Try.prog A = .ok (.string ⟨xr.bs.toArray⟩) A ∧ (convert 37 9 (.slice xr.a xr.bs.length xr.c)).run Try.prog A = .ok (.string ⟨xr.bs.toArray⟩) A) (by kernel_rfl) (by kernel_rfl) (by rintro ⟨_, _, hlo⟩; exact hlo) ?_ (fun hHeld => ?_)
        · exact hS1
        generalize wd.drew = we at *
        refine wpAnyH_take (i := 0) (v := ?_) rfl (by kernel_rfl) (by kernel_rfl) (by kernel_rfl) (fun _ _ _ h => h) (Or.inl ⟨by rfl, ?_⟩) (by assumption) ?_
        rotate_left
        · intro w hSw; (try dsimp only at hSw); go_simp <;> with_reducible rfl
        try simp only [Act.put, List.getElem_toArray, List.getElem_cons_zero, List.getElem_cons_succ, List.setIfInBounds_toArray, List.set_cons_zero, List.set_cons_succ]
        refine wpAnyH_take (i := 1) (v := ?_) rfl (by kernel_rfl) (by kernel_rfl) (by kernel_rfl) (fun _ _ _ h => h) (Or.inl ⟨by rfl, ?_⟩) (by assumption) ?_
        rotate_left
        · intro w hSw; (try dsimp only at hSw); go_simp <;> with_reducible rfl
        try simp only [Act.put, List.getElem_toArray, List.getElem_cons_zero, List.getElem_cons_succ, List.setIfInBounds_toArray, List.set_cons_zero, List.set_cons_succ]
        refine wpAnyH_take (i := 2) (v := ?_) rfl (by kernel_rfl) (by kernel_rfl) (by kernel_rfl) (fun _ _ _ h => h) (Or.inl ⟨by rfl, ?_⟩) (by assumption) ?_
        rotate_left
        · intro w hSw; (try dsimp only at hSw); go_simp <;> with_reducible rfl
        try simp only [Act.put, List.getElem_toArray, List.getElem_cons_zero, List.getElem_cons_succ, List.setIfInBounds_toArray, List.set_cons_zero, List.set_cons_succ]
        refine wpAnyH_take (i := 3) (v := ?_) rfl (by kernel_rfl) (by kernel_rfl) (by kernel_rfl) (fun _ _ _ h => h) (Or.inl ⟨by rfl, ?_⟩) (by assumption) ?_
        rotate_left
        · intro w hSw; (try dsimp only at hSw); go_simp <;> with_reducible rfl
        try simp only [Act.put, List.getElem_toArray, List.getElem_cons_zero, List.getElem_cons_succ, List.setIfInBounds_toArray, List.set_cons_zero, List.set_cons_succ]
        refine wpAnyH_take (i := 4) (v := ?_) rfl (by kernel_rfl) (by kernel_rfl) (by kernel_rfl) (fun _ _ _ h => h) (Or.inl ⟨by rfl, ?_⟩) (by assumption) ?_
        rotate_left
        · intro w hSw; (try dsimp only at hSw); go_simp <;> with_reducible rfl
        try simp only [Act.put, List.getElem_toArray, List.getElem_cons_zero, List.getElem_cons_succ, List.setIfInBounds_toArray, List.set_cons_zero, List.set_cons_succ]
        refine wpAnyH_take (i := 5) (v := ?_) rfl (by kernel_rfl) (by kernel_rfl) (by kernel_rfl) (fun _ _ _ h => h) (Or.inl ⟨by rfl, ?_⟩) (by assumption) ?_
        rotate_left
        · intro w hSw; (try dsimp only at hSw); go_simp <;> with_reducible rfl
        try simp only [Act.put, List.getElem_toArray, List.getElem_cons_zero, List.getElem_cons_succ, List.setIfInBounds_toArray, List.set_cons_zero, List.set_cons_succ]
        refine wpAnyH_take (i := 6) (v := ?_) rfl (by kernel_rfl) (by kernel_rfl) (by kernel_rfl) (fun _ _ _ h => h) (Or.inl ⟨by rfl, ?_⟩) (by assumption) ?_
        rotate_left
        · intro w hSw; (try dsimp only at hSw); go_simp <;> with_reducible rfl
        try simp only [Act.put, List.getElem_toArray, List.getElem_cons_zero, List.getElem_cons_succ, List.setIfInBounds_toArray, List.set_cons_zero, List.set_cons_succ]
        refine wpAnyH_take (i := 7) (v := ?_) rfl (by kernel_rfl) (by kernel_rfl) (by kernel_rfl) (fun _ _ _ h => h) (Or.inl ⟨by rfl, ?_⟩) (by assumption) ?_
        rotate_left
        · intro w hSw; (try dsimp only at hSw); go_simp <;> with_reducible rfl
        try simp only [Act.put, List.getElem_toArray, List.getElem_cons_zero, List.getElem_cons_succ, List.setIfInBounds_toArray, List.set_cons_zero, List.set_cons_succ]
        refine wpAnyH_take (i := 8) (v := ?_) rfl (by kernel_rfl) (by kernel_rfl) (by kernel_rfl) (fun _ _ _ h => h) (Or.inl ⟨by rfl, ?_⟩) (by assumption) ?_
        rotate_left
        · intro w hSw; (try dsimp only at hSw); go_simp <;> with_reducible rfl
        try simp only [Act.put, List.getElem_toArray, List.getElem_cons_zero, List.getElem_cons_succ, List.setIfInBounds_toArray, List.set_cons_zero, List.set_cons_succ]
        refine wpAnyH_take (i := 9) (v := ?_) rfl (by kernel_rfl) (by kernel_rfl) (by kernel_rfl) (fun _ _ _ h => h) (Or.inl ⟨by rfl, ?_⟩) (by assumption) ?_
        rotate_left
        · intro w hSw; (try dsimp only at hSw); go_simp <;> with_reducible rfl
        try simp only [Act.put, List.getElem_toArray, List.getElem_cons_zero, List.getElem_cons_succ, List.setIfInBounds_toArray, List.set_cons_zero, List.set_cons_succ]
        refine wpAnyH_take (i := 10) (v := ?_) rfl (by kernel_rfl) (by kernel_rfl) (by kernel_rfl) (fun _ _ _ h => h) (Or.inl ⟨by rfl, ?_⟩) (by assumption) ?_
        rotate_left
        · intro w hSw; (try dsimp only at hSw); go_simp <;> with_reducible rfl
        try simp only [Act.put, List.getElem_toArray, List.getElem_cons_zero, List.getElem_cons_succ, List.setIfInBounds_toArray, List.set_cons_zero, List.set_cons_succ]
        refine wpAnyH_take (i := 11) (v := ?_) rfl (by kernel_rfl) (by kernel_rfl) (by kernel_rfl) (fun _ _ _ h => h) (Or.inl ⟨by rfl, ?_⟩) (by assumption) ?_
        rotate_left
        · intro w hSw; (try dsimp only at hSw); go_simp <;> with_reducible rfl
        try simp only [Act.put, List.getElem_toArray, List.getElem_cons_zero, List.getElem_cons_succ, List.setIfInBounds_toArray, List.set_cons_zero, List.set_cons_succ]
        refine wpAnyH_take (i := 12) (v := ?_) rfl (by kernel_rfl) (by kernel_rfl) (by kernel_rfl) (fun _ _ _ h => h) (Or.inl ⟨by rfl, ?_⟩) (by assumption) ?_
        rotate_left
        · intro w hSw; (try dsimp only at hSw); go_simp <;> with_reducible rfl
        try simp only [Act.put, List.getElem_toArray, List.getElem_cons_zero, List.getElem_cons_succ, List.setIfInBounds_toArray, List.set_cons_zero, List.set_cons_succ]
        refine wpAnyH_take (i := 13) (v := ?_) rfl (by kernel_rfl) (by kernel_rfl) (by kernel_rfl) (fun _ _ _ h => h) (Or.inl ⟨by rfl, ?_⟩) (by assumption) ?_
        rotate_left
        · intro w hSw; (try dsimp only at hSw); go_simp <;> with_reducible rfl
        try simp only [Act.put, List.getElem_toArray, List.getElem_cons_zero, List.getElem_cons_succ, List.setIfInBounds_toArray, List.set_cons_zero, List.set_cons_succ]
        refine wpAnyH_take (i := 14) (v := ?_) rfl (by kernel_rfl) (by kernel_rfl) (by kernel_rfl) (fun _ _ _ h => h) (Or.inl ⟨by rfl, ?_⟩) (by assumption) ?_
        rotate_left
        · intro w hSw; (try dsimp only at hSw); go_simp <;> with_reducible rfl
        try simp only [Act.put, List.getElem_toArray, List.getElem_cons_zero, List.getElem_cons_succ, List.setIfInBounds_toArray, List.set_cons_zero, List.set_cons_succ]
        refine wpAnyH_take (i := 15) (v := ?_) rfl (by kernel_rfl) (by kernel_rfl) (by kernel_rfl) (fun _ _ _ h => h) (Or.inl ⟨by rfl, ?_⟩) (by assumption) ?_
        rotate_left
        · intro w hSw; (try dsimp only at hSw); go_simp <;> with_reducible rfl
        try simp only [Act.put, List.getElem_toArray, List.getElem_cons_zero, List.getElem_cons_succ, List.setIfInBounds_toArray, List.set_cons_zero, List.set_cons_succ]
        refine wpAnyH_take (i := 16) (v := ?_) rfl (by kernel_rfl) (by kernel_rfl) (by kernel_rfl) (fun _ _ _ h => h) (Or.inl ⟨by rfl, ?_⟩) (by assumption) ?_
        rotate_left
        · intro w hSw; (try dsimp only at hSw); go_simp <;> with_reducible rfl
        try simp only [Act.put, List.getElem_toArray, List.getElem_cons_zero, List.getElem_cons_succ, List.setIfInBounds_toArray, List.set_cons_zero, List.set_cons_succ]
        refine wpAnyH_take (i := 17) (v := ?_) rfl (by kernel_rfl) (by kernel_rfl) (by kernel_rfl) (fun _ _ _ h => h) (Or.inl ⟨by rfl, ?_⟩) (by assumption) ?_
        rotate_left
        · intro w hSw; (try dsimp only at hSw); go_simp <;> with_reducible rfl
        try simp only [Act.put, List.getElem_toArray, List.getElem_cons_zero, List.getElem_cons_succ, List.setIfInBounds_toArray, List.set_cons_zero, List.set_cons_succ]
        refine wpAnyH_take (i := 18) (v := ?_) rfl (by kernel_rfl) (by kernel_rfl) (by kernel_rfl) (fun _ _ _ h => h) (Or.inl ⟨by rfl, ?_⟩) (by assumption) ?_
        rotate_left
        · intro w hSw; (try dsimp only at hSw); go_simp <;> with_reducible rfl
        try simp only [Act.put, List.getElem_toArray, List.getElem_cons_zero, List.getElem_cons_succ, List.setIfInBounds_toArray, List.set_cons_zero, List.set_cons_succ]
        refine wpAnyH_take (i := 19) (v := ?_) rfl (by kernel_rfl) (by kernel_rfl) (by kernel_rfl) (fun _ _ _ h => h) (Or.inl ⟨by rfl, ?_⟩) (by assumption) ?_
        rotate_left
        · intro w hSw; (try dsimp only at hSw); go_simp <;> with_reducible rfl
        try simp only [Act.put, List.getElem_toArray, List.getElem_cons_zero, List.getElem_cons_succ, List.setIfInBounds_toArray, List.set_cons_zero, List.set_cons_succ]
        refine wpAnyH_take (i := 20) (v := ?_) rfl (by kernel_rfl) (by kernel_rfl) (by kernel_rfl) (fun _ _ _ h => h) (Or.inl ⟨by rfl, ?_⟩) (by assumption) ?_
        rotate_left
        · intro w hSw; (try dsimp only at hSw); go_simp <;> with_reducible rfl
        try simp only [Act.put, List.getElem_toArray, List.getElem_cons_zero, List.getElem_cons_succ, List.setIfInBounds_toArray, List.set_cons_zero, List.set_cons_succ]
        refine wpAnyH_take (i := 21) (v := ?_) rfl (by kernel_rfl) (by kernel_rfl) (by kernel_rfl) (fun _ _ _ h => h) (Or.inl ⟨by rfl, ?_⟩) (by assumption) ?_
        rotate_left
        · intro w hSw; (try dsimp only at hSw); go_simp <;> with_reducible rfl
        try simp only [Act.put, List.getElem_toArray, List.getElem_cons_zero, List.getElem_cons_succ, List.setIfInBounds_toArray, List.set_cons_zero, List.set_cons_succ]
        refine wpAnyH_done (by kernel_rfl) ?_ _
        have s0 := bK2.c0
        have s1 := bK2.free
        obtain ⟨Z1, hZ1⟩ : ∃ Z1, we.setCell ⟨X.heap.size, 0, none⟩ (.int .i64 ((s.i : Int) + 1)) = Z1 := ⟨_, rfl⟩
        have bZ1 : B1 Z1 X.heap.size (.int .i64 ((s.i : Int) + 1)) := by rw [← hZ1]; exact bK2.set _
        have kZ1 : Kp [X.heap.size] Y Z1 := by rw [← hZ1]; exact kn2.setCell (p := ⟨X.heap.size, 0, none⟩) (by simp) _
        obtain ⟨v1, n1, hN1, hSm1, hRo1, hln1, hnet1, hcell1, hp1, hroom1⟩ := hIh.out.net
        have hq10n : X.heap.size ∉ p2 :: own v1 := fun hm => (hnet1 _ hm).2.1 (by simp)
        have hNZ : Net Z1 p2 v1 n1 := hN1.kept kZ1 (fun k hk hm => by simp at hm; rw [hm] at hk; exact hq10n hk)
        have aT := cTake hNZ hSm1 (by omega) 0
        have b7Z := hIh.out.b7.keptS kZ1 (by simpa using n7)
        have b5Z := hIh.out.b5.keptS kZ1 (by simpa using n5)
        have t7 := (hIh.out.b7.keptS kn2 (by simpa using n7)).c0
        have n7' := Ne.symm n7
        have hZ1' := hid hZ1
        clear hZ1 hHeld hS1 bK2 kn2 ko2
        gi_wp2_with fail
        rw [hZ1'.out]
        refine ⟨trivial, (CallsIn.inRound ln (callsIn_wide.2 aT)).mono ?_⟩
        rintro e Z2 ⟨vT, hN2, wT, he⟩
        obtain ⟨val, rfl⟩ : ∃ val, e = .returned val := by
          revert he
          cases atN n1 0 with
          | none => exact fun h => ⟨_, h⟩
          | some m => rintro ⟨_, _, h, _⟩; exact ⟨_, h⟩
        clear he aT t7 s0 s1
        have b7T := b7Z.keptS wT.kp (fun hm => (hnet1 _ hm).2.1 (by simp))
        have b5T := b5Z.keptS wT.kp (fun hm => (hnet1 _ hm).2.1 (by simp))
        have u7 := b7T.c0
        have u5 := b5T.c0
        have l7 := b7T.lt
        have l5 := b5T.lt
        obtain ⟨Z3, hZ3⟩ : ∃ Z3, Z2.alloc (.cells #[.int .u8 1, .int .u8 2, .int .u8 3] 5) = Z3 := ⟨_, rfl⟩
        have k3 : Kp [] Z2 Z3 := by rw [← hZ3]; exact (Kp.refl _ _).alloc _
        have hsee3 : Sees Z3 (some ⟨Z2.heap.size, 0, none⟩) [1, 2, 3] := by
          rw [← hZ3]
          refine .inr ⟨_, 0, rfl, fun j u hu => ?_⟩
          have e : (Z2.alloc (.cells #[.int .u8 1, .int .u8 2, .int .u8 3] 5)).cell? ⟨Z2.heap.size, 0 + j, none⟩ = _ := World.cell?_alloc_new Z2 _ _ (0 + j)
          rw [e]
          match j, hu with
          | 0, hu => cases hu; rfl
          | 1, hu => cases hu; rfl
          | 2, hu => cases hu; rfl
        have aS := cSend (hN2.keptNew k3) (by have := (dropLen n1).1; omega) to (some ⟨Z2.heap.size, 0, none⟩) 3 [1, 2, 3] hsee3
        have hZ3' := hid hZ3
        have hfin : Hid (∀ Z4 v4, Net Z4 p2 v4 (putN (dropN n1 0) ⟨to, [1, 2, 3]⟩).1 → Wrote p2 vT Z3 v4 Z4 → ∀ act, leftX w9.heap.size KeepT (RgB W [W.heap.size, W.heap.size + 1, q7, q9, X.heap.size] W.heap.size (W.heap.size + 1) q7 q9 X.heap.size w9.heap.size D p2 r n.l to 5900000000000) (fun _ _ _ => False) s (s.nx ⟨s.i, .slice ya m.body.length yc⟩) Y .normal act Z4) := fun Z4 v4 hN4 w4 act => by
          exact RgB.round hIh.out (by omega) hmade (fun e => by have := hmh.out; rw [e] at this; simp at this) rfl n5 n6 n7 n9 hr10 (by have := hwX.size; omega) (by omega) hq10m kZ1 bZ1 (by simp) hN1 hSm1 hRo1 hln1 hnet1 hcell1 hp1 hroom1 wT k3 hN4 w4
        clear hZ3 hN2
        gi_wp2_with fail
        rw [hZ3'.out]
        refine ⟨trivial, (CallsIn.inRound ln (callsIn_wide.2 aS)).mono ?_⟩
        rintro e Z4 ⟨v4, rfl, hN4, w4⟩
        have hend := fun act => hfin.out Z4 v4 hN4 w4 act
        clear hfin hN4 w4 aS
        gi_wp2_with fail
        exact hend _
end Go.Proofs.Ytllhmbemcmigoaa
end

section
namespace Go.Proofs.Ytllhmbemcmigoaa
open Go.ChangeShapes Go.WideShapes Go.ChangeAt Go.RowKit Go.Hay
set_option linter.unusedVariables false

set_option maxRecDepth 100000 in
theorem netRangeContract (H : Type) (enc : TypeId × Value → H) (W : World) (base : Nat) (args : Array Value) (ds gs : List (DataW H)) (before : List MemPlace)
    (hval : ∀ (j : Nat) t v, Try.f5.params[j]? = some t → args[j]? = some v → Value.okWide Try.prog W .any base t v)
    (hW : DataW.Whole enc Try.prog Try.f5.params.toList Rows.netRangeSpec.vars false W args.toList ds gs before)
    (hsz : (DataW.weightsEach Try.prog (Try.f5.params.toList ++ (OpenSpec.ofChange Rows.netRangeSpec).bare.plain.varTypes Try.prog) (ds ++ gs)).all (· ≤ reachBytes) = true) :
    Calls Try.prog 5 args W fun e W' => ∃ v, e = .returned v ∧ Rows.netRangeSpec.post enc Try.prog Try.f5 false true false false W args v W' := by
  have hW' := hW
  obtain ⟨p, q, hA0, hV, rfl, hfz, hnd⟩ := hW
  have hA : DataW.TrodAll enc Try.prog W 0 (fun _ => true) true Try.f5.params.toList args.toList ds p := hA0
  rw [Try.params5] at hA hval hsz
  obtain ⟨v0, vs0, d0, ds0, p0, q0, hargs, rfl, rfl, h0, r0⟩ := trodAll_cons hA
  obtain ⟨v1, vs1, d1, ds1, p1, q1, rfl, rfl, rfl, h1, r1⟩ := trodAll_cons r0
  obtain ⟨v2, vs2, d2, ds2, p2, q2, rfl, rfl, rfl, h2, r2⟩ := trodAll_cons r1
  obtain ⟨rfl, rfl, rfl⟩ := trodAll_nil r2
  obtain rfl : args = #[v0, v1, v2] := by cases args; simp_all
  obtain ⟨rfl, rfl⟩ := trodVars_none hV
  obtain ⟨a0, rfl, rfl, rfl, w0⟩ := open_int Try.underlying3 (hval 0 3 v0 rfl rfl) h0
  have hb0 := bounds_i64 w0
  obtain ⟨a1, len1, cap1, rfl⟩ := okWide_slice Try.underlying22 (hval 1 22 v1 rfl rfl)
  have k1 := h1
  have lt1 : ∀ x ∈ p1, x.block < W.heap.size := by obtain ⟨m, hm⟩ := k1; exact DataW.trod_lt m _ _ _ hm
  obtain ⟨l1, rfl, hs1, hok1, hl1, hm1, hn1, hfit1, hbk1, hcp1⟩ := openNops h1
  obtain ⟨hc1, hq1⟩ := hfit1 (List.all_eq_true.2 fun x hx => List.all_eq_true.1 hsz x (by simp [DataW.weightsEach]; first | exact .inl hx | exact .inr hx | exact .inr (.inl hx) | exact .inr (.inr hx) | exact hx))
  obtain ⟨a2, rfl, rfl, rfl, w2⟩ := open_int Try.underlying3 (hval 2 3 v2 rfl rfl) h2
  have hb2 := bounds_i64 w2
  clear hA0
  refine (rngWalk a0 a1 cap1 l1 a2 W hs1 hok1 hq1 (by omega)).mono fun e W' ⟨he, bel⟩ => ?_
  subst he
  exact ⟨_, rfl, _, _, _, [], _, [], hW', trodAll_mk1 (shut_bool Try.underlying4 _), (trodAll_cons_mk (shut_int Try.underlying3 w0) (trodAll_cons_mk (Below.trod Try.laidOut (by kernel_rfl) (of_decide_eq_true (by kernel_rfl)) k1 bel lt1) (trodAll_cons_mk (shut_int Try.underlying3 w2) trodAll_mk0))), rfl, bel.frame _, fun h => by cases h⟩

set_option maxRecDepth 100000 in
theorem netRangeLifted (os : Os) (started : os.Started) (H : Type) (enc : TypeId × Value → H) :
    ReturnsInHanded {} Try.checked os 5 .any (Rows.netRangeSpec.pre6 enc Try.prog Try.f5 Rows.netRangeRow.domain false) (Rows.netRangeSpec.post enc Try.prog Try.f5 false true false false) := by
  refine returnsInHanded_of_change_sized (C := Try.checked) Try.own started (by kernel_rfl) Try.func5
    (ChangeSpec.witness6 (enc := enc) (C := Try.checked) false ⟨#[], #[.int .i64 0, .slice none 0 0, .int .i64 0], []⟩ 8 (by kernel_rfl) (by kernel_rfl) (by kernel_rfl) (by kernel_rfl)) ?_
  intro W base args ds gs before hval hW _ hsz _
  exact netRangeContract H enc W base args ds gs before hval hW hsz

theorem NetRange_holds : Rows.NetRangeSaid :=
  OpenClaim.holds_of_wide 5 Try.f5 rfl rfl rfl rfl rfl rfl rfl ⟨rfl, rfl, rfl, rfl, rfl⟩ rfl rfl rfl rfl rfl (by kernel_rfl) Try.func5 (by kernel_rfl)
    (of_decide_eq_true (by kernel_rfl)) (by unfold Func.isWrapper; first | (rw [if_pos (by decide +kernel)]; kernel_rfl) | (rw [if_neg (by decide +kernel)]; exact ⟨rfl, rfl⟩))
    (fun os started H enc _ => netRangeLifted os started H enc)

#print axioms NetRange_holds
end Go.Proofs.Ytllhmbemcmigoaa
end

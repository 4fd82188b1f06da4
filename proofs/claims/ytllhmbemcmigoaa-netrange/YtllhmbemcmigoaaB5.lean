/- A net's messages that are told to one, given to a range: the outer iterator. What is kept where no cell has turned. Bytes of a row written over, one by one. The places of messages that are told to one; what lies in memory where they are gone through. A region that draws its order, inside a round of a range over a function: as a plain one, where nothing is deferred. No statement of the seat is proved here. -/
import Derived.Test.YtllhmbemcmigoaaB4
import Derived.Test.YtllhmbemcmigoaaB1
import Derived.Test.YtllhmbemcmigoaaB3
import Derived.OrdersHeld
import Derived.OrdersIn
import Derived.OwnWalkIn
import Derived.RangeFuncCalls
import Derived.Deep.RegionHeld3
section
namespace Go.Proofs.Ytllhmbemcmigoaa
open Go.RowKit Go.Hay
attribute [local go_sem] Oper.semAt_some
set_option linter.unusedVariables false
set_option linter.unusedSimpArgs false

theorem room_of_none {F : Fence} (hd : F.depth = none) (k : Nat) : F.room k := fun d h => by rw [hd] at h; cases h
theorem RoundIn.anyDepth {F : Fence} (hd : F.depth = none) {m m' : Nat} {P : Program} {l : Nat} {f : FuncId} {tmps : Array Value} {assign body : Code} {w : World} {R : Ending → World → Prop}
    (h : RoundIn F m P l f tmps assign body w R) : RoundIn F m' P l f tmps assign body w R := ⟨h.1, fun c cs _ => h.2 c cs (room_of_none hd _)⟩
theorem cTold (a : Option Addr) (n c : Nat) (to : Int) (w : World) : Calls Try.prog 29 #[.slice a n c, .int .i64 to] w fun e w' => e = .returned (.func (.func 32) #[] #[.pointer (some ⟨w.heap.size, 0, none⟩), .pointer (some ⟨w.heap.size + 1, 0, none⟩)]) ∧ w' = (w.alloc (.cells #[.slice a n c] 57)).alloc (.cells #[.int .i64 to] 3) := by
  go_enter Try.func29, Try.ntmps29
  go_wp2_with fail
  go_returns
  exact ⟨by simp, rfl⟩
theorem cTo (p : Nat) (to : Int) (w : World) : Calls Try.prog 13 #[.pointer (some ⟨p, 0, none⟩), .int .i64 to] w fun e w' => e = .returned (.func (.func 28) #[] #[.pointer (some ⟨w.heap.size, 0, none⟩), .pointer (some ⟨w.heap.size + 1, 0, none⟩)]) ∧ w' = (w.alloc (.cells #[.pointer (some ⟨p, 0, none⟩)] 23)).alloc (.cells #[.int .i64 to] 3) := by
  go_enter Try.func13, Try.ntmps13
  go_wp2_with fail
  go_returns
  exact ⟨by simp, rfl⟩
/-- What the iterator finds: its two boxes, and the net. -/
structure AtT (qn qt p : Nat) (v : Value) (n : Nt) (to : Int) (w : World) : Prop where
  b1 : w.cell? ⟨qn, 0, none⟩ = some (.pointer (some ⟨p, 0, none⟩))
  b2 : w.cell? ⟨qt, 0, none⟩ = some (.int .i64 to)
  net : Net w p v n
theorem NetKeep {w w' : World} {p : Nat} {v : Value} {n : Nt} (h : Net w p v n) (hk : KeepN (p :: own v) w w') : Net w' p v n := by
  have e : ∀ k ∈ p :: own v, w'.heap[k]? = w.heap[k]? := fun k hm => by
    have hl := h.ltAll k hm
    obtain ⟨o, ho⟩ : ∃ o, w.heap[k]? = some o := ⟨w.heap[k], by simp [hl]⟩
    exact (hk.2 k hm o ho).trans ho.symm
  have cp : ∀ j, w'.cell? ⟨p, j, none⟩ = w.cell? ⟨p, j, none⟩ := fun j => World.cell?_of_block (a := ⟨p, j, none⟩) (e p (by simp))
  have fp : ∀ j, w'.frozen? ⟨p, j, none⟩ = w.frozen? ⟨p, j, none⟩ := fun j => World.frozen?_of_block (a := ⟨p, j, none⟩) (e p (by simp))
  refine ⟨(cp 0).trans h.c0, (cp 1).trans h.c1, fun j => (fp j).trans (h.free j), ?_, h.apart⟩
  rcases h.row with h0 | ⟨g, o, cap, rfl, hl, hm, hg, hc, ht⟩
  · exact .inl h0
  · have eg := e g (by simp [own, Value.ownBlock])
    have cg : ∀ j, w'.cell? ⟨g, j, none⟩ = w.cell? ⟨g, j, none⟩ := fun j => World.cell?_of_block (a := ⟨g, j, none⟩) eg
    have fg : ∀ j, w'.frozen? ⟨g, j, none⟩ = w.frozen? ⟨g, j, none⟩ := fun j => World.frozen?_of_block (a := ⟨g, j, none⟩) eg
    exact .inr ⟨g, o, cap, rfl, hl, hm, Nat.lt_of_lt_of_le hg hk.1, fun j u hu => (cg _).trans (hc j u hu), fun j hj => by rw [cg, fg]; exact ht j hj⟩
theorem AtT.kept {qn qt p : Nat} {v : Value} {n : Nt} {to : Int} {A B : World} (h : AtT qn qt p v n to A) (hk : KeepN (qn :: qt :: p :: own v) A B) : AtT qn qt p v n to B :=
  ⟨hk.cell (by simp) h.b1, hk.cell (by simp) h.b2, NetKeep h.net ⟨hk.1, fun k hm => hk.2 k (by simp at hm ⊢; exact .inr (.inr hm))⟩⟩
/-- How it stands ahead of its begin. -/
abbrev sT (qn qt p : Nat) (v : Value) : Sb := ⟨false, 0, qn :: qt :: p :: own v, 0, none⟩
theorem StepT.same {l : List Msg} {to : Int} {s : Sb} {A B : World} (hm : s.made = true) (hv : s.v = none) (ht : TurnT s.B0 A B) : StepT l to s s A B :=
  ⟨ht, fun _ => ⟨hm, rfl, rfl⟩, fun h => (by rw [hm] at h; cases h), Nat.le_refl _, fun k m h1 h2 => by omega, hv, .inl hv⟩

set_option maxHeartbeats 16000000 in
set_option maxRecDepth 100000 in
theorem toSeq (d : Nat) (hd : 4 ≤ d) (qn qt p : Nat) (v : Value) (n : Nt) (to : Int) (w : World) (hA : AtT qn qt p v n to w) (hB : Smalls n) (hb : n.l.length ≤ 6000000000000) :
    SeqX Fence.wide d Try.prog 28 #[.pointer (some ⟨qn, 0, none⟩), .pointer (some ⟨qt, 0, none⟩)] encG (StepT n.l to) StepX KeepT (okT n.l to) Sb.nx (fun s => s.made = true ∧ s.i = n.l.length ∧ s.v = none) (fun _ => True) (sT qn qt p v) w := by
  intro ly J Jx W hW hT hX hY h0
  have hAW := hA.kept hW.js
  obtain ⟨a, c, rfl, _⟩ := hAW.net.row.see
  obtain ⟨W1, hW1⟩ : ∃ W1, W.alloc (.cells #[.func (.yield ly) #[] #[]] 70) = W1 := ⟨_, rfl⟩
  have k1 : Kp [] W W1 := by rw [← hW1]; exact (Kp.refl _ _).alloc _
  have by1 : W1.cell? ⟨W.heap.size, 0, none⟩ = some (.func (.yield ly) #[] #[]) := by rw [← hW1]; exact World.cell?_alloc_new W _ _ 0
  have hz1 : W.heap.size < W1.heap.size := by rw [← hW1]; simp
  have kd : Kp [] W1 W1.drew := (Kp.refl _ _).drew
  have hNd := hAW.net.keptNew (k1.trans kd (by simp))
  have aC := cCloneM a c n.l W1.drew hNd.row hb
  have hS0 : W1.drew.cell? ⟨qn, 0, none⟩ = some (.pointer (some ⟨p, 0, none⟩)) ∧ W1.drew.cell? ⟨p, 1, none⟩ = some (.slice a n.l.length c) ∧ W1.drew.cell? ⟨qt, 0, none⟩ = some (.int .i64 to) := ⟨cell_kp (k1.trans kd (by simp)) hAW.b1, hNd.c1, cell_kp (k1.trans kd (by simp)) hAW.b2⟩
  refine callsIn_of_wp_marks Try.func28 rfl trivial ?_ rfl
  simp only [Try.ntmps28, List.size_toArray, List.length_cons, List.length_nil, Nat.reduceAdd, Nat.reduceSub, Array.replicate_succ, Array.replicate_zero, List.push_toArray, List.append_toArray, List.nil_append, List.cons_append]
  have hW1' := hid hW1
  clear hW1
  refine wpIn_wide.2 ?_
  go_wp2_with fail
  rw [hW1'.out]
  obtain ⟨Qj, hQj⟩ : ∃ Qj : Exit → Act → World → Prop, Qj = fun e a' w' => e = Exit.normal ∧ ∃ q a2 c2, Kp [] W1 w' ∧ W1.heap.size ≤ q ∧ q + 2 = w'.heap.size ∧ (∀ k ∈ blk a2, W1.heap.size ≤ k ∧ k < q) ∧ AtN q (q + 1) a2 c2 n.l to w' ∧ n.l.length ≤ c2 ∧ a' = { tmps := #[.func (.yield ly) #[] #[], .pointer (some ⟨qn, 0, none⟩), .pointer (some ⟨qt, 0, none⟩), .pointer (some ⟨W.heap.size, 0, none⟩), undef, undef, .pointer (some ⟨p, 0, none⟩), .pointer (some ⟨p, 0, none⟩), .pointer (some ⟨p, 1, none⟩), .slice a n.l.length c, .slice a2 n.l.length c2, .int .i64 to, .func (.func 32) #[] #[.pointer (some ⟨q, 0, none⟩), .pointer (some ⟨q + 1, 0, none⟩)], undef, undef, undef, undef, undef, undef, undef, undef], defers := [] } := ⟨_, rfl⟩
  have hQp : Hid (∀ c (a b : Act) w, Qj (.panic c) a w → Qj (.panic c) b w) := fun c a b w h => by rw [hQj] at h; cases h.1
  have hQj' := hid hQj
  clear hQj
  refine Code.wp_mono (Q := Qj) ?_ ?_
  rotate_left
  · refine wp_region_held_drew (S := (fun A => A.cell? ⟨qn, 0, none⟩ = some (.pointer (some ⟨p, 0, none⟩)) ∧ A.cell? ⟨p, 1, none⟩ = some (.slice a n.l.length c) ∧ A.cell? ⟨qt, 0, none⟩ = some (.int .i64 to))) (by kernel_rfl) ?_ (fun hHeld => ?_)
    · exact hS0
    generalize W1.drew = wd at *
    refine wpAnyH_take (i := 0) (v := ?_) rfl (by kernel_rfl) (by kernel_rfl) (by kernel_rfl) (fun _ _ _ h => hQp.out _ _ _ _ h) (Or.inl ⟨by rfl, ?_⟩) (by assumption) ?_
    rotate_left
    · intro w hSw; (try dsimp only at hSw); go_simp <;> with_reducible rfl
    try simp only [Act.put, List.getElem_toArray, List.getElem_cons_zero, List.getElem_cons_succ, List.setIfInBounds_toArray, List.set_cons_zero, List.set_cons_succ]
    refine wpAnyH_take (i := 1) (v := ?_) rfl (by kernel_rfl) (by kernel_rfl) (by kernel_rfl) (fun _ _ _ h => hQp.out _ _ _ _ h) (Or.inl ⟨by rfl, ?_⟩) (by assumption) ?_
    rotate_left
    · intro w hSw; (try dsimp only at hSw); go_simp <;> with_reducible rfl
    try simp only [Act.put, List.getElem_toArray, List.getElem_cons_zero, List.getElem_cons_succ, List.setIfInBounds_toArray, List.set_cons_zero, List.set_cons_succ]
    refine wpAnyH_take (i := 2) (v := ?_) rfl (by kernel_rfl) (by kernel_rfl) (by kernel_rfl) (fun _ _ _ h => hQp.out _ _ _ _ h) (Or.inl ⟨by rfl, ?_⟩) (by assumption) ?_
    rotate_left
    · intro w hSw; (try dsimp only at hSw); go_simp <;> with_reducible rfl
    try simp only [Act.put, List.getElem_toArray, List.getElem_cons_zero, List.getElem_cons_succ, List.setIfInBounds_toArray, List.set_cons_zero, List.set_cons_succ]
    refine wpAnyH_take (i := 3) (v := ?_) rfl (by kernel_rfl) (by kernel_rfl) (by kernel_rfl) (fun _ _ _ h => hQp.out _ _ _ _ h) (Or.inl ⟨by rfl, ?_⟩) (by assumption) ?_
    rotate_left
    · intro w hSw; (try dsimp only at hSw); go_simp <;> with_reducible rfl
    try simp only [Act.put, List.getElem_toArray, List.getElem_cons_zero, List.getElem_cons_succ, List.setIfInBounds_toArray, List.set_cons_zero, List.set_cons_succ]
    refine wpAnyH_take (i := 5) (v := ?_) rfl (by kernel_rfl) (by kernel_rfl) (by kernel_rfl) (fun _ _ _ h => hQp.out _ _ _ _ h) (Or.inl ⟨by rfl, ?_⟩) (by assumption) ?_
    rotate_left
    · intro w hSw; (try dsimp only at hSw); go_simp <;> with_reducible rfl
    try simp only [Act.put, List.getElem_toArray, List.getElem_cons_zero, List.getElem_cons_succ, List.setIfInBounds_toArray, List.set_cons_zero, List.set_cons_succ]
    refine wpAnyH_ready (rs := [4]) (by kernel_rfl) (by simp) ?_
    refine AllReadyH.cons rfl (fun K hK => ?_) AllReadyH.nil
    go_simp
    refine aC.mono ?_
    rintro e x1 ⟨a2, c2, rfl, hrow, kx1, hn1⟩
    (try go_wp2_with fail)
    refine hK.out _ _ ?_ (fun hHeld => ?_)
    · exact ⟨cell_kp kx1 hHeld.1, cell_kp kx1 hHeld.2.1, cell_kp kx1 hHeld.2.2⟩
    clear hK K
    try simp only [Act.put, List.getElem_toArray, List.getElem_cons_zero, List.getElem_cons_succ, List.setIfInBounds_toArray, List.set_cons_zero, List.set_cons_succ]
    refine wpAnyH_ready (rs := [6]) (by kernel_rfl) (by simp) ?_
    refine AllReadyH.cons rfl (fun K hK => ?_) AllReadyH.nil
    go_simp
    refine (cTold a2 n.l.length c2 to x1).mono ?_
    rintro e x3 ⟨rfl, rfl⟩
    (try go_wp2_with fail)
    refine hK.out _ _ ?_ (fun hHeld => ?_)
    · exact ⟨cell_kp (((Kp.refl _ _).alloc _).alloc _) hHeld.1, cell_kp (((Kp.refl _ _).alloc _).alloc _) hHeld.2.1, cell_kp (((Kp.refl _ _).alloc _).alloc _) hHeld.2.2⟩
    clear hK K
    try simp only [Act.put, List.getElem_toArray, List.getElem_cons_zero, List.getElem_cons_succ, List.setIfInBounds_toArray, List.set_cons_zero, List.set_cons_succ]
    refine wpAnyH_done (by kernel_rfl) ?_ _
    rw [hQj'.out]
    have kx3 : Kp [] x1 ((x1.alloc (.cells #[.slice a2 n.l.length c2] 57)).alloc (.cells #[.int .i64 to] 3)) := ((Kp.refl _ _).alloc _).alloc _
    obtain ⟨_, _, ev, hsee, _, hlc, _⟩ := (hrow.keptNew kx3).see
    cases ev
    refine ⟨rfl, x1.heap.size, a2, c2, (kd.trans kx1 (by simp)).trans kx3 (by simp), ?_, by simp, fun k hk => ⟨?_, ?_⟩, ⟨?_, ?_, fun k m hm => ?_⟩, hlc, rfl⟩
    · have := kd.size; have := kx1.size; omega
    · have := kd.size; have := hn1 k hk; omega
    · exact hrow.lt k (by rw [own_slice]; exact hk)
    · exact cell_kp ((Kp.refl _ _).alloc _) (World.cell?_alloc_new x1 #[.slice a2 n.l.length c2] 57 0)
    · have := World.cell?_alloc_new (x1.alloc (.cells #[.slice a2 n.l.length c2] 57)) #[.int .i64 to] 3 0
      rwa [World.size_alloc] at this
    · obtain ⟨g, o, ea, hc⟩ := hsee.at hm
      exact ⟨g, o, ea, hc 0 _ rfl, hc 1 _ rfl⟩
  rintro e a' W2 hq
  rw [hQj'.out] at hq
  obtain ⟨rfl, q, a2, c2, k2, hq1, hq2, hab, hAt, hlc, rfl⟩ := hq
  clear hQp hQj' Qj aC hS0 hNd kd
  have hy2 : W2.cell? ⟨W.heap.size, 0, none⟩ = some (.func (.yield ly) #[] #[]) := cell_kp k2 by1
  have hz2 := k2.size
  have kW2 : Kp [] W W2 := k1.trans k2 (by simp)
  obtain ⟨B0, hB0⟩ : ∃ B0, Hid (B0 = W2.heap.size) := ⟨_, rfl⟩
  obtain ⟨js, hjs⟩ : ∃ js, Hid (js = W.heap.size :: q :: (q + 1) :: blk a2) := ⟨_, rfl⟩
  have hjsl : ∀ j ∈ js, W.heap.size ≤ j ∧ j < W2.heap.size := fun j hj => by
    rw [hjs.out] at hj
    simp only [List.mem_cons] at hj
    rcases hj with rfl | rfl | rfl | hj
    · omega
    · omega
    · omega
    · have := hab j hj; omega
  have hJ2 : J ⟨true, B0, js, 0, none⟩ W2 := hT _ _ _ _ h0 ⟨TurnT.ofKp kW2, fun h => (by cases h), fun _ => ⟨rfl, by rw [hB0.out]; exact kW2.size, hjsl, rfl⟩, Nat.le_refl _, fun k m h1 h2 => absurd h2 (Nat.not_lt_zero _), rfl, .inl rfl⟩
  go_wp2_with fail
  refine (wpIn_wide (n := d)).1 ?_
  have hjb : ∀ j ∈ q :: (q + 1) :: blk a2, j < W2.heap.size := fun j hj => by
    simp only [List.mem_cons] at hj
    rcases hj with rfl | rfl | hj
    · omega
    · omega
    · have := hab j hj; omega
  have hseq := toldSeq (d - 1) (by omega) q (q + 1) a2 c2 n.l to hb hlc W2 hAt
  refine wpRangeS rfl (by omega) (gf := 32) (lb := #[.pointer (some ⟨q, 0, none⟩), .pointer (some ⟨q + 1, 0, none⟩)]) rfl trivial (enters_of Try.func32 (by kernel_rfl) rfl)
    hseq (fun _ => rfl) KeepN.trans (fun s => KeepN.alloc _) (fun s W l o o' hl ho hc _ => KeepN.putObj (B := W2.heap.size) hjb W l o' hl) (KeepN.refl _ _) (fun s s' A B ht k o _ ho _ _ => (ht.1.block k (Array.getElem?_eq_some_iff.1 ho).1 (by simp)).trans ho)
    (fun j W' => J ⟨true, B0, js, j, none⟩ W' ∧ W'.cell? ⟨W.heap.size, 0, none⟩ = some (.func (.yield ly) #[] #[]) ∧ W2.heap.size ≤ W'.heap.size)
    (fun c j W' => c = .ret ∧ ∃ s : Sb, s.made = true ∧ s.B0 = B0 ∧ Jx s W')
    ?hI ?hIx ?hIT ⟨hJ2, hy2, Nat.le_refl _⟩
    (fun x => { tmps := #[.func (.yield ly) #[] #[], .pointer (some ⟨qn, 0, none⟩), .pointer (some ⟨qt, 0, none⟩), .pointer (some ⟨W.heap.size, 0, none⟩), .int .i64 (x.i : Int), .string ⟨x.m.body.toArray⟩, .pointer (some ⟨p, 0, none⟩), .pointer (some ⟨p, 0, none⟩), .pointer (some ⟨p, 1, none⟩), .slice a n.l.length c, .slice a2 n.l.length c2, .int .i64 to, .func (.func 32) #[] #[.pointer (some ⟨q, 0, none⟩), .pointer (some ⟨q + 1, 0, none⟩)], .int .i64 (x.i : Int), .string ⟨x.m.body.toArray⟩, undef, undef, undef, undef, undef, undef], defers := [] }) ?assign ?body ?done ?stop
  case hI =>
    rintro j X Y row ⟨hJ, hc, hz⟩ hg hr
    refine ⟨hT _ _ _ _ hJ (StepT.same rfl rfl (TurnT.ofGrown hg (fun r e => by have := hr r e; rw [hB0.out]; exact this))), ?_, Nat.le_trans hz hg.size⟩
    exact cell_kept hc hg (fun r e => (hr r e).2)
  case hIx =>
    rintro c j X Y row ⟨hc, s, hm, hs0, hJ⟩ hg hr
    exact ⟨hc, s, hm, hs0, hX _ _ _ hJ ⟨hm, TurnT.ofGrown hg (fun r e => by have := hr r e; rw [hs0, hB0.out]; exact this)⟩⟩
  case hIT =>
    rintro j j' A B ⟨hJ, hc, hz⟩ ⟨hk, hjj, hskip⟩
    exact ⟨hT _ _ _ _ hJ ⟨TurnT.ofKp hk, fun _ => ⟨rfl, rfl, rfl⟩, fun h => (by cases h), hjj, hskip, rfl, .inl rfl⟩, cell_kp hk hc, Nat.le_trans hz hk.size⟩
  case assign =>
    intro l x W C hC
    gi_wp2_with fail
    exact hC
  case body =>
    rintro l j ⟨i, m⟩ A ⟨hJ, hy, hz⟩ ⟨rfl, hm, hto⟩
    simp only at *
    obtain ⟨c3, A', hcv, hrow, kA, hs3⟩ := convBytes A m.body (by have := hB m (List.mem_of_getElem? hm); omega)
    have hJ' : J ⟨true, B0, js, i, some (.slice (some ⟨A.heap.size, 0, none⟩) m.body.length c3)⟩ A' := hT _ _ _ _ hJ ⟨TurnT.ofKp kA, fun _ => ⟨rfl, rfl, rfl⟩, fun h => (by cases h), Nat.le_refl _, fun k m h1 h2 => by simp only at h1 h2; omega, rfl, .inr ⟨_, m, rfl, hm, hto, hrow, fun k hk => by simp [own, Value.ownBlock] at hk; omega⟩⟩
    obtain ⟨fn, tmps, assign, body, hyl, hR⟩ := hY _ ⟨i, .slice (some ⟨A.heap.size, 0, none⟩) m.body.length c3⟩ A' hJ' ⟨rfl, rfl, m, hm, hto⟩
    clear hm
    gi_wp2_with fail
    refine ⟨fun _ => by omega, ?_⟩
    have hR' : RoundIn (Fence.wide.inRound l) (d - 1 - 1 - 1) Try.prog ly fn tmps assign body A' _ := RoundIn.anyDepth (F := Fence.wide.inRound l) rfl hR
    have kf : ∀ A2, KeepT ⟨true, B0, js, i, some (.slice (some ⟨A.heap.size, 0, none⟩) m.body.length c3)⟩ A' A2 → KeepsFrom W2.heap.size A A2 ∧ KeepN (q :: (q + 1) :: blk a2) A A2 ∧ A2.cell? ⟨W.heap.size, 0, none⟩ = some (.func (.yield ly) #[] #[]) ∧ W2.heap.size ≤ A2.heap.size := fun A2 hk => by
      have h1 := KeepN.ofKp (Js := js) kA (by simp)
      have h2 : KeepN js A A2 := h1.trans hk.js
      have hj : ∀ j ∈ q :: (q + 1) :: blk a2, j ∈ js := fun j hj => by rw [hjs.out]; exact List.mem_cons_of_mem _ hj
      refine ⟨⟨h2.1, fun k o hk' ho hc => ?_⟩, ⟨h2.1, fun k hk' => h2.2 k (hj k hk')⟩, h2.cell (by rw [hjs.out]; simp) hy, Nat.le_trans hz h2.1⟩
      have e : A'.heap[k]? = some o := (kA.block k (Array.getElem?_eq_some_iff.1 ho).1 (by simp)).trans ho
      exact hk.recs rfl k o (by simp only; rw [hB0.out]; exact hk') e hc
    clear hR hyl hcv hrow hJ' hJ
    refine hR'.mono ?_
    rintro e A2 (⟨rfl, hJ3, hk3⟩ | ⟨rfl, hJ3, hk3⟩)
    · obtain ⟨f1, f2, f3, f4⟩ := kf A2 hk3
      gi_wp2_with fail
      exact ⟨f1, f2, hJ3, f3, f4⟩
    · obtain ⟨f1, f2, f3, f4⟩ := kf A2 hk3
      gi_wp2_with fail
      exact ⟨f1, rfl, _, rfl, rfl, hJ3⟩
  case done =>
    rintro D j X hD rfl ⟨hJ, _, _⟩ hK
    have hJD := hT _ _ _ _ hJ (StepT.same rfl rfl (TurnT.ofGrown (B0 := B0) (grownBy_putObj' X D (.deferred none)) (fun r e => by cases e; exact ⟨by rw [hB0.out]; exact hD, _, hK, rfl⟩)))
    gi_wp2_with fail
    refine ⟨by simp, .inl ⟨_, _, rfl, run_takeDeferred hK, ?_⟩⟩
    exact ⟨_, results_none rfl _ _ _, ⟨_, rfl⟩, .inl ⟨_, ⟨rfl, rfl, rfl⟩, hJD⟩⟩
  case stop =>
    rintro D c j X hD _ ⟨rfl, s, hm, hs0, hJ⟩ hK
    have hJD := hX _ _ _ hJ ⟨hm, TurnT.ofGrown (grownBy_putObj' X D (.deferred none)) (fun r e => by cases e; exact ⟨by rw [hs0, hB0.out]; exact hD, _, hK, rfl⟩)⟩
    gi_wp2_with fail
    refine ⟨by simp, .inl ⟨_, _, rfl, run_takeDeferred hK, ?_⟩⟩
    exact ⟨_, results_none rfl _ _ _, ⟨_, rfl⟩, .inr ⟨s, trivial, hJD⟩⟩
end Go.Proofs.Ytllhmbemcmigoaa
end

section
namespace Go.Proofs.Ytllhmbemcmigoaa
open Go.RowKit Go.Hay
set_option linter.unusedVariables false
set_option linter.unusedSimpArgs false

/-- Every block of cells stands. -/
structure Ck (X Y : World) : Prop where
  size : X.heap.size ≤ Y.heap.size
  same : ∀ (k : Nat) (o : Obj), X.heap[k]? = some o → o.isCells = true → Y.heap[k]? = some o
theorem TurnT.ck {B0 : Nat} {X Y : World} (h : TurnT B0 X Y) : Ck X Y := ⟨h.size, fun k o ho hc => h.cells ho hc⟩
theorem Ck.ofKp {X Y : World} (h : Kp [] X Y) : Ck X Y := ⟨h.size, fun k o ho _ => (h.block k (Array.getElem?_eq_some_iff.1 ho).1 (by simp)).trans ho⟩
theorem Ck.block {X Y : World} (h : Ck X Y) {a : Addr} (hc : (X.cell? a).isSome = true) : Y.heap[a.block]? = X.heap[a.block]? := by
  obtain ⟨v, hv⟩ := Option.isSome_iff_exists.1 hc
  have hl := World.block_lt_of_cell? _ _ hv
  obtain ⟨o, ho⟩ : ∃ o, X.heap[a.block]? = some o := ⟨X.heap[a.block], by simp [hl]⟩
  have hoc : o.isCells = true := by
    unfold World.cell? at hv
    rw [ho] at hv
    cases o <;> simp_all [Obj.isCells]
  exact (h.same _ o ho hoc).trans ho.symm
theorem Ck.cell {X Y : World} (h : Ck X Y) {a : Addr} {v : Value} (hc : X.cell? a = some v) : Y.cell? a = some v := (World.cell?_of_block (h.block (by rw [hc]; rfl))).trans hc
theorem Ck.some {X Y : World} (h : Ck X Y) {a : Addr} (hc : (X.cell? a).isSome = true) : (Y.cell? a).isSome = true := by rw [World.cell?_of_block (h.block hc)]; exact hc
theorem Ck.frozen {X Y : World} (h : Ck X Y) {a : Addr} (hc : (X.cell? a).isSome = true) : Y.frozen? a = X.frozen? a := World.frozen?_of_block (h.block hc)
theorem Ck.row {X Y : World} (h : Ck X Y) {v : Value} {bs : List UInt8} (hr : Row X v bs) : Row Y v bs := by
  rcases hr with hr | ⟨g, o, cap, rfl, hl, hm, hg, hc, ht⟩
  · exact .inl hr
  · exact .inr ⟨g, o, cap, rfl, hl, hm, Nat.lt_of_lt_of_le hg h.size, fun j u hu => h.cell (hc j u hu), fun j hj => ⟨h.some (ht j hj).1, (h.frozen (ht j hj).1).trans (ht j hj).2⟩⟩
theorem Ck.rowE {α : Type} [Inhabited α] {E : El α} {X Y : World} (h : Ck X Y) {v : Value} {l : List α} (hr : E.Row X v l) : E.Row Y v l := by
  rcases hr with hr | ⟨g, o, cap, rfl, hl, hm, hg, hc, ht⟩
  · exact .inl hr
  · exact .inr ⟨g, o, cap, rfl, hl, hm, Nat.lt_of_lt_of_le hg h.size, fun j u hu => h.cell (hc j u hu), fun j hj => ⟨h.some (ht j hj).1, (h.frozen (ht j hj).1).trans (ht j hj).2⟩⟩
theorem Ck.seesE {α : Type} [Inhabited α] {E : El α} {X Y : World} (h : Ck X Y) {a : Option Addr} {l : List α} (hr : E.See X a l) : E.See Y a l := by
  rcases hr with hr | ⟨g, o, e, hc⟩
  · exact .inl hr
  · exact .inr ⟨g, o, e, fun j u hu => h.cell (hc j u hu)⟩
theorem Ck.sees {X Y : World} (h : Ck X Y) {a : Option Addr} {bs : List UInt8} (hr : Sees X a bs) : Sees Y a bs := by
  rcases hr with hr | ⟨g, o, e, hc⟩
  · exact .inl hr
  · exact .inr ⟨g, o, e, fun j u hu => h.cell (hc j u hu)⟩
/-- A box of one cell. -/
structure B1 (w : World) (q : Nat) (a : Value) : Prop where
  c0 : w.cell? ⟨q, 0, none⟩ = some a
  free : w.frozen? ⟨q, 0, none⟩ = false
theorem B1.at {w : World} (q : Nat) (hq : w.heap.size = q) (a : Value) (t : TypeId) : B1 (w.alloc (.cells #[a] t)) q a := by
  subst hq
  exact ⟨World.cell?_alloc_new w _ _ 0, World.frozen?_alloc_new w _ _ 0⟩
theorem B1.lt {w : World} {q : Nat} {a : Value} (h : B1 w q a) : q < w.heap.size := World.block_lt_of_cell? _ _ h.c0
theorem B1.keptS {w w' : World} {q : Nat} {a : Value} {S : List Nat} (h : B1 w q a) (hk : Kp S w w') (hq : q ∉ S) : B1 w' q a :=
  ⟨(hk.cell (p := ⟨q, _, none⟩) h.lt hq).trans h.c0, (hk.frozen (p := ⟨q, _, none⟩) h.lt hq).trans h.free⟩
theorem B1.kept {w w' : World} {q : Nat} {a : Value} (h : B1 w q a) (hk : Kp [] w w') : B1 w' q a := h.keptS hk (by simp)
theorem B1.ck {X Y : World} {q : Nat} {a : Value} (hb : B1 X q a) (h : Ck X Y) : B1 Y q a := ⟨h.cell hb.c0, (h.frozen (by rw [hb.c0]; rfl)).trans hb.free⟩
theorem B2.ck {X Y : World} {q : Nat} {a b : Value} (hb : B2 X q a b) (h : Ck X Y) : B2 Y q a b := by
  have e := h.block (a := ⟨q, 0, none⟩) (by rw [hb.c0]; rfl)
  exact ⟨h.cell hb.c0, h.cell hb.c1, fun j => (World.frozen?_of_block (a := ⟨q, j, none⟩) e).trans (hb.free j)⟩
theorem B1.set {w : World} {q : Nat} {a : Value} (h : B1 w q a) (u : Value) : B1 (w.setCell ⟨q, 0, none⟩ u) q u := ⟨World.cell?_setCell_same _ _ _ h.c0, (World.frozen?_setCell _ _ _ _).trans h.free⟩
theorem Kp.turn {w X Y : World} {B0 : Nat} (h : Kp [] w X) (ht : TurnT B0 X Y) (hB : w.heap.size ≤ B0) : Kp [] w Y :=
  ⟨ht.os.trans h.os, ht.tape.trans h.tape, ht.output.trans h.output, Nat.le_trans h.size ht.size, fun k hk hn => (ht.low (Nat.lt_of_lt_of_le hk h.size) (by omega)).trans (h.block k hk hn)⟩
end Go.Proofs.Ytllhmbemcmigoaa
end

section
namespace Go.Proofs.Ytllhmbemcmigoaa
open Go.RowKit Go.Hay
set_option linter.unusedVariables false
set_option linter.unusedSimpArgs false

theorem Row.put {w : World} {g o n cap : Nat} {bs : List UInt8} (h : Row w (.slice (some ⟨g, o, none⟩) n cap) bs) (i : Nat) (hi : i < bs.length) (y : UInt8) : Row (w.setCell ⟨g, o + i, none⟩ (.int .u8 y.toNat)) (.slice (some ⟨g, o, none⟩) n cap) (bs.set i y) := by
  rcases h with ⟨e, rfl⟩ | ⟨g, o, c, e, hl, hx, hg, hc, ht⟩
  · cases e
  · cases e
    refine .inr ⟨_, _, _, by rw [List.length_set], by rw [List.length_set]; exact hl, hx, by simpa [World.setCell] using hg, fun j u hu => ?_, fun j hj => ⟨?_, (World.frozen?_setCell _ _ _ _).trans (ht j hj).2⟩⟩
    · by_cases e : j = i
      · subst e
        rw [List.getElem?_set_self hi] at hu
        cases hu
        exact World.cell?_setCell_same _ _ _ (hc j bs[j] (by simp [hi]))
      · rw [List.getElem?_set_ne (Ne.symm e)] at hu
        rw [World.cell?_setCell_other _ _ _ _ (by intro h; simp only [Addr.mk.injEq] at h; omega)]
        exact hc j u hu
    · by_cases e : j = i
      · subst e
        rw [World.cell?_setCell_same _ _ _ (hc j bs[j] (by simp [hi]))]
        rfl
      · rw [World.cell?_setCell_other _ _ _ _ (by intro h; simp only [Addr.mk.injEq] at h; omega)]
        exact (ht j hj).1
theorem rowAt {w : World} {a : Option Addr} {n c : Nat} {bs : List UInt8} (h : Row w (.slice a n c) bs) {i : Nat} {y : UInt8} (hy : bs[i]? = some y) : ∃ g o, a = some ⟨g, o, none⟩ ∧ n = bs.length ∧ w.cell? ⟨g, o + i, none⟩ = some (.int .u8 y.toNat) ∧ w.frozen? ⟨g, o + i, none⟩ = false := by
  have hi : i < bs.length := (List.getElem?_eq_some_iff.1 hy).1
  rcases h with ⟨e, rfl⟩ | ⟨g, o, cap, e, hl, hx, hg, hc, ht⟩
  · simp at hy
  · cases e
    exact ⟨g, o, rfl, rfl, hc i y hy, (ht i (by omega)).2⟩
theorem u8add (y : UInt8) (n : Nat) (hn : n < 256) : IntKind.u8.wrap ((y.toNat : Int) + n) = ((UInt8.ofNat (y.toNat + n)).toNat : Int) := by
  have h := UInt8.toNat_lt y
  have e : (UInt8.ofNat (y.toNat + n)).toNat = (y.toNat + n) % 256 := by simp
  rw [e]
  simp [IntKind.wrap, IntKind.bits, IntKind.signed]
theorem infoU : ∃ i : TypeInfo, Try.prog.info? 5 = some i ∧ i.zero = some (.int .u8 0) ∧ i.size = 1 ∧ i.bytes = 1 := info3 (by kernel_rfl)
/-- What a slice sees, onto nothing: a copy of the call's own, for the walk. -/
theorem wpAppOwn {w : World} {ops : Array Oper} {rest : List Oper} {o : Oper} {a : Act} {Q : Exit → Act → World → Prop} (hgd : o.guard = none) (s x : Operand)
    (ho : o.op = .call { callee := .builtin .append, args := #[s, x], argTypes := #[37, 37] })
    (hv : a.eval s = .slice none 0 0) (sa : Option Addr) (c : Nat) (bs : List UInt8) (hx : a.eval x = .slice sa bs.length c) (hs : Sees w sa bs) (hb : bs.length ≤ 140737488355328)
    (hK : ∀ ys a' c' w', Hid (ys = bs) → Row w' (.slice a' ys.length c') ys → Kp [] w w' → (∀ k ∈ blk a', w.heap.size ≤ k ∧ k < w'.heap.size) → wpList Try.prog ops Q rest (a.put o.dst (.slice a' ys.length c')) w') : wpList Try.prog ops Q (o :: rest) a w := by
  obtain ⟨i0, hi, hz0, hz1, hz2⟩ := infoU
  refine wpList_append_src _ hgd s x 37 37 ho i0 Try.underlying37 hi hz0 hz1 hz2 (.slice none 0 0) [] hv (Row.nil w) _ bs hx (hs.src Try.underlying37 c) (by simp only [List.length_nil]; omega) (fun v' w' h1 h2 h3 => ?_)
  obtain ⟨a', c', rfl, _⟩ := h1.shape
  have hlt := h1.lt
  rw [own_slice] at hlt
  refine hK _ a' c' w' rfl h1 (h2.mono (by simp [own, Value.ownBlock])) (fun k hk => ⟨?_, hlt k hk⟩)
  rcases h3 k (by rw [own_slice]; exact hk) with h | h
  · simp [own, Value.ownBlock] at h
  · exact h
end Go.Proofs.Ytllhmbemcmigoaa
end

section
namespace Go.Proofs.Ytllhmbemcmigoaa
open Go.RowKit Go.Hay
set_option linter.unusedVariables false
set_option linter.unusedSimpArgs false

def hit (l : List Msg) (to : Int) (k : Nat) : Bool := match l[k]? with | some m => m.to == to | none => false
theorem hit_yes {l : List Msg} {to : Int} {k : Nat} {m : Msg} (h : l[k]? = some m) (e : m.to = to) : hit l to k = true := by unfold hit; rw [h]; simpa using e
theorem hit_no {l : List Msg} {to : Int} {k : Nat} {m : Msg} (h : l[k]? = some m) (e : m.to ≠ to) : hit l to k = false := by unfold hit; rw [h]; simpa using e
/-- The places ahead of i. -/
def ats (l : List Msg) (to : Int) (i : Nat) : List Int := ((List.range i).filter (hit l to)).map fun (k : Nat) => (k : Int)
theorem ats_zero (l : List Msg) (to : Int) : ats l to 0 = [] := rfl
theorem ats_succ (l : List Msg) (to : Int) (i : Nat) : ats l to (i + 1) = if hit l to i = true then ats l to i ++ [(i : Int)] else ats l to i := by
  unfold ats
  rw [List.range_succ, List.filter_append, List.map_append]
  by_cases h : hit l to i = true <;> simp [h]
theorem ats_yes {l : List Msg} {to : Int} {i : Nat} (h : hit l to i = true) : ats l to (i + 1) = ats l to i ++ [(i : Int)] := by rw [ats_succ, if_pos h]
theorem ats_no {l : List Msg} {to : Int} {i : Nat} (h : hit l to i = false) : ats l to (i + 1) = ats l to i := by rw [ats_succ, if_neg (by rw [h]; simp)]
theorem ats_len (l : List Msg) (to : Int) (i : Nat) : (ats l to i).length ≤ i := by
  unfold ats
  rw [List.length_map]
  exact Nat.le_trans (List.length_filter_le _ _) (by simp)
theorem ats_mono (l : List Msg) (to : Int) (i d : Nat) : ∃ t, ats l to (i + d) = ats l to i ++ t := by
  induction d with
  | zero => exact ⟨[], by simp⟩
  | succ d ih =>
    obtain ⟨t, ht⟩ := ih
    rw [← Nat.add_assoc, ats_succ]
    split
    · exact ⟨t ++ [((i + d : Nat) : Int)], by rw [ht]; simp⟩
    · exact ⟨t, ht⟩
theorem ats_skip {l : List Msg} {to : Int} {i j : Nat} (hij : i ≤ j) (h : ∀ k m, i ≤ k → k < j → l[k]? = some m → m.to ≠ to) : ats l to j = ats l to i := by
  obtain ⟨d, rfl⟩ : ∃ d, j = i + d := ⟨j - i, by omega⟩
  clear hij
  induction d with
  | zero => rfl
  | succ d ih =>
    rw [← Nat.add_assoc, ats_no, ih (fun k m h1 h2 => h k m h1 (by omega))]
    unfold hit
    cases hm : l[i + d]? with
    | none => rfl
    | some m => simpa using h (i + d) m (by omega) (by omega) hm
/-- Where one is told, its place stands there among all. -/
theorem ats_at {l : List Msg} {to : Int} {i : Nat} {m : Msg} (h : l[i]? = some m) (e : m.to = to) : (ats l to l.length)[(ats l to i).length]? = some (i : Int) ∧ (ats l to i).length < (ats l to l.length).length := by
  have hl := (List.getElem?_eq_some_iff.1 h).1
  obtain ⟨t, ht⟩ := ats_mono l to (i + 1) (l.length - (i + 1))
  rw [show i + 1 + (l.length - (i + 1)) = l.length by omega, ats_yes (hit_yes h e)] at ht
  rw [ht]
  simp
def IntE : El Int where
  n := 1
  c x := [.int .i64 x]
  len _ := rfl
  one _ u hu := by simp at hu; subst hu; rfl
  pos := by decide
theorem intE_at {w : World} {a : Option Addr} {l : List Int} (h : IntE.See w a l) {k : Nat} {x : Int} (hx : l[k]? = some x) : ∃ g o, a = some ⟨g, o, none⟩ ∧ w.cell? ⟨g, o + k, none⟩ = some (.int .i64 x) := by
  obtain ⟨g, o, e, hc⟩ := h.at hx
  refine ⟨g, o, e, ?_⟩
  have := hc 0 _ rfl
  simpa [IntE] using this
theorem intE_one (w : World) {q : Nat} (hq : w.heap.size = q) (x : Int) (t : TypeId) : IntE.See (w.alloc (.cells #[.int .i64 x] t)) (some ⟨q, 0, none⟩) [x] := by
  subst hq
  refine .inr ⟨_, 0, rfl, fun j u hu => ?_⟩
  have e : (w.alloc (.cells #[.int .i64 x] t)).cell? ⟨w.heap.size, 0 + j, none⟩ = _ := World.cell?_alloc_new w _ _ (0 + j)
  rw [e]
  simp [El.cs, IntE] at hu
  simp [hu]
theorem infoI : ∃ i : TypeInfo, Try.prog.info? 3 = some i ∧ i.zero = some (.int .i64 0) ∧ i.size = 1 ∧ i.bytes = 8 := info3 (by kernel_rfl)
/-- Where the places are gathered: boxes of the reference's net, of what is handed back, of the places. -/
structure TI (w : World) (r : RN) (va : Value) (L : List Int) (W : World) : Prop where
  kp : Kp [] w W
  rb : B2 W w.heap.size (.int .i64 r.room) (.slice r.la r.l.length r.lc)
  res : B1 W (w.heap.size + 1) (.bool false)
  box : B1 W (w.heap.size + 1 + 1) va
  row : IntE.Row W va L
  new : ∀ k ∈ own va, w.heap.size + 3 ≤ k
theorem TI.keptS {w : World} {r : RN} {va : Value} {L : List Int} {W W' : World} {S : List Nat} (h : TI w r va L W) (hk : Kp S W W') (hS : ∀ k ∈ S, w.heap.size + 3 ≤ k) (hv : ∀ k ∈ own va, k ∉ S) : TI w r va L W' :=
  ⟨h.kp.trans hk (fun k hk => .inr (by have := hS k hk; omega)), h.rb.keptS hk (fun hm => by have := hS _ hm; omega), h.res.keptS hk (fun hm => by have := hS _ hm; omega), h.box.keptS hk (fun hm => by have := hS _ hm; omega), h.row.kept hk hv, h.new⟩
theorem TI.kept {w : World} {r : RN} {va : Value} {L : List Int} {W W' : World} (h : TI w r va L W) (hk : Kp [] W W') : TI w r va L W' := h.keptS hk (by simp) (by simp)
theorem TI.turn {w : World} {r : RN} {va : Value} {L : List Int} {W W' : World} {B0 : Nat} (h : TI w r va L W) (ht : TurnT B0 W W') (hB : w.heap.size ≤ B0) : TI w r va L W' :=
  ⟨Kp.turn h.kp ht hB, h.rb.ck ht.ck, h.res.ck ht.ck, h.box.ck ht.ck, ht.ck.rowE h.row, h.new⟩
theorem TI.size {w : World} {r : RN} {va : Value} {L : List Int} {W : World} (h : TI w r va L W) : w.heap.size + 3 ≤ W.heap.size := by have := h.box.lt; omega
theorem TI.stored {w : World} {r : RN} {va va' : Value} {L L' : List Int} {W W0 W1 : World} (h : TI w r va L W) (k0 : Kp [] W W0) (hr : IntE.Row W1 va' L') (hg : Kp (own va) W0 W1) (hn : ∀ k ∈ own va', k ∈ own va ∨ W0.heap.size ≤ k) : B1 W1 (w.heap.size + 1 + 1) va ∧ TI w r va' L' (W1.setCell ⟨w.heap.size + 1 + 1, 0, none⟩ va') := by
  have hsz := h.size
  have hz0 := k0.size
  have h0 := h.kept k0
  have n' : ∀ k ∈ own va', w.heap.size + 3 ≤ k := fun k hk => by rcases hn k hk with h1 | h1; exact h.new k h1; omega
  have no : ∀ q, q < w.heap.size + 3 → q ∉ own va := fun q hq hm => by have := h.new q hm; omega
  have b1 : B1 W1 (w.heap.size + 1 + 1) va := h0.box.keptS hg (no _ (by omega))
  have ks : Kp [w.heap.size + 1 + 1] W1 (W1.setCell ⟨w.heap.size + 1 + 1, 0, none⟩ va') := (Kp.refl _ _).setCell (p := ⟨w.heap.size + 1 + 1, 0, none⟩) (by simp) _
  refine ⟨b1, ⟨(h0.kp.trans hg (fun k hk => .inr (by have := h.new k hk; omega))).trans ks (fun k hk => .inr (by simp at hk; omega)), (h0.rb.keptS hg (no _ (by omega))).keptS ks (by simp <;> omega), (h0.res.keptS hg (no _ (by omega))).keptS ks (by simp <;> omega), b1.set _, hr.kept ks (fun k hk hm => ?_), n'⟩⟩
  have := n' k hk
  simp at hm
  omega
/-- How the caller's memory stands between two rounds: k counts those that have come. -/
structure TlI (w : World) (r : RN) (n : Nt) (to : Int) (va : Value) (q wl : Nat) (s : Sb) (W : World) : Prop where
  ti : TI w r va (ats n.l to n.l.length) W
  kb : B1 W q (.int .i64 ((ats n.l to s.i).length : Int))
  mb : s.made = true → wl + 2 ≤ s.B0
  js : ∀ j ∈ s.js, (j < wl ∧ s.made = false) ∨ wl + 2 ≤ j
  jl : ∀ j ∈ s.js, j < W.heap.size
  un : s.made = false → s.v = none
  gv : ∀ u, s.v = some u → ∃ m, n.l[s.i]? = some m ∧ m.to = to ∧ Row W u m.body ∧ ∀ k ∈ own u, wl ≤ k ∧ k ∉ s.js
section
variable {w : World} {r : RN} {n : Nt} {to : Int} {va : Value} {q wl : Nat}
theorem TlI.ownF (hq : w.heap.size + 3 ≤ wl) : OwnFrom wl (TlI w r n to va q wl) := fun s X Y row h hg hr => by
  have ht : TurnT wl X Y := TurnT.ofGrown hg hr
  exact ⟨h.ti.turn ht (by omega), h.kb.ck ht.ck, h.mb, h.js, fun j hj => Nat.lt_of_lt_of_le (h.jl j hj) ht.size, h.un, fun u hu => by
    obtain ⟨m, h1, h2, h3, h4⟩ := h.gv u hu
    exact ⟨m, h1, h2, ht.ck.row h3, h4⟩⟩
theorem StepT.low {l : List Msg} {s s' : Sb} {A B : World} (hm : s.made = true → wl + 2 ≤ s.B0) (hz : wl + 2 ≤ A.heap.size) (ht : StepT l to s s' A B) : wl + 2 ≤ s'.B0 := by
  cases e : s.made with
  | true => have := ht.stays e; have := hm e; omega
  | false => have := (ht.makes e).2.1; omega
theorem TlI.step (hq : w.heap.size + 3 ≤ wl) (s s' : Sb) (A B : World) (hz : wl + 2 ≤ A.heap.size) (h : TlI w r n to va q wl s A) (ht : StepT n.l to s s' A B) : TlI w r n to va q wl s' B := by
  have hB := StepT.low h.mb hz ht
  have ea : ats n.l to s'.i = ats n.l to s.i := ats_skip ht.on ht.skip
  have made' : s'.made = true := by
    cases e : s.made with
    | true => exact (ht.stays e).1
    | false => exact (ht.makes e).1
  refine ⟨h.ti.turn ht.turn (by omega), by rw [ea]; exact h.kb.ck ht.turn.ck, fun _ => hB, fun j hj => .inr ?_, fun j hj => ?_, fun e => (by rw [made'] at e; cases e), fun u hu => ?_⟩
  · cases e : s.made with
    | true =>
      rw [(ht.stays e).2.2] at hj
      rcases h.js j hj with h1 | h1
      · rw [e] at h1; cases h1.2
      · exact h1
    | false => have := (ht.makes e).2.2.1 j hj; omega
  · cases e : s.made with
    | true => rw [(ht.stays e).2.2] at hj; exact Nat.lt_of_lt_of_le (h.jl j hj) ht.turn.size
    | false => exact ((ht.makes e).2.2.1 j hj).2
  · rcases ht.given with h1 | ⟨u', m, h1, h2, h3, h4, h5⟩
    · rw [h1] at hu; cases hu
    · rw [h1] at hu
      cases hu
      refine ⟨m, h2, h3, h4, fun k hk => ⟨by have := h5 k hk; omega, fun hm => ?_⟩⟩
      cases e : s.made with
      | true => rw [(ht.stays e).2.2] at hm; have := h.jl k hm; have := h5 k hk; omega
      | false => rw [(ht.makes e).2.2.2] at h1; cases h1
theorem TlI.keeps {s s' : Sb} {A B : World} (hm : s.made = true → wl + 2 ≤ s.B0) (ht : StepT n.l to s s' A B) (k : Nat) (o : Obj) (hk : k = wl ∨ k = wl + 1) (ho : A.heap[k]? = some o) : B.heap[k]? = some o := by
  have hl := (Array.getElem?_eq_some_iff.1 ho).1
  refine (ht.turn.low hl ?_).trans ho
  cases e : s.made with
  | true => have := (ht.stays e).2.1; have := hm e; omega
  | false => have := (ht.makes e).2.1; omega
theorem TlI.recs {s : Sb} {W : World} (hm : s.made = true → wl + 2 ≤ s.B0) (hj : ∀ j ∈ s.js, (j < wl ∧ s.made = false) ∨ wl + 2 ≤ j) (o' : Obj) : KeepT s W (W.putObj (wl + 1) o') :=
  KeepT.putObj (fun j hj' => by rcases hj j hj' with h | h <;> omega) (fun e => by have := hm e; omega) W o'
end
end Go.Proofs.Ytllhmbemcmigoaa
end

section
namespace Go.Hay
open Go.RowKit
set_option linter.unusedVariables false

variable {P : Program} {l n : Nat}
theorem upon_round {o : Oper} {a : Act} {K : Act → World → Prop} {Q : Exit → Act → World → Prop} : ∀ {r : Result Next}, o.upon P a K Q r → o.uponIn (Fence.wide.inRound l) n P a K Q r := by
  intro r h
  have hdep : (Fence.wide.inRound l).depth.isSome = true → 1 ≤ n := fun h => by cases h
  unfold Oper.upon at h
  split at h
  · exact h
  · exact h
  · exact h
  · exact ⟨hdep, callsIn_wide.2 h⟩
  · refine ⟨hdep, fun c cs _ => ?_⟩
    obtain ⟨v, w', hr, hs⟩ := h c cs
    exact ⟨v, w', hr, stepsIn_wide.2 hs⟩
  · exact h
  · exact h.elim
theorem op_round {ops : Array Oper} {i : Nat} {K : Act → World → Prop} {Q : Exit → Act → World → Prop} {a : Act} {w : World} (hnd : ∀ o, ops[i]? = some o → ∀ c, o.op ≠ .defer c) (hlo : ¬ LetsOut Q) (h : wpOp P ops Q i K a w) : wpOpIn (Fence.wide.inRound l) n P ops Q i K a w := by
  unfold wpOp at h
  unfold wpOpIn
  cases ho : ops[i]? with
  | none => rw [ho] at h; exact h
  | some o =>
    rw [ho] at h
    simp only at h ⊢
    split
    · rename_i hw
      rw [if_pos hw] at h
      rcases h with h | h
      · refine ⟨fun _ _ => trivial, ?_⟩
        rw [Oper.semAt_plain _ _ _ (hnd o ho)]
        exact upon_round h
      · exact absurd h.2 hlo
    · rename_i hw
      rw [if_neg hw] at h
      exact ⟨fun _ _ => trivial, h⟩
theorem any_round {ops : Array Oper} {Q : Exit → Act → World → Prop} {S : World → Prop} (hnd : ∀ (i : Nat) (o : Oper), ops[i]? = some o → ∀ c, o.op ≠ .defer c) (hlo : ¬ LetsOut Q) : ∀ (fuel : Nat) (listed : Array Bool) (a : Act) (w : World), wpAnyH P .any ops Q S fuel listed a w → wpAnyIn (Fence.wide.inRound l) n P .any ops Q fuel listed a w
  | 0, _, _, _, h => h
  | fuel + 1, listed, a, w, h => ⟨h.1, fun i hi => op_round (hnd i) hlo (wpOp_mono (fun a w hk => any_round hnd hlo fuel _ a w hk.2) (h.2 i hi))⟩
def noDefer (ops : Array Oper) : Bool := ops.all fun o => match o.op with | .defer _ => false | _ => true
theorem noDefer_spec {ops : Array Oper} (h : noDefer ops = true) (i : Nat) (o : Oper) (ho : ops[i]? = some o) (c : Call) : o.op ≠ .defer c := fun e => by
  have := Array.all_eq_true.1 h i (Array.getElem?_eq_some_iff.1 ho).1
  rw [(Array.getElem?_eq_some_iff.1 ho).2, e] at this
  cases this
theorem region_round {id : Nat} {ops : Array Oper} {Q : Exit → Act → World → Prop} {a : Act} {w : World} (S : World → Prop) (hm : P.follows .mixedOrders = true) (hnd : noDefer ops = true) (hlo : ¬ LetsOut Q) (hS : S w.drew)
    (h : S w.drew → wpAnyH P .any ops Q S ops.size (Array.replicate ops.size false) a w.drew) : (Code.region id ops true).wpIn (Fence.wide.inRound l) n P Q a w :=
  wpIn_region_any hm (any_round (noDefer_spec hnd) hlo _ _ _ _ (h hS))
end Go.Hay
end

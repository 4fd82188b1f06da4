/- What is done to a clone is not seen at the net, nor the other way round: the law answers true, for every room and all scripts. -/
import Derived.Test.YtllhmbemcmigoaaB7
import Derived.Test.YtllhmbemcmigoaaB2
import Derived.Test.YtllhmbemcmigoaaB3
import Derived.SizedLaws
import Derived.JoinedCond
import Derived.Deep.CondSized
section
namespace Go.Proofs.Ytllhmbemcmigoaa
open Go.RowKit Go.Hay
set_option linter.unusedVariables false
set_option linter.unusedSimpArgs false

theorem box3W (s0 s1 s2 : Value) (w : World) : ∃ wb, w.alloc (.cells #[s0, s1, s2] 34) = wb ∧ Kp [] w wb ∧ wb.cell? ⟨w.heap.size, 0, none⟩ = some s0 ∧ wb.cell? ⟨w.heap.size, 1, none⟩ = some s1 ∧ wb.cell? ⟨w.heap.size, 2, none⟩ = some s2 ∧ wb.heap.size = w.heap.size + 1 :=
  ⟨_, rfl, (Kp.refl _ _).alloc _, World.cell?_alloc_new w _ _ 0, World.cell?_alloc_new w _ _ 1, World.cell?_alloc_new w _ _ 2, by simp⟩
/-- Behind a run that began with a box beside it, and the store of the reference into the box. -/
theorem runBox {W w x3 : World} {p p2 q : Nat} {v v2 : Value} {r0 r : RN} {n : Nt} {b0 b1 : Value} (mv : MvN W w (p :: own v) r0.foot p2 v2 r x3) (P : PN W x3 p2 v2 r n) (hb : (B2 w q b0 b1 ∧ q ∉ p :: own v ∧ q ∉ r0.foot) ∨ (B2 x3 q b0 b1 ∧ q ∉ p2 :: own v2 ∧ q ∉ r.foot)) (hq : W.heap.size ≤ q) :
    B2 x3 q b0 b1 ∧ q ∉ p2 :: own v2 ∧ q ∉ r.foot := by
  rcases hb with ⟨h1, h2, h3⟩ | h
  · have hl := h1.lt
    refine ⟨h1.keptS mv.kp h2, fun h => ?_, fun h => ?_⟩
    · rcases mv.net q h with h | h
      · exact h2 h
      · omega
    · rcases mv.ref q h with h | h | h
      · exact h3 h
      · omega
      · omega
  · exact h
theorem PN.stored {W w w' : World} {p q : Nat} {v : Value} {r : RN} {n : Nt} (P : PN W w p v r n) (k : Kp [q] w w') (h1 : q ∉ p :: own v) (h2 : q ∉ r.foot) (h3 : W.heap.size ≤ q) : PN W w' p v r n :=
  P.keepS k (by simpa using h1) (by simpa using h2) (by simpa using h3)
/-- Two nets and their references, each reference in a box of its own, beside each other. -/
structure TwoN (W w : World) (p1 : Nat) (v1 : Value) (r1 : RN) (n1 : Nt) (q1 p2 : Nat) (v2 : Value) (r2 : RN) (n2 : Nt) (q2 : Nat) : Prop where
  A : PN W w p1 v1 r1 n1
  B : PN W w p2 v2 r2 n2
  b1 : B2 w q1 (.int .i64 r1.room) (.slice r1.la r1.l.length r1.lc)
  b2 : B2 w q2 (.int .i64 r2.room) (.slice r2.la r2.l.length r2.lc)
  g1 : W.heap.size ≤ q1
  g2 : W.heap.size ≤ q2
  qq : q1 ≠ q2
  nn : ∀ k ∈ p1 :: own v1, k ∉ p2 :: own v2
  r12 : ∀ k ∈ r1.foot, k ∉ p2 :: own v2
  r21 : ∀ k ∈ r2.foot, k ∉ p1 :: own v1
  q1a : q1 ∉ p1 :: own v1
  q1b : q1 ∉ p2 :: own v2
  q2a : q2 ∉ p1 :: own v1
  q2b : q2 ∉ p2 :: own v2
  q1r : q1 ∉ r1.foot
  q1s : q1 ∉ r2.foot
  q2r : q2 ∉ r1.foot
  q2s : q2 ∉ r2.foot
theorem TwoN.swap {W w : World} {p1 : Nat} {v1 : Value} {r1 : RN} {n1 : Nt} {q1 p2 : Nat} {v2 : Value} {r2 : RN} {n2 : Nt} {q2 : Nat} (h : TwoN W w p1 v1 r1 n1 q1 p2 v2 r2 n2 q2) : TwoN W w p2 v2 r2 n2 q2 p1 v1 r1 n1 q1 :=
  ⟨h.B, h.A, h.b2, h.b1, h.g2, h.g1, Ne.symm h.qq, fun k hk h' => h.nn k h' hk, h.r21, h.r12, h.q2b, h.q2a, h.q1b, h.q1a, h.q2s, h.q2r, h.q1s, h.q1r⟩
theorem TwoN.keep {W w w' : World} {p1 : Nat} {v1 : Value} {r1 : RN} {n1 : Nt} {q1 p2 : Nat} {v2 : Value} {r2 : RN} {n2 : Nt} {q2 : Nat} (h : TwoN W w p1 v1 r1 n1 q1 p2 v2 r2 n2 q2) (k : Kp [] w w') : TwoN W w' p1 v1 r1 n1 q1 p2 v2 r2 n2 q2 :=
  ⟨h.A.keep k, h.B.keep k, h.b1.kept k, h.b2.kept k, h.g1, h.g2, h.qq, h.nn, h.r12, h.r21, h.q1a, h.q1b, h.q2a, h.q2b, h.q1r, h.q1s, h.q2r, h.q2s⟩
/-- Behind a call of step on the first, and the store of its reference. -/
theorem TwoN.step {W w w4 w5 : World} {p1 : Nat} {v1 : Value} {r1 : RN} {n1 : Nt} {q1 p2 : Nat} {v2 : Value} {r2 : RN} {n2 : Nt} {q2 : Nat} (h : TwoN W w p1 v1 r1 n1 q1 p2 v2 r2 n2 q2) {o : NOp} (ho : o.ok W) {p' : Nat} {v' : Value} {r' : RN} {n' : Nt}
    (hD : Net w4 p' v' n') (hR : RnOk w4 r') (hL : LikeN r' n') (kk : Kp (p1 :: own v1) w w4) (m1 : ∀ k ∈ p' :: own v', k ∈ p1 :: own v1 ∨ w.heap.size ≤ k) (m2 : ∀ k ∈ r'.foot, k ∈ r1.foot ++ o.ft ∨ w.heap.size ≤ k) (m3 : ∀ k ∈ r'.foot, k ∉ p' :: own v') (k5 : Kp [q1] w4 w5) (b5 : B2 w5 q1 (.int .i64 r'.room) (.slice r'.la r'.l.length r'.lc)) : TwoN W w5 p' v' r' n' q1 p2 v2 r2 n2 q2 := by
  have hf : ∀ k ∈ r'.foot, k ∈ r1.foot ∨ k < W.heap.size ∨ w.heap.size ≤ k := fun k hk => by
    rcases m2 k hk with h1 | h1
    · rcases List.mem_append.1 h1 with h1 | h1
      · exact .inl h1
      · unfold NOp.ft at h1
        split at h1
        · cases h1
        · rename_i hne; exact .inr (.inl (ho.raw.see.lt hne k h1))
    · exact .inr (.inr h1)
  have l1 := h.b1.lt
  have l2 := h.b2.lt
  have lB := h.B.D.ltAll
  have lr := h.B.R.lt
  obtain ⟨P5, f1, f2⟩ := pnStep h.A ho l1 h.g1 h.q1a h.q1r hD hR hL kk m1 m2 m3 k5
  have kB : Kp (q1 :: p1 :: own v1) w w5 := (kk.mono (T := q1 :: p1 :: own v1) (fun k hk => .inl (List.mem_cons_of_mem _ hk))).trans k5 (fun k hk => .inl (by simp at hk; simp [hk]))
  have nB : ∀ k ∈ q1 :: p1 :: own v1, k ∉ p2 :: own v2 := fun k hk => by
    rcases List.mem_cons.1 hk with rfl | hk
    · exact h.q1b
    · exact h.nn k hk
  have nR : ∀ k ∈ q1 :: p1 :: own v1, k ∉ r2.foot := fun k hk h' => by
    rcases List.mem_cons.1 hk with rfl | hk
    · exact h.q1s h'
    · exact h.r21 k h' hk
  have q2n : q2 ∉ q1 :: p1 :: own v1 := fun hk => by
    rcases List.mem_cons.1 hk with e | hk
    · exact h.qq e.symm
    · exact h.q2a hk
  refine ⟨P5, h.B.keepS kB nB nR (fun k hk => ?_), b5, h.b2.keptS kB q2n, h.g1, h.g2, h.qq, fun k hk h' => ?_, fun k hk h' => ?_, fun k hk h' => ?_, f1, h.q1b, fun h' => ?_, h.q2b, f2, h.q1s, fun h' => ?_, h.q2s⟩
  · rcases List.mem_cons.1 hk with rfl | hk
    · exact h.g1
    · exact h.A.nw k hk
  · rcases m1 k hk with h1 | h1
    · exact h.nn k h1 h'
    · have := lB k h'; omega
  · rcases hf k hk with h1 | h1 | h1
    · exact h.r12 k h1 h'
    · have := h.B.nw k h'; omega
    · have := lB k h'; omega
  · rcases m1 k h' with h1 | h1
    · exact h.r21 k hk h1
    · have := lr k hk; omega
  · rcases m1 _ h' with h1 | h1
    · exact h.q2a h1
    · omega
  · rcases hf _ h' with h1 | h1 | h1
    · exact h.q2r h1
    · have := h.g2; omega
    · omega

set_option maxHeartbeats 16000000 in
set_option maxRecDepth 100000 in
theorem clnWalk (room : Int) (a0 : Option Addr) (c0 : Nat) (l0 : List NOp) (a1 : Option Addr) (c1 : Nat) (l1 : List NOp) (a2 : Option Addr) (c2 : Nat) (l2 : List NOp) (W : World)
    (hs0 : NOpE.See W a0 l0) (hok0 : ∀ o ∈ l0, o.ok W) (hf0 : ∀ o ∈ l0, FewO o) (hn0 : l0.length ≤ 2940000000000) (hs1 : NOpE.See W a1 l1) (hok1 : ∀ o ∈ l1, o.ok W) (hf1 : ∀ o ∈ l1, FewO o) (hn1 : l1.length ≤ 2940000000000) (hs2 : NOpE.See W a2 l2) (hok2 : ∀ o ∈ l2, o.ok W) (hf2 : ∀ o ∈ l2, FewO o) (hn2 : l2.length ≤ 2940000000000) :
    Calls Try.prog 4 #[.int .i64 room, .agg #[.slice a0 l0.length c0, .slice a1 l1.length c1, .slice a2 l2.length c2]] W (fun e W' => e = .returned (.bool true) ∧ Below W.heap.size W W') := by
  obtain ⟨Wb, hWb, kb, y0, y1, y2, hzb⟩ := box3W (.slice a0 l0.length c0) (.slice a1 l1.length c1) (.slice a2 l2.length c2) W
  have hWb' := hid hWb
  have hzb' := hid hzb
  clear hWb hzb
  go_enter Try.func4, Try.ntmps4
  go_wp2_with fail
  rw [hWb'.out]
  refine (cBegun room Wb).mono ?_
  rintro e w1 ⟨p, rfl, hN1, k1, hp⟩
  obtain ⟨Qj, hQj⟩ : ∃ Qj : Exit → Act → World → Prop, Qj = fun e a' w' => e = Exit.normal ∧ ∃ (q p2 : Nat) (v2 : Value) (n : Nt) (r r0 : RN), PN Wb w' p2 v2 r n ∧ Smalls n ∧ n.l.length ≤ 0 + l0.length ∧ B2 w' q (.int .i64 r.room) (.slice r.la r.l.length r.lc) ∧ Wb.heap.size ≤ q ∧ q ∉ p2 :: own v2 ∧ q ∉ r.foot ∧ a' = { tmps := #[.int .i64 room, .agg #[.slice a0 l0.length c0, .slice a1 l1.length c1, .slice a2 l2.length c2], undef, .pointer (some ⟨W.heap.size, 0, none⟩), .bool false, .pointer (some ⟨p2, 0, none⟩), .bool true, .pointer (some ⟨q, 0, none⟩), undef, undef, undef, .tuple #[.pointer (some ⟨p, 0, none⟩), .bool true], .int .i64 room, .tuple #[.pointer (some ⟨p, 0, none⟩), .bool true], .pointer (some ⟨p, 0, none⟩), .bool true, .bool true, .bool false, .tuple #[.pointer (some ⟨p2, 0, none⟩), .agg #[.int .i64 r.room, .slice r.la r.l.length r.lc], .bool true], .pointer (some ⟨p, 0, none⟩), .int .i64 room, r0.v, .pointer (some ⟨W.heap.size, 0, none⟩), .slice a0 l0.length c0, .tuple #[.pointer (some ⟨p2, 0, none⟩), .agg #[.int .i64 r.room, .slice r.la r.l.length r.lc], .bool true], .pointer (some ⟨p2, 0, none⟩), .agg #[.int .i64 r.room, .slice r.la r.l.length r.lc], .bool true, undef, undef, undef, undef, undef, undef, undef, undef, undef, undef, undef, undef, undef, undef, undef, undef, undef, undef, undef, undef, undef, undef, undef, undef, undef, undef, undef, undef, undef, undef, undef, undef, undef, undef, undef, undef, undef, undef, undef, undef, undef, undef, undef, undef, undef, undef, undef, undef, undef, undef, undef, undef, undef, undef, undef, undef, undef, undef, undef, undef, undef, undef, undef, undef, undef, undef, undef], defers := [] } := ⟨_, rfl⟩
  have hQp : Hid (∀ c (a b : Act) w, Qj (.panic c) a w → Qj (.panic c) b w) := fun c a b w h => by rw [hQj] at h; cases h.1
  have hQj' := hid hQj
  clear hQj
  have cR : Hid (∀ A (r0 : RN), PN Wb A p (.slice none 0 0) r0 ⟨room, []⟩ → Calls Try.prog 8 #[.pointer (some ⟨p, 0, none⟩), r0.v, .slice a0 l0.length c0] A (RunNR Wb A (p :: own (.slice none 0 0)) r0.foot (0 + l0.length))) := fun A r0 P => cRunM P (by intro m hm; simp at hm) (m0 := 0) (by simp) a0 c0 l0 (hs0.keptNew kb) (fun x hx => (hok0 x hx).kept (S := []) kb (by simp)) hf0 (by omega)
  have mkP : Hid (∀ X A (r0 : RN), Kp [] w1 X → Kp [] X A → RnOk A r0 → LikeN r0 ⟨room, []⟩ → (∀ k ∈ r0.foot, k ∈ ([] : List Nat) ∨ X.heap.size ≤ k) → PN Wb A p (.slice none 0 0) r0 ⟨room, []⟩) := fun X A r0 kX kA hR hL hft => pnNew (hN1.keptNew kX) (k1.trans kX (by simp)) hp hR hL kA hft
  have hpl := hN1.ltAll
  have hbw : Hid (∀ A, Kp [] Wb A → A.cell? ⟨W.heap.size, 0, none⟩ = some (.slice a0 l0.length c0)) := fun A kA => cell_kp kA y0
  have kd : Kp [] w1 w1.drew := (Kp.refl _ _).drew
  have fin : Hid (∀ (X Y : World) (q p2 : Nat) (v2 : Value) (n : Nt) (r r0 : RN) (a' : Act), PN Wb X p2 v2 r n → Smalls n → n.l.length ≤ 0 + l0.length → B2 Y q (.int .i64 r.room) (.slice r.la r.l.length r.lc) → Wb.heap.size ≤ q → q ∉ p2 :: own v2 → q ∉ r.foot → Kp [q] X Y → a' = { tmps := #[.int .i64 room, .agg #[.slice a0 l0.length c0, .slice a1 l1.length c1, .slice a2 l2.length c2], undef, .pointer (some ⟨W.heap.size, 0, none⟩), .bool false, .pointer (some ⟨p2, 0, none⟩), .bool true, .pointer (some ⟨q, 0, none⟩), undef, undef, undef, .tuple #[.pointer (some ⟨p, 0, none⟩), .bool true], .int .i64 room, .tuple #[.pointer (some ⟨p, 0, none⟩), .bool true], .pointer (some ⟨p, 0, none⟩), .bool true, .bool true, .bool false, .tuple #[.pointer (some ⟨p2, 0, none⟩), .agg #[.int .i64 r.room, .slice r.la r.l.length r.lc], .bool true], .pointer (some ⟨p, 0, none⟩), .int .i64 room, r0.v, .pointer (some ⟨W.heap.size, 0, none⟩), .slice a0 l0.length c0, .tuple #[.pointer (some ⟨p2, 0, none⟩), .agg #[.int .i64 r.room, .slice r.la r.l.length r.lc], .bool true], .pointer (some ⟨p2, 0, none⟩), .agg #[.int .i64 r.room, .slice r.la r.l.length r.lc], .bool true, undef, undef, undef, undef, undef, undef, undef, undef, undef, undef, undef, undef, undef, undef, undef, undef, undef, undef, undef, undef, undef, undef, undef, undef, undef, undef, undef, undef, undef, undef, undef, undef, undef, undef, undef, undef, undef, undef, undef, undef, undef, undef, undef, undef, undef, undef, undef, undef, undef, undef, undef, undef, undef, undef, undef, undef, undef, undef, undef, undef, undef, undef, undef, undef, undef, undef, undef], defers := [] } → Qj .normal a' Y) := fun X Y q p2 v2 n r r0 a' P hs hl hb h1 h2 h3 kY ha => by
    rw [hQj'.out]
    exact ⟨rfl, q, p2, v2, n, r, r0, P.stored kY h2 h3 h1, hs, hl, hb, h1, h2, h3, ha⟩
  go_wp2_with fail
  refine Code.wp_mono (Q := Qj) ?_ ?_
  rotate_left
  · refine wp_region_held_drew (S := (fun A => A.cell? ⟨W.heap.size, 0, none⟩ = some (.slice a0 l0.length c0))) (by kernel_rfl) ?_ (fun hHeld => ?_)
    · exact hbw.out _ (k1.trans kd (by simp))
    generalize w1.drew = wd at *
    refine wpAnyH_take (i := 0) (v := ?_) rfl (by kernel_rfl) (by kernel_rfl) (by kernel_rfl) (fun _ _ _ h => hQp.out _ _ _ _ h) (Or.inl ⟨by rfl, ?_⟩) (by assumption) ?_
    rotate_left
    · intro w hSw; (try dsimp only at hSw); go_simp <;> with_reducible rfl
    try simp only [Act.put, List.getElem_toArray, List.getElem_cons_zero, List.getElem_cons_succ, List.setIfInBounds_toArray, List.set_cons_zero, List.set_cons_succ]
    refine wpAnyH_take (i := 1) (v := ?_) rfl (by kernel_rfl) (by kernel_rfl) (by kernel_rfl) (fun _ _ _ h => hQp.out _ _ _ _ h) (Or.inl ⟨by rfl, ?_⟩) (by assumption) ?_
    rotate_left
    · intro w hSw; (try dsimp only at hSw); go_simp <;> with_reducible rfl
    try simp only [Act.put, List.getElem_toArray, List.getElem_cons_zero, List.getElem_cons_succ, List.setIfInBounds_toArray, List.set_cons_zero, List.set_cons_succ]
    refine wpAnyH_take (i := 3) (v := ?_) rfl (by kernel_rfl) (by kernel_rfl) (by kernel_rfl) (fun _ _ _ h => hQp.out _ _ _ _ h) (Or.inl ⟨by rfl, ?_⟩) (by assumption) ?_
    rotate_left
    · intro w hSw; (try dsimp only at hSw); go_simp <;> with_reducible rfl
    try simp only [Act.put, List.getElem_toArray, List.getElem_cons_zero, List.getElem_cons_succ, List.setIfInBounds_toArray, List.set_cons_zero, List.set_cons_succ]
    refine wpAnyH_take (i := 4) (v := ?_) rfl (by kernel_rfl) (by kernel_rfl) (by kernel_rfl) (fun _ _ _ h => hQp.out _ _ _ _ h) (Or.inl ⟨by rfl, ?_⟩) (by assumption) ?_
    rotate_left
    · intro w hSw; (try dsimp only at hSw); go_simp <;> with_reducible rfl
    try simp only [Act.put, List.getElem_toArray, List.getElem_cons_zero, List.getElem_cons_succ, List.setIfInBounds_toArray, List.set_cons_zero, List.set_cons_succ]
    refine wpAnyH_ready (rs := [2, 10]) (by kernel_rfl) (by simp) ?_
    refine (AllReadyH.cons rfl (fun K hK => ?_) (AllReadyH.cons rfl (fun K hK => ?_) AllReadyH.nil))
    · go_simp
      refine (cRNew room wd).mono ?_
      rintro e x1 ⟨v, rfl, r0, rfl, hR0, hL0, kN, hft0⟩
      have P0 := mkP.out wd x1 r0 (kd) kN hR0 hL0 hft0
      have kC : Kp [] w1 x1 := (kd).trans kN (by simp)
      (try go_wp2_with fail)
      refine hK.out _ _ ?_ (fun hHeld => ?_)
      · exact cell_kp kN hHeld
      clear hK K
      try simp only [Act.put, List.getElem_toArray, List.getElem_cons_zero, List.getElem_cons_succ, List.setIfInBounds_toArray, List.set_cons_zero, List.set_cons_succ]
      refine wpAnyH_ready (rs := [5, 10]) (by kernel_rfl) (by simp) ?_
      refine (AllReadyH.cons rfl (fun K hK => ?_) (AllReadyH.cons rfl (fun K hK => ?_) AllReadyH.nil))
      · go_simp
        refine (cR.out x1 r0 P0).mono ?_
        rintro e x2 ⟨p2, v2, n, r, rfl, mv, P2, hsn, hln⟩
        (try go_wp2_with fail)
        refine hK.out _ _ ?_ (fun hHeld => ?_)
        · exact hbw.out _ P2.kp
        clear hK K
        try simp only [Act.put, List.getElem_toArray, List.getElem_cons_zero, List.getElem_cons_succ, List.setIfInBounds_toArray, List.set_cons_zero, List.set_cons_succ]
        refine wpAnyH_take (i := 6) (v := ?_) rfl (by kernel_rfl) (by kernel_rfl) (by kernel_rfl) (fun _ _ _ h => hQp.out _ _ _ _ h) (Or.inl ⟨by rfl, ?_⟩) (by assumption) ?_
        rotate_left
        · intro w hSw; (try dsimp only at hSw); go_simp <;> with_reducible rfl
        try simp only [Act.put, List.getElem_toArray, List.getElem_cons_zero, List.getElem_cons_succ, List.setIfInBounds_toArray, List.set_cons_zero, List.set_cons_succ]
        refine wpAnyH_take (i := 7) (v := ?_) rfl (by kernel_rfl) (by kernel_rfl) (by kernel_rfl) (fun _ _ _ h => hQp.out _ _ _ _ h) (Or.inl ⟨by rfl, ?_⟩) (by assumption) ?_
        rotate_left
        · intro w hSw; (try dsimp only at hSw); go_simp <;> with_reducible rfl
        try simp only [Act.put, List.getElem_toArray, List.getElem_cons_zero, List.getElem_cons_succ, List.setIfInBounds_toArray, List.set_cons_zero, List.set_cons_succ]
        refine wpAnyH_take (i := 8) (v := ?_) rfl (by kernel_rfl) (by kernel_rfl) (by kernel_rfl) (fun _ _ _ h => hQp.out _ _ _ _ h) (Or.inl ⟨by rfl, ?_⟩) (by assumption) ?_
        rotate_left
        · intro w hSw; (try dsimp only at hSw); go_simp <;> with_reducible rfl
        try simp only [Act.put, List.getElem_toArray, List.getElem_cons_zero, List.getElem_cons_succ, List.setIfInBounds_toArray, List.set_cons_zero, List.set_cons_succ]
        refine wpAnyH_take (i := 9) (v := ?_) rfl (by kernel_rfl) (by kernel_rfl) (by kernel_rfl) (fun _ _ _ h => hQp.out _ _ _ _ h) (Or.inl ⟨by rfl, ?_⟩) (by assumption) ?_
        rotate_left
        · intro w hSw; (try dsimp only at hSw); go_simp <;> with_reducible rfl
        try simp only [Act.put, List.getElem_toArray, List.getElem_cons_zero, List.getElem_cons_succ, List.setIfInBounds_toArray, List.set_cons_zero, List.set_cons_succ]
        refine wpAnyH_ready (rs := [10]) (by kernel_rfl) (by simp) ?_
        refine (AllReadyH.cons rfl (fun K hK => ?_) AllReadyH.nil)
        · go_simp
          obtain ⟨x3, hwx, kA, bq⟩ : ∃ wz, x2.alloc (.cells #[.int .i64 0, .slice none 0 0] 28) = wz ∧ Kp [] x2 wz ∧ B2 wz x2.heap.size (.int .i64 0) (.slice none 0 0) := ⟨_, rfl, (Kp.refl _ _).alloc _, B2.at _ rfl _ _ _⟩
          rw [hwx]
          have P3 := P2.keep kA
          have hqn3 : x2.heap.size ∉ p2 :: own v2 := fun h => by have := P2.D.ltAll _ h; omega
          have hqr3 : x2.heap.size ∉ r.foot := fun h => by have := P2.R.lt _ h; omega
          have hqW : Wb.heap.size ≤ x2.heap.size := P2.kp.size
          have fx : B2 x3 x2.heap.size (.int .i64 0) (.slice none 0 0) ∧ x2.heap.size ∉ p2 :: own v2 ∧ x2.heap.size ∉ r.foot := ⟨bq, hqn3, hqr3⟩
          (try go_wp2_with fail)
          refine hK.out _ _ ?_ (fun hHeld => ?_)
          · exact cell_kp kA hHeld
          clear hK K
          try simp only [Act.put, List.getElem_toArray, List.getElem_cons_zero, List.getElem_cons_succ, List.setIfInBounds_toArray, List.set_cons_zero, List.set_cons_succ]
          refine wpAnyH_take (i := 11) (v := ?_) rfl (by kernel_rfl) (by kernel_rfl) (by kernel_rfl) (fun _ _ _ h => hQp.out _ _ _ _ h) (Or.inl ⟨by rfl, ?_⟩) (by assumption) ?_
          rotate_left
          · intro w hSw; (try dsimp only at hSw); go_simp <;> with_reducible rfl
          try simp only [Act.put, List.getElem_toArray, List.getElem_cons_zero, List.getElem_cons_succ, List.setIfInBounds_toArray, List.set_cons_zero, List.set_cons_succ]
          obtain ⟨bqx, f1, f2⟩ := fx
          have g0 := bqx.c0; have g1 := bqx.c1
          have h0 := bqx.free 0; have h1 := bqx.free 1
          have hbk : Hid (∀ A, Kp [x2.heap.size] x3 A → A.cell? ⟨W.heap.size, 0, none⟩ = some (.slice a0 l0.length c0)) := fun A kA => (kA.cell (p := ⟨W.heap.size, 0, none⟩) (World.block_lt_of_cell? _ _ hHeld) (by have := hzb'.out; simp; omega)).trans hHeld
          have hfin := fun Y q => fin.out x3 Y q p2 v2 n r r0
          obtain ⟨room9, la9, lc9, l9⟩ := r
          simp only [RN.v] at *
          obtain ⟨Y, hY, bY, kY⟩ := set2_ex bqx (.int .i64 room9) (.slice la9 l9.length lc9)
          have hY' := hid hY
          clear hY
          refine wpAnyH_ready (rs := [12]) (by kernel_rfl) (by simp) ?_
          refine AllReadyH.cons rfl (fun K hK => ?_) AllReadyH.nil
          go_simp
          (try go_wp2_with fail)
          refine hK.out _ _ ?_ (fun hHeld => ?_)
          · exact hbk.out _ (kpSet2 _ _ _ _)
          clear hK K
          try simp only [Act.put, List.getElem_toArray, List.getElem_cons_zero, List.getElem_cons_succ, List.setIfInBounds_toArray, List.set_cons_zero, List.set_cons_succ]
          refine wpAnyH_take (i := 13) (v := ?_) rfl (by kernel_rfl) (by kernel_rfl) (by kernel_rfl) (fun _ _ _ h => hQp.out _ _ _ _ h) (Or.inl ⟨by rfl, ?_⟩) (by assumption) ?_
          rotate_left
          · intro w hSw; (try dsimp only at hSw); go_simp <;> with_reducible rfl
          try simp only [Act.put, List.getElem_toArray, List.getElem_cons_zero, List.getElem_cons_succ, List.setIfInBounds_toArray, List.set_cons_zero, List.set_cons_succ]
          refine wpAnyH_done (by kernel_rfl) ?_ _
          rw [hY'.out]
          exact hfin _ _ _ P3 hsn hln bY hqW f1 f2 kY rfl
      · go_simp
        obtain ⟨x4, hwx, kA, bq⟩ : ∃ wz, x1.alloc (.cells #[.int .i64 0, .slice none 0 0] 28) = wz ∧ Kp [] x1 wz ∧ B2 wz x1.heap.size (.int .i64 0) (.slice none 0 0) := ⟨_, rfl, (Kp.refl _ _).alloc _, B2.at _ rfl _ _ _⟩
        rw [hwx]
        have kC2 : Kp [] w1 x4 := (kC).trans kA (by simp)
        have P1 := P0.keep kA
        have hqn : x1.heap.size ∉ p :: own (.slice none 0 0) := fun h => by have := P0.D.ltAll _ h; omega
        have hqr0 : x1.heap.size ∉ r0.foot := fun h => by have := P0.R.lt _ h; omega
        have hqW : Wb.heap.size ≤ x1.heap.size := P0.kp.size
        (try go_wp2_with fail)
        refine hK.out _ _ ?_ (fun hHeld => ?_)
        · exact cell_kp kA hHeld
        clear hK K
        try simp only [Act.put, List.getElem_toArray, List.getElem_cons_zero, List.getElem_cons_succ, List.setIfInBounds_toArray, List.set_cons_zero, List.set_cons_succ]
        refine wpAnyH_ready (rs := [5]) (by kernel_rfl) (by simp) ?_
        refine (AllReadyH.cons rfl (fun K hK => ?_) AllReadyH.nil)
        · go_simp
          refine (cR.out x4 r0 P1).mono ?_
          rintro e x5 ⟨p2, v2, n, r, rfl, mv, P2, hsn, hln⟩
          have P3 := P2
          have fx := runBox mv P2 (.inl ⟨bq, hqn, hqr0⟩) hqW
          (try go_wp2_with fail)
          refine hK.out _ _ ?_ (fun hHeld => ?_)
          · exact hbw.out _ P2.kp
          clear hK K
          try simp only [Act.put, List.getElem_toArray, List.getElem_cons_zero, List.getElem_cons_succ, List.setIfInBounds_toArray, List.set_cons_zero, List.set_cons_succ]
          refine wpAnyH_take (i := 6) (v := ?_) rfl (by kernel_rfl) (by kernel_rfl) (by kernel_rfl) (fun _ _ _ h => hQp.out _ _ _ _ h) (Or.inl ⟨by rfl, ?_⟩) (by assumption) ?_
          rotate_left
          · intro w hSw; (try dsimp only at hSw); go_simp <;> with_reducible rfl
          try simp only [Act.put, List.getElem_toArray, List.getElem_cons_zero, List.getElem_cons_succ, List.setIfInBounds_toArray, List.set_cons_zero, List.set_cons_succ]
          refine wpAnyH_take (i := 7) (v := ?_) rfl (by kernel_rfl) (by kernel_rfl) (by kernel_rfl) (fun _ _ _ h => hQp.out _ _ _ _ h) (Or.inl ⟨by rfl, ?_⟩) (by assumption) ?_
          rotate_left
          · intro w hSw; (try dsimp only at hSw); go_simp <;> with_reducible rfl
          try simp only [Act.put, List.getElem_toArray, List.getElem_cons_zero, List.getElem_cons_succ, List.setIfInBounds_toArray, List.set_cons_zero, List.set_cons_succ]
          refine wpAnyH_take (i := 8) (v := ?_) rfl (by kernel_rfl) (by kernel_rfl) (by kernel_rfl) (fun _ _ _ h => hQp.out _ _ _ _ h) (Or.inl ⟨by rfl, ?_⟩) (by assumption) ?_
          rotate_left
          · intro w hSw; (try dsimp only at hSw); go_simp <;> with_reducible rfl
          try simp only [Act.put, List.getElem_toArray, List.getElem_cons_zero, List.getElem_cons_succ, List.setIfInBounds_toArray, List.set_cons_zero, List.set_cons_succ]
          refine wpAnyH_take (i := 9) (v := ?_) rfl (by kernel_rfl) (by kernel_rfl) (by kernel_rfl) (fun _ _ _ h => hQp.out _ _ _ _ h) (Or.inl ⟨by rfl, ?_⟩) (by assumption) ?_
          rotate_left
          · intro w hSw; (try dsimp only at hSw); go_simp <;> with_reducible rfl
          try simp only [Act.put, List.getElem_toArray, List.getElem_cons_zero, List.getElem_cons_succ, List.setIfInBounds_toArray, List.set_cons_zero, List.set_cons_succ]
          refine wpAnyH_take (i := 11) (v := ?_) rfl (by kernel_rfl) (by kernel_rfl) (by kernel_rfl) (fun _ _ _ h => hQp.out _ _ _ _ h) (Or.inl ⟨by rfl, ?_⟩) (by assumption) ?_
          rotate_left
          · intro w hSw; (try dsimp only at hSw); go_simp <;> with_reducible rfl
          try simp only [Act.put, List.getElem_toArray, List.getElem_cons_zero, List.getElem_cons_succ, List.setIfInBounds_toArray, List.set_cons_zero, List.set_cons_succ]
          obtain ⟨bqx, f1, f2⟩ := fx
          have g0 := bqx.c0; have g1 := bqx.c1
          have h0 := bqx.free 0; have h1 := bqx.free 1
          have hbk : Hid (∀ A, Kp [x1.heap.size] x5 A → A.cell? ⟨W.heap.size, 0, none⟩ = some (.slice a0 l0.length c0)) := fun A kA => (kA.cell (p := ⟨W.heap.size, 0, none⟩) (World.block_lt_of_cell? _ _ hHeld) (by have := hzb'.out; simp; omega)).trans hHeld
          have hfin := fun Y q => fin.out x5 Y q p2 v2 n r r0
          obtain ⟨room9, la9, lc9, l9⟩ := r
          simp only [RN.v] at *
          obtain ⟨Y, hY, bY, kY⟩ := set2_ex bqx (.int .i64 room9) (.slice la9 l9.length lc9)
          have hY' := hid hY
          clear hY
          refine wpAnyH_ready (rs := [12]) (by kernel_rfl) (by simp) ?_
          refine AllReadyH.cons rfl (fun K hK => ?_) AllReadyH.nil
          go_simp
          (try go_wp2_with fail)
          refine hK.out _ _ ?_ (fun hHeld => ?_)
          · exact hbk.out _ (kpSet2 _ _ _ _)
          clear hK K
          try simp only [Act.put, List.getElem_toArray, List.getElem_cons_zero, List.getElem_cons_succ, List.setIfInBounds_toArray, List.set_cons_zero, List.set_cons_succ]
          refine wpAnyH_take (i := 13) (v := ?_) rfl (by kernel_rfl) (by kernel_rfl) (by kernel_rfl) (fun _ _ _ h => hQp.out _ _ _ _ h) (Or.inl ⟨by rfl, ?_⟩) (by assumption) ?_
          rotate_left
          · intro w hSw; (try dsimp only at hSw); go_simp <;> with_reducible rfl
          try simp only [Act.put, List.getElem_toArray, List.getElem_cons_zero, List.getElem_cons_succ, List.setIfInBounds_toArray, List.set_cons_zero, List.set_cons_succ]
          refine wpAnyH_done (by kernel_rfl) ?_ _
          rw [hY'.out]
          exact hfin _ _ _ P3 hsn hln bY hqW f1 f2 kY rfl
    · go_simp
      obtain ⟨x6, hwx, kA, bq⟩ : ∃ wz, wd.alloc (.cells #[.int .i64 0, .slice none 0 0] 28) = wz ∧ Kp [] wd wz ∧ B2 wz wd.heap.size (.int .i64 0) (.slice none 0 0) := ⟨_, rfl, (Kp.refl _ _).alloc _, B2.at _ rfl _ _ _⟩
      rw [hwx]
      have kC2 : Kp [] w1 x6 := (kd).trans kA (by simp)
      have hqn : wd.heap.size ∉ p :: own (.slice none 0 0) := fun h => by have := hpl _ (by simpa [own, Value.ownBlock] using h); have := (kd).size; omega
      have hqW : Wb.heap.size ≤ wd.heap.size := Nat.le_trans k1.size (kd).size
      (try go_wp2_with fail)
      refine hK.out _ _ ?_ (fun hHeld => ?_)
      · exact cell_kp kA hHeld
      clear hK K
      try simp only [Act.put, List.getElem_toArray, List.getElem_cons_zero, List.getElem_cons_succ, List.setIfInBounds_toArray, List.set_cons_zero, List.set_cons_succ]
      refine wpAnyH_ready (rs := [2]) (by kernel_rfl) (by simp) ?_
      refine (AllReadyH.cons rfl (fun K hK => ?_) AllReadyH.nil)
      · go_simp
        refine (cRNew room x6).mono ?_
        rintro e x7 ⟨v, rfl, r0, rfl, hR0, hL0, kN, hft0⟩
        have bq2 := bq.kept kN
        have hqr0 : wd.heap.size ∉ r0.foot := fun h => by
          rcases hft0 _ h with h | h
          · cases h
          · have := bq.lt; omega
        have P0 := mkP.out x6 x7 r0 (kC2) kN hR0 hL0 hft0
        have kC : Kp [] w1 x7 := (kC2).trans kN (by simp)
        (try go_wp2_with fail)
        refine hK.out _ _ ?_ (fun hHeld => ?_)
        · exact cell_kp kN hHeld
        clear hK K
        try simp only [Act.put, List.getElem_toArray, List.getElem_cons_zero, List.getElem_cons_succ, List.setIfInBounds_toArray, List.set_cons_zero, List.set_cons_succ]
        refine wpAnyH_ready (rs := [5]) (by kernel_rfl) (by simp) ?_
        refine (AllReadyH.cons rfl (fun K hK => ?_) AllReadyH.nil)
        · go_simp
          refine (cR.out x7 r0 P0).mono ?_
          rintro e x8 ⟨p2, v2, n, r, rfl, mv, P2, hsn, hln⟩
          have P3 := P2
          have fx := runBox mv P2 (.inl ⟨bq2, hqn, hqr0⟩) hqW
          (try go_wp2_with fail)
          refine hK.out _ _ ?_ (fun hHeld => ?_)
          · exact hbw.out _ P2.kp
          clear hK K
          try simp only [Act.put, List.getElem_toArray, List.getElem_cons_zero, List.getElem_cons_succ, List.setIfInBounds_toArray, List.set_cons_zero, List.set_cons_succ]
          refine wpAnyH_take (i := 6) (v := ?_) rfl (by kernel_rfl) (by kernel_rfl) (by kernel_rfl) (fun _ _ _ h => hQp.out _ _ _ _ h) (Or.inl ⟨by rfl, ?_⟩) (by assumption) ?_
          rotate_left
          · intro w hSw; (try dsimp only at hSw); go_simp <;> with_reducible rfl
          try simp only [Act.put, List.getElem_toArray, List.getElem_cons_zero, List.getElem_cons_succ, List.setIfInBounds_toArray, List.set_cons_zero, List.set_cons_succ]
          refine wpAnyH_take (i := 7) (v := ?_) rfl (by kernel_rfl) (by kernel_rfl) (by kernel_rfl) (fun _ _ _ h => hQp.out _ _ _ _ h) (Or.inl ⟨by rfl, ?_⟩) (by assumption) ?_
          rotate_left
          · intro w hSw; (try dsimp only at hSw); go_simp <;> with_reducible rfl
          try simp only [Act.put, List.getElem_toArray, List.getElem_cons_zero, List.getElem_cons_succ, List.setIfInBounds_toArray, List.set_cons_zero, List.set_cons_succ]
          refine wpAnyH_take (i := 8) (v := ?_) rfl (by kernel_rfl) (by kernel_rfl) (by kernel_rfl) (fun _ _ _ h => hQp.out _ _ _ _ h) (Or.inl ⟨by rfl, ?_⟩) (by assumption) ?_
          rotate_left
          · intro w hSw; (try dsimp only at hSw); go_simp <;> with_reducible rfl
          try simp only [Act.put, List.getElem_toArray, List.getElem_cons_zero, List.getElem_cons_succ, List.setIfInBounds_toArray, List.set_cons_zero, List.set_cons_succ]
          refine wpAnyH_take (i := 9) (v := ?_) rfl (by kernel_rfl) (by kernel_rfl) (by kernel_rfl) (fun _ _ _ h => hQp.out _ _ _ _ h) (Or.inl ⟨by rfl, ?_⟩) (by assumption) ?_
          rotate_left
          · intro w hSw; (try dsimp only at hSw); go_simp <;> with_reducible rfl
          try simp only [Act.put, List.getElem_toArray, List.getElem_cons_zero, List.getElem_cons_succ, List.setIfInBounds_toArray, List.set_cons_zero, List.set_cons_succ]
          refine wpAnyH_take (i := 11) (v := ?_) rfl (by kernel_rfl) (by kernel_rfl) (by kernel_rfl) (fun _ _ _ h => hQp.out _ _ _ _ h) (Or.inl ⟨by rfl, ?_⟩) (by assumption) ?_
          rotate_left
          · intro w hSw; (try dsimp only at hSw); go_simp <;> with_reducible rfl
          try simp only [Act.put, List.getElem_toArray, List.getElem_cons_zero, List.getElem_cons_succ, List.setIfInBounds_toArray, List.set_cons_zero, List.set_cons_succ]
          obtain ⟨bqx, f1, f2⟩ := fx
          have g0 := bqx.c0; have g1 := bqx.c1
          have h0 := bqx.free 0; have h1 := bqx.free 1
          have hbk : Hid (∀ A, Kp [wd.heap.size] x8 A → A.cell? ⟨W.heap.size, 0, none⟩ = some (.slice a0 l0.length c0)) := fun A kA => (kA.cell (p := ⟨W.heap.size, 0, none⟩) (World.block_lt_of_cell? _ _ hHeld) (by have := hzb'.out; simp; omega)).trans hHeld
          have hfin := fun Y q => fin.out x8 Y q p2 v2 n r r0
          obtain ⟨room9, la9, lc9, l9⟩ := r
          simp only [RN.v] at *
          obtain ⟨Y, hY, bY, kY⟩ := set2_ex bqx (.int .i64 room9) (.slice la9 l9.length lc9)
          have hY' := hid hY
          clear hY
          refine wpAnyH_ready (rs := [12]) (by kernel_rfl) (by simp) ?_
          refine AllReadyH.cons rfl (fun K hK => ?_) AllReadyH.nil
          go_simp
          (try go_wp2_with fail)
          refine hK.out _ _ ?_ (fun hHeld => ?_)
          · exact hbk.out _ (kpSet2 _ _ _ _)
          clear hK K
          try simp only [Act.put, List.getElem_toArray, List.getElem_cons_zero, List.getElem_cons_succ, List.setIfInBounds_toArray, List.set_cons_zero, List.set_cons_succ]
          refine wpAnyH_take (i := 13) (v := ?_) rfl (by kernel_rfl) (by kernel_rfl) (by kernel_rfl) (fun _ _ _ h => hQp.out _ _ _ _ h) (Or.inl ⟨by rfl, ?_⟩) (by assumption) ?_
          rotate_left
          · intro w hSw; (try dsimp only at hSw); go_simp <;> with_reducible rfl
          try simp only [Act.put, List.getElem_toArray, List.getElem_cons_zero, List.getElem_cons_succ, List.setIfInBounds_toArray, List.set_cons_zero, List.set_cons_succ]
          refine wpAnyH_done (by kernel_rfl) ?_ _
          rw [hY'.out]
          exact hfin _ _ _ P3 hsn hln bY hqW f1 f2 kY rfl
  rintro e a' w2 hq
  rw [hQj'.out] at hq
  obtain ⟨rfl, q, p2, v2, n, r, r0, P, hBn, hln, bq, hqW, hqf, hqr, rfl⟩ := hq
  clear hQp hQj' Qj fin cR mkP hbw
  have z1 := cell_kp P.kp y1
  have z2 := cell_kp P.kp y2
  have hWlt : W.heap.size < Wb.heap.size := by have := hzb'.out; omega
  have hPz := P.kp.size
  have hPl := P.D.ltAll
  have hRl := P.R.lt
  have hqlt := bq.lt
  go_wp2_with fail
  refine (cNClone P.D (by omega)).mono ?_
  rintro e w3 ⟨p3, v3, rfl, hN3, k3, hn3⟩
  have bq3 := bq.kept k3
  have hk3 := k3.size
  obtain ⟨w4, hw4, k4, bx, hz4⟩ := boxN r w3
  have k24 : Kp [] w2 w4 := k3.trans k4 (by simp)
  have T4 : Hid (TwoN Wb w4 p2 v2 r n q p3 v3 r n w3.heap.size) := by
    have hl3 := hN3.ltAll
    refine ⟨P.keep k24, ⟨hN3.keptNew k4, (P.R.keptNew k24), P.L, P.kp.trans k24 (by simp), fun k hk => by have := hn3 k hk; omega, fun k hk h' => by have := hRl k hk; have := hn3 k h'; omega⟩, bq.kept k24, bx, hqW, by omega, by omega, fun k hk h' => by have := hPl k hk; have := hn3 k h'; omega, fun k hk h' => by have := hRl k hk; have := hn3 k h'; omega, P.ap, hqf, fun h' => by have := hn3 _ h'; omega, fun h' => by have := hPl _ h'; omega, fun h' => by have := hl3 _ h'; omega, hqr, hqr, fun h' => by have := hRl _ h'; omega, fun h' => by have := hRl _ h'; omega⟩
  have hw4' := hid hw4
  obtain ⟨q9, hq9⟩ : ∃ q9, Hid (w3.heap.size = q9) := ⟨_, rfl⟩
  rw [hq9.out] at T4
  have e0 := bq3.c0; have e1 := bq3.c1
  obtain ⟨room5, la5, lc5, l5⟩ := r
  simp only [RN.v] at *
  clear P bq bq3 bx hw4 hN3 hn3 hPl hRl z1 z2
  go_wp2_with fail
  rw [hw4'.out, hq9.out]
  clear e0 e1
  go_loopw [5, 8, 10] (fun va vb i wn => ∃ (j pa pb : Nat) (v1 : Value) (r1 : RN) (n1 : Nt) (v2 : Value) (r2 : RN) (n2 : Nt), (j ≤ l1.length ∨ j ≤ l2.length) ∧ i = .int .i64 j ∧ va = .pointer (some ⟨pa, 0, none⟩) ∧ vb = .pointer (some ⟨pb, 0, none⟩) ∧ TwoN Wb wn pa v1 r1 n1 q pb v2 r2 n2 q9 ∧ Smalls n1 ∧ Smalls n2 ∧ n1.l.length ≤ l0.length + j ∧ n2.l.length ≤ l0.length + j) (fun _ _ i _ => l1.length + l2.length - (intOf i).toNat)
  case atStart => exact ⟨0, p2, p3, v2, _, n, v3, _, n, .inl (Nat.zero_le _), rfl, rfl, rfl, T4.out, hBn, hBn, by omega, by omega⟩
  case round =>
    clear T4
    obtain ⟨j, pa, pb, v1, r1, n1, v2, r2, n2, hj, rfl, rfl, rfl, T, hs1', hs2', hl1', hl2'⟩ := hrel
    have hjb : j ≤ 2940000000000 := by omega
    have kT := T.A.kp
    have z1 := cell_kp kT y1
    have z2 := cell_kp kT y2
    have kTw : Kp [] W wr := kb.trans kT (by simp)
    by_cases h1 : j < l1.length
    · by_cases h2 : j < l2.length
      · have d1 : ((j : Int) < (l1.length : Int)) := by omega
        have hws1 : Kp [] W wr := kTw
        obtain ⟨o1, ho1⟩ : ∃ o, l1[j]? = some o := ⟨l1[j], by simp [h1]⟩
        have hom1 := List.mem_of_getElem? ho1
        have hoo1 := hok1 o1 hom1
        have hof1 := hf1 o1 hom1
        have kd1 : Kp [] wr wr.drew := (Kp.refl _ _).drew
        have Td1 := (T).keep kd1
        obtain ⟨g1, f1, ea1, x01, x11, x21, x31⟩ := opAt ((hs1.keptNew hws1).keptNew kd1) ho1
        subst ea1
        have hgl1 : g1 < W.heap.size := (hs1.lt (fun e => by rw [e] at h1; simp at h1)) g1 (by simp [blk])
        have oW1 : o1.ok Wb := hoo1.kept (S := []) kb (by simp)
        have st1 := cNStepX Td1.A.D hs1' (by omega) r1 Td1.A.R Td1.A.L Td1.A.ap o1 (hoo1.kept (S := []) (hws1.trans kd1 (by simp)) (by simp)) (by unfold FewO Few at hof1; omega) (Td1.A.off oW1)
        have hsm1 := smallsStp hs1' hof1
        have hls1 := lenStp n1 o1
        obtain ⟨m1, hm1⟩ : ∃ m, m = stpN n1 o1 := ⟨_, rfl⟩
        rw [← hm1] at st1 hsm1 hls1
        have S1 : Hid (∀ A, Kp (q :: pa :: own v1) wr.drew A → (A.cell? ⟨W.heap.size, 1, none⟩ = some (.slice (some ⟨g1, f1, none⟩) l1.length c1) ∧ A.cell? ⟨g1, f1 + j * 4, none⟩ = some (.int .i64 o1.kind) ∧ A.cell? ⟨g1, f1 + j * 4 + 1, none⟩ = some (.int .i64 o1.to) ∧ A.cell? ⟨g1, f1 + j * 4 + 2, none⟩ = some (.int .i64 o1.n) ∧ A.cell? ⟨g1, f1 + j * 4 + 3, none⟩ = some (.slice o1.raw.a o1.raw.bs.length o1.raw.c))) := fun A kA => by
          have hno : ∀ b, b < Wb.heap.size → b ∉ q :: pa :: own v1 := fun b hb hm => by
            rcases List.mem_cons.1 hm with rfl | hm
            · have := Td1.g1; omega
            · have := Td1.A.nw b hm; omega
          have hzz := (hws1.trans kd1 (by simp)).size
          have hzW := Td1.A.kp.size
          have gg : ∀ i u, wr.drew.cell? ⟨g1, i, none⟩ = some u → A.cell? ⟨g1, i, none⟩ = some u := fun i u hu => (kA.cell (p := ⟨g1, i, none⟩) (by simp only; omega) (hno _ (by simp only; omega))).trans hu
          exact ⟨(kA.cell (p := ⟨W.heap.size, 1, none⟩) (by simp only; omega) (hno _ (by simp only; omega))).trans (cell_kp kd1 (cell_kp ((T).A.kp) y1)), gg _ _ x01, gg _ _ x11, gg _ _ x21, gg _ _ x31⟩
        have bT1 := Td1.b1
        have hst1 : Hid (∀ w4 w5 p' v' r', Net w4 p' v' m1 → RnOk w4 r' → LikeN r' m1 → Kp (pa :: own v1) wr.drew w4 → (∀ k ∈ p' :: own v', k ∈ pa :: own v1 ∨ wr.drew.heap.size ≤ k) → (∀ k ∈ r'.foot, k ∈ r1.foot ++ o1.ft ∨ wr.drew.heap.size ≤ k) → (∀ k ∈ r'.foot, k ∉ p' :: own v') → Kp [q] w4 w5 → B2 w5 q (.int .i64 r'.room) (.slice r'.la r'.l.length r'.lc) → TwoN Wb w5 p' v' r' m1 q pb v2 r2 n2 q9) := fun w4 w5 p' v' r' e1 e2 e3 e4 e5 e6 e7 e8 e9 => Td1.step oW1 e1 e2 e3 e4 e5 e6 e7 e8 e9
        have c01 := bT1.c0; have c11 := bT1.c1
        have hqn1 := Td1.q1a
        obtain ⟨room1, la1, lc1, lr1⟩ := r1
        simp only [RN.v, NOp.v] at *
        clear hm1 ho1 x01 x11 x21 x31
        go_wp2_with fail
        refine wp_region_held_drew (S := (fun A => A.cell? ⟨W.heap.size, 1, none⟩ = some (.slice (some ⟨g1, f1, none⟩) l1.length c1) ∧ A.cell? ⟨g1, f1 + j * 4, none⟩ = some (.int .i64 o1.kind) ∧ A.cell? ⟨g1, f1 + j * 4 + 1, none⟩ = some (.int .i64 o1.to) ∧ A.cell? ⟨g1, f1 + j * 4 + 2, none⟩ = some (.int .i64 o1.n) ∧ A.cell? ⟨g1, f1 + j * 4 + 3, none⟩ = some (.slice o1.raw.a o1.raw.bs.length o1.raw.c))) (by kernel_rfl) ?_ (fun hHeld => ?_)
        · exact S1.out _ (Kp.refl _ _)
        generalize wr.drew = wd1 at *
        refine wpAnyH_take (i := 0) (v := ?_) rfl (by kernel_rfl) (by kernel_rfl) (by kernel_rfl) (fun _ _ _ h => h) (Or.inl ⟨by rfl, ?_⟩) (by assumption) ?_
        rotate_left
        · intro w hSw; (try dsimp only at hSw); go_simp <;> with_reducible rfl
        try simp only [Act.put, List.getElem_toArray, List.getElem_cons_zero, List.getElem_cons_succ, List.setIfInBounds_toArray, List.set_cons_zero, List.set_cons_succ]
        refine wpAnyH_take (i := 2) (v := ?_) rfl (by kernel_rfl) (by kernel_rfl) (by kernel_rfl) (fun _ _ _ h => h) (Or.inl ⟨by rfl, ?_⟩) (by assumption) ?_
        rotate_left
        · intro w hSw; (try dsimp only at hSw); go_simp <;> with_reducible rfl
        try simp only [Act.put, List.getElem_toArray, List.getElem_cons_zero, List.getElem_cons_succ, List.setIfInBounds_toArray, List.set_cons_zero, List.set_cons_succ]
        refine wpAnyH_take (i := 3) (v := ?_) rfl (by kernel_rfl) (by kernel_rfl) (by kernel_rfl) (fun _ _ _ h => h) (Or.inl ⟨by rfl, ?_⟩) (by assumption) ?_
        rotate_left
        · intro w hSw; (try dsimp only at hSw); go_simp <;> with_reducible rfl
        try simp only [Act.put, List.getElem_toArray, List.getElem_cons_zero, List.getElem_cons_succ, List.setIfInBounds_toArray, List.set_cons_zero, List.set_cons_succ]
        refine wpAnyH_take (i := 4) (v := ?_) rfl (by kernel_rfl) (by kernel_rfl) (by kernel_rfl) (fun _ _ _ h => h) (Or.inl ⟨by rfl, ?_⟩) (by assumption) ?_
        rotate_left
        · intro w hSw; (try dsimp only at hSw); go_simp <;> with_reducible rfl
        try simp only [Act.put, List.getElem_toArray, List.getElem_cons_zero, List.getElem_cons_succ, List.setIfInBounds_toArray, List.set_cons_zero, List.set_cons_succ]
        refine wpAnyH_take (i := 5) (v := ?_) rfl (by kernel_rfl) (by kernel_rfl) (by kernel_rfl) (fun _ _ _ h => h) (Or.inl ⟨by rfl, ?_⟩) (by assumption) ?_
        rotate_left
        · intro w hSw; (try dsimp only at hSw); go_simp <;> with_reducible rfl
        try simp only [Act.put, List.getElem_toArray, List.getElem_cons_zero, List.getElem_cons_succ, List.setIfInBounds_toArray, List.set_cons_zero, List.set_cons_succ]
        refine wpAnyH_take (i := 6) (v := ?_) rfl (by kernel_rfl) (by kernel_rfl) (by kernel_rfl) (fun _ _ _ h => h) (Or.inl ⟨by rfl, ?_⟩) (by assumption) ?_
        rotate_left
        · intro w hSw; (try dsimp only at hSw); go_simp <;> with_reducible rfl
        try simp only [Act.put, List.getElem_toArray, List.getElem_cons_zero, List.getElem_cons_succ, List.setIfInBounds_toArray, List.set_cons_zero, List.set_cons_succ]
        refine wpAnyH_ready (rs := [1]) (by kernel_rfl) (by simp) ?_
        refine AllReadyH.cons rfl (fun K hK => ?_) AllReadyH.nil
        go_simp
        (try go_wp2_with fail)
        refine hK.out _ _ ?_ (fun hHeld => ?_)
        · exact hHeld
        clear hK K
        try simp only [Act.put, List.getElem_toArray, List.getElem_cons_zero, List.getElem_cons_succ, List.setIfInBounds_toArray, List.set_cons_zero, List.set_cons_succ]
        refine wpAnyH_ready (rs := [7]) (by kernel_rfl) (by simp) ?_
        refine AllReadyH.cons rfl (fun K hK => ?_) AllReadyH.nil
        go_simp
        refine st1.mono ?_
        rintro e w41 ⟨pp1, vv1, rr1, rfl, hD4, hR4, hL4, kk, m1, m2, m3⟩
        have bq4 := bT1.keptS kk hqn1
        have q0 := bq4.c0; have q1 := bq4.c1
        have h0f := bq4.free 0; have h1f := bq4.free 1
        obtain ⟨W51, hW51, rb5, k5⟩ := set2_ex bq4 (.int .i64 rr1.room) (.slice rr1.la rr1.l.length rr1.lc)
        have TT1 := hst1.out _ W51 pp1 vv1 rr1 hD4 hR4 hL4 kk m1 m2 m3 k5 rb5
        have hW5' := hid hW51
        have kq4 : Kp (q :: pa :: own v1) wd1 w41 := kk.mono (fun k hk => .inl (List.mem_cons_of_mem _ hk))
        obtain ⟨room1, la1, lc1, lr1⟩ := rr1
        simp only [RN.v] at *
        clear hW51 hD4 hR4 hL4 m1 m2 m3 kk
        (try go_wp2_with fail)
        refine hK.out _ _ ?_ (fun hHeld => ?_)
        · exact S1.out _ kq4
        clear hK K
        try simp only [Act.put, List.getElem_toArray, List.getElem_cons_zero, List.getElem_cons_succ, List.setIfInBounds_toArray, List.set_cons_zero, List.set_cons_succ]
        refine wpAnyH_take (i := 8) (v := ?_) rfl (by kernel_rfl) (by kernel_rfl) (by kernel_rfl) (fun _ _ _ h => h) (Or.inl ⟨by rfl, ?_⟩) (by assumption) ?_
        rotate_left
        · intro w hSw; (try dsimp only at hSw); go_simp <;> with_reducible rfl
        try simp only [Act.put, List.getElem_toArray, List.getElem_cons_zero, List.getElem_cons_succ, List.setIfInBounds_toArray, List.set_cons_zero, List.set_cons_succ]
        refine wpAnyH_take (i := 9) (v := ?_) rfl (by kernel_rfl) (by kernel_rfl) (by kernel_rfl) (fun _ _ _ h => h) (Or.inl ⟨by rfl, ?_⟩) (by assumption) ?_
        rotate_left
        · intro w hSw; (try dsimp only at hSw); go_simp <;> with_reducible rfl
        try simp only [Act.put, List.getElem_toArray, List.getElem_cons_zero, List.getElem_cons_succ, List.setIfInBounds_toArray, List.set_cons_zero, List.set_cons_succ]
        refine wpAnyH_take (i := 10) (v := ?_) rfl (by kernel_rfl) (by kernel_rfl) (by kernel_rfl) (fun _ _ _ h => h) (Or.inl ⟨by rfl, ?_⟩) (by assumption) ?_
        rotate_left
        · intro w hSw; (try dsimp only at hSw); go_simp <;> with_reducible rfl
        try simp only [Act.put, List.getElem_toArray, List.getElem_cons_zero, List.getElem_cons_succ, List.setIfInBounds_toArray, List.set_cons_zero, List.set_cons_succ]
        refine wpAnyH_take (i := 11) (v := ?_) rfl (by kernel_rfl) (by kernel_rfl) (by kernel_rfl) (fun _ _ _ h => h) (Or.inl ⟨by rfl, ?_⟩) (by assumption) ?_
        rotate_left
        · intro w hSw; (try dsimp only at hSw); go_simp <;> with_reducible rfl
        try simp only [Act.put, List.getElem_toArray, List.getElem_cons_zero, List.getElem_cons_succ, List.setIfInBounds_toArray, List.set_cons_zero, List.set_cons_succ]
        refine wpAnyH_take (i := 12) (v := ?_) rfl (by kernel_rfl) (by kernel_rfl) (by kernel_rfl) (fun _ _ _ h => h) (Or.inl ⟨by rfl, ?_⟩) (by assumption) ?_
        rotate_left
        · intro w hSw; (try dsimp only at hSw); go_simp <;> with_reducible rfl
        try simp only [Act.put, List.getElem_toArray, List.getElem_cons_zero, List.getElem_cons_succ, List.setIfInBounds_toArray, List.set_cons_zero, List.set_cons_succ]
        refine wpAnyH_ready (rs := [13]) (by kernel_rfl) (by simp) ?_
        refine AllReadyH.cons rfl (fun K hK => ?_) AllReadyH.nil
        go_simp
        (try go_wp2_with fail)
        refine hK.out _ _ ?_ (fun hHeld => ?_)
        · exact S1.out _ (kq4.trans (kpSet2 _ _ _ _) (fun k hk => .inl (by simp at hk; simp [hk])))
        clear hK K
        try simp only [Act.put, List.getElem_toArray, List.getElem_cons_zero, List.getElem_cons_succ, List.setIfInBounds_toArray, List.set_cons_zero, List.set_cons_succ]
        refine wpAnyH_take (i := 14) (v := ?_) rfl (by kernel_rfl) (by kernel_rfl) (by kernel_rfl) (fun _ _ _ h => h) (Or.inl ⟨by rfl, ?_⟩) (by assumption) ?_
        rotate_left
        · intro w hSw; (try dsimp only at hSw); go_simp <;> with_reducible rfl
        try simp only [Act.put, List.getElem_toArray, List.getElem_cons_zero, List.getElem_cons_succ, List.setIfInBounds_toArray, List.set_cons_zero, List.set_cons_succ]
        refine wpAnyH_done (by kernel_rfl) ?_ _
        rw [hW5'.out]
        have kWm : Kp [] W W51 := kb.trans TT1.A.kp (by simp)
        clear q0 q1 h0f h1f bq4 c01 c11 st1 hst1 S1 hHeld
        have z1' := cell_kp TT1.A.kp y1
        have z2' := cell_kp TT1.A.kp y2
        have hws2 : Kp [] W W51 := kWm
        obtain ⟨o2, ho2⟩ : ∃ o, l2[j]? = some o := ⟨l2[j], by simp [h2]⟩
        have hom2 := List.mem_of_getElem? ho2
        have hoo2 := hok2 o2 hom2
        have hof2 := hf2 o2 hom2
        have kd2 : Kp [] W51 W51.drew := (Kp.refl _ _).drew
        have Td2 := (TT1.swap).keep kd2
        obtain ⟨g2, f2, ea2, x02, x12, x22, x32⟩ := opAt ((hs2.keptNew hws2).keptNew kd2) ho2
        subst ea2
        have hgl2 : g2 < W.heap.size := (hs2.lt (fun e => by rw [e] at h2; simp at h2)) g2 (by simp [blk])
        have oW2 : o2.ok Wb := hoo2.kept (S := []) kb (by simp)
        have st2 := cNStepX Td2.A.D hs2' (by omega) r2 Td2.A.R Td2.A.L Td2.A.ap o2 (hoo2.kept (S := []) (hws2.trans kd2 (by simp)) (by simp)) (by unfold FewO Few at hof2; omega) (Td2.A.off oW2)
        have hsm2 := smallsStp hs2' hof2
        have hls2 := lenStp n2 o2
        obtain ⟨m2, hm2⟩ : ∃ m, m = stpN n2 o2 := ⟨_, rfl⟩
        rw [← hm2] at st2 hsm2 hls2
        have S2 : Hid (∀ A, Kp (q9 :: pb :: own v2) W51.drew A → (A.cell? ⟨W.heap.size, 2, none⟩ = some (.slice (some ⟨g2, f2, none⟩) l2.length c2) ∧ A.cell? ⟨g2, f2 + j * 4, none⟩ = some (.int .i64 o2.kind) ∧ A.cell? ⟨g2, f2 + j * 4 + 1, none⟩ = some (.int .i64 o2.to) ∧ A.cell? ⟨g2, f2 + j * 4 + 2, none⟩ = some (.int .i64 o2.n) ∧ A.cell? ⟨g2, f2 + j * 4 + 3, none⟩ = some (.slice o2.raw.a o2.raw.bs.length o2.raw.c))) := fun A kA => by
          have hno : ∀ b, b < Wb.heap.size → b ∉ q9 :: pb :: own v2 := fun b hb hm => by
            rcases List.mem_cons.1 hm with rfl | hm
            · have := Td2.g1; omega
            · have := Td2.A.nw b hm; omega
          have hzz := (hws2.trans kd2 (by simp)).size
          have hzW := Td2.A.kp.size
          have gg : ∀ i u, W51.drew.cell? ⟨g2, i, none⟩ = some u → A.cell? ⟨g2, i, none⟩ = some u := fun i u hu => (kA.cell (p := ⟨g2, i, none⟩) (by simp only; omega) (hno _ (by simp only; omega))).trans hu
          exact ⟨(kA.cell (p := ⟨W.heap.size, 2, none⟩) (by simp only; omega) (hno _ (by simp only; omega))).trans (cell_kp kd2 (cell_kp ((TT1.swap).A.kp) y2)), gg _ _ x02, gg _ _ x12, gg _ _ x22, gg _ _ x32⟩
        have bT2 := Td2.b1
        have hst2 : Hid (∀ w4 w5 p' v' r', Net w4 p' v' m2 → RnOk w4 r' → LikeN r' m2 → Kp (pb :: own v2) W51.drew w4 → (∀ k ∈ p' :: own v', k ∈ pb :: own v2 ∨ W51.drew.heap.size ≤ k) → (∀ k ∈ r'.foot, k ∈ r2.foot ++ o2.ft ∨ W51.drew.heap.size ≤ k) → (∀ k ∈ r'.foot, k ∉ p' :: own v') → Kp [q9] w4 w5 → B2 w5 q9 (.int .i64 r'.room) (.slice r'.la r'.l.length r'.lc) → TwoN Wb w5 p' v' r' m2 q9 pp1 vv1 ⟨room1, la1, lc1, lr1⟩ m1 q) := fun w4 w5 p' v' r' e1 e2 e3 e4 e5 e6 e7 e8 e9 => Td2.step oW2 e1 e2 e3 e4 e5 e6 e7 e8 e9
        have c02 := bT2.c0; have c12 := bT2.c1
        have hqn2 := Td2.q1a
        obtain ⟨room2, la2, lc2, lr2⟩ := r2
        simp only [RN.v, NOp.v] at *
        clear hm2 ho2 x02 x12 x22 x32
        go_wp2_with fail
        refine wp_region_held_drew (S := (fun A => A.cell? ⟨W.heap.size, 2, none⟩ = some (.slice (some ⟨g2, f2, none⟩) l2.length c2) ∧ A.cell? ⟨g2, f2 + j * 4, none⟩ = some (.int .i64 o2.kind) ∧ A.cell? ⟨g2, f2 + j * 4 + 1, none⟩ = some (.int .i64 o2.to) ∧ A.cell? ⟨g2, f2 + j * 4 + 2, none⟩ = some (.int .i64 o2.n) ∧ A.cell? ⟨g2, f2 + j * 4 + 3, none⟩ = some (.slice o2.raw.a o2.raw.bs.length o2.raw.c))) (by kernel_rfl) ?_ (fun hHeld => ?_)
        · exact S2.out _ (Kp.refl _ _)
        generalize W51.drew = wd2 at *
        refine wpAnyH_take (i := 0) (v := ?_) rfl (by kernel_rfl) (by kernel_rfl) (by kernel_rfl) (fun _ _ _ h => h) (Or.inl ⟨by rfl, ?_⟩) (by assumption) ?_
        rotate_left
        · intro w hSw; (try dsimp only at hSw); go_simp <;> with_reducible rfl
        try simp only [Act.put, List.getElem_toArray, List.getElem_cons_zero, List.getElem_cons_succ, List.setIfInBounds_toArray, List.set_cons_zero, List.set_cons_succ]
        refine wpAnyH_take (i := 2) (v := ?_) rfl (by kernel_rfl) (by kernel_rfl) (by kernel_rfl) (fun _ _ _ h => h) (Or.inl ⟨by rfl, ?_⟩) (by assumption) ?_
        rotate_left
        · intro w hSw; (try dsimp only at hSw); go_simp <;> with_reducible rfl
        try simp only [Act.put, List.getElem_toArray, List.getElem_cons_zero, List.getElem_cons_succ, List.setIfInBounds_toArray, List.set_cons_zero, List.set_cons_succ]
        refine wpAnyH_take (i := 3) (v := ?_) rfl (by kernel_rfl) (by kernel_rfl) (by kernel_rfl) (fun _ _ _ h => h) (Or.inl ⟨by rfl, ?_⟩) (by assumption) ?_
        rotate_left
        · intro w hSw; (try dsimp only at hSw); go_simp <;> with_reducible rfl
        try simp only [Act.put, List.getElem_toArray, List.getElem_cons_zero, List.getElem_cons_succ, List.setIfInBounds_toArray, List.set_cons_zero, List.set_cons_succ]
        refine wpAnyH_take (i := 4) (v := ?_) rfl (by kernel_rfl) (by kernel_rfl) (by kernel_rfl) (fun _ _ _ h => h) (Or.inl ⟨by rfl, ?_⟩) (by assumption) ?_
        rotate_left
        · intro w hSw; (try dsimp only at hSw); go_simp <;> with_reducible rfl
        try simp only [Act.put, List.getElem_toArray, List.getElem_cons_zero, List.getElem_cons_succ, List.setIfInBounds_toArray, List.set_cons_zero, List.set_cons_succ]
        refine wpAnyH_take (i := 5) (v := ?_) rfl (by kernel_rfl) (by kernel_rfl) (by kernel_rfl) (fun _ _ _ h => h) (Or.inl ⟨by rfl, ?_⟩) (by assumption) ?_
        rotate_left
        · intro w hSw; (try dsimp only at hSw); go_simp <;> with_reducible rfl
        try simp only [Act.put, List.getElem_toArray, List.getElem_cons_zero, List.getElem_cons_succ, List.setIfInBounds_toArray, List.set_cons_zero, List.set_cons_succ]
        refine wpAnyH_take (i := 6) (v := ?_) rfl (by kernel_rfl) (by kernel_rfl) (by kernel_rfl) (fun _ _ _ h => h) (Or.inl ⟨by rfl, ?_⟩) (by assumption) ?_
        rotate_left
        · intro w hSw; (try dsimp only at hSw); go_simp <;> with_reducible rfl
        try simp only [Act.put, List.getElem_toArray, List.getElem_cons_zero, List.getElem_cons_succ, List.setIfInBounds_toArray, List.set_cons_zero, List.set_cons_succ]
        refine wpAnyH_ready (rs := [1]) (by kernel_rfl) (by simp) ?_
        refine AllReadyH.cons rfl (fun K hK => ?_) AllReadyH.nil
        go_simp
        (try go_wp2_with fail)
        refine hK.out _ _ ?_ (fun hHeld => ?_)
        · exact hHeld
        clear hK K
        try simp only [Act.put, List.getElem_toArray, List.getElem_cons_zero, List.getElem_cons_succ, List.setIfInBounds_toArray, List.set_cons_zero, List.set_cons_succ]
        refine wpAnyH_ready (rs := [7]) (by kernel_rfl) (by simp) ?_
        refine AllReadyH.cons rfl (fun K hK => ?_) AllReadyH.nil
        go_simp
        refine st2.mono ?_
        rintro e w42 ⟨pp2, vv2, rr2, rfl, hD4, hR4, hL4, kk, m1, m2, m3⟩
        have bq4 := bT2.keptS kk hqn2
        have q0 := bq4.c0; have q1 := bq4.c1
        have h0f := bq4.free 0; have h1f := bq4.free 1
        obtain ⟨W52, hW52, rb5, k5⟩ := set2_ex bq4 (.int .i64 rr2.room) (.slice rr2.la rr2.l.length rr2.lc)
        have TT2 := hst2.out _ W52 pp2 vv2 rr2 hD4 hR4 hL4 kk m1 m2 m3 k5 rb5
        have hW5' := hid hW52
        have kq4 : Kp (q9 :: pb :: own v2) wd2 w42 := kk.mono (fun k hk => .inl (List.mem_cons_of_mem _ hk))
        obtain ⟨room2, la2, lc2, lr2⟩ := rr2
        simp only [RN.v] at *
        clear hW52 hD4 hR4 hL4 m1 m2 m3 kk
        (try go_wp2_with fail)
        refine hK.out _ _ ?_ (fun hHeld => ?_)
        · exact S2.out _ kq4
        clear hK K
        try simp only [Act.put, List.getElem_toArray, List.getElem_cons_zero, List.getElem_cons_succ, List.setIfInBounds_toArray, List.set_cons_zero, List.set_cons_succ]
        refine wpAnyH_take (i := 8) (v := ?_) rfl (by kernel_rfl) (by kernel_rfl) (by kernel_rfl) (fun _ _ _ h => h) (Or.inl ⟨by rfl, ?_⟩) (by assumption) ?_
        rotate_left
        · intro w hSw; (try dsimp only at hSw); go_simp <;> with_reducible rfl
        try simp only [Act.put, List.getElem_toArray, List.getElem_cons_zero, List.getElem_cons_succ, List.setIfInBounds_toArray, List.set_cons_zero, List.set_cons_succ]
        refine wpAnyH_take (i := 9) (v := ?_) rfl (by kernel_rfl) (by kernel_rfl) (by kernel_rfl) (fun _ _ _ h => h) (Or.inl ⟨by rfl, ?_⟩) (by assumption) ?_
        rotate_left
        · intro w hSw; (try dsimp only at hSw); go_simp <;> with_reducible rfl
        try simp only [Act.put, List.getElem_toArray, List.getElem_cons_zero, List.getElem_cons_succ, List.setIfInBounds_toArray, List.set_cons_zero, List.set_cons_succ]
        refine wpAnyH_take (i := 10) (v := ?_) rfl (by kernel_rfl) (by kernel_rfl) (by kernel_rfl) (fun _ _ _ h => h) (Or.inl ⟨by rfl, ?_⟩) (by assumption) ?_
        rotate_left
        · intro w hSw; (try dsimp only at hSw); go_simp <;> with_reducible rfl
        try simp only [Act.put, List.getElem_toArray, List.getElem_cons_zero, List.getElem_cons_succ, List.setIfInBounds_toArray, List.set_cons_zero, List.set_cons_succ]
        refine wpAnyH_take (i := 11) (v := ?_) rfl (by kernel_rfl) (by kernel_rfl) (by kernel_rfl) (fun _ _ _ h => h) (Or.inl ⟨by rfl, ?_⟩) (by assumption) ?_
        rotate_left
        · intro w hSw; (try dsimp only at hSw); go_simp <;> with_reducible rfl
        try simp only [Act.put, List.getElem_toArray, List.getElem_cons_zero, List.getElem_cons_succ, List.setIfInBounds_toArray, List.set_cons_zero, List.set_cons_succ]
        refine wpAnyH_take (i := 12) (v := ?_) rfl (by kernel_rfl) (by kernel_rfl) (by kernel_rfl) (fun _ _ _ h => h) (Or.inl ⟨by rfl, ?_⟩) (by assumption) ?_
        rotate_left
        · intro w hSw; (try dsimp only at hSw); go_simp <;> with_reducible rfl
        try simp only [Act.put, List.getElem_toArray, List.getElem_cons_zero, List.getElem_cons_succ, List.setIfInBounds_toArray, List.set_cons_zero, List.set_cons_succ]
        refine wpAnyH_ready (rs := [13]) (by kernel_rfl) (by simp) ?_
        refine AllReadyH.cons rfl (fun K hK => ?_) AllReadyH.nil
        go_simp
        (try go_wp2_with fail)
        refine hK.out _ _ ?_ (fun hHeld => ?_)
        · exact S2.out _ (kq4.trans (kpSet2 _ _ _ _) (fun k hk => .inl (by simp at hk; simp [hk])))
        clear hK K
        try simp only [Act.put, List.getElem_toArray, List.getElem_cons_zero, List.getElem_cons_succ, List.setIfInBounds_toArray, List.set_cons_zero, List.set_cons_succ]
        refine wpAnyH_take (i := 14) (v := ?_) rfl (by kernel_rfl) (by kernel_rfl) (by kernel_rfl) (fun _ _ _ h => h) (Or.inl ⟨by rfl, ?_⟩) (by assumption) ?_
        rotate_left
        · intro w hSw; (try dsimp only at hSw); go_simp <;> with_reducible rfl
        try simp only [Act.put, List.getElem_toArray, List.getElem_cons_zero, List.getElem_cons_succ, List.setIfInBounds_toArray, List.set_cons_zero, List.set_cons_succ]
        refine wpAnyH_done (by kernel_rfl) ?_ _
        rw [hW5'.out]
        have kWm : Kp [] W W52 := kb.trans TT2.A.kp (by simp)
        clear q0 q1 h0f h1f bq4 c02 c12 st2 hst2 S2 hHeld
        have TF := hid TT2.swap
        clear TT1 TT2 Td1 Td2 T bT1 bT2
        go_wp2_with fail
        exact ⟨⟨j + 1, pp1, pp2, vv1, _, m1, vv2, _, m2, by omega, by go_num, rfl, rfl, TF.out, hsm1, hsm2, by omega, by omega⟩, by simp [intOf]; omega⟩
      · have d2 : ¬ ((j : Int) < (l2.length : Int)) := by omega
        have hws1 : Kp [] W wr := kTw
        obtain ⟨o1, ho1⟩ : ∃ o, l1[j]? = some o := ⟨l1[j], by simp [h1]⟩
        have hom1 := List.mem_of_getElem? ho1
        have hoo1 := hok1 o1 hom1
        have hof1 := hf1 o1 hom1
        have kd1 : Kp [] wr wr.drew := (Kp.refl _ _).drew
        have Td1 := (T).keep kd1
        obtain ⟨g1, f1, ea1, x01, x11, x21, x31⟩ := opAt ((hs1.keptNew hws1).keptNew kd1) ho1
        subst ea1
        have hgl1 : g1 < W.heap.size := (hs1.lt (fun e => by rw [e] at h1; simp at h1)) g1 (by simp [blk])
        have oW1 : o1.ok Wb := hoo1.kept (S := []) kb (by simp)
        have st1 := cNStepX Td1.A.D hs1' (by omega) r1 Td1.A.R Td1.A.L Td1.A.ap o1 (hoo1.kept (S := []) (hws1.trans kd1 (by simp)) (by simp)) (by unfold FewO Few at hof1; omega) (Td1.A.off oW1)
        have hsm1 := smallsStp hs1' hof1
        have hls1 := lenStp n1 o1
        obtain ⟨m1, hm1⟩ : ∃ m, m = stpN n1 o1 := ⟨_, rfl⟩
        rw [← hm1] at st1 hsm1 hls1
        have S1 : Hid (∀ A, Kp (q :: pa :: own v1) wr.drew A → (A.cell? ⟨W.heap.size, 1, none⟩ = some (.slice (some ⟨g1, f1, none⟩) l1.length c1) ∧ A.cell? ⟨g1, f1 + j * 4, none⟩ = some (.int .i64 o1.kind) ∧ A.cell? ⟨g1, f1 + j * 4 + 1, none⟩ = some (.int .i64 o1.to) ∧ A.cell? ⟨g1, f1 + j * 4 + 2, none⟩ = some (.int .i64 o1.n) ∧ A.cell? ⟨g1, f1 + j * 4 + 3, none⟩ = some (.slice o1.raw.a o1.raw.bs.length o1.raw.c))) := fun A kA => by
          have hno : ∀ b, b < Wb.heap.size → b ∉ q :: pa :: own v1 := fun b hb hm => by
            rcases List.mem_cons.1 hm with rfl | hm
            · have := Td1.g1; omega
            · have := Td1.A.nw b hm; omega
          have hzz := (hws1.trans kd1 (by simp)).size
          have hzW := Td1.A.kp.size
          have gg : ∀ i u, wr.drew.cell? ⟨g1, i, none⟩ = some u → A.cell? ⟨g1, i, none⟩ = some u := fun i u hu => (kA.cell (p := ⟨g1, i, none⟩) (by simp only; omega) (hno _ (by simp only; omega))).trans hu
          exact ⟨(kA.cell (p := ⟨W.heap.size, 1, none⟩) (by simp only; omega) (hno _ (by simp only; omega))).trans (cell_kp kd1 (cell_kp ((T).A.kp) y1)), gg _ _ x01, gg _ _ x11, gg _ _ x21, gg _ _ x31⟩
        have bT1 := Td1.b1
        have hst1 : Hid (∀ w4 w5 p' v' r', Net w4 p' v' m1 → RnOk w4 r' → LikeN r' m1 → Kp (pa :: own v1) wr.drew w4 → (∀ k ∈ p' :: own v', k ∈ pa :: own v1 ∨ wr.drew.heap.size ≤ k) → (∀ k ∈ r'.foot, k ∈ r1.foot ++ o1.ft ∨ wr.drew.heap.size ≤ k) → (∀ k ∈ r'.foot, k ∉ p' :: own v') → Kp [q] w4 w5 → B2 w5 q (.int .i64 r'.room) (.slice r'.la r'.l.length r'.lc) → TwoN Wb w5 p' v' r' m1 q pb v2 r2 n2 q9) := fun w4 w5 p' v' r' e1 e2 e3 e4 e5 e6 e7 e8 e9 => Td1.step oW1 e1 e2 e3 e4 e5 e6 e7 e8 e9
        have c01 := bT1.c0; have c11 := bT1.c1
        have hqn1 := Td1.q1a
        obtain ⟨room1, la1, lc1, lr1⟩ := r1
        simp only [RN.v, NOp.v] at *
        clear hm1 ho1 x01 x11 x21 x31
        go_wp2_with fail
        refine wp_region_held_drew (S := (fun A => A.cell? ⟨W.heap.size, 1, none⟩ = some (.slice (some ⟨g1, f1, none⟩) l1.length c1) ∧ A.cell? ⟨g1, f1 + j * 4, none⟩ = some (.int .i64 o1.kind) ∧ A.cell? ⟨g1, f1 + j * 4 + 1, none⟩ = some (.int .i64 o1.to) ∧ A.cell? ⟨g1, f1 + j * 4 + 2, none⟩ = some (.int .i64 o1.n) ∧ A.cell? ⟨g1, f1 + j * 4 + 3, none⟩ = some (.slice o1.raw.a o1.raw.bs.length o1.raw.c))) (by kernel_rfl) ?_ (fun hHeld => ?_)
        · exact S1.out _ (Kp.refl _ _)
        generalize wr.drew = wd1 at *
        refine wpAnyH_take (i := 0) (v := ?_) rfl (by kernel_rfl) (by kernel_rfl) (by kernel_rfl) (fun _ _ _ h => h) (Or.inl ⟨by rfl, ?_⟩) (by assumption) ?_
        rotate_left
        · intro w hSw; (try dsimp only at hSw); go_simp <;> with_reducible rfl
        try simp only [Act.put, List.getElem_toArray, List.getElem_cons_zero, List.getElem_cons_succ, List.setIfInBounds_toArray, List.set_cons_zero, List.set_cons_succ]
        refine wpAnyH_take (i := 2) (v := ?_) rfl (by kernel_rfl) (by kernel_rfl) (by kernel_rfl) (fun _ _ _ h => h) (Or.inl ⟨by rfl, ?_⟩) (by assumption) ?_
        rotate_left
        · intro w hSw; (try dsimp only at hSw); go_simp <;> with_reducible rfl
        try simp only [Act.put, List.getElem_toArray, List.getElem_cons_zero, List.getElem_cons_succ, List.setIfInBounds_toArray, List.set_cons_zero, List.set_cons_succ]
        refine wpAnyH_take (i := 3) (v := ?_) rfl (by kernel_rfl) (by kernel_rfl) (by kernel_rfl) (fun _ _ _ h => h) (Or.inl ⟨by rfl, ?_⟩) (by assumption) ?_
        rotate_left
        · intro w hSw; (try dsimp only at hSw); go_simp <;> with_reducible rfl
        try simp only [Act.put, List.getElem_toArray, List.getElem_cons_zero, List.getElem_cons_succ, List.setIfInBounds_toArray, List.set_cons_zero, List.set_cons_succ]
        refine wpAnyH_take (i := 4) (v := ?_) rfl (by kernel_rfl) (by kernel_rfl) (by kernel_rfl) (fun _ _ _ h => h) (Or.inl ⟨by rfl, ?_⟩) (by assumption) ?_
        rotate_left
        · intro w hSw; (try dsimp only at hSw); go_simp <;> with_reducible rfl
        try simp only [Act.put, List.getElem_toArray, List.getElem_cons_zero, List.getElem_cons_succ, List.setIfInBounds_toArray, List.set_cons_zero, List.set_cons_succ]
        refine wpAnyH_take (i := 5) (v := ?_) rfl (by kernel_rfl) (by kernel_rfl) (by kernel_rfl) (fun _ _ _ h => h) (Or.inl ⟨by rfl, ?_⟩) (by assumption) ?_
        rotate_left
        · intro w hSw; (try dsimp only at hSw); go_simp <;> with_reducible rfl
        try simp only [Act.put, List.getElem_toArray, List.getElem_cons_zero, List.getElem_cons_succ, List.setIfInBounds_toArray, List.set_cons_zero, List.set_cons_succ]
        refine wpAnyH_take (i := 6) (v := ?_) rfl (by kernel_rfl) (by kernel_rfl) (by kernel_rfl) (fun _ _ _ h => h) (Or.inl ⟨by rfl, ?_⟩) (by assumption) ?_
        rotate_left
        · intro w hSw; (try dsimp only at hSw); go_simp <;> with_reducible rfl
        try simp only [Act.put, List.getElem_toArray, List.getElem_cons_zero, List.getElem_cons_succ, List.setIfInBounds_toArray, List.set_cons_zero, List.set_cons_succ]
        refine wpAnyH_ready (rs := [1]) (by kernel_rfl) (by simp) ?_
        refine AllReadyH.cons rfl (fun K hK => ?_) AllReadyH.nil
        go_simp
        (try go_wp2_with fail)
        refine hK.out _ _ ?_ (fun hHeld => ?_)
        · exact hHeld
        clear hK K
        try simp only [Act.put, List.getElem_toArray, List.getElem_cons_zero, List.getElem_cons_succ, List.setIfInBounds_toArray, List.set_cons_zero, List.set_cons_succ]
        refine wpAnyH_ready (rs := [7]) (by kernel_rfl) (by simp) ?_
        refine AllReadyH.cons rfl (fun K hK => ?_) AllReadyH.nil
        go_simp
        refine st1.mono ?_
        rintro e w41 ⟨pp1, vv1, rr1, rfl, hD4, hR4, hL4, kk, m1, m2, m3⟩
        have bq4 := bT1.keptS kk hqn1
        have q0 := bq4.c0; have q1 := bq4.c1
        have h0f := bq4.free 0; have h1f := bq4.free 1
        obtain ⟨W51, hW51, rb5, k5⟩ := set2_ex bq4 (.int .i64 rr1.room) (.slice rr1.la rr1.l.length rr1.lc)
        have TT1 := hst1.out _ W51 pp1 vv1 rr1 hD4 hR4 hL4 kk m1 m2 m3 k5 rb5
        have hW5' := hid hW51
        have kq4 : Kp (q :: pa :: own v1) wd1 w41 := kk.mono (fun k hk => .inl (List.mem_cons_of_mem _ hk))
        obtain ⟨room1, la1, lc1, lr1⟩ := rr1
        simp only [RN.v] at *
        clear hW51 hD4 hR4 hL4 m1 m2 m3 kk
        (try go_wp2_with fail)
        refine hK.out _ _ ?_ (fun hHeld => ?_)
        · exact S1.out _ kq4
        clear hK K
        try simp only [Act.put, List.getElem_toArray, List.getElem_cons_zero, List.getElem_cons_succ, List.setIfInBounds_toArray, List.set_cons_zero, List.set_cons_succ]
        refine wpAnyH_take (i := 8) (v := ?_) rfl (by kernel_rfl) (by kernel_rfl) (by kernel_rfl) (fun _ _ _ h => h) (Or.inl ⟨by rfl, ?_⟩) (by assumption) ?_
        rotate_left
        · intro w hSw; (try dsimp only at hSw); go_simp <;> with_reducible rfl
        try simp only [Act.put, List.getElem_toArray, List.getElem_cons_zero, List.getElem_cons_succ, List.setIfInBounds_toArray, List.set_cons_zero, List.set_cons_succ]
        refine wpAnyH_take (i := 9) (v := ?_) rfl (by kernel_rfl) (by kernel_rfl) (by kernel_rfl) (fun _ _ _ h => h) (Or.inl ⟨by rfl, ?_⟩) (by assumption) ?_
        rotate_left
        · intro w hSw; (try dsimp only at hSw); go_simp <;> with_reducible rfl
        try simp only [Act.put, List.getElem_toArray, List.getElem_cons_zero, List.getElem_cons_succ, List.setIfInBounds_toArray, List.set_cons_zero, List.set_cons_succ]
        refine wpAnyH_take (i := 10) (v := ?_) rfl (by kernel_rfl) (by kernel_rfl) (by kernel_rfl) (fun _ _ _ h => h) (Or.inl ⟨by rfl, ?_⟩) (by assumption) ?_
        rotate_left
        · intro w hSw; (try dsimp only at hSw); go_simp <;> with_reducible rfl
        try simp only [Act.put, List.getElem_toArray, List.getElem_cons_zero, List.getElem_cons_succ, List.setIfInBounds_toArray, List.set_cons_zero, List.set_cons_succ]
        refine wpAnyH_take (i := 11) (v := ?_) rfl (by kernel_rfl) (by kernel_rfl) (by kernel_rfl) (fun _ _ _ h => h) (Or.inl ⟨by rfl, ?_⟩) (by assumption) ?_
        rotate_left
        · intro w hSw; (try dsimp only at hSw); go_simp <;> with_reducible rfl
        try simp only [Act.put, List.getElem_toArray, List.getElem_cons_zero, List.getElem_cons_succ, List.setIfInBounds_toArray, List.set_cons_zero, List.set_cons_succ]
        refine wpAnyH_take (i := 12) (v := ?_) rfl (by kernel_rfl) (by kernel_rfl) (by kernel_rfl) (fun _ _ _ h => h) (Or.inl ⟨by rfl, ?_⟩) (by assumption) ?_
        rotate_left
        · intro w hSw; (try dsimp only at hSw); go_simp <;> with_reducible rfl
        try simp only [Act.put, List.getElem_toArray, List.getElem_cons_zero, List.getElem_cons_succ, List.setIfInBounds_toArray, List.set_cons_zero, List.set_cons_succ]
        refine wpAnyH_ready (rs := [13]) (by kernel_rfl) (by simp) ?_
        refine AllReadyH.cons rfl (fun K hK => ?_) AllReadyH.nil
        go_simp
        (try go_wp2_with fail)
        refine hK.out _ _ ?_ (fun hHeld => ?_)
        · exact S1.out _ (kq4.trans (kpSet2 _ _ _ _) (fun k hk => .inl (by simp at hk; simp [hk])))
        clear hK K
        try simp only [Act.put, List.getElem_toArray, List.getElem_cons_zero, List.getElem_cons_succ, List.setIfInBounds_toArray, List.set_cons_zero, List.set_cons_succ]
        refine wpAnyH_take (i := 14) (v := ?_) rfl (by kernel_rfl) (by kernel_rfl) (by kernel_rfl) (fun _ _ _ h => h) (Or.inl ⟨by rfl, ?_⟩) (by assumption) ?_
        rotate_left
        · intro w hSw; (try dsimp only at hSw); go_simp <;> with_reducible rfl
        try simp only [Act.put, List.getElem_toArray, List.getElem_cons_zero, List.getElem_cons_succ, List.setIfInBounds_toArray, List.set_cons_zero, List.set_cons_succ]
        refine wpAnyH_done (by kernel_rfl) ?_ _
        rw [hW5'.out]
        have kWm : Kp [] W W51 := kb.trans TT1.A.kp (by simp)
        clear q0 q1 h0f h1f bq4 c01 c11 st1 hst1 S1 hHeld
        have z2' := cell_kp TT1.A.kp y2
        have TF := hid TT1
        clear TT1 Td1 T bT1
        go_wp2_with fail
        exact ⟨⟨j + 1, pp1, pb, vv1, _, m1, v2, r2, n2, by omega, by go_num, rfl, rfl, TF.out, hsm1, hs2', by omega, by omega⟩, by simp [intOf]; omega⟩
    · have d1 : ¬ ((j : Int) < (l1.length : Int)) := by omega
      by_cases h2 : j < l2.length
      · have d2 : ((j : Int) < (l2.length : Int)) := by omega
        have hws2 : Kp [] W wr := kTw
        obtain ⟨o2, ho2⟩ : ∃ o, l2[j]? = some o := ⟨l2[j], by simp [h2]⟩
        have hom2 := List.mem_of_getElem? ho2
        have hoo2 := hok2 o2 hom2
        have hof2 := hf2 o2 hom2
        have kd2 : Kp [] wr wr.drew := (Kp.refl _ _).drew
        have Td2 := (T.swap).keep kd2
        obtain ⟨g2, f2, ea2, x02, x12, x22, x32⟩ := opAt ((hs2.keptNew hws2).keptNew kd2) ho2
        subst ea2
        have hgl2 : g2 < W.heap.size := (hs2.lt (fun e => by rw [e] at h2; simp at h2)) g2 (by simp [blk])
        have oW2 : o2.ok Wb := hoo2.kept (S := []) kb (by simp)
        have st2 := cNStepX Td2.A.D hs2' (by omega) r2 Td2.A.R Td2.A.L Td2.A.ap o2 (hoo2.kept (S := []) (hws2.trans kd2 (by simp)) (by simp)) (by unfold FewO Few at hof2; omega) (Td2.A.off oW2)
        have hsm2 := smallsStp hs2' hof2
        have hls2 := lenStp n2 o2
        obtain ⟨m2, hm2⟩ : ∃ m, m = stpN n2 o2 := ⟨_, rfl⟩
        rw [← hm2] at st2 hsm2 hls2
        have S2 : Hid (∀ A, Kp (q9 :: pb :: own v2) wr.drew A → (A.cell? ⟨W.heap.size, 2, none⟩ = some (.slice (some ⟨g2, f2, none⟩) l2.length c2) ∧ A.cell? ⟨g2, f2 + j * 4, none⟩ = some (.int .i64 o2.kind) ∧ A.cell? ⟨g2, f2 + j * 4 + 1, none⟩ = some (.int .i64 o2.to) ∧ A.cell? ⟨g2, f2 + j * 4 + 2, none⟩ = some (.int .i64 o2.n) ∧ A.cell? ⟨g2, f2 + j * 4 + 3, none⟩ = some (.slice o2.raw.a o2.raw.bs.length o2.raw.c))) := fun A kA => by
          have hno : ∀ b, b < Wb.heap.size → b ∉ q9 :: pb :: own v2 := fun b hb hm => by
            rcases List.mem_cons.1 hm with rfl | hm
            · have := Td2.g1; omega
            · have := Td2.A.nw b hm; omega
          have hzz := (hws2.trans kd2 (by simp)).size
          have hzW := Td2.A.kp.size
          have gg : ∀ i u, wr.drew.cell? ⟨g2, i, none⟩ = some u → A.cell? ⟨g2, i, none⟩ = some u := fun i u hu => (kA.cell (p := ⟨g2, i, none⟩) (by simp only; omega) (hno _ (by simp only; omega))).trans hu
          exact ⟨(kA.cell (p := ⟨W.heap.size, 2, none⟩) (by simp only; omega) (hno _ (by simp only; omega))).trans (cell_kp kd2 (cell_kp ((T.swap).A.kp) y2)), gg _ _ x02, gg _ _ x12, gg _ _ x22, gg _ _ x32⟩
        have bT2 := Td2.b1
        have hst2 : Hid (∀ w4 w5 p' v' r', Net w4 p' v' m2 → RnOk w4 r' → LikeN r' m2 → Kp (pb :: own v2) wr.drew w4 → (∀ k ∈ p' :: own v', k ∈ pb :: own v2 ∨ wr.drew.heap.size ≤ k) → (∀ k ∈ r'.foot, k ∈ r2.foot ++ o2.ft ∨ wr.drew.heap.size ≤ k) → (∀ k ∈ r'.foot, k ∉ p' :: own v') → Kp [q9] w4 w5 → B2 w5 q9 (.int .i64 r'.room) (.slice r'.la r'.l.length r'.lc) → TwoN Wb w5 p' v' r' m2 q9 pa v1 r1 n1 q) := fun w4 w5 p' v' r' e1 e2 e3 e4 e5 e6 e7 e8 e9 => Td2.step oW2 e1 e2 e3 e4 e5 e6 e7 e8 e9
        have c02 := bT2.c0; have c12 := bT2.c1
        have hqn2 := Td2.q1a
        obtain ⟨room2, la2, lc2, lr2⟩ := r2
        simp only [RN.v, NOp.v] at *
        clear hm2 ho2 x02 x12 x22 x32
        go_wp2_with fail
        refine wp_region_held_drew (S := (fun A => A.cell? ⟨W.heap.size, 2, none⟩ = some (.slice (some ⟨g2, f2, none⟩) l2.length c2) ∧ A.cell? ⟨g2, f2 + j * 4, none⟩ = some (.int .i64 o2.kind) ∧ A.cell? ⟨g2, f2 + j * 4 + 1, none⟩ = some (.int .i64 o2.to) ∧ A.cell? ⟨g2, f2 + j * 4 + 2, none⟩ = some (.int .i64 o2.n) ∧ A.cell? ⟨g2, f2 + j * 4 + 3, none⟩ = some (.slice o2.raw.a o2.raw.bs.length o2.raw.c))) (by kernel_rfl) ?_ (fun hHeld => ?_)
        · exact S2.out _ (Kp.refl _ _)
        generalize wr.drew = wd2 at *
        refine wpAnyH_take (i := 0) (v := ?_) rfl (by kernel_rfl) (by kernel_rfl) (by kernel_rfl) (fun _ _ _ h => h) (Or.inl ⟨by rfl, ?_⟩) (by assumption) ?_
        rotate_left
        · intro w hSw; (try dsimp only at hSw); go_simp <;> with_reducible rfl
        try simp only [Act.put, List.getElem_toArray, List.getElem_cons_zero, List.getElem_cons_succ, List.setIfInBounds_toArray, List.set_cons_zero, List.set_cons_succ]
        refine wpAnyH_take (i := 2) (v := ?_) rfl (by kernel_rfl) (by kernel_rfl) (by kernel_rfl) (fun _ _ _ h => h) (Or.inl ⟨by rfl, ?_⟩) (by assumption) ?_
        rotate_left
        · intro w hSw; (try dsimp only at hSw); go_simp <;> with_reducible rfl
        try simp only [Act.put, List.getElem_toArray, List.getElem_cons_zero, List.getElem_cons_succ, List.setIfInBounds_toArray, List.set_cons_zero, List.set_cons_succ]
        refine wpAnyH_take (i := 3) (v := ?_) rfl (by kernel_rfl) (by kernel_rfl) (by kernel_rfl) (fun _ _ _ h => h) (Or.inl ⟨by rfl, ?_⟩) (by assumption) ?_
        rotate_left
        · intro w hSw; (try dsimp only at hSw); go_simp <;> with_reducible rfl
        try simp only [Act.put, List.getElem_toArray, List.getElem_cons_zero, List.getElem_cons_succ, List.setIfInBounds_toArray, List.set_cons_zero, List.set_cons_succ]
        refine wpAnyH_take (i := 4) (v := ?_) rfl (by kernel_rfl) (by kernel_rfl) (by kernel_rfl) (fun _ _ _ h => h) (Or.inl ⟨by rfl, ?_⟩) (by assumption) ?_
        rotate_left
        · intro w hSw; (try dsimp only at hSw); go_simp <;> with_reducible rfl
        try simp only [Act.put, List.getElem_toArray, List.getElem_cons_zero, List.getElem_cons_succ, List.setIfInBounds_toArray, List.set_cons_zero, List.set_cons_succ]
        refine wpAnyH_take (i := 5) (v := ?_) rfl (by kernel_rfl) (by kernel_rfl) (by kernel_rfl) (fun _ _ _ h => h) (Or.inl ⟨by rfl, ?_⟩) (by assumption) ?_
        rotate_left
        · intro w hSw; (try dsimp only at hSw); go_simp <;> with_reducible rfl
        try simp only [Act.put, List.getElem_toArray, List.getElem_cons_zero, List.getElem_cons_succ, List.setIfInBounds_toArray, List.set_cons_zero, List.set_cons_succ]
        refine wpAnyH_take (i := 6) (v := ?_) rfl (by kernel_rfl) (by kernel_rfl) (by kernel_rfl) (fun _ _ _ h => h) (Or.inl ⟨by rfl, ?_⟩) (by assumption) ?_
        rotate_left
        · intro w hSw; (try dsimp only at hSw); go_simp <;> with_reducible rfl
        try simp only [Act.put, List.getElem_toArray, List.getElem_cons_zero, List.getElem_cons_succ, List.setIfInBounds_toArray, List.set_cons_zero, List.set_cons_succ]
        refine wpAnyH_ready (rs := [1]) (by kernel_rfl) (by simp) ?_
        refine AllReadyH.cons rfl (fun K hK => ?_) AllReadyH.nil
        go_simp
        (try go_wp2_with fail)
        refine hK.out _ _ ?_ (fun hHeld => ?_)
        · exact hHeld
        clear hK K
        try simp only [Act.put, List.getElem_toArray, List.getElem_cons_zero, List.getElem_cons_succ, List.setIfInBounds_toArray, List.set_cons_zero, List.set_cons_succ]
        refine wpAnyH_ready (rs := [7]) (by kernel_rfl) (by simp) ?_
        refine AllReadyH.cons rfl (fun K hK => ?_) AllReadyH.nil
        go_simp
        refine st2.mono ?_
        rintro e w42 ⟨pp2, vv2, rr2, rfl, hD4, hR4, hL4, kk, m1, m2, m3⟩
        have bq4 := bT2.keptS kk hqn2
        have q0 := bq4.c0; have q1 := bq4.c1
        have h0f := bq4.free 0; have h1f := bq4.free 1
        obtain ⟨W52, hW52, rb5, k5⟩ := set2_ex bq4 (.int .i64 rr2.room) (.slice rr2.la rr2.l.length rr2.lc)
        have TT2 := hst2.out _ W52 pp2 vv2 rr2 hD4 hR4 hL4 kk m1 m2 m3 k5 rb5
        have hW5' := hid hW52
        have kq4 : Kp (q9 :: pb :: own v2) wd2 w42 := kk.mono (fun k hk => .inl (List.mem_cons_of_mem _ hk))
        obtain ⟨room2, la2, lc2, lr2⟩ := rr2
        simp only [RN.v] at *
        clear hW52 hD4 hR4 hL4 m1 m2 m3 kk
        (try go_wp2_with fail)
        refine hK.out _ _ ?_ (fun hHeld => ?_)
        · exact S2.out _ kq4
        clear hK K
        try simp only [Act.put, List.getElem_toArray, List.getElem_cons_zero, List.getElem_cons_succ, List.setIfInBounds_toArray, List.set_cons_zero, List.set_cons_succ]
        refine wpAnyH_take (i := 8) (v := ?_) rfl (by kernel_rfl) (by kernel_rfl) (by kernel_rfl) (fun _ _ _ h => h) (Or.inl ⟨by rfl, ?_⟩) (by assumption) ?_
        rotate_left
        · intro w hSw; (try dsimp only at hSw); go_simp <;> with_reducible rfl
        try simp only [Act.put, List.getElem_toArray, List.getElem_cons_zero, List.getElem_cons_succ, List.setIfInBounds_toArray, List.set_cons_zero, List.set_cons_succ]
        refine wpAnyH_take (i := 9) (v := ?_) rfl (by kernel_rfl) (by kernel_rfl) (by kernel_rfl) (fun _ _ _ h => h) (Or.inl ⟨by rfl, ?_⟩) (by assumption) ?_
        rotate_left
        · intro w hSw; (try dsimp only at hSw); go_simp <;> with_reducible rfl
        try simp only [Act.put, List.getElem_toArray, List.getElem_cons_zero, List.getElem_cons_succ, List.setIfInBounds_toArray, List.set_cons_zero, List.set_cons_succ]
        refine wpAnyH_take (i := 10) (v := ?_) rfl (by kernel_rfl) (by kernel_rfl) (by kernel_rfl) (fun _ _ _ h => h) (Or.inl ⟨by rfl, ?_⟩) (by assumption) ?_
        rotate_left
        · intro w hSw; (try dsimp only at hSw); go_simp <;> with_reducible rfl
        try simp only [Act.put, List.getElem_toArray, List.getElem_cons_zero, List.getElem_cons_succ, List.setIfInBounds_toArray, List.set_cons_zero, List.set_cons_succ]
        refine wpAnyH_take (i := 11) (v := ?_) rfl (by kernel_rfl) (by kernel_rfl) (by kernel_rfl) (fun _ _ _ h => h) (Or.inl ⟨by rfl, ?_⟩) (by assumption) ?_
        rotate_left
        · intro w hSw; (try dsimp only at hSw); go_simp <;> with_reducible rfl
        try simp only [Act.put, List.getElem_toArray, List.getElem_cons_zero, List.getElem_cons_succ, List.setIfInBounds_toArray, List.set_cons_zero, List.set_cons_succ]
        refine wpAnyH_take (i := 12) (v := ?_) rfl (by kernel_rfl) (by kernel_rfl) (by kernel_rfl) (fun _ _ _ h => h) (Or.inl ⟨by rfl, ?_⟩) (by assumption) ?_
        rotate_left
        · intro w hSw; (try dsimp only at hSw); go_simp <;> with_reducible rfl
        try simp only [Act.put, List.getElem_toArray, List.getElem_cons_zero, List.getElem_cons_succ, List.setIfInBounds_toArray, List.set_cons_zero, List.set_cons_succ]
        refine wpAnyH_ready (rs := [13]) (by kernel_rfl) (by simp) ?_
        refine AllReadyH.cons rfl (fun K hK => ?_) AllReadyH.nil
        go_simp
        (try go_wp2_with fail)
        refine hK.out _ _ ?_ (fun hHeld => ?_)
        · exact S2.out _ (kq4.trans (kpSet2 _ _ _ _) (fun k hk => .inl (by simp at hk; simp [hk])))
        clear hK K
        try simp only [Act.put, List.getElem_toArray, List.getElem_cons_zero, List.getElem_cons_succ, List.setIfInBounds_toArray, List.set_cons_zero, List.set_cons_succ]
        refine wpAnyH_take (i := 14) (v := ?_) rfl (by kernel_rfl) (by kernel_rfl) (by kernel_rfl) (fun _ _ _ h => h) (Or.inl ⟨by rfl, ?_⟩) (by assumption) ?_
        rotate_left
        · intro w hSw; (try dsimp only at hSw); go_simp <;> with_reducible rfl
        try simp only [Act.put, List.getElem_toArray, List.getElem_cons_zero, List.getElem_cons_succ, List.setIfInBounds_toArray, List.set_cons_zero, List.set_cons_succ]
        refine wpAnyH_done (by kernel_rfl) ?_ _
        rw [hW5'.out]
        have kWm : Kp [] W W52 := kb.trans TT2.A.kp (by simp)
        clear q0 q1 h0f h1f bq4 c02 c12 st2 hst2 S2 hHeld
        have TF := hid TT2.swap
        clear TT2 Td2 T bT2
        go_wp2_with fail
        exact ⟨⟨j + 1, pa, pp2, v1, r1, n1, vv2, _, m2, by omega, by go_num, rfl, rfl, TF.out, hs1', hsm2, by omega, by omega⟩, by simp [intOf]; omega⟩
      · have d2 : ¬ ((j : Int) < (l2.length : Int)) := by omega
        have c01 := T.b1.c0; have c11 := T.b1.c1
        have s1 := cStandsN T.A.D hs1' (by omega) r1 T.A.R T.A.L.l
        have s2 : Hid (∀ A, Kp [] wr A → Calls Try.prog 12 #[.pointer (some ⟨pb, 0, none⟩), r2.v] A fun e w' => e = .returned (.bool true) ∧ Kp [] A w') := fun A kA => cStandsN (T.B.D.keptNew kA) hs2' (by omega) r2 (T.B.R.keptNew kA) T.B.L.l
        have bb2 := T.b2
        obtain ⟨room1, la1, lc1, lr1⟩ := r1
        obtain ⟨room2, la2, lc2, lr2⟩ := r2
        simp only [RN.v] at *
        clear T
        go_wp2_with fail
        refine s1.mono ?_
        rintro e w5 ⟨rfl, k5⟩
        have bb5 := bb2.kept k5
        have c02 := bb5.c0; have c12 := bb5.c1
        go_wp2_with fail
        refine (s2.out w5 k5).mono ?_
        rintro e w6 ⟨rfl, k6⟩
        go_wp2_with fail
        go_ret
        exact ⟨rfl, ((kTw.trans k5 (by simp)).trans k6 (by simp)).below⟩
end Go.Proofs.Ytllhmbemcmigoaa
end

section
namespace Go.Proofs.Ytllhmbemcmigoaa
open Go.ChangeShapes Go.WideShapes Go.ChangeAt Go.RowKit Go.Hay
set_option linter.unusedVariables false
set_option linter.unusedSimpArgs false

set_option maxRecDepth 100000 in
theorem openNopV {H : Type} {enc : TypeId × Value → H} {W : World} {base : Nat} {v : Value} {d : DataW H} {ps : List MemPlace} (hv : Value.okWide Try.prog W .any base 39 v)
    (h : DataW.Trod enc Try.prog W 0 (fun _ => true) true 39 v d ps) : ∃ y : NOp, v = y.v ∧ y.ok W ∧ (Fit 39 d → FewO y) := by
  obtain ⟨cs, rfl, hsz⟩ := okWide_struct Try.underlying39 hv
  rw [cellsO] at hsz
  obtain ⟨fuel, hf⟩ := h
  obtain ⟨l⟩ := cs
  have hf' : DataW.trod enc Try.prog W 0 (fun _ => true) true fuel 39 l = some (d, ps) := hf
  obtain ⟨y, h1, h2, h3, _⟩ := openNop hf' (by simpa using hsz)
  subst h2
  exact ⟨y, rfl, h1, h3⟩
theorem cellsNWays : Try.prog.cellsOf 34 = 3 := by kernel_rfl
theorem cellsNOps : Try.prog.cellsOf 22 = 1 := by kernel_rfl
theorem openNSl {H : Type} {enc : TypeId × Value → H} {W : World} {fuel : Nat} {c : Value} {x : DataW H × List MemPlace} (h : DataW.trod enc Try.prog W 0 (fun _ => true) true fuel 22 [c] = some x) :
    ∃ (a : Option Addr) (cap : Nat) (l : List NOp), c = .slice a l.length cap ∧ NOpE.See W a l ∧ (∀ y ∈ l, y.ok W) ∧ (Fit 22 x.1 → l.length ≤ 2940000000000 ∧ ∀ y ∈ l, FewO y) := by
  have hv : ∃ a len cap, c = .slice a len cap := by
    rcases Go.Deep.open_slice Try.underlying22 h with ⟨hcs, _⟩ | ⟨a, len, cap, _, _, _, _, hcs, _⟩
    · exact ⟨none, 0, 0, by simpa using hcs⟩
    · exact ⟨_, _, _, by simpa using hcs⟩
  obtain ⟨a, len, cap, rfl⟩ := hv
  obtain ⟨l, rfl, hs, hok, hl, _, _, hfit, hb, hc⟩ := openNops (d := x.1) (ps := x.2) ⟨_, h⟩
  exact ⟨a, cap, l, rfl, hs, hok, fun hf => ⟨by have := (hfit hf).1; omega, (hfit hf).2⟩⟩
set_option maxRecDepth 100000 in
theorem openNWays {H : Type} {enc : TypeId × Value → H} {W : World} {base : Nat} {v : Value} {d : DataW H} {ps : List MemPlace} (hv : Value.okWide Try.prog W .any base 34 v)
    (h : DataW.Trod enc Try.prog W 0 (fun _ => true) true 34 v d ps) : ∃ (a0 : Option Addr) (c0 : Nat) (l0 : List NOp) (a1 : Option Addr) (c1 : Nat) (l1 : List NOp) (a2 : Option Addr) (c2 : Nat) (l2 : List NOp), v = .agg #[.slice a0 l0.length c0, .slice a1 l1.length c1, .slice a2 l2.length c2] ∧
      (NOpE.See W a0 l0 ∧ (∀ y ∈ l0, y.ok W)) ∧ (NOpE.See W a1 l1 ∧ (∀ y ∈ l1, y.ok W)) ∧ (NOpE.See W a2 l2 ∧ (∀ y ∈ l2, y.ok W)) ∧
      (Fit 34 d → (l0.length ≤ 2940000000000 ∧ ∀ y ∈ l0, FewO y) ∧ (l1.length ≤ 2940000000000 ∧ ∀ y ∈ l1, FewO y) ∧ (l2.length ≤ 2940000000000 ∧ ∀ y ∈ l2, FewO y)) := by
  obtain ⟨cs, rfl, hsz⟩ := okWide_struct Try.underlying34 hv
  rw [cellsNWays] at hsz
  obtain ⟨fuel, hf⟩ := h
  obtain ⟨l⟩ := cs
  match l, hsz, hf with
  | [c0, c1, c2], _, hf =>
    have hf' : DataW.trod enc Try.prog W 0 (fun _ => true) true fuel 34 [c0, c1, c2] = some (d, ps) := hf
    obtain ⟨xs, n, _, he, _, hlen, hff⟩ := DataW.trod_struct Try.underlying34 hf'
    match xs, hlen with
    | [y0, y1, y2], _ =>
      have h0 := hff 0 _ rfl
      have h1 := hff 1 _ rfl
      have h2 := hff 2 _ rfl
      simp [cellsNOps] at h0 h1 h2
      obtain ⟨a0, k0, l0, e0, s0, o0, f0⟩ := openNSl h0
      obtain ⟨a1, k1, l1, e1, s1, o1, f1⟩ := openNSl h1
      obtain ⟨a2, k2, l2, e2, s2, o2, f2⟩ := openNSl h2
      subst e0 e1 e2
      have hd : d = DataW.agg (List.map (fun x => x.fst) [y0, y1, y2]) := congrArg Prod.fst he
      refine ⟨a0, k0, l0, a1, k1, l1, a2, k2, l2, rfl, ⟨s0, o0⟩, ⟨s1, o1⟩, ⟨s2, o2⟩, fun hfit => ?_⟩
      rw [hd] at hfit
      have hin : ∀ z, (z ∈ DataW.weights Try.prog 22 y0.1 ∨ z ∈ DataW.weights Try.prog 22 y1.1 ∨ z ∈ DataW.weights Try.prog 22 y2.1) → decide (z ≤ reachBytes) = true := fun z hz => by
        refine List.all_eq_true.1 hfit z ?_
        simp only [List.map_cons, List.map_nil, DataW.weights, Try.underlying34]
        simp [DataW.weightsEach]
        exact hz
      exact ⟨f0 (List.all_eq_true.2 fun z hz => hin z (.inl hz)), f1 (List.all_eq_true.2 fun z hz => hin z (.inr (.inl hz))), f2 (List.all_eq_true.2 fun z hz => hin z (.inr (.inr hz)))⟩
end Go.Proofs.Ytllhmbemcmigoaa
end

section
namespace Go.Proofs.Ytllhmbemcmigoaa
open Go.ChangeShapes Go.WideShapes Go.ChangeAt Go.RowKit Go.Hay
set_option linter.unusedVariables false

set_option maxRecDepth 100000 in
theorem netClonesContract (H : Type) (enc : TypeId × Value → H) (W : World) (base : Nat) (args : Array Value) (ds gs : List (DataW H)) (before : List MemPlace)
    (hval : ∀ (j : Nat) t v, Try.f4.params[j]? = some t → args[j]? = some v → Value.okWide Try.prog W .any base t v)
    (hW : DataW.Whole enc Try.prog Try.f4.params.toList Rows.netClonesSpec.vars false W args.toList ds gs before)
    (hsz : (DataW.weightsEach Try.prog (Try.f4.params.toList ++ (OpenSpec.ofChange Rows.netClonesSpec).bare.plain.varTypes Try.prog) (ds ++ gs)).all (· ≤ reachBytes) = true) :
    Calls Try.prog 4 args W fun e W' => ∃ v, e = .returned v ∧ Rows.netClonesSpec.post enc Try.prog Try.f4 false true false false W args v W' := by
  have hW' := hW
  obtain ⟨p, q, hA0, hV, rfl, hfz, hnd⟩ := hW
  have hA : DataW.TrodAll enc Try.prog W 0 (fun _ => true) true Try.f4.params.toList args.toList ds p := hA0
  rw [Try.params4] at hA hval hsz
  obtain ⟨v0, vs0, d0, ds0, p0, q0, hargs, rfl, rfl, h0, r0⟩ := trodAll_cons hA
  obtain ⟨v1, vs1, d1, ds1, p1, q1, rfl, rfl, rfl, h1, r1⟩ := trodAll_cons r0
  obtain ⟨rfl, rfl, rfl⟩ := trodAll_nil r1
  obtain rfl : args = #[v0, v1] := by cases args; simp_all
  obtain ⟨rfl, rfl⟩ := trodVars_none hV
  obtain ⟨a0, rfl, rfl, rfl, w0⟩ := open_int Try.underlying3 (hval 0 3 v0 rfl rfl) h0
  have hb0 := bounds_i64 w0
  have k1 := h1
  have lt1 : ∀ x ∈ p1, x.block < W.heap.size := by obtain ⟨m, hm⟩ := k1; exact DataW.trod_lt m _ _ _ hm
  obtain ⟨aa1, ca1, la1, ab1, cb1, lb1, ac1, cc1, lc1, rfl, ⟨sa1, oa1⟩, ⟨sb1, ob1⟩, ⟨sc1, oc1⟩, hfit1⟩ := openNWays (hval 1 34 v1 rfl rfl) h1
  obtain ⟨⟨na1, fa1⟩, ⟨nb1, fb1⟩, ⟨nc1, fc1⟩⟩ := hfit1 (List.all_eq_true.2 fun x hx => List.all_eq_true.1 hsz x (by simp [DataW.weightsEach]; first | exact .inl hx | exact .inr hx | exact .inr (.inl hx) | exact .inr (.inr hx) | exact hx))
  clear hA0
  refine (clnWalk a0 aa1 ca1 la1 ab1 cb1 lb1 ac1 cc1 lc1 W sa1 oa1 fa1 na1 sb1 ob1 fb1 nb1 sc1 oc1 fc1 nc1).mono fun e W' ⟨he, bel⟩ => ?_
  subst he
  exact ⟨_, rfl, _, _, _, [], _, [], hW', trodAll_mk1 (shut_bool Try.underlying4 _), (trodAll_cons_mk (shut_int Try.underlying3 w0) (trodAll_cons_mk (Below.trod Try.laidOut (by kernel_rfl) (of_decide_eq_true (by kernel_rfl)) k1 bel lt1) trodAll_mk0)), rfl, bel.frame _, fun h => by cases h⟩

set_option maxRecDepth 100000 in
theorem netClonesLifted (os : Os) (started : os.Started) (H : Type) (enc : TypeId × Value → H) :
    ReturnsInHanded {} Try.checked os 4 .any (Rows.netClonesSpec.pre6 enc Try.prog Try.f4 Rows.netClonesRow.domain false) (Rows.netClonesSpec.post enc Try.prog Try.f4 false true false false) := by
  refine returnsInHanded_of_change_sized (C := Try.checked) Try.own started (by kernel_rfl) Try.func4
    (ChangeSpec.witness6 (enc := enc) (C := Try.checked) false ⟨#[], #[.int .i64 0, .agg #[.slice none 0 0, .slice none 0 0, .slice none 0 0]], []⟩ 8 (by kernel_rfl) (by kernel_rfl) (by kernel_rfl) (by kernel_rfl)) ?_
  intro W base args ds gs before hval hW _ hsz _
  exact netClonesContract H enc W base args ds gs before hval hW hsz

theorem NetClones_holds : Rows.NetClonesSaid :=
  OpenClaim.holds_of_wide 4 Try.f4 rfl rfl rfl rfl rfl rfl rfl ⟨rfl, rfl, rfl, rfl, rfl⟩ rfl rfl rfl rfl rfl (by kernel_rfl) Try.func4 (by kernel_rfl)
    (of_decide_eq_true (by kernel_rfl)) (by unfold Func.isWrapper; first | (rw [if_pos (by decide +kernel)]; kernel_rfl) | (rw [if_neg (by decide +kernel)]; exact ⟨rfl, rfl⟩))
    (fun os started H enc _ => netClonesLifted os started H enc)

#print axioms NetClones_holds
end Go.Proofs.Ytllhmbemcmigoaa
end

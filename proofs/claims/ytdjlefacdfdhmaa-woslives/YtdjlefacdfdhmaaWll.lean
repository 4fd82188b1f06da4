/- WosLives: the card. -/
import Derived.Test.YtdjlefacdfdhmaaB11
import Derived.SizedLaws
import Derived.JoinedCond
import Derived.Deep.CondSized
section
namespace Go.Hay
open Go.RowKit
theorem at_one (e : Int) (x : Vn) : atV e [x] = if seenV e x = true then [asV e x] else [] := by
  unfold atV
  rw [List.filter_cons]
  split <;> rfl
end Go.Hay
namespace Go.Proofs.Ytdjlefacdfdhmaa
open Go.RowKit Go.Hay
set_option linter.unusedVariables false
set_option linter.unusedSimpArgs false

theorem era_none (x : Vn) (e : Int) (he : e ≤ x.ep) : eraV [x] x.id e = ([x], 101) := by
  unfold eraV
  rw [has_one, if_neg (by simp), if_pos he]
set_option maxHeartbeats 16000000 in
set_option maxRecDepth 100000 in
theorem walkLives (x : Vn) (E T : Int) (w : World) (hx : VnOk w x) (hx0 : 0 ≤ x.ep) :
    Calls Try.prog 6 #[x.v, .int .u64 E, .int .u64 T] w fun e w' => e = .returned (.bool true) ∧ Below w.heap.size w w' := by
  obtain ⟨xe, xn, xa, xc, xr, xd⟩ := x
  obtain ⟨w1, hw1⟩ : ∃ w1, w.alloc (.cells #[.int .u64 xe, .int .u32 xn, .slice xa xr.length xc, .int .u64 xd] 45) = w1 := ⟨_, rfl⟩
  have k1 : Kp [] w w1 := by rw [← hw1]; exact (Kp.refl _ _).alloc _
  have b1 : Bx w1 w.heap.size [.int .u64 xe, .int .u32 xn, .slice xa xr.length xc, .int .u64 xd] := by rw [← hw1]; exact Bx.new w [.int .u64 xe, .int .u32 xn, .slice xa xr.length xc, .int .u64 xd] _
  have hz1 : w.heap.size < w1.heap.size := by rw [← hw1]; simp
  have cB := cBegun w1
  have hB1 := hid b1
  have hx' := hid hx
  dsimp only at hx0
  simp only [Vn.v]
  clear b1 hx
  go_enter Try.func6, Try.ntmps6
  go_wp2_with fail
  refine cB.mono ?_
  rintro e w2 ⟨p, rfl, hD2, k2, hp⟩
  have b2 := hB1.out.kept k2 hz1
  have q3 := b2.get 3 _ rfl
  have f3 := b2.free 3
  obtain ⟨w3, hw3⟩ : ∃ w3, w2.setCell ⟨w.heap.size, 3, none⟩ (.int .u64 0) = w3 := ⟨_, rfl⟩
  have b3 : Bx w3 w.heap.size [.int .u64 xe, .int .u32 xn, .slice xa xr.length xc, .int .u64 0] := by rw [← hw3]; exact b2.set 3 (by simp) (.int .u64 0)
  have k3 : Kp [w.heap.size] w2 w3 := by rw [← hw3]; exact (Kp.refl _ _).setCell (.inl (by simp)) _
  have kk3 : Kp [] w w3 := (k1.trans k2 (by simp)).trans k3 (fun k hk => .inr (by simp at hk; omega))
  have hD3 : Wos w3 p (.slice none 0 0) [] := hD2.kept k3 (fun k hk => by simp [own, Value.ownBlock] at hk; subst hk; simp; omega) (by simp)
  have okx : VnOk w3 ⟨xe, xn, xa, xc, xr, 0⟩ := ⟨(hx'.out.kept kk3).see, hx'.out.cap, hx'.out.nil, hx'.out.few⟩
  have cA := cAddW hD3 ⟨xe, xn, xa, xc, xr, 0⟩ okx (by simp)
  simp only [Vn.v] at cA
  have q0 := b3.get 0 _ rfl; have q1 := b3.get 1 _ rfl; have q2 := b3.get 2 _ rfl; have q4 := b3.get 3 _ rfl
  have hz3 : w.heap.size < w3.heap.size := by have := kk3.size; have := k2.size; have := k3.size; omega
  have hB3 := hid b3
  have hK3 := hid kk3
  have hD3l : ∀ k ∈ p :: own (.slice none 0 0), k ≠ w.heap.size ∧ w.heap.size ≤ k := fun k hk => by simp [own, Value.ownBlock] at hk; subst hk; omega
  clear cB hD2 k2 b2 b3 k3 okx hD3 kk3
  go_wp2_with fail
  refine cA.mono ?_
  rintro e1 w4 ⟨na, nc, hC⟩
  rw [add_nil _ rfl] at hC
  obtain ⟨v4, rfl, hD4, hW4, _⟩ := hC
  have b4 := hid (hB3.out.keptS hW4.kp (fun hm => (hD3l _ hm).1 rfl) hz3)
  have hz4 : w.heap.size < w4.heap.size := by have := hW4.kp.size; omega
  have hK4 := hid (hK3.out.trans hW4.kp (fun k hk => .inr (hD3l k hk).2))
  have hn4 : ∀ k ∈ p :: own v4, w.heap.size < k := fun k hk => by
    rcases List.mem_cons.1 hk with e | e
    · subst e; omega
    · rcases hW4.new k e with h | h
      · simp [own, Value.ownBlock] at h
      · omega
  have hn4' := hid hn4
  have hD4' := hid hD4
  clear cA hW4 hD4 q0 q1 q2 q3 q4 hw3 f3 hn4 hD3l
  by_cases hE : xe ≤ E
  · have hs1 : Hid (seenV E ⟨xe, xn, na, nc, xr, 0⟩ = true) := by show _ = _; simp [seenV, hE]
    have hS : Hid (∀ X, Kp [] w4 X → X.cell? ⟨w.heap.size, 0, none⟩ = some (.int .u64 xe)) := fun X k => (b4.out.kept k hz4).get 0 _ rfl
    have z0 := b4.out.get 0 _ rfl
    have kwd : Kp [] w4 w4.drew := (Kp.refl _ _).drew
    obtain ⟨w5, k5, cA2, cG2⟩ := atPair (hD4'.out.keptNew kwd) E
    rw [at_one, if_pos hs1.out] at cG2
    have hk5 := hid (kwd.trans k5 (by simp))
    have hkwd := hid kwd
    have hge : decide (xe ≤ E) = true := decide_eq_true (by omega)
    clear z0 kwd
    go_wp2_with fail
    have hge2 : decide (xe ≤ E) = true := decide_eq_true (by omega)
    refine wp_region_held_drew (S := (fun A => A.cell? ⟨w.heap.size, 0, none⟩ = some (.int .u64 xe))) (by kernel_rfl) ?_ (fun hHeld => ?_)
    · exact hS.out _ hkwd.out
    generalize w4.drew = wd at *
    refine wpAnyH_take (i := 0) (v := ?_) rfl (by kernel_rfl) (by kernel_rfl) (by kernel_rfl) (fun _ _ _ h => h) (Or.inl ⟨by rfl, ?_⟩) (by assumption) ?_
    rotate_left
    · intro w hSw; (try dsimp only at hSw); go_simp <;> with_reducible rfl
    try simp only [Act.put, List.getElem_toArray, List.getElem_cons_zero, List.getElem_cons_succ, List.setIfInBounds_toArray, List.set_cons_zero, List.set_cons_succ]
    refine wpAnyH_take (i := 1) (v := ?_) rfl (by kernel_rfl) (by kernel_rfl) (by kernel_rfl) (fun _ _ _ h => h) (Or.inl ⟨by rfl, ?_⟩) (by assumption) ?_
    rotate_left
    · intro w hSw; (try dsimp only at hSw); go_simp <;> with_reducible rfl
    try simp only [Act.put, List.getElem_toArray, List.getElem_cons_zero, List.getElem_cons_succ, List.setIfInBounds_toArray, List.set_cons_zero, List.set_cons_succ]
    refine wpAnyH_take (i := 6) (v := ?_) rfl (by kernel_rfl) (by kernel_rfl) (by kernel_rfl) (fun _ _ _ h => h) (Or.inl ⟨by rfl, ?_⟩) (by assumption) ?_
    rotate_left
    · intro w hSw; (try dsimp only at hSw); go_simp <;> with_reducible rfl
    try simp only [Act.put, List.getElem_toArray, List.getElem_cons_zero, List.getElem_cons_succ, List.setIfInBounds_toArray, List.set_cons_zero, List.set_cons_succ]
    refine wpAnyH_take (i := 7) (v := ?_) rfl (by kernel_rfl) (by kernel_rfl) (by kernel_rfl) (fun _ _ _ h => h) (Or.inl ⟨by rfl, ?_⟩) (by assumption) ?_
    rotate_left
    · intro w hSw; (try dsimp only at hSw); go_simp <;> with_reducible rfl
    try simp only [Act.put, List.getElem_toArray, List.getElem_cons_zero, List.getElem_cons_succ, List.setIfInBounds_toArray, List.set_cons_zero, List.set_cons_succ]
    refine wpAnyH_take (i := 8) (v := ?_) rfl (by kernel_rfl) (by kernel_rfl) (by kernel_rfl) (fun _ _ _ h => h) (Or.inl ⟨by rfl, ?_⟩) (by assumption) ?_
    rotate_left
    · intro w hSw; (try dsimp only at hSw); go_simp <;> with_reducible rfl
    try simp only [Act.put, List.getElem_toArray, List.getElem_cons_zero, List.getElem_cons_succ, List.setIfInBounds_toArray, List.set_cons_zero, List.set_cons_succ]
    refine wpAnyH_take (i := 9) (v := ?_) rfl (by kernel_rfl) (by kernel_rfl) (by kernel_rfl) (fun _ _ _ h => h) (Or.inl ⟨by rfl, ?_⟩) (by assumption) ?_
    rotate_left
    · intro w hSw; (try dsimp only at hSw); go_simp <;> with_reducible rfl
    try simp only [Act.put, List.getElem_toArray, List.getElem_cons_zero, List.getElem_cons_succ, List.setIfInBounds_toArray, List.set_cons_zero, List.set_cons_succ]
    refine wpAnyH_take (i := 10) (v := ?_) rfl (by kernel_rfl) (by kernel_rfl) (by kernel_rfl) (fun _ _ _ h => h) (Or.inl ⟨by rfl, ?_⟩) (by assumption) ?_
    rotate_left
    · intro w hSw; (try dsimp only at hSw); go_simp <;> with_reducible rfl
    try simp only [Act.put, List.getElem_toArray, List.getElem_cons_zero, List.getElem_cons_succ, List.setIfInBounds_toArray, List.set_cons_zero, List.set_cons_succ]
    refine wpAnyH_ready (rs := [2]) (by kernel_rfl) (by simp) ?_
    refine AllReadyH.cons rfl (fun K hK => ?_) AllReadyH.nil
    go_simp
    refine cA2.mono ?_
    rintro e3 w5' ⟨rfl, hw5'⟩
    rw [hw5']
    clear hw5' w5' cA2
    (try go_wp2_with fail)
    refine hK.out _ _ ?_ (fun hHeld => ?_)
    · exact hS.out _ hk5.out
    clear hK K
    try simp only [Act.put, List.getElem_toArray, List.getElem_cons_zero, List.getElem_cons_succ, List.setIfInBounds_toArray, List.set_cons_zero, List.set_cons_succ]
    refine wpAnyH_ready (rs := [3]) (by kernel_rfl) (by simp) ?_
    refine AllReadyH.cons rfl (fun K hK => ?_) AllReadyH.nil
    go_simp
    refine cG2.mono ?_
    rintro e4 w6 ⟨L1, a1, c1, rfl, hL1, hrow1, k6, hn1, hown1⟩
    have hl1 : L1.length = 1 := hL1.len
    rw [hl1]
    clear cG2 hL1 hrow1 hn1 hown1 hl1
    (try go_wp2_with fail)
    refine hK.out _ _ ?_ (fun hHeld => ?_)
    · exact hS.out _ (hk5.out.trans k6 (by simp))
    clear hK K
    try simp only [Act.put, List.getElem_toArray, List.getElem_cons_zero, List.getElem_cons_succ, List.setIfInBounds_toArray, List.set_cons_zero, List.set_cons_succ]
    refine wpAnyH_take (i := 4) (v := ?_) rfl (by kernel_rfl) (by kernel_rfl) (by kernel_rfl) (fun _ _ _ h => h) (Or.inl ⟨by rfl, ?_⟩) (by assumption) ?_
    rotate_left
    · intro w hSw; (try dsimp only at hSw); go_simp <;> with_reducible rfl
    try simp only [Act.put, List.getElem_toArray, List.getElem_cons_zero, List.getElem_cons_succ, List.setIfInBounds_toArray, List.set_cons_zero, List.set_cons_succ]
    refine wpAnyH_take (i := 5) (v := ?_) rfl (by kernel_rfl) (by kernel_rfl) (by kernel_rfl) (fun _ _ _ h => h) (Or.inl ⟨by rfl, ?_⟩) (by assumption) ?_
    rotate_left
    · intro w hSw; (try dsimp only at hSw); go_simp <;> with_reducible rfl
    try simp only [Act.put, List.getElem_toArray, List.getElem_cons_zero, List.getElem_cons_succ, List.setIfInBounds_toArray, List.set_cons_zero, List.set_cons_succ]
    refine wpAnyH_take (i := 11) (v := ?_) rfl (by kernel_rfl) (by kernel_rfl) (by kernel_rfl) (fun _ _ _ h => h) (Or.inl ⟨by rfl, ?_⟩) (by assumption) ?_
    rotate_left
    · intro w hSw; (try dsimp only at hSw); go_simp <;> with_reducible rfl
    try simp only [Act.put, List.getElem_toArray, List.getElem_cons_zero, List.getElem_cons_succ, List.setIfInBounds_toArray, List.set_cons_zero, List.set_cons_succ]
    refine wpAnyH_done (by kernel_rfl) ?_ _
    clear hHeld
    have hk6 := hid (hk5.out.trans k6 (by simp))
    have hD6 := hD4'.out.keptNew hk6.out
    have cE := cErase hD6 xe xn T
    have b6 := b4.out.kept hk6.out hz4
    have r0 := b6.get 0 _ rfl; have r1 := b6.get 1 _ rfl
    have hz6 : w.heap.size < w6.heap.size := by have := hk6.out.size; omega
    have hB6 := hid b6
    clear b6 hD6
    by_cases hT : T ≤ xe
    · rw [show ((xe, xn) : Int × Int) = (⟨xe, xn, na, nc, xr, 0⟩ : Vn).id from rfl, era_none _ _ hT] at cE
      go_wp2_with fail
      refine cE.mono ?_
      rintro e5 w7 ⟨v7, rfl, hD7, hW7, _⟩
      have b7 := hB6.out.keptS hW7.kp (fun hm => by have := hn4'.out _ hm; omega) hz6
      have s0 := b7.get 0 _ rfl
      have hB : Hid (Below w.heap.size w w7) := ((hK4.out.trans hk6.out (by simp)).trans hW7.kp (fun k hk => .inr (Nat.le_of_lt (hn4'.out k hk)))).below
      clear cE hD7 hW7 b7 r0 r1
      go_wp2_with fail
      go_returns
      exact ⟨rfl, hB.out⟩
    · rw [show ((xe, xn) : Int × Int) = (⟨xe, xn, na, nc, xr, 0⟩ : Vn).id from rfl, era_one _ _ rfl hT] at cE
      go_wp2_with fail
      refine cE.mono ?_
      rintro e5 w7 ⟨v7, rfl, hD7, hW7, _⟩
      have b7 := hB6.out.keptS hW7.kp (fun hm => by have := hn4'.out _ hm; omega) hz6
      have s0 := b7.get 0 _ rfl
      have hK7 := hid ((hK4.out.trans hk6.out (by simp)).trans hW7.kp (fun k hk => .inr (Nat.le_of_lt (hn4'.out k hk))))
      have hz7 : w.heap.size < w7.heap.size := by have := hW7.kp.size; omega
      have hB7 := hid b7
      obtain ⟨w8, k8, cA3, cG3⟩ := atPair hD7 E
      have hT0 : ¬ T = 0 := by omega
      clear cE hW7 b7 r0 r1 hD7
      go_wp2_with fail
      refine cA3.mono ?_
      rintro e6 w8' ⟨rfl, hw8'⟩
      rw [hw8']
      clear hw8' w8' cA3 s0
      by_cases hET : E < T
      · rw [at_one, if_pos (by simp [seenV, erased, hE, hET])] at cG3
        go_wp2_with fail
        refine cG3.mono ?_
        rintro e7 w9 ⟨L2, a2, c2, rfl, hL2, hrow2, k9, hn2, hown2⟩
        have b9 := (hB7.out.kept k8 hz7).kept k9 (by have := k8.size; omega)
        have u0 := b9.get 0 _ rfl
        obtain ⟨u, ss, rfl, hu, hss⟩ := hL2.symm.cons
        have hss2 := hss.nil
        subst hss2
        obtain ⟨g, o, rfl, d0, d1, d2, d3⟩ := idAt (See.ofRow hrow2) (i := 0) (x := u) rfl
        have hud : u.del = 0 := by rw [← p_del hu]; simp [asV, erased, hET]
        rw [hud] at d3
        simp only [Nat.zero_mul, Nat.add_zero] at d0 d1 d2 d3
        have hB : Hid (Below w.heap.size w w9) := ((hK7.out.trans k8 (by simp)).trans k9 (by simp)).below
        have hlt : decide (E < T) = true := decide_eq_true (by omega)
        have hge3 : decide (xe ≤ E) = true := decide_eq_true (by omega)
        clear cG3 hrow2 hn2 hown2 b9
        simp only [List.length_cons, List.length_nil, Nat.zero_add]
        go_wp2_with fail
        go_returns
        exact ⟨rfl, hB.out⟩
      · rw [at_one, if_neg (by rw [show seenV E (erased ⟨xe, xn, na, nc, xr, 0⟩ T) = (decide (xe ≤ E) && (decide (T = 0) || decide (E < T))) from rfl, show decide (T = 0) = false from decide_eq_false (by omega), show decide (E < T) = false from decide_eq_false (by omega)]; simp)] at cG3
        go_wp2_with fail
        refine cG3.mono ?_
        rintro e7 w9 ⟨L2, a2, c2, rfl, hL2, hrow2, k9, hn2, hown2⟩
        have b9 := (hB7.out.kept k8 hz7).kept k9 (by have := k8.size; omega)
        have u0 := b9.get 0 _ rfl
        have hl2 : L2.length = 0 := hL2.len
        rw [hl2]
        have hB : Hid (Below w.heap.size w w9) := ((hK7.out.trans k8 (by simp)).trans k9 (by simp)).below
        have hlt : decide (E < T) = false := decide_eq_false (by omega)
        have hge3 : decide (xe ≤ E) = true := decide_eq_true (by omega)
        clear cG3 hrow2 hn2 hown2 b9 hL2
        skip
        go_wp2_with fail
        go_returns
        exact ⟨rfl, hB.out⟩
  · have hs1 : Hid (seenV E ⟨xe, xn, na, nc, xr, 0⟩ = false) := by show _ = _; simp [seenV, hE]
    have hS : Hid (∀ X, Kp [] w4 X → X.cell? ⟨w.heap.size, 0, none⟩ = some (.int .u64 xe)) := fun X k => (b4.out.kept k hz4).get 0 _ rfl
    have z0 := b4.out.get 0 _ rfl
    have kwd : Kp [] w4 w4.drew := (Kp.refl _ _).drew
    obtain ⟨w5, k5, cA2, cG2⟩ := atPair (hD4'.out.keptNew kwd) E
    rw [at_one, if_neg (by rw [hs1.out]; simp)] at cG2
    have hk5 := hid (kwd.trans k5 (by simp))
    have hkwd := hid kwd
    have hge : decide (xe ≤ E) = false := decide_eq_false (by omega)
    clear z0 kwd
    go_wp2_with fail
    have hge2 : decide (xe ≤ E) = false := decide_eq_false (by omega)
    refine wp_region_held_drew (S := (fun A => A.cell? ⟨w.heap.size, 0, none⟩ = some (.int .u64 xe))) (by kernel_rfl) ?_ (fun hHeld => ?_)
    · exact hS.out _ hkwd.out
    generalize w4.drew = wd at *
    refine wpAnyH_take (i := 0) (v := ?_) rfl (by kernel_rfl) (by kernel_rfl) (by kernel_rfl) (fun _ _ _ h => h) (Or.inl ⟨by rfl, ?_⟩) (by assumption) ?_
    rotate_left
    · intro w hSw; (try dsimp only at hSw); go_simp <;> with_reducible rfl
    try simp only [Act.put, List.getElem_toArray, List.getElem_cons_zero, List.getElem_cons_succ, List.setIfInBounds_toArray, List.set_cons_zero, List.set_cons_succ]
    refine wpAnyH_take (i := 1) (v := ?_) rfl (by kernel_rfl) (by kernel_rfl) (by kernel_rfl) (fun _ _ _ h => h) (Or.inl ⟨by rfl, ?_⟩) (by assumption) ?_
    rotate_left
    · intro w hSw; (try dsimp only at hSw); go_simp <;> with_reducible rfl
    try simp only [Act.put, List.getElem_toArray, List.getElem_cons_zero, List.getElem_cons_succ, List.setIfInBounds_toArray, List.set_cons_zero, List.set_cons_succ]
    refine wpAnyH_take (i := 6) (v := ?_) rfl (by kernel_rfl) (by kernel_rfl) (by kernel_rfl) (fun _ _ _ h => h) (Or.inl ⟨by rfl, ?_⟩) (by assumption) ?_
    rotate_left
    · intro w hSw; (try dsimp only at hSw); go_simp <;> with_reducible rfl
    try simp only [Act.put, List.getElem_toArray, List.getElem_cons_zero, List.getElem_cons_succ, List.setIfInBounds_toArray, List.set_cons_zero, List.set_cons_succ]
    refine wpAnyH_take (i := 7) (v := ?_) rfl (by kernel_rfl) (by kernel_rfl) (by kernel_rfl) (fun _ _ _ h => h) (Or.inl ⟨by rfl, ?_⟩) (by assumption) ?_
    rotate_left
    · intro w hSw; (try dsimp only at hSw); go_simp <;> with_reducible rfl
    try simp only [Act.put, List.getElem_toArray, List.getElem_cons_zero, List.getElem_cons_succ, List.setIfInBounds_toArray, List.set_cons_zero, List.set_cons_succ]
    refine wpAnyH_take (i := 8) (v := ?_) rfl (by kernel_rfl) (by kernel_rfl) (by kernel_rfl) (fun _ _ _ h => h) (Or.inl ⟨by rfl, ?_⟩) (by assumption) ?_
    rotate_left
    · intro w hSw; (try dsimp only at hSw); go_simp <;> with_reducible rfl
    try simp only [Act.put, List.getElem_toArray, List.getElem_cons_zero, List.getElem_cons_succ, List.setIfInBounds_toArray, List.set_cons_zero, List.set_cons_succ]
    refine wpAnyH_take (i := 9) (v := ?_) rfl (by kernel_rfl) (by kernel_rfl) (by kernel_rfl) (fun _ _ _ h => h) (Or.inl ⟨by rfl, ?_⟩) (by assumption) ?_
    rotate_left
    · intro w hSw; (try dsimp only at hSw); go_simp <;> with_reducible rfl
    try simp only [Act.put, List.getElem_toArray, List.getElem_cons_zero, List.getElem_cons_succ, List.setIfInBounds_toArray, List.set_cons_zero, List.set_cons_succ]
    refine wpAnyH_take (i := 10) (v := ?_) rfl (by kernel_rfl) (by kernel_rfl) (by kernel_rfl) (fun _ _ _ h => h) (Or.inl ⟨by rfl, ?_⟩) (by assumption) ?_
    rotate_left
    · intro w hSw; (try dsimp only at hSw); go_simp <;> with_reducible rfl
    try simp only [Act.put, List.getElem_toArray, List.getElem_cons_zero, List.getElem_cons_succ, List.setIfInBounds_toArray, List.set_cons_zero, List.set_cons_succ]
    refine wpAnyH_ready (rs := [2]) (by kernel_rfl) (by simp) ?_
    refine AllReadyH.cons rfl (fun K hK => ?_) AllReadyH.nil
    go_simp
    refine cA2.mono ?_
    rintro e3 w5' ⟨rfl, hw5'⟩
    rw [hw5']
    clear hw5' w5' cA2
    (try go_wp2_with fail)
    refine hK.out _ _ ?_ (fun hHeld => ?_)
    · exact hS.out _ hk5.out
    clear hK K
    try simp only [Act.put, List.getElem_toArray, List.getElem_cons_zero, List.getElem_cons_succ, List.setIfInBounds_toArray, List.set_cons_zero, List.set_cons_succ]
    refine wpAnyH_ready (rs := [3]) (by kernel_rfl) (by simp) ?_
    refine AllReadyH.cons rfl (fun K hK => ?_) AllReadyH.nil
    go_simp
    refine cG2.mono ?_
    rintro e4 w6 ⟨L1, a1, c1, rfl, hL1, hrow1, k6, hn1, hown1⟩
    have hl1 : L1.length = 0 := hL1.len
    rw [hl1]
    clear cG2 hL1 hrow1 hn1 hown1 hl1
    (try go_wp2_with fail)
    refine hK.out _ _ ?_ (fun hHeld => ?_)
    · exact hS.out _ (hk5.out.trans k6 (by simp))
    clear hK K
    try simp only [Act.put, List.getElem_toArray, List.getElem_cons_zero, List.getElem_cons_succ, List.setIfInBounds_toArray, List.set_cons_zero, List.set_cons_succ]
    refine wpAnyH_take (i := 4) (v := ?_) rfl (by kernel_rfl) (by kernel_rfl) (by kernel_rfl) (fun _ _ _ h => h) (Or.inl ⟨by rfl, ?_⟩) (by assumption) ?_
    rotate_left
    · intro w hSw; (try dsimp only at hSw); go_simp <;> with_reducible rfl
    try simp only [Act.put, List.getElem_toArray, List.getElem_cons_zero, List.getElem_cons_succ, List.setIfInBounds_toArray, List.set_cons_zero, List.set_cons_succ]
    refine wpAnyH_take (i := 5) (v := ?_) rfl (by kernel_rfl) (by kernel_rfl) (by kernel_rfl) (fun _ _ _ h => h) (Or.inl ⟨by rfl, ?_⟩) (by assumption) ?_
    rotate_left
    · intro w hSw; (try dsimp only at hSw); go_simp <;> with_reducible rfl
    try simp only [Act.put, List.getElem_toArray, List.getElem_cons_zero, List.getElem_cons_succ, List.setIfInBounds_toArray, List.set_cons_zero, List.set_cons_succ]
    refine wpAnyH_take (i := 11) (v := ?_) rfl (by kernel_rfl) (by kernel_rfl) (by kernel_rfl) (fun _ _ _ h => h) (Or.inl ⟨by rfl, ?_⟩) (by assumption) ?_
    rotate_left
    · intro w hSw; (try dsimp only at hSw); go_simp <;> with_reducible rfl
    try simp only [Act.put, List.getElem_toArray, List.getElem_cons_zero, List.getElem_cons_succ, List.setIfInBounds_toArray, List.set_cons_zero, List.set_cons_succ]
    refine wpAnyH_done (by kernel_rfl) ?_ _
    clear hHeld
    have hk6 := hid (hk5.out.trans k6 (by simp))
    have hD6 := hD4'.out.keptNew hk6.out
    have cE := cErase hD6 xe xn T
    have b6 := b4.out.kept hk6.out hz4
    have r0 := b6.get 0 _ rfl; have r1 := b6.get 1 _ rfl
    have hz6 : w.heap.size < w6.heap.size := by have := hk6.out.size; omega
    have hB6 := hid b6
    clear b6 hD6
    by_cases hT : T ≤ xe
    · rw [show ((xe, xn) : Int × Int) = (⟨xe, xn, na, nc, xr, 0⟩ : Vn).id from rfl, era_none _ _ hT] at cE
      go_wp2_with fail
      refine cE.mono ?_
      rintro e5 w7 ⟨v7, rfl, hD7, hW7, _⟩
      have b7 := hB6.out.keptS hW7.kp (fun hm => by have := hn4'.out _ hm; omega) hz6
      have s0 := b7.get 0 _ rfl
      have hB : Hid (Below w.heap.size w w7) := ((hK4.out.trans hk6.out (by simp)).trans hW7.kp (fun k hk => .inr (Nat.le_of_lt (hn4'.out k hk)))).below
      clear cE hD7 hW7 b7 r0 r1
      go_wp2_with fail
      go_returns
      exact ⟨rfl, hB.out⟩
    · rw [show ((xe, xn) : Int × Int) = (⟨xe, xn, na, nc, xr, 0⟩ : Vn).id from rfl, era_one _ _ rfl hT] at cE
      go_wp2_with fail
      refine cE.mono ?_
      rintro e5 w7 ⟨v7, rfl, hD7, hW7, _⟩
      have b7 := hB6.out.keptS hW7.kp (fun hm => by have := hn4'.out _ hm; omega) hz6
      have s0 := b7.get 0 _ rfl
      have hK7 := hid ((hK4.out.trans hk6.out (by simp)).trans hW7.kp (fun k hk => .inr (Nat.le_of_lt (hn4'.out k hk))))
      have hz7 : w.heap.size < w7.heap.size := by have := hW7.kp.size; omega
      have hB7 := hid b7
      obtain ⟨w8, k8, cA3, cG3⟩ := atPair hD7 E
      have hT0 : ¬ T = 0 := by omega
      clear cE hW7 b7 r0 r1 hD7
      go_wp2_with fail
      refine cA3.mono ?_
      rintro e6 w8' ⟨rfl, hw8'⟩
      rw [hw8']
      clear hw8' w8' cA3 s0
      by_cases hET : E < T
      · rw [at_one, if_neg (by rw [show seenV E (erased ⟨xe, xn, na, nc, xr, 0⟩ T) = (decide (xe ≤ E) && (decide (T = 0) || decide (E < T))) from rfl, show decide (T = 0) = false from decide_eq_false (by omega), show decide (xe ≤ E) = false from decide_eq_false (by omega)]; simp)] at cG3
        go_wp2_with fail
        refine cG3.mono ?_
        rintro e7 w9 ⟨L2, a2, c2, rfl, hL2, hrow2, k9, hn2, hown2⟩
        have b9 := (hB7.out.kept k8 hz7).kept k9 (by have := k8.size; omega)
        have u0 := b9.get 0 _ rfl
        have hl2 : L2.length = 0 := hL2.len
        rw [hl2]
        have hB : Hid (Below w.heap.size w w9) := ((hK7.out.trans k8 (by simp)).trans k9 (by simp)).below
        have hlt : decide (E < T) = true := decide_eq_true (by omega)
        have hge3 : decide (xe ≤ E) = false := decide_eq_false (by omega)
        clear cG3 hrow2 hn2 hown2 b9 hL2
        skip
        go_wp2_with fail
        go_returns
        exact ⟨rfl, hB.out⟩
      · exfalso
        omega
end Go.Proofs.Ytdjlefacdfdhmaa
end

section
namespace Go.Proofs.Ytdjlefacdfdhmaa
open Go.ChangeShapes Go.WideShapes Go.ChangeAt Go.RowKit Go.Hay
set_option linter.unusedVariables false

set_option maxRecDepth 100000 in
theorem wosLivesContract (H : Type) (enc : TypeId × Value → H) (W : World) (base : Nat) (args : Array Value) (ds gs : List (DataW H)) (before : List MemPlace)
    (hval : ∀ (j : Nat) t v, Try.f6.params[j]? = some t → args[j]? = some v → Value.okWide Try.prog W .any base t v)
    (hW : DataW.Whole enc Try.prog Try.f6.params.toList Rows.wosLivesSpec.vars false W args.toList ds gs before)
    (hsz : (DataW.weightsEach Try.prog (Try.f6.params.toList ++ (OpenSpec.ofChange Rows.wosLivesSpec).bare.plain.varTypes Try.prog) (ds ++ gs)).all (· ≤ reachBytes) = true) :
    Calls Try.prog 6 args W fun e W' => ∃ v, e = .returned v ∧ Rows.wosLivesSpec.post enc Try.prog Try.f6 false true false false W args v W' := by
  have hW' := hW
  obtain ⟨p, q, hA0, hV, rfl, hfz, hnd⟩ := hW
  have hA : DataW.TrodAll enc Try.prog W 0 (fun _ => true) true Try.f6.params.toList args.toList ds p := hA0
  rw [Try.params6] at hA hval hsz
  obtain ⟨v0, vs0, d0, ds0, p0, q0, hargs, rfl, rfl, h0, r0⟩ := trodAll_cons hA
  obtain ⟨v1, vs1, d1, ds1, p1, q1, rfl, rfl, rfl, h1, r1⟩ := trodAll_cons r0
  obtain ⟨v2, vs2, d2, ds2, p2, q2, rfl, rfl, rfl, h2, r2⟩ := trodAll_cons r1
  obtain ⟨rfl, rfl, rfl⟩ := trodAll_nil r2
  obtain rfl : args = #[v0, v1, v2] := by cases args; simp_all
  obtain ⟨rfl, rfl⟩ := trodVars_none hV
  have k0 := h0
  have lt0 : ∀ x ∈ p0, x.block < W.heap.size := by obtain ⟨m, hm⟩ := k0; exact DataW.trod_lt m _ _ _ hm
  obtain ⟨y0, rfl, ok0, hfit0⟩ := openVnV (hval 0 45 v0 rfl rfl) h0
  have hq0 := hfit0 (List.all_eq_true.2 fun x hx => List.all_eq_true.1 hsz x (by simp [DataW.weightsEach]; first | exact .inl hx | exact .inr hx | exact .inr (.inl hx) | exact .inr (.inr hx) | exact hx))
  obtain ⟨a1, rfl, rfl, rfl, w1⟩ := open_int Try.underlying30 (hval 1 30 v1 rfl rfl) h1
  have hb1 := bounds_u64 w1
  obtain ⟨a2, rfl, rfl, rfl, w2⟩ := open_int Try.underlying30 (hval 2 30 v2 rfl rfl) h2
  have hb2 := bounds_u64 w2
  clear hA0
  refine (walkLives y0 a1 a2 W (ok0.ok hq0) ok0.e0).mono fun e W' ⟨he, bel⟩ => ?_
  subst he
  exact ⟨_, rfl, _, _, _, [], _, [], hW', trodAll_mk1 (shut_bool Try.underlying4 _), (trodAll_cons_mk (Below.trod Try.laidOut (by kernel_rfl) (of_decide_eq_true (by kernel_rfl)) k0 bel lt0) (trodAll_cons_mk (shut_int Try.underlying30 w1) (trodAll_cons_mk (shut_int Try.underlying30 w2) trodAll_mk0))), rfl, bel.frame _, fun h => by cases h⟩

set_option maxRecDepth 100000 in
theorem wosLivesLifted (os : Os) (started : os.Started) (H : Type) (enc : TypeId × Value → H) :
    ReturnsInHanded {} Try.checked os 6 .any (Rows.wosLivesSpec.pre6 enc Try.prog Try.f6 Rows.wosLivesRow.domain false) (Rows.wosLivesSpec.post enc Try.prog Try.f6 false true false false) := by
  refine returnsInHanded_of_change_sized (C := Try.checked) Try.own started (by kernel_rfl) Try.func6
    (ChangeSpec.witness6 (enc := enc) (C := Try.checked) false ⟨#[], #[.agg #[.int .u64 0, .int .u32 0, .slice none 0 0, .int .u64 0], .int .u64 0, .int .u64 0], []⟩ 8 (by kernel_rfl) (by kernel_rfl) (by kernel_rfl) (by kernel_rfl)) ?_
  intro W base args ds gs before hval hW _ hsz _
  exact wosLivesContract H enc W base args ds gs before hval hW hsz

theorem WosLives_holds : Rows.WosLivesSaid :=
  OpenClaim.holds_of_wide 6 Try.f6 rfl rfl rfl rfl rfl rfl rfl ⟨rfl, rfl, rfl, rfl, rfl⟩ rfl rfl rfl rfl rfl (by kernel_rfl) Try.func6 (by kernel_rfl)
    (of_decide_eq_true (by kernel_rfl)) (by unfold Func.isWrapper; first | (rw [if_pos (by decide +kernel)]; kernel_rfl) | (rw [if_neg (by decide +kernel)]; exact ⟨rfl, rfl⟩))
    (fun os started H enc _ => wosLivesLifted os started H enc)

#print axioms WosLives_holds
end Go.Proofs.Ytdjlefacdfdhmaa
end

/- The law's own run: all calls, one behind the other. -/
import Derived.Test.YtgllkonbgigcbaaB14
section
namespace Go.Proofs.Ytgllkonbgigcbaa
open Go.RowKit Go.Hay
set_option linter.unusedVariables false
set_option linter.unusedSimpArgs false

/-- Behind a call of step, and the store of the reference. -/
theorem prStep {W w3 w4 w5 : World} {p mb p' mb' q : Nat} {xs xs' : List Ent} {r r' : RD} {d d' : Dk} (P : Pr W w3 p mb xs r d) (hq : q < w3.heap.size) (hW : W.heap.size ≤ q) (hqf : q ∉ foot p mb xs) (hqr : q ∉ r.foot)
    (hD : Disk w4 p' mb' xs' d') (hR : RdOk w4 r') (hL : Like r' d') (kk : Kp (foot p mb xs) w3 w4) (n1 : ∀ k ∈ foot p' mb' xs', k ∈ foot p mb xs ∨ w3.heap.size ≤ k) (n2 : ∀ k ∈ r'.foot, k ∈ r.foot ∨ w3.heap.size ≤ k) (n3 : ∀ k ∈ r'.foot, k ∉ foot p' mb' xs') (k5 : Kp [q] w4 w5) :
    Pr W w5 p' mb' xs' r' d' ∧ q ∉ foot p' mb' xs' ∧ q ∉ r'.foot := by
  have h1 : q ∉ foot p' mb' xs' := fun h => by
    rcases n1 q h with h | h
    · exact hqf h
    · omega
  have h2 : q ∉ r'.foot := fun h => by
    rcases n2 q h with h | h
    · exact hqr h
    · omega
  exact ⟨(P.step hD hR hL kk n1 n3).keepS k5 (by simpa using h1) (by simpa using h2) (by simpa using hW), h1, h2⟩
/-- How it stands behind j calls. -/
def RunI (W : World) (q K0 J0 s0 : Nat) (l : List DOp) (p' : Nat) (j : Nat) (wn : World) : Prop :=
  ∃ (mb' : Nat) (d : Dk) (xs : List Ent) (r : RD), Pr W wn p' mb' xs r d ∧ Lw (K0 + sumB (l.take j)) (J0 + j) d ∧ d.steps ≤ s0 + j ∧ RB wn q r ∧ q ∉ foot p' mb' xs ∧ q ∉ r.foot ∧ B6 wn (q + 1) (.int .i64 0) (.int .i64 0) (.slice none 0 0) (.bool false) (.bool false) (.int .i64 0) ∧ q + 1 ∉ foot p' mb' xs ∧ q + 1 ∉ r.foot
def RunQ (W : World) (K J s : Nat) (e : Ending) (w' : World) : Prop :=
  ∃ (p' mb' : Nat) (d : Dk) (xs : List Ent) (r : RD), e = .returned (.tuple #[.pointer (some ⟨p', 0, none⟩), r.v, .bool true]) ∧ Pr W w' p' mb' xs r d ∧ Lw K J d ∧ d.steps ≤ s
set_option maxHeartbeats 16000000 in
set_option maxRecDepth 100000 in
theorem cRun {W w : World} {p mb : Nat} {xs : List Ent} {r : RD} {d : Dk} (P : Pr W w p mb xs r d) {K0 J0 s0 : Nat} (low : Lw K0 J0 d) (hst : d.steps ≤ s0) (a : Option Addr) (c : Nat) (l : List DOp) (hs1 : DOpE.See W a l) (hok1 : ∀ o ∈ l, o.ok W) (hK0 : K0 ≤ 10000000) (hJ0 : J0 ≤ 10000000) (hs0 : s0 ≤ 10000000) (hb1 : sumB l ≤ 1048576) (hn1 : l.length ≤ 1048576) :
    Calls Try.prog 10 #[.pointer (some ⟨p, 0, none⟩), r.v, .slice a l.length c] w (RunQ W (K0 + sumB l) (J0 + l.length) (s0 + l.length)) := by
  obtain ⟨w1, hw1, k1, bx, br, hsz⟩ := boxRR r w
  have hWw := P.kp.size
  have hPl := P.D.lt
  have A0 : Hid (RunI W w.heap.size K0 J0 s0 l p 0 w1) := ⟨mb, d, xs, r, P.keep k1, low.mono (by omega) (by omega), by omega, bx, fun h => by have := hPl _ h; omega, fun h => by have := P.R.lt _ h; omega, br, fun h => by have := hPl _ h; omega, fun h => by have := P.R.lt _ h; omega⟩
  have hw1' := hid hw1
  obtain ⟨room0, steps0, fa0, fc0, l0, armed0, dead0, left0⟩ := r
  simp only [RD.v] at *
  clear P hw1 bx br low hst hPl
  obtain ⟨q, hq⟩ : ∃ q, Hid (w.heap.size = q) := ⟨_, rfl⟩
  rw [hq.out] at A0
  have hqW : W.heap.size ≤ q := by have := hq.out; omega
  go_enter Try.func10, Try.ntmps10
  go_wp2_with fail
  rw [hw1'.out, hq.out]
  clear hw1' hWw
  go_loopw [0, 14] (fun v i wn => ∃ (p' j : Nat), j ≤ l.length ∧ i = .int .i64 j ∧ v = .pointer (some ⟨p', 0, none⟩) ∧ RunI W q K0 J0 s0 l p' j wn) (fun _ i _ => l.length - (intOf i).toNat)
  case atStart => exact ⟨p, 0, Nat.zero_le _, rfl, rfl, A0.out⟩
  case round =>
    clear A0
    obtain ⟨p', j, hj, rfl, rfl, hA⟩ := hrel
    by_cases hjl : j < l.length
    · obtain ⟨o, ho⟩ : ∃ o, l[j]? = some o := ⟨l[j], by simp [hjl]⟩
      have hom := List.mem_of_getElem? ho
      have hso := hid (sumB_take ho)
      have hsl := sumB_le l (j + 1)
      obtain ⟨mb', d, xs, r, P, low, hsj, rb, hqf, hqr, bz, hzf, hzr⟩ := hA
      obtain ⟨g, f, rfl, x0, x1, x2, x3, x4, x5, x6⟩ := dopAt (hs1.keptNew P.kp) ho
      obtain ⟨wb, hwb, kb, hop, hqb⟩ := box7 o wr
      have Pb := P.keep kb
      have hqlt : q < wr.heap.size := B6.lt rb
      have hzlt : q + 1 < wr.heap.size := bz.lt
      have hop0 := hop
      obtain ⟨y0, y1, y2, y3, y4, y5, y6⟩ := hop0
      have hwb' := hid hwb
      have hoW := hok1 o hom
      have rbb : RB wb q r := B6.kept rb kb
      have a3 := cStepW Pb.D low (by omega) r Pb.R Pb.L Pb.ap o (hoW.kept Pb.kp) (by have := hso.out; omega) (by omega) (offPr Pb hoW)
      have hlow := hid (lw_stp o low P.D.ok (by have := hso.out; omega))
      have hstp := stp_steps d o
      obtain ⟨d', hd'⟩ : ∃ d', d' = stpD d o := ⟨_, rfl⟩
      rw [← hd'] at a3 hlow hstp
      have rbb' := rb
      obtain ⟨b0, b1, b2, b3, b4, b5, bf⟩ := rbb'
      have hqb' : q < wb.heap.size := rbb.lt
      have bzb := bz.kept kb
      obtain ⟨room', steps', fa', fc', l', armed', dead', left'⟩ := r
      simp only [RD.v, DOp.v] at *
      clear P hop rb hd' low hwb ho bz
      go_wp2_with fail
      rw [hwb'.out]
      clear x0 x1 x2 x3 x4 x5 x6
      refine a3.mono ?_
      rintro e w4 ⟨p2, mb2, xs', r', rfl, hD4, hR4, hL4, kk, n1, n2, n3, _⟩
      have bq4 := B6.keptS rbb kk hqf
      have bz4 := bzb.keptS kk hzf
      obtain ⟨W5, hW5, rb5, k5⟩ := set6_ex bq4 (.int .i64 r'.room) (.int .i64 r'.steps) (.slice r'.fa r'.l.length r'.fc) (.bool r'.armed) (.bool r'.dead) (.int .i64 r'.left)
      obtain ⟨P5, hqf5, hqr5⟩ := prStep Pb hqb' hqW hqf hqr hD4 hR4 hL4 kk n1 n2 n3 k5
      have hfin5 : Hid (RunI W q K0 J0 s0 l p2 (j + 1) W5) := ⟨mb2, d', xs', r', P5, hlow.out.mono (by have := hso.out; omega) (by omega), by omega, rb5, hqf5, hqr5, bz4.keptS k5 (by simp), fun h => by
        rcases n1 _ h with h | h
        · exact hzf h
        · omega, fun h => by
        rcases n2 _ h with h | h
        · exact hzr h
        · omega⟩
      obtain ⟨q0, q1, q2, q3, q4, q5, qf⟩ := bq4
      have g0 := qf 0; have g1 := qf 1; have g2 := qf 2; have g3 := qf 3; have g4 := qf 4; have g5 := qf 5
      obtain ⟨room', steps', fa', fc', l', armed', dead', left'⟩ := r'
      simp only [RD.v] at *
      have hW5' := hid hW5
      clear hW5 a3 y0 y1 y2 y3 y4 y5 y6 b0 b1 b2 b3 b4 b5 Pb P5 hD4 hR4 hL4 n1 n2 n3 rbb
      go_wp2_with fail
      rw [hW5'.out]
      exact ⟨⟨p2, j + 1, by omega, by go_num, rfl, hfin5.out⟩, by simp [intOf]; omega⟩
    · obtain rfl : j = l.length := by omega
      obtain ⟨mb', d, xs, r, P, low, hsj, rb, hqf, hqr, bz, hzf, hzr⟩ := hA
      have Pd := P.keep (w' := wr.drew) (Kp.refl _ _).drew
      rw [List.take_length] at low
      have hSt := cStands Pd.D (low.small (by omega)) (by have := len_of P.D; have := low.len; omega) r Pd.R Pd.L.room Pd.L.steps Pd.L.files Pd.L.dead
      have hrz : q + 1 ∉ r.foot ∨ True := .inr trivial
      have hlr := P.R.lt
      have rbd : RB wr.drew q r := B6.kept rb (Kp.refl _ _).drew
      have bzd := bz.kept (w' := wr.drew) (Kp.refl _ _).drew
      have hfin : Hid (∀ w5, Kp [] wr.drew w5 → ∀ W', Kp [q + 1] w5 W' → q + 1 ∉ r.foot → RunQ W (K0 + sumB l) (J0 + l.length) (s0 + l.length) (.returned (.tuple #[.pointer (some ⟨p', 0, none⟩), r.v, .bool true])) W') := fun w5 k5 W' kW hn => by
        exact ⟨p', mb', d, xs, r, rfl, (Pd.keep k5).keepS kW (by simpa using hzf) (by simpa using hn) (by simp; omega), low, hsj⟩
      have hnz : Hid (q + 1 ∉ r.foot) := hzr
      obtain ⟨room, steps, fa, fc, lf, armed, dead, left⟩ := r
      simp only [RD.v] at *
      unfold RB at rbd
      simp only at rbd
      have hS : Hid (∀ A, Kp [q + 1] wr.drew A → (Kp [q + 1] wr.drew A ∧ A.cell? ⟨q, 0, none⟩ = some (.int .i64 room) ∧ A.cell? ⟨q, 1, none⟩ = some (.int .i64 steps) ∧ A.cell? ⟨q, 2, none⟩ = some (.slice fa lf.length fc) ∧ A.cell? ⟨q, 3, none⟩ = some (.bool armed) ∧ A.cell? ⟨q, 4, none⟩ = some (.bool dead) ∧ A.cell? ⟨q, 5, none⟩ = some (.int .i64 left))) := fun A kA => by
        have b := rbd.keptS kA (by simp)
        exact ⟨kA, b.c0, b.c1, b.c2, b.c3, b.c4, b.c5⟩
      clear P Pd rb bz low
      go_wp2_with fail
      refine wp_region_held_drew (S := (fun A => Kp [q + 1] wr.drew A ∧ A.cell? ⟨q, 0, none⟩ = some (.int .i64 room) ∧ A.cell? ⟨q, 1, none⟩ = some (.int .i64 steps) ∧ A.cell? ⟨q, 2, none⟩ = some (.slice fa lf.length fc) ∧ A.cell? ⟨q, 3, none⟩ = some (.bool armed) ∧ A.cell? ⟨q, 4, none⟩ = some (.bool dead) ∧ A.cell? ⟨q, 5, none⟩ = some (.int .i64 left))) (by kernel_rfl) ?_ (fun hHeld => ?_)
      · exact hS.out _ (Kp.refl _ _)
      refine wpAnyH_take (i := 0) (v := ?_) rfl (by kernel_rfl) (by kernel_rfl) (by kernel_rfl) (fun _ _ _ h => h) (Or.inl ⟨by rfl, ?_⟩) (by assumption) ?_
      rotate_left
      · intro w hSw; (try dsimp only at hSw); go_simp <;> with_reducible rfl
      try simp only [Act.put, List.getElem_toArray, List.getElem_cons_zero, List.getElem_cons_succ, List.setIfInBounds_toArray, List.set_cons_zero, List.set_cons_succ]
      refine wpAnyH_take (i := 1) (v := ?_) rfl (by kernel_rfl) (by kernel_rfl) (by kernel_rfl) (fun _ _ _ h => h) (Or.inl ⟨by rfl, ?_⟩) (by assumption) ?_
      rotate_left
      · intro w hSw; (try dsimp only at hSw); go_simp <;> with_reducible rfl
      try simp only [Act.put, List.getElem_toArray, List.getElem_cons_zero, List.getElem_cons_succ, List.setIfInBounds_toArray, List.set_cons_zero, List.set_cons_succ]
      refine wpAnyH_take (i := 2) (v := ?_) rfl (by kernel_rfl) (by kernel_rfl) (by kernel_rfl) (fun _ _ _ h => h) (Or.inl ⟨by rfl, ?_⟩) (by assumption) ?_
      rotate_left
      · intro w hSw; (try dsimp only at hSw); go_simp <;> with_reducible rfl
      try simp only [Act.put, List.getElem_toArray, List.getElem_cons_zero, List.getElem_cons_succ, List.setIfInBounds_toArray, List.set_cons_zero, List.set_cons_succ]
      refine wpAnyH_take (i := 3) (v := ?_) rfl (by kernel_rfl) (by kernel_rfl) (by kernel_rfl) (fun _ _ _ h => h) (Or.inl ⟨by rfl, ?_⟩) (by assumption) ?_
      rotate_left
      · intro w hSw; (try dsimp only at hSw); go_simp <;> with_reducible rfl
      try simp only [Act.put, List.getElem_toArray, List.getElem_cons_zero, List.getElem_cons_succ, List.setIfInBounds_toArray, List.set_cons_zero, List.set_cons_succ]
      refine wpAnyH_ready (rs := [4]) (by kernel_rfl) (by simp) ?_
      refine AllReadyH.cons rfl (fun K hK => ?_) AllReadyH.nil
      go_simp
      refine hSt.mono ?_
      rintro e w5 ⟨rfl, k5⟩
      have an5 := bzd.kept k5
      have hb4 := an5
      obtain ⟨r0, r1, r2, r3, r4, r5, rf⟩ := an5
      have g0 := rf 0; have g1 := rf 1; have g2 := rf 2; have g3 := rf 3; have g4 := rf 4; have g5 := rf 5
      (try go_wp2_with fail)
      refine hK.out _ _ ?_ (fun hHeld => ?_)
      · exact hS.out _ (k5.mono (by simp))
      clear hK K
      try simp only [Act.put, List.getElem_toArray, List.getElem_cons_zero, List.getElem_cons_succ, List.setIfInBounds_toArray, List.set_cons_zero, List.set_cons_succ]
      refine wpAnyH_take (i := 5) (v := ?_) rfl (by kernel_rfl) (by kernel_rfl) (by kernel_rfl) (fun _ _ _ h => h) (Or.inl ⟨by rfl, ?_⟩) (by assumption) ?_
      rotate_left
      · intro w hSw; (try dsimp only at hSw); go_simp <;> with_reducible rfl
      try simp only [Act.put, List.getElem_toArray, List.getElem_cons_zero, List.getElem_cons_succ, List.setIfInBounds_toArray, List.set_cons_zero, List.set_cons_succ]
      refine wpAnyH_ready (rs := [6]) (by kernel_rfl) (by simp) ?_
      refine AllReadyH.cons rfl (fun K hK => ?_) AllReadyH.nil
      go_simp
      (try go_wp2_with fail)
      refine hK.out _ _ ?_ (fun hHeld => ?_)
      · exact hS.out _ ((k5.mono (T := [q + 1]) (by simp)).trans (kpSet6 _ _ _ _ _ _ _ _) (fun x hx => .inl hx))
      clear hK K
      try simp only [Act.put, List.getElem_toArray, List.getElem_cons_zero, List.getElem_cons_succ, List.setIfInBounds_toArray, List.set_cons_zero, List.set_cons_succ]
      refine wpAnyH_take (i := 7) (v := ?_) rfl (by kernel_rfl) (by kernel_rfl) (by kernel_rfl) (fun _ _ _ h => h) (Or.inl ⟨by rfl, ?_⟩) (by assumption) ?_
      rotate_left
      · intro w hSw; (try dsimp only at hSw); go_simp <;> with_reducible rfl
      try simp only [Act.put, List.getElem_toArray, List.getElem_cons_zero, List.getElem_cons_succ, List.setIfInBounds_toArray, List.set_cons_zero, List.set_cons_succ]
      refine wpAnyH_done (by kernel_rfl) ?_ _
      go_wp2_with fail
      obtain ⟨W', hW', hb6, kW'⟩ := set6_ex (show B6 w5 (q + 1) _ _ _ _ _ _ from hb4) (.int .i64 room) (.int .i64 steps) (.slice fa lf.length fc) (.bool armed) (.bool dead) (.int .i64 left)
      rw [hW']
      obtain ⟨z0, z1, z2, z3, z4, z5, _⟩ := hb6
      refine bodyPost_ret (v := .tuple #[.pointer (some ⟨p', 0, none⟩), .agg #[.int .i64 room, .int .i64 steps, .slice fa lf.length fc, .bool armed, .bool dead, .int .i64 left], .bool true]) (by simp [results, Try.results10, go_sem, z0, z1, z2, z3, z4, z5]) rfl ?_
      exact hfin.out w5 k5 W' kW' hnz.out
set_option maxHeartbeats 16000000 in
set_option maxRecDepth 100000 in
theorem allWalk (room : Int) (hroom : room < 9223372036854775808) (a : Option Addr) (c : Nat) (l : List DOp) (W : World) (hs1 : DOpE.See W a l) (hok1 : ∀ o ∈ l, o.ok W) (hb1 : sumB l ≤ 1048576) (hn1 : l.length ≤ 1048576) :
    Calls Try.prog 3 #[.int .i64 room, .slice a l.length c] W (fun e W' => e = .returned (.bool true) ∧ Kp [] W W') := by
  go_enter Try.func3, Try.ntmps3
  go_wp2_with fail
  refine (cBegun room W hroom).mono ?_
  rintro e w1 ⟨p, mb, rfl, hD1, k1, hp, hmb⟩
  have a2 := cRefNew room w1 hroom
  go_wp2_with fail
  refine a2.mono ?_
  rintro e w2 ⟨v, rfl, r, rfl, hr2, hL2, k2, hft2⟩
  have hlt1 := hD1.lt
  have P2 : Pr W w2 p mb [] r (newD room) := ⟨hD1.keptNew k2, hr2, hL2, k1.trans k2 (by simp), fun k hk => by simp [foot] at hk; omega, fun k hk h => by
    have := hlt1 k h
    rcases hft2 k hk with h1 | h1
    · cases h1
    · omega⟩
  have a3 := cRun P2 (K0 := 0) (J0 := 0) (s0 := 0) ⟨by simp [newD, sumF], by simp [newD]⟩ (by simp [newD]) a c l hs1 hok1 (by omega) (by omega) (by omega) hb1 hn1
  obtain ⟨room', steps', fa', fc', l', armed', dead', left'⟩ := r
  simp only [RD.v] at *
  clear P2 hD1 hr2 hL2 hft2 hlt1 a2
  go_wp2_with fail
  refine a3.mono ?_
  rintro e w3 ⟨p', mb', d, xs, r', rfl, P3, _, _⟩
  have kf := P3.kp
  clear P3
  go_wp2_with fail
  go_ret
  exact ⟨rfl, kf⟩
theorem allWalk' (room : Int) (hroom : room < 9223372036854775808) (a : Option Addr) (c : Nat) (l1 : List DOp) (W : World) (hs1 : DOpE.See W a l1) (hok1 : ∀ o ∈ l1, o.ok W)
    (hb1 : (l1.map fun y => y.b.bs.length + 1).sum ≤ 1048576) (hn1 : l1.length ≤ 1048576) :
    Calls Try.prog 3 #[.int .i64 room, .slice a l1.length c] W (fun e W' => e = .returned (.bool true) ∧ Below W.heap.size W W') :=
  (allWalk room hroom a c l1 W hs1 hok1 (Nat.le_trans (sumB_blk l1) hb1) hn1).mono fun e W' h => ⟨h.1, h.2.below⟩
end Go.Proofs.Ytgllkonbgigcbaa
end

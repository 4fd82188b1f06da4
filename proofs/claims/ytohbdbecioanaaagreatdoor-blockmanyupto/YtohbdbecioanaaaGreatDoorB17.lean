/- The reference's Runs. The reference's Encode. -/
import Derived.Test.YtohbdbecioanaaaGreatDoorB16
section
namespace Go.Proofs.YtohbdbecioanaaaGreatDoor
open Go.RowKit Go.Hay
set_option linter.unusedVariables false
set_option linter.unusedSimpArgs false

set_option maxHeartbeats 8000000 in
set_option maxRecDepth 100000 in
theorem cRefRuns (a : Option Addr) (ca : Nat) (l : List Val) (w : World) (ha : Vals w a l) (hl : l.length ≤ 3600000000000) :
    Calls Tryz.prog 77 #[.slice a l.length ca] w (NR (runsV l) w) := by
  obtain ⟨i0, hi, hz0, hz1, hz2⟩ := infoRr
  have I0 : Hid (RfI l w w none 0 0 []) := ⟨.inl ⟨rfl, rfl⟩, by simp [blk], Kp.refl _ _, rfl⟩
  have ha' := hid ha
  clear ha
  obtain ⟨F, hF⟩ : ∃ F, Hid (runsV l = F) := ⟨_, rfl⟩
  rw [hF.out]
  go_enter Tryz.func77, Tryz.ntmps77
  go_wp2_with fail
  go_loopw [3, 4] (fun v3 i wn => ∃ (j : Nat) (ra : Option Addr) (rc : Nat) (R : List Rn), j ≤ l.length ∧ i = .int .i64 j ∧ v3 = .slice ra R.length rc ∧ RfI l w wn ra rc j R) (fun _ i _ => l.length - (intOf i).toNat)
  case atStart => exact ⟨0, none, 0, [], Nat.zero_le _, rfl, rfl, I0.out⟩
  case round =>
    clear I0
    obtain ⟨j, ra, rc, R, hj, rfl, rfl, I⟩ := hrel
    have hRl := I.len
    by_cases hlt : j < l.length
    · obtain ⟨g, o, rfl, a0, a1, a2, a3⟩ := (ha'.out.kept I.kp).at j hlt
      obtain ⟨y, hy⟩ : ∃ y, Hid (l[j]'hlt = y) := ⟨_, rfl⟩
      have hnx := hid (runs_next l j hlt)
      rw [hy.out] at a0 a1 a2 a3 hnx
      obtain ⟨yk, yb, yn, yt⟩ := y
      dsimp only at a0 a1 a2 a3
      have hplain : Hid (runsV (l.take (j + 1)) = R ++ [⟨1, ⟨yk, yb, yn, yt⟩⟩] → ∀ wq, Kp [] wr wq → Kp [] wq (wq.alloc (.cells #[.int .i64 1, .int .i64 yk, .bool yb, .int .i64 yn, .string yt] 111)) ∧ RunE.Row (wq.alloc (.cells #[.int .i64 1, .int .i64 yk, .bool yb, .int .i64 yn, .string yt] 111)) (.slice ra R.length rc) R ∧ Src Tryz.prog 5 108 (.slice (some ⟨wq.heap.size, 0, none⟩) 1 1) 1 (RunE.cs [⟨1, ⟨yk, yb, yn, yt⟩⟩]) (wq.alloc (.cells #[.int .i64 1, .int .i64 yk, .bool yb, .int .i64 yn, .string yt] 111)) ∧ ∀ ys a' c' w', Hid (ys = R ++ [⟨1, ⟨yk, yb, yn, yt⟩⟩]) → RunE.Row w' (.slice a' ys.length c') ys → Kp (own (.slice ra R.length rc)) (wq.alloc (.cells #[.int .i64 1, .int .i64 yk, .bool yb, .int .i64 yn, .string yt] 111)) w' → (∀ k ∈ blk a', k ∈ own (.slice ra R.length rc) ∨ (wq.alloc (.cells #[.int .i64 1, .int .i64 yk, .bool yb, .int .i64 yn, .string yt] 111)).heap.size ≤ k) → RfI l w w' a' c' (j + 1) ys) := fun hs wq kq => by
        have kc : Kp [] wq (wq.alloc (.cells #[.int .i64 1, .int .i64 yk, .bool yb, .int .i64 yn, .string yt] 111)) := (Kp.refl _ _).alloc _
        have hsee : RunE.See (wq.alloc (.cells #[.int .i64 1, .int .i64 yk, .bool yb, .int .i64 yn, .string yt] 111)) (some ⟨wq.heap.size, 0, none⟩) [⟨1, ⟨yk, yb, yn, yt⟩⟩] := runOne wq rfl ⟨1, ⟨yk, yb, yn, yt⟩⟩ _
        refine ⟨kc, (I.keep (kq.trans kc (by simp))).row, hsee.src (P := Tryz.prog) Tryz.underlying108 1, fun ys a' c' w' hy' hrow' hg' hn' => ?_⟩
        rw [ownS] at hg' hn'
        refine ⟨hrow', fun k hk => ?_, (I.kp.trans (kq.trans kc (by simp)) (by simp)).trans hg' (fun k hk => .inr (I.new k hk)), by show _ = _; rw [hy'.out, hs]⟩
        rcases hn' k hk with h1 | h1
        · exact I.new k h1
        · have := I.kp.size; have := kq.size; have := kc.size; omega
      by_cases hj0 : j = 0
      · subst hj0
        rw [Nat.zero_mul, Nat.add_zero] at a0 a1 a2 a3
        have hpl : Hid (runsV (l.take (0 + 1)) = R ++ [⟨1, ⟨yk, yb, yn, yt⟩⟩]) := by
          show _ = _
          rcases hnx.out false (.inl rfl) (fun _ => rfl) with ⟨_, h⟩ | ⟨h, _⟩
          · rw [h, I.runs.out]
          · cases h
        have hp2 := hplain.out hpl.out
        clear hplain hnx hpl I
        have kq0 : ∀ n, Kp [] wr (wr.drewN n) := fun n => (Kp.refl _ _).drewN n
        go_wp2_with fail
        go_quiet ((fail))
        obtain ⟨kc, hrowc, hsr, hnext⟩ := hp2 (wr.drewN nq) (kq0 nq)
        have hnx := hid hnext
        have a0' := kpAt (kq0 nq) a0; have a1' := kpAt (kq0 nq) a1; have a2' := kpAt (kq0 nq) a2; have a3' := kpAt (kq0 nq) a3
        generalize wr.drewN nq = wq at *
        clear a0 a1 a2 a3 hp2 hnext
        go_wp2_with (first | (refine wpAppG (E := RunE) rfl _ _ 108 108 111 rfl i0 _ 48 Tryz.underlying108 hi hz0 hz1 hz2 rfl _ R rfl hrowc _ [⟨1, ⟨yk, yb, yn, yt⟩⟩] rfl hsr (by simp; omega) (by simp; omega) ?_; intro ys a' c' w' hy' hrow' hg' hn') | fail)
        exact ⟨⟨0 + 1, a', c', ys, by omega, by go_num, rfl, hnx.out ys a' c' w' hy' hrow' hg' hn'⟩, by simp [intOf]; omega⟩
      · have hj1 : j - 1 < l.length := by omega
        obtain ⟨_, _, e, b0, b1, b2, b3⟩ := (ha'.out.kept I.kp).at (j - 1) hj1
        cases e
        obtain ⟨z, hz⟩ : ∃ z, Hid (l[j - 1]'hj1 = z) := ⟨_, rfl⟩
        rw [hz.out] at b0 b1 b2 b3
        obtain ⟨X, HX, hX⟩ := eqV ⟨yk, yb, yn, yt⟩ z
        have hnx2 := hid (hnx.out X (.inr ⟨hj1, by rw [hz.out]; exact HX.out⟩) (fun h => absurd h hj0))
        obtain ⟨zk, zb, zn, zt⟩ := z
        dsimp only at b0 b1 b2 b3 hX
        have d0 : 0 < j := by omega
        have d3 : decide (0 < j) = true := by simp; omega
        have d1 : (0 : Int) < (j : Int) := by omega
        have d2 : ((j : Int) - 1) = ((j - 1 : Nat) : Int) := by omega
        have hI := hid I
        clear hnx HX I
        cases X with
        | false =>
          have hpl : Hid (runsV (l.take (j + 1)) = R ++ [⟨1, ⟨yk, yb, yn, yt⟩⟩]) := by
            show _ = _
            rcases hnx2.out with ⟨_, h⟩ | ⟨h, _⟩
            · rw [h, hI.out.runs.out]
            · cases h
          have hp2 := hplain.out hpl.out
          clear hplain hnx2 hpl hI
          have kq0 : ∀ n, Kp [] wr (wr.drewN n) := fun n => (Kp.refl _ _).drewN n
          go_wp2_with fail
          go_quiet ((fail))
          obtain ⟨kc, hrowc, hsr, hnext⟩ := hp2 (wr.drewN nq) (kq0 nq)
          have hnx := hid hnext
          have a0' := kpAt (kq0 nq) a0; have a1' := kpAt (kq0 nq) a1; have a2' := kpAt (kq0 nq) a2; have a3' := kpAt (kq0 nq) a3
          generalize wr.drewN nq = wq at *
          clear a0 a1 a2 a3 hp2 hnext
          go_wp2_with (first | (refine wpAppG (E := RunE) rfl _ _ 108 108 111 rfl i0 _ 48 Tryz.underlying108 hi hz0 hz1 hz2 rfl _ R rfl hrowc _ [⟨1, ⟨yk, yb, yn, yt⟩⟩] rfl hsr (by simp; omega) (by simp; omega) ?_; intro ys a' c' w' hy' hrow' hg' hn') | fail)
          exact ⟨⟨j + 1, a', c', ys, by omega, by go_num, rfl, hnx.out ys a' c' w' hy' hrow' hg' hn'⟩, by simp [intOf]; omega⟩
        | true =>
          clear hplain
          obtain ⟨R0, m, hR0, hR1⟩ : ∃ R0 m, R = R0 ++ [⟨m, ⟨yk, yb, yn, yt⟩⟩] ∧ Hid (runsV (l.take (j + 1)) = R0 ++ [⟨m + 1, ⟨yk, yb, yn, yt⟩⟩]) := by
            rcases hnx2.out with ⟨h, _⟩ | ⟨_, R0, m, h1, h2⟩
            · cases h
            · exact ⟨R0, m, by rw [← hI.out.runs.out, h1], h2⟩
          obtain ⟨n0, hn0⟩ : ∃ n0, Hid (R0.length = n0) := ⟨_, rfl⟩
          have hRn : R.length = n0 + 1 := by rw [hR0, List.length_append, hn0.out]; rfl
          have hsee : RunE.See wr ra R := by obtain ⟨_, _, e, hs, _⟩ := hI.out.row.see; injection e with e1 e2 e3; rw [e1]; exact hs
          obtain ⟨g2, o2, rfl, r0, r1, r2, r3, r4⟩ := runE_at hsee (j := n0) (x := ⟨m, ⟨yk, yb, yn, yt⟩⟩) (by rw [hR0, ← hn0.out]; simp)
          dsimp only at r0 r1 r2 r3 r4
          have hsee' : Hid (∀ W, Kp [] wr W → RunE.See W (some ⟨g2, o2, none⟩) R0) := fun W kW => by
            have := (hsee.keptNew kW).front n0
            rw [hR0, ← hn0.out, List.take_left] at this
            exact this
          have hrm : Hid (m ≤ l.length) := by
            have := (runsV_in (l := l.take j) ⟨m, ⟨yk, yb, yn, yt⟩⟩ (by rw [hI.out.runs.out, hR0]; simp)).2
            simp at this
            show m ≤ _
            omega
          have hmle := hrm.out
          have hrc : n0 + 1 ≤ rc ∧ rc ≤ maxLen := by
            obtain ⟨_, _, e, _, _, h1, h2, _⟩ := hI.out.row.see
            injection e with e1 e2 e3
            rw [← e3, hRn] at h1
            rw [← e3] at h2
            exact ⟨h1, h2⟩
          obtain ⟨hrc1, hrc2⟩ := hrc
          unfold maxLen at hrc2
          have hnl : n0 + 1 ≤ j := by rw [← hRn]; exact hRl
          rw [hRn]
          have hkw := hid hI.out.kp
          clear hsee hI hRn hnx2 hrm hR0 hRl
          have kq0 : ∀ n, Kp [] wr (wr.drewN n) := fun n => (Kp.refl _ _).drewN n
          go_wp2_with fail
          go_quiet ((fail))
          have r0' := kpAt (kq0 nq) r0; have r1' := kpAt (kq0 nq) r1; have r2' := kpAt (kq0 nq) r2; have r3' := kpAt (kq0 nq) r3; have r4' := kpAt (kq0 nq) r4
          have kqq := kq0 nq
          generalize wr.drewN nq = wq at *
          clear a0 a1 a2 a3 b0 b1 b2 b3 r0 r1 r2 r3 r4 hX
          obtain ⟨wc, hwc⟩ : ∃ wc, wq.alloc (.cells #[.int .i64 ((m : Int) + 1), .int .i64 yk, .bool yb, .int .i64 yn, .string yt] 111) = wc := ⟨_, rfl⟩
          have kc : Kp [] wq wc := by rw [← hwc]; exact (Kp.refl _ _).alloc _
          have kd : Kp [] wr wc.drew := (kqq.trans kc (by simp)).drew
          have hS : Hid (∀ A, Kp [] wc.drew A → A.cell? ⟨wq.heap.size, 0, none⟩ = some (.int .i64 ((m : Int) + 1)) ∧ A.cell? ⟨wq.heap.size, 1, none⟩ = some (.int .i64 yk) ∧ A.cell? ⟨wq.heap.size, 2, none⟩ = some (.bool yb) ∧ A.cell? ⟨wq.heap.size, 3, none⟩ = some (.int .i64 yn) ∧ A.cell? ⟨wq.heap.size, 4, none⟩ = some (.string yt)) := fun A kA => by
            have kA' : Kp [] wc A := (Kp.refl [] wc).drew.trans kA (by simp)
            rw [← hwc] at kA'
            exact ⟨kpAt kA' (World.cell?_alloc_new wq _ _ 0), kpAt kA' (World.cell?_alloc_new wq _ _ 1), kpAt kA' (World.cell?_alloc_new wq _ _ 2), kpAt kA' (World.cell?_alloc_new wq _ _ 3), kpAt kA' (World.cell?_alloc_new wq _ _ 4)⟩
          have hwc' := hid hwc
          have hWd : Kp [] w wc.drew := hkw.out.trans kd (by simp)
          have hsee2 : Hid (∀ W, Kp [] wc.drew W → RunE.See W (some ⟨g2, o2, none⟩) R0) := fun W kW => hsee'.out W (kd.trans kW (by simp))
          clear hwc hsee' kd kc
          go_wp2_with fail
          rw [hwc'.out]
          clear r0' r1' r2' r3' r4' hwc'
          refine wp_region_held_drew (S := (fun A => A.cell? ⟨wq.heap.size, 0, none⟩ = some (.int .i64 ((m : Int) + 1)) ∧ A.cell? ⟨wq.heap.size, 1, none⟩ = some (.int .i64 yk) ∧ A.cell? ⟨wq.heap.size, 2, none⟩ = some (.bool yb) ∧ A.cell? ⟨wq.heap.size, 3, none⟩ = some (.int .i64 yn) ∧ A.cell? ⟨wq.heap.size, 4, none⟩ = some (.string yt))) (by kernel_rfl) ?_ (fun hHeld => ?_)
          · exact hS.out _ (Kp.refl _ _)
          generalize wc.drew = wd at *
          have hA0 : Hid (∀ X, Kp [] wd X → ∃ X', X.alloc (.cells #[] 111) = X' ∧ Kp [] wd X' ∧ Kp [] X X' ∧ X.heap.size < X'.heap.size ∧ RunE.Row X' (.slice (some ⟨X.heap.size, 0, none⟩) 0 0) []) := fun X kX =>
            ⟨_, rfl, kX.alloc _, (Kp.refl _ _).alloc _, by simp, rowNoneR X rfl _ _⟩
          have hA8 : Hid (∀ X, Kp [] wd X → ∃ X', X.alloc (.cells #[.int .i64 ((m : Int) + 1), .int .i64 yk, .bool yb, .int .i64 yn, .string yt] 111) = X' ∧ Kp [] wd X' ∧ Kp [] X X' ∧ X.heap.size < X'.heap.size ∧ RunE.See X' (some ⟨X.heap.size, 0, none⟩) [⟨m + 1, ⟨yk, yb, yn, yt⟩⟩]) := fun X kX => by
            have := runOne X rfl ⟨m + 1, ⟨yk, yb, yn, yt⟩⟩ 111
            have e : ((m + 1 : Nat) : Int) = (m : Int) + 1 := by omega
            dsimp only at this
            rw [e] at this
            exact ⟨_, rfl, kX.alloc _, (Kp.refl _ _).alloc _, by simp, this⟩
          have hA6 : Hid (∀ X p, Kp [] wd X → RunE.Row X (.slice (some ⟨p, 0, none⟩) 0 0) [] → wd.heap.size ≤ p → ∃ a c X', (Builtin.append_ #[108, 108] 108 #[.slice (some ⟨p, 0, none⟩) 0 0, .slice (some ⟨g2, o2, none⟩) n0 rc]).run Tryz.prog X = .ok (.slice a n0 c) X' ∧ RunE.Row X' (.slice a n0 c) R0 ∧ Kp [p] X X' ∧ Kp [] wd X' ∧ ∀ k ∈ blk a, wd.heap.size ≤ k) := fun X p kX hr hp => by
            have hsr := (hsee2.out X kX).src (P := Tryz.prog) Tryz.underlying108 rc
            rw [hn0.out] at hsr
            have hsr' : Src Tryz.prog RunE.n 108 (.slice (some ⟨g2, o2, none⟩) n0 rc) R0.length (RunE.cs R0) X := by rw [hn0.out]; exact hsr
            obtain ⟨v', X3, hrun, hrow3, kk3, hn3⟩ := run_appendG (E := RunE) (P := Tryz.prog) X 108 108 108 111 i0 _ 48 Tryz.underlying108 hi hz0 hz1 hz2 rfl (.slice (some ⟨p, 0, none⟩) 0 0) [] hr _ R0 hsr' (by rw [List.length_nil, hn0.out]; omega) (by rw [List.length_nil, hn0.out]; omega)
            rw [List.nil_append] at hrow3
            obtain ⟨a', c', rfl, _⟩ := hrow3.see
            rw [ownS] at kk3
            rw [hn0.out] at hrun hrow3
            have hb : blk (some (⟨p, 0, none⟩ : Addr)) = [p] := rfl
            rw [hb] at kk3
            refine ⟨a', c', X3, hrun, hrow3, kk3, kX.trans kk3 (fun k hk => .inr (by simp at hk; omega)), fun k hk => ?_⟩
            rcases hn3 k (by rw [ownS]; exact hk) with h | h
            · rw [ownS, hb] at h; simp at h; omega
            · have := kX.size; omega
          have hA9 : Hid (∀ X a c q', Kp [] wd X → RunE.Row X (.slice a n0 c) R0 → (∀ k ∈ blk a, wd.heap.size ≤ k) → RunE.See X (some ⟨q', 0, none⟩) [⟨m + 1, ⟨yk, yb, yn, yt⟩⟩] → ∃ v X', (Builtin.append_ #[108, 108] 108 #[.slice a n0 c, .slice (some ⟨q', 0, none⟩) 1 1]).run Tryz.prog X = .ok v X' ∧ Kp [] wd X' ∧ ∃ a' c' R', v = .slice a' R'.length c' ∧ RfI l w X' a' c' (j + 1) R') := fun X a c q' kX hr hnw hs => by
            have hsr := hs.src (P := Tryz.prog) Tryz.underlying108 1
            obtain ⟨v', X3, hrun, hrow3, kk3, hn3⟩ := run_appendG (E := RunE) (P := Tryz.prog) X 108 108 108 111 i0 _ 48 Tryz.underlying108 hi hz0 hz1 hz2 rfl (.slice a n0 c) R0 hr _ [⟨m + 1, ⟨yk, yb, yn, yt⟩⟩] hsr (by rw [hn0.out]; simp; omega) (by rw [hn0.out]; simp; omega)
            obtain ⟨a', c', rfl, _⟩ := hrow3.see
            rw [ownS] at kk3
            have kX3 : Kp [] wd X3 := kX.trans kk3 (fun k hk => .inr (hnw k hk))
            refine ⟨_, X3, hrun, kX3, a', c', _, rfl, hrow3, fun k hk => ?_, hWd.trans kX3 (by simp), hR1⟩
            rcases hn3 k (by rw [ownS]; exact hk) with h | h
            · rw [ownS] at h; have := hnw k h; have := hWd.size; omega
            · have := kX.size; have := hWd.size; omega
          have hSP : Hid (∀ A, Kp [] wd A → _) := hS
          clear hS hsee2 hn0 hR1
          have wn0 : IntKind.i64.wrap (n0 : Int) = (n0 : Int) := by rw [IntKind.wrap_i64]; omega
          have wn1 : (n0 : Int) ≤ (rc : Int) := by omega
          have wn2 : (0 : Int) ≤ (n0 : Int) := by omega
          have wn3 : n0 ≤ rc := by omega
          refine wpAnyH_take (i := 1) (v := ?_) rfl (by kernel_rfl) (by kernel_rfl) (by kernel_rfl) (fun _ _ _ h => h) (Or.inl ⟨by rfl, ?_⟩) (by assumption) ?_
          rotate_left
          · intro w hSw; (try dsimp only at hSw); go_simp <;> with_reducible rfl
          try simp only [Act.put, List.getElem_toArray, List.getElem_cons_zero, List.getElem_cons_succ, List.setIfInBounds_toArray, List.set_cons_zero, List.set_cons_succ]
          refine wpAnyH_take (i := 2) (v := ?_) rfl (by kernel_rfl) (by kernel_rfl) (by kernel_rfl) (fun _ _ _ h => h) (Or.inl ⟨by rfl, ?_⟩) (by assumption) ?_
          rotate_left
          · intro w hSw; (try dsimp only at hSw); go_simp <;> with_reducible rfl
          try simp only [Act.put, List.getElem_toArray, List.getElem_cons_zero, List.getElem_cons_succ, List.setIfInBounds_toArray, List.set_cons_zero, List.set_cons_succ]
          refine wpAnyH_take (i := 3) (v := ?_) rfl (by kernel_rfl) (by kernel_rfl) (by kernel_rfl) (fun _ _ _ h => h) (Or.inl ⟨by rfl, ?_⟩) (by assumption) ?_
          rotate_left
          · intro w hSw; (try dsimp only at hSw); go_simp <;> with_reducible rfl
          try simp only [Act.put, List.getElem_toArray, List.getElem_cons_zero, List.getElem_cons_succ, List.setIfInBounds_toArray, List.set_cons_zero, List.set_cons_succ]
          refine wpAnyH_take (i := 4) (v := ?_) rfl (by kernel_rfl) (by kernel_rfl) (by kernel_rfl) (fun _ _ _ h => h) (Or.inl ⟨by rfl, ?_⟩) (by assumption) ?_
          rotate_left
          · intro w hSw; (try dsimp only at hSw); go_simp <;> with_reducible rfl
          try simp only [Act.put, List.getElem_toArray, List.getElem_cons_zero, List.getElem_cons_succ, List.setIfInBounds_toArray, List.set_cons_zero, List.set_cons_succ]
          refine wpAnyH_take (i := 5) (v := ?_) rfl (by kernel_rfl) (by kernel_rfl) (by kernel_rfl) (fun _ _ _ h => h) (Or.inl ⟨by rfl, ?_⟩) (by assumption) ?_
          rotate_left
          · intro w hSw; (try dsimp only at hSw); go_simp <;> with_reducible rfl
          try simp only [Act.put, List.getElem_toArray, List.getElem_cons_zero, List.getElem_cons_succ, List.setIfInBounds_toArray, List.set_cons_zero, List.set_cons_succ]
          refine wpAnyH_take (i := 7) (v := ?_) rfl (by kernel_rfl) (by kernel_rfl) (by kernel_rfl) (fun _ _ _ h => h) (Or.inl ⟨by rfl, ?_⟩) (by assumption) ?_
          rotate_left
          · intro w hSw; (try dsimp only at hSw); go_simp <;> with_reducible rfl
          try simp only [Act.put, List.getElem_toArray, List.getElem_cons_zero, List.getElem_cons_succ, List.setIfInBounds_toArray, List.set_cons_zero, List.set_cons_succ]
          refine wpAnyH_ready (rs := [0, 8]) (by kernel_rfl) (by simp) ?_
          refine AllReadyH.cons rfl (fun K hK => ?_) (AllReadyH.cons rfl (fun K hK => ?_) AllReadyH.nil)
          · obtain ⟨X1, hX1, kX1, kkX1, ltX1, rX1⟩ := hA0.out wd (Kp.refl _ _)
            have hX1' := hid hX1
            clear hX1
            go_simp
            (try go_wp2_with fail)
            rw [hX1'.out]
            refine hK.out _ _ ?_ (fun hHeld => ?_)
            · exact hSP.out _ kX1
            clear hK K
            try simp only [Act.put, List.getElem_toArray, List.getElem_cons_zero, List.getElem_cons_succ, List.setIfInBounds_toArray, List.set_cons_zero, List.set_cons_succ]
            refine wpAnyH_ready (rs := [6, 8]) (by kernel_rfl) (by simp) ?_
            refine AllReadyH.cons rfl (fun K hK => ?_) (AllReadyH.cons rfl (fun K hK => ?_) AllReadyH.nil)
            · obtain ⟨a6, c6, X2, hrun6, row6, kkX2, kX2, nw6⟩ := hA6.out X1 _ kX1 rX1 (Nat.le_refl _)
              refine stepAppRun rfl _ _ 108 108 rfl _ _ _ rfl rfl hrun6 ?_
              refine hK.out _ _ ?_ (fun hHeld => ?_)
              · exact hSP.out _ kX2
              clear hK K
              try simp only [Act.put, List.getElem_toArray, List.getElem_cons_zero, List.getElem_cons_succ, List.setIfInBounds_toArray, List.set_cons_zero, List.set_cons_succ]
              refine wpAnyH_ready (rs := [8]) (by kernel_rfl) (by simp) ?_
              refine AllReadyH.cons rfl (fun K hK => ?_) AllReadyH.nil
              obtain ⟨X3, hX3, kX3, kkX3, ltX3, rX3⟩ := hA8.out X2 kX2
              have hX3' := hid hX3
              clear hX3
              go_simp
              (try go_wp2_with fail)
              rw [hX3'.out]
              refine hK.out _ _ ?_ (fun hHeld => ?_)
              · exact hSP.out _ kX3
              clear hK K
              try simp only [Act.put, List.getElem_toArray, List.getElem_cons_zero, List.getElem_cons_succ, List.setIfInBounds_toArray, List.set_cons_zero, List.set_cons_succ]
              refine wpAnyH_ready (rs := [9]) (by kernel_rfl) (by simp) ?_
              refine AllReadyH.cons rfl (fun K hK => ?_) AllReadyH.nil
              obtain ⟨v9, X9, hrun9, k9, a9, c9, R9, rfl, I9⟩ := hA9.out X3 a6 c6 _ kX3 (row6.keptNew kkX3) nw6 (rX3)
              refine stepAppRun rfl _ _ 108 108 rfl _ _ _ rfl rfl hrun9 ?_
              refine hK.out _ _ ?_ (fun hHeld => ?_)
              · exact hSP.out _ k9
              clear hK K
              try simp only [Act.put, List.getElem_toArray, List.getElem_cons_zero, List.getElem_cons_succ, List.setIfInBounds_toArray, List.set_cons_zero, List.set_cons_succ]
              refine wpAnyH_take (i := 10) (v := ?_) rfl (by kernel_rfl) (by kernel_rfl) (by kernel_rfl) (fun _ _ _ h => h) (Or.inl ⟨by rfl, ?_⟩) (by assumption) ?_
              rotate_left
              · intro w hSw; (try dsimp only at hSw); go_simp <;> with_reducible rfl
              try simp only [Act.put, List.getElem_toArray, List.getElem_cons_zero, List.getElem_cons_succ, List.setIfInBounds_toArray, List.set_cons_zero, List.set_cons_succ]
              refine wpAnyH_done (by kernel_rfl) ?_ _
              have I9' := hid I9
              clear I9 hrun9 hrun6 row6 hHeld hSP hA0 hA8 hA6 hA9
              go_wp2_with fail
              exact ⟨⟨j + 1, a9, c9, R9, by omega, by go_num, rfl, I9'.out⟩, by simp [intOf]; omega⟩
            · obtain ⟨X2, hX2, kX2, kkX2, ltX2, rX2⟩ := hA8.out X1 kX1
              have hX2' := hid hX2
              clear hX2
              go_simp
              (try go_wp2_with fail)
              rw [hX2'.out]
              refine hK.out _ _ ?_ (fun hHeld => ?_)
              · exact hSP.out _ kX2
              clear hK K
              try simp only [Act.put, List.getElem_toArray, List.getElem_cons_zero, List.getElem_cons_succ, List.setIfInBounds_toArray, List.set_cons_zero, List.set_cons_succ]
              refine wpAnyH_ready (rs := [6]) (by kernel_rfl) (by simp) ?_
              refine AllReadyH.cons rfl (fun K hK => ?_) AllReadyH.nil
              obtain ⟨a6, c6, X3, hrun6, row6, kkX3, kX3, nw6⟩ := hA6.out X2 _ kX2 (rX1.keptNew kkX2) (Nat.le_refl _)
              refine stepAppRun rfl _ _ 108 108 rfl _ _ _ rfl rfl hrun6 ?_
              refine hK.out _ _ ?_ (fun hHeld => ?_)
              · exact hSP.out _ kX3
              clear hK K
              try simp only [Act.put, List.getElem_toArray, List.getElem_cons_zero, List.getElem_cons_succ, List.setIfInBounds_toArray, List.set_cons_zero, List.set_cons_succ]
              refine wpAnyH_ready (rs := [9]) (by kernel_rfl) (by simp) ?_
              refine AllReadyH.cons rfl (fun K hK => ?_) AllReadyH.nil
              obtain ⟨v9, X9, hrun9, k9, a9, c9, R9, rfl, I9⟩ := hA9.out X3 a6 c6 _ kX3 (row6) nw6 (rX2.kept kkX3 (fun _ k hk hm => by simp [blk] at hk hm; omega))
              refine stepAppRun rfl _ _ 108 108 rfl _ _ _ rfl rfl hrun9 ?_
              refine hK.out _ _ ?_ (fun hHeld => ?_)
              · exact hSP.out _ k9
              clear hK K
              try simp only [Act.put, List.getElem_toArray, List.getElem_cons_zero, List.getElem_cons_succ, List.setIfInBounds_toArray, List.set_cons_zero, List.set_cons_succ]
              refine wpAnyH_take (i := 10) (v := ?_) rfl (by kernel_rfl) (by kernel_rfl) (by kernel_rfl) (fun _ _ _ h => h) (Or.inl ⟨by rfl, ?_⟩) (by assumption) ?_
              rotate_left
              · intro w hSw; (try dsimp only at hSw); go_simp <;> with_reducible rfl
              try simp only [Act.put, List.getElem_toArray, List.getElem_cons_zero, List.getElem_cons_succ, List.setIfInBounds_toArray, List.set_cons_zero, List.set_cons_succ]
              refine wpAnyH_done (by kernel_rfl) ?_ _
              have I9' := hid I9
              clear I9 hrun9 hrun6 row6 hHeld hSP hA0 hA8 hA6 hA9
              go_wp2_with fail
              exact ⟨⟨j + 1, a9, c9, R9, by omega, by go_num, rfl, I9'.out⟩, by simp [intOf]; omega⟩
          · obtain ⟨X1, hX1, kX1, kkX1, ltX1, rX1⟩ := hA8.out wd (Kp.refl _ _)
            have hX1' := hid hX1
            clear hX1
            go_simp
            (try go_wp2_with fail)
            rw [hX1'.out]
            refine hK.out _ _ ?_ (fun hHeld => ?_)
            · exact hSP.out _ kX1
            clear hK K
            try simp only [Act.put, List.getElem_toArray, List.getElem_cons_zero, List.getElem_cons_succ, List.setIfInBounds_toArray, List.set_cons_zero, List.set_cons_succ]
            refine wpAnyH_ready (rs := [0]) (by kernel_rfl) (by simp) ?_
            refine AllReadyH.cons rfl (fun K hK => ?_) AllReadyH.nil
            obtain ⟨X2, hX2, kX2, kkX2, ltX2, rX2⟩ := hA0.out X1 kX1
            have hX2' := hid hX2
            clear hX2
            go_simp
            (try go_wp2_with fail)
            rw [hX2'.out]
            refine hK.out _ _ ?_ (fun hHeld => ?_)
            · exact hSP.out _ kX2
            clear hK K
            try simp only [Act.put, List.getElem_toArray, List.getElem_cons_zero, List.getElem_cons_succ, List.setIfInBounds_toArray, List.set_cons_zero, List.set_cons_succ]
            refine wpAnyH_ready (rs := [6]) (by kernel_rfl) (by simp) ?_
            refine AllReadyH.cons rfl (fun K hK => ?_) AllReadyH.nil
            obtain ⟨a6, c6, X3, hrun6, row6, kkX3, kX3, nw6⟩ := hA6.out X2 _ kX2 rX2 (kX1.size)
            refine stepAppRun rfl _ _ 108 108 rfl _ _ _ rfl rfl hrun6 ?_
            refine hK.out _ _ ?_ (fun hHeld => ?_)
            · exact hSP.out _ kX3
            clear hK K
            try simp only [Act.put, List.getElem_toArray, List.getElem_cons_zero, List.getElem_cons_succ, List.setIfInBounds_toArray, List.set_cons_zero, List.set_cons_succ]
            refine wpAnyH_ready (rs := [9]) (by kernel_rfl) (by simp) ?_
            refine AllReadyH.cons rfl (fun K hK => ?_) AllReadyH.nil
            obtain ⟨v9, X9, hrun9, k9, a9, c9, R9, rfl, I9⟩ := hA9.out X3 a6 c6 _ kX3 (row6) nw6 ((rX1.keptNew kkX2).kept kkX3 (fun _ k hk hm => by simp [blk] at hk hm; omega))
            refine stepAppRun rfl _ _ 108 108 rfl _ _ _ rfl rfl hrun9 ?_
            refine hK.out _ _ ?_ (fun hHeld => ?_)
            · exact hSP.out _ k9
            clear hK K
            try simp only [Act.put, List.getElem_toArray, List.getElem_cons_zero, List.getElem_cons_succ, List.setIfInBounds_toArray, List.set_cons_zero, List.set_cons_succ]
            refine wpAnyH_take (i := 10) (v := ?_) rfl (by kernel_rfl) (by kernel_rfl) (by kernel_rfl) (fun _ _ _ h => h) (Or.inl ⟨by rfl, ?_⟩) (by assumption) ?_
            rotate_left
            · intro w hSw; (try dsimp only at hSw); go_simp <;> with_reducible rfl
            try simp only [Act.put, List.getElem_toArray, List.getElem_cons_zero, List.getElem_cons_succ, List.setIfInBounds_toArray, List.set_cons_zero, List.set_cons_succ]
            refine wpAnyH_done (by kernel_rfl) ?_ _
            have I9' := hid I9
            clear I9 hrun9 hrun6 row6 hHeld hSP hA0 hA8 hA6 hA9
            go_wp2_with fail
            exact ⟨⟨j + 1, a9, c9, R9, by omega, by go_num, rfl, I9'.out⟩, by simp [intOf]; omega⟩
    · obtain rfl : j = l.length := by omega
      have hfin : NR F w (.returned (.slice ra R.length rc)) wr := by
        have e : R = F := by rw [← I.runs.out, List.take_length]; exact hF.out
        subst e
        exact ⟨ra, rc, rfl, I.row, I.kp, I.new⟩
      clear I
      go_wp2_with fail
      go_ret
      exact hfin
end Go.Proofs.YtohbdbecioanaaaGreatDoor
end

section
namespace Go.Proofs.YtohbdbecioanaaaGreatDoor
open Go.RowKit Go.Hay
set_option linter.unusedVariables false
set_option linter.unusedSimpArgs false

theorem u8_mod (m : Nat) (h : m < 256) : (m : Int) = ((octet m).toNat : Int) := by rw [octet_nat m h]
set_option maxHeartbeats 16000000 in
set_option maxRecDepth 100000 in
theorem cRefEncR (a : Option Addr) (ca : Nat) (l : List Val) (w : World) (ha : Vals w a l) (h0 : 0 < l.length) (hr : refE 1 l = 0) : Calls Tryz.prog 49 #[.int .i64 1, .slice a l.length ca] w (EncP 1 l w) := by
  obtain ⟨_, h64, hall⟩ := refE_ok hr
  have cR := cRefRefusedE 1 a ca l w ha (by omega)
  rw [hr] at cR
  have cRu := hid (fun W (k : Kp [] w W) => cRefRuns a ca l W (ha.kept k) (by omega))
  have hrl := runsV_len l
  have hrin := hid (fun r (h : r ∈ runsV l) => (⟨List.all_eq_true.1 hall _ (runsV_in r h).1, (runsV_in r h).2⟩ : r.v.right = true ∧ r.m ≤ l.length))
  have hfin : Hid (∀ W b c n, Kp [] w W → n = (encR 1 l).length → Row W (.slice b (encR 1 l).length c) (encR 1 l) → (∀ q ∈ blk b, w.heap.size ≤ q) → EncP 1 l w (.returned (.tuple #[.slice b n c, .int .i64 0])) W) := fun W b c n kW hn hrow hnw => ⟨b, c, by rw [hr, hn], hrow, kW, hnw⟩
  have hGe : Hid (encR 1 l = (runsV l).flatMap runB) := by show _ = _; rw [encR_put hr h0]; rfl
  obtain ⟨R, hR⟩ : ∃ R, Hid (runsV l = R) := ⟨_, rfl⟩
  rw [hR.out] at hGe hrin hrl
  simp only [hR.out] at cRu
  rw [hGe.out] at hfin
  have hflr := hid (flatRun_len (R := R) (fun r h => (hrin.out r h).1))
  have hd0 : ((l.length : Int) == 0) = false := by rw [beq_eq_false_iff_ne]; omega
  clear ha hr hall hGe hR
  go_enter Tryz.func49, Tryz.ntmps49
  go_wp2_with fail
  refine cR.mono ?_
  rintro e w1 ⟨rfl, k1⟩
  have cU := cRu.out w1 k1
  clear cR cRu
  go_wp2_with fail
  refine cU.mono ?_
  rintro e w2 ⟨ra, rc, rfl, hrow, k2, hn2⟩
  have kw2 := k1.trans k2 (by simp)
  have hse : Hid (∀ W, Kp [] w2 W → RunE.See W ra R) := fun W kW => by
    obtain ⟨_, _, e, hs, _⟩ := hrow.see
    injection e with e1 e2 e3
    rw [e1]; exact hs.keptNew kW
  have hnil := hid (NwB.nil w2)
  clear cU hrow hn2
  go_wp2_with fail
  go_loopw [7, 9] (fun v7 i wn => ∃ (j : Nat) (ba : Option Addr) (bc : Nat) (bs : List UInt8), j ≤ R.length ∧ i = .int .i64 j ∧ v7 = .slice ba bs.length bc ∧ NwB w2 wn ba bc bs ∧ Hid (bs = (R.take j).flatMap runB)) (fun _ i _ => R.length - (intOf i).toNat)
  case atStart => exact ⟨0, none, 0, [], Nat.zero_le _, rfl, rfl, hnil.out, by show _ = _; simp⟩
  case round =>
    clear hnil
    obtain ⟨j, ba, bc, bs, hj, rfl, rfl, I, hbs⟩ := hrel
    have hbl : bs.length ≤ 5000 := by
      rw [hbs.out]
      have := flatRun_len (R := R.take j) (fun r h => (hrin.out r (List.mem_of_mem_take h)).1)
      have e : (R.take j).length ≤ 64 := by simp; omega
      omega
    by_cases hlt : j < R.length
    · have hx : R[j]? = some R[j] := by simp [hlt]
      obtain ⟨g2, o2, rfl, hdrop⟩ := runE_at (hse.out wr I.kp) hx
      clear hdrop
      have hcx : Hid (∀ W, Kp [] w2 W → W.cell? ⟨g2, o2 + j * 5, none⟩ = some (.int .i64 (R[j]'hlt).m) ∧ W.cell? ⟨g2, o2 + j * 5 + 1, none⟩ = some (.int .i64 (R[j]'hlt).v.k) ∧ W.cell? ⟨g2, o2 + j * 5 + 2, none⟩ = some (.bool (R[j]'hlt).v.b) ∧ W.cell? ⟨g2, o2 + j * 5 + 3, none⟩ = some (.int .i64 (R[j]'hlt).v.n) ∧ W.cell? ⟨g2, o2 + j * 5 + 4, none⟩ = some (.string (R[j]'hlt).v.t)) := fun W kW => by
        obtain ⟨_, _, e, y0, y1, y2, y3, y4⟩ := runE_at (hse.out W kW) hx
        cases e
        exact ⟨y0, y1, y2, y3, y4⟩
      obtain ⟨hxr, hxm⟩ := hrin.out _ (List.getElem_mem hlt)
      have hst := hid (flatRun_take R j hlt)
      obtain ⟨r, hre⟩ : ∃ r, Hid (R[j]'hlt = r) := ⟨R[j]'hlt, rfl⟩
      rw [hre.out] at hxr hxm hst
      simp only [hre.out] at hcx
      have hrb := rowB_length hxr
      have hvx := u8_mod r.m (by omega)
      have hrB : Hid (runB r = octet r.m :: rowB r.v) := rfl
      obtain ⟨v3, X3, hrun3, a3, c3, rfl, I3, _⟩ := I.app1 (octet r.m) (r.m : Int) hvx (by omega)
      obtain ⟨p0, p1, p2, p3, p4⟩ := hcx.out wr I.kp
      obtain ⟨q0, q1, q2, q3, q4⟩ := hcx.out X3 I3.kp
      have cO := cOne r.v hxr X3
      obtain ⟨B, hB⟩ : ∃ B, Hid (rowB r.v = B) := ⟨_, rfl⟩
      rw [hB.out] at cO hrb hrB
      unfold Val.v at cO
      have hI3 := hid I3
      have hwz : IntKind.u8.wrap (r.m : Int) = (r.m : Int) := by rw [IntKind.wrap_u8]; omega
      have hwz2 : (r.m : Int) % 256 = (r.m : Int) := by omega
      have hvx' := hid hvx
      rw [hrB.out] at hst
      clear I I3 hxr hre hcx hx hB hvx hrB
      obtain ⟨m, xk, xb, xn, xt⟩ := r
      dsimp only at *
      go_wp2_with (first | (refine wpAppRun rfl _ _ 22 22 rfl _ _ _ rfl rfl hrun3 ?_) | fail)
      refine cO.mono ?_
      rintro e w3 ⟨v4, rfl, hr4, hn4⟩
      have k4 := hn4.kp
      obtain ⟨a4, c4, rfl, _⟩ := NwB.of hr4 hn4.own k4
      obtain ⟨hs4, _, _⟩ := rowSee hr4
      have el : (bs ++ [octet m]).length = bs.length + 1 := by simp
      obtain ⟨v5, X5, hrun5, a5, c5, rfl, I5, _⟩ := (hI3.out.keep k4).appS a4 c4 B hs4 (by rw [el]; omega) (by omega)
      rw [el] at hrun5
      have hnx : Hid (∃ (j' : Nat) (ba : Option Addr) (bc : Nat) (bs' : List UInt8), j' ≤ R.length ∧ (.int .i64 ((j : Int) + 1) : Value) = .int .i64 j' ∧ (.slice a5 (bs.length + 1 + B.length) c5 : Value) = .slice ba bs'.length bc ∧ NwB w2 X5 ba bc bs' ∧ Hid (bs' = (R.take j').flatMap runB)) :=
        ⟨j + 1, a5, c5, bs ++ [octet m] ++ B, by omega, by go_num, by rw [List.length_append, el], I5, by show _ = _; rw [hst.out, hbs.out]; simp⟩
      clear cO hr4 hn4 I5 hI3 hs4 hst hbs hrun3 el
      go_wp2_with (first | (refine wpAppRun rfl _ _ 22 22 rfl _ _ _ rfl rfl hrun5 ?_) | fail)
      exact ⟨hnx.out, by simp [intOf]; omega⟩
    · obtain rfl : j = R.length := by omega
      rw [List.take_length] at hbs
      rw [← hbs.out] at hfin
      have I' := I.back kw2
      have hf := hfin.out wr ba bc bs.length I'.kp rfl (rowByt.1 I'.row) I'.new
      clear I I' hfin hbs
      go_wp2_with fail
      go_ret2
      exact hf
set_option maxHeartbeats 16000000 in
set_option maxRecDepth 100000 in
theorem cRefEncP (k : Int) (a : Option Addr) (ca : Nat) (l : List Val) (w : World) (ha : Vals w a l) (h0 : 0 < l.length) (hr : refE k l = 0) (e1 : (k == 1) = false) (e2 : (k == 2) = false) (e3 : (k == 3) = false) (e4 : (k == 4) = false) : Calls Tryz.prog 49 #[.int .i64 k, .slice a l.length ca] w (EncP k l w) := by
  obtain ⟨_, h64, hall⟩ := refE_ok hr
  have cR := cRefRefusedE k a ca l w ha (by omega)
  rw [hr] at cR
  have hall' := hid hall
  have ha' := hid ha
  have hGe : Hid (encR k l = l.flatMap rowB) := by
    show _ = _
    rw [encR_put hr h0]
    unfold putB
    rw [beq_eq_false_iff_ne] at e1 e2 e3 e4
    rw [if_neg e1, if_neg e2, if_neg e3, if_neg e4]
  have hfin : Hid (∀ W b c n, Kp [] w W → n = (encR k l).length → Row W (.slice b (encR k l).length c) (encR k l) → (∀ q ∈ blk b, w.heap.size ≤ q) → EncP k l w (.returned (.tuple #[.slice b n c, .int .i64 0])) W) := fun W b c n kW hn hrow hnw => ⟨b, c, by rw [hr, hn], hrow, kW, hnw⟩
  rw [hGe.out] at hfin
  have hd0 : ((l.length : Int) == 0) = false := by rw [beq_eq_false_iff_ne]; omega
  clear ha hr hall hGe
  go_enter Tryz.func49, Tryz.ntmps49
  go_wp2_with fail
  refine cR.mono ?_
  rintro e w2 ⟨rfl, kw2⟩
  have hnil := hid (NwB.nil w2)
  clear cR
  go_wp2_with fail
  go_loopw [7, 10] (fun v7 i wn => ∃ (j : Nat) (ba : Option Addr) (bc : Nat) (bs : List UInt8), j ≤ l.length ∧ i = .int .i64 j ∧ v7 = .slice ba bs.length bc ∧ NwB w2 wn ba bc bs ∧ Hid (bs = (l.take j).flatMap rowB)) (fun _ i _ => l.length - (intOf i).toNat)
  case atStart => exact ⟨0, none, 0, [], Nat.zero_le _, rfl, rfl, hnil.out, by show _ = _; simp⟩
  case round =>
    clear hnil
    obtain ⟨j, ba, bc, bs, hj, rfl, rfl, I, hbs⟩ := hrel
    have hbl : bs.length ≤ 5000 := by
      rw [hbs.out]
      have := flat_length (f := rowB) (m := 66) (fun x hx => rowB_length hx) (l.take j) (allR_take hall'.out j)
      have e : (l.take j).length ≤ 64 := by simp; omega
      omega
    by_cases hlt : j < l.length
    · obtain ⟨g2, o2, rfl, y0, y1, y2, y3⟩ := (ha'.out.kept (kw2.trans I.kp (by simp))).at j hlt
      have hxr := allR_at hall'.out j hlt
      have hst := hid (flat_take rowB l j hlt)
      obtain ⟨x, hx⟩ : ∃ x, Hid (l[j]'hlt = x) := ⟨l[j]'hlt, rfl⟩
      rw [hx.out] at y0 y1 y2 y3 hxr hst
      have cO := cOne x hxr wr
      have hrb := rowB_length hxr
      obtain ⟨R, hR⟩ : ∃ R, Hid (rowB x = R) := ⟨_, rfl⟩
      rw [hR.out] at cO hst hrb
      unfold Val.v at cO
      obtain ⟨xk, xb, xn, xt⟩ := x
      dsimp only at y0 y1 y2 y3 cO
      have hI := hid I
      clear I hxr hR hx
      go_wp2_with fail
      refine cO.mono ?_
      rintro e w3 ⟨v3, rfl, hr3, hn3⟩
      have k3 := hn3.kp
      obtain ⟨a3, c3, rfl, _⟩ := NwB.of hr3 hn3.own k3
      obtain ⟨hs3, _, _⟩ := rowSee hr3
      obtain ⟨v4, X4, hrun4, a4, c4, rfl, I4, _⟩ := (hI.out.keep k3).appS a3 c3 R hs3 (by omega) (by omega)
      have hnx : Hid (∃ (j' : Nat) (ba : Option Addr) (bc : Nat) (bs' : List UInt8), j' ≤ l.length ∧ (.int .i64 ((j : Int) + 1) : Value) = .int .i64 j' ∧ (.slice a4 (bs.length + R.length) c4 : Value) = .slice ba bs'.length bc ∧ NwB w2 X4 ba bc bs' ∧ Hid (bs' = (l.take j').flatMap rowB)) :=
        ⟨j + 1, a4, c4, bs ++ R, by omega, by go_num, by simp, I4, by show _ = _; rw [hst.out, hbs.out]⟩
      clear cO hr3 hn3 I4 hI hs3 hst hbs
      go_wp2_with (first | (refine wpAppRun rfl _ _ 22 22 rfl _ _ _ rfl rfl hrun4 ?_) | fail)
      exact ⟨hnx.out, by simp [intOf]; omega⟩
    · obtain rfl : j = l.length := by omega
      rw [List.take_length] at hbs
      rw [← hbs.out] at hfin
      have I' := I.back kw2
      have hf := hfin.out wr ba bc bs.length I'.kp rfl (rowByt.1 I'.row) I'.new
      clear I I' hfin hbs
      go_wp2_with fail
      go_ret2
      exact hf
set_option maxHeartbeats 8000000 in
set_option maxRecDepth 100000 in
theorem cRefEnc2K (a : Option Addr) (ca : Nat) (l : List Val) (w : World) (ha : Vals w a l) (h0 : 0 < l.length) (hr : refE 2 l = 0) : Calls Tryz.prog 49 #[.int .i64 2, .slice a l.length ca] w (EncP 2 l w) := by
  obtain ⟨_, h64, hall⟩ := refE_ok hr
  have cR := cRefRefusedE 2 a ca l w ha (by omega)
  rw [hr] at cR
  have cK := hid (fun W (k : Kp [] w W) => cRefDelta a ca l W (ha.kept k) h0 h64)
  have hG : Hid (encR 2 l = deltaB l) := by show _ = _; rw [encR_put hr h0]; rfl
  have hfin : Hid (∀ W b c, Kp [] w W → Row W (.slice b (encR 2 l).length c) (encR 2 l) → (∀ q ∈ blk b, w.heap.size ≤ q) → EncP 2 l w (.returned (.tuple #[.slice b (encR 2 l).length c, .int .i64 0])) W) := fun W b c kW hrow hnw => ⟨b, c, by rw [hr], hrow, kW, hnw⟩
  rw [hG.out] at hfin
  obtain ⟨G, hGG⟩ : ∃ G, Hid (deltaB l = G) := ⟨_, rfl⟩
  simp only [hGG.out] at cK hfin
  have hd0 : ((l.length : Int) == 0) = false := by rw [beq_eq_false_iff_ne]; omega
  clear ha hr hall hG hGG
  go_enter Tryz.func49, Tryz.ntmps49
  go_wp2_with fail
  refine cR.mono ?_
  rintro e w1 ⟨rfl, k1⟩
  have cK1 := cK.out w1 k1
  clear cR cK
  go_wp2_with fail
  refine cK1.mono ?_
  rintro e w2 ⟨a2, c2, rfl, hr2, k2, hn2⟩
  have hf := hfin.out w2 a2 c2 (k1.trans k2 (by simp)) hr2 (fun q hq => by have := hn2 q hq; have := k1.size; omega)
  clear cK1 hr2 hn2 hfin
  go_wp2_with fail
  go_ret2
  exact hf
set_option maxHeartbeats 8000000 in
set_option maxRecDepth 100000 in
theorem cRefEnc3K (a : Option Addr) (ca : Nat) (l : List Val) (w : World) (ha : Vals w a l) (h0 : 0 < l.length) (hr : refE 3 l = 0) : Calls Tryz.prog 49 #[.int .i64 3, .slice a l.length ca] w (EncP 3 l w) := by
  obtain ⟨_, h64, hall⟩ := refE_ok hr
  have cR := cRefRefusedE 3 a ca l w ha (by omega)
  rw [hr] at cR
  have cK := hid (fun W (k : Kp [] w W) => cRefDict a ca l W (ha.kept k) hall h0 h64)
  have hG : Hid (encR 3 l = dictB l) := by show _ = _; rw [encR_put hr h0]; rfl
  have hfin : Hid (∀ W b c, Kp [] w W → Row W (.slice b (encR 3 l).length c) (encR 3 l) → (∀ q ∈ blk b, w.heap.size ≤ q) → EncP 3 l w (.returned (.tuple #[.slice b (encR 3 l).length c, .int .i64 0])) W) := fun W b c kW hrow hnw => ⟨b, c, by rw [hr], hrow, kW, hnw⟩
  rw [hG.out] at hfin
  obtain ⟨G, hGG⟩ : ∃ G, Hid (dictB l = G) := ⟨_, rfl⟩
  simp only [hGG.out] at cK hfin
  have hd0 : ((l.length : Int) == 0) = false := by rw [beq_eq_false_iff_ne]; omega
  clear ha hr hall hG hGG
  go_enter Tryz.func49, Tryz.ntmps49
  go_wp2_with fail
  refine cR.mono ?_
  rintro e w1 ⟨rfl, k1⟩
  have cK1 := cK.out w1 k1
  clear cR cK
  go_wp2_with fail
  refine cK1.mono ?_
  rintro e w2 ⟨a2, c2, rfl, hr2, k2, hn2⟩
  have hf := hfin.out w2 a2 c2 (k1.trans k2 (by simp)) hr2 (fun q hq => by have := hn2 q hq; have := k1.size; omega)
  clear cK1 hr2 hn2 hfin
  go_wp2_with fail
  go_ret2
  exact hf
set_option maxHeartbeats 8000000 in
set_option maxRecDepth 100000 in
theorem cRefEnc4K (a : Option Addr) (ca : Nat) (l : List Val) (w : World) (ha : Vals w a l) (h0 : 0 < l.length) (hr : refE 4 l = 0) : Calls Tryz.prog 49 #[.int .i64 4, .slice a l.length ca] w (EncP 4 l w) := by
  obtain ⟨_, h64, hall⟩ := refE_ok hr
  have cR := cRefRefusedE 4 a ca l w ha (by omega)
  rw [hr] at cR
  have cK := hid (fun W (k : Kp [] w W) => cRefSmall a ca l W (ha.kept k) h0 h64)
  have hG : Hid (encR 4 l = bitsB l) := by show _ = _; rw [encR_put hr h0]; rfl
  have hfin : Hid (∀ W b c, Kp [] w W → Row W (.slice b (encR 4 l).length c) (encR 4 l) → (∀ q ∈ blk b, w.heap.size ≤ q) → EncP 4 l w (.returned (.tuple #[.slice b (encR 4 l).length c, .int .i64 0])) W) := fun W b c kW hrow hnw => ⟨b, c, by rw [hr], hrow, kW, hnw⟩
  rw [hG.out] at hfin
  obtain ⟨G, hGG⟩ : ∃ G, Hid (bitsB l = G) := ⟨_, rfl⟩
  simp only [hGG.out] at cK hfin
  have hd0 : ((l.length : Int) == 0) = false := by rw [beq_eq_false_iff_ne]; omega
  clear ha hr hall hG hGG
  go_enter Tryz.func49, Tryz.ntmps49
  go_wp2_with fail
  refine cR.mono ?_
  rintro e w1 ⟨rfl, k1⟩
  have cK1 := cK.out w1 k1
  clear cR cK
  go_wp2_with fail
  refine cK1.mono ?_
  rintro e w2 ⟨a2, c2, rfl, hr2, k2, hn2⟩
  have hf := hfin.out w2 a2 c2 (k1.trans k2 (by simp)) hr2 (fun q hq => by have := hn2 q hq; have := k1.size; omega)
  clear cK1 hr2 hn2 hfin
  go_wp2_with fail
  go_ret2
  exact hf
set_option maxHeartbeats 4000000 in
theorem cRefEnc6 (k : Int) (a : Option Addr) (ca : Nat) (l : List Val) (w : World) (ha : Vals w a l) (hl : l.length ≤ 9223372036854775807) : Calls Tryz.prog 49 #[.int .i64 k, .slice a l.length ca] w (EncP k l w) := by
  by_cases hr : refE k l = 0
  · by_cases h0 : l.length = 0
    · have cR := cRefRefusedE k a ca l w ha hl
      rw [hr] at cR
      have hfin : Hid (∀ W, Kp [] w W → EncP k l w (.returned (.tuple #[.slice none 0 0, .int .i64 0])) W) := fun W kW => by
        unfold EncP
        rw [encR_none h0, hr]
        exact ⟨none, 0, rfl, .inl ⟨rfl, rfl⟩, kW, by simp [blk]⟩
      rw [h0] at cR ⊢
      clear ha hl
      go_enter Tryz.func49, Tryz.ntmps49
      go_wp2_with fail
      refine cR.mono ?_
      rintro e w1 ⟨rfl, k1⟩
      have hf := hfin.out w1 k1
      clear cR hfin
      go_wp2_with fail
      go_ret2
      exact hf
    · have h1 : 0 < l.length := by omega
      by_cases q1 : k = 1
      · subst q1; exact cRefEncR a ca l w ha h1 hr
      · by_cases q2 : k = 2
        · subst q2; exact cRefEnc2K a ca l w ha h1 hr
        · by_cases q3 : k = 3
          · subst q3; exact cRefEnc3K a ca l w ha h1 hr
          · by_cases q4 : k = 4
            · subst q4; exact cRefEnc4K a ca l w ha h1 hr
            · exact cRefEncP k a ca l w ha h1 hr (by rw [beq_eq_false_iff_ne]; exact q1) (by rw [beq_eq_false_iff_ne]; exact q2) (by rw [beq_eq_false_iff_ne]; exact q3) (by rw [beq_eq_false_iff_ne]; exact q4)
  · have cR := cRefRefusedE k a ca l w ha hl
    obtain ⟨E, hE⟩ : ∃ E, Hid (refE k l = E) := ⟨_, rfl⟩
    have hfin : Hid (∀ W, Kp [] w W → EncP k l w (.returned (.tuple #[.slice none 0 0, .int .i64 E])) W) := fun W kW => by
      unfold EncP encR
      rw [if_neg (fun h => hr h.1), hE.out]
      exact ⟨none, 0, rfl, .inl ⟨rfl, rfl⟩, kW, by simp [blk]⟩
    rw [hE.out] at cR hr
    have d1 : (E != 0) = true := by simpa using hr
    have d2 : (E == 0) = false := by simpa using hr
    clear ha hl hE
    go_enter Tryz.func49, Tryz.ntmps49
    go_wp2_with fail
    refine cR.mono ?_
    rintro e w1 ⟨rfl, k1⟩
    have hf := hfin.out w1 k1
    clear cR hfin
    go_wp2_with fail
    go_ret2
    exact hf
end Go.Proofs.YtohbdbecioanaaaGreatDoor
end

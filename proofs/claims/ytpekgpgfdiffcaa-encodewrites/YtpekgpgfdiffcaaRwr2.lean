/- What values are written as, in every kind, or that they can't be, is what the document says. -/
import Derived.Test.YtpekgpgfdiffcaaB4
import Derived.Deep.RegionHeld3
import Derived.Test.YtpekgpgfdiffcaaRwr1
import Derived.Test.YtpekgpgfdiffcaaB6
import Derived.Test.YtpekgpgfdiffcaaB2
import Derived.Test.YtpekgpgfdiffcaaB1
import Derived.ProofKit
import Derived.OpenShut
import Derived.ShutString
import Derived.ChangeOld
import Derived.ChangeArms
import Derived.Below
import Derived.Deep.Slices
import Derived.Deep.DeepHandedRow
import Derived.SizedLaws
import Derived.JoinedCond
import Derived.Deep.CondSized
section
namespace Go.Proofs.Ytpekgpgfdiffcaa
open Go.RowKit Go.Hay
set_option linter.unusedVariables false
set_option linter.unusedSimpArgs false

theorem runsV_last (x : Val) : ∀ l, ∃ R m, runsV (l ++ [x]) = R ++ [⟨m, x⟩]
  | [] => ⟨[], 1, rfl⟩
  | z :: l => by
    obtain ⟨R, m, h⟩ := runsV_last x l
    rw [List.cons_append, runsV, h]
    cases R with
    | nil =>
      simp only [List.nil_append]
      split
      · exact ⟨[], m + 1, rfl⟩
      · exact ⟨[⟨1, z⟩], m, rfl⟩
    | cons r R =>
      simp only [List.cons_append]
      split
      · exact ⟨⟨r.m + 1, r.v⟩ :: R, m, rfl⟩
      · exact ⟨⟨1, z⟩ :: r :: R, m, rfl⟩
theorem runsV_none {l : List Val} (h : runsV l = []) : l = [] := by
  cases l with
  | nil => rfl
  | cons a l => obtain ⟨k, rs, e⟩ := runsV_head a l; rw [e] at h; cases h
theorem runsV_snoc (x y : Val) : ∀ (l : List Val) (R : List Rn) (m : Nat), runsV l = R ++ [⟨m, y⟩] → runsV (l ++ [x]) = if x.eqv y = true then R ++ [⟨m + 1, y⟩] else R ++ [⟨m, y⟩, ⟨1, x⟩]
  | [], R, m, h => by simp [runsV] at h
  | z :: l, R, m, h => by
    rw [runsV] at h
    rw [List.cons_append, runsV]
    cases hl : runsV l with
    | nil =>
      have e := runsV_none hl
      subst e
      rw [hl] at h
      cases R with
      | nil =>
        simp only [List.nil_append, List.cons.injEq, Rn.mk.injEq, and_true] at h
        obtain ⟨rfl, rfl⟩ := h
        simp only [List.nil_append, runsV]
        by_cases hx : x.eqv z = true
        · have := eqv_iff.1 hx; subst this; simp [eqv_self]
        · have : ¬ z.eqv x = true := fun h => hx (by rw [eqv_iff.1 h]; exact eqv_self _)
          rw [if_neg hx, if_neg this]
      | cons r R => simp at h
    | cons r rs =>
      rw [hl] at h
      simp only at h
      by_cases hz : z.eqv r.v = true
      · rw [if_pos hz] at h
        cases R with
        | nil =>
          simp only [List.nil_append, List.cons.injEq, Rn.mk.injEq] at h
          obtain ⟨⟨rfl, rfl⟩, rfl⟩ := h
          rw [runsV_snoc x r.v l [] r.m (by rw [hl]; rfl)]
          by_cases hx : x.eqv r.v = true
          · simp [hx, hz]
          · simp [hx, hz]
        | cons r' R' =>
          simp only [List.cons_append, List.cons.injEq] at h
          obtain ⟨rfl, rfl⟩ := h
          rw [runsV_snoc x y l (r :: R') m (by rw [hl]; rfl)]
          by_cases hx : x.eqv y = true
          · simp [hx, hz]
          · simp [hx, hz]
      · rw [if_neg hz] at h
        cases R with
        | nil => simp at h
        | cons r' R' =>
          simp only [List.cons_append, List.cons.injEq] at h
          obtain ⟨rfl, h⟩ := h
          rw [runsV_snoc x y l R' m (by rw [hl]; exact h)]
          cases R' with
          | nil =>
            simp only [List.nil_append, List.cons.injEq] at h
            obtain ⟨rfl, rfl⟩ := h
            by_cases hx : x.eqv y = true
            · simp [hx, hz]
            · simp [hx, hz]
          | cons q Q =>
            simp only [List.cons_append, List.cons.injEq] at h
            obtain ⟨rfl, rfl⟩ := h
            by_cases hx : x.eqv y = true
            · simp [hx, hz]
            · simp [hx, hz]
theorem infoRr : ∃ i : TypeInfo, Try.prog.info? 44 = some i ∧ i.zero = some (.agg #[.int .i64 0, .int .i64 0, .bool false, .int .i64 0, .string ⟨#[]⟩]) ∧ i.size = 5 ∧ i.bytes = 48 := info4 (by kernel_rfl)
theorem rowNoneR (w : World) {q : Nat} (hq : w.heap.size = q) (C : Array Value) (t : TypeId) : RunE.Row (w.alloc (.cells C t)) (.slice (some ⟨q, 0, none⟩) 0 0) [] := by
  subst hq
  exact .inr ⟨w.heap.size, 0, 0, rfl, Nat.le_refl _, by decide, by simp, fun j u hu => by simp [El.cs] at hu, fun j hj => absurd hj (by simp)⟩
/-- How the reference's loop stands. -/
structure RfI (l : List Val) (w wn : World) (ra : Option Addr) (rc j : Nat) (R : List Rn) : Prop where
  row : RunE.Row wn (.slice ra R.length rc) R
  new : ∀ k ∈ blk ra, w.heap.size ≤ k
  kp : Kp [] w wn
  runs : Hid (runsV (l.take j) = R)
theorem RfI.len {l : List Val} {w wn : World} {ra : Option Addr} {rc j : Nat} {R : List Rn} (h : RfI l w wn ra rc j R) : R.length ≤ j := by
  rw [← h.runs.out]
  have := runsV_len (l.take j)
  simp at this
  omega
theorem RfI.keep {l : List Val} {w wn w' : World} {ra : Option Addr} {rc j : Nat} {R : List Rn} (h : RfI l w wn ra rc j R) (k : Kp [] wn w') : RfI l w w' ra rc j R :=
  ⟨h.row.keptNew k, h.new, h.kp.trans k (by simp), h.runs⟩
theorem take_snoc (l : List Val) (j : Nat) (h : j < l.length) : l.take (j + 1) = l.take j ++ [l[j]] := List.take_succ_eq_append_getElem h
/-- What the runs of one value more are. -/
theorem runs_next (l : List Val) (j : Nat) (h : j < l.length) (X : Bool) (hX : j = 0 ∨ ∃ hj : j - 1 < l.length, X = l[j].eqv l[j - 1]) (h0 : j = 0 → X = false) : (X = false ∧ runsV (l.take (j + 1)) = runsV (l.take j) ++ [⟨1, l[j]⟩]) ∨ (X = true ∧ ∃ R m, runsV (l.take j) = R ++ [⟨m, l[j]⟩] ∧ runsV (l.take (j + 1)) = R ++ [⟨m + 1, l[j]⟩]) := by
  rw [take_snoc l j h]
  by_cases hj : j = 0
  · subst hj
    exact .inl ⟨h0 rfl, by simp [runsV]⟩
  · rcases hX with e | ⟨hj1, hX⟩
    · exact absurd e hj
    · obtain ⟨R, m, hR⟩ := runsV_last l[j - 1] (l.take (j - 1))
      rw [← take_snoc l (j - 1) hj1, show j - 1 + 1 = j by omega] at hR
      have hs := runsV_snoc l[j] l[j - 1] (l.take j) R m hR
      rw [← hX] at hs
      cases X with
      | false => exact .inl ⟨rfl, by rw [hs, hR]; simp⟩
      | true =>
        have e := eqv_iff.1 hX.symm
        exact .inr ⟨rfl, R, m, by rw [hR, e], by rw [hs, ← e]; simp⟩
end Go.Proofs.Ytpekgpgfdiffcaa
end

section
namespace Go.Proofs.Ytpekgpgfdiffcaa
open Go.RowKit Go.Hay
set_option linter.unusedVariables false
set_option linter.unusedSimpArgs false

set_option maxHeartbeats 8000000 in
set_option maxRecDepth 100000 in
theorem cRefRuns (a : Option Addr) (ca : Nat) (l : List Val) (w : World) (ha : Vals w a l) (hl : l.length ≤ 3600000000000) :
    Calls Try.prog 18 #[.slice a l.length ca] w (NR (runsV l) w) := by
  obtain ⟨i0, hi, hz0, hz1, hz2⟩ := infoRr
  have I0 : Hid (RfI l w w none 0 0 []) := ⟨.inl ⟨rfl, rfl⟩, by simp [blk], Kp.refl _ _, rfl⟩
  have ha' := hid ha
  clear ha
  obtain ⟨F, hF⟩ : ∃ F, Hid (runsV l = F) := ⟨_, rfl⟩
  rw [hF.out]
  go_enter Try.func18, Try.ntmps18
  go_wp2_with fail
  go_loopw [3, 4] (fun v3 i wn => ∃ (j : Nat) (ra : Option Addr) (rc : Nat) (R : List Rn), j ≤ l.length ∧ i = .int .i64 j ∧ v3 = .slice ra R.length rc ∧ RfI l w wn ra rc j R) (fun _ i _ => l.length - (intOf i).toNat)
  case atStart => exact ⟨0, none, 0, [], Nat.zero_le _, rfl, rfl, I0.out⟩
  case round =>
    clear I0
    obtain ⟨j, ra, rc, R, hj, rfl, rfl, I⟩ := hrel
    have hRl := I.len
    by_cases hlt : j < l.length
    · obtain ⟨g, o, rfl, a0, a1, a2, a3⟩ := (ha'.out.kept I.kp).at j hlt
      obtain ⟨y, hy⟩ : ∃ y, Hid (l[j]'hlt = y) := ⟨_, rfl⟩
      have hnx := hid (runs_next l j hlt)
      rw [hy.out] at a0 a1 a2 a3 hnx
      obtain ⟨yk, yb, yn, yt⟩ := y
      dsimp only at a0 a1 a2 a3
      have hplain : Hid (runsV (l.take (j + 1)) = R ++ [⟨1, ⟨yk, yb, yn, yt⟩⟩] → ∀ wq, Kp [] wr wq → Kp [] wq (wq.alloc (.cells #[.int .i64 1, .int .i64 yk, .bool yb, .int .i64 yn, .string yt] 44)) ∧ RunE.Row (wq.alloc (.cells #[.int .i64 1, .int .i64 yk, .bool yb, .int .i64 yn, .string yt] 44)) (.slice ra R.length rc) R ∧ Src Try.prog 5 38 (.slice (some ⟨wq.heap.size, 0, none⟩) 1 1) 1 (RunE.cs [⟨1, ⟨yk, yb, yn, yt⟩⟩]) (wq.alloc (.cells #[.int .i64 1, .int .i64 yk, .bool yb, .int .i64 yn, .string yt] 44)) ∧ ∀ ys a' c' w', Hid (ys = R ++ [⟨1, ⟨yk, yb, yn, yt⟩⟩]) → RunE.Row w' (.slice a' ys.length c') ys → Kp (own (.slice ra R.length rc)) (wq.alloc (.cells #[.int .i64 1, .int .i64 yk, .bool yb, .int .i64 yn, .string yt] 44)) w' → (∀ k ∈ blk a', k ∈ own (.slice ra R.length rc) ∨ (wq.alloc (.cells #[.int .i64 1, .int .i64 yk, .bool yb, .int .i64 yn, .string yt] 44)).heap.size ≤ k) → RfI l w w' a' c' (j + 1) ys) := fun hs wq kq => by
        have kc : Kp [] wq (wq.alloc (.cells #[.int .i64 1, .int .i64 yk, .bool yb, .int .i64 yn, .string yt] 44)) := (Kp.refl _ _).alloc _
        have hsee : RunE.See (wq.alloc (.cells #[.int .i64 1, .int .i64 yk, .bool yb, .int .i64 yn, .string yt] 44)) (some ⟨wq.heap.size, 0, none⟩) [⟨1, ⟨yk, yb, yn, yt⟩⟩] := runOne wq rfl ⟨1, ⟨yk, yb, yn, yt⟩⟩ _
        refine ⟨kc, (I.keep (kq.trans kc (by simp))).row, hsee.src (P := Try.prog) Try.underlying38 1, fun ys a' c' w' hy' hrow' hg' hn' => ?_⟩
        rw [ownS] at hg' hn'
        refine ⟨hrow', fun k hk => ?_, (I.kp.trans (kq.trans kc (by simp)) (by simp)).trans hg' (fun k hk => .inr (I.new k hk)), by show _ = _; rw [hy'.out, hs]⟩
        rcases hn' k hk with h1 | h1
        · exact I.new k h1
        · have := I.kp.size; have := kq.size; have := kc.size; omega
      by_cases hj0 : j = 0
      · subst hj0
        rw [Nat.zero_mul, Nat.add_zero] at a0 a1 a2 a3
        have hpl : Hid (runsV (l.take (0 + 1)) = R ++ [⟨1, ⟨yk, yb, yn, yt⟩⟩]) := by
          show _ = _
          rcases hnx.out false (.inl rfl) (fun _ => rfl) with ⟨_, h⟩ | ⟨h, _⟩
          · rw [h, I.runs.out]
          · cases h
        have hp2 := hplain.out hpl.out
        clear hplain hnx hpl I
        have kq0 : ∀ n, Kp [] wr (wr.drewN n) := fun n => (Kp.refl _ _).drewN n
        go_wp2_with fail
        go_quiet ((fail))
        obtain ⟨kc, hrowc, hsr, hnext⟩ := hp2 (wr.drewN nq) (kq0 nq)
        have hnx := hid hnext
        have a0' := kpAt (kq0 nq) a0; have a1' := kpAt (kq0 nq) a1; have a2' := kpAt (kq0 nq) a2; have a3' := kpAt (kq0 nq) a3
        generalize wr.drewN nq = wq at *
        clear a0 a1 a2 a3 hp2 hnext
        go_wp2_with (first | (refine wpAppG (E := RunE) rfl _ _ 38 38 44 rfl i0 _ 48 Try.underlying38 hi hz0 hz1 hz2 rfl _ R rfl hrowc _ [⟨1, ⟨yk, yb, yn, yt⟩⟩] rfl hsr (by simp; omega) (by simp; omega) ?_; intro ys a' c' w' hy' hrow' hg' hn') | fail)
        exact ⟨⟨0 + 1, a', c', ys, by omega, by go_num, rfl, hnx.out ys a' c' w' hy' hrow' hg' hn'⟩, by simp [intOf]; omega⟩
      · have hj1 : j - 1 < l.length := by omega
        obtain ⟨_, _, e, b0, b1, b2, b3⟩ := (ha'.out.kept I.kp).at (j - 1) hj1
        cases e
        obtain ⟨z, hz⟩ : ∃ z, Hid (l[j - 1]'hj1 = z) := ⟨_, rfl⟩
        rw [hz.out] at b0 b1 b2 b3
        obtain ⟨X, HX, hX⟩ := eqV ⟨yk, yb, yn, yt⟩ z
        have hnx2 := hid (hnx.out X (.inr ⟨hj1, by rw [hz.out]; exact HX.out⟩) (fun h => absurd h hj0))
        obtain ⟨zk, zb, zn, zt⟩ := z
        dsimp only at b0 b1 b2 b3 hX
        have d0 : 0 < j := by omega
        have d3 : decide (0 < j) = true := by simp; omega
        have d1 : (0 : Int) < (j : Int) := by omega
        have d2 : ((j : Int) - 1) = ((j - 1 : Nat) : Int) := by omega
        have hI := hid I
        clear hnx HX I
        cases X with
        | false =>
          have hpl : Hid (runsV (l.take (j + 1)) = R ++ [⟨1, ⟨yk, yb, yn, yt⟩⟩]) := by
            show _ = _
            rcases hnx2.out with ⟨_, h⟩ | ⟨h, _⟩
            · rw [h, hI.out.runs.out]
            · cases h
          have hp2 := hplain.out hpl.out
          clear hplain hnx2 hpl hI
          have kq0 : ∀ n, Kp [] wr (wr.drewN n) := fun n => (Kp.refl _ _).drewN n
          go_wp2_with fail
          go_quiet ((fail))
          obtain ⟨kc, hrowc, hsr, hnext⟩ := hp2 (wr.drewN nq) (kq0 nq)
          have hnx := hid hnext
          have a0' := kpAt (kq0 nq) a0; have a1' := kpAt (kq0 nq) a1; have a2' := kpAt (kq0 nq) a2; have a3' := kpAt (kq0 nq) a3
          generalize wr.drewN nq = wq at *
          clear a0 a1 a2 a3 hp2 hnext
          go_wp2_with (first | (refine wpAppG (E := RunE) rfl _ _ 38 38 44 rfl i0 _ 48 Try.underlying38 hi hz0 hz1 hz2 rfl _ R rfl hrowc _ [⟨1, ⟨yk, yb, yn, yt⟩⟩] rfl hsr (by simp; omega) (by simp; omega) ?_; intro ys a' c' w' hy' hrow' hg' hn') | fail)
          exact ⟨⟨j + 1, a', c', ys, by omega, by go_num, rfl, hnx.out ys a' c' w' hy' hrow' hg' hn'⟩, by simp [intOf]; omega⟩
        | true =>
          clear hplain
          obtain ⟨R0, m, hR0, hR1⟩ : ∃ R0 m, R = R0 ++ [⟨m, ⟨yk, yb, yn, yt⟩⟩] ∧ Hid (runsV (l.take (j + 1)) = R0 ++ [⟨m + 1, ⟨yk, yb, yn, yt⟩⟩]) := by
            rcases hnx2.out with ⟨h, _⟩ | ⟨_, R0, m, h1, h2⟩
            · cases h
            · exact ⟨R0, m, by rw [← hI.out.runs.out, h1], h2⟩
          obtain ⟨n0, hn0⟩ : ∃ n0, Hid (R0.length = n0) := ⟨_, rfl⟩
          have hRn : R.length = n0 + 1 := by rw [hR0, List.length_append, hn0.out]; rfl
          have hsee : RunE.See wr ra R := by obtain ⟨_, _, e, hs, _⟩ := hI.out.row.see; injection e with e1 e2 e3; rw [e1]; exact hs
          obtain ⟨g2, o2, rfl, r0, r1, r2, r3, r4⟩ := runE_at hsee (j := n0) (x := ⟨m, ⟨yk, yb, yn, yt⟩⟩) (by rw [hR0, ← hn0.out]; simp)
          dsimp only at r0 r1 r2 r3 r4
          have hsee' : Hid (∀ W, Kp [] wr W → RunE.See W (some ⟨g2, o2, none⟩) R0) := fun W kW => by
            have := (hsee.keptNew kW).front n0
            rw [hR0, ← hn0.out, List.take_left] at this
            exact this
          have hrm : Hid (m ≤ l.length) := by
            have := (runsV_in (l := l.take j) ⟨m, ⟨yk, yb, yn, yt⟩⟩ (by rw [hI.out.runs.out, hR0]; simp)).2
            simp at this
            show m ≤ _
            omega
          have hmle := hrm.out
          have hrc : n0 + 1 ≤ rc ∧ rc ≤ maxLen := by
            obtain ⟨_, _, e, _, _, h1, h2, _⟩ := hI.out.row.see
            injection e with e1 e2 e3
            rw [← e3, hRn] at h1
            rw [← e3] at h2
            exact ⟨h1, h2⟩
          obtain ⟨hrc1, hrc2⟩ := hrc
          unfold maxLen at hrc2
          have hnl : n0 + 1 ≤ j := by rw [← hRn]; exact hRl
          rw [hRn]
          have hkw := hid hI.out.kp
          clear hsee hI hRn hnx2 hrm hR0 hRl
          have kq0 : ∀ n, Kp [] wr (wr.drewN n) := fun n => (Kp.refl _ _).drewN n
          go_wp2_with fail
          go_quiet ((fail))
          have r0' := kpAt (kq0 nq) r0; have r1' := kpAt (kq0 nq) r1; have r2' := kpAt (kq0 nq) r2; have r3' := kpAt (kq0 nq) r3; have r4' := kpAt (kq0 nq) r4
          have kqq := kq0 nq
          generalize wr.drewN nq = wq at *
          clear a0 a1 a2 a3 b0 b1 b2 b3 r0 r1 r2 r3 r4 hX
          obtain ⟨wc, hwc⟩ : ∃ wc, wq.alloc (.cells #[.int .i64 ((m : Int) + 1), .int .i64 yk, .bool yb, .int .i64 yn, .string yt] 44) = wc := ⟨_, rfl⟩
          have kc : Kp [] wq wc := by rw [← hwc]; exact (Kp.refl _ _).alloc _
          have kd : Kp [] wr wc.drew := (kqq.trans kc (by simp)).drew
          have hS : Hid (∀ A, Kp [] wc.drew A → A.cell? ⟨wq.heap.size, 0, none⟩ = some (.int .i64 ((m : Int) + 1)) ∧ A.cell? ⟨wq.heap.size, 1, none⟩ = some (.int .i64 yk) ∧ A.cell? ⟨wq.heap.size, 2, none⟩ = some (.bool yb) ∧ A.cell? ⟨wq.heap.size, 3, none⟩ = some (.int .i64 yn) ∧ A.cell? ⟨wq.heap.size, 4, none⟩ = some (.string yt)) := fun A kA => by
            have kA' : Kp [] wc A := (Kp.refl [] wc).drew.trans kA (by simp)
            rw [← hwc] at kA'
            exact ⟨kpAt kA' (World.cell?_alloc_new wq _ _ 0), kpAt kA' (World.cell?_alloc_new wq _ _ 1), kpAt kA' (World.cell?_alloc_new wq _ _ 2), kpAt kA' (World.cell?_alloc_new wq _ _ 3), kpAt kA' (World.cell?_alloc_new wq _ _ 4)⟩
          have hwc' := hid hwc
          have hWd : Kp [] w wc.drew := hkw.out.trans kd (by simp)
          have hsee2 : Hid (∀ W, Kp [] wc.drew W → RunE.See W (some ⟨g2, o2, none⟩) R0) := fun W kW => hsee'.out W (kd.trans kW (by simp))
          clear hwc hsee' kd kc
          go_wp2_with fail
          rw [hwc'.out]
          clear r0' r1' r2' r3' r4' hwc'
          refine wp_region_held_drew (S := (fun A => A.cell? ⟨wq.heap.size, 0, none⟩ = some (.int .i64 ((m : Int) + 1)) ∧ A.cell? ⟨wq.heap.size, 1, none⟩ = some (.int .i64 yk) ∧ A.cell? ⟨wq.heap.size, 2, none⟩ = some (.bool yb) ∧ A.cell? ⟨wq.heap.size, 3, none⟩ = some (.int .i64 yn) ∧ A.cell? ⟨wq.heap.size, 4, none⟩ = some (.string yt))) (by kernel_rfl) ?_ (fun hHeld => ?_)
          · exact hS.out _ (Kp.refl _ _)
          generalize wc.drew = wd at *
          have hA0 : Hid (∀ X, Kp [] wd X → ∃ X', X.alloc (.cells #[] 44) = X' ∧ Kp [] wd X' ∧ Kp [] X X' ∧ X.heap.size < X'.heap.size ∧ RunE.Row X' (.slice (some ⟨X.heap.size, 0, none⟩) 0 0) []) := fun X kX =>
            ⟨_, rfl, kX.alloc _, (Kp.refl _ _).alloc _, by simp, rowNoneR X rfl _ _⟩
          have hA8 : Hid (∀ X, Kp [] wd X → ∃ X', X.alloc (.cells #[.int .i64 ((m : Int) + 1), .int .i64 yk, .bool yb, .int .i64 yn, .string yt] 44) = X' ∧ Kp [] wd X' ∧ Kp [] X X' ∧ X.heap.size < X'.heap.size ∧ RunE.See X' (some ⟨X.heap.size, 0, none⟩) [⟨m + 1, ⟨yk, yb, yn, yt⟩⟩]) := fun X kX => by
            have := runOne X rfl ⟨m + 1, ⟨yk, yb, yn, yt⟩⟩ 44
            have e : ((m + 1 : Nat) : Int) = (m : Int) + 1 := by omega
            dsimp only at this
            rw [e] at this
            exact ⟨_, rfl, kX.alloc _, (Kp.refl _ _).alloc _, by simp, this⟩
          have hA6 : Hid (∀ X p, Kp [] wd X → RunE.Row X (.slice (some ⟨p, 0, none⟩) 0 0) [] → wd.heap.size ≤ p → ∃ a c X', (Builtin.append_ #[38, 38] 38 #[.slice (some ⟨p, 0, none⟩) 0 0, .slice (some ⟨g2, o2, none⟩) n0 rc]).run Try.prog X = .ok (.slice a n0 c) X' ∧ RunE.Row X' (.slice a n0 c) R0 ∧ Kp [p] X X' ∧ Kp [] wd X' ∧ ∀ k ∈ blk a, wd.heap.size ≤ k) := fun X p kX hr hp => by
            have hsr := (hsee2.out X kX).src (P := Try.prog) Try.underlying38 rc
            rw [hn0.out] at hsr
            have hsr' : Src Try.prog RunE.n 38 (.slice (some ⟨g2, o2, none⟩) n0 rc) R0.length (RunE.cs R0) X := by rw [hn0.out]; exact hsr
            obtain ⟨v', X3, hrun, hrow3, kk3, hn3⟩ := run_appendG (E := RunE) (P := Try.prog) X 38 38 38 44 i0 _ 48 Try.underlying38 hi hz0 hz1 hz2 rfl (.slice (some ⟨p, 0, none⟩) 0 0) [] hr _ R0 hsr' (by rw [List.length_nil, hn0.out]; omega) (by rw [List.length_nil, hn0.out]; omega)
            rw [List.nil_append] at hrow3
            obtain ⟨a', c', rfl, _⟩ := hrow3.see
            rw [ownS] at kk3
            rw [hn0.out] at hrun hrow3
            have hb : blk (some (⟨p, 0, none⟩ : Addr)) = [p] := rfl
            rw [hb] at kk3
            refine ⟨a', c', X3, hrun, hrow3, kk3, kX.trans kk3 (fun k hk => .inr (by simp at hk; omega)), fun k hk => ?_⟩
            rcases hn3 k (by rw [ownS]; exact hk) with h | h
            · rw [ownS, hb] at h; simp at h; omega
            · have := kX.size; omega
          have hA9 : Hid (∀ X a c q', Kp [] wd X → RunE.Row X (.slice a n0 c) R0 → (∀ k ∈ blk a, wd.heap.size ≤ k) → RunE.See X (some ⟨q', 0, none⟩) [⟨m + 1, ⟨yk, yb, yn, yt⟩⟩] → ∃ v X', (Builtin.append_ #[38, 38] 38 #[.slice a n0 c, .slice (some ⟨q', 0, none⟩) 1 1]).run Try.prog X = .ok v X' ∧ Kp [] wd X' ∧ ∃ a' c' R', v = .slice a' R'.length c' ∧ RfI l w X' a' c' (j + 1) R') := fun X a c q' kX hr hnw hs => by
            have hsr := hs.src (P := Try.prog) Try.underlying38 1
            obtain ⟨v', X3, hrun, hrow3, kk3, hn3⟩ := run_appendG (E := RunE) (P := Try.prog) X 38 38 38 44 i0 _ 48 Try.underlying38 hi hz0 hz1 hz2 rfl (.slice a n0 c) R0 hr _ [⟨m + 1, ⟨yk, yb, yn, yt⟩⟩] hsr (by rw [hn0.out]; simp; omega) (by rw [hn0.out]; simp; omega)
            obtain ⟨a', c', rfl, _⟩ := hrow3.see
            rw [ownS] at kk3
            have kX3 : Kp [] wd X3 := kX.trans kk3 (fun k hk => .inr (hnw k hk))
            refine ⟨_, X3, hrun, kX3, a', c', _, rfl, hrow3, fun k hk => ?_, hWd.trans kX3 (by simp), hR1⟩
            rcases hn3 k (by rw [ownS]; exact hk) with h | h
            · rw [ownS] at h; have := hnw k h; have := hWd.size; omega
            · have := kX.size; have := hWd.size; omega
          have hSP : Hid (∀ A, Kp [] wd A → _) := hS
          clear hS hsee2 hn0 hR1
          have wn0 : IntKind.i64.wrap (n0 : Int) = (n0 : Int) := by rw [IntKind.wrap_i64]; omega
          have wn1 : (n0 : Int) ≤ (rc : Int) := by omega
          have wn2 : (0 : Int) ≤ (n0 : Int) := by omega
          have wn3 : n0 ≤ rc := by omega
          refine wpAnyH_take (i := 1) (v := ?_) rfl (by kernel_rfl) (by kernel_rfl) (by kernel_rfl) (fun _ _ _ h => h) (Or.inl ⟨by rfl, ?_⟩) (by assumption) ?_
          rotate_left
          · intro w hSw; (try dsimp only at hSw); go_simp <;> with_reducible rfl
          try simp only [Act.put, List.getElem_toArray, List.getElem_cons_zero, List.getElem_cons_succ, List.setIfInBounds_toArray, List.set_cons_zero, List.set_cons_succ]
          refine wpAnyH_take (i := 2) (v := ?_) rfl (by kernel_rfl) (by kernel_rfl) (by kernel_rfl) (fun _ _ _ h => h) (Or.inl ⟨by rfl, ?_⟩) (by assumption) ?_
          rotate_left
          · intro w hSw; (try dsimp only at hSw); go_simp <;> with_reducible rfl
          try simp only [Act.put, List.getElem_toArray, List.getElem_cons_zero, List.getElem_cons_succ, List.setIfInBounds_toArray, List.set_cons_zero, List.set_cons_succ]
          refine wpAnyH_take (i := 3) (v := ?_) rfl (by kernel_rfl) (by kernel_rfl) (by kernel_rfl) (fun _ _ _ h => h) (Or.inl ⟨by rfl, ?_⟩) (by assumption) ?_
          rotate_left
          · intro w hSw; (try dsimp only at hSw); go_simp <;> with_reducible rfl
          try simp only [Act.put, List.getElem_toArray, List.getElem_cons_zero, List.getElem_cons_succ, List.setIfInBounds_toArray, List.set_cons_zero, List.set_cons_succ]
          refine wpAnyH_take (i := 4) (v := ?_) rfl (by kernel_rfl) (by kernel_rfl) (by kernel_rfl) (fun _ _ _ h => h) (Or.inl ⟨by rfl, ?_⟩) (by assumption) ?_
          rotate_left
          · intro w hSw; (try dsimp only at hSw); go_simp <;> with_reducible rfl
          try simp only [Act.put, List.getElem_toArray, List.getElem_cons_zero, List.getElem_cons_succ, List.setIfInBounds_toArray, List.set_cons_zero, List.set_cons_succ]
          refine wpAnyH_take (i := 5) (v := ?_) rfl (by kernel_rfl) (by kernel_rfl) (by kernel_rfl) (fun _ _ _ h => h) (Or.inl ⟨by rfl, ?_⟩) (by assumption) ?_
          rotate_left
          · intro w hSw; (try dsimp only at hSw); go_simp <;> with_reducible rfl
          try simp only [Act.put, List.getElem_toArray, List.getElem_cons_zero, List.getElem_cons_succ, List.setIfInBounds_toArray, List.set_cons_zero, List.set_cons_succ]
          refine wpAnyH_take (i := 7) (v := ?_) rfl (by kernel_rfl) (by kernel_rfl) (by kernel_rfl) (fun _ _ _ h => h) (Or.inl ⟨by rfl, ?_⟩) (by assumption) ?_
          rotate_left
          · intro w hSw; (try dsimp only at hSw); go_simp <;> with_reducible rfl
          try simp only [Act.put, List.getElem_toArray, List.getElem_cons_zero, List.getElem_cons_succ, List.setIfInBounds_toArray, List.set_cons_zero, List.set_cons_succ]
          refine wpAnyH_ready (rs := [0, 8]) (by kernel_rfl) (by simp) ?_
          refine AllReadyH.cons rfl (fun K hK => ?_) (AllReadyH.cons rfl (fun K hK => ?_) AllReadyH.nil)
          · obtain ⟨X1, hX1, kX1, kkX1, ltX1, rX1⟩ := hA0.out wd (Kp.refl _ _)
            have hX1' := hid hX1
            clear hX1
            go_simp
            (try go_wp2_with fail)
            rw [hX1'.out]
            refine hK.out _ _ ?_ (fun hHeld => ?_)
            · exact hSP.out _ kX1
            clear hK K
            try simp only [Act.put, List.getElem_toArray, List.getElem_cons_zero, List.getElem_cons_succ, List.setIfInBounds_toArray, List.set_cons_zero, List.set_cons_succ]
            refine wpAnyH_ready (rs := [6, 8]) (by kernel_rfl) (by simp) ?_
            refine AllReadyH.cons rfl (fun K hK => ?_) (AllReadyH.cons rfl (fun K hK => ?_) AllReadyH.nil)
            · obtain ⟨a6, c6, X2, hrun6, row6, kkX2, kX2, nw6⟩ := hA6.out X1 _ kX1 rX1 (Nat.le_refl _)
              refine stepAppRun rfl _ _ 38 38 rfl _ _ _ rfl rfl hrun6 ?_
              refine hK.out _ _ ?_ (fun hHeld => ?_)
              · exact hSP.out _ kX2
              clear hK K
              try simp only [Act.put, List.getElem_toArray, List.getElem_cons_zero, List.getElem_cons_succ, List.setIfInBounds_toArray, List.set_cons_zero, List.set_cons_succ]
              refine wpAnyH_ready (rs := [8]) (by kernel_rfl) (by simp) ?_
              refine AllReadyH.cons rfl (fun K hK => ?_) AllReadyH.nil
              obtain ⟨X3, hX3, kX3, kkX3, ltX3, rX3⟩ := hA8.out X2 kX2
              have hX3' := hid hX3
              clear hX3
              go_simp
              (try go_wp2_with fail)
              rw [hX3'.out]
              refine hK.out _ _ ?_ (fun hHeld => ?_)
              · exact hSP.out _ kX3
              clear hK K
              try simp only [Act.put, List.getElem_toArray, List.getElem_cons_zero, List.getElem_cons_succ, List.setIfInBounds_toArray, List.set_cons_zero, List.set_cons_succ]
              refine wpAnyH_ready (rs := [9]) (by kernel_rfl) (by simp) ?_
              refine AllReadyH.cons rfl (fun K hK => ?_) AllReadyH.nil
              obtain ⟨v9, X9, hrun9, k9, a9, c9, R9, rfl, I9⟩ := hA9.out X3 a6 c6 _ kX3 (row6.keptNew kkX3) nw6 (rX3)
              refine stepAppRun rfl _ _ 38 38 rfl _ _ _ rfl rfl hrun9 ?_
              refine hK.out _ _ ?_ (fun hHeld => ?_)
              · exact hSP.out _ k9
              clear hK K
              try simp only [Act.put, List.getElem_toArray, List.getElem_cons_zero, List.getElem_cons_succ, List.setIfInBounds_toArray, List.set_cons_zero, List.set_cons_succ]
              refine wpAnyH_take (i := 10) (v := ?_) rfl (by kernel_rfl) (by kernel_rfl) (by kernel_rfl) (fun _ _ _ h => h) (Or.inl ⟨by rfl, ?_⟩) (by assumption) ?_
              rotate_left
              · intro w hSw; (try dsimp only at hSw); go_simp <;> with_reducible rfl
              try simp only [Act.put, List.getElem_toArray, List.getElem_cons_zero, List.getElem_cons_succ, List.setIfInBounds_toArray, List.set_cons_zero, List.set_cons_succ]
              refine wpAnyH_done (by kernel_rfl) ?_ _
              have I9' := hid I9
              clear I9 hrun9 hrun6 row6 hHeld hSP hA0 hA8 hA6 hA9
              go_wp2_with fail
              exact ⟨⟨j + 1, a9, c9, R9, by omega, by go_num, rfl, I9'.out⟩, by simp [intOf]; omega⟩
            · obtain ⟨X2, hX2, kX2, kkX2, ltX2, rX2⟩ := hA8.out X1 kX1
              have hX2' := hid hX2
              clear hX2
              go_simp
              (try go_wp2_with fail)
              rw [hX2'.out]
              refine hK.out _ _ ?_ (fun hHeld => ?_)
              · exact hSP.out _ kX2
              clear hK K
              try simp only [Act.put, List.getElem_toArray, List.getElem_cons_zero, List.getElem_cons_succ, List.setIfInBounds_toArray, List.set_cons_zero, List.set_cons_succ]
              refine wpAnyH_ready (rs := [6]) (by kernel_rfl) (by simp) ?_
              refine AllReadyH.cons rfl (fun K hK => ?_) AllReadyH.nil
              obtain ⟨a6, c6, X3, hrun6, row6, kkX3, kX3, nw6⟩ := hA6.out X2 _ kX2 (rX1.keptNew kkX2) (Nat.le_refl _)
              refine stepAppRun rfl _ _ 38 38 rfl _ _ _ rfl rfl hrun6 ?_
              refine hK.out _ _ ?_ (fun hHeld => ?_)
              · exact hSP.out _ kX3
              clear hK K
              try simp only [Act.put, List.getElem_toArray, List.getElem_cons_zero, List.getElem_cons_succ, List.setIfInBounds_toArray, List.set_cons_zero, List.set_cons_succ]
              refine wpAnyH_ready (rs := [9]) (by kernel_rfl) (by simp) ?_
              refine AllReadyH.cons rfl (fun K hK => ?_) AllReadyH.nil
              obtain ⟨v9, X9, hrun9, k9, a9, c9, R9, rfl, I9⟩ := hA9.out X3 a6 c6 _ kX3 (row6) nw6 (rX2.kept kkX3 (fun _ k hk hm => by simp [blk] at hk hm; omega))
              refine stepAppRun rfl _ _ 38 38 rfl _ _ _ rfl rfl hrun9 ?_
              refine hK.out _ _ ?_ (fun hHeld => ?_)
              · exact hSP.out _ k9
              clear hK K
              try simp only [Act.put, List.getElem_toArray, List.getElem_cons_zero, List.getElem_cons_succ, List.setIfInBounds_toArray, List.set_cons_zero, List.set_cons_succ]
              refine wpAnyH_take (i := 10) (v := ?_) rfl (by kernel_rfl) (by kernel_rfl) (by kernel_rfl) (fun _ _ _ h => h) (Or.inl ⟨by rfl, ?_⟩) (by assumption) ?_
              rotate_left
              · intro w hSw; (try dsimp only at hSw); go_simp <;> with_reducible rfl
              try simp only [Act.put, List.getElem_toArray, List.getElem_cons_zero, List.getElem_cons_succ, List.setIfInBounds_toArray, List.set_cons_zero, List.set_cons_succ]
              refine wpAnyH_done (by kernel_rfl) ?_ _
              have I9' := hid I9
              clear I9 hrun9 hrun6 row6 hHeld hSP hA0 hA8 hA6 hA9
              go_wp2_with fail
              exact ⟨⟨j + 1, a9, c9, R9, by omega, by go_num, rfl, I9'.out⟩, by simp [intOf]; omega⟩
          · obtain ⟨X1, hX1, kX1, kkX1, ltX1, rX1⟩ := hA8.out wd (Kp.refl _ _)
            have hX1' := hid hX1
            clear hX1
            go_simp
            (try go_wp2_with fail)
            rw [hX1'.out]
            refine hK.out _ _ ?_ (fun hHeld => ?_)
            · exact hSP.out _ kX1
            clear hK K
            try simp only [Act.put, List.getElem_toArray, List.getElem_cons_zero, List.getElem_cons_succ, List.setIfInBounds_toArray, List.set_cons_zero, List.set_cons_succ]
            refine wpAnyH_ready (rs := [0]) (by kernel_rfl) (by simp) ?_
            refine AllReadyH.cons rfl (fun K hK => ?_) AllReadyH.nil
            obtain ⟨X2, hX2, kX2, kkX2, ltX2, rX2⟩ := hA0.out X1 kX1
            have hX2' := hid hX2
            clear hX2
            go_simp
            (try go_wp2_with fail)
            rw [hX2'.out]
            refine hK.out _ _ ?_ (fun hHeld => ?_)
            · exact hSP.out _ kX2
            clear hK K
            try simp only [Act.put, List.getElem_toArray, List.getElem_cons_zero, List.getElem_cons_succ, List.setIfInBounds_toArray, List.set_cons_zero, List.set_cons_succ]
            refine wpAnyH_ready (rs := [6]) (by kernel_rfl) (by simp) ?_
            refine AllReadyH.cons rfl (fun K hK => ?_) AllReadyH.nil
            obtain ⟨a6, c6, X3, hrun6, row6, kkX3, kX3, nw6⟩ := hA6.out X2 _ kX2 rX2 (kX1.size)
            refine stepAppRun rfl _ _ 38 38 rfl _ _ _ rfl rfl hrun6 ?_
            refine hK.out _ _ ?_ (fun hHeld => ?_)
            · exact hSP.out _ kX3
            clear hK K
            try simp only [Act.put, List.getElem_toArray, List.getElem_cons_zero, List.getElem_cons_succ, List.setIfInBounds_toArray, List.set_cons_zero, List.set_cons_succ]
            refine wpAnyH_ready (rs := [9]) (by kernel_rfl) (by simp) ?_
            refine AllReadyH.cons rfl (fun K hK => ?_) AllReadyH.nil
            obtain ⟨v9, X9, hrun9, k9, a9, c9, R9, rfl, I9⟩ := hA9.out X3 a6 c6 _ kX3 (row6) nw6 ((rX1.keptNew kkX2).kept kkX3 (fun _ k hk hm => by simp [blk] at hk hm; omega))
            refine stepAppRun rfl _ _ 38 38 rfl _ _ _ rfl rfl hrun9 ?_
            refine hK.out _ _ ?_ (fun hHeld => ?_)
            · exact hSP.out _ k9
            clear hK K
            try simp only [Act.put, List.getElem_toArray, List.getElem_cons_zero, List.getElem_cons_succ, List.setIfInBounds_toArray, List.set_cons_zero, List.set_cons_succ]
            refine wpAnyH_take (i := 10) (v := ?_) rfl (by kernel_rfl) (by kernel_rfl) (by kernel_rfl) (fun _ _ _ h => h) (Or.inl ⟨by rfl, ?_⟩) (by assumption) ?_
            rotate_left
            · intro w hSw; (try dsimp only at hSw); go_simp <;> with_reducible rfl
            try simp only [Act.put, List.getElem_toArray, List.getElem_cons_zero, List.getElem_cons_succ, List.setIfInBounds_toArray, List.set_cons_zero, List.set_cons_succ]
            refine wpAnyH_done (by kernel_rfl) ?_ _
            have I9' := hid I9
            clear I9 hrun9 hrun6 row6 hHeld hSP hA0 hA8 hA6 hA9
            go_wp2_with fail
            exact ⟨⟨j + 1, a9, c9, R9, by omega, by go_num, rfl, I9'.out⟩, by simp [intOf]; omega⟩
    · obtain rfl : j = l.length := by omega
      have hfin : NR F w (.returned (.slice ra R.length rc)) wr := by
        have e : R = F := by rw [← I.runs.out, List.take_length]; exact hF.out
        subst e
        exact ⟨ra, rc, rfl, I.row, I.kp, I.new⟩
      clear I
      go_wp2_with fail
      go_ret
      exact hfin
end Go.Proofs.Ytpekgpgfdiffcaa
end

section
namespace Go.Proofs.Ytpekgpgfdiffcaa
open Go.RowKit Go.Hay
set_option linter.unusedVariables false
set_option linter.unusedSimpArgs false

theorem u8_mod (m : Nat) (h : m < 256) : (m : Int) = ((octet m).toNat : Int) := by rw [octet_nat m h]
set_option maxHeartbeats 16000000 in
set_option maxRecDepth 100000 in
theorem cRefEncR (a : Option Addr) (ca : Nat) (l : List Val) (w : World) (ha : Vals w a l) (h0 : 0 < l.length) (hr : refE 1 l = 0) : Calls Try.prog 10 #[.int .i64 1, .slice a l.length ca] w (EncP 1 l w) := by
  obtain ⟨_, h64, hall⟩ := refE_ok hr
  have cR := cRefRefusedE 1 a ca l w ha (by omega)
  rw [hr] at cR
  have cRu := hid (fun W (k : Kp [] w W) => cRefRuns a ca l W (ha.kept k) (by omega))
  have hrl := runsV_len l
  have hrin := hid (fun r (h : r ∈ runsV l) => (⟨List.all_eq_true.1 hall _ (runsV_in r h).1, (runsV_in r h).2⟩ : r.v.right = true ∧ r.m ≤ l.length))
  have hfin : Hid (∀ W b c n, Kp [] w W → n = (encR 1 l).length → Row W (.slice b (encR 1 l).length c) (encR 1 l) → (∀ q ∈ blk b, w.heap.size ≤ q) → EncP 1 l w (.returned (.tuple #[.slice b n c, .int .i64 0])) W) := fun W b c n kW hn hrow hnw => ⟨b, c, by rw [hr, hn], hrow, kW, hnw⟩
  have hGe : Hid (encR 1 l = (runsV l).flatMap runB) := by show _ = _; rw [encR_put hr h0]; rfl
  obtain ⟨R, hR⟩ : ∃ R, Hid (runsV l = R) := ⟨_, rfl⟩
  rw [hR.out] at hGe hrin hrl
  simp only [hR.out] at cRu
  rw [hGe.out] at hfin
  have hflr := hid (flatRun_len (R := R) (fun r h => (hrin.out r h).1))
  have hd0 : ((l.length : Int) == 0) = false := by rw [beq_eq_false_iff_ne]; omega
  clear ha hr hall hGe hR
  go_enter Try.func10, Try.ntmps10
  go_wp2_with fail
  refine cR.mono ?_
  rintro e w1 ⟨rfl, k1⟩
  have cU := cRu.out w1 k1
  clear cR cRu
  go_wp2_with fail
  refine cU.mono ?_
  rintro e w2 ⟨ra, rc, rfl, hrow, k2, hn2⟩
  have kw2 := k1.trans k2 (by simp)
  have hse : Hid (∀ W, Kp [] w2 W → RunE.See W ra R) := fun W kW => by
    obtain ⟨_, _, e, hs, _⟩ := hrow.see
    injection e with e1 e2 e3
    rw [e1]; exact hs.keptNew kW
  have hnil := hid (NwB.nil w2)
  clear cU hrow hn2
  go_wp2_with fail
  go_loopw [7, 9] (fun v7 i wn => ∃ (j : Nat) (ba : Option Addr) (bc : Nat) (bs : List UInt8), j ≤ R.length ∧ i = .int .i64 j ∧ v7 = .slice ba bs.length bc ∧ NwB w2 wn ba bc bs ∧ Hid (bs = (R.take j).flatMap runB)) (fun _ i _ => R.length - (intOf i).toNat)
  case atStart => exact ⟨0, none, 0, [], Nat.zero_le _, rfl, rfl, hnil.out, by show _ = _; simp⟩
  case round =>
    clear hnil
    obtain ⟨j, ba, bc, bs, hj, rfl, rfl, I, hbs⟩ := hrel
    have hbl : bs.length ≤ 5000 := by
      rw [hbs.out]
      have := flatRun_len (R := R.take j) (fun r h => (hrin.out r (List.mem_of_mem_take h)).1)
      have e : (R.take j).length ≤ 64 := by simp; omega
      omega
    by_cases hlt : j < R.length
    · have hx : R[j]? = some R[j] := by simp [hlt]
      obtain ⟨g2, o2, rfl, hdrop⟩ := runE_at (hse.out wr I.kp) hx
      clear hdrop
      have hcx : Hid (∀ W, Kp [] w2 W → W.cell? ⟨g2, o2 + j * 5, none⟩ = some (.int .i64 (R[j]'hlt).m) ∧ W.cell? ⟨g2, o2 + j * 5 + 1, none⟩ = some (.int .i64 (R[j]'hlt).v.k) ∧ W.cell? ⟨g2, o2 + j * 5 + 2, none⟩ = some (.bool (R[j]'hlt).v.b) ∧ W.cell? ⟨g2, o2 + j * 5 + 3, none⟩ = some (.int .i64 (R[j]'hlt).v.n) ∧ W.cell? ⟨g2, o2 + j * 5 + 4, none⟩ = some (.string (R[j]'hlt).v.t)) := fun W kW => by
        obtain ⟨_, _, e, y0, y1, y2, y3, y4⟩ := runE_at (hse.out W kW) hx
        cases e
        exact ⟨y0, y1, y2, y3, y4⟩
      obtain ⟨hxr, hxm⟩ := hrin.out _ (List.getElem_mem hlt)
      have hst := hid (flatRun_take R j hlt)
      obtain ⟨r, hre⟩ : ∃ r, Hid (R[j]'hlt = r) := ⟨R[j]'hlt, rfl⟩
      rw [hre.out] at hxr hxm hst
      simp only [hre.out] at hcx
      have hrb := rowB_length hxr
      have hvx := u8_mod r.m (by omega)
      have hrB : Hid (runB r = octet r.m :: rowB r.v) := rfl
      obtain ⟨v3, X3, hrun3, a3, c3, rfl, I3, _⟩ := I.app1 (octet r.m) (r.m : Int) hvx (by omega)
      obtain ⟨p0, p1, p2, p3, p4⟩ := hcx.out wr I.kp
      obtain ⟨q0, q1, q2, q3, q4⟩ := hcx.out X3 I3.kp
      have cO := cOne r.v hxr X3
      obtain ⟨B, hB⟩ : ∃ B, Hid (rowB r.v = B) := ⟨_, rfl⟩
      rw [hB.out] at cO hrb hrB
      unfold Val.v at cO
      have hI3 := hid I3
      have hwz : IntKind.u8.wrap (r.m : Int) = (r.m : Int) := by rw [IntKind.wrap_u8]; omega
      have hwz2 : (r.m : Int) % 256 = (r.m : Int) := by omega
      have hvx' := hid hvx
      rw [hrB.out] at hst
      clear I I3 hxr hre hcx hx hB hvx hrB
      obtain ⟨m, xk, xb, xn, xt⟩ := r
      dsimp only at *
      go_wp2_with (first | (refine wpAppRun rfl _ _ 24 24 rfl _ _ _ rfl rfl hrun3 ?_) | fail)
      refine cO.mono ?_
      rintro e w3 ⟨v4, rfl, hr4, hn4⟩
      have k4 := hn4.kp
      obtain ⟨a4, c4, rfl, _⟩ := NwB.of hr4 hn4.own k4
      obtain ⟨hs4, _, _⟩ := rowSee hr4
      have el : (bs ++ [octet m]).length = bs.length + 1 := by simp
      obtain ⟨v5, X5, hrun5, a5, c5, rfl, I5, _⟩ := (hI3.out.keep k4).appS a4 c4 B hs4 (by rw [el]; omega) (by omega)
      rw [el] at hrun5
      have hnx : Hid (∃ (j' : Nat) (ba : Option Addr) (bc : Nat) (bs' : List UInt8), j' ≤ R.length ∧ (.int .i64 ((j : Int) + 1) : Value) = .int .i64 j' ∧ (.slice a5 (bs.length + 1 + B.length) c5 : Value) = .slice ba bs'.length bc ∧ NwB w2 X5 ba bc bs' ∧ Hid (bs' = (R.take j').flatMap runB)) :=
        ⟨j + 1, a5, c5, bs ++ [octet m] ++ B, by omega, by go_num, by rw [List.length_append, el], I5, by show _ = _; rw [hst.out, hbs.out]; simp⟩
      clear cO hr4 hn4 I5 hI3 hs4 hst hbs hrun3 el
      go_wp2_with (first | (refine wpAppRun rfl _ _ 24 24 rfl _ _ _ rfl rfl hrun5 ?_) | fail)
      exact ⟨hnx.out, by simp [intOf]; omega⟩
    · obtain rfl : j = R.length := by omega
      rw [List.take_length] at hbs
      rw [← hbs.out] at hfin
      have I' := I.back kw2
      have hf := hfin.out wr ba bc bs.length I'.kp rfl (rowByt.1 I'.row) I'.new
      clear I I' hfin hbs
      go_wp2_with fail
      go_ret2
      exact hf
set_option maxHeartbeats 16000000 in
set_option maxRecDepth 100000 in
theorem cRefEncP (k : Int) (a : Option Addr) (ca : Nat) (l : List Val) (w : World) (ha : Vals w a l) (h0 : 0 < l.length) (hr : refE k l = 0) (e1 : (k == 1) = false) (e2 : (k == 2) = false) (e3 : (k == 3) = false) (e4 : (k == 4) = false) : Calls Try.prog 10 #[.int .i64 k, .slice a l.length ca] w (EncP k l w) := by
  obtain ⟨_, h64, hall⟩ := refE_ok hr
  have cR := cRefRefusedE k a ca l w ha (by omega)
  rw [hr] at cR
  have hall' := hid hall
  have ha' := hid ha
  have hGe : Hid (encR k l = l.flatMap rowB) := by
    show _ = _
    rw [encR_put hr h0]
    unfold putB
    rw [beq_eq_false_iff_ne] at e1 e2 e3 e4
    rw [if_neg e1, if_neg e2, if_neg e3, if_neg e4]
  have hfin : Hid (∀ W b c n, Kp [] w W → n = (encR k l).length → Row W (.slice b (encR k l).length c) (encR k l) → (∀ q ∈ blk b, w.heap.size ≤ q) → EncP k l w (.returned (.tuple #[.slice b n c, .int .i64 0])) W) := fun W b c n kW hn hrow hnw => ⟨b, c, by rw [hr, hn], hrow, kW, hnw⟩
  rw [hGe.out] at hfin
  have hd0 : ((l.length : Int) == 0) = false := by rw [beq_eq_false_iff_ne]; omega
  clear ha hr hall hGe
  go_enter Try.func10, Try.ntmps10
  go_wp2_with fail
  refine cR.mono ?_
  rintro e w2 ⟨rfl, kw2⟩
  have hnil := hid (NwB.nil w2)
  clear cR
  go_wp2_with fail
  go_loopw [7, 10] (fun v7 i wn => ∃ (j : Nat) (ba : Option Addr) (bc : Nat) (bs : List UInt8), j ≤ l.length ∧ i = .int .i64 j ∧ v7 = .slice ba bs.length bc ∧ NwB w2 wn ba bc bs ∧ Hid (bs = (l.take j).flatMap rowB)) (fun _ i _ => l.length - (intOf i).toNat)
  case atStart => exact ⟨0, none, 0, [], Nat.zero_le _, rfl, rfl, hnil.out, by show _ = _; simp⟩
  case round =>
    clear hnil
    obtain ⟨j, ba, bc, bs, hj, rfl, rfl, I, hbs⟩ := hrel
    have hbl : bs.length ≤ 5000 := by
      rw [hbs.out]
      have := flat_length (f := rowB) (m := 66) (fun x hx => rowB_length hx) (l.take j) (allR_take hall'.out j)
      have e : (l.take j).length ≤ 64 := by simp; omega
      omega
    by_cases hlt : j < l.length
    · obtain ⟨g2, o2, rfl, y0, y1, y2, y3⟩ := (ha'.out.kept (kw2.trans I.kp (by simp))).at j hlt
      have hxr := allR_at hall'.out j hlt
      have hst := hid (flat_take rowB l j hlt)
      obtain ⟨x, hx⟩ : ∃ x, Hid (l[j]'hlt = x) := ⟨l[j]'hlt, rfl⟩
      rw [hx.out] at y0 y1 y2 y3 hxr hst
      have cO := cOne x hxr wr
      have hrb := rowB_length hxr
      obtain ⟨R, hR⟩ : ∃ R, Hid (rowB x = R) := ⟨_, rfl⟩
      rw [hR.out] at cO hst hrb
      unfold Val.v at cO
      obtain ⟨xk, xb, xn, xt⟩ := x
      dsimp only at y0 y1 y2 y3 cO
      have hI := hid I
      clear I hxr hR hx
      go_wp2_with fail
      refine cO.mono ?_
      rintro e w3 ⟨v3, rfl, hr3, hn3⟩
      have k3 := hn3.kp
      obtain ⟨a3, c3, rfl, _⟩ := NwB.of hr3 hn3.own k3
      obtain ⟨hs3, _, _⟩ := rowSee hr3
      obtain ⟨v4, X4, hrun4, a4, c4, rfl, I4, _⟩ := (hI.out.keep k3).appS a3 c3 R hs3 (by omega) (by omega)
      have hnx : Hid (∃ (j' : Nat) (ba : Option Addr) (bc : Nat) (bs' : List UInt8), j' ≤ l.length ∧ (.int .i64 ((j : Int) + 1) : Value) = .int .i64 j' ∧ (.slice a4 (bs.length + R.length) c4 : Value) = .slice ba bs'.length bc ∧ NwB w2 X4 ba bc bs' ∧ Hid (bs' = (l.take j').flatMap rowB)) :=
        ⟨j + 1, a4, c4, bs ++ R, by omega, by go_num, by simp, I4, by show _ = _; rw [hst.out, hbs.out]⟩
      clear cO hr3 hn3 I4 hI hs3 hst hbs
      go_wp2_with (first | (refine wpAppRun rfl _ _ 24 24 rfl _ _ _ rfl rfl hrun4 ?_) | fail)
      exact ⟨hnx.out, by simp [intOf]; omega⟩
    · obtain rfl : j = l.length := by omega
      rw [List.take_length] at hbs
      rw [← hbs.out] at hfin
      have I' := I.back kw2
      have hf := hfin.out wr ba bc bs.length I'.kp rfl (rowByt.1 I'.row) I'.new
      clear I I' hfin hbs
      go_wp2_with fail
      go_ret2
      exact hf
set_option maxHeartbeats 8000000 in
set_option maxRecDepth 100000 in
theorem cRefEnc2K (a : Option Addr) (ca : Nat) (l : List Val) (w : World) (ha : Vals w a l) (h0 : 0 < l.length) (hr : refE 2 l = 0) : Calls Try.prog 10 #[.int .i64 2, .slice a l.length ca] w (EncP 2 l w) := by
  obtain ⟨_, h64, hall⟩ := refE_ok hr
  have cR := cRefRefusedE 2 a ca l w ha (by omega)
  rw [hr] at cR
  have cK := hid (fun W (k : Kp [] w W) => cRefDelta a ca l W (ha.kept k) h0 h64)
  have hG : Hid (encR 2 l = deltaB l) := by show _ = _; rw [encR_put hr h0]; rfl
  have hfin : Hid (∀ W b c, Kp [] w W → Row W (.slice b (encR 2 l).length c) (encR 2 l) → (∀ q ∈ blk b, w.heap.size ≤ q) → EncP 2 l w (.returned (.tuple #[.slice b (encR 2 l).length c, .int .i64 0])) W) := fun W b c kW hrow hnw => ⟨b, c, by rw [hr], hrow, kW, hnw⟩
  rw [hG.out] at hfin
  obtain ⟨G, hGG⟩ : ∃ G, Hid (deltaB l = G) := ⟨_, rfl⟩
  simp only [hGG.out] at cK hfin
  have hd0 : ((l.length : Int) == 0) = false := by rw [beq_eq_false_iff_ne]; omega
  clear ha hr hall hG hGG
  go_enter Try.func10, Try.ntmps10
  go_wp2_with fail
  refine cR.mono ?_
  rintro e w1 ⟨rfl, k1⟩
  have cK1 := cK.out w1 k1
  clear cR cK
  go_wp2_with fail
  refine cK1.mono ?_
  rintro e w2 ⟨a2, c2, rfl, hr2, k2, hn2⟩
  have hf := hfin.out w2 a2 c2 (k1.trans k2 (by simp)) hr2 (fun q hq => by have := hn2 q hq; have := k1.size; omega)
  clear cK1 hr2 hn2 hfin
  go_wp2_with fail
  go_ret2
  exact hf
set_option maxHeartbeats 8000000 in
set_option maxRecDepth 100000 in
theorem cRefEnc3K (a : Option Addr) (ca : Nat) (l : List Val) (w : World) (ha : Vals w a l) (h0 : 0 < l.length) (hr : refE 3 l = 0) : Calls Try.prog 10 #[.int .i64 3, .slice a l.length ca] w (EncP 3 l w) := by
  obtain ⟨_, h64, hall⟩ := refE_ok hr
  have cR := cRefRefusedE 3 a ca l w ha (by omega)
  rw [hr] at cR
  have cK := hid (fun W (k : Kp [] w W) => cRefDict a ca l W (ha.kept k) hall h0 h64)
  have hG : Hid (encR 3 l = dictB l) := by show _ = _; rw [encR_put hr h0]; rfl
  have hfin : Hid (∀ W b c, Kp [] w W → Row W (.slice b (encR 3 l).length c) (encR 3 l) → (∀ q ∈ blk b, w.heap.size ≤ q) → EncP 3 l w (.returned (.tuple #[.slice b (encR 3 l).length c, .int .i64 0])) W) := fun W b c kW hrow hnw => ⟨b, c, by rw [hr], hrow, kW, hnw⟩
  rw [hG.out] at hfin
  obtain ⟨G, hGG⟩ : ∃ G, Hid (dictB l = G) := ⟨_, rfl⟩
  simp only [hGG.out] at cK hfin
  have hd0 : ((l.length : Int) == 0) = false := by rw [beq_eq_false_iff_ne]; omega
  clear ha hr hall hG hGG
  go_enter Try.func10, Try.ntmps10
  go_wp2_with fail
  refine cR.mono ?_
  rintro e w1 ⟨rfl, k1⟩
  have cK1 := cK.out w1 k1
  clear cR cK
  go_wp2_with fail
  refine cK1.mono ?_
  rintro e w2 ⟨a2, c2, rfl, hr2, k2, hn2⟩
  have hf := hfin.out w2 a2 c2 (k1.trans k2 (by simp)) hr2 (fun q hq => by have := hn2 q hq; have := k1.size; omega)
  clear cK1 hr2 hn2 hfin
  go_wp2_with fail
  go_ret2
  exact hf
set_option maxHeartbeats 8000000 in
set_option maxRecDepth 100000 in
theorem cRefEnc4K (a : Option Addr) (ca : Nat) (l : List Val) (w : World) (ha : Vals w a l) (h0 : 0 < l.length) (hr : refE 4 l = 0) : Calls Try.prog 10 #[.int .i64 4, .slice a l.length ca] w (EncP 4 l w) := by
  obtain ⟨_, h64, hall⟩ := refE_ok hr
  have cR := cRefRefusedE 4 a ca l w ha (by omega)
  rw [hr] at cR
  have cK := hid (fun W (k : Kp [] w W) => cRefSmall a ca l W (ha.kept k) h0 h64)
  have hG : Hid (encR 4 l = bitsB l) := by show _ = _; rw [encR_put hr h0]; rfl
  have hfin : Hid (∀ W b c, Kp [] w W → Row W (.slice b (encR 4 l).length c) (encR 4 l) → (∀ q ∈ blk b, w.heap.size ≤ q) → EncP 4 l w (.returned (.tuple #[.slice b (encR 4 l).length c, .int .i64 0])) W) := fun W b c kW hrow hnw => ⟨b, c, by rw [hr], hrow, kW, hnw⟩
  rw [hG.out] at hfin
  obtain ⟨G, hGG⟩ : ∃ G, Hid (bitsB l = G) := ⟨_, rfl⟩
  simp only [hGG.out] at cK hfin
  have hd0 : ((l.length : Int) == 0) = false := by rw [beq_eq_false_iff_ne]; omega
  clear ha hr hall hG hGG
  go_enter Try.func10, Try.ntmps10
  go_wp2_with fail
  refine cR.mono ?_
  rintro e w1 ⟨rfl, k1⟩
  have cK1 := cK.out w1 k1
  clear cR cK
  go_wp2_with fail
  refine cK1.mono ?_
  rintro e w2 ⟨a2, c2, rfl, hr2, k2, hn2⟩
  have hf := hfin.out w2 a2 c2 (k1.trans k2 (by simp)) hr2 (fun q hq => by have := hn2 q hq; have := k1.size; omega)
  clear cK1 hr2 hn2 hfin
  go_wp2_with fail
  go_ret2
  exact hf
set_option maxHeartbeats 4000000 in
theorem cRefEnc6 (k : Int) (a : Option Addr) (ca : Nat) (l : List Val) (w : World) (ha : Vals w a l) (hl : l.length ≤ 9223372036854775807) : Calls Try.prog 10 #[.int .i64 k, .slice a l.length ca] w (EncP k l w) := by
  by_cases hr : refE k l = 0
  · by_cases h0 : l.length = 0
    · have cR := cRefRefusedE k a ca l w ha hl
      rw [hr] at cR
      have hfin : Hid (∀ W, Kp [] w W → EncP k l w (.returned (.tuple #[.slice none 0 0, .int .i64 0])) W) := fun W kW => by
        unfold EncP
        rw [encR_none h0, hr]
        exact ⟨none, 0, rfl, .inl ⟨rfl, rfl⟩, kW, by simp [blk]⟩
      rw [h0] at cR ⊢
      clear ha hl
      go_enter Try.func10, Try.ntmps10
      go_wp2_with fail
      refine cR.mono ?_
      rintro e w1 ⟨rfl, k1⟩
      have hf := hfin.out w1 k1
      clear cR hfin
      go_wp2_with fail
      go_ret2
      exact hf
    · have h1 : 0 < l.length := by omega
      by_cases q1 : k = 1
      · subst q1; exact cRefEncR a ca l w ha h1 hr
      · by_cases q2 : k = 2
        · subst q2; exact cRefEnc2K a ca l w ha h1 hr
        · by_cases q3 : k = 3
          · subst q3; exact cRefEnc3K a ca l w ha h1 hr
          · by_cases q4 : k = 4
            · subst q4; exact cRefEnc4K a ca l w ha h1 hr
            · exact cRefEncP k a ca l w ha h1 hr (by rw [beq_eq_false_iff_ne]; exact q1) (by rw [beq_eq_false_iff_ne]; exact q2) (by rw [beq_eq_false_iff_ne]; exact q3) (by rw [beq_eq_false_iff_ne]; exact q4)
  · have cR := cRefRefusedE k a ca l w ha hl
    obtain ⟨E, hE⟩ : ∃ E, Hid (refE k l = E) := ⟨_, rfl⟩
    have hfin : Hid (∀ W, Kp [] w W → EncP k l w (.returned (.tuple #[.slice none 0 0, .int .i64 E])) W) := fun W kW => by
      unfold EncP encR
      rw [if_neg (fun h => hr h.1), hE.out]
      exact ⟨none, 0, rfl, .inl ⟨rfl, rfl⟩, kW, by simp [blk]⟩
    rw [hE.out] at cR hr
    have d1 : (E != 0) = true := by simpa using hr
    have d2 : (E == 0) = false := by simpa using hr
    clear ha hl hE
    go_enter Try.func10, Try.ntmps10
    go_wp2_with fail
    refine cR.mono ?_
    rintro e w1 ⟨rfl, k1⟩
    have hf := hfin.out w1 k1
    clear cR hfin
    go_wp2_with fail
    go_ret2
    exact hf
end Go.Proofs.Ytpekgpgfdiffcaa
end

section
namespace Go.Proofs.Ytpekgpgfdiffcaa
open Go.RowKit Go.Hay
set_option linter.unusedVariables false
set_option linter.unusedSimpArgs false

set_option maxHeartbeats 4000000 in
set_option maxRecDepth 100000 in
theorem cRefBest (a : Option Addr) (ca : Nat) (l : List Val) (w : World) (ha : Vals w a l) (hc : l.length ≤ 9223372036854775807) :
    Calls Try.prog 16 #[.slice a l.length ca] w fun e w' => e = .returned (.int .i64 (bestV l)) ∧ Kp [] w w' := by
  have hE : Hid (∀ (k : Int) W, Kp [] w W → Calls Try.prog 10 #[.int .i64 k, .slice a l.length ca] W (EncP k l W)) := fun k W kW => cRefEnc6 k a ca l W (ha.kept kW) hc
  have hB : Hid (bestV l = (bT l 5).1) := rfl
  obtain ⟨F, hF⟩ : ∃ F, Hid (bestV l = F) := ⟨_, rfl⟩
  rw [hF.out] at hB ⊢
  clear ha hF hc
  go_enter Try.func16, Try.ntmps16
  go_wp2_with fail
  go_loopw [3, 4, 5] (fun s3 s4 s5 wn => ∃ k : Nat, k ≤ 5 ∧ s3 = .int .i64 (bT l k).1 ∧ s4 = .int .i64 (bT l k).2 ∧ s5 = .int .i64 k ∧ Kp [] w wn) (fun _ _ s5 _ => 5 - (intOf s5).toNat)
  case atStart => exact ⟨0, by omega, rfl, rfl, rfl, Kp.refl _ _⟩
  case round =>
    obtain ⟨k, hk, rfl, rfl, rfl, kn⟩ := hrel
    have hst : Hid (bT l (k + 1) = if refE k l = 0 ∧ ((bT l k).2 < 0 ∨ ((encR k l).length : Int) < (bT l k).2) then ((k : Int), ((encR k l).length : Int)) else bT l k) := rfl
    obtain ⟨⟨B1, B2⟩, hBT⟩ : ∃ p, Hid (bT l k = p) := ⟨_, rfl⟩
    by_cases hlt : k < 5
    · rw [hBT.out] at hst ⊢
      have cE := hE.out (k : Int) wr kn
      unfold EncP at cE
      obtain ⟨E, hEE⟩ : ∃ E, Hid (refE k l = E) := ⟨_, rfl⟩
      obtain ⟨R, hRR⟩ : ∃ R, Hid (encR k l = R) := ⟨_, rfl⟩
      rw [hEE.out, hRR.out] at hst
      rw [hEE.out, hRR.out] at cE
      dsimp only at hst ⊢
      have hk4 : (k : Int) < 5 := by omega
      go_wp2_with fail
      refine cE.mono ?_
      rintro e w3 ⟨b3, c3, rfl, hrow3, k3, hn3⟩
      have k3' := kn.trans k3 (by simp)
      clear hrow3 hn3 cE k3
      by_cases h0 : E = 0
      · subst h0
        by_cases h1 : B2 < 0
        · have hst2 : Hid (bT l (k + 1) = ((k : Int), (R.length : Int))) := by show _ = _; rw [hst.out, if_pos ⟨rfl, .inl h1⟩]
          clear hst
          go_wp2_with fail
          exact ⟨⟨k + 1, by omega, by rw [hst2.out], by rw [hst2.out], by go_num, k3'⟩, by simp [intOf]; omega⟩
        · by_cases h2 : (R.length : Int) < B2
          · have hst2 : Hid (bT l (k + 1) = ((k : Int), (R.length : Int))) := by show _ = _; rw [hst.out, if_pos ⟨rfl, .inr h2⟩]
            clear hst
            go_wp2_with fail
            exact ⟨⟨k + 1, by omega, by rw [hst2.out], by rw [hst2.out], by go_num, k3'⟩, by simp [intOf]; omega⟩
          · have hst2 : Hid (bT l (k + 1) = (B1, B2)) := by
              show _ = _
              rw [hst.out, if_neg]
              rintro ⟨_, h | h⟩ <;> omega
            clear hst
            go_wp2_with fail
            exact ⟨⟨k + 1, by omega, by rw [hst2.out], by rw [hst2.out], by go_num, k3'⟩, by simp [intOf]; omega⟩
      · have hst2 : Hid (bT l (k + 1) = (B1, B2)) := by
          show _ = _
          rw [hst.out, if_neg (fun h => h0 h.1)]
        have d1 : (E == 0) = false := by simpa using h0
        clear hst
        go_wp2_with fail
        exact ⟨⟨k + 1, by omega, by rw [hst2.out], by rw [hst2.out], by go_num, k3'⟩, by simp [intOf]; omega⟩
    · obtain rfl : k = 5 := by omega
      rw [← hB.out]
      clear hst hBT
      go_wp2_with fail
      go_ret
      exact ⟨rfl, kn⟩
theorem ref_bad {l : List Val} (h : refE 0 l ≠ 0) (k : Int) : refE k l ≠ 0 := by
  unfold refE at h ⊢
  have e0 : knownB 0 = true := rfl
  have e1 : ofI 0 = false := rfl
  rw [e0, e1] at h
  simp only [Bool.true_eq_false, if_false, Bool.false_and] at h
  split
  · decide
  · split
    · decide
    · rename_i h2
      rw [if_neg h2] at h
      split
      · decide
      · rename_i h3
        rw [if_neg h3] at h
        simp at h
theorem bT_ok {l : List Val} (h : refE 0 l = 0) : ∀ k, refE (bT l (k + 1)).1 l = 0 ∧ (bT l (k + 1)).2 = ((encR (bT l (k + 1)).1 l).length : Int) ∧ (bT l (k + 1)).2 ≤ ((encR 0 l).length : Int)
  | 0 => by
    have e : bT l 1 = (0, ((encR 0 l).length : Int)) := by rw [bT, if_pos ⟨h, .inl (show (-1 : Int) < 0 by decide)⟩]; rfl
    rw [e]
    exact ⟨h, rfl, Int.le_refl _⟩
  | k + 1 => by
    obtain ⟨h1, h2, h3⟩ := bT_ok h k
    rw [bT]
    split
    · rename_i hc
      refine ⟨hc.1, rfl, ?_⟩
      rcases hc.2 with h4 | h4
      · omega
      · show ((encR ((k + 1 : Nat) : Int) l).length : Int) ≤ _
        omega
    · exact ⟨h1, h2, h3⟩
theorem bT_bad {l : List Val} (h : refE 0 l ≠ 0) : ∀ k, bT l k = (0, -1)
  | 0 => rfl
  | k + 1 => by rw [bT, if_neg (fun hc => ref_bad h _ hc.1)]; exact bT_bad h k
theorem best_ok (l : List Val) : refE (bestV l) l = refE 0 l ∧ (encR (bestV l) l).length ≤ (encR 0 l).length := by
  by_cases h : refE 0 l = 0
  · obtain ⟨h1, h2, h3⟩ := bT_ok h 4
    refine ⟨by rw [h]; exact h1, ?_⟩
    have h2' : (bT l 5).2 = ((encR (bestV l) l).length : Int) := h2
    have h3' : (bT l 5).2 ≤ ((encR 0 l).length : Int) := h3
    omega
  · have e : bestV l = 0 := by unfold bestV; rw [bT_bad h 5]
    rw [e]
    exact ⟨rfl, Nat.le_refl _⟩
theorem bT_min {l : List Val} : ∀ (n j : Nat), j < n → refE j l = 0 → 0 ≤ (bT l n).2 ∧ (bT l n).2 ≤ ((encR j l).length : Int)
  | 0, j, h, _ => by omega
  | n + 1, j, h, hr => by
    rw [bT]
    by_cases e : j = n
    · subst e
      split
      · exact ⟨Int.natCast_nonneg _, Int.le_refl _⟩
      · rename_i hc
        have : ¬ ((bT l j).2 < 0 ∨ ((encR j l).length : Int) < (bT l j).2) := fun h2 => hc ⟨hr, h2⟩
        omega
    · obtain ⟨h1, h2⟩ := bT_min n j (by omega) hr
      split
      · rename_i hc
        refine ⟨Int.natCast_nonneg _, ?_⟩
        rcases hc.2 with h3 | h3
        · omega
        · show ((encR (n : Int) l).length : Int) ≤ _
          omega
      · exact ⟨h1, h2⟩
theorem best_least (l : List Val) (j : Nat) (hj : j < 5) (hr : refE j l = 0) : refE (bestV l) l = 0 ∧ (encR (bestV l) l).length ≤ (encR j l).length := by
  have h0 : refE 0 l = 0 := by
    by_cases h : refE 0 l = 0
    · exact h
    · exact absurd hr (ref_bad h _)
  obtain ⟨h1, h2, _⟩ := bT_ok h0 4
  obtain ⟨h3, h4⟩ := bT_min 5 j hj hr
  refine ⟨h1, ?_⟩
  have h2' : (bT l 5).2 = ((encR (bestV l) l).length : Int) := h2
  omega
set_option maxHeartbeats 2000000 in
set_option maxRecDepth 100000 in
theorem cCopyV (a : Option Addr) (ca : Nat) (l : List Val) (w : World) (ha : Vals w a l) (hl : l.length ≤ 3600000000000) :
    Calls Try.prog 8 #[.slice a l.length ca] w fun e w' => ∃ a' c', e = .returned (.slice a' l.length c') ∧ VE.Row w' (.slice a' l.length c') l ∧ Kp [] w w' ∧ ∀ k ∈ blk a', w.heap.size ≤ k := by
  obtain ⟨i0, hi, hz0, hz1, hz2⟩ := infoV'
  obtain ⟨X1, hX1⟩ : ∃ X1, w.alloc (.cells #[] 41) = X1 := ⟨_, rfl⟩
  have kX1 : Kp [] w X1 := by rw [← hX1]; exact (Kp.refl _ _).alloc _
  have hr0 : VE.Row X1 (.slice (some ⟨w.heap.size, 0, none⟩) 0 0) [] := by rw [← hX1]; exact rowNoneV w rfl _ _
  have hsrc := (seeV.2 (ha.kept kX1)).src (P := Try.prog) Try.underlying22 ca
  obtain ⟨v5, X2, hrun1, hrow5, kk5, hn5⟩ := run_appendG (E := VE) (P := Try.prog) X1 22 22 22 41 i0 _ 40 Try.underlying22 hi hz0 hz1 hz2 rfl (.slice (some ⟨w.heap.size, 0, none⟩) 0 0) [] hr0 _ l hsrc (by simp; omega) (by simp; omega)
  rw [List.nil_append] at hrow5
  obtain ⟨a5, c5, rfl, _⟩ := hrow5.see
  rw [ownS] at kk5
  have hb1 : blk (some (⟨w.heap.size, 0, none⟩ : Addr)) = [w.heap.size] := rfl
  have kX2 : Kp [] w X2 := kX1.trans kk5 (fun q hq => .inr (by rw [hb1] at hq; simp at hq; omega))
  have hn5' : ∀ q ∈ blk a5, w.heap.size ≤ q := fun q hq => by
    rcases hn5 q (by rw [ownS]; exact hq) with h | h
    · rw [ownS, hb1] at h; simp at h; omega
    · have := kX1.size; omega
  have hrow' := hid hrow5
  clear ha hr0 hsrc hrow5 kk5 hn5
  go_enter Try.func8, Try.ntmps8
  go_wp2_with (first | (refine wpAppRun rfl _ _ 22 22 rfl _ _ _ rfl rfl hrun1 ?_) | fail)
  go_ret
  exact ⟨a5, c5, rfl, hrow'.out, kX2, hn5'⟩
theorem cCan (k : Int) (a : Option Addr) (ca : Nat) (l : List Val) (w : World) (ha : Vals w a l) (hl : l.length ≤ 9223372036854775807) :
    Calls Try.prog 12 #[.int .i64 k, .slice a l.length ca] w fun e w' => e = .returned (.bool (refE k l == 0)) ∧ Kp [] w w' := by
  have cR := cRefusedE k a ca l w ha hl
  obtain ⟨E, hE⟩ : ∃ E, Hid (refE k l = E) := ⟨_, rfl⟩
  rw [hE.out] at cR ⊢
  clear ha
  go_enter Try.func12, Try.ntmps12
  go_wp2_with fail
  refine cR.mono ?_
  rintro e w1 ⟨rfl, k1⟩
  go_wp2_with fail
  go_ret
  exact ⟨rfl, k1⟩
end Go.Proofs.Ytpekgpgfdiffcaa
end

section
namespace Go.Proofs.Ytpekgpgfdiffcaa
open Go.RowKit Go.Hay
set_option linter.unusedVariables false
set_option linter.unusedSimpArgs false

set_option maxHeartbeats 8000000 in
set_option maxRecDepth 100000 in
theorem walkWrites (k : Int) (a : Option Addr) (ca : Nat) (l : List Val) (w : World) (ha : Vals w a l) (hc : l.length ≤ ca) (hm : ca ≤ maxLen) (hl : l.length ≤ 3600000000000) :
    Calls Try.prog 3 #[.int .i64 k, .slice a l.length ca] w fun e w' => e = .returned (.bool true) ∧ Kp [] w w' := by
  have cC := cCopyV a ca l w ha hl
  have hE : Hid (∀ W (b : Option Addr) (c : Nat), Vals W b l → l.length ≤ c → c ≤ maxLen → Calls Try.prog 9 #[.int .i64 k, .slice b l.length c] W (EncP k l W)) := fun W b c hv h1 h2 => cEncE k b c l W hv h1 h2
  have hR : Hid (∀ W, Kp [] w W → Calls Try.prog 10 #[.int .i64 k, .slice a l.length ca] W (EncP k l W)) := fun W kW => cRefEnc6 k a ca l W (ha.kept kW) (by omega)
  have hCan : Hid (∀ W, Kp [] w W → Calls Try.prog 12 #[.int .i64 k, .slice a l.length ca] W fun e w' => e = .returned (.bool (refE k l == 0)) ∧ Kp [] W w') := fun W kW => cCan k a ca l W (ha.kept kW) (by omega)
  have hla := hid (fun W (kW : Kp [] w W) => ha.kept kW)
  unfold EncP at hE hR
  obtain ⟨E, hEE⟩ : ∃ E, Hid (refE k l = E) := ⟨_, rfl⟩
  obtain ⟨R, hRR⟩ : ∃ R, Hid (encR k l = R) := ⟨_, rfl⟩
  simp only [hEE.out, hRR.out] at hE hR
  simp only [hEE.out] at hCan
  obtain ⟨B, hB⟩ : ∃ B, Hid ((E == 0) = B) := ⟨_, rfl⟩
  simp only [hB.out] at hCan
  have hBe : (E == 0) = B := hB.out
  have hEE2 : (E == E) = true := by simp
  have hBB : (B == B) = true := by simp
  clear ha hEE hRR hB hc
  go_enter Try.func3, Try.ntmps3
  go_wp2_with fail
  refine cC.mono ?_
  rintro e w1 ⟨a1, c1, rfl, hrow1, k1, hn1⟩
  obtain ⟨hv1, hl1, hm1⟩ := rowVals hrow1
  have cE := hE.out w1 a1 c1 hv1 hl1 hm1
  have hv1' := hid hv1
  clear cC hrow1 hn1 hE hv1
  go_wp2_with fail
  refine cE.mono ?_
  rintro e w2 ⟨b2, c2, rfl, hrow2, k2, hn2⟩
  have k12 := k1.trans k2 (by simp)
  have cR := hR.out w2 k12
  obtain ⟨hs2, _, _⟩ := rowSee hrow2
  have hs2' := hid hs2
  clear cE hrow2 hn2 hR hs2
  go_wp2_with fail
  refine cR.mono ?_
  rintro e w3 ⟨b3, c3, rfl, hrow3, k3, hn3⟩
  have k13 := k12.trans k3 (by simp)
  obtain ⟨hs3, _, _⟩ := rowSee hrow3
  have hs3' := hid hs3
  clear cR hrow3 hn3 hs3
  go_wp2_with fail
  refine (cAlive _).mono ?_
  rintro e w4 ⟨rfl, k4⟩
  have k14 := k13.trans k4 (by simp)
  have cv1 := convSees ((hs2'.out.kept k3 (by simp)).kept k4 (by simp)) c2
  have cv2 := convSees (hs3'.out.kept k4 (by simp)) c3
  have cN := hCan.out w4 k14
  clear hs2' hs3' hCan
  go_wp2_with fail
  refine cN.mono ?_
  rintro e w5 ⟨rfl, k5⟩
  have k15 := k14.trans k5 (by simp)
  have cS := cSame a1 a c1 ca l l w5 (hv1'.out.kept (((k2.trans k3 (by simp)).trans k4 (by simp)).trans k5 (by simp))) (hla.out w5 k15) (by omega) (by omega)
  rw [sameV_self] at cS
  clear cN hv1' hla cv1 cv2
  go_wp2_with fail
  refine cS.mono ?_
  rintro e w6 ⟨rfl, k6⟩
  go_wp2_with fail
  go_ret
  exact ⟨by simp, k15.trans k6 (by simp)⟩
theorem encWritesWalk (k : Int) (a : Option Addr) (len ca : Nat) (l : List Val) (w : World) (hs : Vals w a l) (hlen : len = l.length) (hl : l.length ≤ ca) (hm : ca ≤ maxLen) (hr : len * 40 ≤ 140737488351232) :
    Calls Try.prog 3 #[.int .i64 k, .slice a len ca] w fun e w' => e = .returned (.bool true) ∧ Below w.heap.size w w' := by
  subst hlen
  exact (walkWrites k a ca l w hs hl hm (by omega)).mono fun e w' ⟨h1, h2⟩ => ⟨h1, h2.below⟩
end Go.Proofs.Ytpekgpgfdiffcaa
end

section
namespace Go.Proofs.Ytpekgpgfdiffcaa
open Go.ChangeShapes Go.WideShapes Go.ChangeAt Go.RowKit Go.Hay
set_option linter.unusedVariables false

theorem Try.own : ownKnob Try.prog.godebug = none := by kernel_rfl
theorem Try.laidOut : laidOutB Try.prog = true := by kernel_rfl
theorem Try.bytesB : Try.prog.bytesOf 5 = 1 := by kernel_rfl
theorem Try.cellsB : Try.prog.cellsOf 5 = 1 := by kernel_rfl

/-- How many values a slice's datum holds, its spare places too. -/
def capD {H : Type} : DataW H → Nat
  | .slice e sp => e.length + sp.length
  | _ => 0

theorem openBytes {H : Type} {enc : TypeId × Value → H} {W : World} {a : Option Addr} {len cap : Nat} {d : DataW H} {ps : List MemPlace}
    (h : DataW.Trod enc Try.prog W 0 (fun _ => true) true 24 (.slice a len cap) d ps) : ∃ bs : List UInt8, len = bs.length ∧ Sees W a bs ∧ bs.length ≤ cap ∧ cap ≤ maxLen ∧ capD d = cap := by
  obtain ⟨fuel, hf⟩ := h
  rcases open_ints Try.underlying24 Try.underlying5 Try.cellsB hf with ⟨hcs, hx⟩ | ⟨x, l, c, zs, hcs, _, hl, hm, hz, hx, hcell, hwz⟩
  · simp [Value.cells] at hcs
    obtain ⟨rfl, rfl, rfl⟩ := hcs
    cases hx
    exact ⟨[], rfl, Sees.nil _ _, Nat.le_refl _, Nat.zero_le _, rfl⟩
  · simp [Value.cells] at hcs
    obtain ⟨rfl, rfl, rfl⟩ := hcs
    cases hx
    have hz' : zs.length = cap := by simpa using hz
    refine ⟨(zs.take len).map octet, by simp; omega, ?_, by simp; omega, hm, by simp [capD, lits]; omega⟩
    cases hlen : len with
    | zero => exact .inl (by simp)
    | succ n =>
      obtain ⟨b, off, spot⟩ := x
      have hc0 := hcell 0 (by omega)
      have hspot : spot = none := by simpa [Addr.add] using World.cell?_spot hc0
      subst hspot
      refine .inr ⟨b, off, rfl, fun j u hu => ?_⟩
      rw [List.getElem?_map, List.getElem?_take] at hu
      split at hu
      · rename_i hj
        have hjz : j < zs.length := by omega
        have hc := hcell j hjz
        rw [List.getElem?_eq_getElem hjz] at hu
        cases hu
        have hw := hwz zs[j] (List.getElem_mem hjz)
        have hbd := bounds_u8 hw
        rw [octet_toNat _ hbd.1 hbd.2, ← Addr.add_lit, hc]
        simp [List.getD, List.getElem?_eq_getElem hjz]
      · cases hu

/-- The form's own reach, of a slice of bytes among the arguments. -/
theorem reachBytesOf {H : Type} {d : DataW H} (h : (DataW.weights Try.prog 24 d).all (· ≤ reachBytes) = true) : capD d ≤ 140737488351232 := by
  cases d with
  | slice e sp =>
    have h2 : (e.length + sp.length) * Try.prog.bytesOf 5 ≤ reachBytes := of_decide_eq_true (List.all_eq_true.1 h ((e.length + sp.length) * Try.prog.bytesOf 5) (by simp [DataW.weights, Try.underlying24]))
    rw [Try.bytesB] at h2
    simp only [reachBytes] at h2
    simp only [capD]
    omega
  | _ => simp [capD]
theorem cellsV : Try.prog.cellsOf 41 = 4 := by kernel_rfl
theorem cellsI : Try.prog.cellsOf 3 = 1 := by kernel_rfl
theorem cellsB : Try.prog.cellsOf 4 = 1 := by kernel_rfl
theorem cellsL : Try.prog.cellsOf 2 = 1 := by kernel_rfl
theorem cellsS : Try.prog.cellsOf 9 = 1 := by kernel_rfl

/-- What an int64's bounds and a string's length are. -/
def Val.ok (x : Val) : Prop := (-9223372036854775808 ≤ x.k ∧ x.k ≤ 9223372036854775807) ∧ (-9223372036854775808 ≤ x.n ∧ x.n ≤ 9223372036854775807) ∧ x.t.size ≤ maxLen

theorem openVal4 {H : Type} {enc : TypeId × Value → H} {W : World} {fuel : Nat} {c0 c1 c2 c3 : Value} {x : DataW H × List MemPlace} (h : DataW.trod enc Try.prog W 0 (fun _ => true) true fuel 41 [c0, c1, c2, c3] = some x) :
    ∃ t : Val, t.ok ∧ c0 = .int .i64 t.k ∧ c1 = .bool t.b ∧ c2 = .int .i64 t.n ∧ c3 = .string t.t := by
  obtain ⟨xs, n, _, rfl, _, hlen, hf⟩ := DataW.trod_struct Try.underlying41 h
  match xs, hlen with
  | [y0, y1, y2, y3], _ =>
    have h0 := hf 0 _ rfl
    have h1 := hf 1 _ rfl
    have h2 := hf 2 _ rfl
    have h3 := hf 3 _ rfl
    simp [cellsI, cellsB, cellsL, cellsS] at h0 h1 h2 h3
    obtain ⟨k, e0, _, w0⟩ := DataW.trod_int Try.underlying3 h0
    obtain ⟨b, e1, _⟩ := DataW.trod_bool Try.underlying4 h1
    obtain ⟨n2, e2, _, w2⟩ := DataW.trod_int Try.underlying2 h2
    obtain ⟨s, e3, _, w3⟩ := DataW.trod_string Try.underlying9 h3
    simp at e0 e1 e2 e3
    exact ⟨⟨k, b, n2, s⟩, ⟨bounds_i64 w0, bounds_i64 w2, w3⟩, e0, e1, e2, e3⟩

set_option maxRecDepth 100000 in
theorem openVal {H : Type} {enc : TypeId × Value → H} {W : World} {base : Nat} {v : Value} {d : DataW H} {ps : List MemPlace} (hv : Value.okWide Try.prog W .any base 41 v)
    (h : DataW.Trod enc Try.prog W 0 (fun _ => true) true 41 v d ps) : ∃ x : Val, v = x.v ∧ x.ok := by
  obtain ⟨cs, rfl, hsz⟩ := okWide_struct Try.underlying41 hv
  rw [cellsV] at hsz
  obtain ⟨fuel, hf⟩ := h
  obtain ⟨l⟩ := cs
  match l, hsz, hf with
  | [c0, c1, c2, c3], _, hf =>
    obtain ⟨t, ok, e0, e1, e2, e3⟩ := openVal4 (c0 := c0) (c1 := c1) (c2 := c2) (c3 := c3) hf
    subst e0 e1 e2 e3
    exact ⟨t, rfl, ok⟩

theorem openVals {H : Type} {enc : TypeId × Value → H} {W : World} {a : Option Addr} {len cap : Nat} {d : DataW H} {ps : List MemPlace}
    (h : DataW.Trod enc Try.prog W 0 (fun _ => true) true 22 (.slice a len cap) d ps) : ∃ l : List Val, len = l.length ∧ Vals W a l ∧ l.length ≤ cap ∧ cap ≤ maxLen ∧ ∀ x ∈ l, x.ok := by
  obtain ⟨fuel, hf⟩ := h
  rcases Go.Deep.open_slice Try.underlying22 hf with ⟨hcs, hx⟩ | ⟨x, len', cap', m, n, D, Pl, hcs, _, hl, hmx, hm, hx, hcell⟩
  · simp [Value.cells] at hcs
    obtain ⟨rfl, rfl, rfl⟩ := hcs
    cases hx
    exact ⟨[], rfl, .inl rfl, Nat.le_refl _, Nat.zero_le _, by simp⟩
  · simp [Value.cells] at hcs
    obtain ⟨rfl, rfl, rfl⟩ := hcs
    cases hx
    have hm' : m = cap := by simpa using hm
    subst hm'
    rw [cellsV] at hcell
    have : Inhabited Val := ⟨⟨0, false, 0, ⟨#[]⟩⟩⟩
    obtain ⟨B, hB⟩ := Go.Deep.choose_lt (α := Val) (n := len) (p := fun i t => t.ok ∧ W.cell? (x.add (i * 4)) = some (.int .i64 t.k) ∧ W.cell? ((x.add (i * 4)).add 1) = some (.bool t.b) ∧ W.cell? ((x.add (i * 4)).add 2) = some (.int .i64 t.n) ∧ W.cell? ((x.add (i * 4)).add 3) = some (.string t.t)) (fun i hi => by
      obtain ⟨cs', h1, h2⟩ := hcell i (by omega)
      obtain ⟨_, hlen, hc⟩ := World.cells?_some h1
      match cs', hlen with
      | [c0, c1, c2, c3], _ =>
        obtain ⟨t, g1, e0, e1, e2, e3⟩ := openVal4 h2
        have q0 := hc 0 (by omega)
        have q1 := hc 1 (by omega)
        have q2 := hc 2 (by omega)
        have q3 := hc 3 (by omega)
        simp at q0 q1 q2 q3
        subst e0 e1 e2 e3
        exact ⟨t, g1, by simpa [Addr.add] using q0, q1, q2, q3⟩)
    refine ⟨(List.range len).map B, by simp, ?_, by simpa using hl, hmx, ?_⟩
    · cases hlen : len with
      | zero => exact .inl rfl
      | succ k =>
        obtain ⟨b, off, spot⟩ := x
        have hc0 := (hB 0 (by omega)).2.1
        have hspot : spot = none := by simpa [Addr.add] using World.cell?_spot hc0
        subst hspot
        refine .inr ⟨b, off, rfl, fun j y hy => ?_⟩
        rw [← hlen] at hy
        have hj : j < len := by have := (List.getElem?_eq_some_iff.1 hy).1; simpa using this
        rw [List.getElem?_map, List.getElem?_range hj] at hy
        cases hy
        obtain ⟨g1, q0, q1, q2, q3⟩ := hB j hj
        rw [Addr.add_lit] at q0
        rw [Addr.add_lit, Addr.add_lit] at q1 q2 q3
        exact ⟨q0, q1, q2, q3⟩
    · intro y hy
      obtain ⟨i, hi, rfl⟩ := List.mem_map.1 hy
      exact (hB i (List.mem_range.1 hi)).1
end Go.Proofs.Ytpekgpgfdiffcaa
end

section
namespace Go.Proofs.Ytpekgpgfdiffcaa
open Go.ChangeShapes Go.WideShapes Go.ChangeAt Go.RowKit Go.Hay
set_option linter.unusedVariables false

/-- A nil slice has no room. -/
theorem nilVals {H : Type} {enc : TypeId × Value → H} {W : World} {a : Option Addr} {len cap : Nat} {d : DataW H} {ps : List MemPlace}
    (h : DataW.Trod enc Try.prog W 0 (fun _ => true) true 22 (.slice a len cap) d ps) : a = none → cap = 0 := by
  obtain ⟨fuel, hf⟩ := h
  rcases Go.Deep.open_slice Try.underlying22 hf with ⟨hcs, hx⟩ | ⟨x, len', cap', m, n, D, Pl, hcs, _, hl, hmx, hm, hx, hcell⟩
  · simp [Value.cells] at hcs
    intro _
    exact hcs.2.2
  · simp [Value.cells] at hcs
    intro h
    rw [h] at hcs
    cases hcs.1
theorem bytesV : Try.prog.bytesOf 41 = 40 := by kernel_rfl
/-- The form's own reach, of a slice of values among the arguments. -/
theorem reachVals {H : Type} {enc : TypeId × Value → H} {W : World} {a : Option Addr} {len cap : Nat} {d : DataW H} {ps : List MemPlace}
    (h : DataW.Trod enc Try.prog W 0 (fun _ => true) true 22 (.slice a len cap) d ps) (hr : (DataW.weights Try.prog 22 d).all (· ≤ reachBytes) = true) : len * 40 ≤ 140737488351232 := by
  obtain ⟨fuel, hf⟩ := h
  rcases Go.Deep.open_slice Try.underlying22 hf with ⟨hcs, hx⟩ | ⟨x, len', cap', m, n, D, Pl, hcs, _, hl, hmx, hm, hx, hcell⟩
  · simp [Value.cells] at hcs
    obtain ⟨rfl, rfl, rfl⟩ := hcs
    omega
  · simp [Value.cells] at hcs
    obtain ⟨rfl, rfl, rfl⟩ := hcs
    cases hx
    have h2 := of_decide_eq_true (List.all_eq_true.1 hr ((((List.range len).map D).length + ((List.range' len (m - len)).map D).length) * Try.prog.bytesOf 41) (by simp [DataW.weights, Try.underlying22]))
    rw [bytesV] at h2
    simp [reachBytes] at h2
    omega

end Go.Proofs.Ytpekgpgfdiffcaa
end

section
namespace Go.Proofs.Ytpekgpgfdiffcaa
open Go.ChangeShapes Go.WideShapes Go.ChangeAt Go.RowKit Go.Hay
set_option linter.unusedVariables false

set_option maxRecDepth 100000 in
theorem encodeWritesContract (H : Type) (enc : TypeId × Value → H) (W : World) (base : Nat) (args : Array Value) (ds gs : List (DataW H)) (before : List MemPlace)
    (hval : ∀ (j : Nat) t v, Try.f3.params[j]? = some t → args[j]? = some v → Value.okWide Try.prog W .any base t v)
    (hW : DataW.Whole enc Try.prog Try.f3.params.toList Rows.encodeWritesSpec.vars false W args.toList ds gs before)
    (hsz : (DataW.weightsEach Try.prog (Try.f3.params.toList ++ (OpenSpec.ofChange Rows.encodeWritesSpec).bare.plain.varTypes Try.prog) (ds ++ gs)).all (· ≤ reachBytes) = true) :
    Calls Try.prog 3 args W fun e W' => ∃ v, e = .returned v ∧ Rows.encodeWritesSpec.post enc Try.prog Try.f3 false true false false W args v W' := by
  have hW' := hW
  obtain ⟨p, q, hA0, hV, rfl, hfz, hnd⟩ := hW
  have hA : DataW.TrodAll enc Try.prog W 0 (fun _ => true) true Try.f3.params.toList args.toList ds p := hA0
  rw [Try.params3] at hA hval hsz
  obtain ⟨v0, vs0, d0, ds0, p0, q0, hargs, rfl, rfl, h0, r0⟩ := trodAll_cons hA
  obtain ⟨v1, vs1, d1, ds1, p1, q1, rfl, rfl, rfl, h1, r1⟩ := trodAll_cons r0
  obtain ⟨rfl, rfl, rfl⟩ := trodAll_nil r1
  obtain rfl : args = #[v0, v1] := by cases args; simp_all
  obtain ⟨rfl, rfl⟩ := trodVars_none hV
  obtain ⟨a0, rfl, rfl, rfl, w0⟩ := open_int Try.underlying3 (hval 0 3 v0 rfl rfl) h0
  have hb0 := bounds_i64 w0
  obtain ⟨a1, len1, cap1, rfl⟩ := okWide_slice Try.underlying22 (hval 1 22 v1 rfl rfl)
  have k1 := h1
  have lt1 : ∀ x ∈ p1, x.block < W.heap.size := by obtain ⟨m, hm⟩ := k1; exact DataW.trod_lt m _ _ _ hm
  obtain ⟨l1, hlen1, hs1, hl1, hm1, hok1⟩ := openVals h1
  have hnil1 := nilVals k1
  have hr1 := reachVals k1 (List.all_eq_true.2 fun x hx => List.all_eq_true.1 hsz x (by simp [DataW.weightsEach]; first | exact .inl hx | exact .inr hx | exact .inr (.inl hx) | exact .inr (.inr hx) | exact hx))
  clear hA0
  refine (encWritesWalk a0 a1 len1 cap1 l1 W hs1 hlen1 hl1 hm1 hr1).mono fun e W' ⟨he, bel⟩ => ?_
  subst he
  exact ⟨_, rfl, _, _, _, [], _, [], hW', trodAll_mk1 (shut_bool Try.underlying4 _), (trodAll_cons_mk (shut_int Try.underlying3 w0) (trodAll_cons_mk (Below.trod Try.laidOut (by kernel_rfl) (of_decide_eq_true (by kernel_rfl)) k1 bel lt1) trodAll_mk0)), rfl, bel.frame _, fun h => by cases h⟩

set_option maxRecDepth 100000 in
theorem encodeWritesLifted (os : Os) (started : os.Started) (H : Type) (enc : TypeId × Value → H) :
    ReturnsInHanded {} Try.checked os 3 .any (Rows.encodeWritesSpec.pre6 enc Try.prog Try.f3 Rows.encodeWritesRow.domain false) (Rows.encodeWritesSpec.post enc Try.prog Try.f3 false true false false) := by
  refine returnsInHanded_of_change_sized (C := Try.checked) Try.own started (by kernel_rfl) Try.func3
    (ChangeSpec.witness6 (enc := enc) (C := Try.checked) false ⟨#[], #[.int .i64 0, .slice none 0 0], []⟩ 8 (by kernel_rfl) (by kernel_rfl) (by kernel_rfl) (by kernel_rfl)) ?_
  intro W base args ds gs before hval hW _ hsz _
  exact encodeWritesContract H enc W base args ds gs before hval hW hsz

theorem EncodeWrites_holds : Rows.EncodeWritesSaid :=
  OpenClaim.holds_of_wide 3 Try.f3 rfl rfl rfl rfl rfl rfl rfl ⟨rfl, rfl, rfl, rfl, rfl⟩ rfl rfl rfl rfl rfl (by kernel_rfl) Try.func3 (by kernel_rfl)
    (of_decide_eq_true (by kernel_rfl)) (by unfold Func.isWrapper; first | (rw [if_pos (by decide +kernel)]; kernel_rfl) | (rw [if_neg (by decide +kernel)]; exact ⟨rfl, rfl⟩))
    (fun os started H enc _ => encodeWritesLifted os started H enc)

#print axioms EncodeWrites_holds
end Go.Proofs.Ytpekgpgfdiffcaa
end

/- Runs are the document's, and give back all values in order. -/
import Derived.Test.YtpekgpgfdiffcaaB4
import Derived.Deep.RegionHeld3
import Derived.Test.YtpekgpgfdiffcaaB5
import Derived.Test.YtpekgpgfdiffcaaB7
import Derived.Test.YtpekgpgfdiffcaaB2
import Derived.Lib.Strings
import Derived.Test.YtpekgpgfdiffcaaB8
import Derived.Test.YtpekgpgfdiffcaaB1
import Derived.ProofKit
import Derived.OpenShut
import Derived.ShutString
import Derived.ChangeOld
import Derived.ChangeArms
import Derived.Below
import Derived.Deep.Slices
import Derived.Deep.DeepHandedRow
import Derived.SizedLaws
import Derived.JoinedCond
import Derived.Deep.CondSized
section
namespace Go.Proofs.Ytpekgpgfdiffcaa
open Go.RowKit Go.Hay
set_option linter.unusedVariables false
set_option linter.unusedSimpArgs false

theorem runsV_last (x : Val) : ∀ l, ∃ R m, runsV (l ++ [x]) = R ++ [⟨m, x⟩]
  | [] => ⟨[], 1, rfl⟩
  | z :: l => by
    obtain ⟨R, m, h⟩ := runsV_last x l
    rw [List.cons_append, runsV, h]
    cases R with
    | nil =>
      simp only [List.nil_append]
      split
      · exact ⟨[], m + 1, rfl⟩
      · exact ⟨[⟨1, z⟩], m, rfl⟩
    | cons r R =>
      simp only [List.cons_append]
      split
      · exact ⟨⟨r.m + 1, r.v⟩ :: R, m, rfl⟩
      · exact ⟨⟨1, z⟩ :: r :: R, m, rfl⟩
theorem runsV_none {l : List Val} (h : runsV l = []) : l = [] := by
  cases l with
  | nil => rfl
  | cons a l => obtain ⟨k, rs, e⟩ := runsV_head a l; rw [e] at h; cases h
theorem runsV_snoc (x y : Val) : ∀ (l : List Val) (R : List Rn) (m : Nat), runsV l = R ++ [⟨m, y⟩] → runsV (l ++ [x]) = if x.eqv y = true then R ++ [⟨m + 1, y⟩] else R ++ [⟨m, y⟩, ⟨1, x⟩]
  | [], R, m, h => by simp [runsV] at h
  | z :: l, R, m, h => by
    rw [runsV] at h
    rw [List.cons_append, runsV]
    cases hl : runsV l with
    | nil =>
      have e := runsV_none hl
      subst e
      rw [hl] at h
      cases R with
      | nil =>
        simp only [List.nil_append, List.cons.injEq, Rn.mk.injEq, and_true] at h
        obtain ⟨rfl, rfl⟩ := h
        simp only [List.nil_append, runsV]
        by_cases hx : x.eqv z = true
        · have := eqv_iff.1 hx; subst this; simp [eqv_self]
        · have : ¬ z.eqv x = true := fun h => hx (by rw [eqv_iff.1 h]; exact eqv_self _)
          rw [if_neg hx, if_neg this]
      | cons r R => simp at h
    | cons r rs =>
      rw [hl] at h
      simp only at h
      by_cases hz : z.eqv r.v = true
      · rw [if_pos hz] at h
        cases R with
        | nil =>
          simp only [List.nil_append, List.cons.injEq, Rn.mk.injEq] at h
          obtain ⟨⟨rfl, rfl⟩, rfl⟩ := h
          rw [runsV_snoc x r.v l [] r.m (by rw [hl]; rfl)]
          by_cases hx : x.eqv r.v = true
          · simp [hx, hz]
          · simp [hx, hz]
        | cons r' R' =>
          simp only [List.cons_append, List.cons.injEq] at h
          obtain ⟨rfl, rfl⟩ := h
          rw [runsV_snoc x y l (r :: R') m (by rw [hl]; rfl)]
          by_cases hx : x.eqv y = true
          · simp [hx, hz]
          · simp [hx, hz]
      · rw [if_neg hz] at h
        cases R with
        | nil => simp at h
        | cons r' R' =>
          simp only [List.cons_append, List.cons.injEq] at h
          obtain ⟨rfl, h⟩ := h
          rw [runsV_snoc x y l R' m (by rw [hl]; exact h)]
          cases R' with
          | nil =>
            simp only [List.nil_append, List.cons.injEq] at h
            obtain ⟨rfl, rfl⟩ := h
            by_cases hx : x.eqv y = true
            · simp [hx, hz]
            · simp [hx, hz]
          | cons q Q =>
            simp only [List.cons_append, List.cons.injEq] at h
            obtain ⟨rfl, rfl⟩ := h
            by_cases hx : x.eqv y = true
            · simp [hx, hz]
            · simp [hx, hz]
theorem infoRr : ∃ i : TypeInfo, Try.prog.info? 44 = some i ∧ i.zero = some (.agg #[.int .i64 0, .int .i64 0, .bool false, .int .i64 0, .string ⟨#[]⟩]) ∧ i.size = 5 ∧ i.bytes = 48 := info4 (by kernel_rfl)
theorem rowNoneR (w : World) {q : Nat} (hq : w.heap.size = q) (C : Array Value) (t : TypeId) : RunE.Row (w.alloc (.cells C t)) (.slice (some ⟨q, 0, none⟩) 0 0) [] := by
  subst hq
  exact .inr ⟨w.heap.size, 0, 0, rfl, Nat.le_refl _, by decide, by simp, fun j u hu => by simp [El.cs] at hu, fun j hj => absurd hj (by simp)⟩
/-- How the reference's loop stands. -/
structure RfI (l : List Val) (w wn : World) (ra : Option Addr) (rc j : Nat) (R : List Rn) : Prop where
  row : RunE.Row wn (.slice ra R.length rc) R
  new : ∀ k ∈ blk ra, w.heap.size ≤ k
  kp : Kp [] w wn
  runs : Hid (runsV (l.take j) = R)
theorem RfI.len {l : List Val} {w wn : World} {ra : Option Addr} {rc j : Nat} {R : List Rn} (h : RfI l w wn ra rc j R) : R.length ≤ j := by
  rw [← h.runs.out]
  have := runsV_len (l.take j)
  simp at this
  omega
theorem RfI.keep {l : List Val} {w wn w' : World} {ra : Option Addr} {rc j : Nat} {R : List Rn} (h : RfI l w wn ra rc j R) (k : Kp [] wn w') : RfI l w w' ra rc j R :=
  ⟨h.row.keptNew k, h.new, h.kp.trans k (by simp), h.runs⟩
theorem take_snoc (l : List Val) (j : Nat) (h : j < l.length) : l.take (j + 1) = l.take j ++ [l[j]] := List.take_succ_eq_append_getElem h
/-- What the runs of one value more are. -/
theorem runs_next (l : List Val) (j : Nat) (h : j < l.length) (X : Bool) (hX : j = 0 ∨ ∃ hj : j - 1 < l.length, X = l[j].eqv l[j - 1]) (h0 : j = 0 → X = false) : (X = false ∧ runsV (l.take (j + 1)) = runsV (l.take j) ++ [⟨1, l[j]⟩]) ∨ (X = true ∧ ∃ R m, runsV (l.take j) = R ++ [⟨m, l[j]⟩] ∧ runsV (l.take (j + 1)) = R ++ [⟨m + 1, l[j]⟩]) := by
  rw [take_snoc l j h]
  by_cases hj : j = 0
  · subst hj
    exact .inl ⟨h0 rfl, by simp [runsV]⟩
  · rcases hX with e | ⟨hj1, hX⟩
    · exact absurd e hj
    · obtain ⟨R, m, hR⟩ := runsV_last l[j - 1] (l.take (j - 1))
      rw [← take_snoc l (j - 1) hj1, show j - 1 + 1 = j by omega] at hR
      have hs := runsV_snoc l[j] l[j - 1] (l.take j) R m hR
      rw [← hX] at hs
      cases X with
      | false => exact .inl ⟨rfl, by rw [hs, hR]; simp⟩
      | true =>
        have e := eqv_iff.1 hX.symm
        exact .inr ⟨rfl, R, m, by rw [hR, e], by rw [hs, ← e]; simp⟩
end Go.Proofs.Ytpekgpgfdiffcaa
end

section
namespace Go.Proofs.Ytpekgpgfdiffcaa
open Go.RowKit Go.Hay
set_option linter.unusedVariables false
set_option linter.unusedSimpArgs false

set_option maxHeartbeats 8000000 in
set_option maxRecDepth 100000 in
theorem cRefRuns (a : Option Addr) (ca : Nat) (l : List Val) (w : World) (ha : Vals w a l) (hl : l.length ≤ 3600000000000) :
    Calls Try.prog 18 #[.slice a l.length ca] w (NR (runsV l) w) := by
  obtain ⟨i0, hi, hz0, hz1, hz2⟩ := infoRr
  have I0 : Hid (RfI l w w none 0 0 []) := ⟨.inl ⟨rfl, rfl⟩, by simp [blk], Kp.refl _ _, rfl⟩
  have ha' := hid ha
  clear ha
  obtain ⟨F, hF⟩ : ∃ F, Hid (runsV l = F) := ⟨_, rfl⟩
  rw [hF.out]
  go_enter Try.func18, Try.ntmps18
  go_wp2_with fail
  go_loopw [3, 4] (fun v3 i wn => ∃ (j : Nat) (ra : Option Addr) (rc : Nat) (R : List Rn), j ≤ l.length ∧ i = .int .i64 j ∧ v3 = .slice ra R.length rc ∧ RfI l w wn ra rc j R) (fun _ i _ => l.length - (intOf i).toNat)
  case atStart => exact ⟨0, none, 0, [], Nat.zero_le _, rfl, rfl, I0.out⟩
  case round =>
    clear I0
    obtain ⟨j, ra, rc, R, hj, rfl, rfl, I⟩ := hrel
    have hRl := I.len
    by_cases hlt : j < l.length
    · obtain ⟨g, o, rfl, a0, a1, a2, a3⟩ := (ha'.out.kept I.kp).at j hlt
      obtain ⟨y, hy⟩ : ∃ y, Hid (l[j]'hlt = y) := ⟨_, rfl⟩
      have hnx := hid (runs_next l j hlt)
      rw [hy.out] at a0 a1 a2 a3 hnx
      obtain ⟨yk, yb, yn, yt⟩ := y
      dsimp only at a0 a1 a2 a3
      have hplain : Hid (runsV (l.take (j + 1)) = R ++ [⟨1, ⟨yk, yb, yn, yt⟩⟩] → ∀ wq, Kp [] wr wq → Kp [] wq (wq.alloc (.cells #[.int .i64 1, .int .i64 yk, .bool yb, .int .i64 yn, .string yt] 44)) ∧ RunE.Row (wq.alloc (.cells #[.int .i64 1, .int .i64 yk, .bool yb, .int .i64 yn, .string yt] 44)) (.slice ra R.length rc) R ∧ Src Try.prog 5 38 (.slice (some ⟨wq.heap.size, 0, none⟩) 1 1) 1 (RunE.cs [⟨1, ⟨yk, yb, yn, yt⟩⟩]) (wq.alloc (.cells #[.int .i64 1, .int .i64 yk, .bool yb, .int .i64 yn, .string yt] 44)) ∧ ∀ ys a' c' w', Hid (ys = R ++ [⟨1, ⟨yk, yb, yn, yt⟩⟩]) → RunE.Row w' (.slice a' ys.length c') ys → Kp (own (.slice ra R.length rc)) (wq.alloc (.cells #[.int .i64 1, .int .i64 yk, .bool yb, .int .i64 yn, .string yt] 44)) w' → (∀ k ∈ blk a', k ∈ own (.slice ra R.length rc) ∨ (wq.alloc (.cells #[.int .i64 1, .int .i64 yk, .bool yb, .int .i64 yn, .string yt] 44)).heap.size ≤ k) → RfI l w w' a' c' (j + 1) ys) := fun hs wq kq => by
        have kc : Kp [] wq (wq.alloc (.cells #[.int .i64 1, .int .i64 yk, .bool yb, .int .i64 yn, .string yt] 44)) := (Kp.refl _ _).alloc _
        have hsee : RunE.See (wq.alloc (.cells #[.int .i64 1, .int .i64 yk, .bool yb, .int .i64 yn, .string yt] 44)) (some ⟨wq.heap.size, 0, none⟩) [⟨1, ⟨yk, yb, yn, yt⟩⟩] := runOne wq rfl ⟨1, ⟨yk, yb, yn, yt⟩⟩ _
        refine ⟨kc, (I.keep (kq.trans kc (by simp))).row, hsee.src (P := Try.prog) Try.underlying38 1, fun ys a' c' w' hy' hrow' hg' hn' => ?_⟩
        rw [ownS] at hg' hn'
        refine ⟨hrow', fun k hk => ?_, (I.kp.trans (kq.trans kc (by simp)) (by simp)).trans hg' (fun k hk => .inr (I.new k hk)), by show _ = _; rw [hy'.out, hs]⟩
        rcases hn' k hk with h1 | h1
        · exact I.new k h1
        · have := I.kp.size; have := kq.size; have := kc.size; omega
      by_cases hj0 : j = 0
      · subst hj0
        rw [Nat.zero_mul, Nat.add_zero] at a0 a1 a2 a3
        have hpl : Hid (runsV (l.take (0 + 1)) = R ++ [⟨1, ⟨yk, yb, yn, yt⟩⟩]) := by
          show _ = _
          rcases hnx.out false (.inl rfl) (fun _ => rfl) with ⟨_, h⟩ | ⟨h, _⟩
          · rw [h, I.runs.out]
          · cases h
        have hp2 := hplain.out hpl.out
        clear hplain hnx hpl I
        have kq0 : ∀ n, Kp [] wr (wr.drewN n) := fun n => (Kp.refl _ _).drewN n
        go_wp2_with fail
        go_quiet ((fail))
        obtain ⟨kc, hrowc, hsr, hnext⟩ := hp2 (wr.drewN nq) (kq0 nq)
        have hnx := hid hnext
        have a0' := kpAt (kq0 nq) a0; have a1' := kpAt (kq0 nq) a1; have a2' := kpAt (kq0 nq) a2; have a3' := kpAt (kq0 nq) a3
        generalize wr.drewN nq = wq at *
        clear a0 a1 a2 a3 hp2 hnext
        go_wp2_with (first | (refine wpAppG (E := RunE) rfl _ _ 38 38 44 rfl i0 _ 48 Try.underlying38 hi hz0 hz1 hz2 rfl _ R rfl hrowc _ [⟨1, ⟨yk, yb, yn, yt⟩⟩] rfl hsr (by simp; omega) (by simp; omega) ?_; intro ys a' c' w' hy' hrow' hg' hn') | fail)
        exact ⟨⟨0 + 1, a', c', ys, by omega, by go_num, rfl, hnx.out ys a' c' w' hy' hrow' hg' hn'⟩, by simp [intOf]; omega⟩
      · have hj1 : j - 1 < l.length := by omega
        obtain ⟨_, _, e, b0, b1, b2, b3⟩ := (ha'.out.kept I.kp).at (j - 1) hj1
        cases e
        obtain ⟨z, hz⟩ : ∃ z, Hid (l[j - 1]'hj1 = z) := ⟨_, rfl⟩
        rw [hz.out] at b0 b1 b2 b3
        obtain ⟨X, HX, hX⟩ := eqV ⟨yk, yb, yn, yt⟩ z
        have hnx2 := hid (hnx.out X (.inr ⟨hj1, by rw [hz.out]; exact HX.out⟩) (fun h => absurd h hj0))
        obtain ⟨zk, zb, zn, zt⟩ := z
        dsimp only at b0 b1 b2 b3 hX
        have d0 : 0 < j := by omega
        have d3 : decide (0 < j) = true := by simp; omega
        have d1 : (0 : Int) < (j : Int) := by omega
        have d2 : ((j : Int) - 1) = ((j - 1 : Nat) : Int) := by omega
        have hI := hid I
        clear hnx HX I
        cases X with
        | false =>
          have hpl : Hid (runsV (l.take (j + 1)) = R ++ [⟨1, ⟨yk, yb, yn, yt⟩⟩]) := by
            show _ = _
            rcases hnx2.out with ⟨_, h⟩ | ⟨h, _⟩
            · rw [h, hI.out.runs.out]
            · cases h
          have hp2 := hplain.out hpl.out
          clear hplain hnx2 hpl hI
          have kq0 : ∀ n, Kp [] wr (wr.drewN n) := fun n => (Kp.refl _ _).drewN n
          go_wp2_with fail
          go_quiet ((fail))
          obtain ⟨kc, hrowc, hsr, hnext⟩ := hp2 (wr.drewN nq) (kq0 nq)
          have hnx := hid hnext
          have a0' := kpAt (kq0 nq) a0; have a1' := kpAt (kq0 nq) a1; have a2' := kpAt (kq0 nq) a2; have a3' := kpAt (kq0 nq) a3
          generalize wr.drewN nq = wq at *
          clear a0 a1 a2 a3 hp2 hnext
          go_wp2_with (first | (refine wpAppG (E := RunE) rfl _ _ 38 38 44 rfl i0 _ 48 Try.underlying38 hi hz0 hz1 hz2 rfl _ R rfl hrowc _ [⟨1, ⟨yk, yb, yn, yt⟩⟩] rfl hsr (by simp; omega) (by simp; omega) ?_; intro ys a' c' w' hy' hrow' hg' hn') | fail)
          exact ⟨⟨j + 1, a', c', ys, by omega, by go_num, rfl, hnx.out ys a' c' w' hy' hrow' hg' hn'⟩, by simp [intOf]; omega⟩
        | true =>
          clear hplain
          obtain ⟨R0, m, hR0, hR1⟩ : ∃ R0 m, R = R0 ++ [⟨m, ⟨yk, yb, yn, yt⟩⟩] ∧ Hid (runsV (l.take (j + 1)) = R0 ++ [⟨m + 1, ⟨yk, yb, yn, yt⟩⟩]) := by
            rcases hnx2.out with ⟨h, _⟩ | ⟨_, R0, m, h1, h2⟩
            · cases h
            · exact ⟨R0, m, by rw [← hI.out.runs.out, h1], h2⟩
          obtain ⟨n0, hn0⟩ : ∃ n0, Hid (R0.length = n0) := ⟨_, rfl⟩
          have hRn : R.length = n0 + 1 := by rw [hR0, List.length_append, hn0.out]; rfl
          have hsee : RunE.See wr ra R := by obtain ⟨_, _, e, hs, _⟩ := hI.out.row.see; injection e with e1 e2 e3; rw [e1]; exact hs
          obtain ⟨g2, o2, rfl, r0, r1, r2, r3, r4⟩ := runE_at hsee (j := n0) (x := ⟨m, ⟨yk, yb, yn, yt⟩⟩) (by rw [hR0, ← hn0.out]; simp)
          dsimp only at r0 r1 r2 r3 r4
          have hsee' : Hid (∀ W, Kp [] wr W → RunE.See W (some ⟨g2, o2, none⟩) R0) := fun W kW => by
            have := (hsee.keptNew kW).front n0
            rw [hR0, ← hn0.out, List.take_left] at this
            exact this
          have hrm : Hid (m ≤ l.length) := by
            have := (runsV_in (l := l.take j) ⟨m, ⟨yk, yb, yn, yt⟩⟩ (by rw [hI.out.runs.out, hR0]; simp)).2
            simp at this
            show m ≤ _
            omega
          have hmle := hrm.out
          have hrc : n0 + 1 ≤ rc ∧ rc ≤ maxLen := by
            obtain ⟨_, _, e, _, _, h1, h2, _⟩ := hI.out.row.see
            injection e with e1 e2 e3
            rw [← e3, hRn] at h1
            rw [← e3] at h2
            exact ⟨h1, h2⟩
          obtain ⟨hrc1, hrc2⟩ := hrc
          unfold maxLen at hrc2
          have hnl : n0 + 1 ≤ j := by rw [← hRn]; exact hRl
          rw [hRn]
          have hkw := hid hI.out.kp
          clear hsee hI hRn hnx2 hrm hR0 hRl
          have kq0 : ∀ n, Kp [] wr (wr.drewN n) := fun n => (Kp.refl _ _).drewN n
          go_wp2_with fail
          go_quiet ((fail))
          have r0' := kpAt (kq0 nq) r0; have r1' := kpAt (kq0 nq) r1; have r2' := kpAt (kq0 nq) r2; have r3' := kpAt (kq0 nq) r3; have r4' := kpAt (kq0 nq) r4
          have kqq := kq0 nq
          generalize wr.drewN nq = wq at *
          clear a0 a1 a2 a3 b0 b1 b2 b3 r0 r1 r2 r3 r4 hX
          obtain ⟨wc, hwc⟩ : ∃ wc, wq.alloc (.cells #[.int .i64 ((m : Int) + 1), .int .i64 yk, .bool yb, .int .i64 yn, .string yt] 44) = wc := ⟨_, rfl⟩
          have kc : Kp [] wq wc := by rw [← hwc]; exact (Kp.refl _ _).alloc _
          have kd : Kp [] wr wc.drew := (kqq.trans kc (by simp)).drew
          have hS : Hid (∀ A, Kp [] wc.drew A → A.cell? ⟨wq.heap.size, 0, none⟩ = some (.int .i64 ((m : Int) + 1)) ∧ A.cell? ⟨wq.heap.size, 1, none⟩ = some (.int .i64 yk) ∧ A.cell? ⟨wq.heap.size, 2, none⟩ = some (.bool yb) ∧ A.cell? ⟨wq.heap.size, 3, none⟩ = some (.int .i64 yn) ∧ A.cell? ⟨wq.heap.size, 4, none⟩ = some (.string yt)) := fun A kA => by
            have kA' : Kp [] wc A := (Kp.refl [] wc).drew.trans kA (by simp)
            rw [← hwc] at kA'
            exact ⟨kpAt kA' (World.cell?_alloc_new wq _ _ 0), kpAt kA' (World.cell?_alloc_new wq _ _ 1), kpAt kA' (World.cell?_alloc_new wq _ _ 2), kpAt kA' (World.cell?_alloc_new wq _ _ 3), kpAt kA' (World.cell?_alloc_new wq _ _ 4)⟩
          have hwc' := hid hwc
          have hWd : Kp [] w wc.drew := hkw.out.trans kd (by simp)
          have hsee2 : Hid (∀ W, Kp [] wc.drew W → RunE.See W (some ⟨g2, o2, none⟩) R0) := fun W kW => hsee'.out W (kd.trans kW (by simp))
          clear hwc hsee' kd kc
          go_wp2_with fail
          rw [hwc'.out]
          clear r0' r1' r2' r3' r4' hwc'
          refine wp_region_held_drew (S := (fun A => A.cell? ⟨wq.heap.size, 0, none⟩ = some (.int .i64 ((m : Int) + 1)) ∧ A.cell? ⟨wq.heap.size, 1, none⟩ = some (.int .i64 yk) ∧ A.cell? ⟨wq.heap.size, 2, none⟩ = some (.bool yb) ∧ A.cell? ⟨wq.heap.size, 3, none⟩ = some (.int .i64 yn) ∧ A.cell? ⟨wq.heap.size, 4, none⟩ = some (.string yt))) (by kernel_rfl) ?_ (fun hHeld => ?_)
          · exact hS.out _ (Kp.refl _ _)
          generalize wc.drew = wd at *
          have hA0 : Hid (∀ X, Kp [] wd X → ∃ X', X.alloc (.cells #[] 44) = X' ∧ Kp [] wd X' ∧ Kp [] X X' ∧ X.heap.size < X'.heap.size ∧ RunE.Row X' (.slice (some ⟨X.heap.size, 0, none⟩) 0 0) []) := fun X kX =>
            ⟨_, rfl, kX.alloc _, (Kp.refl _ _).alloc _, by simp, rowNoneR X rfl _ _⟩
          have hA8 : Hid (∀ X, Kp [] wd X → ∃ X', X.alloc (.cells #[.int .i64 ((m : Int) + 1), .int .i64 yk, .bool yb, .int .i64 yn, .string yt] 44) = X' ∧ Kp [] wd X' ∧ Kp [] X X' ∧ X.heap.size < X'.heap.size ∧ RunE.See X' (some ⟨X.heap.size, 0, none⟩) [⟨m + 1, ⟨yk, yb, yn, yt⟩⟩]) := fun X kX => by
            have := runOne X rfl ⟨m + 1, ⟨yk, yb, yn, yt⟩⟩ 44
            have e : ((m + 1 : Nat) : Int) = (m : Int) + 1 := by omega
            dsimp only at this
            rw [e] at this
            exact ⟨_, rfl, kX.alloc _, (Kp.refl _ _).alloc _, by simp, this⟩
          have hA6 : Hid (∀ X p, Kp [] wd X → RunE.Row X (.slice (some ⟨p, 0, none⟩) 0 0) [] → wd.heap.size ≤ p → ∃ a c X', (Builtin.append_ #[38, 38] 38 #[.slice (some ⟨p, 0, none⟩) 0 0, .slice (some ⟨g2, o2, none⟩) n0 rc]).run Try.prog X = .ok (.slice a n0 c) X' ∧ RunE.Row X' (.slice a n0 c) R0 ∧ Kp [p] X X' ∧ Kp [] wd X' ∧ ∀ k ∈ blk a, wd.heap.size ≤ k) := fun X p kX hr hp => by
            have hsr := (hsee2.out X kX).src (P := Try.prog) Try.underlying38 rc
            rw [hn0.out] at hsr
            have hsr' : Src Try.prog RunE.n 38 (.slice (some ⟨g2, o2, none⟩) n0 rc) R0.length (RunE.cs R0) X := by rw [hn0.out]; exact hsr
            obtain ⟨v', X3, hrun, hrow3, kk3, hn3⟩ := run_appendG (E := RunE) (P := Try.prog) X 38 38 38 44 i0 _ 48 Try.underlying38 hi hz0 hz1 hz2 rfl (.slice (some ⟨p, 0, none⟩) 0 0) [] hr _ R0 hsr' (by rw [List.length_nil, hn0.out]; omega) (by rw [List.length_nil, hn0.out]; omega)
            rw [List.nil_append] at hrow3
            obtain ⟨a', c', rfl, _⟩ := hrow3.see
            rw [ownS] at kk3
            rw [hn0.out] at hrun hrow3
            have hb : blk (some (⟨p, 0, none⟩ : Addr)) = [p] := rfl
            rw [hb] at kk3
            refine ⟨a', c', X3, hrun, hrow3, kk3, kX.trans kk3 (fun k hk => .inr (by simp at hk; omega)), fun k hk => ?_⟩
            rcases hn3 k (by rw [ownS]; exact hk) with h | h
            · rw [ownS, hb] at h; simp at h; omega
            · have := kX.size; omega
          have hA9 : Hid (∀ X a c q', Kp [] wd X → RunE.Row X (.slice a n0 c) R0 → (∀ k ∈ blk a, wd.heap.size ≤ k) → RunE.See X (some ⟨q', 0, none⟩) [⟨m + 1, ⟨yk, yb, yn, yt⟩⟩] → ∃ v X', (Builtin.append_ #[38, 38] 38 #[.slice a n0 c, .slice (some ⟨q', 0, none⟩) 1 1]).run Try.prog X = .ok v X' ∧ Kp [] wd X' ∧ ∃ a' c' R', v = .slice a' R'.length c' ∧ RfI l w X' a' c' (j + 1) R') := fun X a c q' kX hr hnw hs => by
            have hsr := hs.src (P := Try.prog) Try.underlying38 1
            obtain ⟨v', X3, hrun, hrow3, kk3, hn3⟩ := run_appendG (E := RunE) (P := Try.prog) X 38 38 38 44 i0 _ 48 Try.underlying38 hi hz0 hz1 hz2 rfl (.slice a n0 c) R0 hr _ [⟨m + 1, ⟨yk, yb, yn, yt⟩⟩] hsr (by rw [hn0.out]; simp; omega) (by rw [hn0.out]; simp; omega)
            obtain ⟨a', c', rfl, _⟩ := hrow3.see
            rw [ownS] at kk3
            have kX3 : Kp [] wd X3 := kX.trans kk3 (fun k hk => .inr (hnw k hk))
            refine ⟨_, X3, hrun, kX3, a', c', _, rfl, hrow3, fun k hk => ?_, hWd.trans kX3 (by simp), hR1⟩
            rcases hn3 k (by rw [ownS]; exact hk) with h | h
            · rw [ownS] at h; have := hnw k h; have := hWd.size; omega
            · have := kX.size; have := hWd.size; omega
          have hSP : Hid (∀ A, Kp [] wd A → _) := hS
          clear hS hsee2 hn0 hR1
          have wn0 : IntKind.i64.wrap (n0 : Int) = (n0 : Int) := by rw [IntKind.wrap_i64]; omega
          have wn1 : (n0 : Int) ≤ (rc : Int) := by omega
          have wn2 : (0 : Int) ≤ (n0 : Int) := by omega
          have wn3 : n0 ≤ rc := by omega
          refine wpAnyH_take (i := 1) (v := ?_) rfl (by kernel_rfl) (by kernel_rfl) (by kernel_rfl) (fun _ _ _ h => h) (Or.inl ⟨by rfl, ?_⟩) (by assumption) ?_
          rotate_left
          · intro w hSw; (try dsimp only at hSw); go_simp <;> with_reducible rfl
          try simp only [Act.put, List.getElem_toArray, List.getElem_cons_zero, List.getElem_cons_succ, List.setIfInBounds_toArray, List.set_cons_zero, List.set_cons_succ]
          refine wpAnyH_take (i := 2) (v := ?_) rfl (by kernel_rfl) (by kernel_rfl) (by kernel_rfl) (fun _ _ _ h => h) (Or.inl ⟨by rfl, ?_⟩) (by assumption) ?_
          rotate_left
          · intro w hSw; (try dsimp only at hSw); go_simp <;> with_reducible rfl
          try simp only [Act.put, List.getElem_toArray, List.getElem_cons_zero, List.getElem_cons_succ, List.setIfInBounds_toArray, List.set_cons_zero, List.set_cons_succ]
          refine wpAnyH_take (i := 3) (v := ?_) rfl (by kernel_rfl) (by kernel_rfl) (by kernel_rfl) (fun _ _ _ h => h) (Or.inl ⟨by rfl, ?_⟩) (by assumption) ?_
          rotate_left
          · intro w hSw; (try dsimp only at hSw); go_simp <;> with_reducible rfl
          try simp only [Act.put, List.getElem_toArray, List.getElem_cons_zero, List.getElem_cons_succ, List.setIfInBounds_toArray, List.set_cons_zero, List.set_cons_succ]
          refine wpAnyH_take (i := 4) (v := ?_) rfl (by kernel_rfl) (by kernel_rfl) (by kernel_rfl) (fun _ _ _ h => h) (Or.inl ⟨by rfl, ?_⟩) (by assumption) ?_
          rotate_left
          · intro w hSw; (try dsimp only at hSw); go_simp <;> with_reducible rfl
          try simp only [Act.put, List.getElem_toArray, List.getElem_cons_zero, List.getElem_cons_succ, List.setIfInBounds_toArray, List.set_cons_zero, List.set_cons_succ]
          refine wpAnyH_take (i := 5) (v := ?_) rfl (by kernel_rfl) (by kernel_rfl) (by kernel_rfl) (fun _ _ _ h => h) (Or.inl ⟨by rfl, ?_⟩) (by assumption) ?_
          rotate_left
          · intro w hSw; (try dsimp only at hSw); go_simp <;> with_reducible rfl
          try simp only [Act.put, List.getElem_toArray, List.getElem_cons_zero, List.getElem_cons_succ, List.setIfInBounds_toArray, List.set_cons_zero, List.set_cons_succ]
          refine wpAnyH_take (i := 7) (v := ?_) rfl (by kernel_rfl) (by kernel_rfl) (by kernel_rfl) (fun _ _ _ h => h) (Or.inl ⟨by rfl, ?_⟩) (by assumption) ?_
          rotate_left
          · intro w hSw; (try dsimp only at hSw); go_simp <;> with_reducible rfl
          try simp only [Act.put, List.getElem_toArray, List.getElem_cons_zero, List.getElem_cons_succ, List.setIfInBounds_toArray, List.set_cons_zero, List.set_cons_succ]
          refine wpAnyH_ready (rs := [0, 8]) (by kernel_rfl) (by simp) ?_
          refine AllReadyH.cons rfl (fun K hK => ?_) (AllReadyH.cons rfl (fun K hK => ?_) AllReadyH.nil)
          · obtain ⟨X1, hX1, kX1, kkX1, ltX1, rX1⟩ := hA0.out wd (Kp.refl _ _)
            have hX1' := hid hX1
            clear hX1
            go_simp
            (try go_wp2_with fail)
            rw [hX1'.out]
            refine hK.out _ _ ?_ (fun hHeld => ?_)
            · exact hSP.out _ kX1
            clear hK K
            try simp only [Act.put, List.getElem_toArray, List.getElem_cons_zero, List.getElem_cons_succ, List.setIfInBounds_toArray, List.set_cons_zero, List.set_cons_succ]
            refine wpAnyH_ready (rs := [6, 8]) (by kernel_rfl) (by simp) ?_
            refine AllReadyH.cons rfl (fun K hK => ?_) (AllReadyH.cons rfl (fun K hK => ?_) AllReadyH.nil)
            · obtain ⟨a6, c6, X2, hrun6, row6, kkX2, kX2, nw6⟩ := hA6.out X1 _ kX1 rX1 (Nat.le_refl _)
              refine stepAppRun rfl _ _ 38 38 rfl _ _ _ rfl rfl hrun6 ?_
              refine hK.out _ _ ?_ (fun hHeld => ?_)
              · exact hSP.out _ kX2
              clear hK K
              try simp only [Act.put, List.getElem_toArray, List.getElem_cons_zero, List.getElem_cons_succ, List.setIfInBounds_toArray, List.set_cons_zero, List.set_cons_succ]
              refine wpAnyH_ready (rs := [8]) (by kernel_rfl) (by simp) ?_
              refine AllReadyH.cons rfl (fun K hK => ?_) AllReadyH.nil
              obtain ⟨X3, hX3, kX3, kkX3, ltX3, rX3⟩ := hA8.out X2 kX2
              have hX3' := hid hX3
              clear hX3
              go_simp
              (try go_wp2_with fail)
              rw [hX3'.out]
              refine hK.out _ _ ?_ (fun hHeld => ?_)
              · exact hSP.out _ kX3
              clear hK K
              try simp only [Act.put, List.getElem_toArray, List.getElem_cons_zero, List.getElem_cons_succ, List.setIfInBounds_toArray, List.set_cons_zero, List.set_cons_succ]
              refine wpAnyH_ready (rs := [9]) (by kernel_rfl) (by simp) ?_
              refine AllReadyH.cons rfl (fun K hK => ?_) AllReadyH.nil
              obtain ⟨v9, X9, hrun9, k9, a9, c9, R9, rfl, I9⟩ := hA9.out X3 a6 c6 _ kX3 (row6.keptNew kkX3) nw6 (rX3)
              refine stepAppRun rfl _ _ 38 38 rfl _ _ _ rfl rfl hrun9 ?_
              refine hK.out _ _ ?_ (fun hHeld => ?_)
              · exact hSP.out _ k9
              clear hK K
              try simp only [Act.put, List.getElem_toArray, List.getElem_cons_zero, List.getElem_cons_succ, List.setIfInBounds_toArray, List.set_cons_zero, List.set_cons_succ]
              refine wpAnyH_take (i := 10) (v := ?_) rfl (by kernel_rfl) (by kernel_rfl) (by kernel_rfl) (fun _ _ _ h => h) (Or.inl ⟨by rfl, ?_⟩) (by assumption) ?_
              rotate_left
              · intro w hSw; (try dsimp only at hSw); go_simp <;> with_reducible rfl
              try simp only [Act.put, List.getElem_toArray, List.getElem_cons_zero, List.getElem_cons_succ, List.setIfInBounds_toArray, List.set_cons_zero, List.set_cons_succ]
              refine wpAnyH_done (by kernel_rfl) ?_ _
              have I9' := hid I9
              clear I9 hrun9 hrun6 row6 hHeld hSP hA0 hA8 hA6 hA9
              go_wp2_with fail
              exact ⟨⟨j + 1, a9, c9, R9, by omega, by go_num, rfl, I9'.out⟩, by simp [intOf]; omega⟩
            · obtain ⟨X2, hX2, kX2, kkX2, ltX2, rX2⟩ := hA8.out X1 kX1
              have hX2' := hid hX2
              clear hX2
              go_simp
              (try go_wp2_with fail)
              rw [hX2'.out]
              refine hK.out _ _ ?_ (fun hHeld => ?_)
              · exact hSP.out _ kX2
              clear hK K
              try simp only [Act.put, List.getElem_toArray, List.getElem_cons_zero, List.getElem_cons_succ, List.setIfInBounds_toArray, List.set_cons_zero, List.set_cons_succ]
              refine wpAnyH_ready (rs := [6]) (by kernel_rfl) (by simp) ?_
              refine AllReadyH.cons rfl (fun K hK => ?_) AllReadyH.nil
              obtain ⟨a6, c6, X3, hrun6, row6, kkX3, kX3, nw6⟩ := hA6.out X2 _ kX2 (rX1.keptNew kkX2) (Nat.le_refl _)
              refine stepAppRun rfl _ _ 38 38 rfl _ _ _ rfl rfl hrun6 ?_
              refine hK.out _ _ ?_ (fun hHeld => ?_)
              · exact hSP.out _ kX3
              clear hK K
              try simp only [Act.put, List.getElem_toArray, List.getElem_cons_zero, List.getElem_cons_succ, List.setIfInBounds_toArray, List.set_cons_zero, List.set_cons_succ]
              refine wpAnyH_ready (rs := [9]) (by kernel_rfl) (by simp) ?_
              refine AllReadyH.cons rfl (fun K hK => ?_) AllReadyH.nil
              obtain ⟨v9, X9, hrun9, k9, a9, c9, R9, rfl, I9⟩ := hA9.out X3 a6 c6 _ kX3 (row6) nw6 (rX2.kept kkX3 (fun _ k hk hm => by simp [blk] at hk hm; omega))
              refine stepAppRun rfl _ _ 38 38 rfl _ _ _ rfl rfl hrun9 ?_
              refine hK.out _ _ ?_ (fun hHeld => ?_)
              · exact hSP.out _ k9
              clear hK K
              try simp only [Act.put, List.getElem_toArray, List.getElem_cons_zero, List.getElem_cons_succ, List.setIfInBounds_toArray, List.set_cons_zero, List.set_cons_succ]
              refine wpAnyH_take (i := 10) (v := ?_) rfl (by kernel_rfl) (by kernel_rfl) (by kernel_rfl) (fun _ _ _ h => h) (Or.inl ⟨by rfl, ?_⟩) (by assumption) ?_
              rotate_left
              · intro w hSw; (try dsimp only at hSw); go_simp <;> with_reducible rfl
              try simp only [Act.put, List.getElem_toArray, List.getElem_cons_zero, List.getElem_cons_succ, List.setIfInBounds_toArray, List.set_cons_zero, List.set_cons_succ]
              refine wpAnyH_done (by kernel_rfl) ?_ _
              have I9' := hid I9
              clear I9 hrun9 hrun6 row6 hHeld hSP hA0 hA8 hA6 hA9
              go_wp2_with fail
              exact ⟨⟨j + 1, a9, c9, R9, by omega, by go_num, rfl, I9'.out⟩, by simp [intOf]; omega⟩
          · obtain ⟨X1, hX1, kX1, kkX1, ltX1, rX1⟩ := hA8.out wd (Kp.refl _ _)
            have hX1' := hid hX1
            clear hX1
            go_simp
            (try go_wp2_with fail)
            rw [hX1'.out]
            refine hK.out _ _ ?_ (fun hHeld => ?_)
            · exact hSP.out _ kX1
            clear hK K
            try simp only [Act.put, List.getElem_toArray, List.getElem_cons_zero, List.getElem_cons_succ, List.setIfInBounds_toArray, List.set_cons_zero, List.set_cons_succ]
            refine wpAnyH_ready (rs := [0]) (by kernel_rfl) (by simp) ?_
            refine AllReadyH.cons rfl (fun K hK => ?_) AllReadyH.nil
            obtain ⟨X2, hX2, kX2, kkX2, ltX2, rX2⟩ := hA0.out X1 kX1
            have hX2' := hid hX2
            clear hX2
            go_simp
            (try go_wp2_with fail)
            rw [hX2'.out]
            refine hK.out _ _ ?_ (fun hHeld => ?_)
            · exact hSP.out _ kX2
            clear hK K
            try simp only [Act.put, List.getElem_toArray, List.getElem_cons_zero, List.getElem_cons_succ, List.setIfInBounds_toArray, List.set_cons_zero, List.set_cons_succ]
            refine wpAnyH_ready (rs := [6]) (by kernel_rfl) (by simp) ?_
            refine AllReadyH.cons rfl (fun K hK => ?_) AllReadyH.nil
            obtain ⟨a6, c6, X3, hrun6, row6, kkX3, kX3, nw6⟩ := hA6.out X2 _ kX2 rX2 (kX1.size)
            refine stepAppRun rfl _ _ 38 38 rfl _ _ _ rfl rfl hrun6 ?_
            refine hK.out _ _ ?_ (fun hHeld => ?_)
            · exact hSP.out _ kX3
            clear hK K
            try simp only [Act.put, List.getElem_toArray, List.getElem_cons_zero, List.getElem_cons_succ, List.setIfInBounds_toArray, List.set_cons_zero, List.set_cons_succ]
            refine wpAnyH_ready (rs := [9]) (by kernel_rfl) (by simp) ?_
            refine AllReadyH.cons rfl (fun K hK => ?_) AllReadyH.nil
            obtain ⟨v9, X9, hrun9, k9, a9, c9, R9, rfl, I9⟩ := hA9.out X3 a6 c6 _ kX3 (row6) nw6 ((rX1.keptNew kkX2).kept kkX3 (fun _ k hk hm => by simp [blk] at hk hm; omega))
            refine stepAppRun rfl _ _ 38 38 rfl _ _ _ rfl rfl hrun9 ?_
            refine hK.out _ _ ?_ (fun hHeld => ?_)
            · exact hSP.out _ k9
            clear hK K
            try simp only [Act.put, List.getElem_toArray, List.getElem_cons_zero, List.getElem_cons_succ, List.setIfInBounds_toArray, List.set_cons_zero, List.set_cons_succ]
            refine wpAnyH_take (i := 10) (v := ?_) rfl (by kernel_rfl) (by kernel_rfl) (by kernel_rfl) (fun _ _ _ h => h) (Or.inl ⟨by rfl, ?_⟩) (by assumption) ?_
            rotate_left
            · intro w hSw; (try dsimp only at hSw); go_simp <;> with_reducible rfl
            try simp only [Act.put, List.getElem_toArray, List.getElem_cons_zero, List.getElem_cons_succ, List.setIfInBounds_toArray, List.set_cons_zero, List.set_cons_succ]
            refine wpAnyH_done (by kernel_rfl) ?_ _
            have I9' := hid I9
            clear I9 hrun9 hrun6 row6 hHeld hSP hA0 hA8 hA6 hA9
            go_wp2_with fail
            exact ⟨⟨j + 1, a9, c9, R9, by omega, by go_num, rfl, I9'.out⟩, by simp [intOf]; omega⟩
    · obtain rfl : j = l.length := by omega
      have hfin : NR F w (.returned (.slice ra R.length rc)) wr := by
        have e : R = F := by rw [← I.runs.out, List.take_length]; exact hF.out
        subst e
        exact ⟨ra, rc, rfl, I.row, I.kp, I.new⟩
      clear I
      go_wp2_with fail
      go_ret
      exact hfin
end Go.Proofs.Ytpekgpgfdiffcaa
end

section
namespace Go.Hay
open Go.RowKit
set_option linter.unusedVariables false
set_option linter.unusedSimpArgs false

/-- Bit p of bytes. -/
def bitAt (bs : List UInt8) (p : Nat) : Nat := (bs.getD (p / 8) 0).toNat / 2 ^ (p % 8) % 2
theorem bitAt_lt (bs : List UInt8) (p : Nat) : bitAt bs p < 2 := Nat.mod_lt _ (by omega)
/-- Number i of those in so many bits, of its lowest k. -/
def numTo (bs : List UInt8) (wd i : Nat) : Nat → Nat
  | 0 => 0
  | k + 1 => numTo bs wd i k + bitAt bs (i * wd + k) * 2 ^ k
theorem numTo_lt (bs : List UInt8) (wd i : Nat) : ∀ k, numTo bs wd i k < 2 ^ k
  | 0 => by simp [numTo]
  | k + 1 => by
    have h1 := numTo_lt bs wd i k
    have h2 := bitAt_lt bs (i * wd + k)
    have h3 : bitAt bs (i * wd + k) * 2 ^ k ≤ 1 * 2 ^ k := Nat.mul_le_mul_right _ (by omega)
    rw [numTo, Nat.pow_succ]
    omega
def upk (bs : List UInt8) (many wd : Nat) : List Nat := (List.range many).map fun i => numTo bs wd i wd
theorem upk_length (bs : List UInt8) (many wd : Nat) : (upk bs many wd).length = many := by simp [upk]
theorem upk_at (bs : List UInt8) (many wd i : Nat) (h : i < many) : (upk bs many wd)[i]? = some (numTo bs wd i wd) := by
  unfold upk
  rw [List.getElem?_map, List.getElem?_range h]; rfl
theorem acc_bit (f : Nat → Nat) (hf : ∀ p, f p < 2) (q : Nat) : ∀ m r, r < m → acc f q m / 2 ^ r % 2 = f (8 * q + r)
  | 0, r, h => by omega
  | m + 1, r, h => by
    rw [acc]
    by_cases e : r = m
    · subst e
      rw [Nat.add_mul_div_right _ _ (Nat.two_pow_pos r), Nat.div_eq_of_lt (acc_lt f hf q r), Nat.zero_add]
      exact Nat.mod_eq_of_lt (hf _)
    · have hr : r < m := by omega
      have e2 : f (8 * q + m) * 2 ^ m = f (8 * q + m) * 2 ^ (m - r - 1) * 2 * 2 ^ r := by
        have : m = (m - r - 1) + 1 + r := by omega
        conv => lhs; rw [this, Nat.pow_add, Nat.pow_succ]
        rw [show 8 * q + (m - r - 1 + 1 + r) = 8 * q + m by omega]
        simp [Nat.mul_assoc]
      rw [e2, Nat.add_mul_div_right _ _ (Nat.two_pow_pos r), Nat.add_mul_mod_self_right]
      exact acc_bit f hf q m r hr
theorem bitAt_pack (l : List Nat) (wd p : Nat) (hp : p < l.length * wd) : bitAt (packB l wd) p = bitOf l wd p := by
  unfold bitAt packB
  have hq : p / 8 < (l.length * wd + 7) / 8 := by omega
  have h1 := pk_get (bitOf l wd) ((l.length * wd + 7) / 8) (l.length * wd) (p / 8) hq
  rw [List.getD_eq_getElem?_getD, h1, Option.getD_some]
  have hm : min 8 (l.length * wd - 8 * (p / 8)) ≤ 8 := Nat.min_le_left _ _
  have h8 := acc_lt8 (bitOf l wd) (bitOf_lt l wd) (p / 8) _ hm
  rw [UInt8.toNat_ofNat', Nat.mod_eq_of_lt h8, acc_bit (bitOf l wd) (bitOf_lt l wd) (p / 8) _ (p % 8) (by omega)]
  congr 1
  omega
theorem numTo_back (bs : List UInt8) (wd i x : Nat) : ∀ m, (∀ k, k < m → bitAt bs (i * wd + k) = x / 2 ^ k % 2) → numTo bs wd i m = x % 2 ^ m
  | 0, _ => by simp [numTo, Nat.mod_one]
  | m + 1, h => by
    rw [numTo, numTo_back bs wd i x m (fun k hk => h k (by omega)), h m (by omega), Nat.mod_pow_succ, Nat.mul_comm]
theorem upk_back (l : List Nat) (wd : Nat) (h : ∀ x ∈ l, x < 2 ^ wd) : upk (packB l wd) l.length wd = l := by
  apply List.ext_getElem?
  intro i
  by_cases hi : i < l.length
  · rw [upk_at _ _ _ _ hi, List.getElem?_eq_getElem hi, numTo_back (packB l wd) wd i l[i] wd (fun k hk => ?_), Nat.mod_eq_of_lt (h _ (List.getElem_mem hi))]
    rw [bitAt_pack l wd _ (at_lt hi hk), bitOf_at l wd i k hk hi]
  · rw [List.getElem?_eq_none (by rw [upk_length]; omega), List.getElem?_eq_none (by omega)]
/-- A number out of groups of seven bits, and how many these are. -/
def tkG : Nat → Nat → List UInt8 → Nat × Nat
  | _, _, [] => (0, 0)
  | i, z, x :: r => if i < 10 then (if x.toNat < 128 then (z + x.toNat % 128 * 2 ^ (7 * i) % 18446744073709551616, i + 1) else tkG (i + 1) (z + x.toNat % 128 * 2 ^ (7 * i) % 18446744073709551616) r) else (0, 0)
theorem tkG_le : ∀ (bs : List UInt8) (i z : Nat), (tkG i z bs).2 ≤ i + bs.length
  | [], i, z => by simp [tkG]
  | x :: r, i, z => by
    rw [tkG]
    split
    · split
      · simp
      · have := tkG_le r (i + 1) (z + x.toNat % 128 * 2 ^ (7 * i) % 18446744073709551616)
        simp only [List.length_cons]; omega
    · simp
theorem low128 (z : Nat) : (UInt8.ofNat (z % 128 + 128)).toNat = z % 128 + 128 := by rw [UInt8.toNat_ofNat']; omega
end Go.Hay
namespace Go.Proofs.Ytpekgpgfdiffcaa
open Go.RowKit Go.Hay
theorem tkG_back (s : List UInt8) : ∀ (n z i a : Nat), z ≤ n → z * 2 ^ (7 * i) + a < 18446744073709551616 → i < 10 → tkG i a (gB z ++ s) = (a + z * 2 ^ (7 * i), i + (gB z).length) := by
  intro n
  induction n with
  | zero =>
    intro z i a hn hz hi
    obtain rfl : z = 0 := by omega
    rw [gB_lo (by omega)]
    simp only [List.cons_append, List.nil_append]
    rw [tkG, if_pos hi]
    simp
  | succ n ih =>
    intro z i a hn hz hi
    by_cases h : z < 128
    · rw [gB_lo h]
      simp only [List.cons_append, List.nil_append]
      rw [tkG, if_pos hi]
      have e : (UInt8.ofNat z).toNat = z := by rw [UInt8.toNat_ofNat']; omega
      rw [e, if_pos h, Nat.mod_eq_of_lt h, Nat.mod_eq_of_lt (show z * 2 ^ (7 * i) < 18446744073709551616 by omega)]
      simp
    · rw [gB_hi h]
      simp only [List.cons_append]
      rw [tkG, if_pos hi, low128, if_neg (by omega), show (z % 128 + 128) % 128 = z % 128 by omega]
      have hle : z % 128 * 2 ^ (7 * i) + z / 128 * 2 ^ (7 * (i + 1)) = z * 2 ^ (7 * i) := by
        have e : 2 ^ (7 * (i + 1)) = 128 * 2 ^ (7 * i) := by rw [show 7 * (i + 1) = 7 + 7 * i by omega, Nat.pow_add]
        rw [e, ← Nat.mul_assoc, ← Nat.add_mul]
        congr 1
        omega
      have hlt : z % 128 * 2 ^ (7 * i) < 18446744073709551616 := by omega
      rw [Nat.mod_eq_of_lt hlt]
      have hi2 : i + 1 < 10 := by
        have h1 : 1 ≤ z / 128 := by omega
        have h2 : 1 * 2 ^ (7 * (i + 1)) ≤ z / 128 * 2 ^ (7 * (i + 1)) := Nat.mul_le_mul_right _ h1
        have h3 : 2 ^ (7 * (i + 1)) < 2 ^ 64 := by omega
        have := (Nat.pow_lt_pow_iff_right (by omega : 1 < 2)).1 h3
        omega
      rw [ih (z / 128) (i + 1) _ (by omega) (by omega) hi2]
      simp only [List.length_cons]
      refine Prod.ext ?_ ?_
      · show _ = _; simp only; omega
      · show _ = _; simp only; omega
/-- A difference, unfolded. -/
def zag (z : Nat) : Int := if z % 2 = 0 then (z / 2 : Nat) else -((z / 2 : Nat) : Int) - 1
theorem zag_zig {d : Int} (h1 : -9223372036854775808 ≤ d) (h2 : d < 9223372036854775808) : zag (zig d).toNat = d := by
  unfold zag zig
  split
  · rw [if_pos (by omega)]; omega
  · rw [if_neg (by omega)]; omega
/-- The int of eight bytes. -/
def wordV (bs : List UInt8) : Int := wrap64 (num (bs.take 8))
def intV (n : Int) : Val := ⟨2, false, n, ⟨#[]⟩⟩
end Go.Proofs.Ytpekgpgfdiffcaa
end

section
namespace Go.Proofs.Ytpekgpgfdiffcaa
open Go.RowKit Go.Hay
set_option linter.unusedVariables false
set_option linter.unusedSimpArgs false

/-- An int64. -/
def Val.in64 (x : Val) : Prop := -9223372036854775808 ≤ x.n ∧ x.n ≤ 9223372036854775807
theorem bytes_empty {t : ByteArray} (h : t.toList = []) : t = ⟨#[]⟩ := by
  rw [Go.Lib.toList_data] at h
  cases t with
  | mk d => simp at h; rw [h]
theorem right0 {x : Val} (h : x.right = true) (hk : x.k = 0) : x = ⟨0, false, 0, ⟨#[]⟩⟩ := by
  obtain ⟨k, b, n, t⟩ := x
  dsimp only at hk
  subst hk
  simp [Val.right] at h
  obtain ⟨rfl, rfl, ht⟩ := h
  rw [bytes_empty ht]
theorem right1 {x : Val} (h : x.right = true) (hk : x.k = 1) : x = ⟨1, x.b, 0, ⟨#[]⟩⟩ := by
  obtain ⟨k, b, n, t⟩ := x
  dsimp only at hk
  subst hk
  simp [Val.right] at h
  obtain ⟨rfl, ht⟩ := h
  rw [bytes_empty ht]
theorem right2 {x : Val} (h : x.right = true) (hk : x.k = 2) : x = ⟨2, false, x.n, ⟨#[]⟩⟩ := by
  obtain ⟨k, b, n, t⟩ := x
  dsimp only at hk
  subst hk
  simp [Val.right] at h
  obtain ⟨rfl, ht⟩ := h
  rw [bytes_empty ht]
theorem right3 {x : Val} (h : x.right = true) (hk : x.k = 3) : x = ⟨3, false, 0, x.t⟩ ∧ x.t.size ≤ 64 := by
  have h6 := right_text h hk
  obtain ⟨k, b, n, t⟩ := x
  dsimp only at hk
  subst hk
  simp [Val.right] at h
  obtain ⟨⟨rfl, rfl⟩, ht⟩ := h
  exact ⟨rfl, h6⟩
theorem s64_u64 (n add : Int) (h : -9223372036854775808 ≤ n ∧ n ≤ 9223372036854775807) : wrap64 ((num (be (u64 (n + add)) 8) : Int) - add) = n := by
  rw [num_be]
  unfold u64 wrap64
  omega
theorem u64_s64 (m : Nat) (add : Int) (h : m < 18446744073709551616) : u64 (wrap64 ((m : Int) - add) + add) = m := by
  unfold u64 wrap64
  omega
theorem take8 (n : Nat) (r : List UInt8) : (be n 8 ++ r).take 8 = be n 8 := by
  rw [List.take_append_of_le_length (by rw [be_length]; omega), List.take_of_length_le (by rw [be_length]; omega)]
theorem fixF_put (x : Val) (h : x.right = true) (hi : x.in64) (h3 : x.k ≠ 3) (add : Int) (r : List UInt8) : fixF add (fixB x add ++ r) = (x, (fixB x add).length) := by
  rcases right_kind h with hk | hk | hk | hk
  · rw [right0 h hk]
    simp [fixB, fixF, nilV]
  · rw [right1 h hk]
    cases x.b <;> simp [fixB, fixF]
  · have e := right2 h hk
    have hi2 := s64_u64 x.n add hi
    generalize x.n = n at *
    rw [e]
    have t8 := take8 (u64 (n + add)) r
    have bl := be_length (u64 (n + add)) 8
    simp only [fixB, fixF, List.cons_append, if_neg (by omega : ¬ (2 : Int) = 0), if_neg (by omega : ¬ (2 : Int) = 1)]
    rw [if_neg (by decide), if_neg (by decide), if_pos (by decide), if_pos (by rw [List.length_append, bl]; omega), t8, hi2]
    simp [bl]
  · exact absurd hk h3
theorem rowF_put (x : Val) (h : x.right = true) (hi : x.in64) (r : List UInt8) : rowF (rowB x ++ r) = (x, (rowB x).length) := by
  by_cases h3 : x.k = 3
  · obtain ⟨e, h6⟩ := right3 h h3
    generalize x.t = t at *
    rw [e]
    have ho : (octet (t.size : Int)).toNat = t.size := by have := octet_toNat (t.size : Int) (by omega) (by omega); omega
    have hl : t.data.toList.length = t.size := by simp
    simp only [rowB, rowF, List.cons_append, if_true]
    rw [if_pos (by decide), ho, if_pos ⟨h6, by rw [List.length_append, hl]; omega⟩, List.take_append_of_le_length (by omega), List.take_of_length_le (by omega)]
    simp
    omega
  · have e : rowB x = fixB x 0 := by unfold rowB; rw [if_neg h3]
    rw [e]
    have := fixF_put x h hi h3 0 r
    have hne : fixB x 0 = (fixB x 0).headD 0 :: (fixB x 0).tail ∧ ((fixB x 0).headD 0).toNat ≠ 3 := by
      unfold fixB
      split
      · exact ⟨rfl, by decide⟩
      · split
        · exact ⟨rfl, by show (1 : UInt8).toNat ≠ 3; decide⟩
        · exact ⟨rfl, by show (2 : UInt8).toNat ≠ 3; decide⟩
    generalize (fixB x 0).headD 0 = f at *
    generalize (fixB x 0).tail = s at *
    rw [hne.1] at this ⊢
    rw [List.cons_append] at this ⊢
    simp only [rowF, if_neg hne.2]
    exact this
theorem rowB_pos {x : Val} (h : x.right = true) : 0 < (rowB x).length := by
  unfold rowB fixB
  repeat (first | split | simp)

theorem decL_put : ∀ l : List Val, allR l = true → (∀ x ∈ l, x.in64) → decL l.length (l.flatMap rowB) = some l
  | [], _, _ => by simp [decL]
  | x :: l, h, hi => by
    unfold allR at h
    rw [List.all_cons, Bool.and_eq_true] at h
    have ih := decL_put l h.2 (fun y hy => hi y (by simp [hy]))
    have hp := rowB_pos h.1
    rw [List.length_cons, decL, List.flatMap_cons, rowF_put x h.1 (hi x (by simp))]
    simp only
    rw [if_neg (by omega), List.drop_left, ih]
    rfl
theorem decS_put (l : List Val) (h : okR l = true) (hi : ∀ x ∈ l, x.in64) : decS (encB l) = (l, 0) := by
  have h16 := okR_len h
  have ho : (octet (l.length : Int)).toNat = l.length := by have := octet_toNat (l.length : Int) (by omega) (by omega); omega
  unfold encB
  simp only [decS]
  rw [ho, if_neg (by omega), decL_put l (okR_all h) hi]
  rfl

/-- What is read is what the first bytes say. -/
theorem fixF_mono (add : Int) (p s : List UInt8) (h : (fixF add p).2 ≠ 0) : fixF add (p ++ s) = fixF add p := by
  cases p with
  | nil => simp [fixF] at h
  | cons f r =>
    rw [List.cons_append]
    simp only [fixF] at h ⊢
    split
    · rfl
    · rw [if_neg (by assumption)] at h
      split
      · rw [if_pos (by assumption)] at h
        cases r with
        | nil => simp at h
        | cons y t => rfl
      · rw [if_neg (by assumption)] at h
        split
        · rw [if_pos (by assumption)] at h
          by_cases h8 : 8 ≤ r.length
          · rw [if_pos (by rw [List.length_append]; omega), if_pos h8, List.take_append_of_le_length h8]
          · rw [if_neg h8] at h; simp at h
        · rfl
theorem rowF_mono (p s : List UInt8) (h : (rowF p).2 ≠ 0) : rowF (p ++ s) = rowF p := by
  cases p with
  | nil => simp [rowF] at h
  | cons f r =>
    rw [List.cons_append]
    simp only [rowF] at h ⊢
    split
    · rw [if_pos (by assumption)] at h
      cases r with
      | nil => simp at h
      | cons y t =>
        rw [List.cons_append]
        simp only at h ⊢
        by_cases hc : y.toNat ≤ 64 ∧ y.toNat ≤ t.length
        · rw [if_pos ⟨hc.1, by rw [List.length_append]; omega⟩, if_pos hc, List.take_append_of_le_length hc.2]
        · rw [if_neg hc] at h; simp at h
    · rw [if_neg (by assumption)] at h
      rw [← List.cons_append]
      exact fixF_mono 0 (f :: r) s h
theorem decL_more : ∀ (n : Nat) (p s : List UInt8) (l : List Val), decL n p = some l → s ≠ [] → decL n (p ++ s) = none
  | 0, p, s, l, h, hs => by
    rw [decL] at h ⊢
    split at h
    · subst p; simpa using hs
    · cases h
  | n + 1, p, s, l, h, hs => by
    rw [decL] at h ⊢
    by_cases h0 : (rowF p).2 = 0
    · rw [if_pos h0] at h; cases h
    · rw [if_neg h0] at h
      rw [rowF_mono p s h0, if_neg h0]
      obtain ⟨l', h', _⟩ := Option.map_eq_some_iff.1 h
      rw [List.drop_append_of_le_length (rowF_le p), decL_more n _ s l' h' hs]
      rfl
theorem decS_more (l : List Val) (h : okR l = true) (hi : ∀ x ∈ l, x.in64) (s : List UInt8) (hs : s ≠ []) : decS (encB l ++ s) = ([], 30) := by
  have h16 := okR_len h
  have ho : (octet (l.length : Int)).toNat = l.length := by have := octet_toNat (l.length : Int) (by omega) (by omega); omega
  unfold encB
  rw [List.cons_append]
  simp only [decS]
  rw [ho, if_neg (by omega), decL_more _ _ s l (decL_put l (okR_all h) hi) hs]
  rfl
theorem decS_cut (l : List Val) (h : okR l = true) (hi : ∀ x ∈ l, x.in64) (cut : Nat) (hc : cut < (encB l).length) : decS ((encB l).take cut) = ([], 30) := by
  have h16 := okR_len h
  have ho : (octet (l.length : Int)).toNat = l.length := by have := octet_toNat (l.length : Int) (by omega) (by omega); omega
  cases cut with
  | zero => rfl
  | succ n =>
    unfold encB at hc ⊢
    rw [List.length_cons] at hc
    rw [List.take_succ_cons]
    simp only [decS]
    rw [ho, if_neg (by omega)]
    cases hd : decL l.length ((l.flatMap rowB).take n) with
    | none => rfl
    | some l' =>
      have h1 := decL_more _ _ ((l.flatMap rowB).drop n) l' hd (by intro h; have := congrArg List.length h; simp only [List.length_drop, List.length_nil] at this; omega)
      rw [List.take_append_drop, decL_put l (okR_all h) hi] at h1
      cases h1
end Go.Proofs.Ytpekgpgfdiffcaa
end

section
namespace Go.Proofs.Ytpekgpgfdiffcaa
open Go.RowKit Go.Hay
set_option linter.unusedVariables false
set_option linter.unusedSimpArgs false

/-- So many values, and the bytes behind them. -/
def tkP : Nat → List Val → List UInt8 → Option (List Val × List UInt8)
  | 0, acc, bs => some (acc, bs)
  | n + 1, acc, bs => if (tkV bs).2 = 0 then none else tkP n (acc ++ [(tkV bs).1]) (bs.drop (tkV bs).2)
/-- Ints by their differences. -/
def tkD : Nat → Int → List Val → List UInt8 → Option (List Val)
  | 0, n, acc, bs => some acc
  | k + 1, n, acc, bs => if (tkG 0 0 bs).2 = 0 then none else tkD k (IntKind.i64.wrap (n + zag (tkG 0 0 bs).1)) (acc ++ [intV (IntKind.i64.wrap (n + zag (tkG 0 0 bs).1))]) (bs.drop (tkG 0 0 bs).2)
def tkDl (many : Nat) (bs : List UInt8) : Option (List Val) := if bs.length < 8 then none else tkD (many - 1) (wordV bs) [intV (wordV bs)] (bs.drop 8)
/-- Numbers in so many bits, if there are just their bytes. -/
def upkO (bs : List UInt8) (many wd : Nat) : Option (List Nat) := if bs.length = (many * wd + 7) / 8 then some (upk bs many wd) else none
def tkBt (many : Nat) (bs : List UInt8) : Option (List Val) :=
  if bs.length ≤ 8 ∨ 64 < (bs.getD 8 0).toNat then none else (upkO (bs.drop 9) many (bs.getD 8 0).toNat).map fun l => l.map fun (n : Nat) => intV (IntKind.i64.wrap (wordV bs + (n : Int)))
def tkDc (many : Nat) (bs : List UInt8) : Option (List Val) :=
  if bs.length = 0 ∨ (bs.getD 0 0).toNat = 0 ∨ many < (bs.getD 0 0).toNat then none
  else match tkP (bs.getD 0 0).toNat [] (bs.drop 1) with
    | none => none
    | some (u, r) => match upkO r many (Lib.bitLen (u.length - 1)) with
      | none => none
      | some ps => if ps.all (fun p => decide (p < u.length)) = true then some (ps.map fun p => u.getD p nv) else none
/-- What take reads. -/
def tkA (k : Int) (many : Nat) (bs : List UInt8) : Option (List Val) :=
  if many = 0 then some [] else if k = 1 then tkR many [] bs else if k = 2 then tkDl many bs else if k = 3 then tkDc many bs else if k = 4 then tkBt many bs else (tkP many [] bs).map Prod.fst

theorem vsz_rowB (x : Val) (h : x.right = true) (s : List UInt8) : vsz (rowB x ++ s) = (rowB x).length := by
  by_cases h3 : x.k = 3
  · obtain ⟨e, h6⟩ := right3 h h3
    have ho : (octet (x.t.size : Int)).toNat = x.t.size := by have := octet_toNat (x.t.size : Int) (by omega) (by omega); omega
    have hl : x.t.data.toList.length = x.t.size := by simp
    simp only [rowB, if_pos h3, List.cons_append, vsz]
    rw [if_neg (by decide), if_neg (by decide), if_neg (by decide), if_pos (by decide), ho]
    simp
    omega
  · have e : rowB x = fixB x 0 := by unfold rowB; rw [if_neg h3]
    rw [e]
    unfold fixB
    split
    · rfl
    · split
      · rfl
      · show vsz (2 :: (be (u64 (x.n + 0)) 8 ++ s)) = _
        simp only [vsz]
        rw [if_neg (by decide), if_neg (by decide), if_pos (by decide)]
        simp [be_length]
theorem tkV_put (x : Val) (h : x.right = true) (hi : x.in64) (s : List UInt8) : tkV (rowB x ++ s) = (x, (rowB x).length) := by
  have hp := rowB_pos h
  unfold tkV
  rw [vsz_rowB x h s, if_neg (by rw [List.length_append]; omega), List.take_left]
  have e : decS (1 :: rowB x) = ([x], 0) := by
    have := decS_put [x] (by simp [okR, allR, h]) (by simpa using hi)
    have e2 : encB [x] = 1 :: rowB x := by simp [encB]; rfl
    rw [e2] at this
    exact this
  rw [e]
  rfl
theorem tkP_put : ∀ (l acc : List Val) (s : List UInt8), allR l = true → (∀ x ∈ l, x.in64) → tkP l.length acc (l.flatMap rowB ++ s) = some (acc ++ l, s)
  | [], acc, s, _, _ => by simp [tkP]
  | x :: l, acc, s, h, hi => by
    have hx : x.right = true := by simp [allR] at h; exact h.1
    have hl : allR l = true := by simp [allR] at h ⊢; exact h.2
    have hp := rowB_pos hx
    rw [List.flatMap_cons, List.append_assoc, List.length_cons, tkP, tkV_put x hx (hi x (by simp))]
    simp only
    rw [if_neg (by omega), List.drop_left, tkP_put l _ s hl (fun y hy => hi y (by simp [hy]))]
    simp
theorem tkR_put : ∀ (R : List Rn) (acc : List Val) (s : List UInt8) (many : Nat), (∀ r ∈ R, r.v.right = true ∧ r.v.in64 ∧ 0 < r.m ∧ r.m < 256) → many = acc.length + (R.map Rn.m).sum → tkR many acc (R.flatMap runB ++ s) = some (acc ++ R.flatMap fun r => List.replicate r.m r.v)
  | [], acc, s, many, _, hm => by rw [tkR_done (by simp at hm; omega)]; simp
  | r :: R, acc, s, many, h, hm => by
    obtain ⟨h1, h2, h3, h4⟩ := h r (by simp)
    have hp := rowB_pos h1
    simp only [List.map_cons, List.sum_cons] at hm
    have e : (r :: R).flatMap runB ++ s = octet r.m :: (rowB r.v ++ (R.flatMap runB ++ s)) := by simp [runB]
    rw [e, tkR_cons (by omega), tkV_put r.v h1 h2]
    simp only
    rw [if_neg (by omega), List.drop_left, octet_nat r.m h4, tkR_put R _ s many (fun r' hr' => h r' (by simp [hr'])) (by simp; omega)]
    simp
theorem runsV_flat : ∀ l : List Val, (runsV l).flatMap (fun r => List.replicate r.m r.v) = l ∧ (∀ r ∈ runsV l, 0 < r.m) ∧ ((runsV l).map Rn.m).sum = l.length
  | [] => by simp [runsV]
  | x :: l => by
    obtain ⟨h1, h2, h3⟩ := runsV_flat l
    rw [runsV]
    cases hr : runsV l with
    | nil =>
      rw [hr] at h1 h3
      have : l = [] := by simpa using h1.symm
      subst this
      simp
    | cons r rs =>
      rw [hr] at h1 h2 h3
      simp only
      split
      · rename_i he
        have e := eqv_iff.1 he
        refine ⟨?_, ?_, ?_⟩
        · rw [← h1, e]; simp [List.replicate_succ]
        · intro q hq
          simp only [List.mem_cons] at hq
          rcases hq with rfl | hq
          · simp
          · exact h2 q (by simp [hq])
        · simp at h3 ⊢; omega
      · refine ⟨?_, ?_, ?_⟩
        · rw [← h1]; simp
        · intro q hq
          simp only [List.mem_cons] at hq
          rcases hq with rfl | hq
          · simp
          · exact h2 q (by simpa using hq)
        · simp at h3 ⊢; omega
theorem back_runs (l : List Val) (h : allR l = true) (hi : ∀ x ∈ l, x.in64) (hl : l.length ≤ 64) (s : List UInt8) : tkR l.length [] ((runsV l).flatMap runB ++ s) = some l := by
  obtain ⟨h1, h2, h3⟩ := runsV_flat l
  rw [tkR_put (runsV l) [] s l.length (fun r hr => ?_) (by simp [h3]), h1]
  · simp
  · have := runsV_in r hr
    exact ⟨List.all_eq_true.1 h _ this.1, hi _ this.1, h2 r hr, by omega⟩
/-- Differences, one behind the other. -/
def dltL : Val → List Val → List UInt8
  | _, [] => []
  | x, y :: r => gB (zig (IntKind.i64.wrap (y.n - x.n))).toNat ++ dltL y r
theorem dltL_eq : ∀ (r : List Val) (x : Val), dlt (x :: r) r.length = dltL x r
  | [], x => by simp [dlt, dltL]
  | y :: r, x => by
    rw [dltL, ← dltL_eq r y]
    unfold dlt
    rw [List.length_cons, List.range_succ_eq_map, List.flatMap_cons]
    congr 1
    rw [List.flatMap_map]
    rfl
theorem wrap_diff (n m : Int) (hn : -9223372036854775808 ≤ n ∧ n ≤ 9223372036854775807) (hm : -9223372036854775808 ≤ m ∧ m ≤ 9223372036854775807) : IntKind.i64.wrap (n + IntKind.i64.wrap (m - n)) = m := by
  rw [IntKind.wrap_i64, IntKind.wrap_i64]; omega
theorem gB_pos (z : Nat) : 0 < (gB z).length := by
  by_cases h : z < 128
  · rw [gB_lo h]; simp
  · rw [gB_hi h]; simp
theorem tkG_zig (d : Int) (h1 : -9223372036854775808 ≤ d) (h2 : d < 9223372036854775808) (s : List UInt8) : tkG 0 0 (gB (zig d).toNat ++ s) = ((zig d).toNat, (gB (zig d).toNat).length) := by
  have hb := zig_bd h1 h2
  rw [tkG_back s _ (zig d).toNat 0 0 (Nat.le_refl _) (by simp; omega) (by omega)]
  simp
theorem int_of {x : Val} (h : x.right = true) (hk : x.k = 2) : x = intV x.n := right2 h hk
theorem tkD_put : ∀ (r : List Val) (x : Val) (acc : List Val) (s : List UInt8), x.in64 → (∀ y ∈ r, y.in64 ∧ y = intV y.n) → tkD r.length x.n acc (dltL x r ++ s) = some (acc ++ r)
  | [], x, acc, s, _, _ => by simp [tkD]
  | y :: r, x, acc, s, hx, h => by
    obtain ⟨hy1, hy2⟩ := h y (by simp)
    have hw := wrap64_bd (y.n - x.n)
    have hp := gB_pos (zig (IntKind.i64.wrap (y.n - x.n))).toNat
    rw [dltL, List.append_assoc, List.length_cons, tkD, tkG_zig _ hw.1 hw.2]
    simp only
    rw [if_neg (by omega), List.drop_left, zag_zig hw.1 hw.2, wrap_diff x.n y.n hx hy1, ← hy2, tkD_put r y _ s hy1 (fun z hz => h z (by simp [hz]))]
    simp
theorem wordV_put (n : Int) (h : -9223372036854775808 ≤ n ∧ n ≤ 9223372036854775807) (s : List UInt8) : wordV (be (u64 n) 8 ++ s) = n := by
  unfold wordV
  rw [take8]
  have := s64_u64 n 0 h
  simpa using this
theorem back_delta (l : List Val) (h : allR l = true) (hi : ∀ x ∈ l, x.in64) (h2 : allI l = true) (h0 : 0 < l.length) (s : List UInt8) : tkDl l.length (deltaB l ++ s) = some l := by
  cases l with
  | nil => simp at h0
  | cons x r =>
    have hint : ∀ y ∈ x :: r, y = intV y.n := fun y hy => int_of (List.all_eq_true.1 h y hy) (by have := List.all_eq_true.1 h2 y hy; simpa using this)
    have e : deltaB (x :: r) ++ s = be (u64 x.n) 8 ++ (dltL x r ++ s) := by
      unfold deltaB
      rw [List.length_cons, Nat.add_sub_cancel, dltL_eq]
      simp
    unfold tkDl
    rw [e, if_neg (by rw [List.length_append, be_length]; omega), wordV_put x.n (hi x (by simp)), List.length_cons, Nat.add_sub_cancel]
    have e8 : (be (u64 x.n) 8 ++ (dltL x r ++ s)).drop 8 = dltL x r ++ s := by
      have : (be (u64 x.n) 8).length = 8 := be_length _ _
      exact List.drop_left' this
    rw [e8, tkD_put r x _ s (hi x (by simp)) (fun y hy => ⟨hi y (by simp [hy]), hint y (by simp [hy])⟩), ← hint x (by simp)]
    rfl
theorem bitLen_lt (x : Nat) (h : x < 18446744073709551616) : x < 2 ^ Lib.bitLen x := by
  have : ∀ (f x : Nat), x < 2 ^ f → x < 2 ^ Lib.bitLenAux f x := by
    intro f
    induction f with
    | zero => intro x hx; simpa [Lib.bitLenAux] using hx
    | succ f ih =>
      intro x hx
      unfold Lib.bitLenAux
      split
      · rename_i h0; simp_all
      · have h1 := ih (x / 2) (by rw [Nat.pow_succ] at hx; omega)
        rw [Nat.pow_add, Nat.pow_one]
        omega
  exact this 64 x h
theorem wdt_ge (l : List Val) (m : Int) : ∀ j k, k < j → Lib.bitLen (abv l m k) ≤ wdt l m j
  | 0, k, h => by omega
  | j + 1, k, h => by
    rw [wdt]
    by_cases e : k = j
    · subst e; omega
    · have := wdt_ge l m j k (by omega)
      omega
theorem upkO_back (l : List Nat) (wd : Nat) (h : ∀ x ∈ l, x < 2 ^ wd) : upkO (packB l wd) l.length wd = some l := by
  unfold upkO
  rw [if_pos (packB_length l wd), upk_back l wd h]
theorem abv_back (l : List Val) (m : Int) (k : Nat) (hm : -9223372036854775808 ≤ m ∧ m ≤ 9223372036854775807) (hk : -9223372036854775808 ≤ (l.getD k nv).n ∧ (l.getD k nv).n ≤ 9223372036854775807) : IntKind.i64.wrap (m + (abv l m k : Int)) = (l.getD k nv).n := by
  unfold abv
  rw [IntKind.wrap_i64]
  omega
theorem least_in (l : List Val) (hi : ∀ x ∈ l, x.in64) (h0 : 0 < l.length) : ∀ j, -9223372036854775808 ≤ leastTo l j ∧ leastTo l j ≤ 9223372036854775807 := by
  have hg : ∀ k, -9223372036854775808 ≤ (l.getD k nv).n ∧ (l.getD k nv).n ≤ 9223372036854775807 := fun k => by
    by_cases hk : k < l.length
    · have e : l.getD k nv = l[k] := by simp [hk]
      rw [e]; exact hi _ (List.getElem_mem hk)
    · have e : l.getD k nv = nv := by simp [List.getElem?_eq_none (by omega : l.length ≤ k)]
      rw [e]; exact ⟨by decide, by decide⟩
  intro j
  induction j with
  | zero => exact hg 0
  | succ j ih =>
    have := hg j
    unfold leastTo
    omega
theorem range_map_getD (l : List Val) : (List.range l.length).map (fun k => l.getD k nv) = l := by
  apply List.ext_getElem?
  intro i
  by_cases hi : i < l.length
  · rw [List.getElem?_map, List.getElem?_range hi]
    simp [hi]
  · rw [List.getElem?_eq_none (by simp; omega), List.getElem?_eq_none (by omega)]
theorem back_bits (l : List Val) (h : allR l = true) (hi : ∀ x ∈ l, x.in64) (h2 : allI l = true) (h0 : 0 < l.length) : tkBt l.length (bitsB l) = some l := by
  have hw := wdt_le l (leastTo l l.length) l.length
  have hin := least_in l hi h0 l.length
  have hge := wdt_ge l (leastTo l l.length) l.length
  obtain ⟨m, hm⟩ : ∃ m, leastTo l l.length = m := ⟨_, rfl⟩
  rw [hm] at hw hin hge
  obtain ⟨wd, hwd⟩ : ∃ wd, wdt l m l.length = wd := ⟨_, rfl⟩
  rw [hwd] at hw hge
  have e : bitsB l = be (u64 m) 8 ++ (octet wd :: packB (abvs l m l.length) wd) := by unfold bitsB; rw [hm, hwd]; simp
  have hl8 : (be (u64 m) 8).length = 8 := be_length _ _
  have ho : (octet wd).toNat = wd := octet_nat wd (by omega)
  have e8 : (be (u64 m) 8 ++ (octet wd :: packB (abvs l m l.length) wd)).getD 8 0 = octet wd := by
    rw [List.getD_eq_getElem?_getD, List.getElem?_append_right (by omega), hl8]; rfl
  have e9 : (be (u64 m) 8 ++ (octet wd :: packB (abvs l m l.length) wd)).drop 9 = packB (abvs l m l.length) wd := by
    rw [show 9 = (be (u64 m) 8).length + 1 by rw [hl8], List.drop_append]; simp
  unfold tkBt
  rw [e, e8, e9, ho, if_neg (by rw [List.length_append, List.length_cons, hl8]; omega), wordV_put m hin]
  have hub := upkO_back (abvs l m l.length) wd (fun x hx => by
    unfold abvs at hx
    obtain ⟨k, hk, rfl⟩ := List.mem_map.1 hx
    have h1 := bitLen_lt (abv l m k) (abv_lt l m k)
    exact Nat.lt_of_lt_of_le h1 (Nat.pow_le_pow_right (by omega) (hge k (by simpa using hk))))
  rw [abvs_length] at hub
  rw [hub, Option.map_some, Option.some.injEq]
  unfold abvs
  rw [List.map_map]
  conv => rhs; rw [← range_map_getD l]
  apply List.map_congr_left
  intro k hk
  have hk' : k < l.length := by simpa using hk
  have eg : l.getD k nv = l[k] := by simp [hk']
  show intV _ = _
  rw [abv_back l m k hin (by rw [eg]; exact hi _ (List.getElem_mem hk'))]
  have := int_of (List.all_eq_true.1 h _ (List.getElem_mem hk')) (by have := List.all_eq_true.1 h2 _ (List.getElem_mem hk'); simpa using this)
  rw [eg, ← this]
theorem back_dict (l : List Val) (h : allR l = true) (hi : ∀ x ∈ l, x.in64) (h0 : 0 < l.length) (hl : l.length ≤ 64) : tkDc l.length (dictB l) = some l := by
  have hul := uniq_len l
  have hur := uniq_right l h
  have hum := uniq_mem l
  obtain ⟨u, hu⟩ : ∃ u, uniq l = u := ⟨_, rfl⟩
  have e : dictB l = octet u.length :: (u.flatMap rowB ++ packB (plcs u l l.length) (Lib.bitLen (u.length - 1))) := by unfold dictB; rw [hu]; simp
  rw [hu] at hul hur
  simp only [hu] at hum
  have hu0 : 0 < u.length := by
    cases l with
    | nil => simp at h0
    | cons x r => exact List.length_pos_of_mem ((hum x).2 (by simp))
  have ho : (octet u.length).toNat = u.length := octet_nat _ (by omega)
  unfold tkDc
  rw [e]
  have e0 : (octet (u.length : Int) :: (u.flatMap rowB ++ packB (plcs u l l.length) (Lib.bitLen (u.length - 1)))).getD 0 0 = octet u.length := rfl
  rw [e0, ho, if_neg (by rw [List.length_cons]; omega), List.drop_one, List.tail_cons, tkP_put u [] _ hur (fun x hx => hi x ((hum x).1 hx))]
  simp only [List.nil_append]
  have hpl : ∀ p ∈ plcs u l l.length, p < u.length := fun p hp => by
    unfold plcs at hp
    obtain ⟨k, hk, rfl⟩ := List.mem_map.1 hp
    have hk' : k < l.length := by simpa using hk
    have eg : l.getD k nv = l[k] := by simp [hk']
    exact (idxV_mem u _ ((hum _).2 (by rw [eg]; exact List.getElem_mem hk'))).1
  have hub := upkO_back (plcs u l l.length) (Lib.bitLen (u.length - 1)) (fun x hx => by
    have h1 := hpl x hx
    have h2 := bitLen_lt (u.length - 1) (by omega)
    omega)
  rw [plcs_length] at hub
  rw [hub]
  simp only
  rw [if_pos (List.all_eq_true.2 fun p hp => by simpa using hpl p hp), Option.some.injEq]
  unfold plcs
  rw [List.map_map]
  conv => rhs; rw [← range_map_getD l]
  apply List.map_congr_left
  intro k hk
  have hk' : k < l.length := by simpa using hk
  have eg : l.getD k nv = l[k] := by simp [hk']
  exact (idxV_mem u _ ((hum _).2 (by rw [eg]; exact List.getElem_mem hk'))).2.1
/-- What is written is read back, in every kind. -/
theorem back_all (k : Int) (l : List Val) (hi : ∀ x ∈ l, x.in64) (hr : refE k l = 0) (h0 : 0 < l.length) : tkA k l.length (encR k l) = some l := by
  obtain ⟨hk, hl, ha⟩ := refE_ok hr
  have hint : ofI k = true → allI l = true := fun ho => by
    unfold refE at hr
    rw [hk, ha, ho] at hr
    simp at hr
    split at hr
    · simp at hr
    · by_cases h : allI l = true
      · exact h
      · simp [h] at hr
  have e : encR k l = putB k l := by unfold encR; rw [if_pos ⟨hr, h0⟩]
  rw [e]
  unfold tkA putB
  rw [if_neg (by omega)]
  by_cases h1 : k = 1
  · subst h1; simpa using back_runs l ha hi hl []
  · rw [if_neg h1, if_neg h1]
    by_cases h2 : k = 2
    · subst h2; simpa using back_delta l ha hi (hint rfl) h0 []
    · rw [if_neg h2, if_neg h2]
      by_cases h3 : k = 3
      · subst h3; simpa using back_dict l ha hi h0 hl
      · rw [if_neg h3, if_neg h3]
        by_cases h4 : k = 4
        · subst h4; simpa using back_bits l ha hi (hint rfl) h0
        · rw [if_neg h4, if_neg h4]
          have := tkP_put l [] [] ha hi
          rw [List.append_nil] at this
          rw [this]; rfl
end Go.Proofs.Ytpekgpgfdiffcaa
end

section
namespace Go.Proofs.Ytpekgpgfdiffcaa
open Go.RowKit Go.Hay
set_option linter.unusedVariables false
set_option linter.unusedSimpArgs false

/-- Where run j begins. -/
def bas (R : List Rn) (j : Nat) : Nat := ((R.take j).map Rn.m).sum
theorem bas_succ (R : List Rn) (j : Nat) (h : j < R.length) : bas R (j + 1) = bas R j + R[j].m := by
  unfold bas
  rw [List.take_succ_eq_append_getElem h, List.map_append, List.sum_append]; simp only [List.map_cons, List.map_nil, List.sum_cons, List.sum_nil, Nat.add_zero]
theorem flat_len (R : List Rn) : (R.flatMap fun r => List.replicate r.m r.v).length = (R.map Rn.m).sum := by
  induction R with
  | nil => rfl
  | cons r R ih => simp [List.flatMap_cons, ih]
theorem bas_at (R : List Rn) (j k : Nat) (h : j < R.length) (hk : k < R[j].m) : (R.flatMap fun r => List.replicate r.m r.v)[bas R j + k]? = some R[j].v := by
  have e : R = R.take j ++ R[j] :: R.drop (j + 1) := by rw [← List.drop_eq_getElem_cons h, List.take_append_drop]
  have e2 : (R.flatMap fun r => List.replicate r.m r.v) = ((R.take j).flatMap fun r => List.replicate r.m r.v) ++ (List.replicate R[j].m R[j].v ++ (R.drop (j + 1)).flatMap fun r => List.replicate r.m r.v) := by
    conv => lhs; rw [e]
    rw [List.flatMap_append, List.flatMap_cons]
  rw [e2, List.getElem?_append_right (by rw [flat_len]; unfold bas; omega), flat_len]
  have e3 : bas R j + k - ((R.take j).map Rn.m).sum = k := by unfold bas; omega
  rw [e3, List.getElem?_append_left (by simpa using hk), List.getElem?_replicate, if_pos hk]
theorem bas_all (l : List Val) : bas (runsV l) (runsV l).length = l.length := by unfold bas; rw [List.take_length]; exact (runsV_flat l).2.2
set_option maxHeartbeats 8000000 in
set_option maxRecDepth 100000 in
theorem walkRuns (a : Option Addr) (ca : Nat) (l : List Val) (w : World) (ha : Vals w a l) (hc : l.length ≤ ca) (hm : ca ≤ maxLen) (hl : l.length ≤ 3600000000000) :
    Calls Try.prog 6 #[.slice a l.length ca] w fun e w' => e = .returned (.bool true) ∧ Kp [] w w' := by
  have cR := cRuns a ca l w ha hc hm hl
  have cS := fun W (k : Kp [] w W) => cRefRuns a ca l W (ha.kept k) hl
  obtain ⟨hflat, hpos, hsum⟩ := runsV_flat l
  have hlen := runsV_len l
  have hba := bas_all l
  obtain ⟨R, hR⟩ : ∃ R, Hid (runsV l = R) := ⟨_, rfl⟩
  rw [hR.out] at cR hflat hpos hsum hlen hba
  simp only [hR.out] at cS
  have hat : Hid (∀ j k (hj : j < R.length), k < R[j].m → l[bas R j + k]? = some R[j].v) := fun j k hj hk => by
    have := bas_at R j k hj hk
    rw [hflat] at this
    exact this
  have hpos' : Hid (∀ j (hj : j < R.length), 0 < R[j].m) := fun j hj => hpos _ (List.getElem_mem hj)
  have hba' := hid hba
  have ha' := hid ha
  clear hflat hpos hsum hba ha hR
  have hcS := hid cS
  clear cS
  unfold maxLen at hm
  go_enter Try.func6, Try.ntmps6
  go_wp2_with fail
  refine cR.mono ?_
  rintro e w1 ⟨a1, c1, rfl, hrow1, k1, hn1⟩
  have cS := hcS.out w1 k1
  have hrow1' := hid hrow1
  clear cR hcS hrow1 hn1
  go_wp2_with fail
  refine cS.mono ?_
  rintro e w2 ⟨a2, c2, rfl, hrow2, k2, hn2⟩
  have hrow2' := hid hrow2
  have kw2 := k1.trans k2 (by simp)
  clear cS hrow2 hn2
  go_wp2_with fail
  refine (cAlive w2).mono ?_
  rintro e w3 ⟨rfl, k3⟩
  have kw3 := kw2.trans k3 (by simp)
  have h1 : Hid (∀ W, Kp [] w3 W → RunE.See W a1 R) := fun W kW => by
    obtain ⟨_, _, e, hs, _⟩ := hrow1'.out.see
    injection e with e1 e2 e3
    rw [e1]
    exact hs.keptNew ((k2.trans k3 (by simp)).trans kW (by simp))
  have h2 : Hid (∀ W, Kp [] w3 W → RunE.See W a2 R) := fun W kW => by
    obtain ⟨_, _, e, hs, _⟩ := hrow2'.out.see
    injection e with e1 e2 e3
    rw [e1]
    exact hs.keptNew (k3.trans kW (by simp))
  have hnn : ((R.length : Int) != (R.length : Int)) = false := by simp
  clear hrow1' hrow2' k1 k2 k3 kw2
  go_wp2_with fail
  go_loopw [5, 23] (fun v5 i wn => ∃ j : Nat, j ≤ R.length ∧ i = .int .i64 j ∧ v5 = .int .i64 (bas R j) ∧ Kp [] w3 wn) (fun _ i _ => R.length - (intOf i).toNat)
  case atStart => exact ⟨0, Nat.zero_le _, rfl, rfl, Kp.refl _ _⟩
  case round =>
    obtain ⟨j, hj, rfl, rfl, kn⟩ := hrel
    by_cases hlt : j < R.length
    · have hx : R[j]? = some R[j] := by simp [hlt]
      obtain ⟨g1, o1, rfl, b0, b1, b2, b3, b4⟩ := runE_at (h1.out wr kn) hx
      obtain ⟨g2, o2, rfl, d0, d1, d2, d3, d4⟩ := runE_at (h2.out wr kn) hx
      have hatj := hid (fun k => hat.out j k hlt)
      have hm0 := hpos'.out j hlt
      have hbs := hid (bas_succ R j hlt)
      have hc1 : Hid (∀ W, Kp [] w3 W → W.cell? ⟨g1, o1 + j * 5, none⟩ = some (.int .i64 R[j].m) ∧ W.cell? ⟨g1, o1 + j * 5 + 1, none⟩ = some (.int .i64 R[j].v.k) ∧ W.cell? ⟨g1, o1 + j * 5 + 2, none⟩ = some (.bool R[j].v.b) ∧ W.cell? ⟨g1, o1 + j * 5 + 3, none⟩ = some (.int .i64 R[j].v.n) ∧ W.cell? ⟨g1, o1 + j * 5 + 4, none⟩ = some (.string R[j].v.t)) := fun W kW => by
        obtain ⟨_, _, e, y0, y1, y2, y3, y4⟩ := runE_at (h1.out W kW) hx
        cases e
        exact ⟨y0, y1, y2, y3, y4⟩
      have hlb : bas R j + R[j].m ≤ l.length := by
        have h9 := hatj.out (R[j].m - 1) (by omega)
        have := (List.getElem?_eq_some_iff.1 h9).1
        omega
      generalize R[j] = r at *
      obtain ⟨m, xk, xb, xn, xt⟩ := r
      dsimp only at b0 b1 b2 b3 b4 d0 d1 d2 d3 d4 hm0 hbs hc1 hlb hatj
      obtain ⟨X, HX, hX⟩ := neV ⟨xk, xb, xn, xt⟩ ⟨xk, xb, xn, xt⟩
      have hXt : X = true := by rw [HX.out]; exact eqv_self _
      subst hXt
      dsimp only at hX
      have e1 : ((m : Int) != (m : Int)) = false := by simp
      have e2 : ¬ (m : Int) < 1 := by omega
      have e3 : ¬ m < 1 := by omega
      have e4 : decide (m < 1) = false := by simp; omega
      obtain ⟨B, hB⟩ : ∃ B, Hid (bas R j = B) := ⟨_, rfl⟩
      rw [hB.out] at hbs hlb hatj ⊢
      clear HX
      go_wp2_with fail
      go_quiet ((fail))
      have kq : Kp [] w3 (wr.drewN nq) := kn.drewN nq
      generalize wr.drewN nq = wq at *
      clear b0 b1 b2 b3 b4 d0 d1 d2 d3 d4 kn
      go_wp2_with fail
      go_loopw [5, 7] (fun v5 i wn => ∃ k : Nat, k ≤ m ∧ i = .int .i64 k ∧ v5 = .int .i64 ((B + k : Nat) : Int) ∧ Kp [] w3 wn) (fun _ i _ => m - (intOf i).toNat)
      case atStart => exact ⟨0, Nat.zero_le _, rfl, rfl, kq⟩
      case round =>
        clear kq
        obtain ⟨k, hk, rfl, rfl, kn⟩ := hrel
        obtain ⟨y0, y1, y2, y3, y4⟩ := hc1.out wr kn
        by_cases hkm : k < m
        · have hlk := hatj.out k hkm
          have hBk : B + k < l.length := (List.getElem?_eq_some_iff.1 hlk).1
          obtain ⟨g, o, rfl, z0, z1, z2, z3⟩ := (ha'.out.kept (kw3.trans kn (by simp))).at (B + k) hBk
          have hle := (List.getElem?_eq_some_iff.1 hlk).2
          rw [hle] at z0 z1 z2 z3
          dsimp only at z0 z1 z2 z3
          clear hle
          have hlk' := hid hlk
          clear hlk
          obtain ⟨P, hP⟩ : ∃ P, Hid (B + k = P) := ⟨_, rfl⟩
          rw [hP.out] at z0 z1 z2 z3 hBk ⊢
          have f1 : ¬ ((l.length : Int) ≤ (P : Int)) := by omega
          have f2 : ¬ (l.length ≤ P) := by omega
          have f4 : decide (l.length ≤ P) = false := by simp; omega
          go_wp2_with fail
          go_quiet ((fail))
          have kq : Kp [] w3 (wr.drewN nq) := kn.drewN nq
          generalize wr.drewN nq = wq at *
          clear y0 y1 y2 y3 y4 z0 z1 z2 z3 kn
          go_wp2_with fail
          exact ⟨⟨k + 1, by omega, by go_num, by rw [show B + (k + 1) = P + 1 by rw [← hP.out]; omega]; go_num, kq⟩, by simp [intOf]; omega⟩
        · obtain rfl : k = m := by omega
          go_wp2_with fail
          exact ⟨⟨j + 1, by omega, by go_num, by rw [hbs.out], kn⟩, by simp [intOf]; omega⟩
    · obtain rfl : j = R.length := by omega
      rw [hba'.out]
      go_wp2_with fail
      go_ret
      exact ⟨by simp, kw3.trans kn (by simp)⟩
theorem runsWalk (a : Option Addr) (len ca : Nat) (l : List Val) (w : World) (hs : Vals w a l) (hlen : len = l.length) (hl : l.length ≤ ca) (hm : ca ≤ maxLen) (hr : len * 40 ≤ 140737488351232) :
    Calls Try.prog 6 #[.slice a len ca] w fun e w' => e = .returned (.bool true) ∧ Below w.heap.size w w' := by
  subst hlen
  exact (walkRuns a ca l w hs hl hm (by omega)).mono fun e w' ⟨h1, h2⟩ => ⟨h1, h2.below⟩
end Go.Proofs.Ytpekgpgfdiffcaa
end

section
namespace Go.Proofs.Ytpekgpgfdiffcaa
open Go.ChangeShapes Go.WideShapes Go.ChangeAt Go.RowKit Go.Hay
set_option linter.unusedVariables false

theorem Try.own : ownKnob Try.prog.godebug = none := by kernel_rfl
theorem Try.laidOut : laidOutB Try.prog = true := by kernel_rfl
theorem Try.bytesB : Try.prog.bytesOf 5 = 1 := by kernel_rfl
theorem Try.cellsB : Try.prog.cellsOf 5 = 1 := by kernel_rfl

/-- How many values a slice's datum holds, its spare places too. -/
def capD {H : Type} : DataW H → Nat
  | .slice e sp => e.length + sp.length
  | _ => 0

theorem openBytes {H : Type} {enc : TypeId × Value → H} {W : World} {a : Option Addr} {len cap : Nat} {d : DataW H} {ps : List MemPlace}
    (h : DataW.Trod enc Try.prog W 0 (fun _ => true) true 24 (.slice a len cap) d ps) : ∃ bs : List UInt8, len = bs.length ∧ Sees W a bs ∧ bs.length ≤ cap ∧ cap ≤ maxLen ∧ capD d = cap := by
  obtain ⟨fuel, hf⟩ := h
  rcases open_ints Try.underlying24 Try.underlying5 Try.cellsB hf with ⟨hcs, hx⟩ | ⟨x, l, c, zs, hcs, _, hl, hm, hz, hx, hcell, hwz⟩
  · simp [Value.cells] at hcs
    obtain ⟨rfl, rfl, rfl⟩ := hcs
    cases hx
    exact ⟨[], rfl, Sees.nil _ _, Nat.le_refl _, Nat.zero_le _, rfl⟩
  · simp [Value.cells] at hcs
    obtain ⟨rfl, rfl, rfl⟩ := hcs
    cases hx
    have hz' : zs.length = cap := by simpa using hz
    refine ⟨(zs.take len).map octet, by simp; omega, ?_, by simp; omega, hm, by simp [capD, lits]; omega⟩
    cases hlen : len with
    | zero => exact .inl (by simp)
    | succ n =>
      obtain ⟨b, off, spot⟩ := x
      have hc0 := hcell 0 (by omega)
      have hspot : spot = none := by simpa [Addr.add] using World.cell?_spot hc0
      subst hspot
      refine .inr ⟨b, off, rfl, fun j u hu => ?_⟩
      rw [List.getElem?_map, List.getElem?_take] at hu
      split at hu
      · rename_i hj
        have hjz : j < zs.length := by omega
        have hc := hcell j hjz
        rw [List.getElem?_eq_getElem hjz] at hu
        cases hu
        have hw := hwz zs[j] (List.getElem_mem hjz)
        have hbd := bounds_u8 hw
        rw [octet_toNat _ hbd.1 hbd.2, ← Addr.add_lit, hc]
        simp [List.getD, List.getElem?_eq_getElem hjz]
      · cases hu

/-- The form's own reach, of a slice of bytes among the arguments. -/
theorem reachBytesOf {H : Type} {d : DataW H} (h : (DataW.weights Try.prog 24 d).all (· ≤ reachBytes) = true) : capD d ≤ 140737488351232 := by
  cases d with
  | slice e sp =>
    have h2 : (e.length + sp.length) * Try.prog.bytesOf 5 ≤ reachBytes := of_decide_eq_true (List.all_eq_true.1 h ((e.length + sp.length) * Try.prog.bytesOf 5) (by simp [DataW.weights, Try.underlying24]))
    rw [Try.bytesB] at h2
    simp only [reachBytes] at h2
    simp only [capD]
    omega
  | _ => simp [capD]
theorem cellsV : Try.prog.cellsOf 41 = 4 := by kernel_rfl
theorem cellsI : Try.prog.cellsOf 3 = 1 := by kernel_rfl
theorem cellsB : Try.prog.cellsOf 4 = 1 := by kernel_rfl
theorem cellsL : Try.prog.cellsOf 2 = 1 := by kernel_rfl
theorem cellsS : Try.prog.cellsOf 9 = 1 := by kernel_rfl

/-- What an int64's bounds and a string's length are. -/
def Val.ok (x : Val) : Prop := (-9223372036854775808 ≤ x.k ∧ x.k ≤ 9223372036854775807) ∧ (-9223372036854775808 ≤ x.n ∧ x.n ≤ 9223372036854775807) ∧ x.t.size ≤ maxLen

theorem openVal4 {H : Type} {enc : TypeId × Value → H} {W : World} {fuel : Nat} {c0 c1 c2 c3 : Value} {x : DataW H × List MemPlace} (h : DataW.trod enc Try.prog W 0 (fun _ => true) true fuel 41 [c0, c1, c2, c3] = some x) :
    ∃ t : Val, t.ok ∧ c0 = .int .i64 t.k ∧ c1 = .bool t.b ∧ c2 = .int .i64 t.n ∧ c3 = .string t.t := by
  obtain ⟨xs, n, _, rfl, _, hlen, hf⟩ := DataW.trod_struct Try.underlying41 h
  match xs, hlen with
  | [y0, y1, y2, y3], _ =>
    have h0 := hf 0 _ rfl
    have h1 := hf 1 _ rfl
    have h2 := hf 2 _ rfl
    have h3 := hf 3 _ rfl
    simp [cellsI, cellsB, cellsL, cellsS] at h0 h1 h2 h3
    obtain ⟨k, e0, _, w0⟩ := DataW.trod_int Try.underlying3 h0
    obtain ⟨b, e1, _⟩ := DataW.trod_bool Try.underlying4 h1
    obtain ⟨n2, e2, _, w2⟩ := DataW.trod_int Try.underlying2 h2
    obtain ⟨s, e3, _, w3⟩ := DataW.trod_string Try.underlying9 h3
    simp at e0 e1 e2 e3
    exact ⟨⟨k, b, n2, s⟩, ⟨bounds_i64 w0, bounds_i64 w2, w3⟩, e0, e1, e2, e3⟩

set_option maxRecDepth 100000 in
theorem openVal {H : Type} {enc : TypeId × Value → H} {W : World} {base : Nat} {v : Value} {d : DataW H} {ps : List MemPlace} (hv : Value.okWide Try.prog W .any base 41 v)
    (h : DataW.Trod enc Try.prog W 0 (fun _ => true) true 41 v d ps) : ∃ x : Val, v = x.v ∧ x.ok := by
  obtain ⟨cs, rfl, hsz⟩ := okWide_struct Try.underlying41 hv
  rw [cellsV] at hsz
  obtain ⟨fuel, hf⟩ := h
  obtain ⟨l⟩ := cs
  match l, hsz, hf with
  | [c0, c1, c2, c3], _, hf =>
    obtain ⟨t, ok, e0, e1, e2, e3⟩ := openVal4 (c0 := c0) (c1 := c1) (c2 := c2) (c3 := c3) hf
    subst e0 e1 e2 e3
    exact ⟨t, rfl, ok⟩

theorem openVals {H : Type} {enc : TypeId × Value → H} {W : World} {a : Option Addr} {len cap : Nat} {d : DataW H} {ps : List MemPlace}
    (h : DataW.Trod enc Try.prog W 0 (fun _ => true) true 22 (.slice a len cap) d ps) : ∃ l : List Val, len = l.length ∧ Vals W a l ∧ l.length ≤ cap ∧ cap ≤ maxLen ∧ ∀ x ∈ l, x.ok := by
  obtain ⟨fuel, hf⟩ := h
  rcases Go.Deep.open_slice Try.underlying22 hf with ⟨hcs, hx⟩ | ⟨x, len', cap', m, n, D, Pl, hcs, _, hl, hmx, hm, hx, hcell⟩
  · simp [Value.cells] at hcs
    obtain ⟨rfl, rfl, rfl⟩ := hcs
    cases hx
    exact ⟨[], rfl, .inl rfl, Nat.le_refl _, Nat.zero_le _, by simp⟩
  · simp [Value.cells] at hcs
    obtain ⟨rfl, rfl, rfl⟩ := hcs
    cases hx
    have hm' : m = cap := by simpa using hm
    subst hm'
    rw [cellsV] at hcell
    have : Inhabited Val := ⟨⟨0, false, 0, ⟨#[]⟩⟩⟩
    obtain ⟨B, hB⟩ := Go.Deep.choose_lt (α := Val) (n := len) (p := fun i t => t.ok ∧ W.cell? (x.add (i * 4)) = some (.int .i64 t.k) ∧ W.cell? ((x.add (i * 4)).add 1) = some (.bool t.b) ∧ W.cell? ((x.add (i * 4)).add 2) = some (.int .i64 t.n) ∧ W.cell? ((x.add (i * 4)).add 3) = some (.string t.t)) (fun i hi => by
      obtain ⟨cs', h1, h2⟩ := hcell i (by omega)
      obtain ⟨_, hlen, hc⟩ := World.cells?_some h1
      match cs', hlen with
      | [c0, c1, c2, c3], _ =>
        obtain ⟨t, g1, e0, e1, e2, e3⟩ := openVal4 h2
        have q0 := hc 0 (by omega)
        have q1 := hc 1 (by omega)
        have q2 := hc 2 (by omega)
        have q3 := hc 3 (by omega)
        simp at q0 q1 q2 q3
        subst e0 e1 e2 e3
        exact ⟨t, g1, by simpa [Addr.add] using q0, q1, q2, q3⟩)
    refine ⟨(List.range len).map B, by simp, ?_, by simpa using hl, hmx, ?_⟩
    · cases hlen : len with
      | zero => exact .inl rfl
      | succ k =>
        obtain ⟨b, off, spot⟩ := x
        have hc0 := (hB 0 (by omega)).2.1
        have hspot : spot = none := by simpa [Addr.add] using World.cell?_spot hc0
        subst hspot
        refine .inr ⟨b, off, rfl, fun j y hy => ?_⟩
        rw [← hlen] at hy
        have hj : j < len := by have := (List.getElem?_eq_some_iff.1 hy).1; simpa using this
        rw [List.getElem?_map, List.getElem?_range hj] at hy
        cases hy
        obtain ⟨g1, q0, q1, q2, q3⟩ := hB j hj
        rw [Addr.add_lit] at q0
        rw [Addr.add_lit, Addr.add_lit] at q1 q2 q3
        exact ⟨q0, q1, q2, q3⟩
    · intro y hy
      obtain ⟨i, hi, rfl⟩ := List.mem_map.1 hy
      exact (hB i (List.mem_range.1 hi)).1
end Go.Proofs.Ytpekgpgfdiffcaa
end

section
namespace Go.Proofs.Ytpekgpgfdiffcaa
open Go.ChangeShapes Go.WideShapes Go.ChangeAt Go.RowKit Go.Hay
set_option linter.unusedVariables false

/-- A nil slice has no room. -/
theorem nilVals {H : Type} {enc : TypeId × Value → H} {W : World} {a : Option Addr} {len cap : Nat} {d : DataW H} {ps : List MemPlace}
    (h : DataW.Trod enc Try.prog W 0 (fun _ => true) true 22 (.slice a len cap) d ps) : a = none → cap = 0 := by
  obtain ⟨fuel, hf⟩ := h
  rcases Go.Deep.open_slice Try.underlying22 hf with ⟨hcs, hx⟩ | ⟨x, len', cap', m, n, D, Pl, hcs, _, hl, hmx, hm, hx, hcell⟩
  · simp [Value.cells] at hcs
    intro _
    exact hcs.2.2
  · simp [Value.cells] at hcs
    intro h
    rw [h] at hcs
    cases hcs.1
theorem bytesV : Try.prog.bytesOf 41 = 40 := by kernel_rfl
/-- The form's own reach, of a slice of values among the arguments. -/
theorem reachVals {H : Type} {enc : TypeId × Value → H} {W : World} {a : Option Addr} {len cap : Nat} {d : DataW H} {ps : List MemPlace}
    (h : DataW.Trod enc Try.prog W 0 (fun _ => true) true 22 (.slice a len cap) d ps) (hr : (DataW.weights Try.prog 22 d).all (· ≤ reachBytes) = true) : len * 40 ≤ 140737488351232 := by
  obtain ⟨fuel, hf⟩ := h
  rcases Go.Deep.open_slice Try.underlying22 hf with ⟨hcs, hx⟩ | ⟨x, len', cap', m, n, D, Pl, hcs, _, hl, hmx, hm, hx, hcell⟩
  · simp [Value.cells] at hcs
    obtain ⟨rfl, rfl, rfl⟩ := hcs
    omega
  · simp [Value.cells] at hcs
    obtain ⟨rfl, rfl, rfl⟩ := hcs
    cases hx
    have h2 := of_decide_eq_true (List.all_eq_true.1 hr ((((List.range len).map D).length + ((List.range' len (m - len)).map D).length) * Try.prog.bytesOf 41) (by simp [DataW.weights, Try.underlying22]))
    rw [bytesV] at h2
    simp [reachBytes] at h2
    omega

end Go.Proofs.Ytpekgpgfdiffcaa
end

section
namespace Go.Proofs.Ytpekgpgfdiffcaa
open Go.ChangeShapes Go.WideShapes Go.ChangeAt Go.RowKit Go.Hay
set_option linter.unusedVariables false

set_option maxRecDepth 100000 in
theorem encodeRunsContract (H : Type) (enc : TypeId × Value → H) (W : World) (base : Nat) (args : Array Value) (ds gs : List (DataW H)) (before : List MemPlace)
    (hval : ∀ (j : Nat) t v, Try.f6.params[j]? = some t → args[j]? = some v → Value.okWide Try.prog W .any base t v)
    (hW : DataW.Whole enc Try.prog Try.f6.params.toList Rows.encodeRunsSpec.vars false W args.toList ds gs before)
    (hsz : (DataW.weightsEach Try.prog (Try.f6.params.toList ++ (OpenSpec.ofChange Rows.encodeRunsSpec).bare.plain.varTypes Try.prog) (ds ++ gs)).all (· ≤ reachBytes) = true) :
    Calls Try.prog 6 args W fun e W' => ∃ v, e = .returned v ∧ Rows.encodeRunsSpec.post enc Try.prog Try.f6 false true false false W args v W' := by
  have hW' := hW
  obtain ⟨p, q, hA0, hV, rfl, hfz, hnd⟩ := hW
  have hA : DataW.TrodAll enc Try.prog W 0 (fun _ => true) true Try.f6.params.toList args.toList ds p := hA0
  rw [Try.params6] at hA hval hsz
  obtain ⟨v0, vs0, d0, ds0, p0, q0, hargs, rfl, rfl, h0, r0⟩ := trodAll_cons hA
  obtain ⟨rfl, rfl, rfl⟩ := trodAll_nil r0
  obtain rfl : args = #[v0] := by cases args; simp_all
  obtain ⟨rfl, rfl⟩ := trodVars_none hV
  obtain ⟨a0, len0, cap0, rfl⟩ := okWide_slice Try.underlying22 (hval 0 22 v0 rfl rfl)
  have k0 := h0
  have lt0 : ∀ x ∈ p0, x.block < W.heap.size := by obtain ⟨m, hm⟩ := k0; exact DataW.trod_lt m _ _ _ hm
  obtain ⟨l0, hlen0, hs0, hl0, hm0, hok0⟩ := openVals h0
  have hnil0 := nilVals k0
  have hr0 := reachVals k0 (List.all_eq_true.2 fun x hx => List.all_eq_true.1 hsz x (by simp [DataW.weightsEach]; first | exact .inl hx | exact .inr hx | exact .inr (.inl hx) | exact .inr (.inr hx) | exact hx))
  clear hA0
  refine (runsWalk a0 len0 cap0 l0 W hs0 hlen0 hl0 hm0 hr0).mono fun e W' ⟨he, bel⟩ => ?_
  subst he
  exact ⟨_, rfl, _, _, _, [], _, [], hW', trodAll_mk1 (shut_bool Try.underlying4 _), (trodAll_cons_mk (Below.trod Try.laidOut (by kernel_rfl) (of_decide_eq_true (by kernel_rfl)) k0 bel lt0) trodAll_mk0), rfl, bel.frame _, fun h => by cases h⟩

set_option maxRecDepth 100000 in
theorem encodeRunsLifted (os : Os) (started : os.Started) (H : Type) (enc : TypeId × Value → H) :
    ReturnsInHanded {} Try.checked os 6 .any (Rows.encodeRunsSpec.pre6 enc Try.prog Try.f6 Rows.encodeRunsRow.domain false) (Rows.encodeRunsSpec.post enc Try.prog Try.f6 false true false false) := by
  refine returnsInHanded_of_change_sized (C := Try.checked) Try.own started (by kernel_rfl) Try.func6
    (ChangeSpec.witness6 (enc := enc) (C := Try.checked) false ⟨#[], #[.slice none 0 0], []⟩ 8 (by kernel_rfl) (by kernel_rfl) (by kernel_rfl) (by kernel_rfl)) ?_
  intro W base args ds gs before hval hW _ hsz _
  exact encodeRunsContract H enc W base args ds gs before hval hW hsz

theorem EncodeRuns_holds : Rows.EncodeRunsSaid :=
  OpenClaim.holds_of_wide 6 Try.f6 rfl rfl rfl rfl rfl rfl rfl ⟨rfl, rfl, rfl, rfl, rfl⟩ rfl rfl rfl rfl rfl (by kernel_rfl) Try.func6 (by kernel_rfl)
    (of_decide_eq_true (by kernel_rfl)) (by unfold Func.isWrapper; first | (rw [if_pos (by decide +kernel)]; kernel_rfl) | (rw [if_neg (by decide +kernel)]; exact ⟨rfl, rfl⟩))
    (fun os started H enc _ => encodeRunsLifted os started H enc)

#print axioms EncodeRuns_holds
end Go.Proofs.Ytpekgpgfdiffcaa
end

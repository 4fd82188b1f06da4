/- Which values fit a column; and which are right, by the reference. -/
import Derived.Test.YtboibllahibicaaDoorVrig
import Derived.Lib.Strings
namespace Go.Proofs.YtboibllahibicaaDoor
open Go.RowKit Go.Hay
set_option linter.unusedVariables false
set_option linter.unusedSimpArgs false

/-- Which values fit a column of that kind. -/
def fitsV (ck : Int) (cn : Bool) (x : Val) : Bool := x.right && (x.k == ck || (x.k == 0 && cn))

set_option maxHeartbeats 2000000 in
set_option maxRecDepth 100000 in
theorem cFits (nm : ByteArray) (ck : Int) (cn : Bool) (x : Val) (w : World) : Calls Tryd.prog 16 #[.agg #[.string nm, .int .i64 ck, .bool cn], x.v] w fun e w' => e = .returned (.bool (fitsV ck cn x)) ∧ Kp [] w w' := by
  obtain ⟨r, HR⟩ : ∃ r : Bool, Hid (Val.right x = r) := ⟨_, rfl⟩
  have hRt := cRight x
  obtain ⟨k, b, n, t⟩ := x
  unfold Val.v
  unfold Val.v at hRt
  rw [HR.out] at hRt
  have kw : Kp [] w ((w.alloc (.cells #[.string nm, .int .i64 ck, .bool cn] 23)).alloc (.cells #[.int .i64 k, .bool b, .int .i64 n, .string t] 25)) := ((Kp.refl _ _).alloc _).alloc _
  have bC := (Box3.new w (.string nm) (.int .i64 ck) (.bool cn) 23).kept (S := []) ((Kp.refl _ _).alloc (.cells #[.int .i64 k, .bool b, .int .i64 n, .string t] 25)) (by simp)
  have bA := Box4.at (w := w.alloc (.cells #[.string nm, .int .i64 ck, .bool cn] 23)) (w.heap.size + 1) (by simp) (.int .i64 k) (.bool b) (.int .i64 n) (.string t) 25
  go_enter Tryd.func16, Tryd.ntmps16
  go_wp2_with fail
  refine (hRt _).mono ?_
  rintro e w1 ⟨rfl, k1⟩
  have bC1 := bC.kept k1 (by simp)
  have bA1 := bA.kept k1 (by simp)
  have kw1 := kw.trans k1 (by simp)
  have q0 := bA1.c0; have q1 := bA1.c1; have q2 := bA1.c2; have q3 := bA1.c3
  have z0 := bC1.c0; have z1 := bC1.c1; have z2 := bC1.c2
  clear bA bC kw k1 hRt
  cases r
  · go_wp2_with fail
    go_ret
    exact ⟨by simp [fitsV, HR.out], kw1⟩
  · obtain ⟨X, HX, hX⟩ := eqV ⟨k, b, n, t⟩ ⟨0, false, 0, ⟨#[]⟩⟩
    have hXk : Hid (X = (k == 0)) := by
      show X = _
      rw [HX.out]
      have := HR.out
      by_cases h0 : k = 0
      · subst h0
        simp [Val.right] at this
        simp [Val.eqv, emptyL, this]
      · simp [Val.eqv, h0]
    by_cases hk : k = ck
    · subst hk
      go_wp2_with fail
      go_quiet ((fail))
      go_wp2_with fail
      go_ret
      exact ⟨by rw [show fitsV k cn ⟨k, b, n, t⟩ = true by simp [fitsV, HR.out]]; rfl, kw1.drewN _⟩
    · have hkk : (k == ck) = false := by simpa using hk
      cases X
      · go_wp2_with fail
        first
          | go_region_with (first | (go_at_call 9; refine (cNull _).mono ?_; rintro e w2 ⟨rfl, k2⟩; have bA2 := bA1.drew.kept k2 (by simp); have y0 := bA2.c0; have y1 := bA2.c1; have y2 := bA2.c2; have y3 := bA2.c3))
          | fail
        all_goals go_wp2_with fail
        all_goals go_ret
        all_goals exact ⟨by rw [show fitsV ck cn ⟨k, b, n, t⟩ = false by simp [fitsV, HR.out, hkk, ← hXk.out]]; rfl, kw1.drew.trans k2 (by simp)⟩
      · go_wp2_with fail
        go_region_held3 (fun w' => w'.cell? ⟨w.heap.size + 1, 0, none⟩ = some (.int .i64 k) ∧ w'.cell? ⟨w.heap.size + 1, 1, none⟩ = some (.bool b) ∧ w'.cell? ⟨w.heap.size + 1, 2, none⟩ = some (.int .i64 n) ∧ w'.cell? ⟨w.heap.size + 1, 3, none⟩ = some (.string t) ∧ w'.cell? ⟨w.heap.size, 1, none⟩ = some (.int .i64 ck) ∧ w'.cell? ⟨w.heap.size, 2, none⟩ = some (.bool cn)) (first | go_keep) (first | (go_at_call 9; refine (cNull _).mono ?_; rintro e w2 ⟨rfl, k2⟩; have bA2 := bA1.drew.kept k2 (by simp); have y0 := bA2.c0; have y1 := bA2.c1; have y2 := bA2.c2; have y3 := bA2.c3; have bC2 := bC1.drew.kept k2 (by simp); have x1 := bC2.c1; have x2 := bC2.c2))
        go_wp2_with fail
        go_ret
        exact ⟨by rw [show fitsV ck cn ⟨k, b, n, t⟩ = cn by simp [fitsV, HR.out, hkk, ← hXk.out]]; rfl, kw1.drew.trans k2 (by simp)⟩

theorem size_of_empty (t : ByteArray) (h : t.toList = []) : t.size = 0 := by
  have h2 := congrArg List.length h
  rw [Go.Lib.toList_data] at h2
  rw [Go.Lib.size_eq]
  exact h2
set_option maxHeartbeats 2000000 in
set_option maxRecDepth 100000 in
theorem cRefRight (x : Val) (w : World) : Calls Tryd.prog 15 #[x.v] w fun e w' => e = .returned (.bool x.right) ∧ Kp [] w w' := by
  obtain ⟨k, b, n, t⟩ := x
  unfold Val.v
  by_cases h0 : k = 0
  · subst h0
    obtain ⟨X, HX, hX⟩ := eqV ⟨0, b, n, t⟩ ⟨0, false, 0, ⟨#[]⟩⟩
    cases X
    · have hr : Hid (Val.right ⟨0, b, n, t⟩ = false) := by show _ = _; have := HX.out; simp [Val.eqv, emptyL] at this; simp [Val.right]; grind
      go_enter Tryd.func15, Tryd.ntmps15
      go_wp2_with fail
      go_ret
      exact ⟨by rw [hr.out]; rfl, ((Kp.refl _ _).alloc _).alloc _⟩
    · have hr : Hid (Val.right ⟨0, b, n, t⟩ = true) := by show _ = _; have := HX.out; simp [Val.eqv, emptyL] at this; simp [Val.right, this]
      have hsz : decide ((t.size : Int) ≤ 64) = true := by have := HX.out; simp [Val.eqv, emptyL] at this; have := size_of_empty t (by simp_all); simp [this]
      go_enter Tryd.func15, Tryd.ntmps15
      go_wp2_with fail
      go_ret
      exact ⟨by rw [hr.out]; rfl, ((Kp.refl _ _).alloc _).alloc _⟩
  by_cases h1 : k = 1
  · subst h1
    obtain ⟨X, HX, hX⟩ := eqV ⟨1, b, n, t⟩ ⟨1, b, 0, ⟨#[]⟩⟩
    cases X
    · have hr : Hid (Val.right ⟨1, b, n, t⟩ = false) := by show _ = _; have := HX.out; simp [Val.eqv, emptyL] at this; simp [Val.right]; grind
      go_enter Tryd.func15, Tryd.ntmps15
      go_wp2_with fail
      go_ret
      exact ⟨by rw [hr.out]; rfl, ((Kp.refl _ _).alloc _).alloc _⟩
    · have hr : Hid (Val.right ⟨1, b, n, t⟩ = true) := by show _ = _; have := HX.out; simp [Val.eqv, emptyL] at this; simp [Val.right, this]
      have hsz : decide ((t.size : Int) ≤ 64) = true := by have := HX.out; simp [Val.eqv, emptyL] at this; have := size_of_empty t (by simp_all); simp [this]
      go_enter Tryd.func15, Tryd.ntmps15
      go_wp2_with fail
      go_ret
      exact ⟨by rw [hr.out]; rfl, ((Kp.refl _ _).alloc _).alloc _⟩
  by_cases h2 : k = 2
  · subst h2
    obtain ⟨X, HX, hX⟩ := eqV ⟨2, b, n, t⟩ ⟨2, false, n, ⟨#[]⟩⟩
    cases X
    · have hr : Hid (Val.right ⟨2, b, n, t⟩ = false) := by show _ = _; have := HX.out; simp [Val.eqv, emptyL] at this; simp [Val.right]; grind
      go_enter Tryd.func15, Tryd.ntmps15
      go_wp2_with fail
      go_ret
      exact ⟨by rw [hr.out]; rfl, ((Kp.refl _ _).alloc _).alloc _⟩
    · have hr : Hid (Val.right ⟨2, b, n, t⟩ = true) := by show _ = _; have := HX.out; simp [Val.eqv, emptyL] at this; simp [Val.right, this]
      have hsz : decide ((t.size : Int) ≤ 64) = true := by have := HX.out; simp [Val.eqv, emptyL] at this; have := size_of_empty t (by simp_all); simp [this]
      go_enter Tryd.func15, Tryd.ntmps15
      go_wp2_with fail
      go_ret
      exact ⟨by rw [hr.out]; rfl, ((Kp.refl _ _).alloc _).alloc _⟩
  by_cases h3 : k = 3
  · subst h3
    obtain ⟨X, HX, hX⟩ := eqV ⟨3, b, n, t⟩ ⟨3, false, 0, t⟩
    cases X
    · have hr : Hid (Val.right ⟨3, b, n, t⟩ = false) := by show _ = _; have := HX.out; simp [Val.eqv] at this; simp [Val.right]; grind
      go_enter Tryd.func15, Tryd.ntmps15
      go_wp2_with fail
      go_ret
      exact ⟨by rw [hr.out]; rfl, ((Kp.refl _ _).alloc _).alloc _⟩
    · have hr : Hid (Val.right ⟨3, b, n, t⟩ = decide ((t.size : Int) ≤ 64)) := by show _ = _; have := HX.out; simp [Val.eqv] at this; simp [Val.right, this]
      go_enter Tryd.func15, Tryd.ntmps15
      go_wp2_with fail
      go_ret
      exact ⟨by rw [hr.out]; rfl, ((Kp.refl _ _).alloc _).alloc _⟩
  · have d1 : (k == 1) = false := by simpa using h1
    have d2 : (k == 2) = false := by simpa using h2
    have d3 : (k == 3) = false := by simpa using h3
    have hr : Hid (Val.right ⟨k, b, n, t⟩ = false) := by show _ = _; simp [Val.right, h0, h1, h2, h3]
    by_cases hn : 0 ≤ k
    · have g1 : ¬ k ≤ 3 := by omega
      go_enter Tryd.func15, Tryd.ntmps15
      go_wp2_with fail
      go_ret
      exact ⟨by rw [hr.out]; rfl, ((Kp.refl _ _).alloc _).alloc _⟩
    · go_enter Tryd.func15, Tryd.ntmps15
      go_wp2_with fail
      go_ret
      exact ⟨by rw [hr.out]; rfl, ((Kp.refl _ _).alloc _).alloc _⟩
set_option maxHeartbeats 2000000 in
set_option maxRecDepth 100000 in
theorem cRefFits (nm : ByteArray) (ck : Int) (cn : Bool) (x : Val) (w : World) : Calls Tryd.prog 17 #[.agg #[.string nm, .int .i64 ck, .bool cn], x.v] w fun e w' => e = .returned (.bool (fitsV ck cn x)) ∧ Kp [] w w' := by
  obtain ⟨r, HR⟩ : ∃ r : Bool, Hid (Val.right x = r) := ⟨_, rfl⟩
  have hRt := cRefRight x
  obtain ⟨k, b, n, t⟩ := x
  unfold Val.v
  unfold Val.v at hRt
  rw [HR.out] at hRt
  have kw : Kp [] w ((w.alloc (.cells #[.string nm, .int .i64 ck, .bool cn] 23)).alloc (.cells #[.int .i64 k, .bool b, .int .i64 n, .string t] 25)) := ((Kp.refl _ _).alloc _).alloc _
  have bC := (Box3.new w (.string nm) (.int .i64 ck) (.bool cn) 23).kept (S := []) ((Kp.refl _ _).alloc (.cells #[.int .i64 k, .bool b, .int .i64 n, .string t] 25)) (by simp)
  have bA := Box4.at (w := w.alloc (.cells #[.string nm, .int .i64 ck, .bool cn] 23)) (w.heap.size + 1) (by simp) (.int .i64 k) (.bool b) (.int .i64 n) (.string t) 25
  go_enter Tryd.func17, Tryd.ntmps17
  go_wp2_with fail
  refine (hRt _).mono ?_
  rintro e w1 ⟨rfl, k1⟩
  have bC1 := bC.kept k1 (by simp)
  have bA1 := bA.kept k1 (by simp)
  have kw1 := kw.trans k1 (by simp)
  have q0 := bA1.c0; have q1 := bA1.c1; have q2 := bA1.c2; have q3 := bA1.c3
  have z0 := bC1.c0; have z1 := bC1.c1; have z2 := bC1.c2
  clear bA bC kw k1 hRt
  cases r
  · go_wp2_with fail
    go_ret
    exact ⟨by simp [fitsV, HR.out], kw1⟩
  · by_cases hk : k = ck
    · subst hk
      go_wp2_with fail
      go_ret
      exact ⟨by rw [show fitsV k cn ⟨k, b, n, t⟩ = true by simp [fitsV, HR.out]]; rfl, kw1⟩
    · have hkk : (k == ck) = false := by simpa using hk
      by_cases h0 : k = 0
      · subst h0
        go_wp2_with fail
        go_ret
        exact ⟨by rw [show fitsV ck cn ⟨0, b, n, t⟩ = cn by simp [fitsV, HR.out, hkk]]; rfl, kw1⟩
      · have h00 : (k == 0) = false := by simpa using h0
        go_wp2_with fail
        go_ret
        exact ⟨by rw [show fitsV ck cn ⟨k, b, n, t⟩ = false by simp [fitsV, HR.out, hkk, h00]]; rfl, kw1⟩
end Go.Proofs.YtboibllahibicaaDoor

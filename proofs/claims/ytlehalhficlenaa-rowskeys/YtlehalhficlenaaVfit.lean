/- Which values fit a column; and which are right, by the reference. -/
import Derived.Test.YtlehalhficlenaaVrig
import Derived.Lib.Strings
namespace Go.Proofs.Ytlehalhficlenaa
open Go.RowKit Go.Hay
set_option linter.unusedVariables false
set_option linter.unusedSimpArgs false

/-- Which values fit a column of that kind. -/
def fitsV (ck : Int) (cn : Bool) (x : Val) : Bool := x.right && (x.k == ck || (x.k == 0 && cn))

theorem size_of_empty (t : ByteArray) (h : t.toList = []) : t.size = 0 := by
  have h2 := congrArg List.length h
  rw [Go.Lib.toList_data] at h2
  rw [Go.Lib.size_eq]
  exact h2
set_option maxHeartbeats 2000000 in
set_option maxRecDepth 100000 in
theorem cRefRight (x : Val) (w : World) : Calls Try.prog 27 #[x.v] w fun e w' => e = .returned (.bool x.right) ∧ Kp [] w w' := by
  obtain ⟨k, b, n, t⟩ := x
  unfold Val.v
  by_cases h0 : k = 0
  · subst h0
    obtain ⟨X, HX, hX⟩ := eqV ⟨0, b, n, t⟩ ⟨0, false, 0, ⟨#[]⟩⟩
    cases X
    · have hr : Hid (Val.right ⟨0, b, n, t⟩ = false) := by show _ = _; have := HX.out; simp [Val.eqv, emptyL] at this; simp [Val.right]; grind
      go_enter Try.func27, Try.ntmps27
      go_wp2_with fail
      go_ret
      exact ⟨by rw [hr.out]; rfl, ((Kp.refl _ _).alloc _).alloc _⟩
    · have hr : Hid (Val.right ⟨0, b, n, t⟩ = true) := by show _ = _; have := HX.out; simp [Val.eqv, emptyL] at this; simp [Val.right, this]
      have hsz : decide ((t.size : Int) ≤ 64) = true := by have := HX.out; simp [Val.eqv, emptyL] at this; have := size_of_empty t (by simp_all); simp [this]
      go_enter Try.func27, Try.ntmps27
      go_wp2_with fail
      go_ret
      exact ⟨by rw [hr.out]; rfl, ((Kp.refl _ _).alloc _).alloc _⟩
  by_cases h1 : k = 1
  · subst h1
    obtain ⟨X, HX, hX⟩ := eqV ⟨1, b, n, t⟩ ⟨1, b, 0, ⟨#[]⟩⟩
    cases X
    · have hr : Hid (Val.right ⟨1, b, n, t⟩ = false) := by show _ = _; have := HX.out; simp [Val.eqv, emptyL] at this; simp [Val.right]; grind
      go_enter Try.func27, Try.ntmps27
      go_wp2_with fail
      go_ret
      exact ⟨by rw [hr.out]; rfl, ((Kp.refl _ _).alloc _).alloc _⟩
    · have hr : Hid (Val.right ⟨1, b, n, t⟩ = true) := by show _ = _; have := HX.out; simp [Val.eqv, emptyL] at this; simp [Val.right, this]
      have hsz : decide ((t.size : Int) ≤ 64) = true := by have := HX.out; simp [Val.eqv, emptyL] at this; have := size_of_empty t (by simp_all); simp [this]
      go_enter Try.func27, Try.ntmps27
      go_wp2_with fail
      go_ret
      exact ⟨by rw [hr.out]; rfl, ((Kp.refl _ _).alloc _).alloc _⟩
  by_cases h2 : k = 2
  · subst h2
    obtain ⟨X, HX, hX⟩ := eqV ⟨2, b, n, t⟩ ⟨2, false, n, ⟨#[]⟩⟩
    cases X
    · have hr : Hid (Val.right ⟨2, b, n, t⟩ = false) := by show _ = _; have := HX.out; simp [Val.eqv, emptyL] at this; simp [Val.right]; grind
      go_enter Try.func27, Try.ntmps27
      go_wp2_with fail
      go_ret
      exact ⟨by rw [hr.out]; rfl, ((Kp.refl _ _).alloc _).alloc _⟩
    · have hr : Hid (Val.right ⟨2, b, n, t⟩ = true) := by show _ = _; have := HX.out; simp [Val.eqv, emptyL] at this; simp [Val.right, this]
      have hsz : decide ((t.size : Int) ≤ 64) = true := by have := HX.out; simp [Val.eqv, emptyL] at this; have := size_of_empty t (by simp_all); simp [this]
      go_enter Try.func27, Try.ntmps27
      go_wp2_with fail
      go_ret
      exact ⟨by rw [hr.out]; rfl, ((Kp.refl _ _).alloc _).alloc _⟩
  by_cases h3 : k = 3
  · subst h3
    obtain ⟨X, HX, hX⟩ := eqV ⟨3, b, n, t⟩ ⟨3, false, 0, t⟩
    cases X
    · have hr : Hid (Val.right ⟨3, b, n, t⟩ = false) := by show _ = _; have := HX.out; simp [Val.eqv] at this; simp [Val.right]; grind
      go_enter Try.func27, Try.ntmps27
      go_wp2_with fail
      go_ret
      exact ⟨by rw [hr.out]; rfl, ((Kp.refl _ _).alloc _).alloc _⟩
    · have hr : Hid (Val.right ⟨3, b, n, t⟩ = decide ((t.size : Int) ≤ 64)) := by show _ = _; have := HX.out; simp [Val.eqv] at this; simp [Val.right, this]
      go_enter Try.func27, Try.ntmps27
      go_wp2_with fail
      go_ret
      exact ⟨by rw [hr.out]; rfl, ((Kp.refl _ _).alloc _).alloc _⟩
  · have d1 : (k == 1) = false := by simpa using h1
    have d2 : (k == 2) = false := by simpa using h2
    have d3 : (k == 3) = false := by simpa using h3
    have hr : Hid (Val.right ⟨k, b, n, t⟩ = false) := by show _ = _; simp [Val.right, h0, h1, h2, h3]
    by_cases hn : 0 ≤ k
    · have g1 : ¬ k ≤ 3 := by omega
      go_enter Try.func27, Try.ntmps27
      go_wp2_with fail
      go_ret
      exact ⟨by rw [hr.out]; rfl, ((Kp.refl _ _).alloc _).alloc _⟩
    · go_enter Try.func27, Try.ntmps27
      go_wp2_with fail
      go_ret
      exact ⟨by rw [hr.out]; rfl, ((Kp.refl _ _).alloc _).alloc _⟩
end Go.Proofs.Ytlehalhficlenaa

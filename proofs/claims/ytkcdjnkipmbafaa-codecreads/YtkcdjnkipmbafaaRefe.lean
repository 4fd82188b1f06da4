/- The reference's End. -/
import Derived.Test.YtkcdjnkipmbafaaRefr
namespace Go.Proofs.Ytkcdjnkipmbafaa
open Go.RowKit Go.Hay
set_option linter.unusedVariables false

theorem endE_more (full : List UInt8) (at' : Nat) (h : at' < full.length) : endE (full.drop at') 0 = 13 := by
  unfold endE
  rw [if_pos]
  simp
  omega
theorem endE_done (full : List UInt8) (at' : Nat) (h : ¬ at' < full.length) : endE (full.drop at') 0 = 0 := by
  unfold endE
  rw [if_neg]
  simp
  omega
theorem endE_bad (full : List UInt8) (at' : Nat) (e : Int) (h : ¬ e = 0) : endE (full.drop at') e = e := by
  unfold endE
  rw [if_neg]
  exact fun hh => h hh.1

/-- What End leaves. -/
def EndPost (full : List UInt8) (at' : Nat) (e0 : Int) (w : World) (e : Ending) (w' : World) : Prop := e = .returned (.int .i64 (endE (full.drop at') e0)) ∧ Kp [] w w'

set_option maxHeartbeats 2000000 in
set_option maxRecDepth 100000 in
theorem cRefEnd (b : Option Addr) (cb : Nat) (full : List UInt8) (at' : Nat) (e0 : Int) (w : World) :
    Calls Try.prog 19 #[.agg #[.slice b full.length cb, .int .i64 at', .int .i64 e0]] w (EndPost full at' e0 w) := by
  by_cases he : e0 = 0
  · subst he
    go_enter Try.func19, Try.ntmps19
    go_wp2_with fail
    · exact bodyPost_ret (v := .int .i64 13) (by simp [results, Try.results19, go_sem]) rfl ⟨ret_int (endE_more _ _ (by assumption)).symm, (Kp.refl _ _).alloc _⟩
    · exact bodyPost_ret (v := .int .i64 0) (by simp [results, Try.results19, go_sem]) rfl ⟨ret_int (endE_done _ _ (by assumption)).symm, (Kp.refl _ _).alloc _⟩
  · have he' : (e0 == 0) = false := by simpa using he
    go_enter Try.func19, Try.ntmps19
    go_wp2_with fail
    exact bodyPost_ret (v := .int .i64 e0) (by simp [results, Try.results19, go_sem]) rfl ⟨ret_int (endE_bad _ _ _ he).symm, (Kp.refl _ _).alloc _⟩
end Go.Proofs.Ytkcdjnkipmbafaa

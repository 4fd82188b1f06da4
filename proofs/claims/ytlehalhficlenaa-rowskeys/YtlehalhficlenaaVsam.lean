/- Whether two rows are the same, by the reference. -/
import Derived.Test.YtlehalhficlenaaVmr
namespace Go.Proofs.Ytlehalhficlenaa
open Go.RowKit Go.Hay
set_option linter.unusedVariables false
set_option linter.unusedSimpArgs false

theorem neV (x y : Val) : ∃ X : Bool, Hid (X = x.eqv y) ∧ ∀ w : World, (binOp .neq 35 (.agg #[.int .i64 x.k, .bool x.b, .int .i64 x.n, .string x.t]) (.agg #[.int .i64 y.k, .bool y.b, .int .i64 y.n, .string y.t])).run Try.prog w = .ok (.bool (!X)) w := by
  obtain ⟨X, HX, hX⟩ := eqV x y
  refine ⟨X, HX, fun w => ?_⟩
  have h := hX w
  rw [run_eql_struct] at h
  rw [run_neq_struct]
  cases hr : (Op.equalIn 10000 35 (.agg #[.int .i64 x.k, .bool x.b, .int .i64 x.n, .string x.t]) (.agg #[.int .i64 y.k, .bool y.b, .int .i64 y.n, .string y.t])).run Try.prog w with
  | ok b w' => rw [hr] at h; simp [Result.andThen] at h; obtain ⟨rfl, rfl⟩ := h; rfl
  | halt p w' => rw [hr] at h; cases h

set_option maxHeartbeats 2000000 in
set_option maxRecDepth 100000 in
theorem cSame (a b : Option Addr) (ca cb : Nat) (la lb : List Val) (w : World) (ha : Vals w a la) (hb : Vals w b lb) (hla : la.length ≤ 9223372036854775807) (hlb : lb.length ≤ 9223372036854775807) :
    Calls Try.prog 11 #[.slice a la.length ca, .slice b lb.length cb] w fun e w' => e = .returned (.bool (sameV la lb)) ∧ Kp [] w w' := by
  by_cases hE : la.length = lb.length
  · have hE' := hid hE
    go_enter Try.func11, Try.ntmps11
    go_wp2_with fail
    go_loopw [5] (fun i wn => ∃ j : Nat, j ≤ la.length ∧ i = .int .i64 j ∧ Hid (sameV (la.drop j) (lb.drop j) = sameV la lb) ∧ Kp [] w wn) (fun i _ => la.length - (intOf i).toNat)
    case atStart => exact ⟨0, Nat.zero_le _, rfl, rfl, Kp.refl _ _⟩
    case round =>
      obtain ⟨j, hj, rfl, hr, hk⟩ := hrel
      by_cases hja : j < la.length
      · have hjb : j < lb.length := by rw [← hE'.out]; exact hja
        obtain ⟨g, o, rfl, a0, a1, a2, a3⟩ := (ha.kept hk).at j hja
        obtain ⟨g', o', rfl, b0, b1, b2, b3⟩ := (hb.kept hk).at j hjb
        have hst := hid (same_step la lb j hja hjb)
        generalize la[j] = x at *
        generalize lb[j] = y at *
        obtain ⟨X, HX, hX⟩ := neV x y
        have hst2 : Hid (sameV (la.drop j) (lb.drop j) = (X && sameV (la.drop (j + 1)) (lb.drop (j + 1)))) := by show _ = _; rw [hst.out, HX.out]
        clear hst HX
        obtain ⟨xk, xb, xn, xt⟩ := x
        obtain ⟨yk, yb, yn, yt⟩ := y
        dsimp only at a0 a1 a2 a3 b0 b1 b2 b3 hX
        cases X
        · have hn : Hid (sameV la lb = false) := by show _ = _; rw [← hr.out, hst2.out]; rfl
          clear hr hst2
          go_wp2_with fail
          go_quiet ((fail))
          go_wp2_with fail
          go_ret
          exact ⟨by rw [hn.out]; rfl, hk.drewN _⟩
        · have hn : Hid (sameV (la.drop (j + 1)) (lb.drop (j + 1)) = sameV la lb) := by show _ = _; rw [← hr.out, hst2.out]; rfl
          clear hr hst2
          go_wp2_with fail
          go_quiet ((fail))
          go_wp2_with fail
          exact ⟨⟨j + 1, by omega, by go_num, hn, hk.drewN _⟩, by simp [intOf]; omega⟩
      · have hjl : j = la.length := by omega
        subst hjl
        have hn : Hid (sameV la lb = true) := by show _ = _; rw [← hr.out, List.drop_length, hE'.out, List.drop_length]; rfl
        clear hr
        go_wp2_with fail
        go_ret
        exact ⟨by rw [hn.out]; rfl, hk⟩
  · have hn : Hid (sameV la lb = false) := same_length la lb hE
    have hee : ((la.length : Int) == (lb.length : Int)) = false := by simp; omega
    clear hE
    go_enter Try.func11, Try.ntmps11
    go_wp2_with fail
    go_ret
    exact ⟨by rw [hn.out]; rfl, Kp.refl _ _⟩
end Go.Proofs.Ytlehalhficlenaa

/- The writer's Word. -/
import Derived.Test.YtkcdjnkipmbafaaWrb
namespace Go.Proofs.Ytkcdjnkipmbafaa
open Go.RowKit Go.Hay
set_option linter.unusedVariables false

set_option maxHeartbeats 400000 in
theorem wWord (p : Nat) (v : Value) (bs : List UInt8) (n : Int) (w : World) (h : Wr w p v bs) (hb : bs.length + 8 ≤ 200000000000000) (h0 : 0 ≤ n) (h1 : n < 4294967296) :
    Calls Try.prog 36 #[.pointer (some ⟨p, 0, none⟩), .int .u32 n] w fun e w' => e = .returned (.tuple #[]) ∧ ∃ v', Wr w' p v' (bs ++ be n.toNat 4) ∧ Wrote p v w v' w' := by
  go_enter Try.func36, Try.ntmps36
  go_wp2_with fail
  refine (wNumber p v bs n 4 _ h (by omega) h0 (by omega) (by omega)).mono ?_
  rintro e w2 ⟨rfl, v2, hw2, hwr2⟩
  go_wp2_with fail
  go_end0
  exact ⟨rfl, v2, hw2, hwr2⟩

end Go.Proofs.Ytkcdjnkipmbafaa

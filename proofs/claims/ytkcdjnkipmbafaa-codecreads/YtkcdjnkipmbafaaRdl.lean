/- The reader's Word and Long. -/
import Derived.Test.YtkcdjnkipmbafaaRdb
namespace Go.Proofs.Ytkcdjnkipmbafaa
open Go.RowKit Go.Hay
set_option linter.unusedVariables false

set_option maxHeartbeats 400000 in
theorem rWord (p : Nat) (D : List Nat) (bs : List UInt8) (e0 : Int) (w : World) (h : Rd w p D bs e0) :
    Calls Try.prog 42 #[.pointer (some ⟨p, 0, none⟩)] w fun e w' => ∃ out bs' e', takeS 4 bs e0 = (out, bs', e') ∧ e = .returned (.int .u32 (num out)) ∧ Rd w' p D bs' e' ∧ Kp [p] w w' := by
  go_enter Try.func42, Try.ntmps42
  go_wp2_with fail
  refine (rTake p D bs e0 4 _ h (by omega)).mono ?_
  rintro e w1 ⟨out, bs', e', a, c, ht, rfl, hs, hD, hl, hr, hk⟩
  have hlen := takeS_len _ _ _ ht
  have hnum := num_lt_of out 4 hlen
  have HT := hid ht
  clear ht
  go_wp2_with fail
  refine (cNumber a _ c out _ hs rfl (by omega)).mono ?_
  rintro e w2 ⟨rfl, rfl⟩
  go_wp2_with fail
  go_ret
  exact ⟨out, bs', e', HT.out, rfl, hr, hk⟩

set_option maxHeartbeats 400000 in
theorem rLong (p : Nat) (D : List Nat) (bs : List UInt8) (e0 : Int) (w : World) (h : Rd w p D bs e0) :
    Calls Try.prog 43 #[.pointer (some ⟨p, 0, none⟩)] w fun e w' => ∃ out bs' e', takeS 8 bs e0 = (out, bs', e') ∧ e = .returned (.int .u64 (num out)) ∧ Rd w' p D bs' e' ∧ Kp [p] w w' := by
  go_enter Try.func43, Try.ntmps43
  go_wp2_with fail
  refine (rTake p D bs e0 8 _ h (by omega)).mono ?_
  rintro e w1 ⟨out, bs', e', a, c, ht, rfl, hs, hD, hl, hr, hk⟩
  have hlen := takeS_len _ _ _ ht
  have hnum := num_lt_of out 8 hlen
  have HT := hid ht
  clear ht
  go_wp2_with fail
  refine (cNumber a _ c out _ hs rfl (by omega)).mono ?_
  rintro e w2 ⟨rfl, rfl⟩
  go_wp2_with fail
  go_ret
  exact ⟨out, bs', e', HT.out, rfl, hr, hk⟩

end Go.Proofs.Ytkcdjnkipmbafaa

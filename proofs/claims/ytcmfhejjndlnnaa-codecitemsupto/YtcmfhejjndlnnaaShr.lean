/- What reads one thing of a list. -/
import Derived.Test.YtcmfhejjndlnnaaRdc
namespace Go.Proofs.Ytcmfhejjndlnnaa
open Go.RowKit Go.Hay
set_option linter.unusedVariables false
set_option linter.unusedSimpArgs false
set_option maxHeartbeats 4000000 in
set_option maxRecDepth 100000 in
theorem cShort (p : Nat) (D : List Nat) (bs : List UInt8) (e0 : Int) (w : World) (h : Rd w p D bs e0) (hb : bs.length ≤ 200000000000000) :
    Calls Try.prog 8 #[.pointer (some ⟨p, 0, none⟩)] w fun e w' => ∃ out bs' e' v, textS 9 bs e0 = (out, bs', e') ∧ e = .returned v ∧ Row w' v out ∧ (∀ k ∈ own v, w.heap.size ≤ k) ∧ Rd w' p D bs' e' ∧ Kp [p] w w' := by
  go_enter Try.func8, Try.ntmps8
  go_wp2_with fail
  refine (rText p D bs e0 9 _ h (by omega) (by omega) hb).mono ?_
  rintro e w1 ⟨out, bs', e', v, ht, rfl, hr, ho, hd, hk⟩
  have HT := hid ht
  clear ht
  go_wp2_with fail
  go_ret
  exact ⟨out, bs', e', v, HT.out, rfl, hr, ho, hd, hk⟩
end Go.Proofs.Ytcmfhejjndlnnaa

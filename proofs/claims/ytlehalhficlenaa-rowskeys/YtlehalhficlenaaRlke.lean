/- The law: every key's bytes are the document's; all bytes are read as their key, or refused. -/
import Derived.Test.YtlehalhficlenaaRunr
import Derived.Test.YtlehalhficlenaaRkyr
import Derived.Test.YtlehalhficlenaaRkmt
import Derived.Test.YtlehalhficlenaaVsam
namespace Go.Proofs.Ytlehalhficlenaa
open Go.RowKit Go.Hay
set_option linter.unusedVariables false
set_option linter.unusedSimpArgs false

set_option maxHeartbeats 8000000 in
set_option maxRecDepth 100000 in
theorem keysWalk (a : Option Addr) (na ca : Nat) (l : List Val) (b : Option Addr) (nb cb : Nat) (bs : List UInt8) (w : World) (ha : Vals w a l) (hna : na = l.length) (hca : l.length ≤ ca) (hma : ca ≤ maxLen)
    (hb : Sees w b bs) (hnb : nb = bs.length) (hcb : bs.length ≤ cb) (hmb : cb ≤ maxLen) (hrb : cb ≤ 140737488351232) :
    Calls Try.prog 3 #[.slice a na ca, .slice b nb cb] w fun e w' => e = .returned (.bool true) ∧ Below w.heap.size w w' := by
  subst hna hnb
  have hla : l.length ≤ 9223372036854775807 := by unfold maxLen at hma; omega
  go_enter Try.func3, Try.ntmps3
  go_wp2_with fail
  refine (cKey a ca l w ha hla).mono ?_
  rintro e w1 ⟨a1, c1, X, E, hX, rfl, hr1, hn1, hl1⟩
  have k1 := hn1.kp
  go_wp2_with fail
  refine (cRefKey a ca l w1 (ha.kept k1) hla).mono ?_
  rintro e w2 ⟨a2, c2, Y, F, hY, rfl, hr2, hn2, hl2⟩
  obtain ⟨rfl, rfl⟩ : X = Y ∧ E = F := by have := hX.out.symm.trans hY.out; simp only [Prod.mk.injEq] at this; exact this
  have k2 := k1.trans hn2.kp (by simp)
  have s1 := seesKeep (rowSees hr1).1 hn2.kp
  have s2 := (rowSees hr2).1
  clear hX hY hr1 hn1 hr2 hn2 k1
  go_wp2_with fail
  refine (cUnkey b cb bs w2 (seesKeep hb k2) hcb hmb (by omega)).mono ?_
  rintro e w4 ⟨a4, c4, r, G, hG, rfl, hv4, hr16, hc4, hm4, _, k4⟩
  have k5 := k2.trans k4 (by simp)
  go_wp2_with fail
  refine (cRefUnkey b cb bs w4 (seesKeep hb k5) hcb hmb (by omega)).mono ?_
  rintro e w5 ⟨a5, c5, s, G2, hG2, rfl, hv5, _, hc5, hm5, _, k6⟩
  obtain ⟨rfl, rfl⟩ : r = s ∧ G = G2 := by have := hG.out.symm.trans hG2.out; simp only [Prod.mk.injEq] at this; exact this
  have k7 := k5.trans k6 (by simp)
  have kx := k4.trans k6 (by simp)
  clear hG hG2
  go_wp2_with fail
  refine (cAlive _).mono ?_
  rintro e w6 ⟨rfl, k8⟩
  have ky := kx.trans k8 (by simp)
  have k9 := k7.trans k8 (by simp)
  have cv1 := convSees (seesKeep s1 ky) c1
  have cv2 := convSees (seesKeep s2 ky) c2
  have hsame := cSame a4 a5 c4 c5 r r w6 ((hv4.kept k6).kept k8) (hv5.kept k8) (by omega) (by omega)
  rw [same_self] at hsame
  generalize (⟨X.toArray⟩ : ByteArray) = T at *
  go_wp2_with fail
  refine hsame.mono ?_
  rintro e w7 ⟨rfl, k10⟩
  go_wp2_with fail
  go_ret
  exact ⟨by simp, (k9.trans k10 (by simp)).below⟩
end Go.Proofs.Ytlehalhficlenaa

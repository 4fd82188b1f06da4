/- The law: what is written is read as it was, as a row and as a key; what is read is written as the same bytes. -/
import Derived.Test.YtlehalhficlenaaRunk
import Derived.Test.YtlehalhficlenaaRkmt
import Derived.Test.YtlehalhficlenaaVsam
namespace Go.Proofs.Ytlehalhficlenaa
open Go.RowKit Go.Hay
set_option linter.unusedVariables false
set_option linter.unusedSimpArgs false

set_option maxHeartbeats 8000000 in
set_option maxRecDepth 100000 in
theorem backWalk (a : Option Addr) (na ca : Nat) (l : List Val) (b : Option Addr) (nb cb : Nat) (bs : List UInt8) (w : World) (ha : Vals w a l) (hna : na = l.length) (hca : l.length ≤ ca) (hma : ca ≤ maxLen) (hi : ∀ x ∈ l, x.in64)
    (hb : Sees w b bs) (hnb : nb = bs.length) (hcb : bs.length ≤ cb) (hmb : cb ≤ maxLen) (hrb : cb ≤ 140737488351232) :
    Calls Try.prog 4 #[.slice a na ca, .slice b nb cb] w fun e w' => e = .returned (.bool true) ∧ Below w.heap.size w w' := by
  subst hna hnb
  have hla : l.length ≤ 9223372036854775807 := by unfold maxLen at hma; omega
  have hE := cEncode a ca l w ha hla
  have hK := fun w' (k : Kp [] w w') => cKey a ca l w' (ha.kept k) hla
  by_cases hok : okR l = true
  · have hS : encS l = (encB l, 0) := by unfold encS; rw [if_pos hok]
    have hT : keyS l = (keysB l, 0) := by unfold keyS; rw [if_pos hok]
    have hD := decS_put l hok hi
    have hU := unkS_put l hok hi
    have h16 := okR_len hok
    rw [hS] at hE
    rw [hT] at hK
    generalize encB l = X at *
    generalize keysB l = Y at *
    clear hS hT
    go_enter Try.func4, Try.ntmps4
    go_wp2_with fail
    refine hE.mono ?_
    rintro e w1 ⟨a1, c1, X', E, hX, rfl, hr1, hn1, hl1⟩
    obtain ⟨rfl, rfl⟩ : X = X' ∧ 0 = E := by have := hX.out; simp only [Prod.mk.injEq] at this; exact this
    have k1 := hn1.kp
    clear hE hX
    go_wp2_with fail
    refine (hK _ k1).mono ?_
    rintro e w2 ⟨a2, c2, Y', F, hY, rfl, hr2, hn2, hl2⟩
    obtain ⟨rfl, rfl⟩ : Y = Y' ∧ 0 = F := by have := hY.out; simp only [Prod.mk.injEq] at this; exact this
    have k2 := k1.trans hn2.kp (by simp)
    clear hK hY
    obtain ⟨s1, sc1, sm1⟩ := rowSees hr1
    obtain ⟨s2, sc2, sm2⟩ := rowSees hr2
    go_wp2_with fail
    refine (cAlive _).mono ?_
    rintro e w3 ⟨rfl, j3⟩
    have k3 := k2.trans j3 (by simp)
    have hDX := cDecode a1 c1 X w3 (seesKeep (seesKeep s1 hn2.kp) j3) sc1 sm1
    rw [hD] at hDX
    clear hD
    go_wp2_with fail
    refine hDX.mono ?_
    rintro e w4 ⟨a4, c4, r4, G4, hG4, rfl, hv4, _, _, _, _, j4⟩
    obtain ⟨rfl, rfl⟩ : l = r4 ∧ 0 = G4 := by have := hG4.out; simp only [Prod.mk.injEq] at this; exact this
    have k4 := k3.trans j4 (by simp)
    have hUY := cUnkey a2 c2 Y w4 (seesKeep (seesKeep s2 j3) j4) sc2 sm2 (by omega)
    rw [hU] at hUY
    clear hU hG4 hDX
    go_wp2_with fail
    refine hUY.mono ?_
    rintro e w5 ⟨a5, c5, r5, G5, hG5, rfl, hv5, _, _, _, _, j5⟩
    obtain ⟨rfl, rfl⟩ : l = r5 ∧ 0 = G5 := by have := hG5.out; simp only [Prod.mk.injEq] at this; exact this
    have k5 := k4.trans j5 (by simp)
    have hs1 := cSame a4 a c4 ca l l w5 (hv4.kept j5) (ha.kept k5) hla hla
    rw [same_self] at hs1
    clear hUY hG5
    go_wp2_with fail
    refine hs1.mono ?_
    rintro e w6 ⟨rfl, j6⟩
    have k6 := k5.trans j6 (by simp)
    have hs2 := cSame a5 a c5 ca l l w6 (hv5.kept j6) (ha.kept k6) hla hla
    rw [same_self] at hs2
    go_wp2_with fail
    refine hs2.mono ?_
    rintro e w7 ⟨rfl, j7⟩
    have k7 := k6.trans j7 (by simp)
    clear hs1 hs2 hv4 hv5 j3 j4 j5 j6 j7 k1 k2 k3 k4 k5 k6 s1 s2 sc1 sm1 sc2 sm2 hr1 hr2 hn1 hn2 hl1 hl2
    go_wp2_with fail
    refine (cDecode b cb bs w7 (seesKeep hb k7) hcb hmb).mono ?_
    rintro e v1 ⟨p0, d0, r, G, hG, rfl, hvr, hr16, hd0, hmd0, _, i1⟩
    have n1 := k7.trans i1 (by simp)
    by_cases hG0 : G = 0
    · subst hG0
      obtain ⟨hokr, heb⟩ := decS_back bs r hG.out
      have hEr := cEncode p0 d0 r v1 hvr (by omega)
      have hSr : encS r = (bs, 0) := by unfold encS; rw [if_pos hokr, heb]
      rw [hSr] at hEr
      clear hokr heb hSr hG
      go_wp2_with fail
      refine hEr.mono ?_
      rintro e v2 ⟨p3, d3, Y, G, hY, rfl, hrY, hnY, _⟩
      obtain ⟨rfl, rfl⟩ : bs = Y ∧ 0 = G := by have := hY.out; simp only [Prod.mk.injEq] at this; exact this
      have n2 := n1.trans hnY.kp (by simp)
      have cv1 := convSees (rowSees hrY).1 d3
      have cv2 := convSees (seesKeep hb n2) cb
      clear hY hEr
      generalize (⟨bs.toArray⟩ : ByteArray) = U at *
      have hUU : (U.toList == U.toList) = true := by simp
      go_wp2_with fail
      refine (cUnkey b cb bs v2 (seesKeep hb n2) hcb hmb (by omega)).mono ?_
      rintro e u1 ⟨p1, d1, s, H, hH, rfl, hvs, hs16, hd1, hmd1, _, j1⟩
      have m1 := n2.trans j1 (by simp)
      by_cases hH0 : H = 0
      · subst hH0
        obtain ⟨hoks, hkb⟩ := unkS_back bs s hH.out
        have hKs := cKey p1 d1 s u1 hvs (by omega)
        have hSs : keyS s = (bs, 0) := by unfold keyS; rw [if_pos hoks, hkb]
        rw [hSs] at hKs
        clear hoks hkb hSs hH
        go_wp2_with fail
        refine hKs.mono ?_
        rintro e u2 ⟨p2, d2, Y, G, hY, rfl, hrY, hnY, _⟩
        obtain ⟨rfl, rfl⟩ : bs = Y ∧ 0 = G := by have := hY.out; simp only [Prod.mk.injEq] at this; exact this
        have m2 := m1.trans hnY.kp (by simp)
        have cv1 := convSees (rowSees hrY).1 d2
        have cv2 := convSees (seesKeep hb m2) cb
        clear hY hKs
        generalize (⟨bs.toArray⟩ : ByteArray) = U at *
        go_wp2_with fail
        go_ret
        exact ⟨by simp, m2.below⟩
      · have hHe : (H == 0) = false := by simpa using hH0
        have hHn : (H != 0) = true := by simpa using hH0
        clear hH hH0
        go_wp2_with fail
        go_ret
        exact ⟨rfl, m1.below⟩
    · have hGe : (G == 0) = false := by simpa using hG0
      clear hG hG0
      go_wp2_with fail
      refine (cUnkey b cb bs v1 (seesKeep hb n1) hcb hmb (by omega)).mono ?_
      rintro e u1 ⟨p1, d1, s, H, hH, rfl, hvs, hs16, hd1, hmd1, _, j1⟩
      have m1 := n1.trans j1 (by simp)
      by_cases hH0 : H = 0
      · subst hH0
        obtain ⟨hoks, hkb⟩ := unkS_back bs s hH.out
        have hKs := cKey p1 d1 s u1 hvs (by omega)
        have hSs : keyS s = (bs, 0) := by unfold keyS; rw [if_pos hoks, hkb]
        rw [hSs] at hKs
        clear hoks hkb hSs hH
        go_wp2_with fail
        refine hKs.mono ?_
        rintro e u2 ⟨p2, d2, Y, G, hY, rfl, hrY, hnY, _⟩
        obtain ⟨rfl, rfl⟩ : bs = Y ∧ 0 = G := by have := hY.out; simp only [Prod.mk.injEq] at this; exact this
        have m2 := m1.trans hnY.kp (by simp)
        have cv1 := convSees (rowSees hrY).1 d2
        have cv2 := convSees (seesKeep hb m2) cb
        clear hY hKs
        generalize (⟨bs.toArray⟩ : ByteArray) = U at *
        go_wp2_with fail
        go_ret
        exact ⟨by simp, m2.below⟩
      · have hHe : (H == 0) = false := by simpa using hH0
        have hHn : (H != 0) = true := by simpa using hH0
        clear hH hH0
        go_wp2_with fail
        go_ret
        exact ⟨rfl, m1.below⟩
  · have hS : encS l = ([], 30) := by unfold encS; rw [if_neg hok]
    have hT : keyS l = ([], 30) := by unfold keyS; rw [if_neg hok]
    rw [hS] at hE
    rw [hT] at hK
    clear hS hT
    go_enter Try.func4, Try.ntmps4
    go_wp2_with fail
    refine hE.mono ?_
    rintro e w1 ⟨a1, c1, X', E, hX, rfl, hr1, hn1, hl1⟩
    obtain ⟨rfl, rfl⟩ : [] = X' ∧ 30 = E := by have := hX.out; simp only [Prod.mk.injEq] at this; exact this
    have k1 := hn1.kp
    clear hE hX
    go_wp2_with fail
    refine (hK _ k1).mono ?_
    rintro e w2 ⟨a2, c2, Y', F, hY, rfl, hr2, hn2, hl2⟩
    obtain ⟨rfl, rfl⟩ : [] = Y' ∧ 30 = F := by have := hY.out; simp only [Prod.mk.injEq] at this; exact this
    have k2 := k1.trans hn2.kp (by simp)
    clear hK hY
    go_wp2_with fail
    refine (cAlive _).mono ?_
    rintro e w3 ⟨rfl, j3⟩
    have k3 := k2.trans j3 (by simp)
    clear k1 k2 j3 hr1 hr2 hn1 hn2
    go_wp2_with fail
    refine (cDecode b cb bs w3 (seesKeep hb k3) hcb hmb).mono ?_
    rintro e v1 ⟨p0, d0, r, G, hG, rfl, hvr, hr16, hd0, hmd0, _, i1⟩
    have n1 := k3.trans i1 (by simp)
    by_cases hG0 : G = 0
    · subst hG0
      obtain ⟨hokr, heb⟩ := decS_back bs r hG.out
      have hEr := cEncode p0 d0 r v1 hvr (by omega)
      have hSr : encS r = (bs, 0) := by unfold encS; rw [if_pos hokr, heb]
      rw [hSr] at hEr
      clear hokr heb hSr hG
      go_wp2_with fail
      refine hEr.mono ?_
      rintro e v2 ⟨p3, d3, Y, G, hY, rfl, hrY, hnY, _⟩
      obtain ⟨rfl, rfl⟩ : bs = Y ∧ 0 = G := by have := hY.out; simp only [Prod.mk.injEq] at this; exact this
      have n2 := n1.trans hnY.kp (by simp)
      have cv1 := convSees (rowSees hrY).1 d3
      have cv2 := convSees (seesKeep hb n2) cb
      clear hY hEr
      generalize (⟨bs.toArray⟩ : ByteArray) = U at *
      have hUU : (U.toList == U.toList) = true := by simp
      go_wp2_with fail
      refine (cUnkey b cb bs v2 (seesKeep hb n2) hcb hmb (by omega)).mono ?_
      rintro e u1 ⟨p1, d1, s, H, hH, rfl, hvs, hs16, hd1, hmd1, _, j1⟩
      have m1 := n2.trans j1 (by simp)
      by_cases hH0 : H = 0
      · subst hH0
        obtain ⟨hoks, hkb⟩ := unkS_back bs s hH.out
        have hKs := cKey p1 d1 s u1 hvs (by omega)
        have hSs : keyS s = (bs, 0) := by unfold keyS; rw [if_pos hoks, hkb]
        rw [hSs] at hKs
        clear hoks hkb hSs hH
        go_wp2_with fail
        refine hKs.mono ?_
        rintro e u2 ⟨p2, d2, Y, G, hY, rfl, hrY, hnY, _⟩
        obtain ⟨rfl, rfl⟩ : bs = Y ∧ 0 = G := by have := hY.out; simp only [Prod.mk.injEq] at this; exact this
        have m2 := m1.trans hnY.kp (by simp)
        have cv1 := convSees (rowSees hrY).1 d2
        have cv2 := convSees (seesKeep hb m2) cb
        clear hY hKs
        generalize (⟨bs.toArray⟩ : ByteArray) = U at *
        go_wp2_with fail
        go_ret
        exact ⟨by simp, m2.below⟩
      · have hHe : (H == 0) = false := by simpa using hH0
        have hHn : (H != 0) = true := by simpa using hH0
        clear hH hH0
        go_wp2_with fail
        go_ret
        exact ⟨rfl, m1.below⟩
    · have hGe : (G == 0) = false := by simpa using hG0
      clear hG hG0
      go_wp2_with fail
      refine (cUnkey b cb bs v1 (seesKeep hb n1) hcb hmb (by omega)).mono ?_
      rintro e u1 ⟨p1, d1, s, H, hH, rfl, hvs, hs16, hd1, hmd1, _, j1⟩
      have m1 := n1.trans j1 (by simp)
      by_cases hH0 : H = 0
      · subst hH0
        obtain ⟨hoks, hkb⟩ := unkS_back bs s hH.out
        have hKs := cKey p1 d1 s u1 hvs (by omega)
        have hSs : keyS s = (bs, 0) := by unfold keyS; rw [if_pos hoks, hkb]
        rw [hSs] at hKs
        clear hoks hkb hSs hH
        go_wp2_with fail
        refine hKs.mono ?_
        rintro e u2 ⟨p2, d2, Y, G, hY, rfl, hrY, hnY, _⟩
        obtain ⟨rfl, rfl⟩ : bs = Y ∧ 0 = G := by have := hY.out; simp only [Prod.mk.injEq] at this; exact this
        have m2 := m1.trans hnY.kp (by simp)
        have cv1 := convSees (rowSees hrY).1 d2
        have cv2 := convSees (seesKeep hb m2) cb
        clear hY hKs
        generalize (⟨bs.toArray⟩ : ByteArray) = U at *
        go_wp2_with fail
        go_ret
        exact ⟨by simp, m2.below⟩
      · have hHe : (H == 0) = false := by simpa using hH0
        have hHn : (H != 0) = true := by simpa using hH0
        clear hH hH0
        go_wp2_with fail
        go_ret
        exact ⟨rfl, m1.below⟩
end Go.Proofs.Ytlehalhficlenaa

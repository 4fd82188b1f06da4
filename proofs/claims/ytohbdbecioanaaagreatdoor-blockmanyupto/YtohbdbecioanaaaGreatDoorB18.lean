/- The reference's Decode. block.Head, block.Read. -/
import Derived.Test.YtohbdbecioanaaaGreatDoorB16
import Derived.Test.YtohbdbecioanaaaGreatDoorB17
import Derived.Test.YtohbdbecioanaaaGreatDoorB13
import Derived.Deep.RegionHeld3
section
namespace Go.Proofs.YtohbdbecioanaaaGreatDoor
open Go.RowKit Go.Hay
set_option linter.unusedVariables false
set_option linter.unusedSimpArgs false

set_option maxHeartbeats 8000000 in
set_option maxRecDepth 100000 in
theorem cRdDec0 (a : Option Addr) (c : Nat) (bs : List UInt8) (many : Nat) (w : World) (hs : Sees w a bs) (hl : bs.length ≤ c) (hm : c ≤ maxLen) (hb : bs.length ≤ 900000000000000) (hmn : many ≤ 64) (h0 : 0 < many) :
    Calls Tryz.prog 27 #[.int .i64 0, .slice a bs.length c, .int .i64 many] w (DecP w (refD 0 bs many)) := by
  have cK := cRdPlain a c bs many w hs hl hm hb hmn
  have hrp : Hid (rpA 0 many bs = orNil ((tkF many [] bs).map Prod.fst)) := by show _ = _; unfold rpA; rw [if_neg (by omega)]; rfl
  rw [← hrp.out] at cK
  have hFe : Hid (refD 0 bs many = if refE 0 (rpA 0 many bs) = 0 ∧ (rpA 0 many bs).length = many ∧ encR 0 (rpA 0 many bs) = bs then (rpA 0 many bs, 0) else ([], 60)) := rfl
  obtain ⟨F, hFF⟩ : ∃ F, Hid (refD 0 bs many = F) := ⟨_, rfl⟩
  rw [hFF.out] at hFe ⊢
  obtain ⟨L, hL⟩ : ∃ L, Hid (rpA 0 many bs = L) := ⟨_, rfl⟩
  rw [hL.out] at hFe cK
  have hs' := hid hs
  have d0 : ¬ (many : Int) < 0 := by omega
  have d1 : ¬ (64 : Int) < (many : Int) := by omega
  have d2 : (0 : Int) < (many : Int) := by omega
  clear hs hm hrp hFF hL
  go_enter Tryz.func27, Tryz.ntmps27
  go_wp2_with fail
  refine cK.mono ?_
  rintro e w1 ⟨la, lc, rfl, IL⟩
  clear cK
  obtain ⟨hvL, hlL, hmL⟩ := rowVals IL.row
  have cE := cRefEnc6 0 la lc L w1 hvL (by unfold maxLen at hmL; omega)
  unfold EncP at cE
  obtain ⟨E, hEE⟩ : ∃ E, Hid (refE 0 L = E) := ⟨_, rfl⟩
  obtain ⟨R, hRR⟩ : ∃ R, Hid (encR 0 L = R) := ⟨_, rfl⟩
  rw [hEE.out, hRR.out] at hFe
  rw [hEE.out, hRR.out] at cE
  have hIL := hid IL
  unfold maxLen at hmL
  clear hvL IL hEE hRR
  go_wp2_with fail
  refine cE.mono ?_
  rintro e w5 ⟨b5, c5, rfl, hrow5, k5, hn5⟩
  obtain ⟨hs5, _, _⟩ := rowSee hrow5
  have IL5 := hIL.out.keep k5
  have cv1 := convSees hs5 c5
  have cv2 := convSees (hs'.out.kept IL5.kp (by simp)) c
  have hIL5 := hid IL5
  have kw5 := IL5.kp
  clear cE hrow5 hn5 hs5 hIL IL5
  by_cases hE0 : E = 0
  · subst hE0
    by_cases hLm : L.length = many
    · have hLm' := hid hLm
      have dL : ((L.length : Int) != (many : Int)) = false := by rw [hLm]; simp
      have dL2 : ((L.length : Int) == (many : Int)) = true := by rw [hLm]; simp
      by_cases hRb : R = bs
      · have hF2 : Hid (F = (L, 0)) := by show _ = _; rw [hFe.out, if_pos ⟨rfl, hLm'.out, hRb⟩]
        have hfin : DecP w F (.returned (.tuple #[.slice la L.length lc, .int .i64 0])) w5 := by rw [hF2.out]; exact ⟨la, lc, rfl, hIL5.out.row, kw5, hIL5.out.new⟩
        subst hRb
        clear hFe hF2 hIL5 hLm
        go_wp2_with fail
        go_ret2
        exact hfin
      · have hF2 : Hid (F = ([], 60)) := by show _ = _; rw [hFe.out, if_neg (fun h => hRb h.2.2)]
        have hfin : DecP w F (.returned (.tuple #[.slice none 0 0, .int .i64 60])) w5 := by rw [hF2.out]; exact decP_no w w5 kw5
        have dR : (R == bs) = false := by simpa using hRb
        have dR2 : (R != bs) = true := by simpa using hRb
        clear hFe hF2 hIL5 hLm
        go_wp2_with fail
        go_ret2
        exact hfin
    · have hF2 : Hid (F = ([], 60)) := by show _ = _; rw [hFe.out, if_neg (fun h => hLm h.2.1)]
      have hfin : DecP w F (.returned (.tuple #[.slice none 0 0, .int .i64 60])) w5 := by rw [hF2.out]; exact decP_no w w5 kw5
      have dL : ((L.length : Int) != (many : Int)) = true := by simp only [bne_iff_ne]; omega
      have dL2 : ((L.length : Int) == (many : Int)) = false := by rw [beq_eq_false_iff_ne]; omega
      clear hFe hF2 hIL5
      go_wp2_with fail
      go_ret2
      exact hfin
  · have hF2 : Hid (F = ([], 60)) := by show _ = _; rw [hFe.out, if_neg (fun h => hE0 h.1)]
    have hfin : DecP w F (.returned (.tuple #[.slice none 0 0, .int .i64 60])) w5 := by rw [hF2.out]; exact decP_no w w5 kw5
    have dE : (E != 0) = true := by simpa using hE0
    have dE2 : (E == 0) = false := by simpa using hE0
    clear hFe hF2 hIL5
    go_wp2_with fail
    go_ret2
    exact hfin
set_option maxHeartbeats 8000000 in
set_option maxRecDepth 100000 in
theorem cRdDec1 (a : Option Addr) (c : Nat) (bs : List UInt8) (many : Nat) (w : World) (hs : Sees w a bs) (hl : bs.length ≤ c) (hm : c ≤ maxLen) (hb : bs.length ≤ 900000000000000) (hmn : many ≤ 64) (h0 : 0 < many) :
    Calls Tryz.prog 27 #[.int .i64 1, .slice a bs.length c, .int .i64 many] w (DecP w (refD 1 bs many)) := by
  have cK := cRdRuns a c bs many w hs hl hm hb hmn
  have hrp : Hid (rpA 1 many bs = rpR many [] bs) := by show _ = _; unfold rpA; rw [if_neg (by omega)]; rfl
  rw [← hrp.out] at cK
  have hFe : Hid (refD 1 bs many = if refE 1 (rpA 1 many bs) = 0 ∧ (rpA 1 many bs).length = many ∧ encR 1 (rpA 1 many bs) = bs then (rpA 1 many bs, 0) else ([], 60)) := rfl
  obtain ⟨F, hFF⟩ : ∃ F, Hid (refD 1 bs many = F) := ⟨_, rfl⟩
  rw [hFF.out] at hFe ⊢
  obtain ⟨L, hL⟩ : ∃ L, Hid (rpA 1 many bs = L) := ⟨_, rfl⟩
  rw [hL.out] at hFe cK
  have hs' := hid hs
  have d0 : ¬ (many : Int) < 0 := by omega
  have d1 : ¬ (64 : Int) < (many : Int) := by omega
  have d2 : (0 : Int) < (many : Int) := by omega
  clear hs hm hrp hFF hL
  go_enter Tryz.func27, Tryz.ntmps27
  go_wp2_with fail
  refine cK.mono ?_
  rintro e w1 ⟨la, lc, rfl, IL⟩
  clear cK
  obtain ⟨hvL, hlL, hmL⟩ := rowVals IL.row
  have cE := cRefEnc6 1 la lc L w1 hvL (by unfold maxLen at hmL; omega)
  unfold EncP at cE
  obtain ⟨E, hEE⟩ : ∃ E, Hid (refE 1 L = E) := ⟨_, rfl⟩
  obtain ⟨R, hRR⟩ : ∃ R, Hid (encR 1 L = R) := ⟨_, rfl⟩
  rw [hEE.out, hRR.out] at hFe
  rw [hEE.out, hRR.out] at cE
  have hIL := hid IL
  unfold maxLen at hmL
  clear hvL IL hEE hRR
  go_wp2_with fail
  refine cE.mono ?_
  rintro e w5 ⟨b5, c5, rfl, hrow5, k5, hn5⟩
  obtain ⟨hs5, _, _⟩ := rowSee hrow5
  have IL5 := hIL.out.keep k5
  have cv1 := convSees hs5 c5
  have cv2 := convSees (hs'.out.kept IL5.kp (by simp)) c
  have hIL5 := hid IL5
  have kw5 := IL5.kp
  clear cE hrow5 hn5 hs5 hIL IL5
  by_cases hE0 : E = 0
  · subst hE0
    by_cases hLm : L.length = many
    · have hLm' := hid hLm
      have dL : ((L.length : Int) != (many : Int)) = false := by rw [hLm]; simp
      have dL2 : ((L.length : Int) == (many : Int)) = true := by rw [hLm]; simp
      by_cases hRb : R = bs
      · have hF2 : Hid (F = (L, 0)) := by show _ = _; rw [hFe.out, if_pos ⟨rfl, hLm'.out, hRb⟩]
        have hfin : DecP w F (.returned (.tuple #[.slice la L.length lc, .int .i64 0])) w5 := by rw [hF2.out]; exact ⟨la, lc, rfl, hIL5.out.row, kw5, hIL5.out.new⟩
        subst hRb
        clear hFe hF2 hIL5 hLm
        go_wp2_with fail
        go_ret2
        exact hfin
      · have hF2 : Hid (F = ([], 60)) := by show _ = _; rw [hFe.out, if_neg (fun h => hRb h.2.2)]
        have hfin : DecP w F (.returned (.tuple #[.slice none 0 0, .int .i64 60])) w5 := by rw [hF2.out]; exact decP_no w w5 kw5
        have dR : (R == bs) = false := by simpa using hRb
        have dR2 : (R != bs) = true := by simpa using hRb
        clear hFe hF2 hIL5 hLm
        go_wp2_with fail
        go_ret2
        exact hfin
    · have hF2 : Hid (F = ([], 60)) := by show _ = _; rw [hFe.out, if_neg (fun h => hLm h.2.1)]
      have hfin : DecP w F (.returned (.tuple #[.slice none 0 0, .int .i64 60])) w5 := by rw [hF2.out]; exact decP_no w w5 kw5
      have dL : ((L.length : Int) != (many : Int)) = true := by simp only [bne_iff_ne]; omega
      have dL2 : ((L.length : Int) == (many : Int)) = false := by rw [beq_eq_false_iff_ne]; omega
      clear hFe hF2 hIL5
      go_wp2_with fail
      go_ret2
      exact hfin
  · have hF2 : Hid (F = ([], 60)) := by show _ = _; rw [hFe.out, if_neg (fun h => hE0 h.1)]
    have hfin : DecP w F (.returned (.tuple #[.slice none 0 0, .int .i64 60])) w5 := by rw [hF2.out]; exact decP_no w w5 kw5
    have dE : (E != 0) = true := by simpa using hE0
    have dE2 : (E == 0) = false := by simpa using hE0
    clear hFe hF2 hIL5
    go_wp2_with fail
    go_ret2
    exact hfin
set_option maxHeartbeats 8000000 in
set_option maxRecDepth 100000 in
theorem cRdDec2 (a : Option Addr) (c : Nat) (bs : List UInt8) (many : Nat) (w : World) (hs : Sees w a bs) (hl : bs.length ≤ c) (hm : c ≤ maxLen) (hb : bs.length ≤ 900000000000000) (hmn : many ≤ 64) (h0 : 0 < many) :
    Calls Tryz.prog 27 #[.int .i64 2, .slice a bs.length c, .int .i64 many] w (DecP w (refD 2 bs many)) := by
  have cK := cRdDeltas a c bs many w hs hl hm hb hmn
  have hrp : Hid (rpA 2 many bs = rpDl many bs) := by show _ = _; unfold rpA; rw [if_neg (by omega)]; rfl
  rw [← hrp.out] at cK
  have hFe : Hid (refD 2 bs many = if refE 2 (rpA 2 many bs) = 0 ∧ (rpA 2 many bs).length = many ∧ encR 2 (rpA 2 many bs) = bs then (rpA 2 many bs, 0) else ([], 60)) := rfl
  obtain ⟨F, hFF⟩ : ∃ F, Hid (refD 2 bs many = F) := ⟨_, rfl⟩
  rw [hFF.out] at hFe ⊢
  obtain ⟨L, hL⟩ : ∃ L, Hid (rpA 2 many bs = L) := ⟨_, rfl⟩
  rw [hL.out] at hFe cK
  have hs' := hid hs
  have d0 : ¬ (many : Int) < 0 := by omega
  have d1 : ¬ (64 : Int) < (many : Int) := by omega
  have d2 : (0 : Int) < (many : Int) := by omega
  clear hs hm hrp hFF hL
  go_enter Tryz.func27, Tryz.ntmps27
  go_wp2_with fail
  refine cK.mono ?_
  rintro e w1 ⟨la, lc, rfl, IL⟩
  clear cK
  obtain ⟨hvL, hlL, hmL⟩ := rowVals IL.row
  have cE := cRefEnc6 2 la lc L w1 hvL (by unfold maxLen at hmL; omega)
  unfold EncP at cE
  obtain ⟨E, hEE⟩ : ∃ E, Hid (refE 2 L = E) := ⟨_, rfl⟩
  obtain ⟨R, hRR⟩ : ∃ R, Hid (encR 2 L = R) := ⟨_, rfl⟩
  rw [hEE.out, hRR.out] at hFe
  rw [hEE.out, hRR.out] at cE
  have hIL := hid IL
  unfold maxLen at hmL
  clear hvL IL hEE hRR
  go_wp2_with fail
  refine cE.mono ?_
  rintro e w5 ⟨b5, c5, rfl, hrow5, k5, hn5⟩
  obtain ⟨hs5, _, _⟩ := rowSee hrow5
  have IL5 := hIL.out.keep k5
  have cv1 := convSees hs5 c5
  have cv2 := convSees (hs'.out.kept IL5.kp (by simp)) c
  have hIL5 := hid IL5
  have kw5 := IL5.kp
  clear cE hrow5 hn5 hs5 hIL IL5
  by_cases hE0 : E = 0
  · subst hE0
    by_cases hLm : L.length = many
    · have hLm' := hid hLm
      have dL : ((L.length : Int) != (many : Int)) = false := by rw [hLm]; simp
      have dL2 : ((L.length : Int) == (many : Int)) = true := by rw [hLm]; simp
      by_cases hRb : R = bs
      · have hF2 : Hid (F = (L, 0)) := by show _ = _; rw [hFe.out, if_pos ⟨rfl, hLm'.out, hRb⟩]
        have hfin : DecP w F (.returned (.tuple #[.slice la L.length lc, .int .i64 0])) w5 := by rw [hF2.out]; exact ⟨la, lc, rfl, hIL5.out.row, kw5, hIL5.out.new⟩
        subst hRb
        clear hFe hF2 hIL5 hLm
        go_wp2_with fail
        go_ret2
        exact hfin
      · have hF2 : Hid (F = ([], 60)) := by show _ = _; rw [hFe.out, if_neg (fun h => hRb h.2.2)]
        have hfin : DecP w F (.returned (.tuple #[.slice none 0 0, .int .i64 60])) w5 := by rw [hF2.out]; exact decP_no w w5 kw5
        have dR : (R == bs) = false := by simpa using hRb
        have dR2 : (R != bs) = true := by simpa using hRb
        clear hFe hF2 hIL5 hLm
        go_wp2_with fail
        go_ret2
        exact hfin
    · have hF2 : Hid (F = ([], 60)) := by show _ = _; rw [hFe.out, if_neg (fun h => hLm h.2.1)]
      have hfin : DecP w F (.returned (.tuple #[.slice none 0 0, .int .i64 60])) w5 := by rw [hF2.out]; exact decP_no w w5 kw5
      have dL : ((L.length : Int) != (many : Int)) = true := by simp only [bne_iff_ne]; omega
      have dL2 : ((L.length : Int) == (many : Int)) = false := by rw [beq_eq_false_iff_ne]; omega
      clear hFe hF2 hIL5
      go_wp2_with fail
      go_ret2
      exact hfin
  · have hF2 : Hid (F = ([], 60)) := by show _ = _; rw [hFe.out, if_neg (fun h => hE0 h.1)]
    have hfin : DecP w F (.returned (.tuple #[.slice none 0 0, .int .i64 60])) w5 := by rw [hF2.out]; exact decP_no w w5 kw5
    have dE : (E != 0) = true := by simpa using hE0
    have dE2 : (E == 0) = false := by simpa using hE0
    clear hFe hF2 hIL5
    go_wp2_with fail
    go_ret2
    exact hfin
set_option maxHeartbeats 8000000 in
set_option maxRecDepth 100000 in
theorem cRdDec3 (a : Option Addr) (c : Nat) (bs : List UInt8) (many : Nat) (w : World) (hs : Sees w a bs) (hl : bs.length ≤ c) (hm : c ≤ maxLen) (hb : bs.length ≤ 900000000000000) (hmn : many ≤ 64) (h0 : 0 < many) :
    Calls Tryz.prog 27 #[.int .i64 3, .slice a bs.length c, .int .i64 many] w (DecP w (refD 3 bs many)) := by
  have cK := cRdDicts a c bs many w hs hl hm hb hmn
  have hrp : Hid (rpA 3 many bs = rpDc many bs) := by show _ = _; unfold rpA; rw [if_neg (by omega)]; rfl
  rw [← hrp.out] at cK
  have hFe : Hid (refD 3 bs many = if refE 3 (rpA 3 many bs) = 0 ∧ (rpA 3 many bs).length = many ∧ encR 3 (rpA 3 many bs) = bs then (rpA 3 many bs, 0) else ([], 60)) := rfl
  obtain ⟨F, hFF⟩ : ∃ F, Hid (refD 3 bs many = F) := ⟨_, rfl⟩
  rw [hFF.out] at hFe ⊢
  obtain ⟨L, hL⟩ : ∃ L, Hid (rpA 3 many bs = L) := ⟨_, rfl⟩
  rw [hL.out] at hFe cK
  have hs' := hid hs
  have d0 : ¬ (many : Int) < 0 := by omega
  have d1 : ¬ (64 : Int) < (many : Int) := by omega
  have d2 : (0 : Int) < (many : Int) := by omega
  clear hs hm hrp hFF hL
  go_enter Tryz.func27, Tryz.ntmps27
  go_wp2_with fail
  refine cK.mono ?_
  rintro e w1 ⟨la, lc, rfl, IL⟩
  clear cK
  obtain ⟨hvL, hlL, hmL⟩ := rowVals IL.row
  have cE := cRefEnc6 3 la lc L w1 hvL (by unfold maxLen at hmL; omega)
  unfold EncP at cE
  obtain ⟨E, hEE⟩ : ∃ E, Hid (refE 3 L = E) := ⟨_, rfl⟩
  obtain ⟨R, hRR⟩ : ∃ R, Hid (encR 3 L = R) := ⟨_, rfl⟩
  rw [hEE.out, hRR.out] at hFe
  rw [hEE.out, hRR.out] at cE
  have hIL := hid IL
  unfold maxLen at hmL
  clear hvL IL hEE hRR
  go_wp2_with fail
  refine cE.mono ?_
  rintro e w5 ⟨b5, c5, rfl, hrow5, k5, hn5⟩
  obtain ⟨hs5, _, _⟩ := rowSee hrow5
  have IL5 := hIL.out.keep k5
  have cv1 := convSees hs5 c5
  have cv2 := convSees (hs'.out.kept IL5.kp (by simp)) c
  have hIL5 := hid IL5
  have kw5 := IL5.kp
  clear cE hrow5 hn5 hs5 hIL IL5
  by_cases hE0 : E = 0
  · subst hE0
    by_cases hLm : L.length = many
    · have hLm' := hid hLm
      have dL : ((L.length : Int) != (many : Int)) = false := by rw [hLm]; simp
      have dL2 : ((L.length : Int) == (many : Int)) = true := by rw [hLm]; simp
      by_cases hRb : R = bs
      · have hF2 : Hid (F = (L, 0)) := by show _ = _; rw [hFe.out, if_pos ⟨rfl, hLm'.out, hRb⟩]
        have hfin : DecP w F (.returned (.tuple #[.slice la L.length lc, .int .i64 0])) w5 := by rw [hF2.out]; exact ⟨la, lc, rfl, hIL5.out.row, kw5, hIL5.out.new⟩
        subst hRb
        clear hFe hF2 hIL5 hLm
        go_wp2_with fail
        go_ret2
        exact hfin
      · have hF2 : Hid (F = ([], 60)) := by show _ = _; rw [hFe.out, if_neg (fun h => hRb h.2.2)]
        have hfin : DecP w F (.returned (.tuple #[.slice none 0 0, .int .i64 60])) w5 := by rw [hF2.out]; exact decP_no w w5 kw5
        have dR : (R == bs) = false := by simpa using hRb
        have dR2 : (R != bs) = true := by simpa using hRb
        clear hFe hF2 hIL5 hLm
        go_wp2_with fail
        go_ret2
        exact hfin
    · have hF2 : Hid (F = ([], 60)) := by show _ = _; rw [hFe.out, if_neg (fun h => hLm h.2.1)]
      have hfin : DecP w F (.returned (.tuple #[.slice none 0 0, .int .i64 60])) w5 := by rw [hF2.out]; exact decP_no w w5 kw5
      have dL : ((L.length : Int) != (many : Int)) = true := by simp only [bne_iff_ne]; omega
      have dL2 : ((L.length : Int) == (many : Int)) = false := by rw [beq_eq_false_iff_ne]; omega
      clear hFe hF2 hIL5
      go_wp2_with fail
      go_ret2
      exact hfin
  · have hF2 : Hid (F = ([], 60)) := by show _ = _; rw [hFe.out, if_neg (fun h => hE0 h.1)]
    have hfin : DecP w F (.returned (.tuple #[.slice none 0 0, .int .i64 60])) w5 := by rw [hF2.out]; exact decP_no w w5 kw5
    have dE : (E != 0) = true := by simpa using hE0
    have dE2 : (E == 0) = false := by simpa using hE0
    clear hFe hF2 hIL5
    go_wp2_with fail
    go_ret2
    exact hfin
set_option maxHeartbeats 8000000 in
set_option maxRecDepth 100000 in
theorem cRdDec4 (a : Option Addr) (c : Nat) (bs : List UInt8) (many : Nat) (w : World) (hs : Sees w a bs) (hl : bs.length ≤ c) (hm : c ≤ maxLen) (hb : bs.length ≤ 900000000000000) (hmn : many ≤ 64) (h0 : 0 < many) :
    Calls Tryz.prog 27 #[.int .i64 4, .slice a bs.length c, .int .i64 many] w (DecP w (refD 4 bs many)) := by
  have cK := cRdSmalls a c bs many w hs hl hm hb hmn
  have hrp : Hid (rpA 4 many bs = rpBt many bs) := by show _ = _; unfold rpA; rw [if_neg (by omega)]; rfl
  rw [← hrp.out] at cK
  have hFe : Hid (refD 4 bs many = if refE 4 (rpA 4 many bs) = 0 ∧ (rpA 4 many bs).length = many ∧ encR 4 (rpA 4 many bs) = bs then (rpA 4 many bs, 0) else ([], 60)) := rfl
  obtain ⟨F, hFF⟩ : ∃ F, Hid (refD 4 bs many = F) := ⟨_, rfl⟩
  rw [hFF.out] at hFe ⊢
  obtain ⟨L, hL⟩ : ∃ L, Hid (rpA 4 many bs = L) := ⟨_, rfl⟩
  rw [hL.out] at hFe cK
  have hs' := hid hs
  have d0 : ¬ (many : Int) < 0 := by omega
  have d1 : ¬ (64 : Int) < (many : Int) := by omega
  have d2 : (0 : Int) < (many : Int) := by omega
  clear hs hm hrp hFF hL
  go_enter Tryz.func27, Tryz.ntmps27
  go_wp2_with fail
  refine cK.mono ?_
  rintro e w1 ⟨la, lc, rfl, IL⟩
  clear cK
  obtain ⟨hvL, hlL, hmL⟩ := rowVals IL.row
  have cE := cRefEnc6 4 la lc L w1 hvL (by unfold maxLen at hmL; omega)
  unfold EncP at cE
  obtain ⟨E, hEE⟩ : ∃ E, Hid (refE 4 L = E) := ⟨_, rfl⟩
  obtain ⟨R, hRR⟩ : ∃ R, Hid (encR 4 L = R) := ⟨_, rfl⟩
  rw [hEE.out, hRR.out] at hFe
  rw [hEE.out, hRR.out] at cE
  have hIL := hid IL
  unfold maxLen at hmL
  clear hvL IL hEE hRR
  go_wp2_with fail
  refine cE.mono ?_
  rintro e w5 ⟨b5, c5, rfl, hrow5, k5, hn5⟩
  obtain ⟨hs5, _, _⟩ := rowSee hrow5
  have IL5 := hIL.out.keep k5
  have cv1 := convSees hs5 c5
  have cv2 := convSees (hs'.out.kept IL5.kp (by simp)) c
  have hIL5 := hid IL5
  have kw5 := IL5.kp
  clear cE hrow5 hn5 hs5 hIL IL5
  by_cases hE0 : E = 0
  · subst hE0
    by_cases hLm : L.length = many
    · have hLm' := hid hLm
      have dL : ((L.length : Int) != (many : Int)) = false := by rw [hLm]; simp
      have dL2 : ((L.length : Int) == (many : Int)) = true := by rw [hLm]; simp
      by_cases hRb : R = bs
      · have hF2 : Hid (F = (L, 0)) := by show _ = _; rw [hFe.out, if_pos ⟨rfl, hLm'.out, hRb⟩]
        have hfin : DecP w F (.returned (.tuple #[.slice la L.length lc, .int .i64 0])) w5 := by rw [hF2.out]; exact ⟨la, lc, rfl, hIL5.out.row, kw5, hIL5.out.new⟩
        subst hRb
        clear hFe hF2 hIL5 hLm
        go_wp2_with fail
        go_ret2
        exact hfin
      · have hF2 : Hid (F = ([], 60)) := by show _ = _; rw [hFe.out, if_neg (fun h => hRb h.2.2)]
        have hfin : DecP w F (.returned (.tuple #[.slice none 0 0, .int .i64 60])) w5 := by rw [hF2.out]; exact decP_no w w5 kw5
        have dR : (R == bs) = false := by simpa using hRb
        have dR2 : (R != bs) = true := by simpa using hRb
        clear hFe hF2 hIL5 hLm
        go_wp2_with fail
        go_ret2
        exact hfin
    · have hF2 : Hid (F = ([], 60)) := by show _ = _; rw [hFe.out, if_neg (fun h => hLm h.2.1)]
      have hfin : DecP w F (.returned (.tuple #[.slice none 0 0, .int .i64 60])) w5 := by rw [hF2.out]; exact decP_no w w5 kw5
      have dL : ((L.length : Int) != (many : Int)) = true := by simp only [bne_iff_ne]; omega
      have dL2 : ((L.length : Int) == (many : Int)) = false := by rw [beq_eq_false_iff_ne]; omega
      clear hFe hF2 hIL5
      go_wp2_with fail
      go_ret2
      exact hfin
  · have hF2 : Hid (F = ([], 60)) := by show _ = _; rw [hFe.out, if_neg (fun h => hE0 h.1)]
    have hfin : DecP w F (.returned (.tuple #[.slice none 0 0, .int .i64 60])) w5 := by rw [hF2.out]; exact decP_no w w5 kw5
    have dE : (E != 0) = true := by simpa using hE0
    have dE2 : (E == 0) = false := by simpa using hE0
    clear hFe hF2 hIL5
    go_wp2_with fail
    go_ret2
    exact hfin
set_option maxHeartbeats 8000000 in
set_option maxRecDepth 100000 in
theorem cRdDecZ (k : Int) (a : Option Addr) (c : Nat) (bs : List UInt8) (w : World) (hs : Sees w a bs) (h1 : 0 ≤ k) (h4 : k ≤ 4) :
    Calls Tryz.prog 27 #[.int .i64 k, .slice a bs.length c, .int .i64 0] w (DecP w (refD k bs 0)) := by
  have hrp : Hid (rpA k 0 bs = []) := by show _ = _; unfold rpA; rw [if_pos rfl]
  have hFe : Hid (refD k bs 0 = if refE k (rpA k 0 bs) = 0 ∧ (rpA k 0 bs).length = 0 ∧ encR k (rpA k 0 bs) = bs then (rpA k 0 bs, 0) else ([], 60)) := rfl
  obtain ⟨F, hFF⟩ : ∃ F, Hid (refD k bs 0 = F) := ⟨_, rfl⟩
  rw [hFF.out, hrp.out] at hFe
  rw [hFF.out]
  have hs' := hid hs
  have n1 : ¬ k < 0 := by omega
  have n2 : ¬ 4 < k := by omega
  have IL := NwV.nil w
  obtain ⟨many, hmany⟩ : ∃ many : Nat, many = 0 := ⟨0, rfl⟩
  obtain ⟨L, hL⟩ : ∃ L : List Val, Hid (L = []) := ⟨[], rfl⟩
  have cE := cRefEnc6 k none 0 [] w (.inl rfl) (by simp)
  unfold EncP at cE
  obtain ⟨E, hEE⟩ : ∃ E, Hid (refE k [] = E) := ⟨_, rfl⟩
  obtain ⟨R, hRR⟩ : ∃ R, Hid (encR k [] = R) := ⟨_, rfl⟩
  rw [hEE.out, hRR.out] at hFe
  rw [hEE.out, hRR.out, List.length_nil] at cE
  clear hs hFF hrp hEE hRR IL hL hmany
  go_enter Tryz.func27, Tryz.ntmps27
  go_wp2_with fail
  refine cE.mono ?_
  rintro e w5 ⟨b5, c5, rfl, hrow5, k5, hn5⟩
  obtain ⟨hs5, _, _⟩ := rowSee hrow5
  have cv1 := convSees hs5 c5
  have cv2 := convSees (hs'.out.kept k5 (by simp)) c
  clear cE hrow5 hn5 hs5
  by_cases hE0 : E = 0
  · subst hE0
    by_cases hRb : R = bs
    · have hF2 : Hid (F = ([], 0)) := by show _ = _; rw [hFe.out, if_pos ⟨rfl, rfl, hRb⟩]
      have hfin : DecP w F (.returned (.tuple #[.slice none 0 0, .int .i64 0])) w5 := by rw [hF2.out]; exact ⟨none, 0, rfl, .inl ⟨rfl, rfl⟩, k5, by simp [blk]⟩
      subst hRb
      clear hFe hF2
      go_wp2_with fail
      go_ret2
      exact hfin
    · have hF2 : Hid (F = ([], 60)) := by show _ = _; rw [hFe.out, if_neg (fun h => hRb h.2.2)]
      have hfin : DecP w F (.returned (.tuple #[.slice none 0 0, .int .i64 60])) w5 := by rw [hF2.out]; exact decP_no w w5 k5
      have dR : (R == bs) = false := by simpa using hRb
      have dR2 : (R != bs) = true := by simpa using hRb
      clear hFe hF2
      go_wp2_with fail
      go_ret2
      exact hfin
  · have hF2 : Hid (F = ([], 60)) := by show _ = _; rw [hFe.out, if_neg (fun h => hE0 h.1)]
    have hfin : DecP w F (.returned (.tuple #[.slice none 0 0, .int .i64 60])) w5 := by rw [hF2.out]; exact decP_no w w5 k5
    have dE : (E != 0) = true := by simpa using hE0
    have dE2 : (E == 0) = false := by simpa using hE0
    clear hFe hF2
    go_wp2_with fail
    go_ret2
    exact hfin
/-- What the two Decodes tell. -/
def decI (k : Int) (bs : List UInt8) (mi : Int) : List Val × Int := if knownB k = false then ([], 62) else if mi < 0 ∨ 64 < mi then ([], 61) else decA k bs mi.toNat
set_option maxHeartbeats 4000000 in
theorem cRefDec (k : Int) (a : Option Addr) (c : Nat) (bs : List UInt8) (mi : Int) (w : World) (hs : Sees w a bs) (hl : bs.length ≤ c) (hm : c ≤ maxLen) (hb : bs.length ≤ 900000000000000) :
    Calls Tryz.prog 27 #[.int .i64 k, .slice a bs.length c, .int .i64 mi] w (DecP w (decI k bs mi)) := by
  unfold decI
  by_cases hk : knownB k = false
  · rw [if_pos hk]
    have hfin := decP_err w 62
    have hk2 : k < 0 ∨ 4 < k := by unfold knownB at hk; simp at hk; omega
    clear hs hm hk
    rcases hk2 with h | h
    · go_enter Tryz.func27, Tryz.ntmps27
      go_wp2_with fail
      go_ret2
      exact hfin
    · have h' : ¬ k < 0 := by omega
      go_enter Tryz.func27, Tryz.ntmps27
      go_wp2_with fail
      go_ret2
      exact hfin
  · rw [if_neg hk]
    have hk' : knownB k = true := by simpa using hk
    have hk2 : 0 ≤ k ∧ k ≤ 4 := by unfold knownB at hk'; simp at hk'; exact hk'
    have n1 : ¬ k < 0 := by omega
    have n2 : ¬ 4 < k := by omega
    by_cases hmi : mi < 0 ∨ 64 < mi
    · rw [if_pos hmi]
      have hfin := decP_err w 61
      clear hs hm hk hk' hk2
      rcases hmi with h | h
      · go_enter Tryz.func27, Tryz.ntmps27
        go_wp2_with fail
        go_ret2
        exact hfin
      · have h' : ¬ mi < 0 := by omega
        go_enter Tryz.func27, Tryz.ntmps27
        go_wp2_with fail
        go_ret2
        exact hfin
    · rw [if_neg hmi]
      obtain ⟨many, rfl⟩ := Int.eq_ofNat_of_zero_le (by omega : 0 ≤ mi)
      rw [Int.toNat_natCast, ← refD_eq k bs many hk' (by omega)]
      rcases Nat.eq_zero_or_pos many with h0 | h0
      · subst h0
        exact cRdDecZ k a c bs w hs hk2.1 hk2.2
      · have hmn : many ≤ 64 := by omega
        by_cases q0 : k = 0
        · subst q0; exact cRdDec0 a c bs many w hs hl hm hb hmn h0
        · by_cases q1 : k = 1
          · subst q1; exact cRdDec1 a c bs many w hs hl hm hb hmn h0
          · by_cases q2 : k = 2
            · subst q2; exact cRdDec2 a c bs many w hs hl hm hb hmn h0
            · by_cases q3 : k = 3
              · subst q3; exact cRdDec3 a c bs many w hs hl hm hb hmn h0
              · obtain rfl : k = 4 := by omega
                exact cRdDec4 a c bs many w hs hl hm hb hmn h0
set_option maxHeartbeats 4000000 in
theorem cDecI (k : Int) (a : Option Addr) (c : Nat) (bs : List UInt8) (mi : Int) (w : World) (hs : Sees w a bs) (hl : bs.length ≤ c) (hm : c ≤ maxLen) (hb : bs.length ≤ 900000000000000) (hmi : mi ≤ 9223372036854775807) :
    Calls Tryz.prog 33 #[.int .i64 k, .slice a bs.length c, .int .i64 mi] w (DecP w (decI k bs mi)) := by
  by_cases h0 : mi < 0
  · have cK := cKnown k w
    unfold decI
    by_cases hk : knownB k = false
    · rw [hk] at cK
      rw [if_pos hk]
      have hfin := decP_err w 62
      clear hs hm hk
      go_enter Tryz.func33, Tryz.ntmps33
      go_wp2_with fail
      refine cK.mono ?_
      rintro e w9 ⟨rfl, hw9⟩
      rw [hw9]
      clear hw9 w9 cK
      go_wp2_with fail
      go_ret2
      exact hfin
    · rw [if_neg hk, if_pos (.inl h0)]
      have hk' : knownB k = true := by simpa using hk
      rw [hk'] at cK
      have hfin := decP_err w 61
      clear hs hm hk hk'
      go_enter Tryz.func33, Tryz.ntmps33
      go_wp2_with fail
      refine cK.mono ?_
      rintro e w9 ⟨rfl, hw9⟩
      rw [hw9]
      clear hw9 w9 cK
      go_wp2_with fail
      go_ret2
      exact hfin
  · obtain ⟨many, rfl⟩ := Int.eq_ofNat_of_zero_le (by omega : 0 ≤ mi)
    have := cDecA k a c bs many w hs hl hm hb (by omega)
    have e : decI k bs (many : Int) = decA k bs many := by
      unfold decI
      by_cases hk : knownB k = false
      · rw [if_pos hk]; unfold decA; rw [if_pos hk]
      · rw [if_neg hk]
        by_cases h64 : 64 < many
        · rw [if_pos (.inr (by omega))]; unfold decA; rw [if_neg hk, if_pos h64]
        · rw [if_neg (by omega), Int.toNat_natCast]
    rw [e]
    exact this
end Go.Proofs.YtohbdbecioanaaaGreatDoor
end

section
namespace Go.Proofs.YtohbdbecioanaaaGreatDoor
open Go.RowKit Go.Hay
set_option linter.unusedVariables false
set_option linter.unusedSimpArgs false

set_option maxHeartbeats 16000000 in
set_option maxRecDepth 100000 in
theorem bHead (a : Option Addr) (c : Nat) (bs : List UInt8) (w : World) (hs : Sees w a bs) (hl : bs.length ≤ c) (hm : c ≤ maxLen) :
    Calls Tryz.prog 13 #[.slice a bs.length c] w fun e w' => e = .returned (.tuple #[(hdP bs).1.v, .int .i64 (hdP bs).2.2]) ∧ Kp [] w w' := by
  obtain ⟨w0, hw0, kw0, bR⟩ : ∃ w0, w.alloc (.cells #[.int .i64 0, .int .i64 0, .int .i64 0, .bool false, .int .i64 0, .string ⟨#[]⟩, .int .i64 0, .bool false, .int .i64 0, .string ⟨#[]⟩, .int .i64 0, .int .i64 0] 46) = w0 ∧ Kp [] w w0 ∧ Bx w0 w.heap.size [.int .i64 0, .int .i64 0, .int .i64 0, .bool false, .int .i64 0, .string ⟨#[]⟩, .int .i64 0, .bool false, .int .i64 0, .string ⟨#[]⟩, .int .i64 0, .int .i64 0] := ⟨_, rfl, (Kp.refl _ _).alloc _, Bx.new w _ _⟩
  have cT := bTakeHead a c bs w0 (hs.kept kw0 (by simp)) hl hm
  obtain ⟨⟨⟨K, M, ⟨mk, mb, mn, mt⟩, ⟨xk, xb, xn, xt⟩, NN, BB⟩, s, E⟩, hP⟩ : ∃ r, Hid (hdP bs = r) := ⟨_, rfl⟩
  rw [hP.out] at cT ⊢
  unfold HdP Inf.v Inf.cs at cT
  dsimp only at cT ⊢
  obtain ⟨q, hq⟩ : ∃ q, Hid (w.heap.size = q) := ⟨_, rfl⟩
  have hqw : w.heap.size ≤ q := by rw [hq.out]; omega
  rw [hq.out] at bR
  have hbR := hid bR
  have hkw := hid kw0
  rw [← hw0] at cT
  have hw0' := hid hw0
  clear hw0 kw0 bR hs hP
  go_enter Tryz.func13, Tryz.ntmps13
  go_wp2_with fail
  refine cT.mono ?_
  rintro e w1 ⟨rfl, k1⟩
  rw [hw0'.out] at k1
  rw [hq.out]
  have bR1 := hbR.out.kept k1 (by simp) (hbR.out.lt (by simp))
  have kw1 := hkw.out.trans k1 (by simp)
  obtain ⟨w2, hw2, k2, bI⟩ : ∃ w2, w1.alloc (.cells #[.int .i64 0, .int .i64 0, .int .i64 0, .bool false, .int .i64 0, .string ⟨#[]⟩, .int .i64 0, .bool false, .int .i64 0, .string ⟨#[]⟩, .int .i64 0, .int .i64 0] 46) = w2 ∧ Kp [] w1 w2 ∧ Bx w2 w1.heap.size [.int .i64 0, .int .i64 0, .int .i64 0, .bool false, .int .i64 0, .string ⟨#[]⟩, .int .i64 0, .bool false, .int .i64 0, .string ⟨#[]⟩, .int .i64 0, .int .i64 0] := ⟨_, rfl, (Kp.refl _ _).alloc _, Bx.new w1 _ _⟩
  obtain ⟨qi, hqi⟩ : ∃ q, Hid (w1.heap.size = q) := ⟨_, rfl⟩
  have hne : q ≠ qi := by rw [← hqi.out]; have := bR1.lt (by simp); omega
  have hqiw : w.heap.size ≤ qi := by rw [← hqi.out]; exact kw1.size
  rw [hqi.out] at bI
  have bR2 := bR1.kept k2 (by simp) (bR1.lt (by simp))
  have p0 := bI.get 0 _ rfl; have f0 := bI.free 0
  have p1 := bI.get 1 _ rfl; have f1 := bI.free 1
  have p2 := bI.get 2 _ rfl; have f2 := bI.free 2
  have p3 := bI.get 3 _ rfl; have f3 := bI.free 3
  have p4 := bI.get 4 _ rfl; have f4 := bI.free 4
  have p5 := bI.get 5 _ rfl; have f5 := bI.free 5
  have p6 := bI.get 6 _ rfl; have f6 := bI.free 6
  have p7 := bI.get 7 _ rfl; have f7 := bI.free 7
  have p8 := bI.get 8 _ rfl; have f8 := bI.free 8
  have p9 := bI.get 9 _ rfl; have f9 := bI.free 9
  have p10 := bI.get 10 _ rfl; have f10 := bI.free 10
  have p11 := bI.get 11 _ rfl; have f11 := bI.free 11
  obtain ⟨W, hW, bW, kW⟩ : ∃ Y9, ((((((((((((w2.setCell ⟨qi, 0, none⟩ (.int .i64 K)).setCell ⟨qi, 1, none⟩ (.int .i64 M)).setCell ⟨qi, 2, none⟩ (.int .i64 mk)).setCell ⟨qi, 3, none⟩ (.bool mb)).setCell ⟨qi, 4, none⟩ (.int .i64 mn)).setCell ⟨qi, 5, none⟩ (.string mt)).setCell ⟨qi, 6, none⟩ (.int .i64 xk)).setCell ⟨qi, 7, none⟩ (.bool xb)).setCell ⟨qi, 8, none⟩ (.int .i64 xn)).setCell ⟨qi, 9, none⟩ (.string xt)).setCell ⟨qi, 10, none⟩ (.int .i64 NN)).setCell ⟨qi, 11, none⟩ (.int .i64 BB)) = Y9 ∧ Bx Y9 qi [.int .i64 K, .int .i64 M, .int .i64 mk, .bool mb, .int .i64 mn, .string mt, .int .i64 xk, .bool xb, .int .i64 xn, .string xt, .int .i64 NN, .int .i64 BB] ∧ Kp [qi] w2 Y9 := ⟨_, rfl, gen12q (R := fun Y9 => Bx Y9 qi [.int .i64 K, .int .i64 M, .int .i64 mk, .bool mb, .int .i64 mn, .string mt, .int .i64 xk, .bool xb, .int .i64 xn, .string xt, .int .i64 NN, .int .i64 BB]) bI rfl (.int .i64 K) (.int .i64 M) (.int .i64 mk) (.bool mb) (.int .i64 mn) (.string mt) (.int .i64 xk) (.bool xb) (.int .i64 xn) (.string xt) (.int .i64 NN) (.int .i64 BB) (fun Y9 b _ => b), gen12q (R := fun Y9 => Kp [qi] w2 Y9) bI rfl (.int .i64 K) (.int .i64 M) (.int .i64 mk) (.bool mb) (.int .i64 mn) (.string mt) (.int .i64 xk) (.bool xb) (.int .i64 xn) (.string xt) (.int .i64 NN) (.int .i64 BB) (fun Y9 _ k => k)⟩
  have bRW := bR2.kept kW (by simpa using hne) (bR2.lt (by simp))
  have u0 := bW.get 0 _ rfl
  have u1 := bW.get 1 _ rfl
  have u2 := bW.get 2 _ rfl
  have u3 := bW.get 3 _ rfl
  have u4 := bW.get 4 _ rfl
  have u5 := bW.get 5 _ rfl
  have u6 := bW.get 6 _ rfl
  have u7 := bW.get 7 _ rfl
  have u8 := bW.get 8 _ rfl
  have u9 := bW.get 9 _ rfl
  have u10 := bW.get 10 _ rfl
  have u11 := bW.get 11 _ rfl
  have y0 := bRW.get 0 _ rfl; have z0 := bRW.free 0
  have y1 := bRW.get 1 _ rfl; have z1 := bRW.free 1
  have y2 := bRW.get 2 _ rfl; have z2 := bRW.free 2
  have y3 := bRW.get 3 _ rfl; have z3 := bRW.free 3
  have y4 := bRW.get 4 _ rfl; have z4 := bRW.free 4
  have y5 := bRW.get 5 _ rfl; have z5 := bRW.free 5
  have y6 := bRW.get 6 _ rfl; have z6 := bRW.free 6
  have y7 := bRW.get 7 _ rfl; have z7 := bRW.free 7
  have y8 := bRW.get 8 _ rfl; have z8 := bRW.free 8
  have y9 := bRW.get 9 _ rfl; have z9 := bRW.free 9
  have y10 := bRW.get 10 _ rfl; have z10 := bRW.free 10
  have y11 := bRW.get 11 _ rfl; have z11 := bRW.free 11
  obtain ⟨V, hV, bV, kV⟩ : ∃ Y9, ((((((((((((W.setCell ⟨q, 0, none⟩ (.int .i64 K)).setCell ⟨q, 1, none⟩ (.int .i64 M)).setCell ⟨q, 2, none⟩ (.int .i64 mk)).setCell ⟨q, 3, none⟩ (.bool mb)).setCell ⟨q, 4, none⟩ (.int .i64 mn)).setCell ⟨q, 5, none⟩ (.string mt)).setCell ⟨q, 6, none⟩ (.int .i64 xk)).setCell ⟨q, 7, none⟩ (.bool xb)).setCell ⟨q, 8, none⟩ (.int .i64 xn)).setCell ⟨q, 9, none⟩ (.string xt)).setCell ⟨q, 10, none⟩ (.int .i64 NN)).setCell ⟨q, 11, none⟩ (.int .i64 BB)) = Y9 ∧ Bx Y9 q [.int .i64 K, .int .i64 M, .int .i64 mk, .bool mb, .int .i64 mn, .string mt, .int .i64 xk, .bool xb, .int .i64 xn, .string xt, .int .i64 NN, .int .i64 BB] ∧ Kp [q] W Y9 := ⟨_, rfl, gen12q (R := fun Y9 => Bx Y9 q [.int .i64 K, .int .i64 M, .int .i64 mk, .bool mb, .int .i64 mn, .string mt, .int .i64 xk, .bool xb, .int .i64 xn, .string xt, .int .i64 NN, .int .i64 BB]) bRW rfl (.int .i64 K) (.int .i64 M) (.int .i64 mk) (.bool mb) (.int .i64 mn) (.string mt) (.int .i64 xk) (.bool xb) (.int .i64 xn) (.string xt) (.int .i64 NN) (.int .i64 BB) (fun Y9 b _ => b), gen12q (R := fun Y9 => Kp [q] W Y9) bRW rfl (.int .i64 K) (.int .i64 M) (.int .i64 mk) (.bool mb) (.int .i64 mn) (.string mt) (.int .i64 xk) (.bool xb) (.int .i64 xn) (.string xt) (.int .i64 NN) (.int .i64 BB) (fun Y9 _ k => k)⟩
  have kkV := hid ((((kw1.trans k2 (by simp)).trans kW (fun x hx => .inr (by simp at hx; omega))).trans kV (fun x hx => .inr (by simp at hx; omega))))
  have hV' := hid hV
  have hbV := hid bV
  clear hV
  have hqi' := hqi.out
  clear cT k1 bR1 kw1 k2 bI bR2 kW bW bRW kV bV hbR hkw hw0'
  go_wp2_with fail
  rw [hV'.out]
  have r0 := hbV.out.get 0 _ rfl
  have r1 := hbV.out.get 1 _ rfl
  have r2 := hbV.out.get 2 _ rfl
  have r3 := hbV.out.get 3 _ rfl
  have r4 := hbV.out.get 4 _ rfl
  have r5 := hbV.out.get 5 _ rfl
  have r6 := hbV.out.get 6 _ rfl
  have r7 := hbV.out.get 7 _ rfl
  have r8 := hbV.out.get 8 _ rfl
  have r9 := hbV.out.get 9 _ rfl
  have r10 := hbV.out.get 10 _ rfl
  have r11 := hbV.out.get 11 _ rfl
  refine bodyPost_ret (v := .tuple #[.agg #[.int .i64 K, .int .i64 M, .int .i64 mk, .bool mb, .int .i64 mn, .string mt, .int .i64 xk, .bool xb, .int .i64 xn, .string xt, .int .i64 NN, .int .i64 BB], .int .i64 E]) (by simp [results, Tryz.results13, go_sem, r0, r1, r2, r3, r4, r5, r6, r7, r8, r9, r10, r11]) rfl ⟨rfl, kkV.out⟩
/-- What a call that reads a block hands back. -/
def RdP (r : List Val × Nat × Int) (w : World) (e : Ending) (w' : World) : Prop := ∃ a c, e = .returned (.tuple #[.slice a r.1.length c, .int .i64 r.2.1, .int .i64 r.2.2]) ∧ VE.Row w' (.slice a r.1.length c) r.1 ∧ Kp [] w w' ∧ ∀ k ∈ blk a, w.heap.size ≤ k
theorem rdP_no (n : Int) {w w' : World} (k : Kp [] w w') : RdP ([], 0, n) w (.returned (.tuple #[.slice none 0 0, .int .i64 0, .int .i64 n])) w' := ⟨none, 0, rfl, .inl ⟨rfl, rfl⟩, k, by simp [blk]⟩
theorem take4 (xs : List UInt8) (h : xs.length = 4) : takeS 4 xs 0 = (xs, [], 0) := by
  unfold takeS
  rw [if_neg (by simp), if_neg (by omega), List.take_of_length_le (by omega), List.drop_of_length_le (by omega)]
set_option maxHeartbeats 16000000 in
set_option maxRecDepth 100000 in
theorem bReadN (a : Option Addr) (c : Nat) (bs : List UInt8) (w : World) (hs : Sees w a bs) (hl : bs.length ≤ c) (hm : c ≤ maxLen) (hn : hdR bs = none) :
    Calls Tryz.prog 14 #[.slice a bs.length c] w (RdP ([], 0, 70) w) := by
  have cT := bTakeHead a c bs w hs hl hm
  have hP : hdP bs = (zeroI, 0, 70) := by unfold hdP; rw [hn]
  rw [hP] at cT
  unfold HdP at cT
  rw [zeroI_v] at cT
  clear hs hn hP
  go_enter Tryz.func14, Tryz.ntmps14
  go_wp2_with fail
  refine cT.mono ?_
  rintro e w1 ⟨rfl, k1⟩
  obtain ⟨w2, hw2, k2, bI⟩ : ∃ w2, w1.alloc (.cells #[.int .i64 0, .int .i64 0, .int .i64 0, .bool false, .int .i64 0, .string ⟨#[]⟩, .int .i64 0, .bool false, .int .i64 0, .string ⟨#[]⟩, .int .i64 0, .int .i64 0] 46) = w2 ∧ Kp [] w1 w2 ∧ Bx w2 w1.heap.size [.int .i64 0, .int .i64 0, .int .i64 0, .bool false, .int .i64 0, .string ⟨#[]⟩, .int .i64 0, .bool false, .int .i64 0, .string ⟨#[]⟩, .int .i64 0, .int .i64 0] := ⟨_, rfl, (Kp.refl _ _).alloc _, Bx.new w1 _ _⟩
  obtain ⟨qi, hqi⟩ : ∃ q, Hid (w1.heap.size = q) := ⟨_, rfl⟩
  have hqiw : w.heap.size ≤ qi := by rw [← hqi.out]; exact k1.size
  rw [hqi.out] at bI
  have p0 := bI.get 0 _ rfl; have f0 := bI.free 0
  have p1 := bI.get 1 _ rfl; have f1 := bI.free 1
  have p2 := bI.get 2 _ rfl; have f2 := bI.free 2
  have p3 := bI.get 3 _ rfl; have f3 := bI.free 3
  have p4 := bI.get 4 _ rfl; have f4 := bI.free 4
  have p5 := bI.get 5 _ rfl; have f5 := bI.free 5
  have p6 := bI.get 6 _ rfl; have f6 := bI.free 6
  have p7 := bI.get 7 _ rfl; have f7 := bI.free 7
  have p8 := bI.get 8 _ rfl; have f8 := bI.free 8
  have p9 := bI.get 9 _ rfl; have f9 := bI.free 9
  have p10 := bI.get 10 _ rfl; have f10 := bI.free 10
  have p11 := bI.get 11 _ rfl; have f11 := bI.free 11
  obtain ⟨W, hW, bW, kW⟩ : ∃ Y9, ((((((((((((w2.setCell ⟨qi, 0, none⟩ (.int .i64 0)).setCell ⟨qi, 1, none⟩ (.int .i64 0)).setCell ⟨qi, 2, none⟩ (.int .i64 0)).setCell ⟨qi, 3, none⟩ (.bool false)).setCell ⟨qi, 4, none⟩ (.int .i64 0)).setCell ⟨qi, 5, none⟩ (.string ⟨#[]⟩)).setCell ⟨qi, 6, none⟩ (.int .i64 0)).setCell ⟨qi, 7, none⟩ (.bool false)).setCell ⟨qi, 8, none⟩ (.int .i64 0)).setCell ⟨qi, 9, none⟩ (.string ⟨#[]⟩)).setCell ⟨qi, 10, none⟩ (.int .i64 0)).setCell ⟨qi, 11, none⟩ (.int .i64 0)) = Y9 ∧ Bx Y9 qi [.int .i64 0, .int .i64 0, .int .i64 0, .bool false, .int .i64 0, .string ⟨#[]⟩, .int .i64 0, .bool false, .int .i64 0, .string ⟨#[]⟩, .int .i64 0, .int .i64 0] ∧ Kp [qi] w2 Y9 := ⟨_, rfl, gen12q (R := fun Y9 => Bx Y9 qi [.int .i64 0, .int .i64 0, .int .i64 0, .bool false, .int .i64 0, .string ⟨#[]⟩, .int .i64 0, .bool false, .int .i64 0, .string ⟨#[]⟩, .int .i64 0, .int .i64 0]) bI rfl (.int .i64 0) (.int .i64 0) (.int .i64 0) (.bool false) (.int .i64 0) (.string ⟨#[]⟩) (.int .i64 0) (.bool false) (.int .i64 0) (.string ⟨#[]⟩) (.int .i64 0) (.int .i64 0) (fun Y9 b _ => b), gen12q (R := fun Y9 => Kp [qi] w2 Y9) bI rfl (.int .i64 0) (.int .i64 0) (.int .i64 0) (.bool false) (.int .i64 0) (.string ⟨#[]⟩) (.int .i64 0) (.bool false) (.int .i64 0) (.string ⟨#[]⟩) (.int .i64 0) (.int .i64 0) (fun Y9 _ k => k)⟩
  have kkW := hid ((k1.trans k2 (by simp)).trans kW (fun x hx => .inr (by simp at hx; omega)))
  have hqi' := hqi.out
  clear cT k1 k2 bI kW bW
  go_wp2_with fail
  go_ret3
  exact rdP_no 70 kkW.out
set_option maxHeartbeats 32000000 in
set_option maxRecDepth 100000 in
theorem bReadS (a : Option Addr) (c : Nat) (bs : List UInt8) (w : World) (ht0 : Tab w) (hs : Sees w a bs) (hl : bs.length ≤ c) (hm : c ≤ maxLen) (hb : bs.length ≤ 200000000000000)
    (K : Int) (M s n B : Nat) (mk : Int) (mb : Bool) (mn : Int) (mt : ByteArray) (xk : Int) (xb : Bool) (xn : Int) (xt : ByteArray) (NN : Int)
    (hn : hdR bs = some (⟨K, (M : Int), ⟨mk, mb, mn, mt⟩, ⟨xk, xb, xn, xt⟩, NN, (B : Int)⟩, s)) (hB : n + 4 = B) (hBl : B ≤ bs.length) (hsn : s ≤ n) (hs0 : 0 < s) (hM0 : 0 < M) (hM : M ≤ 64) :
    Calls Tryz.prog 14 #[.slice a bs.length c] w (RdP (rdR bs) w) := by
  have cT := bTakeHead a c bs w hs hl hm
  have hP : hdP bs = (⟨K, (M : Int), ⟨mk, mb, mn, mt⟩, ⟨xk, xb, xn, xt⟩, NN, (B : Int)⟩, s, 0) := by unfold hdP; rw [hn]
  rw [hP] at cT
  unfold HdP Inf.v Inf.cs at cT
  dsimp only at cT
  have hrd : Hid (rdR bs = if num ((bs.drop n).take 4) ≠ crc (bs.take n) then ([], 0, 71) else if (decA K ((bs.take n).drop s) M).2 = 0 ∧ tellB ⟨K, (M : Int), ⟨mk, mb, mn, mt⟩, ⟨xk, xb, xn, xt⟩, NN, (B : Int)⟩ (decA K ((bs.take n).drop s) M).1 = true then ((decA K ((bs.take n).drop s) M).1, B, 0) else ([], 0, 70)) := by
    show _ = _
    unfold rdR
    rw [hn]
    dsimp only
    rw [Int.toNat_natCast, Int.toNat_natCast, show B - 4 = n by omega]
  obtain ⟨g, o, rfl, hc⟩ : ∃ g o, a = some ⟨g, o, none⟩ ∧ ∀ j u, bs[j]? = some u → w.cell? ⟨g, o + j, none⟩ = some (.int .u8 u.toNat) := by
    rcases hs with h | h
    · rw [h] at hBl; simp at hBl; omega
    · exact h
  have hs' : Sees w (some ⟨g, o, none⟩) bs := .inr ⟨g, o, rfl, hc⟩
  have s4 : Sees w (some ⟨g, o + n, none⟩) ((bs.drop n).take 4) := by have := (hs'.tail n).front 4; simpa [Addr.add_lit] using this
  have l4 : ((bs.drop n).take 4).length = 4 := by rw [List.length_take, List.length_drop]; omega
  have sn : Sees w (some ⟨g, o, none⟩) (bs.take n) := hs'.front n
  have ln : (bs.take n).length = n := by rw [List.length_take]; omega
  have sD : Sees w (some ⟨g, o + s, none⟩) ((bs.take n).drop s) := by have := sn.tail s; simpa [Addr.add_lit] using this
  have lD : ((bs.take n).drop s).length = n - s := by rw [List.length_drop, ln]
  have hcR : Hid (∀ W, Kp [] w W → Calls Tryz.prog 31 #[.slice (some ⟨g, o + n, none⟩) 4 (c - n)] W fun e w' => ∃ p D, e = .returned (.pointer (some ⟨p, 0, none⟩)) ∧ Rd w' p D ((bs.drop n).take 4) 0 ∧ Kp [] W w' ∧ W.heap.size ≤ p ∧ ∀ k ∈ D, W.heap.size ≤ k) := fun W kW => rRead (some ⟨g, o + n, none⟩) 4 (c - n) ((bs.drop n).take 4) W (s4.kept kW (by simp)) l4.symm (by omega)
  have hcS : Hid (∀ W, Kp [] w W → Calls Tryz.prog 22 #[.slice (some ⟨g, o, none⟩) n c] W fun e w' => e = .returned (.int .u32 (crc (bs.take n))) ∧ w' = W) := fun W kW => cSum (some ⟨g, o, none⟩) n c (bs.take n) W (ht0.kept kW (by simp)) (sn.kept kW (by simp)) ln.symm (by omega)
  have hcD : Hid (∀ W, Kp [] w W → Calls Tryz.prog 33 #[.int .i64 K, .slice (some ⟨g, o + s, none⟩) (n - s) (c - s), .int .i64 (M : Int)] W (DecP W (decA K ((bs.take n).drop s) M))) := fun W kW => by
    have := cDecA K (some ⟨g, o + s, none⟩) (c - s) ((bs.take n).drop s) M W (sD.kept kW (by simp)) (by rw [lD]; omega) (by omega) (by rw [lD]; omega) (by omega)
    rwa [lD] at this
  have hw4 : Hid (∀ p D W, Rd W p D ((bs.drop n).take 4) 0 → Calls Tryz.prog 32 #[.pointer (some ⟨p, 0, none⟩)] W fun e w' => e = .returned (.int .u32 (num ((bs.drop n).take 4))) ∧ Kp [p] W w') := fun p D W hr => (rWord p D _ 0 W hr).mono fun e w' ⟨out, b2, e2, h1, h2, h3, h4⟩ => by
    rw [take4 _ l4] at h1
    injection h1 with h1 h5
    subst h1
    exact ⟨h2, h4⟩
  have hMn : Hid (∀ l, (decA K ((bs.take n).drop s) M).2 = 0 → (decA K ((bs.take n).drop s) M).1 = l → l.length = M) := fun l h1 h2 => by
    subst h2
    unfold decA at h1 ⊢
    split at h1
    · simp at h1
    · split at h1
      · simp at h1
      · unfold decE at h1 ⊢
        split at h1
        · rename_i q1 q2 q3
          rw [if_neg q1, if_neg q2, if_pos q3]
          exact q3.2.1
        · simp at h1
  obtain ⟨N4, hN4⟩ : ∃ x : Nat, Hid (num ((bs.drop n).take 4) = x) := ⟨_, rfl⟩
  obtain ⟨CR, hCR⟩ : ∃ x : Nat, Hid (crc (bs.take n) = x) := ⟨_, rfl⟩
  simp only [hN4.out] at hw4
  simp only [hCR.out] at hcS
  rw [hN4.out, hCR.out] at hrd
  obtain ⟨⟨L, DE⟩, hDD⟩ : ∃ r, Hid (decA K ((bs.take n).drop s) M = r) := ⟨_, rfl⟩
  simp only [hDD.out] at hcD hMn hrd
  unfold DecP at hcD
  dsimp only at hcD hMn hrd
  have hrw : Hid (∀ W p D, Rd W p D ((bs.drop n).take 4) 0 → True) := fun _ _ _ _ => trivial
  obtain ⟨X4, hX4⟩ : ∃ X, Hid ((bs.drop n).take 4 = X) := ⟨_, rfl⟩
  simp only [hX4.out] at hcR hw4
  have ht := hid ht0
  unfold maxLen at hm
  clear hs hs' hc s4 sn sD l4 ln lD hn hP ht0 hrw hN4 hCR hDD hX4
  go_enter Tryz.func14, Tryz.ntmps14
  go_wp2_with fail
  refine cT.mono ?_
  rintro e w1 ⟨rfl, k1⟩
  obtain ⟨w2, hw2, k2, bI⟩ : ∃ w2, w1.alloc (.cells #[.int .i64 0, .int .i64 0, .int .i64 0, .bool false, .int .i64 0, .string ⟨#[]⟩, .int .i64 0, .bool false, .int .i64 0, .string ⟨#[]⟩, .int .i64 0, .int .i64 0] 46) = w2 ∧ Kp [] w1 w2 ∧ Bx w2 w1.heap.size [.int .i64 0, .int .i64 0, .int .i64 0, .bool false, .int .i64 0, .string ⟨#[]⟩, .int .i64 0, .bool false, .int .i64 0, .string ⟨#[]⟩, .int .i64 0, .int .i64 0] := ⟨_, rfl, (Kp.refl _ _).alloc _, Bx.new w1 _ _⟩
  obtain ⟨qi, hqi⟩ : ∃ q, Hid (w1.heap.size = q) := ⟨_, rfl⟩
  have hqiw : w.heap.size ≤ qi := by rw [← hqi.out]; exact k1.size
  rw [hqi.out] at bI
  have p0 := bI.get 0 _ rfl; have f0 := bI.free 0
  have p1 := bI.get 1 _ rfl; have f1 := bI.free 1
  have p2 := bI.get 2 _ rfl; have f2 := bI.free 2
  have p3 := bI.get 3 _ rfl; have f3 := bI.free 3
  have p4 := bI.get 4 _ rfl; have f4 := bI.free 4
  have p5 := bI.get 5 _ rfl; have f5 := bI.free 5
  have p6 := bI.get 6 _ rfl; have f6 := bI.free 6
  have p7 := bI.get 7 _ rfl; have f7 := bI.free 7
  have p8 := bI.get 8 _ rfl; have f8 := bI.free 8
  have p9 := bI.get 9 _ rfl; have f9 := bI.free 9
  have p10 := bI.get 10 _ rfl; have f10 := bI.free 10
  have p11 := bI.get 11 _ rfl; have f11 := bI.free 11
  obtain ⟨W, hW, bW, kW⟩ : ∃ Y9, ((((((((((((w2.setCell ⟨qi, 0, none⟩ (.int .i64 K)).setCell ⟨qi, 1, none⟩ (.int .i64 (M : Int))).setCell ⟨qi, 2, none⟩ (.int .i64 mk)).setCell ⟨qi, 3, none⟩ (.bool mb)).setCell ⟨qi, 4, none⟩ (.int .i64 mn)).setCell ⟨qi, 5, none⟩ (.string mt)).setCell ⟨qi, 6, none⟩ (.int .i64 xk)).setCell ⟨qi, 7, none⟩ (.bool xb)).setCell ⟨qi, 8, none⟩ (.int .i64 xn)).setCell ⟨qi, 9, none⟩ (.string xt)).setCell ⟨qi, 10, none⟩ (.int .i64 NN)).setCell ⟨qi, 11, none⟩ (.int .i64 (B : Int))) = Y9 ∧ Bx Y9 qi [.int .i64 K, .int .i64 (M : Int), .int .i64 mk, .bool mb, .int .i64 mn, .string mt, .int .i64 xk, .bool xb, .int .i64 xn, .string xt, .int .i64 NN, .int .i64 (B : Int)] ∧ Kp [qi] w2 Y9 := ⟨_, rfl, gen12q (R := fun Y9 => Bx Y9 qi [.int .i64 K, .int .i64 (M : Int), .int .i64 mk, .bool mb, .int .i64 mn, .string mt, .int .i64 xk, .bool xb, .int .i64 xn, .string xt, .int .i64 NN, .int .i64 (B : Int)]) bI rfl (.int .i64 K) (.int .i64 (M : Int)) (.int .i64 mk) (.bool mb) (.int .i64 mn) (.string mt) (.int .i64 xk) (.bool xb) (.int .i64 xn) (.string xt) (.int .i64 NN) (.int .i64 (B : Int)) (fun Y9 b _ => b), gen12q (R := fun Y9 => Kp [qi] w2 Y9) bI rfl (.int .i64 K) (.int .i64 (M : Int)) (.int .i64 mk) (.bool mb) (.int .i64 mn) (.string mt) (.int .i64 xk) (.bool xb) (.int .i64 xn) (.string xt) (.int .i64 NN) (.int .i64 (B : Int)) (fun Y9 _ k => k)⟩
  have kkW := hid ((k1.trans k2 (by simp)).trans kW (fun x hx => .inr (by simp at hx; omega)))
  have hbW := hid bW
  have u11 := bW.get 11 _ rfl
  have hqi' := hqi.out
  have hB4 : (B : Int) - 4 = (n : Int) := by omega
  clear cT k1 k2 bI kW bW
  go_wp2_with fail
  clear p0 f0 p1 f1 p2 f2 p3 f3 p4 f4 p5 f5 p6 f6 p7 f7 p8 f8 p9 f9 p10 f10 p11 f11 hW hqi' hw2 hB4 u11
  have kd : Kp [] W W.drew := (Kp.refl _ _).drew
  have hS : Hid (∀ A, Kp [] W A → A.cell? ⟨qi, 11, none⟩ = some (.int .i64 (B : Int))) := fun A kA => (hbW.out.kept kA (by simp) (hbW.out.lt (by simp))).get 11 _ rfl
  refine wp_region_held_drew (S := (fun A => A.cell? ⟨qi, 11, none⟩ = some (.int .i64 (B : Int)))) (by kernel_rfl) ?_ (fun hHeld => ?_)
  · exact hS.out _ kd
  have kwd := hid (kkW.out.trans kd (by simp))
  have hWd : Hid (Kp [] W W.drew) := kd
  clear kd
  generalize W.drew = wd at *
  have y1 : (0 : Int) ≤ (n : Int) := by omega
  have y2 : (n : Int) ≤ (B : Int) := by omega
  have y3 : (B : Int) ≤ (c : Int) := by omega
  have y4 : n ≤ B := by omega
  have y5 : B ≤ c := by omega
  have y6 : n < c := by omega
  have y7 : (n : Int) ≤ (c : Int) := by omega
  have y8 : B - n = 4 := by omega
  have y9 : n ≠ c := by omega
  have y10 : n ≤ c := by omega
  have y11 : c ≠ n := by omega
  refine wpAnyH_take (i := 0) (v := ?_) rfl (by kernel_rfl) (by kernel_rfl) (by kernel_rfl) (fun _ _ _ h => h) (Or.inl ⟨by rfl, ?_⟩) (by assumption) ?_
  rotate_left
  · intro w hSw; (try dsimp only at hSw); go_simp <;> with_reducible rfl
  try simp only [Act.put, List.getElem_toArray, List.getElem_cons_zero, List.getElem_cons_succ, List.setIfInBounds_toArray, List.set_cons_zero, List.set_cons_succ]
  refine wpAnyH_take (i := 1) (v := ?_) rfl (by kernel_rfl) (by kernel_rfl) (by kernel_rfl) (fun _ _ _ h => h) (Or.inl ⟨by rfl, ?_⟩) (by assumption) ?_
  rotate_left
  · intro w hSw; (try dsimp only at hSw); go_simp <;> with_reducible rfl
  try simp only [Act.put, List.getElem_toArray, List.getElem_cons_zero, List.getElem_cons_succ, List.setIfInBounds_toArray, List.set_cons_zero, List.set_cons_succ]
  refine wpAnyH_take (i := 2) (v := ?_) rfl (by kernel_rfl) (by kernel_rfl) (by kernel_rfl) (fun _ _ _ h => h) (Or.inl ⟨by rfl, ?_⟩) (by assumption) ?_
  rotate_left
  · intro w hSw; (try dsimp only at hSw); go_simp <;> with_reducible rfl
  try simp only [Act.put, List.getElem_toArray, List.getElem_cons_zero, List.getElem_cons_succ, List.setIfInBounds_toArray, List.set_cons_zero, List.set_cons_succ]
  refine wpAnyH_take (i := 3) (v := ?_) rfl (by kernel_rfl) (by kernel_rfl) (by kernel_rfl) (fun _ _ _ h => h) (Or.inl ⟨by rfl, ?_⟩) (by assumption) ?_
  rotate_left
  · intro w hSw; (try dsimp only at hSw); go_simp <;> with_reducible rfl
  try simp only [Act.put, List.getElem_toArray, List.getElem_cons_zero, List.getElem_cons_succ, List.setIfInBounds_toArray, List.set_cons_zero, List.set_cons_succ]
  refine wpAnyH_take (i := 4) (v := ?_) rfl (by kernel_rfl) (by kernel_rfl) (by kernel_rfl) (fun _ _ _ h => h) (Or.inl ⟨by rfl, ?_⟩) (by assumption) ?_
  rotate_left
  · intro w hSw; (try dsimp only at hSw); go_simp <;> with_reducible rfl
  try simp only [Act.put, List.getElem_toArray, List.getElem_cons_zero, List.getElem_cons_succ, List.setIfInBounds_toArray, List.set_cons_zero, List.set_cons_succ]
  refine wpAnyH_take (i := 7) (v := ?_) rfl (by kernel_rfl) (by kernel_rfl) (by kernel_rfl) (fun _ _ _ h => h) (Or.inl ⟨by rfl, ?_⟩) (by assumption) ?_
  rotate_left
  · intro w hSw; (try dsimp only at hSw); go_simp <;> with_reducible rfl
  try simp only [Act.put, List.getElem_toArray, List.getElem_cons_zero, List.getElem_cons_succ, List.setIfInBounds_toArray, List.set_cons_zero, List.set_cons_succ]
  refine wpAnyH_take (i := 8) (v := ?_) rfl (by kernel_rfl) (by kernel_rfl) (by kernel_rfl) (fun _ _ _ h => h) (Or.inl ⟨by rfl, ?_⟩) (by assumption) ?_
  rotate_left
  · intro w hSw; (try dsimp only at hSw); go_simp <;> with_reducible rfl
  try simp only [Act.put, List.getElem_toArray, List.getElem_cons_zero, List.getElem_cons_succ, List.setIfInBounds_toArray, List.set_cons_zero, List.set_cons_succ]
  refine wpAnyH_take (i := 9) (v := ?_) rfl (by kernel_rfl) (by kernel_rfl) (by kernel_rfl) (fun _ _ _ h => h) (Or.inl ⟨by rfl, ?_⟩) (by assumption) ?_
  rotate_left
  · intro w hSw; (try dsimp only at hSw); go_simp <;> with_reducible rfl
  try simp only [Act.put, List.getElem_toArray, List.getElem_cons_zero, List.getElem_cons_succ, List.setIfInBounds_toArray, List.set_cons_zero, List.set_cons_succ]
  refine wpAnyH_ready (rs := [5]) (by kernel_rfl) (by simp) ?_
  refine AllReadyH.cons rfl (fun K hK => ?_) AllReadyH.nil
  go_simp
  refine (hcR.out wd kwd.out).mono ?_
  rintro e w5 ⟨p, D, rfl, hr5, k5, hp5, hD5⟩
  (try go_wp2_with fail)
  refine hK.out _ _ ?_ (fun hHeld => ?_)
  · exact hS.out _ (hWd.out.trans k5 (by simp))
  clear hK K
  try simp only [Act.put, List.getElem_toArray, List.getElem_cons_zero, List.getElem_cons_succ, List.setIfInBounds_toArray, List.set_cons_zero, List.set_cons_succ]
  have kw5 := hid (kwd.out.trans k5 (by simp))
  have kW5 := hid (hWd.out.trans k5 (by simp))
  have hr5' := hid hr5
  have hpw5 : w.heap.size ≤ p := Nat.le_trans kwd.out.size hp5
  have hpq : qi ≠ p := by have := hbW.out.lt (by simp); have := hWd.out.size; omega
  clear hr5 k5 hp5 hD5
  refine wpAnyH_ready (rs := [6]) (by kernel_rfl) (by simp) ?_
  refine AllReadyH.cons rfl (fun K hK => ?_) AllReadyH.nil
  go_simp
  refine (hw4.out p D w5 hr5'.out).mono ?_
  rintro e w6 ⟨rfl, k6⟩
  (try go_wp2_with fail)
  refine hK.out _ _ ?_ (fun hHeld => ?_)
  · exact ((hbW.out.kept kW5.out (by simp) (hbW.out.lt (by simp))).kept k6 (by simpa using hpq) (by have := hbW.out.lt (by simp); have := kW5.out.size; omega)).get 11 _ rfl
  clear hK K
  try simp only [Act.put, List.getElem_toArray, List.getElem_cons_zero, List.getElem_cons_succ, List.setIfInBounds_toArray, List.set_cons_zero, List.set_cons_succ]
  have kw6 := hid (kw5.out.trans k6 (fun x hx => .inr (by simp at hx; omega)))
  have b6 := hid ((hbW.out.kept kW5.out (by simp) (hbW.out.lt (by simp))).kept k6 (by simpa using hpq) (by have := hbW.out.lt (by simp); have := kW5.out.size; omega))
  clear k6
  refine wpAnyH_ready (rs := [10]) (by kernel_rfl) (by simp) ?_
  refine AllReadyH.cons rfl (fun K hK => ?_) AllReadyH.nil
  go_simp
  refine (hcS.out w6 kw6.out).mono ?_
  rintro e w7 ⟨rfl, hw7⟩
  rw [hw7]
  (try go_wp2_with fail)
  refine hK.out _ _ ?_ (fun hHeld => ?_)
  · exact b6.out.get 11 _ rfl
  clear hK K
  try simp only [Act.put, List.getElem_toArray, List.getElem_cons_zero, List.getElem_cons_succ, List.setIfInBounds_toArray, List.set_cons_zero, List.set_cons_succ]
  refine wpAnyH_take (i := 11) (v := ?_) rfl (by kernel_rfl) (by kernel_rfl) (by kernel_rfl) (fun _ _ _ h => h) (Or.inl ⟨by rfl, ?_⟩) (by assumption) ?_
  rotate_left
  · intro w hSw; (try dsimp only at hSw); go_simp <;> with_reducible rfl
  try simp only [Act.put, List.getElem_toArray, List.getElem_cons_zero, List.getElem_cons_succ, List.setIfInBounds_toArray, List.set_cons_zero, List.set_cons_succ]
  refine wpAnyH_done (by kernel_rfl) ?_ _
  clear hHeld y2 y3 y4 y5 y8 hS hcR hw4 hcS
  by_cases hne : N4 = CR
  · have d1 : ((N4 : Int) != (CR : Int)) = false := by simp [hne]
    have hrd2 : Hid (rdR bs = if DE = 0 ∧ tellB ⟨K, (M : Int), ⟨mk, mb, mn, mt⟩, ⟨xk, xb, xn, xt⟩, NN, (B : Int)⟩ L = true then (L, B, 0) else ([], 0, 70)) := by show _ = _; rw [hrd.out, if_neg (by simp [hne])]
    clear hrd hne
    have u0 := b6.out.get 0 _ rfl
    have u1 := b6.out.get 1 _ rfl
    go_wp2_with fail
    have kd : Kp [] w6 w6.drew := (Kp.refl _ _).drew
    have hS : Hid (∀ A, Kp [] w6 A → (A.cell? ⟨qi, 0, none⟩ = some (.int .i64 K) ∧ A.cell? ⟨qi, 1, none⟩ = some (.int .i64 (M : Int)))) := fun A kA => ⟨(b6.out.kept kA (by simp) (b6.out.lt (by simp))).get 0 _ rfl, (b6.out.kept kA (by simp) (b6.out.lt (by simp))).get 1 _ rfl⟩
    refine wp_region_held_drew (S := (fun A => (A.cell? ⟨qi, 0, none⟩ = some (.int .i64 K) ∧ A.cell? ⟨qi, 1, none⟩ = some (.int .i64 (M : Int))))) (by kernel_rfl) ?_ (fun hHeld => ?_)
    · exact hS.out _ kd
    have kwd6 := hid (kw6.out.trans kd (by simp))
    have hWd6 : Hid (Kp [] w6 w6.drew) := kd
    clear kd u0 u1 hHeld
    generalize w6.drew = wd6 at *
    have hHeld := hS.out _ hWd6.out
    have v1 : (0 : Int) ≤ (s : Int) := by omega
    have v2 : (s : Int) ≤ (n : Int) := by omega
    have v3 : s ≤ n := by omega
    have v4 : s < c := by omega
    have v5 : s ≠ c := by omega
    have v6 : s ≤ c := by omega
    have v9 : c ≠ s := by omega
    have v7 : (s : Int) ≤ (c : Int) := by omega
    have v8 : (n : Int) - (s : Int) = ((n - s : Nat) : Int) := by omega
    refine wpAnyH_take (i := 0) (v := ?_) rfl (by kernel_rfl) (by kernel_rfl) (by kernel_rfl) (fun _ _ _ h => h) (Or.inl ⟨by rfl, ?_⟩) (by assumption) ?_
    rotate_left
    · intro w hSw; (try dsimp only at hSw); go_simp <;> with_reducible rfl
    try simp only [Act.put, List.getElem_toArray, List.getElem_cons_zero, List.getElem_cons_succ, List.setIfInBounds_toArray, List.set_cons_zero, List.set_cons_succ]
    refine wpAnyH_take (i := 1) (v := ?_) rfl (by kernel_rfl) (by kernel_rfl) (by kernel_rfl) (fun _ _ _ h => h) (Or.inl ⟨by rfl, ?_⟩) (by assumption) ?_
    rotate_left
    · intro w hSw; (try dsimp only at hSw); go_simp <;> with_reducible rfl
    try simp only [Act.put, List.getElem_toArray, List.getElem_cons_zero, List.getElem_cons_succ, List.setIfInBounds_toArray, List.set_cons_zero, List.set_cons_succ]
    refine wpAnyH_take (i := 2) (v := ?_) rfl (by kernel_rfl) (by kernel_rfl) (by kernel_rfl) (fun _ _ _ h => h) (Or.inl ⟨by rfl, ?_⟩) (by assumption) ?_
    rotate_left
    · intro w hSw; (try dsimp only at hSw); go_simp <;> with_reducible rfl
    try simp only [Act.put, List.getElem_toArray, List.getElem_cons_zero, List.getElem_cons_succ, List.setIfInBounds_toArray, List.set_cons_zero, List.set_cons_succ]
    refine wpAnyH_take (i := 3) (v := ?_) rfl (by kernel_rfl) (by kernel_rfl) (by kernel_rfl) (fun _ _ _ h => h) (Or.inl ⟨by rfl, ?_⟩) (by assumption) ?_
    rotate_left
    · intro w hSw; (try dsimp only at hSw); go_simp <;> with_reducible rfl
    try simp only [Act.put, List.getElem_toArray, List.getElem_cons_zero, List.getElem_cons_succ, List.setIfInBounds_toArray, List.set_cons_zero, List.set_cons_succ]
    refine wpAnyH_take (i := 4) (v := ?_) rfl (by kernel_rfl) (by kernel_rfl) (by kernel_rfl) (fun _ _ _ h => h) (Or.inl ⟨by rfl, ?_⟩) (by assumption) ?_
    rotate_left
    · intro w hSw; (try dsimp only at hSw); go_simp <;> with_reducible rfl
    try simp only [Act.put, List.getElem_toArray, List.getElem_cons_zero, List.getElem_cons_succ, List.setIfInBounds_toArray, List.set_cons_zero, List.set_cons_succ]
    refine wpAnyH_take (i := 5) (v := ?_) rfl (by kernel_rfl) (by kernel_rfl) (by kernel_rfl) (fun _ _ _ h => h) (Or.inl ⟨by rfl, ?_⟩) (by assumption) ?_
    rotate_left
    · intro w hSw; (try dsimp only at hSw); go_simp <;> with_reducible rfl
    try simp only [Act.put, List.getElem_toArray, List.getElem_cons_zero, List.getElem_cons_succ, List.setIfInBounds_toArray, List.set_cons_zero, List.set_cons_succ]
    refine wpAnyH_take (i := 6) (v := ?_) rfl (by kernel_rfl) (by kernel_rfl) (by kernel_rfl) (fun _ _ _ h => h) (Or.inl ⟨by rfl, ?_⟩) (by assumption) ?_
    rotate_left
    · intro w hSw; (try dsimp only at hSw); go_simp <;> with_reducible rfl
    try simp only [Act.put, List.getElem_toArray, List.getElem_cons_zero, List.getElem_cons_succ, List.setIfInBounds_toArray, List.set_cons_zero, List.set_cons_succ]
    refine wpAnyH_take (i := 7) (v := ?_) rfl (by kernel_rfl) (by kernel_rfl) (by kernel_rfl) (fun _ _ _ h => h) (Or.inl ⟨by rfl, ?_⟩) (by assumption) ?_
    rotate_left
    · intro w hSw; (try dsimp only at hSw); go_simp <;> with_reducible rfl
    try simp only [Act.put, List.getElem_toArray, List.getElem_cons_zero, List.getElem_cons_succ, List.setIfInBounds_toArray, List.set_cons_zero, List.set_cons_succ]
    refine wpAnyH_ready (rs := [8]) (by kernel_rfl) (by simp) ?_
    refine AllReadyH.cons rfl (fun K hK => ?_) AllReadyH.nil
    go_simp
    refine (hcD.out wd6 kwd6.out).mono ?_
    rintro e w8 ⟨a8, c8, rfl, hrow8, k8, hn8⟩
    (try go_wp2_with fail)
    refine hK.out _ _ ?_ (fun hHeld => ?_)
    · exact hS.out _ (hWd6.out.trans k8 (by simp))
    clear hK K
    try simp only [Act.put, List.getElem_toArray, List.getElem_cons_zero, List.getElem_cons_succ, List.setIfInBounds_toArray, List.set_cons_zero, List.set_cons_succ]
    have kw8 := hid (kwd6.out.trans k8 (by simp))
    have b8 := hid (b6.out.kept (hWd6.out.trans k8 (by simp)) (by simp) (b6.out.lt (by simp)))
    have hr8 := hid (And.intro hrow8 hn8)
    clear hrow8 hn8 k8
    refine wpAnyH_take (i := 9) (v := ?_) rfl (by kernel_rfl) (by kernel_rfl) (by kernel_rfl) (fun _ _ _ h => h) (Or.inl ⟨by rfl, ?_⟩) (by assumption) ?_
    rotate_left
    · intro w hSw; (try dsimp only at hSw); go_simp <;> with_reducible rfl
    try simp only [Act.put, List.getElem_toArray, List.getElem_cons_zero, List.getElem_cons_succ, List.setIfInBounds_toArray, List.set_cons_zero, List.set_cons_succ]
    refine wpAnyH_take (i := 10) (v := ?_) rfl (by kernel_rfl) (by kernel_rfl) (by kernel_rfl) (fun _ _ _ h => h) (Or.inl ⟨by rfl, ?_⟩) (by assumption) ?_
    rotate_left
    · intro w hSw; (try dsimp only at hSw); go_simp <;> with_reducible rfl
    try simp only [Act.put, List.getElem_toArray, List.getElem_cons_zero, List.getElem_cons_succ, List.setIfInBounds_toArray, List.set_cons_zero, List.set_cons_succ]
    refine wpAnyH_take (i := 11) (v := ?_) rfl (by kernel_rfl) (by kernel_rfl) (by kernel_rfl) (fun _ _ _ h => h) (Or.inl ⟨by rfl, ?_⟩) (by assumption) ?_
    rotate_left
    · intro w hSw; (try dsimp only at hSw); go_simp <;> with_reducible rfl
    try simp only [Act.put, List.getElem_toArray, List.getElem_cons_zero, List.getElem_cons_succ, List.setIfInBounds_toArray, List.set_cons_zero, List.set_cons_succ]
    refine wpAnyH_take (i := 12) (v := ?_) rfl (by kernel_rfl) (by kernel_rfl) (by kernel_rfl) (fun _ _ _ h => h) (Or.inl ⟨by rfl, ?_⟩) (by assumption) ?_
    rotate_left
    · intro w hSw; (try dsimp only at hSw); go_simp <;> with_reducible rfl
    try simp only [Act.put, List.getElem_toArray, List.getElem_cons_zero, List.getElem_cons_succ, List.setIfInBounds_toArray, List.set_cons_zero, List.set_cons_succ]
    refine wpAnyH_take (i := 13) (v := ?_) rfl (by kernel_rfl) (by kernel_rfl) (by kernel_rfl) (fun _ _ _ h => h) (Or.inl ⟨by rfl, ?_⟩) (by assumption) ?_
    rotate_left
    · intro w hSw; (try dsimp only at hSw); go_simp <;> with_reducible rfl
    try simp only [Act.put, List.getElem_toArray, List.getElem_cons_zero, List.getElem_cons_succ, List.setIfInBounds_toArray, List.set_cons_zero, List.set_cons_succ]
    refine wpAnyH_done (by kernel_rfl) ?_ _
    clear hS v1 v2 v3 v4 v5 v6 v7 v8 hcD
    by_cases hDE : DE = 0
    · subst hDE
      have hLM := hMn.out L rfl rfl
      obtain ⟨hv8, hl8, hm8⟩ := rowVals hr8.out.1
      have cL := bTells ⟨K, (M : Int), ⟨mk, mb, mn, mt⟩, ⟨xk, xb, xn, xt⟩, NN, (B : Int)⟩ a8 c8 L w8 hv8 (by omega) (by omega)
      obtain ⟨TB, hTB⟩ : ∃ T9, Hid (tellB ⟨K, (M : Int), ⟨mk, mb, mn, mt⟩, ⟨xk, xb, xn, xt⟩, NN, (B : Int)⟩ L = T9) := ⟨_, rfl⟩
      rw [hTB.out] at cL hrd2
      unfold Inf.v Inf.cs at cL
      dsimp only at cL
      have u0 := b8.out.get 0 _ rfl
      have u1 := b8.out.get 1 _ rfl
      have u2 := b8.out.get 2 _ rfl
      have u3 := b8.out.get 3 _ rfl
      have u4 := b8.out.get 4 _ rfl
      have u5 := b8.out.get 5 _ rfl
      have u6 := b8.out.get 6 _ rfl
      have u7 := b8.out.get 7 _ rfl
      have u8 := b8.out.get 8 _ rfl
      have u9 := b8.out.get 9 _ rfl
      have u10 := b8.out.get 10 _ rfl
      have u11 := b8.out.get 11 _ rfl
      clear hLM hv8 hl8 hm8 hTB hMn
      go_wp2_with fail
      refine cL.mono ?_
      rintro e w9 ⟨rfl, k9⟩
      have kw9 := hid (kw8.out.trans k9 (by simp))
      have b9 := hid (b8.out.kept k9 (by simp) (b8.out.lt (by simp)))
      have hr9 := hid (And.intro (hr8.out.1.keptNew k9) (fun k hk => Nat.le_trans kwd6.out.size (hr8.out.2 k hk)))
      clear cL u0 u1 u2 u3 u4 u5 u6 u7 u8 u9 u10 u11
      cases TB with
      | false =>
        have hrd3 : Hid (rdR bs = ([], 0, 70)) := by show _ = _; rw [hrd2.out, if_neg (by simp)]
        clear hrd2
        go_wp2_with fail
        go_ret3
        rw [hrd3.out]
        exact rdP_no 70 kw9.out
      | true =>
        have hrd3 : Hid (rdR bs = (L, B, 0)) := by show _ = _; rw [hrd2.out, if_pos (by simp)]
        have u11 := b9.out.get 11 _ rfl
        clear hrd2
        go_wp2_with fail
        go_quiet (fail)
        go_wp2_with fail
        go_ret3
        rw [hrd3.out]
        exact ⟨a8, c8, rfl, hr9.out.1, kw9.out.drewN _, hr9.out.2⟩
    · have hrd3 : Hid (rdR bs = ([], 0, 70)) := by show _ = _; rw [hrd2.out, if_neg (fun h => hDE h.1)]
      have d2 : (DE != 0) = true := by simpa using hDE
      clear hrd2
      go_wp2_with fail
      go_ret3
      rw [hrd3.out]
      exact rdP_no 70 kw8.out
  · have d1 : ((N4 : Int) != (CR : Int)) = true := by simp; omega
    have hrd2 : Hid (rdR bs = ([], 0, 71)) := by show _ = _; rw [hrd.out, if_pos hne]
    clear hrd
    go_wp2_with fail
    go_ret3
    rw [hrd2.out]
    exact rdP_no 71 kw6.out
theorem bRead (a : Option Addr) (c : Nat) (bs : List UInt8) (w : World) (ht : Tab w) (hs : Sees w a bs) (hl : bs.length ≤ c) (hm : c ≤ maxLen) (hb : bs.length ≤ 200000000000000) :
    Calls Tryz.prog 14 #[.slice a bs.length c] w (RdP (rdR bs) w) := by
  cases hn : hdR bs with
  | none => rw [rdR_none hn]; exact bReadN a c bs w hs hl hm hn
  | some r =>
    obtain ⟨i, s⟩ := r
    obtain ⟨k, m, n, ⟨mk, mb, mn, mt⟩, ⟨xk, xb, xn, xt⟩, x, y, rest, hbs, r1, r2, i1, i2, hk, hm1, hm2, hn2, hi, hss, hle⟩ := hdR_some hn
    rw [hi] at hn
    exact bReadS a c bs w ht hs hl hm hb k.toNat m.toNat s (s + (x.toNat * 256 + y.toNat)) (s + (x.toNat * 256 + y.toNat) + 4) mk mb mn mt xk xb xn xt n.toNat hn rfl hle (by omega) (by omega) (by omega) hm2
end Go.Proofs.YtohbdbecioanaaaGreatDoor
end

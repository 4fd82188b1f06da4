/- ExecCounts (second form): the groups' counts are all rows, their keys rise and are unlike, and without a key there is just one group, where what is given is of bulk at most 1048576. -/
import Derived.Test.YtohkjikhlakglaaKco1
import Derived.Test.YtohkjikhlakglaaKco2
import Derived.Deep.CutBlock
import Derived.Test.YtohkjikhlakglaaB10
import Derived.SizedLaws
import Derived.JoinedCond
import Derived.Deep.CondSized
section
namespace Go.Proofs.Ytohkjikhlakglaa
open Go.RowKit Go.Hay
attribute [local go_sem] Oper.semAt_some
set_option linter.unusedVariables false
set_option linter.unusedSimpArgs false

theorem keys_snoc {bs : List Int} {L : List Vs} {j : Nat} (h : j < L.length) : keysV bs ((L.take (j + 1)).map (·.l)) = insK (keysV bs ((L.take j).map (·.l))) (pickV L[j].l bs) := by
  rw [List.take_succ_eq_append_getElem h, List.map_append]
  exact keysV_snoc _ _ _
theorem getD_ml (m : List Vs) (k : Nat) (h : k < m.length) : (m.map (·.l)).getD k [] = m[k].l := by
  rw [List.getD_eq_getElem?_getD, List.getElem?_map, List.getElem?_eq_getElem h]
  rfl
set_option maxHeartbeats 32000000 in
set_option maxRecDepth 100000 in
theorem rKeys (a : Option Addr) (c : Nat) (L : List Vs) (ba : Option Addr) (bc : Nat) (bs : List Int) (w : World) (hs : VsE.See w a L) (hx : ∀ x ∈ L, x.lies w) (hb : IntE.See w ba bs) (hl : L.length ≤ 1048576) (hbl : bs.length ≤ 1048576) :
    Calls Try.prog 34 #[.slice a L.length c, .slice ba bs.length bc] w (LotP (keysV bs (L.map (·.l))) w) := by
  have HS := hid hs
  have HX := hid hx
  have HB := hid hb
  have H0 : Hid (Lot w.heap.size none 0 [] w ∧ Kp [] w w) := hid ⟨Lot.nil _ _, Kp.refl _ _⟩
  clear hs hx hb
  go_enter Try.func34, Try.ntmps34
  go_wp2_with fail
  go_loopw [5, 6] (fun v5 i wr => ∃ (j : Nat) (ra : Option Addr) (rc : Nat) (m : List Vs), j ≤ L.length ∧ i = .int .i64 (j : Int) ∧ v5 = .slice ra m.length rc ∧ Hid (m.map (·.l) = keysV bs ((L.take j).map (·.l)) ∧ m.length ≤ j) ∧ Hid (Lot w.heap.size ra rc m wr ∧ Kp [] w wr)) (fun _ i _ => L.length - (intOf i).toNat)
  case atStart => exact ⟨0, none, 0, [], Nat.zero_le _, rfl, rfl, hid ⟨rfl, by simp⟩, H0⟩
  case round =>
    obtain ⟨j, ra, rc, m, hj, rfl, rfl, hm, H⟩ := hrel
    obtain ⟨wo, hwo⟩ : ∃ x, x = wr := ⟨wr, rfl⟩
    subst hwo
    clear H0
    by_cases hlt : j < L.length
    · have hsnk := hid (keys_snoc (bs := bs) hlt)
      obtain ⟨g, o, ea, c0⟩ := vsAt HS.out (k := j) (x := L[j]) (by simp [hlt])
      have hxl := hid (HX.out L[j] (List.getElem_mem hlt))
      obtain ⟨x, hxe⟩ : ∃ x, Hid (L[j] = x) := ⟨_, hid rfl⟩
      rw [hxe.out] at c0 hxl hsnk
      obtain ⟨xa, xc, xl⟩ := x
      have hxc := hxl.out.cap; have hxm := hxl.out.most
      unfold maxLen at hxm
      dsimp only at c0 hsnk hxc hxm
      have cg := kpAt H.out.2 c0
      have cP0 := rPick xa xc xl ba bc bs wo (hxl.out.see.kept H.out.2) (by omega) (HB.out.keptNew H.out.2) (by omega)
      obtain ⟨zl, hzl⟩ : ∃ z, Hid (pickV xl bs = z) := ⟨_, hid rfl⟩
      rw [hzl.out] at cP0 hsnk
      have cP := hid cP0
      have hmj := hid hm.out.2
      have hmb : m.length ≤ 1048576 := by have := hm.out.2; omega
      have i1 : (0 : Int) ≤ (j : Int) := by omega
      have i2 : (j : Int) < (L.length : Int) := by omega
      have i3 : (j : Int) + 1 ≤ 9223372036854775807 := by omega
      subst ea
      clear c0 cP0
      go_wp2_with fail
      refine cP.out.mono ?_
      rintro e wz ⟨za, zc, rfl, hzrow, kz, hzb⟩
      have Kz := hid kz
      have hzr := hid (And.intro hzrow hzb)
      have Hl0 : Hid (Lot w.heap.size ra rc m wz) := hid (H.out.1.ck (CK.ofKp kz) (by simp) (by simp))
      have hzli := hid (rowLies hzrow)
      have hzlen : zl.length ≤ 1048576 := by rw [← hzl.out]; unfold pickV; rw [List.length_map]; exact hbl
      obtain ⟨_, _, e3, hsee0, _, hcp, _⟩ := Hl0.out.row.see
      obtain ⟨e5, e6, e7⟩ := Value.slice.inj e3
      rw [← e5] at hsee0
      rw [← e7] at hcp
      have hcap := hid hcp
      have hsee := hid hsee0
      clear cP hzrow kz hzb cg e3 e5 e6 e7 hcp hsee0
      have hpk := hid (And.intro (posK_le zl (m.map (·.l))) (And.intro (posK_lt zl (m.map (·.l))) (posK_ge zl (m.map (·.l)))))
      obtain ⟨P, hP⟩ : ∃ P, Hid (posK zl (m.map (·.l)) = P) := ⟨_, hid rfl⟩
      rw [hP.out, List.length_map] at hpk
      have hPm : P ≤ m.length := hpk.out.1
      -- a row's key held against one
      have cRw : Hid (∀ (k : Nat) (hk : k < m.length) (W : World), Kp [] wz W → (∃ g o, ra = some ⟨g, o, none⟩ ∧ W.cell? ⟨g, o + k, none⟩ = some (.slice m[k].a m[k].l.length m[k].c)) ∧ Calls Try.prog 22 #[.slice m[k].a m[k].l.length m[k].c, .slice za zl.length zc] W fun e w' => e = .returned (.int .i64 (rowsV m[k].l zl)) ∧ Kp [] W w') := hid (fun k hk W q => by
        obtain ⟨g', o', ea', hc⟩ := vsAt hsee.out (k := k) (x := m[k]) (by simp [hk])
        have hli := (Hl0.out.lies m[k] (List.getElem_mem hk)).ck (CK.ofKp q) (by simp)
        have hcc := hli.cap; have hmm := hli.most
        unfold maxLen at hmm
        exact ⟨⟨g', o', ea', kpAt q hc⟩, cRefRows m[k].a za m[k].c zc m[k].l zl W hli.see ((hzli.out.ck (CK.ofKp q) (by simp)).see) (by omega) (by omega)⟩)
      go_upto_block 2 with fail
      go_cut [8] from 22 to 36 (fun v8 wc => v8 = .int .i64 (P : Int) ∧ Hid (Kp [] wz wc))
      case first =>
        go_wp2_with fail
        go_loopw [8] (fun v8 wn => ∃ n : Nat, n ≤ P ∧ v8 = .int .i64 (n : Int) ∧ Hid (Kp [] wz wn)) (fun v8 _ => P - (intOf v8).toNat)
        case atStart => exact ⟨0, Nat.zero_le _, rfl, hid (Kp.refl _ _)⟩
        case round =>
          obtain ⟨n, hn, rfl, kn⟩ := hrel
          by_cases hnm : n < m.length
          · obtain ⟨⟨g2, o2, eb, y0⟩, cR0⟩ := cRw.out n hnm wr kn.out
            have hrel2 : Hid ((n < P → rowsV m[n].l zl < 0) ∧ (n = P → 0 ≤ rowsV m[n].l zl)) := hid ⟨fun h => by have := hpk.out.2.1 n h; rwa [getD_ml m n hnm] at this, fun h => by have := hpk.out.2.2 (by omega); rw [← h, getD_ml m n hnm] at this; omega⟩
            obtain ⟨y, hye⟩ : ∃ y, Hid (m[n] = y) := ⟨_, hid rfl⟩
            rw [hye.out] at y0 cR0 hrel2
            obtain ⟨ya, yc, yl⟩ := y
            dsimp only at y0 cR0 hrel2
            obtain ⟨C, hC⟩ : ∃ C, Hid (rowsV yl zl = C) := ⟨_, hid rfl⟩
            rw [hC.out] at cR0 hrel2
            have cR := hid cR0
            have k1 : (0 : Int) ≤ (n : Int) := by omega
            have k2 : (n : Int) < (m.length : Int) := by omega
            have k3 : (n : Int) + 1 ≤ 9223372036854775807 := by omega
            have k4 : decide ((n : Int) < (m.length : Int)) = true := by simp; omega
            have hsub := hid eb
            subst eb
            clear cR0 hsub
            go_wp2_with fail
            refine cR.out.mono ?_
            rintro e we ⟨rfl, ke⟩
            have KE := hid (kn.out.trans ke (by simp))
            clear ke cR
            by_cases hC0 : C < 0
            · have d1 : decide (C < 0) = true := by simpa using hC0
              have hnP : n < P := by
                rcases Nat.lt_or_ge n P with h | h
                · exact h
                · have := hrel2.out.2 (by omega); omega
              go_wp2_with fail
              go_roundw
              case rel => exact ⟨n + 1, by omega, by go_num, KE⟩
              case measure => simp [intOf] <;> omega
            · have d1 : decide (C < 0) = false := by simpa using hC0
              have hnP : Hid (n = P) := hid (by
                rcases Nat.lt_or_ge n P with h | h
                · exact absurd (hrel2.out.1 h) hC0
                · omega)
              go_wp2_with fail
              go_meet
              exact ⟨by rw [hnP.out], KE⟩
          · have hnP : Hid (n = P) := hid (by omega)
            have k4 : decide ((n : Int) < (m.length : Int)) = false := by simp; omega
            have k5 : ¬ (n : Int) < (m.length : Int) := by omega
            go_wp2_with fail
            go_meet
            exact ⟨by rw [hnP.out], kn⟩
      case rest =>
        obtain ⟨rfl, Kzc⟩ := hcut
        obtain ⟨n0, hn0e⟩ : ∃ n0, n0 = P := ⟨P, rfl⟩
        subst hn0e
        have hn0 : n0 ≤ m.length := hPm
        have hpos : Hid (posK zl (m.map (·.l)) = n0) := hP
        have Hlc : Hid (Lot w.heap.size ra rc m wc) := hid (Hl0.out.ck (CK.ofKp Kzc.out) (by simp) (by simp))
        have Kwc : Hid (Kp [] w wc) := hid ((H.out.2.trans Kz.out (by simp)).trans Kzc.out (by simp))
        have hseeW0 := hsee.out.keptNew Kzc.out
        by_cases hnm : n0 < m.length
        · obtain ⟨⟨g2, o2, eb, y0⟩, cR0⟩ := cRw.out n0 hnm wc Kzc.out
          have hhit : Hid (hitK zl (m.map (·.l)) = (rowsV m[n0].l zl == 0)) := hid (by
            unfold hitK
            rw [hP.out, List.length_map, getD_ml m n0 hnm]
            simp [hnm])
          obtain ⟨y, hye⟩ : ∃ y, Hid (m[n0] = y) := ⟨_, hid rfl⟩
          rw [hye.out] at y0 cR0 hhit
          obtain ⟨ya, yc, yl⟩ := y
          dsimp only at y0 cR0 hhit
          obtain ⟨C, hC⟩ : ∃ C, Hid (rowsV yl zl = C) := ⟨_, hid rfl⟩
          rw [hC.out] at cR0 hhit
          have cR := hid cR0
          have k1 : (0 : Int) ≤ (n0 : Int) := by omega
          have k2 : (n0 : Int) < (m.length : Int) := by omega
          have k4 : decide ((n0 : Int) < (m.length : Int)) = true := by simp; omega
          have HSW := hid hseeW0
          subst eb
          clear cR0 hseeW0
          go_wp2_with fail
          refine cR.out.mono ?_
          rintro e we ⟨rfl, ke⟩
          by_cases hC0 : C = 0
          · have d1 : (C == 0) = true := by simp [hC0]
            have hmF : Hid (m.map (·.l) = keysV bs ((L.take (j + 1)).map (·.l)) ∧ m.length ≤ j + 1) := hid ⟨by
              rw [hsnk.out, ← hm.out.1]
              unfold insK
              rw [hhit.out, d1]
              rfl, by have := hm.out.2; omega⟩
            have HF : Hid (Lot w.heap.size (some ⟨g2, o2, none⟩) rc m we ∧ Kp [] w we) := hid ⟨Hlc.out.ck (CK.ofKp ke) (by simp) (by simp), Kwc.out.trans ke (by simp)⟩
            clear hC0 ke cR y0
            go_wp2_with fail
            go_roundw
            case rel => exact ⟨j + 1, _, rc, m, by omega, by go_num, rfl, hmF, HF⟩
            case measure => simp [intOf] <;> omega
          · have d1 : (C == 0) = false := beq_eq_false_iff_ne.2 hC0
            have hnhit : Hid (hitK zl (m.map (·.l)) = false) := hid (by rw [hhit.out, d1])
            have Kze : Hid (Kp [] wz we) := hid (Kzc.out.trans ke (by simp))
            have Hle : Hid (Lot w.heap.size (some ⟨g2, o2, none⟩) rc m we) := hid (Hlc.out.ck (CK.ofKp ke) (by simp) (by simp))
            have Kwe : Hid (Kp [] w we) := hid (Kwc.out.trans ke (by simp))
            have hseeW := HSW.out.keptNew ke
            clear hC0 ke cR y0
            have hsf := fun W : World => sliceFromVs (some ⟨g2, o2, none⟩) m.length rc n0 W hn0
            have hsee2 : VsE.See we (if rc = n0 then (some ⟨g2, o2, none⟩ : Option Addr) else (some ⟨g2, o2, none⟩ : Option Addr).map (·.add n0)) (m.drop n0) := by
              by_cases hc : rc = n0
              · rw [List.drop_eq_nil_of_le (by have := hcap.out; omega)]; exact .inl rfl
              · rw [if_neg hc]; exact seeDropVs hseeW n0
            obtain ⟨cq, hcq⟩ : ∃ q, Hid ((if rc = n0 then (some ⟨g2, o2, none⟩ : Option Addr) else (some ⟨g2, o2, none⟩ : Option Addr).map (·.add n0)) = q) := ⟨_, hid rfl⟩
            rw [hcq.out] at hsee2
            simp only [hcq.out] at hsf
            obtain ⟨cc, hcc⟩ : ∃ q, Hid (rc - n0 = q) := ⟨_, hid rfl⟩
            simp only [hcc.out] at hsf
            obtain ⟨a1, c1, W1, a2, c2, W2, a3, c3, W3, r1, r2, r3, R3, n3, k1, k2, k3⟩ := app3V we (some ⟨g2, o2, none⟩) cq rc cc m.length n0 m rfl hn0 (hseeW.front n0) hsee2 ⟨za, zc, zl⟩ (by omega)
            obtain ⟨nk, hnk⟩ : ∃ q, Hid (m.length - n0 = q) := ⟨_, hid rfl⟩
            simp only [hnk.out] at hsf
            rw [hnk.out] at r3
            have HSF := hid hsf
            have HST := hid (fun W : World => sliceToVs (some ⟨g2, o2, none⟩) m.length rc n0 W (by have := hcap.out; omega))
            dsimp only at r1 r2 r3
            have hr1 := hid r1
            have hr2 := hid r2
            have hr3 := hid r3
            obtain ⟨m3, hm3⟩ : ∃ m3, Hid (m.take n0 ++ (⟨za, zc, zl⟩ : Vs) :: m.drop n0 = m3) := ⟨_, hid rfl⟩
            rw [hm3.out] at R3
            have hm3l : m3.length = m.length + 1 := by rw [← hm3.out]; simp; omega
            have hm3i : ∀ x ∈ m3, x ∈ m ∨ x = ⟨za, zc, zl⟩ := fun x hx => by
              rw [← hm3.out] at hx
              rcases List.mem_append.1 hx with hx | hx
              · exact .inl (List.mem_of_mem_take hx)
              · rcases List.mem_cons.1 hx with hx | hx
                · exact .inr hx
                · exact .inl (List.mem_of_mem_drop hx)
            have hzc := Kze.out
            have HF : Hid (Lot w.heap.size a3 c3 m3 W3 ∧ Kp [] w W3) := hid ⟨⟨R3, fun x hx => by
              rcases hm3i x hx with h | rfl
              · exact ((Hle.out.lies x h)).ck (CK.ofKp k3) (by simp)
              · exact (rowLies (hzr.out.1.keptNew hzc)).ck (CK.ofKp k3) (by simp), fun k hk => by have := n3 k hk; have := Kwe.out.size; omega, fun x hx k hk => by
              have h1 : w.heap.size ≤ k ∧ k < we.heap.size := by
                rcases hm3i x hx with h | rfl
                · exact ⟨(Hle.out.rows x h k hk).1, (Hle.out.rows x h k hk).2.1⟩
                · exact ⟨by have := hzr.out.2 k hk; have := H.out.2.size; omega, (hzr.out.1.keptNew hzc).lt k (by rw [ownV]; exact hk)⟩
              exact ⟨h1.1, Nat.lt_of_lt_of_le h1.2 k3.size, fun hm' => by have := n3 k hm'; omega⟩⟩, Kwe.out.trans k3 (by simp)⟩
            have hmF : Hid (m3.map (·.l) = keysV bs ((L.take (j + 1)).map (·.l)) ∧ m3.length ≤ j + 1) := hid ⟨by
              rw [hsnk.out, ← hm.out.1, ← hm3.out, List.map_append, List.map_cons, List.map_take, List.map_drop]
              unfold insK
              rw [hnhit.out, hpos.out]
              rfl, by have := hm.out.2; omega⟩
            have hm3e := hid hm3l
            rw [← hm3l] at r3
            have hr3 := hid r3
            clear R3 n3 k1 k2 k3 r1 r2 r3 hseeW hsee2 hsf hm3l hm3i hzc
            have hsl := HST.out we
            go_upto_region 12 with (first | (refine wpAppRunY rfl _ _ 22 22 rfl _ _ _ rfl rfl hr1.out ?_) | fail)
            clear hsl
            go_upto_region 13 with (first | (refine wpAppRunY rfl _ _ 22 22 rfl _ _ _ rfl rfl hr2.out ?_) | fail)
            have hsl := HSF.out W2
            go_upto_region 14 with (first | (refine wpAppRunY rfl _ _ 22 22 rfl _ _ _ rfl rfl hr3.out ?_) | fail)
            clear hsl
            go_wp2_with fail
            go_roundw
            case rel => exact ⟨j + 1, a3, c3, m3, by omega, by go_num, rfl, hmF, HF⟩
            case measure => simp [intOf] <;> omega
        · have hnhit : Hid (hitK zl (m.map (·.l)) = false) := hid (by
            unfold hitK
            rw [hP.out, List.length_map]
            simp; omega)
          have k4 : decide ((n0 : Int) < (m.length : Int)) = false := by simp; omega
          have k5 : ¬ (n0 : Int) < (m.length : Int) := by omega
          have hseeW := hseeW0
          clear hseeW0
          have hsf := fun W : World => sliceFromVs ra m.length rc n0 W hn0
          have hsee2 : VsE.See wc (if rc = n0 then ra else ra.map (·.add n0)) (m.drop n0) := by
            by_cases hc : rc = n0
            · rw [List.drop_eq_nil_of_le (by have := hcap.out; omega)]; exact .inl rfl
            · rw [if_neg hc]; exact seeDropVs hseeW n0
          obtain ⟨cq, hcq⟩ : ∃ q, Hid ((if rc = n0 then ra else ra.map (·.add n0)) = q) := ⟨_, hid rfl⟩
          rw [hcq.out] at hsee2
          simp only [hcq.out] at hsf
          obtain ⟨cc, hcc⟩ : ∃ q, Hid (rc - n0 = q) := ⟨_, hid rfl⟩
          simp only [hcc.out] at hsf
          obtain ⟨a1, c1, W1, a2, c2, W2, a3, c3, W3, r1, r2, r3, R3, n3, k1, k2, k3⟩ := app3V wc ra cq rc cc m.length n0 m rfl hn0 (hseeW.front n0) hsee2 ⟨za, zc, zl⟩ (by omega)
          obtain ⟨nk, hnk⟩ : ∃ q, Hid (m.length - n0 = q) := ⟨_, hid rfl⟩
          simp only [hnk.out] at hsf
          rw [hnk.out] at r3
          have HSF := hid hsf
          have HST := hid (fun W : World => sliceToVs ra m.length rc n0 W (by have := hcap.out; omega))
          dsimp only at r1 r2 r3
          have hr1 := hid r1
          have hr2 := hid r2
          have hr3 := hid r3
          obtain ⟨m3, hm3⟩ : ∃ m3, Hid (m.take n0 ++ (⟨za, zc, zl⟩ : Vs) :: m.drop n0 = m3) := ⟨_, hid rfl⟩
          rw [hm3.out] at R3
          have hm3l : m3.length = m.length + 1 := by rw [← hm3.out]; simp; omega
          have hm3i : ∀ x ∈ m3, x ∈ m ∨ x = ⟨za, zc, zl⟩ := fun x hx => by
            rw [← hm3.out] at hx
            rcases List.mem_append.1 hx with hx | hx
            · exact .inl (List.mem_of_mem_take hx)
            · rcases List.mem_cons.1 hx with hx | hx
              · exact .inr hx
              · exact .inl (List.mem_of_mem_drop hx)
          have hzc := Kzc.out
          have HF : Hid (Lot w.heap.size a3 c3 m3 W3 ∧ Kp [] w W3) := hid ⟨⟨R3, fun x hx => by
            rcases hm3i x hx with h | rfl
            · exact ((Hlc.out.lies x h)).ck (CK.ofKp k3) (by simp)
            · exact (rowLies (hzr.out.1.keptNew hzc)).ck (CK.ofKp k3) (by simp), fun k hk => by have := n3 k hk; have := Kwc.out.size; omega, fun x hx k hk => by
            have h1 : w.heap.size ≤ k ∧ k < wc.heap.size := by
              rcases hm3i x hx with h | rfl
              · exact ⟨(Hlc.out.rows x h k hk).1, (Hlc.out.rows x h k hk).2.1⟩
              · exact ⟨by have := hzr.out.2 k hk; have := H.out.2.size; omega, (hzr.out.1.keptNew hzc).lt k (by rw [ownV]; exact hk)⟩
            exact ⟨h1.1, Nat.lt_of_lt_of_le h1.2 k3.size, fun hm' => by have := n3 k hm'; omega⟩⟩, Kwc.out.trans k3 (by simp)⟩
          have hmF : Hid (m3.map (·.l) = keysV bs ((L.take (j + 1)).map (·.l)) ∧ m3.length ≤ j + 1) := hid ⟨by
            rw [hsnk.out, ← hm.out.1, ← hm3.out, List.map_append, List.map_cons, List.map_take, List.map_drop]
            unfold insK
            rw [hnhit.out, hpos.out]
            rfl, by have := hm.out.2; omega⟩
          have hm3e := hid hm3l
          rw [← hm3l] at r3
          have hr3 := hid r3
          clear R3 n3 k1 k2 k3 r1 r2 r3 hseeW hsee2 hsf hm3l hm3i hzc
          have hsl := HST.out wc
          go_upto_region 12 with (first | (refine wpAppRunY rfl _ _ 22 22 rfl _ _ _ rfl rfl hr1.out ?_) | fail)
          clear hsl
          go_upto_region 13 with (first | (refine wpAppRunY rfl _ _ 22 22 rfl _ _ _ rfl rfl hr2.out ?_) | fail)
          have hsl := HSF.out W2
          go_upto_region 14 with (first | (refine wpAppRunY rfl _ _ 22 22 rfl _ _ _ rfl rfl hr3.out ?_) | fail)
          clear hsl
          go_wp2_with fail
          go_roundw
          case rel => exact ⟨j + 1, a3, c3, m3, by omega, by go_num, rfl, hmF, HF⟩
          case measure => simp [intOf] <;> omega
    · have hmm : m.map (·.l) = keysV bs (L.map (·.l)) := by rw [hm.out.1, show j = L.length by omega, List.take_length]
      have dj1 : ¬ (j : Int) < (L.length : Int) := by omega
      have dj2 : decide ((j : Int) < (L.length : Int)) = false := by simp; omega
      have hmm' := hid hmm
      clear hmm
      go_wp2_with fail
      go_ret
      exact ⟨ra, rc, m, rfl, H.out.1, hmm'.out, H.out.2⟩
end Go.Proofs.Ytohkjikhlakglaa
end

section
namespace Go.Proofs.Ytohkjikhlakglaa
open Go.RowKit Go.Hay
attribute [local go_sem] Oper.semAt_some
set_option linter.unusedVariables false
set_option linter.unusedSimpArgs false

theorem filterSnocG {α : Type} (p : α → Bool) (L : List α) (j : Nat) (hj : j < L.length) : (L.take (j + 1)).filter p = (L.take j).filter p ++ (if p L[j] then [L[j]] else []) := by
  rw [List.take_succ_eq_append_getElem hj, List.filter_append]
  by_cases h : p L[j] <;> simp [h]
theorem keysV_len (bs : List Int) : ∀ R, (keysV bs R).length ≤ R.length := revInd (by simp [keysV]) fun R l ih => by
  rw [keysV_snoc, List.length_append]
  unfold insK
  split
  · simp; omega
  · rw [List.length_append, List.length_cons, List.length_take, List.length_drop]
    have := posK_le (pickV l bs) (keysV bs R)
    simp
    omega
set_option maxHeartbeats 64000000 in
set_option maxRecDepth 100000 in
theorem rGroup1 (a : Option Addr) (c : Nat) (L : List Vs) (ba : Option Addr) (bc : Nat) (bs : List Int) (ga : Option Addr) (gc : Nat) (gs : List (Int × Int)) (w : World) (hs : VsE.See w a L) (hx : ∀ x ∈ L, x.lies w) (hb : IntE.See w ba bs) (hg : AgE.See w ga gs) (hl : L.length ≤ 1048576) (hr : ∀ x ∈ L, x.l.length ≤ 1048576) (hbl : bs.length ≤ 1048576) (hgl : gs.length ≤ 1048576) (hbs : bs ≠ []) :
    Calls Try.prog 18 #[.slice a L.length c, .slice ba bs.length bc, .slice ga gs.length gc] w (LotP (refG bs gs (L.map (·.l))) w) := by
  have HS := hid hs
  have HX := hid hx
  have HB := hid hb
  have HG := hid hg
  have HR := hid hr
  have cK0 := rKeys a c L ba bc bs w hs hx hb hl hbl
  obtain ⟨R, hRL⟩ : ∃ R, Hid (L.map (·.l) = R) := ⟨_, hid rfl⟩
  rw [hRL.out] at cK0 ⊢
  have cK := hid cK0
  have hbsH := hid hbs
  have db : ((bs.length : Int) == 0) = false := beq_eq_false_iff_ne.2 (by have := List.length_pos_iff.2 hbs; omega)
  clear hs hx hb hg hr cK0 hbs
  go_enter Try.func18, Try.ntmps18
  go_wp2_with fail
  refine cK.out.mono ?_
  rintro e w1 ⟨ka1, kc1, K1, rfl, hlK, hK1, k1⟩
  obtain ⟨W0, hW0⟩ : ∃ x, x = w1 := ⟨w1, rfl⟩
  subst hW0
  obtain ⟨KS, hKSe⟩ : ∃ K : List Vs, K = K1 := ⟨K1, rfl⟩
  subst hKSe
  have hKsee : VsE.See W0 ka1 KS := by obtain ⟨_, _, e3, h, _⟩ := hlK.row.see; rw [(Value.slice.inj e3).1]; exact h
  have hKli : ∀ x ∈ KS, x.lies W0 := hlK.lies
  have hKS : KS.map (·.l) = if bs = [] then [[]] else keysV bs R := by rw [if_neg hbsH.out]; exact hK1
  have hKlen : KS.length ≤ 1048577 := by
    have h1 := congrArg List.length hK1
    have h2 := keysV_len bs R
    rw [List.length_map] at h1
    have h3 : R.length = L.length := by rw [← hRL.out]; simp
    omega
  have HKB : Hid (∀ x ∈ KS, x.l.length ≤ 1048576) := hid (fun x hx => by
    have h1 : x.l ∈ keysV bs R := by rw [← hK1]; exact List.mem_map.2 ⟨x, hx, rfl⟩
    obtain ⟨l, _, e⟩ := (keysV_ok bs R).first _ h1
    rw [← e]
    unfold pickV
    rw [List.length_map]
    exact hbl)
  have KW0 : Kp [] w W0 := k1
  clear hlK hK1 k1 cK
  have HK := hid (And.intro hKsee (And.intro hKli (And.intro hKS hKlen)))
  have H0 : Hid (Lot W0.heap.size none 0 [] W0 ∧ Kp [] W0 W0) := hid ⟨Lot.nil _ _, Kp.refl _ _⟩
  have HW0 := hid KW0
  clear hKsee hKli hKS KW0
  go_wp2_with fail
  go_loopw [8, 9] (fun v8 v9 wr => ∃ (i : Nat) (oa : Option Addr) (oc : Nat) (O : List Vs), i ≤ KS.length ∧ v9 = .int .i64 (i : Int) ∧ v8 = .slice oa O.length oc ∧ Hid (O.map (·.l) = (KS.take i).map (fun x => x.l ++ gs.map (tellV (R.filter fun l => rowsV (pickV l bs) x.l == 0))) ∧ O.length ≤ i) ∧ Hid (Lot W0.heap.size oa oc O wr ∧ Kp [] W0 wr)) (fun _ v9 _ => KS.length - (intOf v9).toNat)
  case atStart => exact ⟨0, none, 0, [], Nat.zero_le _, rfl, rfl, hid ⟨rfl, by simp⟩, H0⟩
  case round =>
    obtain ⟨i, oa, oc, O, hi, rfl, rfl, hO, H⟩ := hrel
    obtain ⟨wo, hwo⟩ : ∃ x, x = wr := ⟨wr, rfl⟩
    subst hwo
    clear H0
    have hKl2 : KS.length ≤ 1048577 := HK.out.2.2.2
    by_cases hik : i < KS.length
    · obtain ⟨gk, ok, ek, k0⟩ := vsAt HK.out.1 (k := i) (x := KS[i]) (by simp [hik])
      have hkl := hid (HK.out.2.1 KS[i] (List.getElem_mem hik))
      have htk := hid (List.take_succ_eq_append_getElem hik)
      obtain ⟨kx, hkx⟩ : ∃ x, Hid (KS[i] = x) := ⟨_, hid rfl⟩
      rw [hkx.out] at k0 hkl htk
      obtain ⟨ka, kc, kl⟩ := kx
      have hkc := hkl.out.cap; have hkm := hkl.out.most
      have hklb := HKB.out (⟨ka, kc, kl⟩ : Vs) (by rw [← hkx.out]; exact List.getElem_mem hik)
      unfold maxLen at hkm
      dsimp only at k0 hkc hkm hklb
      have hWo := hid (HW0.out.trans H.out.2 (by simp))
      obtain ⟨RM, hRM⟩ : ∃ r, Hid ((R.filter fun l => rowsV (pickV l bs) kl == 0) = r) := ⟨_, hid rfl⟩
      have i1 : (0 : Int) ≤ (i : Int) := by omega
      have i2 : (i : Int) < (KS.length : Int) := by omega
      have i3 : (i : Int) + 1 ≤ 9223372036854775807 := by omega
      have H1 : Hid (VsE.Row wo (.slice none 0 0) [] ∧ (∀ k ∈ blk none, wo.heap.size ≤ k) ∧ Kp [] wo wo) := hid ⟨.inl ⟨rfl, rfl⟩, by simp [blk], Kp.refl _ _⟩
      have hCk : Hid (∀ W, Kp [] W0 W → W.cell? ⟨gk, ok + i, none⟩ = some (.slice ka kl.length kc)) := hid (fun W q => kpAt q k0)
      subst ek
      clear k0
      go_wp2_with fail
      go_loopw [10, 11] (fun v10 v11 wn => ∃ (n : Nat) (ma : Option Addr) (mc : Nat) (M : List Vs), n ≤ L.length ∧ v11 = .int .i64 (n : Int) ∧ v10 = .slice ma M.length mc ∧ Hid (M = (L.take n).filter (fun y => rowsV (pickV y.l bs) kl == 0) ∧ M.length ≤ n) ∧ Hid (VsE.Row wn (.slice ma M.length mc) M ∧ (∀ k ∈ blk ma, wo.heap.size ≤ k) ∧ Kp [] wo wn)) (fun _ v11 _ => L.length - (intOf v11).toNat)
      case atStart => exact ⟨0, none, 0, [], Nat.zero_le _, rfl, rfl, hid ⟨rfl, by simp⟩, H1⟩
      case round =>
        obtain ⟨n, ma, mc, M, hn, rfl, rfl, hM, Hn⟩ := hrel
        clear H1
        by_cases hnl : n < L.length
        · have kwn := hid (hWo.out.trans Hn.out.2.2 (by simp))
          obtain ⟨g, o, ea, c0⟩ := vsAt HS.out (k := n) (x := L[n]) (by simp [hnl])
          have hxl := hid (HX.out L[n] (List.getElem_mem hnl))
          have hxr := HR.out L[n] (List.getElem_mem hnl)
          have hfs : Hid ((L.take (n + 1)).filter (fun y => rowsV (pickV y.l bs) kl == 0) = (L.take n).filter (fun y => rowsV (pickV y.l bs) kl == 0) ++ if rowsV (pickV L[n].l bs) kl == 0 then [L[n]] else []) := hid (filterSnocG _ L n hnl)
          obtain ⟨x, hxe⟩ : ∃ x, Hid (L[n] = x) := ⟨_, hid rfl⟩
          rw [hxe.out] at c0 hxl hxr hfs
          obtain ⟨xa, xc, xl⟩ := x
          dsimp only at c0 hxr hfs
          have hS : Hid (∀ W', Kp [] wr W' → W'.cell? ⟨g, o + n, none⟩ = some (.slice xa xl.length xc) ∧ W'.cell? ⟨gk, ok + i, none⟩ = some (.slice ka kl.length kc)) := hid (fun W' q => ⟨kpAt (kwn.out.trans q (by simp)) c0, hCk.out W' ((H.out.2.trans Hn.out.2.2 (by simp)).trans q (by simp))⟩)
          have cP0 : ∀ W', Kp [] wr W' → Calls Try.prog 35 #[.slice xa xl.length xc, .slice ba bs.length bc] W' (NewR (pickV xl bs) W') := fun W' q => rPick xa xc xl ba bc bs W' (hxl.out.see.kept (kwn.out.trans q (by simp))) (by omega) (HB.out.keptNew (kwn.out.trans q (by simp))) (by omega)
          obtain ⟨zl, hzl⟩ : ∃ z, Hid (pickV xl bs = z) := ⟨_, hid rfl⟩
          simp only [hzl.out] at cP0
          rw [hzl.out] at hfs
          have cP := hid cP0
          have hzlen : zl.length ≤ 1048576 := by rw [← hzl.out]; unfold pickV; rw [List.length_map]; exact hbl
          obtain ⟨C, hC⟩ : ∃ C, Hid (rowsV zl kl = C) := ⟨_, hid rfl⟩
          rw [hC.out] at hfs
          have hMn := hM.out.2
          have n1 : (0 : Int) ≤ (n : Int) := by omega
          have n2 : (n : Int) < (L.length : Int) := by omega
          have n3 : (n : Int) + 1 ≤ 9223372036854775807 := by omega
          have HA := hid ea
          rw [ea] at HS
          clear c0 cP0 HA
          subst ea
          go_wp2_with fail
          refine wp_noPanicY ?_
          refine wp_region_held_drew (S := fun W' => W'.cell? ⟨g, o + n, none⟩ = some (.slice xa xl.length xc) ∧ W'.cell? ⟨gk, ok + i, none⟩ = some (.slice ka kl.length kc)) (by kernel_rfl) (hS.out _ (Kp.refl _ _).drew) (fun hHeld => ?_)
          have KD : Hid (Kp [] wr wr.drew) := hid (Kp.refl _ _).drew
          generalize wr.drew = wd at *
          refine wpAnyH_take (i := 0) (v := ?_) rfl (by kernel_rfl) (by kernel_rfl) (by kernel_rfl) (fun _ _ _ h => by cases h.1) (Or.inl ⟨by rfl, ?_⟩) (by assumption) ?_
          rotate_left
          · intro w hSw; (try dsimp only at hSw); go_simp <;> with_reducible rfl
          try simp only [Act.put, List.getElem_toArray, List.getElem_cons_zero, List.getElem_cons_succ, List.setIfInBounds_toArray, List.set_cons_zero, List.set_cons_succ]
          refine wpAnyH_take (i := 1) (v := ?_) rfl (by kernel_rfl) (by kernel_rfl) (by kernel_rfl) (fun _ _ _ h => by cases h.1) (Or.inl ⟨by rfl, ?_⟩) (by assumption) ?_
          rotate_left
          · intro w hSw; (try dsimp only at hSw); go_simp <;> with_reducible rfl
          try simp only [Act.put, List.getElem_toArray, List.getElem_cons_zero, List.getElem_cons_succ, List.setIfInBounds_toArray, List.set_cons_zero, List.set_cons_succ]
          refine wpAnyH_take (i := 2) (v := ?_) rfl (by kernel_rfl) (by kernel_rfl) (by kernel_rfl) (fun _ _ _ h => by cases h.1) (Or.inl ⟨by rfl, ?_⟩) (by assumption) ?_
          rotate_left
          · intro w hSw; (try dsimp only at hSw); go_simp <;> with_reducible rfl
          try simp only [Act.put, List.getElem_toArray, List.getElem_cons_zero, List.getElem_cons_succ, List.setIfInBounds_toArray, List.set_cons_zero, List.set_cons_succ]
          refine wpAnyH_take (i := 3) (v := ?_) rfl (by kernel_rfl) (by kernel_rfl) (by kernel_rfl) (fun _ _ _ h => by cases h.1) (Or.inl ⟨by rfl, ?_⟩) (by assumption) ?_
          rotate_left
          · intro w hSw; (try dsimp only at hSw); go_simp <;> with_reducible rfl
          try simp only [Act.put, List.getElem_toArray, List.getElem_cons_zero, List.getElem_cons_succ, List.setIfInBounds_toArray, List.set_cons_zero, List.set_cons_succ]
          refine wpAnyH_take (i := 4) (v := ?_) rfl (by kernel_rfl) (by kernel_rfl) (by kernel_rfl) (fun _ _ _ h => by cases h.1) (Or.inl ⟨by rfl, ?_⟩) (by assumption) ?_
          rotate_left
          · intro w hSw; (try dsimp only at hSw); go_simp <;> with_reducible rfl
          try simp only [Act.put, List.getElem_toArray, List.getElem_cons_zero, List.getElem_cons_succ, List.setIfInBounds_toArray, List.set_cons_zero, List.set_cons_succ]
          refine wpAnyH_take (i := 6) (v := ?_) rfl (by kernel_rfl) (by kernel_rfl) (by kernel_rfl) (fun _ _ _ h => by cases h.1) (Or.inl ⟨by rfl, ?_⟩) (by assumption) ?_
          rotate_left
          · intro w hSw; (try dsimp only at hSw); go_simp <;> with_reducible rfl
          try simp only [Act.put, List.getElem_toArray, List.getElem_cons_zero, List.getElem_cons_succ, List.setIfInBounds_toArray, List.set_cons_zero, List.set_cons_succ]
          refine wpAnyH_take (i := 7) (v := ?_) rfl (by kernel_rfl) (by kernel_rfl) (by kernel_rfl) (fun _ _ _ h => by cases h.1) (Or.inl ⟨by rfl, ?_⟩) (by assumption) ?_
          rotate_left
          · intro w hSw; (try dsimp only at hSw); go_simp <;> with_reducible rfl
          try simp only [Act.put, List.getElem_toArray, List.getElem_cons_zero, List.getElem_cons_succ, List.setIfInBounds_toArray, List.set_cons_zero, List.set_cons_succ]
          refine wpAnyH_take (i := 8) (v := ?_) rfl (by kernel_rfl) (by kernel_rfl) (by kernel_rfl) (fun _ _ _ h => by cases h.1) (Or.inl ⟨by rfl, ?_⟩) (by assumption) ?_
          rotate_left
          · intro w hSw; (try dsimp only at hSw); go_simp <;> with_reducible rfl
          try simp only [Act.put, List.getElem_toArray, List.getElem_cons_zero, List.getElem_cons_succ, List.setIfInBounds_toArray, List.set_cons_zero, List.set_cons_succ]
          refine wpAnyH_take (i := 9) (v := ?_) rfl (by kernel_rfl) (by kernel_rfl) (by kernel_rfl) (fun _ _ _ h => by cases h.1) (Or.inl ⟨by rfl, ?_⟩) (by assumption) ?_
          rotate_left
          · intro w hSw; (try dsimp only at hSw); go_simp <;> with_reducible rfl
          try simp only [Act.put, List.getElem_toArray, List.getElem_cons_zero, List.getElem_cons_succ, List.setIfInBounds_toArray, List.set_cons_zero, List.set_cons_succ]
          refine wpAnyH_ready (rs := [5]) (by kernel_rfl) (by simp) ?_
          refine AllReadyH.cons rfl (fun K hK => ?_) AllReadyH.nil
          go_simp
          refine (cP.out wd KD.out).mono ?_
          rintro e wz ⟨za, zc, rfl, hzrow, kz, hzb⟩
          have Kz := hid (KD.out.trans kz (by simp))
          have hzli := hid (rowLies hzrow)
          (try go_wp2_with fail)
          refine hK.out _ _ (hS.out wz Kz.out) (fun hHeld => ?_)
          clear hK K
          try simp only [Act.put, List.getElem_toArray, List.getElem_cons_zero, List.getElem_cons_succ, List.setIfInBounds_toArray, List.set_cons_zero, List.set_cons_succ]
          have cR0 := cRefRows za ka zc kc zl kl wz hzli.out.see (hkl.out.see.kept (((H.out.2.trans Hn.out.2.2 (by simp)).trans Kz.out (by simp)))) (by omega) (by omega)
          rw [hC.out] at cR0
          have cR := hid cR0
          clear cR0 kz hzb hzrow cP
          refine wpAnyH_ready (rs := [10]) (by kernel_rfl) (by simp) ?_
          refine AllReadyH.cons rfl (fun K hK => ?_) AllReadyH.nil
          go_simp
          refine cR.out.mono ?_
          rintro e wy ⟨rfl, ky⟩
          have Ky := hid (Kz.out.trans ky (by simp))
          (try go_wp2_with fail)
          refine hK.out _ _ (hS.out wy Ky.out) (fun hHeld => ?_)
          clear hK K
          try simp only [Act.put, List.getElem_toArray, List.getElem_cons_zero, List.getElem_cons_succ, List.setIfInBounds_toArray, List.set_cons_zero, List.set_cons_succ]
          clear ky cR
          obtain ⟨sx, _⟩ := hS.out wy Ky.out
          by_cases hC0 : C = 0
          · have d1 : (C == 0) = true := by simp [hC0]
            refine wpAnyH_take (i := 11) (v := ?_) rfl (by kernel_rfl) (by kernel_rfl) (by kernel_rfl) (fun _ _ _ h => by cases h.1) (Or.inl ⟨by rfl, ?_⟩) (by assumption) ?_
            rotate_left
            · intro w hSw; (try dsimp only at hSw); go_simp <;> (try simp only [d1]) <;> with_reducible rfl
            try simp only [Act.put, List.getElem_toArray, List.getElem_cons_zero, List.getElem_cons_succ, List.setIfInBounds_toArray, List.set_cons_zero, List.set_cons_succ]
            try simp only [d1]
            refine wpAnyH_done (by kernel_rfl) ⟨rfl, ?_⟩ _
            rw [d1, if_pos rfl] at hfs
            obtain ⟨a4, c4, W4, hrun, hrow4, k4, n4⟩ := appVsO wy M ma mc ⟨xa, xc, xl⟩ (Hn.out.1.keptNew Ky.out) (by omega)
            obtain ⟨M4, hM4⟩ : ∃ m, Hid (M ++ [(⟨xa, xc, xl⟩ : Vs)] = m) := ⟨_, hid rfl⟩
            rw [hM4.out] at hrun hrow4
            dsimp only at hrun
            have HF : Hid (VsE.Row W4 (.slice a4 M4.length c4) M4 ∧ (∀ k ∈ blk a4, wo.heap.size ≤ k) ∧ Kp [] wo W4) := hid ⟨hrow4, fun k hk => by
              rcases n4 k hk with e | e
              · exact Hn.out.2.1 k e
              · have := Ky.out.size; have := Hn.out.2.2.size; omega, (Hn.out.2.2.trans Ky.out (by simp)).trans k4 (fun y hy => .inr (Hn.out.2.1 y hy))⟩
            have hMF : Hid (M4 = (L.take (n + 1)).filter (fun y => rowsV (pickV y.l bs) kl == 0) ∧ M4.length ≤ n + 1) := hid ⟨by rw [hfs.out, ← hM.out.1, hM4.out], by rw [← hM4.out, List.length_append]; simp; omega⟩
            have hrun' := hid hrun
            clear hHeld hrun hrow4 k4 n4 hC0 hS
            go_wp2_with (first | (refine wpAppRunY rfl _ _ 22 22 rfl _ _ _ rfl rfl hrun'.out ?_) | fail)
            go_roundw
            case rel => exact ⟨n + 1, a4, c4, M4, by omega, by go_num, rfl, hMF, HF⟩
            case measure => simp [intOf] <;> omega
          · have d1 : (C == 0) = false := beq_eq_false_iff_ne.2 hC0
            refine wpAnyH_take (i := 11) (v := ?_) rfl (by kernel_rfl) (by kernel_rfl) (by kernel_rfl) (fun _ _ _ h => by cases h.1) (Or.inl ⟨by rfl, ?_⟩) (by assumption) ?_
            rotate_left
            · intro w hSw; (try dsimp only at hSw); go_simp <;> (try simp only [d1]) <;> with_reducible rfl
            try simp only [Act.put, List.getElem_toArray, List.getElem_cons_zero, List.getElem_cons_succ, List.setIfInBounds_toArray, List.set_cons_zero, List.set_cons_succ]
            try simp only [d1]
            refine wpAnyH_done (by kernel_rfl) ⟨rfl, ?_⟩ _
            rw [d1] at hfs
            simp only [Bool.false_eq_true, if_false, List.append_nil] at hfs
            have HF : Hid (VsE.Row wy (.slice ma M.length mc) M ∧ (∀ k ∈ blk ma, wo.heap.size ≤ k) ∧ Kp [] wo wy) := hid ⟨Hn.out.1.keptNew Ky.out, Hn.out.2.1, Hn.out.2.2.trans Ky.out (by simp)⟩
            have hMF : Hid (M = (L.take (n + 1)).filter (fun y => rowsV (pickV y.l bs) kl == 0) ∧ M.length ≤ n + 1) := hid ⟨by rw [hfs.out, ← hM.out.1], by omega⟩
            clear hHeld hC0 hS
            go_wp2_with fail
            go_roundw
            case rel => exact ⟨n + 1, ma, mc, M, by omega, by go_num, rfl, hMF, HF⟩
            case measure => simp [intOf] <;> omega
        · have hMe : Hid (M.map (·.l) = RM) := hid (by
            rw [hM.out.1, show n = L.length by omega, List.take_length, ← hRM.out, ← hRL.out, List.filter_map]
            rfl)
          have hMin : Hid (∀ x ∈ M, x ∈ L) := hid (fun x hx => by rw [hM.out.1] at hx; exact List.mem_of_mem_take (List.mem_filter.1 hx).1)
          have hMn : M.length ≤ 1048576 := by have := hM.out.2; omega
          have kwn := hid (hWo.out.trans Hn.out.2.2 (by simp))
          have kw0n := hid (H.out.2.trans Hn.out.2.2 (by simp))
          have ck := hCk.out wr kw0n.out
          obtain ⟨X1, hX1⟩ : ∃ X1, wr.alloc (.cells #[] 47) = X1 := ⟨_, rfl⟩
          have kX1 : Kp [] wr X1 := by rw [← hX1]; exact (Kp.refl _ _).alloc _
          have hr0 : VE.Row X1 (.slice (some ⟨wr.heap.size, 0, none⟩) 0 0) [] := by
            refine .inr ⟨wr.heap.size, 0, 0, rfl, Nat.le_refl _, Nat.zero_le _, by rw [← hX1]; simp, fun j u hu => by simp [El.cs] at hu, fun j hj => by omega⟩
          obtain ⟨a5, c5, X2, hrun1, hrow5, kk5, hn5⟩ := appVY (l := []) hr0 ka kc kl (hkl.out.see.kept (kw0n.out.trans kX1 (by simp))) (by simp; omega)
          rw [List.nil_append] at hrun1 hrow5
          have hb1 : blk (some (⟨wr.heap.size, 0, none⟩ : Addr)) = [wr.heap.size] := rfl
          have kX2 : Kp [] wr X2 := kX1.trans kk5 (fun q hq => .inr (by rw [hb1] at hq; simp at hq; omega))
          have hn5' : ∀ q ∈ blk a5, wr.heap.size ≤ q := fun q hq => by
            rcases hn5 q hq with h | h
            · rw [hb1] at h; simp at h; omega
            · have := kX1.size; omega
          have H2 : Hid (VE.Row X2 (.slice a5 kl.length c5) kl ∧ Kp [] wr X2 ∧ ∀ k ∈ blk a5, wr.heap.size ≤ k) := hid ⟨hrow5, kX2, hn5'⟩
          have ckA := hCk.out X1 (kw0n.out.trans kX1 (by simp))
          simp only [List.length_nil] at hrun1
          have hrun1' := hid hrun1
          obtain ⟨wn, hwn⟩ : ∃ x, x = wr := ⟨wr, rfl⟩
          subst hwn
          have HM : Hid (VsE.See wn ma M) := hid (by obtain ⟨_, _, e3, h, _⟩ := Hn.out.1.see; rw [(Value.slice.inj e3).1]; exact h)
          have dj1 : ¬ (n : Int) < (L.length : Int) := by omega
          have dj2 : decide ((n : Int) < (L.length : Int)) = false := by simp; omega
          clear hr0 kX1 kk5 hn5 hb1 kX2 hn5' hrow5 hrun1 hnl hM
          go_wp2_with (first | (refine wpAppRunY rfl _ _ 24 24 rfl _ _ _ rfl rfl hrun1'.out ?_) | fail)
          clear ck ckA
          go_loopw [12, 13] (fun v12 v13 wk => ∃ (t : Nat) (ra : Option Addr) (rc : Nat) (m : List Val), t ≤ gs.length ∧ v13 = .int .i64 (t : Int) ∧ v12 = .slice ra m.length rc ∧ Hid (m = kl ++ (gs.take t).map (tellV RM)) ∧ Hid (VE.Row wk (.slice ra m.length rc) m ∧ Kp [] wn wk ∧ ∀ k ∈ blk ra, wn.heap.size ≤ k)) (fun _ v13 _ => gs.length - (intOf v13).toNat)
          case atStart => exact ⟨0, a5, c5, kl, Nat.zero_le _, rfl, rfl, hid (by simp), H2⟩
          case round =>
            obtain ⟨t, ra, rc, m, ht, rfl, rfl, hm, Ht⟩ := hrel
            clear H2
            have hml : m.length ≤ 3000000 := by rw [hm.out]; simp; omega
            by_cases htl : t < gs.length
            · obtain ⟨g2, o2, eg, c0, c1⟩ := agAt HG.out t htl
              have kwk := kwn.out.trans Ht.out.2.1 (by simp)
              have cg0 := kpAt kwk c0
              have cg1 := kpAt kwk c1
              have htk2 : Hid ((gs.take (t + 1)).map (tellV RM) = (gs.take t).map (tellV RM) ++ [tellV RM gs[t]]) := hid (by rw [List.take_succ_eq_append_getElem htl, List.map_append]; rfl)
              have cA0 := rAgg ma mc M gs[t].1 gs[t].2 wr (HM.out.keptNew Ht.out.2.1) (fun x hx => (HX.out x (hMin.out x hx)).ck (CK.ofKp kwk) (by simp)) (by omega)
              rw [hMe.out] at cA0
              obtain ⟨y, hye⟩ : ∃ y, Hid (gs[t] = y) := ⟨_, hid rfl⟩
              rw [hye.out] at cg0 cg1 cA0 htk2
              obtain ⟨y1, y2⟩ := y
              dsimp only at cg0 cg1 cA0
              obtain ⟨⟨tk, tb, tn, tt⟩, htv⟩ : ∃ v, Hid (tellV RM (y1, y2) = v) := ⟨_, hid rfl⟩
              rw [htv.out] at cA0 htk2
              dsimp only at cA0
              have cA := hid cA0
              have t1 : (0 : Int) ≤ (t : Int) := by omega
              have t2 : (t : Int) < (gs.length : Int) := by omega
              have t3 : (t : Int) + 1 ≤ 9223372036854775807 := by omega
              clear cA0 c0 c1 kwk
              rw [eg] at HG ⊢
              go_wp2_with fail
              refine cA.out.mono ?_
              rintro e wq ⟨rfl, kq⟩
              have kq2 := Ht.out.2.1.trans kq (by simp)
              obtain ⟨a4, c4, W4, hrun, hr4, k4, hn4⟩ := appV1 (Ht.out.1.keptNew kq) ⟨tk, tb, tn, tt⟩ (by omega)
              obtain ⟨m4, hm4⟩ : ∃ m4, Hid (m ++ [(⟨tk, tb, tn, tt⟩ : Val)] = m4) := ⟨_, hid rfl⟩
              rw [hm4.out] at hrun hr4
              dsimp only at hrun
              have HF : Hid (VE.Row W4 (.slice a4 m4.length c4) m4 ∧ Kp [] wn W4 ∧ ∀ k ∈ blk a4, wn.heap.size ≤ k) := hid ⟨hr4, kq2.trans k4 (fun y hy => .inr (Ht.out.2.2 y hy)), fun k hk => by
                rcases hn4 k hk with e | e
                · exact Ht.out.2.2 k e
                · have := kq2.size; omega⟩
              have hm5 : Hid (m4 = kl ++ (gs.take (t + 1)).map (tellV RM)) := hid (by rw [htk2.out, ← List.append_assoc, ← hm.out, hm4.out])
              have hrun' := hid hrun
              clear cA kq hr4 k4 hn4 kq2 hrun cg0 cg1
              go_wp2_with (first | (refine wpAppRunY rfl _ _ 24 24 rfl _ _ _ rfl rfl hrun'.out ?_) | fail)
              go_roundw
              case rel => exact ⟨t + 1, a4, c4, m4, by omega, by go_num, rfl, hm5, HF⟩
              case measure => simp [intOf] <;> omega
            · have hmm : Hid (m = kl ++ gs.map (tellV RM)) := hid (by rw [hm.out, show t = gs.length by omega, List.take_length])
              have kall := H.out.2.trans (Hn.out.2.2.trans Ht.out.2.1 (by simp)) (by simp)
              have hzc := Ht.out.2.2
              have hLo : Lot W0.heap.size oa oc O wr := H.out.1.ck (CK.ofKp (Hn.out.2.2.trans Ht.out.2.1 (by simp))) (by simp) (by simp)
              obtain ⟨a4, c4, W6, hrun, hl4, k4, hn4⟩ := hLo.app ⟨ra, rc, m⟩ (rowLies Ht.out.1) kall.size (fun k hk => ⟨by have := hzc k hk; have := kw0n.out.size; omega, Ht.out.1.lt k (by rw [ownV]; exact hk), fun hm' => by have := hzc k hk; have := H.out.1.lt k hm'; have := Hn.out.2.2.size; omega⟩) (by have := hO.out.2; omega)
              obtain ⟨O4, hO4⟩ : ∃ m4, Hid (O ++ [(⟨ra, rc, m⟩ : Vs)] = m4) := ⟨_, hid rfl⟩
              rw [hO4.out] at hrun hl4
              dsimp only at hrun
              have HF : Hid (Lot W0.heap.size a4 c4 O4 W6 ∧ Kp [] W0 W6) := hid ⟨hl4, kall.trans k4 (fun x hx => .inr (H.out.1.own x hx))⟩
              have hOF : Hid (O4.map (·.l) = (KS.take (i + 1)).map (fun x => x.l ++ gs.map (tellV (R.filter fun l => rowsV (pickV l bs) x.l == 0))) ∧ O4.length ≤ i + 1) := hid ⟨by
                rw [htk.out, List.map_append, ← hO.out.1, ← hO4.out, List.map_append, List.map_cons, List.map_cons, hRM.out, ← hmm.out]
                rfl, by rw [← hO4.out, List.length_append]; have := hO.out.2; simp; omega⟩
              have hrun' := hid hrun
              have dt1 : ¬ (t : Int) < (gs.length : Int) := by omega
              have dt2 : decide ((t : Int) < (gs.length : Int)) = false := by simp; omega
              clear hLo hl4 k4 hn4 kall hzc hrun htl
              go_wp2_with (first | (refine wpAppRunY rfl _ _ 22 22 rfl _ _ _ rfl rfl hrun'.out ?_) | fail)
              go_roundw
              case rel => exact ⟨i + 1, a4, c4, O4, by omega, by go_num, rfl, hOF, HF⟩
              case measure => simp [intOf] <;> omega
    · have hOe : Hid (O.map (·.l) = refG bs gs R) := hid (by
        rw [hO.out.1, show i = KS.length by omega, List.take_length]
        unfold refG
        rw [← HK.out.2.2.1, List.map_map]
        rfl)
      have di1 : ¬ (i : Int) < (KS.length : Int) := by omega
      have di2 : decide ((i : Int) < (KS.length : Int)) = false := by simp; omega
      clear hik
      go_wp2_with fail
      go_ret
      exact ⟨oa, oc, O, rfl, H.out.1.mono HW0.out.size, hOe.out, HW0.out.trans H.out.2 (by simp)⟩
end Go.Proofs.Ytohkjikhlakglaa
end

section
namespace Go.Proofs.Ytohkjikhlakglaa
open Go.RowKit Go.Hay
attribute [local go_sem] Oper.semAt_some
set_option linter.unusedVariables false
set_option linter.unusedSimpArgs false

set_option maxHeartbeats 64000000 in
set_option maxRecDepth 100000 in
theorem rGroup0 (a : Option Addr) (c : Nat) (L : List Vs) (ba : Option Addr) (bc : Nat) (bs : List Int) (ga : Option Addr) (gc : Nat) (gs : List (Int × Int)) (w : World) (hs : VsE.See w a L) (hx : ∀ x ∈ L, x.lies w) (hb : IntE.See w ba bs) (hg : AgE.See w ga gs) (hl : L.length ≤ 1048576) (hr : ∀ x ∈ L, x.l.length ≤ 1048576) (hbl : bs.length ≤ 1048576) (hgl : gs.length ≤ 1048576) (hbs : bs = []) :
    Calls Try.prog 18 #[.slice a L.length c, .slice ba bs.length bc, .slice ga gs.length gc] w (LotP (refG bs gs (L.map (·.l))) w) := by
  have HS := hid hs
  have HX := hid hx
  have HB := hid hb
  have HG := hid hg
  have HR := hid hr
  have cK0 := rKeys a c L ba bc bs w hs hx hb hl hbl
  obtain ⟨R, hRL⟩ : ∃ R, Hid (L.map (·.l) = R) := ⟨_, hid rfl⟩
  rw [hRL.out] at cK0 ⊢
  have cK := hid cK0
  obtain ⟨nb, hnb⟩ : ∃ n : Nat, Hid (bs.length = n) := ⟨_, hid rfl⟩
  have hnb0 : Hid (nb = 0) := hid (by rw [← hnb.out, hbs]; rfl)
  have hbsH := hid hbs
  have db : ((nb : Int) == 0) = true := by rw [hnb0.out]; rfl
  rw [hnb.out] at cK ⊢
  clear hs hx hb hg hr cK0 hbs
  go_enter Try.func18, Try.ntmps18
  go_wp2_with fail
  refine cK.out.mono ?_
  rintro e w1 ⟨ka1, kc1, K1, rfl, hlK, hK1, k1⟩
  obtain ⟨W0, hW0, kA, bA⟩ : ∃ x, w1.alloc (.cells #[.slice none 0 0] 24) = x ∧ Kp [] w1 x ∧ Bn x w1.heap.size [.slice none 0 0] := ⟨_, rfl, (Kp.refl _ _).alloc _, Bn.new w1 _ _⟩
  obtain ⟨qa, hqa⟩ : ∃ q, w1.heap.size = q := ⟨_, rfl⟩
  rw [hqa] at bA
  obtain ⟨KS, hKSe⟩ : ∃ K : List Vs, Hid (K = [⟨none, 0, []⟩]) := ⟨_, hid rfl⟩
  have hKn : KS.length = 1 := by rw [hKSe.out]; rfl
  have hKsee : VsE.See W0 (some ⟨qa, 0, none⟩) KS := by rw [hKSe.out]; exact .inr ⟨qa, 0, rfl, fun j u hu => by rw [Nat.zero_add]; exact bA.get j u (by simpa [El.cs, VsE] using hu)⟩
  have hKli : ∀ x ∈ KS, x.lies W0 := fun x hx => by rw [hKSe.out] at hx; simp at hx; rw [hx]; exact ⟨.inl rfl, Nat.le_refl _, by simp [maxLen], fun _ => rfl⟩
  have hKS : KS.map (·.l) = if bs = [] then [[]] else keysV bs R := by rw [if_pos hbsH.out, hKSe.out]; rfl
  have hKlen : KS.length ≤ 1048577 := by omega
  have HKB : Hid (∀ x ∈ KS, x.l.length ≤ 1048576) := hid (fun x hx => by rw [hKSe.out] at hx; simp at hx; rw [hx]; simp)
  have KW0 : Kp [] w W0 := k1.trans kA (by simp)
  have hlen1 := hid hKn
  rw [hnb.out.symm] at *
  have HK := hid (And.intro hKsee (And.intro hKli (And.intro hKS hKlen)))
  have H0 : Hid (Lot W0.heap.size none 0 [] W0 ∧ Kp [] W0 W0) := hid ⟨Lot.nil _ _, Kp.refl _ _⟩
  have HW0 := hid KW0
  clear hKsee hKli hKS KW0
  go_wp2_with fail
  go_loopw [8, 9] (fun v8 v9 wr => ∃ (i : Nat) (oa : Option Addr) (oc : Nat) (O : List Vs), i ≤ KS.length ∧ v9 = .int .i64 (i : Int) ∧ v8 = .slice oa O.length oc ∧ Hid (O.map (·.l) = (KS.take i).map (fun x => x.l ++ gs.map (tellV (R.filter fun l => rowsV (pickV l bs) x.l == 0))) ∧ O.length ≤ i) ∧ Hid (Lot W0.heap.size oa oc O wr ∧ Kp [] W0 wr)) (fun _ v9 _ => KS.length - (intOf v9).toNat)
  case atStart => exact ⟨0, none, 0, [], Nat.zero_le _, rfl, rfl, hid ⟨rfl, by simp⟩, H0⟩
  case round =>
    obtain ⟨i, oa, oc, O, hi, rfl, rfl, hO, H⟩ := hrel
    obtain ⟨wo, hwo⟩ : ∃ x, x = wr := ⟨wr, rfl⟩
    subst hwo
    clear H0
    have hKl2 : KS.length ≤ 1048577 := HK.out.2.2.2
    by_cases hik : i < KS.length
    · obtain ⟨gk, ok, ek, k0⟩ := vsAt HK.out.1 (k := i) (x := KS[i]) (by simp [hik])
      have hkl := hid (HK.out.2.1 KS[i] (List.getElem_mem hik))
      have htk := hid (List.take_succ_eq_append_getElem hik)
      obtain ⟨kx, hkx⟩ : ∃ x, Hid (KS[i] = x) := ⟨_, hid rfl⟩
      rw [hkx.out] at k0 hkl htk
      obtain ⟨ka, kc, kl⟩ := kx
      have hkc := hkl.out.cap; have hkm := hkl.out.most
      have hklb := HKB.out (⟨ka, kc, kl⟩ : Vs) (by rw [← hkx.out]; exact List.getElem_mem hik)
      unfold maxLen at hkm
      dsimp only at k0 hkc hkm hklb
      have hWo := hid (HW0.out.trans H.out.2 (by simp))
      obtain ⟨RM, hRM⟩ : ∃ r, Hid ((R.filter fun l => rowsV (pickV l bs) kl == 0) = r) := ⟨_, hid rfl⟩
      have i1 : (0 : Int) ≤ (i : Int) := by omega
      have i2 : (i : Int) < 1 := by have := hlen1.out; omega
      have i3 : (i : Int) + 1 ≤ 9223372036854775807 := by omega
      have H1 : Hid (VsE.Row wo (.slice none 0 0) [] ∧ (∀ k ∈ blk none, wo.heap.size ≤ k) ∧ Kp [] wo wo) := hid ⟨.inl ⟨rfl, rfl⟩, by simp [blk], Kp.refl _ _⟩
      have hCk : Hid (∀ W, Kp [] W0 W → W.cell? ⟨qa, i, none⟩ = some (.slice ka kl.length kc)) := hid (fun W q => by have h := kpAt q k0; cases ek; rw [Nat.zero_add] at h; exact h)
      clear ek
      clear k0
      go_wp2_with fail
      go_loopw [10, 11] (fun v10 v11 wn => ∃ (n : Nat) (ma : Option Addr) (mc : Nat) (M : List Vs), n ≤ L.length ∧ v11 = .int .i64 (n : Int) ∧ v10 = .slice ma M.length mc ∧ Hid (M = (L.take n).filter (fun y => rowsV (pickV y.l bs) kl == 0) ∧ M.length ≤ n) ∧ Hid (VsE.Row wn (.slice ma M.length mc) M ∧ (∀ k ∈ blk ma, wo.heap.size ≤ k) ∧ Kp [] wo wn)) (fun _ v11 _ => L.length - (intOf v11).toNat)
      case atStart => exact ⟨0, none, 0, [], Nat.zero_le _, rfl, rfl, hid ⟨rfl, by simp⟩, H1⟩
      case round =>
        obtain ⟨n, ma, mc, M, hn, rfl, rfl, hM, Hn⟩ := hrel
        clear H1
        by_cases hnl : n < L.length
        · have kwn := hid (hWo.out.trans Hn.out.2.2 (by simp))
          obtain ⟨g, o, ea, c0⟩ := vsAt HS.out (k := n) (x := L[n]) (by simp [hnl])
          have hxl := hid (HX.out L[n] (List.getElem_mem hnl))
          have hxr := HR.out L[n] (List.getElem_mem hnl)
          have hfs : Hid ((L.take (n + 1)).filter (fun y => rowsV (pickV y.l bs) kl == 0) = (L.take n).filter (fun y => rowsV (pickV y.l bs) kl == 0) ++ if rowsV (pickV L[n].l bs) kl == 0 then [L[n]] else []) := hid (filterSnocG _ L n hnl)
          obtain ⟨x, hxe⟩ : ∃ x, Hid (L[n] = x) := ⟨_, hid rfl⟩
          rw [hxe.out] at c0 hxl hxr hfs
          obtain ⟨xa, xc, xl⟩ := x
          dsimp only at c0 hxr hfs
          have hS : Hid (∀ W', Kp [] wr W' → W'.cell? ⟨g, o + n, none⟩ = some (.slice xa xl.length xc) ∧ W'.cell? ⟨qa, i, none⟩ = some (.slice ka kl.length kc)) := hid (fun W' q => ⟨kpAt (kwn.out.trans q (by simp)) c0, hCk.out W' ((H.out.2.trans Hn.out.2.2 (by simp)).trans q (by simp))⟩)
          have cP0 : ∀ W', Kp [] wr W' → Calls Try.prog 35 #[.slice xa xl.length xc, .slice ba bs.length bc] W' (NewR (pickV xl bs) W') := fun W' q => rPick xa xc xl ba bc bs W' (hxl.out.see.kept (kwn.out.trans q (by simp))) (by omega) (HB.out.keptNew (kwn.out.trans q (by simp))) (by omega)
          obtain ⟨zl, hzl⟩ : ∃ z, Hid (pickV xl bs = z) := ⟨_, hid rfl⟩
          simp only [hzl.out] at cP0
          rw [hzl.out] at hfs
          have cP := hid cP0
          have hzlen : zl.length ≤ 1048576 := by rw [← hzl.out]; unfold pickV; rw [List.length_map]; exact hbl
          obtain ⟨C, hC⟩ : ∃ C, Hid (rowsV zl kl = C) := ⟨_, hid rfl⟩
          rw [hC.out] at hfs
          have hMn := hM.out.2
          have n1 : (0 : Int) ≤ (n : Int) := by omega
          have n2 : (n : Int) < (L.length : Int) := by omega
          have n3 : (n : Int) + 1 ≤ 9223372036854775807 := by omega
          have HA := hid ea
          rw [ea] at HS
          clear c0 cP0 HA
          subst ea
          go_wp2_with fail
          refine wp_noPanicY ?_
          refine wp_region_held_drew (S := fun W' => W'.cell? ⟨g, o + n, none⟩ = some (.slice xa xl.length xc) ∧ W'.cell? ⟨qa, i, none⟩ = some (.slice ka kl.length kc)) (by kernel_rfl) (hS.out _ (Kp.refl _ _).drew) (fun hHeld => ?_)
          have KD : Hid (Kp [] wr wr.drew) := hid (Kp.refl _ _).drew
          generalize wr.drew = wd at *
          refine wpAnyH_take (i := 0) (v := ?_) rfl (by kernel_rfl) (by kernel_rfl) (by kernel_rfl) (fun _ _ _ h => by cases h.1) (Or.inl ⟨by rfl, ?_⟩) (by assumption) ?_
          rotate_left
          · intro w hSw; (try dsimp only at hSw); go_simp <;> with_reducible rfl
          try simp only [Act.put, List.getElem_toArray, List.getElem_cons_zero, List.getElem_cons_succ, List.setIfInBounds_toArray, List.set_cons_zero, List.set_cons_succ]
          refine wpAnyH_take (i := 1) (v := ?_) rfl (by kernel_rfl) (by kernel_rfl) (by kernel_rfl) (fun _ _ _ h => by cases h.1) (Or.inl ⟨by rfl, ?_⟩) (by assumption) ?_
          rotate_left
          · intro w hSw; (try dsimp only at hSw); go_simp <;> with_reducible rfl
          try simp only [Act.put, List.getElem_toArray, List.getElem_cons_zero, List.getElem_cons_succ, List.setIfInBounds_toArray, List.set_cons_zero, List.set_cons_succ]
          refine wpAnyH_take (i := 2) (v := ?_) rfl (by kernel_rfl) (by kernel_rfl) (by kernel_rfl) (fun _ _ _ h => by cases h.1) (Or.inl ⟨by rfl, ?_⟩) (by assumption) ?_
          rotate_left
          · intro w hSw; (try dsimp only at hSw); go_simp <;> with_reducible rfl
          try simp only [Act.put, List.getElem_toArray, List.getElem_cons_zero, List.getElem_cons_succ, List.setIfInBounds_toArray, List.set_cons_zero, List.set_cons_succ]
          refine wpAnyH_take (i := 3) (v := ?_) rfl (by kernel_rfl) (by kernel_rfl) (by kernel_rfl) (fun _ _ _ h => by cases h.1) (Or.inl ⟨by rfl, ?_⟩) (by assumption) ?_
          rotate_left
          · intro w hSw; (try dsimp only at hSw); go_simp <;> with_reducible rfl
          try simp only [Act.put, List.getElem_toArray, List.getElem_cons_zero, List.getElem_cons_succ, List.setIfInBounds_toArray, List.set_cons_zero, List.set_cons_succ]
          refine wpAnyH_take (i := 4) (v := ?_) rfl (by kernel_rfl) (by kernel_rfl) (by kernel_rfl) (fun _ _ _ h => by cases h.1) (Or.inl ⟨by rfl, ?_⟩) (by assumption) ?_
          rotate_left
          · intro w hSw; (try dsimp only at hSw); go_simp <;> with_reducible rfl
          try simp only [Act.put, List.getElem_toArray, List.getElem_cons_zero, List.getElem_cons_succ, List.setIfInBounds_toArray, List.set_cons_zero, List.set_cons_succ]
          refine wpAnyH_take (i := 6) (v := ?_) rfl (by kernel_rfl) (by kernel_rfl) (by kernel_rfl) (fun _ _ _ h => by cases h.1) (Or.inl ⟨by rfl, ?_⟩) (by assumption) ?_
          rotate_left
          · intro w hSw; (try dsimp only at hSw); go_simp <;> with_reducible rfl
          try simp only [Act.put, List.getElem_toArray, List.getElem_cons_zero, List.getElem_cons_succ, List.setIfInBounds_toArray, List.set_cons_zero, List.set_cons_succ]
          refine wpAnyH_take (i := 7) (v := ?_) rfl (by kernel_rfl) (by kernel_rfl) (by kernel_rfl) (fun _ _ _ h => by cases h.1) (Or.inl ⟨by rfl, ?_⟩) (by assumption) ?_
          rotate_left
          · intro w hSw; (try dsimp only at hSw); go_simp <;> with_reducible rfl
          try simp only [Act.put, List.getElem_toArray, List.getElem_cons_zero, List.getElem_cons_succ, List.setIfInBounds_toArray, List.set_cons_zero, List.set_cons_succ]
          refine wpAnyH_take (i := 8) (v := ?_) rfl (by kernel_rfl) (by kernel_rfl) (by kernel_rfl) (fun _ _ _ h => by cases h.1) (Or.inl ⟨by rfl, ?_⟩) (by assumption) ?_
          rotate_left
          · intro w hSw; (try dsimp only at hSw); go_simp <;> with_reducible rfl
          try simp only [Act.put, List.getElem_toArray, List.getElem_cons_zero, List.getElem_cons_succ, List.setIfInBounds_toArray, List.set_cons_zero, List.set_cons_succ]
          refine wpAnyH_take (i := 9) (v := ?_) rfl (by kernel_rfl) (by kernel_rfl) (by kernel_rfl) (fun _ _ _ h => by cases h.1) (Or.inl ⟨by rfl, ?_⟩) (by assumption) ?_
          rotate_left
          · intro w hSw; (try dsimp only at hSw); go_simp <;> with_reducible rfl
          try simp only [Act.put, List.getElem_toArray, List.getElem_cons_zero, List.getElem_cons_succ, List.setIfInBounds_toArray, List.set_cons_zero, List.set_cons_succ]
          refine wpAnyH_ready (rs := [5]) (by kernel_rfl) (by simp) ?_
          refine AllReadyH.cons rfl (fun K hK => ?_) AllReadyH.nil
          go_simp
          refine (cP.out wd KD.out).mono ?_
          rintro e wz ⟨za, zc, rfl, hzrow, kz, hzb⟩
          have Kz := hid (KD.out.trans kz (by simp))
          have hzli := hid (rowLies hzrow)
          (try go_wp2_with fail)
          refine hK.out _ _ (hS.out wz Kz.out) (fun hHeld => ?_)
          clear hK K
          try simp only [Act.put, List.getElem_toArray, List.getElem_cons_zero, List.getElem_cons_succ, List.setIfInBounds_toArray, List.set_cons_zero, List.set_cons_succ]
          have cR0 := cRefRows za ka zc kc zl kl wz hzli.out.see (hkl.out.see.kept (((H.out.2.trans Hn.out.2.2 (by simp)).trans Kz.out (by simp)))) (by omega) (by omega)
          rw [hC.out] at cR0
          have cR := hid cR0
          clear cR0 kz hzb hzrow cP
          refine wpAnyH_ready (rs := [10]) (by kernel_rfl) (by simp) ?_
          refine AllReadyH.cons rfl (fun K hK => ?_) AllReadyH.nil
          go_simp
          refine cR.out.mono ?_
          rintro e wy ⟨rfl, ky⟩
          have Ky := hid (Kz.out.trans ky (by simp))
          (try go_wp2_with fail)
          refine hK.out _ _ (hS.out wy Ky.out) (fun hHeld => ?_)
          clear hK K
          try simp only [Act.put, List.getElem_toArray, List.getElem_cons_zero, List.getElem_cons_succ, List.setIfInBounds_toArray, List.set_cons_zero, List.set_cons_succ]
          clear ky cR
          obtain ⟨sx, _⟩ := hS.out wy Ky.out
          by_cases hC0 : C = 0
          · have d1 : (C == 0) = true := by simp [hC0]
            refine wpAnyH_take (i := 11) (v := ?_) rfl (by kernel_rfl) (by kernel_rfl) (by kernel_rfl) (fun _ _ _ h => by cases h.1) (Or.inl ⟨by rfl, ?_⟩) (by assumption) ?_
            rotate_left
            · intro w hSw; (try dsimp only at hSw); go_simp <;> (try simp only [d1]) <;> with_reducible rfl
            try simp only [Act.put, List.getElem_toArray, List.getElem_cons_zero, List.getElem_cons_succ, List.setIfInBounds_toArray, List.set_cons_zero, List.set_cons_succ]
            try simp only [d1]
            refine wpAnyH_done (by kernel_rfl) ⟨rfl, ?_⟩ _
            rw [d1, if_pos rfl] at hfs
            obtain ⟨a4, c4, W4, hrun, hrow4, k4, n4⟩ := appVsO wy M ma mc ⟨xa, xc, xl⟩ (Hn.out.1.keptNew Ky.out) (by omega)
            obtain ⟨M4, hM4⟩ : ∃ m, Hid (M ++ [(⟨xa, xc, xl⟩ : Vs)] = m) := ⟨_, hid rfl⟩
            rw [hM4.out] at hrun hrow4
            dsimp only at hrun
            have HF : Hid (VsE.Row W4 (.slice a4 M4.length c4) M4 ∧ (∀ k ∈ blk a4, wo.heap.size ≤ k) ∧ Kp [] wo W4) := hid ⟨hrow4, fun k hk => by
              rcases n4 k hk with e | e
              · exact Hn.out.2.1 k e
              · have := Ky.out.size; have := Hn.out.2.2.size; omega, (Hn.out.2.2.trans Ky.out (by simp)).trans k4 (fun y hy => .inr (Hn.out.2.1 y hy))⟩
            have hMF : Hid (M4 = (L.take (n + 1)).filter (fun y => rowsV (pickV y.l bs) kl == 0) ∧ M4.length ≤ n + 1) := hid ⟨by rw [hfs.out, ← hM.out.1, hM4.out], by rw [← hM4.out, List.length_append]; simp; omega⟩
            have hrun' := hid hrun
            clear hHeld hrun hrow4 k4 n4 hC0 hS
            go_wp2_with (first | (refine wpAppRunY rfl _ _ 22 22 rfl _ _ _ rfl rfl hrun'.out ?_) | fail)
            go_roundw
            case rel => exact ⟨n + 1, a4, c4, M4, by omega, by go_num, rfl, hMF, HF⟩
            case measure => simp [intOf] <;> omega
          · have d1 : (C == 0) = false := beq_eq_false_iff_ne.2 hC0
            refine wpAnyH_take (i := 11) (v := ?_) rfl (by kernel_rfl) (by kernel_rfl) (by kernel_rfl) (fun _ _ _ h => by cases h.1) (Or.inl ⟨by rfl, ?_⟩) (by assumption) ?_
            rotate_left
            · intro w hSw; (try dsimp only at hSw); go_simp <;> (try simp only [d1]) <;> with_reducible rfl
            try simp only [Act.put, List.getElem_toArray, List.getElem_cons_zero, List.getElem_cons_succ, List.setIfInBounds_toArray, List.set_cons_zero, List.set_cons_succ]
            try simp only [d1]
            refine wpAnyH_done (by kernel_rfl) ⟨rfl, ?_⟩ _
            rw [d1] at hfs
            simp only [Bool.false_eq_true, if_false, List.append_nil] at hfs
            have HF : Hid (VsE.Row wy (.slice ma M.length mc) M ∧ (∀ k ∈ blk ma, wo.heap.size ≤ k) ∧ Kp [] wo wy) := hid ⟨Hn.out.1.keptNew Ky.out, Hn.out.2.1, Hn.out.2.2.trans Ky.out (by simp)⟩
            have hMF : Hid (M = (L.take (n + 1)).filter (fun y => rowsV (pickV y.l bs) kl == 0) ∧ M.length ≤ n + 1) := hid ⟨by rw [hfs.out, ← hM.out.1], by omega⟩
            clear hHeld hC0 hS
            go_wp2_with fail
            go_roundw
            case rel => exact ⟨n + 1, ma, mc, M, by omega, by go_num, rfl, hMF, HF⟩
            case measure => simp [intOf] <;> omega
        · have hMe : Hid (M.map (·.l) = RM) := hid (by
            rw [hM.out.1, show n = L.length by omega, List.take_length, ← hRM.out, ← hRL.out, List.filter_map]
            rfl)
          have hMin : Hid (∀ x ∈ M, x ∈ L) := hid (fun x hx => by rw [hM.out.1] at hx; exact List.mem_of_mem_take (List.mem_filter.1 hx).1)
          have hMn : M.length ≤ 1048576 := by have := hM.out.2; omega
          have kwn := hid (hWo.out.trans Hn.out.2.2 (by simp))
          have kw0n := hid (H.out.2.trans Hn.out.2.2 (by simp))
          have ck := hCk.out wr kw0n.out
          obtain ⟨X1, hX1⟩ : ∃ X1, wr.alloc (.cells #[] 47) = X1 := ⟨_, rfl⟩
          have kX1 : Kp [] wr X1 := by rw [← hX1]; exact (Kp.refl _ _).alloc _
          have hr0 : VE.Row X1 (.slice (some ⟨wr.heap.size, 0, none⟩) 0 0) [] := by
            refine .inr ⟨wr.heap.size, 0, 0, rfl, Nat.le_refl _, Nat.zero_le _, by rw [← hX1]; simp, fun j u hu => by simp [El.cs] at hu, fun j hj => by omega⟩
          obtain ⟨a5, c5, X2, hrun1, hrow5, kk5, hn5⟩ := appVY (l := []) hr0 ka kc kl (hkl.out.see.kept (kw0n.out.trans kX1 (by simp))) (by simp; omega)
          rw [List.nil_append] at hrun1 hrow5
          have hb1 : blk (some (⟨wr.heap.size, 0, none⟩ : Addr)) = [wr.heap.size] := rfl
          have kX2 : Kp [] wr X2 := kX1.trans kk5 (fun q hq => .inr (by rw [hb1] at hq; simp at hq; omega))
          have hn5' : ∀ q ∈ blk a5, wr.heap.size ≤ q := fun q hq => by
            rcases hn5 q hq with h | h
            · rw [hb1] at h; simp at h; omega
            · have := kX1.size; omega
          have H2 : Hid (VE.Row X2 (.slice a5 kl.length c5) kl ∧ Kp [] wr X2 ∧ ∀ k ∈ blk a5, wr.heap.size ≤ k) := hid ⟨hrow5, kX2, hn5'⟩
          have ckA := hCk.out X1 (kw0n.out.trans kX1 (by simp))
          simp only [List.length_nil] at hrun1
          have hrun1' := hid hrun1
          obtain ⟨wn, hwn⟩ : ∃ x, x = wr := ⟨wr, rfl⟩
          subst hwn
          have HM : Hid (VsE.See wn ma M) := hid (by obtain ⟨_, _, e3, h, _⟩ := Hn.out.1.see; rw [(Value.slice.inj e3).1]; exact h)
          have dj1 : ¬ (n : Int) < (L.length : Int) := by omega
          have dj2 : decide ((n : Int) < (L.length : Int)) = false := by simp; omega
          clear hr0 kX1 kk5 hn5 hb1 kX2 hn5' hrow5 hrun1 hnl hM
          go_wp2_with (first | (refine wpAppRunY rfl _ _ 24 24 rfl _ _ _ rfl rfl hrun1'.out ?_) | fail)
          clear ck ckA
          go_loopw [12, 13] (fun v12 v13 wk => ∃ (t : Nat) (ra : Option Addr) (rc : Nat) (m : List Val), t ≤ gs.length ∧ v13 = .int .i64 (t : Int) ∧ v12 = .slice ra m.length rc ∧ Hid (m = kl ++ (gs.take t).map (tellV RM)) ∧ Hid (VE.Row wk (.slice ra m.length rc) m ∧ Kp [] wn wk ∧ ∀ k ∈ blk ra, wn.heap.size ≤ k)) (fun _ v13 _ => gs.length - (intOf v13).toNat)
          case atStart => exact ⟨0, a5, c5, kl, Nat.zero_le _, rfl, rfl, hid (by simp), H2⟩
          case round =>
            obtain ⟨t, ra, rc, m, ht, rfl, rfl, hm, Ht⟩ := hrel
            clear H2
            have hml : m.length ≤ 3000000 := by rw [hm.out]; simp; omega
            by_cases htl : t < gs.length
            · obtain ⟨g2, o2, eg, c0, c1⟩ := agAt HG.out t htl
              have kwk := kwn.out.trans Ht.out.2.1 (by simp)
              have cg0 := kpAt kwk c0
              have cg1 := kpAt kwk c1
              have htk2 : Hid ((gs.take (t + 1)).map (tellV RM) = (gs.take t).map (tellV RM) ++ [tellV RM gs[t]]) := hid (by rw [List.take_succ_eq_append_getElem htl, List.map_append]; rfl)
              have cA0 := rAgg ma mc M gs[t].1 gs[t].2 wr (HM.out.keptNew Ht.out.2.1) (fun x hx => (HX.out x (hMin.out x hx)).ck (CK.ofKp kwk) (by simp)) (by omega)
              rw [hMe.out] at cA0
              obtain ⟨y, hye⟩ : ∃ y, Hid (gs[t] = y) := ⟨_, hid rfl⟩
              rw [hye.out] at cg0 cg1 cA0 htk2
              obtain ⟨y1, y2⟩ := y
              dsimp only at cg0 cg1 cA0
              obtain ⟨⟨tk, tb, tn, tt⟩, htv⟩ : ∃ v, Hid (tellV RM (y1, y2) = v) := ⟨_, hid rfl⟩
              rw [htv.out] at cA0 htk2
              dsimp only at cA0
              have cA := hid cA0
              have t1 : (0 : Int) ≤ (t : Int) := by omega
              have t2 : (t : Int) < (gs.length : Int) := by omega
              have t3 : (t : Int) + 1 ≤ 9223372036854775807 := by omega
              clear cA0 c0 c1 kwk
              rw [eg] at HG ⊢
              go_wp2_with fail
              refine cA.out.mono ?_
              rintro e wq ⟨rfl, kq⟩
              have kq2 := Ht.out.2.1.trans kq (by simp)
              obtain ⟨a4, c4, W4, hrun, hr4, k4, hn4⟩ := appV1 (Ht.out.1.keptNew kq) ⟨tk, tb, tn, tt⟩ (by omega)
              obtain ⟨m4, hm4⟩ : ∃ m4, Hid (m ++ [(⟨tk, tb, tn, tt⟩ : Val)] = m4) := ⟨_, hid rfl⟩
              rw [hm4.out] at hrun hr4
              dsimp only at hrun
              have HF : Hid (VE.Row W4 (.slice a4 m4.length c4) m4 ∧ Kp [] wn W4 ∧ ∀ k ∈ blk a4, wn.heap.size ≤ k) := hid ⟨hr4, kq2.trans k4 (fun y hy => .inr (Ht.out.2.2 y hy)), fun k hk => by
                rcases hn4 k hk with e | e
                · exact Ht.out.2.2 k e
                · have := kq2.size; omega⟩
              have hm5 : Hid (m4 = kl ++ (gs.take (t + 1)).map (tellV RM)) := hid (by rw [htk2.out, ← List.append_assoc, ← hm.out, hm4.out])
              have hrun' := hid hrun
              clear cA kq hr4 k4 hn4 kq2 hrun cg0 cg1
              go_wp2_with (first | (refine wpAppRunY rfl _ _ 24 24 rfl _ _ _ rfl rfl hrun'.out ?_) | fail)
              go_roundw
              case rel => exact ⟨t + 1, a4, c4, m4, by omega, by go_num, rfl, hm5, HF⟩
              case measure => simp [intOf] <;> omega
            · have hmm : Hid (m = kl ++ gs.map (tellV RM)) := hid (by rw [hm.out, show t = gs.length by omega, List.take_length])
              have kall := H.out.2.trans (Hn.out.2.2.trans Ht.out.2.1 (by simp)) (by simp)
              have hzc := Ht.out.2.2
              have hLo : Lot W0.heap.size oa oc O wr := H.out.1.ck (CK.ofKp (Hn.out.2.2.trans Ht.out.2.1 (by simp))) (by simp) (by simp)
              obtain ⟨a4, c4, W6, hrun, hl4, k4, hn4⟩ := hLo.app ⟨ra, rc, m⟩ (rowLies Ht.out.1) kall.size (fun k hk => ⟨by have := hzc k hk; have := kw0n.out.size; omega, Ht.out.1.lt k (by rw [ownV]; exact hk), fun hm' => by have := hzc k hk; have := H.out.1.lt k hm'; have := Hn.out.2.2.size; omega⟩) (by have := hO.out.2; omega)
              obtain ⟨O4, hO4⟩ : ∃ m4, Hid (O ++ [(⟨ra, rc, m⟩ : Vs)] = m4) := ⟨_, hid rfl⟩
              rw [hO4.out] at hrun hl4
              dsimp only at hrun
              have HF : Hid (Lot W0.heap.size a4 c4 O4 W6 ∧ Kp [] W0 W6) := hid ⟨hl4, kall.trans k4 (fun x hx => .inr (H.out.1.own x hx))⟩
              have hOF : Hid (O4.map (·.l) = (KS.take (i + 1)).map (fun x => x.l ++ gs.map (tellV (R.filter fun l => rowsV (pickV l bs) x.l == 0))) ∧ O4.length ≤ i + 1) := hid ⟨by
                rw [htk.out, List.map_append, ← hO.out.1, ← hO4.out, List.map_append, List.map_cons, List.map_cons, hRM.out, ← hmm.out]
                rfl, by rw [← hO4.out, List.length_append]; have := hO.out.2; simp; omega⟩
              have hrun' := hid hrun
              have dt1 : ¬ (t : Int) < (gs.length : Int) := by omega
              have dt2 : decide ((t : Int) < (gs.length : Int)) = false := by simp; omega
              clear hLo hl4 k4 hn4 kall hzc hrun htl
              go_wp2_with (first | (refine wpAppRunY rfl _ _ 22 22 rfl _ _ _ rfl rfl hrun'.out ?_) | fail)
              go_roundw
              case rel => exact ⟨i + 1, a4, c4, O4, by omega, by go_num, rfl, hOF, HF⟩
              case measure => simp [intOf] <;> omega
    · have hOe : Hid (O.map (·.l) = refG bs gs R) := hid (by
        rw [hO.out.1, show i = KS.length by omega, List.take_length]
        unfold refG
        rw [← HK.out.2.2.1, List.map_map]
        rfl)
      have di1 : ¬ (i : Int) < 1 := by have := hlen1.out; omega
      have di2 : decide ((i : Int) < 1) = false := by have := hlen1.out; simp; omega
      clear hik
      go_wp2_with fail
      go_ret
      exact ⟨oa, oc, O, rfl, H.out.1.mono HW0.out.size, hOe.out, HW0.out.trans H.out.2 (by simp)⟩
end Go.Proofs.Ytohkjikhlakglaa
end

section
namespace Go.Proofs.Ytohkjikhlakglaa
open Go.RowKit Go.Hay
attribute [local go_sem] Oper.semAt_some
set_option linter.unusedVariables false
set_option linter.unusedSimpArgs false

/-- How the first walk stands. -/
structure TwI (w1 : World) (q : Nat) (s : Sr) (W : World) : Prop where
  co : CoR w1 [q] s W
  box : W.cell? ⟨q, 0, none⟩ = some (.int .i64 (s.i : Int))
  free : W.frozen? ⟨q, 0, none⟩ = false
  few : s.i ≤ 1
theorem TwI.own {w1 : World} {q : Nat} : OwnFrom w1.heap.size (TwI w1 q) := fun s X Y row h hg hr => by
  have ck := CK.ofGrown hg (fun r e => (hr r e).2)
  obtain ⟨h1, h2⟩ := ck.2 _ _ trivial h.box
  exact ⟨h.co.grown hg hr, h1, h2.trans h.free, h.few⟩
theorem TwI.step {fr : Bool} {R : List (List Val)} {w1 : World} {q : Nat} (hq : q < w1.heap.size) {s s' : Sr} {A B : World} (hz : w1.heap.size + 2 ≤ A.heap.size) (h : TwI w1 q s A) (ht : StepR fr R s s' A B) : TwI w1 q s' B := by
  have co := h.co.step (by simpa using hq) hz ht
  have hm : s'.made = true := by
    cases hs : s.made with
    | true => exact (ht.stays hs).1
    | false => exact (ht.makes hs).1
  have hq3 : q ∉ s'.qs := fun hm' => by
    have := (co.mde hm).2 q hm'
    omega
  obtain ⟨h1, h2⟩ := (CK.ofTurn ht.turn).2 _ _ hq3 h.box
  exact ⟨co, by rw [ht.on]; exact h1, h2.trans h.free, by rw [ht.on]; exact h.few⟩
theorem coOwn {w1 : World} {S : List Nat} : OwnFrom w1.heap.size (CoR w1 S) := fun s X Y row h hg hr => h.grown hg hr
set_option maxHeartbeats 32000000 in
set_option maxRecDepth 100000 in
theorem cTwice (d : Nat) (hd : 4 ≤ d) (g : Nat) (lb : Array Value) (R : List (List Val)) (js : List Nat) (ma : Option Addr) (mc : Nat) (M : List Vs) (w : World) (heg : ∀ args w, (callFunc g args).run Try.prog w = .ok (.enter g args) w) (hseq : ∀ n, d ≤ n → RowSeq true (n - 1) g lb R js w) (hjs : ∀ j ∈ js, j < w.heap.size) (hR : R.length ≤ 4000000000000) (hRl : ∀ l ∈ R, l.length ≤ 3600000000000)
    (hs : VsE.See w ma M) (hx : ∀ x ∈ M, x.lies w) (hM : M.map (·.l) = R) :
    Calls Try.prog 16 #[.func (.func g) #[] lb, .slice ma M.length mc] w fun e w' => e = .returned (.bool true) ∧ Kp [] w w' := by
  refine (callsIn_wide (n := d)).1 ?_
  obtain ⟨w1, hw1, k1, b1⟩ : ∃ w1, w.alloc (.cells #[.int .i64 0] 3) = w1 ∧ Kp [] w w1 ∧ Bn w1 w.heap.size [.int .i64 0] := ⟨_, rfl, (Kp.refl _ _).alloc _, Bn.new w _ _⟩
  obtain ⟨q5, hq5⟩ : ∃ q, w.heap.size = q := ⟨_, rfl⟩
  rw [hq5] at b1
  have hq51 : q5 < w1.heap.size := b1.lt (by simp)
  have z0 := b1.get 0 _ rfl
  have zf := b1.free 0
  obtain ⟨w2, hw2, k2, b2⟩ : ∃ w2, w1.setCell ⟨q5, 0, none⟩ (.int .i64 0) = w2 ∧ Kp [] w w2 ∧ Bn w2 q5 [.int .i64 0] := ⟨_, rfl, k1.setCell (.inr (by show w.heap.size ≤ q5; omega)) _, b1.set 0 (by simp) _⟩
  have hz2 : w2.heap.size = w.heap.size + 1 := by rw [← hw2, ← hw1]; simp
  have hq52 : q5 < w2.heap.size := b2.lt (by simp)
  have hI0 : TwI w2 q5 ⟨false, 0, [], js, 0, none⟩ w2 := ⟨⟨rfl, rfl, rfl, Nat.le_refl _, fun _ _ _ => rfl, fun h => (by cases h), fun j hj => ⟨by have := hjs j hj; simp; omega, by have := hjs j hj; omega, by have := hjs j hj; omega⟩, fun j hj => by have := hjs j hj; omega, by simp⟩, b2.get 0 _ rfl, b2.free 0, by simp⟩
  have HI0 := hid hI0
  have HK := hid k2
  have HSQ := hid (hseq d (Nat.le_refl _))
  have HSN := hid hseq
  have HJS := hid hjs
  have HM := hid (And.intro hs (And.intro hx hM))
  have hzw := hid hz2
  have hKR : Hid (KeepR ⟨false, 0, [], js, 0, none⟩ w w2) := ⟨KeepB.ofKp k2 (by simp), fun h => (by cases h)⟩
  have hnf := eqlFuncNilY (v := false) Try.underlying28 (.func g) #[] lb
  have cAll : Hid (∀ W, Kp [] w W → Calls Try.prog 9 #[.func (.func g) #[] lb] W (LotP R W)) := fun W k => callsIn_wide.1 (cAllR d (by omega) g lb R js W heg ((hseq d (Nat.le_refl _)).move (KeepB.ofKp k (by simp))) (fun j hj => Nat.lt_of_lt_of_le (hjs j hj) k.size) hR hRl)
  have cSm : Hid (∀ W, Kp [] w W → ∀ ra rc L, Lot 0 ra rc L W → L.map (·.l) = R → Calls Try.prog 12 #[.slice ra L.length rc, .slice ma M.length mc] W fun e w' => e = .returned (.bool true) ∧ Kp [] W w') := fun W k ra rc L hl hL => by
    have ck := CK.ofKp k
    obtain ⟨a', c', e, hs', _⟩ := hl.row.see
    cases e
    exact cSameAll ra ma rc mc L M W hs' (ckSee ck hs (by simp)) hl.lies (fun x h => (hx x h).ck ck (by simp)) (by rw [hL, hM]) (by have := congrArg List.length hL; simp at this; omega)
  clear hI0 k1 k2 b1 b2 hseq hjs hz2 hs hx hM
  refine callsIn_of_wp_marks Try.func16 rfl trivial ?_ rfl
  simp only [Try.ntmps16, List.size_toArray, List.length_cons, List.length_nil, Nat.reduceAdd, Nat.reduceSub, Array.replicate_succ, Array.replicate_zero, List.push_toArray, List.append_toArray, List.nil_append, List.cons_append]
  refine wpIn_wide.2 ?_
  go_wp2_with fail
  refine (wpIn_wide (n := d)).1 ?_
  refine wpRangeX rfl (by omega) (gf := g) (lb := lb) rfl trivial heg
    HSQ.out (fun _ => rfl) KeepR.trans (fun s W o => KeepR.alloc s W o) hKR.out
    (TwI w2 q5) (fun c s W' => c = .exit 0 ∧ CoR w2 [q5] s W') TwI.own (fun c s X Y row h hg hr => ⟨h.1, h.2.grown hg hr⟩) HI0.out
    (fun s s' A B h ht k o hk ho => h.co.keeps ht k o hk ho) (fun c s A B h ht k o hk ho => h.2.keepsX ht k o hk ho) (fun s s' A B hz h ht => h.step hq52 hz ht) (fun c s A B h ht => ⟨h.1, h.2.stepX ht⟩)
    (fun s W o' h => h.co.recs o') (fun s x W o' h => CoR.recs (S := [q5]) (s := s) ⟨h.co.os, h.co.tape, h.co.output, h.co.size, h.co.low, h.co.mde, h.co.js, h.co.jl, h.co.ql⟩ o') (fun c s x W o' h => CoR.recs (S := [q5]) (s := s) ⟨h.2.os, h.2.tape, h.2.output, h.2.size, h.2.low, h.2.mde, h.2.js, h.2.jl, h.2.ql⟩ o')
    (fun x => { tmps := #[.func (.func g) #[] lb, .slice ma M.length mc, undef, undef, .bool false, .pointer (some ⟨q5, 0, none⟩), .func (.func g) #[] lb, .bool false, .func (.func g) #[] lb, .slice x.a x.l.length x.c, undef, undef, undef, undef, undef, undef, undef, undef, undef, undef, undef, undef, undef, undef], defers := [] }) ?assign ?body ?done ?stop
  case assign =>
    intro l x W C hC
    gi_wp2_with fail
    simpa [encR] using hC
  case body =>
    rintro l0 s ⟨xa, xc, xl⟩ A h hp
    have hb := h.box
    have hf := h.free
    have hfew := h.few
    have h' := hid h
    have d1 : (s.i : Int) + 1 ≤ 9223372036854775807 := by omega
    have c1 := World.cell?_setCell_same A ⟨q5, 0, none⟩ (.int .i64 ((s.i : Int) + 1)) hb
    have k1 : Kp [q5] A (A.setCell ⟨q5, 0, none⟩ (.int .i64 ((s.i : Int) + 1))) := (Kp.refl _ _).setCell (by simp) _
    obtain ⟨r1, r2, r3⟩ := h.co.round (x := ⟨xa, xc, xl⟩) k1 (fun k hk => by rw [List.mem_singleton.1 hk]; exact cellCel hb) (fun k hk => .inl hk) (fun k hk hm => (h.co.js k hm).1 hk)
    have f1 : (A.setCell ⟨q5, 0, none⟩ (.int .i64 ((s.i : Int) + 1))).frozen? ⟨q5, 0, none⟩ = false := by rw [World.frozen?_setCell]; exact hf
    have HR := hid (And.intro r1 (And.intro r2 (And.intro r3 (And.intro c1 f1))))
    clear h r1 r2 r3 k1 f1
    by_cases hi : s.i = 1
    · have d2 : (((s.i : Nat) : Int) + 1 == 2) = true := by simp; omega
      have d3 : ((s.i : Nat) : Int) + 1 = 2 := by omega
      have hi' := hid hi
      clear hi
      gi_wp2_with fail
      have HR2 := HR.out
      rw [d3] at HR2
      exact ⟨HR2.1, HR2.2.1, rfl, HR2.2.2.1⟩
    · have d2 : (((s.i : Nat) : Int) + 1 == 2) = false := beq_eq_false_iff_ne.2 (by omega)
      have d3 : ¬ ((s.i : Nat) : Int) + 1 = 2 := by omega
      have hi' := hid hi
      clear hi
      gi_wp2_with fail
      exact ⟨HR.out.1, HR.out.2.1, HR.out.2.2.1, HR.out.2.2.2.1, HR.out.2.2.2.2, by show s.i + 1 ≤ 1; have := hi'.out; omega⟩
  case done =>
    rintro D s X hD ⟨hmd, hsi, hsp⟩ h hrec
    have hkX : Kp [] w X := HK.out.trans h.co.kp (fun x hx => .inr (by simp at hx; omega))
    clear h
    have KX := hid hkX
    have hrec' := hid hrec
    clear hkX hrec
    go_wp2_with fail
    refine (cAll.out X KX.out).mono ?_
    rintro e X1 ⟨ra, rc, L, rfl, hl, hL, k1⟩
    have KX1 := hid (KX.out.trans k1 (by simp))
    have KD1 := hid k1
    have cS1 := hid (cSm.out X1 KX1.out ra rc L (hl.mono (Nat.zero_le _)) hL)
    clear hl hL k1
    go_wp2_with fail
    refine cS1.out.mono ?_
    rintro e X2 ⟨rfl, k2⟩
    have KX2 := hid (KX1.out.trans k2 (by simp))
    have KD2 := hid (KD1.out.trans k2 (by simp))
    clear cS1 k2
    go_wp2_with fail
    refine (cAll.out X2 KX2.out).mono ?_
    rintro e X3 ⟨ra3, rc3, L3, rfl, hl, hL, k3⟩
    have KX3 := hid (KX2.out.trans k3 (by simp))
    have KD3 := hid (KD2.out.trans k3 (by simp))
    have cS3 := hid (cSm.out X3 KX3.out ra3 rc3 L3 (hl.mono (Nat.zero_le _)) hL)
    clear hl hL k3
    go_wp2_with fail
    refine cS3.out.mono ?_
    rintro e X4 ⟨rfl, k4⟩
    have KX4 := hid (KX3.out.trans k4 (by simp))
    have KD4 := hid (KD3.out.trans k4 (by simp))
    clear cS3 k4
    go_wp2_with fail
    have hDl := (Array.getElem?_eq_some_iff.1 hrec'.out).1
    have hrec2 : X4.heap[D]? = some (.deferred (some [])) := (KD4.out.block D hDl (by simp)).trans hrec'.out
    have hmk : Mks [D] X4 := (Mks.nil X4).cons hrec2 (by simp)
    have hDw : w.heap.size ≤ D := by have := hzw.out; omega
    show LeavesInM _ _ _ _ _ _ (marks [D]) .returning _
    refine leaves_marks [D] X4 hmk fun w' hk => ⟨_, results_tmp rfl _ _ _, rfl, KX4.out.trans hk (fun x hx => .inr (by simp at hx; omega))⟩
  case stop =>
    rintro D c s X hD hsm ⟨rfl, h⟩ hrec
    have hkX : Kp [] w X := HK.out.trans h.kp (fun x hx => .inr (by simp at hx; omega))
    clear h
    refine wpIn_wide.2 ?_
    have KX := hid hkX
    have hrec' := hid hrec
    clear hkX hrec
    go_wp2_with fail
    refine (cAll.out X KX.out).mono ?_
    rintro e X1 ⟨ra, rc, L, rfl, hl, hL, k1⟩
    have KX1 := hid (KX.out.trans k1 (by simp))
    have KD1 := hid k1
    have cS1 := hid (cSm.out X1 KX1.out ra rc L (hl.mono (Nat.zero_le _)) hL)
    clear hl hL k1
    go_wp2_with fail
    refine cS1.out.mono ?_
    rintro e X2 ⟨rfl, k2⟩
    have KX2 := hid (KX1.out.trans k2 (by simp))
    have KD2 := hid (KD1.out.trans k2 (by simp))
    clear cS1 k2
    go_wp2_with fail
    refine (cAll.out X2 KX2.out).mono ?_
    rintro e X3 ⟨ra3, rc3, L3, rfl, hl, hL, k3⟩
    have KX3 := hid (KX2.out.trans k3 (by simp))
    have KD3 := hid (KD2.out.trans k3 (by simp))
    have cS3 := hid (cSm.out X3 KX3.out ra3 rc3 L3 (hl.mono (Nat.zero_le _)) hL)
    clear hl hL k3
    go_wp2_with fail
    refine cS3.out.mono ?_
    rintro e X4 ⟨rfl, k4⟩
    have KX4 := hid (KX3.out.trans k4 (by simp))
    have KD4 := hid (KD3.out.trans k4 (by simp))
    clear cS3 k4
    go_wp2_with fail
    have hDl := (Array.getElem?_eq_some_iff.1 hrec'.out).1
    have hrec2 : X4.heap[D]? = some (.deferred (some [])) := (KD4.out.block D hDl (by simp)).trans hrec'.out
    have hmk : Mks [D] X4 := (Mks.nil X4).cons hrec2 (by simp)
    have hDw : w.heap.size ≤ D := by have := hzw.out; omega
    show LeavesInM _ _ _ _ _ _ (marks [D]) .returning _
    refine leaves_marks [D] X4 hmk fun w' hk => ⟨_, results_tmp rfl _ _ _, rfl, KX4.out.trans hk (fun x hx => .inr (by simp at hx; omega))⟩
end Go.Proofs.Ytohkjikhlakglaa
end

section
namespace Go.Proofs.Ytohkjikhlakglaa
open Go.RowKit Go.Hay
attribute [local go_sem] Oper.semAt_some
set_option linter.unusedVariables false
set_option linter.unusedSimpArgs false

theorem rGroup (a : Option Addr) (c : Nat) (L : List Vs) (ba : Option Addr) (bc : Nat) (bs : List Int) (ga : Option Addr) (gc : Nat) (gs : List (Int × Int)) (w : World) (hs : VsE.See w a L) (hx : ∀ x ∈ L, x.lies w) (hb : IntE.See w ba bs) (hg : AgE.See w ga gs) (hl : L.length ≤ 1048576) (hr : ∀ x ∈ L, x.l.length ≤ 1048576) (hbl : bs.length ≤ 1048576) (hgl : gs.length ≤ 1048576) :
    Calls Try.prog 18 #[.slice a L.length c, .slice ba bs.length bc, .slice ga gs.length gc] w (LotP (refG bs gs (L.map (·.l))) w) := by
  by_cases h : bs = []
  · exact rGroup0 a c L ba bc bs ga gc gs w hs hx hb hg hl hr hbl hgl h
  · exact rGroup1 a c L ba bc bs ga gc gs w hs hx hb hg hl hr hbl hgl h
theorem refG_len (bs : List Int) (gs : List (Int × Int)) (R : List (List Val)) : (refG bs gs R).length ≤ R.length + 1 := by
  unfold refG
  rw [List.length_map]
  have := keysV_len bs R
  split <;> simp <;> omega
theorem refG_row (bs : List Int) (gs : List (Int × Int)) (R : List (List Val)) : ∀ l ∈ refG bs gs R, l.length ≤ bs.length + gs.length := fun l hl => by
  unfold refG at hl
  obtain ⟨k, hk, rfl⟩ := List.mem_map.1 hl
  rw [List.length_append, List.length_map]
  have : k.length ≤ bs.length := by
    split at hk
    · simp at hk; rw [hk]; simp
    · obtain ⟨x, _, e⟩ := (keysV_ok bs R).first _ hk
      rw [← e]
      unfold pickV
      simp
  omega
set_option maxHeartbeats 32000000 in
set_option maxRecDepth 100000 in
theorem groupsWalk (a0 : Option Addr) (c0 : Nat) (L0 : List Vs) (a1 : Option Addr) (c1 : Nat) (bs : List Int) (a2 : Option Addr) (c2 : Nat) (gs : List (Int × Int)) (w : World) (hs : VsE.See w a0 L0) (hx : ∀ x ∈ L0, x.lies w) (hl : L0.length ≤ 1048576) (hr : ∀ x ∈ L0, x.l.length ≤ 1048576) (hb : IntE.See w a1 bs) (hbn : a1 = none → c1 = 0) (hbl : bs.length ≤ 1048576) (hg : AgE.See w a2 gs) (hgn : a2 = none → c2 = 0) (hgl : gs.length ≤ 1048576) :
    Calls Try.prog 4 #[.slice a0 L0.length c0, .slice a1 bs.length c1, .slice a2 gs.length c2] w fun e w' => e = .returned (.bool true) ∧ Below w.heap.size w w' := by
  have HS : Hid (∀ W, Kp [] w W → VsE.See W a0 L0 ∧ (∀ x ∈ L0, x.lies W)) := hid fun W k => ⟨ckSee (CK.ofKp k) hs (by simp), fun x h => (hx x h).ck (CK.ofKp k) (by simp)⟩
  have HB : Hid (∀ W, Kp [] w W → IntE.See W a1 bs ∧ AgE.See W a2 gs) := hid fun W k => ⟨hb.keptNew k, hg.keptNew k⟩
  have hr' := hid hr
  obtain ⟨R0, hR0⟩ : ∃ R, Hid (L0.map (·.l) = R) := ⟨_, hid rfl⟩
  have hR0l : Hid (R0.length ≤ 1048576 ∧ ∀ l ∈ R0, l.length ≤ 1048576) := hid ⟨by rw [← hR0.out]; simpa using hl, fun l hm => by rw [← hR0.out] at hm; obtain ⟨x, hx', rfl⟩ := List.mem_map.1 hm; exact hr x hx'⟩
  have cC := hid (cCopied a0 c0 L0 w hs hx (by omega) (fun x h => by have := hr x h; omega))
  rw [hR0.out] at cC
  have HN := hid (And.intro hbn hgn)
  clear hs hx hr hb hg hbn hgn
  go_enter Try.func4, Try.ntmps4
  go_wp2_with fail
  refine cC.out.mono ?_
  rintro e w1 ⟨ra, rc, L, rfl, hlot, hL, k1⟩
  have hLn : L.length ≤ 1048576 := by have h1 := congrArg List.length hL; have h2 := hR0l.out.1; rw [List.length_map] at h1; omega
  have HL : Hid (∀ W, Kp [] w1 W → Lot w.heap.size ra rc L W) := hid fun W k => hlot.ck (CK.ofKp k) (by simp) (by simp)
  have hL' := hid hL
  have K1 := hid k1
  have cAl := hid (cAlive15 w1)
  clear cC hlot hL k1
  go_wp2_with fail
  refine cAl.out.mono ?_
  rintro e w2 ⟨rfl, k2⟩
  have K2 := hid (K1.out.trans k2 (by simp))
  have K12 := hid k2
  have cV := hid (cValuesE ra L.length rc w2)
  have src := hid ((HL.out w2 k2).src (by omega) 22)
  rw [hL'.out] at src
  clear cAl k2
  go_wp2_with fail
  refine cV.out.mono ?_
  rintro e w3 ⟨rfl, hw3⟩
  have k3 : Kp [] w2 w3 := by rw [hw3]; exact (Kp.refl _ _).alloc _
  rw [← hw3] at src
  obtain ⟨qa, hqa⟩ : ∃ q, Hid (w2.heap.size = q) := ⟨_, hid rfl⟩
  rw [hqa.out] at src ⊢
  have K3 := hid (K2.out.trans k3 (by simp))
  have K13 := hid (K12.out.trans k3 (by simp))
  have cG := hid (cGroupE 27 #[.pointer (some ⟨qa, 0, none⟩)] a1 c1 bs a2 c2 gs w3 (HB.out w3 K3.out).1 HN.out.1 (by omega) (HB.out w3 K3.out).2 HN.out.2 (by omega))
  clear cV hw3 k3
  go_wp2_with fail
  refine cG.out.mono ?_
  rintro e w4 ⟨q3, q4, q5, a4, c4, a5, c5, rfl, g1, g2, g3, gb, gg, _, _, _, _, _, k4⟩
  obtain ⟨js, hjs, hsq⟩ := groupAll q3 q4 q5 false 27 #[.pointer (some ⟨qa, 0, none⟩)] R0 _ a4 c4 bs a5 c5 gs w4 heVal (fun n hn => (src.out.1 n hn).move (KeepB.ofKp k4 (by simp))) (fun j hj => Nat.lt_of_lt_of_le (src.out.2 j hj) k4.size) (by have := hR0l.out.1; omega) (fun l h => by have := hR0l.out.2 l h; omega) g1 g2 g3 gb gg (by omega)
  have K4 := hid (K3.out.trans k4 (by simp))
  have K14 := hid (K13.out.trans k4 (by simp))
  have HQ := hid (And.intro hjs hsq)
  have cR0 := rGroup a0 c0 L0 a1 c1 bs a2 c2 gs w4 (HS.out w4 K4.out).1 (HS.out w4 K4.out).2 (HB.out w4 K4.out).1 (HB.out w4 K4.out).2 hl hr'.out hbl hgl
  rw [hR0.out] at cR0
  have cR := hid cR0
  clear cG g1 g2 g3 gb gg k4 src hjs hsq cR0
  go_wp2_with fail
  refine cR.out.mono ?_
  rintro e w5 ⟨ma, mc, M, rfl, hlM, hM, k5⟩
  have K5 := hid (K4.out.trans k5 (by simp))
  have K15 := hid (K14.out.trans k5 (by simp))
  obtain ⟨a', c', e', hms, _⟩ := hlM.row.see
  cases e'
  have cT := hid (cTwice 5 (by omega) 30 _ (refG bs gs R0) js ma mc M w5 heGrp (fun n hn => (HQ.out.2 (n - 1) (by omega)).move (KeepB.ofKp k5 (by simp))) (fun j hj => Nat.lt_of_lt_of_le (HQ.out.1 j hj) k5.size) (by have := refG_len bs gs R0; have := hR0l.out.1; omega) (fun l h => by have := refG_row bs gs R0 l h; omega) hms hlM.lies hM)
  clear cR hlM k5 hms HQ hM
  go_wp2_with fail
  refine cT.out.mono ?_
  rintro e w6 ⟨rfl, k6⟩
  have K6 := hid (K5.out.trans k6 (by simp))
  have K16 := hid (K15.out.trans k6 (by simp))
  have cE := hid (cSameAll ra a0 rc c0 L L0 w6 (by obtain ⟨_, _, e3, h, _⟩ := (HL.out w6 K16.out).row.see; rw [(Value.slice.inj e3).1]; exact h) (HS.out w6 K6.out).1 (HL.out w6 K16.out).lies (HS.out w6 K6.out).2 (by rw [hL'.out, hR0.out]) (by omega))
  clear cT k6
  go_wp2_with fail
  refine cE.out.mono ?_
  rintro e w7 ⟨rfl, k7⟩
  have K7 := hid (K6.out.trans k7 (by simp))
  clear cE k7
  go_wp2_with fail
  go_ret
  exact ⟨rfl, K7.out.below⟩
end Go.Proofs.Ytohkjikhlakglaa
end

section
namespace Go.Proofs.Ytohkjikhlakglaa
open Go.RowKit Go.Hay
set_option linter.unusedVariables false
set_option linter.unusedSimpArgs false

def ksC (bs : List Int) (R : List (List Val)) : List (List Val) := if bs = [] then [[]] else keysV bs R
def cntC (bs : List Int) (R : List (List Val)) (k : List Val) : Nat := (R.filter fun l => rowsV (pickV l bs) k == 0).length
theorem refG_counts (bs : List Int) (R : List (List Val)) : refG bs [(0, 0)] R = (ksC bs R).map fun k => k ++ [⟨2, false, (cntC bs R k : Int), ⟨#[]⟩⟩] := rfl
theorem ksC_len (bs : List Int) (R : List (List Val)) : ∀ k ∈ ksC bs R, k.length = bs.length := fun k hk => by
  unfold ksC at hk
  split at hk
  · rename_i h; simp at hk; rw [hk, h]; rfl
  · obtain ⟨x, _, e⟩ := (keysV_ok bs R).first _ hk
    rw [← e]
    unfold pickV
    simp
theorem ksC_up (bs : List Int) (R : List (List Val)) : Up (ksC bs R) := by
  unfold ksC
  split
  · simp [Up]
  · exact (keysV_ok bs R).up
theorem cnt_sum (bs : List Int) (R : List (List Val)) : ((ksC bs R).map (cntC bs R)).sum = R.length := by
  unfold ksC
  split
  · rename_i h
    simp only [List.map_cons, List.map_nil, List.sum_cons, List.sum_nil, Nat.add_zero]
    unfold cntC
    rw [List.filter_eq_self.2 fun l hl => by rw [h]; simp [pickV, rowsV]]
  · have h1 := srtM_len bs R
    rw [srtM_eq, List.length_map, List.length_flatten] at h1
    rw [← h1]
    unfold grpL
    rw [List.map_map]
    congr 1
    refine List.map_congr_left fun k _ => ?_
    show cntC bs R k = (grpI bs R k).length
    unfold cntC
    rw [← grpI_rows, List.length_map]
theorem sum_take (f : List Val → Nat) (l : List (List Val)) (i : Nat) (h : i < l.length) : ((l.take (i + 1)).map f).sum = ((l.take i).map f).sum + f l[i] := by
  rw [List.take_succ_eq_append_getElem h, List.map_append, List.sum_append]
  simp
theorem sum_take_le (f : List Val → Nat) (l : List (List Val)) (i : Nat) : ((l.take i).map f).sum ≤ (l.map f).sum := by
  conv => rhs; rw [← List.take_append_drop i l, List.map_append, List.sum_append]
  omega
theorem ksC_one (R : List (List Val)) : (ksC [] R).length = 1 := rfl
/-- The beginning of a row. -/
theorem sliceToV (a : Option Addr) (n c k : Nat) (w : World) (hk : k ≤ c) : (Instr.slice 24 (.slice a n c) none (some (.int .i64 (k : Int))) none).run Try.prog w = .ok (.slice a k c) w := by
  obtain ⟨i0, hi, hz0, hz1, hz2⟩ := infoVal
  have hsz := run_sizeOf (P := Try.prog) (w := w) hi
  have h1 : (0 : Int) ≤ (k : Int) := by omega
  have h2 : (k : Int) ≤ (c : Int) := by omega
  have e0 := addrMap0 a
  simp [Instr.slice, Instr.sliceBounds, Instr.sliceBound, run_underlying Try.underlying24, h1, h2, hk, asIntOf, e0]
end Go.Proofs.Ytohkjikhlakglaa
end

section
namespace Go.Proofs.Ytohkjikhlakglaa
open Go.RowKit Go.Hay
attribute [local go_sem] Oper.semAt_some
set_option linter.unusedVariables false
set_option linter.unusedSimpArgs false

set_option maxHeartbeats 32000000 in
set_option maxRecDepth 100000 in
theorem countsWalk (a0 : Option Addr) (c0 : Nat) (L0 : List Vs) (a1 : Option Addr) (c1 : Nat) (bs : List Int) (w : World) (hs : VsE.See w a0 L0) (hx : ∀ x ∈ L0, x.lies w) (hl : L0.length ≤ 1048576) (hr : ∀ x ∈ L0, x.l.length ≤ 1048576) (hb : IntE.See w a1 bs) (hbn : a1 = none → c1 = 0) (hbl : bs.length ≤ 1048576) :
    Calls Try.prog 6 #[.slice a0 L0.length c0, .slice a1 bs.length c1] w fun e w' => e = .returned (.bool true) ∧ Below w.heap.size w w' := by
  have HB : Hid (∀ W, Kp [] w W → IntE.See W a1 bs) := hid fun W k => hb.keptNew k
  obtain ⟨R0, hR0⟩ : ∃ R, Hid (L0.map (·.l) = R) := ⟨_, hid rfl⟩
  have hR0l : Hid (R0.length = L0.length ∧ ∀ l ∈ R0, l.length ≤ 1048576) := hid ⟨by rw [← hR0.out]; simp, fun l hm => by rw [← hR0.out] at hm; obtain ⟨x, hx', rfl⟩ := List.mem_map.1 hm; exact hr x hx'⟩
  have cC := hid (cCopied a0 c0 L0 w hs hx (by omega) (fun x h => by have := hr x h; omega))
  rw [hR0.out] at cC
  have HN := hid hbn
  clear hs hx hr hb hbn
  go_enter Try.func6, Try.ntmps6
  go_wp2_with fail
  refine cC.out.mono ?_
  rintro e w1 ⟨ra, rc, L, rfl, hlot, hL, k1⟩
  have hLn : L.length ≤ 1048576 := by have h1 := congrArg List.length hL; have h2 := hR0l.out.1; rw [List.length_map] at h1; omega
  have K1 := hid k1
  have cV := hid (cValuesE ra L.length rc w1)
  have src := hid (hlot.src (by omega) 22)
  rw [hL] at src
  clear cC hlot hL k1
  go_wp2_with fail
  refine cV.out.mono ?_
  rintro e w2 ⟨rfl, hw2⟩
  have k2 : Kp [] w1 w2 := by rw [hw2]; exact (Kp.refl _ _).alloc _
  rw [← hw2] at src
  obtain ⟨qa, hqa⟩ : ∃ q, Hid (w1.heap.size = q) := ⟨_, hid rfl⟩
  rw [hqa.out] at src ⊢
  have K2 := hid (K1.out.trans k2 (by simp))
  obtain ⟨w3, hw3, k3, b3⟩ : ∃ x, w2.alloc (.cells #[.int .i64 0, .int .i64 0] 51) = x ∧ Kp [] w2 x ∧ Bn x w2.heap.size [.int .i64 0, .int .i64 0] := ⟨_, rfl, (Kp.refl _ _).alloc _, Bn.new w2 _ _⟩
  obtain ⟨qg, hqg⟩ : ∃ q, w2.heap.size = q := ⟨_, rfl⟩
  rw [hqg] at b3
  have hgs : Hid (AgE.See w3 (some ⟨qg, 0, none⟩) [(0, 0)]) := hid (.inr ⟨qg, 0, rfl, fun j u hu => by rw [Nat.zero_add]; exact b3.get j u (by simpa [El.cs, AgE] using hu)⟩)
  have K3 := hid (K2.out.trans k3 (by simp))
  have K23 := hid k3
  have cG := hid (cGroupE 27 #[.pointer (some ⟨qa, 0, none⟩)] a1 c1 bs (some ⟨qg, 0, none⟩) 1 [(0, 0)] w3 (HB.out w3 K3.out) HN.out (by omega) hgs.out (by simp) (by simp))
  clear cV hw2 k2 k3 b3
  go_wp2_with fail
  refine cG.out.mono ?_
  rintro e w4 ⟨q3, q4, q5, a4, c4, a5, c5, rfl, g1, g2, g3, gb, gg, _, _, _, _, _, k4⟩
  obtain ⟨js, hjs, hsq⟩ := groupAll q3 q4 q5 false 27 #[.pointer (some ⟨qa, 0, none⟩)] R0 _ a4 c4 bs a5 c5 [(0, 0)] w4 heVal (fun n hn => (src.out.1 n hn).move (KeepB.ofKp (K23.out.trans k4 (by simp)) (by simp))) (fun j hj => Nat.lt_of_lt_of_le (src.out.2 j hj) (K23.out.trans k4 (by simp)).size) (by have := hR0l.out.1; omega) (fun l h => by have := hR0l.out.2 l h; omega) g1 g2 g3 gb gg (by simp; omega)
  have K4 := hid (K3.out.trans k4 (by simp))
  obtain ⟨RG, hRG⟩ : ∃ R, Hid (refG bs [(0, 0)] R0 = R) := ⟨_, hid rfl⟩
  have hRGn := hid (refG_len bs [(0, 0)] R0)
  have hRGr := hid (refG_row bs [(0, 0)] R0)
  rw [hRG.out] at hsq hRGn hRGr
  have cA := hid (cAllR 5 (by omega) 30 _ RG js w4 heGrp (hsq 4 (by omega)) hjs (by have := hRGn.out; have := hR0l.out.1; omega) (fun l h => by have := hRGr.out l h; simp at this; omega))
  clear cG g1 g2 g3 gb gg k4 src hjs hsq
  go_wp2_with fail
  refine ((callsIn_wide (n := 5)).1 cA.out).mono ?_
  rintro e w5 ⟨ga, gc, G, rfl, hlG, hGR, k5⟩
  have K5 := hid (K4.out.trans k5 (by simp))
  have HG := hid hlG
  obtain ⟨KS, hKS⟩ : ∃ K, Hid (ksC bs R0 = K) := ⟨_, hid rfl⟩
  obtain ⟨cn, hcn⟩ : ∃ f, Hid (cntC bs R0 = f) := ⟨_, hid rfl⟩
  have hGe : Hid (G.map (·.l) = KS.map fun k => k ++ [⟨2, false, (cn k : Int), ⟨#[]⟩⟩]) := hid (by rw [hGR, ← hRG.out, refG_counts, hKS.out, hcn.out])
  have hKl := hid (ksC_len bs R0)
  have hKu := hid (ksC_up bs R0)
  have hsum := hid (cnt_sum bs R0)
  rw [hKS.out] at hKl hKu hsum
  rw [hcn.out, hR0l.out.1] at hsum
  have hGK : Hid (G.length = KS.length) := hid (by have := congrArg List.length hGe.out; simpa using this)
  have hGn : G.length ≤ 1048577 := by have h1 := congrArg List.length hGR; have := hRGn.out; have := hR0l.out.1; rw [List.length_map] at h1; omega
  obtain ⟨_, _, e3, hsee0, _⟩ := hlG.row.see
  rw [← (Value.slice.inj e3).1] at hsee0
  have hsee := hid hsee0
  obtain ⟨b, hbe⟩ : ∃ b : Nat, Hid (bs.length = b) := ⟨_, hid rfl⟩
  have hbb : b ≤ 1048576 := by rw [← hbe.out]; exact hbl
  have hK1 : Hid (b = 0 → KS.length = 1) := hid (fun h => by
    have h2 : bs = [] := List.length_eq_zero_iff.1 (by rw [hbe.out]; exact h)
    rw [← hKS.out, h2]
    rfl)
  rw [hbe.out]
  clear cA hlG hGR k5 e3 hsee0
  have hrowAt : Hid (∀ (i : Nat) (hi : i < G.length), ∃ (g o : Nat) (x : Vs) (k : List Val), ga = some ⟨g, o, none⟩ ∧ KS[i]? = some k ∧ k.length = b ∧ x.l = k ++ [⟨2, false, (cn k : Int), ⟨#[]⟩⟩] ∧ x.l.length = b + 1 ∧ x.lies w5 ∧ w5.cell? ⟨g, o + i, none⟩ = some (.slice x.a (b + 1) x.c)) := hid (fun i hi => by
    obtain ⟨g, o, ea, c0⟩ := vsAt hsee.out (k := i) (x := G[i]) (by simp [hi])
    have hKi : i < KS.length := by rw [← hGK.out]; exact hi
    have h1 := congrArg (fun l => l[i]?) hGe.out
    simp only [List.getElem?_map, List.getElem?_eq_getElem hi, List.getElem?_eq_getElem hKi, Option.map_some] at h1
    have h2 := Option.some.inj h1
    have h3 := hKl.out KS[i] (List.getElem_mem hKi)
    rw [hbe.out] at h3
    have h4 : G[i].l.length = b + 1 := by rw [h2, List.length_append, h3]; rfl
    rw [h4] at c0
    exact ⟨g, o, G[i], KS[i], ea, by simp [hKi], h3, h2, h4, HG.out.lies _ (List.getElem_mem hi), c0⟩)
  go_wp2_with fail
  go_loopw [6, 18] (fun v6 v18 wr => ∃ i : Nat, i ≤ G.length ∧ v18 = .int .i64 (i : Int) ∧ v6 = .int .i64 ((((KS.take i).map cn).sum : Nat) : Int) ∧ Hid (Kp [] w5 wr)) (fun _ v18 _ => G.length - (intOf v18).toNat)
  case atStart => exact ⟨0, Nat.zero_le _, rfl, rfl, hid (Kp.refl _ _)⟩
  case round =>
    obtain ⟨i, hi, rfl, rfl, KW⟩ := hrel
    by_cases hlt : i < G.length
    · obtain ⟨g, o, x, kx, ea, hkx, hkl, hxl, hxn, hxli, c0⟩ := hrowAt.out i hlt
      have hKi : i < KS.length := by have := hGK.out; omega
      have hsk : Hid (((KS.take (i + 1)).map cn).sum = ((KS.take i).map cn).sum + cn kx) := hid (by
        rw [sum_take cn KS i hKi]
        rw [List.getElem?_eq_getElem hKi] at hkx
        rw [Option.some.inj hkx])
      have hsle := sum_take_le cn KS (i + 1)
      rw [hsum.out, hsk.out] at hsle
      obtain ⟨si, hsi⟩ : ∃ s : Nat, Hid (((KS.take i).map cn).sum = s) := ⟨_, hid rfl⟩
      obtain ⟨ck, hck⟩ : ∃ s : Nat, Hid (cn kx = s) := ⟨_, hid rfl⟩
      rw [hsi.out, hck.out] at hsk hsle
      rw [hck.out] at hxl
      rw [hsi.out]
      obtain ⟨xa, xc, xl⟩ := x
      dsimp only at hxl hxn c0
      have hxcap := hxli.cap
      dsimp only at hxcap
      have hXli := hid hxli
      obtain ⟨g2, o2, eb, d0, d1, d2, d3⟩ := hxli.see.at b (by show b < xl.length; omega)
      have hlast : xl[b]'(by omega) = ⟨2, false, (ck : Int), ⟨#[]⟩⟩ := by
        have h1 : xl[b]? = some ⟨2, false, (ck : Int), ⟨#[]⟩⟩ := by rw [hxl, List.getElem?_append_right (by omega), hkl, Nat.sub_self]; rfl
        rw [List.getElem?_eq_getElem (by omega)] at h1
        exact Option.some.inj h1
      have hl2 : (⟨xa, xc, xl⟩ : Vs).l[b]'(by show b < xl.length; omega) = ⟨2, false, (ck : Int), ⟨#[]⟩⟩ := hlast
      rw [hl2] at d0 d2
      dsimp only at eb d0 d2
      have cg := kpAt KW.out c0
      have z0 := kpAt KW.out d0
      have z2 := kpAt KW.out d2
      have HCG : Hid (∀ W', Kp [] w5 W' → W'.cell? ⟨g, o + i, none⟩ = some (.slice xa (b + 1) xc)) := hid (fun W' q => kpAt q c0)
      have HXL := hid (And.intro hkx (And.intro hkl (And.intro hxl hxn)))
      have i1 : (0 : Int) ≤ (i : Int) := by omega
      have i2 : (i : Int) < (G.length : Int) := by omega
      have i3 : (i : Int) + 1 ≤ 9223372036854775807 := by omega
      have j1 : (0 : Int) ≤ (b : Int) := by omega
      have j2 : (b : Int) < ((b : Int) + 1) := by omega
      have j3 : (b : Int) + 1 ≤ 9223372036854775807 := by omega
      have s1 : (si : Int) + (ck : Int) ≤ 9223372036854775807 := by omega
      have s2 : (-9223372036854775808 : Int) ≤ (si : Int) + (ck : Int) := by omega
      have hSk : Hid ((((KS.take (i + 1)).map cn).sum : Nat) = si + ck) := hsk
      have EA := hid ea
      have EB := hid eb
      clear hkx hkl hxl hxn hxli c0 d0 d1 d2 d3 hlast hl2 hsle
      subst eb
      subst ea
      go_wp2_with fail
      clear cg z0 z2
      by_cases hi0 : i = 0
      · have dg : decide ((0 : Int) < (i : Int)) = false := by simp; omega
        have dgN : decide (0 < i) = false := by simp; omega
        have HI0 := hid hi0
        clear hi0
        refine wp_noPanicY ?_
        refine wp_region_held_drew (S := fun A => True) (by kernel_rfl) trivial (fun hHeld => ?_)
        have KD : Hid (Kp [] w5 wr.drew) := hid KW.out.drew
        generalize wr.drew = wd at *
        refine wpAnyH_take (i := 0) (v := ?_) rfl (by kernel_rfl) (by kernel_rfl) (by kernel_rfl) (fun _ _ _ h => by cases h.1) (Or.inl ⟨by rfl, ?_⟩) (by assumption) ?_
        rotate_left
        · intro w hSw; (try dsimp only at hSw); go_simp <;> with_reducible rfl
        try simp only [Act.put, List.getElem_toArray, List.getElem_cons_zero, List.getElem_cons_succ, List.setIfInBounds_toArray, List.set_cons_zero, List.set_cons_succ]
        refine wpAnyH_take (i := 1) (v := ?_) rfl (by kernel_rfl) (by kernel_rfl) (by kernel_rfl) (fun _ _ _ h => by cases h.1) (Or.inl ⟨by rfl, ?_⟩) (by assumption) ?_
        rotate_left
        · intro w hSw; (try dsimp only at hSw); go_simp <;> (try simp only [dg, dgN]) <;> with_reducible rfl
        try simp only [Act.put, List.getElem_toArray, List.getElem_cons_zero, List.getElem_cons_succ, List.setIfInBounds_toArray, List.set_cons_zero, List.set_cons_succ]
        try simp only [dg, dgN]
        refine wpAnyH_take (i := 2) (v := ?_) rfl (by kernel_rfl) (by kernel_rfl) (by kernel_rfl) (fun _ _ _ h => by cases h.1) (Or.inl ⟨by rfl, ?_⟩) (by assumption) ?_
        rotate_left
        · intro w hSw; (try dsimp only at hSw); go_simp <;> with_reducible rfl
        try simp only [Act.put, List.getElem_toArray, List.getElem_cons_zero, List.getElem_cons_succ, List.setIfInBounds_toArray, List.set_cons_zero, List.set_cons_succ]
        refine wpAnyH_take (i := 3) (v := undef) rfl (by kernel_rfl) (by kernel_rfl) (by kernel_rfl) (fun _ _ _ h => by cases h.1) (Or.inr ⟨by rfl, rfl⟩) (by assumption) ?_
        try simp only [Act.put, List.getElem_toArray, List.getElem_cons_zero, List.getElem_cons_succ, List.setIfInBounds_toArray, List.set_cons_zero, List.set_cons_succ]
        refine wpAnyH_take (i := 4) (v := undef) rfl (by kernel_rfl) (by kernel_rfl) (by kernel_rfl) (fun _ _ _ h => by cases h.1) (Or.inr ⟨by rfl, rfl⟩) (by assumption) ?_
        try simp only [Act.put, List.getElem_toArray, List.getElem_cons_zero, List.getElem_cons_succ, List.setIfInBounds_toArray, List.set_cons_zero, List.set_cons_succ]
        refine wpAnyH_take (i := 5) (v := undef) rfl (by kernel_rfl) (by kernel_rfl) (by kernel_rfl) (fun _ _ _ h => by cases h.1) (Or.inr ⟨by rfl, rfl⟩) (by assumption) ?_
        try simp only [Act.put, List.getElem_toArray, List.getElem_cons_zero, List.getElem_cons_succ, List.setIfInBounds_toArray, List.set_cons_zero, List.set_cons_succ]
        refine wpAnyH_take (i := 6) (v := undef) rfl (by kernel_rfl) (by kernel_rfl) (by kernel_rfl) (fun _ _ _ h => by cases h.1) (Or.inr ⟨by rfl, rfl⟩) (by assumption) ?_
        try simp only [Act.put, List.getElem_toArray, List.getElem_cons_zero, List.getElem_cons_succ, List.setIfInBounds_toArray, List.set_cons_zero, List.set_cons_succ]
        refine wpAnyH_take (i := 7) (v := undef) rfl (by kernel_rfl) (by kernel_rfl) (by kernel_rfl) (fun _ _ _ h => by cases h.1) (Or.inr ⟨by rfl, rfl⟩) (by assumption) ?_
        try simp only [Act.put, List.getElem_toArray, List.getElem_cons_zero, List.getElem_cons_succ, List.setIfInBounds_toArray, List.set_cons_zero, List.set_cons_succ]
        refine wpAnyH_take (i := 8) (v := undef) rfl (by kernel_rfl) (by kernel_rfl) (by kernel_rfl) (fun _ _ _ h => by cases h.1) (Or.inr ⟨by rfl, rfl⟩) (by assumption) ?_
        try simp only [Act.put, List.getElem_toArray, List.getElem_cons_zero, List.getElem_cons_succ, List.setIfInBounds_toArray, List.set_cons_zero, List.set_cons_succ]
        refine wpAnyH_take (i := 9) (v := undef) rfl (by kernel_rfl) (by kernel_rfl) (by kernel_rfl) (fun _ _ _ h => by cases h.1) (Or.inr ⟨by rfl, rfl⟩) (by assumption) ?_
        try simp only [Act.put, List.getElem_toArray, List.getElem_cons_zero, List.getElem_cons_succ, List.setIfInBounds_toArray, List.set_cons_zero, List.set_cons_succ]
        refine wpAnyH_take (i := 10) (v := undef) rfl (by kernel_rfl) (by kernel_rfl) (by kernel_rfl) (fun _ _ _ h => by cases h.1) (Or.inr ⟨by rfl, rfl⟩) (by assumption) ?_
        try simp only [Act.put, List.getElem_toArray, List.getElem_cons_zero, List.getElem_cons_succ, List.setIfInBounds_toArray, List.set_cons_zero, List.set_cons_succ]
        refine wpAnyH_take (i := 11) (v := undef) rfl (by kernel_rfl) (by kernel_rfl) (by kernel_rfl) (fun _ _ _ h => by cases h.1) (Or.inr ⟨by rfl, rfl⟩) (by assumption) ?_
        try simp only [Act.put, List.getElem_toArray, List.getElem_cons_zero, List.getElem_cons_succ, List.setIfInBounds_toArray, List.set_cons_zero, List.set_cons_succ]
        refine wpAnyH_take (i := 12) (v := undef) rfl (by kernel_rfl) (by kernel_rfl) (by kernel_rfl) (fun _ _ _ h => by cases h.1) (Or.inr ⟨by rfl, rfl⟩) (by assumption) ?_
        try simp only [Act.put, List.getElem_toArray, List.getElem_cons_zero, List.getElem_cons_succ, List.setIfInBounds_toArray, List.set_cons_zero, List.set_cons_succ]
        refine wpAnyH_take (i := 13) (v := undef) rfl (by kernel_rfl) (by kernel_rfl) (by kernel_rfl) (fun _ _ _ h => by cases h.1) (Or.inr ⟨by rfl, rfl⟩) (by assumption) ?_
        try simp only [Act.put, List.getElem_toArray, List.getElem_cons_zero, List.getElem_cons_succ, List.setIfInBounds_toArray, List.set_cons_zero, List.set_cons_succ]
        refine wpAnyH_take (i := 14) (v := undef) rfl (by kernel_rfl) (by kernel_rfl) (by kernel_rfl) (fun _ _ _ h => by cases h.1) (Or.inr ⟨by rfl, rfl⟩) (by assumption) ?_
        try simp only [Act.put, List.getElem_toArray, List.getElem_cons_zero, List.getElem_cons_succ, List.setIfInBounds_toArray, List.set_cons_zero, List.set_cons_succ]
        refine wpAnyH_take (i := 15) (v := undef) rfl (by kernel_rfl) (by kernel_rfl) (by kernel_rfl) (fun _ _ _ h => by cases h.1) (Or.inr ⟨by rfl, rfl⟩) (by assumption) ?_
        try simp only [Act.put, List.getElem_toArray, List.getElem_cons_zero, List.getElem_cons_succ, List.setIfInBounds_toArray, List.set_cons_zero, List.set_cons_succ]
        refine wpAnyH_take (i := 16) (v := undef) rfl (by kernel_rfl) (by kernel_rfl) (by kernel_rfl) (fun _ _ _ h => by cases h.1) (Or.inr ⟨by rfl, rfl⟩) (by assumption) ?_
        try simp only [Act.put, List.getElem_toArray, List.getElem_cons_zero, List.getElem_cons_succ, List.setIfInBounds_toArray, List.set_cons_zero, List.set_cons_succ]
        refine wpAnyH_take (i := 17) (v := undef) rfl (by kernel_rfl) (by kernel_rfl) (by kernel_rfl) (fun _ _ _ h => by cases h.1) (Or.inr ⟨by rfl, rfl⟩) (by assumption) ?_
        try simp only [Act.put, List.getElem_toArray, List.getElem_cons_zero, List.getElem_cons_succ, List.setIfInBounds_toArray, List.set_cons_zero, List.set_cons_succ]
        refine wpAnyH_take (i := 18) (v := undef) rfl (by kernel_rfl) (by kernel_rfl) (by kernel_rfl) (fun _ _ _ h => by cases h.1) (Or.inr ⟨by rfl, rfl⟩) (by assumption) ?_
        try simp only [Act.put, List.getElem_toArray, List.getElem_cons_zero, List.getElem_cons_succ, List.setIfInBounds_toArray, List.set_cons_zero, List.set_cons_succ]
        refine wpAnyH_take (i := 19) (v := undef) rfl (by kernel_rfl) (by kernel_rfl) (by kernel_rfl) (fun _ _ _ h => by cases h.1) (Or.inr ⟨by rfl, rfl⟩) (by assumption) ?_
        try simp only [Act.put, List.getElem_toArray, List.getElem_cons_zero, List.getElem_cons_succ, List.setIfInBounds_toArray, List.set_cons_zero, List.set_cons_succ]
        refine wpAnyH_take (i := 20) (v := ?_) rfl (by kernel_rfl) (by kernel_rfl) (by kernel_rfl) (fun _ _ _ h => by cases h.1) (Or.inl ⟨by rfl, ?_⟩) (by assumption) ?_
        rotate_left
        · intro w hSw; (try dsimp only at hSw); go_simp <;> with_reducible rfl
        try simp only [Act.put, List.getElem_toArray, List.getElem_cons_zero, List.getElem_cons_succ, List.setIfInBounds_toArray, List.set_cons_zero, List.set_cons_succ]
        refine wpAnyH_done (by kernel_rfl) ⟨rfl, ?_⟩ _
        clear hHeld
        go_wp2_with fail
        go_roundw
        case rel => exact ⟨i + 1, by omega, by go_num, by rw [hSk.out]; simp, KD⟩
        case measure => simp [intOf] <;> omega
      · obtain ⟨h, hh⟩ : ∃ h, i = h + 1 := ⟨i - 1, by omega⟩
        obtain ⟨g', o', y, ky, ea', hky, hkyl, hyl, hyn, hyli, y0⟩ := hrowAt.out h (by omega)
        cases ea'
        obtain ⟨ya, yc, yl⟩ := y
        dsimp only at hyl hyn y0
        have hycap := hyli.cap
        dsimp only at hycap
        have dg : decide ((0 : Int) < (i : Int)) = true := by simp; omega
        have dgN : decide (0 < i) = true := by simp; omega
        have eh : (i : Int) - 1 = (h : Int) := by omega
        have wh : IntKind.i64.wrap ((i : Int) - 1) = (h : Int) := by rw [eh, IntKind.wrap_i64]; omega
        have wh2 : IntKind.i64.wrap (h : Int) = (h : Int) := by rw [IntKind.wrap_i64]; omega
        have h1 : (0 : Int) ≤ (h : Int) := by omega
        have h2 : (h : Int) < (G.length : Int) := by omega
        have x0 := (hrowAt.out i hlt)
        have hS : Hid (∀ W', Kp [] w5 W' → W'.cell? ⟨g, o + i, none⟩ = some (.slice (some ⟨g2, o2, none⟩) (b + 1) xc) ∧ W'.cell? ⟨g, o + h, none⟩ = some (.slice ya (b + 1) yc)) := hid (fun W' q => ⟨HCG.out W' q, kpAt q y0⟩)
        have hsl1 : Hid (∀ W', (Instr.slice 24 (.slice ya (b + 1) yc) none (some (.int .i64 (b : Int))) none).run Try.prog W' = .ok (.slice ya b yc) W') := hid (fun W' => sliceToV ya (b + 1) yc b W' (by omega))
        have hsl2 : Hid (∀ W', (Instr.slice 24 (.slice (some ⟨g2, o2, none⟩) (b + 1) xc) none (some (.int .i64 (b : Int))) none).run Try.prog W' = .ok (.slice (some ⟨g2, o2, none⟩) b xc) W') := hid (fun W' => sliceToV (some ⟨g2, o2, none⟩) (b + 1) xc b W' (by have := HXL.out.2.2.2; omega))
        have hlt2 : Hid (rowsV ky kx < 0) := hid (by
          have q1 := HXL.out.1
          have hKi2 : i < KS.length := by rw [← hGK.out]; exact hlt
          have hKh : h < KS.length := by omega
          rw [List.getElem?_eq_getElem hKi2] at q1
          rw [List.getElem?_eq_getElem hKh] at hky
          rw [← Option.some.inj q1, ← Option.some.inj hky]
          exact List.pairwise_iff_getElem.1 hKu.out h i hKh hKi2 (by omega))
        have cR : Hid (∀ W', Kp [] w5 W' → Calls Try.prog 22 #[.slice ya b yc, .slice (some ⟨g2, o2, none⟩) b xc] W' fun e w' => e = .returned (.int .i64 (rowsV ky kx)) ∧ Kp [] W' w') := hid (fun W' q => by
          have t1 : yl.take b = ky := by rw [hyl, List.take_left' hkyl]
          have t2 : xl.take b = kx := by rw [HXL.out.2.2.1, List.take_left' HXL.out.2.1]
          have v1 : Vals W' ya (yl.take b) := seeV.1 ((seeV.2 ((hyli.see).kept q)).front b)
          have v2 : Vals W' (some ⟨g2, o2, none⟩) (xl.take b) := seeV.1 ((seeV.2 ((hXli.out.see).kept q)).front b)
          have hc := cRefRows ya (some ⟨g2, o2, none⟩) yc xc (yl.take b) (xl.take b) W' v1 v2 (by rw [t1, hkyl]; omega) (by rw [t2, HXL.out.2.1]; omega)
          rw [t1, t2, hkyl, HXL.out.2.1] at hc
          exact hc)
        obtain ⟨C, hC⟩ : ∃ C, Hid (rowsV ky kx = C) := ⟨_, hid rfl⟩
        simp only [hC.out] at cR
        rw [hC.out] at hlt2
        have hC1 := hlt2.out
        have hC2 : decide ((0 : Int) ≤ C) = false := by simp; omega
        have HH := hid hh
        clear hh hi0 y0 hky hkyl hyl hyn hyli hycap x0 eh
        refine wp_noPanicY ?_
        refine wp_region_held_drew (S := fun W' => W'.cell? ⟨g, o + i, none⟩ = some (.slice (some ⟨g2, o2, none⟩) (b + 1) xc) ∧ W'.cell? ⟨g, o + h, none⟩ = some (.slice ya (b + 1) yc)) (by kernel_rfl) (hS.out _ KW.out.drew) (fun hHeld => ?_)
        have KD : Hid (Kp [] w5 wr.drew) := hid KW.out.drew
        generalize wr.drew = wd at *
        have hq1 := hsl1.out
        have hq2 := hsl2.out
        refine wpAnyH_take (i := 0) (v := ?_) rfl (by kernel_rfl) (by kernel_rfl) (by kernel_rfl) (fun _ _ _ h => by cases h.1) (Or.inl ⟨by rfl, ?_⟩) (by assumption) ?_
        rotate_left
        · intro w hSw; (try dsimp only at hSw); go_simp <;> with_reducible rfl
        try simp only [Act.put, List.getElem_toArray, List.getElem_cons_zero, List.getElem_cons_succ, List.setIfInBounds_toArray, List.set_cons_zero, List.set_cons_succ]
        refine wpAnyH_take (i := 1) (v := ?_) rfl (by kernel_rfl) (by kernel_rfl) (by kernel_rfl) (fun _ _ _ h => by cases h.1) (Or.inl ⟨by rfl, ?_⟩) (by assumption) ?_
        rotate_left
        · intro w hSw; (try dsimp only at hSw); go_simp <;> (try simp only [dg, dgN]) <;> with_reducible rfl
        try simp only [Act.put, List.getElem_toArray, List.getElem_cons_zero, List.getElem_cons_succ, List.setIfInBounds_toArray, List.set_cons_zero, List.set_cons_succ]
        try simp only [dg, dgN]
        refine wpAnyH_take (i := 2) (v := ?_) rfl (by kernel_rfl) (by kernel_rfl) (by kernel_rfl) (fun _ _ _ h => by cases h.1) (Or.inl ⟨by rfl, ?_⟩) (by assumption) ?_
        rotate_left
        · intro w hSw; (try dsimp only at hSw); go_simp <;> with_reducible rfl
        try simp only [Act.put, List.getElem_toArray, List.getElem_cons_zero, List.getElem_cons_succ, List.setIfInBounds_toArray, List.set_cons_zero, List.set_cons_succ]
        refine wpAnyH_take (i := 3) (v := ?_) rfl (by kernel_rfl) (by kernel_rfl) (by kernel_rfl) (fun _ _ _ h => by cases h.1) (Or.inl ⟨by rfl, ?_⟩) (by assumption) ?_
        rotate_left
        · intro w hSw; (try dsimp only at hSw); go_simp <;> with_reducible rfl
        try simp only [Act.put, List.getElem_toArray, List.getElem_cons_zero, List.getElem_cons_succ, List.setIfInBounds_toArray, List.set_cons_zero, List.set_cons_succ]
        refine wpAnyH_take (i := 4) (v := ?_) rfl (by kernel_rfl) (by kernel_rfl) (by kernel_rfl) (fun _ _ _ h => by cases h.1) (Or.inl ⟨by rfl, ?_⟩) (by assumption) ?_
        rotate_left
        · intro w hSw; (try dsimp only at hSw); go_simp <;> with_reducible rfl
        try simp only [Act.put, List.getElem_toArray, List.getElem_cons_zero, List.getElem_cons_succ, List.setIfInBounds_toArray, List.set_cons_zero, List.set_cons_succ]
        refine wpAnyH_take (i := 5) (v := ?_) rfl (by kernel_rfl) (by kernel_rfl) (by kernel_rfl) (fun _ _ _ h => by cases h.1) (Or.inl ⟨by rfl, ?_⟩) (by assumption) ?_
        rotate_left
        · intro w hSw; (try dsimp only at hSw); go_simp <;> (try simp only [wh, wh2]) <;> with_reducible rfl
        try simp only [Act.put, List.getElem_toArray, List.getElem_cons_zero, List.getElem_cons_succ, List.setIfInBounds_toArray, List.set_cons_zero, List.set_cons_succ]
        try simp only [wh, wh2]
        refine wpAnyH_take (i := 6) (v := ?_) rfl (by kernel_rfl) (by kernel_rfl) (by kernel_rfl) (fun _ _ _ h => by cases h.1) (Or.inl ⟨by rfl, ?_⟩) (by assumption) ?_
        rotate_left
        · intro w hSw; (try dsimp only at hSw); go_simp <;> with_reducible rfl
        try simp only [Act.put, List.getElem_toArray, List.getElem_cons_zero, List.getElem_cons_succ, List.setIfInBounds_toArray, List.set_cons_zero, List.set_cons_succ]
        refine wpAnyH_take (i := 7) (v := ?_) rfl (by kernel_rfl) (by kernel_rfl) (by kernel_rfl) (fun _ _ _ h => by cases h.1) (Or.inl ⟨by rfl, ?_⟩) (by assumption) ?_
        rotate_left
        · intro w hSw; (try dsimp only at hSw); go_simp <;> with_reducible rfl
        try simp only [Act.put, List.getElem_toArray, List.getElem_cons_zero, List.getElem_cons_succ, List.setIfInBounds_toArray, List.set_cons_zero, List.set_cons_succ]
        refine wpAnyH_take (i := 8) (v := ?_) rfl (by kernel_rfl) (by kernel_rfl) (by kernel_rfl) (fun _ _ _ h => by cases h.1) (Or.inl ⟨by rfl, ?_⟩) (by assumption) ?_
        rotate_left
        · intro w hSw; (try dsimp only at hSw); go_simp <;> with_reducible rfl
        try simp only [Act.put, List.getElem_toArray, List.getElem_cons_zero, List.getElem_cons_succ, List.setIfInBounds_toArray, List.set_cons_zero, List.set_cons_succ]
        refine wpAnyH_take (i := 9) (v := ?_) rfl (by kernel_rfl) (by kernel_rfl) (by kernel_rfl) (fun _ _ _ h => by cases h.1) (Or.inl ⟨by rfl, ?_⟩) (by assumption) ?_
        rotate_left
        · intro w hSw; (try dsimp only at hSw); go_simp <;> with_reducible rfl
        try simp only [Act.put, List.getElem_toArray, List.getElem_cons_zero, List.getElem_cons_succ, List.setIfInBounds_toArray, List.set_cons_zero, List.set_cons_succ]
        refine wpAnyH_take (i := 10) (v := ?_) rfl (by kernel_rfl) (by kernel_rfl) (by kernel_rfl) (fun _ _ _ h => by cases h.1) (Or.inl ⟨by rfl, ?_⟩) (by assumption) ?_
        rotate_left
        · intro w hSw; (try dsimp only at hSw); go_simp <;> with_reducible rfl
        try simp only [Act.put, List.getElem_toArray, List.getElem_cons_zero, List.getElem_cons_succ, List.setIfInBounds_toArray, List.set_cons_zero, List.set_cons_succ]
        refine wpAnyH_take (i := 11) (v := ?_) rfl (by kernel_rfl) (by kernel_rfl) (by kernel_rfl) (fun _ _ _ h => by cases h.1) (Or.inl ⟨by rfl, ?_⟩) (by assumption) ?_
        rotate_left
        · intro w hSw; (try dsimp only at hSw); go_simp <;> with_reducible rfl
        try simp only [Act.put, List.getElem_toArray, List.getElem_cons_zero, List.getElem_cons_succ, List.setIfInBounds_toArray, List.set_cons_zero, List.set_cons_succ]
        refine wpAnyH_take (i := 12) (v := ?_) rfl (by kernel_rfl) (by kernel_rfl) (by kernel_rfl) (fun _ _ _ h => by cases h.1) (Or.inl ⟨by rfl, ?_⟩) (by assumption) ?_
        rotate_left
        · intro w hSw; (try dsimp only at hSw); go_simp <;> with_reducible rfl
        try simp only [Act.put, List.getElem_toArray, List.getElem_cons_zero, List.getElem_cons_succ, List.setIfInBounds_toArray, List.set_cons_zero, List.set_cons_succ]
        refine wpAnyH_take (i := 13) (v := ?_) rfl (by kernel_rfl) (by kernel_rfl) (by kernel_rfl) (fun _ _ _ h => by cases h.1) (Or.inl ⟨by rfl, ?_⟩) (by assumption) ?_
        rotate_left
        · intro w hSw; (try dsimp only at hSw); go_simp <;> with_reducible rfl
        try simp only [Act.put, List.getElem_toArray, List.getElem_cons_zero, List.getElem_cons_succ, List.setIfInBounds_toArray, List.set_cons_zero, List.set_cons_succ]
        refine wpAnyH_take (i := 14) (v := ?_) rfl (by kernel_rfl) (by kernel_rfl) (by kernel_rfl) (fun _ _ _ h => by cases h.1) (Or.inl ⟨by rfl, ?_⟩) (by assumption) ?_
        rotate_left
        · intro w hSw; (try dsimp only at hSw); go_simp <;> with_reducible rfl
        try simp only [Act.put, List.getElem_toArray, List.getElem_cons_zero, List.getElem_cons_succ, List.setIfInBounds_toArray, List.set_cons_zero, List.set_cons_succ]
        refine wpAnyH_take (i := 15) (v := ?_) rfl (by kernel_rfl) (by kernel_rfl) (by kernel_rfl) (fun _ _ _ h => by cases h.1) (Or.inl ⟨by rfl, ?_⟩) (by assumption) ?_
        rotate_left
        · intro w hSw; (try dsimp only at hSw); go_simp <;> with_reducible rfl
        try simp only [Act.put, List.getElem_toArray, List.getElem_cons_zero, List.getElem_cons_succ, List.setIfInBounds_toArray, List.set_cons_zero, List.set_cons_succ]
        refine wpAnyH_take (i := 16) (v := ?_) rfl (by kernel_rfl) (by kernel_rfl) (by kernel_rfl) (fun _ _ _ h => by cases h.1) (Or.inl ⟨by rfl, ?_⟩) (by assumption) ?_
        rotate_left
        · intro w hSw; (try dsimp only at hSw); go_simp <;> with_reducible rfl
        try simp only [Act.put, List.getElem_toArray, List.getElem_cons_zero, List.getElem_cons_succ, List.setIfInBounds_toArray, List.set_cons_zero, List.set_cons_succ]
        refine wpAnyH_take (i := 17) (v := ?_) rfl (by kernel_rfl) (by kernel_rfl) (by kernel_rfl) (fun _ _ _ h => by cases h.1) (Or.inl ⟨by rfl, ?_⟩) (by assumption) ?_
        rotate_left
        · intro w hSw; (try dsimp only at hSw); go_simp <;> with_reducible rfl
        try simp only [Act.put, List.getElem_toArray, List.getElem_cons_zero, List.getElem_cons_succ, List.setIfInBounds_toArray, List.set_cons_zero, List.set_cons_succ]
        refine wpAnyH_ready (rs := [18]) (by kernel_rfl) (by simp) ?_
        refine AllReadyH.cons rfl (fun K hK => ?_) AllReadyH.nil
        go_simp
        refine (cR.out wd KD.out).mono ?_
        rintro e we ⟨rfl, ke⟩
        (try go_wp2_with fail)
        refine hK.out _ _ (hS.out we (KD.out.trans ke (by simp))) (fun hHeld => ?_)
        clear hK K
        try simp only [Act.put, List.getElem_toArray, List.getElem_cons_zero, List.getElem_cons_succ, List.setIfInBounds_toArray, List.set_cons_zero, List.set_cons_succ]
        refine wpAnyH_take (i := 19) (v := ?_) rfl (by kernel_rfl) (by kernel_rfl) (by kernel_rfl) (fun _ _ _ h => by cases h.1) (Or.inl ⟨by rfl, ?_⟩) (by assumption) ?_
        rotate_left
        · intro w hSw; (try dsimp only at hSw); go_simp <;> (try simp only [hC2]) <;> with_reducible rfl
        try simp only [Act.put, List.getElem_toArray, List.getElem_cons_zero, List.getElem_cons_succ, List.setIfInBounds_toArray, List.set_cons_zero, List.set_cons_succ]
        try simp only [hC2]
        refine wpAnyH_take (i := 20) (v := ?_) rfl (by kernel_rfl) (by kernel_rfl) (by kernel_rfl) (fun _ _ _ h => by cases h.1) (Or.inl ⟨by rfl, ?_⟩) (by assumption) ?_
        rotate_left
        · intro w hSw; (try dsimp only at hSw); go_simp <;> with_reducible rfl
        try simp only [Act.put, List.getElem_toArray, List.getElem_cons_zero, List.getElem_cons_succ, List.setIfInBounds_toArray, List.set_cons_zero, List.set_cons_succ]
        refine wpAnyH_done (by kernel_rfl) ⟨rfl, ?_⟩ _
        have KE := hid (KD.out.trans ke (by simp))
        clear hHeld ke cR hS hq1 hq2
        go_wp2_with fail
        go_roundw
        case rel => exact ⟨i + 1, by omega, by go_num, by rw [hSk.out]; simp, KE⟩
        case measure => simp [intOf] <;> omega
    · have hie : i = G.length := by omega
      have hs3 : Hid (((KS.take i).map cn).sum = L0.length) := hid (by rw [hie, hGK.out, List.take_length]; exact hsum.out)
      rw [hs3.out]
      have cAl := hid (cAlive15 wr)
      have KF := hid (K5.out.trans KW.out (by simp))
      have di1 : ¬ (i : Int) < (G.length : Int) := by omega
      have di2 : decide ((i : Int) < (G.length : Int)) = false := by simp; omega
      clear hie hlt
      go_wp2_with fail
      refine cAl.out.mono ?_
      rintro e w6 ⟨rfl, k6⟩
      have K6 := hid (KF.out.trans k6 (by simp))
      clear cAl k6
      by_cases hb0 : b = 0
      · have db : decide ((0 : Int) < (b : Int)) = false := by simp; omega
        have dbN : decide (0 < b) = false := by simp; omega
        have hG1 : ((G.length : Int) == 1) = true := by have h1 := hK1.out hb0; have := hGK.out; simp; omega
        have hG2 : G.length = 1 := by have h1 := hK1.out hb0; have := hGK.out; omega
        have HG2 := hid hG2
        clear hb0 hG2
        go_wp2_with fail
        go_ret
        exact ⟨rfl, K6.out.below⟩
      · have db : decide ((0 : Int) < (b : Int)) = true := by simp; omega
        have dbN : decide (0 < b) = true := by simp; omega
        clear hb0
        go_wp2_with fail
        go_ret
        exact ⟨rfl, K6.out.below⟩
end Go.Proofs.Ytohkjikhlakglaa
end

section
namespace Go.Proofs.Ytohkjikhlakglaa
open Go.ChangeShapes Go.WideShapes Go.ChangeAt Go.RowKit Go.Hay
set_option linter.unusedVariables false

set_option maxRecDepth 100000 in
theorem execCountsContract (H : Type) (enc : TypeId × Value → H) (W : World) (base : Nat) (args : Array Value) (ds gs : List (DataW H)) (before : List MemPlace)
    (hval : ∀ (j : Nat) t v, Try.f6.params[j]? = some t → args[j]? = some v → Value.okWide Try.prog W .any base t v)
    (hW : DataW.Whole enc Try.prog Try.f6.params.toList Rows.execCountsSpec.vars false W args.toList ds gs before)
    (hsz : (DataW.weightsEach Try.prog (Try.f6.params.toList ++ (Rows.OpenSpec.upto Rows.execCountsSpec).bare.plain.varTypes Try.prog) (ds ++ gs)).all (· ≤ reachBytes) = true)
    (hk : Rows.uptoSmall H (ds ++ gs) = true) :
    Calls Try.prog 6 args W fun e W' => ∃ v, e = .returned v ∧ Rows.execCountsSpec.post enc Try.prog Try.f6 false true false false W args v W' := by
  have hW' := hW
  obtain ⟨p, q, hA0, hV, rfl, hfz, hnd⟩ := hW
  have hA : DataW.TrodAll enc Try.prog W 0 (fun _ => true) true Try.f6.params.toList args.toList ds p := hA0
  rw [Try.params6] at hA hval hsz
  obtain ⟨v0, vs0, d0, ds0, p0, q0, hargs, rfl, rfl, h0, r0⟩ := trodAll_cons hA
  obtain ⟨v1, vs1, d1, ds1, p1, q1, rfl, rfl, rfl, h1, r1⟩ := trodAll_cons r0
  obtain ⟨rfl, rfl, rfl⟩ := trodAll_nil r1
  obtain rfl : args = #[v0, v1] := by cases args; simp_all
  obtain ⟨rfl, rfl⟩ := trodVars_none hV
  obtain ⟨a0, len0, cap0, rfl⟩ := okWide_slice Try.underlying22 (hval 0 22 v0 rfl rfl)
  have k0 := h0
  have lt0 : ∀ x ∈ p0, x.block < W.heap.size := by obtain ⟨m, hm⟩ := k0; exact DataW.trod_lt m _ _ _ hm
  obtain ⟨l0, rfl, hs0, hok0, hl0, hm0, hn0, hfit0, hbk0, hcp0⟩ := openVlists h0
  obtain ⟨hc0, hq0⟩ := hfit0 (List.all_eq_true.2 fun x hx => List.all_eq_true.1 hsz x (by simp [DataW.weightsEach]; first | exact .inl hx | exact .inr hx | exact .inr (.inl hx) | exact .inr (.inr hx) | exact hx))
  obtain ⟨a1, len1, cap1, rfl⟩ := okWide_slice Try.underlying38 (hval 1 38 v1 rfl rfl)
  have k1 := h1
  have lt1 : ∀ x ∈ p1, x.block < W.heap.size := by obtain ⟨m, hm⟩ := k1; exact DataW.trod_lt m _ _ _ hm
  obtain ⟨l1, rfl, hs1, hok1, hl1, hm1, hn1, hfit1, hbk1, hcp1⟩ := openInts h1
  obtain ⟨hc1, hq1⟩ := hfit1 (List.all_eq_true.2 fun x hx => List.all_eq_true.1 hsz x (by simp [DataW.weightsEach]; first | exact .inl hx | exact .inr hx | exact .inr (.inl hx) | exact .inr (.inr hx) | exact hx))
  have hbk := of_decide_eq_true hk
  simp only [List.append_nil, Rows.uptoBulkAll] at hbk
  clear hA0
  refine (countsWalk a0 cap0 l0 a1 cap1 l1 W hs0 hok0 (by omega) (fun x h => by have := lenOfSum hbk0 x h; omega) hs1 hn1 (by omega)).mono fun e W' ⟨he, bel⟩ => ?_
  subst he
  exact ⟨_, rfl, _, _, _, [], _, [], hW', trodAll_mk1 (shut_bool Try.underlying4 _), (trodAll_cons_mk (Below.trod Try.laidOut (by kernel_rfl) (of_decide_eq_true (by kernel_rfl)) k0 bel lt0) (trodAll_cons_mk (Below.trod Try.laidOut (by kernel_rfl) (of_decide_eq_true (by kernel_rfl)) k1 bel lt1) trodAll_mk0)), rfl, bel.frame _, fun h => by cases h⟩

set_option maxRecDepth 100000 in
theorem execCountsLifted (os : Os) (started : os.Started) (H : Type) (enc : TypeId × Value → H) (F : Stop.Interp) :
    ReturnsInHanded {} Try.checked os 6 .any ((Rows.OpenSpec.upto Rows.execCountsSpec).pre6 enc Try.prog Try.f6 Rows.execCountsUptoRow.domain false) (((Rows.OpenSpec.upto Rows.execCountsSpec).at F).post enc Try.prog Try.f6 false true false false) := by
  refine returnsInHanded_of_cond_sized (C := Try.checked) (s := Rows.OpenSpec.upto Rows.execCountsSpec) (k := Rows.uptoSmall) rfl Try.own started (by kernel_rfl) Try.func6
    (OpenSpec.witness (enc := enc) (C := Try.checked) (s := Rows.OpenSpec.upto Rows.execCountsSpec) (k := Rows.uptoSmall) rfl false ⟨#[], #[.slice none 0 0, .slice none 0 0], []⟩ 8 (by kernel_rfl) (by kernel_rfl) (by kernel_rfl)
      (x := ([.nil, .nil], [], [])) (by kernel_rfl) rfl (by kernel_rfl)) ?_
  intro W base args ds gs before hval hW _ hk hsz _
  exact execCountsContract H enc W base args ds gs before hval hW hsz hk

theorem ExecCounts_holds : Rows.ExecCountsUptoSaid :=
  OpenClaim.holds_of_cond 6 Try.f6 rfl rfl rfl rfl rfl rfl rfl ⟨rfl, rfl, rfl, rfl, rfl⟩ rfl rfl rfl rfl rfl (by kernel_rfl) Try.func6 (by kernel_rfl)
    (of_decide_eq_true (by kernel_rfl)) (by unfold Func.isWrapper; first | (rw [if_pos (by decide +kernel)]; kernel_rfl) | (rw [if_neg (by decide +kernel)]; exact ⟨rfl, rfl⟩))
    (fun os started H enc _ F => execCountsLifted os started H enc F)

#print axioms ExecCounts_holds
end Go.Proofs.Ytohkjikhlakglaa
end

/- Which tables may be, and which rows are theirs, by the reference. -/
import Derived.Test.YtboibllahibicaaDoorVrwr
namespace Go.Proofs.YtboibllahibicaaDoor
open Go.RowKit Go.Hay
set_option linter.unusedVariables false
set_option linter.unusedSimpArgs false

theorem has_take (l : List Col) (m : Nat) (h : m < l.length) (nm : ByteArray) : hasN (l.take (m + 1)) nm = (hasN (l.take m) nm || (l[m].nm.toList == nm.toList)) := by
  unfold hasN
  rw [← List.take_append_getElem h, List.any_append]
  simp
theorem has_more (l : List Col) (m j : Nat) (h : m ≤ j) (nm : ByteArray) (ht : hasN (l.take m) nm = true) : hasN (l.take j) nm = true := by
  simp only [hasN, List.any_eq_true] at ht ⊢
  obtain ⟨x, hx, hx2⟩ := ht
  refine ⟨x, ?_, hx2⟩
  rw [show m = min m j by omega, ← List.take_take] at hx
  exact List.mem_of_mem_take hx
theorem keptK_iff (k : Int) : keptK k = (decide (1 ≤ k) && decide (k ≤ 3)) := by
  unfold keptK
  by_cases h1 : k = 1
  · subst h1; rfl
  by_cases h2 : k = 2
  · subst h2; rfl
  by_cases h3 : k = 3
  · subst h3; rfl
  have e : (k == 1 || (k == 2 || k == 3)) = false := by simp [h1, h2, h3]
  rw [e]
  by_cases h4 : 1 ≤ k
  · rw [show decide (k ≤ 3) = false by simp; omega]; simp
  · rw [show decide (1 ≤ k) = false by simpa using h4]; simp

set_option maxHeartbeats 4000000 in
set_option maxRecDepth 100000 in
theorem cRefTable (nm : ByteArray) (a : Option Addr) (ca : Nat) (l : List Col) (w : World) (ha : Cols w a l) (hl : l.length ≤ ca) (hm : ca ≤ 9223372036854775807) :
    Calls Tryd.prog 23 #[.agg #[.string nm, .slice a l.length ca]] w fun e w' => e = .returned (.int .i64 (tableV nm l)) ∧ Kp [] w w' := by
  have bT := Box2.new w (.string nm) (.slice a l.length ca) 41
  have kW : Kp [] w (w.alloc (.cells #[.string nm, .slice a l.length ca] 41)) := (Kp.refl _ _).alloc _
  have hN := cRefNamed nm
  obtain ⟨N, HN⟩ : ∃ N : Bool, Hid (namedV nm = N) := ⟨_, rfl⟩
  rw [HN.out] at hN
  cases N
  · have HV : Hid (tableV nm l = 20) := by show _ = _; unfold tableV; rw [HN.out]; rfl
    go_enter Tryd.func23, Tryd.ntmps23
    go_wp2_with fail
    refine (hN _).mono ?_
    rintro e w' ⟨rfl, rfl⟩
    go_wp2_with fail
    go_ret
    exact ⟨by rw [HV.out]; rfl, kW⟩
  by_cases h0 : l.length = 0
  · have HV : Hid (tableV nm l = 20) := by show _ = _; unfold tableV; rw [HN.out, h0]; rfl
    have e0 : ((l.length : Int) == 0) = true := by simp [h0]
    clear h0
    go_enter Tryd.func23, Tryd.ntmps23
    go_wp2_with fail
    refine (hN _).mono ?_
    rintro e w' ⟨rfl, rfl⟩
    go_wp2_with fail
    go_ret
    exact ⟨by rw [HV.out]; rfl, kW⟩
  have e0 : ((l.length : Int) == 0) = false := by simpa using h0
  by_cases h8 : 8 < l.length
  · have HV : Hid (tableV nm l = 20) := by show _ = _; unfold tableV; rw [HN.out, show decide (l.length ≤ 8) = false by simpa using h8]; simp
    go_enter Tryd.func23, Tryd.ntmps23
    go_wp2_with fail
    refine (hN _).mono ?_
    rintro e w' ⟨rfl, rfl⟩
    go_wp2_with fail
    go_ret
    exact ⟨by rw [HV.out]; rfl, kW⟩
  have HT : Hid (tableV nm l = if colsV l then 0 else 20) := by
    show _ = _
    unfold tableV
    rw [HN.out, show decide (l.length ≤ 8) = true by simpa using h8, show decide (l.length ≠ 0) = true by simpa using h0]
    rfl
  go_enter Tryd.func23, Tryd.ntmps23
  go_wp2_with fail
  refine (hN _).mono ?_
  rintro e w' ⟨rfl, rfl⟩
  go_wp2_with fail
  go_loopw [4] (fun i wn => ∃ j : Nat, j ≤ l.length ∧ i = .int .i64 j ∧ Upto l j ∧ Box2 wn w.heap.size (.string nm) (.slice a l.length ca) ∧ Kp [] w wn) (fun i _ => l.length - (intOf i).toNat)
  case atStart => exact ⟨0, Nat.zero_le _, rfl, fun i hi => by omega, bT, kW⟩
  case round =>
    obtain ⟨j, hj, rfl, hup, hbx, hk⟩ := hrel
    have q0 := hbx.c0; have q1 := hbx.c1; have ql := hbx.lt
    by_cases hjm : j < l.length
    · obtain ⟨g, o, rfl, a0, a1, a2⟩ := (ha.kept hk).at j hjm
      have hca := hid (colAt_eq l j hjm)
      obtain ⟨x, Hx⟩ : ∃ x : Col, Hid (l[j] = x) := ⟨l[j], show l[j] = l[j] from rfl⟩
      rw [Hx.out] at a0 a1 a2 hca
      obtain ⟨xn, xk, xz⟩ := x
      dsimp only at a0 a1 a2
      have h1 := cRefNamed xn
      obtain ⟨N, HN⟩ : ∃ N : Bool, Hid (namedV xn = N) := ⟨_, rfl⟩
      rw [HN.out] at h1
      have hC : Hid (colAt l j = (N && (keptK xk && !hasN (l.take j) xn))) := by show _ = _; rw [hca.out]; simp only [HN.out]
      clear hca HN
      cases N
      · have HV : Hid (tableV nm l = 20) := by show _ = _; rw [HT.out, colsV_false l j hjm hC.out]; rfl
        go_wp2_with fail
        refine (h1 _).mono ?_
        rintro e w' ⟨rfl, rfl⟩
        go_wp2_with fail
        go_ret
        exact ⟨by rw [HV.out]; rfl, hk⟩
      by_cases hk1 : 1 ≤ xk
      · by_cases hk3 : xk ≤ 3
        · have hC2 : Hid (colAt l j = !hasN (l.take j) xn) := by show _ = _; rw [hC.out, keptK_iff, show decide (1 ≤ xk) = true by simpa using hk1, show decide (xk ≤ 3) = true by simpa using hk3]; rfl
          clear hC
          go_wp2_with fail
          refine (h1 _).mono ?_
          rintro e w' ⟨rfl, rfl⟩
          go_wp2_with fail
          go_loopw [5] (fun i wn => ∃ m : Nat, m ≤ j ∧ i = .int .i64 m ∧ Hid (hasN (l.take m) xn = false) ∧ Box2 wn w.heap.size (.string nm) (.slice (some ⟨g, o, none⟩) l.length ca) ∧ Kp [] w wn) (fun i _ => j - (intOf i).toNat)
          case atStart => exact ⟨0, Nat.zero_le _, rfl, rfl, hbx, hk⟩
          case round =>
            obtain ⟨m, hm', rfl, hh, hbx', hk'⟩ := hrel
            have q0' := hbx'.c0; have q1' := hbx'.c1; have ql' := hbx'.lt
            clear q0 q1 ql a0 a1 a2
            by_cases hmj : m < j
            · have hml : m < l.length := by omega
              obtain ⟨g', o', hgo, b0, b1, b2⟩ := (ha.kept hk').at m hml
              obtain ⟨g2, o2, hgo2, c0, c1, c2⟩ := (ha.kept hk').at j hjm
              cases hgo
              cases hgo2
              rw [Hx.out] at c0 c1 c2
              have hst := hid (has_take l m hml xn)
              have hmo := hid (has_more l (m + 1) j hmj xn)
              generalize l[m] = y at *
              obtain ⟨yn, yk, yz⟩ := y
              dsimp only at b0 b1 b2 c0 c1 c2
              by_cases he : yn.toList = xn.toList
              · have hee : (yn.toList == xn.toList) = true := by simpa using he
                have HV : Hid (tableV nm l = 20) := by show _ = _; rw [HT.out, colsV_false l j hjm (by rw [hC2.out, hmo.out (by rw [hst.out]; simp [he])]; rfl)]; rfl
                clear he hst hmo
                go_wp2_with fail
                go_quiet ((fail))
                go_wp2_with fail
                go_ret
                exact ⟨by rw [HV.out]; rfl, hk'.drewN _⟩
              · have hee : (yn.toList == xn.toList) = false := by simpa using he
                have hn2 : Hid (hasN (l.take (m + 1)) xn = false) := by show _ = _; rw [hst.out, hh.out]; exact hee
                clear he hst hmo hh
                have hbx2 := hbx'
                go_wp2_with fail
                go_quiet ((fail))
                go_wp2_with fail
                exact ⟨⟨m + 1, by omega, by go_num, hn2, ⟨hbx2.c0, hbx2.c1⟩, hk'.drewN _⟩, by simp [intOf]; omega⟩
            · have hmm : m = j := by omega
              subst hmm
              have hup2 := hup.step (by rw [hC2.out, hh.out]; rfl)
              go_wp2_with fail
              exact ⟨⟨m + 1, by omega, by go_num, hup2, hbx', hk'⟩, by simp [intOf]; omega⟩
        · have HV : Hid (tableV nm l = 20) := by show _ = _; rw [HT.out, colsV_false l j hjm (by rw [hC.out, keptK_iff, show decide (xk ≤ 3) = false by simpa using hk3]; simp)]; rfl
          have e3 : ¬ xk ≤ 3 := hk3
          go_wp2_with fail
          refine (h1 _).mono ?_
          rintro e w' ⟨rfl, rfl⟩
          go_wp2_with fail
          go_ret
          exact ⟨by rw [HV.out]; rfl, hk⟩
      · have HV : Hid (tableV nm l = 20) := by show _ = _; rw [HT.out, colsV_false l j hjm (by rw [hC.out, keptK_iff, show decide (1 ≤ xk) = false by simpa using hk1]; simp)]; rfl
        go_wp2_with fail
        refine (h1 _).mono ?_
        rintro e w' ⟨rfl, rfl⟩
        go_wp2_with fail
        go_ret
        exact ⟨by rw [HV.out]; rfl, hk⟩
    · have hjl : j = l.length := by omega
      subst hjl
      have HV : Hid (tableV nm l = 0) := by show _ = _; rw [HT.out, colsV_true l hup]; rfl
      go_wp2_with fail
      go_ret
      exact ⟨by rw [HV.out]; rfl, hk⟩
end Go.Proofs.YtboibllahibicaaDoor

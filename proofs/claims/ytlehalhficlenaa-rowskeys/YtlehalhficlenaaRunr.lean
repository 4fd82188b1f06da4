/- Keys read: the reference's Unkey. -/
import Derived.Test.YtlehalhficlenaaRtkr
import Derived.Test.YtlehalhficlenaaRunk
namespace Go.Proofs.Ytlehalhficlenaa
open Go.RowKit Go.Hay
set_option linter.unusedVariables false
set_option linter.unusedSimpArgs false

set_option maxHeartbeats 8000000 in
set_option maxRecDepth 100000 in
theorem cRefUnkey (a : Option Addr) (c : Nat) (bs : List UInt8) (w : World) (hs : Sees w a bs) (hl : bs.length ≤ c) (hm : c ≤ maxLen) (hb : bs.length ≤ 140737488351232) :
    Calls Try.prog 9 #[.slice a bs.length c] w (Rdn w (unkS bs)) := by
  have HF : Hid (unkS bs = decO (unkL 16 bs)) := rfl
  generalize unkS bs = R at *
  unfold maxLen at hm
  go_enter Try.func9, Try.ntmps9
  go_wp2_with fail
  go_loopw [4, 5] (fun u p wn => ∃ (dn : List Val) (at' : Nat) (a2 : Option Addr) (c2 : Nat), dn.length ≤ 16 ∧ p = .int .i64 at' ∧ at' ≤ bs.length ∧ u = .slice a2 dn.length c2 ∧ RowV w wn (.slice a2 dn.length c2) dn ∧ Hid ((unkL (16 - dn.length) (bs.drop at')).map (dn ++ ·) = unkL 16 bs) ∧ Kp [] w wn) (fun _ p _ => bs.length - (intOf p).toNat)
  case atStart => exact ⟨[], 0, none, 0, by simp, rfl, Nat.zero_le _, rfl, rowVnil _ _, by show _ = _; simp, Kp.refl _ _⟩
  case round =>
    obtain ⟨dn, at', a2, c2, hdn, rfl, hat, rfl, hrv, hdec, hk⟩ := hrel
    by_cases hr0 : at' < bs.length
    · obtain ⟨g, o, rfl⟩ : ∃ g o, a = some ⟨g, o, none⟩ := by
        rcases hs with h | ⟨g', o', h, _⟩
        · rw [h] at hr0; simp at hr0
        · exact ⟨g', o', h⟩
      have hne : bs.drop at' ≠ [] := fun h => by have := congrArg List.length h; simp at this; omega
      have hsA : Sees wr (some ⟨g, o + at', none⟩) (bs.drop at') := by have := Sees.tail (seesKeep hs hk) at'; simpa [Addr.add_lit] using this
      have hT := cFrontK _ (c - at') (bs.drop at') wr hsA (by simp; omega) (by unfold maxLen; omega) (by simp; omega)
      rw [List.length_drop] at hT
      have hle := frtK_le (bs.drop at')
      rw [List.length_drop] at hle
      have hkf := keyF_frtK (bs.drop at')
      have hst := fun q => unkL_step q (bs.drop at') dn hne
      have hfu := unkL_full (bs.drop at') hne
      have hdd : ∀ k, (bs.drop at').drop k = bs.drop (at' + k) := fun k => by rw [List.drop_drop]
      generalize frtK (bs.drop at') = rr at *
      obtain ⟨x, sz⟩ := rr
      dsimp only at hle hkf
      rw [hkf] at hst
      unfold Tk at hT
      dsimp only at hT
      rw [show x.v = .agg #[.int .i64 x.k, .bool x.b, .int .i64 x.n, .string x.t] from rfl] at hT
      have HS := hid hst
      have HFU := hid hfu
      have HDD := hid hdd
      clear hst hfu hdd hkf hsA hne
      have hac : ¬ at' = c := by omega
      have hbad : (sz = 0 ∨ 64 < x.t.size) → Hid (R = ([], 30)) := fun h => by
        show _ = _
        rw [HF.out, ← hdec.out]
        by_cases h16 : dn.length = 16
        · rw [h16, Nat.sub_self, HFU.out]; rfl
        · rw [show 16 - dn.length = (15 - dn.length) + 1 by omega, HS.out, if_pos h]; rfl
      go_wp2_with fail
      refine hT.mono ?_
      rintro e w1 ⟨rfl, k1⟩
      clear hT
      by_cases hsz : sz = 0
      · have HE := hbad (.inl hsz)
        subst hsz
        clear hdec HF hbad
        go_wp2_with fail
        go_ret2
        exact ⟨none, 0, [], 30, HE, rfl, .inl rfl, by simp, by simp, by simp, fun _ => rfl, (hk.trans k1 (by simp)).alloc _⟩
      have hsz' : ((sz : Int) == 0) = false := by simp; omega
      by_cases h64 : 64 < x.t.size
      · have HE := hbad (.inr h64)
        have h64' : decide ((64 : Int) < (x.t.size : Int)) = true := by simp; omega
        clear hdec HF hbad
        go_wp2_with fail
        go_ret2
        exact ⟨none, 0, [], 30, HE, rfl, .inl rfl, by simp, by simp, by simp, fun _ => rfl, (hk.trans k1 (by simp)).alloc _⟩
      have h64' : decide ((64 : Int) < (x.t.size : Int)) = false := by simp; omega
      clear hbad
      by_cases h16 : dn.length = 16
      · have HE : Hid (R = ([], 30)) := by
          show _ = _
          rw [HF.out, ← hdec.out, h16, Nat.sub_self, HFU.out]
          rfl
        have e16 : ((dn.length : Int) == 16) = true := by simp; omega
        clear hdec HF h16
        go_wp2_with fail
        go_ret2
        exact ⟨none, 0, [], 30, HE, rfl, .inl rfl, by simp, by simp, by simp, fun _ => rfl, (hk.trans k1 (by simp)).alloc _⟩
      have e16 : ((dn.length : Int) == 16) = false := by simp; omega
      have hD0 : (unkL (15 - dn.length) (bs.drop (at' + sz))).map (dn ++ [x] ++ ·) = unkL 16 bs := by
        rw [← hdec.out, show 16 - dn.length = (15 - dn.length) + 1 by omega, HS.out]
        have hcc : ¬ (sz = 0 ∨ 64 < x.t.size) := by omega
        simp only [if_neg hcc]
        rw [if_neg hsz, HDD.out]
      have hD : Hid ((unkL (16 - (dn ++ [x]).length) (bs.drop (at' + sz))).map (dn ++ [x] ++ ·) = unkL 16 bs) := by
        show _ = _
        rw [List.length_append, List.length_singleton, show 16 - (dn.length + 1) = 15 - dn.length by omega]
        exact hD0
      have hdn2 : (dn ++ [x]).length ≤ 16 := by simp; omega
      have kN := (hk.trans k1 (by simp)).alloc (.cells #[.int .i64 x.k, .bool x.b, .int .i64 x.n, .string x.t] 35)
      have hrv1 := (hrv.kept k1).kept (kpNew _ (.cells #[.int .i64 x.k, .bool x.b, .int .i64 x.n, .string x.t] 35))
      have hrv2 := hrv1.kept (kpNew _ (.cells #[.int .i64 x.k, .bool x.b, .int .i64 x.n, .string x.t] 35))
      have hv1 := valsNew (w1.alloc (.cells #[.int .i64 x.k, .bool x.b, .int .i64 x.n, .string x.t] 35)) x 35 (q := w1.heap.size + 1) (by simp)
      have kN2 := kN.alloc (.cells #[.int .i64 x.k, .bool x.b, .int .i64 x.n, .string x.t] 35)
      clear hdec hD0 h16
      go_wp2_with (at_builtin; refine wpAppendV rfl _ _ rfl w (.slice a2 dn.length c2) dn rfl hrv2 (some ⟨w1.heap.size + 1, 0, none⟩) 1 1 [x] rfl rfl hv1 (fun h => by cases h) (by simp; omega) kN2 ?_)
      intro v3 w3 hr3 k3
      obtain ⟨a3, c3, rfl, hv3, hc3, hm3⟩ := hr3.vals
      generalize dn ++ [x] = dn2 at *
      go_wp2_with fail
      exact ⟨⟨dn2, at' + sz, a3, c3, hdn2, by go_num, by omega, rfl, hr3, hD, k3⟩, by simp [intOf]; omega⟩
    · rw [List.drop_eq_nil_of_le (by omega), unkL_nil] at hdec
      have HE : Hid (R = (dn, 0)) := by show _ = _; rw [HF.out, ← hdec.out]; simp [decO]
      obtain ⟨a3, c3, hv, hv2, hc2, hm2⟩ := hrv.vals
      have hnil := rowVnone hrv
      simp only [Value.slice.injEq, true_and] at hv
      obtain ⟨rfl, rfl⟩ := hv
      clear hdec HF
      go_wp2_with fail
      go_ret2
      exact ⟨_, _, dn, 0, HE, rfl, hv2, hdn, hc2, hm2, hnil, hk⟩
end Go.Proofs.Ytlehalhficlenaa

/- Keys read: the program's Unkey. -/
import Derived.Test.YtlehalhficlenaaRtky
import Derived.Test.YtlehalhficlenaaVapp
namespace Go.Proofs.Ytlehalhficlenaa
open Go.RowKit Go.Hay
set_option linter.unusedVariables false
set_option linter.unusedSimpArgs false

/-- How long a slice is. -/
def lenV : Value → Nat
  | .slice _ n _ => n
  | _ => 0
theorem rowVnil (w0 w : World) : RowV w0 w (.slice none 0 0) [] := ⟨rfl, .inl ⟨rfl, rfl⟩⟩
theorem valsNew (w : World) (x : Val) (t : TypeId) {q : Nat} (hq : w.heap.size = q) : Vals (w.alloc (.cells #[.int .i64 x.k, .bool x.b, .int .i64 x.n, .string x.t] t)) (some ⟨q, 0, none⟩) [x] := by
  subst hq
  exact Vals.single w x t
theorem rowVnone {w0 w : World} {a : Option Addr} {n c : Nat} {l : List Val} (h : RowV w0 w (.slice a n c) l) : a = none → c = 0 := by
  obtain ⟨_, ⟨h, _⟩ | ⟨g', cap, cur, h, _⟩⟩ := h
  · simp only [Value.slice.injEq] at h; exact fun _ => h.2.2
  · simp only [Value.slice.injEq] at h; exact fun hn => by rw [h.1] at hn; cases hn

set_option maxHeartbeats 8000000 in
set_option maxRecDepth 100000 in
theorem cUnkey (a : Option Addr) (c : Nat) (bs : List UInt8) (w : World) (hs : Sees w a bs) (hl : bs.length ≤ c) (hm : c ≤ maxLen) (hb : bs.length ≤ 140737488351232) :
    Calls Try.prog 8 #[.slice a bs.length c] w (Rdn w (unkS bs)) := by
  have HF : Hid (unkS bs = decO (unkL 16 bs)) := rfl
  generalize unkS bs = R at *
  unfold maxLen at hm
  go_enter Try.func8, Try.ntmps8
  go_wp2_with fail
  go_loopw [0, 4] (fun v u wn => ∃ (dn : List Val) (rest : List UInt8) (m : Nat) (a' : Option Addr) (c' : Nat) (a2 : Option Addr) (c2 : Nat), dn.length ≤ 16 ∧ v = .slice a' m c' ∧ m = rest.length ∧ rest.length ≤ bs.length ∧ rest.length ≤ c' ∧ c' ≤ 9223372036854775807 ∧ Sees w a' rest ∧ u = .slice a2 dn.length c2 ∧ RowV w wn (.slice a2 dn.length c2) dn ∧ Hid ((unkL (16 - dn.length) rest).map (dn ++ ·) = unkL 16 bs) ∧ Kp [] w wn) (fun v _ _ => lenV v)
  case atStart => exact ⟨[], bs, _, a, c, none, 0, by simp, rfl, rfl, Nat.le_refl _, hl, hm, hs, rfl, rowVnil _ _, by show _ = _; simp, Kp.refl _ _⟩
  case round =>
    obtain ⟨dn, rest, m, a', c', a2, c2, hdn, rfl, hmr, hrb, hlc, hcm, hse, rfl, hrv, hdec, hk⟩ := hrel
    subst hmr
    by_cases hr0 : rest = []
    · subst hr0
      rw [unkL_nil] at hdec
      have HE : Hid (R = (dn, 0)) := by show _ = _; rw [HF.out, ← hdec.out]; simp [decO]
      obtain ⟨a3, c3, hv, hv2, hc2, hm2⟩ := hrv.vals
      have hnil := rowVnone hrv
      simp only [Value.slice.injEq, true_and] at hv
      obtain ⟨rfl, rfl⟩ := hv
      clear hdec HF
      rw [List.length_nil]
      go_wp2_with fail
      go_ret2
      exact ⟨_, _, dn, 0, HE, rfl, hv2, hdn, hc2, hm2, hnil, hk⟩
    · have hpos : 0 < rest.length := by cases rest with | nil => exact absurd rfl hr0 | cons _ _ => simp
      obtain ⟨g', o', rfl⟩ : ∃ g' o', a' = some ⟨g', o', none⟩ := by
        rcases hse with h | ⟨g', o', h, _⟩
        · exact absurd h hr0
        · exact ⟨g', o', h⟩
      have hT := cTakeKey _ c' rest wr (seesKeep hse hk) hlc (by unfold maxLen; omega) (by omega)
      have hle := keyF_le rest
      have hS2 := fun sz => Sees.tail hse sz
      have hst := fun q => unkL_step q rest dn hr0
      have hfu := unkL_full rest hr0
      have hdr : ∀ k, (rest.drop k).length = rest.length - k := fun k => by simp
      have hdn0 : ∀ k, rest.length ≤ k → rest.drop k = [] := fun k h => List.drop_eq_nil_of_le h
      generalize hR' : keyF rest = rr at *
      obtain ⟨x, sz⟩ := rr
      dsimp only at hle hst
      unfold Tk at hT
      dsimp only at hT
      rw [show x.v = .agg #[.int .i64 x.k, .bool x.b, .int .i64 x.n, .string x.t] from rfl] at hT
      have HS := hid hst
      have HFU := hid hfu
      have HDR := hid hdr
      have HD0 := hid hdn0
      have HS2 := hid hS2
      clear hR' hst hfu hdr hdn0 hS2
      go_wp2_with fail
      refine hT.mono ?_
      rintro e w1 ⟨rfl, k1⟩
      clear hT
      by_cases hsz : sz = 0
      · subst hsz
        have HE : Hid (R = ([], 30)) := by
          show _ = _
          rw [HF.out, ← hdec.out]
          by_cases h16 : dn.length = 16
          · rw [h16, Nat.sub_self, HFU.out]; rfl
          · rw [show 16 - dn.length = (15 - dn.length) + 1 by omega, HS.out]; rfl
        clear hdec HF
        go_wp2_with fail
        go_ret2
        exact ⟨none, 0, [], 30, HE, rfl, .inl rfl, by simp, by simp, by simp, fun _ => rfl, (hk.trans k1 (by simp)).alloc _⟩
      have hsz' : ((sz : Int) == 0) = false := by simp; omega
      by_cases h16 : dn.length = 16
      · have HE : Hid (R = ([], 30)) := by
          show _ = _
          rw [HF.out, ← hdec.out, h16, Nat.sub_self, HFU.out]
          rfl
        have e16 : ((dn.length : Int) == 16) = true := by simp; omega
        clear hdec HF h16
        go_wp2_with fail
        go_ret2
        exact ⟨none, 0, [], 30, HE, rfl, .inl rfl, by simp, by simp, by simp, fun _ => rfl, (hk.trans k1 (by simp)).alloc _⟩
      have e16 : ((dn.length : Int) == 16) = false := by simp; omega
      have hD0 : (unkL (15 - dn.length) (rest.drop sz)).map (dn ++ [x] ++ ·) = unkL 16 bs := by
        rw [← hdec.out, show 16 - dn.length = (15 - dn.length) + 1 by omega, HS.out, if_neg hsz]
      have hD : Hid ((unkL (16 - (dn ++ [x]).length) (rest.drop sz)).map (dn ++ [x] ++ ·) = unkL 16 bs) := by
        show _ = _
        rw [List.length_append, List.length_singleton, show 16 - (dn.length + 1) = 15 - dn.length by omega]
        exact hD0
      have hdn2 : (dn ++ [x]).length ≤ 16 := by simp; omega
      have kN := (hk.trans k1 (by simp)).alloc (.cells #[.int .i64 x.k, .bool x.b, .int .i64 x.n, .string x.t] 35)
      have hrv1 := (hrv.kept k1).kept (kpNew _ (.cells #[.int .i64 x.k, .bool x.b, .int .i64 x.n, .string x.t] 35))
      have hrv2 := hrv1.kept (kpNew _ (.cells #[.int .i64 x.k, .bool x.b, .int .i64 x.n, .string x.t] 35))
      have hv1 := valsNew (w1.alloc (.cells #[.int .i64 x.k, .bool x.b, .int .i64 x.n, .string x.t] 35)) x 35 (q := w1.heap.size + 1) (by simp)
      have kN2 := kN.alloc (.cells #[.int .i64 x.k, .bool x.b, .int .i64 x.n, .string x.t] 35)
      clear hdec hD0 h16
      go_wp2_with (at_builtin; refine wpAppendV rfl _ _ rfl w (.slice a2 dn.length c2) dn rfl hrv2 (some ⟨w1.heap.size + 1, 0, none⟩) 1 1 [x] rfl rfl hv1 (fun h => by cases h) (by simp; omega) kN2 ?_)
      intro v3 w3 hr3 k3
      obtain ⟨a3, c3, rfl, hv3, hc3, hm3⟩ := hr3.vals
      have hbn : Sees w (some ⟨g', o' + sz, none⟩) (rest.drop sz) := by have := HS2.out sz; simpa [Addr.add_lit] using this
      have hdl := HDR.out sz
      have hd0 := HD0.out sz
      generalize rest.drop sz = rest' at *
      generalize dn ++ [x] = dn2 at *
      by_cases hcz : c' = sz
      · have hre := hd0 (by omega)
        subst hre
        subst hcz
        have hr1 : rest.length - c' = 0 := by omega
        go_wp2_with fail
        exact ⟨⟨dn2, [], _, _, _, a3, c3, hdn2, rfl, by simp, by simp, by simp, by omega, .inl rfl, rfl, hr3, hD, k3⟩, by simp [lenV]; omega⟩
      · go_wp2_with fail
        exact ⟨⟨dn2, rest', _, _, _, a3, c3, hdn2, rfl, by omega, by omega, by omega, by omega, hbn, rfl, hr3, hD, k3⟩, by simp [lenV]; omega⟩
end Go.Proofs.Ytlehalhficlenaa

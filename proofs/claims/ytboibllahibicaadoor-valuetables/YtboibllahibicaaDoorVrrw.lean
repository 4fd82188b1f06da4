/- Which rows are a table's, by the reference. -/
import Derived.Test.YtboibllahibicaaDoorVrtb
namespace Go.Proofs.YtboibllahibicaaDoor
open Go.RowKit Go.Hay
set_option linter.unusedVariables false
set_option linter.unusedSimpArgs false

set_option maxHeartbeats 4000000 in
set_option maxRecDepth 100000 in
theorem cRefRow (nm : ByteArray) (a : Option Addr) (ca : Nat) (l : List Col) (b : Option Addr) (cb : Nat) (r : List Val) (w : World) (ha : Cols w a l) (hl : l.length ≤ ca) (hm : ca ≤ 9223372036854775807) (hb : Vals w b r) (hr : r.length ≤ cb) (hmb : cb ≤ 9223372036854775807) :
    Calls Tryd.prog 25 #[.agg #[.string nm, .slice a l.length ca], .slice b r.length cb] w fun e w' => e = .returned (.int .i64 (rowV nm l r)) ∧ Kp [] w w' := by
  have bT := Box2.new w (.string nm) (.slice a l.length ca) 41
  have kW : Kp [] w (w.alloc (.cells #[.string nm, .slice a l.length ca] 41)) := (Kp.refl _ _).alloc _
  have hN := cRefTable nm a ca l _ (ha.kept kW) hl hm
  obtain ⟨t, Ht⟩ : ∃ t : Int, Hid (tableV nm l = t) := ⟨_, rfl⟩
  have hor := tableV_or nm l
  rw [Ht.out] at hN hor
  by_cases ht : t = 0
  · subst ht
    go_enter Tryd.func25, Tryd.ntmps25
    go_wp2_with fail
    refine hN.mono ?_
    rintro e w1 ⟨rfl, k1⟩
    have bT1 := bT.kept k1
    have kW1 := kW.trans k1 (by simp)
    have q0 := bT1.c0; have q1 := bT1.c1
    clear bT kW hN k1
    by_cases hlen : r.length = l.length
    · have HT : Hid (rowV nm l r = if fitsAllV l r then 0 else 21) := by show _ = _; unfold rowV; rw [Ht.out, if_pos rfl, if_pos hlen]
      have hlen' := hid hlen
      rw [hlen]
      clear hlen
      go_wp2_with fail
      go_loopw [6] (fun i wn => ∃ j : Nat, j ≤ l.length ∧ i = .int .i64 j ∧ Fit l r j ∧ Box2 wn w.heap.size (.string nm) (.slice a l.length ca) ∧ Kp [] w wn) (fun i _ => l.length - (intOf i).toNat)
      case atStart => exact ⟨0, Nat.zero_le _, rfl, fun i hi => by omega, bT1, kW1⟩
      case round =>
        obtain ⟨j, hj, rfl, hup, hbx, hk⟩ := hrel
        have q1' := hbx.c1
        clear q0 q1
        by_cases hjm : j < l.length
        · have hjr : j < r.length := by rw [hlen'.out]; exact hjm
          obtain ⟨g, o, rfl, a0, a1, a2⟩ := (ha.kept hk).at j hjm
          obtain ⟨g', o', rfl, b0, b1, b2, b3⟩ := (hb.kept hk).at j hjr
          have hca := hid (fitAt_eq l r j hjm hjr)
          generalize l[j] = x at *
          generalize r[j] = y at *
          obtain ⟨xn, xk, xz⟩ := x
          dsimp only at a0 a1 a2
          have h1 := cRefFits xn xk xz y
          obtain ⟨F, HF⟩ : ∃ F : Bool, Hid (fitsV xk xz y = F) := ⟨_, rfl⟩
          rw [HF.out] at h1
          have hC : Hid (fitAt l r j = F) := by show _ = _; rw [hca.out]; exact HF.out
          clear hca HF
          obtain ⟨yk, yb, yn, yt⟩ := y
          unfold Val.v at h1
          dsimp only at b0 b1 b2 b3 h1
          go_wp2_with fail
          go_region_held3 (fun w' => w'.cell? ⟨w.heap.size, 1, none⟩ = some (.slice (some ⟨g, o, none⟩) l.length ca) ∧ w'.cell? ⟨g, o + j * 3, none⟩ = some (.string xn) ∧ w'.cell? ⟨g, o + j * 3 + 1, none⟩ = some (.int .i64 xk) ∧ w'.cell? ⟨g, o + j * 3 + 2, none⟩ = some (.bool xz) ∧ w'.cell? ⟨g', o' + j * 4, none⟩ = some (.int .i64 yk) ∧ w'.cell? ⟨g', o' + j * 4 + 1, none⟩ = some (.bool yb) ∧ w'.cell? ⟨g', o' + j * 4 + 2, none⟩ = some (.int .i64 yn) ∧ w'.cell? ⟨g', o' + j * 4 + 3, none⟩ = some (.string yt)) (first | go_keep)
            (first | (go_at_call 17; refine (h1 _).mono ?_; rintro e w3 ⟨rfl, k3⟩; have y0 := kpAt (w := wr.drew) k3 a0; have y1 := kpAt (w := wr.drew) k3 a1; have y2 := kpAt (w := wr.drew) k3 a2; have y3 := kpAt (w := wr.drew) k3 b0; have y4 := kpAt (w := wr.drew) k3 b1; have y5 := kpAt (w := wr.drew) k3 b2; have y6 := kpAt (w := wr.drew) k3 b3; have y7 := kpAt (w := wr.drew) k3 q1'))
          have hk3 := hk.drew.trans k3 (by simp)
          have hbx3 : Box2 w3 w.heap.size (.string nm) (.slice (some ⟨g, o, none⟩) l.length ca) := hbx.kept ((Kp.refl [] wr).drew.trans k3 (by simp))
          clear k3 y0 y1 y2 y3 y4 y5 y6 y7 a0 a1 a2 b0 b1 b2 b3 q1'
          cases F
          · have HV : Hid (rowV nm l r = 21) := by show _ = _; rw [HT.out, fits_false l r j hjm hC.out]; rfl
            go_wp2_with fail
            go_ret
            exact ⟨by rw [HV.out]; rfl, hk3⟩
          · have hup2 := hup.step hC.out
            go_wp2_with fail
            exact ⟨⟨j + 1, by omega, by go_num, hup2, hbx3, hk3⟩, by simp [intOf]; omega⟩
        · have hjl : j = l.length := by omega
          subst hjl
          have HV : Hid (rowV nm l r = 0) := by show _ = _; rw [HT.out, fits_true l r hup]; rfl
          go_wp2_with fail
          go_ret
          exact ⟨by rw [HV.out]; rfl, hk⟩
    · have HV : Hid (rowV nm l r = 21) := by show _ = _; unfold rowV; rw [Ht.out, if_pos rfl, if_neg hlen]
      have hle : ((r.length : Int) == (l.length : Int)) = false := by simp; omega
      clear hlen
      go_wp2_with fail
      go_ret
      exact ⟨by rw [HV.out]; rfl, kW1⟩
  · have h20 : t = 20 := by omega
    subst h20
    have HV : Hid (rowV nm l r = 20) := by show _ = _; unfold rowV; rw [Ht.out]; rfl
    go_enter Tryd.func25, Tryd.ntmps25
    go_wp2_with fail
    refine hN.mono ?_
    rintro e w1 ⟨rfl, k1⟩
    go_wp2_with fail
    go_ret
    exact ⟨by rw [HV.out]; rfl, kW.trans k1 (by simp)⟩
end Go.Proofs.YtboibllahibicaaDoor

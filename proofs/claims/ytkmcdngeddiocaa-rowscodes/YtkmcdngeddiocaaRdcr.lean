/- Rows read: the reference's Decode. -/
import Derived.Test.YtkmcdngeddiocaaRdcd
import Derived.Test.YtkmcdngeddiocaaRfrr
namespace Go.Proofs.Ytkmcdngeddiocaa
open Go.RowKit Go.Hay
set_option linter.unusedVariables false
set_option linter.unusedSimpArgs false

theorem RowV.nil (w0 w : World) : RowV w0 w (.slice none 0 0) [] := ⟨rfl, .inl ⟨rfl, rfl⟩⟩
theorem valsOne (w : World) (x : Val) (t : TypeId) {q : Nat} (hq : w.heap.size = q) : Vals (w.alloc (.cells #[.int .i64 x.k, .bool x.b, .int .i64 x.n, .string x.t] t)) (some ⟨q, 0, none⟩) [x] := by
  subst hq
  exact Vals.single w x t

set_option maxHeartbeats 4000000 in
set_option maxRecDepth 100000 in
theorem cRefDecode (a : Option Addr) (c : Nat) (bs : List UInt8) (w : World) (hs : Sees w a bs) (hl : bs.length ≤ c) (hm : c ≤ maxLen) :
    Calls Try.prog 12 #[.slice a bs.length c] w (Rdn w (decS bs)) := by
  cases bs with
  | nil =>
    have HF : Hid (decS [] = ([], 30)) := rfl
    generalize decS [] = R at *
    rw [List.length_nil] at hl ⊢
    go_enter Try.func12, Try.ntmps12
    go_wp2_with fail
    go_ret2
    exact ⟨none, 0, [], 30, HF, rfl, .inl rfl, by simp, by simp, by simp, fun _ => rfl, Kp.refl _ _⟩
  | cons f r =>
    obtain ⟨g, o, rfl, hc⟩ : ∃ g o, a = some ⟨g, o, none⟩ ∧ ∀ j u, (f :: r)[j]? = some u → w.cell? ⟨g, o + j, none⟩ = some (.int .u8 u.toNat) := by
      rcases hs with h | h
      · cases h
      · exact h
    have hc0 : w.cell? ⟨g, o, none⟩ = some (.int .u8 f.toNat) := hc 0 f rfl
    have hg : g < w.heap.size := World.block_lt_of_cell? _ _ hc0
    have hf := f.toNat_lt
    unfold maxLen at hm
    have hne : (((r.length : Int) + 1) == 0) = false := by simp; omega
    by_cases h16 : 16 < f.toNat
    · have HF : Hid (decS (f :: r) = ([], 30)) := by show _ = _; simp [decS, h16]
      have h16' : decide ((16 : Int) < (f.toNat : Int)) = true := by simp; omega
      rw [List.length_cons] at hl ⊢
      generalize decS (f :: r) = R at *
      clear hc hs
      go_enter Try.func12, Try.ntmps12
      go_wp2_with fail
      go_ret2
      exact ⟨none, 0, [], 30, HF, rfl, .inl rfl, by simp, by simp, by simp, fun _ => rfl, Kp.refl _ _⟩
    · clear hc
      have hn16 : f.toNat ≤ 16 := by omega
      have HF : Hid (decS (f :: r) = decO (decL f.toNat r)) := by show _ = _; simp only [decS, if_neg h16]
      have h16' : decide ((16 : Int) < (f.toNat : Int)) = false := by simp; omega
      generalize decS (f :: r) = R at *
      have hse : Sees w (some ⟨g, o, none⟩) (f :: r) := hs
      obtain ⟨full, Hfull⟩ : ∃ full : List UInt8, Hid (f :: r = full) := ⟨_, rfl⟩
      have hd0 : Hid (full.drop 1 = r) := by show _ = _; rw [← Hfull.out]; rfl
      have hfl : full.length = r.length + 1 := by rw [← Hfull.out]; rfl
      rw [Hfull.out] at hl hse ⊢
      have hfl' := hid hfl
      have hfp : 1 ≤ full.length := by omega
      have hne' : ((full.length : Int) == 0) = false := beq_eq_false_iff_ne.2 (by omega)
      clear hfl hs h16 Hfull hne
      generalize f.toNat = n at *
      go_enter Try.func12, Try.ntmps12
      go_wp2_with fail
      go_loopw [4, 5, 6] (fun v p i wn => ∃ (j at' : Nat) (dn : List Val) (a' : Option Addr) (c' : Nat), j ≤ n ∧ i = .int .i64 j ∧ p = .int .i64 at' ∧ at' ≤ full.length ∧ v = .slice a' dn.length c' ∧ RowV w wn (.slice a' dn.length c') dn ∧ Hid (dn.length = j) ∧ Hid ((decL (n - j) (full.drop at')).map (dn ++ ·) = decL n r) ∧ Kp [] w wn) (fun _ _ i _ => n - (intOf i).toNat)
      case atStart => exact ⟨0, 1, [], none, 0, Nat.zero_le _, rfl, rfl, hfp, rfl, RowV.nil _ _, rfl, by show _ = _; rw [hd0.out]; simp, Kp.refl _ _⟩
      case round =>
        obtain ⟨j, at', dn, a', c', hj, rfl, rfl, hat, rfl, hrv, hdl, hdec, hk⟩ := hrel
        have hcn : wr.cell? ⟨g, o, none⟩ = some (.int .u8 n) := kpAt hk hc0
        have hdn : dn.length ≤ 16 := by have := hdl.out; omega
        by_cases hjm : j < n
        · obtain ⟨q, hq⟩ : ∃ q, n - j = q + 1 := ⟨n - j - 1, by omega⟩
          have hq' := hid hq
          rw [hq, decL_step] at hdec
          have hsA : Sees wr (some ⟨g, o + at', none⟩) (full.drop at') := by have := Sees.tail (seesKeep hse hk) at'; simpa [Addr.add_lit] using this
          have hle := rowF_le (full.drop at')
          have hT : ∀ A : Option Addr, Sees wr A (full.drop at') → Calls Try.prog 29 #[.slice A (full.length - at') (c - at')] wr (Tk wr (rowF (full.drop at'))) := by
            intro A hA
            have := cFront A (c - at') (full.drop at') wr hA (by simp; omega) (by unfold maxLen; omega)
            rwa [List.length_drop] at this
          have hS0 : at' = c → Sees wr (some ⟨g, o, none⟩) (full.drop at') := fun h => by rw [List.drop_eq_nil_of_le (by omega)]; exact .inl rfl
          have hdd : ∀ k, (full.drop at').drop k = full.drop (at' + k) := fun k => by rw [List.drop_drop]
          rw [List.length_drop] at hle
          generalize hR' : rowF (full.drop at') = rr at *
          obtain ⟨x, sz⟩ := rr
          dsimp only at hle hdec
          rw [hdd] at hdec
          unfold Tk at hT
          dsimp only at hT
          have hxv : Hid (x.v = .agg #[.int .i64 x.k, .bool x.b, .int .i64 x.n, .string x.t]) := rfl
          rw [hxv.out] at hT
          have hCall : ∃ A : Option Addr, A = (if at' = c then some ⟨g, o, none⟩ else some ⟨g, o + at', none⟩) ∧ Calls Try.prog 29 #[.slice A (full.length - at') (c - at')] wr _ := ⟨_, rfl, hT _ (by split; exact hS0 (by assumption); exact hsA)⟩
          clear hT hS0 hsA hR' hdd hxv hq
          obtain ⟨A, hA, hT⟩ := hCall
          by_cases hac : at' = c
          · rw [if_pos hac] at hA
            subst hA
            obtain rfl : sz = 0 := by omega
            subst hac
            have hfe : full.length = at' := by omega
            have hfe' := hid hfe
            clear hle hat hl
            rw [hfe, Nat.sub_self] at hT
            have HE : Hid (R = ([], 30)) := by show _ = _; rw [HF.out, ← hdec.out]; rfl
            clear hdec HF
            go_wp2_with fail
            refine hT.mono ?_
            rintro e w1 ⟨rfl, k1⟩
            go_wp2_with fail
            go_ret2
            exact ⟨none, 0, [], 30, HE, rfl, .inl rfl, by simp, by simp, by simp, fun _ => rfl, (hk.trans k1 (by simp)).alloc _⟩
          · rw [if_neg hac] at hA
            subst hA
            go_wp2_with fail
            refine hT.mono ?_
            rintro e w1 ⟨rfl, k1⟩
            by_cases hsz : sz = 0
            · subst hsz
              have HE : Hid (R = ([], 30)) := by show _ = _; rw [HF.out, ← hdec.out]; rfl
              clear hdec HF
              go_wp2_with fail
              go_ret2
              exact ⟨none, 0, [], 30, HE, rfl, .inl rfl, by simp, by simp, by simp, fun _ => rfl, (hk.trans k1 (by simp)).alloc _⟩
            · have hsz' : ((sz : Int) == 0) = false := by simp; omega
              rw [if_neg hsz] at hdec
              have kN := (hk.trans k1 (by simp)).alloc (.cells #[.int .i64 x.k, .bool x.b, .int .i64 x.n, .string x.t] 34)
              have hrv1 := (hrv.kept k1).kept (kpNew _ (.cells #[.int .i64 x.k, .bool x.b, .int .i64 x.n, .string x.t] 34))
              have hrv2 := hrv1.kept (kpNew _ (.cells #[.int .i64 x.k, .bool x.b, .int .i64 x.n, .string x.t] 34))
              have hv1 := valsOne (w1.alloc (.cells #[.int .i64 x.k, .bool x.b, .int .i64 x.n, .string x.t] 34)) x 34 (q := w1.heap.size + 1) (by simp)
              have kN2 := kN.alloc (.cells #[.int .i64 x.k, .bool x.b, .int .i64 x.n, .string x.t] 34)
              go_wp2_with (at_builtin; refine wpAppendV rfl _ _ rfl w (.slice a' dn.length c') dn rfl hrv2 (some ⟨w1.heap.size + 1, 0, none⟩) 1 1 [x] rfl rfl hv1 (fun h => by cases h) (by simp; omega) kN2 ?_)
              intro v2 w2 hr2 k2
              obtain ⟨a2, c2, rfl, hv2, hc2, hm2⟩ := hr2.vals
              have hD : Hid (Option.map (fun x_1 => dn ++ [x] ++ x_1) (decL (n - (j + 1)) (full.drop (at' + sz))) = decL n r) := by show _ = _; rw [show n - (j + 1) = q by have := hq'.out; omega]; exact hdec.out
              have hdl2 : Hid ((dn ++ [x]).length = j + 1) := by show _ = _; simp [hdl.out]
              clear hdec
              generalize dn ++ [x] = dn2 at *
              go_wp2_with fail
              exact ⟨⟨j + 1, at' + sz, dn2, a2, c2, by omega, by go_num, by go_num, by omega, rfl, hr2, hdl2, hD, k2⟩, by simp [intOf]; omega⟩
        · obtain rfl : j = n := by omega
          rw [Nat.sub_self] at hdec
          obtain ⟨a2, c2, hv, hv2, hc2, hm2⟩ := hrv.vals
          cases hv
          have hnil : a' = none → c' = 0 := by
            obtain ⟨_, ⟨h, _⟩ | ⟨g', cap, cur, h, _⟩⟩ := hrv
            · simp only [Value.slice.injEq] at h; exact fun _ => h.2.2
            · simp only [Value.slice.injEq] at h; exact fun hn => by rw [h.1] at hn; cases hn
          by_cases hat2 : at' < full.length
          · have HE : Hid (R = ([], 30)) := by
              show _ = _
              rw [HF.out, ← hdec.out, decL, if_neg (by intro h; have := congrArg List.length h; simp at this; omega)]
              rfl
            clear hdec HF
            go_wp2_with fail
            go_ret2
            exact ⟨none, 0, [], 30, HE, rfl, .inl rfl, by simp, by simp, by simp, fun _ => rfl, hk⟩
          · have HE : Hid (R = (dn, 0)) := by
              show _ = _
              rw [HF.out, ← hdec.out, List.drop_eq_nil_of_le (by omega)]
              simp [decL, decO]
            clear hdec HF
            go_wp2_with fail
            go_ret2
            exact ⟨_, _, dn, 0, HE, rfl, hv2, hdn, hc2, hm2, hnil, hk⟩
end Go.Proofs.Ytkmcdngeddiocaa

/- What a key's bytes begin with: the program's takeKey. -/
import Derived.Test.YtlehalhficlenaaRkdf
import Derived.Test.YtlehalhficlenaaRlpf
namespace Go.Proofs.Ytlehalhficlenaa
open Go.RowKit Go.Hay
set_option linter.unusedVariables false
set_option linter.unusedSimpArgs false

set_option maxHeartbeats 8000000 in
set_option maxRecDepth 100000 in
theorem cTakeKey (a : Option Addr) (c : Nat) (bs : List UInt8) (w : World) (hs : Sees w a bs) (hl : bs.length ≤ c) (hm : c ≤ maxLen) (hb : bs.length ≤ 140737488351232) :
    Calls Try.prog 20 #[.slice a bs.length c] w (Tk w (keyF bs)) := by
  have kW : Kp [] w (w.alloc (.cells #[.int .i64 0, .bool false, .int .i64 0, .string ⟨#[]⟩] 35)) := (Kp.refl _ _).alloc _
  have bA := Box4.new w (.int .i64 0) (.bool false) (.int .i64 0) (.string ⟨#[]⟩) 35
  have hT := fun w' (k : Kp [] w w') => cTakeFixed a c bs 9223372036854775808 w' (seesKeep hs k) hl hm
  cases bs with
  | nil =>
    rw [show keyF [] = fixF 9223372036854775808 [] from rfl]
    rw [List.length_nil] at hT ⊢
    generalize fixF 9223372036854775808 _ = R at *
    obtain ⟨⟨xk, xb, xn, xt⟩, n⟩ := R
    unfold Tk Val.v at hT ⊢
    dsimp only at hT ⊢
    go_enter Try.func20, Try.ntmps20
    go_wp2_with fail
    refine (hT _ kW).mono ?_
    rintro e w1 ⟨rfl, k1⟩
    have bA1 := boxKeep bA k1
    have q0 := bA1.c0; have q1 := bA1.c1; have q2 := bA1.c2; have q3 := bA1.c3
    have f0 := bA1.free 0; have f1 := bA1.free 1; have f2 := bA1.free 2; have f3 := bA1.free 3
    have kk := kW.trans k1 (by simp)
    go_wp2_with fail
    refine gen4 (R := fun W => bodyPost _ _ _ _ _ W) bA1 kk (Nat.le_refl _) _ _ _ _ ?_
    intro W bW kW2
    have r0 := bW.c0; have r1 := bW.c1; have r2 := bW.c2; have r3 := bW.c3
    refine bodyPost_ret (v := .tuple #[Val.v ⟨xk, xb, xn, xt⟩, .int .i64 n]) (by simp [results, Try.results20, go_sem, Val.v, nilV, r0, r1, r2, r3]) rfl ⟨?_, kW2⟩
    rfl
  | cons f r =>
    obtain ⟨g, o, rfl, hc⟩ : ∃ g o, a = some ⟨g, o, none⟩ ∧ ∀ j u, (f :: r)[j]? = some u → w.cell? ⟨g, o + j, none⟩ = some (.int .u8 u.toNat) := by
      rcases hs with h | h
      · cases h
      · exact h
    have hf0 : w.cell? ⟨g, o, none⟩ = some (.int .u8 f.toNat) := hc 0 f rfl
    have hg : g < w.heap.size := World.block_lt_of_cell? _ _ hf0
    have hf := f.toNat_lt
    clear hc
    by_cases h3 : f.toNat = 3
    · have HF : Hid (keyF (f :: r) = textV (short (scanK r))) := by show _ = _; simp only [keyF, if_pos h3]
      clear hT
      rw [h3] at hf0
      have hse : Sees w (some ⟨g, o, none⟩) (f :: r) := hs
      obtain ⟨full, Hfull⟩ : ∃ full : List UInt8, Hid (f :: r = full) := ⟨_, rfl⟩
      have hd0 : Hid (full.drop 1 = r) := by show _ = _; rw [← Hfull.out]; rfl
      have hfp : 1 ≤ full.length := by rw [← Hfull.out]; simp
      rw [Hfull.out] at hl hb hse HF ⊢
      have hne' : ((full.length : Int) == 0) = false := beq_eq_false_iff_ne.2 (by omega)
      unfold maxLen at hm
      generalize keyF full = R at *
      have HF : Hid (R = textV (short (scanK r))) := by show _ = _; exact HF.out
      clear Hfull hs h3 hf
      go_enter Try.func20, Try.ntmps20
      go_wp2_with fail
      generalize hWW : w.alloc (.cells #[.int .i64 0, .bool false, .int .i64 0, .string ⟨#[]⟩] 35) = W at *
      have hWs : w.heap.size < W.heap.size := by rw [← hWW]; simp
      clear hWW
      go_loopw [4, 5] (fun v i wn => ∃ (q : Nat) (t0 : List UInt8) (a' : Option Addr) (c' : Nat), 1 ≤ q ∧ q ≤ full.length ∧ i = .int .i64 q ∧ v = .slice a' t0.length c' ∧ t0.length ≤ 65 ∧ Row wn (.slice a' t0.length c') t0 ∧ Hid (fromK t0 (q - 1) (scanK (full.drop q)) = scanK r) ∧ New W (.slice a' t0.length c') wn ∧ Box4 wn w.heap.size (.int .i64 0) (.bool false) (.int .i64 0) (.string ⟨#[]⟩)) (fun _ i _ => full.length - (intOf i).toNat)
      case atStart => exact ⟨1, [], none, 0, Nat.le_refl _, by omega, rfl, rfl, by simp, Row.nil _, by show _ = _; rw [hd0.out]; exact fromK_zero _, New.nil (Kp.refl _ _) _, bA⟩
      case round =>
        obtain ⟨q, t0, a', c', hq1, hqf, rfl, rfl, ht0, hrow, hsc, hN, bB⟩ := hrel
        have kN := kW.trans hN.kp (by simp)
        have hno : w.heap.size ∉ own (.slice a' t0.length c') := fun h => by have := hN.own _ h; omega
        have hsb := seesKeep hse kN
        have hcell : ∀ j (h : j < full.length), wr.cell? ⟨g, o + j, none⟩ = some (.int .u8 full[j].toNat) := fun j h => by
          rcases hsb with h' | ⟨_, _, h', hh⟩
          · rw [h'] at h; simp at h
          · cases h'; exact hh j _ (by simp)
        by_cases hq : q + 1 < full.length
        · by_cases h64 : t0.length ≤ 64
          · have hc := hcell q (by omega)
            have hd := hcell (q + 1) hq
            have h1 := scan_one full q hq
            have h2 := scan_end full q hq
            have h3 := scan_nul full q hq
            have h4 := scan_bad full q hq
            generalize full[q]'(by omega) = c0 at *
            generalize full[q + 1] = d0 at *
            have hc8 := c0.toNat_lt
            have hd8 := d0.toNat_lt
            clear hcell hsb
            by_cases hc0 : c0.toNat = 0
            · have cc : wr.cell? ⟨g, o + q, none⟩ = some (.int .u8 0) := by rw [hc, hc0]; rfl
              by_cases hd0' : d0.toNat = 0
              · have cd : wr.cell? ⟨g, o + (q + 1), none⟩ = some (.int .u8 0) := by rw [hd, hd0']; rfl
                have HE : Hid (R = (⟨3, false, 0, ⟨t0.toArray⟩⟩, q + 2)) := by
                  show _ = _
                  rw [HF.out, ← hsc.out, h2 hc0 hd0']
                  simp [fromK, short, textV, h64]; omega
                have hcv := convSees (rowSees hrow).1 c'
                generalize (⟨t0.toArray⟩ : ByteArray) = T at *
                clear hc hd h1 h2 h3 h4
                go_wp2_with fail
                refine (cText T _).mono ?_
                rintro e w1 ⟨rfl, k1⟩
                have bB := boxKeep bB k1
                have kN := kN.trans k1 (by simp)
                have x0 := bB.c0; have x1 := bB.c1; have x2 := bB.c2; have x3 := bB.c3
                have y0 := bB.free 0; have y1 := bB.free 1; have y2 := bB.free 2; have y3 := bB.free 3
                go_wp2_with fail
                refine gen4 (R := fun W => bodyPost _ _ _ _ _ W) bB kN (Nat.le_refl _) _ _ _ _ ?_
                intro W' bW' kW2
                have r0 := bW'.c0; have r1 := bW'.c1; have r2 := bW'.c2; have r3 := bW'.c3
                refine bodyPost_ret (v := .tuple #[Val.v ⟨3, false, 0, T⟩, .int .i64 ((q : Int) + 1 + 1)]) (by simp [results, Try.results20, go_sem, Val.v, nilV, r0, r1, r2, r3]) rfl ⟨?_, kW2⟩
                rw [HE.out]; rfl
              · by_cases hd5 : d0.toNat = 255
                · have cd : wr.cell? ⟨g, o + (q + 1), none⟩ = some (.int .u8 255) := by rw [hd, hd5]; rfl
                  have H : Hid (fromK (t0 ++ [0]) (q + 2 - 1) (scanK (full.drop (q + 2))) = scanK r) := by show _ = _; rw [← hsc.out, h3 hc0 hd5, fromK_cons, show q - 1 + 2 = q + 2 - 1 by omega]
                  clear hc hd h1 h2 h3 h4 hsc
                  go_wp2_with (at_builtin; refine wpAppR rfl _ _ rfl _ t0 rfl (rowKeep hrow (kpNew _ _)) _ _ _ [octet 0] rfl rfl (seesOne _ (by simp) 0 (by omega) (by omega) _) (by simp; omega) ?_)
                  intro t1 a1 c1 w1 ht1 hl1 hr1 hg1
                  have hl1' : t1.length ≤ t0.length + 1 := hl1
                  have hN1 := (hN.post (kpNew _ _)).grew hg1
                  have bC := boxGrew (boxKeep bB (kpNew _ _)) hg1 hno
                  have H1 : Hid (fromK t1 (q + 2 - 1) (scanK (full.drop (q + 2))) = scanK r) := by show _ = _; rw [ht1.out]; exact H.out
                  clear hl1
                  go_wp2_with fail
                  exact ⟨⟨q + 2, t1, a1, c1, by omega, by omega, by go_num, rfl, by omega, hr1, H1, hN1, bC⟩, by simp [intOf]; omega⟩
                · have e1 : ((d0.toNat : Int) == 0) = false := by simp; omega
                  have e2 : ((d0.toNat : Int) == 255) = false := by simp; omega
                  have e3 : ((d0.toNat : Int) != 255) = true := by simp; omega
                  have HE : Hid (R = (nilV, 0)) := by show _ = _; rw [HF.out, ← hsc.out, h4 hc0 hd0' hd5]; rfl
                  clear hc h1 h2 h3 h4 hsc
                  have x0 := bB.c0; have x1 := bB.c1; have x2 := bB.c2; have x3 := bB.c3
                  have y0 := bB.free 0; have y1 := bB.free 1; have y2 := bB.free 2; have y3 := bB.free 3
                  go_wp2_with fail
                  refine gen4 (R := fun W => bodyPost _ _ _ _ _ W) bB kN (Nat.le_refl _) _ _ _ _ ?_
                  intro W' bW' kW2
                  have r0 := bW'.c0; have r1 := bW'.c1; have r2 := bW'.c2; have r3 := bW'.c3
                  refine bodyPost_ret (v := .tuple #[Val.v nilV, .int .i64 0]) (by simp [results, Try.results20, go_sem, Val.v, nilV, r0, r1, r2, r3]) rfl ⟨?_, kW2⟩
                  rw [HE.out]; rfl
            · have e1 : ((c0.toNat : Int) == 0) = false := by simp; omega
              have e2 : ((c0.toNat : Int) != 0) = true := by simp; omega
              have H : Hid (fromK (t0 ++ [c0]) (q + 1 - 1) (scanK (full.drop (q + 1))) = scanK r) := by show _ = _; rw [← hsc.out, h1 hc0, fromK_cons, show q - 1 + 1 = q + 1 - 1 by omega]
              clear hd h1 h2 h3 h4 hsc
              go_wp2_with (at_builtin; refine wpAppR rfl _ _ rfl _ t0 rfl (rowKeep hrow (kpNew _ _)) _ _ _ [octet c0.toNat] rfl rfl (seesOne _ (by simp) c0.toNat (by omega) (by omega) _) (by simp; omega) ?_)
              intro t1 a1 c1 w1 ht1 hl1 hr1 hg1
              have hl1' : t1.length ≤ t0.length + 1 := hl1
              have hN1 := (hN.post (kpNew _ _)).grew hg1
              have bC := boxGrew (boxKeep bB (kpNew _ _)) hg1 hno
              have H1 : Hid (fromK t1 (q + 1 - 1) (scanK (full.drop (q + 1))) = scanK r) := by show _ = _; rw [ht1.out, octet_nat]; exact H.out
              clear hl1
              go_wp2_with fail
              exact ⟨⟨q + 1, t1, a1, c1, by omega, by omega, by go_num, rfl, by omega, hr1, H1, hN1, bC⟩, by simp [intOf]; omega⟩
          · have HE : Hid (R = (nilV, 0)) := by show _ = _; rw [HF.out, ← hsc.out, short_long _ _ _ (by omega)]; rfl
            clear hcell hsb hsc
            have x0 := bB.c0; have x1 := bB.c1; have x2 := bB.c2; have x3 := bB.c3
            have y0 := bB.free 0; have y1 := bB.free 1; have y2 := bB.free 2; have y3 := bB.free 3
            go_wp2_with fail
            refine gen4 (R := fun W => bodyPost _ _ _ _ _ W) bB kN (Nat.le_refl _) _ _ _ _ ?_
            intro W' bW' kW2
            have r0 := bW'.c0; have r1 := bW'.c1; have r2 := bW'.c2; have r3 := bW'.c3
            refine bodyPost_ret (v := .tuple #[Val.v nilV, .int .i64 0]) (by simp [results, Try.results20, go_sem, Val.v, nilV, r0, r1, r2, r3]) rfl ⟨?_, kW2⟩
            rw [HE.out]; rfl
        · have HE : Hid (R = (nilV, 0)) := by show _ = _; rw [HF.out, ← hsc.out, scan_short full q hq]; rfl
          clear hcell hsb hsc
          have x0 := bB.c0; have x1 := bB.c1; have x2 := bB.c2; have x3 := bB.c3
          have y0 := bB.free 0; have y1 := bB.free 1; have y2 := bB.free 2; have y3 := bB.free 3
          go_wp2_with fail
          refine gen4 (R := fun W => bodyPost _ _ _ _ _ W) bB kN (Nat.le_refl _) _ _ _ _ ?_
          intro W' bW' kW2
          have r0 := bW'.c0; have r1 := bW'.c1; have r2 := bW'.c2; have r3 := bW'.c3
          refine bodyPost_ret (v := .tuple #[Val.v nilV, .int .i64 0]) (by simp [results, Try.results20, go_sem, Val.v, nilV, r0, r1, r2, r3]) rfl ⟨?_, kW2⟩
          rw [HE.out]; rfl
    · have e3 : ((f.toNat : Int) == 3) = false := by simp; omega
      have e3' : ((f.toNat : Int) != 3) = true := by simp; omega
      rw [show keyF (f :: r) = fixF 9223372036854775808 (f :: r) by simp only [keyF, if_neg h3]]
      rw [List.length_cons] at hl hT ⊢
      unfold maxLen at hm
      clear hs hf
      generalize fixF 9223372036854775808 _ = R at *
      obtain ⟨⟨xk, xb, xn, xt⟩, n⟩ := R
      unfold Tk Val.v at hT ⊢
      dsimp only at hT ⊢
      go_enter Try.func20, Try.ntmps20
      go_wp2_with fail
      refine (hT _ kW).mono ?_
      rintro e w1 ⟨rfl, k1⟩
      have bA1 := boxKeep bA k1
      have q0 := bA1.c0; have q1 := bA1.c1; have q2 := bA1.c2; have q3 := bA1.c3
      have f0 := bA1.free 0; have f1 := bA1.free 1; have f2 := bA1.free 2; have f3 := bA1.free 3
      have kk := kW.trans k1 (by simp)
      go_wp2_with fail
      refine gen4 (R := fun W => bodyPost _ _ _ _ _ W) bA1 kk (Nat.le_refl _) _ _ _ _ ?_
      intro W bW kW2
      have r0 := bW.c0; have r1 := bW.c1; have r2 := bW.c2; have r3 := bW.c3
      refine bodyPost_ret (v := .tuple #[Val.v ⟨xk, xb, xn, xt⟩, .int .i64 n]) (by simp [results, Try.results20, go_sem, Val.v, nilV, r0, r1, r2, r3]) rfl ⟨?_, kW2⟩
      rfl
end Go.Proofs.Ytlehalhficlenaa

/- What a key's bytes begin with: the reference's front. -/
import Derived.Test.YtlehalhficlenaaRkdf
import Derived.Test.YtlehalhficlenaaRlpf
import Derived.Test.YtlehalhficlenaaRfrr
namespace Go.Proofs.Ytlehalhficlenaa
open Go.RowKit Go.Hay
set_option linter.unusedVariables false
set_option linter.unusedSimpArgs false

set_option maxHeartbeats 8000000 in
set_option maxRecDepth 100000 in
theorem cFrontT (c : Nat) (f : UInt8) (r : List UInt8) (w : World) (g o : Nat) (hs : Sees w (some ⟨g, o, none⟩) (f :: r)) (hl : (f :: r).length ≤ c) (hm : c ≤ maxLen) (hb : (f :: r).length ≤ 140737488351232) (h3 : f.toNat = 3) (hf0 : w.cell? ⟨g, o, none⟩ = some (.int .u8 f.toNat)) (hg : g < w.heap.size) (hf : f.toNat < 2 ^ 8) :
    Calls Try.prog 21 #[.slice (some ⟨g, o, none⟩) (f :: r).length c] w (Tk w (frtK (f :: r))) := by
  have kW : Kp [] w (w.alloc (.cells #[.int .i64 0, .bool false, .int .i64 0, .string ⟨#[]⟩] 35)) := (Kp.refl _ _).alloc _
  have bA := Box4.new w (.int .i64 0) (.bool false) (.int .i64 0) (.string ⟨#[]⟩) 35
  have HF : Hid (frtK (f :: r) = textV (scanK r)) := by show _ = _; simp only [frtK, if_pos h3]
  rw [h3] at hf0
  have hse : Sees w (some ⟨g, o, none⟩) (f :: r) := hs
  obtain ⟨full, Hfull⟩ : ∃ full : List UInt8, Hid (f :: r = full) := ⟨_, rfl⟩
  have hd0 : Hid (full.drop 1 = r) := by show _ = _; rw [← Hfull.out]; rfl
  have hfp : 1 ≤ full.length := by rw [← Hfull.out]; simp
  rw [Hfull.out] at hl hb hse HF ⊢
  have hne' : ((full.length : Int) == 0) = false := beq_eq_false_iff_ne.2 (by omega)
  unfold maxLen at hm
  generalize frtK full = R at *
  have HF : Hid (R = textV (scanK r)) := by show _ = _; exact HF.out
  clear Hfull hs h3 hf
  go_enter Try.func21, Try.ntmps21
  go_wp2_with fail
  generalize hWW : w.alloc (.cells #[.int .i64 0, .bool false, .int .i64 0, .string ⟨#[]⟩] 35) = W at *
  have hWs : w.heap.size < W.heap.size := by rw [← hWW]; simp
  clear hWW
  go_loopw [4, 5] (fun v i wn => ∃ (q : Nat) (t0 : List UInt8) (a' : Option Addr) (c' : Nat), 1 ≤ q ∧ q ≤ full.length ∧ i = .int .i64 q ∧ v = .slice a' t0.length c' ∧ t0.length ≤ q ∧ Row wn (.slice a' t0.length c') t0 ∧ Hid (fromK t0 (q - 1) (scanK (full.drop q)) = scanK r) ∧ New W (.slice a' t0.length c') wn ∧ Box4 wn w.heap.size (.int .i64 0) (.bool false) (.int .i64 0) (.string ⟨#[]⟩)) (fun _ i _ => full.length - (intOf i).toNat)
  case atStart => exact ⟨1, [], none, 0, Nat.le_refl _, by omega, rfl, rfl, by simp, Row.nil _, by show _ = _; rw [hd0.out]; exact fromK_zero _, New.nil (Kp.refl _ _) _, bA⟩
  case round =>
    obtain ⟨q, t0, a', c', hq1, hqf, rfl, rfl, ht0, hrow, hsc, hN, bB⟩ := hrel
    have kN := kW.trans hN.kp (by simp)
    have hno : w.heap.size ∉ own (.slice a' t0.length c') := fun h => by have := hN.own _ h; omega
    have hsb := seesKeep hse kN
    have hcell : ∀ j (h : j < full.length), wr.cell? ⟨g, o + j, none⟩ = some (.int .u8 full[j].toNat) := fun j h => by
      rcases hsb with h' | ⟨_, _, h', hh⟩
      · rw [h'] at h; simp at h
      · cases h'; exact hh j _ (by simp)
    by_cases hq : q + 1 < full.length
    · have hc := hcell q (by omega)
      have hd := hcell (q + 1) hq
      have h1 := scan_one full q hq
      have h2 := scan_end full q hq
      have h3 := scan_nul full q hq
      have h4 := scan_bad full q hq
      generalize hce : full[q]'(by omega) = c0 at *
      generalize full[q + 1] = d0 at *
      have hc8 := c0.toNat_lt
      have hd8 := d0.toNat_lt
      clear hcell hsb
      have HCE := hid hce
      clear hce
      by_cases hc0 : c0.toNat = 0
      · have cc : wr.cell? ⟨g, o + q, none⟩ = some (.int .u8 0) := by rw [hc, hc0]; rfl
        by_cases hd0' : d0.toNat = 0
        · have cd : wr.cell? ⟨g, o + (q + 1), none⟩ = some (.int .u8 0) := by rw [hd, hd0']; rfl
          have HE : Hid (R = (⟨3, false, 0, ⟨t0.toArray⟩⟩, q + 2)) := by
            show _ = _
            rw [HF.out, ← hsc.out, h2 hc0 hd0']
            simp [fromK, textV]; omega
          have hcv := convSees (rowSees hrow).1 c'
          generalize (⟨t0.toArray⟩ : ByteArray) = T at *
          clear hc hd h1 h2 h3 h4
          have x0 := bB.c0; have x1 := bB.c1; have x2 := bB.c2; have x3 := bB.c3
          have y0 := bB.free 0; have y1 := bB.free 1; have y2 := bB.free 2; have y3 := bB.free 3
          go_wp2_with fail
          refine gen4 (R := fun W => bodyPost _ _ _ _ _ W) bB kN (Nat.le_refl _) _ _ _ _ ?_
          intro W' bW' kW2
          have r0 := bW'.c0; have r1 := bW'.c1; have r2 := bW'.c2; have r3 := bW'.c3
          refine bodyPost_ret (v := .tuple #[Val.v ⟨3, false, 0, T⟩, .int .i64 ((q : Int) + 2)]) (by simp [results, Try.results21, go_sem, Val.v, nilV, r0, r1, r2, r3]) rfl ⟨?_, kW2⟩
          rw [HE.out]; rfl
        · by_cases hd5 : d0.toNat = 255
          · have cd : wr.cell? ⟨g, o + (q + 1), none⟩ = some (.int .u8 255) := by rw [hd, hd5]; rfl
            have H : Hid (fromK (t0 ++ [0]) (q + 2 - 1) (scanK (full.drop (q + 2))) = scanK r) := by show _ = _; rw [← hsc.out, h3 hc0 hd5, fromK_cons, show q - 1 + 2 = q + 2 - 1 by omega]
            clear hc hd h1 h2 h3 h4 hsc
            go_wp2_with (at_builtin; refine wpAppR rfl _ _ rfl _ t0 rfl (rowKeep hrow (kpNew _ _)) _ _ _ [octet 0] rfl rfl (seesOne _ (by simp) 0 (by omega) (by omega) _) (by simp; omega) ?_)
            intro t1 a1 c1 w1 ht1 hl1 hr1 hg1
            have hl1' : t1.length ≤ t0.length + 1 := hl1
            have hN1 := (hN.post (kpNew _ _)).grew hg1
            have bC := boxGrew (boxKeep bB (kpNew _ _)) hg1 hno
            have H1 : Hid (fromK t1 (q + 2 - 1) (scanK (full.drop (q + 2))) = scanK r) := by show _ = _; rw [ht1.out]; exact H.out
            clear hl1
            have hk1 := kW.trans hN1.kp (by simp)
            have hv1 : w1.cell? ⟨g, o + q, none⟩ = some (.int .u8 0) := by
              rcases seesKeep hse hk1 with h' | ⟨_, _, h', hh⟩
              · rw [h'] at hq; simp at hq
              · cases h'; have := hh q (full[q]'(by omega)) (by simp); rw [this, HCE.out, hc0]; rfl
            go_wp2_with fail
            exact ⟨⟨q + 2, t1, a1, c1, by omega, by omega, by go_num, rfl, by omega, hr1, H1, hN1, bC⟩, by simp [intOf]; omega⟩
          · have e1 : ((d0.toNat : Int) == 0) = false := by simp; omega
            have e2 : ((d0.toNat : Int) == 255) = false := by simp; omega
            have e3 : ((d0.toNat : Int) != 255) = true := by simp; omega
            have HE : Hid (R = (nilV, 0)) := by show _ = _; rw [HF.out, ← hsc.out, h4 hc0 hd0' hd5]; rfl
            clear hc h1 h2 h3 h4 hsc
            have x0 := bB.c0; have x1 := bB.c1; have x2 := bB.c2; have x3 := bB.c3
            have y0 := bB.free 0; have y1 := bB.free 1; have y2 := bB.free 2; have y3 := bB.free 3
            go_wp2_with fail
            refine gen4 (R := fun W => bodyPost _ _ _ _ _ W) bB kN (Nat.le_refl _) _ _ _ _ ?_
            intro W' bW' kW2
            have r0 := bW'.c0; have r1 := bW'.c1; have r2 := bW'.c2; have r3 := bW'.c3
            refine bodyPost_ret (v := .tuple #[Val.v nilV, .int .i64 0]) (by simp [results, Try.results21, go_sem, Val.v, nilV, r0, r1, r2, r3]) rfl ⟨?_, kW2⟩
            rw [HE.out]; rfl
      · have e1 : ((c0.toNat : Int) == 0) = false := by simp; omega
        have e2 : ((c0.toNat : Int) != 0) = true := by simp; omega
        have H : Hid (fromK (t0 ++ [c0]) (q + 1 - 1) (scanK (full.drop (q + 1))) = scanK r) := by show _ = _; rw [← hsc.out, h1 hc0, fromK_cons, show q - 1 + 1 = q + 1 - 1 by omega]
        clear hd h1 h2 h3 h4 hsc
        go_wp2_with (at_builtin; refine wpAppR rfl _ _ rfl _ t0 rfl (rowKeep hrow (kpNew _ _)) _ _ _ [octet c0.toNat] rfl rfl (seesOne _ (by simp) c0.toNat (by omega) (by omega) _) (by simp; omega) ?_)
        intro t1 a1 c1 w1 ht1 hl1 hr1 hg1
        have hl1' : t1.length ≤ t0.length + 1 := hl1
        have hN1 := (hN.post (kpNew _ _)).grew hg1
        have bC := boxGrew (boxKeep bB (kpNew _ _)) hg1 hno
        have H1 : Hid (fromK t1 (q + 1 - 1) (scanK (full.drop (q + 1))) = scanK r) := by show _ = _; rw [ht1.out, octet_nat]; exact H.out
        clear hl1
        have hk1 := kW.trans hN1.kp (by simp)
        have hv1 : w1.cell? ⟨g, o + q, none⟩ = some (.int .u8 c0.toNat) := by
          rcases seesKeep hse hk1 with h' | ⟨_, _, h', hh⟩
          · rw [h'] at hq; simp at hq
          · cases h'; have := hh q (full[q]'(by omega)) (by simp); rw [this, HCE.out]
        go_wp2_with fail
        exact ⟨⟨q + 1, t1, a1, c1, by omega, by omega, by go_num, rfl, by omega, hr1, H1, hN1, bC⟩, by simp [intOf]; omega⟩
    · have HE : Hid (R = (nilV, 0)) := by show _ = _; rw [HF.out, ← hsc.out, scan_short full q hq]; rfl
      clear hcell hsb hsc
      have x0 := bB.c0; have x1 := bB.c1; have x2 := bB.c2; have x3 := bB.c3
      have y0 := bB.free 0; have y1 := bB.free 1; have y2 := bB.free 2; have y3 := bB.free 3
      go_wp2_with fail
      refine gen4 (R := fun W => bodyPost _ _ _ _ _ W) bB kN (Nat.le_refl _) _ _ _ _ ?_
      intro W' bW' kW2
      have r0 := bW'.c0; have r1 := bW'.c1; have r2 := bW'.c2; have r3 := bW'.c3
      refine bodyPost_ret (v := .tuple #[Val.v nilV, .int .i64 0]) (by simp [results, Try.results21, go_sem, Val.v, nilV, r0, r1, r2, r3]) rfl ⟨?_, kW2⟩
      rw [HE.out]; rfl

theorem fixF_small (a b : Int) (f : UInt8) (r : List UInt8) (h : f.toNat < 2) : fixF a (f :: r) = fixF b (f :: r) := by
  simp only [fixF]
  rcases (by omega : f.toNat = 0 ∨ f.toNat = 1) with h | h
  · rw [if_pos h, if_pos h]
  · have h0 : ¬ f.toNat = 0 := by omega
    rw [if_neg h0, if_neg h0, if_pos h, if_pos h]

set_option maxHeartbeats 8000000 in
set_option maxRecDepth 100000 in
theorem cFrontK (a : Option Addr) (c : Nat) (bs : List UInt8) (w : World) (hs : Sees w a bs) (hl : bs.length ≤ c) (hm : c ≤ maxLen) (hb : bs.length ≤ 140737488351232) :
    Calls Try.prog 21 #[.slice a bs.length c] w (Tk w (frtK bs)) := by
  have kW : Kp [] w (w.alloc (.cells #[.int .i64 0, .bool false, .int .i64 0, .string ⟨#[]⟩] 35)) := (Kp.refl _ _).alloc _
  have bA := Box4.new w (.int .i64 0) (.bool false) (.int .i64 0) (.string ⟨#[]⟩) 35
  have hT := fun w' (k : Kp [] w w') => cFront a c bs w' (seesKeep hs k) hl hm
  cases bs with
  | nil =>
    clear hT
    rw [List.length_nil] at hl ⊢
    go_enter Try.func21, Try.ntmps21
    go_wp2_with fail
    all_goals refine bodyPost_ret (v := .tuple #[Val.v nilV, .int .i64 0]) (by simp [results, Try.results21, go_sem, Val.v, nilV]) rfl ⟨?_, by first | exact kW | exact (Kp.refl _ _).alloc _⟩
    rfl
  | cons f r =>
    obtain ⟨g, o, rfl, hc⟩ : ∃ g o, a = some ⟨g, o, none⟩ ∧ ∀ j u, (f :: r)[j]? = some u → w.cell? ⟨g, o + j, none⟩ = some (.int .u8 u.toNat) := by
      rcases hs with h | h
      · cases h
      · exact h
    have hf0 : w.cell? ⟨g, o, none⟩ = some (.int .u8 f.toNat) := hc 0 f rfl
    have hg : g < w.heap.size := World.block_lt_of_cell? _ _ hf0
    have hf := f.toNat_lt
    clear hc
    by_cases h3 : f.toNat = 3
    · exact cFrontT c f r w g o hs hl hm hb h3 hf0 hg hf
    have e3 : ((f.toNat : Int) == 3) = false := by simp; omega
    have e3' : ((f.toNat : Int) != 3) = true := by simp; omega
    have hE : frtK (f :: r) = fixF 9223372036854775808 (f :: r) := by simp only [frtK, if_neg h3]
    have htl := fun n : Nat => (show Sees w (some ⟨g, o + 1, none⟩) (r.take n) by have := (Sees.tail hs 1).front n; simpa [Addr.add_lit] using this)
    have hne : (((r.length : Int) + 1) == 0) = false := by simp; omega
    by_cases h2 : f.toNat = 2
    · rw [h2] at hf0
      by_cases h8 : 8 ≤ r.length
      · have HF : Hid (frtK (f :: r) = (⟨2, false, wrap64 (num (r.take 8) - 9223372036854775808), ⟨#[]⟩⟩, 9)) := by show _ = _; rw [hE]; simp [fixF, h2, h8]
        have hs8 := fun w' (k : Kp [] w w') => seesKeep (htl 8) k
        have hlen8 : 8 = (r.take 8).length := by simp; omega
        have hN := fun w' (k : Kp [] w w') => cRefSaid _ 8 (c - 1) (r.take 8) w' (hs8 w' k) hlen8 (by simp; omega)
        have hnb := num_lt64 (r.take 8) (by simp; omega)
        rw [List.length_cons] at hl ⊢
        unfold maxLen at hm
        clear h2 h3 hs htl hf hs8 hlen8 hT hE e3 e3'
        generalize frtK (f :: r) = R at *
        generalize num (r.take 8) = m at *
        have hc9 : (9 : Nat) ≤ c := by omega
        have hww : wrap64 (IntKind.u64.wrap ((m : Int) - 9223372036854775808)) = wrap64 ((m : Int) - 9223372036854775808) := by rw [IntKind.wrap_u64]; unfold wrap64; omega
        generalize hz : wrap64 ((m : Int) - 9223372036854775808) = z at *
        clear hz
        go_enter Try.func21, Try.ntmps21
        go_wp2_with fail
        refine (hN _ kW).mono ?_
        rintro e w1 ⟨rfl, rfl⟩
        go_wp2_with fail
        all_goals refine bodyPost_ret (v := .tuple #[Val.v ⟨2, false, z, ⟨#[]⟩⟩, .int .i64 9]) (by simp [results, Try.results21, go_sem, Val.v, nilV]) rfl ⟨?_, by first | exact kW | exact (Kp.refl _ _).alloc _⟩
        all_goals (rw [HF.out]; rfl)
      · have HF : Hid (frtK (f :: r) = (nilV, 0)) := by show _ = _; rw [hE]; simp [fixF, h2, h8]
        have h8' : ¬ (8 : Int) < (r.length : Int) + 1 := by omega
        rw [List.length_cons] at hl ⊢
        unfold maxLen at hm
        clear h2 h3 hs htl hf hT hE e3 e3'
        generalize frtK (f :: r) = R at *
        go_enter Try.func21, Try.ntmps21
        go_wp2_with fail
        all_goals refine bodyPost_ret (v := .tuple #[Val.v nilV, .int .i64 0]) (by simp [results, Try.results21, go_sem, Val.v, nilV]) rfl ⟨?_, by first | exact kW | exact (Kp.refl _ _).alloc _⟩
        all_goals (rw [HF.out]; rfl)
    have e2 : ((f.toNat : Int) == 2) = false := by simp; omega
    by_cases h1 : f.toNat < 2
    · have e4 : frtK (f :: r) = rowF (f :: r) := by
        rw [hE, show rowF (f :: r) = fixF 0 (f :: r) by simp only [rowF, if_neg h3]]
        exact fixF_small _ _ f r h1
      have h1' : (f.toNat : Int) < 2 := by omega
      rw [e4]
      rw [List.length_cons] at hl hT ⊢
      unfold maxLen at hm
      clear hs htl hf hE e4 h2 h3 h1
      generalize rowF _ = R at *
      obtain ⟨⟨xk, xb, xn, xt⟩, n⟩ := R
      unfold Tk Val.v at hT ⊢
      dsimp only at hT ⊢
      go_enter Try.func21, Try.ntmps21
      go_wp2_with fail
      refine (hT _ kW).mono ?_
      rintro e w1 ⟨rfl, k1⟩
      have bA1 := boxKeep bA k1
      have q0 := bA1.c0; have q1 := bA1.c1; have q2 := bA1.c2; have q3 := bA1.c3
      have f0 := bA1.free 0; have f1 := bA1.free 1; have f2 := bA1.free 2; have f3 := bA1.free 3
      have kk := kW.trans k1 (by simp)
      go_wp2_with fail
      refine gen4 (R := fun W => bodyPost _ _ _ _ _ W) bA1 kk (Nat.le_refl _) _ _ _ _ ?_
      intro W bW kW2
      have r0 := bW.c0; have r1 := bW.c1; have r2 := bW.c2; have r3 := bW.c3
      refine bodyPost_ret (v := .tuple #[Val.v ⟨xk, xb, xn, xt⟩, .int .i64 n]) (by simp [results, Try.results21, go_sem, Val.v, nilV, r0, r1, r2, r3]) rfl ⟨?_, kW2⟩
      rfl
    · have HF : Hid (frtK (f :: r) = (nilV, 0)) := by show _ = _; rw [hE]; have z0 : ¬ f.toNat = 0 := by { omega }; have z1 : ¬ f.toNat = 1 := by { omega }; simp only [fixF]; rw [if_neg z0, if_neg z1, if_neg h2]
      have h1' : ¬ (f.toNat : Int) < 2 := by omega
      rw [List.length_cons] at hl ⊢
      unfold maxLen at hm
      clear hs htl hf hT hE h2 h3 h1
      generalize frtK (f :: r) = R at *
      go_enter Try.func21, Try.ntmps21
      go_wp2_with fail
      all_goals refine bodyPost_ret (v := .tuple #[Val.v nilV, .int .i64 0]) (by simp [results, Try.results21, go_sem, Val.v, nilV]) rfl ⟨?_, by first | exact kW | exact (Kp.refl _ _).alloc _⟩
      all_goals (rw [HF.out]; rfl)
end Go.Proofs.Ytlehalhficlenaa

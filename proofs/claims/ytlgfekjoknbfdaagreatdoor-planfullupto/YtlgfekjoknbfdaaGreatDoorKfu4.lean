/- PlanFull (second form): a table's whole rows, put together out of segments' versions by a way that was chosen, are what the document says, where what is given is of bulk at most 1048576. -/
import Derived.Test.YtlgfekjoknbfdaaGreatDoorKfu3
import Derived.Test.YtlgfekjoknbfdaaGreatDoorKfu2
import Derived.Deep.CutBlock
import Derived.Deep.CutRange
import Derived.Test.YtlgfekjoknbfdaaGreatDoorB1
import Derived.Test.YtlgfekjoknbfdaaGreatDoorB7
import Derived.Test.YtlgfekjoknbfdaaGreatDoorB8
import Derived.SizedLaws
import Derived.JoinedCond
import Derived.Deep.CondSized
set_option maxHeartbeats 64000000
set_option maxRecDepth 100000
set_option linter.unusedVariables false
set_option linter.unusedSimpArgs false
section
namespace Go.Proofs.YtlgfekjoknbfdaaGreatDoor
open Go.RowKit Go.Hay
attribute [local go_sem] Oper.semAt_some
theorem rFull1 (c : Cg) (i : Nat) (p2 : Int) (t : Nat) (M : Nat) (a : Option Addr) (ca : Nat) (L : List Vl) (ep : Int) (w : World) (hM : c.s = (M : Int)) (hM2 : M ≤ 1000) (hc : c.ok w) (hp8 : c.pl.length ≤ 1000) (hi : i < c.pl.length) (h2 : p2 < 0) (hcov : ∀ n : Nat, n < c.tl[t]!.l.length → (n : Int) ∈ c.pl[i]!.cl) (ht : t < c.tl.length) (hpt : c.pl[i].tb = (t : Int)) (hw : ∀ p ∈ c.pl, p.cl.length ≤ 1000) (htw : ∀ t ∈ c.tl, t.l.length ≤ 1000)
  (hs : VlE.See w a L) (hl : ∀ x ∈ L, x.lies w) (hL : L.length ≤ 1048576) (hsum : sumVl L ≤ 1048576) :
  Calls Tryz.prog 21 #[c.v, plV ((i : Int), p2), .slice a L.length ca, .int .u64 ep] w fun e w' => ∃ (ra : Option Addr) (rc : Nat) (R : List Vr), e = .returned (.slice ra R.length rc) ∧ VrE.See w' ra R ∧ (∀ x ∈ R, Vr.lies w' x) ∧ R.map Vr.pr = fullR M c.pl[i].cl [] false c.tl[t].l.length ep L ∧ Kp [] w w' := by
 obtain ⟨w1, hw1, k1, z1, b1⟩ := boxC c w;obtain ⟨q4, hq4⟩ : ∃ x, w.heap.size = x := ⟨_, rfl⟩
 rw [hq4] at b1 z1;obtain ⟨w2, hw2, k2, b2⟩ : ∃ x, w1.alloc (.cells #[.int .i64 (i : Int), .int .i64 p2] 41) = x ∧ Kp [] w1 x ∧ Bn x w1.heap.size [.int .i64 (i : Int), .int .i64 p2] := ⟨_, rfl, (Kp.refl _ _).alloc _, Bn.new w1 _ _⟩
 obtain ⟨q5, hq5⟩ : ∃ x, w1.heap.size = x := ⟨_, rfl⟩
 rw [hq5] at b2;have b12 := b1.kept k2
 have K2 := hid (k1.trans k2 (by simp))
 have HB := hid (And.intro b12 b2)
 obtain ⟨g, f, epa, x0, x1, x2, x3, x4, x5⟩ := pjAt hc.ps (j := i) (p := c.pl[i]) (by simp [hi])
 have hcov' : Hid (∀ n : Nat, n < c.tl[t].l.length → (n : Int) ∈ c.pl[i].cl) := hid (fun n hn => by
  have := hcov n
  rw [getElem!_pos c.tl t ht, getElem!_pos c.pl i hi] at this;exact this hn)
 obtain ⟨gt, ft, eta, t0, t1⟩ := tbAt hc.ts (j := t) (t := c.tl[t]) (by simp [ht])
 have HS := hid hs
 have HL := hid hl
 have hwi := hid (hw c.pl[i] (List.getElem_mem hi))
 have hpok := hid (hc.pok c.pl[i] (List.getElem_mem hi))
 have htw' := hid (htw c.tl[t] (List.getElem_mem ht))
 obtain ⟨P1, hP1⟩ : ∃ P1, Hid (c.pl[i] = P1) := ⟨_, hid rfl⟩
 obtain ⟨T1, hT1⟩ : ∃ T1, Hid (c.tl[t] = T1) := ⟨_, hid rfl⟩
 rw [hP1.out] at x0 x1 x2 x3 x4 x5 hpt hwi hpok hcov' ⊢;rw [hT1.out] at htw' t0 t1 hcov' ⊢;have i4 : decide ((0 : Int) ≤ p2) = false := by simp; omega
 have i1 : (0 : Int) ≤ (i : Int) := by omega
 have i2 : (i : Int) < (c.pl.length : Int) := by omega
 have j1 : (0 : Int) ≤ (t : Int) := by omega
 have j2 : (t : Int) < (c.tl.length : Int) := by omega
 rw [hpt] at x1;have hfull : Hid (fullR M P1.cl [] false T1.l.length ep L = ordN (refN1 P1.cl T1.l.length (seenA ep (L.take M)))) := hid (by unfold fullR; rw [if_neg (by simp)])
 rw [hfull.out];simp only [Cg.v, plV];obtain ⟨cn, cs, ck, ta, tc, tl, pa, pc, pl⟩ := c;dsimp only at *;subst epa eta hM
 have hC : Hid (∀ W', Kp [] w2 W' → W'.cell? ⟨q4, 0, none⟩ = some (.int .i64 cn) ∧ W'.cell? ⟨q4, 1, none⟩ = some (.int .i64 (M : Int)) ∧ W'.cell? ⟨q4, 2, none⟩ = some (.int .i64 ck) ∧ W'.cell? ⟨q4, 3, none⟩ = some (.slice (some ⟨gt, ft, none⟩) tl.length tc) ∧ W'.cell? ⟨q4, 4, none⟩ = some (.slice (some ⟨g, f, none⟩) pl.length pc) ∧ W'.cell? ⟨q5, 0, none⟩ = some (.int .i64 (i : Int)) ∧ W'.cell? ⟨q5, 1, none⟩ = some (.int .i64 p2) ∧ W'.cell? ⟨gt, ft + t * 2, none⟩ = some (.string T1.nm) ∧ W'.cell? ⟨gt, ft + t * 2 + 1, none⟩ = some (.slice T1.a T1.l.length T1.c) ∧ W'.cell? ⟨g, f + i * 6, none⟩ = some (.string P1.nm) ∧ W'.cell? ⟨g, f + i * 6 + 1, none⟩ = some (.int .i64 (t : Int)) ∧ W'.cell? ⟨g, f + i * 6 + 2, none⟩ = some (.slice P1.ca P1.cl.length P1.cc) ∧ W'.cell? ⟨g, f + i * 6 + 3, none⟩ = some (.slice P1.sa P1.sl.length P1.sc) ∧ W'.cell? ⟨g, f + i * 6 + 4, none⟩ = some (.int .i64 P1.by_) ∧ W'.cell? ⟨g, f + i * 6 + 5, none⟩ = some (.int .i64 P1.sh)) := hid (fun W' q => by
  have h1 := HB.out.1.kept q; have h2 := HB.out.2.kept q
  have kq := K2.out.trans q (by simp)
  exact ⟨h1.get 0 _ rfl, h1.get 1 _ rfl, h1.get 2 _ rfl, h1.get 3 _ rfl, h1.get 4 _ rfl, h2.get 0 _ rfl, h2.get 1 _ rfl, kpAt kq t0, kpAt kq t1, kpAt kq x0, kpAt kq x1, kpAt kq x2, kpAt kq x3, kpAt kq x4, kpAt kq x5⟩)
 have hpt' := hid hpt
 have H0 := hid (GaF.nil w2)
 obtain ⟨M2, hM2e⟩ : ∃ M2, Hid (M2 = 2 * M) := ⟨_, hid rfl⟩
 have w2M : IntKind.i64.wrap ((2 : Int) * (M : Int)) = (M2 : Int) := by rw [IntKind.wrap_i64]; have := hM2e.out; omega
 clear x0 x1 x2 x3 x4 x5 t0 t1 b1 b2 b12 k1 k2 hc hs hl hw htw z1 hpt hcov hfull;go_enter Tryz.func21, Tryz.ntmps21
 go_upto_block 0 with fail
 go_cut [9, 10] from 26 to 89 (fun v9 v10 wc => ∃ (b : Option Addr) (cb : Nat) (F : List Vr) (d : Option Addr) (cd : Nat) (G : List Vr), v9 = .slice b F.length cb ∧ v10 = .slice d G.length cd ∧ Hid (F = seenA ep (L.take M) ∧ G = []) ∧ Hid (GaF w2 b cb F d cd G wc))
 case first =>
  go_wp2_with fail;go_loopw [9, 10, 11] (fun v9 v10 iv wr => ∃ (j : Nat) (b : Option Addr) (cb : Nat) (F : List Vr) (d : Option Addr) (cd : Nat) (G : List Vr), (j ≤ L.length ∧ j ≤ 2 * M) ∧ iv = .int .i64 (j : Int) ∧ v9 = .slice b F.length cb ∧ v10 = .slice d G.length cd ∧ Hid (F = gF ep M L j ∧ G = []) ∧ Hid (GaF w2 b cb F d cd G wr)) (fun _ _ iv _ => L.length - (intOf iv).toNat)
  case atStart => exact ⟨0, none, 0, [], none, 0, [], ⟨Nat.zero_le _, Nat.zero_le _⟩, rfl, rfl, rfl, hid ⟨by simp [gF, seenA], rfl⟩, H0⟩
  case round =>
   obtain ⟨j, b, cb, F, d, cd, G, ⟨hj1, hj2⟩, rfl, rfl, rfl, hfg, H⟩ := hrel;clear H0;have kpr := H.out.kp
   obtain ⟨o0, o1, o2, o3, o4, o5, o6, _⟩ := hC.out wr kpr
   by_cases hjl : j < L.length
   ·have i5 : (j : Int) < (L.length : Int) := by omega
    have i6 : (0 : Int) ≤ (j : Int) := by omega
    have i7 : (j : Int) + 1 ≤ 9223372036854775807 := by omega
    by_cases hj2M : j < 2 * M
    ·have d8 : decide ((j : Int) < (M2 : Int)) = true := by have := hM2e.out; simp; omega
     have d8n : (j : Int) < (M2 : Int) := by have := hM2e.out; omega
     have hlc0 : Hid (∀ W', Kp [] w2 W' → ∃ g0 o0, a = some ⟨g0, o0, none⟩ ∧ W'.cell? ⟨g0, o0 + j, none⟩ = some (.slice L[j].a L[j].l.length L[j].c)) := hid (fun W' q => vlAt (HS.out.keptNew (K2.out.trans q (by simp))) (by simp [hjl]))
     obtain ⟨g0, f0, ea0, gl0⟩ := hlc0.out wr kpr
     have hlc : Hid (∀ W', Kp [] w2 W' → W'.cell? ⟨g0, f0 + j, none⟩ = some (.slice L[j].a L[j].l.length L[j].c)) := hid (fun W' q => by
      obtain ⟨g4, o4, e4, z0⟩ := hlc0.out W' q;rw [ea0] at e4
      cases e4
      exact z0)
     have hxl := hid (HL.out L[j] (List.getElem_mem hjl))
     have hst := sumVl_take hjl
     obtain ⟨x, hx⟩ : ∃ x, Hid (L[j] = x) := ⟨_, hid rfl⟩
     rw [hx.out] at hlc hxl hst gl0;obtain ⟨va, vc, vl⟩ := x;dsimp only at hlc hst gl0;have hvl : vl.length ≤ 1048576 := by omega
     clear hlc0 hst;subst ea0
     by_cases hjm : j < M
     ·have HE : Hid (∀ (F G : List Vr), (F = gF ep M L j ++ (vl.take vl.length).filter (seenF ep) ∧ G = []) → F = gF ep M L (j + 1) ∧ G = []) := hid (fun F G h => by
       rw [List.take_length] at h;exact ⟨h.1.trans (by rw [gF_lo hjl hjm, hx.out]), h.2⟩)
      have hI0 : Hid (F = gF ep M L j ++ (vl.take 0).filter (seenF ep) ∧ G = []) := hid (by simpa using hfg.out)
      have d9 : decide ((j : Int) < (M : Int)) = true := by simp; omega
      clear hfg hx;go_wp2_with fail;go_loopw [9, 10, 12] (fun v9 v10 iv wr => ∃ (k : Nat) (b : Option Addr) (cb : Nat) (F : List Vr) (d : Option Addr) (cd : Nat) (G : List Vr), k ≤ vl.length ∧ iv = .int .i64 (k : Int) ∧ v9 = .slice b F.length cb ∧ v10 = .slice d G.length cd ∧ Hid (F = gF ep M L j ++ (vl.take k).filter (seenF ep) ∧ G = []) ∧ Hid (GaF w2 b cb F d cd G wr)) (fun _ _ iv _ => vl.length - (intOf iv).toNat)
      case atStart => exact ⟨0, b, cb, F, d, cd, G, Nat.zero_le _, rfl, rfl, rfl, hI0, H⟩
      case round =>
       clear hI0 H gl0;obtain ⟨k, b, cb, F, d, cd, G, hk, rfl, rfl, rfl, hfg, H⟩ := hrel;have kpr := H.out.kp
       have gl0 := hlc.out wr kpr
       obtain ⟨o0, o1, o2, o3, o4, o5, o6, _⟩ := hC.out wr kpr
       by_cases hkt : k < vl.length
       ·have hft := hid (filt_take (ep := ep) hkt)
        have hFl : F.length ≤ 2097152 := by
         have h1 := gF_len ep M L j
         have h2 : ((vl.take k).filter (seenF ep)).length ≤ 1048576 := Nat.le_trans (List.length_filter_le _ _) (by rw [List.length_take]; omega)
         rw [hfg.out.1];try simp only [List.length_append]
         omega
        have hGl : G.length ≤ 2097152 := by
         have h1 := gG_len ep M L j
         have h2 : ((vl.take k).filter (seenF ep)).length ≤ 1048576 := Nat.le_trans (List.length_filter_le _ _) (by rw [List.length_take]; omega)
         rw [hfg.out.2];try simp only [List.length_append, List.length_nil]
         omega
        have hvc : Hid (∀ W', Kp [] w2 W' → ∃ gv ov, va = some ⟨gv, ov, none⟩ ∧ W'.cell? ⟨gv, ov + k * 4, none⟩ = some (.int .u64 vl[k].e) ∧ W'.cell? ⟨gv, ov + k * 4 + 1, none⟩ = some (.int .u32 vl[k].n) ∧ W'.cell? ⟨gv, ov + k * 4 + 2, none⟩ = some (.slice vl[k].a vl[k].l.length vl[k].c) ∧ W'.cell? ⟨gv, ov + k * 4 + 3, none⟩ = some (.int .u64 vl[k].d)) := hid (fun W' q => vrAt (hxl.out.see.keptNew (K2.out.trans q (by simp))) (by simp [hkt]))
        obtain ⟨gv, ov, ea3, x0, x1, x2, x3⟩ := hvc.out wr kpr
        have hvc2 : Hid (∀ W', Kp [] w2 W' → W'.cell? ⟨gv, ov + k * 4, none⟩ = some (.int .u64 vl[k].e) ∧ W'.cell? ⟨gv, ov + k * 4 + 1, none⟩ = some (.int .u32 vl[k].n) ∧ W'.cell? ⟨gv, ov + k * 4 + 2, none⟩ = some (.slice vl[k].a vl[k].l.length vl[k].c) ∧ W'.cell? ⟨gv, ov + k * 4 + 3, none⟩ = some (.int .u64 vl[k].d)) := hid (fun W' q => by
         obtain ⟨g4, o4, e4, z0, z1, z2, z3⟩ := hvc.out W' q;rw [ea3] at e4
         cases e4
         exact ⟨z0, z1, z2, z3⟩)
        obtain ⟨x, hx⟩ : ∃ x, Hid (vl[k] = x) := ⟨_, hid rfl⟩
        rw [hx.out] at x0 x1 x2 x3 hft hvc2;have cS := hid (rSeen x ep wr)
        obtain ⟨sb, hsb⟩ : ∃ sb, Hid (seenF ep x = sb) := ⟨_, hid rfl⟩
        rw [hsb.out] at cS hft;obtain ⟨xe, xn, xa, xc, xl, xd⟩ := x;simp only [Vr.v] at cS;dsimp only at x0 x1 x2 x3 hvc2;have k1 : (0 : Int) ≤ (k : Int) := by omega
        have k2 : (k : Int) < (vl.length : Int) := by omega
        have k3 : (k : Int) + 1 ≤ 9223372036854775807 := by omega
        rw [ea3] at gl0;clear hvc;go_wp2_with fail;refine cS.out.mono ?_;rintro e wd ⟨rfl, kd⟩;have kpd := kpr.trans kd (by simp)
        have gl0' := hlc.out wd kpd
        rw [ea3] at gl0';obtain ⟨x0', x1', x2', x3'⟩ := hvc2.out wd kpd;obtain ⟨o0', o1', o2', o3', o4', o5', o6', _⟩ := hC.out wd kpd;clear gl0 x0 x1 x2 x3 o0 o1 o2 o3 o4 o5 o6 cS
        cases sb with
        | true =>
         rw [if_pos rfl] at hft;obtain ⟨a4, c4, W4, hrun, hga⟩ := (H.out.kept kd).add ⟨xe, xn, xa, xc, xl, xd⟩ (by omega)
         dsimp only at hrun
         have hI1 : Hid (F ++ [(⟨xe, xn, xa, xc, xl, xd⟩ : Vr)] = gF ep M L j ++ (vl.take (k + 1)).filter (seenF ep) ∧ G = []) := hid (by
          rw [hft.out];exact ⟨by rw [hfg.out.1]; rw [List.append_assoc], by rw [hfg.out.2]⟩)
         obtain ⟨m4, hm4⟩ : ∃ m4, Hid (F ++ [(⟨xe, xn, xa, xc, xl, xd⟩ : Vr)] = m4) := ⟨_, hid rfl⟩
         rw [hm4.out] at hrun hga hI1;have HG : Hid (GaF w2 a4 c4 m4 d cd G W4) := hid hga
         clear hga hfg kd;go_wp2_with (first | (refine wpAppRunY rfl _ _ 55 55 rfl _ _ _ rfl rfl hrun ?_) | fail)
         go_roundw
         case rel => exact ⟨k + 1, a4, c4, m4, d, cd, G, by omega, by go_num, rfl, rfl, hI1, HG⟩
         case measure => simp [intOf]; omega
        | false =>
         rw [if_neg (by simp), List.append_nil] at hft
         have hI1 : Hid (F = gF ep M L j ++ (vl.take (k + 1)).filter (seenF ep) ∧ G = []) := hid (by rw [hft.out]; exact hfg.out)
         have HG := hid (H.out.kept kd)
         clear kd hfg;go_wp2_with fail;go_roundw
         case rel => exact ⟨k + 1, b, cb, F, d, cd, G, by omega, by go_num, rfl, rfl, hI1, HG⟩
         case measure => simp [intOf]; omega
       ·have hke : k = vl.length := by omega
        have hI1 := hid (HE.out F G (by rw [← hke]; exact hfg.out))
        have dk1 : ¬ (k : Int) < (vl.length : Int) := by omega
        have dk2 : decide ((k : Int) < (vl.length : Int)) = false := by simp; omega
        clear hfg hke;go_wp2_with fail;go_roundw
        case rel => exact ⟨j + 1, b, cb, F, d, cd, G, ⟨by omega, by omega⟩, by go_num, rfl, rfl, hI1, H⟩
        case measure => simp [intOf]; omega
     ·skip
      have HE : Hid (∀ (F G : List Vr), (F = gF ep M L j ∧ G = []) → F = gF ep M L (j + 1) ∧ G = []) := hid (fun F G h => ⟨h.1.trans (by rw [gF_hi (Nat.not_lt.1 hjm)]), h.2⟩)
      have hI0 : Hid (F = gF ep M L j ∧ G = []) := hid (by simpa using hfg.out)
      have d9 : decide ((j : Int) < (M : Int)) = false := by simp; omega
      clear hfg hx;go_wp2_with fail;go_loopw [9, 10, 12] (fun v9 v10 iv wr => ∃ (k : Nat) (b : Option Addr) (cb : Nat) (F : List Vr) (d : Option Addr) (cd : Nat) (G : List Vr), k ≤ vl.length ∧ iv = .int .i64 (k : Int) ∧ v9 = .slice b F.length cb ∧ v10 = .slice d G.length cd ∧ Hid (F = gF ep M L j ∧ G = []) ∧ Hid (GaF w2 b cb F d cd G wr)) (fun _ _ iv _ => vl.length - (intOf iv).toNat)
      case atStart => exact ⟨0, b, cb, F, d, cd, G, Nat.zero_le _, rfl, rfl, rfl, hI0, H⟩
      case round =>
       clear hI0 H gl0;obtain ⟨k, b, cb, F, d, cd, G, hk, rfl, rfl, rfl, hfg, H⟩ := hrel;have kpr := H.out.kp
       have gl0 := hlc.out wr kpr
       obtain ⟨o0, o1, o2, o3, o4, o5, o6, _⟩ := hC.out wr kpr
       by_cases hkt : k < vl.length
       ·have hft := hid (filt_take (ep := ep) hkt)
        have hFl : F.length ≤ 2097152 := by
         have h1 := gF_len ep M L j
         have h2 : ((vl.take k).filter (seenF ep)).length ≤ 1048576 := Nat.le_trans (List.length_filter_le _ _) (by rw [List.length_take]; omega)
         rw [hfg.out.1];try simp only [List.length_append]
         omega
        have hGl : G.length ≤ 2097152 := by
         have h1 := gG_len ep M L j
         have h2 : ((vl.take k).filter (seenF ep)).length ≤ 1048576 := Nat.le_trans (List.length_filter_le _ _) (by rw [List.length_take]; omega)
         rw [hfg.out.2];try simp only [List.length_append, List.length_nil]
         omega
        have hvc : Hid (∀ W', Kp [] w2 W' → ∃ gv ov, va = some ⟨gv, ov, none⟩ ∧ W'.cell? ⟨gv, ov + k * 4, none⟩ = some (.int .u64 vl[k].e) ∧ W'.cell? ⟨gv, ov + k * 4 + 1, none⟩ = some (.int .u32 vl[k].n) ∧ W'.cell? ⟨gv, ov + k * 4 + 2, none⟩ = some (.slice vl[k].a vl[k].l.length vl[k].c) ∧ W'.cell? ⟨gv, ov + k * 4 + 3, none⟩ = some (.int .u64 vl[k].d)) := hid (fun W' q => vrAt (hxl.out.see.keptNew (K2.out.trans q (by simp))) (by simp [hkt]))
        obtain ⟨gv, ov, ea3, x0, x1, x2, x3⟩ := hvc.out wr kpr
        have hvc2 : Hid (∀ W', Kp [] w2 W' → W'.cell? ⟨gv, ov + k * 4, none⟩ = some (.int .u64 vl[k].e) ∧ W'.cell? ⟨gv, ov + k * 4 + 1, none⟩ = some (.int .u32 vl[k].n) ∧ W'.cell? ⟨gv, ov + k * 4 + 2, none⟩ = some (.slice vl[k].a vl[k].l.length vl[k].c) ∧ W'.cell? ⟨gv, ov + k * 4 + 3, none⟩ = some (.int .u64 vl[k].d)) := hid (fun W' q => by
         obtain ⟨g4, o4, e4, z0, z1, z2, z3⟩ := hvc.out W' q;rw [ea3] at e4
         cases e4
         exact ⟨z0, z1, z2, z3⟩)
        obtain ⟨x, hx⟩ : ∃ x, Hid (vl[k] = x) := ⟨_, hid rfl⟩
        rw [hx.out] at x0 x1 x2 x3 hft hvc2;have cS := hid (rSeen x ep wr)
        obtain ⟨sb, hsb⟩ : ∃ sb, Hid (seenF ep x = sb) := ⟨_, hid rfl⟩
        rw [hsb.out] at cS hft;obtain ⟨xe, xn, xa, xc, xl, xd⟩ := x;simp only [Vr.v] at cS;dsimp only at x0 x1 x2 x3 hvc2;have k1 : (0 : Int) ≤ (k : Int) := by omega
        have k2 : (k : Int) < (vl.length : Int) := by omega
        have k3 : (k : Int) + 1 ≤ 9223372036854775807 := by omega
        rw [ea3] at gl0;clear hvc;go_wp2_with fail;refine cS.out.mono ?_;rintro e wd ⟨rfl, kd⟩;have kpd := kpr.trans kd (by simp)
        have gl0' := hlc.out wd kpd
        rw [ea3] at gl0';obtain ⟨x0', x1', x2', x3'⟩ := hvc2.out wd kpd;obtain ⟨o0', o1', o2', o3', o4', o5', o6', _⟩ := hC.out wd kpd;clear gl0 x0 x1 x2 x3 o0 o1 o2 o3 o4 o5 o6 cS
        cases sb with
        | true =>
         rw [if_pos rfl] at hft;have HG := hid (H.out.kept kd)
         clear kd;go_wp2_with fail;go_roundw
         case rel => exact ⟨k + 1, b, cb, F, d, cd, G, by omega, by go_num, rfl, rfl, hfg, HG⟩
         case measure => simp [intOf]; omega
        | false =>
         rw [if_neg (by simp), List.append_nil] at hft
         have hI1 : Hid (F = gF ep M L j ∧ G = []) := hid (by exact hfg.out)
         have HG := hid (H.out.kept kd)
         clear kd hfg;go_wp2_with fail;go_roundw
         case rel => exact ⟨k + 1, b, cb, F, d, cd, G, by omega, by go_num, rfl, rfl, hI1, HG⟩
         case measure => simp [intOf]; omega
       ·have hke : k = vl.length := by omega
        have hI1 := hid (HE.out F G (hfg.out))
        have dk1 : ¬ (k : Int) < (vl.length : Int) := by omega
        have dk2 : decide ((k : Int) < (vl.length : Int)) = false := by simp; omega
        clear hfg hke;go_wp2_with fail;go_roundw
        case rel => exact ⟨j + 1, b, cb, F, d, cd, G, ⟨by omega, by omega⟩, by go_num, rfl, rfl, hI1, H⟩
        case measure => simp [intOf]; omega
    ·have d8 : decide ((j : Int) < (M2 : Int)) = false := by have := hM2e.out; simp; omega
     have d8n : ¬ (j : Int) < (M2 : Int) := by have := hM2e.out; omega
     have HX : Hid (F = seenA ep (L.take M) ∧ G = []) := hid ⟨hfg.out.1.trans (gF_end (by omega)), hfg.out.2⟩
     clear hfg;go_wp2_with fail;go_meet;exact ⟨b, cb, F, d, cd, G, rfl, rfl, HX, H⟩
   ·have i5 : ¬ (j : Int) < (L.length : Int) := by omega
    have i5d : decide ((j : Int) < (L.length : Int)) = false := by simp; omega
    have HX : Hid (F = seenA ep (L.take M) ∧ G = []) := hid ⟨hfg.out.1.trans (gF_end (by omega)), hfg.out.2⟩
    clear hfg;go_wp2_with fail;go_meet;exact ⟨b, cb, F, d, cd, G, rfl, rfl, HX, H⟩
 case rest =>
  obtain ⟨b, cb, F, d, cd, G, rfl, rfl, hfg, H⟩ := hcut;have kpc := hid H.out.kp
  have hS15 : Hid (∀ W', Kp [] wc W' → W'.cell? ⟨q4, 3, none⟩ = some (.slice (some ⟨gt, ft, none⟩) tl.length tc) ∧ W'.cell? ⟨q4, 4, none⟩ = some (.slice (some ⟨g, f, none⟩) pl.length pc) ∧ W'.cell? ⟨q5, 0, none⟩ = some (.int .i64 (i : Int)) ∧ W'.cell? ⟨gt, ft + t * 2, none⟩ = some (.string T1.nm) ∧ W'.cell? ⟨gt, ft + t * 2 + 1, none⟩ = some (.slice T1.a T1.l.length T1.c) ∧ W'.cell? ⟨g, f + i * 6 + 1, none⟩ = some (.int .i64 (t : Int))) := hid (fun W' q => by
   have h := hC.out W' (kpc.out.trans q (by simp))
   exact ⟨h.2.2.2.1, h.2.2.2.2.1, h.2.2.2.2.2.1, h.2.2.2.2.2.2.2.1, h.2.2.2.2.2.2.2.2.1, h.2.2.2.2.2.2.2.2.2.2.1⟩)
  go_wp2_with fail;refine wp_noPanicY ?_;refine wp_region_held_drew (S := fun W' => W'.cell? ⟨q4, 3, none⟩ = some (.slice (some ⟨gt, ft, none⟩) tl.length tc) ∧ W'.cell? ⟨q4, 4, none⟩ = some (.slice (some ⟨g, f, none⟩) pl.length pc) ∧ W'.cell? ⟨q5, 0, none⟩ = some (.int .i64 (i : Int)) ∧ W'.cell? ⟨gt, ft + t * 2, none⟩ = some (.string T1.nm) ∧ W'.cell? ⟨gt, ft + t * 2 + 1, none⟩ = some (.slice T1.a T1.l.length T1.c) ∧ W'.cell? ⟨g, f + i * 6 + 1, none⟩ = some (.int .i64 (t : Int))) (by kernel_rfl) (hS15.out _ (Kp.refl [] wc).drew) (fun hHeld => ?_)
  have KD : Hid (Kp [] wc wc.drew) := hid (Kp.refl _ _).drew
  generalize wc.drew = wd at *
  obtain ⟨q15, W1, W2, eq15, eW1, b1, eW2, b2, kW1, kW2⟩ := boxTbF wd T1;refine tkH ?_ 0 rfl (by kernel_rfl) (fun _ _ _ h => by cases h.1) (by rfl) ?_ ‹_› ?_;rotate_left
  ·intro w h; (try dsimp only at h); go_simp <;> with_reducible rfl
  (try simp only [Act.put, lz]);refine tkH ?_ 1 rfl (by kernel_rfl) (fun _ _ _ h => by cases h.1) (by rfl) ?_ ‹_› ?_;rotate_left
  ·intro w h; (try dsimp only at h); go_simp <;> with_reducible rfl
  (try simp only [Act.put, lz]);refine tkH ?_ 2 rfl (by kernel_rfl) (fun _ _ _ h => by cases h.1) (by rfl) ?_ ‹_› ?_;rotate_left
  ·intro w h; (try dsimp only at h); go_simp <;> with_reducible rfl
  (try simp only [Act.put, lz]);refine tkH ?_ 3 rfl (by kernel_rfl) (fun _ _ _ h => by cases h.1) (by rfl) ?_ ‹_› ?_;rotate_left
  ·intro w h; (try dsimp only at h); go_simp <;> with_reducible rfl
  (try simp only [Act.put, lz]);refine tkH ?_ 4 rfl (by kernel_rfl) (fun _ _ _ h => by cases h.1) (by rfl) ?_ ‹_› ?_;rotate_left
  ·intro w h; (try dsimp only at h); go_simp <;> with_reducible rfl
  (try simp only [Act.put, lz]);refine tkH ?_ 5 rfl (by kernel_rfl) (fun _ _ _ h => by cases h.1) (by rfl) ?_ ‹_› ?_;rotate_left
  ·intro w h; (try dsimp only at h); go_simp <;> with_reducible rfl
  (try simp only [Act.put, lz]);refine tkH ?_ 6 rfl (by kernel_rfl) (fun _ _ _ h => by cases h.1) (by rfl) ?_ ‹_› ?_;rotate_left
  ·intro w h; (try dsimp only at h); go_simp <;> with_reducible rfl
  (try simp only [Act.put, lz]);refine tkH ?_ 7 rfl (by kernel_rfl) (fun _ _ _ h => by cases h.1) (by rfl) ?_ ‹_› ?_;rotate_left
  ·intro w h; (try dsimp only at h); go_simp <;> with_reducible rfl
  (try simp only [Act.put, lz]);refine tkH ?_ 8 rfl (by kernel_rfl) (fun _ _ _ h => by cases h.1) (by rfl) ?_ ‹_› ?_;rotate_left
  ·intro w h; (try dsimp only at h); go_simp <;> with_reducible rfl
  (try simp only [Act.put, lz]);refine tkH ?_ 9 rfl (by kernel_rfl) (fun _ _ _ h => by cases h.1) (by rfl) ?_ ‹_› ?_;rotate_left
  ·intro w h; (try dsimp only at h); go_simp <;> with_reducible rfl
  (try simp only [Act.put, lz]);refine tkH ?_ 10 rfl (by kernel_rfl) (fun _ _ _ h => by cases h.1) (by rfl) ?_ ‹_› ?_;rotate_left
  ·intro w h; (try dsimp only at h); go_simp <;> with_reducible rfl
  (try simp only [Act.put, lz]);refine rdH 11 (by kernel_rfl) rfl fun K hK => ?_
  go_simp;(try go_wp2_with fail);refine hK.out _ _ (hS15.out _ (KD.out.trans kW1 (by simp))) (fun hHeld => ?_)
  clear hK K;(try simp only [Act.put, lz]);have m0 := b1.get 0 _ rfl; have m1 := b1.get 1 _ rfl
  have f0 := b1.free 0; have f1 := b1.free 1
  refine rdH 12 (by kernel_rfl) rfl fun K hK => ?_
  go_simp;(try go_wp2_with fail);refine hK.out _ _ (hS15.out _ (KD.out.trans kW2 (by simp))) (fun hHeld => ?_)
  clear hK K;(try simp only [Act.put, lz]);refine wpAnyH_done (by kernel_rfl) ⟨rfl, ?_⟩ _
  have KW := hid (KD.out.trans kW2 (by simp))
  have HG := hid (H.out.kept KW.out)
  have HB15 := hid b2
  clear hHeld m0 m1 f0 f1 b1 b2 kW1 kW2 eW1 eW2 H hS15;have kp2 := hid HG.out.kp
  have hD : Hid (∀ W', Kp [] W2 W' → W'.cell? ⟨q4, 0, none⟩ = some (.int .i64 cn) ∧ W'.cell? ⟨q4, 1, none⟩ = some (.int .i64 (M : Int)) ∧ W'.cell? ⟨q4, 2, none⟩ = some (.int .i64 ck) ∧ W'.cell? ⟨q4, 3, none⟩ = some (.slice (some ⟨gt, ft, none⟩) tl.length tc) ∧ W'.cell? ⟨q4, 4, none⟩ = some (.slice (some ⟨g, f, none⟩) pl.length pc) ∧ W'.cell? ⟨q5, 0, none⟩ = some (.int .i64 (i : Int)) ∧ W'.cell? ⟨q5, 1, none⟩ = some (.int .i64 p2) ∧ W'.cell? ⟨gt, ft + t * 2, none⟩ = some (.string T1.nm) ∧ W'.cell? ⟨gt, ft + t * 2 + 1, none⟩ = some (.slice T1.a T1.l.length T1.c) ∧ W'.cell? ⟨g, f + i * 6, none⟩ = some (.string P1.nm) ∧ W'.cell? ⟨g, f + i * 6 + 1, none⟩ = some (.int .i64 (t : Int)) ∧ W'.cell? ⟨g, f + i * 6 + 2, none⟩ = some (.slice P1.ca P1.cl.length P1.cc) ∧ W'.cell? ⟨g, f + i * 6 + 3, none⟩ = some (.slice P1.sa P1.sl.length P1.sc) ∧ W'.cell? ⟨g, f + i * 6 + 4, none⟩ = some (.int .i64 P1.by_) ∧ W'.cell? ⟨g, f + i * 6 + 5, none⟩ = some (.int .i64 P1.sh)) := hid (fun W' q => hC.out W' (kp2.out.trans q (by simp)))
  have hT : Hid (∀ W', Kp [] W2 W' → W'.cell? ⟨q15, 0, none⟩ = some (.string T1.nm) ∧ W'.cell? ⟨q15, 1, none⟩ = some (.slice T1.a T1.l.length T1.c)) := hid (fun W' q => ⟨(HB15.out.kept q).get 0 _ rfl, (HB15.out.kept q).get 1 _ rfl⟩)
  have sF : Hid (VrE.See W2 b F) := hid (by
   obtain ⟨_, _, e, hs, _⟩ := HG.out.rf.see;rw [← (Value.slice.inj e).1] at hs;exact hs)
  have sG : Hid (VrE.See W2 d G) := hid (by
   obtain ⟨_, _, e, hs, _⟩ := HG.out.rg.see;rw [← (Value.slice.inj e).1] at hs;exact hs)
  have lF : Hid (∀ x ∈ F, ∀ W', Kp [] W2 W' → Vr.lies W' x) := hid (fun x hx W' q => by
   rw [hfg.out.1] at hx;obtain ⟨y, hy, hxy⟩ := seenA_in hx;exact ((HL.out y (List.mem_of_mem_take hy)).each x hxy).kept ((K2.out.trans kp2.out (by simp)).trans q (by simp)))
  have hFl : F.length ≤ 1048576 := by
   rw [hfg.out.1];exact Nat.le_trans (seenA_len ep _) (Nat.le_trans (sumVl_le_take L M) hsum)
  have hGl : G.length ≤ 1048576 := by
   rw [hfg.out.2];simp
  have H3 : Hid (([] : List Vr).map Vr.pr = ordN (refN1 P1.cl T1.l.length (F.take (0)))) := hid (by simp [refN1, ordN])
  have H3b : Hid (VrE.Row W2 (.slice none ([] : List Vr).length 0) [] ∧ (∀ x ∈ ([] : List Vr), Vr.lies W2 x) ∧ Kp [] W2 W2) := hid ⟨.inl ⟨rfl, rfl⟩, by simp, Kp.refl _ _⟩
  go_wp2_with fail;go_loopw [14, 16] (fun v14 iv wr => ∃ (j : Nat) (oa : Option Addr) (oc : Nat) (O : List Vr), j ≤ F.length ∧ iv = .int .i64 (j : Int) ∧ v14 = .slice oa O.length oc ∧ Hid (O.map Vr.pr = ordN (refN1 P1.cl T1.l.length (F.take (j)))) ∧ Hid (VrE.Row wr (.slice oa O.length oc) O ∧ (∀ x ∈ O, Vr.lies wr x) ∧ Kp [] W2 wr)) (fun _ iv _ => F.length - (intOf iv).toNat)
  case atStart => exact ⟨0, none, 0, [], Nat.zero_le _, rfl, rfl, H3, H3b⟩
  case round =>
   clear H3 H3b;obtain ⟨j, oa, oc, O, hj, rfl, rfl, hO, HO⟩ := hrel
   by_cases hlt : j < F.length
   ·skip
    obtain ⟨wo, hwo⟩ : ∃ x, x = wr := ⟨wr, rfl⟩
    subst hwo;obtain ⟨gb, ob, eb, x0, x1, x2, x3⟩ := vrAt (sF.out.keptNew HO.out.2.2) (j := j) (x := F[j]) (by simp [hlt])
    have hx0 : Hid (∀ W', Kp [] W2 W' → W'.cell? ⟨gb, ob + j * 4, none⟩ = some (.int .u64 F[j].e) ∧ W'.cell? ⟨gb, ob + j * 4 + 1, none⟩ = some (.int .u32 F[j].n) ∧ W'.cell? ⟨gb, ob + j * 4 + 2, none⟩ = some (.slice F[j].a F[j].l.length F[j].c) ∧ W'.cell? ⟨gb, ob + j * 4 + 3, none⟩ = some (.int .u64 F[j].d)) := hid (fun W' q => by
     obtain ⟨g4, o4, e4, z0, z1, z2, z3⟩ := vrAt (sF.out.keptNew q) (j := j) (x := F[j]) (by simp [hlt])
     rw [eb] at e4
     cases e4
     exact ⟨z0, z1, z2, z3⟩)
    have hxl := hid (lF.out F[j] (List.getElem_mem hlt))
    have hsn : Hid (refN1 P1.cl T1.l.length (F.take (j + 1)) = refN1 P1.cl T1.l.length (F.take (j)) ++ [(F[j].e, F[j].n, rowN P1.cl [] T1.l.length F[j].l [], 0)]) := hid (by
     rw [List.take_succ_eq_append_getElem hlt];unfold refN1; rw [List.map_append]; rfl)
    obtain ⟨x, hx⟩ : ∃ x, Hid (F[j] = x) := ⟨_, hid rfl⟩
    rw [hx.out] at hx0 hxl hsn;obtain ⟨xe, xn, xa, xc, xl, xd⟩ := x;dsimp only at hx0 hsn;have j1' : (0 : Int) ≤ (j : Int) := by omega
    have j2' : (j : Int) < (F.length : Int) := by omega
    have j3' : (j : Int) + 1 ≤ 9223372036854775807 := by omega
    obtain ⟨OT, hOT⟩ : ∃ OT, Hid (othF G xe xn 0 = OT) := ⟨_, hid rfl⟩
    have g0 : (-9223372036854775808 : Int) ≤ (G.length : Int) - 1 := by omega
    have g1 : (G.length : Int) - 1 ≤ 9223372036854775807 := by omega
    have gw : IntKind.i64.wrap ((G.length : Int) - 1) = (G.length : Int) - 1 := by rw [IntKind.wrap_i64]; omega
    subst eb;clear x0 x1 x2 x3 hx;go_upto_block 6 with fail
    go_cut [17] from 110 to 125 (fun v17 wx => v17 = .int .i64 OT ∧ Hid (Kp [] wo wx))
    case first =>
     have HOE : Hid (othF G xe xn G.length = -1) := hid (othF_end _ _ _)
     go_wp2_with fail;go_loopw [17, 18] (fun v17 v18 wn => ∃ (kk : Nat) (zz ot : Int), kk ≤ G.length ∧ v17 = .int .i64 ot ∧ v18 = .int .i64 zz ∧ Hid (zz = (kk : Int) - 1 ∧ ot = othF G xe xn kk) ∧ Hid (Kp [] wo wn)) (fun _ v18 _ => (intOf v18 + 1).toNat)
     case atStart => exact ⟨G.length, (G.length : Int) - 1, -1, Nat.le_refl _, rfl, rfl, hid ⟨rfl, HOE.out.symm⟩, hid (Kp.refl _ _)⟩
     case round =>
      clear HOE;obtain ⟨kk, zz, ot, hkk, rfl, rfl, hzz, kn⟩ := hrel
      cases kk with
      | zero =>
       have d1 : decide ((0 : Int) ≤ zz) = false := by have := hzz.out.1; simp; omega
       have d2 : ¬ (0 : Int) ≤ zz := by have := hzz.out.1; omega
       have hot : Hid (ot = OT) := hid (hzz.out.2.trans hOT.out)
       clear hzz;go_wp2_with fail;go_meet;exact ⟨by rw [hot.out], kn⟩
      | succ k =>
       have hzk : zz = (k : Int) := by have := hzz.out.1; omega
       subst hzk;have hkl : k < G.length := by omega
       obtain ⟨gd, od, ed, y0, y1, y2, y3⟩ := vrAt (sG.out.keptNew HO.out.2.2) (j := k) (x := G[k]) (by simp [hkl])
       have hy0 : Hid (∀ W', Kp [] W2 W' → W'.cell? ⟨gd, od + k * 4, none⟩ = some (.int .u64 G[k].e) ∧ W'.cell? ⟨gd, od + k * 4 + 1, none⟩ = some (.int .u32 G[k].n)) := hid (fun W' q => by
        obtain ⟨g4, o4, e4, z0, z1, z2, z3⟩ := vrAt (sG.out.keptNew q) (j := k) (x := G[k]) (by simp [hkl])
        rw [ed] at e4
        cases e4
        exact ⟨z0, z1⟩)
       have hst := hid (othF_step G xe xn k hkl)
       obtain ⟨y, hy⟩ : ∃ y, Hid (G[k] = y) := ⟨_, hid rfl⟩
       rw [hy.out] at hy0 hst;obtain ⟨ye, yn, ya, yc, yl, yd⟩ := y;dsimp only at hy0 hst
       have HC : Hid (∀ W', Kp [] wo W' → W'.cell? ⟨gd, od + k * 4, none⟩ = some (.int .u64 ye) ∧ W'.cell? ⟨gd, od + k * 4 + 1, none⟩ = some (.int .u32 yn) ∧ W'.cell? ⟨gb, ob + j * 4, none⟩ = some (.int .u64 xe) ∧ W'.cell? ⟨gb, ob + j * 4 + 1, none⟩ = some (.int .u32 xn)) := hid (fun W' q => by
        have h1 := hy0.out W' (HO.out.2.2.trans q (by simp))
        have h2 := hx0.out W' (HO.out.2.2.trans q (by simp))
        exact ⟨h1.1, h1.2, h2.1, h2.2.1⟩)
       have k1 : (0 : Int) ≤ (k : Int) := by omega
       have k2 : (k : Int) < (G.length : Int) := by omega
       have d1 : decide ((0 : Int) ≤ (k : Int)) = true := by simp
       have eqs := fun w => eqI ye yn xe xn w
       obtain ⟨D, hD⟩ : ∃ D, Hid (decide ((ye, yn) = (xe, xn)) = D) := ⟨_, hid rfl⟩
       simp only [hD.out] at eqs;have hzw : Hid (IntKind.i64.wrap ((k : Int) - 1) = (k : Int) - 1) := hid (by rw [IntKind.wrap_i64]; omega)
       subst ed;clear y0 y1 y2 y3 hy hy0;go_wp2_with fail;refine wp_noPanicY ?_;refine wp_region_held_drew (S := fun W' => W'.cell? ⟨gd, od + k * 4, none⟩ = some (.int .u64 ye) ∧ W'.cell? ⟨gd, od + k * 4 + 1, none⟩ = some (.int .u32 yn) ∧ W'.cell? ⟨gb, ob + j * 4, none⟩ = some (.int .u64 xe) ∧ W'.cell? ⟨gb, ob + j * 4 + 1, none⟩ = some (.int .u32 xn)) (by kernel_rfl) (HC.out _ kn.out.drew) (fun hHeld => ?_)
       have KD : Hid (Kp [] wo wr.drew) := hid kn.out.drew
       refine tkH ?_ 0 rfl (by kernel_rfl) (fun _ _ _ h => by cases h.1) (by rfl) ?_ ‹_› ?_;rotate_left
       ·intro w h; (try dsimp only at h); go_simp <;> with_reducible rfl
       (try simp only [Act.put, lz]);refine tkH ?_ 1 rfl (by kernel_rfl) (fun _ _ _ h => by cases h.1) (by rfl) ?_ ‹_› ?_;rotate_left
       ·intro w h; (try dsimp only at h); go_simp <;> with_reducible rfl
       (try simp only [Act.put, lz]);refine tkH ?_ 2 rfl (by kernel_rfl) (fun _ _ _ h => by cases h.1) (by rfl) ?_ ‹_› ?_;rotate_left
       ·intro w h; (try dsimp only at h); go_simp <;> with_reducible rfl
       (try simp only [Act.put, lz]);refine tkH ?_ 3 rfl (by kernel_rfl) (fun _ _ _ h => by cases h.1) (by rfl) ?_ ‹_› ?_;rotate_left
       ·intro w h; (try dsimp only at h); go_simp <;> with_reducible rfl
       (try simp only [Act.put, lz]);refine tkH ?_ 4 rfl (by kernel_rfl) (fun _ _ _ h => by cases h.1) (by rfl) ?_ ‹_› ?_;rotate_left
       ·intro w h; (try dsimp only at h); go_simp <;> with_reducible rfl
       (try simp only [Act.put, lz]);refine tkH ?_ 5 rfl (by kernel_rfl) (fun _ _ _ h => by cases h.1) (by rfl) ?_ ‹_› ?_;rotate_left
       ·intro w h; (try dsimp only at h); go_simp <;> with_reducible rfl
       (try simp only [Act.put, lz]);refine tkH ?_ 6 rfl (by kernel_rfl) (fun _ _ _ h => by cases h.1) (by rfl) ?_ ‹_› ?_;rotate_left
       ·intro w h; (try dsimp only at h); go_simp <;> with_reducible rfl
       (try simp only [Act.put, lz]);refine tkH ?_ 7 rfl (by kernel_rfl) (fun _ _ _ h => by cases h.1) (by rfl) ?_ ‹_› ?_;rotate_left
       ·intro w h; (try dsimp only at h); go_simp <;> with_reducible rfl
       (try simp only [Act.put, lz]);refine tkH ?_ 8 rfl (by kernel_rfl) (fun _ _ _ h => by cases h.1) (by rfl) ?_ ‹_› ?_;rotate_left
       ·intro w h; (try dsimp only at h); go_simp <;> with_reducible rfl
       (try simp only [Act.put, lz]);refine tkH ?_ 9 rfl (by kernel_rfl) (fun _ _ _ h => by cases h.1) (by rfl) ?_ ‹_› ?_;rotate_left
       ·intro w h; (try dsimp only at h); go_simp <;> with_reducible rfl
       (try simp only [Act.put, lz]);refine tkH ?_ 10 rfl (by kernel_rfl) (fun _ _ _ h => by cases h.1) (by rfl) ?_ ‹_› ?_;rotate_left
       ·intro w h; (try dsimp only at h); go_simp <;> with_reducible rfl
       (try simp only [Act.put, lz]);refine wpAnyH_done (by kernel_rfl) ⟨rfl, ?_⟩ _
       clear hHeld
       cases D with
       | true =>
        have hn : Hid ((k : Int) - 1 = (k : Int) - 1 ∧ (k : Int) = othF G xe xn k) := hid ⟨rfl, by rw [hst.out, if_pos (of_decide_eq_true hD.out)]⟩
        clear hzz hst;go_wp2_with fail;go_roundw
        case rel => exact ⟨k, _, _, by omega, rfl, by first | rfl | rw [hzw.out], hn, KD⟩
        case measure => (try simp [intOf, hzw.out]) <;> (try omega)
       | false =>
        have hn : Hid ((k : Int) - 1 = (k : Int) - 1 ∧ ot = othF G xe xn k) := hid ⟨rfl, by rw [hst.out, if_neg (of_decide_eq_false hD.out)]; exact hzz.out.2⟩
        clear hzz hst;go_wp2_with fail;go_roundw
        case rel => exact ⟨k, _, _, by omega, rfl, by first | rfl | rw [hzw.out], hn, KD⟩
        case measure => (try simp [intOf, hzw.out]) <;> (try omega)
    case rest =>
     obtain ⟨rfl, kx⟩ := hcut;obtain ⟨wx, hwx⟩ : ∃ x, x = wc := ⟨_, rfl⟩
     subst hwx;have kpx := hid (HO.out.2.2.trans kx.out (by simp))
     have HOx := hid (show VrE.Row wx (.slice oa O.length oc) O ∧ (∀ x ∈ O, Vr.lies wx x) ∧ Kp [] W2 wx from ⟨HO.out.1.keptNew kx.out, fun x hx => (HO.out.2.1 x hx).kept kx.out, kpx.out⟩)
     obtain ⟨x0, x1, x2, x3⟩ := hx0.out wx kpx.out;obtain ⟨u0, u1, u2, u3, u4, u5, u6, u7, u8, u9, u10, u11, u12, u13, u14⟩ := hD.out wx kpx.out;clear kx HO;clear hOT;obtain ⟨q19, V1, V2, eq19, eV1, b1, eV2, b2, kV2⟩ := boxVr wx xe xn none 0 0 0;have f0 := b1.free 0; have f1 := b1.free 1; have f2 := b1.free 2; have f3 := b1.free 3
     have n0 := b1.get 0 _ rfl; have n1 := b1.get 1 _ rfl; have n2 := b1.get 2 _ rfl; have n3 := b1.get 3 _ rfl
     have HV := hid (And.intro b2 kV2)
     have hq19 := hid eq19
     clear b1 b2 kV2;go_upto_block 8 with fail
     go_cut [] from 139 to 185 (fun wy => ∃ (ra : Option Addr) (rc : Nat), Hid (Bn wy q19 [.int .u64 xe, .int .u32 xn, .slice ra (rowN P1.cl [] T1.l.length xl []).length rc, .int .u64 0] ∧ VE.Row wy (.slice ra (rowN P1.cl [] T1.l.length xl []).length rc) (rowN P1.cl [] T1.l.length xl []) ∧ (∀ k ∈ blk ra, q19 < k) ∧ Kp [] wx wy))
     case first =>
      go_wp2_with fail;go_loopw [20] (fun iv wr => ∃ (n : Nat) (ra : Option Addr) (rc : Nat) (m : List Val), n ≤ T1.l.length ∧ iv = .int .i64 (n : Int) ∧ Hid (m = (List.range (n)).map (fun (k : Nat) => valF P1.cl [] xl [] (k : Int))) ∧ Hid (Bn wr q19 [.int .u64 xe, .int .u32 xn, .slice ra m.length rc, .int .u64 0] ∧ VE.Row wr (.slice ra m.length rc) m ∧ (∀ k ∈ blk ra, q19 < k) ∧ Kp [] wx wr)) (fun iv _ => T1.l.length - (intOf iv).toNat)
      case atStart => exact ⟨0, none, 0, [], Nat.zero_le _, rfl, hid rfl, hid ⟨HV.out.1, .inl ⟨rfl, rfl⟩, by simp [blk], HV.out.2⟩⟩
      case round =>
       obtain ⟨n, ra, rc, m', hn, rfl, hm', HM⟩ := hrel;have kpr := hid (kpx.out.trans HM.out.2.2.2 (by simp))
       obtain ⟨t0, t1⟩ := hT.out wr kpr.out
       by_cases hnt : n < T1.l.length
       ·have n1' : (0 : Int) ≤ (n : Int) := by omega
        have n2' : (n : Int) < (T1.l.length : Int) := by omega
        have n3' : (n : Int) + 1 ≤ 9223372036854775807 := by have := htw'.out; omega
        have hS30 : Hid (∀ W', Kp [] wr W' → W'.cell? ⟨q4, 4, none⟩ = some (.slice (some ⟨g, f, none⟩) pl.length pc) ∧ W'.cell? ⟨q5, 0, none⟩ = some (.int .i64 (i : Int)) ∧ W'.cell? ⟨g, f + i * 6, none⟩ = some (.string P1.nm) ∧ W'.cell? ⟨g, f + i * 6 + 1, none⟩ = some (.int .i64 (t : Int)) ∧ W'.cell? ⟨g, f + i * 6 + 2, none⟩ = some (.slice P1.ca P1.cl.length P1.cc) ∧ W'.cell? ⟨g, f + i * 6 + 3, none⟩ = some (.slice P1.sa P1.sl.length P1.sc) ∧ W'.cell? ⟨g, f + i * 6 + 4, none⟩ = some (.int .i64 P1.by_) ∧ W'.cell? ⟨g, f + i * 6 + 5, none⟩ = some (.int .i64 P1.sh) ∧ W'.cell? ⟨gb, ob + j * 4 + 2, none⟩ = some (.slice xa xl.length xc)) := hid (fun W' q => by
         have h := hD.out W' (kpr.out.trans q (by simp))
         have h2 := hx0.out W' (kpr.out.trans q (by simp))
         exact ⟨h.2.2.2.2.1, h.2.2.2.2.2.1, h.2.2.2.2.2.2.2.2.2.1, h.2.2.2.2.2.2.2.2.2.2.1, h.2.2.2.2.2.2.2.2.2.2.2.1, h.2.2.2.2.2.2.2.2.2.2.2.2.1, h.2.2.2.2.2.2.2.2.2.2.2.2.2.1, h.2.2.2.2.2.2.2.2.2.2.2.2.2.2, h2.2.2.1⟩)
        have hV1 := hid (fun W (q : Kp [] wr W) => rValue P1 xa xc xl (n : Int) W (hpok.out.cols.keptNew ((K2.out.trans kp2.out (by simp)).trans (kpr.out.trans q (by simp)) (by simp))) (hxl.out W (kpr.out.trans q (by simp))).r.see (by have h1 := (hxl.out W (kpr.out.trans q (by simp))).r.cap; have h2 := (hxl.out W (kpr.out.trans q (by simp))).r.most; unfold maxLen at h2; dsimp only at h1 h2; omega) hwi.out)
        obtain ⟨val, hval⟩ : ∃ v, Hid (valP P1.cl xl (n : Int) = v) := ⟨_, hid rfl⟩
        obtain ⟨hb, hhb⟩ : ∃ v, Hid (decide ((n : Int) ∈ P1.cl) = v) := ⟨_, hid rfl⟩
        simp only [hval.out, hhb.out, VlP, Pj.v, hpt'.out] at hV1;obtain ⟨vk, vb, vn, vt⟩ := val;have hlr : Hid (wx.heap.size ≤ wr.heap.size) := hid HM.out.2.2.2.size
        go_wp2_with fail;go_cut [21, 22] from 146 to 161 (fun v21 v22 wy => ∃ q21 : Nat, v21 = .pointer (some ⟨q21, 0, none⟩) ∧ v22 = .bool hb ∧ Hid (Bn wy q21 [.int .i64 vk, .bool vb, .int .i64 vn, .string vt] ∧ wr.heap.size ≤ q21 ∧ Kp [] wr wy))
        case first =>
         refine wp_noPanicY ?_;refine wp_region_held_drew (S := fun W' => W'.cell? ⟨q4, 4, none⟩ = some (.slice (some ⟨g, f, none⟩) pl.length pc) ∧ W'.cell? ⟨q5, 0, none⟩ = some (.int .i64 (i : Int)) ∧ W'.cell? ⟨g, f + i * 6, none⟩ = some (.string P1.nm) ∧ W'.cell? ⟨g, f + i * 6 + 1, none⟩ = some (.int .i64 (t : Int)) ∧ W'.cell? ⟨g, f + i * 6 + 2, none⟩ = some (.slice P1.ca P1.cl.length P1.cc) ∧ W'.cell? ⟨g, f + i * 6 + 3, none⟩ = some (.slice P1.sa P1.sl.length P1.sc) ∧ W'.cell? ⟨g, f + i * 6 + 4, none⟩ = some (.int .i64 P1.by_) ∧ W'.cell? ⟨g, f + i * 6 + 5, none⟩ = some (.int .i64 P1.sh) ∧ W'.cell? ⟨gb, ob + j * 4 + 2, none⟩ = some (.slice xa xl.length xc)) (by kernel_rfl) (hS30.out _ (Kp.refl [] wr).drew) (fun hHeld => ?_)
         have KD : Hid (Kp [] wr wr.drew) := hid (Kp.refl _ _).drew
         generalize wr.drew = wd at *
         refine tkH ?_ 0 rfl (by kernel_rfl) (fun _ _ _ h => by cases h.1) (by rfl) ?_ ‹_› ?_;rotate_left
         ·intro w h; (try dsimp only at h); go_simp <;> with_reducible rfl
         (try simp only [Act.put, lz]);refine tkH ?_ 1 rfl (by kernel_rfl) (fun _ _ _ h => by cases h.1) (by rfl) ?_ ‹_› ?_;rotate_left
         ·intro w h; (try dsimp only at h); go_simp <;> with_reducible rfl
         (try simp only [Act.put, lz]);refine tkH ?_ 2 rfl (by kernel_rfl) (fun _ _ _ h => by cases h.1) (by rfl) ?_ ‹_› ?_;rotate_left
         ·intro w h; (try dsimp only at h); go_simp <;> with_reducible rfl
         (try simp only [Act.put, lz]);refine tkH ?_ 3 rfl (by kernel_rfl) (fun _ _ _ h => by cases h.1) (by rfl) ?_ ‹_› ?_;rotate_left
         ·intro w h; (try dsimp only at h); go_simp <;> with_reducible rfl
         (try simp only [Act.put, lz]);refine tkH ?_ 4 rfl (by kernel_rfl) (fun _ _ _ h => by cases h.1) (by rfl) ?_ ‹_› ?_;rotate_left
         ·intro w h; (try dsimp only at h); go_simp <;> with_reducible rfl
         (try simp only [Act.put, lz]);refine tkH ?_ 5 rfl (by kernel_rfl) (fun _ _ _ h => by cases h.1) (by rfl) ?_ ‹_› ?_;rotate_left
         ·intro w h; (try dsimp only at h); go_simp <;> with_reducible rfl
         (try simp only [Act.put, lz]);refine tkH ?_ 6 rfl (by kernel_rfl) (fun _ _ _ h => by cases h.1) (by rfl) ?_ ‹_› ?_;rotate_left
         ·intro w h; (try dsimp only at h); go_simp <;> with_reducible rfl
         (try simp only [Act.put, lz]);refine tkH ?_ 7 rfl (by kernel_rfl) (fun _ _ _ h => by cases h.1) (by rfl) ?_ ‹_› ?_;rotate_left
         ·intro w h; (try dsimp only at h); go_simp <;> with_reducible rfl
         (try simp only [Act.put, lz]);refine tkH ?_ 8 rfl (by kernel_rfl) (fun _ _ _ h => by cases h.1) (by rfl) ?_ ‹_› ?_;rotate_left
         ·intro w h; (try dsimp only at h); go_simp <;> with_reducible rfl
         (try simp only [Act.put, lz]);refine tkH ?_ 9 rfl (by kernel_rfl) (fun _ _ _ h => by cases h.1) (by rfl) ?_ ‹_› ?_;rotate_left
         ·intro w h; (try dsimp only at h); go_simp <;> with_reducible rfl
         (try simp only [Act.put, lz]);refine tkH ?_ 10 rfl (by kernel_rfl) (fun _ _ _ h => by cases h.1) (by rfl) ?_ ‹_› ?_;rotate_left
         ·intro w h; (try dsimp only at h); go_simp <;> with_reducible rfl
         (try simp only [Act.put, lz]);refine tkH ?_ 11 rfl (by kernel_rfl) (fun _ _ _ h => by cases h.1) (by rfl) ?_ ‹_› ?_;rotate_left
         ·intro w h; (try dsimp only at h); go_simp <;> with_reducible rfl
         (try simp only [Act.put, lz]);refine wpAnyH_ready (rs := [12, 16]) (by kernel_rfl) (by simp) ?_
         refine AllReadyH.cons rfl (fun K hK => ?_) (AllReadyH.cons rfl (fun K hK => ?_) AllReadyH.nil)
         ·skip
          go_simp;refine (hV1.out wd KD.out).mono ?_;rintro e wz ⟨rfl, kz⟩;(try go_wp2_with fail);refine hK.out _ _ (hS30.out _ (KD.out.trans kz (by simp))) (fun hHeld => ?_)
          clear hK K;(try simp only [Act.put, lz]);refine tkH ?_ 13 rfl (by kernel_rfl) (fun _ _ _ h => by cases h.1) (by rfl) ?_ ‹_› ?_;rotate_left
          ·intro w h; (try dsimp only at h); go_simp <;> with_reducible rfl
          (try simp only [Act.put, lz]);refine tkH ?_ 14 rfl (by kernel_rfl) (fun _ _ _ h => by cases h.1) (by rfl) ?_ ‹_› ?_;rotate_left
          ·intro w h; (try dsimp only at h); go_simp <;> with_reducible rfl
          (try simp only [Act.put, lz]);refine tkH ?_ 15 rfl (by kernel_rfl) (fun _ _ _ h => by cases h.1) (by rfl) ?_ ‹_› ?_;rotate_left
          ·intro w h; (try dsimp only at h); go_simp <;> with_reducible rfl
          (try simp only [Act.put, lz]);obtain ⟨q21, Y1, Y2, eq21, eY1, c1, eY2, c2, kY1, kY2⟩ := boxValF wz ⟨vk, vb, vn, vt⟩;dsimp only at eY2 c2;have kzd := KD.out.trans kz (by simp)
          refine rdH 16 (by kernel_rfl) rfl fun K hK => ?_
          go_simp;(try go_wp2_with fail);refine hK.out _ _ (hS30.out _ (kzd.trans kY1 (by simp))) (fun hHeld => ?_)
          clear hK K;(try simp only [Act.put, lz]);have m0 := c1.get 0 _ rfl; have m1 := c1.get 1 _ rfl; have m2 := c1.get 2 _ rfl; have m3 := c1.get 3 _ rfl
          have f0 := c1.free 0; have f1 := c1.free 1; have f2 := c1.free 2; have f3 := c1.free 3
          refine rdH 17 (by kernel_rfl) rfl fun K hK => ?_
          go_simp;(try go_wp2_with fail);refine hK.out _ _ (hS30.out _ (kzd.trans kY2 (by simp))) (fun hHeld => ?_)
          clear hK K;(try simp only [Act.put, lz]);refine tkH ?_ 18 rfl (by kernel_rfl) (fun _ _ _ h => by cases h.1) (by rfl) ?_ ‹_› ?_;rotate_left
          ·intro w h; (try dsimp only at h); go_simp <;> with_reducible rfl
          (try simp only [Act.put, lz]);refine wpAnyH_done (by kernel_rfl) ⟨rfl, ?_⟩ _
          have HF : Hid (Bn Y2 q21 [.int .i64 vk, .bool vb, .int .i64 vn, .string vt] ∧ wr.heap.size ≤ q21 ∧ Kp [] wr Y2) := hid ⟨c2, by have := kzd.size; omega, kzd.trans kY2 (by simp)⟩
          clear hHeld c1 c2 kY1 kY2 m0 m1 m2 m3 f0 f1 f2 f3;go_wp2_with fail;go_meet;exact ⟨q21, rfl, rfl, HF⟩
         ·skip
          obtain ⟨q21, Y1, eq21, eY1, c1, kY1⟩ := boxVal0 wd;go_simp;(try go_wp2_with fail);refine hK.out _ _ (hS30.out _ (KD.out.trans kY1 (by simp))) (fun hHeld => ?_)
          clear hK K;(try simp only [Act.put, lz]);have kd1 := KD.out.trans kY1 (by simp)
          refine rdH 12 (by kernel_rfl) rfl fun K hK => ?_
          go_simp;refine (hV1.out Y1 kd1).mono ?_;rintro e wz ⟨rfl, kz⟩;(try go_wp2_with fail);refine hK.out _ _ (hS30.out _ (kd1.trans kz (by simp))) (fun hHeld => ?_)
          clear hK K;(try simp only [Act.put, lz]);refine tkH ?_ 13 rfl (by kernel_rfl) (fun _ _ _ h => by cases h.1) (by rfl) ?_ ‹_› ?_;rotate_left
          ·intro w h; (try dsimp only at h); go_simp <;> with_reducible rfl
          (try simp only [Act.put, lz]);refine tkH ?_ 14 rfl (by kernel_rfl) (fun _ _ _ h => by cases h.1) (by rfl) ?_ ‹_› ?_;rotate_left
          ·intro w h; (try dsimp only at h); go_simp <;> with_reducible rfl
          (try simp only [Act.put, lz]);refine tkH ?_ 15 rfl (by kernel_rfl) (fun _ _ _ h => by cases h.1) (by rfl) ?_ ‹_› ?_;rotate_left
          ·intro w h; (try dsimp only at h); go_simp <;> with_reducible rfl
          (try simp only [Act.put, lz]);have c1z := c1.kept kz
          obtain ⟨Y2, eY2, c2, kY2⟩ := c1z.set4F rfl (.int .i64 vk) (.bool vb) (.int .i64 vn) (.string vt);have kz2 := (kd1.trans kz (by simp)).trans kY2 (fun y hy => .inr (by simp at hy; have := KD.out.size; omega))
          have m0 := c1z.get 0 _ rfl; have m1 := c1z.get 1 _ rfl; have m2 := c1z.get 2 _ rfl; have m3 := c1z.get 3 _ rfl
          have f0 := c1z.free 0; have f1 := c1z.free 1; have f2 := c1z.free 2; have f3 := c1z.free 3
          refine rdH 17 (by kernel_rfl) rfl fun K hK => ?_
          go_simp;(try go_wp2_with fail);refine hK.out _ _ (hS30.out _ kz2) (fun hHeld => ?_)
          clear hK K;(try simp only [Act.put, lz]);refine tkH ?_ 18 rfl (by kernel_rfl) (fun _ _ _ h => by cases h.1) (by rfl) ?_ ‹_› ?_;rotate_left
          ·intro w h; (try dsimp only at h); go_simp <;> with_reducible rfl
          (try simp only [Act.put, lz]);refine wpAnyH_done (by kernel_rfl) ⟨rfl, ?_⟩ _
          have HF : Hid (Bn Y2 q21 [.int .i64 vk, .bool vb, .int .i64 vn, .string vt] ∧ wr.heap.size ≤ q21 ∧ Kp [] wr Y2) := hid ⟨c2, by have := KD.out.size; omega, kz2⟩
          clear hHeld c1 c1z c2 kY1 kY2 m0 m1 m2 m3 f0 f1 f2 f3;go_wp2_with fail;go_meet;exact ⟨q21, rfl, rfl, HF⟩
        case rest =>
         obtain ⟨q21, rfl, rfl, h21⟩ := hcut;obtain ⟨wq, hwq⟩ : ∃ x, x = wc := ⟨_, rfl⟩
         subst hwq;obtain ⟨⟨zk, zb, zn, zt⟩, hzv⟩ : ∃ z, Hid (valF P1.cl [] xl [] (n : Int) = z) := ⟨_, hid rfl⟩
         skip
         ·cases hb with
          | true =>
           have hin : (n : Int) ∈ P1.cl := of_decide_eq_true hhb.out
           have he : Hid ((⟨zk, zb, zn, zt⟩ : Val) = ⟨vk, vb, vn, vt⟩) := hid (by
            rw [← hzv.out, ← hval.out];unfold valF valP
            rw [if_pos hin, if_pos hin])
           have hF : Hid (Bn wq q21 [.int .i64 zk, .bool zb, .int .i64 zn, .string zt] ∧ Kp [] wr wq) := hid (by
            obtain ⟨rfl, rfl, rfl, rfl⟩ := Val.mk.inj he.out;exact ⟨h21.out.1, h21.out.2.2⟩)
           clear h21 he hin;have kry := hid hF.out.2
           have b19 := HM.out.1.kept kry.out
           have hm19 := b19.get 2 _ rfl
           have fr19 := b19.free 2
           have z0 := hF.out.1.get 0 _ rfl; have z1 := hF.out.1.get 1 _ rfl; have z2 := hF.out.1.get 2 _ rfl; have z3 := hF.out.1.get 3 _ rfl
           have hml : m'.length ≤ 3000000000000 := by have := htw'.out; rw [hm'.out, List.length_map, List.length_range]; omega
           obtain ⟨a4, c4, W4, hrun, hr4, k4, hn4⟩ := appV1 (HM.out.2.1.keptNew kry.out) ⟨zk, zb, zn, zt⟩ hml;have hzy : wx.heap.size ≤ wq.heap.size := Nat.le_trans hlr.out kry.out.size
           have hq19l : q19 < wq.heap.size := b19.lt (by simp)
           have hnm : q19 ∉ blk ra := fun hh => Nat.lt_irrefl _ (HM.out.2.2.1 q19 hh)
           have b194 := b19.keptS k4 hnm (by omega)
           have hm19' := b194.get 2 _ rfl
           have fr19' := b194.free 2
           have hm5 : Hid (m' ++ [(⟨zk, zb, zn, zt⟩ : Val)] = (List.range (n + 1)).map (fun (k : Nat) => valF P1.cl [] xl [] (k : Int))) := hid (by
            rw [List.range_succ, List.map_append, ← hm'.out, ← hzv.out];rfl)
           obtain ⟨m4, hm4⟩ : ∃ m4, Hid (m' ++ [(⟨zk, zb, zn, zt⟩ : Val)] = m4) := ⟨_, hid rfl⟩
           rw [hm4.out] at hrun hr4 hm5;dsimp only at hrun;obtain ⟨W5, hW5⟩ : ∃ Y, W4.setCell ⟨q19, 2, none⟩ (.slice a4 m4.length c4) = Y := ⟨_, rfl⟩
           have k5 : Kp [q19] W4 W5 := by rw [← hW5]; exact (Kp.refl _ _).setCell (by simp) _
           have b5 : Bn W5 q19 [.int .u64 xe, .int .u32 xn, .slice a4 m4.length c4, .int .u64 0] := by rw [← hW5]; exact b194.set 2 (by simp) _
           have ha4 : ∀ k ∈ blk a4, q19 < k := fun k hk => by
            rcases hn4 k hk with e | e
            ·exact HM.out.2.2.1 k e
            ·omega
           have HF : Hid (Bn W5 q19 [.int .u64 xe, .int .u32 xn, .slice a4 m4.length c4, .int .u64 0] ∧ VE.Row W5 (.slice a4 m4.length c4) m4 ∧ (∀ k ∈ blk a4, q19 < k) ∧ Kp [] wx W5) := hid ⟨b5, hr4.kept k5 (fun k hk => by rw [ownV] at hk; have := ha4 k hk; simp; omega), ha4, ((HM.out.2.2.2.trans kry.out (by simp)).trans k4 (fun x hx => .inr (by have := HM.out.2.2.1 x hx; have := hq19.out; omega))).trans k5 (fun x hx => .inr (by simp at hx; have := hq19.out; omega))⟩
           clear b19 b194 hr4 k4 hn4 k5 b5 ha4 HM hF;go_wp2_with (first | (refine wpAppRunY rfl _ _ 61 61 rfl _ _ _ rfl rfl hrun ?_) | fail)
           go_roundw
           case rel => exact ⟨n + 1, a4, c4, m4, by omega, by go_num, hm5, HF⟩
           case measure => simp [intOf]; omega
          | false =>
           have hnin : ¬ (n : Int) ∈ P1.cl := of_decide_eq_false hhb.out
           exact absurd (hcov'.out n hnt) hnin
       ·have hne : n = T1.l.length := by omega
        have hfin : Hid (Bn wr q19 [.int .u64 xe, .int .u32 xn, .slice ra (rowN P1.cl [] T1.l.length xl []).length rc, .int .u64 0] ∧ VE.Row wr (.slice ra (rowN P1.cl [] T1.l.length xl []).length rc) (rowN P1.cl [] T1.l.length xl []) ∧ (∀ k ∈ blk ra, q19 < k) ∧ Kp [] wx wr) := hid (by
         have e : m' = rowN P1.cl [] T1.l.length xl [] := by rw [hm'.out, hne]; rfl
         rw [← e];exact HM.out)
        have dn1 : ¬ (n : Int) < (T1.l.length : Int) := by omega
        have dn2 : decide ((n : Int) < (T1.l.length : Int)) = false := by simp; omega
        clear hm' HM hne;go_wp2_with fail;go_meet;exact ⟨ra, rc, hfin⟩
     case rest =>
      obtain ⟨ra, rc, hv⟩ := hcut;obtain ⟨wy, hwy⟩ : ∃ x, x = wc := ⟨_, rfl⟩
      subst hwy;obtain ⟨RR, hRR⟩ : ∃ R, Hid (rowN P1.cl [] T1.l.length xl [] = R) := ⟨_, hid rfl⟩
      rw [hRR.out] at hv hsn;obtain ⟨vv, hvv⟩ : ∃ v : Vr, Hid ((⟨xe, xn, ra, rc, RR, 0⟩ : Vr) = v) := ⟨_, hid rfl⟩
      obtain ⟨OP, hOP⟩ : ∃ P, Hid (O.map Vr.pr = P) := ⟨_, hid rfl⟩
      have kpy := hid (kpx.out.trans hv.out.2.2.2 (by simp))
      have HOy := hid (show VrE.Row wy (.slice oa O.length oc) O ∧ (∀ x ∈ O, Vr.lies wy x) from ⟨HOx.out.1.keptNew hv.out.2.2.2, fun x hx => (HOx.out.2.1 x hx).kept hv.out.2.2.2⟩)
      have hOl : O.length ≤ 1048576 := by
       have h1 := congrArg List.length hO.out
       rw [List.length_map, ordN_len] at h1
       have h2 : (refN1 P1.cl T1.l.length (F.take (j))).length ≤ F.length := by
        unfold refN1; rw [List.length_map, List.length_take]; omega
       omega
      have sO : Hid (VrE.See wy oa O ∧ O.length ≤ oc) := hid (by
       obtain ⟨_, _, e, hs, _, hl, _⟩ := HOy.out.1.see;have e1 := Value.slice.inj e
       rw [← e1.1] at hs;rw [← e1.2.2] at hl;exact ⟨hs, hl⟩)
      go_upto_block 10 with fail
      go_cut [23] from 188 to 202 (fun v23 wz => ∃ K : Nat, K ≤ O.length ∧ v23 = .int .i64 (K : Int) ∧ Hid (posN OP vv.pr O.length = K) ∧ Hid (Kp [] wy wz))
      case first =>
       go_wp2_with fail;go_loopw [23, 24] (fun nv bv wn => ∃ kk : Nat, kk ≤ O.length ∧ nv = .int .i64 (kk : Int) ∧ Hid (posN OP vv.pr kk = posN OP vv.pr O.length) ∧ Hid (Kp [] wy wn)) (fun nv _ _ => (intOf nv).toNat)
       case atStart => exact ⟨O.length, Nat.le_refl _, rfl, hid rfl, hid (Kp.refl _ _)⟩
       case round =>
        obtain ⟨kk, hkk, rfl, hip, kn⟩ := hrel
        cases kk with
        | zero =>
         have hp : Hid (posN OP vv.pr O.length = 0) := hid (by rw [← hip.out]; rfl)
         have hXX := hid (show ∃ K : Nat, K ≤ O.length ∧ Value.int .i64 ((0 : Nat) : Int) = .int .i64 (K : Int) ∧ Hid (posN OP vv.pr O.length = K) ∧ Hid (Kp [] wy wr) from ⟨0, Nat.zero_le _, rfl, hp, kn⟩)
         have hz0 : Hid (((0 : Nat) : Int) = 0) := hid rfl
         generalize ((0 : Nat) : Int) = zz at *
         have d1 : decide ((0 : Int) < zz) = false := by have := hz0.out; simp; omega
         have d2 : ¬ (0 : Int) < zz := by have := hz0.out; omega
         clear hip hp hz0;go_wp2_with fail;go_meet;exact hXX.out
        | succ k =>
         have hkO : k < O.length := by omega
         obtain ⟨go_, oo, eo, z0, z1, z2, z3⟩ := vrAt (sO.out.1.keptNew kn.out) (j := k) (x := O[k]) (by simp [hkO])
         have hzc : Hid (∀ W', Kp [] wy W' → W'.cell? ⟨go_, oo + k * 4, none⟩ = some (.int .u64 O[k].e) ∧ W'.cell? ⟨go_, oo + k * 4 + 1, none⟩ = some (.int .u32 O[k].n)) := hid (fun W' q => by
          obtain ⟨g4, o4, e4, z0, z1, z2, z3⟩ := vrAt (sO.out.1.keptNew q) (j := k) (x := O[k]) (by simp [hkO])
          rw [eo] at e4
          cases e4
          exact ⟨z0, z1⟩)
         have cB := hid (rNames vv O[k])
         have hpm : Hid (posN OP vv.pr (k + 1) = if nmC vv O[k] < 0 then posN OP vv.pr k else k + 1) := hid (by
          have e : OP.getD k default = O[k].pr := by rw [← hOP.out, List.getD_eq_getElem?_getD, List.getElem?_map, List.getElem?_eq_getElem hkO]; rfl
          show (if nmN vv.pr (OP.getD k default) < 0 then _ else _) = _
          rw [e, ← nmC_N])
         obtain ⟨lt, hlt2⟩ : ∃ b, Hid (decide (nmC vv O[k] < 0) = b) := ⟨_, hid rfl⟩
         have hpm2 : Hid (posN OP vv.pr (k + 1) = if lt = true then posN OP vv.pr k else k + 1) := hid (by
          rw [hpm.out, ← hlt2.out]
          by_cases c : nmC vv O[k] < 0 <;> simp [c])
         rw [hlt2.out, ← hvv.out] at cB;obtain ⟨z, hz⟩ : ∃ z, Hid (O[k] = z) := ⟨_, hid rfl⟩
         rw [hz.out] at hzc cB;obtain ⟨ze, zn, za, zc, zl, zd⟩ := z;dsimp only at hzc;have HC : Hid (∀ W', Kp [] wy W' → W'.cell? ⟨q19, 0, none⟩ = some (.int .u64 xe) ∧ W'.cell? ⟨q19, 1, none⟩ = some (.int .u32 xn) ∧ W'.cell? ⟨go_, oo + k * 4, none⟩ = some (.int .u64 ze) ∧ W'.cell? ⟨go_, oo + k * 4 + 1, none⟩ = some (.int .u32 zn)) := hid (fun W' q => ⟨(hv.out.1.kept q).get 0 _ rfl, (hv.out.1.kept q).get 1 _ rfl, hzc.out W' q⟩)
         have w1 : IntKind.i64.wrap ((k : Int) + 1 - 1) = (k : Int) := by rw [IntKind.wrap_i64]; try omega
         have w3 : IntKind.i64.wrap (k : Int) = (k : Int) := by rw [IntKind.wrap_i64]; try omega
         have k1 : (0 : Int) ≤ (k : Int) := by omega
         have k2 : (k : Int) < (O.length : Int) := by omega
         have k3 : ((k : Int) + 1).toNat = k + 1 := by omega
         have d1 : decide ((0 : Int) < (k : Int) + 1) = true := by simp <;> omega
         have hkk' := hkk
         subst eo;clear z0 z1 z2 z3 hz hpm hlt2 hzc hkk;go_wp2_with fail;refine wp_noPanicY ?_;refine wp_region_held_drew (S := fun W' => W'.cell? ⟨q19, 0, none⟩ = some (.int .u64 xe) ∧ W'.cell? ⟨q19, 1, none⟩ = some (.int .u32 xn) ∧ W'.cell? ⟨go_, oo + k * 4, none⟩ = some (.int .u64 ze) ∧ W'.cell? ⟨go_, oo + k * 4 + 1, none⟩ = some (.int .u32 zn)) (by kernel_rfl) (HC.out _ kn.out.drew) (fun hHeld => ?_)
         have KD : Hid (Kp [] wy wr.drew) := hid kn.out.drew
         generalize wr.drew = wd at *
         refine tkH ?_ 0 rfl (by kernel_rfl) (fun _ _ _ h => by cases h.1) (by rfl) ?_ ‹_› ?_;rotate_left
         ·intro w h; (try dsimp only at h); go_simp <;> with_reducible rfl
         (try simp only [Act.put, lz]);refine tkH ?_ 1 rfl (by kernel_rfl) (fun _ _ _ h => by cases h.1) (by rfl) ?_ ‹_› ?_;rotate_left
         ·intro w h; (try dsimp only at h); go_simp <;> with_reducible rfl
         (try simp only [Act.put, lz]);refine tkH ?_ 2 rfl (by kernel_rfl) (fun _ _ _ h => by cases h.1) (by rfl) ?_ ‹_› ?_;rotate_left
         ·intro w h; (try dsimp only at h); go_simp <;> with_reducible rfl
         (try simp only [Act.put, lz]);refine tkH ?_ 3 rfl (by kernel_rfl) (fun _ _ _ h => by cases h.1) (by rfl) ?_ ‹_› ?_;rotate_left
         ·intro w h; (try dsimp only at h); go_simp <;> with_reducible rfl
         (try simp only [Act.put, lz]);refine tkH ?_ 4 rfl (by kernel_rfl) (fun _ _ _ h => by cases h.1) (by rfl) ?_ ‹_› ?_;rotate_left
         ·intro w h; (try dsimp only at h); go_simp <;> with_reducible rfl
         (try simp only [Act.put, lz]);refine tkH ?_ 5 rfl (by kernel_rfl) (fun _ _ _ h => by cases h.1) (by rfl) ?_ ‹_› ?_;rotate_left
         ·intro w h; (try dsimp only at h); go_simp <;> with_reducible rfl
         (try simp only [Act.put, lz]);refine tkH ?_ 6 rfl (by kernel_rfl) (fun _ _ _ h => by cases h.1) (by rfl) ?_ ‹_› ?_;rotate_left
         ·intro w h; (try dsimp only at h); go_simp <;> with_reducible rfl
         (try simp only [Act.put, lz]);refine tkH ?_ 7 rfl (by kernel_rfl) (fun _ _ _ h => by cases h.1) (by rfl) ?_ ‹_› ?_;rotate_left
         ·intro w h; (try dsimp only at h); go_simp <;> with_reducible rfl
         (try simp only [Act.put, lz]);refine rdH 8 (by kernel_rfl) rfl fun K hK => ?_
         go_simp;refine (cB.out wd).mono ?_;rintro e we ⟨rfl, ke⟩;(try go_wp2_with fail);refine hK.out _ _ (HC.out we (KD.out.trans ke (by simp))) (fun hHeld => ?_)
         clear hK K;(try simp only [Act.put, lz]);refine tkH ?_ 9 rfl (by kernel_rfl) (fun _ _ _ h => by cases h.1) (by rfl) ?_ ‹_› ?_;rotate_left
         ·intro w h; (try dsimp only at h); go_simp <;> with_reducible rfl
         (try simp only [Act.put, lz]);refine wpAnyH_done (by kernel_rfl) ⟨rfl, ?_⟩ _
         have KE := hid (KD.out.trans ke (by simp))
         clear hHeld ke
         cases lt with
         | true =>
          have hp2 : Hid (posN OP vv.pr k = posN OP vv.pr O.length) := hid (by rw [← hip.out, hpm2.out, if_pos rfl])
          clear hip hpm2;go_wp2_with fail;go_roundw
          case rel => exact ⟨k, by omega, by go_num, hp2, KE⟩
          case measure => simp [intOf] <;> omega
         | false =>
          have hp2 : Hid (posN OP vv.pr O.length = k + 1) := hid (by rw [← hip.out, hpm2.out, if_neg (by simp)])
          clear hip hpm2;go_wp2_with fail;go_meet;exact ⟨k + 1, hkk', by simp, hp2, KE⟩
      case rest =>
       obtain ⟨K, hK, rfl, hp, kn⟩ := hcut;obtain ⟨wq, hwq⟩ : ∃ x, x = wc := ⟨_, rfl⟩
       subst hwq;have hseeW := sO.out.1.keptNew kn.out
       have hoc := sO.out.2
       have hX : Hid ((O.take K ++ vv :: O.drop K).map Vr.pr = ordN (refN1 P1.cl T1.l.length (F.take (j + 1)))) := hid (by
        have e1 : vv.pr = (xe, xn, RR, 0) := by rw [← hvv.out]; rfl
        rw [hsn.out, ordN_snoc, ← hO.out, hOP.out, ← e1];unfold insN
        have e2 : OP.length = O.length := by rw [← hOP.out, List.length_map]
        rw [e2, hp.out, List.map_append, List.map_cons, List.map_take, List.map_drop, hOP.out])
       have hsf := fun W : World => sliceFromVr oa O.length oc K W hK
       have hsee2 : VrE.See wq (if oc = K then oa else oa.map (·.add (K * 4))) (O.drop K) := by
        by_cases hc : oc = K
        ·exact .inl (List.drop_eq_nil_of_le (by omega))
        ·rw [if_neg hc]; exact seeDropF hseeW K
       obtain ⟨cq, hcq⟩ : ∃ q, Hid ((if oc = K then oa else oa.map (·.add (K * 4))) = q) := ⟨_, hid rfl⟩
       rw [hcq.out] at hsee2;simp only [hcq.out] at hsf;obtain ⟨cc, hcc⟩ : ∃ q, Hid (oc - K = q) := ⟨_, hid rfl⟩
       simp only [hcc.out] at hsf;obtain ⟨a1, c1, Y1, a2, c2, Y2, a3, c3, Y3, r1, r2, r3, R3, n3, k1, k2, k3⟩ := app3F wq oa cq oc cc O.length K O rfl hK (hseeW.front K) hsee2 vv (by omega)
       obtain ⟨nk, hnk⟩ : ∃ q, Hid (O.length - K = q) := ⟨_, hid rfl⟩
       simp only [hnk.out] at hsf;rw [hnk.out] at r3;rw [← hvv.out] at r2;dsimp only at r2;have HSF := hid hsf
       have HST := hid (fun W : World => sliceToVr oa O.length oc K W (by omega))
       have hr1 := hid r1
       have hr2 := hid r2
       have hr3 := hid r3
       have b1 := hv.out.1.kept (kn.out.trans k1 (by simp))
       have v0 := b1.get 0 _ rfl; have v1 := b1.get 1 _ rfl; have v2 := b1.get 2 _ rfl; have v3 := b1.get 3 _ rfl
       have ky3 := kn.out.trans k3 (by simp)
       have hlx := hxl.out wy kpy.out
       obtain ⟨O4, hO4⟩ : ∃ o, Hid (O.take K ++ vv :: O.drop K = o) := ⟨_, hid rfl⟩
       have hln : O4.length = O.length + 1 := by rw [← hO4.out]; simp; omega
       rw [hO4.out] at R3 hX
       have hfin : Hid (VrE.Row Y3 (.slice a3 O4.length c3) O4 ∧ (∀ x ∈ O4, Vr.lies Y3 x) ∧ Kp [] W2 Y3) := hid ⟨R3, fun x hx => by
        rw [← hO4.out] at hx
        rcases List.mem_append.1 hx with hx | hx
        ·exact (HOy.out.2 x (List.mem_of_mem_take hx)).kept ky3
        ·rcases List.mem_cons.1 hx with rfl | hx
         ·rw [← hvv.out]
          exact Vr.lies.kept ⟨rowLies hv.out.2.1, hlx.e, hlx.n⟩ ky3
         ·exact (HOy.out.2 x (List.mem_of_mem_drop hx)).kept ky3, kpy.out.trans ky3 (by simp)⟩
       rw [← hln] at hr3;have s1 : (0 : Int) ≤ (K : Int) := by omega
       clear R3 n3 k1 k2 k3 r1 r2 r3 hseeW hsee2 hsf b1 ky3 hlx hO hsn hp;have hsl := HST.out wq
       go_upto_region 41 with (first | (refine wpAppRunY rfl _ _ 55 55 rfl _ _ _ rfl rfl hr1.out ?_) | fail)
       clear hsl;go_upto_region 42 with (first | (refine wpAppRunY rfl _ _ 55 55 rfl _ _ _ rfl rfl hr2.out ?_) | fail)
       have hsl := HSF.out Y2
       clear v0 v1 v2 v3;go_upto_region 43 with (first | (refine wpAppRunY rfl _ _ 55 55 rfl _ _ _ rfl rfl hr3.out ?_) | fail)
       clear hsl;go_wp2_with fail;go_roundw
       case rel => exact ⟨j + 1, a3, c3, O4, by omega, by go_num, by rw [hln], hX, hfin⟩
       case measure => simp [intOf]; omega
   ·have hje : j = F.length := by omega
    have hO2 : Hid (O.map Vr.pr = ordN (refN1 P1.cl T1.l.length F)) := hid (by rw [hO.out, hje, List.take_length])
    have dj1 : ¬ (j : Int) < (F.length : Int) := by omega
    have dj2 : decide ((j : Int) < (F.length : Int)) = false := by simp; omega
    have hOs : Hid (VrE.See wr oa O) := hid (by
     obtain ⟨_, _, e, hs, _⟩ := HO.out.1.see;rw [← (Value.slice.inj e).1] at hs;exact hs)
    clear hO hje;go_wp2_with fail;go_ret;exact ⟨oa, oc, O, rfl, hOs.out, HO.out.2.1, hO2.out.trans (by rw [hfg.out.1]), K2.out.trans (kp2.out.trans HO.out.2.2 (by simp)) (by simp)⟩
theorem fullR_len (S : Nat) (c1 c2 : List Int) (two : Bool) (m : Nat) (ep : Int) (L : List Vl) : (fullR S c1 c2 two m ep L).length ≤ sumVl L := by
 have h1 := Nat.le_trans (seenA_len ep (L.take S)) (sumVl_le_take L S)
 unfold fullR
 rw [ordN_len];split
 ·unfold refN
  exact Nat.le_trans (List.length_filterMap_le _ _) h1
 ·unfold refN1
  rw [List.length_map];exact h1
theorem bothFull (c : Cg) (t x1 x2 : Int) (M : Nat) (a : Option Addr) (ca : Nat) (L : List Vl) (ep : Int) (w : World) (hmem : (x1, x2) ∈ waysV c t) (hv : chkC c = 0) (hM : c.s = (M : Int)) (hc : c.ok w) (hs : VlE.See w a L) (hl : ∀ x ∈ L, x.lies w) (hca : L.length ≤ ca) (hL : L.length ≤ 1048576) (hsum : sumVl L ≤ 1048576) :
  ∃ FN : List Nv, FN.length ≤ 1048576 ∧ (∀ W, Kp [] w W → Calls Tryz.prog 20 #[c.v, plV (x1, x2), .slice a L.length ca, .int .u64 ep] W (LovP FN W)) ∧ (∀ W, Kp [] w W → Calls Tryz.prog 21 #[c.v, plV (x1, x2), .slice a L.length ca, .int .u64 ep] W fun e w' => ∃ (ra : Option Addr) (rc : Nat) (R : List Vr), e = .returned (.slice ra R.length rc) ∧ VrE.See w' ra R ∧ (∀ x ∈ R, Vr.lies w' x) ∧ R.map Vr.pr = FN ∧ Kp [] W w') := by
 obtain ⟨hn, _, _, hp8, _, _⟩ := chk_ok hv;have hM8 : M ≤ 8 := by have := (cntd_iff c).1 hn; omega
 obtain ⟨tn, i, ht, hi, rfl, rfl, htb, hx2⟩ := mem_ways hmem;have hw : ∀ p ∈ c.pl, p.cl.length ≤ 1000 := fun p hp => by have := pjs8 hv p hp; omega
 have htw : ∀ t ∈ c.tl, t.l.length ≤ 1000 := fun t ht => by have := tabs8 hv t ht; omega
 rcases hx2 with ⟨rfl, hcov⟩ | ⟨k, hk, rfl⟩
 ·refine ⟨fullN M c.pl[i].cl [] false c.tl[tn].l.length ep L, by rw [full_eq]; exact Nat.le_trans (fullR_len _ _ _ _ _ _ _) hsum, fun W q => ?_, fun W q => ?_⟩
  ·exact cFull1 c i (-1) tn M a ca L ep W hM (hc.kept q) hn hp8 hi (by omega) ht htb hw htw (hs.keptNew q) (fun x hx => (hl x hx).kept q) hca hL hsum
  ·rw [full_eq]
   exact rFull1 c i (-1) tn M a ca L ep W hM (by omega) (hc.kept q) (by omega) hi (by omega) (by rw [getElem!_pos c.tl tn ht, getElem!_pos c.pl i hi]; exact hcov) ht htb hw htw (hs.keptNew q) (fun x hx => (hl x hx).kept q) hL hsum
 ·refine ⟨fullN M c.pl[i].cl c.pl[k].cl true c.tl[tn].l.length ep L, by rw [full_eq]; exact Nat.le_trans (fullR_len _ _ _ _ _ _ _) hsum, fun W q => ?_, fun W q => ?_⟩
  ·exact cFull2 c i k tn M a ca L ep W hM (hc.kept q) hn hp8 hi hk ht htb hw htw (hs.keptNew q) (fun x hx => (hl x hx).kept q) hca hL hsum
  ·rw [full_eq]
   exact rFull2 c i k tn M a ca L ep W hM (by omega) (hc.kept q) (by omega) hi hk ht htb hw htw (hs.keptNew q) (fun x hx => (hl x hx).kept q) hL hsum
theorem planFullWalk (c : Cg) (a : Option Addr) (ca : Nat) (L : List Vl) (h0 h1 h2 : Int) (w : World) (hA : Asks w) (hc : c.ok w) (hs : VlE.See w a L) (hl : ∀ x ∈ L, x.lies w) (hca : L.length ≤ ca) (hL : L.length ≤ 1048576) (hsum : sumVl L ≤ 1048576) :
  Calls Tryz.prog 5 #[c.v, .slice a L.length ca, .agg #[.int .i64 h0, .int .i64 h1, .int .i64 h2]] w fun e w' => e = .returned (.bool true) ∧ Below w.heap.size w w' := by
 obtain ⟨wb, hwb, kb, zb, bb⟩ := boxC c w;obtain ⟨qc, hqc⟩ : ∃ x, w.heap.size = x := ⟨_, rfl⟩
 rw [hqc] at bb zb;obtain ⟨w1, hw1, k1, b1⟩ : ∃ x, wb.alloc (.cells #[.int .i64 h0, .int .i64 h1, .int .i64 h2] 53) = x ∧ Kp [] wb x ∧ Bn x wb.heap.size [.int .i64 h0, .int .i64 h1, .int .i64 h2] := ⟨_, rfl, (Kp.refl _ _).alloc _, Bn.new wb _ _⟩
 obtain ⟨q5, hq5⟩ : ∃ x, wb.heap.size = x := ⟨_, rfl⟩
 rw [hq5] at b1;have KW := hid (kb.trans k1 (by simp))
 have HB := hid (And.intro (bb.kept k1) b1)
 have cc0 := HB.out.1.get 0 _ rfl; have cc1 := HB.out.1.get 1 _ rfl; have cc2 := HB.out.1.get 2 _ rfl; have cc3 := HB.out.1.get 3 _ rfl; have cc4 := HB.out.1.get 4 _ rfl
 have aR := hid (rCheck c w1 (hc.kept KW.out))
 have aA := hid (fun W (k : Kp [] w W) => cAlive16 W (hA.kept k (by simp)))
 have htl : c.tl.length ≤ 9223372036854775807 := by have := hc.tcap; have := hc.tmax; omega
 clear zb bb b1 kb k1
 by_cases v0 : chkC c = 0
 ·obtain ⟨hn, _, _, hp8, _, _⟩ := chk_ok v0
  have hfew : ∀ x ∈ c.tl, x.l.length ≤ 1000000 := fun x hx => by have := tabs8 v0 x hx; omega
  obtain ⟨M, hM⟩ : ∃ M : Nat, c.s = (M : Int) := ⟨c.s.toNat, by have := (cntd_iff c).1 hn; omega⟩
  have hWl := waysV_few c h0 hp8
  have aC := hid (fun W (k : Kp [] w W) => callsIn_wide.1 (cChoose c h0 h1 W (hc.kept k) (fun x hx => by have := hfew x hx; omega) htl (by omega) hWl))
  have aD := hid (fun W (k : Kp [] w W) => rChoose c h0 h1 W (hc.kept k) hfew (by omega) hWl)
  have hbF := hid (fun x1 x2 (hm : (x1, x2) ∈ waysV c h0) => bothFull c h0 x1 x2 M a ca L (IntKind.u64.wrap h2) w hm v0 hM hc hs hl hca hL hsum)
  obtain ⟨R, hR⟩ : ∃ R, Hid (waysV c h0 = R) := ⟨_, hid rfl⟩
  rw [hR.out] at aC aD hbF;have hZ2 := chV_two R h1
  obtain ⟨X, hX⟩ : ∃ X, Hid (chV R h1 = X) := ⟨_, hid rfl⟩
  rw [hX.out] at aC aD hZ2;obtain ⟨⟨x1, x2⟩, Z⟩ := X;rw [v0] at aR;obtain ⟨ep, hep⟩ : ∃ ep, IntKind.u64.wrap h2 = ep := ⟨_, rfl⟩
  rw [hep] at hbF;simp only [Cg.v, plV] at aR aC aD hbF hZ2 ⊢;clear hA hc hfew hWl hM hn hp8 htl v0 hs hl hca hL hsum;go_enter Tryz.func5, Tryz.ntmps5
  go_wp2_with fail;refine aR.out.mono ?_;rintro e w2 ⟨rfl, k2⟩;have KW2 := hid (KW.out.trans k2 (by simp))
  have HB2 := hid (And.intro (HB.out.1.kept k2) (HB.out.2.kept k2))
  clear cc0 cc1 cc2 cc3 cc4;have cc0 := HB2.out.1.get 0 _ rfl; have cc1 := HB2.out.1.get 1 _ rfl; have cc2 := HB2.out.1.get 2 _ rfl; have cc3 := HB2.out.1.get 3 _ rfl; have cc4 := HB2.out.1.get 4 _ rfl
  have dd0 := HB2.out.2.get 0 _ rfl; have dd1 := HB2.out.2.get 1 _ rfl
  clear k2 aR HB;go_wp2_with fail;refine (aC.out w2 KW2.out).mono ?_;rintro e w3 ⟨rfl, k3⟩;obtain ⟨q7, W1, W2, hq7, hW1, bW1, hW2, bW2, kW2⟩ := boxTwo 38 w3 x1 x2;have KW3 := hid ((KW2.out.trans k3 (by simp)).trans kW2 (by simp))
  have HB3 := hid (And.intro ((HB2.out.1.kept k3).kept kW2) ((HB2.out.2.kept k3).kept kW2))
  have H7 := hid bW2
  have m0 := bW1.get 0 _ rfl; have m1 := bW1.get 1 _ rfl
  have u0 := bW1.free 0; have u1 := bW1.free 1
  clear cc0 cc1 cc2 cc3 cc4 dd0 dd1;have cc0 := HB3.out.1.get 0 _ rfl; have cc1 := HB3.out.1.get 1 _ rfl; have cc2 := HB3.out.1.get 2 _ rfl; have cc3 := HB3.out.1.get 3 _ rfl; have cc4 := HB3.out.1.get 4 _ rfl
  have dd0 := HB3.out.2.get 0 _ rfl; have dd1 := HB3.out.2.get 1 _ rfl
  clear k3 kW2 bW1 bW2 aC HB2;go_wp2_with fail;refine (aD.out W2 KW3.out).mono ?_;rintro e w4 ⟨rfl, k4⟩;obtain ⟨q9, W3, w5, hq9, hW3, bW3, hW4, bW4, kW4⟩ := boxTwo 41 w4 x1 x2;have KW5 := hid ((KW3.out.trans k4 (by simp)).trans kW4 (by simp))
  have HB5 := hid (And.intro ((HB3.out.1.kept k4).kept kW4) (And.intro ((H7.out.kept k4).kept kW4) (And.intro bW4 ((HB3.out.2.kept k4).kept kW4))))
  have m2 := bW3.get 0 _ rfl; have m3 := bW3.get 1 _ rfl
  have u2 := bW3.free 0; have u3 := bW3.free 1
  clear cc0 cc1 cc2 cc3 cc4 dd0 dd1 m0 m1 u0 u1
  have hF : Hid (∀ W', Kp [] w5 W' → W'.cell? ⟨qc, 0, none⟩ = some (.int .i64 c.n) ∧ W'.cell? ⟨qc, 1, none⟩ = some (.int .i64 c.s) ∧ W'.cell? ⟨qc, 2, none⟩ = some (.int .i64 c.k) ∧ W'.cell? ⟨qc, 3, none⟩ = some (.slice c.ta c.tl.length c.tc) ∧ W'.cell? ⟨qc, 4, none⟩ = some (.slice c.pa c.pl.length c.pc) ∧ W'.cell? ⟨q7, 0, none⟩ = some (.int .i64 x1) ∧ W'.cell? ⟨q7, 1, none⟩ = some (.int .i64 x2) ∧ W'.cell? ⟨q9, 0, none⟩ = some (.int .i64 x1) ∧ W'.cell? ⟨q9, 1, none⟩ = some (.int .i64 x2) ∧ W'.cell? ⟨q5, 2, none⟩ = some (.int .i64 h2)) := hid (fun W' k => by
   have h1 := HB5.out.1.kept k
   have h2 := HB5.out.2.1.kept k
   have h3 := HB5.out.2.2.1.kept k
   have h4 := HB5.out.2.2.2.kept k
   exact ⟨h1.get 0 _ rfl, h1.get 1 _ rfl, h1.get 2 _ rfl, h1.get 3 _ rfl, h1.get 4 _ rfl, h2.get 0 _ rfl, h2.get 1 _ rfl, h3.get 0 _ rfl, h3.get 1 _ rfl, h4.get 2 _ rfl⟩)
  clear k4 kW4 bW3 bW4 aD HB3 H7
  rcases hZ2 with e | e
  ·obtain rfl : Z = 0 := e
   obtain ⟨FN, hFl, hFa, hFb⟩ := hbF.out x1 x2 (chV_mem hX.out);have aL := hid (fun W (k : Kp [] w5 W) => aA.out W (KW5.out.trans k (by simp)))
   have aF := hid (fun W (k : Kp [] w5 W) => hFa W (KW5.out.trans k (by simp)))
   have aG := hid (fun W (k : Kp [] w5 W) => hFb W (KW5.out.trans k (by simp)))
   clear hFa hFb hbF aA hX;go_wp2_with fail;refine wp_region_held_drew (S := fun W' => W'.cell? ⟨qc, 0, none⟩ = some (.int .i64 c.n) ∧ W'.cell? ⟨qc, 1, none⟩ = some (.int .i64 c.s) ∧ W'.cell? ⟨qc, 2, none⟩ = some (.int .i64 c.k) ∧ W'.cell? ⟨qc, 3, none⟩ = some (.slice c.ta c.tl.length c.tc) ∧ W'.cell? ⟨qc, 4, none⟩ = some (.slice c.pa c.pl.length c.pc) ∧ W'.cell? ⟨q7, 0, none⟩ = some (.int .i64 x1) ∧ W'.cell? ⟨q7, 1, none⟩ = some (.int .i64 x2) ∧ W'.cell? ⟨q9, 0, none⟩ = some (.int .i64 x1) ∧ W'.cell? ⟨q9, 1, none⟩ = some (.int .i64 x2) ∧ W'.cell? ⟨q5, 2, none⟩ = some (.int .i64 h2)) (by kernel_rfl) ?_ (fun hHeld => ?_)
   ·exact hF.out _ (Kp.refl _ _).drew
   have KD : Hid (Kp [] w5 w5.drew) := hid (Kp.refl _ _).drew
   generalize w5.drew = wd at *
   refine rdH 0 (by kernel_rfl) rfl fun K hK => ?_
   go_simp;refine (aL.out _ KD.out).mono ?_;rintro e w6 ⟨rfl, kk⟩;have K6 := hid (KD.out.trans kk (by simp))
   clear kk;(try go_wp2_with fail);refine hK.out _ _ (hF.out w6 K6.out) (fun hHeld => ?_)
   clear hK K;(try simp only [Act.put, lz]);refine tkH ?_ 1 rfl (by kernel_rfl) (fun _ _ _ h => h) (by rfl) ?_ ‹_› ?_;rotate_left
   ·intro w h; (try dsimp only at h); go_simp <;> with_reducible rfl
   (try simp only [Act.put, lz]);refine tkH ?_ 2 rfl (by kernel_rfl) (fun _ _ _ h => h) (by rfl) ?_ ‹_› ?_;rotate_left
   ·intro w h; (try dsimp only at h); go_simp <;> with_reducible rfl
   (try simp only [Act.put, lz]);refine tkH ?_ 3 rfl (by kernel_rfl) (fun _ _ _ h => h) (by rfl) ?_ ‹_› ?_;rotate_left
   ·intro w h; (try dsimp only at h); go_simp <;> with_reducible rfl
   (try simp only [Act.put, lz]);refine tkH ?_ 4 rfl (by kernel_rfl) (fun _ _ _ h => h) (by rfl) ?_ ‹_› ?_;rotate_left
   ·intro w h; (try dsimp only at h); go_simp <;> with_reducible rfl
   (try simp only [Act.put, lz]);refine tkH ?_ 5 rfl (by kernel_rfl) (fun _ _ _ h => h) (by rfl) ?_ ‹_› ?_;rotate_left
   ·intro w h; (try dsimp only at h); go_simp <;> with_reducible rfl
   (try simp only [Act.put, lz]);refine tkH ?_ 6 rfl (by kernel_rfl) (fun _ _ _ h => h) (by rfl) ?_ ‹_› ?_;rotate_left
   ·intro w h; (try dsimp only at h); go_simp <;> with_reducible rfl
   (try simp only [Act.put, lz]);refine tkH ?_ 7 rfl (by kernel_rfl) (fun _ _ _ h => h) (by rfl) ?_ ‹_› ?_;rotate_left
   ·intro w h; (try dsimp only at h); go_simp <;> with_reducible rfl
   (try simp only [Act.put, lz]);refine tkH ?_ 9 rfl (by kernel_rfl) (fun _ _ _ h => h) (by rfl) ?_ ‹_› ?_;rotate_left
   ·intro w h; (try dsimp only at h); go_simp <;> with_reducible rfl
   (try simp only [Act.put, lz]);refine tkH ?_ 10 rfl (by kernel_rfl) (fun _ _ _ h => h) (by rfl) ?_ ‹_› ?_;rotate_left
   ·intro w h; (try dsimp only at h); go_simp <;> with_reducible rfl
   (try simp only [Act.put, lz]);refine tkH ?_ 11 rfl (by kernel_rfl) (fun _ _ _ h => h) (by rfl) ?_ ‹_› ?_;rotate_left
   ·intro w h; (try dsimp only at h); go_simp <;> with_reducible rfl
   (try simp only [Act.put, lz]);refine tkH ?_ 12 rfl (by kernel_rfl) (fun _ _ _ h => h) (by rfl) ?_ ‹_› ?_;rotate_left
   ·intro w h; (try dsimp only at h); go_simp <;> with_reducible rfl
   (try simp only [Act.put, lz]);refine tkH ?_ 13 rfl (by kernel_rfl) (fun _ _ _ h => h) (by rfl) ?_ ‹_› ?_;rotate_left
   ·intro w h; (try dsimp only at h); go_simp <;> with_reducible rfl
   (try simp only [Act.put, lz]);refine tkH ?_ 14 rfl (by kernel_rfl) (fun _ _ _ h => h) (by rfl) ?_ ‹_› ?_;rotate_left
   ·intro w h; (try dsimp only at h); go_simp <;> with_reducible rfl
   (try simp only [Act.put, lz]);refine rdH 8 (by kernel_rfl) rfl fun K hK => ?_
   go_simp;refine (aF.out _ K6.out).mono ?_;rintro e w7 ⟨ra, rc, A, rfl, hlA, hA, kk⟩;have K7 := hid (K6.out.trans kk (by simp))
   have HA := hid (And.intro hlA hA)
   clear kk hlA hA;(try go_wp2_with fail);refine hK.out _ _ (hF.out w7 K7.out) (fun hHeld => ?_)
   clear hK K;(try simp only [Act.put, lz]);refine rdH 15 (by kernel_rfl) rfl fun K hK => ?_
   go_simp;refine (aG.out _ K7.out).mono ?_;rintro e w8 ⟨rb, rd, B, rfl, sB, lB, hB, kk⟩;have K78 := hid kk
   have K8 := hid (K7.out.trans kk (by simp))
   have HBB := hid (And.intro sB (And.intro lB hB))
   clear kk sB lB hB;(try go_wp2_with fail);refine hK.out _ _ (hF.out w8 K8.out) (fun hHeld => ?_)
   clear hK K;try simp only [Act.put, lz]
   have sA : Hid (VrE.See w7 ra A) := hid (by
    obtain ⟨_, _, e, hs, _⟩ := HA.out.1.row.see;rw [← (Value.slice.inj e).1] at hs;exact hs)
   have hAl : A.length ≤ 4000000000000 := by
    have h1 := congrArg List.length HA.out.2
    rw [List.length_map] at h1;omega
   have cE := hid (cSameVers ra rb rc rd A B w8 (sA.out.keptNew K78.out) HBB.out.1 (fun x hx => (HA.out.1.lies x hx).kept K78.out) HBB.out.2.1 (HA.out.2.trans HBB.out.2.2.symm) hAl)
   refine rdH 16 (by kernel_rfl) rfl fun K hK => ?_
   go_simp;refine cE.out.mono ?_;rintro e w9 ⟨rfl, kk⟩;have K9 := hid (K8.out.trans kk (by simp))
   clear kk;(try go_wp2_with fail);refine hK.out _ _ (hF.out w9 K9.out) (fun hHeld => ?_)
   clear hK K;(try simp only [Act.put, lz]);refine tkH ?_ 17 rfl (by kernel_rfl) (fun _ _ _ h => h) (by rfl) ?_ ‹_› ?_;rotate_left
   ·intro w h; (try dsimp only at h); go_simp <;> with_reducible rfl
   (try simp only [Act.put, lz]);refine tkH ?_ 18 rfl (by kernel_rfl) (fun _ _ _ h => h) (by rfl) ?_ ‹_› ?_;rotate_left
   ·intro w h; (try dsimp only at h); go_simp <;> with_reducible rfl
   (try simp only [Act.put, lz]);refine wpAnyH_done (by kernel_rfl) ?_ _
   clear hHeld;go_wp2_with fail;go_ret;exact ⟨by simp, (KW5.out.trans K9.out (by simp)).below⟩
  ·obtain rfl : Z = 161 := e
   have aL := hid (aA.out w5 KW5.out)
   clear hbF aA hX;go_wp2_with fail;refine aL.out.mono ?_;rintro e w6 ⟨rfl, k6⟩;have KW6 := hid (KW5.out.trans k6 (by simp))
   clear k6;go_wp2_with fail;go_ret;exact ⟨by simp, KW6.out.below⟩
 ·obtain ⟨V, hV⟩ : ∃ V, chkC c = V := ⟨_, rfl⟩
  rw [hV] at aR v0;have e0 : (V != 0) = true := by simpa using v0
  simp only [Cg.v] at aR ⊢;clear hV v0 hc hA hs hl;go_enter Tryz.func5, Tryz.ntmps5
  go_wp2_with fail;refine aR.out.mono ?_;rintro e w2 ⟨rfl, k2⟩;have KW2 := hid (KW.out.trans k2 (by simp))
  clear k2 aR;go_wp2_with fail;refine (aA.out w2 KW2.out).mono ?_;rintro e w3 ⟨rfl, k3⟩;have KW3 := hid (KW2.out.trans k3 (by simp))
  clear k3;go_wp2_with fail;go_ret;exact ⟨by simp, KW3.out.below⟩
end Go.Proofs.YtlgfekjoknbfdaaGreatDoor
end

section
namespace Go.Proofs.YtlgfekjoknbfdaaGreatDoor
open Go.ChangeShapes Go.WideShapes Go.ChangeAt Go.RowKit Go.Hay
theorem cellsCo : Tryz.prog.cellsOf 104 = 3 := by kernel_rfl
theorem cellsTa : Tryz.prog.cellsOf 77 = 2 := by kernel_rfl
theorem cellsPr : Tryz.prog.cellsOf 92 = 6 := by kernel_rfl
theorem cellsCg : Tryz.prog.cellsOf 25 = 5 := by kernel_rfl
theorem cellsSCo : Tryz.prog.cellsOf 75 = 1 := by kernel_rfl
theorem cellsSTa : Tryz.prog.cellsOf 22 = 1 := by kernel_rfl
theorem cellsSPr : Tryz.prog.cellsOf 23 = 1 := by kernel_rfl
theorem cellsSIn : Tryz.prog.cellsOf 27 = 1 := by kernel_rfl
theorem cellsIn1 : Tryz.prog.cellsOf 3 = 1 := by kernel_rfl
theorem cellsBo1 : Tryz.prog.cellsOf 4 = 1 := by kernel_rfl
theorem cellsSt1 : Tryz.prog.cellsOf 9 = 1 := by kernel_rfl
theorem bytesIn1 : Tryz.prog.bytesOf 3 = 8 := by kernel_rfl
theorem bytesTa : Tryz.prog.bytesOf 77 = 40 := by kernel_rfl
theorem bytesPr : Tryz.prog.bytesOf 92 = 88 := by kernel_rfl
section
variable {H : Type} {enc : TypeId × Value → H} {W : World} {a : Option Addr} {len cap : Nat} {d : DataW H} {ps : List MemPlace}
theorem openColC {fuel : Nat} {c0 c1 c2 : Value} {x : DataW H × List MemPlace} (h : DataW.trod enc Tryz.prog W 0 (fun _ => true) true fuel 104 [c0, c1, c2] = some x) :
  ∃ c : Col, c0 = .string c.nm ∧ c1 = .int .i64 c.k ∧ c2 = .bool c.z := by
 obtain ⟨xs, n, _, rfl, _, hlen, hf⟩ := DataW.trod_struct Tryz.underlying104 h
 match xs, hlen with
 | [y0, y1, y2], _ =>
  have h0 := hf 0 _ rfl
  have h1 := hf 1 _ rfl
  have h2 := hf 2 _ rfl
  simp [cellsIn1, cellsBo1, cellsSt1] at h0 h1 h2
  obtain ⟨s, e0, _, w0⟩ := DataW.trod_string Tryz.underlying9 h0;obtain ⟨k, e1, _, w1⟩ := DataW.trod_int Tryz.underlying3 h1;obtain ⟨b, e2, _⟩ := DataW.trod_bool Tryz.underlying4 h2;simp at e0 e1 e2
  exact ⟨⟨s, k, b⟩, e0, e1, e2⟩
theorem openColsC {fuel : Nat} {v : Value} {x : DataW H × List MemPlace} (hf : DataW.trod enc Tryz.prog W 0 (fun _ => true) true fuel 75 [v] = some x) :
  ∃ (a : Option Addr) (cap : Nat) (l : List Col), v = .slice a l.length cap ∧ Cols W a l ∧ l.length ≤ cap ∧ cap ≤ maxLen := by
 rcases Go.Deep.open_slice Tryz.underlying75 hf with ⟨hcs, hx⟩ | ⟨x, len, cap, m, n, D, Pl, hcs, _, hl, hmx, hm, hx, hcell⟩
 ·simp at hcs
  subst hcs;exact ⟨none, 0, [], rfl, .inl rfl, Nat.le_refl _, Nat.zero_le _⟩
 ·simp at hcs
  subst hcs;have hm' : m = cap := by simpa using hm
  subst hm';rw [cellsCo] at hcell;have : Inhabited Col := ⟨⟨⟨#[]⟩, 0, false⟩⟩
  obtain ⟨B, hB⟩ := Go.Deep.choose_lt (α := Col) (n := len) (p := fun i t => W.cell? (x.add (i * 3)) = some (.string t.nm) ∧ W.cell? ((x.add (i * 3)).add 1) = some (.int .i64 t.k) ∧ W.cell? ((x.add (i * 3)).add 2) = some (.bool t.z)) (fun i hi => by
   obtain ⟨cs', h1, h2⟩ := hcell i (by omega)
   obtain ⟨_, hlen, hc⟩ := World.cells?_some h1
   match cs', hlen with
   | [c0, c1, c2], _ =>
    obtain ⟨t, e0, e1, e2⟩ := openColC h2;have q0 := hc 0 (by omega)
    have q1 := hc 1 (by omega)
    have q2 := hc 2 (by omega)
    simp at q0 q1 q2
    subst e0 e1 e2;exact ⟨t, by simpa [Addr.add] using q0, q1, q2⟩)
  refine ⟨some x, m, (List.range len).map B, by simp, ?_, by simpa using hl, hmx⟩
  cases hlen : len with
  | zero => exact .inl rfl
  | succ k =>
   obtain ⟨b, off, spot⟩ := x;have hc0 := (hB 0 (by omega)).1
   have hspot : spot = none := by simpa [Addr.add] using World.cell?_spot hc0
   subst hspot;refine .inr ⟨b, off, rfl, fun j y hy => ?_⟩
   rw [← hlen] at hy;have hj : j < len := by have := (List.getElem?_eq_some_iff.1 hy).1; simpa using this
   rw [List.getElem?_map, List.getElem?_range hj] at hy
   cases hy
   obtain ⟨q0, q1, q2⟩ := hB j hj;rw [Addr.add_lit] at q0;rw [Addr.add_lit, Addr.add_lit] at q1 q2;exact ⟨q0, q1, q2⟩
theorem openIntC {fuel : Nat} {v : Value} {x : DataW H × List MemPlace} (h : DataW.trod enc Tryz.prog W 0 (fun _ => true) true fuel 3 [v] = some x) : ∃ n : Int, v = .int .i64 n := by
 obtain ⟨n, e, _, hw⟩ := DataW.trod_int Tryz.underlying3 h;simp at e
 exact ⟨n, e⟩
theorem openTbC {fuel : Nat} {cs : List Value} {x : DataW H × List MemPlace} (h : DataW.trod enc Tryz.prog W 0 (fun _ => true) true fuel 77 cs = some x) (hcs : cs.length = 2) : ∃ y : Tb, y.ok W ∧ cs = TbE.c y := by
 obtain ⟨c0, c1, rfl⟩ : ∃ c0 c1, cs = [c0, c1] := by
  match cs, hcs with
  | [c0, c1], _ => exact ⟨c0, c1, rfl⟩
 obtain ⟨xs, n, _, rfl, _, hlen, hf⟩ := DataW.trod_struct Tryz.underlying77 h
 match xs, hlen with
 | [y0, y1], _ =>
  have h0 := hf 0 _ rfl
  have h1 := hf 1 _ rfl
  simp [cellsSt1, cellsSCo] at h0 h1
  obtain ⟨s, e0, _, w0⟩ := DataW.trod_string Tryz.underlying9 h0;simp at e0
  obtain ⟨a, cap, cl, e1, hc, hl, hm⟩ := openColsC h1;subst e0 e1;have hmx : maxLen ≤ 9223372036854775807 := by unfold maxLen; omega
  exact ⟨⟨s, a, cap, cl⟩, ⟨hc, hl, (show cap ≤ 9223372036854775807 by omega)⟩, rfl⟩
end
theorem le_sum_map {α : Type} (f : α → Nat) : ∀ (l : List α) (x : α), x ∈ l → f x ≤ (l.map f).sum
 | [], _, h => by cases h
 | y :: l, x, h => by
  rw [List.map_cons, List.sum_cons]
  rcases List.mem_cons.1 h with rfl | h
  ·omega
  ·have := le_sum_map f l x h
   omega
section
variable {H : Type} {enc : TypeId × Value → H} {W : World} {a : Option Addr} {len cap : Nat} {d : DataW H} {ps : List MemPlace}
theorem openIntsB {fuel : Nat} {v : Value} {x : DataW H × List MemPlace} (h : DataW.trod enc Tryz.prog W 0 (fun _ => true) true fuel 27 [v] = some x) :
  ∃ (a : Option Addr) (cap : Nat) (l : List Int), v = .slice a l.length cap ∧ IntE.See W a l ∧ l.length ≤ cap ∧ cap ≤ maxLen ∧ l.length ≤ Rows.uptoBulk x.1 := by
 have hv : ∃ a len cap, v = .slice a len cap := by
  rcases Go.Deep.open_slice Tryz.underlying27 h with ⟨hcs, _⟩ | ⟨a, len, cap, _, _, _, _, hcs, _⟩
  ·exact ⟨none, 0, 0, by simpa using hcs⟩
  ·exact ⟨_, _, _, by simpa using hcs⟩
 obtain ⟨a, len, cap, rfl⟩ := hv
 obtain ⟨l, rfl, hs, _, hl, hm, _, _, _, hb⟩ := openEls IntE (W := W) (a := a) (len := len) (cap := cap) (d := x.1) (ps := x.2) Tryz.underlying27 cellsIn1 8 bytesIn1 (fun _ => True) (fun _ => True) (fun _ => 0) (fun fuel cs x hx hcs => by
  obtain ⟨v, rfl⟩ : ∃ v, cs = [v] := by
   match cs, hcs with
   | [v], _ => exact ⟨v, rfl⟩
  obtain ⟨n, rfl⟩ := openIntC hx;exact ⟨n, trivial, rfl, fun _ => trivial, Nat.zero_le _⟩) ⟨fuel, h⟩
 exact ⟨a, cap, l, rfl, hs, hl, hm, by omega⟩
theorem openPjB {fuel : Nat} {cs : List Value} {x : DataW H × List MemPlace} (h : DataW.trod enc Tryz.prog W 0 (fun _ => true) true fuel 92 cs = some x) (hcs : cs.length = 6) : ∃ y : Pj, y.ok W ∧ cs = PjE.c y ∧ y.cl.length + y.sl.length ≤ Rows.uptoBulk x.1 := by
 obtain ⟨c0, c1, c2, c3, c4, c5, rfl⟩ : ∃ c0 c1 c2 c3 c4 c5, cs = [c0, c1, c2, c3, c4, c5] := by
  match cs, hcs with
  | [c0, c1, c2, c3, c4, c5], _ => exact ⟨c0, c1, c2, c3, c4, c5, rfl⟩
 obtain ⟨xs, n, _, rfl, _, hlen, hf⟩ := DataW.trod_struct Tryz.underlying92 h
 match xs, hlen with
 | [y0, y1, y2, y3, y4, y5], _ =>
  have h0 := hf 0 _ rfl
  have h1 := hf 1 _ rfl
  have h2 := hf 2 _ rfl
  have h3 := hf 3 _ rfl
  have h4 := hf 4 _ rfl
  have h5 := hf 5 _ rfl
  simp [cellsSt1, cellsSIn, cellsIn1] at h0 h1 h2 h3 h4 h5
  obtain ⟨s, e0, _, w0⟩ := DataW.trod_string Tryz.underlying9 h0;simp at e0
  obtain ⟨tb, e1⟩ := openIntC h1;obtain ⟨ca, cc, cl, e2, hc2, hl2, hm2, hb2⟩ := openIntsB h2;obtain ⟨sa, sc, sl, e3, hc3, hl3, hm3, hb3⟩ := openIntsB h3;obtain ⟨by_, e4⟩ := openIntC h4;obtain ⟨sh, e5⟩ := openIntC h5;subst e0 e1 e2 e3 e4 e5;have hmx : maxLen ≤ 9223372036854775807 := by unfold maxLen; omega
  refine ⟨⟨s, tb, ca, cc, cl, sa, sc, sl, by_, sh⟩, ⟨hc2, hc3, hl2, hl3, (show cc ≤ 9223372036854775807 by omega), (show sc ≤ 9223372036854775807 by omega)⟩, rfl, ?_⟩
  simp only [Rows.uptoBulk, List.map_cons, List.map_nil, Rows.uptoBulkAll];omega
theorem openCatB {base : Nat} {v : Value} (hv : Value.okWide Tryz.prog W .any base 25 v) (h : DataW.Trod enc Tryz.prog W 0 (fun _ => true) true 25 v d ps) : ∃ c : Cg, v = c.v ∧ c.ok W ∧ c.pl.length ≤ Rows.uptoBulk d ∧ ∀ p ∈ c.pl, p.cl.length + p.sl.length ≤ Rows.uptoBulk d := by
 obtain ⟨cs, rfl, hsz⟩ := okWide_struct Tryz.underlying25 hv;rw [cellsCg] at hsz;obtain ⟨fuel, hf⟩ := h;obtain ⟨l⟩ := cs
 match l, hsz, hf with
 | [c0, c1, c2, c3, c4], _, hf =>
  have hf' : DataW.trod enc Tryz.prog W 0 (fun _ => true) true fuel 25 [c0, c1, c2, c3, c4] = some (d, ps) := hf
  obtain ⟨xs, n, _, ed, _, hlen, hff⟩ := DataW.trod_struct Tryz.underlying25 hf'
  match xs, hlen with
  | [y0, y1, y2, y3, y4], _ =>
   have h0 := hff 0 _ rfl
   have h1 := hff 1 _ rfl
   have h2 := hff 2 _ rfl
   have h3 := hff 3 _ rfl
   have h4 := hff 4 _ rfl
   simp [cellsIn1, cellsSTa, cellsSPr] at h0 h1 h2 h3 h4
   obtain ⟨n0, e0⟩ := openIntC h0;obtain ⟨n1, e1⟩ := openIntC h1;obtain ⟨n2, e2⟩ := openIntC h2
   have hv3 : ∃ a len cap, c3 = .slice a len cap := by
    rcases Go.Deep.open_slice Tryz.underlying22 h3 with ⟨hcs, _⟩ | ⟨a, len, cap, _, _, _, _, hcs, _⟩
    ·exact ⟨none, 0, 0, by simpa using hcs⟩
    ·exact ⟨_, _, _, by simpa using hcs⟩
   have hv4 : ∃ a len cap, c4 = .slice a len cap := by
    rcases Go.Deep.open_slice Tryz.underlying23 h4 with ⟨hcs, _⟩ | ⟨a, len, cap, _, _, _, _, hcs, _⟩
    ·exact ⟨none, 0, 0, by simpa using hcs⟩
    ·exact ⟨_, _, _, by simpa using hcs⟩
   obtain ⟨ta, tn, tc, rfl⟩ := hv3;obtain ⟨pa, pn, pc, rfl⟩ := hv4
   obtain ⟨tl, rfl, ts, tok, tcl, tm, _⟩ := openEls TbE (W := W) (a := ta) (len := tn) (cap := tc) (d := y3.1) (ps := y3.2) Tryz.underlying22 cellsTa 40 bytesTa (fun y => y.ok W) (fun _ => True) (fun _ => 0) (fun fuel cs x hx hcs => by
    obtain ⟨y, h1, h2⟩ := openTbC hx hcs;exact ⟨y, h1, h2, fun _ => trivial, Nat.zero_le _⟩) ⟨_, h3⟩
   obtain ⟨pl, rfl, ps', pok, pcl, pm, _, _, psum, pcap⟩ := openEls PjE (W := W) (a := pa) (len := pn) (cap := pc) (d := y4.1) (ps := y4.2) Tryz.underlying23 cellsPr 88 bytesPr (fun y => y.ok W) (fun _ => True) (fun y => y.cl.length + y.sl.length) (fun fuel cs x hx hcs => by
    obtain ⟨y, h1, h2, h3⟩ := openPjB hx hcs;exact ⟨y, h1, h2, fun _ => trivial, h3⟩) ⟨_, h4⟩
   subst e0 e1 e2;have hmx : maxLen ≤ 9223372036854775807 := by unfold maxLen; omega
   have hd : Rows.uptoBulk y4.1 ≤ Rows.uptoBulk d := by
    have e := (Prod.mk.inj ed).1
    rw [e];simp only [Rows.uptoBulk, List.map_cons, List.map_nil, Rows.uptoBulkAll];omega
   refine ⟨⟨n0, n1, n2, ta, tc, tl, pa, pc, pl⟩, rfl, ⟨ts, tok, tcl, (show tc ≤ 9223372036854775807 by omega), ps', pok, pcl, (show pc ≤ 9223372036854775807 by omega)⟩, (show pl.length ≤ _ by omega), fun p hp => ?_⟩
   have h1 := le_sum_map (fun y : Pj => y.cl.length + y.sl.length) pl p hp
   omega
end
theorem cellsYI : Tryz.prog.cellsOf 3 = 1 := by kernel_rfl
section
variable {H : Type} {enc : TypeId × Value → H} {W : World} {a : Option Addr} {len cap : Nat} {d : DataW H} {ps : List MemPlace}
end
theorem cellsYU8 : Tryz.prog.cellsOf 57 = 1 := by kernel_rfl
theorem cellsYU4 : Tryz.prog.cellsOf 68 = 1 := by kernel_rfl
theorem cellsYId : Tryz.prog.cellsOf 70 = 2 := by kernel_rfl
theorem cellsYVr : Tryz.prog.cellsOf 80 = 4 := by kernel_rfl
theorem bytesYVr : Tryz.prog.bytesOf 80 = 48 := by kernel_rfl
section
variable {H : Type} {enc : TypeId × Value → H} {W : World} {a : Option Addr} {len cap : Nat} {d : DataW H} {ps : List MemPlace}
theorem openIdY {fuel : Nat} {c0 c1 : Value} {x : DataW H × List MemPlace} (h : DataW.trod enc Tryz.prog W 0 (fun _ => true) true fuel 70 [c0, c1] = some x) :
  ∃ e n : Int, c0 = .int .u64 e ∧ c1 = .int .u32 n ∧ (0 ≤ e ∧ e < 18446744073709551616) ∧ (0 ≤ n ∧ n < 4294967296) := by
 obtain ⟨xs, n, _, rfl, _, hlen, hf⟩ := DataW.trod_struct Tryz.underlying70 h
 match xs, hlen with
 | [y0, y1], _ =>
  have h0 := hf 0 _ rfl
  have h1 := hf 1 _ rfl
  simp [cellsYU8, cellsYU4] at h0 h1
  obtain ⟨k, e0, _, w0⟩ := DataW.trod_int Tryz.underlying57 h0;obtain ⟨m, e1, _, w1⟩ := DataW.trod_int Tryz.underlying68 h1;simp at e0 e1
  have b0 := bounds_u64 w0
  have b1 := bounds_u32 w1
  exact ⟨k, m, e0, e1, by omega, by omega⟩
theorem openVrY {fuel : Nat} {cs : List Value} {x : DataW H × List MemPlace} (h : DataW.trod enc Tryz.prog W 0 (fun _ => true) true fuel 80 cs = some x) (hcs : cs.length = 4) :
  ∃ y : Vr, Vr.lies W y ∧ cs = VrE.c y ∧ (Fit 80 x.1 → True) ∧ y.l.length ≤ Rows.uptoBulk x.1 := by
 obtain ⟨c0, c1, c2, c3, rfl⟩ : ∃ c0 c1 c2 c3, cs = [c0, c1, c2, c3] := by
  match cs, hcs with
  | [c0, c1, c2, c3], _ => exact ⟨c0, c1, c2, c3, rfl⟩
 obtain ⟨xs, n, _, rfl, _, hlen, hf⟩ := DataW.trod_struct Tryz.underlying80 h
 match xs, hlen with
 | [y0, y1, y2], _ =>
  have h0 := hf 0 _ rfl
  have h1 := hf 1 _ rfl
  have h2 := hf 2 _ rfl
  simp [cellsYId, cellsVs, cellsYU8] at h0 h1 h2
  obtain ⟨e, n, rfl, rfl, e0, n0⟩ := openIdY h0
  have hv : ∃ a len cap, c2 = .slice a len cap := by
   rcases Go.Deep.open_slice Tryz.underlying61 h1 with ⟨hcs, _⟩ | ⟨a, len, cap, _, _, _, _, hcs, _⟩
   ·exact ⟨none, 0, 0, by simpa using hcs⟩
   ·exact ⟨_, _, _, by simpa using hcs⟩
  obtain ⟨a, len, cap, rfl⟩ := hv;have ht : DataW.Trod enc Tryz.prog W 0 (fun _ => true) true 61 (.slice a len cap) y1.1 y1.2 := ⟨_, h1⟩
  obtain ⟨l, rfl, hs, _, hl, hm, hn, hfit, _, hb⟩ := openXv ht;obtain ⟨d, ed, _, wd⟩ := DataW.trod_int Tryz.underlying57 h2;simp at ed
  subst ed;refine ⟨⟨e, n, a, cap, l, d⟩, ⟨⟨seeV.1 hs, hl, hm, hn⟩, e0, n0⟩, rfl, fun _ => trivial, ?_⟩
  simp only [List.map_cons, List.map_nil, Rows.uptoBulk, Rows.uptoBulkAll];omega
theorem openVers (h : DataW.Trod enc Tryz.prog W 0 (fun _ => true) true 55 (.slice a len cap) d ps) :
  ∃ l : List Vr, len = l.length ∧ VrE.See W a l ∧ (∀ y ∈ l, Vr.lies W y) ∧ l.length ≤ cap ∧ cap ≤ maxLen ∧ (a = none → cap = 0) ∧ (Fit 55 d → cap * 48 ≤ 140737488351232 ∧ ∀ y ∈ l, True) ∧ (l.map fun y => y.l.length).sum ≤ Rows.uptoBulk d ∧ cap + 1 ≤ Rows.uptoBulk d :=
 openEls VrE Tryz.underlying55 cellsYVr 48 bytesYVr (fun y => Vr.lies W y) (fun _ => True) (fun y => y.l.length) (fun fuel cs x hx hcs => openVrY hx hcs) h
end
theorem cellsVll : Tryz.prog.cellsOf 55 = 1 := by kernel_rfl
theorem bytesVll : Tryz.prog.bytesOf 55 = 24 := by kernel_rfl
theorem openVlls {H : Type} {enc : TypeId × Value → H} {W : World} {a : Option Addr} {len cap : Nat} {d : DataW H} {ps : List MemPlace} (h : DataW.Trod enc Tryz.prog W 0 (fun _ => true) true 52 (.slice a len cap) d ps) :
  ∃ l : List Vl, len = l.length ∧ VlE.See W a l ∧ (∀ y ∈ l, y.lies W) ∧ l.length ≤ cap ∧ cap ≤ maxLen ∧ (a = none → cap = 0) ∧ (Fit 52 d → cap * 24 ≤ 140737488351232 ∧ ∀ y ∈ l, True) ∧ (l.map fun y => y.l.length).sum ≤ Rows.uptoBulk d ∧ cap + 1 ≤ Rows.uptoBulk d :=
 openEls VlE Tryz.underlying52 cellsVll 24 bytesVll (fun y => y.lies W) (fun _ => True) (fun y => y.l.length) (fun fuel cs x hx hcs => by
  obtain ⟨v, rfl⟩ : ∃ v, cs = [v] := by
   match cs, hcs with
   | [v], _ => exact ⟨v, rfl⟩
  have hv : ∃ a len cap, v = .slice a len cap := by
   rcases Go.Deep.open_slice Tryz.underlying55 hx with ⟨hcs, _⟩ | ⟨a, len, cap, _, _, _, _, hcs, _⟩
   ·exact ⟨none, 0, 0, by simpa using hcs⟩
   ·exact ⟨_, _, _, by simpa using hcs⟩
  obtain ⟨a, len, cap, rfl⟩ := hv;have ht : DataW.Trod enc Tryz.prog W 0 (fun _ => true) true 55 (.slice a len cap) x.1 x.2 := ⟨fuel, hx⟩
  obtain ⟨l, rfl, hs, hy, hl, hm, hn, _, _, hb⟩ := openVers ht;exact ⟨⟨a, cap, l⟩, ⟨hs, hy, hl, hm⟩, rfl, fun _ => trivial, by simp only; omega⟩) h
theorem cellsH3 : Tryz.prog.cellsOf 53 = 3 := by kernel_rfl
theorem okWide_arrH {P : Program} {w : World} {r : Reach} {base : Nat} {t : TypeId} {v : Value} {n : Nat} {e : TypeId} (ht : P.underlying t = some (.array n e)) (h : Value.okWide P w r base t v) : ∃ cs, v = .agg cs ∧ cs.size = P.cellsOf t := by
 simp only [Value.okWide, ht] at h;obtain ⟨cs, h1, h2, _⟩ := h;exact ⟨cs, h1, h2⟩
theorem openHow3 {H : Type} {enc : TypeId × Value → H} {W : World} {d : DataW H} {ps : List MemPlace} {base : Nat} {v : Value} (hv : Value.okWide Tryz.prog W .any base 53 v) (h : DataW.Trod enc Tryz.prog W 0 (fun _ => true) true 53 v d ps) : ∃ x y z : Int, v = .agg #[.int .i64 x, .int .i64 y, .int .i64 z] := by
 obtain ⟨cs, rfl, hsz⟩ := okWide_arrH Tryz.underlying53 hv;rw [cellsH3] at hsz;obtain ⟨fuel, hf⟩ := h;obtain ⟨l⟩ := cs
 match l, hsz, hf with
 | [c0, c1, c2], _, hf =>
  have hf' : DataW.trod enc Tryz.prog W 0 (fun _ => true) true fuel 53 [c0, c1, c2] = some (d, ps) := hf
  obtain ⟨xs, n, _, he, _, hlen, hff⟩ := DataW.trod_array Tryz.underlying53 hf'
  match xs, hlen with
  | [y0, y1, y2], _ =>
   have h0 := hff 0 (by omega)
   have h1 := hff 1 (by omega)
   have h2 := hff 2 (by omega)
   simp [cellsYI] at h0 h1 h2
   obtain ⟨x, e0, _, _⟩ := DataW.trod_int Tryz.underlying3 h0;obtain ⟨y, e1, _, _⟩ := DataW.trod_int Tryz.underlying3 h1;obtain ⟨z, e2, _, _⟩ := DataW.trod_int Tryz.underlying3 h2;simp at e0 e1 e2
   subst e0 e1 e2;exact ⟨x, y, z, rfl⟩
theorem planFullContract (H : Type) (enc : TypeId × Value → H) (W : World) (base : Nat) (args : Array Value) (ds gs : List (DataW H)) (before : List MemPlace)
  (hval : ∀ (j : Nat) t v, Tryz.f5.params[j]? = some t → args[j]? = some v → Value.okWide Tryz.prog W .any base t v)
  (hW : DataW.Whole enc Tryz.prog Tryz.f5.params.toList Rows.planFullSpec.vars false W args.toList ds gs before)
  (hsz : (DataW.weightsEach Tryz.prog (Tryz.f5.params.toList ++ (Rows.OpenSpec.upto Rows.planFullSpec).bare.plain.varTypes Tryz.prog) (ds ++ gs)).all (· ≤ reachBytes) = true)
  (hk : Rows.uptoSmall H (ds ++ gs) = true)
  (hL : laidMetH Tryz.prog Rows.planFullUptoRow.laid W) :
  Calls Tryz.prog 5 args W fun e W' => ∃ v, e = .returned v ∧ Rows.planFullSpec.post enc Tryz.prog Tryz.f5 false true false false W args v W' := by
 have hW' := hW
 obtain ⟨p, q, hA0, hV, rfl, hfz, hnd⟩ := hW;have hA : DataW.TrodAll enc Tryz.prog W 0 (fun _ => true) true Tryz.f5.params.toList args.toList ds p := hA0
 rw [Tryz.params5] at hA hval hsz;obtain ⟨v0, vs0, d0, ds0, p0, q0, hargs, rfl, rfl, h0, r0⟩ := trodAll_cons hA;obtain ⟨v1, vs1, d1, ds1, p1, q1, rfl, rfl, rfl, h1, r1⟩ := trodAll_cons r0;obtain ⟨v2, vs2, d2, ds2, p2, q2, rfl, rfl, rfl, h2, r2⟩ := trodAll_cons r1;obtain ⟨rfl, rfl, rfl⟩ := trodAll_nil r2;obtain rfl : args = #[v0, v1, v2] := by cases args; simp_all
 obtain ⟨rfl, rfl⟩ := trodVars_none hV;have k0 := h0
 have lt0 : ∀ x ∈ p0, x.block < W.heap.size := by obtain ⟨m, hm⟩ := k0; exact DataW.trod_lt m _ _ _ hm
 obtain ⟨c0, rfl, ok0, hpb0, hpp0⟩ := openCatB (hval 0 25 v0 rfl rfl) h0;obtain ⟨a1, len1, cap1, rfl⟩ := okWide_slice Tryz.underlying52 (hval 1 52 v1 rfl rfl);have k1 := h1
 have lt1 : ∀ x ∈ p1, x.block < W.heap.size := by obtain ⟨m, hm⟩ := k1; exact DataW.trod_lt m _ _ _ hm
 obtain ⟨l1, rfl, hs1, hok1, hl1, hm1, hn1, hfit1, hbk1, hcp1⟩ := openVlls h1;obtain ⟨hc1, hq1⟩ := hfit1 (List.all_eq_true.2 fun x hx => List.all_eq_true.1 hsz x (by simp [DataW.weightsEach]; first | exact .inl hx | exact .inr hx | exact .inr (.inl hx) | exact .inr (.inr hx) | exact hx))
 have k2 := h2
 have lt2 : ∀ x ∈ p2, x.block < W.heap.size := by obtain ⟨m, hm⟩ := k2; exact DataW.trod_lt m _ _ _ hm
 obtain ⟨x2, y2, z2, rfl⟩ := openHow3 (hval 2 53 v2 rfl rfl) h2;have hbk := of_decide_eq_true hk
 simp only [List.append_nil, Rows.uptoBulkAll] at hbk;clear hA0;refine (planFullWalk c0 a1 cap1 l1 x2 y2 z2 W (table hL) ok0 hs1 hok1 hl1 (by omega) (by have h := hbk1; unfold sumVl; omega)).mono fun e W' ⟨he, bel⟩ => ?_
 subst he;exact ⟨_, rfl, _, _, _, [], _, [], hW', trodAll_mk1 (shut_bool Tryz.underlying4 _), (trodAll_cons_mk (Below.trod Tryz.laidOut (by kernel_rfl) (of_decide_eq_true (by kernel_rfl)) k0 bel lt0) (trodAll_cons_mk (Below.trod Tryz.laidOut (by kernel_rfl) (of_decide_eq_true (by kernel_rfl)) k1 bel lt1) (trodAll_cons_mk (Below.trod Tryz.laidOut (by kernel_rfl) (of_decide_eq_true (by kernel_rfl)) k2 bel lt2) trodAll_mk0))), rfl, bel.frame _, fun h => by cases h⟩
theorem planFullLifted (os : Os) (started : os.Started) (H : Type) (enc : TypeId × Value → H) (F : Stop.Interp) :
  ReturnsInHanded {} Tryz.checked os 5 .any ((Rows.OpenSpec.upto Rows.planFullSpec).preRow enc Tryz.prog Tryz.f5 Rows.planFullUptoRow.domain false Rows.planFullUptoRow.laid) (((Rows.OpenSpec.upto Rows.planFullSpec).at F).post enc Tryz.prog Tryz.f5 false true false false) := by
 refine returnsInHanded_of_row (C := Tryz.checked) (s := Rows.OpenSpec.upto Rows.planFullSpec) Tryz.own started (by kernel_rfl) Tryz.func5
  (witness_row_at (enc := enc) (C := Tryz.checked) false ({ World.holding Tryz.prog os ⟨#[], #[], []⟩ with heap := (World.holding Tryz.prog os ⟨#[], #[], []⟩).heap.modify 0 fun
   | .cells _ t frozen => .cells tabCells t frozen
   | o => o }) #[.agg #[.int .i64 0, .int .i64 0, .int .i64 0, .slice none 0 0, .slice none 0 0], .slice none 0 0, .agg #[.int .i64 0, .int .i64 0, .int .i64 0]] rfl (by kernel_rfl) (by kernel_rfl) (by kernel_rfl)
   (OpenSpec.preRow_of_cond (x := ([.agg [.lit (.int .i64 0), .lit (.int .i64 0), .lit (.int .i64 0), .nil, .nil], .nil, .agg [.lit (.int .i64 0), .lit (.int .i64 0), .lit (.int .i64 0)]], [], [])) 8 (by kernel_rfl) (by kernel_rfl) (fun k hk => by cases hk; kernel_rfl) (by kernel_rfl) (laidMet_of_run' 8 (by kernel_rfl) (by kernel_rfl)))) ?_
 intro W base args ds gs before hval hW _ hcond hsz hL _ _
 exact planFullContract H enc W base args ds gs before hval hW hsz (hcond _ rfl) hL
theorem planFullSaid : Rows.PlanFullUptoSaid :=
 OpenClaim.holds_of_cond 5 Tryz.f5 rfl rfl rfl rfl rfl rfl rfl ⟨rfl, rfl, rfl, rfl, rfl⟩ rfl rfl rfl rfl rfl (by kernel_rfl) Tryz.func5 (by kernel_rfl)
  (of_decide_eq_true (by kernel_rfl)) (by unfold Func.isWrapper; first | (rw [if_pos (by decide +kernel)]; kernel_rfl) | (rw [if_neg (by decide +kernel)]; exact ⟨rfl, rfl⟩))
  (fun os started H enc _ F => by rw [OpenClaim.pre_eq_preRow]; exact planFullLifted os started H enc F)
theorem planFullPlain (f : FuncId) (fn : Func) (hf : Tryz.pinned.checked.prog.funcNamed "hayloft/hayloftlaw16.PlanFull" = some f) (hfn : Tryz.pinned.checked.prog.funcs[f]? = some fn) :
  false = Tryz.pinned.checked.prog.looks [] ∧ ∀ (j : Nat) t, fn.params[j]? = some t → Tryz.pinned.checked.prog.wantsStandIn t = false := by
 obtain rfl : f = 5 := Option.some.inj ((show Tryz.prog.funcNamed "hayloft/hayloftlaw16.PlanFull" = some 5 by kernel_rfl).symm.trans hf) |>.symm
 obtain rfl : fn = Tryz.f5 := (Option.some.inj (Tryz.func5.symm.trans hfn)).symm
 refine ⟨by kernel_rfl, fun j t ht => ?_⟩
 rw [Tryz.params5] at ht;have hm := Array.mem_of_getElem? ht
 have h2 : t = 25 ∨ t = 52 ∨ t = 53 := by first | (simpa using hm) | (rcases (show t = 25 ∨ t = 52 ∨ t = 53 from by simpa using hm) with h | h | h <;> simp [h])
 rcases h2 with rfl | rfl | rfl
 ·exact (show Tryz.prog.wantsStandIn 25 = false by kernel_rfl)
 ·exact (show Tryz.prog.wantsStandIn 52 = false by kernel_rfl)
 ·exact (show Tryz.prog.wantsStandIn 53 = false by kernel_rfl)
theorem PlanFull_holds : Rows.PlanFullUptoCardSaid :=
 Claim7.holds_tied_plain_at .later [] _ _ _ _ planFullSaid (fun _ h => by cases h) (by kernel_rfl) (fun _ h => by cases h) planFullUpto_row_tie rfl ⟨rfl, rfl⟩ (by kernel_rfl) rfl planFullPlain (by kernel_rfl)
#print axioms PlanFull_holds
end Go.Proofs.YtlgfekjoknbfdaaGreatDoor
end

/- What the proof stands on: contracts of functions that the statement calls, and plain lemmas. No statement of the seat is proved here. -/
import Derived.Test.YtcgkkofmnajedaaGreatDoorB13
import Derived.Test.YtcgkkofmnajedaaGreatDoorB14
import Derived.Deep.Cut
set_option maxHeartbeats 64000000
set_option maxRecDepth 100000
set_option linter.unusedVariables false
set_option linter.unusedSimpArgs false
section
namespace Go.Proofs.YtcgkkofmnajedaaGreatDoor
open Go.RowKit Go.Hay
attribute [local go_sem] Oper.semAt_some
theorem filt_eqP (ts : List Tm) (L : List Vs) : (L.filter fun x => allT ts x.l).map (·.l) = (L.map (·.l)).flatMap (filtF ts) := by
 induction L with
 | nil => rfl
 | cons x L ih =>
  rw [List.map_cons, List.flatMap_cons, ← ih];unfold filtF
  by_cases h : allT ts x.l
  ·simp [h]
  ·simp [h]
theorem proj_eqP (ps : List Int) (R : List (List Val)) : (R.map fun l => pickV l ps) = R.flatMap (projF ps) := by
 induction R with
 | nil => rfl
 | cons x R ih => rw [List.map_cons, List.flatMap_cons, ← ih]; rfl
structure RowsP (w : World) (a : Option Addr) (L : List Vs) (R : List (List Val)) : Prop where
 see : VsE.See w a L
 lies : ∀ x ∈ L, x.lies w
 eq : L.map (·.l) = R
theorem RowsP.kept {w w' : World} {a : Option Addr} {L : List Vs} {R : List (List Val)} (h : RowsP w a L R) (k : Kp [] w w') : RowsP w' a L R := ⟨ckSee (CK.ofKp k) h.see (by simp), fun x hx => (h.lies x hx).ck (CK.ofKp k) (by simp), h.eq⟩
def RanP (r : Option (List (List Val))) (w : World) (e : Ending) (w' : World) : Prop :=
 Kp [] w w' ∧ match r with
 | none => e = .returned (.tuple #[.slice none 0 0, .int .i64 150])
 | some N => ∃ ra rc L, e = .returned (.tuple #[.slice ra L.length rc, .int .i64 0]) ∧ RowsP w' ra L N
theorem rAnswer (q : Qy) (a : Option Addr) (ca0 : Nat) (L : List Vs) (b : Option Addr) (cb0 : Nat) (M : List Vs) (w : World) (hq : q.ok w) (hlm : -9223372036854775808 ≤ q.lim) (hs : VsE.See w a L) (hx : ∀ x ∈ L, x.lies w) (ht : VsE.See w b M) (hy : ∀ x ∈ M, x.lies w) (hl : L.length ≤ 1048576) (hm : M.length ≤ 1048576) (hr : ∀ x ∈ L, x.l.length ≤ 1048576) (hrm : ∀ x ∈ M, x.l.length ≤ 1048576) (hrj : ∀ x ∈ L, ∀ y ∈ M, x.l.length + y.l.length ≤ 1048576) :
  Calls Tryz.prog 24 #[.agg q.cs.toArray, .slice a L.length ca0, .slice b M.length cb0] w (RanP (ansV q (L.map (·.l)) (M.map (·.l))) w) := by
 obtain ⟨RL, hRL⟩ : ∃ R, Hid (L.map (·.l) = R) := ⟨_, hid rfl⟩
 obtain ⟨RR, hRR⟩ : ∃ R, Hid (M.map (·.l) = R) := ⟨_, hid rfl⟩
 obtain ⟨ANS, hANS⟩ : ∃ R, Hid (ansV q RL RR = R) := ⟨_, hid rfl⟩
 obtain ⟨BASE, hBASE⟩ : ∃ R, Hid (baseV q RL RR = R) := ⟨_, hid rfl⟩
 rw [hRL.out, hRR.out, hANS.out]
 have hBs : Hid (¬ (q.jn = true ∧ 65536 < BASE.length) → BASE.length ≤ 1048576) := hid fun h => by
  rw [← hBASE.out] at h ⊢;unfold baseV at h ⊢
  split
  ·rename_i hj
   rw [if_pos hj] at h;have : ¬ 65536 < (refJ RL RR q.lo q.ro).length := fun h' => h ⟨hj, h'⟩
   omega
  ·rw [← hRL.out, List.length_map]; exact hl
 have hBr : Hid (∀ l ∈ BASE, l.length ≤ 1048576) := hid fun l hl' => by
  rw [← hBASE.out] at hl';unfold baseV at hl'
  split at hl'
  ·rw [refJ_eq] at hl'
   obtain ⟨x, hx', hm'⟩ := List.mem_flatMap.1 hl';obtain ⟨r, hr', rfl⟩ := List.mem_map.1 hm';have hr2 := (List.mem_filter.1 hr').1
   rw [← hRL.out] at hx';rw [← hRR.out] at hr2;obtain ⟨x1, h1, rfl⟩ := List.mem_map.1 hx';obtain ⟨y1, h2, rfl⟩ := List.mem_map.1 hr2;rw [List.length_append];exact hrj x1 h1 y1 h2
  ·rw [← hRL.out] at hl'
   obtain ⟨x1, h1, rfl⟩ := List.mem_map.1 hl';exact hr x1 h1
 obtain ⟨w1, hw1, k1, b1⟩ : ∃ x, w.alloc (.cells q.cs.toArray 31) = x ∧ Kp [] w x ∧ Bn x w.heap.size q.cs := ⟨_, rfl, (Kp.refl _ _).alloc _, Bn.new w _ _⟩
 obtain ⟨q2, hq2⟩ : ∃ x, Hid (w.heap.size = x) := ⟨_, hid rfl⟩
 rw [hq2.out] at b1
 have HJ : Hid (∀ W, Kp [] w W → Calls Tryz.prog 61 #[.agg q.cs.toArray, .slice a L.length ca0, .slice b M.length cb0] W (JoiP (refJ RL RR q.lo q.ro) W)) := hid fun W k => by
  have h := rJoinedQ q a b ca0 cb0 L M W (ckSee (CK.ofKp k) hs (by simp)) (ckSee (CK.ofKp k) ht (by simp)) (fun x h => (hx x h).ck (CK.ofKp k) (by simp)) (fun x h => (hy x h).ck (CK.ofKp k) (by simp)) hl hm hr hrm
  rw [hRL.out, hRR.out] at h;exact h
 have HL : Hid (∀ W, Kp [] w W → RowsP W a L RL) := hid fun W k => ⟨ckSee (CK.ofKp k) hs (by simp), fun x h => (hx x h).ck (CK.ofKp k) (by simp), hRL.out⟩
 have HQ : Hid (∀ W, Kp [] w W → q.ok W) := hid fun W k => hq.kept k
 have hlim : q.lim ≤ 9223372036854775807 := hq.lim
 have K1 := hid k1
 have HB1 := hid b1
 have hq2' := hq2.out
 clear hq hs hx ht hy hr hrm hrj k1;obtain ⟨tb, jn, rt, lo, ro, ⟨xa, xc, xl⟩, ⟨ca, cc, cl⟩, gr, ⟨ya, yc, yl⟩, ⟨ga, gc, gl⟩, ⟨oa, oc, ol⟩, lim⟩ := q;simp only [Qy.cs, Sl.v] at hw1 HB1 b1 HJ ⊢;dsimp only at hlim hlm HJ hBs;have HB := hid (fun (W : World) (k : Kp [] w1 W) => HB1.out.kept k)
 have s0 := b1.get 0 _ rfl; have s1 := b1.get 1 _ rfl; have s2 := b1.get 2 _ rfl; have s3 := b1.get 3 _ rfl; have s4 := b1.get 4 _ rfl; have s5 := b1.get 5 _ rfl; have s6 := b1.get 6 _ rfl; have s7 := b1.get 7 _ rfl; have s8 := b1.get 8 _ rfl; have s9 := b1.get 9 _ rfl; have s10 := b1.get 10 _ rfl; have s11 := b1.get 11 _ rfl
 clear b1;go_enter Tryz.func24, Tryz.ntmps24
 go_upto_if 13 with fail
 go_cut [8] from 14 to 24 (fun v8 wx => ∃ ba bc B, v8 = .slice ba (B : List Vs).length bc ∧ Hid (RowsP wx ba B BASE) ∧ Hid (Kp [] w1 wx) ∧ Hid (¬ (jn = true ∧ 65536 < BASE.length)))
 case first =>
  cases jn with
  | false =>
   go_wp2_with fail;go_meet
   case rel =>
    refine ⟨a, ca0, L, rfl, ?_, hid (Kp.refl _ _), hid (fun h => by cases h.1)⟩
    have e := hBASE.out
    unfold baseV at e
    rw [if_neg (by simp)] at e
    rw [← e];exact hid (HL.out w1 K1.out)
  | true =>
   have hBJ : Hid (BASE = refJ RL RR lo ro) := hid (by rw [← hBASE.out]; unfold baseV; rw [if_pos rfl])
   have cJ := hid (HJ.out w1 K1.out)
   go_wp2_with fail;refine cJ.out.mono ?_;rintro e w2 ⟨k2, h2⟩;have K2 := hid k2
   clear k2 cJ
   rcases h2 with ⟨h2, rfl⟩ | ⟨h2, ra, rc, J, rfl, lo2, hJ⟩
   ·go_wp2_with fail
    go_returns;refine ⟨K1.out.trans K2.out (by simp), ?_⟩
    have : ANS = none := by
     rw [← hANS.out];unfold ansV
     rw [hBASE.out, hBJ.out, if_pos ⟨rfl, h2⟩]
    rw [this];exact rfl
   ·have hl2 := hid lo2
    have hJ' := hid hJ
    have h2' := hid h2
    clear lo2 hJ h2;go_wp2_with fail;go_meet
    case rel =>
     obtain ⟨_, _, e1, see1, _⟩ := hl2.out.row.see
     cases e1
     exact ⟨ra, rc, J, rfl, hid ⟨see1, hl2.out.lies, by rw [hJ'.out, hBJ.out]⟩, K2, hid (fun h => by have := h.2; rw [hBJ.out] at this; have := h2'.out; omega)⟩
 case rest =>
  obtain ⟨ba, bc, B, rfl, hB, KB, hno⟩ := hcut;obtain ⟨SH, hSH⟩ : ∃ S, Hid (shapeV ⟨tb, jn, rt, lo, ro, ⟨xa, xc, xl⟩, ⟨ca, cc, cl⟩, gr, ⟨ya, yc, yl⟩, ⟨ga, gc, gl⟩, ⟨oa, oc, ol⟩, lim⟩ (BASE.flatMap (filtF xl)) = S) := ⟨_, hid rfl⟩
  have hAN : Hid (ANS = if 4096 < SH.length then none else some (limV lim (srtO ol SH))) := hid (by
   rw [← hANS.out];unfold ansV ansS
   dsimp only;rw [hBASE.out, if_neg hno.out, hSH.out])
  have hbB : B.length ≤ 1048576 := by
   have h1 := congrArg List.length hB.out.eq
   rw [List.length_map] at h1;have := hBs.out hno.out
   omega
  have hbr : Hid (∀ x ∈ B, x.l.length ≤ 1048576) := hid fun x hx => hBr.out _ (by rw [← hB.out.eq]; exact List.mem_map_of_mem hx)
  have hq1 := HQ.out wc (K1.out.trans KB.out (by simp))
  have f1 := hq1.wh.few; have f2 := hq1.cl.few; have f3 := hq1.by_.few; have f4 := hq1.ag.few; have f5 := hq1.od.few
  dsimp only at f1 f2 f3 f4 f5;have cF := hid (rFilter ba bc B xa xc xl wc hB.out.see hB.out.lies hq1.wh.see (by omega) (by omega) (fun x hx => by have := hbr.out x hx; omega))
  have bb := HB.out wc KB.out
  clear s0 s1 s2 s3 s4 s5 s6 s7 s8 s9 s10 s11 hq1;have t5 := bb.get 5 _ rfl
  clear bb;go_wp2_with fail;refine cF.out.mono ?_;rintro e w3 ⟨fa, fc, rfl, hrow, k3, _⟩;have K3 := hid (KB.out.trans k3 (by simp))
  obtain ⟨F, hF⟩ : ∃ F, (B.filter fun x => allT xl x.l) = F := ⟨_, rfl⟩
  have hFin : ∀ x ∈ F, x ∈ B := fun x hx => by rw [← hF] at hx; exact (List.mem_filter.1 hx).1
  have hFl : F.length ≤ 1048576 := by have := List.length_filter_le (fun x : Vs => allT xl x.l) B; rw [hF] at this; omega
  have HF : Hid (RowsP w3 fa F (BASE.flatMap (filtF xl))) := hid (by
   obtain ⟨_, _, e1, see1, _⟩ := hrow.see
   cases e1
   exact ⟨by rw [← hF]; exact see1, fun x hx => (hB.out.lies x (hFin x hx)).ck (CK.ofKp k3) (by simp), by rw [← hF, filt_eqP, hB.out.eq]⟩)
  have hFr : Hid (∀ x ∈ F, x.l.length ≤ 1048576) := hid fun x hx => hbr.out x (hFin x hx)
  rw [hF];have bb := HB.out w3 K3.out
  have t7 := bb.get 7 _ rfl; have t6 := bb.get 6 _ rfl; have t8 := bb.get 8 _ rfl; have t9 := bb.get 9 _ rfl
  have hq3 := HQ.out w3 (K1.out.trans K3.out (by simp))
  have cG := hid (rGroup fa fc F ya yc yl ga gc gl w3 HF.out.see HF.out.lies hq3.by_.see hq3.ag.see hFl hFr.out f3 f4)
  have cP := hid (rProject fa fc F ca cc cl w3 HF.out.see HF.out.lies hq3.cl.see (by omega) (by omega) (fun x hx => by have := hFr.out x hx; omega))
  clear hF hFin hrow k3 cF t5 bb hq3;go_upto_if 29 with fail
  go_cut [8] from 30 to 40 (fun v8 wx => ∃ sa sc S, v8 = .slice sa (S : List Vs).length sc ∧ Hid (RowsP wx sa S SH) ∧ Hid (Kp [] w1 wx))
  case first =>
   cases gr with
   | true =>
    go_wp2_with fail;refine cG.out.mono ?_;rintro e w4 ⟨sa, sc, S, rfl, lo4, hS, k4⟩;have hSe : Hid (S.map (·.l) = SH) := hid (by rw [hS, HF.out.eq, ← hSH.out]; unfold shapeV; rw [if_pos rfl])
    have lo4' := hid lo4
    have K4 := hid (K3.out.trans k4 (by simp))
    clear lo4 hS k4 cG cP t6 t7 t8 t9;go_wp2_with fail;go_meet
    case rel =>
     obtain ⟨_, _, e1, see1, _⟩ := lo4'.out.row.see
     cases e1
     exact ⟨sa, sc, S, rfl, hid ⟨see1, lo4'.out.lies, hSe.out⟩, K4⟩
   | false =>
    go_wp2_with fail;refine cP.out.mono ?_;rintro e w4 ⟨sa, sc, S, rfl, lo4, hS, k4⟩;have hSe : Hid (S.map (·.l) = SH) := hid (by rw [hS, HF.out.eq, ← hSH.out, proj_eqP]; unfold shapeV; rw [if_neg (by simp)])
    have lo4' := hid lo4
    have K4 := hid (K3.out.trans k4 (by simp))
    clear lo4 hS k4 cG cP t6 t7 t8 t9;go_wp2_with fail;go_meet
    case rel =>
     obtain ⟨_, _, e1, see1, _⟩ := lo4'.out.row.see
     cases e1
     exact ⟨sa, sc, S, rfl, hid ⟨see1, lo4'.out.lies, hSe.out⟩, K4⟩
  case rest =>
   clear cG cP t6 t7 t8 t9 HF hFr hFl;obtain ⟨sa, sc, S, rfl, hSr, KS⟩ := hcut;have hSn : S.length = SH.length := by have := congrArg List.length hSr.out.eq; rw [List.length_map] at this; exact this
   have hSn' := hid hSn
   by_cases hbig : 4096 < S.length
   ·have d1 : decide ((S.length : Int) > 4096) = true := by simp; omega
    have hA0 : Hid (ANS = none) := hid (by rw [hAN.out, if_pos (by omega)])
    clear hSn;go_wp2_with fail;go_returns;refine ⟨K1.out.trans KS.out (by simp), ?_⟩
    rw [hA0.out];exact rfl
   ·have d1 : decide ((S.length : Int) > 4096) = false := by simp; omega
    have hA0 : Hid (ANS = some (limV lim (srtO ol SH))) := hid (by rw [hAN.out, if_neg (by omega)])
    have hqs := HQ.out wc (K1.out.trans KS.out (by simp))
    have cS := hid (rSortC sa sc S oa oc ol wc hSr.out.see hSr.out.lies hqs.od.see (by omega) f5)
    have bb := HB.out wc KS.out
    have t10 := bb.get 10 _ rfl
    clear hSn bb hqs;go_wp2_with fail;refine cS.out.mono ?_;rintro e w5 ⟨ra, rc, rfl, see5, k5, hcap⟩;have K5 := hid (KS.out.trans k5 (by simp))
    have HR : Hid (RowsP w5 ra (srtVs ol S) (srtO ol SH)) := hid ⟨see5, fun x hx => (hSr.out.lies x (srtVs_in ol S x hx)).ck (CK.ofKp k5) (by simp), by rw [srtVs_l, hSr.out.eq]⟩
    have hsl := hid (srtVs_len ol S)
    have bb := HB.out w5 K5.out
    have t11 := bb.get 11 _ rfl
    clear see5 k5 cS t10 bb
    by_cases hz : lim > 0
    ·have z1 : decide (lim > 0) = true := by simpa using hz
     by_cases hz2 : lim < (S.length : Int)
     ·have z2 : decide (lim < (S.length : Int)) = true := by simpa using hz2
      obtain ⟨k, hk⟩ : ∃ k : Nat, lim = (k : Int) := ⟨lim.toNat, by omega⟩
      subst hk;have hTk := sliceToVs ra S.length rc k w5 (by omega)
      have j1 : (0 : Int) ≤ (k : Int) := by omega
      have j2 : (k : Int) ≤ (rc : Int) := by omega
      have HR2 : Hid (RowsP w5 ra ((srtVs ol S).take k) ((srtO ol SH).take k) ∧ ((srtVs ol S).take k).length = k) := hid ⟨⟨seeTakeVs HR.out.see k, fun x hx => HR.out.lies x (List.mem_of_mem_take hx), by rw [List.map_take, HR.out.eq]⟩, by rw [List.length_take, hsl.out]; omega⟩
      have hL0 : Hid (limV (k : Int) (srtO ol SH) = (srtO ol SH).take k) := hid (by unfold limV; rw [if_pos (by omega), Int.toNat_natCast])
      go_wp2_with fail;go_returns;refine ⟨K1.out.trans K5.out (by simp), ?_⟩
      rw [hA0.out, hL0.out];exact ⟨ra, rc, (srtVs ol S).take k, by rw [HR2.out.2]; rfl, HR2.out.1⟩
     ·have z2 : decide (lim < (S.length : Int)) = false := by simpa using hz2
      have hL0 : Hid (limV lim (srtO ol SH) = srtO ol SH) := hid (by
       unfold limV
       rw [if_pos hz];refine List.take_of_length_le ?_;have h1 := congrArg List.length HR.out.eq
       rw [List.length_map, hsl.out] at h1;omega)
      go_wp2_with fail;go_returns;refine ⟨K1.out.trans K5.out (by simp), ?_⟩
      rw [hA0.out, hL0.out];exact ⟨ra, rc, srtVs ol S, by rw [hsl.out]; rfl, HR.out⟩
    ·have z1 : decide (lim > 0) = false := by simpa using hz
     have hL0 : Hid (limV lim (srtO ol SH) = srtO ol SH) := hid (by unfold limV; rw [if_neg hz])
     go_wp2_with fail;go_returns;refine ⟨K1.out.trans K5.out (by simp), ?_⟩
     rw [hA0.out, hL0.out];exact ⟨ra, rc, srtVs ol S, by rw [hsl.out]; rfl, HR.out⟩
end Go.Proofs.YtcgkkofmnajedaaGreatDoor
end

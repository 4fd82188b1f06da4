/- What the proof stands on: contracts of functions that the statement calls, and plain lemmas. No statement of the seat is proved here. -/
import Derived.Test.YtcgkkofmnajedaaGreatDoorB10
import Derived.Test.YtcgkkofmnajedaaGreatDoorB11
import Derived.Test.YtcgkkofmnajedaaGreatDoorB3
import Derived.Test.YtcgkkofmnajedaaGreatDoorB12
import Derived.Deep.Cut
import Derived.Test.YtcgkkofmnajedaaGreatDoorB4
import Derived.Test.YtcgkkofmnajedaaGreatDoorB1
import Derived.Test.YtcgkkofmnajedaaGreatDoorCards
import Derived.Test.YtcgkkofmnajedaaGreatDoorTie
import Derived.Test.YtcgkkofmnajedaaGreatDoorB7
import Derived.Laws.IdiomArrays
import Derived.Deep.DeepHandedRow
import Derived.Lib.LaidTab
import Derived.SizedLaws
import Derived.Test.YtcgkkofmnajedaaGreatDoorB6
import Derived.Test.YtcgkkofmnajedaaGreatDoorB8
set_option maxHeartbeats 64000000
set_option maxRecDepth 100000
set_option linter.unusedVariables false
set_option linter.unusedSimpArgs false
section
namespace Go.Proofs.YtcgkkofmnajedaaGreatDoor
open Go.RowKit Go.Hay
attribute [local go_sem] Oper.semAt_some
def baseV (q : Qy) (RL RR : List (List Val)) : List (List Val) := if q.jn then refJ RL RR q.lo q.ro else RL
def limV (lim : Int) (R : List (List Val)) : List (List Val) := if 0 < lim then R.take lim.toNat else R
def ansS (q : Qy) (sh : List (List Val)) : Option (List (List Val)) := if 4096 < sh.length then none else some (limV q.lim (srtO q.od.l sh))
def ansV (q : Qy) (RL RR : List (List Val)) : Option (List (List Val)) := if q.jn = true ∧ 65536 < (baseV q RL RR).length then none else ansS q (shapeV q ((baseV q RL RR).flatMap (filtF q.wh.l)))
def AnsP (r : Option (List (List Val))) (w : World) (e : Ending) (w' : World) : Prop :=
 match r with
 | none => e = .returned (.tuple #[.slice none 0 0, .int .i64 150]) ∧ Kp [] w w'
 | some N => ∃ ra rc L, e = .returned (.tuple #[.slice ra L.length rc, .int .i64 0]) ∧ Lot w.heap.size ra rc L w' ∧ L.map (·.l) = N ∧ Kp [] w w'
theorem keysV_lenP (bs : List Int) : ∀ R, (keysV bs R).length ≤ R.length := revInd (by simp [keysV]) fun R l ih => by
 rw [keysV_snoc, List.length_append];unfold insK
 split
 ·simp; omega
 ·rw [List.length_append, List.length_cons, List.length_take, List.length_drop]
  have := posK_le (pickV l bs) (keysV bs R)
  simp
  omega
theorem shape_len (q : Qy) (R : List (List Val)) : (shapeV q R).length ≤ R.length + 1 := by
 unfold shapeV
 split
 ·unfold refG
  rw [List.length_map];have := keysV_lenP q.by_.l R
  split <;> simp <;> omega
 ·rw [(projLen2 q.cl.l R).1]; omega
theorem shape_row (q : Qy) (R : List (List Val)) : ∀ l ∈ shapeV q R, l.length ≤ q.by_.l.length + q.ag.l.length + q.cl.l.length := fun l hl => by
 unfold shapeV at hl
 split at hl
 ·unfold refG at hl
  obtain ⟨k, hk, rfl⟩ := List.mem_map.1 hl;rw [List.length_append, List.length_map]
  have : k.length ≤ q.by_.l.length := by
   split at hk
   ·simp at hk; rw [hk]; simp
   ·obtain ⟨x, _, e⟩ := (keysV_ok q.by_.l R).first _ hk
    rw [← e];unfold pickV
    simp
  omega
 ·have := (projLen2 q.cl.l R).2 l hl
  omega
theorem orLt {w : World} {oa : Option Addr} {os : List (Int × Bool)} (ho : OrE.See w oa os) : os ≠ [] → ∀ k ∈ blk oa, k < w.heap.size := fun e k hk => by
 rcases ho with h | ⟨g, o, rfl, hc⟩
 ·exact absurd h e
 ·obtain ⟨x, os', rfl⟩ := List.exists_cons_of_ne_nil e
  have h0 := hc 0 (.int .i64 x.1) rfl
  simp [blk] at hk
  subst hk;exact World.block_lt_of_cell? _ _ h0
theorem Src.kp {m : Nat} {fr : Bool} {R : List (List Val)} {g : Nat} {lb : Array Value} {w w' : World} (h : Src m fr R g lb w) (k : Kp [] w w') : Src m fr R g lb w' := by
 obtain ⟨he, js, hj, hr⟩ := h;exact ⟨he, js, fun j h => Nat.lt_of_lt_of_le (hj j h) k.size, fun n hn => (hr n hn).move (KeepB.ofKp k (by simp))⟩
theorem Src.filtW {m : Nat} {fr : Bool} {R : List (List Val)} {g : Nat} {lb : Array Value} {w w' : World} {e : Ending} {ts : List Tm} (h : Src m fr R g lb w) (hm : 1 ≤ m) (hs : SmP R) (hA : Asks w) (ht : ts.length ≤ 1048576) (hF : FiltP g lb ts w e w') : ∃ lb', e = .returned (.func (.func 103) #[] lb') ∧ Src (m + 1) true (R.flatMap (filtF ts)) 103 lb' w' ∧ Kp [] w w' := by
 obtain ⟨he, js, hj, hr⟩ := h;obtain ⟨lb', e1, js', hj', hr', k⟩ := filtSrc hF (m + 1) (by omega) fr R js he (fun n hn => hr (n - 1) (by omega)) hj hA (fun l h => by have := hs.2 l h; omega) (by omega)
 exact ⟨lb', e1, ⟨heFilt, js', hj', hr'⟩, k⟩
theorem SmP.flt {R : List (List Val)} (h : SmP R) (ts : List Tm) : SmP (R.flatMap (filtF ts)) := by
 constructor
 ·refine Nat.le_trans ?_ h.1
  clear h
  induction R with
  | nil => simp
  | cons x R ih =>
   rw [List.flatMap_cons, List.length_append, List.length_cons];have hh : (filtF ts x).length ≤ 1 := by { unfold filtF; split <;> simp }
   omega
 ·intro l hl
  obtain ⟨x, hx, hm⟩ := List.mem_flatMap.1 hl;unfold filtF at hm
  split at hm
  ·simp at hm; rw [hm]; exact h.2 x hx
  ·simp at hm
theorem cAnswer (q : Qy) (a : Option Addr) (ca0 : Nat) (L : List Vs) (b : Option Addr) (cb0 : Nat) (M : List Vs) (w : World) (hq : q.ok w) (hA : Asks w) (hs : VsE.See w a L) (hx : ∀ x ∈ L, x.lies w) (ht : VsE.See w b M) (hy : ∀ x ∈ M, x.lies w) (hl : L.length ≤ 1048576) (hm : M.length ≤ 1048576) (hr : ∀ x ∈ L, x.l.length ≤ 1048576) (hrm : ∀ x ∈ M, x.l.length ≤ 1048576) (hB : q.jn = true → L.length * M.length ≤ 1048576) :
  Calls Tryz.prog 23 #[.agg q.cs.toArray, .slice a L.length ca0, .slice b M.length cb0] w (AnsP (ansV q (L.map (·.l)) (M.map (·.l))) w) := by
 obtain ⟨RL, hRL⟩ : ∃ R, Hid (L.map (·.l) = R) := ⟨_, hid rfl⟩
 obtain ⟨RR, hRR⟩ : ∃ R, Hid (M.map (·.l) = R) := ⟨_, hid rfl⟩
 obtain ⟨ANS, hANS⟩ : ∃ R, Hid (ansV q RL RR = R) := ⟨_, hid rfl⟩
 obtain ⟨BASE, hBASE⟩ : ∃ R, Hid (baseV q RL RR = R) := ⟨_, hid rfl⟩
 have hRLb : Hid (RL.length = L.length ∧ ∀ l ∈ RL, l.length ≤ 1048576) := hid ⟨by rw [← hRL.out]; simp, fun l hm' => by rw [← hRL.out] at hm'; obtain ⟨x, hx', rfl⟩ := List.mem_map.1 hm'; exact hr x hx'⟩
 have hRRb : Hid (RR.length = M.length ∧ ∀ l ∈ RR, l.length ≤ 1048576) := hid ⟨by rw [← hRR.out]; simp, fun l hm' => by rw [← hRR.out] at hm'; obtain ⟨x, hx', rfl⟩ := List.mem_map.1 hm'; exact hrm x hx'⟩
 have hBs : Hid (SmP BASE) := hid (by
  rw [← hBASE.out];unfold baseV
  split
  ·rename_i hj
   have h1 := refJ_len RL RR q.lo q.ro
   have h2 := hB hj
   rw [hRLb.out.1, hRRb.out.1] at h1;refine ⟨by omega, fun l hl' => ?_⟩
   have := refJ_row (A := 1048576) (B := 1048576) (lo := q.lo) (ro := q.ro) hRLb.out.2 hRRb.out.2 l hl'
   omega
  ·exact ⟨by have := hRLb.out.1; omega, fun l hl' => by have := hRLb.out.2 l hl'; omega⟩)
 rw [hRL.out, hRR.out, hANS.out];obtain ⟨w1, hw1, k1, b1⟩ : ∃ x, w.alloc (.cells q.cs.toArray 31) = x ∧ Kp [] w x ∧ Bn x w.heap.size q.cs := ⟨_, rfl, (Kp.refl _ _).alloc _, Bn.new w _ _⟩
 obtain ⟨q3, hq3⟩ : ∃ x, w.heap.size = x := ⟨_, rfl⟩
 rw [hq3] at b1;have HQ := hid (hq.kept k1)
 have HAs := hid (fun W (k : Kp [] w W) => hA.kept k (by simp))
 have HS : Hid (∀ W, Kp [] w W → VsE.See W a L ∧ (∀ x ∈ L, x.lies W) ∧ VsE.See W b M ∧ (∀ x ∈ M, x.lies W)) := hid fun W k => ⟨hs.keptNew k, fun x h => (hx x h).ck (CK.ofKp k) (by simp), ht.keptNew k, fun x h => (hy x h).ck (CK.ofKp k) (by simp)⟩
 have K1 := hid k1
 obtain ⟨qc, hqc⟩ : ∃ x : Qy, Hid (q = x) := ⟨q, hid rfl⟩
 rw [hqc.out] at hANS hBASE HQ b1 hw1 ⊢;clear hs hx ht hy hq hA hr hrm hB hqc;obtain ⟨tb, jn, rt, lo, ro, ⟨xa, xc, xl⟩, ⟨ca, cc, cl⟩, gr, ⟨ya, yc, yl⟩, ⟨ga, gc, gl⟩, ⟨oa, oc, ol⟩, lim⟩ := qc;simp only [Qy.cs, Sl.v] at hw1 b1 ⊢;have HBS : Hid (∀ W', Kp [] w1 W' → W'.cell? ⟨q3, 0, none⟩ = some (.int .i64 tb) ∧ W'.cell? ⟨q3, 1, none⟩ = some (.bool jn) ∧ W'.cell? ⟨q3, 2, none⟩ = some (.int .i64 rt) ∧ W'.cell? ⟨q3, 3, none⟩ = some (.int .i64 lo) ∧ W'.cell? ⟨q3, 4, none⟩ = some (.int .i64 ro) ∧ W'.cell? ⟨q3, 5, none⟩ = some (.slice xa xl.length xc) ∧ W'.cell? ⟨q3, 6, none⟩ = some (.slice ca cl.length cc) ∧ W'.cell? ⟨q3, 7, none⟩ = some (.bool gr) ∧ W'.cell? ⟨q3, 8, none⟩ = some (.slice ya yl.length yc) ∧ W'.cell? ⟨q3, 9, none⟩ = some (.slice ga gl.length gc) ∧ W'.cell? ⟨q3, 10, none⟩ = some (.slice oa ol.length oc) ∧ W'.cell? ⟨q3, 11, none⟩ = some (.int .i64 lim)) := hid fun W' k => ⟨(b1.kept k).get 0 _ rfl, (b1.kept k).get 1 _ rfl, (b1.kept k).get 2 _ rfl, (b1.kept k).get 3 _ rfl, (b1.kept k).get 4 _ rfl, (b1.kept k).get 5 _ rfl, (b1.kept k).get 6 _ rfl, (b1.kept k).get 7 _ rfl, (b1.kept k).get 8 _ rfl, (b1.kept k).get 9 _ rfl, (b1.kept k).get 10 _ rfl, (b1.kept k).get 11 _ rfl⟩
 have cV := hid (cValuesE a L.length ca0 w1)
 have src := hid (valSrcW (rc := ca0) (HS.out w1 k1).1 (HS.out w1 k1).2.1 (by omega) 60)
 rw [hRL.out] at src;clear b1 k1;go_enter Tryz.func23, Tryz.ntmps23
 go_wp2_with fail;refine cV.out.mono ?_;rintro e w2 ⟨rfl, hw2⟩;have k2 : Kp [] w1 w2 := by rw [hw2]; exact (Kp.refl _ _).alloc _
 rw [← hw2] at src;obtain ⟨qa, hqa⟩ : ∃ q, Hid (w1.heap.size = q) := ⟨_, hid rfl⟩
 rw [hqa.out] at src ⊢;have HSrc : Hid (Src 1 false RL 94 #[.pointer (some ⟨qa, 0, none⟩)] w2) := hid ⟨heVal, _, src.out.2, src.out.1⟩
 have K2 := hid k2
 have sb := (HBS.out w2 k2).2.1; have s3 := (HBS.out w2 k2).2.2.2.1; have s4 := (HBS.out w2 k2).2.2.2.2.1
 clear cV hw2 k2 src;go_upto_if 16 with fail
 go_cut [8] from 13 (fun v8 wx => ∃ gb lbb, v8 = .func (.func gb) #[] lbb ∧ Hid (Src 1 false BASE gb lbb wx) ∧ Hid (Kp [] w1 wx) ∧ Hid (¬ (jn = true ∧ 65536 < BASE.length)))
 case first =>
  cases jn with
  | false =>
   go_wp2_with fail;go_meet
   case rel =>
    refine ⟨_, _, rfl, ?_, K2, hid (fun h => by cases h.1)⟩
    have e := hBASE.out
    unfold baseV at e
    rw [if_neg (by simp)] at e
    rw [← e];exact HSrc
  | true =>
   have hBJ : Hid (BASE = refJ RL RR lo ro) := hid (by rw [← hBASE.out]; unfold baseV; rw [if_pos rfl])
   have hms := HS.out w2 (K1.out.trans K2.out (by simp))
   have hmb := hRRb.out
   have hba := hRLb.out
   clear sb s3 s4;go_wp2_with fail;refine wp_noPanicY ?_;refine wp_region_held_drew (S := fun W' => W'.cell? ⟨q3, 0, none⟩ = some (.int .i64 tb) ∧ W'.cell? ⟨q3, 1, none⟩ = some (.bool true) ∧ W'.cell? ⟨q3, 2, none⟩ = some (.int .i64 rt) ∧ W'.cell? ⟨q3, 3, none⟩ = some (.int .i64 lo) ∧ W'.cell? ⟨q3, 4, none⟩ = some (.int .i64 ro) ∧ W'.cell? ⟨q3, 5, none⟩ = some (.slice xa xl.length xc) ∧ W'.cell? ⟨q3, 6, none⟩ = some (.slice ca cl.length cc) ∧ W'.cell? ⟨q3, 7, none⟩ = some (.bool gr) ∧ W'.cell? ⟨q3, 8, none⟩ = some (.slice ya yl.length yc) ∧ W'.cell? ⟨q3, 9, none⟩ = some (.slice ga gl.length gc) ∧ W'.cell? ⟨q3, 10, none⟩ = some (.slice oa ol.length oc) ∧ W'.cell? ⟨q3, 11, none⟩ = some (.int .i64 lim)) (by kernel_rfl) (HBS.out _ (K2.out.trans (Kp.refl [] _).drew (by simp))) (fun hHeld => ?_)
   have KD : Hid (Kp [] w1 w2.drew) := hid (K2.out.trans (Kp.refl [] _).drew (by simp))
   have HSd : Hid (Src 1 false RL 94 #[.pointer (some ⟨qa, 0, none⟩)] w2.drew) := hid (HSrc.out.kp (Kp.refl [] _).drew)
   clear HSrc hms;generalize w2.drew = wd at *
   refine tkH ?_ 0 rfl (by kernel_rfl) (fun _ _ _ h => by cases h.1) (by rfl) ?_ ‹_› ?_;rotate_left
   ·intro w h; (try dsimp only at h); go_simp <;> with_reducible rfl
   (try simp only [Act.put, lz]);refine tkH ?_ 1 rfl (by kernel_rfl) (fun _ _ _ h => by cases h.1) (by rfl) ?_ ‹_› ?_;rotate_left
   ·intro w h; (try dsimp only at h); go_simp <;> with_reducible rfl
   (try simp only [Act.put, lz]);refine tkH ?_ 3 rfl (by kernel_rfl) (fun _ _ _ h => by cases h.1) (by rfl) ?_ ‹_› ?_;rotate_left
   ·intro w h; (try dsimp only at h); go_simp <;> with_reducible rfl
   (try simp only [Act.put, lz]);refine tkH ?_ 4 rfl (by kernel_rfl) (fun _ _ _ h => by cases h.1) (by rfl) ?_ ‹_› ?_;rotate_left
   ·intro w h; (try dsimp only at h); go_simp <;> with_reducible rfl
   (try simp only [Act.put, lz]);refine tkH ?_ 5 rfl (by kernel_rfl) (fun _ _ _ h => by cases h.1) (by rfl) ?_ ‹_› ?_;rotate_left
   ·intro w h; (try dsimp only at h); go_simp <;> with_reducible rfl
   (try simp only [Act.put, lz]);refine tkH ?_ 6 rfl (by kernel_rfl) (fun _ _ _ h => by cases h.1) (by rfl) ?_ ‹_› ?_;rotate_left
   ·intro w h; (try dsimp only at h); go_simp <;> with_reducible rfl
   (try simp only [Act.put, lz]);refine rdH 2 (by kernel_rfl) rfl fun K hK => ?_
   go_simp;have cX := hid (cValuesE b M.length cb0 wd)
   have hsr := hid (HS.out wd (K1.out.trans KD.out (by simp)))
   refine cX.out.mono ?_;rintro e w3 ⟨rfl, hw3⟩;have k3 : Kp [] wd w3 := by rw [hw3]; exact (Kp.refl _ _).alloc _
   have src2 := hid (valSrcW (rc := cb0) hsr.out.2.2.1 hsr.out.2.2.2 (by omega) 60)
   rw [hRR.out, ← hw3] at src2;obtain ⟨qb, hqb⟩ : ∃ q, Hid (wd.heap.size = q) := ⟨_, hid rfl⟩
   rw [hqb.out] at src2 ⊢;have HSb2 : Hid (Src 1 false RR 94 #[.pointer (some ⟨qb, 0, none⟩)] w3) := hid ⟨heVal, _, src2.out.2, src2.out.1⟩
   have HSa2 := hid (HSd.out.kp k3)
   have K3 := hid (KD.out.trans k3 (by simp))
   clear cX hw3 k3 hsr src2 HSd;(try go_wp2_with fail);refine hK.out _ _ (HBS.out w3 K3.out) (fun hHeld => ?_)
   clear hK K;(try simp only [Act.put, lz]);refine rdH 7 (by kernel_rfl) rfl fun K hK => ?_
   go_simp;have cX := hid (cJoinE 94 94 #[.pointer (some ⟨qa, 0, none⟩)] #[.pointer (some ⟨qb, 0, none⟩)] lo ro w3)
   refine cX.out.mono ?_;rintro e w4 ⟨rfl, hw4⟩;obtain ⟨heA, jsA, hjA, hrA⟩ := HSa2.out;obtain ⟨heB, jsB, hjB, hrB⟩ := HSb2.out;obtain ⟨k4, js4, hj4, hr4⟩ := joinAll 5 (by omega) 94 94 _ _ false false RL RR jsA jsB lo ro w3 heA heB hrA hrB hjA hjB (by omega) (fun l h => by have := hmb.2 l h; omega) (fun l h => by have := hba.2 l h; omega) w4 hw4
   rw [joinR_ref] at hr4;obtain ⟨lbj, hlbj⟩ : ∃ x, Hid (#[Value.pointer (some ⟨w3.heap.size + 1, 0, none⟩), .pointer (some ⟨w3.heap.size + 3, 0, none⟩), .pointer (some ⟨w3.heap.size, 0, none⟩), .pointer (some ⟨w3.heap.size + 2, 0, none⟩)] = x) := ⟨_, hid rfl⟩
   rw [hlbj.out] at hr4 ⊢;have HJ := hid (And.intro hj4 hr4)
   have K4 := hid (K3.out.trans k4 (by simp))
   clear cX hw4 heA hjA hrA heB hjB hrB HSa2 HSb2 k4 hj4 hr4 hlbj;(try go_wp2_with fail);refine hK.out _ _ (HBS.out w4 K4.out) (fun hHeld => ?_)
   clear hK K;(try simp only [Act.put, lz]);refine rdH 8 (by kernel_rfl) rfl fun K hK => ?_
   go_simp;have cC := hid (callsIn_wide.1 (cCollectG 5 (by omega) true 96 lbj (refJ RL RR lo ro) js4 65536 w4 (by omega) heJoin (HJ.out.2 4 (by omega)) HJ.out.1 (by have := hBs.out.1; rw [hBJ.out] at this; omega) (fun l hl => by have := hBs.out.2 l (by rw [hBJ.out]; exact hl); omega)))
   refine cC.out.mono ?_;intro e w5 hP
   clear cC HJ
   obtain ⟨vr, ve, he5, hCo, k5⟩ : ∃ vr ve, e = .returned (.tuple #[vr, ve]) ∧ ((65536 < BASE.length ∧ vr = .slice none 0 0 ∧ ve = .int .i64 150) ∨ (BASE.length ≤ 65536 ∧ ve = .int .i64 0 ∧ ∃ ra rc N, vr = .slice ra N.length rc ∧ Lot w4.heap.size ra rc N w5 ∧ N.map (·.l) = BASE)) ∧ Kp [] w4 w5 := by
    rw [hBJ.out]
    rcases hP with ⟨h1, h2, h3⟩ | ⟨h1, ra, rc, N, h2, h3, h4, h5⟩
    ·exact ⟨_, _, h2, Or.inl ⟨by simpa using h1, rfl, rfl⟩, h3⟩
    ·exact ⟨_, _, h2, Or.inr ⟨by simpa using h1, rfl, ra, rc, N, rfl, h3, h4⟩, h5⟩
   subst he5;have HCo := hid hCo
   have K5 := hid (K4.out.trans k5 (by simp))
   clear hCo hP k5;(try go_wp2_with fail);refine hK.out _ _ (HBS.out w5 K5.out) (fun hHeld => ?_)
   clear hK K;(try simp only [Act.put, lz]);refine tkH ?_ 9 rfl (by kernel_rfl) (fun _ _ _ h => by cases h.1) (by rfl) ?_ ‹_› ?_;rotate_left
   ·intro w h; (try dsimp only at h); go_simp <;> with_reducible rfl
   (try simp only [Act.put, lz]);refine tkH ?_ 10 rfl (by kernel_rfl) (fun _ _ _ h => by cases h.1) (by rfl) ?_ ‹_› ?_;rotate_left
   ·intro w h; (try dsimp only at h); go_simp <;> with_reducible rfl
   (try simp only [Act.put, lz]);refine tkH ?_ 11 rfl (by kernel_rfl) (fun _ _ _ h => by cases h.1) (by rfl) ?_ ‹_› ?_;rotate_left
   ·intro w h; (try dsimp only at h); go_simp <;> with_reducible rfl
   (try simp only [Act.put, lz]);refine tkH ?_ 12 rfl (by kernel_rfl) (fun _ _ _ h => by cases h.1) (by rfl) ?_ ‹_› ?_;rotate_left
   ·intro w h; (try dsimp only at h); go_simp <;> with_reducible rfl
   (try simp only [Act.put, lz]);refine tkH ?_ 13 rfl (by kernel_rfl) (fun _ _ _ h => by cases h.1) (by rfl) ?_ ‹_› ?_;rotate_left
   ·intro w h; (try dsimp only at h); go_simp <;> with_reducible rfl
   (try simp only [Act.put, lz]);refine wpAnyH_done (by kernel_rfl) ⟨rfl, ?_⟩ _
   have KW := hid (K1.out.trans K5.out (by simp))
   rcases HCo.out with ⟨h1, rfl, rfl⟩ | ⟨h1, rfl, ra, rc, N, rfl, hlot, hN⟩
   ·have hn : Hid (ANS = none) := hid (by rw [← hANS.out]; unfold ansV; rw [hBASE.out, if_pos ⟨rfl, h1⟩])
    rw [hn.out];clear h1 HCo;go_wp2_with fail;go_returns;rw [hn.out];exact ⟨rfl, KW.out⟩
   ·have hNl : N.length ≤ 4000000000000 := by have := congrArg List.length hN; rw [List.length_map] at this; omega
    obtain ⟨sr1, sr2⟩ := hlot.src hNl 60;rw [hN] at sr1;have cX := hid (cValuesE ra N.length rc w5)
    have H1 := hid h1
    have SR := hid (And.intro sr1 sr2)
    clear HCo hlot hN h1 sr1 sr2 hNl;go_wp2_with fail;refine cX.out.mono ?_;rintro e w6 ⟨rfl, hw6⟩;have k6 : Kp [] w5 w6 := by rw [hw6]; exact (Kp.refl _ _).alloc _
    have SR2 := SR.out
    rw [← hw6] at SR2;obtain ⟨qc, hqc⟩ : ∃ q, Hid (w5.heap.size = q) := ⟨_, hid rfl⟩
    rw [hqc.out] at SR2 ⊢;have HSF : Hid (Src 1 false BASE 94 #[.pointer (some ⟨qc, 0, none⟩)] w6) := hid ⟨heVal, _, SR2.2, SR2.1⟩
    have K6 := hid (K5.out.trans k6 (by simp))
    clear cX hw6 SR SR2 k6;go_wp2_with fail;go_meet
    case rel => exact ⟨_, _, rfl, HSF, K6, hid (fun h => by have := H1.out; omega)⟩
 case rest =>
  obtain ⟨gb, lbb, rfl, HSb, KW0, hfew⟩ := hcut;go_upto_region 7 with fail
  refine wp_noPanicY ?_;refine wp_region_held_drew (S := fun W' => W'.cell? ⟨q3, 0, none⟩ = some (.int .i64 tb) ∧ W'.cell? ⟨q3, 1, none⟩ = some (.bool jn) ∧ W'.cell? ⟨q3, 2, none⟩ = some (.int .i64 rt) ∧ W'.cell? ⟨q3, 3, none⟩ = some (.int .i64 lo) ∧ W'.cell? ⟨q3, 4, none⟩ = some (.int .i64 ro) ∧ W'.cell? ⟨q3, 5, none⟩ = some (.slice xa xl.length xc) ∧ W'.cell? ⟨q3, 6, none⟩ = some (.slice ca cl.length cc) ∧ W'.cell? ⟨q3, 7, none⟩ = some (.bool gr) ∧ W'.cell? ⟨q3, 8, none⟩ = some (.slice ya yl.length yc) ∧ W'.cell? ⟨q3, 9, none⟩ = some (.slice ga gl.length gc) ∧ W'.cell? ⟨q3, 10, none⟩ = some (.slice oa ol.length oc) ∧ W'.cell? ⟨q3, 11, none⟩ = some (.int .i64 lim)) (by kernel_rfl) (HBS.out _ (KW0.out.trans (Kp.refl [] _).drew (by simp))) (fun hHeld => ?_)
  have KD : Hid (Kp [] w1 wc.drew) := hid (KW0.out.trans (Kp.refl [] _).drew (by simp))
  have HSd : Hid (Src 1 false BASE gb lbb wc.drew) := hid (HSb.out.kp (Kp.refl [] _).drew)
  obtain ⟨SH, hSH⟩ : ∃ R, Hid (shapeV (⟨tb, jn, rt, lo, ro, ⟨xa, xc, xl⟩, ⟨ca, cc, cl⟩, gr, ⟨ya, yc, yl⟩, ⟨ga, gc, gl⟩, ⟨oa, oc, ol⟩, lim⟩ : Qy) (BASE.flatMap (filtF xl)) = R) := ⟨_, hid rfl⟩
  have hSHb : Hid (SH.length ≤ 4000001 ∧ ∀ l ∈ SH, l.length ≤ 4000000) := hid (by
   rw [← hSH.out];refine ⟨Nat.le_trans (shape_len _ _) (by have := (hBs.out.flt xl).1; omega), fun l hl => Nat.le_trans (shape_row _ _ l hl) ?_⟩
   have h1 := HQ.out.by_.few; have h2 := HQ.out.ag.few; have h3 := HQ.out.cl.few
   dsimp only at h1 h2 h3 ⊢;omega)
  clear HSb KW0;generalize wc.drew = wd at *
  refine tkH ?_ 0 rfl (by kernel_rfl) (fun _ _ _ h => by cases h.1) (by rfl) ?_ ‹_› ?_;rotate_left
  ·intro w h; (try dsimp only at h); go_simp <;> with_reducible rfl
  (try simp only [Act.put, lz]);refine tkH ?_ 1 rfl (by kernel_rfl) (fun _ _ _ h => by cases h.1) (by rfl) ?_ ‹_› ?_;rotate_left
  ·intro w h; (try dsimp only at h); go_simp <;> with_reducible rfl
  (try simp only [Act.put, lz]);refine tkH ?_ 2 rfl (by kernel_rfl) (fun _ _ _ h => by cases h.1) (by rfl) ?_ ‹_› ?_;rotate_left
  ·intro w h; (try dsimp only at h); go_simp <;> with_reducible rfl
  (try simp only [Act.put, lz]);refine tkH ?_ 3 rfl (by kernel_rfl) (fun _ _ _ h => by cases h.1) (by rfl) ?_ ‹_› ?_;rotate_left
  ·intro w h; (try dsimp only at h); go_simp <;> with_reducible rfl
  (try simp only [Act.put, lz]);refine rdH 4 (by kernel_rfl) rfl fun K hK => ?_
  go_simp;have hq1 := HQ.out.kept KD.out
  have hx1 := hq1.wh.few
  have cF := hid (cFiltE gb lbb xa xc xl wd hq1.wh.see hq1.wh.nil (by dsimp only at hx1; omega))
  clear hq1;refine cF.out.mono ?_;intro e w3 hP
  obtain ⟨lb3, rfl, hs3, k3⟩ := HSd.out.filtW (by omega) hBs.out (HAs.out wd (K1.out.trans KD.out (by simp))) (by dsimp only at hx1; omega) hP
  have HS3 := hid hs3
  have K3 := hid (KD.out.trans k3 (by simp))
  clear hP hs3 k3 cF hx1 HSd;(try go_wp2_with fail);refine hK.out _ _ (HBS.out w3 K3.out) (fun hHeld => ?_)
  clear hK K;(try simp only [Act.put, lz]);refine rdH 5 (by kernel_rfl) rfl fun K hK => ?_
  go_simp;have hq1 := HQ.out.kept K3.out
  have cS := hid (cShaped ⟨tb, jn, rt, lo, ro, ⟨xa, xc, xl⟩, ⟨ca, cc, cl⟩, gr, ⟨ya, yc, yl⟩, ⟨ga, gc, gl⟩, ⟨oa, oc, ol⟩, lim⟩ 2 true _ _ lb3 w3 hq1 HS3.out (by omega) (hBs.out.flt xl))
  simp only [Qy.cs, Sl.v] at cS;clear hq1;refine cS.out.mono ?_;rintro e w4 ⟨g4, lb4, rfl, hs4, k4⟩;have hs4 : Src 4 true SH g4 lb4 w4 := by rw [← hSH.out]; exact hs4
  have HS4 := hid hs4
  have K4 := hid (K3.out.trans k4 (by simp))
  clear hs4 k4 cS HS3;(try go_wp2_with fail);refine hK.out _ _ (HBS.out w4 K4.out) (fun hHeld => ?_)
  clear hK K;(try simp only [Act.put, lz]);refine rdH 6 (by kernel_rfl) rfl fun K hK => ?_
  go_simp;obtain ⟨he4, js4, hj4, hr4⟩ := HS4.out;have cC := hid (callsIn_wide.1 (cCollectG 5 (by omega) true g4 lb4 SH js4 4096 w4 (by omega) he4 (hr4 4 (by omega)) hj4 (by have := hSHb.out.1; omega) (fun l hl => by have := hSHb.out.2 l hl; omega)))
  clear he4 hj4 hr4 HS4;refine cC.out.mono ?_;intro e w5 hP
  clear cC
  obtain ⟨vr, ve, he5, hCo, k5⟩ : ∃ vr ve, e = .returned (.tuple #[vr, ve]) ∧ ((4096 < SH.length ∧ vr = .slice none 0 0 ∧ ve = .int .i64 150) ∨ (SH.length ≤ 4096 ∧ ve = .int .i64 0 ∧ ∃ ra rc N, vr = .slice ra N.length rc ∧ Lot w4.heap.size ra rc N w5 ∧ N.map (·.l) = SH)) ∧ Kp [] w4 w5 := by
   rcases hP with ⟨h1, h2, h3⟩ | ⟨h1, ra, rc, N, h2, h3, h4, h5⟩
   ·exact ⟨_, _, h2, Or.inl ⟨by simpa using h1, rfl, rfl⟩, h3⟩
   ·exact ⟨_, _, h2, Or.inr ⟨by simpa using h1, rfl, ra, rc, N, rfl, h3, h4⟩, h5⟩
  subst he5;have HCo := hid hCo
  have K5 := hid (K4.out.trans k5 (by simp))
  have hz4 : Hid (w.heap.size ≤ w4.heap.size) := hid (K1.out.trans K4.out (by simp)).size
  clear hCo hP k5;(try go_wp2_with fail);refine hK.out _ _ (HBS.out w5 K5.out) (fun hHeld => ?_)
  clear hK K;(try simp only [Act.put, lz]);refine tkH ?_ 7 rfl (by kernel_rfl) (fun _ _ _ h => by cases h.1) (by rfl) ?_ ‹_› ?_;rotate_left
  ·intro w h; (try dsimp only at h); go_simp <;> with_reducible rfl
  (try simp only [Act.put, lz]);refine tkH ?_ 8 rfl (by kernel_rfl) (fun _ _ _ h => by cases h.1) (by rfl) ?_ ‹_› ?_;rotate_left
  ·intro w h; (try dsimp only at h); go_simp <;> with_reducible rfl
  (try simp only [Act.put, lz]);refine tkH ?_ 9 rfl (by kernel_rfl) (fun _ _ _ h => by cases h.1) (by rfl) ?_ ‹_› ?_;rotate_left
  ·intro w h; (try dsimp only at h); go_simp <;> with_reducible rfl
  (try simp only [Act.put, lz]);refine tkH ?_ 10 rfl (by kernel_rfl) (fun _ _ _ h => by cases h.1) (by rfl) ?_ ‹_› ?_;rotate_left
  ·intro w h; (try dsimp only at h); go_simp <;> with_reducible rfl
  (try simp only [Act.put, lz]);refine tkH ?_ 11 rfl (by kernel_rfl) (fun _ _ _ h => by cases h.1) (by rfl) ?_ ‹_› ?_;rotate_left
  ·intro w h; (try dsimp only at h); go_simp <;> with_reducible rfl
  (try simp only [Act.put, lz]);refine wpAnyH_done (by kernel_rfl) ⟨rfl, ?_⟩ _
  have hAN : Hid (ansS (⟨tb, jn, rt, lo, ro, ⟨xa, xc, xl⟩, ⟨ca, cc, cl⟩, gr, ⟨ya, yc, yl⟩, ⟨ga, gc, gl⟩, ⟨oa, oc, ol⟩, lim⟩ : Qy) SH = ANS) := hid (by
   rw [← hANS.out, ← hSH.out];unfold ansV
   rw [hBASE.out, if_neg hfew.out])
  have KW := hid (K1.out.trans K5.out (by simp))
  rcases HCo.out with ⟨h1, rfl, rfl⟩ | ⟨h1, rfl, ra, rc, N, rfl, hlot, hN⟩
  ·have hn : Hid (ANS = none) := hid (by rw [← hAN.out]; unfold ansS; rw [if_pos h1])
   rw [hn.out];clear h1 HCo;go_wp2_with fail;go_returns;rw [hn.out];exact ⟨rfl, KW.out⟩
  ·have hNl : N.length = SH.length := by rw [← hN]; simp
   obtain ⟨a', c', e', hsee, _⟩ := hlot.row.see
   cases e'
   have hqo := (HQ.out.kept K5.out).od
   have hof := hqo.few
   dsimp only at hof;have s10 := (HBS.out w5 K5.out).2.2.2.2.2.2.2.2.2.2.1
   have s11 := (HBS.out w5 K5.out).2.2.2.2.2.2.2.2.2.2.2
   have hShl := hSHb.out.2
   have cO := hid (cSortX ra rc N oa oc ol w5 hsee hlot.lies hqo.see (orLt hqo.see) (by omega) hof (fun x hx => by have := hShl x.l (by rw [← hN]; exact List.mem_map.2 ⟨x, hx, rfl⟩); omega))
   rw [hN] at cO;have CO := hid cO
   have HN := hid hN
   have HNl := hid hNl
   have HOF := hid hof
   have H1 := hid h1
   clear hqo hShl hsee hlot HCo cO hN hNl hof h1;go_wp2_with fail;refine CO.out.mono ?_;rintro e w6 ⟨rb, rcb, N2, rfl, hlot2, hN2, k6⟩;have K6 := hid (K5.out.trans k6 (by simp))
   have KW6 := hid (K1.out.trans K6.out (by simp))
   have HL2 := hid hlot2
   have HN2 := hid hN2
   have hz5 : Hid (w.heap.size ≤ w5.heap.size) := hid KW.out.size
   clear CO hlot2 hN2 k6 s10 s11;have s11 := (HBS.out w6 K6.out).2.2.2.2.2.2.2.2.2.2.2
   have hNN : Hid (ANS = some (limV lim (srtO ol SH))) := hid (by
    rw [← hAN.out];unfold ansS
    rw [if_neg (by have := H1.out; omega)])
   by_cases hlim : 0 < lim
   ·have ht : decide (lim > 0) = true := decide_eq_true hlim
    have ht2 : decide (0 < lim) = true := decide_eq_true hlim
    have hSl : Hid (N2.length ≤ 4000000000000 ∧ ∀ l ∈ srtO ol SH, l.length ≤ 1800000000000) := hid (by
     have h1 := congrArg List.length HN2.out
     rw [List.length_map] at h1;have h2 := hSHb.out
     refine ⟨?_, fun l hl => ?_⟩
     ·rw [h1]
      unfold srtO
      rw [List.length_map, (srtI_perm _ _).length_eq, List.length_range];omega
     ·unfold srtO at hl
      obtain ⟨i, _, rfl⟩ := List.mem_map.1 hl;rw [List.getD_eq_getElem?_getD]
      cases hi : SH[i]? with
      | none => simp
      | some z => have := h2.2 z (List.mem_of_getElem? hi); simp only [Option.getD_some]; omega)
    have HLM := hid hlim
    have hlm : Hid (lim ≤ 9223372036854775807) := hid (HQ.out.lim)
    clear hlim;go_wp2_with fail;refine wp_noPanicY ?_;refine wp_region_held_drew (S := fun W' => W'.cell? ⟨q3, 0, none⟩ = some (.int .i64 tb) ∧ W'.cell? ⟨q3, 1, none⟩ = some (.bool jn) ∧ W'.cell? ⟨q3, 2, none⟩ = some (.int .i64 rt) ∧ W'.cell? ⟨q3, 3, none⟩ = some (.int .i64 lo) ∧ W'.cell? ⟨q3, 4, none⟩ = some (.int .i64 ro) ∧ W'.cell? ⟨q3, 5, none⟩ = some (.slice xa xl.length xc) ∧ W'.cell? ⟨q3, 6, none⟩ = some (.slice ca cl.length cc) ∧ W'.cell? ⟨q3, 7, none⟩ = some (.bool gr) ∧ W'.cell? ⟨q3, 8, none⟩ = some (.slice ya yl.length yc) ∧ W'.cell? ⟨q3, 9, none⟩ = some (.slice ga gl.length gc) ∧ W'.cell? ⟨q3, 10, none⟩ = some (.slice oa ol.length oc) ∧ W'.cell? ⟨q3, 11, none⟩ = some (.int .i64 lim)) (by kernel_rfl) (HBS.out _ (K6.out.trans (Kp.refl [] _).drew (by simp))) (fun hHeld => ?_)
    have KD6 : Hid (Kp [] w1 w6.drew) := hid (K6.out.trans (Kp.refl [] _).drew (by simp))
    have HL3 : Hid (Lot w5.heap.size rb rcb N2 w6.drew) := hid (HL2.out.kp (Kp.refl [] _).drew)
    clear HL2 s11;generalize w6.drew = wf at *
    refine tkH ?_ 0 rfl (by kernel_rfl) (fun _ _ _ h => by cases h.1) (by rfl) ?_ ‹_› ?_;rotate_left
    ·intro w h; (try dsimp only at h); go_simp <;> with_reducible rfl
    (try simp only [Act.put, lz]);refine tkH ?_ 2 rfl (by kernel_rfl) (fun _ _ _ h => by cases h.1) (by rfl) ?_ ‹_› ?_;rotate_left
    ·intro w h; (try dsimp only at h); go_simp <;> with_reducible rfl
    (try simp only [Act.put, lz]);refine tkH ?_ 3 rfl (by kernel_rfl) (fun _ _ _ h => by cases h.1) (by rfl) ?_ ‹_› ?_;rotate_left
    ·intro w h; (try dsimp only at h); go_simp <;> with_reducible rfl
    (try simp only [Act.put, lz]);refine rdH 1 (by kernel_rfl) rfl fun K hK => ?_
    go_simp;have cX := hid (cValuesE rb N2.length rcb wf)
    refine cX.out.mono ?_;rintro e w7 ⟨rfl, hw7⟩;have k7 : Kp [] wf w7 := by rw [hw7]; exact (Kp.refl _ _).alloc _
    have src7 := HL3.out.src hSl.out.1 60
    rw [HN2.out, ← hw7] at src7;obtain ⟨qd, hqd⟩ : ∃ q, Hid (wf.heap.size = q) := ⟨_, hid rfl⟩
    rw [hqd.out] at src7 ⊢;have SR7 := hid src7
    have K7 := hid (KD6.out.trans k7 (by simp))
    clear cX hw7 k7 src7;(try go_wp2_with fail);refine hK.out _ _ (HBS.out w7 K7.out) (fun hHeld => ?_)
    clear hK K;(try simp only [Act.put, lz]);refine rdH 4 (by kernel_rfl) rfl fun K hK => ?_
    go_simp;have cX := hid (cLimitE 94 #[.pointer (some ⟨qd, 0, none⟩)] lim w7)
    refine cX.out.mono ?_;rintro e w8 ⟨rfl, hw8⟩;obtain ⟨js8, hj8, hr8, k8⟩ := limSrc hw8 2 (by omega) false (srtO ol SH) _ heVal (fun n hn => SR7.out.1 (n - 1) (by omega)) SR7.out.2 hSl.out.2 (by have := hSl.out.1; have h1 := congrArg List.length HN2.out; rw [List.length_map] at h1; omega) hlm.out
    obtain ⟨lbm, hlbm⟩ : ∃ x, Hid (#[Value.pointer (some ⟨w7.heap.size + 1, 0, none⟩), .pointer (some ⟨w7.heap.size, 0, none⟩)] = x) := ⟨_, hid rfl⟩
    rw [hlbm.out] at hr8 ⊢;have SR8 := hid (And.intro hj8 hr8)
    have K8 := hid (K7.out.trans k8 (by simp))
    clear cX hw8 hj8 hr8 k8 hlbm SR7;(try go_wp2_with fail);refine hK.out _ _ (HBS.out w8 K8.out) (fun hHeld => ?_)
    clear hK K;(try simp only [Act.put, lz]);refine rdH 5 (by kernel_rfl) rfl fun K hK => ?_
    go_simp;have cX := hid (cCollectS 4 (by omega) 109 lbm _ js8 w8 heLim (SR8.out.2 2 (by omega)) SR8.out.1 (by rw [List.length_take]; have := hSl.out.1; have h1 := congrArg List.length HN2.out; rw [List.length_map] at h1; omega))
    refine cX.out.mono ?_;rintro e w9 ⟨rz, rcz, LZ, rfl, hlz, hLZ, k9⟩;have K9 := hid (K8.out.trans k9 (by simp))
    have HLZ := hid (And.intro hlz hLZ)
    have hz8 : Hid (w.heap.size ≤ w8.heap.size) := hid (K1.out.trans K8.out (by simp)).size
    clear cX hlz hLZ k9 SR8;(try go_wp2_with fail);refine hK.out _ _ (HBS.out w9 K9.out) (fun hHeld => ?_)
    clear hK K;(try simp only [Act.put, lz]);refine tkH ?_ 6 rfl (by kernel_rfl) (fun _ _ _ h => by cases h.1) (by rfl) ?_ ‹_› ?_;rotate_left
    ·intro w h; (try dsimp only at h); go_simp <;> with_reducible rfl
    (try simp only [Act.put, lz]);refine wpAnyH_done (by kernel_rfl) ⟨rfl, ?_⟩ _
    have KW9 := hid (K1.out.trans K9.out (by simp))
    clear hHeld;go_wp2_with fail;go_returns;rw [hNN.out];refine ⟨rz, rcz, LZ, rfl, ?_, ?_, KW9.out⟩
    ·have hl := HLZ.out.1
     exact ⟨hl.row, hl.lies, fun k hk => Nat.le_trans hz8.out (hl.own k hk), fun x hx k hk => ⟨Nat.le_trans hz8.out (hl.rows x hx k hk).1, (hl.rows x hx k hk).2⟩⟩
    ·rw [HLZ.out.2]
     unfold limV
     rw [if_pos HLM.out]
   ·have ht : decide (lim > 0) = false := decide_eq_false hlim
    have ht2 : decide (0 < lim) = false := decide_eq_false hlim
    have HL := hid hlim
    clear hlim;go_wp2_with fail;go_returns;rw [hNN.out];refine ⟨rb, rcb, N2, rfl, ?_, ?_, KW6.out⟩
    ·exact ⟨HL2.out.row, HL2.out.lies, fun k hk => Nat.le_trans hz5.out (HL2.out.own k hk), fun x hx k hk => ⟨Nat.le_trans hz5.out (HL2.out.rows x hx k hk).1, (HL2.out.rows x hx k hk).2⟩⟩
    ·rw [HN2.out]
     unfold limV
     rw [if_neg (by have := HL.out; omega)]
def vFourP : Val := ⟨2, false, 4, ⟨#[]⟩⟩
def qA (q : Nat) : Qy := ⟨0, false, 0, 0, 0, ⟨none, 0, []⟩, ⟨some ⟨q, 0, none⟩, 1, [0]⟩, false, ⟨none, 0, []⟩, ⟨none, 0, []⟩, ⟨none, 0, []⟩, 0⟩
theorem qA_ok {W : World} {q : Nat} (b : Bn W q [.int .i64 0]) : (qA q).ok W :=
 ⟨⟨.inl rfl, fun _ => rfl, by simp [qA]⟩, ⟨.inr ⟨q, 0, rfl, fun j u hu => by rw [Nat.zero_add]; exact b.get j u (by simpa [qA, El.cs, IntE] using hu)⟩, fun h => (by cases h), by simp [qA]⟩, ⟨.inl rfl, fun _ => rfl, by simp [qA]⟩, ⟨.inl rfl, fun _ => rfl, by simp [qA]⟩, ⟨.inl rfl, fun _ => rfl, by simp [qA]⟩, by simp [qA]⟩
theorem qA_ans (q : Nat) : ansV (qA q) [[vFourP]] [] = some [[vFourP]] := by kernel_rfl
theorem cAlive16 (w : World) (hA : Asks w) : Calls Tryz.prog 8 #[] w fun e w' => e = .returned (.bool true) ∧ Kp [] w w' := by
 have cS := hid (cSmall w)
 have HA := hid hA
 clear hA;go_enter Tryz.func8, Tryz.ntmps8
 go_wp2_with fail;refine cS.out.mono ?_;rintro e w1 ⟨qa, qb, qc, qd, qe, qf, rfl, hok, k1⟩;have hwy := cgS_ways qa qb qc qd qe qf
 have hpk := cgS_pick qa qb qc qd qe qf
 have hT8 : ∀ x ∈ (cgS qa qb qc qd qe qf).tl, x.l.length ≤ 9223372036854775806 := fun x hx => by simp [cgS] at hx; subst hx; simp
 have htl : (cgS qa qb qc qd qe qf).tl.length ≤ 9223372036854775807 := by simp [cgS]
 have hpl : (cgS qa qb qc qd qe qf).pl.length ≤ 4000000000000 := by simp [cgS]
 generalize cgS qa qb qc qd qe qf = c at *
 have hR8 : (waysV c 0).length ≤ 4000000000000 := by rw [hwy]; simp
 obtain ⟨v0, hv0, k0, b0⟩ : ∃ x, w1.alloc (.cells #[.int .i64 0, .int .i64 0, .int .i64 0, .slice none 0 0, .slice none 0 0] 25) = x ∧ Kp [] w1 x ∧ Bn x w1.heap.size [.int .i64 0, .int .i64 0, .int .i64 0, .slice none 0 0, .slice none 0 0] := ⟨_, rfl, (Kp.refl _ _).alloc _, Bn.new w1 _ _⟩
 obtain ⟨q1, hq1⟩ : ∃ q, Hid (w1.heap.size = q) := ⟨_, hid rfl⟩
 rw [hq1.out] at b0;obtain ⟨v1, hv1⟩ : ∃ x, ((((v0.setCell ⟨q1, 0, none⟩ (.int .i64 c.n)).setCell ⟨q1, 1, none⟩ (.int .i64 c.s)).setCell ⟨q1, 2, none⟩ (.int .i64 c.k)).setCell ⟨q1, 3, none⟩ (.slice c.ta c.tl.length c.tc)).setCell ⟨q1, 4, none⟩ (.slice c.pa c.pl.length c.pc) = x := ⟨_, rfl⟩
 have kS : Kp [q1] v0 v1 := by rw [← hv1]; exact ((((((Kp.refl _ _).setCell (by simp) _).setCell (by simp) _).setCell (by simp) _).setCell (by simp) _).setCell (by simp) _)
 have b1 : Bn v1 q1 [.int .i64 c.n, .int .i64 c.s, .int .i64 c.k, .slice c.ta c.tl.length c.tc, .slice c.pa c.pl.length c.pc] := by rw [← hv1]; exact (((((b0.set 0 (by simp) (.int .i64 c.n)).set 1 (by simp) (.int .i64 c.s)).set 2 (by simp) (.int .i64 c.k)).set 3 (by simp) (.slice c.ta c.tl.length c.tc)).set 4 (by simp) (.slice c.pa c.pl.length c.pc))
 have kk : Kp [] w1 v1 := k0.trans kS (fun x hx => .inr (by have := hq1.out; simp at hx; omega))
 have hok1 := hok.kept kk
 have cC := hid (callsIn_wide.1 (cChoose c 0 (-1) v1 hok1 hT8 htl hpl hR8))
 rw [hpk] at cC
 have HM : Hid (∀ W, Kp [] v1 W → Calls Tryz.prog 14 #[c.v, .int .i64 0] W fun e w' => e = .returned (.int .i64 2) ∧ Kp [] W w') := hid fun W k => by
  have h := callsIn_wide.1 (cMany c 0 W (hok1.kept k) hT8 htl hpl hR8)
  rw [hwy] at h;exact h
 have a0 := b0.get 0 _ rfl; have a1 := b0.get 1 _ rfl; have a2 := b0.get 2 _ rfl; have a3 := b0.get 3 _ rfl; have a4 := b0.get 4 _ rfl
 have f0 := b0.free 0; have f1 := b0.free 1; have f2 := b0.free 2; have f3 := b0.free 3; have f4 := b0.free 4
 have g0 := b1.get 0 _ rfl; have g1 := b1.get 1 _ rfl; have g2 := b1.get 2 _ rfl; have g3 := b1.get 3 _ rfl; have g4 := b1.get 4 _ rfl
 have HB1 := hid b1
 have HK1 := hid (k1.trans kk (by simp))
 have hq1' := hq1.out
 simp only [Cg.v, plV] at cC HM ⊢;clear cS k1 hok hok1 hwy hpk hT8 htl hpl hR8 k0 b0 kS b1 kk;go_wp2_with fail;refine cC.out.mono ?_;rintro e w2 ⟨rfl, k2⟩;obtain ⟨u0, hu0, j0, d0⟩ : ∃ x, w2.alloc (.cells #[.int .i64 0, .int .i64 0] 38) = x ∧ Kp [] w2 x ∧ Bn x w2.heap.size [.int .i64 0, .int .i64 0] := ⟨_, rfl, (Kp.refl _ _).alloc _, Bn.new w2 _ _⟩
 obtain ⟨q2, hq2⟩ : ∃ q, Hid (w2.heap.size = q) := ⟨_, hid rfl⟩
 rw [hq2.out] at d0;obtain ⟨u1, hu1⟩ : ∃ x, (u0.setCell ⟨q2, 0, none⟩ (.int .i64 1)).setCell ⟨q2, 1, none⟩ (.int .i64 2) = x := ⟨_, rfl⟩
 have jS : Kp [q2] u0 u1 := by rw [← hu1]; exact (((Kp.refl _ _).setCell (by simp) _).setCell (by simp) _)
 have d1 : Bn u1 q2 [.int .i64 1, .int .i64 2] := by rw [← hu1]; exact ((d0.set 0 (by simp) (.int .i64 1)).set 1 (by simp) (.int .i64 2))
 have j1 : Kp [] w2 u1 := j0.trans jS (fun x hx => .inr (by have := hq2.out; simp at hx; omega))
 obtain ⟨u2, hu2, j2, d2⟩ : ∃ x, u1.alloc (.cells #[.int .i64 0] 3) = x ∧ Kp [] u1 x ∧ Bn x u1.heap.size [.int .i64 0] := ⟨_, rfl, (Kp.refl _ _).alloc _, Bn.new u1 _ _⟩
 obtain ⟨u3, hu3, j3, d3⟩ : ∃ x, u2.alloc (.cells #[.int .i64 2, .bool false, .int .i64 4, .string ⟨#[]⟩] 88) = x ∧ Kp [] u2 x ∧ Bn x u2.heap.size [.int .i64 2, .bool false, .int .i64 4, .string ⟨#[]⟩] := ⟨_, rfl, (Kp.refl _ _).alloc _, Bn.new u2 _ _⟩
 obtain ⟨u4, hu4, j4, d4⟩ : ∃ x, u3.alloc (.cells #[.slice (some ⟨u2.heap.size, 0, none⟩) 1 1] 61) = x ∧ Kp [] u3 x ∧ Bn x u3.heap.size [.slice (some ⟨u2.heap.size, 0, none⟩) 1 1] := ⟨_, rfl, (Kp.refl _ _).alloc _, Bn.new u3 _ _⟩
 have j14 := (j2.trans j3 (by simp)).trans j4 (by simp)
 have kv4 : Kp [] v1 u4 := (k2.trans j1 (by simp)).trans j14 (by simp)
 have kw4 : Kp [] w u4 := HK1.out.trans kv4 (by simp)
 have s0 : VE.See u4 (some ⟨u2.heap.size, 0, none⟩) [vFourP] := .inr ⟨u2.heap.size, 0, rfl, fun j u hu => by rw [Nat.zero_add]; exact (d3.kept j4).get j u (by simpa [El.cs, VE, vFourP] using hu)⟩
 have x0 : (⟨some ⟨u2.heap.size, 0, none⟩, 1, [vFourP]⟩ : Vs).lies u4 := ⟨seeV.1 s0, by simp, by show (1 : Nat) ≤ maxLen; unfold maxLen; omega, fun h => (by cases h)⟩
 have s1 : VsE.See u4 (some ⟨u3.heap.size, 0, none⟩) [⟨some ⟨u2.heap.size, 0, none⟩, 1, [vFourP]⟩] := .inr ⟨u3.heap.size, 0, rfl, fun j u hu => by rw [Nat.zero_add]; exact d4.get j u (by simpa [El.cs, VsE] using hu)⟩
 have cAn := cAnswer (qA u1.heap.size) (some ⟨u3.heap.size, 0, none⟩) 1 [⟨some ⟨u2.heap.size, 0, none⟩, 1, [vFourP]⟩] none 0 [] u4 (qA_ok ((d2.kept j3).kept j4)) (HA.out.kept kw4 (by simp)) s1 (fun x hx => by rw [List.mem_singleton.1 hx]; exact x0) (.inl rfl) (by simp) (by simp) (by simp) (fun x hx => by rw [List.mem_singleton.1 hx]; simp) (by simp) (by intro h; simp [qA] at h)
 have eA := qA_ans u1.heap.size
 simp only [List.map_cons, List.map_nil] at cAn;rw [eA] at cAn;simp only [qA, Qy.cs, Sl.v, List.length_cons, List.length_nil, Nat.zero_add] at cAn;have cAn' := hid cAn
 have HV4 := hid (And.intro kv4 kw4)
 have HD := hid (d1.kept j14)
 have z0 := d0.get 0 _ rfl; have z1 := d0.get 1 _ rfl
 have y0 := d0.free 0; have y1 := d0.free 1
 have hq2' := hq2.out
 clear cC k2 j0 d0 jS d1 j1 j2 d2 j3 d3 j4 d4 j14 kv4 kw4 s0 x0 s1 cAn eA;go_wp2_with fail;refine cAn'.out.mono ?_;rintro e w5 ⟨ra, rc, L, rfl, hlot, hL, k5⟩
 obtain ⟨x, rfl, hxl⟩ : ∃ x, L = [x] ∧ x.l = [vFourP] := by
  cases L with
  | nil => simp at hL
  | cons x l =>
   simp at hL
   obtain ⟨h1, h2⟩ := hL;subst h2;exact ⟨x, rfl, h1⟩
 obtain ⟨a', c', e', hsee, _, _, _, _⟩ := hlot.row.see
 cases e'
 obtain ⟨ga, oa, ea, r0⟩ := vsAt hsee (k := 0) (x := x) rfl;have hxs := (hlot.lies x (by simp)).see
 obtain ⟨xa, xc, xl⟩ := x;dsimp only at hxl;subst hxl;dsimp only at hxs r0;have hxs2 := seeV.2 hxs
 obtain ⟨gb, ob, eb, hc⟩ := hxs2.at (j := 0) (x := vFourP) rfl;have r2 := hc 2 _ rfl
 subst eb;have hb5 := HB1.out.kept (HV4.out.1.trans k5 (by simp))
 have g0 := hb5.get 0 _ rfl; have g1 := hb5.get 1 _ rfl; have g2 := hb5.get 2 _ rfl; have g3 := hb5.get 3 _ rfl; have g4 := hb5.get 4 _ rfl
 have cMa := hid (HM.out w5 (HV4.out.1.trans k5 (by simp)))
 have K5 := hid k5
 have HD5 := hid (HD.out.kept k5)
 simp only [List.length_cons, List.length_nil, Nat.zero_add, Nat.add_zero, Nat.zero_mul, VE, vFourP] at *;have HR := hid (And.intro r0 r2)
 subst ea;clear hlot hL k5 hsee hxs hxs2 hc cAn' hb5 r0 r2;go_wp2_with fail;refine cMa.out.mono ?_;rintro e w6 ⟨rfl, k6⟩;have HK6 := hid (HV4.out.2.trans (K5.out.trans k6 (by simp)) (by simp))
 have r0 := kpAt k6 HR.out.1
 have r2 := kpAt k6 HR.out.2
 have hd6 := HD5.out.kept k6
 have p0 := hd6.get 0 _ rfl; have p1 := hd6.get 1 _ rfl
 clear cMa k6 hd6;go_wp2_with fail;go_returns;exact ⟨rfl, HK6.out⟩
end Go.Proofs.YtcgkkofmnajedaaGreatDoor
end

section
namespace Go.Proofs.YtcgkkofmnajedaaGreatDoor
open Go.ChangeShapes Go.WideShapes Go.ChangeAt Go.RowKit Go.Hay
theorem cellsX1 : Tryz.prog.cellsOf 3 = 1 := by kernel_rfl
theorem cellsX2 : Tryz.prog.cellsOf 4 = 1 := by kernel_rfl
theorem cellsX3 : Tryz.prog.cellsOf 2 = 1 := by kernel_rfl
theorem cellsX4 : Tryz.prog.cellsOf 9 = 1 := by kernel_rfl
theorem cellsX5 : Tryz.prog.cellsOf 88 = 4 := by kernel_rfl
theorem bytesX5 : Tryz.prog.bytesOf 88 = 40 := by kernel_rfl
instance : Inhabited Val := ⟨⟨0, false, 0, ⟨#[]⟩⟩⟩
section
variable {H : Type} {enc : TypeId × Value → H} {W : World} {a : Option Addr} {len cap : Nat} {d : DataW H} {ps : List MemPlace}
theorem openV4 {fuel : Nat} {c0 c1 c2 c3 : Value} {x : DataW H × List MemPlace} (h : DataW.trod enc Tryz.prog W 0 (fun _ => true) true fuel 88 [c0, c1, c2, c3] = some x) :
  ∃ t : Val, c0 = .int .i64 t.k ∧ c1 = .bool t.b ∧ c2 = .int .i64 t.n ∧ c3 = .string t.t := by
 obtain ⟨xs, n, _, rfl, _, hlen, hf⟩ := DataW.trod_struct Tryz.underlying88 h
 match xs, hlen with
 | [y0, y1, y2, y3], _ =>
  have h0 := hf 0 _ rfl
  have h1 := hf 1 _ rfl
  have h2 := hf 2 _ rfl
  have h3 := hf 3 _ rfl
  simp [cellsX1, cellsX2, cellsX3, cellsX4] at h0 h1 h2 h3
  obtain ⟨k, e0, _, w0⟩ := DataW.trod_int Tryz.underlying3 h0;obtain ⟨b, e1, _⟩ := DataW.trod_bool Tryz.underlying4 h1;obtain ⟨n2, e2, _, w2⟩ := DataW.trod_int Tryz.underlying2 h2;obtain ⟨s, e3, _, w3⟩ := DataW.trod_string Tryz.underlying9 h3;simp at e0 e1 e2 e3
  exact ⟨⟨k, b, n2, s⟩, e0, e1, e2, e3⟩
theorem openXv (h : DataW.Trod enc Tryz.prog W 0 (fun _ => true) true 61 (.slice a len cap) d ps) :
  ∃ l : List Val, len = l.length ∧ VE.See W a l ∧ (∀ y ∈ l, True) ∧ l.length ≤ cap ∧ cap ≤ maxLen ∧ (a = none → cap = 0) ∧ (Fit 61 d → cap * 40 ≤ 140737488351232 ∧ ∀ y ∈ l, True) ∧ (l.map fun _ => 0).sum ≤ Rows.uptoBulk d ∧ cap + 1 ≤ Rows.uptoBulk d :=
 openEls VE Tryz.underlying61 cellsX5 40 bytesX5 (fun _ => True) (fun _ => True) (fun _ => 0) (fun fuel cs x hx hcs => by
  match cs, hcs with
  | [c0, c1, c2, c3], _ =>
   obtain ⟨t, e0, e1, e2, e3⟩ := openV4 hx;subst e0 e1 e2 e3;exact ⟨t, trivial, rfl, fun _ => trivial, Nat.zero_le _⟩) h
end
theorem cellsX6 : Tryz.prog.cellsOf 145 = 6 := by kernel_rfl
theorem bytesX6 : Tryz.prog.bytesOf 145 = 56 := by kernel_rfl
instance : Inhabited Col := ⟨⟨⟨#[]⟩, 0, false⟩⟩
section
variable {H : Type} {enc : TypeId × Value → H} {W : World} {a : Option Addr} {len cap : Nat} {d : DataW H} {ps : List MemPlace}
theorem openT6 {fuel : Nat} {c0 c1 c2 c3 c4 c5 : Value} {x : DataW H × List MemPlace} (h : DataW.trod enc Tryz.prog W 0 (fun _ => true) true fuel 145 [c0, c1, c2, c3, c4, c5] = some x) :
  ∃ t : Tm, c0 = .int .i64 t.co ∧ c1 = .int .i64 t.op ∧ c2 = .int .i64 t.x.k ∧ c3 = .bool t.x.b ∧ c4 = .int .i64 t.x.n ∧ c5 = .string t.x.t ∧ -9223372036854775808 ≤ t.co ∧ t.co ≤ 9223372036854775807 := by
 obtain ⟨xs, n, _, rfl, _, hlen, hf⟩ := DataW.trod_struct Tryz.underlying145 h
 match xs, hlen with
 | [y0, y1, y2], _ =>
  have h0 := hf 0 _ rfl
  have h1 := hf 1 _ rfl
  have h2 := hf 2 _ rfl
  simp [cellsX1, cellsX5] at h0 h1 h2
  obtain ⟨co, e0, _, w0⟩ := DataW.trod_int Tryz.underlying3 h0;obtain ⟨op, e1, _, w1⟩ := DataW.trod_int Tryz.underlying3 h1;obtain ⟨t, e2, e3, e4, e5⟩ := openV4 (c0 := c2) (c1 := c3) (c2 := c4) (c3 := c5) h2;simp at e0 e1
  have hb := bounds_i64 w0
  exact ⟨⟨co, op, t⟩, e0, e1, e2, e3, e4, e5, hb.1, hb.2⟩
theorem openTerms (h : DataW.Trod enc Tryz.prog W 0 (fun _ => true) true 26 (.slice a len cap) d ps) :
  ∃ l : List Tm, len = l.length ∧ TmE.See W a l ∧ (∀ y ∈ l, -9223372036854775808 ≤ y.co ∧ y.co ≤ 9223372036854775807) ∧ l.length ≤ cap ∧ cap ≤ maxLen ∧ (a = none → cap = 0) ∧ (Fit 26 d → cap * 56 ≤ 140737488351232 ∧ ∀ y ∈ l, True) ∧ (l.map fun _ => 0).sum ≤ Rows.uptoBulk d ∧ cap + 1 ≤ Rows.uptoBulk d :=
 openEls TmE Tryz.underlying26 cellsX6 56 bytesX6 (fun y => -9223372036854775808 ≤ y.co ∧ y.co ≤ 9223372036854775807) (fun _ => True) (fun _ => 0) (fun fuel cs x hx hcs => by
  match cs, hcs with
  | [c0, c1, c2, c3, c4, c5], _ =>
   obtain ⟨t, e0, e1, e2, e3, e4, e5, hb⟩ := openT6 hx;subst e0 e1 e2 e3 e4 e5;exact ⟨t, hb, rfl, fun _ => trivial, Nat.zero_le _⟩) h
end
theorem gAsk : Tryz.prog.globalNamed "hayloft/expr.asks" = some 0 := by kernel_rfl
theorem gAskType : (Tryz.prog.globals[0]?).map (·.type) = some 228 := by kernel_rfl
theorem cellsAsk : Tryz.prog.cellsOf 228 = 18 := by kernel_rfl
theorem cellsAs3 : Tryz.prog.cellsOf 227 = 3 := by kernel_rfl
theorem askRow {W : World} {fuel : Nat} {c0 c1 c2 : Value} {b0 b1 b2 : Bool} {x : DataW Unit × List MemPlace} (h : DataW.trod (fun _ => ()) Tryz.prog W 0 (fun _ => true) false fuel 227 [c0, c1, c2] = some x) (hd : x.1 = .agg [.lit (.bool b0), .lit (.bool b1), .lit (.bool b2)]) : c0 = .bool b0 ∧ c1 = .bool b1 ∧ c2 = .bool b2 := by
 obtain ⟨y0, y1, y2, n, rfl, h0, h1, h2⟩ := trod_array3 Tryz.underlying227 cellsX2 h;obtain ⟨z0, e0, f0⟩ := DataW.trod_bool Tryz.underlying4 h0;obtain ⟨z1, e1, f1⟩ := DataW.trod_bool Tryz.underlying4 h1;obtain ⟨z2, e2, f2⟩ := DataW.trod_bool Tryz.underlying4 h2;simp at e0 e1 e2
 subst e0 e1 e2 f0 f1 f2;simp at hd
 simp [hd]
theorem asksOf {W : World} (hv0 : ∃ t cs fuel p, (Tryz.prog.globals[0]?).map (·.type) = some t ∧ W.var? Tryz.prog "hayloft/expr.asks" = some cs ∧ DataW.trod (fun _ => ()) Tryz.prog W 0 (fun _ => true) false fuel t cs.toList = some (Rows.laid_hayloft_expr_asks, p)) : Asks W := by
 obtain ⟨t, cs, fuel, p, ht, hv, hd⟩ := hv0;obtain rfl := Option.some.inj (gAskType.symm.trans ht)
 obtain ⟨xs, m, _, ex, hlen, hl, hel⟩ := DataW.trod_array Tryz.underlying228 hd;rw [cellsAsk] at hlen;obtain ⟨l⟩ := cs
 match l, hlen with
 | [c0, c1, c2, c3, c4, c5, c6, c7, c8, c9, c10, c11, c12, c13, c14, c15, c16, c17], _ =>
  match xs, hl with
  | [x0, x1, x2, x3, x4, x5], _ =>
   have e6 := (DataW.agg.inj (Prod.mk.inj ex).1)
   simp only [List.map_cons, List.map_nil, List.cons.injEq, and_true] at e6;obtain ⟨f0, f1, f2, f3, f4, f5⟩ := e6;have k0 := hel 0 (by omega)
   have k1 := hel 1 (by omega)
   have k2 := hel 2 (by omega)
   have k3 := hel 3 (by omega)
   have k4 := hel 4 (by omega)
   have k5 := hel 5 (by omega)
   rw [cellsAs3] at k0 k1 k2 k3 k4 k5;obtain ⟨g0, g1, g2⟩ := askRow (c0 := c0) (c1 := c1) (c2 := c2) (b0 := false) (b1 := true) (b2 := false) k0 f0.symm;obtain ⟨g3, g4, g5⟩ := askRow (c0 := c3) (c1 := c4) (c2 := c5) (b0 := true) (b1 := false) (b2 := true) k1 f1.symm;obtain ⟨g6, g7, g8⟩ := askRow (c0 := c6) (c1 := c7) (c2 := c8) (b0 := true) (b1 := false) (b2 := false) k2 f2.symm;obtain ⟨g9, g10, g11⟩ := askRow (c0 := c9) (c1 := c10) (c2 := c11) (b0 := true) (b1 := true) (b2 := false) k3 f3.symm;obtain ⟨g12, g13, g14⟩ := askRow (c0 := c12) (c1 := c13) (c2 := c14) (b0 := false) (b1 := false) (b2 := true) k4 f4.symm;obtain ⟨g15, g16, g17⟩ := askRow (c0 := c15) (c1 := c16) (c2 := c17) (b0 := false) (b1 := true) (b2 := true) k5 f5.symm;subst g0 g1 g2 g3 g4 g5 g6 g7 g8 g9 g10 g11 g12 g13 g14 g15 g16 g17
   have hc : ∀ i, i < 18 → W.cell? ⟨0, i, none⟩ = some (.bool (askL.getD i false)) := by
    intro i hi
    rw [World.var?_cell gAsk hv i]
    match i, hi with
    | 0, _ => rfl
    | 1, _ => rfl
    | 2, _ => rfl
    | 3, _ => rfl
    | 4, _ => rfl
    | 5, _ => rfl
    | 6, _ => rfl
    | 7, _ => rfl
    | 8, _ => rfl
    | 9, _ => rfl
    | 10, _ => rfl
    | 11, _ => rfl
    | 12, _ => rfl
    | 13, _ => rfl
    | 14, _ => rfl
    | 15, _ => rfl
    | 16, _ => rfl
    | 17, _ => rfl
    | i + 18, h => omega
   exact ⟨World.block_lt_of_cell? _ _ (hc 0 (by omega)), hc⟩
def askCells : Array Value := #[.bool false, .bool true, .bool false, .bool true, .bool false, .bool true, .bool true, .bool false, .bool false, .bool true, .bool true, .bool false, .bool false, .bool false, .bool true, .bool false, .bool true, .bool true]
theorem table {W : World} (h : laidMetH Tryz.prog [("hayloft/expr.asks", Rows.laid_hayloft_expr_asks)] W) : Asks W := by
 obtain ⟨ps, ⟨g, t, cs, fuel, p, q, hg, ht, hv, hd, _, _⟩, _, _⟩ := (show laidMet Tryz.prog [("hayloft/expr.asks", Rows.laid_hayloft_expr_asks)] W from h);obtain rfl := Option.some.inj (gAsk.symm.trans hg)
 exact asksOf ⟨t, cs, fuel, p, ht, hv, hd⟩
def tabCells : Array Value := askCells
end Go.Proofs.YtcgkkofmnajedaaGreatDoor
end

section
namespace Go.Proofs.YtcgkkofmnajedaaGreatDoor
open Go.RowKit Go.Hay
theorem getR' (R : List (List Val)) : R = (List.range R.length).map fun i => R.getD i [] := by
 apply List.ext_getElem?
 intro k
 by_cases h : k < R.length
 ·simp [h]
 ·rw [List.getElem?_eq_none (by omega), List.getElem?_eq_none (by simp; omega)]
theorem srtO_perm (os : List (Int × Bool)) (R : List (List Val)) : (srtO os R).Perm R := by
 have h := (srtI_perm (ltO os R) R.length).map (fun i => R.getD i [])
 rw [← getR'] at h;exact h
end Go.Proofs.YtcgkkofmnajedaaGreatDoor
end

section
namespace Go.Proofs.YtcgkkofmnajedaaGreatDoor
open Go.RowKit Go.Hay
attribute [local go_sem] Oper.semAt_some
theorem rAhead (x y : Vs) (oa : Option Addr) (oc : Nat) (os : List (Int × Bool)) (w : World) (hx : x.lies w) (hy : y.lies w) (ho : OrE.See w oa os) (hol : os.length ≤ 4000000000000) :
  Calls Tryz.prog 117 #[.slice x.a x.l.length x.c, .slice y.a y.l.length y.c, .slice oa os.length oc] w fun e w' => e = .returned (.bool (decide (cmpO os x.l y.l < 0))) ∧ Kp [] w w' := by
 obtain ⟨xa, xc, xl⟩ := x;obtain ⟨ya, yc, yl⟩ := y;have h1 := hx.cap; have h2 := hx.most; have h3 := hy.cap; have h4 := hy.most
 unfold maxLen at h2 h4
 dsimp only at *;have HX := hid hx
 have HY := hid hy
 have HO := hid ho
 obtain ⟨Z, hZ⟩ : ∃ Z, Hid (cmpO os xl yl = Z) := ⟨_, rfl⟩
 rw [hZ.out];clear hx hy ho;go_enter Tryz.func117, Tryz.ntmps117
 go_wp2_with fail;go_loopw [7] (fun i wr => ∃ j : Nat, j ≤ os.length ∧ i = .int .i64 (j : Int) ∧ Hid (cmpO (os.drop j) xl yl = Z) ∧ Hid (Kp [] w wr)) (fun i _ => os.length - (intOf i).toNat)
 case atStart => exact ⟨0, Nat.zero_le _, rfl, hZ, Kp.refl _ _⟩
 case round =>
  obtain ⟨j, hj, rfl, hz, H⟩ := hrel
  by_cases hlt : j < os.length
  ·obtain ⟨g, o, ea, c0, c1⟩ := orAt HO.out j hlt
   have hdr := hid (cmpO_drop os xl yl j hlt)
   obtain ⟨p, hp⟩ : ∃ p, Hid (os[j] = p) := ⟨os[j], rfl⟩
   rw [hp.out] at c0 c1 hdr;obtain ⟨col, dn⟩ := p;dsimp only at c0 c1 hdr;have hS : Hid (∀ A, Kp [] w A → A.cell? ⟨g, o + j * 2, none⟩ = some (.int .i64 col) ∧ A.cell? ⟨g, o + j * 2 + 1, none⟩ = some (.bool dn)) := fun A k => ⟨kpAt k c0, kpAt k c1⟩
   have cA : Hid (∀ A, Kp [] w A → Calls Tryz.prog 93 #[.slice xa xl.length xc, .int .i64 col] A fun e w' => e = .returned (.agg #[.int .i64 (vAt xl col).k, .bool (vAt xl col).b, .int .i64 (vAt xl col).n, .string (vAt xl col).t]) ∧ Kp [] A w') := fun A k => rAtE xa xc xl col A (HX.out.see.kept k) (by omega)
   have cB : Hid (∀ A, Kp [] w A → Calls Tryz.prog 93 #[.slice ya yl.length yc, .int .i64 col] A fun e w' => e = .returned (.agg #[.int .i64 (vAt yl col).k, .bool (vAt yl col).b, .int .i64 (vAt yl col).n, .string (vAt yl col).t]) ∧ Kp [] A w') := fun A k => rAtE ya yc yl col A (HY.out.see.kept k) (by omega)
   obtain ⟨⟨uk, ub, un, ut⟩, hu⟩ : ∃ y, Hid (vAt xl col = y) := ⟨_, rfl⟩
   obtain ⟨⟨vk, vb, vn, vt⟩, hv⟩ : ∃ y, Hid (vAt yl col = y) := ⟨_, rfl⟩
   simp only [hu.out] at cA;simp only [hv.out] at cB;rw [hu.out, hv.out] at hdr;have cC := hid (fun A => cRefCompare ⟨uk, ub, un, ut⟩ ⟨vk, vb, vn, vt⟩ A)
   simp only [Val.v] at cC;have hrg := cmp_range ⟨uk, ub, un, ut⟩ ⟨vk, vb, vn, vt⟩
   obtain ⟨C, hC⟩ : ∃ C, Hid (cmpV ⟨uk, ub, un, ut⟩ ⟨vk, vb, vn, vt⟩ = C) := ⟨_, rfl⟩
   simp only [hC.out] at cC;rw [hC.out] at hdr hrg;have i1 : (0 : Int) ≤ (j : Int) := by omega
   have i2 : (j : Int) < (os.length : Int) := by omega
   have i3 : (j : Int) + 1 ≤ 9223372036854775807 := by omega
   subst ea;clear c0 c1;go_wp2_with fail;refine wp_noPanicY ?_;refine wp_region_held_drew (S := fun A => A.cell? ⟨g, o + j * 2, none⟩ = some (.int .i64 col) ∧ A.cell? ⟨g, o + j * 2 + 1, none⟩ = some (.bool dn)) (by kernel_rfl) (hS.out _ H.out.drew) (fun hHeld => ?_)
   have KD : Hid (Kp [] w wr.drew) := hid H.out.drew
   generalize wr.drew = wd at *
   refine tkH ?_ 0 rfl (by kernel_rfl) (fun _ _ _ h => by cases h.1) (by rfl) ?_ ‹_› ?_;rotate_left
   ·intro w h; (try dsimp only at h); go_simp <;> with_reducible rfl
   (try simp only [Act.put, lz]);refine tkH ?_ 1 rfl (by kernel_rfl) (fun _ _ _ h => by cases h.1) (by rfl) ?_ ‹_› ?_;rotate_left
   ·intro w h; (try dsimp only at h); go_simp <;> with_reducible rfl
   (try simp only [Act.put, lz]);refine tkH ?_ 2 rfl (by kernel_rfl) (fun _ _ _ h => by cases h.1) (by rfl) ?_ ‹_› ?_;rotate_left
   ·intro w h; (try dsimp only at h); go_simp <;> with_reducible rfl
   (try simp only [Act.put, lz]);refine tkH ?_ 3 rfl (by kernel_rfl) (fun _ _ _ h => by cases h.1) (by rfl) ?_ ‹_› ?_;rotate_left
   ·intro w h; (try dsimp only at h); go_simp <;> with_reducible rfl
   (try simp only [Act.put, lz]);refine tkH ?_ 4 rfl (by kernel_rfl) (fun _ _ _ h => by cases h.1) (by rfl) ?_ ‹_› ?_;rotate_left
   ·intro w h; (try dsimp only at h); go_simp <;> with_reducible rfl
   (try simp only [Act.put, lz]);refine tkH ?_ 5 rfl (by kernel_rfl) (fun _ _ _ h => by cases h.1) (by rfl) ?_ ‹_› ?_;rotate_left
   ·intro w h; (try dsimp only at h); go_simp <;> with_reducible rfl
   (try simp only [Act.put, lz]);refine tkH ?_ 7 rfl (by kernel_rfl) (fun _ _ _ h => by cases h.1) (by rfl) ?_ ‹_› ?_;rotate_left
   ·intro w h; (try dsimp only at h); go_simp <;> with_reducible rfl
   (try simp only [Act.put, lz]);refine tkH ?_ 8 rfl (by kernel_rfl) (fun _ _ _ h => by cases h.1) (by rfl) ?_ ‹_› ?_;rotate_left
   ·intro w h; (try dsimp only at h); go_simp <;> with_reducible rfl
   (try simp only [Act.put, lz]);refine tkH ?_ 9 rfl (by kernel_rfl) (fun _ _ _ h => by cases h.1) (by rfl) ?_ ‹_› ?_;rotate_left
   ·intro w h; (try dsimp only at h); go_simp <;> with_reducible rfl
   (try simp only [Act.put, lz]);refine tkH ?_ 10 rfl (by kernel_rfl) (fun _ _ _ h => by cases h.1) (by rfl) ?_ ‹_› ?_;rotate_left
   ·intro w h; (try dsimp only at h); go_simp <;> with_reducible rfl
   (try simp only [Act.put, lz]);refine tkH ?_ 11 rfl (by kernel_rfl) (fun _ _ _ h => by cases h.1) (by rfl) ?_ ‹_› ?_;rotate_left
   ·intro w h; (try dsimp only at h); go_simp <;> with_reducible rfl
   (try simp only [Act.put, lz]);refine tkH ?_ 12 rfl (by kernel_rfl) (fun _ _ _ h => by cases h.1) (by rfl) ?_ ‹_› ?_;rotate_left
   ·intro w h; (try dsimp only at h); go_simp <;> with_reducible rfl
   (try simp only [Act.put, lz]);refine rdH 6 (by kernel_rfl) rfl fun K hK => ?_
   go_simp;refine (cA.out wd KD.out).mono ?_;rintro e we ⟨rfl, ke⟩;(try go_wp2_with fail);refine hK.out _ _ ?_ (fun hHeld => ?_)
   ·exact hS.out we (KD.out.trans ke (by simp))
   clear hK K;(try simp only [Act.put, lz]);have KE := hid (KD.out.trans ke (by simp))
   refine rdH 13 (by kernel_rfl) rfl fun K hK => ?_
   go_simp;refine (cB.out we KE.out).mono ?_;rintro e wf ⟨rfl, kf⟩;(try go_wp2_with fail);refine hK.out _ _ ?_ (fun hHeld => ?_)
   ·exact hS.out wf (KE.out.trans kf (by simp))
   clear hK K;(try simp only [Act.put, lz]);have KF := hid (KE.out.trans kf (by simp))
   refine rdH 14 (by kernel_rfl) rfl fun K hK => ?_
   go_simp;refine (cC.out wf).mono ?_;rintro e wg ⟨rfl, kg⟩;(try go_wp2_with fail);refine hK.out _ _ ?_ (fun hHeld => ?_)
   ·exact hS.out wg (KF.out.trans kg (by simp))
   clear hK K;(try simp only [Act.put, lz]);refine tkH ?_ 15 rfl (by kernel_rfl) (fun _ _ _ h => by cases h.1) (by rfl) ?_ ‹_› ?_;rotate_left
   ·intro w h; (try dsimp only at h); go_simp <;> with_reducible rfl
   (try simp only [Act.put, lz]);refine wpAnyH_done (by kernel_rfl) ⟨rfl, ?_⟩ _
   have KG := hid (KF.out.trans kg (by simp))
   obtain ⟨s0, s1⟩ := hS.out wg KG.out;clear hHeld ke kf kg
   by_cases hC0 : C = 0
   ·have d1 : (C != 0) = false := by simpa using hC0
    have hz2 : Hid (cmpO (os.drop (j + 1)) xl yl = Z) := by show _ = _; rw [← hz.out, hdr.out, dirC]; cases dn <;> simp [hC0]
    clear hC0;go_wp2_with fail;go_roundw
    case rel => exact ⟨j + 1, by omega, by go_num, hz2, KG⟩
    case measure => simp [intOf]; omega
   ·have d1 : (C != 0) = true := by simpa using hC0
    have hz2 : Hid ((decide (C < 0) != dn) = decide (Z < 0)) := by
     show _ = _
     have hne : ¬ dirC dn C = 0 := fun h => hC0 ((dir_zero dn C).1 h)
     rw [← hz.out, hdr.out, if_neg hne]
     rcases hrg with rfl | rfl | rfl
     ·cases dn <;> rfl
     ·exact absurd rfl hC0
     ·cases dn <;> rfl
    clear hC0;go_wp2_with fail;go_ret;rw [← hz2.out];exact ⟨rfl, KG.out⟩
  ·have hje : os.drop j = [] := List.drop_eq_nil_of_le (by omega)
   have hz2 : Hid (rowsV xl yl = Z) := by show _ = _; rw [← hz.out, hje]; rfl
   have cR := hid (cRefRows xa ya xc yc xl yl wr (HX.out.see.kept H.out) (HY.out.see.kept H.out) (by omega) (by omega))
   rw [hz2.out] at cR;have dj1 : ¬ (j : Int) < (os.length : Int) := by omega
   have dj2 : decide ((j : Int) < (os.length : Int)) = false := by simp; omega
   clear hje;go_wp2_with fail;refine cR.out.mono ?_;rintro e w2 ⟨rfl, k2⟩;have KF := hid (H.out.trans k2 (by simp))
   clear cR k2;go_wp2_with fail;go_ret;exact ⟨rfl, KF.out⟩
end Go.Proofs.YtcgkkofmnajedaaGreatDoor
end

section
namespace Go.Proofs.YtcgkkofmnajedaaGreatDoor
open Go.RowKit Go.Hay
theorem insI_len (lt : Nat → Nat → Prop) [∀ x y, Decidable (lt x y)] (n : Nat) : (srtI lt n).length = n := by rw [(srtI_perm lt n).length_eq, List.length_range]
theorem insI_map {α : Type} (lt : Nat → Nat → Prop) [∀ x y, Decidable (lt x y)] (A : Nat → α) (j K : Nat) (h : insP lt j (srtI lt j) j = K) : (srtI lt (j + 1)).map A = ((srtI lt j).map A).take K ++ A j :: ((srtI lt j).map A).drop K := by
 rw [srtI, insI, insI_len, h, List.map_append, List.map_cons, List.map_take, List.map_drop]
theorem appVsS (w : World) (L : List Vs) (a : Option Addr) (c : Nat) (ys : List Vs) (a2 : Option Addr) (c2 : Nat) (hr : VsE.Row w (.slice a L.length c) L) (hs : VsE.See w a2 ys) (hL : L.length + ys.length ≤ 4000000) :
  ∃ a' c' w', (Builtin.append_ #[60, 60] 60 #[.slice a L.length c, .slice a2 ys.length c2]).run Tryz.prog w = .ok (.slice a' (L ++ ys).length c') w' ∧ VsE.Row w' (.slice a' (L ++ ys).length c') (L ++ ys) ∧ Kp (blk a) w w' ∧ ∀ k ∈ blk a', k ∈ blk a ∨ w.heap.size ≤ k := by
 obtain ⟨i0, hi, hz0, hz1, hz2⟩ := infoVs;have hsr := hs.src (P := Tryz.prog) Tryz.underlying60 c2
 obtain ⟨v', w', hrun, h1, h2, h3⟩ := run_appendG (E := VsE) (P := Tryz.prog) w 60 60 60 61 i0 _ 24 Tryz.underlying60 hi hz0 hz1 hz2 rfl (.slice a L.length c) L hr _ ys hsr (by omega) (by omega)
 obtain ⟨a', c', rfl, _⟩ := h1.see;simp only [ownV] at h2 h3;exact ⟨a', c', w', hrun, h1, h2, h3⟩
theorem appVsO (w : World) (L : List Vs) (a : Option Addr) (c : Nat) (x : Vs) (hr : VsE.Row w (.slice a L.length c) L) (hL : L.length ≤ 3000000) :
  ∃ a' c' w', (Builtin.append_ #[60, 60] 60 #[.slice a L.length c, .slice (some ⟨w.heap.size, 0, none⟩) 1 1]).run Tryz.prog (w.alloc (.cells #[.slice x.a x.l.length x.c] 61)) = .ok (.slice a' (L ++ [x]).length c') w' ∧ VsE.Row w' (.slice a' (L ++ [x]).length c') (L ++ [x]) ∧ Kp (blk a) w w' ∧ ∀ k ∈ blk a', k ∈ blk a ∨ w.heap.size ≤ k := by
 obtain ⟨A1, hA1⟩ : ∃ A1, w.alloc (.cells #[.slice x.a x.l.length x.c] 61) = A1 := ⟨_, rfl⟩
 have k1 : Kp [] w A1 := by rw [← hA1]; exact (Kp.refl _ _).alloc _
 have bx : Bn A1 w.heap.size (VsE.c x) := by rw [← hA1]; exact Bn.new w (VsE.c x) _
 have hs1 : VsE.See A1 (some ⟨w.heap.size, 0, none⟩) [x] := .inr ⟨w.heap.size, 0, rfl, fun j u hu => by rw [Nat.zero_add]; exact bx.get j u (by simpa [El.cs] using hu)⟩
 obtain ⟨a', c', w', h1, h2, h3, h4⟩ := appVsS A1 L a c [x] _ 1 (hr.keptNew k1) hs1 (by simp only [List.length_cons, List.length_nil]; omega)
 rw [hA1];have z := k1.size
 exact ⟨a', c', w', h1, h2, (k1.mono (by simp)).trans h3 (fun _ h => .inl h), fun k hk => by
  rcases h4 k hk with e | e
  ·exact .inl e
  ·exact .inr (by omega)⟩
theorem sliceFromVs (a : Option Addr) (n c k : Nat) (w : World) (hk : k ≤ n) : (Instr.slice 60 (.slice a n c) (some (.int .i64 (k : Int))) none none).run Tryz.prog w = .ok (.slice (if c = k then a else a.map (·.add k)) (n - k) (c - k)) w := by
 obtain ⟨i0, hi, hz0, hz1, hz2⟩ := infoVs;have hsz := run_sizeOf (P := Tryz.prog) (w := w) hi
 have h1 : (0 : Int) ≤ (k : Int) := by omega
 have h2 : (k : Int) ≤ (n : Int) := by omega
 simp [Instr.slice, Instr.sliceBounds, Instr.sliceBound, run_underlying Tryz.underlying60, h1, h2, hk, asIntOf]
theorem addrMap0 (a : Option Addr) : a.map (·.add 0) = a := by cases a <;> rfl
theorem sliceToVs (a : Option Addr) (n c k : Nat) (w : World) (hk : k ≤ c) : (Instr.slice 60 (.slice a n c) none (some (.int .i64 (k : Int))) none).run Tryz.prog w = .ok (.slice a k c) w := by
 obtain ⟨i0, hi, hz0, hz1, hz2⟩ := infoVs;have hsz := run_sizeOf (P := Tryz.prog) (w := w) hi
 have h1 : (0 : Int) ≤ (k : Int) := by omega
 have h2 : (k : Int) ≤ (c : Int) := by omega
 have e0 := addrMap0 a
 simp [Instr.slice, Instr.sliceBounds, Instr.sliceBound, run_underlying Tryz.underlying60, h1, h2, hk, asIntOf, e0]
theorem app3V (u : World) (a cq : Option Addr) (ca cc j K : Nat) (O : List Vs) (hO : O.length = j) (hK : K ≤ j) (h1 : VsE.See u a (O.take K)) (h2 : VsE.See u cq (O.drop K)) (x : Vs) (hj : j ≤ 1048576) :
  ∃ a1 c1 W1 a2 c2 W2 a3 c3 W3, (Builtin.append_ #[60, 60] 60 #[.slice none 0 0, .slice a K ca]).run Tryz.prog u = .ok (.slice a1 K c1) W1
   ∧ (Builtin.append_ #[60, 60] 60 #[.slice a1 K c1, .slice (some ⟨W1.heap.size, 0, none⟩) 1 1]).run Tryz.prog (W1.alloc (.cells #[.slice x.a x.l.length x.c] 61)) = .ok (.slice a2 (K + 1) c2) W2
   ∧ (Builtin.append_ #[60, 60] 60 #[.slice a2 (K + 1) c2, .slice cq (j - K) cc]).run Tryz.prog W2 = .ok (.slice a3 (j + 1) c3) W3
   ∧ VsE.Row W3 (.slice a3 (O.take K ++ x :: O.drop K).length c3) (O.take K ++ x :: O.drop K) ∧ (∀ k ∈ blk a3, u.heap.size ≤ k) ∧ Kp [] u W1 ∧ Kp [] u W2 ∧ Kp [] u W3 := by
 have l1 : (O.take K).length = K := by rw [List.length_take]; omega
 have l2 : (O.drop K).length = j - K := by rw [List.length_drop]; omega
 obtain ⟨a1, c1, W1, r1, R1, k1, n1⟩ := appVsS u [] none 0 (O.take K) a ca (.inl ⟨rfl, rfl⟩) h1 (by simp; omega)
 simp only [List.nil_append, List.length_nil] at r1 R1;obtain ⟨a2, c2, W2, r2, R2, k2, n2⟩ := appVsO W1 (O.take K) a1 c1 x R1 (by omega)
 have k1' : Kp [] u W1 := by simpa [blk] using k1
 have n1' : ∀ k ∈ blk a1, u.heap.size ≤ k := fun k hk => by
  rcases n1 k hk with e | e
  ·simp [blk] at e
  ·exact e
 have k2' : Kp [] u W2 := k1'.trans k2 (fun y hy => .inr (n1' y hy))
 have n2' : ∀ k ∈ blk a2, u.heap.size ≤ k := fun k hk => by
  rcases n2 k hk with e | e
  ·exact n1' k e
  ·have := k1'.size; omega
 obtain ⟨a3, c3, W3, r3, R3, k3, n3⟩ := appVsS W2 (O.take K ++ [x]) a2 c2 (O.drop K) cq cc R2 (h2.keptNew k2') (by simp; omega)
 have e1 : (O.take K ++ [x]).length = K + 1 := by simp; omega
 have e2 : O.take K ++ [x] ++ O.drop K = O.take K ++ x :: O.drop K := by simp
 have e3 : (O.take K ++ x :: O.drop K).length = j + 1 := by simp; omega
 rw [l1] at r1 r2;rw [e1] at r2 r3;rw [e2] at r3 R3;rw [e3, l2] at r3
 exact ⟨a1, c1, W1, a2, c2, W2, a3, c3, W3, r1, r2, r3, R3, fun k hk => by
  rcases n3 k hk with e | e
  ·exact n2' k e
  ·have := k2'.size; omega, k1', k2', k2'.trans k3 (fun y hy => .inr (n2' y hy))⟩
end Go.Proofs.YtcgkkofmnajedaaGreatDoor
end

section
namespace Go.Proofs.YtcgkkofmnajedaaGreatDoor
open Go.RowKit Go.Hay
attribute [local go_sem] Oper.semAt_some
theorem refJ_app (A B RR : List (List Val)) (lo ro : Int) : refJ (A ++ B) RR lo ro = refJ A RR lo ro ++ refJ B RR lo ro := by
 rw [refJ_eq, refJ_eq, refJ_eq, List.flatMap_append]
theorem refJ_pre {L M : List Vs} {lo ro : Int} {j k : Nat} (hj : j < L.length) : (refJ ((L.take j).map (·.l)) (M.map (·.l)) lo ro ++ (((M.take k).map (·.l)).filter (prJ lo ro L[j].l)).map (L[j].l ++ ·)).length ≤ (refJ (L.map (·.l)) (M.map (·.l)) lo ro).length := by
 have h1 : L.map (·.l) = (L.take (j + 1)).map (·.l) ++ (L.drop (j + 1)).map (·.l) := by rw [← List.map_append, List.take_append_drop]
 rw [h1, refJ_app, refJ_snoc hj];have h2 : (((M.take k).map (·.l)).filter (prJ lo ro L[j].l)).length ≤ ((M.map (·.l)).filter (prJ lo ro L[j].l)).length := ((List.take_sublist k M).map _).filter _ |>.length_le
 simp only [List.length_append, List.length_map];omega
def JoiP (R : List (List Val)) (w : World) (e : Ending) (w' : World) : Prop :=
 Kp [] w w' ∧ ((65536 < R.length ∧ e = .returned (.tuple #[.slice none 0 0, .bool false])) ∨ (R.length ≤ 65536 ∧ ∃ ra rc L, e = .returned (.tuple #[.slice ra L.length rc, .bool true]) ∧ Lot w.heap.size ra rc L w' ∧ L.map (·.l) = R))
theorem rJoinedQ (q : Qy) (a b : Option Addr) (ca cb : Nat) (L M : List Vs) (w0 : World) (ha : VsE.See w0 a L) (hb : VsE.See w0 b M) (hA : ∀ x ∈ L, x.lies w0) (hB : ∀ x ∈ M, x.lies w0) (hl : L.length ≤ 1048576) (hm : M.length ≤ 1048576) (hAl : ∀ x ∈ L, x.l.length ≤ 1048576) (hBl : ∀ x ∈ M, x.l.length ≤ 1048576) :
  Calls Tryz.prog 61 #[.agg q.cs.toArray, .slice a L.length ca, .slice b M.length cb] w0 (JoiP (refJ (L.map (·.l)) (M.map (·.l)) q.lo q.ro) w0) := by
 obtain ⟨w, hw1, k1, b1⟩ : ∃ x, w0.alloc (.cells q.cs.toArray 31) = x ∧ Kp [] w0 x ∧ Bn x w0.heap.size q.cs := ⟨_, rfl, (Kp.refl _ _).alloc _, Bn.new w0 _ _⟩
 obtain ⟨qq, hqq⟩ : ∃ x, Hid (w0.heap.size = x) := ⟨_, hid rfl⟩
 rw [hqq.out] at b1;have KW := hid k1
 have hqq' := hqq.out
 have HA := hid (show VsE.See w a L from ckSee (CK.ofKp k1) ha (by simp))
 have HB := hid (show VsE.See w b M from ckSee (CK.ofKp k1) hb (by simp))
 have HLA := hid (show ∀ x ∈ L, x.lies w from fun x h => (hA x h).ck (CK.ofKp k1) (by simp))
 have HLB := hid (show ∀ x ∈ M, x.lies w from fun x h => (hB x h).ck (CK.ofKp k1) (by simp))
 have hAl' := hid hAl
 have hBl' := hid hBl
 have H0 : Hid (Lot w.heap.size none 0 [] w ∧ Kp [] w w) := ⟨Lot.nil _ _, Kp.refl _ _⟩
 clear ha hb hA hB hAl hBl k1;obtain ⟨tb, jn, rt, lo, ro, ⟨wa, wc, wl⟩, ⟨ca', cc, cl⟩, gr, ⟨ya, yc, yl⟩, ⟨ga, gc, gl⟩, ⟨oa, oc, ol⟩, lim⟩ := q;simp only [Qy.cs, Sl.v] at hw1 b1 ⊢;have BQ : Hid (∀ W, Kp [] w W → W.cell? ⟨qq, 3, none⟩ = some (.int .i64 lo) ∧ W.cell? ⟨qq, 4, none⟩ = some (.int .i64 ro)) := hid fun W k => ⟨(b1.kept k).get 3 _ rfl, (b1.kept k).get 4 _ rfl⟩
 clear b1;go_enter Tryz.func61, Tryz.ntmps61
 go_wp2_with fail;go_loopw [8, 9] (fun v9 i wr => ∃ (j : Nat) (ra : Option Addr) (rc : Nat) (m : List Vs), j ≤ L.length ∧ i = .int .i64 (j : Int) ∧ v9 = .slice ra m.length rc ∧ Hid (m.map (·.l) = refJ ((L.take j).map (·.l)) (M.map (·.l)) lo ro ∧ m.length ≤ 65536) ∧ Hid (Lot w.heap.size ra rc m wr ∧ Kp [] w wr)) (fun _ i _ => L.length - (intOf i).toNat)
 case atStart => exact ⟨0, none, 0, [], Nat.zero_le _, rfl, rfl, ⟨rfl, by simp⟩, H0⟩
 case round =>
  obtain ⟨j, ra, rc, m, hj, rfl, rfl, hme, H⟩ := hrel;clear H0
  by_cases hlt : j < L.length
  ·have hpre := hid (fun k : Nat => refJ_pre (M := M) (lo := lo) (ro := ro) (k := k) hlt)
   have hsn := hid (refJ_snoc (RR := M.map (·.l)) (lo := lo) (ro := ro) hlt)
   obtain ⟨g, o, ea, x0⟩ := vsAt HA.out (k := j) (x := L[j]) (by simp [hlt])
   have hxli := hid (HLA.out L[j] (List.getElem_mem hlt))
   have hxl := hAl'.out L[j] (List.getElem_mem hlt)
   obtain ⟨x, hx⟩ : ∃ x, Hid (L[j] = x) := ⟨L[j], rfl⟩
   rw [hx.out] at x0 hxli hxl hsn hpre;obtain ⟨xa, xc, xl⟩ := x;dsimp only at x0 hxl hsn hpre;have HX : Hid (∀ W', Kp [] w W' → W'.cell? ⟨g, o + j, none⟩ = some (.slice xa xl.length xc)) := fun W' k => kpAt k x0
   obtain ⟨⟨uk, ub, un, ut⟩, hu⟩ : ∃ y, Hid (vAt xl lo = y) := ⟨_, rfl⟩
   have cAx : Hid (∀ W', Kp [] w W' → Calls Tryz.prog 93 #[.slice xa xl.length xc, .int .i64 lo] W' fun e w' => e = .returned (.agg #[.int .i64 uk, .bool ub, .int .i64 un, .string ut]) ∧ Kp [] W' w') := fun W' k => by
    have h1 := rAtE xa xc xl lo W' (hxli.out.see.kept k) (by omega)
    rw [hu.out] at h1;exact h1
   have i1 : (0 : Int) ≤ (j : Int) := by omega
   have i2 : (j : Int) < (L.length : Int) := by omega
   have i3 : (j : Int) + 1 ≤ 9223372036854775807 := by omega
   subst ea;clear x0;go_wp2_with fail;go_loopw [8, 10] (fun v9 v11 wk => ∃ (k : Nat) (rb : Option Addr) (rd : Nat) (m2 : List Vs), k ≤ M.length ∧ v11 = .int .i64 (k : Int) ∧ v9 = .slice rb m2.length rd ∧ Hid (m2.map (·.l) = refJ ((L.take j).map (·.l)) (M.map (·.l)) lo ro ++ (((M.take k).map (·.l)).filter (prJ lo ro xl)).map (xl ++ ·) ∧ m2.length ≤ 65536) ∧ Hid (Lot w.heap.size rb rd m2 wk ∧ Kp [] w wk)) (fun _ v11 _ => M.length - (intOf v11).toNat)
   case atStart => exact ⟨0, ra, rc, m, Nat.zero_le _, rfl, rfl, ⟨by rw [hme.out.1]; simp, by have := hme.out.2; omega⟩, H⟩
   case round =>
    obtain ⟨k, rb, rd, m2, hk, rfl, rfl, hm2, Hk⟩ := hrel;clear H
    by_cases hkl : k < M.length
    ·obtain ⟨g2, o2, eb, y0⟩ := vsAt HB.out (k := k) (x := M[k]) (by simp [hkl])
     have hyli := hid (HLB.out M[k] (List.getElem_mem hkl))
     have hyl := hBl'.out M[k] (List.getElem_mem hkl)
     have hfs := hid (filtJ_snoc (p := prJ lo ro xl) hkl)
     obtain ⟨y, hy⟩ : ∃ y, Hid (M[k] = y) := ⟨M[k], rfl⟩
     rw [hy.out] at y0 hyli hyl hfs;obtain ⟨ya, yc, yl⟩ := y;dsimp only at y0 hyl hfs;have HC : Hid (∀ W', Kp [] w W' → W'.cell? ⟨g, o + j, none⟩ = some (.slice xa xl.length xc) ∧ W'.cell? ⟨g2, o2 + k, none⟩ = some (.slice ya yl.length yc)) := fun W' q => ⟨HX.out W' q, kpAt q y0⟩
     obtain ⟨⟨vk, vb, vn, vt⟩, hv⟩ : ∃ y, Hid (vAt yl ro = y) := ⟨_, rfl⟩
     have cAy : Hid (∀ W', Kp [] w W' → Calls Tryz.prog 93 #[.slice ya yl.length yc, .int .i64 ro] W' fun e w' => e = .returned (.agg #[.int .i64 vk, .bool vb, .int .i64 vn, .string vt]) ∧ Kp [] W' w') := fun W' k => by
      have h1 := rAtE ya yc yl ro W' (hyli.out.see.kept k) (by omega)
      rw [hv.out] at h1;exact h1
     have hpr : Hid (prJ lo ro xl yl = (uk != 0 && vk != 0 && cmpV ⟨uk, ub, un, ut⟩ ⟨vk, vb, vn, vt⟩ == 0)) := by show _ = _; unfold prJ; rw [hu.out, hv.out]
     have cCm := hid (fun W' => cRefCompare ⟨uk, ub, un, ut⟩ ⟨vk, vb, vn, vt⟩ W')
     simp only [Val.v] at cCm;have k1 : (0 : Int) ≤ (k : Int) := by omega
     have k2 : (k : Int) < (M.length : Int) := by omega
     have k3 : (k : Int) + 1 ≤ 9223372036854775807 := by omega
     subst eb;clear y0;obtain ⟨wo, hwo⟩ : ∃ x, x = wr := ⟨wr, rfl⟩
     subst hwo;have hS1 : Hid (∀ W', Kp [] wo W' → (fun W' => W'.cell? ⟨g, o + j, none⟩ = some (.slice xa xl.length xc) ∧ W'.cell? ⟨qq, 3, none⟩ = some (.int .i64 lo)) W') := hid (fun W' q => ⟨HX.out W' (Hk.out.2.trans q (by simp)), (BQ.out W' (Hk.out.2.trans q (by simp))).1⟩)
     have cX1 : Hid (∀ W', Kp [] wo W' → Calls Tryz.prog 93 #[.slice xa xl.length xc, .int .i64 lo] W' fun e w' => e = .returned (.agg #[.int .i64 uk, .bool ub, .int .i64 un, .string ut]) ∧ Kp [] W' w') := hid (fun W' q => cAx.out W' (Hk.out.2.trans q (by simp)))
     go_upto_region 8 with fail
     go_cut [11] from 25 to 32 (fun v7 wx => ∃ q12, v7 = .pointer (some ⟨q12, 0, none⟩) ∧ Hid (Bn wx q12 [.int .i64 uk, .bool ub, .int .i64 un, .string ut] ∧ Kp [] wo wx ∧ wo.heap.size ≤ q12))
     case first =>
      refine wp_noPanicY ?_;refine wp_region_held_drew (S := fun W' => W'.cell? ⟨g, o + j, none⟩ = some (.slice xa xl.length xc) ∧ W'.cell? ⟨qq, 3, none⟩ = some (.int .i64 lo)) (by kernel_rfl) (hS1.out _ (Kp.refl _ _).drew) (fun hHeld => ?_)
      have KD : Hid (Kp [] wo wo.drew) := hid (Kp.refl _ _).drew
      generalize wo.drew = wd at *
      refine tkH ?_ 0 rfl (by kernel_rfl) (fun _ _ _ h => by cases h.1) (by rfl) ?_ ‹_› ?_;rotate_left
      ·intro w h; (try dsimp only at h); go_simp <;> with_reducible rfl
      (try simp only [Act.put, lz]);refine tkH ?_ 1 rfl (by kernel_rfl) (fun _ _ _ h => by cases h.1) (by rfl) ?_ ‹_› ?_;rotate_left
      ·intro w h; (try dsimp only at h); go_simp <;> with_reducible rfl
      (try simp only [Act.put, lz]);refine tkH ?_ 2 rfl (by kernel_rfl) (fun _ _ _ h => by cases h.1) (by rfl) ?_ ‹_› ?_;rotate_left
      ·intro w h; (try dsimp only at h); go_simp <;> with_reducible rfl
      (try simp only [Act.put, lz]);refine tkH ?_ 3 rfl (by kernel_rfl) (fun _ _ _ h => by cases h.1) (by rfl) ?_ ‹_› ?_;rotate_left
      ·intro w h; (try dsimp only at h); go_simp <;> with_reducible rfl
      (try simp only [Act.put, lz]);refine tkH ?_ 4 rfl (by kernel_rfl) (fun _ _ _ h => by cases h.1) (by rfl) ?_ ‹_› ?_;rotate_left
      ·intro w h; (try dsimp only at h); go_simp <;> with_reducible rfl
      (try simp only [Act.put, lz]);refine tkH ?_ 5 rfl (by kernel_rfl) (fun _ _ _ h => by cases h.1) (by rfl) ?_ ‹_› ?_;rotate_left
      ·intro w h; (try dsimp only at h); go_simp <;> with_reducible rfl
      (try simp only [Act.put, lz]);refine wpAnyH_ready (rs := [6, 7]) (by kernel_rfl) (by simp) ?_
      refine AllReadyH.cons rfl (fun K hK => ?_) (AllReadyH.cons rfl (fun K hK => ?_) AllReadyH.nil)
      ·go_simp
       refine (cX1.out wd KD.out).mono ?_;rintro e we ⟨rfl, ke⟩;have KE := hid (KD.out.trans ke (by simp))
       obtain ⟨q12, V1, V2, eq12, eV1, bv1, eV2, bv2, kV, zV⟩ := boxV4Y we ⟨uk, ub, un, ut⟩;have u0 := bv1.get 0 _ rfl; have u1 := bv1.get 1 _ rfl; have u2 := bv1.get 2 _ rfl; have u3 := bv1.get 3 _ rfl
       have g0 := bv1.free 0; have g1 := bv1.free 1; have g2 := bv1.free 2; have g3 := bv1.free 3
       try dsimp only at eV2
       have kAl : Kp [] we V1 := by rw [← eV1]; exact (Kp.refl _ _).alloc _
       have hfin : Hid (Bn V2 q12 [.int .i64 uk, .bool ub, .int .i64 un, .string ut] ∧ Kp [] wo V2 ∧ wo.heap.size ≤ q12) := hid ⟨bv2, KE.out.trans kV (by simp), by have := KE.out.size; omega⟩
       (try go_wp2_with fail);refine hK.out _ _ (hS1.out we KE.out) (fun hHeld => ?_)
       clear hK K;(try simp only [Act.put, lz]);refine rdH 7 (by kernel_rfl) rfl fun K hK => ?_
       go_simp;(try go_wp2_with fail);refine hK.out _ _ (hS1.out _ (KE.out.trans kAl (by simp))) (fun hHeld => ?_)
       clear hK K;(try simp only [Act.put, lz]);refine rdH 8 (by kernel_rfl) rfl fun K hK => ?_
       go_simp;(try go_wp2_with fail);refine hK.out _ _ (hS1.out _ (KE.out.trans kV (by simp))) (fun hHeld => ?_)
       clear hK K;(try simp only [Act.put, lz]);refine wpAnyH_done (by kernel_rfl) ⟨rfl, ?_⟩ _
       clear hHeld;go_wp2_with fail;go_meet;exact ⟨q12, rfl, hfin⟩
      ·obtain ⟨B1, eB1, bb, kB, zB⟩ := addE wd nulV
       obtain ⟨q12, eq12⟩ : ∃ q, wd.heap.size = q := ⟨_, rfl⟩
       rw [eq12] at bb zB;have KB := hid (KD.out.trans kB (by simp))
       have BB := hid bb
       go_simp;(try go_wp2_with fail);refine hK.out _ _ (hS1.out _ KB.out) (fun hHeld => ?_)
       clear hK K;(try simp only [Act.put, lz]);refine rdH 6 (by kernel_rfl) rfl fun K hK => ?_
       go_simp;refine (cX1.out B1 KB.out).mono ?_;rintro e we ⟨rfl, ke⟩;have KE := hid (KB.out.trans ke (by simp))
       (try go_wp2_with fail);refine hK.out _ _ (hS1.out we KE.out) (fun hHeld => ?_)
       clear hK K;(try simp only [Act.put, lz]);have hq12 : wo.heap.size ≤ q12 := by have := KD.out.size; omega
       obtain ⟨V2, eV2, bv2, kV, _⟩ := putV4 (BB.out.kept ke) hq12 KE.out ⟨uk, ub, un, ut⟩;have bz := BB.out.kept ke
       have u0 := bz.get 0 _ rfl; have u1 := bz.get 1 _ rfl; have u2 := bz.get 2 _ rfl; have u3 := bz.get 3 _ rfl
       have g0 := bz.free 0; have g1 := bz.free 1; have g2 := bz.free 2; have g3 := bz.free 3
       try dsimp only at eV2
       have hfin : Hid (Bn V2 q12 [.int .i64 uk, .bool ub, .int .i64 un, .string ut] ∧ Kp [] wo V2 ∧ wo.heap.size ≤ q12) := hid ⟨bv2, kV, hq12⟩
       clear bz bv2;refine rdH 8 (by kernel_rfl) rfl fun K hK => ?_
       go_simp;(try go_wp2_with fail);refine hK.out _ _ (hS1.out _ kV) (fun hHeld => ?_)
       clear hK K;(try simp only [Act.put, lz]);refine wpAnyH_done (by kernel_rfl) ⟨rfl, ?_⟩ _
       clear hHeld;go_wp2_with fail;go_meet;exact ⟨q12, rfl, hfin⟩
     case rest =>
      obtain ⟨q12, rfl, hA12⟩ := hcut;obtain ⟨wu, hwu⟩ : ∃ x, x = wc := ⟨wc, rfl⟩
      subst hwu;have KU := hid (Hk.out.2.trans hA12.out.2.1 (by simp))
      have hS2 : Hid (∀ W', Kp [] wu W' → (fun W' => W'.cell? ⟨g2, o2 + k, none⟩ = some (.slice ya yl.length yc) ∧ W'.cell? ⟨qq, 4, none⟩ = some (.int .i64 ro)) W') := hid (fun W' q => ⟨(HC.out W' (KU.out.trans q (by simp))).2, (BQ.out W' (KU.out.trans q (by simp))).2⟩)
      have cX2 : Hid (∀ W', Kp [] wu W' → Calls Tryz.prog 93 #[.slice ya yl.length yc, .int .i64 ro] W' fun e w' => e = .returned (.agg #[.int .i64 vk, .bool vb, .int .i64 vn, .string vt]) ∧ Kp [] W' w') := hid (fun W' q => cAy.out W' (KU.out.trans q (by simp)))
      go_upto_region 9 with fail
      go_cut [12] from 32 to 39 (fun v7 wx => ∃ q13, v7 = .pointer (some ⟨q13, 0, none⟩) ∧ Hid (Bn wx q13 [.int .i64 vk, .bool vb, .int .i64 vn, .string vt] ∧ Kp [] wu wx ∧ wu.heap.size ≤ q13))
      case first =>
       refine wp_noPanicY ?_;refine wp_region_held_drew (S := fun W' => W'.cell? ⟨g2, o2 + k, none⟩ = some (.slice ya yl.length yc) ∧ W'.cell? ⟨qq, 4, none⟩ = some (.int .i64 ro)) (by kernel_rfl) (hS2.out _ (Kp.refl _ _).drew) (fun hHeld => ?_)
       have KD : Hid (Kp [] wu wu.drew) := hid (Kp.refl _ _).drew
       generalize wu.drew = wd at *
       refine tkH ?_ 0 rfl (by kernel_rfl) (fun _ _ _ h => by cases h.1) (by rfl) ?_ ‹_› ?_;rotate_left
       ·intro w h; (try dsimp only at h); go_simp <;> with_reducible rfl
       (try simp only [Act.put, lz]);refine tkH ?_ 1 rfl (by kernel_rfl) (fun _ _ _ h => by cases h.1) (by rfl) ?_ ‹_› ?_;rotate_left
       ·intro w h; (try dsimp only at h); go_simp <;> with_reducible rfl
       (try simp only [Act.put, lz]);refine tkH ?_ 2 rfl (by kernel_rfl) (fun _ _ _ h => by cases h.1) (by rfl) ?_ ‹_› ?_;rotate_left
       ·intro w h; (try dsimp only at h); go_simp <;> with_reducible rfl
       (try simp only [Act.put, lz]);refine tkH ?_ 3 rfl (by kernel_rfl) (fun _ _ _ h => by cases h.1) (by rfl) ?_ ‹_› ?_;rotate_left
       ·intro w h; (try dsimp only at h); go_simp <;> with_reducible rfl
       (try simp only [Act.put, lz]);refine tkH ?_ 4 rfl (by kernel_rfl) (fun _ _ _ h => by cases h.1) (by rfl) ?_ ‹_› ?_;rotate_left
       ·intro w h; (try dsimp only at h); go_simp <;> with_reducible rfl
       (try simp only [Act.put, lz]);refine tkH ?_ 5 rfl (by kernel_rfl) (fun _ _ _ h => by cases h.1) (by rfl) ?_ ‹_› ?_;rotate_left
       ·intro w h; (try dsimp only at h); go_simp <;> with_reducible rfl
       (try simp only [Act.put, lz]);refine wpAnyH_ready (rs := [6, 7]) (by kernel_rfl) (by simp) ?_
       refine AllReadyH.cons rfl (fun K hK => ?_) (AllReadyH.cons rfl (fun K hK => ?_) AllReadyH.nil)
       ·go_simp
        refine (cX2.out wd KD.out).mono ?_;rintro e we ⟨rfl, ke⟩;have KE := hid (KD.out.trans ke (by simp))
        obtain ⟨q13, V1, V2, eq13, eV1, bv1, eV2, bv2, kV, zV⟩ := boxV4Y we ⟨vk, vb, vn, vt⟩;have u0 := bv1.get 0 _ rfl; have u1 := bv1.get 1 _ rfl; have u2 := bv1.get 2 _ rfl; have u3 := bv1.get 3 _ rfl
        have g0 := bv1.free 0; have g1 := bv1.free 1; have g2 := bv1.free 2; have g3 := bv1.free 3
        try dsimp only at eV2
        have kAl : Kp [] we V1 := by rw [← eV1]; exact (Kp.refl _ _).alloc _
        have hfin : Hid (Bn V2 q13 [.int .i64 vk, .bool vb, .int .i64 vn, .string vt] ∧ Kp [] wu V2 ∧ wu.heap.size ≤ q13) := hid ⟨bv2, KE.out.trans kV (by simp), by have := KE.out.size; omega⟩
        (try go_wp2_with fail);refine hK.out _ _ (hS2.out we KE.out) (fun hHeld => ?_)
        clear hK K;(try simp only [Act.put, lz]);refine rdH 7 (by kernel_rfl) rfl fun K hK => ?_
        go_simp;(try go_wp2_with fail);refine hK.out _ _ (hS2.out _ (KE.out.trans kAl (by simp))) (fun hHeld => ?_)
        clear hK K;(try simp only [Act.put, lz]);refine rdH 8 (by kernel_rfl) rfl fun K hK => ?_
        go_simp;(try go_wp2_with fail);refine hK.out _ _ (hS2.out _ (KE.out.trans kV (by simp))) (fun hHeld => ?_)
        clear hK K;(try simp only [Act.put, lz]);refine wpAnyH_done (by kernel_rfl) ⟨rfl, ?_⟩ _
        clear hHeld;go_wp2_with fail;go_meet;exact ⟨q13, rfl, hfin⟩
       ·obtain ⟨B1, eB1, bb, kB, zB⟩ := addE wd nulV
        obtain ⟨q13, eq13⟩ : ∃ q, wd.heap.size = q := ⟨_, rfl⟩
        rw [eq13] at bb zB;have KB := hid (KD.out.trans kB (by simp))
        have BB := hid bb
        go_simp;(try go_wp2_with fail);refine hK.out _ _ (hS2.out _ KB.out) (fun hHeld => ?_)
        clear hK K;(try simp only [Act.put, lz]);refine rdH 6 (by kernel_rfl) rfl fun K hK => ?_
        go_simp;refine (cX2.out B1 KB.out).mono ?_;rintro e we ⟨rfl, ke⟩;have KE := hid (KB.out.trans ke (by simp))
        (try go_wp2_with fail);refine hK.out _ _ (hS2.out we KE.out) (fun hHeld => ?_)
        clear hK K;(try simp only [Act.put, lz]);have hq13 : wu.heap.size ≤ q13 := by have := KD.out.size; omega
        obtain ⟨V2, eV2, bv2, kV, _⟩ := putV4 (BB.out.kept ke) hq13 KE.out ⟨vk, vb, vn, vt⟩;have bz := BB.out.kept ke
        have u0 := bz.get 0 _ rfl; have u1 := bz.get 1 _ rfl; have u2 := bz.get 2 _ rfl; have u3 := bz.get 3 _ rfl
        have g0 := bz.free 0; have g1 := bz.free 1; have g2 := bz.free 2; have g3 := bz.free 3
        try dsimp only at eV2
        have hfin : Hid (Bn V2 q13 [.int .i64 vk, .bool vb, .int .i64 vn, .string vt] ∧ Kp [] wu V2 ∧ wu.heap.size ≤ q13) := hid ⟨bv2, kV, hq13⟩
        clear bz bv2;refine rdH 8 (by kernel_rfl) rfl fun K hK => ?_
        go_simp;(try go_wp2_with fail);refine hK.out _ _ (hS2.out _ kV) (fun hHeld => ?_)
        clear hK K;(try simp only [Act.put, lz]);refine wpAnyH_done (by kernel_rfl) ⟨rfl, ?_⟩ _
        clear hHeld;go_wp2_with fail;go_meet;exact ⟨q13, rfl, hfin⟩
      case rest =>
       obtain ⟨q13, rfl, hA13⟩ := hcut;obtain ⟨W4, hW4⟩ : ∃ x, x = wc := ⟨wc, rfl⟩
       subst hW4;have KW4 := hid (KU.out.trans hA13.out.2.1 (by simp))
       have HL4 := hid (Hk.out.1.ck (CK.ofKp (hA12.out.2.1.trans hA13.out.2.1 (by simp))) (by simp) (by simp))
       have bx4 := hA12.out.1.kept hA13.out.2.1
       have p0 := bx4.get 0 _ rfl; have p1 := bx4.get 1 _ rfl; have p2 := bx4.get 2 _ rfl; have p3 := bx4.get 3 _ rfl
       have by4 := hA13.out.1
       have r0 := by4.get 0 _ rfl; have r1 := by4.get 1 _ rfl; have r2 := by4.get 2 _ rfl; have r3 := by4.get 3 _ rfl
       clear bx4 by4 hA12 hA13 hS1 hS2 cX1 cX2
       by_cases hp1 : uk = 0
       ·have d1 : (uk != 0) = false := by simp [hp1]
        have hm5 : Hid (m2.map (·.l) = refJ ((L.take j).map (·.l)) (M.map (·.l)) lo ro ++ (((M.take (k + 1)).map (·.l)).filter (prJ lo ro xl)).map (xl ++ ·) ∧ m2.length ≤ 65536) := ⟨by rw [hfs.out, hpr.out, d1]; simpa using hm2.out.1, by have := hm2.out.2; omega⟩
        have HF : Hid (Lot w.heap.size rb rd m2 W4 ∧ Kp [] w W4) := ⟨HL4.out, KW4.out⟩
        clear d1;subst hp1;go_wp2_with fail;go_roundw
        case rel => exact ⟨k + 1, rb, rd, m2, by omega, by go_num, rfl, hm5, HF⟩
        case measure => simp [intOf]; omega
       by_cases hp2 : vk = 0
       ·have d1 : (uk != 0) = true := by simpa using hp1
        have d2 : (vk != 0) = false := by simp [hp2]
        have hm5 : Hid (m2.map (·.l) = refJ ((L.take j).map (·.l)) (M.map (·.l)) lo ro ++ (((M.take (k + 1)).map (·.l)).filter (prJ lo ro xl)).map (xl ++ ·) ∧ m2.length ≤ 65536) := ⟨by rw [hfs.out, hpr.out, d1, d2]; simpa using hm2.out.1, by have := hm2.out.2; omega⟩
        have HF : Hid (Lot w.heap.size rb rd m2 W4 ∧ Kp [] w W4) := ⟨HL4.out, KW4.out⟩
        have e1 : (uk == 0) = false := by simpa using hp1
        clear d1 d2 hp1;subst hp2;go_wp2_with fail;go_roundw
        case rel => exact ⟨k + 1, rb, rd, m2, by omega, by go_num, rfl, hm5, HF⟩
        case measure => simp [intOf]; omega
       have d1 : (uk != 0) = true := by simpa using hp1
       have d2 : (vk != 0) = true := by simpa using hp2
       rw [d1, d2] at hpr;obtain ⟨C, hCe⟩ : ∃ C, Hid (cmpV ⟨uk, ub, un, ut⟩ ⟨vk, vb, vn, vt⟩ = C) := ⟨_, rfl⟩
       rw [hCe.out] at hpr;simp only [hCe.out] at cCm;have e1 : (uk == 0) = false := by simpa using hp1
       have e2 : (vk == 0) = false := by simpa using hp2
       clear hp1 hp2 d1 d2;go_wp2_with fail;refine (cCm.out W4).mono ?_;rintro e wc ⟨rfl, kc⟩;have KC := hid (KW4.out.trans kc (by simp))
       have HLc := hid (HL4.out.ck (CK.ofKp kc) (by simp) (by simp))
       clear kc HL4 p0 p1 p2 p3 r0 r1 r2 r3
       by_cases hC0 : C = 0
       ·have d3 : (C == 0) = true := by simpa using hC0
        have hpt : Hid (prJ lo ro xl yl = true) := by show _ = _; rw [hpr.out, d3]; rfl
        clear d3;subst hC0
        have htot : Hid (m2.length + 1 ≤ (refJ (L.map (·.l)) (M.map (·.l)) lo ro).length) := hid (by
         have h1 := hpre.out (k + 1)
         rw [hfs.out, hpt.out, if_pos rfl] at h1;have h2 := congrArg List.length hm2.out.1
         simp only [List.length_append, List.length_map, List.length_cons, List.length_nil] at h1 h2;omega)
        by_cases hfull : 65536 ≤ m2.length
        ·have d4 : decide ((m2.length : Int) ≥ 65536) = true := by simp; omega
         go_wp2_with fail;go_returns;exact ⟨KW.out.trans KC.out (by simp), .inl ⟨by have := htot.out; omega, rfl⟩⟩
        have d4 : decide ((m2.length : Int) ≥ 65536) = false := by simp; omega
        have hm64 : m2.length < 65536 := by omega
        clear hfull;go_wp2_with fail;clear d4;refine wp_noPanicY ?_;refine wp_region_held_drew (S := fun W' => W'.cell? ⟨g, o + j, none⟩ = some (.slice xa xl.length xc) ∧ W'.cell? ⟨g2, o2 + k, none⟩ = some (.slice ya yl.length yc)) (by kernel_rfl) (HC.out _ KC.out.drew) (fun hHeld => ?_)
        have KD : Hid (Kp [] wc wc.drew) := hid (Kp.refl _ _).drew
        generalize wc.drew = we at *
        have KE := hid (KC.out.trans KD.out (by simp))
        have cJ := hid (rJoined xa ya xc yc xl yl we (hxli.out.see.kept KE.out) (hyli.out.see.kept KE.out) (by omega))
        obtain ⟨zl, hzl⟩ : ∃ z, Hid (xl ++ yl = z) := ⟨_, rfl⟩
        rw [hzl.out] at cJ;refine tkH ?_ 0 rfl (by kernel_rfl) (fun _ _ _ h => by cases h.1) (by rfl) ?_ ‹_› ?_;rotate_left
        ·intro w h; (try dsimp only at h); go_simp <;> with_reducible rfl
        (try simp only [Act.put, lz]);refine tkH ?_ 1 rfl (by kernel_rfl) (fun _ _ _ h => by cases h.1) (by rfl) ?_ ‹_› ?_;rotate_left
        ·intro w h; (try dsimp only at h); go_simp <;> with_reducible rfl
        (try simp only [Act.put, lz]);refine tkH ?_ 2 rfl (by kernel_rfl) (fun _ _ _ h => by cases h.1) (by rfl) ?_ ‹_› ?_;rotate_left
        ·intro w h; (try dsimp only at h); go_simp <;> with_reducible rfl
        (try simp only [Act.put, lz]);refine tkH ?_ 3 rfl (by kernel_rfl) (fun _ _ _ h => by cases h.1) (by rfl) ?_ ‹_› ?_;rotate_left
        ·intro w h; (try dsimp only at h); go_simp <;> with_reducible rfl
        (try simp only [Act.put, lz]);refine tkH ?_ 4 rfl (by kernel_rfl) (fun _ _ _ h => by cases h.1) (by rfl) ?_ ‹_› ?_;rotate_left
        ·intro w h; (try dsimp only at h); go_simp <;> with_reducible rfl
        (try simp only [Act.put, lz]);refine tkH ?_ 5 rfl (by kernel_rfl) (fun _ _ _ h => by cases h.1) (by rfl) ?_ ‹_› ?_;rotate_left
        ·intro w h; (try dsimp only at h); go_simp <;> with_reducible rfl
        (try simp only [Act.put, lz]);refine tkH ?_ 6 rfl (by kernel_rfl) (fun _ _ _ h => by cases h.1) (by rfl) ?_ ‹_› ?_;rotate_left
        ·intro w h; (try dsimp only at h); go_simp <;> with_reducible rfl
        (try simp only [Act.put, lz]);refine tkH ?_ 7 rfl (by kernel_rfl) (fun _ _ _ h => by cases h.1) (by rfl) ?_ ‹_› ?_;rotate_left
        ·intro w h; (try dsimp only at h); go_simp <;> with_reducible rfl
        (try simp only [Act.put, lz]);refine tkH ?_ 8 rfl (by kernel_rfl) (fun _ _ _ h => by cases h.1) (by rfl) ?_ ‹_› ?_;rotate_left
        ·intro w h; (try dsimp only at h); go_simp <;> with_reducible rfl
        (try simp only [Act.put, lz]);refine rdH 9 (by kernel_rfl) rfl fun K hK => ?_
        go_simp;refine cJ.out.mono ?_;rintro e wz ⟨za, zc, rfl, hzr, kz, hzb⟩;(try go_wp2_with fail);refine hK.out _ _ (HC.out _ (KE.out.trans kz (by simp))) (fun hHeld => ?_)
        clear hK K;(try simp only [Act.put, lz]);have KZ := hid (KE.out.trans kz (by simp))
        have hlz : Lot w.heap.size rb rd m2 wz := HLc.out.ck (CK.ofKp (KD.out.trans kz (by simp))) (by simp) (by simp)
        have hsz := KE.out.size
        obtain ⟨a4, c4, W6, hrun, hl4, k4, hn4⟩ := hlz.app ⟨za, zc, zl⟩ (rowLies hzr) KZ.out.size (fun k hk => ⟨by have := hzb k hk; omega, hzr.lt k (by rw [ownV]; exact hk), fun hm' => by have := hzb k hk; have := HLc.out.lt k hm'; have := KD.out.size; omega⟩) (by have := hm2.out.2; omega)
        obtain ⟨m4, hm4⟩ : ∃ m4, Hid (m2 ++ [(⟨za, zc, zl⟩ : Vs)] = m4) := ⟨_, rfl⟩
        rw [hm4.out] at hrun hl4;dsimp only at hrun;have KW6 : Kp [] w W6 := KZ.out.trans k4 (fun x hx => .inr (HLc.out.own x hx))
        have HF : Hid (Lot w.heap.size a4 c4 m4 W6 ∧ Kp [] w W6) := ⟨hl4, KW6⟩
        have hm5 : Hid (m4.map (·.l) = refJ ((L.take j).map (·.l)) (M.map (·.l)) lo ro ++ (((M.take (k + 1)).map (·.l)).filter (prJ lo ro xl)).map (xl ++ ·) ∧ m4.length ≤ 65536) := ⟨by
         rw [hfs.out, hpt.out, if_pos rfl, ← hm4.out, List.map_append, hm2.out.1, List.map_append, ← List.append_assoc, ← hzl.out];rfl, by rw [← hm4.out, List.length_append]; simp; omega⟩
        have sA := HC.out _ (KZ.out.alloc (.cells #[.slice za zl.length zc] 61))
        have s4 := HC.out _ KW6
        clear hlz hl4 k4 hn4 kz hzr hzb hsz KW6;refine rdH 10 (by kernel_rfl) rfl fun K hK => ?_
        go_simp;(try go_wp2_with fail);refine hK.out _ _ (sA) (fun hHeld => ?_)
        clear hK K;(try simp only [Act.put, lz]);refine rdH 11 (by kernel_rfl) rfl fun K hK => ?_
        refine stepAppRun rfl _ _ 60 60 rfl _ _ _ rfl rfl hrun ?_;refine hK.out _ _ s4 (fun hHeld => ?_)
        clear hK K;(try simp only [Act.put, lz]);refine tkH ?_ 12 rfl (by kernel_rfl) (fun _ _ _ h => by cases h.1) (by rfl) ?_ ‹_› ?_;rotate_left
        ·intro w h; (try dsimp only at h); go_simp <;> with_reducible rfl
        (try simp only [Act.put, lz]);refine wpAnyH_done (by kernel_rfl) ⟨rfl, ?_⟩ _
        clear hHeld sA s4 hrun;go_wp2_with fail;go_roundw
        case rel => exact ⟨k + 1, a4, c4, m4, by omega, by go_num, rfl, hm5, HF⟩
        case measure => simp [intOf]; omega
       ·have d3 : (C == 0) = false := beq_eq_false_iff_ne.2 hC0
        have hm5 : Hid (m2.map (·.l) = refJ ((L.take j).map (·.l)) (M.map (·.l)) lo ro ++ (((M.take (k + 1)).map (·.l)).filter (prJ lo ro xl)).map (xl ++ ·) ∧ m2.length ≤ 65536) := ⟨by rw [hfs.out, hpr.out, d3]; simpa using hm2.out.1, by have := hm2.out.2; omega⟩
        have HF : Hid (Lot w.heap.size rb rd m2 wc ∧ Kp [] w wc) := ⟨HLc.out, KC.out⟩
        have d5 : (C != 0) = true := by simpa using hC0
        clear hC0 d3;go_wp2_with fail;go_roundw
        case rel => exact ⟨k + 1, rb, rd, m2, by omega, by go_num, rfl, hm5, HF⟩
        case measure => simp [intOf]; omega
    ·have hke : k = M.length := by omega
     have hm5 : Hid (m2.map (·.l) = refJ ((L.take (j + 1)).map (·.l)) (M.map (·.l)) lo ro ∧ m2.length ≤ 65536) := ⟨by
      have h1 := hm2.out.1
      rw [hke, List.take_length] at h1;rw [hsn.out, h1], by have := hm2.out.2; omega⟩
     have dj1 : ¬ (k : Int) < (M.length : Int) := by omega
     have dj2 : decide ((k : Int) < (M.length : Int)) = false := by simp; omega
     clear hke;go_wp2_with fail;go_roundw
     case rel => exact ⟨j + 1, rb, rd, m2, by omega, by go_num, rfl, hm5, Hk⟩
     case measure => simp [intOf]; omega
  ·have hmm : m.map (·.l) = refJ (L.map (·.l)) (M.map (·.l)) lo ro := by rw [hme.out.1, show j = L.length by omega, List.take_length]
   have dj1 : ¬ (j : Int) < (L.length : Int) := by omega
   have dj2 : decide ((j : Int) < (L.length : Int)) = false := by simp; omega
   have hmm' := hid hmm
   clear hmm;go_wp2_with fail;go_returns;exact ⟨KW.out.trans H.out.2 (by simp), .inr ⟨by rw [← hmm'.out, List.length_map]; exact hme.out.2, ra, rc, m, rfl, H.out.1.mono KW.out.size, hmm'.out⟩⟩
theorem appVs1 {ra : Option Addr} {rc : Nat} {L : List Vs} {w : World} (h : VsE.Row w (.slice ra L.length rc) L) (x : Vs) (hl : L.length ≤ 4000000000000) :
  ∃ a' c' W', (Builtin.append_ #[60, 60] 60 #[.slice ra L.length rc, .slice (some ⟨w.heap.size, 0, none⟩) 1 1]).run Tryz.prog (w.alloc (.cells #[.slice x.a x.l.length x.c] 61)) = .ok (.slice a' (L ++ [x]).length c') W' ∧ VsE.Row W' (.slice a' (L ++ [x]).length c') (L ++ [x]) ∧ Kp (blk ra) w W' ∧ ∀ k ∈ blk a', k ∈ blk ra ∨ w.heap.size ≤ k := by
 obtain ⟨A1, hA1⟩ : ∃ A1, w.alloc (.cells #[.slice x.a x.l.length x.c] 61) = A1 := ⟨_, rfl⟩
 have kA1 : Kp [] w A1 := by rw [← hA1]; exact (Kp.refl _ _).alloc _
 have bx1 : Bn A1 w.heap.size (VsE.c x) := by rw [← hA1]; exact Bn.new w (VsE.c x) _
 have hs1 : VsE.See A1 (some ⟨w.heap.size, 0, none⟩) [x] := .inr ⟨w.heap.size, 0, rfl, fun j u hu => by rw [Nat.zero_add]; exact bx1.get j u (by simpa [El.cs] using hu)⟩
 obtain ⟨i0, hi, hz0', hz1', hz2'⟩ := infoVs;have hsr := hs1.src (P := Tryz.prog) Tryz.underlying60 1
 obtain ⟨v', A2, hrun, hrow2, k2, hn2⟩ := run_appendG (E := VsE) (P := Tryz.prog) A1 60 60 60 61 i0 _ 24 Tryz.underlying60 hi hz0' hz1' hz2' rfl (.slice ra L.length rc) L (h.keptNew kA1) _ [x] hsr (by simp only [List.length_cons, List.length_nil]; omega) (by simp only [List.length_cons, List.length_nil]; omega)
 obtain ⟨a', c', rfl, _⟩ := hrow2.see;simp only [ownV] at k2 hn2;rw [hA1];have z1 := kA1.size
 exact ⟨a', c', A2, hrun, hrow2, (kA1.mono (by simp)).trans k2 (fun j hj => .inl hj), fun k hk => by
  rcases hn2 k hk with e | e
  ·exact .inl e
  ·exact .inr (by omega)⟩
def RefP (L : List Vs) (w : World) (e : Ending) (w' : World) : Prop := ∃ a c, e = .returned (.slice a L.length c) ∧ VsE.Row w' (.slice a L.length c) L ∧ Kp [] w w' ∧ ∀ k ∈ blk a, w.heap.size ≤ k
theorem filter_snoc {α : Type} (p : α → Bool) (L : List α) (j : Nat) (hj : j < L.length) : (L.take (j + 1)).filter p = (L.take j).filter p ++ (if p L[j] then [L[j]] else []) := by
 rw [List.take_succ_eq_append_getElem hj, List.filter_append]
 by_cases h : p L[j] <;> simp [h]
theorem rFilter (a : Option Addr) (c : Nat) (L : List Vs) (ta : Option Addr) (tc : Nat) (ts : List Tm) (w : World) (hs : VsE.See w a L) (hx : ∀ x ∈ L, x.lies w) (ht : TmE.See w ta ts) (hl : L.length ≤ 4000000000000) (htl : ts.length ≤ 3000000000000) (hr : ∀ x ∈ L, x.l.length ≤ 1800000000000) :
  Calls Tryz.prog 62 #[.slice a L.length c, .slice ta ts.length tc] w (RefP (L.filter fun x => allT ts x.l) w) := by
 have HS := hid hs
 have HX := hid hx
 have HT := hid ht
 have HR := hid hr
 obtain ⟨pf, hpf⟩ : ∃ p, Hid ((fun x : Vs => allT ts x.l) = p) := ⟨_, rfl⟩
 rw [hpf.out];have H0 : Hid (VsE.Row w (.slice none 0 0) [] ∧ Kp [] w w ∧ ∀ k ∈ blk none, w.heap.size ≤ k) := ⟨.inl ⟨rfl, rfl⟩, Kp.refl _ _, by simp [blk]⟩
 clear hs hx ht hr;go_enter Tryz.func62, Tryz.ntmps62
 go_wp2_with fail;go_loopw [5, 6] (fun v5 i wr => ∃ (j : Nat) (ra : Option Addr) (rc : Nat) (m : List Vs), j ≤ L.length ∧ i = .int .i64 (j : Int) ∧ v5 = .slice ra m.length rc ∧ Hid (m = (L.take j).filter pf) ∧ Hid (VsE.Row wr (.slice ra m.length rc) m ∧ Kp [] w wr ∧ ∀ k ∈ blk ra, w.heap.size ≤ k)) (fun _ i _ => L.length - (intOf i).toNat)
 case atStart => exact ⟨0, none, 0, [], Nat.zero_le _, rfl, rfl, rfl, H0⟩
 case round =>
  obtain ⟨j, ra, rc, m, hj, rfl, rfl, hm, H⟩ := hrel;clear H0
  by_cases hlt : j < L.length
  ·have hxj : L[j]? = some L[j] := by simp [hlt]
   obtain ⟨g, o, ea, c0⟩ := vsAt HS.out hxj;have cg := kpAt H.out.2.1 c0
   have hli := (HX.out L[j] (List.getElem_mem hlt)).ck (CK.ofKp H.out.2.1) (by simp)
   have hln := HR.out L[j] (List.getElem_mem hlt)
   have hsn := hid (filter_snoc pf L j hlt)
   have hpx : Hid (pf L[j] = allT ts L[j].l) := by show _ = _; rw [← hpf.out]
   obtain ⟨x, hx⟩ : ∃ x, Hid (L[j] = x) := ⟨L[j], rfl⟩
   rw [hx.out] at cg hli hln hsn hpx;obtain ⟨xa, xc, xl⟩ := x;dsimp only at cg hln hpx;have hml : m.length ≤ 4000000000000 := by rw [hm.out]; have := List.length_filter_le pf (L.take j); simp at this; omega
   have cA := hid (rAll ta xa tc xc ts xl wr (ckSee (CK.ofKp H.out.2.1) HT.out (by simp)) (seeV.2 hli.see) (by omega) (by omega))
   have hli' := hid hli
   have i1 : (0 : Int) ≤ (j : Int) := by omega
   have i2 : (j : Int) < (L.length : Int) := by omega
   have i3 : (j : Int) + 1 ≤ 9223372036854775807 := by omega
   obtain ⟨B, hB⟩ : ∃ B, Hid (allT ts xl = B) := ⟨_, rfl⟩
   rw [hB.out] at cA hpx;subst ea;clear c0 hli hxj;go_wp2_with fail;refine cA.out.mono ?_;rintro e wd ⟨rfl, kd⟩;have KD := hid (H.out.2.1.trans kd (by simp))
   have cgd := kpAt kd cg
   have hrd := hid (H.out.1.keptNew kd)
   clear cA kd cg
   cases B with
   | true =>
    obtain ⟨a4, c4, W4, hrun, hr4, k4, hn4⟩ := appVs1 hrd.out ⟨xa, xc, xl⟩ hml;obtain ⟨m4, hm4⟩ : ∃ m4, Hid (m ++ [(⟨xa, xc, xl⟩ : Vs)] = m4) := ⟨_, rfl⟩
    rw [hm4.out] at hrun hr4;dsimp only at hrun
    have HF : Hid (VsE.Row W4 (.slice a4 m4.length c4) m4 ∧ Kp [] w W4 ∧ ∀ k ∈ blk a4, w.heap.size ≤ k) := ⟨hr4, KD.out.trans k4 (fun x hx => .inr (H.out.2.2 x hx)), fun k hk => by
     rcases hn4 k hk with e | e
     ·exact H.out.2.2 k e
     ·have := KD.out.size; omega⟩
    have hm5 : Hid (m4 = (L.take (j + 1)).filter pf) := by show _ = _; rw [hsn.out, hpx.out, ← hm4.out, hm.out]; rfl
    clear hr4 k4 hn4;go_wp2_with (first | (refine wpAppRunY rfl _ _ 60 60 rfl _ _ _ rfl rfl hrun ?_) | fail)
    go_roundw
    case rel => exact ⟨j + 1, a4, c4, m4, by omega, by go_num, rfl, hm5, HF⟩
    case measure => simp [intOf]; omega
   | false =>
    have hm5 : Hid (m = (L.take (j + 1)).filter pf) := by show _ = _; rw [hsn.out, hpx.out, ← hm.out]; simp
    have HF : Hid (VsE.Row wd (.slice ra m.length rc) m ∧ Kp [] w wd ∧ ∀ k ∈ blk ra, w.heap.size ≤ k) := ⟨hrd.out, KD.out, H.out.2.2⟩
    go_wp2_with fail;go_roundw
    case rel => exact ⟨j + 1, ra, rc, m, by omega, by go_num, rfl, hm5, HF⟩
    case measure => simp [intOf]; omega
  ·have hmm : m = L.filter pf := by rw [hm.out, show j = L.length by omega, List.take_length]
   have dj1 : ¬ (j : Int) < (L.length : Int) := by omega
   have dj2 : decide ((j : Int) < (L.length : Int)) = false := by simp; omega
   have hmm' := hid hmm
   clear hmm;go_wp2_with fail;go_ret;rw [← hmm'.out];exact ⟨ra, rc, rfl, H.out.1, H.out.2.1, H.out.2.2⟩
theorem rProject (a : Option Addr) (c : Nat) (L : List Vs) (pa : Option Addr) (pc : Nat) (ps : List Int) (w : World) (hs : VsE.See w a L) (hx : ∀ x ∈ L, x.lies w) (hp : IntE.See w pa ps) (hl : L.length ≤ 4000000000000) (hpl : ps.length ≤ 3000000000000) (hr : ∀ x ∈ L, x.l.length ≤ 1800000000000) :
  Calls Tryz.prog 64 #[.slice a L.length c, .slice pa ps.length pc] w (LotP ((L.map (·.l)).map fun l => pickV l ps) w) := by
 have HS := hid hs
 have HX := hid hx
 have HP := hid hp
 have HR := hid hr
 obtain ⟨pf, hpf⟩ : ∃ p, Hid ((fun x : Vs => pickV x.l ps) = p) := ⟨_, rfl⟩
 have hpe : (L.map (·.l)).map (fun l => pickV l ps) = L.map pf := by rw [List.map_map, ← hpf.out]; rfl
 rw [hpe];have H0 : Hid (Lot w.heap.size none 0 [] w ∧ Kp [] w w) := ⟨Lot.nil _ _, Kp.refl _ _⟩
 clear hs hx hp hr hpe;go_enter Tryz.func64, Tryz.ntmps64
 go_wp2_with fail;go_loopw [5, 6] (fun v5 i wr => ∃ (j : Nat) (ra : Option Addr) (rc : Nat) (m : List Vs), j ≤ L.length ∧ i = .int .i64 (j : Int) ∧ v5 = .slice ra m.length rc ∧ Hid (m.map (·.l) = (L.take j).map pf) ∧ Hid (Lot w.heap.size ra rc m wr ∧ Kp [] w wr)) (fun _ i _ => L.length - (intOf i).toNat)
 case atStart => exact ⟨0, none, 0, [], Nat.zero_le _, rfl, rfl, rfl, H0⟩
 case round =>
  obtain ⟨j, ra, rc, m, hj, rfl, rfl, hm, H⟩ := hrel;clear H0
  by_cases hlt : j < L.length
  ·have hxj : L[j]? = some L[j] := by simp [hlt]
   obtain ⟨g, o, ea, c0⟩ := vsAt HS.out hxj;have cg := kpAt H.out.2 c0
   have hli := (HX.out L[j] (List.getElem_mem hlt)).ck (CK.ofKp H.out.2) (by simp)
   have hln := HR.out L[j] (List.getElem_mem hlt)
   have hsn : Hid ((L.take (j + 1)).map pf = (L.take j).map pf ++ [pf L[j]]) := by show _ = _; rw [List.take_succ_eq_append_getElem hlt, List.map_append]; rfl
   have hpx : Hid (pf L[j] = pickV L[j].l ps) := by show _ = _; rw [← hpf.out]
   obtain ⟨x, hx⟩ : ∃ x, Hid (L[j] = x) := ⟨L[j], rfl⟩
   rw [hx.out] at cg hli hln hsn hpx;obtain ⟨xa, xc, xl⟩ := x;dsimp only at cg hln hpx;have hml : m.length ≤ 4000000000000 := by have := congrArg List.length hm.out; simp at this; omega
   have cA := hid (rPick xa xc xl pa pc ps wr hli.see (by omega) (ckSee (CK.ofKp H.out.2) HP.out (by simp)) hpl)
   have i1 : (0 : Int) ≤ (j : Int) := by omega
   have i2 : (j : Int) < (L.length : Int) := by omega
   have i3 : (j : Int) + 1 ≤ 9223372036854775807 := by omega
   obtain ⟨B, hB⟩ : ∃ B, Hid (pickV xl ps = B) := ⟨_, rfl⟩
   rw [hB.out] at cA hpx;subst ea;clear c0 hli hxj;go_wp2_with fail;refine cA.out.mono ?_;rintro e wd ⟨ya, yc, rfl, hyr, kd, hyb⟩;have KD := hid (H.out.2.trans kd (by simp))
   have hzs := KD.out.size
   have hld := H.out.1.ck (CK.ofKp kd) (by simp) (by simp)
   obtain ⟨a4, c4, W4, hrun, hl4, k4, hn4⟩ := hld.app ⟨ya, yc, B⟩ (rowLies hyr) (by omega) (fun k hk => ⟨by have := hyb k hk; have := H.out.2.size; omega, hyr.lt k (by rw [ownV]; exact hk), fun hm' => by have := hyb k hk; have := H.out.1.lt k hm'; omega⟩) hml
   obtain ⟨m4, hm4⟩ : ∃ m4, Hid (m ++ [(⟨ya, yc, B⟩ : Vs)] = m4) := ⟨_, rfl⟩
   rw [hm4.out] at hrun hl4;dsimp only at hrun;have HF : Hid (Lot w.heap.size a4 c4 m4 W4 ∧ Kp [] w W4) := ⟨hl4, KD.out.trans k4 (fun x hx => .inr (H.out.1.own x hx))⟩
   have hm5 : Hid (m4.map (·.l) = (L.take (j + 1)).map pf) := by show _ = _; rw [hsn.out, hpx.out, ← hm4.out, List.map_append, hm.out]; rfl
   clear cA kd hyr hyb hld hl4 k4 hn4 hzs;go_wp2_with (first | (refine wpAppRunY rfl _ _ 60 60 rfl _ _ _ rfl rfl hrun ?_) | fail)
   go_roundw
   case rel => exact ⟨j + 1, a4, c4, m4, by omega, by go_num, rfl, hm5, HF⟩
   case measure => simp [intOf]; omega
  ·have hmm : m.map (·.l) = L.map pf := by rw [hm.out, show j = L.length by omega, List.take_length]
   have dj1 : ¬ (j : Int) < (L.length : Int) := by omega
   have dj2 : decide ((j : Int) < (L.length : Int)) = false := by simp; omega
   have hmm' := hid hmm
   clear hmm;go_wp2_with fail;go_ret;exact ⟨ra, rc, m, rfl, H.out.1, hmm'.out, H.out.2⟩
end Go.Proofs.YtcgkkofmnajedaaGreatDoor
end

section
namespace Go.Proofs.YtcgkkofmnajedaaGreatDoor
open Go.RowKit Go.Hay
def aggS (op col : Int) (out : Val) (l : List Val) : Val := if op = 1 then sumS col out l else if op = 2 then utmS col (-1) out l else if op = 3 then utmS col 1 out l else out
theorem fold_same {f g : Val → List Val → Val} (h : ∀ o l, f o l = g o l) (R : List (List Val)) (o : Val) : R.foldl f o = R.foldl g o := by
 have : f = g := by funext o l; exact h o l
 rw [this]
theorem fold_id (R : List (List Val)) (o : Val) : R.foldl (fun o _ => o) o = o := by
 induction R with
 | nil => rfl
 | cons l R ih => exact ih
theorem tell_fold (op col : Int) (h0 : op ≠ 0) (R : List (List Val)) : tellV R (op, col) = R.foldl (aggS op col) nulV := by
 unfold tellV
 simp only [h0, if_false]
 by_cases h1 : op = 1
 ·rw [if_pos h1]
  exact fold_same (fun o l => by unfold aggS; rw [if_pos h1]) R nulV
 rw [if_neg h1]
 by_cases h2 : op = 2
 ·rw [if_pos h2]
  exact fold_same (fun o l => by unfold aggS; rw [if_neg h1, if_pos h2]) R nulV
 rw [if_neg h2]
 by_cases h3 : op = 3
 ·rw [if_pos h3]
  exact fold_same (fun o l => by unfold aggS; rw [if_neg h1, if_neg h2, if_pos h3]) R nulV
 rw [if_neg h3];rw [fold_same (g := fun o _ => o) (fun o l => by unfold aggS; rw [if_neg h1, if_neg h2, if_neg h3]) R nulV, fold_id]
structure Bx3 (w : World) (q3 q4 q5 : Nat) (op col : Int) (v : Val) (W : World) : Prop where
 bx : Bx2 w q4 q5 v W
 ask : Bn W q3 [.int .i64 op, .int .i64 col]
 n4 : q3 ≠ q4
 n5 : q3 ≠ q5
theorem Bx3.kept {w : World} {q3 q4 q5 : Nat} {op col : Int} {v : Val} {W W' : World} (h : Bx3 w q3 q4 q5 op col v W) (k : Kp [] W W') : Bx3 w q3 q4 q5 op col v W' := ⟨h.bx.kept k, h.ask.kept k, h.n4, h.n5⟩
theorem Bx3.put {w : World} {q3 q4 q5 : Nat} {op col : Int} {v : Val} {W : World} (h : Bx3 w q3 q4 q5 op col v W) (x : Val) : ∃ W2, (((W.setCell ⟨q5, 0, none⟩ (.int .i64 x.k)).setCell ⟨q5, 1, none⟩ (.bool x.b)).setCell ⟨q5, 2, none⟩ (.int .i64 x.n)).setCell ⟨q5, 3, none⟩ (.string x.t) = W2 ∧ Bx3 w q3 q4 q5 op col x W2 ∧ Kp [q5] W W2 := by
 obtain ⟨W2, e, b, k, k2⟩ := putV4 h.bx.out h.bx.l5 h.bx.kp x;exact ⟨W2, e, ⟨⟨b, h.bx.res.keptS k2 (by simp [h.bx.ne]) (h.bx.res.lt (by simp)), k, h.bx.l4, h.bx.l5, h.bx.ne⟩, h.ask.keptS k2 (by simp [h.n5]) (h.ask.lt (by simp)), h.n4, h.n5⟩, k2⟩
end Go.Proofs.YtcgkkofmnajedaaGreatDoor
end

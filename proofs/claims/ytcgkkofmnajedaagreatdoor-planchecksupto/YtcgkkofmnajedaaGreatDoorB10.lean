/- What the proof stands on: contracts of functions that the statement calls, and plain lemmas. No statement of the seat is proved here. -/
import Derived.Test.YtcgkkofmnajedaaGreatDoorB9
import Derived.Test.YtcgkkofmnajedaaGreatDoorB8
import Derived.Test.YtcgkkofmnajedaaGreatDoorB4
import Derived.Test.YtcgkkofmnajedaaGreatDoorB5
import Derived.Test.YtcgkkofmnajedaaGreatDoorB3
import Derived.Test.YtcgkkofmnajedaaGreatDoorB2
import Derived.Test.YtcgkkofmnajedaaGreatDoorB1
set_option maxHeartbeats 64000000
set_option maxRecDepth 100000
set_option linter.unusedVariables false
set_option linter.unusedSimpArgs false
section
namespace Go.Proofs.YtcgkkofmnajedaaGreatDoor
open Go.RowKit Go.Hay
attribute [local go_sem] Oper.semAt_some
theorem arrIdG (L : List Mb) : arrG (fun i => L.getD i default) (fun k => k) L.length = L := by
 apply List.ext_getElem?
 intro k
 by_cases h : k < L.length
 ·rw [arr_atG _ _ _ _ h]
  simp [h]
 ·rw [List.getElem?_eq_none (by rw [arr_lenG]; omega), List.getElem?_eq_none (by omega)]
theorem getD_pr (L : List Mb) (bs : List Int) (R : List (List Val)) (h : L.map Mb.pr = mbR bs R) (x : Nat) (hx : x < R.length) : (L.getD x default).k.l = keyV bs R x ∧ (L.getD x default).r.l = R.getD x [] := by
 have h1 := congrArg (fun l => l[x]?) h
 have hl : L.length = R.length := by have := congrArg List.length h; simpa [mbR] using this
 simp only [mbR, List.getElem?_map, List.getElem?_eq_getElem hx, List.getElem?_eq_getElem (show x < L.length by omega), Option.map_some] at h1
 have h2 := Option.some.inj h1
 rw [List.getD_eq_getElem?_getD, List.getElem?_eq_getElem (show x < L.length by omega), Option.getD_some]
 unfold keyV
 rw [List.getD_eq_getElem?_getD, List.getElem?_eq_getElem hx, Option.getD_some];exact ⟨congrArg Prod.fst h2, congrArg Prod.snd h2⟩
theorem sortM (bs : List Int) (R : List (List Val)) (hRl : R.length ≤ 4000000000000) : ∀ (W : World) (N : Nat) (ra : Option Addr) (rc : Nat) (L : List Mb), Lom N ra rc L W → L.map Mb.pr = mbR bs R → Calls Tryz.prog 165 #[.slice ra L.length rc, .func (.func 166) #[] #[]] W (SortPM N ra rc L.length (srtM bs R) W) := fun W N ra rc L hl hm => by
 have hln : L.length = R.length := by have := congrArg List.length hm; simpa [mbR] using this
 have hLl : L.length ≤ 4000000000000 := by omega
 by_cases h0 : L.length = 0
 ·have hL : L = [] := List.length_eq_zero_iff.1 h0
  have hR : R = [] := List.length_eq_zero_iff.1 (by omega)
  refine (cSortSt1M ra L.length rc _ W (by omega)).mono fun e w' ⟨hv, e2⟩ => ⟨hv, L, rfl, by rw [e2]; exact hl, ?_, by rw [e2]; exact Kp.refl _ _⟩
  rw [hL, hR];rfl
 ·rcases hrow : hl.row with ⟨e, _⟩ | ⟨g, o, cap, e, h1, h2, h3, h4, h5⟩
  ·exact absurd (by have := (Value.slice.inj e).2.1; omega) h0
  ·obtain ⟨e1, _, e3⟩ := Value.slice.inj e
   subst e1 e3
   have hd : HdG W g o L.length rc (fun i => L.getD i default) (fun k => k) := by
    unfold HdG
    rw [arrIdG];exact hl.row
   have hmem : ∀ x, x < L.length → L.getD x default ∈ L := fun x hx => by
    rw [List.getD_eq_getElem?_getD, List.getElem?_eq_getElem hx];exact List.getElem_mem hx
   have hC : CmpOkG g L.length (fun i => L.getD i default) (.int .i64 0) (fun x y => rowsV (L.getD x default).k.l (L.getD y default).k.l) (fun W' => ∀ x ∈ L, Mb.lies W' x) := ⟨fun W' x y hI hx hy => cMembersC _ _ W' (hI _ (hmem x hx)) (hI _ (hmem y hy)) (by have h6 := (hI _ (hmem x hx)).k.cap; have h7 := (hI _ (hmem x hx)).k.most; unfold maxLen at h7; omega) (by have h6 := (hI _ (hmem y hy)).k.cap; have h7 := (hI _ (hmem y hy)).k.most; unfold maxLen at h7; omega), fun W1 W2 hI k => fun x hx => (hI x hx).ck (CK.ofKp k) (fun j hj hm' => (hl.rows x hx j hj).2.2 (by simpa [blk] using hm')), rowsSwo (fun x => (L.getD x default).k.l)⟩
   have h2' : L.length ≤ rc := h1
   refine (cSortStableG g o L.length rc _ _ _ _ hC hLl h2' W hd hl.lies).mono fun e w' ⟨hv, s, hp, hs, hd', k⟩ => ⟨hv, arrG (fun i => L.getD i default) s L.length, arr_lenG _ _ _, ?_, ?_, k⟩
   ·have hin : ∀ x ∈ arrG (fun i => L.getD i default) s L.length, x ∈ L := fun x hx => by
     unfold arrG at hx
     obtain ⟨i, hi, rfl⟩ := List.mem_map.1 hx;exact hmem _ (hp.1 i (Nat.zero_le _) (List.mem_range.1 hi)).2
    have ck := CK.ofKp k
    refine ⟨by rw [arr_lenG]; exact hd', fun x hx => (hl.lies x (hin x hx)).ck ck (fun j hj hm' => (hl.rows x (hin x hx) j hj).2.2 (by simpa [blk] using hm')), hl.own, fun x hx j hj => ?_⟩
    obtain ⟨r1, r2, r3⟩ := hl.rows x (hin x hx) j hj;exact ⟨r1, Nat.lt_of_lt_of_le r2 k.size, r3⟩
   ·have hs2 : Srt (ltK bs R) s 0 L.length := fun i j g1 g2 g3 => by
     have hi := (hp.1 i g1 (by omega)).2
     have hj := (hp.1 j (by omega) g3).2
     have h6 := hs i j g1 g2 g3
     have ki := (getD_pr L bs R hm (s i) (by omega)).1
     have kj := (getD_pr L bs R hm (s j) (by omega)).1
     unfold bef at h6 ⊢
     unfold ltK
     dsimp only at h6;rw [ki, kj] at h6;exact h6
    have h6 := sorted_eq (ltK_swo bs R) hp hs2
    unfold srtM
    rw [← hln, ← h6, List.map_map];unfold arrG
    rw [List.map_map];refine List.map_congr_left fun i hi => ?_
    have hi2 := (hp.1 i (Nat.zero_le _) (List.mem_range.1 hi)).2
    obtain ⟨e1, e2⟩ := getD_pr L bs R hm (s i) (by omega)
    show (_, _) = prK bs R (s i)
    unfold prK
    rw [← e1, ← e2]
theorem addE (w : World) (v : Val) : ∃ W1, w.alloc (.cells #[.int .i64 0, .bool false, .int .i64 0, .string ⟨#[]⟩] 88) = W1 ∧ Bn W1 w.heap.size [.int .i64 0, .bool false, .int .i64 0, .string ⟨#[]⟩] ∧ Kp [] w W1 ∧ w.heap.size < W1.heap.size := by
 have b := Bn.new w [.int .i64 0, .bool false, .int .i64 0, .string ⟨#[]⟩] 88
 exact ⟨_, rfl, b, (Kp.refl _ _).alloc _, b.lt (by simp)⟩
theorem cSum (a : Option Addr) (c : Nat) (T : List Mb) (col : Int) (w : World) (hs : MbE.See w a T) (hx : ∀ x ∈ T, Mb.lies w x) (hl : T.length ≤ 4000000000000) (hr : ∀ x ∈ T, x.r.l.length ≤ 9223372036854775807) :
  Calls Tryz.prog 179 #[.slice a T.length c, .int .i64 col] w fun e w' => e = .returned (.agg #[.int .i64 (sumV col (T.map (·.r.l))).k, .bool (sumV col (T.map (·.r.l))).b, .int .i64 (sumV col (T.map (·.r.l))).n, .string (sumV col (T.map (·.r.l))).t]) ∧ Kp [] w w' := by
 obtain ⟨w1, e1, b1, k1, z1⟩ := addE w nulV;obtain ⟨q4, hq4⟩ : ∃ q, w.heap.size = q := ⟨_, rfl⟩
 rw [hq4] at b1 z1;have cN := hid (cNullE w1)
 have H1 := hid (And.intro b1 (And.intro k1 z1))
 have HS := hid hs
 have HX := hid hx
 have HR := hid hr
 obtain ⟨Z, hZ⟩ : ∃ Z, Hid (sumV col (T.map (·.r.l)) = Z) := ⟨_, hid rfl⟩
 rw [hZ.out];have hq4' := hid hq4
 clear hs hx hr b1 k1 z1;go_enter Tryz.func179, Tryz.ntmps179
 go_wp2_with fail;refine cN.out.mono ?_;rintro e w2 ⟨rfl, k2⟩;obtain ⟨q5, B1, B2, eq5, eB1, bb1, eB2, bb2, kB, zB⟩ := boxV4Y w2 nulV;have m0 := bb1.get 0 _ rfl; have m1 := bb1.get 1 _ rfl; have m2 := bb1.get 2 _ rfl; have m3 := bb1.get 3 _ rfl
 have f0 := bb1.free 0; have f1 := bb1.free 1; have f2 := bb1.free 2; have f3 := bb1.free 3
 unfold nulV at eB2 bb2
 dsimp only at eB2 bb2;have hb0 : Bx2 w q4 q5 (sumV col ((T.take 0).map (·.r.l))) B2 := ⟨bb2, (H1.out.1.kept k2).kept kB, (H1.out.2.1.trans k2 (by simp)).trans kB (by simp), by omega, by have := H1.out.2.2; have := k2.size; have := hq4'.out; omega, by have := H1.out.2.2; have := k2.size; omega⟩
 have HB0 := hid hb0
 clear cN k2 bb1 bb2 kB zB hb0;go_wp2_with fail;clear m0 m1 m2 m3 f0 f1 f2 f3;go_loopw [12] (fun i wr => ∃ j : Nat, j ≤ T.length ∧ i = .int .i64 (j : Int) ∧ Hid (Bx2 w q4 q5 (sumV col ((T.take j).map (·.r.l))) wr)) (fun i _ => T.length - (intOf i).toNat)
 case atStart => exact ⟨0, Nat.zero_le _, rfl, HB0⟩
 case round =>
  obtain ⟨j, hj, rfl, H⟩ := hrel;clear HB0
  by_cases hlt : j < T.length
  ·have hsn : Hid (sumV col ((T.take (j + 1)).map (·.r.l)) = sumS col (sumV col ((T.take j).map (·.r.l))) T[j].r.l) := hid (fold_snoc (f := sumS col) (g := fun x : Mb => x.r.l) hlt)
   obtain ⟨g, o, ea, c0, c1⟩ := mbAt HS.out j hlt;have cg0 := kpAt H.out.kp c0
   have cg1 := kpAt H.out.kp c1
   have hxl := hid (HX.out T[j] (List.getElem_mem hlt))
   have hxr := HR.out T[j] (List.getElem_mem hlt)
   obtain ⟨x, hxe⟩ : ∃ x, Hid (T[j] = x) := ⟨_, hid rfl⟩
   rw [hxe.out] at cg0 cg1 hxl hxr hsn;obtain ⟨⟨ka, kc, kl⟩, ⟨ra, rc, rl⟩⟩ := x;dsimp only at cg0 cg1 hxr hsn;obtain ⟨q7, M1, M2, eq7, eM1, bm1, eM2, bm2, kM⟩ := boxMb wr ⟨⟨ka, kc, kl⟩, ⟨ra, rc, rl⟩⟩;dsimp only at eM2 bm2;have m0 := bm1.get 0 _ rfl; have m1 := bm1.get 1 _ rfl
   have f0 := bm1.free 0; have f1 := bm1.free 1
   have n1 := bm2.get 1 _ rfl
   have KM := hid (H.out.kp.trans kM (by simp))
   have hB2 := hid (H.out.kept kM)
   have cA := hid (cAtE ra rc rl col M2 ((hxl.out.r.see.kept KM.out)) hxr)
   obtain ⟨⟨vk, vb, vn, vt⟩, hv⟩ : ∃ y, Hid (vAt rl col = y) := ⟨_, hid rfl⟩
   simp only [hv.out] at cA;have i1 : (0 : Int) ≤ (j : Int) := by omega
   have i2 : (j : Int) < (T.length : Int) := by omega
   have i3 : (j : Int) + 1 ≤ 9223372036854775807 := by omega
   subst ea;clear c0 c1 bm1 bm2 kM;go_wp2_with fail;refine cA.out.mono ?_;rintro e w3 ⟨rfl, k3⟩;obtain ⟨q8, V1, V2, eq8, eV1, bv1, eV2, bv2, kV, zV⟩ := boxV4Y w3 ⟨vk, vb, vn, vt⟩;have v0 := bv1.get 0 _ rfl; have v1 := bv1.get 1 _ rfl; have v2 := bv1.get 2 _ rfl; have v3 := bv1.get 3 _ rfl
   have g0 := bv1.free 0; have g1 := bv1.free 1; have g2 := bv1.free 2; have g3 := bv1.free 3
   have y0 := bv2.get 0 _ rfl; have y2 := bv2.get 2 _ rfl
   try dsimp only at eV2 y0 y2
   have hB3 := hid ((hB2.out.kept k3).kept kV)
   obtain ⟨⟨ok, ob, on, ot⟩, ho⟩ : ∃ y, Hid (sumV col ((T.take j).map (·.r.l)) = y) := ⟨_, hid rfl⟩
   have hB4 := hB3.out
   rw [ho.out] at hB4 hsn;have t0 := hB4.out.get 0 _ rfl
   have t1 := hB4.out.get 1 _ rfl
   have t2 := hB4.out.get 2 _ rfl
   have t3 := hB4.out.get 3 _ rfl
   try dsimp only at t0 t1 t2 t3
   have HB4 := hid hB4
   unfold sumS at hsn
   rw [hv.out] at hsn;dsimp only at hsn;clear k3 bv1 bv2 kV zV hB3 cA hB2 m0 m1 f0 f1 n1 cg0 cg1 hB4
   by_cases hk2 : vk = 2
   ·subst hk2
    rw [if_pos rfl] at hsn;have cI := hid (cIntE (IntKind.i64.wrap (on + vn)) V2)
    obtain ⟨N, hN⟩ : ∃ N, Hid (IntKind.i64.wrap (on + vn) = N) := ⟨_, hid rfl⟩
    have hN' := hN.out
    simp only [hN.out] at cI;rw [hN.out] at hsn;go_wp2_with fail;refine cI.out.mono ?_;rintro e w4 ⟨rfl, k4⟩;obtain ⟨W2, eW2, hW2⟩ := (HB4.out.kept k4).put ⟨2, false, N, ⟨#[]⟩⟩;have bo := (HB4.out.kept k4).out
    have p0 := bo.get 0 _ rfl; have p1 := bo.get 1 _ rfl; have p2 := bo.get 2 _ rfl; have p3 := bo.get 3 _ rfl
    have r0 := bo.free 0; have r1 := bo.free 1; have r2 := bo.free 2; have r3 := bo.free 3
    try dsimp only at eW2 p0 p1 p2 p3
    have HF : Hid (Bx2 w q4 q5 (sumV col ((T.take (j + 1)).map (·.r.l))) W2) := hid (by rw [hsn.out]; exact hW2)
    clear hW2 bo k4 cI v0 v1 v2 v3 g0 g1 g2 g3 y0 y2 t0 t1 t2 t3 HB4 hN';go_wp2_with fail;go_roundw
    case rel => exact ⟨j + 1, by omega, by go_num, HF⟩
    case measure => simp [intOf] <;> omega
   ·rw [if_neg hk2] at hsn
    have HF : Hid (Bx2 w q4 q5 (sumV col ((T.take (j + 1)).map (·.r.l))) V2) := hid (by rw [hsn.out]; exact HB4.out)
    have d1 : (vk == 2) = false := beq_eq_false_iff_ne.2 hk2
    clear HB4 hk2;go_wp2_with fail;go_roundw
    case rel => exact ⟨j + 1, by omega, by go_num, HF⟩
    case measure => simp [intOf] <;> omega
  ·have hje : Hid (sumV col ((T.take j).map (·.r.l)) = Z) := hid (by rw [show j = T.length by omega, List.take_length, hZ.out])
   have hB := H.out
   rw [hje.out] at hB;obtain ⟨zk, zb, zn, zt⟩ := Z;obtain ⟨W2, eW2, bW2, kW2⟩ := hB.ret;have t0 := hB.out.get 0 _ rfl; have t1 := hB.out.get 1 _ rfl; have t2 := hB.out.get 2 _ rfl; have t3 := hB.out.get 3 _ rfl
   have p0 := hB.res.get 0 _ rfl; have p1 := hB.res.get 1 _ rfl; have p2 := hB.res.get 2 _ rfl; have p3 := hB.res.get 3 _ rfl
   have r0 := hB.res.free 0; have r1 := hB.res.free 1; have r2 := hB.res.free 2; have r3 := hB.res.free 3
   have v0 := bW2.get 0 _ rfl; have v1 := bW2.get 1 _ rfl; have v2 := bW2.get 2 _ rfl; have v3 := bW2.get 3 _ rfl
   try dsimp only at eW2 t0 t1 t2 t3 v0 v1 v2 v3
   have KF := hid kW2
   have dj1 : ¬ (j : Int) < (T.length : Int) := by omega
   have dj2 : decide ((j : Int) < (T.length : Int)) = false := by simp; omega
   clear hB bW2 kW2 H;go_wp2_with fail;exact bodyPost_ret (v := .agg #[.int .i64 zk, .bool zb, .int .i64 zn, .string zt]) (by simp [results, Tryz.results179, go_sem, v0, v1, v2, v3]) rfl ⟨rfl, KF.out⟩
theorem cUtm (a : Option Addr) (c : Nat) (T : List Mb) (col sd : Int) (w : World) (hs : MbE.See w a T) (hx : ∀ x ∈ T, Mb.lies w x) (hl : T.length ≤ 4000000000000) (hr : ∀ x ∈ T, x.r.l.length ≤ 9223372036854775807) :
  Calls Tryz.prog 180 #[.slice a T.length c, .int .i64 col, .int .i64 sd] w fun e w' => e = .returned (.agg #[.int .i64 (utmV col sd (T.map (·.r.l))).k, .bool (utmV col sd (T.map (·.r.l))).b, .int .i64 (utmV col sd (T.map (·.r.l))).n, .string (utmV col sd (T.map (·.r.l))).t]) ∧ Kp [] w w' := by
 obtain ⟨w1, e1, b1, k1, z1⟩ := addE w nulV;obtain ⟨q4, hq4⟩ : ∃ q, w.heap.size = q := ⟨_, rfl⟩
 rw [hq4] at b1 z1;have cN := hid (cNullE w1)
 have H1 := hid (And.intro b1 (And.intro k1 z1))
 have HS := hid hs
 have HX := hid hx
 have HR := hid hr
 obtain ⟨Z, hZ⟩ : ∃ Z, Hid (utmV col sd (T.map (·.r.l)) = Z) := ⟨_, hid rfl⟩
 rw [hZ.out];have hq4' := hid hq4
 clear hs hx hr b1 k1 z1;go_enter Tryz.func180, Tryz.ntmps180
 go_wp2_with fail;refine cN.out.mono ?_;rintro e w2 ⟨rfl, k2⟩;obtain ⟨q5, B1, B2, eq5, eB1, bb1, eB2, bb2, kB, zB⟩ := boxV4Y w2 nulV;have m0 := bb1.get 0 _ rfl; have m1 := bb1.get 1 _ rfl; have m2 := bb1.get 2 _ rfl; have m3 := bb1.get 3 _ rfl
 have f0 := bb1.free 0; have f1 := bb1.free 1; have f2 := bb1.free 2; have f3 := bb1.free 3
 unfold nulV at eB2 bb2
 dsimp only at eB2 bb2;have hb0 : Bx2 w q4 q5 (utmV col sd ((T.take 0).map (·.r.l))) B2 := ⟨bb2, (H1.out.1.kept k2).kept kB, (H1.out.2.1.trans k2 (by simp)).trans kB (by simp), by omega, by have := H1.out.2.2; have := k2.size; have := hq4'.out; omega, by have := H1.out.2.2; have := k2.size; omega⟩
 have HB0 := hid hb0
 clear cN k2 bb1 bb2 kB zB hb0;go_wp2_with fail;clear m0 m1 m2 m3 f0 f1 f2 f3;go_loopw [14] (fun i wr => ∃ j : Nat, j ≤ T.length ∧ i = .int .i64 (j : Int) ∧ Hid (Bx2 w q4 q5 (utmV col sd ((T.take j).map (·.r.l))) wr)) (fun i _ => T.length - (intOf i).toNat)
 case atStart => exact ⟨0, Nat.zero_le _, rfl, HB0⟩
 case round =>
  obtain ⟨j, hj, rfl, H⟩ := hrel;clear HB0
  by_cases hlt : j < T.length
  ·have hsn : Hid (utmV col sd ((T.take (j + 1)).map (·.r.l)) = utmS col sd (utmV col sd ((T.take j).map (·.r.l))) T[j].r.l) := hid (fold_snoc (f := utmS col sd) (g := fun x : Mb => x.r.l) hlt)
   obtain ⟨g, o, ea, c0, c1⟩ := mbAt HS.out j hlt;have cg0 := kpAt H.out.kp c0
   have cg1 := kpAt H.out.kp c1
   have hxl := hid (HX.out T[j] (List.getElem_mem hlt))
   have hxr := HR.out T[j] (List.getElem_mem hlt)
   obtain ⟨x, hxe⟩ : ∃ x, Hid (T[j] = x) := ⟨_, hid rfl⟩
   rw [hxe.out] at cg0 cg1 hxl hxr hsn;obtain ⟨⟨ka, kc, kl⟩, ⟨ra, rc, rl⟩⟩ := x;dsimp only at cg0 cg1 hxr hsn;obtain ⟨q7, M1, M2, eq7, eM1, bm1, eM2, bm2, kM⟩ := boxMb wr ⟨⟨ka, kc, kl⟩, ⟨ra, rc, rl⟩⟩;dsimp only at eM2 bm2;have m0 := bm1.get 0 _ rfl; have m1 := bm1.get 1 _ rfl
   have f0 := bm1.free 0; have f1 := bm1.free 1
   have n1 := bm2.get 1 _ rfl
   have KM := hid (H.out.kp.trans kM (by simp))
   have hB2 := hid (H.out.kept kM)
   have cA := hid (cAtE ra rc rl col M2 ((hxl.out.r.see.kept KM.out)) hxr)
   obtain ⟨⟨vk, vb, vn, vt⟩, hv⟩ : ∃ y, Hid (vAt rl col = y) := ⟨_, hid rfl⟩
   simp only [hv.out] at cA;have i1 : (0 : Int) ≤ (j : Int) := by omega
   have i2 : (j : Int) < (T.length : Int) := by omega
   have i3 : (j : Int) + 1 ≤ 9223372036854775807 := by omega
   subst ea;clear c0 c1 bm1 bm2 kM;go_wp2_with fail;refine cA.out.mono ?_;rintro e w3 ⟨rfl, k3⟩;obtain ⟨q8, V1, V2, eq8, eV1, bv1, eV2, bv2, kV, zV⟩ := boxV4Y w3 ⟨vk, vb, vn, vt⟩;have v0 := bv1.get 0 _ rfl; have v1 := bv1.get 1 _ rfl; have v2 := bv1.get 2 _ rfl; have v3 := bv1.get 3 _ rfl
   have g0 := bv1.free 0; have g1 := bv1.free 1; have g2 := bv1.free 2; have g3 := bv1.free 3
   have y0 := bv2.get 0 _ rfl; have y2 := bv2.get 2 _ rfl
   have hy := hid bv2
   try dsimp only at eV2 y0 y2
   have hB3 := hid ((hB2.out.kept k3).kept kV)
   obtain ⟨⟨ok, ob, on, ot⟩, ho⟩ : ∃ y, Hid (utmV col sd ((T.take j).map (·.r.l)) = y) := ⟨_, hid rfl⟩
   have hB4 := hB3.out
   rw [ho.out] at hB4 hsn;have t0 := hB4.out.get 0 _ rfl
   have t1 := hB4.out.get 1 _ rfl
   have t2 := hB4.out.get 2 _ rfl
   have t3 := hB4.out.get 3 _ rfl
   try dsimp only at t0 t1 t2 t3
   have HB4 := hid hB4
   unfold utmS at hsn
   rw [hv.out] at hsn;dsimp only at hsn;clear k3 bv1 bv2 kV zV hB3 cA hB2 m0 m1 f0 f1 n1 cg0 cg1 hB4
   by_cases hk2 : vk = 0
   ·rw [if_pos hk2] at hsn
    have HF : Hid (Bx2 w q4 q5 (utmV col sd ((T.take (j + 1)).map (·.r.l))) V2) := hid (by rw [hsn.out]; exact HB4.out)
    have d1 : (vk == 0) = true := by simp [hk2]
    clear HB4 hk2;go_wp2_with fail;go_roundw
    case rel => exact ⟨j + 1, by omega, by go_num, HF⟩
    case measure => simp [intOf] <;> omega
   rw [if_neg hk2] at hsn;have d1 : (vk == 0) = false := beq_eq_false_iff_ne.2 hk2
   obtain ⟨W2, eW2, hW2⟩ := HB4.out.put ⟨vk, vb, vn, vt⟩;try dsimp only at eW2
   have y1 := hy.out.get 1 _ rfl; have y3 := hy.out.get 3 _ rfl
   try dsimp only at y1 y3
   have r0 := HB4.out.out.free 0; have r1 := HB4.out.out.free 1; have r2 := HB4.out.out.free 2; have r3 := HB4.out.out.free 3
   by_cases hok : ok = 0
   ·rw [if_pos (.inl hok)] at hsn
    have d2 : (ok == 0) = true := by simp [hok]
    have HF : Hid (Bx2 w q4 q5 (utmV col sd ((T.take (j + 1)).map (·.r.l))) W2) := hid (by rw [hsn.out]; exact hW2)
    clear hW2 hk2 hok HB4;go_wp2_with fail;go_roundw
    case rel => exact ⟨j + 1, by omega, by go_num, HF⟩
    case measure => simp [intOf] <;> omega
   have d2 : (ok == 0) = false := beq_eq_false_iff_ne.2 hok
   have cC := hid (cCompare ⟨vk, vb, vn, vt⟩ ⟨ok, ob, on, ot⟩ V2)
   simp only [Val.v] at cC;obtain ⟨C, hC⟩ : ∃ C, Hid (cmpV ⟨vk, vb, vn, vt⟩ ⟨ok, ob, on, ot⟩ = C) := ⟨_, hid rfl⟩
   simp only [hC.out] at cC;rw [hC.out] at hsn;clear hW2 eW2;go_wp2_with fail;refine cC.out.mono ?_;rintro e w4 ⟨rfl, k4⟩;obtain ⟨W2, eW2, hW2⟩ := (HB4.out.kept k4).put ⟨vk, vb, vn, vt⟩;try dsimp only at eW2
   have by4 := hy.out.kept k4
   have x0 := by4.get 0 _ rfl; have x1 := by4.get 1 _ rfl; have x2 := by4.get 2 _ rfl; have x3 := by4.get 3 _ rfl
   have bo4 := (HB4.out.kept k4).out
   have p0 := bo4.get 0 _ rfl; have p1 := bo4.get 1 _ rfl; have p2 := bo4.get 2 _ rfl; have p3 := bo4.get 3 _ rfl
   have u0 := bo4.free 0; have u1 := bo4.free 1; have u2 := bo4.free 2; have u3 := bo4.free 3
   have HB5 := hid (HB4.out.kept k4)
   try dsimp only at x0 x1 x2 x3 p0 p1 p2 p3
   clear cC k4 by4 bo4 v0 v1 v2 v3 g0 g1 g2 g3 y0 y2 y1 y3 t0 t1 t2 t3 r0 r1 r2 r3
   by_cases hCs : C = sd
   ·rw [if_pos (.inr hCs)] at hsn
    have d3 : (C == sd) = true := by simp [hCs]
    have HF : Hid (Bx2 w q4 q5 (utmV col sd ((T.take (j + 1)).map (·.r.l))) W2) := hid (by rw [hsn.out]; exact hW2)
    clear hW2 hk2 hok HB4 hCs HB5;go_wp2_with fail;go_roundw
    case rel => exact ⟨j + 1, by omega, by go_num, HF⟩
    case measure => simp [intOf] <;> omega
   ·rw [if_neg (fun h => h.elim hok hCs)] at hsn
    have d3 : (C == sd) = false := beq_eq_false_iff_ne.2 hCs
    have HF : Hid (Bx2 w q4 q5 (utmV col sd ((T.take (j + 1)).map (·.r.l))) w4) := hid (by rw [hsn.out]; exact HB5.out)
    clear hW2 hk2 hok HB4 hCs HB5 eW2;go_wp2_with fail;go_roundw
    case rel => exact ⟨j + 1, by omega, by go_num, HF⟩
    case measure => simp [intOf] <;> omega
  ·have hje : Hid (utmV col sd ((T.take j).map (·.r.l)) = Z) := hid (by rw [show j = T.length by omega, List.take_length, hZ.out])
   have hB := H.out
   rw [hje.out] at hB;obtain ⟨zk, zb, zn, zt⟩ := Z;obtain ⟨W2, eW2, bW2, kW2⟩ := hB.ret;have t0 := hB.out.get 0 _ rfl; have t1 := hB.out.get 1 _ rfl; have t2 := hB.out.get 2 _ rfl; have t3 := hB.out.get 3 _ rfl
   have p0 := hB.res.get 0 _ rfl; have p1 := hB.res.get 1 _ rfl; have p2 := hB.res.get 2 _ rfl; have p3 := hB.res.get 3 _ rfl
   have r0 := hB.res.free 0; have r1 := hB.res.free 1; have r2 := hB.res.free 2; have r3 := hB.res.free 3
   have v0 := bW2.get 0 _ rfl; have v1 := bW2.get 1 _ rfl; have v2 := bW2.get 2 _ rfl; have v3 := bW2.get 3 _ rfl
   try dsimp only at eW2 t0 t1 t2 t3 v0 v1 v2 v3
   have KF := hid kW2
   have dj1 : ¬ (j : Int) < (T.length : Int) := by omega
   have dj2 : decide ((j : Int) < (T.length : Int)) = false := by simp; omega
   clear hB bW2 kW2 H;go_wp2_with fail;exact bodyPost_ret (v := .agg #[.int .i64 zk, .bool zb, .int .i64 zn, .string zt]) (by simp [results, Tryz.results180, go_sem, v0, v1, v2, v3]) rfl ⟨rfl, KF.out⟩
theorem cTellV (a : Option Addr) (c : Nat) (T : List Mb) (op col : Int) (w : World) (hs : MbE.See w a T) (hx : ∀ x ∈ T, Mb.lies w x) (hl : T.length ≤ 4000000000000) (hr : ∀ x ∈ T, x.r.l.length ≤ 9223372036854775807) :
  Calls Tryz.prog 167 #[.slice a T.length c, .agg #[.int .i64 op, .int .i64 col]] w fun e w' => e = .returned (.agg #[.int .i64 (tellV (T.map (·.r.l)) (op, col)).k, .bool (tellV (T.map (·.r.l)) (op, col)).b, .int .i64 (tellV (T.map (·.r.l)) (op, col)).n, .string (tellV (T.map (·.r.l)) (op, col)).t]) ∧ Kp [] w w' := by
 by_cases h0 : op = 0
 ·subst h0
  have h1 := cTell0 a T.length c col w
  have e : tellV (T.map (·.r.l)) (0, col) = ⟨2, false, (T.length : Int), ⟨#[]⟩⟩ := by simp [tellV]
  rw [e];exact h1
 obtain ⟨w1, hw1, k1, b1⟩ : ∃ w1, w.alloc (.cells #[.int .i64 op, .int .i64 col] 102) = w1 ∧ Kp [] w w1 ∧ Bn w1 w.heap.size [.int .i64 op, .int .i64 col] := ⟨_, rfl, (Kp.refl _ _).alloc _, Bn.new w _ _⟩
 obtain ⟨w2, hw2, b2, k2, z2⟩ := addE w1 nulV;obtain ⟨q3, hq3⟩ : ∃ q, w.heap.size = q := ⟨_, rfl⟩
 obtain ⟨q4, hq4⟩ : ∃ q, Hid (w1.heap.size = q) := ⟨_, hid rfl⟩
 rw [hq3] at b1;rw [hq4.out] at b2;have b12 := b1.kept k2
 have a0 := b12.get 0 _ rfl
 have a1 := b12.get 1 _ rfl
 have H2 := hid (And.intro b2 (And.intro (k1.trans k2 (by simp)) k1.size))
 have hq4' := hq4.out
 obtain ⟨Z, hZ⟩ : ∃ Z, Hid (tellV (T.map (·.r.l)) (op, col) = Z) := ⟨_, hid rfl⟩
 rw [hZ.out];have d0 : (op == 0) = false := beq_eq_false_iff_ne.2 h0
 have hs2 := hs.keptNew H2.out.2.1
 have hx2 : ∀ x ∈ T, Mb.lies w2 x := fun x h => (hx x h).ck (CK.ofKp H2.out.2.1) (by simp)
 by_cases h1 : op = 1
 ·have hv : sumV col (T.map (·.r.l)) = Z := by rw [← hZ.out]; simp [tellV, h1]
  have cI0 := cSum a c T col w2 hs2 hx2 hl hr
  rw [hv] at cI0;have cI := hid cI0
  have d1 : (op == 1) = true := by simp [h1]
  clear h1;clear hZ hv cI0 hs hx hs2 hx2 b1 b2 b12 k1 k2 z2 hr;obtain ⟨zk, zb, zn, zt⟩ := Z;dsimp only at cI;go_enter Tryz.func167, Tryz.ntmps167
  go_wp2_with fail;refine cI.out.mono ?_;rintro e w3 ⟨rfl, k3⟩;have b3 := H2.out.1.kept k3
  have m0 := b3.get 0 _ rfl; have m1 := b3.get 1 _ rfl; have m2 := b3.get 2 _ rfl; have m3 := b3.get 3 _ rfl
  have f0 := b3.free 0; have f1 := b3.free 1; have f2 := b3.free 2; have f3 := b3.free 3
  obtain ⟨w4, e4, b4, k4, _⟩ := putV4 b3 (by rw [← hq4.out]; exact H2.out.2.2) (H2.out.2.1.trans k3 (by simp)) ⟨zk, zb, zn, zt⟩
  try dsimp only at e4 b4
  have v0 := b4.get 0 _ rfl; have v1 := b4.get 1 _ rfl; have v2 := b4.get 2 _ rfl; have v3 := b4.get 3 _ rfl
  have K4 := hid k4
  clear b3 b4 k4 k3 cI H2;go_wp2_with fail;exact bodyPost_ret (v := .agg #[.int .i64 zk, .bool zb, .int .i64 zn, .string zt]) (by simp [results, Tryz.results167, go_sem, v0, v1, v2, v3]) rfl ⟨rfl, K4.out⟩
 have d1 : (op == 1) = false := beq_eq_false_iff_ne.2 h1
 by_cases h2 : op = 2
 ·have hv : utmV col (-1) (T.map (·.r.l)) = Z := by rw [← hZ.out]; simp [tellV, h2]
  have cI0 := cUtm a c T col (-1) w2 hs2 hx2 hl hr
  rw [hv] at cI0;have cI := hid cI0
  have d2 : (op == 2) = true := by simp [h2]
  clear h2;clear hZ hv cI0 hs hx hs2 hx2 b1 b2 b12 k1 k2 z2 hr;obtain ⟨zk, zb, zn, zt⟩ := Z;dsimp only at cI;go_enter Tryz.func167, Tryz.ntmps167
  go_wp2_with fail;refine cI.out.mono ?_;rintro e w3 ⟨rfl, k3⟩;have b3 := H2.out.1.kept k3
  have m0 := b3.get 0 _ rfl; have m1 := b3.get 1 _ rfl; have m2 := b3.get 2 _ rfl; have m3 := b3.get 3 _ rfl
  have f0 := b3.free 0; have f1 := b3.free 1; have f2 := b3.free 2; have f3 := b3.free 3
  obtain ⟨w4, e4, b4, k4, _⟩ := putV4 b3 (by rw [← hq4.out]; exact H2.out.2.2) (H2.out.2.1.trans k3 (by simp)) ⟨zk, zb, zn, zt⟩
  try dsimp only at e4 b4
  have v0 := b4.get 0 _ rfl; have v1 := b4.get 1 _ rfl; have v2 := b4.get 2 _ rfl; have v3 := b4.get 3 _ rfl
  have K4 := hid k4
  clear b3 b4 k4 k3 cI H2;go_wp2_with fail;exact bodyPost_ret (v := .agg #[.int .i64 zk, .bool zb, .int .i64 zn, .string zt]) (by simp [results, Tryz.results167, go_sem, v0, v1, v2, v3]) rfl ⟨rfl, K4.out⟩
 have d2 : (op == 2) = false := beq_eq_false_iff_ne.2 h2
 by_cases h3 : op = 3
 ·have hv : utmV col 1 (T.map (·.r.l)) = Z := by rw [← hZ.out]; simp [tellV, h3]
  have cI0 := cUtm a c T col 1 w2 hs2 hx2 hl hr
  rw [hv] at cI0;have cI := hid cI0
  have d3 : (op == 3) = true := by simp [h3]
  clear h3;clear hZ hv cI0 hs hx hs2 hx2 b1 b2 b12 k1 k2 z2 hr;obtain ⟨zk, zb, zn, zt⟩ := Z;dsimp only at cI;go_enter Tryz.func167, Tryz.ntmps167
  go_wp2_with fail;refine cI.out.mono ?_;rintro e w3 ⟨rfl, k3⟩;have b3 := H2.out.1.kept k3
  have m0 := b3.get 0 _ rfl; have m1 := b3.get 1 _ rfl; have m2 := b3.get 2 _ rfl; have m3 := b3.get 3 _ rfl
  have f0 := b3.free 0; have f1 := b3.free 1; have f2 := b3.free 2; have f3 := b3.free 3
  obtain ⟨w4, e4, b4, k4, _⟩ := putV4 b3 (by rw [← hq4.out]; exact H2.out.2.2) (H2.out.2.1.trans k3 (by simp)) ⟨zk, zb, zn, zt⟩
  try dsimp only at e4 b4
  have v0 := b4.get 0 _ rfl; have v1 := b4.get 1 _ rfl; have v2 := b4.get 2 _ rfl; have v3 := b4.get 3 _ rfl
  have K4 := hid k4
  clear b3 b4 k4 k3 cI H2;go_wp2_with fail;exact bodyPost_ret (v := .agg #[.int .i64 zk, .bool zb, .int .i64 zn, .string zt]) (by simp [results, Tryz.results167, go_sem, v0, v1, v2, v3]) rfl ⟨rfl, K4.out⟩
 have d3 : (op == 3) = false := beq_eq_false_iff_ne.2 h3
 ·have hv : nulV = Z := by rw [← hZ.out]; simp [tellV, h0, h1, h2, h3]
  have cI0 : Calls Tryz.prog 130 #[] w2 fun e w' => e = .returned (.agg #[.int .i64 Z.k, .bool Z.b, .int .i64 Z.n, .string Z.t]) ∧ Kp [] w2 w' := by rw [← hv]; exact cNullE w2
  have cI := hid cI0
  clear h0 h1 h2 h3;clear hZ hv cI0 hs hx hs2 hx2 b1 b2 b12 k1 k2 z2 hr;obtain ⟨zk, zb, zn, zt⟩ := Z;dsimp only at cI;go_enter Tryz.func167, Tryz.ntmps167
  go_wp2_with fail;refine cI.out.mono ?_;rintro e w3 ⟨rfl, k3⟩;have b3 := H2.out.1.kept k3
  have m0 := b3.get 0 _ rfl; have m1 := b3.get 1 _ rfl; have m2 := b3.get 2 _ rfl; have m3 := b3.get 3 _ rfl
  have f0 := b3.free 0; have f1 := b3.free 1; have f2 := b3.free 2; have f3 := b3.free 3
  obtain ⟨w4, e4, b4, k4, _⟩ := putV4 b3 (by rw [← hq4.out]; exact H2.out.2.2) (H2.out.2.1.trans k3 (by simp)) ⟨zk, zb, zn, zt⟩
  try dsimp only at e4 b4
  have v0 := b4.get 0 _ rfl; have v1 := b4.get 1 _ rfl; have v2 := b4.get 2 _ rfl; have v3 := b4.get 3 _ rfl
  have K4 := hid k4
  clear b3 b4 k4 k3 cI H2;go_wp2_with fail;exact bodyPost_ret (v := .agg #[.int .i64 zk, .bool zb, .int .i64 zn, .string zt]) (by simp [results, Tryz.results167, go_sem, v0, v1, v2, v3]) rfl ⟨rfl, K4.out⟩
theorem cTogV (a : Option Addr) (c m : Nat) (T : List Mb) (w : World) (hs : MbE.See w a T) (hx : ∀ x ∈ T, Mb.lies w x) (hl : T.length ≤ 4000000000000) (hr : ∀ x ∈ T, x.k.l.length ≤ 9223372036854775807) (hm1 : 1 ≤ m) (hm : m ≤ T.length) (h1 : ∀ (k : Nat), k < m → rowsV (T.getD 0 default).k.l (T.getD k default).k.l = 0) (h2 : m < T.length → rowsV (T.getD 0 default).k.l (T.getD m default).k.l ≠ 0) :
  Calls Tryz.prog 144 #[.slice a T.length c] w fun e w' => e = .returned (.int .i64 (m : Int)) ∧ Kp [] w w' := by
 have HS := hid hs
 have HX := hid hx
 have HR := hid hr
 have H1 := hid h1
 have H2 := hid h2
 have hn0 : 0 < T.length := by omega
 clear hs hx hr h1 h2;go_enter Tryz.func144, Tryz.ntmps144
 go_wp2_with fail;go_loopw [3] (fun v3 wr => ∃ j : Nat, 1 ≤ j ∧ j ≤ m ∧ v3 = .int .i64 (j : Int) ∧ Hid (Kp [] w wr)) (fun v3 _ => m - (intOf v3).toNat)
 case atStart => exact ⟨1, by omega, hm1, by go_num, hid (Kp.refl _ _)⟩
 case round =>
  obtain ⟨j, hj1, hjm, rfl, KW⟩ := hrel
  by_cases hlt : j < T.length
  ·have hjT : j < T.length := hlt
   obtain ⟨g, o, ea, c0, _⟩ := mbAt HS.out 0 hn0;obtain ⟨g', o', ea', d0, _⟩ := mbAt HS.out j hlt;rw [ea] at ea'
   cases ea'
   rw [show o + 0 * 2 = o by omega] at c0
   have e0 : T.getD 0 default = T[0] := by rw [List.getD_eq_getElem?_getD, List.getElem?_eq_getElem hn0]; rfl
   have ej : T.getD j default = T[j] := by rw [List.getD_eq_getElem?_getD, List.getElem?_eq_getElem hlt]; rfl
   have hq : Hid ((j < m → rowsV T[0].k.l T[j].k.l = 0) ∧ (j = m → rowsV T[0].k.l T[j].k.l ≠ 0)) := hid ⟨fun h => by have := H1.out j h; rwa [e0, ej] at this, fun h => by have := H2.out (by omega); rw [← h, e0, ej] at this; exact this⟩
   have hx0 := hid (HX.out T[0] (List.getElem_mem hn0)).k
   have hxj := hid (HX.out T[j] (List.getElem_mem hlt)).k
   have hr0 := HR.out T[0] (List.getElem_mem hn0)
   have hrj := HR.out T[j] (List.getElem_mem hlt)
   obtain ⟨x, hxe⟩ : ∃ x, Hid (T[0].k = x) := ⟨_, hid rfl⟩
   obtain ⟨y, hye⟩ : ∃ y, Hid (T[j].k = y) := ⟨_, hid rfl⟩
   rw [hxe.out] at c0 hq hx0 hr0;rw [hye.out] at d0 hq hxj hrj;obtain ⟨xa, xc, xl⟩ := x;obtain ⟨ya, yc, yl⟩ := y;dsimp only at c0 d0 hq hr0 hrj;have hS : Hid (∀ W', Kp [] w W' → W'.cell? ⟨g, o, none⟩ = some (.slice xa xl.length xc) ∧ W'.cell? ⟨g, o + j * 2, none⟩ = some (.slice ya yl.length yc)) := fun W' k => ⟨kpAt k c0, kpAt k d0⟩
   have cR : Hid (∀ W', Kp [] w W' → Calls Tryz.prog 149 #[.slice xa xl.length xc, .slice ya yl.length yc] W' fun e w' => e = .returned (.int .i64 (rowsV xl yl)) ∧ Kp [] W' w') := hid (fun W' k => cRows xa ya xc yc xl yl W' (hx0.out.see.kept k) (hxj.out.see.kept k) hr0 hrj)
   obtain ⟨C, hC⟩ : ∃ C, Hid (rowsV xl yl = C) := ⟨_, hid rfl⟩
   simp only [hC.out] at cR;rw [hC.out] at hq;have i1 : (0 : Int) ≤ (j : Int) := by omega
   have i2 : (j : Int) < (T.length : Int) := by omega
   have i3 : (j : Int) + 1 ≤ 9223372036854775807 := by omega
   have i4 : (0 : Int) < (T.length : Int) := by omega
   have i5 : decide ((j : Int) < (T.length : Int)) = true := by simp; omega
   have i6 : decide (j < T.length) = true := by simp; omega
   subst ea;clear c0 d0 e0 ej;go_wp2_with fail;refine wp_noPanicY ?_;refine wp_region_held_drew (S := fun W' => W'.cell? ⟨g, o, none⟩ = some (.slice xa xl.length xc) ∧ W'.cell? ⟨g, o + j * 2, none⟩ = some (.slice ya yl.length yc)) (by kernel_rfl) (hS.out _ KW.out.drew) (fun hHeld => ?_)
   have KD : Hid (Kp [] w wr.drew) := hid KW.out.drew
   generalize wr.drew = wd at *
   refine tkH ?_ 0 rfl (by kernel_rfl) (fun _ _ _ h => by cases h.1) (by rfl) ?_ ‹_› ?_;rotate_left
   ·intro w h; (try dsimp only at h); go_simp <;> with_reducible rfl
   (try simp only [Act.put, lz]);refine tkH ?_ 1 rfl (by kernel_rfl) (fun _ _ _ h => by cases h.1) (by rfl) ?_ ‹_› ?_;rotate_left
   ·intro w h; (try dsimp only at h); go_simp <;> with_reducible rfl
   (try simp only [Act.put, lz]);refine tkH ?_ 2 rfl (by kernel_rfl) (fun _ _ _ h => by cases h.1) (by rfl) ?_ ‹_› ?_;rotate_left
   ·intro w h; (try dsimp only at h); go_simp <;> with_reducible rfl
   (try simp only [Act.put, lz]);refine tkH ?_ 3 rfl (by kernel_rfl) (fun _ _ _ h => by cases h.1) (by rfl) ?_ ‹_› ?_;rotate_left
   ·intro w hSw; (try dsimp only at hSw); go_simp <;> (try simp only [i5, i6]) <;> with_reducible rfl
   (try simp only [Act.put, lz]);try simp only [i5, i6]
   refine tkH ?_ 4 rfl (by kernel_rfl) (fun _ _ _ h => by cases h.1) (by rfl) ?_ ‹_› ?_;rotate_left
   ·intro w h; (try dsimp only at h); go_simp <;> with_reducible rfl
   (try simp only [Act.put, lz]);refine tkH ?_ 5 rfl (by kernel_rfl) (fun _ _ _ h => by cases h.1) (by rfl) ?_ ‹_› ?_;rotate_left
   ·intro w h; (try dsimp only at h); go_simp <;> with_reducible rfl
   (try simp only [Act.put, lz]);refine tkH ?_ 6 rfl (by kernel_rfl) (fun _ _ _ h => by cases h.1) (by rfl) ?_ ‹_› ?_;rotate_left
   ·intro w h; (try dsimp only at h); go_simp <;> with_reducible rfl
   (try simp only [Act.put, lz]);refine tkH ?_ 7 rfl (by kernel_rfl) (fun _ _ _ h => by cases h.1) (by rfl) ?_ ‹_› ?_;rotate_left
   ·intro w h; (try dsimp only at h); go_simp <;> with_reducible rfl
   (try simp only [Act.put, lz]);refine tkH ?_ 8 rfl (by kernel_rfl) (fun _ _ _ h => by cases h.1) (by rfl) ?_ ‹_› ?_;rotate_left
   ·intro w h; (try dsimp only at h); go_simp <;> with_reducible rfl
   (try simp only [Act.put, lz]);refine tkH ?_ 9 rfl (by kernel_rfl) (fun _ _ _ h => by cases h.1) (by rfl) ?_ ‹_› ?_;rotate_left
   ·intro w h; (try dsimp only at h); go_simp <;> with_reducible rfl
   (try simp only [Act.put, lz]);refine tkH ?_ 10 rfl (by kernel_rfl) (fun _ _ _ h => by cases h.1) (by rfl) ?_ ‹_› ?_;rotate_left
   ·intro w h; (try dsimp only at h); go_simp <;> with_reducible rfl
   (try simp only [Act.put, lz]);refine tkH ?_ 11 rfl (by kernel_rfl) (fun _ _ _ h => by cases h.1) (by rfl) ?_ ‹_› ?_;rotate_left
   ·intro w h; (try dsimp only at h); go_simp <;> with_reducible rfl
   (try simp only [Act.put, lz]);refine tkH ?_ 12 rfl (by kernel_rfl) (fun _ _ _ h => by cases h.1) (by rfl) ?_ ‹_› ?_;rotate_left
   ·intro w h; (try dsimp only at h); go_simp <;> with_reducible rfl
   (try simp only [Act.put, lz]);refine tkH ?_ 13 rfl (by kernel_rfl) (fun _ _ _ h => by cases h.1) (by rfl) ?_ ‹_› ?_;rotate_left
   ·intro w h; (try dsimp only at h); go_simp <;> with_reducible rfl
   (try simp only [Act.put, lz]);refine rdH 14 (by kernel_rfl) rfl fun K hK => ?_
   go_simp;refine (cR.out wd KD.out).mono ?_;rintro e we ⟨rfl, ke⟩;(try go_wp2_with fail);refine hK.out _ _ (hS.out we (KD.out.trans ke (by simp))) (fun hHeld => ?_)
   clear hK K;(try simp only [Act.put, lz]);have KE := hid (KD.out.trans ke (by simp))
   clear ke cR hS
   by_cases hC0 : C = 0
   ·have d1 : (C == 0) = true := by simp [hC0]
    have hjm2 : j < m := by
     rcases Nat.lt_or_ge j m with h | h
     ·exact h
     ·exact absurd hC0 (hq.out.2 (by omega))
    clear hC0;refine tkH ?_ 15 rfl (by kernel_rfl) (fun _ _ _ h => by cases h.1) (by rfl) ?_ ‹_› ?_;rotate_left
    ·intro w hSw; (try dsimp only at hSw); go_simp <;> (try simp only [d1]) <;> with_reducible rfl
    (try simp only [Act.put, lz]);try simp only [d1]
    refine tkH ?_ 16 rfl (by kernel_rfl) (fun _ _ _ h => by cases h.1) (by rfl) ?_ ‹_› ?_;rotate_left
    ·intro w h; (try dsimp only at h); go_simp <;> with_reducible rfl
    (try simp only [Act.put, lz]);refine wpAnyH_done (by kernel_rfl) ⟨rfl, ?_⟩ _
    clear hHeld;go_wp2_with fail;go_roundw
    case rel => exact ⟨j + 1, by omega, by omega, by go_num, KE⟩
    case measure => simp [intOf] <;> omega
   ·have d1 : (C == 0) = false := beq_eq_false_iff_ne.2 hC0
    have hjm2 : Hid (j = m) := hid (by
     rcases Nat.lt_or_ge j m with h | h
     ·exact absurd (hq.out.1 h) hC0
     ·omega)
    clear hC0;refine tkH ?_ 15 rfl (by kernel_rfl) (fun _ _ _ h => by cases h.1) (by rfl) ?_ ‹_› ?_;rotate_left
    ·intro w hSw; (try dsimp only at hSw); go_simp <;> (try simp only [d1]) <;> with_reducible rfl
    (try simp only [Act.put, lz]);try simp only [d1]
    refine tkH ?_ 16 rfl (by kernel_rfl) (fun _ _ _ h => by cases h.1) (by rfl) ?_ ‹_› ?_;rotate_left
    ·intro w h; (try dsimp only at h); go_simp <;> with_reducible rfl
    (try simp only [Act.put, lz]);refine wpAnyH_done (by kernel_rfl) ⟨rfl, ?_⟩ _
    clear hHeld;go_wp2_with fail;go_ret;rw [hjm2.out];exact ⟨rfl, KE.out⟩
  ·have hje : Hid (j = m) := hid (by omega)
   have i5 : decide ((j : Int) < (T.length : Int)) = false := by simp; omega
   have i6 : decide (j < T.length) = false := by simp; omega
   go_wp2_with fail;refine wp_noPanicY ?_;refine wp_region_held_drew (S := fun A => True) (by kernel_rfl) trivial (fun hHeld => ?_)
   have KD : Hid (Kp [] w wr.drew) := hid KW.out.drew
   generalize wr.drew = wd at *
   refine tkH ?_ 0 rfl (by kernel_rfl) (fun _ _ _ h => by cases h.1) (by rfl) ?_ ‹_› ?_;rotate_left
   ·intro w h; (try dsimp only at h); go_simp <;> with_reducible rfl
   (try simp only [Act.put, lz]);refine tkH ?_ 1 rfl (by kernel_rfl) (fun _ _ _ h => by cases h.1) (by rfl) ?_ ‹_› ?_;rotate_left
   ·intro w h; (try dsimp only at h); go_simp <;> with_reducible rfl
   (try simp only [Act.put, lz]);refine tkH ?_ 2 rfl (by kernel_rfl) (fun _ _ _ h => by cases h.1) (by rfl) ?_ ‹_› ?_;rotate_left
   ·intro w h; (try dsimp only at h); go_simp <;> with_reducible rfl
   (try simp only [Act.put, lz]);refine tkH ?_ 3 rfl (by kernel_rfl) (fun _ _ _ h => by cases h.1) (by rfl) ?_ ‹_› ?_;rotate_left
   ·intro w hSw; (try dsimp only at hSw); go_simp <;> (try simp only [i5, i6]) <;> with_reducible rfl
   (try simp only [Act.put, lz]);try simp only [i5, i6]
   refine tkH ?_ 4 rfl (by kernel_rfl) (fun _ _ _ h => by cases h.1) (by rfl) ?_ ‹_› ?_;rotate_left
   ·intro w h; (try dsimp only at h); go_simp <;> with_reducible rfl
   (try simp only [Act.put, lz]);refine tkU 5 rfl (by kernel_rfl) (fun _ _ _ h => by cases h.1) (by rfl) ‹_› ?_
   (try simp only [Act.put, lz]);refine tkU 6 rfl (by kernel_rfl) (fun _ _ _ h => by cases h.1) (by rfl) ‹_› ?_
   (try simp only [Act.put, lz]);refine tkU 7 rfl (by kernel_rfl) (fun _ _ _ h => by cases h.1) (by rfl) ‹_› ?_
   (try simp only [Act.put, lz]);refine tkU 8 rfl (by kernel_rfl) (fun _ _ _ h => by cases h.1) (by rfl) ‹_› ?_
   (try simp only [Act.put, lz]);refine tkU 9 rfl (by kernel_rfl) (fun _ _ _ h => by cases h.1) (by rfl) ‹_› ?_
   (try simp only [Act.put, lz]);refine tkU 10 rfl (by kernel_rfl) (fun _ _ _ h => by cases h.1) (by rfl) ‹_› ?_
   (try simp only [Act.put, lz]);refine tkU 11 rfl (by kernel_rfl) (fun _ _ _ h => by cases h.1) (by rfl) ‹_› ?_
   (try simp only [Act.put, lz]);refine tkU 12 rfl (by kernel_rfl) (fun _ _ _ h => by cases h.1) (by rfl) ‹_› ?_
   (try simp only [Act.put, lz]);refine tkU 13 rfl (by kernel_rfl) (fun _ _ _ h => by cases h.1) (by rfl) ‹_› ?_
   (try simp only [Act.put, lz]);refine tkU 14 rfl (by kernel_rfl) (fun _ _ _ h => by cases h.1) (by rfl) ‹_› ?_
   (try simp only [Act.put, lz]);refine tkU 15 rfl (by kernel_rfl) (fun _ _ _ h => by cases h.1) (by rfl) ‹_› ?_
   (try simp only [Act.put, lz]);refine tkH ?_ 16 rfl (by kernel_rfl) (fun _ _ _ h => by cases h.1) (by rfl) ?_ ‹_› ?_;rotate_left
   ·intro w h; (try dsimp only at h); go_simp <;> with_reducible rfl
   (try simp only [Act.put, lz]);refine wpAnyH_done (by kernel_rfl) ⟨rfl, ?_⟩ _
   clear hHeld;go_wp2_with fail;go_ret;rw [hje.out];exact ⟨rfl, KD.out⟩
def grpL (bs : List Int) (R : List (List Val)) : List (List Nat) := (keysV bs R).map (grpI bs R)
theorem grpL_len (bs : List Int) (R : List (List Val)) : (grpL bs R).length = (keysV bs R).length := by simp [grpL]
theorem srtM_eq (bs : List Int) (R : List (List Val)) : srtM bs R = (grpL bs R).flatten.map (prK bs R) := by
 unfold srtM grpL
 rw [srt_groups, List.flatMap_def]
theorem grpL_at {bs : List Int} {R : List (List Val)} {i : Nat} (h : i < (grpL bs R).length) : (grpL bs R)[i] = grpI bs R ((keysV bs R)[i]'(by rw [← grpL_len]; exact h)) := by simp [grpL]
theorem grpI_first {bs : List Int} {R : List (List Val)} {k : List Val} (hk : k ∈ keysV bs R) : ∃ i l, grpI bs R k = i :: l ∧ keyV bs R i = k := by
 obtain ⟨x, hx, e⟩ := (keysV_ok bs R).first k hk;rw [← grpI_rows] at hx
 cases hg : grpI bs R k with
 | nil => rw [hg] at hx; simp at hx
 | cons i l =>
  rw [hg] at hx;simp at hx
  refine ⟨i, l, rfl, ?_⟩;unfold keyV
  rw [List.getD_eq_getElem?_getD, hx];exact e
theorem grpI_key {bs : List Int} {R : List (List Val)} {k : List Val} : ∀ i ∈ grpI bs R k, rowsV (keyV bs R i) k = 0 := fun i hi => by
 unfold grpI at hi
 have := (List.mem_filter.1 hi).2
 simpa using this
def csG (bs : List Int) (R : List (List Val)) (i : Nat) : Nat := ((grpL bs R).take i).flatten.length
theorem csG_succ {bs : List Int} {R : List (List Val)} {i : Nat} (h : i < (grpL bs R).length) : csG bs R (i + 1) = csG bs R i + ((grpL bs R)[i]).length := flat_len _ i h
theorem csG_top (bs : List Int) (R : List (List Val)) : csG bs R (grpL bs R).length = (srtM bs R).length := by
 unfold csG
 rw [List.take_length, srtM_eq, List.length_map]
theorem csG_le (bs : List Int) (R : List (List Val)) (i : Nat) : csG bs R i ≤ (srtM bs R).length := by
 rw [srtM_eq, List.length_map];unfold csG
 conv => rhs; rw [← List.take_append_drop i (grpL bs R), List.flatten_append, List.length_append]
 omega
theorem grp_pos {bs : List Int} {R : List (List Val)} {i : Nat} (h : i < (grpL bs R).length) : 0 < ((grpL bs R)[i]).length := by
 rw [grpL_at h];obtain ⟨j, l, e, _⟩ := grpI_first (List.getElem_mem (by rw [← grpL_len]; exact h) : (keysV bs R)[i]'(by rw [← grpL_len]; exact h) ∈ keysV bs R)
 rw [e];simp
theorem srtM_drop (bs : List Int) (R : List (List Val)) (i : Nat) : (srtM bs R).drop (csG bs R i) = ((grpL bs R).drop i).flatten.map (prK bs R) := by
 rw [srtM_eq, ← List.map_drop];unfold csG
 rw [flat_drop]
theorem srtM_part {bs : List Int} {R : List (List Val)} {i : Nat} (h : i < (grpL bs R).length) : ((srtM bs R).drop (csG bs R i)).take (csG bs R (i + 1) - csG bs R i) = ((grpL bs R)[i]).map (prK bs R) := by
 rw [srtM_drop, csG_succ h, ← List.map_take, Nat.add_sub_cancel_left, flat_take _ i h]
theorem srtM_len (bs : List Int) (R : List (List Val)) : (srtM bs R).length = R.length := by
 unfold srtM
 rw [List.length_map, (srtI_perm (ltK bs R) R.length).length_eq, List.length_range]
theorem prK_snd (bs : List Int) (R : List (List Val)) (k : List Val) : ((grpI bs R k).map (prK bs R)).map (·.2) = R.filter fun l => rowsV (pickV l bs) k == 0 := by
 rw [← grpI_rows, List.map_map];rfl
theorem together_at {bs : List Int} {R : List (List Val)} {i : Nat} (h : i < (grpL bs R).length) (T : List Mb) (hT : T.map Mb.pr = (srtM bs R).drop (csG bs R i)) :
  1 ≤ ((grpL bs R)[i]).length ∧ ((grpL bs R)[i]).length ≤ T.length ∧ (∀ k, k < ((grpL bs R)[i]).length → rowsV (T.getD 0 default).k.l (T.getD k default).k.l = 0) ∧ (((grpL bs R)[i]).length < T.length → rowsV (T.getD 0 default).k.l (T.getD ((grpL bs R)[i]).length default).k.l ≠ 0) := by
 have hp := grp_pos h
 rw [srtM_drop, List.drop_eq_getElem_cons h, List.flatten_cons, List.map_append] at hT;have hlen := congrArg List.length hT
 rw [List.length_map, List.length_append, List.length_map] at hlen
 have hkey : ∀ j, j < T.length → (T.getD j default).k.l = (((((grpL bs R)[i]).map (prK bs R)) ++ ((grpL bs R).drop (i + 1)).flatten.map (prK bs R)).getD j ([], [])).1 := fun j hj => by
  rw [← hT, List.getD_eq_getElem?_getD, List.getElem?_eq_getElem hj, List.getD_eq_getElem?_getD, List.getElem?_map, List.getElem?_eq_getElem hj];rfl
 have hki : i < (keysV bs R).length := by rw [← grpL_len]; exact h
 have hin : ∀ j, j < ((grpL bs R)[i]).length → rowsV (T.getD j default).k.l (keysV bs R)[i] = 0 := fun j hj => by
  rw [hkey j (by omega), List.getD_eq_getElem?_getD, List.getElem?_append_left (by rw [List.length_map]; exact hj), List.getElem?_map, List.getElem?_eq_getElem hj]
  have hmem : ∀ x ∈ (grpL bs R)[i], x ∈ grpI bs R ((keysV bs R)[i]) := fun x hx => by rw [grpL_at h] at hx; exact hx
  exact grpI_key _ (hmem _ (List.getElem_mem hj))
 refine ⟨hp, by omega, fun k hk => rows_zz (hin 0 hp) (rows_sym (hin k hk)), fun hlt e => ?_⟩
 have h2 : i + 1 < (grpL bs R).length := by
  rcases Nat.lt_or_ge (i + 1) (grpL bs R).length with h2 | h2
  ·exact h2
  ·rw [List.drop_eq_nil_of_le h2] at hlen
   simp at hlen
   omega
 have hki2 : i + 1 < (keysV bs R).length := by rw [← grpL_len]; exact h2
 have hnx : rowsV (T.getD ((grpL bs R)[i]).length default).k.l (keysV bs R)[i + 1] = 0 := by
  rw [hkey _ hlt, List.getD_eq_getElem?_getD, List.getElem?_append_right (by rw [List.length_map]; omega), List.length_map, Nat.sub_self, List.getElem?_map, List.drop_eq_getElem_cons h2, List.flatten_cons]
  obtain ⟨j, l, e1, e2⟩ := grpI_first (List.getElem_mem hki2);rw [grpL_at h2, e1];simp only [List.cons_append, List.getElem?_cons_zero, Option.map_some, Option.getD_some];show rowsV (keyV bs R j) _ = 0
  rw [e2];exact rows_refl0 _
 have hup := List.pairwise_iff_getElem.1 (keysV_ok bs R).up i (i + 1) hki hki2 (by omega)
 have h3 := rows_zz (rows_sym (hin 0 hp)) (rows_zz e hnx)
 omega
theorem keysV_nil {R : List (List Val)} (hR : R ≠ []) : keysV [] R = [[]] := by
 have hk := keysV_ok [] R
 have h0 : ∀ k ∈ keysV [] R, k = [] := fun k hm => by
  obtain ⟨l, _, e⟩ := hk.first k hm;rw [← e];rfl
 obtain ⟨l, R', rfl⟩ := List.exists_cons_of_ne_nil hR;obtain ⟨k, hm, _⟩ := hk.each l (List.mem_cons_self ..);have hu := hk.up
 generalize keysV [] (l :: R') = ks at *
 match ks, hm, h0, hu with
 | [x], _, h0, _ => rw [h0 x (by simp)]
 | x :: y :: ks, _, h0, hu =>
  rw [Up, List.pairwise_cons] at hu;have := hu.1 y (by simp)
  rw [h0 x (by simp), h0 y (by simp), rows_refl0] at this
  omega
theorem refG_some {bs : List Int} {gs : List (Int × Int)} {R : List (List Val)} (hR : R ≠ []) : refG bs gs R = (keysV bs R).map fun k => k ++ gs.map (tellV (R.filter fun l => rowsV (pickV l bs) k == 0)) := by
 unfold refG
 by_cases hb : bs = []
 ·rw [if_pos hb, hb, keysV_nil hR]
 ·rw [if_neg hb]
def tvG (bs : List Int) (R : List (List Val)) (i : Nat) (ag : Int × Int) : Val := tellV (R.filter fun l => rowsV (pickV l bs) ((keysV bs R).getD i []) == 0) ag
theorem grpR_refG {bs : List Int} {gs : List (Int × Int)} {R : List (List Val)} (hR : R ≠ []) : grpR (srtM bs R) (grpL bs R).length (csG bs R) gs (tvG bs R) = refG bs gs R := by
 rw [refG_some hR];unfold grpR
 apply List.ext_getElem?
 intro i
 by_cases h : i < (grpL bs R).length
 ·have hki : i < (keysV bs R).length := by rw [← grpL_len]; exact h
  have hp := grp_pos h
  have hc : csG bs R i < (srtM bs R).length := by have := csG_le bs R (i + 1); rw [csG_succ h] at this; omega
  have e1 : ((srtM bs R).getD (csG bs R i) ([], [])).1 = (keysV bs R)[i] := by
   have h1 : (srtM bs R)[csG bs R i]? = ((srtM bs R).drop (csG bs R i))[0]? := by rw [List.getElem?_drop]; rfl
   obtain ⟨j, l, e2, e3⟩ := grpI_first (List.getElem_mem hki);rw [srtM_drop, List.drop_eq_getElem_cons h, List.flatten_cons, grpL_at h, e2] at h1;rw [List.getD_eq_getElem?_getD, h1];simp only [List.cons_append, List.map_cons, List.getElem?_cons_zero, Option.getD_some];exact e3
  rw [List.getElem?_map, List.getElem?_map, List.getElem?_range h, List.getElem?_eq_getElem hki];simp only [Option.map_some];rw [e1]
  have e4 : tvG bs R i = tellV (R.filter fun l => rowsV (pickV l bs) (keysV bs R)[i] == 0) := by
   funext ag
   unfold tvG
   rw [List.getD_eq_getElem?_getD, List.getElem?_eq_getElem hki];rfl
  rw [e4]
 ·have h' := h
  rw [grpL_len] at h';rw [List.getElem?_eq_none (by simp; omega), List.getElem?_eq_none (by simp; omega)]
theorem groupNone (n : Nat) (hn : 4 ≤ n) (q1 q2 q3 : Nat) (fr : Bool) (g : Nat) (lb : Array Value) (RR : List (List Val)) (jsr js : List Nat) (ba : Option Addr) (bc : Nat) (bs : List Int) (ga : Option Addr) (gc : Nat) (gs : List (Int × Int)) (tv : Int × Int → Val) (w : World)
  (heg : ∀ args w, (callFunc g args).run Tryz.prog w = .ok (.enter g args) w)
  (c1 : w.cell? ⟨q1, 0, none⟩ = some (.func (.func g) #[] lb)) (c2 : w.cell? ⟨q2, 0, none⟩ = some (.slice ba bs.length bc)) (c3 : w.cell? ⟨q3, 0, none⟩ = some (.slice ga gs.length gc))
  (hq : ∀ q ∈ [q1, q2, q3], q ∈ js) (hjr : ∀ j ∈ jsr, j ∈ js) (hjb : ∀ j ∈ js, j < w.heap.size)
  (hb : IntE.Row w (.slice ba bs.length bc) bs) (hbj : ∀ k ∈ blk ba, k ∈ js) (hg : AgE.See w ga gs) (hgj : ∀ k ∈ blk ga, k ∈ js)
  (hR : ∀ n, 3 ≤ n → RowSeq fr n g lb RR jsr w) (hRR : RR = []) (hbl : bs.length ≤ 3000000000000)
  (hbs : bs = []) (hgl : gs.length ≤ 3000000000000) (htell : ∀ ag ∈ gs, ∀ (W : World), Calls Tryz.prog 167 #[.slice none 0 0, .agg #[.int .i64 ag.1, .int .i64 ag.2]] W fun e w' => e = .returned (.agg #[.int .i64 (tv ag).k, .bool (tv ag).b, .int .i64 (tv ag).n, .string (tv ag).t]) ∧ Kp [] W w') :
  RowSeq true n 141 #[.pointer (some ⟨q1, 0, none⟩), .pointer (some ⟨q2, 0, none⟩), .pointer (some ⟨q3, 0, none⟩)] [gs.map tv] js w := by
 intro ly J Jx W hW hT hX hY h0
 obtain ⟨zl, hzl⟩ : ∃ z, Hid (gs.map tv = z) := ⟨_, hid rfl⟩
 rw [hzl.out] at hT ⊢;subst hRR;subst hbs;have HTE := hid htell
 clear htell;have kjs := hW.js
 have d1 := kjs.cell (hq q1 (by simp)) c1
 have d2 := kjs.cell (hq q2 (by simp)) c2
 have d3 := kjs.cell (hq q3 (by simp)) c3
 have hjW : ∀ j ∈ js, j < W.heap.size := fun j hj => Nat.lt_of_lt_of_le (hjb j hj) kjs.1
 have ckW := ckOfKeepB kjs
 have cM := hid (callsIn_wide.1 (cMembersG 4 (by omega) fr g lb [] jsr ba bc [] (srtM [] []) W heg ((hR 3 (by omega)).move ⟨kjs.1, fun j hj o ho => kjs.2 j (hjr j hj) o ho⟩) (fun j hj => hjW j (hjr j hj)) (by simp) (by simp) (ckRow ckW hb hbj) hbl (sortM [] [] (by simp))))
 dsimp only [List.length_nil] at cM d2;have hgW : Hid (AgE.See W ga gs) := ckSee ckW hg hgj
 have h0' := hid h0
 have hjW' := hid hjW
 clear c1 c2 c3 hR hW kjs hjb h0 hb hbj hg hgj ckW hq hjr hjW;refine callsIn_of_wp Tryz.func141 rfl trivial ?_ rfl;simp only [Tryz.ntmps141, List.size_toArray, List.length_cons, List.length_nil, Nat.reduceAdd, Nat.reduceSub, Array.replicate_succ, Array.replicate_zero, List.push_toArray, List.append_toArray, List.nil_append, List.cons_append];gi_wp2_with fail;refine ⟨trivial, fun h => (by cases h), (callsIn_wide.2 cM.out).mono ?_⟩
 rintro e W2 ⟨ra, rc, L, rfl, hlot, hL, k2⟩;have hLl : L.length = 0 := by have := congrArg List.length hL; rw [List.length_map, srtM_len] at this; exact this
 have hJ2 : J ⟨true, W2.heap.size, [], js, 0, none⟩ W2 := hT _ _ _ _ h0'.out ⟨TurnR.ofKp0 k2, fun h => (by cases h), fun _ => ⟨rfl, k2.size, by simp⟩, fun j hj => .inl hj, rfl, .inl rfl⟩
 have c22 := kpAt k2 d2
 have c32 := kpAt k2 d3
 have hg2 : Hid (AgE.See W2 ga gs) := hgW.out.keptNew k2
 have k2' := hid k2
 obtain ⟨B0, hB0⟩ : ∃ B, Hid (W2.heap.size = B) := ⟨_, hid rfl⟩
 rw [hB0.out] at hJ2;rw [hLl];have hz : Hid (L.length = 0) := hid hLl
 clear cM hlot hL k2 d1 d2 d3 hgW hLl;have cTd := hid (cTold none 0 [] none 0 0 ga gc gs tv W2 ⟨.inl rfl, Nat.le_refl _, by simp [maxLen], fun _ => rfl⟩ hg2.out (by simpa using hgl) (fun ag hag W' _ => HTE.out ag hag W'))
 rw [List.nil_append] at cTd;rw [hzl.out] at cTd;gi_wp2_with fail;refine ⟨trivial, fun h => (by cases h), (callsIn_wide.2 cTd.out).mono ?_⟩
 rintro e Wz ⟨za, zc, rfl, hzrow, kz, hzb⟩;have hzl2 := rowLies hzrow
 have hjz : Hid (∀ j ∈ js, j < W2.heap.size) := hid (fun j hj => Nat.lt_of_lt_of_le (hjW'.out j hj) k2'.out.size)
 have hJz : J ⟨true, B0, [], js, 0, some ⟨za, zc, zl⟩⟩ Wz := hT _ _ _ _ hJ2 ⟨TurnR.ofKp0 kz, fun _ => ⟨rfl, rfl, fun q hq => .inl hq⟩, fun e => (by cases e), fun j hj => .inl hj, rfl, .inr ⟨_, rfl, by simp, hzl2, fun _ => ⟨hzrow, fun j hj => ⟨hzb j hj, fun hm => by have := hjz.out j hm; have := hzb j hj; omega, by simp⟩⟩⟩⟩
 obtain ⟨fn, tmps, assign, body, hyl5, hR⟩ := hY _ ⟨za, zc, zl⟩ Wz hJz rfl;have hR' := hid hR
 dsimp only [encR] at hyl5;clear hR hJz hzl2 hzrow kz hzb cTd hJ2;gi_wp2_with fail;refine ⟨fun h => (by cases h), hR'.out.mono ?_⟩
 rintro e A3 (⟨rfl, hJ3, hk3⟩ | ⟨rfl, hJ3, hk3⟩)
 ·have hJ4 : J ⟨true, B0, [], js, 1, none⟩ A3 := hJ3
  clear hR' hyl5 hJ3 hk3;gi_wp2_with fail;refine bodyPost_ret (results_none rfl _ _ _) rfl ?_;exact ⟨⟨_, rfl⟩, .inl ⟨_, ⟨rfl, by simp, rfl⟩, hJ4⟩⟩
 ·have hJ4 := hid hJ3
  clear hR' hyl5 hJ3 hk3;gi_wp2_with fail;refine bodyPost_ret (results_none rfl _ _ _) rfl ?_;exact ⟨⟨_, rfl⟩, .inr ⟨_, rfl, hJ4.out⟩⟩
theorem groupNil (n : Nat) (hn : 4 ≤ n) (q1 q2 q3 : Nat) (fr : Bool) (g : Nat) (lb : Array Value) (RR : List (List Val)) (jsr js : List Nat) (ba : Option Addr) (bc : Nat) (bs : List Int) (ga : Option Addr) (gc : Nat) (gs : List (Int × Int)) (tv : Int × Int → Val) (w : World)
  (heg : ∀ args w, (callFunc g args).run Tryz.prog w = .ok (.enter g args) w)
  (c1 : w.cell? ⟨q1, 0, none⟩ = some (.func (.func g) #[] lb)) (c2 : w.cell? ⟨q2, 0, none⟩ = some (.slice ba bs.length bc)) (c3 : w.cell? ⟨q3, 0, none⟩ = some (.slice ga gs.length gc))
  (hq : ∀ q ∈ [q1, q2, q3], q ∈ js) (hjr : ∀ j ∈ jsr, j ∈ js) (hjb : ∀ j ∈ js, j < w.heap.size)
  (hb : IntE.Row w (.slice ba bs.length bc) bs) (hbj : ∀ k ∈ blk ba, k ∈ js) (hg : AgE.See w ga gs) (hgj : ∀ k ∈ blk ga, k ∈ js)
  (hR : ∀ n, 3 ≤ n → RowSeq fr n g lb RR jsr w) (hRR : RR = []) (hbl : bs.length ≤ 3000000000000)
  (hbs : bs ≠ []) :
  RowSeq true n 141 #[.pointer (some ⟨q1, 0, none⟩), .pointer (some ⟨q2, 0, none⟩), .pointer (some ⟨q3, 0, none⟩)] [] js w := by
 intro ly J Jx W hW hT hX hY h0
 subst hRR;have hbs2 := hid hbs
 clear hbs;have kjs := hW.js
 have d1 := kjs.cell (hq q1 (by simp)) c1
 have d2 := kjs.cell (hq q2 (by simp)) c2
 have d3 := kjs.cell (hq q3 (by simp)) c3
 have hjW : ∀ j ∈ js, j < W.heap.size := fun j hj => Nat.lt_of_lt_of_le (hjb j hj) kjs.1
 have ckW := ckOfKeepB kjs
 have cM := hid (callsIn_wide.1 (cMembersG 4 (by omega) fr g lb [] jsr ba bc bs (srtM bs []) W heg ((hR 3 (by omega)).move ⟨kjs.1, fun j hj o ho => kjs.2 j (hjr j hj) o ho⟩) (fun j hj => hjW j (hjr j hj)) (by simp) (by simp) (ckRow ckW hb hbj) hbl (sortM bs [] (by simp))))
 have hgW : Hid (AgE.See W ga gs) := ckSee ckW hg hgj
 have h0' := hid h0
 have hjW' := hid hjW
 clear c1 c2 c3 hR hW kjs hjb h0 hb hbj hg hgj ckW hq hjr hjW;refine callsIn_of_wp Tryz.func141 rfl trivial ?_ rfl;simp only [Tryz.ntmps141, List.size_toArray, List.length_cons, List.length_nil, Nat.reduceAdd, Nat.reduceSub, Array.replicate_succ, Array.replicate_zero, List.push_toArray, List.append_toArray, List.nil_append, List.cons_append];gi_wp2_with fail;refine ⟨trivial, fun h => (by cases h), (callsIn_wide.2 cM.out).mono ?_⟩
 rintro e W2 ⟨ra, rc, L, rfl, hlot, hL, k2⟩;have hLl : L.length = 0 := by have := congrArg List.length hL; rw [List.length_map, srtM_len] at this; exact this
 have hJ2 : J ⟨true, W2.heap.size, [], js, 0, none⟩ W2 := hT _ _ _ _ h0'.out ⟨TurnR.ofKp0 k2, fun h => (by cases h), fun _ => ⟨rfl, k2.size, by simp⟩, fun j hj => .inl hj, rfl, .inl rfl⟩
 have c22 := kpAt k2 d2
 have c32 := kpAt k2 d3
 have hg2 : Hid (AgE.See W2 ga gs) := hgW.out.keptNew k2
 have k2' := hid k2
 obtain ⟨B0, hB0⟩ : ∃ B, Hid (W2.heap.size = B) := ⟨_, hid rfl⟩
 rw [hB0.out] at hJ2;rw [hLl];have hz : Hid (L.length = 0) := hid hLl
 clear cM hlot hL k2 d1 d2 d3 hgW hLl;have hb1 : ((bs.length : Int) == 0) = false := beq_eq_false_iff_ne.2 (by have := List.length_pos_iff.2 hbs2.out; omega)
 have HJ2 := hid hJ2
 gi_wp2_with fail;gi_loopw [5] (fun v5 wr => v5 = .slice ra 0 rc ∧ Hid (wr = W2)) (fun v5 _ => 0)
 case atStart => exact ⟨rfl, hid rfl⟩
 case round =>
  obtain ⟨rfl, hwr⟩ := hrel;have hJ3 := HJ2.out
  rw [← hwr.out] at hJ3;have HJ3 := hid hJ3
  clear hJ3 hJ2 c22 c32;gi_wp2_with fail;go_end0
  exact ⟨⟨_, rfl⟩, .inl ⟨_, ⟨rfl, by simp, rfl⟩, HJ3.out⟩⟩
end Go.Proofs.YtcgkkofmnajedaaGreatDoor
end

section
namespace Go.Proofs.YtcgkkofmnajedaaGreatDoor
open Go.RowKit Go.Hay
theorem mbLen {w : World} {x : Mb} (h : Mb.lies w x) : x.k.l.length ≤ 9223372036854775807 ∧ x.r.l.length ≤ 9223372036854775807 := by
 have h1 := h.k.cap; have h2 := h.k.most; have h3 := h.r.cap; have h4 := h.r.most
 unfold maxLen at h2 h4
 omega
theorem groupAll (q3 q4 q5 : Nat) (fr : Bool) (g : Nat) (lb : Array Value) (R : List (List Val)) (jsr : List Nat) (ba : Option Addr) (bc : Nat) (bs : List Int) (ga : Option Addr) (gc : Nat) (gs : List (Int × Int)) (w : World)
  (heg : ∀ args w, (callFunc g args).run Tryz.prog w = .ok (.enter g args) w) (hR : ∀ n, 3 ≤ n → RowSeq fr n g lb R jsr w) (hjr : ∀ j ∈ jsr, j < w.heap.size) (hRl : R.length ≤ 4000000000000) (hRr : ∀ l ∈ R, l.length ≤ 3600000000000)
  (c1 : w.cell? ⟨q3, 0, none⟩ = some (.func (.func g) #[] lb)) (c2 : w.cell? ⟨q4, 0, none⟩ = some (.slice ba bs.length bc)) (c3 : w.cell? ⟨q5, 0, none⟩ = some (.slice ga gs.length gc))
  (hb : IntE.Row w (.slice ba bs.length bc) bs) (hg : AgE.Row w (.slice ga gs.length gc) gs) (hl : bs.length + gs.length ≤ 3000000000000) :
  ∃ js, (∀ j ∈ js, j < w.heap.size) ∧ ∀ n, 4 ≤ n → RowSeq true n 141 #[.pointer (some ⟨q3, 0, none⟩), .pointer (some ⟨q4, 0, none⟩), .pointer (some ⟨q5, 0, none⟩)] (refG bs gs R) js w := by
 have hjs : ∀ j ∈ jsr ++ ([q3, q4, q5] ++ (blk ba ++ blk ga)), j < w.heap.size := fun j hj => by
  rcases List.mem_append.1 hj with e | e
  ·exact hjr j e
  ·rcases List.mem_append.1 e with e | e
   ·simp at e
    rcases e with rfl | rfl | rfl
    ·exact World.block_lt_of_cell? _ _ c1
    ·exact World.block_lt_of_cell? _ _ c2
    ·exact World.block_lt_of_cell? _ _ c3
   ·rcases List.mem_append.1 e with e | e
    ·exact hb.lt j (by rw [ownV]; exact e)
    ·exact hg.lt j (by rw [ownV]; exact e)
 obtain ⟨a', c', e, hgs, _⟩ := hg.see
 cases e
 have m1 : ∀ q ∈ [q3, q4, q5], q ∈ jsr ++ ([q3, q4, q5] ++ (blk ba ++ blk ga)) := fun q hq => List.mem_append.2 (.inr (List.mem_append.2 (.inl hq)))
 have m2 : ∀ j ∈ jsr, j ∈ jsr ++ ([q3, q4, q5] ++ (blk ba ++ blk ga)) := fun j hj => by simp [hj]
 have m3 : ∀ k ∈ blk ba, k ∈ jsr ++ ([q3, q4, q5] ++ (blk ba ++ blk ga)) := fun k hk => by simp [hk]
 have m4 : ∀ k ∈ blk ga, k ∈ jsr ++ ([q3, q4, q5] ++ (blk ba ++ blk ga)) := fun k hk => by simp [hk]
 refine ⟨_, hjs, fun n hn => ?_⟩
 by_cases hR0 : R = []
 ·by_cases hbs : bs = []
  ·have h := groupNone n hn q3 q4 q5 fr g lb R jsr _ ba bc bs ga gc gs (tellV []) w heg c1 c2 c3 m1 m2 hjs hb m3 hgs m4 hR hR0 (by omega) hbs (by omega) (fun ag hag W => cTellV none 0 [] ag.1 ag.2 W (.inl rfl) (by simp) (by simp) (by simp))
   unfold refG
   rw [if_pos hbs, hR0];exact h
  ·have h := groupNil n hn q3 q4 q5 fr g lb R jsr _ ba bc bs ga gc gs (tellV []) w heg c1 c2 c3 m1 m2 hjs hb m3 hgs m4 hR hR0 (by omega) hbs
   unfold refG
   rw [if_neg hbs, hR0];exact h
 ·have hSl := srtM_len bs R
  have hRp := List.length_pos_iff.2 hR0
  have h := groupSeq n hn q3 q4 q5 fr g lb R jsr _ ba bc bs ga gc gs (srtM bs R) (grpL bs R).length (csG bs R) (tvG bs R) w heg c1 c2 c3 m1 m2 hjs hb m3 hgs m4 hR hRl hRr (by omega) (sortM bs R hRl)
   (fun e => by rw [e] at hSl; simp at hSl; omega) (by rw [hSl]; exact hRl) (by simp [csG]) (csG_top bs R)
   (fun i hi => ⟨by rw [csG_succ hi]; have := grp_pos hi; omega, csG_le bs R (i + 1)⟩)
   (fun p hp => by
    unfold srtM at hp
    obtain ⟨i, _, rfl⟩ := List.mem_map.1 hp;show (keyV bs R i).length + gs.length ≤ _
    unfold keyV pickV
    rw [List.length_map];exact hl)
   (fun i hi W a c T hs hx hT => by
    obtain ⟨t1, t2, t3, t4⟩ := together_at hi T hT;rw [csG_succ hi, Nat.add_sub_cancel_left];exact cTogV a c _ T W hs hx (by have := congrArg List.length hT; rw [List.length_map, List.length_drop, hSl] at this; omega) (fun x hm => (mbLen (hx x hm)).1) t1 t2 t3 t4)
   (fun i hi ag hag W a c T hs hx hT => by
    rw [srtM_part hi] at hT;have h1 := cTellV a c T ag.1 ag.2 W hs hx (by have := congrArg List.length hT; rw [List.length_map, List.length_map] at this; have h2 := csG_le bs R (i + 1); rw [csG_succ hi, hSl] at h2; omega) (fun x hm => (mbLen (hx x hm)).2)
    have h2 : T.map (·.r.l) = R.filter fun l => rowsV (pickV l bs) ((keysV bs R).getD i []) == 0 := by
     have h3 := congrArg (List.map Prod.snd) hT
     have hki : i < (keysV bs R).length := by rw [← grpL_len]; exact hi
     have h4 : ((grpL bs R)[i].map (prK bs R)).map Prod.snd = R.filter fun l => rowsV (pickV l bs) ((keysV bs R)[i]) == 0 := by
      rw [← prK_snd, grpL_at hi]
     rw [h4, List.map_map] at h3;rw [List.getD_eq_getElem?_getD, List.getElem?_eq_getElem hki, Option.getD_some];exact h3
    rw [h2] at h1;exact h1)
  rw [grpR_refG hR0] at h;exact h
end Go.Proofs.YtcgkkofmnajedaaGreatDoor
end

section
namespace Go.Proofs.YtcgkkofmnajedaaGreatDoor
open Go.RowKit Go.Hay
attribute [local go_sem] Oper.semAt_some
def OrE : El (Int × Bool) where
 n := 2
 c x := [.int .i64 x.1, .bool x.2]
 len _ := rfl
 one _ u hu := by simp at hu; rcases hu with rfl | rfl <;> rfl
 pos := by decide
theorem orAt {w : World} {a : Option Addr} {l : List (Int × Bool)} (h : OrE.See w a l) (j : Nat) (hj : j < l.length) : ∃ g o, a = some ⟨g, o, none⟩ ∧ w.cell? ⟨g, o + j * 2, none⟩ = some (.int .i64 l[j].1) ∧ w.cell? ⟨g, o + j * 2 + 1, none⟩ = some (.bool l[j].2) := by
 obtain ⟨g, o, e, hc⟩ := h.at (j := j) (x := l[j]) (by simp [hj])
 exact ⟨g, o, e, hc 0 _ rfl, hc 1 _ rfl⟩
theorem boxOr (w : World) (x : Int) (y : Bool) : ∃ q W1 W2, w.heap.size = q ∧ w.alloc (.cells #[.int .i64 0, .bool false] 106) = W1 ∧ Bn W1 q [.int .i64 0, .bool false] ∧ (W1.setCell ⟨q, 0, none⟩ (.int .i64 x)).setCell ⟨q, 1, none⟩ (.bool y) = W2 ∧ Bn W2 q [.int .i64 x, .bool y] ∧ Kp [] w W2 := by
 have b0 := Bn.new w [.int .i64 0, .bool false] 106
 have k0 : Kp [] w (w.alloc (.cells #[.int .i64 0, .bool false] 106)) := (Kp.refl _ _).alloc _
 have h : w.heap.size ∈ ([] : List Nat) ∨ w.heap.size ≤ w.heap.size := .inr (Nat.le_refl _)
 exact ⟨_, _, _, rfl, rfl, b0, rfl, (b0.set 0 (by simp) (.int .i64 x)).set 1 (by simp) (.bool y), (k0.setCell h _).setCell h _⟩
def dirC (d : Bool) (k : Int) : Int := if d then -k else k
def cmpO : List (Int × Bool) → List Val → List Val → Int
 | [], a, b => rowsV a b
 | o :: os, a, b => if dirC o.2 (cmpV (vAt a o.1) (vAt b o.1)) = 0 then cmpO os a b else dirC o.2 (cmpV (vAt a o.1) (vAt b o.1))
theorem cmpO_drop (os : List (Int × Bool)) (a b : List Val) (j : Nat) (h : j < os.length) : cmpO (os.drop j) a b = if dirC os[j].2 (cmpV (vAt a os[j].1) (vAt b os[j].1)) = 0 then cmpO (os.drop (j + 1)) a b else dirC os[j].2 (cmpV (vAt a os[j].1) (vAt b os[j].1)) := by
 rw [List.drop_eq_getElem_cons h];rfl
theorem cCmpO (x y : Vs) (oa : Option Addr) (oc : Nat) (os : List (Int × Bool)) (w : World) (hx : x.lies w) (hy : y.lies w) (ho : OrE.See w oa os) (hol : os.length ≤ 4000000000000) :
  Calls Tryz.prog 107 #[.slice x.a x.l.length x.c, .slice y.a y.l.length y.c, .slice oa os.length oc] w fun e w' => e = .returned (.int .i64 (cmpO os x.l y.l)) ∧ Kp [] w w' := by
 obtain ⟨xa, xc, xl⟩ := x;obtain ⟨ya, yc, yl⟩ := y;have h1 := hx.cap; have h2 := hx.most; have h3 := hy.cap; have h4 := hy.most
 unfold maxLen at h2 h4
 dsimp only at *;have HX := hid hx
 have HY := hid hy
 have HO := hid ho
 obtain ⟨Z, hZ⟩ : ∃ Z, Hid (cmpO os xl yl = Z) := ⟨_, rfl⟩
 rw [hZ.out];clear hx hy ho;go_enter Tryz.func107, Tryz.ntmps107
 go_wp2_with fail;go_loopw [12] (fun i wr => ∃ j : Nat, j ≤ os.length ∧ i = .int .i64 (j : Int) ∧ Hid (cmpO (os.drop j) xl yl = Z) ∧ Hid (Kp [] w wr)) (fun i _ => os.length - (intOf i).toNat)
 case atStart => exact ⟨0, Nat.zero_le _, rfl, hZ, Kp.refl _ _⟩
 case round =>
  obtain ⟨j, hj, rfl, hz, H⟩ := hrel
  by_cases hlt : j < os.length
  ·obtain ⟨g, o, ea, c0, c1⟩ := orAt HO.out j hlt
   have cg0 := kpAt H.out c0
   have cg1 := kpAt H.out c1
   have hdr := hid (cmpO_drop os xl yl j hlt)
   obtain ⟨p, hp⟩ : ∃ p, Hid (os[j] = p) := ⟨os[j], rfl⟩
   rw [hp.out] at cg0 cg1 hdr;obtain ⟨col, dn⟩ := p;dsimp only at cg0 cg1 hdr;obtain ⟨q8, W1, W2, eq8, e1, b1, e2, b2, kb⟩ := boxOr wr col dn;have m0 := b1.get 0 _ rfl; have m1 := b1.get 1 _ rfl
   have f0 := b1.free 0; have f1 := b1.free 1
   have KW := hid (H.out.trans kb (by simp))
   have hS : Hid (∀ A, Kp [] W2 A → A.cell? ⟨q8, 0, none⟩ = some (.int .i64 col) ∧ A.cell? ⟨q8, 1, none⟩ = some (.bool dn)) := fun A k => ⟨(b2.kept k).get 0 _ rfl, (b2.kept k).get 1 _ rfl⟩
   have cA : Hid (∀ A, Kp [] w A → Calls Tryz.prog 99 #[.slice xa xl.length xc, .int .i64 col] A fun e w' => e = .returned (.agg #[.int .i64 (vAt xl col).k, .bool (vAt xl col).b, .int .i64 (vAt xl col).n, .string (vAt xl col).t]) ∧ Kp [] A w') := fun A k => cAtE xa xc xl col A (HX.out.see.kept k) (by omega)
   have cB : Hid (∀ A, Kp [] w A → Calls Tryz.prog 99 #[.slice ya yl.length yc, .int .i64 col] A fun e w' => e = .returned (.agg #[.int .i64 (vAt yl col).k, .bool (vAt yl col).b, .int .i64 (vAt yl col).n, .string (vAt yl col).t]) ∧ Kp [] A w') := fun A k => cAtE ya yc yl col A (HY.out.see.kept k) (by omega)
   obtain ⟨⟨uk, ub, un, ut⟩, hu⟩ : ∃ y, Hid (vAt xl col = y) := ⟨_, rfl⟩
   obtain ⟨⟨vk, vb, vn, vt⟩, hv⟩ : ∃ y, Hid (vAt yl col = y) := ⟨_, rfl⟩
   simp only [hu.out] at cA;simp only [hv.out] at cB;rw [hu.out, hv.out] at hdr;have cC := hid (fun A => cCompare ⟨uk, ub, un, ut⟩ ⟨vk, vb, vn, vt⟩ A)
   simp only [Val.v] at cC;have hrg := cmp_range ⟨uk, ub, un, ut⟩ ⟨vk, vb, vn, vt⟩
   obtain ⟨C, hC⟩ : ∃ C, Hid (cmpV ⟨uk, ub, un, ut⟩ ⟨vk, vb, vn, vt⟩ = C) := ⟨_, rfl⟩
   simp only [hC.out] at cC;rw [hC.out] at hdr hrg;have i1 : (0 : Int) ≤ (j : Int) := by omega
   have i2 : (j : Int) < (os.length : Int) := by omega
   have i3 : (j : Int) + 1 ≤ 9223372036854775807 := by omega
   subst ea;clear c0 c1 b1 b2 kb;go_wp2_with fail;refine wp_noPanicY ?_;refine wp_region_held_drew (S := fun A => A.cell? ⟨q8, 0, none⟩ = some (.int .i64 col) ∧ A.cell? ⟨q8, 1, none⟩ = some (.bool dn)) (by kernel_rfl) (hS.out _ (Kp.refl _ _).drew) (fun hHeld => ?_)
   have KD : Hid (Kp [] W2 W2.drew) := hid (Kp.refl _ _).drew
   generalize W2.drew = wd at *
   refine tkH ?_ 0 rfl (by kernel_rfl) (fun _ _ _ h => by cases h.1) (by rfl) ?_ ‹_› ?_;rotate_left
   ·intro w h; (try dsimp only at h); go_simp <;> with_reducible rfl
   (try simp only [Act.put, lz]);refine tkH ?_ 1 rfl (by kernel_rfl) (fun _ _ _ h => by cases h.1) (by rfl) ?_ ‹_› ?_;rotate_left
   ·intro w h; (try dsimp only at h); go_simp <;> with_reducible rfl
   (try simp only [Act.put, lz]);refine tkH ?_ 2 rfl (by kernel_rfl) (fun _ _ _ h => by cases h.1) (by rfl) ?_ ‹_› ?_;rotate_left
   ·intro w h; (try dsimp only at h); go_simp <;> with_reducible rfl
   (try simp only [Act.put, lz]);refine tkH ?_ 4 rfl (by kernel_rfl) (fun _ _ _ h => by cases h.1) (by rfl) ?_ ‹_› ?_;rotate_left
   ·intro w h; (try dsimp only at h); go_simp <;> with_reducible rfl
   (try simp only [Act.put, lz]);refine tkH ?_ 5 rfl (by kernel_rfl) (fun _ _ _ h => by cases h.1) (by rfl) ?_ ‹_› ?_;rotate_left
   ·intro w h; (try dsimp only at h); go_simp <;> with_reducible rfl
   (try simp only [Act.put, lz]);refine tkH ?_ 6 rfl (by kernel_rfl) (fun _ _ _ h => by cases h.1) (by rfl) ?_ ‹_› ?_;rotate_left
   ·intro w h; (try dsimp only at h); go_simp <;> with_reducible rfl
   (try simp only [Act.put, lz]);refine rdH 3 (by kernel_rfl) rfl fun K hK => ?_
   go_simp;refine (cA.out wd (KW.out.trans KD.out (by simp))).mono ?_
   rintro e we ⟨rfl, ke⟩;(try go_wp2_with fail);refine hK.out _ _ ?_ (fun hHeld => ?_)
   ·exact hS.out we (KD.out.trans ke (by simp))
   clear hK K;(try simp only [Act.put, lz]);have KE := hid (KD.out.trans ke (by simp))
   refine rdH 7 (by kernel_rfl) rfl fun K hK => ?_
   go_simp;refine (cB.out we (KW.out.trans KE.out (by simp))).mono ?_
   rintro e wf ⟨rfl, kf⟩;(try go_wp2_with fail);refine hK.out _ _ ?_ (fun hHeld => ?_)
   ·exact hS.out wf (KE.out.trans kf (by simp))
   clear hK K;(try simp only [Act.put, lz]);have KF := hid (KE.out.trans kf (by simp))
   refine rdH 8 (by kernel_rfl) rfl fun K hK => ?_
   go_simp;refine (cC.out wf).mono ?_;rintro e wg ⟨rfl, kg⟩;(try go_wp2_with fail);refine hK.out _ _ ?_ (fun hHeld => ?_)
   ·exact hS.out wg (KF.out.trans kg (by simp))
   clear hK K;(try simp only [Act.put, lz]);refine tkH ?_ 9 rfl (by kernel_rfl) (fun _ _ _ h => by cases h.1) (by rfl) ?_ ‹_› ?_;rotate_left
   ·intro w h; (try dsimp only at h); go_simp <;> with_reducible rfl
   (try simp only [Act.put, lz]);refine wpAnyH_done (by kernel_rfl) ⟨rfl, ?_⟩ _
   have KG := hid (KF.out.trans kg (by simp))
   have KWG := hid (KW.out.trans KG.out (by simp))
   obtain ⟨s0, s1⟩ := hS.out wg KG.out;clear hHeld ke kf kg m0 m1 f0 f1 cg0 cg1
   cases dn with
   | false =>
    by_cases hC0 : C = 0
    ·have d1 : (C != 0) = false := by simpa using hC0
     have hz2 : Hid (cmpO (os.drop (j + 1)) xl yl = Z) := by show _ = _; rw [← hz.out, hdr.out, dirC]; simp [hC0]
     clear hC0;go_wp2_with fail;go_roundw
     case rel => exact ⟨j + 1, by omega, by go_num, hz2, KWG⟩
     case measure => simp [intOf]; omega
    ·have d1 : (C != 0) = true := by simpa using hC0
     have hz2 : Hid (C = Z) := by show _ = _; rw [← hz.out, hdr.out, dirC]; simp [hC0]
     clear hC0;go_wp2_with fail;go_ret;rw [← hz2.out];exact ⟨rfl, KWG.out⟩
   | true =>
    have n1 : (-9223372036854775808 : Int) ≤ -C := by omega
    have n2 : -C ≤ 9223372036854775807 := by omega
    have nw : IntKind.i64.wrap (-C) = -C := by rw [IntKind.wrap_i64]; omega
    by_cases hC0 : C = 0
    ·have d1 : (-C != 0) = false := by simp [hC0]
     have d2 : (C != 0) = false := by simp [hC0]
     have hz2 : Hid (cmpO (os.drop (j + 1)) xl yl = Z) := by show _ = _; rw [← hz.out, hdr.out, dirC]; simp [hC0]
     clear hC0;go_wp2_with fail;go_roundw
     case rel => exact ⟨j + 1, by omega, by go_num, hz2, KWG⟩
     case measure => simp [intOf]; omega
    ·have d1 : (-C != 0) = true := by simpa using hC0
     have hz2 : Hid (-C = Z) := by
      show _ = _
      rw [← hz.out, hdr.out, dirC];simp [hC0]
     clear hC0;go_wp2_with fail;go_ret;rw [← hz2.out];exact ⟨by simp [nw], KWG.out⟩
  ·have hje : os.drop j = [] := List.drop_eq_nil_of_le (by omega)
   have hz2 : Hid (rowsV xl yl = Z) := by show _ = _; rw [← hz.out, hje]; rfl
   have cR := hid (cRows xa ya xc yc xl yl wr (HX.out.see.kept H.out) (HY.out.see.kept H.out) (by omega) (by omega))
   rw [hz2.out] at cR;have dj1 : ¬ (j : Int) < (os.length : Int) := by omega
   have dj2 : decide ((j : Int) < (os.length : Int)) = false := by simp; omega
   clear hje;go_wp2_with fail;refine cR.out.mono ?_;rintro e w2 ⟨rfl, k2⟩;have KF := hid (H.out.trans k2 (by simp))
   clear cR k2;go_wp2_with fail;go_ret;exact ⟨rfl, KF.out⟩
structure Sl (α : Type) where
 a : Option Addr
 c : Nat
 l : List α
abbrev Sl.v {α : Type} (s : Sl α) : Value := .slice s.a s.l.length s.c
structure Sl.ok {α : Type} (E : El α) (W : World) (s : Sl α) : Prop where
 see : E.See W s.a s.l
 nil : s.a = none → s.c = 0
 few : s.l.length ≤ 1048576
theorem Sl.ok.kept {α : Type} {E : El α} {W W' : World} {s : Sl α} (h : s.ok E W) (k : Kp [] W W') : s.ok E W' := ⟨h.see.keptNew k, h.nil, h.few⟩
structure Qy where
 tb : Int
 jn : Bool
 rt : Int
 lo : Int
 ro : Int
 wh : Sl Tm
 cl : Sl Int
 gr : Bool
 by_ : Sl Int
 ag : Sl (Int × Int)
 od : Sl (Int × Bool)
 lim : Int
def Qy.cs (q : Qy) : List Value := [.int .i64 q.tb, .bool q.jn, .int .i64 q.rt, .int .i64 q.lo, .int .i64 q.ro, q.wh.v, q.cl.v, .bool q.gr, q.by_.v, q.ag.v, q.od.v, .int .i64 q.lim]
structure Qy.ok (W : World) (q : Qy) : Prop where
 wh : q.wh.ok TmE W
 cl : q.cl.ok IntE W
 by_ : q.by_.ok IntE W
 ag : q.ag.ok AgE W
 od : q.od.ok OrE W
 lim : q.lim ≤ 9223372036854775807
theorem Qy.ok.kept {W W' : World} {q : Qy} (h : q.ok W) (k : Kp [] W W') : q.ok W' := ⟨h.wh.kept k, h.cl.kept k, h.by_.kept k, h.ag.kept k, h.od.kept k, h.lim⟩
def shapeV (q : Qy) (R : List (List Val)) : List (List Val) := if q.gr then refG q.by_.l q.ag.l R else R.flatMap (projF q.cl.l)
def SmP (R : List (List Val)) : Prop := R.length ≤ 4000000 ∧ ∀ l ∈ R, l.length ≤ 4000000
theorem cShaped (q : Qy) (m : Nat) (fr : Bool) (R : List (List Val)) (g : Nat) (lb : Array Value) (w : World) (hq : q.ok w) (hs : Src m fr R g lb w) (hm : 1 ≤ m ∧ m ≤ 3) (hR : SmP R) :
  Calls Tryz.prog 56 #[.agg q.cs.toArray, .func (.func g) #[] lb] w fun e w' => ∃ g' lb', e = .returned (.func (.func g') #[] lb') ∧ Src 4 true (shapeV q R) g' lb' w' ∧ Kp [] w w' := by
 obtain ⟨w1, hw1, k1, b1⟩ : ∃ x, w.alloc (.cells q.cs.toArray 31) = x ∧ Kp [] w x ∧ Bn x w.heap.size q.cs := ⟨_, rfl, (Kp.refl _ _).alloc _, Bn.new w _ _⟩
 obtain ⟨q2, hq2⟩ : ∃ x, w.heap.size = x := ⟨_, rfl⟩
 rw [hq2] at b1;obtain ⟨heg, js, hjs, hsq⟩ := hs;have HQ := hid (hq.kept k1)
 have HSQ := hid (And.intro hjs hsq)
 have HRR := hid hR
 have K1 := hid k1
 obtain ⟨tb, jn, rt, lo, ro, ⟨wa, wc, wl⟩, ⟨ca, cc, cl⟩, gr, ⟨ya, yc, yl⟩, ⟨ga, gc, gl⟩, ⟨oa, oc, ol⟩, lim⟩ := q;have s6 := b1.get 6 _ rfl
 have s7 := b1.get 7 _ rfl
 have s8 := b1.get 8 _ rfl
 have s9 := b1.get 9 _ rfl
 simp only [Qy.cs, Sl.v] at hw1 ⊢;dsimp only [Sl.v] at s6 s7 s8 s9;have h1 := HQ.out.cl; have h2 := HQ.out.by_; have h3 := HQ.out.ag
 dsimp only at h1 h2 h3
 cases gr with
 | true =>
  have cG := hid (cGroupE g lb ya yc yl ga gc gl w1 h2.see h2.nil (by have := h2.few; dsimp only at this; omega) h3.see h3.nil (by have := h3.few; dsimp only at this; omega))
  have hfew : yl.length ≤ 1048576 ∧ gl.length ≤ 1048576 := ⟨h2.few, h3.few⟩
  have HF := hid hfew
  clear b1 k1 hjs hsq h1 h2 h3 hq hR hfew;go_enter Tryz.func56, Tryz.ntmps56
  go_wp2_with fail;refine cG.out.mono ?_;rintro e w4 ⟨q3, q4, q5, a4, c4, a5, c5, rfl, g1, g2, g3, gb, gg, _, _, _, _, _, k4⟩;have hall := groupAll q3 q4 q5 fr g lb R js a4 c4 yl a5 c5 gl w4 heg (fun n hn => (HSQ.out.2 n (by omega)).move (KeepB.ofKp (K1.out.trans k4 (by simp)) (by simp))) (fun j hj => Nat.lt_of_lt_of_le (HSQ.out.1 j hj) (K1.out.trans k4 (by simp)).size) (by have := HRR.out.1; omega) (fun l h => by have := HRR.out.2 l h; omega) g1 g2 g3 gb gg (by have := HF.out; omega)
  have HA := hid hall
  have K4 := hid (K1.out.trans k4 (by simp))
  clear hall cG g1 g2 g3 gb gg k4;go_wp2_with fail;go_ret;obtain ⟨js', hj', hs'⟩ := HA.out;exact ⟨_, _, rfl, ⟨heGrp, js', hj', hs'⟩, K4.out⟩
 | false =>
  have cP := hid (cProjE g lb ca cc cl w1 h1.see h1.nil (by have := h1.few; dsimp only at this; omega))
  have hfew : cl.length ≤ 1048576 := h1.few
  have HF := hid hfew
  clear b1 k1 hjs hsq h1 h2 h3 hq hR hfew;go_enter Tryz.func56, Tryz.ntmps56
  go_wp2_with fail;refine cP.out.mono ?_;intro e w4 hP
  have kw : Kp [] w1 w4 := by obtain ⟨_, _, _, _, _, _, _, _, k⟩ := hP; exact k
  obtain ⟨lb', rfl, js', hj', hr', k⟩ := projSrc hP 4 (by omega) fr R js heg (fun n hn => (HSQ.out.2 (n - 1) (by omega)).move (KeepB.ofKp K1.out (by simp))) (fun j hj => Nat.lt_of_lt_of_le (HSQ.out.1 j hj) K1.out.size) (fun l h => by have := HRR.out.2 l h; omega) (by have := HF.out; omega)
  have HA := hid (And.intro hj' hr')
  have K4 := hid (K1.out.trans k (by simp))
  clear hP hj' hr' k kw cP;go_wp2_with fail;go_ret;exact ⟨_, _, rfl, ⟨heProj, js', HA.out.1, HA.out.2⟩, K4.out⟩
structure AtW (q : Nat) (ra : Option Addr) (rc : Nat) (L : List Vs) (js : List Nat) (w : World) : Prop where
 box : w.cell? ⟨q, 0, none⟩ = some (.slice ra L.length rc)
 see : VsE.See w ra L
 lies : ∀ x ∈ L, x.lies w
 len : L.length ≤ 9223372036854775807
 q_ : q ∈ js
 ra_ : L ≠ [] → ∀ k ∈ blk ra, k ∈ js
 row_ : ∀ x ∈ L, x.l ≠ [] → ∀ k ∈ blk x.a, k ∈ js
theorem valuesSeqW (n : Nat) (hn : 1 ≤ n) (q : Nat) (ra : Option Addr) (rc : Nat) (L : List Vs) (js : List Nat) (w : World) (hA : AtW q ra rc L js w) :
  RowSeq false n 94 #[.pointer (some ⟨q, 0, none⟩)] (L.map (·.l)) js w := by
 intro ly J Jx W hW hT hX hY h0
 have hb1W := hW.js.cell hA.q_ hA.box
 have hkW := hid hW.js
 have hJ1 : J ⟨true, W.heap.size, [], js, 0, none⟩ W := hT _ _ _ _ h0 ⟨TurnR.refl _ _ _, fun h => (by cases h), fun _ => ⟨rfl, Nat.le_refl _, by simp⟩, fun j hj => .inl hj, rfl, .inl rfl⟩
 have HA := hid hA
 have hlen := hA.len
 obtain ⟨B0, hB0⟩ : ∃ B, Hid (W.heap.size = B) := ⟨_, rfl⟩
 rw [hB0.out] at hJ1;clear hA hW h0;refine callsIn_of_wp Tryz.func94 rfl trivial ?_ rfl;simp only [Tryz.ntmps94, List.size_toArray, List.length_cons, List.length_nil, Nat.reduceAdd, Nat.reduceSub, Array.replicate_succ, Array.replicate_zero, List.push_toArray, List.append_toArray, List.nil_append, List.cons_append];gi_wp2_with fail;gi_loopw [7] (fun i wr => ∃ k : Nat, k ≤ L.length ∧ i = .int .i64 k ∧ J ⟨true, B0, [], js, k, none⟩ wr ∧ Hid (KeepB js w wr)) (fun i _ => L.length - (intOf i).toNat)
 case atStart => exact ⟨0, Nat.zero_le _, rfl, hJ1, hkW⟩
 case round =>
  obtain ⟨k, hk, rfl, hJk, hkr⟩ := hrel;clear hJ1 hb1W hkW
  by_cases hkL : k < L.length
  ·have hx : L[k]? = some L[k] := by simp [hkL]
   obtain ⟨g, o, ea, c0⟩ := vsAt HA.out.see hx;have cg : wr.cell? ⟨g, o + k, none⟩ = some (.slice L[k].a L[k].l.length L[k].c) := hkr.out.cell (HA.out.ra_ (fun e => by rw [e] at hkL; simp at hkL) g (by rw [ea]; simp [blk])) c0
   have hli := HA.out.lies L[k] (List.getElem_mem hkL)
   have hl2 : L[k].lies wr := ⟨(if e : L[k].l = [] then .inl e else valsKeepB hli.see hkr.out (HA.out.row_ L[k] (List.getElem_mem hkL) e)), hli.cap, hli.most, hli.nil⟩
   have hJ2 : J ⟨true, B0, [], js, k, some L[k]⟩ wr := hT _ _ _ _ hJk ⟨TurnR.refl _ _ _, fun _ => ⟨rfl, rfl, fun q hq => .inl hq⟩, fun h => (by cases h), fun j hj => .inl hj, rfl, .inr ⟨_, rfl, by simp [hkL], hl2, fun h => (by cases h)⟩⟩
   obtain ⟨fn, tmps, assign, body, hy, hR⟩ := hY _ _ _ hJ2 rfl;dsimp only [encR] at hy;generalize L[k] = x at *
   obtain ⟨xa, xc, xl⟩ := x;dsimp only at cg hy;have i1 : (0 : Int) ≤ (k : Int) := by omega
   have i2 : (k : Int) < (L.length : Int) := by omega
   have i3 : (k : Int) + 1 ≤ 9223372036854775807 := by omega
   have hR' := hid hR
   subst ea;clear hR hJ2 hl2 hli hx c0 hJk;gi_wp2_with fail;refine hR'.out.mono ?_;rintro e1 W3 (⟨rfl, hJ3, hk3⟩ | ⟨rfl, hJx, hk3⟩)
   ·have hkk := hid (hkr.out.trans hk3.js)
    have hJ4 : J ⟨true, B0, [], js, k + 1, none⟩ W3 := hJ3
    clear hR' hy hkr hJ3;gi_wp2_with fail;go_roundw
    case rel => exact ⟨k + 1, by omega, by go_num, hJ4, hkk⟩
    case measure => simp [intOf]; omega
   ·clear hR' hy
    gi_wp2_with fail;refine bodyPost_ret (results_none rfl _ _ _) rfl ?_;exact ⟨⟨_, rfl⟩, .inr ⟨_, rfl, hJx⟩⟩
  ·have e : k = L.length := by omega
   subst e;gi_wp2
   go_end0
   exact ⟨⟨_, rfl⟩, .inl ⟨_, ⟨rfl, by simp, rfl⟩, hJk⟩⟩
def jsW (q : Nat) (ra : Option Addr) (L : List Vs) : List Nat := q :: ((if L = [] then [] else blk ra) ++ L.flatMap fun x => if x.l = [] then [] else blk x.a)
theorem valSrcW {w : World} {ra : Option Addr} {rc : Nat} {L : List Vs} (hs : VsE.See w ra L) (hx : ∀ x ∈ L, x.lies w) (hl : L.length ≤ 4000000000000) (t : TypeId) :
  (∀ n, 1 ≤ n → RowSeq false n 94 #[.pointer (some ⟨w.heap.size, 0, none⟩)] (L.map (·.l)) (jsW w.heap.size ra L) (w.alloc (.cells #[.slice ra L.length rc] t))) ∧ ∀ j ∈ jsW w.heap.size ra L, j < (w.alloc (.cells #[.slice ra L.length rc] t)).heap.size := by
 have b := Bn.new w [.slice ra L.length rc] t
 have k : Kp [] w (w.alloc (.cells #[.slice ra L.length rc] t)) := (Kp.refl _ _).alloc _
 have ck := CK.ofKp k
 refine ⟨fun n hn => valuesSeqW n hn _ ra rc L _ _ ⟨b.get 0 _ rfl, ckSee ck hs (by simp), fun x h => (hx x h).ck ck (by simp), by omega, by simp [jsW], fun hne k hk => by simp [jsW, hne, hk], fun x h hne k hk => ?_⟩, fun j hj => ?_⟩
 ·simp only [jsW, List.mem_cons, List.mem_append, List.mem_flatMap]
  exact .inr (.inr ⟨x, h, by rw [if_neg hne]; exact hk⟩)
 ·have hz : (w.alloc (.cells #[.slice ra L.length rc] t)).heap.size = w.heap.size + 1 := by simp
  simp only [jsW, List.mem_cons, List.mem_append, List.mem_flatMap] at hj
  rcases hj with rfl | hj | ⟨x, h, hj⟩
  ·omega
  ·split at hj
   ·simp at hj
   ·rename_i hne
    rcases hs with e | ⟨g, o, rfl, hc⟩
    ·exact absurd e hne
    ·simp [blk] at hj
     subst hj;obtain ⟨x, L', rfl⟩ := List.exists_cons_of_ne_nil hne;have := World.block_lt_of_cell? _ _ (hc 0 (.slice x.a x.l.length x.c) rfl)
     dsimp only at this;omega
  ·split at hj
   ·simp at hj
   ·rename_i hne
    rcases (hx x h).see with e | ⟨g, o, e, hc⟩
    ·exact absurd e hne
    ·rw [e] at hj
     simp [blk] at hj
     subst hj;obtain ⟨y, l', e2⟩ := List.exists_cons_of_ne_nil hne;have := World.block_lt_of_cell? _ _ (hc 0 y (by rw [e2]; rfl)).1
     dsimp only at this;omega
theorem wpAppRunInY {F : Fence} {n : Nat} {P : Program} {w w' : World} {ops : Array Oper} {rest : List Oper} {o : Oper} {a : Act} {Q : Exit → Act → World → Prop} (hgd : o.guard = none) (s x : Operand) (t tx : TypeId)
  (ho : o.op = .call { callee := .builtin .append, args := #[s, x], argTypes := #[t, tx] }) (v xv v' : Value) (hv : a.eval s = v) (hx : a.eval x = xv)
  (hrun : (Builtin.append_ #[t, tx] o.type #[v, xv]).run P w = .ok v' w') (h : wpListIn F n P ops Q rest (a.put o.dst v') w') : wpListIn F n P ops Q (o :: rest) a w := by
 refine wpListIn_plain hgd fun K hK' => ?_
 unfold Oper.wpIn
 refine ⟨?_, ?_⟩
 ·simp [Oper.about, ho, resolve, Target.leads, Sem.run_pure]
 ·rw [Oper.semAt_plain F _ _ (by rw [ho]; intro c hc'; cases hc')]
  simp [execOp, ho, resolve, invoke, builtin, hv, hx, hrun, Result.andThen]
  exact hK' _ _ h
structure SclJ (w1 : World) (q3 : Nat) (R : List (List Val)) (s : Sr) (W : World) (ra : Option Addr) (rc : Nat) (L : List Vs) : Prop where
 co : CoR w1 [q3] s W
 box : W.cell? ⟨q3, 0, none⟩ = some (.slice ra L.length rc)
 free : W.frozen? ⟨q3, 0, none⟩ = false
 lot : Lot w1.heap.size ra rc L W
 took : L.map (·.l) = R.take s.i
 ne : ∀ k ∈ blk ra, k ∉ s.js ∧ k ∉ s.qs
 nes : ∀ x ∈ L, ∀ k ∈ blk x.a, k ∉ s.qs
 nil : L = [] → ra = none
 pend : ∀ x, s.p = some x → R[s.i]? = some x.l ∧ VE.Row W (.slice x.a x.l.length x.c) x.l ∧ ∀ k ∈ blk x.a, w1.heap.size + 2 ≤ k ∧ k ∉ blk ra ∧ k ∉ s.qs
def SclI (w1 : World) (q3 : Nat) (R : List (List Val)) (s : Sr) (W : World) : Prop := ∃ ra rc L, SclJ w1 q3 R s W ra rc L
theorem SclI.own {w1 : World} {q3 : Nat} {R : List (List Val)} : OwnFrom w1.heap.size (SclI w1 q3 R) := fun s X Y row ⟨ra, rc, L, h⟩ hg hr => by
 have ck := CK.ofGrown hg (fun r e => (hr r e).2)
 obtain ⟨h1, h2⟩ := ck.2 _ _ trivial h.box
 exact ⟨ra, rc, L, h.co.grown hg hr, h1, h2.trans h.free, h.lot.ck ck (fun _ _ => trivial) (fun _ _ _ _ => trivial), h.took, h.ne, h.nes, h.nil, fun x hx => by
  obtain ⟨p1, p2, p3⟩ := h.pend x hx;exact ⟨p1, ckRow ck p2 (fun _ _ => trivial), p3⟩⟩
theorem SclI.step {w1 : World} {q3 : Nat} {R : List (List Val)} (hq : q3 < w1.heap.size) {s s' : Sr} {A B : World} (hz : w1.heap.size + 2 ≤ A.heap.size) (h : SclI w1 q3 R s A) (ht : StepR true R s s' A B) : SclI w1 q3 R s' B := by
 obtain ⟨ra, rc, L, h⟩ := h;have co := h.co.step (by simpa using hq) hz ht
 have hqs : ∀ k, k < A.heap.size → k ∉ s.qs → k ∉ s'.qs := fun k hk hn hm => by
  cases hs : s.made with
  | true => rcases (ht.stays hs).2.2 k hm with e | e; exact hn e; omega
  | false => have := ((ht.makes hs).2.2 k hm).1; omega
 have hq3 : q3 ∉ s'.qs := fun hm => by
  have hm' : s'.made = true := by
   cases hs : s.made with
   | true => exact (ht.stays hs).1
   | false => exact (ht.makes hs).1
  have := (co.mde hm').2 q3 hm
  omega
 have ck := CK.ofTurn ht.turn
 obtain ⟨h1, h2⟩ := ck.2 _ _ hq3 h.box;have hlt := h.lot.lt
 refine ⟨ra, rc, L, co, h1, h2.trans h.free, h.lot.ck ck (fun k hk => hqs k (hlt k hk) (h.ne k hk).2) (fun x hx k hk => hqs k (h.lot.rows x hx k hk).2.1 (h.nes x hx k hk)), by rw [ht.on]; exact h.took, fun k hk => ⟨fun hm => ?_, hqs k (hlt k hk) (h.ne k hk).2⟩, fun x hx k hk => hqs k (h.lot.rows x hx k hk).2.1 (h.nes x hx k hk), h.nil, fun x hx => ?_⟩
 ·rcases ht.js k hm with e | e
  ·exact (h.ne k hk).1 e
  ·have := hlt k hk; omega
 ·rcases ht.given with e | ⟨y, e, hy, hl, hf⟩
  ·rw [e] at hx; cases hx
  ·rw [e] at hx
   cases hx
   obtain ⟨hr, hb⟩ := hf rfl;exact ⟨by rw [ht.on]; exact hy, hr, fun k hk => ⟨by have := (hb k hk).1; omega, fun hm => by have := hlt k hm; have := (hb k hk).1; omega, (hb k hk).2.2⟩⟩
theorem cAppSeqR (d : Nat) (hd : 3 ≤ d) (g : Nat) (lb : Array Value) (R : List (List Val)) (js : List Nat) (w : World) (heg : ∀ args w, (callFunc g args).run Tryz.prog w = .ok (.enter g args) w) (hseq : RowSeq true (d - 1) g lb R js w) (hjs : ∀ j ∈ js, j < w.heap.size) (hR : R.length ≤ 4000000000000) :
  CallsIn Fence.wide d Tryz.prog 108 #[.slice none 0 0, .func (.func g) #[] lb] w (LotP R w) := by
 obtain ⟨w1, hw1, k1, b1⟩ : ∃ w1, w.alloc (.cells #[.slice none 0 0] 60) = w1 ∧ Kp [] w w1 ∧ Bn w1 w.heap.size [.slice none 0 0] := ⟨_, rfl, (Kp.refl _ _).alloc _, Bn.new w _ _⟩
 obtain ⟨q3, hq3⟩ : ∃ q, Hid (w.heap.size = q) := ⟨_, hid rfl⟩
 rw [hq3.out] at b1;have hq31 : q3 < w1.heap.size := b1.lt (by simp)
 have hz1 : w1.heap.size = w.heap.size + 1 := by rw [← hw1]; simp
 have hI0 : SclI w1 q3 R ⟨false, 0, [], js, 0, none⟩ w1 := ⟨none, 0, [], ⟨rfl, rfl, rfl, Nat.le_refl _, fun _ _ _ => rfl, fun h => (by cases h), fun j hj => ⟨by have := hjs j hj; have := hq3.out; simp; omega, by have := hjs j hj; omega, by have := hjs j hj; omega⟩, fun j hj => by have := hjs j hj; omega, by simp⟩, b1.get 0 _ rfl, b1.free 0, Lot.nil _ _, rfl, by simp [blk], by simp, fun _ => rfl, fun x hx => (by cases hx)⟩
 have HI0 := hid hI0
 have HK1 := hid k1
 have HSQ := hid hseq
 have hz1' := hid hz1
 have hKR : Hid (KeepR ⟨false, 0, [], js, 0, none⟩ w w1) := hid ⟨KeepB.ofKp k1 (by simp), fun h => (by cases h)⟩
 clear hI0 k1 b1 hseq hjs hz1;refine callsIn_of_wp_marks Tryz.func108 rfl trivial ?_ rfl;simp only [Tryz.ntmps108, List.size_toArray, List.length_cons, List.length_nil, Nat.reduceAdd, Nat.reduceSub, Array.replicate_succ, Array.replicate_zero, List.push_toArray, List.append_toArray, List.nil_append, List.cons_append];refine wpIn_wide.2 ?_;have hq3' := hq3.out
 go_wp2_with fail;clear hq3';refine (wpIn_wide (n := d)).1 ?_
 refine wpRangeX rfl (by omega) (gf := g) (lb := lb) rfl trivial heg
  HSQ.out (fun _ => rfl) KeepR.trans (fun s W o => KeepR.alloc s W o) hKR.out
  (SclI w1 q3 R) (fun _ _ _ => False) SclI.own (fun _ _ _ _ _ h _ _ => h) HI0.out
  (fun s s' A B ⟨_, _, _, h⟩ ht k o hk ho => h.co.keeps ht k o hk ho) (fun _ _ _ _ h => h.elim) (fun s s' A B hz h ht => h.step hq31 hz ht) (fun _ _ _ _ h => h.elim)
  (fun s W o' ⟨_, _, _, h⟩ => h.co.recs o') (fun s x W o' ⟨_, _, _, h⟩ => CoR.recs (S := [q3]) (s := s) ⟨h.co.os, h.co.tape, h.co.output, h.co.size, h.co.low, h.co.mde, h.co.js, h.co.jl, h.co.ql⟩ o') (fun _ _ _ _ _ h => h.elim)
  (fun x => { tmps := #[.slice none 0 0, .func (.func g) #[] lb, .pointer (some ⟨q3, 0, none⟩), undef, .slice none 0 0, .slice x.a x.l.length x.c, .func (.func g) #[] lb, .slice x.a x.l.length x.c, undef, undef, undef, undef, undef], defers := [] }) ?assign ?body ?done ?stop
 case assign =>
  intro l x W C hC
  gi_wp2_with fail;exact hC
 case body =>
  rintro l0 s ⟨xa, xc, xl⟩ W ⟨ra, rc, L, h⟩ hp;obtain ⟨hRi, hxr, hxb⟩ := h.pend _ hp;dsimp only at hRi hxr hxb ⊢;have hiR : s.i < R.length := (List.getElem?_eq_some_iff.1 hRi).1
  have hLi : L.length = s.i := by
   have h1 := congrArg List.length h.took
   rw [List.length_map, List.length_take] at h1;omega
  have hLl : L.length ≤ 4000000000000 := by omega
  have c3 := h.box
  have h' := hid h
  have hxlt : ∀ k ∈ blk xa, k < W.heap.size := fun k hk => hxr.lt k (by rw [ownV]; exact hk)
  obtain ⟨ra4, rc4, W4, hrun, hl4, k4, hra4⟩ := h.lot.app ⟨xa, xc, xl⟩ (rowLies hxr) h.co.size (fun k hk => ⟨by have := (hxb k hk).1; omega, hxlt k hk, (hxb k hk).2.1⟩) hLl
  obtain ⟨L4, hL4⟩ : ∃ L4, Hid (L4 = L ++ [(⟨xa, xc, xl⟩ : Vs)]) := ⟨_, hid rfl⟩
  rw [← hL4.out] at hrun hl4;dsimp only at hrun;have hq3ra : q3 ∉ blk ra := fun hm => by have := h.lot.own q3 hm; omega
  have c3A : (W.alloc (.cells #[.slice xa xl.length xc] 61)).cell? ⟨q3, 0, none⟩ = some (.slice ra L.length rc) := kpAt ((Kp.refl _ _).alloc _) c3
  obtain ⟨c3W, f3W⟩ := (CK.ofKp k4).2 ⟨q3, 0, none⟩ _ hq3ra c3;have f3 : W4.frozen? ⟨q3, 0, none⟩ = false := f3W.trans h.free
  have HE : Hid (∀ A, leftX w1.heap.size KeepR (SclI w1 q3 R) (fun _ _ _ => False) s (s.nx ⟨xa, xc, xl⟩) W .normal A (W4.setCell ⟨q3, 0, none⟩ (.slice ra4 L4.length rc4))) := hid fun A => by
   have kS : Kp [q3] W4 (W4.setCell ⟨q3, 0, none⟩ (.slice ra4 L4.length rc4)) := (Kp.refl _ _).setCell (by simp) _
   have ckS := CK.ofKp kS
   have kT : Kp (q3 :: blk ra) W (W4.setCell ⟨q3, 0, none⟩ (.slice ra4 L4.length rc4)) := (k4.mono (fun j hj => by simp [hj])).trans kS (fun j hj => .inl (by simp at hj; simp [hj]))
   obtain ⟨r1, r2, r3⟩ := h.co.round (x := ⟨xa, xc, xl⟩) kT (fun k hk => by
    rcases List.mem_cons.1 hk with rfl | hk
    ·exact cellCel h.box
    ·refine rowCel h.lot.row (fun e => ?_) k hk
     rw [h.nil e] at hk;simp [blk] at hk) (fun k hk => by
    rcases List.mem_cons.1 hk with rfl | hk
    ·exact .inl (by simp)
    ·exact .inr (h.lot.own k hk)) (fun k hk => by
    rcases List.mem_cons.1 hk with rfl | hk
    ·exact fun hm => (h.co.js k hm).1 (by simp)
    ·exact (h.ne k hk).1)
   refine ⟨r1, r2, ra4, rc4, L4, r3, World.cell?_setCell_same _ _ _ c3W, by rw [World.frozen?_setCell]; exact f3, hl4.ck ckS (fun k hk hm => ?_) (fun x hx k hk hm => ?_), ?_, fun k hk => ?_, fun x hx k hk => ?_, fun e => (by rw [hL4.out] at e; simp at e), fun x hx => (by cases hx)⟩
   ·simp at hm
    have := hl4.own k hk
    omega
   ·simp at hm
    have := (hl4.rows x hx k hk).1
    omega
   ·show _ = R.take (s.i + 1)
    rw [List.take_add_one, hRi, hL4.out, List.map_append, h.took];rfl
   ·rcases hra4 k hk with e | e
    ·exact h.ne k e
    ·exact ⟨fun hm => by have := h.co.jl k hm; omega, fun hm => by have := h.co.ql k hm; omega⟩
   ·rw [hL4.out] at hx
    rcases List.mem_append.1 hx with hx | hx
    ·exact h.nes x hx k hk
    ·rw [List.mem_singleton.1 hx] at hk
     exact (hxb k hk).2.2
  have hrun' := hid hrun
  clear h hRi hxr hxb hxlt hl4 k4 hra4 f3W hrun hLi;gi_wp2_with (first | (refine wpAppRunInY rfl _ _ 60 60 rfl _ _ _ rfl rfl hrun'.out ?_) | fail)
  exact HE.out _
 case done =>
  rintro D s X hD ⟨hmd, hsi, hsp⟩ ⟨ra, rc, L, h⟩ hrec;have hLr : L.map (·.l) = R := by rw [h.took, hsi, List.take_length]
  have hbx := h.box
  have h' := hid h
  have hrec' := hid hrec
  have hLm := hid hLr
  clear h hrec hLr;go_wp2_with fail;have h := h'.out
  have hmk : Mks [D] X := (Mks.nil X).cons hrec'.out (by simp)
  have hzw := hz1'.out
  have hzq := hq3.out
  have kwX : Kp [] w X := HK1.out.trans h.co.kp (fun x hx => .inr (by simp at hx; omega))
  show LeavesInM _ _ _ _ _ _ (marks [D]) .returning _
  refine leaves_marks [D] X hmk fun w' hk => ⟨_, results_tmp rfl _ _ _, ra, rc, L, rfl, ?_, hLm.out, kwX.trans hk (fun x hx => .inr (by simp at hx; omega))⟩
  have ck : CK (fun _ => True) X w' := CK.ofBlock hk.size fun k _ hl => by
   by_cases e : k = D
   ·exact .inr ⟨_, by rw [e]; exact hrec'.out, rfl⟩
   ·exact .inl (hk.block k hl (by simpa using e))
  exact (h.lot.ck ck (fun _ _ => trivial) (fun _ _ _ _ => trivial)).mono (by omega)
 case stop =>
  rintro D c s X hD _ h;exact h.elim
theorem cCollectS (d : Nat) (hd : 4 ≤ d) (g : Nat) (lb : Array Value) (R : List (List Val)) (js : List Nat) (w : World) (heg : ∀ args w, (callFunc g args).run Tryz.prog w = .ok (.enter g args) w) (hseq : RowSeq true (d - 2) g lb R js w) (hjs : ∀ j ∈ js, j < w.heap.size) (hR : R.length ≤ 4000000000000) :
  Calls Tryz.prog 59 #[.func (.func g) #[] lb] w (LotP R w) := by
 have h := callsIn_wide.1 (cAppSeqR (d - 1) (by omega) g lb R js w heg hseq hjs hR)
 have cA := hid h
 clear h hseq;go_enter Tryz.func59, Tryz.ntmps59
 go_wp2_with fail;refine cA.out.mono ?_;rintro e w2 ⟨ra, rc, L, rfl, hl, hL, k2⟩;have HF := hid (And.intro hl (And.intro hL k2))
 clear hl hL k2 cA;go_wp2_with fail;go_ret;exact ⟨ra, rc, L, rfl, HF.out.1, HF.out.2.1, HF.out.2.2⟩
theorem dir_neg (d : Bool) (k : Int) : dirC d (-k) = -dirC d k := by cases d <;> simp [dirC]
theorem dirc_neg (d : Bool) (a b : Val) : dirC d (cmpV b a) = -dirC d (cmpV a b) := by rw [cmp_neg a b, dir_neg]
theorem dirc_trans (d : Bool) (a b c : Val) (h : dirC d (cmpV a b) ≤ 0) (k : dirC d (cmpV b c) ≤ 0) : dirC d (cmpV a c) ≤ 0 := by
 cases d with
 | false => exact cmp_trans a b c h k
 | true =>
  simp only [dirC, if_true] at h k ⊢;have h1 := cmp_neg a b
  have h2 := cmp_neg b c
  have h3 := cmp_neg a c
  have := cmp_trans c b a (by omega) (by omega)
  omega
theorem cmpO_neg : ∀ (os : List (Int × Bool)) (x y : List Val), cmpO os y x = -cmpO os x y
 | [], x, y => rows_neg x y
 | q :: os, x, y => by
  have h := dirc_neg q.2 (vAt x q.1) (vAt y q.1)
  have ih := cmpO_neg os x y
  unfold cmpO
  by_cases h0 : dirC q.2 (cmpV (vAt x q.1) (vAt y q.1)) = 0
  ·rw [if_pos h0, if_pos (by omega), ih]
  ·rw [if_neg h0, if_neg (by omega), h]
theorem cmpO_trans : ∀ (os : List (Int × Bool)) (x y z : List Val), cmpO os x y ≤ 0 → cmpO os y z ≤ 0 → cmpO os x z ≤ 0
 | [], x, y, z, h1, h2 => rows_trans x y z h1 h2
 | q :: os, x, y, z, h1, h2 => by
  have ih := cmpO_trans os x y z
  unfold cmpO at h1 h2 ⊢
  generalize vAt x q.1 = a at *
  generalize vAt y q.1 = b at *
  generalize vAt z q.1 = c at *
  have n1 := dirc_neg q.2 a b
  have n2 := dirc_neg q.2 b c
  have n3 := dirc_neg q.2 a c
  have hab : dirC q.2 (cmpV a b) ≤ 0 := by
   by_cases e1 : dirC q.2 (cmpV a b) = 0
   ·omega
   ·rw [if_neg e1] at h1; omega
  have hbc : dirC q.2 (cmpV b c) ≤ 0 := by
   by_cases e1 : dirC q.2 (cmpV b c) = 0
   ·omega
   ·rw [if_neg e1] at h2; omega
  have hac := dirc_trans q.2 a b c hab hbc
  by_cases e3 : dirC q.2 (cmpV a c) = 0
  ·have hca : dirC q.2 (cmpV c a) ≤ 0 := by omega
   have hcb := dirc_trans q.2 c a b hca hab
   have hba := dirc_trans q.2 b c a hbc hca
   rw [if_pos (by omega)] at h1
   rw [if_pos (by omega)] at h2
   rw [if_pos e3];exact ih h1 h2
  ·rw [if_neg e3]
   exact hac
theorem cmpO_swo (os : List (Int × Bool)) (f : Nat → List Val) : Swo (fun x y => cmpO os (f x) (f y) < 0) where
 asym x y h := by
  have := cmpO_neg os (f x) (f y)
  show ¬ cmpO os (f y) (f x) < 0
  have h' : cmpO os (f x) (f y) < 0 := h
  omega
 ntr x y z h1 h2 := by
  have n1 := cmpO_neg os (f x) (f y)
  have n2 := cmpO_neg os (f y) (f z)
  have n3 := cmpO_neg os (f x) (f z)
  have h1' : ¬ cmpO os (f x) (f y) < 0 := h1
  have h2' : ¬ cmpO os (f y) (f z) < 0 := h2
  have := cmpO_trans os (f z) (f y) (f x) (by omega) (by omega)
  show ¬ cmpO os (f x) (f z) < 0
  omega
def ltO (os : List (Int × Bool)) (R : List (List Val)) (x y : Nat) : Prop := cmpO os (R.getD x []) (R.getD y []) < 0
instance (os : List (Int × Bool)) (R : List (List Val)) : ∀ x y, Decidable (ltO os R x y) := fun x y => by unfold ltO; infer_instance
theorem ltO_swo (os : List (Int × Bool)) (R : List (List Val)) : Swo (ltO os R) := cmpO_swo os (fun x => R.getD x [])
def srtO (os : List (Int × Bool)) (R : List (List Val)) : List (List Val) := (srtI (ltO os R) R.length).map fun i => R.getD i []
theorem cSortC (x y : Vs) (q : Nat) (oa : Option Addr) (oc : Nat) (os : List (Int × Bool)) (w : World) (hx : x.lies w) (hy : y.lies w) (ho : OrE.See w oa os) (hol : os.length ≤ 4000000000000) (hb : w.cell? ⟨q, 0, none⟩ = some (.slice oa os.length oc)) :
  Calls Tryz.prog 106 #[.slice x.a x.l.length x.c, .slice y.a y.l.length y.c, .pointer (some ⟨q, 0, none⟩)] w fun e w' => e = .returned (.int .i64 (cmpO os x.l y.l)) ∧ Kp [] w w' := by
 have cC := hid (cCmpO x y oa oc os w hx hy ho hol)
 clear hx hy ho;go_enter Tryz.func106, Tryz.ntmps106
 go_wp2_with fail;refine cC.out.mono ?_;rintro e w2 ⟨rfl, k2⟩;have K2 := hid k2
 clear cC k2;go_wp2_with fail;go_ret;exact ⟨rfl, K2.out⟩
end Go.Proofs.YtcgkkofmnajedaaGreatDoor
end

section
namespace Go.Proofs.YtcgkkofmnajedaaGreatDoor
open Go.RowKit Go.Hay
abbrev Vs.v (x : Vs) : Value := .slice x.a x.l.length x.c
def arr (A : Nat → Vs) (p : Nat → Nat) (n : Nat) : List Vs := (List.range n).map fun k => A (p k)
theorem arr_len (A : Nat → Vs) (p : Nat → Nat) (n : Nat) : (arr A p n).length = n := by simp [arr]
theorem arr_at (A : Nat → Vs) (p : Nat → Nat) (n i : Nat) (h : i < n) : (arr A p n)[i]? = some (A (p i)) := by simp [arr, h]
theorem arr_swap (A : Nat → Vs) (p : Nat → Nat) (n i j : Nat) (hi : i < n) (hj : j < n) : ((arr A p n).set i (A (p j))).set j (A (p i)) = arr A (fun k => p (swp i j k)) n := by
 apply List.ext_getElem?
 intro k
 by_cases hk : k < n
 ·rw [arr_at A _ n k hk, List.getElem?_set, List.getElem?_set]
  simp only [List.length_set, arr_len, hj, hi, if_true]
  by_cases c1 : j = k
  ·subst c1
   rw [if_pos rfl];unfold swp
   split
   ·rename_i h; rw [h]
   ·rw [if_pos rfl]
  ·rw [if_neg c1]
   by_cases c2 : i = k
   ·subst c2
    rw [if_pos rfl];unfold swp
    rw [if_pos rfl]
   ·rw [if_neg c2, arr_at A _ n k hk]
    unfold swp
    rw [if_neg (fun h => c2 h.symm), if_neg (fun h => c1 h.symm)]
 ·rw [List.getElem?_eq_none (by simp [arr_len]; omega), List.getElem?_eq_none (by simp [arr_len]; omega)]
def Hd (W : World) (g o n cap : Nat) (A : Nat → Vs) (p : Nat → Nat) : Prop := VsE.Row W (.slice (some ⟨g, o, none⟩) n cap) (arr A p n)
theorem Hd.cells {W : World} {g o n cap : Nat} {A : Nat → Vs} {p : Nat → Nat} (h : Hd W g o n cap A p) (i : Nat) (hi : i < n) : W.cell? ⟨g, o + i, none⟩ = some (.slice (A (p i)).a (A (p i)).l.length (A (p i)).c) ∧ W.frozen? ⟨g, o + i, none⟩ = false := by
 obtain ⟨a', c', e, hs, _⟩ := El.Row.see h;have e1 := Value.slice.inj e
 obtain ⟨g', o', e2, x0⟩ := vsAt hs (arr_at A p n i hi);rw [← e1.1] at e2
 cases e2
 refine ⟨x0, ?_⟩
 rcases h with ⟨e3, _⟩ | ⟨g2, o2, cc, e3, hl, hx, hg, hc, ht⟩
 ·cases e3
 ·have e4 := Value.slice.inj e3
  obtain ⟨e5, e6, e7⟩ := e4
  cases e5
  subst e7;have en : VsE.n = 1 := rfl
  rw [en] at ht;rw [arr_len] at hl;exact (ht i (by omega)).2
def put1 (W : World) (g x : Nat) (v : Vs) : World := W.setCell ⟨g, x, none⟩ (.slice v.a v.l.length v.c)
theorem put1_kp (W : World) (g x : Nat) (v : Vs) : Kp [g] W (put1 W g x v) := (Kp.refl _ _).setCell (by simp) _
theorem row_put1 {W : World} {g o n cap : Nat} {l : List Vs} (h : VsE.Row W (.slice (some ⟨g, o, none⟩) n cap) l) (i : Nat) (hi : i < l.length) (x : Vs) : VsE.Row (put1 W g (o + i) x) (.slice (some ⟨g, o, none⟩) n cap) (l.set i x) := by
 have := h.setAt i hi x
 have e : VsE.n = 1 := rfl
 rw [e, Nat.mul_one] at this;exact this
theorem Hd.swap {W : World} {g o n cap : Nat} {A : Nat → Vs} {p : Nat → Nat} (h : Hd W g o n cap A p) (i j : Nat) (hi : i < n) (hj : j < n) : Hd (put1 (put1 W g (o + i) (A (p j))) g (o + j) (A (p i))) g o n cap A (fun k => p (swp i j k)) := by
 unfold Hd
 rw [← arr_swap A p n i j hi hj];exact row_put1 (row_put1 h i (by rw [arr_len]; exact hi) _) j (by rw [List.length_set, arr_len]; exact hj) _
theorem put1_cells {W : World} {g o n cap : Nat} {A : Nat → Vs} {p : Nat → Nat} (h : Hd W g o n cap A p) (i j : Nat) (hi : i < n) (hj : j < n) (x : Vs) : ∀ c, c < 1 → (∃ u, (put1 W g (o + i) x).cell? ⟨g, o + j + c, none⟩ = some u) ∧ (put1 W g (o + i) x).frozen? ⟨g, o + j + c, none⟩ = false := by
 intro c hc
 obtain rfl : c = 0 := by omega
 have h1 := row_put1 h i (by rw [arr_len]; exact hi) x
 rcases h1 with ⟨e3, _⟩ | ⟨g2, o2, cc, e3, hl, hx, hg, hcc, ht⟩
 ·cases e3
 ·obtain ⟨e5, e6, e7⟩ := Value.slice.inj e3
  cases e5
  subst e7;have en : VsE.n = 1 := rfl
  rw [en] at ht;rw [List.length_set, arr_len] at hl;have := ht j (by omega)
  exact ⟨Option.isSome_iff_exists.1 this.1, this.2⟩
theorem Hd.kept {W W' : World} {g o n cap : Nat} {A : Nat → Vs} {p : Nat → Nat} (h : Hd W g o n cap A p) (k : Kp [] W W') : Hd W' g o n cap A p := El.Row.keptNew h k
theorem Hd.lt {W : World} {g o n cap : Nat} {A : Nat → Vs} {p : Nat → Nat} (h : Hd W g o n cap A p) : g < W.heap.size := El.Row.lt h g (by simp [own, Value.ownBlock])
end Go.Proofs.YtcgkkofmnajedaaGreatDoor
end

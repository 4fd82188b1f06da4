/- What the proof stands on: contracts of functions that the statement calls, and plain lemmas. No statement of the seat is proved here. -/
import Derived.Test.YtcgkkofmnajedaaGreatDoorB13
import Derived.Deep.CutBlock
import Derived.Test.YtcgkkofmnajedaaGreatDoorB8
import Derived.Test.YtcgkkofmnajedaaGreatDoorB12
import Derived.Test.YtcgkkofmnajedaaGreatDoorB10
set_option maxHeartbeats 64000000
set_option maxRecDepth 100000
set_option linter.unusedVariables false
set_option linter.unusedSimpArgs false
section
namespace Go.Proofs.YtcgkkofmnajedaaGreatDoor
open Go.RowKit Go.Hay
attribute [local go_sem] Oper.semAt_some
theorem foldR_snoc {f : Val → List Val → Val} {L : List Vs} {j : Nat} (h : j < L.length) : ((L.take (j + 1)).map (·.l)).foldl f nulV = f (((L.take j).map (·.l)).foldl f nulV) L[j].l := fold_snoc (f := f) (g := fun x : Vs => x.l) h
theorem rAgg (a : Option Addr) (c : Nat) (L : List Vs) (op col : Int) (w : World) (hs : VsE.See w a L) (hx : ∀ x ∈ L, x.lies w) (hl : L.length ≤ 4000000000000) :
  Calls Tryz.prog 116 #[.slice a L.length c, .agg #[.int .i64 op, .int .i64 col]] w fun e w' => e = .returned (.agg #[.int .i64 (tellV (L.map (·.l)) (op, col)).k, .bool (tellV (L.map (·.l)) (op, col)).b, .int .i64 (tellV (L.map (·.l)) (op, col)).n, .string (tellV (L.map (·.l)) (op, col)).t]) ∧ Kp [] w w' := by
 obtain ⟨w1, hw1, k1, b1⟩ : ∃ w1, w.alloc (.cells #[.int .i64 op, .int .i64 col] 102) = w1 ∧ Kp [] w w1 ∧ Bn w1 w.heap.size [.int .i64 op, .int .i64 col] := ⟨_, rfl, (Kp.refl _ _).alloc _, Bn.new w _ _⟩
 obtain ⟨w2, hw2, b2, k2, z2⟩ := addE w1 nulV;obtain ⟨q3, hq3⟩ : ∃ q, w.heap.size = q := ⟨_, rfl⟩
 obtain ⟨q4, hq4⟩ : ∃ q, w1.heap.size = q := ⟨_, rfl⟩
 rw [hq3] at b1;rw [hq4] at b2 z2;have z1 := b1.lt (by simp)
 have b12 := b1.kept k2
 have a0 := b12.get 0 _ rfl
 have a1 := b12.get 1 _ rfl
 have r0 := b2.get 0 _ rfl; have r1 := b2.get 1 _ rfl; have r2 := b2.get 2 _ rfl; have r3 := b2.get 3 _ rfl
 have s0 := b2.free 0; have s1 := b2.free 1; have s2 := b2.free 2; have s3 := b2.free 3
 have K2 := hid (k1.trans k2 (by simp))
 have HS := hid hs
 have HX := hid hx
 have HQ := hid (And.intro hq3 (And.intro hq4 z1))
 obtain ⟨Z, hZ⟩ : ∃ Z, Hid (tellV (L.map (·.l)) (op, col) = Z) := ⟨_, hid rfl⟩
 rw [hZ.out]
 by_cases h0 : op = 0
 ·have d0 : (op == 0) = true := by simp [h0]
  have hv : Hid (Z = ⟨2, false, (L.length : Int), ⟨#[]⟩⟩) := hid (by rw [← hZ.out]; simp [tellV, h0])
  obtain ⟨W2, eW2, bW, kW, _⟩ := putV4 b2 (by have := k1.size; omega) K2.out ⟨2, false, (L.length : Int), ⟨#[]⟩⟩
  try dsimp only at eW2 bW
  have v0 := bW.get 0 _ rfl; have v1 := bW.get 1 _ rfl; have v2 := bW.get 2 _ rfl; have v3 := bW.get 3 _ rfl
  have KW := hid kW
  rw [hv.out];clear h0 hs hx b1 b2 b12 k1 k2 bW kW hv hZ z1 z2;go_enter Tryz.func116, Tryz.ntmps116
  go_wp2_with fail;exact bodyPost_ret (v := .agg #[.int .i64 2, .bool false, .int .i64 (L.length : Int), .string ⟨#[]⟩]) (by simp [results, Tryz.results116, go_sem, v0, v1, v2, v3]) rfl ⟨rfl, KW.out⟩
 have d0 : (op == 0) = false := beq_eq_false_iff_ne.2 h0
 have hfold := hid (tell_fold op col h0 (L.map (·.l)))
 obtain ⟨q5, B1, B2, eq5, eB1, bb1, eB2, bb2, kB, zB⟩ := boxV4Y w2 nulV;have m0 := bb1.get 0 _ rfl; have m1 := bb1.get 1 _ rfl; have m2 := bb1.get 2 _ rfl; have m3 := bb1.get 3 _ rfl
 have f0 := bb1.free 0; have f1 := bb1.free 1; have f2 := bb1.free 2; have f3 := bb1.free 3
 unfold nulV at eB2 bb2
 dsimp only at eB2 bb2;have HB0 : Hid (Bx3 w q3 q4 q5 op col (((L.take 0).map (·.l)).foldl (aggS op col) nulV) B2) := hid ⟨⟨bb2, b2.kept kB, K2.out.trans kB (by simp), by have := k1.size; omega, by have := K2.out.size; omega, by omega⟩, b12.kept kB, by omega, by omega⟩
 clear hs hx b1 b2 b12 k1 k2 bb1 bb2 kB zB z1 z2 h0;go_enter Tryz.func116, Tryz.ntmps116
 go_wp2_with fail;clear m0 m1 m2 m3 f0 f1 f2 f3 r0 r1 r2 r3 s0 s1 s2 s3 a0 a1;go_loopw [6] (fun i wr => ∃ j : Nat, j ≤ L.length ∧ i = .int .i64 (j : Int) ∧ Hid (Bx3 w q3 q4 q5 op col (((L.take j).map (·.l)).foldl (aggS op col) nulV) wr)) (fun i _ => L.length - (intOf i).toNat)
 case atStart => exact ⟨0, Nat.zero_le _, rfl, HB0⟩
 case round =>
  obtain ⟨j, hj, rfl, H⟩ := hrel;clear HB0
  by_cases hlt : j < L.length
  ·have hsn := hid (foldR_snoc (f := aggS op col) hlt)
   obtain ⟨g, o, ea, c0⟩ := vsAt HS.out (k := j) (x := L[j]) (by simp [hlt])
   have hxl := hid (HX.out L[j] (List.getElem_mem hlt))
   obtain ⟨x, hxe⟩ : ∃ x, Hid (L[j] = x) := ⟨_, hid rfl⟩
   rw [hxe.out] at c0 hxl hsn;obtain ⟨xa, xc, xl⟩ := x;have hxc := hxl.out.cap; have hxm := hxl.out.most
   unfold maxLen at hxm
   dsimp only at c0 hsn hxc hxm;have hS : Hid (∀ W', Kp [] wr W' → W'.cell? ⟨g, o + j, none⟩ = some (.slice xa xl.length xc) ∧ W'.cell? ⟨q3, 1, none⟩ = some (.int .i64 col)) := hid (fun W' k => ⟨kpAt (H.out.bx.kp.trans k (by simp)) c0, (H.out.ask.kept k).get 1 _ rfl⟩)
   obtain ⟨⟨vk, vb, vn, vt⟩, hv⟩ : ∃ y, Hid (vAt xl col = y) := ⟨_, hid rfl⟩
   have cA : Hid (∀ W', Kp [] wr W' → Calls Tryz.prog 93 #[.slice xa xl.length xc, .int .i64 col] W' fun e w' => e = .returned (.agg #[.int .i64 vk, .bool vb, .int .i64 vn, .string vt]) ∧ Kp [] W' w') := hid (fun W' k => by
    have h1 := rAtE xa xc xl col W' (hxl.out.see.kept (H.out.bx.kp.trans k (by simp))) (by omega)
    rw [hv.out] at h1;exact h1)
   have i1 : (0 : Int) ≤ (j : Int) := by omega
   have i2 : (j : Int) < (L.length : Int) := by omega
   have i3 : (j : Int) + 1 ≤ 9223372036854775807 := by omega
   subst ea;clear c0;go_upto_region 7 with fail
   go_cut [7] from 15 to 74 (fun v7 wx => ∃ q7, v7 = .pointer (some ⟨q7, 0, none⟩) ∧ Hid (Bn wx q7 [.int .i64 vk, .bool vb, .int .i64 vn, .string vt] ∧ Kp [] wr wx ∧ wr.heap.size ≤ q7))
   case first =>
    refine wp_noPanicY ?_;refine wp_region_held_drew (S := fun W' => W'.cell? ⟨g, o + j, none⟩ = some (.slice xa xl.length xc) ∧ W'.cell? ⟨q3, 1, none⟩ = some (.int .i64 col)) (by kernel_rfl) (hS.out _ (Kp.refl _ _).drew) (fun hHeld => ?_)
    have KD : Hid (Kp [] wr wr.drew) := hid (Kp.refl _ _).drew
    generalize wr.drew = wd at *
    refine tkH ?_ 0 rfl (by kernel_rfl) (fun _ _ _ h => by cases h.1) (by rfl) ?_ ‹_› ?_;rotate_left
    ·intro w h; (try dsimp only at h); go_simp <;> with_reducible rfl
    (try simp only [Act.put, lz]);refine tkH ?_ 1 rfl (by kernel_rfl) (fun _ _ _ h => by cases h.1) (by rfl) ?_ ‹_› ?_;rotate_left
    ·intro w h; (try dsimp only at h); go_simp <;> with_reducible rfl
    (try simp only [Act.put, lz]);refine tkH ?_ 2 rfl (by kernel_rfl) (fun _ _ _ h => by cases h.1) (by rfl) ?_ ‹_› ?_;rotate_left
    ·intro w h; (try dsimp only at h); go_simp <;> with_reducible rfl
    (try simp only [Act.put, lz]);refine tkH ?_ 3 rfl (by kernel_rfl) (fun _ _ _ h => by cases h.1) (by rfl) ?_ ‹_› ?_;rotate_left
    ·intro w h; (try dsimp only at h); go_simp <;> with_reducible rfl
    (try simp only [Act.put, lz]);refine tkH ?_ 4 rfl (by kernel_rfl) (fun _ _ _ h => by cases h.1) (by rfl) ?_ ‹_› ?_;rotate_left
    ·intro w h; (try dsimp only at h); go_simp <;> with_reducible rfl
    (try simp only [Act.put, lz]);refine tkH ?_ 5 rfl (by kernel_rfl) (fun _ _ _ h => by cases h.1) (by rfl) ?_ ‹_› ?_;rotate_left
    ·intro w h; (try dsimp only at h); go_simp <;> with_reducible rfl
    (try simp only [Act.put, lz]);refine wpAnyH_ready (rs := [6, 7]) (by kernel_rfl) (by simp) ?_
    refine AllReadyH.cons rfl (fun K hK => ?_) (AllReadyH.cons rfl (fun K hK => ?_) AllReadyH.nil)
    ·go_simp
     refine (cA.out wd KD.out).mono ?_;rintro e we ⟨rfl, ke⟩;have KE := hid (KD.out.trans ke (by simp))
     obtain ⟨q7, V1, V2, eq7, eV1, bv1, eV2, bv2, kV, zV⟩ := boxV4Y we ⟨vk, vb, vn, vt⟩;have u0 := bv1.get 0 _ rfl; have u1 := bv1.get 1 _ rfl; have u2 := bv1.get 2 _ rfl; have u3 := bv1.get 3 _ rfl
     have g0 := bv1.free 0; have g1 := bv1.free 1; have g2 := bv1.free 2; have g3 := bv1.free 3
     try dsimp only at eV2
     have kAl : Kp [] we V1 := by rw [← eV1]; exact (Kp.refl _ _).alloc _
     have hfin : Hid (Bn V2 q7 [.int .i64 vk, .bool vb, .int .i64 vn, .string vt] ∧ Kp [] wr V2 ∧ wr.heap.size ≤ q7) := hid ⟨bv2, KE.out.trans kV (by simp), by have := KE.out.size; omega⟩
     (try go_wp2_with fail);refine hK.out _ _ (hS.out we KE.out) (fun hHeld => ?_)
     clear hK K;(try simp only [Act.put, lz]);refine rdH 7 (by kernel_rfl) rfl fun K hK => ?_
     go_simp;(try go_wp2_with fail);refine hK.out _ _ (hS.out _ (KE.out.trans kAl (by simp))) (fun hHeld => ?_)
     clear hK K;(try simp only [Act.put, lz]);refine rdH 8 (by kernel_rfl) rfl fun K hK => ?_
     go_simp;(try go_wp2_with fail);refine hK.out _ _ (hS.out _ (KE.out.trans kV (by simp))) (fun hHeld => ?_)
     clear hK K;(try simp only [Act.put, lz]);refine wpAnyH_done (by kernel_rfl) ⟨rfl, ?_⟩ _
     clear hHeld;go_wp2_with fail;go_meet;exact ⟨q7, rfl, hfin⟩
    ·obtain ⟨B1, eB1, bb, kB, zB⟩ := addE wd nulV
     obtain ⟨q7, eq7⟩ : ∃ q, wd.heap.size = q := ⟨_, rfl⟩
     rw [eq7] at bb zB;have KB := hid (KD.out.trans kB (by simp))
     have BB := hid bb
     go_simp;(try go_wp2_with fail);refine hK.out _ _ (hS.out _ KB.out) (fun hHeld => ?_)
     clear hK K;(try simp only [Act.put, lz]);refine rdH 6 (by kernel_rfl) rfl fun K hK => ?_
     go_simp;refine (cA.out B1 KB.out).mono ?_;rintro e we ⟨rfl, ke⟩;have KE := hid (KB.out.trans ke (by simp))
     (try go_wp2_with fail);refine hK.out _ _ (hS.out we KE.out) (fun hHeld => ?_)
     clear hK K;(try simp only [Act.put, lz]);have hq7 : wr.heap.size ≤ q7 := by have := KD.out.size; omega
     obtain ⟨V2, eV2, bv2, kV, _⟩ := putV4 (BB.out.kept ke) hq7 KE.out ⟨vk, vb, vn, vt⟩;have bz := BB.out.kept ke
     have u0 := bz.get 0 _ rfl; have u1 := bz.get 1 _ rfl; have u2 := bz.get 2 _ rfl; have u3 := bz.get 3 _ rfl
     have g0 := bz.free 0; have g1 := bz.free 1; have g2 := bz.free 2; have g3 := bz.free 3
     try dsimp only at eV2
     have hfin : Hid (Bn V2 q7 [.int .i64 vk, .bool vb, .int .i64 vn, .string vt] ∧ Kp [] wr V2 ∧ wr.heap.size ≤ q7) := hid ⟨bv2, kV, hq7⟩
     clear bz bv2;refine rdH 8 (by kernel_rfl) rfl fun K hK => ?_
     go_simp;(try go_wp2_with fail);refine hK.out _ _ (hS.out _ kV) (fun hHeld => ?_)
     clear hK K;(try simp only [Act.put, lz]);refine wpAnyH_done (by kernel_rfl) ⟨rfl, ?_⟩ _
     clear hHeld;go_wp2_with fail;go_meet;exact ⟨q7, rfl, hfin⟩
   case rest =>
    obtain ⟨q7, rfl, hvb⟩ := hcut;have HB0' := H.out.kept hvb.out.2.1
    obtain ⟨⟨ok, ob, on, ot⟩, ho⟩ : ∃ y, Hid (((L.take j).map (·.l)).foldl (aggS op col) nulV = y) := ⟨_, hid rfl⟩
    rw [ho.out] at HB0' hsn;obtain ⟨NX, hNX⟩ : ∃ y, Hid ((((L.take (j + 1)).map (·.l)).foldl (aggS op col) nulV) = y) := ⟨_, hid rfl⟩
    rw [hNX.out] at hsn;have HB := hid HB0'
    have y0 := hvb.out.1.get 0 _ rfl; have y1 := hvb.out.1.get 1 _ rfl; have y2 := hvb.out.1.get 2 _ rfl; have y3 := hvb.out.1.get 3 _ rfl
    have t0 := HB.out.bx.out.get 0 _ rfl; have t1 := HB.out.bx.out.get 1 _ rfl; have t2 := HB.out.bx.out.get 2 _ rfl; have t3 := HB.out.bx.out.get 3 _ rfl
    have g0 := HB.out.bx.out.free 0; have g1 := HB.out.bx.out.free 1; have g2 := HB.out.bx.out.free 2; have g3 := HB.out.bx.out.free 3
    have a0 := HB.out.ask.get 0 _ rfl; have a1 := HB.out.ask.get 1 _ rfl
    try dsimp only at t0 t1 t2 t3
    have hq57 : Hid (¬ q7 = q5) := hid (by have := H.out.bx.out.lt (by simp); have := hvb.out.2.2; omega)
    clear HB0' hS cA
    by_cases h1 : op = 1
    ·have d1 : (op == 1) = true := by simp [h1]
     have d2 : (op == 2) = false := by simp [h1]
     have d3 : (op == 3) = false := by simp [h1]
     have hsn2 := hsn.out
     unfold aggS at hsn2
     rw [if_pos h1] at hsn2;unfold sumS at hsn2
     rw [hv.out] at hsn2;dsimp only at hsn2;clear h1
     by_cases hk2 : vk = 2
     ·rw [if_pos hk2] at hsn2
      have e0 : (vk == 0) = false := by simp [hk2]
      have e2 : (vk == 2) = true := by simp [hk2]
      obtain ⟨N, hN⟩ : ∃ N, Hid (IntKind.i64.wrap (on + vn) = N) := ⟨_, hid rfl⟩
      have hN' := hN.out
      rw [hN.out] at hsn2;obtain ⟨W2, eW2, hW2, kW2⟩ := HB.out.put ⟨2, false, N, ⟨#[]⟩⟩;try dsimp only at eW2
      have b7 := hvb.out.1.keptS kW2 (by simp; exact hq57.out) (hvb.out.1.lt (by simp))
      have ba := hW2.ask
      have x0 := b7.get 0 _ rfl; have x1 := b7.get 1 _ rfl; have x2 := b7.get 2 _ rfl; have x3 := b7.get 3 _ rfl
      have l0 := ba.get 0 _ rfl; have l1 := ba.get 1 _ rfl
      have HF : Hid (Bx3 w q3 q4 q5 op col (((((L.take (j + 1)).map (·.l)).foldl (aggS op col) nulV))) W2) := hid (by rw [hNX.out, hsn2]; exact hW2)
      clear hW2 b7 ba kW2 hk2 hsn2;go_wp2_with fail;go_roundw
      case rel => exact ⟨j + 1, by omega, by go_num, HF⟩
      case measure => simp [intOf] <;> omega
     ·rw [if_neg hk2] at hsn2
      have e2 : (vk == 2) = false := beq_eq_false_iff_ne.2 hk2
      have HF : Hid (Bx3 w q3 q4 q5 op col (((((L.take (j + 1)).map (·.l)).foldl (aggS op col) nulV))) wc) := hid (by rw [hNX.out, hsn2]; exact HB.out)
      clear hk2 hsn2
      by_cases hk0 : vk = 0
      ·have e1 : (vk == 0) = true := by simp [hk0]
       clear hk0;go_wp2_with fail;go_roundw
       case rel => exact ⟨j + 1, by omega, by go_num, HF⟩
       case measure => simp [intOf] <;> omega
      ·have e1 : (vk == 0) = false := beq_eq_false_iff_ne.2 hk0
       clear hk0;go_wp2_with fail;go_roundw
       case rel => exact ⟨j + 1, by omega, by go_num, HF⟩
       case measure => simp [intOf] <;> omega
    have d1 : (op == 1) = false := beq_eq_false_iff_ne.2 h1
    by_cases h2 : op = 2
    ·have d2 : (op == 2) = true := by simp [h2]
     have d3 : (op == 3) = false := by simp [h2]
     have hq1 : ¬ (2 : Int) = 1 := by decide
     have hsn2 := hsn.out
     unfold aggS at hsn2
     simp only [h2, hq1, if_true, if_false] at hsn2;unfold utmS at hsn2
     rw [hv.out] at hsn2;dsimp only at hsn2;clear h2
     by_cases hk0 : vk = 0
     ·rw [if_pos hk0] at hsn2
      have HF : Hid (Bx3 w q3 q4 q5 op col (((((L.take (j + 1)).map (·.l)).foldl (aggS op col) nulV))) wc) := hid (by rw [hNX.out, hsn2]; exact HB.out)
      have e1 : (vk == 0) = true := by simp [hk0]
      clear hk0 hsn2;go_wp2_with fail;go_roundw
      case rel => exact ⟨j + 1, by omega, by go_num, HF⟩
      case measure => simp [intOf] <;> omega
     rw [if_neg hk0] at hsn2;have e1 : (vk == 0) = false := beq_eq_false_iff_ne.2 hk0
     obtain ⟨W2, eW2, hW2, kW2⟩ := HB.out.put ⟨vk, vb, vn, vt⟩;try dsimp only at eW2
     by_cases hok : ok = 0
     ·rw [if_pos (.inl hok)] at hsn2
      have e2 : (ok == 0) = true := by simp [hok]
      have HF : Hid (Bx3 w q3 q4 q5 op col (((((L.take (j + 1)).map (·.l)).foldl (aggS op col) nulV))) W2) := hid (by rw [hNX.out, hsn2]; exact hW2)
      have ba2 := hW2.ask
      have l0 := ba2.get 0 _ rfl; have l1 := ba2.get 1 _ rfl
      clear ba2 hW2 hk0 hok hsn2;go_wp2_with fail;go_roundw
      case rel => exact ⟨j + 1, by omega, by go_num, HF⟩
      case measure => simp [intOf] <;> omega
     have e2 : (ok == 0) = false := beq_eq_false_iff_ne.2 hok
     have cC := hid (cRefCompare ⟨vk, vb, vn, vt⟩ ⟨ok, ob, on, ot⟩ wc)
     simp only [Val.v] at cC;have hrg := cmp_range ⟨vk, vb, vn, vt⟩ ⟨ok, ob, on, ot⟩
     obtain ⟨C, hC⟩ : ∃ C, Hid (cmpV ⟨vk, vb, vn, vt⟩ ⟨ok, ob, on, ot⟩ = C) := ⟨_, hid rfl⟩
     simp only [hC.out] at cC;rw [hC.out] at hsn2 hrg;have hsn3 := hid hsn2
     clear hW2 eW2 hsn2 kW2;go_wp2_with fail;refine cC.out.mono ?_;rintro e w4 ⟨rfl, k4⟩;obtain ⟨W2, eW2, hW2, kW2⟩ := (HB.out.kept k4).put ⟨vk, vb, vn, vt⟩;try dsimp only at eW2
     have by4 := hvb.out.1.kept k4
     have x0 := by4.get 0 _ rfl; have x1 := by4.get 1 _ rfl; have x2 := by4.get 2 _ rfl; have x3 := by4.get 3 _ rfl
     have bo4 := (HB.out.kept k4).bx.out
     have p0 := bo4.get 0 _ rfl; have p1 := bo4.get 1 _ rfl; have p2 := bo4.get 2 _ rfl; have p3 := bo4.get 3 _ rfl
     have u0 := bo4.free 0; have u1 := bo4.free 1; have u2 := bo4.free 2; have u3 := bo4.free 3
     have ba4 := (HB.out.kept k4).ask
     have l0 := ba4.get 0 _ rfl; have l1 := ba4.get 1 _ rfl
     have HB5 := hid (HB.out.kept k4)
     try dsimp only at x0 x1 x2 x3 p0 p1 p2 p3
     clear cC k4 by4 bo4 ba4 y0 y1 y2 y3 t0 t1 t2 t3 a0 a1
     by_cases hCs : C = -1
     ·have hsn4 := hsn3.out
      rw [if_pos (.inr hCs)] at hsn4;have e3 : decide (C < 0) = true := by simp; omega
      have HF : Hid (Bx3 w q3 q4 q5 op col (((((L.take (j + 1)).map (·.l)).foldl (aggS op col) nulV))) W2) := hid (by rw [hNX.out, hsn4]; exact hW2)
      have ba2 := hW2.ask
      have l2 := ba2.get 0 _ rfl; have l3 := ba2.get 1 _ rfl
      clear ba2;have e5 : C < 0 := by omega
      clear hW2 hk0 hok hCs HB5 hsn4 hrg;go_wp2_with fail;go_roundw
      case rel => exact ⟨j + 1, by omega, by go_num, HF⟩
      case measure => simp [intOf] <;> omega
     ·have hsn4 := hsn3.out
      rw [if_neg (fun h => h.elim hok hCs)] at hsn4
      have e3 : decide (C < 0) = false := by simp; omega
      have e5 : ¬ (C < 0) := by omega
      have HF : Hid (Bx3 w q3 q4 q5 op col (((((L.take (j + 1)).map (·.l)).foldl (aggS op col) nulV))) w4) := hid (by rw [hNX.out, hsn4]; exact HB5.out)
      clear hW2 hk0 hok hCs HB5 eW2 hsn4 hrg;go_wp2_with fail;go_roundw
      case rel => exact ⟨j + 1, by omega, by go_num, HF⟩
      case measure => simp [intOf] <;> omega
    have d2 : (op == 2) = false := beq_eq_false_iff_ne.2 h2
    by_cases h3 : op = 3
    ·have d3 : (op == 3) = true := by simp [h3]
     have hq1 : ¬ (3 : Int) = 1 := by decide
     have hq2 : ¬ (3 : Int) = 2 := by decide
     have hsn2 := hsn.out
     unfold aggS at hsn2
     simp only [h3, hq1, hq2, if_true, if_false] at hsn2;unfold utmS at hsn2
     rw [hv.out] at hsn2;dsimp only at hsn2;clear h3
     by_cases hk0 : vk = 0
     ·rw [if_pos hk0] at hsn2
      have HF : Hid (Bx3 w q3 q4 q5 op col (((((L.take (j + 1)).map (·.l)).foldl (aggS op col) nulV))) wc) := hid (by rw [hNX.out, hsn2]; exact HB.out)
      have e1 : (vk == 0) = true := by simp [hk0]
      clear hk0 hsn2;go_wp2_with fail;go_roundw
      case rel => exact ⟨j + 1, by omega, by go_num, HF⟩
      case measure => simp [intOf] <;> omega
     rw [if_neg hk0] at hsn2;have e1 : (vk == 0) = false := beq_eq_false_iff_ne.2 hk0
     obtain ⟨W2, eW2, hW2, kW2⟩ := HB.out.put ⟨vk, vb, vn, vt⟩;try dsimp only at eW2
     by_cases hok : ok = 0
     ·rw [if_pos (.inl hok)] at hsn2
      have e2 : (ok == 0) = true := by simp [hok]
      have HF : Hid (Bx3 w q3 q4 q5 op col (((((L.take (j + 1)).map (·.l)).foldl (aggS op col) nulV))) W2) := hid (by rw [hNX.out, hsn2]; exact hW2)
      have ba2 := hW2.ask
      have l0 := ba2.get 0 _ rfl; have l1 := ba2.get 1 _ rfl
      clear ba2 hW2 hk0 hok hsn2;go_wp2_with fail;go_roundw
      case rel => exact ⟨j + 1, by omega, by go_num, HF⟩
      case measure => simp [intOf] <;> omega
     have e2 : (ok == 0) = false := beq_eq_false_iff_ne.2 hok
     have cC := hid (cRefCompare ⟨vk, vb, vn, vt⟩ ⟨ok, ob, on, ot⟩ wc)
     simp only [Val.v] at cC;have hrg := cmp_range ⟨vk, vb, vn, vt⟩ ⟨ok, ob, on, ot⟩
     obtain ⟨C, hC⟩ : ∃ C, Hid (cmpV ⟨vk, vb, vn, vt⟩ ⟨ok, ob, on, ot⟩ = C) := ⟨_, hid rfl⟩
     simp only [hC.out] at cC;rw [hC.out] at hsn2 hrg;have hsn3 := hid hsn2
     clear hW2 eW2 hsn2 kW2;go_wp2_with fail;refine cC.out.mono ?_;rintro e w4 ⟨rfl, k4⟩;obtain ⟨W2, eW2, hW2, kW2⟩ := (HB.out.kept k4).put ⟨vk, vb, vn, vt⟩;try dsimp only at eW2
     have by4 := hvb.out.1.kept k4
     have x0 := by4.get 0 _ rfl; have x1 := by4.get 1 _ rfl; have x2 := by4.get 2 _ rfl; have x3 := by4.get 3 _ rfl
     have bo4 := (HB.out.kept k4).bx.out
     have p0 := bo4.get 0 _ rfl; have p1 := bo4.get 1 _ rfl; have p2 := bo4.get 2 _ rfl; have p3 := bo4.get 3 _ rfl
     have u0 := bo4.free 0; have u1 := bo4.free 1; have u2 := bo4.free 2; have u3 := bo4.free 3
     have ba4 := (HB.out.kept k4).ask
     have l0 := ba4.get 0 _ rfl; have l1 := ba4.get 1 _ rfl
     have HB5 := hid (HB.out.kept k4)
     try dsimp only at x0 x1 x2 x3 p0 p1 p2 p3
     clear cC k4 by4 bo4 ba4 y0 y1 y2 y3 t0 t1 t2 t3 a0 a1
     by_cases hCs : C = 1
     ·have hsn4 := hsn3.out
      rw [if_pos (.inr hCs)] at hsn4;have e3 : decide (0 < C) = true := by simp; omega
      have HF : Hid (Bx3 w q3 q4 q5 op col (((((L.take (j + 1)).map (·.l)).foldl (aggS op col) nulV))) W2) := hid (by rw [hNX.out, hsn4]; exact hW2)
      have ba2 := hW2.ask
      have l2 := ba2.get 0 _ rfl; have l3 := ba2.get 1 _ rfl
      clear ba2;have e5 : 0 < C := by omega
      clear hW2 hk0 hok hCs HB5 hsn4 hrg;go_wp2_with fail;go_roundw
      case rel => exact ⟨j + 1, by omega, by go_num, HF⟩
      case measure => simp [intOf] <;> omega
     ·have hsn4 := hsn3.out
      rw [if_neg (fun h => h.elim hok hCs)] at hsn4
      have e3 : decide (0 < C) = false := by simp; omega
      have e5 : ¬ (0 < C) := by omega
      have HF : Hid (Bx3 w q3 q4 q5 op col (((((L.take (j + 1)).map (·.l)).foldl (aggS op col) nulV))) w4) := hid (by rw [hNX.out, hsn4]; exact HB5.out)
      clear hW2 hk0 hok hCs HB5 eW2 hsn4 hrg;go_wp2_with fail;go_roundw
      case rel => exact ⟨j + 1, by omega, by go_num, HF⟩
      case measure => simp [intOf] <;> omega
    have d3 : (op == 3) = false := beq_eq_false_iff_ne.2 h3
    have hsn2 := hsn.out
    unfold aggS at hsn2
    rw [if_neg h1, if_neg h2, if_neg h3] at hsn2;have HF : Hid (Bx3 w q3 q4 q5 op col (((((L.take (j + 1)).map (·.l)).foldl (aggS op col) nulV))) wc) := hid (by rw [hNX.out, hsn2]; exact HB.out)
    clear hsn2 h1 h2 h3
    by_cases hk0 : vk = 0
    ·have e1 : (vk == 0) = true := by simp [hk0]
     clear hk0;go_wp2_with fail;go_roundw
     case rel => exact ⟨j + 1, by omega, by go_num, HF⟩
     case measure => simp [intOf] <;> omega
    ·have e1 : (vk == 0) = false := beq_eq_false_iff_ne.2 hk0
     clear hk0;go_wp2_with fail;go_roundw
     case rel => exact ⟨j + 1, by omega, by go_num, HF⟩
     case measure => simp [intOf] <;> omega
  ·have hje : Hid (((L.take j).map (·.l)).foldl (aggS op col) nulV = Z) := hid (by rw [show j = L.length by omega, List.take_length, ← hZ.out, hfold.out])
   have hB := H.out
   rw [hje.out] at hB;obtain ⟨zk, zb, zn, zt⟩ := Z;obtain ⟨W2, eW2, bW2, kW2⟩ := hB.bx.ret;have t0 := hB.bx.out.get 0 _ rfl; have t1 := hB.bx.out.get 1 _ rfl; have t2 := hB.bx.out.get 2 _ rfl; have t3 := hB.bx.out.get 3 _ rfl
   have p0 := hB.bx.res.get 0 _ rfl; have p1 := hB.bx.res.get 1 _ rfl; have p2 := hB.bx.res.get 2 _ rfl; have p3 := hB.bx.res.get 3 _ rfl
   have r0 := hB.bx.res.free 0; have r1 := hB.bx.res.free 1; have r2 := hB.bx.res.free 2; have r3 := hB.bx.res.free 3
   have v0 := bW2.get 0 _ rfl; have v1 := bW2.get 1 _ rfl; have v2 := bW2.get 2 _ rfl; have v3 := bW2.get 3 _ rfl
   try dsimp only at eW2 t0 t1 t2 t3 v0 v1 v2 v3
   have KF := hid kW2
   have dj1 : ¬ (j : Int) < (L.length : Int) := by omega
   have dj2 : decide ((j : Int) < (L.length : Int)) = false := by simp; omega
   clear hB bW2 kW2 H;go_wp2_with fail;exact bodyPost_ret (v := .agg #[.int .i64 zk, .bool zb, .int .i64 zn, .string zt]) (by simp [results, Tryz.results116, go_sem, v0, v1, v2, v3]) rfl ⟨rfl, KF.out⟩
theorem keys_snoc {bs : List Int} {L : List Vs} {j : Nat} (h : j < L.length) : keysV bs ((L.take (j + 1)).map (·.l)) = insK (keysV bs ((L.take j).map (·.l))) (pickV L[j].l bs) := by
 rw [List.take_succ_eq_append_getElem h, List.map_append];exact keysV_snoc _ _ _
theorem getD_ml (m : List Vs) (k : Nat) (h : k < m.length) : (m.map (·.l)).getD k [] = m[k].l := by
 rw [List.getD_eq_getElem?_getD, List.getElem?_map, List.getElem?_eq_getElem h];rfl
theorem rKeys (a : Option Addr) (c : Nat) (L : List Vs) (ba : Option Addr) (bc : Nat) (bs : List Int) (w : World) (hs : VsE.See w a L) (hx : ∀ x ∈ L, x.lies w) (hb : IntE.See w ba bs) (hl : L.length ≤ 1048576) (hbl : bs.length ≤ 1048576) :
  Calls Tryz.prog 113 #[.slice a L.length c, .slice ba bs.length bc] w (LotP (keysV bs (L.map (·.l))) w) := by
 have HS := hid hs
 have HX := hid hx
 have HB := hid hb
 have H0 : Hid (Lot w.heap.size none 0 [] w ∧ Kp [] w w) := hid ⟨Lot.nil _ _, Kp.refl _ _⟩
 clear hs hx hb;go_enter Tryz.func113, Tryz.ntmps113
 go_wp2_with fail;go_loopw [5, 6] (fun v5 i wr => ∃ (j : Nat) (ra : Option Addr) (rc : Nat) (m : List Vs), j ≤ L.length ∧ i = .int .i64 (j : Int) ∧ v5 = .slice ra m.length rc ∧ Hid (m.map (·.l) = keysV bs ((L.take j).map (·.l)) ∧ m.length ≤ j) ∧ Hid (Lot w.heap.size ra rc m wr ∧ Kp [] w wr)) (fun _ i _ => L.length - (intOf i).toNat)
 case atStart => exact ⟨0, none, 0, [], Nat.zero_le _, rfl, rfl, hid ⟨rfl, by simp⟩, H0⟩
 case round =>
  obtain ⟨j, ra, rc, m, hj, rfl, rfl, hm, H⟩ := hrel;obtain ⟨wo, hwo⟩ : ∃ x, x = wr := ⟨wr, rfl⟩
  subst hwo;clear H0
  by_cases hlt : j < L.length
  ·have hsnk := hid (keys_snoc (bs := bs) hlt)
   obtain ⟨g, o, ea, c0⟩ := vsAt HS.out (k := j) (x := L[j]) (by simp [hlt])
   have hxl := hid (HX.out L[j] (List.getElem_mem hlt))
   obtain ⟨x, hxe⟩ : ∃ x, Hid (L[j] = x) := ⟨_, hid rfl⟩
   rw [hxe.out] at c0 hxl hsnk;obtain ⟨xa, xc, xl⟩ := x;have hxc := hxl.out.cap; have hxm := hxl.out.most
   unfold maxLen at hxm
   dsimp only at c0 hsnk hxc hxm;have cg := kpAt H.out.2 c0
   have cP0 := rPick xa xc xl ba bc bs wo (hxl.out.see.kept H.out.2) (by omega) (HB.out.keptNew H.out.2) (by omega)
   obtain ⟨zl, hzl⟩ : ∃ z, Hid (pickV xl bs = z) := ⟨_, hid rfl⟩
   rw [hzl.out] at cP0 hsnk;have cP := hid cP0
   have hmj := hid hm.out.2
   have hmb : m.length ≤ 1048576 := by have := hm.out.2; omega
   have i1 : (0 : Int) ≤ (j : Int) := by omega
   have i2 : (j : Int) < (L.length : Int) := by omega
   have i3 : (j : Int) + 1 ≤ 9223372036854775807 := by omega
   subst ea;clear c0 cP0;go_wp2_with fail;refine cP.out.mono ?_;rintro e wz ⟨za, zc, rfl, hzrow, kz, hzb⟩;have Kz := hid kz
   have hzr := hid (And.intro hzrow hzb)
   have Hl0 : Hid (Lot w.heap.size ra rc m wz) := hid (H.out.1.ck (CK.ofKp kz) (by simp) (by simp))
   have hzli := hid (rowLies hzrow)
   have hzlen : zl.length ≤ 1048576 := by rw [← hzl.out]; unfold pickV; rw [List.length_map]; exact hbl
   obtain ⟨_, _, e3, hsee0, _, hcp, _⟩ := Hl0.out.row.see;obtain ⟨e5, e6, e7⟩ := Value.slice.inj e3;rw [← e5] at hsee0;rw [← e7] at hcp;have hcap := hid hcp
   have hsee := hid hsee0
   clear cP hzrow kz hzb cg e3 e5 e6 e7 hcp hsee0;have hpk := hid (And.intro (posK_le zl (m.map (·.l))) (And.intro (posK_lt zl (m.map (·.l))) (posK_ge zl (m.map (·.l)))))
   obtain ⟨P, hP⟩ : ∃ P, Hid (posK zl (m.map (·.l)) = P) := ⟨_, hid rfl⟩
   rw [hP.out, List.length_map] at hpk;have hPm : P ≤ m.length := hpk.out.1
   -- a row's key held against one
   have cRw : Hid (∀ (k : Nat) (hk : k < m.length) (W : World), Kp [] wz W → (∃ g o, ra = some ⟨g, o, none⟩ ∧ W.cell? ⟨g, o + k, none⟩ = some (.slice m[k].a m[k].l.length m[k].c)) ∧ Calls Tryz.prog 114 #[.slice m[k].a m[k].l.length m[k].c, .slice za zl.length zc] W fun e w' => e = .returned (.int .i64 (rowsV m[k].l zl)) ∧ Kp [] W w') := hid (fun k hk W q => by
    obtain ⟨g', o', ea', hc⟩ := vsAt hsee.out (k := k) (x := m[k]) (by simp [hk])
    have hli := (Hl0.out.lies m[k] (List.getElem_mem hk)).ck (CK.ofKp q) (by simp)
    have hcc := hli.cap; have hmm := hli.most
    unfold maxLen at hmm
    exact ⟨⟨g', o', ea', kpAt q hc⟩, cRefRows m[k].a za m[k].c zc m[k].l zl W hli.see ((hzli.out.ck (CK.ofKp q) (by simp)).see) (by omega) (by omega)⟩)
   go_upto_block 2 with fail
   go_cut [8] from 22 to 36 (fun v8 wc => v8 = .int .i64 (P : Int) ∧ Hid (Kp [] wz wc))
   case first =>
    go_wp2_with fail;go_loopw [8] (fun v8 wn => ∃ n : Nat, n ≤ P ∧ v8 = .int .i64 (n : Int) ∧ Hid (Kp [] wz wn)) (fun v8 _ => P - (intOf v8).toNat)
    case atStart => exact ⟨0, Nat.zero_le _, rfl, hid (Kp.refl _ _)⟩
    case round =>
     obtain ⟨n, hn, rfl, kn⟩ := hrel
     by_cases hnm : n < m.length
     ·obtain ⟨⟨g2, o2, eb, y0⟩, cR0⟩ := cRw.out n hnm wr kn.out
      have hrel2 : Hid ((n < P → rowsV m[n].l zl < 0) ∧ (n = P → 0 ≤ rowsV m[n].l zl)) := hid ⟨fun h => by have := hpk.out.2.1 n h; rwa [getD_ml m n hnm] at this, fun h => by have := hpk.out.2.2 (by omega); rw [← h, getD_ml m n hnm] at this; omega⟩
      obtain ⟨y, hye⟩ : ∃ y, Hid (m[n] = y) := ⟨_, hid rfl⟩
      rw [hye.out] at y0 cR0 hrel2;obtain ⟨ya, yc, yl⟩ := y;dsimp only at y0 cR0 hrel2;obtain ⟨C, hC⟩ : ∃ C, Hid (rowsV yl zl = C) := ⟨_, hid rfl⟩
      rw [hC.out] at cR0 hrel2;have cR := hid cR0
      have k1 : (0 : Int) ≤ (n : Int) := by omega
      have k2 : (n : Int) < (m.length : Int) := by omega
      have k3 : (n : Int) + 1 ≤ 9223372036854775807 := by omega
      have k4 : decide ((n : Int) < (m.length : Int)) = true := by simp; omega
      have hsub := hid eb
      subst eb;clear cR0 hsub;go_wp2_with fail;refine cR.out.mono ?_;rintro e we ⟨rfl, ke⟩;have KE := hid (kn.out.trans ke (by simp))
      clear ke cR
      by_cases hC0 : C < 0
      ·have d1 : decide (C < 0) = true := by simpa using hC0
       have hnP : n < P := by
        rcases Nat.lt_or_ge n P with h | h
        ·exact h
        ·have := hrel2.out.2 (by omega); omega
       go_wp2_with fail;go_roundw
       case rel => exact ⟨n + 1, by omega, by go_num, KE⟩
       case measure => simp [intOf] <;> omega
      ·have d1 : decide (C < 0) = false := by simpa using hC0
       have hnP : Hid (n = P) := hid (by
        rcases Nat.lt_or_ge n P with h | h
        ·exact absurd (hrel2.out.1 h) hC0
        ·omega)
       go_wp2_with fail;go_meet;exact ⟨by rw [hnP.out], KE⟩
     ·have hnP : Hid (n = P) := hid (by omega)
      have k4 : decide ((n : Int) < (m.length : Int)) = false := by simp; omega
      have k5 : ¬ (n : Int) < (m.length : Int) := by omega
      go_wp2_with fail;go_meet;exact ⟨by rw [hnP.out], kn⟩
   case rest =>
    obtain ⟨rfl, Kzc⟩ := hcut;obtain ⟨n0, hn0e⟩ : ∃ n0, n0 = P := ⟨P, rfl⟩
    subst hn0e;have hn0 : n0 ≤ m.length := hPm
    have hpos : Hid (posK zl (m.map (·.l)) = n0) := hP
    have Hlc : Hid (Lot w.heap.size ra rc m wc) := hid (Hl0.out.ck (CK.ofKp Kzc.out) (by simp) (by simp))
    have Kwc : Hid (Kp [] w wc) := hid ((H.out.2.trans Kz.out (by simp)).trans Kzc.out (by simp))
    have hseeW0 := hsee.out.keptNew Kzc.out
    by_cases hnm : n0 < m.length
    ·obtain ⟨⟨g2, o2, eb, y0⟩, cR0⟩ := cRw.out n0 hnm wc Kzc.out
     have hhit : Hid (hitK zl (m.map (·.l)) = (rowsV m[n0].l zl == 0)) := hid (by
      unfold hitK
      rw [hP.out, List.length_map, getD_ml m n0 hnm];simp [hnm])
     obtain ⟨y, hye⟩ : ∃ y, Hid (m[n0] = y) := ⟨_, hid rfl⟩
     rw [hye.out] at y0 cR0 hhit;obtain ⟨ya, yc, yl⟩ := y;dsimp only at y0 cR0 hhit;obtain ⟨C, hC⟩ : ∃ C, Hid (rowsV yl zl = C) := ⟨_, hid rfl⟩
     rw [hC.out] at cR0 hhit;have cR := hid cR0
     have k1 : (0 : Int) ≤ (n0 : Int) := by omega
     have k2 : (n0 : Int) < (m.length : Int) := by omega
     have k4 : decide ((n0 : Int) < (m.length : Int)) = true := by simp; omega
     have HSW := hid hseeW0
     subst eb;clear cR0 hseeW0;go_wp2_with fail;refine cR.out.mono ?_;rintro e we ⟨rfl, ke⟩
     by_cases hC0 : C = 0
     ·have d1 : (C == 0) = true := by simp [hC0]
      have hmF : Hid (m.map (·.l) = keysV bs ((L.take (j + 1)).map (·.l)) ∧ m.length ≤ j + 1) := hid ⟨by
       rw [hsnk.out, ← hm.out.1];unfold insK
       rw [hhit.out, d1];rfl, by have := hm.out.2; omega⟩
      have HF : Hid (Lot w.heap.size (some ⟨g2, o2, none⟩) rc m we ∧ Kp [] w we) := hid ⟨Hlc.out.ck (CK.ofKp ke) (by simp) (by simp), Kwc.out.trans ke (by simp)⟩
      clear hC0 ke cR y0;go_wp2_with fail;go_roundw
      case rel => exact ⟨j + 1, _, rc, m, by omega, by go_num, rfl, hmF, HF⟩
      case measure => simp [intOf] <;> omega
     ·have d1 : (C == 0) = false := beq_eq_false_iff_ne.2 hC0
      have hnhit : Hid (hitK zl (m.map (·.l)) = false) := hid (by rw [hhit.out, d1])
      have Kze : Hid (Kp [] wz we) := hid (Kzc.out.trans ke (by simp))
      have Hle : Hid (Lot w.heap.size (some ⟨g2, o2, none⟩) rc m we) := hid (Hlc.out.ck (CK.ofKp ke) (by simp) (by simp))
      have Kwe : Hid (Kp [] w we) := hid (Kwc.out.trans ke (by simp))
      have hseeW := HSW.out.keptNew ke
      clear hC0 ke cR y0;have hsf := fun W : World => sliceFromVs (some ⟨g2, o2, none⟩) m.length rc n0 W hn0
      have hsee2 : VsE.See we (if rc = n0 then (some ⟨g2, o2, none⟩ : Option Addr) else (some ⟨g2, o2, none⟩ : Option Addr).map (·.add n0)) (m.drop n0) := by
       by_cases hc : rc = n0
       ·rw [List.drop_eq_nil_of_le (by have := hcap.out; omega)]; exact .inl rfl
       ·rw [if_neg hc]; exact seeDropVs hseeW n0
      obtain ⟨cq, hcq⟩ : ∃ q, Hid ((if rc = n0 then (some ⟨g2, o2, none⟩ : Option Addr) else (some ⟨g2, o2, none⟩ : Option Addr).map (·.add n0)) = q) := ⟨_, hid rfl⟩
      rw [hcq.out] at hsee2;simp only [hcq.out] at hsf;obtain ⟨cc, hcc⟩ : ∃ q, Hid (rc - n0 = q) := ⟨_, hid rfl⟩
      simp only [hcc.out] at hsf;obtain ⟨a1, c1, W1, a2, c2, W2, a3, c3, W3, r1, r2, r3, R3, n3, k1, k2, k3⟩ := app3V we (some ⟨g2, o2, none⟩) cq rc cc m.length n0 m rfl hn0 (hseeW.front n0) hsee2 ⟨za, zc, zl⟩ (by omega)
      obtain ⟨nk, hnk⟩ : ∃ q, Hid (m.length - n0 = q) := ⟨_, hid rfl⟩
      simp only [hnk.out] at hsf;rw [hnk.out] at r3;have HSF := hid hsf
      have HST := hid (fun W : World => sliceToVs (some ⟨g2, o2, none⟩) m.length rc n0 W (by have := hcap.out; omega))
      dsimp only at r1 r2 r3;have hr1 := hid r1
      have hr2 := hid r2
      have hr3 := hid r3
      obtain ⟨m3, hm3⟩ : ∃ m3, Hid (m.take n0 ++ (⟨za, zc, zl⟩ : Vs) :: m.drop n0 = m3) := ⟨_, hid rfl⟩
      rw [hm3.out] at R3;have hm3l : m3.length = m.length + 1 := by rw [← hm3.out]; simp; omega
      have hm3i : ∀ x ∈ m3, x ∈ m ∨ x = ⟨za, zc, zl⟩ := fun x hx => by
       rw [← hm3.out] at hx
       rcases List.mem_append.1 hx with hx | hx
       ·exact .inl (List.mem_of_mem_take hx)
       ·rcases List.mem_cons.1 hx with hx | hx
        ·exact .inr hx
        ·exact .inl (List.mem_of_mem_drop hx)
      have hzc := Kze.out
      have HF : Hid (Lot w.heap.size a3 c3 m3 W3 ∧ Kp [] w W3) := hid ⟨⟨R3, fun x hx => by
       rcases hm3i x hx with h | rfl
       ·exact ((Hle.out.lies x h)).ck (CK.ofKp k3) (by simp)
       ·exact (rowLies (hzr.out.1.keptNew hzc)).ck (CK.ofKp k3) (by simp), fun k hk => by have := n3 k hk; have := Kwe.out.size; omega, fun x hx k hk => by
       have h1 : w.heap.size ≤ k ∧ k < we.heap.size := by
        rcases hm3i x hx with h | rfl
        ·exact ⟨(Hle.out.rows x h k hk).1, (Hle.out.rows x h k hk).2.1⟩
        ·exact ⟨by have := hzr.out.2 k hk; have := H.out.2.size; omega, (hzr.out.1.keptNew hzc).lt k (by rw [ownV]; exact hk)⟩
       exact ⟨h1.1, Nat.lt_of_lt_of_le h1.2 k3.size, fun hm' => by have := n3 k hm'; omega⟩⟩, Kwe.out.trans k3 (by simp)⟩
      have hmF : Hid (m3.map (·.l) = keysV bs ((L.take (j + 1)).map (·.l)) ∧ m3.length ≤ j + 1) := hid ⟨by
       rw [hsnk.out, ← hm.out.1, ← hm3.out, List.map_append, List.map_cons, List.map_take, List.map_drop];unfold insK
       rw [hnhit.out, hpos.out];rfl, by have := hm.out.2; omega⟩
      have hm3e := hid hm3l
      rw [← hm3l] at r3;have hr3 := hid r3
      clear R3 n3 k1 k2 k3 r1 r2 r3 hseeW hsee2 hsf hm3l hm3i hzc;have hsl := HST.out we
      go_upto_region 12 with (first | (refine wpAppRunY rfl _ _ 60 60 rfl _ _ _ rfl rfl hr1.out ?_) | fail)
      clear hsl;go_upto_region 13 with (first | (refine wpAppRunY rfl _ _ 60 60 rfl _ _ _ rfl rfl hr2.out ?_) | fail)
      have hsl := HSF.out W2
      go_upto_region 14 with (first | (refine wpAppRunY rfl _ _ 60 60 rfl _ _ _ rfl rfl hr3.out ?_) | fail)
      clear hsl;go_wp2_with fail;go_roundw
      case rel => exact ⟨j + 1, a3, c3, m3, by omega, by go_num, rfl, hmF, HF⟩
      case measure => simp [intOf] <;> omega
    ·have hnhit : Hid (hitK zl (m.map (·.l)) = false) := hid (by
      unfold hitK
      rw [hP.out, List.length_map];simp; omega)
     have k4 : decide ((n0 : Int) < (m.length : Int)) = false := by simp; omega
     have k5 : ¬ (n0 : Int) < (m.length : Int) := by omega
     have hseeW := hseeW0
     clear hseeW0;have hsf := fun W : World => sliceFromVs ra m.length rc n0 W hn0
     have hsee2 : VsE.See wc (if rc = n0 then ra else ra.map (·.add n0)) (m.drop n0) := by
      by_cases hc : rc = n0
      ·rw [List.drop_eq_nil_of_le (by have := hcap.out; omega)]; exact .inl rfl
      ·rw [if_neg hc]; exact seeDropVs hseeW n0
     obtain ⟨cq, hcq⟩ : ∃ q, Hid ((if rc = n0 then ra else ra.map (·.add n0)) = q) := ⟨_, hid rfl⟩
     rw [hcq.out] at hsee2;simp only [hcq.out] at hsf;obtain ⟨cc, hcc⟩ : ∃ q, Hid (rc - n0 = q) := ⟨_, hid rfl⟩
     simp only [hcc.out] at hsf;obtain ⟨a1, c1, W1, a2, c2, W2, a3, c3, W3, r1, r2, r3, R3, n3, k1, k2, k3⟩ := app3V wc ra cq rc cc m.length n0 m rfl hn0 (hseeW.front n0) hsee2 ⟨za, zc, zl⟩ (by omega)
     obtain ⟨nk, hnk⟩ : ∃ q, Hid (m.length - n0 = q) := ⟨_, hid rfl⟩
     simp only [hnk.out] at hsf;rw [hnk.out] at r3;have HSF := hid hsf
     have HST := hid (fun W : World => sliceToVs ra m.length rc n0 W (by have := hcap.out; omega))
     dsimp only at r1 r2 r3;have hr1 := hid r1
     have hr2 := hid r2
     have hr3 := hid r3
     obtain ⟨m3, hm3⟩ : ∃ m3, Hid (m.take n0 ++ (⟨za, zc, zl⟩ : Vs) :: m.drop n0 = m3) := ⟨_, hid rfl⟩
     rw [hm3.out] at R3;have hm3l : m3.length = m.length + 1 := by rw [← hm3.out]; simp; omega
     have hm3i : ∀ x ∈ m3, x ∈ m ∨ x = ⟨za, zc, zl⟩ := fun x hx => by
      rw [← hm3.out] at hx
      rcases List.mem_append.1 hx with hx | hx
      ·exact .inl (List.mem_of_mem_take hx)
      ·rcases List.mem_cons.1 hx with hx | hx
       ·exact .inr hx
       ·exact .inl (List.mem_of_mem_drop hx)
     have hzc := Kzc.out
     have HF : Hid (Lot w.heap.size a3 c3 m3 W3 ∧ Kp [] w W3) := hid ⟨⟨R3, fun x hx => by
      rcases hm3i x hx with h | rfl
      ·exact ((Hlc.out.lies x h)).ck (CK.ofKp k3) (by simp)
      ·exact (rowLies (hzr.out.1.keptNew hzc)).ck (CK.ofKp k3) (by simp), fun k hk => by have := n3 k hk; have := Kwc.out.size; omega, fun x hx k hk => by
      have h1 : w.heap.size ≤ k ∧ k < wc.heap.size := by
       rcases hm3i x hx with h | rfl
       ·exact ⟨(Hlc.out.rows x h k hk).1, (Hlc.out.rows x h k hk).2.1⟩
       ·exact ⟨by have := hzr.out.2 k hk; have := H.out.2.size; omega, (hzr.out.1.keptNew hzc).lt k (by rw [ownV]; exact hk)⟩
      exact ⟨h1.1, Nat.lt_of_lt_of_le h1.2 k3.size, fun hm' => by have := n3 k hm'; omega⟩⟩, Kwc.out.trans k3 (by simp)⟩
     have hmF : Hid (m3.map (·.l) = keysV bs ((L.take (j + 1)).map (·.l)) ∧ m3.length ≤ j + 1) := hid ⟨by
      rw [hsnk.out, ← hm.out.1, ← hm3.out, List.map_append, List.map_cons, List.map_take, List.map_drop];unfold insK
      rw [hnhit.out, hpos.out];rfl, by have := hm.out.2; omega⟩
     have hm3e := hid hm3l
     rw [← hm3l] at r3;have hr3 := hid r3
     clear R3 n3 k1 k2 k3 r1 r2 r3 hseeW hsee2 hsf hm3l hm3i hzc;have hsl := HST.out wc
     go_upto_region 12 with (first | (refine wpAppRunY rfl _ _ 60 60 rfl _ _ _ rfl rfl hr1.out ?_) | fail)
     clear hsl;go_upto_region 13 with (first | (refine wpAppRunY rfl _ _ 60 60 rfl _ _ _ rfl rfl hr2.out ?_) | fail)
     have hsl := HSF.out W2
     go_upto_region 14 with (first | (refine wpAppRunY rfl _ _ 60 60 rfl _ _ _ rfl rfl hr3.out ?_) | fail)
     clear hsl;go_wp2_with fail;go_roundw
     case rel => exact ⟨j + 1, a3, c3, m3, by omega, by go_num, rfl, hmF, HF⟩
     case measure => simp [intOf] <;> omega
  ·have hmm : m.map (·.l) = keysV bs (L.map (·.l)) := by rw [hm.out.1, show j = L.length by omega, List.take_length]
   have dj1 : ¬ (j : Int) < (L.length : Int) := by omega
   have dj2 : decide ((j : Int) < (L.length : Int)) = false := by simp; omega
   have hmm' := hid hmm
   clear hmm;go_wp2_with fail;go_ret;exact ⟨ra, rc, m, rfl, H.out.1, hmm'.out, H.out.2⟩
theorem filterSnocG {α : Type} (p : α → Bool) (L : List α) (j : Nat) (hj : j < L.length) : (L.take (j + 1)).filter p = (L.take j).filter p ++ (if p L[j] then [L[j]] else []) := by
 rw [List.take_succ_eq_append_getElem hj, List.filter_append]
 by_cases h : p L[j] <;> simp [h]
theorem keysV_len (bs : List Int) : ∀ R, (keysV bs R).length ≤ R.length := revInd (by simp [keysV]) fun R l ih => by
 rw [keysV_snoc, List.length_append];unfold insK
 split
 ·simp; omega
 ·rw [List.length_append, List.length_cons, List.length_take, List.length_drop]
  have := posK_le (pickV l bs) (keysV bs R)
  simp
  omega
theorem rGroup1 (a : Option Addr) (c : Nat) (L : List Vs) (ba : Option Addr) (bc : Nat) (bs : List Int) (ga : Option Addr) (gc : Nat) (gs : List (Int × Int)) (w : World) (hs : VsE.See w a L) (hx : ∀ x ∈ L, x.lies w) (hb : IntE.See w ba bs) (hg : AgE.See w ga gs) (hl : L.length ≤ 1048576) (hr : ∀ x ∈ L, x.l.length ≤ 1048576) (hbl : bs.length ≤ 1048576) (hgl : gs.length ≤ 1048576) (hbs : bs ≠ []) :
  Calls Tryz.prog 63 #[.slice a L.length c, .slice ba bs.length bc, .slice ga gs.length gc] w (LotP (refG bs gs (L.map (·.l))) w) := by
 have HS := hid hs
 have HX := hid hx
 have HB := hid hb
 have HG := hid hg
 have HR := hid hr
 have cK0 := rKeys a c L ba bc bs w hs hx hb hl hbl
 obtain ⟨R, hRL⟩ : ∃ R, Hid (L.map (·.l) = R) := ⟨_, hid rfl⟩
 rw [hRL.out] at cK0 ⊢;have cK := hid cK0
 have hbsH := hid hbs
 have db : ((bs.length : Int) == 0) = false := beq_eq_false_iff_ne.2 (by have := List.length_pos_iff.2 hbs; omega)
 clear hs hx hb hg hr cK0 hbs;go_enter Tryz.func63, Tryz.ntmps63
 go_wp2_with fail;refine cK.out.mono ?_;rintro e w1 ⟨ka1, kc1, K1, rfl, hlK, hK1, k1⟩;obtain ⟨W0, hW0⟩ : ∃ x, x = w1 := ⟨w1, rfl⟩
 subst hW0;obtain ⟨KS, hKSe⟩ : ∃ K : List Vs, K = K1 := ⟨K1, rfl⟩
 subst hKSe;have hKsee : VsE.See W0 ka1 KS := by obtain ⟨_, _, e3, h, _⟩ := hlK.row.see; rw [(Value.slice.inj e3).1]; exact h
 have hKli : ∀ x ∈ KS, x.lies W0 := hlK.lies
 have hKS : KS.map (·.l) = if bs = [] then [[]] else keysV bs R := by rw [if_neg hbsH.out]; exact hK1
 have hKlen : KS.length ≤ 1048577 := by
  have h1 := congrArg List.length hK1
  have h2 := keysV_len bs R
  rw [List.length_map] at h1;have h3 : R.length = L.length := by rw [← hRL.out]; simp
  omega
 have HKB : Hid (∀ x ∈ KS, x.l.length ≤ 1048576) := hid (fun x hx => by
  have h1 : x.l ∈ keysV bs R := by rw [← hK1]; exact List.mem_map.2 ⟨x, hx, rfl⟩
  obtain ⟨l, _, e⟩ := (keysV_ok bs R).first _ h1;rw [← e];unfold pickV
  rw [List.length_map];exact hbl)
 have KW0 : Kp [] w W0 := k1
 clear hlK hK1 k1 cK;have HK := hid (And.intro hKsee (And.intro hKli (And.intro hKS hKlen)))
 have H0 : Hid (Lot W0.heap.size none 0 [] W0 ∧ Kp [] W0 W0) := hid ⟨Lot.nil _ _, Kp.refl _ _⟩
 have HW0 := hid KW0
 clear hKsee hKli hKS KW0;go_wp2_with fail;go_loopw [8, 9] (fun v8 v9 wr => ∃ (i : Nat) (oa : Option Addr) (oc : Nat) (O : List Vs), i ≤ KS.length ∧ v9 = .int .i64 (i : Int) ∧ v8 = .slice oa O.length oc ∧ Hid (O.map (·.l) = (KS.take i).map (fun x => x.l ++ gs.map (tellV (R.filter fun l => rowsV (pickV l bs) x.l == 0))) ∧ O.length ≤ i) ∧ Hid (Lot W0.heap.size oa oc O wr ∧ Kp [] W0 wr)) (fun _ v9 _ => KS.length - (intOf v9).toNat)
 case atStart => exact ⟨0, none, 0, [], Nat.zero_le _, rfl, rfl, hid ⟨rfl, by simp⟩, H0⟩
 case round =>
  obtain ⟨i, oa, oc, O, hi, rfl, rfl, hO, H⟩ := hrel;obtain ⟨wo, hwo⟩ : ∃ x, x = wr := ⟨wr, rfl⟩
  subst hwo;clear H0;have hKl2 : KS.length ≤ 1048577 := HK.out.2.2.2
  by_cases hik : i < KS.length
  ·obtain ⟨gk, ok, ek, k0⟩ := vsAt HK.out.1 (k := i) (x := KS[i]) (by simp [hik])
   have hkl := hid (HK.out.2.1 KS[i] (List.getElem_mem hik))
   have htk := hid (List.take_succ_eq_append_getElem hik)
   obtain ⟨kx, hkx⟩ : ∃ x, Hid (KS[i] = x) := ⟨_, hid rfl⟩
   rw [hkx.out] at k0 hkl htk;obtain ⟨ka, kc, kl⟩ := kx;have hkc := hkl.out.cap; have hkm := hkl.out.most
   have hklb := HKB.out (⟨ka, kc, kl⟩ : Vs) (by rw [← hkx.out]; exact List.getElem_mem hik)
   unfold maxLen at hkm
   dsimp only at k0 hkc hkm hklb;have hWo := hid (HW0.out.trans H.out.2 (by simp))
   obtain ⟨RM, hRM⟩ : ∃ r, Hid ((R.filter fun l => rowsV (pickV l bs) kl == 0) = r) := ⟨_, hid rfl⟩
   have i1 : (0 : Int) ≤ (i : Int) := by omega
   have i2 : (i : Int) < (KS.length : Int) := by omega
   have i3 : (i : Int) + 1 ≤ 9223372036854775807 := by omega
   have H1 : Hid (VsE.Row wo (.slice none 0 0) [] ∧ (∀ k ∈ blk none, wo.heap.size ≤ k) ∧ Kp [] wo wo) := hid ⟨.inl ⟨rfl, rfl⟩, by simp [blk], Kp.refl _ _⟩
   have hCk : Hid (∀ W, Kp [] W0 W → W.cell? ⟨gk, ok + i, none⟩ = some (.slice ka kl.length kc)) := hid (fun W q => kpAt q k0)
   subst ek;clear k0;go_wp2_with fail;go_loopw [10, 11] (fun v10 v11 wn => ∃ (n : Nat) (ma : Option Addr) (mc : Nat) (M : List Vs), n ≤ L.length ∧ v11 = .int .i64 (n : Int) ∧ v10 = .slice ma M.length mc ∧ Hid (M = (L.take n).filter (fun y => rowsV (pickV y.l bs) kl == 0) ∧ M.length ≤ n) ∧ Hid (VsE.Row wn (.slice ma M.length mc) M ∧ (∀ k ∈ blk ma, wo.heap.size ≤ k) ∧ Kp [] wo wn)) (fun _ v11 _ => L.length - (intOf v11).toNat)
   case atStart => exact ⟨0, none, 0, [], Nat.zero_le _, rfl, rfl, hid ⟨rfl, by simp⟩, H1⟩
   case round =>
    obtain ⟨n, ma, mc, M, hn, rfl, rfl, hM, Hn⟩ := hrel;clear H1
    by_cases hnl : n < L.length
    ·have kwn := hid (hWo.out.trans Hn.out.2.2 (by simp))
     obtain ⟨g, o, ea, c0⟩ := vsAt HS.out (k := n) (x := L[n]) (by simp [hnl])
     have hxl := hid (HX.out L[n] (List.getElem_mem hnl))
     have hxr := HR.out L[n] (List.getElem_mem hnl)
     have hfs : Hid ((L.take (n + 1)).filter (fun y => rowsV (pickV y.l bs) kl == 0) = (L.take n).filter (fun y => rowsV (pickV y.l bs) kl == 0) ++ if rowsV (pickV L[n].l bs) kl == 0 then [L[n]] else []) := hid (filterSnocG _ L n hnl)
     obtain ⟨x, hxe⟩ : ∃ x, Hid (L[n] = x) := ⟨_, hid rfl⟩
     rw [hxe.out] at c0 hxl hxr hfs;obtain ⟨xa, xc, xl⟩ := x;dsimp only at c0 hxr hfs;have hS : Hid (∀ W', Kp [] wr W' → W'.cell? ⟨g, o + n, none⟩ = some (.slice xa xl.length xc) ∧ W'.cell? ⟨gk, ok + i, none⟩ = some (.slice ka kl.length kc)) := hid (fun W' q => ⟨kpAt (kwn.out.trans q (by simp)) c0, hCk.out W' ((H.out.2.trans Hn.out.2.2 (by simp)).trans q (by simp))⟩)
     have cP0 : ∀ W', Kp [] wr W' → Calls Tryz.prog 115 #[.slice xa xl.length xc, .slice ba bs.length bc] W' (NewR (pickV xl bs) W') := fun W' q => rPick xa xc xl ba bc bs W' (hxl.out.see.kept (kwn.out.trans q (by simp))) (by omega) (HB.out.keptNew (kwn.out.trans q (by simp))) (by omega)
     obtain ⟨zl, hzl⟩ : ∃ z, Hid (pickV xl bs = z) := ⟨_, hid rfl⟩
     simp only [hzl.out] at cP0;rw [hzl.out] at hfs;have cP := hid cP0
     have hzlen : zl.length ≤ 1048576 := by rw [← hzl.out]; unfold pickV; rw [List.length_map]; exact hbl
     obtain ⟨C, hC⟩ : ∃ C, Hid (rowsV zl kl = C) := ⟨_, hid rfl⟩
     rw [hC.out] at hfs;have hMn := hM.out.2
     have n1 : (0 : Int) ≤ (n : Int) := by omega
     have n2 : (n : Int) < (L.length : Int) := by omega
     have n3 : (n : Int) + 1 ≤ 9223372036854775807 := by omega
     have HA := hid ea
     rw [ea] at HS;clear c0 cP0 HA;subst ea;go_wp2_with fail;refine wp_noPanicY ?_;refine wp_region_held_drew (S := fun W' => W'.cell? ⟨g, o + n, none⟩ = some (.slice xa xl.length xc) ∧ W'.cell? ⟨gk, ok + i, none⟩ = some (.slice ka kl.length kc)) (by kernel_rfl) (hS.out _ (Kp.refl _ _).drew) (fun hHeld => ?_)
     have KD : Hid (Kp [] wr wr.drew) := hid (Kp.refl _ _).drew
     generalize wr.drew = wd at *
     refine tkH ?_ 0 rfl (by kernel_rfl) (fun _ _ _ h => by cases h.1) (by rfl) ?_ ‹_› ?_;rotate_left
     ·intro w h; (try dsimp only at h); go_simp <;> with_reducible rfl
     (try simp only [Act.put, lz]);refine tkH ?_ 1 rfl (by kernel_rfl) (fun _ _ _ h => by cases h.1) (by rfl) ?_ ‹_› ?_;rotate_left
     ·intro w h; (try dsimp only at h); go_simp <;> with_reducible rfl
     (try simp only [Act.put, lz]);refine tkH ?_ 2 rfl (by kernel_rfl) (fun _ _ _ h => by cases h.1) (by rfl) ?_ ‹_› ?_;rotate_left
     ·intro w h; (try dsimp only at h); go_simp <;> with_reducible rfl
     (try simp only [Act.put, lz]);refine tkH ?_ 3 rfl (by kernel_rfl) (fun _ _ _ h => by cases h.1) (by rfl) ?_ ‹_› ?_;rotate_left
     ·intro w h; (try dsimp only at h); go_simp <;> with_reducible rfl
     (try simp only [Act.put, lz]);refine tkH ?_ 4 rfl (by kernel_rfl) (fun _ _ _ h => by cases h.1) (by rfl) ?_ ‹_› ?_;rotate_left
     ·intro w h; (try dsimp only at h); go_simp <;> with_reducible rfl
     (try simp only [Act.put, lz]);refine tkH ?_ 6 rfl (by kernel_rfl) (fun _ _ _ h => by cases h.1) (by rfl) ?_ ‹_› ?_;rotate_left
     ·intro w h; (try dsimp only at h); go_simp <;> with_reducible rfl
     (try simp only [Act.put, lz]);refine tkH ?_ 7 rfl (by kernel_rfl) (fun _ _ _ h => by cases h.1) (by rfl) ?_ ‹_› ?_;rotate_left
     ·intro w h; (try dsimp only at h); go_simp <;> with_reducible rfl
     (try simp only [Act.put, lz]);refine tkH ?_ 8 rfl (by kernel_rfl) (fun _ _ _ h => by cases h.1) (by rfl) ?_ ‹_› ?_;rotate_left
     ·intro w h; (try dsimp only at h); go_simp <;> with_reducible rfl
     (try simp only [Act.put, lz]);refine tkH ?_ 9 rfl (by kernel_rfl) (fun _ _ _ h => by cases h.1) (by rfl) ?_ ‹_› ?_;rotate_left
     ·intro w h; (try dsimp only at h); go_simp <;> with_reducible rfl
     (try simp only [Act.put, lz]);refine rdH 5 (by kernel_rfl) rfl fun K hK => ?_
     go_simp;refine (cP.out wd KD.out).mono ?_;rintro e wz ⟨za, zc, rfl, hzrow, kz, hzb⟩;have Kz := hid (KD.out.trans kz (by simp))
     have hzli := hid (rowLies hzrow)
     (try go_wp2_with fail);refine hK.out _ _ (hS.out wz Kz.out) (fun hHeld => ?_)
     clear hK K;(try simp only [Act.put, lz]);have cR0 := cRefRows za ka zc kc zl kl wz hzli.out.see (hkl.out.see.kept (((H.out.2.trans Hn.out.2.2 (by simp)).trans Kz.out (by simp)))) (by omega) (by omega)
     rw [hC.out] at cR0;have cR := hid cR0
     clear cR0 kz hzb hzrow cP;refine rdH 10 (by kernel_rfl) rfl fun K hK => ?_
     go_simp;refine cR.out.mono ?_;rintro e wy ⟨rfl, ky⟩;have Ky := hid (Kz.out.trans ky (by simp))
     (try go_wp2_with fail);refine hK.out _ _ (hS.out wy Ky.out) (fun hHeld => ?_)
     clear hK K;(try simp only [Act.put, lz]);clear ky cR;obtain ⟨sx, _⟩ := hS.out wy Ky.out
     by_cases hC0 : C = 0
     ·have d1 : (C == 0) = true := by simp [hC0]
      refine tkH ?_ 11 rfl (by kernel_rfl) (fun _ _ _ h => by cases h.1) (by rfl) ?_ ‹_› ?_;rotate_left
      ·intro w hSw; (try dsimp only at hSw); go_simp <;> (try simp only [d1]) <;> with_reducible rfl
      (try simp only [Act.put, lz]);try simp only [d1]
      refine wpAnyH_done (by kernel_rfl) ⟨rfl, ?_⟩ _
      rw [d1, if_pos rfl] at hfs;obtain ⟨a4, c4, W4, hrun, hrow4, k4, n4⟩ := appVsO wy M ma mc ⟨xa, xc, xl⟩ (Hn.out.1.keptNew Ky.out) (by omega)
      obtain ⟨M4, hM4⟩ : ∃ m, Hid (M ++ [(⟨xa, xc, xl⟩ : Vs)] = m) := ⟨_, hid rfl⟩
      rw [hM4.out] at hrun hrow4;dsimp only at hrun
      have HF : Hid (VsE.Row W4 (.slice a4 M4.length c4) M4 ∧ (∀ k ∈ blk a4, wo.heap.size ≤ k) ∧ Kp [] wo W4) := hid ⟨hrow4, fun k hk => by
       rcases n4 k hk with e | e
       ·exact Hn.out.2.1 k e
       ·have := Ky.out.size; have := Hn.out.2.2.size; omega, (Hn.out.2.2.trans Ky.out (by simp)).trans k4 (fun y hy => .inr (Hn.out.2.1 y hy))⟩
      have hMF : Hid (M4 = (L.take (n + 1)).filter (fun y => rowsV (pickV y.l bs) kl == 0) ∧ M4.length ≤ n + 1) := hid ⟨by rw [hfs.out, ← hM.out.1, hM4.out], by rw [← hM4.out, List.length_append]; simp; omega⟩
      have hrun' := hid hrun
      clear hHeld hrun hrow4 k4 n4 hC0 hS;go_wp2_with (first | (refine wpAppRunY rfl _ _ 60 60 rfl _ _ _ rfl rfl hrun'.out ?_) | fail)
      go_roundw
      case rel => exact ⟨n + 1, a4, c4, M4, by omega, by go_num, rfl, hMF, HF⟩
      case measure => simp [intOf] <;> omega
     ·have d1 : (C == 0) = false := beq_eq_false_iff_ne.2 hC0
      refine tkH ?_ 11 rfl (by kernel_rfl) (fun _ _ _ h => by cases h.1) (by rfl) ?_ ‹_› ?_;rotate_left
      ·intro w hSw; (try dsimp only at hSw); go_simp <;> (try simp only [d1]) <;> with_reducible rfl
      (try simp only [Act.put, lz]);try simp only [d1]
      refine wpAnyH_done (by kernel_rfl) ⟨rfl, ?_⟩ _
      rw [d1] at hfs;simp only [Bool.false_eq_true, if_false, List.append_nil] at hfs;have HF : Hid (VsE.Row wy (.slice ma M.length mc) M ∧ (∀ k ∈ blk ma, wo.heap.size ≤ k) ∧ Kp [] wo wy) := hid ⟨Hn.out.1.keptNew Ky.out, Hn.out.2.1, Hn.out.2.2.trans Ky.out (by simp)⟩
      have hMF : Hid (M = (L.take (n + 1)).filter (fun y => rowsV (pickV y.l bs) kl == 0) ∧ M.length ≤ n + 1) := hid ⟨by rw [hfs.out, ← hM.out.1], by omega⟩
      clear hHeld hC0 hS;go_wp2_with fail;go_roundw
      case rel => exact ⟨n + 1, ma, mc, M, by omega, by go_num, rfl, hMF, HF⟩
      case measure => simp [intOf] <;> omega
    ·have hMe : Hid (M.map (·.l) = RM) := hid (by
      rw [hM.out.1, show n = L.length by omega, List.take_length, ← hRM.out, ← hRL.out, List.filter_map]
      rfl)
     have hMin : Hid (∀ x ∈ M, x ∈ L) := hid (fun x hx => by rw [hM.out.1] at hx; exact List.mem_of_mem_take (List.mem_filter.1 hx).1)
     have hMn : M.length ≤ 1048576 := by have := hM.out.2; omega
     have kwn := hid (hWo.out.trans Hn.out.2.2 (by simp))
     have kw0n := hid (H.out.2.trans Hn.out.2.2 (by simp))
     have ck := hCk.out wr kw0n.out
     obtain ⟨X1, hX1⟩ : ∃ X1, wr.alloc (.cells #[] 88) = X1 := ⟨_, rfl⟩
     have kX1 : Kp [] wr X1 := by rw [← hX1]; exact (Kp.refl _ _).alloc _
     have hr0 : VE.Row X1 (.slice (some ⟨wr.heap.size, 0, none⟩) 0 0) [] := by
      refine .inr ⟨wr.heap.size, 0, 0, rfl, Nat.le_refl _, Nat.zero_le _, by rw [← hX1]; simp, fun j u hu => by simp [El.cs] at hu, fun j hj => by omega⟩
     obtain ⟨a5, c5, X2, hrun1, hrow5, kk5, hn5⟩ := appVY (l := []) hr0 ka kc kl (hkl.out.see.kept (kw0n.out.trans kX1 (by simp))) (by simp; omega)
     rw [List.nil_append] at hrun1 hrow5;have hb1 : blk (some (⟨wr.heap.size, 0, none⟩ : Addr)) = [wr.heap.size] := rfl
     have kX2 : Kp [] wr X2 := kX1.trans kk5 (fun q hq => .inr (by rw [hb1] at hq; simp at hq; omega))
     have hn5' : ∀ q ∈ blk a5, wr.heap.size ≤ q := fun q hq => by
      rcases hn5 q hq with h | h
      ·rw [hb1] at h; simp at h; omega
      ·have := kX1.size; omega
     have H2 : Hid (VE.Row X2 (.slice a5 kl.length c5) kl ∧ Kp [] wr X2 ∧ ∀ k ∈ blk a5, wr.heap.size ≤ k) := hid ⟨hrow5, kX2, hn5'⟩
     have ckA := hCk.out X1 (kw0n.out.trans kX1 (by simp))
     simp only [List.length_nil] at hrun1;have hrun1' := hid hrun1
     obtain ⟨wn, hwn⟩ : ∃ x, x = wr := ⟨wr, rfl⟩
     subst hwn;have HM : Hid (VsE.See wn ma M) := hid (by obtain ⟨_, _, e3, h, _⟩ := Hn.out.1.see; rw [(Value.slice.inj e3).1]; exact h)
     have dj1 : ¬ (n : Int) < (L.length : Int) := by omega
     have dj2 : decide ((n : Int) < (L.length : Int)) = false := by simp; omega
     clear hr0 kX1 kk5 hn5 hb1 kX2 hn5' hrow5 hrun1 hnl hM;go_wp2_with (first | (refine wpAppRunY rfl _ _ 61 61 rfl _ _ _ rfl rfl hrun1'.out ?_) | fail)
     clear ck ckA;go_loopw [12, 13] (fun v12 v13 wk => ∃ (t : Nat) (ra : Option Addr) (rc : Nat) (m : List Val), t ≤ gs.length ∧ v13 = .int .i64 (t : Int) ∧ v12 = .slice ra m.length rc ∧ Hid (m = kl ++ (gs.take t).map (tellV RM)) ∧ Hid (VE.Row wk (.slice ra m.length rc) m ∧ Kp [] wn wk ∧ ∀ k ∈ blk ra, wn.heap.size ≤ k)) (fun _ v13 _ => gs.length - (intOf v13).toNat)
     case atStart => exact ⟨0, a5, c5, kl, Nat.zero_le _, rfl, rfl, hid (by simp), H2⟩
     case round =>
      obtain ⟨t, ra, rc, m, ht, rfl, rfl, hm, Ht⟩ := hrel;clear H2;have hml : m.length ≤ 3000000 := by rw [hm.out]; simp; omega
      by_cases htl : t < gs.length
      ·obtain ⟨g2, o2, eg, c0, c1⟩ := agAt HG.out t htl
       have kwk := kwn.out.trans Ht.out.2.1 (by simp)
       have cg0 := kpAt kwk c0
       have cg1 := kpAt kwk c1
       have htk2 : Hid ((gs.take (t + 1)).map (tellV RM) = (gs.take t).map (tellV RM) ++ [tellV RM gs[t]]) := hid (by rw [List.take_succ_eq_append_getElem htl, List.map_append]; rfl)
       have cA0 := rAgg ma mc M gs[t].1 gs[t].2 wr (HM.out.keptNew Ht.out.2.1) (fun x hx => (HX.out x (hMin.out x hx)).ck (CK.ofKp kwk) (by simp)) (by omega)
       rw [hMe.out] at cA0;obtain ⟨y, hye⟩ : ∃ y, Hid (gs[t] = y) := ⟨_, hid rfl⟩
       rw [hye.out] at cg0 cg1 cA0 htk2;obtain ⟨y1, y2⟩ := y;dsimp only at cg0 cg1 cA0;obtain ⟨⟨tk, tb, tn, tt⟩, htv⟩ : ∃ v, Hid (tellV RM (y1, y2) = v) := ⟨_, hid rfl⟩
       rw [htv.out] at cA0 htk2;dsimp only at cA0;have cA := hid cA0
       have t1 : (0 : Int) ≤ (t : Int) := by omega
       have t2 : (t : Int) < (gs.length : Int) := by omega
       have t3 : (t : Int) + 1 ≤ 9223372036854775807 := by omega
       clear cA0 c0 c1 kwk;rw [eg] at HG ⊢;go_wp2_with fail;refine cA.out.mono ?_;rintro e wq ⟨rfl, kq⟩;have kq2 := Ht.out.2.1.trans kq (by simp)
       obtain ⟨a4, c4, W4, hrun, hr4, k4, hn4⟩ := appV1 (Ht.out.1.keptNew kq) ⟨tk, tb, tn, tt⟩ (by omega)
       obtain ⟨m4, hm4⟩ : ∃ m4, Hid (m ++ [(⟨tk, tb, tn, tt⟩ : Val)] = m4) := ⟨_, hid rfl⟩
       rw [hm4.out] at hrun hr4;dsimp only at hrun
       have HF : Hid (VE.Row W4 (.slice a4 m4.length c4) m4 ∧ Kp [] wn W4 ∧ ∀ k ∈ blk a4, wn.heap.size ≤ k) := hid ⟨hr4, kq2.trans k4 (fun y hy => .inr (Ht.out.2.2 y hy)), fun k hk => by
        rcases hn4 k hk with e | e
        ·exact Ht.out.2.2 k e
        ·have := kq2.size; omega⟩
       have hm5 : Hid (m4 = kl ++ (gs.take (t + 1)).map (tellV RM)) := hid (by rw [htk2.out, ← List.append_assoc, ← hm.out, hm4.out])
       have hrun' := hid hrun
       clear cA kq hr4 k4 hn4 kq2 hrun cg0 cg1;go_wp2_with (first | (refine wpAppRunY rfl _ _ 61 61 rfl _ _ _ rfl rfl hrun'.out ?_) | fail)
       go_roundw
       case rel => exact ⟨t + 1, a4, c4, m4, by omega, by go_num, rfl, hm5, HF⟩
       case measure => simp [intOf] <;> omega
      ·have hmm : Hid (m = kl ++ gs.map (tellV RM)) := hid (by rw [hm.out, show t = gs.length by omega, List.take_length])
       have kall := H.out.2.trans (Hn.out.2.2.trans Ht.out.2.1 (by simp)) (by simp)
       have hzc := Ht.out.2.2
       have hLo : Lot W0.heap.size oa oc O wr := H.out.1.ck (CK.ofKp (Hn.out.2.2.trans Ht.out.2.1 (by simp))) (by simp) (by simp)
       obtain ⟨a4, c4, W6, hrun, hl4, k4, hn4⟩ := hLo.app ⟨ra, rc, m⟩ (rowLies Ht.out.1) kall.size (fun k hk => ⟨by have := hzc k hk; have := kw0n.out.size; omega, Ht.out.1.lt k (by rw [ownV]; exact hk), fun hm' => by have := hzc k hk; have := H.out.1.lt k hm'; have := Hn.out.2.2.size; omega⟩) (by have := hO.out.2; omega)
       obtain ⟨O4, hO4⟩ : ∃ m4, Hid (O ++ [(⟨ra, rc, m⟩ : Vs)] = m4) := ⟨_, hid rfl⟩
       rw [hO4.out] at hrun hl4;dsimp only at hrun;have HF : Hid (Lot W0.heap.size a4 c4 O4 W6 ∧ Kp [] W0 W6) := hid ⟨hl4, kall.trans k4 (fun x hx => .inr (H.out.1.own x hx))⟩
       have hOF : Hid (O4.map (·.l) = (KS.take (i + 1)).map (fun x => x.l ++ gs.map (tellV (R.filter fun l => rowsV (pickV l bs) x.l == 0))) ∧ O4.length ≤ i + 1) := hid ⟨by
        rw [htk.out, List.map_append, ← hO.out.1, ← hO4.out, List.map_append, List.map_cons, List.map_cons, hRM.out, ← hmm.out];rfl, by rw [← hO4.out, List.length_append]; have := hO.out.2; simp; omega⟩
       have hrun' := hid hrun
       have dt1 : ¬ (t : Int) < (gs.length : Int) := by omega
       have dt2 : decide ((t : Int) < (gs.length : Int)) = false := by simp; omega
       clear hLo hl4 k4 hn4 kall hzc hrun htl;go_wp2_with (first | (refine wpAppRunY rfl _ _ 60 60 rfl _ _ _ rfl rfl hrun'.out ?_) | fail)
       go_roundw
       case rel => exact ⟨i + 1, a4, c4, O4, by omega, by go_num, rfl, hOF, HF⟩
       case measure => simp [intOf] <;> omega
  ·have hOe : Hid (O.map (·.l) = refG bs gs R) := hid (by
    rw [hO.out.1, show i = KS.length by omega, List.take_length]
    unfold refG
    rw [← HK.out.2.2.1, List.map_map];rfl)
   have di1 : ¬ (i : Int) < (KS.length : Int) := by omega
   have di2 : decide ((i : Int) < (KS.length : Int)) = false := by simp; omega
   clear hik;go_wp2_with fail;go_ret;exact ⟨oa, oc, O, rfl, H.out.1.mono HW0.out.size, hOe.out, HW0.out.trans H.out.2 (by simp)⟩
theorem rGroup0 (a : Option Addr) (c : Nat) (L : List Vs) (ba : Option Addr) (bc : Nat) (bs : List Int) (ga : Option Addr) (gc : Nat) (gs : List (Int × Int)) (w : World) (hs : VsE.See w a L) (hx : ∀ x ∈ L, x.lies w) (hb : IntE.See w ba bs) (hg : AgE.See w ga gs) (hl : L.length ≤ 1048576) (hr : ∀ x ∈ L, x.l.length ≤ 1048576) (hbl : bs.length ≤ 1048576) (hgl : gs.length ≤ 1048576) (hbs : bs = []) :
  Calls Tryz.prog 63 #[.slice a L.length c, .slice ba bs.length bc, .slice ga gs.length gc] w (LotP (refG bs gs (L.map (·.l))) w) := by
 have HS := hid hs
 have HX := hid hx
 have HB := hid hb
 have HG := hid hg
 have HR := hid hr
 have cK0 := rKeys a c L ba bc bs w hs hx hb hl hbl
 obtain ⟨R, hRL⟩ : ∃ R, Hid (L.map (·.l) = R) := ⟨_, hid rfl⟩
 rw [hRL.out] at cK0 ⊢;have cK := hid cK0
 obtain ⟨nb, hnb⟩ : ∃ n : Nat, Hid (bs.length = n) := ⟨_, hid rfl⟩
 have hnb0 : Hid (nb = 0) := hid (by rw [← hnb.out, hbs]; rfl)
 have hbsH := hid hbs
 have db : ((nb : Int) == 0) = true := by rw [hnb0.out]; rfl
 rw [hnb.out] at cK ⊢;clear hs hx hb hg hr cK0 hbs;go_enter Tryz.func63, Tryz.ntmps63
 go_wp2_with fail;refine cK.out.mono ?_;rintro e w1 ⟨ka1, kc1, K1, rfl, hlK, hK1, k1⟩;obtain ⟨W0, hW0, kA, bA⟩ : ∃ x, w1.alloc (.cells #[.slice none 0 0] 61) = x ∧ Kp [] w1 x ∧ Bn x w1.heap.size [.slice none 0 0] := ⟨_, rfl, (Kp.refl _ _).alloc _, Bn.new w1 _ _⟩
 obtain ⟨qa, hqa⟩ : ∃ q, w1.heap.size = q := ⟨_, rfl⟩
 rw [hqa] at bA;obtain ⟨KS, hKSe⟩ : ∃ K : List Vs, Hid (K = [⟨none, 0, []⟩]) := ⟨_, hid rfl⟩
 have hKn : KS.length = 1 := by rw [hKSe.out]; rfl
 have hKsee : VsE.See W0 (some ⟨qa, 0, none⟩) KS := by rw [hKSe.out]; exact .inr ⟨qa, 0, rfl, fun j u hu => by rw [Nat.zero_add]; exact bA.get j u (by simpa [El.cs, VsE] using hu)⟩
 have hKli : ∀ x ∈ KS, x.lies W0 := fun x hx => by rw [hKSe.out] at hx; simp at hx; rw [hx]; exact ⟨.inl rfl, Nat.le_refl _, by simp [maxLen], fun _ => rfl⟩
 have hKS : KS.map (·.l) = if bs = [] then [[]] else keysV bs R := by rw [if_pos hbsH.out, hKSe.out]; rfl
 have hKlen : KS.length ≤ 1048577 := by omega
 have HKB : Hid (∀ x ∈ KS, x.l.length ≤ 1048576) := hid (fun x hx => by rw [hKSe.out] at hx; simp at hx; rw [hx]; simp)
 have KW0 : Kp [] w W0 := k1.trans kA (by simp)
 have hlen1 := hid hKn
 rw [hnb.out.symm] at *;have HK := hid (And.intro hKsee (And.intro hKli (And.intro hKS hKlen)))
 have H0 : Hid (Lot W0.heap.size none 0 [] W0 ∧ Kp [] W0 W0) := hid ⟨Lot.nil _ _, Kp.refl _ _⟩
 have HW0 := hid KW0
 clear hKsee hKli hKS KW0;go_wp2_with fail;go_loopw [8, 9] (fun v8 v9 wr => ∃ (i : Nat) (oa : Option Addr) (oc : Nat) (O : List Vs), i ≤ KS.length ∧ v9 = .int .i64 (i : Int) ∧ v8 = .slice oa O.length oc ∧ Hid (O.map (·.l) = (KS.take i).map (fun x => x.l ++ gs.map (tellV (R.filter fun l => rowsV (pickV l bs) x.l == 0))) ∧ O.length ≤ i) ∧ Hid (Lot W0.heap.size oa oc O wr ∧ Kp [] W0 wr)) (fun _ v9 _ => KS.length - (intOf v9).toNat)
 case atStart => exact ⟨0, none, 0, [], Nat.zero_le _, rfl, rfl, hid ⟨rfl, by simp⟩, H0⟩
 case round =>
  obtain ⟨i, oa, oc, O, hi, rfl, rfl, hO, H⟩ := hrel;obtain ⟨wo, hwo⟩ : ∃ x, x = wr := ⟨wr, rfl⟩
  subst hwo;clear H0;have hKl2 : KS.length ≤ 1048577 := HK.out.2.2.2
  by_cases hik : i < KS.length
  ·obtain ⟨gk, ok, ek, k0⟩ := vsAt HK.out.1 (k := i) (x := KS[i]) (by simp [hik])
   have hkl := hid (HK.out.2.1 KS[i] (List.getElem_mem hik))
   have htk := hid (List.take_succ_eq_append_getElem hik)
   obtain ⟨kx, hkx⟩ : ∃ x, Hid (KS[i] = x) := ⟨_, hid rfl⟩
   rw [hkx.out] at k0 hkl htk;obtain ⟨ka, kc, kl⟩ := kx;have hkc := hkl.out.cap; have hkm := hkl.out.most
   have hklb := HKB.out (⟨ka, kc, kl⟩ : Vs) (by rw [← hkx.out]; exact List.getElem_mem hik)
   unfold maxLen at hkm
   dsimp only at k0 hkc hkm hklb;have hWo := hid (HW0.out.trans H.out.2 (by simp))
   obtain ⟨RM, hRM⟩ : ∃ r, Hid ((R.filter fun l => rowsV (pickV l bs) kl == 0) = r) := ⟨_, hid rfl⟩
   have i1 : (0 : Int) ≤ (i : Int) := by omega
   have i2 : (i : Int) < 1 := by have := hlen1.out; omega
   have i3 : (i : Int) + 1 ≤ 9223372036854775807 := by omega
   have H1 : Hid (VsE.Row wo (.slice none 0 0) [] ∧ (∀ k ∈ blk none, wo.heap.size ≤ k) ∧ Kp [] wo wo) := hid ⟨.inl ⟨rfl, rfl⟩, by simp [blk], Kp.refl _ _⟩
   have hCk : Hid (∀ W, Kp [] W0 W → W.cell? ⟨qa, i, none⟩ = some (.slice ka kl.length kc)) := hid (fun W q => by have h := kpAt q k0; cases ek; rw [Nat.zero_add] at h; exact h)
   clear ek;clear k0;go_wp2_with fail;go_loopw [10, 11] (fun v10 v11 wn => ∃ (n : Nat) (ma : Option Addr) (mc : Nat) (M : List Vs), n ≤ L.length ∧ v11 = .int .i64 (n : Int) ∧ v10 = .slice ma M.length mc ∧ Hid (M = (L.take n).filter (fun y => rowsV (pickV y.l bs) kl == 0) ∧ M.length ≤ n) ∧ Hid (VsE.Row wn (.slice ma M.length mc) M ∧ (∀ k ∈ blk ma, wo.heap.size ≤ k) ∧ Kp [] wo wn)) (fun _ v11 _ => L.length - (intOf v11).toNat)
   case atStart => exact ⟨0, none, 0, [], Nat.zero_le _, rfl, rfl, hid ⟨rfl, by simp⟩, H1⟩
   case round =>
    obtain ⟨n, ma, mc, M, hn, rfl, rfl, hM, Hn⟩ := hrel;clear H1
    by_cases hnl : n < L.length
    ·have kwn := hid (hWo.out.trans Hn.out.2.2 (by simp))
     obtain ⟨g, o, ea, c0⟩ := vsAt HS.out (k := n) (x := L[n]) (by simp [hnl])
     have hxl := hid (HX.out L[n] (List.getElem_mem hnl))
     have hxr := HR.out L[n] (List.getElem_mem hnl)
     have hfs : Hid ((L.take (n + 1)).filter (fun y => rowsV (pickV y.l bs) kl == 0) = (L.take n).filter (fun y => rowsV (pickV y.l bs) kl == 0) ++ if rowsV (pickV L[n].l bs) kl == 0 then [L[n]] else []) := hid (filterSnocG _ L n hnl)
     obtain ⟨x, hxe⟩ : ∃ x, Hid (L[n] = x) := ⟨_, hid rfl⟩
     rw [hxe.out] at c0 hxl hxr hfs;obtain ⟨xa, xc, xl⟩ := x;dsimp only at c0 hxr hfs;have hS : Hid (∀ W', Kp [] wr W' → W'.cell? ⟨g, o + n, none⟩ = some (.slice xa xl.length xc) ∧ W'.cell? ⟨qa, i, none⟩ = some (.slice ka kl.length kc)) := hid (fun W' q => ⟨kpAt (kwn.out.trans q (by simp)) c0, hCk.out W' ((H.out.2.trans Hn.out.2.2 (by simp)).trans q (by simp))⟩)
     have cP0 : ∀ W', Kp [] wr W' → Calls Tryz.prog 115 #[.slice xa xl.length xc, .slice ba bs.length bc] W' (NewR (pickV xl bs) W') := fun W' q => rPick xa xc xl ba bc bs W' (hxl.out.see.kept (kwn.out.trans q (by simp))) (by omega) (HB.out.keptNew (kwn.out.trans q (by simp))) (by omega)
     obtain ⟨zl, hzl⟩ : ∃ z, Hid (pickV xl bs = z) := ⟨_, hid rfl⟩
     simp only [hzl.out] at cP0;rw [hzl.out] at hfs;have cP := hid cP0
     have hzlen : zl.length ≤ 1048576 := by rw [← hzl.out]; unfold pickV; rw [List.length_map]; exact hbl
     obtain ⟨C, hC⟩ : ∃ C, Hid (rowsV zl kl = C) := ⟨_, hid rfl⟩
     rw [hC.out] at hfs;have hMn := hM.out.2
     have n1 : (0 : Int) ≤ (n : Int) := by omega
     have n2 : (n : Int) < (L.length : Int) := by omega
     have n3 : (n : Int) + 1 ≤ 9223372036854775807 := by omega
     have HA := hid ea
     rw [ea] at HS;clear c0 cP0 HA;subst ea;go_wp2_with fail;refine wp_noPanicY ?_;refine wp_region_held_drew (S := fun W' => W'.cell? ⟨g, o + n, none⟩ = some (.slice xa xl.length xc) ∧ W'.cell? ⟨qa, i, none⟩ = some (.slice ka kl.length kc)) (by kernel_rfl) (hS.out _ (Kp.refl _ _).drew) (fun hHeld => ?_)
     have KD : Hid (Kp [] wr wr.drew) := hid (Kp.refl _ _).drew
     generalize wr.drew = wd at *
     refine tkH ?_ 0 rfl (by kernel_rfl) (fun _ _ _ h => by cases h.1) (by rfl) ?_ ‹_› ?_;rotate_left
     ·intro w h; (try dsimp only at h); go_simp <;> with_reducible rfl
     (try simp only [Act.put, lz]);refine tkH ?_ 1 rfl (by kernel_rfl) (fun _ _ _ h => by cases h.1) (by rfl) ?_ ‹_› ?_;rotate_left
     ·intro w h; (try dsimp only at h); go_simp <;> with_reducible rfl
     (try simp only [Act.put, lz]);refine tkH ?_ 2 rfl (by kernel_rfl) (fun _ _ _ h => by cases h.1) (by rfl) ?_ ‹_› ?_;rotate_left
     ·intro w h; (try dsimp only at h); go_simp <;> with_reducible rfl
     (try simp only [Act.put, lz]);refine tkH ?_ 3 rfl (by kernel_rfl) (fun _ _ _ h => by cases h.1) (by rfl) ?_ ‹_› ?_;rotate_left
     ·intro w h; (try dsimp only at h); go_simp <;> with_reducible rfl
     (try simp only [Act.put, lz]);refine tkH ?_ 4 rfl (by kernel_rfl) (fun _ _ _ h => by cases h.1) (by rfl) ?_ ‹_› ?_;rotate_left
     ·intro w h; (try dsimp only at h); go_simp <;> with_reducible rfl
     (try simp only [Act.put, lz]);refine tkH ?_ 6 rfl (by kernel_rfl) (fun _ _ _ h => by cases h.1) (by rfl) ?_ ‹_› ?_;rotate_left
     ·intro w h; (try dsimp only at h); go_simp <;> with_reducible rfl
     (try simp only [Act.put, lz]);refine tkH ?_ 7 rfl (by kernel_rfl) (fun _ _ _ h => by cases h.1) (by rfl) ?_ ‹_› ?_;rotate_left
     ·intro w h; (try dsimp only at h); go_simp <;> with_reducible rfl
     (try simp only [Act.put, lz]);refine tkH ?_ 8 rfl (by kernel_rfl) (fun _ _ _ h => by cases h.1) (by rfl) ?_ ‹_› ?_;rotate_left
     ·intro w h; (try dsimp only at h); go_simp <;> with_reducible rfl
     (try simp only [Act.put, lz]);refine tkH ?_ 9 rfl (by kernel_rfl) (fun _ _ _ h => by cases h.1) (by rfl) ?_ ‹_› ?_;rotate_left
     ·intro w h; (try dsimp only at h); go_simp <;> with_reducible rfl
     (try simp only [Act.put, lz]);refine rdH 5 (by kernel_rfl) rfl fun K hK => ?_
     go_simp;refine (cP.out wd KD.out).mono ?_;rintro e wz ⟨za, zc, rfl, hzrow, kz, hzb⟩;have Kz := hid (KD.out.trans kz (by simp))
     have hzli := hid (rowLies hzrow)
     (try go_wp2_with fail);refine hK.out _ _ (hS.out wz Kz.out) (fun hHeld => ?_)
     clear hK K;(try simp only [Act.put, lz]);have cR0 := cRefRows za ka zc kc zl kl wz hzli.out.see (hkl.out.see.kept (((H.out.2.trans Hn.out.2.2 (by simp)).trans Kz.out (by simp)))) (by omega) (by omega)
     rw [hC.out] at cR0;have cR := hid cR0
     clear cR0 kz hzb hzrow cP;refine rdH 10 (by kernel_rfl) rfl fun K hK => ?_
     go_simp;refine cR.out.mono ?_;rintro e wy ⟨rfl, ky⟩;have Ky := hid (Kz.out.trans ky (by simp))
     (try go_wp2_with fail);refine hK.out _ _ (hS.out wy Ky.out) (fun hHeld => ?_)
     clear hK K;(try simp only [Act.put, lz]);clear ky cR;obtain ⟨sx, _⟩ := hS.out wy Ky.out
     by_cases hC0 : C = 0
     ·have d1 : (C == 0) = true := by simp [hC0]
      refine tkH ?_ 11 rfl (by kernel_rfl) (fun _ _ _ h => by cases h.1) (by rfl) ?_ ‹_› ?_;rotate_left
      ·intro w hSw; (try dsimp only at hSw); go_simp <;> (try simp only [d1]) <;> with_reducible rfl
      (try simp only [Act.put, lz]);try simp only [d1]
      refine wpAnyH_done (by kernel_rfl) ⟨rfl, ?_⟩ _
      rw [d1, if_pos rfl] at hfs;obtain ⟨a4, c4, W4, hrun, hrow4, k4, n4⟩ := appVsO wy M ma mc ⟨xa, xc, xl⟩ (Hn.out.1.keptNew Ky.out) (by omega)
      obtain ⟨M4, hM4⟩ : ∃ m, Hid (M ++ [(⟨xa, xc, xl⟩ : Vs)] = m) := ⟨_, hid rfl⟩
      rw [hM4.out] at hrun hrow4;dsimp only at hrun
      have HF : Hid (VsE.Row W4 (.slice a4 M4.length c4) M4 ∧ (∀ k ∈ blk a4, wo.heap.size ≤ k) ∧ Kp [] wo W4) := hid ⟨hrow4, fun k hk => by
       rcases n4 k hk with e | e
       ·exact Hn.out.2.1 k e
       ·have := Ky.out.size; have := Hn.out.2.2.size; omega, (Hn.out.2.2.trans Ky.out (by simp)).trans k4 (fun y hy => .inr (Hn.out.2.1 y hy))⟩
      have hMF : Hid (M4 = (L.take (n + 1)).filter (fun y => rowsV (pickV y.l bs) kl == 0) ∧ M4.length ≤ n + 1) := hid ⟨by rw [hfs.out, ← hM.out.1, hM4.out], by rw [← hM4.out, List.length_append]; simp; omega⟩
      have hrun' := hid hrun
      clear hHeld hrun hrow4 k4 n4 hC0 hS;go_wp2_with (first | (refine wpAppRunY rfl _ _ 60 60 rfl _ _ _ rfl rfl hrun'.out ?_) | fail)
      go_roundw
      case rel => exact ⟨n + 1, a4, c4, M4, by omega, by go_num, rfl, hMF, HF⟩
      case measure => simp [intOf] <;> omega
     ·have d1 : (C == 0) = false := beq_eq_false_iff_ne.2 hC0
      refine tkH ?_ 11 rfl (by kernel_rfl) (fun _ _ _ h => by cases h.1) (by rfl) ?_ ‹_› ?_;rotate_left
      ·intro w hSw; (try dsimp only at hSw); go_simp <;> (try simp only [d1]) <;> with_reducible rfl
      (try simp only [Act.put, lz]);try simp only [d1]
      refine wpAnyH_done (by kernel_rfl) ⟨rfl, ?_⟩ _
      rw [d1] at hfs;simp only [Bool.false_eq_true, if_false, List.append_nil] at hfs;have HF : Hid (VsE.Row wy (.slice ma M.length mc) M ∧ (∀ k ∈ blk ma, wo.heap.size ≤ k) ∧ Kp [] wo wy) := hid ⟨Hn.out.1.keptNew Ky.out, Hn.out.2.1, Hn.out.2.2.trans Ky.out (by simp)⟩
      have hMF : Hid (M = (L.take (n + 1)).filter (fun y => rowsV (pickV y.l bs) kl == 0) ∧ M.length ≤ n + 1) := hid ⟨by rw [hfs.out, ← hM.out.1], by omega⟩
      clear hHeld hC0 hS;go_wp2_with fail;go_roundw
      case rel => exact ⟨n + 1, ma, mc, M, by omega, by go_num, rfl, hMF, HF⟩
      case measure => simp [intOf] <;> omega
    ·have hMe : Hid (M.map (·.l) = RM) := hid (by
      rw [hM.out.1, show n = L.length by omega, List.take_length, ← hRM.out, ← hRL.out, List.filter_map]
      rfl)
     have hMin : Hid (∀ x ∈ M, x ∈ L) := hid (fun x hx => by rw [hM.out.1] at hx; exact List.mem_of_mem_take (List.mem_filter.1 hx).1)
     have hMn : M.length ≤ 1048576 := by have := hM.out.2; omega
     have kwn := hid (hWo.out.trans Hn.out.2.2 (by simp))
     have kw0n := hid (H.out.2.trans Hn.out.2.2 (by simp))
     have ck := hCk.out wr kw0n.out
     obtain ⟨X1, hX1⟩ : ∃ X1, wr.alloc (.cells #[] 88) = X1 := ⟨_, rfl⟩
     have kX1 : Kp [] wr X1 := by rw [← hX1]; exact (Kp.refl _ _).alloc _
     have hr0 : VE.Row X1 (.slice (some ⟨wr.heap.size, 0, none⟩) 0 0) [] := by
      refine .inr ⟨wr.heap.size, 0, 0, rfl, Nat.le_refl _, Nat.zero_le _, by rw [← hX1]; simp, fun j u hu => by simp [El.cs] at hu, fun j hj => by omega⟩
     obtain ⟨a5, c5, X2, hrun1, hrow5, kk5, hn5⟩ := appVY (l := []) hr0 ka kc kl (hkl.out.see.kept (kw0n.out.trans kX1 (by simp))) (by simp; omega)
     rw [List.nil_append] at hrun1 hrow5;have hb1 : blk (some (⟨wr.heap.size, 0, none⟩ : Addr)) = [wr.heap.size] := rfl
     have kX2 : Kp [] wr X2 := kX1.trans kk5 (fun q hq => .inr (by rw [hb1] at hq; simp at hq; omega))
     have hn5' : ∀ q ∈ blk a5, wr.heap.size ≤ q := fun q hq => by
      rcases hn5 q hq with h | h
      ·rw [hb1] at h; simp at h; omega
      ·have := kX1.size; omega
     have H2 : Hid (VE.Row X2 (.slice a5 kl.length c5) kl ∧ Kp [] wr X2 ∧ ∀ k ∈ blk a5, wr.heap.size ≤ k) := hid ⟨hrow5, kX2, hn5'⟩
     have ckA := hCk.out X1 (kw0n.out.trans kX1 (by simp))
     simp only [List.length_nil] at hrun1;have hrun1' := hid hrun1
     obtain ⟨wn, hwn⟩ : ∃ x, x = wr := ⟨wr, rfl⟩
     subst hwn;have HM : Hid (VsE.See wn ma M) := hid (by obtain ⟨_, _, e3, h, _⟩ := Hn.out.1.see; rw [(Value.slice.inj e3).1]; exact h)
     have dj1 : ¬ (n : Int) < (L.length : Int) := by omega
     have dj2 : decide ((n : Int) < (L.length : Int)) = false := by simp; omega
     clear hr0 kX1 kk5 hn5 hb1 kX2 hn5' hrow5 hrun1 hnl hM;go_wp2_with (first | (refine wpAppRunY rfl _ _ 61 61 rfl _ _ _ rfl rfl hrun1'.out ?_) | fail)
     clear ck ckA;go_loopw [12, 13] (fun v12 v13 wk => ∃ (t : Nat) (ra : Option Addr) (rc : Nat) (m : List Val), t ≤ gs.length ∧ v13 = .int .i64 (t : Int) ∧ v12 = .slice ra m.length rc ∧ Hid (m = kl ++ (gs.take t).map (tellV RM)) ∧ Hid (VE.Row wk (.slice ra m.length rc) m ∧ Kp [] wn wk ∧ ∀ k ∈ blk ra, wn.heap.size ≤ k)) (fun _ v13 _ => gs.length - (intOf v13).toNat)
     case atStart => exact ⟨0, a5, c5, kl, Nat.zero_le _, rfl, rfl, hid (by simp), H2⟩
     case round =>
      obtain ⟨t, ra, rc, m, ht, rfl, rfl, hm, Ht⟩ := hrel;clear H2;have hml : m.length ≤ 3000000 := by rw [hm.out]; simp; omega
      by_cases htl : t < gs.length
      ·obtain ⟨g2, o2, eg, c0, c1⟩ := agAt HG.out t htl
       have kwk := kwn.out.trans Ht.out.2.1 (by simp)
       have cg0 := kpAt kwk c0
       have cg1 := kpAt kwk c1
       have htk2 : Hid ((gs.take (t + 1)).map (tellV RM) = (gs.take t).map (tellV RM) ++ [tellV RM gs[t]]) := hid (by rw [List.take_succ_eq_append_getElem htl, List.map_append]; rfl)
       have cA0 := rAgg ma mc M gs[t].1 gs[t].2 wr (HM.out.keptNew Ht.out.2.1) (fun x hx => (HX.out x (hMin.out x hx)).ck (CK.ofKp kwk) (by simp)) (by omega)
       rw [hMe.out] at cA0;obtain ⟨y, hye⟩ : ∃ y, Hid (gs[t] = y) := ⟨_, hid rfl⟩
       rw [hye.out] at cg0 cg1 cA0 htk2;obtain ⟨y1, y2⟩ := y;dsimp only at cg0 cg1 cA0;obtain ⟨⟨tk, tb, tn, tt⟩, htv⟩ : ∃ v, Hid (tellV RM (y1, y2) = v) := ⟨_, hid rfl⟩
       rw [htv.out] at cA0 htk2;dsimp only at cA0;have cA := hid cA0
       have t1 : (0 : Int) ≤ (t : Int) := by omega
       have t2 : (t : Int) < (gs.length : Int) := by omega
       have t3 : (t : Int) + 1 ≤ 9223372036854775807 := by omega
       clear cA0 c0 c1 kwk;rw [eg] at HG ⊢;go_wp2_with fail;refine cA.out.mono ?_;rintro e wq ⟨rfl, kq⟩;have kq2 := Ht.out.2.1.trans kq (by simp)
       obtain ⟨a4, c4, W4, hrun, hr4, k4, hn4⟩ := appV1 (Ht.out.1.keptNew kq) ⟨tk, tb, tn, tt⟩ (by omega)
       obtain ⟨m4, hm4⟩ : ∃ m4, Hid (m ++ [(⟨tk, tb, tn, tt⟩ : Val)] = m4) := ⟨_, hid rfl⟩
       rw [hm4.out] at hrun hr4;dsimp only at hrun
       have HF : Hid (VE.Row W4 (.slice a4 m4.length c4) m4 ∧ Kp [] wn W4 ∧ ∀ k ∈ blk a4, wn.heap.size ≤ k) := hid ⟨hr4, kq2.trans k4 (fun y hy => .inr (Ht.out.2.2 y hy)), fun k hk => by
        rcases hn4 k hk with e | e
        ·exact Ht.out.2.2 k e
        ·have := kq2.size; omega⟩
       have hm5 : Hid (m4 = kl ++ (gs.take (t + 1)).map (tellV RM)) := hid (by rw [htk2.out, ← List.append_assoc, ← hm.out, hm4.out])
       have hrun' := hid hrun
       clear cA kq hr4 k4 hn4 kq2 hrun cg0 cg1;go_wp2_with (first | (refine wpAppRunY rfl _ _ 61 61 rfl _ _ _ rfl rfl hrun'.out ?_) | fail)
       go_roundw
       case rel => exact ⟨t + 1, a4, c4, m4, by omega, by go_num, rfl, hm5, HF⟩
       case measure => simp [intOf] <;> omega
      ·have hmm : Hid (m = kl ++ gs.map (tellV RM)) := hid (by rw [hm.out, show t = gs.length by omega, List.take_length])
       have kall := H.out.2.trans (Hn.out.2.2.trans Ht.out.2.1 (by simp)) (by simp)
       have hzc := Ht.out.2.2
       have hLo : Lot W0.heap.size oa oc O wr := H.out.1.ck (CK.ofKp (Hn.out.2.2.trans Ht.out.2.1 (by simp))) (by simp) (by simp)
       obtain ⟨a4, c4, W6, hrun, hl4, k4, hn4⟩ := hLo.app ⟨ra, rc, m⟩ (rowLies Ht.out.1) kall.size (fun k hk => ⟨by have := hzc k hk; have := kw0n.out.size; omega, Ht.out.1.lt k (by rw [ownV]; exact hk), fun hm' => by have := hzc k hk; have := H.out.1.lt k hm'; have := Hn.out.2.2.size; omega⟩) (by have := hO.out.2; omega)
       obtain ⟨O4, hO4⟩ : ∃ m4, Hid (O ++ [(⟨ra, rc, m⟩ : Vs)] = m4) := ⟨_, hid rfl⟩
       rw [hO4.out] at hrun hl4;dsimp only at hrun;have HF : Hid (Lot W0.heap.size a4 c4 O4 W6 ∧ Kp [] W0 W6) := hid ⟨hl4, kall.trans k4 (fun x hx => .inr (H.out.1.own x hx))⟩
       have hOF : Hid (O4.map (·.l) = (KS.take (i + 1)).map (fun x => x.l ++ gs.map (tellV (R.filter fun l => rowsV (pickV l bs) x.l == 0))) ∧ O4.length ≤ i + 1) := hid ⟨by
        rw [htk.out, List.map_append, ← hO.out.1, ← hO4.out, List.map_append, List.map_cons, List.map_cons, hRM.out, ← hmm.out];rfl, by rw [← hO4.out, List.length_append]; have := hO.out.2; simp; omega⟩
       have hrun' := hid hrun
       have dt1 : ¬ (t : Int) < (gs.length : Int) := by omega
       have dt2 : decide ((t : Int) < (gs.length : Int)) = false := by simp; omega
       clear hLo hl4 k4 hn4 kall hzc hrun htl;go_wp2_with (first | (refine wpAppRunY rfl _ _ 60 60 rfl _ _ _ rfl rfl hrun'.out ?_) | fail)
       go_roundw
       case rel => exact ⟨i + 1, a4, c4, O4, by omega, by go_num, rfl, hOF, HF⟩
       case measure => simp [intOf] <;> omega
  ·have hOe : Hid (O.map (·.l) = refG bs gs R) := hid (by
    rw [hO.out.1, show i = KS.length by omega, List.take_length]
    unfold refG
    rw [← HK.out.2.2.1, List.map_map];rfl)
   have di1 : ¬ (i : Int) < 1 := by have := hlen1.out; omega
   have di2 : decide ((i : Int) < 1) = false := by have := hlen1.out; simp; omega
   clear hik;go_wp2_with fail;go_ret;exact ⟨oa, oc, O, rfl, H.out.1.mono HW0.out.size, hOe.out, HW0.out.trans H.out.2 (by simp)⟩
theorem rGroup (a : Option Addr) (c : Nat) (L : List Vs) (ba : Option Addr) (bc : Nat) (bs : List Int) (ga : Option Addr) (gc : Nat) (gs : List (Int × Int)) (w : World) (hs : VsE.See w a L) (hx : ∀ x ∈ L, x.lies w) (hb : IntE.See w ba bs) (hg : AgE.See w ga gs) (hl : L.length ≤ 1048576) (hr : ∀ x ∈ L, x.l.length ≤ 1048576) (hbl : bs.length ≤ 1048576) (hgl : gs.length ≤ 1048576) :
  Calls Tryz.prog 63 #[.slice a L.length c, .slice ba bs.length bc, .slice ga gs.length gc] w (LotP (refG bs gs (L.map (·.l))) w) := by
 by_cases h : bs = []
 ·exact rGroup0 a c L ba bc bs ga gc gs w hs hx hb hg hl hr hbl hgl h
 ·exact rGroup1 a c L ba bc bs ga gc gs w hs hx hb hg hl hr hbl hgl h
def srtVs (os : List (Int × Bool)) (L : List Vs) : List Vs := (srtI (ltO os (L.map (·.l))) L.length).map fun i => L.getD i default
theorem srtVs_l (os : List (Int × Bool)) (L : List Vs) : (srtVs os L).map (·.l) = srtO os (L.map (·.l)) := by
 unfold srtVs srtO
 rw [List.map_map, List.length_map];refine List.map_congr_left fun i _ => ?_
 exact (getD_l L i).symm
theorem srtVs_len (os : List (Int × Bool)) (L : List Vs) : (srtVs os L).length = L.length := by
 unfold srtVs
 rw [List.length_map, insI_len]
theorem srtVs_in (os : List (Int × Bool)) (L : List Vs) : ∀ x ∈ srtVs os L, x ∈ L := fun x hx => by
 unfold srtVs at hx
 obtain ⟨i, hi, rfl⟩ := List.mem_map.1 hx;have h := (srtI_perm (ltO os (L.map (·.l))) L.length).mem_iff.1 hi
 have h2 := List.mem_range.1 h
 rw [List.getD_eq_getElem?_getD, List.getElem?_eq_getElem h2];exact List.getElem_mem h2
def RSoC (os : List (Int × Bool)) (L : List Vs) (w : World) (e : Ending) (w' : World) : Prop := ∃ ra rc, e = .returned (.slice ra L.length rc) ∧ VsE.See w' ra (srtVs os L) ∧ Kp [] w w' ∧ L.length ≤ rc
theorem rSortC (a : Option Addr) (c : Nat) (L : List Vs) (oa : Option Addr) (oc : Nat) (os : List (Int × Bool)) (w : World) (hs : VsE.See w a L) (hx : ∀ x ∈ L, x.lies w) (ho : OrE.See w oa os) (hl : L.length ≤ 1048576) (hol : os.length ≤ 1048576) :
  Calls Tryz.prog 65 #[.slice a L.length c, .slice oa os.length oc] w (RSoC os L w) := by
 have HS := hid hs
 have HX := hid hx
 have HO := hid ho
 obtain ⟨lt, dl, hlt0⟩ : ∃ (lt : Nat → Nat → Prop) (dl : ∀ x y, Decidable (lt x y)), Hid ((∀ x y, decide (lt x y) = decide (cmpO os (L.getD x default).l (L.getD y default).l < 0)) ∧ (∀ n, srtI lt n = srtI (ltO os (L.map (·.l))) n)) := ⟨ltO os (L.map (·.l)), inferInstance, hid ⟨fun x y => decide_eq_decide.2 (by unfold ltO; rw [getD_l, getD_l]), fun _ => rfl⟩⟩
 obtain ⟨A, hA⟩ : ∃ A : Nat → Vs, (fun k => L.getD k default) = A := ⟨_, rfl⟩
 have hAl : Hid (∀ k, k < L.length → L[k]? = some (A k)) := hid (fun k hk => by rw [← hA]; simp [hk])
 have hAi : Hid (∀ k, k < L.length → A k ∈ L) := hid (fun k hk => by have := hAl.out k hk; exact List.mem_of_getElem? this)
 have hAc : Hid (∀ x y, decide (lt x y) = decide (cmpO os (A x).l (A y).l < 0)) := hid (by rw [← hA]; exact hlt0.out.1)
 have hgoal : ∀ e w', (∃ ra rc, e = .returned (.slice ra L.length rc) ∧ VsE.See w' ra ((srtI lt L.length).map A) ∧ Kp [] w w' ∧ L.length ≤ rc) → RSoC os L w e w' := fun e w' h => by
  unfold RSoC srtVs
  rw [hlt0.out.2 L.length] at h;subst hA;exact h
 refine Calls.mono ?_ hgoal;clear hgoal hs hx ho hA hlt0;go_enter Tryz.func65, Tryz.ntmps65
 go_wp2_with fail;go_loopw [5, 6] (fun lv iv wr => ∃ (j : Nat) (b : Option Addr) (cb : Nat), j ≤ L.length ∧ iv = .int .i64 (j : Int) ∧ lv = .slice b j cb ∧ Hid (VsE.Row wr (.slice b ((srtI lt j).map A).length cb) ((srtI lt j).map A) ∧ (∀ k ∈ blk b, w.heap.size ≤ k) ∧ Kp [] w wr)) (fun _ iv _ => L.length - (intOf iv).toNat)
 case atStart => exact ⟨0, none, 0, Nat.zero_le _, rfl, rfl, hid ⟨.inl ⟨rfl, rfl⟩, by simp [blk], Kp.refl _ _⟩⟩
 case round =>
  obtain ⟨j, b, cb, hj, rfl, rfl, hw⟩ := hrel;obtain ⟨wo, hwo⟩ : ∃ x, x = wr := ⟨wr, rfl⟩
  subst hwo;have hlen0 : ((srtI lt j).map A).length = j := by rw [List.length_map, insI_len]
  have hlen := hid hlen0
  have hb0 : Hid ((b = none ∧ cb = 0 ∧ j = 0) ∨ ∃ g o, b = some ⟨g, o, none⟩ ∧ j ≤ cb) := hid (by
   rcases hw.out.1 with ⟨e1, e2⟩ | ⟨g, o, c, e1, h1, _⟩
   ·obtain ⟨r1, r2, r3⟩ := Value.slice.inj e1
    exact .inl ⟨r1, r3, by omega⟩
   ·obtain ⟨r1, r2, r3⟩ := Value.slice.inj e1
    exact .inr ⟨g, o, r1, by omega⟩)
  clear hlen0
  by_cases hjl : j < L.length
  ·have i1 : (0 : Int) ≤ (j : Int) := by omega
   have i2 : (j : Int) < (L.length : Int) := by omega
   have i3 : (j : Int) + 1 ≤ 9223372036854775807 := by omega
   have cAh : Hid (∀ k, k < L.length → ∀ W, Kp [] w W → Calls Tryz.prog 117 #[.slice (A j).a (A j).l.length (A j).c, .slice (A k).a (A k).l.length (A k).c, .slice oa os.length oc] W fun e w' => e = .returned (.bool (decide (lt j k))) ∧ Kp [] W w') := fun k hk W kW => by
    have h1 := rAhead (A j) (A k) oa oc os W ((HX.out _ (hAi.out j hjl)).ck (CK.ofKp kW) (by simp)) ((HX.out _ (hAi.out k hk)).ck (CK.ofKp kW) (by simp)) (HO.out.keptNew kW) (by omega)
    rw [← hAc.out j k] at h1;exact h1
   have hsL : Hid (∀ W, Kp [] w W → ∃ g o, a = some ⟨g, o, none⟩ ∧ W.cell? ⟨g, o + j, none⟩ = some (.slice (A j).a (A j).l.length (A j).c)) := fun W kW => by
    obtain ⟨g, o, ea, x0⟩ := vsAt HS.out (hAl.out j hjl);exact ⟨g, o, ea, kpAt kW x0⟩
   obtain ⟨g, o, ea, _⟩ := hsL.out w (Kp.refl _ _)
   have hcL : Hid (∀ W, Kp [] w W → W.cell? ⟨g, o + j, none⟩ = some (.slice (A j).a (A j).l.length (A j).c)) := fun W kW => by
    obtain ⟨g', o', ea', hc⟩ := hsL.out W kW;rw [ea] at ea'
    cases ea'
    exact hc
   have hin : Hid (∀ k, k < j → ∃ m, m < L.length ∧ (srtI lt j).getD k 0 = m ∧ ((srtI lt j).map A)[k]? = some (A m)) := fun k hk => by
    have hk2 : k < (srtI lt j).length := by rw [insI_len]; exact hk
    refine ⟨(srtI lt j)[k], ?_, ?_, ?_⟩
    ·have := List.mem_range.1 ((srtI_perm lt j).mem_iff.1 (List.getElem_mem hk2))
     omega
    ·rw [List.getD_eq_getElem?_getD, List.getElem?_eq_getElem hk2]; rfl
    ·rw [List.getElem?_map, List.getElem?_eq_getElem hk2]; rfl
   clear hsL;subst ea;go_upto_block 2 with fail
   go_cut [7] from 18 to 34 (fun n wc => ∃ K : Nat, K ≤ j ∧ n = .int .i64 (K : Int) ∧ Hid (insP lt j (srtI lt j) j = K) ∧ Hid (Kp [] wo wc))
   case first =>
    go_wp2_with fail;go_loopw [7, 8] (fun nv bv wn => ∃ k : Nat, k ≤ j ∧ nv = .int .i64 (k : Int) ∧ Hid (insP lt j (srtI lt j) k = insP lt j (srtI lt j) j) ∧ Hid (Kp [] wo wn)) (fun nv _ _ => (intOf nv).toNat)
    case atStart => exact ⟨j, Nat.le_refl _, rfl, hid rfl, hid (Kp.refl _ _)⟩
    case round =>
     obtain ⟨k, hk, rfl, hip, kn⟩ := hrel
     by_cases hk0 : k = 0
     ·have hp : Hid (insP lt j (srtI lt j) j = k) := hid (by rw [← hip.out, hk0]; rfl)
      have hX : ∃ K : Nat, K ≤ j ∧ Value.int .i64 (k : Int) = .int .i64 (K : Int) ∧ Hid (insP lt j (srtI lt j) j = K) ∧ Hid (Kp [] wo wr) := ⟨k, hk, rfl, hp, kn⟩
      have d1 : decide ((0 : Int) < (k : Int)) = false := by simp; omega
      have HXX := hid hX
      clear hip hk0 hp hX hk;generalize (k : Int) = z at *
      go_wp2_with fail;go_meet;exact HXX.out
     ·have d1' : True := trivial
      obtain ⟨k, rfl⟩ : ∃ i, k = i + 1 := ⟨k - 1, by omega⟩
      obtain ⟨m, hm, hmg, hmA⟩ := hin.out k (by omega)
      obtain ⟨_, _, e3, hsee, _, hcp, _⟩ := hw.out.1.see;obtain ⟨e5, e6, e7⟩ := Value.slice.inj e3;rw [← e5] at hsee;obtain ⟨g2, o2, eb, y0⟩ := vsAt hsee hmA;clear hsee e3 e5 hcp e6 e7;have hpm : Hid (insP lt j (srtI lt j) (k + 1) = if lt j m then insP lt j (srtI lt j) k else k + 1) := by show _ = _; rw [← hmg]; rfl
      have hRS : Hid (∀ W', Kp [] wo W' → W'.cell? ⟨g, o + j, none⟩ = some (.slice (A j).a (A j).l.length (A j).c) ∧ W'.cell? ⟨g2, o2 + k, none⟩ = some (.slice (A m).a (A m).l.length (A m).c)) := fun W' q => ⟨hcL.out W' (hw.out.2.2.trans q (by simp)), kpAt q y0⟩
      have cA := hid (fun W (q : Kp [] wo W) => cAh.out m hm W (hw.out.2.2.trans q (by simp)))
      have w1 : IntKind.i64.wrap ((k : Int) + 1 - 1) = (k : Int) := by rw [IntKind.wrap_i64]; try omega
      have w2 : IntKind.i64.wrap ((k : Int) + 1) = (k : Int) + 1 := by rw [IntKind.wrap_i64]; try omega
      have w3 : IntKind.i64.wrap (k : Int) = (k : Int) := by rw [IntKind.wrap_i64]; try omega
      have k1 : (0 : Int) ≤ (k : Int) := by omega
      have k2 : (k : Int) < (j : Int) := by omega
      have k3 : ((k : Int) + 1).toNat = k + 1 := by omega
      have d1 : decide ((0 : Int) < (k : Int) + 1) = true := by simp <;> omega
      have hk' := hk
      subst eb;clear hk0 y0 hk d1';go_wp2_with fail;refine wp_noPanicY ?_;refine wp_region_held_drew (S := fun W' => W'.cell? ⟨g, o + j, none⟩ = some (.slice (A j).a (A j).l.length (A j).c) ∧ W'.cell? ⟨g2, o2 + k, none⟩ = some (.slice (A m).a (A m).l.length (A m).c)) (by kernel_rfl) (hRS.out _ kn.out.drew) (fun hHeld => ?_)
      have KD : Hid (Kp [] wo wr.drew) := hid kn.out.drew
      generalize wr.drew = wd at *
      refine tkH ?_ 0 rfl (by kernel_rfl) (fun _ _ _ h => by cases h.1) (by rfl) ?_ ‹_› ?_;rotate_left
      ·intro w h; (try dsimp only at h); go_simp <;> with_reducible rfl
      (try simp only [Act.put, lz]);refine tkH ?_ 1 rfl (by kernel_rfl) (fun _ _ _ h => by cases h.1) (by rfl) ?_ ‹_› ?_;rotate_left
      ·intro w h; (try dsimp only at h); go_simp <;> with_reducible rfl
      (try simp only [Act.put, lz]);refine tkH ?_ 2 rfl (by kernel_rfl) (fun _ _ _ h => by cases h.1) (by rfl) ?_ ‹_› ?_;rotate_left
      ·intro w h; (try dsimp only at h); go_simp <;> with_reducible rfl
      (try simp only [Act.put, lz]);refine tkH ?_ 3 rfl (by kernel_rfl) (fun _ _ _ h => by cases h.1) (by rfl) ?_ ‹_› ?_;rotate_left
      ·intro w h; (try dsimp only at h); go_simp <;> with_reducible rfl
      (try simp only [Act.put, lz]);refine tkH ?_ 4 rfl (by kernel_rfl) (fun _ _ _ h => by cases h.1) (by rfl) ?_ ‹_› ?_;rotate_left
      ·intro w h; (try dsimp only at h); go_simp <;> with_reducible rfl
      (try simp only [Act.put, lz]);refine tkH ?_ 5 rfl (by kernel_rfl) (fun _ _ _ h => by cases h.1) (by rfl) ?_ ‹_› ?_;rotate_left
      ·intro w h; (try dsimp only at h); go_simp <;> with_reducible rfl
      (try simp only [Act.put, lz]);refine tkH ?_ 6 rfl (by kernel_rfl) (fun _ _ _ h => by cases h.1) (by rfl) ?_ ‹_› ?_;rotate_left
      ·intro w h; (try dsimp only at h); go_simp <;> with_reducible rfl
      (try simp only [Act.put, lz]);refine tkH ?_ 7 rfl (by kernel_rfl) (fun _ _ _ h => by cases h.1) (by rfl) ?_ ‹_› ?_;rotate_left
      ·intro w h; (try dsimp only at h); go_simp <;> with_reducible rfl
      (try simp only [Act.put, lz]);refine tkH ?_ 8 rfl (by kernel_rfl) (fun _ _ _ h => by cases h.1) (by rfl) ?_ ‹_› ?_;rotate_left
      ·intro w h; (try dsimp only at h); go_simp <;> with_reducible rfl
      (try simp only [Act.put, lz]);refine tkH ?_ 9 rfl (by kernel_rfl) (fun _ _ _ h => by cases h.1) (by rfl) ?_ ‹_› ?_;rotate_left
      ·intro w h; (try dsimp only at h); go_simp <;> with_reducible rfl
      (try simp only [Act.put, lz]);refine rdH 10 (by kernel_rfl) rfl fun K hK => ?_
      go_simp;refine (cA.out wd KD.out).mono ?_;rintro e we ⟨rfl, ke⟩;(try go_wp2_with fail);refine hK.out _ _ (hRS.out we (KD.out.trans ke (by simp))) (fun hHeld => ?_)
      clear hK K;(try simp only [Act.put, lz]);refine tkH ?_ 11 rfl (by kernel_rfl) (fun _ _ _ h => by cases h.1) (by rfl) ?_ ‹_› ?_;rotate_left
      ·intro w h; (try dsimp only at h); go_simp <;> with_reducible rfl
      (try simp only [Act.put, lz]);refine wpAnyH_done (by kernel_rfl) ⟨rfl, ?_⟩ _
      have KE := hid (KD.out.trans ke (by simp))
      clear hHeld ke
      cases hlt : decide (lt j m) with
      | true =>
       have hp2 : Hid (insP lt j (srtI lt j) k = insP lt j (srtI lt j) j) := hid (by rw [← hip.out, hpm.out, if_pos (of_decide_eq_true hlt)])
       clear hlt;go_wp2_with fail;go_roundw
       case rel => exact ⟨k, by omega, by go_num, hp2, KE⟩
       case measure => simp [intOf] <;> omega
      | false =>
       have hp2 : Hid (insP lt j (srtI lt j) j = k + 1) := hid (by rw [← hip.out, hpm.out, if_neg (of_decide_eq_false hlt)])
       clear hlt;go_wp2_with fail;go_meet;exact ⟨k + 1, hk', by simp, hp2, KE⟩
   case rest =>
    obtain ⟨K, hK, rfl, hp, kn⟩ := hcut;obtain ⟨_, _, e3, hsee, _, hcp, _⟩ := hw.out.1.see;obtain ⟨e5, e6, e7⟩ := Value.slice.inj e3;rw [← e5] at hsee;clear e3 e5 e6 e7 hcp;have hseeW := hsee.keptNew kn.out
    have kO := hid (hw.out.2.2.trans kn.out (by simp))
    have hmap := hid (insI_map lt A j K hp.out)
    have hcg := hcL.out
    obtain ⟨x, hxe⟩ : ∃ x, Hid (A j = x) := ⟨A j, rfl⟩
    rw [hxe.out] at hmap hcg;have HCG := hid hcg
    clear hcL hsee hp hcg;have hjc : j ≤ cb := by rcases hb0.out with ⟨_, _, h⟩ | ⟨_, _, _, h⟩ <;> omega
    have s1 : (0 : Int) ≤ (K : Int) := by omega
    have s2 : (K : Int) ≤ (cb : Int) := by omega
    have s3 : (K : Int) ≤ (j : Int) := by omega
    have s4 : (j : Int) ≤ (cb : Int) := by omega
    have hlj := hlen.out
    have hsf := fun W : World => sliceFromVs b j cb K W hK
    have hsee2 : VsE.See wc (if cb = K then b else b.map (·.add K)) (((srtI lt j).map A).drop K) := by
     by_cases hc : cb = K
     ·rw [List.drop_eq_nil_of_le (by rw [hlen.out]; omega)]; exact .inl rfl
     ·rw [if_neg hc]; exact seeDropVs hseeW K
    obtain ⟨cq, hcq⟩ : ∃ q, Hid ((if cb = K then b else b.map (·.add K)) = q) := ⟨_, rfl⟩
    rw [hcq.out] at hsee2;simp only [hcq.out] at hsf;obtain ⟨cc, hcc⟩ : ∃ q, Hid (cb - K = q) := ⟨_, rfl⟩
    simp only [hcc.out] at hsf;have hlj := hlen.out
    obtain ⟨a1, c1, W1, a2, c2, W2, a3, c3, W3, r1, r2, r3, R3, n3, k1, k2, k3⟩ := app3V wc b cq cb cc j K ((srtI lt j).map A) hlj hK (hseeW.front K) hsee2 x (by omega)
    obtain ⟨nk, hnk⟩ : ∃ q, Hid (j - K = q) := ⟨_, rfl⟩
    simp only [hnk.out] at hsf;rw [hnk.out] at r3;have HSF := hid hsf
    have HST := hid (fun W : World => sliceToVs b j cb K W (by omega))
    obtain ⟨xa, xc, xl⟩ := x;dsimp only at r1 r2 r3;have hr1 := hid r1
    have hr2 := hid r2
    have hr3 := hid r3
    have x1 := HCG.out W1 (kO.out.trans k1 (by simp))
    rw [← hmap.out] at R3;have hfin : Hid (VsE.Row W3 (.slice a3 ((srtI lt (j + 1)).map A).length c3) ((srtI lt (j + 1)).map A) ∧ (∀ k ∈ blk a3, w.heap.size ≤ k) ∧ Kp [] w W3) := hid ⟨R3, fun k hk => by have := n3 k hk; have := kO.out.size; omega, kO.out.trans k3 (by simp)⟩
    clear R3 n3 k1 k2 k3 r1 r2 r3 hseeW hmap hb0 hlj hlen hw hsee2 hsf;have hsl := HST.out wc
    go_upto_region 12 with (first | (refine wpAppRunY rfl _ _ 60 60 rfl _ _ _ rfl rfl hr1.out ?_) | fail)
    clear hsl;go_upto_region 13 with (first | (refine wpAppRunY rfl _ _ 60 60 rfl _ _ _ rfl rfl hr2.out ?_) | fail)
    have hsl := HSF.out W2
    clear x1;go_upto_region 14 with (first | (refine wpAppRunY rfl _ _ 60 60 rfl _ _ _ rfl rfl hr3.out ?_) | fail)
    clear hsl s1 s2 s3 s4;go_wp2_with fail;go_roundw
    case rel => exact ⟨j + 1, a3, c3, by omega, by go_num, by simp [insI_len], hfin⟩
    case measure => simp [intOf] <;> omega
  ·have e : j = L.length := by omega
   subst e;go_wp2_with fail;go_ret;obtain ⟨_, _, e3, hsee, _, hcp, _⟩ := hw.out.1.see;have e4 := Value.slice.inj e3
   rw [hlen.out, ← e4.2.2] at hcp;exact ⟨b, cb, rfl, by rw [e4.1]; exact hsee, hw.out.2.2, hcp⟩
end Go.Proofs.YtcgkkofmnajedaaGreatDoor
end

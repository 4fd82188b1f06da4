/- What the proof stands on: contracts of functions that the statement calls, and plain lemmas. No statement of the seat is proved here. -/
import Derived.Test.YtcgkkofmnajedaaGreatDoorB8
import Derived.Deep.Cut
import Derived.Deep.CutRange
import Derived.Test.YtcgkkofmnajedaaGreatDoorB6
set_option maxHeartbeats 64000000
set_option maxRecDepth 100000
set_option linter.unusedVariables false
set_option linter.unusedSimpArgs false
section
namespace Go.Proofs.YtcgkkofmnajedaaGreatDoor
open Go.RowKit Go.Hay
theorem cSymAG (g o n cap : Nat) (A : Nat → Mb) (cv : Value) (cf : Nat → Nat → Int) (Inv : World → Prop) (hC : CmpOkG g n A cv cf Inv) (p : Nat → Nat) (a m b : Nat) (w : World) (h : HdG w g o n cap A p) (hI : Inv w) (hpn : ∀ k, k < n → p k < n) (h1 : a < m) (h2 : m < b) (h3 : b ≤ n) (hA : Srt (fun x y => cf x y < 0) p a m) (hB : Srt (fun x y => cf x y < 0) p m b) (hLo : Low p a m b) (hn : n ≤ 4000000000000) (hcap : n ≤ cap) (hma : m ≤ a + 1) : Calls Tryz.prog 185 #[.slice (some ⟨g, o, none⟩) n cap, .int .i64 (a : Int), .int .i64 (m : Int), .int .i64 (b : Int), .func (.func 166) #[] #[]] w fun e w' => (∃ v, e = .returned v) ∧ ∃ s, PermIn a b s ∧ Srt (fun x y => cf x y < 0) (fun k => p (s k)) a b ∧ HdG w' g o n cap A (fun k => p (s k)) ∧ Kp [g] w w' := by
 have HC := hid hC
 have HI := hid hI
 have HH := hid h
 have HPN := hid hpn
 have HSR := hid (And.intro hA (And.intro hB hLo))
 have q1 : (-9223372036854775808 : Int) ≤ (m : Int) - (a : Int) := by omega
 have q2 : (m : Int) - (a : Int) ≤ 9223372036854775807 := by omega
 clear hC hI h hpn hA hB hLo;have hm1 : (m : Int) - (a : Int) = 1 := by omega
 go_enter Tryz.func185, Tryz.ntmps185
 go_wp2_with fail;clear q1 q2 hm1;go_loopw [10, 11, 12] (fun iv jv _ wr => ∃ i j : Nat, (m ≤ i ∧ i ≤ j ∧ j ≤ b) ∧ iv = .int .i64 (i : Int) ∧ jv = .int .i64 (j : Int) ∧ Hid ((i = m ∨ cf (p (i - 1)) (p a) < 0) ∧ (j = b ∨ 0 ≤ cf (p j) (p a))) ∧ Hid (HdG wr g o n cap A p ∧ Kp [g] w wr)) (fun iv jv _ _ => (intOf jv).toNat - (intOf iv).toNat)
 case atStart => exact ⟨m, b, by omega, rfl, rfl, hid ⟨.inl rfl, .inl rfl⟩, hid ⟨HH.out, Kp.refl _ _⟩⟩
 case round =>
  obtain ⟨i, j, ⟨bi, bij, bj⟩, rfl, rfl, hs, hw⟩ := hrel
  by_cases hij : i < j
  ·have i0 : (i : Int) < (j : Int) := by omega
   obtain ⟨t, ht⟩ : ∃ t : Nat, t = i + j := ⟨_, rfl⟩
   obtain ⟨h, hh⟩ : ∃ h : Nat, h = t / 2 := ⟨_, rfl⟩
   have et : (i : Int) + (j : Int) = (t : Int) := by omega
   have et1 : (-9223372036854775808 : Int) ≤ (i : Int) + (j : Int) := by omega
   have et2 : (i : Int) + (j : Int) ≤ 9223372036854775807 := by omega
   have et3 : (0 : Int) ≤ (t : Int) := by omega
   have et4 : (t : Int) ≤ 9223372036854775807 := by omega
   have et5 : (t : Int) < 18446744073709551616 := by omega
   have eh : (t : Int) / 2 = (h : Int) := by omega
   have eh2 : (h : Int) ≤ 9223372036854775807 := by omega
   have eu : IntKind.u64.wrap (t : Int) = (t : Int) := by rw [IntKind.wrap_u64]; omega
   have ew : IntKind.i64.wrap (h : Int) = (h : Int) := by rw [IntKind.wrap_i64]; omega
   have ewt : IntKind.i64.wrap (t : Int) = (t : Int) := by rw [IntKind.wrap_i64]; omega
   have hhb : i ≤ h ∧ h < j := by omega
   have HT := hid (And.intro ht hh)
   clear ht hh;have i1 : (0 : Int) ≤ (h : Int) := by omega
   have i2 : (h : Int) < (n : Int) := by omega
   have i5 : (h : Int) + 1 ≤ 9223372036854775807 := by omega
   have i3 : (0 : Int) ≤ (a : Int) := by omega
   have i4 : (a : Int) < (n : Int) := by omega
   have cC := hid (fun W' (k : Kp [] wr W') => HC.out.calls W' (p h) (p a) (HC.out.keep _ _ HI.out (hw.out.2.trans k (by simp))) (HPN.out _ (by omega)) (HPN.out _ (by omega)))
   obtain ⟨⟨x0, x1⟩, _⟩ := hw.out.1.cells h (by omega)
   obtain ⟨⟨y0, y1⟩, _⟩ := hw.out.1.cells a (by omega)
   obtain ⟨V1, hV1⟩ : ∃ V, Hid (V = A (p h)) := ⟨_, hid rfl⟩
   obtain ⟨V2, hV2⟩ : ∃ V, Hid (V = A (p a)) := ⟨_, hid rfl⟩
   rw [← hV1.out] at x0 x1 cC;rw [← hV2.out] at y0 y1 cC;obtain ⟨C, hCf⟩ : ∃ C, Hid (cf (p h) (p a) = C) := ⟨_, hid rfl⟩
   rw [hCf.out] at cC;obtain ⟨⟨ka1, kc1, kl1⟩, ⟨ra1, rc1, rl1⟩⟩ := V1;obtain ⟨⟨ka2, kc2, kl2⟩, ⟨ra2, rc2, rl2⟩⟩ := V2;simp only [Mb.v] at cC;dsimp only at *;have hF : Hid (∀ W', Kp [] wr W' → (W'.cell? ⟨g, o + h * 2, none⟩ = some (.slice ka1 kl1.length kc1) ∧ W'.cell? ⟨g, o + h * 2 + 1, none⟩ = some (.slice ra1 rl1.length rc1) ∧ W'.cell? ⟨g, o + a * 2, none⟩ = some (.slice ka2 kl2.length kc2) ∧ W'.cell? ⟨g, o + a * 2 + 1, none⟩ = some (.slice ra2 rl2.length rc2))) := fun W' k => ⟨kpAt k x0, kpAt k x1, kpAt k y0, kpAt k y1⟩
   clear x0 x1 y0 y1 hV1 hV2;go_wp2_with fail;refine wp_region_held_drew (S := fun W' => W'.cell? ⟨g, o + h * 2, none⟩ = some (.slice ka1 kl1.length kc1) ∧ W'.cell? ⟨g, o + h * 2 + 1, none⟩ = some (.slice ra1 rl1.length rc1) ∧ W'.cell? ⟨g, o + a * 2, none⟩ = some (.slice ka2 kl2.length kc2) ∧ W'.cell? ⟨g, o + a * 2 + 1, none⟩ = some (.slice ra2 rl2.length rc2)) (by kernel_rfl) ?_ (fun hHeld => ?_)
   ·exact hF.out _ (Kp.refl [] wr).drew
   have KD : Hid (Kp [] wr wr.drew) := hid (Kp.refl [] wr).drew
   generalize wr.drew = Wd at *
   refine tkH ?_ 0 rfl (by kernel_rfl) (fun _ _ _ h => h) (by rfl) ?_ ‹_› ?_;rotate_left
   ·intro w h; (try dsimp only at h); go_simp <;> with_reducible rfl
   (try simp only [Act.put, lz]);refine tkH ?_ 1 rfl (by kernel_rfl) (fun _ _ _ h => h) (by rfl) ?_ ‹_› ?_;rotate_left
   ·intro w h; (try dsimp only at h); go_simp <;> with_reducible rfl
   (try simp only [Act.put, lz]);refine tkH ?_ 2 rfl (by kernel_rfl) (fun _ _ _ h => h) (by rfl) ?_ ‹_› ?_;rotate_left
   ·intro w h; (try dsimp only at h); go_simp <;> with_reducible rfl
   (try simp only [Act.put, lz]);refine tkH ?_ 3 rfl (by kernel_rfl) (fun _ _ _ h => h) (by rfl) ?_ ‹_› ?_;rotate_left
   ·intro w h; (try dsimp only at h); go_simp <;> with_reducible rfl
   (try simp only [Act.put, lz]);refine tkH ?_ 4 rfl (by kernel_rfl) (fun _ _ _ h => h) (by rfl) ?_ ‹_› ?_;rotate_left
   ·intro w h; (try dsimp only at h); go_simp <;> with_reducible rfl
   (try simp only [Act.put, lz]);refine tkH ?_ 5 rfl (by kernel_rfl) (fun _ _ _ h => h) (by rfl) ?_ ‹_› ?_;rotate_left
   ·intro w h; (try dsimp only at h); go_simp <;> with_reducible rfl
   (try simp only [Act.put, lz]);refine tkH ?_ 6 rfl (by kernel_rfl) (fun _ _ _ h => h) (by rfl) ?_ ‹_› ?_;rotate_left
   ·intro w h; (try dsimp only at h); go_simp <;> with_reducible rfl
   (try simp only [Act.put, lz]);refine tkH ?_ 7 rfl (by kernel_rfl) (fun _ _ _ h => h) (by rfl) ?_ ‹_› ?_;rotate_left
   ·intro w h; (try dsimp only at h); go_simp <;> with_reducible rfl
   (try simp only [Act.put, lz]);refine tkH ?_ 8 rfl (by kernel_rfl) (fun _ _ _ h => h) (by rfl) ?_ ‹_› ?_;rotate_left
   ·intro w h; (try dsimp only at h); go_simp <;> with_reducible rfl
   (try simp only [Act.put, lz]);refine rdH 9 (by kernel_rfl) rfl fun K hK => ?_
   go_simp;refine (cC.out Wd KD.out).mono ?_;rintro e u1 ⟨rfl, l1'⟩;(try go_wp2_with fail);refine hK.out _ _ ?_ (fun hHeld => ?_)
   ·exact hF.out _ (KD.out.trans l1' (by simp))
   clear hK K;(try simp only [Act.put, lz]);have K1 := hid (KD.out.trans l1' (by simp))
   clear l1' KD;have hw1 : Hid (HdG u1 g o n cap A p ∧ Kp [g] w u1) := hid ⟨hw.out.1.kept K1.out, hw.out.2.trans K1.out (by simp)⟩
   by_cases hc0 : C < 0
   ·have dc : decide (C < 0) = true := by simpa using hc0
    refine tkH ?_ 10 rfl (by kernel_rfl) (fun _ _ _ h => h) (by rfl) ?_ ‹_› ?_;rotate_left
    ·intro w hSw; (try dsimp only at hSw); go_simp <;> (try simp only [dc]) <;> with_reducible rfl
    (try simp only [Act.put, lz]);try simp only [dc]
    refine wpAnyH_done (by kernel_rfl) ?_ _
    have hs2 : Hid ((h + 1 = m ∨ cf (p (h + 1 - 1)) (p a) < 0) ∧ (j = b ∨ 0 ≤ cf (p j) (p a))) := hid ⟨.inr (by rw [Nat.add_sub_cancel, hCf.out]; exact hc0), hs.out.2⟩
    clear hHeld hF cC hs hw hc0;go_wp2_with fail;exact ⟨⟨h + 1, j, by omega, by go_num, rfl, hs2, hw1⟩, by simp [intOf]; omega⟩
   ·have dc : decide (C < 0) = false := by simpa using hc0
    refine tkH ?_ 10 rfl (by kernel_rfl) (fun _ _ _ h => h) (by rfl) ?_ ‹_› ?_;rotate_left
    ·intro w hSw; (try dsimp only at hSw); go_simp <;> (try simp only [dc]) <;> with_reducible rfl
    (try simp only [Act.put, lz]);try simp only [dc]
    refine wpAnyH_done (by kernel_rfl) ?_ _
    have hs2 : Hid ((i = m ∨ cf (p (i - 1)) (p a) < 0) ∧ (h = b ∨ 0 ≤ cf (p h) (p a))) := hid ⟨hs.out.1, .inr (by rw [hCf.out]; omega)⟩
    clear hHeld hF cC hs hw hc0;go_wp2_with fail;exact ⟨⟨i, h, by omega, rfl, rfl, hs2, hw1⟩, by simp [intOf]; omega⟩
  ·have e : j = i := by omega
   subst e
   have hfin : Hid (PermIn a b (rot a (a + 1) j) ∧ Srt (fun x y => cf x y < 0) (fun k => p (rot a (a + 1) j k)) a b) := hid ⟨rot_perm (Nat.le_refl _) (by omega) (by omega) bj, by
    have em : m = a + 1 := by omega
    refine ins_right HC.out.swo (by omega) bj (em ▸ HSR.out.2.1) (em ▸ HSR.out.2.2) ?_ (hs.out.2.imp_right fun h => Int.not_lt.2 h)
    have := hs.out.1
    rwa [em] at this⟩
   have q3 : (-9223372036854775808 : Int) ≤ (j : Int) - 1 := by omega
   have q4 : (j : Int) - 1 ≤ 9223372036854775807 := by omega
   clear hs;go_wp2_with fail;go_loopw [13] (fun kv wn => ∃ k : Nat, (a ≤ k ∧ k + 1 ≤ j) ∧ kv = .int .i64 (k : Int) ∧ Hid (HdG wn g o n cap A (fun x => p (rot a (a + 1) (k + 1) x)) ∧ Kp [g] w wn)) (fun kv _ => j - (intOf kv).toNat)
   case atStart => exact ⟨a, by omega, rfl, hid ⟨by rw [rot_right a (a + 1) (by omega)]; exact hw.out.1, hw.out.2⟩⟩
   case round =>
    obtain ⟨k, ⟨bk, bk2⟩, rfl, hw3⟩ := hrel;clear hw
    by_cases hkj : k + 1 < j
    ·have d1 : decide ((k : Int) < (j : Int) - 1) = true := by simp; omega
     have d2 : (k : Int) < (j : Int) - 1 := by omega
     obtain ⟨y, hy⟩ : ∃ y : Nat, y = k + 1 := ⟨_, rfl⟩
     have ey : (k : Int) + 1 = (y : Int) := by omega
     have wy : IntKind.i64.wrap ((k : Int) + 1) = (y : Int) := by rw [ey, IntKind.wrap_i64]; omega
     have wy2 : IntKind.i64.wrap (y : Int) = (y : Int) := by rw [IntKind.wrap_i64]; omega
     have i1 : (0 : Int) ≤ (k : Int) := by omega
     have i2 : (k : Int) < (n : Int) := by omega
     have i3 : (0 : Int) ≤ (y : Int) := by omega
     have i4 : (y : Int) < (n : Int) := by omega
     have b1 : (-9223372036854775808 : Int) ≤ (k : Int) + 1 := by omega
     have b2 : (k : Int) + 1 ≤ 9223372036854775807 := by omega
     have HY := hid hy
     obtain ⟨Q, hQ⟩ : ∃ Q, Hid (Q = fun x => p (rot a (a + 1) (k + 1) x)) := ⟨_, hid rfl⟩
     rw [← hQ.out] at hw3;have hyb : y < n ∧ y + 1 ≤ j := by omega
     clear hy;go_wp2_with fail;refine wp_region_held_drew (S := fun _ => True) (by kernel_rfl) trivial (fun hHeld => ?_)
     have KD2 : Kp [] wr wr.drew := (Kp.refl [] wr).drew
     have hd2 := hw3.out.1.kept KD2
     have hk2 := hid (hw3.out.2.trans KD2 (by simp))
     generalize wr.drew = Wd2 at *
     clear KD2 hw3;obtain ⟨⟨x0, x1⟩, fx0, fx1⟩ := hd2.cells k (by omega)
     obtain ⟨⟨y0, y1⟩, fy0, fy1⟩ := hd2.cells y (by omega)
     have hsw := hd2.swap k y (by omega) (by omega)
     have hpc := put4_cellsG hd2 k y (by omega) (by omega)
     obtain ⟨U1, hU1⟩ : ∃ V, V = A (Q k) := ⟨_, rfl⟩
     obtain ⟨U2, hU2⟩ : ∃ V, V = A (Q y) := ⟨_, rfl⟩
     rw [← hU1] at x0 x1 hsw;rw [← hU2] at y0 y1 hsw;replace hpc := hpc U2
     obtain ⟨⟨u0, hu0⟩, gu0⟩ := hpc 0 (by omega)
     obtain ⟨⟨u1, hu1⟩, gu1⟩ := hpc 1 (by omega)
     simp only [Nat.add_zero] at hu0 gu0;obtain ⟨W1, eW1⟩ : ∃ Y, ((Wd2.setCell ⟨g, o + k * 2, none⟩ (.slice U2.k.a U2.k.l.length U2.k.c)).setCell ⟨g, o + k * 2 + 1, none⟩ (.slice U2.r.a U2.r.l.length U2.r.c)) = Y := ⟨_, rfl⟩
     have eP1 : put4G Wd2 g (o + k * 2) U2 = W1 := eW1
     obtain ⟨W2, eW2⟩ : ∃ Y, ((W1.setCell ⟨g, o + y * 2, none⟩ (.slice U1.k.a U1.k.l.length U1.k.c)).setCell ⟨g, o + y * 2 + 1, none⟩ (.slice U1.r.a U1.r.l.length U1.r.c)) = Y := ⟨_, rfl⟩
     have eP2 : put4G W1 g (o + y * 2) U1 = W2 := eW2
     have kP1 : Kp [g] Wd2 W1 := by rw [← eP1]; exact put4_kpG _ _ _ _
     have kP2 : Kp [g] W1 W2 := by rw [← eP2]; exact put4_kpG _ _ _ _
     simp only [eP1] at hu0 hu1 gu0 gu1 hsw;simp only [eP2] at hsw;have zW1 := kP1.size
     have HSW := hid (And.intro hsw (kP1.trans kP2 (by simp)))
     have zg : g < Wd2.heap.size := hd2.lt
     have zg1 : g < W1.heap.size := by omega
     clear hpc hsw eP1 eP2 kP1 kP2 hU1 hU2 zW1;obtain ⟨⟨ka3, kc3, kl3⟩, ⟨ra3, rc3, rl3⟩⟩ := U1;obtain ⟨⟨ka4, kc4, kl4⟩, ⟨ra4, rc4, rl4⟩⟩ := U2;dsimp only at *
     have hfin2 : Hid (HdG W2 g o n cap A (fun x => p (rot a (a + 1) (y + 1) x)) ∧ Kp [g] w W2) := hid ⟨by
      have := HSW.out.1
      rw [hQ.out] at this;have e := HY.out
      subst e;rw [rot_push a k j bk hkj];exact this, hk2.out.trans HSW.out.2 (by simp)⟩
     have hky : a ≤ y ∧ k < y := by have := HY.out; omega
     clear hd2 HSW hk2;refine tkH ?_ 0 rfl (by kernel_rfl) (fun _ _ _ h => h) (by rfl) ?_ ‹_› ?_;rotate_left
     ·intro w h; (try dsimp only at h); go_simp <;> with_reducible rfl
     (try simp only [Act.put, lz]);refine tkH ?_ 1 rfl (by kernel_rfl) (fun _ _ _ h => h) (by rfl) ?_ ‹_› ?_;rotate_left
     ·intro w h; (try dsimp only at h); go_simp <;> with_reducible rfl
     (try simp only [Act.put, lz]);refine tkH ?_ 2 rfl (by kernel_rfl) (fun _ _ _ h => h) (by rfl) ?_ ‹_› ?_;rotate_left
     ·intro w h; (try dsimp only at h); go_simp <;> with_reducible rfl
     (try simp only [Act.put, lz]);refine tkH ?_ 3 rfl (by kernel_rfl) (fun _ _ _ h => h) (by rfl) ?_ ‹_› ?_;rotate_left
     ·intro w h; (try dsimp only at h); go_simp <;> with_reducible rfl
     (try simp only [Act.put, lz]);refine tkH ?_ 4 rfl (by kernel_rfl) (fun _ _ _ h => h) (by rfl) ?_ ‹_› ?_;rotate_left
     ·intro w hSw; (try dsimp only at hSw); go_simp <;> (try simp only [wy, wy2]) <;> with_reducible rfl
     (try simp only [Act.put, lz]);try simp only [wy, wy2]
     refine tkH ?_ 5 rfl (by kernel_rfl) (fun _ _ _ h => h) (by rfl) ?_ ‹_› ?_;rotate_left
     ·intro w h; (try dsimp only at h); go_simp <;> with_reducible rfl
     (try simp only [Act.put, lz]);refine tkH ?_ 6 rfl (by kernel_rfl) (fun _ _ _ h => h) (by rfl) ?_ ‹_› ?_;rotate_left
     ·intro w h; (try dsimp only at h); go_simp <;> with_reducible rfl
     (try simp only [Act.put, lz]);refine tkH ?_ 7 rfl (by kernel_rfl) (fun _ _ _ h => h) (by rfl) ?_ ‹_› ?_;rotate_left
     ·intro w hSw; (try dsimp only at hSw); go_simp <;> (try simp only [wy, wy2]) <;> with_reducible rfl
     (try simp only [Act.put, lz]);try simp only [wy, wy2]
     refine tkH ?_ 8 rfl (by kernel_rfl) (fun _ _ _ h => h) (by rfl) ?_ ‹_› ?_;rotate_left
     ·intro w h; (try dsimp only at h); go_simp <;> with_reducible rfl
     (try simp only [Act.put, lz]);refine tkH ?_ 10 rfl (by kernel_rfl) (fun _ _ _ h => h) (by rfl) ?_ ‹_› ?_;rotate_left
     ·intro w h; (try dsimp only at h); go_simp <;> with_reducible rfl
     (try simp only [Act.put, lz]);refine tkH ?_ 11 rfl (by kernel_rfl) (fun _ _ _ h => h) (by rfl) ?_ ‹_› ?_;rotate_left
     ·intro w h; (try dsimp only at h); go_simp <;> with_reducible rfl
     (try simp only [Act.put, lz]);refine tkH ?_ 12 rfl (by kernel_rfl) (fun _ _ _ h => h) (by rfl) ?_ ‹_› ?_;rotate_left
     ·intro w h; (try dsimp only at h); go_simp <;> with_reducible rfl
     (try simp only [Act.put, lz]);refine wpAnyH_ready (rs := [9, 13]) (by kernel_rfl) (by simp) ?_
     refine AllReadyH.cons rfl (fun K hK => ?_) (AllReadyH.cons rfl (fun K hK => ?_) AllReadyH.nil)
     ·go_simp
      (try go_wp2_with fail);refine hK.out _ _ trivial (fun hHeld => ?_)
      clear hK K;(try simp only [Act.put, lz]);refine rdH 13 (by kernel_rfl) rfl fun K hK => ?_
      go_simp;(try go_wp2_with fail);refine hK.out _ _ trivial (fun hHeld => ?_)
      clear hK K;(try simp only [Act.put, lz]);refine tkH ?_ 14 rfl (by kernel_rfl) (fun _ _ _ h => h) (by rfl) ?_ ‹_› ?_;rotate_left
      ·intro w h; (try dsimp only at h); go_simp <;> with_reducible rfl
      (try simp only [Act.put, lz]);refine rdH 15 (by kernel_rfl) rfl fun K hK => ?_
      go_simp;(try go_wp2_with fail);refine hK.out _ _ trivial (fun hHeld => ?_)
      clear hK K;(try simp only [Act.put, lz]);refine tkH ?_ 16 rfl (by kernel_rfl) (fun _ _ _ h => h) (by rfl) ?_ ‹_› ?_;rotate_left
      ·intro w h; (try dsimp only at h); go_simp <;> with_reducible rfl
      (try simp only [Act.put, lz]);refine rdH 17 (by kernel_rfl) rfl fun K hK => ?_
      go_simp;(try go_wp2_with fail);refine hK.out _ _ trivial (fun hHeld => ?_)
      clear hK K;(try simp only [Act.put, lz]);refine wpAnyH_done (by kernel_rfl) ?_ _
      clear hHeld;go_wp2_with fail;exact ⟨⟨y, by omega, by go_num, hfin2⟩, by simp [intOf]; omega⟩
     ·go_simp
      (try go_wp2_with fail);refine hK.out _ _ trivial (fun hHeld => ?_)
      clear hK K;(try simp only [Act.put, lz]);refine rdH 9 (by kernel_rfl) rfl fun K hK => ?_
      go_simp;(try go_wp2_with fail);refine hK.out _ _ trivial (fun hHeld => ?_)
      clear hK K;(try simp only [Act.put, lz]);refine tkH ?_ 14 rfl (by kernel_rfl) (fun _ _ _ h => h) (by rfl) ?_ ‹_› ?_;rotate_left
      ·intro w h; (try dsimp only at h); go_simp <;> with_reducible rfl
      (try simp only [Act.put, lz]);refine rdH 15 (by kernel_rfl) rfl fun K hK => ?_
      go_simp;(try go_wp2_with fail);refine hK.out _ _ trivial (fun hHeld => ?_)
      clear hK K;(try simp only [Act.put, lz]);refine tkH ?_ 16 rfl (by kernel_rfl) (fun _ _ _ h => h) (by rfl) ?_ ‹_› ?_;rotate_left
      ·intro w h; (try dsimp only at h); go_simp <;> with_reducible rfl
      (try simp only [Act.put, lz]);refine rdH 17 (by kernel_rfl) rfl fun K hK => ?_
      go_simp;(try go_wp2_with fail);refine hK.out _ _ trivial (fun hHeld => ?_)
      clear hK K;(try simp only [Act.put, lz]);refine wpAnyH_done (by kernel_rfl) ?_ _
      clear hHeld;go_wp2_with fail;exact ⟨⟨y, by omega, by go_num, hfin2⟩, by simp [intOf]; omega⟩
    ·have d1 : decide ((k : Int) < (j : Int) - 1) = false := by simp; omega
     have d2 : ¬ ((k : Int) < (j : Int) - 1) := by omega
     have ek : k + 1 = j := by omega
     rw [ek] at hw3;clear ek;go_wp2_with fail;refine bodyPost_ret (results_none rfl _ _ _) rfl ?_;exact ⟨⟨_, rfl⟩, _, hfin.out.1, hfin.out.2, hw3.out.1, hw3.out.2⟩
theorem cSymBG (g o n cap : Nat) (A : Nat → Mb) (cv : Value) (cf : Nat → Nat → Int) (Inv : World → Prop) (hC : CmpOkG g n A cv cf Inv) (p : Nat → Nat) (a m b : Nat) (w : World) (h : HdG w g o n cap A p) (hI : Inv w) (hpn : ∀ k, k < n → p k < n) (h1 : a < m) (h2 : m < b) (h3 : b ≤ n) (hA : Srt (fun x y => cf x y < 0) p a m) (hB : Srt (fun x y => cf x y < 0) p m b) (hLo : Low p a m b) (hn : n ≤ 4000000000000) (hcap : n ≤ cap) (hma : a + 1 < m) (hmb : b ≤ m + 1) : Calls Tryz.prog 185 #[.slice (some ⟨g, o, none⟩) n cap, .int .i64 (a : Int), .int .i64 (m : Int), .int .i64 (b : Int), .func (.func 166) #[] #[]] w fun e w' => (∃ v, e = .returned v) ∧ ∃ s, PermIn a b s ∧ Srt (fun x y => cf x y < 0) (fun k => p (s k)) a b ∧ HdG w' g o n cap A (fun k => p (s k)) ∧ Kp [g] w w' := by
 have HC := hid hC
 have HI := hid hI
 have HH := hid h
 have HPN := hid hpn
 have HSR := hid (And.intro hA (And.intro hB hLo))
 have q1 : (-9223372036854775808 : Int) ≤ (m : Int) - (a : Int) := by omega
 have q2 : (m : Int) - (a : Int) ≤ 9223372036854775807 := by omega
 clear hC hI h hpn hA hB hLo;have hm1 : ((m : Int) - (a : Int) == 1) = false := by simp; omega
 have hm2 : ¬ ((m : Int) - (a : Int) = 1) := by omega
 have hb1 : (b : Int) - (m : Int) = 1 := by omega
 have q3 : (-9223372036854775808 : Int) ≤ (b : Int) - (m : Int) := by omega
 have q4 : (b : Int) - (m : Int) ≤ 9223372036854775807 := by omega
 go_enter Tryz.func185, Tryz.ntmps185
 go_wp2_with fail;clear q1 q2 hm1 hm2 hb1 q3 q4;go_loopw [14, 15, 16] (fun iv jv _ wr => ∃ i j : Nat, (a ≤ i ∧ i ≤ j ∧ j ≤ m) ∧ iv = .int .i64 (i : Int) ∧ jv = .int .i64 (j : Int) ∧ Hid ((i = a ∨ 0 ≤ cf (p m) (p (i - 1))) ∧ (j = m ∨ cf (p m) (p j) < 0)) ∧ Hid (HdG wr g o n cap A p ∧ Kp [g] w wr)) (fun iv jv _ _ => (intOf jv).toNat - (intOf iv).toNat)
 case atStart => exact ⟨a, m, by omega, rfl, rfl, hid ⟨.inl rfl, .inl rfl⟩, hid ⟨HH.out, Kp.refl _ _⟩⟩
 case round =>
  obtain ⟨i, j, ⟨bi, bij, bj⟩, rfl, rfl, hs, hw⟩ := hrel
  by_cases hij : i < j
  ·have i0 : (i : Int) < (j : Int) := by omega
   obtain ⟨t, ht⟩ : ∃ t : Nat, t = i + j := ⟨_, rfl⟩
   obtain ⟨h, hh⟩ : ∃ h : Nat, h = t / 2 := ⟨_, rfl⟩
   have et : (i : Int) + (j : Int) = (t : Int) := by omega
   have et1 : (-9223372036854775808 : Int) ≤ (i : Int) + (j : Int) := by omega
   have et2 : (i : Int) + (j : Int) ≤ 9223372036854775807 := by omega
   have et3 : (0 : Int) ≤ (t : Int) := by omega
   have et4 : (t : Int) ≤ 9223372036854775807 := by omega
   have et5 : (t : Int) < 18446744073709551616 := by omega
   have eh : (t : Int) / 2 = (h : Int) := by omega
   have eh2 : (h : Int) ≤ 9223372036854775807 := by omega
   have eu : IntKind.u64.wrap (t : Int) = (t : Int) := by rw [IntKind.wrap_u64]; omega
   have ew : IntKind.i64.wrap (h : Int) = (h : Int) := by rw [IntKind.wrap_i64]; omega
   have ewt : IntKind.i64.wrap (t : Int) = (t : Int) := by rw [IntKind.wrap_i64]; omega
   have hhb : i ≤ h ∧ h < j := by omega
   have HT := hid (And.intro ht hh)
   clear ht hh;have i1 : (0 : Int) ≤ (h : Int) := by omega
   have i2 : (h : Int) < (n : Int) := by omega
   have i5 : (h : Int) + 1 ≤ 9223372036854775807 := by omega
   have i3 : (0 : Int) ≤ (m : Int) := by omega
   have i4 : (m : Int) < (n : Int) := by omega
   have cC := hid (fun W' (k : Kp [] wr W') => HC.out.calls W' (p m) (p h) (HC.out.keep _ _ HI.out (hw.out.2.trans k (by simp))) (HPN.out _ (by omega)) (HPN.out _ (by omega)))
   obtain ⟨⟨x0, x1⟩, _⟩ := hw.out.1.cells m (by omega)
   obtain ⟨⟨y0, y1⟩, _⟩ := hw.out.1.cells h (by omega)
   obtain ⟨V1, hV1⟩ : ∃ V, Hid (V = A (p m)) := ⟨_, hid rfl⟩
   obtain ⟨V2, hV2⟩ : ∃ V, Hid (V = A (p h)) := ⟨_, hid rfl⟩
   rw [← hV1.out] at x0 x1 cC;rw [← hV2.out] at y0 y1 cC;obtain ⟨C, hCf⟩ : ∃ C, Hid (cf (p m) (p h) = C) := ⟨_, hid rfl⟩
   rw [hCf.out] at cC;obtain ⟨⟨ka1, kc1, kl1⟩, ⟨ra1, rc1, rl1⟩⟩ := V1;obtain ⟨⟨ka2, kc2, kl2⟩, ⟨ra2, rc2, rl2⟩⟩ := V2;simp only [Mb.v] at cC;dsimp only at *;have hF : Hid (∀ W', Kp [] wr W' → (W'.cell? ⟨g, o + m * 2, none⟩ = some (.slice ka1 kl1.length kc1) ∧ W'.cell? ⟨g, o + m * 2 + 1, none⟩ = some (.slice ra1 rl1.length rc1) ∧ W'.cell? ⟨g, o + h * 2, none⟩ = some (.slice ka2 kl2.length kc2) ∧ W'.cell? ⟨g, o + h * 2 + 1, none⟩ = some (.slice ra2 rl2.length rc2))) := fun W' k => ⟨kpAt k x0, kpAt k x1, kpAt k y0, kpAt k y1⟩
   clear x0 x1 y0 y1 hV1 hV2;go_wp2_with fail;refine wp_region_held_drew (S := fun W' => W'.cell? ⟨g, o + m * 2, none⟩ = some (.slice ka1 kl1.length kc1) ∧ W'.cell? ⟨g, o + m * 2 + 1, none⟩ = some (.slice ra1 rl1.length rc1) ∧ W'.cell? ⟨g, o + h * 2, none⟩ = some (.slice ka2 kl2.length kc2) ∧ W'.cell? ⟨g, o + h * 2 + 1, none⟩ = some (.slice ra2 rl2.length rc2)) (by kernel_rfl) ?_ (fun hHeld => ?_)
   ·exact hF.out _ (Kp.refl [] wr).drew
   have KD : Hid (Kp [] wr wr.drew) := hid (Kp.refl [] wr).drew
   generalize wr.drew = Wd at *
   refine tkH ?_ 0 rfl (by kernel_rfl) (fun _ _ _ h => h) (by rfl) ?_ ‹_› ?_;rotate_left
   ·intro w h; (try dsimp only at h); go_simp <;> with_reducible rfl
   (try simp only [Act.put, lz]);refine tkH ?_ 1 rfl (by kernel_rfl) (fun _ _ _ h => h) (by rfl) ?_ ‹_› ?_;rotate_left
   ·intro w h; (try dsimp only at h); go_simp <;> with_reducible rfl
   (try simp only [Act.put, lz]);refine tkH ?_ 2 rfl (by kernel_rfl) (fun _ _ _ h => h) (by rfl) ?_ ‹_› ?_;rotate_left
   ·intro w h; (try dsimp only at h); go_simp <;> with_reducible rfl
   (try simp only [Act.put, lz]);refine tkH ?_ 3 rfl (by kernel_rfl) (fun _ _ _ h => h) (by rfl) ?_ ‹_› ?_;rotate_left
   ·intro w h; (try dsimp only at h); go_simp <;> with_reducible rfl
   (try simp only [Act.put, lz]);refine tkH ?_ 4 rfl (by kernel_rfl) (fun _ _ _ h => h) (by rfl) ?_ ‹_› ?_;rotate_left
   ·intro w h; (try dsimp only at h); go_simp <;> with_reducible rfl
   (try simp only [Act.put, lz]);refine tkH ?_ 5 rfl (by kernel_rfl) (fun _ _ _ h => h) (by rfl) ?_ ‹_› ?_;rotate_left
   ·intro w h; (try dsimp only at h); go_simp <;> with_reducible rfl
   (try simp only [Act.put, lz]);refine tkH ?_ 6 rfl (by kernel_rfl) (fun _ _ _ h => h) (by rfl) ?_ ‹_› ?_;rotate_left
   ·intro w h; (try dsimp only at h); go_simp <;> with_reducible rfl
   (try simp only [Act.put, lz]);refine tkH ?_ 7 rfl (by kernel_rfl) (fun _ _ _ h => h) (by rfl) ?_ ‹_› ?_;rotate_left
   ·intro w h; (try dsimp only at h); go_simp <;> with_reducible rfl
   (try simp only [Act.put, lz]);refine tkH ?_ 8 rfl (by kernel_rfl) (fun _ _ _ h => h) (by rfl) ?_ ‹_› ?_;rotate_left
   ·intro w h; (try dsimp only at h); go_simp <;> with_reducible rfl
   (try simp only [Act.put, lz]);refine rdH 9 (by kernel_rfl) rfl fun K hK => ?_
   go_simp;refine (cC.out Wd KD.out).mono ?_;rintro e u1 ⟨rfl, l1'⟩;(try go_wp2_with fail);refine hK.out _ _ ?_ (fun hHeld => ?_)
   ·exact hF.out _ (KD.out.trans l1' (by simp))
   clear hK K;(try simp only [Act.put, lz]);have K1 := hid (KD.out.trans l1' (by simp))
   clear l1' KD;have hw1 : Hid (HdG u1 g o n cap A p ∧ Kp [g] w u1) := hid ⟨hw.out.1.kept K1.out, hw.out.2.trans K1.out (by simp)⟩
   by_cases hc0 : C < 0
   ·have dc : decide (C < 0) = true := by simpa using hc0
    refine tkH ?_ 10 rfl (by kernel_rfl) (fun _ _ _ h => h) (by rfl) ?_ ‹_› ?_;rotate_left
    ·intro w hSw; (try dsimp only at hSw); go_simp <;> (try simp only [dc]) <;> with_reducible rfl
    (try simp only [Act.put, lz]);try simp only [dc]
    refine tkH ?_ 11 rfl (by kernel_rfl) (fun _ _ _ h => h) (by rfl) ?_ ‹_› ?_;rotate_left
    ·intro w h; (try dsimp only at h); go_simp <;> with_reducible rfl
    (try simp only [Act.put, lz]);try simp only [Bool.not_true, Bool.not_false]
    refine wpAnyH_done (by kernel_rfl) ?_ _
    have hs2 : Hid ((i = a ∨ 0 ≤ cf (p m) (p (i - 1))) ∧ (h = m ∨ cf (p m) (p h) < 0)) := hid ⟨hs.out.1, .inr (by rw [hCf.out]; exact hc0)⟩
    clear hHeld hF cC hs hw hc0;go_wp2_with fail;exact ⟨⟨i, h, by omega, rfl, rfl, hs2, hw1⟩, by simp [intOf]; omega⟩
   ·have dc : decide (C < 0) = false := by simpa using hc0
    refine tkH ?_ 10 rfl (by kernel_rfl) (fun _ _ _ h => h) (by rfl) ?_ ‹_› ?_;rotate_left
    ·intro w hSw; (try dsimp only at hSw); go_simp <;> (try simp only [dc]) <;> with_reducible rfl
    (try simp only [Act.put, lz]);try simp only [dc]
    refine tkH ?_ 11 rfl (by kernel_rfl) (fun _ _ _ h => h) (by rfl) ?_ ‹_› ?_;rotate_left
    ·intro w h; (try dsimp only at h); go_simp <;> with_reducible rfl
    (try simp only [Act.put, lz]);try simp only [Bool.not_true, Bool.not_false]
    refine wpAnyH_done (by kernel_rfl) ?_ _
    have hs2 : Hid ((h + 1 = a ∨ 0 ≤ cf (p m) (p (h + 1 - 1))) ∧ (j = m ∨ cf (p m) (p j) < 0)) := hid ⟨.inr (by rw [Nat.add_sub_cancel, hCf.out]; omega), hs.out.2⟩
    clear hHeld hF cC hs hw hc0;go_wp2_with fail;exact ⟨⟨h + 1, j, by omega, by go_num, rfl, hs2, hw1⟩, by simp [intOf]; omega⟩
  ·have e : j = i := by omega
   subst e;have eb : b = m + 1 := by omega
   have hfin : Hid (PermIn a b (rot j m (m + 1)) ∧ Srt (fun x y => cf x y < 0) (fun k => p (rot j m (m + 1) k)) a b) := hid ⟨rot_perm bi bj (by omega) (by omega), by
    have h5 := ins_left HC.out.swo bi bj HSR.out.1 (eb ▸ HSR.out.2.2) hs.out.2 (hs.out.1.imp_right fun h => Int.not_lt.2 h)
    exact h5.sub (Nat.le_refl _) (by omega)⟩
   clear hs eb;go_wp2_with fail;go_loopw [17] (fun kv wn => ∃ k : Nat, (j ≤ k ∧ k ≤ m) ∧ kv = .int .i64 (k : Int) ∧ Hid (HdG wn g o n cap A (fun x => p (rot k m (m + 1) x)) ∧ Kp [g] w wn)) (fun kv _ => (intOf kv).toNat)
   case atStart => exact ⟨m, by omega, rfl, hid ⟨by rw [rot_left]; exact hw.out.1, hw.out.2⟩⟩
   case round =>
    obtain ⟨k, ⟨bk, bk2⟩, rfl, hw3⟩ := hrel;clear hw
    by_cases hkj : j < k
    ·have d1 : decide ((j : Int) < (k : Int)) = true := by simp; omega
     have d2 : (j : Int) < (k : Int) := by omega
     obtain ⟨y, hy⟩ : ∃ y : Nat, y = k - 1 := ⟨_, rfl⟩
     have ey : (k : Int) - 1 = (y : Int) := by omega
     have wy : IntKind.i64.wrap ((k : Int) - 1) = (y : Int) := by rw [ey, IntKind.wrap_i64]; omega
     have wy2 : IntKind.i64.wrap (y : Int) = (y : Int) := by rw [IntKind.wrap_i64]; omega
     have i1 : (0 : Int) ≤ (k : Int) := by omega
     have i2 : (k : Int) < (n : Int) := by omega
     have i3 : (0 : Int) ≤ (y : Int) := by omega
     have i4 : (y : Int) < (n : Int) := by omega
     have b1 : (-9223372036854775808 : Int) ≤ (k : Int) - 1 := by omega
     have b2 : (k : Int) - 1 ≤ 9223372036854775807 := by omega
     have HY : Hid (k = y + 1) := hid (by omega)
     obtain ⟨Q, hQ⟩ : ∃ Q, Hid (Q = fun x => p (rot k m (m + 1) x)) := ⟨_, hid rfl⟩
     rw [← hQ.out] at hw3;have hyb : y < n ∧ j ≤ y := by omega
     clear hy;go_wp2_with fail;refine wp_region_held_drew (S := fun _ => True) (by kernel_rfl) trivial (fun hHeld => ?_)
     have KD2 : Kp [] wr wr.drew := (Kp.refl [] wr).drew
     have hd2 := hw3.out.1.kept KD2
     have hk2 := hid (hw3.out.2.trans KD2 (by simp))
     generalize wr.drew = Wd2 at *
     clear KD2 hw3;obtain ⟨⟨x0, x1⟩, fx0, fx1⟩ := hd2.cells k (by omega)
     obtain ⟨⟨y0, y1⟩, fy0, fy1⟩ := hd2.cells y (by omega)
     have hsw := hd2.swap k y (by omega) (by omega)
     have hpc := put4_cellsG hd2 k y (by omega) (by omega)
     obtain ⟨U1, hU1⟩ : ∃ V, V = A (Q k) := ⟨_, rfl⟩
     obtain ⟨U2, hU2⟩ : ∃ V, V = A (Q y) := ⟨_, rfl⟩
     rw [← hU1] at x0 x1 hsw;rw [← hU2] at y0 y1 hsw;replace hpc := hpc U2
     obtain ⟨⟨u0, hu0⟩, gu0⟩ := hpc 0 (by omega)
     obtain ⟨⟨u1, hu1⟩, gu1⟩ := hpc 1 (by omega)
     simp only [Nat.add_zero] at hu0 gu0;obtain ⟨W1, eW1⟩ : ∃ Y, ((Wd2.setCell ⟨g, o + k * 2, none⟩ (.slice U2.k.a U2.k.l.length U2.k.c)).setCell ⟨g, o + k * 2 + 1, none⟩ (.slice U2.r.a U2.r.l.length U2.r.c)) = Y := ⟨_, rfl⟩
     have eP1 : put4G Wd2 g (o + k * 2) U2 = W1 := eW1
     obtain ⟨W2, eW2⟩ : ∃ Y, ((W1.setCell ⟨g, o + y * 2, none⟩ (.slice U1.k.a U1.k.l.length U1.k.c)).setCell ⟨g, o + y * 2 + 1, none⟩ (.slice U1.r.a U1.r.l.length U1.r.c)) = Y := ⟨_, rfl⟩
     have eP2 : put4G W1 g (o + y * 2) U1 = W2 := eW2
     have kP1 : Kp [g] Wd2 W1 := by rw [← eP1]; exact put4_kpG _ _ _ _
     have kP2 : Kp [g] W1 W2 := by rw [← eP2]; exact put4_kpG _ _ _ _
     simp only [eP1] at hu0 hu1 gu0 gu1 hsw;simp only [eP2] at hsw;have zW1 := kP1.size
     have HSW := hid (And.intro hsw (kP1.trans kP2 (by simp)))
     have zg : g < Wd2.heap.size := hd2.lt
     have zg1 : g < W1.heap.size := by omega
     clear hpc hsw eP1 eP2 kP1 kP2 hU1 hU2 zW1;obtain ⟨⟨ka3, kc3, kl3⟩, ⟨ra3, rc3, rl3⟩⟩ := U1;obtain ⟨⟨ka4, kc4, kl4⟩, ⟨ra4, rc4, rl4⟩⟩ := U2;dsimp only at *
     have hfin2 : Hid (HdG W2 g o n cap A (fun x => p (rot y m (m + 1) x)) ∧ Kp [g] w W2) := hid ⟨by
      have := HSW.out.1
      rw [hQ.out] at this;have e := HY.out
      rw [rot_pull y m (by omega), ← e]
      exact this, hk2.out.trans HSW.out.2 (by simp)⟩
     have hky : y < k ∧ y ≤ m := by have := HY.out; omega
     clear hd2 HSW hk2;refine tkH ?_ 0 rfl (by kernel_rfl) (fun _ _ _ h => h) (by rfl) ?_ ‹_› ?_;rotate_left
     ·intro w h; (try dsimp only at h); go_simp <;> with_reducible rfl
     (try simp only [Act.put, lz]);refine tkH ?_ 1 rfl (by kernel_rfl) (fun _ _ _ h => h) (by rfl) ?_ ‹_› ?_;rotate_left
     ·intro w h; (try dsimp only at h); go_simp <;> with_reducible rfl
     (try simp only [Act.put, lz]);refine tkH ?_ 2 rfl (by kernel_rfl) (fun _ _ _ h => h) (by rfl) ?_ ‹_› ?_;rotate_left
     ·intro w h; (try dsimp only at h); go_simp <;> with_reducible rfl
     (try simp only [Act.put, lz]);refine tkH ?_ 3 rfl (by kernel_rfl) (fun _ _ _ h => h) (by rfl) ?_ ‹_› ?_;rotate_left
     ·intro w h; (try dsimp only at h); go_simp <;> with_reducible rfl
     (try simp only [Act.put, lz]);refine tkH ?_ 4 rfl (by kernel_rfl) (fun _ _ _ h => h) (by rfl) ?_ ‹_› ?_;rotate_left
     ·intro w hSw; (try dsimp only at hSw); go_simp <;> (try simp only [wy, wy2]) <;> with_reducible rfl
     (try simp only [Act.put, lz]);try simp only [wy, wy2]
     refine tkH ?_ 5 rfl (by kernel_rfl) (fun _ _ _ h => h) (by rfl) ?_ ‹_› ?_;rotate_left
     ·intro w h; (try dsimp only at h); go_simp <;> with_reducible rfl
     (try simp only [Act.put, lz]);refine tkH ?_ 6 rfl (by kernel_rfl) (fun _ _ _ h => h) (by rfl) ?_ ‹_› ?_;rotate_left
     ·intro w h; (try dsimp only at h); go_simp <;> with_reducible rfl
     (try simp only [Act.put, lz]);refine tkH ?_ 7 rfl (by kernel_rfl) (fun _ _ _ h => h) (by rfl) ?_ ‹_› ?_;rotate_left
     ·intro w hSw; (try dsimp only at hSw); go_simp <;> (try simp only [wy, wy2]) <;> with_reducible rfl
     (try simp only [Act.put, lz]);try simp only [wy, wy2]
     refine tkH ?_ 8 rfl (by kernel_rfl) (fun _ _ _ h => h) (by rfl) ?_ ‹_› ?_;rotate_left
     ·intro w h; (try dsimp only at h); go_simp <;> with_reducible rfl
     (try simp only [Act.put, lz]);refine tkH ?_ 10 rfl (by kernel_rfl) (fun _ _ _ h => h) (by rfl) ?_ ‹_› ?_;rotate_left
     ·intro w h; (try dsimp only at h); go_simp <;> with_reducible rfl
     (try simp only [Act.put, lz]);refine tkH ?_ 11 rfl (by kernel_rfl) (fun _ _ _ h => h) (by rfl) ?_ ‹_› ?_;rotate_left
     ·intro w h; (try dsimp only at h); go_simp <;> with_reducible rfl
     (try simp only [Act.put, lz]);refine tkH ?_ 12 rfl (by kernel_rfl) (fun _ _ _ h => h) (by rfl) ?_ ‹_› ?_;rotate_left
     ·intro w h; (try dsimp only at h); go_simp <;> with_reducible rfl
     (try simp only [Act.put, lz]);refine wpAnyH_ready (rs := [9, 13]) (by kernel_rfl) (by simp) ?_
     refine AllReadyH.cons rfl (fun K hK => ?_) (AllReadyH.cons rfl (fun K hK => ?_) AllReadyH.nil)
     ·go_simp
      (try go_wp2_with fail);refine hK.out _ _ trivial (fun hHeld => ?_)
      clear hK K;(try simp only [Act.put, lz]);refine rdH 13 (by kernel_rfl) rfl fun K hK => ?_
      go_simp;(try go_wp2_with fail);refine hK.out _ _ trivial (fun hHeld => ?_)
      clear hK K;(try simp only [Act.put, lz]);refine tkH ?_ 14 rfl (by kernel_rfl) (fun _ _ _ h => h) (by rfl) ?_ ‹_› ?_;rotate_left
      ·intro w h; (try dsimp only at h); go_simp <;> with_reducible rfl
      (try simp only [Act.put, lz]);refine rdH 15 (by kernel_rfl) rfl fun K hK => ?_
      go_simp;(try go_wp2_with fail);refine hK.out _ _ trivial (fun hHeld => ?_)
      clear hK K;(try simp only [Act.put, lz]);refine tkH ?_ 16 rfl (by kernel_rfl) (fun _ _ _ h => h) (by rfl) ?_ ‹_› ?_;rotate_left
      ·intro w h; (try dsimp only at h); go_simp <;> with_reducible rfl
      (try simp only [Act.put, lz]);refine rdH 17 (by kernel_rfl) rfl fun K hK => ?_
      go_simp;(try go_wp2_with fail);refine hK.out _ _ trivial (fun hHeld => ?_)
      clear hK K;(try simp only [Act.put, lz]);refine wpAnyH_done (by kernel_rfl) ?_ _
      clear hHeld;go_wp2_with fail;exact ⟨⟨y, by omega, by go_num, hfin2⟩, by simp [intOf]; omega⟩
     ·go_simp
      (try go_wp2_with fail);refine hK.out _ _ trivial (fun hHeld => ?_)
      clear hK K;(try simp only [Act.put, lz]);refine rdH 9 (by kernel_rfl) rfl fun K hK => ?_
      go_simp;(try go_wp2_with fail);refine hK.out _ _ trivial (fun hHeld => ?_)
      clear hK K;(try simp only [Act.put, lz]);refine tkH ?_ 14 rfl (by kernel_rfl) (fun _ _ _ h => h) (by rfl) ?_ ‹_› ?_;rotate_left
      ·intro w h; (try dsimp only at h); go_simp <;> with_reducible rfl
      (try simp only [Act.put, lz]);refine rdH 15 (by kernel_rfl) rfl fun K hK => ?_
      go_simp;(try go_wp2_with fail);refine hK.out _ _ trivial (fun hHeld => ?_)
      clear hK K;(try simp only [Act.put, lz]);refine tkH ?_ 16 rfl (by kernel_rfl) (fun _ _ _ h => h) (by rfl) ?_ ‹_› ?_;rotate_left
      ·intro w h; (try dsimp only at h); go_simp <;> with_reducible rfl
      (try simp only [Act.put, lz]);refine rdH 17 (by kernel_rfl) rfl fun K hK => ?_
      go_simp;(try go_wp2_with fail);refine hK.out _ _ trivial (fun hHeld => ?_)
      clear hK K;(try simp only [Act.put, lz]);refine wpAnyH_done (by kernel_rfl) ?_ _
      clear hHeld;go_wp2_with fail;exact ⟨⟨y, by omega, by go_num, hfin2⟩, by simp [intOf]; omega⟩
    ·have d1 : decide ((j : Int) < (k : Int)) = false := by simp; omega
     have d2 : ¬ ((j : Int) < (k : Int)) := by omega
     have ek : k = j := by omega
     subst ek;go_wp2_with fail;refine bodyPost_ret (results_none rfl _ _ _) rfl ?_;exact ⟨⟨_, rfl⟩, _, hfin.out.1, hfin.out.2, hw3.out.1, hw3.out.2⟩
theorem cSymC1G (g o n cap : Nat) (A : Nat → Mb) (cv : Value) (cf : Nat → Nat → Int) (Inv : World → Prop) (hC : CmpOkG g n A cv cf Inv) (p : Nat → Nat) (a m b : Nat) (w : World) (h : HdG w g o n cap A p) (hI : Inv w) (hpn : ∀ k, k < n → p k < n) (h1 : a < m) (h2 : m < b) (h3 : b ≤ n) (hA : Srt (fun x y => cf x y < 0) p a m) (hB : Srt (fun x y => cf x y < 0) p m b) (hLo : Low p a m b) (hn : n ≤ 4000000000000) (hcap : n ≤ cap) (hma : a + 1 < m) (hmb : m + 1 < b) (hk : a + b < 2 * m) (IH : ∀ (p' : Nat → Nat) (a' m' b' : Nat) (w' : World), b' - a' < b - a → HdG w' g o n cap A p' → Inv w' → (∀ k, k < n → p' k < n) → a' < m' → m' < b' → b' ≤ n → Srt (fun x y => cf x y < 0) p' a' m' → Srt (fun x y => cf x y < 0) p' m' b' → Low p' a' m' b' → Calls Tryz.prog 185 #[.slice (some ⟨g, o, none⟩) n cap, .int .i64 (a' : Int), .int .i64 (m' : Int), .int .i64 (b' : Int), .func (.func 166) #[] #[]] w' fun e u => (∃ v, e = .returned v) ∧ ∃ s, PermIn a' b' s ∧ Srt (fun x y => cf x y < 0) (fun k => p' (s k)) a' b' ∧ HdG u g o n cap A (fun k => p' (s k)) ∧ Kp [g] w' u) : Calls Tryz.prog 185 #[.slice (some ⟨g, o, none⟩) n cap, .int .i64 (a : Int), .int .i64 (m : Int), .int .i64 (b : Int), .func (.func 166) #[] #[]] w fun e w' => (∃ v, e = .returned v) ∧ ∃ s, PermIn a b s ∧ Srt (fun x y => cf x y < 0) (fun k => p (s k)) a b ∧ HdG w' g o n cap A (fun k => p (s k)) ∧ Kp [g] w w' := by
 have HC := hid hC
 have HI := hid hI
 have HH := hid h
 have HPN := hid hpn
 have HSR := hid (And.intro hA (And.intro hB hLo))
 have q1 : (-9223372036854775808 : Int) ≤ (m : Int) - (a : Int) := by omega
 have q2 : (m : Int) - (a : Int) ≤ 9223372036854775807 := by omega
 clear hC hI h hpn hA hB hLo;have HIH := hid IH
 clear IH;have hm1 : ((m : Int) - (a : Int) == 1) = false := by simp; omega
 have hm2 : ¬ ((m : Int) - (a : Int) = 1) := by omega
 have hb1 : ((b : Int) - (m : Int) == 1) = false := by simp; omega
 have hb2 : ¬ ((b : Int) - (m : Int) = 1) := by omega
 have q3 : (-9223372036854775808 : Int) ≤ (b : Int) - (m : Int) := by omega
 have q4 : (b : Int) - (m : Int) ≤ 9223372036854775807 := by omega
 obtain ⟨t, ht⟩ : ∃ t : Nat, t = a + b := ⟨_, rfl⟩
 obtain ⟨mid, hmid⟩ : ∃ h : Nat, h = t / 2 := ⟨_, rfl⟩
 have et : (a : Int) + (b : Int) = (t : Int) := by omega
 have et1 : (-9223372036854775808 : Int) ≤ (a : Int) + (b : Int) := by omega
 have et2 : (a : Int) + (b : Int) ≤ 9223372036854775807 := by omega
 have et3 : (0 : Int) ≤ (t : Int) := by omega
 have et4 : (t : Int) ≤ 9223372036854775807 := by omega
 have et5 : (t : Int) < 18446744073709551616 := by omega
 have eh : (t : Int) / 2 = (mid : Int) := by omega
 have eh2 : (mid : Int) ≤ 9223372036854775807 := by omega
 have eu : IntKind.u64.wrap (t : Int) = (t : Int) := by rw [IntKind.wrap_u64]; omega
 have ew : IntKind.i64.wrap (mid : Int) = (mid : Int) := by rw [IntKind.wrap_i64]; omega
 have ewt : IntKind.i64.wrap (t : Int) = (t : Int) := by rw [IntKind.wrap_i64]; omega
 have hmid1 : 2 * mid ≤ a + b := by omega
 have hmid2 : a + b ≤ 2 * mid + 1 := by omega
 obtain ⟨N, hN⟩ : ∃ N : Nat, N = mid + m := ⟨_, rfl⟩
 obtain ⟨PP, hPP⟩ : ∃ P : Nat, P = N - 1 := ⟨_, rfl⟩
 have eN : (mid : Int) + (m : Int) = (N : Int) := by omega
 have eN1 : (-9223372036854775808 : Int) ≤ (mid : Int) + (m : Int) := by omega
 have eN2 : (mid : Int) + (m : Int) ≤ 9223372036854775807 := by omega
 have eP : (N : Int) - 1 = (PP : Int) := by omega
 have eP1 : (-9223372036854775808 : Int) ≤ (N : Int) - 1 := by omega
 have eP2 : (N : Int) - 1 ≤ 9223372036854775807 := by omega
 have hN1 : N ≤ mid + m := by omega
 have hN2 : mid + m ≤ N := by omega
 have hPP1 : PP + 1 ≤ N := by omega
 have hPP2 : N ≤ PP + 1 := by omega
 obtain ⟨lo, hlo⟩ : ∃ l : Nat, l = N - b := ⟨_, rfl⟩
 have eL : (N : Int) - (b : Int) = (lo : Int) := by omega
 have eL1 : (-9223372036854775808 : Int) ≤ (N : Int) - (b : Int) := by omega
 have eL2 : (N : Int) - (b : Int) ≤ 9223372036854775807 := by omega
 have hlo1 : lo + b ≤ N := by omega
 have hlo2 : N ≤ lo + b := by omega
 have dg : decide ((mid : Int) < (m : Int)) = true := by simp; omega
 have dg2 : (mid : Int) < (m : Int) := by omega
 clear hlo;have HT := hid (And.intro ht hmid)
 clear ht hmid hN hPP;go_enter Tryz.func185, Tryz.ntmps185
 go_wp2_with fail;clear q1 q2 q3 q4 hm1 hm2 hb1 hb2 et et1 et2 et3 et4 et5 eh eh2 eu ew ewt eN eN1 eN2 eP eP1 eP2 dg dg2 eL eL1 eL2 HT;go_loopw [20, 21, 23] (fun sv rv _ wr => ∃ s r : Nat, (lo ≤ s ∧ s ≤ r ∧ r ≤ mid) ∧ sv = .int .i64 (s : Int) ∧ rv = .int .i64 (r : Int) ∧ Hid ((s = lo ∨ 0 ≤ cf (p (N - s)) (p (s - 1))) ∧ (r = mid ∨ cf (p (N - 1 - r)) (p r) < 0)) ∧ Hid (HdG wr g o n cap A p ∧ Kp [g] w wr)) (fun sv rv _ _ => (intOf rv).toNat - (intOf sv).toNat)
 case atStart => exact ⟨lo, mid, by omega, rfl, rfl, hid ⟨.inl rfl, .inl rfl⟩, hid ⟨HH.out, Kp.refl _ _⟩⟩
 case round =>
  obtain ⟨s, r, ⟨bs, bsr, br⟩, rfl, rfl, hs, hw⟩ := hrel
  by_cases hsr : s < r
  ·have i0 : (s : Int) < (r : Int) := by omega
   obtain ⟨t, ht⟩ : ∃ t : Nat, t = s + r := ⟨_, rfl⟩
   obtain ⟨c, hc⟩ : ∃ h : Nat, h = t / 2 := ⟨_, rfl⟩
   have et : (s : Int) + (r : Int) = (t : Int) := by omega
   have et1 : (-9223372036854775808 : Int) ≤ (s : Int) + (r : Int) := by omega
   have et2 : (s : Int) + (r : Int) ≤ 9223372036854775807 := by omega
   have et3 : (0 : Int) ≤ (t : Int) := by omega
   have et4 : (t : Int) ≤ 9223372036854775807 := by omega
   have et5 : (t : Int) < 18446744073709551616 := by omega
   have eh : (t : Int) / 2 = (c : Int) := by omega
   have eh2 : (c : Int) ≤ 9223372036854775807 := by omega
   have eu : IntKind.u64.wrap (t : Int) = (t : Int) := by rw [IntKind.wrap_u64]; omega
   have ew : IntKind.i64.wrap (c : Int) = (c : Int) := by rw [IntKind.wrap_i64]; omega
   have ewt : IntKind.i64.wrap (t : Int) = (t : Int) := by rw [IntKind.wrap_i64]; omega
   have hcb : s ≤ c ∧ c < r := by omega
   have HT := hid (And.intro ht hc)
   clear ht hc;obtain ⟨x, hx⟩ : ∃ x : Nat, x = PP - c := ⟨_, rfl⟩
   have ex : (PP : Int) - (c : Int) = (x : Int) := by omega
   have wx : IntKind.i64.wrap ((PP : Int) - (c : Int)) = (x : Int) := by rw [ex, IntKind.wrap_i64]; omega
   have wx2 : IntKind.i64.wrap (x : Int) = (x : Int) := by rw [IntKind.wrap_i64]; omega
   have hxn : x < n := by omega
   have i1 : (0 : Int) ≤ (c : Int) := by omega
   have i2 : (c : Int) < (n : Int) := by omega
   have i3 : (0 : Int) ≤ (x : Int) := by omega
   have i4 : (x : Int) < (n : Int) := by omega
   have i5 : (c : Int) + 1 ≤ 9223372036854775807 := by omega
   have HX : Hid (x = N - 1 - c ∧ x = N - (c + 1)) := hid (by omega)
   clear hx;have cC := hid (fun W' (k : Kp [] wr W') => HC.out.calls W' (p x) (p c) (HC.out.keep _ _ HI.out (hw.out.2.trans k (by simp))) (HPN.out _ (by omega)) (HPN.out _ (by omega)))
   obtain ⟨⟨x0, x1⟩, _⟩ := hw.out.1.cells x (by omega)
   obtain ⟨⟨y0, y1⟩, _⟩ := hw.out.1.cells c (by omega)
   obtain ⟨V1, hV1⟩ : ∃ V, Hid (V = A (p x)) := ⟨_, hid rfl⟩
   obtain ⟨V2, hV2⟩ : ∃ V, Hid (V = A (p c)) := ⟨_, hid rfl⟩
   rw [← hV1.out] at x0 x1 cC;rw [← hV2.out] at y0 y1 cC;obtain ⟨C, hCf⟩ : ∃ C, Hid (cf (p x) (p c) = C) := ⟨_, hid rfl⟩
   rw [hCf.out] at cC;obtain ⟨⟨ka1, kc1, kl1⟩, ⟨ra1, rc1, rl1⟩⟩ := V1;obtain ⟨⟨ka2, kc2, kl2⟩, ⟨ra2, rc2, rl2⟩⟩ := V2;simp only [Mb.v] at cC;dsimp only at *;have hF : Hid (∀ W', Kp [] wr W' → (W'.cell? ⟨g, o + x * 2, none⟩ = some (.slice ka1 kl1.length kc1) ∧ W'.cell? ⟨g, o + x * 2 + 1, none⟩ = some (.slice ra1 rl1.length rc1) ∧ W'.cell? ⟨g, o + c * 2, none⟩ = some (.slice ka2 kl2.length kc2) ∧ W'.cell? ⟨g, o + c * 2 + 1, none⟩ = some (.slice ra2 rl2.length rc2))) := fun W' k => ⟨kpAt k x0, kpAt k x1, kpAt k y0, kpAt k y1⟩
   clear x0 x1 y0 y1 hV1 hV2;go_wp2_with fail;refine wp_region_held_drew (S := fun W' => W'.cell? ⟨g, o + x * 2, none⟩ = some (.slice ka1 kl1.length kc1) ∧ W'.cell? ⟨g, o + x * 2 + 1, none⟩ = some (.slice ra1 rl1.length rc1) ∧ W'.cell? ⟨g, o + c * 2, none⟩ = some (.slice ka2 kl2.length kc2) ∧ W'.cell? ⟨g, o + c * 2 + 1, none⟩ = some (.slice ra2 rl2.length rc2)) (by kernel_rfl) ?_ (fun hHeld => ?_)
   ·exact hF.out _ (Kp.refl [] wr).drew
   have KD : Hid (Kp [] wr wr.drew) := hid (Kp.refl [] wr).drew
   generalize wr.drew = Wd at *
   refine tkH ?_ 0 rfl (by kernel_rfl) (fun _ _ _ h => h) (by rfl) ?_ ‹_› ?_;rotate_left
   ·intro w h; (try dsimp only at h); go_simp <;> with_reducible rfl
   (try simp only [Act.put, lz]);refine tkH ?_ 1 rfl (by kernel_rfl) (fun _ _ _ h => h) (by rfl) ?_ ‹_› ?_;rotate_left
   ·intro w h; (try dsimp only at h); go_simp <;> with_reducible rfl
   (try simp only [Act.put, lz]);refine tkH ?_ 2 rfl (by kernel_rfl) (fun _ _ _ h => h) (by rfl) ?_ ‹_› ?_;rotate_left
   ·intro w h; (try dsimp only at h); go_simp <;> with_reducible rfl
   (try simp only [Act.put, lz]);refine tkH ?_ 3 rfl (by kernel_rfl) (fun _ _ _ h => h) (by rfl) ?_ ‹_› ?_;rotate_left
   ·intro w h; (try dsimp only at h); go_simp <;> with_reducible rfl
   (try simp only [Act.put, lz]);refine tkH ?_ 4 rfl (by kernel_rfl) (fun _ _ _ h => h) (by rfl) ?_ ‹_› ?_;rotate_left
   ·intro w hSw; (try dsimp only at hSw); go_simp <;> (try simp only [wx, wx2]) <;> with_reducible rfl
   (try simp only [Act.put, lz]);try simp only [wx, wx2]
   refine tkH ?_ 5 rfl (by kernel_rfl) (fun _ _ _ h => h) (by rfl) ?_ ‹_› ?_;rotate_left
   ·intro w h; (try dsimp only at h); go_simp <;> with_reducible rfl
   (try simp only [Act.put, lz]);refine tkH ?_ 6 rfl (by kernel_rfl) (fun _ _ _ h => h) (by rfl) ?_ ‹_› ?_;rotate_left
   ·intro w h; (try dsimp only at h); go_simp <;> with_reducible rfl
   (try simp only [Act.put, lz]);refine tkH ?_ 7 rfl (by kernel_rfl) (fun _ _ _ h => h) (by rfl) ?_ ‹_› ?_;rotate_left
   ·intro w h; (try dsimp only at h); go_simp <;> with_reducible rfl
   (try simp only [Act.put, lz]);refine tkH ?_ 8 rfl (by kernel_rfl) (fun _ _ _ h => h) (by rfl) ?_ ‹_› ?_;rotate_left
   ·intro w h; (try dsimp only at h); go_simp <;> with_reducible rfl
   (try simp only [Act.put, lz]);refine tkH ?_ 9 rfl (by kernel_rfl) (fun _ _ _ h => h) (by rfl) ?_ ‹_› ?_;rotate_left
   ·intro w h; (try dsimp only at h); go_simp <;> with_reducible rfl
   (try simp only [Act.put, lz]);refine tkH ?_ 10 rfl (by kernel_rfl) (fun _ _ _ h => h) (by rfl) ?_ ‹_› ?_;rotate_left
   ·intro w h; (try dsimp only at h); go_simp <;> with_reducible rfl
   (try simp only [Act.put, lz]);refine rdH 11 (by kernel_rfl) rfl fun K hK => ?_
   go_simp;refine (cC.out Wd KD.out).mono ?_;rintro e u1 ⟨rfl, l1'⟩;(try go_wp2_with fail);refine hK.out _ _ ?_ (fun hHeld => ?_)
   ·exact hF.out _ (KD.out.trans l1' (by simp))
   clear hK K;(try simp only [Act.put, lz]);have K1 := hid (KD.out.trans l1' (by simp))
   clear l1' KD;have hw1 : Hid (HdG u1 g o n cap A p ∧ Kp [g] w u1) := hid ⟨hw.out.1.kept K1.out, hw.out.2.trans K1.out (by simp)⟩
   by_cases hc0 : C < 0
   ·have dc : decide (C < 0) = true := by simpa using hc0
    refine tkH ?_ 12 rfl (by kernel_rfl) (fun _ _ _ h => h) (by rfl) ?_ ‹_› ?_;rotate_left
    ·intro w hSw; (try dsimp only at hSw); go_simp <;> (try simp only [dc]) <;> with_reducible rfl
    (try simp only [Act.put, lz]);try simp only [dc]
    refine tkH ?_ 13 rfl (by kernel_rfl) (fun _ _ _ h => h) (by rfl) ?_ ‹_› ?_;rotate_left
    ·intro w h; (try dsimp only at h); go_simp <;> with_reducible rfl
    (try simp only [Act.put, lz]);try simp only [Bool.not_true, Bool.not_false]
    refine wpAnyH_done (by kernel_rfl) ?_ _
    have hs2 : Hid ((s = lo ∨ 0 ≤ cf (p (N - s)) (p (s - 1))) ∧ (c = mid ∨ cf (p (N - 1 - c)) (p c) < 0)) := hid ⟨hs.out.1, .inr (by rw [← HX.out.1, hCf.out]; exact hc0)⟩
    clear hHeld hF cC hs hw hc0;go_wp2_with fail;exact ⟨⟨s, c, by omega, rfl, rfl, hs2, hw1⟩, by simp [intOf]; omega⟩
   ·have dc : decide (C < 0) = false := by simpa using hc0
    refine tkH ?_ 12 rfl (by kernel_rfl) (fun _ _ _ h => h) (by rfl) ?_ ‹_› ?_;rotate_left
    ·intro w hSw; (try dsimp only at hSw); go_simp <;> (try simp only [dc]) <;> with_reducible rfl
    (try simp only [Act.put, lz]);try simp only [dc]
    refine tkH ?_ 13 rfl (by kernel_rfl) (fun _ _ _ h => h) (by rfl) ?_ ‹_› ?_;rotate_left
    ·intro w h; (try dsimp only at h); go_simp <;> with_reducible rfl
    (try simp only [Act.put, lz]);try simp only [Bool.not_true, Bool.not_false]
    refine wpAnyH_done (by kernel_rfl) ?_ _
    have hs2 : Hid ((c + 1 = lo ∨ 0 ≤ cf (p (N - (c + 1))) (p (c + 1 - 1))) ∧ (r = mid ∨ cf (p (N - 1 - r)) (p r) < 0)) := hid ⟨.inr (by rw [Nat.add_sub_cancel, ← HX.out.2, hCf.out]; omega), hs.out.2⟩
    clear hHeld hF cC hs hw hc0;go_wp2_with fail;exact ⟨⟨c + 1, r, by omega, by go_num, rfl, hs2, hw1⟩, by simp [intOf]; omega⟩
  ·have er : r = s := by omega
   subst er;rename_i s_
   obtain ⟨s, hss⟩ : ∃ s : Nat, s = r := ⟨_, rfl⟩
   subst hss;obtain ⟨e, he⟩ : ∃ e : Nat, e = N - s := ⟨_, rfl⟩
   have eE : (N : Int) - (s : Int) = (e : Int) := by omega
   have eE1 : (-9223372036854775808 : Int) ≤ (N : Int) - (s : Int) := by omega
   have eE2 : (N : Int) - (s : Int) ≤ 9223372036854775807 := by omega
   have heb : m ≤ e ∧ e ≤ b ∧ s ≤ mid ∧ s ≤ m ∧ a ≤ s := by omega
   have hem : Hid (mid = s + (e - m)) := hid (by omega)
   have hmb2 : mid < b ∧ a < mid ∧ mid ≤ e := by omega
   have SP := hid (sym_parts HC.out.swo (p := p) heb.2.2.2.2 heb.2.2.2.1 heb.1 heb.2.1 hem.out HSR.out.1 HSR.out.2.1 HSR.out.2.2 (fun g1 g2 => by
    rcases hs.out.2 with h5 | h5
    ·omega
    ·rw [show e - 1 = N - 1 - s by omega]; exact h5) (fun g1 g2 => by
    rcases hs.out.1 with h5 | h5
    ·omega
    ·rw [he]; exact Int.not_lt.2 h5))
   clear he hem hs;go_upto_region 39 with fail
   go_cut [185] from 178 to 186 (fun v wx => ∃ B : Bool, v = .bool B ∧ Hid (B = decide (s < m ∧ m < e)) ∧ wx = wr)
   case first =>
    by_cases c1 : s < m
    ·have d1 : decide ((s : Int) < (m : Int)) = true := by simp; omega
     have d1n : decide (s < m) = true := by simp; omega
     by_cases c2 : m < e
     ·have d2 : decide ((m : Int) < (e : Int)) = true := by simp; omega
      have d2n : decide (m < e) = true := by simp; omega
      go_wp2_with fail;go_meet
      case rel => exact ⟨true, rfl, hid (by simp [c1, c2]), rfl⟩
     ·have d2 : decide ((m : Int) < (e : Int)) = false := by simp; omega
      have d2n : decide (m < e) = false := by simp; omega
      go_wp2_with fail;go_meet
      case rel => exact ⟨false, rfl, hid (by simp; omega), rfl⟩
    ·have d1 : decide ((s : Int) < (m : Int)) = false := by simp; omega
     have d1n : decide (s < m) = false := by simp; omega
     go_wp2_with fail;go_meet
     case rel => exact ⟨false, rfl, hid (by simp; omega), rfl⟩
   case rest =>
    obtain ⟨B, rfl, hB, rfl⟩ := hcut;go_upto_if 185 with fail
    go_cut [] from 186 to 192 (fun wx => Hid (HdG wx g o n cap A (fun k => p (rot s m e k)) ∧ Kp [g] w wx))
    case first =>
     cases B with
     | true =>
      have c12 : s < m ∧ m < e := of_decide_eq_true hB.out.symm
      have cR := hid (cRotG g o n cap A p s m e (.func (.func 166) #[] #[]) wc hw.out.1 c12.1 c12.2 (by omega) hn hcap)
      clear c12;go_wp2_with fail;refine cR.out.mono ?_;rintro e' wt ⟨⟨v, rfl⟩, hd, kd⟩;have HR := hid (And.intro hd (hw.out.2.trans kd (by simp)))
      clear hd kd cR hw;go_wp2_with fail;go_meet
      case rel => exact HR
     | false =>
      have c12 : ¬ (s < m ∧ m < e) := of_decide_eq_false hB.out.symm
      have HR : Hid (HdG wc g o n cap A (fun k => p (rot s m e k)) ∧ Kp [g] w wc) := hid (by
       by_cases c1 : s < m
       ·rw [show e = m by omega, rot_right s m (by omega)]; exact hw.out
       ·rw [show s = m by omega, rot_left]; exact hw.out)
      clear c12;go_wp2_with fail;go_meet
      case rel => exact HR
    case rest =>
     have HR := hcut
     clear hcut hw hB;rename_i wr
     go_upto_region 41 with fail
     go_cut [199] from 192 to 200 (fun v wx => ∃ B : Bool, v = .bool B ∧ Hid (B = decide (a < s ∧ s < mid)) ∧ wx = wc)
     case first =>
      by_cases c3 : a < s
      ·have e1 : decide ((a : Int) < (s : Int)) = true := by simp; omega
       have e1n : decide (a < s) = true := by simp; omega
       by_cases c4 : s < mid
       ·have e2 : decide ((s : Int) < (mid : Int)) = true := by simp; omega
        have e2n : decide (s < mid) = true := by simp; omega
        go_wp2_with fail;go_meet
        case rel => exact ⟨true, rfl, hid (by simp [c3, c4]), rfl⟩
       ·have e2 : decide ((s : Int) < (mid : Int)) = false := by simp; omega
        have e2n : decide (s < mid) = false := by simp; omega
        go_wp2_with fail;go_meet
        case rel => exact ⟨false, rfl, hid (by simp; omega), rfl⟩
      ·have e1 : decide ((a : Int) < (s : Int)) = false := by simp; omega
       have e1n : decide (a < s) = false := by simp; omega
       go_wp2_with fail;go_meet
       case rel => exact ⟨false, rfl, hid (by simp; omega), rfl⟩
     case rest =>
      obtain ⟨B, rfl, hB, rfl⟩ := hcut;go_upto_if 199 with fail
      go_cut [] from 200 to 206 (fun wx => ∃ sa : Nat → Nat, Hid (PermIn a mid sa) ∧ Hid (Srt (fun x y => cf x y < 0) (fun k => p (rot s m e (sa k))) a mid) ∧ Hid (HdG wx g o n cap A (fun k => p (rot s m e (sa k))) ∧ Kp [g] w wx))
      case first =>
       cases B with
       | true =>
        have c34 : a < s ∧ s < mid := of_decide_eq_true hB.out.symm
        have cM1 := hid (HIH.out (fun k => p (rot s m e k)) a s mid wc (by omega) HR.out.1 (HC.out.keep _ _ HI.out HR.out.2) (fun k hk => HPN.out _ (((rot_perm (Nat.zero_le s) (by omega) (by omega) (by omega) : PermIn 0 n (rot s m e))).1 k (Nat.zero_le _) hk).2) c34.1 c34.2 (by omega) SP.out.1.1 SP.out.1.2.1 SP.out.1.2.2)
        clear c34;go_wp2_with fail;refine cM1.out.mono ?_;rintro e' wm ⟨⟨v, rfl⟩, sa, pa, sa', ha', ka⟩;have PA := hid pa
        have SA := hid sa'
        have HD := hid (And.intro ha' (HR.out.2.trans ka (by simp)))
        clear pa sa' ha' ka cM1 HR;go_wp2_with fail;go_meet
        case rel => exact ⟨sa, PA, SA, HD⟩
       | false =>
        have c34 : ¬ (a < s ∧ s < mid) := of_decide_eq_false hB.out.symm
        have SA : Hid (Srt (fun x y => cf x y < 0) (fun k => p (rot s m e k)) a mid) := hid (by
         by_cases c7 : s = a
         ·have := SP.out.1.2.1; rwa [c7] at this ⊢
         ·have c8 : s = mid := by omega
          have := SP.out.1.1; rw [c8] at this ⊢; exact this)
        clear c34;go_wp2_with fail;go_meet
        case rel => exact ⟨fun k => k, hid (PermIn.id _ _), SA, HR⟩
      case rest =>
       obtain ⟨sa, PA, SA, HD⟩ := hcut;clear HR hB;rename_i wr
       have hmx : Hid ((∀ k, mid ≤ k → p (rot s m e (sa k)) = p (rot s m e k))) := hid (fun k hk => by rw [PA.out.2.1 k (by omega)])
       by_cases c5 : mid < e
       ·have f1 : decide ((mid : Int) < (e : Int)) = true := by simp; omega
        have f1n : decide (mid < e) = true := by simp; omega
        by_cases c6 : e < b
        ·have f2 : decide ((e : Int) < (b : Int)) = true := by simp; omega
         have f2n : decide (e < b) = true := by simp; omega
         have cM := hid (HIH.out (fun k => p (rot s m e (sa k))) mid e b wc (by omega) HD.out.1 (HC.out.keep _ _ HI.out HD.out.2) (fun k hk => HPN.out _ (by
          have r1 := (rot_perm (lo := 0) (hi := n) (Nat.zero_le s) (by omega) (by omega) (by omega) : PermIn 0 n (rot s m e))
          have r2 := PA.out.mono (Nat.zero_le a) (show mid ≤ n by omega)
          exact (r1.1 _ (Nat.zero_le _) (r2.1 k (Nat.zero_le _) hk).2).2)) c5 c6 (by omega) (fun i j g1 g2 g3 => by
           show bef _ (p (rot s m e (sa i))) (p (rot s m e (sa j)))
           rw [hmx.out i (by omega), hmx.out j (by omega)]; exact SP.out.2.1.1 i j g1 g2 g3) (fun i j g1 g2 g3 => by
           show bef _ (p (rot s m e (sa i))) (p (rot s m e (sa j)))
           rw [hmx.out i (by omega), hmx.out j (by omega)]; exact SP.out.2.1.2.1 i j g1 g2 g3) (fun i j g1 g2 g3 g4 => by
           show p (rot s m e (sa i)) < p (rot s m e (sa j))
           rw [hmx.out i (by omega), hmx.out j (by omega)]; exact SP.out.2.1.2.2 i j g1 g2 g3 g4))
         have KX := hid HD.out.2
         clear c5 c6;go_wp2_with fail;refine cM.out.mono ?_;rintro e' wz ⟨⟨v, rfl⟩, t, pt, st, ht', kt⟩
         have hfin : Hid (PermIn a b (fun k => rot s m e (sa (t k))) ∧ Srt (fun x y => cf x y < 0) (fun k => p (rot s m e (sa (t k)))) a b ∧ HdG wz g o n cap A (fun k => p (rot s m e (sa (t k)))) ∧ Kp [g] w wz) := hid ⟨(rot_perm (by omega) (by omega) (by omega) (by omega)).comp ((PA.out.mono (Nat.le_refl _) (by omega)).comp (pt.mono (by omega) (Nat.le_refl _))), Srt.join (p := fun k => p (rot s m e k)) PA.out pt SA.out (fun i j g1 g2 g3 => by
          have h5 := st i j g1 g2 g3
          have h6 := pt.1 i g1 (by omega)
          have h7 := pt.1 j (by omega) g3
          simp only [hmx.out _ h6.1, hmx.out _ h7.1] at h5;exact h5) SP.out.2.2, ht', KX.out.trans kt (by simp)⟩
         clear pt st ht' kt KX;go_wp2_with fail;go_end0
         exact ⟨⟨_, rfl⟩, _, hfin.out.1, hfin.out.2.1, hfin.out.2.2.1, hfin.out.2.2.2⟩
        ·have f2 : decide ((e : Int) < (b : Int)) = false := by simp; omega
         have f2n : decide (e < b) = false := by simp; omega
         have sB : Srt (fun x y => cf x y < 0) (fun k => p (rot s m e k)) mid b := by
          by_cases c7 : e = mid
          ·rw [← c7]; exact SP.out.2.1.2.1
          ·have c8 : e = b := by omega
           rw [← c8]; exact SP.out.2.1.1
         have hfin : Hid (PermIn a b (fun k => rot s m e (sa k)) ∧ Srt (fun x y => cf x y < 0) (fun k => p (rot s m e (sa k))) a b) := hid ⟨(rot_perm (by omega) (by omega) (by omega) (by omega)).comp (PA.out.mono (Nat.le_refl _) (by omega)), Srt.join (p := fun k => p (rot s m e k)) PA.out (PermIn.id mid b) SA.out sB SP.out.2.2⟩
         clear sB c5;go_wp2_with fail;go_end0
         exact ⟨⟨_, rfl⟩, _, hfin.out.1, hfin.out.2, HD.out.1, HD.out.2⟩
       ·have f1 : decide ((mid : Int) < (e : Int)) = false := by simp; omega
        have f1n : decide (mid < e) = false := by simp; omega
        have sB : Srt (fun x y => cf x y < 0) (fun k => p (rot s m e k)) mid b := by
         by_cases c7 : e = mid
         ·rw [← c7]; exact SP.out.2.1.2.1
         ·have c8 : e = b := by omega
          rw [← c8]; exact SP.out.2.1.1
        have hfin : Hid (PermIn a b (fun k => rot s m e (sa k)) ∧ Srt (fun x y => cf x y < 0) (fun k => p (rot s m e (sa k))) a b) := hid ⟨(rot_perm (by omega) (by omega) (by omega) (by omega)).comp (PA.out.mono (Nat.le_refl _) (by omega)), Srt.join (p := fun k => p (rot s m e k)) PA.out (PermIn.id mid b) SA.out sB SP.out.2.2⟩
        clear sB c5;go_wp2_with fail;go_end0
        exact ⟨⟨_, rfl⟩, _, hfin.out.1, hfin.out.2, HD.out.1, HD.out.2⟩
theorem cSymC2G (g o n cap : Nat) (A : Nat → Mb) (cv : Value) (cf : Nat → Nat → Int) (Inv : World → Prop) (hC : CmpOkG g n A cv cf Inv) (p : Nat → Nat) (a m b : Nat) (w : World) (h : HdG w g o n cap A p) (hI : Inv w) (hpn : ∀ k, k < n → p k < n) (h1 : a < m) (h2 : m < b) (h3 : b ≤ n) (hA : Srt (fun x y => cf x y < 0) p a m) (hB : Srt (fun x y => cf x y < 0) p m b) (hLo : Low p a m b) (hn : n ≤ 4000000000000) (hcap : n ≤ cap) (hma : a + 1 < m) (hmb : m + 1 < b) (hk : 2 * m ≤ a + b) (IH : ∀ (p' : Nat → Nat) (a' m' b' : Nat) (w' : World), b' - a' < b - a → HdG w' g o n cap A p' → Inv w' → (∀ k, k < n → p' k < n) → a' < m' → m' < b' → b' ≤ n → Srt (fun x y => cf x y < 0) p' a' m' → Srt (fun x y => cf x y < 0) p' m' b' → Low p' a' m' b' → Calls Tryz.prog 185 #[.slice (some ⟨g, o, none⟩) n cap, .int .i64 (a' : Int), .int .i64 (m' : Int), .int .i64 (b' : Int), .func (.func 166) #[] #[]] w' fun e u => (∃ v, e = .returned v) ∧ ∃ s, PermIn a' b' s ∧ Srt (fun x y => cf x y < 0) (fun k => p' (s k)) a' b' ∧ HdG u g o n cap A (fun k => p' (s k)) ∧ Kp [g] w' u) : Calls Tryz.prog 185 #[.slice (some ⟨g, o, none⟩) n cap, .int .i64 (a : Int), .int .i64 (m : Int), .int .i64 (b : Int), .func (.func 166) #[] #[]] w fun e w' => (∃ v, e = .returned v) ∧ ∃ s, PermIn a b s ∧ Srt (fun x y => cf x y < 0) (fun k => p (s k)) a b ∧ HdG w' g o n cap A (fun k => p (s k)) ∧ Kp [g] w w' := by
 have HC := hid hC
 have HI := hid hI
 have HH := hid h
 have HPN := hid hpn
 have HSR := hid (And.intro hA (And.intro hB hLo))
 have q1 : (-9223372036854775808 : Int) ≤ (m : Int) - (a : Int) := by omega
 have q2 : (m : Int) - (a : Int) ≤ 9223372036854775807 := by omega
 clear hC hI h hpn hA hB hLo;have HIH := hid IH
 clear IH;have hm1 : ((m : Int) - (a : Int) == 1) = false := by simp; omega
 have hm2 : ¬ ((m : Int) - (a : Int) = 1) := by omega
 have hb1 : ((b : Int) - (m : Int) == 1) = false := by simp; omega
 have hb2 : ¬ ((b : Int) - (m : Int) = 1) := by omega
 have q3 : (-9223372036854775808 : Int) ≤ (b : Int) - (m : Int) := by omega
 have q4 : (b : Int) - (m : Int) ≤ 9223372036854775807 := by omega
 obtain ⟨t, ht⟩ : ∃ t : Nat, t = a + b := ⟨_, rfl⟩
 obtain ⟨mid, hmid⟩ : ∃ h : Nat, h = t / 2 := ⟨_, rfl⟩
 have et : (a : Int) + (b : Int) = (t : Int) := by omega
 have et1 : (-9223372036854775808 : Int) ≤ (a : Int) + (b : Int) := by omega
 have et2 : (a : Int) + (b : Int) ≤ 9223372036854775807 := by omega
 have et3 : (0 : Int) ≤ (t : Int) := by omega
 have et4 : (t : Int) ≤ 9223372036854775807 := by omega
 have et5 : (t : Int) < 18446744073709551616 := by omega
 have eh : (t : Int) / 2 = (mid : Int) := by omega
 have eh2 : (mid : Int) ≤ 9223372036854775807 := by omega
 have eu : IntKind.u64.wrap (t : Int) = (t : Int) := by rw [IntKind.wrap_u64]; omega
 have ew : IntKind.i64.wrap (mid : Int) = (mid : Int) := by rw [IntKind.wrap_i64]; omega
 have ewt : IntKind.i64.wrap (t : Int) = (t : Int) := by rw [IntKind.wrap_i64]; omega
 have hmid1 : 2 * mid ≤ a + b := by omega
 have hmid2 : a + b ≤ 2 * mid + 1 := by omega
 obtain ⟨N, hN⟩ : ∃ N : Nat, N = mid + m := ⟨_, rfl⟩
 obtain ⟨PP, hPP⟩ : ∃ P : Nat, P = N - 1 := ⟨_, rfl⟩
 have eN : (mid : Int) + (m : Int) = (N : Int) := by omega
 have eN1 : (-9223372036854775808 : Int) ≤ (mid : Int) + (m : Int) := by omega
 have eN2 : (mid : Int) + (m : Int) ≤ 9223372036854775807 := by omega
 have eP : (N : Int) - 1 = (PP : Int) := by omega
 have eP1 : (-9223372036854775808 : Int) ≤ (N : Int) - 1 := by omega
 have eP2 : (N : Int) - 1 ≤ 9223372036854775807 := by omega
 have hN1 : N ≤ mid + m := by omega
 have hN2 : mid + m ≤ N := by omega
 have hPP1 : PP + 1 ≤ N := by omega
 have hPP2 : N ≤ PP + 1 := by omega
 have dg : decide ((mid : Int) < (m : Int)) = false := by simp; omega
 have dg2 : ¬ ((mid : Int) < (m : Int)) := by omega
 have HT := hid (And.intro ht hmid)
 clear ht hmid hN hPP;go_enter Tryz.func185, Tryz.ntmps185
 go_wp2_with fail;clear q1 q2 q3 q4 hm1 hm2 hb1 hb2 et et1 et2 et3 et4 et5 eh eh2 eu ew ewt eN eN1 eN2 eP eP1 eP2 dg dg2 HT;go_loopw [20, 21, 23] (fun sv rv _ wr => ∃ s r : Nat, (a ≤ s ∧ s ≤ r ∧ r ≤ m) ∧ sv = .int .i64 (s : Int) ∧ rv = .int .i64 (r : Int) ∧ Hid ((s = a ∨ 0 ≤ cf (p (N - s)) (p (s - 1))) ∧ (r = m ∨ cf (p (N - 1 - r)) (p r) < 0)) ∧ Hid (HdG wr g o n cap A p ∧ Kp [g] w wr)) (fun sv rv _ _ => (intOf rv).toNat - (intOf sv).toNat)
 case atStart => exact ⟨a, m, by omega, rfl, rfl, hid ⟨.inl rfl, .inl rfl⟩, hid ⟨HH.out, Kp.refl _ _⟩⟩
 case round =>
  obtain ⟨s, r, ⟨bs, bsr, br⟩, rfl, rfl, hs, hw⟩ := hrel
  by_cases hsr : s < r
  ·have i0 : (s : Int) < (r : Int) := by omega
   obtain ⟨t, ht⟩ : ∃ t : Nat, t = s + r := ⟨_, rfl⟩
   obtain ⟨c, hc⟩ : ∃ h : Nat, h = t / 2 := ⟨_, rfl⟩
   have et : (s : Int) + (r : Int) = (t : Int) := by omega
   have et1 : (-9223372036854775808 : Int) ≤ (s : Int) + (r : Int) := by omega
   have et2 : (s : Int) + (r : Int) ≤ 9223372036854775807 := by omega
   have et3 : (0 : Int) ≤ (t : Int) := by omega
   have et4 : (t : Int) ≤ 9223372036854775807 := by omega
   have et5 : (t : Int) < 18446744073709551616 := by omega
   have eh : (t : Int) / 2 = (c : Int) := by omega
   have eh2 : (c : Int) ≤ 9223372036854775807 := by omega
   have eu : IntKind.u64.wrap (t : Int) = (t : Int) := by rw [IntKind.wrap_u64]; omega
   have ew : IntKind.i64.wrap (c : Int) = (c : Int) := by rw [IntKind.wrap_i64]; omega
   have ewt : IntKind.i64.wrap (t : Int) = (t : Int) := by rw [IntKind.wrap_i64]; omega
   have hcb : s ≤ c ∧ c < r := by omega
   have HT := hid (And.intro ht hc)
   clear ht hc;obtain ⟨x, hx⟩ : ∃ x : Nat, x = PP - c := ⟨_, rfl⟩
   have ex : (PP : Int) - (c : Int) = (x : Int) := by omega
   have wx : IntKind.i64.wrap ((PP : Int) - (c : Int)) = (x : Int) := by rw [ex, IntKind.wrap_i64]; omega
   have wx2 : IntKind.i64.wrap (x : Int) = (x : Int) := by rw [IntKind.wrap_i64]; omega
   have hxn : x < n := by omega
   have i1 : (0 : Int) ≤ (c : Int) := by omega
   have i2 : (c : Int) < (n : Int) := by omega
   have i3 : (0 : Int) ≤ (x : Int) := by omega
   have i4 : (x : Int) < (n : Int) := by omega
   have i5 : (c : Int) + 1 ≤ 9223372036854775807 := by omega
   have HX : Hid (x = N - 1 - c ∧ x = N - (c + 1)) := hid (by omega)
   clear hx;have cC := hid (fun W' (k : Kp [] wr W') => HC.out.calls W' (p x) (p c) (HC.out.keep _ _ HI.out (hw.out.2.trans k (by simp))) (HPN.out _ (by omega)) (HPN.out _ (by omega)))
   obtain ⟨⟨x0, x1⟩, _⟩ := hw.out.1.cells x (by omega)
   obtain ⟨⟨y0, y1⟩, _⟩ := hw.out.1.cells c (by omega)
   obtain ⟨V1, hV1⟩ : ∃ V, Hid (V = A (p x)) := ⟨_, hid rfl⟩
   obtain ⟨V2, hV2⟩ : ∃ V, Hid (V = A (p c)) := ⟨_, hid rfl⟩
   rw [← hV1.out] at x0 x1 cC;rw [← hV2.out] at y0 y1 cC;obtain ⟨C, hCf⟩ : ∃ C, Hid (cf (p x) (p c) = C) := ⟨_, hid rfl⟩
   rw [hCf.out] at cC;obtain ⟨⟨ka1, kc1, kl1⟩, ⟨ra1, rc1, rl1⟩⟩ := V1;obtain ⟨⟨ka2, kc2, kl2⟩, ⟨ra2, rc2, rl2⟩⟩ := V2;simp only [Mb.v] at cC;dsimp only at *;have hF : Hid (∀ W', Kp [] wr W' → (W'.cell? ⟨g, o + x * 2, none⟩ = some (.slice ka1 kl1.length kc1) ∧ W'.cell? ⟨g, o + x * 2 + 1, none⟩ = some (.slice ra1 rl1.length rc1) ∧ W'.cell? ⟨g, o + c * 2, none⟩ = some (.slice ka2 kl2.length kc2) ∧ W'.cell? ⟨g, o + c * 2 + 1, none⟩ = some (.slice ra2 rl2.length rc2))) := fun W' k => ⟨kpAt k x0, kpAt k x1, kpAt k y0, kpAt k y1⟩
   clear x0 x1 y0 y1 hV1 hV2;go_wp2_with fail;refine wp_region_held_drew (S := fun W' => W'.cell? ⟨g, o + x * 2, none⟩ = some (.slice ka1 kl1.length kc1) ∧ W'.cell? ⟨g, o + x * 2 + 1, none⟩ = some (.slice ra1 rl1.length rc1) ∧ W'.cell? ⟨g, o + c * 2, none⟩ = some (.slice ka2 kl2.length kc2) ∧ W'.cell? ⟨g, o + c * 2 + 1, none⟩ = some (.slice ra2 rl2.length rc2)) (by kernel_rfl) ?_ (fun hHeld => ?_)
   ·exact hF.out _ (Kp.refl [] wr).drew
   have KD : Hid (Kp [] wr wr.drew) := hid (Kp.refl [] wr).drew
   generalize wr.drew = Wd at *
   refine tkH ?_ 0 rfl (by kernel_rfl) (fun _ _ _ h => h) (by rfl) ?_ ‹_› ?_;rotate_left
   ·intro w h; (try dsimp only at h); go_simp <;> with_reducible rfl
   (try simp only [Act.put, lz]);refine tkH ?_ 1 rfl (by kernel_rfl) (fun _ _ _ h => h) (by rfl) ?_ ‹_› ?_;rotate_left
   ·intro w h; (try dsimp only at h); go_simp <;> with_reducible rfl
   (try simp only [Act.put, lz]);refine tkH ?_ 2 rfl (by kernel_rfl) (fun _ _ _ h => h) (by rfl) ?_ ‹_› ?_;rotate_left
   ·intro w h; (try dsimp only at h); go_simp <;> with_reducible rfl
   (try simp only [Act.put, lz]);refine tkH ?_ 3 rfl (by kernel_rfl) (fun _ _ _ h => h) (by rfl) ?_ ‹_› ?_;rotate_left
   ·intro w h; (try dsimp only at h); go_simp <;> with_reducible rfl
   (try simp only [Act.put, lz]);refine tkH ?_ 4 rfl (by kernel_rfl) (fun _ _ _ h => h) (by rfl) ?_ ‹_› ?_;rotate_left
   ·intro w hSw; (try dsimp only at hSw); go_simp <;> (try simp only [wx, wx2]) <;> with_reducible rfl
   (try simp only [Act.put, lz]);try simp only [wx, wx2]
   refine tkH ?_ 5 rfl (by kernel_rfl) (fun _ _ _ h => h) (by rfl) ?_ ‹_› ?_;rotate_left
   ·intro w h; (try dsimp only at h); go_simp <;> with_reducible rfl
   (try simp only [Act.put, lz]);refine tkH ?_ 6 rfl (by kernel_rfl) (fun _ _ _ h => h) (by rfl) ?_ ‹_› ?_;rotate_left
   ·intro w h; (try dsimp only at h); go_simp <;> with_reducible rfl
   (try simp only [Act.put, lz]);refine tkH ?_ 7 rfl (by kernel_rfl) (fun _ _ _ h => h) (by rfl) ?_ ‹_› ?_;rotate_left
   ·intro w h; (try dsimp only at h); go_simp <;> with_reducible rfl
   (try simp only [Act.put, lz]);refine tkH ?_ 8 rfl (by kernel_rfl) (fun _ _ _ h => h) (by rfl) ?_ ‹_› ?_;rotate_left
   ·intro w h; (try dsimp only at h); go_simp <;> with_reducible rfl
   (try simp only [Act.put, lz]);refine tkH ?_ 9 rfl (by kernel_rfl) (fun _ _ _ h => h) (by rfl) ?_ ‹_› ?_;rotate_left
   ·intro w h; (try dsimp only at h); go_simp <;> with_reducible rfl
   (try simp only [Act.put, lz]);refine tkH ?_ 10 rfl (by kernel_rfl) (fun _ _ _ h => h) (by rfl) ?_ ‹_› ?_;rotate_left
   ·intro w h; (try dsimp only at h); go_simp <;> with_reducible rfl
   (try simp only [Act.put, lz]);refine rdH 11 (by kernel_rfl) rfl fun K hK => ?_
   go_simp;refine (cC.out Wd KD.out).mono ?_;rintro e u1 ⟨rfl, l1'⟩;(try go_wp2_with fail);refine hK.out _ _ ?_ (fun hHeld => ?_)
   ·exact hF.out _ (KD.out.trans l1' (by simp))
   clear hK K;(try simp only [Act.put, lz]);have K1 := hid (KD.out.trans l1' (by simp))
   clear l1' KD;have hw1 : Hid (HdG u1 g o n cap A p ∧ Kp [g] w u1) := hid ⟨hw.out.1.kept K1.out, hw.out.2.trans K1.out (by simp)⟩
   by_cases hc0 : C < 0
   ·have dc : decide (C < 0) = true := by simpa using hc0
    refine tkH ?_ 12 rfl (by kernel_rfl) (fun _ _ _ h => h) (by rfl) ?_ ‹_› ?_;rotate_left
    ·intro w hSw; (try dsimp only at hSw); go_simp <;> (try simp only [dc]) <;> with_reducible rfl
    (try simp only [Act.put, lz]);try simp only [dc]
    refine tkH ?_ 13 rfl (by kernel_rfl) (fun _ _ _ h => h) (by rfl) ?_ ‹_› ?_;rotate_left
    ·intro w h; (try dsimp only at h); go_simp <;> with_reducible rfl
    (try simp only [Act.put, lz]);try simp only [Bool.not_true, Bool.not_false]
    refine wpAnyH_done (by kernel_rfl) ?_ _
    have hs2 : Hid ((s = a ∨ 0 ≤ cf (p (N - s)) (p (s - 1))) ∧ (c = m ∨ cf (p (N - 1 - c)) (p c) < 0)) := hid ⟨hs.out.1, .inr (by rw [← HX.out.1, hCf.out]; exact hc0)⟩
    clear hHeld hF cC hs hw hc0;go_wp2_with fail;exact ⟨⟨s, c, by omega, rfl, rfl, hs2, hw1⟩, by simp [intOf]; omega⟩
   ·have dc : decide (C < 0) = false := by simpa using hc0
    refine tkH ?_ 12 rfl (by kernel_rfl) (fun _ _ _ h => h) (by rfl) ?_ ‹_› ?_;rotate_left
    ·intro w hSw; (try dsimp only at hSw); go_simp <;> (try simp only [dc]) <;> with_reducible rfl
    (try simp only [Act.put, lz]);try simp only [dc]
    refine tkH ?_ 13 rfl (by kernel_rfl) (fun _ _ _ h => h) (by rfl) ?_ ‹_› ?_;rotate_left
    ·intro w h; (try dsimp only at h); go_simp <;> with_reducible rfl
    (try simp only [Act.put, lz]);try simp only [Bool.not_true, Bool.not_false]
    refine wpAnyH_done (by kernel_rfl) ?_ _
    have hs2 : Hid ((c + 1 = a ∨ 0 ≤ cf (p (N - (c + 1))) (p (c + 1 - 1))) ∧ (r = m ∨ cf (p (N - 1 - r)) (p r) < 0)) := hid ⟨.inr (by rw [Nat.add_sub_cancel, ← HX.out.2, hCf.out]; omega), hs.out.2⟩
    clear hHeld hF cC hs hw hc0;go_wp2_with fail;exact ⟨⟨c + 1, r, by omega, by go_num, rfl, hs2, hw1⟩, by simp [intOf]; omega⟩
  ·have er : r = s := by omega
   subst er;rename_i s_
   obtain ⟨s, hss⟩ : ∃ s : Nat, s = r := ⟨_, rfl⟩
   subst hss;obtain ⟨e, he⟩ : ∃ e : Nat, e = N - s := ⟨_, rfl⟩
   have eE : (N : Int) - (s : Int) = (e : Int) := by omega
   have eE1 : (-9223372036854775808 : Int) ≤ (N : Int) - (s : Int) := by omega
   have eE2 : (N : Int) - (s : Int) ≤ 9223372036854775807 := by omega
   have heb : m ≤ e ∧ e ≤ b ∧ s ≤ mid ∧ s ≤ m ∧ a ≤ s := by omega
   have hem : Hid (mid = s + (e - m)) := hid (by omega)
   have hmb2 : mid < b ∧ a < mid ∧ mid ≤ e := by omega
   have SP := hid (sym_parts HC.out.swo (p := p) heb.2.2.2.2 heb.2.2.2.1 heb.1 heb.2.1 hem.out HSR.out.1 HSR.out.2.1 HSR.out.2.2 (fun g1 g2 => by
    rcases hs.out.2 with h5 | h5
    ·omega
    ·rw [show e - 1 = N - 1 - s by omega]; exact h5) (fun g1 g2 => by
    rcases hs.out.1 with h5 | h5
    ·omega
    ·rw [he]; exact Int.not_lt.2 h5))
   clear he hem hs;go_upto_region 39 with fail
   go_cut [185] from 178 to 186 (fun v wx => ∃ B : Bool, v = .bool B ∧ Hid (B = decide (s < m ∧ m < e)) ∧ wx = wr)
   case first =>
    by_cases c1 : s < m
    ·have d1 : decide ((s : Int) < (m : Int)) = true := by simp; omega
     have d1n : decide (s < m) = true := by simp; omega
     by_cases c2 : m < e
     ·have d2 : decide ((m : Int) < (e : Int)) = true := by simp; omega
      have d2n : decide (m < e) = true := by simp; omega
      go_wp2_with fail;go_meet
      case rel => exact ⟨true, rfl, hid (by simp [c1, c2]), rfl⟩
     ·have d2 : decide ((m : Int) < (e : Int)) = false := by simp; omega
      have d2n : decide (m < e) = false := by simp; omega
      go_wp2_with fail;go_meet
      case rel => exact ⟨false, rfl, hid (by simp; omega), rfl⟩
    ·have d1 : decide ((s : Int) < (m : Int)) = false := by simp; omega
     have d1n : decide (s < m) = false := by simp; omega
     go_wp2_with fail;go_meet
     case rel => exact ⟨false, rfl, hid (by simp; omega), rfl⟩
   case rest =>
    obtain ⟨B, rfl, hB, rfl⟩ := hcut;go_upto_if 185 with fail
    go_cut [] from 186 to 192 (fun wx => Hid (HdG wx g o n cap A (fun k => p (rot s m e k)) ∧ Kp [g] w wx))
    case first =>
     cases B with
     | true =>
      have c12 : s < m ∧ m < e := of_decide_eq_true hB.out.symm
      have cR := hid (cRotG g o n cap A p s m e (.func (.func 166) #[] #[]) wc hw.out.1 c12.1 c12.2 (by omega) hn hcap)
      clear c12;go_wp2_with fail;refine cR.out.mono ?_;rintro e' wt ⟨⟨v, rfl⟩, hd, kd⟩;have HR := hid (And.intro hd (hw.out.2.trans kd (by simp)))
      clear hd kd cR hw;go_wp2_with fail;go_meet
      case rel => exact HR
     | false =>
      have c12 : ¬ (s < m ∧ m < e) := of_decide_eq_false hB.out.symm
      have HR : Hid (HdG wc g o n cap A (fun k => p (rot s m e k)) ∧ Kp [g] w wc) := hid (by
       by_cases c1 : s < m
       ·rw [show e = m by omega, rot_right s m (by omega)]; exact hw.out
       ·rw [show s = m by omega, rot_left]; exact hw.out)
      clear c12;go_wp2_with fail;go_meet
      case rel => exact HR
    case rest =>
     have HR := hcut
     clear hcut hw hB;rename_i wr
     go_upto_region 41 with fail
     go_cut [199] from 192 to 200 (fun v wx => ∃ B : Bool, v = .bool B ∧ Hid (B = decide (a < s ∧ s < mid)) ∧ wx = wc)
     case first =>
      by_cases c3 : a < s
      ·have e1 : decide ((a : Int) < (s : Int)) = true := by simp; omega
       have e1n : decide (a < s) = true := by simp; omega
       by_cases c4 : s < mid
       ·have e2 : decide ((s : Int) < (mid : Int)) = true := by simp; omega
        have e2n : decide (s < mid) = true := by simp; omega
        go_wp2_with fail;go_meet
        case rel => exact ⟨true, rfl, hid (by simp [c3, c4]), rfl⟩
       ·have e2 : decide ((s : Int) < (mid : Int)) = false := by simp; omega
        have e2n : decide (s < mid) = false := by simp; omega
        go_wp2_with fail;go_meet
        case rel => exact ⟨false, rfl, hid (by simp; omega), rfl⟩
      ·have e1 : decide ((a : Int) < (s : Int)) = false := by simp; omega
       have e1n : decide (a < s) = false := by simp; omega
       go_wp2_with fail;go_meet
       case rel => exact ⟨false, rfl, hid (by simp; omega), rfl⟩
     case rest =>
      obtain ⟨B, rfl, hB, rfl⟩ := hcut;go_upto_if 199 with fail
      go_cut [] from 200 to 206 (fun wx => ∃ sa : Nat → Nat, Hid (PermIn a mid sa) ∧ Hid (Srt (fun x y => cf x y < 0) (fun k => p (rot s m e (sa k))) a mid) ∧ Hid (HdG wx g o n cap A (fun k => p (rot s m e (sa k))) ∧ Kp [g] w wx))
      case first =>
       cases B with
       | true =>
        have c34 : a < s ∧ s < mid := of_decide_eq_true hB.out.symm
        have cM1 := hid (HIH.out (fun k => p (rot s m e k)) a s mid wc (by omega) HR.out.1 (HC.out.keep _ _ HI.out HR.out.2) (fun k hk => HPN.out _ (((rot_perm (Nat.zero_le s) (by omega) (by omega) (by omega) : PermIn 0 n (rot s m e))).1 k (Nat.zero_le _) hk).2) c34.1 c34.2 (by omega) SP.out.1.1 SP.out.1.2.1 SP.out.1.2.2)
        clear c34;go_wp2_with fail;refine cM1.out.mono ?_;rintro e' wm ⟨⟨v, rfl⟩, sa, pa, sa', ha', ka⟩;have PA := hid pa
        have SA := hid sa'
        have HD := hid (And.intro ha' (HR.out.2.trans ka (by simp)))
        clear pa sa' ha' ka cM1 HR;go_wp2_with fail;go_meet
        case rel => exact ⟨sa, PA, SA, HD⟩
       | false =>
        have c34 : ¬ (a < s ∧ s < mid) := of_decide_eq_false hB.out.symm
        have SA : Hid (Srt (fun x y => cf x y < 0) (fun k => p (rot s m e k)) a mid) := hid (by
         by_cases c7 : s = a
         ·have := SP.out.1.2.1; rwa [c7] at this ⊢
         ·have c8 : s = mid := by omega
          have := SP.out.1.1; rw [c8] at this ⊢; exact this)
        clear c34;go_wp2_with fail;go_meet
        case rel => exact ⟨fun k => k, hid (PermIn.id _ _), SA, HR⟩
      case rest =>
       obtain ⟨sa, PA, SA, HD⟩ := hcut;clear HR hB;rename_i wr
       have hmx : Hid ((∀ k, mid ≤ k → p (rot s m e (sa k)) = p (rot s m e k))) := hid (fun k hk => by rw [PA.out.2.1 k (by omega)])
       by_cases c5 : mid < e
       ·have f1 : decide ((mid : Int) < (e : Int)) = true := by simp; omega
        have f1n : decide (mid < e) = true := by simp; omega
        by_cases c6 : e < b
        ·have f2 : decide ((e : Int) < (b : Int)) = true := by simp; omega
         have f2n : decide (e < b) = true := by simp; omega
         have cM := hid (HIH.out (fun k => p (rot s m e (sa k))) mid e b wc (by omega) HD.out.1 (HC.out.keep _ _ HI.out HD.out.2) (fun k hk => HPN.out _ (by
          have r1 := (rot_perm (lo := 0) (hi := n) (Nat.zero_le s) (by omega) (by omega) (by omega) : PermIn 0 n (rot s m e))
          have r2 := PA.out.mono (Nat.zero_le a) (show mid ≤ n by omega)
          exact (r1.1 _ (Nat.zero_le _) (r2.1 k (Nat.zero_le _) hk).2).2)) c5 c6 (by omega) (fun i j g1 g2 g3 => by
           show bef _ (p (rot s m e (sa i))) (p (rot s m e (sa j)))
           rw [hmx.out i (by omega), hmx.out j (by omega)]; exact SP.out.2.1.1 i j g1 g2 g3) (fun i j g1 g2 g3 => by
           show bef _ (p (rot s m e (sa i))) (p (rot s m e (sa j)))
           rw [hmx.out i (by omega), hmx.out j (by omega)]; exact SP.out.2.1.2.1 i j g1 g2 g3) (fun i j g1 g2 g3 g4 => by
           show p (rot s m e (sa i)) < p (rot s m e (sa j))
           rw [hmx.out i (by omega), hmx.out j (by omega)]; exact SP.out.2.1.2.2 i j g1 g2 g3 g4))
         have KX := hid HD.out.2
         clear c5 c6;go_wp2_with fail;refine cM.out.mono ?_;rintro e' wz ⟨⟨v, rfl⟩, t, pt, st, ht', kt⟩
         have hfin : Hid (PermIn a b (fun k => rot s m e (sa (t k))) ∧ Srt (fun x y => cf x y < 0) (fun k => p (rot s m e (sa (t k)))) a b ∧ HdG wz g o n cap A (fun k => p (rot s m e (sa (t k)))) ∧ Kp [g] w wz) := hid ⟨(rot_perm (by omega) (by omega) (by omega) (by omega)).comp ((PA.out.mono (Nat.le_refl _) (by omega)).comp (pt.mono (by omega) (Nat.le_refl _))), Srt.join (p := fun k => p (rot s m e k)) PA.out pt SA.out (fun i j g1 g2 g3 => by
          have h5 := st i j g1 g2 g3
          have h6 := pt.1 i g1 (by omega)
          have h7 := pt.1 j (by omega) g3
          simp only [hmx.out _ h6.1, hmx.out _ h7.1] at h5;exact h5) SP.out.2.2, ht', KX.out.trans kt (by simp)⟩
         clear pt st ht' kt KX;go_wp2_with fail;go_end0
         exact ⟨⟨_, rfl⟩, _, hfin.out.1, hfin.out.2.1, hfin.out.2.2.1, hfin.out.2.2.2⟩
        ·have f2 : decide ((e : Int) < (b : Int)) = false := by simp; omega
         have f2n : decide (e < b) = false := by simp; omega
         have sB : Srt (fun x y => cf x y < 0) (fun k => p (rot s m e k)) mid b := by
          by_cases c7 : e = mid
          ·rw [← c7]; exact SP.out.2.1.2.1
          ·have c8 : e = b := by omega
           rw [← c8]; exact SP.out.2.1.1
         have hfin : Hid (PermIn a b (fun k => rot s m e (sa k)) ∧ Srt (fun x y => cf x y < 0) (fun k => p (rot s m e (sa k))) a b) := hid ⟨(rot_perm (by omega) (by omega) (by omega) (by omega)).comp (PA.out.mono (Nat.le_refl _) (by omega)), Srt.join (p := fun k => p (rot s m e k)) PA.out (PermIn.id mid b) SA.out sB SP.out.2.2⟩
         clear sB c5;go_wp2_with fail;go_end0
         exact ⟨⟨_, rfl⟩, _, hfin.out.1, hfin.out.2, HD.out.1, HD.out.2⟩
       ·have f1 : decide ((mid : Int) < (e : Int)) = false := by simp; omega
        have f1n : decide (mid < e) = false := by simp; omega
        have sB : Srt (fun x y => cf x y < 0) (fun k => p (rot s m e k)) mid b := by
         by_cases c7 : e = mid
         ·rw [← c7]; exact SP.out.2.1.2.1
         ·have c8 : e = b := by omega
          rw [← c8]; exact SP.out.2.1.1
        have hfin : Hid (PermIn a b (fun k => rot s m e (sa k)) ∧ Srt (fun x y => cf x y < 0) (fun k => p (rot s m e (sa k))) a b) := hid ⟨(rot_perm (by omega) (by omega) (by omega) (by omega)).comp (PA.out.mono (Nat.le_refl _) (by omega)), Srt.join (p := fun k => p (rot s m e k)) PA.out (PermIn.id mid b) SA.out sB SP.out.2.2⟩
        clear sB c5;go_wp2_with fail;go_end0
        exact ⟨⟨_, rfl⟩, _, hfin.out.1, hfin.out.2, HD.out.1, HD.out.2⟩
theorem cSymG (g o n cap : Nat) (A : Nat → Mb) (cv : Value) (cf : Nat → Nat → Int) (Inv : World → Prop) (hC : CmpOkG g n A cv cf Inv) (hn : n ≤ 4000000000000) (hcap : n ≤ cap) : ∀ (d : Nat) (p : Nat → Nat) (a m b : Nat) (w : World), b - a ≤ d → HdG w g o n cap A p → Inv w → (∀ k, k < n → p k < n) → a < m → m < b → b ≤ n → Srt (fun x y => cf x y < 0) p a m → Srt (fun x y => cf x y < 0) p m b → Low p a m b → Calls Tryz.prog 185 #[.slice (some ⟨g, o, none⟩) n cap, .int .i64 (a : Int), .int .i64 (m : Int), .int .i64 (b : Int), .func (.func 166) #[] #[]] w fun e w' => (∃ v, e = .returned v) ∧ ∃ s, PermIn a b s ∧ Srt (fun x y => cf x y < 0) (fun k => p (s k)) a b ∧ HdG w' g o n cap A (fun k => p (s k)) ∧ Kp [g] w w'
 | 0, p, a, m, b, w, hd, h, hI, hpn, h1, h2, h3, hA, hB, hLo => by omega
 | d + 1, p, a, m, b, w, hd, h, hI, hpn, h1, h2, h3, hA, hB, hLo => by
  by_cases c1 : m ≤ a + 1
  ·exact cSymAG g o n cap A cv cf Inv hC p a m b w h hI hpn h1 h2 h3 hA hB hLo hn hcap c1
  by_cases c2 : b ≤ m + 1
  ·exact cSymBG g o n cap A cv cf Inv hC p a m b w h hI hpn h1 h2 h3 hA hB hLo hn hcap (by omega) c2
  have IH := fun (p' : Nat → Nat) (a' m' b' : Nat) (w' : World) (hlt : b' - a' < b - a) h' hI' hpn' h1' h2' h3' hA' hB' hLo' => cSymG g o n cap A cv cf Inv hC hn hcap d p' a' m' b' w' (by omega) h' hI' hpn' h1' h2' h3' hA' hB' hLo'
  by_cases c3 : a + b < 2 * m
  ·exact cSymC1G g o n cap A cv cf Inv hC p a m b w h hI hpn h1 h2 h3 hA hB hLo hn hcap (by omega) (by omega) c3 IH
  ·exact cSymC2G g o n cap A cv cf Inv hC p a m b w h hI hpn h1 h2 h3 hA hB hLo hn hcap (by omega) (by omega) (by omega) IH
def SgG (lt : Nat → Nat → Prop) (s : Nat → Nat) (x y : Nat) : Prop := Srt lt s x y ∧ ∀ k, x ≤ k → k < y → x ≤ s k ∧ s k < y
theorem SgG.congr {lt : Nat → Nat → Prop} {s t : Nat → Nat} {x y : Nat} (h : SgG lt s x y) (ht : ∀ k, x ≤ k → k < y → t k = k) : SgG lt (fun k => s (t k)) x y :=
 ⟨fun i j g1 g2 g3 => by
  show bef lt (s (t i)) (s (t j))
  rw [ht i g1 (by omega), ht j (by omega) g3]
  exact h.1 i j g1 g2 g3, fun k g1 g2 => by
  show x ≤ s (t k) ∧ s (t k) < y
  rw [ht k g1 g2];exact h.2 k g1 g2⟩
theorem SgG.merged {lt : Nat → Nat → Prop} {s t : Nat → Nat} {a m b : Nat} (h1 : SgG lt s a m) (h2 : SgG lt s m b) (hab : a ≤ m) (hmb : m ≤ b) (ht : PermIn a b t) (hs : Srt lt (fun k => s (t k)) a b) : SgG lt (fun k => s (t k)) a b :=
 ⟨hs, fun k g1 g2 => by
  show a ≤ s (t k) ∧ s (t k) < b
  have h3 := ht.1 k g1 g2
  by_cases c : t k < m
  ·have := h1.2 _ h3.1 c
   omega
  ·have := h2.2 (t k) (by omega) h3.2
   omega⟩
theorem SgG.low {lt : Nat → Nat → Prop} {s : Nat → Nat} {a m b : Nat} (h1 : SgG lt s a m) (h2 : SgG lt s m b) : Low s a m b := fun i j g1 g2 g3 g4 => by
 have := h1.2 i g1 g2
 have := h2.2 j g3 g4
 omega
inductive LnG (lt : Nat → Nat → Prop) (s : Nat → Nat) (bs : Nat) : Nat → Prop
 | nil : LnG lt s bs 0
 | snoc {x : Nat} : LnG lt s bs x → SgG lt s x (x + bs) → LnG lt s bs (x + bs)
inductive RnG (lt : Nat → Nat → Prop) (s : Nat → Nat) (bs n : Nat) : Nat → Prop
 | done {x : Nat} : n ≤ x → RnG lt s bs n x
 | step {x : Nat} : x < n → SgG lt s x (min (x + bs) n) → RnG lt s bs n (x + bs) → RnG lt s bs n x
theorem LnG.congr {lt : Nat → Nat → Prop} {s t : Nat → Nat} {bs x : Nat} (h : LnG lt s bs x) : (∀ k, k < x → t k = k) → LnG lt (fun k => s (t k)) bs x := by
 induction h with
 | nil => intro _; exact .nil
 | snoc h1 h2 ih => intro ht; exact .snoc (ih fun k hk => ht k (by omega)) (h2.congr fun k _ g => ht k g)
theorem RnG.congr {lt : Nat → Nat → Prop} {s t : Nat → Nat} {bs n x : Nat} (h : RnG lt s bs n x) : (∀ k, x ≤ k → k < n → t k = k) → RnG lt (fun k => s (t k)) bs n x := by
 induction h with
 | done h => intro _; exact .done h
 | step h1 h2 h3 ih => intro ht; exact .step h1 (h2.congr fun k g1 g2 => ht k g1 (by omega)) (ih fun k g1 g2 => ht k (by omega) g2)
theorem LnG.all {lt : Nat → Nat → Prop} {s : Nat → Nat} {bs n x : Nat} (h : LnG lt s bs x) (hb : 0 < bs) : x ≤ n → RnG lt s bs n x → RnG lt s bs n 0 := by
 induction h with
 | nil => intro _ h; exact h
 | snoc h1 h2 ih => intro hx hr; exact ih (by omega) (.step (by omega) (by rw [Nat.min_eq_left hx]; exact h2) hr)
theorem RnG.two {lt : Nat → Nat → Prop} {s : Nat → Nat} {bs n a : Nat} (h : RnG lt s bs n a) (hb : 0 < bs) (hab : a + bs < n) : SgG lt s a (a + bs) ∧ SgG lt s (a + bs) (min (a + bs + bs) n) ∧ RnG lt s bs n (a + bs + bs) := by
 cases h with
 | done h => omega
 | step h1 h2 h3 =>
  rw [Nat.min_eq_left (by omega)] at h2
  cases h3 with
  | done h => omega
  | step h4 h5 h6 => exact ⟨h2, h5, h6⟩
theorem RnG.last {lt : Nat → Nat → Prop} {s : Nat → Nat} {bs n a : Nat} (h : RnG lt s bs n a) (han : a < n) (hab : n ≤ a + bs) : SgG lt s a n := by
 cases h with
 | done h => omega
 | step h1 h2 h3 => rwa [Nat.min_eq_right hab] at h2
theorem SgG.fresh {lt : Nat → Nat → Prop} {s t : Nat → Nat} {a b : Nat} (hs : PermIn 0 a s) (ht : PermIn a b t) (h : Srt lt (fun k => s (t k)) a b) : SgG lt (fun k => s (t k)) a b :=
 ⟨h, fun k g1 g2 => by
  show a ≤ s (t k) ∧ s (t k) < b
  have h3 := ht.1 k g1 g2
  rw [hs.2.1 (t k) (by omega)]
  exact h3⟩
theorem cStableG (g o n cap : Nat) (A : Nat → Mb) (cv : Value) (cf : Nat → Nat → Int) (Inv : World → Prop) (hC : CmpOkG g n A cv cf Inv) (hn : n ≤ 4000000000000) (hcap : n ≤ cap) (w : World) (h : HdG w g o n cap A (fun k => k)) (hI : Inv w) : Calls Tryz.prog 178 #[.slice (some ⟨g, o, none⟩) n cap, .int .i64 (n : Int), .func (.func 166) #[] #[]] w fun e w' => (∃ v, e = .returned v) ∧ ∃ s, PermIn 0 n s ∧ Srt (fun x y => cf x y < 0) s 0 n ∧ HdG w' g o n cap A s ∧ Kp [g] w w' := by
 have HC := hid hC
 have HI := hid hI
 have HH := hid h
 clear hC hI h;go_enter Tryz.func178, Tryz.ntmps178
 go_wp2_with fail;go_loopw [7, 8] (fun av bv wr => ∃ (a b : Nat) (s : Nat → Nat), (a ≤ n ∧ a + 20 ≤ b ∧ b ≤ a + 20) ∧ av = .int .i64 (a : Int) ∧ bv = .int .i64 (b : Int) ∧ Hid (PermIn 0 a s ∧ LnG (fun x y => cf x y < 0) s 20 a) ∧ Hid (HdG wr g o n cap A s ∧ Kp [g] w wr)) (fun av _ _ => n + 20 - (intOf av).toNat)
 case atStart => exact ⟨0, 20, fun k => k, by omega, rfl, rfl, hid ⟨PermIn.id _ _, .nil⟩, hid ⟨HH.out, Kp.refl _ _⟩⟩
 case round =>
  obtain ⟨a, b, s, ⟨ba, bb1, bb2⟩, rfl, rfl, hs, hw⟩ := hrel
  by_cases hbn : b ≤ n
  ·have d0 : decide ((b : Int) ≤ (n : Int)) = true := by simp; omega
   have d1 : (b : Int) ≤ (n : Int) := by omega
   have cI := hid (cInsG g o n cap A cv cf Inv HC.out s a b wr hw.out.1 (HC.out.keep _ _ HI.out hw.out.2) (fun k g1 g2 => hs.out.1.2.1 k (by omega)) (by omega) hbn hn hcap)
   obtain ⟨b', hb2'⟩ : ∃ x : Nat, x = b + 20 := ⟨_, rfl⟩
   have ebx : (b : Int) + 20 = (b' : Int) := by omega
   have ebx1 : (-9223372036854775808 : Int) ≤ (b : Int) + 20 := by omega
   have ebx2 : (b : Int) + 20 ≤ 9223372036854775807 := by omega
   have HW := hid hw.out.2
   have hb3 : a ≤ b ∧ b + 20 ≤ b' ∧ b' ≤ b + 20 := by omega
   clear hb2' hw;go_wp2_with fail;refine cI.out.mono ?_;rintro e w1 ⟨⟨v, rfl⟩, t, pt, st, hd, kd⟩
   have hs2 : Hid (PermIn 0 b (fun k => s (t k)) ∧ LnG (fun x y => cf x y < 0) (fun k => s (t k)) 20 b) := hid ⟨(hs.out.1.mono (Nat.le_refl _) (by omega)).comp (pt.mono (Nat.zero_le _) (Nat.le_refl _)), by
    have e : b = a + 20 := by omega
    subst e;exact .snoc (hs.out.2.congr fun k hk => pt.2.1 k (by omega)) (SgG.fresh hs.out.1 pt st)⟩
   have hw2 := hid (And.intro hd (HW.out.trans kd (by simp)))
   clear pt st hd kd hs HW cI;go_wp2_with fail;exact ⟨⟨b, b', fun k => s (t k), by omega, rfl, rfl, hs2, hw2⟩, by simp [intOf]; omega⟩
  ·have d0 : decide ((b : Int) ≤ (n : Int)) = false := by simp; omega
   have d1 : ¬ ((b : Int) ≤ (n : Int)) := by omega
   have cI := hid (cInsG g o n cap A cv cf Inv HC.out s a n wr hw.out.1 (HC.out.keep _ _ HI.out hw.out.2) (fun k g1 g2 => hs.out.1.2.1 k (by omega)) ba (Nat.le_refl _) hn hcap)
   have HW := hid hw.out.2
   clear hw;go_wp2_with fail;refine cI.out.mono ?_;rintro e w1 ⟨⟨v, rfl⟩, t, pt, st, hd, kd⟩
   have hs2 : Hid (PermIn 0 n (fun k => s (t k)) ∧ RnG (fun x y => cf x y < 0) (fun k => s (t k)) 20 n 0) := hid ⟨(hs.out.1.mono (Nat.le_refl _) ba).comp (pt.mono (Nat.zero_le _) (Nat.le_refl _)), (hs.out.2.congr fun k hk => pt.2.1 k (by omega)).all (by omega) ba (by
    by_cases c : a < n
    ·exact .step c (by rw [Nat.min_eq_right (by omega)]; exact SgG.fresh hs.out.1 pt st) (.done (by omega))
    ·exact .done (by omega))⟩
   have hw2 := hid (And.intro hd (HW.out.trans kd (by simp)))
   clear pt st hd kd hs HW cI;go_wp2_with fail;go_loopw [6, 7, 8, 9] (fun zv _ _ _ wn => ∃ (bs : Nat) (s : Nat → Nat), (20 ≤ bs ∧ bs ≤ n + n + 20) ∧ zv = .int .i64 (bs : Int) ∧ Hid (PermIn 0 n s ∧ RnG (fun x y => cf x y < 0) s bs n 0) ∧ Hid (HdG wn g o n cap A s ∧ Kp [g] w wn)) (fun zv _ _ _ _ => n + n + 20 - (intOf zv).toNat)
   case atStart => exact ⟨20, _, by omega, rfl, hs2, hw2⟩
   case round =>
    obtain ⟨bs, s, ⟨bz1, bz2⟩, rfl, hs, hw⟩ := hrel;clear hs2 hw2
    by_cases hzn : bs < n
    ·have i0 : (bs : Int) < (n : Int) := by omega
     obtain ⟨B, hB⟩ : ∃ x : Nat, x = 2 * bs := ⟨_, rfl⟩
     have eB : (2 : Int) * (bs : Int) = (B : Int) := by omega
     have eB1 : (-9223372036854775808 : Int) ≤ (2 : Int) * (bs : Int) := by omega
     have eB2 : (2 : Int) * (bs : Int) ≤ 9223372036854775807 := by omega
     obtain ⟨B2, hB2⟩ : ∃ x : Nat, x = 2 * bs := ⟨_, rfl⟩
     have eB2 : (bs : Int) * 2 = (B2 : Int) := by omega
     have eB21 : (-9223372036854775808 : Int) ≤ (bs : Int) * 2 := by omega
     have eB22 : (bs : Int) * 2 ≤ 9223372036854775807 := by omega
     have hBb : bs + bs ≤ B ∧ B ≤ bs + bs ∧ B2 ≤ bs + bs ∧ bs + bs ≤ B2 := by omega
     clear hB hB2;go_wp2_with fail;go_loopw [7, 8] (fun av bv wn => ∃ (a b : Nat) (s : Nat → Nat), (a ≤ n ∧ a + B ≤ b ∧ b ≤ a + B) ∧ av = .int .i64 (a : Int) ∧ bv = .int .i64 (b : Int) ∧ Hid (PermIn 0 n s ∧ LnG (fun x y => cf x y < 0) s B a ∧ RnG (fun x y => cf x y < 0) s bs n a) ∧ Hid (HdG wn g o n cap A s ∧ Kp [g] w wn)) (fun av _ _ => n + 1 - (intOf av).toNat)
     case atStart => exact ⟨0, B, s, by omega, rfl, rfl, hid ⟨hs.out.1, .nil, hs.out.2⟩, hw⟩
     case round =>
      obtain ⟨a, b, s, ⟨ba, bb1, bb2⟩, rfl, rfl, hs, hw⟩ := hrel;obtain ⟨m, hm⟩ : ∃ x : Nat, x = a + bs := ⟨_, rfl⟩
      have em : (a : Int) + (bs : Int) = (m : Int) := by omega
      have em1 : (-9223372036854775808 : Int) ≤ (a : Int) + (bs : Int) := by omega
      have em2 : (a : Int) + (bs : Int) ≤ 9223372036854775807 := by omega
      have hm2 : m ≤ a + bs ∧ a + bs ≤ m := by omega
      clear hm
      by_cases hbn : b ≤ n
      ·have d0 : decide ((b : Int) ≤ (n : Int)) = true := by simp; omega
       have d1 : (b : Int) ≤ (n : Int) := by omega
       obtain ⟨b2, hb2⟩ : ∃ x : Nat, x = b + B := ⟨_, rfl⟩
       have eb2 : (b : Int) + (B : Int) = (b2 : Int) := by omega
       have eb21 : (-9223372036854775808 : Int) ≤ (b : Int) + (B : Int) := by omega
       have eb22 : (b : Int) + (B : Int) ≤ 9223372036854775807 := by omega
       have hb3 : b2 ≤ b + B ∧ b + B ≤ b2 := by omega
       have hem : m = a + bs := by omega
       have heb : b = a + bs + bs := by omega
       obtain ⟨r1, r2, r3⟩ := hs.out.2.2.two (by omega) (by omega)
       rw [Nat.min_eq_left (by omega)] at r2
       rw [← hem] at r1 r2 r3;have heb2 : b = m + bs := by omega
       rw [← heb2] at r2 r3;have cM := hid (cSymG g o n cap A cv cf Inv HC.out hn hcap (b - a) s a m b wr (Nat.le_refl _) hw.out.1 (HC.out.keep _ _ HI.out hw.out.2) (fun k hk => (hs.out.1.1 k (Nat.zero_le _) hk).2) (by omega) (by omega) hbn r1.1 r2.1 (r1.low r2))
       have HW := hid hw.out.2
       have RR := hid (And.intro r1 (And.intro r2 r3))
       clear hb2 hw hem heb heb2 r1 r2 r3;go_wp2_with fail;refine cM.out.mono ?_;rintro e w1 ⟨⟨v, rfl⟩, t, pt, st, hd, kd⟩
       have hs2 : Hid (PermIn 0 n (fun k => s (t k)) ∧ LnG (fun x y => cf x y < 0) (fun k => s (t k)) B b ∧ RnG (fun x y => cf x y < 0) (fun k => s (t k)) bs n b) := hid ⟨hs.out.1.comp (pt.mono (Nat.zero_le _) hbn), by
        have hSg := SgG.merged RR.out.1 RR.out.2.1 (by omega) (by omega) pt st
        have e : b = a + B := by omega
        rw [e] at hSg ⊢;exact .snoc (hs.out.2.1.congr fun k hk => pt.2.1 k (by omega)) hSg, RR.out.2.2.congr fun k g1 g2 => pt.2.1 k (by omega)⟩
       have hw2 := hid (And.intro hd (HW.out.trans kd (by simp)))
       clear pt st hd kd hs HW cM RR;go_wp2_with fail;exact ⟨⟨b, b2, fun k => s (t k), by omega, rfl, rfl, hs2, hw2⟩, by simp [intOf]; omega⟩
      ·have d0 : decide ((b : Int) ≤ (n : Int)) = false := by simp; omega
       have d1 : ¬ ((b : Int) ≤ (n : Int)) := by omega
       by_cases hmn : m < n
       ·have i5 : (m : Int) < (n : Int) := by omega
        have hem : m = a + bs := by omega
        obtain ⟨r1, r2, r3⟩ := hs.out.2.2.two (by omega) (by omega)
        rw [Nat.min_eq_right (by omega)] at r2
        rw [← hem] at r1 r2;have cM := hid (cSymG g o n cap A cv cf Inv HC.out hn hcap (n - a) s a m n wr (Nat.le_refl _) hw.out.1 (HC.out.keep _ _ HI.out hw.out.2) (fun k hk => (hs.out.1.1 k (Nat.zero_le _) hk).2) (by omega) hmn (Nat.le_refl _) r1.1 r2.1 (r1.low r2))
        have HW := hid hw.out.2
        have RR := hid (And.intro r1 r2)
        clear hw hem r1 r2 r3;go_wp2_with fail;refine cM.out.mono ?_;rintro e w1 ⟨⟨v, rfl⟩, t, pt, st, hd, kd⟩
        have hs2 : Hid (PermIn 0 n (fun k => s (t k)) ∧ RnG (fun x y => cf x y < 0) (fun k => s (t k)) B2 n 0) := hid ⟨hs.out.1.comp (pt.mono (Nat.zero_le _) (Nat.le_refl _)), by
         have hSg := SgG.merged RR.out.1 RR.out.2 (by omega) (by omega) pt st
         have e : B2 = B := by omega
         rw [e];exact (hs.out.2.1.congr fun k hk => pt.2.1 k (by omega)).all (by omega) ba (.step (by omega) (by rw [Nat.min_eq_right (by omega)]; exact hSg) (.done (by omega)))⟩
        have hw2 := hid (And.intro hd (HW.out.trans kd (by simp)))
        clear pt st hd kd hs HW cM RR;go_wp2_with fail;exact ⟨⟨B2, fun k => s (t k), by omega, rfl, hs2, hw2⟩, by simp [intOf]; omega⟩
       ·have i5 : ¬ ((m : Int) < (n : Int)) := by omega
        have i6 : decide ((m : Int) < (n : Int)) = false := by simp; omega
        have hs2 : Hid (PermIn 0 n s ∧ RnG (fun x y => cf x y < 0) s B2 n 0) := hid ⟨hs.out.1, by
         have e : B2 = B := by omega
         rw [e];refine hs.out.2.1.all (by omega) ba ?_
         by_cases c : a < n
         ·exact .step c (by rw [Nat.min_eq_right (by omega)]; exact hs.out.2.2.last c (by omega)) (.done (by omega))
         ·exact .done (by omega)⟩
        clear hs;go_wp2_with fail;exact ⟨⟨B2, s, by omega, rfl, hs2, hw⟩, by simp [intOf]; omega⟩
    ·have d2 : decide ((bs : Int) < (n : Int)) = false := by simp; omega
     have d3 : ¬ ((bs : Int) < (n : Int)) := by omega
     have hfin : Hid (Srt (fun x y => cf x y < 0) s 0 n) := hid (by
      by_cases c : 0 < n
      ·exact (hs.out.2.last c (by omega)).1
      ·exact Srt.one _ _ _ _ (by omega))
     go_wp2_with fail;go_end0
     exact ⟨⟨_, rfl⟩, s, hs.out.1, hfin.out, hw.out.1, hw.out.2⟩
theorem cSortStableG (g o n cap : Nat) (A : Nat → Mb) (cv : Value) (cf : Nat → Nat → Int) (Inv : World → Prop) (hC : CmpOkG g n A cv cf Inv) (hn : n ≤ 4000000000000) (hcap : n ≤ cap) (w : World) (h : HdG w g o n cap A (fun k => k)) (hI : Inv w) : Calls Tryz.prog 165 #[.slice (some ⟨g, o, none⟩) n cap, .func (.func 166) #[] #[]] w fun e w' => (∃ v, e = .returned v) ∧ ∃ s, PermIn 0 n s ∧ Srt (fun x y => cf x y < 0) s 0 n ∧ HdG w' g o n cap A s ∧ Kp [g] w w' := by
 have cS := hid (cStableG g o n cap A cv cf Inv hC hn hcap w h hI)
 clear hC h hI;go_enter Tryz.func165, Tryz.ntmps165
 go_wp2_with fail;refine cS.out.mono ?_;rintro e w1 ⟨⟨v, rfl⟩, hp⟩;have HP := hid hp
 clear hp;go_wp2_with fail;go_end0
 exact ⟨⟨_, rfl⟩, HP.out⟩
end Go.Proofs.YtcgkkofmnajedaaGreatDoor
end

section
namespace Go.Proofs.YtcgkkofmnajedaaGreatDoor
open Go.RowKit Go.Hay
attribute [local go_sem] Oper.semAt_some
def keyV (bs : List Int) (R : List (List Val)) (i : Nat) : List Val := pickV (R.getD i []) bs
def ltK (bs : List Int) (R : List (List Val)) (x y : Nat) : Prop := rowsV (keyV bs R x) (keyV bs R y) < 0
instance (bs : List Int) (R : List (List Val)) : ∀ x y, Decidable (ltK bs R x y) := fun x y => by unfold ltK; infer_instance
theorem rowsSwo (f : Nat → List Val) : Swo (fun x y => rowsV (f x) (f y) < 0) where
 asym x y h h2 := by have := rows_neg (f x) (f y); omega
 ntr x y z h1 h2 h3 := by
  have a1 : rowsV (f y) (f x) ≤ 0 := by have := rows_neg (f x) (f y); omega
  have a2 : rowsV (f z) (f y) ≤ 0 := by have := rows_neg (f y) (f z); omega
  have a3 := rows_trans _ _ _ a2 a1
  have := rows_neg (f x) (f z)
  omega
theorem ltK_swo (bs : List Int) (R : List (List Val)) : Swo (ltK bs R) := rowsSwo (keyV bs R)
def prK (bs : List Int) (R : List (List Val)) (i : Nat) : List Val × List Val := (keyV bs R i, R.getD i [])
def srtM (bs : List Int) (R : List (List Val)) : List (List Val × List Val) := (srtI (ltK bs R) R.length).map (prK bs R)
def grpI (bs : List Int) (R : List (List Val)) (k : List Val) : List Nat := (List.range R.length).filter fun i => rowsV (keyV bs R i) k == 0
theorem getRG (R : List (List Val)) : R = (List.range R.length).map fun i => R.getD i [] := by
 apply List.ext_getElem?
 intro k
 by_cases h : k < R.length
 ·simp [h]
 ·rw [List.getElem?_eq_none (by omega), List.getElem?_eq_none (by simp; omega)]
theorem grpI_rows (bs : List Int) (R : List (List Val)) (k : List Val) : (grpI bs R k).map (fun i => R.getD i []) = R.filter fun l => rowsV (pickV l bs) k == 0 := by
 conv => rhs; rw [getRG R]
 unfold grpI
 rw [List.filter_map];rfl
theorem nodup_sub_len : ∀ (l m : List Nat), l.Nodup → (∀ x ∈ l, x ∈ m) → l.length ≤ m.length
 | [], m, _, _ => by simp
 | a :: l, m, hn, hs => by
  have ha : a ∈ m := hs a (List.mem_cons_self ..)
  have hn' := List.nodup_cons.1 hn
  have := nodup_sub_len l (m.erase a) hn'.2 (fun x hx => by
   have hne : x ≠ a := fun e => hn'.1 (e ▸ hx)
   exact (List.mem_erase_of_ne hne).2 (hs x (List.mem_cons_of_mem _ hx)))
  rw [List.length_erase_of_mem ha] at this;have h0 : 0 < m.length := List.length_pos_of_mem ha
  simp only [List.length_cons];omega
theorem srt_groups (bs : List Int) (R : List (List Val)) : srtI (ltK bs R) R.length = (keysV bs R).flatMap (grpI bs R) := by
 have hk := keysV_ok bs R
 have hl := ltK_swo bs R
 have hmem : ∀ k i, i ∈ grpI bs R k ↔ i < R.length ∧ rowsV (keyV bs R i) k = 0 := fun k i => by
  unfold grpI
  rw [List.mem_filter, List.mem_range];simp
 have hp : ((keysV bs R).flatMap (grpI bs R)).Pairwise (bef (ltK bs R)) := by
  rw [List.pairwise_flatMap];refine ⟨fun k _ => ?_, hk.up.imp fun {a b} hab x hx y hy => ?_⟩
  ·unfold grpI
   rw [List.pairwise_filter];refine List.pairwise_lt_range.imp fun {i j} hij hi hj => ?_
   have h1 : rowsV (keyV bs R i) k = 0 := by simpa using hi
   have h2 : rowsV (keyV bs R j) k = 0 := by simpa using hj
   refine .inr ⟨fun h => ?_, hij⟩
   unfold ltK at h
   have := rows_zz h2 (rows_sym h1)
   omega
  ·have h1 := ((hmem a x).1 hx).2
   have h2 := ((hmem b y).1 hy).2
   refine .inl ?_;unfold ltK
   exact rows_lt_le (rows_le_lt (by omega) hab) (by have := rows_sym h2; omega)
 have hnd : ((keysV bs R).flatMap (grpI bs R)).Nodup := by
  unfold List.Nodup
  refine hp.imp fun {a b} h e => ?_
  subst e;exact bef_asym hl h h
 have hpm : ((keysV bs R).flatMap (grpI bs R)).Perm (List.range R.length) := by
  refine perm_of_sub _ _ hnd (fun x hx => ?_) (nodup_sub_len _ _ List.nodup_range fun x hx => ?_)
  ·obtain ⟨k, _, hx⟩ := List.mem_flatMap.1 hx
   exact List.mem_range.2 ((hmem k x).1 hx).1
  ·have hx' := List.mem_range.1 hx
   obtain ⟨k, hkm, e⟩ := hk.each (R.getD x []) (by rw [List.getD_eq_getElem?_getD, List.getElem?_eq_getElem hx']; exact List.getElem_mem hx')
   exact List.mem_flatMap.2 ⟨k, hkm, (hmem k x).2 ⟨hx', e⟩⟩
 exact List.Perm.eq_of_pairwise (le := bef (ltK bs R)) (fun a b _ _ h3 h4 => (bef_asym hl h3 h4).elim) (srtI_sorted hl R.length) hp ((srtI_perm (ltK bs R) R.length).trans hpm.symm)
theorem flat_drop {α : Type} (L : List (List α)) (i : Nat) : L.flatten.drop (L.take i).flatten.length = (L.drop i).flatten := by
 conv => lhs; arg 2; rw [← List.take_append_drop i L]
 rw [List.flatten_append, List.drop_left'];rfl
theorem flat_len {α : Type} (L : List (List α)) (i : Nat) (h : i < L.length) : (L.take (i + 1)).flatten.length = (L.take i).flatten.length + L[i].length := by
 rw [List.take_succ_eq_append_getElem h, List.flatten_append, List.length_append];simp
theorem flat_take {α : Type} (L : List (List α)) (i : Nat) (h : i < L.length) : (L.drop i).flatten.take L[i].length = L[i] := by
 rw [List.drop_eq_getElem_cons h, List.flatten_cons, List.take_left'];rfl
theorem cMembersC (x y : Mb) (w : World) (hx : Mb.lies w x) (hy : Mb.lies w y) (h1 : x.k.l.length ≤ 9223372036854775807) (h2 : y.k.l.length ≤ 9223372036854775807) :
  Calls Tryz.prog 166 #[x.v, y.v] w fun e w' => e = .returned (.int .i64 (rowsV x.k.l y.k.l)) ∧ Kp [] w w' := by
 obtain ⟨⟨xka, xkc, xkl⟩, ⟨xra, xrc, xrl⟩⟩ := x;obtain ⟨⟨yka, ykc, ykl⟩, ⟨yra, yrc, yrl⟩⟩ := y;obtain ⟨w1, hw1, k1, b1⟩ : ∃ w1, w.alloc (.cells #[.slice xka xkl.length xkc, .slice xra xrl.length xrc] 206) = w1 ∧ Kp [] w w1 ∧ Bn w1 w.heap.size [.slice xka xkl.length xkc, .slice xra xrl.length xrc] := ⟨_, rfl, (Kp.refl _ _).alloc _, Bn.new w _ _⟩
 obtain ⟨w2, hw2, k2, b2⟩ : ∃ w2, w1.alloc (.cells #[.slice yka ykl.length ykc, .slice yra yrl.length yrc] 206) = w2 ∧ Kp [] w1 w2 ∧ Bn w2 w1.heap.size [.slice yka ykl.length ykc, .slice yra yrl.length yrc] := ⟨_, rfl, (Kp.refl _ _).alloc _, Bn.new w1 _ _⟩
 obtain ⟨q3, hq3⟩ : ∃ q, w.heap.size = q := ⟨_, rfl⟩
 obtain ⟨q4, hq4⟩ : ∃ q, w1.heap.size = q := ⟨_, rfl⟩
 rw [hq3] at b1;rw [hq4] at b2;have b12 := b1.kept k2
 have a0 := b12.get 0 _ rfl
 have a1 := b2.get 0 _ rfl
 have K2 := hid (k1.trans k2 (by simp))
 have cR := hid (cRows xka yka xkc ykc xkl ykl w2 (hx.k.see.kept K2.out) (hy.k.see.kept K2.out) h1 h2)
 clear hx hy b1 b2 b12 k1 k2;unfold Mb.v
 dsimp only at *;go_enter Tryz.func166, Tryz.ntmps166
 go_wp2_with fail;refine cR.out.mono ?_;rintro e w3 ⟨rfl, k3⟩;have K3 := hid (K2.out.trans k3 (by simp))
 clear cR k3;go_wp2_with fail;go_ret;exact ⟨rfl, K3.out⟩
end Go.Proofs.YtcgkkofmnajedaaGreatDoor
end

/- What the proof stands on: contracts of functions that the statement calls, and plain lemmas. No statement of the seat is proved here. -/
import Derived.Test.YtlgfekjoknbfdaaGreatDoorB5
import Derived.Deep.RegionHeld3
import Derived.Deep.Cut
import Derived.Deep.CutRange
set_option maxHeartbeats 64000000
set_option maxRecDepth 100000
set_option linter.unusedVariables false
set_option linter.unusedSimpArgs false
section
namespace Go.Proofs.YtlgfekjoknbfdaaGreatDoor
open Go.RowKit Go.Hay
theorem cSwapR (g o n cap : Nat) (A : Nat → Vs) (p : Nat → Nat) (a b m : Nat) (f : Value) (w : World) (h : Hd w g o n cap A p) (h1 : a + m ≤ b) (h2 : b + m ≤ n) (hn : n ≤ 4000000000000) (hcap : n ≤ cap) : Calls Tryz.prog 186 #[.slice (some ⟨g, o, none⟩) n cap, .int .i64 (a : Int), .int .i64 (b : Int), .int .i64 (m : Int), f] w fun e w' => (∃ v, e = .returned v) ∧ Hd w' g o n cap A (fun k => p (swR a b m k)) ∧ Kp [g] w w' := by
 have HH := hid h
 clear h;go_enter Tryz.func186, Tryz.ntmps186
 go_wp2_with fail;go_loopw [10] (fun iv wr => ∃ i : Nat, i ≤ m ∧ iv = .int .i64 (i : Int) ∧ Hid (Hd wr g o n cap A (fun k => p (swR a b i k)) ∧ Kp [g] w wr)) (fun iv _ => m - (intOf iv).toNat)
 case atStart => exact ⟨0, Nat.zero_le _, rfl, hid ⟨by rw [swR_zero]; exact HH.out, Kp.refl _ _⟩⟩
 case round =>
  obtain ⟨i, hi, rfl, hr⟩ := hrel
  by_cases hlt : i < m
  ·obtain ⟨x, hx⟩ : ∃ x : Nat, x = a + i := ⟨_, rfl⟩
   obtain ⟨y, hy⟩ : ∃ y : Nat, y = b + i := ⟨_, rfl⟩
   have ex : (a : Int) + (i : Int) = (x : Int) := by omega
   have ey : (b : Int) + (i : Int) = (y : Int) := by omega
   have hxn : x < n := by omega
   have hyn : y < n := by omega
   have b1 : (-9223372036854775808 : Int) ≤ (a : Int) + (i : Int) := by omega
   have b2 : (a : Int) + (i : Int) ≤ 9223372036854775807 := by omega
   have b3 : (-9223372036854775808 : Int) ≤ (b : Int) + (i : Int) := by omega
   have b4 : (b : Int) + (i : Int) ≤ 9223372036854775807 := by omega
   have i1 : (0 : Int) ≤ (x : Int) := by omega
   have i2 : (x : Int) < (n : Int) := by omega
   have i3 : (0 : Int) ≤ (y : Int) := by omega
   have i4 : (y : Int) < (n : Int) := by omega
   have i5 : (i : Int) + 1 ≤ 9223372036854775807 := by omega
   have i6 : (i : Int) < (m : Int) := by omega
   have wx : IntKind.i64.wrap ((a : Int) + (i : Int)) = (x : Int) := by rw [ex, IntKind.wrap_i64]; omega
   have wy : IntKind.i64.wrap ((b : Int) + (i : Int)) = (y : Int) := by rw [ey, IntKind.wrap_i64]; omega
   have wx2 : IntKind.i64.wrap (x : Int) = (x : Int) := by rw [IntKind.wrap_i64]; omega
   have wy2 : IntKind.i64.wrap (y : Int) = (y : Int) := by rw [IntKind.wrap_i64]; omega
   obtain ⟨P, hP⟩ : ∃ P, Hid (P = fun k => p (swR a b i k)) := ⟨_, hid rfl⟩
   have hd := hr.out.1
   have kr := hid hr.out.2
   rw [← hP.out] at hd;have HX := hid (And.intro hx hy)
   clear hx hy hr;go_wp2_with fail;refine wp_region_held_drew (S := fun _ => True) (by kernel_rfl) trivial (fun hHeld => ?_)
   have KD : Kp [] wr wr.drew := (Kp.refl [] wr).drew
   have hd2 := hd.kept KD
   generalize wr.drew = Wd at *
   obtain ⟨x0, fx0⟩ := hd2.cells x (by omega)
   obtain ⟨y0, fy0⟩ := hd2.cells y (by omega)
   have hsw := hd2.swap x y (by omega) (by omega)
   have hpc := put1_cells hd2 x y (by omega) (by omega)
   obtain ⟨V1, hV1⟩ : ∃ V, V = A (P x) := ⟨_, rfl⟩
   obtain ⟨V2, hV2⟩ : ∃ V, V = A (P y) := ⟨_, rfl⟩
   rw [← hV1] at x0 hsw;rw [← hV2] at y0 hsw;replace hpc := hpc V2
   obtain ⟨⟨u0, hu0⟩, gu0⟩ := hpc 0 (by omega)
   try simp only [Nat.add_zero] at hu0 gu0
   obtain ⟨W1, eW1⟩ : ∃ Y, (Wd.setCell ⟨g, o + x, none⟩ (.slice V2.a V2.l.length V2.c)) = Y := ⟨_, rfl⟩
   have eP1 : put1 Wd g (o + x) V2 = W1 := eW1
   obtain ⟨W2, eW2⟩ : ∃ Y, (W1.setCell ⟨g, o + y, none⟩ (.slice V1.a V1.l.length V1.c)) = Y := ⟨_, rfl⟩
   have eP2 : put1 W1 g (o + y) V1 = W2 := eW2
   have kP1 : Kp [g] Wd W1 := by rw [← eP1]; exact put1_kp _ _ _ _
   have kP2 : Kp [g] W1 W2 := by rw [← eP2]; exact put1_kp _ _ _ _
   simp only [eP1] at hu0 gu0 hsw;simp only [eP2] at hsw;have zW1 := kP1.size
   have HSW := hid (And.intro hsw (kP1.trans kP2 (by simp)))
   have zg : g < Wd.heap.size := hd2.lt
   have zg1 : g < W1.heap.size := by omega
   clear hpc hsw eP1 eP2 kP1 kP2 hV1 hV2 zW1;obtain ⟨a1, c1, l1⟩ := V1;obtain ⟨a2, c2, l2⟩ := V2;dsimp only at *
   have hfin : Hid (Hd W2 g o n cap A (fun k => p (swR a b (i + 1) k)) ∧ Kp [g] w W2) := hid ⟨by
    have := HSW.out.1
    rw [hP.out] at this;rw [swR_succ a b i (by omega), ← HX.out.1, ← HX.out.2]
    exact this, (kr.out.trans KD (by simp)).trans HSW.out.2 (by simp)⟩
   clear hd hd2 HSW hP kr KD HX;refine tkH ?_ 0 rfl (by kernel_rfl) (fun _ _ _ h => h) (by rfl) ?_ ‹_› ?_;rotate_left
   ·intro w h; (try dsimp only at h); go_simp <;> with_reducible rfl
   (try simp only [Act.put, lz]);refine tkH ?_ 1 rfl (by kernel_rfl) (fun _ _ _ h => h) (by rfl) ?_ ‹_› ?_;rotate_left
   ·intro w h; (try dsimp only at h); go_simp <;> with_reducible rfl
   (try simp only [Act.put, lz]);refine tkH ?_ 2 rfl (by kernel_rfl) (fun _ _ _ h => h) (by rfl) ?_ ‹_› ?_;rotate_left
   ·intro w h; (try dsimp only at h); go_simp <;> with_reducible rfl
   (try simp only [Act.put, lz]);refine tkH ?_ 3 rfl (by kernel_rfl) (fun _ _ _ h => h) (by rfl) ?_ ‹_› ?_;rotate_left
   ·intro w hSw; (try dsimp only at hSw); go_simp <;> (try simp only [wx, wy, wx2, wy2]) <;> with_reducible rfl
   (try simp only [Act.put, lz]);try simp only [wx, wy, wx2, wy2]
   refine tkH ?_ 4 rfl (by kernel_rfl) (fun _ _ _ h => h) (by rfl) ?_ ‹_› ?_;rotate_left
   ·intro w h; (try dsimp only at h); go_simp <;> with_reducible rfl
   (try simp only [Act.put, lz]);refine tkH ?_ 5 rfl (by kernel_rfl) (fun _ _ _ h => h) (by rfl) ?_ ‹_› ?_;rotate_left
   ·intro w h; (try dsimp only at h); go_simp <;> with_reducible rfl
   (try simp only [Act.put, lz]);refine tkH ?_ 6 rfl (by kernel_rfl) (fun _ _ _ h => h) (by rfl) ?_ ‹_› ?_;rotate_left
   ·intro w h; (try dsimp only at h); go_simp <;> with_reducible rfl
   (try simp only [Act.put, lz]);refine tkH ?_ 7 rfl (by kernel_rfl) (fun _ _ _ h => h) (by rfl) ?_ ‹_› ?_;rotate_left
   ·intro w hSw; (try dsimp only at hSw); go_simp <;> (try simp only [wx, wy, wx2, wy2]) <;> with_reducible rfl
   (try simp only [Act.put, lz]);try simp only [wx, wy, wx2, wy2]
   refine tkH ?_ 8 rfl (by kernel_rfl) (fun _ _ _ h => h) (by rfl) ?_ ‹_› ?_;rotate_left
   ·intro w h; (try dsimp only at h); go_simp <;> with_reducible rfl
   (try simp only [Act.put, lz]);refine tkH ?_ 9 rfl (by kernel_rfl) (fun _ _ _ h => h) (by rfl) ?_ ‹_› ?_;rotate_left
   ·intro w h; (try dsimp only at h); go_simp <;> with_reducible rfl
   (try simp only [Act.put, lz]);refine tkH ?_ 10 rfl (by kernel_rfl) (fun _ _ _ h => h) (by rfl) ?_ ‹_› ?_;rotate_left
   ·intro w h; (try dsimp only at h); go_simp <;> with_reducible rfl
   (try simp only [Act.put, lz]);refine tkH ?_ 11 rfl (by kernel_rfl) (fun _ _ _ h => h) (by rfl) ?_ ‹_› ?_;rotate_left
   ·intro w hSw; (try dsimp only at hSw); go_simp <;> (try simp only [wx, wy, wx2, wy2]) <;> with_reducible rfl
   (try simp only [Act.put, lz]);try simp only [wx, wy, wx2, wy2]
   refine tkH ?_ 12 rfl (by kernel_rfl) (fun _ _ _ h => h) (by rfl) ?_ ‹_› ?_;rotate_left
   ·intro w h; (try dsimp only at h); go_simp <;> with_reducible rfl
   (try simp only [Act.put, lz]);refine tkH ?_ 14 rfl (by kernel_rfl) (fun _ _ _ h => h) (by rfl) ?_ ‹_› ?_;rotate_left
   ·intro w h; (try dsimp only at h); go_simp <;> with_reducible rfl
   (try simp only [Act.put, lz]);refine tkH ?_ 15 rfl (by kernel_rfl) (fun _ _ _ h => h) (by rfl) ?_ ‹_› ?_;rotate_left
   ·intro w h; (try dsimp only at h); go_simp <;> with_reducible rfl
   (try simp only [Act.put, lz]);refine tkH ?_ 16 rfl (by kernel_rfl) (fun _ _ _ h => h) (by rfl) ?_ ‹_› ?_;rotate_left
   ·intro w h; (try dsimp only at h); go_simp <;> with_reducible rfl
   (try simp only [Act.put, lz]);refine tkH ?_ 17 rfl (by kernel_rfl) (fun _ _ _ h => h) (by rfl) ?_ ‹_› ?_;rotate_left
   ·intro w hSw; (try dsimp only at hSw); go_simp <;> (try simp only [wx, wy, wx2, wy2]) <;> with_reducible rfl
   (try simp only [Act.put, lz]);try simp only [wx, wy, wx2, wy2]
   refine tkH ?_ 18 rfl (by kernel_rfl) (fun _ _ _ h => h) (by rfl) ?_ ‹_› ?_;rotate_left
   ·intro w h; (try dsimp only at h); go_simp <;> with_reducible rfl
   (try simp only [Act.put, lz]);refine wpAnyH_ready (rs := [13, 19]) (by kernel_rfl) (by simp) ?_
   refine AllReadyH.cons rfl (fun K hK => ?_) (AllReadyH.cons rfl (fun K hK => ?_) AllReadyH.nil)
   ·go_simp
    (try go_wp2_with fail);refine hK.out _ _ trivial (fun hHeld => ?_)
    clear hK K;(try simp only [Act.put, lz]);refine rdH 19 (by kernel_rfl) rfl fun K hK => ?_
    go_simp;(try go_wp2_with fail);refine hK.out _ _ trivial (fun hHeld => ?_)
    clear hK K;(try simp only [Act.put, lz]);refine tkH ?_ 20 rfl (by kernel_rfl) (fun _ _ _ h => h) (by rfl) ?_ ‹_› ?_;rotate_left
    ·intro w h; (try dsimp only at h); go_simp <;> with_reducible rfl
    (try simp only [Act.put, lz]);refine rdH 21 (by kernel_rfl) rfl fun K hK => ?_
    go_simp;(try go_wp2_with fail);refine hK.out _ _ trivial (fun hHeld => ?_)
    clear hK K;(try simp only [Act.put, lz]);refine tkH ?_ 22 rfl (by kernel_rfl) (fun _ _ _ h => h) (by rfl) ?_ ‹_› ?_;rotate_left
    ·intro w h; (try dsimp only at h); go_simp <;> with_reducible rfl
    (try simp only [Act.put, lz]);refine rdH 23 (by kernel_rfl) rfl fun K hK => ?_
    go_simp;(try go_wp2_with fail);refine hK.out _ _ trivial (fun hHeld => ?_)
    clear hK K;(try simp only [Act.put, lz]);refine wpAnyH_done (by kernel_rfl) ?_ _
    clear hHeld;go_wp2_with fail;exact ⟨⟨i + 1, by omega, by go_num, hfin⟩, by simp [intOf]; omega⟩
   ·go_simp
    (try go_wp2_with fail);refine hK.out _ _ trivial (fun hHeld => ?_)
    clear hK K;(try simp only [Act.put, lz]);refine rdH 13 (by kernel_rfl) rfl fun K hK => ?_
    go_simp;(try go_wp2_with fail);refine hK.out _ _ trivial (fun hHeld => ?_)
    clear hK K;(try simp only [Act.put, lz]);refine tkH ?_ 20 rfl (by kernel_rfl) (fun _ _ _ h => h) (by rfl) ?_ ‹_› ?_;rotate_left
    ·intro w h; (try dsimp only at h); go_simp <;> with_reducible rfl
    (try simp only [Act.put, lz]);refine rdH 21 (by kernel_rfl) rfl fun K hK => ?_
    go_simp;(try go_wp2_with fail);refine hK.out _ _ trivial (fun hHeld => ?_)
    clear hK K;(try simp only [Act.put, lz]);refine tkH ?_ 22 rfl (by kernel_rfl) (fun _ _ _ h => h) (by rfl) ?_ ‹_› ?_;rotate_left
    ·intro w h; (try dsimp only at h); go_simp <;> with_reducible rfl
    (try simp only [Act.put, lz]);refine rdH 23 (by kernel_rfl) rfl fun K hK => ?_
    go_simp;(try go_wp2_with fail);refine hK.out _ _ trivial (fun hHeld => ?_)
    clear hK K;(try simp only [Act.put, lz]);refine wpAnyH_done (by kernel_rfl) ?_ _
    clear hHeld;go_wp2_with fail;exact ⟨⟨i + 1, by omega, by go_num, hfin⟩, by simp [intOf]; omega⟩
  ·have e : i = m := by omega
   subst e;go_wp2_with fail;go_end0
   exact ⟨⟨_, rfl⟩, hr.out.1, hr.out.2⟩
theorem cRot (g o n cap : Nat) (A : Nat → Vs) (p : Nat → Nat) (a m b : Nat) (f : Value) (w : World) (h : Hd w g o n cap A p) (h1 : a < m) (h2 : m < b) (h3 : b ≤ n) (hn : n ≤ 4000000000000) (hcap : n ≤ cap) : Calls Tryz.prog 181 #[.slice (some ⟨g, o, none⟩) n cap, .int .i64 (a : Int), .int .i64 (m : Int), .int .i64 (b : Int), f] w fun e w' => (∃ v, e = .returned v) ∧ Hd w' g o n cap A (fun k => p (rot a m b k)) ∧ Kp [g] w w' := by
 have HH := hid h
 obtain ⟨i0, hi0⟩ : ∃ i : Nat, i = m - a := ⟨_, rfl⟩
 obtain ⟨j0, hj0⟩ : ∃ j : Nat, j = b - m := ⟨_, rfl⟩
 have ei : (m : Int) - (a : Int) = (i0 : Int) := by omega
 have ej : (b : Int) - (m : Int) = (j0 : Int) := by omega
 have q1 : (-9223372036854775808 : Int) ≤ (m : Int) - (a : Int) := by omega
 have q2 : (m : Int) - (a : Int) ≤ 9223372036854775807 := by omega
 have q3 : (-9223372036854775808 : Int) ≤ (b : Int) - (m : Int) := by omega
 have q4 : (b : Int) - (m : Int) ≤ 9223372036854775807 := by omega
 have hst : Hid ((fun k => rot (m - i0) m (m + j0) k) = rot a m b) := hid (by rw [show m - i0 = a by omega, show m + j0 = b by omega])
 have hb0 : 1 ≤ i0 ∧ 1 ≤ j0 ∧ i0 ≤ m ∧ m + j0 ≤ n := by omega
 clear h hi0 hj0;go_enter Tryz.func181, Tryz.ntmps181
 go_wp2_with fail;clear ei ej q1 q2 q3 q4;go_loopw [10, 11] (fun iv jv wr => ∃ (i j : Nat) (s : Nat → Nat), (1 ≤ i ∧ 1 ≤ j ∧ i ≤ m ∧ m + j ≤ n) ∧ iv = .int .i64 (i : Int) ∧ jv = .int .i64 (j : Int) ∧ Hid ((fun k => s (rot (m - i) m (m + j) k)) = rot a m b) ∧ Hid (Hd wr g o n cap A (fun k => p (s k)) ∧ Kp [g] w wr)) (fun iv jv _ => (intOf iv).toNat + (intOf jv).toNat)
 case atStart => exact ⟨i0, j0, fun k => k, hb0, rfl, rfl, hst, hid ⟨HH.out, Kp.refl _ _⟩⟩
 case round =>
  obtain ⟨i, j, s, ⟨bi, bj, bm, bn⟩, rfl, rfl, hs, hr⟩ := hrel;clear hb0 hst;obtain ⟨x, hx⟩ : ∃ x : Nat, x = m - i := ⟨_, rfl⟩
  have ex : (m : Int) - (i : Int) = (x : Int) := by omega
  have q1 : (-9223372036854775808 : Int) ≤ (m : Int) - (i : Int) := by omega
  have q2 : (m : Int) - (i : Int) ≤ 9223372036854775807 := by omega
  by_cases hij : i = j
  ·subst hij
   have hne : ((i : Int) != (i : Int)) = false := by simp
   have cS := hid (cSwapR g o n cap A (fun k => p (s k)) x m i f wr hr.out.1 (by omega) (by omega) hn hcap)
   have hs2 : Hid ((fun k => s (swR x m i k)) = rot a m b) := hid (by rw [← hs.out, rot_end m i bm, hx])
   have KR := hid hr.out.2
   clear hx hs hr;go_wp2_with fail;refine cS.out.mono ?_;rintro e w1 ⟨⟨v, rfl⟩, hd, k1⟩;have HF := hid (And.intro hd (KR.out.trans k1 (by simp)))
   clear hd k1;go_wp2_with fail;go_end0
   refine ⟨⟨_, rfl⟩, ?_, HF.out.2⟩;rw [← hs2.out];exact HF.out.1
  have hne : ((i : Int) != (j : Int)) = true := by simp; omega
  by_cases hgt : j < i
  ·have dg : decide ((j : Int) < (i : Int)) = true := by simp; omega
   have cS := hid (cSwapR g o n cap A (fun k => p (s k)) x m j f wr hr.out.1 (by omega) (by omega) hn hcap)
   have hs2 : Hid ((fun k => s (swR x m j (rot (m - (i - j)) m (m + j) k))) = rot a m b) := hid (by rw [← hs.out, rot_step1 m i j bm hgt, hx])
   have KR := hid hr.out.2
   obtain ⟨i', hi'⟩ : ∃ i' : Nat, i' = i - j := ⟨_, rfl⟩
   have ei : (i : Int) - (j : Int) = (i' : Int) := by omega
   have q3 : (-9223372036854775808 : Int) ≤ (i : Int) - (j : Int) := by omega
   have q4 : (i : Int) - (j : Int) ≤ 9223372036854775807 := by omega
   rw [← hi'] at hs2;have hb : 1 ≤ i' ∧ 1 ≤ j ∧ i' ≤ m ∧ m + j ≤ n := by omega
   have hdec : i' + j < i + j := by omega
   clear hx hs hr hi' hij;go_wp2_with fail;refine cS.out.mono ?_;rintro e w1 ⟨⟨v, rfl⟩, hd, k1⟩;have HF := hid (And.intro hd (KR.out.trans k1 (by simp)))
   clear hd k1;go_wp2_with fail;exact ⟨⟨i', j, fun k => s (swR x m j k), hb, rfl, rfl, hs2, HF⟩, by simp [intOf]; omega⟩
  ·have dg : decide ((j : Int) < (i : Int)) = false := by simp; omega
   obtain ⟨z, hz⟩ : ∃ z : Nat, z = m + j := ⟨_, rfl⟩
   obtain ⟨y, hy⟩ : ∃ y : Nat, y = m + j - i := ⟨_, rfl⟩
   have ez : (m : Int) + (j : Int) = (z : Int) := by omega
   have ey : (z : Int) - (i : Int) = (y : Int) := by omega
   have q5 : (-9223372036854775808 : Int) ≤ (m : Int) + (j : Int) := by omega
   have q6 : (m : Int) + (j : Int) ≤ 9223372036854775807 := by omega
   have q7 : (-9223372036854775808 : Int) ≤ (z : Int) - (i : Int) := by omega
   have q8 : (z : Int) - (i : Int) ≤ 9223372036854775807 := by omega
   have cS := hid (cSwapR g o n cap A (fun k => p (s k)) x y i f wr hr.out.1 (by omega) (by omega) hn hcap)
   have hs2 : Hid ((fun k => s (swR x y i (rot (m - i) m (m + (j - i)) k))) = rot a m b) := hid (by rw [← hs.out, rot_step2 m i j bm (by omega), hx, hy])
   have KR := hid hr.out.2
   obtain ⟨j', hj'⟩ : ∃ j' : Nat, j' = j - i := ⟨_, rfl⟩
   have ej : (j : Int) - (i : Int) = (j' : Int) := by omega
   have q3 : (-9223372036854775808 : Int) ≤ (j : Int) - (i : Int) := by omega
   have q4 : (j : Int) - (i : Int) ≤ 9223372036854775807 := by omega
   rw [← hj'] at hs2;have hb : 1 ≤ i ∧ 1 ≤ j' ∧ i ≤ m ∧ m + j' ≤ n := by omega
   have hdec : i + j' < i + j := by omega
   clear hx hs hr hj' hy hz hij;go_wp2_with fail;refine cS.out.mono ?_;rintro e w1 ⟨⟨v, rfl⟩, hd, k1⟩;have HF := hid (And.intro hd (KR.out.trans k1 (by simp)))
   clear hd k1;go_wp2_with fail;exact ⟨⟨i, j', fun k => s (swR x y i k), hb, rfl, rfl, hs2, HF⟩, by simp [intOf]; omega⟩
structure CmpOk (fid : Nat) (g n : Nat) (A : Nat → Vs) (cv : Value) (cf : Nat → Nat → Int) (Inv : World → Prop) : Prop where
 enter : ∀ args w, (callFunc fid args).run Tryz.prog w = .ok (.enter fid args) w
 calls : ∀ W x y, Inv W → x < n → y < n → Calls Tryz.prog fid #[(A x).v, (A y).v, cv] W fun e w' => e = .returned (.int .i64 (cf x y)) ∧ Kp [] W w'
 keep : ∀ W W', Inv W → Kp [g] W W' → Inv W'
 swo : Swo (fun x y => cf x y < 0)
theorem cIns {fid : Nat} (g o n cap : Nat) (A : Nat → Vs) (cv : Value) (cf : Nat → Nat → Int) (Inv : World → Prop) (hC : CmpOk fid g n A cv cf Inv) (p : Nat → Nat) (a b : Nat) (w : World) (h : Hd w g o n cap A p) (hI : Inv w) (hid0 : ∀ k, a ≤ k → k < b → p k = k) (h1 : a ≤ b) (h3 : b ≤ n) (hn : n ≤ 4000000000000) (hcap : n ≤ cap) : Calls Tryz.prog 169 #[.slice (some ⟨g, o, none⟩) n cap, .int .i64 (a : Int), .int .i64 (b : Int), .func (.func fid) #[] #[cv]] w fun e w' => (∃ v, e = .returned v) ∧ ∃ s, PermIn a b s ∧ Srt (fun x y => cf x y < 0) (fun k => p (s k)) a b ∧ Hd w' g o n cap A (fun k => p (s k)) ∧ Kp [g] w w' := by
 have HC := hid hC
 have hE := hC.enter
 have HI := hid hI
 have HH := hid h
 have HID := hid hid0
 have q1 : (-9223372036854775808 : Int) ≤ (a : Int) + 1 := by omega
 have q2 : (a : Int) + 1 ≤ 9223372036854775807 := by omega
 clear hC hI h hid0
 by_cases hab : a = b
 ·subst hab
  have d0 : decide ((a : Int) + 1 < (a : Int)) = false := by simp; omega
  have d1 : ¬ ((a : Int) + 1 < (a : Int)) := by omega
  go_enter Tryz.func169, Tryz.ntmps169
  go_wp2_with fail;go_loopw [8, 9] (fun iv _ wr => iv = .int .i64 ((a : Int) + 1) ∧ wr = w) (fun _ _ _ => 0)
  case atStart => exact ⟨rfl, rfl⟩
  case round =>
   obtain ⟨rfl, rfl⟩ := hrel;go_wp2_with fail;go_end0
   exact ⟨⟨_, rfl⟩, fun k => k, PermIn.id _ _, Srt.one _ _ _ _ (by omega), HH.out, Kp.refl _ _⟩
 go_enter Tryz.func169, Tryz.ntmps169
 go_wp2_with fail;go_loopw [8, 9] (fun iv _ wr => ∃ (i : Nat) (s : Nat → Nat), (a + 1 ≤ i ∧ i ≤ b) ∧ iv = .int .i64 (i : Int) ∧ Hid (PermIn a i s ∧ Srt (fun x y => cf x y < 0) (fun k => p (s k)) a i) ∧ Hid (Hd wr g o n cap A (fun k => p (s k)) ∧ Kp [g] w wr)) (fun iv _ _ => b - (intOf iv).toNat)
 case atStart => exact ⟨a + 1, fun k => k, by omega, by go_num, hid ⟨PermIn.id _ _, Srt.one _ _ _ _ (by omega)⟩, hid ⟨HH.out, Kp.refl _ _⟩⟩
 case round =>
  obtain ⟨i, s, ⟨bi, bb⟩, rfl, hs, hr⟩ := hrel;clear q1 q2;have i5 : (i : Int) + 1 ≤ 9223372036854775807 := by omega
  by_cases hlt : i < b
  ·have i6 : (i : Int) < (b : Int) := by omega
   obtain ⟨P, hP⟩ : ∃ P, Hid (P = fun k => p (s k)) := ⟨_, hid rfl⟩
   rw [← hP.out] at hr hs;have hPi : Hid (P i = i) := hid (by rw [hP.out]; show p (s i) = i; rw [hs.out.1.2.1 i (by omega)]; exact HID.out i (by omega) hlt)
   have hPk : Hid (∀ k, a ≤ k → k < i → a ≤ P k ∧ P k < i) := hid (fun k g1 g2 => by
    rw [hP.out];show a ≤ p (s k) ∧ p (s k) < i
    have := hs.out.1.1 k g1 g2
    rw [HID.out (s k) this.1 (by omega)]
    exact this)
   have hLow : Hid (Low P a i (i + 1)) := hid (fun x y g1 g2 g3 g4 => by
    obtain rfl : y = i := by omega
    rw [hPi.out];exact (hPk.out x g1 g2).2)
   go_wp2_with fail;go_loopw [9] (fun jv wn => ∃ j : Nat, (a ≤ j ∧ j ≤ i) ∧ jv = .int .i64 (j : Int) ∧ Hid (j = i ∨ cf (P i) (P j) < 0) ∧ Hid (Hd wn g o n cap A (fun k => P (rot j i (i + 1) k)) ∧ Kp [g] w wn)) (fun jv _ => (intOf jv).toNat)
   case atStart => exact ⟨i, by omega, rfl, hid (.inl rfl), hid ⟨by rw [rot_left]; exact hr.out.1, hr.out.2⟩⟩
   case round =>
    obtain ⟨j, ⟨ja, ji⟩, rfl, hj, hw⟩ := hrel;clear hr
    by_cases hja : j = a
    ·have hfin : Hid (PermIn a (i + 1) (fun k => s (rot j i (i + 1) k)) ∧ Srt (fun x y => cf x y < 0) (fun k => p (s (rot j i (i + 1) k))) a (i + 1)) := hid ⟨(hs.out.1.mono (Nat.le_refl _) (by omega)).comp (rot_perm ja ji (by omega) (Nat.le_refl _)), by
      have := ins_left HC.out.swo ja ji hs.out.2 hLow.out hj.out (.inl hja)
      rw [hP.out] at this;exact this⟩
     have hw2 : Hid (Hd wr g o n cap A (fun k => p (s (rot j i (i + 1) k))) ∧ Kp [g] w wr) := hid ⟨by have := hw.out.1; rw [hP.out] at this; exact this, hw.out.2⟩
     have hne : decide ((a : Int) < (j : Int)) = false := by simp; omega
     have hneN : decide (a < j) = false := by simp; omega
     have hng : ¬ ((a : Int) < (j : Int)) := by omega
     clear hj hw hja;go_wp2_with fail;refine wp_region_held_drew (S := fun _ => True) (by kernel_rfl) trivial (fun hHeld => ?_)
     have hw3 : Hid (Hd wr.drew g o n cap A (fun k => p (s (rot j i (i + 1) k))) ∧ Kp [g] w wr.drew) := hid ⟨hw2.out.1.kept (Kp.refl [] wr).drew, hw2.out.2.drew⟩
     generalize wr.drew = Wd at *
     clear hw2;refine tkH ?_ 0 rfl (by kernel_rfl) (fun _ _ _ h => h) (by rfl) ?_ ‹_› ?_;rotate_left
     ·intro w h; (try dsimp only at h); go_simp <;> with_reducible rfl
     (try simp only [Act.put, lz]);refine tkH ?_ 1 rfl (by kernel_rfl) (fun _ _ _ h => h) (by rfl) ?_ ‹_› ?_;rotate_left
     ·intro w h; (try dsimp only at h); go_simp <;> with_reducible rfl
     (try simp only [Act.put, lz]);refine tkH ?_ 2 rfl (by kernel_rfl) (fun _ _ _ h => h) (by rfl) ?_ ‹_› ?_;rotate_left
     ·intro w hSw; (try dsimp only at hSw); go_simp <;> (try simp only [hne, hneN]) <;> with_reducible rfl
     (try simp only [Act.put, lz]);try simp only [hne, hneN]
     refine tkH ?_ 3 rfl (by kernel_rfl) (fun _ _ _ h => h) (by rfl) ?_ ‹_› ?_;rotate_left
     ·intro w h; (try dsimp only at h); go_simp <;> with_reducible rfl
     (try simp only [Act.put, lz]);refine tkU 4 rfl (by kernel_rfl) (fun _ _ _ h => h) (by rfl) ‹_› ?_
     (try simp only [Act.put, lz]);refine tkU 5 rfl (by kernel_rfl) (fun _ _ _ h => h) (by rfl) ‹_› ?_
     (try simp only [Act.put, lz]);refine tkU 6 rfl (by kernel_rfl) (fun _ _ _ h => h) (by rfl) ‹_› ?_
     (try simp only [Act.put, lz]);refine tkU 7 rfl (by kernel_rfl) (fun _ _ _ h => h) (by rfl) ‹_› ?_
     (try simp only [Act.put, lz]);refine tkU 8 rfl (by kernel_rfl) (fun _ _ _ h => h) (by rfl) ‹_› ?_
     (try simp only [Act.put, lz]);refine tkU 9 rfl (by kernel_rfl) (fun _ _ _ h => h) (by rfl) ‹_› ?_
     (try simp only [Act.put, lz]);refine tkU 10 rfl (by kernel_rfl) (fun _ _ _ h => h) (by rfl) ‹_› ?_
     (try simp only [Act.put, lz]);refine tkU 11 rfl (by kernel_rfl) (fun _ _ _ h => h) (by rfl) ‹_› ?_
     (try simp only [Act.put, lz]);refine tkU 12 rfl (by kernel_rfl) (fun _ _ _ h => h) (by rfl) ‹_› ?_
     (try simp only [Act.put, lz]);refine tkU 13 rfl (by kernel_rfl) (fun _ _ _ h => h) (by rfl) ‹_› ?_
     (try simp only [Act.put, lz]);refine tkU 14 rfl (by kernel_rfl) (fun _ _ _ h => h) (by rfl) ‹_› ?_
     (try simp only [Act.put, lz]);refine tkU 15 rfl (by kernel_rfl) (fun _ _ _ h => h) (by rfl) ‹_› ?_
     (try simp only [Act.put, lz]);refine tkH ?_ 16 rfl (by kernel_rfl) (fun _ _ _ h => h) (by rfl) ?_ ‹_› ?_;rotate_left
     ·intro w h; (try dsimp only at h); go_simp <;> with_reducible rfl
     (try simp only [Act.put, lz]);refine wpAnyH_done (by kernel_rfl) ?_ _
     clear hHeld;go_wp2_with fail;exact ⟨⟨i + 1, fun k => s (rot j i (i + 1) k), by omega, by go_num, hfin, hw3⟩, by simp [intOf]; omega⟩
    obtain ⟨y, hy⟩ : ∃ y : Nat, y = j - 1 := ⟨_, rfl⟩
    have ey : (j : Int) - 1 = (y : Int) := by omega
    have wy : IntKind.i64.wrap ((j : Int) - 1) = (y : Int) := by rw [ey, IntKind.wrap_i64]; omega
    have wy2 : IntKind.i64.wrap (y : Int) = (y : Int) := by rw [IntKind.wrap_i64]; omega
    have dg : decide ((a : Int) < (j : Int)) = true := by simp; omega
    have dgN : decide (a < j) = true := by simp; omega
    have dg2 : (a : Int) < (j : Int) := by omega
    have i1 : (0 : Int) ≤ (j : Int) := by omega
    have i2 : (j : Int) < (n : Int) := by omega
    have i3 : (0 : Int) ≤ (y : Int) := by omega
    have i4 : (y : Int) < (n : Int) := by omega
    have b1 : (-9223372036854775808 : Int) ≤ (j : Int) - 1 := by omega
    have b2 : (j : Int) - 1 ≤ 9223372036854775807 := by omega
    have hjy : j = y + 1 := by omega
    obtain ⟨Q, hQ⟩ : ∃ Q, Hid (Q = fun k => P (rot j i (i + 1) k)) := ⟨_, hid rfl⟩
    have hQj : Hid (Q j = P i) := hid (by rw [hQ.out]; show P (rot j i (i + 1) j) = P i; rw [rot_first j i (i + 1) j (by omega) (by omega) ji (by omega), show j + (i - j) = i by omega])
    have hQy : Hid (Q y = P y) := hid (by rw [hQ.out]; show P (rot j i (i + 1) y) = P y; rw [rot_out j i (i + 1) y (by omega)])
    rw [← hQ.out] at hw
    have hQn : Q j < n ∧ Q y < n := by
     rw [hQj.out, hQy.out, hPi.out];have := hPk.out y (by omega) (by omega)
     omega
    have cC := hid (fun W' (k : Kp [] wr W') => HC.out.calls W' (Q j) (Q y) (HC.out.keep _ _ HI.out (hw.out.2.trans k (by simp))) hQn.1 hQn.2)
    obtain ⟨x0, _⟩ := hw.out.1.cells j (by omega)
    obtain ⟨y0, _⟩ := hw.out.1.cells y (by omega)
    obtain ⟨V1, hV1⟩ : ∃ V, Hid (V = A (Q j)) := ⟨_, hid rfl⟩
    obtain ⟨V2, hV2⟩ : ∃ V, Hid (V = A (Q y)) := ⟨_, hid rfl⟩
    rw [← hV1.out] at x0 cC;rw [← hV2.out] at y0 cC;obtain ⟨C, hCf⟩ : ∃ C, Hid (cf (Q j) (Q y) = C) := ⟨_, hid rfl⟩
    rw [hCf.out] at cC;obtain ⟨a1, c1, l1⟩ := V1;obtain ⟨a2, c2, l2⟩ := V2;simp only [Vs.v] at cC;dsimp only at *;have hF : Hid (∀ W', Kp [] wr W' → (W'.cell? ⟨g, o + j, none⟩ = some (.slice a1 l1.length c1) ∧ W'.cell? ⟨g, o + y, none⟩ = some (.slice a2 l2.length c2))) := fun W' k => ⟨kpAt k x0, kpAt k y0⟩
    have zg : g < wr.heap.size := hw.out.1.lt
    clear x0 y0;have HYJ := hid (And.intro hy hjy)
    have HJA := hid hja
    clear hy hjy hja;go_wp2_with fail;refine wp_region_held_drew (S := fun W' => W'.cell? ⟨g, o + j, none⟩ = some (.slice a1 l1.length c1) ∧ W'.cell? ⟨g, o + y, none⟩ = some (.slice a2 l2.length c2)) (by kernel_rfl) ?_ (fun hHeld => ?_)
    ·exact hF.out _ (Kp.refl [] wr).drew
    have KD : Hid (Kp [] wr wr.drew) := hid (Kp.refl [] wr).drew
    generalize wr.drew = Wd at *
    refine tkH ?_ 0 rfl (by kernel_rfl) (fun _ _ _ h => h) (by rfl) ?_ ‹_› ?_;rotate_left
    ·intro w h; (try dsimp only at h); go_simp <;> with_reducible rfl
    (try simp only [Act.put, lz]);refine tkH ?_ 1 rfl (by kernel_rfl) (fun _ _ _ h => h) (by rfl) ?_ ‹_› ?_;rotate_left
    ·intro w h; (try dsimp only at h); go_simp <;> with_reducible rfl
    (try simp only [Act.put, lz]);refine tkH ?_ 2 rfl (by kernel_rfl) (fun _ _ _ h => h) (by rfl) ?_ ‹_› ?_;rotate_left
    ·intro w hSw; (try dsimp only at hSw); go_simp <;> (try simp only [dg, dgN]) <;> with_reducible rfl
    (try simp only [Act.put, lz]);try simp only [dg, dgN]
    refine tkH ?_ 3 rfl (by kernel_rfl) (fun _ _ _ h => h) (by rfl) ?_ ‹_› ?_;rotate_left
    ·intro w h; (try dsimp only at h); go_simp <;> with_reducible rfl
    (try simp only [Act.put, lz]);refine tkH ?_ 4 rfl (by kernel_rfl) (fun _ _ _ h => h) (by rfl) ?_ ‹_› ?_;rotate_left
    ·intro w h; (try dsimp only at h); go_simp <;> with_reducible rfl
    (try simp only [Act.put, lz]);refine tkH ?_ 5 rfl (by kernel_rfl) (fun _ _ _ h => h) (by rfl) ?_ ‹_› ?_;rotate_left
    ·intro w h; (try dsimp only at h); go_simp <;> with_reducible rfl
    (try simp only [Act.put, lz]);refine tkH ?_ 6 rfl (by kernel_rfl) (fun _ _ _ h => h) (by rfl) ?_ ‹_› ?_;rotate_left
    ·intro w h; (try dsimp only at h); go_simp <;> with_reducible rfl
    (try simp only [Act.put, lz]);refine tkH ?_ 7 rfl (by kernel_rfl) (fun _ _ _ h => h) (by rfl) ?_ ‹_› ?_;rotate_left
    ·intro w h; (try dsimp only at h); go_simp <;> with_reducible rfl
    (try simp only [Act.put, lz]);refine tkH ?_ 8 rfl (by kernel_rfl) (fun _ _ _ h => h) (by rfl) ?_ ‹_› ?_;rotate_left
    ·intro w h; (try dsimp only at h); go_simp <;> with_reducible rfl
    (try simp only [Act.put, lz]);refine tkH ?_ 9 rfl (by kernel_rfl) (fun _ _ _ h => h) (by rfl) ?_ ‹_› ?_;rotate_left
    ·intro w h; (try dsimp only at h); go_simp <;> with_reducible rfl
    (try simp only [Act.put, lz]);refine tkH ?_ 10 rfl (by kernel_rfl) (fun _ _ _ h => h) (by rfl) ?_ ‹_› ?_;rotate_left
    ·intro w h; (try dsimp only at h); go_simp <;> with_reducible rfl
    (try simp only [Act.put, lz]);refine tkH ?_ 11 rfl (by kernel_rfl) (fun _ _ _ h => h) (by rfl) ?_ ‹_› ?_;rotate_left
    ·intro w hSw; (try dsimp only at hSw); go_simp <;> (try simp only [wy, wy2]) <;> with_reducible rfl
    (try simp only [Act.put, lz]);try simp only [wy, wy2]
    refine tkH ?_ 12 rfl (by kernel_rfl) (fun _ _ _ h => h) (by rfl) ?_ ‹_› ?_;rotate_left
    ·intro w h; (try dsimp only at h); go_simp <;> with_reducible rfl
    (try simp only [Act.put, lz]);refine tkH ?_ 13 rfl (by kernel_rfl) (fun _ _ _ h => h) (by rfl) ?_ ‹_› ?_;rotate_left
    ·intro w h; (try dsimp only at h); go_simp <;> with_reducible rfl
    (try simp only [Act.put, lz]);refine rdH 14 (by kernel_rfl) rfl fun K hK => ?_
    go_simp;refine (cC.out Wd KD.out).mono ?_;rintro e u1 ⟨rfl, l1'⟩;(try go_wp2_with fail);refine hK.out _ _ ?_ (fun hHeld => ?_)
    ·exact hF.out _ (KD.out.trans l1' (by simp))
    clear hK K;(try simp only [Act.put, lz]);have K1 := hid (KD.out.trans l1' (by simp))
    clear l1' KD;have hw1 : Hid (Hd u1 g o n cap A Q ∧ Kp [g] w u1) := hid ⟨hw.out.1.kept K1.out, hw.out.2.trans K1.out (by simp)⟩
    by_cases hc0 : C < 0
    ·have dc : decide (C < 0) = true := by simpa using hc0
     refine tkH ?_ 15 rfl (by kernel_rfl) (fun _ _ _ h => h) (by rfl) ?_ ‹_› ?_;rotate_left
     ·intro w hSw; (try dsimp only at hSw); go_simp <;> (try simp only [dc]) <;> with_reducible rfl
     (try simp only [Act.put, lz]);try simp only [dc]
     refine tkH ?_ 16 rfl (by kernel_rfl) (fun _ _ _ h => h) (by rfl) ?_ ‹_› ?_;rotate_left
     ·intro w h; (try dsimp only at h); go_simp <;> with_reducible rfl
     (try simp only [Act.put, lz]);refine wpAnyH_done (by kernel_rfl) ?_ _
     have hj2 : Hid (y = i ∨ cf (P i) (P y) < 0) := hid (.inr (by rw [← hQj.out, ← hQy.out, hCf.out]; exact hc0))
     clear hHeld hF cC hj hw hc0;go_wp2_with fail;refine wp_region_held_drew (S := fun _ => True) (by kernel_rfl) trivial (fun hHeld => ?_)
     have KD2 : Kp [] u1 u1.drew := (Kp.refl [] u1).drew
     have hd2 := hw1.out.1.kept KD2
     have hk2 := hid (hw1.out.2.trans KD2 (by simp))
     generalize u1.drew = Wd2 at *
     clear KD2 hw1 hV1 hV2;obtain ⟨x0, fx0⟩ := hd2.cells j (by omega)
     obtain ⟨y0, fy0⟩ := hd2.cells y (by omega)
     have hsw := hd2.swap j y (by omega) (by omega)
     have hpc := put1_cells hd2 j y (by omega) (by omega)
     obtain ⟨U1, hU1⟩ : ∃ V, V = A (Q j) := ⟨_, rfl⟩
     obtain ⟨U2, hU2⟩ : ∃ V, V = A (Q y) := ⟨_, rfl⟩
     rw [← hU1] at x0 hsw;rw [← hU2] at y0 hsw;replace hpc := hpc U2
     obtain ⟨⟨u0, hu0⟩, gu0⟩ := hpc 0 (by omega)
     try simp only [Nat.add_zero] at hu0 gu0
     obtain ⟨W1, eW1⟩ : ∃ Y, (Wd2.setCell ⟨g, o + j, none⟩ (.slice U2.a U2.l.length U2.c)) = Y := ⟨_, rfl⟩
     have eP1 : put1 Wd2 g (o + j) U2 = W1 := eW1
     obtain ⟨W2, eW2⟩ : ∃ Y, (W1.setCell ⟨g, o + y, none⟩ (.slice U1.a U1.l.length U1.c)) = Y := ⟨_, rfl⟩
     have eP2 : put1 W1 g (o + y) U1 = W2 := eW2
     have kP1 : Kp [g] Wd2 W1 := by rw [← eP1]; exact put1_kp _ _ _ _
     have kP2 : Kp [g] W1 W2 := by rw [← eP2]; exact put1_kp _ _ _ _
     simp only [eP1] at hu0 gu0 hsw;simp only [eP2] at hsw;have zW1 := kP1.size
     have HSW := hid (And.intro hsw (kP1.trans kP2 (by simp)))
     have zg : g < Wd2.heap.size := hd2.lt
     have zg1 : g < W1.heap.size := by omega
     clear hpc hsw eP1 eP2 kP1 kP2 hU1 hU2 zW1;obtain ⟨a3, c3, l3⟩ := U1;obtain ⟨a4, c4, l4⟩ := U2;dsimp only at *
     have hfin : Hid (Hd W2 g o n cap A (fun k => P (rot y i (i + 1) k)) ∧ Kp [g] w W2) := hid ⟨by
      have := HSW.out.1
      rw [hQ.out] at this;rw [rot_pull y i (by have := HYJ.out; omega), ← HYJ.out.2]
      exact this, hk2.out.trans HSW.out.2 (by simp)⟩
     have hya : a ≤ y ∧ y ≤ i := by have := HYJ.out; have := HJA.out; omega
     have hyj : y < j := by have := HYJ.out; omega
     clear hd2 HSW hk2;refine tkH ?_ 0 rfl (by kernel_rfl) (fun _ _ _ h => h) (by rfl) ?_ ‹_› ?_;rotate_left
     ·intro w h; (try dsimp only at h); go_simp <;> with_reducible rfl
     (try simp only [Act.put, lz]);refine tkH ?_ 1 rfl (by kernel_rfl) (fun _ _ _ h => h) (by rfl) ?_ ‹_› ?_;rotate_left
     ·intro w h; (try dsimp only at h); go_simp <;> with_reducible rfl
     (try simp only [Act.put, lz]);refine tkH ?_ 2 rfl (by kernel_rfl) (fun _ _ _ h => h) (by rfl) ?_ ‹_› ?_;rotate_left
     ·intro w h; (try dsimp only at h); go_simp <;> with_reducible rfl
     (try simp only [Act.put, lz]);refine tkH ?_ 3 rfl (by kernel_rfl) (fun _ _ _ h => h) (by rfl) ?_ ‹_› ?_;rotate_left
     ·intro w h; (try dsimp only at h); go_simp <;> with_reducible rfl
     (try simp only [Act.put, lz]);refine tkH ?_ 4 rfl (by kernel_rfl) (fun _ _ _ h => h) (by rfl) ?_ ‹_› ?_;rotate_left
     ·intro w hSw; (try dsimp only at hSw); go_simp <;> (try simp only [wy, wy2]) <;> with_reducible rfl
     (try simp only [Act.put, lz]);try simp only [wy, wy2]
     refine tkH ?_ 5 rfl (by kernel_rfl) (fun _ _ _ h => h) (by rfl) ?_ ‹_› ?_;rotate_left
     ·intro w h; (try dsimp only at h); go_simp <;> with_reducible rfl
     (try simp only [Act.put, lz]);refine tkH ?_ 6 rfl (by kernel_rfl) (fun _ _ _ h => h) (by rfl) ?_ ‹_› ?_;rotate_left
     ·intro w h; (try dsimp only at h); go_simp <;> with_reducible rfl
     (try simp only [Act.put, lz]);refine tkH ?_ 7 rfl (by kernel_rfl) (fun _ _ _ h => h) (by rfl) ?_ ‹_› ?_;rotate_left
     ·intro w hSw; (try dsimp only at hSw); go_simp <;> (try simp only [wy, wy2]) <;> with_reducible rfl
     (try simp only [Act.put, lz]);try simp only [wy, wy2]
     refine tkH ?_ 8 rfl (by kernel_rfl) (fun _ _ _ h => h) (by rfl) ?_ ‹_› ?_;rotate_left
     ·intro w h; (try dsimp only at h); go_simp <;> with_reducible rfl
     (try simp only [Act.put, lz]);refine tkH ?_ 10 rfl (by kernel_rfl) (fun _ _ _ h => h) (by rfl) ?_ ‹_› ?_;rotate_left
     ·intro w h; (try dsimp only at h); go_simp <;> with_reducible rfl
     (try simp only [Act.put, lz]);refine tkH ?_ 11 rfl (by kernel_rfl) (fun _ _ _ h => h) (by rfl) ?_ ‹_› ?_;rotate_left
     ·intro w h; (try dsimp only at h); go_simp <;> with_reducible rfl
     (try simp only [Act.put, lz]);refine tkH ?_ 12 rfl (by kernel_rfl) (fun _ _ _ h => h) (by rfl) ?_ ‹_› ?_;rotate_left
     ·intro w h; (try dsimp only at h); go_simp <;> with_reducible rfl
     (try simp only [Act.put, lz]);refine wpAnyH_ready (rs := [9, 13]) (by kernel_rfl) (by simp) ?_
     refine AllReadyH.cons rfl (fun K hK => ?_) (AllReadyH.cons rfl (fun K hK => ?_) AllReadyH.nil)
     ·go_simp
      (try go_wp2_with fail);refine hK.out _ _ trivial (fun hHeld => ?_)
      clear hK K;(try simp only [Act.put, lz]);refine rdH 13 (by kernel_rfl) rfl fun K hK => ?_
      go_simp;(try go_wp2_with fail);refine hK.out _ _ trivial (fun hHeld => ?_)
      clear hK K;(try simp only [Act.put, lz]);refine tkH ?_ 14 rfl (by kernel_rfl) (fun _ _ _ h => h) (by rfl) ?_ ‹_› ?_;rotate_left
      ·intro w h; (try dsimp only at h); go_simp <;> with_reducible rfl
      (try simp only [Act.put, lz]);refine rdH 15 (by kernel_rfl) rfl fun K hK => ?_
      go_simp;(try go_wp2_with fail);refine hK.out _ _ trivial (fun hHeld => ?_)
      clear hK K;(try simp only [Act.put, lz]);refine tkH ?_ 16 rfl (by kernel_rfl) (fun _ _ _ h => h) (by rfl) ?_ ‹_› ?_;rotate_left
      ·intro w h; (try dsimp only at h); go_simp <;> with_reducible rfl
      (try simp only [Act.put, lz]);refine rdH 17 (by kernel_rfl) rfl fun K hK => ?_
      go_simp;(try go_wp2_with fail);refine hK.out _ _ trivial (fun hHeld => ?_)
      clear hK K;(try simp only [Act.put, lz]);refine wpAnyH_done (by kernel_rfl) ?_ _
      clear hHeld;go_wp2_with fail;exact ⟨⟨y, hya, by go_num, hj2, hfin⟩, by simp [intOf]; omega⟩
     ·go_simp
      (try go_wp2_with fail);refine hK.out _ _ trivial (fun hHeld => ?_)
      clear hK K;(try simp only [Act.put, lz]);refine rdH 9 (by kernel_rfl) rfl fun K hK => ?_
      go_simp;(try go_wp2_with fail);refine hK.out _ _ trivial (fun hHeld => ?_)
      clear hK K;(try simp only [Act.put, lz]);refine tkH ?_ 14 rfl (by kernel_rfl) (fun _ _ _ h => h) (by rfl) ?_ ‹_› ?_;rotate_left
      ·intro w h; (try dsimp only at h); go_simp <;> with_reducible rfl
      (try simp only [Act.put, lz]);refine rdH 15 (by kernel_rfl) rfl fun K hK => ?_
      go_simp;(try go_wp2_with fail);refine hK.out _ _ trivial (fun hHeld => ?_)
      clear hK K;(try simp only [Act.put, lz]);refine tkH ?_ 16 rfl (by kernel_rfl) (fun _ _ _ h => h) (by rfl) ?_ ‹_› ?_;rotate_left
      ·intro w h; (try dsimp only at h); go_simp <;> with_reducible rfl
      (try simp only [Act.put, lz]);refine rdH 17 (by kernel_rfl) rfl fun K hK => ?_
      go_simp;(try go_wp2_with fail);refine hK.out _ _ trivial (fun hHeld => ?_)
      clear hK K;(try simp only [Act.put, lz]);refine wpAnyH_done (by kernel_rfl) ?_ _
      clear hHeld;go_wp2_with fail;exact ⟨⟨y, hya, by go_num, hj2, hfin⟩, by simp [intOf]; omega⟩
    ·have dc : decide (C < 0) = false := by simpa using hc0
     refine tkH ?_ 15 rfl (by kernel_rfl) (fun _ _ _ h => h) (by rfl) ?_ ‹_› ?_;rotate_left
     ·intro w hSw; (try dsimp only at hSw); go_simp <;> (try simp only [dc]) <;> with_reducible rfl
     (try simp only [Act.put, lz]);try simp only [dc]
     refine tkH ?_ 16 rfl (by kernel_rfl) (fun _ _ _ h => h) (by rfl) ?_ ‹_› ?_;rotate_left
     ·intro w h; (try dsimp only at h); go_simp <;> with_reducible rfl
     (try simp only [Act.put, lz]);refine wpAnyH_done (by kernel_rfl) ?_ _
     have hfin : Hid (PermIn a (i + 1) (fun k => s (rot j i (i + 1) k)) ∧ Srt (fun x y => cf x y < 0) (fun k => p (s (rot j i (i + 1) k))) a (i + 1)) := hid ⟨(hs.out.1.mono (Nat.le_refl _) (by omega)).comp (rot_perm ja ji (by omega) (Nat.le_refl _)), by
      have := ins_left HC.out.swo ja ji hs.out.2 hLow.out hj.out (.inr (by rw [← HYJ.out.1, ← hQj.out, ← hQy.out, hCf.out]; exact hc0))
      rw [hP.out] at this;exact this⟩
     have hw2 : Hid (Hd u1 g o n cap A (fun k => p (s (rot j i (i + 1) k))) ∧ Kp [g] w u1) := hid ⟨by have := hw1.out.1; rw [hQ.out, hP.out] at this; exact this, hw1.out.2⟩
     clear hHeld hF cC hj hw hc0 hw1;go_wp2_with fail;exact ⟨⟨i + 1, fun k => s (rot j i (i + 1) k), by omega, by go_num, hfin, hw2⟩, by simp [intOf]; omega⟩
  ·have e : i = b := by omega
   subst e;go_wp2_with fail;go_end0
   exact ⟨⟨_, rfl⟩, s, hs.out.1, hs.out.2, hr.out.1, hr.out.2⟩
theorem cSymA {fid : Nat} (g o n cap : Nat) (A : Nat → Vs) (cv : Value) (cf : Nat → Nat → Int) (Inv : World → Prop) (hC : CmpOk fid g n A cv cf Inv) (p : Nat → Nat) (a m b : Nat) (w : World) (h : Hd w g o n cap A p) (hI : Inv w) (hpn : ∀ k, k < n → p k < n) (h1 : a < m) (h2 : m < b) (h3 : b ≤ n) (hA : Srt (fun x y => cf x y < 0) p a m) (hB : Srt (fun x y => cf x y < 0) p m b) (hLo : Low p a m b) (hn : n ≤ 4000000000000) (hcap : n ≤ cap) (hma : m ≤ a + 1) : Calls Tryz.prog 170 #[.slice (some ⟨g, o, none⟩) n cap, .int .i64 (a : Int), .int .i64 (m : Int), .int .i64 (b : Int), .func (.func fid) #[] #[cv]] w fun e w' => (∃ v, e = .returned v) ∧ ∃ s, PermIn a b s ∧ Srt (fun x y => cf x y < 0) (fun k => p (s k)) a b ∧ Hd w' g o n cap A (fun k => p (s k)) ∧ Kp [g] w w' := by
 have HC := hid hC
 have hE := hC.enter
 have HI := hid hI
 have HH := hid h
 have HPN := hid hpn
 have HSR := hid (And.intro hA (And.intro hB hLo))
 have q1 : (-9223372036854775808 : Int) ≤ (m : Int) - (a : Int) := by omega
 have q2 : (m : Int) - (a : Int) ≤ 9223372036854775807 := by omega
 clear hC hI h hpn hA hB hLo;have hm1 : (m : Int) - (a : Int) = 1 := by omega
 go_enter Tryz.func170, Tryz.ntmps170
 go_wp2_with fail;clear q1 q2 hm1;go_loopw [10, 11, 12] (fun iv jv _ wr => ∃ i j : Nat, (m ≤ i ∧ i ≤ j ∧ j ≤ b) ∧ iv = .int .i64 (i : Int) ∧ jv = .int .i64 (j : Int) ∧ Hid ((i = m ∨ cf (p (i - 1)) (p a) < 0) ∧ (j = b ∨ 0 ≤ cf (p j) (p a))) ∧ Hid (Hd wr g o n cap A p ∧ Kp [g] w wr)) (fun iv jv _ _ => (intOf jv).toNat - (intOf iv).toNat)
 case atStart => exact ⟨m, b, by omega, rfl, rfl, hid ⟨.inl rfl, .inl rfl⟩, hid ⟨HH.out, Kp.refl _ _⟩⟩
 case round =>
  obtain ⟨i, j, ⟨bi, bij, bj⟩, rfl, rfl, hs, hw⟩ := hrel
  by_cases hij : i < j
  ·have i0 : (i : Int) < (j : Int) := by omega
   obtain ⟨t, ht⟩ : ∃ t : Nat, t = i + j := ⟨_, rfl⟩
   obtain ⟨h, hh⟩ : ∃ h : Nat, h = t / 2 := ⟨_, rfl⟩
   have et : (i : Int) + (j : Int) = (t : Int) := by omega
   have et1 : (-9223372036854775808 : Int) ≤ (i : Int) + (j : Int) := by omega
   have et2 : (i : Int) + (j : Int) ≤ 9223372036854775807 := by omega
   have et3 : (0 : Int) ≤ (t : Int) := by omega
   have et4 : (t : Int) ≤ 9223372036854775807 := by omega
   have et5 : (t : Int) < 18446744073709551616 := by omega
   have eh : (t : Int) / 2 = (h : Int) := by omega
   have eh2 : (h : Int) ≤ 9223372036854775807 := by omega
   have eu : IntKind.u64.wrap (t : Int) = (t : Int) := by rw [IntKind.wrap_u64]; omega
   have ew : IntKind.i64.wrap (h : Int) = (h : Int) := by rw [IntKind.wrap_i64]; omega
   have ewt : IntKind.i64.wrap (t : Int) = (t : Int) := by rw [IntKind.wrap_i64]; omega
   have hhb : i ≤ h ∧ h < j := by omega
   have HT := hid (And.intro ht hh)
   clear ht hh;have i1 : (0 : Int) ≤ (h : Int) := by omega
   have i2 : (h : Int) < (n : Int) := by omega
   have i5 : (h : Int) + 1 ≤ 9223372036854775807 := by omega
   have i3 : (0 : Int) ≤ (a : Int) := by omega
   have i4 : (a : Int) < (n : Int) := by omega
   have cC := hid (fun W' (k : Kp [] wr W') => HC.out.calls W' (p h) (p a) (HC.out.keep _ _ HI.out (hw.out.2.trans k (by simp))) (HPN.out _ (by omega)) (HPN.out _ (by omega)))
   obtain ⟨x0, _⟩ := hw.out.1.cells h (by omega)
   obtain ⟨y0, _⟩ := hw.out.1.cells a (by omega)
   obtain ⟨V1, hV1⟩ : ∃ V, Hid (V = A (p h)) := ⟨_, hid rfl⟩
   obtain ⟨V2, hV2⟩ : ∃ V, Hid (V = A (p a)) := ⟨_, hid rfl⟩
   rw [← hV1.out] at x0 cC;rw [← hV2.out] at y0 cC;obtain ⟨C, hCf⟩ : ∃ C, Hid (cf (p h) (p a) = C) := ⟨_, hid rfl⟩
   rw [hCf.out] at cC;obtain ⟨a1, c1, l1⟩ := V1;obtain ⟨a2, c2, l2⟩ := V2;simp only [Vs.v] at cC;dsimp only at *;have hF : Hid (∀ W', Kp [] wr W' → (W'.cell? ⟨g, o + h, none⟩ = some (.slice a1 l1.length c1) ∧ W'.cell? ⟨g, o + a, none⟩ = some (.slice a2 l2.length c2))) := fun W' k => ⟨kpAt k x0, kpAt k y0⟩
   clear x0 y0 hV1 hV2;go_wp2_with fail;refine wp_region_held_drew (S := fun W' => W'.cell? ⟨g, o + h, none⟩ = some (.slice a1 l1.length c1) ∧ W'.cell? ⟨g, o + a, none⟩ = some (.slice a2 l2.length c2)) (by kernel_rfl) ?_ (fun hHeld => ?_)
   ·exact hF.out _ (Kp.refl [] wr).drew
   have KD : Hid (Kp [] wr wr.drew) := hid (Kp.refl [] wr).drew
   generalize wr.drew = Wd at *
   refine tkH ?_ 0 rfl (by kernel_rfl) (fun _ _ _ h => h) (by rfl) ?_ ‹_› ?_;rotate_left
   ·intro w h; (try dsimp only at h); go_simp <;> with_reducible rfl
   (try simp only [Act.put, lz]);refine tkH ?_ 1 rfl (by kernel_rfl) (fun _ _ _ h => h) (by rfl) ?_ ‹_› ?_;rotate_left
   ·intro w h; (try dsimp only at h); go_simp <;> with_reducible rfl
   (try simp only [Act.put, lz]);refine tkH ?_ 2 rfl (by kernel_rfl) (fun _ _ _ h => h) (by rfl) ?_ ‹_› ?_;rotate_left
   ·intro w h; (try dsimp only at h); go_simp <;> with_reducible rfl
   (try simp only [Act.put, lz]);refine tkH ?_ 3 rfl (by kernel_rfl) (fun _ _ _ h => h) (by rfl) ?_ ‹_› ?_;rotate_left
   ·intro w h; (try dsimp only at h); go_simp <;> with_reducible rfl
   (try simp only [Act.put, lz]);refine tkH ?_ 4 rfl (by kernel_rfl) (fun _ _ _ h => h) (by rfl) ?_ ‹_› ?_;rotate_left
   ·intro w h; (try dsimp only at h); go_simp <;> with_reducible rfl
   (try simp only [Act.put, lz]);refine tkH ?_ 5 rfl (by kernel_rfl) (fun _ _ _ h => h) (by rfl) ?_ ‹_› ?_;rotate_left
   ·intro w h; (try dsimp only at h); go_simp <;> with_reducible rfl
   (try simp only [Act.put, lz]);refine tkH ?_ 6 rfl (by kernel_rfl) (fun _ _ _ h => h) (by rfl) ?_ ‹_› ?_;rotate_left
   ·intro w h; (try dsimp only at h); go_simp <;> with_reducible rfl
   (try simp only [Act.put, lz]);refine tkH ?_ 7 rfl (by kernel_rfl) (fun _ _ _ h => h) (by rfl) ?_ ‹_› ?_;rotate_left
   ·intro w h; (try dsimp only at h); go_simp <;> with_reducible rfl
   (try simp only [Act.put, lz]);refine tkH ?_ 8 rfl (by kernel_rfl) (fun _ _ _ h => h) (by rfl) ?_ ‹_› ?_;rotate_left
   ·intro w h; (try dsimp only at h); go_simp <;> with_reducible rfl
   (try simp only [Act.put, lz]);refine rdH 9 (by kernel_rfl) rfl fun K hK => ?_
   go_simp;refine (cC.out Wd KD.out).mono ?_;rintro e u1 ⟨rfl, l1'⟩;(try go_wp2_with fail);refine hK.out _ _ ?_ (fun hHeld => ?_)
   ·exact hF.out _ (KD.out.trans l1' (by simp))
   clear hK K;(try simp only [Act.put, lz]);have K1 := hid (KD.out.trans l1' (by simp))
   clear l1' KD;have hw1 : Hid (Hd u1 g o n cap A p ∧ Kp [g] w u1) := hid ⟨hw.out.1.kept K1.out, hw.out.2.trans K1.out (by simp)⟩
   by_cases hc0 : C < 0
   ·have dc : decide (C < 0) = true := by simpa using hc0
    refine tkH ?_ 10 rfl (by kernel_rfl) (fun _ _ _ h => h) (by rfl) ?_ ‹_› ?_;rotate_left
    ·intro w hSw; (try dsimp only at hSw); go_simp <;> (try simp only [dc]) <;> with_reducible rfl
    (try simp only [Act.put, lz]);try simp only [dc]
    refine wpAnyH_done (by kernel_rfl) ?_ _
    have hs2 : Hid ((h + 1 = m ∨ cf (p (h + 1 - 1)) (p a) < 0) ∧ (j = b ∨ 0 ≤ cf (p j) (p a))) := hid ⟨.inr (by rw [Nat.add_sub_cancel, hCf.out]; exact hc0), hs.out.2⟩
    clear hHeld hF cC hs hw hc0;go_wp2_with fail;exact ⟨⟨h + 1, j, by omega, by go_num, rfl, hs2, hw1⟩, by simp [intOf]; omega⟩
   ·have dc : decide (C < 0) = false := by simpa using hc0
    refine tkH ?_ 10 rfl (by kernel_rfl) (fun _ _ _ h => h) (by rfl) ?_ ‹_› ?_;rotate_left
    ·intro w hSw; (try dsimp only at hSw); go_simp <;> (try simp only [dc]) <;> with_reducible rfl
    (try simp only [Act.put, lz]);try simp only [dc]
    refine wpAnyH_done (by kernel_rfl) ?_ _
    have hs2 : Hid ((i = m ∨ cf (p (i - 1)) (p a) < 0) ∧ (h = b ∨ 0 ≤ cf (p h) (p a))) := hid ⟨hs.out.1, .inr (by rw [hCf.out]; omega)⟩
    clear hHeld hF cC hs hw hc0;go_wp2_with fail;exact ⟨⟨i, h, by omega, rfl, rfl, hs2, hw1⟩, by simp [intOf]; omega⟩
  ·have e : j = i := by omega
   subst e
   have hfin : Hid (PermIn a b (rot a (a + 1) j) ∧ Srt (fun x y => cf x y < 0) (fun k => p (rot a (a + 1) j k)) a b) := hid ⟨rot_perm (Nat.le_refl _) (by omega) (by omega) bj, by
    have em : m = a + 1 := by omega
    refine ins_right HC.out.swo (by omega) bj (em ▸ HSR.out.2.1) (em ▸ HSR.out.2.2) ?_ (hs.out.2.imp_right fun h => Int.not_lt.2 h)
    have := hs.out.1
    rwa [em] at this⟩
   have q3 : (-9223372036854775808 : Int) ≤ (j : Int) - 1 := by omega
   have q4 : (j : Int) - 1 ≤ 9223372036854775807 := by omega
   clear hs;go_wp2_with fail;go_loopw [13] (fun kv wn => ∃ k : Nat, (a ≤ k ∧ k + 1 ≤ j) ∧ kv = .int .i64 (k : Int) ∧ Hid (Hd wn g o n cap A (fun x => p (rot a (a + 1) (k + 1) x)) ∧ Kp [g] w wn)) (fun kv _ => j - (intOf kv).toNat)
   case atStart => exact ⟨a, by omega, rfl, hid ⟨by rw [rot_right a (a + 1) (by omega)]; exact hw.out.1, hw.out.2⟩⟩
   case round =>
    obtain ⟨k, ⟨bk, bk2⟩, rfl, hw3⟩ := hrel;clear hw
    by_cases hkj : k + 1 < j
    ·have d1 : decide ((k : Int) < (j : Int) - 1) = true := by simp; omega
     have d2 : (k : Int) < (j : Int) - 1 := by omega
     obtain ⟨y, hy⟩ : ∃ y : Nat, y = k + 1 := ⟨_, rfl⟩
     have ey : (k : Int) + 1 = (y : Int) := by omega
     have wy : IntKind.i64.wrap ((k : Int) + 1) = (y : Int) := by rw [ey, IntKind.wrap_i64]; omega
     have wy2 : IntKind.i64.wrap (y : Int) = (y : Int) := by rw [IntKind.wrap_i64]; omega
     have i1 : (0 : Int) ≤ (k : Int) := by omega
     have i2 : (k : Int) < (n : Int) := by omega
     have i3 : (0 : Int) ≤ (y : Int) := by omega
     have i4 : (y : Int) < (n : Int) := by omega
     have b1 : (-9223372036854775808 : Int) ≤ (k : Int) + 1 := by omega
     have b2 : (k : Int) + 1 ≤ 9223372036854775807 := by omega
     have HY := hid hy
     obtain ⟨Q, hQ⟩ : ∃ Q, Hid (Q = fun x => p (rot a (a + 1) (k + 1) x)) := ⟨_, hid rfl⟩
     rw [← hQ.out] at hw3;have hyb : y < n ∧ y + 1 ≤ j := by omega
     clear hy;go_wp2_with fail;refine wp_region_held_drew (S := fun _ => True) (by kernel_rfl) trivial (fun hHeld => ?_)
     have KD2 : Kp [] wr wr.drew := (Kp.refl [] wr).drew
     have hd2 := hw3.out.1.kept KD2
     have hk2 := hid (hw3.out.2.trans KD2 (by simp))
     generalize wr.drew = Wd2 at *
     clear KD2 hw3;obtain ⟨x0, fx0⟩ := hd2.cells k (by omega)
     obtain ⟨y0, fy0⟩ := hd2.cells y (by omega)
     have hsw := hd2.swap k y (by omega) (by omega)
     have hpc := put1_cells hd2 k y (by omega) (by omega)
     obtain ⟨U1, hU1⟩ : ∃ V, V = A (Q k) := ⟨_, rfl⟩
     obtain ⟨U2, hU2⟩ : ∃ V, V = A (Q y) := ⟨_, rfl⟩
     rw [← hU1] at x0 hsw;rw [← hU2] at y0 hsw;replace hpc := hpc U2
     obtain ⟨⟨u0, hu0⟩, gu0⟩ := hpc 0 (by omega)
     try simp only [Nat.add_zero] at hu0 gu0
     obtain ⟨W1, eW1⟩ : ∃ Y, (Wd2.setCell ⟨g, o + k, none⟩ (.slice U2.a U2.l.length U2.c)) = Y := ⟨_, rfl⟩
     have eP1 : put1 Wd2 g (o + k) U2 = W1 := eW1
     obtain ⟨W2, eW2⟩ : ∃ Y, (W1.setCell ⟨g, o + y, none⟩ (.slice U1.a U1.l.length U1.c)) = Y := ⟨_, rfl⟩
     have eP2 : put1 W1 g (o + y) U1 = W2 := eW2
     have kP1 : Kp [g] Wd2 W1 := by rw [← eP1]; exact put1_kp _ _ _ _
     have kP2 : Kp [g] W1 W2 := by rw [← eP2]; exact put1_kp _ _ _ _
     simp only [eP1] at hu0 gu0 hsw;simp only [eP2] at hsw;have zW1 := kP1.size
     have HSW := hid (And.intro hsw (kP1.trans kP2 (by simp)))
     have zg : g < Wd2.heap.size := hd2.lt
     have zg1 : g < W1.heap.size := by omega
     clear hpc hsw eP1 eP2 kP1 kP2 hU1 hU2 zW1;obtain ⟨a3, c3, l3⟩ := U1;obtain ⟨a4, c4, l4⟩ := U2;dsimp only at *
     have hfin2 : Hid (Hd W2 g o n cap A (fun x => p (rot a (a + 1) (y + 1) x)) ∧ Kp [g] w W2) := hid ⟨by
      have := HSW.out.1
      rw [hQ.out] at this;have e := HY.out
      subst e;rw [rot_push a k j bk hkj];exact this, hk2.out.trans HSW.out.2 (by simp)⟩
     have hky : a ≤ y ∧ k < y := by have := HY.out; omega
     clear hd2 HSW hk2;refine tkH ?_ 0 rfl (by kernel_rfl) (fun _ _ _ h => h) (by rfl) ?_ ‹_› ?_;rotate_left
     ·intro w h; (try dsimp only at h); go_simp <;> with_reducible rfl
     (try simp only [Act.put, lz]);refine tkH ?_ 1 rfl (by kernel_rfl) (fun _ _ _ h => h) (by rfl) ?_ ‹_› ?_;rotate_left
     ·intro w h; (try dsimp only at h); go_simp <;> with_reducible rfl
     (try simp only [Act.put, lz]);refine tkH ?_ 2 rfl (by kernel_rfl) (fun _ _ _ h => h) (by rfl) ?_ ‹_› ?_;rotate_left
     ·intro w h; (try dsimp only at h); go_simp <;> with_reducible rfl
     (try simp only [Act.put, lz]);refine tkH ?_ 3 rfl (by kernel_rfl) (fun _ _ _ h => h) (by rfl) ?_ ‹_› ?_;rotate_left
     ·intro w h; (try dsimp only at h); go_simp <;> with_reducible rfl
     (try simp only [Act.put, lz]);refine tkH ?_ 4 rfl (by kernel_rfl) (fun _ _ _ h => h) (by rfl) ?_ ‹_› ?_;rotate_left
     ·intro w hSw; (try dsimp only at hSw); go_simp <;> (try simp only [wy, wy2]) <;> with_reducible rfl
     (try simp only [Act.put, lz]);try simp only [wy, wy2]
     refine tkH ?_ 5 rfl (by kernel_rfl) (fun _ _ _ h => h) (by rfl) ?_ ‹_› ?_;rotate_left
     ·intro w h; (try dsimp only at h); go_simp <;> with_reducible rfl
     (try simp only [Act.put, lz]);refine tkH ?_ 6 rfl (by kernel_rfl) (fun _ _ _ h => h) (by rfl) ?_ ‹_› ?_;rotate_left
     ·intro w h; (try dsimp only at h); go_simp <;> with_reducible rfl
     (try simp only [Act.put, lz]);refine tkH ?_ 7 rfl (by kernel_rfl) (fun _ _ _ h => h) (by rfl) ?_ ‹_› ?_;rotate_left
     ·intro w hSw; (try dsimp only at hSw); go_simp <;> (try simp only [wy, wy2]) <;> with_reducible rfl
     (try simp only [Act.put, lz]);try simp only [wy, wy2]
     refine tkH ?_ 8 rfl (by kernel_rfl) (fun _ _ _ h => h) (by rfl) ?_ ‹_› ?_;rotate_left
     ·intro w h; (try dsimp only at h); go_simp <;> with_reducible rfl
     (try simp only [Act.put, lz]);refine tkH ?_ 10 rfl (by kernel_rfl) (fun _ _ _ h => h) (by rfl) ?_ ‹_› ?_;rotate_left
     ·intro w h; (try dsimp only at h); go_simp <;> with_reducible rfl
     (try simp only [Act.put, lz]);refine tkH ?_ 11 rfl (by kernel_rfl) (fun _ _ _ h => h) (by rfl) ?_ ‹_› ?_;rotate_left
     ·intro w h; (try dsimp only at h); go_simp <;> with_reducible rfl
     (try simp only [Act.put, lz]);refine tkH ?_ 12 rfl (by kernel_rfl) (fun _ _ _ h => h) (by rfl) ?_ ‹_› ?_;rotate_left
     ·intro w h; (try dsimp only at h); go_simp <;> with_reducible rfl
     (try simp only [Act.put, lz]);refine wpAnyH_ready (rs := [9, 13]) (by kernel_rfl) (by simp) ?_
     refine AllReadyH.cons rfl (fun K hK => ?_) (AllReadyH.cons rfl (fun K hK => ?_) AllReadyH.nil)
     ·go_simp
      (try go_wp2_with fail);refine hK.out _ _ trivial (fun hHeld => ?_)
      clear hK K;(try simp only [Act.put, lz]);refine rdH 13 (by kernel_rfl) rfl fun K hK => ?_
      go_simp;(try go_wp2_with fail);refine hK.out _ _ trivial (fun hHeld => ?_)
      clear hK K;(try simp only [Act.put, lz]);refine tkH ?_ 14 rfl (by kernel_rfl) (fun _ _ _ h => h) (by rfl) ?_ ‹_› ?_;rotate_left
      ·intro w h; (try dsimp only at h); go_simp <;> with_reducible rfl
      (try simp only [Act.put, lz]);refine rdH 15 (by kernel_rfl) rfl fun K hK => ?_
      go_simp;(try go_wp2_with fail);refine hK.out _ _ trivial (fun hHeld => ?_)
      clear hK K;(try simp only [Act.put, lz]);refine tkH ?_ 16 rfl (by kernel_rfl) (fun _ _ _ h => h) (by rfl) ?_ ‹_› ?_;rotate_left
      ·intro w h; (try dsimp only at h); go_simp <;> with_reducible rfl
      (try simp only [Act.put, lz]);refine rdH 17 (by kernel_rfl) rfl fun K hK => ?_
      go_simp;(try go_wp2_with fail);refine hK.out _ _ trivial (fun hHeld => ?_)
      clear hK K;(try simp only [Act.put, lz]);refine wpAnyH_done (by kernel_rfl) ?_ _
      clear hHeld;go_wp2_with fail;exact ⟨⟨y, by omega, by go_num, hfin2⟩, by simp [intOf]; omega⟩
     ·go_simp
      (try go_wp2_with fail);refine hK.out _ _ trivial (fun hHeld => ?_)
      clear hK K;(try simp only [Act.put, lz]);refine rdH 9 (by kernel_rfl) rfl fun K hK => ?_
      go_simp;(try go_wp2_with fail);refine hK.out _ _ trivial (fun hHeld => ?_)
      clear hK K;(try simp only [Act.put, lz]);refine tkH ?_ 14 rfl (by kernel_rfl) (fun _ _ _ h => h) (by rfl) ?_ ‹_› ?_;rotate_left
      ·intro w h; (try dsimp only at h); go_simp <;> with_reducible rfl
      (try simp only [Act.put, lz]);refine rdH 15 (by kernel_rfl) rfl fun K hK => ?_
      go_simp;(try go_wp2_with fail);refine hK.out _ _ trivial (fun hHeld => ?_)
      clear hK K;(try simp only [Act.put, lz]);refine tkH ?_ 16 rfl (by kernel_rfl) (fun _ _ _ h => h) (by rfl) ?_ ‹_› ?_;rotate_left
      ·intro w h; (try dsimp only at h); go_simp <;> with_reducible rfl
      (try simp only [Act.put, lz]);refine rdH 17 (by kernel_rfl) rfl fun K hK => ?_
      go_simp;(try go_wp2_with fail);refine hK.out _ _ trivial (fun hHeld => ?_)
      clear hK K;(try simp only [Act.put, lz]);refine wpAnyH_done (by kernel_rfl) ?_ _
      clear hHeld;go_wp2_with fail;exact ⟨⟨y, by omega, by go_num, hfin2⟩, by simp [intOf]; omega⟩
    ·have d1 : decide ((k : Int) < (j : Int) - 1) = false := by simp; omega
     have d2 : ¬ ((k : Int) < (j : Int) - 1) := by omega
     have ek : k + 1 = j := by omega
     rw [ek] at hw3;clear ek;go_wp2_with fail;refine bodyPost_ret (results_none rfl _ _ _) rfl ?_;exact ⟨⟨_, rfl⟩, _, hfin.out.1, hfin.out.2, hw3.out.1, hw3.out.2⟩
theorem cSymB {fid : Nat} (g o n cap : Nat) (A : Nat → Vs) (cv : Value) (cf : Nat → Nat → Int) (Inv : World → Prop) (hC : CmpOk fid g n A cv cf Inv) (p : Nat → Nat) (a m b : Nat) (w : World) (h : Hd w g o n cap A p) (hI : Inv w) (hpn : ∀ k, k < n → p k < n) (h1 : a < m) (h2 : m < b) (h3 : b ≤ n) (hA : Srt (fun x y => cf x y < 0) p a m) (hB : Srt (fun x y => cf x y < 0) p m b) (hLo : Low p a m b) (hn : n ≤ 4000000000000) (hcap : n ≤ cap) (hma : a + 1 < m) (hmb : b ≤ m + 1) : Calls Tryz.prog 170 #[.slice (some ⟨g, o, none⟩) n cap, .int .i64 (a : Int), .int .i64 (m : Int), .int .i64 (b : Int), .func (.func fid) #[] #[cv]] w fun e w' => (∃ v, e = .returned v) ∧ ∃ s, PermIn a b s ∧ Srt (fun x y => cf x y < 0) (fun k => p (s k)) a b ∧ Hd w' g o n cap A (fun k => p (s k)) ∧ Kp [g] w w' := by
 have HC := hid hC
 have hE := hC.enter
 have HI := hid hI
 have HH := hid h
 have HPN := hid hpn
 have HSR := hid (And.intro hA (And.intro hB hLo))
 have q1 : (-9223372036854775808 : Int) ≤ (m : Int) - (a : Int) := by omega
 have q2 : (m : Int) - (a : Int) ≤ 9223372036854775807 := by omega
 clear hC hI h hpn hA hB hLo;have hm1 : ((m : Int) - (a : Int) == 1) = false := by simp; omega
 have hm2 : ¬ ((m : Int) - (a : Int) = 1) := by omega
 have hb1 : (b : Int) - (m : Int) = 1 := by omega
 have q3 : (-9223372036854775808 : Int) ≤ (b : Int) - (m : Int) := by omega
 have q4 : (b : Int) - (m : Int) ≤ 9223372036854775807 := by omega
 go_enter Tryz.func170, Tryz.ntmps170
 go_wp2_with fail;clear q1 q2 hm1 hm2 hb1 q3 q4;go_loopw [14, 15, 16] (fun iv jv _ wr => ∃ i j : Nat, (a ≤ i ∧ i ≤ j ∧ j ≤ m) ∧ iv = .int .i64 (i : Int) ∧ jv = .int .i64 (j : Int) ∧ Hid ((i = a ∨ 0 ≤ cf (p m) (p (i - 1))) ∧ (j = m ∨ cf (p m) (p j) < 0)) ∧ Hid (Hd wr g o n cap A p ∧ Kp [g] w wr)) (fun iv jv _ _ => (intOf jv).toNat - (intOf iv).toNat)
 case atStart => exact ⟨a, m, by omega, rfl, rfl, hid ⟨.inl rfl, .inl rfl⟩, hid ⟨HH.out, Kp.refl _ _⟩⟩
 case round =>
  obtain ⟨i, j, ⟨bi, bij, bj⟩, rfl, rfl, hs, hw⟩ := hrel
  by_cases hij : i < j
  ·have i0 : (i : Int) < (j : Int) := by omega
   obtain ⟨t, ht⟩ : ∃ t : Nat, t = i + j := ⟨_, rfl⟩
   obtain ⟨h, hh⟩ : ∃ h : Nat, h = t / 2 := ⟨_, rfl⟩
   have et : (i : Int) + (j : Int) = (t : Int) := by omega
   have et1 : (-9223372036854775808 : Int) ≤ (i : Int) + (j : Int) := by omega
   have et2 : (i : Int) + (j : Int) ≤ 9223372036854775807 := by omega
   have et3 : (0 : Int) ≤ (t : Int) := by omega
   have et4 : (t : Int) ≤ 9223372036854775807 := by omega
   have et5 : (t : Int) < 18446744073709551616 := by omega
   have eh : (t : Int) / 2 = (h : Int) := by omega
   have eh2 : (h : Int) ≤ 9223372036854775807 := by omega
   have eu : IntKind.u64.wrap (t : Int) = (t : Int) := by rw [IntKind.wrap_u64]; omega
   have ew : IntKind.i64.wrap (h : Int) = (h : Int) := by rw [IntKind.wrap_i64]; omega
   have ewt : IntKind.i64.wrap (t : Int) = (t : Int) := by rw [IntKind.wrap_i64]; omega
   have hhb : i ≤ h ∧ h < j := by omega
   have HT := hid (And.intro ht hh)
   clear ht hh;have i1 : (0 : Int) ≤ (h : Int) := by omega
   have i2 : (h : Int) < (n : Int) := by omega
   have i5 : (h : Int) + 1 ≤ 9223372036854775807 := by omega
   have i3 : (0 : Int) ≤ (m : Int) := by omega
   have i4 : (m : Int) < (n : Int) := by omega
   have cC := hid (fun W' (k : Kp [] wr W') => HC.out.calls W' (p m) (p h) (HC.out.keep _ _ HI.out (hw.out.2.trans k (by simp))) (HPN.out _ (by omega)) (HPN.out _ (by omega)))
   obtain ⟨x0, _⟩ := hw.out.1.cells m (by omega)
   obtain ⟨y0, _⟩ := hw.out.1.cells h (by omega)
   obtain ⟨V1, hV1⟩ : ∃ V, Hid (V = A (p m)) := ⟨_, hid rfl⟩
   obtain ⟨V2, hV2⟩ : ∃ V, Hid (V = A (p h)) := ⟨_, hid rfl⟩
   rw [← hV1.out] at x0 cC;rw [← hV2.out] at y0 cC;obtain ⟨C, hCf⟩ : ∃ C, Hid (cf (p m) (p h) = C) := ⟨_, hid rfl⟩
   rw [hCf.out] at cC;obtain ⟨a1, c1, l1⟩ := V1;obtain ⟨a2, c2, l2⟩ := V2;simp only [Vs.v] at cC;dsimp only at *;have hF : Hid (∀ W', Kp [] wr W' → (W'.cell? ⟨g, o + m, none⟩ = some (.slice a1 l1.length c1) ∧ W'.cell? ⟨g, o + h, none⟩ = some (.slice a2 l2.length c2))) := fun W' k => ⟨kpAt k x0, kpAt k y0⟩
   clear x0 y0 hV1 hV2;go_wp2_with fail;refine wp_region_held_drew (S := fun W' => W'.cell? ⟨g, o + m, none⟩ = some (.slice a1 l1.length c1) ∧ W'.cell? ⟨g, o + h, none⟩ = some (.slice a2 l2.length c2)) (by kernel_rfl) ?_ (fun hHeld => ?_)
   ·exact hF.out _ (Kp.refl [] wr).drew
   have KD : Hid (Kp [] wr wr.drew) := hid (Kp.refl [] wr).drew
   generalize wr.drew = Wd at *
   refine tkH ?_ 0 rfl (by kernel_rfl) (fun _ _ _ h => h) (by rfl) ?_ ‹_› ?_;rotate_left
   ·intro w h; (try dsimp only at h); go_simp <;> with_reducible rfl
   (try simp only [Act.put, lz]);refine tkH ?_ 1 rfl (by kernel_rfl) (fun _ _ _ h => h) (by rfl) ?_ ‹_› ?_;rotate_left
   ·intro w h; (try dsimp only at h); go_simp <;> with_reducible rfl
   (try simp only [Act.put, lz]);refine tkH ?_ 2 rfl (by kernel_rfl) (fun _ _ _ h => h) (by rfl) ?_ ‹_› ?_;rotate_left
   ·intro w h; (try dsimp only at h); go_simp <;> with_reducible rfl
   (try simp only [Act.put, lz]);refine tkH ?_ 3 rfl (by kernel_rfl) (fun _ _ _ h => h) (by rfl) ?_ ‹_› ?_;rotate_left
   ·intro w h; (try dsimp only at h); go_simp <;> with_reducible rfl
   (try simp only [Act.put, lz]);refine tkH ?_ 4 rfl (by kernel_rfl) (fun _ _ _ h => h) (by rfl) ?_ ‹_› ?_;rotate_left
   ·intro w h; (try dsimp only at h); go_simp <;> with_reducible rfl
   (try simp only [Act.put, lz]);refine tkH ?_ 5 rfl (by kernel_rfl) (fun _ _ _ h => h) (by rfl) ?_ ‹_› ?_;rotate_left
   ·intro w h; (try dsimp only at h); go_simp <;> with_reducible rfl
   (try simp only [Act.put, lz]);refine tkH ?_ 6 rfl (by kernel_rfl) (fun _ _ _ h => h) (by rfl) ?_ ‹_› ?_;rotate_left
   ·intro w h; (try dsimp only at h); go_simp <;> with_reducible rfl
   (try simp only [Act.put, lz]);refine tkH ?_ 7 rfl (by kernel_rfl) (fun _ _ _ h => h) (by rfl) ?_ ‹_› ?_;rotate_left
   ·intro w h; (try dsimp only at h); go_simp <;> with_reducible rfl
   (try simp only [Act.put, lz]);refine tkH ?_ 8 rfl (by kernel_rfl) (fun _ _ _ h => h) (by rfl) ?_ ‹_› ?_;rotate_left
   ·intro w h; (try dsimp only at h); go_simp <;> with_reducible rfl
   (try simp only [Act.put, lz]);refine rdH 9 (by kernel_rfl) rfl fun K hK => ?_
   go_simp;refine (cC.out Wd KD.out).mono ?_;rintro e u1 ⟨rfl, l1'⟩;(try go_wp2_with fail);refine hK.out _ _ ?_ (fun hHeld => ?_)
   ·exact hF.out _ (KD.out.trans l1' (by simp))
   clear hK K;(try simp only [Act.put, lz]);have K1 := hid (KD.out.trans l1' (by simp))
   clear l1' KD;have hw1 : Hid (Hd u1 g o n cap A p ∧ Kp [g] w u1) := hid ⟨hw.out.1.kept K1.out, hw.out.2.trans K1.out (by simp)⟩
   by_cases hc0 : C < 0
   ·have dc : decide (C < 0) = true := by simpa using hc0
    refine tkH ?_ 10 rfl (by kernel_rfl) (fun _ _ _ h => h) (by rfl) ?_ ‹_› ?_;rotate_left
    ·intro w hSw; (try dsimp only at hSw); go_simp <;> (try simp only [dc]) <;> with_reducible rfl
    (try simp only [Act.put, lz]);try simp only [dc]
    refine tkH ?_ 11 rfl (by kernel_rfl) (fun _ _ _ h => h) (by rfl) ?_ ‹_› ?_;rotate_left
    ·intro w h; (try dsimp only at h); go_simp <;> with_reducible rfl
    (try simp only [Act.put, lz]);try simp only [Bool.not_true, Bool.not_false]
    refine wpAnyH_done (by kernel_rfl) ?_ _
    have hs2 : Hid ((i = a ∨ 0 ≤ cf (p m) (p (i - 1))) ∧ (h = m ∨ cf (p m) (p h) < 0)) := hid ⟨hs.out.1, .inr (by rw [hCf.out]; exact hc0)⟩
    clear hHeld hF cC hs hw hc0;go_wp2_with fail;exact ⟨⟨i, h, by omega, rfl, rfl, hs2, hw1⟩, by simp [intOf]; omega⟩
   ·have dc : decide (C < 0) = false := by simpa using hc0
    refine tkH ?_ 10 rfl (by kernel_rfl) (fun _ _ _ h => h) (by rfl) ?_ ‹_› ?_;rotate_left
    ·intro w hSw; (try dsimp only at hSw); go_simp <;> (try simp only [dc]) <;> with_reducible rfl
    (try simp only [Act.put, lz]);try simp only [dc]
    refine tkH ?_ 11 rfl (by kernel_rfl) (fun _ _ _ h => h) (by rfl) ?_ ‹_› ?_;rotate_left
    ·intro w h; (try dsimp only at h); go_simp <;> with_reducible rfl
    (try simp only [Act.put, lz]);try simp only [Bool.not_true, Bool.not_false]
    refine wpAnyH_done (by kernel_rfl) ?_ _
    have hs2 : Hid ((h + 1 = a ∨ 0 ≤ cf (p m) (p (h + 1 - 1))) ∧ (j = m ∨ cf (p m) (p j) < 0)) := hid ⟨.inr (by rw [Nat.add_sub_cancel, hCf.out]; omega), hs.out.2⟩
    clear hHeld hF cC hs hw hc0;go_wp2_with fail;exact ⟨⟨h + 1, j, by omega, by go_num, rfl, hs2, hw1⟩, by simp [intOf]; omega⟩
  ·have e : j = i := by omega
   subst e;have eb : b = m + 1 := by omega
   have hfin : Hid (PermIn a b (rot j m (m + 1)) ∧ Srt (fun x y => cf x y < 0) (fun k => p (rot j m (m + 1) k)) a b) := hid ⟨rot_perm bi bj (by omega) (by omega), by
    have h5 := ins_left HC.out.swo bi bj HSR.out.1 (eb ▸ HSR.out.2.2) hs.out.2 (hs.out.1.imp_right fun h => Int.not_lt.2 h)
    exact h5.sub (Nat.le_refl _) (by omega)⟩
   clear hs eb;go_wp2_with fail;go_loopw [17] (fun kv wn => ∃ k : Nat, (j ≤ k ∧ k ≤ m) ∧ kv = .int .i64 (k : Int) ∧ Hid (Hd wn g o n cap A (fun x => p (rot k m (m + 1) x)) ∧ Kp [g] w wn)) (fun kv _ => (intOf kv).toNat)
   case atStart => exact ⟨m, by omega, rfl, hid ⟨by rw [rot_left]; exact hw.out.1, hw.out.2⟩⟩
   case round =>
    obtain ⟨k, ⟨bk, bk2⟩, rfl, hw3⟩ := hrel;clear hw
    by_cases hkj : j < k
    ·have d1 : decide ((j : Int) < (k : Int)) = true := by simp; omega
     have d2 : (j : Int) < (k : Int) := by omega
     obtain ⟨y, hy⟩ : ∃ y : Nat, y = k - 1 := ⟨_, rfl⟩
     have ey : (k : Int) - 1 = (y : Int) := by omega
     have wy : IntKind.i64.wrap ((k : Int) - 1) = (y : Int) := by rw [ey, IntKind.wrap_i64]; omega
     have wy2 : IntKind.i64.wrap (y : Int) = (y : Int) := by rw [IntKind.wrap_i64]; omega
     have i1 : (0 : Int) ≤ (k : Int) := by omega
     have i2 : (k : Int) < (n : Int) := by omega
     have i3 : (0 : Int) ≤ (y : Int) := by omega
     have i4 : (y : Int) < (n : Int) := by omega
     have b1 : (-9223372036854775808 : Int) ≤ (k : Int) - 1 := by omega
     have b2 : (k : Int) - 1 ≤ 9223372036854775807 := by omega
     have HY : Hid (k = y + 1) := hid (by omega)
     obtain ⟨Q, hQ⟩ : ∃ Q, Hid (Q = fun x => p (rot k m (m + 1) x)) := ⟨_, hid rfl⟩
     rw [← hQ.out] at hw3;have hyb : y < n ∧ j ≤ y := by omega
     clear hy;go_wp2_with fail;refine wp_region_held_drew (S := fun _ => True) (by kernel_rfl) trivial (fun hHeld => ?_)
     have KD2 : Kp [] wr wr.drew := (Kp.refl [] wr).drew
     have hd2 := hw3.out.1.kept KD2
     have hk2 := hid (hw3.out.2.trans KD2 (by simp))
     generalize wr.drew = Wd2 at *
     clear KD2 hw3;obtain ⟨x0, fx0⟩ := hd2.cells k (by omega)
     obtain ⟨y0, fy0⟩ := hd2.cells y (by omega)
     have hsw := hd2.swap k y (by omega) (by omega)
     have hpc := put1_cells hd2 k y (by omega) (by omega)
     obtain ⟨U1, hU1⟩ : ∃ V, V = A (Q k) := ⟨_, rfl⟩
     obtain ⟨U2, hU2⟩ : ∃ V, V = A (Q y) := ⟨_, rfl⟩
     rw [← hU1] at x0 hsw;rw [← hU2] at y0 hsw;replace hpc := hpc U2
     obtain ⟨⟨u0, hu0⟩, gu0⟩ := hpc 0 (by omega)
     try simp only [Nat.add_zero] at hu0 gu0
     obtain ⟨W1, eW1⟩ : ∃ Y, (Wd2.setCell ⟨g, o + k, none⟩ (.slice U2.a U2.l.length U2.c)) = Y := ⟨_, rfl⟩
     have eP1 : put1 Wd2 g (o + k) U2 = W1 := eW1
     obtain ⟨W2, eW2⟩ : ∃ Y, (W1.setCell ⟨g, o + y, none⟩ (.slice U1.a U1.l.length U1.c)) = Y := ⟨_, rfl⟩
     have eP2 : put1 W1 g (o + y) U1 = W2 := eW2
     have kP1 : Kp [g] Wd2 W1 := by rw [← eP1]; exact put1_kp _ _ _ _
     have kP2 : Kp [g] W1 W2 := by rw [← eP2]; exact put1_kp _ _ _ _
     simp only [eP1] at hu0 gu0 hsw;simp only [eP2] at hsw;have zW1 := kP1.size
     have HSW := hid (And.intro hsw (kP1.trans kP2 (by simp)))
     have zg : g < Wd2.heap.size := hd2.lt
     have zg1 : g < W1.heap.size := by omega
     clear hpc hsw eP1 eP2 kP1 kP2 hU1 hU2 zW1;obtain ⟨a3, c3, l3⟩ := U1;obtain ⟨a4, c4, l4⟩ := U2;dsimp only at *
     have hfin2 : Hid (Hd W2 g o n cap A (fun x => p (rot y m (m + 1) x)) ∧ Kp [g] w W2) := hid ⟨by
      have := HSW.out.1
      rw [hQ.out] at this;have e := HY.out
      rw [rot_pull y m (by omega), ← e]
      exact this, hk2.out.trans HSW.out.2 (by simp)⟩
     have hky : y < k ∧ y ≤ m := by have := HY.out; omega
     clear hd2 HSW hk2;refine tkH ?_ 0 rfl (by kernel_rfl) (fun _ _ _ h => h) (by rfl) ?_ ‹_› ?_;rotate_left
     ·intro w h; (try dsimp only at h); go_simp <;> with_reducible rfl
     (try simp only [Act.put, lz]);refine tkH ?_ 1 rfl (by kernel_rfl) (fun _ _ _ h => h) (by rfl) ?_ ‹_› ?_;rotate_left
     ·intro w h; (try dsimp only at h); go_simp <;> with_reducible rfl
     (try simp only [Act.put, lz]);refine tkH ?_ 2 rfl (by kernel_rfl) (fun _ _ _ h => h) (by rfl) ?_ ‹_› ?_;rotate_left
     ·intro w h; (try dsimp only at h); go_simp <;> with_reducible rfl
     (try simp only [Act.put, lz]);refine tkH ?_ 3 rfl (by kernel_rfl) (fun _ _ _ h => h) (by rfl) ?_ ‹_› ?_;rotate_left
     ·intro w h; (try dsimp only at h); go_simp <;> with_reducible rfl
     (try simp only [Act.put, lz]);refine tkH ?_ 4 rfl (by kernel_rfl) (fun _ _ _ h => h) (by rfl) ?_ ‹_› ?_;rotate_left
     ·intro w hSw; (try dsimp only at hSw); go_simp <;> (try simp only [wy, wy2]) <;> with_reducible rfl
     (try simp only [Act.put, lz]);try simp only [wy, wy2]
     refine tkH ?_ 5 rfl (by kernel_rfl) (fun _ _ _ h => h) (by rfl) ?_ ‹_› ?_;rotate_left
     ·intro w h; (try dsimp only at h); go_simp <;> with_reducible rfl
     (try simp only [Act.put, lz]);refine tkH ?_ 6 rfl (by kernel_rfl) (fun _ _ _ h => h) (by rfl) ?_ ‹_› ?_;rotate_left
     ·intro w h; (try dsimp only at h); go_simp <;> with_reducible rfl
     (try simp only [Act.put, lz]);refine tkH ?_ 7 rfl (by kernel_rfl) (fun _ _ _ h => h) (by rfl) ?_ ‹_› ?_;rotate_left
     ·intro w hSw; (try dsimp only at hSw); go_simp <;> (try simp only [wy, wy2]) <;> with_reducible rfl
     (try simp only [Act.put, lz]);try simp only [wy, wy2]
     refine tkH ?_ 8 rfl (by kernel_rfl) (fun _ _ _ h => h) (by rfl) ?_ ‹_› ?_;rotate_left
     ·intro w h; (try dsimp only at h); go_simp <;> with_reducible rfl
     (try simp only [Act.put, lz]);refine tkH ?_ 10 rfl (by kernel_rfl) (fun _ _ _ h => h) (by rfl) ?_ ‹_› ?_;rotate_left
     ·intro w h; (try dsimp only at h); go_simp <;> with_reducible rfl
     (try simp only [Act.put, lz]);refine tkH ?_ 11 rfl (by kernel_rfl) (fun _ _ _ h => h) (by rfl) ?_ ‹_› ?_;rotate_left
     ·intro w h; (try dsimp only at h); go_simp <;> with_reducible rfl
     (try simp only [Act.put, lz]);refine tkH ?_ 12 rfl (by kernel_rfl) (fun _ _ _ h => h) (by rfl) ?_ ‹_› ?_;rotate_left
     ·intro w h; (try dsimp only at h); go_simp <;> with_reducible rfl
     (try simp only [Act.put, lz]);refine wpAnyH_ready (rs := [9, 13]) (by kernel_rfl) (by simp) ?_
     refine AllReadyH.cons rfl (fun K hK => ?_) (AllReadyH.cons rfl (fun K hK => ?_) AllReadyH.nil)
     ·go_simp
      (try go_wp2_with fail);refine hK.out _ _ trivial (fun hHeld => ?_)
      clear hK K;(try simp only [Act.put, lz]);refine rdH 13 (by kernel_rfl) rfl fun K hK => ?_
      go_simp;(try go_wp2_with fail);refine hK.out _ _ trivial (fun hHeld => ?_)
      clear hK K;(try simp only [Act.put, lz]);refine tkH ?_ 14 rfl (by kernel_rfl) (fun _ _ _ h => h) (by rfl) ?_ ‹_› ?_;rotate_left
      ·intro w h; (try dsimp only at h); go_simp <;> with_reducible rfl
      (try simp only [Act.put, lz]);refine rdH 15 (by kernel_rfl) rfl fun K hK => ?_
      go_simp;(try go_wp2_with fail);refine hK.out _ _ trivial (fun hHeld => ?_)
      clear hK K;(try simp only [Act.put, lz]);refine tkH ?_ 16 rfl (by kernel_rfl) (fun _ _ _ h => h) (by rfl) ?_ ‹_› ?_;rotate_left
      ·intro w h; (try dsimp only at h); go_simp <;> with_reducible rfl
      (try simp only [Act.put, lz]);refine rdH 17 (by kernel_rfl) rfl fun K hK => ?_
      go_simp;(try go_wp2_with fail);refine hK.out _ _ trivial (fun hHeld => ?_)
      clear hK K;(try simp only [Act.put, lz]);refine wpAnyH_done (by kernel_rfl) ?_ _
      clear hHeld;go_wp2_with fail;exact ⟨⟨y, by omega, by go_num, hfin2⟩, by simp [intOf]; omega⟩
     ·go_simp
      (try go_wp2_with fail);refine hK.out _ _ trivial (fun hHeld => ?_)
      clear hK K;(try simp only [Act.put, lz]);refine rdH 9 (by kernel_rfl) rfl fun K hK => ?_
      go_simp;(try go_wp2_with fail);refine hK.out _ _ trivial (fun hHeld => ?_)
      clear hK K;(try simp only [Act.put, lz]);refine tkH ?_ 14 rfl (by kernel_rfl) (fun _ _ _ h => h) (by rfl) ?_ ‹_› ?_;rotate_left
      ·intro w h; (try dsimp only at h); go_simp <;> with_reducible rfl
      (try simp only [Act.put, lz]);refine rdH 15 (by kernel_rfl) rfl fun K hK => ?_
      go_simp;(try go_wp2_with fail);refine hK.out _ _ trivial (fun hHeld => ?_)
      clear hK K;(try simp only [Act.put, lz]);refine tkH ?_ 16 rfl (by kernel_rfl) (fun _ _ _ h => h) (by rfl) ?_ ‹_› ?_;rotate_left
      ·intro w h; (try dsimp only at h); go_simp <;> with_reducible rfl
      (try simp only [Act.put, lz]);refine rdH 17 (by kernel_rfl) rfl fun K hK => ?_
      go_simp;(try go_wp2_with fail);refine hK.out _ _ trivial (fun hHeld => ?_)
      clear hK K;(try simp only [Act.put, lz]);refine wpAnyH_done (by kernel_rfl) ?_ _
      clear hHeld;go_wp2_with fail;exact ⟨⟨y, by omega, by go_num, hfin2⟩, by simp [intOf]; omega⟩
    ·have d1 : decide ((j : Int) < (k : Int)) = false := by simp; omega
     have d2 : ¬ ((j : Int) < (k : Int)) := by omega
     have ek : k = j := by omega
     subst ek;go_wp2_with fail;refine bodyPost_ret (results_none rfl _ _ _) rfl ?_;exact ⟨⟨_, rfl⟩, _, hfin.out.1, hfin.out.2, hw3.out.1, hw3.out.2⟩
theorem cSymC1 {fid : Nat} (g o n cap : Nat) (A : Nat → Vs) (cv : Value) (cf : Nat → Nat → Int) (Inv : World → Prop) (hC : CmpOk fid g n A cv cf Inv) (p : Nat → Nat) (a m b : Nat) (w : World) (h : Hd w g o n cap A p) (hI : Inv w) (hpn : ∀ k, k < n → p k < n) (h1 : a < m) (h2 : m < b) (h3 : b ≤ n) (hA : Srt (fun x y => cf x y < 0) p a m) (hB : Srt (fun x y => cf x y < 0) p m b) (hLo : Low p a m b) (hn : n ≤ 4000000000000) (hcap : n ≤ cap) (hma : a + 1 < m) (hmb : m + 1 < b) (hk : a + b < 2 * m) (IH : ∀ (p' : Nat → Nat) (a' m' b' : Nat) (w' : World), b' - a' < b - a → Hd w' g o n cap A p' → Inv w' → (∀ k, k < n → p' k < n) → a' < m' → m' < b' → b' ≤ n → Srt (fun x y => cf x y < 0) p' a' m' → Srt (fun x y => cf x y < 0) p' m' b' → Low p' a' m' b' → Calls Tryz.prog 170 #[.slice (some ⟨g, o, none⟩) n cap, .int .i64 (a' : Int), .int .i64 (m' : Int), .int .i64 (b' : Int), .func (.func fid) #[] #[cv]] w' fun e u => (∃ v, e = .returned v) ∧ ∃ s, PermIn a' b' s ∧ Srt (fun x y => cf x y < 0) (fun k => p' (s k)) a' b' ∧ Hd u g o n cap A (fun k => p' (s k)) ∧ Kp [g] w' u) : Calls Tryz.prog 170 #[.slice (some ⟨g, o, none⟩) n cap, .int .i64 (a : Int), .int .i64 (m : Int), .int .i64 (b : Int), .func (.func fid) #[] #[cv]] w fun e w' => (∃ v, e = .returned v) ∧ ∃ s, PermIn a b s ∧ Srt (fun x y => cf x y < 0) (fun k => p (s k)) a b ∧ Hd w' g o n cap A (fun k => p (s k)) ∧ Kp [g] w w' := by
 have HC := hid hC
 have hE := hC.enter
 have HI := hid hI
 have HH := hid h
 have HPN := hid hpn
 have HSR := hid (And.intro hA (And.intro hB hLo))
 have q1 : (-9223372036854775808 : Int) ≤ (m : Int) - (a : Int) := by omega
 have q2 : (m : Int) - (a : Int) ≤ 9223372036854775807 := by omega
 clear hC hI h hpn hA hB hLo;have HIH := hid IH
 clear IH;have hm1 : ((m : Int) - (a : Int) == 1) = false := by simp; omega
 have hm2 : ¬ ((m : Int) - (a : Int) = 1) := by omega
 have hb1 : ((b : Int) - (m : Int) == 1) = false := by simp; omega
 have hb2 : ¬ ((b : Int) - (m : Int) = 1) := by omega
 have q3 : (-9223372036854775808 : Int) ≤ (b : Int) - (m : Int) := by omega
 have q4 : (b : Int) - (m : Int) ≤ 9223372036854775807 := by omega
 obtain ⟨t, ht⟩ : ∃ t : Nat, t = a + b := ⟨_, rfl⟩
 obtain ⟨mid, hmid⟩ : ∃ h : Nat, h = t / 2 := ⟨_, rfl⟩
 have et : (a : Int) + (b : Int) = (t : Int) := by omega
 have et1 : (-9223372036854775808 : Int) ≤ (a : Int) + (b : Int) := by omega
 have et2 : (a : Int) + (b : Int) ≤ 9223372036854775807 := by omega
 have et3 : (0 : Int) ≤ (t : Int) := by omega
 have et4 : (t : Int) ≤ 9223372036854775807 := by omega
 have et5 : (t : Int) < 18446744073709551616 := by omega
 have eh : (t : Int) / 2 = (mid : Int) := by omega
 have eh2 : (mid : Int) ≤ 9223372036854775807 := by omega
 have eu : IntKind.u64.wrap (t : Int) = (t : Int) := by rw [IntKind.wrap_u64]; omega
 have ew : IntKind.i64.wrap (mid : Int) = (mid : Int) := by rw [IntKind.wrap_i64]; omega
 have ewt : IntKind.i64.wrap (t : Int) = (t : Int) := by rw [IntKind.wrap_i64]; omega
 have hmid1 : 2 * mid ≤ a + b := by omega
 have hmid2 : a + b ≤ 2 * mid + 1 := by omega
 obtain ⟨N, hN⟩ : ∃ N : Nat, N = mid + m := ⟨_, rfl⟩
 obtain ⟨PP, hPP⟩ : ∃ P : Nat, P = N - 1 := ⟨_, rfl⟩
 have eN : (mid : Int) + (m : Int) = (N : Int) := by omega
 have eN1 : (-9223372036854775808 : Int) ≤ (mid : Int) + (m : Int) := by omega
 have eN2 : (mid : Int) + (m : Int) ≤ 9223372036854775807 := by omega
 have eP : (N : Int) - 1 = (PP : Int) := by omega
 have eP1 : (-9223372036854775808 : Int) ≤ (N : Int) - 1 := by omega
 have eP2 : (N : Int) - 1 ≤ 9223372036854775807 := by omega
 have hN1 : N ≤ mid + m := by omega
 have hN2 : mid + m ≤ N := by omega
 have hPP1 : PP + 1 ≤ N := by omega
 have hPP2 : N ≤ PP + 1 := by omega
 obtain ⟨lo, hlo⟩ : ∃ l : Nat, l = N - b := ⟨_, rfl⟩
 have eL : (N : Int) - (b : Int) = (lo : Int) := by omega
 have eL1 : (-9223372036854775808 : Int) ≤ (N : Int) - (b : Int) := by omega
 have eL2 : (N : Int) - (b : Int) ≤ 9223372036854775807 := by omega
 have hlo1 : lo + b ≤ N := by omega
 have hlo2 : N ≤ lo + b := by omega
 have dg : decide ((mid : Int) < (m : Int)) = true := by simp; omega
 have dg2 : (mid : Int) < (m : Int) := by omega
 clear hlo;have HT := hid (And.intro ht hmid)
 clear ht hmid hN hPP;go_enter Tryz.func170, Tryz.ntmps170
 go_wp2_with fail;clear q1 q2 q3 q4 hm1 hm2 hb1 hb2 et et1 et2 et3 et4 et5 eh eh2 eu ew ewt eN eN1 eN2 eP eP1 eP2 dg dg2 eL eL1 eL2 HT;go_loopw [20, 21, 23] (fun sv rv _ wr => ∃ s r : Nat, (lo ≤ s ∧ s ≤ r ∧ r ≤ mid) ∧ sv = .int .i64 (s : Int) ∧ rv = .int .i64 (r : Int) ∧ Hid ((s = lo ∨ 0 ≤ cf (p (N - s)) (p (s - 1))) ∧ (r = mid ∨ cf (p (N - 1 - r)) (p r) < 0)) ∧ Hid (Hd wr g o n cap A p ∧ Kp [g] w wr)) (fun sv rv _ _ => (intOf rv).toNat - (intOf sv).toNat)
 case atStart => exact ⟨lo, mid, by omega, rfl, rfl, hid ⟨.inl rfl, .inl rfl⟩, hid ⟨HH.out, Kp.refl _ _⟩⟩
 case round =>
  obtain ⟨s, r, ⟨bs, bsr, br⟩, rfl, rfl, hs, hw⟩ := hrel
  by_cases hsr : s < r
  ·have i0 : (s : Int) < (r : Int) := by omega
   obtain ⟨t, ht⟩ : ∃ t : Nat, t = s + r := ⟨_, rfl⟩
   obtain ⟨c, hc⟩ : ∃ h : Nat, h = t / 2 := ⟨_, rfl⟩
   have et : (s : Int) + (r : Int) = (t : Int) := by omega
   have et1 : (-9223372036854775808 : Int) ≤ (s : Int) + (r : Int) := by omega
   have et2 : (s : Int) + (r : Int) ≤ 9223372036854775807 := by omega
   have et3 : (0 : Int) ≤ (t : Int) := by omega
   have et4 : (t : Int) ≤ 9223372036854775807 := by omega
   have et5 : (t : Int) < 18446744073709551616 := by omega
   have eh : (t : Int) / 2 = (c : Int) := by omega
   have eh2 : (c : Int) ≤ 9223372036854775807 := by omega
   have eu : IntKind.u64.wrap (t : Int) = (t : Int) := by rw [IntKind.wrap_u64]; omega
   have ew : IntKind.i64.wrap (c : Int) = (c : Int) := by rw [IntKind.wrap_i64]; omega
   have ewt : IntKind.i64.wrap (t : Int) = (t : Int) := by rw [IntKind.wrap_i64]; omega
   have hcb : s ≤ c ∧ c < r := by omega
   have HT := hid (And.intro ht hc)
   clear ht hc;obtain ⟨x, hx⟩ : ∃ x : Nat, x = PP - c := ⟨_, rfl⟩
   have ex : (PP : Int) - (c : Int) = (x : Int) := by omega
   have wx : IntKind.i64.wrap ((PP : Int) - (c : Int)) = (x : Int) := by rw [ex, IntKind.wrap_i64]; omega
   have wx2 : IntKind.i64.wrap (x : Int) = (x : Int) := by rw [IntKind.wrap_i64]; omega
   have hxn : x < n := by omega
   have i1 : (0 : Int) ≤ (c : Int) := by omega
   have i2 : (c : Int) < (n : Int) := by omega
   have i3 : (0 : Int) ≤ (x : Int) := by omega
   have i4 : (x : Int) < (n : Int) := by omega
   have i5 : (c : Int) + 1 ≤ 9223372036854775807 := by omega
   have HX : Hid (x = N - 1 - c ∧ x = N - (c + 1)) := hid (by omega)
   clear hx;have cC := hid (fun W' (k : Kp [] wr W') => HC.out.calls W' (p x) (p c) (HC.out.keep _ _ HI.out (hw.out.2.trans k (by simp))) (HPN.out _ (by omega)) (HPN.out _ (by omega)))
   obtain ⟨x0, _⟩ := hw.out.1.cells x (by omega)
   obtain ⟨y0, _⟩ := hw.out.1.cells c (by omega)
   obtain ⟨V1, hV1⟩ : ∃ V, Hid (V = A (p x)) := ⟨_, hid rfl⟩
   obtain ⟨V2, hV2⟩ : ∃ V, Hid (V = A (p c)) := ⟨_, hid rfl⟩
   rw [← hV1.out] at x0 cC;rw [← hV2.out] at y0 cC;obtain ⟨C, hCf⟩ : ∃ C, Hid (cf (p x) (p c) = C) := ⟨_, hid rfl⟩
   rw [hCf.out] at cC;obtain ⟨a1, c1, l1⟩ := V1;obtain ⟨a2, c2, l2⟩ := V2;simp only [Vs.v] at cC;dsimp only at *;have hF : Hid (∀ W', Kp [] wr W' → (W'.cell? ⟨g, o + x, none⟩ = some (.slice a1 l1.length c1) ∧ W'.cell? ⟨g, o + c, none⟩ = some (.slice a2 l2.length c2))) := fun W' k => ⟨kpAt k x0, kpAt k y0⟩
   clear x0 y0 hV1 hV2;go_wp2_with fail;refine wp_region_held_drew (S := fun W' => W'.cell? ⟨g, o + x, none⟩ = some (.slice a1 l1.length c1) ∧ W'.cell? ⟨g, o + c, none⟩ = some (.slice a2 l2.length c2)) (by kernel_rfl) ?_ (fun hHeld => ?_)
   ·exact hF.out _ (Kp.refl [] wr).drew
   have KD : Hid (Kp [] wr wr.drew) := hid (Kp.refl [] wr).drew
   generalize wr.drew = Wd at *
   refine tkH ?_ 0 rfl (by kernel_rfl) (fun _ _ _ h => h) (by rfl) ?_ ‹_› ?_;rotate_left
   ·intro w h; (try dsimp only at h); go_simp <;> with_reducible rfl
   (try simp only [Act.put, lz]);refine tkH ?_ 1 rfl (by kernel_rfl) (fun _ _ _ h => h) (by rfl) ?_ ‹_› ?_;rotate_left
   ·intro w h; (try dsimp only at h); go_simp <;> with_reducible rfl
   (try simp only [Act.put, lz]);refine tkH ?_ 2 rfl (by kernel_rfl) (fun _ _ _ h => h) (by rfl) ?_ ‹_› ?_;rotate_left
   ·intro w h; (try dsimp only at h); go_simp <;> with_reducible rfl
   (try simp only [Act.put, lz]);refine tkH ?_ 3 rfl (by kernel_rfl) (fun _ _ _ h => h) (by rfl) ?_ ‹_› ?_;rotate_left
   ·intro w h; (try dsimp only at h); go_simp <;> with_reducible rfl
   (try simp only [Act.put, lz]);refine tkH ?_ 4 rfl (by kernel_rfl) (fun _ _ _ h => h) (by rfl) ?_ ‹_› ?_;rotate_left
   ·intro w hSw; (try dsimp only at hSw); go_simp <;> (try simp only [wx, wx2]) <;> with_reducible rfl
   (try simp only [Act.put, lz]);try simp only [wx, wx2]
   refine tkH ?_ 5 rfl (by kernel_rfl) (fun _ _ _ h => h) (by rfl) ?_ ‹_› ?_;rotate_left
   ·intro w h; (try dsimp only at h); go_simp <;> with_reducible rfl
   (try simp only [Act.put, lz]);refine tkH ?_ 6 rfl (by kernel_rfl) (fun _ _ _ h => h) (by rfl) ?_ ‹_› ?_;rotate_left
   ·intro w h; (try dsimp only at h); go_simp <;> with_reducible rfl
   (try simp only [Act.put, lz]);refine tkH ?_ 7 rfl (by kernel_rfl) (fun _ _ _ h => h) (by rfl) ?_ ‹_› ?_;rotate_left
   ·intro w h; (try dsimp only at h); go_simp <;> with_reducible rfl
   (try simp only [Act.put, lz]);refine tkH ?_ 8 rfl (by kernel_rfl) (fun _ _ _ h => h) (by rfl) ?_ ‹_› ?_;rotate_left
   ·intro w h; (try dsimp only at h); go_simp <;> with_reducible rfl
   (try simp only [Act.put, lz]);refine tkH ?_ 9 rfl (by kernel_rfl) (fun _ _ _ h => h) (by rfl) ?_ ‹_› ?_;rotate_left
   ·intro w h; (try dsimp only at h); go_simp <;> with_reducible rfl
   (try simp only [Act.put, lz]);refine tkH ?_ 10 rfl (by kernel_rfl) (fun _ _ _ h => h) (by rfl) ?_ ‹_› ?_;rotate_left
   ·intro w h; (try dsimp only at h); go_simp <;> with_reducible rfl
   (try simp only [Act.put, lz]);refine rdH 11 (by kernel_rfl) rfl fun K hK => ?_
   go_simp;refine (cC.out Wd KD.out).mono ?_;rintro e u1 ⟨rfl, l1'⟩;(try go_wp2_with fail);refine hK.out _ _ ?_ (fun hHeld => ?_)
   ·exact hF.out _ (KD.out.trans l1' (by simp))
   clear hK K;(try simp only [Act.put, lz]);have K1 := hid (KD.out.trans l1' (by simp))
   clear l1' KD;have hw1 : Hid (Hd u1 g o n cap A p ∧ Kp [g] w u1) := hid ⟨hw.out.1.kept K1.out, hw.out.2.trans K1.out (by simp)⟩
   by_cases hc0 : C < 0
   ·have dc : decide (C < 0) = true := by simpa using hc0
    refine tkH ?_ 12 rfl (by kernel_rfl) (fun _ _ _ h => h) (by rfl) ?_ ‹_› ?_;rotate_left
    ·intro w hSw; (try dsimp only at hSw); go_simp <;> (try simp only [dc]) <;> with_reducible rfl
    (try simp only [Act.put, lz]);try simp only [dc]
    refine tkH ?_ 13 rfl (by kernel_rfl) (fun _ _ _ h => h) (by rfl) ?_ ‹_› ?_;rotate_left
    ·intro w h; (try dsimp only at h); go_simp <;> with_reducible rfl
    (try simp only [Act.put, lz]);try simp only [Bool.not_true, Bool.not_false]
    refine wpAnyH_done (by kernel_rfl) ?_ _
    have hs2 : Hid ((s = lo ∨ 0 ≤ cf (p (N - s)) (p (s - 1))) ∧ (c = mid ∨ cf (p (N - 1 - c)) (p c) < 0)) := hid ⟨hs.out.1, .inr (by rw [← HX.out.1, hCf.out]; exact hc0)⟩
    clear hHeld hF cC hs hw hc0;go_wp2_with fail;exact ⟨⟨s, c, by omega, rfl, rfl, hs2, hw1⟩, by simp [intOf]; omega⟩
   ·have dc : decide (C < 0) = false := by simpa using hc0
    refine tkH ?_ 12 rfl (by kernel_rfl) (fun _ _ _ h => h) (by rfl) ?_ ‹_› ?_;rotate_left
    ·intro w hSw; (try dsimp only at hSw); go_simp <;> (try simp only [dc]) <;> with_reducible rfl
    (try simp only [Act.put, lz]);try simp only [dc]
    refine tkH ?_ 13 rfl (by kernel_rfl) (fun _ _ _ h => h) (by rfl) ?_ ‹_› ?_;rotate_left
    ·intro w h; (try dsimp only at h); go_simp <;> with_reducible rfl
    (try simp only [Act.put, lz]);try simp only [Bool.not_true, Bool.not_false]
    refine wpAnyH_done (by kernel_rfl) ?_ _
    have hs2 : Hid ((c + 1 = lo ∨ 0 ≤ cf (p (N - (c + 1))) (p (c + 1 - 1))) ∧ (r = mid ∨ cf (p (N - 1 - r)) (p r) < 0)) := hid ⟨.inr (by rw [Nat.add_sub_cancel, ← HX.out.2, hCf.out]; omega), hs.out.2⟩
    clear hHeld hF cC hs hw hc0;go_wp2_with fail;exact ⟨⟨c + 1, r, by omega, by go_num, rfl, hs2, hw1⟩, by simp [intOf]; omega⟩
  ·have er : r = s := by omega
   subst er;rename_i s_
   obtain ⟨s, hss⟩ : ∃ s : Nat, s = r := ⟨_, rfl⟩
   subst hss;obtain ⟨e, he⟩ : ∃ e : Nat, e = N - s := ⟨_, rfl⟩
   have eE : (N : Int) - (s : Int) = (e : Int) := by omega
   have eE1 : (-9223372036854775808 : Int) ≤ (N : Int) - (s : Int) := by omega
   have eE2 : (N : Int) - (s : Int) ≤ 9223372036854775807 := by omega
   have heb : m ≤ e ∧ e ≤ b ∧ s ≤ mid ∧ s ≤ m ∧ a ≤ s := by omega
   have hem : Hid (mid = s + (e - m)) := hid (by omega)
   have hmb2 : mid < b ∧ a < mid ∧ mid ≤ e := by omega
   have SP := hid (sym_parts HC.out.swo (p := p) heb.2.2.2.2 heb.2.2.2.1 heb.1 heb.2.1 hem.out HSR.out.1 HSR.out.2.1 HSR.out.2.2 (fun g1 g2 => by
    rcases hs.out.2 with h5 | h5
    ·omega
    ·rw [show e - 1 = N - 1 - s by omega]; exact h5) (fun g1 g2 => by
    rcases hs.out.1 with h5 | h5
    ·omega
    ·rw [he]; exact Int.not_lt.2 h5))
   clear he hem hs;go_upto_region 39 with fail
   go_cut [185] from 178 to 186 (fun v wx => ∃ B : Bool, v = .bool B ∧ Hid (B = decide (s < m ∧ m < e)) ∧ wx = wr)
   case first =>
    by_cases c1 : s < m
    ·have d1 : decide ((s : Int) < (m : Int)) = true := by simp; omega
     have d1n : decide (s < m) = true := by simp; omega
     by_cases c2 : m < e
     ·have d2 : decide ((m : Int) < (e : Int)) = true := by simp; omega
      have d2n : decide (m < e) = true := by simp; omega
      go_wp2_with fail;go_meet
      case rel => exact ⟨true, rfl, hid (by simp [c1, c2]), rfl⟩
     ·have d2 : decide ((m : Int) < (e : Int)) = false := by simp; omega
      have d2n : decide (m < e) = false := by simp; omega
      go_wp2_with fail;go_meet
      case rel => exact ⟨false, rfl, hid (by simp; omega), rfl⟩
    ·have d1 : decide ((s : Int) < (m : Int)) = false := by simp; omega
     have d1n : decide (s < m) = false := by simp; omega
     go_wp2_with fail;go_meet
     case rel => exact ⟨false, rfl, hid (by simp; omega), rfl⟩
   case rest =>
    obtain ⟨B, rfl, hB, rfl⟩ := hcut;go_upto_if 185 with fail
    go_cut [] from 186 to 192 (fun wx => Hid (Hd wx g o n cap A (fun k => p (rot s m e k)) ∧ Kp [g] w wx))
    case first =>
     cases B with
     | true =>
      have c12 : s < m ∧ m < e := of_decide_eq_true hB.out.symm
      have cR := hid (cRot g o n cap A p s m e (.func (.func fid) #[] #[cv]) wc hw.out.1 c12.1 c12.2 (by omega) hn hcap)
      clear c12;go_wp2_with fail;refine cR.out.mono ?_;rintro e' wt ⟨⟨v, rfl⟩, hd, kd⟩;have HR := hid (And.intro hd (hw.out.2.trans kd (by simp)))
      clear hd kd cR hw;go_wp2_with fail;go_meet
      case rel => exact HR
     | false =>
      have c12 : ¬ (s < m ∧ m < e) := of_decide_eq_false hB.out.symm
      have HR : Hid (Hd wc g o n cap A (fun k => p (rot s m e k)) ∧ Kp [g] w wc) := hid (by
       by_cases c1 : s < m
       ·rw [show e = m by omega, rot_right s m (by omega)]; exact hw.out
       ·rw [show s = m by omega, rot_left]; exact hw.out)
      clear c12;go_wp2_with fail;go_meet
      case rel => exact HR
    case rest =>
     have HR := hcut
     clear hcut hw hB;rename_i wr
     go_upto_region 41 with fail
     go_cut [199] from 192 to 200 (fun v wx => ∃ B : Bool, v = .bool B ∧ Hid (B = decide (a < s ∧ s < mid)) ∧ wx = wc)
     case first =>
      by_cases c3 : a < s
      ·have e1 : decide ((a : Int) < (s : Int)) = true := by simp; omega
       have e1n : decide (a < s) = true := by simp; omega
       by_cases c4 : s < mid
       ·have e2 : decide ((s : Int) < (mid : Int)) = true := by simp; omega
        have e2n : decide (s < mid) = true := by simp; omega
        go_wp2_with fail;go_meet
        case rel => exact ⟨true, rfl, hid (by simp [c3, c4]), rfl⟩
       ·have e2 : decide ((s : Int) < (mid : Int)) = false := by simp; omega
        have e2n : decide (s < mid) = false := by simp; omega
        go_wp2_with fail;go_meet
        case rel => exact ⟨false, rfl, hid (by simp; omega), rfl⟩
      ·have e1 : decide ((a : Int) < (s : Int)) = false := by simp; omega
       have e1n : decide (a < s) = false := by simp; omega
       go_wp2_with fail;go_meet
       case rel => exact ⟨false, rfl, hid (by simp; omega), rfl⟩
     case rest =>
      obtain ⟨B, rfl, hB, rfl⟩ := hcut;go_upto_if 199 with fail
      go_cut [] from 200 to 206 (fun wx => ∃ sa : Nat → Nat, Hid (PermIn a mid sa) ∧ Hid (Srt (fun x y => cf x y < 0) (fun k => p (rot s m e (sa k))) a mid) ∧ Hid (Hd wx g o n cap A (fun k => p (rot s m e (sa k))) ∧ Kp [g] w wx))
      case first =>
       cases B with
       | true =>
        have c34 : a < s ∧ s < mid := of_decide_eq_true hB.out.symm
        have cM1 := hid (HIH.out (fun k => p (rot s m e k)) a s mid wc (by omega) HR.out.1 (HC.out.keep _ _ HI.out HR.out.2) (fun k hk => HPN.out _ (((rot_perm (Nat.zero_le s) (by omega) (by omega) (by omega) : PermIn 0 n (rot s m e))).1 k (Nat.zero_le _) hk).2) c34.1 c34.2 (by omega) SP.out.1.1 SP.out.1.2.1 SP.out.1.2.2)
        clear c34;go_wp2_with fail;refine cM1.out.mono ?_;rintro e' wm ⟨⟨v, rfl⟩, sa, pa, sa', ha', ka⟩;have PA := hid pa
        have SA := hid sa'
        have HD := hid (And.intro ha' (HR.out.2.trans ka (by simp)))
        clear pa sa' ha' ka cM1 HR;go_wp2_with fail;go_meet
        case rel => exact ⟨sa, PA, SA, HD⟩
       | false =>
        have c34 : ¬ (a < s ∧ s < mid) := of_decide_eq_false hB.out.symm
        have SA : Hid (Srt (fun x y => cf x y < 0) (fun k => p (rot s m e k)) a mid) := hid (by
         by_cases c7 : s = a
         ·have := SP.out.1.2.1; rwa [c7] at this ⊢
         ·have c8 : s = mid := by omega
          have := SP.out.1.1; rw [c8] at this ⊢; exact this)
        clear c34;go_wp2_with fail;go_meet
        case rel => exact ⟨fun k => k, hid (PermIn.id _ _), SA, HR⟩
      case rest =>
       obtain ⟨sa, PA, SA, HD⟩ := hcut;clear HR hB;rename_i wr
       have hmx : Hid ((∀ k, mid ≤ k → p (rot s m e (sa k)) = p (rot s m e k))) := hid (fun k hk => by rw [PA.out.2.1 k (by omega)])
       by_cases c5 : mid < e
       ·have f1 : decide ((mid : Int) < (e : Int)) = true := by simp; omega
        have f1n : decide (mid < e) = true := by simp; omega
        by_cases c6 : e < b
        ·have f2 : decide ((e : Int) < (b : Int)) = true := by simp; omega
         have f2n : decide (e < b) = true := by simp; omega
         have cM := hid (HIH.out (fun k => p (rot s m e (sa k))) mid e b wc (by omega) HD.out.1 (HC.out.keep _ _ HI.out HD.out.2) (fun k hk => HPN.out _ (by
          have r1 := (rot_perm (lo := 0) (hi := n) (Nat.zero_le s) (by omega) (by omega) (by omega) : PermIn 0 n (rot s m e))
          have r2 := PA.out.mono (Nat.zero_le a) (show mid ≤ n by omega)
          exact (r1.1 _ (Nat.zero_le _) (r2.1 k (Nat.zero_le _) hk).2).2)) c5 c6 (by omega) (fun i j g1 g2 g3 => by
           show bef _ (p (rot s m e (sa i))) (p (rot s m e (sa j)))
           rw [hmx.out i (by omega), hmx.out j (by omega)]; exact SP.out.2.1.1 i j g1 g2 g3) (fun i j g1 g2 g3 => by
           show bef _ (p (rot s m e (sa i))) (p (rot s m e (sa j)))
           rw [hmx.out i (by omega), hmx.out j (by omega)]; exact SP.out.2.1.2.1 i j g1 g2 g3) (fun i j g1 g2 g3 g4 => by
           show p (rot s m e (sa i)) < p (rot s m e (sa j))
           rw [hmx.out i (by omega), hmx.out j (by omega)]; exact SP.out.2.1.2.2 i j g1 g2 g3 g4))
         have KX := hid HD.out.2
         clear c5 c6;go_wp2_with fail;refine cM.out.mono ?_;rintro e' wz ⟨⟨v, rfl⟩, t, pt, st, ht', kt⟩
         have hfin : Hid (PermIn a b (fun k => rot s m e (sa (t k))) ∧ Srt (fun x y => cf x y < 0) (fun k => p (rot s m e (sa (t k)))) a b ∧ Hd wz g o n cap A (fun k => p (rot s m e (sa (t k)))) ∧ Kp [g] w wz) := hid ⟨(rot_perm (by omega) (by omega) (by omega) (by omega)).comp ((PA.out.mono (Nat.le_refl _) (by omega)).comp (pt.mono (by omega) (Nat.le_refl _))), Srt.join (p := fun k => p (rot s m e k)) PA.out pt SA.out (fun i j g1 g2 g3 => by
          have h5 := st i j g1 g2 g3
          have h6 := pt.1 i g1 (by omega)
          have h7 := pt.1 j (by omega) g3
          simp only [hmx.out _ h6.1, hmx.out _ h7.1] at h5;exact h5) SP.out.2.2, ht', KX.out.trans kt (by simp)⟩
         clear pt st ht' kt KX;go_wp2_with fail;go_end0
         exact ⟨⟨_, rfl⟩, _, hfin.out.1, hfin.out.2.1, hfin.out.2.2.1, hfin.out.2.2.2⟩
        ·have f2 : decide ((e : Int) < (b : Int)) = false := by simp; omega
         have f2n : decide (e < b) = false := by simp; omega
         have sB : Srt (fun x y => cf x y < 0) (fun k => p (rot s m e k)) mid b := by
          by_cases c7 : e = mid
          ·rw [← c7]; exact SP.out.2.1.2.1
          ·have c8 : e = b := by omega
           rw [← c8]; exact SP.out.2.1.1
         have hfin : Hid (PermIn a b (fun k => rot s m e (sa k)) ∧ Srt (fun x y => cf x y < 0) (fun k => p (rot s m e (sa k))) a b) := hid ⟨(rot_perm (by omega) (by omega) (by omega) (by omega)).comp (PA.out.mono (Nat.le_refl _) (by omega)), Srt.join (p := fun k => p (rot s m e k)) PA.out (PermIn.id mid b) SA.out sB SP.out.2.2⟩
         clear sB c5;go_wp2_with fail;go_end0
         exact ⟨⟨_, rfl⟩, _, hfin.out.1, hfin.out.2, HD.out.1, HD.out.2⟩
       ·have f1 : decide ((mid : Int) < (e : Int)) = false := by simp; omega
        have f1n : decide (mid < e) = false := by simp; omega
        have sB : Srt (fun x y => cf x y < 0) (fun k => p (rot s m e k)) mid b := by
         by_cases c7 : e = mid
         ·rw [← c7]; exact SP.out.2.1.2.1
         ·have c8 : e = b := by omega
          rw [← c8]; exact SP.out.2.1.1
        have hfin : Hid (PermIn a b (fun k => rot s m e (sa k)) ∧ Srt (fun x y => cf x y < 0) (fun k => p (rot s m e (sa k))) a b) := hid ⟨(rot_perm (by omega) (by omega) (by omega) (by omega)).comp (PA.out.mono (Nat.le_refl _) (by omega)), Srt.join (p := fun k => p (rot s m e k)) PA.out (PermIn.id mid b) SA.out sB SP.out.2.2⟩
        clear sB c5;go_wp2_with fail;go_end0
        exact ⟨⟨_, rfl⟩, _, hfin.out.1, hfin.out.2, HD.out.1, HD.out.2⟩
end Go.Proofs.YtlgfekjoknbfdaaGreatDoor
end

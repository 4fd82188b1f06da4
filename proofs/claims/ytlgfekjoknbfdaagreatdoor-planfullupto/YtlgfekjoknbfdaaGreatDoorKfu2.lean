/- slices.Concat of places (mkpf2.py). -/
import Derived.Test.YtlgfekjoknbfdaaGreatDoorKfu1
import Derived.Deep.Cut
import Derived.Deep.CutRange
import Derived.Deep.RegionHeld3
import Derived.Test.YtlgfekjoknbfdaaGreatDoorB7
import Derived.Test.YtlgfekjoknbfdaaGreatDoorB5
import Derived.Test.YtlgfekjoknbfdaaGreatDoorB2
import Derived.Test.YtlgfekjoknbfdaaGreatDoorB1
import Derived.Shelf.Bits.Mul64
import Derived.Test.YtlgfekjoknbfdaaGreatDoorProg
import Derived.Lib.AppendZerosOnto
import Derived.Lib.Overlaps
import Derived.Test.YtlgfekjoknbfdaaGreatDoorB3
import Derived.BigQuiet
import Derived.Test.YtlgfekjoknbfdaaGreatDoorB4
import Derived.Maps.OwnSet
import Derived.Lib.AppendZeros
set_option maxHeartbeats 64000000
set_option maxRecDepth 100000
set_option linter.unusedVariables false
set_option linter.unusedSimpArgs false
section
namespace Go.Proofs.YtlgfekjoknbfdaaGreatDoor
open Go.RowKit Go.Hay
structure CmpOkFu (g n : Nat) (A : Nat → Vr) (cf : Nat → Nat → Int) (Inv : World → Prop) : Prop where
 calls : ∀ W x y, Inv W → x < n → y < n → Calls Tryz.prog 89 #[(A x).v, (A y).v] W fun e w' => e = .returned (.int .i64 (cf x y)) ∧ Kp [] W w'
 keep : ∀ W W', Inv W → Kp [g] W W' → Inv W'
 swo : Swo (fun x y => cf x y < 0)
theorem cInsFu (g o n cap : Nat) (A : Nat → Vr) (cf : Nat → Nat → Int) (Inv : World → Prop) (hC : CmpOkFu g n A cf Inv) (p : Nat → Nat) (a b : Nat) (w : World) (h : HdFu w g o n cap A p) (hI : Inv w) (hid0 : ∀ k, a ≤ k → k < b → p k = k) (h1 : a ≤ b) (h3 : b ≤ n) (hn : n ≤ 4000000000000) (hcap : n ≤ cap) : Calls Tryz.prog 159 #[.slice (some ⟨g, o, none⟩) n cap, .int .i64 (a : Int), .int .i64 (b : Int), .func (.func 89) #[] #[]] w fun e w' => (∃ v, e = .returned v) ∧ ∃ s, PermIn a b s ∧ Srt (fun x y => cf x y < 0) (fun k => p (s k)) a b ∧ HdFu w' g o n cap A (fun k => p (s k)) ∧ Kp [g] w w' := by
 have HC := hid hC
 have HI := hid hI
 have HH := hid h
 have HID := hid hid0
 have q1 : (-9223372036854775808 : Int) ≤ (a : Int) + 1 := by omega
 have q2 : (a : Int) + 1 ≤ 9223372036854775807 := by omega
 clear hC hI h hid0
 by_cases hab : a = b
 ·subst hab
  have d0 : decide ((a : Int) + 1 < (a : Int)) = false := by simp; omega
  have d1 : ¬ ((a : Int) + 1 < (a : Int)) := by omega
  go_enter Tryz.func159, Tryz.ntmps159
  go_wp2_with fail;go_loopw [8, 9] (fun iv _ wr => iv = .int .i64 ((a : Int) + 1) ∧ wr = w) (fun _ _ _ => 0)
  case atStart => exact ⟨rfl, rfl⟩
  case round =>
   obtain ⟨rfl, rfl⟩ := hrel;go_wp2_with fail;go_end0
   exact ⟨⟨_, rfl⟩, fun k => k, PermIn.id _ _, Srt.one _ _ _ _ (by omega), HH.out, Kp.refl _ _⟩
 go_enter Tryz.func159, Tryz.ntmps159
 go_wp2_with fail;go_loopw [8, 9] (fun iv _ wr => ∃ (i : Nat) (s : Nat → Nat), (a + 1 ≤ i ∧ i ≤ b) ∧ iv = .int .i64 (i : Int) ∧ Hid (PermIn a i s ∧ Srt (fun x y => cf x y < 0) (fun k => p (s k)) a i) ∧ Hid (HdFu wr g o n cap A (fun k => p (s k)) ∧ Kp [g] w wr)) (fun iv _ _ => b - (intOf iv).toNat)
 case atStart => exact ⟨a + 1, fun k => k, by omega, by go_num, hid ⟨PermIn.id _ _, Srt.one _ _ _ _ (by omega)⟩, hid ⟨HH.out, Kp.refl _ _⟩⟩
 case round =>
  obtain ⟨i, s, ⟨bi, bb⟩, rfl, hs, hr⟩ := hrel;clear q1 q2;have i5 : (i : Int) + 1 ≤ 9223372036854775807 := by omega
  by_cases hlt : i < b
  ·have i6 : (i : Int) < (b : Int) := by omega
   obtain ⟨P, hP⟩ : ∃ P, Hid (P = fun k => p (s k)) := ⟨_, hid rfl⟩
   rw [← hP.out] at hr hs;have hPi : Hid (P i = i) := hid (by rw [hP.out]; show p (s i) = i; rw [hs.out.1.2.1 i (by omega)]; exact HID.out i (by omega) hlt)
   have hPk : Hid (∀ k, a ≤ k → k < i → a ≤ P k ∧ P k < i) := hid (fun k g1 g2 => by
    rw [hP.out];show a ≤ p (s k) ∧ p (s k) < i
    have := hs.out.1.1 k g1 g2
    rw [HID.out (s k) this.1 (by omega)]
    exact this)
   have hLow : Hid (Low P a i (i + 1)) := hid (fun x y g1 g2 g3 g4 => by
    obtain rfl : y = i := by omega
    rw [hPi.out];exact (hPk.out x g1 g2).2)
   go_wp2_with fail;go_loopw [9] (fun jv wn => ∃ j : Nat, (a ≤ j ∧ j ≤ i) ∧ jv = .int .i64 (j : Int) ∧ Hid (j = i ∨ cf (P i) (P j) < 0) ∧ Hid (HdFu wn g o n cap A (fun k => P (rot j i (i + 1) k)) ∧ Kp [g] w wn)) (fun jv _ => (intOf jv).toNat)
   case atStart => exact ⟨i, by omega, rfl, hid (.inl rfl), hid ⟨by rw [rot_left]; exact hr.out.1, hr.out.2⟩⟩
   case round =>
    obtain ⟨j, ⟨ja, ji⟩, rfl, hj, hw⟩ := hrel;clear hr
    by_cases hja : j = a
    ·have hfin : Hid (PermIn a (i + 1) (fun k => s (rot j i (i + 1) k)) ∧ Srt (fun x y => cf x y < 0) (fun k => p (s (rot j i (i + 1) k))) a (i + 1)) := hid ⟨(hs.out.1.mono (Nat.le_refl _) (by omega)).comp (rot_perm ja ji (by omega) (Nat.le_refl _)), by
      have := ins_left HC.out.swo ja ji hs.out.2 hLow.out hj.out (.inl hja)
      rw [hP.out] at this;exact this⟩
     have hw2 : Hid (HdFu wr g o n cap A (fun k => p (s (rot j i (i + 1) k))) ∧ Kp [g] w wr) := hid ⟨by have := hw.out.1; rw [hP.out] at this; exact this, hw.out.2⟩
     have hne : decide ((a : Int) < (j : Int)) = false := by simp; omega
     have hneN : decide (a < j) = false := by simp; omega
     have hng : ¬ ((a : Int) < (j : Int)) := by omega
     clear hj hw hja;go_wp2_with fail;refine wp_region_held_drew (S := fun _ => True) (by kernel_rfl) trivial (fun hHeld => ?_)
     have hw3 : Hid (HdFu wr.drew g o n cap A (fun k => p (s (rot j i (i + 1) k))) ∧ Kp [g] w wr.drew) := hid ⟨hw2.out.1.kept (Kp.refl [] wr).drew, hw2.out.2.drew⟩
     generalize wr.drew = Wd at *
     clear hw2;refine tkH ?_ 0 rfl (by kernel_rfl) (fun _ _ _ h => h) (by rfl) ?_ ‹_› ?_;rotate_left
     ·intro w h; (try dsimp only at h); go_simp <;> with_reducible rfl
     (try simp only [Act.put, lz]);refine tkH ?_ 1 rfl (by kernel_rfl) (fun _ _ _ h => h) (by rfl) ?_ ‹_› ?_;rotate_left
     ·intro w h; (try dsimp only at h); go_simp <;> with_reducible rfl
     (try simp only [Act.put, lz]);refine tkH ?_ 2 rfl (by kernel_rfl) (fun _ _ _ h => h) (by rfl) ?_ ‹_› ?_;rotate_left
     ·intro w hSw; (try dsimp only at hSw); go_simp <;> (try simp only [hne, hneN]) <;> with_reducible rfl
     (try simp only [Act.put, lz]);try simp only [hne, hneN]
     refine tkH ?_ 3 rfl (by kernel_rfl) (fun _ _ _ h => h) (by rfl) ?_ ‹_› ?_;rotate_left
     ·intro w h; (try dsimp only at h); go_simp <;> with_reducible rfl
     (try simp only [Act.put, lz]);refine tkU 4 rfl (by kernel_rfl) (fun _ _ _ h => h) (by rfl) ‹_› ?_
     (try simp only [Act.put, lz]);refine tkU 5 rfl (by kernel_rfl) (fun _ _ _ h => h) (by rfl) ‹_› ?_
     (try simp only [Act.put, lz]);refine tkU 6 rfl (by kernel_rfl) (fun _ _ _ h => h) (by rfl) ‹_› ?_
     (try simp only [Act.put, lz]);refine tkU 7 rfl (by kernel_rfl) (fun _ _ _ h => h) (by rfl) ‹_› ?_
     (try simp only [Act.put, lz]);refine tkU 8 rfl (by kernel_rfl) (fun _ _ _ h => h) (by rfl) ‹_› ?_
     (try simp only [Act.put, lz]);refine tkU 9 rfl (by kernel_rfl) (fun _ _ _ h => h) (by rfl) ‹_› ?_
     (try simp only [Act.put, lz]);refine tkU 10 rfl (by kernel_rfl) (fun _ _ _ h => h) (by rfl) ‹_› ?_
     (try simp only [Act.put, lz]);refine tkU 11 rfl (by kernel_rfl) (fun _ _ _ h => h) (by rfl) ‹_› ?_
     (try simp only [Act.put, lz]);refine tkU 12 rfl (by kernel_rfl) (fun _ _ _ h => h) (by rfl) ‹_› ?_
     (try simp only [Act.put, lz]);refine tkU 13 rfl (by kernel_rfl) (fun _ _ _ h => h) (by rfl) ‹_› ?_
     (try simp only [Act.put, lz]);refine tkU 14 rfl (by kernel_rfl) (fun _ _ _ h => h) (by rfl) ‹_› ?_
     (try simp only [Act.put, lz]);refine tkU 15 rfl (by kernel_rfl) (fun _ _ _ h => h) (by rfl) ‹_› ?_
     (try simp only [Act.put, lz]);refine tkH ?_ 16 rfl (by kernel_rfl) (fun _ _ _ h => h) (by rfl) ?_ ‹_› ?_;rotate_left
     ·intro w h; (try dsimp only at h); go_simp <;> with_reducible rfl
     (try simp only [Act.put, lz]);refine wpAnyH_done (by kernel_rfl) ?_ _
     clear hHeld;go_wp2_with fail;exact ⟨⟨i + 1, fun k => s (rot j i (i + 1) k), by omega, by go_num, hfin, hw3⟩, by simp [intOf]; omega⟩
    obtain ⟨y, hy⟩ : ∃ y : Nat, y = j - 1 := ⟨_, rfl⟩
    have ey : (j : Int) - 1 = (y : Int) := by omega
    have wy : IntKind.i64.wrap ((j : Int) - 1) = (y : Int) := by rw [ey, IntKind.wrap_i64]; omega
    have wy2 : IntKind.i64.wrap (y : Int) = (y : Int) := by rw [IntKind.wrap_i64]; omega
    have dg : decide ((a : Int) < (j : Int)) = true := by simp; omega
    have dgN : decide (a < j) = true := by simp; omega
    have dg2 : (a : Int) < (j : Int) := by omega
    have i1 : (0 : Int) ≤ (j : Int) := by omega
    have i2 : (j : Int) < (n : Int) := by omega
    have i3 : (0 : Int) ≤ (y : Int) := by omega
    have i4 : (y : Int) < (n : Int) := by omega
    have b1 : (-9223372036854775808 : Int) ≤ (j : Int) - 1 := by omega
    have b2 : (j : Int) - 1 ≤ 9223372036854775807 := by omega
    have hjy : j = y + 1 := by omega
    obtain ⟨Q, hQ⟩ : ∃ Q, Hid (Q = fun k => P (rot j i (i + 1) k)) := ⟨_, hid rfl⟩
    have hQj : Hid (Q j = P i) := hid (by rw [hQ.out]; show P (rot j i (i + 1) j) = P i; rw [rot_first j i (i + 1) j (by omega) (by omega) ji (by omega), show j + (i - j) = i by omega])
    have hQy : Hid (Q y = P y) := hid (by rw [hQ.out]; show P (rot j i (i + 1) y) = P y; rw [rot_out j i (i + 1) y (by omega)])
    rw [← hQ.out] at hw
    have hQn : Q j < n ∧ Q y < n := by
     rw [hQj.out, hQy.out, hPi.out];have := hPk.out y (by omega) (by omega)
     omega
    have cC := hid (fun W' (k : Kp [] wr W') => HC.out.calls W' (Q j) (Q y) (HC.out.keep _ _ HI.out (hw.out.2.trans k (by simp))) hQn.1 hQn.2)
    obtain ⟨⟨x0, x1, x2, x3⟩, _⟩ := hw.out.1.cells j (by omega)
    obtain ⟨⟨y0, y1, y2, y3⟩, _⟩ := hw.out.1.cells y (by omega)
    obtain ⟨V1, hV1⟩ : ∃ V, Hid (V = A (Q j)) := ⟨_, hid rfl⟩
    obtain ⟨V2, hV2⟩ : ∃ V, Hid (V = A (Q y)) := ⟨_, hid rfl⟩
    rw [← hV1.out] at x0 x1 x2 x3 cC;rw [← hV2.out] at y0 y1 y2 y3 cC;obtain ⟨C, hCf⟩ : ∃ C, Hid (cf (Q j) (Q y) = C) := ⟨_, hid rfl⟩
    rw [hCf.out] at cC;obtain ⟨e1, n1, a1, c1, l1, d1⟩ := V1;obtain ⟨e2, n2, a2, c2, l2, d2⟩ := V2;simp only [Vr.v] at cC;dsimp only at *;have hF : Hid (∀ W', Kp [] wr W' → (W'.cell? ⟨g, o + j * 4, none⟩ = some (.int .u64 e1) ∧ W'.cell? ⟨g, o + j * 4 + 1, none⟩ = some (.int .u32 n1) ∧ W'.cell? ⟨g, o + j * 4 + 2, none⟩ = some (.slice a1 l1.length c1) ∧ W'.cell? ⟨g, o + j * 4 + 3, none⟩ = some (.int .u64 d1) ∧ W'.cell? ⟨g, o + y * 4, none⟩ = some (.int .u64 e2) ∧ W'.cell? ⟨g, o + y * 4 + 1, none⟩ = some (.int .u32 n2) ∧ W'.cell? ⟨g, o + y * 4 + 2, none⟩ = some (.slice a2 l2.length c2) ∧ W'.cell? ⟨g, o + y * 4 + 3, none⟩ = some (.int .u64 d2))) := fun W' k => ⟨kpAt k x0, kpAt k x1, kpAt k x2, kpAt k x3, kpAt k y0, kpAt k y1, kpAt k y2, kpAt k y3⟩
    have zg : g < wr.heap.size := hw.out.1.lt
    clear x0 x1 x2 x3 y0 y1 y2 y3;have HYJ := hid (And.intro hy hjy)
    have HJA := hid hja
    clear hy hjy hja;go_wp2_with fail;refine wp_region_held_drew (S := fun W' => W'.cell? ⟨g, o + j * 4, none⟩ = some (.int .u64 e1) ∧ W'.cell? ⟨g, o + j * 4 + 1, none⟩ = some (.int .u32 n1) ∧ W'.cell? ⟨g, o + j * 4 + 2, none⟩ = some (.slice a1 l1.length c1) ∧ W'.cell? ⟨g, o + j * 4 + 3, none⟩ = some (.int .u64 d1) ∧ W'.cell? ⟨g, o + y * 4, none⟩ = some (.int .u64 e2) ∧ W'.cell? ⟨g, o + y * 4 + 1, none⟩ = some (.int .u32 n2) ∧ W'.cell? ⟨g, o + y * 4 + 2, none⟩ = some (.slice a2 l2.length c2) ∧ W'.cell? ⟨g, o + y * 4 + 3, none⟩ = some (.int .u64 d2)) (by kernel_rfl) ?_ (fun hHeld => ?_)
    ·exact hF.out _ (Kp.refl [] wr).drew
    have KD : Hid (Kp [] wr wr.drew) := hid (Kp.refl [] wr).drew
    generalize wr.drew = Wd at *
    refine tkH ?_ 0 rfl (by kernel_rfl) (fun _ _ _ h => h) (by rfl) ?_ ‹_› ?_;rotate_left
    ·intro w h; (try dsimp only at h); go_simp <;> with_reducible rfl
    (try simp only [Act.put, lz]);refine tkH ?_ 1 rfl (by kernel_rfl) (fun _ _ _ h => h) (by rfl) ?_ ‹_› ?_;rotate_left
    ·intro w h; (try dsimp only at h); go_simp <;> with_reducible rfl
    (try simp only [Act.put, lz]);refine tkH ?_ 2 rfl (by kernel_rfl) (fun _ _ _ h => h) (by rfl) ?_ ‹_› ?_;rotate_left
    ·intro w hSw; (try dsimp only at hSw); go_simp <;> (try simp only [dg, dgN]) <;> with_reducible rfl
    (try simp only [Act.put, lz]);try simp only [dg, dgN]
    refine tkH ?_ 3 rfl (by kernel_rfl) (fun _ _ _ h => h) (by rfl) ?_ ‹_› ?_;rotate_left
    ·intro w h; (try dsimp only at h); go_simp <;> with_reducible rfl
    (try simp only [Act.put, lz]);refine tkH ?_ 4 rfl (by kernel_rfl) (fun _ _ _ h => h) (by rfl) ?_ ‹_› ?_;rotate_left
    ·intro w h; (try dsimp only at h); go_simp <;> with_reducible rfl
    (try simp only [Act.put, lz]);refine tkH ?_ 5 rfl (by kernel_rfl) (fun _ _ _ h => h) (by rfl) ?_ ‹_› ?_;rotate_left
    ·intro w h; (try dsimp only at h); go_simp <;> with_reducible rfl
    (try simp only [Act.put, lz]);refine tkH ?_ 6 rfl (by kernel_rfl) (fun _ _ _ h => h) (by rfl) ?_ ‹_› ?_;rotate_left
    ·intro w h; (try dsimp only at h); go_simp <;> with_reducible rfl
    (try simp only [Act.put, lz]);refine tkH ?_ 7 rfl (by kernel_rfl) (fun _ _ _ h => h) (by rfl) ?_ ‹_› ?_;rotate_left
    ·intro w h; (try dsimp only at h); go_simp <;> with_reducible rfl
    (try simp only [Act.put, lz]);refine tkH ?_ 8 rfl (by kernel_rfl) (fun _ _ _ h => h) (by rfl) ?_ ‹_› ?_;rotate_left
    ·intro w h; (try dsimp only at h); go_simp <;> with_reducible rfl
    (try simp only [Act.put, lz]);refine tkH ?_ 9 rfl (by kernel_rfl) (fun _ _ _ h => h) (by rfl) ?_ ‹_› ?_;rotate_left
    ·intro w h; (try dsimp only at h); go_simp <;> with_reducible rfl
    (try simp only [Act.put, lz]);refine tkH ?_ 10 rfl (by kernel_rfl) (fun _ _ _ h => h) (by rfl) ?_ ‹_› ?_;rotate_left
    ·intro w h; (try dsimp only at h); go_simp <;> with_reducible rfl
    (try simp only [Act.put, lz]);refine tkH ?_ 11 rfl (by kernel_rfl) (fun _ _ _ h => h) (by rfl) ?_ ‹_› ?_;rotate_left
    ·intro w hSw; (try dsimp only at hSw); go_simp <;> (try simp only [wy, wy2]) <;> with_reducible rfl
    (try simp only [Act.put, lz]);try simp only [wy, wy2]
    refine tkH ?_ 12 rfl (by kernel_rfl) (fun _ _ _ h => h) (by rfl) ?_ ‹_› ?_;rotate_left
    ·intro w h; (try dsimp only at h); go_simp <;> with_reducible rfl
    (try simp only [Act.put, lz]);refine tkH ?_ 13 rfl (by kernel_rfl) (fun _ _ _ h => h) (by rfl) ?_ ‹_› ?_;rotate_left
    ·intro w h; (try dsimp only at h); go_simp <;> with_reducible rfl
    (try simp only [Act.put, lz]);refine rdH 14 (by kernel_rfl) rfl fun K hK => ?_
    go_simp;refine (cC.out Wd KD.out).mono ?_;rintro e u1 ⟨rfl, l1'⟩;(try go_wp2_with fail);refine hK.out _ _ ?_ (fun hHeld => ?_)
    ·exact hF.out _ (KD.out.trans l1' (by simp))
    clear hK K;(try simp only [Act.put, lz]);have K1 := hid (KD.out.trans l1' (by simp))
    clear l1' KD;have hw1 : Hid (HdFu u1 g o n cap A Q ∧ Kp [g] w u1) := hid ⟨hw.out.1.kept K1.out, hw.out.2.trans K1.out (by simp)⟩
    by_cases hc0 : C < 0
    ·have dc : decide (C < 0) = true := by simpa using hc0
     refine tkH ?_ 15 rfl (by kernel_rfl) (fun _ _ _ h => h) (by rfl) ?_ ‹_› ?_;rotate_left
     ·intro w hSw; (try dsimp only at hSw); go_simp <;> (try simp only [dc]) <;> with_reducible rfl
     (try simp only [Act.put, lz]);try simp only [dc]
     refine tkH ?_ 16 rfl (by kernel_rfl) (fun _ _ _ h => h) (by rfl) ?_ ‹_› ?_;rotate_left
     ·intro w h; (try dsimp only at h); go_simp <;> with_reducible rfl
     (try simp only [Act.put, lz]);refine wpAnyH_done (by kernel_rfl) ?_ _
     have hj2 : Hid (y = i ∨ cf (P i) (P y) < 0) := hid (.inr (by rw [← hQj.out, ← hQy.out, hCf.out]; exact hc0))
     clear hHeld hF cC hj hw hc0;go_wp2_with fail;refine wp_region_held_drew (S := fun _ => True) (by kernel_rfl) trivial (fun hHeld => ?_)
     have KD2 : Kp [] u1 u1.drew := (Kp.refl [] u1).drew
     have hd2 := hw1.out.1.kept KD2
     have hk2 := hid (hw1.out.2.trans KD2 (by simp))
     generalize u1.drew = Wd2 at *
     clear KD2 hw1 hV1 hV2;obtain ⟨⟨x0, x1, x2, x3⟩, fx0, fx1, fx2, fx3⟩ := hd2.cells j (by omega)
     obtain ⟨⟨y0, y1, y2, y3⟩, fy0, fy1, fy2, fy3⟩ := hd2.cells y (by omega)
     have hsw := hd2.swap j y (by omega) (by omega)
     have hpc := put4_cellsFu hd2 j y (by omega) (by omega)
     obtain ⟨U1, hU1⟩ : ∃ V, V = A (Q j) := ⟨_, rfl⟩
     obtain ⟨U2, hU2⟩ : ∃ V, V = A (Q y) := ⟨_, rfl⟩
     rw [← hU1] at x0 x1 x2 x3 hsw;rw [← hU2] at y0 y1 y2 y3 hsw;replace hpc := hpc U2
     obtain ⟨⟨u0, hu0⟩, gu0⟩ := hpc 0 (by omega)
     obtain ⟨⟨u1, hu1⟩, gu1⟩ := hpc 1 (by omega)
     obtain ⟨⟨u2, hu2⟩, gu2⟩ := hpc 2 (by omega)
     obtain ⟨⟨u3, hu3⟩, gu3⟩ := hpc 3 (by omega)
     simp only [Nat.add_zero] at hu0 gu0;obtain ⟨W1, eW1⟩ : ∃ Y, ((((Wd2.setCell ⟨g, o + j * 4, none⟩ (.int .u64 U2.e)).setCell ⟨g, o + j * 4 + 1, none⟩ (.int .u32 U2.n)).setCell ⟨g, o + j * 4 + 2, none⟩ (.slice U2.a U2.l.length U2.c)).setCell ⟨g, o + j * 4 + 3, none⟩ (.int .u64 U2.d)) = Y := ⟨_, rfl⟩
     have eP1 : put4Fu Wd2 g (o + j * 4) U2 = W1 := eW1
     obtain ⟨W2, eW2⟩ : ∃ Y, ((((W1.setCell ⟨g, o + y * 4, none⟩ (.int .u64 U1.e)).setCell ⟨g, o + y * 4 + 1, none⟩ (.int .u32 U1.n)).setCell ⟨g, o + y * 4 + 2, none⟩ (.slice U1.a U1.l.length U1.c)).setCell ⟨g, o + y * 4 + 3, none⟩ (.int .u64 U1.d)) = Y := ⟨_, rfl⟩
     have eP2 : put4Fu W1 g (o + y * 4) U1 = W2 := eW2
     have kP1 : Kp [g] Wd2 W1 := by rw [← eP1]; exact put4_kpFu _ _ _ _
     have kP2 : Kp [g] W1 W2 := by rw [← eP2]; exact put4_kpFu _ _ _ _
     simp only [eP1] at hu0 hu1 hu2 hu3 gu0 gu1 gu2 gu3 hsw;simp only [eP2] at hsw;have zW1 := kP1.size
     have HSW := hid (And.intro hsw (kP1.trans kP2 (by simp)))
     have zg : g < Wd2.heap.size := hd2.lt
     have zg1 : g < W1.heap.size := by omega
     clear hpc hsw eP1 eP2 kP1 kP2 hU1 hU2 zW1;obtain ⟨e3, n3, a3, c3, l3, d3⟩ := U1;obtain ⟨e4, n4, a4, c4, l4, d4⟩ := U2;dsimp only at *
     have hfin : Hid (HdFu W2 g o n cap A (fun k => P (rot y i (i + 1) k)) ∧ Kp [g] w W2) := hid ⟨by
      have := HSW.out.1
      rw [hQ.out] at this;rw [rot_pull y i (by have := HYJ.out; omega), ← HYJ.out.2]
      exact this, hk2.out.trans HSW.out.2 (by simp)⟩
     have hya : a ≤ y ∧ y ≤ i := by have := HYJ.out; have := HJA.out; omega
     have hyj : y < j := by have := HYJ.out; omega
     clear hd2 HSW hk2;refine tkH ?_ 0 rfl (by kernel_rfl) (fun _ _ _ h => h) (by rfl) ?_ ‹_› ?_;rotate_left
     ·intro w h; (try dsimp only at h); go_simp <;> with_reducible rfl
     (try simp only [Act.put, lz]);refine tkH ?_ 1 rfl (by kernel_rfl) (fun _ _ _ h => h) (by rfl) ?_ ‹_› ?_;rotate_left
     ·intro w h; (try dsimp only at h); go_simp <;> with_reducible rfl
     (try simp only [Act.put, lz]);refine tkH ?_ 2 rfl (by kernel_rfl) (fun _ _ _ h => h) (by rfl) ?_ ‹_› ?_;rotate_left
     ·intro w h; (try dsimp only at h); go_simp <;> with_reducible rfl
     (try simp only [Act.put, lz]);refine tkH ?_ 3 rfl (by kernel_rfl) (fun _ _ _ h => h) (by rfl) ?_ ‹_› ?_;rotate_left
     ·intro w h; (try dsimp only at h); go_simp <;> with_reducible rfl
     (try simp only [Act.put, lz]);refine tkH ?_ 4 rfl (by kernel_rfl) (fun _ _ _ h => h) (by rfl) ?_ ‹_› ?_;rotate_left
     ·intro w hSw; (try dsimp only at hSw); go_simp <;> (try simp only [wy, wy2]) <;> with_reducible rfl
     (try simp only [Act.put, lz]);try simp only [wy, wy2]
     refine tkH ?_ 5 rfl (by kernel_rfl) (fun _ _ _ h => h) (by rfl) ?_ ‹_› ?_;rotate_left
     ·intro w h; (try dsimp only at h); go_simp <;> with_reducible rfl
     (try simp only [Act.put, lz]);refine tkH ?_ 6 rfl (by kernel_rfl) (fun _ _ _ h => h) (by rfl) ?_ ‹_› ?_;rotate_left
     ·intro w h; (try dsimp only at h); go_simp <;> with_reducible rfl
     (try simp only [Act.put, lz]);refine tkH ?_ 7 rfl (by kernel_rfl) (fun _ _ _ h => h) (by rfl) ?_ ‹_› ?_;rotate_left
     ·intro w hSw; (try dsimp only at hSw); go_simp <;> (try simp only [wy, wy2]) <;> with_reducible rfl
     (try simp only [Act.put, lz]);try simp only [wy, wy2]
     refine tkH ?_ 8 rfl (by kernel_rfl) (fun _ _ _ h => h) (by rfl) ?_ ‹_› ?_;rotate_left
     ·intro w h; (try dsimp only at h); go_simp <;> with_reducible rfl
     (try simp only [Act.put, lz]);refine tkH ?_ 10 rfl (by kernel_rfl) (fun _ _ _ h => h) (by rfl) ?_ ‹_› ?_;rotate_left
     ·intro w h; (try dsimp only at h); go_simp <;> with_reducible rfl
     (try simp only [Act.put, lz]);refine tkH ?_ 11 rfl (by kernel_rfl) (fun _ _ _ h => h) (by rfl) ?_ ‹_› ?_;rotate_left
     ·intro w h; (try dsimp only at h); go_simp <;> with_reducible rfl
     (try simp only [Act.put, lz]);refine tkH ?_ 12 rfl (by kernel_rfl) (fun _ _ _ h => h) (by rfl) ?_ ‹_› ?_;rotate_left
     ·intro w h; (try dsimp only at h); go_simp <;> with_reducible rfl
     (try simp only [Act.put, lz]);refine wpAnyH_ready (rs := [9, 13]) (by kernel_rfl) (by simp) ?_
     refine AllReadyH.cons rfl (fun K hK => ?_) (AllReadyH.cons rfl (fun K hK => ?_) AllReadyH.nil)
     ·go_simp
      (try go_wp2_with fail);refine hK.out _ _ trivial (fun hHeld => ?_)
      clear hK K;(try simp only [Act.put, lz]);refine rdH 13 (by kernel_rfl) rfl fun K hK => ?_
      go_simp;(try go_wp2_with fail);refine hK.out _ _ trivial (fun hHeld => ?_)
      clear hK K;(try simp only [Act.put, lz]);refine tkH ?_ 14 rfl (by kernel_rfl) (fun _ _ _ h => h) (by rfl) ?_ ‹_› ?_;rotate_left
      ·intro w h; (try dsimp only at h); go_simp <;> with_reducible rfl
      (try simp only [Act.put, lz]);refine rdH 15 (by kernel_rfl) rfl fun K hK => ?_
      go_simp;(try go_wp2_with fail);refine hK.out _ _ trivial (fun hHeld => ?_)
      clear hK K;(try simp only [Act.put, lz]);refine tkH ?_ 16 rfl (by kernel_rfl) (fun _ _ _ h => h) (by rfl) ?_ ‹_› ?_;rotate_left
      ·intro w h; (try dsimp only at h); go_simp <;> with_reducible rfl
      (try simp only [Act.put, lz]);refine rdH 17 (by kernel_rfl) rfl fun K hK => ?_
      go_simp;(try go_wp2_with fail);refine hK.out _ _ trivial (fun hHeld => ?_)
      clear hK K;(try simp only [Act.put, lz]);refine wpAnyH_done (by kernel_rfl) ?_ _
      clear hHeld;go_wp2_with fail;exact ⟨⟨y, hya, by go_num, hj2, hfin⟩, by simp [intOf]; omega⟩
     ·go_simp
      (try go_wp2_with fail);refine hK.out _ _ trivial (fun hHeld => ?_)
      clear hK K;(try simp only [Act.put, lz]);refine rdH 9 (by kernel_rfl) rfl fun K hK => ?_
      go_simp;(try go_wp2_with fail);refine hK.out _ _ trivial (fun hHeld => ?_)
      clear hK K;(try simp only [Act.put, lz]);refine tkH ?_ 14 rfl (by kernel_rfl) (fun _ _ _ h => h) (by rfl) ?_ ‹_› ?_;rotate_left
      ·intro w h; (try dsimp only at h); go_simp <;> with_reducible rfl
      (try simp only [Act.put, lz]);refine rdH 15 (by kernel_rfl) rfl fun K hK => ?_
      go_simp;(try go_wp2_with fail);refine hK.out _ _ trivial (fun hHeld => ?_)
      clear hK K;(try simp only [Act.put, lz]);refine tkH ?_ 16 rfl (by kernel_rfl) (fun _ _ _ h => h) (by rfl) ?_ ‹_› ?_;rotate_left
      ·intro w h; (try dsimp only at h); go_simp <;> with_reducible rfl
      (try simp only [Act.put, lz]);refine rdH 17 (by kernel_rfl) rfl fun K hK => ?_
      go_simp;(try go_wp2_with fail);refine hK.out _ _ trivial (fun hHeld => ?_)
      clear hK K;(try simp only [Act.put, lz]);refine wpAnyH_done (by kernel_rfl) ?_ _
      clear hHeld;go_wp2_with fail;exact ⟨⟨y, hya, by go_num, hj2, hfin⟩, by simp [intOf]; omega⟩
    ·have dc : decide (C < 0) = false := by simpa using hc0
     refine tkH ?_ 15 rfl (by kernel_rfl) (fun _ _ _ h => h) (by rfl) ?_ ‹_› ?_;rotate_left
     ·intro w hSw; (try dsimp only at hSw); go_simp <;> (try simp only [dc]) <;> with_reducible rfl
     (try simp only [Act.put, lz]);try simp only [dc]
     refine tkH ?_ 16 rfl (by kernel_rfl) (fun _ _ _ h => h) (by rfl) ?_ ‹_› ?_;rotate_left
     ·intro w h; (try dsimp only at h); go_simp <;> with_reducible rfl
     (try simp only [Act.put, lz]);refine wpAnyH_done (by kernel_rfl) ?_ _
     have hfin : Hid (PermIn a (i + 1) (fun k => s (rot j i (i + 1) k)) ∧ Srt (fun x y => cf x y < 0) (fun k => p (s (rot j i (i + 1) k))) a (i + 1)) := hid ⟨(hs.out.1.mono (Nat.le_refl _) (by omega)).comp (rot_perm ja ji (by omega) (Nat.le_refl _)), by
      have := ins_left HC.out.swo ja ji hs.out.2 hLow.out hj.out (.inr (by rw [← HYJ.out.1, ← hQj.out, ← hQy.out, hCf.out]; exact hc0))
      rw [hP.out] at this;exact this⟩
     have hw2 : Hid (HdFu u1 g o n cap A (fun k => p (s (rot j i (i + 1) k))) ∧ Kp [g] w u1) := hid ⟨by have := hw1.out.1; rw [hQ.out, hP.out] at this; exact this, hw1.out.2⟩
     clear hHeld hF cC hj hw hc0 hw1;go_wp2_with fail;exact ⟨⟨i + 1, fun k => s (rot j i (i + 1) k), by omega, by go_num, hfin, hw2⟩, by simp [intOf]; omega⟩
  ·have e : i = b := by omega
   subst e;go_wp2_with fail;go_end0
   exact ⟨⟨_, rfl⟩, s, hs.out.1, hs.out.2, hr.out.1, hr.out.2⟩
theorem cSymAFu (g o n cap : Nat) (A : Nat → Vr) (cf : Nat → Nat → Int) (Inv : World → Prop) (hC : CmpOkFu g n A cf Inv) (p : Nat → Nat) (a m b : Nat) (w : World) (h : HdFu w g o n cap A p) (hI : Inv w) (hpn : ∀ k, k < n → p k < n) (h1 : a < m) (h2 : m < b) (h3 : b ≤ n) (hA : Srt (fun x y => cf x y < 0) p a m) (hB : Srt (fun x y => cf x y < 0) p m b) (hLo : Low p a m b) (hn : n ≤ 4000000000000) (hcap : n ≤ cap) (hma : m ≤ a + 1) : Calls Tryz.prog 160 #[.slice (some ⟨g, o, none⟩) n cap, .int .i64 (a : Int), .int .i64 (m : Int), .int .i64 (b : Int), .func (.func 89) #[] #[]] w fun e w' => (∃ v, e = .returned v) ∧ ∃ s, PermIn a b s ∧ Srt (fun x y => cf x y < 0) (fun k => p (s k)) a b ∧ HdFu w' g o n cap A (fun k => p (s k)) ∧ Kp [g] w w' := by
 have HC := hid hC
 have HI := hid hI
 have HH := hid h
 have HPN := hid hpn
 have HSR := hid (And.intro hA (And.intro hB hLo))
 have q1 : (-9223372036854775808 : Int) ≤ (m : Int) - (a : Int) := by omega
 have q2 : (m : Int) - (a : Int) ≤ 9223372036854775807 := by omega
 clear hC hI h hpn hA hB hLo;have hm1 : (m : Int) - (a : Int) = 1 := by omega
 go_enter Tryz.func160, Tryz.ntmps160
 go_wp2_with fail;clear q1 q2 hm1;go_loopw [10, 11, 12] (fun iv jv _ wr => ∃ i j : Nat, (m ≤ i ∧ i ≤ j ∧ j ≤ b) ∧ iv = .int .i64 (i : Int) ∧ jv = .int .i64 (j : Int) ∧ Hid ((i = m ∨ cf (p (i - 1)) (p a) < 0) ∧ (j = b ∨ 0 ≤ cf (p j) (p a))) ∧ Hid (HdFu wr g o n cap A p ∧ Kp [g] w wr)) (fun iv jv _ _ => (intOf jv).toNat - (intOf iv).toNat)
 case atStart => exact ⟨m, b, by omega, rfl, rfl, hid ⟨.inl rfl, .inl rfl⟩, hid ⟨HH.out, Kp.refl _ _⟩⟩
 case round =>
  obtain ⟨i, j, ⟨bi, bij, bj⟩, rfl, rfl, hs, hw⟩ := hrel
  by_cases hij : i < j
  ·have i0 : (i : Int) < (j : Int) := by omega
   obtain ⟨t, ht⟩ : ∃ t : Nat, t = i + j := ⟨_, rfl⟩
   obtain ⟨h, hh⟩ : ∃ h : Nat, h = t / 2 := ⟨_, rfl⟩
   have et : (i : Int) + (j : Int) = (t : Int) := by omega
   have et1 : (-9223372036854775808 : Int) ≤ (i : Int) + (j : Int) := by omega
   have et2 : (i : Int) + (j : Int) ≤ 9223372036854775807 := by omega
   have et3 : (0 : Int) ≤ (t : Int) := by omega
   have et4 : (t : Int) ≤ 9223372036854775807 := by omega
   have et5 : (t : Int) < 18446744073709551616 := by omega
   have eh : (t : Int) / 2 = (h : Int) := by omega
   have eh2 : (h : Int) ≤ 9223372036854775807 := by omega
   have eu : IntKind.u64.wrap (t : Int) = (t : Int) := by rw [IntKind.wrap_u64]; omega
   have ew : IntKind.i64.wrap (h : Int) = (h : Int) := by rw [IntKind.wrap_i64]; omega
   have ewt : IntKind.i64.wrap (t : Int) = (t : Int) := by rw [IntKind.wrap_i64]; omega
   have hhb : i ≤ h ∧ h < j := by omega
   have HT := hid (And.intro ht hh)
   clear ht hh;have i1 : (0 : Int) ≤ (h : Int) := by omega
   have i2 : (h : Int) < (n : Int) := by omega
   have i5 : (h : Int) + 1 ≤ 9223372036854775807 := by omega
   have i3 : (0 : Int) ≤ (a : Int) := by omega
   have i4 : (a : Int) < (n : Int) := by omega
   have cC := hid (fun W' (k : Kp [] wr W') => HC.out.calls W' (p h) (p a) (HC.out.keep _ _ HI.out (hw.out.2.trans k (by simp))) (HPN.out _ (by omega)) (HPN.out _ (by omega)))
   obtain ⟨⟨x0, x1, x2, x3⟩, _⟩ := hw.out.1.cells h (by omega)
   obtain ⟨⟨y0, y1, y2, y3⟩, _⟩ := hw.out.1.cells a (by omega)
   obtain ⟨V1, hV1⟩ : ∃ V, Hid (V = A (p h)) := ⟨_, hid rfl⟩
   obtain ⟨V2, hV2⟩ : ∃ V, Hid (V = A (p a)) := ⟨_, hid rfl⟩
   rw [← hV1.out] at x0 x1 x2 x3 cC;rw [← hV2.out] at y0 y1 y2 y3 cC;obtain ⟨C, hCf⟩ : ∃ C, Hid (cf (p h) (p a) = C) := ⟨_, hid rfl⟩
   rw [hCf.out] at cC;obtain ⟨e1, n1, a1, c1, l1, d1⟩ := V1;obtain ⟨e2, n2, a2, c2, l2, d2⟩ := V2;simp only [Vr.v] at cC;dsimp only at *;have hF : Hid (∀ W', Kp [] wr W' → (W'.cell? ⟨g, o + h * 4, none⟩ = some (.int .u64 e1) ∧ W'.cell? ⟨g, o + h * 4 + 1, none⟩ = some (.int .u32 n1) ∧ W'.cell? ⟨g, o + h * 4 + 2, none⟩ = some (.slice a1 l1.length c1) ∧ W'.cell? ⟨g, o + h * 4 + 3, none⟩ = some (.int .u64 d1) ∧ W'.cell? ⟨g, o + a * 4, none⟩ = some (.int .u64 e2) ∧ W'.cell? ⟨g, o + a * 4 + 1, none⟩ = some (.int .u32 n2) ∧ W'.cell? ⟨g, o + a * 4 + 2, none⟩ = some (.slice a2 l2.length c2) ∧ W'.cell? ⟨g, o + a * 4 + 3, none⟩ = some (.int .u64 d2))) := fun W' k => ⟨kpAt k x0, kpAt k x1, kpAt k x2, kpAt k x3, kpAt k y0, kpAt k y1, kpAt k y2, kpAt k y3⟩
   clear x0 x1 x2 x3 y0 y1 y2 y3 hV1 hV2;go_wp2_with fail;refine wp_region_held_drew (S := fun W' => W'.cell? ⟨g, o + h * 4, none⟩ = some (.int .u64 e1) ∧ W'.cell? ⟨g, o + h * 4 + 1, none⟩ = some (.int .u32 n1) ∧ W'.cell? ⟨g, o + h * 4 + 2, none⟩ = some (.slice a1 l1.length c1) ∧ W'.cell? ⟨g, o + h * 4 + 3, none⟩ = some (.int .u64 d1) ∧ W'.cell? ⟨g, o + a * 4, none⟩ = some (.int .u64 e2) ∧ W'.cell? ⟨g, o + a * 4 + 1, none⟩ = some (.int .u32 n2) ∧ W'.cell? ⟨g, o + a * 4 + 2, none⟩ = some (.slice a2 l2.length c2) ∧ W'.cell? ⟨g, o + a * 4 + 3, none⟩ = some (.int .u64 d2)) (by kernel_rfl) ?_ (fun hHeld => ?_)
   ·exact hF.out _ (Kp.refl [] wr).drew
   have KD : Hid (Kp [] wr wr.drew) := hid (Kp.refl [] wr).drew
   generalize wr.drew = Wd at *
   refine tkH ?_ 0 rfl (by kernel_rfl) (fun _ _ _ h => h) (by rfl) ?_ ‹_› ?_;rotate_left
   ·intro w h; (try dsimp only at h); go_simp <;> with_reducible rfl
   (try simp only [Act.put, lz]);refine tkH ?_ 1 rfl (by kernel_rfl) (fun _ _ _ h => h) (by rfl) ?_ ‹_› ?_;rotate_left
   ·intro w h; (try dsimp only at h); go_simp <;> with_reducible rfl
   (try simp only [Act.put, lz]);refine tkH ?_ 2 rfl (by kernel_rfl) (fun _ _ _ h => h) (by rfl) ?_ ‹_› ?_;rotate_left
   ·intro w h; (try dsimp only at h); go_simp <;> with_reducible rfl
   (try simp only [Act.put, lz]);refine tkH ?_ 3 rfl (by kernel_rfl) (fun _ _ _ h => h) (by rfl) ?_ ‹_› ?_;rotate_left
   ·intro w h; (try dsimp only at h); go_simp <;> with_reducible rfl
   (try simp only [Act.put, lz]);refine tkH ?_ 4 rfl (by kernel_rfl) (fun _ _ _ h => h) (by rfl) ?_ ‹_› ?_;rotate_left
   ·intro w h; (try dsimp only at h); go_simp <;> with_reducible rfl
   (try simp only [Act.put, lz]);refine tkH ?_ 5 rfl (by kernel_rfl) (fun _ _ _ h => h) (by rfl) ?_ ‹_› ?_;rotate_left
   ·intro w h; (try dsimp only at h); go_simp <;> with_reducible rfl
   (try simp only [Act.put, lz]);refine tkH ?_ 6 rfl (by kernel_rfl) (fun _ _ _ h => h) (by rfl) ?_ ‹_› ?_;rotate_left
   ·intro w h; (try dsimp only at h); go_simp <;> with_reducible rfl
   (try simp only [Act.put, lz]);refine tkH ?_ 7 rfl (by kernel_rfl) (fun _ _ _ h => h) (by rfl) ?_ ‹_› ?_;rotate_left
   ·intro w h; (try dsimp only at h); go_simp <;> with_reducible rfl
   (try simp only [Act.put, lz]);refine tkH ?_ 8 rfl (by kernel_rfl) (fun _ _ _ h => h) (by rfl) ?_ ‹_› ?_;rotate_left
   ·intro w h; (try dsimp only at h); go_simp <;> with_reducible rfl
   (try simp only [Act.put, lz]);refine rdH 9 (by kernel_rfl) rfl fun K hK => ?_
   go_simp;refine (cC.out Wd KD.out).mono ?_;rintro e u1 ⟨rfl, l1'⟩;(try go_wp2_with fail);refine hK.out _ _ ?_ (fun hHeld => ?_)
   ·exact hF.out _ (KD.out.trans l1' (by simp))
   clear hK K;(try simp only [Act.put, lz]);have K1 := hid (KD.out.trans l1' (by simp))
   clear l1' KD;have hw1 : Hid (HdFu u1 g o n cap A p ∧ Kp [g] w u1) := hid ⟨hw.out.1.kept K1.out, hw.out.2.trans K1.out (by simp)⟩
   by_cases hc0 : C < 0
   ·have dc : decide (C < 0) = true := by simpa using hc0
    refine tkH ?_ 10 rfl (by kernel_rfl) (fun _ _ _ h => h) (by rfl) ?_ ‹_› ?_;rotate_left
    ·intro w hSw; (try dsimp only at hSw); go_simp <;> (try simp only [dc]) <;> with_reducible rfl
    (try simp only [Act.put, lz]);try simp only [dc]
    refine wpAnyH_done (by kernel_rfl) ?_ _
    have hs2 : Hid ((h + 1 = m ∨ cf (p (h + 1 - 1)) (p a) < 0) ∧ (j = b ∨ 0 ≤ cf (p j) (p a))) := hid ⟨.inr (by rw [Nat.add_sub_cancel, hCf.out]; exact hc0), hs.out.2⟩
    clear hHeld hF cC hs hw hc0;go_wp2_with fail;exact ⟨⟨h + 1, j, by omega, by go_num, rfl, hs2, hw1⟩, by simp [intOf]; omega⟩
   ·have dc : decide (C < 0) = false := by simpa using hc0
    refine tkH ?_ 10 rfl (by kernel_rfl) (fun _ _ _ h => h) (by rfl) ?_ ‹_› ?_;rotate_left
    ·intro w hSw; (try dsimp only at hSw); go_simp <;> (try simp only [dc]) <;> with_reducible rfl
    (try simp only [Act.put, lz]);try simp only [dc]
    refine wpAnyH_done (by kernel_rfl) ?_ _
    have hs2 : Hid ((i = m ∨ cf (p (i - 1)) (p a) < 0) ∧ (h = b ∨ 0 ≤ cf (p h) (p a))) := hid ⟨hs.out.1, .inr (by rw [hCf.out]; omega)⟩
    clear hHeld hF cC hs hw hc0;go_wp2_with fail;exact ⟨⟨i, h, by omega, rfl, rfl, hs2, hw1⟩, by simp [intOf]; omega⟩
  ·have e : j = i := by omega
   subst e
   have hfin : Hid (PermIn a b (rot a (a + 1) j) ∧ Srt (fun x y => cf x y < 0) (fun k => p (rot a (a + 1) j k)) a b) := hid ⟨rot_perm (Nat.le_refl _) (by omega) (by omega) bj, by
    have em : m = a + 1 := by omega
    refine ins_right HC.out.swo (by omega) bj (em ▸ HSR.out.2.1) (em ▸ HSR.out.2.2) ?_ (hs.out.2.imp_right fun h => Int.not_lt.2 h)
    have := hs.out.1
    rwa [em] at this⟩
   have q3 : (-9223372036854775808 : Int) ≤ (j : Int) - 1 := by omega
   have q4 : (j : Int) - 1 ≤ 9223372036854775807 := by omega
   clear hs;go_wp2_with fail;go_loopw [13] (fun kv wn => ∃ k : Nat, (a ≤ k ∧ k + 1 ≤ j) ∧ kv = .int .i64 (k : Int) ∧ Hid (HdFu wn g o n cap A (fun x => p (rot a (a + 1) (k + 1) x)) ∧ Kp [g] w wn)) (fun kv _ => j - (intOf kv).toNat)
   case atStart => exact ⟨a, by omega, rfl, hid ⟨by rw [rot_right a (a + 1) (by omega)]; exact hw.out.1, hw.out.2⟩⟩
   case round =>
    obtain ⟨k, ⟨bk, bk2⟩, rfl, hw3⟩ := hrel;clear hw
    by_cases hkj : k + 1 < j
    ·have d1 : decide ((k : Int) < (j : Int) - 1) = true := by simp; omega
     have d2 : (k : Int) < (j : Int) - 1 := by omega
     obtain ⟨y, hy⟩ : ∃ y : Nat, y = k + 1 := ⟨_, rfl⟩
     have ey : (k : Int) + 1 = (y : Int) := by omega
     have wy : IntKind.i64.wrap ((k : Int) + 1) = (y : Int) := by rw [ey, IntKind.wrap_i64]; omega
     have wy2 : IntKind.i64.wrap (y : Int) = (y : Int) := by rw [IntKind.wrap_i64]; omega
     have i1 : (0 : Int) ≤ (k : Int) := by omega
     have i2 : (k : Int) < (n : Int) := by omega
     have i3 : (0 : Int) ≤ (y : Int) := by omega
     have i4 : (y : Int) < (n : Int) := by omega
     have b1 : (-9223372036854775808 : Int) ≤ (k : Int) + 1 := by omega
     have b2 : (k : Int) + 1 ≤ 9223372036854775807 := by omega
     have HY := hid hy
     obtain ⟨Q, hQ⟩ : ∃ Q, Hid (Q = fun x => p (rot a (a + 1) (k + 1) x)) := ⟨_, hid rfl⟩
     rw [← hQ.out] at hw3;have hyb : y < n ∧ y + 1 ≤ j := by omega
     clear hy;go_wp2_with fail;refine wp_region_held_drew (S := fun _ => True) (by kernel_rfl) trivial (fun hHeld => ?_)
     have KD2 : Kp [] wr wr.drew := (Kp.refl [] wr).drew
     have hd2 := hw3.out.1.kept KD2
     have hk2 := hid (hw3.out.2.trans KD2 (by simp))
     generalize wr.drew = Wd2 at *
     clear KD2 hw3;obtain ⟨⟨x0, x1, x2, x3⟩, fx0, fx1, fx2, fx3⟩ := hd2.cells k (by omega)
     obtain ⟨⟨y0, y1, y2, y3⟩, fy0, fy1, fy2, fy3⟩ := hd2.cells y (by omega)
     have hsw := hd2.swap k y (by omega) (by omega)
     have hpc := put4_cellsFu hd2 k y (by omega) (by omega)
     obtain ⟨U1, hU1⟩ : ∃ V, V = A (Q k) := ⟨_, rfl⟩
     obtain ⟨U2, hU2⟩ : ∃ V, V = A (Q y) := ⟨_, rfl⟩
     rw [← hU1] at x0 x1 x2 x3 hsw;rw [← hU2] at y0 y1 y2 y3 hsw;replace hpc := hpc U2
     obtain ⟨⟨u0, hu0⟩, gu0⟩ := hpc 0 (by omega)
     obtain ⟨⟨u1, hu1⟩, gu1⟩ := hpc 1 (by omega)
     obtain ⟨⟨u2, hu2⟩, gu2⟩ := hpc 2 (by omega)
     obtain ⟨⟨u3, hu3⟩, gu3⟩ := hpc 3 (by omega)
     simp only [Nat.add_zero] at hu0 gu0;obtain ⟨W1, eW1⟩ : ∃ Y, ((((Wd2.setCell ⟨g, o + k * 4, none⟩ (.int .u64 U2.e)).setCell ⟨g, o + k * 4 + 1, none⟩ (.int .u32 U2.n)).setCell ⟨g, o + k * 4 + 2, none⟩ (.slice U2.a U2.l.length U2.c)).setCell ⟨g, o + k * 4 + 3, none⟩ (.int .u64 U2.d)) = Y := ⟨_, rfl⟩
     have eP1 : put4Fu Wd2 g (o + k * 4) U2 = W1 := eW1
     obtain ⟨W2, eW2⟩ : ∃ Y, ((((W1.setCell ⟨g, o + y * 4, none⟩ (.int .u64 U1.e)).setCell ⟨g, o + y * 4 + 1, none⟩ (.int .u32 U1.n)).setCell ⟨g, o + y * 4 + 2, none⟩ (.slice U1.a U1.l.length U1.c)).setCell ⟨g, o + y * 4 + 3, none⟩ (.int .u64 U1.d)) = Y := ⟨_, rfl⟩
     have eP2 : put4Fu W1 g (o + y * 4) U1 = W2 := eW2
     have kP1 : Kp [g] Wd2 W1 := by rw [← eP1]; exact put4_kpFu _ _ _ _
     have kP2 : Kp [g] W1 W2 := by rw [← eP2]; exact put4_kpFu _ _ _ _
     simp only [eP1] at hu0 hu1 hu2 hu3 gu0 gu1 gu2 gu3 hsw;simp only [eP2] at hsw;have zW1 := kP1.size
     have HSW := hid (And.intro hsw (kP1.trans kP2 (by simp)))
     have zg : g < Wd2.heap.size := hd2.lt
     have zg1 : g < W1.heap.size := by omega
     clear hpc hsw eP1 eP2 kP1 kP2 hU1 hU2 zW1;obtain ⟨e3, n3, a3, c3, l3, d3⟩ := U1;obtain ⟨e4, n4, a4, c4, l4, d4⟩ := U2;dsimp only at *
     have hfin2 : Hid (HdFu W2 g o n cap A (fun x => p (rot a (a + 1) (y + 1) x)) ∧ Kp [g] w W2) := hid ⟨by
      have := HSW.out.1
      rw [hQ.out] at this;have e := HY.out
      subst e;rw [rot_push a k j bk hkj];exact this, hk2.out.trans HSW.out.2 (by simp)⟩
     have hky : a ≤ y ∧ k < y := by have := HY.out; omega
     clear hd2 HSW hk2;refine tkH ?_ 0 rfl (by kernel_rfl) (fun _ _ _ h => h) (by rfl) ?_ ‹_› ?_;rotate_left
     ·intro w h; (try dsimp only at h); go_simp <;> with_reducible rfl
     (try simp only [Act.put, lz]);refine tkH ?_ 1 rfl (by kernel_rfl) (fun _ _ _ h => h) (by rfl) ?_ ‹_› ?_;rotate_left
     ·intro w h; (try dsimp only at h); go_simp <;> with_reducible rfl
     (try simp only [Act.put, lz]);refine tkH ?_ 2 rfl (by kernel_rfl) (fun _ _ _ h => h) (by rfl) ?_ ‹_› ?_;rotate_left
     ·intro w h; (try dsimp only at h); go_simp <;> with_reducible rfl
     (try simp only [Act.put, lz]);refine tkH ?_ 3 rfl (by kernel_rfl) (fun _ _ _ h => h) (by rfl) ?_ ‹_› ?_;rotate_left
     ·intro w h; (try dsimp only at h); go_simp <;> with_reducible rfl
     (try simp only [Act.put, lz]);refine tkH ?_ 4 rfl (by kernel_rfl) (fun _ _ _ h => h) (by rfl) ?_ ‹_› ?_;rotate_left
     ·intro w hSw; (try dsimp only at hSw); go_simp <;> (try simp only [wy, wy2]) <;> with_reducible rfl
     (try simp only [Act.put, lz]);try simp only [wy, wy2]
     refine tkH ?_ 5 rfl (by kernel_rfl) (fun _ _ _ h => h) (by rfl) ?_ ‹_› ?_;rotate_left
     ·intro w h; (try dsimp only at h); go_simp <;> with_reducible rfl
     (try simp only [Act.put, lz]);refine tkH ?_ 6 rfl (by kernel_rfl) (fun _ _ _ h => h) (by rfl) ?_ ‹_› ?_;rotate_left
     ·intro w h; (try dsimp only at h); go_simp <;> with_reducible rfl
     (try simp only [Act.put, lz]);refine tkH ?_ 7 rfl (by kernel_rfl) (fun _ _ _ h => h) (by rfl) ?_ ‹_› ?_;rotate_left
     ·intro w hSw; (try dsimp only at hSw); go_simp <;> (try simp only [wy, wy2]) <;> with_reducible rfl
     (try simp only [Act.put, lz]);try simp only [wy, wy2]
     refine tkH ?_ 8 rfl (by kernel_rfl) (fun _ _ _ h => h) (by rfl) ?_ ‹_› ?_;rotate_left
     ·intro w h; (try dsimp only at h); go_simp <;> with_reducible rfl
     (try simp only [Act.put, lz]);refine tkH ?_ 10 rfl (by kernel_rfl) (fun _ _ _ h => h) (by rfl) ?_ ‹_› ?_;rotate_left
     ·intro w h; (try dsimp only at h); go_simp <;> with_reducible rfl
     (try simp only [Act.put, lz]);refine tkH ?_ 11 rfl (by kernel_rfl) (fun _ _ _ h => h) (by rfl) ?_ ‹_› ?_;rotate_left
     ·intro w h; (try dsimp only at h); go_simp <;> with_reducible rfl
     (try simp only [Act.put, lz]);refine tkH ?_ 12 rfl (by kernel_rfl) (fun _ _ _ h => h) (by rfl) ?_ ‹_› ?_;rotate_left
     ·intro w h; (try dsimp only at h); go_simp <;> with_reducible rfl
     (try simp only [Act.put, lz]);refine wpAnyH_ready (rs := [9, 13]) (by kernel_rfl) (by simp) ?_
     refine AllReadyH.cons rfl (fun K hK => ?_) (AllReadyH.cons rfl (fun K hK => ?_) AllReadyH.nil)
     ·go_simp
      (try go_wp2_with fail);refine hK.out _ _ trivial (fun hHeld => ?_)
      clear hK K;(try simp only [Act.put, lz]);refine rdH 13 (by kernel_rfl) rfl fun K hK => ?_
      go_simp;(try go_wp2_with fail);refine hK.out _ _ trivial (fun hHeld => ?_)
      clear hK K;(try simp only [Act.put, lz]);refine tkH ?_ 14 rfl (by kernel_rfl) (fun _ _ _ h => h) (by rfl) ?_ ‹_› ?_;rotate_left
      ·intro w h; (try dsimp only at h); go_simp <;> with_reducible rfl
      (try simp only [Act.put, lz]);refine rdH 15 (by kernel_rfl) rfl fun K hK => ?_
      go_simp;(try go_wp2_with fail);refine hK.out _ _ trivial (fun hHeld => ?_)
      clear hK K;(try simp only [Act.put, lz]);refine tkH ?_ 16 rfl (by kernel_rfl) (fun _ _ _ h => h) (by rfl) ?_ ‹_› ?_;rotate_left
      ·intro w h; (try dsimp only at h); go_simp <;> with_reducible rfl
      (try simp only [Act.put, lz]);refine rdH 17 (by kernel_rfl) rfl fun K hK => ?_
      go_simp;(try go_wp2_with fail);refine hK.out _ _ trivial (fun hHeld => ?_)
      clear hK K;(try simp only [Act.put, lz]);refine wpAnyH_done (by kernel_rfl) ?_ _
      clear hHeld;go_wp2_with fail;exact ⟨⟨y, by omega, by go_num, hfin2⟩, by simp [intOf]; omega⟩
     ·go_simp
      (try go_wp2_with fail);refine hK.out _ _ trivial (fun hHeld => ?_)
      clear hK K;(try simp only [Act.put, lz]);refine rdH 9 (by kernel_rfl) rfl fun K hK => ?_
      go_simp;(try go_wp2_with fail);refine hK.out _ _ trivial (fun hHeld => ?_)
      clear hK K;(try simp only [Act.put, lz]);refine tkH ?_ 14 rfl (by kernel_rfl) (fun _ _ _ h => h) (by rfl) ?_ ‹_› ?_;rotate_left
      ·intro w h; (try dsimp only at h); go_simp <;> with_reducible rfl
      (try simp only [Act.put, lz]);refine rdH 15 (by kernel_rfl) rfl fun K hK => ?_
      go_simp;(try go_wp2_with fail);refine hK.out _ _ trivial (fun hHeld => ?_)
      clear hK K;(try simp only [Act.put, lz]);refine tkH ?_ 16 rfl (by kernel_rfl) (fun _ _ _ h => h) (by rfl) ?_ ‹_› ?_;rotate_left
      ·intro w h; (try dsimp only at h); go_simp <;> with_reducible rfl
      (try simp only [Act.put, lz]);refine rdH 17 (by kernel_rfl) rfl fun K hK => ?_
      go_simp;(try go_wp2_with fail);refine hK.out _ _ trivial (fun hHeld => ?_)
      clear hK K;(try simp only [Act.put, lz]);refine wpAnyH_done (by kernel_rfl) ?_ _
      clear hHeld;go_wp2_with fail;exact ⟨⟨y, by omega, by go_num, hfin2⟩, by simp [intOf]; omega⟩
    ·have d1 : decide ((k : Int) < (j : Int) - 1) = false := by simp; omega
     have d2 : ¬ ((k : Int) < (j : Int) - 1) := by omega
     have ek : k + 1 = j := by omega
     rw [ek] at hw3;clear ek;go_wp2_with fail;refine bodyPost_ret (results_none rfl _ _ _) rfl ?_;exact ⟨⟨_, rfl⟩, _, hfin.out.1, hfin.out.2, hw3.out.1, hw3.out.2⟩
theorem cSymBFu (g o n cap : Nat) (A : Nat → Vr) (cf : Nat → Nat → Int) (Inv : World → Prop) (hC : CmpOkFu g n A cf Inv) (p : Nat → Nat) (a m b : Nat) (w : World) (h : HdFu w g o n cap A p) (hI : Inv w) (hpn : ∀ k, k < n → p k < n) (h1 : a < m) (h2 : m < b) (h3 : b ≤ n) (hA : Srt (fun x y => cf x y < 0) p a m) (hB : Srt (fun x y => cf x y < 0) p m b) (hLo : Low p a m b) (hn : n ≤ 4000000000000) (hcap : n ≤ cap) (hma : a + 1 < m) (hmb : b ≤ m + 1) : Calls Tryz.prog 160 #[.slice (some ⟨g, o, none⟩) n cap, .int .i64 (a : Int), .int .i64 (m : Int), .int .i64 (b : Int), .func (.func 89) #[] #[]] w fun e w' => (∃ v, e = .returned v) ∧ ∃ s, PermIn a b s ∧ Srt (fun x y => cf x y < 0) (fun k => p (s k)) a b ∧ HdFu w' g o n cap A (fun k => p (s k)) ∧ Kp [g] w w' := by
 have HC := hid hC
 have HI := hid hI
 have HH := hid h
 have HPN := hid hpn
 have HSR := hid (And.intro hA (And.intro hB hLo))
 have q1 : (-9223372036854775808 : Int) ≤ (m : Int) - (a : Int) := by omega
 have q2 : (m : Int) - (a : Int) ≤ 9223372036854775807 := by omega
 clear hC hI h hpn hA hB hLo;have hm1 : ((m : Int) - (a : Int) == 1) = false := by simp; omega
 have hm2 : ¬ ((m : Int) - (a : Int) = 1) := by omega
 have hb1 : (b : Int) - (m : Int) = 1 := by omega
 have q3 : (-9223372036854775808 : Int) ≤ (b : Int) - (m : Int) := by omega
 have q4 : (b : Int) - (m : Int) ≤ 9223372036854775807 := by omega
 go_enter Tryz.func160, Tryz.ntmps160
 go_wp2_with fail;clear q1 q2 hm1 hm2 hb1 q3 q4;go_loopw [14, 15, 16] (fun iv jv _ wr => ∃ i j : Nat, (a ≤ i ∧ i ≤ j ∧ j ≤ m) ∧ iv = .int .i64 (i : Int) ∧ jv = .int .i64 (j : Int) ∧ Hid ((i = a ∨ 0 ≤ cf (p m) (p (i - 1))) ∧ (j = m ∨ cf (p m) (p j) < 0)) ∧ Hid (HdFu wr g o n cap A p ∧ Kp [g] w wr)) (fun iv jv _ _ => (intOf jv).toNat - (intOf iv).toNat)
 case atStart => exact ⟨a, m, by omega, rfl, rfl, hid ⟨.inl rfl, .inl rfl⟩, hid ⟨HH.out, Kp.refl _ _⟩⟩
 case round =>
  obtain ⟨i, j, ⟨bi, bij, bj⟩, rfl, rfl, hs, hw⟩ := hrel
  by_cases hij : i < j
  ·have i0 : (i : Int) < (j : Int) := by omega
   obtain ⟨t, ht⟩ : ∃ t : Nat, t = i + j := ⟨_, rfl⟩
   obtain ⟨h, hh⟩ : ∃ h : Nat, h = t / 2 := ⟨_, rfl⟩
   have et : (i : Int) + (j : Int) = (t : Int) := by omega
   have et1 : (-9223372036854775808 : Int) ≤ (i : Int) + (j : Int) := by omega
   have et2 : (i : Int) + (j : Int) ≤ 9223372036854775807 := by omega
   have et3 : (0 : Int) ≤ (t : Int) := by omega
   have et4 : (t : Int) ≤ 9223372036854775807 := by omega
   have et5 : (t : Int) < 18446744073709551616 := by omega
   have eh : (t : Int) / 2 = (h : Int) := by omega
   have eh2 : (h : Int) ≤ 9223372036854775807 := by omega
   have eu : IntKind.u64.wrap (t : Int) = (t : Int) := by rw [IntKind.wrap_u64]; omega
   have ew : IntKind.i64.wrap (h : Int) = (h : Int) := by rw [IntKind.wrap_i64]; omega
   have ewt : IntKind.i64.wrap (t : Int) = (t : Int) := by rw [IntKind.wrap_i64]; omega
   have hhb : i ≤ h ∧ h < j := by omega
   have HT := hid (And.intro ht hh)
   clear ht hh;have i1 : (0 : Int) ≤ (h : Int) := by omega
   have i2 : (h : Int) < (n : Int) := by omega
   have i5 : (h : Int) + 1 ≤ 9223372036854775807 := by omega
   have i3 : (0 : Int) ≤ (m : Int) := by omega
   have i4 : (m : Int) < (n : Int) := by omega
   have cC := hid (fun W' (k : Kp [] wr W') => HC.out.calls W' (p m) (p h) (HC.out.keep _ _ HI.out (hw.out.2.trans k (by simp))) (HPN.out _ (by omega)) (HPN.out _ (by omega)))
   obtain ⟨⟨x0, x1, x2, x3⟩, _⟩ := hw.out.1.cells m (by omega)
   obtain ⟨⟨y0, y1, y2, y3⟩, _⟩ := hw.out.1.cells h (by omega)
   obtain ⟨V1, hV1⟩ : ∃ V, Hid (V = A (p m)) := ⟨_, hid rfl⟩
   obtain ⟨V2, hV2⟩ : ∃ V, Hid (V = A (p h)) := ⟨_, hid rfl⟩
   rw [← hV1.out] at x0 x1 x2 x3 cC;rw [← hV2.out] at y0 y1 y2 y3 cC;obtain ⟨C, hCf⟩ : ∃ C, Hid (cf (p m) (p h) = C) := ⟨_, hid rfl⟩
   rw [hCf.out] at cC;obtain ⟨e1, n1, a1, c1, l1, d1⟩ := V1;obtain ⟨e2, n2, a2, c2, l2, d2⟩ := V2;simp only [Vr.v] at cC;dsimp only at *;have hF : Hid (∀ W', Kp [] wr W' → (W'.cell? ⟨g, o + m * 4, none⟩ = some (.int .u64 e1) ∧ W'.cell? ⟨g, o + m * 4 + 1, none⟩ = some (.int .u32 n1) ∧ W'.cell? ⟨g, o + m * 4 + 2, none⟩ = some (.slice a1 l1.length c1) ∧ W'.cell? ⟨g, o + m * 4 + 3, none⟩ = some (.int .u64 d1) ∧ W'.cell? ⟨g, o + h * 4, none⟩ = some (.int .u64 e2) ∧ W'.cell? ⟨g, o + h * 4 + 1, none⟩ = some (.int .u32 n2) ∧ W'.cell? ⟨g, o + h * 4 + 2, none⟩ = some (.slice a2 l2.length c2) ∧ W'.cell? ⟨g, o + h * 4 + 3, none⟩ = some (.int .u64 d2))) := fun W' k => ⟨kpAt k x0, kpAt k x1, kpAt k x2, kpAt k x3, kpAt k y0, kpAt k y1, kpAt k y2, kpAt k y3⟩
   clear x0 x1 x2 x3 y0 y1 y2 y3 hV1 hV2;go_wp2_with fail;refine wp_region_held_drew (S := fun W' => W'.cell? ⟨g, o + m * 4, none⟩ = some (.int .u64 e1) ∧ W'.cell? ⟨g, o + m * 4 + 1, none⟩ = some (.int .u32 n1) ∧ W'.cell? ⟨g, o + m * 4 + 2, none⟩ = some (.slice a1 l1.length c1) ∧ W'.cell? ⟨g, o + m * 4 + 3, none⟩ = some (.int .u64 d1) ∧ W'.cell? ⟨g, o + h * 4, none⟩ = some (.int .u64 e2) ∧ W'.cell? ⟨g, o + h * 4 + 1, none⟩ = some (.int .u32 n2) ∧ W'.cell? ⟨g, o + h * 4 + 2, none⟩ = some (.slice a2 l2.length c2) ∧ W'.cell? ⟨g, o + h * 4 + 3, none⟩ = some (.int .u64 d2)) (by kernel_rfl) ?_ (fun hHeld => ?_)
   ·exact hF.out _ (Kp.refl [] wr).drew
   have KD : Hid (Kp [] wr wr.drew) := hid (Kp.refl [] wr).drew
   generalize wr.drew = Wd at *
   refine tkH ?_ 0 rfl (by kernel_rfl) (fun _ _ _ h => h) (by rfl) ?_ ‹_› ?_;rotate_left
   ·intro w h; (try dsimp only at h); go_simp <;> with_reducible rfl
   (try simp only [Act.put, lz]);refine tkH ?_ 1 rfl (by kernel_rfl) (fun _ _ _ h => h) (by rfl) ?_ ‹_› ?_;rotate_left
   ·intro w h; (try dsimp only at h); go_simp <;> with_reducible rfl
   (try simp only [Act.put, lz]);refine tkH ?_ 2 rfl (by kernel_rfl) (fun _ _ _ h => h) (by rfl) ?_ ‹_› ?_;rotate_left
   ·intro w h; (try dsimp only at h); go_simp <;> with_reducible rfl
   (try simp only [Act.put, lz]);refine tkH ?_ 3 rfl (by kernel_rfl) (fun _ _ _ h => h) (by rfl) ?_ ‹_› ?_;rotate_left
   ·intro w h; (try dsimp only at h); go_simp <;> with_reducible rfl
   (try simp only [Act.put, lz]);refine tkH ?_ 4 rfl (by kernel_rfl) (fun _ _ _ h => h) (by rfl) ?_ ‹_› ?_;rotate_left
   ·intro w h; (try dsimp only at h); go_simp <;> with_reducible rfl
   (try simp only [Act.put, lz]);refine tkH ?_ 5 rfl (by kernel_rfl) (fun _ _ _ h => h) (by rfl) ?_ ‹_› ?_;rotate_left
   ·intro w h; (try dsimp only at h); go_simp <;> with_reducible rfl
   (try simp only [Act.put, lz]);refine tkH ?_ 6 rfl (by kernel_rfl) (fun _ _ _ h => h) (by rfl) ?_ ‹_› ?_;rotate_left
   ·intro w h; (try dsimp only at h); go_simp <;> with_reducible rfl
   (try simp only [Act.put, lz]);refine tkH ?_ 7 rfl (by kernel_rfl) (fun _ _ _ h => h) (by rfl) ?_ ‹_› ?_;rotate_left
   ·intro w h; (try dsimp only at h); go_simp <;> with_reducible rfl
   (try simp only [Act.put, lz]);refine tkH ?_ 8 rfl (by kernel_rfl) (fun _ _ _ h => h) (by rfl) ?_ ‹_› ?_;rotate_left
   ·intro w h; (try dsimp only at h); go_simp <;> with_reducible rfl
   (try simp only [Act.put, lz]);refine rdH 9 (by kernel_rfl) rfl fun K hK => ?_
   go_simp;refine (cC.out Wd KD.out).mono ?_;rintro e u1 ⟨rfl, l1'⟩;(try go_wp2_with fail);refine hK.out _ _ ?_ (fun hHeld => ?_)
   ·exact hF.out _ (KD.out.trans l1' (by simp))
   clear hK K;(try simp only [Act.put, lz]);have K1 := hid (KD.out.trans l1' (by simp))
   clear l1' KD;have hw1 : Hid (HdFu u1 g o n cap A p ∧ Kp [g] w u1) := hid ⟨hw.out.1.kept K1.out, hw.out.2.trans K1.out (by simp)⟩
   by_cases hc0 : C < 0
   ·have dc : decide (C < 0) = true := by simpa using hc0
    refine tkH ?_ 10 rfl (by kernel_rfl) (fun _ _ _ h => h) (by rfl) ?_ ‹_› ?_;rotate_left
    ·intro w hSw; (try dsimp only at hSw); go_simp <;> (try simp only [dc]) <;> with_reducible rfl
    (try simp only [Act.put, lz]);try simp only [dc]
    refine tkH ?_ 11 rfl (by kernel_rfl) (fun _ _ _ h => h) (by rfl) ?_ ‹_› ?_;rotate_left
    ·intro w h; (try dsimp only at h); go_simp <;> with_reducible rfl
    (try simp only [Act.put, lz]);try simp only [Bool.not_true, Bool.not_false]
    refine wpAnyH_done (by kernel_rfl) ?_ _
    have hs2 : Hid ((i = a ∨ 0 ≤ cf (p m) (p (i - 1))) ∧ (h = m ∨ cf (p m) (p h) < 0)) := hid ⟨hs.out.1, .inr (by rw [hCf.out]; exact hc0)⟩
    clear hHeld hF cC hs hw hc0;go_wp2_with fail;exact ⟨⟨i, h, by omega, rfl, rfl, hs2, hw1⟩, by simp [intOf]; omega⟩
   ·have dc : decide (C < 0) = false := by simpa using hc0
    refine tkH ?_ 10 rfl (by kernel_rfl) (fun _ _ _ h => h) (by rfl) ?_ ‹_› ?_;rotate_left
    ·intro w hSw; (try dsimp only at hSw); go_simp <;> (try simp only [dc]) <;> with_reducible rfl
    (try simp only [Act.put, lz]);try simp only [dc]
    refine tkH ?_ 11 rfl (by kernel_rfl) (fun _ _ _ h => h) (by rfl) ?_ ‹_› ?_;rotate_left
    ·intro w h; (try dsimp only at h); go_simp <;> with_reducible rfl
    (try simp only [Act.put, lz]);try simp only [Bool.not_true, Bool.not_false]
    refine wpAnyH_done (by kernel_rfl) ?_ _
    have hs2 : Hid ((h + 1 = a ∨ 0 ≤ cf (p m) (p (h + 1 - 1))) ∧ (j = m ∨ cf (p m) (p j) < 0)) := hid ⟨.inr (by rw [Nat.add_sub_cancel, hCf.out]; omega), hs.out.2⟩
    clear hHeld hF cC hs hw hc0;go_wp2_with fail;exact ⟨⟨h + 1, j, by omega, by go_num, rfl, hs2, hw1⟩, by simp [intOf]; omega⟩
  ·have e : j = i := by omega
   subst e;have eb : b = m + 1 := by omega
   have hfin : Hid (PermIn a b (rot j m (m + 1)) ∧ Srt (fun x y => cf x y < 0) (fun k => p (rot j m (m + 1) k)) a b) := hid ⟨rot_perm bi bj (by omega) (by omega), by
    have h5 := ins_left HC.out.swo bi bj HSR.out.1 (eb ▸ HSR.out.2.2) hs.out.2 (hs.out.1.imp_right fun h => Int.not_lt.2 h)
    exact h5.sub (Nat.le_refl _) (by omega)⟩
   clear hs eb;go_wp2_with fail;go_loopw [17] (fun kv wn => ∃ k : Nat, (j ≤ k ∧ k ≤ m) ∧ kv = .int .i64 (k : Int) ∧ Hid (HdFu wn g o n cap A (fun x => p (rot k m (m + 1) x)) ∧ Kp [g] w wn)) (fun kv _ => (intOf kv).toNat)
   case atStart => exact ⟨m, by omega, rfl, hid ⟨by rw [rot_left]; exact hw.out.1, hw.out.2⟩⟩
   case round =>
    obtain ⟨k, ⟨bk, bk2⟩, rfl, hw3⟩ := hrel;clear hw
    by_cases hkj : j < k
    ·have d1 : decide ((j : Int) < (k : Int)) = true := by simp; omega
     have d2 : (j : Int) < (k : Int) := by omega
     obtain ⟨y, hy⟩ : ∃ y : Nat, y = k - 1 := ⟨_, rfl⟩
     have ey : (k : Int) - 1 = (y : Int) := by omega
     have wy : IntKind.i64.wrap ((k : Int) - 1) = (y : Int) := by rw [ey, IntKind.wrap_i64]; omega
     have wy2 : IntKind.i64.wrap (y : Int) = (y : Int) := by rw [IntKind.wrap_i64]; omega
     have i1 : (0 : Int) ≤ (k : Int) := by omega
     have i2 : (k : Int) < (n : Int) := by omega
     have i3 : (0 : Int) ≤ (y : Int) := by omega
     have i4 : (y : Int) < (n : Int) := by omega
     have b1 : (-9223372036854775808 : Int) ≤ (k : Int) - 1 := by omega
     have b2 : (k : Int) - 1 ≤ 9223372036854775807 := by omega
     have HY : Hid (k = y + 1) := hid (by omega)
     obtain ⟨Q, hQ⟩ : ∃ Q, Hid (Q = fun x => p (rot k m (m + 1) x)) := ⟨_, hid rfl⟩
     rw [← hQ.out] at hw3;have hyb : y < n ∧ j ≤ y := by omega
     clear hy;go_wp2_with fail;refine wp_region_held_drew (S := fun _ => True) (by kernel_rfl) trivial (fun hHeld => ?_)
     have KD2 : Kp [] wr wr.drew := (Kp.refl [] wr).drew
     have hd2 := hw3.out.1.kept KD2
     have hk2 := hid (hw3.out.2.trans KD2 (by simp))
     generalize wr.drew = Wd2 at *
     clear KD2 hw3;obtain ⟨⟨x0, x1, x2, x3⟩, fx0, fx1, fx2, fx3⟩ := hd2.cells k (by omega)
     obtain ⟨⟨y0, y1, y2, y3⟩, fy0, fy1, fy2, fy3⟩ := hd2.cells y (by omega)
     have hsw := hd2.swap k y (by omega) (by omega)
     have hpc := put4_cellsFu hd2 k y (by omega) (by omega)
     obtain ⟨U1, hU1⟩ : ∃ V, V = A (Q k) := ⟨_, rfl⟩
     obtain ⟨U2, hU2⟩ : ∃ V, V = A (Q y) := ⟨_, rfl⟩
     rw [← hU1] at x0 x1 x2 x3 hsw;rw [← hU2] at y0 y1 y2 y3 hsw;replace hpc := hpc U2
     obtain ⟨⟨u0, hu0⟩, gu0⟩ := hpc 0 (by omega)
     obtain ⟨⟨u1, hu1⟩, gu1⟩ := hpc 1 (by omega)
     obtain ⟨⟨u2, hu2⟩, gu2⟩ := hpc 2 (by omega)
     obtain ⟨⟨u3, hu3⟩, gu3⟩ := hpc 3 (by omega)
     simp only [Nat.add_zero] at hu0 gu0;obtain ⟨W1, eW1⟩ : ∃ Y, ((((Wd2.setCell ⟨g, o + k * 4, none⟩ (.int .u64 U2.e)).setCell ⟨g, o + k * 4 + 1, none⟩ (.int .u32 U2.n)).setCell ⟨g, o + k * 4 + 2, none⟩ (.slice U2.a U2.l.length U2.c)).setCell ⟨g, o + k * 4 + 3, none⟩ (.int .u64 U2.d)) = Y := ⟨_, rfl⟩
     have eP1 : put4Fu Wd2 g (o + k * 4) U2 = W1 := eW1
     obtain ⟨W2, eW2⟩ : ∃ Y, ((((W1.setCell ⟨g, o + y * 4, none⟩ (.int .u64 U1.e)).setCell ⟨g, o + y * 4 + 1, none⟩ (.int .u32 U1.n)).setCell ⟨g, o + y * 4 + 2, none⟩ (.slice U1.a U1.l.length U1.c)).setCell ⟨g, o + y * 4 + 3, none⟩ (.int .u64 U1.d)) = Y := ⟨_, rfl⟩
     have eP2 : put4Fu W1 g (o + y * 4) U1 = W2 := eW2
     have kP1 : Kp [g] Wd2 W1 := by rw [← eP1]; exact put4_kpFu _ _ _ _
     have kP2 : Kp [g] W1 W2 := by rw [← eP2]; exact put4_kpFu _ _ _ _
     simp only [eP1] at hu0 hu1 hu2 hu3 gu0 gu1 gu2 gu3 hsw;simp only [eP2] at hsw;have zW1 := kP1.size
     have HSW := hid (And.intro hsw (kP1.trans kP2 (by simp)))
     have zg : g < Wd2.heap.size := hd2.lt
     have zg1 : g < W1.heap.size := by omega
     clear hpc hsw eP1 eP2 kP1 kP2 hU1 hU2 zW1;obtain ⟨e3, n3, a3, c3, l3, d3⟩ := U1;obtain ⟨e4, n4, a4, c4, l4, d4⟩ := U2;dsimp only at *
     have hfin2 : Hid (HdFu W2 g o n cap A (fun x => p (rot y m (m + 1) x)) ∧ Kp [g] w W2) := hid ⟨by
      have := HSW.out.1
      rw [hQ.out] at this;have e := HY.out
      rw [rot_pull y m (by omega), ← e]
      exact this, hk2.out.trans HSW.out.2 (by simp)⟩
     have hky : y < k ∧ y ≤ m := by have := HY.out; omega
     clear hd2 HSW hk2;refine tkH ?_ 0 rfl (by kernel_rfl) (fun _ _ _ h => h) (by rfl) ?_ ‹_› ?_;rotate_left
     ·intro w h; (try dsimp only at h); go_simp <;> with_reducible rfl
     (try simp only [Act.put, lz]);refine tkH ?_ 1 rfl (by kernel_rfl) (fun _ _ _ h => h) (by rfl) ?_ ‹_› ?_;rotate_left
     ·intro w h; (try dsimp only at h); go_simp <;> with_reducible rfl
     (try simp only [Act.put, lz]);refine tkH ?_ 2 rfl (by kernel_rfl) (fun _ _ _ h => h) (by rfl) ?_ ‹_› ?_;rotate_left
     ·intro w h; (try dsimp only at h); go_simp <;> with_reducible rfl
     (try simp only [Act.put, lz]);refine tkH ?_ 3 rfl (by kernel_rfl) (fun _ _ _ h => h) (by rfl) ?_ ‹_› ?_;rotate_left
     ·intro w h; (try dsimp only at h); go_simp <;> with_reducible rfl
     (try simp only [Act.put, lz]);refine tkH ?_ 4 rfl (by kernel_rfl) (fun _ _ _ h => h) (by rfl) ?_ ‹_› ?_;rotate_left
     ·intro w hSw; (try dsimp only at hSw); go_simp <;> (try simp only [wy, wy2]) <;> with_reducible rfl
     (try simp only [Act.put, lz]);try simp only [wy, wy2]
     refine tkH ?_ 5 rfl (by kernel_rfl) (fun _ _ _ h => h) (by rfl) ?_ ‹_› ?_;rotate_left
     ·intro w h; (try dsimp only at h); go_simp <;> with_reducible rfl
     (try simp only [Act.put, lz]);refine tkH ?_ 6 rfl (by kernel_rfl) (fun _ _ _ h => h) (by rfl) ?_ ‹_› ?_;rotate_left
     ·intro w h; (try dsimp only at h); go_simp <;> with_reducible rfl
     (try simp only [Act.put, lz]);refine tkH ?_ 7 rfl (by kernel_rfl) (fun _ _ _ h => h) (by rfl) ?_ ‹_› ?_;rotate_left
     ·intro w hSw; (try dsimp only at hSw); go_simp <;> (try simp only [wy, wy2]) <;> with_reducible rfl
     (try simp only [Act.put, lz]);try simp only [wy, wy2]
     refine tkH ?_ 8 rfl (by kernel_rfl) (fun _ _ _ h => h) (by rfl) ?_ ‹_› ?_;rotate_left
     ·intro w h; (try dsimp only at h); go_simp <;> with_reducible rfl
     (try simp only [Act.put, lz]);refine tkH ?_ 10 rfl (by kernel_rfl) (fun _ _ _ h => h) (by rfl) ?_ ‹_› ?_;rotate_left
     ·intro w h; (try dsimp only at h); go_simp <;> with_reducible rfl
     (try simp only [Act.put, lz]);refine tkH ?_ 11 rfl (by kernel_rfl) (fun _ _ _ h => h) (by rfl) ?_ ‹_› ?_;rotate_left
     ·intro w h; (try dsimp only at h); go_simp <;> with_reducible rfl
     (try simp only [Act.put, lz]);refine tkH ?_ 12 rfl (by kernel_rfl) (fun _ _ _ h => h) (by rfl) ?_ ‹_› ?_;rotate_left
     ·intro w h; (try dsimp only at h); go_simp <;> with_reducible rfl
     (try simp only [Act.put, lz]);refine wpAnyH_ready (rs := [9, 13]) (by kernel_rfl) (by simp) ?_
     refine AllReadyH.cons rfl (fun K hK => ?_) (AllReadyH.cons rfl (fun K hK => ?_) AllReadyH.nil)
     ·go_simp
      (try go_wp2_with fail);refine hK.out _ _ trivial (fun hHeld => ?_)
      clear hK K;(try simp only [Act.put, lz]);refine rdH 13 (by kernel_rfl) rfl fun K hK => ?_
      go_simp;(try go_wp2_with fail);refine hK.out _ _ trivial (fun hHeld => ?_)
      clear hK K;(try simp only [Act.put, lz]);refine tkH ?_ 14 rfl (by kernel_rfl) (fun _ _ _ h => h) (by rfl) ?_ ‹_› ?_;rotate_left
      ·intro w h; (try dsimp only at h); go_simp <;> with_reducible rfl
      (try simp only [Act.put, lz]);refine rdH 15 (by kernel_rfl) rfl fun K hK => ?_
      go_simp;(try go_wp2_with fail);refine hK.out _ _ trivial (fun hHeld => ?_)
      clear hK K;(try simp only [Act.put, lz]);refine tkH ?_ 16 rfl (by kernel_rfl) (fun _ _ _ h => h) (by rfl) ?_ ‹_› ?_;rotate_left
      ·intro w h; (try dsimp only at h); go_simp <;> with_reducible rfl
      (try simp only [Act.put, lz]);refine rdH 17 (by kernel_rfl) rfl fun K hK => ?_
      go_simp;(try go_wp2_with fail);refine hK.out _ _ trivial (fun hHeld => ?_)
      clear hK K;(try simp only [Act.put, lz]);refine wpAnyH_done (by kernel_rfl) ?_ _
      clear hHeld;go_wp2_with fail;exact ⟨⟨y, by omega, by go_num, hfin2⟩, by simp [intOf]; omega⟩
     ·go_simp
      (try go_wp2_with fail);refine hK.out _ _ trivial (fun hHeld => ?_)
      clear hK K;(try simp only [Act.put, lz]);refine rdH 9 (by kernel_rfl) rfl fun K hK => ?_
      go_simp;(try go_wp2_with fail);refine hK.out _ _ trivial (fun hHeld => ?_)
      clear hK K;(try simp only [Act.put, lz]);refine tkH ?_ 14 rfl (by kernel_rfl) (fun _ _ _ h => h) (by rfl) ?_ ‹_› ?_;rotate_left
      ·intro w h; (try dsimp only at h); go_simp <;> with_reducible rfl
      (try simp only [Act.put, lz]);refine rdH 15 (by kernel_rfl) rfl fun K hK => ?_
      go_simp;(try go_wp2_with fail);refine hK.out _ _ trivial (fun hHeld => ?_)
      clear hK K;(try simp only [Act.put, lz]);refine tkH ?_ 16 rfl (by kernel_rfl) (fun _ _ _ h => h) (by rfl) ?_ ‹_› ?_;rotate_left
      ·intro w h; (try dsimp only at h); go_simp <;> with_reducible rfl
      (try simp only [Act.put, lz]);refine rdH 17 (by kernel_rfl) rfl fun K hK => ?_
      go_simp;(try go_wp2_with fail);refine hK.out _ _ trivial (fun hHeld => ?_)
      clear hK K;(try simp only [Act.put, lz]);refine wpAnyH_done (by kernel_rfl) ?_ _
      clear hHeld;go_wp2_with fail;exact ⟨⟨y, by omega, by go_num, hfin2⟩, by simp [intOf]; omega⟩
    ·have d1 : decide ((j : Int) < (k : Int)) = false := by simp; omega
     have d2 : ¬ ((j : Int) < (k : Int)) := by omega
     have ek : k = j := by omega
     subst ek;go_wp2_with fail;refine bodyPost_ret (results_none rfl _ _ _) rfl ?_;exact ⟨⟨_, rfl⟩, _, hfin.out.1, hfin.out.2, hw3.out.1, hw3.out.2⟩
theorem cSymC1Fu (g o n cap : Nat) (A : Nat → Vr) (cf : Nat → Nat → Int) (Inv : World → Prop) (hC : CmpOkFu g n A cf Inv) (p : Nat → Nat) (a m b : Nat) (w : World) (h : HdFu w g o n cap A p) (hI : Inv w) (hpn : ∀ k, k < n → p k < n) (h1 : a < m) (h2 : m < b) (h3 : b ≤ n) (hA : Srt (fun x y => cf x y < 0) p a m) (hB : Srt (fun x y => cf x y < 0) p m b) (hLo : Low p a m b) (hn : n ≤ 4000000000000) (hcap : n ≤ cap) (hma : a + 1 < m) (hmb : m + 1 < b) (hk : a + b < 2 * m) (IH : ∀ (p' : Nat → Nat) (a' m' b' : Nat) (w' : World), b' - a' < b - a → HdFu w' g o n cap A p' → Inv w' → (∀ k, k < n → p' k < n) → a' < m' → m' < b' → b' ≤ n → Srt (fun x y => cf x y < 0) p' a' m' → Srt (fun x y => cf x y < 0) p' m' b' → Low p' a' m' b' → Calls Tryz.prog 160 #[.slice (some ⟨g, o, none⟩) n cap, .int .i64 (a' : Int), .int .i64 (m' : Int), .int .i64 (b' : Int), .func (.func 89) #[] #[]] w' fun e u => (∃ v, e = .returned v) ∧ ∃ s, PermIn a' b' s ∧ Srt (fun x y => cf x y < 0) (fun k => p' (s k)) a' b' ∧ HdFu u g o n cap A (fun k => p' (s k)) ∧ Kp [g] w' u) : Calls Tryz.prog 160 #[.slice (some ⟨g, o, none⟩) n cap, .int .i64 (a : Int), .int .i64 (m : Int), .int .i64 (b : Int), .func (.func 89) #[] #[]] w fun e w' => (∃ v, e = .returned v) ∧ ∃ s, PermIn a b s ∧ Srt (fun x y => cf x y < 0) (fun k => p (s k)) a b ∧ HdFu w' g o n cap A (fun k => p (s k)) ∧ Kp [g] w w' := by
 have HC := hid hC
 have HI := hid hI
 have HH := hid h
 have HPN := hid hpn
 have HSR := hid (And.intro hA (And.intro hB hLo))
 have q1 : (-9223372036854775808 : Int) ≤ (m : Int) - (a : Int) := by omega
 have q2 : (m : Int) - (a : Int) ≤ 9223372036854775807 := by omega
 clear hC hI h hpn hA hB hLo;have HIH := hid IH
 clear IH;have hm1 : ((m : Int) - (a : Int) == 1) = false := by simp; omega
 have hm2 : ¬ ((m : Int) - (a : Int) = 1) := by omega
 have hb1 : ((b : Int) - (m : Int) == 1) = false := by simp; omega
 have hb2 : ¬ ((b : Int) - (m : Int) = 1) := by omega
 have q3 : (-9223372036854775808 : Int) ≤ (b : Int) - (m : Int) := by omega
 have q4 : (b : Int) - (m : Int) ≤ 9223372036854775807 := by omega
 obtain ⟨t, ht⟩ : ∃ t : Nat, t = a + b := ⟨_, rfl⟩
 obtain ⟨mid, hmid⟩ : ∃ h : Nat, h = t / 2 := ⟨_, rfl⟩
 have et : (a : Int) + (b : Int) = (t : Int) := by omega
 have et1 : (-9223372036854775808 : Int) ≤ (a : Int) + (b : Int) := by omega
 have et2 : (a : Int) + (b : Int) ≤ 9223372036854775807 := by omega
 have et3 : (0 : Int) ≤ (t : Int) := by omega
 have et4 : (t : Int) ≤ 9223372036854775807 := by omega
 have et5 : (t : Int) < 18446744073709551616 := by omega
 have eh : (t : Int) / 2 = (mid : Int) := by omega
 have eh2 : (mid : Int) ≤ 9223372036854775807 := by omega
 have eu : IntKind.u64.wrap (t : Int) = (t : Int) := by rw [IntKind.wrap_u64]; omega
 have ew : IntKind.i64.wrap (mid : Int) = (mid : Int) := by rw [IntKind.wrap_i64]; omega
 have ewt : IntKind.i64.wrap (t : Int) = (t : Int) := by rw [IntKind.wrap_i64]; omega
 have hmid1 : 2 * mid ≤ a + b := by omega
 have hmid2 : a + b ≤ 2 * mid + 1 := by omega
 obtain ⟨N, hN⟩ : ∃ N : Nat, N = mid + m := ⟨_, rfl⟩
 obtain ⟨PP, hPP⟩ : ∃ P : Nat, P = N - 1 := ⟨_, rfl⟩
 have eN : (mid : Int) + (m : Int) = (N : Int) := by omega
 have eN1 : (-9223372036854775808 : Int) ≤ (mid : Int) + (m : Int) := by omega
 have eN2 : (mid : Int) + (m : Int) ≤ 9223372036854775807 := by omega
 have eP : (N : Int) - 1 = (PP : Int) := by omega
 have eP1 : (-9223372036854775808 : Int) ≤ (N : Int) - 1 := by omega
 have eP2 : (N : Int) - 1 ≤ 9223372036854775807 := by omega
 have hN1 : N ≤ mid + m := by omega
 have hN2 : mid + m ≤ N := by omega
 have hPP1 : PP + 1 ≤ N := by omega
 have hPP2 : N ≤ PP + 1 := by omega
 obtain ⟨lo, hlo⟩ : ∃ l : Nat, l = N - b := ⟨_, rfl⟩
 have eL : (N : Int) - (b : Int) = (lo : Int) := by omega
 have eL1 : (-9223372036854775808 : Int) ≤ (N : Int) - (b : Int) := by omega
 have eL2 : (N : Int) - (b : Int) ≤ 9223372036854775807 := by omega
 have hlo1 : lo + b ≤ N := by omega
 have hlo2 : N ≤ lo + b := by omega
 have dg : decide ((mid : Int) < (m : Int)) = true := by simp; omega
 have dg2 : (mid : Int) < (m : Int) := by omega
 clear hlo;have HT := hid (And.intro ht hmid)
 clear ht hmid hN hPP;go_enter Tryz.func160, Tryz.ntmps160
 go_wp2_with fail;clear q1 q2 q3 q4 hm1 hm2 hb1 hb2 et et1 et2 et3 et4 et5 eh eh2 eu ew ewt eN eN1 eN2 eP eP1 eP2 dg dg2 eL eL1 eL2 HT;go_loopw [20, 21, 23] (fun sv rv _ wr => ∃ s r : Nat, (lo ≤ s ∧ s ≤ r ∧ r ≤ mid) ∧ sv = .int .i64 (s : Int) ∧ rv = .int .i64 (r : Int) ∧ Hid ((s = lo ∨ 0 ≤ cf (p (N - s)) (p (s - 1))) ∧ (r = mid ∨ cf (p (N - 1 - r)) (p r) < 0)) ∧ Hid (HdFu wr g o n cap A p ∧ Kp [g] w wr)) (fun sv rv _ _ => (intOf rv).toNat - (intOf sv).toNat)
 case atStart => exact ⟨lo, mid, by omega, rfl, rfl, hid ⟨.inl rfl, .inl rfl⟩, hid ⟨HH.out, Kp.refl _ _⟩⟩
 case round =>
  obtain ⟨s, r, ⟨bs, bsr, br⟩, rfl, rfl, hs, hw⟩ := hrel
  by_cases hsr : s < r
  ·have i0 : (s : Int) < (r : Int) := by omega
   obtain ⟨t, ht⟩ : ∃ t : Nat, t = s + r := ⟨_, rfl⟩
   obtain ⟨c, hc⟩ : ∃ h : Nat, h = t / 2 := ⟨_, rfl⟩
   have et : (s : Int) + (r : Int) = (t : Int) := by omega
   have et1 : (-9223372036854775808 : Int) ≤ (s : Int) + (r : Int) := by omega
   have et2 : (s : Int) + (r : Int) ≤ 9223372036854775807 := by omega
   have et3 : (0 : Int) ≤ (t : Int) := by omega
   have et4 : (t : Int) ≤ 9223372036854775807 := by omega
   have et5 : (t : Int) < 18446744073709551616 := by omega
   have eh : (t : Int) / 2 = (c : Int) := by omega
   have eh2 : (c : Int) ≤ 9223372036854775807 := by omega
   have eu : IntKind.u64.wrap (t : Int) = (t : Int) := by rw [IntKind.wrap_u64]; omega
   have ew : IntKind.i64.wrap (c : Int) = (c : Int) := by rw [IntKind.wrap_i64]; omega
   have ewt : IntKind.i64.wrap (t : Int) = (t : Int) := by rw [IntKind.wrap_i64]; omega
   have hcb : s ≤ c ∧ c < r := by omega
   have HT := hid (And.intro ht hc)
   clear ht hc;obtain ⟨x, hx⟩ : ∃ x : Nat, x = PP - c := ⟨_, rfl⟩
   have ex : (PP : Int) - (c : Int) = (x : Int) := by omega
   have wx : IntKind.i64.wrap ((PP : Int) - (c : Int)) = (x : Int) := by rw [ex, IntKind.wrap_i64]; omega
   have wx2 : IntKind.i64.wrap (x : Int) = (x : Int) := by rw [IntKind.wrap_i64]; omega
   have hxn : x < n := by omega
   have i1 : (0 : Int) ≤ (c : Int) := by omega
   have i2 : (c : Int) < (n : Int) := by omega
   have i3 : (0 : Int) ≤ (x : Int) := by omega
   have i4 : (x : Int) < (n : Int) := by omega
   have i5 : (c : Int) + 1 ≤ 9223372036854775807 := by omega
   have HX : Hid (x = N - 1 - c ∧ x = N - (c + 1)) := hid (by omega)
   clear hx;have cC := hid (fun W' (k : Kp [] wr W') => HC.out.calls W' (p x) (p c) (HC.out.keep _ _ HI.out (hw.out.2.trans k (by simp))) (HPN.out _ (by omega)) (HPN.out _ (by omega)))
   obtain ⟨⟨x0, x1, x2, x3⟩, _⟩ := hw.out.1.cells x (by omega)
   obtain ⟨⟨y0, y1, y2, y3⟩, _⟩ := hw.out.1.cells c (by omega)
   obtain ⟨V1, hV1⟩ : ∃ V, Hid (V = A (p x)) := ⟨_, hid rfl⟩
   obtain ⟨V2, hV2⟩ : ∃ V, Hid (V = A (p c)) := ⟨_, hid rfl⟩
   rw [← hV1.out] at x0 x1 x2 x3 cC;rw [← hV2.out] at y0 y1 y2 y3 cC;obtain ⟨C, hCf⟩ : ∃ C, Hid (cf (p x) (p c) = C) := ⟨_, hid rfl⟩
   rw [hCf.out] at cC;obtain ⟨e1, n1, a1, c1, l1, d1⟩ := V1;obtain ⟨e2, n2, a2, c2, l2, d2⟩ := V2;simp only [Vr.v] at cC;dsimp only at *;have hF : Hid (∀ W', Kp [] wr W' → (W'.cell? ⟨g, o + x * 4, none⟩ = some (.int .u64 e1) ∧ W'.cell? ⟨g, o + x * 4 + 1, none⟩ = some (.int .u32 n1) ∧ W'.cell? ⟨g, o + x * 4 + 2, none⟩ = some (.slice a1 l1.length c1) ∧ W'.cell? ⟨g, o + x * 4 + 3, none⟩ = some (.int .u64 d1) ∧ W'.cell? ⟨g, o + c * 4, none⟩ = some (.int .u64 e2) ∧ W'.cell? ⟨g, o + c * 4 + 1, none⟩ = some (.int .u32 n2) ∧ W'.cell? ⟨g, o + c * 4 + 2, none⟩ = some (.slice a2 l2.length c2) ∧ W'.cell? ⟨g, o + c * 4 + 3, none⟩ = some (.int .u64 d2))) := fun W' k => ⟨kpAt k x0, kpAt k x1, kpAt k x2, kpAt k x3, kpAt k y0, kpAt k y1, kpAt k y2, kpAt k y3⟩
   clear x0 x1 x2 x3 y0 y1 y2 y3 hV1 hV2;go_wp2_with fail;refine wp_region_held_drew (S := fun W' => W'.cell? ⟨g, o + x * 4, none⟩ = some (.int .u64 e1) ∧ W'.cell? ⟨g, o + x * 4 + 1, none⟩ = some (.int .u32 n1) ∧ W'.cell? ⟨g, o + x * 4 + 2, none⟩ = some (.slice a1 l1.length c1) ∧ W'.cell? ⟨g, o + x * 4 + 3, none⟩ = some (.int .u64 d1) ∧ W'.cell? ⟨g, o + c * 4, none⟩ = some (.int .u64 e2) ∧ W'.cell? ⟨g, o + c * 4 + 1, none⟩ = some (.int .u32 n2) ∧ W'.cell? ⟨g, o + c * 4 + 2, none⟩ = some (.slice a2 l2.length c2) ∧ W'.cell? ⟨g, o + c * 4 + 3, none⟩ = some (.int .u64 d2)) (by kernel_rfl) ?_ (fun hHeld => ?_)
   ·exact hF.out _ (Kp.refl [] wr).drew
   have KD : Hid (Kp [] wr wr.drew) := hid (Kp.refl [] wr).drew
   generalize wr.drew = Wd at *
   refine tkH ?_ 0 rfl (by kernel_rfl) (fun _ _ _ h => h) (by rfl) ?_ ‹_› ?_;rotate_left
   ·intro w h; (try dsimp only at h); go_simp <;> with_reducible rfl
   (try simp only [Act.put, lz]);refine tkH ?_ 1 rfl (by kernel_rfl) (fun _ _ _ h => h) (by rfl) ?_ ‹_› ?_;rotate_left
   ·intro w h; (try dsimp only at h); go_simp <;> with_reducible rfl
   (try simp only [Act.put, lz]);refine tkH ?_ 2 rfl (by kernel_rfl) (fun _ _ _ h => h) (by rfl) ?_ ‹_› ?_;rotate_left
   ·intro w h; (try dsimp only at h); go_simp <;> with_reducible rfl
   (try simp only [Act.put, lz]);refine tkH ?_ 3 rfl (by kernel_rfl) (fun _ _ _ h => h) (by rfl) ?_ ‹_› ?_;rotate_left
   ·intro w h; (try dsimp only at h); go_simp <;> with_reducible rfl
   (try simp only [Act.put, lz]);refine tkH ?_ 4 rfl (by kernel_rfl) (fun _ _ _ h => h) (by rfl) ?_ ‹_› ?_;rotate_left
   ·intro w hSw; (try dsimp only at hSw); go_simp <;> (try simp only [wx, wx2]) <;> with_reducible rfl
   (try simp only [Act.put, lz]);try simp only [wx, wx2]
   refine tkH ?_ 5 rfl (by kernel_rfl) (fun _ _ _ h => h) (by rfl) ?_ ‹_› ?_;rotate_left
   ·intro w h; (try dsimp only at h); go_simp <;> with_reducible rfl
   (try simp only [Act.put, lz]);refine tkH ?_ 6 rfl (by kernel_rfl) (fun _ _ _ h => h) (by rfl) ?_ ‹_› ?_;rotate_left
   ·intro w h; (try dsimp only at h); go_simp <;> with_reducible rfl
   (try simp only [Act.put, lz]);refine tkH ?_ 7 rfl (by kernel_rfl) (fun _ _ _ h => h) (by rfl) ?_ ‹_› ?_;rotate_left
   ·intro w h; (try dsimp only at h); go_simp <;> with_reducible rfl
   (try simp only [Act.put, lz]);refine tkH ?_ 8 rfl (by kernel_rfl) (fun _ _ _ h => h) (by rfl) ?_ ‹_› ?_;rotate_left
   ·intro w h; (try dsimp only at h); go_simp <;> with_reducible rfl
   (try simp only [Act.put, lz]);refine tkH ?_ 9 rfl (by kernel_rfl) (fun _ _ _ h => h) (by rfl) ?_ ‹_› ?_;rotate_left
   ·intro w h; (try dsimp only at h); go_simp <;> with_reducible rfl
   (try simp only [Act.put, lz]);refine tkH ?_ 10 rfl (by kernel_rfl) (fun _ _ _ h => h) (by rfl) ?_ ‹_› ?_;rotate_left
   ·intro w h; (try dsimp only at h); go_simp <;> with_reducible rfl
   (try simp only [Act.put, lz]);refine rdH 11 (by kernel_rfl) rfl fun K hK => ?_
   go_simp;refine (cC.out Wd KD.out).mono ?_;rintro e u1 ⟨rfl, l1'⟩;(try go_wp2_with fail);refine hK.out _ _ ?_ (fun hHeld => ?_)
   ·exact hF.out _ (KD.out.trans l1' (by simp))
   clear hK K;(try simp only [Act.put, lz]);have K1 := hid (KD.out.trans l1' (by simp))
   clear l1' KD;have hw1 : Hid (HdFu u1 g o n cap A p ∧ Kp [g] w u1) := hid ⟨hw.out.1.kept K1.out, hw.out.2.trans K1.out (by simp)⟩
   by_cases hc0 : C < 0
   ·have dc : decide (C < 0) = true := by simpa using hc0
    refine tkH ?_ 12 rfl (by kernel_rfl) (fun _ _ _ h => h) (by rfl) ?_ ‹_› ?_;rotate_left
    ·intro w hSw; (try dsimp only at hSw); go_simp <;> (try simp only [dc]) <;> with_reducible rfl
    (try simp only [Act.put, lz]);try simp only [dc]
    refine tkH ?_ 13 rfl (by kernel_rfl) (fun _ _ _ h => h) (by rfl) ?_ ‹_› ?_;rotate_left
    ·intro w h; (try dsimp only at h); go_simp <;> with_reducible rfl
    (try simp only [Act.put, lz]);try simp only [Bool.not_true, Bool.not_false]
    refine wpAnyH_done (by kernel_rfl) ?_ _
    have hs2 : Hid ((s = lo ∨ 0 ≤ cf (p (N - s)) (p (s - 1))) ∧ (c = mid ∨ cf (p (N - 1 - c)) (p c) < 0)) := hid ⟨hs.out.1, .inr (by rw [← HX.out.1, hCf.out]; exact hc0)⟩
    clear hHeld hF cC hs hw hc0;go_wp2_with fail;exact ⟨⟨s, c, by omega, rfl, rfl, hs2, hw1⟩, by simp [intOf]; omega⟩
   ·have dc : decide (C < 0) = false := by simpa using hc0
    refine tkH ?_ 12 rfl (by kernel_rfl) (fun _ _ _ h => h) (by rfl) ?_ ‹_› ?_;rotate_left
    ·intro w hSw; (try dsimp only at hSw); go_simp <;> (try simp only [dc]) <;> with_reducible rfl
    (try simp only [Act.put, lz]);try simp only [dc]
    refine tkH ?_ 13 rfl (by kernel_rfl) (fun _ _ _ h => h) (by rfl) ?_ ‹_› ?_;rotate_left
    ·intro w h; (try dsimp only at h); go_simp <;> with_reducible rfl
    (try simp only [Act.put, lz]);try simp only [Bool.not_true, Bool.not_false]
    refine wpAnyH_done (by kernel_rfl) ?_ _
    have hs2 : Hid ((c + 1 = lo ∨ 0 ≤ cf (p (N - (c + 1))) (p (c + 1 - 1))) ∧ (r = mid ∨ cf (p (N - 1 - r)) (p r) < 0)) := hid ⟨.inr (by rw [Nat.add_sub_cancel, ← HX.out.2, hCf.out]; omega), hs.out.2⟩
    clear hHeld hF cC hs hw hc0;go_wp2_with fail;exact ⟨⟨c + 1, r, by omega, by go_num, rfl, hs2, hw1⟩, by simp [intOf]; omega⟩
  ·have er : r = s := by omega
   subst er;rename_i s_
   obtain ⟨s, hss⟩ : ∃ s : Nat, s = r := ⟨_, rfl⟩
   subst hss;obtain ⟨e, he⟩ : ∃ e : Nat, e = N - s := ⟨_, rfl⟩
   have eE : (N : Int) - (s : Int) = (e : Int) := by omega
   have eE1 : (-9223372036854775808 : Int) ≤ (N : Int) - (s : Int) := by omega
   have eE2 : (N : Int) - (s : Int) ≤ 9223372036854775807 := by omega
   have heb : m ≤ e ∧ e ≤ b ∧ s ≤ mid ∧ s ≤ m ∧ a ≤ s := by omega
   have hem : Hid (mid = s + (e - m)) := hid (by omega)
   have hmb2 : mid < b ∧ a < mid ∧ mid ≤ e := by omega
   have SP := hid (sym_parts HC.out.swo (p := p) heb.2.2.2.2 heb.2.2.2.1 heb.1 heb.2.1 hem.out HSR.out.1 HSR.out.2.1 HSR.out.2.2 (fun g1 g2 => by
    rcases hs.out.2 with h5 | h5
    ·omega
    ·rw [show e - 1 = N - 1 - s by omega]; exact h5) (fun g1 g2 => by
    rcases hs.out.1 with h5 | h5
    ·omega
    ·rw [he]; exact Int.not_lt.2 h5))
   clear he hem hs;go_upto_region 39 with fail
   go_cut [185] from 178 to 186 (fun v wx => ∃ B : Bool, v = .bool B ∧ Hid (B = decide (s < m ∧ m < e)) ∧ wx = wr)
   case first =>
    by_cases c1 : s < m
    ·have d1 : decide ((s : Int) < (m : Int)) = true := by simp; omega
     have d1n : decide (s < m) = true := by simp; omega
     by_cases c2 : m < e
     ·have d2 : decide ((m : Int) < (e : Int)) = true := by simp; omega
      have d2n : decide (m < e) = true := by simp; omega
      go_wp2_with fail;go_meet
      case rel => exact ⟨true, rfl, hid (by simp [c1, c2]), rfl⟩
     ·have d2 : decide ((m : Int) < (e : Int)) = false := by simp; omega
      have d2n : decide (m < e) = false := by simp; omega
      go_wp2_with fail;go_meet
      case rel => exact ⟨false, rfl, hid (by simp; omega), rfl⟩
    ·have d1 : decide ((s : Int) < (m : Int)) = false := by simp; omega
     have d1n : decide (s < m) = false := by simp; omega
     go_wp2_with fail;go_meet
     case rel => exact ⟨false, rfl, hid (by simp; omega), rfl⟩
   case rest =>
    obtain ⟨B, rfl, hB, rfl⟩ := hcut;go_upto_if 185 with fail
    go_cut [] from 186 to 192 (fun wx => Hid (HdFu wx g o n cap A (fun k => p (rot s m e k)) ∧ Kp [g] w wx))
    case first =>
     cases B with
     | true =>
      have c12 : s < m ∧ m < e := of_decide_eq_true hB.out.symm
      have cR := hid (cRotFu g o n cap A p s m e (.func (.func 89) #[] #[]) wc hw.out.1 c12.1 c12.2 (by omega) hn hcap)
      clear c12;go_wp2_with fail;refine cR.out.mono ?_;rintro e' wt ⟨⟨v, rfl⟩, hd, kd⟩;have HR := hid (And.intro hd (hw.out.2.trans kd (by simp)))
      clear hd kd cR hw;go_wp2_with fail;go_meet
      case rel => exact HR
     | false =>
      have c12 : ¬ (s < m ∧ m < e) := of_decide_eq_false hB.out.symm
      have HR : Hid (HdFu wc g o n cap A (fun k => p (rot s m e k)) ∧ Kp [g] w wc) := hid (by
       by_cases c1 : s < m
       ·rw [show e = m by omega, rot_right s m (by omega)]; exact hw.out
       ·rw [show s = m by omega, rot_left]; exact hw.out)
      clear c12;go_wp2_with fail;go_meet
      case rel => exact HR
    case rest =>
     have HR := hcut
     clear hcut hw hB;rename_i wr
     go_upto_region 41 with fail
     go_cut [199] from 192 to 200 (fun v wx => ∃ B : Bool, v = .bool B ∧ Hid (B = decide (a < s ∧ s < mid)) ∧ wx = wc)
     case first =>
      by_cases c3 : a < s
      ·have e1 : decide ((a : Int) < (s : Int)) = true := by simp; omega
       have e1n : decide (a < s) = true := by simp; omega
       by_cases c4 : s < mid
       ·have e2 : decide ((s : Int) < (mid : Int)) = true := by simp; omega
        have e2n : decide (s < mid) = true := by simp; omega
        go_wp2_with fail;go_meet
        case rel => exact ⟨true, rfl, hid (by simp [c3, c4]), rfl⟩
       ·have e2 : decide ((s : Int) < (mid : Int)) = false := by simp; omega
        have e2n : decide (s < mid) = false := by simp; omega
        go_wp2_with fail;go_meet
        case rel => exact ⟨false, rfl, hid (by simp; omega), rfl⟩
      ·have e1 : decide ((a : Int) < (s : Int)) = false := by simp; omega
       have e1n : decide (a < s) = false := by simp; omega
       go_wp2_with fail;go_meet
       case rel => exact ⟨false, rfl, hid (by simp; omega), rfl⟩
     case rest =>
      obtain ⟨B, rfl, hB, rfl⟩ := hcut;go_upto_if 199 with fail
      go_cut [] from 200 to 206 (fun wx => ∃ sa : Nat → Nat, Hid (PermIn a mid sa) ∧ Hid (Srt (fun x y => cf x y < 0) (fun k => p (rot s m e (sa k))) a mid) ∧ Hid (HdFu wx g o n cap A (fun k => p (rot s m e (sa k))) ∧ Kp [g] w wx))
      case first =>
       cases B with
       | true =>
        have c34 : a < s ∧ s < mid := of_decide_eq_true hB.out.symm
        have cM1 := hid (HIH.out (fun k => p (rot s m e k)) a s mid wc (by omega) HR.out.1 (HC.out.keep _ _ HI.out HR.out.2) (fun k hk => HPN.out _ (((rot_perm (Nat.zero_le s) (by omega) (by omega) (by omega) : PermIn 0 n (rot s m e))).1 k (Nat.zero_le _) hk).2) c34.1 c34.2 (by omega) SP.out.1.1 SP.out.1.2.1 SP.out.1.2.2)
        clear c34;go_wp2_with fail;refine cM1.out.mono ?_;rintro e' wm ⟨⟨v, rfl⟩, sa, pa, sa', ha', ka⟩;have PA := hid pa
        have SA := hid sa'
        have HD := hid (And.intro ha' (HR.out.2.trans ka (by simp)))
        clear pa sa' ha' ka cM1 HR;go_wp2_with fail;go_meet
        case rel => exact ⟨sa, PA, SA, HD⟩
       | false =>
        have c34 : ¬ (a < s ∧ s < mid) := of_decide_eq_false hB.out.symm
        have SA : Hid (Srt (fun x y => cf x y < 0) (fun k => p (rot s m e k)) a mid) := hid (by
         by_cases c7 : s = a
         ·have := SP.out.1.2.1; rwa [c7] at this ⊢
         ·have c8 : s = mid := by omega
          have := SP.out.1.1; rw [c8] at this ⊢; exact this)
        clear c34;go_wp2_with fail;go_meet
        case rel => exact ⟨fun k => k, hid (PermIn.id _ _), SA, HR⟩
      case rest =>
       obtain ⟨sa, PA, SA, HD⟩ := hcut;clear HR hB;rename_i wr
       have hmx : Hid ((∀ k, mid ≤ k → p (rot s m e (sa k)) = p (rot s m e k))) := hid (fun k hk => by rw [PA.out.2.1 k (by omega)])
       by_cases c5 : mid < e
       ·have f1 : decide ((mid : Int) < (e : Int)) = true := by simp; omega
        have f1n : decide (mid < e) = true := by simp; omega
        by_cases c6 : e < b
        ·have f2 : decide ((e : Int) < (b : Int)) = true := by simp; omega
         have f2n : decide (e < b) = true := by simp; omega
         have cM := hid (HIH.out (fun k => p (rot s m e (sa k))) mid e b wc (by omega) HD.out.1 (HC.out.keep _ _ HI.out HD.out.2) (fun k hk => HPN.out _ (by
          have r1 := (rot_perm (lo := 0) (hi := n) (Nat.zero_le s) (by omega) (by omega) (by omega) : PermIn 0 n (rot s m e))
          have r2 := PA.out.mono (Nat.zero_le a) (show mid ≤ n by omega)
          exact (r1.1 _ (Nat.zero_le _) (r2.1 k (Nat.zero_le _) hk).2).2)) c5 c6 (by omega) (fun i j g1 g2 g3 => by
           show bef _ (p (rot s m e (sa i))) (p (rot s m e (sa j)))
           rw [hmx.out i (by omega), hmx.out j (by omega)]; exact SP.out.2.1.1 i j g1 g2 g3) (fun i j g1 g2 g3 => by
           show bef _ (p (rot s m e (sa i))) (p (rot s m e (sa j)))
           rw [hmx.out i (by omega), hmx.out j (by omega)]; exact SP.out.2.1.2.1 i j g1 g2 g3) (fun i j g1 g2 g3 g4 => by
           show p (rot s m e (sa i)) < p (rot s m e (sa j))
           rw [hmx.out i (by omega), hmx.out j (by omega)]; exact SP.out.2.1.2.2 i j g1 g2 g3 g4))
         have KX := hid HD.out.2
         clear c5 c6;go_wp2_with fail;refine cM.out.mono ?_;rintro e' wz ⟨⟨v, rfl⟩, t, pt, st, ht', kt⟩
         have hfin : Hid (PermIn a b (fun k => rot s m e (sa (t k))) ∧ Srt (fun x y => cf x y < 0) (fun k => p (rot s m e (sa (t k)))) a b ∧ HdFu wz g o n cap A (fun k => p (rot s m e (sa (t k)))) ∧ Kp [g] w wz) := hid ⟨(rot_perm (by omega) (by omega) (by omega) (by omega)).comp ((PA.out.mono (Nat.le_refl _) (by omega)).comp (pt.mono (by omega) (Nat.le_refl _))), Srt.join (p := fun k => p (rot s m e k)) PA.out pt SA.out (fun i j g1 g2 g3 => by
          have h5 := st i j g1 g2 g3
          have h6 := pt.1 i g1 (by omega)
          have h7 := pt.1 j (by omega) g3
          simp only [hmx.out _ h6.1, hmx.out _ h7.1] at h5;exact h5) SP.out.2.2, ht', KX.out.trans kt (by simp)⟩
         clear pt st ht' kt KX;go_wp2_with fail;go_end0
         exact ⟨⟨_, rfl⟩, _, hfin.out.1, hfin.out.2.1, hfin.out.2.2.1, hfin.out.2.2.2⟩
        ·have f2 : decide ((e : Int) < (b : Int)) = false := by simp; omega
         have f2n : decide (e < b) = false := by simp; omega
         have sB : Srt (fun x y => cf x y < 0) (fun k => p (rot s m e k)) mid b := by
          by_cases c7 : e = mid
          ·rw [← c7]; exact SP.out.2.1.2.1
          ·have c8 : e = b := by omega
           rw [← c8]; exact SP.out.2.1.1
         have hfin : Hid (PermIn a b (fun k => rot s m e (sa k)) ∧ Srt (fun x y => cf x y < 0) (fun k => p (rot s m e (sa k))) a b) := hid ⟨(rot_perm (by omega) (by omega) (by omega) (by omega)).comp (PA.out.mono (Nat.le_refl _) (by omega)), Srt.join (p := fun k => p (rot s m e k)) PA.out (PermIn.id mid b) SA.out sB SP.out.2.2⟩
         clear sB c5;go_wp2_with fail;go_end0
         exact ⟨⟨_, rfl⟩, _, hfin.out.1, hfin.out.2, HD.out.1, HD.out.2⟩
       ·have f1 : decide ((mid : Int) < (e : Int)) = false := by simp; omega
        have f1n : decide (mid < e) = false := by simp; omega
        have sB : Srt (fun x y => cf x y < 0) (fun k => p (rot s m e k)) mid b := by
         by_cases c7 : e = mid
         ·rw [← c7]; exact SP.out.2.1.2.1
         ·have c8 : e = b := by omega
          rw [← c8]; exact SP.out.2.1.1
        have hfin : Hid (PermIn a b (fun k => rot s m e (sa k)) ∧ Srt (fun x y => cf x y < 0) (fun k => p (rot s m e (sa k))) a b) := hid ⟨(rot_perm (by omega) (by omega) (by omega) (by omega)).comp (PA.out.mono (Nat.le_refl _) (by omega)), Srt.join (p := fun k => p (rot s m e k)) PA.out (PermIn.id mid b) SA.out sB SP.out.2.2⟩
        clear sB c5;go_wp2_with fail;go_end0
        exact ⟨⟨_, rfl⟩, _, hfin.out.1, hfin.out.2, HD.out.1, HD.out.2⟩
theorem cSymC2Fu (g o n cap : Nat) (A : Nat → Vr) (cf : Nat → Nat → Int) (Inv : World → Prop) (hC : CmpOkFu g n A cf Inv) (p : Nat → Nat) (a m b : Nat) (w : World) (h : HdFu w g o n cap A p) (hI : Inv w) (hpn : ∀ k, k < n → p k < n) (h1 : a < m) (h2 : m < b) (h3 : b ≤ n) (hA : Srt (fun x y => cf x y < 0) p a m) (hB : Srt (fun x y => cf x y < 0) p m b) (hLo : Low p a m b) (hn : n ≤ 4000000000000) (hcap : n ≤ cap) (hma : a + 1 < m) (hmb : m + 1 < b) (hk : 2 * m ≤ a + b) (IH : ∀ (p' : Nat → Nat) (a' m' b' : Nat) (w' : World), b' - a' < b - a → HdFu w' g o n cap A p' → Inv w' → (∀ k, k < n → p' k < n) → a' < m' → m' < b' → b' ≤ n → Srt (fun x y => cf x y < 0) p' a' m' → Srt (fun x y => cf x y < 0) p' m' b' → Low p' a' m' b' → Calls Tryz.prog 160 #[.slice (some ⟨g, o, none⟩) n cap, .int .i64 (a' : Int), .int .i64 (m' : Int), .int .i64 (b' : Int), .func (.func 89) #[] #[]] w' fun e u => (∃ v, e = .returned v) ∧ ∃ s, PermIn a' b' s ∧ Srt (fun x y => cf x y < 0) (fun k => p' (s k)) a' b' ∧ HdFu u g o n cap A (fun k => p' (s k)) ∧ Kp [g] w' u) : Calls Tryz.prog 160 #[.slice (some ⟨g, o, none⟩) n cap, .int .i64 (a : Int), .int .i64 (m : Int), .int .i64 (b : Int), .func (.func 89) #[] #[]] w fun e w' => (∃ v, e = .returned v) ∧ ∃ s, PermIn a b s ∧ Srt (fun x y => cf x y < 0) (fun k => p (s k)) a b ∧ HdFu w' g o n cap A (fun k => p (s k)) ∧ Kp [g] w w' := by
 have HC := hid hC
 have HI := hid hI
 have HH := hid h
 have HPN := hid hpn
 have HSR := hid (And.intro hA (And.intro hB hLo))
 have q1 : (-9223372036854775808 : Int) ≤ (m : Int) - (a : Int) := by omega
 have q2 : (m : Int) - (a : Int) ≤ 9223372036854775807 := by omega
 clear hC hI h hpn hA hB hLo;have HIH := hid IH
 clear IH;have hm1 : ((m : Int) - (a : Int) == 1) = false := by simp; omega
 have hm2 : ¬ ((m : Int) - (a : Int) = 1) := by omega
 have hb1 : ((b : Int) - (m : Int) == 1) = false := by simp; omega
 have hb2 : ¬ ((b : Int) - (m : Int) = 1) := by omega
 have q3 : (-9223372036854775808 : Int) ≤ (b : Int) - (m : Int) := by omega
 have q4 : (b : Int) - (m : Int) ≤ 9223372036854775807 := by omega
 obtain ⟨t, ht⟩ : ∃ t : Nat, t = a + b := ⟨_, rfl⟩
 obtain ⟨mid, hmid⟩ : ∃ h : Nat, h = t / 2 := ⟨_, rfl⟩
 have et : (a : Int) + (b : Int) = (t : Int) := by omega
 have et1 : (-9223372036854775808 : Int) ≤ (a : Int) + (b : Int) := by omega
 have et2 : (a : Int) + (b : Int) ≤ 9223372036854775807 := by omega
 have et3 : (0 : Int) ≤ (t : Int) := by omega
 have et4 : (t : Int) ≤ 9223372036854775807 := by omega
 have et5 : (t : Int) < 18446744073709551616 := by omega
 have eh : (t : Int) / 2 = (mid : Int) := by omega
 have eh2 : (mid : Int) ≤ 9223372036854775807 := by omega
 have eu : IntKind.u64.wrap (t : Int) = (t : Int) := by rw [IntKind.wrap_u64]; omega
 have ew : IntKind.i64.wrap (mid : Int) = (mid : Int) := by rw [IntKind.wrap_i64]; omega
 have ewt : IntKind.i64.wrap (t : Int) = (t : Int) := by rw [IntKind.wrap_i64]; omega
 have hmid1 : 2 * mid ≤ a + b := by omega
 have hmid2 : a + b ≤ 2 * mid + 1 := by omega
 obtain ⟨N, hN⟩ : ∃ N : Nat, N = mid + m := ⟨_, rfl⟩
 obtain ⟨PP, hPP⟩ : ∃ P : Nat, P = N - 1 := ⟨_, rfl⟩
 have eN : (mid : Int) + (m : Int) = (N : Int) := by omega
 have eN1 : (-9223372036854775808 : Int) ≤ (mid : Int) + (m : Int) := by omega
 have eN2 : (mid : Int) + (m : Int) ≤ 9223372036854775807 := by omega
 have eP : (N : Int) - 1 = (PP : Int) := by omega
 have eP1 : (-9223372036854775808 : Int) ≤ (N : Int) - 1 := by omega
 have eP2 : (N : Int) - 1 ≤ 9223372036854775807 := by omega
 have hN1 : N ≤ mid + m := by omega
 have hN2 : mid + m ≤ N := by omega
 have hPP1 : PP + 1 ≤ N := by omega
 have hPP2 : N ≤ PP + 1 := by omega
 have dg : decide ((mid : Int) < (m : Int)) = false := by simp; omega
 have dg2 : ¬ ((mid : Int) < (m : Int)) := by omega
 have HT := hid (And.intro ht hmid)
 clear ht hmid hN hPP;go_enter Tryz.func160, Tryz.ntmps160
 go_wp2_with fail;clear q1 q2 q3 q4 hm1 hm2 hb1 hb2 et et1 et2 et3 et4 et5 eh eh2 eu ew ewt eN eN1 eN2 eP eP1 eP2 dg dg2 HT;go_loopw [20, 21, 23] (fun sv rv _ wr => ∃ s r : Nat, (a ≤ s ∧ s ≤ r ∧ r ≤ m) ∧ sv = .int .i64 (s : Int) ∧ rv = .int .i64 (r : Int) ∧ Hid ((s = a ∨ 0 ≤ cf (p (N - s)) (p (s - 1))) ∧ (r = m ∨ cf (p (N - 1 - r)) (p r) < 0)) ∧ Hid (HdFu wr g o n cap A p ∧ Kp [g] w wr)) (fun sv rv _ _ => (intOf rv).toNat - (intOf sv).toNat)
 case atStart => exact ⟨a, m, by omega, rfl, rfl, hid ⟨.inl rfl, .inl rfl⟩, hid ⟨HH.out, Kp.refl _ _⟩⟩
 case round =>
  obtain ⟨s, r, ⟨bs, bsr, br⟩, rfl, rfl, hs, hw⟩ := hrel
  by_cases hsr : s < r
  ·have i0 : (s : Int) < (r : Int) := by omega
   obtain ⟨t, ht⟩ : ∃ t : Nat, t = s + r := ⟨_, rfl⟩
   obtain ⟨c, hc⟩ : ∃ h : Nat, h = t / 2 := ⟨_, rfl⟩
   have et : (s : Int) + (r : Int) = (t : Int) := by omega
   have et1 : (-9223372036854775808 : Int) ≤ (s : Int) + (r : Int) := by omega
   have et2 : (s : Int) + (r : Int) ≤ 9223372036854775807 := by omega
   have et3 : (0 : Int) ≤ (t : Int) := by omega
   have et4 : (t : Int) ≤ 9223372036854775807 := by omega
   have et5 : (t : Int) < 18446744073709551616 := by omega
   have eh : (t : Int) / 2 = (c : Int) := by omega
   have eh2 : (c : Int) ≤ 9223372036854775807 := by omega
   have eu : IntKind.u64.wrap (t : Int) = (t : Int) := by rw [IntKind.wrap_u64]; omega
   have ew : IntKind.i64.wrap (c : Int) = (c : Int) := by rw [IntKind.wrap_i64]; omega
   have ewt : IntKind.i64.wrap (t : Int) = (t : Int) := by rw [IntKind.wrap_i64]; omega
   have hcb : s ≤ c ∧ c < r := by omega
   have HT := hid (And.intro ht hc)
   clear ht hc;obtain ⟨x, hx⟩ : ∃ x : Nat, x = PP - c := ⟨_, rfl⟩
   have ex : (PP : Int) - (c : Int) = (x : Int) := by omega
   have wx : IntKind.i64.wrap ((PP : Int) - (c : Int)) = (x : Int) := by rw [ex, IntKind.wrap_i64]; omega
   have wx2 : IntKind.i64.wrap (x : Int) = (x : Int) := by rw [IntKind.wrap_i64]; omega
   have hxn : x < n := by omega
   have i1 : (0 : Int) ≤ (c : Int) := by omega
   have i2 : (c : Int) < (n : Int) := by omega
   have i3 : (0 : Int) ≤ (x : Int) := by omega
   have i4 : (x : Int) < (n : Int) := by omega
   have i5 : (c : Int) + 1 ≤ 9223372036854775807 := by omega
   have HX : Hid (x = N - 1 - c ∧ x = N - (c + 1)) := hid (by omega)
   clear hx;have cC := hid (fun W' (k : Kp [] wr W') => HC.out.calls W' (p x) (p c) (HC.out.keep _ _ HI.out (hw.out.2.trans k (by simp))) (HPN.out _ (by omega)) (HPN.out _ (by omega)))
   obtain ⟨⟨x0, x1, x2, x3⟩, _⟩ := hw.out.1.cells x (by omega)
   obtain ⟨⟨y0, y1, y2, y3⟩, _⟩ := hw.out.1.cells c (by omega)
   obtain ⟨V1, hV1⟩ : ∃ V, Hid (V = A (p x)) := ⟨_, hid rfl⟩
   obtain ⟨V2, hV2⟩ : ∃ V, Hid (V = A (p c)) := ⟨_, hid rfl⟩
   rw [← hV1.out] at x0 x1 x2 x3 cC;rw [← hV2.out] at y0 y1 y2 y3 cC;obtain ⟨C, hCf⟩ : ∃ C, Hid (cf (p x) (p c) = C) := ⟨_, hid rfl⟩
   rw [hCf.out] at cC;obtain ⟨e1, n1, a1, c1, l1, d1⟩ := V1;obtain ⟨e2, n2, a2, c2, l2, d2⟩ := V2;simp only [Vr.v] at cC;dsimp only at *;have hF : Hid (∀ W', Kp [] wr W' → (W'.cell? ⟨g, o + x * 4, none⟩ = some (.int .u64 e1) ∧ W'.cell? ⟨g, o + x * 4 + 1, none⟩ = some (.int .u32 n1) ∧ W'.cell? ⟨g, o + x * 4 + 2, none⟩ = some (.slice a1 l1.length c1) ∧ W'.cell? ⟨g, o + x * 4 + 3, none⟩ = some (.int .u64 d1) ∧ W'.cell? ⟨g, o + c * 4, none⟩ = some (.int .u64 e2) ∧ W'.cell? ⟨g, o + c * 4 + 1, none⟩ = some (.int .u32 n2) ∧ W'.cell? ⟨g, o + c * 4 + 2, none⟩ = some (.slice a2 l2.length c2) ∧ W'.cell? ⟨g, o + c * 4 + 3, none⟩ = some (.int .u64 d2))) := fun W' k => ⟨kpAt k x0, kpAt k x1, kpAt k x2, kpAt k x3, kpAt k y0, kpAt k y1, kpAt k y2, kpAt k y3⟩
   clear x0 x1 x2 x3 y0 y1 y2 y3 hV1 hV2;go_wp2_with fail;refine wp_region_held_drew (S := fun W' => W'.cell? ⟨g, o + x * 4, none⟩ = some (.int .u64 e1) ∧ W'.cell? ⟨g, o + x * 4 + 1, none⟩ = some (.int .u32 n1) ∧ W'.cell? ⟨g, o + x * 4 + 2, none⟩ = some (.slice a1 l1.length c1) ∧ W'.cell? ⟨g, o + x * 4 + 3, none⟩ = some (.int .u64 d1) ∧ W'.cell? ⟨g, o + c * 4, none⟩ = some (.int .u64 e2) ∧ W'.cell? ⟨g, o + c * 4 + 1, none⟩ = some (.int .u32 n2) ∧ W'.cell? ⟨g, o + c * 4 + 2, none⟩ = some (.slice a2 l2.length c2) ∧ W'.cell? ⟨g, o + c * 4 + 3, none⟩ = some (.int .u64 d2)) (by kernel_rfl) ?_ (fun hHeld => ?_)
   ·exact hF.out _ (Kp.refl [] wr).drew
   have KD : Hid (Kp [] wr wr.drew) := hid (Kp.refl [] wr).drew
   generalize wr.drew = Wd at *
   refine tkH ?_ 0 rfl (by kernel_rfl) (fun _ _ _ h => h) (by rfl) ?_ ‹_› ?_;rotate_left
   ·intro w h; (try dsimp only at h); go_simp <;> with_reducible rfl
   (try simp only [Act.put, lz]);refine tkH ?_ 1 rfl (by kernel_rfl) (fun _ _ _ h => h) (by rfl) ?_ ‹_› ?_;rotate_left
   ·intro w h; (try dsimp only at h); go_simp <;> with_reducible rfl
   (try simp only [Act.put, lz]);refine tkH ?_ 2 rfl (by kernel_rfl) (fun _ _ _ h => h) (by rfl) ?_ ‹_› ?_;rotate_left
   ·intro w h; (try dsimp only at h); go_simp <;> with_reducible rfl
   (try simp only [Act.put, lz]);refine tkH ?_ 3 rfl (by kernel_rfl) (fun _ _ _ h => h) (by rfl) ?_ ‹_› ?_;rotate_left
   ·intro w h; (try dsimp only at h); go_simp <;> with_reducible rfl
   (try simp only [Act.put, lz]);refine tkH ?_ 4 rfl (by kernel_rfl) (fun _ _ _ h => h) (by rfl) ?_ ‹_› ?_;rotate_left
   ·intro w hSw; (try dsimp only at hSw); go_simp <;> (try simp only [wx, wx2]) <;> with_reducible rfl
   (try simp only [Act.put, lz]);try simp only [wx, wx2]
   refine tkH ?_ 5 rfl (by kernel_rfl) (fun _ _ _ h => h) (by rfl) ?_ ‹_› ?_;rotate_left
   ·intro w h; (try dsimp only at h); go_simp <;> with_reducible rfl
   (try simp only [Act.put, lz]);refine tkH ?_ 6 rfl (by kernel_rfl) (fun _ _ _ h => h) (by rfl) ?_ ‹_› ?_;rotate_left
   ·intro w h; (try dsimp only at h); go_simp <;> with_reducible rfl
   (try simp only [Act.put, lz]);refine tkH ?_ 7 rfl (by kernel_rfl) (fun _ _ _ h => h) (by rfl) ?_ ‹_› ?_;rotate_left
   ·intro w h; (try dsimp only at h); go_simp <;> with_reducible rfl
   (try simp only [Act.put, lz]);refine tkH ?_ 8 rfl (by kernel_rfl) (fun _ _ _ h => h) (by rfl) ?_ ‹_› ?_;rotate_left
   ·intro w h; (try dsimp only at h); go_simp <;> with_reducible rfl
   (try simp only [Act.put, lz]);refine tkH ?_ 9 rfl (by kernel_rfl) (fun _ _ _ h => h) (by rfl) ?_ ‹_› ?_;rotate_left
   ·intro w h; (try dsimp only at h); go_simp <;> with_reducible rfl
   (try simp only [Act.put, lz]);refine tkH ?_ 10 rfl (by kernel_rfl) (fun _ _ _ h => h) (by rfl) ?_ ‹_› ?_;rotate_left
   ·intro w h; (try dsimp only at h); go_simp <;> with_reducible rfl
   (try simp only [Act.put, lz]);refine rdH 11 (by kernel_rfl) rfl fun K hK => ?_
   go_simp;refine (cC.out Wd KD.out).mono ?_;rintro e u1 ⟨rfl, l1'⟩;(try go_wp2_with fail);refine hK.out _ _ ?_ (fun hHeld => ?_)
   ·exact hF.out _ (KD.out.trans l1' (by simp))
   clear hK K;(try simp only [Act.put, lz]);have K1 := hid (KD.out.trans l1' (by simp))
   clear l1' KD;have hw1 : Hid (HdFu u1 g o n cap A p ∧ Kp [g] w u1) := hid ⟨hw.out.1.kept K1.out, hw.out.2.trans K1.out (by simp)⟩
   by_cases hc0 : C < 0
   ·have dc : decide (C < 0) = true := by simpa using hc0
    refine tkH ?_ 12 rfl (by kernel_rfl) (fun _ _ _ h => h) (by rfl) ?_ ‹_› ?_;rotate_left
    ·intro w hSw; (try dsimp only at hSw); go_simp <;> (try simp only [dc]) <;> with_reducible rfl
    (try simp only [Act.put, lz]);try simp only [dc]
    refine tkH ?_ 13 rfl (by kernel_rfl) (fun _ _ _ h => h) (by rfl) ?_ ‹_› ?_;rotate_left
    ·intro w h; (try dsimp only at h); go_simp <;> with_reducible rfl
    (try simp only [Act.put, lz]);try simp only [Bool.not_true, Bool.not_false]
    refine wpAnyH_done (by kernel_rfl) ?_ _
    have hs2 : Hid ((s = a ∨ 0 ≤ cf (p (N - s)) (p (s - 1))) ∧ (c = m ∨ cf (p (N - 1 - c)) (p c) < 0)) := hid ⟨hs.out.1, .inr (by rw [← HX.out.1, hCf.out]; exact hc0)⟩
    clear hHeld hF cC hs hw hc0;go_wp2_with fail;exact ⟨⟨s, c, by omega, rfl, rfl, hs2, hw1⟩, by simp [intOf]; omega⟩
   ·have dc : decide (C < 0) = false := by simpa using hc0
    refine tkH ?_ 12 rfl (by kernel_rfl) (fun _ _ _ h => h) (by rfl) ?_ ‹_› ?_;rotate_left
    ·intro w hSw; (try dsimp only at hSw); go_simp <;> (try simp only [dc]) <;> with_reducible rfl
    (try simp only [Act.put, lz]);try simp only [dc]
    refine tkH ?_ 13 rfl (by kernel_rfl) (fun _ _ _ h => h) (by rfl) ?_ ‹_› ?_;rotate_left
    ·intro w h; (try dsimp only at h); go_simp <;> with_reducible rfl
    (try simp only [Act.put, lz]);try simp only [Bool.not_true, Bool.not_false]
    refine wpAnyH_done (by kernel_rfl) ?_ _
    have hs2 : Hid ((c + 1 = a ∨ 0 ≤ cf (p (N - (c + 1))) (p (c + 1 - 1))) ∧ (r = m ∨ cf (p (N - 1 - r)) (p r) < 0)) := hid ⟨.inr (by rw [Nat.add_sub_cancel, ← HX.out.2, hCf.out]; omega), hs.out.2⟩
    clear hHeld hF cC hs hw hc0;go_wp2_with fail;exact ⟨⟨c + 1, r, by omega, by go_num, rfl, hs2, hw1⟩, by simp [intOf]; omega⟩
  ·have er : r = s := by omega
   subst er;rename_i s_
   obtain ⟨s, hss⟩ : ∃ s : Nat, s = r := ⟨_, rfl⟩
   subst hss;obtain ⟨e, he⟩ : ∃ e : Nat, e = N - s := ⟨_, rfl⟩
   have eE : (N : Int) - (s : Int) = (e : Int) := by omega
   have eE1 : (-9223372036854775808 : Int) ≤ (N : Int) - (s : Int) := by omega
   have eE2 : (N : Int) - (s : Int) ≤ 9223372036854775807 := by omega
   have heb : m ≤ e ∧ e ≤ b ∧ s ≤ mid ∧ s ≤ m ∧ a ≤ s := by omega
   have hem : Hid (mid = s + (e - m)) := hid (by omega)
   have hmb2 : mid < b ∧ a < mid ∧ mid ≤ e := by omega
   have SP := hid (sym_parts HC.out.swo (p := p) heb.2.2.2.2 heb.2.2.2.1 heb.1 heb.2.1 hem.out HSR.out.1 HSR.out.2.1 HSR.out.2.2 (fun g1 g2 => by
    rcases hs.out.2 with h5 | h5
    ·omega
    ·rw [show e - 1 = N - 1 - s by omega]; exact h5) (fun g1 g2 => by
    rcases hs.out.1 with h5 | h5
    ·omega
    ·rw [he]; exact Int.not_lt.2 h5))
   clear he hem hs;go_upto_region 39 with fail
   go_cut [185] from 178 to 186 (fun v wx => ∃ B : Bool, v = .bool B ∧ Hid (B = decide (s < m ∧ m < e)) ∧ wx = wr)
   case first =>
    by_cases c1 : s < m
    ·have d1 : decide ((s : Int) < (m : Int)) = true := by simp; omega
     have d1n : decide (s < m) = true := by simp; omega
     by_cases c2 : m < e
     ·have d2 : decide ((m : Int) < (e : Int)) = true := by simp; omega
      have d2n : decide (m < e) = true := by simp; omega
      go_wp2_with fail;go_meet
      case rel => exact ⟨true, rfl, hid (by simp [c1, c2]), rfl⟩
     ·have d2 : decide ((m : Int) < (e : Int)) = false := by simp; omega
      have d2n : decide (m < e) = false := by simp; omega
      go_wp2_with fail;go_meet
      case rel => exact ⟨false, rfl, hid (by simp; omega), rfl⟩
    ·have d1 : decide ((s : Int) < (m : Int)) = false := by simp; omega
     have d1n : decide (s < m) = false := by simp; omega
     go_wp2_with fail;go_meet
     case rel => exact ⟨false, rfl, hid (by simp; omega), rfl⟩
   case rest =>
    obtain ⟨B, rfl, hB, rfl⟩ := hcut;go_upto_if 185 with fail
    go_cut [] from 186 to 192 (fun wx => Hid (HdFu wx g o n cap A (fun k => p (rot s m e k)) ∧ Kp [g] w wx))
    case first =>
     cases B with
     | true =>
      have c12 : s < m ∧ m < e := of_decide_eq_true hB.out.symm
      have cR := hid (cRotFu g o n cap A p s m e (.func (.func 89) #[] #[]) wc hw.out.1 c12.1 c12.2 (by omega) hn hcap)
      clear c12;go_wp2_with fail;refine cR.out.mono ?_;rintro e' wt ⟨⟨v, rfl⟩, hd, kd⟩;have HR := hid (And.intro hd (hw.out.2.trans kd (by simp)))
      clear hd kd cR hw;go_wp2_with fail;go_meet
      case rel => exact HR
     | false =>
      have c12 : ¬ (s < m ∧ m < e) := of_decide_eq_false hB.out.symm
      have HR : Hid (HdFu wc g o n cap A (fun k => p (rot s m e k)) ∧ Kp [g] w wc) := hid (by
       by_cases c1 : s < m
       ·rw [show e = m by omega, rot_right s m (by omega)]; exact hw.out
       ·rw [show s = m by omega, rot_left]; exact hw.out)
      clear c12;go_wp2_with fail;go_meet
      case rel => exact HR
    case rest =>
     have HR := hcut
     clear hcut hw hB;rename_i wr
     go_upto_region 41 with fail
     go_cut [199] from 192 to 200 (fun v wx => ∃ B : Bool, v = .bool B ∧ Hid (B = decide (a < s ∧ s < mid)) ∧ wx = wc)
     case first =>
      by_cases c3 : a < s
      ·have e1 : decide ((a : Int) < (s : Int)) = true := by simp; omega
       have e1n : decide (a < s) = true := by simp; omega
       by_cases c4 : s < mid
       ·have e2 : decide ((s : Int) < (mid : Int)) = true := by simp; omega
        have e2n : decide (s < mid) = true := by simp; omega
        go_wp2_with fail;go_meet
        case rel => exact ⟨true, rfl, hid (by simp [c3, c4]), rfl⟩
       ·have e2 : decide ((s : Int) < (mid : Int)) = false := by simp; omega
        have e2n : decide (s < mid) = false := by simp; omega
        go_wp2_with fail;go_meet
        case rel => exact ⟨false, rfl, hid (by simp; omega), rfl⟩
      ·have e1 : decide ((a : Int) < (s : Int)) = false := by simp; omega
       have e1n : decide (a < s) = false := by simp; omega
       go_wp2_with fail;go_meet
       case rel => exact ⟨false, rfl, hid (by simp; omega), rfl⟩
     case rest =>
      obtain ⟨B, rfl, hB, rfl⟩ := hcut;go_upto_if 199 with fail
      go_cut [] from 200 to 206 (fun wx => ∃ sa : Nat → Nat, Hid (PermIn a mid sa) ∧ Hid (Srt (fun x y => cf x y < 0) (fun k => p (rot s m e (sa k))) a mid) ∧ Hid (HdFu wx g o n cap A (fun k => p (rot s m e (sa k))) ∧ Kp [g] w wx))
      case first =>
       cases B with
       | true =>
        have c34 : a < s ∧ s < mid := of_decide_eq_true hB.out.symm
        have cM1 := hid (HIH.out (fun k => p (rot s m e k)) a s mid wc (by omega) HR.out.1 (HC.out.keep _ _ HI.out HR.out.2) (fun k hk => HPN.out _ (((rot_perm (Nat.zero_le s) (by omega) (by omega) (by omega) : PermIn 0 n (rot s m e))).1 k (Nat.zero_le _) hk).2) c34.1 c34.2 (by omega) SP.out.1.1 SP.out.1.2.1 SP.out.1.2.2)
        clear c34;go_wp2_with fail;refine cM1.out.mono ?_;rintro e' wm ⟨⟨v, rfl⟩, sa, pa, sa', ha', ka⟩;have PA := hid pa
        have SA := hid sa'
        have HD := hid (And.intro ha' (HR.out.2.trans ka (by simp)))
        clear pa sa' ha' ka cM1 HR;go_wp2_with fail;go_meet
        case rel => exact ⟨sa, PA, SA, HD⟩
       | false =>
        have c34 : ¬ (a < s ∧ s < mid) := of_decide_eq_false hB.out.symm
        have SA : Hid (Srt (fun x y => cf x y < 0) (fun k => p (rot s m e k)) a mid) := hid (by
         by_cases c7 : s = a
         ·have := SP.out.1.2.1; rwa [c7] at this ⊢
         ·have c8 : s = mid := by omega
          have := SP.out.1.1; rw [c8] at this ⊢; exact this)
        clear c34;go_wp2_with fail;go_meet
        case rel => exact ⟨fun k => k, hid (PermIn.id _ _), SA, HR⟩
      case rest =>
       obtain ⟨sa, PA, SA, HD⟩ := hcut;clear HR hB;rename_i wr
       have hmx : Hid ((∀ k, mid ≤ k → p (rot s m e (sa k)) = p (rot s m e k))) := hid (fun k hk => by rw [PA.out.2.1 k (by omega)])
       by_cases c5 : mid < e
       ·have f1 : decide ((mid : Int) < (e : Int)) = true := by simp; omega
        have f1n : decide (mid < e) = true := by simp; omega
        by_cases c6 : e < b
        ·have f2 : decide ((e : Int) < (b : Int)) = true := by simp; omega
         have f2n : decide (e < b) = true := by simp; omega
         have cM := hid (HIH.out (fun k => p (rot s m e (sa k))) mid e b wc (by omega) HD.out.1 (HC.out.keep _ _ HI.out HD.out.2) (fun k hk => HPN.out _ (by
          have r1 := (rot_perm (lo := 0) (hi := n) (Nat.zero_le s) (by omega) (by omega) (by omega) : PermIn 0 n (rot s m e))
          have r2 := PA.out.mono (Nat.zero_le a) (show mid ≤ n by omega)
          exact (r1.1 _ (Nat.zero_le _) (r2.1 k (Nat.zero_le _) hk).2).2)) c5 c6 (by omega) (fun i j g1 g2 g3 => by
           show bef _ (p (rot s m e (sa i))) (p (rot s m e (sa j)))
           rw [hmx.out i (by omega), hmx.out j (by omega)]; exact SP.out.2.1.1 i j g1 g2 g3) (fun i j g1 g2 g3 => by
           show bef _ (p (rot s m e (sa i))) (p (rot s m e (sa j)))
           rw [hmx.out i (by omega), hmx.out j (by omega)]; exact SP.out.2.1.2.1 i j g1 g2 g3) (fun i j g1 g2 g3 g4 => by
           show p (rot s m e (sa i)) < p (rot s m e (sa j))
           rw [hmx.out i (by omega), hmx.out j (by omega)]; exact SP.out.2.1.2.2 i j g1 g2 g3 g4))
         have KX := hid HD.out.2
         clear c5 c6;go_wp2_with fail;refine cM.out.mono ?_;rintro e' wz ⟨⟨v, rfl⟩, t, pt, st, ht', kt⟩
         have hfin : Hid (PermIn a b (fun k => rot s m e (sa (t k))) ∧ Srt (fun x y => cf x y < 0) (fun k => p (rot s m e (sa (t k)))) a b ∧ HdFu wz g o n cap A (fun k => p (rot s m e (sa (t k)))) ∧ Kp [g] w wz) := hid ⟨(rot_perm (by omega) (by omega) (by omega) (by omega)).comp ((PA.out.mono (Nat.le_refl _) (by omega)).comp (pt.mono (by omega) (Nat.le_refl _))), Srt.join (p := fun k => p (rot s m e k)) PA.out pt SA.out (fun i j g1 g2 g3 => by
          have h5 := st i j g1 g2 g3
          have h6 := pt.1 i g1 (by omega)
          have h7 := pt.1 j (by omega) g3
          simp only [hmx.out _ h6.1, hmx.out _ h7.1] at h5;exact h5) SP.out.2.2, ht', KX.out.trans kt (by simp)⟩
         clear pt st ht' kt KX;go_wp2_with fail;go_end0
         exact ⟨⟨_, rfl⟩, _, hfin.out.1, hfin.out.2.1, hfin.out.2.2.1, hfin.out.2.2.2⟩
        ·have f2 : decide ((e : Int) < (b : Int)) = false := by simp; omega
         have f2n : decide (e < b) = false := by simp; omega
         have sB : Srt (fun x y => cf x y < 0) (fun k => p (rot s m e k)) mid b := by
          by_cases c7 : e = mid
          ·rw [← c7]; exact SP.out.2.1.2.1
          ·have c8 : e = b := by omega
           rw [← c8]; exact SP.out.2.1.1
         have hfin : Hid (PermIn a b (fun k => rot s m e (sa k)) ∧ Srt (fun x y => cf x y < 0) (fun k => p (rot s m e (sa k))) a b) := hid ⟨(rot_perm (by omega) (by omega) (by omega) (by omega)).comp (PA.out.mono (Nat.le_refl _) (by omega)), Srt.join (p := fun k => p (rot s m e k)) PA.out (PermIn.id mid b) SA.out sB SP.out.2.2⟩
         clear sB c5;go_wp2_with fail;go_end0
         exact ⟨⟨_, rfl⟩, _, hfin.out.1, hfin.out.2, HD.out.1, HD.out.2⟩
       ·have f1 : decide ((mid : Int) < (e : Int)) = false := by simp; omega
        have f1n : decide (mid < e) = false := by simp; omega
        have sB : Srt (fun x y => cf x y < 0) (fun k => p (rot s m e k)) mid b := by
         by_cases c7 : e = mid
         ·rw [← c7]; exact SP.out.2.1.2.1
         ·have c8 : e = b := by omega
          rw [← c8]; exact SP.out.2.1.1
        have hfin : Hid (PermIn a b (fun k => rot s m e (sa k)) ∧ Srt (fun x y => cf x y < 0) (fun k => p (rot s m e (sa k))) a b) := hid ⟨(rot_perm (by omega) (by omega) (by omega) (by omega)).comp (PA.out.mono (Nat.le_refl _) (by omega)), Srt.join (p := fun k => p (rot s m e k)) PA.out (PermIn.id mid b) SA.out sB SP.out.2.2⟩
        clear sB c5;go_wp2_with fail;go_end0
        exact ⟨⟨_, rfl⟩, _, hfin.out.1, hfin.out.2, HD.out.1, HD.out.2⟩
theorem cSymFu (g o n cap : Nat) (A : Nat → Vr) (cf : Nat → Nat → Int) (Inv : World → Prop) (hC : CmpOkFu g n A cf Inv) (hn : n ≤ 4000000000000) (hcap : n ≤ cap) : ∀ (d : Nat) (p : Nat → Nat) (a m b : Nat) (w : World), b - a ≤ d → HdFu w g o n cap A p → Inv w → (∀ k, k < n → p k < n) → a < m → m < b → b ≤ n → Srt (fun x y => cf x y < 0) p a m → Srt (fun x y => cf x y < 0) p m b → Low p a m b → Calls Tryz.prog 160 #[.slice (some ⟨g, o, none⟩) n cap, .int .i64 (a : Int), .int .i64 (m : Int), .int .i64 (b : Int), .func (.func 89) #[] #[]] w fun e w' => (∃ v, e = .returned v) ∧ ∃ s, PermIn a b s ∧ Srt (fun x y => cf x y < 0) (fun k => p (s k)) a b ∧ HdFu w' g o n cap A (fun k => p (s k)) ∧ Kp [g] w w'
 | 0, p, a, m, b, w, hd, h, hI, hpn, h1, h2, h3, hA, hB, hLo => by omega
 | d + 1, p, a, m, b, w, hd, h, hI, hpn, h1, h2, h3, hA, hB, hLo => by
  by_cases c1 : m ≤ a + 1
  ·exact cSymAFu g o n cap A cf Inv hC p a m b w h hI hpn h1 h2 h3 hA hB hLo hn hcap c1
  by_cases c2 : b ≤ m + 1
  ·exact cSymBFu g o n cap A cf Inv hC p a m b w h hI hpn h1 h2 h3 hA hB hLo hn hcap (by omega) c2
  have IH := fun (p' : Nat → Nat) (a' m' b' : Nat) (w' : World) (hlt : b' - a' < b - a) h' hI' hpn' h1' h2' h3' hA' hB' hLo' => cSymFu g o n cap A cf Inv hC hn hcap d p' a' m' b' w' (by omega) h' hI' hpn' h1' h2' h3' hA' hB' hLo'
  by_cases c3 : a + b < 2 * m
  ·exact cSymC1Fu g o n cap A cf Inv hC p a m b w h hI hpn h1 h2 h3 hA hB hLo hn hcap (by omega) (by omega) c3 IH
  ·exact cSymC2Fu g o n cap A cf Inv hC p a m b w h hI hpn h1 h2 h3 hA hB hLo hn hcap (by omega) (by omega) (by omega) IH
def SgFu (lt : Nat → Nat → Prop) (s : Nat → Nat) (x y : Nat) : Prop := Srt lt s x y ∧ ∀ k, x ≤ k → k < y → x ≤ s k ∧ s k < y
theorem SgFu.congr {lt : Nat → Nat → Prop} {s t : Nat → Nat} {x y : Nat} (h : SgFu lt s x y) (ht : ∀ k, x ≤ k → k < y → t k = k) : SgFu lt (fun k => s (t k)) x y :=
 ⟨fun i j g1 g2 g3 => by
  show bef lt (s (t i)) (s (t j))
  rw [ht i g1 (by omega), ht j (by omega) g3]
  exact h.1 i j g1 g2 g3, fun k g1 g2 => by
  show x ≤ s (t k) ∧ s (t k) < y
  rw [ht k g1 g2];exact h.2 k g1 g2⟩
theorem SgFu.merged {lt : Nat → Nat → Prop} {s t : Nat → Nat} {a m b : Nat} (h1 : SgFu lt s a m) (h2 : SgFu lt s m b) (hab : a ≤ m) (hmb : m ≤ b) (ht : PermIn a b t) (hs : Srt lt (fun k => s (t k)) a b) : SgFu lt (fun k => s (t k)) a b :=
 ⟨hs, fun k g1 g2 => by
  show a ≤ s (t k) ∧ s (t k) < b
  have h3 := ht.1 k g1 g2
  by_cases c : t k < m
  ·have := h1.2 _ h3.1 c
   omega
  ·have := h2.2 (t k) (by omega) h3.2
   omega⟩
theorem SgFu.low {lt : Nat → Nat → Prop} {s : Nat → Nat} {a m b : Nat} (h1 : SgFu lt s a m) (h2 : SgFu lt s m b) : Low s a m b := fun i j g1 g2 g3 g4 => by
 have := h1.2 i g1 g2
 have := h2.2 j g3 g4
 omega
inductive LnFu (lt : Nat → Nat → Prop) (s : Nat → Nat) (bs : Nat) : Nat → Prop
 | nil : LnFu lt s bs 0
 | snoc {x : Nat} : LnFu lt s bs x → SgFu lt s x (x + bs) → LnFu lt s bs (x + bs)
inductive RnFu (lt : Nat → Nat → Prop) (s : Nat → Nat) (bs n : Nat) : Nat → Prop
 | done {x : Nat} : n ≤ x → RnFu lt s bs n x
 | step {x : Nat} : x < n → SgFu lt s x (min (x + bs) n) → RnFu lt s bs n (x + bs) → RnFu lt s bs n x
theorem LnFu.congr {lt : Nat → Nat → Prop} {s t : Nat → Nat} {bs x : Nat} (h : LnFu lt s bs x) : (∀ k, k < x → t k = k) → LnFu lt (fun k => s (t k)) bs x := by
 induction h with
 | nil => intro _; exact .nil
 | snoc h1 h2 ih => intro ht; exact .snoc (ih fun k hk => ht k (by omega)) (h2.congr fun k _ g => ht k g)
theorem RnFu.congr {lt : Nat → Nat → Prop} {s t : Nat → Nat} {bs n x : Nat} (h : RnFu lt s bs n x) : (∀ k, x ≤ k → k < n → t k = k) → RnFu lt (fun k => s (t k)) bs n x := by
 induction h with
 | done h => intro _; exact .done h
 | step h1 h2 h3 ih => intro ht; exact .step h1 (h2.congr fun k g1 g2 => ht k g1 (by omega)) (ih fun k g1 g2 => ht k (by omega) g2)
theorem LnFu.all {lt : Nat → Nat → Prop} {s : Nat → Nat} {bs n x : Nat} (h : LnFu lt s bs x) (hb : 0 < bs) : x ≤ n → RnFu lt s bs n x → RnFu lt s bs n 0 := by
 induction h with
 | nil => intro _ h; exact h
 | snoc h1 h2 ih => intro hx hr; exact ih (by omega) (.step (by omega) (by rw [Nat.min_eq_left hx]; exact h2) hr)
theorem RnFu.two {lt : Nat → Nat → Prop} {s : Nat → Nat} {bs n a : Nat} (h : RnFu lt s bs n a) (hb : 0 < bs) (hab : a + bs < n) : SgFu lt s a (a + bs) ∧ SgFu lt s (a + bs) (min (a + bs + bs) n) ∧ RnFu lt s bs n (a + bs + bs) := by
 cases h with
 | done h => omega
 | step h1 h2 h3 =>
  rw [Nat.min_eq_left (by omega)] at h2
  cases h3 with
  | done h => omega
  | step h4 h5 h6 => exact ⟨h2, h5, h6⟩
theorem RnFu.last {lt : Nat → Nat → Prop} {s : Nat → Nat} {bs n a : Nat} (h : RnFu lt s bs n a) (han : a < n) (hab : n ≤ a + bs) : SgFu lt s a n := by
 cases h with
 | done h => omega
 | step h1 h2 h3 => rwa [Nat.min_eq_right hab] at h2
theorem SgFu.fresh {lt : Nat → Nat → Prop} {s t : Nat → Nat} {a b : Nat} (hs : PermIn 0 a s) (ht : PermIn a b t) (h : Srt lt (fun k => s (t k)) a b) : SgFu lt (fun k => s (t k)) a b :=
 ⟨h, fun k g1 g2 => by
  show a ≤ s (t k) ∧ s (t k) < b
  have h3 := ht.1 k g1 g2
  rw [hs.2.1 (t k) (by omega)]
  exact h3⟩
theorem cStableFu (g o n cap : Nat) (A : Nat → Vr) (cf : Nat → Nat → Int) (Inv : World → Prop) (hC : CmpOkFu g n A cf Inv) (hn : n ≤ 4000000000000) (hcap : n ≤ cap) (w : World) (h : HdFu w g o n cap A (fun k => k)) (hI : Inv w) : Calls Tryz.prog 132 #[.slice (some ⟨g, o, none⟩) n cap, .int .i64 (n : Int), .func (.func 89) #[] #[]] w fun e w' => (∃ v, e = .returned v) ∧ ∃ s, PermIn 0 n s ∧ Srt (fun x y => cf x y < 0) s 0 n ∧ HdFu w' g o n cap A s ∧ Kp [g] w w' := by
 have HC := hid hC
 have HI := hid hI
 have HH := hid h
 clear hC hI h;go_enter Tryz.func132, Tryz.ntmps132
 go_wp2_with fail;go_loopw [7, 8] (fun av bv wr => ∃ (a b : Nat) (s : Nat → Nat), (a ≤ n ∧ a + 20 ≤ b ∧ b ≤ a + 20) ∧ av = .int .i64 (a : Int) ∧ bv = .int .i64 (b : Int) ∧ Hid (PermIn 0 a s ∧ LnFu (fun x y => cf x y < 0) s 20 a) ∧ Hid (HdFu wr g o n cap A s ∧ Kp [g] w wr)) (fun av _ _ => n + 20 - (intOf av).toNat)
 case atStart => exact ⟨0, 20, fun k => k, by omega, rfl, rfl, hid ⟨PermIn.id _ _, .nil⟩, hid ⟨HH.out, Kp.refl _ _⟩⟩
 case round =>
  obtain ⟨a, b, s, ⟨ba, bb1, bb2⟩, rfl, rfl, hs, hw⟩ := hrel
  by_cases hbn : b ≤ n
  ·have d0 : decide ((b : Int) ≤ (n : Int)) = true := by simp; omega
   have d1 : (b : Int) ≤ (n : Int) := by omega
   have cI := hid (cInsFu g o n cap A cf Inv HC.out s a b wr hw.out.1 (HC.out.keep _ _ HI.out hw.out.2) (fun k g1 g2 => hs.out.1.2.1 k (by omega)) (by omega) hbn hn hcap)
   obtain ⟨b', hb2'⟩ : ∃ x : Nat, x = b + 20 := ⟨_, rfl⟩
   have ebx : (b : Int) + 20 = (b' : Int) := by omega
   have ebx1 : (-9223372036854775808 : Int) ≤ (b : Int) + 20 := by omega
   have ebx2 : (b : Int) + 20 ≤ 9223372036854775807 := by omega
   have HW := hid hw.out.2
   have hb3 : a ≤ b ∧ b + 20 ≤ b' ∧ b' ≤ b + 20 := by omega
   clear hb2' hw;go_wp2_with fail;refine cI.out.mono ?_;rintro e w1 ⟨⟨v, rfl⟩, t, pt, st, hd, kd⟩
   have hs2 : Hid (PermIn 0 b (fun k => s (t k)) ∧ LnFu (fun x y => cf x y < 0) (fun k => s (t k)) 20 b) := hid ⟨(hs.out.1.mono (Nat.le_refl _) (by omega)).comp (pt.mono (Nat.zero_le _) (Nat.le_refl _)), by
    have e : b = a + 20 := by omega
    subst e;exact .snoc (hs.out.2.congr fun k hk => pt.2.1 k (by omega)) (SgFu.fresh hs.out.1 pt st)⟩
   have hw2 := hid (And.intro hd (HW.out.trans kd (by simp)))
   clear pt st hd kd hs HW cI;go_wp2_with fail;exact ⟨⟨b, b', fun k => s (t k), by omega, rfl, rfl, hs2, hw2⟩, by simp [intOf]; omega⟩
  ·have d0 : decide ((b : Int) ≤ (n : Int)) = false := by simp; omega
   have d1 : ¬ ((b : Int) ≤ (n : Int)) := by omega
   have cI := hid (cInsFu g o n cap A cf Inv HC.out s a n wr hw.out.1 (HC.out.keep _ _ HI.out hw.out.2) (fun k g1 g2 => hs.out.1.2.1 k (by omega)) ba (Nat.le_refl _) hn hcap)
   have HW := hid hw.out.2
   clear hw;go_wp2_with fail;refine cI.out.mono ?_;rintro e w1 ⟨⟨v, rfl⟩, t, pt, st, hd, kd⟩
   have hs2 : Hid (PermIn 0 n (fun k => s (t k)) ∧ RnFu (fun x y => cf x y < 0) (fun k => s (t k)) 20 n 0) := hid ⟨(hs.out.1.mono (Nat.le_refl _) ba).comp (pt.mono (Nat.zero_le _) (Nat.le_refl _)), (hs.out.2.congr fun k hk => pt.2.1 k (by omega)).all (by omega) ba (by
    by_cases c : a < n
    ·exact .step c (by rw [Nat.min_eq_right (by omega)]; exact SgFu.fresh hs.out.1 pt st) (.done (by omega))
    ·exact .done (by omega))⟩
   have hw2 := hid (And.intro hd (HW.out.trans kd (by simp)))
   clear pt st hd kd hs HW cI;go_wp2_with fail;go_loopw [6, 7, 8, 9] (fun zv _ _ _ wn => ∃ (bs : Nat) (s : Nat → Nat), (20 ≤ bs ∧ bs ≤ n + n + 20) ∧ zv = .int .i64 (bs : Int) ∧ Hid (PermIn 0 n s ∧ RnFu (fun x y => cf x y < 0) s bs n 0) ∧ Hid (HdFu wn g o n cap A s ∧ Kp [g] w wn)) (fun zv _ _ _ _ => n + n + 20 - (intOf zv).toNat)
   case atStart => exact ⟨20, _, by omega, rfl, hs2, hw2⟩
   case round =>
    obtain ⟨bs, s, ⟨bz1, bz2⟩, rfl, hs, hw⟩ := hrel;clear hs2 hw2
    by_cases hzn : bs < n
    ·have i0 : (bs : Int) < (n : Int) := by omega
     obtain ⟨B, hB⟩ : ∃ x : Nat, x = 2 * bs := ⟨_, rfl⟩
     have eB : (2 : Int) * (bs : Int) = (B : Int) := by omega
     have eB1 : (-9223372036854775808 : Int) ≤ (2 : Int) * (bs : Int) := by omega
     have eB2 : (2 : Int) * (bs : Int) ≤ 9223372036854775807 := by omega
     obtain ⟨B2, hB2⟩ : ∃ x : Nat, x = 2 * bs := ⟨_, rfl⟩
     have eB2 : (bs : Int) * 2 = (B2 : Int) := by omega
     have eB21 : (-9223372036854775808 : Int) ≤ (bs : Int) * 2 := by omega
     have eB22 : (bs : Int) * 2 ≤ 9223372036854775807 := by omega
     have hBb : bs + bs ≤ B ∧ B ≤ bs + bs ∧ B2 ≤ bs + bs ∧ bs + bs ≤ B2 := by omega
     clear hB hB2;go_wp2_with fail;go_loopw [7, 8] (fun av bv wn => ∃ (a b : Nat) (s : Nat → Nat), (a ≤ n ∧ a + B ≤ b ∧ b ≤ a + B) ∧ av = .int .i64 (a : Int) ∧ bv = .int .i64 (b : Int) ∧ Hid (PermIn 0 n s ∧ LnFu (fun x y => cf x y < 0) s B a ∧ RnFu (fun x y => cf x y < 0) s bs n a) ∧ Hid (HdFu wn g o n cap A s ∧ Kp [g] w wn)) (fun av _ _ => n + 1 - (intOf av).toNat)
     case atStart => exact ⟨0, B, s, by omega, rfl, rfl, hid ⟨hs.out.1, .nil, hs.out.2⟩, hw⟩
     case round =>
      obtain ⟨a, b, s, ⟨ba, bb1, bb2⟩, rfl, rfl, hs, hw⟩ := hrel;obtain ⟨m, hm⟩ : ∃ x : Nat, x = a + bs := ⟨_, rfl⟩
      have em : (a : Int) + (bs : Int) = (m : Int) := by omega
      have em1 : (-9223372036854775808 : Int) ≤ (a : Int) + (bs : Int) := by omega
      have em2 : (a : Int) + (bs : Int) ≤ 9223372036854775807 := by omega
      have hm2 : m ≤ a + bs ∧ a + bs ≤ m := by omega
      clear hm
      by_cases hbn : b ≤ n
      ·have d0 : decide ((b : Int) ≤ (n : Int)) = true := by simp; omega
       have d1 : (b : Int) ≤ (n : Int) := by omega
       obtain ⟨b2, hb2⟩ : ∃ x : Nat, x = b + B := ⟨_, rfl⟩
       have eb2 : (b : Int) + (B : Int) = (b2 : Int) := by omega
       have eb21 : (-9223372036854775808 : Int) ≤ (b : Int) + (B : Int) := by omega
       have eb22 : (b : Int) + (B : Int) ≤ 9223372036854775807 := by omega
       have hb3 : b2 ≤ b + B ∧ b + B ≤ b2 := by omega
       have hem : m = a + bs := by omega
       have heb : b = a + bs + bs := by omega
       obtain ⟨r1, r2, r3⟩ := hs.out.2.2.two (by omega) (by omega)
       rw [Nat.min_eq_left (by omega)] at r2
       rw [← hem] at r1 r2 r3;have heb2 : b = m + bs := by omega
       rw [← heb2] at r2 r3;have cM := hid (cSymFu g o n cap A cf Inv HC.out hn hcap (b - a) s a m b wr (Nat.le_refl _) hw.out.1 (HC.out.keep _ _ HI.out hw.out.2) (fun k hk => (hs.out.1.1 k (Nat.zero_le _) hk).2) (by omega) (by omega) hbn r1.1 r2.1 (r1.low r2))
       have HW := hid hw.out.2
       have RR := hid (And.intro r1 (And.intro r2 r3))
       clear hb2 hw hem heb heb2 r1 r2 r3;go_wp2_with fail;refine cM.out.mono ?_;rintro e w1 ⟨⟨v, rfl⟩, t, pt, st, hd, kd⟩
       have hs2 : Hid (PermIn 0 n (fun k => s (t k)) ∧ LnFu (fun x y => cf x y < 0) (fun k => s (t k)) B b ∧ RnFu (fun x y => cf x y < 0) (fun k => s (t k)) bs n b) := hid ⟨hs.out.1.comp (pt.mono (Nat.zero_le _) hbn), by
        have hSg := SgFu.merged RR.out.1 RR.out.2.1 (by omega) (by omega) pt st
        have e : b = a + B := by omega
        rw [e] at hSg ⊢;exact .snoc (hs.out.2.1.congr fun k hk => pt.2.1 k (by omega)) hSg, RR.out.2.2.congr fun k g1 g2 => pt.2.1 k (by omega)⟩
       have hw2 := hid (And.intro hd (HW.out.trans kd (by simp)))
       clear pt st hd kd hs HW cM RR;go_wp2_with fail;exact ⟨⟨b, b2, fun k => s (t k), by omega, rfl, rfl, hs2, hw2⟩, by simp [intOf]; omega⟩
      ·have d0 : decide ((b : Int) ≤ (n : Int)) = false := by simp; omega
       have d1 : ¬ ((b : Int) ≤ (n : Int)) := by omega
       by_cases hmn : m < n
       ·have i5 : (m : Int) < (n : Int) := by omega
        have hem : m = a + bs := by omega
        obtain ⟨r1, r2, r3⟩ := hs.out.2.2.two (by omega) (by omega)
        rw [Nat.min_eq_right (by omega)] at r2
        rw [← hem] at r1 r2;have cM := hid (cSymFu g o n cap A cf Inv HC.out hn hcap (n - a) s a m n wr (Nat.le_refl _) hw.out.1 (HC.out.keep _ _ HI.out hw.out.2) (fun k hk => (hs.out.1.1 k (Nat.zero_le _) hk).2) (by omega) hmn (Nat.le_refl _) r1.1 r2.1 (r1.low r2))
        have HW := hid hw.out.2
        have RR := hid (And.intro r1 r2)
        clear hw hem r1 r2 r3;go_wp2_with fail;refine cM.out.mono ?_;rintro e w1 ⟨⟨v, rfl⟩, t, pt, st, hd, kd⟩
        have hs2 : Hid (PermIn 0 n (fun k => s (t k)) ∧ RnFu (fun x y => cf x y < 0) (fun k => s (t k)) B2 n 0) := hid ⟨hs.out.1.comp (pt.mono (Nat.zero_le _) (Nat.le_refl _)), by
         have hSg := SgFu.merged RR.out.1 RR.out.2 (by omega) (by omega) pt st
         have e : B2 = B := by omega
         rw [e];exact (hs.out.2.1.congr fun k hk => pt.2.1 k (by omega)).all (by omega) ba (.step (by omega) (by rw [Nat.min_eq_right (by omega)]; exact hSg) (.done (by omega)))⟩
        have hw2 := hid (And.intro hd (HW.out.trans kd (by simp)))
        clear pt st hd kd hs HW cM RR;go_wp2_with fail;exact ⟨⟨B2, fun k => s (t k), by omega, rfl, hs2, hw2⟩, by simp [intOf]; omega⟩
       ·have i5 : ¬ ((m : Int) < (n : Int)) := by omega
        have i6 : decide ((m : Int) < (n : Int)) = false := by simp; omega
        have hs2 : Hid (PermIn 0 n s ∧ RnFu (fun x y => cf x y < 0) s B2 n 0) := hid ⟨hs.out.1, by
         have e : B2 = B := by omega
         rw [e];refine hs.out.2.1.all (by omega) ba ?_
         by_cases c : a < n
         ·exact .step c (by rw [Nat.min_eq_right (by omega)]; exact hs.out.2.2.last c (by omega)) (.done (by omega))
         ·exact .done (by omega)⟩
        clear hs;go_wp2_with fail;exact ⟨⟨B2, s, by omega, rfl, hs2, hw⟩, by simp [intOf]; omega⟩
    ·have d2 : decide ((bs : Int) < (n : Int)) = false := by simp; omega
     have d3 : ¬ ((bs : Int) < (n : Int)) := by omega
     have hfin : Hid (Srt (fun x y => cf x y < 0) s 0 n) := hid (by
      by_cases c : 0 < n
      ·exact (hs.out.2.last c (by omega)).1
      ·exact Srt.one _ _ _ _ (by omega))
     go_wp2_with fail;go_end0
     exact ⟨⟨_, rfl⟩, s, hs.out.1, hfin.out, hw.out.1, hw.out.2⟩
theorem cSortStableFu (g o n cap : Nat) (A : Nat → Vr) (cf : Nat → Nat → Int) (Inv : World → Prop) (hC : CmpOkFu g n A cf Inv) (hn : n ≤ 4000000000000) (hcap : n ≤ cap) (w : World) (h : HdFu w g o n cap A (fun k => k)) (hI : Inv w) : Calls Tryz.prog 88 #[.slice (some ⟨g, o, none⟩) n cap, .func (.func 89) #[] #[]] w fun e w' => (∃ v, e = .returned v) ∧ ∃ s, PermIn 0 n s ∧ Srt (fun x y => cf x y < 0) s 0 n ∧ HdFu w' g o n cap A s ∧ Kp [g] w w' := by
 have cS := hid (cStableFu g o n cap A cf Inv hC hn hcap w h hI)
 clear hC h hI;go_enter Tryz.func88, Tryz.ntmps88
 go_wp2_with fail;refine cS.out.mono ?_;rintro e w1 ⟨⟨v, rfl⟩, hp⟩;have HP := hid hp
 clear hp;go_wp2_with fail;go_end0
 exact ⟨⟨_, rfl⟩, HP.out⟩
end Go.Proofs.YtlgfekjoknbfdaaGreatDoor
end

section
namespace Go.Proofs.YtlgfekjoknbfdaaGreatDoor
open Go.RowKit Go.Hay
attribute [local go_sem] Oper.semAt_some
def nmC (x y : Vr) : Int := if ci x.e y.e = 0 then ci x.n y.n else ci x.e y.e
theorem cNanU (x : Int) (w : World) : Calls Tryz.prog 133 #[.int .u64 x] w fun e w' => e = .returned (.bool false) ∧ w' = w := by
 go_enter Tryz.func133, Tryz.ntmps133
 go_wp2_with fail;go_ret;exact ⟨rfl, rfl⟩
theorem cNanW (x : Int) (w : World) : Calls Tryz.prog 134 #[.int .u32 x] w fun e w' => e = .returned (.bool false) ∧ w' = w := by
 go_enter Tryz.func134, Tryz.ntmps134
 go_wp2_with fail;go_ret;exact ⟨rfl, rfl⟩
theorem cCmpU (x y : Int) (w : World) : Calls Tryz.prog 91 #[.int .u64 x, .int .u64 y] w fun e w' => e = .returned (.int .i64 (ci x y)) ∧ w' = w := by
 go_enter Tryz.func91, Tryz.ntmps91
 go_wp2_with (first | (go_at_call 133; refine (cNanU _ _).mono ?_; rintro e w' ⟨rfl, rfl⟩))
 all_goals (go_ret; refine ⟨?_, rfl⟩; show Ending.returned _ = _)
 all_goals (unfold ci; first | (rw [if_pos (by omega)]; rfl) | (rw [if_neg (by omega), if_pos (by omega)]; rfl) | (rw [if_neg (by omega), if_neg (by omega)]; rfl))
theorem cCmpW (x y : Int) (w : World) : Calls Tryz.prog 92 #[.int .u32 x, .int .u32 y] w fun e w' => e = .returned (.int .i64 (ci x y)) ∧ w' = w := by
 go_enter Tryz.func92, Tryz.ntmps92
 go_wp2_with (first | (go_at_call 134; refine (cNanW _ _).mono ?_; rintro e w' ⟨rfl, rfl⟩))
 all_goals (go_ret; refine ⟨?_, rfl⟩; show Ending.returned _ = _)
 all_goals (unfold ci; first | (rw [if_pos (by omega)]; rfl) | (rw [if_neg (by omega), if_pos (by omega)]; rfl) | (rw [if_neg (by omega), if_neg (by omega)]; rfl))
theorem cOr2 (g : Nat) (x y : Int) (w : World) (h : Bn w g [.int .i64 x, .int .i64 y]) : Calls Tryz.prog 90 #[.slice (some ⟨g, 0, none⟩) 2 2] w fun e w' => e = .returned (.int .i64 (if x = 0 then y else x)) ∧ Kp [] w w' := by
 have HB := hid h
 have zg : g < w.heap.size := h.lt (by simp)
 obtain ⟨R, hR⟩ : ∃ R, Hid ((if x = 0 then y else x) = R) := ⟨_, hid rfl⟩
 rw [hR.out];clear h;go_enter Tryz.func90, Tryz.ntmps90
 go_wp2_with fail;go_loopw [8] (fun iv wr => ∃ j : Nat, j ≤ 2 ∧ iv = .int .i64 (j : Int) ∧ Hid ((1 ≤ j → x = 0) ∧ (2 ≤ j → y = 0)) ∧ Hid (Kp [] w wr)) (fun iv _ => 2 - (intOf iv).toNat)
 case atStart => exact ⟨0, by omega, rfl, hid ⟨by omega, by omega⟩, hid (Kp.refl _ _)⟩
 case round =>
  obtain ⟨j, hj, rfl, hx, kr⟩ := hrel;have HB2 := hid (HB.out.kept kr.out)
  have zr : g < wr.heap.size := HB2.out.lt (by simp)
  obtain rfl | rfl | rfl : j = 0 ∨ j = 1 ∨ j = 2 := by omega
  ·have c0 := HB2.out.get 0 _ rfl
   by_cases h0 : x = 0
   ·have d0 : (x != 0) = false := by simpa using h0
    have hn : Hid ((1 ≤ 1 → x = 0) ∧ (2 ≤ 1 → y = 0)) := hid ⟨fun _ => h0, by omega⟩
    clear h0 hx;go_wp2_with fail;exact ⟨⟨1, by omega, by go_num, hn, kr⟩, by simp [intOf]⟩
   ·have d0 : (x != 0) = true := by simpa using h0
    have hR2 : Hid (R = x) := hid (by rw [← hR.out, if_neg h0])
    clear h0 hx;go_wp2_with fail;go_ret;exact ⟨by rw [hR2.out]; rfl, kr.out⟩
  ·have c1 := HB2.out.get 1 _ rfl
   have hx0 := hid (hx.out.1 (by omega))
   have hR2 : Hid (R = y) := hid (by rw [← hR.out, if_pos hx0.out])
   by_cases h0 : y = 0
   ·have d0 : (y != 0) = false := by simpa using h0
    have hn : Hid ((1 ≤ 2 → x = 0) ∧ (2 ≤ 2 → y = 0)) := hid ⟨fun _ => hx0.out, fun _ => h0⟩
    clear h0 hx;go_wp2_with fail;exact ⟨⟨2, by omega, by go_num, hn, kr⟩, by simp [intOf]⟩
   ·have d0 : (y != 0) = true := by simpa using h0
    clear h0 hx;go_wp2_with fail;go_ret;exact ⟨by rw [hR2.out]; rfl, kr.out⟩
  ·have hR2 : Hid (R = 0) := hid (by rw [← hR.out, if_pos (hx.out.1 (by omega)), hx.out.2 (by omega)])
   clear hx;go_wp2_with fail;go_ret;exact ⟨by rw [hR2.out]; rfl, kr.out⟩
theorem ci_neg (x y : Int) : ci y x = -ci x y := by unfold ci; repeat' split <;> omega
theorem ci_le (x y : Int) : ci x y ≤ 0 ↔ x ≤ y := by unfold ci; repeat' split <;> omega
theorem ci_zero (x y : Int) : ci x y = 0 ↔ x = y := by unfold ci; repeat' split <;> omega
theorem ci_lt (x y : Int) : ci x y < 0 ↔ x < y := by unfold ci; repeat' split <;> omega
theorem nmC_neg (x y : Vr) : nmC y x = -nmC x y := by
 unfold nmC
 have h1 := ci_neg x.e y.e
 have h2 := ci_neg x.n y.n
 split <;> split <;> omega
theorem nmC_trans (x y z : Vr) (h1 : nmC x y ≤ 0) (h2 : nmC y z ≤ 0) : nmC x z ≤ 0 := by
 unfold nmC at *
 have a1 := ci_le x.e y.e
 have a2 := ci_le y.e z.e
 have a3 := ci_le x.e z.e
 have b1 := ci_zero x.e y.e
 have b2 := ci_zero y.e z.e
 have b3 := ci_zero x.e z.e
 have c1 := ci_le x.n y.n
 have c2 := ci_le y.n z.n
 have c3 := ci_le x.n z.n
 split at h1 <;> split at h2 <;> split <;> omega
theorem nmC_lt (x y : Vr) : nmC x y < 0 ↔ x.e < y.e ∨ (x.e = y.e ∧ x.n < y.n) := by
 unfold nmC
 have h1 := ci_lt x.e y.e
 have h2 := ci_lt x.n y.n
 have h3 := ci_zero x.e y.e
 split <;> omega
theorem rNames (x y : Vr) (w : World) : Calls Tryz.prog 52 #[.agg #[.int .u64 x.e, .int .u32 x.n], .agg #[.int .u64 y.e, .int .u32 y.n]] w fun e w' => e = .returned (.bool (decide (nmC x y < 0))) ∧ Kp [] w w' := by
 obtain ⟨WA, eWA⟩ : ∃ Y, w.alloc (.cells #[.int .u64 x.e, .int .u32 x.n] 70) = Y := ⟨_, rfl⟩
 have kWA : Kp [] w WA := by rw [← eWA]; exact (Kp.refl _ _).alloc _
 have zWA : WA.heap.size = w.heap.size + 1 := by rw [← eWA]; simp
 have bWA : Bn WA w.heap.size [.int .u64 x.e, .int .u32 x.n] := by rw [← eWA]; exact Bn.new w [.int .u64 x.e, .int .u32 x.n] 70
 obtain ⟨WB, eWB⟩ : ∃ Y, WA.alloc (.cells #[.int .u64 y.e, .int .u32 y.n] 70) = Y := ⟨_, rfl⟩
 have kWB : Kp [] WA WB := by rw [← eWB]; exact (Kp.refl _ _).alloc _
 have zWB : WB.heap.size = WA.heap.size + 1 := by rw [← eWB]; simp
 have bWB : Bn WB WA.heap.size [.int .u64 y.e, .int .u32 y.n] := by rw [← eWB]; exact Bn.new WA [.int .u64 y.e, .int .u32 y.n] 70
 have b1 := bWA.kept kWB
 have KW := hid (kWA.trans kWB (by simp))
 have HB := hid (And.intro b1 bWB)
 have hF : Hid (∀ W', Kp [] WB W' → (W'.cell? ⟨w.heap.size, 0, none⟩ = some (.int .u64 x.e) ∧ W'.cell? ⟨w.heap.size, 1, none⟩ = some (.int .u32 x.n) ∧ W'.cell? ⟨WA.heap.size, 0, none⟩ = some (.int .u64 y.e) ∧ W'.cell? ⟨WA.heap.size, 1, none⟩ = some (.int .u32 y.n))) := fun W' k => by
  have h1 := HB.out.1.kept k
  have h2 := HB.out.2.kept k
  exact ⟨h1.get 0 _ rfl, h1.get 1 _ rfl, h2.get 0 _ rfl, h2.get 1 _ rfl⟩
 have hlt := nmC_lt x y
 obtain ⟨t0, t1, t2, t3⟩ := hF.out _ (Kp.refl _ _);have zA : w.heap.size < WB.heap.size := by omega
 have zB : WA.heap.size < WB.heap.size := by omega
 clear kWA kWB zWA zWB bWA bWB b1
 by_cases he : x.e = y.e
 ·have e1 : decide (nmC x y < 0) = decide (x.n < y.n) := decide_eq_decide.2 (by omega)
  rw [e1];rw [he] at eWA t0;have d0 : (y.e != y.e) = false := by simp
  clear hlt e1 hF HB;rw [he];go_enter Tryz.func52, Tryz.ntmps52
  go_wp2_with fail;go_ret;exact ⟨rfl, KW.out⟩
 ·have e1 : decide (nmC x y < 0) = decide (x.e < y.e) := decide_eq_decide.2 (by omega)
  rw [e1];have d0 : (x.e != y.e) = true := by simpa using he
  clear hlt e1 hF HB;go_enter Tryz.func52, Tryz.ntmps52
  go_wp2_with fail;go_ret;exact ⟨rfl, KW.out⟩
end Go.Proofs.YtlgfekjoknbfdaaGreatDoor
end

section
namespace Go.Proofs.YtlgfekjoknbfdaaGreatDoor
open Go.RowKit Go.Hay
abbrev Nv := Int × Int × List Val × Int
def seenF (ep : Int) (x : Vr) : Bool := decide (x.e ≤ ep) && (decide (x.d = 0) || decide (ep < x.d))
def fitF (l : List Val) (m : Nat) : List Val := (List.range m).map fun i => l.getD i nulV
theorem fitF_len (l : List Val) (m : Nat) : (fitF l m).length = m := by simp [fitF]
theorem fitF_at (l : List Val) (m i : Nat) (h : i < m) : (fitF l m)[i]? = some (l.getD i nulV) := by simp [fitF, h]
theorem fitF_eq (l : List Val) (m : Nat) : fitF l m = l.take m ++ List.replicate (m - l.length) nulV := by
 apply List.ext_getElem?
 intro i
 by_cases h : i < m
 ·rw [fitF_at l m i h]
  by_cases h2 : i < l.length
  ·rw [List.getElem?_append_left (by rw [List.length_take]; omega), List.getElem?_take, if_pos h, List.getD_eq_getElem?_getD, List.getElem?_eq_getElem h2]
   rfl
  ·rw [List.getElem?_append_right (by rw [List.length_take]; omega), List.length_take, List.getD_eq_getElem?_getD, List.getElem?_eq_none (by omega), List.getElem?_replicate, if_pos (by omega)]
   rfl
 ·rw [List.getElem?_eq_none (by rw [fitF_len]; omega), List.getElem?_eq_none (by simp; omega)]
def fitR (m : Nat) (x : Vr) : Nv := (x.e, x.n, fitF x.l m, 0)
def visF (ep : Int) (m : Nat) (L : List Vr) : List Nv := (L.filter (seenF ep)).map (fitR m)
def pickF (l : List Val) (ps : List Int) : List Val := ps.map fun p => if p < 0 then nulV else l.getD p.toNat nulV
def plcF (cols : List Int) (m : Nat) : List Int := (List.range m).map fun (k : Nat) => ixI cols (k : Int)
def nmN (x y : Nv) : Int := if ci x.1 y.1 = 0 then ci x.2.1 y.2.1 else ci x.1 y.1
def rejN (A B : List Nv) : List Nv := A.filterMap fun a => (B.find? fun b => decide ((b.1, b.2.1) = (a.1, a.2.1))).map fun b => (a.1, a.2.1, a.2.2.1 ++ b.2.2.1, a.2.2.2)
theorem rejR_N (A B : List Vr) : rejR A B = rejN (A.map Vr.pr) (B.map Vr.pr) := by
 unfold rejR rejN
 rw [List.filterMap_map];congr 1
 funext a
 show rejO B a = _
 unfold rejO
 show _ = Option.map _ (List.find? _ (B.map Vr.pr))
 rw [List.find?_map, Option.map_map];rfl
def posN (L : List Nv) (v : Nv) : Nat → Nat
 | 0 => 0
 | k + 1 => if nmN v (L.getD k default) < 0 then posN L v k else k + 1
theorem posN_le (L : List Nv) (v : Nv) : ∀ k, posN L v k ≤ k
 | 0 => Nat.le_refl _
 | k + 1 => by
  unfold posN
  have := posN_le L v k
  split <;> omega
def insN (L : List Nv) (v : Nv) : List Nv := L.take (posN L v L.length) ++ v :: L.drop (posN L v L.length)
theorem insN_len (L : List Nv) (v : Nv) : (insN L v).length = L.length + 1 := by
 unfold insN
 have := posN_le L v L.length
 simp only [List.length_append, List.length_cons, List.length_take, List.length_drop];omega
def ordN (R : List Nv) : List Nv := R.foldl insN []
theorem ordN_snoc (R : List Nv) (v : Nv) : ordN (R ++ [v]) = insN (ordN R) v := by simp [ordN]
theorem ordN_len (R : List Nv) : (ordN R).length = R.length := by
 have h : ∀ (R L : List Nv), (R.foldl insN L).length = L.length + R.length := by
  intro R
  induction R with
  | nil => simp
  | cons a R ih => intro L; rw [List.foldl_cons, ih, insN_len, List.length_cons]; omega
 simpa [ordN] using h R []
abbrev ltN (R : List Nv) (x y : Nat) : Prop := nmN (R.getD x default) (R.getD y default) < 0
theorem insP_pos (R : List Nv) (S : List Nat) (v : Nat) : ∀ k, k ≤ S.length → insP (ltN R) v S k = posN (S.map fun i => R.getD i default) (R.getD v default) k
 | 0, _ => rfl
 | k + 1, h => by
  unfold insP posN
  have e : (S.map fun i => R.getD i default).getD k default = R.getD (S.getD k 0) default := by
   rw [List.getD_eq_getElem?_getD, List.getD_eq_getElem?_getD (l := S), List.getElem?_map, List.getElem?_eq_getElem (by omega)]
   rfl
  rw [e, insP_pos R S v k (by omega)]
theorem ordN_to (R : List Nv) : ∀ k, k ≤ R.length → (srtI (ltN R) k).map (fun i => R.getD i default) = ordN (R.take k)
 | 0, _ => by simp [srtI, ordN]
 | k + 1, h => by
  have ih := ordN_to R k (by omega)
  have e : R.take (k + 1) = R.take k ++ [R.getD k default] := by
   rw [List.take_succ_eq_append_getElem (by omega), List.getD_eq_getElem?_getD, List.getElem?_eq_getElem (by omega)]
   rfl
  rw [e, ordN_snoc, ← ih, srtI, insI, insN, List.length_map, insP_pos R _ k _ (Nat.le_refl _)];simp
theorem ordN_srt (R : List Nv) : (srtI (ltN R) R.length).map (fun i => R.getD i default) = ordN R := by
 have := ordN_to R R.length (Nat.le_refl _)
 rwa [List.take_length] at this
def toldN (cols : List Int) (m : Nat) (R : List Nv) : List Nv := ordN (R.map fun x => (x.1, x.2.1, pickF x.2.2.1 (plcF cols m), 0))
def valF (c1 c2 : List Int) (a b : List Val) (n : Int) : Val := if n ∈ c1 then vAt a (ixI c1 n) else if n ∈ c2 then vAt b (ixI c2 n) else nulV
def rowN (c1 c2 : List Int) (m : Nat) (a b : List Val) : List Val := (List.range m).map fun (k : Nat) => valF c1 c2 a b (k : Int)
def refN (c1 c2 : List Int) (m : Nat) (A B : List Vr) : List Nv := A.filterMap fun a => (B.find? fun b => decide ((b.e, b.n) = (a.e, a.n))).map fun b => (a.e, a.n, rowN c1 c2 m a.l b.l, 0)
def refN1 (c1 : List Int) (m : Nat) (A : List Vr) : List Nv := A.map fun a => (a.e, a.n, rowN c1 [] m a.l [], 0)
theorem vAt_nat (l : List Val) (i : Nat) : vAt l (i : Int) = l.getD i nulV := by
 unfold vAt
 split
 ·rfl
 ·rw [List.getD_eq_getElem?_getD, List.getElem?_eq_none (by omega)]
  rfl
theorem ixI_pos {l : List Int} {x : Int} (h : x ∈ l) : ixI l x = (l.idxOf x : Int) := if_pos h
theorem pick_two (c1 c2 : List Int) (m : Nat) (a b : List Val) : pickF (fitF a c1.length ++ fitF b c2.length) (plcF (c1 ++ c2) m) = rowN c1 c2 m a b := by
 unfold pickF plcF rowN
 rw [List.map_map];apply List.map_congr_left
 intro k _
 show (if ixI (c1 ++ c2) (k : Int) < 0 then nulV else (fitF a c1.length ++ fitF b c2.length).getD (ixI (c1 ++ c2) (k : Int)).toNat nulV) = valF c1 c2 a b (k : Int)
 unfold valF
 by_cases h1 : (k : Int) ∈ c1
 ·have e : ixI (c1 ++ c2) (k : Int) = (c1.idxOf (k : Int) : Int) := by rw [ixI_pos (List.mem_append_left _ h1), List.idxOf_append, if_pos h1]
  have hl := List.idxOf_lt_length_of_mem h1
  rw [if_pos h1, ixI_pos h1, e, if_neg (by omega), Int.toNat_natCast, vAt_nat, List.getD_eq_getElem?_getD, List.getElem?_append_left (by rw [fitF_len]; exact hl), fitF_at _ _ _ hl]
  rfl
 ·rw [if_neg h1]
  by_cases h2 : (k : Int) ∈ c2
  ·have e : ixI (c1 ++ c2) (k : Int) = ((c1.length + c2.idxOf (k : Int) : Nat) : Int) := by rw [ixI_pos (List.mem_append_right _ h2), List.idxOf_append, if_neg h1, Nat.add_comm]
   have hl := List.idxOf_lt_length_of_mem h2
   rw [if_pos h2, ixI_pos h2, e, if_neg (by omega), Int.toNat_natCast, vAt_nat, List.getD_eq_getElem?_getD, List.getElem?_append_right (by rw [fitF_len]; omega), fitF_len, Nat.add_sub_cancel_left, fitF_at _ _ _ hl]
   rfl
  ·have e : ixI (c1 ++ c2) (k : Int) = -1 := by
    unfold ixI
    rw [if_neg (by simp [h1, h2])]
   rw [if_neg h2, e, if_pos (by omega)]
theorem pick_one (c1 : List Int) (m : Nat) (a : List Val) : pickF (fitF a c1.length) (plcF c1 m) = rowN c1 [] m a [] := by
 have := pick_two c1 [] m a []
 simpa [fitF] using this
theorem told_two (c1 c2 : List Int) (m : Nat) (A B : List Vr) : toldN (c1 ++ c2) m (rejN (A.map (fitR c1.length)) (B.map (fitR c2.length))) = ordN (refN c1 c2 m A B) := by
 unfold toldN rejN refN
 rw [List.map_filterMap, List.filterMap_map];congr 2
 funext a
 show Option.map _ (Option.map _ (List.find? _ (B.map (fitR c2.length)))) = _
 rw [List.find?_map, Option.map_map, Option.map_map];show Option.map _ (B.find? fun b => decide ((b.e, b.n) = (a.e, a.n))) = _
 congr 1
 funext b
 show (a.e, a.n, pickF (fitF a.l c1.length ++ fitF b.l c2.length) (plcF (c1 ++ c2) m), 0) = _
 rw [pick_two]
theorem told_one (c1 : List Int) (m : Nat) (A : List Vr) : toldN c1 m (A.map (fitR c1.length)) = ordN (refN1 c1 m A) := by
 unfold toldN refN1
 rw [List.map_map];congr 2
 funext a
 show (a.e, a.n, pickF (fitF a.l c1.length) (plcF c1 m), 0) = _
 rw [pick_one]
structure Vl where
 a : Option Addr
 c : Nat
 l : List Vr
instance : Inhabited Vl := ⟨⟨none, 0, []⟩⟩
def VlE : El Vl where
 n := 1
 c x := [.slice x.a x.l.length x.c]
 len _ := rfl
 one _ u hu := by simp at hu; subst hu; rfl
 pos := by decide
structure Vl.lies (w : World) (x : Vl) : Prop where
 see : VrE.See w x.a x.l
 each : ∀ v ∈ x.l, Vr.lies w v
 cap : x.l.length ≤ x.c
 most : x.c ≤ maxLen
theorem Vr.lies.kept {X Y : World} {x : Vr} (hx : Vr.lies X x) (k : Kp [] X Y) : Vr.lies Y x := hx.ck (CK.ofKp k) (fun _ _ => by simp)
theorem Vl.lies.kept {X Y : World} {x : Vl} (hx : x.lies X) (k : Kp [] X Y) : x.lies Y := ⟨hx.see.keptNew k, fun v hv => (hx.each v hv).kept k, hx.cap, hx.most⟩
def visA (ep : Int) (m : Nat) (L : List Vl) : List Nv := L.flatMap fun v => visF ep m v.l
def seenA (ep : Int) (L : List Vl) : List Vr := L.flatMap fun v => v.l.filter (seenF ep)
theorem visA_seen (ep : Int) (m : Nat) (L : List Vl) : visA ep m L = (seenA ep L).map (fitR m) := by
 unfold visA seenA visF
 rw [List.map_flatMap]
def fullN (S : Nat) (c1 c2 : List Int) (two : Bool) (m : Nat) (ep : Int) (L : List Vl) : List Nv :=
 if two then toldN (c1 ++ c2) m (rejN (visA ep c1.length (L.take S)) (visA ep c2.length ((L.drop S).take S))) else toldN c1 m (visA ep c1.length (L.take S))
def fullR (S : Nat) (c1 c2 : List Int) (two : Bool) (m : Nat) (ep : Int) (L : List Vl) : List Nv :=
 ordN (if two then refN c1 c2 m (seenA ep (L.take S)) (seenA ep ((L.drop S).take S)) else refN1 c1 m (seenA ep (L.take S)))
theorem full_eq (S : Nat) (c1 c2 : List Int) (two : Bool) (m : Nat) (ep : Int) (L : List Vl) : fullN S c1 c2 two m ep L = fullR S c1 c2 two m ep L := by
 unfold fullN fullR
 cases two
 ·simp only [Bool.false_eq_true, if_false, visA_seen, told_one]
 ·simp only [if_true, visA_seen, told_two]
end Go.Proofs.YtlgfekjoknbfdaaGreatDoor
end

section
namespace Go.Proofs
open Go.Shelf
def Tryz.lays212_ren : Go.Shelf.Ren := ⟨fun | 212 => 158 | 263 => 172 | 264 => 173 | n => n, fun | 46 => 215 | 51 => 68 | 146 => 233 | 53 => 57 | 148 => 235 | n => n, fun | n => n⟩
theorem Tryz.lays212 : Go.Proofs.Lays.n212 Tryz.prog Tryz.lays212_ren := {
 mixed := by kernel_rfl
 f212 := Tryz.func158.trans (congrArg some (by kernel_rfl))
 f263 := Tryz.func172.trans (congrArg some (by kernel_rfl))
 f264 := Tryz.func173.trans (congrArg some (by kernel_rfl))
 t46 := Tryz.underlying215
 a46 := Tryz.isAgg215
 z46 := Tryz.sizeOf215
 v46 := Tryz.zeroValue215
 t51 := Tryz.underlying68
 a51 := Tryz.isAgg68
 z51 := Tryz.sizeOf68
 v51 := Tryz.zeroValue68
 t53 := Tryz.underlying57
 a53 := Tryz.isAgg57
 z53 := Tryz.sizeOf57
 v53 := Tryz.zeroValue57
 t146 := Tryz.underlying233
 a146 := Tryz.isAgg233
 z146 := Tryz.sizeOf233
 v146 := Tryz.zeroValue233
 t148 := Tryz.underlying235
 a148 := Tryz.isAgg235
 z148 := Tryz.sizeOf235
 v148 := Tryz.zeroValue235 }
open Go.RowKit Go.Lib in
theorem Tryz.bits_Mul (x y : Nat) (hx : x < 18446744073709551616) (hy : y < 18446744073709551616) (w : World) :
  Calls Tryz.prog 158 #[.int .u64 x, .int .u64 y] w fun e w' => e = .returned (.tuple #[.int .u64 ((x * y / 18446744073709551616 : Nat) : Int), .int .u64 ((x * y % 18446744073709551616 : Nat) : Int)]) ∧ w' = w := Any.bits_Mul Tryz.lays212 x y hx hy w
end Go.Proofs
end

section
namespace Go.Hay
open Go.RowKit
section
variable {α : Type} {E : El α}
theorem El.Row.put {w : World} {g o c : Nat} {l : List α} (h : E.Row w (.slice (some ⟨g, o, none⟩) l.length c) l) (j : Nat) (hj : j ≤ l.length) (bs : List α) (hb : j + bs.length ≤ c) :
  E.Row (w.setCells g (o + j * E.n) (E.cs bs)) (.slice (some ⟨g, o, none⟩) (l.take j ++ bs ++ l.drop (j + bs.length)).length c) (l.take j ++ bs ++ l.drop (j + bs.length)) ∧ Kp [g] w (w.setCells g (o + j * E.n) (E.cs bs)) ∧
   (∀ k, k < (E.cs bs).length → (w.cell? ⟨g, o + j * E.n + k, none⟩).isSome = true) ∧ ∀ k, k < (E.cs bs).length → w.frozen? ⟨g, o + j * E.n + k, none⟩ = false := by
 rcases h with ⟨e, _⟩ | ⟨g', o', cap, e, hl, hm, hg, hc, ht⟩
 ·cases e
 ·simp only [Value.slice.injEq, Option.some.injEq, Addr.mk.injEq] at e
  obtain ⟨⟨rfl, rfl, _⟩, _, rfl⟩ := e;have hmul : (j + bs.length) * E.n ≤ c * E.n := Nat.mul_le_mul_right _ hb
  rw [Nat.add_mul] at hmul
  have hsome : ∀ k, k < (E.cs bs).length → (w.cell? ⟨g, o + j * E.n + k, none⟩).isSome = true := fun k hk => by
   rw [El.cs_length] at hk; rw [Nat.add_assoc]; exact (ht _ (by omega)).1
  have hfr : ∀ k, k < (E.cs bs).length → w.frozen? ⟨g, o + j * E.n + k, none⟩ = false := fun k hk => by
   rw [El.cs_length] at hk; rw [Nat.add_assoc]; exact (ht _ (by omega)).2
  have hlen : (l.take j ++ bs ++ l.drop (j + bs.length)).length ≤ c := by simp; omega
  refine ⟨.inr ⟨g, o, c, rfl, hlen, hm, by rw [size_setCells]; exact hg, ?_, ?_⟩, (Kp.refl _ w).setCells (by simp) _ _, hsome, hfr⟩
  ·intro k u hu
   rw [El.cs_append, El.cs_append, El.cs_take, El.cs_drop] at hu
   have hjl : ((E.cs l).take (j * E.n)).length = j * E.n := by
    rw [List.length_take, El.cs_length];have := Nat.mul_le_mul_right E.n hj
    omega
   by_cases h1 : k < j * E.n
   ·rw [List.getElem?_append_left (by rw [List.length_append, hjl]; omega), List.getElem?_append_left (by omega), List.getElem?_take, if_pos h1] at hu
    rw [World.cell?_setCells_out g _ _ _ _ (fun _ _ => Or.inl (by show o + k < o + j * E.n; omega))]
    exact hc k u hu
   ·by_cases h2 : k < j * E.n + (E.cs bs).length
    ·rw [List.getElem?_append_left (by rw [List.length_append, hjl]; omega), List.getElem?_append_right (by omega), hjl] at hu
     have hj2 : k - j * E.n < (E.cs bs).length := by omega
     have := World.cell?_setCells_in g (E.cs bs) (o + j * E.n) w hsome (k - j * E.n) hj2
     rw [← List.getElem?_eq_getElem hj2, hu] at this;rw [show o + j * E.n + (k - j * E.n) = o + k by omega] at this
     exact this
    ·rw [List.getElem?_append_right (by rw [List.length_append, hjl]; omega), List.length_append, hjl, List.getElem?_drop] at hu
     rw [World.cell?_setCells_out g _ _ _ _ (fun _ _ => Or.inr (by show o + j * E.n + (E.cs bs).length ≤ o + k; omega))]
     refine hc k u ?_;rw [← hu];congr 1
     rw [El.cs_length] at h2 ⊢;rw [Nat.add_mul];omega
  ·intro k hk
   refine ⟨?_, (World.frozen?_setCells g _ _ _ _).trans (ht k hk).2⟩
   by_cases hin : j * E.n ≤ k ∧ k < j * E.n + (E.cs bs).length
   ·have := World.cell?_setCells_in g (E.cs bs) (o + j * E.n) w hsome (k - j * E.n) (by omega)
    rw [show o + j * E.n + (k - j * E.n) = o + k by omega] at this
    rw [this]; rfl
   ·rw [World.cell?_setCells_out g _ _ _ _ (fun _ _ => by show o + k < o + j * E.n ∨ o + j * E.n + (E.cs bs).length ≤ o + k; omega)]
    exact (ht k hk).1
end
theorem run_copyM {P : Program} (w : World) (dT sT ty elem : TypeId) (i : TypeInfo) (hu : P.underlying dT = some (.slice elem)) (hi : P.info? elem = some i) (b o dLen dCap : Nat) (a : Addr) (sLen sCap n : Nat) (hmin : Nat.min sLen dLen = n) (cs : List Value)
  (hn : cs.length = n * i.size) (hsrc : ∀ j v, cs[j]? = some v → w.cell? (a.add j) = some v) (hc : ∀ j, j < cs.length → (w.cell? ⟨b, o + j, none⟩).isSome = true) (hf : ∀ j, j < cs.length → w.frozen? ⟨b, o + j, none⟩ = false) (h1 : ∀ v ∈ cs, v.oneCell' = true) :
  (Builtin.copy_ #[dT, sT] ty #[.slice (some ⟨b, o, none⟩) dLen dCap, .slice (some a) sLen sCap]).run P w = .ok (goInt n) (w.setCells b o cs) := by
 have hl := run_loadCells_list (P := P) w a cs hsrc
 have hst := run_storeCells_cells (P := P) b o cs 0 w (by simpa using hc) (by simpa using hf) h1
 simp only [Nat.add_zero] at hst;simp [Builtin.copy_, run_underlying hu, Builtin.lenOf, Builtin.firstCells, sizeOf, typeInfo, hi, hmin, ← hn, hl, hst]
theorem wpCpyRun {P : Program} {w w' : World} {ops : Array Oper} {rest : List Oper} {o : Oper} {a : Act} {Q : Exit → Act → World → Prop} (hgd : o.guard = none) (s x : Operand) (t tx : TypeId)
  (ho : o.op = .call { callee := .builtin .copy, args := #[s, x], argTypes := #[t, tx] }) (v xv v' : Value) (hv : a.eval s = v) (hx : a.eval x = xv)
  (hrun : (Builtin.copy_ #[t, tx] o.type #[v, xv]).run P w = .ok v' w') (h : wpList P ops Q rest (a.put o.dst v') w') : wpList P ops Q (o :: rest) a w := by
 refine wpList_plain hgd fun K hK' => ?_
 unfold Oper.wp execOp
 simp only [ho, resolve, invoke, builtin, Sem.run_bind, Sem.run_pure, Result.andThen_ok, List.map_toArray, List.map_cons, List.map_nil, hv, hx, hrun];exact hK' _ _ h
theorem wpAppRun {P : Program} {w w' : World} {ops : Array Oper} {rest : List Oper} {o : Oper} {a : Act} {Q : Exit → Act → World → Prop} (hgd : o.guard = none) (s x : Operand) (t tx : TypeId)
  (ho : o.op = .call { callee := .builtin .append, args := #[s, x], argTypes := #[t, tx] }) (v xv v' : Value) (hv : a.eval s = v) (hx : a.eval x = xv)
  (hrun : (Builtin.append_ #[t, tx] o.type #[v, xv]).run P w = .ok v' w') (h : wpList P ops Q rest (a.put o.dst v') w') : wpList P ops Q (o :: rest) a w := by
 refine wpList_plain hgd fun K hK' => ?_
 unfold Oper.wp execOp
 simp only [ho, resolve, invoke, builtin, Sem.run_bind, Sem.run_pure, Result.andThen_ok, List.map_toArray, List.map_cons, List.map_nil, hv, hx, hrun];exact hK' _ _ h
end Go.Hay
end

section
namespace Go.Proofs.YtlgfekjoknbfdaaGreatDoor
open Go.RowKit Go.Hay
attribute [local go_sem] Oper.semAt_some
theorem copyNoneV {P : Program} (w : World) (dT sT ty elem : TypeId) (i : TypeInfo) (hu : P.underlying dT = some (.slice elem)) (hi : P.info? elem = some i) (d : Option Addr) (dLen dCap : Nat) (a : Option Addr) (c : Nat) :
  (Builtin.copy_ #[dT, sT] ty #[.slice d dLen dCap, .slice a 0 c]).run P w = .ok (.int .i64 0) w := by
 cases d <;> cases a <;> simp [Builtin.copy_, run_underlying hu, Builtin.lenOf, Builtin.firstCells, sizeOf, typeInfo, hi, loadCells, loadCellsFrom, storeCells, goInt]
theorem cpyV (ty : TypeId) (w : World) (g o c : Nat) (D : List Val) (h : VE.Row w (.slice (some ⟨g, o, none⟩) D.length c) D) (j : Nat) (hj : j ≤ D.length) (a : Option Addr) (ys : List Val) (sc dc : Nat) (hs : VE.See w a ys) :
  ∃ W, (Builtin.copy_ #[61, 61] ty #[.slice (some ⟨g, o + j * 4, none⟩) (D.length - j) dc, .slice a ys.length sc]).run Tryz.prog w = .ok (.int .i64 ((Nat.min ys.length (D.length - j) : Nat) : Int)) W ∧ VE.Row W (.slice (some ⟨g, o, none⟩) D.length c) (D.take j ++ ys.take (D.length - j) ++ D.drop (j + Nat.min ys.length (D.length - j))) ∧ Kp [g] w W := by
 obtain ⟨i0, hi, hz0, hz1, hz2⟩ := infoVal;obtain ⟨n, hn⟩ : ∃ n, Nat.min ys.length (D.length - j) = n := ⟨_, rfl⟩
 have hn1 : n ≤ ys.length := by rw [← hn]; exact Nat.min_le_left _ _
 have hn2 : n ≤ D.length - j := by rw [← hn]; exact Nat.min_le_right _ _
 have et : ys.take (D.length - j) = ys.take n := by
  rw [← hn];show _ = ys.take (min ys.length (D.length - j))
  rw [Nat.min_def];split
  ·rw [List.take_of_length_le (by omega), List.take_length]
  ·rfl
 have hl : (ys.take n).length = n := by rw [List.length_take]; omega
 rw [hn, et]
 have hcap : D.length ≤ c := by
  rcases h with ⟨e, _⟩ | ⟨g', o', c', e, hl', _⟩
  ·cases e
  ·cases e; exact hl'
 obtain ⟨hrow, k, hsome, hfr⟩ := h.put j hj (ys.take n) (by rw [hl]; omega)
 rw [hl] at hrow;have hlen : (D.take j ++ ys.take n ++ D.drop (j + n)).length = D.length := by simp; omega
 rw [hlen] at hrow
 cases a with
 | none =>
  have e0 : ys = [] := by rcases hs with e | ⟨_, _, e, _⟩; exact e; cases e
  subst e0;have hn0 : n = 0 := by simp at hn1; exact hn1
  subst hn0;refine ⟨w, ?_, by simpa using h, Kp.refl _ _⟩
  exact copyNoneV w _ _ ty 88 i0 Tryz.underlying61 hi _ _ _ _ _
 | some ad =>
  refine ⟨_, run_copyM (P := Tryz.prog) w 61 61 ty 88 i0 Tryz.underlying61 hi g (o + j * 4) _ dc ad _ sc n hn (VE.cs (ys.take n)) (by rw [El.cs_length, hl, hz1]; rfl) (fun q v hv => ?_) hsome hfr (El.cs_one VE _), hrow, k⟩
  rcases hs with e | ⟨g', o', e, hc⟩
  ·subst e; simp [El.cs] at hv
  ·cases e
   rw [Addr.add_lit];rw [El.cs_take, List.getElem?_take] at hv;split at hv
   ·exact hc q v hv
   ·cases hv
def RepP (m : Nat) (w : World) (e : Ending) (w' : World) : Prop := ∃ q, e = .returned (.slice (some ⟨q, 0, none⟩) m m) ∧ VE.Row w' (.slice (some ⟨q, 0, none⟩) m m) (List.replicate m nulV) ∧ Kp [] w w' ∧ w.heap.size ≤ q
theorem repl_take (m j n : Nat) (h : j + n ≤ m) : (List.replicate m nulV).take j ++ List.replicate n nulV ++ (List.replicate m nulV).drop (j + n) = List.replicate m nulV := by
 rw [List.take_replicate, List.drop_replicate, List.replicate_append_replicate, List.replicate_append_replicate];congr 1
 have : min j m = j := by omega
 omega
theorem sliceFromV (a : Option Addr) (n c k : Nat) (w : World) (hk : k < n) (hc : n ≤ c) (g : Nat) (ha : a = some ⟨g, 0, none⟩) : (Instr.slice 61 (.slice a n c) (some (.int .i64 (k : Int))) none none).run Tryz.prog w = .ok (.slice (some ⟨g, 0 + k * 4, none⟩) (n - k) (c - k)) w := by
 obtain ⟨i0, hi, hz0, hz1, hz2⟩ := infoVal;have hsz := run_sizeOf (P := Tryz.prog) (w := w) hi
 have h1 : (0 : Int) ≤ (k : Int) := by omega
 have h2 : (k : Int) ≤ (n : Int) := by omega
 have h3 : ¬ c = k := by omega
 have h4 : k ≤ n := by omega
 subst ha;simp [Instr.slice, Instr.sliceBounds, Instr.sliceBound, run_underlying Tryz.underlying61, h1, h2, h3, h4, asIntOf, hsz, hz1, Addr.add]
 have hc4 : Tryz.prog.cellsOf 88 = 4 := by kernel_rfl
 rw [hc4];split
 ·rename_i h0; simp [h0]
 ·rfl
theorem sliceToV (g n c k : Nat) (w : World) (hk : k ≤ c) : (Instr.slice 61 (.slice (some ⟨g, 0, none⟩) n c) none (some (.int .i64 (k : Int))) none).run Tryz.prog w = .ok (.slice (some ⟨g, 0, none⟩) k c) w := by
 obtain ⟨i0, hi, hz0, hz1, hz2⟩ := infoVal;have hsz := run_sizeOf (P := Tryz.prog) (w := w) hi
 have h1 : (0 : Int) ≤ (k : Int) := by omega
 have h2 : (k : Int) ≤ (c : Int) := by omega
 simp [Instr.slice, Instr.sliceBounds, Instr.sliceBound, run_underlying Tryz.underlying61, h1, h2, hk, asIntOf, Addr.add]
theorem cRepeat (g : Nat) (m : Nat) (w : World) (h : VE.See w (some ⟨g, 0, none⟩) [nulV]) (hm : m ≤ 1000000000000) : Calls Tryz.prog 129 #[.slice (some ⟨g, 0, none⟩) 1 1, .int .i64 (m : Int)] w (RepP m w) := by
 obtain ⟨i0, hi, hz0, hz1, hz2⟩ := infoVal;have cM := Tryz.bits_Mul 1 m (by omega) (by omega)
 have e1 : 1 * m / 18446744073709551616 = 0 := by omega
 have e2 : 1 * m % 18446744073709551616 = m := by omega
 rw [e1, e2] at cM;have HM := hid cM
 obtain ⟨W3, hmk, hrow3, k3, hs3⟩ := run_makeG (E := VE) (P := Tryz.prog) w 61 88 i0 _ nulV 40 Tryz.underlying61 hi hz0 hz1 hz2 rfl .i64 .i64 m (by omega) (by unfold maxLen; omega)
 obtain ⟨q, hq⟩ : ∃ q, w.heap.size = q := ⟨_, rfl⟩
 rw [hq] at hmk hrow3 hs3;have hqw := hid hq
 have hl : (List.replicate m nulV).length = m := List.length_replicate
 obtain ⟨W4, hcp, hrow4, k4⟩ := cpyV 3 W3 q 0 m (List.replicate m nulV) (by rw [hl]; exact hrow3) 0 (Nat.zero_le _) (some ⟨g, 0, none⟩) [nulV] 1 m (h.keptNew k3)
 rw [hl] at hcp hrow4;obtain ⟨n0, hn0⟩ : ∃ n0, Nat.min [nulV].length (m - 0) = n0 := ⟨_, rfl⟩
 have hn1 : n0 ≤ m := by rw [← hn0]; exact Nat.le_trans (Nat.min_le_right _ _) (by omega)
 have hn2 : 0 < n0 ∨ m = 0 := by
  rw [← hn0]
  by_cases c : m = 0
  ·exact .inr c
  ·left; show 0 < min 1 (m - 0); omega
 have et : [nulV].take (m - 0) = List.replicate n0 nulV := by
  rw [← hn0]
  cases m with
  | zero => rfl
  | succ m => show [nulV].take (m + 1) = List.replicate (min 1 (m + 1)) nulV; rw [show min 1 (m + 1) = 1 by omega]; simp
 rw [hn0] at hcp hrow4;rw [et, repl_take m 0 n0 (by omega)] at hrow4
 simp only [Nat.zero_mul, Nat.add_zero, Nat.sub_zero] at hcp;have H0 : Hid (VE.Row W4 (.slice (some ⟨q, 0, none⟩) m m) (List.replicate m nulV) ∧ Kp [] w W4) := hid ⟨hrow4, k3.trans k4 (fun x hx => .inr (by simp at hx; omega))⟩
 have i1 : (0 : Int) ≤ (m : Int) := by omega
 have i2 : decide ((m : Int) < 0) = false := by simp
 have i3 : (m : Int) < 18446744073709551616 := by omega
 have i4 : decide ((9223372036854775807 : Int) < (m : Int)) = false := by simp; omega
 have u1 : IntKind.u64.wrap (m : Int) = (m : Int) := by rw [IntKind.wrap_u64]; omega
 have u2 : IntKind.i64.wrap (m : Int) = (m : Int) := by rw [IntKind.wrap_i64]; omega
 clear cM e1 e2 hrow3 hrow4 k3 k4 h hn0 et hi hz0 hz1 hz2 hs3 hq;go_enter Tryz.func129, Tryz.ntmps129
 go_wp2_with fail;refine (HM.out _).mono ?_;rintro e w' ⟨rfl, ex⟩;rw [ex];clear ex w';go_wp2_with (first | (refine wpCpyRun rfl _ _ 61 61 rfl _ _ _ rfl rfl hcp ?_) | fail)
 go_loopw [8] (fun iv wr => ∃ k : Nat, (k ≤ m ∧ (0 < k ∨ m = 0)) ∧ iv = .int .i64 (k : Int) ∧ Hid (VE.Row wr (.slice (some ⟨q, 0, none⟩) m m) (List.replicate m nulV) ∧ Kp [] w wr)) (fun iv _ => m - (intOf iv).toNat)
 case atStart => exact ⟨n0, ⟨hn1, hn2⟩, rfl, H0⟩
 case round =>
  obtain ⟨k, ⟨hk1, hk2⟩, rfl, H⟩ := hrel;clear H0 hmk hcp HM
  by_cases hlt : k < m
  ·have s1 := fun W => sliceFromV (some ⟨q, 0, none⟩) m m k W hlt (Nat.le_refl _) q rfl
   have s2 := fun W => sliceToV q m m k W (by omega)
   have hsee : VE.See wr (some ⟨q, 0, none⟩) (List.replicate k nulV) := by
    obtain ⟨a', c', e, hs, _⟩ := H.out.1.see;rw [← (Value.slice.inj e).1] at hs;have := El.See.front hs k
    rwa [List.take_replicate, Nat.min_eq_left hk1] at this
   obtain ⟨W5, hcp5, hrow5, k5⟩ := cpyV 3 wr.drew q 0 m (List.replicate m nulV) (by rw [hl]; exact H.out.1.keptNew (Kp.refl _ _).drew) k (by rw [hl]; exact hk1) (some ⟨q, 0, none⟩) (List.replicate k nulV) m (m - k) (hsee.keptNew (Kp.refl _ _).drew)
   rw [hl] at hcp5 hrow5;rw [List.length_replicate] at hcp5 hrow5;obtain ⟨n1, hn1'⟩ : ∃ n1, Nat.min k (m - k) = n1 := ⟨_, rfl⟩
   have hn3 : 0 < n1 ∧ k + n1 ≤ m := by
    rw [← hn1'];show 0 < min k (m - k) ∧ k + min k (m - k) ≤ m
    omega
   rw [hn1'] at hcp5 hrow5
   have et : (List.replicate k nulV).take (m - k) = List.replicate n1 nulV := by
    rw [List.take_replicate, ← hn1', Nat.min_comm]
   rw [et, repl_take m k n1 hn3.2] at hrow5;rw [Nat.zero_add] at hcp5;have hqz := hqw.out
   have HF : Hid (VE.Row W5 (.slice (some ⟨q, 0, none⟩) m m) (List.replicate m nulV) ∧ Kp [] w W5) := hid ⟨hrow5, (H.out.2.trans (Kp.refl [] _).drew (by simp)).trans k5 (fun x hx => .inr (by simp at hx; omega))⟩
   have j1 : (k : Int) < (m : Int) := by omega
   have j2 : decide ((k : Int) < (m : Int)) = true := by simp; omega
   have j3 : (k : Int) + (n1 : Int) ≤ 9223372036854775807 := by omega
   have j4 : IntKind.i64.wrap ((k : Int) + (n1 : Int)) = ((k + n1 : Nat) : Int) := by rw [IntKind.wrap_i64]; omega
   clear hrow5 k5 et hsee hn1';go_wp2_with fail;refine wp_noPanicY ?_;refine wp_region_held_drew (S := fun _ => True) (by kernel_rfl) trivial (fun hHeld => ?_)
   refine tkH ?_ 0 rfl (by kernel_rfl) (fun _ _ _ h => by cases h.1) (by rfl) ?_ ‹_› ?_;rotate_left
   ·intro w h; (try dsimp only at h); go_simp <;> with_reducible rfl
   (try simp only [Act.put, lz]);refine tkH ?_ 1 rfl (by kernel_rfl) (fun _ _ _ h => by cases h.1) (by rfl) ?_ ‹_› ?_;rotate_left
   ·intro w h; (try dsimp only at h); go_simp <;> with_reducible rfl
   (try simp only [Act.put, lz]);refine tkH ?_ 2 rfl (by kernel_rfl) (fun _ _ _ h => by cases h.1) (by rfl) ?_ ‹_› ?_;rotate_left
   ·intro w h; (try dsimp only at h); go_simp <;> with_reducible rfl
   (try simp only [Act.put, lz]);refine tkH ?_ 4 rfl (by kernel_rfl) (fun _ _ _ h => by cases h.1) (by rfl) ?_ ‹_› ?_;rotate_left
   ·intro w h; (try dsimp only at h); go_simp <;> with_reducible rfl
   (try simp only [Act.put, lz]);refine tkH ?_ 5 rfl (by kernel_rfl) (fun _ _ _ h => by cases h.1) (by rfl) ?_ ‹_› ?_;rotate_left
   ·intro w h; (try dsimp only at h); go_simp <;> with_reducible rfl
   (try simp only [Act.put, lz]);refine tkH ?_ 3 rfl (by kernel_rfl) (fun _ _ _ h => by cases h.1) (by rfl) ?_ ‹_› ?_;rotate_left
   ·intro w h; (try dsimp only at h); go_simp <;> with_reducible rfl
   (try simp only [Act.put, lz]);refine tkH ?_ 6 rfl (by kernel_rfl) (fun _ _ _ h => by cases h.1) (by rfl) ?_ ‹_› ?_;rotate_left
   ·intro w h; (try dsimp only at h); go_simp <;> with_reducible rfl
   (try simp only [Act.put, lz]);refine rdH 7 (by kernel_rfl) rfl fun K hK => ?_
   refine stepCpyRun rfl _ _ 61 61 rfl _ _ _ rfl rfl hcp5 ?_;refine hK.out _ _ trivial (fun hHeld => ?_)
   clear hK K;(try simp only [Act.put, lz]);refine tkH ?_ 8 rfl (by kernel_rfl) (fun _ _ _ h => by cases h.1) (by rfl) ?_ ‹_› ?_;rotate_left
   ·intro w h; (try dsimp only at h); go_simp <;> with_reducible rfl
   (try simp only [Act.put, lz]);refine tkH ?_ 9 rfl (by kernel_rfl) (fun _ _ _ h => by cases h.1) (by rfl) ?_ ‹_› ?_;rotate_left
   ·intro w h; (try dsimp only at h); go_simp <;> with_reducible rfl
   (try simp only [Act.put, lz]);refine wpAnyH_done (by kernel_rfl) ⟨rfl, ?_⟩ _
   clear hHeld hcp5;go_wp2_with fail;go_roundw
   case rel => exact ⟨k + n1, by omega, by go_num, HF⟩
   case measure => simp [intOf]; omega
  ·have hk : k = m := by omega
   subst hk;have j2 : decide ((k : Int) < (k : Int)) = false := by simp
   go_wp2_with fail;go_ret;exact ⟨q, rfl, H.out.1, H.out.2, Nat.le_of_eq hqw.out⟩
theorem cFit (a : Option Addr) (c : Nat) (l : List Val) (m : Nat) (w : World) (hs : VE.See w a l) (hm : m ≤ 1000000000000) : Calls Tryz.prog 83 #[.slice a l.length c, .int .i64 (m : Int)] w (NewR (fitF l m) w) := by
 have HS := hid hs
 have cN := cNullE w
 clear hs;go_enter Tryz.func83, Tryz.ntmps83
 go_wp2_with fail;refine cN.mono ?_;rintro e w1 ⟨rfl, k1⟩;obtain ⟨W1, hW1⟩ : ∃ Y, w1.alloc (.cells #[.int .i64 0, .bool false, .int .i64 0, .string ⟨#[]⟩] 88) = Y := ⟨_, rfl⟩
 have kW1 : Kp [] w1 W1 := by rw [← hW1]; exact (Kp.refl _ _).alloc _
 have bW1 : Bn W1 w1.heap.size [.int .i64 0, .bool false, .int .i64 0, .string ⟨#[]⟩] := by rw [← hW1]; exact Bn.new w1 _ _
 have sW1 : VE.See W1 (some ⟨w1.heap.size, 0, none⟩) [nulV] := .inr ⟨_, 0, rfl, fun j u hu => by rw [Nat.zero_add]; exact bW1.get j u (by have h : VE.cs [nulV] = [.int .i64 0, .bool false, .int .i64 0, .string ⟨#[]⟩] := rfl; rw [h] at hu; exact hu)⟩
 have cR := hid (cRepeat w1.heap.size m W1 sW1 hm)
 have K1 := hid (k1.trans kW1 (by simp))
 clear bW1 sW1 kW1 k1 cN;go_wp2_with fail;refine cR.out.mono ?_;rintro e w2 ⟨q, rfl, hrow, k2, hq⟩;have kw2 := K1.out.trans k2 (by simp)
 obtain ⟨W2, hcp, hrow2, k3⟩ := cpyV 3 w2 q 0 m (List.replicate m nulV) (by rw [List.length_replicate]; exact hrow) 0 (Nat.zero_le _) a l c m (HS.out.keptNew kw2)
 have e1 : (List.replicate m nulV).take 0 ++ l.take ((List.replicate m nulV).length - 0) ++ (List.replicate m nulV).drop (0 + Nat.min l.length ((List.replicate m nulV).length - 0)) = fitF l m := by
  have h1 : Nat.min l.length m = min l.length m := rfl
  rw [fitF_eq, List.length_replicate, Nat.sub_zero, List.take_zero, List.nil_append, Nat.zero_add, List.drop_replicate, h1];congr 2
  omega
 rw [e1] at hrow2;rw [List.length_replicate] at hcp hrow2;simp only [Nat.zero_mul, Nat.add_zero, Nat.sub_zero] at hcp;have hz := K1.out.size
 have HF : Hid (NewR (fitF l m) w (.returned (.slice (some ⟨q, 0, none⟩) m m)) W2) := hid ⟨some ⟨q, 0, none⟩, m, by rw [fitF_len], by rw [fitF_len]; exact hrow2, kw2.trans k3 (fun x hx => .inr (by simp at hx; omega)), fun k hk => by simp [blk] at hk; omega⟩
 clear cR hrow hrow2 k2 k3 kw2 e1;go_wp2_with (first | (refine wpCpyRun rfl _ _ 61 61 rfl _ _ _ rfl rfl hcp ?_) | fail)
 go_ret;exact HF.out
theorem pickF_take {l : List Val} {ps : List Int} {j : Nat} (h : j < ps.length) : pickF l (ps.take (j + 1)) = pickF l (ps.take j) ++ [if ps[j] < 0 then nulV else l.getD ps[j].toNat nulV] := by
 unfold pickF
 rw [List.take_succ_eq_append_getElem h, List.map_append];rfl
theorem cPickF (a : Option Addr) (c : Nat) (l : List Val) (pa : Option Addr) (pc : Nat) (ps : List Int) (w : World) (ha : Vals w a l) (hl : l.length ≤ 9223372036854775807) (hp : IntE.See w pa ps) (hpl : ps.length ≤ 3000000000000) (hin : ∀ p ∈ ps, p < (l.length : Int)) :
  Calls Tryz.prog 87 #[.slice a l.length c, .slice pa ps.length pc] w (NewR (pickF l ps) w) := by
 have HA := hid ha
 have HP := hid hp
 have HI := hid hin
 obtain ⟨W, hmk, hr0, k0⟩ := makeV0 w ps.length hpl;have H0 : Hid (VE.Row W (.slice (some ⟨w.heap.size, 0, none⟩) 0 ps.length) [] ∧ Kp [] w W ∧ ∀ k ∈ blk (some (⟨w.heap.size, 0, none⟩ : Addr)), w.heap.size ≤ k) := ⟨hr0, k0, fun k hk => by simp [blk] at hk; omega⟩
 clear ha hp hr0 k0 hin;go_enter Tryz.func87, Tryz.ntmps87
 go_wp2_with fail;go_loopw [5, 13] (fun v5 i wr => ∃ (j : Nat) (ra : Option Addr) (rc : Nat) (m : List Val), j ≤ ps.length ∧ i = .int .i64 (j : Int) ∧ v5 = .slice ra m.length rc ∧ Hid (m = pickF l (ps.take j)) ∧ Hid (VE.Row wr (.slice ra m.length rc) m ∧ Kp [] w wr ∧ ∀ k ∈ blk ra, w.heap.size ≤ k)) (fun _ i _ => ps.length - (intOf i).toNat)
 case atStart => exact ⟨0, _, _, [], Nat.zero_le _, rfl, rfl, rfl, H0⟩
 case round =>
  obtain ⟨j, ra, rc, m, hj, rfl, rfl, hm, H⟩ := hrel;clear H0 hmk
  by_cases hlt : j < ps.length
  ·obtain ⟨g, o, ea, c0⟩ := intAt HP.out j hlt
   have cg := kpAt H.out.2.1 c0
   have hpt := hid (pickF_take (l := l) hlt)
   have hin := HI.out ps[j] (List.getElem_mem hlt)
   obtain ⟨p, hp⟩ : ∃ p, Hid (ps[j] = p) := ⟨ps[j], rfl⟩
   rw [hp.out] at cg hpt hin;have hml : m.length ≤ 3000000000000 := by rw [hm.out]; unfold pickF; simp; omega
   have i1 : (0 : Int) ≤ (j : Int) := by omega
   have i2 : (j : Int) < (ps.length : Int) := by omega
   have i3 : (j : Int) + 1 ≤ 9223372036854775807 := by omega
   subst ea;clear c0
   by_cases hneg : p < 0
   ·have cN := hid (cNullE wr)
    have d1 : decide (p < 0) = true := by simpa using hneg
    rw [if_pos hneg] at hpt;go_wp2_with fail;refine cN.out.mono ?_;rintro e wd ⟨rfl, kd⟩;obtain ⟨a4, c4, W4, hrun, hr4, k4, hn4⟩ := appV1 (H.out.1.keptNew kd) nulV hml;obtain ⟨m4, hm4⟩ : ∃ m4, Hid (m ++ [nulV] = m4) := ⟨_, rfl⟩
    rw [hm4.out] at hrun hr4;dsimp only [nulV] at hrun;have kwd := H.out.2.1.trans kd (by simp)
    have HF : Hid (VE.Row W4 (.slice a4 m4.length c4) m4 ∧ Kp [] w W4 ∧ ∀ k ∈ blk a4, w.heap.size ≤ k) := ⟨hr4, kwd.trans k4 (fun x hx => .inr (H.out.2.2 x hx)), fun k hk => by
     rcases hn4 k hk with e | e
     ·exact H.out.2.2 k e
     ·have := kwd.size; omega⟩
    have hm5 : Hid (m4 = pickF l (ps.take (j + 1))) := by show _ = _; rw [hpt.out, ← hm.out, hm4.out]
    clear cN kd hr4 k4 hn4 kwd;go_wp2_with (first | (refine wpAppRunY rfl _ _ 61 61 rfl _ _ _ rfl rfl hrun ?_) | fail)
    go_roundw
    case rel => exact ⟨j + 1, a4, c4, m4, by omega, by go_num, rfl, hm5, HF⟩
    case measure => simp [intOf]; omega
   ·obtain ⟨i, rfl⟩ := Int.eq_ofNat_of_zero_le (Int.not_lt.1 hneg)
    have hi : i < l.length := by omega
    have d1 : decide ((i : Int) < 0) = false := by simp
    rw [if_neg hneg, Int.toNat_natCast, List.getD_eq_getElem?_getD, List.getElem?_eq_getElem hi, Option.getD_some] at hpt;obtain ⟨g2, o2, ea2, x0, x1, x2, x3⟩ := (HA.out.kept H.out.2.1).at i hi;obtain ⟨v, hv⟩ : ∃ v, Hid (l[i] = v) := ⟨l[i], hid rfl⟩
    rw [hv.out] at x0 x1 x2 x3 hpt;obtain ⟨vk, vb, vn, vt⟩ := v;dsimp only at x0 x1 x2 x3;obtain ⟨a4, c4, W4, hrun, hr4, k4, hn4⟩ := appV1 H.out.1 ⟨vk, vb, vn, vt⟩ hml;obtain ⟨m4, hm4⟩ : ∃ m4, Hid (m ++ [(⟨vk, vb, vn, vt⟩ : Val)] = m4) := ⟨_, rfl⟩
    rw [hm4.out] at hrun hr4;dsimp only at hrun
    have HF : Hid (VE.Row W4 (.slice a4 m4.length c4) m4 ∧ Kp [] w W4 ∧ ∀ k ∈ blk a4, w.heap.size ≤ k) := ⟨hr4, H.out.2.1.trans k4 (fun x hx => .inr (H.out.2.2 x hx)), fun k hk => by
     rcases hn4 k hk with e | e
     ·exact H.out.2.2 k e
     ·have := H.out.2.1.size; omega⟩
    have hm5 : Hid (m4 = pickF l (ps.take (j + 1))) := by show _ = _; rw [hpt.out, ← hm.out, hm4.out]
    have i5 : (0 : Int) ≤ (i : Int) := by omega
    have i6 : (i : Int) < (l.length : Int) := by omega
    subst ea2;clear hr4 k4 hn4;go_wp2_with (first | (refine wpAppRunY rfl _ _ 61 61 rfl _ _ _ rfl rfl hrun ?_) | fail)
    go_roundw
    case rel => exact ⟨j + 1, a4, c4, m4, by omega, by go_num, rfl, hm5, HF⟩
    case measure => simp [intOf]; omega
  ·have hmm : m = pickF l ps := by rw [hm.out, show j = ps.length by omega, List.take_length]
   have dj1 : ¬ (j : Int) < (ps.length : Int) := by omega
   have dj2 : decide ((j : Int) < (ps.length : Int)) = false := by simp; omega
   subst hmm;go_wp2_with fail;go_ret;exact ⟨ra, rc, rfl, H.out.1, H.out.2.1, H.out.2.2⟩
theorem find_first {α : Type} (p : α → Bool) (B : List α) (k : Nat) (hk : k < B.length) (h : ∀ i (hi : i < B.length), i < k → p B[i] = false) (hp : p B[k] = true) : B.find? p = some B[k] := by
 have e : B = B.take k ++ B[k] :: B.drop (k + 1) := by rw [← List.drop_eq_getElem_cons hk, List.take_append_drop]
 have h0 : (B.take k).find? p = none := List.find?_eq_none.2 fun x hx => by
  obtain ⟨i, hi, rfl⟩ := List.getElem_of_mem hx;rw [List.length_take] at hi;rw [List.getElem_take];simp [h i (by omega) (by omega)]
 have : (B.take k ++ B[k] :: B.drop (k + 1)).find? p = some B[k] := by
  rw [List.find?_append, h0, Option.none_or, List.find?_cons_of_pos hp]
 rw [← e] at this;exact this
theorem rowId : (70 : TypeId) < Tryz.prog.types.size := of_decide_eq_true (by kernel_rfl)
theorem wideId : (match Tryz.prog.underlying 70 with | some (.array _ _) | some (.struct _) => true | _ => false) = true := by rw [Tryz.underlying70]
theorem lawId : Maps.Keyed Tryz.prog 70 := Maps.Keyed.of_law (deep_law_laid Tryz.laidOut (m := 2) (by omega) rowId (by kernel_rfl) wideId)
theorem zeroI (w : World) : (zeroValue 3).run Tryz.prog w = .ok (.int .i64 0) w := by kernel_rfl
theorem keyId (e n : Int) (he : 0 ≤ e ∧ e < 18446744073709551616) (hn : 0 ≤ n ∧ n < 4294967296) : ∃ kl, keyOf Tryz.prog 70 (.agg #[.int .u64 e, .int .u32 n]) = some kl := by
 have h1 : (Lit.int .u64 e).wf = true := by simp [Lit.wf, IntKind.min, IntKind.max, IntKind.bits, IntKind.signed]; omega
 have h2 : (Lit.int .u32 n).wf = true := by simp [Lit.wf, IntKind.min, IntKind.max, IntKind.bits, IntKind.signed]; omega
 have hsz : ∀ s : Nat, 0 < s → ∃ m, s = m + 1 := fun s h => ⟨s - 1, by omega⟩
 obtain ⟨m, hm⟩ := hsz Tryz.prog.types.size (Nat.lt_of_le_of_lt (Nat.zero_le _) rowId);have hk : Tryz.prog.keyType 70 = true := by kernel_rfl
 have hc : Tryz.prog.cellsOf 70 = 2 := by kernel_rfl
 have hc1 : Tryz.prog.cellsOf 57 = 1 := by kernel_rfl
 have hc2 : Tryz.prog.cellsOf 68 = 1 := by kernel_rfl
 have hf : (Value.agg #[.int .u64 e, .int .u32 n]).formed Tryz.prog 70 = true := by simp [Value.formed, Tryz.underlying70, hc]
 unfold keyOf
 rw [Tryz.underlying70];simp only [hk, hf, Bool.and_self, if_true, hm];simp [Program.keyLits, Tryz.underlying70, Tryz.underlying57, Tryz.underlying68, hc, hc1, hc2, Value.cells, h1, h2]
theorem mkMap (n : Nat) (w : World) : (Instr.makeMap 156 (some (.int .i64 (n : Int)))).run Tryz.prog w = .ok (.map (some w.heap.size)) (w.alloc (.map #[] 0)) := by
 simp [Instr.makeMap, run_underlying Tryz.underlying156, go_sem]
def fi (B : List Vr) (e n : Int) : Option Nat := B.findIdx? fun b => decide ((b.e, b.n) = (e, n))
theorem fi_snoc (L : List Vr) (x : Vr) (e n : Int) : fi (L ++ [x]) e n = (fi L e n).or (if decide ((x.e, x.n) = (e, n)) then some L.length else none) := by
 unfold fi
 rw [List.findIdx?_append];congr 1
 by_cases h : decide ((x.e, x.n) = (e, n)) = true
 ·simp only [List.findIdx?_cons, h, if_true, Option.map_some, Nat.zero_add]
 ·simp only [List.findIdx?_cons, h, List.findIdx?_nil, Option.map_none]
  simp
theorem fi_some {B : List Vr} {e n : Int} {i : Nat} (h : fi B e n = some i) : ∃ hi : i < B.length, (B.find? fun b => decide ((b.e, b.n) = (e, n))) = some B[i] := by
 obtain ⟨hi, hp, hn⟩ := List.findIdx?_eq_some_iff_getElem.1 h;exact ⟨hi, find_first _ B i hi (fun k hk hki => by have := hn k hki; simpa using this) hp⟩
theorem fi_none {B : List Vr} {e n : Int} (h : fi B e n = none) : (B.find? fun b => decide ((b.e, b.n) = (e, n))) = none := by
 have := List.findIdx?_eq_none_iff.1 h
 exact List.find?_eq_none.2 fun x hx h => Bool.noConfusion ((this x hx).symm.trans h)
def MapOk (D : DataW Unit) (B : List Vr) : Prop := ∀ (e n : Int) (kl : Lit), keyOf Tryz.prog 70 (.agg #[.int .u64 e, .int .u32 n]) = some kl → (∀ i, fi B e n = some i → Maps.has D kl = true ∧ D.atKey kl (.lit (.int .i64 0)) = .lit (.int .i64 ((i : Nat) : Int))) ∧ (fi B e n = none → Maps.has D kl = false)
theorem MapOk.nil : MapOk (.map []) [] := fun e n kl _ => ⟨fun i h => (by cases h), fun _ => rfl⟩
theorem MapOk.put {D : DataW Unit} {L : List Vr} (h : MapOk D L) (hD : Maps.IsMap D) {x : Vr} {kl : Lit} (hk : keyOf Tryz.prog 70 (.agg #[.int .u64 x.e, .int .u32 x.n]) = some kl) (hn : fi L x.e x.n = none) : MapOk (D.put kl (.lit (.int .i64 ((L.length : Nat) : Int)))) (L ++ [x]) := fun e n kl' hk' => by
 rw [fi_snoc]
 by_cases he : (x.e, x.n) = (e, n)
 ·have e1 : x.e = e := congrArg Prod.fst he
  have e2 : x.n = n := congrArg Prod.snd he
  subst e1 e2;rw [hk] at hk'
  cases hk'
  rw [hn];simp only [decide_true, if_true, Option.none_or];exact ⟨fun i hi => by cases hi; exact ⟨Maps.has_put_same hD (lawId.key hk) _, Maps.atKey_put_same hD (lawId.key hk) _ _⟩, fun hi => (by cases hi)⟩
 ·have hne : kl' ≠ kl := fun e' => he (by
   rw [e'] at hk';have := lawId.inj hk hk'
   simp at this
   rw [this.1, this.2])
  simp only [he, decide_false, Bool.false_eq_true, if_false, Option.or_none];rw [Maps.has_put_other hne, Maps.atKey_put_other hne];exact h e n kl' hk'
theorem MapOk.skip {D : DataW Unit} {L : List Vr} (h : MapOk D L) {x : Vr} {i0 : Nat} (hn : fi L x.e x.n = some i0) : MapOk D (L ++ [x]) := fun e n kl' hk' => by
 rw [fi_snoc]
 by_cases he : (x.e, x.n) = (e, n)
 ·have e1 : x.e = e := congrArg Prod.fst he
  have e2 : x.n = n := congrArg Prod.snd he
  subst e1 e2;have := h _ _ kl' hk'
  rw [hn] at this ⊢;simpa using this
 ·simp only [he, decide_false, Bool.false_eq_true, if_false, Option.or_none]
  exact h e n kl' hk'
theorem kpGrownM {X Y : World} {b : Nat} (h : X.grownBy Y (some b)) : Kp [b] X Y := ⟨h.os, h.tape, h.output, h.size, fun k hk hn => h.block k hk (fun e => hn (by simpa using e))⟩
abbrev OwnM (w : World) (q n : Nat) (D : DataW Unit) : Prop := w.ownsMap Tryz.prog 70 (plainElem Tryz.prog 3) q n D
theorem ownKept {X Y : World} {S : List Nat} {q n : Nat} {D : DataW Unit} (h : OwnM X q n D) (k : Kp S X Y) (hq : q ∉ S) : OwnM Y q n D := by
 obtain ⟨es, cl, hb, r⟩ := h;exact ⟨es, cl, (k.block q (Array.getElem?_eq_some_iff.1 hb).1 hq).trans hb, r⟩
theorem boxVr (w : World) (e n : Int) (a : Option Addr) (l c : Nat) (d : Int) : ∃ q W1 W2, w.heap.size = q ∧ w.alloc (.cells #[.int .u64 0, .int .u32 0, .slice none 0 0, .int .u64 0] 80) = W1 ∧ Bn W1 q [.int .u64 0, .int .u32 0, .slice none 0 0, .int .u64 0] ∧ (((W1.setCell ⟨q, 0, none⟩ (.int .u64 e)).setCell ⟨q, 1, none⟩ (.int .u32 n)).setCell ⟨q, 2, none⟩ (.slice a l c)).setCell ⟨q, 3, none⟩ (.int .u64 d) = W2 ∧ Bn W2 q [.int .u64 e, .int .u32 n, .slice a l c, .int .u64 d] ∧ Kp [] w W2 := by
 have b0 := Bn.new w [.int .u64 0, .int .u32 0, .slice none 0 0, .int .u64 0] 80
 have k0 : Kp [] w (w.alloc (.cells #[.int .u64 0, .int .u32 0, .slice none 0 0, .int .u64 0] 80)) := (Kp.refl _ _).alloc _
 have h : w.heap.size ∈ ([] : List Nat) ∨ w.heap.size ≤ w.heap.size := .inr (Nat.le_refl _)
 exact ⟨_, _, _, rfl, rfl, b0, rfl, (((b0.set 0 (by simp) (.int .u64 e)).set 1 (by simp) (.int .u32 n)).set 2 (by simp) (.slice a l c)).set 3 (by simp) (.int .u64 d), (((k0.setCell h _).setCell h _).setCell h _).setCell h _⟩
theorem cRejoin (a b : Option Addr) (ca cb : Nat) (A B : List Vr) (w : World) (ha : VrE.See w a A) (hb : VrE.See w b B) (hA : ∀ x ∈ A, Vr.lies w x) (hB : ∀ x ∈ B, Vr.lies w x) (hl : A.length ≤ 1048576) (hm : B.length ≤ 1048576) (hAl : ∀ x ∈ A, x.l.length ≤ 1048576) (hBl : ∀ x ∈ B, x.l.length ≤ 1048576) :
  Calls Tryz.prog 48 #[.slice a A.length ca, .slice b B.length cb] w (LovP (rejR A B) w) := by
 have HA := hid ha
 have HB := hid hb
 have HLA := hid hA
 have HLB := hid hB
 have hAl' := hid hAl
 have hBl' := hid hBl
 obtain ⟨w1, hw1, k1⟩ : ∃ x, w.alloc (.map #[] 0) = x ∧ Kp [] w x := ⟨_, rfl, (Kp.refl _ _).alloc _⟩
 obtain ⟨qm, hqm⟩ : ∃ q, w.heap.size = q := ⟨_, rfl⟩
 have hmm := mkMap B.length w
 rw [hw1, hqm] at hmm;have own1 : OwnM w1 qm 0 (.map []) := by rw [← hw1, ← hqm]; exact World.ownsMap_made _ _ _ _
 have H0 : Hid (OwnM w1 qm 0 (.map []) ∧ MapOk (.map []) (B.take 0) ∧ Kp [] w w1) := ⟨own1, MapOk.nil, k1⟩
 clear ha hb hA hB hAl hBl own1 k1;go_enter Tryz.func48, Tryz.ntmps48
 go_wp2_with fail;go_loopw [20] (fun i wr => ∃ (j : Nat) (D : DataW Unit), j ≤ B.length ∧ i = .int .i64 (j : Int) ∧ Hid (OwnM wr qm j D ∧ MapOk D (B.take j) ∧ Kp [] w wr)) (fun i _ => B.length - (intOf i).toNat)
 case atStart => exact ⟨0, _, Nat.zero_le _, rfl, H0⟩
 case round =>
  obtain ⟨j, D, hj, rfl, H⟩ := hrel;clear H0
  by_cases hlt : j < B.length
  ·obtain ⟨g, o, ea, x0, x1, x2, x3⟩ := vrAt HB.out (j := j) (x := B[j]) (by simp [hlt])
   have hxli := HLB.out B[j] (List.getElem_mem hlt)
   have htk : Hid (B.take (j + 1) = B.take j ++ [B[j]]) := List.take_succ_eq_append_getElem hlt
   have htl : Hid ((B.take j).length = j) := by show _ = _; rw [List.length_take]; omega
   obtain ⟨x, hx⟩ : ∃ x, Hid (B[j] = x) := ⟨B[j], rfl⟩
   rw [hx.out] at x0 x1 x2 x3 hxli htk;obtain ⟨xe, xn, xa, xc, xl, xd⟩ := x;dsimp only at x0 x1 x2 x3;obtain ⟨kl, hkl⟩ := keyId xe xn hxli.e hxli.n;obtain ⟨q7, W1, W2, eq7, eW1, b1, eW2, b2, kW2⟩ := boxVr wr xe xn xa xl.length xc xd;have g0 := kpAt H.out.2.2 x0; have g1 := kpAt H.out.2.2 x1; have g2 := kpAt H.out.2.2 x2; have g3 := kpAt H.out.2.2 x3
   have m0 := b1.get 0 _ rfl; have m1 := b1.get 1 _ rfl; have m2 := b1.get 2 _ rfl; have m3 := b1.get 3 _ rfl
   have f0 := b1.free 0; have f1 := b1.free 1; have f2 := b1.free 2; have f3 := b1.free 3
   have v0 := b2.get 0 _ rfl; have v1 := b2.get 1 _ rfl; have v2 := b2.get 2 _ rfl; have v3 := b2.get 3 _ rfl
   have own2 : OwnM W2 qm j D := ownKept H.out.1 kW2 (by simp)
   have KW2 := hid (H.out.2.2.trans kW2 (by simp))
   have i1 : (0 : Int) ≤ (j : Int) := by omega
   have i2 : (j : Int) < (B.length : Int) := by omega
   have i3 : (j : Int) + 1 ≤ 9223372036854775807 := by omega
   have hqmw : w.heap.size ≤ qm := by omega
   have hmk := H.out.2.1 xe xn kl hkl
   subst ea;clear x0 x1 x2 x3 b1 b2 kW2 hxli
   cases hfi : fi (B.take j) xe xn with
   | some i0 =>
    obtain ⟨hh, hat0⟩ := hmk.1 i0 hfi;have HM2 : Hid (OwnM W2 qm (j + 1) D ∧ MapOk D (B.take (j + 1)) ∧ Kp [] w W2) := ⟨own2.mono (Nat.le_succ _), by rw [htk.out]; exact H.out.2.1.skip hfi, KW2.out⟩
    have hfi' := hid hfi
    have hat' := hid hat0
    clear hmk hfi hat0;go_wp2_with (first | (at_lookup; refine wpList_lookup_own_ok_int _ rfl _ _ 156 rfl 70 3 .i64 lawId Tryz.underlying156 Tryz.underlying3 (zeroI _) qm j D rfl own2 _ kl rfl hkl ?_; intro c hat hwc; rw [hh]; clear hat hwc) | fail)
    go_roundw
    case rel => exact ⟨j + 1, D, by omega, by go_num, HM2⟩
    case measure => simp [intOf]; omega
   | none =>
    have hh := hmk.2 hfi
    have hfi' := hid hfi
    have hval : plainElem (H := Unit) Tryz.prog 3 (.int .i64 (j : Int)) = some (.lit (.int .i64 (j : Int)), []) := plainElem_int Tryz.underlying3 (by simp [Lit.wf, IntKind.min, IntKind.max, IntKind.bits, IntKind.signed]; omega)
    clear hmk hfi;go_wp2_with (first | (at_lookup; refine wpList_lookup_own_ok_int _ rfl _ _ 156 rfl 70 3 .i64 lawId Tryz.underlying156 Tryz.underlying3 (zeroI _) qm j D rfl own2 _ kl rfl hkl ?_; intro c hat hwc; rw [hh]; clear hat hwc) | (at_mapUpdate; refine wpList_mapUpdate_own _ rfl _ _ _ 156 rfl 70 3 lawId Tryz.underlying156 _ qm j _ rfl own2 (by unfold maxLen; omega) _ _ kl rfl rfl hkl _ [] hval ?_; intro w5 own5 hg5) | fail)
    exact ⟨⟨j + 1, _, by omega, by go_num, ⟨own5, by rw [htk.out]; have h1 := H.out.2.1.put own2.isMap (x := ⟨xe, xn, xa, xc, xl, xd⟩) hkl hfi'.out; rw [htl.out] at h1; exact h1, KW2.out.trans (kpGrownM hg5) (fun x hx => .inr (by simp at hx; omega))⟩⟩, by simp [intOf]; omega⟩
  ·obtain ⟨w9, hw9⟩ : ∃ x, x = wr := ⟨_, rfl⟩
   subst hw9;have hje : j = B.length := by omega
   have HM : Hid (OwnM w9 qm j D ∧ MapOk D B ∧ Kp [] w w9) := ⟨H.out.1, by have h1 := H.out.2.1; rw [hje, List.take_length] at h1; exact h1, H.out.2.2⟩
   have hqr : qm < w9.heap.size := H.out.1.lt
   have dj1 : ¬ (j : Int) < (B.length : Int) := by omega
   have dj2 : decide ((j : Int) < (B.length : Int)) = false := by simp; omega
   have H1 : Hid (Lov w9.heap.size none 0 [] w9 ∧ OwnM w9 qm j D ∧ Kp [] w9 w9) := ⟨Lov.nil _ _, H.out.1, Kp.refl _ _⟩
   have hje' := hid hje
   clear hje H;go_wp2_with fail;go_loopw [10, 41] (fun v10 i w2 => ∃ (k : Nat) (ra : Option Addr) (rc : Nat) (m : List Vr), k ≤ A.length ∧ i = .int .i64 (k : Int) ∧ v10 = .slice ra m.length rc ∧ Hid (m.map Vr.pr = rejR (A.take k) B) ∧ Hid (Lov w9.heap.size ra rc m w2 ∧ OwnM w2 qm j D ∧ Kp [] w9 w2)) (fun _ i _ => A.length - (intOf i).toNat)
   case atStart => exact ⟨0, none, 0, [], Nat.zero_le _, rfl, rfl, rfl, H1⟩
   case round =>
    obtain ⟨k, ra, rc, m, hk, rfl, rfl, hme, H⟩ := hrel;clear H1
    have hml : m.length ≤ k := by
     have h1 := congrArg List.length hme.out
     have h2 := List.length_filterMap_le (rejO B) (A.take k)
     unfold rejR at h1
     rw [List.length_map] at h1;rw [List.length_take] at h2;omega
    have KWr := hid (HM.out.2.2.trans H.out.2.2 (by simp))
    by_cases hlt : k < A.length
    ·have hsn := hid (rejR_snoc (B := B) hlt)
     obtain ⟨g, o, ea, x0, x1, x2, x3⟩ := vrAt HA.out (j := k) (x := A[k]) (by simp [hlt])
     have hxli := hid (HLA.out A[k] (List.getElem_mem hlt))
     have hxl := hAl'.out A[k] (List.getElem_mem hlt)
     obtain ⟨x, hx⟩ : ∃ x, Hid (A[k] = x) := ⟨A[k], rfl⟩
     rw [hx.out] at x0 x1 x2 x3 hxli hxl hsn;obtain ⟨xe, xn, xa, xc, xl, xd⟩ := x;dsimp only at x0 x1 x2 x3 hxl;obtain ⟨kl, hkl⟩ := keyId xe xn hxli.out.e hxli.out.n;obtain ⟨q12, W1, W2, eq12, eW1, b1, eW2, b2, kW2⟩ := boxVr wr xe xn xa xl.length xc xd;have g0 := kpAt KWr.out x0; have g1 := kpAt KWr.out x1; have g2 := kpAt KWr.out x2; have g3 := kpAt KWr.out x3
     have m0 := b1.get 0 _ rfl; have m1 := b1.get 1 _ rfl; have m2 := b1.get 2 _ rfl; have m3 := b1.get 3 _ rfl
     have f0 := b1.free 0; have f1 := b1.free 1; have f2 := b1.free 2; have f3 := b1.free 3
     have v0 := b2.get 0 _ rfl; have v1 := b2.get 1 _ rfl; have v2 := b2.get 2 _ rfl; have v3 := b2.get 3 _ rfl
     have own2 : OwnM W2 qm j D := ownKept H.out.2.1 kW2 (by simp)
     have K9 := hid (H.out.2.2.trans kW2 (by simp))
     have KW2 := hid (KWr.out.trans kW2 (by simp))
     have HL2 := hid (H.out.1.ck (CK.ofKp kW2) (by simp) (by simp))
     have BB := hid b2
     have i1 : (0 : Int) ≤ (k : Int) := by omega
     have i2 : (k : Int) < (A.length : Int) := by omega
     have i3 : (k : Int) + 1 ≤ 9223372036854775807 := by omega
     have hmk := HM.out.2.1 xe xn kl hkl
     have OWN := hid own2
     have hml' := hid hml
     have zq : q12 < W2.heap.size := b2.lt (by simp)
     have zq9 : w9.heap.size ≤ q12 := by have := H.out.2.2.size; omega
     subst ea;clear x0 x1 x2 x3 b1 b2 kW2 hml
     cases hfi : fi B xe xn with
     | none =>
      have hh := hmk.2 hfi
      have hm5 : Hid (m.map Vr.pr = rejR (A.take (k + 1)) B) := by
       show _ = _
       rw [hsn.out, hme.out, rejO, fi_none hfi];simp
      have HF : Hid (Lov w9.heap.size ra rc m W2 ∧ OwnM W2 qm j D ∧ Kp [] w9 W2) := ⟨HL2.out, own2, K9.out⟩
      clear hmk hfi;go_wp2_with (first | (at_lookup; refine wpList_lookup_own_ok_int _ rfl _ _ 156 rfl 70 3 .i64 lawId Tryz.underlying156 Tryz.underlying3 (zeroI _) qm j D rfl own2 _ kl rfl hkl ?_; intro c hat hwc; rw [hh]; clear hat hwc) | fail)
      go_roundw
      case rel => exact ⟨k + 1, ra, rc, m, by omega, by go_num, rfl, hm5, HF⟩
      case measure => simp [intOf]; omega
     | some i0 =>
      obtain ⟨hh, hat0⟩ := hmk.1 i0 hfi;obtain ⟨hi0, hfd⟩ := fi_some hfi;obtain ⟨gb, ob, eb, y0, y1, y2, y3⟩ := vrAt HB.out (j := i0) (x := B[i0]) (by simp [hi0])
      have hyli := hid (HLB.out B[i0] (List.getElem_mem hi0))
      have hyl := hBl'.out B[i0] (List.getElem_mem hi0)
      have hm5 : Hid (∀ z : Vr, z.pr = (xe, xn, xl ++ B[i0].l, xd) → (m ++ [z]).map Vr.pr = rejR (A.take (k + 1)) B) := fun z hz => by
       rw [hsn.out, List.map_append, hme.out, rejO, hfd, List.map_cons, hz];rfl
      obtain ⟨y, hy⟩ : ∃ y, Hid (B[i0] = y) := ⟨B[i0], rfl⟩
      rw [hy.out] at y0 y1 y2 y3 hyli hyl;simp only [hy.out] at hm5;obtain ⟨ye, yn, ya, yc, yl, yd⟩ := y;dsimp only at y0 y1 y2 y3 hyl hm5;have HC : Hid (∀ W', Kp [] W2 W' → W'.cell? ⟨q12, 0, none⟩ = some (.int .u64 xe) ∧ W'.cell? ⟨q12, 1, none⟩ = some (.int .u32 xn) ∧ W'.cell? ⟨q12, 2, none⟩ = some (.slice xa xl.length xc) ∧ W'.cell? ⟨q12, 3, none⟩ = some (.int .u64 xd) ∧ W'.cell? ⟨gb, ob + i0 * 4 + 2, none⟩ = some (.slice ya yl.length yc)) := fun W' q => ⟨(BB.out.kept q).get 0 _ rfl, (BB.out.kept q).get 1 _ rfl, (BB.out.kept q).get 2 _ rfl, (BB.out.kept q).get 3 _ rfl, kpAt (KW2.out.trans q (by simp)) y2⟩
      have HYB := hid y2
      have j1 : (0 : Int) ≤ (i0 : Int) := by omega
      have j2 : (i0 : Int) < (B.length : Int) := by omega
      subst eb;clear hmk hfi y0 y1 y2 y3 hfd;go_wp2_with (first | (at_lookup; refine wpList_lookup_own_ok_int _ rfl _ _ 156 rfl 70 3 .i64 lawId Tryz.underlying156 Tryz.underlying3 (zeroI _) qm j D rfl own2 _ kl rfl hkl ?_; intro c hat hwc; rw [hat0] at hat; obtain rfl : (i0 : Int) = c := (by simpa using hat); rw [hh]; clear hat hwc) | fail)
      refine wp_noPanicY ?_;refine wp_region_held_drew (S := fun W' => W'.cell? ⟨q12, 0, none⟩ = some (.int .u64 xe) ∧ W'.cell? ⟨q12, 1, none⟩ = some (.int .u32 xn) ∧ W'.cell? ⟨q12, 2, none⟩ = some (.slice xa xl.length xc) ∧ W'.cell? ⟨q12, 3, none⟩ = some (.int .u64 xd) ∧ W'.cell? ⟨gb, ob + i0 * 4 + 2, none⟩ = some (.slice ya yl.length yc)) (by kernel_rfl) (HC.out _ (Kp.refl [] W2).drew) (fun hHeld => ?_)
      have KD : Hid (Kp [] W2 W2.drew) := hid (Kp.refl _ _).drew
      generalize W2.drew = wd at *
      refine tkH ?_ 0 rfl (by kernel_rfl) (fun _ _ _ h => by cases h.1) (by rfl) ?_ ‹_› ?_;rotate_left
      ·intro w h; (try dsimp only at h); go_simp <;> with_reducible rfl
      (try simp only [Act.put, lz]);refine tkH ?_ 1 rfl (by kernel_rfl) (fun _ _ _ h => by cases h.1) (by rfl) ?_ ‹_› ?_;rotate_left
      ·intro w h; (try dsimp only at h); go_simp <;> with_reducible rfl
      (try simp only [Act.put, lz]);refine tkH ?_ 2 rfl (by kernel_rfl) (fun _ _ _ h => by cases h.1) (by rfl) ?_ ‹_› ?_;rotate_left
      ·intro w h; (try dsimp only at h); go_simp <;> with_reducible rfl
      (try simp only [Act.put, lz]);refine tkH ?_ 3 rfl (by kernel_rfl) (fun _ _ _ h => by cases h.1) (by rfl) ?_ ‹_› ?_;rotate_left
      ·intro w h; (try dsimp only at h); go_simp <;> with_reducible rfl
      (try simp only [Act.put, lz]);refine tkH ?_ 4 rfl (by kernel_rfl) (fun _ _ _ h => by cases h.1) (by rfl) ?_ ‹_› ?_;rotate_left
      ·intro w h; (try dsimp only at h); go_simp <;> with_reducible rfl
      (try simp only [Act.put, lz]);refine tkH ?_ 5 rfl (by kernel_rfl) (fun _ _ _ h => by cases h.1) (by rfl) ?_ ‹_› ?_;rotate_left
      ·intro w h; (try dsimp only at h); go_simp <;> with_reducible rfl
      (try simp only [Act.put, lz]);refine tkH ?_ 6 rfl (by kernel_rfl) (fun _ _ _ h => by cases h.1) (by rfl) ?_ ‹_› ?_;rotate_left
      ·intro w h; (try dsimp only at h); go_simp <;> with_reducible rfl
      (try simp only [Act.put, lz]);refine tkH ?_ 7 rfl (by kernel_rfl) (fun _ _ _ h => by cases h.1) (by rfl) ?_ ‹_› ?_;rotate_left
      ·intro w h; (try dsimp only at h); go_simp <;> with_reducible rfl
      (try simp only [Act.put, lz]);refine tkH ?_ 8 rfl (by kernel_rfl) (fun _ _ _ h => by cases h.1) (by rfl) ?_ ‹_› ?_;rotate_left
      ·intro w h; (try dsimp only at h); go_simp <;> with_reducible rfl
      (try simp only [Act.put, lz]);refine tkH ?_ 9 rfl (by kernel_rfl) (fun _ _ _ h => by cases h.1) (by rfl) ?_ ‹_› ?_;rotate_left
      ·intro w h; (try dsimp only at h); go_simp <;> with_reducible rfl
      (try simp only [Act.put, lz]);refine tkH ?_ 12 rfl (by kernel_rfl) (fun _ _ _ h => by cases h.1) (by rfl) ?_ ‹_› ?_;rotate_left
      ·intro w h; (try dsimp only at h); go_simp <;> with_reducible rfl
      (try simp only [Act.put, lz]);refine tkH ?_ 13 rfl (by kernel_rfl) (fun _ _ _ h => by cases h.1) (by rfl) ?_ ‹_› ?_;rotate_left
      ·intro w h; (try dsimp only at h); go_simp <;> with_reducible rfl
      (try simp only [Act.put, lz]);have hWb0 := hid (KD.out.alloc (.cells #[.slice xa xl.length xc, .slice ya yl.length yc] 61))
      obtain ⟨Wb, hWb⟩ : ∃ Y, wd.alloc (.cells #[.slice xa xl.length xc, .slice ya yl.length yc] 61) = Y := ⟨_, rfl⟩
      rw [hWb] at hWb0;obtain ⟨qb, hqb⟩ : ∃ q, wd.heap.size = q := ⟨_, rfl⟩
      have bb : Bn Wb qb [.slice xa xl.length xc, .slice ya yl.length yc] := by rw [← hWb, ← hqb]; exact Bn.new wd _ _
      have sb : VsE.See Wb (some ⟨qb, 0, none⟩) [⟨xa, xc, xl⟩, ⟨ya, yc, yl⟩] := .inr ⟨qb, 0, rfl, fun j u hu => by rw [Nat.zero_add]; exact bb.get j u (by simpa [El.cs, VsE] using hu)⟩
      have kwb := KW2.out.trans hWb0.out (by simp)
      have cCt := hid (cConcat (some ⟨qb, 0, none⟩) 2 [⟨xa, xc, xl⟩, ⟨ya, yc, yl⟩] Wb sb (fun x hx => by
       have ckb := CK.ofKp kwb
       rcases List.mem_cons.1 hx with rfl | hx
       ·exact hxli.out.r.ck ckb (by simp)
       ·rw [List.mem_singleton.1 hx]; exact hyli.out.r.ck ckb (by simp)) (by simp) (by simp [sumL]; omega))
      have ecat : catL [(⟨xa, xc, xl⟩ : Vs), ⟨ya, yc, yl⟩] = xl ++ yl := by simp [catL]
      rw [ecat] at cCt;obtain ⟨zl, hzl⟩ : ∃ z, Hid (xl ++ yl = z) := ⟨_, rfl⟩
      rw [hzl.out] at cCt hm5;have sWb := HC.out _ hWb0.out
      clear bb sb ecat kwb;refine rdH 10 (by kernel_rfl) rfl fun K hK => ?_
      go_simp;(try go_wp2_with fail);refine hK.out _ _ (sWb) (fun hHeld => ?_)
      clear hK K;(try simp only [Act.put, lz]);refine rdH 11 (by kernel_rfl) rfl fun K hK => ?_
      go_simp;refine cCt.out.mono ?_;rintro e wz ⟨za, zc, rfl, hzr, kz, hzb⟩;(try go_wp2_with fail);refine hK.out _ _ (HC.out _ (hWb0.out.trans kz (by simp))) (fun hHeld => ?_)
      clear hK K;(try simp only [Act.put, lz]);refine tkH ?_ 14 rfl (by kernel_rfl) (fun _ _ _ h => by cases h.1) (by rfl) ?_ ‹_› ?_;rotate_left
      ·intro w h; (try dsimp only at h); go_simp <;> with_reducible rfl
      (try simp only [Act.put, lz]);have KZ := hid (hWb0.out.trans kz (by simp))
      have K9Z := hid (K9.out.trans KZ.out (by simp))
      have hlz : Lov w9.heap.size ra rc m wz := HL2.out.ck (CK.ofKp KZ.out) (by simp) (by simp)
      have hsz := hWb0.out.size
      have hs9 := K9.out.size
      obtain ⟨a4, c4, W4, hrun, hl4, k4, hn4⟩ := hlz.app ⟨xe, xn, za, zc, zl, xd⟩ ⟨rowLies hzr, hxli.out.e, hxli.out.n⟩ K9Z.out.size (fun k hk => ⟨by have := hzb k hk; omega, hzr.lt k (by rw [ownV]; exact hk), fun hm' => by have := hzb k hk; have := HL2.out.lt k hm'; omega⟩) (by have := hml'.out; omega)
      have hm6 : Hid ((m ++ [(⟨xe, xn, za, zc, zl, xd⟩ : Vr)]).map Vr.pr = rejR (A.take (k + 1)) B) := hm5.out _ rfl
      obtain ⟨m4, hm4⟩ : ∃ m4, Hid (m ++ [(⟨xe, xn, za, zc, zl, xd⟩ : Vr)] = m4) := ⟨_, rfl⟩
      rw [hm4.out] at hrun hl4 hm6;dsimp only at hrun;have hbra : ∀ x ∈ blk ra, w9.heap.size ≤ x := hlz.own
      have own4 : OwnM W4 qm j D := ownKept (ownKept own2 KZ.out (by simp)) k4 (fun hm' => by have := hbra qm hm'; omega)
      have HF : Hid (Lov w9.heap.size a4 c4 m4 W4 ∧ OwnM W4 qm j D ∧ Kp [] w9 W4) := ⟨hl4, own4, K9Z.out.trans k4 (fun x hx => .inr (hbra x hx))⟩
      have kS4 : Kp (blk ra) W2 W4 := (KZ.out.mono (T := blk ra) (by simp)).trans k4 (fun j hj => .inl hj)
      have hq12ra : q12 ∉ blk ra := fun hm' => by have h1 := H.out.1.lt q12 hm'; omega
      have hgbra : gb ∉ blk ra := fun hm' => by have h1 := hbra gb hm'; have h2 : gb < w.heap.size := World.block_lt_of_cell? _ _ (HYB.out); have h3 := HM.out.2.2.size; omega
      have sA := HC.out _ (KZ.out.alloc (.cells #[.int .u64 xe, .int .u32 xn, .slice za zl.length zc, .int .u64 xd] 80))
      have s0 := HC.out _ (Kp.refl [] W2)
      have s4 : W4.cell? ⟨q12, 0, none⟩ = some (.int .u64 xe) ∧ W4.cell? ⟨q12, 1, none⟩ = some (.int .u32 xn) ∧ W4.cell? ⟨q12, 2, none⟩ = some (.slice xa xl.length xc) ∧ W4.cell? ⟨q12, 3, none⟩ = some (.int .u64 xd) ∧ W4.cell? ⟨gb, ob + i0 * 4 + 2, none⟩ = some (.slice ya yl.length yc) := ⟨(kS4.cell (p := ⟨q12, 0, none⟩) zq hq12ra).trans s0.1, (kS4.cell (p := ⟨q12, 1, none⟩) zq hq12ra).trans s0.2.1, (kS4.cell (p := ⟨q12, 2, none⟩) zq hq12ra).trans s0.2.2.1, (kS4.cell (p := ⟨q12, 3, none⟩) zq hq12ra).trans s0.2.2.2.1, (kS4.cell (p := ⟨gb, ob + i0 * 4 + 2, none⟩) (World.block_lt_of_cell? _ _ s0.2.2.2.2) hgbra).trans s0.2.2.2.2⟩
      clear hlz hl4 k4 hn4 kz hzr hzb hsz;refine rdH 15 (by kernel_rfl) rfl fun K hK => ?_
      go_simp;(try go_wp2_with fail);refine hK.out _ _ (sA) (fun hHeld => ?_)
      clear hK K;(try simp only [Act.put, lz]);refine rdH 16 (by kernel_rfl) rfl fun K hK => ?_
      refine stepAppRun rfl _ _ 55 55 rfl _ _ _ rfl rfl hrun ?_;refine hK.out _ _ s4 (fun hHeld => ?_)
      clear hK K;(try simp only [Act.put, lz]);refine tkH ?_ 17 rfl (by kernel_rfl) (fun _ _ _ h => by cases h.1) (by rfl) ?_ ‹_› ?_;rotate_left
      ·intro w h; (try dsimp only at h); go_simp <;> with_reducible rfl
      (try simp only [Act.put, lz]);refine wpAnyH_done (by kernel_rfl) ⟨rfl, ?_⟩ _
      clear hHeld sA s4 hrun;go_wp2_with fail;go_roundw
      case rel => exact ⟨k + 1, a4, c4, m4, by omega, by go_num, rfl, hm6, HF⟩
      case measure => simp [intOf]; omega
    ·have hmm : m.map Vr.pr = rejR A B := by rw [hme.out, show k = A.length by omega, List.take_length]
     have dk1 : ¬ (k : Int) < (A.length : Int) := by omega
     have dk2 : decide ((k : Int) < (A.length : Int)) = false := by simp; omega
     have hmm' := hid hmm
     clear hmm hml;go_wp2_with fail;go_ret;exact ⟨ra, rc, m, rfl, H.out.1.mono HM.out.2.2.size, hmm'.out, KWr.out⟩
theorem visA_take {ep : Int} {M : Nat} {L : List Vl} {j : Nat} (h : j < L.length) : visA ep M (L.take (j + 1)) = visA ep M (L.take j) ++ visF ep M L[j].l := by
 unfold visA
 rw [List.take_succ_eq_append_getElem h, List.flatMap_append];simp
theorem visF_take {ep : Int} {M : Nat} {l : List Vr} {k : Nat} (h : k < l.length) : visF ep M (l.take (k + 1)) = visF ep M (l.take k) ++ (if seenF ep l[k] then [fitR M l[k]] else []) := by
 unfold visF
 rw [List.take_succ_eq_append_getElem h, List.filter_append, List.map_append];congr 1
 by_cases c : seenF ep l[k] = true
 ·simp [c]
 ·simp [c]
def sumVl (L : List Vl) : Nat := (L.map fun x => x.l.length).sum
theorem visF_len (ep : Int) (M : Nat) (l : List Vr) : (visF ep M l).length ≤ l.length := by
 unfold visF
 rw [List.length_map];exact List.length_filter_le _ _
theorem visA_len (ep : Int) (M : Nat) (L : List Vl) : (visA ep M L).length ≤ sumVl L := by
 induction L with
 | nil => simp [visA, sumVl]
 | cons x L ih =>
  have := visF_len ep M x.l
  simp only [visA, sumVl, List.flatMap_cons, List.length_append, List.map_cons, List.sum_cons] at ih ⊢;omega
theorem sumVl_take {L : List Vl} {j : Nat} (h : j < L.length) : sumVl (L.take j) + L[j].l.length ≤ sumVl L := by
 have e : L = L.take j ++ L[j] :: L.drop (j + 1) := by rw [List.getElem_cons_drop, List.take_append_drop]
 have h2 : sumVl L = sumVl (L.take j) + (L[j].l.length + sumVl (L.drop (j + 1))) := by
  conv => lhs; rw [e]
  simp only [sumVl, List.map_append, List.sum_append_nat, List.map_cons, List.sum_cons]
 omega
theorem vlAt {w : World} {a : Option Addr} {l : List Vl} (h : VlE.See w a l) {k : Nat} {x : Vl} (hx : l[k]? = some x) : ∃ g o, a = some ⟨g, o, none⟩ ∧ w.cell? ⟨g, o + k, none⟩ = some (.slice x.a x.l.length x.c) := by
 obtain ⟨g, o, e, hc⟩ := h.at hx;refine ⟨g, o, e, ?_⟩;have := hc 0 _ rfl
 simpa [VlE] using this
theorem cVisible (a : Option Addr) (ca : Nat) (L : List Vl) (ep : Int) (M : Nat) (w : World) (hs : VlE.See w a L) (hl : ∀ x ∈ L, x.lies w) (hM : M ≤ 1000000000000) (hsum : sumVl L ≤ 1048576) (hL : L.length ≤ 1048576) :
  Calls Tryz.prog 47 #[.slice a L.length ca, .int .u64 ep, .int .i64 (M : Int)] w (LovP (visA ep M L) w) := by
 have HS := hid hs
 have HL := hid hl
 have H0 : Hid (Lov w.heap.size none 0 [] w ∧ Kp [] w w) := hid ⟨Lov.nil _ _, Kp.refl _ _⟩
 clear hs hl;go_enter Tryz.func47, Tryz.ntmps47
 go_wp2_with fail;go_loopw [7, 14] (fun v7 i wr => ∃ (j : Nat) (ra : Option Addr) (rc : Nat) (m : List Vr), j ≤ L.length ∧ i = .int .i64 (j : Int) ∧ v7 = .slice ra m.length rc ∧ Hid (m.map Vr.pr = visA ep M (L.take j)) ∧ Hid (Lov w.heap.size ra rc m wr ∧ Kp [] w wr)) (fun _ i _ => L.length - (intOf i).toNat)
 case atStart => exact ⟨0, none, 0, [], Nat.zero_le _, rfl, rfl, hid rfl, H0⟩
 case round =>
  obtain ⟨j, ra, rc, m, hj, rfl, rfl, hme, H⟩ := hrel;clear H0
  by_cases hlt : j < L.length
  ·have hx : L[j]? = some L[j] := by simp [hlt]
   obtain ⟨g, o, ea, x0⟩ := vlAt HS.out hx;have g0 := kpAt H.out.2 x0
   have hxl := hid (HL.out L[j] (List.getElem_mem hlt))
   have hvt := hid (visA_take (ep := ep) (M := M) hlt)
   have hst := hid (sumVl_take hlt)
   obtain ⟨x, hx⟩ : ∃ x, Hid (L[j] = x) := ⟨_, hid rfl⟩
   rw [hx.out] at g0 hxl hvt hst;obtain ⟨va, vc, vl⟩ := x;dsimp only at g0 hvt hst;have i1 : (0 : Int) ≤ (j : Int) := by omega
   have i2 : (j : Int) < (L.length : Int) := by omega
   have i3 : (j : Int) + 1 ≤ 9223372036854775807 := by omega
   have H1 : Hid (m.map Vr.pr = visA ep M (L.take j) ++ visF ep M (vl.take 0)) := hid (by rw [hme.out]; simp [visF])
   have hvl := hxl.out.cap
   have hvm := hxl.out.most
   unfold maxLen at hvm
   dsimp only at hvl hvm;subst ea;clear x0 hme;go_wp2_with fail;go_loopw [7, 20] (fun v7 i w2 => ∃ (k : Nat) (ra : Option Addr) (rc : Nat) (m : List Vr), k ≤ vl.length ∧ i = .int .i64 (k : Int) ∧ v7 = .slice ra m.length rc ∧ Hid (m.map Vr.pr = visA ep M (L.take j) ++ visF ep M (vl.take k)) ∧ Hid (Lov w.heap.size ra rc m w2 ∧ Kp [] w w2)) (fun _ i _ => vl.length - (intOf i).toNat)
   case atStart => exact ⟨0, ra, rc, m, Nat.zero_le _, rfl, rfl, H1, H⟩
   case round =>
    clear H H1 g0;obtain ⟨k, ra, rc, m, hk, rfl, rfl, hme, H⟩ := hrel
    by_cases hkt : k < vl.length
    ·have hml : m.length ≤ 1048576 := by
      have h1 := congrArg List.length hme.out
      rw [List.length_map, List.length_append] at h1;have h2 := visA_len ep M (L.take j)
      have h3 := visF_len ep M (vl.take k)
      rw [List.length_take] at h3;have h4 := hst.out
      omega
     have hsn := hid (visF_take (ep := ep) (M := M) hkt)
     obtain ⟨g3, o3, ea, x0, x1, x2, x3⟩ := vrAt hxl.out.see (j := k) (x := vl[k]) (by simp [hkt])
     have hxli := hid (hxl.out.each vl[k] (List.getElem_mem hkt))
     obtain ⟨x, hx⟩ : ∃ x, Hid (vl[k] = x) := ⟨_, hid rfl⟩
     rw [hx.out] at x0 x1 x2 x3 hxli hsn;obtain ⟨xe, xn, xa, xc, xl, xd⟩ := x;dsimp only at x0 x1 x2 x3 ea;obtain ⟨q11, W1, W2, eq11, eW1, b1, eW2, b2, kW2⟩ := boxVr wr xe xn xa xl.length xc xd;have g0 := kpAt H.out.2 x0; have g1 := kpAt H.out.2 x1; have g2 := kpAt H.out.2 x2; have g3 := kpAt H.out.2 x3
     have m0 := b1.get 0 _ rfl; have m1 := b1.get 1 _ rfl; have m2 := b1.get 2 _ rfl; have m3 := b1.get 3 _ rfl
     have f0 := b1.free 0; have f1 := b1.free 1; have f2 := b1.free 2; have f3 := b1.free 3
     have v0 := b2.get 0 _ rfl; have v1 := b2.get 1 _ rfl; have v2 := b2.get 2 _ rfl; have v3 := b2.get 3 _ rfl
     have KW2 := hid (H.out.2.trans kW2 (by simp))
     have HL2 := hid (H.out.1.ck (CK.ofKp kW2) (by simp) (by simp))
     have BB := hid b2
     have HXS := hid (seeV.2 hxli.out.r.see)
     have HC : Hid (∀ W', Kp [] W2 W' → W'.cell? ⟨q11, 0, none⟩ = some (.int .u64 xe) ∧ W'.cell? ⟨q11, 1, none⟩ = some (.int .u32 xn) ∧ W'.cell? ⟨q11, 2, none⟩ = some (.slice xa xl.length xc) ∧ W'.cell? ⟨q11, 3, none⟩ = some (.int .u64 xd)) := hid (fun W' q => ⟨(BB.out.kept q).get 0 _ rfl, (BB.out.kept q).get 1 _ rfl, (BB.out.kept q).get 2 _ rfl, (BB.out.kept q).get 3 _ rfl⟩)
     have zq : q11 < W2.heap.size := b2.lt (by simp)
     have k1 : (0 : Int) ≤ (k : Int) := by omega
     have k2 : (k : Int) < (vl.length : Int) := by omega
     have k3 : (k : Int) + 1 ≤ 9223372036854775807 := by omega
     subst ea;clear x0 x1 x2 x3 b1 b2 kW2
     by_cases hse : seenF ep ⟨xe, xn, xa, xc, xl, xd⟩ = true
     ·rw [if_pos hse] at hsn
      have hp : xe ≤ ep ∧ (xd = 0 ∨ (xd ≠ 0 ∧ ep < xd)) := by
       unfold seenF at hse
       simp only [Bool.and_eq_true, Bool.or_eq_true, decide_eq_true_eq] at hse;omega
      have d1 : decide (xe ≤ ep) = true := by simpa using hp.1
      clear hse
      rcases hp.2 with h0 | ⟨h0, h1⟩
      ·have d2 : (xd == 0) = true := by simpa using h0
       clear hp h0;go_wp2_with fail;refine wp_noPanicY ?_;refine wp_region_held_drew (S := fun W' => W'.cell? ⟨q11, 0, none⟩ = some (.int .u64 xe) ∧ W'.cell? ⟨q11, 1, none⟩ = some (.int .u32 xn) ∧ W'.cell? ⟨q11, 2, none⟩ = some (.slice xa xl.length xc) ∧ W'.cell? ⟨q11, 3, none⟩ = some (.int .u64 xd)) (by kernel_rfl) (HC.out _ (Kp.refl [] W2).drew) (fun hHeld => ?_)
       have KD : Hid (Kp [] W2 W2.drew) := hid (Kp.refl _ _).drew
       generalize W2.drew = wd at *
       have cF := hid (cFit xa xc xl M wd (HXS.out.keptNew (KW2.out.trans KD.out (by simp))) hM)
       refine tkH ?_ 0 rfl (by kernel_rfl) (fun _ _ _ h => by cases h.1) (by rfl) ?_ ‹_› ?_;rotate_left
       ·intro w h; (try dsimp only at h); go_simp <;> with_reducible rfl
       (try simp only [Act.put, lz]);refine tkH ?_ 1 rfl (by kernel_rfl) (fun _ _ _ h => by cases h.1) (by rfl) ?_ ‹_› ?_;rotate_left
       ·intro w h; (try dsimp only at h); go_simp <;> with_reducible rfl
       (try simp only [Act.put, lz]);refine tkH ?_ 2 rfl (by kernel_rfl) (fun _ _ _ h => by cases h.1) (by rfl) ?_ ‹_› ?_;rotate_left
       ·intro w h; (try dsimp only at h); go_simp <;> with_reducible rfl
       (try simp only [Act.put, lz]);refine tkH ?_ 3 rfl (by kernel_rfl) (fun _ _ _ h => by cases h.1) (by rfl) ?_ ‹_› ?_;rotate_left
       ·intro w h; (try dsimp only at h); go_simp <;> with_reducible rfl
       (try simp only [Act.put, lz]);refine tkH ?_ 4 rfl (by kernel_rfl) (fun _ _ _ h => by cases h.1) (by rfl) ?_ ‹_› ?_;rotate_left
       ·intro w h; (try dsimp only at h); go_simp <;> with_reducible rfl
       (try simp only [Act.put, lz]);refine tkH ?_ 5 rfl (by kernel_rfl) (fun _ _ _ h => by cases h.1) (by rfl) ?_ ‹_› ?_;rotate_left
       ·intro w h; (try dsimp only at h); go_simp <;> with_reducible rfl
       (try simp only [Act.put, lz]);refine rdH 6 (by kernel_rfl) rfl fun K hK => ?_
       go_simp;refine cF.out.mono ?_;rintro e wz ⟨za, zc, rfl, hzr, kz, hzb⟩;(try go_wp2_with fail);refine hK.out _ _ (HC.out _ (KD.out.trans kz (by simp))) (fun hHeld => ?_)
       clear hK K;(try simp only [Act.put, lz]);obtain ⟨zl, hzl⟩ : ∃ z, Hid (fitF xl M = z) := ⟨_, hid rfl⟩
       simp only [hzl.out] at hzr ⊢;refine tkH ?_ 7 rfl (by kernel_rfl) (fun _ _ _ h => by cases h.1) (by rfl) ?_ ‹_› ?_;rotate_left
       ·intro w h; (try dsimp only at h); go_simp <;> with_reducible rfl
       (try simp only [Act.put, lz]);have KZ := hid (KD.out.trans kz (by simp))
       have KNZ := hid (KW2.out.trans KZ.out (by simp))
       have hlz : Lov w.heap.size ra rc m wz := HL2.out.ck (CK.ofKp KZ.out) (by simp) (by simp)
       have hdz := KD.out.size
       have hk2 := KW2.out.size
       obtain ⟨a4, c4, W4, hrun, hl4, k4, hn4⟩ := hlz.app ⟨xe, xn, za, zc, zl, 0⟩ ⟨rowLies hzr, hxli.out.e, hxli.out.n⟩ KNZ.out.size (fun k hk => ⟨by have := hzb k hk; omega, hzr.lt k (by rw [ownV]; exact hk), fun hm' => by have h1 := hzb k hk; have h2 := HL2.out.lt k hm'; omega⟩) (by omega)
       have hm6 : Hid ((m ++ [(⟨xe, xn, za, zc, zl, 0⟩ : Vr)]).map Vr.pr = visA ep M (L.take j) ++ visF ep M (vl.take (k + 1))) := by
        show _ = _
        rw [hsn.out, List.map_append, hme.out, List.append_assoc, ← hzl.out];rfl
       obtain ⟨m4, hm4⟩ : ∃ m4, Hid (m ++ [(⟨xe, xn, za, zc, zl, 0⟩ : Vr)] = m4) := ⟨_, hid rfl⟩
       rw [hm4.out] at hrun hl4 hm6;dsimp only at hrun;have hbra : ∀ x ∈ blk ra, w.heap.size ≤ x := hlz.own
       have HF : Hid (Lov w.heap.size a4 c4 m4 W4 ∧ Kp [] w W4) := hid ⟨hl4, KNZ.out.trans k4 (fun x hx => .inr (hbra x hx))⟩
       have kS4 : Kp (blk ra) W2 W4 := (KZ.out.mono (T := blk ra) (by simp)).trans k4 (fun j hj => .inl hj)
       have hq11 : q11 ∉ blk ra := fun hm' => by have h1 := H.out.1.lt q11 hm'; omega
       have sA := HC.out _ (KZ.out.alloc (.cells #[.int .u64 xe, .int .u32 xn, .slice za zl.length zc, .int .u64 0] 80))
       have s0 := HC.out _ (Kp.refl [] W2)
       have s4 : W4.cell? ⟨q11, 0, none⟩ = some (.int .u64 xe) ∧ W4.cell? ⟨q11, 1, none⟩ = some (.int .u32 xn) ∧ W4.cell? ⟨q11, 2, none⟩ = some (.slice xa xl.length xc) ∧ W4.cell? ⟨q11, 3, none⟩ = some (.int .u64 xd) := ⟨(kS4.cell (p := ⟨q11, 0, none⟩) zq hq11).trans s0.1, (kS4.cell (p := ⟨q11, 1, none⟩) zq hq11).trans s0.2.1, (kS4.cell (p := ⟨q11, 2, none⟩) zq hq11).trans s0.2.2.1, (kS4.cell (p := ⟨q11, 3, none⟩) zq hq11).trans s0.2.2.2⟩
       clear hlz hl4 k4 hn4 kz hzr hzb hdz hk2 kS4;refine rdH 8 (by kernel_rfl) rfl fun K hK => ?_
       go_simp;(try go_wp2_with fail);refine hK.out _ _ (sA) (fun hHeld => ?_)
       clear hK K;(try simp only [Act.put, lz]);refine rdH 9 (by kernel_rfl) rfl fun K hK => ?_
       refine stepAppRun rfl _ _ 55 55 rfl _ _ _ rfl rfl hrun ?_;refine hK.out _ _ s4 (fun hHeld => ?_)
       clear hK K;(try simp only [Act.put, lz]);refine tkH ?_ 10 rfl (by kernel_rfl) (fun _ _ _ h => by cases h.1) (by rfl) ?_ ‹_› ?_;rotate_left
       ·intro w h; (try dsimp only at h); go_simp <;> with_reducible rfl
       (try simp only [Act.put, lz]);refine wpAnyH_done (by kernel_rfl) ⟨rfl, ?_⟩ _
       clear hHeld sA s4 hrun s0;go_wp2_with fail;go_roundw
       case rel => exact ⟨k + 1, a4, c4, m4, by omega, by go_num, rfl, hm6, HF⟩
       case measure => simp [intOf]; omega
      ·have d2 : (xd == 0) = false := by simpa using h0
       have d3 : decide (ep < xd) = true := by simpa using h1
       clear hp h0 h1;go_wp2_with fail;refine wp_noPanicY ?_;refine wp_region_held_drew (S := fun W' => W'.cell? ⟨q11, 0, none⟩ = some (.int .u64 xe) ∧ W'.cell? ⟨q11, 1, none⟩ = some (.int .u32 xn) ∧ W'.cell? ⟨q11, 2, none⟩ = some (.slice xa xl.length xc) ∧ W'.cell? ⟨q11, 3, none⟩ = some (.int .u64 xd)) (by kernel_rfl) (HC.out _ (Kp.refl [] W2).drew) (fun hHeld => ?_)
       have KD : Hid (Kp [] W2 W2.drew) := hid (Kp.refl _ _).drew
       generalize W2.drew = wd at *
       have cF := hid (cFit xa xc xl M wd (HXS.out.keptNew (KW2.out.trans KD.out (by simp))) hM)
       refine tkH ?_ 0 rfl (by kernel_rfl) (fun _ _ _ h => by cases h.1) (by rfl) ?_ ‹_› ?_;rotate_left
       ·intro w h; (try dsimp only at h); go_simp <;> with_reducible rfl
       (try simp only [Act.put, lz]);refine tkH ?_ 1 rfl (by kernel_rfl) (fun _ _ _ h => by cases h.1) (by rfl) ?_ ‹_› ?_;rotate_left
       ·intro w h; (try dsimp only at h); go_simp <;> with_reducible rfl
       (try simp only [Act.put, lz]);refine tkH ?_ 2 rfl (by kernel_rfl) (fun _ _ _ h => by cases h.1) (by rfl) ?_ ‹_› ?_;rotate_left
       ·intro w h; (try dsimp only at h); go_simp <;> with_reducible rfl
       (try simp only [Act.put, lz]);refine tkH ?_ 3 rfl (by kernel_rfl) (fun _ _ _ h => by cases h.1) (by rfl) ?_ ‹_› ?_;rotate_left
       ·intro w h; (try dsimp only at h); go_simp <;> with_reducible rfl
       (try simp only [Act.put, lz]);refine tkH ?_ 4 rfl (by kernel_rfl) (fun _ _ _ h => by cases h.1) (by rfl) ?_ ‹_› ?_;rotate_left
       ·intro w h; (try dsimp only at h); go_simp <;> with_reducible rfl
       (try simp only [Act.put, lz]);refine tkH ?_ 5 rfl (by kernel_rfl) (fun _ _ _ h => by cases h.1) (by rfl) ?_ ‹_› ?_;rotate_left
       ·intro w h; (try dsimp only at h); go_simp <;> with_reducible rfl
       (try simp only [Act.put, lz]);refine rdH 6 (by kernel_rfl) rfl fun K hK => ?_
       go_simp;refine cF.out.mono ?_;rintro e wz ⟨za, zc, rfl, hzr, kz, hzb⟩;(try go_wp2_with fail);refine hK.out _ _ (HC.out _ (KD.out.trans kz (by simp))) (fun hHeld => ?_)
       clear hK K;(try simp only [Act.put, lz]);obtain ⟨zl, hzl⟩ : ∃ z, Hid (fitF xl M = z) := ⟨_, hid rfl⟩
       simp only [hzl.out] at hzr ⊢;refine tkH ?_ 7 rfl (by kernel_rfl) (fun _ _ _ h => by cases h.1) (by rfl) ?_ ‹_› ?_;rotate_left
       ·intro w h; (try dsimp only at h); go_simp <;> with_reducible rfl
       (try simp only [Act.put, lz]);have KZ := hid (KD.out.trans kz (by simp))
       have KNZ := hid (KW2.out.trans KZ.out (by simp))
       have hlz : Lov w.heap.size ra rc m wz := HL2.out.ck (CK.ofKp KZ.out) (by simp) (by simp)
       have hdz := KD.out.size
       have hk2 := KW2.out.size
       obtain ⟨a4, c4, W4, hrun, hl4, k4, hn4⟩ := hlz.app ⟨xe, xn, za, zc, zl, 0⟩ ⟨rowLies hzr, hxli.out.e, hxli.out.n⟩ KNZ.out.size (fun k hk => ⟨by have := hzb k hk; omega, hzr.lt k (by rw [ownV]; exact hk), fun hm' => by have h1 := hzb k hk; have h2 := HL2.out.lt k hm'; omega⟩) (by omega)
       have hm6 : Hid ((m ++ [(⟨xe, xn, za, zc, zl, 0⟩ : Vr)]).map Vr.pr = visA ep M (L.take j) ++ visF ep M (vl.take (k + 1))) := by
        show _ = _
        rw [hsn.out, List.map_append, hme.out, List.append_assoc, ← hzl.out];rfl
       obtain ⟨m4, hm4⟩ : ∃ m4, Hid (m ++ [(⟨xe, xn, za, zc, zl, 0⟩ : Vr)] = m4) := ⟨_, hid rfl⟩
       rw [hm4.out] at hrun hl4 hm6;dsimp only at hrun;have hbra : ∀ x ∈ blk ra, w.heap.size ≤ x := hlz.own
       have HF : Hid (Lov w.heap.size a4 c4 m4 W4 ∧ Kp [] w W4) := hid ⟨hl4, KNZ.out.trans k4 (fun x hx => .inr (hbra x hx))⟩
       have kS4 : Kp (blk ra) W2 W4 := (KZ.out.mono (T := blk ra) (by simp)).trans k4 (fun j hj => .inl hj)
       have hq11 : q11 ∉ blk ra := fun hm' => by have h1 := H.out.1.lt q11 hm'; omega
       have sA := HC.out _ (KZ.out.alloc (.cells #[.int .u64 xe, .int .u32 xn, .slice za zl.length zc, .int .u64 0] 80))
       have s0 := HC.out _ (Kp.refl [] W2)
       have s4 : W4.cell? ⟨q11, 0, none⟩ = some (.int .u64 xe) ∧ W4.cell? ⟨q11, 1, none⟩ = some (.int .u32 xn) ∧ W4.cell? ⟨q11, 2, none⟩ = some (.slice xa xl.length xc) ∧ W4.cell? ⟨q11, 3, none⟩ = some (.int .u64 xd) := ⟨(kS4.cell (p := ⟨q11, 0, none⟩) zq hq11).trans s0.1, (kS4.cell (p := ⟨q11, 1, none⟩) zq hq11).trans s0.2.1, (kS4.cell (p := ⟨q11, 2, none⟩) zq hq11).trans s0.2.2.1, (kS4.cell (p := ⟨q11, 3, none⟩) zq hq11).trans s0.2.2.2⟩
       clear hlz hl4 k4 hn4 kz hzr hzb hdz hk2 kS4;refine rdH 8 (by kernel_rfl) rfl fun K hK => ?_
       go_simp;(try go_wp2_with fail);refine hK.out _ _ (sA) (fun hHeld => ?_)
       clear hK K;(try simp only [Act.put, lz]);refine rdH 9 (by kernel_rfl) rfl fun K hK => ?_
       refine stepAppRun rfl _ _ 55 55 rfl _ _ _ rfl rfl hrun ?_;refine hK.out _ _ s4 (fun hHeld => ?_)
       clear hK K;(try simp only [Act.put, lz]);refine tkH ?_ 10 rfl (by kernel_rfl) (fun _ _ _ h => by cases h.1) (by rfl) ?_ ‹_› ?_;rotate_left
       ·intro w h; (try dsimp only at h); go_simp <;> with_reducible rfl
       (try simp only [Act.put, lz]);refine wpAnyH_done (by kernel_rfl) ⟨rfl, ?_⟩ _
       clear hHeld sA s4 hrun s0;go_wp2_with fail;go_roundw
       case rel => exact ⟨k + 1, a4, c4, m4, by omega, by go_num, rfl, hm6, HF⟩
       case measure => simp [intOf]; omega
     ·rw [if_neg hse, List.append_nil] at hsn
      have hm5 : Hid (m.map Vr.pr = visA ep M (L.take j) ++ visF ep M (vl.take (k + 1))) := hid (by rw [hsn.out]; exact hme.out)
      have hp : ¬ xe ≤ ep ∨ (xe ≤ ep ∧ xd ≠ 0 ∧ ¬ ep < xd) := by
       unfold seenF at hse
       simp only [Bool.and_eq_true, Bool.or_eq_true, decide_eq_true_eq] at hse;omega
      have HF : Hid (Lov w.heap.size ra rc m W2 ∧ Kp [] w W2) := hid ⟨HL2.out, KW2.out⟩
      clear hse
      rcases hp with h0 | ⟨h0, h1, h2⟩
      ·have d1 : decide (xe ≤ ep) = false := by simpa using h0
       clear h0;go_wp2_with fail;go_roundw
       case rel => exact ⟨k + 1, ra, rc, m, by omega, by go_num, rfl, hm5, HF⟩
       case measure => simp [intOf]; omega
      ·have d1 : decide (xe ≤ ep) = true := by simpa using h0
       have d2 : (xd == 0) = false := by simpa using h1
       have d3 : decide (ep < xd) = false := by simpa using h2
       clear h0 h1 h2;go_wp2_with fail;go_roundw
       case rel => exact ⟨k + 1, ra, rc, m, by omega, by go_num, rfl, hm5, HF⟩
       case measure => simp [intOf]; omega
    ·have hmm : Hid (m.map Vr.pr = visA ep M (L.take (j + 1))) := hid (by rw [hme.out, hvt.out, show k = vl.length by omega, List.take_length])
     have dk1 : ¬ (k : Int) < (vl.length : Int) := by omega
     have dk2 : decide ((k : Int) < (vl.length : Int)) = false := by simp; omega
     clear hme;go_wp2_with fail;go_roundw
     case rel => exact ⟨j + 1, ra, rc, m, by omega, by go_num, rfl, hmm, H⟩
     case measure => simp [intOf]; omega
  ·have hmm : Hid (m.map Vr.pr = visA ep M L) := hid (by rw [hme.out, show j = L.length by omega, List.take_length])
   have dk1 : ¬ (j : Int) < (L.length : Int) := by omega
   have dk2 : decide ((j : Int) < (L.length : Int)) = false := by simp; omega
   clear hme;go_wp2_with fail;go_ret;exact ⟨ra, rc, m, rfl, H.out.1, hmm.out, H.out.2⟩
structure Ci where
 a : Option Addr
 c : Nat
 l : List Int
def CiE : El Ci where
 n := 1
 c x := [.slice x.a x.l.length x.c]
 len _ := rfl
 one _ u hu := by simp at hu; subst hu; rfl
 pos := by decide
theorem ciAt {w : World} {a : Option Addr} {l : List Ci} (h : CiE.See w a l) {k : Nat} {x : Ci} (hx : l[k]? = some x) : ∃ g o, a = some ⟨g, o, none⟩ ∧ w.cell? ⟨g, o + k, none⟩ = some (.slice x.a x.l.length x.c) := by
 obtain ⟨g, o, e, hc⟩ := h.at hx;refine ⟨g, o, e, ?_⟩;have := hc 0 _ rfl
 simpa [CiE] using this
def NewRI (l : List Int) (w : World) (e : Ending) (w' : World) : Prop := ∃ a c, e = .returned (.slice a l.length c) ∧ IntE.Row w' (.slice a l.length c) l ∧ Kp [] w w' ∧ ∀ k ∈ blk a, w.heap.size ≤ k
def NewEI (w : World) (e : Ending) (w' : World) : Prop := ∃ a c, e = .returned (.slice a 0 c) ∧ IntE.Row w' (.slice a 0 c) [] ∧ Kp [] w w' ∧ ∀ k ∈ blk a, w.heap.size ≤ k
theorem cGrowEI (n : Nat) (w : World) (hn : n ≤ 3600000000000) : Calls Tryz.prog 85 #[.slice none 0 0, .int .i64 (n : Int)] w (NewEI w) := by
 rcases Nat.eq_zero_or_pos n with h0 | h0
 ·subst h0
  go_enter Tryz.func85, Tryz.ntmps85
  go_wp2_with fail;go_ret;exact ⟨none, 0, rfl, .inl ⟨rfl, rfl⟩, Kp.refl _ _, by simp [blk]⟩
 ·obtain ⟨i0, hi, hz0, hz1, hz2⟩ := infoI
  have hrun := Lib.run_append_nil_zeros (P := Tryz.prog) w 27 3 27 3 i0 _ .i64 .i64 Tryz.underlying27 Tryz.underlying3 hi hz0 n h0 (by omega) (by omega) (by rw [hz2]; omega)
  have hge := grownCap_ge w n 0 3
  have hcm := grownCap_le_maxLen w n 0 3 (by unfold maxLen; omega)
  obtain ⟨C, hC⟩ : ∃ C, grownCap w n 0 3 = C := ⟨_, rfl⟩
  rw [hC] at hrun hge hcm;obtain ⟨W, hW⟩ : ∃ W, w.drew.alloc (.cells (Builtin.zeroCells (Value.int .i64 0).cells n ++ Builtin.zeroCells (Value.int .i64 0).cells (C - n)) 3) = W := ⟨_, rfl⟩
  rw [hW] at hrun
  have hrow : IntE.Row W (.slice (some ⟨w.heap.size, 0, none⟩) 0 C) [] := by
   refine .inr ⟨w.heap.size, 0, C, rfl, Nat.zero_le _, hcm, by rw [← hW]; simp, fun j u hu => by simp [El.cs] at hu, fun j hj => ?_⟩
   rw [← hW];refine ⟨?_, World.frozen?_alloc_new w.drew _ _ (0 + j)⟩;have e1 := World.cell?_alloc_new w.drew (Builtin.zeroCells (Value.int .i64 0).cells n ++ Builtin.zeroCells (Value.int .i64 0).cells (C - n)) 3 (0 + j)
   refine (congrArg Option.isSome e1).trans ?_
   rw [Nat.zero_add, Array.getElem?_eq_getElem (by
    rw [Array.size_append, size_zeroCells, size_zeroCells];have e4 : (Value.int .i64 0).cells.size = 1 := rfl
    have e5 : IntE.n = 1 := rfl
    rw [e4];rw [e5] at hj;omega)]
   rfl
  have kW : Kp [] w W := by rw [← hW]; exact (Kp.refl _ w).drew.alloc _
  have hCb : C ≤ 9223372036854775807 := by unfold maxLen at hcm; omega
  have d1 : decide ((n : Int) < 0) = false := by simp
  have d2 : (0 : Int) < (n : Int) := by omega
  have d3 : decide ((0 : Int) < (n : Int)) = true := by simp; omega
  have HW := hid (And.intro hrow kW)
  obtain ⟨q, hq⟩ : ∃ q, w.heap.size = q := ⟨_, rfl⟩
  rw [hq] at hrun HW;have hq' := hid hq
  clear hrow kW hW hcm hge hC hi hz0 hz1 hz2 h0 hq;go_enter Tryz.func85, Tryz.ntmps85
  go_wp2_with (first | (refine wpAppRunY rfl _ _ 27 3 rfl _ _ _ rfl rfl hrun ?_) | fail)
  go_ret;exact ⟨_, _, rfl, HW.out.1, HW.out.2, fun k hk => by simp [blk] at hk; rw [hk, hq'.out]; exact Nat.le_refl _⟩
def sumLI (L : List Ci) : Nat := (L.map fun x => x.l.length).sum
theorem sumL_takeI {L : List Ci} {j : Nat} (h : j < L.length) : sumLI (L.take (j + 1)) = sumLI (L.take j) + L[j].l.length := by
 unfold sumLI
 rw [List.take_succ_eq_append_getElem h, List.map_append, List.sum_append_nat];simp
theorem sumL_leI (L : List Ci) (j : Nat) : sumLI (L.take j) ≤ sumLI L := by
 have e : sumLI L = sumLI (L.take j) + sumLI (L.drop j) := by
  unfold sumLI
  conv => lhs; rw [← List.take_append_drop j L, List.map_append, List.sum_append_nat]
 omega
def catLI (L : List Ci) : List Int := L.flatMap (·.l)
theorem catL_takeI {L : List Ci} {j : Nat} (h : j < L.length) : catLI (L.take (j + 1)) = catLI (L.take j) ++ L[j].l := by
 unfold catLI
 rw [List.take_succ_eq_append_getElem h, List.flatMap_append];simp
theorem catL_lenI (L : List Ci) : (catLI L).length = sumLI L := by unfold catLI sumLI; rw [List.length_flatMap]
theorem appVYI {W : World} {a : Option Addr} {c : Nat} {l : List Int} (h : IntE.Row W (.slice a l.length c) l) (a2 : Option Addr) (c2 : Nat) (ys : List Int) (hs : IntE.See W a2 ys) (hl : l.length + ys.length ≤ 3600000000000) :
  ∃ a' c' W', (Builtin.append_ #[27, 27] 27 #[.slice a l.length c, .slice a2 ys.length c2]).run Tryz.prog W = .ok (.slice a' (l ++ ys).length c') W' ∧ IntE.Row W' (.slice a' (l ++ ys).length c') (l ++ ys) ∧ Kp (blk a) W W' ∧ ∀ k ∈ blk a', k ∈ blk a ∨ W.heap.size ≤ k := by
 obtain ⟨i0, hi, hz0, hz1, hz2⟩ := infoI;have hsrc := hs.src (P := Tryz.prog) Tryz.underlying27 c2
 obtain ⟨v6, X4, hrun2, hrow6, kk6, hn6⟩ := run_appendG (E := IntE) (P := Tryz.prog) _ 27 27 27 3 i0 _ 8 Tryz.underlying27 hi hz0 hz1 hz2 rfl (.slice a l.length c) l h _ ys hsrc (by omega) (by omega)
 obtain ⟨a6, c6, rfl, _⟩ := hrow6.see;rw [ownV] at kk6;simp only [ownV] at hn6;exact ⟨a6, c6, X4, hrun2, hrow6, kk6, hn6⟩
theorem cConcatI (sa : Option Addr) (sc : Nat) (L : List Ci) (w : World) (hs : CiE.See w sa L) (hx : ∀ x ∈ L, IntE.See w x.a x.l) (hl : L.length ≤ 4000000000000) (hsum : sumLI L ≤ 3600000000000) :
  Calls Tryz.prog 49 #[.slice sa L.length sc] w (NewRI (catLI L) w) := by
 have HS := hid hs
 have HX := hid hx
 have hrow : Hid (∀ (j : Nat) (hj : j < L.length), ∃ g o, sa = some ⟨g, o, none⟩ ∧ w.cell? ⟨g, o + j, none⟩ = some (.slice L[j].a L[j].l.length L[j].c)) := fun j hj => ciAt HS.out (by simp [hj])
 have hsl := hid (fun j => sumL_leI L j)
 clear hs hx;go_enter Tryz.func49, Tryz.ntmps49
 go_wp2_with fail;go_loopw [3, 11] (fun v3 i wr => ∃ (j N : Nat), j ≤ L.length ∧ i = .int .i64 (j : Int) ∧ v3 = .int .i64 (N : Int) ∧ Hid (N = sumLI (L.take j)) ∧ w = wr) (fun _ i _ => L.length - (intOf i).toNat)
 case atStart => exact ⟨0, 0, Nat.zero_le _, rfl, rfl, rfl, rfl⟩
 case round =>
  obtain ⟨j, N, hj, rfl, rfl, hN, rfl⟩ := hrel
  by_cases hlt : j < L.length
  ·obtain ⟨g, o, ea, c0⟩ := hrow.out j hlt
   have hst := hid (sumL_takeI hlt)
   have hs1 := hsl.out (j + 1)
   rw [hst.out, ← hN.out] at hs1;obtain ⟨x, hx⟩ : ∃ x, Hid (L[j] = x) := ⟨L[j], rfl⟩
   rw [hx.out] at c0 hs1 hst;obtain ⟨xa, xc, xl⟩ := x;dsimp only at c0 hs1 hst;subst ea;obtain ⟨M, hM⟩ : ∃ M : Nat, N + xl.length = M := ⟨_, rfl⟩
   have eM : (N : Int) + (xl.length : Int) = (M : Int) := by omega
   have i1 : (0 : Int) ≤ (j : Int) := by omega
   have i2 : (j : Int) < (L.length : Int) := by omega
   have i3 : (j : Int) + 1 ≤ 9223372036854775807 := by omega
   have i4 : (-9223372036854775808 : Int) ≤ (N : Int) + (xl.length : Int) := by omega
   have i5 : (N : Int) + (xl.length : Int) ≤ 9223372036854775807 := by omega
   have i6 : decide ((M : Int) < 0) = false := by simp
   have hM' : Hid (M = sumLI (L.take (j + 1))) := by show _ = _; rw [hst.out, ← hN.out, hM]
   clear hM hst;go_wp2_with fail;go_roundw
   case rel => exact ⟨j + 1, M, by omega, by go_num, by simp [eM, IntKind.wrap_i64], hM', by simp⟩
   case measure => simp [intOf]; omega
  ·obtain rfl : j = L.length := by omega
   have dj1 : ¬ (L.length : Int) < (L.length : Int) := by omega
   have dj2 : decide ((L.length : Int) < (L.length : Int)) = false := by simp
   have hNs : N ≤ 3600000000000 := by rw [hN.out, List.take_length]; exact hsum
   have cG := hid (cGrowEI N w hNs)
   go_wp2_with fail;refine cG.out.mono ?_;rintro e w2 ⟨ga, gc, rfl, hgr, k2, hgb⟩;have HG := hid (And.intro hgr (And.intro k2 hgb))
   clear cG hgr k2 hgb;go_wp2_with fail;go_loopw [6, 27] (fun v6 i wn => ∃ (j : Nat) (a : Option Addr) (c : Nat) (l : List Int), j ≤ L.length ∧ i = .int .i64 (j : Int) ∧ v6 = .slice a l.length c ∧ Hid (l = catLI (L.take j)) ∧ Hid (IntE.Row wn (.slice a l.length c) l ∧ Kp [] w wn ∧ ∀ k ∈ blk a, w.heap.size ≤ k)) (fun _ i _ => L.length - (intOf i).toNat)
   case atStart => exact ⟨0, ga, gc, [], Nat.zero_le _, rfl, rfl, rfl, HG⟩
   case round =>
    obtain ⟨j, a, c, l, hj, rfl, rfl, hl', H⟩ := hrel;clear HG
    by_cases hlt : j < L.length
    ·obtain ⟨g, o, ea, c0⟩ := hrow.out j hlt
     have cg := kpAt H.out.2.1 c0
     have hlj := HX.out L[j] (List.getElem_mem hlt)
     have hct := hid (catL_takeI hlt)
     have hs1 := hsl.out (j + 1)
     rw [sumL_takeI hlt, ← catL_lenI, ← hl'.out] at hs1;obtain ⟨a4, c4, W4, hrun, hr4, k4, hn4⟩ := appVYI H.out.1 L[j].a L[j].c L[j].l (hlj.keptNew H.out.2.1) (by omega)
     obtain ⟨l4, hl4⟩ : ∃ l4, Hid (l ++ L[j].l = l4) := ⟨l ++ L[j].l, rfl⟩
     rw [hl4.out] at hrun hr4;have hl5 : Hid (l4 = catLI (L.take (j + 1))) := by show _ = _; rw [hct.out, ← hl'.out, hl4.out]
     obtain ⟨x, hx⟩ : ∃ x, Hid (L[j] = x) := ⟨L[j], rfl⟩
     rw [hx.out] at cg hrun;obtain ⟨xa, xc, xl⟩ := x;dsimp only at cg hrun
     have HF : Hid (IntE.Row W4 (.slice a4 l4.length c4) l4 ∧ Kp [] w W4 ∧ ∀ k ∈ blk a4, w.heap.size ≤ k) := ⟨hr4, H.out.2.1.trans k4 (fun x hx => .inr (H.out.2.2 x hx)), fun k hk => by
      rcases hn4 k hk with e | e
      ·exact H.out.2.2 k e
      ·have := H.out.2.1.size; omega⟩
     have i1 : (0 : Int) ≤ (j : Int) := by omega
     have i2 : (j : Int) < (L.length : Int) := by omega
     have i3 : (j : Int) + 1 ≤ 9223372036854775807 := by omega
     clear c0 hlj hs1 hr4 k4 hn4 hct;subst ea;go_wp2_with (first | (refine wpAppRunY rfl _ _ 27 27 rfl _ _ _ rfl rfl hrun ?_) | fail)
     go_roundw
     case rel => exact ⟨j + 1, a4, c4, l4, by omega, by go_num, rfl, hl5, HF⟩
     case measure => simp [intOf]; omega
    ·obtain rfl : j = L.length := by omega
     have hlc : l = catLI L := by rw [hl'.out, List.take_length]
     subst hlc;go_wp2_with fail;go_ret;exact ⟨a, c, rfl, H.out.1, H.out.2.1, H.out.2.2⟩
end Go.Proofs.YtlgfekjoknbfdaaGreatDoor
end

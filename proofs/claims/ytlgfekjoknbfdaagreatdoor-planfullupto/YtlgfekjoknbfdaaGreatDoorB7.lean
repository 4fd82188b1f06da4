/- What the proof stands on: contracts of functions that the statement calls, and plain lemmas. No statement of the seat is proved here. -/
import Derived.Test.YtlgfekjoknbfdaaGreatDoorB6
import Derived.Deep.Cut
import Derived.Deep.CutRange
import Derived.Test.YtlgfekjoknbfdaaGreatDoorB5
import Derived.Test.YtlgfekjoknbfdaaGreatDoorB4
import Derived.Test.YtlgfekjoknbfdaaGreatDoorB3
import Derived.Test.YtlgfekjoknbfdaaGreatDoorB1
import Derived.Test.YtlgfekjoknbfdaaGreatDoorCards
import Derived.Test.YtlgfekjoknbfdaaGreatDoorTie
import Derived.Laws.IdiomArrays
import Derived.Deep.DeepHandedRow
import Derived.Lib.LaidTab
import Derived.SizedLaws
set_option maxHeartbeats 64000000
set_option maxRecDepth 100000
set_option linter.unusedVariables false
set_option linter.unusedSimpArgs false
section
namespace Go.Proofs.YtlgfekjoknbfdaaGreatDoor
open Go.RowKit Go.Hay
theorem cSymC2 {fid : Nat} (g o n cap : Nat) (A : Nat → Vs) (cv : Value) (cf : Nat → Nat → Int) (Inv : World → Prop) (hC : CmpOk fid g n A cv cf Inv) (p : Nat → Nat) (a m b : Nat) (w : World) (h : Hd w g o n cap A p) (hI : Inv w) (hpn : ∀ k, k < n → p k < n) (h1 : a < m) (h2 : m < b) (h3 : b ≤ n) (hA : Srt (fun x y => cf x y < 0) p a m) (hB : Srt (fun x y => cf x y < 0) p m b) (hLo : Low p a m b) (hn : n ≤ 4000000000000) (hcap : n ≤ cap) (hma : a + 1 < m) (hmb : m + 1 < b) (hk : 2 * m ≤ a + b) (IH : ∀ (p' : Nat → Nat) (a' m' b' : Nat) (w' : World), b' - a' < b - a → Hd w' g o n cap A p' → Inv w' → (∀ k, k < n → p' k < n) → a' < m' → m' < b' → b' ≤ n → Srt (fun x y => cf x y < 0) p' a' m' → Srt (fun x y => cf x y < 0) p' m' b' → Low p' a' m' b' → Calls Tryz.prog 170 #[.slice (some ⟨g, o, none⟩) n cap, .int .i64 (a' : Int), .int .i64 (m' : Int), .int .i64 (b' : Int), .func (.func fid) #[] #[cv]] w' fun e u => (∃ v, e = .returned v) ∧ ∃ s, PermIn a' b' s ∧ Srt (fun x y => cf x y < 0) (fun k => p' (s k)) a' b' ∧ Hd u g o n cap A (fun k => p' (s k)) ∧ Kp [g] w' u) : Calls Tryz.prog 170 #[.slice (some ⟨g, o, none⟩) n cap, .int .i64 (a : Int), .int .i64 (m : Int), .int .i64 (b : Int), .func (.func fid) #[] #[cv]] w fun e w' => (∃ v, e = .returned v) ∧ ∃ s, PermIn a b s ∧ Srt (fun x y => cf x y < 0) (fun k => p (s k)) a b ∧ Hd w' g o n cap A (fun k => p (s k)) ∧ Kp [g] w w' := by
 have HC := hid hC
 have hE := hC.enter
 have HI := hid hI
 have HH := hid h
 have HPN := hid hpn
 have HSR := hid (And.intro hA (And.intro hB hLo))
 have q1 : (-9223372036854775808 : Int) ≤ (m : Int) - (a : Int) := by omega
 have q2 : (m : Int) - (a : Int) ≤ 9223372036854775807 := by omega
 clear hC hI h hpn hA hB hLo;have HIH := hid IH
 clear IH;have hm1 : ((m : Int) - (a : Int) == 1) = false := by simp; omega
 have hm2 : ¬ ((m : Int) - (a : Int) = 1) := by omega
 have hb1 : ((b : Int) - (m : Int) == 1) = false := by simp; omega
 have hb2 : ¬ ((b : Int) - (m : Int) = 1) := by omega
 have q3 : (-9223372036854775808 : Int) ≤ (b : Int) - (m : Int) := by omega
 have q4 : (b : Int) - (m : Int) ≤ 9223372036854775807 := by omega
 obtain ⟨t, ht⟩ : ∃ t : Nat, t = a + b := ⟨_, rfl⟩
 obtain ⟨mid, hmid⟩ : ∃ h : Nat, h = t / 2 := ⟨_, rfl⟩
 have et : (a : Int) + (b : Int) = (t : Int) := by omega
 have et1 : (-9223372036854775808 : Int) ≤ (a : Int) + (b : Int) := by omega
 have et2 : (a : Int) + (b : Int) ≤ 9223372036854775807 := by omega
 have et3 : (0 : Int) ≤ (t : Int) := by omega
 have et4 : (t : Int) ≤ 9223372036854775807 := by omega
 have et5 : (t : Int) < 18446744073709551616 := by omega
 have eh : (t : Int) / 2 = (mid : Int) := by omega
 have eh2 : (mid : Int) ≤ 9223372036854775807 := by omega
 have eu : IntKind.u64.wrap (t : Int) = (t : Int) := by rw [IntKind.wrap_u64]; omega
 have ew : IntKind.i64.wrap (mid : Int) = (mid : Int) := by rw [IntKind.wrap_i64]; omega
 have ewt : IntKind.i64.wrap (t : Int) = (t : Int) := by rw [IntKind.wrap_i64]; omega
 have hmid1 : 2 * mid ≤ a + b := by omega
 have hmid2 : a + b ≤ 2 * mid + 1 := by omega
 obtain ⟨N, hN⟩ : ∃ N : Nat, N = mid + m := ⟨_, rfl⟩
 obtain ⟨PP, hPP⟩ : ∃ P : Nat, P = N - 1 := ⟨_, rfl⟩
 have eN : (mid : Int) + (m : Int) = (N : Int) := by omega
 have eN1 : (-9223372036854775808 : Int) ≤ (mid : Int) + (m : Int) := by omega
 have eN2 : (mid : Int) + (m : Int) ≤ 9223372036854775807 := by omega
 have eP : (N : Int) - 1 = (PP : Int) := by omega
 have eP1 : (-9223372036854775808 : Int) ≤ (N : Int) - 1 := by omega
 have eP2 : (N : Int) - 1 ≤ 9223372036854775807 := by omega
 have hN1 : N ≤ mid + m := by omega
 have hN2 : mid + m ≤ N := by omega
 have hPP1 : PP + 1 ≤ N := by omega
 have hPP2 : N ≤ PP + 1 := by omega
 have dg : decide ((mid : Int) < (m : Int)) = false := by simp; omega
 have dg2 : ¬ ((mid : Int) < (m : Int)) := by omega
 have HT := hid (And.intro ht hmid)
 clear ht hmid hN hPP;go_enter Tryz.func170, Tryz.ntmps170
 go_wp2_with fail;clear q1 q2 q3 q4 hm1 hm2 hb1 hb2 et et1 et2 et3 et4 et5 eh eh2 eu ew ewt eN eN1 eN2 eP eP1 eP2 dg dg2 HT;go_loopw [20, 21, 23] (fun sv rv _ wr => ∃ s r : Nat, (a ≤ s ∧ s ≤ r ∧ r ≤ m) ∧ sv = .int .i64 (s : Int) ∧ rv = .int .i64 (r : Int) ∧ Hid ((s = a ∨ 0 ≤ cf (p (N - s)) (p (s - 1))) ∧ (r = m ∨ cf (p (N - 1 - r)) (p r) < 0)) ∧ Hid (Hd wr g o n cap A p ∧ Kp [g] w wr)) (fun sv rv _ _ => (intOf rv).toNat - (intOf sv).toNat)
 case atStart => exact ⟨a, m, by omega, rfl, rfl, hid ⟨.inl rfl, .inl rfl⟩, hid ⟨HH.out, Kp.refl _ _⟩⟩
 case round =>
  obtain ⟨s, r, ⟨bs, bsr, br⟩, rfl, rfl, hs, hw⟩ := hrel
  by_cases hsr : s < r
  ·have i0 : (s : Int) < (r : Int) := by omega
   obtain ⟨t, ht⟩ : ∃ t : Nat, t = s + r := ⟨_, rfl⟩
   obtain ⟨c, hc⟩ : ∃ h : Nat, h = t / 2 := ⟨_, rfl⟩
   have et : (s : Int) + (r : Int) = (t : Int) := by omega
   have et1 : (-9223372036854775808 : Int) ≤ (s : Int) + (r : Int) := by omega
   have et2 : (s : Int) + (r : Int) ≤ 9223372036854775807 := by omega
   have et3 : (0 : Int) ≤ (t : Int) := by omega
   have et4 : (t : Int) ≤ 9223372036854775807 := by omega
   have et5 : (t : Int) < 18446744073709551616 := by omega
   have eh : (t : Int) / 2 = (c : Int) := by omega
   have eh2 : (c : Int) ≤ 9223372036854775807 := by omega
   have eu : IntKind.u64.wrap (t : Int) = (t : Int) := by rw [IntKind.wrap_u64]; omega
   have ew : IntKind.i64.wrap (c : Int) = (c : Int) := by rw [IntKind.wrap_i64]; omega
   have ewt : IntKind.i64.wrap (t : Int) = (t : Int) := by rw [IntKind.wrap_i64]; omega
   have hcb : s ≤ c ∧ c < r := by omega
   have HT := hid (And.intro ht hc)
   clear ht hc;obtain ⟨x, hx⟩ : ∃ x : Nat, x = PP - c := ⟨_, rfl⟩
   have ex : (PP : Int) - (c : Int) = (x : Int) := by omega
   have wx : IntKind.i64.wrap ((PP : Int) - (c : Int)) = (x : Int) := by rw [ex, IntKind.wrap_i64]; omega
   have wx2 : IntKind.i64.wrap (x : Int) = (x : Int) := by rw [IntKind.wrap_i64]; omega
   have hxn : x < n := by omega
   have i1 : (0 : Int) ≤ (c : Int) := by omega
   have i2 : (c : Int) < (n : Int) := by omega
   have i3 : (0 : Int) ≤ (x : Int) := by omega
   have i4 : (x : Int) < (n : Int) := by omega
   have i5 : (c : Int) + 1 ≤ 9223372036854775807 := by omega
   have HX : Hid (x = N - 1 - c ∧ x = N - (c + 1)) := hid (by omega)
   clear hx;have cC := hid (fun W' (k : Kp [] wr W') => HC.out.calls W' (p x) (p c) (HC.out.keep _ _ HI.out (hw.out.2.trans k (by simp))) (HPN.out _ (by omega)) (HPN.out _ (by omega)))
   obtain ⟨x0, _⟩ := hw.out.1.cells x (by omega)
   obtain ⟨y0, _⟩ := hw.out.1.cells c (by omega)
   obtain ⟨V1, hV1⟩ : ∃ V, Hid (V = A (p x)) := ⟨_, hid rfl⟩
   obtain ⟨V2, hV2⟩ : ∃ V, Hid (V = A (p c)) := ⟨_, hid rfl⟩
   rw [← hV1.out] at x0 cC;rw [← hV2.out] at y0 cC;obtain ⟨C, hCf⟩ : ∃ C, Hid (cf (p x) (p c) = C) := ⟨_, hid rfl⟩
   rw [hCf.out] at cC;obtain ⟨a1, c1, l1⟩ := V1;obtain ⟨a2, c2, l2⟩ := V2;simp only [Vs.v] at cC;dsimp only at *;have hF : Hid (∀ W', Kp [] wr W' → (W'.cell? ⟨g, o + x, none⟩ = some (.slice a1 l1.length c1) ∧ W'.cell? ⟨g, o + c, none⟩ = some (.slice a2 l2.length c2))) := fun W' k => ⟨kpAt k x0, kpAt k y0⟩
   clear x0 y0 hV1 hV2;go_wp2_with fail;refine wp_region_held_drew (S := fun W' => W'.cell? ⟨g, o + x, none⟩ = some (.slice a1 l1.length c1) ∧ W'.cell? ⟨g, o + c, none⟩ = some (.slice a2 l2.length c2)) (by kernel_rfl) ?_ (fun hHeld => ?_)
   ·exact hF.out _ (Kp.refl [] wr).drew
   have KD : Hid (Kp [] wr wr.drew) := hid (Kp.refl [] wr).drew
   generalize wr.drew = Wd at *
   refine tkH ?_ 0 rfl (by kernel_rfl) (fun _ _ _ h => h) (by rfl) ?_ ‹_› ?_;rotate_left
   ·intro w h; (try dsimp only at h); go_simp <;> with_reducible rfl
   (try simp only [Act.put, lz]);refine tkH ?_ 1 rfl (by kernel_rfl) (fun _ _ _ h => h) (by rfl) ?_ ‹_› ?_;rotate_left
   ·intro w h; (try dsimp only at h); go_simp <;> with_reducible rfl
   (try simp only [Act.put, lz]);refine tkH ?_ 2 rfl (by kernel_rfl) (fun _ _ _ h => h) (by rfl) ?_ ‹_› ?_;rotate_left
   ·intro w h; (try dsimp only at h); go_simp <;> with_reducible rfl
   (try simp only [Act.put, lz]);refine tkH ?_ 3 rfl (by kernel_rfl) (fun _ _ _ h => h) (by rfl) ?_ ‹_› ?_;rotate_left
   ·intro w h; (try dsimp only at h); go_simp <;> with_reducible rfl
   (try simp only [Act.put, lz]);refine tkH ?_ 4 rfl (by kernel_rfl) (fun _ _ _ h => h) (by rfl) ?_ ‹_› ?_;rotate_left
   ·intro w hSw; (try dsimp only at hSw); go_simp <;> (try simp only [wx, wx2]) <;> with_reducible rfl
   (try simp only [Act.put, lz]);try simp only [wx, wx2]
   refine tkH ?_ 5 rfl (by kernel_rfl) (fun _ _ _ h => h) (by rfl) ?_ ‹_› ?_;rotate_left
   ·intro w h; (try dsimp only at h); go_simp <;> with_reducible rfl
   (try simp only [Act.put, lz]);refine tkH ?_ 6 rfl (by kernel_rfl) (fun _ _ _ h => h) (by rfl) ?_ ‹_› ?_;rotate_left
   ·intro w h; (try dsimp only at h); go_simp <;> with_reducible rfl
   (try simp only [Act.put, lz]);refine tkH ?_ 7 rfl (by kernel_rfl) (fun _ _ _ h => h) (by rfl) ?_ ‹_› ?_;rotate_left
   ·intro w h; (try dsimp only at h); go_simp <;> with_reducible rfl
   (try simp only [Act.put, lz]);refine tkH ?_ 8 rfl (by kernel_rfl) (fun _ _ _ h => h) (by rfl) ?_ ‹_› ?_;rotate_left
   ·intro w h; (try dsimp only at h); go_simp <;> with_reducible rfl
   (try simp only [Act.put, lz]);refine tkH ?_ 9 rfl (by kernel_rfl) (fun _ _ _ h => h) (by rfl) ?_ ‹_› ?_;rotate_left
   ·intro w h; (try dsimp only at h); go_simp <;> with_reducible rfl
   (try simp only [Act.put, lz]);refine tkH ?_ 10 rfl (by kernel_rfl) (fun _ _ _ h => h) (by rfl) ?_ ‹_› ?_;rotate_left
   ·intro w h; (try dsimp only at h); go_simp <;> with_reducible rfl
   (try simp only [Act.put, lz]);refine rdH 11 (by kernel_rfl) rfl fun K hK => ?_
   go_simp;refine (cC.out Wd KD.out).mono ?_;rintro e u1 ⟨rfl, l1'⟩;(try go_wp2_with fail);refine hK.out _ _ ?_ (fun hHeld => ?_)
   ·exact hF.out _ (KD.out.trans l1' (by simp))
   clear hK K;(try simp only [Act.put, lz]);have K1 := hid (KD.out.trans l1' (by simp))
   clear l1' KD;have hw1 : Hid (Hd u1 g o n cap A p ∧ Kp [g] w u1) := hid ⟨hw.out.1.kept K1.out, hw.out.2.trans K1.out (by simp)⟩
   by_cases hc0 : C < 0
   ·have dc : decide (C < 0) = true := by simpa using hc0
    refine tkH ?_ 12 rfl (by kernel_rfl) (fun _ _ _ h => h) (by rfl) ?_ ‹_› ?_;rotate_left
    ·intro w hSw; (try dsimp only at hSw); go_simp <;> (try simp only [dc]) <;> with_reducible rfl
    (try simp only [Act.put, lz]);try simp only [dc]
    refine tkH ?_ 13 rfl (by kernel_rfl) (fun _ _ _ h => h) (by rfl) ?_ ‹_› ?_;rotate_left
    ·intro w h; (try dsimp only at h); go_simp <;> with_reducible rfl
    (try simp only [Act.put, lz]);try simp only [Bool.not_true, Bool.not_false]
    refine wpAnyH_done (by kernel_rfl) ?_ _
    have hs2 : Hid ((s = a ∨ 0 ≤ cf (p (N - s)) (p (s - 1))) ∧ (c = m ∨ cf (p (N - 1 - c)) (p c) < 0)) := hid ⟨hs.out.1, .inr (by rw [← HX.out.1, hCf.out]; exact hc0)⟩
    clear hHeld hF cC hs hw hc0;go_wp2_with fail;exact ⟨⟨s, c, by omega, rfl, rfl, hs2, hw1⟩, by simp [intOf]; omega⟩
   ·have dc : decide (C < 0) = false := by simpa using hc0
    refine tkH ?_ 12 rfl (by kernel_rfl) (fun _ _ _ h => h) (by rfl) ?_ ‹_› ?_;rotate_left
    ·intro w hSw; (try dsimp only at hSw); go_simp <;> (try simp only [dc]) <;> with_reducible rfl
    (try simp only [Act.put, lz]);try simp only [dc]
    refine tkH ?_ 13 rfl (by kernel_rfl) (fun _ _ _ h => h) (by rfl) ?_ ‹_› ?_;rotate_left
    ·intro w h; (try dsimp only at h); go_simp <;> with_reducible rfl
    (try simp only [Act.put, lz]);try simp only [Bool.not_true, Bool.not_false]
    refine wpAnyH_done (by kernel_rfl) ?_ _
    have hs2 : Hid ((c + 1 = a ∨ 0 ≤ cf (p (N - (c + 1))) (p (c + 1 - 1))) ∧ (r = m ∨ cf (p (N - 1 - r)) (p r) < 0)) := hid ⟨.inr (by rw [Nat.add_sub_cancel, ← HX.out.2, hCf.out]; omega), hs.out.2⟩
    clear hHeld hF cC hs hw hc0;go_wp2_with fail;exact ⟨⟨c + 1, r, by omega, by go_num, rfl, hs2, hw1⟩, by simp [intOf]; omega⟩
  ·have er : r = s := by omega
   subst er;rename_i s_
   obtain ⟨s, hss⟩ : ∃ s : Nat, s = r := ⟨_, rfl⟩
   subst hss;obtain ⟨e, he⟩ : ∃ e : Nat, e = N - s := ⟨_, rfl⟩
   have eE : (N : Int) - (s : Int) = (e : Int) := by omega
   have eE1 : (-9223372036854775808 : Int) ≤ (N : Int) - (s : Int) := by omega
   have eE2 : (N : Int) - (s : Int) ≤ 9223372036854775807 := by omega
   have heb : m ≤ e ∧ e ≤ b ∧ s ≤ mid ∧ s ≤ m ∧ a ≤ s := by omega
   have hem : Hid (mid = s + (e - m)) := hid (by omega)
   have hmb2 : mid < b ∧ a < mid ∧ mid ≤ e := by omega
   have SP := hid (sym_parts HC.out.swo (p := p) heb.2.2.2.2 heb.2.2.2.1 heb.1 heb.2.1 hem.out HSR.out.1 HSR.out.2.1 HSR.out.2.2 (fun g1 g2 => by
    rcases hs.out.2 with h5 | h5
    ·omega
    ·rw [show e - 1 = N - 1 - s by omega]; exact h5) (fun g1 g2 => by
    rcases hs.out.1 with h5 | h5
    ·omega
    ·rw [he]; exact Int.not_lt.2 h5))
   clear he hem hs;go_upto_region 39 with fail
   go_cut [185] from 178 to 186 (fun v wx => ∃ B : Bool, v = .bool B ∧ Hid (B = decide (s < m ∧ m < e)) ∧ wx = wr)
   case first =>
    by_cases c1 : s < m
    ·have d1 : decide ((s : Int) < (m : Int)) = true := by simp; omega
     have d1n : decide (s < m) = true := by simp; omega
     by_cases c2 : m < e
     ·have d2 : decide ((m : Int) < (e : Int)) = true := by simp; omega
      have d2n : decide (m < e) = true := by simp; omega
      go_wp2_with fail;go_meet
      case rel => exact ⟨true, rfl, hid (by simp [c1, c2]), rfl⟩
     ·have d2 : decide ((m : Int) < (e : Int)) = false := by simp; omega
      have d2n : decide (m < e) = false := by simp; omega
      go_wp2_with fail;go_meet
      case rel => exact ⟨false, rfl, hid (by simp; omega), rfl⟩
    ·have d1 : decide ((s : Int) < (m : Int)) = false := by simp; omega
     have d1n : decide (s < m) = false := by simp; omega
     go_wp2_with fail;go_meet
     case rel => exact ⟨false, rfl, hid (by simp; omega), rfl⟩
   case rest =>
    obtain ⟨B, rfl, hB, rfl⟩ := hcut;go_upto_if 185 with fail
    go_cut [] from 186 to 192 (fun wx => Hid (Hd wx g o n cap A (fun k => p (rot s m e k)) ∧ Kp [g] w wx))
    case first =>
     cases B with
     | true =>
      have c12 : s < m ∧ m < e := of_decide_eq_true hB.out.symm
      have cR := hid (cRot g o n cap A p s m e (.func (.func fid) #[] #[cv]) wc hw.out.1 c12.1 c12.2 (by omega) hn hcap)
      clear c12;go_wp2_with fail;refine cR.out.mono ?_;rintro e' wt ⟨⟨v, rfl⟩, hd, kd⟩;have HR := hid (And.intro hd (hw.out.2.trans kd (by simp)))
      clear hd kd cR hw;go_wp2_with fail;go_meet
      case rel => exact HR
     | false =>
      have c12 : ¬ (s < m ∧ m < e) := of_decide_eq_false hB.out.symm
      have HR : Hid (Hd wc g o n cap A (fun k => p (rot s m e k)) ∧ Kp [g] w wc) := hid (by
       by_cases c1 : s < m
       ·rw [show e = m by omega, rot_right s m (by omega)]; exact hw.out
       ·rw [show s = m by omega, rot_left]; exact hw.out)
      clear c12;go_wp2_with fail;go_meet
      case rel => exact HR
    case rest =>
     have HR := hcut
     clear hcut hw hB;rename_i wr
     go_upto_region 41 with fail
     go_cut [199] from 192 to 200 (fun v wx => ∃ B : Bool, v = .bool B ∧ Hid (B = decide (a < s ∧ s < mid)) ∧ wx = wc)
     case first =>
      by_cases c3 : a < s
      ·have e1 : decide ((a : Int) < (s : Int)) = true := by simp; omega
       have e1n : decide (a < s) = true := by simp; omega
       by_cases c4 : s < mid
       ·have e2 : decide ((s : Int) < (mid : Int)) = true := by simp; omega
        have e2n : decide (s < mid) = true := by simp; omega
        go_wp2_with fail;go_meet
        case rel => exact ⟨true, rfl, hid (by simp [c3, c4]), rfl⟩
       ·have e2 : decide ((s : Int) < (mid : Int)) = false := by simp; omega
        have e2n : decide (s < mid) = false := by simp; omega
        go_wp2_with fail;go_meet
        case rel => exact ⟨false, rfl, hid (by simp; omega), rfl⟩
      ·have e1 : decide ((a : Int) < (s : Int)) = false := by simp; omega
       have e1n : decide (a < s) = false := by simp; omega
       go_wp2_with fail;go_meet
       case rel => exact ⟨false, rfl, hid (by simp; omega), rfl⟩
     case rest =>
      obtain ⟨B, rfl, hB, rfl⟩ := hcut;go_upto_if 199 with fail
      go_cut [] from 200 to 206 (fun wx => ∃ sa : Nat → Nat, Hid (PermIn a mid sa) ∧ Hid (Srt (fun x y => cf x y < 0) (fun k => p (rot s m e (sa k))) a mid) ∧ Hid (Hd wx g o n cap A (fun k => p (rot s m e (sa k))) ∧ Kp [g] w wx))
      case first =>
       cases B with
       | true =>
        have c34 : a < s ∧ s < mid := of_decide_eq_true hB.out.symm
        have cM1 := hid (HIH.out (fun k => p (rot s m e k)) a s mid wc (by omega) HR.out.1 (HC.out.keep _ _ HI.out HR.out.2) (fun k hk => HPN.out _ (((rot_perm (Nat.zero_le s) (by omega) (by omega) (by omega) : PermIn 0 n (rot s m e))).1 k (Nat.zero_le _) hk).2) c34.1 c34.2 (by omega) SP.out.1.1 SP.out.1.2.1 SP.out.1.2.2)
        clear c34;go_wp2_with fail;refine cM1.out.mono ?_;rintro e' wm ⟨⟨v, rfl⟩, sa, pa, sa', ha', ka⟩;have PA := hid pa
        have SA := hid sa'
        have HD := hid (And.intro ha' (HR.out.2.trans ka (by simp)))
        clear pa sa' ha' ka cM1 HR;go_wp2_with fail;go_meet
        case rel => exact ⟨sa, PA, SA, HD⟩
       | false =>
        have c34 : ¬ (a < s ∧ s < mid) := of_decide_eq_false hB.out.symm
        have SA : Hid (Srt (fun x y => cf x y < 0) (fun k => p (rot s m e k)) a mid) := hid (by
         by_cases c7 : s = a
         ·have := SP.out.1.2.1; rwa [c7] at this ⊢
         ·have c8 : s = mid := by omega
          have := SP.out.1.1; rw [c8] at this ⊢; exact this)
        clear c34;go_wp2_with fail;go_meet
        case rel => exact ⟨fun k => k, hid (PermIn.id _ _), SA, HR⟩
      case rest =>
       obtain ⟨sa, PA, SA, HD⟩ := hcut;clear HR hB;rename_i wr
       have hmx : Hid ((∀ k, mid ≤ k → p (rot s m e (sa k)) = p (rot s m e k))) := hid (fun k hk => by rw [PA.out.2.1 k (by omega)])
       by_cases c5 : mid < e
       ·have f1 : decide ((mid : Int) < (e : Int)) = true := by simp; omega
        have f1n : decide (mid < e) = true := by simp; omega
        by_cases c6 : e < b
        ·have f2 : decide ((e : Int) < (b : Int)) = true := by simp; omega
         have f2n : decide (e < b) = true := by simp; omega
         have cM := hid (HIH.out (fun k => p (rot s m e (sa k))) mid e b wc (by omega) HD.out.1 (HC.out.keep _ _ HI.out HD.out.2) (fun k hk => HPN.out _ (by
          have r1 := (rot_perm (lo := 0) (hi := n) (Nat.zero_le s) (by omega) (by omega) (by omega) : PermIn 0 n (rot s m e))
          have r2 := PA.out.mono (Nat.zero_le a) (show mid ≤ n by omega)
          exact (r1.1 _ (Nat.zero_le _) (r2.1 k (Nat.zero_le _) hk).2).2)) c5 c6 (by omega) (fun i j g1 g2 g3 => by
           show bef _ (p (rot s m e (sa i))) (p (rot s m e (sa j)))
           rw [hmx.out i (by omega), hmx.out j (by omega)]; exact SP.out.2.1.1 i j g1 g2 g3) (fun i j g1 g2 g3 => by
           show bef _ (p (rot s m e (sa i))) (p (rot s m e (sa j)))
           rw [hmx.out i (by omega), hmx.out j (by omega)]; exact SP.out.2.1.2.1 i j g1 g2 g3) (fun i j g1 g2 g3 g4 => by
           show p (rot s m e (sa i)) < p (rot s m e (sa j))
           rw [hmx.out i (by omega), hmx.out j (by omega)]; exact SP.out.2.1.2.2 i j g1 g2 g3 g4))
         have KX := hid HD.out.2
         clear c5 c6;go_wp2_with fail;refine cM.out.mono ?_;rintro e' wz ⟨⟨v, rfl⟩, t, pt, st, ht', kt⟩
         have hfin : Hid (PermIn a b (fun k => rot s m e (sa (t k))) ∧ Srt (fun x y => cf x y < 0) (fun k => p (rot s m e (sa (t k)))) a b ∧ Hd wz g o n cap A (fun k => p (rot s m e (sa (t k)))) ∧ Kp [g] w wz) := hid ⟨(rot_perm (by omega) (by omega) (by omega) (by omega)).comp ((PA.out.mono (Nat.le_refl _) (by omega)).comp (pt.mono (by omega) (Nat.le_refl _))), Srt.join (p := fun k => p (rot s m e k)) PA.out pt SA.out (fun i j g1 g2 g3 => by
          have h5 := st i j g1 g2 g3
          have h6 := pt.1 i g1 (by omega)
          have h7 := pt.1 j (by omega) g3
          simp only [hmx.out _ h6.1, hmx.out _ h7.1] at h5;exact h5) SP.out.2.2, ht', KX.out.trans kt (by simp)⟩
         clear pt st ht' kt KX;go_wp2_with fail;go_end0
         exact ⟨⟨_, rfl⟩, _, hfin.out.1, hfin.out.2.1, hfin.out.2.2.1, hfin.out.2.2.2⟩
        ·have f2 : decide ((e : Int) < (b : Int)) = false := by simp; omega
         have f2n : decide (e < b) = false := by simp; omega
         have sB : Srt (fun x y => cf x y < 0) (fun k => p (rot s m e k)) mid b := by
          by_cases c7 : e = mid
          ·rw [← c7]; exact SP.out.2.1.2.1
          ·have c8 : e = b := by omega
           rw [← c8]; exact SP.out.2.1.1
         have hfin : Hid (PermIn a b (fun k => rot s m e (sa k)) ∧ Srt (fun x y => cf x y < 0) (fun k => p (rot s m e (sa k))) a b) := hid ⟨(rot_perm (by omega) (by omega) (by omega) (by omega)).comp (PA.out.mono (Nat.le_refl _) (by omega)), Srt.join (p := fun k => p (rot s m e k)) PA.out (PermIn.id mid b) SA.out sB SP.out.2.2⟩
         clear sB c5;go_wp2_with fail;go_end0
         exact ⟨⟨_, rfl⟩, _, hfin.out.1, hfin.out.2, HD.out.1, HD.out.2⟩
       ·have f1 : decide ((mid : Int) < (e : Int)) = false := by simp; omega
        have f1n : decide (mid < e) = false := by simp; omega
        have sB : Srt (fun x y => cf x y < 0) (fun k => p (rot s m e k)) mid b := by
         by_cases c7 : e = mid
         ·rw [← c7]; exact SP.out.2.1.2.1
         ·have c8 : e = b := by omega
          rw [← c8]; exact SP.out.2.1.1
        have hfin : Hid (PermIn a b (fun k => rot s m e (sa k)) ∧ Srt (fun x y => cf x y < 0) (fun k => p (rot s m e (sa k))) a b) := hid ⟨(rot_perm (by omega) (by omega) (by omega) (by omega)).comp (PA.out.mono (Nat.le_refl _) (by omega)), Srt.join (p := fun k => p (rot s m e k)) PA.out (PermIn.id mid b) SA.out sB SP.out.2.2⟩
        clear sB c5;go_wp2_with fail;go_end0
        exact ⟨⟨_, rfl⟩, _, hfin.out.1, hfin.out.2, HD.out.1, HD.out.2⟩
theorem cSym {fid : Nat} (g o n cap : Nat) (A : Nat → Vs) (cv : Value) (cf : Nat → Nat → Int) (Inv : World → Prop) (hC : CmpOk fid g n A cv cf Inv) (hn : n ≤ 4000000000000) (hcap : n ≤ cap) : ∀ (d : Nat) (p : Nat → Nat) (a m b : Nat) (w : World), b - a ≤ d → Hd w g o n cap A p → Inv w → (∀ k, k < n → p k < n) → a < m → m < b → b ≤ n → Srt (fun x y => cf x y < 0) p a m → Srt (fun x y => cf x y < 0) p m b → Low p a m b → Calls Tryz.prog 170 #[.slice (some ⟨g, o, none⟩) n cap, .int .i64 (a : Int), .int .i64 (m : Int), .int .i64 (b : Int), .func (.func fid) #[] #[cv]] w fun e w' => (∃ v, e = .returned v) ∧ ∃ s, PermIn a b s ∧ Srt (fun x y => cf x y < 0) (fun k => p (s k)) a b ∧ Hd w' g o n cap A (fun k => p (s k)) ∧ Kp [g] w w'
 | 0, p, a, m, b, w, hd, h, hI, hpn, h1, h2, h3, hA, hB, hLo => by omega
 | d + 1, p, a, m, b, w, hd, h, hI, hpn, h1, h2, h3, hA, hB, hLo => by
  by_cases c1 : m ≤ a + 1
  ·exact cSymA g o n cap A cv cf Inv hC p a m b w h hI hpn h1 h2 h3 hA hB hLo hn hcap c1
  by_cases c2 : b ≤ m + 1
  ·exact cSymB g o n cap A cv cf Inv hC p a m b w h hI hpn h1 h2 h3 hA hB hLo hn hcap (by omega) c2
  have IH := fun (p' : Nat → Nat) (a' m' b' : Nat) (w' : World) (hlt : b' - a' < b - a) h' hI' hpn' h1' h2' h3' hA' hB' hLo' => cSym g o n cap A cv cf Inv hC hn hcap d p' a' m' b' w' (by omega) h' hI' hpn' h1' h2' h3' hA' hB' hLo'
  by_cases c3 : a + b < 2 * m
  ·exact cSymC1 g o n cap A cv cf Inv hC p a m b w h hI hpn h1 h2 h3 hA hB hLo hn hcap (by omega) (by omega) c3 IH
  ·exact cSymC2 g o n cap A cv cf Inv hC p a m b w h hI hpn h1 h2 h3 hA hB hLo hn hcap (by omega) (by omega) (by omega) IH
def Sg (lt : Nat → Nat → Prop) (s : Nat → Nat) (x y : Nat) : Prop := Srt lt s x y ∧ ∀ k, x ≤ k → k < y → x ≤ s k ∧ s k < y
theorem Sg.congr {lt : Nat → Nat → Prop} {s t : Nat → Nat} {x y : Nat} (h : Sg lt s x y) (ht : ∀ k, x ≤ k → k < y → t k = k) : Sg lt (fun k => s (t k)) x y :=
 ⟨fun i j g1 g2 g3 => by
  show bef lt (s (t i)) (s (t j))
  rw [ht i g1 (by omega), ht j (by omega) g3]
  exact h.1 i j g1 g2 g3, fun k g1 g2 => by
  show x ≤ s (t k) ∧ s (t k) < y
  rw [ht k g1 g2];exact h.2 k g1 g2⟩
theorem Sg.merged {lt : Nat → Nat → Prop} {s t : Nat → Nat} {a m b : Nat} (h1 : Sg lt s a m) (h2 : Sg lt s m b) (hab : a ≤ m) (hmb : m ≤ b) (ht : PermIn a b t) (hs : Srt lt (fun k => s (t k)) a b) : Sg lt (fun k => s (t k)) a b :=
 ⟨hs, fun k g1 g2 => by
  show a ≤ s (t k) ∧ s (t k) < b
  have h3 := ht.1 k g1 g2
  by_cases c : t k < m
  ·have := h1.2 _ h3.1 c
   omega
  ·have := h2.2 (t k) (by omega) h3.2
   omega⟩
theorem Sg.low {lt : Nat → Nat → Prop} {s : Nat → Nat} {a m b : Nat} (h1 : Sg lt s a m) (h2 : Sg lt s m b) : Low s a m b := fun i j g1 g2 g3 g4 => by
 have := h1.2 i g1 g2
 have := h2.2 j g3 g4
 omega
inductive Ln (lt : Nat → Nat → Prop) (s : Nat → Nat) (bs : Nat) : Nat → Prop
 | nil : Ln lt s bs 0
 | snoc {x : Nat} : Ln lt s bs x → Sg lt s x (x + bs) → Ln lt s bs (x + bs)
inductive Rn (lt : Nat → Nat → Prop) (s : Nat → Nat) (bs n : Nat) : Nat → Prop
 | done {x : Nat} : n ≤ x → Rn lt s bs n x
 | step {x : Nat} : x < n → Sg lt s x (min (x + bs) n) → Rn lt s bs n (x + bs) → Rn lt s bs n x
theorem Ln.congr {lt : Nat → Nat → Prop} {s t : Nat → Nat} {bs x : Nat} (h : Ln lt s bs x) : (∀ k, k < x → t k = k) → Ln lt (fun k => s (t k)) bs x := by
 induction h with
 | nil => intro _; exact .nil
 | snoc h1 h2 ih => intro ht; exact .snoc (ih fun k hk => ht k (by omega)) (h2.congr fun k _ g => ht k g)
theorem Rn.congr {lt : Nat → Nat → Prop} {s t : Nat → Nat} {bs n x : Nat} (h : Rn lt s bs n x) : (∀ k, x ≤ k → k < n → t k = k) → Rn lt (fun k => s (t k)) bs n x := by
 induction h with
 | done h => intro _; exact .done h
 | step h1 h2 h3 ih => intro ht; exact .step h1 (h2.congr fun k g1 g2 => ht k g1 (by omega)) (ih fun k g1 g2 => ht k (by omega) g2)
theorem Ln.all {lt : Nat → Nat → Prop} {s : Nat → Nat} {bs n x : Nat} (h : Ln lt s bs x) (hb : 0 < bs) : x ≤ n → Rn lt s bs n x → Rn lt s bs n 0 := by
 induction h with
 | nil => intro _ h; exact h
 | snoc h1 h2 ih => intro hx hr; exact ih (by omega) (.step (by omega) (by rw [Nat.min_eq_left hx]; exact h2) hr)
theorem Rn.two {lt : Nat → Nat → Prop} {s : Nat → Nat} {bs n a : Nat} (h : Rn lt s bs n a) (hb : 0 < bs) (hab : a + bs < n) : Sg lt s a (a + bs) ∧ Sg lt s (a + bs) (min (a + bs + bs) n) ∧ Rn lt s bs n (a + bs + bs) := by
 cases h with
 | done h => omega
 | step h1 h2 h3 =>
  rw [Nat.min_eq_left (by omega)] at h2
  cases h3 with
  | done h => omega
  | step h4 h5 h6 => exact ⟨h2, h5, h6⟩
theorem Rn.last {lt : Nat → Nat → Prop} {s : Nat → Nat} {bs n a : Nat} (h : Rn lt s bs n a) (han : a < n) (hab : n ≤ a + bs) : Sg lt s a n := by
 cases h with
 | done h => omega
 | step h1 h2 h3 => rwa [Nat.min_eq_right hab] at h2
theorem Sg.fresh {lt : Nat → Nat → Prop} {s t : Nat → Nat} {a b : Nat} (hs : PermIn 0 a s) (ht : PermIn a b t) (h : Srt lt (fun k => s (t k)) a b) : Sg lt (fun k => s (t k)) a b :=
 ⟨h, fun k g1 g2 => by
  show a ≤ s (t k) ∧ s (t k) < b
  have h3 := ht.1 k g1 g2
  rw [hs.2.1 (t k) (by omega)]
  exact h3⟩
theorem cStable {fid : Nat} (g o n cap : Nat) (A : Nat → Vs) (cv : Value) (cf : Nat → Nat → Int) (Inv : World → Prop) (hC : CmpOk fid g n A cv cf Inv) (hn : n ≤ 4000000000000) (hcap : n ≤ cap) (w : World) (h : Hd w g o n cap A (fun k => k)) (hI : Inv w) : Calls Tryz.prog 148 #[.slice (some ⟨g, o, none⟩) n cap, .int .i64 (n : Int), .func (.func fid) #[] #[cv]] w fun e w' => (∃ v, e = .returned v) ∧ ∃ s, PermIn 0 n s ∧ Srt (fun x y => cf x y < 0) s 0 n ∧ Hd w' g o n cap A s ∧ Kp [g] w w' := by
 have HC := hid hC
 have hE := hC.enter
 have HI := hid hI
 have HH := hid h
 clear hC hI h;go_enter Tryz.func148, Tryz.ntmps148
 go_wp2_with fail;go_loopw [7, 8] (fun av bv wr => ∃ (a b : Nat) (s : Nat → Nat), (a ≤ n ∧ a + 20 ≤ b ∧ b ≤ a + 20) ∧ av = .int .i64 (a : Int) ∧ bv = .int .i64 (b : Int) ∧ Hid (PermIn 0 a s ∧ Ln (fun x y => cf x y < 0) s 20 a) ∧ Hid (Hd wr g o n cap A s ∧ Kp [g] w wr)) (fun av _ _ => n + 20 - (intOf av).toNat)
 case atStart => exact ⟨0, 20, fun k => k, by omega, rfl, rfl, hid ⟨PermIn.id _ _, .nil⟩, hid ⟨HH.out, Kp.refl _ _⟩⟩
 case round =>
  obtain ⟨a, b, s, ⟨ba, bb1, bb2⟩, rfl, rfl, hs, hw⟩ := hrel
  by_cases hbn : b ≤ n
  ·have d0 : decide ((b : Int) ≤ (n : Int)) = true := by simp; omega
   have d1 : (b : Int) ≤ (n : Int) := by omega
   have cI := hid (cIns g o n cap A cv cf Inv HC.out s a b wr hw.out.1 (HC.out.keep _ _ HI.out hw.out.2) (fun k g1 g2 => hs.out.1.2.1 k (by omega)) (by omega) hbn hn hcap)
   obtain ⟨b', hb2'⟩ : ∃ x : Nat, x = b + 20 := ⟨_, rfl⟩
   have ebx : (b : Int) + 20 = (b' : Int) := by omega
   have ebx1 : (-9223372036854775808 : Int) ≤ (b : Int) + 20 := by omega
   have ebx2 : (b : Int) + 20 ≤ 9223372036854775807 := by omega
   have HW := hid hw.out.2
   have hb3 : a ≤ b ∧ b + 20 ≤ b' ∧ b' ≤ b + 20 := by omega
   clear hb2' hw;go_wp2_with fail;refine cI.out.mono ?_;rintro e w1 ⟨⟨v, rfl⟩, t, pt, st, hd, kd⟩
   have hs2 : Hid (PermIn 0 b (fun k => s (t k)) ∧ Ln (fun x y => cf x y < 0) (fun k => s (t k)) 20 b) := hid ⟨(hs.out.1.mono (Nat.le_refl _) (by omega)).comp (pt.mono (Nat.zero_le _) (Nat.le_refl _)), by
    have e : b = a + 20 := by omega
    subst e;exact .snoc (hs.out.2.congr fun k hk => pt.2.1 k (by omega)) (Sg.fresh hs.out.1 pt st)⟩
   have hw2 := hid (And.intro hd (HW.out.trans kd (by simp)))
   clear pt st hd kd hs HW cI;go_wp2_with fail;exact ⟨⟨b, b', fun k => s (t k), by omega, rfl, rfl, hs2, hw2⟩, by simp [intOf]; omega⟩
  ·have d0 : decide ((b : Int) ≤ (n : Int)) = false := by simp; omega
   have d1 : ¬ ((b : Int) ≤ (n : Int)) := by omega
   have cI := hid (cIns g o n cap A cv cf Inv HC.out s a n wr hw.out.1 (HC.out.keep _ _ HI.out hw.out.2) (fun k g1 g2 => hs.out.1.2.1 k (by omega)) ba (Nat.le_refl _) hn hcap)
   have HW := hid hw.out.2
   clear hw;go_wp2_with fail;refine cI.out.mono ?_;rintro e w1 ⟨⟨v, rfl⟩, t, pt, st, hd, kd⟩
   have hs2 : Hid (PermIn 0 n (fun k => s (t k)) ∧ Rn (fun x y => cf x y < 0) (fun k => s (t k)) 20 n 0) := hid ⟨(hs.out.1.mono (Nat.le_refl _) ba).comp (pt.mono (Nat.zero_le _) (Nat.le_refl _)), (hs.out.2.congr fun k hk => pt.2.1 k (by omega)).all (by omega) ba (by
    by_cases c : a < n
    ·exact .step c (by rw [Nat.min_eq_right (by omega)]; exact Sg.fresh hs.out.1 pt st) (.done (by omega))
    ·exact .done (by omega))⟩
   have hw2 := hid (And.intro hd (HW.out.trans kd (by simp)))
   clear pt st hd kd hs HW cI;go_wp2_with fail;go_loopw [6, 7, 8, 9] (fun zv _ _ _ wn => ∃ (bs : Nat) (s : Nat → Nat), (20 ≤ bs ∧ bs ≤ n + n + 20) ∧ zv = .int .i64 (bs : Int) ∧ Hid (PermIn 0 n s ∧ Rn (fun x y => cf x y < 0) s bs n 0) ∧ Hid (Hd wn g o n cap A s ∧ Kp [g] w wn)) (fun zv _ _ _ _ => n + n + 20 - (intOf zv).toNat)
   case atStart => exact ⟨20, _, by omega, rfl, hs2, hw2⟩
   case round =>
    obtain ⟨bs, s, ⟨bz1, bz2⟩, rfl, hs, hw⟩ := hrel;clear hs2 hw2
    by_cases hzn : bs < n
    ·have i0 : (bs : Int) < (n : Int) := by omega
     obtain ⟨B, hB⟩ : ∃ x : Nat, x = 2 * bs := ⟨_, rfl⟩
     have eB : (2 : Int) * (bs : Int) = (B : Int) := by omega
     have eB1 : (-9223372036854775808 : Int) ≤ (2 : Int) * (bs : Int) := by omega
     have eB2 : (2 : Int) * (bs : Int) ≤ 9223372036854775807 := by omega
     obtain ⟨B2, hB2⟩ : ∃ x : Nat, x = 2 * bs := ⟨_, rfl⟩
     have eB2 : (bs : Int) * 2 = (B2 : Int) := by omega
     have eB21 : (-9223372036854775808 : Int) ≤ (bs : Int) * 2 := by omega
     have eB22 : (bs : Int) * 2 ≤ 9223372036854775807 := by omega
     have hBb : bs + bs ≤ B ∧ B ≤ bs + bs ∧ B2 ≤ bs + bs ∧ bs + bs ≤ B2 := by omega
     clear hB hB2;go_wp2_with fail;go_loopw [7, 8] (fun av bv wn => ∃ (a b : Nat) (s : Nat → Nat), (a ≤ n ∧ a + B ≤ b ∧ b ≤ a + B) ∧ av = .int .i64 (a : Int) ∧ bv = .int .i64 (b : Int) ∧ Hid (PermIn 0 n s ∧ Ln (fun x y => cf x y < 0) s B a ∧ Rn (fun x y => cf x y < 0) s bs n a) ∧ Hid (Hd wn g o n cap A s ∧ Kp [g] w wn)) (fun av _ _ => n + 1 - (intOf av).toNat)
     case atStart => exact ⟨0, B, s, by omega, rfl, rfl, hid ⟨hs.out.1, .nil, hs.out.2⟩, hw⟩
     case round =>
      obtain ⟨a, b, s, ⟨ba, bb1, bb2⟩, rfl, rfl, hs, hw⟩ := hrel;obtain ⟨m, hm⟩ : ∃ x : Nat, x = a + bs := ⟨_, rfl⟩
      have em : (a : Int) + (bs : Int) = (m : Int) := by omega
      have em1 : (-9223372036854775808 : Int) ≤ (a : Int) + (bs : Int) := by omega
      have em2 : (a : Int) + (bs : Int) ≤ 9223372036854775807 := by omega
      have hm2 : m ≤ a + bs ∧ a + bs ≤ m := by omega
      clear hm
      by_cases hbn : b ≤ n
      ·have d0 : decide ((b : Int) ≤ (n : Int)) = true := by simp; omega
       have d1 : (b : Int) ≤ (n : Int) := by omega
       obtain ⟨b2, hb2⟩ : ∃ x : Nat, x = b + B := ⟨_, rfl⟩
       have eb2 : (b : Int) + (B : Int) = (b2 : Int) := by omega
       have eb21 : (-9223372036854775808 : Int) ≤ (b : Int) + (B : Int) := by omega
       have eb22 : (b : Int) + (B : Int) ≤ 9223372036854775807 := by omega
       have hb3 : b2 ≤ b + B ∧ b + B ≤ b2 := by omega
       have hem : m = a + bs := by omega
       have heb : b = a + bs + bs := by omega
       obtain ⟨r1, r2, r3⟩ := hs.out.2.2.two (by omega) (by omega)
       rw [Nat.min_eq_left (by omega)] at r2
       rw [← hem] at r1 r2 r3;have heb2 : b = m + bs := by omega
       rw [← heb2] at r2 r3;have cM := hid (cSym g o n cap A cv cf Inv HC.out hn hcap (b - a) s a m b wr (Nat.le_refl _) hw.out.1 (HC.out.keep _ _ HI.out hw.out.2) (fun k hk => (hs.out.1.1 k (Nat.zero_le _) hk).2) (by omega) (by omega) hbn r1.1 r2.1 (r1.low r2))
       have HW := hid hw.out.2
       have RR := hid (And.intro r1 (And.intro r2 r3))
       clear hb2 hw hem heb heb2 r1 r2 r3;go_wp2_with fail;refine cM.out.mono ?_;rintro e w1 ⟨⟨v, rfl⟩, t, pt, st, hd, kd⟩
       have hs2 : Hid (PermIn 0 n (fun k => s (t k)) ∧ Ln (fun x y => cf x y < 0) (fun k => s (t k)) B b ∧ Rn (fun x y => cf x y < 0) (fun k => s (t k)) bs n b) := hid ⟨hs.out.1.comp (pt.mono (Nat.zero_le _) hbn), by
        have hSg := Sg.merged RR.out.1 RR.out.2.1 (by omega) (by omega) pt st
        have e : b = a + B := by omega
        rw [e] at hSg ⊢;exact .snoc (hs.out.2.1.congr fun k hk => pt.2.1 k (by omega)) hSg, RR.out.2.2.congr fun k g1 g2 => pt.2.1 k (by omega)⟩
       have hw2 := hid (And.intro hd (HW.out.trans kd (by simp)))
       clear pt st hd kd hs HW cM RR;go_wp2_with fail;exact ⟨⟨b, b2, fun k => s (t k), by omega, rfl, rfl, hs2, hw2⟩, by simp [intOf]; omega⟩
      ·have d0 : decide ((b : Int) ≤ (n : Int)) = false := by simp; omega
       have d1 : ¬ ((b : Int) ≤ (n : Int)) := by omega
       by_cases hmn : m < n
       ·have i5 : (m : Int) < (n : Int) := by omega
        have hem : m = a + bs := by omega
        obtain ⟨r1, r2, r3⟩ := hs.out.2.2.two (by omega) (by omega)
        rw [Nat.min_eq_right (by omega)] at r2
        rw [← hem] at r1 r2;have cM := hid (cSym g o n cap A cv cf Inv HC.out hn hcap (n - a) s a m n wr (Nat.le_refl _) hw.out.1 (HC.out.keep _ _ HI.out hw.out.2) (fun k hk => (hs.out.1.1 k (Nat.zero_le _) hk).2) (by omega) hmn (Nat.le_refl _) r1.1 r2.1 (r1.low r2))
        have HW := hid hw.out.2
        have RR := hid (And.intro r1 r2)
        clear hw hem r1 r2 r3;go_wp2_with fail;refine cM.out.mono ?_;rintro e w1 ⟨⟨v, rfl⟩, t, pt, st, hd, kd⟩
        have hs2 : Hid (PermIn 0 n (fun k => s (t k)) ∧ Rn (fun x y => cf x y < 0) (fun k => s (t k)) B2 n 0) := hid ⟨hs.out.1.comp (pt.mono (Nat.zero_le _) (Nat.le_refl _)), by
         have hSg := Sg.merged RR.out.1 RR.out.2 (by omega) (by omega) pt st
         have e : B2 = B := by omega
         rw [e];exact (hs.out.2.1.congr fun k hk => pt.2.1 k (by omega)).all (by omega) ba (.step (by omega) (by rw [Nat.min_eq_right (by omega)]; exact hSg) (.done (by omega)))⟩
        have hw2 := hid (And.intro hd (HW.out.trans kd (by simp)))
        clear pt st hd kd hs HW cM RR;go_wp2_with fail;exact ⟨⟨B2, fun k => s (t k), by omega, rfl, hs2, hw2⟩, by simp [intOf]; omega⟩
       ·have i5 : ¬ ((m : Int) < (n : Int)) := by omega
        have i6 : decide ((m : Int) < (n : Int)) = false := by simp; omega
        have hs2 : Hid (PermIn 0 n s ∧ Rn (fun x y => cf x y < 0) s B2 n 0) := hid ⟨hs.out.1, by
         have e : B2 = B := by omega
         rw [e];refine hs.out.2.1.all (by omega) ba ?_
         by_cases c : a < n
         ·exact .step c (by rw [Nat.min_eq_right (by omega)]; exact hs.out.2.2.last c (by omega)) (.done (by omega))
         ·exact .done (by omega)⟩
        clear hs;go_wp2_with fail;exact ⟨⟨B2, s, by omega, rfl, hs2, hw⟩, by simp [intOf]; omega⟩
    ·have d2 : decide ((bs : Int) < (n : Int)) = false := by simp; omega
     have d3 : ¬ ((bs : Int) < (n : Int)) := by omega
     have hfin : Hid (Srt (fun x y => cf x y < 0) s 0 n) := hid (by
      by_cases c : 0 < n
      ·exact (hs.out.2.last c (by omega)).1
      ·exact Srt.one _ _ _ _ (by omega))
     go_wp2_with fail;go_end0
     exact ⟨⟨_, rfl⟩, s, hs.out.1, hfin.out, hw.out.1, hw.out.2⟩
theorem cSortStable {fid : Nat} (g o n cap : Nat) (A : Nat → Vs) (cv : Value) (cf : Nat → Nat → Int) (Inv : World → Prop) (hC : CmpOk fid g n A cv cf Inv) (hn : n ≤ 4000000000000) (hcap : n ≤ cap) (w : World) (h : Hd w g o n cap A (fun k => k)) (hI : Inv w) : Calls Tryz.prog 105 #[.slice (some ⟨g, o, none⟩) n cap, .func (.func fid) #[] #[cv]] w fun e w' => (∃ v, e = .returned v) ∧ ∃ s, PermIn 0 n s ∧ Srt (fun x y => cf x y < 0) s 0 n ∧ Hd w' g o n cap A s ∧ Kp [g] w w' := by
 have cS := hid (cStable g o n cap A cv cf Inv hC hn hcap w h hI)
 clear hC h hI;go_enter Tryz.func105, Tryz.ntmps105
 go_wp2_with fail;refine cS.out.mono ?_;rintro e w1 ⟨⟨v, rfl⟩, hp⟩;have HP := hid hp
 clear hp;go_wp2_with fail;go_end0
 exact ⟨⟨_, rfl⟩, HP.out⟩
end Go.Proofs.YtlgfekjoknbfdaaGreatDoor
end

section
namespace Go.Proofs.YtlgfekjoknbfdaaGreatDoor
open Go.RowKit Go.Hay
attribute [local go_sem] Oper.semAt_some
theorem heSrt : ∀ (args : Array Value) (w : World), (callFunc 106 args).run Tryz.prog w = .ok (.enter 106 args) w := fun _ _ => rfl
theorem getD_l (L : List Vs) (x : Nat) : (L.map (·.l)).getD x [] = (L.getD x default).l := by
 rw [List.getD_eq_getElem?_getD, List.getD_eq_getElem?_getD, List.getElem?_map]
 cases L[x]? <;> rfl
theorem arrId (L : List Vs) : arr (fun i => L.getD i default) (fun k => k) L.length = L := by
 apply List.ext_getElem?
 intro k
 by_cases h : k < L.length
 ·rw [arr_at _ _ _ _ h]
  simp [h]
 ·rw [List.getElem?_eq_none (by rw [arr_len]; omega), List.getElem?_eq_none (by omega)]
theorem sortO (W : World) (N q : Nat) (ra : Option Addr) (rc : Nat) (L : List Vs) (oa : Option Addr) (oc : Nat) (os : List (Int × Bool)) (hl : Lot N ra rc L W) (hq : W.cell? ⟨q, 0, none⟩ = some (.slice oa os.length oc)) (ho : OrE.See W oa os) (hol : os.length ≤ 4000000000000) (hqr : q ∉ blk ra) (hor : os ≠ [] → ∀ k ∈ blk oa, k ∉ blk ra) (hLl : L.length ≤ 4000000000000) : Calls Tryz.prog 105 #[.slice ra L.length rc, .func (.func 106) #[] #[.pointer (some ⟨q, 0, none⟩)]] W (SortP N ra rc L.length (srtO os (L.map (·.l))) W) := by
 obtain ⟨R, hm⟩ : ∃ R, L.map (·.l) = R := ⟨_, rfl⟩
 rw [hm]
 by_cases h0 : L.length = 0
 ·have hL : L = [] := List.length_eq_zero_iff.1 h0
  refine (cSortSt1R ra L.length rc _ W (by omega)).mono fun e w' ⟨hv, e2⟩ => ⟨hv, L, rfl, by rw [e2]; exact hl, ?_, by rw [e2]; exact Kp.refl _ _⟩
  rw [← hm, hL];rfl
 ·rcases hrow : hl.row with ⟨e, _⟩ | ⟨g, o, cap, e, h1, h2, h3, h4, h5⟩
  ·exact absurd (by have := (Value.slice.inj e).2.1; omega) h0
  ·obtain ⟨e1, _, e3⟩ := Value.slice.inj e
   subst e1 e3
   have hd : Hd W g o L.length rc (fun i => L.getD i default) (fun k => k) := by
    unfold Hd
    rw [arrId];exact hl.row
   have hmem : ∀ x, x < L.length → L.getD x default ∈ L := fun x hx => by
    rw [List.getD_eq_getElem?_getD, List.getElem?_eq_getElem hx];exact List.getElem_mem hx
   have hC : CmpOk 106 g L.length (fun i => L.getD i default) (.pointer (some ⟨q, 0, none⟩)) (fun x y => cmpO os (L.getD x default).l (L.getD y default).l) (fun W' => (W'.cell? ⟨q, 0, none⟩ = some (.slice oa os.length oc) ∧ OrE.See W' oa os) ∧ ∀ x ∈ L, x.lies W') := ⟨heSrt, fun W' x y hI hx hy => cSortC _ _ q oa oc os W' (hI.2 _ (hmem x hx)) (hI.2 _ (hmem y hy)) hI.1.2 hol hI.1.1, fun W1 W2 hI k => ⟨⟨((CK.ofKp k).2 _ _ (by simpa [blk] using hqr) hI.1.1).1, (if e : os = [] then (by rw [e]; exact .inl rfl) else ckSee (CK.ofKp k) hI.1.2 (fun j hj hm' => hor e j hj (by simpa [blk] using hm')))⟩, fun x hx => (hI.2 x hx).ck (CK.ofKp k) (fun j hj hm' => (hl.rows x hx j hj).2.2 (by simpa [blk] using hm'))⟩, cmpO_swo os (fun x => (L.getD x default).l)⟩
   have h2' : L.length ≤ rc := h1
   refine (cSortStable g o L.length rc _ _ _ _ hC hLl h2' W hd ⟨⟨hq, ho⟩, hl.lies⟩).mono fun e w' ⟨hv, s, hp, hs, hd', k⟩ => ⟨hv, arr (fun i => L.getD i default) s L.length, arr_len _ _ _, ?_, ?_, k⟩
   ·have hin : ∀ x ∈ arr (fun i => L.getD i default) s L.length, x ∈ L := fun x hx => by
     unfold arr at hx
     obtain ⟨i, hi, rfl⟩ := List.mem_map.1 hx;exact hmem _ (hp.1 i (Nat.zero_le _) (List.mem_range.1 hi)).2
    have ck := CK.ofKp k
    refine ⟨by rw [arr_len]; exact hd', fun x hx => (hl.lies x (hin x hx)).ck ck (fun j hj hm' => (hl.rows x (hin x hx) j hj).2.2 (by simpa [blk] using hm')), hl.own, fun x hx j hj => ?_⟩
    obtain ⟨r1, r2, r3⟩ := hl.rows x (hin x hx) j hj;exact ⟨r1, Nat.lt_of_lt_of_le r2 k.size, r3⟩
   ·have hlt : (fun x y => cmpO os (L.getD x default).l (L.getD y default).l < 0) = ltO os R := by
     funext x y
     unfold ltO
     rw [← hm, getD_l, getD_l]
    rw [hlt] at hs;have h6 := sorted_eq (ltO_swo os R) hp hs
    have hln : L.length = R.length := by rw [← hm, List.length_map]
    unfold srtO
    rw [← hln, ← h6, List.map_map];unfold arr
    rw [List.map_map];refine List.map_congr_left fun i _ => ?_
    show (L.getD (s i) default).l = R.getD (s i) []
    rw [← hm, getD_l]
theorem makeVs0 (w : World) (n : Nat) (hn : n ≤ 3000000000000) : ∃ W, (Instr.makeSlice 60 (.int .i64 0) (.int .i64 (n : Int))).run Tryz.prog w = .ok (.slice (some ⟨w.heap.size, 0, none⟩) 0 n) W ∧ Lot w.heap.size (some ⟨w.heap.size, 0, none⟩) n [] W ∧ Kp [] w W := by
 obtain ⟨i0, hi, hz0, hz1, hz2⟩ := infoVs;have hr := run_make (P := Tryz.prog) w 60 61 i0 _ Tryz.underlying60 hi hz0 .i64 .i64 0 n (by omega) (by omega) (by rw [hz2]; omega) (by omega)
 rw [Int.toNat_natCast, hz1] at hr;refine ⟨_, hr, ⟨.inr ⟨w.heap.size, 0, n, rfl, Nat.zero_le _, by unfold maxLen; omega, by simp, fun j u hu => by simp [El.cs] at hu, fun j hj => ⟨?_, World.frozen?_alloc_new w _ _ (0 + j)⟩⟩, by simp, fun k hk => by simp [blk] at hk; omega, by simp⟩, (Kp.refl _ _).alloc _⟩
 have e1 := World.cell?_alloc_new w (madeCells (Value.slice none 0 0).cells (n * 1)) 61 (0 + j)
 refine (congrArg Option.isSome e1).trans ?_;have e5 : VsE.n = 1 := rfl
 rw [e5] at hj;unfold madeCells
 rw [Nat.zero_add, Array.getElem?_map, Array.getElem?_range, if_pos hj];rfl
theorem cSortX (a : Option Addr) (c : Nat) (L : List Vs) (oa : Option Addr) (oc : Nat) (os : List (Int × Bool)) (w : World) (hs : VsE.See w a L) (hx : ∀ x ∈ L, x.lies w) (ho : OrE.See w oa os) (hoa : os ≠ [] → ∀ k ∈ blk oa, k < w.heap.size) (hl : L.length ≤ 1048576) (hol : os.length ≤ 1048576) (hr : ∀ x ∈ L, x.l.length ≤ 1800000000000) :
  Calls Tryz.prog 58 #[.slice a L.length c, .slice oa os.length oc] w (LotP (srtO os (L.map (·.l))) w) := by
 obtain ⟨w1, hw1, k1, b1⟩ : ∃ x, w.alloc (.cells #[.slice oa os.length oc] 29) = x ∧ Kp [] w x ∧ Bn x w.heap.size [.slice oa os.length oc] := ⟨_, rfl, (Kp.refl _ _).alloc _, Bn.new w _ _⟩
 obtain ⟨q3, hq3⟩ : ∃ q, w.heap.size = q := ⟨_, rfl⟩
 rw [hq3] at b1;obtain ⟨w2, hmk, hlot, k2⟩ := makeVs0 w1 L.length (by omega)
 have HS := hid hs
 have HX := hid hx
 have HR := hid hr
 have HO := hid (And.intro ho hoa)
 have hq3l : q3 < w1.heap.size := b1.lt (by simp)
 have HB := hid b1
 have K1 := hid k1
 obtain ⟨R0, hR0⟩ : ∃ R, Hid (L.map (·.l) = R) := ⟨_, rfl⟩
 rw [hR0.out];obtain ⟨N1, hN1⟩ : ∃ n, w1.heap.size = n := ⟨_, rfl⟩
 rw [hN1] at hmk hlot hq3l;have H0 : Hid (Lot N1 (some ⟨N1, 0, none⟩) L.length [] w2 ∧ Kp [] w1 w2) := ⟨hlot, k2⟩
 have hN1' := hid hN1
 clear hs hx ho hoa hr b1 hlot k1 k2 hN1;go_enter Tryz.func58, Tryz.ntmps58
 go_wp2_with fail;go_loopw [5, 13] (fun v5 i wr => ∃ (j : Nat) (ra : Option Addr) (rc : Nat) (m : List Vs), j ≤ L.length ∧ i = .int .i64 (j : Int) ∧ v5 = .slice ra m.length rc ∧ Hid (m.map (·.l) = (L.take j).map (·.l)) ∧ Hid (Lot N1 ra rc m wr ∧ Kp [] w1 wr)) (fun _ i _ => L.length - (intOf i).toNat)
 case atStart => exact ⟨0, _, _, [], Nat.zero_le _, rfl, rfl, rfl, H0⟩
 case round =>
  obtain ⟨j, ra, rc, m, hj, rfl, rfl, hm, H⟩ := hrel;clear H0;have KWr := hid (K1.out.trans H.out.2 (by simp))
  have hml : m.length ≤ 4000000000000 := by have h1 := congrArg List.length hm.out; rw [List.length_map, List.length_map, List.length_take] at h1; omega
  by_cases hlt : j < L.length
  ·obtain ⟨g, o, ea, c0⟩ := vsAt HS.out (k := j) (x := L[j]) (by simp [hlt])
   have cg := kpAt KWr.out c0
   have hli := (HX.out L[j] (List.getElem_mem hlt)).ck (CK.ofKp KWr.out) (by simp)
   have hln := HR.out L[j] (List.getElem_mem hlt)
   have hsn : Hid ((L.take (j + 1)).map (·.l) = (L.take j).map (·.l) ++ [L[j].l]) := by show _ = _; rw [List.take_succ_eq_append_getElem hlt, List.map_append]; rfl
   obtain ⟨x, hx⟩ : ∃ x, Hid (L[j] = x) := ⟨L[j], rfl⟩
   rw [hx.out] at cg hli hln hsn;obtain ⟨xa, xc, xl⟩ := x;dsimp only at cg hln hsn;have cA := hid (cCloneR xa xc xl wr hli.see hli.nil (by omega))
   have i1 : (0 : Int) ≤ (j : Int) := by omega
   have i2 : (j : Int) < (L.length : Int) := by omega
   have i3 : (j : Int) + 1 ≤ 9223372036854775807 := by omega
   subst ea;clear c0 hli;go_wp2_with fail;refine cA.out.mono ?_;rintro e wd ⟨ya, yc, rfl, hyr, kd, hyb⟩;have hz9 := H.out.2.size
   have hN := hN1'.out
   have hld := H.out.1.ck (CK.ofKp kd) (by simp) (by simp)
   obtain ⟨a4, c4, W4, hrun, hl4, k4, hn4⟩ := hld.app ⟨ya, yc, xl⟩ (rowLies hyr) (by have := kd.size; omega) (fun k hk => ⟨by have := hyb k hk; omega, hyr.lt k (by rw [ownV]; exact hk), fun hm' => by have := hyb k hk; have := H.out.1.lt k hm'; omega⟩) hml
   obtain ⟨m4, hm4⟩ : ∃ m4, Hid (m ++ [(⟨ya, yc, xl⟩ : Vs)] = m4) := ⟨_, rfl⟩
   rw [hm4.out] at hrun hl4;dsimp only at hrun;have HF : Hid (Lot N1 a4 c4 m4 W4 ∧ Kp [] w1 W4) := ⟨hl4, (H.out.2.trans kd (by simp)).trans k4 (fun x hx => .inr (by have := H.out.1.own x hx; omega))⟩
   have hm5 : Hid (m4.map (·.l) = (L.take (j + 1)).map (·.l)) := by show _ = _; rw [hsn.out, ← hm4.out, List.map_append, hm.out]; rfl
   clear cA kd hyr hyb hld hl4 k4 hn4 hz9 hN;go_wp2_with (first | (refine wpAppRunY rfl _ _ 60 60 rfl _ _ _ rfl rfl hrun ?_) | fail)
   go_roundw
   case rel => exact ⟨j + 1, a4, c4, m4, by omega, by go_num, rfl, hm5, HF⟩
   case measure => simp [intOf]; omega
  ·have hmm : m.map (·.l) = R0 := by rw [hm.out, show j = L.length by omega, List.take_length, hR0.out]
   have dj1 : ¬ (j : Int) < (L.length : Int) := by omega
   have dj2 : decide ((j : Int) < (L.length : Int)) = false := by simp; omega
   have hN := hN1'.out
   have hqr : q3 ∉ blk ra := fun h => by have := H.out.1.own q3 h; omega
   have hor : os ≠ [] → ∀ k ∈ blk oa, k ∉ blk ra := fun e k hk h => by have h1 := H.out.1.own k h; have h2 := HO.out.2 e k hk; have := K1.out.size; omega
   have cS0 := sortO wr N1 q3 ra rc m oa oc os H.out.1 ((HB.out.kept H.out.2).get 0 _ rfl) (ckSee (CK.ofKp KWr.out) HO.out.1 (by simp)) (by omega) hqr hor hml
   rw [hmm] at cS0;have cS := hid cS0
   have hmn := hid hml
   clear cS0 hmm hqr hor hN hml;go_wp2_with fail;refine cS.out.mono ?_;rintro e w5 ⟨⟨v, rfl⟩, L5, hn5, hl5, hm5, k5⟩;have K5 := hid (H.out.2.trans k5 (fun x hx => .inr (by have := H.out.1.own x hx; have := hN1'.out; omega)))
   have HF := hid (And.intro hl5 hm5)
   have hn5' := hid hn5
   clear cS k5 hl5 hm5 hn5;go_wp2_with fail;go_ret;rw [← hn5'.out];exact ⟨ra, rc, L5, rfl, HF.out.1.mono (by have := hN1'.out; have := K1.out.size; omega), HF.out.2, K1.out.trans K5.out (by simp)⟩
end Go.Proofs.YtlgfekjoknbfdaaGreatDoor
end

section
namespace Go.Proofs.YtlgfekjoknbfdaaGreatDoor
open Go.RowKit Go.Hay
def ltR (on : Int) (R : List (List Val)) (x y : Nat) : Prop := cmpV (vAt (R.getD x []) on) (vAt (R.getD y []) on) < 0
instance (on : Int) (R : List (List Val)) : ∀ x y, Decidable (ltR on R x y) := fun x y => by unfold ltR; infer_instance
def refJ (RL RR : List (List Val)) (lo ro : Int) : List (List Val) := RL.flatMap fun x => (RR.filter fun r => (vAt x lo).k != 0 && (vAt r ro).k != 0 && cmpV (vAt x lo) (vAt r ro) == 0).map (x ++ ·)
attribute [local go_sem] Oper.semAt_some
structure Vr where
 e : Int
 n : Int
 a : Option Addr
 c : Nat
 l : List Val
 d : Int
instance : Inhabited Vr := ⟨⟨0, 0, none, 0, [], 0⟩⟩
def Vr.v (x : Vr) : Value := .agg #[.int .u64 x.e, .int .u32 x.n, .slice x.a x.l.length x.c, .int .u64 x.d]
def VrE : El Vr where
 n := 4
 c x := [.int .u64 x.e, .int .u32 x.n, .slice x.a x.l.length x.c, .int .u64 x.d]
 len _ := rfl
 one _ u hu := by simp at hu; rcases hu with rfl | rfl | rfl | rfl <;> rfl
 pos := by decide
theorem vrAt {w : World} {a : Option Addr} {l : List Vr} (h : VrE.See w a l) {j : Nat} {x : Vr} (hx : l[j]? = some x) : ∃ g o, a = some ⟨g, o, none⟩ ∧ w.cell? ⟨g, o + j * 4, none⟩ = some (.int .u64 x.e) ∧ w.cell? ⟨g, o + j * 4 + 1, none⟩ = some (.int .u32 x.n) ∧ w.cell? ⟨g, o + j * 4 + 2, none⟩ = some (.slice x.a x.l.length x.c) ∧ w.cell? ⟨g, o + j * 4 + 3, none⟩ = some (.int .u64 x.d) := by
 obtain ⟨g, o, rfl, hc⟩ := h.at hx;exact ⟨g, o, rfl, hc 0 _ rfl, hc 1 _ rfl, hc 2 _ rfl, hc 3 _ rfl⟩
end Go.Proofs.YtlgfekjoknbfdaaGreatDoor
end

section
namespace Go.Proofs.YtlgfekjoknbfdaaGreatDoor
open Go.RowKit Go.Hay
attribute [local go_sem] Oper.semAt_some
theorem eqI (a b c d : Int) (w : World) : (binOp .eql 70 (.agg #[.int .u64 a, .int .u32 b]) (.agg #[.int .u64 c, .int .u32 d])).run Tryz.prog w = .ok (.bool (decide ((a, b) = (c, d)))) w := by
 rw [run_eql_struct, run_equalIn_agg (ht := by kernel_rfl) (hp := by kernel_rfl)]
 by_cases h1 : a = c
 ·by_cases h2 : b = d
  ·simp [go_sem, h1, h2]
  ·simp [go_sem, h1, h2]
 ·simp [go_sem, h1]
abbrev Vr.r (x : Vr) : Vs := ⟨x.a, x.c, x.l⟩
def Vr.pr (x : Vr) : Int × Int × List Val × Int := (x.e, x.n, x.l, x.d)
structure Vr.lies (w : World) (x : Vr) : Prop where
 r : x.r.lies w
 e : 0 ≤ x.e ∧ x.e < 18446744073709551616
 n : 0 ≤ x.n ∧ x.n < 4294967296
theorem Vr.lies.ck {P : Nat → Prop} {X Y : World} {x : Vr} (hx : Vr.lies X x) (h : CK P X Y) (hP : ∀ k ∈ blk x.a, P k) : Vr.lies Y x := ⟨hx.r.ck h hP, hx.e, hx.n⟩
structure Lov (N : Nat) (ra : Option Addr) (rc : Nat) (L : List Vr) (W : World) : Prop where
 row : VrE.Row W (.slice ra L.length rc) L
 lies : ∀ x ∈ L, Vr.lies W x
 own : ∀ k ∈ blk ra, N ≤ k
 rows : ∀ x ∈ L, ∀ k ∈ blk x.a, N ≤ k ∧ k < W.heap.size ∧ k ∉ blk ra
theorem Lov.nil (N : Nat) (W : World) : Lov N none 0 [] W := ⟨.inl ⟨rfl, rfl⟩, by simp, by simp [blk], by simp⟩
theorem Lov.ck {N : Nat} {ra : Option Addr} {rc : Nat} {L : List Vr} {P : Nat → Prop} {X Y : World} (h : Lov N ra rc L X) (k : CK P X Y) (h1 : ∀ k ∈ blk ra, P k) (h2 : ∀ x ∈ L, ∀ k ∈ blk x.a, P k) : Lov N ra rc L Y :=
 ⟨ckRow k h.row h1, fun x hx => (h.lies x hx).ck k (h2 x hx), h.own, fun x hx j hj => ⟨(h.rows x hx j hj).1, Nat.lt_of_lt_of_le (h.rows x hx j hj).2.1 k.1, (h.rows x hx j hj).2.2⟩⟩
theorem Lov.lt {N : Nat} {ra : Option Addr} {rc : Nat} {L : List Vr} {X : World} (h : Lov N ra rc L X) : ∀ k ∈ blk ra, k < X.heap.size := fun k hk => h.row.lt k (by rw [ownV]; exact hk)
theorem Lov.mono {N M : Nat} {ra : Option Addr} {rc : Nat} {L : List Vr} {X : World} (h : Lov N ra rc L X) (hm : M ≤ N) : Lov M ra rc L X :=
 ⟨h.row, h.lies, fun k hk => Nat.le_trans hm (h.own k hk), fun x hx k hk => ⟨Nat.le_trans hm (h.rows x hx k hk).1, (h.rows x hx k hk).2⟩⟩
theorem infoVr : ∃ i : TypeInfo, Tryz.prog.info? 80 = some i ∧ i.zero = some (.agg #[.int .u64 0, .int .u32 0, .slice none 0 0, .int .u64 0]) ∧ i.size = 4 ∧ i.bytes = 48 := by
 have h : (Tryz.prog.info? 80).map (fun i => (i.zero, i.size, i.bytes)) = some (some (.agg #[.int .u64 0, .int .u32 0, .slice none 0 0, .int .u64 0]), 4, 48) := by kernel_rfl
 cases e : Tryz.prog.info? 80 with
 | none => rw [e] at h; cases h
 | some i =>
  rw [e] at h;simp at h
  exact ⟨i, rfl, h.1, h.2.1, h.2.2⟩
theorem Lov.app {N : Nat} {ra : Option Addr} {rc : Nat} {L : List Vr} {w : World} (h : Lov N ra rc L w) (x : Vr) (hx : Vr.lies w x) (hN : N ≤ w.heap.size) (hb : ∀ k ∈ blk x.a, N ≤ k ∧ k < w.heap.size ∧ k ∉ blk ra) (hl : L.length ≤ 4000000000000) :
  ∃ a' c' W', (Builtin.append_ #[55, 55] 55 #[.slice ra L.length rc, .slice (some ⟨w.heap.size, 0, none⟩) 1 1]).run Tryz.prog (w.alloc (.cells #[.int .u64 x.e, .int .u32 x.n, .slice x.a x.l.length x.c, .int .u64 x.d] 80)) = .ok (.slice a' (L ++ [x]).length c') W' ∧ Lov N a' c' (L ++ [x]) W' ∧ Kp (blk ra) w W' ∧ ∀ k ∈ blk a', k ∈ blk ra ∨ w.heap.size ≤ k := by
 obtain ⟨A1, hA1⟩ : ∃ A1, w.alloc (.cells #[.int .u64 x.e, .int .u32 x.n, .slice x.a x.l.length x.c, .int .u64 x.d] 80) = A1 := ⟨_, rfl⟩
 have kA1 : Kp [] w A1 := by rw [← hA1]; exact (Kp.refl _ _).alloc _
 have bx1 : Bn A1 w.heap.size (VrE.c x) := by rw [← hA1]; exact Bn.new w (VrE.c x) _
 have hs1 : VrE.See A1 (some ⟨w.heap.size, 0, none⟩) [x] := .inr ⟨w.heap.size, 0, rfl, fun j u hu => by rw [Nat.zero_add]; exact bx1.get j u (by simpa [El.cs] using hu)⟩
 obtain ⟨i0, hi, hz0', hz1', hz2'⟩ := infoVr;have hsr := hs1.src (P := Tryz.prog) Tryz.underlying55 1
 obtain ⟨v', A2, hrun, hrow2, k2, hn2⟩ := run_appendG (E := VrE) (P := Tryz.prog) A1 55 55 55 80 i0 _ 48 Tryz.underlying55 hi hz0' hz1' hz2' rfl (.slice ra L.length rc) L (h.row.keptNew kA1) _ [x] hsr (by simp only [List.length_cons, List.length_nil]; omega) (by simp only [List.length_cons, List.length_nil]; omega)
 obtain ⟨a', c', rfl, _⟩ := hrow2.see;simp only [ownV] at k2 hn2;rw [hA1];have z1 := kA1.size
 have kw : Kp (blk ra) w A2 := (kA1.mono (by simp)).trans k2 (fun j hj => .inl hj)
 have hnew : ∀ k ∈ blk a', k ∈ blk ra ∨ w.heap.size ≤ k := fun k hk => by
  rcases hn2 k hk with e | e
  ·exact .inl e
  ·exact .inr (by omega)
 have ck := CK.ofKp kw
 refine ⟨a', c', A2, hrun, ⟨hrow2, fun y hy => ?_, fun k hk => ?_, fun y hy k hk => ?_⟩, kw, hnew⟩
 ·rcases List.mem_append.1 hy with hy | hy
  ·exact (h.lies y hy).ck ck (fun k hk => (h.rows y hy k hk).2.2)
  ·rw [List.mem_singleton.1 hy]; exact hx.ck ck (fun k hk => (hb k hk).2.2)
 ·rcases hnew k hk with e | e
  ·exact h.own k e
  ·omega
 ·have h0 : N ≤ k ∧ k < w.heap.size ∧ k ∉ blk ra := by
   rcases List.mem_append.1 hy with hy | hy
   ·exact h.rows y hy k hk
   ·rw [List.mem_singleton.1 hy] at hk; exact hb k hk
  refine ⟨h0.1, Nat.lt_of_lt_of_le h0.2.1 kw.size, fun hm => ?_⟩
  rcases hnew k hm with e | e
  ·exact h0.2.2 e
  ·omega
def rejO (B : List Vr) (a : Vr) : Option (Int × Int × List Val × Int) := (B.find? fun b => decide ((b.e, b.n) = (a.e, a.n))).map fun b => (a.e, a.n, a.l ++ b.l, a.d)
def rejR (A B : List Vr) : List (Int × Int × List Val × Int) := A.filterMap (rejO B)
theorem rejR_snoc {A B : List Vr} {j : Nat} (h : j < A.length) : rejR (A.take (j + 1)) B = rejR (A.take j) B ++ (rejO B A[j]).toList := by
 unfold rejR
 rw [List.take_succ_eq_append_getElem h, List.filterMap_append]
 cases hc : rejO B A[j] <;> simp [hc]
def LovP (R : List (Int × Int × List Val × Int)) (w : World) (e : Ending) (w' : World) : Prop := ∃ ra rc L, e = .returned (.slice ra L.length rc) ∧ Lov w.heap.size ra rc L w' ∧ L.map Vr.pr = R ∧ Kp [] w w'
theorem cSameVer (x y : Vr) (w : World) (hx : Vr.lies w x) (hy : Vr.lies w y) (he : x.pr = y.pr) : Calls Tryz.prog 44 #[x.v, y.v] w fun e w' => e = .returned (.bool true) ∧ Kp [] w w' := by
 obtain ⟨xe, xn, xa, xc, xl, xd⟩ := x;obtain ⟨ye, yn, ya, yc, yl, yd⟩ := y;simp only [Vr.pr, Prod.mk.injEq] at he;obtain ⟨rfl, rfl, rfl, rfl⟩ := he;simp only [Vr.v];obtain ⟨w1, hw1, k1, b1⟩ : ∃ w1, w.alloc (.cells #[.int .u64 xe, .int .u32 xn, .slice xa xl.length xc, .int .u64 xd] 80) = w1 ∧ Kp [] w w1 ∧ Bn w1 w.heap.size [.int .u64 xe, .int .u32 xn, .slice xa xl.length xc, .int .u64 xd] := ⟨_, rfl, (Kp.refl _ _).alloc _, Bn.new w _ _⟩
 obtain ⟨w2, hw2, k2, b2⟩ : ∃ w2, w1.alloc (.cells #[.int .u64 xe, .int .u32 xn, .slice ya xl.length yc, .int .u64 xd] 80) = w2 ∧ Kp [] w1 w2 ∧ Bn w2 w1.heap.size [.int .u64 xe, .int .u32 xn, .slice ya xl.length yc, .int .u64 xd] := ⟨_, rfl, (Kp.refl _ _).alloc _, Bn.new w1 _ _⟩
 obtain ⟨q2, hq2⟩ : ∃ q, w.heap.size = q := ⟨_, rfl⟩
 obtain ⟨q3, hq3⟩ : ∃ q, w1.heap.size = q := ⟨_, rfl⟩
 rw [hq2] at b1;rw [hq3] at b2;have b12 := b1.kept k2
 have k12 := k1.trans k2 (by simp)
 have hcm := hx.r.most
 have hcc := hx.r.cap
 unfold maxLen at hcm
 dsimp only at hcm hcc;have cS := cSame xa ya xc yc xl xl w2 (hx.r.see.kept k12) (hy.r.see.kept k12) (by omega) (by omega)
 rw [sameV_selfY] at cS;have cS' := hid cS
 have m0 := b12.get 0 _ rfl; have m1 := b12.get 1 _ rfl; have m2 := b12.get 2 _ rfl; have m3 := b12.get 3 _ rfl
 have n0 := b2.get 0 _ rfl; have n1 := b2.get 1 _ rfl; have n2 := b2.get 2 _ rfl; have n3 := b2.get 3 _ rfl
 have HB := hid (And.intro b12 (And.intro b2 k12))
 clear b1 b2 b12 k1 k2 k12 hx hy cS;go_enter Tryz.func44, Tryz.ntmps44
 go_wp2_with fail;refine cS'.out.mono ?_;rintro e w3 ⟨rfl, k3⟩;have b13 := HB.out.1.kept k3
 have b23 := HB.out.2.1.kept k3
 have p0 := b13.get 0 _ rfl; have p1 := b13.get 1 _ rfl; have p3 := b13.get 3 _ rfl
 have r0 := b23.get 0 _ rfl; have r1 := b23.get 1 _ rfl; have r3 := b23.get 3 _ rfl
 have K3 := hid (HB.out.2.2.trans k3 (by simp))
 have eq1 : ∀ w : World, (binOp .eql 70 (.agg #[.int .u64 xe, .int .u32 xn]) (.agg #[.int .u64 xe, .int .u32 xn])).run Tryz.prog w = .ok (.bool true) w := fun w => by rw [eqI]; simp
 clear b13 b23 k3 cS' m0 m1 m2 m3 n0 n1 n2 n3;go_wp2_with fail;go_ret;exact ⟨by simp, K3.out⟩
theorem cSameVers (a b : Option Addr) (ca cb : Nat) (L M : List Vr) (w : World) (ha : VrE.See w a L) (hb : VrE.See w b M) (hL : ∀ x ∈ L, Vr.lies w x) (hM : ∀ x ∈ M, Vr.lies w x) (he : L.map Vr.pr = M.map Vr.pr) (hl : L.length ≤ 4000000000000) :
  Calls Tryz.prog 19 #[.slice a L.length ca, .slice b M.length cb] w fun e w' => e = .returned (.bool true) ∧ Kp [] w w' := by
 have hlen : L.length = M.length := by have := congrArg List.length he; simpa using this
 have HA := hid ha
 have HB := hid hb
 have HL := hid hL
 have HM := hid hM
 have HE := hid he
 clear ha hb hL hM he;rw [← hlen];have hlen' := hid hlen
 clear hlen;go_enter Tryz.func19, Tryz.ntmps19
 go_wp2_with fail;go_loopw [5] (fun i wr => ∃ (j : Nat), j ≤ L.length ∧ i = .int .i64 (j : Int) ∧ Hid (Kp [] w wr)) (fun i _ => L.length - (intOf i).toNat)
 case atStart => exact ⟨0, Nat.zero_le _, rfl, hid (Kp.refl _ _)⟩
 case round =>
  obtain ⟨j, hj, rfl, hk⟩ := hrel
  by_cases hlt : j < L.length
  ·have hltM : j < M.length := by have := hlen'.out; omega
   have hxj : L[j]? = some L[j] := by simp [hlt]
   have hyj : M[j]? = some M[j] := by simp [hltM]
   obtain ⟨g, o, ea, c0, c1, c2, c3⟩ := vrAt HA.out hxj;obtain ⟨g2, o2, eb, d0, d1, d2, d3⟩ := vrAt HB.out hyj
   have ell : L[j].pr = M[j].pr := by
    have h1 := congrArg (fun z => z[j]?) HE.out
    simp [hlt, hltM] at h1
    exact h1
   have hlj := HL.out L[j] (List.getElem_mem hlt)
   have hmj := HM.out M[j] (List.getElem_mem hltM)
   have hS : Hid (∀ W', Kp [] wr W' → Calls Tryz.prog 44 #[L[j].v, M[j].v] W' fun e w' => e = .returned (.bool true) ∧ Kp [] W' w') := fun W' k => cSameVer L[j] M[j] W' (hlj.ck (CK.ofKp (hk.out.trans k (by simp))) (by simp)) (hmj.ck (CK.ofKp (hk.out.trans k (by simp))) (by simp)) ell
   have hcl : Hid (∀ W', Kp [] w W' → (W'.cell? ⟨g, o + j * 4, none⟩ = some (.int .u64 L[j].e) ∧ W'.cell? ⟨g, o + j * 4 + 1, none⟩ = some (.int .u32 L[j].n) ∧ W'.cell? ⟨g, o + j * 4 + 2, none⟩ = some (.slice L[j].a L[j].l.length L[j].c) ∧ W'.cell? ⟨g, o + j * 4 + 3, none⟩ = some (.int .u64 L[j].d) ∧ W'.cell? ⟨g2, o2 + j * 4, none⟩ = some (.int .u64 M[j].e) ∧ W'.cell? ⟨g2, o2 + j * 4 + 1, none⟩ = some (.int .u32 M[j].n) ∧ W'.cell? ⟨g2, o2 + j * 4 + 2, none⟩ = some (.slice M[j].a M[j].l.length M[j].c) ∧ W'.cell? ⟨g2, o2 + j * 4 + 3, none⟩ = some (.int .u64 M[j].d))) := fun W' k => ⟨kpAt k c0, kpAt k c1, kpAt k c2, kpAt k c3, kpAt k d0, kpAt k d1, kpAt k d2, kpAt k d3⟩
   generalize L[j] = x at *
   generalize M[j] = y at *
   obtain ⟨xe, xn, xa, xc, xl, xd⟩ := x;obtain ⟨ye, yn, ya, yc, yl, yd⟩ := y;simp only [Vr.v] at hS;dsimp only at *;have i1 : (0 : Int) ≤ (j : Int) := by omega
   have i2 : (j : Int) < (L.length : Int) := by omega
   have i3 : (j : Int) + 1 ≤ 9223372036854775807 := by omega
   subst ea eb;clear c0 c1 c2 c3 d0 d1 d2 d3 hlj hmj hxj hyj ell;have cg := hcl.out wr hk.out
   obtain ⟨g0, g1, g2', g3, g4, g5, g6, g7⟩ := cg;go_wp2_with fail;refine wp_noPanicY ?_;refine wp_region_held_drew (S := fun A => A.cell? ⟨g, o + j * 4, none⟩ = some (.int .u64 xe) ∧ A.cell? ⟨g, o + j * 4 + 1, none⟩ = some (.int .u32 xn) ∧ A.cell? ⟨g, o + j * 4 + 2, none⟩ = some (.slice xa xl.length xc) ∧ A.cell? ⟨g, o + j * 4 + 3, none⟩ = some (.int .u64 xd) ∧ A.cell? ⟨g2, o2 + j * 4, none⟩ = some (.int .u64 ye) ∧ A.cell? ⟨g2, o2 + j * 4 + 1, none⟩ = some (.int .u32 yn) ∧ A.cell? ⟨g2, o2 + j * 4 + 2, none⟩ = some (.slice ya yl.length yc) ∧ A.cell? ⟨g2, o2 + j * 4 + 3, none⟩ = some (.int .u64 yd)) (by kernel_rfl) ?_ (fun hHeld => ?_)
   ·exact ⟨g0, g1, g2', g3, g4, g5, g6, g7⟩
   have KD : Hid (Kp [] wr wr.drew) := hid (Kp.refl _ _).drew
   generalize wr.drew = wd at *
   refine tkH ?_ 0 rfl (by kernel_rfl) (fun _ _ _ h => by cases h.1) (by rfl) ?_ ‹_› ?_;rotate_left
   ·intro w h; (try dsimp only at h); go_simp <;> with_reducible rfl
   (try simp only [Act.put, lz]);refine tkH ?_ 1 rfl (by kernel_rfl) (fun _ _ _ h => by cases h.1) (by rfl) ?_ ‹_› ?_;rotate_left
   ·intro w h; (try dsimp only at h); go_simp <;> with_reducible rfl
   (try simp only [Act.put, lz]);refine tkH ?_ 2 rfl (by kernel_rfl) (fun _ _ _ h => by cases h.1) (by rfl) ?_ ‹_› ?_;rotate_left
   ·intro w h; (try dsimp only at h); go_simp <;> with_reducible rfl
   (try simp only [Act.put, lz]);refine tkH ?_ 3 rfl (by kernel_rfl) (fun _ _ _ h => by cases h.1) (by rfl) ?_ ‹_› ?_;rotate_left
   ·intro w h; (try dsimp only at h); go_simp <;> with_reducible rfl
   (try simp only [Act.put, lz]);refine tkH ?_ 4 rfl (by kernel_rfl) (fun _ _ _ h => by cases h.1) (by rfl) ?_ ‹_› ?_;rotate_left
   ·intro w h; (try dsimp only at h); go_simp <;> with_reducible rfl
   (try simp only [Act.put, lz]);refine tkH ?_ 5 rfl (by kernel_rfl) (fun _ _ _ h => by cases h.1) (by rfl) ?_ ‹_› ?_;rotate_left
   ·intro w h; (try dsimp only at h); go_simp <;> with_reducible rfl
   (try simp only [Act.put, lz]);refine tkH ?_ 6 rfl (by kernel_rfl) (fun _ _ _ h => by cases h.1) (by rfl) ?_ ‹_› ?_;rotate_left
   ·intro w h; (try dsimp only at h); go_simp <;> with_reducible rfl
   (try simp only [Act.put, lz]);refine tkH ?_ 7 rfl (by kernel_rfl) (fun _ _ _ h => by cases h.1) (by rfl) ?_ ‹_› ?_;rotate_left
   ·intro w h; (try dsimp only at h); go_simp <;> with_reducible rfl
   (try simp only [Act.put, lz]);refine rdH 8 (by kernel_rfl) rfl fun K hK => ?_
   go_simp;refine (hS.out wd KD.out).mono ?_;rintro e we ⟨rfl, ke⟩;(try go_wp2_with fail);refine hK.out _ _ ?_ (fun hHeld => ?_)
   ·exact hcl.out we (hk.out.trans (KD.out.trans ke (by simp)) (by simp))
   clear hK K;(try simp only [Act.put, lz]);refine tkH ?_ 9 rfl (by kernel_rfl) (fun _ _ _ h => by cases h.1) (by rfl) ?_ ‹_› ?_;rotate_left
   ·intro w h; (try dsimp only at h); go_simp <;> with_reducible rfl
   (try simp only [Act.put, lz]);refine wpAnyH_done (by kernel_rfl) ⟨rfl, ?_⟩ _
   have KE := hid (hk.out.trans (KD.out.trans ke (by simp)) (by simp))
   clear hHeld ke g0 g1 g2' g3 g4 g5 g6 g7;go_wp2_with fail;go_roundw
   case rel => exact ⟨j + 1, by omega, by go_num, KE⟩
   case measure => simp [intOf]; omega
  ·have dj1 : ¬ (j : Int) < (L.length : Int) := by omega
   have dj2 : decide ((j : Int) < (L.length : Int)) = false := by simp; omega
   go_wp2_with fail;go_ret;exact ⟨rfl, hk.out⟩
theorem rAtE (a : Option Addr) (c : Nat) (l : List Val) (n : Int) (w : World) (ha : Vals w a l) (hl : l.length ≤ 9223372036854775807) : Calls Tryz.prog 93 #[.slice a l.length c, .int .i64 n] w fun e w' => e = .returned (.agg #[.int .i64 (vAt l n).k, .bool (vAt l n).b, .int .i64 (vAt l n).n, .string (vAt l n).t]) ∧ Kp [] w w' := by
 obtain ⟨q, W1, eq, e1, b1, k1⟩ : ∃ q W1, w.heap.size = q ∧ w.alloc (.cells #[.int .i64 0, .bool false, .int .i64 0, .string ⟨#[]⟩] 88) = W1 ∧ Bn W1 q [.int .i64 0, .bool false, .int .i64 0, .string ⟨#[]⟩] ∧ Kp [] w W1 := ⟨_, _, rfl, rfl, Bn.new w _ _, (Kp.refl _ _).alloc _⟩
 have hset : ∀ (W : World) (v : Val), Bn W q [.int .i64 0, .bool false, .int .i64 0, .string ⟨#[]⟩] → Kp [] w W → ∃ W2, (((W.setCell ⟨q, 0, none⟩ (.int .i64 v.k)).setCell ⟨q, 1, none⟩ (.bool v.b)).setCell ⟨q, 2, none⟩ (.int .i64 v.n)).setCell ⟨q, 3, none⟩ (.string v.t) = W2 ∧ Bn W2 q [.int .i64 v.k, .bool v.b, .int .i64 v.n, .string v.t] ∧ Kp [] w W2 := fun W v b k =>
  have h : q ∈ ([] : List Nat) ∨ w.heap.size ≤ q := .inr (by omega)
  ⟨_, rfl, (((b.set 0 (by simp) (.int .i64 v.k)).set 1 (by simp) (.bool v.b)).set 2 (by simp) (.int .i64 v.n)).set 3 (by simp) (.string v.t), (((k.setCell h _).setCell h _).setCell h _).setCell h _⟩
 by_cases hin : 0 ≤ n ∧ n < (l.length : Int)
 ·obtain ⟨i, rfl⟩ := Int.eq_ofNat_of_zero_le hin.1
  have hi : i < l.length := by omega
  rw [vAt_in l i hi];obtain ⟨g, o, rfl, c0, c1, c2, c3⟩ := (ha.kept k1).at i hi;obtain ⟨v, hv⟩ : ∃ v, l[i] = v := ⟨_, rfl⟩
  rw [hv] at c0 c1 c2 c3 ⊢;obtain ⟨W2, e2, b2, k2⟩ := hset W1 v b1 k1;have m0 := b1.get 0 _ rfl; have m1 := b1.get 1 _ rfl; have m2 := b1.get 2 _ rfl; have m3 := b1.get 3 _ rfl
  have f0 := b1.free 0; have f1 := b1.free 1; have f2 := b1.free 2; have f3 := b1.free 3
  have v0 := b2.get 0 _ rfl; have v1 := b2.get 1 _ rfl; have v2 := b2.get 2 _ rfl; have v3 := b2.get 3 _ rfl
  obtain ⟨vk, vb, vn, vt⟩ := v;dsimp only at *;have d1 : decide ((i : Int) < 0) = false := by simp
  have d2 : decide ((l.length : Int) ≤ (i : Int)) = false := by simp; omega
  have d2n : decide (l.length ≤ i) = false := by simp; omega
  have d3 : (0 : Int) ≤ (i : Int) := by omega
  have d4 : (i : Int) < (l.length : Int) := by omega
  clear b1 b2 hset ha hv hin k1;go_enter Tryz.func93, Tryz.ntmps93
  go_wp2_with fail;exact bodyPost_ret (v := .agg #[.int .i64 vk, .bool vb, .int .i64 vn, .string vt]) (by simp [results, Tryz.results93, go_sem, v0, v1, v2, v3]) rfl ⟨rfl, k2⟩
 ·rw [vAt_out l n hin]
  obtain ⟨W2, e2, b2, k2⟩ := hset W1 nulV b1 k1;have m0 := b1.get 0 _ rfl; have m1 := b1.get 1 _ rfl; have m2 := b1.get 2 _ rfl; have m3 := b1.get 3 _ rfl
  have f0 := b1.free 0; have f1 := b1.free 1; have f2 := b1.free 2; have f3 := b1.free 3
  have v0 := b2.get 0 _ rfl; have v1 := b2.get 1 _ rfl; have v2 := b2.get 2 _ rfl; have v3 := b2.get 3 _ rfl
  dsimp only [nulV] at *
  by_cases h0 : n < 0
  ·have d1 : decide (n < 0) = true := by simpa using h0
   clear b1 b2 k1 hset h0 hin;go_enter Tryz.func93, Tryz.ntmps93
   go_wp2_with fail;exact bodyPost_ret (v := .agg #[.int .i64 0, .bool false, .int .i64 0, .string ⟨#[]⟩]) (by simp [results, Tryz.results93, go_sem, v0, v1, v2, v3]) rfl ⟨rfl, k2⟩
  ·have d1 : decide (n < 0) = false := by simpa using h0
   have d2 : decide ((l.length : Int) ≤ n) = true := by simp; omega
   clear b1 b2 k1 hset h0 hin;go_enter Tryz.func93, Tryz.ntmps93
   go_wp2_with fail;exact bodyPost_ret (v := .agg #[.int .i64 0, .bool false, .int .i64 0, .string ⟨#[]⟩]) (by simp [results, Tryz.results93, go_sem, v0, v1, v2, v3]) rfl ⟨rfl, k2⟩
end Go.Proofs.YtlgfekjoknbfdaaGreatDoor
end

section
namespace Go.Proofs.YtlgfekjoknbfdaaGreatDoor
open Go.RowKit Go.Hay
attribute [local go_sem] Oper.semAt_some
attribute [local go_sem] Oper.semAt_some
end Go.Proofs.YtlgfekjoknbfdaaGreatDoor
end

section
namespace Go.Proofs.YtlgfekjoknbfdaaGreatDoor
open Go.RowKit Go.Hay
attribute [local go_sem] Oper.semAt_some
theorem refJ_len (RL RR : List (List Val)) (lo ro : Int) : (refJ RL RR lo ro).length ≤ RL.length * RR.length := by
 unfold refJ
 induction RL with
 | nil => simp
 | cons x RL ih =>
  rw [List.flatMap_cons, List.length_append, List.length_map, List.length_cons, Nat.succ_mul];have := List.length_filter_le (fun r => (vAt x lo).k != 0 && (vAt r ro).k != 0 && cmpV (vAt x lo) (vAt r ro) == 0) RR
  omega
theorem refJ_row {RL RR : List (List Val)} {lo ro : Int} {A B : Nat} (hA : ∀ l ∈ RL, l.length ≤ A) (hB : ∀ l ∈ RR, l.length ≤ B) : ∀ l ∈ refJ RL RR lo ro, l.length ≤ A + B := fun l hl => by
 obtain ⟨x, hx, hm⟩ := List.mem_flatMap.1 hl;obtain ⟨r, hr, rfl⟩ := List.mem_map.1 hm;have h1 := hA x hx
 have h2 := hB r (List.mem_filter.1 hr).1
 rw [List.length_append];omega
def baseV (q : Qy) (RL RR : List (List Val)) : List (List Val) := if q.jn then refJ RL RR q.lo q.ro else RL
def limV (lim : Int) (R : List (List Val)) : List (List Val) := if 0 < lim then R.take lim.toNat else R
def ansS (q : Qy) (sh : List (List Val)) : Option (List (List Val)) := if 4096 < sh.length then none else some (limV q.lim (srtO q.od.l sh))
def ansV (q : Qy) (RL RR : List (List Val)) : Option (List (List Val)) := if q.jn = true ∧ 65536 < (baseV q RL RR).length then none else ansS q (shapeV q ((baseV q RL RR).flatMap (filtF q.wh.l)))
def AnsP (r : Option (List (List Val))) (w : World) (e : Ending) (w' : World) : Prop :=
 match r with
 | none => e = .returned (.tuple #[.slice none 0 0, .int .i64 150]) ∧ Kp [] w w'
 | some N => ∃ ra rc L, e = .returned (.tuple #[.slice ra L.length rc, .int .i64 0]) ∧ Lot w.heap.size ra rc L w' ∧ L.map (·.l) = N ∧ Kp [] w w'
theorem keysV_lenP (bs : List Int) : ∀ R, (keysV bs R).length ≤ R.length := revInd (by simp [keysV]) fun R l ih => by
 rw [keysV_snoc, List.length_append];unfold insK
 split
 ·simp; omega
 ·rw [List.length_append, List.length_cons, List.length_take, List.length_drop]
  have := posK_le (pickV l bs) (keysV bs R)
  simp
  omega
theorem shape_len (q : Qy) (R : List (List Val)) : (shapeV q R).length ≤ R.length + 1 := by
 unfold shapeV
 split
 ·unfold refG
  rw [List.length_map];have := keysV_lenP q.by_.l R
  split <;> simp <;> omega
 ·rw [(projLen2 q.cl.l R).1]; omega
theorem shape_row (q : Qy) (R : List (List Val)) : ∀ l ∈ shapeV q R, l.length ≤ q.by_.l.length + q.ag.l.length + q.cl.l.length := fun l hl => by
 unfold shapeV at hl
 split at hl
 ·unfold refG at hl
  obtain ⟨k, hk, rfl⟩ := List.mem_map.1 hl;rw [List.length_append, List.length_map]
  have : k.length ≤ q.by_.l.length := by
   split at hk
   ·simp at hk; rw [hk]; simp
   ·obtain ⟨x, _, e⟩ := (keysV_ok q.by_.l R).first _ hk
    rw [← e];unfold pickV
    simp
  omega
 ·have := (projLen2 q.cl.l R).2 l hl
  omega
theorem orLt {w : World} {oa : Option Addr} {os : List (Int × Bool)} (ho : OrE.See w oa os) : os ≠ [] → ∀ k ∈ blk oa, k < w.heap.size := fun e k hk => by
 rcases ho with h | ⟨g, o, rfl, hc⟩
 ·exact absurd h e
 ·obtain ⟨x, os', rfl⟩ := List.exists_cons_of_ne_nil e
  have h0 := hc 0 (.int .i64 x.1) rfl
  simp [blk] at hk
  subst hk;exact World.block_lt_of_cell? _ _ h0
theorem Src.kp {m : Nat} {fr : Bool} {R : List (List Val)} {g : Nat} {lb : Array Value} {w w' : World} (h : Src m fr R g lb w) (k : Kp [] w w') : Src m fr R g lb w' := by
 obtain ⟨he, js, hj, hr⟩ := h;exact ⟨he, js, fun j h => Nat.lt_of_lt_of_le (hj j h) k.size, fun n hn => (hr n hn).move (KeepB.ofKp k (by simp))⟩
theorem Src.filtW {m : Nat} {fr : Bool} {R : List (List Val)} {g : Nat} {lb : Array Value} {w w' : World} {e : Ending} {ts : List Tm} (h : Src m fr R g lb w) (hm : 1 ≤ m) (hs : SmP R) (hA : Asks w) (ht : ts.length ≤ 1048576) (hF : FiltP g lb ts w e w') : ∃ lb', e = .returned (.func (.func 103) #[] lb') ∧ Src (m + 1) true (R.flatMap (filtF ts)) 103 lb' w' ∧ Kp [] w w' := by
 obtain ⟨he, js, hj, hr⟩ := h;obtain ⟨lb', e1, js', hj', hr', k⟩ := filtSrc hF (m + 1) (by omega) fr R js he (fun n hn => hr (n - 1) (by omega)) hj hA (fun l h => by have := hs.2 l h; omega) (by omega)
 exact ⟨lb', e1, ⟨heFilt, js', hj', hr'⟩, k⟩
theorem SmP.flt {R : List (List Val)} (h : SmP R) (ts : List Tm) : SmP (R.flatMap (filtF ts)) := by
 constructor
 ·refine Nat.le_trans ?_ h.1
  clear h
  induction R with
  | nil => simp
  | cons x R ih =>
   rw [List.flatMap_cons, List.length_append, List.length_cons];have hh : (filtF ts x).length ≤ 1 := by { unfold filtF; split <;> simp }
   omega
 ·intro l hl
  obtain ⟨x, hx, hm⟩ := List.mem_flatMap.1 hl;unfold filtF at hm
  split at hm
  ·simp at hm; rw [hm]; exact h.2 x hx
  ·simp at hm
theorem cShaped1 (q : Qy) (hg0 : q.gr = false) (m : Nat) (fr : Bool) (R : List (List Val)) (g : Nat) (lb : Array Value) (w : World) (hq : q.ok w) (hs : Src m fr R g lb w) (hm : 1 ≤ m ∧ m ≤ 3) (hR : SmP R) :
  Calls Tryz.prog 56 #[.agg q.cs.toArray, .func (.func g) #[] lb] w fun e w' => ∃ g' lb', e = .returned (.func (.func g') #[] lb') ∧ Src 4 true (shapeV q R) g' lb' w' ∧ Kp [] w w' := by
 obtain ⟨w1, hw1, k1, b1⟩ : ∃ x, w.alloc (.cells q.cs.toArray 31) = x ∧ Kp [] w x ∧ Bn x w.heap.size q.cs := ⟨_, rfl, (Kp.refl _ _).alloc _, Bn.new w _ _⟩
 obtain ⟨q2, hq2⟩ : ∃ x, w.heap.size = x := ⟨_, rfl⟩
 rw [hq2] at b1;obtain ⟨heg, js, hjs, hsq⟩ := hs;have HQ := hid (hq.kept k1)
 have HSQ := hid (And.intro hjs hsq)
 have HRR := hid hR
 have K1 := hid k1
 obtain ⟨tb, jn, rt, lo, ro, ⟨wa, wc, wl⟩, ⟨ca, cc, cl⟩, gr, ⟨ya, yc, yl⟩, ⟨ga, gc, gl⟩, ⟨oa, oc, ol⟩, lim⟩ := q;have s6 := b1.get 6 _ rfl
 have s7 := b1.get 7 _ rfl
 have s8 := b1.get 8 _ rfl
 have s9 := b1.get 9 _ rfl
 simp only [Qy.cs, Sl.v] at hw1 ⊢;dsimp only at hg0;subst hg0;dsimp only [Sl.v] at s6 s7 s8 s9;have h1 := HQ.out.cl; have h2 := HQ.out.by_; have h3 := HQ.out.ag
 dsimp only at h1 h2 h3;have cP := hid (cProjE g lb ca cc cl w1 h1.see h1.nil (by have := h1.few; dsimp only at this; omega))
 have hfew : cl.length ≤ 1048576 := h1.few
 have HF := hid hfew
 clear b1 k1 hjs hsq h1 h2 h3 hq hR hfew;go_enter Tryz.func56, Tryz.ntmps56
 go_wp2_with fail;refine cP.out.mono ?_;intro e w4 hP
 have kw : Kp [] w1 w4 := by obtain ⟨_, _, _, _, _, _, _, _, k⟩ := hP; exact k
 obtain ⟨lb', rfl, js', hj', hr', k⟩ := projSrc hP 4 (by omega) fr R js heg (fun n hn => (HSQ.out.2 (n - 1) (by omega)).move (KeepB.ofKp K1.out (by simp))) (fun j hj => Nat.lt_of_lt_of_le (HSQ.out.1 j hj) K1.out.size) (fun l h => by have := HRR.out.2 l h; omega) (by have := HF.out; omega)
 have HA := hid (And.intro hj' hr')
 have K4 := hid (K1.out.trans k (by simp))
 clear hP hj' hr' k kw cP;go_wp2_with fail;go_ret;exact ⟨_, _, rfl, ⟨heProj, js', HA.out.1, HA.out.2⟩, K4.out⟩
theorem cAnswer1 (q : Qy) (hj0 : q.jn = false) (hg0 : q.gr = false) (hl0 : ¬ 0 < q.lim) (a : Option Addr) (ca0 : Nat) (L : List Vs) (b : Option Addr) (cb0 : Nat) (M : List Vs) (w : World) (hq : q.ok w) (hA : Asks w) (hs : VsE.See w a L) (hx : ∀ x ∈ L, x.lies w) (ht : VsE.See w b M) (hy : ∀ x ∈ M, x.lies w) (hl : L.length ≤ 1048576) (hm : M.length ≤ 1048576) (hr : ∀ x ∈ L, x.l.length ≤ 1048576) (hrm : ∀ x ∈ M, x.l.length ≤ 1048576) (hB : q.jn = true → L.length * M.length ≤ 1048576) :
  Calls Tryz.prog 23 #[.agg q.cs.toArray, .slice a L.length ca0, .slice b M.length cb0] w (AnsP (ansV q (L.map (·.l)) (M.map (·.l))) w) := by
 obtain ⟨RL, hRL⟩ : ∃ R, Hid (L.map (·.l) = R) := ⟨_, hid rfl⟩
 obtain ⟨RR, hRR⟩ : ∃ R, Hid (M.map (·.l) = R) := ⟨_, hid rfl⟩
 obtain ⟨ANS, hANS⟩ : ∃ R, Hid (ansV q RL RR = R) := ⟨_, hid rfl⟩
 obtain ⟨BASE, hBASE⟩ : ∃ R, Hid (baseV q RL RR = R) := ⟨_, hid rfl⟩
 have hRLb : Hid (RL.length = L.length ∧ ∀ l ∈ RL, l.length ≤ 1048576) := hid ⟨by rw [← hRL.out]; simp, fun l hm' => by rw [← hRL.out] at hm'; obtain ⟨x, hx', rfl⟩ := List.mem_map.1 hm'; exact hr x hx'⟩
 have hRRb : Hid (RR.length = M.length ∧ ∀ l ∈ RR, l.length ≤ 1048576) := hid ⟨by rw [← hRR.out]; simp, fun l hm' => by rw [← hRR.out] at hm'; obtain ⟨x, hx', rfl⟩ := List.mem_map.1 hm'; exact hrm x hx'⟩
 have hBs : Hid (SmP BASE) := hid (by
  rw [← hBASE.out];unfold baseV
  split
  ·rename_i hj
   have h1 := refJ_len RL RR q.lo q.ro
   have h2 := hB hj
   rw [hRLb.out.1, hRRb.out.1] at h1;refine ⟨by omega, fun l hl' => ?_⟩
   have := refJ_row (A := 1048576) (B := 1048576) (lo := q.lo) (ro := q.ro) hRLb.out.2 hRRb.out.2 l hl'
   omega
  ·exact ⟨by have := hRLb.out.1; omega, fun l hl' => by have := hRLb.out.2 l hl'; omega⟩)
 rw [hRL.out, hRR.out, hANS.out];obtain ⟨w1, hw1, k1, b1⟩ : ∃ x, w.alloc (.cells q.cs.toArray 31) = x ∧ Kp [] w x ∧ Bn x w.heap.size q.cs := ⟨_, rfl, (Kp.refl _ _).alloc _, Bn.new w _ _⟩
 obtain ⟨q3, hq3⟩ : ∃ x, w.heap.size = x := ⟨_, rfl⟩
 rw [hq3] at b1;have HQ := hid (hq.kept k1)
 have HAs := hid (fun W (k : Kp [] w W) => hA.kept k (by simp))
 have HS : Hid (∀ W, Kp [] w W → VsE.See W a L ∧ (∀ x ∈ L, x.lies W) ∧ VsE.See W b M ∧ (∀ x ∈ M, x.lies W)) := hid fun W k => ⟨hs.keptNew k, fun x h => (hx x h).ck (CK.ofKp k) (by simp), ht.keptNew k, fun x h => (hy x h).ck (CK.ofKp k) (by simp)⟩
 have K1 := hid k1
 obtain ⟨qc, hqc⟩ : ∃ x : Qy, Hid (q = x) := ⟨q, hid rfl⟩
 rw [hqc.out] at hANS hBASE HQ b1 hw1 hj0 hg0 hl0 ⊢;clear hs hx ht hy hq hA hr hrm hB hqc;obtain ⟨tb, jn, rt, lo, ro, ⟨xa, xc, xl⟩, ⟨ca, cc, cl⟩, gr, ⟨ya, yc, yl⟩, ⟨ga, gc, gl⟩, ⟨oa, oc, ol⟩, lim⟩ := qc;simp only [Qy.cs, Sl.v] at hw1 b1 ⊢;dsimp only at hj0 hg0 hl0;subst hj0 hg0;have HL0 := hid hl0
 clear hl0;have HBS : Hid (∀ W', Kp [] w1 W' → W'.cell? ⟨q3, 0, none⟩ = some (.int .i64 tb) ∧ W'.cell? ⟨q3, 1, none⟩ = some (.bool false) ∧ W'.cell? ⟨q3, 2, none⟩ = some (.int .i64 rt) ∧ W'.cell? ⟨q3, 3, none⟩ = some (.int .i64 lo) ∧ W'.cell? ⟨q3, 4, none⟩ = some (.int .i64 ro) ∧ W'.cell? ⟨q3, 5, none⟩ = some (.slice xa xl.length xc) ∧ W'.cell? ⟨q3, 6, none⟩ = some (.slice ca cl.length cc) ∧ W'.cell? ⟨q3, 7, none⟩ = some (.bool false) ∧ W'.cell? ⟨q3, 8, none⟩ = some (.slice ya yl.length yc) ∧ W'.cell? ⟨q3, 9, none⟩ = some (.slice ga gl.length gc) ∧ W'.cell? ⟨q3, 10, none⟩ = some (.slice oa ol.length oc) ∧ W'.cell? ⟨q3, 11, none⟩ = some (.int .i64 lim)) := hid fun W' k => ⟨(b1.kept k).get 0 _ rfl, (b1.kept k).get 1 _ rfl, (b1.kept k).get 2 _ rfl, (b1.kept k).get 3 _ rfl, (b1.kept k).get 4 _ rfl, (b1.kept k).get 5 _ rfl, (b1.kept k).get 6 _ rfl, (b1.kept k).get 7 _ rfl, (b1.kept k).get 8 _ rfl, (b1.kept k).get 9 _ rfl, (b1.kept k).get 10 _ rfl, (b1.kept k).get 11 _ rfl⟩
 have cV := hid (cValuesE a L.length ca0 w1)
 have src := hid (valSrcW (rc := ca0) (HS.out w1 k1).1 (HS.out w1 k1).2.1 (by omega) 60)
 rw [hRL.out] at src;clear b1 k1;go_enter Tryz.func23, Tryz.ntmps23
 go_wp2_with fail;refine cV.out.mono ?_;rintro e w2 ⟨rfl, hw2⟩;have k2 : Kp [] w1 w2 := by rw [hw2]; exact (Kp.refl _ _).alloc _
 rw [← hw2] at src;obtain ⟨qa, hqa⟩ : ∃ q, Hid (w1.heap.size = q) := ⟨_, hid rfl⟩
 rw [hqa.out] at src ⊢;have HSrc : Hid (Src 1 false RL 94 #[.pointer (some ⟨qa, 0, none⟩)] w2) := hid ⟨heVal, _, src.out.2, src.out.1⟩
 have K2 := hid k2
 have sb := (HBS.out w2 k2).2.1; have s3 := (HBS.out w2 k2).2.2.2.1; have s4 := (HBS.out w2 k2).2.2.2.2.1
 clear cV hw2 k2 src;go_upto_if 16 with fail
 go_cut [8] from 13 (fun v8 wx => ∃ gb lbb, v8 = .func (.func gb) #[] lbb ∧ Hid (Src 1 false BASE gb lbb wx) ∧ Hid (Kp [] w1 wx) ∧ Hid (¬ (false = true ∧ 65536 < BASE.length)))
 case first =>
  go_wp2_with fail;go_meet
  case rel =>
   refine ⟨_, _, rfl, ?_, K2, hid (fun h => by cases h.1)⟩
   have e := hBASE.out
   unfold baseV at e
   rw [if_neg (by simp)] at e
   rw [← e];exact HSrc
 case rest =>
  obtain ⟨gb, lbb, rfl, HSb, KW0, hfew⟩ := hcut;go_upto_region 7 with fail
  refine wp_noPanicY ?_;refine wp_region_held_drew (S := fun W' => W'.cell? ⟨q3, 0, none⟩ = some (.int .i64 tb) ∧ W'.cell? ⟨q3, 1, none⟩ = some (.bool false) ∧ W'.cell? ⟨q3, 2, none⟩ = some (.int .i64 rt) ∧ W'.cell? ⟨q3, 3, none⟩ = some (.int .i64 lo) ∧ W'.cell? ⟨q3, 4, none⟩ = some (.int .i64 ro) ∧ W'.cell? ⟨q3, 5, none⟩ = some (.slice xa xl.length xc) ∧ W'.cell? ⟨q3, 6, none⟩ = some (.slice ca cl.length cc) ∧ W'.cell? ⟨q3, 7, none⟩ = some (.bool false) ∧ W'.cell? ⟨q3, 8, none⟩ = some (.slice ya yl.length yc) ∧ W'.cell? ⟨q3, 9, none⟩ = some (.slice ga gl.length gc) ∧ W'.cell? ⟨q3, 10, none⟩ = some (.slice oa ol.length oc) ∧ W'.cell? ⟨q3, 11, none⟩ = some (.int .i64 lim)) (by kernel_rfl) (HBS.out _ (KW0.out.trans (Kp.refl [] _).drew (by simp))) (fun hHeld => ?_)
  have KD : Hid (Kp [] w1 wc.drew) := hid (KW0.out.trans (Kp.refl [] _).drew (by simp))
  have HSd : Hid (Src 1 false BASE gb lbb wc.drew) := hid (HSb.out.kp (Kp.refl [] _).drew)
  obtain ⟨SH, hSH⟩ : ∃ R, Hid (shapeV (⟨tb, false, rt, lo, ro, ⟨xa, xc, xl⟩, ⟨ca, cc, cl⟩, false, ⟨ya, yc, yl⟩, ⟨ga, gc, gl⟩, ⟨oa, oc, ol⟩, lim⟩ : Qy) (BASE.flatMap (filtF xl)) = R) := ⟨_, hid rfl⟩
  have hSHb : Hid (SH.length ≤ 4000001 ∧ ∀ l ∈ SH, l.length ≤ 4000000) := hid (by
   rw [← hSH.out];refine ⟨Nat.le_trans (shape_len _ _) (by have := (hBs.out.flt xl).1; omega), fun l hl => Nat.le_trans (shape_row _ _ l hl) ?_⟩
   have h1 := HQ.out.by_.few; have h2 := HQ.out.ag.few; have h3 := HQ.out.cl.few
   dsimp only at h1 h2 h3 ⊢;omega)
  clear HSb KW0;generalize wc.drew = wd at *
  refine tkH ?_ 0 rfl (by kernel_rfl) (fun _ _ _ h => by cases h.1) (by rfl) ?_ ‹_› ?_;rotate_left
  ·intro w h; (try dsimp only at h); go_simp <;> with_reducible rfl
  (try simp only [Act.put, lz]);refine tkH ?_ 1 rfl (by kernel_rfl) (fun _ _ _ h => by cases h.1) (by rfl) ?_ ‹_› ?_;rotate_left
  ·intro w h; (try dsimp only at h); go_simp <;> with_reducible rfl
  (try simp only [Act.put, lz]);refine tkH ?_ 2 rfl (by kernel_rfl) (fun _ _ _ h => by cases h.1) (by rfl) ?_ ‹_› ?_;rotate_left
  ·intro w h; (try dsimp only at h); go_simp <;> with_reducible rfl
  (try simp only [Act.put, lz]);refine tkH ?_ 3 rfl (by kernel_rfl) (fun _ _ _ h => by cases h.1) (by rfl) ?_ ‹_› ?_;rotate_left
  ·intro w h; (try dsimp only at h); go_simp <;> with_reducible rfl
  (try simp only [Act.put, lz]);refine rdH 4 (by kernel_rfl) rfl fun K hK => ?_
  go_simp;have hq1 := HQ.out.kept KD.out
  have hx1 := hq1.wh.few
  have cF := hid (cFiltE gb lbb xa xc xl wd hq1.wh.see hq1.wh.nil (by dsimp only at hx1; omega))
  clear hq1;refine cF.out.mono ?_;intro e w3 hP
  obtain ⟨lb3, rfl, hs3, k3⟩ := HSd.out.filtW (by omega) hBs.out (HAs.out wd (K1.out.trans KD.out (by simp))) (by dsimp only at hx1; omega) hP
  have HS3 := hid hs3
  have K3 := hid (KD.out.trans k3 (by simp))
  clear hP hs3 k3 cF hx1 HSd;(try go_wp2_with fail);refine hK.out _ _ (HBS.out w3 K3.out) (fun hHeld => ?_)
  clear hK K;(try simp only [Act.put, lz]);refine rdH 5 (by kernel_rfl) rfl fun K hK => ?_
  go_simp;have hq1 := HQ.out.kept K3.out
  have cS := hid (cShaped1 ⟨tb, false, rt, lo, ro, ⟨xa, xc, xl⟩, ⟨ca, cc, cl⟩, false, ⟨ya, yc, yl⟩, ⟨ga, gc, gl⟩, ⟨oa, oc, ol⟩, lim⟩ rfl 2 true _ _ lb3 w3 hq1 HS3.out (by omega) (hBs.out.flt xl))
  simp only [Qy.cs, Sl.v] at cS;clear hq1;refine cS.out.mono ?_;rintro e w4 ⟨g4, lb4, rfl, hs4, k4⟩;have hs4 : Src 4 true SH g4 lb4 w4 := by rw [← hSH.out]; exact hs4
  have HS4 := hid hs4
  have K4 := hid (K3.out.trans k4 (by simp))
  clear hs4 k4 cS HS3;(try go_wp2_with fail);refine hK.out _ _ (HBS.out w4 K4.out) (fun hHeld => ?_)
  clear hK K;(try simp only [Act.put, lz]);refine rdH 6 (by kernel_rfl) rfl fun K hK => ?_
  go_simp;obtain ⟨he4, js4, hj4, hr4⟩ := HS4.out;have cC := hid (callsIn_wide.1 (cCollectG 5 (by omega) true g4 lb4 SH js4 4096 w4 (by omega) he4 (hr4 4 (by omega)) hj4 (by have := hSHb.out.1; omega) (fun l hl => by have := hSHb.out.2 l hl; omega)))
  clear he4 hj4 hr4 HS4;refine cC.out.mono ?_;intro e w5 hP
  clear cC
  obtain ⟨vr, ve, he5, hCo, k5⟩ : ∃ vr ve, e = .returned (.tuple #[vr, ve]) ∧ ((4096 < SH.length ∧ vr = .slice none 0 0 ∧ ve = .int .i64 150) ∨ (SH.length ≤ 4096 ∧ ve = .int .i64 0 ∧ ∃ ra rc N, vr = .slice ra N.length rc ∧ Lot w4.heap.size ra rc N w5 ∧ N.map (·.l) = SH)) ∧ Kp [] w4 w5 := by
   rcases hP with ⟨h1, h2, h3⟩ | ⟨h1, ra, rc, N, h2, h3, h4, h5⟩
   ·exact ⟨_, _, h2, Or.inl ⟨by simpa using h1, rfl, rfl⟩, h3⟩
   ·exact ⟨_, _, h2, Or.inr ⟨by simpa using h1, rfl, ra, rc, N, rfl, h3, h4⟩, h5⟩
  subst he5;have HCo := hid hCo
  have K5 := hid (K4.out.trans k5 (by simp))
  have hz4 : Hid (w.heap.size ≤ w4.heap.size) := hid (K1.out.trans K4.out (by simp)).size
  clear hCo hP k5;(try go_wp2_with fail);refine hK.out _ _ (HBS.out w5 K5.out) (fun hHeld => ?_)
  clear hK K;(try simp only [Act.put, lz]);refine tkH ?_ 7 rfl (by kernel_rfl) (fun _ _ _ h => by cases h.1) (by rfl) ?_ ‹_› ?_;rotate_left
  ·intro w h; (try dsimp only at h); go_simp <;> with_reducible rfl
  (try simp only [Act.put, lz]);refine tkH ?_ 8 rfl (by kernel_rfl) (fun _ _ _ h => by cases h.1) (by rfl) ?_ ‹_› ?_;rotate_left
  ·intro w h; (try dsimp only at h); go_simp <;> with_reducible rfl
  (try simp only [Act.put, lz]);refine tkH ?_ 9 rfl (by kernel_rfl) (fun _ _ _ h => by cases h.1) (by rfl) ?_ ‹_› ?_;rotate_left
  ·intro w h; (try dsimp only at h); go_simp <;> with_reducible rfl
  (try simp only [Act.put, lz]);refine tkH ?_ 10 rfl (by kernel_rfl) (fun _ _ _ h => by cases h.1) (by rfl) ?_ ‹_› ?_;rotate_left
  ·intro w h; (try dsimp only at h); go_simp <;> with_reducible rfl
  (try simp only [Act.put, lz]);refine tkH ?_ 11 rfl (by kernel_rfl) (fun _ _ _ h => by cases h.1) (by rfl) ?_ ‹_› ?_;rotate_left
  ·intro w h; (try dsimp only at h); go_simp <;> with_reducible rfl
  (try simp only [Act.put, lz]);refine wpAnyH_done (by kernel_rfl) ⟨rfl, ?_⟩ _
  have hAN : Hid (ansS (⟨tb, false, rt, lo, ro, ⟨xa, xc, xl⟩, ⟨ca, cc, cl⟩, false, ⟨ya, yc, yl⟩, ⟨ga, gc, gl⟩, ⟨oa, oc, ol⟩, lim⟩ : Qy) SH = ANS) := hid (by
   rw [← hANS.out, ← hSH.out];unfold ansV
   rw [hBASE.out, if_neg hfew.out])
  have KW := hid (K1.out.trans K5.out (by simp))
  rcases HCo.out with ⟨h1, rfl, rfl⟩ | ⟨h1, rfl, ra, rc, N, rfl, hlot, hN⟩
  ·have hn : Hid (ANS = none) := hid (by rw [← hAN.out]; unfold ansS; rw [if_pos h1])
   rw [hn.out];clear h1 HCo;go_wp2_with fail;go_returns;rw [hn.out];exact ⟨rfl, KW.out⟩
  ·have hNl : N.length = SH.length := by rw [← hN]; simp
   obtain ⟨a', c', e', hsee, _⟩ := hlot.row.see
   cases e'
   have hqo := (HQ.out.kept K5.out).od
   have hof := hqo.few
   dsimp only at hof;have s10 := (HBS.out w5 K5.out).2.2.2.2.2.2.2.2.2.2.1
   have s11 := (HBS.out w5 K5.out).2.2.2.2.2.2.2.2.2.2.2
   have hShl := hSHb.out.2
   have cO := hid (cSortX ra rc N oa oc ol w5 hsee hlot.lies hqo.see (orLt hqo.see) (by omega) hof (fun x hx => by have := hShl x.l (by rw [← hN]; exact List.mem_map.2 ⟨x, hx, rfl⟩); omega))
   rw [hN] at cO;have CO := hid cO
   have HN := hid hN
   have HNl := hid hNl
   have HOF := hid hof
   have H1 := hid h1
   clear hqo hShl hsee hlot HCo cO hN hNl hof h1;go_wp2_with fail;refine CO.out.mono ?_;rintro e w6 ⟨rb, rcb, N2, rfl, hlot2, hN2, k6⟩;have K6 := hid (K5.out.trans k6 (by simp))
   have KW6 := hid (K1.out.trans K6.out (by simp))
   have HL2 := hid hlot2
   have HN2 := hid hN2
   have hz5 : Hid (w.heap.size ≤ w5.heap.size) := hid KW.out.size
   clear CO hlot2 hN2 k6 s10 s11;have s11 := (HBS.out w6 K6.out).2.2.2.2.2.2.2.2.2.2.2
   have hNN : Hid (ANS = some (limV lim (srtO ol SH))) := hid (by
    rw [← hAN.out];unfold ansS
    rw [if_neg (by have := H1.out; omega)])
   have hlim := HL0.out
   have ht : decide (lim > 0) = false := decide_eq_false (by omega)
   have ht2 : decide (0 < lim) = false := decide_eq_false (by omega)
   have HL := hid hlim
   clear hlim;go_wp2_with fail;go_returns;rw [hNN.out];refine ⟨rb, rcb, N2, rfl, ?_, ?_, KW6.out⟩
   ·exact ⟨HL2.out.row, HL2.out.lies, fun k hk => Nat.le_trans hz5.out (HL2.out.own k hk), fun x hx k hk => ⟨Nat.le_trans hz5.out (HL2.out.rows x hx k hk).1, (HL2.out.rows x hx k hk).2⟩⟩
   ·rw [HN2.out]
    unfold limV
    rw [if_neg (by have := HL.out; omega)]
def vFourP : Val := ⟨2, false, 4, ⟨#[]⟩⟩
def qA (q : Nat) : Qy := ⟨0, false, 0, 0, 0, ⟨none, 0, []⟩, ⟨some ⟨q, 0, none⟩, 1, [0]⟩, false, ⟨none, 0, []⟩, ⟨none, 0, []⟩, ⟨none, 0, []⟩, 0⟩
theorem qA_ok {W : World} {q : Nat} (b : Bn W q [.int .i64 0]) : (qA q).ok W :=
 ⟨⟨.inl rfl, fun _ => rfl, by simp [qA]⟩, ⟨.inr ⟨q, 0, rfl, fun j u hu => by rw [Nat.zero_add]; exact b.get j u (by simpa [qA, El.cs, IntE] using hu)⟩, fun h => (by cases h), by simp [qA]⟩, ⟨.inl rfl, fun _ => rfl, by simp [qA]⟩, ⟨.inl rfl, fun _ => rfl, by simp [qA]⟩, ⟨.inl rfl, fun _ => rfl, by simp [qA]⟩, by simp [qA]⟩
theorem qA_ans (q : Nat) : ansV (qA q) [[vFourP]] [] = some [[vFourP]] := by kernel_rfl
theorem cAlive16 (w : World) (hA : Asks w) : Calls Tryz.prog 8 #[] w fun e w' => e = .returned (.bool true) ∧ Kp [] w w' := by
 have cS := hid (cSmall w)
 have HA := hid hA
 clear hA;go_enter Tryz.func8, Tryz.ntmps8
 go_wp2_with fail;refine cS.out.mono ?_;rintro e w1 ⟨qa, qb, qc, qd, qe, qf, rfl, hok, k1⟩;have hwy := cgS_ways qa qb qc qd qe qf
 have hpk := cgS_pick qa qb qc qd qe qf
 have hT8 : ∀ x ∈ (cgS qa qb qc qd qe qf).tl, x.l.length ≤ 9223372036854775806 := fun x hx => by simp [cgS] at hx; subst hx; simp
 have htl : (cgS qa qb qc qd qe qf).tl.length ≤ 9223372036854775807 := by simp [cgS]
 have hpl : (cgS qa qb qc qd qe qf).pl.length ≤ 4000000000000 := by simp [cgS]
 generalize cgS qa qb qc qd qe qf = c at *
 have hR8 : (waysV c 0).length ≤ 4000000000000 := by rw [hwy]; simp
 obtain ⟨v0, hv0, k0, b0⟩ : ∃ x, w1.alloc (.cells #[.int .i64 0, .int .i64 0, .int .i64 0, .slice none 0 0, .slice none 0 0] 25) = x ∧ Kp [] w1 x ∧ Bn x w1.heap.size [.int .i64 0, .int .i64 0, .int .i64 0, .slice none 0 0, .slice none 0 0] := ⟨_, rfl, (Kp.refl _ _).alloc _, Bn.new w1 _ _⟩
 obtain ⟨q1, hq1⟩ : ∃ q, Hid (w1.heap.size = q) := ⟨_, hid rfl⟩
 rw [hq1.out] at b0;obtain ⟨v1, hv1⟩ : ∃ x, ((((v0.setCell ⟨q1, 0, none⟩ (.int .i64 c.n)).setCell ⟨q1, 1, none⟩ (.int .i64 c.s)).setCell ⟨q1, 2, none⟩ (.int .i64 c.k)).setCell ⟨q1, 3, none⟩ (.slice c.ta c.tl.length c.tc)).setCell ⟨q1, 4, none⟩ (.slice c.pa c.pl.length c.pc) = x := ⟨_, rfl⟩
 have kS : Kp [q1] v0 v1 := by rw [← hv1]; exact ((((((Kp.refl _ _).setCell (by simp) _).setCell (by simp) _).setCell (by simp) _).setCell (by simp) _).setCell (by simp) _)
 have b1 : Bn v1 q1 [.int .i64 c.n, .int .i64 c.s, .int .i64 c.k, .slice c.ta c.tl.length c.tc, .slice c.pa c.pl.length c.pc] := by rw [← hv1]; exact (((((b0.set 0 (by simp) (.int .i64 c.n)).set 1 (by simp) (.int .i64 c.s)).set 2 (by simp) (.int .i64 c.k)).set 3 (by simp) (.slice c.ta c.tl.length c.tc)).set 4 (by simp) (.slice c.pa c.pl.length c.pc))
 have kk : Kp [] w1 v1 := k0.trans kS (fun x hx => .inr (by have := hq1.out; simp at hx; omega))
 have hok1 := hok.kept kk
 have cC := hid (callsIn_wide.1 (cChoose c 0 (-1) v1 hok1 hT8 htl hpl hR8))
 rw [hpk] at cC
 have HM : Hid (∀ W, Kp [] v1 W → Calls Tryz.prog 14 #[c.v, .int .i64 0] W fun e w' => e = .returned (.int .i64 2) ∧ Kp [] W w') := hid fun W k => by
  have h := callsIn_wide.1 (cMany c 0 W (hok1.kept k) hT8 htl hpl hR8)
  rw [hwy] at h;exact h
 have a0 := b0.get 0 _ rfl; have a1 := b0.get 1 _ rfl; have a2 := b0.get 2 _ rfl; have a3 := b0.get 3 _ rfl; have a4 := b0.get 4 _ rfl
 have f0 := b0.free 0; have f1 := b0.free 1; have f2 := b0.free 2; have f3 := b0.free 3; have f4 := b0.free 4
 have g0 := b1.get 0 _ rfl; have g1 := b1.get 1 _ rfl; have g2 := b1.get 2 _ rfl; have g3 := b1.get 3 _ rfl; have g4 := b1.get 4 _ rfl
 have HB1 := hid b1
 have HK1 := hid (k1.trans kk (by simp))
 have hq1' := hq1.out
 simp only [Cg.v, plV] at cC HM ⊢;clear cS k1 hok hok1 hwy hpk hT8 htl hpl hR8 k0 b0 kS b1 kk;go_wp2_with fail;refine cC.out.mono ?_;rintro e w2 ⟨rfl, k2⟩;obtain ⟨u0, hu0, j0, d0⟩ : ∃ x, w2.alloc (.cells #[.int .i64 0, .int .i64 0] 38) = x ∧ Kp [] w2 x ∧ Bn x w2.heap.size [.int .i64 0, .int .i64 0] := ⟨_, rfl, (Kp.refl _ _).alloc _, Bn.new w2 _ _⟩
 obtain ⟨q2, hq2⟩ : ∃ q, Hid (w2.heap.size = q) := ⟨_, hid rfl⟩
 rw [hq2.out] at d0;obtain ⟨u1, hu1⟩ : ∃ x, (u0.setCell ⟨q2, 0, none⟩ (.int .i64 1)).setCell ⟨q2, 1, none⟩ (.int .i64 2) = x := ⟨_, rfl⟩
 have jS : Kp [q2] u0 u1 := by rw [← hu1]; exact (((Kp.refl _ _).setCell (by simp) _).setCell (by simp) _)
 have d1 : Bn u1 q2 [.int .i64 1, .int .i64 2] := by rw [← hu1]; exact ((d0.set 0 (by simp) (.int .i64 1)).set 1 (by simp) (.int .i64 2))
 have j1 : Kp [] w2 u1 := j0.trans jS (fun x hx => .inr (by have := hq2.out; simp at hx; omega))
 obtain ⟨u2, hu2, j2, d2⟩ : ∃ x, u1.alloc (.cells #[.int .i64 0] 3) = x ∧ Kp [] u1 x ∧ Bn x u1.heap.size [.int .i64 0] := ⟨_, rfl, (Kp.refl _ _).alloc _, Bn.new u1 _ _⟩
 obtain ⟨u3, hu3, j3, d3⟩ : ∃ x, u2.alloc (.cells #[.int .i64 2, .bool false, .int .i64 4, .string ⟨#[]⟩] 88) = x ∧ Kp [] u2 x ∧ Bn x u2.heap.size [.int .i64 2, .bool false, .int .i64 4, .string ⟨#[]⟩] := ⟨_, rfl, (Kp.refl _ _).alloc _, Bn.new u2 _ _⟩
 obtain ⟨u4, hu4, j4, d4⟩ : ∃ x, u3.alloc (.cells #[.slice (some ⟨u2.heap.size, 0, none⟩) 1 1] 61) = x ∧ Kp [] u3 x ∧ Bn x u3.heap.size [.slice (some ⟨u2.heap.size, 0, none⟩) 1 1] := ⟨_, rfl, (Kp.refl _ _).alloc _, Bn.new u3 _ _⟩
 have j14 := (j2.trans j3 (by simp)).trans j4 (by simp)
 have kv4 : Kp [] v1 u4 := (k2.trans j1 (by simp)).trans j14 (by simp)
 have kw4 : Kp [] w u4 := HK1.out.trans kv4 (by simp)
 have s0 : VE.See u4 (some ⟨u2.heap.size, 0, none⟩) [vFourP] := .inr ⟨u2.heap.size, 0, rfl, fun j u hu => by rw [Nat.zero_add]; exact (d3.kept j4).get j u (by simpa [El.cs, VE, vFourP] using hu)⟩
 have x0 : (⟨some ⟨u2.heap.size, 0, none⟩, 1, [vFourP]⟩ : Vs).lies u4 := ⟨seeV.1 s0, by simp, by show (1 : Nat) ≤ maxLen; unfold maxLen; omega, fun h => (by cases h)⟩
 have s1 : VsE.See u4 (some ⟨u3.heap.size, 0, none⟩) [⟨some ⟨u2.heap.size, 0, none⟩, 1, [vFourP]⟩] := .inr ⟨u3.heap.size, 0, rfl, fun j u hu => by rw [Nat.zero_add]; exact d4.get j u (by simpa [El.cs, VsE] using hu)⟩
 have cAn := cAnswer1 (qA u1.heap.size) rfl rfl (by simp [qA]) (some ⟨u3.heap.size, 0, none⟩) 1 [⟨some ⟨u2.heap.size, 0, none⟩, 1, [vFourP]⟩] none 0 [] u4 (qA_ok ((d2.kept j3).kept j4)) (HA.out.kept kw4 (by simp)) s1 (fun x hx => by rw [List.mem_singleton.1 hx]; exact x0) (.inl rfl) (by simp) (by simp) (by simp) (fun x hx => by rw [List.mem_singleton.1 hx]; simp) (by simp) (by intro h; simp [qA] at h)
 have eA := qA_ans u1.heap.size
 simp only [List.map_cons, List.map_nil] at cAn;rw [eA] at cAn;simp only [qA, Qy.cs, Sl.v, List.length_cons, List.length_nil, Nat.zero_add] at cAn;have cAn' := hid cAn
 have HV4 := hid (And.intro kv4 kw4)
 have HD := hid (d1.kept j14)
 have z0 := d0.get 0 _ rfl; have z1 := d0.get 1 _ rfl
 have y0 := d0.free 0; have y1 := d0.free 1
 have hq2' := hq2.out
 clear cC k2 j0 d0 jS d1 j1 j2 d2 j3 d3 j4 d4 j14 kv4 kw4 s0 x0 s1 cAn eA;go_wp2_with fail;refine cAn'.out.mono ?_;rintro e w5 ⟨ra, rc, L, rfl, hlot, hL, k5⟩
 obtain ⟨x, rfl, hxl⟩ : ∃ x, L = [x] ∧ x.l = [vFourP] := by
  cases L with
  | nil => simp at hL
  | cons x l =>
   simp at hL
   obtain ⟨h1, h2⟩ := hL;subst h2;exact ⟨x, rfl, h1⟩
 obtain ⟨a', c', e', hsee, _, _, _, _⟩ := hlot.row.see
 cases e'
 obtain ⟨ga, oa, ea, r0⟩ := vsAt hsee (k := 0) (x := x) rfl;have hxs := (hlot.lies x (by simp)).see
 obtain ⟨xa, xc, xl⟩ := x;dsimp only at hxl;subst hxl;dsimp only at hxs r0;have hxs2 := seeV.2 hxs
 obtain ⟨gb, ob, eb, hc⟩ := hxs2.at (j := 0) (x := vFourP) rfl;have r2 := hc 2 _ rfl
 subst eb;have hb5 := HB1.out.kept (HV4.out.1.trans k5 (by simp))
 have g0 := hb5.get 0 _ rfl; have g1 := hb5.get 1 _ rfl; have g2 := hb5.get 2 _ rfl; have g3 := hb5.get 3 _ rfl; have g4 := hb5.get 4 _ rfl
 have cMa := hid (HM.out w5 (HV4.out.1.trans k5 (by simp)))
 have K5 := hid k5
 have HD5 := hid (HD.out.kept k5)
 simp only [List.length_cons, List.length_nil, Nat.zero_add, Nat.add_zero, Nat.zero_mul, VE, vFourP] at *;have HR := hid (And.intro r0 r2)
 subst ea;clear hlot hL k5 hsee hxs hxs2 hc cAn' hb5 r0 r2;go_wp2_with fail;refine cMa.out.mono ?_;rintro e w6 ⟨rfl, k6⟩;have HK6 := hid (HV4.out.2.trans (K5.out.trans k6 (by simp)) (by simp))
 have r0 := kpAt k6 HR.out.1
 have r2 := kpAt k6 HR.out.2
 have hd6 := HD5.out.kept k6
 have p0 := hd6.get 0 _ rfl; have p1 := hd6.get 1 _ rfl
 clear cMa k6 hd6;go_wp2_with fail;go_returns;exact ⟨rfl, HK6.out⟩
end Go.Proofs.YtlgfekjoknbfdaaGreatDoor
end

section
namespace Go.Proofs.YtlgfekjoknbfdaaGreatDoor
open Go.ChangeShapes Go.WideShapes Go.ChangeAt Go.RowKit Go.Hay
theorem cellsX1 : Tryz.prog.cellsOf 3 = 1 := by kernel_rfl
theorem cellsX2 : Tryz.prog.cellsOf 4 = 1 := by kernel_rfl
theorem cellsX3 : Tryz.prog.cellsOf 2 = 1 := by kernel_rfl
theorem cellsX4 : Tryz.prog.cellsOf 9 = 1 := by kernel_rfl
theorem cellsX5 : Tryz.prog.cellsOf 88 = 4 := by kernel_rfl
theorem bytesX5 : Tryz.prog.bytesOf 88 = 40 := by kernel_rfl
instance : Inhabited Val := ⟨⟨0, false, 0, ⟨#[]⟩⟩⟩
section
variable {H : Type} {enc : TypeId × Value → H} {W : World} {a : Option Addr} {len cap : Nat} {d : DataW H} {ps : List MemPlace}
theorem openV4 {fuel : Nat} {c0 c1 c2 c3 : Value} {x : DataW H × List MemPlace} (h : DataW.trod enc Tryz.prog W 0 (fun _ => true) true fuel 88 [c0, c1, c2, c3] = some x) :
  ∃ t : Val, c0 = .int .i64 t.k ∧ c1 = .bool t.b ∧ c2 = .int .i64 t.n ∧ c3 = .string t.t := by
 obtain ⟨xs, n, _, rfl, _, hlen, hf⟩ := DataW.trod_struct Tryz.underlying88 h
 match xs, hlen with
 | [y0, y1, y2, y3], _ =>
  have h0 := hf 0 _ rfl
  have h1 := hf 1 _ rfl
  have h2 := hf 2 _ rfl
  have h3 := hf 3 _ rfl
  simp [cellsX1, cellsX2, cellsX3, cellsX4] at h0 h1 h2 h3
  obtain ⟨k, e0, _, w0⟩ := DataW.trod_int Tryz.underlying3 h0;obtain ⟨b, e1, _⟩ := DataW.trod_bool Tryz.underlying4 h1;obtain ⟨n2, e2, _, w2⟩ := DataW.trod_int Tryz.underlying2 h2;obtain ⟨s, e3, _, w3⟩ := DataW.trod_string Tryz.underlying9 h3;simp at e0 e1 e2 e3
  exact ⟨⟨k, b, n2, s⟩, e0, e1, e2, e3⟩
theorem openXv (h : DataW.Trod enc Tryz.prog W 0 (fun _ => true) true 61 (.slice a len cap) d ps) :
  ∃ l : List Val, len = l.length ∧ VE.See W a l ∧ (∀ y ∈ l, True) ∧ l.length ≤ cap ∧ cap ≤ maxLen ∧ (a = none → cap = 0) ∧ (Fit 61 d → cap * 40 ≤ 140737488351232 ∧ ∀ y ∈ l, True) ∧ (l.map fun _ => 0).sum ≤ Rows.uptoBulk d ∧ cap + 1 ≤ Rows.uptoBulk d :=
 openEls VE Tryz.underlying61 cellsX5 40 bytesX5 (fun _ => True) (fun _ => True) (fun _ => 0) (fun fuel cs x hx hcs => by
  match cs, hcs with
  | [c0, c1, c2, c3], _ =>
   obtain ⟨t, e0, e1, e2, e3⟩ := openV4 hx;subst e0 e1 e2 e3;exact ⟨t, trivial, rfl, fun _ => trivial, Nat.zero_le _⟩) h
end
instance : Inhabited Col := ⟨⟨⟨#[]⟩, 0, false⟩⟩
section
variable {H : Type} {enc : TypeId × Value → H} {W : World} {a : Option Addr} {len cap : Nat} {d : DataW H} {ps : List MemPlace}
end
theorem gAsk : Tryz.prog.globalNamed "hayloft/expr.asks" = some 0 := by kernel_rfl
theorem gAskType : (Tryz.prog.globals[0]?).map (·.type) = some 228 := by kernel_rfl
theorem cellsAsk : Tryz.prog.cellsOf 228 = 18 := by kernel_rfl
theorem cellsAs3 : Tryz.prog.cellsOf 227 = 3 := by kernel_rfl
theorem askRow {W : World} {fuel : Nat} {c0 c1 c2 : Value} {b0 b1 b2 : Bool} {x : DataW Unit × List MemPlace} (h : DataW.trod (fun _ => ()) Tryz.prog W 0 (fun _ => true) false fuel 227 [c0, c1, c2] = some x) (hd : x.1 = .agg [.lit (.bool b0), .lit (.bool b1), .lit (.bool b2)]) : c0 = .bool b0 ∧ c1 = .bool b1 ∧ c2 = .bool b2 := by
 obtain ⟨y0, y1, y2, n, rfl, h0, h1, h2⟩ := trod_array3 Tryz.underlying227 cellsX2 h;obtain ⟨z0, e0, f0⟩ := DataW.trod_bool Tryz.underlying4 h0;obtain ⟨z1, e1, f1⟩ := DataW.trod_bool Tryz.underlying4 h1;obtain ⟨z2, e2, f2⟩ := DataW.trod_bool Tryz.underlying4 h2;simp at e0 e1 e2
 subst e0 e1 e2 f0 f1 f2;simp at hd
 simp [hd]
theorem asksOf {W : World} (hv0 : ∃ t cs fuel p, (Tryz.prog.globals[0]?).map (·.type) = some t ∧ W.var? Tryz.prog "hayloft/expr.asks" = some cs ∧ DataW.trod (fun _ => ()) Tryz.prog W 0 (fun _ => true) false fuel t cs.toList = some (Rows.laid_hayloft_expr_asks, p)) : Asks W := by
 obtain ⟨t, cs, fuel, p, ht, hv, hd⟩ := hv0;obtain rfl := Option.some.inj (gAskType.symm.trans ht)
 obtain ⟨xs, m, _, ex, hlen, hl, hel⟩ := DataW.trod_array Tryz.underlying228 hd;rw [cellsAsk] at hlen;obtain ⟨l⟩ := cs
 match l, hlen with
 | [c0, c1, c2, c3, c4, c5, c6, c7, c8, c9, c10, c11, c12, c13, c14, c15, c16, c17], _ =>
  match xs, hl with
  | [x0, x1, x2, x3, x4, x5], _ =>
   have e6 := (DataW.agg.inj (Prod.mk.inj ex).1)
   simp only [List.map_cons, List.map_nil, List.cons.injEq, and_true] at e6;obtain ⟨f0, f1, f2, f3, f4, f5⟩ := e6;have k0 := hel 0 (by omega)
   have k1 := hel 1 (by omega)
   have k2 := hel 2 (by omega)
   have k3 := hel 3 (by omega)
   have k4 := hel 4 (by omega)
   have k5 := hel 5 (by omega)
   rw [cellsAs3] at k0 k1 k2 k3 k4 k5;obtain ⟨g0, g1, g2⟩ := askRow (c0 := c0) (c1 := c1) (c2 := c2) (b0 := false) (b1 := true) (b2 := false) k0 f0.symm;obtain ⟨g3, g4, g5⟩ := askRow (c0 := c3) (c1 := c4) (c2 := c5) (b0 := true) (b1 := false) (b2 := true) k1 f1.symm;obtain ⟨g6, g7, g8⟩ := askRow (c0 := c6) (c1 := c7) (c2 := c8) (b0 := true) (b1 := false) (b2 := false) k2 f2.symm;obtain ⟨g9, g10, g11⟩ := askRow (c0 := c9) (c1 := c10) (c2 := c11) (b0 := true) (b1 := true) (b2 := false) k3 f3.symm;obtain ⟨g12, g13, g14⟩ := askRow (c0 := c12) (c1 := c13) (c2 := c14) (b0 := false) (b1 := false) (b2 := true) k4 f4.symm;obtain ⟨g15, g16, g17⟩ := askRow (c0 := c15) (c1 := c16) (c2 := c17) (b0 := false) (b1 := true) (b2 := true) k5 f5.symm;subst g0 g1 g2 g3 g4 g5 g6 g7 g8 g9 g10 g11 g12 g13 g14 g15 g16 g17
   have hc : ∀ i, i < 18 → W.cell? ⟨0, i, none⟩ = some (.bool (askL.getD i false)) := by
    intro i hi
    rw [World.var?_cell gAsk hv i]
    match i, hi with
    | 0, _ => rfl
    | 1, _ => rfl
    | 2, _ => rfl
    | 3, _ => rfl
    | 4, _ => rfl
    | 5, _ => rfl
    | 6, _ => rfl
    | 7, _ => rfl
    | 8, _ => rfl
    | 9, _ => rfl
    | 10, _ => rfl
    | 11, _ => rfl
    | 12, _ => rfl
    | 13, _ => rfl
    | 14, _ => rfl
    | 15, _ => rfl
    | 16, _ => rfl
    | 17, _ => rfl
    | i + 18, h => omega
   exact ⟨World.block_lt_of_cell? _ _ (hc 0 (by omega)), hc⟩
def askCells : Array Value := #[.bool false, .bool true, .bool false, .bool true, .bool false, .bool true, .bool true, .bool false, .bool false, .bool true, .bool true, .bool false, .bool false, .bool false, .bool true, .bool false, .bool true, .bool true]
end Go.Proofs.YtlgfekjoknbfdaaGreatDoor
end

/- Which tables may be, and which rows are theirs, by the reference. -/
import Derived.Test.YtcgkkofmnajedaaGreatDoorB5
import Derived.Test.YtcgkkofmnajedaaGreatDoorB1
import Derived.Test.YtcgkkofmnajedaaGreatDoorB6
import Derived.Test.YtcgkkofmnajedaaGreatDoorB8
import Derived.Test.YtcgkkofmnajedaaGreatDoorB4
import Derived.Test.YtcgkkofmnajedaaGreatDoorB3
import Derived.Lib.AppendZeros
import Derived.Laws.BitsAllLaws
import Derived.Deep.Cut
import Derived.Deep.CutRange
import Derived.Deep.RegionHeld3
import Derived.Shelf.RegionOpen
import Derived.LoopIn
import Derived.LoopNIn
import Derived.OrdersIn
import Derived.TacticsInMore
import Derived.OwnWalkIn
import Derived.RegionIn
import Derived.RangeFuncCalls
import Derived.RangeFuncNested
import Derived.RangeFuncBound
import Derived.RangeFuncLeaves
import Derived.RangeFuncSeq
set_option maxHeartbeats 64000000
set_option maxRecDepth 100000
set_option linter.unusedVariables false
set_option linter.unusedSimpArgs false
section
namespace Go.Proofs.YtcgkkofmnajedaaGreatDoor
open Go.RowKit Go.Hay
def mayT (cs : List Col) (t : Tm) : Bool := if t.co < 0 ∨ (cs.length : Int) ≤ t.co then false else if t.op = 6 ∨ t.op = 7 then true else (decide (0 ≤ t.op) && decide (t.op < 6)) && (t.x.right && (t.x.k == (cs.getD t.co.toNat ⟨⟨#[]⟩, 0, false⟩).k))
def chkT (cs : List Col) (l : List Tm) : Int := if 8 < l.length then 140 else if l.all (mayT cs) then 0 else 140
theorem mayT_out (cs : List Col) (t : Tm) (h : t.co < 0 ∨ (cs.length : Int) ≤ t.co) : mayT cs t = false := by unfold mayT; rw [if_pos h]
theorem mayT_at (cs : List Col) (t : Tm) (i : Nat) (hi : i < cs.length) (e : t.co = i) : mayT cs t = if t.op = 6 ∨ t.op = 7 then true else (decide (0 ≤ t.op) && decide (t.op < 6)) && (t.x.right && (t.x.k == cs[i].k)) := by
 unfold mayT
 rw [if_neg (by omega), e]
 simp [hi]
theorem xMay (a : Option Addr) (cap : Nat) (cs : List Col) (t : Tm) (w : World) (hs : Cols w a cs) (hl : cs.length ≤ 9223372036854775807) : Calls Tryz.prog 75 #[.slice a cs.length cap, t.v] w fun e w' => e = .returned (.bool (mayT cs t)) ∧ Kp [] w w' := by
 obtain ⟨WA, eWA⟩ : ∃ Y, w.alloc (.cells #[.int .i64 t.co, .int .i64 t.op, .int .i64 t.x.k, .bool t.x.b, .int .i64 t.x.n, .string t.x.t] 145) = Y := ⟨_, rfl⟩
 have kA : Kp [] w WA := by rw [← eWA]; exact (Kp.refl _ _).alloc _
 have zA : WA.heap.size = w.heap.size + 1 := by rw [← eWA]; simp
 have bA : Bn WA w.heap.size [.int .i64 t.co, .int .i64 t.op, .int .i64 t.x.k, .bool t.x.b, .int .i64 t.x.n, .string t.x.t] := by rw [← eWA]; exact Bn.new w [.int .i64 t.co, .int .i64 t.op, .int .i64 t.x.k, .bool t.x.b, .int .i64 t.x.n, .string t.x.t] 145
 have ta0 := bA.get 0 _ rfl; have ta1 := bA.get 1 _ rfl; have ta2 := bA.get 2 _ rfl; have ta3 := bA.get 3 _ rfl; have ta4 := bA.get 4 _ rfl; have ta5 := bA.get 5 _ rfl
 unfold Tm.v
 have KW := hid kA
 by_cases h1 : t.co < 0
 ·have d1 : decide (t.co < 0) = true := by simpa using h1
  rw [mayT_out cs t (.inl h1)];clear bA h1;go_enter Tryz.func75, Tryz.ntmps75
  go_wp2_with fail;go_returns;exact ⟨rfl, KW.out⟩
 have d1 : decide (t.co < 0) = false := by simpa using h1
 by_cases h2 : (cs.length : Int) ≤ t.co
 ·have d2 : decide ((cs.length : Int) ≤ t.co) = true := by simpa using h2
  rw [mayT_out cs t (.inr h2)];clear bA h1 h2;go_enter Tryz.func75, Tryz.ntmps75
  go_wp2_with fail;go_returns;exact ⟨rfl, KW.out⟩
 have d2 : decide ((cs.length : Int) ≤ t.co) = false := by simpa using h2
 obtain ⟨i, hi⟩ := Int.eq_ofNat_of_zero_le (show 0 ≤ t.co by omega)
 have hil : i < cs.length := by omega
 rw [mayT_at cs t i hil hi];obtain ⟨g, o, rfl, c0, c1, c2⟩ := (hs.kept kA).at i hil;have i1 : (0 : Int) ≤ (i : Int) := by omega
 have i2 : (i : Int) < (cs.length : Int) := by omega
 have d2n : decide (cs.length ≤ i) = false := by simp; omega
 have BB := hid bA
 have zC : w.heap.size < WA.heap.size := by omega
 have CC := hid c1
 clear hs kA bA h1 h2 zA c0 c1 c2;generalize cs[i].k = ck at *
 obtain ⟨co, op, x⟩ := t;have aR := hid (cRight x)
 generalize hrr : x.right = X at *
 clear hrr;obtain ⟨xk, xb, xn, xt⟩ := x;simp only [Val.v] at *;subst hi
 by_cases h6 : op = 6
 ·subst h6
  rw [if_pos (.inl rfl)];clear BB CC aR;go_enter Tryz.func75, Tryz.ntmps75
  go_wp2_with fail;go_returns;exact ⟨rfl, KW.out⟩
 have d6 : (op == 6) = false := by simpa using h6
 by_cases h7 : op = 7
 ·subst h7
  rw [if_pos (.inr rfl)];clear BB CC aR h6;go_enter Tryz.func75, Tryz.ntmps75
  go_wp2_with fail;go_returns;exact ⟨rfl, KW.out⟩
 have d7 : (op == 7) = false := by simpa using h7
 rw [if_neg (by omega)]
 have aO := hid (cOrdered op)
 have hF : Hid (∀ W', Kp [] WA W' → (W'.cell? ⟨w.heap.size, 0, none⟩ = some (.int .i64 (i : Int)) ∧ W'.cell? ⟨w.heap.size, 1, none⟩ = some (.int .i64 op) ∧ W'.cell? ⟨w.heap.size, 2, none⟩ = some (.int .i64 xk) ∧ W'.cell? ⟨w.heap.size, 3, none⟩ = some (.bool xb) ∧ W'.cell? ⟨w.heap.size, 4, none⟩ = some (.int .i64 xn) ∧ W'.cell? ⟨w.heap.size, 5, none⟩ = some (.string xt) ∧ W'.cell? ⟨g, o + i * 3 + 1, none⟩ = some (.int .i64 ck))) := fun W' k => by
  have h1 := BB.out.kept k
  exact ⟨h1.get 0 _ rfl, h1.get 1 _ rfl, h1.get 2 _ rfl, h1.get 3 _ rfl, h1.get 4 _ rfl, h1.get 5 _ rfl, kpAt k CC.out⟩
 clear BB CC h6 h7;generalize (decide (0 ≤ op) && decide (op < 6)) = O at *
 cases O with
 | false =>
  clear aR;go_enter Tryz.func75, Tryz.ntmps75
  go_wp2_with fail;refine wp_region_held_drew (S := fun W' => W'.cell? ⟨w.heap.size, 0, none⟩ = some (.int .i64 (i : Int)) ∧ W'.cell? ⟨w.heap.size, 1, none⟩ = some (.int .i64 op) ∧ W'.cell? ⟨w.heap.size, 2, none⟩ = some (.int .i64 xk) ∧ W'.cell? ⟨w.heap.size, 3, none⟩ = some (.bool xb) ∧ W'.cell? ⟨w.heap.size, 4, none⟩ = some (.int .i64 xn) ∧ W'.cell? ⟨w.heap.size, 5, none⟩ = some (.string xt) ∧ W'.cell? ⟨g, o + i * 3 + 1, none⟩ = some (.int .i64 ck)) (by kernel_rfl) ?_ (fun hHeld => ?_)
  ·exact hF.out _ (Kp.refl _ _).drew
  have KD : Hid (Kp [] WA WA.drew) := hid (Kp.refl _ _).drew
  generalize WA.drew = Wd at *
  refine tkH ?_ 0 rfl (by kernel_rfl) (fun _ _ _ h => h) (by rfl) ?_ ‹_› ?_;rotate_left
  ·intro w h; (try dsimp only at h); go_simp <;> with_reducible rfl
  (try simp only [Act.put, lz]);refine tkH ?_ 1 rfl (by kernel_rfl) (fun _ _ _ h => h) (by rfl) ?_ ‹_› ?_;rotate_left
  ·intro w h; (try dsimp only at h); go_simp <;> with_reducible rfl
  (try simp only [Act.put, lz]);refine rdH 2 (by kernel_rfl) rfl fun K hK => ?_
  go_simp;refine (aO.out _).mono ?_;rintro e wx ⟨rfl, ex⟩;rw [ex];clear ex wx;(try go_wp2_with fail);refine hK.out _ _ ?_ (fun hHeld => ?_)
  ·exact hF.out _ KD.out
  clear hK K;(try simp only [Act.put, lz]);refine tkH ?_ 3 rfl (by kernel_rfl) (fun _ _ _ h => h) (by rfl) ?_ ‹_› ?_;rotate_left
  ·intro w h; (try dsimp only at h); go_simp <;> with_reducible rfl
  (try simp only [Act.put, lz]);refine tkU 4 rfl (by kernel_rfl) (fun _ _ _ h => h) (by rfl) ‹_› ?_
  (try simp only [Act.put, lz]);refine tkU 5 rfl (by kernel_rfl) (fun _ _ _ h => h) (by rfl) ‹_› ?_
  (try simp only [Act.put, lz]);refine tkU 6 rfl (by kernel_rfl) (fun _ _ _ h => h) (by rfl) ‹_› ?_
  (try simp only [Act.put, lz]);refine tkH ?_ 7 rfl (by kernel_rfl) (fun _ _ _ h => h) (by rfl) ?_ ‹_› ?_;rotate_left
  ·intro w h; (try dsimp only at h); go_simp <;> with_reducible rfl
  (try simp only [Act.put, lz]);refine tkH ?_ 8 rfl (by kernel_rfl) (fun _ _ _ h => h) (by rfl) ?_ ‹_› ?_;rotate_left
  ·intro w h; (try dsimp only at h); go_simp <;> with_reducible rfl
  (try simp only [Act.put, lz]);refine tkU 9 rfl (by kernel_rfl) (fun _ _ _ h => h) (by rfl) ‹_› ?_
  (try simp only [Act.put, lz]);refine tkU 10 rfl (by kernel_rfl) (fun _ _ _ h => h) (by rfl) ‹_› ?_
  (try simp only [Act.put, lz]);refine tkU 11 rfl (by kernel_rfl) (fun _ _ _ h => h) (by rfl) ‹_› ?_
  (try simp only [Act.put, lz]);refine tkU 12 rfl (by kernel_rfl) (fun _ _ _ h => h) (by rfl) ‹_› ?_
  (try simp only [Act.put, lz]);refine tkU 13 rfl (by kernel_rfl) (fun _ _ _ h => h) (by rfl) ‹_› ?_
  (try simp only [Act.put, lz]);refine tkU 14 rfl (by kernel_rfl) (fun _ _ _ h => h) (by rfl) ‹_› ?_
  (try simp only [Act.put, lz]);refine tkU 15 rfl (by kernel_rfl) (fun _ _ _ h => h) (by rfl) ‹_› ?_
  (try simp only [Act.put, lz]);refine tkU 16 rfl (by kernel_rfl) (fun _ _ _ h => h) (by rfl) ‹_› ?_
  (try simp only [Act.put, lz]);refine tkU 17 rfl (by kernel_rfl) (fun _ _ _ h => h) (by rfl) ‹_› ?_
  (try simp only [Act.put, lz]);refine tkU 18 rfl (by kernel_rfl) (fun _ _ _ h => h) (by rfl) ‹_› ?_
  (try simp only [Act.put, lz]);refine tkH ?_ 19 rfl (by kernel_rfl) (fun _ _ _ h => h) (by rfl) ?_ ‹_› ?_;rotate_left
  ·intro w h; (try dsimp only at h); go_simp <;> with_reducible rfl
  (try simp only [Act.put, lz]);refine tkH ?_ 20 rfl (by kernel_rfl) (fun _ _ _ h => h) (by rfl) ?_ ‹_› ?_;rotate_left
  ·intro w h; (try dsimp only at h); go_simp <;> with_reducible rfl
  (try simp only [Act.put, lz]);refine wpAnyH_done (by kernel_rfl) ?_ _
  clear hHeld;go_wp2_with fail;go_ret;exact ⟨by rfl, KW.out.trans KD.out (by simp)⟩
 | true =>
  cases X with
  | false =>
   go_enter Tryz.func75, Tryz.ntmps75
   go_wp2_with fail;refine wp_region_held_drew (S := fun W' => W'.cell? ⟨w.heap.size, 0, none⟩ = some (.int .i64 (i : Int)) ∧ W'.cell? ⟨w.heap.size, 1, none⟩ = some (.int .i64 op) ∧ W'.cell? ⟨w.heap.size, 2, none⟩ = some (.int .i64 xk) ∧ W'.cell? ⟨w.heap.size, 3, none⟩ = some (.bool xb) ∧ W'.cell? ⟨w.heap.size, 4, none⟩ = some (.int .i64 xn) ∧ W'.cell? ⟨w.heap.size, 5, none⟩ = some (.string xt) ∧ W'.cell? ⟨g, o + i * 3 + 1, none⟩ = some (.int .i64 ck)) (by kernel_rfl) ?_ (fun hHeld => ?_)
   ·exact hF.out _ (Kp.refl _ _).drew
   have KD : Hid (Kp [] WA WA.drew) := hid (Kp.refl _ _).drew
   generalize WA.drew = Wd at *
   refine tkH ?_ 0 rfl (by kernel_rfl) (fun _ _ _ h => h) (by rfl) ?_ ‹_› ?_;rotate_left
   ·intro w h; (try dsimp only at h); go_simp <;> with_reducible rfl
   (try simp only [Act.put, lz]);refine tkH ?_ 1 rfl (by kernel_rfl) (fun _ _ _ h => h) (by rfl) ?_ ‹_› ?_;rotate_left
   ·intro w h; (try dsimp only at h); go_simp <;> with_reducible rfl
   (try simp only [Act.put, lz]);refine rdH 2 (by kernel_rfl) rfl fun K hK => ?_
   go_simp;refine (aO.out _).mono ?_;rintro e wx ⟨rfl, ex⟩;rw [ex];clear ex wx;(try go_wp2_with fail);refine hK.out _ _ ?_ (fun hHeld => ?_)
   ·exact hF.out _ KD.out
   clear hK K;(try simp only [Act.put, lz]);refine tkH ?_ 3 rfl (by kernel_rfl) (fun _ _ _ h => h) (by rfl) ?_ ‹_› ?_;rotate_left
   ·intro w h; (try dsimp only at h); go_simp <;> with_reducible rfl
   (try simp only [Act.put, lz]);refine tkH ?_ 4 rfl (by kernel_rfl) (fun _ _ _ h => h) (by rfl) ?_ ‹_› ?_;rotate_left
   ·intro w h; (try dsimp only at h); go_simp <;> with_reducible rfl
   (try simp only [Act.put, lz]);refine tkH ?_ 5 rfl (by kernel_rfl) (fun _ _ _ h => h) (by rfl) ?_ ‹_› ?_;rotate_left
   ·intro w h; (try dsimp only at h); go_simp <;> with_reducible rfl
   (try simp only [Act.put, lz]);refine rdH 6 (by kernel_rfl) rfl fun K hK => ?_
   go_simp;refine (aR.out _).mono ?_;rintro e w1 ⟨rfl, k1⟩;(try go_wp2_with fail);refine hK.out _ _ ?_ (fun hHeld => ?_)
   ·exact hF.out _ (KD.out.trans k1 (by simp))
   clear hK K;(try simp only [Act.put, lz]);have K1 := hid (KD.out.trans k1 (by simp))
   clear k1 KD;refine tkH ?_ 7 rfl (by kernel_rfl) (fun _ _ _ h => h) (by rfl) ?_ ‹_› ?_;rotate_left
   ·intro w h; (try dsimp only at h); go_simp <;> with_reducible rfl
   (try simp only [Act.put, lz]);refine tkH ?_ 8 rfl (by kernel_rfl) (fun _ _ _ h => h) (by rfl) ?_ ‹_› ?_;rotate_left
   ·intro w h; (try dsimp only at h); go_simp <;> with_reducible rfl
   (try simp only [Act.put, lz]);refine tkU 9 rfl (by kernel_rfl) (fun _ _ _ h => h) (by rfl) ‹_› ?_
   (try simp only [Act.put, lz]);refine tkU 10 rfl (by kernel_rfl) (fun _ _ _ h => h) (by rfl) ‹_› ?_
   (try simp only [Act.put, lz]);refine tkU 11 rfl (by kernel_rfl) (fun _ _ _ h => h) (by rfl) ‹_› ?_
   (try simp only [Act.put, lz]);refine tkU 12 rfl (by kernel_rfl) (fun _ _ _ h => h) (by rfl) ‹_› ?_
   (try simp only [Act.put, lz]);refine tkU 13 rfl (by kernel_rfl) (fun _ _ _ h => h) (by rfl) ‹_› ?_
   (try simp only [Act.put, lz]);refine tkU 14 rfl (by kernel_rfl) (fun _ _ _ h => h) (by rfl) ‹_› ?_
   (try simp only [Act.put, lz]);refine tkU 15 rfl (by kernel_rfl) (fun _ _ _ h => h) (by rfl) ‹_› ?_
   (try simp only [Act.put, lz]);refine tkU 16 rfl (by kernel_rfl) (fun _ _ _ h => h) (by rfl) ‹_› ?_
   (try simp only [Act.put, lz]);refine tkU 17 rfl (by kernel_rfl) (fun _ _ _ h => h) (by rfl) ‹_› ?_
   (try simp only [Act.put, lz]);refine tkU 18 rfl (by kernel_rfl) (fun _ _ _ h => h) (by rfl) ‹_› ?_
   (try simp only [Act.put, lz]);refine tkH ?_ 19 rfl (by kernel_rfl) (fun _ _ _ h => h) (by rfl) ?_ ‹_› ?_;rotate_left
   ·intro w h; (try dsimp only at h); go_simp <;> with_reducible rfl
   (try simp only [Act.put, lz]);refine tkH ?_ 20 rfl (by kernel_rfl) (fun _ _ _ h => h) (by rfl) ?_ ‹_› ?_;rotate_left
   ·intro w h; (try dsimp only at h); go_simp <;> with_reducible rfl
   (try simp only [Act.put, lz]);refine wpAnyH_done (by kernel_rfl) ?_ _
   clear hHeld;go_wp2_with fail;go_ret;exact ⟨by rfl, KW.out.trans K1.out (by simp)⟩
  | true =>
   go_enter Tryz.func75, Tryz.ntmps75
   go_wp2_with fail;refine wp_region_held_drew (S := fun W' => W'.cell? ⟨w.heap.size, 0, none⟩ = some (.int .i64 (i : Int)) ∧ W'.cell? ⟨w.heap.size, 1, none⟩ = some (.int .i64 op) ∧ W'.cell? ⟨w.heap.size, 2, none⟩ = some (.int .i64 xk) ∧ W'.cell? ⟨w.heap.size, 3, none⟩ = some (.bool xb) ∧ W'.cell? ⟨w.heap.size, 4, none⟩ = some (.int .i64 xn) ∧ W'.cell? ⟨w.heap.size, 5, none⟩ = some (.string xt) ∧ W'.cell? ⟨g, o + i * 3 + 1, none⟩ = some (.int .i64 ck)) (by kernel_rfl) ?_ (fun hHeld => ?_)
   ·exact hF.out _ (Kp.refl _ _).drew
   have KD : Hid (Kp [] WA WA.drew) := hid (Kp.refl _ _).drew
   generalize WA.drew = Wd at *
   refine tkH ?_ 0 rfl (by kernel_rfl) (fun _ _ _ h => h) (by rfl) ?_ ‹_› ?_;rotate_left
   ·intro w h; (try dsimp only at h); go_simp <;> with_reducible rfl
   (try simp only [Act.put, lz]);refine tkH ?_ 1 rfl (by kernel_rfl) (fun _ _ _ h => h) (by rfl) ?_ ‹_› ?_;rotate_left
   ·intro w h; (try dsimp only at h); go_simp <;> with_reducible rfl
   (try simp only [Act.put, lz]);refine rdH 2 (by kernel_rfl) rfl fun K hK => ?_
   go_simp;refine (aO.out _).mono ?_;rintro e wx ⟨rfl, ex⟩;rw [ex];clear ex wx;(try go_wp2_with fail);refine hK.out _ _ ?_ (fun hHeld => ?_)
   ·exact hF.out _ KD.out
   clear hK K;(try simp only [Act.put, lz]);refine tkH ?_ 3 rfl (by kernel_rfl) (fun _ _ _ h => h) (by rfl) ?_ ‹_› ?_;rotate_left
   ·intro w h; (try dsimp only at h); go_simp <;> with_reducible rfl
   (try simp only [Act.put, lz]);refine tkH ?_ 4 rfl (by kernel_rfl) (fun _ _ _ h => h) (by rfl) ?_ ‹_› ?_;rotate_left
   ·intro w h; (try dsimp only at h); go_simp <;> with_reducible rfl
   (try simp only [Act.put, lz]);refine tkH ?_ 5 rfl (by kernel_rfl) (fun _ _ _ h => h) (by rfl) ?_ ‹_› ?_;rotate_left
   ·intro w h; (try dsimp only at h); go_simp <;> with_reducible rfl
   (try simp only [Act.put, lz]);refine rdH 6 (by kernel_rfl) rfl fun K hK => ?_
   go_simp;refine (aR.out _).mono ?_;rintro e w1 ⟨rfl, k1⟩;(try go_wp2_with fail);refine hK.out _ _ ?_ (fun hHeld => ?_)
   ·exact hF.out _ (KD.out.trans k1 (by simp))
   clear hK K;(try simp only [Act.put, lz]);have K1 := hid (KD.out.trans k1 (by simp))
   clear k1 KD;refine tkH ?_ 7 rfl (by kernel_rfl) (fun _ _ _ h => h) (by rfl) ?_ ‹_› ?_;rotate_left
   ·intro w h; (try dsimp only at h); go_simp <;> with_reducible rfl
   (try simp only [Act.put, lz]);refine tkH ?_ 8 rfl (by kernel_rfl) (fun _ _ _ h => h) (by rfl) ?_ ‹_› ?_;rotate_left
   ·intro w h; (try dsimp only at h); go_simp <;> with_reducible rfl
   (try simp only [Act.put, lz]);refine tkH ?_ 9 rfl (by kernel_rfl) (fun _ _ _ h => h) (by rfl) ?_ ‹_› ?_;rotate_left
   ·intro w h; (try dsimp only at h); go_simp <;> with_reducible rfl
   (try simp only [Act.put, lz]);refine tkH ?_ 10 rfl (by kernel_rfl) (fun _ _ _ h => h) (by rfl) ?_ ‹_› ?_;rotate_left
   ·intro w h; (try dsimp only at h); go_simp <;> with_reducible rfl
   (try simp only [Act.put, lz]);refine tkH ?_ 11 rfl (by kernel_rfl) (fun _ _ _ h => h) (by rfl) ?_ ‹_› ?_;rotate_left
   ·intro w h; (try dsimp only at h); go_simp <;> with_reducible rfl
   (try simp only [Act.put, lz]);refine tkH ?_ 12 rfl (by kernel_rfl) (fun _ _ _ h => h) (by rfl) ?_ ‹_› ?_;rotate_left
   ·intro w h; (try dsimp only at h); go_simp <;> with_reducible rfl
   (try simp only [Act.put, lz]);refine tkH ?_ 13 rfl (by kernel_rfl) (fun _ _ _ h => h) (by rfl) ?_ ‹_› ?_;rotate_left
   ·intro w h; (try dsimp only at h); go_simp <;> with_reducible rfl
   (try simp only [Act.put, lz]);refine tkH ?_ 14 rfl (by kernel_rfl) (fun _ _ _ h => h) (by rfl) ?_ ‹_› ?_;rotate_left
   ·intro w h; (try dsimp only at h); go_simp <;> with_reducible rfl
   (try simp only [Act.put, lz]);refine tkH ?_ 15 rfl (by kernel_rfl) (fun _ _ _ h => h) (by rfl) ?_ ‹_› ?_;rotate_left
   ·intro w h; (try dsimp only at h); go_simp <;> with_reducible rfl
   (try simp only [Act.put, lz]);refine tkH ?_ 16 rfl (by kernel_rfl) (fun _ _ _ h => h) (by rfl) ?_ ‹_› ?_;rotate_left
   ·intro w h; (try dsimp only at h); go_simp <;> with_reducible rfl
   (try simp only [Act.put, lz]);refine tkH ?_ 17 rfl (by kernel_rfl) (fun _ _ _ h => h) (by rfl) ?_ ‹_› ?_;rotate_left
   ·intro w h; (try dsimp only at h); go_simp <;> with_reducible rfl
   (try simp only [Act.put, lz]);refine tkH ?_ 18 rfl (by kernel_rfl) (fun _ _ _ h => h) (by rfl) ?_ ‹_› ?_;rotate_left
   ·intro w h; (try dsimp only at h); go_simp <;> with_reducible rfl
   (try simp only [Act.put, lz]);refine tkH ?_ 19 rfl (by kernel_rfl) (fun _ _ _ h => h) (by rfl) ?_ ‹_› ?_;rotate_left
   ·intro w h; (try dsimp only at h); go_simp <;> with_reducible rfl
   (try simp only [Act.put, lz]);refine tkH ?_ 20 rfl (by kernel_rfl) (fun _ _ _ h => h) (by rfl) ?_ ‹_› ?_;rotate_left
   ·intro w h; (try dsimp only at h); go_simp <;> with_reducible rfl
   (try simp only [Act.put, lz]);refine wpAnyH_done (by kernel_rfl) ?_ _
   clear hHeld;go_wp2_with fail;go_ret;exact ⟨by simp, KW.out.trans K1.out (by simp)⟩
theorem xCheck (b : Option Addr) (cb : Nat) (cs : List Col) (a : Option Addr) (ca : Nat) (l : List Tm) (w : World) (hs : Cols w b cs) (ht : TmE.See w a l) (hl : l.length ≤ 9223372036854775806) (hr : cs.length ≤ 9223372036854775807) : Calls Tryz.prog 35 #[.slice b cs.length cb, .slice a l.length ca] w fun e w' => e = .returned (.int .i64 (chkT cs l)) ∧ Kp [] w w' := by
 have HS := hid hs
 have HTm := hid ht
 clear hs ht
 by_cases h8 : 8 < l.length
 ·have e8 : decide ((8 : Int) < (l.length : Int)) = true := by simp; omega
  have hR : Hid (chkT cs l = 140) := by show _ = _; unfold chkT; rw [if_pos h8]
  rw [hR.out];clear h8 hR;go_enter Tryz.func35, Tryz.ntmps35
  go_wp2_with fail;go_returns;exact ⟨rfl, Kp.refl _ _⟩
 have e8 : decide ((8 : Int) < (l.length : Int)) = false := by simp; omega
 have hR : Hid (chkT cs l = if l.all (mayT cs) then 0 else 140) := by show _ = _; unfold chkT; rw [if_neg h8]
 rw [hR.out];clear h8 hR;obtain ⟨R, hR⟩ : ∃ R, Hid (l.all (mayT cs) = R) := ⟨_, hid rfl⟩
 rw [hR.out];obtain ⟨RR, hRR⟩ : ∃ RR : Int, Hid ((if R = true then (0 : Int) else 140) = RR) := ⟨_, hid rfl⟩
 rw [hRR.out];go_enter Tryz.func35, Tryz.ntmps35
 go_wp2_with fail;go_loopw [12] (fun i wr => ∃ j : Nat, j ≤ l.length ∧ i = .int .i64 j ∧ Hid ((l.take j).all (mayT cs) = true) ∧ Kp [] w wr) (fun i _ => l.length - (intOf i).toNat)
 case atStart => exact ⟨0, Nat.zero_le _, rfl, hid rfl, Kp.refl _ _⟩
 case round =>
  obtain ⟨j, hj, rfl, hst, kr⟩ := hrel
  by_cases hjl : j < l.length
  ·have hx : l[j]? = some l[j] := by simp [hjl]
   obtain ⟨g, o, rfl, x0, x1, x2, x3, x4, x5⟩ := tmAt (HTm.out.keptNew kr) hx;have i1 : (0 : Int) ≤ (j : Int) := by omega
   have i2 : (j : Int) < (l.length : Int) := by omega
   have i3 : (j : Int) + 1 ≤ 9223372036854775807 := by omega
   have hsu : Hid ((l.take (j + 1)).all (mayT cs) = mayT cs l[j]) := by
    show _ = _
    rw [List.take_succ_eq_append_getElem hjl, List.all_append, hst.out];simp
   have hno : Hid (mayT cs l[j] = false → RR = 140) := fun e => by
    have h0 : R = false := by
     rw [← hR.out, List.all_eq_false];exact ⟨_, List.getElem_mem hjl, by rw [e]; simp⟩
    rw [← hRR.out, h0]; rfl
   clear hx;generalize l[j] = t at *
   obtain ⟨WA, eWA⟩ : ∃ Y, wr.alloc (.cells #[.int .i64 0, .int .i64 0, .int .i64 0, .bool false, .int .i64 0, .string ⟨#[]⟩] 145) = Y := ⟨_, rfl⟩
   have kWA : Kp [] wr WA := by rw [← eWA]; exact (Kp.refl _ _).alloc _
   have zWA : WA.heap.size = wr.heap.size + 1 := by rw [← eWA]; simp
   have xWA : Bn WA (wr.heap.size) [.int .i64 0, .int .i64 0, .int .i64 0, .bool false, .int .i64 0, .string ⟨#[]⟩] := by rw [← eWA]; exact Bn.new wr [.int .i64 0, .int .i64 0, .int .i64 0, .bool false, .int .i64 0, .string ⟨#[]⟩] 145
   obtain ⟨WB, eWB⟩ : ∃ Y, ((((((WA.setCell ⟨wr.heap.size, 0, none⟩ (.int .i64 t.co)).setCell ⟨wr.heap.size, 1, none⟩ (.int .i64 t.op)).setCell ⟨wr.heap.size, 2, none⟩ (.int .i64 t.x.k)).setCell ⟨wr.heap.size, 3, none⟩ (.bool t.x.b)).setCell ⟨wr.heap.size, 4, none⟩ (.int .i64 t.x.n)).setCell ⟨wr.heap.size, 5, none⟩ (.string t.x.t)) = Y := ⟨_, rfl⟩
   have kWB : Kp [wr.heap.size] WA WB := by rw [← eWB]; exact (((((((Kp.refl _ _).setCell (by simp) _).setCell (by simp) _).setCell (by simp) _).setCell (by simp) _).setCell (by simp) _).setCell (by simp) _)
   have xWB : Bn WB (wr.heap.size) [.int .i64 t.co, .int .i64 t.op, .int .i64 t.x.k, .bool t.x.b, .int .i64 t.x.n, .string t.x.t] := by rw [← eWB]; exact ((((((xWA.set 0 (by simp) (.int .i64 t.co)).set 1 (by simp) (.int .i64 t.op)).set 2 (by simp) (.int .i64 t.x.k)).set 3 (by simp) (.bool t.x.b)).set 4 (by simp) (.int .i64 t.x.n)).set 5 (by simp) (.string t.x.t))
   have zWB := kWB.size
   have ma0 := xWA.get 0 _ rfl; have ma1 := xWA.get 1 _ rfl; have ma2 := xWA.get 2 _ rfl; have ma3 := xWA.get 3 _ rfl; have ma4 := xWA.get 4 _ rfl; have ma5 := xWA.get 5 _ rfl
   have mf0 := xWA.free 0; have mf1 := xWA.free 1; have mf2 := xWA.free 2; have mf3 := xWA.free 3; have mf4 := xWA.free 4; have mf5 := xWA.free 5
   have pc0 := xWB.get 0 _ rfl; have pc1 := xWB.get 1 _ rfl; have pc2 := xWB.get 2 _ rfl; have pc3 := xWB.get 3 _ rfl; have pc4 := xWB.get 4 _ rfl; have pc5 := xWB.get 5 _ rfl
   have kB : Kp [] wr WB := kWA.trans kWB (fun x hx => .inr (by simp at hx; omega))
   have KB := hid (kr.trans kB (by simp))
   have aT := hid (xMay b cb cs t WB (HS.out.kept KB.out) hr)
   clear kWA kWB xWA xWB kB;generalize mayT cs t = Z at *
   obtain ⟨co, op, ⟨xk, xb, xn, xt⟩⟩ := t;simp only [Tm.v] at *;go_wp2_with fail;refine aT.out.mono ?_;rintro e w2 ⟨rfl, k2⟩;have K2 := hid (KB.out.trans k2 (by simp))
   clear aT k2 KB x0 x1 x2 x3 x4 x5 eWA eWB ma0 ma1 ma2 ma3 ma4 ma5 mf0 mf1 mf2 mf3 mf4 mf5 pc0 pc1 pc2 pc3 pc4 pc5
   cases Z with
   | false =>
    have h3 := hid (hno.out rfl)
    clear hno hsu;go_wp2_with fail;go_ret;exact ⟨by rw [h3.out]; rfl, K2.out⟩
   | true =>
    clear hno;go_wp2_with fail;exact ⟨⟨j + 1, by omega, by go_num, hsu, K2.out⟩, by simp [intOf]; omega⟩
  ·have e : j = l.length := by omega
   subst e
   have h4 : Hid (RR = 0) := by
    show _ = _
    have h0 : R = true := by rw [← hR.out]; have := hst.out; rwa [List.take_length] at this
    rw [← hRR.out, h0]; rfl
   go_wp2_with fail;go_ret;exact ⟨by rw [h4.out]; rfl, kr⟩
end Go.Proofs.YtcgkkofmnajedaaGreatDoor
end

section
namespace Go.Proofs.YtcgkkofmnajedaaGreatDoor
open Go.RowKit Go.Hay
attribute [local go_sem] Oper.semAt_some
def wdQ (q : Qy) : Nat := if q.gr then q.by_.l.length + q.ag.l.length else q.cl.l.length
def plMQ (n : Nat) (l : List Int) : Bool := l.all fun p => wi p n
def agM (cs : List Col) (a : Int × Int) : Bool := if a.1 = 0 then true else if a.1 = 1 then wi a.2 cs.length && ((cs.getD a.2.toNat ⟨⟨#[]⟩, 0, false⟩).k == 2) else if a.1 = 2 ∨ a.1 = 3 then wi a.2 cs.length else false
def ansM (cs : List Col) (q : Qy) : Bool := if wdQ q = 0 ∨ 16 < wdQ q then false else if q.gr then (q.cl.l.length == 0) && (plMQ cs.length q.by_.l && q.ag.l.all (agM cs)) else (q.by_.l.length == 0) && ((q.ag.l.length == 0) && plMQ cs.length q.cl.l)
def orM (q : Qy) : Bool := if 8 < q.od.l.length then false else q.od.l.all fun o => wi o.1 (wdQ q)
theorem all_take_snoc {α : Type} {f : α → Bool} {l : List α} {j : Nat} (h : j < l.length) : (l.take (j + 1)).all f = ((l.take j).all f && f l[j]) := by
 rw [List.take_succ_eq_append_getElem h, List.all_append];simp
theorem all_no {α : Type} {f : α → Bool} {l : List α} {j : Nat} (h : j < l.length) (hf : f l[j] = false) : l.all f = false := by
 rw [Bool.eq_false_iff];intro h2
 have := List.all_eq_true.1 h2 _ (List.getElem_mem h)
 rw [hf] at this
 cases this
theorem wi_no {x m : Int} (h : ¬ (0 ≤ x ∧ x < m)) : wi x m = false := by unfold wi; simp; omega
theorem wi_yes {x m : Int} (h : 0 ≤ x ∧ x < m) : wi x m = true := by unfold wi; simp; omega
theorem wi_iff {x m : Int} : wi x m = true ↔ 0 ≤ x ∧ x < m := by unfold wi; simp
theorem cPlM (a : Option Addr) (c : Nat) (l : List Int) (n : Nat) (w : World) (hs : IntE.See w a l) (hl : l.length ≤ 4000000000000) :
  Calls Tryz.prog 77 #[.slice a l.length c, .int .i64 (n : Int)] w fun e w' => e = .returned (.bool (plMQ n l)) ∧ Kp [] w w' := by
 have HS := hid hs
 obtain ⟨r, hr⟩ : ∃ r, Hid (plMQ n l = r) := ⟨_, hid rfl⟩
 rw [hr.out];clear hs;go_enter Tryz.func77, Tryz.ntmps77
 go_wp2_with fail;go_loopw [9] (fun v9 wr => ∃ j : Nat, j ≤ l.length ∧ v9 = .int .i64 (j : Int) ∧ Hid ((l.take j).all (fun p => wi p n) = true) ∧ wr = w) (fun v9 _ => l.length - (intOf v9).toNat)
 case atStart => exact ⟨0, Nat.zero_le _, rfl, hid rfl, rfl⟩
 case round =>
  obtain ⟨j, hj, rfl, hall, rfl⟩ := hrel
  by_cases hlt : j < l.length
  ·obtain ⟨g, o, ea, c0⟩ := intAt HS.out j hlt
   have hsn := hid (all_take_snoc (f := fun p => wi p n) hlt)
   have hno := hid (fun h => all_no (f := fun p => wi p n) hlt h)
   generalize l[j] = x at *
   have cW := hid (cWithinP x n wr)
   have i1 : (0 : Int) ≤ (j : Int) := by omega
   have i2 : (j : Int) < (l.length : Int) := by omega
   have i3 : (j : Int) + 1 ≤ 9223372036854775807 := by omega
   subst ea;obtain ⟨b, hb⟩ : ∃ b, Hid (wi x n = b) := ⟨_, hid rfl⟩
   simp only [hb.out] at cW hsn;go_wp2_with fail;refine cW.out.mono ?_;rintro e w2 ⟨rfl, rfl⟩;clear cW
   cases b with
   | true =>
    have hr2 : Hid ((l.take (j + 1)).all (fun p => wi p n) = true) := hid (by rw [hsn.out, hall.out]; rfl)
    go_wp2_with fail;go_roundw
    case rel => exact ⟨j + 1, by omega, by go_num, hr2, trivial⟩
    case measure => simp [intOf]; omega
   | false =>
    have hr2 : Hid (r = false) := hid (by rw [← hr.out]; exact hno.out hb.out)
    go_wp2_with fail;go_ret;rw [hr2.out];exact ⟨rfl, Kp.refl _ _⟩
  ·have hr2 : Hid (r = true) := hid (by rw [← hr.out, ← hall.out, show j = l.length by omega, List.take_length]; rfl)
   have dj1 : ¬ (j : Int) < (l.length : Int) := by omega
   have dj2 : decide ((j : Int) < (l.length : Int)) = false := by simp; omega
   go_wp2_with fail;go_ret;rw [hr2.out];exact ⟨rfl, Kp.refl _ _⟩
theorem rBelow (a : Option Addr) (c : Nat) (l : List Int) (n : Nat) (w : World) (hs : IntE.See w a l) (hl : l.length ≤ 4000000000000) :
  Calls Tryz.prog 40 #[.slice a l.length c, .int .i64 (n : Int)] w fun e w' => e = .returned (.bool (plMQ n l)) ∧ Kp [] w w' := by
 have HS := hid hs
 obtain ⟨r, hr⟩ : ∃ r, Hid (plMQ n l = r) := ⟨_, hid rfl⟩
 rw [hr.out];clear hs;go_enter Tryz.func40, Tryz.ntmps40
 go_wp2_with fail;go_loopw [5] (fun v9 wr => ∃ j : Nat, j ≤ l.length ∧ v9 = .int .i64 (j : Int) ∧ Hid ((l.take j).all (fun p => wi p n) = true) ∧ wr = w) (fun v9 _ => l.length - (intOf v9).toNat)
 case atStart => exact ⟨0, Nat.zero_le _, rfl, hid rfl, rfl⟩
 case round =>
  obtain ⟨j, hj, rfl, hall, rfl⟩ := hrel
  by_cases hlt : j < l.length
  ·obtain ⟨g, o, ea, c0⟩ := intAt HS.out j hlt
   have hsn := hid (all_take_snoc (f := fun p => wi p n) hlt)
   have hno := hid (fun h => all_no (f := fun p => wi p n) hlt h)
   generalize l[j] = x at *
   have i1 : (0 : Int) ≤ (j : Int) := by omega
   have i2 : (j : Int) < (l.length : Int) := by omega
   have i3 : (j : Int) + 1 ≤ 9223372036854775807 := by omega
   subst ea
   by_cases h0 : x < 0
   ·have e0 : decide (x < 0) = true := by simpa using h0
    have hr2 : Hid (r = false) := hid (by rw [← hr.out]; exact hno.out (wi_no (by omega)))
    go_wp2_with fail;go_ret;rw [hr2.out];exact ⟨rfl, Kp.refl _ _⟩
   ·have e0 : decide (x < 0) = false := by simpa using h0
    by_cases h1 : x ≥ (n : Int)
    ·have e1 : decide (x ≥ (n : Int)) = true := by simpa using h1
     have hr2 : Hid (r = false) := hid (by rw [← hr.out]; exact hno.out (wi_no (by omega)))
     go_wp2_with fail;go_ret;rw [hr2.out];exact ⟨rfl, Kp.refl _ _⟩
    ·have e1 : decide (x ≥ (n : Int)) = false := by simpa using h1
     have hr2 : Hid ((l.take (j + 1)).all (fun p => wi p n) = true) := hid (by rw [hsn.out, hall.out]; exact wi_yes (by omega))
     go_wp2_with fail;go_roundw
     case rel => exact ⟨j + 1, by omega, by go_num, hr2, trivial⟩
     case measure => simp [intOf]; omega
  ·have hr2 : Hid (r = true) := hid (by rw [← hr.out, ← hall.out, show j = l.length by omega, List.take_length]; rfl)
   have dj1 : ¬ (j : Int) < (l.length : Int) := by omega
   have dj2 : decide ((j : Int) < (l.length : Int)) = false := by simp; omega
   go_wp2_with fail;go_ret;rw [hr2.out];exact ⟨rfl, Kp.refl _ _⟩
theorem colK {w : World} {a : Option Addr} {cs : List Col} (h : Cols w a cs) (x : Int) (hx : 0 ≤ x ∧ x < (cs.length : Int)) : ∃ (n : Nat) (g o : Nat), x = (n : Int) ∧ n < cs.length ∧ a = some ⟨g, o, none⟩ ∧ w.cell? ⟨g, o + n * 3 + 1, none⟩ = some (.int .i64 (cs.getD x.toNat ⟨⟨#[]⟩, 0, false⟩).k) := by
 obtain ⟨n, rfl⟩ := Int.eq_ofNat_of_zero_le hx.1;have hn : n < cs.length := by omega
 rcases h with h | ⟨g, o, rfl, hc⟩
 ·rw [h] at hn; simp at hn
 ·refine ⟨n, g, o, rfl, hn, rfl, ?_⟩
  rw [Int.toNat_natCast, List.getD_eq_getElem?_getD, List.getElem?_eq_getElem hn];exact (hc n cs[n] (by simp [hn])).2.1
theorem cAgM (x y : Int) (b : Option Addr) (cb : Nat) (cs : List Col) (w : World) (hs : Cols w b cs) :
  Calls Tryz.prog 123 #[.agg #[.int .i64 x, .int .i64 y], .slice b cs.length cb] w fun e w' => e = .returned (.bool (agM cs (x, y))) ∧ Kp [] w w' := by
 obtain ⟨w1, hw1, k1, b1⟩ : ∃ z, w.alloc (.cells #[.int .i64 x, .int .i64 y] 102) = z ∧ Kp [] w z ∧ Bn z w.heap.size [.int .i64 x, .int .i64 y] := ⟨_, rfl, (Kp.refl _ _).alloc _, Bn.new w _ _⟩
 obtain ⟨q, hq⟩ : ∃ z, w.heap.size = z := ⟨_, rfl⟩
 rw [hq] at b1;have s0 := b1.get 0 _ rfl; have s1 := b1.get 1 _ rfl
 obtain ⟨r, hr⟩ : ∃ r, Hid (agM cs (x, y) = r) := ⟨_, hid rfl⟩
 rw [hr.out];unfold agM at hr
 dsimp only at hr;have HC := hid (hs.kept k1)
 have K1 := hid k1
 have cW := hid (cWithinP y cs.length w1)
 obtain ⟨v, hv⟩ : ∃ v, Hid (wi y cs.length = v) := ⟨_, hid rfl⟩
 simp only [hv.out] at cW;clear hs k1 b1;go_enter Tryz.func123, Tryz.ntmps123
 go_wp2_with fail;refine cW.out.mono ?_;rintro e w2 ⟨rfl, rfl⟩;clear cW
 by_cases x0 : x = 0
 ·have hr2 : Hid (r = true) := hid (by rw [← hr.out, if_pos x0])
  subst x0;go_wp2_with fail;go_ret;rw [hr2.out];exact ⟨rfl, K1.out⟩
 have e0 : (x == 0) = false := by simpa using x0
 by_cases x1 : x = 1
 ·have hr1 : Hid (r = (v && ((cs.getD y.toNat ⟨⟨#[]⟩, 0, false⟩).k == 2))) := hid (by rw [← hr.out, if_neg x0, if_pos x1, hv.out])
  subst x1
  cases v with
  | false =>
   have hr2 : Hid (r = false) := hid (by rw [hr1.out]; rfl)
   clear e0 x0;go_wp2_with fail;go_ret;rw [hr2.out];exact ⟨rfl, K1.out⟩
  | true =>
   obtain ⟨n, g, o, hy, hn, rfl, ck⟩ := colK HC.out y (wi_iff.1 hv.out);obtain ⟨kk, hkk⟩ : ∃ z, Hid ((cs.getD y.toNat ⟨⟨#[]⟩, 0, false⟩).k = z) := ⟨_, hid rfl⟩
   rw [hkk.out] at ck hr1;have hr2 : Hid (r = (kk == 2)) := hid (by rw [hr1.out]; rfl)
   have i1 : (0 : Int) ≤ (n : Int) := by omega
   have i2 : (n : Int) < (cs.length : Int) := by omega
   clear e0 x0 hr1;subst hy;go_wp2_with fail;go_ret;rw [hr2.out];exact ⟨rfl, K1.out⟩
 have e1 : (x == 1) = false := by simpa using x1
 by_cases x2 : x = 2
 ·have hr2 : Hid (r = v) := hid (by rw [← hr.out, if_neg x0, if_neg x1, if_pos (.inl x2), hv.out])
  subst x2;clear e0 e1 x0 x1;go_wp2_with fail;go_ret;rw [hr2.out];exact ⟨rfl, K1.out⟩
 have e2 : (x == 2) = false := by simpa using x2
 by_cases x3 : x = 3
 ·have hr2 : Hid (r = v) := hid (by rw [← hr.out, if_neg x0, if_neg x1, if_pos (.inr x3), hv.out])
  subst x3;clear e0 e1 e2 x0 x1 x2;go_wp2_with fail;go_ret;rw [hr2.out];exact ⟨rfl, K1.out⟩
 have e3 : (x == 3) = false := by simpa using x3
 have hr2 : Hid (r = false) := hid (by rw [← hr.out, if_neg x0, if_neg x1, if_neg (fun h => h.elim x2 x3)])
 clear x0 x1 x2 x3;go_wp2_with fail;go_ret;rw [hr2.out];exact ⟨rfl, K1.out⟩
theorem cAgsM (a : Option Addr) (c : Nat) (l : List (Int × Int)) (b : Option Addr) (cb : Nat) (cs : List Col) (w : World) (hs : AgE.See w a l) (hc : Cols w b cs) (hl : l.length ≤ 4000000000000) :
  Calls Tryz.prog 78 #[.slice a l.length c, .slice b cs.length cb] w fun e w' => e = .returned (.bool (l.all (agM cs))) ∧ Kp [] w w' := by
 have HS := hid hs
 have HC := hid hc
 obtain ⟨r, hr⟩ : ∃ r, Hid (l.all (agM cs) = r) := ⟨_, hid rfl⟩
 rw [hr.out];have K0 := hid (Kp.refl [] w)
 clear hs hc;go_enter Tryz.func78, Tryz.ntmps78
 go_wp2_with fail;go_loopw [9] (fun v9 wr => ∃ j : Nat, j ≤ l.length ∧ v9 = .int .i64 (j : Int) ∧ Hid ((l.take j).all (agM cs) = true) ∧ Hid (Kp [] w wr)) (fun v9 _ => l.length - (intOf v9).toNat)
 case atStart => exact ⟨0, Nat.zero_le _, rfl, hid rfl, K0⟩
 case round =>
  obtain ⟨j, hj, rfl, hall, hk⟩ := hrel;clear K0
  by_cases hlt : j < l.length
  ·obtain ⟨g, o, ea, c0, c1⟩ := agAt (ckSee (CK.ofKp hk.out) HS.out (by simp)) j hlt
   have hsn := hid (all_take_snoc (f := agM cs) hlt)
   have hno := hid (fun h => all_no (f := agM cs) hlt h)
   generalize l[j] = z at *
   obtain ⟨x, y⟩ := z;dsimp only at c0 c1;obtain ⟨W1, hW1, kW1, bW1⟩ : ∃ z, wr.alloc (.cells #[.int .i64 0, .int .i64 0] 102) = z ∧ Kp [] wr z ∧ Bn z wr.heap.size [.int .i64 0, .int .i64 0] := ⟨_, rfl, (Kp.refl _ _).alloc _, Bn.new wr _ _⟩
   obtain ⟨q, hq⟩ : ∃ z, wr.heap.size = z := ⟨_, rfl⟩
   rw [hq] at bW1;obtain ⟨W2, hW2⟩ : ∃ z, (W1.setCell ⟨q, 0, none⟩ (.int .i64 x)).setCell ⟨q, 1, none⟩ (.int .i64 y) = z := ⟨_, rfl⟩
   have bW2 : Bn W2 q [.int .i64 x, .int .i64 y] := by rw [← hW2]; exact (bW1.set 0 (by simp) (.int .i64 x)).set 1 (by simp) (.int .i64 y)
   have kW2 : Kp [] wr W2 := by
    rw [← hW2];have hh : q ∈ ([] : List Nat) ∨ wr.heap.size ≤ q := .inr (by omega)
    exact (kW1.setCell hh _).setCell hh _
   have m0 := bW1.get 0 _ rfl; have m1 := bW1.get 1 _ rfl; have f0 := bW1.free 0; have f1 := bW1.free 1
   have s0 := bW2.get 0 _ rfl; have s1 := bW2.get 1 _ rfl
   have KW2 := hid (hk.out.trans kW2 (by simp))
   have cA := hid (cAgM x y b cb cs W2 (HC.out.kept KW2.out))
   obtain ⟨v, hv⟩ : ∃ v, Hid (agM cs (x, y) = v) := ⟨_, hid rfl⟩
   simp only [hv.out] at cA hsn;have i1 : (0 : Int) ≤ (j : Int) := by omega
   have i2 : (j : Int) < (l.length : Int) := by omega
   have i3 : (j : Int) + 1 ≤ 9223372036854775807 := by omega
   subst ea;clear bW1 bW2 kW1 kW2;go_wp2_with fail;refine cA.out.mono ?_;rintro e w2 ⟨rfl, k2⟩;have K2 := hid (KW2.out.trans k2 (by simp))
   clear cA k2 m0 m1 f0 f1 s0 s1
   cases v with
   | true =>
    have hr2 : Hid ((l.take (j + 1)).all (agM cs) = true) := hid (by rw [hsn.out, hall.out]; rfl)
    go_wp2_with fail;go_roundw
    case rel => exact ⟨j + 1, by omega, by go_num, hr2, K2⟩
    case measure => simp [intOf]; omega
   | false =>
    have hr2 : Hid (r = false) := hid (by rw [← hr.out]; exact hno.out hv.out)
    go_wp2_with fail;go_ret;rw [hr2.out];exact ⟨rfl, K2.out⟩
  ·have hr2 : Hid (r = true) := hid (by rw [← hr.out, ← hall.out, show j = l.length by omega, List.take_length])
   have dj1 : ¬ (j : Int) < (l.length : Int) := by omega
   have dj2 : decide ((j : Int) < (l.length : Int)) = false := by simp; omega
   go_wp2_with fail;go_ret;rw [hr2.out];exact ⟨rfl, hk.out⟩
theorem cWidth (q : Qy) (w : World) (hq : q.ok w) : Calls Tryz.prog 76 #[.agg q.cs.toArray] w fun e w' => e = .returned (.int .i64 (wdQ q : Int)) ∧ Kp [] w w' := by
 obtain ⟨w1, hw1, k1, b1⟩ : ∃ x, w.alloc (.cells q.cs.toArray 31) = x ∧ Kp [] w x ∧ Bn x w.heap.size q.cs := ⟨_, rfl, (Kp.refl _ _).alloc _, Bn.new w _ _⟩
 obtain ⟨q2, hq2⟩ : ∃ x, w.heap.size = x := ⟨_, rfl⟩
 rw [hq2] at b1;obtain ⟨r, hr⟩ : ∃ r, Hid (wdQ q = r) := ⟨_, hid rfl⟩
 rw [hr.out];unfold wdQ at hr
 have f2 := hq.cl.few; have f3 := hq.by_.few; have f4 := hq.ag.few
 have K1 := hid k1
 clear hq k1;obtain ⟨tb, jn, rt, lo, ro, ⟨wa, wc, wl⟩, ⟨ca, cc, cl⟩, gr, ⟨ya, yc, yl⟩, ⟨ga, gc, gl⟩, ⟨oa, oc, ol⟩, lim⟩ := q;simp only [Qy.cs, Sl.v] at hw1 b1 ⊢;dsimp only at f2 f3 f4 hr;have s6 := b1.get 6 _ rfl; have s7 := b1.get 7 _ rfl; have s8 := b1.get 8 _ rfl; have s9 := b1.get 9 _ rfl
 clear b1;have ew : IntKind.i64.wrap ((yl.length : Int) + (gl.length : Int)) = ((yl.length + gl.length : Nat) : Int) := by rw [IntKind.wrap_i64]; omega
 go_enter Tryz.func76, Tryz.ntmps76
 cases gr with
 | true =>
  have hr2 : Hid (yl.length + gl.length = r) := hid (by rw [← hr.out]; rfl)
  obtain ⟨N, hN⟩ : ∃ N : Nat, yl.length + gl.length = N := ⟨_, rfl⟩
  have e1 : (yl.length : Int) + (gl.length : Int) = (N : Int) := by omega
  have e2 : IntKind.i64.wrap (N : Int) = (N : Int) := by rw [IntKind.wrap_i64]; omega
  have hN2 : Hid (N = r) := hid (by rw [← hN, hr2.out])
  clear ew hN hr hr2;go_wp2_with fail;go_ret;rw [← hN2.out];exact ⟨by simp [e1, e2], K1.out⟩
 | false =>
  have hr2 : Hid (cl.length = r) := hid (by rw [← hr.out]; rfl)
  clear ew hr;go_wp2_with fail;go_ret;rw [← hr2.out];exact ⟨rfl, K1.out⟩
structure Ch where
 a : Option Addr
 c : Nat
 l : List Col
def CsE : El Ch where
 n := 1
 c x := [.slice x.a x.l.length x.c]
 len _ := rfl
 one _ u hu := by simp at hu; subst hu; rfl
 pos := by decide
theorem chAt {w : World} {a : Option Addr} {l : List Ch} (h : CsE.See w a l) {k : Nat} {x : Ch} (hx : l[k]? = some x) : ∃ g o, a = some ⟨g, o, none⟩ ∧ w.cell? ⟨g, o + k, none⟩ = some (.slice x.a x.l.length x.c) := by
 obtain ⟨g, o, e, hc⟩ := h.at hx;refine ⟨g, o, e, ?_⟩;have := hc 0 _ rfl
 simpa [CsE] using this
theorem infoCol : ∃ i : TypeInfo, Tryz.prog.info? 104 = some i ∧ i.zero = some (.agg #[.string ⟨#[]⟩, .int .i64 0, .bool false]) ∧ i.size = 3 ∧ i.bytes = 32 := by
 have h : (Tryz.prog.info? 104).map (fun i => (i.zero, i.size, i.bytes)) = some (some (.agg #[.string ⟨#[]⟩, .int .i64 0, .bool false]), 3, 32) := by kernel_rfl
 cases e : Tryz.prog.info? 104 with
 | none => rw [e] at h; cases h
 | some i =>
  rw [e] at h;simp at h
  exact ⟨i, rfl, h.1, h.2.1, h.2.2⟩
theorem colSeeB {w : World} {a : Option Addr} {l : List Col} (h : Cols w a l) : ColE.See w a l := by
 rcases h with h | ⟨g, o, rfl, hc⟩
 ·exact .inl h
 ·refine .inr ⟨g, o, rfl, fun j u hu => ?_⟩
  have h0 : ∀ (l : List Col) (j : Nat) (u : Value), (ColE.cs l)[j]? = some u → ∃ x, l[j / 3]? = some x ∧ (ColE.c x)[j % 3]? = some u := fun l => by
   induction l with
   | nil => intro j u hu; simp [El.cs] at hu
   | cons x l ih =>
    intro j u hu
    have e : ColE.cs (x :: l) = ColE.c x ++ ColE.cs l := by simp [El.cs]
    rw [e] at hu;have hlen : (ColE.c x).length = 3 := rfl
    by_cases hj : j < 3
    ·rw [List.getElem?_append_left (by omega)] at hu
     exact ⟨x, by rw [Nat.div_eq_of_lt hj]; rfl, by rw [Nat.mod_eq_of_lt hj]; exact hu⟩
    ·rw [List.getElem?_append_right (by omega), hlen] at hu
     obtain ⟨y, h1, h2⟩ := ih _ _ hu;have e1 : j / 3 = (j - 3) / 3 + 1 := by omega
     have e2 : j % 3 = (j - 3) % 3 := by omega
     exact ⟨y, by rw [e1]; simpa using h1, by rw [e2]; exact h2⟩
  obtain ⟨x, h1, h2⟩ := h0 l j u hu;obtain ⟨c0, c1, c2⟩ := hc _ _ h1;have hd := Nat.div_add_mod j 3
  have hm := Nat.mod_lt j (show 0 < 3 by omega)
  generalize j / 3 = d at *
  generalize j % 3 = m at *
  have ed : o + j = o + d * 3 + m := by omega
  rw [ed]
  match m, hm with
  | 0, _ => simpa [ColE] using (show _ from by simp [ColE] at h2; subst h2; exact c0)
  | 1, _ => exact (by simp [ColE] at h2; subst h2; exact c1)
  | 2, _ => exact (by simp [ColE] at h2; subst h2; exact c2)
def NewRC (l : List Col) (w : World) (e : Ending) (w' : World) : Prop := ∃ a c, e = .returned (.slice a l.length c) ∧ ColE.Row w' (.slice a l.length c) l ∧ Kp [] w w' ∧ ∀ k ∈ blk a, w.heap.size ≤ k
def NewEC (w : World) (e : Ending) (w' : World) : Prop := ∃ a c, e = .returned (.slice a 0 c) ∧ ColE.Row w' (.slice a 0 c) [] ∧ Kp [] w w' ∧ ∀ k ∈ blk a, w.heap.size ≤ k
theorem cGrowEC (n : Nat) (w : World) (hn : n ≤ 3600000000000) : Calls Tryz.prog 120 #[.slice none 0 0, .int .i64 (n : Int)] w (NewEC w) := by
 rcases Nat.eq_zero_or_pos n with h0 | h0
 ·subst h0
  go_enter Tryz.func120, Tryz.ntmps120
  go_wp2_with fail;go_ret;exact ⟨none, 0, rfl, .inl ⟨rfl, rfl⟩, Kp.refl _ _, by simp [blk]⟩
 ·obtain ⟨i0, hi, hz0, hz1, hz2⟩ := infoCol
  have hrun := Lib.run_append_nil_zeros (P := Tryz.prog) w 75 3 75 104 i0 _ .i64 .i64 Tryz.underlying75 Tryz.underlying3 hi hz0 n h0 (by omega) (by omega) (by rw [hz2]; omega)
  have hge := grownCap_ge w n 0 104
  have hcm := grownCap_le_maxLen w n 0 104 (by unfold maxLen; omega)
  obtain ⟨C, hC⟩ : ∃ C, grownCap w n 0 104 = C := ⟨_, rfl⟩
  rw [hC] at hrun hge hcm;obtain ⟨W, hW⟩ : ∃ W, w.drew.alloc (.cells (Builtin.zeroCells (Value.agg #[.string ⟨#[]⟩, .int .i64 0, .bool false]).cells n ++ Builtin.zeroCells (Value.agg #[.string ⟨#[]⟩, .int .i64 0, .bool false]).cells (C - n)) 104) = W := ⟨_, rfl⟩
  rw [hW] at hrun
  have hrow : ColE.Row W (.slice (some ⟨w.heap.size, 0, none⟩) 0 C) [] := by
   refine .inr ⟨w.heap.size, 0, C, rfl, Nat.zero_le _, hcm, by rw [← hW]; simp, fun j u hu => by simp [El.cs] at hu, fun j hj => ?_⟩
   rw [← hW];refine ⟨?_, World.frozen?_alloc_new w.drew _ _ (0 + j)⟩;have e1 := World.cell?_alloc_new w.drew (Builtin.zeroCells (Value.agg #[.string ⟨#[]⟩, .int .i64 0, .bool false]).cells n ++ Builtin.zeroCells (Value.agg #[.string ⟨#[]⟩, .int .i64 0, .bool false]).cells (C - n)) 104 (0 + j)
   refine (congrArg Option.isSome e1).trans ?_
   rw [Nat.zero_add, Array.getElem?_eq_getElem (by
    rw [Array.size_append, size_zeroCells, size_zeroCells];have e4 : (Value.agg #[.string ⟨#[]⟩, .int .i64 0, .bool false]).cells.size = 3 := rfl
    have e5 : ColE.n = 3 := rfl
    rw [e4];rw [e5] at hj;omega)]
   rfl
  have kW : Kp [] w W := by rw [← hW]; exact (Kp.refl _ w).drew.alloc _
  have hCb : C ≤ 9223372036854775807 := by unfold maxLen at hcm; omega
  have d1 : decide ((n : Int) < 0) = false := by simp
  have d2 : (0 : Int) < (n : Int) := by omega
  have d3 : decide ((0 : Int) < (n : Int)) = true := by simp; omega
  have HW := hid (And.intro hrow kW)
  obtain ⟨q, hq⟩ : ∃ q, w.heap.size = q := ⟨_, rfl⟩
  rw [hq] at hrun HW;have hq' := hid hq
  clear hrow kW hW hcm hge hC hi hz0 hz1 hz2 h0 hq;go_enter Tryz.func120, Tryz.ntmps120
  go_wp2_with (first | (refine wpAppRunY rfl _ _ 75 3 rfl _ _ _ rfl rfl hrun ?_) | fail)
  go_ret;exact ⟨_, _, rfl, HW.out.1, HW.out.2, fun k hk => by simp [blk] at hk; rw [hk, hq'.out]; exact Nat.le_refl _⟩
def sumLC (L : List Ch) : Nat := (L.map fun x => x.l.length).sum
theorem sumL_takeC {L : List Ch} {j : Nat} (h : j < L.length) : sumLC (L.take (j + 1)) = sumLC (L.take j) + L[j].l.length := by
 unfold sumLC
 rw [List.take_succ_eq_append_getElem h, List.map_append, List.sum_append_nat];simp
theorem sumL_leC (L : List Ch) (j : Nat) : sumLC (L.take j) ≤ sumLC L := by
 have e : sumLC L = sumLC (L.take j) + sumLC (L.drop j) := by
  unfold sumLC
  conv => lhs; rw [← List.take_append_drop j L, List.map_append, List.sum_append_nat]
 omega
def catLC (L : List Ch) : List Col := L.flatMap (·.l)
theorem catL_takeC {L : List Ch} {j : Nat} (h : j < L.length) : catLC (L.take (j + 1)) = catLC (L.take j) ++ L[j].l := by
 unfold catLC
 rw [List.take_succ_eq_append_getElem h, List.flatMap_append];simp
theorem catL_lenC (L : List Ch) : (catLC L).length = sumLC L := by unfold catLC sumLC; rw [List.length_flatMap]
theorem appVYC {W : World} {a : Option Addr} {c : Nat} {l : List Col} (h : ColE.Row W (.slice a l.length c) l) (a2 : Option Addr) (c2 : Nat) (ys : List Col) (hs : ColE.See W a2 ys) (hl : l.length + ys.length ≤ 3600000000000) :
  ∃ a' c' W', (Builtin.append_ #[75, 75] 75 #[.slice a l.length c, .slice a2 ys.length c2]).run Tryz.prog W = .ok (.slice a' (l ++ ys).length c') W' ∧ ColE.Row W' (.slice a' (l ++ ys).length c') (l ++ ys) ∧ Kp (blk a) W W' ∧ ∀ k ∈ blk a', k ∈ blk a ∨ W.heap.size ≤ k := by
 obtain ⟨i0, hi, hz0, hz1, hz2⟩ := infoCol;have hsrc := hs.src (P := Tryz.prog) Tryz.underlying75 c2
 obtain ⟨v6, X4, hrun2, hrow6, kk6, hn6⟩ := run_appendG (E := ColE) (P := Tryz.prog) _ 75 75 75 104 i0 _ 32 Tryz.underlying75 hi hz0 hz1 hz2 rfl (.slice a l.length c) l h _ ys hsrc (by omega) (by omega)
 obtain ⟨a6, c6, rfl, _⟩ := hrow6.see;rw [ownV] at kk6;simp only [ownV] at hn6;exact ⟨a6, c6, X4, hrun2, hrow6, kk6, hn6⟩
theorem cConcatC (sa : Option Addr) (sc : Nat) (L : List Ch) (w : World) (hs : CsE.See w sa L) (hx : ∀ x ∈ L, ColE.See w x.a x.l) (hl : L.length ≤ 4000000000000) (hsum : sumLC L ≤ 3600000000000) :
  Calls Tryz.prog 74 #[.slice sa L.length sc] w (NewRC (catLC L) w) := by
 have HS := hid hs
 have HX := hid hx
 have hrow : Hid (∀ (j : Nat) (hj : j < L.length), ∃ g o, sa = some ⟨g, o, none⟩ ∧ w.cell? ⟨g, o + j, none⟩ = some (.slice L[j].a L[j].l.length L[j].c)) := fun j hj => chAt HS.out (by simp [hj])
 have hsl := hid (fun j => sumL_leC L j)
 clear hs hx;go_enter Tryz.func74, Tryz.ntmps74
 go_wp2_with fail;go_loopw [3, 11] (fun v3 i wr => ∃ (j N : Nat), j ≤ L.length ∧ i = .int .i64 (j : Int) ∧ v3 = .int .i64 (N : Int) ∧ Hid (N = sumLC (L.take j)) ∧ w = wr) (fun _ i _ => L.length - (intOf i).toNat)
 case atStart => exact ⟨0, 0, Nat.zero_le _, rfl, rfl, rfl, rfl⟩
 case round =>
  obtain ⟨j, N, hj, rfl, rfl, hN, rfl⟩ := hrel
  by_cases hlt : j < L.length
  ·obtain ⟨g, o, ea, c0⟩ := hrow.out j hlt
   have hst := hid (sumL_takeC hlt)
   have hs1 := hsl.out (j + 1)
   rw [hst.out, ← hN.out] at hs1;obtain ⟨x, hx⟩ : ∃ x, Hid (L[j] = x) := ⟨L[j], rfl⟩
   rw [hx.out] at c0 hs1 hst;obtain ⟨xa, xc, xl⟩ := x;dsimp only at c0 hs1 hst;subst ea;obtain ⟨M, hM⟩ : ∃ M : Nat, N + xl.length = M := ⟨_, rfl⟩
   have eM : (N : Int) + (xl.length : Int) = (M : Int) := by omega
   have i1 : (0 : Int) ≤ (j : Int) := by omega
   have i2 : (j : Int) < (L.length : Int) := by omega
   have i3 : (j : Int) + 1 ≤ 9223372036854775807 := by omega
   have i4 : (-9223372036854775808 : Int) ≤ (N : Int) + (xl.length : Int) := by omega
   have i5 : (N : Int) + (xl.length : Int) ≤ 9223372036854775807 := by omega
   have i6 : decide ((M : Int) < 0) = false := by simp
   have hM' : Hid (M = sumLC (L.take (j + 1))) := by show _ = _; rw [hst.out, ← hN.out, hM]
   clear hM hst;go_wp2_with fail;go_roundw
   case rel => exact ⟨j + 1, M, by omega, by go_num, by simp [eM, IntKind.wrap_i64], hM', by simp⟩
   case measure => simp [intOf]; omega
  ·obtain rfl : j = L.length := by omega
   have dj1 : ¬ (L.length : Int) < (L.length : Int) := by omega
   have dj2 : decide ((L.length : Int) < (L.length : Int)) = false := by simp
   have hNs : N ≤ 3600000000000 := by rw [hN.out, List.take_length]; exact hsum
   have cG := hid (cGrowEC N w hNs)
   go_wp2_with fail;refine cG.out.mono ?_;rintro e w2 ⟨ga, gc, rfl, hgr, k2, hgb⟩;have HG := hid (And.intro hgr (And.intro k2 hgb))
   clear cG hgr k2 hgb;go_wp2_with fail;go_loopw [6, 27] (fun v6 i wn => ∃ (j : Nat) (a : Option Addr) (c : Nat) (l : List Col), j ≤ L.length ∧ i = .int .i64 (j : Int) ∧ v6 = .slice a l.length c ∧ Hid (l = catLC (L.take j)) ∧ Hid (ColE.Row wn (.slice a l.length c) l ∧ Kp [] w wn ∧ ∀ k ∈ blk a, w.heap.size ≤ k)) (fun _ i _ => L.length - (intOf i).toNat)
   case atStart => exact ⟨0, ga, gc, [], Nat.zero_le _, rfl, rfl, rfl, HG⟩
   case round =>
    obtain ⟨j, a, c, l, hj, rfl, rfl, hl', H⟩ := hrel;clear HG
    by_cases hlt : j < L.length
    ·obtain ⟨g, o, ea, c0⟩ := hrow.out j hlt
     have cg := kpAt H.out.2.1 c0
     have hlj := HX.out L[j] (List.getElem_mem hlt)
     have hct := hid (catL_takeC hlt)
     have hs1 := hsl.out (j + 1)
     rw [sumL_takeC hlt, ← catL_lenC, ← hl'.out] at hs1;obtain ⟨a4, c4, W4, hrun, hr4, k4, hn4⟩ := appVYC H.out.1 L[j].a L[j].c L[j].l (hlj.keptNew H.out.2.1) (by omega)
     obtain ⟨l4, hl4⟩ : ∃ l4, Hid (l ++ L[j].l = l4) := ⟨l ++ L[j].l, rfl⟩
     rw [hl4.out] at hrun hr4;have hl5 : Hid (l4 = catLC (L.take (j + 1))) := by show _ = _; rw [hct.out, ← hl'.out, hl4.out]
     obtain ⟨x, hx⟩ : ∃ x, Hid (L[j] = x) := ⟨L[j], rfl⟩
     rw [hx.out] at cg hrun;obtain ⟨xa, xc, xl⟩ := x;dsimp only at cg hrun
     have HF : Hid (ColE.Row W4 (.slice a4 l4.length c4) l4 ∧ Kp [] w W4 ∧ ∀ k ∈ blk a4, w.heap.size ≤ k) := ⟨hr4, H.out.2.1.trans k4 (fun x hx => .inr (H.out.2.2 x hx)), fun k hk => by
      rcases hn4 k hk with e | e
      ·exact H.out.2.2 k e
      ·have := H.out.2.1.size; omega⟩
     have i1 : (0 : Int) ≤ (j : Int) := by omega
     have i2 : (j : Int) < (L.length : Int) := by omega
     have i3 : (j : Int) + 1 ≤ 9223372036854775807 := by omega
     clear c0 hlj hs1 hr4 k4 hn4 hct;subst ea;go_wp2_with (first | (refine wpAppRunY rfl _ _ 75 75 rfl _ _ _ rfl rfl hrun ?_) | fail)
     go_roundw
     case rel => exact ⟨j + 1, a4, c4, l4, by omega, by go_num, rfl, hl5, HF⟩
     case measure => simp [intOf]; omega
    ·obtain rfl : j = L.length := by omega
     have hlc : l = catLC L := by rw [hl'.out, List.take_length]
     subst hlc;go_wp2_with fail;go_ret;exact ⟨a, c, rfl, H.out.1, H.out.2.1, H.out.2.2⟩
end Go.Proofs.YtcgkkofmnajedaaGreatDoor
end

section
namespace Go.Proofs.YtcgkkofmnajedaaGreatDoor
open Go.RowKit Go.Hay
def cntd (c : Cg) : Bool := decide (1 ≤ c.n) && (decide (c.n ≤ 8) && (wi c.k c.n && (decide (1 ≤ c.s) && decide (c.s ≤ 8))))
theorem cntd_iff (c : Cg) : cntd c = true ↔ (1 ≤ c.n ∧ c.n ≤ 8) ∧ (0 ≤ c.k ∧ c.k < c.n) ∧ 1 ≤ c.s ∧ c.s ≤ 8 := by
 unfold cntd wi
 simp
 omega
def plTo (l : List Int) (m : Int) (j : Nat) : Bool := (List.range j).all fun i => wi (l.getD i 0) m && !decide (l.getD i 0 ∈ l.take i)
def plM (l : List Int) (m : Int) : Bool := plTo l m l.length
theorem plTo_succ (l : List Int) (m : Int) (j : Nat) (h : j < l.length) : plTo l m (j + 1) = (plTo l m j && (wi l[j] m && !decide (l[j] ∈ l.take j))) := by
 unfold plTo
 rw [List.range_succ, List.all_append];simp [h]
theorem plTo_mono (l : List Int) (m : Int) (j k : Nat) (h : j ≤ k) (hf : plTo l m j = false) : plTo l m k = false := by
 unfold plTo at hf ⊢
 rw [List.all_eq_false] at hf ⊢;obtain ⟨x, hx, hx2⟩ := hf;exact ⟨x, List.mem_range.2 (by have := List.mem_range.1 hx; omega), hx2⟩
def hvC (C P : List Int) : Bool := P.all fun x => decide (x ∈ C)
def cbt : List Int → Nat := fun l => l.foldl (fun b p => b ||| 2 ^ p.toNat) 0
def hasT (l : List Tb) (nm : ByteArray) : Bool := l.any fun t => t.nm.toList == nm.toList
def hasP (l : List Pj) (nm : ByteArray) : Bool := l.any fun t => t.nm.toList == nm.toList
def tabAt (l : List Tb) (j : Nat) : Bool := match l[j]? with
 | some t => (tableV t.nm t.l == 0) && !hasT (l.take j) t.nm
 | none => true
def tabTo (l : List Tb) (j : Nat) : Bool := (List.range j).all (tabAt l)
def tabsM (l : List Tb) : Bool := decide (l.length ≠ 0) && (decide (l.length ≤ 4) && tabTo l l.length)
theorem tabTo_succ (l : List Tb) (j : Nat) (h : j < l.length) : tabTo l (j + 1) = (tabTo l j && ((tableV l[j].nm l[j].l == 0) && !hasT (l.take j) l[j].nm)) := by
 unfold tabTo
 rw [List.range_succ, List.all_append];simp [tabAt, h]
theorem tabTo_mono (l : List Tb) (j k : Nat) (h : j ≤ k) (hf : tabTo l j = false) : tabTo l k = false := by
 unfold tabTo at hf ⊢
 rw [List.all_eq_false] at hf ⊢;obtain ⟨x, hx, hx2⟩ := hf;exact ⟨x, List.mem_range.2 (by have := List.mem_range.1 hx; omega), hx2⟩
def manyC (c : Cg) (p : Pj) : Int := ((c.tl.getD p.tb.toNat default).l.length : Int)
def pjM (c : Cg) (p : Pj) : Bool := namedV p.nm && (wi p.tb (c.tl.length : Int) && (wi p.sh c.n && (decide (0 < (p.cl.length : Int)) && (plM p.cl (manyC c p) && (plM p.sl (manyC c p) && (hvC p.cl p.sl && hvC p.cl [p.by_]))))))
theorem boxCP (c : Cg) (p : Pj) (w : World) : ∃ W, (w.alloc (.cells #[.int .i64 c.n, .int .i64 c.s, .int .i64 c.k, .slice c.ta c.tl.length c.tc, .slice c.pa c.pl.length c.pc] 25)).alloc (.cells #[.string p.nm, .int .i64 p.tb, .slice p.ca p.cl.length p.cc, .slice p.sa p.sl.length p.sc, .int .i64 p.by_, .int .i64 p.sh] 92) = W ∧ Kp [] w W ∧ W.heap.size = w.heap.size + 2 ∧ Bn W w.heap.size [.int .i64 c.n, .int .i64 c.s, .int .i64 c.k, .slice c.ta c.tl.length c.tc, .slice c.pa c.pl.length c.pc] ∧ Bn W (w.heap.size + 1) [.string p.nm, .int .i64 p.tb, .slice p.ca p.cl.length p.cc, .slice p.sa p.sl.length p.sc, .int .i64 p.by_, .int .i64 p.sh] := by
 refine ⟨_, rfl, ((Kp.refl _ _).alloc _).alloc _, by simp, ?_, ?_⟩
 ·exact (Bn.new w [.int .i64 c.n, .int .i64 c.s, .int .i64 c.k, .slice c.ta c.tl.length c.tc, .slice c.pa c.pl.length c.pc] 25).kept ((Kp.refl _ _).alloc _)
 ·have h := Bn.new (w.alloc (.cells #[.int .i64 c.n, .int .i64 c.s, .int .i64 c.k, .slice c.ta c.tl.length c.tc, .slice c.pa c.pl.length c.pc] 25)) [.string p.nm, .int .i64 p.tb, .slice p.ca p.cl.length p.cc, .slice p.sa p.sl.length p.sc, .int .i64 p.by_, .int .i64 p.sh] 92
  rw [World.size_alloc] at h;exact h
theorem boxC (c : Cg) (w : World) : ∃ W, w.alloc (.cells #[.int .i64 c.n, .int .i64 c.s, .int .i64 c.k, .slice c.ta c.tl.length c.tc, .slice c.pa c.pl.length c.pc] 25) = W ∧ Kp [] w W ∧ W.heap.size = w.heap.size + 1 ∧ Bn W w.heap.size [.int .i64 c.n, .int .i64 c.s, .int .i64 c.k, .slice c.ta c.tl.length c.tc, .slice c.pa c.pl.length c.pc] :=
 ⟨_, rfl, (Kp.refl _ _).alloc _, by simp, Bn.new w [.int .i64 c.n, .int .i64 c.s, .int .i64 c.k, .slice c.ta c.tl.length c.tc, .slice c.pa c.pl.length c.pc] 25⟩
end Go.Proofs.YtcgkkofmnajedaaGreatDoor
end

section
namespace Go.Proofs.YtcgkkofmnajedaaGreatDoor
open Go.RowKit Go.Hay
attribute [local go_sem] Oper.semAt_some
def noTb : Tb := ⟨⟨#[]⟩, none, 0, []⟩
def colsT (c : Cg) (t : Int) : List Col := (c.tl.getD t.toNat noTb).l
def kdT (cs : List Col) (x : Int) : Int := (cs.getD x.toNat ⟨⟨#[]⟩, 0, false⟩).k
def jnQ (c : Cg) (q : Qy) : Bool := wi q.rt c.tl.length && (wi q.lo (colsT c q.tb).length && (wi q.ro (colsT c q.rt).length && (kdT (colsT c q.tb) q.lo == kdT (colsT c q.rt) q.ro)))
def okQ (c : Cg) (q : Qy) : Bool := wi q.tb c.tl.length && (if q.jn then jnQ c q else (q.rt == 0) && ((q.lo == 0) && (q.ro == 0)))
def colsQ (c : Cg) (q : Qy) : List Col := if q.jn then colsT c q.tb ++ colsT c q.rt else colsT c q.tb
theorem tbGet {w : World} {c : Cg} (hc : c.ok w) {t : Int} (h : wi t c.tl.length = true) : ∃ (n g o : Nat) (x : Tb), t = (n : Int) ∧ n < c.tl.length ∧ c.ta = some ⟨g, o, none⟩ ∧ w.cell? ⟨g, o + n * 2 + 1, none⟩ = some (.slice x.a x.l.length x.c) ∧ colsT c t = x.l ∧ Cols w x.a x.l ∧ x ∈ c.tl := by
 rw [wi_iff] at h;obtain ⟨n, rfl⟩ := Int.eq_ofNat_of_zero_le h.1;have hn : n < c.tl.length := by omega
 obtain ⟨g, o, e, _, c1⟩ := tbAt hc.ts (j := n) (t := c.tl[n]) (by simp [hn])
 refine ⟨n, g, o, c.tl[n], rfl, hn, e, c1, ?_, (hc.tok _ (List.getElem_mem hn)).cols, List.getElem_mem hn⟩;unfold colsT
 rw [Int.toNat_natCast, List.getD_eq_getElem?_getD, List.getElem?_eq_getElem hn];rfl
def ClP (c : Cg) (q : Qy) (w : World) (e : Ending) (w' : World) : Prop := Kp [] w w' ∧ ∃ a cc l, e = .returned (.tuple #[.slice a (l : List Col).length cc, .bool (okQ c q)]) ∧ (okQ c q = true → l = colsQ c q ∧ Cols w' a l)
theorem cColsOf (c : Cg) (q : Qy) (w : World) (hc : c.ok w) (h8 : ∀ t ∈ c.tl, t.l.length ≤ 1000000) : Calls Tryz.prog 34 #[c.v, .agg q.cs.toArray] w (ClP c q w) := by
 obtain ⟨wc, hwc, kc, zc, bc⟩ := boxC c w;obtain ⟨qc, hqc⟩ : ∃ x, w.heap.size = x := ⟨_, rfl⟩
 rw [hqc] at bc zc;obtain ⟨w1, hw1, k1, b1⟩ : ∃ x, wc.alloc (.cells q.cs.toArray 31) = x ∧ Kp [] wc x ∧ Bn x wc.heap.size q.cs := ⟨_, rfl, (Kp.refl _ _).alloc _, Bn.new wc _ _⟩
 obtain ⟨q2, hq2⟩ : ∃ x, wc.heap.size = x := ⟨_, rfl⟩
 rw [hq2] at b1 zc;have kw := kc.trans k1 (by simp)
 have HC := hid (hc.kept kw)
 have H8 := hid h8
 have K1 := hid kw
 have bc1 := bc.kept k1
 have a3 := bc1.get 3 _ rfl
 obtain ⟨r, hr⟩ : ∃ r, Hid (okQ c q = r) := ⟨_, hid rfl⟩
 obtain ⟨CQ, hCQ⟩ : ∃ r, Hid (colsQ c q = r) := ⟨_, hid rfl⟩
 unfold ClP
 rw [hr.out, hCQ.out];unfold okQ jnQ at hr
 unfold colsQ at hCQ
 obtain ⟨tb, jn, rt, lo, ro, ⟨wa, wc, wl⟩, ⟨ca, cc, cl⟩, gr, ⟨ya, yc, yl⟩, ⟨ga, gc, gl⟩, ⟨oa, oc, ol⟩, lim⟩ := q;simp only [Qy.cs, Sl.v] at hw1 b1 ⊢;dsimp only at hr hCQ;have s0 := b1.get 0 _ rfl; have s1 := b1.get 1 _ rfl; have s2 := b1.get 2 _ rfl; have s3 := b1.get 3 _ rfl; have s4 := b1.get 4 _ rfl
 have htl : c.tl.length ≤ 9223372036854775807 := by have := hc.tcap; have := hc.tmax; omega
 clear hc kc k1 bc b1 bc1 kw h8 zc;obtain ⟨v, hv⟩ : ∃ v, Hid (wi tb c.tl.length = v) := ⟨_, hid rfl⟩
 rw [hv.out] at hr;have cW : Hid (∀ (x m : Int) W, Calls Tryz.prog 45 #[.int .i64 x, .int .i64 m] W fun e w' => e = .returned (.bool (wi x m)) ∧ w' = W) := hid cWithinP
 simp only [Cg.v];have cw1 := hid (cW.out tb c.tl.length w1)
 simp only [hv.out] at cw1;go_enter Tryz.func34, Tryz.ntmps34
 go_wp2_with fail;refine cw1.out.mono ?_;rintro e w2 ⟨rfl, rfl⟩;clear cw1
 cases v with
 | false =>
  have hr2 : Hid (r = false) := hid (by rw [← hr.out]; rfl)
  go_wp2_with fail;go_returns;rw [hr2.out];exact ⟨K1.out, none, 0, [], rfl, fun h => by cases h⟩
 | true =>
  obtain ⟨n, g, o, x, hn, hnl, hta, c1, hx, hxc, hxm⟩ := tbGet HC.out hv.out;have hx8 := H8.out x hxm
  rw [Bool.true_and, hx] at hr;rw [hx] at hCQ;have HXC := hid hxc
  obtain ⟨xn, xa, xc, xl⟩ := x;dsimp only at c1 hr hCQ HXC hx8;have i1 : (0 : Int) ≤ (n : Int) := by omega
  have i2 : (n : Int) < (c.tl.length : Int) := by omega
  have hn' := hid hn
  rw [hta] at a3;simp only [hta] at hwc ⊢;clear hx hxc hxm;subst hn
  cases jn with
  | false =>
   have hr1 := hr.out
   rw [if_neg (by simp)] at hr1
   have hC1 : Hid (xl = CQ) := hid (by rw [← hCQ.out, if_neg (by simp)])
   have hr3 := hid hr1
   clear hr hr1 hCQ
   by_cases z1 : rt = 0
   ·subst z1
    by_cases z2 : lo = 0
    ·subst z2
     have hr2 : Hid (r = (ro == 0)) := hid (by rw [← hr3.out]; rfl)
     go_wp2_with fail;go_quiet (fail)
     go_wp2_with fail;go_returns;rw [hr2.out];exact ⟨K1.out.trans ((Kp.refl [] w2).drewN _) (by simp), xa, xc, xl, rfl, fun _ => ⟨hC1.out, HXC.out.kept ((Kp.refl [] w2).drewN _)⟩⟩
    ·have e2 : (lo == 0) = false := by simpa using z2
     have hr2 : Hid (r = false) := hid (by rw [← hr3.out, e2]; simp)
     go_wp2_with fail;go_quiet (fail)
     go_wp2_with fail;go_returns;rw [hr2.out];exact ⟨K1.out.trans ((Kp.refl [] w2).drewN _) (by simp), xa, xc, xl, rfl, fun h => by cases h⟩
   ·have e1 : (rt == 0) = false := by simpa using z1
    have hr2 : Hid (r = false) := hid (by rw [← hr3.out, e1]; rfl)
    go_wp2_with fail;go_quiet (fail)
    go_wp2_with fail;go_returns;rw [hr2.out];exact ⟨K1.out.trans ((Kp.refl [] w2).drewN _) (by simp), xa, xc, xl, rfl, fun h => by cases h⟩
  | true =>
   obtain ⟨v2, hv2⟩ : ∃ v, Hid (wi rt c.tl.length = v) := ⟨_, hid rfl⟩
   have hr1 := hr.out
   rw [if_pos rfl, hv2.out] at hr1;have hC1 := hCQ.out
   rw [if_pos rfl] at hC1;have hr3 := hid hr1
   have hC3 := hid hC1
   have cw2 := hid (cW.out rt c.tl.length w2)
   rw [hv2.out] at cw2;clear hr hCQ hr1 hC1;go_wp2_with fail;refine cw2.out.mono ?_;rintro e w3 ⟨rfl, rfl⟩;clear cw2
   cases v2 with
   | false =>
    have hr2 : Hid (r = false) := hid (by rw [← hr3.out]; rfl)
    go_wp2_with fail;go_returns;rw [hr2.out];exact ⟨K1.out, none, 0, [], rfl, fun h => by cases h⟩
   | true =>
    obtain ⟨n2, g2, o2, y, hn2, hnl2, hta2, c2, hy, hyc, hym⟩ := tbGet HC.out hv2.out;have hy8 := H8.out y hym
    have hr1 := hr3.out
    have hC1 := hC3.out
    rw [Bool.true_and, hy] at hr1;rw [hy] at hC1;have HYC := hid hyc
    obtain ⟨yn, ya2, yc2, yl2⟩ := y;dsimp only at c2 hr1 hC1 HYC hy8;rw [hta] at hta2
    cases hta2
    have j1 : (0 : Int) ≤ (n2 : Int) := by omega
    have j2 : (n2 : Int) < (c.tl.length : Int) := by omega
    have hr5 := hid hr1
    have hC5 := hid hC1
    clear hy hyc hym hr3 hC3 hr1 hC1 hta;subst hn2;obtain ⟨v3, hv3⟩ : ∃ v, Hid (wi lo xl.length = v) := ⟨_, hid rfl⟩
    obtain ⟨v4, hv4⟩ : ∃ v, Hid (wi ro yl2.length = v) := ⟨_, hid rfl⟩
    have cw3 := hid (fun W => cW.out lo xl.length W)
    have cw4 := hid (fun W => cW.out ro yl2.length W)
    simp only [hv3.out] at cw3;simp only [hv4.out] at cw4;have hr1 := hr5.out
    rw [hv3.out, hv4.out] at hr1;have hr6 := hid hr1
    clear hr5 hr1
    cases v3 with
    | false =>
     have hr2 : Hid (r = false) := hid (by rw [← hr6.out]; rfl)
     go_wp2_with fail;go_quiet (first | (go_at_call 45; refine Calls.quiet_of_same (cw3.out _)))
     go_wp2_with fail;go_returns;rw [hr2.out];exact ⟨K1.out.trans ((Kp.refl [] w3).drewN _) (by simp), none, 0, [], rfl, fun h => by cases h⟩
    | true =>
     cases v4 with
     | false =>
      have hr2 : Hid (r = false) := hid (by rw [← hr6.out]; rfl)
      go_wp2_with fail;go_quiet (first | (go_at_call_of 45 lo; refine Calls.quiet_of_same (cw3.out _)) | (go_at_call_of 45 ro; refine Calls.quiet_of_same (cw4.out _)))
      go_wp2_with fail;go_returns;rw [hr2.out];exact ⟨K1.out.trans ((Kp.refl [] w3).drewN _) (by simp), none, 0, [], rfl, fun h => by cases h⟩
     | true =>
      obtain ⟨m1, p1, q1, hm1, hml1, hxa1, e1⟩ := colK HXC.out lo (wi_iff.1 hv3.out);obtain ⟨m2, p2, q4, hm2, hml2, hya2, e2⟩ := colK HYC.out ro (wi_iff.1 hv4.out);obtain ⟨kx, hkx⟩ : ∃ z, Hid (kdT xl lo = z) := ⟨_, hid rfl⟩
      obtain ⟨ky, hky⟩ : ∃ z, Hid (kdT yl2 ro = z) := ⟨_, hid rfl⟩
      have hkx' := hkx.out
      have hky' := hky.out
      unfold kdT at hkx' hky'
      rw [hkx'] at e1;rw [hky'] at e2;have hr1 := hr6.out
      rw [hkx.out, hky.out] at hr1;have hr7 : Hid (r = (kx == ky)) := hid (by rw [← hr1]; rfl)
      have l1 : (0 : Int) ≤ (m1 : Int) := by omega
      have l2 : (m1 : Int) < (xl.length : Int) := by omega
      have l3 : (0 : Int) ≤ (m2 : Int) := by omega
      have l4 : (m2 : Int) < (yl2.length : Int) := by omega
      clear hkx' hky' hr1 hr6 hkx hky;subst hm1 hm2 hxa1 hya2
      by_cases hkk : kx = ky
      ·have f1 : (kx != ky) = false := by simp [hkk]
       have hr2 : Hid (r = true) := hid (by rw [hr7.out]; simp [hkk])
       subst hkk;clear f1;go_wp2_with fail;go_quiet (first | (go_at_call_of 45 m1; refine Calls.quiet_of_same (cw3.out _)) | (go_at_call_of 45 m2; refine Calls.quiet_of_same (cw4.out _)))
       clear a3 s0 s1 s2 s3 s4 c1 c2 e1 e2 cw3 cw4;have HXD : Hid (Cols (w3.drewN nq) (some ⟨p1, q1, none⟩) xl ∧ Cols (w3.drewN nq) (some ⟨p2, q4, none⟩) yl2) := hid ⟨HXC.out.kept ((Kp.refl [] w3).drewN _), HYC.out.kept ((Kp.refl [] w3).drewN _)⟩
       have KD := hid (K1.out.trans ((Kp.refl [] w3).drewN nq) (by simp))
       clear HXC HYC;generalize w3.drewN nq = w5 at *
       obtain ⟨w6, hw6⟩ : ∃ z, w5.alloc (.cells #[.slice (some ⟨p1, q1, none⟩) xl.length xc, .slice (some ⟨p2, q4, none⟩) yl2.length yc2] 75) = z := ⟨_, rfl⟩
       have k6 : Kp [] w5 w6 := by rw [← hw6]; exact (Kp.refl _ _).alloc _
       have b6 : Bn w6 w5.heap.size [.slice (some ⟨p1, q1, none⟩) xl.length xc, .slice (some ⟨p2, q4, none⟩) yl2.length yc2] := by rw [← hw6]; exact Bn.new w5 _ _
       have hsee : CsE.See w6 (some ⟨w5.heap.size, 0, none⟩) [⟨some ⟨p1, q1, none⟩, xc, xl⟩, ⟨some ⟨p2, q4, none⟩, yc2, yl2⟩] := .inr ⟨_, 0, rfl, fun k u hu => by rw [Nat.zero_add]; exact b6.get k u (by simpa [El.cs, CsE] using hu)⟩
       have cC := cConcatC (some ⟨w5.heap.size, 0, none⟩) 2 [⟨some ⟨p1, q1, none⟩, xc, xl⟩, ⟨some ⟨p2, q4, none⟩, yc2, yl2⟩] w6 hsee (fun z hz => by
        simp at hz
        rcases hz with rfl | rfl
        ·exact colSeeB (HXD.out.1.kept k6)
        ·exact colSeeB (HXD.out.2.kept k6)) (by simp) (by simp [sumLC]; omega)
       have e7 : catLC [⟨some ⟨p1, q1, none⟩, xc, xl⟩, ⟨some ⟨p2, q4, none⟩, yc2, yl2⟩] = CQ := by rw [← hC5.out]; simp [catLC]
       rw [e7] at cC;have cC' := hid cC
       have K6 := hid (KD.out.trans k6 (by simp))
       clear hsee cC e7 k6 b6;go_wp2_with fail;refine cC'.out.mono ?_;rintro e w7 ⟨ra, rc, rfl, hrow, k7, _⟩;have K7 := hid (K6.out.trans k7 (by simp))
       obtain ⟨_, _, e8, see8, _⟩ := hrow.see;rw [← (Value.slice.inj e8).1] at see8;have HSe := hid (colSee see8)
       clear cC' hrow k7 e8 see8;go_wp2_with fail;go_returns;rw [hr2.out];exact ⟨K7.out, ra, rc, CQ, rfl, fun _ => ⟨rfl, HSe.out⟩⟩
      ·have f1 : (kx != ky) = true := by simpa using hkk
       have hr2 : Hid (r = false) := hid (by rw [hr7.out]; simpa using hkk)
       clear hkk;go_wp2_with fail;go_quiet (first | (go_at_call_of 45 m1; refine Calls.quiet_of_same (cw3.out _)) | (go_at_call_of 45 m2; refine Calls.quiet_of_same (cw4.out _)))
       go_wp2_with fail;go_returns;rw [hr2.out];exact ⟨K1.out.trans ((Kp.refl [] w3).drewN _) (by simp), none, 0, [], rfl, fun h => by cases h⟩
theorem rTables (c : Cg) (q : Qy) (w : World) (hc : c.ok w) (h8 : ∀ t ∈ c.tl, t.l.length ≤ 1000000) : Calls Tryz.prog 38 #[c.v, .agg q.cs.toArray] w fun e w' => e = .returned (.bool (okQ c q)) ∧ Kp [] w w' := by
 obtain ⟨wc, hwc, kc, zc, bc⟩ := boxC c w;obtain ⟨qc, hqc⟩ : ∃ x, w.heap.size = x := ⟨_, rfl⟩
 rw [hqc] at bc zc;obtain ⟨w1, hw1, k1, b1⟩ : ∃ x, wc.alloc (.cells q.cs.toArray 31) = x ∧ Kp [] wc x ∧ Bn x wc.heap.size q.cs := ⟨_, rfl, (Kp.refl _ _).alloc _, Bn.new wc _ _⟩
 obtain ⟨q2, hq2⟩ : ∃ x, wc.heap.size = x := ⟨_, rfl⟩
 rw [hq2] at b1 zc;have kw := kc.trans k1 (by simp)
 have HC := hid (hc.kept kw)
 have H8 := hid h8
 have K1 := hid kw
 have bc1 := bc.kept k1
 have a3 := bc1.get 3 _ rfl
 obtain ⟨r, hr⟩ : ∃ r, Hid (okQ c q = r) := ⟨_, hid rfl⟩
 obtain ⟨CQ, hCQ⟩ : ∃ r, Hid (colsQ c q = r) := ⟨_, hid rfl⟩
 rw [hr.out];unfold okQ jnQ at hr
 unfold colsQ at hCQ
 obtain ⟨tb, jn, rt, lo, ro, ⟨wa, wc, wl⟩, ⟨ca, cc, cl⟩, gr, ⟨ya, yc, yl⟩, ⟨ga, gc, gl⟩, ⟨oa, oc, ol⟩, lim⟩ := q;simp only [Qy.cs, Sl.v] at hw1 b1 ⊢;dsimp only at hr hCQ;have s0 := b1.get 0 _ rfl; have s1 := b1.get 1 _ rfl; have s2 := b1.get 2 _ rfl; have s3 := b1.get 3 _ rfl; have s4 := b1.get 4 _ rfl
 have htl : c.tl.length ≤ 9223372036854775807 := by have := hc.tcap; have := hc.tmax; omega
 clear hc kc k1 bc b1 bc1 kw h8 zc;obtain ⟨v, hv⟩ : ∃ v, Hid (wi tb c.tl.length = v) := ⟨_, hid rfl⟩
 rw [hv.out] at hr;have cW : Hid (∀ (x m : Int) W, Calls Tryz.prog 45 #[.int .i64 x, .int .i64 m] W fun e w' => e = .returned (.bool (wi x m)) ∧ w' = W) := hid cWithinP
 simp only [Cg.v];clear cW hCQ;go_enter Tryz.func38, Tryz.ntmps38
 by_cases t0 : tb < 0
 ·have e0 : decide (tb < 0) = true := by simpa using t0
  have hr2 : Hid (r = false) := hid (by rw [← hr.out, ← hv.out, wi_no (by omega)]; rfl)
  go_wp2_with fail;go_ret;rw [hr2.out];exact ⟨rfl, K1.out⟩
 have e0 : decide (tb < 0) = false := by simpa using t0
 by_cases t1 : tb ≥ (c.tl.length : Int)
 ·have e1 : decide (tb ≥ (c.tl.length : Int)) = true := by simpa using t1
  have hr2 : Hid (r = false) := hid (by rw [← hr.out, ← hv.out, wi_no (by omega)]; rfl)
  go_wp2_with fail;go_ret;rw [hr2.out];exact ⟨rfl, K1.out⟩
 have e1 : decide (tb ≥ (c.tl.length : Int)) = false := by simpa using t1
 have hv1 : v = true := by rw [← hv.out]; exact wi_yes (by omega)
 subst hv1;obtain ⟨n, g, o, x, hn, hnl, hta, c1, hx, hxc, hxm⟩ := tbGet HC.out hv.out;have hx8 := H8.out x hxm
 rw [Bool.true_and, hx] at hr;have HXC := hid hxc
 obtain ⟨xn, xa, xc, xl⟩ := x;dsimp only at c1 hr HXC hx8;have i1 : (0 : Int) ≤ (n : Int) := by omega
 have i2 : (n : Int) < (c.tl.length : Int) := by omega
 rw [hta] at a3;simp only [hta] at hwc ⊢;clear hx hxc hxm t0 t1;subst hn
 cases jn with
 | false =>
  have hr1 := hr.out
  rw [if_neg (by simp)] at hr1
  have hr3 := hid hr1
  clear hr hr1
  by_cases z1 : rt = 0
  ·subst z1
   by_cases z2 : lo = 0
   ·subst z2
    have hr2 : Hid (r = (ro == 0)) := hid (by rw [← hr3.out]; rfl)
    go_wp2_with fail;go_ret;rw [hr2.out];exact ⟨rfl, K1.out⟩
   ·have f2 : (lo == 0) = false := by simpa using z2
    have hr2 : Hid (r = false) := hid (by rw [← hr3.out, f2]; simp)
    go_wp2_with fail;go_ret;rw [hr2.out];exact ⟨rfl, K1.out⟩
  ·have f1 : (rt == 0) = false := by simpa using z1
   have hr2 : Hid (r = false) := hid (by rw [← hr3.out, f1]; rfl)
   go_wp2_with fail;go_ret;rw [hr2.out];exact ⟨rfl, K1.out⟩
 | true =>
  have hr1 := hr.out
  rw [if_pos rfl] at hr1;have hr3 := hid hr1
  clear hr hr1
  by_cases u0 : rt < 0
  ·have f0 : decide (rt < 0) = true := by simpa using u0
   have hr2 : Hid (r = false) := hid (by rw [← hr3.out, wi_no (by omega)]; rfl)
   go_wp2_with fail;go_ret;rw [hr2.out];exact ⟨rfl, K1.out⟩
  have f0 : decide (rt < 0) = false := by simpa using u0
  by_cases u1 : rt ≥ (c.tl.length : Int)
  ·have f1 : decide (rt ≥ (c.tl.length : Int)) = true := by simpa using u1
   have hr2 : Hid (r = false) := hid (by rw [← hr3.out, wi_no (by omega)]; rfl)
   go_wp2_with fail;go_ret;rw [hr2.out];exact ⟨rfl, K1.out⟩
  have f1 : decide (rt ≥ (c.tl.length : Int)) = false := by simpa using u1
  have hv2 : wi rt c.tl.length = true := wi_yes (by omega)
  obtain ⟨n2, g2, o2, y, hn2, hnl2, hta2, c2, hy, hyc, hym⟩ := tbGet HC.out hv2;have hr1 := hr3.out
  rw [hv2, Bool.true_and, hy] at hr1;have HYC := hid hyc
  have hy8 := H8.out y hym
  obtain ⟨yn, ya2, yc2, yl2⟩ := y;dsimp only at c2 hr1 HYC hy8;rw [hta] at hta2
  cases hta2
  have j1 : (0 : Int) ≤ (n2 : Int) := by omega
  have j2 : (n2 : Int) < (c.tl.length : Int) := by omega
  have hr5 := hid hr1
  clear hy hyc hym hr3 hr1 hta hv2 u0 u1;subst hn2
  by_cases p0 : lo < 0
  ·have k0 : decide (lo < 0) = true := by simpa using p0
   have hr2 : Hid (r = false) := hid (by rw [← hr5.out, wi_no (by omega)]; rfl)
   go_wp2_with fail;go_ret;rw [hr2.out];exact ⟨rfl, K1.out⟩
  have k0 : decide (lo < 0) = false := by simpa using p0
  by_cases p1 : lo ≥ (xl.length : Int)
  ·have k1 : decide (lo ≥ (xl.length : Int)) = true := by simpa using p1
   have hr2 : Hid (r = false) := hid (by rw [← hr5.out, wi_no (by omega)]; rfl)
   go_wp2_with fail;go_ret;rw [hr2.out];exact ⟨rfl, K1.out⟩
  have k1 : decide (lo ≥ (xl.length : Int)) = false := by simpa using p1
  by_cases p2 : ro < 0
  ·have k2 : decide (ro < 0) = true := by simpa using p2
   have hr2 : Hid (r = false) := hid (by rw [← hr5.out, wi_yes (x := lo) (by omega), wi_no (x := ro) (by omega)]; rfl)
   go_wp2_with fail;go_ret;rw [hr2.out];exact ⟨rfl, K1.out⟩
  have k2 : decide (ro < 0) = false := by simpa using p2
  by_cases p3 : ro ≥ (yl2.length : Int)
  ·have k3 : decide (ro ≥ (yl2.length : Int)) = true := by simpa using p3
   have hr2 : Hid (r = false) := hid (by rw [← hr5.out, wi_yes (x := lo) (by omega), wi_no (x := ro) (by omega)]; rfl)
   go_wp2_with fail;go_ret;rw [hr2.out];exact ⟨rfl, K1.out⟩
  have k3 : decide (ro ≥ (yl2.length : Int)) = false := by simpa using p3
  obtain ⟨m1, p1', q1, hm1, hml1, hxa1, e3⟩ := colK HXC.out lo (by omega)
  obtain ⟨m2, p2', q4, hm2, hml2, hya2, e4⟩ := colK HYC.out ro (by omega)
  obtain ⟨kx, hkx⟩ : ∃ z, Hid (kdT xl lo = z) := ⟨_, hid rfl⟩
  obtain ⟨ky, hky⟩ : ∃ z, Hid (kdT yl2 ro = z) := ⟨_, hid rfl⟩
  have hkx' := hkx.out
  have hky' := hky.out
  unfold kdT at hkx' hky'
  rw [hkx'] at e3;rw [hky'] at e4;have hr1 := hr5.out
  rw [hkx.out, hky.out, wi_yes (x := lo) (by omega), wi_yes (x := ro) (by omega)] at hr1
  have hr7 : Hid (r = (kx == ky)) := hid (by rw [← hr1]; rfl)
  have l1 : (0 : Int) ≤ (m1 : Int) := by omega
  have l2 : (m1 : Int) < (xl.length : Int) := by omega
  have l3 : (0 : Int) ≤ (m2 : Int) := by omega
  have l4 : (m2 : Int) < (yl2.length : Int) := by omega
  clear hkx' hky' hr1 hr5 hkx hky p0 p1 p2 p3;subst hm1 hm2 hxa1 hya2;go_wp2_with fail;go_quiet (fail)
  go_wp2_with fail;go_ret;rw [hr7.out];exact ⟨rfl, K1.out.trans ((Kp.refl [] w1).drewN _) (by simp)⟩
theorem cAnsM (b : Option Addr) (cb : Nat) (cs : List Col) (q : Qy) (w : World) (hs : Cols w b cs) (hcs : cs.length ≤ 4000000000000) (hq : q.ok w) :
  Calls Tryz.prog 36 #[.slice b cs.length cb, .agg q.cs.toArray] w fun e w' => e = .returned (.bool (ansM cs q)) ∧ Kp [] w w' := by
 obtain ⟨w1, hw1, k1, b1⟩ : ∃ x, w.alloc (.cells q.cs.toArray 31) = x ∧ Kp [] w x ∧ Bn x w.heap.size q.cs := ⟨_, rfl, (Kp.refl _ _).alloc _, Bn.new w _ _⟩
 obtain ⟨q2, hq2⟩ : ∃ x, w.heap.size = x := ⟨_, rfl⟩
 rw [hq2] at b1;obtain ⟨r, hr⟩ : ∃ r, Hid (ansM cs q = r) := ⟨_, hid rfl⟩
 rw [hr.out];have cWd := hid (cWidth q w1 (hq.kept k1))
 obtain ⟨N, hN⟩ : ∃ n, Hid (wdQ q = n) := ⟨_, hid rfl⟩
 rw [hN.out] at cWd;unfold ansM at hr
 rw [hN.out] at hr;have HC := hid (hs.kept k1)
 have HQ := hid (hq.kept k1)
 have K1 := hid k1
 have HB := hid b1
 clear hs hq k1;obtain ⟨tb, jn, rt, lo, ro, ⟨wa, wc, wl⟩, ⟨ca, cc, cl⟩, gr, ⟨ya, yc, yl⟩, ⟨ga, gc, gl⟩, ⟨oa, oc, ol⟩, lim⟩ := q;simp only [Qy.cs, Sl.v] at hw1 b1 HB cWd ⊢;dsimp only at hr;have f2 := HQ.out.cl.few; have f3 := HQ.out.by_.few; have f4 := HQ.out.ag.few
 dsimp only at f2 f3 f4;have s0 := b1.get 0 _ rfl; have s1 := b1.get 1 _ rfl; have s2 := b1.get 2 _ rfl; have s3 := b1.get 3 _ rfl; have s4 := b1.get 4 _ rfl; have s5 := b1.get 5 _ rfl; have s6 := b1.get 6 _ rfl; have s7 := b1.get 7 _ rfl; have s8 := b1.get 8 _ rfl; have s9 := b1.get 9 _ rfl; have s10 := b1.get 10 _ rfl; have s11 := b1.get 11 _ rfl
 clear b1;go_enter Tryz.func36, Tryz.ntmps36
 go_wp2_with fail;refine cWd.out.mono ?_;rintro e w2 ⟨rfl, k2⟩;have K2 := hid (K1.out.trans k2 (by simp))
 have b2 := HB.out.kept k2
 have HC2 := hid (HC.out.kept k2)
 have HQ2 := hid (HQ.out.kept k2)
 have HB2 := hid b2
 clear cWd k2 s0 s1 s2 s3 s4 s5 s6 s7 s8 s9 s10 s11 HC HQ;have s6 := b2.get 6 _ rfl; have s7 := b2.get 7 _ rfl; have s8 := b2.get 8 _ rfl; have s9 := b2.get 9 _ rfl
 clear b2
 by_cases n0 : N = 0
 ·have hr2 : Hid (r = false) := hid (by rw [← hr.out, if_pos (.inl n0)])
  have e0 : ((N : Int) == 0) = true := by simp [n0]
  clear n0;go_wp2_with fail;go_ret;rw [hr2.out];exact ⟨rfl, K2.out⟩
 have e0 : ((N : Int) == 0) = false := by simp; omega
 by_cases n1 : 16 < N
 ·have hr2 : Hid (r = false) := hid (by rw [← hr.out, if_pos (.inr n1)])
  have e1 : decide ((N : Int) > 16) = true := by simp; omega
  clear n0 n1;go_wp2_with fail;go_ret;rw [hr2.out];exact ⟨rfl, K2.out⟩
 have e1 : decide ((N : Int) > 16) = false := by simp; omega
 have hr1 := hr.out
 rw [if_neg (fun h => h.elim n0 n1)] at hr1
 have hr3 := hid hr1
 clear hr hr1 n0 n1
 cases gr with
 | true =>
  obtain ⟨v1, hv1⟩ : ∃ v, Hid ((cl.length == 0) = v) := ⟨_, hid rfl⟩
  have hr1 := hr3.out
  rw [if_pos rfl, hv1.out] at hr1;have hr4 := hid hr1
  clear hr1 hr3
  cases v1 with
  | false =>
   have d1 : ((cl.length : Int) == 0) = false := by have := hv1.out; simp at this ⊢; exact this
   have hr2 : Hid (r = false) := hid (by rw [← hr4.out]; rfl)
   go_wp2_with fail;go_ret;rw [hr2.out];exact ⟨rfl, K2.out⟩
  | true =>
   have d1 : ((cl.length : Int) == 0) = true := by have := hv1.out; simp at this ⊢; exact this
   have cP := hid (cPlM ya yc yl cs.length w2 HQ2.out.by_.see (by omega))
   obtain ⟨v2, hv2⟩ : ∃ v, Hid (plMQ cs.length yl = v) := ⟨_, hid rfl⟩
   rw [hv2.out] at cP;have hr1 := hr4.out
   rw [hv2.out, Bool.true_and] at hr1;have hr5 := hid hr1
   clear hr1 hr4;go_wp2_with fail;refine cP.out.mono ?_;rintro e w3 ⟨rfl, k3⟩;have K3 := hid (K2.out.trans k3 (by simp))
   have b3 := HB2.out.kept k3
   have HC3 := hid (HC2.out.kept k3)
   have HQ3 := hid (HQ2.out.kept k3)
   clear cP k3 s6 s7 s8 s9;have s9 := b3.get 9 _ rfl
   clear b3
   cases v2 with
   | false =>
    have hr2 : Hid (r = false) := hid (by rw [← hr5.out]; rfl)
    go_wp2_with fail;go_ret;rw [hr2.out];exact ⟨rfl, K3.out⟩
   | true =>
    have cA := hid (cAgsM ga gc gl b cb cs w3 HQ3.out.ag.see HC3.out (by omega))
    have hr2 : Hid (gl.all (agM cs) = r) := hid (by rw [← hr5.out]; rfl)
    rw [hr2.out] at cA;clear hr5;go_wp2_with fail;refine cA.out.mono ?_;rintro e w4 ⟨rfl, k4⟩;have K4 := hid (K3.out.trans k4 (by simp))
    clear cA k4;go_wp2_with fail;go_ret;exact ⟨rfl, K4.out⟩
 | false =>
  obtain ⟨v1, hv1⟩ : ∃ v, Hid ((yl.length == 0) = v) := ⟨_, hid rfl⟩
  have hr1 := hr3.out
  rw [if_neg (by simp), hv1.out] at hr1
  have hr4 := hid hr1
  clear hr1 hr3
  cases v1 with
  | false =>
   have d1 : ((yl.length : Int) == 0) = false := by have := hv1.out; simp at this ⊢; exact this
   have hr2 : Hid (r = false) := hid (by rw [← hr4.out]; rfl)
   go_wp2_with fail;go_ret;rw [hr2.out];exact ⟨rfl, K2.out⟩
  | true =>
   have d1 : ((yl.length : Int) == 0) = true := by have := hv1.out; simp at this ⊢; exact this
   obtain ⟨v2, hv2⟩ : ∃ v, Hid ((gl.length == 0) = v) := ⟨_, hid rfl⟩
   have hr1 := hr4.out
   rw [hv2.out, Bool.true_and] at hr1;have hr5 := hid hr1
   clear hr1 hr4
   cases v2 with
   | false =>
    have d2 : ((gl.length : Int) == 0) = false := by have := hv2.out; simp at this ⊢; exact this
    have hr2 : Hid (r = false) := hid (by rw [← hr5.out]; rfl)
    go_wp2_with fail;go_ret;rw [hr2.out];exact ⟨rfl, K2.out⟩
   | true =>
    have d2 : ((gl.length : Int) == 0) = true := by have := hv2.out; simp at this ⊢; exact this
    have cP := hid (cPlM ca cc cl cs.length w2 HQ2.out.cl.see (by omega))
    have hr2 : Hid (plMQ cs.length cl = r) := hid (by rw [← hr5.out]; rfl)
    rw [hr2.out] at cP;clear hr5;go_wp2_with fail;refine cP.out.mono ?_;rintro e w3 ⟨rfl, k3⟩;have K3 := hid (K2.out.trans k3 (by simp))
    clear cP k3;go_wp2_with fail;go_ret;exact ⟨rfl, K3.out⟩
theorem cOrM (q : Qy) (w : World) (hq : q.ok w) :
  Calls Tryz.prog 37 #[.agg q.cs.toArray] w fun e w' => e = .returned (.bool (orM q)) ∧ Kp [] w w' := by
 obtain ⟨w1, hw1, k1, b1⟩ : ∃ x, w.alloc (.cells q.cs.toArray 31) = x ∧ Kp [] w x ∧ Bn x w.heap.size q.cs := ⟨_, rfl, (Kp.refl _ _).alloc _, Bn.new w _ _⟩
 obtain ⟨q2, hq2⟩ : ∃ x, w.heap.size = x := ⟨_, rfl⟩
 rw [hq2] at b1;obtain ⟨r, hr⟩ : ∃ r, Hid (orM q = r) := ⟨_, hid rfl⟩
 rw [hr.out];have cWd : Hid (∀ W, Kp [] w W → Calls Tryz.prog 76 #[.agg q.cs.toArray] W fun e w' => e = .returned (.int .i64 (wdQ q : Int)) ∧ Kp [] W w') := hid fun W k => cWidth q W (hq.kept k)
 obtain ⟨N, hN⟩ : ∃ n, Hid (wdQ q = n) := ⟨_, hid rfl⟩
 rw [hN.out] at cWd;unfold orM at hr
 rw [hN.out] at hr;have HQ := hid (hq.kept k1)
 have K1 := hid k1
 have HB := hid b1
 clear hq k1;obtain ⟨tb, jn, rt, lo, ro, ⟨wa, wc, wl⟩, ⟨ca, cc, cl⟩, gr, ⟨ya, yc, yl⟩, ⟨ga, gc, gl⟩, ⟨oa, oc, ol⟩, lim⟩ := q;simp only [Qy.cs, Sl.v] at hw1 b1 HB cWd ⊢;dsimp only at hr;have f5 := HQ.out.od.few
 dsimp only at f5;have s10 := b1.get 10 _ rfl
 clear b1
 by_cases n1 : 8 < ol.length
 ·have hr2 : Hid (r = false) := hid (by rw [← hr.out, if_pos n1])
  have e1 : decide ((ol.length : Int) > 8) = true := by simp; omega
  clear n1;go_enter Tryz.func37, Tryz.ntmps37
  go_wp2_with fail;go_ret;rw [hr2.out];exact ⟨rfl, K1.out⟩
 have e1 : decide ((ol.length : Int) > 8) = false := by simp; omega
 have hr1 := hr.out
 rw [if_neg n1] at hr1;have hr3 := hid hr1
 have hor := hid HQ.out.od.see
 have K0 := hid (Kp.refl [] w1)
 clear hr hr1;go_enter Tryz.func37, Tryz.ntmps37
 go_wp2_with fail;clear e1 s10;go_loopw [12] (fun v12 wr => ∃ j : Nat, j ≤ ol.length ∧ v12 = .int .i64 (j : Int) ∧ Hid ((ol.take j).all (fun o => wi o.1 N) = true) ∧ Hid (Kp [] w1 wr)) (fun v12 _ => ol.length - (intOf v12).toNat)
 case atStart => exact ⟨0, Nat.zero_le _, rfl, hid rfl, K0⟩
 case round =>
  obtain ⟨j, hj, rfl, hall, hk⟩ := hrel;clear K0
  by_cases hlt : j < ol.length
  ·obtain ⟨g, o, ea, c0, c1⟩ := orAt (ckSee (CK.ofKp hk.out) hor.out (by simp)) j hlt
   have hsn := hid (all_take_snoc (f := fun o : Int × Bool => wi o.1 N) hlt)
   have hno := hid (fun h => all_no (f := fun o : Int × Bool => wi o.1 N) hlt h)
   generalize ol[j] = z at *
   obtain ⟨x, y⟩ := z;dsimp only at c0 c1 hsn hno;obtain ⟨qq, W1, W2, hqq, hW1, bW1, hW2, bW2, kW2⟩ := boxOr wr x y;have m0 := bW1.get 0 _ rfl; have m1 := bW1.get 1 _ rfl; have f0 := bW1.free 0; have f1 := bW1.free 1
   have s0 := bW2.get 0 _ rfl
   have KW2 := hid (hk.out.trans kW2 (by simp))
   have b3 := HB.out.kept KW2.out
   have v0 := b3.get 0 _ rfl; have v1 := b3.get 1 _ rfl; have v2 := b3.get 2 _ rfl; have v3 := b3.get 3 _ rfl; have v4 := b3.get 4 _ rfl; have v5 := b3.get 5 _ rfl; have v6 := b3.get 6 _ rfl; have v7 := b3.get 7 _ rfl; have v8 := b3.get 8 _ rfl; have v9 := b3.get 9 _ rfl; have v10 := b3.get 10 _ rfl; have v11 := b3.get 11 _ rfl
   have cX := hid (cWd.out W2 (K1.out.trans KW2.out (by simp)))
   have cY : Hid (∀ W, Calls Tryz.prog 45 #[.int .i64 x, .int .i64 (N : Int)] W fun e w' => e = .returned (.bool (wi x N)) ∧ w' = W) := hid fun W => cWithinP x N W
   obtain ⟨v, hv⟩ : ∃ v, Hid (wi x N = v) := ⟨_, hid rfl⟩
   rw [hv.out] at hsn;simp only [hv.out] at cY;have i1 : (0 : Int) ≤ (j : Int) := by omega
   have i2 : (j : Int) < (ol.length : Int) := by omega
   have i3 : (j : Int) + 1 ≤ 9223372036854775807 := by omega
   have hhq := hid (And.intro bW2 HB.out)
   subst ea;clear bW1 bW2 kW2 b3;go_wp2_with fail
   have HC12 : Hid (∀ W', Kp [] W2 W' → (fun W' => W'.cell? ⟨qq, 0, none⟩ = some (.int .i64 x) ∧ W'.cell? ⟨q2, 0, none⟩ = some (.int .i64 tb) ∧ W'.cell? ⟨q2, 1, none⟩ = some (.bool jn) ∧ W'.cell? ⟨q2, 2, none⟩ = some (.int .i64 rt) ∧ W'.cell? ⟨q2, 3, none⟩ = some (.int .i64 lo) ∧ W'.cell? ⟨q2, 4, none⟩ = some (.int .i64 ro) ∧ W'.cell? ⟨q2, 5, none⟩ = some (.slice wa wl.length wc) ∧ W'.cell? ⟨q2, 6, none⟩ = some (.slice ca cl.length cc) ∧ W'.cell? ⟨q2, 7, none⟩ = some (.bool gr) ∧ W'.cell? ⟨q2, 8, none⟩ = some (.slice ya yl.length yc) ∧ W'.cell? ⟨q2, 9, none⟩ = some (.slice ga gl.length gc) ∧ W'.cell? ⟨q2, 10, none⟩ = some (.slice (some ⟨g, o, none⟩) ol.length oc) ∧ W'.cell? ⟨q2, 11, none⟩ = some (.int .i64 lim)) W') := hid fun W' k => by
    have b4 := hhq.out.1.kept k
    have b5 := HB.out.kept (KW2.out.trans k (by simp))
    exact ⟨b4.get 0 _ rfl, b5.get 0 _ rfl, b5.get 1 _ rfl, b5.get 2 _ rfl, b5.get 3 _ rfl, b5.get 4 _ rfl, b5.get 5 _ rfl, b5.get 6 _ rfl, b5.get 7 _ rfl, b5.get 8 _ rfl, b5.get 9 _ rfl, b5.get 10 _ rfl, b5.get 11 _ rfl⟩
   clear m0 m1 f0 f1 s0 v0 v1 v2 v3 v4 v5 v6 v7 v8 v9 v10 v11 cX;refine wp_noPanicY ?_;refine wp_region_held_drew (S := fun W' => W'.cell? ⟨qq, 0, none⟩ = some (.int .i64 x) ∧ W'.cell? ⟨q2, 0, none⟩ = some (.int .i64 tb) ∧ W'.cell? ⟨q2, 1, none⟩ = some (.bool jn) ∧ W'.cell? ⟨q2, 2, none⟩ = some (.int .i64 rt) ∧ W'.cell? ⟨q2, 3, none⟩ = some (.int .i64 lo) ∧ W'.cell? ⟨q2, 4, none⟩ = some (.int .i64 ro) ∧ W'.cell? ⟨q2, 5, none⟩ = some (.slice wa wl.length wc) ∧ W'.cell? ⟨q2, 6, none⟩ = some (.slice ca cl.length cc) ∧ W'.cell? ⟨q2, 7, none⟩ = some (.bool gr) ∧ W'.cell? ⟨q2, 8, none⟩ = some (.slice ya yl.length yc) ∧ W'.cell? ⟨q2, 9, none⟩ = some (.slice ga gl.length gc) ∧ W'.cell? ⟨q2, 10, none⟩ = some (.slice (some ⟨g, o, none⟩) ol.length oc) ∧ W'.cell? ⟨q2, 11, none⟩ = some (.int .i64 lim)) (by kernel_rfl) (HC12.out _ (Kp.refl _ _).drew) (fun hHeld => ?_)
   have KD : Hid (Kp [] W2 W2.drew) := hid (Kp.refl _ _).drew
   generalize W2.drew = wd at *
   refine tkH ?_ 0 rfl (by kernel_rfl) (fun _ _ _ h => by cases h.1) (by rfl) ?_ ‹_› ?_;rotate_left
   ·intro w h; (try dsimp only at h); go_simp <;> with_reducible rfl
   (try simp only [Act.put, lz]);refine tkH ?_ 1 rfl (by kernel_rfl) (fun _ _ _ h => by cases h.1) (by rfl) ?_ ‹_› ?_;rotate_left
   ·intro w h; (try dsimp only at h); go_simp <;> with_reducible rfl
   (try simp only [Act.put, lz]);refine tkH ?_ 2 rfl (by kernel_rfl) (fun _ _ _ h => by cases h.1) (by rfl) ?_ ‹_› ?_;rotate_left
   ·intro w h; (try dsimp only at h); go_simp <;> with_reducible rfl
   (try simp only [Act.put, lz]);refine rdH 3 (by kernel_rfl) rfl fun K hK => ?_
   go_simp;refine (cWd.out wd (K1.out.trans (KW2.out.trans KD.out (by simp)) (by simp))).mono ?_
   rintro e wz ⟨rfl, kz⟩;have KZ := hid (KD.out.trans kz (by simp))
   (try go_wp2_with fail);refine hK.out _ _ (HC12.out wz KZ.out) (fun hHeld => ?_)
   clear hK K;(try simp only [Act.put, lz]);refine rdH 4 (by kernel_rfl) rfl fun K hK => ?_
   go_simp;refine (cY.out wz).mono ?_;rintro e wz2 ⟨rfl, rfl⟩;(try go_wp2_with fail);refine hK.out _ _ (HC12.out _ KZ.out) (fun hHeld => ?_)
   clear hK K;(try simp only [Act.put, lz]);refine tkH ?_ 5 rfl (by kernel_rfl) (fun _ _ _ h => by cases h.1) (by rfl) ?_ ‹_› ?_;rotate_left
   ·intro w h; (try dsimp only at h); go_simp <;> with_reducible rfl
   (try simp only [Act.put, lz]);refine wpAnyH_done (by kernel_rfl) ⟨rfl, ?_⟩ _
   clear hHeld;have K5 := hid (KW2.out.trans KZ.out (by simp))
   cases v with
   | true =>
    have hr2 : Hid ((ol.take (j + 1)).all (fun o => wi o.1 N) = true) := hid (by rw [hsn.out, hall.out]; rfl)
    simp only [Bool.not_true];go_wp2_with fail;go_roundw
    case rel => exact ⟨j + 1, by omega, by go_num, hr2, K5⟩
    case measure => simp [intOf]; omega
   | false =>
    have hr2 : Hid (r = false) := hid (by rw [← hr3.out]; exact hno.out hv.out)
    simp only [Bool.not_false];go_wp2_with fail;go_ret;rw [hr2.out];exact ⟨rfl, K1.out.trans K5.out (by simp)⟩
  ·have hr2 : Hid (r = true) := hid (by rw [← hr3.out, ← hall.out, show j = ol.length by omega, List.take_length])
   have dj1 : ¬ (j : Int) < (ol.length : Int) := by omega
   have dj2 : decide ((j : Int) < (ol.length : Int)) = false := by simp; omega
   go_wp2_with fail;go_ret;rw [hr2.out];exact ⟨rfl, K1.out.trans hk.out (by simp)⟩
def chkQ (c : Cg) (q : Qy) : Int := if okQ c q = true ∧ chkT (colsQ c q) q.wh.l = 0 ∧ ansM (colsQ c q) q = true ∧ orM q = true ∧ ¬ q.lim < 0 then 0 else 160
theorem chkT_two (cs : List Col) (l : List Tm) : chkT cs l = 0 ∨ chkT cs l = 140 := by
 unfold chkT
 split
 ·exact .inr rfl
 ·split
  ·exact .inl rfl
  ·exact .inr rfl
theorem colsQ_len {c : Cg} (h8 : ∀ t ∈ c.tl, t.l.length ≤ 1000000) (q : Qy) : (colsQ c q).length ≤ 2000000 := by
 have h1 : ∀ t, (colsT c t).length ≤ 1000000 := fun t => by
  unfold colsT
  rw [List.getD_eq_getElem?_getD]
  cases h : c.tl[t.toNat]? with
  | none => simp [noTb]
  | some x => exact h8 x (List.mem_of_getElem? h)
 unfold colsQ
 split
 ·rw [List.length_append]; have := h1 q.tb; have := h1 q.rt; omega
 ·have := h1 q.tb; omega
theorem cCheckP (c : Cg) (q : Qy) (w : World) (hc : c.ok w) (h8 : ∀ t ∈ c.tl, t.l.length ≤ 1000000) (hq : q.ok w) : Calls Tryz.prog 10 #[c.v, .agg q.cs.toArray] w fun e w' => e = .returned (.int .i64 (chkQ c q)) ∧ Kp [] w w' := by
 obtain ⟨r, hr⟩ : ∃ r, Hid (chkQ c q = r) := ⟨_, hid rfl⟩
 rw [hr.out];unfold chkQ at hr
 obtain ⟨OK, hOK⟩ : ∃ b, Hid (okQ c q = b) := ⟨_, hid rfl⟩
 obtain ⟨CQ, hCQ⟩ : ∃ b, Hid (colsQ c q = b) := ⟨_, hid rfl⟩
 obtain ⟨OR, hOR⟩ : ∃ b, Hid (orM q = b) := ⟨_, hid rfl⟩
 obtain ⟨AN, hAN⟩ : ∃ b, Hid (ansM CQ q = b) := ⟨_, hid rfl⟩
 obtain ⟨CT, hCT⟩ : ∃ b, Hid (chkT CQ q.wh.l = b) := ⟨_, hid rfl⟩
 have hCT2 := chkT_two CQ q.wh.l
 rw [hOK.out, hCQ.out, hOR.out, hAN.out, hCT.out] at hr;rw [hCT.out] at hCT2;have hCl : CQ.length ≤ 2000000 := by rw [← hCQ.out]; exact colsQ_len h8 q
 obtain ⟨wc, hwc, kc, zc, bc⟩ := boxC c w;obtain ⟨qc, hqc⟩ : ∃ x, w.heap.size = x := ⟨_, rfl⟩
 rw [hqc] at bc zc;obtain ⟨w1, hw1, k1, b1⟩ : ∃ x, wc.alloc (.cells q.cs.toArray 31) = x ∧ Kp [] wc x ∧ Bn x wc.heap.size q.cs := ⟨_, rfl, (Kp.refl _ _).alloc _, Bn.new wc _ _⟩
 obtain ⟨q2, hq2⟩ : ∃ x, wc.heap.size = x := ⟨_, rfl⟩
 rw [hq2] at b1 zc;have kw := kc.trans k1 (by simp)
 have K1 := hid kw
 have bc1 := bc.kept k1
 have a0 := bc1.get 0 _ rfl; have a1 := bc1.get 1 _ rfl; have a2 := bc1.get 2 _ rfl; have a3 := bc1.get 3 _ rfl; have a4 := bc1.get 4 _ rfl
 have cC := hid (cColsOf c q w1 (hc.kept kw) h8)
 have HAn : Hid (∀ W a ca, Kp [] w W → Cols W a CQ → Calls Tryz.prog 36 #[.slice a CQ.length ca, .agg q.cs.toArray] W fun e w' => e = .returned (.bool AN) ∧ Kp [] W w') := hid fun W a ca k h => by
  have := cAnsM a ca CQ q W h (by omega) (hq.kept k)
  rw [hAN.out] at this;exact this
 have HOr : Hid (∀ W, Kp [] w W → Calls Tryz.prog 37 #[.agg q.cs.toArray] W fun e w' => e = .returned (.bool OR) ∧ Kp [] W w') := hid fun W k => by
  have := cOrM q W (hq.kept k)
  rw [hOR.out] at this;exact this
 have HCh : Hid (∀ W a ca, Kp [] w W → Cols W a CQ → Calls Tryz.prog 35 #[.slice a CQ.length ca, .slice q.wh.a q.wh.l.length q.wh.c] W fun e w' => e = .returned (.int .i64 CT) ∧ Kp [] W w') := hid fun W a ca k h => by
  have := xCheck a ca CQ q.wh.a q.wh.c q.wh.l W h (hq.kept k).wh.see (by have := hq.wh.few; omega) (by omega)
  rw [hCT.out] at this;exact this
 have HB := hid b1
 unfold ClP at cC
 rw [hOK.out, hCQ.out] at cC;obtain ⟨tb, jn, rt, lo, ro, ⟨wa, wc, wl⟩, ⟨ca, cc, cl⟩, gr, ⟨ya, yc, yl⟩, ⟨ga, gc, gl⟩, ⟨oa, oc, ol⟩, lim⟩ := q;simp only [Qy.cs, Sl.v, Cg.v] at hw1 b1 HB cC HAn HOr HCh ⊢;dsimp only at hr;have bx := b1
 have s0 := bx.get 0 _ rfl; have s1 := bx.get 1 _ rfl; have s2 := bx.get 2 _ rfl; have s3 := bx.get 3 _ rfl; have s4 := bx.get 4 _ rfl; have s5 := bx.get 5 _ rfl; have s6 := bx.get 6 _ rfl; have s7 := bx.get 7 _ rfl; have s8 := bx.get 8 _ rfl; have s9 := bx.get 9 _ rfl; have s10 := bx.get 10 _ rfl; have s11 := bx.get 11 _ rfl
 clear hc kc k1 bc b1 bc1 kw h8 hq zc bx;go_enter Tryz.func10, Tryz.ntmps10
 go_wp2_with fail;refine cC.out.mono ?_;rintro e w2 ⟨k2, ra, rc, l, rfl, hl⟩;have K2 := hid (K1.out.trans k2 (by simp))
 have bx := HB.out.kept k2
 have HB2 := hid bx
 clear cC k2 a0 a1 a2 a3 a4 s0 s1 s2 s3 s4 s5 s6 s7 s8 s9 s10 s11;have s0 := bx.get 0 _ rfl; have s1 := bx.get 1 _ rfl; have s2 := bx.get 2 _ rfl; have s3 := bx.get 3 _ rfl; have s4 := bx.get 4 _ rfl; have s5 := bx.get 5 _ rfl; have s6 := bx.get 6 _ rfl; have s7 := bx.get 7 _ rfl; have s8 := bx.get 8 _ rfl; have s9 := bx.get 9 _ rfl; have s10 := bx.get 10 _ rfl; have s11 := bx.get 11 _ rfl
 clear bx
 cases OK with
 | false =>
  have hr2 : Hid (r = 160) := hid (by rw [← hr.out, if_neg (fun h => by cases h.1)])
  go_wp2_with fail;go_ret;rw [hr2.out];exact ⟨rfl, K2.out⟩
 | true =>
  obtain ⟨rfl, hcol⟩ := hl rfl;have HCo := hid hcol
  have cX := hid (HCh.out w2 ra rc K2.out hcol)
  clear hl hcol;go_wp2_with fail;refine cX.out.mono ?_;rintro e w3 ⟨rfl, k3⟩;have K3 := hid (K2.out.trans k3 (by simp))
  have bx := HB2.out.kept k3
  have HB3 := hid bx
  have HCo3 := hid (HCo.out.kept k3)
  clear cX k3 s0 s1 s2 s3 s4 s5 s6 s7 s8 s9 s10 s11;have s0 := bx.get 0 _ rfl; have s1 := bx.get 1 _ rfl; have s2 := bx.get 2 _ rfl; have s3 := bx.get 3 _ rfl; have s4 := bx.get 4 _ rfl; have s5 := bx.get 5 _ rfl; have s6 := bx.get 6 _ rfl; have s7 := bx.get 7 _ rfl; have s8 := bx.get 8 _ rfl; have s9 := bx.get 9 _ rfl; have s10 := bx.get 10 _ rfl; have s11 := bx.get 11 _ rfl
  clear bx
  by_cases c0 : CT = 0
  ·subst c0
   have cA := hid (HAn.out w3 ra rc K3.out HCo3.out)
   clear hCT2;go_wp2_with fail;refine cA.out.mono ?_;rintro e w4 ⟨rfl, k4⟩;have K4 := hid (K3.out.trans k4 (by simp))
   have bx := HB3.out.kept k4
   have HB4 := hid bx
   clear cA k4 s0 s1 s2 s3 s4 s5 s6 s7 s8 s9 s10 s11;have s0 := bx.get 0 _ rfl; have s1 := bx.get 1 _ rfl; have s2 := bx.get 2 _ rfl; have s3 := bx.get 3 _ rfl; have s4 := bx.get 4 _ rfl; have s5 := bx.get 5 _ rfl; have s6 := bx.get 6 _ rfl; have s7 := bx.get 7 _ rfl; have s8 := bx.get 8 _ rfl; have s9 := bx.get 9 _ rfl; have s10 := bx.get 10 _ rfl; have s11 := bx.get 11 _ rfl
   clear bx
   cases AN with
   | false =>
    have hr2 : Hid (r = 160) := hid (by rw [← hr.out, if_neg (fun h => by cases h.2.2.1)])
    go_wp2_with fail;go_ret;rw [hr2.out];exact ⟨rfl, K4.out⟩
   | true =>
    have cO := hid (HOr.out w4 K4.out)
    go_wp2_with fail;refine cO.out.mono ?_;rintro e w5 ⟨rfl, k5⟩;have K5 := hid (K4.out.trans k5 (by simp))
    have bx := HB4.out.kept k5
    clear cO k5 s0 s1 s2 s3 s4 s5 s6 s7 s8 s9 s10 s11;have s11 := bx.get 11 _ rfl
    clear bx
    cases OR with
    | false =>
     have hr2 : Hid (r = 160) := hid (by rw [← hr.out, if_neg (fun h => by cases h.2.2.2.1)])
     go_wp2_with fail;go_ret;rw [hr2.out];exact ⟨rfl, K5.out⟩
    | true =>
     by_cases l0 : lim < 0
     ·have f0 : decide (lim < 0) = true := by simpa using l0
      have hr2 : Hid (r = 160) := hid (by rw [← hr.out, if_neg (fun h => by have := h.2.2.2.2; omega)])
      go_wp2_with fail;go_ret;rw [hr2.out];exact ⟨rfl, K5.out⟩
     ·have f0 : decide (lim < 0) = false := by simpa using l0
      have hr2 : Hid (r = 0) := hid (by rw [← hr.out, if_pos ⟨by trivial, by trivial, by trivial, by trivial, by omega⟩])
      go_wp2_with fail;go_ret;rw [hr2.out];exact ⟨rfl, K5.out⟩
  ·have h140 : CT = 140 := by rcases hCT2 with h | h; exact absurd h c0; exact h
   subst h140;clear hCT2;have hr2 : Hid (r = 160) := hid (by rw [← hr.out, if_neg (fun h => by have := h.2.1; omega)])
   go_wp2_with fail;go_ret;rw [hr2.out];exact ⟨rfl, K3.out⟩
end Go.Proofs.YtcgkkofmnajedaaGreatDoor
end

section
namespace Go.Proofs.YtcgkkofmnajedaaGreatDoor
open Go.RowKit Go.Hay
theorem rCheckX (b : Option Addr) (cb : Nat) (cs : List Col) (a : Option Addr) (ca : Nat) (l : List Tm) (w : World) (hs : Cols w b cs) (ht : TmE.See w a l) (hl : l.length ≤ 9223372036854775806) (hr : cs.length ≤ 9223372036854775807) : Calls Tryz.prog 39 #[.slice b cs.length cb, .slice a l.length ca] w fun e w' => e = .returned (.int .i64 (chkT cs l)) ∧ Kp [] w w' := by
 have HS := hid hs
 have HTm := hid ht
 clear hs ht
 by_cases h8 : 8 < l.length
 ·have e8 : decide ((8 : Int) < (l.length : Int)) = true := by simp; omega
  have hR : Hid (chkT cs l = 140) := by show _ = _; unfold chkT; rw [if_pos h8]
  rw [hR.out];clear h8 hR;go_enter Tryz.func39, Tryz.ntmps39
  go_wp2_with fail;go_returns;exact ⟨rfl, Kp.refl _ _⟩
 have e8 : decide ((8 : Int) < (l.length : Int)) = false := by simp; omega
 have hR : Hid (chkT cs l = if l.all (mayT cs) then 0 else 140) := by show _ = _; unfold chkT; rw [if_neg h8]
 rw [hR.out];clear h8 hR;obtain ⟨R, hR⟩ : ∃ R, Hid (l.all (mayT cs) = R) := ⟨_, hid rfl⟩
 rw [hR.out];obtain ⟨RR, hRR⟩ : ∃ RR : Int, Hid ((if R = true then (0 : Int) else 140) = RR) := ⟨_, hid rfl⟩
 rw [hRR.out];go_enter Tryz.func39, Tryz.ntmps39
 go_wp2_with fail;go_loopw [5] (fun i wr => ∃ j : Nat, j ≤ l.length ∧ i = .int .i64 j ∧ Hid ((l.take j).all (mayT cs) = true) ∧ Kp [] w wr) (fun i _ => l.length - (intOf i).toNat)
 case atStart => exact ⟨0, Nat.zero_le _, rfl, hid rfl, Kp.refl _ _⟩
 case round =>
  obtain ⟨j, hj, rfl, hst, kr⟩ := hrel
  by_cases hjl : j < l.length
  ·have hx : l[j]? = some l[j] := by simp [hjl]
   obtain ⟨g, o, rfl, x0, x1, x2, x3, x4, x5⟩ := tmAt (HTm.out.keptNew kr) hx;have i1 : (0 : Int) ≤ (j : Int) := by omega
   have i2 : (j : Int) < (l.length : Int) := by omega
   have i3 : (j : Int) + 1 ≤ 9223372036854775807 := by omega
   have hsu : Hid ((l.take (j + 1)).all (mayT cs) = mayT cs l[j]) := by
    show _ = _
    rw [List.take_succ_eq_append_getElem hjl, List.all_append, hst.out];simp
   have hno : Hid (mayT cs l[j] = false → RR = 140) := fun e => by
    have h0 : R = false := by
     rw [← hR.out, List.all_eq_false];exact ⟨_, List.getElem_mem hjl, by rw [e]; simp⟩
    rw [← hRR.out, h0]; rfl
   clear hx;generalize l[j] = t at *
   obtain ⟨WA, eWA⟩ : ∃ Y, wr.alloc (.cells #[.int .i64 0, .int .i64 0, .int .i64 0, .bool false, .int .i64 0, .string ⟨#[]⟩] 145) = Y := ⟨_, rfl⟩
   have kWA : Kp [] wr WA := by rw [← eWA]; exact (Kp.refl _ _).alloc _
   have zWA : WA.heap.size = wr.heap.size + 1 := by rw [← eWA]; simp
   have xWA : Bn WA (wr.heap.size) [.int .i64 0, .int .i64 0, .int .i64 0, .bool false, .int .i64 0, .string ⟨#[]⟩] := by rw [← eWA]; exact Bn.new wr [.int .i64 0, .int .i64 0, .int .i64 0, .bool false, .int .i64 0, .string ⟨#[]⟩] 145
   obtain ⟨WB, eWB⟩ : ∃ Y, ((((((WA.setCell ⟨wr.heap.size, 0, none⟩ (.int .i64 t.co)).setCell ⟨wr.heap.size, 1, none⟩ (.int .i64 t.op)).setCell ⟨wr.heap.size, 2, none⟩ (.int .i64 t.x.k)).setCell ⟨wr.heap.size, 3, none⟩ (.bool t.x.b)).setCell ⟨wr.heap.size, 4, none⟩ (.int .i64 t.x.n)).setCell ⟨wr.heap.size, 5, none⟩ (.string t.x.t)) = Y := ⟨_, rfl⟩
   have kWB : Kp [wr.heap.size] WA WB := by rw [← eWB]; exact (((((((Kp.refl _ _).setCell (by simp) _).setCell (by simp) _).setCell (by simp) _).setCell (by simp) _).setCell (by simp) _).setCell (by simp) _)
   have xWB : Bn WB (wr.heap.size) [.int .i64 t.co, .int .i64 t.op, .int .i64 t.x.k, .bool t.x.b, .int .i64 t.x.n, .string t.x.t] := by rw [← eWB]; exact ((((((xWA.set 0 (by simp) (.int .i64 t.co)).set 1 (by simp) (.int .i64 t.op)).set 2 (by simp) (.int .i64 t.x.k)).set 3 (by simp) (.bool t.x.b)).set 4 (by simp) (.int .i64 t.x.n)).set 5 (by simp) (.string t.x.t))
   have zWB := kWB.size
   have ma0 := xWA.get 0 _ rfl; have ma1 := xWA.get 1 _ rfl; have ma2 := xWA.get 2 _ rfl; have ma3 := xWA.get 3 _ rfl; have ma4 := xWA.get 4 _ rfl; have ma5 := xWA.get 5 _ rfl
   have mf0 := xWA.free 0; have mf1 := xWA.free 1; have mf2 := xWA.free 2; have mf3 := xWA.free 3; have mf4 := xWA.free 4; have mf5 := xWA.free 5
   have pc0 := xWB.get 0 _ rfl; have pc1 := xWB.get 1 _ rfl; have pc2 := xWB.get 2 _ rfl; have pc3 := xWB.get 3 _ rfl; have pc4 := xWB.get 4 _ rfl; have pc5 := xWB.get 5 _ rfl
   have kB : Kp [] wr WB := kWA.trans kWB (fun x hx => .inr (by simp at hx; omega))
   have KB := hid (kr.trans kB (by simp))
   have XB := hid xWB
   clear kWA kWB xWA xWB kB;obtain ⟨co, op, x⟩ := t
   by_cases h1 : co < 0
   ·have d1 : decide (co < 0) = true := by simpa using h1
    have e1 := mayT_out cs ⟨co, op, x⟩ (.inl h1)
    clear h1 XB;obtain ⟨xk, xb, xn, xt⟩ := x;simp only at *
    have h3 := hid (hno.out e1)
    clear hno hsu;go_wp2_with fail;go_ret;exact ⟨by rw [h3.out]; rfl, KB.out⟩
   have d1 : decide (co < 0) = false := by simpa using h1
   by_cases h2 : (cs.length : Int) ≤ co
   ·have d2 : decide ((cs.length : Int) ≤ co) = true := by simpa using h2
    have e1 := mayT_out cs ⟨co, op, x⟩ (.inr h2)
    clear h1 h2 XB;obtain ⟨xk, xb, xn, xt⟩ := x;simp only at *
    have h3 := hid (hno.out e1)
    clear hno hsu;go_wp2_with fail;go_ret;exact ⟨by rw [h3.out]; rfl, KB.out⟩
   have d2 : decide ((cs.length : Int) ≤ co) = false := by simpa using h2
   obtain ⟨i, hi⟩ := Int.eq_ofNat_of_zero_le (show 0 ≤ co by omega)
   have hil : i < cs.length := by omega
   have hma := hid (mayT_at cs ⟨co, op, x⟩ i hil hi)
   rw [hma.out] at hno hsu;obtain ⟨g2, o2, rfl, c0, c1, c2⟩ := (HS.out.kept KB.out).at i hil;have i4 : (0 : Int) ≤ (i : Int) := by omega
   have i5 : (i : Int) < (cs.length : Int) := by omega
   have d2n : decide (cs.length ≤ i) = false := by simp; omega
   have CC := hid c1
   clear h1 h2 c0 c1 c2 hma;generalize cs[i].k = ck at *
   have aR := hid (cRefRight x)
   generalize hrr : x.right = X at *
   clear hrr;obtain ⟨xk, xb, xn, xt⟩ := x;simp only [Val.v] at *;subst hi
   by_cases h3 : op < 0
   ·have d3 : decide (op < 0) = true := by simpa using h3
    have e1 : (if op = 6 ∨ op = 7 then true else (decide (0 ≤ op) && decide (op < 6)) && (X && (xk == ck))) = false := by rw [if_neg (by omega)]; simp; omega
    clear h3 XB CC aR;have h3 := hid (hno.out e1)
    clear hno hsu;go_wp2_with fail;go_ret;exact ⟨by rw [h3.out]; rfl, KB.out⟩
   have d3 : decide (op < 0) = false := by simpa using h3
   by_cases h4 : 7 < op
   ·have d4 : decide (7 < op) = true := by simpa using h4
    have e1 : (if op = 6 ∨ op = 7 then true else (decide (0 ≤ op) && decide (op < 6)) && (X && (xk == ck))) = false := by rw [if_neg (by omega)]; simp; omega
    clear h3 h4 XB CC aR;have h3 := hid (hno.out e1)
    clear hno hsu;go_wp2_with fail;go_ret;exact ⟨by rw [h3.out]; rfl, KB.out⟩
   have d4 : decide (7 < op) = false := by simpa using h4
   have hF : Hid (∀ W', Kp [] WB W' → (W'.cell? ⟨wr.heap.size, 0, none⟩ = some (.int .i64 (i : Int)) ∧ W'.cell? ⟨wr.heap.size, 1, none⟩ = some (.int .i64 op) ∧ W'.cell? ⟨wr.heap.size, 2, none⟩ = some (.int .i64 xk) ∧ W'.cell? ⟨wr.heap.size, 3, none⟩ = some (.bool xb) ∧ W'.cell? ⟨wr.heap.size, 4, none⟩ = some (.int .i64 xn) ∧ W'.cell? ⟨wr.heap.size, 5, none⟩ = some (.string xt) ∧ W'.cell? ⟨g2, o2 + i * 3 + 1, none⟩ = some (.int .i64 ck))) := fun W' k => by
    have h1 := XB.out.kept k
    exact ⟨h1.get 0 _ rfl, h1.get 1 _ rfl, h1.get 2 _ rfl, h1.get 3 _ rfl, h1.get 4 _ rfl, h1.get 5 _ rfl, kpAt k CC.out⟩
   clear XB CC
   by_cases h6 : op < 6
   ·have d6 : decide (op < 6) = true := by simpa using h6
    have eM : (if op = 6 ∨ op = 7 then true else (decide (0 ≤ op) && decide (op < 6)) && (X && (xk == ck))) = (X && (xk == ck)) := by rw [if_neg (by omega), d6, show decide (0 ≤ op) = true by simp; omega]; simp
    rw [eM] at hno hsu;clear h3 h4 h6 eM;go_wp2_with fail;refine (aR.out _).mono ?_;rintro e w1 ⟨rfl, k1⟩;have K1 := hid k1
    clear k1 aR x0 x1 x2 x3 x4 x5 eWA eWB ma0 ma1 ma2 ma3 ma4 ma5 mf0 mf1 mf2 mf3 mf4 mf5 pc0 pc1 pc2 pc3 pc4 pc5
    cases X with
    | false =>
     have h3 := hid (hno.out (by simp))
     clear hno hsu;go_wp2_with fail;refine wp_region_held_drew (S := fun W' => W'.cell? ⟨wr.heap.size, 0, none⟩ = some (.int .i64 (i : Int)) ∧ W'.cell? ⟨wr.heap.size, 1, none⟩ = some (.int .i64 op) ∧ W'.cell? ⟨wr.heap.size, 2, none⟩ = some (.int .i64 xk) ∧ W'.cell? ⟨wr.heap.size, 3, none⟩ = some (.bool xb) ∧ W'.cell? ⟨wr.heap.size, 4, none⟩ = some (.int .i64 xn) ∧ W'.cell? ⟨wr.heap.size, 5, none⟩ = some (.string xt) ∧ W'.cell? ⟨g2, o2 + i * 3 + 1, none⟩ = some (.int .i64 ck)) (by kernel_rfl) ?_ (fun hHeld => ?_)
     ·exact hF.out _ (K1.out.drew)
     have K2 : Hid (Kp [] w w1.drew) := hid (KB.out.trans K1.out.drew (by simp))
     generalize w1.drew = Wd at *
     refine tkH ?_ 0 rfl (by kernel_rfl) (fun _ _ _ h => h) (by rfl) ?_ ‹_› ?_;rotate_left
     ·intro w h; (try dsimp only at h); go_simp <;> with_reducible rfl
     (try simp only [Act.put, lz]);refine tkH ?_ 1 rfl (by kernel_rfl) (fun _ _ _ h => h) (by rfl) ?_ ‹_› ?_;rotate_left
     ·intro w h; (try dsimp only at h); go_simp <;> with_reducible rfl
     (try simp only [Act.put, lz]);refine tkH ?_ 2 rfl (by kernel_rfl) (fun _ _ _ h => h) (by rfl) ?_ ‹_› ?_;rotate_left
     ·intro w h; (try dsimp only at h); go_simp <;> with_reducible rfl
     (try simp only [Act.put, lz]);refine tkH ?_ 3 rfl (by kernel_rfl) (fun _ _ _ h => h) (by rfl) ?_ ‹_› ?_;rotate_left
     ·intro w h; (try dsimp only at h); go_simp <;> with_reducible rfl
     (try simp only [Act.put, lz]);refine tkH ?_ 4 rfl (by kernel_rfl) (fun _ _ _ h => h) (by rfl) ?_ ‹_› ?_;rotate_left
     ·intro w h; (try dsimp only at h); go_simp <;> with_reducible rfl
     (try simp only [Act.put, lz]);refine tkH ?_ 5 rfl (by kernel_rfl) (fun _ _ _ h => h) (by rfl) ?_ ‹_› ?_;rotate_left
     ·intro w h; (try dsimp only at h); go_simp <;> with_reducible rfl
     (try simp only [Act.put, lz]);refine tkH ?_ 6 rfl (by kernel_rfl) (fun _ _ _ h => h) (by rfl) ?_ ‹_› ?_;rotate_left
     ·intro w h; (try dsimp only at h); go_simp <;> with_reducible rfl
     (try simp only [Act.put, lz]);refine tkU 7 rfl (by kernel_rfl) (fun _ _ _ h => h) (by rfl) ‹_› ?_
     (try simp only [Act.put, lz]);refine tkU 8 rfl (by kernel_rfl) (fun _ _ _ h => h) (by rfl) ‹_› ?_
     (try simp only [Act.put, lz]);refine tkU 9 rfl (by kernel_rfl) (fun _ _ _ h => h) (by rfl) ‹_› ?_
     (try simp only [Act.put, lz]);refine tkU 10 rfl (by kernel_rfl) (fun _ _ _ h => h) (by rfl) ‹_› ?_
     (try simp only [Act.put, lz]);refine tkU 11 rfl (by kernel_rfl) (fun _ _ _ h => h) (by rfl) ‹_› ?_
     (try simp only [Act.put, lz]);refine tkU 12 rfl (by kernel_rfl) (fun _ _ _ h => h) (by rfl) ‹_› ?_
     (try simp only [Act.put, lz]);refine tkU 13 rfl (by kernel_rfl) (fun _ _ _ h => h) (by rfl) ‹_› ?_
     (try simp only [Act.put, lz]);refine tkU 14 rfl (by kernel_rfl) (fun _ _ _ h => h) (by rfl) ‹_› ?_
     (try simp only [Act.put, lz]);refine tkU 15 rfl (by kernel_rfl) (fun _ _ _ h => h) (by rfl) ‹_› ?_
     (try simp only [Act.put, lz]);refine tkU 16 rfl (by kernel_rfl) (fun _ _ _ h => h) (by rfl) ‹_› ?_
     (try simp only [Act.put, lz]);refine tkH ?_ 17 rfl (by kernel_rfl) (fun _ _ _ h => h) (by rfl) ?_ ‹_› ?_;rotate_left
     ·intro w h; (try dsimp only at h); go_simp <;> with_reducible rfl
     (try simp only [Act.put, lz]);refine tkH ?_ 18 rfl (by kernel_rfl) (fun _ _ _ h => h) (by rfl) ?_ ‹_› ?_;rotate_left
     ·intro w h; (try dsimp only at h); go_simp <;> with_reducible rfl
     (try simp only [Act.put, lz]);refine wpAnyH_done (by kernel_rfl) ?_ _
     clear hHeld hF K1 KB;go_wp2_with fail;go_ret;exact ⟨by rw [h3.out]; rfl, K2.out⟩
    | true =>
     by_cases hk : xk = ck
     ·have dk : (xk != ck) = false := by simpa using hk
      have hsu2 : Hid ((l.take (j + 1)).all (mayT cs) = true) := by show _ = _; rw [hsu.out]; simp [hk]
      clear hno hsu hk;go_wp2_with fail;refine wp_region_held_drew (S := fun W' => W'.cell? ⟨wr.heap.size, 0, none⟩ = some (.int .i64 (i : Int)) ∧ W'.cell? ⟨wr.heap.size, 1, none⟩ = some (.int .i64 op) ∧ W'.cell? ⟨wr.heap.size, 2, none⟩ = some (.int .i64 xk) ∧ W'.cell? ⟨wr.heap.size, 3, none⟩ = some (.bool xb) ∧ W'.cell? ⟨wr.heap.size, 4, none⟩ = some (.int .i64 xn) ∧ W'.cell? ⟨wr.heap.size, 5, none⟩ = some (.string xt) ∧ W'.cell? ⟨g2, o2 + i * 3 + 1, none⟩ = some (.int .i64 ck)) (by kernel_rfl) ?_ (fun hHeld => ?_)
      ·exact hF.out _ (K1.out.drew)
      have K2 : Hid (Kp [] w w1.drew) := hid (KB.out.trans K1.out.drew (by simp))
      generalize w1.drew = Wd at *
      refine tkH ?_ 0 rfl (by kernel_rfl) (fun _ _ _ h => h) (by rfl) ?_ ‹_› ?_;rotate_left
      ·intro w h; (try dsimp only at h); go_simp <;> with_reducible rfl
      (try simp only [Act.put, lz]);refine tkH ?_ 1 rfl (by kernel_rfl) (fun _ _ _ h => h) (by rfl) ?_ ‹_› ?_;rotate_left
      ·intro w h; (try dsimp only at h); go_simp <;> with_reducible rfl
      (try simp only [Act.put, lz]);refine tkH ?_ 2 rfl (by kernel_rfl) (fun _ _ _ h => h) (by rfl) ?_ ‹_› ?_;rotate_left
      ·intro w h; (try dsimp only at h); go_simp <;> with_reducible rfl
      (try simp only [Act.put, lz]);refine tkH ?_ 3 rfl (by kernel_rfl) (fun _ _ _ h => h) (by rfl) ?_ ‹_› ?_;rotate_left
      ·intro w h; (try dsimp only at h); go_simp <;> with_reducible rfl
      (try simp only [Act.put, lz]);refine tkH ?_ 4 rfl (by kernel_rfl) (fun _ _ _ h => h) (by rfl) ?_ ‹_› ?_;rotate_left
      ·intro w h; (try dsimp only at h); go_simp <;> with_reducible rfl
      (try simp only [Act.put, lz]);refine tkH ?_ 5 rfl (by kernel_rfl) (fun _ _ _ h => h) (by rfl) ?_ ‹_› ?_;rotate_left
      ·intro w h; (try dsimp only at h); go_simp <;> with_reducible rfl
      (try simp only [Act.put, lz]);refine tkH ?_ 6 rfl (by kernel_rfl) (fun _ _ _ h => h) (by rfl) ?_ ‹_› ?_;rotate_left
      ·intro w h; (try dsimp only at h); go_simp <;> with_reducible rfl
      (try simp only [Act.put, lz]);refine tkH ?_ 7 rfl (by kernel_rfl) (fun _ _ _ h => h) (by rfl) ?_ ‹_› ?_;rotate_left
      ·intro w h; (try dsimp only at h); go_simp <;> with_reducible rfl
      (try simp only [Act.put, lz]);refine tkH ?_ 8 rfl (by kernel_rfl) (fun _ _ _ h => h) (by rfl) ?_ ‹_› ?_;rotate_left
      ·intro w h; (try dsimp only at h); go_simp <;> with_reducible rfl
      (try simp only [Act.put, lz]);refine tkH ?_ 9 rfl (by kernel_rfl) (fun _ _ _ h => h) (by rfl) ?_ ‹_› ?_;rotate_left
      ·intro w h; (try dsimp only at h); go_simp <;> with_reducible rfl
      (try simp only [Act.put, lz]);refine tkH ?_ 10 rfl (by kernel_rfl) (fun _ _ _ h => h) (by rfl) ?_ ‹_› ?_;rotate_left
      ·intro w h; (try dsimp only at h); go_simp <;> with_reducible rfl
      (try simp only [Act.put, lz]);refine tkH ?_ 11 rfl (by kernel_rfl) (fun _ _ _ h => h) (by rfl) ?_ ‹_› ?_;rotate_left
      ·intro w h; (try dsimp only at h); go_simp <;> with_reducible rfl
      (try simp only [Act.put, lz]);refine tkH ?_ 12 rfl (by kernel_rfl) (fun _ _ _ h => h) (by rfl) ?_ ‹_› ?_;rotate_left
      ·intro w h; (try dsimp only at h); go_simp <;> with_reducible rfl
      (try simp only [Act.put, lz]);refine tkH ?_ 13 rfl (by kernel_rfl) (fun _ _ _ h => h) (by rfl) ?_ ‹_› ?_;rotate_left
      ·intro w h; (try dsimp only at h); go_simp <;> with_reducible rfl
      (try simp only [Act.put, lz]);refine tkH ?_ 14 rfl (by kernel_rfl) (fun _ _ _ h => h) (by rfl) ?_ ‹_› ?_;rotate_left
      ·intro w h; (try dsimp only at h); go_simp <;> with_reducible rfl
      (try simp only [Act.put, lz]);refine tkH ?_ 15 rfl (by kernel_rfl) (fun _ _ _ h => h) (by rfl) ?_ ‹_› ?_;rotate_left
      ·intro w h; (try dsimp only at h); go_simp <;> with_reducible rfl
      (try simp only [Act.put, lz]);refine tkH ?_ 16 rfl (by kernel_rfl) (fun _ _ _ h => h) (by rfl) ?_ ‹_› ?_;rotate_left
      ·intro w h; (try dsimp only at h); go_simp <;> with_reducible rfl
      (try simp only [Act.put, lz]);refine tkH ?_ 17 rfl (by kernel_rfl) (fun _ _ _ h => h) (by rfl) ?_ ‹_› ?_;rotate_left
      ·intro w h; (try dsimp only at h); go_simp <;> with_reducible rfl
      (try simp only [Act.put, lz]);refine tkH ?_ 18 rfl (by kernel_rfl) (fun _ _ _ h => h) (by rfl) ?_ ‹_› ?_;rotate_left
      ·intro w h; (try dsimp only at h); go_simp <;> with_reducible rfl
      (try simp only [Act.put, lz]);refine wpAnyH_done (by kernel_rfl) ?_ _
      clear hHeld hF K1 KB;go_wp2_with fail;exact ⟨⟨j + 1, by omega, by go_num, hsu2, K2.out⟩, by simp [intOf]; omega⟩
     ·have dk : (xk != ck) = true := by simpa using hk
      have h3 := hid (hno.out (by simpa using hk))
      clear hno hsu hk;go_wp2_with fail;refine wp_region_held_drew (S := fun W' => W'.cell? ⟨wr.heap.size, 0, none⟩ = some (.int .i64 (i : Int)) ∧ W'.cell? ⟨wr.heap.size, 1, none⟩ = some (.int .i64 op) ∧ W'.cell? ⟨wr.heap.size, 2, none⟩ = some (.int .i64 xk) ∧ W'.cell? ⟨wr.heap.size, 3, none⟩ = some (.bool xb) ∧ W'.cell? ⟨wr.heap.size, 4, none⟩ = some (.int .i64 xn) ∧ W'.cell? ⟨wr.heap.size, 5, none⟩ = some (.string xt) ∧ W'.cell? ⟨g2, o2 + i * 3 + 1, none⟩ = some (.int .i64 ck)) (by kernel_rfl) ?_ (fun hHeld => ?_)
      ·exact hF.out _ (K1.out.drew)
      have K2 : Hid (Kp [] w w1.drew) := hid (KB.out.trans K1.out.drew (by simp))
      generalize w1.drew = Wd at *
      refine tkH ?_ 0 rfl (by kernel_rfl) (fun _ _ _ h => h) (by rfl) ?_ ‹_› ?_;rotate_left
      ·intro w h; (try dsimp only at h); go_simp <;> with_reducible rfl
      (try simp only [Act.put, lz]);refine tkH ?_ 1 rfl (by kernel_rfl) (fun _ _ _ h => h) (by rfl) ?_ ‹_› ?_;rotate_left
      ·intro w h; (try dsimp only at h); go_simp <;> with_reducible rfl
      (try simp only [Act.put, lz]);refine tkH ?_ 2 rfl (by kernel_rfl) (fun _ _ _ h => h) (by rfl) ?_ ‹_› ?_;rotate_left
      ·intro w h; (try dsimp only at h); go_simp <;> with_reducible rfl
      (try simp only [Act.put, lz]);refine tkH ?_ 3 rfl (by kernel_rfl) (fun _ _ _ h => h) (by rfl) ?_ ‹_› ?_;rotate_left
      ·intro w h; (try dsimp only at h); go_simp <;> with_reducible rfl
      (try simp only [Act.put, lz]);refine tkH ?_ 4 rfl (by kernel_rfl) (fun _ _ _ h => h) (by rfl) ?_ ‹_› ?_;rotate_left
      ·intro w h; (try dsimp only at h); go_simp <;> with_reducible rfl
      (try simp only [Act.put, lz]);refine tkH ?_ 5 rfl (by kernel_rfl) (fun _ _ _ h => h) (by rfl) ?_ ‹_› ?_;rotate_left
      ·intro w h; (try dsimp only at h); go_simp <;> with_reducible rfl
      (try simp only [Act.put, lz]);refine tkH ?_ 6 rfl (by kernel_rfl) (fun _ _ _ h => h) (by rfl) ?_ ‹_› ?_;rotate_left
      ·intro w h; (try dsimp only at h); go_simp <;> with_reducible rfl
      (try simp only [Act.put, lz]);refine tkH ?_ 7 rfl (by kernel_rfl) (fun _ _ _ h => h) (by rfl) ?_ ‹_› ?_;rotate_left
      ·intro w h; (try dsimp only at h); go_simp <;> with_reducible rfl
      (try simp only [Act.put, lz]);refine tkH ?_ 8 rfl (by kernel_rfl) (fun _ _ _ h => h) (by rfl) ?_ ‹_› ?_;rotate_left
      ·intro w h; (try dsimp only at h); go_simp <;> with_reducible rfl
      (try simp only [Act.put, lz]);refine tkH ?_ 9 rfl (by kernel_rfl) (fun _ _ _ h => h) (by rfl) ?_ ‹_› ?_;rotate_left
      ·intro w h; (try dsimp only at h); go_simp <;> with_reducible rfl
      (try simp only [Act.put, lz]);refine tkH ?_ 10 rfl (by kernel_rfl) (fun _ _ _ h => h) (by rfl) ?_ ‹_› ?_;rotate_left
      ·intro w h; (try dsimp only at h); go_simp <;> with_reducible rfl
      (try simp only [Act.put, lz]);refine tkH ?_ 11 rfl (by kernel_rfl) (fun _ _ _ h => h) (by rfl) ?_ ‹_› ?_;rotate_left
      ·intro w h; (try dsimp only at h); go_simp <;> with_reducible rfl
      (try simp only [Act.put, lz]);refine tkH ?_ 12 rfl (by kernel_rfl) (fun _ _ _ h => h) (by rfl) ?_ ‹_› ?_;rotate_left
      ·intro w h; (try dsimp only at h); go_simp <;> with_reducible rfl
      (try simp only [Act.put, lz]);refine tkH ?_ 13 rfl (by kernel_rfl) (fun _ _ _ h => h) (by rfl) ?_ ‹_› ?_;rotate_left
      ·intro w h; (try dsimp only at h); go_simp <;> with_reducible rfl
      (try simp only [Act.put, lz]);refine tkH ?_ 14 rfl (by kernel_rfl) (fun _ _ _ h => h) (by rfl) ?_ ‹_› ?_;rotate_left
      ·intro w h; (try dsimp only at h); go_simp <;> with_reducible rfl
      (try simp only [Act.put, lz]);refine tkH ?_ 15 rfl (by kernel_rfl) (fun _ _ _ h => h) (by rfl) ?_ ‹_› ?_;rotate_left
      ·intro w h; (try dsimp only at h); go_simp <;> with_reducible rfl
      (try simp only [Act.put, lz]);refine tkH ?_ 16 rfl (by kernel_rfl) (fun _ _ _ h => h) (by rfl) ?_ ‹_› ?_;rotate_left
      ·intro w h; (try dsimp only at h); go_simp <;> with_reducible rfl
      (try simp only [Act.put, lz]);refine tkH ?_ 17 rfl (by kernel_rfl) (fun _ _ _ h => h) (by rfl) ?_ ‹_› ?_;rotate_left
      ·intro w h; (try dsimp only at h); go_simp <;> with_reducible rfl
      (try simp only [Act.put, lz]);refine tkH ?_ 18 rfl (by kernel_rfl) (fun _ _ _ h => h) (by rfl) ?_ ‹_› ?_;rotate_left
      ·intro w h; (try dsimp only at h); go_simp <;> with_reducible rfl
      (try simp only [Act.put, lz]);refine wpAnyH_done (by kernel_rfl) ?_ _
      clear hHeld hF K1 KB;go_wp2_with fail;go_ret;exact ⟨by rw [h3.out]; rfl, K2.out⟩
   ·have d6 : decide (op < 6) = false := by simpa using h6
    have hsu2 : Hid ((l.take (j + 1)).all (mayT cs) = true) := by show _ = _; rw [hsu.out, if_pos (by omega)]
    clear h3 h4 h6 hno hsu;go_wp2_with fail;refine (aR.out _).mono ?_;rintro e w1 ⟨rfl, k1⟩;have K1 := hid k1
    clear k1 aR x0 x1 x2 x3 x4 x5 eWA eWB ma0 ma1 ma2 ma3 ma4 ma5 mf0 mf1 mf2 mf3 mf4 mf5 pc0 pc1 pc2 pc3 pc4 pc5;go_wp2_with fail;refine wp_region_held_drew (S := fun W' => W'.cell? ⟨wr.heap.size, 0, none⟩ = some (.int .i64 (i : Int)) ∧ W'.cell? ⟨wr.heap.size, 1, none⟩ = some (.int .i64 op) ∧ W'.cell? ⟨wr.heap.size, 2, none⟩ = some (.int .i64 xk) ∧ W'.cell? ⟨wr.heap.size, 3, none⟩ = some (.bool xb) ∧ W'.cell? ⟨wr.heap.size, 4, none⟩ = some (.int .i64 xn) ∧ W'.cell? ⟨wr.heap.size, 5, none⟩ = some (.string xt) ∧ W'.cell? ⟨g2, o2 + i * 3 + 1, none⟩ = some (.int .i64 ck)) (by kernel_rfl) ?_ (fun hHeld => ?_)
    ·exact hF.out _ (K1.out.drew)
    have K2 : Hid (Kp [] w w1.drew) := hid (KB.out.trans K1.out.drew (by simp))
    generalize w1.drew = Wd at *
    refine tkH ?_ 0 rfl (by kernel_rfl) (fun _ _ _ h => h) (by rfl) ?_ ‹_› ?_;rotate_left
    ·intro w h; (try dsimp only at h); go_simp <;> with_reducible rfl
    (try simp only [Act.put, lz]);refine tkH ?_ 1 rfl (by kernel_rfl) (fun _ _ _ h => h) (by rfl) ?_ ‹_› ?_;rotate_left
    ·intro w h; (try dsimp only at h); go_simp <;> with_reducible rfl
    (try simp only [Act.put, lz]);refine tkH ?_ 2 rfl (by kernel_rfl) (fun _ _ _ h => h) (by rfl) ?_ ‹_› ?_;rotate_left
    ·intro w h; (try dsimp only at h); go_simp <;> with_reducible rfl
    (try simp only [Act.put, lz]);refine tkH ?_ 3 rfl (by kernel_rfl) (fun _ _ _ h => h) (by rfl) ?_ ‹_› ?_;rotate_left
    ·intro w h; (try dsimp only at h); go_simp <;> with_reducible rfl
    (try simp only [Act.put, lz]);refine tkU 4 rfl (by kernel_rfl) (fun _ _ _ h => h) (by rfl) ‹_› ?_
    (try simp only [Act.put, lz]);refine tkU 5 rfl (by kernel_rfl) (fun _ _ _ h => h) (by rfl) ‹_› ?_
    (try simp only [Act.put, lz]);refine tkU 6 rfl (by kernel_rfl) (fun _ _ _ h => h) (by rfl) ‹_› ?_
    (try simp only [Act.put, lz]);refine tkU 7 rfl (by kernel_rfl) (fun _ _ _ h => h) (by rfl) ‹_› ?_
    (try simp only [Act.put, lz]);refine tkU 8 rfl (by kernel_rfl) (fun _ _ _ h => h) (by rfl) ‹_› ?_
    (try simp only [Act.put, lz]);refine tkU 9 rfl (by kernel_rfl) (fun _ _ _ h => h) (by rfl) ‹_› ?_
    (try simp only [Act.put, lz]);refine tkU 10 rfl (by kernel_rfl) (fun _ _ _ h => h) (by rfl) ‹_› ?_
    (try simp only [Act.put, lz]);refine tkU 11 rfl (by kernel_rfl) (fun _ _ _ h => h) (by rfl) ‹_› ?_
    (try simp only [Act.put, lz]);refine tkU 12 rfl (by kernel_rfl) (fun _ _ _ h => h) (by rfl) ‹_› ?_
    (try simp only [Act.put, lz]);refine tkU 13 rfl (by kernel_rfl) (fun _ _ _ h => h) (by rfl) ‹_› ?_
    (try simp only [Act.put, lz]);refine tkU 14 rfl (by kernel_rfl) (fun _ _ _ h => h) (by rfl) ‹_› ?_
    (try simp only [Act.put, lz]);refine tkU 15 rfl (by kernel_rfl) (fun _ _ _ h => h) (by rfl) ‹_› ?_
    (try simp only [Act.put, lz]);refine tkU 16 rfl (by kernel_rfl) (fun _ _ _ h => h) (by rfl) ‹_› ?_
    (try simp only [Act.put, lz]);refine tkU 17 rfl (by kernel_rfl) (fun _ _ _ h => h) (by rfl) ‹_› ?_
    (try simp only [Act.put, lz]);refine tkH ?_ 18 rfl (by kernel_rfl) (fun _ _ _ h => h) (by rfl) ?_ ‹_› ?_;rotate_left
    ·intro w h; (try dsimp only at h); go_simp <;> with_reducible rfl
    (try simp only [Act.put, lz]);refine wpAnyH_done (by kernel_rfl) ?_ _
    clear hHeld hF K1 KB;go_wp2_with fail;exact ⟨⟨j + 1, by omega, by go_num, hsu2, K2.out⟩, by simp [intOf]; omega⟩
  ·have e : j = l.length := by omega
   subst e
   have h4 : Hid (RR = 0) := by
    show _ = _
    have h0 : R = true := by rw [← hR.out]; have := hst.out; rwa [List.take_length] at this
    rw [← hRR.out, h0]; rfl
   go_wp2_with fail;go_ret;exact ⟨by rw [h4.out]; rfl, kr⟩
end Go.Proofs.YtcgkkofmnajedaaGreatDoor
end

section
namespace Go.Proofs.YtcgkkofmnajedaaGreatDoor
open Go.RowKit Go.Hay
attribute [local go_sem] Oper.semAt_some
def gQ (cs : List Col) (q : Qy) : Bool := if q.gr then (q.cl.l.length == 0) && (plMQ cs.length q.by_.l && q.ag.l.all (agM cs)) else (q.by_.l.length == 0) && ((q.ag.l.length == 0) && plMQ cs.length q.cl.l)
theorem ansM_eq (cs : List Col) (q : Qy) : ansM cs q = if wdQ q = 0 ∨ 16 < wdQ q then false else gQ cs q := rfl
theorem agM_out {cs : List Col} {x y : Int} (h : x < 0 ∨ 3 < x) : agM cs (x, y) = false := by
 unfold agM
 dsimp only;rw [if_neg (by omega), if_neg (by omega), if_neg (by omega)]
theorem agM_no {cs : List Col} {x y : Int} (h : x ≠ 0) (h2 : wi y cs.length = false) : agM cs (x, y) = false := by
 unfold agM
 dsimp only;rw [if_neg h, h2];simp
theorem agM_one {cs : List Col} {y : Int} (h2 : wi y cs.length = true) : agM cs (1, y) = ((cs.getD y.toNat ⟨⟨#[]⟩, 0, false⟩).k == 2) := by
 unfold agM
 dsimp only;rw [if_neg (by omega), if_pos rfl, h2, Bool.true_and]
theorem agM_yes {cs : List Col} {x y : Int} (h0 : 0 ≤ x ∧ x ≤ 3) (h1 : x ≠ 1) (h2 : x = 0 ∨ wi y cs.length = true) : agM cs (x, y) = true := by
 unfold agM
 dsimp only
 by_cases e : x = 0
 ·rw [if_pos e]
 ·rw [if_neg e, if_neg h1, if_pos (by omega)]
  rcases h2 with h2 | h2
  ·exact absurd h2 e
  ·exact h2
theorem rCheckP (c : Cg) (q : Qy) (w : World) (hc : c.ok w) (h8 : ∀ t ∈ c.tl, t.l.length ≤ 1000000) (hq : q.ok w) : Calls Tryz.prog 11 #[c.v, .agg q.cs.toArray] w fun e w' => e = .returned (.int .i64 (chkQ c q)) ∧ Kp [] w w' := by
 obtain ⟨r, hr⟩ : ∃ r, Hid (chkQ c q = r) := ⟨_, hid rfl⟩
 rw [hr.out];unfold chkQ at hr
 obtain ⟨OK, hOK⟩ : ∃ b, Hid (okQ c q = b) := ⟨_, hid rfl⟩
 obtain ⟨CQ, hCQ⟩ : ∃ b, Hid (colsQ c q = b) := ⟨_, hid rfl⟩
 obtain ⟨CT, hCT⟩ : ∃ b, Hid (chkT CQ q.wh.l = b) := ⟨_, hid rfl⟩
 obtain ⟨N, hN⟩ : ∃ b, Hid (wdQ q = b) := ⟨_, hid rfl⟩
 obtain ⟨G, hG⟩ : ∃ b, Hid (gQ CQ q = b) := ⟨_, hid rfl⟩
 have hCT2 := chkT_two CQ q.wh.l
 have hCl : CQ.length ≤ 2000000 := by rw [← hCQ.out]; exact colsQ_len h8 q
 rw [hOK.out, hCQ.out, hCT.out, ansM_eq, hN.out, hG.out] at hr;rw [hCT.out] at hCT2;obtain ⟨wc, hwc, kc, zc, bc⟩ := boxC c w;obtain ⟨qc, hqc⟩ : ∃ x, w.heap.size = x := ⟨_, rfl⟩
 rw [hqc] at bc zc;obtain ⟨w1, hw1, k1, b1⟩ : ∃ x, wc.alloc (.cells q.cs.toArray 31) = x ∧ Kp [] wc x ∧ Bn x wc.heap.size q.cs := ⟨_, rfl, (Kp.refl _ _).alloc _, Bn.new wc _ _⟩
 obtain ⟨q2, hq2⟩ : ∃ x, wc.heap.size = x := ⟨_, rfl⟩
 rw [hq2] at b1 zc;have kw := kc.trans k1 (by simp)
 have K1 := hid kw
 have bc1 := bc.kept k1
 have a0 := bc1.get 0 _ rfl; have a1 := bc1.get 1 _ rfl; have a2 := bc1.get 2 _ rfl; have a3 := bc1.get 3 _ rfl; have a4 := bc1.get 4 _ rfl
 have cT := rTables c q w1 (hc.kept kw) h8
 rw [hOK.out] at cT;have cT' := hid cT
 have HC : Hid (∀ W, Kp [] w W → c.ok W) := hid fun W k => hc.kept k
 have HQ : Hid (∀ W, Kp [] w W → q.ok W) := hid fun W k => hq.kept k
 have H8 := hid h8
 have HBC := hid bc1
 have HB := hid b1
 unfold okQ jnQ at hOK
 unfold colsQ at hCQ
 unfold orM at hr
 rw [hN.out] at hr;unfold wdQ at hN
 unfold gQ at hG
 obtain ⟨tb, jn, rt, lo, ro, ⟨wa, wc_, wl⟩, ⟨ca, cc, cl⟩, gr, ⟨ya, yc, yl⟩, ⟨ga, gc, gl⟩, ⟨oa, oc, ol⟩, lim⟩ := q;simp only [Qy.cs, Sl.v, Cg.v] at hw1 b1 HB cT' ⊢;dsimp only at hr hOK hCQ hN hG hCT;have bx := b1
 have s0 := bx.get 0 _ rfl; have s1 := bx.get 1 _ rfl; have s2 := bx.get 2 _ rfl; have s3 := bx.get 3 _ rfl; have s4 := bx.get 4 _ rfl; have s5 := bx.get 5 _ rfl; have s6 := bx.get 6 _ rfl; have s7 := bx.get 7 _ rfl; have s8 := bx.get 8 _ rfl; have s9 := bx.get 9 _ rfl; have s10 := bx.get 10 _ rfl; have s11 := bx.get 11 _ rfl
 clear hc kc k1 bc b1 bc1 kw h8 hq zc bx cT;go_enter Tryz.func11, Tryz.ntmps11
 go_wp2_with fail;refine cT'.out.mono ?_;rintro e w2 ⟨rfl, k2⟩;have K2 := hid (K1.out.trans k2 (by simp))
 have KB2 := hid k2
 clear cT' k2 a0 a1 a2 a3 a4 s0 s1 s2 s3 s4 s5 s6 s7 s8 s9 s10 s11
 cases OK with
 | false =>
  have hr2 : Hid (r = 160) := hid (by rw [← hr.out, if_neg (fun h => by cases h.1)])
  go_wp2_with fail;go_ret;rw [hr2.out];exact ⟨rfl, K2.out⟩
 | true =>
  have hwi : wi tb c.tl.length = true := by
   have h := hOK.out
   rw [Bool.and_eq_true] at h;exact h.1
  obtain ⟨n, g, o, x, hn, hnl, hta, c1, hx, hxc, hxm⟩ := tbGet (HC.out w2 K2.out) hwi;have hx8 := H8.out x hxm
  obtain ⟨xn, xa', xc', xl'⟩ := x;dsimp only at c1 hx hxc hx8;have bx := HB.out.kept KB2.out
  have s0 := bx.get 0 _ rfl; have s1 := bx.get 1 _ rfl
  have bc2 := HBC.out.kept KB2.out
  have a3 := bc2.get 3 _ rfl
  rw [hta] at a3;obtain ⟨X1, hX1⟩ : ∃ X1, w2.alloc (.cells #[] 104) = X1 := ⟨_, rfl⟩
  have kX1 : Kp [] w2 X1 := by rw [← hX1]; exact (Kp.refl _ _).alloc _
  have hr0 : ColE.Row X1 (.slice (some ⟨w2.heap.size, 0, none⟩) 0 0) [] := by
   refine .inr ⟨w2.heap.size, 0, 0, rfl, Nat.le_refl _, Nat.zero_le _, by rw [← hX1]; simp, fun j u hu => by simp [El.cs] at hu, fun j hj => by omega⟩
  obtain ⟨a5, c5, X2, hrun1, hrow5, kk5, hn5⟩ := appVYC (l := []) hr0 xa' xc' xl' (colSeeB (hxc.kept kX1)) (by simp; omega)
  rw [List.nil_append] at hrun1 hrow5;have hb1 : blk (some (⟨w2.heap.size, 0, none⟩ : Addr)) = [w2.heap.size] := rfl
  have kX2 : Kp [] w2 X2 := kX1.trans kk5 (fun q hq => .inr (by rw [hb1] at hq; simp at hq; omega))
  have hn5' : ∀ q ∈ blk a5, w2.heap.size ≤ q := fun q hq => by
   rcases hn5 q hq with h | h
   ·rw [hb1] at h; simp at h; omega
   ·have := kX1.size; omega
  simp only [List.length_nil] at hrun1;have i1 : (0 : Int) ≤ (n : Int) := by omega
  have i2 : (n : Int) < (c.tl.length : Int) := by omega
  have KX2 := hid kX2
  have R5 := hid (And.intro hrow5 hn5')
  have hx' := hid hx
  have hta' := hid hta
  have hxl8 := hid hx8
  have s1' := kpAt kX2 s1
  have s0' := kpAt kX1 s0
  have a3' := kpAt kX1 a3
  have c1' := kpAt kX1 c1
  clear s0 s1 a3 c1;clear hn5 kk5 hr0 kX1 kX2 hrow5 hn5' hxc hxm hx hx8 bx bc2;simp only [hta'.out] at hwc ⊢;subst hn;go_upto_if 29 with (first | (refine wpAppRunY rfl _ _ 75 75 rfl _ _ _ rfl rfl hrun1 ?_) | fail)
  have hCol2 : Hid (Cols X2 a5 xl') := hid (by
   obtain ⟨_, _, e8, see8, _⟩ := R5.out.1.see;rw [← (Value.slice.inj e8).1] at see8;exact colSee see8)
  go_cut [6] from 30 to 39 (fun v6 wx => ∃ ra rc, v6 = .slice ra CQ.length rc ∧ Hid (Cols wx ra CQ) ∧ Hid (Kp [] w2 wx))
  case first =>
   cases jn with
   | false =>
    have hC1 : Hid (xl' = CQ) := hid (by rw [← hx'.out, ← hCQ.out, if_neg (by simp)])
    go_wp2_with fail;go_meet
    case rel => exact ⟨a5, c5, by rw [← hC1.out], by rw [← hC1.out]; exact hCol2, KX2⟩
   | true =>
    have hw2 : wi rt c.tl.length = true := by
     have h := hOK.out
     rw [Bool.and_eq_true, if_pos rfl, Bool.and_eq_true] at h;exact h.2.1
    obtain ⟨n2, g2, o2, y, hn2, hnl2, hta2, c2, hy, hyc, hym⟩ := tbGet (HC.out X2 (K2.out.trans KX2.out (by simp))) hw2
    have hy8 := H8.out y hym
    obtain ⟨yn, ya2, yc2, yl2⟩ := y;dsimp only at c2 hy hyc hy8;rw [hta'.out] at hta2
    cases hta2
    have hx8 := hxl8.out
    obtain ⟨a6, c6, X3, hrun2, hrow6, kk6, hn6⟩ := appVYC R5.out.1 ya2 yc2 yl2 (colSeeB hyc) (by omega)
    have kX3 : Kp [] w2 X3 := KX2.out.trans kk6 (fun q hq => .inr (R5.out.2 q hq))
    have hC1 : xl' ++ yl2 = CQ := by rw [← hx'.out, ← hy, ← hCQ.out, if_pos rfl]
    rw [hC1] at hrun2 hrow6;have hrow' := hid hrow6
    have KX3 := hid kX3
    have bx := HB.out.kept (KB2.out.trans KX2.out (by simp))
    have s2' := bx.get 2 _ rfl
    have bc2 := HBC.out.kept (KB2.out.trans KX2.out (by simp))
    have a3'' := bc2.get 3 _ rfl
    rw [hta'.out] at a3'';have j1 : (0 : Int) ≤ (n2 : Int) := by omega
    have j2 : (n2 : Int) < (c.tl.length : Int) := by omega
    clear hy hyc hym kk6 hn6 hrow6 kX3 bx bc2 hx8 hw2;subst hn2;go_wp2_with (first | (refine wpAppRunY rfl _ _ 75 75 rfl _ _ _ rfl rfl hrun2 ?_) | fail)
    go_meet
    case rel =>
     obtain ⟨_, _, e8, see8, _⟩ := hrow'.out.see;rw [← (Value.slice.inj e8).1] at see8;exact ⟨a6, c6, rfl, hid (colSee see8), KX3⟩
  case rest =>
   obtain ⟨ra, rc, rfl, hcol, KX⟩ := hcut;obtain ⟨w3, hw3⟩ : ∃ x, x = wc := ⟨wc, rfl⟩
   subst hw3;clear hrun1 s0' s1' a3' c1' hCol2 R5;have hq3 := HQ.out w3 (K2.out.trans KX.out (by simp))
   have f1 := hq3.wh.few; have f2 := hq3.cl.few; have f3 := hq3.by_.few; have f4 := hq3.ag.few; have f5 := hq3.od.few
   dsimp only at f1 f2 f3 f4 f5;have cX := rCheckX ra rc CQ wa wc_ wl w3 hcol.out hq3.wh.see (by omega) (by omega)
   rw [hCT.out] at cX;have cX' := hid cX
   have bx := HB.out.kept (KB2.out.trans KX.out (by simp))
   have HB3 := hid bx
   have s5 := bx.get 5 _ rfl
   clear cX bx hq3;go_wp2_with fail;refine cX'.out.mono ?_;rintro e w4 ⟨rfl, k4⟩;have K4 := hid ((K2.out.trans KX.out (by simp)).trans k4 (by simp))
   have HB4 := hid (HB3.out.kept k4)
   have hcol4 := hid (hcol.out.kept k4)
   have bx := HB3.out.kept k4
   clear cX' k4 s5;have s6 := bx.get 6 _ rfl; have s7 := bx.get 7 _ rfl; have s8 := bx.get 8 _ rfl; have s9 := bx.get 9 _ rfl
   clear bx
   by_cases c0 : CT = 0
   ·subst c0
    clear hCT2;have hq4 := HQ.out w4 K4.out
    have cB1 := rBelow ya yc yl CQ.length w4 hq4.by_.see (by omega)
    have cB2 := rBelow ca cc cl CQ.length w4 hq4.cl.see (by omega)
    obtain ⟨v2, hv2⟩ : ∃ v, Hid (plMQ CQ.length yl = v) := ⟨_, hid rfl⟩
    obtain ⟨v3, hv3⟩ : ∃ v, Hid (plMQ CQ.length cl = v) := ⟨_, hid rfl⟩
    rw [hv2.out] at cB1;rw [hv3.out] at cB2;have cB1' := hid cB1
    have cB2' := hid cB2
    have HAg := hid hq4.ag.see
    clear cB1 cB2 hq4;rw [hv2.out, hv3.out] at hG;go_upto_if 48 with fail
    go_cut [5, 7] from 49 to 138 (fun v5 v7 wx => v5 = .bool G ∧ v7 = .int .i64 (N : Int) ∧ Hid (Kp [] w4 wx))
    case first =>
     cases gr with
     | true =>
      obtain ⟨v1, hv1⟩ : ∃ v, Hid ((cl.length == 0) = v) := ⟨_, hid rfl⟩
      have hG1 := hG.out
      rw [if_pos rfl, hv1.out] at hG1;have hG2 := hid hG1
      obtain ⟨N2, hN2⟩ : ∃ z : Nat, yl.length + gl.length = z := ⟨_, rfl⟩
      have hN3 : Hid (N2 = N) := hid (by rw [← hN.out, if_pos rfl, hN2])
      have eN : (yl.length : Int) + (gl.length : Int) = (N2 : Int) := by omega
      have eN2 : IntKind.i64.wrap (N2 : Int) = (N2 : Int) := by rw [IntKind.wrap_i64]; omega
      have ev : ((cl.length : Int) == 0) = v1 := by rw [← hv1.out, Bool.eq_iff_iff]; simp
      clear hG hG1 hN hN2;go_wp2_with fail;refine cB1'.out.mono ?_;rintro e w5 ⟨rfl, k5⟩;have K5 := hid k5
      have HB5 := hid (HB4.out.kept k5)
      have HAg5 := hid (ckSee (CK.ofKp k5) HAg.out (by simp))
      have hcol5 := hid (hcol4.out.kept k5)
      clear cB1' cB2' k5 s6 s7 s8 s9 eN eN2 ev;go_upto_region 14 with fail
      go_cut [5] from 65 to 69 (fun v wx => v = .bool (v1 && v2) ∧ wx = w5)
      case first =>
       cases v1 with
       | true => go_wp2_with fail; go_meet; case rel => exact ⟨by simp, rfl⟩
       | false => go_wp2_with fail; go_meet; case rel => exact ⟨by simp, rfl⟩
      case rest =>
       obtain ⟨rfl, rfl⟩ := hcut
       have K0 := hid (Kp.refl [] wc)
       go_wp2_with fail;go_loopw [9] (fun v9 wr => ∃ j : Nat, j ≤ gl.length ∧ v9 = .int .i64 (j : Int) ∧ Hid ((gl.take j).all (agM CQ) = true) ∧ Hid (Kp [] wc wr)) (fun v9 _ => gl.length - (intOf v9).toNat)
       case atStart => exact ⟨0, Nat.zero_le _, rfl, hid rfl, K0⟩
       case round =>
        obtain ⟨j, hj, rfl, hall, hk⟩ := hrel;clear K0;have bx := HB5.out.kept hk.out
        have s9 := bx.get 9 _ rfl
        clear bx
        by_cases hlt : j < gl.length
        ·obtain ⟨g3, o3, eg, d0, d1⟩ := agAt (ckSee (CK.ofKp hk.out) HAg5.out (by simp)) j hlt
         have hsn := hid (all_take_snoc (f := agM CQ) hlt)
         have hno := hid (fun h => all_no (f := agM CQ) hlt h)
         generalize gl[j] = z at *
         obtain ⟨x, y⟩ := z;dsimp only at d0 d1;obtain ⟨W1, hW1, kW1, bW1⟩ : ∃ z, wr.alloc (.cells #[.int .i64 0, .int .i64 0] 102) = z ∧ Kp [] wr z ∧ Bn z wr.heap.size [.int .i64 0, .int .i64 0] := ⟨_, rfl, (Kp.refl _ _).alloc _, Bn.new wr _ _⟩
         obtain ⟨q3, hq3⟩ : ∃ z, wr.heap.size = z := ⟨_, rfl⟩
         rw [hq3] at bW1;obtain ⟨W2, hW2⟩ : ∃ z, (W1.setCell ⟨q3, 0, none⟩ (.int .i64 x)).setCell ⟨q3, 1, none⟩ (.int .i64 y) = z := ⟨_, rfl⟩
         have bW2 : Bn W2 q3 [.int .i64 x, .int .i64 y] := by rw [← hW2]; exact (bW1.set 0 (by simp) (.int .i64 x)).set 1 (by simp) (.int .i64 y)
         have kW2 : Kp [] wr W2 := by
          rw [← hW2];have hh : q3 ∈ ([] : List Nat) ∨ wr.heap.size ≤ q3 := .inr (by omega)
          exact (kW1.setCell hh _).setCell hh _
         have m0 := bW1.get 0 _ rfl; have m1 := bW1.get 1 _ rfl; have z0 := bW1.free 0; have z1 := bW1.free 1
         have p0 := bW2.get 0 _ rfl; have p1 := bW2.get 1 _ rfl
         have KW2 := hid (hk.out.trans kW2 (by simp))
         have KF := hid (K4.out.trans (K5.out.trans KW2.out (by simp)) (by simp))
         have HCW := hid (hcol5.out.kept KW2.out)
         have i3 : (0 : Int) ≤ (j : Int) := by omega
         have i4 : (j : Int) < (gl.length : Int) := by omega
         have i5 : (j : Int) + 1 ≤ 9223372036854775807 := by omega
         have hGn : Hid (agM CQ (x, y) = false → r = 160) := hid (fun h => by
          have hG0 : G = false := by rw [← hG2.out, hno.out h]; simp
          rw [← hr.out, if_neg (fun h => by have := h.2.2.1; rw [hG0] at this; simp at this)])
         subst eg;clear bW1 bW2 kW1 kW2;go_upto_region 19 with fail
         go_cut [11] from 81 to 91 (fun v wx => v = .bool (wi y CQ.length) ∧ wx = W2)
         case first =>
          by_cases y0 : y ≥ 0
          ·have f0 : decide (y ≥ 0) = true := by simpa using y0
           by_cases y1 : y < (CQ.length : Int)
           ·have f1 : decide (y < (CQ.length : Int)) = true := by simpa using y1
            have hw := hid (wi_yes (x := y) (m := CQ.length) ⟨y0, y1⟩)
            clear y0 y1;go_wp2_with fail;go_meet
            case rel => exact ⟨by rw [hw.out], rfl⟩
           ·have f1 : decide (y < (CQ.length : Int)) = false := by simpa using y1
            have hw := hid (wi_no (x := y) (m := CQ.length) (fun h => y1 h.2))
            clear y0 y1;go_wp2_with fail;go_meet
            case rel => exact ⟨by rw [hw.out], rfl⟩
          ·have f0 : decide (y ≥ 0) = false := by simpa using y0
           have hw := hid (wi_no (x := y) (m := CQ.length) (fun h => y0 h.1))
           clear y0;go_wp2_with fail;go_meet
           case rel => exact ⟨by rw [hw.out], rfl⟩
         case rest =>
          obtain ⟨rfl, rfl⟩ := hcut;obtain ⟨tv, htv⟩ : ∃ b, Hid (wi y CQ.length = b) := ⟨_, hid rfl⟩
          rw [htv.out];clear m0 m1 z0 z1
          by_cases x0 : x < 0
          ·have e0 : decide (x < 0) = true := by simpa using x0
           have hr2 : Hid (r = 160) := hid (hGn.out (agM_out (.inl x0)))
           clear x0;go_wp2_with fail;go_ret;rw [hr2.out];exact ⟨rfl, KF.out⟩
          have e0 : decide (x < 0) = false := by simpa using x0
          by_cases x1 : x > 3
          ·have e1 : decide (x > 3) = true := by simpa using x1
           have hr2 : Hid (r = 160) := hid (hGn.out (agM_out (.inr x1)))
           clear x1 x0;go_wp2_with fail;go_ret;rw [hr2.out];exact ⟨rfl, KF.out⟩
          have e1 : decide (x > 3) = false := by simpa using x1
          by_cases x2 : x = 0
          ·subst x2
           have hr3 : Hid ((gl.take (j + 1)).all (agM CQ) = true) := hid (by rw [hsn.out, hall.out, agM_yes (by omega) (by omega) (.inl rfl)]; rfl)
           clear x0 x1 e0 e1;go_wp2_with fail;go_roundw
           case rel => exact ⟨j + 1, by omega, by go_num, hr3, KW2⟩
           case measure => simp [intOf]; omega
          have e2 : (x == 0) = false := by simpa using x2
          have e3 : (x != 0) = true := by simpa using x2
          cases tv with
          | false =>
           have hr2 : Hid (r = 160) := hid (hGn.out (agM_no x2 htv.out))
           clear x0 x1 x2;go_wp2_with fail;go_ret;rw [hr2.out];exact ⟨rfl, KF.out⟩
          | true =>
           by_cases x3 : x = 1
           ·subst x3
            obtain ⟨m, pp, qq, hm, hml, hra, ck⟩ := colK HCW.out y (wi_iff.1 htv.out);obtain ⟨kk, hkk⟩ : ∃ z, Hid ((CQ.getD y.toNat ⟨⟨#[]⟩, 0, false⟩).k = z) := ⟨_, hid rfl⟩
            rw [hkk.out] at ck;have h1 := hid (agM_one htv.out)
            have i6 : (0 : Int) ≤ (m : Int) := by omega
            have i7 : (m : Int) < (CQ.length : Int) := by omega
            clear x0 x1 x2 e0 e1 e2 e3
            by_cases h2 : kk = 2
            ·have hr3 : Hid ((gl.take (j + 1)).all (agM CQ) = true) := hid (by rw [hsn.out, hall.out, h1.out, hkk.out, h2]; rfl)
             subst h2;subst hm hra;go_wp2_with fail;go_roundw
             case rel => exact ⟨j + 1, by omega, by go_num, hr3, KW2⟩
             case measure => simp [intOf]; omega
            ·have f2 : (kk != 2) = true := by simpa using h2
             have hr2 : Hid (r = 160) := hid (hGn.out (by rw [h1.out, hkk.out]; simpa using h2))
             clear h2;subst hm hra;go_wp2_with fail;go_ret;rw [hr2.out];exact ⟨rfl, KF.out⟩
           ·have e4 : (x == 1) = false := by simpa using x3
            have hr3 : Hid ((gl.take (j + 1)).all (agM CQ) = true) := hid (by rw [hsn.out, hall.out, agM_yes (by omega) x3 (.inr htv.out)]; rfl)
            clear x0 x1 x2 x3;go_wp2_with fail;go_roundw
            case rel => exact ⟨j + 1, by omega, by go_num, hr3, KW2⟩
            case measure => simp [intOf]; omega
        ·have hal : Hid (gl.all (agM CQ) = true) := hid (by rw [← hall.out, show j = gl.length by omega, List.take_length])
         have hGe : Hid ((v1 && v2) = G) := hid (by rw [← hG2.out, hal.out, Bool.and_true])
         have dj1 : ¬ (j : Int) < (gl.length : Int) := by omega
         have dj2 : decide ((j : Int) < (gl.length : Int)) = false := by simp; omega
         go_wp2_with fail;go_meet
         case rel => exact ⟨by rw [hGe.out], by rw [hN3.out], hid (K5.out.trans hk.out (by simp))⟩
     | false =>
      have hG1 := hG.out
      rw [if_neg (by simp)] at hG1
      have hN3 : Hid (cl.length = N) := hid (by rw [← hN.out, if_neg (by simp)])
      have hG2 := hid hG1
      clear hG hG1 hN;go_wp2_with fail;refine cB2'.out.mono ?_;rintro e w5 ⟨rfl, k5⟩;have K5 := hid k5
      have bx := HB4.out.kept k5
      clear cB1' cB2' k5 s6 s7 s8 s9;have s8 := bx.get 8 _ rfl; have s9 := bx.get 9 _ rfl
      clear bx
      by_cases y0 : yl.length = 0
      ·have d0 : ((yl.length : Int) == 0) = true := by simp [y0]
       by_cases g0 : gl.length = 0
       ·have d1 : ((gl.length : Int) == 0) = true := by simp [g0]
        have hGe : Hid (v3 = G) := hid (by rw [← hG2.out]; simp [y0, g0])
        clear y0 g0;go_wp2_with fail;go_meet
        case rel => exact ⟨by rw [hGe.out], by rw [hN3.out], K5⟩
       ·have d1 : ((gl.length : Int) == 0) = false := by simpa using g0
        have hGe : Hid (false = G) := hid (by rw [← hG2.out]; simp [y0, g0])
        clear y0 g0;go_wp2_with fail;go_meet
        case rel => exact ⟨by rw [hGe.out], by rw [hN3.out], K5⟩
      ·have d0 : ((yl.length : Int) == 0) = false := by simpa using y0
       have hGe : Hid (false = G) := hid (by rw [← hG2.out]; simp [y0])
       clear y0;go_wp2_with fail;go_meet
       case rel => exact ⟨by rw [hGe.out], by rw [hN3.out], K5⟩
    case rest =>
     obtain ⟨rfl, rfl, KR⟩ := hcut;obtain ⟨w5, hw5⟩ : ∃ x, x = wc := ⟨wc, rfl⟩
     subst hw5;have KF := hid (K4.out.trans KR.out (by simp))
     have bx := HB4.out.kept KR.out
     have HB5 := hid bx
     have s10 := bx.get 10 _ rfl; have s11 := bx.get 11 _ rfl
     clear bx s6 s7 s8 s9 cB1' cB2';have hOd := hid (HQ.out w5 KF.out).od.see
     dsimp only at hOd
     cases G with
     | false =>
      have hr2 : Hid (r = 160) := hid (by rw [← hr.out, if_neg (fun h => by have := h.2.2.1; simp at this)])
      go_wp2_with fail;go_ret;rw [hr2.out];exact ⟨rfl, KF.out⟩
     | true =>
      by_cases n0 : N = 0
      ·have e0 : ((N : Int) == 0) = true := by simp [n0]
       have hr2 : Hid (r = 160) := hid (by rw [← hr.out, if_neg (fun h => by have := h.2.2.1; rw [if_pos (.inl n0)] at this; cases this)])
       clear n0;go_wp2_with fail;go_ret;rw [hr2.out];exact ⟨rfl, KF.out⟩
      have e0 : ((N : Int) == 0) = false := by simpa using n0
      by_cases n1 : 16 < N
      ·have e1 : decide ((N : Int) > 16) = true := by simp; omega
       have hr2 : Hid (r = 160) := hid (by rw [← hr.out, if_neg (fun h => by have := h.2.2.1; rw [if_pos (.inr n1)] at this; cases this)])
       clear n0 n1;go_wp2_with fail;go_ret;rw [hr2.out];exact ⟨rfl, KF.out⟩
      have e1 : decide ((N : Int) > 16) = false := by simp; omega
      by_cases n2 : 8 < ol.length
      ·have e2 : decide ((ol.length : Int) > 8) = true := by simp; omega
       have hr2 : Hid (r = 160) := hid (by rw [← hr.out, if_neg (fun h => by have := h.2.2.2.1; rw [if_pos n2] at this; cases this)])
       clear n0 n1 n2;go_wp2_with fail;go_ret;rw [hr2.out];exact ⟨rfl, KF.out⟩
      have e2 : decide ((ol.length : Int) > 8) = false := by simp; omega
      by_cases n3 : lim < 0
      ·have e3 : decide (lim < 0) = true := by simpa using n3
       have hr2 : Hid (r = 160) := hid (by rw [← hr.out, if_neg (fun h => by have := h.2.2.2.2; omega)])
       clear n0 n1 n2 n3;go_wp2_with fail;go_ret;rw [hr2.out];exact ⟨rfl, KF.out⟩
      have e3 : decide (lim < 0) = false := by simpa using n3
      have hrr : Hid ((if ol.all (fun o => wi o.1 N) = true then (0 : Int) else 160) = r) := hid (by
       rw [← hr.out, if_neg n2]
       by_cases h : ol.all (fun o => wi o.1 N) = true
       ·rw [if_pos h, if_pos ⟨by trivial, by trivial, by rw [if_neg (fun h => h.elim n0 n1)], h, by omega⟩]
       ·rw [if_neg h, if_neg (fun h2 => h h2.2.2.2.1)])
      have K0 := hid (Kp.refl [] w5)
      clear hr n0 n1 n2 n3;go_wp2_with fail;clear e0 e1 e2 e3 s10 s11;go_loopw [13] (fun v13 wr => ∃ j : Nat, j ≤ ol.length ∧ v13 = .int .i64 (j : Int) ∧ Hid ((ol.take j).all (fun o => wi o.1 N) = true) ∧ wr = w5) (fun v13 _ => ol.length - (intOf v13).toNat)
      case atStart => exact ⟨0, Nat.zero_le _, rfl, hid rfl, rfl⟩
      case round =>
       obtain ⟨j, hj, rfl, hall, rfl⟩ := hrel;clear K0;have s10 := HB5.out.get 10 _ rfl
       by_cases hlt : j < ol.length
       ·obtain ⟨g3, o3, eg, d0, d1⟩ := orAt hOd.out j hlt
        have hsn := hid (all_take_snoc (f := fun o : Int × Bool => wi o.1 N) hlt)
        have hno := hid (fun h => all_no (f := fun o : Int × Bool => wi o.1 N) hlt h)
        generalize ol[j] = z at *
        obtain ⟨x, y⟩ := z;dsimp only at d0 d1 hsn hno;have i3 : (0 : Int) ≤ (j : Int) := by omega
        have i4 : (j : Int) < (ol.length : Int) := by omega
        have i5 : (j : Int) + 1 ≤ 9223372036854775807 := by omega
        subst eg
        by_cases x0 : x < 0
        ·have e0 : decide (x < 0) = true := by simpa using x0
         have hr2 : Hid (r = 160) := hid (by rw [← hrr.out, if_neg (by rw [hno.out (wi_no (by omega))]; simp)])
         clear x0;go_wp2_with fail;go_ret;rw [hr2.out];exact ⟨rfl, KF.out⟩
        have e0 : decide (x < 0) = false := by simpa using x0
        by_cases x1 : x ≥ (N : Int)
        ·have e1 : decide (x ≥ (N : Int)) = true := by simpa using x1
         have hr2 : Hid (r = 160) := hid (by rw [← hrr.out, if_neg (by rw [hno.out (wi_no (by omega))]; simp)])
         clear x0 x1;go_wp2_with fail;go_ret;rw [hr2.out];exact ⟨rfl, KF.out⟩
        have e1 : decide (x ≥ (N : Int)) = false := by simpa using x1
        have hr3 : Hid ((ol.take (j + 1)).all (fun o => wi o.1 N) = true) := hid (by rw [hsn.out, hall.out, wi_yes (by omega)]; rfl)
        clear x0 x1;go_wp2_with fail;go_roundw
        case rel => exact ⟨j + 1, by omega, by go_num, hr3, trivial⟩
        case measure => simp [intOf]; omega
       ·have hr2 : Hid (r = 0) := hid (by rw [← hrr.out, if_pos (by rw [← hall.out, show j = ol.length by omega, List.take_length])])
        have dj1 : ¬ (j : Int) < (ol.length : Int) := by omega
        have dj2 : decide ((j : Int) < (ol.length : Int)) = false := by simp; omega
        go_wp2_with fail;go_ret;rw [hr2.out];exact ⟨rfl, KF.out⟩
   ·have h140 : CT = 140 := by rcases hCT2 with h | h; exact absurd h c0; exact h
    subst h140;clear hCT2;have hr2 : Hid (r = 160) := hid (by rw [← hr.out, if_neg (fun h => by have := h.2.1; omega)])
    go_wp2_with fail;go_ret;rw [hr2.out];exact ⟨rfl, K4.out⟩
end Go.Proofs.YtcgkkofmnajedaaGreatDoor
end

section
namespace Go.Proofs.YtcgkkofmnajedaaGreatDoor
open Go.RowKit Go.Hay
def pjAtC (c : Cg) (j : Nat) : Bool := match c.pl[j]? with
 | some p => pjM c p && !hasP (c.pl.take j) p.nm
 | none => true
def pjsTo (c : Cg) (j : Nat) : Bool := (List.range j).all (pjAtC c)
def pjsM (c : Cg) : Bool := decide (c.pl.length ≤ 8) && pjsTo c c.pl.length
theorem pjsTo_succ (c : Cg) (j : Nat) (h : j < c.pl.length) : pjsTo c (j + 1) = (pjsTo c j && (pjM c c.pl[j] && !hasP (c.pl.take j) c.pl[j].nm)) := by
 unfold pjsTo
 rw [List.range_succ, List.all_append];simp [pjAtC, h]
theorem pjsTo_mono (c : Cg) (j k : Nat) (h : j ≤ k) (hf : pjsTo c j = false) : pjsTo c k = false := by
 unfold pjsTo at hf ⊢
 rw [List.all_eq_false] at hf ⊢;obtain ⟨x, hx, hx2⟩ := hf;exact ⟨x, List.mem_range.2 (by have := List.mem_range.1 hx; omega), hx2⟩
def cvP (t : Int) (A : Nat) (p q : Pj) : Bool := (p.tb == t) && ((q.tb == t) && ((cbt p.cl ||| cbt q.cl) == A))
def cvIn (l : List Pj) (t : Int) (A : Nat) (i m : Nat) : Bool := (List.range m).any fun k => cvP t A (l.getD i default) (l.getD (i + k) default)
def cvTo (l : List Pj) (t : Int) (A : Nat) (j : Nat) : Bool := (List.range j).any fun i => cvIn l t A i (l.length - i)
theorem cv_true (l : List Pj) (t : Int) (A i m : Nat) (hi : i < l.length) (hm : i + m < l.length) (h : cvP t A (l.getD i default) (l.getD (i + m) default) = true) : cvTo l t A l.length = true := by
 unfold cvTo
 rw [List.any_eq_true];refine ⟨i, List.mem_range.2 hi, ?_⟩;unfold cvIn
 rw [List.any_eq_true];exact ⟨m, List.mem_range.2 (by omega), h⟩
def allB (t : Tb) : Nat := 2 ^ t.l.length - 1
def acTo (c : Cg) (j : Nat) : Bool := (List.range j).all fun (i : Nat) => cvTo c.pl i (allB (c.tl.getD i default)) c.pl.length
def acM (c : Cg) : Bool := acTo c c.tl.length
theorem acTo_succ (c : Cg) (j : Nat) (h : j < c.tl.length) : acTo c (j + 1) = (acTo c j && cvTo c.pl j (allB c.tl[j]) c.pl.length) := by
 unfold acTo
 rw [List.range_succ, List.all_append];simp [h]
theorem acTo_mono (c : Cg) (j k : Nat) (h : j ≤ k) (hf : acTo c j = false) : acTo c k = false := by
 unfold acTo at hf ⊢
 rw [List.all_eq_false] at hf ⊢;obtain ⟨x, hx, hx2⟩ := hf;exact ⟨x, List.mem_range.2 (by have := List.mem_range.1 hx; omega), hx2⟩
theorem boxCA (c : Cg) (P S : Int) (w : World) : ∃ W, (w.alloc (.cells #[.int .i64 c.n, .int .i64 c.s, .int .i64 c.k, .slice c.ta c.tl.length c.tc, .slice c.pa c.pl.length c.pc] 25)).alloc (.cells #[.int .i64 P, .int .i64 S] 82) = W ∧ Kp [] w W ∧ W.heap.size = w.heap.size + 2 ∧ Bn W w.heap.size [.int .i64 c.n, .int .i64 c.s, .int .i64 c.k, .slice c.ta c.tl.length c.tc, .slice c.pa c.pl.length c.pc] ∧ Bn W (w.heap.size + 1) [.int .i64 P, .int .i64 S] := by
 refine ⟨_, rfl, ((Kp.refl _ _).alloc _).alloc _, by simp, ?_, ?_⟩
 ·exact (Bn.new w [.int .i64 c.n, .int .i64 c.s, .int .i64 c.k, .slice c.ta c.tl.length c.tc, .slice c.pa c.pl.length c.pc] 25).kept ((Kp.refl _ _).alloc _)
 ·have h := Bn.new (w.alloc (.cells #[.int .i64 c.n, .int .i64 c.s, .int .i64 c.k, .slice c.ta c.tl.length c.tc, .slice c.pa c.pl.length c.pc] 25)) [.int .i64 P, .int .i64 S] 82
  rw [World.size_alloc] at h;exact h
def liesC (c : Cg) (P S : Int) : Bool := wi P (c.pl.length : Int) && wi S c.s
theorem infI {P : Program} {t : TypeId} {z : Value} {n b : Nat} (h : ((P.info? t).map fun i => (i.zero, i.size, i.bytes)) = some (some z, n, b)) : ∃ i : TypeInfo, P.info? t = some i ∧ i.zero = some z ∧ i.size = n ∧ i.bytes = b := by
 cases hi : P.info? t with
 | none => rw [hi] at h; cases h
 | some i =>
  rw [hi] at h;simp at h
  exact ⟨i, rfl, h.1, h.2.1, h.2.2⟩
theorem infoI : ∃ i : TypeInfo, Tryz.prog.info? 3 = some i ∧ i.zero = some (.int .i64 0) ∧ i.size = 1 ∧ i.bytes = 8 := infI (by kernel_rfl)
def ring (F n : Int) (m : Nat) : List Int := (List.range m).map fun (j : Nat) => (F + j) % n
theorem ring_length (F n : Int) (m : Nat) : (ring F n m).length = m := by simp [ring]
theorem ring_succ (F n : Int) (j : Nat) : ring F n (j + 1) = ring F n j ++ [(F + j) % n] := by
 unfold ring
 rw [List.range_succ, List.map_append];rfl
def ndsC (c : Cg) (P S : Int) : List Int := if liesC c P S = true then ring (S + (c.pl.getD P.toNat default).sh) c.n (c.k.toNat + 1) else []
theorem ndsC_len (c : Cg) (P S : Int) : (ndsC c P S).length ≤ c.k.toNat + 1 := by
 unfold ndsC
 split
 ·rw [ring_length]; omega
 ·simp
end Go.Proofs.YtcgkkofmnajedaaGreatDoor
end

section
namespace Go.Proofs.YtcgkkofmnajedaaGreatDoor
open Go.RowKit Go.Hay
attribute [local go_sem] Oper.semAt_some
def KeepC (G : Addr → Prop) (A B : World) : Prop := A.heap.size ≤ B.heap.size ∧ ∀ a v, G a → A.cell? a = some v → B.cell? a = some v
theorem KeepC.refl (G : Addr → Prop) (A : World) : KeepC G A A := ⟨Nat.le_refl _, fun _ _ _ h => h⟩
theorem KeepC.trans {G : Addr → Prop} {A B C : World} (h : KeepC G A B) (k : KeepC G B C) : KeepC G A C := ⟨Nat.le_trans h.1 k.1, fun a v g hc => k.2 a v g (h.2 a v g hc)⟩
theorem KeepC.ofKp {G : Addr → Prop} {S : List Nat} {A B : World} (hk : Kp S A B) (hS : ∀ a, G a → a.block ∉ S) : KeepC G A B := ⟨hk.size, fun a v g hc => (hk.cell (World.block_lt_of_cell? _ _ hc) (hS a g)).trans hc⟩
theorem KeepC.alloc (G : Addr → Prop) (W : World) (o : Obj) : KeepC G W (W.alloc o) := KeepC.ofKp (S := []) ((Kp.refl _ _).alloc _) (by simp)
theorem KeepC.putObj (G : Addr → Prop) (W : World) (l : Nat) (o o' : Obj) (ho : W.heap[l]? = some o) (hc : o.isCells = false) : KeepC G W (W.putObj l o') :=
 ⟨by simp, fun a v _ hv => by
  have hne : a.block ≠ l := fun e => by
   unfold World.cell? at hv
   rw [e, ho] at hv
   cases o <;> simp_all [Obj.isCells]
  exact (World.cell?_of_block (World.putObj_heap_other (by simpa using hne))).trans hv⟩
end Go.Proofs.YtcgkkofmnajedaaGreatDoor
end

section
namespace Go.Proofs.YtcgkkofmnajedaaGreatDoor
open Go.RowKit Go.Hay
end Go.Proofs.YtcgkkofmnajedaaGreatDoor
end

section
namespace Go.Hay
open Go.RowKit
variable {F : Fence} {n : Nat} {P : Program} {σ α : Type}
variable {F : Fence} {n : Nat} {P : Program} {σ α : Type}
end Go.Hay
end

section
namespace Go.Proofs.YtcgkkofmnajedaaGreatDoor
open Go.RowKit Go.Hay
attribute [local go_sem] Oper.semAt_some
def SgE : El (Nat × Nat) where
 n := 2
 c x := [.int .i64 (x.1 : Int), .int .i64 (x.2 : Int)]
 len _ := rfl
 one _ u hu := by simp at hu; rcases hu with rfl | rfl <;> rfl
 pos := by decide
theorem infoSg : ∃ i : TypeInfo, Tryz.prog.info? 82 = some i ∧ i.zero = some (.agg #[.int .i64 0, .int .i64 0]) ∧ i.size = 2 ∧ i.bytes = 16 := infI (by kernel_rfl)
def ofTo (c : Cg) (M : Nat) (node : Int) (s : Nat) : List (Nat × Nat) := ((List.range s).map fun k => (k / M, k % M)).filter fun x => decide (node ∈ ndsC c x.1 x.2)
theorem ofTo_succ (c : Cg) (M : Nat) (node : Int) (s : Nat) (x : Nat × Nat) (h : x.1 * M + x.2 = s) (hx : x.2 < M) : ofTo c M node (s + 1) = ofTo c M node s ++ (if node ∈ ndsC c x.1 x.2 then [x] else []) := by
 unfold ofTo
 rw [List.range_succ, List.map_append, List.filter_append];have e1 : s / M = x.1 := by rw [← h, Nat.add_comm, Nat.add_mul_div_right _ _ (by omega), Nat.div_eq_of_lt hx]; omega
 have e2 : s % M = x.2 := by rw [← h, Nat.add_comm, Nat.add_mul_mod_self_right, Nat.mod_eq_of_lt hx]
 have e3 : (s / M, s % M) = x := by rw [e1, e2]
 simp only [List.map_cons, List.map_nil, e3, List.filter_cons, List.filter_nil]
 by_cases hm : node ∈ ndsC c x.1 x.2
 ·simp [hm]
 ·simp [hm]
theorem ofTo_len (c : Cg) (M : Nat) (node : Int) (s : Nat) : (ofTo c M node s).length ≤ s := by
 unfold ofTo
 refine Nat.le_trans (List.length_filter_le _ _) ?_;simp
def OfP (l : List (Nat × Nat)) (w : World) (e : Ending) (w' : World) : Prop := ∃ (a : Option Addr) (cp : Nat), e = .returned (.slice a l.length cp) ∧ SgE.See w' a l ∧ l.length ≤ cp ∧ Kp [] w w'
def ofC (c : Cg) (M : Nat) (node : Int) : List (Nat × Nat) := ofTo c M node (c.pl.length * M)
theorem ownSl (a : Option Addr) (n c : Nat) : own (.slice a n c) = blk a := by cases a <;> simp [own, blk, Value.ownBlock]
end Go.Proofs.YtcgkkofmnajedaaGreatDoor
end

section
namespace Go.Proofs.YtcgkkofmnajedaaGreatDoor
open Go.RowKit Go.Hay
def auTo (c : Cg) (M : Nat) (j : Nat) : Bool := (List.range j).all fun (i : Nat) => !(ofC c M (i : Int)).isEmpty
theorem auTo_succ (c : Cg) (M j : Nat) : auTo c M (j + 1) = (auTo c M j && !(ofC c M (j : Int)).isEmpty) := by
 unfold auTo
 rw [List.range_succ, List.all_append];simp
theorem auTo_mono (c : Cg) (M j k : Nat) (h : j ≤ k) (hf : auTo c M j = false) : auTo c M k = false := by
 unfold auTo at hf ⊢
 rw [List.all_eq_false] at hf ⊢;obtain ⟨x, hx, hx2⟩ := hf;exact ⟨x, List.mem_range.2 (by have := List.mem_range.1 hx; omega), hx2⟩
theorem pjsM_all {c : Cg} (h : pjsM c = true) : c.pl.length ≤ 8 ∧ ∀ p ∈ c.pl, pjM c p = true := by
 unfold pjsM pjsTo at h
 simp only [Bool.and_eq_true, decide_eq_true_eq, List.all_eq_true, List.mem_range] at h;refine ⟨h.1, fun p hp => ?_⟩
 obtain ⟨i, hi, rfl⟩ := List.getElem_of_mem hp;have := h.2 i hi
 unfold pjAtC at this
 simp [hi] at this
 exact this.1
theorem pjM_parts {c : Cg} {p : Pj} (h : pjM c p = true) : wi p.tb (c.tl.length : Int) = true ∧ wi p.sh c.n = true ∧ plM p.cl (manyC c p) = true := by
 unfold pjM at h
 simp only [Bool.and_eq_true] at h;exact ⟨h.2.1, h.2.2.1, h.2.2.2.2.1⟩
theorem plM_mem {l : List Int} {m : Int} (h : plM l m = true) : ∀ y ∈ l, 0 ≤ y ∧ y < m := fun y hy => by
 unfold plM plTo at h
 simp only [List.all_eq_true, List.mem_range] at h;obtain ⟨i, hi, rfl⟩ := List.getElem_of_mem hy;have h1 := h i hi
 simp only [Bool.and_eq_true] at h1;have h2 := h1.1
 unfold wi at h2
 simp [hi] at h2
 exact h2
theorem tabsM_all {l : List Tb} (h : tabsM l = true) : ∀ t ∈ l, t.l.length ≤ 8 := fun t ht => by
 unfold tabsM tabTo at h
 simp only [Bool.and_eq_true, decide_eq_true_eq, List.all_eq_true, List.mem_range] at h;obtain ⟨i, hi, rfl⟩ := List.getElem_of_mem ht;have h1 := h.2.2 i hi
 unfold tabAt at h1
 simp [hi] at h1
 have h2 := h1.1
 unfold tableV at h2
 split at h2
 ·rename_i h3
  simp only [Bool.and_eq_true, decide_eq_true_eq] at h3;exact h3.2.2.1
 ·cases h2
def chkC (c : Cg) : Int := if cntd c = false then 133 else if tabsM c.tl = false then 130 else if pjsM c = false then 131 else if acM c = false then 132 else if auTo c c.s.toNat c.n.toNat = false then 133 else 0
theorem memTake (l : List Int) (x : Int) (j : Nat) (h : j < l.length) : decide (x ∈ l.take (j + 1)) = (decide (x ∈ l.take j) || (l[j] == x)) := by
 have h1 : (x ∈ l.take (j + 1)) ↔ (x ∈ l.take j ∨ x = l[j]) := by rw [List.take_succ_eq_append_getElem h, List.mem_append, List.mem_singleton]
 rw [decide_eq_decide.2 h1, Bool.decide_or];congr 1
 rw [Bool.eq_iff_iff, decide_eq_true_iff, beq_iff_eq];exact ⟨Eq.symm, Eq.symm⟩
theorem rIn (a : Option Addr) (c : Nat) (l : List Int) (x : Int) (w : World) (hs : IntE.See w a l) (hl : l.length ≤ 9223372036854775807) :
  Calls Tryz.prog 71 #[.slice a l.length c, .int .i64 x] w fun e w' => e = .returned (.bool (decide (x ∈ l))) ∧ Kp [] w w' := by
 obtain ⟨r, hr⟩ : ∃ r, Hid (decide (x ∈ l) = r) := ⟨_, hid rfl⟩
 rw [hr.out];have hs' := hid hs
 clear hs;go_enter Tryz.func71, Tryz.ntmps71
 go_wp2_with fail;go_loopw [5] (fun i wr => ∃ j : Nat, j ≤ l.length ∧ i = .int .i64 j ∧ Hid (decide (x ∈ l.take j) = false) ∧ Kp [] w wr) (fun i _ => l.length - (intOf i).toNat)
 case atStart => exact ⟨0, Nat.zero_le _, rfl, hid (by simp), Kp.refl _ _⟩
 case round =>
  obtain ⟨j, hj, rfl, hst, kr⟩ := hrel
  by_cases hjl : j < l.length
  ·obtain ⟨g, o, rfl, c0⟩ := intAt (hs'.out.keptNew kr) j hjl
   have hmt := hid (memTake l x j hjl)
   have hmm : Hid (l[j] ∈ l) := List.getElem_mem hjl
   have i1 : (0 : Int) ≤ (j : Int) := by omega
   have i2 : (j : Int) < (l.length : Int) := by omega
   have i3 : (j : Int) + 1 ≤ 9223372036854775807 := by omega
   rw [hst.out] at hmt;generalize l[j] = y at *
   by_cases he : y = x
   ·have d1 : (y == x) = true := by simpa using he
    have hR : Hid (r = true) := by show _ = _; rw [← hr.out]; subst he; simpa using hmm.out
    clear he hmt;go_wp2_with fail;go_ret;exact ⟨by rw [hR.out]; rfl, kr⟩
   ·have d1 : (y == x) = false := by simpa using he
    have hm2 : Hid (decide (x ∈ l.take (j + 1)) = false) := by show _ = _; rw [hmt.out, d1]; rfl
    clear he hmt;go_wp2_with fail;exact ⟨⟨j + 1, by omega, by go_num, hm2, kr⟩, by simp [intOf]; omega⟩
  ·have e : j = l.length := by omega
   subst e;have hR : Hid (r = false) := by show _ = _; rw [← hr.out]; have := hst.out; rw [List.take_length] at this; exact this
   go_wp2_with fail;go_ret;exact ⟨by rw [hR.out]; rfl, kr⟩
theorem rPlaces (a : Option Addr) (c : Nat) (l : List Int) (m : Int) (w : World) (hs : IntE.See w a l) (hl : l.length ≤ c) (hc : c ≤ 9223372036854775807) :
  Calls Tryz.prog 70 #[.slice a l.length c, .int .i64 m] w fun e w' => e = .returned (.bool (plM l m)) ∧ Kp [] w w' := by
 obtain ⟨r, hr⟩ : ∃ r, Hid (plM l m = r) := ⟨_, hid rfl⟩
 rw [hr.out];have hs' := hid hs
 clear hs;go_enter Tryz.func70, Tryz.ntmps70
 go_wp2_with fail;go_loopw [5, 6] (fun i _ wr => ∃ j : Nat, j ≤ l.length ∧ i = .int .i64 j ∧ Hid (plTo l m j = true) ∧ Kp [] w wr) (fun i _ _ => l.length - (intOf i).toNat)
 case atStart => exact ⟨0, Nat.zero_le _, rfl, hid rfl, Kp.refl _ _⟩
 case round =>
  obtain ⟨j, hj, rfl, hst, kr⟩ := hrel
  by_cases hjl : j < l.length
  ·obtain ⟨g, o, rfl, c0⟩ := intAt (hs'.out.keptNew kr) j hjl
   have hsu := hid (plTo_succ l m j hjl)
   have hmo := hid (plTo_mono l m (j + 1) l.length (by omega))
   have i1 : (0 : Int) ≤ (j : Int) := by omega
   have i2 : (j : Int) < (l.length : Int) := by omega
   have i3 : (j : Int) + 1 ≤ 9223372036854775807 := by omega
   have i4 : (j : Int) ≤ (c : Int) := by omega
   have hj2 : (l.take j).length = j := by rw [List.length_take]; omega
   obtain ⟨y, hy⟩ : ∃ y, Hid (l[j] = y) := ⟨l[j], hid rfl⟩
   have aC := hid (fun w' (k : Kp [] wr w') => rIn (some ⟨g, o, none⟩) c (l.take j) y w' (((hs'.out.keptNew kr).keptNew k).front j) (by omega))
   rw [hj2] at aC;rw [hy.out] at c0 hsu;obtain ⟨Z, hZ⟩ : ∃ Z, Hid (decide (y ∈ l.take j) = Z) := ⟨_, hid rfl⟩
   rw [hZ.out] at aC;rw [hZ.out, hst.out] at hsu;have hF : Hid (∀ W', Kp [] wr W' → W'.cell? ⟨g, o + j, none⟩ = some (.int .i64 y)) := fun W' k => kpAt k c0
   clear hj2 hZ hy;go_wp2_with fail;refine wp_region_held_drew (S := fun W' => W'.cell? ⟨g, o + j, none⟩ = some (.int .i64 y)) (by kernel_rfl) ?_ (fun hHeld => ?_)
   ·exact hF.out _ (Kp.refl _ _).drew
   have KD : Hid (Kp [] wr wr.drew) := hid (Kp.refl _ _).drew
   generalize wr.drew = Wd at *
   refine tkH ?_ 0 rfl (by kernel_rfl) (fun _ _ _ h => h) (by rfl) ?_ ‹_› ?_;rotate_left
   ·intro w h; (try dsimp only at h); go_simp <;> with_reducible rfl
   (try simp only [Act.put, lz]);refine tkH ?_ 1 rfl (by kernel_rfl) (fun _ _ _ h => h) (by rfl) ?_ ‹_› ?_;rotate_left
   ·intro w h; (try dsimp only at h); go_simp <;> with_reducible rfl
   (try simp only [Act.put, lz]);refine tkH ?_ 2 rfl (by kernel_rfl) (fun _ _ _ h => h) (by rfl) ?_ ‹_› ?_;rotate_left
   ·intro w h; (try dsimp only at h); go_simp <;> with_reducible rfl
   (try simp only [Act.put, lz]);refine tkH ?_ 3 rfl (by kernel_rfl) (fun _ _ _ h => h) (by rfl) ?_ ‹_› ?_;rotate_left
   ·intro w h; (try dsimp only at h); go_simp <;> with_reducible rfl
   (try simp only [Act.put, lz]);refine tkH ?_ 4 rfl (by kernel_rfl) (fun _ _ _ h => h) (by rfl) ?_ ‹_› ?_;rotate_left
   ·intro w h; (try dsimp only at h); go_simp <;> with_reducible rfl
   (try simp only [Act.put, lz]);refine tkH ?_ 5 rfl (by kernel_rfl) (fun _ _ _ h => h) (by rfl) ?_ ‹_› ?_;rotate_left
   ·intro w h; (try dsimp only at h); go_simp <;> with_reducible rfl
   (try simp only [Act.put, lz]);refine tkH ?_ 6 rfl (by kernel_rfl) (fun _ _ _ h => h) (by rfl) ?_ ‹_› ?_;rotate_left
   ·intro w h; (try dsimp only at h); go_simp <;> with_reducible rfl
   (try simp only [Act.put, lz]);refine rdH 7 (by kernel_rfl) rfl fun K hK => ?_
   go_simp;refine (aC.out Wd KD.out).mono ?_;rintro e w3 ⟨rfl, k3⟩;(try go_wp2_with fail);refine hK.out _ _ ?_ (fun hHeld => ?_)
   ·exact hF.out _ (KD.out.trans k3 (by simp))
   clear hK K;(try simp only [Act.put, lz]);have K3 := hid (KD.out.trans k3 (by simp))
   clear k3 aC;refine tkH ?_ 8 rfl (by kernel_rfl) (fun _ _ _ h => h) (by rfl) ?_ ‹_› ?_;rotate_left
   ·intro w h; (try dsimp only at h); go_simp <;> with_reducible rfl
   (try simp only [Act.put, lz]);refine wpAnyH_done (by kernel_rfl) ?_ _
   have e0 := hF.out _ K3.out
   have kw3 := hid (kr.trans K3.out (by simp))
   clear hHeld c0 hF
   by_cases h0 : y < 0
   ·have d0 : decide (y < 0) = true := by simpa using h0
    have hw : wi y m = false := by unfold wi; simp; omega
    have hR : Hid (r = false) := by show _ = _; rw [← hr.out]; exact hmo.out (by rw [hsu.out, hw]; rfl)
    go_wp2_with fail;go_ret;exact ⟨by rw [hR.out]; rfl, kw3.out⟩
   have d0 : decide (y < 0) = false := by simpa using h0
   by_cases hm : m ≤ y
   ·have d1 : decide (m ≤ y) = true := by simpa using hm
    have hw : wi y m = false := by unfold wi; simp; omega
    have hR : Hid (r = false) := by show _ = _; rw [← hr.out]; exact hmo.out (by rw [hsu.out, hw]; rfl)
    go_wp2_with fail;go_ret;exact ⟨by rw [hR.out]; rfl, kw3.out⟩
   have d1 : decide (m ≤ y) = false := by simpa using hm
   have hw : wi y m = true := by unfold wi; simp; omega
   rw [hw] at hsu;clear hw
   cases Z with
   | true =>
    have hR : Hid (r = false) := by show _ = _; rw [← hr.out]; exact hmo.out hsu.out
    go_wp2_with fail;go_ret;exact ⟨by rw [hR.out]; rfl, kw3.out⟩
   | false =>
    go_wp2_with fail;exact ⟨⟨j + 1, by omega, by go_num, hsu, kw3.out⟩, by simp [intOf]; omega⟩
  ·have e : j = l.length := by omega
   subst e;have hR : Hid (r = true) := by show _ = _; rw [← hr.out]; exact hst.out
   go_wp2_with fail;go_ret;exact ⟨by rw [hR.out]; rfl, kr⟩
theorem hvC_one (C : List Int) (x : Int) : hvC C [x] = decide (x ∈ C) := by simp [hvC]
theorem hvC_succ (C l : List Int) (j : Nat) (h : j < l.length) : hvC C (l.take (j + 1)) = (hvC C (l.take j) && decide (l[j] ∈ C)) := by
 unfold hvC
 have e : l.take (j + 1) = l.take j ++ [l[j]] := by rw [List.take_succ_eq_append_getElem h]
 rw [e, List.all_append, List.all_cons, List.all_nil, Bool.and_true]
theorem hvC_false (C l : List Int) (j : Nat) (h : hvC C (l.take j) = false) : hvC C l = false := by
 unfold hvC at h ⊢
 rw [List.all_eq_false] at h ⊢;obtain ⟨x, hx, hx2⟩ := h;exact ⟨x, List.mem_of_mem_take hx, hx2⟩
theorem rProj (c : Cg) (p : Pj) (w : World) (hc : c.ok w) (hp : p.ok w) : Calls Tryz.prog 31 #[c.v, p.v] w fun e w' => e = .returned (.bool (pjM c p)) ∧ Kp [] w w' := by
 obtain ⟨r, hr⟩ : ∃ r, Hid (pjM c p = r) := ⟨_, hid rfl⟩
 rw [hr.out];obtain ⟨W, eW, kW, zW, bC, bP⟩ := boxCP c p w;have HC := hid (hc.kept kW)
 have HP := hid (hp.kept kW)
 have KW := hid kW
 have c0 := bC.get 0 _ rfl; have c1 := bC.get 1 _ rfl; have c2 := bC.get 2 _ rfl; have c3 := bC.get 3 _ rfl; have c4 := bC.get 4 _ rfl
 have p0 := bP.get 0 _ rfl; have p1 := bP.get 1 _ rfl; have p2 := bP.get 2 _ rfl; have p3 := bP.get 3 _ rfl; have p4 := bP.get 4 _ rfl; have p5 := bP.get 5 _ rfl
 have zW' : w.heap.size + 1 < W.heap.size := by omega
 have BB := hid (And.intro bC bP)
 clear hc hp kW bC bP zW;unfold pjM at hr
 simp only [Cg.v, Pj.v]
 by_cases h0 : p.nm.size = 0
 ·have d0 : ((p.nm.size : Int) == 0) = true := by simp [h0]
  have hN : namedV p.nm = false := by unfold namedV; simp [h0]
  rw [hN] at hr;clear h0 hN;go_enter Tryz.func31, Tryz.ntmps31
  go_wp2_with fail;go_ret;exact ⟨by rw [← hr.out]; rfl, KW.out⟩
 have d0 : ((p.nm.size : Int) == 0) = false := by simpa using h0
 by_cases h64 : 64 < p.nm.size
 ·have d1 : decide ((64 : Int) < (p.nm.size : Int)) = true := by simp; omega
  have hN : namedV p.nm = false := by unfold namedV; simp; omega
  rw [hN] at hr;clear hN;go_enter Tryz.func31, Tryz.ntmps31
  go_wp2_with fail;go_ret;exact ⟨by rw [← hr.out]; rfl, KW.out⟩
 have d1 : decide ((64 : Int) < (p.nm.size : Int)) = false := by simp; omega
 have hN : namedV p.nm = true := by unfold namedV; simp; omega
 rw [hN] at hr;clear h0 hN
 by_cases ht0 : p.tb < 0
 ·have d2 : decide (p.tb < 0) = true := by simpa using ht0
  have hW : wi p.tb (c.tl.length : Int) = false := by unfold wi; simp; omega
  rw [hW] at hr;clear hW;go_enter Tryz.func31, Tryz.ntmps31
  go_wp2_with fail;go_ret;exact ⟨by rw [← hr.out]; rfl, KW.out⟩
 have d2 : decide (p.tb < 0) = false := by simpa using ht0
 by_cases ht1 : (c.tl.length : Int) ≤ p.tb
 ·have d3 : decide ((c.tl.length : Int) ≤ p.tb) = true := by simpa using ht1
  have hW : wi p.tb (c.tl.length : Int) = false := by unfold wi; simp; omega
  rw [hW] at hr;clear hW;go_enter Tryz.func31, Tryz.ntmps31
  go_wp2_with fail;go_ret;exact ⟨by rw [← hr.out]; rfl, KW.out⟩
 have d3 : decide ((c.tl.length : Int) ≤ p.tb) = false := by simpa using ht1
 have hW : wi p.tb (c.tl.length : Int) = true := by unfold wi; simp; omega
 rw [hW] at hr;clear hW
 by_cases h5 : p.cl.length = 0
 ·have d4 : ((p.cl.length : Int) == 0) = true := by simp [h5]
  have hW : decide (0 < (p.cl.length : Int)) = false := by simp [h5]
  rw [hW] at hr;have hr2 : Hid (r = false) := by have := hr.out; exact hid (by simpa using this.symm)
  clear hW h5 hr;go_enter Tryz.func31, Tryz.ntmps31
  go_wp2_with fail;go_ret;exact ⟨by rw [hr2.out]; rfl, KW.out⟩
 have d4 : ((p.cl.length : Int) == 0) = false := by simpa using h5
 have hW : decide (0 < (p.cl.length : Int)) = true := by simp; omega
 rw [hW] at hr;clear hW h5;obtain ⟨i, hi⟩ := Int.eq_ofNat_of_zero_le (show 0 ≤ p.tb by omega)
 have hil : i < c.tl.length := by omega
 obtain ⟨g, f, eg, x0, x1⟩ := tbAt HC.out.ts (j := i) (t := c.tl[i]) (by simp [hil])
 obtain ⟨M, hM⟩ : ∃ M, Hid (c.tl[i].l.length = M) := ⟨_, hid rfl⟩
 have hMc : Hid (manyC c p = (M : Int)) := by show _ = _; unfold manyC; rw [hi]; simp [hil, hM.out]
 rw [hM.out] at x1;rw [hMc.out, hvC_one] at hr;have i1 : (0 : Int) ≤ (i : Int) := by omega
 have i2 : (i : Int) < (c.tl.length : Int) := by omega
 rw [hi] at p1 d2 d3 eW;rw [eg] at c3 eW;have d3n : decide (c.tl.length ≤ i) = false := by simp; omega
 have b1 := hid (fun w' (k : Kp [] W w') => rPlaces p.ca p.cc p.cl (M : Int) w' (HP.out.cols.keptNew k) HP.out.ccap HP.out.cmax)
 have b2 := hid (fun w' (k : Kp [] W w') => rPlaces p.sa p.sc p.sl (M : Int) w' (HP.out.sort.keptNew k) HP.out.scap HP.out.smax)
 have b3 := hid (fun (x : Int) w' (k : Kp [] W w') => rIn p.ca p.cc p.cl x w' (HP.out.cols.keptNew k) (by have := HP.out.ccap; have := HP.out.cmax; omega))
 have hsl : p.sl.length ≤ 9223372036854775807 := by have := HP.out.scap; have := HP.out.smax; omega
 have HB : Hid (∀ w', Kp [] W w' → (w'.cell? ⟨w.heap.size + 1, 0, none⟩ = some (.string p.nm) ∧ w'.cell? ⟨w.heap.size + 1, 1, none⟩ = some (.int .i64 p.tb) ∧ w'.cell? ⟨w.heap.size + 1, 2, none⟩ = some (.slice p.ca p.cl.length p.cc) ∧ w'.cell? ⟨w.heap.size + 1, 3, none⟩ = some (.slice p.sa p.sl.length p.sc) ∧ w'.cell? ⟨w.heap.size + 1, 4, none⟩ = some (.int .i64 p.by_) ∧ w'.cell? ⟨w.heap.size + 1, 5, none⟩ = some (.int .i64 p.sh)) ∧ w'.cell? ⟨w.heap.size, 0, none⟩ = some (.int .i64 c.n)) := fun w' k => by
  have h1 := BB.out.2.kept k
  have h2 := BB.out.1.kept k
  exact ⟨⟨h1.get 0 _ rfl, h1.get 1 _ rfl, h1.get 2 _ rfl, h1.get 3 _ rfl, h1.get 4 _ rfl, h1.get 5 _ rfl⟩, h2.get 0 _ rfl⟩
 obtain ⟨A, hA⟩ : ∃ A, Hid (plM p.cl (M : Int) = A) := ⟨_, hid rfl⟩
 obtain ⟨B, hB⟩ : ∃ B, Hid (plM p.sl (M : Int) = B) := ⟨_, hid rfl⟩
 obtain ⟨D, hD⟩ : ∃ D, Hid (decide (p.by_ ∈ p.cl) = D) := ⟨_, hid rfl⟩
 rw [hA.out] at b1 hr;rw [hB.out] at b2 hr;rw [hD.out] at hr;have qD := hid (b3.out p.by_)
 rw [hD.out] at qD;obtain ⟨sa, hsa⟩ : ∃ sa, Hid (p.sa = sa) := ⟨_, hid rfl⟩
 rw [hsa.out] at eW BB p3 b2 HB;rw [hsa.out];rw [hi] at HB;clear ht0 ht1 hA hB hD;go_enter Tryz.func31, Tryz.ntmps31
 go_wp2_with fail;refine (b1.out W (Kp.refl _ _)).mono ?_;rintro e w2 ⟨rfl, k2⟩;have K2 := hid k2
 clear k2 p0 p1 p2 p3 p4 p5 b1 c0 c1 c2 c3 c4 x0 x1;obtain ⟨⟨p0, p1, p2, p3, p4, p5⟩, c0⟩ := HB.out _ K2.out;go_wp2_with fail;refine (b2.out _ K2.out).mono ?_;rintro e w3 ⟨rfl, k3⟩;have K3 := hid (K2.out.trans k3 (by simp))
 clear k3 p0 p1 p2 p3 p4 p5 b2 c0;obtain ⟨⟨p0, p1, p2, p3, p4, p5⟩, c0⟩ := HB.out _ K3.out;go_wp2_with fail;refine (qD.out _ K3.out).mono ?_;rintro e w4 ⟨rfl, k4⟩;have K4 := hid (K3.out.trans k4 (by simp))
 clear k4 p0 p1 p2 p3 p4 p5 qD c0;go_wp2_with fail;go_loopw [9, 10] (fun iv _ wr => ∃ j : Nat, j ≤ p.sl.length ∧ iv = .int .i64 j ∧ Hid (hvC p.cl (p.sl.take j) = true) ∧ Hid (Kp [] W wr)) (fun iv _ _ => p.sl.length - (intOf iv).toNat)
 case atStart => exact ⟨0, Nat.zero_le _, rfl, hid rfl, K4⟩
 case round =>
  obtain ⟨j, hj, rfl, hst, kr⟩ := hrel;clear K2 K3 K4;obtain ⟨⟨p0, p1, p2, p3, p4, p5⟩, c0⟩ := HB.out _ kr.out
  by_cases hjl : j < p.sl.length
  ·obtain ⟨g2, o2, eg2, y0⟩ := intAt (HP.out.sort.keptNew kr.out) j hjl
   rw [hsa.out] at eg2;subst eg2;have hsu := hid (hvC_succ p.cl p.sl j hjl)
   have hfa := hid (hvC_false p.cl p.sl (j + 1))
   have i3 : (0 : Int) ≤ (j : Int) := by omega
   have i4 : (j : Int) < (p.sl.length : Int) := by omega
   have i5 : (j : Int) + 1 ≤ 9223372036854775807 := by omega
   rw [hst.out] at hsu;generalize p.sl[j] = y at *
   obtain ⟨Z, hZ⟩ : ∃ Z, Hid (decide (y ∈ p.cl) = Z) := ⟨_, hid rfl⟩
   have aC := hid (b3.out y)
   rw [hZ.out] at aC hsu
   have hF : Hid (∀ W', Kp [] wr W' → (W'.cell? ⟨w.heap.size + 1, 2, none⟩ = some (.slice p.ca p.cl.length p.cc) ∧ W'.cell? ⟨w.heap.size + 1, 3, none⟩ = some (.slice (some ⟨g2, o2, none⟩) p.sl.length p.sc) ∧ W'.cell? ⟨g2, o2 + j, none⟩ = some (.int .i64 y))) := fun W' k => by
    obtain ⟨⟨_, _, h2, h3, _, _⟩, _⟩ := HB.out _ (kr.out.trans k (by simp))
    exact ⟨h2, h3, kpAt k y0⟩
   clear hZ;go_wp2_with fail;refine wp_region_held_drew (S := fun W' => W'.cell? ⟨w.heap.size + 1, 2, none⟩ = some (.slice p.ca p.cl.length p.cc) ∧ W'.cell? ⟨w.heap.size + 1, 3, none⟩ = some (.slice (some ⟨g2, o2, none⟩) p.sl.length p.sc) ∧ W'.cell? ⟨g2, o2 + j, none⟩ = some (.int .i64 y)) (by kernel_rfl) ?_ (fun hHeld => ?_)
   ·exact hF.out _ (Kp.refl _ _).drew
   have KD : Hid (Kp [] wr wr.drew) := hid (Kp.refl _ _).drew
   generalize wr.drew = Wd at *
   refine tkH ?_ 0 rfl (by kernel_rfl) (fun _ _ _ h => h) (by rfl) ?_ ‹_› ?_;rotate_left
   ·intro w h; (try dsimp only at h); go_simp <;> with_reducible rfl
   (try simp only [Act.put, lz]);refine tkH ?_ 1 rfl (by kernel_rfl) (fun _ _ _ h => h) (by rfl) ?_ ‹_› ?_;rotate_left
   ·intro w h; (try dsimp only at h); go_simp <;> with_reducible rfl
   (try simp only [Act.put, lz]);refine tkH ?_ 2 rfl (by kernel_rfl) (fun _ _ _ h => h) (by rfl) ?_ ‹_› ?_;rotate_left
   ·intro w h; (try dsimp only at h); go_simp <;> with_reducible rfl
   (try simp only [Act.put, lz]);refine tkH ?_ 3 rfl (by kernel_rfl) (fun _ _ _ h => h) (by rfl) ?_ ‹_› ?_;rotate_left
   ·intro w h; (try dsimp only at h); go_simp <;> with_reducible rfl
   (try simp only [Act.put, lz]);refine tkH ?_ 4 rfl (by kernel_rfl) (fun _ _ _ h => h) (by rfl) ?_ ‹_› ?_;rotate_left
   ·intro w h; (try dsimp only at h); go_simp <;> with_reducible rfl
   (try simp only [Act.put, lz]);refine tkH ?_ 5 rfl (by kernel_rfl) (fun _ _ _ h => h) (by rfl) ?_ ‹_› ?_;rotate_left
   ·intro w h; (try dsimp only at h); go_simp <;> with_reducible rfl
   (try simp only [Act.put, lz]);refine tkH ?_ 6 rfl (by kernel_rfl) (fun _ _ _ h => h) (by rfl) ?_ ‹_› ?_;rotate_left
   ·intro w h; (try dsimp only at h); go_simp <;> with_reducible rfl
   (try simp only [Act.put, lz]);refine rdH 7 (by kernel_rfl) rfl fun K hK => ?_
   go_simp;refine (aC.out Wd (kr.out.trans KD.out (by simp))).mono ?_
   rintro e w5 ⟨rfl, k5⟩;(try go_wp2_with fail);refine hK.out _ _ ?_ (fun hHeld => ?_)
   ·exact hF.out _ (KD.out.trans k5 (by simp))
   clear hK K;(try simp only [Act.put, lz]);have K5 := hid (kr.out.trans (KD.out.trans k5 (by simp)) (by simp))
   clear k5 aC hF;refine tkH ?_ 8 rfl (by kernel_rfl) (fun _ _ _ h => h) (by rfl) ?_ ‹_› ?_;rotate_left
   ·intro w h; (try dsimp only at h); go_simp <;> with_reducible rfl
   (try simp only [Act.put, lz]);refine wpAnyH_done (by kernel_rfl) ?_ _
   clear hHeld p0 p1 p2 p3 p4 p5 c0 y0
   cases Z with
   | true =>
    go_wp2_with fail;exact ⟨⟨j + 1, by omega, by go_num, hsu, K5⟩, by simp [intOf]; omega⟩
   | false =>
    have hf2 := hfa.out hsu.out
    rw [hf2] at hr;have hr2 : Hid (r = false) := by have := hr.out; exact hid (by simpa using this.symm)
    clear hr hf2;go_wp2_with fail;go_ret;exact ⟨by rw [hr2.out]; rfl, KW.out.trans K5.out (by simp)⟩
  ·have e : j = p.sl.length := by omega
   subst e;have hs2 := hst.out
   rw [List.take_length] at hs2;rw [hs2] at hr;clear hs2 hst;have KF := hid (KW.out.trans kr.out (by simp))
   cases A with
   | false =>
    have hr2 : Hid (r = false) := by have := hr.out; exact hid (by simpa using this.symm)
    clear hr;go_wp2_with fail;go_ret;exact ⟨by rw [hr2.out]; rfl, KF.out⟩
   | true =>
   cases B with
   | false =>
    have hr2 : Hid (r = false) := by have := hr.out; exact hid (by simpa using this.symm)
    clear hr;go_wp2_with fail;go_ret;exact ⟨by rw [hr2.out]; rfl, KF.out⟩
   | true =>
   cases D with
   | false =>
    have hr2 : Hid (r = false) := by have := hr.out; exact hid (by simpa using this.symm)
    clear hr;go_wp2_with fail;go_ret;exact ⟨by rw [hr2.out]; rfl, KF.out⟩
   | true =>
   have hr2 : Hid (r = wi p.sh c.n) := by have := hr.out; exact hid (by simpa using this.symm)
   clear hr;unfold wi at hr2
   by_cases hs0 : 0 ≤ p.sh
   ·have e0 : decide (0 ≤ p.sh) = true := by simpa using hs0
    rw [e0] at hr2;go_wp2_with fail;go_ret;exact ⟨by rw [hr2.out]; simp, KF.out⟩
   ·have e0 : decide (0 ≤ p.sh) = false := by simpa using hs0
    rw [e0] at hr2;go_wp2_with fail;go_ret;exact ⟨by rw [hr2.out]; simp, KF.out⟩
def alR (m : Nat) (C D : List Int) : Bool := (List.range m).all fun n => decide ((n : Int) ∈ C) || decide ((n : Int) ∈ D)
theorem cbt_bit : ∀ (l : List Int) (b n : Nat), (∀ y ∈ l, 0 ≤ y) → (l.foldl (fun b p => b ||| 2 ^ p.toNat) b).testBit n = (b.testBit n || decide ((n : Int) ∈ l))
 | [], b, n, _ => by simp
 | y :: l, b, n, h => by
  have hy := h y (by simp)
  have ih := cbt_bit l (b ||| 2 ^ y.toNat) n (fun z hz => h z (by simp [hz]))
  rw [List.foldl_cons, ih, Nat.testBit_or, Nat.testBit_two_pow]
  have e : decide (y.toNat = n) = decide ((n : Int) = y) := by
   rw [decide_eq_decide];omega
  rw [e]
  by_cases h1 : (n : Int) = y
  ·simp [h1]
  ·by_cases h2 : (n : Int) ∈ l
   ·simp [h1, h2]
   ·simp [h1, h2]
theorem alR_bits (m : Nat) (C D : List Int) (hC : ∀ y ∈ C, 0 ≤ y ∧ y < (m : Int)) (hD : ∀ y ∈ D, 0 ≤ y ∧ y < (m : Int)) : alR m C D = ((cbt C ||| cbt D) == 2 ^ m - 1) := by
 have hb : ∀ n, (cbt C ||| cbt D).testBit n = (decide ((n : Int) ∈ C) || decide ((n : Int) ∈ D)) := fun n => by
  rw [Nat.testBit_or];have h1 := cbt_bit C 0 n (fun y hy => (hC y hy).1)
  have h2 := cbt_bit D 0 n (fun y hy => (hD y hy).1)
  simp only [Nat.zero_testBit, Bool.false_or] at h1 h2;unfold cbt
  rw [h1, h2]
 rw [Bool.eq_iff_iff];constructor
 ·intro h
  rw [beq_iff_eq];apply Nat.eq_of_testBit_eq
  intro n
  rw [hb, Nat.testBit_two_pow_sub_one]
  by_cases hn : n < m
  ·unfold alR at h
   rw [List.all_eq_true] at h;rw [h n (List.mem_range.2 hn)];simp [hn]
  ·have h1 : ¬ (n : Int) ∈ C := fun hm => by have := hC _ hm; omega
   have h2 : ¬ (n : Int) ∈ D := fun hm => by have := hD _ hm; omega
   simp [h1, h2, hn]
 ·intro h
  rw [beq_iff_eq] at h;unfold alR
  rw [List.all_eq_true];intro n hn
  rw [← hb n, h, Nat.testBit_two_pow_sub_one];simpa using List.mem_range.1 hn
theorem alR_succ (m : Nat) (C D : List Int) : alR (m + 1) C D = (alR m C D && (decide ((m : Int) ∈ C) || decide ((m : Int) ∈ D))) := by
 unfold alR
 rw [List.range_succ, List.all_append];simp
theorem alR_mono (m k : Nat) (C D : List Int) (h : m ≤ k) (hf : alR m C D = false) : alR k C D = false := by
 unfold alR at hf ⊢
 rw [List.all_eq_false] at hf ⊢;obtain ⟨x, hx, hx2⟩ := hf;exact ⟨x, List.mem_range.2 (by have := List.mem_range.1 hx; omega), hx2⟩
theorem boxTPQ (t : Tb) (p q : Pj) (w : World) : ∃ W, ((w.alloc (.cells #[.string t.nm, .slice t.a t.l.length t.c] 77)).alloc (.cells #[.string p.nm, .int .i64 p.tb, .slice p.ca p.cl.length p.cc, .slice p.sa p.sl.length p.sc, .int .i64 p.by_, .int .i64 p.sh] 92)).alloc (.cells #[.string q.nm, .int .i64 q.tb, .slice q.ca q.cl.length q.cc, .slice q.sa q.sl.length q.sc, .int .i64 q.by_, .int .i64 q.sh] 92) = W ∧ Kp [] w W ∧ W.heap.size = w.heap.size + 3 ∧ Bn W w.heap.size [.string t.nm, .slice t.a t.l.length t.c] ∧ Bn W (w.heap.size + 1) [.string p.nm, .int .i64 p.tb, .slice p.ca p.cl.length p.cc, .slice p.sa p.sl.length p.sc, .int .i64 p.by_, .int .i64 p.sh] ∧ Bn W (w.heap.size + 1 + 1) [.string q.nm, .int .i64 q.tb, .slice q.ca q.cl.length q.cc, .slice q.sa q.sl.length q.sc, .int .i64 q.by_, .int .i64 q.sh] := by
 refine ⟨_, rfl, (((Kp.refl _ _).alloc _).alloc _).alloc _, by simp, ?_, ?_, ?_⟩
 ·exact ((Bn.new w [.string t.nm, .slice t.a t.l.length t.c] 77).kept ((Kp.refl _ _).alloc _)).kept ((Kp.refl _ _).alloc _)
 ·have h := Bn.new (w.alloc (.cells #[.string t.nm, .slice t.a t.l.length t.c] 77)) [.string p.nm, .int .i64 p.tb, .slice p.ca p.cl.length p.cc, .slice p.sa p.sl.length p.sc, .int .i64 p.by_, .int .i64 p.sh] 92
  rw [World.size_alloc] at h;exact h.kept ((Kp.refl _ _).alloc _)
 ·have h := Bn.new ((w.alloc (.cells #[.string t.nm, .slice t.a t.l.length t.c] 77)).alloc (.cells #[.string p.nm, .int .i64 p.tb, .slice p.ca p.cl.length p.cc, .slice p.sa p.sl.length p.sc, .int .i64 p.by_, .int .i64 p.sh] 92)) [.string q.nm, .int .i64 q.tb, .slice q.ca q.cl.length q.cc, .slice q.sa q.sl.length q.sc, .int .i64 q.by_, .int .i64 q.sh] 92
  rw [World.size_alloc, World.size_alloc] at h;exact h
theorem rAllC (t : Tb) (p q : Pj) (w : World) (ht : t.l.length ≤ 9223372036854775806) (hp : p.ok w) (hq : q.ok w) : Calls Tryz.prog 42 #[t.v, p.v, q.v] w fun e w' => e = .returned (.bool (alR t.l.length p.cl q.cl)) ∧ Kp [] w w' := by
 obtain ⟨W, eW, kW, zW, bT, bP, bQ⟩ := boxTPQ t p q w;obtain ⟨r, hr⟩ : ∃ r, Hid (alR t.l.length p.cl q.cl = r) := ⟨_, hid rfl⟩
 rw [hr.out];have aP := hid (fun (x : Int) w' (k : Kp [] w w') => rIn p.ca p.cc p.cl x w' (hp.kept k).cols (by have := hp.ccap; have := hp.cmax; omega))
 have aQ := hid (fun (x : Int) w' (k : Kp [] w w') => rIn q.ca q.cc q.cl x w' (hq.kept k).cols (by have := hq.ccap; have := hq.cmax; omega))
 have KW := hid kW
 have BB := hid (And.intro bT (And.intro bP bQ))
 have zW' : w.heap.size + 1 + 1 < W.heap.size := by omega
 have hF : Hid (∀ w', Kp [] W w' → w'.cell? ⟨w.heap.size, 1, none⟩ = some (.slice t.a t.l.length t.c) ∧ w'.cell? ⟨w.heap.size + 1, 2, none⟩ = some (.slice p.ca p.cl.length p.cc) ∧ w'.cell? ⟨w.heap.size + 1 + 1, 2, none⟩ = some (.slice q.ca q.cl.length q.cc)) := fun w' k => ⟨(BB.out.1.kept k).get 1 _ rfl, (BB.out.2.1.kept k).get 2 _ rfl, (BB.out.2.2.kept k).get 2 _ rfl⟩
 clear hp hq kW bT bP bQ zW;simp only [Tb.v, Pj.v];obtain ⟨M, hM⟩ : ∃ M, Hid (t.l.length = M) := ⟨_, hid rfl⟩
 rw [hM.out] at eW hr hF ht;rw [hM.out];go_enter Tryz.func42, Tryz.ntmps42
 go_wp2_with fail;go_loopw [7, 8, 9] (fun i _ _ wr => ∃ j : Nat, j ≤ M ∧ i = .int .i64 j ∧ Hid (alR j p.cl q.cl = true) ∧ Hid (Kp [] W wr)) (fun i _ _ _ => M - (intOf i).toNat)
 case atStart => exact ⟨0, Nat.zero_le _, rfl, hid rfl, hid (Kp.refl _ _)⟩
 case round =>
  obtain ⟨j, hj, rfl, hst, kr⟩ := hrel;obtain ⟨b1, b2, b3⟩ := hF.out _ kr.out
  by_cases hjl : j < M
  ·have i1 : (0 : Int) ≤ (j : Int) := by omega
   have i2 : (j : Int) < (M : Int) := by omega
   have i3 : (j : Int) + 1 ≤ 9223372036854775807 := by omega
   have hsu := hid (alR_succ j p.cl q.cl)
   have hmo := hid (alR_mono (j + 1) M p.cl q.cl (by omega))
   obtain ⟨X, hX⟩ : ∃ X, Hid (decide ((j : Int) ∈ p.cl) = X) := ⟨_, hid rfl⟩
   obtain ⟨Y, hY⟩ : ∃ Y, Hid (decide ((j : Int) ∈ q.cl) = Y) := ⟨_, hid rfl⟩
   have a1 := hid (aP.out (j : Int) wr (KW.out.trans kr.out (by simp)))
   have a2 := hid (fun w' (k : Kp [] W w') => aQ.out (j : Int) w' (KW.out.trans k (by simp)))
   rw [hX.out] at a1;rw [hY.out] at a2;rw [hst.out, hX.out, hY.out] at hsu;clear hX hY;go_wp2_with fail;refine a1.out.mono ?_;rintro e w2 ⟨rfl, k2⟩;have K2 := hid (kr.out.trans k2 (by simp))
   clear k2 a1 b1 b2 b3;obtain ⟨b1, b2, b3⟩ := hF.out _ K2.out;go_wp2_with fail;refine (a2.out _ K2.out).mono ?_;rintro e w3 ⟨rfl, k3⟩;have K3 := hid (K2.out.trans k3 (by simp))
   clear k3 a2 b1 b2 b3
   cases X with
   | true =>
    have hsu2 : Hid (alR (j + 1) p.cl q.cl = true) := by show _ = _; rw [hsu.out]; rfl
    go_wp2_with fail;exact ⟨⟨j + 1, by omega, by go_num, hsu2, K3⟩, by simp [intOf]; omega⟩
   | false =>
   cases Y with
   | true =>
    have hsu2 : Hid (alR (j + 1) p.cl q.cl = true) := by show _ = _; rw [hsu.out]; rfl
    go_wp2_with fail;exact ⟨⟨j + 1, by omega, by go_num, hsu2, K3⟩, by simp [intOf]; omega⟩
   | false =>
    have hR : Hid (r = false) := by show _ = _; rw [← hr.out]; exact hmo.out (by rw [hsu.out]; rfl)
    go_wp2_with fail;go_ret;exact ⟨by rw [hR.out]; rfl, KW.out.trans K3.out (by simp)⟩
  ·have e : j = M := by omega
   subst e;have hR : Hid (r = true) := by show _ = _; rw [← hr.out]; exact hst.out
   go_wp2_with fail;go_ret;exact ⟨by rw [hR.out]; rfl, KW.out.trans kr.out (by simp)⟩
def rvIn (l : List Pj) (t : Int) (A i m : Nat) : Bool := (List.range m).any fun k => cvP t A (l.getD i default) (l.getD k default)
def rvTo (l : List Pj) (t : Int) (A j : Nat) : Bool := (List.range j).any fun i => rvIn l t A i l.length
theorem rvIn_succ (l : List Pj) (t : Int) (A i m : Nat) : rvIn l t A i (m + 1) = (rvIn l t A i m || cvP t A (l.getD i default) (l.getD m default)) := by
 unfold rvIn
 rw [List.range_succ, List.any_append];simp
theorem rvTo_succ (l : List Pj) (t : Int) (A j : Nat) : rvTo l t A (j + 1) = (rvTo l t A j || rvIn l t A j l.length) := by
 unfold rvTo
 rw [List.range_succ, List.any_append];simp
theorem rv_true (l : List Pj) (t : Int) (A i m : Nat) (hi : i < l.length) (hm : m < l.length) (h : cvP t A (l.getD i default) (l.getD m default) = true) : rvTo l t A l.length = true := by
 unfold rvTo
 rw [List.any_eq_true];refine ⟨i, List.mem_range.2 hi, ?_⟩;unfold rvIn
 rw [List.any_eq_true];exact ⟨m, List.mem_range.2 hm, h⟩
theorem cvP_comm (t : Int) (A : Nat) (p q : Pj) : cvP t A p q = cvP t A q p := by
 unfold cvP
 rw [Nat.or_comm (cbt p.cl) (cbt q.cl)]
 cases (p.tb == t) <;> cases (q.tb == t) <;> simp
theorem rv_eq (l : List Pj) (t : Int) (A : Nat) : rvTo l t A l.length = cvTo l t A l.length := by
 rw [Bool.eq_iff_iff];constructor
 ·intro h
  unfold rvTo rvIn at h
  rw [List.any_eq_true] at h;obtain ⟨i, hi, h⟩ := h;rw [List.any_eq_true] at h;obtain ⟨k, hk, h⟩ := h;rw [List.mem_range] at hi hk
  by_cases hik : i ≤ k
  ·exact cv_true l t A i (k - i) hi (by omega) (by rw [show i + (k - i) = k by omega]; exact h)
  ·exact cv_true l t A k (i - k) hk (by omega) (by rw [show k + (i - k) = i by omega, cvP_comm]; exact h)
 ·intro h
  unfold cvTo cvIn at h
  rw [List.any_eq_true] at h;obtain ⟨i, hi, h⟩ := h;rw [List.any_eq_true] at h;obtain ⟨k, hk, h⟩ := h;rw [List.mem_range] at hi hk;exact rv_true l t A i (i + k) hi (by omega) h
theorem rCovered (c : Cg) (t : Nat) (w : World) (hc : c.ok w) (htl : t < c.tl.length) (hm8 : c.tl[t].l.length ≤ 8) (hcl : ∀ p ∈ c.pl, p.tb = (t : Int) → ∀ y ∈ p.cl, 0 ≤ y ∧ y < (c.tl[t].l.length : Int)) : Calls Tryz.prog 32 #[c.v, .int .i64 (t : Int)] w fun e w' => e = .returned (.bool (cvTo c.pl t (allB c.tl[t]) c.pl.length)) ∧ Kp [] w w' := by
 obtain ⟨W, eW, kW, zW, bC⟩ := boxC c w;rw [← rv_eq];obtain ⟨r, hr⟩ : ∃ r, Hid (rvTo c.pl t (allB c.tl[t]) c.pl.length = r) := ⟨_, hid rfl⟩
 rw [hr.out];have HC := hid hc
 have hpm : c.pl.length ≤ 9223372036854775807 := by have := hc.pcap; have := hc.pmax; omega
 obtain ⟨gt, ot, egt, _, _⟩ := tbAt hc.ts (j := t) (t := c.tl[t]) (by simp [htl])
 have htt : Hid (∀ w', Kp [] w w' → w'.cell? ⟨gt, ot + t * 2, none⟩ = some (.string c.tl[t].nm) ∧ w'.cell? ⟨gt, ot + t * 2 + 1, none⟩ = some (.slice c.tl[t].a c.tl[t].l.length c.tl[t].c)) := fun w' k => by
  obtain ⟨g2, o2, e2, h1, h2⟩ := tbAt (hc.kept k).ts (j := t) (t := c.tl[t]) (by simp [htl])
  rw [egt] at e2;injection e2 with e2
  injection e2 with e3 e4
  subst e3 e4;exact ⟨h1, h2⟩
 obtain ⟨AL, hAL⟩ : ∃ A, Hid (allB c.tl[t] = A) := ⟨_, hid rfl⟩
 rw [hAL.out] at hr
 have hAl : Hid (∀ p q : Pj, p ∈ c.pl → q ∈ c.pl → p.tb = (t : Int) → q.tb = (t : Int) → alR c.tl[t].l.length p.cl q.cl = cvP (t : Int) AL p q) := fun p q hp hq h1 h2 => by
  have e := alR_bits c.tl[t].l.length p.cl q.cl (hcl p hp h1) (hcl q hq h2)
  unfold cvP
  rw [e, h1, h2, ← hAL.out];unfold allB
  simp
 have t0 : (0 : Int) ≤ (t : Int) := by omega
 have t1 : (t : Int) < (c.tl.length : Int) := by omega
 rw [egt] at eW bC;have BC := hid bC
 have KW := hid kW
 have zW' : w.heap.size < W.heap.size := by omega
 generalize c.tl[t] = T at *
 clear hc kW bC zW hcl htl hAL;simp only [Cg.v];rw [egt];obtain ⟨pa, hpa⟩ : ∃ pa, Hid (c.pa = pa) := ⟨_, hid rfl⟩
 rw [hpa.out] at eW BC;rw [hpa.out];have EGT := hid egt
 clear egt;go_enter Tryz.func32, Tryz.ntmps32
 go_wp2_with fail;go_loopw [5, 6, 7] (fun i _ _ wr => ∃ j : Nat, j ≤ c.pl.length ∧ i = .int .i64 j ∧ Hid (rvTo c.pl t AL j = false) ∧ Hid (Bn wr w.heap.size [.int .i64 c.n, .int .i64 c.s, .int .i64 c.k, .slice (some ⟨gt, ot, none⟩) c.tl.length c.tc, .slice pa c.pl.length c.pc]) ∧ Hid (Kp [] w wr)) (fun i _ _ _ => c.pl.length - (intOf i).toNat)
 case atStart => exact ⟨0, Nat.zero_le _, rfl, hid rfl, BC, KW⟩
 case round =>
  obtain ⟨j, hj, rfl, hst, bx, kr⟩ := hrel;clear BC KW eW zW';have b4 := bx.out.get 4 _ rfl
  have wlt := bx.out.lt (by simp)
  by_cases hjl : j < c.pl.length
  ·obtain ⟨g, o, eg, _⟩ := pjAt (HC.out.ps.keptNew kr.out) (j := j) (p := c.pl[j]) (by simp [hjl])
   rw [hpa.out] at eg;subst eg
   have hpx : Hid (∀ (k : Nat) (h : k < c.pl.length) w', Kp [] w w' → (w'.cell? ⟨g, o + k * 6, none⟩ = some (.string c.pl[k].nm) ∧ w'.cell? ⟨g, o + k * 6 + 1, none⟩ = some (.int .i64 c.pl[k].tb) ∧ w'.cell? ⟨g, o + k * 6 + 2, none⟩ = some (.slice c.pl[k].ca c.pl[k].cl.length c.pl[k].cc) ∧ w'.cell? ⟨g, o + k * 6 + 3, none⟩ = some (.slice c.pl[k].sa c.pl[k].sl.length c.pl[k].sc) ∧ w'.cell? ⟨g, o + k * 6 + 4, none⟩ = some (.int .i64 c.pl[k].by_) ∧ w'.cell? ⟨g, o + k * 6 + 5, none⟩ = some (.int .i64 c.pl[k].sh))) := fun k h w' hk => by
    obtain ⟨g2, o2, e2, h1⟩ := pjAt (HC.out.ps.keptNew hk) (j := k) (p := c.pl[k]) (by simp [h])
    rw [hpa.out] at e2;injection e2 with e2
    injection e2 with e3 e4
    subst e3 e4;exact h1
   have hsu := hid (rvTo_succ c.pl t AL j)
   have hgd : Hid (c.pl.getD j default = c.pl[j]) := by show _ = _; simp [hjl]
   have hpo := hid (HC.out.pok _ (List.getElem_mem hjl))
   have hmp : Hid (c.pl[j] ∈ c.pl) := List.getElem_mem hjl
   have hpj := hid (hpx.out j hjl)
   have i1 : (0 : Int) ≤ (j : Int) := by omega
   have i2 : (j : Int) < (c.pl.length : Int) := by omega
   have i3 : (j : Int) + 1 ≤ 9223372036854775807 := by omega
   rw [hst.out] at hsu;generalize c.pl[j] = p at *
   go_wp2_with fail;clear b4;go_loopw [6, 7] (fun i _ wn => ∃ m : Nat, m ≤ c.pl.length ∧ i = .int .i64 m ∧ Hid (rvIn c.pl t AL j m = false) ∧ Hid (Bn wn w.heap.size [.int .i64 c.n, .int .i64 c.s, .int .i64 c.k, .slice (some ⟨gt, ot, none⟩) c.tl.length c.tc, .slice (some ⟨g, o, none⟩) c.pl.length c.pc]) ∧ Hid (Kp [] w wn)) (fun i _ _ => c.pl.length - (intOf i).toNat)
   case atStart => exact ⟨0, Nat.zero_le _, rfl, hid rfl, bx, kr⟩
   case round =>
    obtain ⟨m, hm, rfl, hin, bx2, km⟩ := hrel;clear bx kr;have b4 := bx2.out.get 4 _ rfl
    by_cases hml : m < c.pl.length
    ·have hgq : Hid (c.pl.getD m default = c.pl[m]) := by show _ = _; simp [hml]
     have hqo := hid (HC.out.pok _ (List.getElem_mem hml))
     have hmq : Hid (c.pl[m] ∈ c.pl) := List.getElem_mem hml
     have hqj := hid (hpx.out m hml)
     have hins := hid (rvIn_succ c.pl t AL j m)
     have htr := hid (rv_true c.pl t AL j m hjl hml)
     rw [hin.out, hgd.out, hgq.out] at hins;rw [hgd.out, hgq.out] at htr;have m1 : (0 : Int) ≤ (m : Int) := by omega
     have m2 : (m : Int) < (c.pl.length : Int) := by omega
     have m3 : (m : Int) + 1 ≤ 9223372036854775807 := by omega
     generalize c.pl[m] = q at *
     obtain ⟨x0, x1, x2, x3, x4, x5⟩ := hpj.out _ km.out;obtain ⟨y0, y1, y2, y3, y4, y5⟩ := hqj.out _ km.out
     by_cases h1 : p.tb = (t : Int)
     rotate_left
     ·have d1 : (p.tb == (t : Int)) = false := by simpa using h1
      have hins2 : Hid (rvIn c.pl t AL j (m + 1) = false) := by show _ = _; rw [hins.out]; unfold cvP; rw [d1]; rfl
      clear hins htr h1;go_wp2_with fail;exact ⟨⟨m + 1, by omega, by go_num, hins2, bx2, km⟩, by simp [intOf]; omega⟩
     have d1 : (p.tb == (t : Int)) = true := by simpa using h1
     by_cases h2 : q.tb = (t : Int)
     rotate_left
     ·have d2 : (q.tb == (t : Int)) = false := by simpa using h2
      have hins2 : Hid (rvIn c.pl t AL j (m + 1) = false) := by show _ = _; rw [hins.out]; unfold cvP; rw [d2]; simp
      have h1' := hid h1
      clear hins htr h1 h2;go_wp2_with fail;exact ⟨⟨m + 1, by omega, by go_num, hins2, bx2, km⟩, by simp [intOf]; omega⟩
     have d2 : (q.tb == (t : Int)) = true := by simpa using h2
     have hal := hAl.out p q hmp.out hmq.out h1 h2
     obtain ⟨V, hV⟩ : ∃ V, Hid (cvP (t : Int) AL p q = V) := ⟨_, hid rfl⟩
     rw [hV.out] at hal hins htr;have aA := hid (fun w' (k : Kp [] w w') => rAllC T p q w' (by omega) (hpo.out.kept k) (hqo.out.kept k))
     rw [hal] at aA;simp only [Tb.v, Pj.v] at aA
     have hF : Hid (∀ W', Kp [] wr W' → (W'.cell? ⟨w.heap.size, 3, none⟩ = some (.slice (some ⟨gt, ot, none⟩) c.tl.length c.tc) ∧ W'.cell? ⟨w.heap.size, 4, none⟩ = some (.slice (some ⟨g, o, none⟩) c.pl.length c.pc) ∧ W'.cell? ⟨gt, ot + t * 2, none⟩ = some (.string T.nm) ∧ W'.cell? ⟨gt, ot + t * 2 + 1, none⟩ = some (.slice T.a T.l.length T.c) ∧ W'.cell? ⟨g, o + j * 6, none⟩ = some (.string p.nm) ∧ W'.cell? ⟨g, o + j * 6 + 1, none⟩ = some (.int .i64 p.tb) ∧ W'.cell? ⟨g, o + j * 6 + 2, none⟩ = some (.slice p.ca p.cl.length p.cc) ∧ W'.cell? ⟨g, o + j * 6 + 3, none⟩ = some (.slice p.sa p.sl.length p.sc) ∧ W'.cell? ⟨g, o + j * 6 + 4, none⟩ = some (.int .i64 p.by_) ∧ W'.cell? ⟨g, o + j * 6 + 5, none⟩ = some (.int .i64 p.sh) ∧ W'.cell? ⟨g, o + m * 6, none⟩ = some (.string q.nm) ∧ W'.cell? ⟨g, o + m * 6 + 1, none⟩ = some (.int .i64 q.tb) ∧ W'.cell? ⟨g, o + m * 6 + 2, none⟩ = some (.slice q.ca q.cl.length q.cc) ∧ W'.cell? ⟨g, o + m * 6 + 3, none⟩ = some (.slice q.sa q.sl.length q.sc) ∧ W'.cell? ⟨g, o + m * 6 + 4, none⟩ = some (.int .i64 q.by_) ∧ W'.cell? ⟨g, o + m * 6 + 5, none⟩ = some (.int .i64 q.sh))) := fun W' k => by
      have hk := km.out.trans k (by simp)
      have e1 := bx2.out.kept k
      obtain ⟨f0, f1⟩ := htt.out _ hk;obtain ⟨x0, x1, x2, x3, x4, x5⟩ := hpj.out _ hk;obtain ⟨y0, y1, y2, y3, y4, y5⟩ := hqj.out _ hk;exact ⟨e1.get 3 _ rfl, e1.get 4 _ rfl, f0, f1, x0, x1, x2, x3, x4, x5, y0, y1, y2, y3, y4, y5⟩
     have h12 := hid (And.intro h1 h2)
     clear h1 h2 hal hV;go_wp2_with fail;refine wp_region_held_drew (S := fun W' => W'.cell? ⟨w.heap.size, 3, none⟩ = some (.slice (some ⟨gt, ot, none⟩) c.tl.length c.tc) ∧ W'.cell? ⟨w.heap.size, 4, none⟩ = some (.slice (some ⟨g, o, none⟩) c.pl.length c.pc) ∧ W'.cell? ⟨gt, ot + t * 2, none⟩ = some (.string T.nm) ∧ W'.cell? ⟨gt, ot + t * 2 + 1, none⟩ = some (.slice T.a T.l.length T.c) ∧ W'.cell? ⟨g, o + j * 6, none⟩ = some (.string p.nm) ∧ W'.cell? ⟨g, o + j * 6 + 1, none⟩ = some (.int .i64 p.tb) ∧ W'.cell? ⟨g, o + j * 6 + 2, none⟩ = some (.slice p.ca p.cl.length p.cc) ∧ W'.cell? ⟨g, o + j * 6 + 3, none⟩ = some (.slice p.sa p.sl.length p.sc) ∧ W'.cell? ⟨g, o + j * 6 + 4, none⟩ = some (.int .i64 p.by_) ∧ W'.cell? ⟨g, o + j * 6 + 5, none⟩ = some (.int .i64 p.sh) ∧ W'.cell? ⟨g, o + m * 6, none⟩ = some (.string q.nm) ∧ W'.cell? ⟨g, o + m * 6 + 1, none⟩ = some (.int .i64 q.tb) ∧ W'.cell? ⟨g, o + m * 6 + 2, none⟩ = some (.slice q.ca q.cl.length q.cc) ∧ W'.cell? ⟨g, o + m * 6 + 3, none⟩ = some (.slice q.sa q.sl.length q.sc) ∧ W'.cell? ⟨g, o + m * 6 + 4, none⟩ = some (.int .i64 q.by_) ∧ W'.cell? ⟨g, o + m * 6 + 5, none⟩ = some (.int .i64 q.sh)) (by kernel_rfl) ?_ (fun hHeld => ?_)
     ·exact hF.out _ (Kp.refl _ _).drew
     have KD : Hid (Kp [] wr wr.drew) := hid (Kp.refl _ _).drew
     generalize wr.drew = Wd at *
     clear x0 x1 x2 x3 x4 x5 y0 y1 y2 y3 y4 y5 b4;refine tkH ?_ 0 rfl (by kernel_rfl) (fun _ _ _ h => h) (by rfl) ?_ ‹_› ?_;rotate_left
     ·intro w h; (try dsimp only at h); go_simp <;> with_reducible rfl
     (try simp only [Act.put, lz]);refine tkH ?_ 1 rfl (by kernel_rfl) (fun _ _ _ h => h) (by rfl) ?_ ‹_› ?_;rotate_left
     ·intro w h; (try dsimp only at h); go_simp <;> with_reducible rfl
     (try simp only [Act.put, lz]);refine tkH ?_ 2 rfl (by kernel_rfl) (fun _ _ _ h => h) (by rfl) ?_ ‹_› ?_;rotate_left
     ·intro w h; (try dsimp only at h); go_simp <;> with_reducible rfl
     (try simp only [Act.put, lz]);refine tkH ?_ 3 rfl (by kernel_rfl) (fun _ _ _ h => h) (by rfl) ?_ ‹_› ?_;rotate_left
     ·intro w h; (try dsimp only at h); go_simp <;> with_reducible rfl
     (try simp only [Act.put, lz]);refine tkH ?_ 4 rfl (by kernel_rfl) (fun _ _ _ h => h) (by rfl) ?_ ‹_› ?_;rotate_left
     ·intro w h; (try dsimp only at h); go_simp <;> with_reducible rfl
     (try simp only [Act.put, lz]);refine tkH ?_ 5 rfl (by kernel_rfl) (fun _ _ _ h => h) (by rfl) ?_ ‹_› ?_;rotate_left
     ·intro w h; (try dsimp only at h); go_simp <;> with_reducible rfl
     (try simp only [Act.put, lz]);refine tkH ?_ 6 rfl (by kernel_rfl) (fun _ _ _ h => h) (by rfl) ?_ ‹_› ?_;rotate_left
     ·intro w h; (try dsimp only at h); go_simp <;> with_reducible rfl
     (try simp only [Act.put, lz]);refine tkH ?_ 7 rfl (by kernel_rfl) (fun _ _ _ h => h) (by rfl) ?_ ‹_› ?_;rotate_left
     ·intro w h; (try dsimp only at h); go_simp <;> with_reducible rfl
     (try simp only [Act.put, lz]);refine tkH ?_ 8 rfl (by kernel_rfl) (fun _ _ _ h => h) (by rfl) ?_ ‹_› ?_;rotate_left
     ·intro w h; (try dsimp only at h); go_simp <;> with_reducible rfl
     (try simp only [Act.put, lz]);refine tkH ?_ 9 rfl (by kernel_rfl) (fun _ _ _ h => h) (by rfl) ?_ ‹_› ?_;rotate_left
     ·intro w h; (try dsimp only at h); go_simp <;> with_reducible rfl
     (try simp only [Act.put, lz]);refine tkH ?_ 10 rfl (by kernel_rfl) (fun _ _ _ h => h) (by rfl) ?_ ‹_› ?_;rotate_left
     ·intro w h; (try dsimp only at h); go_simp <;> with_reducible rfl
     (try simp only [Act.put, lz]);refine tkH ?_ 11 rfl (by kernel_rfl) (fun _ _ _ h => h) (by rfl) ?_ ‹_› ?_;rotate_left
     ·intro w h; (try dsimp only at h); go_simp <;> with_reducible rfl
     (try simp only [Act.put, lz]);refine tkH ?_ 12 rfl (by kernel_rfl) (fun _ _ _ h => h) (by rfl) ?_ ‹_› ?_;rotate_left
     ·intro w h; (try dsimp only at h); go_simp <;> with_reducible rfl
     (try simp only [Act.put, lz]);refine tkH ?_ 13 rfl (by kernel_rfl) (fun _ _ _ h => h) (by rfl) ?_ ‹_› ?_;rotate_left
     ·intro w h; (try dsimp only at h); go_simp <;> with_reducible rfl
     (try simp only [Act.put, lz]);refine tkH ?_ 14 rfl (by kernel_rfl) (fun _ _ _ h => h) (by rfl) ?_ ‹_› ?_;rotate_left
     ·intro w h; (try dsimp only at h); go_simp <;> with_reducible rfl
     (try simp only [Act.put, lz]);refine rdH 15 (by kernel_rfl) rfl fun K hK => ?_
     go_simp;refine (aA.out Wd (km.out.trans KD.out (by simp))).mono ?_
     rintro e w5 ⟨rfl, k5⟩;(try go_wp2_with fail);refine hK.out _ _ ?_ (fun hHeld => ?_)
     ·exact hF.out _ (KD.out.trans k5 (by simp))
     clear hK K;(try simp only [Act.put, lz]);have K5 := hid (KD.out.trans k5 (by simp))
     clear k5 aA hF;refine tkH ?_ 16 rfl (by kernel_rfl) (fun _ _ _ h => h) (by rfl) ?_ ‹_› ?_;rotate_left
     ·intro w h; (try dsimp only at h); go_simp <;> with_reducible rfl
     (try simp only [Act.put, lz]);refine wpAnyH_done (by kernel_rfl) ?_ _
     clear hHeld;have km5 := hid (km.out.trans K5.out (by simp))
     cases V with
     | true =>
      have hR : Hid (r = true) := by show _ = _; rw [← hr.out]; exact htr.out rfl
      clear htr hins;go_wp2_with fail;go_ret;exact ⟨by rw [hR.out]; rfl, km5.out⟩
     | false =>
      have hins2 : Hid (rvIn c.pl t AL j (m + 1) = false) := by show _ = _; rw [hins.out]; rfl
      clear htr hins;go_wp2_with fail;exact ⟨⟨m + 1, by omega, by go_num, hins2, hid (bx2.out.kept K5.out), km5⟩, by simp [intOf]; omega⟩
    ·have e : m = c.pl.length := by omega
     have hsu2 : Hid (rvTo c.pl t AL (j + 1) = false) := by show _ = _; rw [hsu.out, ← e, hin.out]; rfl
     have e2 : ((m : Int) < (c.pl.length : Int)) = False := by simp [e]
     go_wp2_with fail;exact ⟨⟨j + 1, by omega, by go_num, hsu2, bx2, km⟩, by simp [intOf]; omega⟩
  ·have e : j = c.pl.length := by omega
   have hR : Hid (r = false) := by show _ = _; rw [← hr.out, ← e]; exact hst.out
   subst e;go_wp2_with fail;go_ret;exact ⟨by rw [hR.out]; rfl, kr.out⟩
theorem wpAppRun {P : Program} {w w' : World} {ops : Array Oper} {rest : List Oper} {o : Oper} {a : Act} {Q : Exit → Act → World → Prop} (hgd : o.guard = none) (s x : Operand) (t tx : TypeId)
  (ho : o.op = .call { callee := .builtin .append, args := #[s, x], argTypes := #[t, tx] }) (v xv v' : Value) (hv : a.eval s = v) (hx : a.eval x = xv)
  (hrun : (Builtin.append_ #[t, tx] o.type #[v, xv]).run P w = .ok v' w') (h : wpList P ops Q rest (a.put o.dst v') w') : wpList P ops Q (o :: rest) a w := by
 refine wpList_plain hgd fun K hK' => ?_
 have hfin := hK' _ _ h
 unfold Oper.wp
 simp [execOp, ho, resolve, invoke, builtin, hv, hx, hrun, Result.andThen]
 exact hfin
def sgTo (M s : Nat) : List (Nat × Nat) := (List.range s).map fun k => (k / M, k % M)
theorem sgTo_len (M s : Nat) : (sgTo M s).length = s := by simp [sgTo]
theorem sgTo_succ (M k j : Nat) (h : j < M) : sgTo M (k * M + j + 1) = sgTo M (k * M + j) ++ [(k, j)] := by
 unfold sgTo
 rw [List.range_succ, List.map_append];have e1 : (k * M + j) / M = k := by rw [Nat.add_comm, Nat.add_mul_div_right _ _ (by omega), Nat.div_eq_of_lt h]; omega
 have e2 : (k * M + j) % M = j := by rw [Nat.add_comm, Nat.add_mul_mod_self_right, Nat.mod_eq_of_lt h]
 simp only [List.map_cons, List.map_nil, e1, e2]
theorem appSg (w : World) (a : Option Addr) (cp : Nat) (l : List (Nat × Nat)) (x : Nat × Nat) (N : Nat) (hrow : SgE.Row w (.slice a l.length cp) l) (hnw : ∀ k ∈ blk a, N ≤ k) (hN : N ≤ w.heap.size) (hl : l.length ≤ 1000000) :
  ∃ a' cp' W', (Builtin.append_ #[48, 48] 48 #[.slice a l.length cp, .slice (some ⟨w.heap.size, 0, none⟩) 1 1]).run Tryz.prog (w.alloc (.cells #[.int .i64 (x.1 : Int), .int .i64 (x.2 : Int)] 82)) = .ok (.slice a' (l ++ [x]).length cp') W' ∧ SgE.Row W' (.slice a' (l ++ [x]).length cp') (l ++ [x]) ∧ (∀ k ∈ blk a', N ≤ k) ∧ Kp (blk a) w W' := by
 obtain ⟨A1, hA1⟩ : ∃ A1, w.alloc (.cells #[.int .i64 (x.1 : Int), .int .i64 (x.2 : Int)] 82) = A1 := ⟨_, rfl⟩
 have kA1 : Kp [] w A1 := by rw [← hA1]; exact (Kp.refl _ _).alloc _
 have bx1 : Bn A1 w.heap.size (SgE.c x) := by rw [← hA1]; exact Bn.new w (SgE.c x) _
 have hs1 : SgE.See A1 (some ⟨w.heap.size, 0, none⟩) [x] := .inr ⟨w.heap.size, 0, rfl, fun j u hu => by rw [Nat.zero_add]; exact bx1.get j u (by simpa [El.cs] using hu)⟩
 obtain ⟨i0, hi, hz0', hz1', hz2'⟩ := infoSg;have hsr := hs1.src (P := Tryz.prog) Tryz.underlying48 1
 obtain ⟨v', A2, hrun, hrow2, k2, hn2⟩ := run_appendG (E := SgE) (P := Tryz.prog) A1 48 48 48 82 i0 _ 16 Tryz.underlying48 hi hz0' hz1' hz2' rfl (.slice a l.length cp) l (hrow.keptNew kA1) _ [x] hsr (by simp only [List.length_cons, List.length_nil]; omega) (by simp only [List.length_cons, List.length_nil]; omega)
 obtain ⟨a', c', rfl, _⟩ := hrow2.see;simp only [ownSl] at k2 hn2;rw [hA1];have z1 := kA1.size
 exact ⟨a', c', A2, hrun, hrow2, fun k hk => by
  rcases hn2 k hk with e | e
  ·exact hnw k e
  ·omega, (kA1.mono (by simp)).trans k2 (fun j hj => .inl hj)⟩
theorem rSegments (c : Cg) (M P : Nat) (w : World) (hM : c.s = (M : Int)) (hPl : c.pl.length = P) (hM8 : M ≤ 8) (hP8 : P ≤ 8) : Calls Tryz.prog 72 #[c.v] w (OfP (sgTo M (P * M)) w) := by
 obtain ⟨W, eW, kW, zW, bC⟩ := boxC c w;simp only [Cg.v];rw [hM, hPl] at eW bC;rw [hM, hPl];have BC := hid bC
 have KW := hid kW
 have zW' : w.heap.size < W.heap.size := by omega
 have hF : Hid (∀ w', Kp [] W w' → w'.cell? ⟨w.heap.size, 1, none⟩ = some (.int .i64 (M : Int)) ∧ w'.cell? ⟨w.heap.size, 4, none⟩ = some (.slice c.pa P c.pc)) := fun w' k => ⟨(BC.out.kept k).get 1 _ rfl, (BC.out.kept k).get 4 _ rfl⟩
 have hzW := hid (And.intro zW hPl)
 clear kW bC zW hM hPl;go_enter Tryz.func72, Tryz.ntmps72
 go_wp2_with fail;go_loopw [3, 4, 5] (fun lv pv _ wr => ∃ (k : Nat) (a : Option Addr) (cp : Nat) (l : List (Nat × Nat)), k ≤ P ∧ pv = .int .i64 k ∧ lv = .slice a l.length cp ∧ Hid (l = sgTo M (k * M)) ∧ Hid (SgE.Row wr (.slice a l.length cp) l ∧ (∀ z ∈ blk a, W.heap.size ≤ z) ∧ Kp [] W wr)) (fun _ pv _ _ => P - (intOf pv).toNat)
 case atStart => exact ⟨0, none, 0, [], Nat.zero_le _, rfl, rfl, hid (by simp [sgTo]), hid ⟨.inl ⟨rfl, rfl⟩, by simp [blk], Kp.refl _ _⟩⟩
 case round =>
  obtain ⟨k, a, cp, l, hk, rfl, rfl, hl, hw⟩ := hrel;obtain ⟨b1, b4⟩ := hF.out _ hw.out.2.2
  by_cases hkl : k < P
  ·have i1 : (0 : Int) ≤ (k : Int) := by omega
   have i2 : (k : Int) < (P : Int) := by omega
   have i3 : (k : Int) + 1 ≤ 9223372036854775807 := by omega
   go_wp2_with fail;clear b1 b4;go_loopw [3, 5] (fun lv nv wn => ∃ (j : Nat) (a : Option Addr) (cp : Nat) (l : List (Nat × Nat)), j ≤ M ∧ nv = .int .i64 j ∧ lv = .slice a l.length cp ∧ Hid (l = sgTo M (k * M + j)) ∧ Hid (SgE.Row wn (.slice a l.length cp) l ∧ (∀ z ∈ blk a, W.heap.size ≤ z) ∧ Kp [] W wn)) (fun _ nv _ => M - (intOf nv).toNat)
   case atStart => exact ⟨0, a, cp, l, Nat.zero_le _, rfl, rfl, hl, hw⟩
   case round =>
    obtain ⟨j, a, cp, l, hj, rfl, rfl, hl, hw⟩ := hrel;obtain ⟨b1, b4⟩ := hF.out _ hw.out.2.2
    by_cases hjl : j < M
    ·have j1 : (0 : Int) ≤ (j : Int) := by omega
     have j2 : (j : Int) < (M : Int) := by omega
     have j3 : (j : Int) + 1 ≤ 9223372036854775807 := by omega
     have hlen : l.length ≤ 1000000 := by
      rw [hl.out, sgTo_len];have : k * M ≤ 8 * 8 := Nat.mul_le_mul (by omega) hM8
      omega
     have hzw := hw.out.2.2.size
     obtain ⟨a', cp', W', hrun, hrow', hnw', k'⟩ := appSg wr a cp l (k, j) W.heap.size hw.out.1 hw.out.2.1 hzw hlen;have hl2 : Hid (l ++ [(k, j)] = sgTo M (k * M + (j + 1))) := by show _ = _; rw [← Nat.add_assoc, sgTo_succ M k j hjl, ← hl.out]
     have hw2 : Hid (SgE.Row W' (.slice a' (l ++ [(k, j)]).length cp') (l ++ [(k, j)]) ∧ (∀ z ∈ blk a', W.heap.size ≤ z) ∧ Kp [] W W') := hid ⟨hrow', hnw', hw.out.2.2.trans k' (fun z hz => .inr (hw.out.2.1 z hz))⟩
     obtain ⟨L2, hL2⟩ : ∃ L2, Hid (l ++ [(k, j)] = L2) := ⟨_, hid rfl⟩
     rw [hL2.out] at hl2 hw2 hrun;clear hrow' hnw' k' hlen hl hw;dsimp only at hrun;go_wp2_with (first | (refine wpAppRun rfl _ _ 48 48 rfl _ _ _ rfl rfl hrun ?_) | fail)
     exact ⟨⟨j + 1, a', cp', L2, by omega, by go_num, rfl, hl2, hw2⟩, by simp [intOf]; omega⟩
    ·have e : j = M := by omega
     have e2 : ((j : Int) < (M : Int)) = False := by simp [e]
     have hl2 : Hid (l = sgTo M ((k + 1) * M)) := by show _ = _; rw [Nat.succ_mul, hl.out, e]
     clear hl;go_wp2_with fail;exact ⟨⟨k + 1, a, cp, l, by omega, by go_num, rfl, hl2, hw⟩, by simp [intOf]; omega⟩
  ·have e : k = P := by omega
   subst e;go_wp2_with fail;go_ret;obtain ⟨_, _, e, hsee, _, hcp, _⟩ := hw.out.1.see
   cases e
   exact ⟨a, cp, by rw [← hl.out]; rfl, by rw [← hl.out]; exact hsee, by rw [← hl.out]; exact hcp, KW.out.trans hw.out.2.2 (by simp)⟩
theorem i64w (x : Int) (h0 : -9223372036854775808 ≤ x) (h1 : x ≤ 9223372036854775807) : IntKind.i64.wrap x = x := by
 rw [IntKind.wrap_i64];omega
theorem appI (w : World) (a : Option Addr) (cp : Nat) (l : List Int) (x : Int) (N : Nat) (hrow : IntE.Row w (.slice a l.length cp) l) (hnw : ∀ k ∈ blk a, N ≤ k) (hN : N ≤ w.heap.size) (hl : l.length ≤ 1000000) :
  ∃ a' cp' W', (Builtin.append_ #[27, 27] 27 #[.slice a l.length cp, .slice (some ⟨w.heap.size, 0, none⟩) 1 1]).run Tryz.prog (w.alloc (.cells #[.int .i64 x] 3)) = .ok (.slice a' (l ++ [x]).length cp') W' ∧ IntE.Row W' (.slice a' (l ++ [x]).length cp') (l ++ [x]) ∧ (∀ k ∈ blk a', N ≤ k) ∧ Kp (blk a) w W' := by
 obtain ⟨A1, hA1⟩ : ∃ A1, w.alloc (.cells #[.int .i64 x] 3) = A1 := ⟨_, rfl⟩
 have kA1 : Kp [] w A1 := by rw [← hA1]; exact (Kp.refl _ _).alloc _
 have bx1 : Bn A1 w.heap.size (IntE.c x) := by rw [← hA1]; exact Bn.new w (IntE.c x) _
 have hs1 : IntE.See A1 (some ⟨w.heap.size, 0, none⟩) [x] := .inr ⟨w.heap.size, 0, rfl, fun j u hu => by rw [Nat.zero_add]; exact bx1.get j u (by simpa [El.cs] using hu)⟩
 obtain ⟨i0, hi, hz0', hz1', hz2'⟩ := infoI;have hsr := hs1.src (P := Tryz.prog) Tryz.underlying27 1
 obtain ⟨v', A2, hrun, hrow2, k2, hn2⟩ := run_appendG (E := IntE) (P := Tryz.prog) A1 27 27 27 3 i0 _ 8 Tryz.underlying27 hi hz0' hz1' hz2' rfl (.slice a l.length cp) l (hrow.keptNew kA1) _ [x] hsr (by simp only [List.length_cons, List.length_nil]; omega) (by simp only [List.length_cons, List.length_nil]; omega)
 obtain ⟨a', c', rfl, _⟩ := hrow2.see;simp only [ownSl] at k2 hn2;rw [hA1];have z1 := kA1.size
 exact ⟨a', c', A2, hrun, hrow2, fun k hk => by
  rcases hn2 k hk with e | e
  ·exact hnw k e
  ·omega, (kA1.mono (by simp)).trans k2 (fun j hj => .inl hj)⟩
def RnP (l : List Int) (w : World) (e : Ending) (w' : World) : Prop := ∃ (a : Option Addr) (cp : Nat), e = .returned (.slice a l.length cp) ∧ IntE.See w' a l ∧ l.length ≤ cp ∧ 0 ≤ cp ∧ Kp [] w w'
theorem rNodes (c : Cg) (P S : Int) (w : World) (hc : c.ok w) (hn : cntd c = true) (hsh : ∀ p ∈ c.pl, wi p.sh c.n = true) : Calls Tryz.prog 73 #[c.v, .agg #[.int .i64 P, .int .i64 S]] w (RnP (ndsC c P S) w) := by
 obtain ⟨W, eW, kW, zW, bC, bA⟩ := boxCA c P S w;have KW := hid kW
 have HC := hid hc
 have BB := hid (And.intro bC bA)
 have hN := (cntd_iff c).1 hn
 have zW' : w.heap.size + 1 < W.heap.size := by omega
 have HSH := hid hsh
 have cc0 := bC.get 0 _ rfl; have cc1 := bC.get 1 _ rfl; have cc2 := bC.get 2 _ rfl; have cc3 := bC.get 3 _ rfl; have cc4 := bC.get 4 _ rfl
 have aa0 := bA.get 0 _ rfl; have aa1 := bA.get 1 _ rfl
 clear kW bC bA hc hn hsh zW;unfold ndsC
 simp only [Cg.v] at *
 by_cases h1 : P < 0
 ·have d1 : decide (P < 0) = true := by simpa using h1
  have hL : liesC c P S = false := by unfold liesC wi; simp; omega
  rw [hL, if_neg (by simp)]
  clear hN hL;go_enter Tryz.func73, Tryz.ntmps73
  go_wp2_with fail;go_returns;exact ⟨none, 0, rfl, .inl rfl, by simp, by omega, KW.out⟩
 have d1 : decide (P < 0) = false := by simpa using h1
 by_cases h2 : (c.pl.length : Int) ≤ P
 ·have d2 : decide ((c.pl.length : Int) ≤ P) = true := by simpa using h2
  have hL : liesC c P S = false := by unfold liesC wi; simp; omega
  rw [hL, if_neg (by simp)]
  clear hN hL;go_enter Tryz.func73, Tryz.ntmps73
  go_wp2_with fail;go_returns;exact ⟨none, 0, rfl, .inl rfl, by simp, by omega, KW.out⟩
 have d2 : decide ((c.pl.length : Int) ≤ P) = false := by simpa using h2
 by_cases h3 : S < 0
 ·have d3 : decide (S < 0) = true := by simpa using h3
  have hL : liesC c P S = false := by unfold liesC wi; simp; omega
  rw [hL, if_neg (by simp)]
  clear hN hL;go_enter Tryz.func73, Tryz.ntmps73
  go_wp2_with fail;go_returns;exact ⟨none, 0, rfl, .inl rfl, by simp, by omega, KW.out⟩
 have d3 : decide (S < 0) = false := by simpa using h3
 by_cases h4 : c.s ≤ S
 ·have d4 : decide (c.s ≤ S) = true := by simpa using h4
  have hL : liesC c P S = false := by unfold liesC wi; simp; omega
  rw [hL, if_neg (by simp)]
  clear hN hL;go_enter Tryz.func73, Tryz.ntmps73
  go_wp2_with fail;go_returns;exact ⟨none, 0, rfl, .inl rfl, by simp, by omega, KW.out⟩
 have d4 : decide (c.s ≤ S) = false := by simpa using h4
 have hL : liesC c P S = true := by unfold liesC wi; simp; omega
 rw [hL, if_pos rfl];obtain ⟨i, rfl⟩ := Int.eq_ofNat_of_zero_le (show 0 ≤ P by omega)
 have hil : i < c.pl.length := by omega
 have d2n : decide (c.pl.length ≤ i) = false := by simp; omega
 obtain ⟨g, o, eg, _, _, _, _, _, x5⟩ := pjAt (HC.out.ps.keptNew KW.out) (j := i) (p := c.pl[i]) (by simp [hil])
 have hs1 := HSH.out _ (List.getElem_mem hil)
 have hgd : (c.pl.getD (i : Int).toNat default).sh = c.pl[i].sh := by simp [hil]
 rw [hgd];generalize c.pl[i].sh = sh at *
 unfold wi at hs1
 simp only [Bool.and_eq_true, decide_eq_true_eq] at hs1;obtain ⟨K, hK⟩ := Int.eq_ofNat_of_zero_le hN.2.1.1;rw [eg] at eW BB cc4;rw [eg];rw [hK] at eW BB cc2;rw [hK];have i1 : (0 : Int) ≤ (i : Int) := by omega
 have i2 : (i : Int) < (c.pl.length : Int) := by omega
 have hF : Hid (∀ W', Kp [] W W' → (W'.cell? ⟨w.heap.size, 0, none⟩ = some (.int .i64 c.n) ∧ W'.cell? ⟨w.heap.size, 1, none⟩ = some (.int .i64 c.s) ∧ W'.cell? ⟨w.heap.size, 2, none⟩ = some (.int .i64 (K : Int)) ∧ W'.cell? ⟨w.heap.size, 3, none⟩ = some (.slice c.ta c.tl.length c.tc) ∧ W'.cell? ⟨w.heap.size, 4, none⟩ = some (.slice (some ⟨g, o, none⟩) c.pl.length c.pc) ∧ W'.cell? ⟨w.heap.size + 1, 0, none⟩ = some (.int .i64 (i : Int)) ∧ W'.cell? ⟨w.heap.size + 1, 1, none⟩ = some (.int .i64 S) ∧ W'.cell? ⟨g, o + i * 6 + 5, none⟩ = some (.int .i64 sh))) := fun W' k => by
  have h1 := BB.out.1.kept k
  have h2 := BB.out.2.kept k
  exact ⟨h1.get 0 _ rfl, h1.get 1 _ rfl, h1.get 2 _ rfl, h1.get 3 _ rfl, h1.get 4 _ rfl, h2.get 0 _ rfl, h2.get 1 _ rfl, kpAt k x5⟩
 have hn1 : 1 ≤ c.n := hN.1.1
 have hn8 : c.n ≤ 8 := hN.1.2
 have hn0 : (c.n == 0) = false := by simp; omega
 obtain ⟨F, hFe⟩ : ∃ F, S + sh = F := ⟨_, rfl⟩
 have hFb : 0 ≤ F ∧ F ≤ 16 := by omega
 have b1 : (-9223372036854775808 : Int) ≤ S + sh := by omega
 have b2 : S + sh ≤ 9223372036854775807 := by omega
 have hK8 : K < 8 := by omega
 rw [hFe, show ((K : Int)).toNat = K by simp]
 have HN := hid hN
 have HK := hid hK
 have HFe := hid hFe
 clear h1 h2 h3 h4 x5 hgd hs1 hN hK hL;go_enter Tryz.func73, Tryz.ntmps73
 go_wp2_with fail;clear cc0 cc1 cc2 cc3 cc4 aa0 aa1 eW;go_loopw [5, 6] (fun lv jv wr => ∃ (j : Nat) (a : Option Addr) (cp : Nat) (l : List Int), j ≤ K + 1 ∧ jv = .int .i64 j ∧ lv = .slice a l.length cp ∧ Hid (l = ring F c.n j) ∧ Hid (IntE.Row wr (.slice a l.length cp) l ∧ (∀ z ∈ blk a, W.heap.size ≤ z) ∧ Kp [] W wr)) (fun _ jv _ => K + 1 - (intOf jv).toNat)
 case atStart => exact ⟨0, none, 0, [], Nat.zero_le _, rfl, rfl, hid (by simp [ring]), hid ⟨.inl ⟨rfl, rfl⟩, by simp [blk], Kp.refl _ _⟩⟩
 case round =>
  obtain ⟨j, a, cp, l, hj, rfl, rfl, hl, hw⟩ := hrel;obtain ⟨q0, q1, q2, q3, q4, q5, q6, q7⟩ := hF.out _ hw.out.2.2
  by_cases hlt : j ≤ K
  ·have j1 : (j : Int) ≤ (K : Int) := by omega
   have j3 : (j : Int) + 1 ≤ 9223372036854775807 := by omega
   have j4 : (-9223372036854775808 : Int) ≤ F + (j : Int) := by omega
   have j5 : F + (j : Int) ≤ 9223372036854775807 := by omega
   have hmod : Int.tmod (F + (j : Int)) c.n = (F + (j : Int)) % c.n := Int.tmod_eq_emod_of_nonneg (by omega)
   obtain ⟨V, hV⟩ : ∃ V, (F + (j : Int)) % c.n = V := ⟨_, rfl⟩
   rw [hV] at hmod;have hlen : l.length ≤ 1000000 := by rw [hl.out, ring_length]; omega
   have hs2 := hid (ring_succ F c.n j)
   rw [hV] at hs2;have hF2 : Hid (∀ W', Kp [] wr W' → (W'.cell? ⟨w.heap.size, 0, none⟩ = some (.int .i64 c.n) ∧ W'.cell? ⟨w.heap.size, 1, none⟩ = some (.int .i64 c.s) ∧ W'.cell? ⟨w.heap.size, 2, none⟩ = some (.int .i64 (K : Int)) ∧ W'.cell? ⟨w.heap.size, 3, none⟩ = some (.slice c.ta c.tl.length c.tc) ∧ W'.cell? ⟨w.heap.size, 4, none⟩ = some (.slice (some ⟨g, o, none⟩) c.pl.length c.pc) ∧ W'.cell? ⟨w.heap.size + 1, 0, none⟩ = some (.int .i64 (i : Int)) ∧ W'.cell? ⟨w.heap.size + 1, 1, none⟩ = some (.int .i64 S) ∧ W'.cell? ⟨g, o + i * 6 + 5, none⟩ = some (.int .i64 sh))) := fun W' k => hF.out _ (hw.out.2.2.trans k (by simp))
   have wF : IntKind.i64.wrap F = F := i64w F (by omega) (by omega)
   have wFj : IntKind.i64.wrap (F + (j : Int)) = F + (j : Int) := i64w _ (by omega) (by omega)
   have hnz : (c.n = 0) = False := by simp; omega
   clear hV;go_wp2_with fail;refine wp_region_held_drew (S := fun W' => W'.cell? ⟨w.heap.size, 0, none⟩ = some (.int .i64 c.n) ∧ W'.cell? ⟨w.heap.size, 1, none⟩ = some (.int .i64 c.s) ∧ W'.cell? ⟨w.heap.size, 2, none⟩ = some (.int .i64 (K : Int)) ∧ W'.cell? ⟨w.heap.size, 3, none⟩ = some (.slice c.ta c.tl.length c.tc) ∧ W'.cell? ⟨w.heap.size, 4, none⟩ = some (.slice (some ⟨g, o, none⟩) c.pl.length c.pc) ∧ W'.cell? ⟨w.heap.size + 1, 0, none⟩ = some (.int .i64 (i : Int)) ∧ W'.cell? ⟨w.heap.size + 1, 1, none⟩ = some (.int .i64 S) ∧ W'.cell? ⟨g, o + i * 6 + 5, none⟩ = some (.int .i64 sh)) (by kernel_rfl) ?_ (fun hHeld => ?_)
   ·exact hF2.out _ (Kp.refl _ _).drew
   have KD : Hid (Kp [] wr wr.drew) := hid (Kp.refl _ _).drew
   generalize wr.drew = Wd at *
   have zD := KD.out.size
   have zw := hw.out.2.2.size
   obtain ⟨a', cp', W5, hrun, hrow', hnw', k'⟩ := appI Wd a cp l V W.heap.size (hw.out.1.keptNew KD.out) hw.out.2.1 (by omega) hlen
   clear q0 q1 q2 q3 q4 q5 q6 q7;refine tkH ?_ 0 rfl (by kernel_rfl) (fun _ _ _ h => h) (by rfl) ?_ ‹_› ?_;rotate_left
   ·intro w h; (try dsimp only at h); go_simp <;> with_reducible rfl
   (try simp only [Act.put, lz]);refine tkH ?_ 1 rfl (by kernel_rfl) (fun _ _ _ h => h) (by rfl) ?_ ‹_› ?_;rotate_left
   ·intro w h; (try dsimp only at h); go_simp <;> with_reducible rfl
   (try simp only [Act.put, lz]);refine tkH ?_ 2 rfl (by kernel_rfl) (fun _ _ _ h => h) (by rfl) ?_ ‹_› ?_;rotate_left
   ·intro w h; (try dsimp only at h); go_simp <;> with_reducible rfl
   (try simp only [Act.put, lz]);refine tkH ?_ 3 rfl (by kernel_rfl) (fun _ _ _ h => h) (by rfl) ?_ ‹_› ?_;rotate_left
   ·intro w h; (try dsimp only at h); go_simp <;> with_reducible rfl
   (try simp only [Act.put, lz]);refine tkH ?_ 4 rfl (by kernel_rfl) (fun _ _ _ h => h) (by rfl) ?_ ‹_› ?_;rotate_left
   ·intro w h; (try dsimp only at h); go_simp <;> with_reducible rfl
   (try simp only [Act.put, lz]);refine tkH ?_ 5 rfl (by kernel_rfl) (fun _ _ _ h => h) (by rfl) ?_ ‹_› ?_;rotate_left
   ·intro w h; (try dsimp only at h); go_simp <;> with_reducible rfl
   (try simp only [Act.put, lz]);refine tkH ?_ 6 rfl (by kernel_rfl) (fun _ _ _ h => h) (by rfl) ?_ ‹_› ?_;rotate_left
   ·intro w h; (try dsimp only at h); go_simp <;> with_reducible rfl
   (try simp only [Act.put, lz]);refine tkH ?_ 7 rfl (by kernel_rfl) (fun _ _ _ h => h) (by rfl) ?_ ‹_› ?_;rotate_left
   ·intro w h; (try dsimp only at h); go_simp <;> with_reducible rfl
   (try simp only [Act.put, lz]);refine tkH ?_ 8 rfl (by kernel_rfl) (fun _ _ _ h => h) (by rfl) ?_ ‹_› ?_;rotate_left
   ·intro w h; (try dsimp only at h); go_simp <;> with_reducible rfl
   (try simp only [Act.put, lz]);refine tkH ?_ 9 rfl (by kernel_rfl) (fun _ _ _ h => h) (by rfl) ?_ ‹_› ?_;rotate_left
   ·intro w h; (try dsimp only at h); go_simp <;> with_reducible rfl
   (try simp only [Act.put, lz]);refine tkH ?_ 10 rfl (by kernel_rfl) (fun _ _ _ h => h) (by rfl) ?_ ‹_› ?_;rotate_left
   ·intro w hSw; (try dsimp only at hSw); go_simp <;> (try simp only [wF, wFj, hmod, hnz, if_false]) <;> with_reducible rfl
   (try simp only [Act.put, lz]);try simp only [hFe, wF]
   refine tkH ?_ 11 rfl (by kernel_rfl) (fun _ _ _ h => h) (by rfl) ?_ ‹_› ?_;rotate_left
   ·intro w h; (try dsimp only at h); go_simp <;> with_reducible rfl
   (try simp only [Act.put, lz]);refine tkH ?_ 12 rfl (by kernel_rfl) (fun _ _ _ h => h) (by rfl) ?_ ‹_› ?_;rotate_left
   ·intro w hSw; (try dsimp only at hSw); go_simp <;> (try simp only [wF, wFj, hmod, hnz, if_false]) <;> with_reducible rfl
   (try simp only [Act.put, lz]);try simp only [wFj]
   refine tkH ?_ 13 rfl (by kernel_rfl) (fun _ _ _ h => h) (by rfl) ?_ ‹_› ?_;rotate_left
   ·intro w h; (try dsimp only at h); go_simp <;> with_reducible rfl
   (try simp only [Act.put, lz]);refine tkH ?_ 14 rfl (by kernel_rfl) (fun _ _ _ h => h) (by rfl) ?_ ‹_› ?_;rotate_left
   ·intro w h; (try dsimp only at h); go_simp <;> with_reducible rfl
   (try simp only [Act.put, lz]);refine tkH ?_ 15 rfl (by kernel_rfl) (fun _ _ _ h => h) (by rfl) ?_ ‹_› ?_;rotate_left
   ·intro w hSw; (try dsimp only at hSw); go_simp <;> (try simp only [wF, wFj, hmod, hnz, if_false]) <;> with_reducible rfl
   (try simp only [Act.put, lz]);try simp only [hmod]
   refine rdH 16 (by kernel_rfl) rfl fun K hK => ?_
   go_simp;(try go_wp2_with fail);refine hK.out _ _ ?_ (fun hHeld => ?_)
   ·exact hF2.out _ (KD.out.alloc _)
   clear hK K;(try simp only [Act.put, lz]);clear hHeld;have k5 : Kp [] W W5 := (hw.out.2.2.trans KD.out (by simp)).trans k' (fun x hx => .inr (hw.out.2.1 x hx))
   have hl2 : Hid (l ++ [V] = ring F c.n (j + 1)) := by show _ = _; rw [hs2.out, ← hl.out]
   obtain ⟨L2, hL2⟩ : ∃ L2, Hid (l ++ [V] = L2) := ⟨_, hid rfl⟩
   rw [hL2.out] at hl2 hrun hrow';have hw2 : Hid (IntE.Row W5 (.slice a' L2.length cp') L2 ∧ (∀ z ∈ blk a', W.heap.size ≤ z) ∧ Kp [] W W5) := hid ⟨hrow', hnw', k5⟩
   have KK := hid k5
   clear hrow' hnw' k' k5;refine rdH 17 (by kernel_rfl) rfl fun K hK => ?_
   refine stepAppRun rfl _ _ 27 27 rfl _ _ _ rfl rfl hrun ?_;refine hK.out _ _ ?_ (fun hHeld => ?_)
   ·exact hF.out _ KK.out
   clear hK K;(try simp only [Act.put, lz]);refine tkH ?_ 18 rfl (by kernel_rfl) (fun _ _ _ h => h) (by rfl) ?_ ‹_› ?_;rotate_left
   ·intro w h; (try dsimp only at h); go_simp <;> with_reducible rfl
   (try simp only [Act.put, lz]);refine wpAnyH_done (by kernel_rfl) ?_ _
   clear hHeld hrun;go_wp2_with fail;exact ⟨⟨j + 1, a', cp', L2, by omega, by go_num, rfl, hl2, hw2⟩, by simp [intOf]; omega⟩
  ·have e : j = K + 1 := by omega
   subst e;have e2 : decide ((((K + 1 : Nat) : Int)) ≤ (K : Int)) = false := by simp; omega
   go_wp2_with fail;go_ret;obtain ⟨_, _, e, hsee, _, hcp, _⟩ := hw.out.1.see
   cases e
   exact ⟨a, cp, by rw [← hl.out]; rfl, by rw [← hl.out]; exact hsee, by rw [← hl.out]; exact hcp, by omega, KW.out.trans hw.out.2.2 (by simp)⟩
theorem sgAt2 {w : World} {a : Option Addr} {l : List (Nat × Nat)} (h : SgE.See w a l) {j : Nat} {x : Nat × Nat} (hx : l[j]? = some x) : ∃ g f, a = some ⟨g, f, none⟩ ∧ w.cell? ⟨g, f + j * 2, none⟩ = some (.int .i64 (x.1 : Int)) ∧ w.cell? ⟨g, f + j * 2 + 1, none⟩ = some (.int .i64 (x.2 : Int)) := by
 obtain ⟨g, f, rfl, hc⟩ := h.at hx;exact ⟨g, f, rfl, hc 0 _ rfl, hc 1 _ rfl⟩
theorem rOf (c : Cg) (node : Int) (M : Nat) (w : World) (hM : c.s = (M : Int)) (hc : c.ok w) (hn : cntd c = true) (hsh : ∀ p ∈ c.pl, wi p.sh c.n = true) (hp8 : c.pl.length ≤ 8) : Calls Tryz.prog 33 #[c.v, .int .i64 node] w (OfP (ofC c M node) w) := by
 obtain ⟨W, eW, kW, zW, bC⟩ := boxC c w;have hMl : M ≤ 8 ∧ 1 ≤ M := by have := (cntd_iff c).1 hn; omega
 have aSg := hid (rSegments c M c.pl.length W hM rfl hMl.1 hp8)
 have HC := hid hc
 have HN := hid (And.intro hn hsh)
 have BC := hid bC
 have KW := hid kW
 have c0 := bC.get 0 _ rfl; have c1 := bC.get 1 _ rfl; have c2 := bC.get 2 _ rfl; have c3 := bC.get 3 _ rfl; have c4 := bC.get 4 _ rfl
 have zW' : w.heap.size < W.heap.size := by omega
 obtain ⟨N, hN⟩ : ∃ N, Hid (c.pl.length * M = N) := ⟨_, hid rfl⟩
 have hN64 : N ≤ 64 := by have h1 : c.pl.length * M ≤ 8 * 8 := Nat.mul_le_mul hp8 hMl.1; have := hN.out; omega
 unfold ofC
 rw [hN.out] at aSg;rw [hN.out];clear kW bC hc hn hsh hM zW;simp only [Cg.v] at *;go_enter Tryz.func33, Tryz.ntmps33
 go_wp2_with fail;refine aSg.out.mono ?_;rintro e w1 ⟨sa, sc, rfl, hss, hsc, k1⟩;have K1 := hid k1
 have HSS := hid hss
 rw [sgTo_len];clear aSg hss hsc k1 c0 c1 c2 c3 c4;go_wp2_with fail;go_loopw [5, 7, 8] (fun lv iv _ wr => ∃ (s : Nat) (a : Option Addr) (cp : Nat) (l : List (Nat × Nat)), s ≤ N ∧ iv = .int .i64 s ∧ lv = .slice a l.length cp ∧ Hid (l = ofTo c M node s) ∧ Hid (SgE.Row wr (.slice a l.length cp) l ∧ (∀ z ∈ blk a, w1.heap.size ≤ z) ∧ Kp [] w1 wr)) (fun _ iv _ _ => N - (intOf iv).toNat)
 case atStart => exact ⟨0, none, 0, [], Nat.zero_le _, rfl, rfl, hid (by simp [ofTo]), hid ⟨.inl ⟨rfl, rfl⟩, by simp [blk], Kp.refl _ _⟩⟩
 case round =>
  obtain ⟨s, a, cp, l, hs, rfl, rfl, hl, hw⟩ := hrel
  by_cases hsl : s < N
  ·have hxg : (sgTo M N)[s]? = some (s / M, s % M) := by simp [sgTo, hsl]
   obtain ⟨x, hx⟩ : ∃ x : Nat × Nat, (s / M, s % M) = x := ⟨_, rfl⟩
   have hxs : x.1 * M + x.2 = s := by rw [← hx, Nat.mul_comm]; exact Nat.div_add_mod s M
   have hx2 : x.2 < M := by rw [← hx]; exact Nat.mod_lt _ (by omega)
   rw [hx] at hxg;obtain ⟨g, o, eg, _⟩ := sgAt2 (HSS.out.keptNew hw.out.2.2) hxg;subst eg
   have hF : Hid (∀ W', Kp [] w1 W' → (W'.cell? ⟨w.heap.size, 0, none⟩ = some (.int .i64 c.n) ∧ W'.cell? ⟨w.heap.size, 1, none⟩ = some (.int .i64 c.s) ∧ W'.cell? ⟨w.heap.size, 2, none⟩ = some (.int .i64 c.k) ∧ W'.cell? ⟨w.heap.size, 3, none⟩ = some (.slice c.ta c.tl.length c.tc) ∧ W'.cell? ⟨w.heap.size, 4, none⟩ = some (.slice c.pa c.pl.length c.pc) ∧ W'.cell? ⟨g, o + s * 2, none⟩ = some (.int .i64 (x.1 : Int)) ∧ W'.cell? ⟨g, o + s * 2 + 1, none⟩ = some (.int .i64 (x.2 : Int)))) := fun W' k => by
    have h1 := BC.out.kept (K1.out.trans k (by simp))
    obtain ⟨g2, o2, e2, y0, y1⟩ := sgAt2 (HSS.out.keptNew k) hxg;injection e2 with e2
    injection e2 with e3 e4
    subst e3 e4;exact ⟨h1.get 0 _ rfl, h1.get 1 _ rfl, h1.get 2 _ rfl, h1.get 3 _ rfl, h1.get 4 _ rfl, y0, y1⟩
   have i1 : (0 : Int) ≤ (s : Int) := by omega
   have i2 : (s : Int) < (N : Int) := by omega
   have i3 : (s : Int) + 1 ≤ 9223372036854775807 := by omega
   have hou := hid (ofTo_succ c M node s x hxs hx2)
   have aN := hid (fun W' (k : Kp [] w1 W') => rNodes c (x.1 : Int) (x.2 : Int) W' (HC.out.kept ((KW.out.trans K1.out (by simp)).trans k (by simp))) HN.out.1 HN.out.2)
   simp only [Cg.v] at aN;have hnl := hid (ndsC_len c (x.1 : Int) (x.2 : Int))
   have hk8 : Hid (c.k.toNat ≤ 8) := by have := (cntd_iff c).1 HN.out.1; exact hid (by omega)
   have hll : l.length ≤ 1000000 := by have := ofTo_len c M node s; rw [hl.out]; omega
   clear hx hxg hxs hx2;go_wp2_with fail;refine wp_region_held_drew (S := fun W' => W'.cell? ⟨w.heap.size, 0, none⟩ = some (.int .i64 c.n) ∧ W'.cell? ⟨w.heap.size, 1, none⟩ = some (.int .i64 c.s) ∧ W'.cell? ⟨w.heap.size, 2, none⟩ = some (.int .i64 c.k) ∧ W'.cell? ⟨w.heap.size, 3, none⟩ = some (.slice c.ta c.tl.length c.tc) ∧ W'.cell? ⟨w.heap.size, 4, none⟩ = some (.slice c.pa c.pl.length c.pc) ∧ W'.cell? ⟨g, o + s * 2, none⟩ = some (.int .i64 (x.1 : Int)) ∧ W'.cell? ⟨g, o + s * 2 + 1, none⟩ = some (.int .i64 (x.2 : Int))) (by kernel_rfl) ?_ (fun hHeld => ?_)
   ·exact hF.out _ (hw.out.2.2.trans (Kp.refl [] wr).drew (by simp))
   have KD : Hid (Kp [] wr wr.drew) := hid (Kp.refl _ _).drew
   generalize wr.drew = Wd at *
   have K1D := hid (hw.out.2.2.trans KD.out (by simp))
   refine tkH ?_ 0 rfl (by kernel_rfl) (fun _ _ _ h => h) (by rfl) ?_ ‹_› ?_;rotate_left
   ·intro w h; (try dsimp only at h); go_simp <;> with_reducible rfl
   (try simp only [Act.put, lz]);refine tkH ?_ 1 rfl (by kernel_rfl) (fun _ _ _ h => h) (by rfl) ?_ ‹_› ?_;rotate_left
   ·intro w h; (try dsimp only at h); go_simp <;> with_reducible rfl
   (try simp only [Act.put, lz]);refine tkH ?_ 2 rfl (by kernel_rfl) (fun _ _ _ h => h) (by rfl) ?_ ‹_› ?_;rotate_left
   ·intro w h; (try dsimp only at h); go_simp <;> with_reducible rfl
   (try simp only [Act.put, lz]);refine tkH ?_ 3 rfl (by kernel_rfl) (fun _ _ _ h => h) (by rfl) ?_ ‹_› ?_;rotate_left
   ·intro w h; (try dsimp only at h); go_simp <;> with_reducible rfl
   (try simp only [Act.put, lz]);refine tkH ?_ 4 rfl (by kernel_rfl) (fun _ _ _ h => h) (by rfl) ?_ ‹_› ?_;rotate_left
   ·intro w h; (try dsimp only at h); go_simp <;> with_reducible rfl
   (try simp only [Act.put, lz]);refine tkH ?_ 6 rfl (by kernel_rfl) (fun _ _ _ h => h) (by rfl) ?_ ‹_› ?_;rotate_left
   ·intro w h; (try dsimp only at h); go_simp <;> with_reducible rfl
   (try simp only [Act.put, lz]);refine rdH 5 (by kernel_rfl) rfl fun K hK => ?_
   go_simp;refine (aN.out Wd K1D.out).mono ?_;rintro e wn ⟨na, nc, rfl, hns, hnc, hn8, kn⟩;(try go_wp2_with fail);refine hK.out _ _ ?_ (fun hHeld => ?_)
   ·exact hF.out _ (K1D.out.trans kn (by simp))
   clear hK K;(try simp only [Act.put, lz]);have KN := hid (KD.out.trans kn (by simp))
   have aC := hid (rIn na nc (ndsC c (x.1 : Int) (x.2 : Int)) node wn hns (by have := hnl.out; have := hk8.out; omega))
   clear kn hns;obtain ⟨X, hX⟩ : ∃ X, Hid (decide (node ∈ ndsC c (x.1 : Int) (x.2 : Int)) = X) := ⟨_, hid rfl⟩
   rw [hX.out] at aC;refine rdH 7 (by kernel_rfl) rfl fun K hK => ?_
   go_simp;refine aC.out.mono ?_;rintro e wc ⟨rfl, kc⟩;(try go_wp2_with fail);refine hK.out _ _ ?_ (fun hHeld => ?_)
   ·exact hF.out _ (hw.out.2.2.trans (KN.out.trans kc (by simp)) (by simp))
   clear hK K;(try simp only [Act.put, lz]);have KC := hid (KN.out.trans kc (by simp))
   clear kc aC;refine tkH ?_ 8 rfl (by kernel_rfl) (fun _ _ _ h => h) (by rfl) ?_ ‹_› ?_;rotate_left
   ·intro w h; (try dsimp only at h); go_simp <;> with_reducible rfl
   (try simp only [Act.put, lz]);refine wpAnyH_done (by kernel_rfl) ?_ _
   obtain ⟨_, _, _, _, _, f0, f1⟩ := hF.out _ (hw.out.2.2.trans KC.out (by simp))
   clear hHeld hF
   cases X with
   | false =>
    have hm : ¬ node ∈ ndsC c (x.1 : Int) (x.2 : Int) := by simpa using hX.out
    have hl2 : Hid (l = ofTo c M node (s + 1)) := by show _ = _; rw [hou.out, if_neg hm, List.append_nil]; exact hl.out
    have hw2 : Hid (SgE.Row wc (.slice a l.length cp) l ∧ (∀ z ∈ blk a, w1.heap.size ≤ z) ∧ Kp [] w1 wc) := hid ⟨hw.out.1.keptNew KC.out, hw.out.2.1, hw.out.2.2.trans KC.out (by simp)⟩
    clear hm hou hl hw hX;go_wp2_with fail;exact ⟨⟨s + 1, a, cp, l, by omega, by go_num, rfl, hl2, hw2⟩, by simp [intOf]; omega⟩
   | true =>
    have hm : node ∈ ndsC c (x.1 : Int) (x.2 : Int) := by simpa using hX.out
    have zc := KC.out.size
    have z1 := hw.out.2.2.size
    obtain ⟨a', cp', W', hrun, hrow', hnw', k'⟩ := appSg wc a cp l x w1.heap.size (hw.out.1.keptNew KC.out) hw.out.2.1 (by omega) hll
    have hl2 : Hid (l ++ [x] = ofTo c M node (s + 1)) := by show _ = _; rw [hou.out, if_pos hm, ← hl.out]
    have hw2 : Hid (SgE.Row W' (.slice a' (l ++ [x]).length cp') (l ++ [x]) ∧ (∀ z ∈ blk a', w1.heap.size ≤ z) ∧ Kp [] w1 W') := hid ⟨hrow', hnw', (hw.out.2.2.trans KC.out (by simp)).trans k' (fun z hz => .inr (hw.out.2.1 z hz))⟩
    obtain ⟨L2, hL2⟩ : ∃ L2, Hid (l ++ [x] = L2) := ⟨_, hid rfl⟩
    rw [hL2.out] at hl2 hw2 hrun;clear hrow' hnw' k' hm hou hl hw hX;go_wp2_with (first | (refine wpAppRun rfl _ _ 48 48 rfl _ _ _ rfl rfl hrun ?_) | fail)
    exact ⟨⟨s + 1, a', cp', L2, by omega, by go_num, rfl, hl2, hw2⟩, by simp [intOf]; omega⟩
  ·have e : s = N := by omega
   subst e;go_wp2_with fail;go_ret;obtain ⟨_, _, e, hsee, _, hcp, _⟩ := hw.out.1.see
   cases e
   exact ⟨a, cp, by rw [← hl.out]; rfl, by rw [← hl.out]; exact hsee, by rw [← hl.out]; exact hcp, (KW.out.trans K1.out (by simp)).trans hw.out.2.2 (by simp)⟩
theorem has_take (l : List Col) (m : Nat) (h : m < l.length) (nm : ByteArray) : hasN (l.take (m + 1)) nm = (hasN (l.take m) nm || (l[m].nm.toList == nm.toList)) := by
 unfold hasN
 rw [← List.take_append_getElem h, List.any_append];simp
theorem has_more (l : List Col) (m j : Nat) (h : m ≤ j) (nm : ByteArray) (ht : hasN (l.take m) nm = true) : hasN (l.take j) nm = true := by
 simp only [hasN, List.any_eq_true] at ht ⊢;obtain ⟨x, hx, hx2⟩ := ht;refine ⟨x, ?_, hx2⟩;rw [show m = min m j by omega, ← List.take_take] at hx
 exact List.mem_of_mem_take hx
theorem keptK_iff (k : Int) : keptK k = (decide (1 ≤ k) && decide (k ≤ 3)) := by
 unfold keptK
 by_cases h1 : k = 1
 ·subst h1; rfl
 by_cases h2 : k = 2
 ·subst h2; rfl
 by_cases h3 : k = 3
 ·subst h3; rfl
 have e : (k == 1 || (k == 2 || k == 3)) = false := by simp [h1, h2, h3]
 rw [e]
 by_cases h4 : 1 ≤ k
 ·rw [show decide (k ≤ 3) = false by simp; omega]; simp
 ·rw [show decide (1 ≤ k) = false by simpa using h4]; simp
theorem cRefTable (nm : ByteArray) (a : Option Addr) (ca : Nat) (l : List Col) (w : World) (ha : Cols w a l) (hl : l.length ≤ ca) (hm : ca ≤ 9223372036854775807) :
  Calls Tryz.prog 30 #[.agg #[.string nm, .slice a l.length ca]] w fun e w' => e = .returned (.int .i64 (tableV nm l)) ∧ Kp [] w w' := by
 have bT := Box2.new w (.string nm) (.slice a l.length ca) 77
 have kW : Kp [] w (w.alloc (.cells #[.string nm, .slice a l.length ca] 77)) := (Kp.refl _ _).alloc _
 have hN := cRefNamed nm
 obtain ⟨N, HN⟩ : ∃ N : Bool, Hid (namedV nm = N) := ⟨_, rfl⟩
 rw [HN.out] at hN
 cases N
 ·have HV : Hid (tableV nm l = 20) := by show _ = _; unfold tableV; rw [HN.out]; rfl
  go_enter Tryz.func30, Tryz.ntmps30
  go_wp2_with fail;refine (hN _).mono ?_;rintro e w' ⟨rfl, rfl⟩;go_wp2_with fail;go_ret;exact ⟨by rw [HV.out]; rfl, kW⟩
 by_cases h0 : l.length = 0
 ·have HV : Hid (tableV nm l = 20) := by show _ = _; unfold tableV; rw [HN.out, h0]; rfl
  have e0 : ((l.length : Int) == 0) = true := by simp [h0]
  clear h0;go_enter Tryz.func30, Tryz.ntmps30
  go_wp2_with fail;refine (hN _).mono ?_;rintro e w' ⟨rfl, rfl⟩;go_wp2_with fail;go_ret;exact ⟨by rw [HV.out]; rfl, kW⟩
 have e0 : ((l.length : Int) == 0) = false := by simpa using h0
 by_cases h8 : 8 < l.length
 ·have HV : Hid (tableV nm l = 20) := by show _ = _; unfold tableV; rw [HN.out, show decide (l.length ≤ 8) = false by simpa using h8]; simp
  go_enter Tryz.func30, Tryz.ntmps30
  go_wp2_with fail;refine (hN _).mono ?_;rintro e w' ⟨rfl, rfl⟩;go_wp2_with fail;go_ret;exact ⟨by rw [HV.out]; rfl, kW⟩
 have HT : Hid (tableV nm l = if colsV l then 0 else 20) := by
  show _ = _
  unfold tableV
  rw [HN.out, show decide (l.length ≤ 8) = true by simpa using h8, show decide (l.length ≠ 0) = true by simpa using h0]
  rfl
 go_enter Tryz.func30, Tryz.ntmps30
 go_wp2_with fail;refine (hN _).mono ?_;rintro e w' ⟨rfl, rfl⟩;go_wp2_with fail;go_loopw [4] (fun i wn => ∃ j : Nat, j ≤ l.length ∧ i = .int .i64 j ∧ Upto l j ∧ Box2 wn w.heap.size (.string nm) (.slice a l.length ca) ∧ Kp [] w wn) (fun i _ => l.length - (intOf i).toNat)
 case atStart => exact ⟨0, Nat.zero_le _, rfl, fun i hi => by omega, bT, kW⟩
 case round =>
  obtain ⟨j, hj, rfl, hup, hbx, hk⟩ := hrel;have q0 := hbx.c0; have q1 := hbx.c1; have ql := hbx.lt
  by_cases hjm : j < l.length
  ·obtain ⟨g, o, rfl, a0, a1, a2⟩ := (ha.kept hk).at j hjm
   have hca := hid (colAt_eq l j hjm)
   obtain ⟨x, Hx⟩ : ∃ x : Col, Hid (l[j] = x) := ⟨l[j], show l[j] = l[j] from rfl⟩
   rw [Hx.out] at a0 a1 a2 hca;obtain ⟨xn, xk, xz⟩ := x;dsimp only at a0 a1 a2;have h1 := cRefNamed xn
   obtain ⟨N, HN⟩ : ∃ N : Bool, Hid (namedV xn = N) := ⟨_, rfl⟩
   rw [HN.out] at h1;have hC : Hid (colAt l j = (N && (keptK xk && !hasN (l.take j) xn))) := by show _ = _; rw [hca.out]; simp only [HN.out]
   clear hca HN
   cases N
   ·have HV : Hid (tableV nm l = 20) := by show _ = _; rw [HT.out, colsV_false l j hjm hC.out]; rfl
    go_wp2_with fail;refine (h1 _).mono ?_;rintro e w' ⟨rfl, rfl⟩;go_wp2_with fail;go_ret;exact ⟨by rw [HV.out]; rfl, hk⟩
   by_cases hk1 : 1 ≤ xk
   ·by_cases hk3 : xk ≤ 3
    ·have hC2 : Hid (colAt l j = !hasN (l.take j) xn) := by show _ = _; rw [hC.out, keptK_iff, show decide (1 ≤ xk) = true by simpa using hk1, show decide (xk ≤ 3) = true by simpa using hk3]; rfl
     clear hC;go_wp2_with fail;refine (h1 _).mono ?_;rintro e w' ⟨rfl, rfl⟩;go_wp2_with fail;go_loopw [5] (fun i wn => ∃ m : Nat, m ≤ j ∧ i = .int .i64 m ∧ Hid (hasN (l.take m) xn = false) ∧ Box2 wn w.heap.size (.string nm) (.slice (some ⟨g, o, none⟩) l.length ca) ∧ Kp [] w wn) (fun i _ => j - (intOf i).toNat)
     case atStart => exact ⟨0, Nat.zero_le _, rfl, rfl, hbx, hk⟩
     case round =>
      obtain ⟨m, hm', rfl, hh, hbx', hk'⟩ := hrel;have q0' := hbx'.c0; have q1' := hbx'.c1; have ql' := hbx'.lt
      clear q0 q1 ql a0 a1 a2
      by_cases hmj : m < j
      ·have hml : m < l.length := by omega
       obtain ⟨g', o', hgo, b0, b1, b2⟩ := (ha.kept hk').at m hml;obtain ⟨g2, o2, hgo2, c0, c1, c2⟩ := (ha.kept hk').at j hjm
       cases hgo
       cases hgo2
       rw [Hx.out] at c0 c1 c2;have hst := hid (has_take l m hml xn)
       have hmo := hid (has_more l (m + 1) j hmj xn)
       generalize l[m] = y at *
       obtain ⟨yn, yk, yz⟩ := y;dsimp only at b0 b1 b2 c0 c1 c2
       by_cases he : yn.toList = xn.toList
       ·have hee : (yn.toList == xn.toList) = true := by simpa using he
        have HV : Hid (tableV nm l = 20) := by show _ = _; rw [HT.out, colsV_false l j hjm (by rw [hC2.out, hmo.out (by rw [hst.out]; simp [he])]; rfl)]; rfl
        clear he hst hmo;go_wp2_with fail;go_quiet ((fail))
        go_wp2_with fail;go_ret;exact ⟨by rw [HV.out]; rfl, hk'.drewN _⟩
       ·have hee : (yn.toList == xn.toList) = false := by simpa using he
        have hn2 : Hid (hasN (l.take (m + 1)) xn = false) := by show _ = _; rw [hst.out, hh.out]; exact hee
        clear he hst hmo hh;have hbx2 := hbx'
        go_wp2_with fail;go_quiet ((fail))
        go_wp2_with fail;exact ⟨⟨m + 1, by omega, by go_num, hn2, ⟨hbx2.c0, hbx2.c1⟩, hk'.drewN _⟩, by simp [intOf]; omega⟩
      ·have hmm : m = j := by omega
       subst hmm;have hup2 := hup.step (by rw [hC2.out, hh.out]; rfl)
       go_wp2_with fail;exact ⟨⟨m + 1, by omega, by go_num, hup2, hbx', hk'⟩, by simp [intOf]; omega⟩
    ·have HV : Hid (tableV nm l = 20) := by show _ = _; rw [HT.out, colsV_false l j hjm (by rw [hC.out, keptK_iff, show decide (xk ≤ 3) = false by simpa using hk3]; simp)]; rfl
     have e3 : ¬ xk ≤ 3 := hk3
     go_wp2_with fail;refine (h1 _).mono ?_;rintro e w' ⟨rfl, rfl⟩;go_wp2_with fail;go_ret;exact ⟨by rw [HV.out]; rfl, hk⟩
   ·have HV : Hid (tableV nm l = 20) := by show _ = _; rw [HT.out, colsV_false l j hjm (by rw [hC.out, keptK_iff, show decide (1 ≤ xk) = false by simpa using hk1]; simp)]; rfl
    go_wp2_with fail;refine (h1 _).mono ?_;rintro e w' ⟨rfl, rfl⟩;go_wp2_with fail;go_ret;exact ⟨by rw [HV.out]; rfl, hk⟩
  ·have hjl : j = l.length := by omega
   subst hjl;have HV : Hid (tableV nm l = 0) := by show _ = _; rw [HT.out, colsV_true l hup]; rfl
   go_wp2_with fail;go_ret;exact ⟨by rw [HV.out]; rfl, hk⟩
end Go.Proofs.YtcgkkofmnajedaaGreatDoor
end

/- What asked leaves, where nothing is asked. -/
import Derived.Test.YtkcdjnkipmbafaaRefe
import Derived.Test.YtkcdjnkipmbafaaRefw
import Derived.Test.YtkcdjnkipmbafaaBck
import Derived.Deep.RegionHeld3
namespace Go.Proofs.Ytkcdjnkipmbafaa
open Go.RowKit Go.Hay
set_option linter.unusedVariables false

/-- What asked leaves. -/
def AskPost (p : Nat) (D : List Nat) (b : Option Addr) (cb : Nat) (full : List UInt8) (w : World) (e : Ending) (w' : World) : Prop :=
  ∃ (at2 : Nat) (e2 : Int), at2 ≤ full.length ∧ e = .returned (.tuple #[.agg #[.slice b full.length cb, .int .i64 at2, .int .i64 e2], .bool true]) ∧ Rd w' p D (full.drop at2) e2 ∧ Kp [p] w w'

theorem Box3.set2 {w : World} {q : Nat} {a b c : Value} (h : Box3 w q a b c) (z : Value) : Box3 (w.setCell ⟨q, 2, none⟩ z) q a b z ∧ Kp [q] w (w.setCell ⟨q, 2, none⟩ z) := by
  refine ⟨⟨?_, ?_, World.cell?_setCell_same _ _ _ h.c2, fun j => by rw [World.frozen?_setCell]; exact h.free j⟩, (Kp.refl [q] w).setCell (by simp) _⟩
  · rw [World.cell?_setCell_other _ _ _ _ (by simp)]; exact h.c0
  · rw [World.cell?_setCell_other _ _ _ _ (by simp)]; exact h.c1
theorem held3 (w4 : World) (q r : Nat) (x y z u v t : Value) (hne : q ≠ r) (h : w4.cell? ⟨q, 0, none⟩ = some x ∧ w4.cell? ⟨q, 1, none⟩ = some y ∧ w4.cell? ⟨q, 2, none⟩ = some z) :
    (((w4.setCell ⟨r, 0, none⟩ u).setCell ⟨r, 1, none⟩ v).setCell ⟨r, 2, none⟩ t).cell? ⟨q, 0, none⟩ = some x ∧ (((w4.setCell ⟨r, 0, none⟩ u).setCell ⟨r, 1, none⟩ v).setCell ⟨r, 2, none⟩ t).cell? ⟨q, 1, none⟩ = some y ∧ (((w4.setCell ⟨r, 0, none⟩ u).setCell ⟨r, 1, none⟩ v).setCell ⟨r, 2, none⟩ t).cell? ⟨q, 2, none⟩ = some z := by
  have hk : Kp [r] w4 (((w4.setCell ⟨r, 0, none⟩ u).setCell ⟨r, 1, none⟩ v).setCell ⟨r, 2, none⟩ t) := (((Kp.refl [r] w4).setCell (by simp) _).setCell (by simp) _).setCell (by simp) _
  have hl := World.block_lt_of_cell? _ _ h.1
  exact ⟨(hk.cell (p := ⟨q, 0, none⟩) hl (by simpa using hne)).trans h.1, (hk.cell (p := ⟨q, 1, none⟩) hl (by simpa using hne)).trans h.2.1, (hk.cell (p := ⟨q, 2, none⟩) hl (by simpa using hne)).trans h.2.2⟩

set_option maxHeartbeats 4000000 in
set_option maxRecDepth 100000 in
theorem cAskX (p : Nat) (D : List Nat) (b : Option Addr) (cb : Nat) (full : List UInt8) (at' : Nat) (e0 k n m : Int) (ab : Option Addr) (cx : Nat) (xs : List UInt8) (w : World) (h : Rd w p D (full.drop at') e0) (ha : at' ≤ full.length) (hb : full.length ≤ 200000000000000) (hk : ¬ (0 ≤ k ∧ k ≤ 6)) :
    Calls Try.prog 17 #[.pointer (some ⟨p, 0, none⟩), .agg #[.slice b full.length cb, .int .i64 at', .int .i64 e0], .agg #[.int .i64 k, .int .u64 n, .int .u64 m, .slice ab xs.length cx]] w (AskPost p D b cb full w) := by
  have d0 : (k == 0) = false := by simp; omega
  have d1 : (k == 1) = false := by simp; omega
  have d2 : (k == 2) = false := by simp; omega
  have d3 : (k == 3) = false := by simp; omega
  have d4 : (k == 4) = false := by simp; omega
  have d5 : (k == 5) = false := by simp; omega
  have d6 : (k == 6) = false := by simp; omega
  clear hk
  have HL := h.lt
  go_enter Try.func17, Try.ntmps17
  go_wp2_with fail
  have bS := ((Box3.new w (.slice b full.length cb) (.int .i64 at') (.int .i64 e0) 40).kept (S := []) (((Kp.refl _ _).alloc (.cells #[.int .i64 k, .int .u64 n, .int .u64 m, .slice ab xs.length cx] 29)).alloc (.cells #[.slice none 0 0, .int .i64 0, .int .i64 0] 40)) (by simp))
  have bB := Box3.new ((w.alloc (.cells #[.slice b full.length cb, .int .i64 at', .int .i64 e0] 40)).alloc (.cells #[.int .i64 k, .int .u64 n, .int .u64 m, .slice ab xs.length cx] 29)) (.slice none 0 0) (.int .i64 0) (.int .i64 0) 40
  rw [show ((w.alloc (.cells #[.slice b full.length cb, .int .i64 at', .int .i64 e0] 40)).alloc (.cells #[.int .i64 k, .int .u64 n, .int .u64 m, .slice ab xs.length cx] 29)).heap.size = w.heap.size + 1 + 1 by simp] at bB
  have kW := (((Kp.refl [] w).alloc (.cells #[.slice b full.length cb, .int .i64 at', .int .i64 e0] 40)).alloc (.cells #[.int .i64 k, .int .u64 n, .int .u64 m, .slice ab xs.length cx] 29)).alloc (.cells #[.slice none 0 0, .int .i64 0, .int .i64 0] 40)
  have hr := h.kept kW (by simp) (by simp)
  generalize (((w.alloc (.cells #[.slice b full.length cb, .int .i64 at', .int .i64 e0] 40)).alloc (.cells #[.int .i64 k, .int .u64 n, .int .u64 m, .slice ab xs.length cx] 29)).alloc (.cells #[.slice none 0 0, .int .i64 0, .int .i64 0] 40)) = W at *
  have q0 := bS.c0
  have q1 := bS.c1
  have q2 := bS.c2
  have z0 := bB.c0
  have z1 := bB.c1
  have z2 := bB.c2
  have zf := bB.free
  obtain ⟨lft, HLf⟩ : ∃ lft : Int, Hid ((full.length : Int) - (at' : Int) = lft) := ⟨_, rfl⟩
  have hw : IntKind.i64.wrap ((full.length : Int) - (at' : Int)) = lft := by rw [← HLf.out, IntKind.wrap_i64]; omega
  obtain ⟨ee, HE⟩ : ∃ ee : Int, Hid (endE (full.drop at') e0 = ee) := ⟨_, rfl⟩
  go_region_held3 (fun w' => w'.cell? ⟨w.heap.size, 0, none⟩ = some (.slice b full.length cb) ∧ w'.cell? ⟨w.heap.size, 1, none⟩ = some (.int .i64 at') ∧ w'.cell? ⟨w.heap.size, 2, none⟩ = some (.int .i64 e0)) (first | go_keep | exact held3 _ _ _ _ _ _ _ _ _ (by omega) ⟨by assumption, by assumption, by assumption⟩)
    (first
      | (go_at_call 21; refine (rErr p D (full.drop at') e0 _ hr.drew).mono ?_; rintro e w' ⟨rfl, rfl⟩)
      | (go_at_call 22; refine (rLeft p D (full.drop at') e0 _ hr.drew).mono ?_; rintro e w' ⟨rfl, rfl⟩; rw [show (((full.drop at').length : Nat) : Int) = lft by rw [← HLf.out]; simp; omega])
      | (go_at_call 18; refine (rEnd p D (full.drop at') e0 _ hr.drew).mono ?_; rintro e w' ⟨rfl, rfl⟩; rw [HE.out])
      | (go_at_call 19; refine (cRefEnd b cb full at' e0 _).mono ?_; rintro e w4 ⟨rfl, k4⟩; rw [HE.out]; have y0 := (bS.drew.kept k4 (by simp)).c0; have y1 := (bS.drew.kept k4 (by simp)).c1; have y2 := (bS.drew.kept k4 (by simp)).c2; have x0 := (bB.drew.kept k4 (by simp)).c0; have x1 := (bB.drew.kept k4 (by simp)).c1; have x2 := (bB.drew.kept k4 (by simp)).c2; have xf := (bB.drew.kept k4 (by simp)).free))
  have hr4 := hr.drew.kept k4 (by simp) (by simp)
  have kW4 := kW.drew.trans k4 (by simp)
  have bB4 := bB.drew.kept k4 (by simp)
  obtain ⟨bB5, ks⟩ := bB4.setAll (.slice b full.length cb) (.int .i64 at') (.int .i64 e0)
  have hr5 := hr4.kept ks (by simp; omega) (fun x hx hx2 => by have := h.dlt x hx; simp at hx2; omega)
  have kW5 := (kW4.trans ks (fun x hx => .inr (by simp at hx; omega)))
  have z0 := bB5.c0
  have z1 := bB5.c1
  have z2 := bB5.c2
  clear k4 y0 y1 y2 x0 x1 x2 xf bB5 bB4 ks
  go_wp2_with fail
  exact bodyPost_ret (v := .tuple #[.agg #[.slice b full.length cb, .int .i64 at', .int .i64 e0], .bool true]) (by simp [results, Try.results17, go_sem, z0, z1, z2]) rfl ⟨at', e0, ha, rfl, hr5, kW5.mono (by simp)⟩
end Go.Proofs.Ytkcdjnkipmbafaa

/- asked: kinds 6. -/
import Derived.Test.YtkcdjnkipmbafaaAsx
import Derived.Test.YtkcdjnkipmbafaaReff
namespace Go.Proofs.Ytkcdjnkipmbafaa
open Go.RowKit Go.Hay
set_option linter.unusedVariables false

set_option maxHeartbeats 4000000 in
set_option maxRecDepth 100000 in
theorem cAsk6 (p : Nat) (D : List Nat) (b : Option Addr) (cb : Nat) (full : List UInt8) (at' : Nat) (e0 n m : Int) (ab : Option Addr) (cx : Nat) (xs : List UInt8) (w : World) (h : Rd w p D (full.drop at') e0) (ha : at' ≤ full.length) (hb : full.length ≤ 200000000000000) (hs : Sees w b full) (hl : full.length ≤ cb) (hm : cb ≤ maxLen) (hm0 : 0 ≤ m) (hm1 : m < 18446744073709551616) :
    Calls Try.prog 17 #[.pointer (some ⟨p, 0, none⟩), .agg #[.slice b full.length cb, .int .i64 at', .int .i64 e0], .agg #[.int .i64 6, .int .u64 n, .int .u64 m, .slice ab xs.length cx]] w (AskPost p D b cb full w) := by
  have bS := ((Box3.new w (.slice b full.length cb) (.int .i64 at') (.int .i64 e0) 40).kept (S := []) (((Kp.refl _ _).alloc (.cells #[.int .i64 6, .int .u64 n, .int .u64 m, .slice ab xs.length cx] 29)).alloc (.cells #[.slice none 0 0, .int .i64 0, .int .i64 0] 40)) (by simp))
  have bT := (Box4.new (w.alloc (.cells #[.slice b full.length cb, .int .i64 at', .int .i64 e0] 40)) (.int .i64 6) (.int .u64 n) (.int .u64 m) (.slice ab xs.length cx) 29).kept (S := []) ((Kp.refl _ _).alloc (.cells #[.slice none 0 0, .int .i64 0, .int .i64 0] 40)) (by simp)
  rw [show (w.alloc (.cells #[.slice b full.length cb, .int .i64 at', .int .i64 e0] 40)).heap.size = w.heap.size + 1 by simp] at bT
  have bB := Box3.new ((w.alloc (.cells #[.slice b full.length cb, .int .i64 at', .int .i64 e0] 40)).alloc (.cells #[.int .i64 6, .int .u64 n, .int .u64 m, .slice ab xs.length cx] 29)) (.slice none 0 0) (.int .i64 0) (.int .i64 0) 40
  rw [show ((w.alloc (.cells #[.slice b full.length cb, .int .i64 at', .int .i64 e0] 40)).alloc (.cells #[.int .i64 6, .int .u64 n, .int .u64 m, .slice ab xs.length cx] 29)).heap.size = w.heap.size + 1 + 1 by simp] at bB
  have kW0 := (((Kp.refl [] w).alloc (.cells #[.slice b full.length cb, .int .i64 at', .int .i64 e0] 40)).alloc (.cells #[.int .i64 6, .int .u64 n, .int .u64 m, .slice ab xs.length cx] 29)).alloc (.cells #[.slice none 0 0, .int .i64 0, .int .i64 0] 40)
  have hr0 := h.kept kW0 (by simp) (by simp)
  have hlt := h.lt
  have hdl := h.dlt
  obtain ⟨E, HEq⟩ : ∃ E : Int, Hid (m % 200 = E) := ⟨_, rfl⟩
  have hE := HEq.out
  have q0 := bS.c0
  have q1 := bS.c1
  have q2 := bS.c2
  have qf := bS.free
  have t2 := bT.c2
  go_enter Try.func17, Try.ntmps17
  go_wp2_with fail
  refine (rFail p D (full.drop at') e0 E _ hr0).mono ?_
  rintro e w3 ⟨rfl, hr3, k3⟩
  have bS3 := bS.kept k3 (by simp; omega)
  have bB3 := bB.kept k3 (by simp; omega)
  have bT3 := bT.kept k3 (by simp; omega)
  have kW3 := (kW0.mono (T := [p]) (by simp)).trans k3 (fun x hx => .inl hx)
  clear q0 q1 q2 qf t2 bS bB bT k3 kW0 hr0
  have q0 := bS3.c0
  have q1 := bS3.c1
  have q2 := bS3.c2
  have qf := bS3.free
  have t2 := bT3.c2
  by_cases he : e0 = 0
  · subst he
    rw [if_pos rfl] at hr3
    obtain ⟨bS, ks⟩ := bS3.set2 (.int .i64 E)
    have bB := bB3.kept ks (by simp; omega)
    have hr := hr3.kept ks (by simp; omega) (fun x hx hx2 => by have := hdl x hx; simp at hx2; omega)
    have kW := kW3.trans ks (fun x hx => .inr (by simp at hx; omega))
    clear hr3 bB3 bT3 bS3 ks kW3
    go_wp2_with fail
    clear q0 q1 q2 qf t2 hE
    have ha2 := ha
    generalize (w3.setCell ⟨w.heap.size, 2, none⟩ (.int .i64 E)) = w4 at *
    have q0 := bS.c0
    have q1 := bS.c1
    have q2 := bS.c2
    have z0 := bB.c0
    have z1 := bB.c1
    have z2 := bB.c2
    have zf := bB.free
    obtain ⟨lft, HLf⟩ : ∃ lft : Int, Hid ((full.length : Int) - (at' : Int) = lft) := ⟨_, rfl⟩
    have hw : IntKind.i64.wrap ((full.length : Int) - (at' : Int)) = lft := by rw [← HLf.out, IntKind.wrap_i64]; omega
    obtain ⟨ee, HE⟩ : ∃ ee : Int, Hid (endE (full.drop at') E = ee) := ⟨_, rfl⟩
    go_region_held3 (fun w' => w'.cell? ⟨w.heap.size, 0, none⟩ = some (.slice b full.length cb) ∧ w'.cell? ⟨w.heap.size, 1, none⟩ = some (.int .i64 at') ∧ w'.cell? ⟨w.heap.size, 2, none⟩ = some (.int .i64 E)) (first | go_keep | exact held3 _ _ _ _ _ _ _ _ _ (by omega) ⟨by assumption, by assumption, by assumption⟩)
      (first
        | (go_at_call 21; refine (rErr p D (full.drop at') E _ hr.drew).mono ?_; rintro e w' ⟨rfl, rfl⟩)
        | (go_at_call 22; refine (rLeft p D (full.drop at') E _ hr.drew).mono ?_; rintro e w' ⟨rfl, rfl⟩; rw [show (((full.drop at').length : Nat) : Int) = lft by rw [← HLf.out]; simp; omega])
        | (go_at_call 18; refine (rEnd p D (full.drop at') E _ hr.drew).mono ?_; rintro e w' ⟨rfl, rfl⟩; rw [HE.out])
        | (go_at_call 19; refine (cRefEnd b cb full at' E _).mono ?_; rintro e w4 ⟨rfl, k4⟩; rw [HE.out]; have y0 := (bS.drew.kept k4 (by simp)).c0; have y1 := (bS.drew.kept k4 (by simp)).c1; have y2 := (bS.drew.kept k4 (by simp)).c2; have x0 := (bB.drew.kept k4 (by simp)).c0; have x1 := (bB.drew.kept k4 (by simp)).c1; have x2 := (bB.drew.kept k4 (by simp)).c2; have xf := (bB.drew.kept k4 (by simp)).free))
    have hr4 := hr.drew.kept k4 (by simp) (by simp)
    have kW4 := kW.drew.trans k4 (by simp)
    have bB4 := bB.drew.kept k4 (by simp)
    obtain ⟨bB5, ks⟩ := bB4.setAll (.slice b full.length cb) (.int .i64 at') (.int .i64 E)
    have hr5 := hr4.kept ks (by simp; omega) (fun x hx hx2 => by have := hdl x hx; simp at hx2; omega)
    have kW5 := (kW4.trans ks (fun x hx => .inr (by simp at hx; omega)))
    have z0 := bB5.c0
    have z1 := bB5.c1
    have z2 := bB5.c2
    clear k4 y0 y1 y2 x0 x1 x2 xf bB5 bB4 ks
    go_wp2_with fail
    exact bodyPost_ret (v := .tuple #[.agg #[.slice b full.length cb, .int .i64 at', .int .i64 E], .bool true]) (by simp [results, Try.results17, go_sem, z0, z1, z2]) rfl ⟨at', E, ha2, rfl, hr5, kW5⟩
  · rw [if_neg he] at hr3
    have he' : (e0 == 0) = false := by simpa using he
    go_wp2_with fail
    clear q0 q1 q2 qf t2 hE
    have hr := hr3
    have bS := bS3
    have bB := bB3
    have kW := kW3
    have ha2 := ha
    have q0 := bS.c0
    have q1 := bS.c1
    have q2 := bS.c2
    have z0 := bB.c0
    have z1 := bB.c1
    have z2 := bB.c2
    have zf := bB.free
    obtain ⟨lft, HLf⟩ : ∃ lft : Int, Hid ((full.length : Int) - (at' : Int) = lft) := ⟨_, rfl⟩
    have hw : IntKind.i64.wrap ((full.length : Int) - (at' : Int)) = lft := by rw [← HLf.out, IntKind.wrap_i64]; omega
    obtain ⟨ee, HE⟩ : ∃ ee : Int, Hid (endE (full.drop at') e0 = ee) := ⟨_, rfl⟩
    go_region_held3 (fun w' => w'.cell? ⟨w.heap.size, 0, none⟩ = some (.slice b full.length cb) ∧ w'.cell? ⟨w.heap.size, 1, none⟩ = some (.int .i64 at') ∧ w'.cell? ⟨w.heap.size, 2, none⟩ = some (.int .i64 e0)) (first | go_keep | exact held3 _ _ _ _ _ _ _ _ _ (by omega) ⟨by assumption, by assumption, by assumption⟩)
      (first
        | (go_at_call 21; refine (rErr p D (full.drop at') e0 _ hr.drew).mono ?_; rintro e w' ⟨rfl, rfl⟩)
        | (go_at_call 22; refine (rLeft p D (full.drop at') e0 _ hr.drew).mono ?_; rintro e w' ⟨rfl, rfl⟩; rw [show (((full.drop at').length : Nat) : Int) = lft by rw [← HLf.out]; simp; omega])
        | (go_at_call 18; refine (rEnd p D (full.drop at') e0 _ hr.drew).mono ?_; rintro e w' ⟨rfl, rfl⟩; rw [HE.out])
        | (go_at_call 19; refine (cRefEnd b cb full at' e0 _).mono ?_; rintro e w4 ⟨rfl, k4⟩; rw [HE.out]; have y0 := (bS.drew.kept k4 (by simp)).c0; have y1 := (bS.drew.kept k4 (by simp)).c1; have y2 := (bS.drew.kept k4 (by simp)).c2; have x0 := (bB.drew.kept k4 (by simp)).c0; have x1 := (bB.drew.kept k4 (by simp)).c1; have x2 := (bB.drew.kept k4 (by simp)).c2; have xf := (bB.drew.kept k4 (by simp)).free))
    have hr4 := hr.drew.kept k4 (by simp) (by simp)
    have kW4 := kW.drew.trans k4 (by simp)
    have bB4 := bB.drew.kept k4 (by simp)
    obtain ⟨bB5, ks⟩ := bB4.setAll (.slice b full.length cb) (.int .i64 at') (.int .i64 e0)
    have hr5 := hr4.kept ks (by simp; omega) (fun x hx hx2 => by have := hdl x hx; simp at hx2; omega)
    have kW5 := (kW4.trans ks (fun x hx => .inr (by simp at hx; omega)))
    have z0 := bB5.c0
    have z1 := bB5.c1
    have z2 := bB5.c2
    clear k4 y0 y1 y2 x0 x1 x2 xf bB5 bB4 ks
    go_wp2_with fail
    exact bodyPost_ret (v := .tuple #[.agg #[.slice b full.length cb, .int .i64 at', .int .i64 e0], .bool true]) (by simp [results, Try.results17, go_sem, z0, z1, z2]) rfl ⟨at', e0, ha2, rfl, hr5, kW5⟩
end Go.Proofs.Ytkcdjnkipmbafaa

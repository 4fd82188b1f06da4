/- asked: kinds 3 and 4. -/
import Derived.Test.YtkcdjnkipmbafaaAsx
import Derived.Test.YtkcdjnkipmbafaaReff
namespace Go.Proofs.Ytkcdjnkipmbafaa
open Go.RowKit Go.Hay
set_option linter.unusedVariables false

set_option maxHeartbeats 4000000 in
set_option maxRecDepth 100000 in
theorem cAsk3 (p : Nat) (D : List Nat) (b : Option Addr) (cb : Nat) (full : List UInt8) (at' : Nat) (e0 n m : Int) (ab : Option Addr) (cx : Nat) (xs : List UInt8) (w : World) (h : Rd w p D (full.drop at') e0) (ha : at' ≤ full.length) (hb : full.length ≤ 200000000000000) (hs : Sees w b full) (hl : full.length ≤ cb) (hm : cb ≤ maxLen) (hm0 : 0 ≤ m) (hm1 : m < 18446744073709551616) :
    Calls Try.prog 17 #[.pointer (some ⟨p, 0, none⟩), .agg #[.slice b full.length cb, .int .i64 at', .int .i64 e0], .agg #[.int .i64 3, .int .u64 n, .int .u64 m, .slice ab xs.length cx]] w (AskPost p D b cb full w) := by
  have bS := ((Box3.new w (.slice b full.length cb) (.int .i64 at') (.int .i64 e0) 40).kept (S := []) (((Kp.refl _ _).alloc (.cells #[.int .i64 3, .int .u64 n, .int .u64 m, .slice ab xs.length cx] 29)).alloc (.cells #[.slice none 0 0, .int .i64 0, .int .i64 0] 40)) (by simp))
  have bT := (Box4.new (w.alloc (.cells #[.slice b full.length cb, .int .i64 at', .int .i64 e0] 40)) (.int .i64 3) (.int .u64 n) (.int .u64 m) (.slice ab xs.length cx) 29).kept (S := []) ((Kp.refl _ _).alloc (.cells #[.slice none 0 0, .int .i64 0, .int .i64 0] 40)) (by simp)
  rw [show (w.alloc (.cells #[.slice b full.length cb, .int .i64 at', .int .i64 e0] 40)).heap.size = w.heap.size + 1 by simp] at bT
  have bB := Box3.new ((w.alloc (.cells #[.slice b full.length cb, .int .i64 at', .int .i64 e0] 40)).alloc (.cells #[.int .i64 3, .int .u64 n, .int .u64 m, .slice ab xs.length cx] 29)) (.slice none 0 0) (.int .i64 0) (.int .i64 0) 40
  rw [show ((w.alloc (.cells #[.slice b full.length cb, .int .i64 at', .int .i64 e0] 40)).alloc (.cells #[.int .i64 3, .int .u64 n, .int .u64 m, .slice ab xs.length cx] 29)).heap.size = w.heap.size + 1 + 1 by simp] at bB
  have kW0 := (((Kp.refl [] w).alloc (.cells #[.slice b full.length cb, .int .i64 at', .int .i64 e0] 40)).alloc (.cells #[.int .i64 3, .int .u64 n, .int .u64 m, .slice ab xs.length cx] 29)).alloc (.cells #[.slice none 0 0, .int .i64 0, .int .i64 0] 40)
  have hr0 := h.kept kW0 (by simp) (by simp)
  have hlt := h.lt
  have hdl := h.dlt
  go_enter Try.func17, Try.ntmps17
  go_wp2_with fail
  refine (cRefGetVar b cb full at' e0 m false _ (hs.kept kW0 (by simp)) hl hm ha hb hm0 hm1).mono ?_
  rintro e w1 ⟨nv, at2, e2, ht, hn0, hn1, ha2, rfl, k1⟩
  have HT := hid (show varS m (full.drop at') e0 = (nv, full.drop at2, e2) from ht)
  clear ht
  have hr1 := hr0.kept k1 (by simp) (by simp)
  have bS1 := bS.kept k1 (by simp)
  have bB1 := bB.kept k1 (by simp)
  have bT1 := bT.kept k1 (by simp)
  have kW1 := kW0.trans k1 (by simp)
  have q0 := bS1.c0
  have q1 := bS1.c1
  have q2 := bS1.c2
  have qf := bS1.free
  have t2 := bT1.c2
  have hne1 : ¬ (w.heap.size + 1 = w.heap.size) := by omega
  obtain ⟨bS2, ks⟩ := bS1.setAll (.slice b full.length cb) (.int .i64 at2) (.int .i64 e2)
  have bB2 := bB1.kept ks (by simp; omega)
  have bT2 := bT1.kept ks (by simp)
  have hr2 := hr1.kept ks (by simp; omega) (fun x hx hx2 => by have := hdl x hx; simp at hx2; omega)
  have kW2 := kW1.trans ks (fun x hx => .inr (by simp at hx; omega))
  clear bS bB bT k1 ks bS1 bB1 bT1 kW1 hr1
  go_wp2_with fail
  clear q0 q1 q2 qf t2 hne1
  generalize (((w1.setCell ⟨w.heap.size, 0, none⟩ (.slice b full.length cb)).setCell ⟨w.heap.size, 1, none⟩ (.int .i64 at2)).setCell ⟨w.heap.size, 2, none⟩ (.int .i64 e2)) = w2 at *
  refine (rVar p D (full.drop at') e0 m _ hr2 hm0 hm1).mono ?_
  rintro e w3 ⟨out3, bs3, e3, ht3, rfl, hr, k3⟩
  rw [HT.out] at ht3
  cases ht3
  have bS := bS2.kept k3 (by simp; omega)
  have bB := bB2.kept k3 (by simp; omega)
  have kW := (kW2.mono (T := [p]) (by simp)).trans k3 (fun x hx => .inl hx)
  clear bS2 bB2 bT2 k3 kW2 hr2
  go_wp2_with fail
  have q0 := bS.c0
  have q1 := bS.c1
  have q2 := bS.c2
  have z0 := bB.c0
  have z1 := bB.c1
  have z2 := bB.c2
  have zf := bB.free
  obtain ⟨lft, HLf⟩ : ∃ lft : Int, Hid ((full.length : Int) - (at2 : Int) = lft) := ⟨_, rfl⟩
  have hw : IntKind.i64.wrap ((full.length : Int) - (at2 : Int)) = lft := by rw [← HLf.out, IntKind.wrap_i64]; omega
  obtain ⟨ee, HE⟩ : ∃ ee : Int, Hid (endE (full.drop at2) e2 = ee) := ⟨_, rfl⟩
  go_region_held3 (fun w' => w'.cell? ⟨w.heap.size, 0, none⟩ = some (.slice b full.length cb) ∧ w'.cell? ⟨w.heap.size, 1, none⟩ = some (.int .i64 at2) ∧ w'.cell? ⟨w.heap.size, 2, none⟩ = some (.int .i64 e2)) (first | go_keep | exact held3 _ _ _ _ _ _ _ _ _ (by omega) ⟨by assumption, by assumption, by assumption⟩)
    (first
      | (go_at_call 21; refine (rErr p D (full.drop at2) e2 _ hr.drew).mono ?_; rintro e w' ⟨rfl, rfl⟩)
      | (go_at_call 22; refine (rLeft p D (full.drop at2) e2 _ hr.drew).mono ?_; rintro e w' ⟨rfl, rfl⟩; rw [show (((full.drop at2).length : Nat) : Int) = lft by rw [← HLf.out]; simp; omega])
      | (go_at_call 18; refine (rEnd p D (full.drop at2) e2 _ hr.drew).mono ?_; rintro e w' ⟨rfl, rfl⟩; rw [HE.out])
      | (go_at_call 19; refine (cRefEnd b cb full at2 e2 _).mono ?_; rintro e w4 ⟨rfl, k4⟩; rw [HE.out]; have y0 := (bS.drew.kept k4 (by simp)).c0; have y1 := (bS.drew.kept k4 (by simp)).c1; have y2 := (bS.drew.kept k4 (by simp)).c2; have x0 := (bB.drew.kept k4 (by simp)).c0; have x1 := (bB.drew.kept k4 (by simp)).c1; have x2 := (bB.drew.kept k4 (by simp)).c2; have xf := (bB.drew.kept k4 (by simp)).free))
  have hr4 := hr.drew.kept k4 (by simp) (by simp)
  have kW4 := kW.drew.trans k4 (by simp)
  have bB4 := bB.drew.kept k4 (by simp)
  obtain ⟨bB5, ks⟩ := bB4.setAll (.slice b full.length cb) (.int .i64 at2) (.int .i64 e2)
  have hr5 := hr4.kept ks (by simp; omega) (fun x hx hx2 => by have := hdl x hx; simp at hx2; omega)
  have kW5 := (kW4.trans ks (fun x hx => .inr (by simp at hx; omega)))
  have z0 := bB5.c0
  have z1 := bB5.c1
  have z2 := bB5.c2
  clear k4 y0 y1 y2 x0 x1 x2 xf bB5 bB4 ks
  go_wp2_with fail
  exact bodyPost_ret (v := .tuple #[.agg #[.slice b full.length cb, .int .i64 at2, .int .i64 e2], .bool true]) (by simp [results, Try.results17, go_sem, z0, z1, z2]) rfl ⟨at2, e2, ha2, rfl, hr5, kW5⟩

set_option maxHeartbeats 4000000 in
set_option maxRecDepth 100000 in
theorem cAsk4 (p : Nat) (D : List Nat) (b : Option Addr) (cb : Nat) (full : List UInt8) (at' : Nat) (e0 n m : Int) (ab : Option Addr) (cx : Nat) (xs : List UInt8) (w : World) (h : Rd w p D (full.drop at') e0) (ha : at' ≤ full.length) (hb : full.length ≤ 200000000000000) (hs : Sees w b full) (hl : full.length ≤ cb) (hm : cb ≤ maxLen) (hm0 : 0 ≤ m) (hm1 : m < 18446744073709551616) :
    Calls Try.prog 17 #[.pointer (some ⟨p, 0, none⟩), .agg #[.slice b full.length cb, .int .i64 at', .int .i64 e0], .agg #[.int .i64 4, .int .u64 n, .int .u64 m, .slice ab xs.length cx]] w (AskPost p D b cb full w) := by
  have bS := ((Box3.new w (.slice b full.length cb) (.int .i64 at') (.int .i64 e0) 40).kept (S := []) (((Kp.refl _ _).alloc (.cells #[.int .i64 4, .int .u64 n, .int .u64 m, .slice ab xs.length cx] 29)).alloc (.cells #[.slice none 0 0, .int .i64 0, .int .i64 0] 40)) (by simp))
  have bT := (Box4.new (w.alloc (.cells #[.slice b full.length cb, .int .i64 at', .int .i64 e0] 40)) (.int .i64 4) (.int .u64 n) (.int .u64 m) (.slice ab xs.length cx) 29).kept (S := []) ((Kp.refl _ _).alloc (.cells #[.slice none 0 0, .int .i64 0, .int .i64 0] 40)) (by simp)
  rw [show (w.alloc (.cells #[.slice b full.length cb, .int .i64 at', .int .i64 e0] 40)).heap.size = w.heap.size + 1 by simp] at bT
  have bB := Box3.new ((w.alloc (.cells #[.slice b full.length cb, .int .i64 at', .int .i64 e0] 40)).alloc (.cells #[.int .i64 4, .int .u64 n, .int .u64 m, .slice ab xs.length cx] 29)) (.slice none 0 0) (.int .i64 0) (.int .i64 0) 40
  rw [show ((w.alloc (.cells #[.slice b full.length cb, .int .i64 at', .int .i64 e0] 40)).alloc (.cells #[.int .i64 4, .int .u64 n, .int .u64 m, .slice ab xs.length cx] 29)).heap.size = w.heap.size + 1 + 1 by simp] at bB
  have kW0 := (((Kp.refl [] w).alloc (.cells #[.slice b full.length cb, .int .i64 at', .int .i64 e0] 40)).alloc (.cells #[.int .i64 4, .int .u64 n, .int .u64 m, .slice ab xs.length cx] 29)).alloc (.cells #[.slice none 0 0, .int .i64 0, .int .i64 0] 40)
  have hr0 := h.kept kW0 (by simp) (by simp)
  have hlt := h.lt
  have hdl := h.dlt
  obtain ⟨K, HK⟩ : ∃ K : Int, Hid (IntKind.i64.wrap m = K) := ⟨_, rfl⟩
  have hK := HK.out
  have hK0 : -9223372036854775808 ≤ K := by rw [← hK, IntKind.wrap_i64]; omega
  have hK1 : K ≤ 9223372036854775807 := by rw [← hK, IntKind.wrap_i64]; omega
  go_enter Try.func17, Try.ntmps17
  go_wp2_with fail
  refine (cRefRaw b cb full at' e0 K _ (hs.kept kW0 (by simp)) hl hm ha hb hK0 hK1).mono ?_
  rintro e w1 ⟨out, at2, e2, v, ht, ha2, rfl, hrow, k1, ho⟩
  have HT := hid ht
  have ho' : ∀ x ∈ own v, w.heap.size + 3 ≤ x := fun x hx => by have := ho x hx; simp at this; omega
  obtain ⟨av, cv, rfl, sv, hbl⟩ := hrow.sees
  rw [hbl] at ho'
  clear ht ho hrow hbl
  have hr1 := hr0.kept k1 (by simp) (by simp)
  have bS1 := bS.kept k1 (by simp)
  have bB1 := bB.kept k1 (by simp)
  have bT1 := bT.kept k1 (by simp)
  have kW1 := kW0.trans k1 (by simp)
  have q0 := bS1.c0
  have q1 := bS1.c1
  have q2 := bS1.c2
  have qf := bS1.free
  have t2 := bT1.c2
  have hne1 : ¬ (w.heap.size + 1 = w.heap.size) := by omega
  obtain ⟨bS2, ks⟩ := bS1.setAll (.slice b full.length cb) (.int .i64 at2) (.int .i64 e2)
  have bB2 := bB1.kept ks (by simp; omega)
  have bT2 := bT1.kept ks (by simp)
  have hr2 := hr1.kept ks (by simp; omega) (fun x hx hx2 => by have := hdl x hx; simp at hx2; omega)
  have kW2 := kW1.trans ks (fun x hx => .inr (by simp at hx; omega))
  have sv2 := sv.kept ks (fun x hx hx2 => by have := ho' x hx; simp at hx2; omega)
  clear sv bS bB bT k1 ks bS1 bB1 bT1 kW1 hr1
  go_wp2_with fail
  clear q0 q1 q2 qf t2 hne1
  generalize (((w1.setCell ⟨w.heap.size, 0, none⟩ (.slice b full.length cb)).setCell ⟨w.heap.size, 1, none⟩ (.int .i64 at2)).setCell ⟨w.heap.size, 2, none⟩ (.int .i64 e2)) = w2 at *
  refine (rRaw p D (full.drop at') e0 K _ hr2 (by simp; omega)).mono ?_
  rintro e w3 ⟨out3, bs3, e3, v3, ht3, rfl, hrow3, ho3, hr, k3⟩
  rw [HT.out] at ht3
  cases ht3
  obtain ⟨a3, c3, rfl, s3, _⟩ := hrow3.sees
  have sv3 := sv2.kept k3 (fun x hx hx2 => by have := ho' x hx; simp at hx2; omega)
  clear hrow3 ho3
  go_wp2_with fail
  refine (cSame a3 av out.length out.length c3 cv out out _ s3 sv3 rfl rfl).mono ?_
  rintro e w5 ⟨rfl, rfl⟩
  rw [show (out == out) = true by simp]
  have bS := bS2.kept k3 (by simp; omega)
  have bB := bB2.kept k3 (by simp; omega)
  have kW := (kW2.mono (T := [p]) (by simp)).trans k3 (fun x hx => .inl hx)
  clear bS2 bB2 bT2 k3 kW2 hr2
  go_wp2_with fail
  have q0 := bS.c0
  have q1 := bS.c1
  have q2 := bS.c2
  have z0 := bB.c0
  have z1 := bB.c1
  have z2 := bB.c2
  have zf := bB.free
  obtain ⟨lft, HLf⟩ : ∃ lft : Int, Hid ((full.length : Int) - (at2 : Int) = lft) := ⟨_, rfl⟩
  have hw : IntKind.i64.wrap ((full.length : Int) - (at2 : Int)) = lft := by rw [← HLf.out, IntKind.wrap_i64]; omega
  obtain ⟨ee, HE⟩ : ∃ ee : Int, Hid (endE (full.drop at2) e2 = ee) := ⟨_, rfl⟩
  go_region_held3 (fun w' => w'.cell? ⟨w.heap.size, 0, none⟩ = some (.slice b full.length cb) ∧ w'.cell? ⟨w.heap.size, 1, none⟩ = some (.int .i64 at2) ∧ w'.cell? ⟨w.heap.size, 2, none⟩ = some (.int .i64 e2)) (first | go_keep | exact held3 _ _ _ _ _ _ _ _ _ (by omega) ⟨by assumption, by assumption, by assumption⟩)
    (first
      | (go_at_call 21; refine (rErr p D (full.drop at2) e2 _ hr.drew).mono ?_; rintro e w' ⟨rfl, rfl⟩)
      | (go_at_call 22; refine (rLeft p D (full.drop at2) e2 _ hr.drew).mono ?_; rintro e w' ⟨rfl, rfl⟩; rw [show (((full.drop at2).length : Nat) : Int) = lft by rw [← HLf.out]; simp; omega])
      | (go_at_call 18; refine (rEnd p D (full.drop at2) e2 _ hr.drew).mono ?_; rintro e w' ⟨rfl, rfl⟩; rw [HE.out])
      | (go_at_call 19; refine (cRefEnd b cb full at2 e2 _).mono ?_; rintro e w4 ⟨rfl, k4⟩; rw [HE.out]; have y0 := (bS.drew.kept k4 (by simp)).c0; have y1 := (bS.drew.kept k4 (by simp)).c1; have y2 := (bS.drew.kept k4 (by simp)).c2; have x0 := (bB.drew.kept k4 (by simp)).c0; have x1 := (bB.drew.kept k4 (by simp)).c1; have x2 := (bB.drew.kept k4 (by simp)).c2; have xf := (bB.drew.kept k4 (by simp)).free))
  have hr4 := hr.drew.kept k4 (by simp) (by simp)
  have kW4 := kW.drew.trans k4 (by simp)
  have bB4 := bB.drew.kept k4 (by simp)
  obtain ⟨bB5, ks⟩ := bB4.setAll (.slice b full.length cb) (.int .i64 at2) (.int .i64 e2)
  have hr5 := hr4.kept ks (by simp; omega) (fun x hx hx2 => by have := hdl x hx; simp at hx2; omega)
  have kW5 := (kW4.trans ks (fun x hx => .inr (by simp at hx; omega)))
  have z0 := bB5.c0
  have z1 := bB5.c1
  have z2 := bB5.c2
  clear k4 y0 y1 y2 x0 x1 x2 xf bB5 bB4 ks
  go_wp2_with fail
  exact bodyPost_ret (v := .tuple #[.agg #[.slice b full.length cb, .int .i64 at2, .int .i64 e2], .bool true]) (by simp [results, Try.results17, go_sem, z0, z1, z2]) rfl ⟨at2, e2, ha2, rfl, hr5, kW5⟩
end Go.Proofs.Ytkcdjnkipmbafaa

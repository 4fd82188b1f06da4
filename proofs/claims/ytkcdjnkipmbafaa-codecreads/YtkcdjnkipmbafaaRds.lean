/- For every row of bytes and every list of things that is asked: each call tells what the reference tells, and where it fails, first. -/
import Derived.Test.YtkcdjnkipmbafaaAska
import Derived.Test.YtkcdjnkipmbafaaAskb
import Derived.Test.YtkcdjnkipmbafaaAskc
import Derived.Test.YtkcdjnkipmbafaaAskd
import Derived.Laws.BitsAllLaws
namespace Go.Proofs.Ytkcdjnkipmbafaa
open Go.ChangeShapes Go.WideShapes Go.ChangeAt Go.RowKit Go.Hay
set_option linter.unusedVariables false

theorem cAsk (p : Nat) (D : List Nat) (b : Option Addr) (cb : Nat) (full : List UInt8) (at' : Nat) (e0 k n m : Int) (ab : Option Addr) (cx : Nat) (xs : List UInt8) (w : World) (h : Rd w p D (full.drop at') e0) (ha : at' ≤ full.length) (hb : full.length ≤ 200000000000000) (hs : Sees w b full) (hl : full.length ≤ cb) (hm : cb ≤ maxLen) (hm0 : 0 ≤ m) (hm1 : m < 18446744073709551616) :
    Calls Try.prog 17 #[.pointer (some ⟨p, 0, none⟩), .agg #[.slice b full.length cb, .int .i64 at', .int .i64 e0], .agg #[.int .i64 k, .int .u64 n, .int .u64 m, .slice ab xs.length cx]] w (AskPost p D b cb full w) := by
  by_cases c0 : k = 0
  · subst c0; exact cAsk0 p D b cb full at' e0 n m ab cx xs w h ha hb hs hl hm hm0 hm1
  by_cases c1 : k = 1
  · subst c1; exact cAsk1 p D b cb full at' e0 n m ab cx xs w h ha hb hs hl hm hm0 hm1
  by_cases c2 : k = 2
  · subst c2; exact cAsk2 p D b cb full at' e0 n m ab cx xs w h ha hb hs hl hm hm0 hm1
  by_cases c3 : k = 3
  · subst c3; exact cAsk3 p D b cb full at' e0 n m ab cx xs w h ha hb hs hl hm hm0 hm1
  by_cases c4 : k = 4
  · subst c4; exact cAsk4 p D b cb full at' e0 n m ab cx xs w h ha hb hs hl hm hm0 hm1
  by_cases c5 : k = 5
  · subst c5; exact cAsk5 p D b cb full at' e0 n m ab cx xs w h ha hb hs hl hm hm0 hm1
  by_cases c6 : k = 6
  · subst c6; exact cAsk6 p D b cb full at' e0 n m ab cx xs w h ha hb hs hl hm hm0 hm1
  exact cAskX p D b cb full at' e0 k n m ab cx xs w h ha hb (by omega)

theorem xor8 (x : UInt8) : bits BinOp.xor IntKind.u8 (x.toNat : Int) 255 = ((x ^^^ 255 : UInt8).toNat : Int) := by
  have h := x.toNat_lt
  rw [show (255 : Int) = ((255 : Nat) : Int) from rfl, u8_xor_nat x.toNat 255 (by omega) (by omega), UInt8.toNat_xor]
  rfl

set_option maxHeartbeats 4000000 in
set_option maxRecDepth 100000 in
theorem readsWalk (b : Option Addr) (nb cb : Nat) (full : List UInt8) (a : Option Addr) (n c : Nat) (l : List Thing) (w : World) (hs : Sees w b full) (hnb : nb = full.length) (hlb : full.length ≤ cb) (hmb : cb ≤ maxLen) (hl : Ths w a l) (hn : n = l.length) (hlc : l.length ≤ c) (hcm : c ≤ maxLen) (hbb : full.length ≤ 140737488351232) :
    Calls Try.prog 4 #[.slice b nb cb, .slice a n c] w fun e w' => e = .returned (.bool true) ∧ Below w.heap.size w w' := by
  subst hn
  subst hnb
  obtain ⟨i0, hi, hz0, hz1, hz2⟩ := info_parts Try.infoB
  have hob : ([] : List UInt8).length + full.length ≤ 200000000000000 := by simp; omega
  have hsrc : Src Try.prog 1 26 (.slice b full.length cb) full.length (bcells full) w := hs.src Try.underlying26 cb
  go_enter Try.func4, Try.ntmps4
  go_wp2_with (at_builtin; refine wpList_append_src _ rfl (.const (.slice none 0 0)) (.tmp 12) 26 26 rfl i0 Try.underlying26 hi hz0 hz1 hz2 _ [] rfl (Row.nil _) _ full rfl hsrc hob ?_)
  intro v1 w1 r1 k1 o1
  have r1 : Row w1 v1 full := by simpa using r1
  have k1' : Kp [] w w1 := k1.mono (by simp [own, Value.ownBlock])
  have o1' : ∀ x ∈ own v1, w.heap.size ≤ x := fun x hx => by
    rcases o1 x hx with h | h
    · simp [own, Value.ownBlock] at h
    · exact h
  obtain ⟨a1, c1, rfl, s1, hbl1⟩ := r1.sees
  have hr1lt := r1.lt
  clear k1 o1 hsrc hob hi hz0 hz1 hz2
  go_wp2_with fail
  refine (rRead a1 _ c1 full _ s1 rfl (by omega)).mono ?_
  rintro e w2 ⟨p, D, rfl, hr, k2, hpge, hD⟩
  have r2 := r1.kept k2 (by simp)
  have k2' := k1'.trans k2 (by simp)
  have hpw : w.heap.size ≤ p := by have := k1'.size; omega
  clear s1 r1 k2 k1'
  go_wp2_with fail
  refine (cAlive _).mono ?_
  rintro e w3 ⟨rfl, k3⟩
  have r3 := r2.kept k3 (by simp)
  have hr3 := hr.kept k3 (by simp) (by simp)
  have kw3 := k2'.trans k3 (by simp)
  clear r2 hr k2' k3
  go_wp2_with fail
  go_loopw [7, 24] (fun _ i wn => ∃ (j : Nat) (ys : List UInt8), j ≤ full.length ∧ i = .int .i64 j ∧ Hid (ys.length = full.length) ∧ Row wn (.slice a1 full.length c1) ys ∧ Kp (own (.slice a1 full.length c1)) w3 wn) (fun _ i _ => full.length - (intOf i).toNat)
  case atStart => exact ⟨0, full, Nat.zero_le _, rfl, rfl, r3, Kp.refl _ _⟩
  case round =>
    obtain ⟨j, ys, hj, rfl, hys, hry, hky⟩ := hrel
    by_cases hjl : j < full.length
    · have hjy : j < ys.length := by rw [hys.out]; exact hjl
      have hry' := hry
      rcases hry with ⟨h, _⟩ | ⟨g1, o1, cap1, hv1, hlc1, hcm1, hgl1, hc1, hfr1⟩
      · simp only [Value.slice.injEq] at h; omega
      simp only [Value.slice.injEq] at hv1
      obtain ⟨rfl, _, rfl⟩ := hv1
      have hcj := hc1 j ys[j] (by simp)
      have hfj := (hfr1 j (by omega)).2
      have hinc := xor8 ys[j]
      have rset := Row.set hry' j (ys[j] ^^^ 255) hjy
      have kset : Kp (own (.slice (some ⟨g1, o1, none⟩) full.length c1)) w3 (wr.setCell ⟨g1, o1 + j, none⟩ (.int .u8 (ys[j] ^^^ 255 : UInt8).toNat)) := hky.setCell (p := ⟨g1, o1 + j, none⟩) (by simp [own, Value.ownBlock]) _
      have HY : Hid ((ys.set j (ys[j] ^^^ 255)).length = full.length) := by show _ = _; rw [List.length_set]; exact hys.out
      generalize (ys[j] ^^^ 255 : UInt8) = y1 at *
      clear hc1 hfr1 hry'
      go_wp2_with fail
      exact ⟨⟨j + 1, _, by omega, by go_num, HY, rset, kset⟩, by simp [intOf]; omega⟩
    · have kw4 := kw3.trans hky (fun x hx => .inr (o1' x hx))
      have hr4 := hr3.kept hky (fun hm => by have := hr1lt _ hm; omega) (fun x hx hm => by have := hr1lt _ hm; have := hD x hx; omega)
      clear hr3 kw3 hky hry hys r3
      go_wp2_with fail
      have kA := (Kp.refl [] wr).alloc (.cells #[.slice b full.length cb, .int .i64 0, .int .i64 0] 40)
      have bx := Box3.new wr (.slice b full.length cb) (.int .i64 0) (.int .i64 0) 40
      have hr5 := hr4.kept kA (by simp) (by simp)
      have kw5 := kw4.trans kA (by simp)
      have hq5 : w.heap.size ≤ wr.heap.size := kw4.size
      have hpq : p ≠ wr.heap.size := by have := hr4.lt; omega
      have hDq : ∀ x ∈ D, x ≠ wr.heap.size := fun x hx => by have := hr4.dlt x hx; omega
      clear kA kw4 hr4
      generalize wr.heap.size = q at *
      go_loopw [38] (fun i wn => ∃ (k at2 : Nat) (e2 : Int), k ≤ l.length ∧ i = .int .i64 k ∧ at2 ≤ full.length ∧ Box3 wn q (.slice b full.length cb) (.int .i64 at2) (.int .i64 e2) ∧ Rd wn p D (full.drop at2) e2 ∧ Kp [] w wn) (fun i _ => l.length - (intOf i).toNat)
      case atStart => exact ⟨0, 0, 0, Nat.zero_le _, rfl, Nat.zero_le _, bx, hr5, kw5⟩
      case round =>
        obtain ⟨k, at2, e2, hk, rfl, hat, bxn, hrn, hkp⟩ := hrel
        have q0 := bxn.c0
        have q1 := bxn.c1
        have q2 := bxn.c2
        have qf := bxn.free
        have hqlt : q < wr.heap.size := bxn.lt
        have hsw := hs.kept hkp (by simp)
        by_cases hlt : k < l.length
        · obtain ⟨g, o, b3, cb3, rfl, hbb3, hsee, hsee0, hsep0, ⟨hn0, hn1⟩, ⟨hm0, hm1⟩, c0, c1', c2, c3, hbl, hbm, hkd⟩ := Ths.at hl hkp k hlt
          clear hbb3
          have Hk1 : Hid (k + 1 ≤ l.length) := hlt
          have hk2 : k + 1 ≤ 9223372036854775807 := by unfold maxLen at hcm; omega
          generalize l[k].kind = kd at *
          generalize l[k].n = tn at *
          generalize l[k].m = tm at *
          generalize l[k].bs = xs at *
          have kx : Kp [] wr (wr.alloc (.cells #[.int .i64 kd, .int .u64 tn, .int .u64 tm, .slice b3 xs.length cb3] 29)) := (Kp.refl _ _).alloc _
          go_wp2_with fail
          refine (cAsk p D b cb full at2 e2 kd tn tm b3 cb3 xs _ (hrn.kept kx (by simp) (by simp)) hat (by omega) (hsw.kept kx (by simp)) hlb hmb hm0 hm1).mono ?_
          rintro e w6 ⟨at3, e3, hat3, rfl, hr6, k6⟩
          have bx6 := (bxn.kept kx (by simp)).kept k6 (by simpa using Ne.symm hpq)
          have kw6 := stepR (hkp.trans kx (by simp)) hpw k6
          obtain ⟨bx7, ks⟩ := bx6.setAll (.slice b full.length cb) (.int .i64 at3) (.int .i64 e3)
          have hr7 := hr6.kept ks (by simpa using hpq) (fun x hx => by simpa using hDq x hx)
          have kw7 := kw6.trans ks (fun x hx => .inr (by simp at hx; omega))
          clear q0 q1 q2 qf c0 c1' c2 c3 hrn kx k6 kw6 hr6 ks bxn hsw hsee hsee0
          have q0 := bx6.c0
          have q1 := bx6.c1
          have q2 := bx6.c2
          have qf := bx6.free
          clear bx6
          go_wp2_with fail
          have g1 := Hk1.out
          exact ⟨⟨k + 1, at3, e3, g1, by go_num, hat3, bx7, hr7, kw7⟩, by simp [intOf]; omega⟩
        · obtain ⟨ee, HE⟩ : ∃ ee : Int, Hid (endE (full.drop at2) e2 = ee) := ⟨_, rfl⟩
          clear hsw hbb
          go_wp2_with fail
          go_region_held3 (fun w' => w'.cell? ⟨q, 0, none⟩ = some (.slice b full.length cb) ∧ w'.cell? ⟨q, 1, none⟩ = some (.int .i64 at2) ∧ w'.cell? ⟨q, 2, none⟩ = some (.int .i64 e2)) (first | go_keep)
            (first
              | (go_at_call 18; refine (rEnd p D (full.drop at2) e2 _ hrn.drew).mono ?_; rintro e w' ⟨rfl, rfl⟩; rw [HE.out])
              | (go_at_call 19; refine (cRefEnd b cb full at2 e2 _).mono ?_; rintro e w4 ⟨rfl, k4⟩; rw [HE.out]; have y0 := (bxn.drew.kept k4 (by simp)).c0; have y1 := (bxn.drew.kept k4 (by simp)).c1; have y2 := (bxn.drew.kept k4 (by simp)).c2))
          go_wp2_with fail
          go_ret
          exact ⟨rfl, (hkp.drew.trans k4 (by simp)).below⟩
end Go.Proofs.Ytkcdjnkipmbafaa

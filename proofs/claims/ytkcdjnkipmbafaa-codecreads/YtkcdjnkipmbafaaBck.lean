/- A thing that is read back. -/
import Derived.Test.YtkcdjnkipmbafaaWrts
import Derived.Test.YtkcdjnkipmbafaaRdl
import Derived.Deep.RegionWith
namespace Go.Proofs.Ytkcdjnkipmbafaa
open Go.RowKit Go.Hay
set_option linter.unusedVariables false

theorem Rd.drew {w : World} {p : Nat} {D : List Nat} {bs : List UInt8} {e : Int} (h : Rd w p D bs e) : Rd w.drew p D bs e := h.kept (S := []) ((Kp.refl [] w).drew) (by simp) (by simp)
theorem Box4.drew {w : World} {q : Nat} {a b c d : Value} (h : Box4 w q a b c d) : Box4 w.drew q a b c d := h.kept (S := []) ((Kp.refl [] w).drew) (by simp)

set_option maxHeartbeats 2000000 in
set_option maxRecDepth 100000 in
theorem cBack0 (p : Nat) (D : List Nat) (bs : List UInt8) (e0 : Int) (n m : Int) (ab : Option Addr) (cb : Nat) (xs : List UInt8) (w : World) (h : Rd w p D bs e0) (hn0 : 0 ≤ n) (hn1 : n < 18446744073709551616) :
    Calls Try.prog 20 #[.pointer (some ⟨p, 0, none⟩), .agg #[.int .i64 0, .int .u64 n, .int .u64 m, .slice ab xs.length cb]] w fun e w' => ∃ out bs' e', takeS 1 bs e0 = (out, bs', e') ∧ e = .returned (.bool ((num out : Int) == n % 256)) ∧ Rd w' p D bs' e' ∧ Kp [p] w w' := by
  have k0 : Kp [] w (w.alloc (.cells #[.int .i64 0, .int .u64 n, .int .u64 m, .slice ab xs.length cb] 29)) := (Kp.refl _ _).alloc _
  have bx : Box4 (w.alloc (.cells #[.int .i64 0, .int .u64 n, .int .u64 m, .slice ab xs.length cb] 29)) w.heap.size (.int .i64 0) (.int .u64 n) (.int .u64 m) (.slice ab xs.length cb) := Box4.new w _ _ _ _ _
  have hr := h.kept k0 (by simp) (by simp)
  have hlt := h.lt
  have hne : w.heap.size ∉ [p] := by simp; omega
  go_enter Try.func20, Try.ntmps20
  go_wp2_with fail
  go_region_with (go_at_call 34; refine (rByte p D bs e0 _ hr.drew).mono ?_; rintro e w1 ⟨out, bs', e', ht, rfl, hr1, hk1⟩; have hc1 := ((bx.drew).kept hk1 hne).c1; have HT := hid ht; clear ht)
  all_goals
    go_wp2_with fail
    go_ret
    exact ⟨out, bs', e', HT.out, rfl, hr1, ((k0.mono (T := [p]) (by simp)).drew).trans hk1 (fun x hx => .inl hx)⟩

set_option maxHeartbeats 2000000 in
set_option maxRecDepth 100000 in
theorem cBack1 (p : Nat) (D : List Nat) (bs : List UInt8) (e0 : Int) (n m : Int) (ab : Option Addr) (cb : Nat) (xs : List UInt8) (w : World) (h : Rd w p D bs e0) (hn0 : 0 ≤ n) (hn1 : n < 18446744073709551616) :
    Calls Try.prog 20 #[.pointer (some ⟨p, 0, none⟩), .agg #[.int .i64 1, .int .u64 n, .int .u64 m, .slice ab xs.length cb]] w fun e w' => ∃ out bs' e', takeS 4 bs e0 = (out, bs', e') ∧ e = .returned (.bool ((num out : Int) == n % 4294967296)) ∧ Rd w' p D bs' e' ∧ Kp [p] w w' := by
  have k0 : Kp [] w (w.alloc (.cells #[.int .i64 1, .int .u64 n, .int .u64 m, .slice ab xs.length cb] 29)) := (Kp.refl _ _).alloc _
  have bx : Box4 (w.alloc (.cells #[.int .i64 1, .int .u64 n, .int .u64 m, .slice ab xs.length cb] 29)) w.heap.size (.int .i64 1) (.int .u64 n) (.int .u64 m) (.slice ab xs.length cb) := Box4.new w _ _ _ _ _
  have hr := h.kept k0 (by simp) (by simp)
  have hlt := h.lt
  have hne : w.heap.size ∉ [p] := by simp; omega
  go_enter Try.func20, Try.ntmps20
  go_wp2_with fail
  go_region_with (go_at_call 42; refine (rWord p D bs e0 _ hr.drew).mono ?_; rintro e w1 ⟨out, bs', e', ht, rfl, hr1, hk1⟩; have hc1 := ((bx.drew).kept hk1 hne).c1; have HT := hid ht; clear ht)
  all_goals
    go_wp2_with fail
    go_ret
    exact ⟨out, bs', e', HT.out, rfl, hr1, ((k0.mono (T := [p]) (by simp)).drew).trans hk1 (fun x hx => .inl hx)⟩

set_option maxHeartbeats 2000000 in
set_option maxRecDepth 100000 in
theorem cBack2 (p : Nat) (D : List Nat) (bs : List UInt8) (e0 : Int) (n m : Int) (ab : Option Addr) (cb : Nat) (xs : List UInt8) (w : World) (h : Rd w p D bs e0) (hn0 : 0 ≤ n) (hn1 : n < 18446744073709551616) :
    Calls Try.prog 20 #[.pointer (some ⟨p, 0, none⟩), .agg #[.int .i64 2, .int .u64 n, .int .u64 m, .slice ab xs.length cb]] w fun e w' => ∃ out bs' e', takeS 8 bs e0 = (out, bs', e') ∧ e = .returned (.bool ((num out : Int) == n)) ∧ Rd w' p D bs' e' ∧ Kp [p] w w' := by
  have k0 : Kp [] w (w.alloc (.cells #[.int .i64 2, .int .u64 n, .int .u64 m, .slice ab xs.length cb] 29)) := (Kp.refl _ _).alloc _
  have bx : Box4 (w.alloc (.cells #[.int .i64 2, .int .u64 n, .int .u64 m, .slice ab xs.length cb] 29)) w.heap.size (.int .i64 2) (.int .u64 n) (.int .u64 m) (.slice ab xs.length cb) := Box4.new w _ _ _ _ _
  have hr := h.kept k0 (by simp) (by simp)
  have hlt := h.lt
  have hne : w.heap.size ∉ [p] := by simp; omega
  go_enter Try.func20, Try.ntmps20
  go_wp2_with fail
  go_region_with (go_at_call 43; refine (rLong p D bs e0 _ hr.drew).mono ?_; rintro e w1 ⟨out, bs', e', ht, rfl, hr1, hk1⟩; have hc1 := ((bx.drew).kept hk1 hne).c1; have HT := hid ht; clear ht)
  all_goals
    go_wp2_with fail
    go_ret
    exact ⟨out, bs', e', HT.out, rfl, hr1, ((k0.mono (T := [p]) (by simp)).drew).trans hk1 (fun x hx => .inl hx)⟩

set_option maxHeartbeats 2000000 in
set_option maxRecDepth 100000 in
theorem cBack3 (p : Nat) (D : List Nat) (bs : List UInt8) (e0 : Int) (n m : Int) (ab : Option Addr) (cb : Nat) (xs : List UInt8) (w : World) (h : Rd w p D bs e0) (hn0 : 0 ≤ n) (hn1 : n < 18446744073709551616) :
    Calls Try.prog 20 #[.pointer (some ⟨p, 0, none⟩), .agg #[.int .i64 3, .int .u64 n, .int .u64 m, .slice ab xs.length cb]] w fun e w' => ∃ r bs' e', varS n bs e0 = (r, bs', e') ∧ e = .returned (.bool (r == n)) ∧ Rd w' p D bs' e' ∧ Kp [p] w w' := by
  have k0 : Kp [] w (w.alloc (.cells #[.int .i64 3, .int .u64 n, .int .u64 m, .slice ab xs.length cb] 29)) := (Kp.refl _ _).alloc _
  have bx : Box4 (w.alloc (.cells #[.int .i64 3, .int .u64 n, .int .u64 m, .slice ab xs.length cb] 29)) w.heap.size (.int .i64 3) (.int .u64 n) (.int .u64 m) (.slice ab xs.length cb) := Box4.new w _ _ _ _ _
  have hr := h.kept k0 (by simp) (by simp)
  have hlt := h.lt
  have hne : w.heap.size ∉ [p] := by simp; omega
  go_enter Try.func20, Try.ntmps20
  go_wp2_with fail
  go_region_with (go_at_call 23; refine (rVar p D bs e0 n _ hr.drew hn0 hn1).mono ?_; rintro e w1 ⟨out, bs', e', ht, rfl, hr1, hk1⟩; have hc1 := ((bx.drew).kept hk1 hne).c1; have HT := hid ht; clear ht)
  all_goals
    go_wp2_with fail
    go_ret
    exact ⟨out, bs', e', HT.out, rfl, hr1, ((k0.mono (T := [p]) (by simp)).drew).trans hk1 (fun x hx => .inl hx)⟩

set_option maxHeartbeats 2000000 in
set_option maxRecDepth 100000 in
theorem cBack4 (p : Nat) (D : List Nat) (bs : List UInt8) (e0 : Int) (n m : Int) (ab : Option Addr) (cb : Nat) (xs : List UInt8) (w : World) (h : Rd w p D bs e0) (hs : Sees w ab xs) (hb : bs.length ≤ 200000000000000) (hx : xs.length ≤ 200000000000000) (hap : xs ≠ [] → ∀ k ∈ blk ab, k ∉ [p]) :
    Calls Try.prog 20 #[.pointer (some ⟨p, 0, none⟩), .agg #[.int .i64 4, .int .u64 n, .int .u64 m, .slice ab xs.length cb]] w fun e w' => ∃ out bs' e', rawS xs.length bs e0 = (out, bs', e') ∧ e = .returned (.bool (out == xs)) ∧ Rd w' p D bs' e' ∧ Kp [p] w w' := by
  have k0 : Kp [] w (w.alloc (.cells #[.int .i64 4, .int .u64 n, .int .u64 m, .slice ab xs.length cb] 29)) := (Kp.refl _ _).alloc _
  have bx : Box4 (w.alloc (.cells #[.int .i64 4, .int .u64 n, .int .u64 m, .slice ab xs.length cb] 29)) w.heap.size (.int .i64 4) (.int .u64 n) (.int .u64 m) (.slice ab xs.length cb) := Box4.new w _ _ _ _ _
  have hr := h.kept k0 (by simp) (by simp)
  have hs0 := hs.kept k0 (by simp)
  have hlt := h.lt
  have hne : w.heap.size ∉ [p] := by simp; omega
  go_enter Try.func20, Try.ntmps20
  go_wp2_with fail
  go_region_with (first | (go_at_call 46; refine (rRaw p D bs e0 xs.length _ hr.drew hb).mono ?_; rintro e w1 ⟨out, bs', e', v, ht, rfl, hv, ho, hr1, hk1⟩; have hc3 := ((bx.drew).kept hk1 hne).c3; have HT := hid ht; clear ht; have hs1 := (hs0.drew).kept' hk1 hap; obtain ⟨av, cv, rfl, sv, _⟩ := hv.sees; clear hv) | (go_at_call 15; refine (cSame av ab _ _ cv cb out xs _ sv hs1 rfl rfl).mono ?_; rintro e w2 ⟨rfl, rfl⟩))
  all_goals
    go_wp2_with fail
    go_ret
    exact ⟨out, bs', e', HT.out, rfl, hr1, ((k0.mono (T := [p]) (by simp)).drew).trans hk1 (fun x hx => .inl hx)⟩

set_option maxHeartbeats 2000000 in
set_option maxRecDepth 100000 in
theorem cBack5 (p : Nat) (D : List Nat) (bs : List UInt8) (e0 : Int) (n m : Int) (ab : Option Addr) (cb : Nat) (xs : List UInt8) (w : World) (h : Rd w p D bs e0) (hs : Sees w ab xs) (hb : bs.length ≤ 200000000000000) (hx : xs.length ≤ 200000000000000) (hap : xs ≠ [] → ∀ k ∈ blk ab, k ∉ [p]) :
    Calls Try.prog 20 #[.pointer (some ⟨p, 0, none⟩), .agg #[.int .i64 5, .int .u64 n, .int .u64 m, .slice ab xs.length cb]] w fun e w' => ∃ out bs' e', textS xs.length bs e0 = (out, bs', e') ∧ e = .returned (.bool (out == xs)) ∧ Rd w' p D bs' e' ∧ Kp [p] w w' := by
  have k0 : Kp [] w (w.alloc (.cells #[.int .i64 5, .int .u64 n, .int .u64 m, .slice ab xs.length cb] 29)) := (Kp.refl _ _).alloc _
  have bx : Box4 (w.alloc (.cells #[.int .i64 5, .int .u64 n, .int .u64 m, .slice ab xs.length cb] 29)) w.heap.size (.int .i64 5) (.int .u64 n) (.int .u64 m) (.slice ab xs.length cb) := Box4.new w _ _ _ _ _
  have hr := h.kept k0 (by simp) (by simp)
  have hs0 := hs.kept k0 (by simp)
  have hlt := h.lt
  have hne : w.heap.size ∉ [p] := by simp; omega
  go_enter Try.func20, Try.ntmps20
  go_wp2_with fail
  go_region_with (first | (go_at_call 33; refine (rText p D bs e0 xs.length _ hr.drew (by omega) (by omega) hb).mono ?_; rintro e w1 ⟨out, bs', e', v, ht, rfl, hv, ho, hr1, hk1⟩; have hc3 := ((bx.drew).kept hk1 hne).c3; have HT := hid ht; clear ht; have hs1 := (hs0.drew).kept' hk1 hap; obtain ⟨av, cv, rfl, sv, _⟩ := hv.sees; clear hv) | (go_at_call 15; refine (cSame av ab _ _ cv cb out xs _ sv hs1 rfl rfl).mono ?_; rintro e w2 ⟨rfl, rfl⟩))
  all_goals
    go_wp2_with fail
    go_ret
    exact ⟨out, bs', e', HT.out, rfl, hr1, ((k0.mono (T := [p]) (by simp)).drew).trans hk1 (fun x hx => .inl hx)⟩

set_option maxHeartbeats 2000000 in
set_option maxRecDepth 100000 in
theorem cBackX (p : Nat) (D : List Nat) (bs : List UInt8) (e0 : Int) (k n m : Int) (ab : Option Addr) (cb : Nat) (xs : List UInt8) (w : World) (h : Rd w p D bs e0) (hk : ¬ (0 ≤ k ∧ k ≤ 5)) :
    Calls Try.prog 20 #[.pointer (some ⟨p, 0, none⟩), .agg #[.int .i64 k, .int .u64 n, .int .u64 m, .slice ab xs.length cb]] w fun e w' => e = .returned (.bool true) ∧ Rd w' p D bs e0 ∧ Kp [p] w w' := by
  have k0 : Kp [] w (w.alloc (.cells #[.int .i64 k, .int .u64 n, .int .u64 m, .slice ab xs.length cb] 29)) := (Kp.refl _ _).alloc _
  have hr := h.kept k0 (by simp) (by simp)
  have d0 : (k == 0) = false := by simp; omega
  have d1 : (k == 1) = false := by simp; omega
  have d2 : (k == 2) = false := by simp; omega
  have d3 : (k == 3) = false := by simp; omega
  have d4 : (k == 4) = false := by simp; omega
  have d5 : (k == 5) = false := by simp; omega
  clear hk
  go_enter Try.func20, Try.ntmps20
  go_wp2_with fail
  go_ret
  exact ⟨rfl, hr, k0.mono (T := [p]) (by simp)⟩
end Go.Proofs.Ytkcdjnkipmbafaa

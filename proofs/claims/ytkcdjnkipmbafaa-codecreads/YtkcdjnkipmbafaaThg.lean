/- A thing that is written, and its bytes by the reference. -/
import Derived.Test.YtkcdjnkipmbafaaOpt
import Derived.Test.YtkcdjnkipmbafaaRefv
import Derived.Test.YtkcdjnkipmbafaaWrw
import Derived.Test.YtkcdjnkipmbafaaWrl
namespace Go.Proofs.Ytkcdjnkipmbafaa
open Go.RowKit Go.Hay
set_option linter.unusedVariables false

/-- A thing's bytes. -/
def thingB (t : Thing) : List UInt8 :=
  if t.kind = 0 then be t.n.toNat 1 else if t.kind = 1 then be t.n.toNat 4 else if t.kind = 2 then be t.n.toNat 8 else if t.kind = 3 then varB t.n else if t.kind = 4 then t.bs else if t.kind = 5 then textB t.bs else []
theorem thingB_length (t : Thing) : (thingB t).length ≤ t.bs.length + 9 := by
  have := varB_length t.n
  have := varB_length t.bs.length
  unfold thingB textB
  repeat (first | split | (simp only [be_length, List.length_append, List.length_nil]; omega) | omega)
theorem be_mod (n k : Nat) : be (n % 256 ^ k) k = be n k := by
  have h := be_num (be n k)
  rw [num_be, be_length] at h
  exact h
theorem be_byte (n : Int) (h : 0 ≤ n) : be n.toNat 1 = [octet (n % 256)] := by
  obtain ⟨m, rfl⟩ := Int.eq_ofNat_of_zero_le h
  simp only [be, Int.toNat_natCast, octet]
  congr 2
  omega
theorem be_word (n : Int) (h : 0 ≤ n) : be n.toNat 4 = be (n % 4294967296).toNat 4 := by
  obtain ⟨m, rfl⟩ := Int.eq_ofNat_of_zero_le h
  rw [Int.toNat_natCast, show ((m : Int) % 4294967296).toNat = m % 256 ^ 4 by omega, be_mod]
theorem be_one (n : Int) (h : 0 ≤ n) : be n.toNat 1 = be (n % 256).toNat 1 := by
  obtain ⟨m, rfl⟩ := Int.eq_ofNat_of_zero_le h
  rw [Int.toNat_natCast, show ((m : Int) % 256).toNat = m % 256 ^ 1 by omega, be_mod]




set_option maxHeartbeats 2000000 in
set_option maxRecDepth 100000 in
theorem cWrite (p : Nat) (v : Value) (bs : List UInt8) (k n m : Int) (ab : Option Addr) (cb : Nat) (xs : List UInt8) (w : World) (h : Wr w p v bs) (hs : Sees w ab xs) (hn0 : 0 ≤ n) (hn1 : n < 18446744073709551616)
    (hb : bs.length + xs.length + 9 ≤ 200000000000000) (hap : xs ≠ [] → ∀ k ∈ blk ab, k ∉ p :: own v) :
    Calls Try.prog 11 #[.pointer (some ⟨p, 0, none⟩), .agg #[.int .i64 k, .int .u64 n, .int .u64 m, .slice ab xs.length cb]] w fun e w' => e = .returned (.tuple #[]) ∧ ∃ v', Wr w' p v' (bs ++ thingB ⟨k, n, m, .slice ab xs.length cb, xs⟩) ∧ Wrote p v w v' w' := by
  have k0 : Kp [] w (w.alloc (.cells #[.int .i64 k, .int .u64 n, .int .u64 m, .slice ab xs.length cb] 29)) := (Kp.refl _ _).alloc _
  have h' := h.keptNew k0
  have hs' := hs.kept k0 (by simp)
  by_cases c0 : k = 0
  · subst c0
    rw [show thingB ⟨0, n, m, .slice ab xs.length cb, xs⟩ = [octet (n % 256)] by simp [thingB, be_byte n hn0]]
    go_enter Try.func11, Try.ntmps11
    go_wp2_with fail
    refine (wByte p v bs _ _ h' (by omega) (by omega) (by omega)).mono ?_
    rintro e w1 ⟨rfl, v1, hw1, hr1⟩
    go_wp2_with fail
    go_end0
    exact ⟨rfl, v1, hw1, hr1.pre k0⟩
  by_cases c1 : k = 1
  · subst c1
    rw [show thingB ⟨1, n, m, .slice ab xs.length cb, xs⟩ = be (n % 4294967296).toNat 4 by simp [thingB, ← be_word n hn0]]
    go_enter Try.func11, Try.ntmps11
    go_wp2_with fail
    refine (wWord p v bs _ _ h' (by omega) (by omega) (by omega)).mono ?_
    rintro e w1 ⟨rfl, v1, hw1, hr1⟩
    go_wp2_with fail
    go_end0
    exact ⟨rfl, v1, hw1, hr1.pre k0⟩
  by_cases c2 : k = 2
  · subst c2
    rw [show thingB ⟨2, n, m, .slice ab xs.length cb, xs⟩ = be n.toNat 8 by simp [thingB]]
    go_enter Try.func11, Try.ntmps11
    go_wp2_with fail
    refine (wLong p v bs _ _ h' (by omega) hn0 hn1).mono ?_
    rintro e w1 ⟨rfl, v1, hw1, hr1⟩
    go_wp2_with fail
    go_end0
    exact ⟨rfl, v1, hw1, hr1.pre k0⟩
  by_cases c3 : k = 3
  · subst c3
    rw [show thingB ⟨3, n, m, .slice ab xs.length cb, xs⟩ = varB n by simp [thingB]]
    go_enter Try.func11, Try.ntmps11
    go_wp2_with fail
    refine (wVar p v bs _ _ h' (by omega) hn0 hn1).mono ?_
    rintro e w1 ⟨rfl, v1, hw1, hr1⟩
    go_wp2_with fail
    go_end0
    exact ⟨rfl, v1, hw1, hr1.pre k0⟩
  by_cases c4 : k = 4
  · subst c4
    rw [show thingB ⟨4, n, m, .slice ab xs.length cb, xs⟩ = xs by simp [thingB]]
    go_enter Try.func11, Try.ntmps11
    go_wp2_with fail
    refine (wRaw p v bs ab _ cb xs _ h' hs' rfl (by omega)).mono ?_
    rintro e w1 ⟨rfl, v1, hw1, hr1⟩
    go_wp2_with fail
    go_end0
    exact ⟨rfl, v1, hw1, hr1.pre k0⟩
  by_cases c5 : k = 5
  · subst c5
    rw [show thingB ⟨5, n, m, .slice ab xs.length cb, xs⟩ = textB xs by simp [thingB]]
    go_enter Try.func11, Try.ntmps11
    go_wp2_with fail
    refine (wText p v bs ab _ cb xs _ h' hs' rfl (by omega) hap).mono ?_
    rintro e w1 ⟨rfl, v1, hw1, hr1⟩
    go_wp2_with fail
    go_end0
    exact ⟨rfl, v1, hw1, hr1.pre k0⟩
  · rw [show thingB ⟨k, n, m, .slice ab xs.length cb, xs⟩ = [] by simp [thingB, c0, c1, c2, c3, c4, c5]]
    have d0 : (k == 0) = false := by simpa using c0
    have d1 : (k == 1) = false := by simpa using c1
    have d2 : (k == 2) = false := by simpa using c2
    have d3 : (k == 3) = false := by simpa using c3
    have d4 : (k == 4) = false := by simpa using c4
    have d5 : (k == 5) = false := by simpa using c5
    clear c0 c1 c2 c3 c4 c5
    go_enter Try.func11, Try.ntmps11
    go_wp2_with fail
    go_end0
    exact ⟨rfl, v, by simpa using h', (Wrote.refl p v w).post k0⟩

set_option maxHeartbeats 2000000 in
set_option maxRecDepth 100000 in
theorem cBytes (k n m : Int) (ab : Option Addr) (cb : Nat) (xs : List UInt8) (w : World) (hs : Sees w ab xs) (hn0 : 0 ≤ n) (hn1 : n < 18446744073709551616) (hb : xs.length ≤ 140737488351232) :
    Calls Try.prog 12 #[.agg #[.int .i64 k, .int .u64 n, .int .u64 m, .slice ab xs.length cb]] w fun e w' => ∃ a c, e = .returned (.slice a (thingB ⟨k, n, m, .slice ab xs.length cb, xs⟩).length c) ∧ Sees w' a (thingB ⟨k, n, m, .slice ab xs.length cb, xs⟩) ∧ Kp [] w w' := by
  have k0 : Kp [] w (w.alloc (.cells #[.int .i64 k, .int .u64 n, .int .u64 m, .slice ab xs.length cb] 29)) := (Kp.refl _ _).alloc _
  have hs' := hs.kept k0 (by simp)
  by_cases c0 : k = 0
  · subst c0
    rw [show thingB ⟨0, n, m, .slice ab xs.length cb, xs⟩ = be (n % 256).toNat 1 by simp [thingB, ← be_one n hn0]]
    go_enter Try.func12, Try.ntmps12
    go_wp2_with fail
    refine (cRefNumber _ 1 _ (by omega) (by omega) (by omega)).mono ?_
    rintro e w1 ⟨v1, rfl, r1, k1, o1⟩
    obtain ⟨a1, c1, rfl, s1, _⟩ := r1.sees
    go_wp2_with fail
    go_ret
    exact ⟨a1, c1, rfl, s1, k0.trans k1 (by simp)⟩
  by_cases c1 : k = 1
  · subst c1
    rw [show thingB ⟨1, n, m, .slice ab xs.length cb, xs⟩ = be (n % 4294967296).toNat 4 by simp [thingB, ← be_word n hn0]]
    go_enter Try.func12, Try.ntmps12
    go_wp2_with fail
    refine (cRefNumber _ 4 _ (by omega) (by omega) (by omega)).mono ?_
    rintro e w1 ⟨v1, rfl, r1, k1, o1⟩
    obtain ⟨a1, c1, rfl, s1, _⟩ := r1.sees
    go_wp2_with fail
    go_ret
    exact ⟨a1, c1, rfl, s1, k0.trans k1 (by simp)⟩
  by_cases c2 : k = 2
  · subst c2
    rw [show thingB ⟨2, n, m, .slice ab xs.length cb, xs⟩ = be n.toNat 8 by simp [thingB]]
    go_enter Try.func12, Try.ntmps12
    go_wp2_with fail
    refine (cRefNumber _ 8 _ hn0 hn1 (by omega)).mono ?_
    rintro e w1 ⟨v1, rfl, r1, k1, o1⟩
    obtain ⟨a1, c1, rfl, s1, _⟩ := r1.sees
    go_wp2_with fail
    go_ret
    exact ⟨a1, c1, rfl, s1, k0.trans k1 (by simp)⟩
  by_cases c3 : k = 3
  · subst c3
    rw [show thingB ⟨3, n, m, .slice ab xs.length cb, xs⟩ = varB n by simp [thingB]]
    go_enter Try.func12, Try.ntmps12
    go_wp2_with fail
    refine (cRefVar _ _ hn0 hn1).mono ?_
    rintro e w1 ⟨v1, rfl, r1, k1, o1⟩
    obtain ⟨a1, c1, rfl, s1, _⟩ := r1.sees
    go_wp2_with fail
    go_ret
    exact ⟨a1, c1, rfl, s1, k0.trans k1 (by simp)⟩
  by_cases c4 : k = 4
  · subst c4
    rw [show thingB ⟨4, n, m, .slice ab xs.length cb, xs⟩ = xs by simp [thingB]]
    go_enter Try.func12, Try.ntmps12
    go_wp2_with fail
    go_ret
    exact ⟨ab, cb, rfl, hs', k0⟩
  by_cases c5 : k = 5
  · subst c5
    rw [show thingB ⟨5, n, m, .slice ab xs.length cb, xs⟩ = textB xs by simp [thingB]]
    go_enter Try.func12, Try.ntmps12
    go_wp2_with fail
    refine (cRefText ab _ cb xs _ hs' rfl hb).mono ?_
    rintro e w1 ⟨v1, rfl, r1, k1, o1⟩
    obtain ⟨a1, c1, rfl, s1, _⟩ := r1.sees
    go_wp2_with fail
    go_ret
    exact ⟨a1, c1, rfl, s1, k0.trans k1 (by simp)⟩
  · rw [show thingB ⟨k, n, m, .slice ab xs.length cb, xs⟩ = [] by simp [thingB, c0, c1, c2, c3, c4, c5]]
    have d0 : (k == 0) = false := by simpa using c0
    have d1 : (k == 1) = false := by simpa using c1
    have d2 : (k == 2) = false := by simpa using c2
    have d3 : (k == 3) = false := by simpa using c3
    have d4 : (k == 4) = false := by simpa using c4
    have d5 : (k == 5) = false := by simpa using c5
    clear c0 c1 c2 c3 c4 c5
    go_enter Try.func12, Try.ntmps12
    go_wp2_with fail
    go_ret
    exact ⟨none, 0, rfl, Sees.nil _ _, k0⟩
end Go.Proofs.Ytkcdjnkipmbafaa

/- The writer's calls, more: lead, behind, number, Var, Word, Long, Raw, Text, Len, Bytes; bytes.Clone. -/
import Derived.Test.YtcmfhejjndlnnaaWra
namespace Go.Proofs.Ytcmfhejjndlnnaa
open Go.RowKit Go.Hay
set_option linter.unusedVariables false

theorem octet_shift (n : Int) (j : Nat) (h0 : 0 ≤ n) : octet (n / 2 ^ (8 * j) % 256) = UInt8.ofNat (n.toNat / 256 ^ j % 256) := by
  obtain ⟨m, rfl⟩ := Int.eq_ofNat_of_zero_le h0
  unfold octet
  have e : ((m : Int) / 2 ^ (8 * j) % 256) = ((m / 256 ^ j % 256 : Nat) : Int) := by
    rw [Int.pow_mul]
    simp
  rw [e, Int.toNat_natCast, Int.toNat_natCast]
theorem shift_bd (n : Int) (j : Nat) : 0 ≤ n / 2 ^ (8 * j) % 256 ∧ n / 2 ^ (8 * j) % 256 ≤ 255 := by omega

set_option maxHeartbeats 400000 in
theorem cLead (n : Int) (w : World) (h0 : 0 ≤ n) (h1 : n < 18446744073709551616) : Calls Try.prog 28 #[.int .u64 n] w fun e w' => e = .returned (.int .u8 (leadI n)) ∧ w' = w := by
  by_cases a : n < 253
  · have e : leadI n = n := by simp [leadI, a]
    rw [e]
    clear e
    go_enter Try.func28, Try.ntmps28
    go_wp2
    go_ret
    exact ⟨rfl, rfl⟩
  by_cases b : n < 65536
  · have e : leadI n = 253 := by simp [leadI, a, b]
    rw [e]
    clear e
    go_enter Try.func28, Try.ntmps28
    go_wp2
    go_ret
    exact ⟨rfl, rfl⟩
  by_cases c : n < 4294967296
  · have e : leadI n = 254 := by simp [leadI, a, b, c]
    rw [e]
    clear e
    go_enter Try.func28, Try.ntmps28
    go_wp2
    go_ret
    exact ⟨rfl, rfl⟩
  · have e : leadI n = 255 := by simp [leadI, a, b, c]
    rw [e]
    clear e
    go_enter Try.func28, Try.ntmps28
    go_wp2
    go_ret
    exact ⟨rfl, rfl⟩

set_option maxHeartbeats 400000 in
theorem cBehind (n : Int) (w : World) (h0 : 0 ≤ n) (h1 : n ≤ 255) : Calls Try.prog 31 #[.int .u8 n] w fun e w' => e = .returned (.int .i64 (behindI n)) ∧ w' = w := by
  by_cases a : n = 253
  · subst a
    go_enter Try.func31, Try.ntmps31
    go_wp2
    go_ret
    exact ⟨rfl, rfl⟩
  by_cases b : n = 254
  · subst b
    go_enter Try.func31, Try.ntmps31
    go_wp2
    go_ret
    exact ⟨rfl, rfl⟩
  by_cases c : n = 255
  · subst c
    go_enter Try.func31, Try.ntmps31
    go_wp2
    go_ret
    exact ⟨rfl, rfl⟩
  · have e : behindI n = 0 := by simp [behindI, a, b, c]
    have a' : (n == 253) = false := by simpa using a
    have b' : (n == 254) = false := by simpa using b
    have c' : (n == 255) = false := by simpa using c
    rw [e]
    clear e
    go_enter Try.func31, Try.ntmps31
    go_wp2
    go_ret
    exact ⟨rfl, rfl⟩

set_option maxHeartbeats 400000 in
theorem wNumber (p : Nat) (v : Value) (bs : List UInt8) (n : Int) (k : Nat) (w : World) (h : Wr w p v bs) (hb : bs.length + 8 ≤ 200000000000000) (h0 : 0 ≤ n) (h1 : n < 18446744073709551616) (hk : k ≤ 8) :
    Calls Try.prog 30 #[.pointer (some ⟨p, 0, none⟩), .int .u64 n, .int .i64 k] w fun e w' => e = .returned (.tuple #[]) ∧ ∃ v', Wr w' p v' (bs ++ be n.toNat k) ∧ Wrote p v w v' w' := by
  go_enter Try.func30, Try.ntmps30
  go_wp2_with fail
  go_loopw [6] (fun s wr => ∃ (j : Nat) (cur : List UInt8) (v' : Value), s = .int .i64 (8 * ((j : Int) - 1)) ∧ j ≤ k ∧ Wr wr p v' cur ∧ Hid (cur ++ be n.toNat j = bs ++ be n.toNat k) ∧ Wrote p v w v' wr) (fun s _ => (intOf s + 8).toNat)
  case atStart => exact ⟨k, bs, v, rfl, Nat.le_refl _, h, rfl, Wrote.refl _ _ _⟩
  case round =>
    obtain ⟨j, cur, v', rfl, hj, hw, hcur, hwr⟩ := hrel
    have hlen : cur.length + j = bs.length + k := by have := congrArg List.length hcur.out; simpa [be_length] using this
    cases j with
    | zero =>
      go_wp2_with fail
      go_end0
      have e : cur = bs ++ be n.toNat k := by have := hcur.out; simpa [be] using this
      exact ⟨rfl, v', e ▸ hw, hwr⟩
    | succ j =>
      have H : Hid (cur ++ [octet (n / 2 ^ (8 * j) % 256)] ++ be n.toNat j = bs ++ be n.toNat k) := by
        have := hcur.out
        show _ = _
        rw [octet_shift n j h0]
        simpa [be] using this
      go_wp2_with fail
      refine (wByte p v' cur _ _ hw (by omega) (shift_bd n j).1 (shift_bd n j).2).mono ?_
      rintro e w1 ⟨rfl, v1, hw1, hwr1⟩
      go_wp2_with fail
      go_roundw
      case rel => exact ⟨j, _, v1, by go_num, by omega, hw1, H, hwr.trans hwr1⟩
      case measure => simp [intOf]; omega
end Go.Proofs.Ytcmfhejjndlnnaa

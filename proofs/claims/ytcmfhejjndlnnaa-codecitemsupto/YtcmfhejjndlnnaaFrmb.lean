/- The reference's bytes: Number, Said. -/
import Derived.Test.YtcmfhejjndlnnaaRdc
import Derived.Test.YtcmfhejjndlnnaaMat2
namespace Go.Proofs.Ytcmfhejjndlnnaa
open Go.RowKit Go.Hay
set_option linter.unusedVariables false

theorem said_step (m x : Nat) (hm : m < 72057594037927936) (hx : x < 256) : IntKind.u64.wrap (IntKind.u64.wrap (256 * (m : Int)) + (x : Int)) = ((m * 256 + x : Nat) : Int) := by
  rw [IntKind.wrap_u64, IntKind.wrap_u64]
  omega

set_option maxHeartbeats 400000 in
theorem cSaid (a : Option Addr) (n c : Nat) (xs : List UInt8) (w : World) (hs : Sees w a xs) (hn : n = xs.length) (hb : xs.length ≤ 8) :
    Calls Try.prog 41 #[.slice a n c] w fun e w' => e = .returned (.int .u64 (num xs)) ∧ w' = w := by
  subst hn
  go_enter Try.func41, Try.ntmps41
  go_wp2_with fail
  go_loop [3, 4] (fun s i => ∃ k : Nat, k ≤ xs.length ∧ i = .int .i64 k ∧ s = .int .u64 (num (xs.take k))) (fun _ i => xs.length - (intOf i).toNat)
  case atStart => exact ⟨0, Nat.zero_le _, rfl, rfl⟩
  case round =>
    obtain ⟨k, hk, rfl, rfl⟩ := hrel
    by_cases hlt : k < xs.length
    · rcases hs with rfl | ⟨g, o, rfl, hc⟩
      · simp at hlt
      have hck := hc k xs[k] (by simp)
      have H := hid (num_take_succ xs k hlt)
      have H2 := hid (num_take_lt xs k (by omega))
      have hx : xs[k].toNat < 256 := xs[k].toNat_lt
      clear hc
      go_wp2
      refine ⟨⟨k + 1, by omega, by go_num, ?_⟩, by simp [intOf]; omega⟩
      rw [H.out, ← said_step _ _ H2.out hx]
    · go_wp2
      go_ret
      exact ⟨ret_int (by rw [List.take_of_length_le (by omega)]), rfl⟩

set_option maxHeartbeats 1000000 in
set_option maxRecDepth 100000 in
theorem cRefNumber (n : Int) (k : Nat) (w : World) (h0 : 0 ≤ n) (h1 : n < 18446744073709551616) (hk : k ≤ 8) :
    Calls Try.prog 42 #[.int .u64 n, .int .i64 k] w fun e w' => ∃ v, e = .returned v ∧ Row w' v (be n.toNat k) ∧ Kp [] w w' ∧ ∀ k ∈ own v, w.heap.size ≤ k := by
  obtain ⟨n, rfl⟩ := Int.eq_ofNat_of_zero_le h0
  rw [Int.toNat_natCast]
  obtain ⟨i0, hi, hz0, hz1, hz2⟩ := info_parts Try.infoB
  go_enter Try.func42, Try.ntmps42
  go_wp2_with fail
  go_loopw [5, 6, 7, 8] (fun b i _ _ wr => ∃ (j : Nat) (cur : List UInt8), i = .int .i64 ((j : Int) - 1) ∧ j ≤ k ∧ Row wr b cur ∧ Hid (cur ++ be n j = be n k) ∧ Kp [] w wr ∧ ∀ k ∈ own b, w.heap.size ≤ k) (fun _ i _ _ _ => (intOf i + 1).toNat)
  case atStart => exact ⟨k, [], rfl, Nat.le_refl _, Row.nil _, rfl, Kp.refl _ _, by simp [own, Value.ownBlock]⟩
  case round =>
    obtain ⟨j, cur, rfl, hj, hrow, hcur, hkp, hown⟩ := hrel
    have hlen : cur.length + j = k := by have := congrArg List.length hcur.out; simpa [be_length] using this
    cases j with
    | zero =>
      go_wp2_with fail
      go_ret
      have e : cur = be n k := by have := hcur.out; simpa [be] using this
      exact ⟨_, rfl, e ▸ hrow, hkp, hown⟩
    | succ j =>
      rw [show (((j + 1 : Nat) : Int) - 1) = (j : Int) by omega]
      have hj8 : j < 8 := by omega
      go_wp2_with fail
      go_loop [7, 8] (fun kk jj => ∃ m : Nat, m ≤ j ∧ jj = .int .i64 m ∧ kk = .int .u64 ((n / 256 ^ m : Nat))) (fun _ jj => j - (intOf jj).toNat)
      case atStart => exact ⟨0, Nat.zero_le _, rfl, by simp⟩
      case round =>
        obtain ⟨m, hm, rfl, rfl⟩ := hrel
        have hq : n / 256 ^ m ≤ n := Nat.div_le_self _ _
        by_cases hmj : m < j
        · have HQ := hid (show n / 256 ^ (m + 1) = n / 256 ^ m / 256 by rw [Nat.pow_succ, Nat.div_div_eq_div_mul])
          generalize n / 256 ^ m = q at *
          go_wp2_with fail
          exact ⟨⟨m + 1, by omega, by go_num, by rw [HQ.out, Int.natCast_ediv]; rfl⟩, by simp [intOf]; omega⟩
        · obtain rfl : m = j := by omega
          have H : Hid (cur ++ [octet ((n / 256 ^ m : Nat) % 256 : Int)] ++ be n m = be n k) := by
            have := hcur.out
            show _ = _
            rw [show octet ((n / 256 ^ m : Nat) % 256 : Int) = UInt8.ofNat (n / 256 ^ m % 256) by
              unfold octet; congr 1]
            simpa [be] using this
          generalize n / 256 ^ m = q at *
          have k0 : Kp [] wr (wr.alloc (.cells #[.int .u8 ((q : Int) % 256)] 5)) := (Kp.refl _ _).alloc _
          have hsrc : Src Try.prog 1 22 (.slice (some ⟨wr.heap.size, 0, none⟩) 1 1) [octet ((q : Int) % 256)].length (bcells [octet ((q : Int) % 256)]) (wr.alloc (.cells #[.int .u8 ((q : Int) % 256)] 5)) :=
            Src.ofSlice _ Try.underlying22 ⟨wr.heap.size, 0, none⟩ 1 1 _ rfl (by intro j u hj; match j, hj with | 0, hj => simp [bcells] at hj; subst hj; rw [octet_toNat _ (by omega) (by omega)]; simp [Addr.add]) (bcells_one _)
          go_wp2_with (at_builtin; refine wpList_append_src _ rfl (.tmp 23) (.tmp 27) 22 22 rfl i0 Try.underlying22 hi hz0 hz1 hz2 _ cur rfl (hrow.kept k0 (by simp)) _ [octet ((q : Int) % 256)] rfl hsrc (by simp; omega) ?_)
          intro v' w1 hr hk' hn
          go_wp2_with fail
          have hsz := hkp.size
          exact ⟨⟨m, cur ++ [octet ((q : Int) % 256)], rfl, by omega, hr, H, (hkp.trans k0 (by simp)).trans hk' (fun x hx => .inr (hown x hx)), fun x hx => by
            rcases hn x hx with h | h
            · exact hown x h
            · omega⟩, by simp [intOf]⟩
end Go.Proofs.Ytcmfhejjndlnnaa

/- For every slice of bytes and every place: the program's checksum is the reference's; that of the document's example is right; one bit that is turned gives another checksum. -/
import Derived.Test.YtamankgichaacabDoorSuma
import Derived.Test.YtamankgichaacabDoorOpn
import Derived.RegionTactic
import Derived.BigRegion
import Derived.ChangeAlike
namespace Go.Proofs.YtamankgichaacabDoor
open Go.RowKit Go.Hay
set_option linter.unusedVariables false

theorem crc9 : crc [49, 50, 51, 52, 53, 54, 55, 56, 57] = 3421780262 := by decide +kernel

theorem turned (x : UInt8) (k : Nat) (hk : k < 8) : ∃ y : UInt8, bits BinOp.xor IntKind.u8 (x.toNat : Int) (2 ^ k % 256) = (y.toNat : Int) ∧ x ≠ y := by
  have hx := x.toNat_lt
  have hp : 2 ^ k < 2 ^ 8 := Nat.pow_lt_pow_right (by omega) hk
  have hpos : 0 < 2 ^ k := Nat.pow_pos (by omega)
  have hl : x.toNat ^^^ 2 ^ k < 256 := Nat.xor_lt_two_pow (n := 8) (by omega) (by omega)
  have hy : (UInt8.ofNat (x.toNat ^^^ 2 ^ k)).toNat = x.toNat ^^^ 2 ^ k := by rw [UInt8.toNat_ofNat']; omega
  refine ⟨UInt8.ofNat (x.toNat ^^^ 2 ^ k), ?_, fun e => ?_⟩
  · have h1 := u8_xor_nat x.toNat (2 ^ k) (by omega) hp
    rw [hy, ← h1]
    have e : ((2 : Int) ^ k % 256) = ((2 ^ k : Nat) : Int) := by
      rw [Int.natCast_pow]
      have : ((2 : Int) ^ k) = ((2 ^ k : Nat) : Int) := by rw [Int.natCast_pow]; rfl
      rw [this]
      omega
    rw [e]
  · have h2 := congrArg UInt8.toNat e
    rw [hy] at h2
    exact xor_ne x.toNat (2 ^ k) (by omega) h2.symm
theorem set_split (bs : List UInt8) (i : Nat) (hi : i < bs.length) (y : UInt8) (h : bs[i] ≠ y) : crc bs ≠ crc (bs.set i y) := by
  have e1 : bs = bs.take i ++ bs[i] :: bs.drop (i + 1) := by simp
  rw [List.set_eq_take_append_cons_drop, if_pos hi]
  conv => lhs; rw [e1]
  exact crc_byte _ _ _ _ h

set_option maxHeartbeats 1000000 in
set_option maxRecDepth 100000 in
theorem sumsWalk (a : Option Addr) (n c : Nat) (bs : List UInt8) (at' : Int) (w : World) (ht : Tab w) (hs : Sees w a bs) (hn : n = bs.length) (hl : bs.length ≤ c) (hm : c ≤ maxLen) (hb : bs.length ≤ 140737488351232) (h0 : -9223372036854775808 ≤ at') (h1 : at' ≤ 9223372036854775807) :
    Calls Tryd.prog 3 #[.slice a n c, .int .i64 at'] w fun e w' => e = .returned (.bool true) ∧ Below w.heap.size w w' := by
  subst hn
  unfold maxLen at hm
  have kc := fun (w : World) (C : Array Value) (n c : Nat) => Lib.run_convert_bytes_const (P := Tryd.prog) w 22 5 C n c Tryd.underlying22 Tryd.underlying5
  go_enter Tryd.func3, Tryd.ntmps3
  go_wp2_with fail
  refine (cSum a _ c bs _ ht hs rfl (by omega)).mono ?_
  rintro e w ⟨rfl, rfl⟩
  go_wp2_with fail
  refine (cAlive _).mono ?_
  rintro e w1 ⟨rfl, k1⟩
  go_wp2_with fail
  refine (cRefSum a _ c bs _ (hs.kept k1 (by simp)) rfl (by omega)).mono ?_
  rintro e w2 ⟨rfl, rfl⟩
  go_wp2_with fail
  have k2 : Kp [] w2 (w2.alloc (.cells #[.int .u8 49, .int .u8 50, .int .u8 51, .int .u8 52, .int .u8 53, .int .u8 54, .int .u8 55, .int .u8 56, .int .u8 57] 5 (9, 10))) := (Kp.refl _ _).alloc _
  refine (cSum _ 9 9 [49, 50, 51, 52, 53, 54, 55, 56, 57] _ ((ht.kept k1 (by simp)).kept k2 (by simp)) (Sees.new _ _ _ _ _ rfl) rfl (by simp)).mono ?_
  rintro e w3 ⟨rfl, rfl⟩
  have k3 := k1.trans k2 (by simp)
  clear k1 k2
  rw [crc9]
  by_cases hat : at' < 0
  · go_wp2_with fail
    go_ret
    exact ⟨rfl, k3.below⟩
  obtain ⟨t, rfl⟩ := Int.eq_ofNat_of_zero_le (Int.not_lt.1 hat)
  clear hat h0
  by_cases hge : bs.length ≤ t / 8
  · have hge' : (bs.length : Int) ≤ (t : Int) / 8 := by omega
    go_wp2_with fail
    go_ret
    exact ⟨rfl, k3.below⟩
  have hlt : t / 8 < bs.length := by omega
  have hge' : (t : Int) / 8 < (bs.length : Int) := by omega
  clear hge
  obtain ⟨i0, hi, hz0, hz1, hz2⟩ := info_parts Tryd.infoB
  have hs3 := hs.kept k3 (by simp)
  have hsrc := hs3.src (P := Tryd.prog) Tryd.underlying22 c
  go_wp2_with (at_builtin; refine wpList_append_src _ rfl (.const (.slice none 0 0)) (.tmp 32) 22 22 rfl i0 Tryd.underlying22 hi hz0 hz1 hz2 _ [] rfl (Row.nil _) _ bs rfl hsrc (by simp; omega) ?_)
  intro v' w4 hr hk hn
  have k4 := k3.trans hk (by simp [own, Value.ownBlock])
  have hnew : ∀ k ∈ own v', w.heap.size ≤ k := fun k hk' => by
    rcases hn k hk' with h | h
    · simp [own, Value.ownBlock] at h
    · have := k3.size; simp at this h; omega
  have ht4 := ht.kept k4 (by simp)
  clear hs3 hsrc hk hn k3 hi hz0 hz1 hz2 i0 kc
  rcases hr with ⟨_, h⟩ | ⟨g, o, cap, rfl, hlc, hcm, hgl, hc, hfr⟩
  · subst h; simp at hlt
  have hge0 : w.heap.size ≤ g := hnew g (by simp [own, Value.ownBlock])
  have hci := hc (t / 8) bs[t / 8] (by simp)
  have hfi := (hfr (t / 8) (by omega)).2
  obtain ⟨y, hy, hne⟩ := turned bs[t / 8] (t % 8) (by omega)
  have hset := (Sees.set hc (t / 8) y hlt).drew
  have k5 : Kp [] w ((w4.setCell ⟨g, o + t / 8, none⟩ (.int .u8 y.toNat)).drew) := (k4.setCell (p := ⟨g, o + t / 8, none⟩) (.inr hge0) _).drew
  have ht5 := ht.kept k5 (by simp)
  have HN := hid (set_split bs (t / 8) hlt y hne)
  clear hc hfr hnew k4 ht4
  go_wp2_with fail
  go_region
  go_wp2_with fail
  refine (cSum _ bs.length cap _ _ ht5 hset (by simp) (by simp; omega)).mono ?_
  rintro e w5 ⟨rfl, rfl⟩
  have hfin : (((crc (bs.set (t / 8) y) : Nat) : Int) != ((crc bs : Nat) : Int)) = true := by
    rw [bne_iff_ne]
    intro h
    exact HN.out (by omega)
  go_wp2_with fail
  go_ret
  exact ⟨rfl, k5.below⟩
end Go.Proofs.YtamankgichaacabDoor

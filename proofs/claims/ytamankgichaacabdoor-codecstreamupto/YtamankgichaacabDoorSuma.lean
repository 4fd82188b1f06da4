/- The checksum's two texts: the program's, by a table of half bytes, and the reference's, bit by bit. -/
import Derived.Test.YtamankgichaacabDoorAli
import Derived.Test.YtamankgichaacabDoorCrc
import Derived.Laws.BitsAllLaws
namespace Go.Proofs.YtamankgichaacabDoor
open Go.RowKit Go.Hay
set_option linter.unusedVariables false

/-- The table of half bytes lies in block 0. -/
def Tab (w : World) : Prop := 0 < w.heap.size ∧ ∀ d, d < 16 → w.cell? ⟨0, d, none⟩ = some (.int .u32 (crcTab.getD d 0))
theorem Tab.kept {w w' : World} {S : List Nat} (h : Tab w) (hk : Kp S w w') (h0 : 0 ∉ S) : Tab w' :=
  ⟨Nat.lt_of_lt_of_le h.1 hk.size, fun d hd => (hk.cell (p := ⟨0, d, none⟩) h.1 h0).trans (h.2 d hd)⟩
theorem crcTab_lt (d : Nat) : crcTab.getD d 0 < 4294967296 := by
  by_cases h : d < 16
  · have : ∀ d, d < 16 → crcTab.getD d 0 < 4294967296 := by decide +kernel
    exact this d h
  · have h2 : crcTab[d]? = none := List.getElem?_eq_none (by have : crcTab.length = 16 := rfl; omega)
    simp [List.getD, h2]

theorem xorEnd (xs : List UInt8) : bits BinOp.xor IntKind.u32 ((crcR 4294967295 xs : Nat) : Int) 4294967295 = ((crc xs : Nat) : Int) :=
  u32_xor_nat (crcR 4294967295 xs) 4294967295 (crcR_lt xs _ (by omega)) (by omega)
theorem notEnd (xs : List UInt8) : bits BinOp.xor IntKind.u32 IntKind.u32.max ((crcR 4294967295 xs : Nat) : Int) = ((crc xs : Nat) : Int) := by
  have h := u32_xor_nat 4294967295 (crcR 4294967295 xs) (by omega) (crcR_lt xs _ (by omega))
  rw [Nat.xor_comm] at h
  exact h
theorem crcR_take (xs : List UInt8) (k : Nat) (h : k < xs.length) : crcR 4294967295 (xs.take (k + 1)) = crcStep (crcR 4294967295 (xs.take k)) xs[k] := by
  rw [List.take_succ_eq_append_getElem h, crcR_snoc]

set_option maxHeartbeats 1000000 in
set_option maxRecDepth 100000 in
theorem cSum (a : Option Addr) (n c : Nat) (xs : List UInt8) (w : World) (ht : Tab w) (hs : Sees w a xs) (hn : n = xs.length) (hb : xs.length ≤ 200000000000000) :
    Calls Tryd.prog 7 #[.slice a n c] w fun e w' => e = .returned (.int .u32 (crc xs)) ∧ w' = w := by
  subst hn
  go_enter Tryd.func7, Tryd.ntmps7
  go_wp2_with fail
  go_loop [3, 5, 8] (fun s _ i => ∃ k : Nat, k ≤ xs.length ∧ i = .int .i64 k ∧ s = .int .u32 (crcR 4294967295 (xs.take k))) (fun _ _ i => xs.length - (intOf i).toNat)
  case atStart => exact ⟨0, Nat.zero_le _, rfl, rfl⟩
  case round =>
    obtain ⟨k, hk, rfl, rfl⟩ := hrel
    have hr := crcR_lt (xs.take k) 4294967295 (by omega)
    by_cases hlt : k < xs.length
    · rcases hs with rfl | ⟨g, o, rfl, hc⟩
      · simp at hlt
      have hck := hc k xs[k] (by simp)
      have H := hid (crcR_take xs k hlt)
      have hx : xs[k].toNat < 256 := xs[k].toNat_lt
      clear hc
      generalize crcR 4294967295 (xs.take k) = r at *
      have H1 : Hid (nib (nib (r ^^^ xs[k].toNat)) = crcR 4294967295 (xs.take (k + 1))) := (step_nib r xs[k]).trans H.out.symm
      clear H
      generalize xs[k] = x at *
      have e1 : bits BinOp.xor IntKind.u32 (r : Int) (x.toNat : Int) = ((r ^^^ x.toNat : Nat) : Int) := u32_xor_nat _ _ hr (by omega)
      have b1 := xor_lt32 r x.toNat hr (by omega)
      generalize r ^^^ x.toNat = r1 at *
      have half : ∀ m : Nat, m < 4294967296 → ∃ d t q : Nat, bits BinOp.and IntKind.u32 (m : Int) 15 = (d : Int) ∧ d < 16 ∧ w.cell? ⟨0, d, none⟩ = some (.int .u32 t) ∧ bits BinOp.xor IntKind.u32 ((m : Int) / 16) (t : Int) = (q : Int) ∧ q < 4294967296 ∧ Hid (q = nib m) := by
        intro m hm
        have ht16 := crcTab_lt (m % 16)
        refine ⟨m % 16, crcTab.getD (m % 16) 0, nib m, ?_, by omega, ht.2 _ (by omega), ?_, ?_, rfl⟩
        · have h1 := u32_and_nat m 15 hm (by omega)
          rw [show m &&& 15 = m % 16 from Nat.and_two_pow_sub_one_eq_mod m 4] at h1
          exact h1
        · have h1 := u32_xor_nat (m / 16) (crcTab.getD (m % 16) 0) (by omega) ht16
          rw [Int.natCast_ediv] at h1
          exact h1
        · exact xor_lt32 _ _ (by omega) ht16
      obtain ⟨d1, t1, r2, f1, f2, f3, f4, f5, f6⟩ := half r1 b1
      obtain ⟨d2, t2, r3, g1, g2, g3, g4, g5, g6⟩ := half r2 f5
      have H2 : Hid (r3 = crcR 4294967295 (xs.take (k + 1))) := by show _ = _; rw [g6.out, f6.out]; exact H1.out
      clear half H1 f6 g6 ht
      go_wp2
      exact ⟨⟨k + 1, by omega, by go_num, by rw [H2.out]⟩, by simp [intOf]; omega⟩
    · have H : Hid (xs.take k = xs) := List.take_of_length_le (by omega)
      go_wp2
      go_ret
      exact ⟨ret_int (by rw [H.out]; exact notEnd xs), rfl⟩

set_option maxHeartbeats 1000000 in
set_option maxRecDepth 100000 in
theorem cRefSum (a : Option Addr) (n c : Nat) (xs : List UInt8) (w : World) (hs : Sees w a xs) (hn : n = xs.length) (hb : xs.length ≤ 200000000000000) :
    Calls Tryd.prog 9 #[.slice a n c] w fun e w' => e = .returned (.int .u32 (crc xs)) ∧ w' = w := by
  subst hn
  go_enter Tryd.func9, Tryd.ntmps9
  go_wp2_with fail
  go_loop [3, 4, 5] (fun s i _ => ∃ k : Nat, k ≤ xs.length ∧ i = .int .i64 k ∧ s = .int .u32 (crcR 4294967295 (xs.take k))) (fun _ i _ => xs.length - (intOf i).toNat)
  case atStart => exact ⟨0, Nat.zero_le _, rfl, rfl⟩
  case round =>
    obtain ⟨k, hk, rfl, rfl⟩ := hrel
    have hr := crcR_lt (xs.take k) 4294967295 (by omega)
    by_cases hlt : k < xs.length
    · rcases hs with rfl | ⟨g, o, rfl, hc⟩
      · simp at hlt
      have hck := hc k xs[k] (by simp)
      have H := hid (crcR_take xs k hlt)
      have hx : xs[k].toNat < 256 := xs[k].toNat_lt
      clear hc
      generalize crcR 4294967295 (xs.take k) = r at *
      generalize xs[k] = x at *
      have e1 : bits BinOp.xor IntKind.u32 (r : Int) (x.toNat : Int) = ((r ^^^ x.toNat : Nat) : Int) := u32_xor_nat _ _ hr (by omega)
      have b1 := xor_lt32 r x.toNat hr (by omega)
      have H1 : Hid (bitN 8 (r ^^^ x.toNat) = crcR 4294967295 (xs.take (k + 1))) := H.out.symm
      clear H
      generalize r ^^^ x.toNat = r1 at *
      go_wp2
      go_loop [3, 5] (fun s j => ∃ m : Nat, m ≤ 8 ∧ j = .int .i64 m ∧ s = .int .u32 (bitN m r1)) (fun _ j => 8 - (intOf j).toNat)
      case atStart => exact ⟨0, Nat.zero_le _, rfl, rfl⟩
      case round =>
        obtain ⟨m, hm, rfl, rfl⟩ := hrel
        have hbn := bitN_lt m r1 b1
        by_cases hm8 : m < 8
        · have e2 : bits BinOp.xor IntKind.u32 ((bitN m r1 : Nat) / 2 : Int) 3988292384 = ((bitN m r1 / 2 ^^^ 3988292384 : Nat) : Int) := by
            have := u32_xor_nat (bitN m r1 / 2) 3988292384 (by omega) (by omega)
            rw [Int.natCast_ediv] at this
            exact this
          have HB : Hid (bitN (m + 1) r1 = if bitN m r1 % 2 = 1 then bitN m r1 / 2 ^^^ 3988292384 else bitN m r1 / 2) := rfl
          generalize bitN m r1 = q at *
          by_cases hq : q % 2 = 1
          · have HB2 := hid (HB.out.trans (if_pos hq))
            clear HB
            go_wp2
            exact ⟨⟨m + 1, by omega, by go_num, by rw [HB2.out]⟩, by simp [intOf]; omega⟩
          · have HB2 := hid (HB.out.trans (if_neg hq))
            clear HB
            go_wp2
            exact ⟨⟨m + 1, by omega, by go_num, by rw [HB2.out, Int.natCast_ediv]; rfl⟩, by simp [intOf]; omega⟩
        · have HM : Hid (bitN m r1 = bitN 8 r1) := by show _ = _; rw [show m = 8 by omega]
          go_wp2
          exact ⟨⟨k + 1, by omega, by go_num, by rw [HM.out, H1.out]⟩, by simp [intOf]; omega⟩
    · have H : Hid (xs.take k = xs) := List.take_of_length_le (by omega)
      go_wp2
      go_ret
      exact ⟨ret_int (by rw [H.out]; exact xorEnd xs), rfl⟩
end Go.Proofs.YtamankgichaacabDoor

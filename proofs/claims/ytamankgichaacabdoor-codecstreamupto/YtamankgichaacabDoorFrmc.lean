/- Frames, the reference's Frame; Unframe, both. -/
import Derived.Test.YtamankgichaacabDoorFrma
import Derived.Test.YtamankgichaacabDoorFrmb
import Derived.Deep.QuietTactic
import Derived.BigQuiet
namespace Go.Proofs.YtamankgichaacabDoor
open Go.RowKit Go.Hay
set_option linter.unusedVariables false

set_option maxHeartbeats 1000000 in
set_option maxRecDepth 100000 in
theorem cRefFrameLong (a : Option Addr) (n c : Nat) (bs : List UInt8) (w : World) (hn : n = bs.length) (h : 16777216 < bs.length) :
    Calls Tryd.prog 11 #[.slice a n c] w fun e w' => e = .returned (.tuple #[.slice none 0 0, .int .i64 12]) ∧ w' = w := by
  subst hn
  go_enter Tryd.func11, Tryd.ntmps11
  go_wp2_with fail
  go_ret2
  exact ⟨rfl, rfl⟩

set_option maxHeartbeats 1000000 in
set_option maxRecDepth 100000 in
theorem cRefFrame (a : Option Addr) (n c : Nat) (bs : List UInt8) (w : World) (hs : Sees w a bs) (hn : n = bs.length) (h : bs.length ≤ 16777216) :
    Calls Tryd.prog 11 #[.slice a n c] w fun e w' => ∃ v, e = .returned (.tuple #[v, .int .i64 0]) ∧ Row w' v (frameB bs) ∧ Kp [] w w' ∧ ∀ k ∈ own v, w.heap.size ≤ k := by
  subst hn
  obtain ⟨i0, hi, hz0, hz1, hz2⟩ := info_parts Tryd.infoB
  go_enter Tryd.func11, Tryd.ntmps11
  go_wp2_with fail
  refine (cRefNumber bs.length 4 _ (by omega) (by omega) (by omega)).mono ?_
  rintro e w1 ⟨v1, rfl, r1, k1, o1⟩
  rw [Int.toNat_natCast] at r1
  obtain ⟨a1, c1, rfl, s1, _⟩ := r1.sees
  rw [be_length] at r1 o1 ⊢
  go_wp2_with fail
  refine (cRefSum a1 _ c1 (be bs.length 4) _ s1 (by rw [be_length]) (by rw [be_length]; omega)).mono ?_
  rintro e w2 ⟨rfl, rfl⟩
  have hcr := crc_lt (be bs.length 4)
  go_wp2_with fail
  refine (cRefNumber _ 4 _ (by omega) (by omega) (by omega)).mono ?_
  rintro e w3 ⟨v3, rfl, r3, k3, o3⟩
  rw [Int.toNat_natCast] at r3
  obtain ⟨a3, c3, rfl, s3, _⟩ := r3.sees
  have hsrc3 := s3.src (P := Tryd.prog) Tryd.underlying22 c3
  have r1' := r1.kept k3 (by simp)
  clear r1 s1
  go_wp2_with (at_builtin; refine wpList_append_src _ rfl (.tmp 12) (.tmp 16) 22 22 rfl i0 Tryd.underlying22 hi hz0 hz1 hz2 _ _ rfl r1' _ _ rfl hsrc3 (by simp [be_length]) ?_)
  intro v4 w4 r4 k4 o4
  obtain ⟨k5, o5⟩ := stepA (k1.trans k3 (by simp)) o1 k4 o4
  have hsrc5 := (hs.kept k5 (by simp)).src (P := Tryd.prog) Tryd.underlying22 c
  clear r1' hsrc3 s3 r3 k4 o4 k3 k1 o1 o3
  go_wp2_with (at_builtin; refine wpList_append_src _ rfl (.tmp 18) (.tmp 19) 22 22 rfl i0 Tryd.underlying22 hi hz0 hz1 hz2 _ _ rfl r4 _ _ rfl hsrc5 (by simp [be_length]; omega) ?_)
  intro v6 w6 r6 k6 o6
  obtain ⟨k7, o7⟩ := stepA k5 o5 k6 o6
  clear r4 hsrc5 k6 o6 k5 o5
  go_wp2_with fail
  refine (cRefSum a _ c bs _ (hs.kept k7 (by simp)) rfl (by omega)).mono ?_
  rintro e w8 ⟨rfl, rfl⟩
  have hcr2 := crc_lt bs
  go_wp2_with fail
  refine (cRefNumber _ 4 _ (by omega) (by omega) (by omega)).mono ?_
  rintro e w9 ⟨v9, rfl, r9, k9, o9⟩
  rw [Int.toNat_natCast] at r9
  obtain ⟨a9, c9, rfl, s9, _⟩ := r9.sees
  have hsrc9 := s9.src (P := Tryd.prog) Tryd.underlying22 c9
  have r6' := r6.kept k9 (by simp)
  have k10 := k7.trans k9 (by simp)
  clear r6 s9 r9 k9 o9 k7
  go_wp2_with (at_builtin; refine wpList_append_src _ rfl (.tmp 21) (.tmp 25) 22 22 rfl i0 Tryd.underlying22 hi hz0 hz1 hz2 _ _ rfl r6' _ _ rfl hsrc9 (by simp [be_length]; omega) ?_)
  intro v11 w11 r11 k11 o11
  obtain ⟨k12, o12⟩ := stepA k10 o7 k11 o11
  clear r6' hsrc9 k10 k11 o11 o7
  go_wp2_with fail
  go_ret2
  exact ⟨_, rfl, r11, k12, o12⟩
end Go.Proofs.YtamankgichaacabDoor

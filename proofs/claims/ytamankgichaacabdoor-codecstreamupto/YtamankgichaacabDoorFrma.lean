/- Frames, the program's: word, Frame. -/
import Derived.Test.YtamankgichaacabDoorSuma
import Derived.Test.YtamankgichaacabDoorMat2
import Derived.Test.YtamankgichaacabDoorWrw
namespace Go.Proofs.YtamankgichaacabDoor
open Go.RowKit Go.Hay
set_option linter.unusedVariables false

/-- A frame. -/
def frameB (bs : List UInt8) : List UInt8 := be bs.length 4 ++ be (crc (be bs.length 4)) 4 ++ bs ++ be (crc bs) 4
theorem frameB_length (bs : List UInt8) : (frameB bs).length = bs.length + 12 := by simp only [frameB, List.length_append, be_length]; omega

theorem Row.ofOwns {w : World} {g cap : Nat} (h : w.ownsRow 0 5 1 (.slice (some ⟨g, 0, none⟩) 0 cap) 0 []) : Row w (.slice (some ⟨g, 0, none⟩) 0 cap) [] := by
  rcases h.2 with ⟨h, _⟩ | ⟨g', cap', cur, hv, _, hh, _, hm, hsz, _⟩
  · cases h
  · cases hv
    refine .inr ⟨g, 0, cap, rfl, Nat.zero_le _, hm, (Array.getElem?_eq_some_iff.1 hh).1, by simp, fun j hj => ⟨?_, ?_⟩⟩
    · have : w.cell? ⟨g, 0 + j, none⟩ = cur[0 + j]? := by unfold World.cell?; rw [hh]; rfl
      rw [this, Nat.zero_add, Array.getElem?_eq_getElem (by omega)]
      rfl
    · simp [World.frozen?, hh]

set_option maxHeartbeats 400000 in
theorem cWord (a : Option Addr) (n c : Nat) (bs : List UInt8) (w : World) (hs : Sees w a bs) (hn : n = bs.length) (hl : bs.length ≤ c) (hm : c ≤ maxLen) (h4 : 4 ≤ bs.length) :
    Calls Tryd.prog 29 #[.slice a n c] w fun e w' => e = .returned (.int .u32 (num (bs.take 4))) ∧ w' = w := by
  subst hn
  unfold maxLen at hm
  have hlen : (bs.take 4).length = 4 := by simp; omega
  have hnum := num_lt_of (bs.take 4) 4 (by omega)
  have h4' : (4 : Int) ≤ (c : Int) := by omega
  go_enter Tryd.func29, Tryd.ntmps29
  go_wp2_with fail
  refine (cNumber a 4 c (bs.take 4) _ (hs.front 4) hlen.symm (by omega)).mono ?_
  rintro e w1 ⟨rfl, rfl⟩
  go_wp2_with fail
  go_ret
  exact ⟨rfl, rfl⟩

set_option maxHeartbeats 1000000 in
set_option maxRecDepth 100000 in
theorem cFrameLong (a : Option Addr) (n c : Nat) (bs : List UInt8) (w : World) (hn : n = bs.length) (h : 16777216 < bs.length) :
    Calls Tryd.prog 10 #[.slice a n c] w fun e w' => e = .returned (.tuple #[.slice none 0 0, .int .i64 12]) ∧ w' = w := by
  subst hn
  go_enter Tryd.func10, Tryd.ntmps10
  go_wp2_with fail
  go_ret2
  exact ⟨rfl, rfl⟩

set_option maxHeartbeats 1000000 in
set_option maxRecDepth 100000 in
theorem cFrame (a : Option Addr) (n c : Nat) (bs : List UInt8) (w : World) (ht : Tab w) (hs : Sees w a bs) (hn : n = bs.length) (h : bs.length ≤ 16777216) :
    Calls Tryd.prog 10 #[.slice a n c] w fun e w' => ∃ v, e = .returned (.tuple #[v, .int .i64 0]) ∧ Row w' v (frameB bs) ∧ Kp [] w w' ∧ ∀ k ∈ own v, w.heap.size ≤ k := by
  subst hn
  obtain ⟨i0, hi, hz0, hz1, hz2⟩ := info_parts Tryd.infoB
  go_enter Tryd.func10, Tryd.ntmps10
  go_wp2_with (at_make; refine wpList_make_own _ rfl _ _ 22 rfl 0 5 i0 (.int .u8 0) 1 Tryd.underlying22 hi hz0 hz1 .i64 .i64 _ (8 + bs.length + 4) rfl rfl (by omega) (by rw [hz2]; omega) (by unfold maxLen; omega) (Nat.zero_le _) ?_)
  intro w1 hown hg
  have hrow := Row.ofOwns hown
  have k1 : Kp [] w w1 := (Kp.refl [] w).grown hg (by simp)
  have hgl := hrow.lt w.heap.size (by simp [own, Value.ownBlock])
  clear hown hg hi hz0 hz1 hz2 i0
  have k2 : Kp [] w1 (w1.alloc (.cells #[.slice (some ⟨w.heap.size, 0, none⟩) 0 (8 + bs.length + 4)] 52)) := (Kp.refl _ _).alloc _
  have hw2 : Wr (w1.alloc (.cells #[.slice (some ⟨w.heap.size, 0, none⟩) 0 (8 + bs.length + 4)] 52)) w1.heap.size (.slice (some ⟨w.heap.size, 0, none⟩) 0 (8 + bs.length + 4)) [] :=
    ⟨by simp, by simp, hrow.kept k2 (by simp), by simp [own, Value.ownBlock]; omega⟩
  have k3 := k1.trans k2 (by simp)
  have hpge : w.heap.size ≤ w1.heap.size := k1.size
  have ho2 : ∀ k ∈ own (.slice (some ⟨w.heap.size, 0, none⟩) 0 (8 + bs.length + 4)), w.heap.size ≤ k := by simp [own, Value.ownBlock]
  clear hrow k1 k2
  go_wp2_with fail
  generalize w1.heap.size = p at *
  refine (wWord p _ [] bs.length _ hw2 (by simp) (by omega) (by omega)).mono ?_
  rintro e w2 ⟨rfl, v2, hw2, hr2⟩
  obtain ⟨k4, o2⟩ := stepW k3 hpge ho2 hr2
  have ht2 := ht.kept k4 (by simp)
  have hc2 := hw2.cell
  obtain ⟨a2, c2, rfl, hs2, _⟩ := hw2.row.sees
  rw [List.nil_append, Int.toNat_natCast] at hw2 hs2 hc2 o2
  rw [be_length] at hw2 hc2 o2
  clear hr2 k3 ho2 hgl
  go_wp2_with fail
  refine (cSum a2 _ c2 (be bs.length 4) _ ht2 hs2 (by rw [be_length]) (by rw [be_length]; omega)).mono ?_
  rintro e w3 ⟨rfl, rfl⟩
  have hcr := crc_lt (be bs.length 4)
  go_wp2_with fail
  refine (wWord p _ _ _ _ hw2 (by rw [be_length]; omega) (by omega) (by omega)).mono ?_
  rintro e w4 ⟨rfl, v4, hw4, hr4⟩
  obtain ⟨k5, o4⟩ := stepW k4 hpge o2 hr4
  rw [Int.toNat_natCast] at hw4
  clear hr4 hw2 hs2 hc2 k4 o2 ht2
  go_wp2_with fail
  refine (wRaw p v4 _ a _ c bs _ hw4 (hs.kept k5 (by simp)) rfl (by simp [be_length]; omega)).mono ?_
  rintro e w5 ⟨rfl, v5, hw5, hr5⟩
  obtain ⟨k6, o5⟩ := stepW k5 hpge o4 hr5
  clear hr5 hw4 k5 o4
  go_wp2_with fail
  refine (cSum a _ c bs _ (ht.kept k6 (by simp)) (hs.kept k6 (by simp)) rfl (by omega)).mono ?_
  rintro e w6 ⟨rfl, rfl⟩
  have hcr2 := crc_lt bs
  go_wp2_with fail
  refine (wWord p _ _ _ _ hw5 (by simp [be_length]; omega) (by omega) (by omega)).mono ?_
  rintro e w7 ⟨rfl, v7, hw7, hr7⟩
  obtain ⟨k7, o7⟩ := stepW k6 hpge o5 hr7
  rw [Int.toNat_natCast] at hw7
  have hc7 := hw7.cell
  have hrow := hw7.row
  clear hr7 hw5 k6 o5 hw7
  go_wp2_with fail
  go_ret2
  exact ⟨_, rfl, hrow, k7, o7⟩
end Go.Proofs.YtamankgichaacabDoor

/- Unframe, the program's. -/
import Derived.Test.YtamankgichaacabDoorFrmc
namespace Go.Proofs.YtamankgichaacabDoor
open Go.RowKit Go.Hay
set_option linter.unusedVariables false

/-- What the frame has that bytes begin with; how many bytes it is; what is amiss. -/
def unf (bs : List UInt8) : List UInt8 × Int × Int :=
  if bs.length < 8 then ([], 0, 10)
  else if num ((bs.drop 4).take 4) ≠ crc (bs.take 4) then ([], 0, 14)
  else if 16777216 < num (bs.take 4) then ([], 0, 12)
  else if bs.length < num (bs.take 4) + 12 then ([], 0, 10)
  else if num ((bs.drop (8 + num (bs.take 4))).take 4) ≠ crc ((bs.drop 8).take (num (bs.take 4))) then ([], 0, 14)
  else ((bs.drop 8).take (num (bs.take 4)), ((num (bs.take 4) + 12 : Nat) : Int), 0)

set_option maxHeartbeats 2000000 in
set_option maxRecDepth 100000 in
theorem cUnframe (a : Option Addr) (n c : Nat) (bs : List UInt8) (w : World) (ht : Tab w) (hs : Sees w a bs) (hn : n = bs.length) (hl : bs.length ≤ c) (hm : c ≤ maxLen) (hb : bs.length ≤ 200000000000000) :
    Calls Tryd.prog 12 #[.slice a n c] w fun e w' => ∃ v, e = .returned (.tuple #[v, .int .i64 (unf bs).2.1, .int .i64 (unf bs).2.2]) ∧ Row w' v (unf bs).1 ∧ Kp [] w w' ∧ ∀ k ∈ own v, w.heap.size ≤ k := by
  subst hn
  have hm' := hm
  unfold maxLen at hm
  by_cases h8 : bs.length < 8
  · rw [show unf bs = ([], 0, 10) by rw [unf, if_pos h8]]
    go_enter Tryd.func12, Tryd.ntmps12
    go_wp2_with fail
    go_ret3
    exact ⟨_, rfl, Row.nil _, Kp.refl _ _, by simp [own, Value.ownBlock]⟩
  have hc4 : ¬ c = 4 := by omega
  have hlw : ∀ k, (w.drewN k).heap.size = w.heap.size := fun _ => rfl
  have HW4 := hid (fun k => cWord (a.map (fun x => x.add 4)) (bs.length - 4) (c - 4) (bs.drop 4) (w.drewN k) (hs.tail 4) (by simp) (by simp; omega) (by unfold maxLen; omega) (by simp; omega))
  have HS4 := hid (fun k => cSum a 4 c (bs.take 4) (w.drewN k) ht (hs.front 4) (by simp; omega) (by simp; omega))
  have HW0 := hid (fun k => cWord a bs.length c bs (w.drewN k) hs rfl hl hm' (by omega))
  have hs4 := num_lt_of ((bs.drop 4).take 4) 4 (by simp; omega)
  have hm4 := num_lt_of (bs.take 4) 4 (by simp; omega)
  have hunf : unf bs = if num ((bs.drop 4).take 4) ≠ crc (bs.take 4) then ([], 0, 14)
    else if 16777216 < num (bs.take 4) then ([], 0, 12)
    else if bs.length < num (bs.take 4) + 12 then ([], 0, 10)
    else if num ((bs.drop (8 + num (bs.take 4))).take 4) ≠ crc ((bs.drop 8).take (num (bs.take 4))) then ([], 0, 14)
    else ((bs.drop 8).take (num (bs.take 4)), ((num (bs.take 4) + 12 : Nat) : Int), 0) := by rw [unf, if_neg h8]
  rw [hunf]
  clear hunf
  have hcr := crc_lt (bs.take 4)
  generalize num ((bs.drop 4).take 4) = s at *
  generalize crc (bs.take 4) = q at *
  generalize num (bs.take 4) = m at *
  by_cases hsq : s = q
  · subst hsq
    rw [if_neg (fun h => h rfl)]
    by_cases hbig : 16777216 < m
    · rw [if_pos hbig]
      go_enter Tryd.func12, Tryd.ntmps12
      go_wp2_with fail
      go_quiet (first | (go_at_call 29; refine Calls.quiet_of_same (HW4.out _)) | (go_at_call 7; refine Calls.quiet_of_same (HS4.out _)))
      go_wp2_with fail
      refine (HW0.out nq).mono ?_
      rintro e w1 ⟨rfl, rfl⟩
      go_wp2_with fail
      go_ret3
      exact ⟨_, rfl, Row.nil _, (Kp.refl _ _).drewN _, by simp [own, Value.ownBlock]⟩
    rw [if_neg hbig]
    by_cases hshort : bs.length < m + 12
    · rw [if_pos hshort]
      go_enter Tryd.func12, Tryd.ntmps12
      go_wp2_with fail
      go_quiet (first | (go_at_call 29; refine Calls.quiet_of_same (HW4.out _)) | (go_at_call 7; refine Calls.quiet_of_same (HS4.out _)))
      go_wp2_with fail
      refine (HW0.out nq).mono ?_
      rintro e w1 ⟨rfl, rfl⟩
      go_wp2_with fail
      refine (HW0.out nq).mono ?_
      rintro e w1 ⟨rfl, rfl⟩
      go_wp2_with fail
      go_ret3
      exact ⟨_, rfl, Row.nil _, (Kp.refl _ _).drewN _, by simp [own, Value.ownBlock]⟩
    rw [if_neg hshort]
    have hc8 : ¬ c = 8 := by omega
    have hc8m : ¬ c = 8 + m := by omega
    have HW8 := hid (fun k => cWord (a.map (fun x => x.add (8 + m))) (bs.length - (8 + m)) (c - (8 + m)) (bs.drop (8 + m)) (w.drewN k) (hs.tail (8 + m)) (by simp) (by simp; omega) (by unfold maxLen; omega) (by simp; omega))
    have HS8 := hid (fun k => cSum (a.map (fun x => x.add 8)) m (c - 8) ((bs.drop 8).take m) (w.drewN k) ht ((hs.tail 8).front m) (by simp; omega) (by simp; omega))
    have HC8 := hid (fun k => cClone (a.map (fun x => x.add 8)) m (c - 8) ((bs.drop 8).take m) (w.drewN k) ((hs.tail 8).front m) (by simp; omega) (by simp; omega))
    have hcr2 := crc_lt ((bs.drop 8).take m)
    generalize num ((bs.drop (8 + m)).take 4) = s2 at *
    generalize crc ((bs.drop 8).take m) = q2 at *
    generalize (bs.drop 8).take m = body at *
    by_cases hsq2 : s2 = q2
    · subst hsq2
      rw [if_neg (fun h => h rfl)]
      go_enter Tryd.func12, Tryd.ntmps12
      go_wp2_with fail
      go_quiet (first | (go_at_call 29; refine Calls.quiet_of_same (HW4.out _)) | (go_at_call 7; refine Calls.quiet_of_same (HS4.out _)))
      go_wp2_with fail
      refine (HW0.out nq).mono ?_
      rintro e w1 ⟨rfl, rfl⟩
      go_wp2_with fail
      refine (HW0.out nq).mono ?_
      rintro e w1 ⟨rfl, rfl⟩
      go_wp2_with fail
      refine (HW8.out nq).mono ?_
      rintro e w1 ⟨rfl, rfl⟩
      go_wp2_with fail
      refine (HS8.out nq).mono ?_
      rintro e w1 ⟨rfl, rfl⟩
      go_wp2_with fail
      refine (HC8.out nq).mono ?_
      rintro e w1 ⟨v', rfl, r1, k1, o1⟩
      go_wp2_with fail
      go_ret3
      exact ⟨v', by rw [show ((m + 12 : Nat) : Int) = 8 + (m : Int) + 4 by omega]; rfl, r1, ((Kp.refl _ w).drewN nq).trans k1 (by simp), o1⟩
    · rw [if_pos hsq2]
      have hne : (((s2 : Nat) : Int) != ((q2 : Nat) : Int)) = true := by rw [bne_iff_ne]; omega
      clear HC8
      go_enter Tryd.func12, Tryd.ntmps12
      go_wp2_with fail
      go_quiet (first | (go_at_call 29; refine Calls.quiet_of_same (HW4.out _)) | (go_at_call 7; refine Calls.quiet_of_same (HS4.out _)))
      go_wp2_with fail
      refine (HW0.out nq).mono ?_
      rintro e w1 ⟨rfl, rfl⟩
      go_wp2_with fail
      refine (HW0.out nq).mono ?_
      rintro e w1 ⟨rfl, rfl⟩
      go_wp2_with fail
      refine (HW8.out nq).mono ?_
      rintro e w1 ⟨rfl, rfl⟩
      go_wp2_with fail
      refine (HS8.out nq).mono ?_
      rintro e w1 ⟨rfl, rfl⟩
      go_wp2_with fail
      go_ret3
      exact ⟨_, rfl, Row.nil _, (Kp.refl _ _).drewN _, by simp [own, Value.ownBlock]⟩
  · rw [if_pos hsq]
    have hne : (((s : Nat) : Int) != ((q : Nat) : Int)) = true := by rw [bne_iff_ne]; omega
    clear HW0
    go_enter Tryd.func12, Tryd.ntmps12
    go_wp2_with fail
    go_quiet (first | (go_at_call 29; refine Calls.quiet_of_same (HW4.out _)) | (go_at_call 7; refine Calls.quiet_of_same (HS4.out _)))
    go_wp2_with fail
    go_ret3
    exact ⟨_, rfl, Row.nil _, (Kp.refl _ _).drewN _, by simp [own, Value.ownBlock]⟩
end Go.Proofs.YtamankgichaacabDoor

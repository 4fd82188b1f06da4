/- Unframe, the reference's. -/
import Derived.Test.YtamankgichaacabDoorFrmd
namespace Go.Proofs.YtamankgichaacabDoor
open Go.RowKit Go.Hay
set_option linter.unusedVariables false

set_option maxHeartbeats 2000000 in
set_option maxRecDepth 100000 in
theorem cRefUnframe (a : Option Addr) (n c : Nat) (bs : List UInt8) (w : World) (hs : Sees w a bs) (hn : n = bs.length) (hl : bs.length ≤ c) (hm : c ≤ maxLen) (hb : bs.length ≤ 200000000000000) :
    Calls Tryd.prog 13 #[.slice a n c] w fun e w' => ∃ a' c', e = .returned (.tuple #[.slice a' (unf bs).1.length c', .int .i64 (unf bs).2.1, .int .i64 (unf bs).2.2]) ∧ Sees w' a' (unf bs).1 ∧ Kp [] w w' := by
  subst hn
  unfold maxLen at hm
  by_cases h8 : bs.length < 8
  · rw [show unf bs = ([], 0, 10) by rw [unf, if_pos h8]]
    go_enter Tryd.func13, Tryd.ntmps13
    go_wp2_with fail
    go_ret3
    exact ⟨_, _, rfl, Sees.nil _ _, Kp.refl _ _⟩
  have hc4 : ¬ c = 4 := by omega
  have H0 := hid (fun k => cSaid a 4 c (bs.take 4) (w.drewN k) (hs.front 4) (by simp; omega) (by simp; omega))
  have H4 := hid (fun k => cSaid (a.map (fun x => x.add 4)) 4 (c - 4) ((bs.drop 4).take 4) (w.drewN k) ((hs.tail 4).front 4) (by simp; omega) (by simp; omega))
  have HS4 := hid (fun k => cRefSum a 4 c (bs.take 4) (w.drewN k) (hs.front 4) (by simp; omega) (by simp; omega))
  have hs4 := num_lt_of ((bs.drop 4).take 4) 4 (by simp; omega)
  have hm4 := num_lt_of (bs.take 4) 4 (by simp; omega)
  have hunf : unf bs = if num ((bs.drop 4).take 4) ≠ crc (bs.take 4) then ([], 0, 14)
    else if 16777216 < num (bs.take 4) then ([], 0, 12)
    else if bs.length < num (bs.take 4) + 12 then ([], 0, 10)
    else if num ((bs.drop (8 + num (bs.take 4))).take 4) ≠ crc ((bs.drop 8).take (num (bs.take 4))) then ([], 0, 14)
    else ((bs.drop 8).take (num (bs.take 4)), ((num (bs.take 4) + 12 : Nat) : Int), 0) := by rw [unf, if_neg h8]
  rw [hunf]
  clear hunf
  have hcr := crc_lt (bs.take 4)
  have hw0 : w = w.drewN 0 := rfl
  generalize num ((bs.drop 4).take 4) = s at *
  generalize crc (bs.take 4) = q at *
  generalize num (bs.take 4) = m at *
  have H00 := hid (show Calls Tryd.prog 31 #[.slice a 4 c] w fun e w' => e = .returned (.int .u64 m) ∧ w' = w from H0.out 0)
  clear H0 hw0
  by_cases hsq : s = q
  · subst hsq
    rw [if_neg (fun h => h rfl)]
    by_cases hbig : 16777216 < m
    · rw [if_pos hbig]
      go_enter Tryd.func13, Tryd.ntmps13
      go_wp2_with fail
      refine H00.out.mono ?_
      rintro e w1 ⟨rfl, rfl⟩
      go_wp2_with fail
      go_quiet (first | (go_at_call 31; refine Calls.quiet_of_same (H4.out _)) | (go_at_call 9; refine Calls.quiet_of_same (HS4.out _)))
      go_wp2_with fail
      go_ret3
      exact ⟨_, _, rfl, Sees.nil _ _, (Kp.refl _ _).drewN _⟩
    rw [if_neg hbig]
    by_cases hshort : bs.length < m + 12
    · rw [if_pos hshort]
      go_enter Tryd.func13, Tryd.ntmps13
      go_wp2_with fail
      refine H00.out.mono ?_
      rintro e w1 ⟨rfl, rfl⟩
      go_wp2_with fail
      go_quiet (first | (go_at_call 31; refine Calls.quiet_of_same (H4.out _)) | (go_at_call 9; refine Calls.quiet_of_same (HS4.out _)))
      go_wp2_with fail
      go_ret3
      exact ⟨_, _, rfl, Sees.nil _ _, (Kp.refl _ _).drewN _⟩
    rw [if_neg hshort]
    have hc8 : ¬ c = 8 := by omega
    have hc8m : ¬ c = 8 + m := by omega
    have j1 : IntKind.i64.wrap (8 + (m : Int)) = 8 + (m : Int) := by rw [IntKind.wrap_i64]; omega
    have j2 : IntKind.i64.wrap (12 + (m : Int)) = 12 + (m : Int) := by rw [IntKind.wrap_i64]; omega
    have t8 : (8 + (m : Int)).toNat = 8 + m := by omega
    have t12 : (12 + (m : Int)).toNat = 12 + m := by omega
    have t4 : 12 + m - (8 + m) = 4 := by omega
    have t0 : 8 + m - 8 = m := by omega
    have i1 : (0 : Int) ≤ 8 + (m : Int) := by omega
    have i2 : 8 + (m : Int) ≤ 12 + (m : Int) := by omega
    have i3 : 12 + (m : Int) ≤ (c : Int) := by omega
    have i4 : (8 : Int) ≤ 8 + (m : Int) := by omega
    have i5 : 8 + (m : Int) ≤ (c : Int) := by omega
    have HW8 := hid (fun k => cSaid (a.map (fun x => x.add (8 + m))) 4 (c - (8 + m)) ((bs.drop (8 + m)).take 4) (w.drewN k) ((hs.tail (8 + m)).front 4) (by simp; omega) (by simp; omega))
    have HS8 := hid (fun k => cRefSum (a.map (fun x => x.add 8)) m (c - 8) ((bs.drop 8).take m) (w.drewN k) ((hs.tail 8).front m) (by simp; omega) (by simp; omega))
    have hcr2 := crc_lt ((bs.drop 8).take m)
    have hs2 := (hs.tail 8).front m
    have hlen2 : ((bs.drop 8).take m).length = m := by simp; omega
    have hlt2 := num_lt_of ((bs.drop (8 + m)).take 4) 4 (by simp; omega)
    generalize num ((bs.drop (8 + m)).take 4) = s2 at *
    generalize crc ((bs.drop 8).take m) = q2 at *
    generalize (bs.drop 8).take m = body at *
    have HL2 := hid hlen2
    clear hlen2
    by_cases hsq2 : s2 = q2
    · subst hsq2
      rw [if_neg (fun h => h rfl)]
      go_enter Tryd.func13, Tryd.ntmps13
      go_wp2_with fail
      refine H00.out.mono ?_
      rintro e w ⟨rfl, rfl⟩
      go_wp2_with fail
      go_quiet (first | (go_at_call 31; refine Calls.quiet_of_same (H4.out _)) | (go_at_call 9; refine Calls.quiet_of_same (HS4.out _)))
      go_wp2_with fail
      go_quiet (first | (go_at_call 31; refine (HW8.out _).mono fun e w1 h => ⟨h.1, _, h.2⟩) | (go_at_call 9; refine (HS8.out _).mono fun e w1 h => ⟨h.1, _, h.2⟩))
      go_wp2_with fail
      go_ret3
      exact ⟨_, _, by rw [HL2.out]; rfl, hs2, (Kp.refl _ _).drewN _⟩
    · rw [if_pos hsq2]
      have hne : (((s2 : Nat) : Int) != ((q2 : Nat) : Int)) = true := by rw [bne_iff_ne]; omega
      go_enter Tryd.func13, Tryd.ntmps13
      go_wp2_with fail
      refine H00.out.mono ?_
      rintro e w ⟨rfl, rfl⟩
      go_wp2_with fail
      go_quiet (first | (go_at_call 31; refine Calls.quiet_of_same (H4.out _)) | (go_at_call 9; refine Calls.quiet_of_same (HS4.out _)))
      go_wp2_with fail
      go_quiet (first | (go_at_call 31; refine (HW8.out _).mono fun e w1 h => ⟨h.1, _, h.2⟩) | (go_at_call 9; refine (HS8.out _).mono fun e w1 h => ⟨h.1, _, h.2⟩))
      go_wp2_with fail
      go_ret3
      exact ⟨_, _, rfl, Sees.nil _ _, ((Kp.refl _ _).drewN _).drewN _⟩
  · rw [if_pos hsq]
    have hne : (((s : Nat) : Int) != ((q : Nat) : Int)) = true := by rw [bne_iff_ne]; omega
    go_enter Tryd.func13, Tryd.ntmps13
    go_wp2_with fail
    refine H00.out.mono ?_
    rintro e w1 ⟨rfl, rfl⟩
    go_wp2_with fail
    go_quiet (first | (go_at_call 31; refine Calls.quiet_of_same (H4.out _)) | (go_at_call 9; refine Calls.quiet_of_same (HS4.out _)))
    go_wp2_with fail
    go_ret3
    exact ⟨_, _, rfl, Sees.nil _ _, (Kp.refl _ _).drewN _⟩
end Go.Proofs.YtamankgichaacabDoor

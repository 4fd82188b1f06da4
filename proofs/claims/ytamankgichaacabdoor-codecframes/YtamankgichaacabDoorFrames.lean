/- For every two slices of bytes: the program's frame of the first is the reference's; what the program tells of the second, as the beginning of a frame, is what the reference tells. -/
import Derived.Test.YtamankgichaacabDoorFrme
import Derived.Test.YtamankgichaacabDoorOpn
namespace Go.Proofs.YtamankgichaacabDoor
open Go.RowKit Go.Hay
set_option linter.unusedVariables false

/-- What both Frames come to. -/
theorem frameBoth (a : Option Addr) (c : Nat) (bs : List UInt8) (w : World) (ht : Tab w) (hs : Sees w a bs) :
    ∃ out err, (Calls Tryd.prog 10 #[.slice a bs.length c] w fun e w' => ∃ a' c', e = .returned (.tuple #[.slice a' out.length c', .int .i64 err]) ∧ Sees w' a' out ∧ Kp [] w w') ∧
      (∀ w2, Kp [] w w2 → Calls Tryd.prog 11 #[.slice a bs.length c] w2 fun e w' => ∃ a' c', e = .returned (.tuple #[.slice a' out.length c', .int .i64 err]) ∧ Sees w' a' out ∧ Kp [] w2 w') := by
  by_cases h : 16777216 < bs.length
  · refine ⟨[], 12, (cFrameLong a _ c bs w rfl h).mono ?_, fun w2 _ => (cRefFrameLong a _ c bs w2 rfl h).mono ?_⟩
    · rintro e w' ⟨rfl, rfl⟩; exact ⟨none, 0, rfl, Sees.nil _ _, Kp.refl _ _⟩
    · rintro e w' ⟨rfl, rfl⟩; exact ⟨none, 0, rfl, Sees.nil _ _, Kp.refl _ _⟩
  · refine ⟨frameB bs, 0, (cFrame a _ c bs w ht hs rfl (by omega)).mono ?_, fun w2 k2 => (cRefFrame a _ c bs w2 (hs.kept k2 (by simp)) rfl (by omega)).mono ?_⟩
    · rintro e w' ⟨v, rfl, r, k, _⟩
      obtain ⟨a', c', rfl, s, _⟩ := r.sees
      exact ⟨a', c', rfl, s, k⟩
    · rintro e w' ⟨v, rfl, r, k, _⟩
      obtain ⟨a', c', rfl, s, _⟩ := r.sees
      exact ⟨a', c', rfl, s, k⟩

set_option maxHeartbeats 1000000 in
set_option maxRecDepth 100000 in
theorem framesWalk (a : Option Addr) (n c : Nat) (bs : List UInt8) (b : Option Addr) (m d : Nat) (raw : List UInt8) (w : World) (ht : Tab w) (hs : Sees w a bs) (hn : n = bs.length)
    (hr : Sees w b raw) (hm : m = raw.length) (hld : raw.length ≤ d) (hdm : d ≤ maxLen) (hbr : raw.length ≤ 140737488351232) :
    Calls Tryd.prog 4 #[.slice a n c, .slice b m d] w fun e w' => e = .returned (.bool true) ∧ Below w.heap.size w w' := by
  subst hn hm
  obtain ⟨out, err, hF, hG⟩ := frameBoth a c bs w ht hs
  have HF := hid hF
  have HG := hid hG
  clear hF hG
  go_enter Tryd.func4, Tryd.ntmps4
  go_wp2_with fail
  refine HF.out.mono ?_
  rintro e w1 ⟨a1, c1, rfl, s1, k1⟩
  go_wp2_with fail
  refine (HG.out _ k1).mono ?_
  rintro e w2 ⟨a2, c2, rfl, s2, k2⟩
  have s1' := s1.kept k2 (by simp)
  have k3 := k1.trans k2 (by simp)
  clear s1 k2 k1 HF HG
  go_wp2_with fail
  refine (cUnframe b _ d raw _ (ht.kept k3 (by simp)) (hr.kept k3 (by simp)) rfl hld hdm (by omega)).mono ?_
  rintro e w3 ⟨v3, rfl, r3, k4, _⟩
  obtain ⟨a3, c3, rfl, s3, _⟩ := r3.sees
  have s1'' := s1'.kept k4 (by simp)
  have s2' := s2.kept k4 (by simp)
  have k5 := k3.trans k4 (by simp)
  clear s1' s2 r3 k3 k4
  go_wp2_with fail
  refine (cRefUnframe b _ d raw _ (hr.kept k5 (by simp)) rfl hld hdm (by omega)).mono ?_
  rintro e w4 ⟨a4, c4, rfl, s4, k6⟩
  have t1 := s1''.kept k6 (by simp)
  have t2 := s2'.kept k6 (by simp)
  have t3 := s3.kept k6 (by simp)
  have k7 := k5.trans k6 (by simp)
  clear s1'' s2' s3 k5 k6
  generalize unf raw = U at *
  obtain ⟨u1, u2, u3⟩ := U
  go_wp2_with fail
  refine (cAlive _).mono ?_
  rintro e w5 ⟨rfl, k8⟩
  have q1 := t1.kept k8 (by simp)
  have q2 := t2.kept k8 (by simp)
  have q3 := t3.kept k8 (by simp)
  have q4 := s4.kept k8 (by simp)
  have k9 := k7.trans k8 (by simp)
  clear t1 t2 t3 s4 k7 k8
  go_wp2_with fail
  refine (cSame a1 a2 _ _ c1 c2 out out _ q1 q2 rfl rfl).mono ?_
  rintro e w6 ⟨rfl, rfl⟩
  rw [beq_self_eq_true]
  go_wp2_with fail
  refine (cSame a3 a4 _ _ c3 c4 u1 u1 _ q3 q4 rfl rfl).mono ?_
  rintro e w6 ⟨rfl, rfl⟩
  rw [beq_self_eq_true]
  go_wp2_with fail
  go_ret
  exact ⟨rfl, k9.below⟩
end Go.Proofs.YtamankgichaacabDoor

/- The disk's small calls: New, Dead, Steps, Arm, step, Read. -/
import Derived.Test.YtgllkonbgigcbabDmem
import Derived.Carry
import Derived.BigQuiet
import Derived.Deep.QuietTactic
namespace Go.Proofs.Ytgllkonbgigcbab
open Go.RowKit Go.Hay Go.Maps
set_option linter.unusedVariables false
set_option linter.unusedSimpArgs false

theorem okNew (room : Int) (h : room < 9223372036854775808) : Okd (newD room) :=
  ⟨List.Pairwise.nil, by simp [newD], by simp [newD], by simp [newD, sumF], by simp only [newD]; omega, by simp [newD]⟩
theorem newDisk (w : World) (room : Int) (h : room < 9223372036854775808) (r : Int) (hr : r = ((newD room).room : Int)) (t : TypeId) :
    Disk ((w.alloc (.map #[] 0)).alloc (.cells #[.int .i64 r, .map (some w.heap.size), .int .i64 0, .int .i64 (-1), .bool false] t)) (w.heap.size + 1) w.heap.size [] (newD room) := by
  subst hr
  have k : Kp [] (w.alloc (.map #[] 0)) ((w.alloc (.map #[] 0)).alloc (.cells #[.int .i64 ((newD room).room : Int), .map (some w.heap.size), .int .i64 0, .int .i64 (-1), .bool false] t)) := (Kp.refl _ _).alloc _
  have m : OwnsM (w.alloc (.map #[] 0)) w.heap.size [] := World.ownsMap_made w _ _ _
  exact ⟨Hd.at _ (by simp) _, m.kept k (by simp), by simp, List.Pairwise.nil, by omega, by simp, by simp, rfl, okNew room h⟩
def NewP (room : Int) (w : World) (e : Ending) (w' : World) : Prop := ∃ p mb, e = .returned (.pointer (some ⟨p, 0, none⟩)) ∧ Disk w' p mb [] (newD room) ∧ Kp [] w w' ∧ w.heap.size ≤ p ∧ w.heap.size ≤ mb
theorem cNew (room : Int) (w : World) (hroom : room < 9223372036854775808) : Calls Try.prog 14 #[.int .i64 room] w (NewP room w) := by
  go_enter Try.func14, Try.ntmps14
  have hmm := @run_makeMap Try.prog
  go_wp2_with fail
  all_goals
    go_returns
    exact ⟨_, _, rfl, newDisk w room (by assumption) _ (by simp only [newD]; omega) _, ((Kp.refl _ w).alloc _).alloc _, by omega, by omega⟩
theorem cSteps {w : World} {p mb : Nat} {xs : List Ent} {d : Dk} (h : Disk w p mb xs d) : Calls Try.prog 17 #[.pointer (some ⟨p, 0, none⟩)] w fun e w' => e = .returned (.int .i64 d.steps) ∧ w' = w := by
  have c4 := h.hd.c2
  go_enter Try.func17, Try.ntmps17
  go_wp2_with fail
  go_returns
  exact ⟨rfl, rfl⟩
theorem okArm {d : Dk} (h : Okd d) (n : Int) (hn : n < 9223372036854775808) : Okd (armD d n) := by
  unfold armD
  split
  · exact h
  · refine ⟨h.rise, h.last, h.name, h.sum, h.room, fun m hm => ?_⟩
    simp only at hm
    split at hm
    · cases hm; omega
    · cases hm
theorem cArm {w : World} {p mb : Nat} {xs : List Ent} {d : Dk} (hD : Disk w p mb xs d) (n : Int) (hn : n < 9223372036854775808) :
    Calls Try.prog 22 #[.pointer (some ⟨p, 0, none⟩), .int .i64 n] w fun e w' => e = .returned (.tuple #[]) ∧ Disk w' p mb xs (armD d n) ∧ Kp [p] w w' := by
  have c3 := hD.hd.c3
  have c4 := hD.hd.c4
  have f3 := hD.hd.free 3
  go_enter Try.func22, Try.ntmps22
  cases hd : d.dead
  · rw [hd] at c4
    have e1 : (armD d n) = { d with arm := if n ≥ 0 then some n.toNat else none } := by simp [armD, hd]
    have hl : leftOf (armD d n) = if n < 0 then -1 else n := by
      rw [e1]
      unfold leftOf
      by_cases h0 : n ≥ 0
      · rw [if_pos h0, if_neg (by omega)]; simp only; omega
      · simp only [if_neg h0]; rw [if_pos (by omega)]
    have r : (armD d n).room = d.room ∧ (armD d n).steps = d.steps ∧ (armD d n).dead = d.dead ∧ (armD d n).files = d.files := by rw [e1]; exact ⟨rfl, rfl, rfl, rfl⟩
    have hx := hD.hd.set3 (leftOf (armD d n))
    have hk : ∀ u, Kp [p] w (w.setCell ⟨p, 3, none⟩ u) := fun u => (Kp.refl [p] w).setCell (p := ⟨p, 3, none⟩) (by simp) u
    have hfin := hD.reHd (d' := armD d n) (hk _) (by rw [r.1, r.2.1, r.2.2.1]; exact hx) r.2.2.2 (okArm hD.ok n hn)
    have hq : ∀ l, l = leftOf (armD d n) → Disk (w.setCell ⟨p, 3, none⟩ (.int .i64 l)) p mb xs (armD d n) := fun l e => by rw [e]; exact hfin
    clear hfin hx e1 r
    go_wp2_with fail
    all_goals
      go_returns
      refine ⟨rfl, hq _ (by rw [hl]; split <;> omega), hk _⟩
  · rw [hd] at c4
    go_wp2_with fail
    go_returns
    exact ⟨rfl, by rw [show armD d n = d by simp [armD, hd]]; exact hD, Kp.refl _ _⟩
theorem okStep {d : Dk} (h : Okd d) : Okd (stepD d).1 := by
  unfold stepD
  split
  · exact ⟨h.rise, h.last, h.name, h.sum, h.room, h.arm⟩
  · refine ⟨h.rise, h.last, h.name, h.sum, h.room, fun m hm => ?_⟩
    simp only [Option.map_eq_some_iff] at hm
    obtain ⟨a, ha, rfl⟩ := hm
    have := h.arm a ha
    omega
theorem stepD_files (d : Dk) : (stepD d).1.files = d.files ∧ (stepD d).1.room = d.room ∧ (stepD d).1.steps = d.steps + 1 := by
  unfold stepD
  split <;> exact ⟨rfl, rfl, rfl⟩
theorem cStep {w : World} {p mb : Nat} {xs : List Ent} {d : Dk} (hD : Disk w p mb xs d) (hs : d.steps < 9000000000000000000) (hdd : d.dead = false) :
    Calls Try.prog 28 #[.pointer (some ⟨p, 0, none⟩)] w fun e w' => e = .returned (.bool (!(stepD d).2)) ∧ Disk w' p mb xs (stepD d).1 ∧ Kp [p] w w' := by
  have c2 := hD.hd.c2
  have c3 := hD.hd.c3
  have c4 := hD.hd.c4
  have f2 := hD.hd.free 2
  have f3 := hD.hd.free 3
  have f4 := hD.hd.free 4
  go_enter Try.func28, Try.ntmps28
  obtain ⟨ef, er, es⟩ := stepD_files d
  have hk2 : Kp [p] w (w.setCell ⟨p, 2, none⟩ (.int .i64 (d.steps + 1))) := (Kp.refl [p] w).setCell (p := ⟨p, 2, none⟩) (by simp) _
  have hk4 : ∀ b, Kp [p] w ((w.setCell ⟨p, 2, none⟩ (.int .i64 (d.steps + 1))).setCell ⟨p, 4, none⟩ b) := fun b => hk2.setCell (p := ⟨p, 4, none⟩) (by simp) b
  have hk3 : ∀ b u, Kp [p] w (((w.setCell ⟨p, 2, none⟩ (.int .i64 (d.steps + 1))).setCell ⟨p, 4, none⟩ b).setCell ⟨p, 3, none⟩ u) := fun b u => (hk4 b).setCell (p := ⟨p, 3, none⟩) (by simp) u
  cases har : d.arm with
  | none =>
    have e0 : leftOf d = -1 := by simp [leftOf, har]
    have e1 : stepD d = ({ d with steps := d.steps + 1, arm := none }, false) := by simp [stepD, har]
    have hfin := hD.reHd (d' := (stepD d).1) (hk4 _) (by rw [e1]; have := (hD.hd.set2 (d.steps + 1)).set4 false; rw [e0] at this; simpa [leftOf, hdd] using this) ef (okStep hD.ok)
    have hok : (stepD d).2 = false := by rw [e1]
    have kk := hk4 (.bool false)
    rw [e0] at c3
    rw [hok]
    generalize (stepD d).1 = d2 at *
    clear e1 e0 hk2 hk4 hk3
    go_wp2_with fail
    go_returns
    exact ⟨rfl, hfin, kk⟩
  | some n =>
    have e0 : leftOf d = n := by simp [leftOf, har]
    rcases Nat.eq_zero_or_pos n with rfl | hn
    · have e1 : stepD d = ({ d with steps := d.steps + 1, dead := true }, true) := by simp [stepD, har]
      have hfin := hD.reHd (d' := (stepD d).1) (hk4 _) (by rw [e1]; have := (hD.hd.set2 (d.steps + 1)).set4 true; simpa [leftOf, har] using this) ef (okStep hD.ok)
      have hok : (stepD d).2 = true := by rw [e1]
      have kk := hk4 (.bool true)
      rw [e0] at c3
      rw [hok]
      generalize (stepD d).1 = d2 at *
      clear e1 e0 hk2 hk4 hk3
      go_wp2_with fail
      go_returns
      exact ⟨rfl, hfin, kk⟩
    · have e1 : stepD d = ({ d with steps := d.steps + 1, arm := some (n - 1) }, false) := by simp [stepD, har]; omega
      have hfin := hD.reHd (d' := (stepD d).1) (hk3 _ _) (by rw [e1]; have := ((hD.hd.set2 (d.steps + 1)).set4 false).set3 ((n : Int) - 1); have e3 : ((n : Int) - 1) = ((n - 1 : Nat) : Int) := by omega
                                                             rw [e3] at this; simpa [leftOf, hdd] using this) ef (okStep hD.ok)
      have hok : (stepD d).2 = false := by rw [e1]
      have kk := hk3 (.bool false) (.int .i64 ((n : Int) - 1))
      rw [e0] at c3
      rw [hok]
      have g1 : ((n : Int) == 0) = false := by simp; omega
      have g2 : decide (0 < (n : Int)) = true := by simp; omega
      have g3 := hD.ok.arm n har
      rw [show ((n - 1 : Nat) : Int) = (n : Int) - 1 by omega] at hfin
      generalize (stepD d).1 = d2 at *
      clear e1 e0 hk2 hk4 hk3
      go_wp2_with fail
      go_returns
      exact ⟨rfl, hfin, kk⟩
end Go.Proofs.Ytgllkonbgigcbab

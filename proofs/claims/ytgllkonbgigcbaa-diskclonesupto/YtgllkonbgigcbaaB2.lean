/- The disk's small calls: New, Dead, Steps, Arm, step, Read. Is a text a file's name? The program's answer, the reference's. Read; Sync, Truncate, Flip, Append, Remove, Rename, Wipe: the disk's calls on files. A disk's files changed: one in its place, one more, one less, one renamed. Sync, Truncate, Rename, Remove. Rename, Remove. Wipe, Flip. A range over an iterator that makes memory of its own, which the rounds leave alone: a law. No statement of the seat is proved here. maps.Values over a disk's files: each file comes once, in some order. -/
import Derived.Test.YtgllkonbgigcbaaB1
import Derived.Carry
import Derived.BigQuiet
import Derived.Deep.QuietTactic
import Derived.RegionTactic
import Derived.BigRegion
import Derived.Laws.BitsAllLaws
import Derived.RangeFuncNested
import Derived.RangeFuncBound
import Derived.RangeFuncCalls
import Derived.RangeFuncLeaves
import Derived.RangeFuncSeq
import Derived.Sort.MapsRangeIn
import Derived.Sort.KeysCollected
import Derived.Shelf.Abstract
import Derived.Shelf.RegionOpen
import Derived.WalkKit
import Derived.OwnWalkIn
import Derived.TacticsInMore
import Derived.RegionIn
import Derived.LoopNIn
import Derived.LoopIn
section
namespace Go.Proofs.Ytgllkonbgigcbaa
open Go.RowKit Go.Hay Go.Maps
set_option linter.unusedVariables false
set_option linter.unusedSimpArgs false

theorem okNew (room : Int) (h : room < 9223372036854775808) : Okd (newD room) :=
  ⟨List.Pairwise.nil, by simp [newD], by simp [newD], by simp [newD, sumF], by simp only [newD]; omega, by simp [newD]⟩
theorem newDisk (w : World) (room : Int) (h : room < 9223372036854775808) (r : Int) (hr : r = ((newD room).room : Int)) (t : TypeId) :
    Disk ((w.alloc (.map #[] 0)).alloc (.cells #[.int .i64 r, .map (some w.heap.size), .int .i64 0, .int .i64 (-1), .bool false] t)) (w.heap.size + 1) w.heap.size [] (newD room) := by
  subst hr
  have k : Kp [] (w.alloc (.map #[] 0)) ((w.alloc (.map #[] 0)).alloc (.cells #[.int .i64 ((newD room).room : Int), .map (some w.heap.size), .int .i64 0, .int .i64 (-1), .bool false] t)) := (Kp.refl _ _).alloc _
  have m : OwnsM (w.alloc (.map #[] 0)) w.heap.size [] := World.ownsMap_made w _ _ _
  exact ⟨Hd.at _ (by simp) _, m.kept k (by simp), by simp, List.Pairwise.nil, by omega, by simp, by simp, rfl, okNew room h⟩
def NewP (room : Int) (w : World) (e : Ending) (w' : World) : Prop := ∃ p mb, e = .returned (.pointer (some ⟨p, 0, none⟩)) ∧ Disk w' p mb [] (newD room) ∧ Kp [] w w' ∧ w.heap.size ≤ p ∧ w.heap.size ≤ mb
theorem cNew (room : Int) (w : World) (hroom : room < 9223372036854775808) : Calls Try.prog 18 #[.int .i64 room] w (NewP room w) := by
  go_enter Try.func18, Try.ntmps18
  have hmm := @run_makeMap Try.prog
  go_wp2_with fail
  all_goals
    go_returns
    exact ⟨_, _, rfl, newDisk w room (by assumption) _ (by simp only [newD]; omega) _, ((Kp.refl _ w).alloc _).alloc _, by omega, by omega⟩
theorem cDead {w : World} {p mb : Nat} {xs : List Ent} {d : Dk} (h : Disk w p mb xs d) : Calls Try.prog 14 #[.pointer (some ⟨p, 0, none⟩)] w fun e w' => e = .returned (.bool d.dead) ∧ w' = w := by
  have c4 := h.hd.c4
  go_enter Try.func14, Try.ntmps14
  go_wp2_with fail
  go_returns
  exact ⟨rfl, rfl⟩
theorem cSteps {w : World} {p mb : Nat} {xs : List Ent} {d : Dk} (h : Disk w p mb xs d) : Calls Try.prog 15 #[.pointer (some ⟨p, 0, none⟩)] w fun e w' => e = .returned (.int .i64 d.steps) ∧ w' = w := by
  have c4 := h.hd.c2
  go_enter Try.func15, Try.ntmps15
  go_wp2_with fail
  go_returns
  exact ⟨rfl, rfl⟩
theorem okArm {d : Dk} (h : Okd d) (n : Int) (hn : n < 9223372036854775808) : Okd (armD d n) := by
  unfold armD
  split
  · exact h
  · refine ⟨h.rise, h.last, h.name, h.sum, h.room, fun m hm => ?_⟩
    simp only at hm
    split at hm
    · cases hm; omega
    · cases hm
theorem cArm {w : World} {p mb : Nat} {xs : List Ent} {d : Dk} (hD : Disk w p mb xs d) (n : Int) (hn : n < 9223372036854775808) :
    Calls Try.prog 19 #[.pointer (some ⟨p, 0, none⟩), .int .i64 n] w fun e w' => e = .returned (.tuple #[]) ∧ Disk w' p mb xs (armD d n) ∧ Kp [p] w w' := by
  have c3 := hD.hd.c3
  have c4 := hD.hd.c4
  have f3 := hD.hd.free 3
  go_enter Try.func19, Try.ntmps19
  cases hd : d.dead
  · rw [hd] at c4
    have e1 : (armD d n) = { d with arm := if n ≥ 0 then some n.toNat else none } := by simp [armD, hd]
    have hl : leftOf (armD d n) = if n < 0 then -1 else n := by
      rw [e1]
      unfold leftOf
      by_cases h0 : n ≥ 0
      · rw [if_pos h0, if_neg (by omega)]; simp only; omega
      · simp only [if_neg h0]; rw [if_pos (by omega)]
    have r : (armD d n).room = d.room ∧ (armD d n).steps = d.steps ∧ (armD d n).dead = d.dead ∧ (armD d n).files = d.files := by rw [e1]; exact ⟨rfl, rfl, rfl, rfl⟩
    have hx := hD.hd.set3 (leftOf (armD d n))
    have hk : ∀ u, Kp [p] w (w.setCell ⟨p, 3, none⟩ u) := fun u => (Kp.refl [p] w).setCell (p := ⟨p, 3, none⟩) (by simp) u
    have hfin := hD.reHd (d' := armD d n) (hk _) (by rw [r.1, r.2.1, r.2.2.1]; exact hx) r.2.2.2 (okArm hD.ok n hn)
    have hq : ∀ l, l = leftOf (armD d n) → Disk (w.setCell ⟨p, 3, none⟩ (.int .i64 l)) p mb xs (armD d n) := fun l e => by rw [e]; exact hfin
    clear hfin hx e1 r
    go_wp2_with fail
    all_goals
      go_returns
      refine ⟨rfl, hq _ (by rw [hl]; split <;> omega), hk _⟩
  · rw [hd] at c4
    go_wp2_with fail
    go_returns
    exact ⟨rfl, by rw [show armD d n = d by simp [armD, hd]]; exact hD, Kp.refl _ _⟩
theorem okStep {d : Dk} (h : Okd d) : Okd (stepD d).1 := by
  unfold stepD
  split
  · exact ⟨h.rise, h.last, h.name, h.sum, h.room, h.arm⟩
  · refine ⟨h.rise, h.last, h.name, h.sum, h.room, fun m hm => ?_⟩
    simp only [Option.map_eq_some_iff] at hm
    obtain ⟨a, ha, rfl⟩ := hm
    have := h.arm a ha
    omega
theorem stepD_files (d : Dk) : (stepD d).1.files = d.files ∧ (stepD d).1.room = d.room ∧ (stepD d).1.steps = d.steps + 1 := by
  unfold stepD
  split <;> exact ⟨rfl, rfl, rfl⟩
theorem cStep {w : World} {p mb : Nat} {xs : List Ent} {d : Dk} (hD : Disk w p mb xs d) (hs : d.steps < 9000000000000000000) (hdd : d.dead = false) :
    Calls Try.prog 46 #[.pointer (some ⟨p, 0, none⟩)] w fun e w' => e = .returned (.bool (!(stepD d).2)) ∧ Disk w' p mb xs (stepD d).1 ∧ Kp [p] w w' := by
  have c2 := hD.hd.c2
  have c3 := hD.hd.c3
  have c4 := hD.hd.c4
  have f2 := hD.hd.free 2
  have f3 := hD.hd.free 3
  have f4 := hD.hd.free 4
  go_enter Try.func46, Try.ntmps46
  obtain ⟨ef, er, es⟩ := stepD_files d
  have hk2 : Kp [p] w (w.setCell ⟨p, 2, none⟩ (.int .i64 (d.steps + 1))) := (Kp.refl [p] w).setCell (p := ⟨p, 2, none⟩) (by simp) _
  have hk4 : ∀ b, Kp [p] w ((w.setCell ⟨p, 2, none⟩ (.int .i64 (d.steps + 1))).setCell ⟨p, 4, none⟩ b) := fun b => hk2.setCell (p := ⟨p, 4, none⟩) (by simp) b
  have hk3 : ∀ b u, Kp [p] w (((w.setCell ⟨p, 2, none⟩ (.int .i64 (d.steps + 1))).setCell ⟨p, 4, none⟩ b).setCell ⟨p, 3, none⟩ u) := fun b u => (hk4 b).setCell (p := ⟨p, 3, none⟩) (by simp) u
  cases har : d.arm with
  | none =>
    have e0 : leftOf d = -1 := by simp [leftOf, har]
    have e1 : stepD d = ({ d with steps := d.steps + 1, arm := none }, false) := by simp [stepD, har]
    have hfin := hD.reHd (d' := (stepD d).1) (hk4 _) (by rw [e1]; have := (hD.hd.set2 (d.steps + 1)).set4 false; rw [e0] at this; simpa [leftOf, hdd] using this) ef (okStep hD.ok)
    have hok : (stepD d).2 = false := by rw [e1]
    have kk := hk4 (.bool false)
    rw [e0] at c3
    rw [hok]
    generalize (stepD d).1 = d2 at *
    clear e1 e0 hk2 hk4 hk3
    go_wp2_with fail
    go_returns
    exact ⟨rfl, hfin, kk⟩
  | some n =>
    have e0 : leftOf d = n := by simp [leftOf, har]
    rcases Nat.eq_zero_or_pos n with rfl | hn
    · have e1 : stepD d = ({ d with steps := d.steps + 1, dead := true }, true) := by simp [stepD, har]
      have hfin := hD.reHd (d' := (stepD d).1) (hk4 _) (by rw [e1]; have := (hD.hd.set2 (d.steps + 1)).set4 true; simpa [leftOf, har] using this) ef (okStep hD.ok)
      have hok : (stepD d).2 = true := by rw [e1]
      have kk := hk4 (.bool true)
      rw [e0] at c3
      rw [hok]
      generalize (stepD d).1 = d2 at *
      clear e1 e0 hk2 hk4 hk3
      go_wp2_with fail
      go_returns
      exact ⟨rfl, hfin, kk⟩
    · have e1 : stepD d = ({ d with steps := d.steps + 1, arm := some (n - 1) }, false) := by simp [stepD, har]; omega
      have hfin := hD.reHd (d' := (stepD d).1) (hk3 _ _) (by rw [e1]; have := ((hD.hd.set2 (d.steps + 1)).set4 false).set3 ((n : Int) - 1); have e3 : ((n : Int) - 1) = ((n - 1 : Nat) : Int) := by omega
                                                             rw [e3] at this; simpa [leftOf, hdd] using this) ef (okStep hD.ok)
      have hok : (stepD d).2 = false := by rw [e1]
      have kk := hk3 (.bool false) (.int .i64 ((n : Int) - 1))
      rw [e0] at c3
      rw [hok]
      have g1 : ((n : Int) == 0) = false := by simp; omega
      have g2 : decide (0 < (n : Int)) = true := by simp; omega
      have g3 := hD.ok.arm n har
      rw [show ((n - 1 : Nat) : Int) = (n : Int) - 1 by omega] at hfin
      generalize (stepD d).1 = d2 at *
      clear e1 e0 hk2 hk4 hk3
      go_wp2_with fail
      go_returns
      exact ⟨rfl, hfin, kk⟩
end Go.Proofs.Ytgllkonbgigcbaa
end

section
namespace Go.Proofs.Ytgllkonbgigcbaa
open Go.RowKit Go.Hay
set_option linter.unusedVariables false
set_option linter.unusedSimpArgs false

def okc (c : UInt8) : Bool := decide (33 ≤ c.toNat) && decide (c.toNat ≤ 126)
theorem nameOk_of {B : ByteArray} (h : ∀ i (hi : i < B.size), okc (B.data[i]'hi) = true) : nameOk B.data.toList = (decide (1 ≤ B.size) && decide (B.size ≤ 32)) := by
  have e : B.data.toList.all (fun c => decide (33 ≤ c.toNat) && decide (c.toNat ≤ 126)) = true := by
    rw [List.all_eq_true]
    intro x hx
    obtain ⟨i, hi, rfl⟩ := List.mem_iff_getElem.1 hx
    exact h i (by simpa using hi)
  unfold nameOk
  rw [e]
  rfl
theorem nameOk_not {B : ByteArray} {i : Nat} (hi : i < B.size) (h : okc (B.data[i]'hi) = false) : nameOk B.data.toList = false := by
  have e : B.data.toList.all (fun c => decide (33 ≤ c.toNat) && decide (c.toNat ≤ 126)) = false := by
    rw [List.all_eq_false]
    exact ⟨B.data[i]'hi, by simp, by rw [show (decide (33 ≤ (B.data[i]'hi).toNat) && decide ((B.data[i]'hi).toNat ≤ 126)) = okc (B.data[i]'hi) from rfl, h]; simp⟩
  unfold nameOk
  rw [e]
  rfl
theorem ixS (B : ByteArray) (j : Nat) (h : j < B.size) (w' : World) : (Instr.index 9 (.string B) (.int .i64 (j : Int))).run Try.prog w' = .ok (.int .u8 ((B.data[j]'h).toNat : Int)) w' := by
  rw [run_index_string w' _ B .i64 _ Try.underlying9, dif_pos ⟨by omega, by omega⟩]
  rfl
set_option maxHeartbeats 2000000 in
theorem cIsName (B : ByteArray) (w : World) (hB : B.size ≤ maxLen) : Calls Try.prog 45 #[.string B] w fun e w' => e = .returned (.bool (nameOk B.data.toList)) ∧ w' = w := by
  by_cases h1 : B.size < 1
  · have hn : Hid (nameOk B.data.toList = false) := by
      show _ = _
      rw [nameOk_of (fun i hi => by omega)]
      simp; omega
    go_enter Try.func45, Try.ntmps45
    go_wp2_with fail
    go_ret
    exact ⟨by rw [hn.out]; rfl, rfl⟩
  · by_cases h2 : 32 < B.size
    · have hn : Hid (nameOk B.data.toList = false) := by
        show _ = _
        unfold nameOk
        have : decide (B.data.toList.length ≤ 32) = false := by simp; omega
        rw [this]; simp
      go_enter Try.func45, Try.ntmps45
      go_wp2_with fail
      go_ret
      exact ⟨by rw [hn.out]; rfl, rfl⟩
    · go_enter Try.func45, Try.ntmps45
      go_wp2_with fail
      go_loopw [14] (fun i wn => ∃ j : Nat, j ≤ B.size ∧ i = .int .i64 j ∧ Hid (∀ k (hk : k < B.size), k < j → okc (B.data[k]'hk) = true) ∧ wn = w) (fun i _ => B.size - (intOf i).toNat)
      case atStart => exact ⟨0, Nat.zero_le _, rfl, (fun k hk h => by omega), rfl⟩
      case round =>
        obtain ⟨j, hj, rfl, hr, rfl⟩ := hrel
        by_cases hjm : j < B.size
        · have ix := ixS B j hjm
          obtain ⟨c, Hc⟩ : ∃ c : Nat, Hid ((B.data[j]'hjm).toNat = c) := ⟨_, rfl⟩
          rw [Hc.out] at ix
          have hc : c < 256 := by rw [← Hc.out]; exact UInt8.toNat_lt _
          by_cases hlo : 33 ≤ c
          · by_cases hhi : c ≤ 126
            · have hn : Hid (∀ k (hk : k < B.size), k < j + 1 → okc (B.data[k]'hk) = true) := fun k hk h => by
                by_cases e : k = j
                · subst e; simp [okc, Hc.out, hlo, hhi]
                · exact hr.out k hk (by omega)
              clear hr
              go_wp2_with fail
              exact ⟨⟨j + 1, by omega, by go_num, hn, trivial⟩, by simp [intOf]; omega⟩
            · have hn : Hid (nameOk B.data.toList = false) := nameOk_not hjm (by simp [okc, Hc.out]; omega)
              clear hr
              go_wp2_with fail
              go_ret
              exact ⟨by rw [hn.out]; rfl, rfl⟩
          · have hn : Hid (nameOk B.data.toList = false) := nameOk_not hjm (by simp [okc, Hc.out]; omega)
            clear hr
            go_wp2_with fail
            go_ret
            exact ⟨by rw [hn.out]; rfl, rfl⟩
        · have hn : Hid (nameOk B.data.toList = true) := by
            show _ = _
            rw [nameOk_of (fun i hi => hr.out i hi (by omega))]
            simp; omega
          clear hr
          go_wp2_with fail
          go_ret
          exact ⟨by rw [hn.out]; rfl, rfl⟩
set_option maxHeartbeats 2000000 in
theorem cRefName (B : ByteArray) (w : World) (hB : B.size ≤ maxLen) : Calls Try.prog 50 #[.string B] w fun e w' => e = .returned (.bool (nameOk B.data.toList)) ∧ w' = w := by
  go_enter Try.func50, Try.ntmps50
  unfold maxLen at hB
  go_wp2_with fail
  go_loopw [3] (fun i wn => ∃ j : Nat, j ≤ B.size ∧ i = .int .i64 j ∧ Hid (∀ k (hk : k < B.size), k < j → okc (B.data[k]'hk) = true) ∧ wn = w) (fun i _ => B.size - (intOf i).toNat)
  case atStart => exact ⟨0, Nat.zero_le _, rfl, (fun k hk h => by omega), rfl⟩
  case round =>
    obtain ⟨j, hj, rfl, hr, rfl⟩ := hrel
    by_cases hjm : j < B.size
    · have ix := ixS B j hjm
      obtain ⟨c, Hc⟩ : ∃ c : Nat, Hid ((B.data[j]'hjm).toNat = c) := ⟨_, rfl⟩
      rw [Hc.out] at ix
      have hc : c < 256 := by rw [← Hc.out]; exact UInt8.toNat_lt _
      by_cases hlo : 33 ≤ c
      · by_cases hhi : c ≤ 126
        · have hn : Hid (∀ k (hk : k < B.size), k < j + 1 → okc (B.data[k]'hk) = true) := fun k hk h => by
            by_cases e : k = j
            · subst e; simp [okc, Hc.out, hlo, hhi]
            · exact hr.out k hk (by omega)
          clear hr
          go_wp2_with fail
          exact ⟨⟨j + 1, by omega, by go_num, hn, trivial⟩, by simp [intOf]; omega⟩
        · have hn : Hid (nameOk B.data.toList = false) := nameOk_not hjm (by simp [okc, Hc.out]; omega)
          clear hr
          go_wp2_with fail
          go_ret
          exact ⟨by rw [hn.out]; rfl, rfl⟩
      · have hn : Hid (nameOk B.data.toList = false) := nameOk_not hjm (by simp [okc, Hc.out]; omega)
        clear hr
        go_wp2_with fail
        go_ret
        exact ⟨by rw [hn.out]; rfl, rfl⟩
    · have hn : Hid (nameOk B.data.toList = (decide (1 ≤ B.size) && decide (B.size ≤ 32))) := nameOk_of (fun i hi => hr.out i hi (by omega))
      clear hr
      by_cases h1 : 1 ≤ B.size
      · by_cases h2 : B.size ≤ 32
        · go_wp2_with fail
          go_ret
          exact ⟨by rw [hn.out]; simp [h1, h2]; omega, rfl⟩
        · go_wp2_with fail
          go_ret
          exact ⟨by rw [hn.out]; simp [h1, h2]; omega, rfl⟩
      · go_wp2_with fail
        go_ret
        exact ⟨by rw [hn.out]; simp [h1], rfl⟩
end Go.Proofs.Ytgllkonbgigcbaa
end

section
namespace Go.Proofs.Ytgllkonbgigcbaa
open Go.RowKit Go.Hay Go.Maps
set_option linter.unusedVariables false
set_option linter.unusedSimpArgs false

theorem Row.parts {w : World} {v : Value} {bs : List UInt8} (h : Row w v bs) : ∃ a c, v = .slice a bs.length c ∧ Sees w a bs ∧ (a = none → bs = [] ∧ c = 0) ∧ bs.length ≤ c := by
  rcases h with ⟨rfl, rfl⟩ | ⟨g, o, cap, rfl, hl, hm, hg, hc, ht⟩
  · exact ⟨none, 0, rfl, .inl rfl, fun _ => ⟨rfl, rfl⟩, Nat.le_refl _⟩
  · exact ⟨_, _, rfl, .inr ⟨g, o, rfl, hc⟩, fun h => (by cases h), hl⟩
/-- No file is greater than memory. -/
def Small (d : Dk) : Prop := ∀ f ∈ d.files, f.bytes.length ≤ 140737488355328

theorem Disk.look {w : World} {p mb : Nat} {xs : List Ent} {d : Dk} (h : Disk w p mb xs d) (k : List UInt8) : lookG Fl.name k d.files = (lookG Ent.name k xs).map Ent.fl := by
  rw [h.fl]
  exact lookG_map Ent.fl (fun _ => rfl) k xs

def ReadP (o : Option (List UInt8)) (w : World) (e : Ending) (w' : World) : Prop :=
  match o with
  | none => e = .returned (.tuple #[.slice none 0 0, .bool false]) ∧ w' = w
  | some bs => ∃ a c, e = .returned (.tuple #[.slice a bs.length c, .bool true]) ∧ Row w' (.slice a bs.length c) bs ∧ Kp [] w w' ∧ ∀ k ∈ blk a, w.heap.size ≤ k
theorem cRead {w : World} {p mb : Nat} {xs : List Ent} {d : Dk} (hD : Disk w p mb xs d) (hB : Small d) (k : List UInt8) (hk : k.length ≤ maxLen) :
    Calls Try.prog 17 #[.pointer (some ⟨p, 0, none⟩), .string ⟨k.toArray⟩] w (ReadP ((lookG Fl.name k d.files).map Fl.bytes) w) := by
  have c1 := hD.hd.c1
  have hl := lookF2 hD.map k hk
  rw [hD.look k]
  go_enter Try.func17, Try.ntmps17
  cases hx : lookG Ent.name k xs with
  | none =>
    rw [hx] at hl
    simp only [ptrOf, Option.isSome] at hl
    go_wp2_with fail
    go_returns
    exact ⟨rfl, rfl⟩
  | some x =>
    rw [hx] at hl
    simp only [ptrOf, Option.isSome] at hl
    have hf := hD.files x (lookG_some hx).1
    have hb := hB x.fl (by rw [hD.fl]; exact List.mem_map_of_mem (lookG_some hx).1)
    obtain ⟨nm, bk, v, bs, ls⟩ := x
    simp only [Ent.fl] at hb
    obtain ⟨a, c, ev, hs, hn, _⟩ := Row.parts hf.row
    have c0 := hf.box.c0
    simp only at c0 ev hs hn
    subst ev
    have hc := cCloneB a c bs w hs hn hb
    clear hn hs
    go_wp2_with fail
    refine hc.mono ?_
    rintro e w' ⟨a', c', rfl, hr, hk', hnew⟩
    go_wp2_with fail
    go_returns
    exact ⟨a', c', rfl, hr, hk', hnew⟩
end Go.Proofs.Ytgllkonbgigcbaa
end

section
namespace Go.Proofs.Ytgllkonbgigcbaa
open Go.RowKit Go.Hay Go.Maps
set_option linter.unusedVariables false
set_option linter.unusedSimpArgs false

theorem dat_same {xs : List Ent} (hr : riseG Ent.name xs) {x x' : Ent} (hx : x ∈ xs) (hn : x'.name = x.name) (hb : x'.blk = x.blk) : (putG Ent.name x' false xs).map Ent.dat = xs.map Ent.dat := by
  rw [putG_set x' xs hr ⟨x, hx, hn.symm⟩, List.map_map]
  refine List.map_congr_left fun g hg => ?_
  simp only [Function.comp_apply]
  split
  · rename_i e
    rw [beq_iff_eq] at e
    obtain rfl := rise_inj hr hg hx (e.trans hn)
    simp [Ent.dat, hn, hb]
  · rfl
theorem put_fl (x : Ent) (xs : List Ent) : (putG Ent.name x false xs).map Ent.fl = putG Fl.name x.fl false (xs.map Ent.fl) := putG_map (nm := Ent.name) (nm' := Fl.name) Ent.fl (fun _ => rfl) x false xs
theorem drop_fl (k : List UInt8) (xs : List Ent) : (dropG Ent.name k xs).map Ent.fl = dropG Fl.name k (xs.map Ent.fl) := dropG_map (nm := Ent.name) (nm' := Fl.name) Ent.fl (fun _ => rfl) k xs

section
variable {w w' : World} {p mb : Nat} {xs : List Ent} {d : Dk}
/-- One file changed in its place. -/
theorem Disk.inPlace (h : Disk w p mb xs d) {x : Ent} (x' : Ent) (hx : x ∈ xs) (hn : x'.name = x.name) (hb : x'.blk = x.blk) (hk : Kp x.foot w w') (hf : FileAt w' x') (hnew : ∀ k ∈ x'.foot, k ∈ x.foot ∨ w.heap.size ≤ k)
    (ok : Okd { d with files := putG Fl.name x'.fl false d.files }) : Disk w' p mb (putG Ent.name x' false xs) { d with files := putG Fl.name x'.fl false d.files } ∧ Mv (foot p mb xs) w (foot p mb (putG Ent.name x' false xs)) w' := by
  have hxf := (h.files x hx).lt
  have hother : ∀ y ∈ xs, y.name ≠ x'.name → ∀ k ∈ y.foot, k ∉ x'.foot := fun y hy hne k hky hk' => by
    rcases hnew k hk' with h1 | h1
    · exact h.xy y hy x hx (fun e => hne (e.trans hn.symm)) k hky h1
    · have := (h.files y hy).lt k hky; omega
  refine ⟨⟨h.hd.kept hk (h.px x hx).1, OwnsM.norm (n := xs.length) ?_, fun y hy => ?_, riseG_put x' h.rise, h.pm, fun y hy => ?_, fun y hy z hz hne k hky => ?_, ?_, ok⟩, ⟨?_, fun k hk' => ?_⟩⟩
  · rw [dat_same h.rise hx hn hb]; exact h.map.kept hk (h.px x hx).2
  · rcases (mem_putG h.rise).1 hy with rfl | ⟨hy, hne⟩
    · exact hf
    · exact (h.files y hy).kept hk (fun k hky hkx => h.xy y hy x hx (fun e => hne (e.trans hn.symm)) k hky hkx)
  · rcases (mem_putG h.rise).1 hy with rfl | ⟨hy, hne⟩
    · constructor
      · intro hp; rcases hnew _ hp with h1 | h1
        · exact (h.px x hx).1 h1
        · have := h.hd.lt; omega
      · intro hp; rcases hnew _ hp with h1 | h1
        · exact (h.px x hx).2 h1
        · have := h.map.lt; omega
    · exact h.px y hy
  · rcases (mem_putG h.rise).1 hy with ey | ⟨hy', hyn⟩ <;> rcases (mem_putG h.rise).1 hz with ez | ⟨hz', hzn⟩
    · exact absurd (by rw [ey, ez]) hne
    · exact fun hkz => hother z hz' hzn k hkz (by rw [← ey]; exact hky)
    · rw [ez]; exact hother y hy' hyn k hky
    · exact h.xy y hy' z hz' hne k hky
  · show putG Fl.name x'.fl false d.files = _; rw [put_fl, h.fl]
  · exact hk.mono (fun k hk' => .inl (mem_foot.2 (.inr (.inr ⟨x, hx, hk'⟩))))
  · rcases mem_foot.1 hk' with rfl | rfl | ⟨y, hy, hky⟩
    · exact .inl (mem_foot.2 (.inl rfl))
    · exact .inl (mem_foot.2 (.inr (.inl rfl)))
    · rcases (mem_putG h.rise).1 hy with rfl | ⟨hy, _⟩
      · exact (hnew k hky).imp (fun h1 => mem_foot.2 (.inr (.inr ⟨x, hx, h1⟩))) id
      · exact .inl (mem_foot.2 (.inr (.inr ⟨y, hy, hky⟩)))
/-- The map turned: its entries are old ones under other names, or new. -/
theorem Disk.reMap (h : Disk w p mb xs d) {ys : List Ent} {d' : Dk} {w1 : World} (k0 : Kp [] w w1) (hk : Kp [mb] w1 w') (hm : OwnsM w' mb ys) (hr : riseG Ent.name ys)
    (hf : ∀ y ∈ ys, FileAt w1 y) (hold : ∀ y ∈ ys, (∃ x ∈ xs, y.foot = x.foot) ∨ ∀ k ∈ y.foot, w.heap.size ≤ k) (hxy : ∀ x ∈ ys, ∀ y ∈ ys, x.name ≠ y.name → ∀ k ∈ x.foot, k ∉ y.foot)
    (e0 : d'.room = d.room) (e1 : d'.steps = d.steps) (e2 : d'.arm = d.arm) (e3 : d'.dead = d.dead) (e4 : d'.files = ys.map Ent.fl) (ok : Okd d') : Disk w' p mb ys d' ∧ Mv (foot p mb xs) w (foot p mb ys) w' := by
  have hpx : ∀ y ∈ ys, p ∉ y.foot ∧ mb ∉ y.foot := fun y hy => by
    rcases hold y hy with ⟨x, hx, e⟩ | hn
    · rw [e]; exact h.px x hx
    · exact ⟨fun hp => by have := hn _ hp; have := h.hd.lt; omega, fun hp => by have := hn _ hp; have := h.map.lt; omega⟩
  have hl : leftOf d' = leftOf d := by simp [leftOf, e2]
  have hkk : Kp [mb] w w' := (k0.mono (T := [mb]) (by simp)).trans hk (fun _ hx => .inl hx)
  refine ⟨⟨?_, hm, fun y hy => (hf y hy).kept hk (fun k hky e => (hpx y hy).2 (by rw [List.mem_singleton] at e; rw [← e]; exact hky)), hr, h.pm, hpx, hxy, e4, ok⟩, ⟨?_, fun k hk' => ?_⟩⟩
  · rw [e0, e1, e3, hl]; exact h.hd.kept hkk (by simpa using h.pm)
  · exact hkk.mono (fun k hk' => .inl (by rw [List.mem_singleton] at hk'; subst hk'; exact mem_foot.2 (.inr (.inl rfl))))
  · rcases mem_foot.1 hk' with rfl | rfl | ⟨y, hy, hky⟩
    · exact .inl (mem_foot.2 (.inl rfl))
    · exact .inl (mem_foot.2 (.inr (.inl rfl)))
    · rcases hold y hy with ⟨x, hx, e⟩ | hn
      · exact .inl (mem_foot.2 (.inr (.inr ⟨x, hx, by rw [← e]; exact hky⟩)))
      · exact .inr (hn k hky)
theorem Disk.removed (h : Disk w p mb xs d) (k : List UInt8) (hk : Kp [mb] w w') (hm : OwnsM w' mb (dropG Ent.name k xs)) : Disk w' p mb (dropG Ent.name k xs) { d with files := dropG Fl.name k d.files } ∧ Mv (foot p mb xs) w (foot p mb (dropG Ent.name k xs)) w' :=
  h.reMap (Kp.refl _ _) hk hm (riseG_drop k h.rise) (fun y hy => h.files y (mem_dropG.1 hy).1) (fun y hy => .inl ⟨y, (mem_dropG.1 hy).1, rfl⟩) (fun y hy z hz => h.xy y (mem_dropG.1 hy).1 z (mem_dropG.1 hz).1) rfl rfl rfl rfl (by rw [drop_fl, ← h.fl]) (okDrop h.ok k)
theorem Disk.renamed (h : Disk w p mb xs d) {x : Ent} {name : List UInt8} (hx : lookG Ent.name name xs = some x) (to : List UInt8) (ht : nameOk to = true) (hk : Kp [mb] w w') (hm : OwnsM w' mb (putG Ent.name { x with name := to } false (dropG Ent.name name xs))) :
    Disk w' p mb (putG Ent.name { x with name := to } false (dropG Ent.name name xs)) { d with files := putG Fl.name { x.fl with name := to } false (dropG Fl.name name d.files) } ∧ Mv (foot p mb xs) w (foot p mb (putG Ent.name { x with name := to } false (dropG Ent.name name xs))) w' := by
  obtain ⟨hxm, hxn⟩ := lookG_some hx
  have hl : lookG Fl.name name d.files = some x.fl := by rw [h.look, hx]; rfl
  have hm1 : ∀ y ∈ putG Ent.name { x with name := to } false (dropG Ent.name name xs), y = { x with name := to } ∨ (y ∈ xs ∧ y.name ≠ name ∧ y.name ≠ to) := fun y hy => by
    rcases (mem_putG (riseG_drop name h.rise)).1 hy with h1 | ⟨h1, h2⟩
    · exact .inl h1
    · exact .inr ⟨(mem_dropG.1 h1).1, (mem_dropG.1 h1).2, h2⟩
  have hfx := h.files x hxm
  refine h.reMap (Kp.refl _ _) hk hm (riseG_put _ (riseG_drop name h.rise)) (fun y hy => ?_) (fun y hy => .inl ?_) (fun y hy z hz hne k hky => ?_) rfl rfl rfl rfl (by rw [put_fl, drop_fl, ← h.fl]; rfl) (okRename h.ok hl ht)
  · rcases hm1 y hy with rfl | ⟨hy, _⟩
    · exact ⟨hfx.box, hfx.row, hfx.ap⟩
    · exact h.files y hy
  · rcases hm1 y hy with rfl | ⟨hy, _⟩
    · exact ⟨x, hxm, rfl⟩
    · exact ⟨y, hy, rfl⟩
  · rcases hm1 y hy with rfl | ⟨hy, hy1, _⟩ <;> rcases hm1 z hz with rfl | ⟨hz, hz1, _⟩
    · exact absurd rfl hne
    · exact h.xy x hxm z hz (by rw [hxn]; exact Ne.symm hz1) k hky
    · exact h.xy y hy x hxm (by rw [hxn]; exact hy1) k hky
    · exact h.xy y hy z hz hne k hky
theorem Disk.added (h : Disk w p mb xs d) (e : Ent) {w1 : World} (k0 : Kp [] w w1) (hfe : FileAt w1 e) (hnew : ∀ k ∈ e.foot, w.heap.size ≤ k) (hk : Kp [mb] w1 w') (hm : OwnsM w' mb (putG Ent.name e false xs)) (ok : Okd { d with files := putG Fl.name e.fl false d.files }) :
    Disk w' p mb (putG Ent.name e false xs) { d with files := putG Fl.name e.fl false d.files } ∧ Mv (foot p mb xs) w (foot p mb (putG Ent.name e false xs)) w' := by
  refine h.reMap k0 hk hm (riseG_put _ h.rise) (fun y hy => ?_) (fun y hy => ?_) (fun y hy z hz hne k hky hkz => ?_) rfl rfl rfl rfl (by rw [put_fl, ← h.fl]) ok
  · rcases (mem_putG h.rise).1 hy with rfl | ⟨hy, _⟩
    · exact hfe
    · exact (h.files y hy).kept k0 (by simp)
  · rcases (mem_putG h.rise).1 hy with rfl | ⟨hy, _⟩
    · exact .inr hnew
    · exact .inl ⟨y, hy, rfl⟩
  · rcases (mem_putG h.rise).1 hy with ey | ⟨hy', _⟩ <;> rcases (mem_putG h.rise).1 hz with ez | ⟨hz', _⟩
    · exact hne (by rw [ey, ez])
    · have := (h.files z hz').lt k hkz; have := hnew k (by rw [← ey]; exact hky); omega
    · have := (h.files y hy').lt k hky; have := hnew k (by rw [← ez]; exact hkz); omega
    · exact h.xy y hy' z hz' hne k hky hkz
end
/-- What a call that changes a disk has made of it. -/
def ChgP (p mb : Nat) (xs : List Ent) (r : Dk × Int) (w : World) (e : Ending) (w' : World) : Prop := e = .returned (.int .i64 r.2) ∧ ∃ xs', Disk w' p mb xs' r.1 ∧ Mv (foot p mb xs) w (foot p mb xs') w'
theorem ChgP.same {w : World} {p mb : Nat} {xs : List Ent} {d : Dk} (h : Disk w p mb xs d) {r : Dk × Int} {n : Int} (e1 : r = (d, n)) : ChgP p mb xs r w (.returned (.int .i64 n)) w := by
  subst e1; exact ⟨rfl, xs, h, Mv.refl _ _⟩
end Go.Proofs.Ytgllkonbgigcbaa
end

section
namespace Go.Proofs.Ytgllkonbgigcbaa
open Go.RowKit Go.Hay Go.Maps
set_option linter.unusedVariables false
set_option linter.unusedSimpArgs false

theorem ref_dead {d : Dk} (h : d.dead = true) (call : Int) (name to : List UInt8) (n : Int) : doD d call name to n = (d, 44) := by simp [doD, refusedD, h]
theorem ref_none {d : Dk} (h : d.dead = false) {name : List UInt8} (hl : lookG Fl.name name d.files = none) (call : Int) (to : List UInt8) (n : Int) : doD d call name to n = (d, 42) := by simp [doD, refusedD, h, hl]
theorem do_dies {d : Dk} {call : Int} {name to : List UInt8} {n : Int} (h : refusedD d call name to n = 0) (hs : (stepD d).2 = true) : doD d call name to n = ((stepD d).1, 44) := by simp [doD, h, hs]
theorem do_done {d : Dk} {call : Int} {name to : List UInt8} {n : Int} (h : refusedD d call name to n = 0) (hs : (stepD d).2 = false) : doD d call name to n = ({ (stepD d).1 with files := changedF d.files call name to n }, 0) := by simp [doD, h, hs]
theorem mvStep {w w1 : World} {p mb : Nat} {xs : List Ent} (k : Kp [p] w w1) : Mv (foot p mb xs) w (foot p mb xs) w1 := ⟨mvHd k, fun _ h => .inl h⟩

theorem Row.cut {w : World} {a : Option Addr} {n c : Nat} {bs : List UInt8} (h : Row w (.slice a n c) bs) (m : Nat) (hm : m ≤ bs.length) : Row w (.slice a m c) (bs.take m) := by
  rcases h with ⟨e, rfl⟩ | ⟨g, o, cap, e, hl, hx, hg, hc, ht⟩
  · cases e
    obtain rfl : m = 0 := by simpa using hm
    exact .inl ⟨rfl, rfl⟩
  · cases e
    refine .inr ⟨g, o, c, by rw [List.length_take, Nat.min_eq_left hm], by rw [List.length_take]; omega, hx, hg, fun j u hu => ?_, ht⟩
    rw [List.getElem?_take] at hu
    split at hu
    · exact hc j u hu
    · cases hu
set_option maxHeartbeats 1000000 in
set_option maxRecDepth 100000 in
theorem cSync {w : World} {p mb : Nat} {xs : List Ent} {d : Dk} (hD : Disk w p mb xs d) (hs : d.steps < 9000000000000000000) (name : List UInt8) (hk : name.length ≤ maxLen) (to : List UInt8) (n : Int) :
    Calls Try.prog 27 #[.pointer (some ⟨p, 0, none⟩), .string ⟨name.toArray⟩] w (ChgP p mb xs (doD d 1 name to n) w) := by
  have c1 := hD.hd.c1
  have c4 := hD.hd.c4
  have hl := lookF hD.map name hk
  have hlk := hD.look name
  go_enter Try.func27, Try.ntmps27
  cases hd : d.dead with
  | true =>
    have hfin := ChgP.same hD (ref_dead hd 1 name to n)
    rw [hd] at c4
    cases hx : lookG Ent.name name xs with
    | none =>
      rw [hx] at hl
      simp only [ptrOf] at hl
      go_wp2_with fail
      go_ret
      exact hfin
    | some x =>
      rw [hx] at hl
      simp only [ptrOf] at hl
      go_wp2_with fail
      go_ret
      exact hfin
  | false =>
    rw [hd] at c4
    cases hx : lookG Ent.name name xs with
    | none =>
      rw [hx] at hl
      have hfin := ChgP.same hD (ref_none hd (by rw [hlk, hx]; rfl) 1 to n)
      simp only [ptrOf] at hl
      go_wp2_with fail
      go_ret
      exact hfin
    | some x =>
      rw [hx] at hl hlk
      simp only [ptrOf] at hl
      have hx1 := (lookG_some hx).1
      have hr0 : refusedD d 1 name to n = 0 := by simp [refusedD, hd, hlk]
      have hst := cStep hD hs hd
      have hdies := @do_dies d 1 name to n hr0
      have hdone := @do_done d 1 name to n hr0
      obtain ⟨ef, _, _⟩ := stepD_files d
      generalize stepD d = sd at *
      obtain ⟨d1, b⟩ := sd
      simp only at hst hdies hdone ef
      clear hr0
      go_wp2_with fail
      refine hst.mono ?_
      rintro e w1 ⟨rfl, hD1, k1⟩
      cases b with
      | true =>
        go_wp2_with fail
        go_ret
        rw [hdies (by trivial)]
        exact ⟨rfl, xs, hD1, mvStep k1⟩
      | false =>
        have hf := hD1.files x hx1
        obtain ⟨a, c, ev, hsee, hn, _⟩ := Row.parts hf.row
        have c0 := hf.box.c0
        have f1 := hf.box.free 1
        have cc1 := hf.box.c1
        have hset := hf.box.set1 (x.bytes.length : Int)
        rw [ev] at c0
        clear hsee hn
        have hkx : Kp x.foot w1 (w1.setCell ⟨x.blk, 1, none⟩ (.int .i64 (x.bytes.length : Int))) := (Kp.refl _ w1).setCell (p := ⟨x.blk, 1, none⟩) (by simp [Ent.foot]) _
        have hkb : Kp [x.blk] w1 (w1.setCell ⟨x.blk, 1, none⟩ (.int .i64 (x.bytes.length : Int))) := (Kp.refl _ w1).setCell (p := ⟨x.blk, 1, none⟩) (by simp) _
        have hok : Okd { d1 with files := putG Fl.name ({ x with last := x.bytes.length } : Ent).fl false d1.files } := okSync (f := x.fl) hD1.ok (by rw [ef]; exact hlk)
        have hin := hD1.inPlace { x with last := x.bytes.length } hx1 rfl rfl hkx ⟨hset, hf.row.kept hkb (fun k hk' e => hf.ap (by rw [List.mem_singleton] at e; subst e; exact hk')), hf.ap⟩ (fun k hk' => .inl hk') hok
        have hfin : ChgP p mb xs (doD d 1 name to n) w (.returned (.int .i64 0)) (w1.setCell ⟨x.blk, 1, none⟩ (.int .i64 (x.bytes.length : Int))) := by
          rw [hdone (by trivial)]
          refine ⟨rfl, _, ?_, (mvStep k1).trans hin.2⟩
          have e : changedF d.files 1 name to n = putG Fl.name ({ x with last := x.bytes.length } : Ent).fl false d1.files := by
            simp only [changedF, if_pos, fileOf_some hlk, ef]; rfl
          show Disk _ p mb _ { d1 with files := changedF d.files 1 name to n }
          rw [e]
          exact hin.1
        clear hin hok hkb hkx hset
        go_wp2_with fail
        go_ret
        exact hfin
set_option maxHeartbeats 1000000 in
set_option maxRecDepth 100000 in
theorem cTruncate {w : World} {p mb : Nat} {xs : List Ent} {d : Dk} (hD : Disk w p mb xs d) (hs : d.steps < 9000000000000000000) (name : List UInt8) (hk : name.length ≤ maxLen) (to : List UInt8) (n : Int) (hn0 : -9223372036854775808 ≤ n) (hn1 : n < 9223372036854775808) (hB : Small d) :
    Calls Try.prog 33 #[.pointer (some ⟨p, 0, none⟩), .string ⟨name.toArray⟩, .int .i64 n] w (ChgP p mb xs (doD d 2 name to n) w) := by
  have c1 := hD.hd.c1
  have c4 := hD.hd.c4
  have hl := lookF hD.map name hk
  have hlk := hD.look name
  go_enter Try.func33, Try.ntmps33
  cases hd : d.dead with
  | true =>
    have hfin := ChgP.same hD (ref_dead hd 2 name to n)
    rw [hd] at c4
    cases hx : lookG Ent.name name xs with
    | none =>
      rw [hx] at hl
      simp only [ptrOf] at hl
      go_wp2_with fail
      go_ret
      exact hfin
    | some x =>
      rw [hx] at hl
      simp only [ptrOf] at hl
      go_wp2_with fail
      go_ret
      exact hfin
  | false =>
    rw [hd] at c4
    cases hx : lookG Ent.name name xs with
    | none =>
      rw [hx] at hl
      have hfin := ChgP.same hD (ref_none hd (by rw [hlk, hx]; rfl) 2 to n)
      simp only [ptrOf] at hl
      go_wp2_with fail
      go_ret
      exact hfin
    | some x =>
      rw [hx] at hl hlk
      simp only [ptrOf] at hl
      have hx1 := (lookG_some hx).1
      have hf0 := hD.files x hx1
      have hbl := hB x.fl (by rw [hD.fl]; exact List.mem_map_of_mem hx1)
      simp only [Ent.fl] at hbl
      obtain ⟨a, c, ev, hsee, hnil, hcap⟩ := Row.parts hf0.row
      have c00 := hf0.box.c0
      rw [ev] at c00
      by_cases hn : n < 0
      · have hfin : ChgP p mb xs (doD d 2 name to n) w (.returned (.int .i64 43)) w := ChgP.same hD (by simp [doD, refusedD, hd, hlk, hn])
        clear hnil hsee
        go_wp2_with fail
        go_ret
        exact hfin
      by_cases hm : (x.bytes.length : Int) < n
      · have hfin : ChgP p mb xs (doD d 2 name to n) w (.returned (.int .i64 43)) w := ChgP.same hD (by simp [doD, refusedD, hd, hlk, Ent.fl, hm])
        clear hnil hsee
        go_wp2_with fail
        go_ret
        exact hfin
      obtain ⟨m, rfl⟩ : ∃ m : Nat, n = m := ⟨n.toNat, by omega⟩
      have hr0 : refusedD d 2 name to m = 0 := by simp [refusedD, hd, hlk, Ent.fl]; omega
      have hst := cStep hD hs hd
      have hdies := @do_dies d 2 name to m hr0
      have hdone := @do_done d 2 name to m hr0
      obtain ⟨ef, _, _⟩ := stepD_files d
      generalize stepD d = sd at *
      obtain ⟨d1, b⟩ := sd
      simp only at hst hdies hdone ef
      clear hr0 hsee hnil
      go_wp2_with fail
      refine hst.mono ?_
      rintro e w1 ⟨rfl, hD1, k1⟩
      cases b with
      | true =>
        go_wp2_with fail
        go_ret
        rw [hdies (by trivial)]
        exact ⟨rfl, xs, hD1, mvStep k1⟩
      | false =>
        have hf := hD1.files x hx1
        have c0 := hf.box.c0
        have f0 := hf.box.free 0
        have f1 := hf.box.free 1
        have cc1 := hf.box.c1
        rw [ev] at c0
        have hml : m ≤ x.bytes.length := by omega
        have hfin : ∀ l : Int, l = ((min x.last m : Nat) : Int) → ChgP p mb xs (doD d 2 name to m) w (.returned (.int .i64 0)) ((w1.setCell ⟨x.blk, 0, none⟩ (.slice a m c)).setCell ⟨x.blk, 1, none⟩ (.int .i64 l)) := fun l hl => by
          subst hl
          have hk1 : ∀ S, x.blk ∈ S → Kp S w1 ((w1.setCell ⟨x.blk, 0, none⟩ (.slice a m c)).setCell ⟨x.blk, 1, none⟩ (.int .i64 ((min x.last m : Nat) : Int))) := fun S hS => ((Kp.refl _ w1).setCell (p := ⟨x.blk, 0, none⟩) (.inl hS) _).setCell (p := ⟨x.blk, 1, none⟩) (.inl hS) _
          have hrow := hf.row
          have hap := hf.ap
          rw [ev] at hrow hap
          have hok : Okd { d1 with files := putG Fl.name (⟨x.name, x.blk, .slice a m c, x.bytes.take m, min x.last m⟩ : Ent).fl false d1.files } := okTrunc (f := x.fl) hD1.ok (by rw [ef]; exact hlk) m hml
          have hin := hD1.inPlace ⟨x.name, x.blk, .slice a m c, x.bytes.take m, min x.last m⟩ hx1 rfl rfl (hk1 x.foot (by simp [Ent.foot]))
            ⟨(hf.box.set0 _).set1 _, (Row.cut hrow m hml).kept (hk1 [x.blk] (by simp)) (fun k hk' e => hap (by rw [List.mem_singleton] at e; subst e; rw [own_slice] at hk' ⊢; exact hk')), by simp only [own_slice] at hap ⊢; exact hap⟩
            (fun k hk' => .inl (by simp only [Ent.foot, ev, own_slice] at hk' ⊢; exact hk')) hok
          rw [hdone (by trivial)]
          refine ⟨rfl, _, ?_, (mvStep k1).trans hin.2⟩
          have e : changedF d.files 2 name to m = putG Fl.name (⟨x.name, x.blk, .slice a m c, x.bytes.take m, min x.last m⟩ : Ent).fl false d1.files := by
            simp only [changedF, if_pos, fileOf_some hlk, ef]; rfl
          show Disk _ p mb _ { d1 with files := changedF d.files 2 name to m }
          rw [e]
          exact hin.1
        generalize x.bytes.length = L at c0 hml hcap hbl
        clear c00 hm hn c1 c4 hdone hdies hlk ev hd ef hx hst hf hn0 hn1
        go_wp2_with fail
        all_goals
          go_ret
          exact hfin _ (by omega)
end Go.Proofs.Ytgllkonbgigcbaa
end

section
namespace Go.Proofs.Ytgllkonbgigcbaa
open Go.RowKit Go.Hay Go.Maps
set_option linter.unusedVariables false
set_option linter.unusedSimpArgs false

set_option maxHeartbeats 1000000 in
set_option maxRecDepth 100000 in
theorem cRemove {w : World} {p mb : Nat} {xs : List Ent} {d : Dk} (hD : Disk w p mb xs d) (hs : d.steps < 9000000000000000000) (name : List UInt8) (hk : name.length ≤ maxLen) (to : List UInt8) (n : Int) :
    Calls Try.prog 35 #[.pointer (some ⟨p, 0, none⟩), .string ⟨name.toArray⟩] w (ChgP p mb xs (doD d 4 name to n) w) := by
  have c1 := hD.hd.c1
  have c4 := hD.hd.c4
  have hl := lookF hD.map name hk
  have hlk := hD.look name
  go_enter Try.func35, Try.ntmps35
  cases hd : d.dead with
  | true =>
    have hfin := ChgP.same hD (ref_dead hd 4 name to n)
    rw [hd] at c4
    go_wp2_with fail
    go_ret
    exact hfin
  | false =>
    rw [hd] at c4
    cases hx : lookG Ent.name name xs with
    | none =>
      rw [hx] at hl
      have hfin := ChgP.same hD (ref_none hd (by rw [hlk, hx]; rfl) 4 to n)
      simp only [ptrOf] at hl
      go_wp2_with fail
      go_ret
      exact hfin
    | some x =>
      rw [hx] at hl hlk
      simp only [ptrOf] at hl
      have hr0 : refusedD d 4 name to n = 0 := by simp [refusedD, hd, hlk]
      have hst := cStep hD hs hd
      have hdies := @do_dies d 4 name to n hr0
      have hdone := @do_done d 4 name to n hr0
      obtain ⟨ef, _, _⟩ := stepD_files d
      generalize stepD d = sd at *
      obtain ⟨d1, b⟩ := sd
      simp only at hst hdies hdone ef
      clear hr0
      go_wp2_with fail
      refine hst.mono ?_
      rintro e w1 ⟨rfl, hD1, k1⟩
      cases b with
      | true =>
        go_wp2_with fail
        go_ret
        rw [hdies (by trivial)]
        exact ⟨rfl, xs, hD1, mvStep k1⟩
      | false =>
        obtain ⟨w2, hrun, hown, kp⟩ := dropF hD1.map name hk 0
        have hre := hD1.removed name kp hown
        have hfin : ChgP p mb xs (doD d 4 name to n) w (.returned (.int .i64 0)) w2 := by
          rw [hdone (by trivial)]
          refine ⟨rfl, _, ?_, (mvStep k1).trans hre.2⟩
          show Disk _ p mb _ { d1 with files := changedF d.files 4 name to n }
          have e : changedF d.files 4 name to n = dropG Fl.name name d1.files := by simp [changedF, ef]
          rw [e]
          exact hre.1
        have c1' := hD1.hd.c1
        clear hre hown hdone hdies hlk ef hx hst c1
        go_wp2_with fail
        go_ret
        exact hfin

set_option maxHeartbeats 1000000 in
set_option maxRecDepth 100000 in
theorem cRename {w : World} {p mb : Nat} {xs : List Ent} {d : Dk} (hD : Disk w p mb xs d) (hs : d.steps < 9000000000000000000) (hN : xs.length < 9000000000000000000) (name to : List UInt8) (hk : name.length ≤ maxLen) (hkt : to.length ≤ maxLen) (n : Int) :
    Calls Try.prog 34 #[.pointer (some ⟨p, 0, none⟩), .string ⟨name.toArray⟩, .string ⟨to.toArray⟩] w (ChgP p mb xs (doD d 3 name to n) w) := by
  have c1 := hD.hd.c1
  have c4 := hD.hd.c4
  have hl := lookF hD.map name hk
  have hlk := hD.look name
  go_enter Try.func34, Try.ntmps34
  cases hd : d.dead with
  | true =>
    have hfin := ChgP.same hD (ref_dead hd 3 name to n)
    rw [hd] at c4
    cases hx : lookG Ent.name name xs with
    | none =>
      rw [hx] at hl
      simp only [ptrOf] at hl
      go_wp2_with fail
      go_ret
      exact hfin
    | some x =>
      rw [hx] at hl
      simp only [ptrOf] at hl
      go_wp2_with fail
      go_ret
      exact hfin
  | false =>
    rw [hd] at c4
    cases hx : lookG Ent.name name xs with
    | none =>
      rw [hx] at hl
      have hfin := ChgP.same hD (ref_none hd (by rw [hlk, hx]; rfl) 3 to n)
      simp only [ptrOf] at hl
      go_wp2_with fail
      go_ret
      exact hfin
    | some x =>
      rw [hx] at hl hlk
      simp only [ptrOf] at hl
      have hnm : ∀ w, Calls Try.prog 45 #[.string ⟨to.toArray⟩] w fun e w' => e = .returned (.bool (nameOk to)) ∧ w' = w := fun w => cIsName ⟨to.toArray⟩ w (by simpa [ByteArray.size] using hkt)
      cases hto : nameOk to with
      | false =>
        rw [hto] at hnm
        have hfin : ChgP p mb xs (doD d 3 name to n) w (.returned (.int .i64 40)) w := ChgP.same hD (by simp [doD, refusedD, hd, hlk, hto])
        go_wp2_with fail
        refine (hnm w).mono ?_
        rintro e w1 ⟨rfl, rfl⟩
        go_wp2_with fail
        go_ret
        exact hfin
      | true =>
        rw [hto] at hnm
        have hr0 : refusedD d 3 name to n = 0 := by simp [refusedD, hd, hlk, hto]
        have hst := cStep hD hs hd
        have hdies := @do_dies d 3 name to n hr0
        have hdone := @do_done d 3 name to n hr0
        obtain ⟨ef, _, _⟩ := stepD_files d
        generalize stepD d = sd at *
        obtain ⟨d1, b⟩ := sd
        simp only at hst hdies hdone ef
        clear hr0
        go_wp2_with fail
        refine (hnm w).mono ?_
        rintro e w0 ⟨rfl, rfl⟩
        go_wp2_with fail
        refine hst.mono ?_
        rintro e w1 ⟨rfl, hD1, k1⟩
        cases b with
        | true =>
          go_wp2_with fail
          go_ret
          rw [hdies (by trivial)]
          exact ⟨rfl, xs, hD1, mvStep k1⟩
        | false =>
          obtain ⟨w2, hrun, hown, kp⟩ := dropF hD1.map name hk 0
          have hlen : (dropG Ent.name name xs).length ≤ xs.length := List.length_filter_le _ _
          obtain ⟨w3, hrun3, hown3, kp3⟩ := storeF hown (riseG_drop name hD1.rise) (by unfold maxLen; omega) { x with name := to } hkt
          have hre := hD1.renamed hx to hto (kp.trans kp3 (fun _ h => .inl h)) hown3
          have hfin : ChgP p mb xs (doD d 3 name to n) w0 (.returned (.int .i64 0)) w3 := by
            rw [hdone (by trivial)]
            refine ⟨rfl, _, ?_, (mvStep k1).trans hre.2⟩
            show Disk _ p mb _ { d1 with files := changedF d.files 3 name to n }
            have e : changedF d.files 3 name to n = putG Fl.name { x.fl with name := to } false (dropG Fl.name name d1.files) := by simp [changedF, ef, fileOf_some hlk]
            rw [e]
            exact hre.1
          have c1' := hD1.hd.c1
          have c2' : w2.cell? ⟨p, 1, none⟩ = some (.map (some mb)) := (kp.cell (p := ⟨p, 1, none⟩) hD1.hd.lt (by simpa using hD1.pm)).trans c1'
          simp only at hrun3
          clear hre hown hown3 hdone hdies hlk ef hx hst c1 hto
          go_wp2_with fail
          go_ret
          exact hfin
end Go.Proofs.Ytgllkonbgigcbaa
end

section
namespace Go.Proofs.Ytgllkonbgigcbaa
open Go.RowKit Go.Hay Go.Maps
set_option linter.unusedVariables false
set_option linter.unusedSimpArgs false

theorem clearF {w : World} {mb : Nat} {xs : List Ent} (h : OwnsM w mb xs) (ty : TypeId) :
    ∃ w', (Builtin.clear_ #[63] ty #[.map (some mb)]).run Try.prog w = .ok (.tuple #[]) w' ∧ OwnsM w' mb [] ∧ Kp [mb] w w' := by
  obtain ⟨es, clock, hb, F, hs, hD⟩ := h
  refine ⟨Go.ChangeMaps.setBlock w mb (.map #[] clock), ?_, ⟨#[], clock, Go.ChangeMaps.heap_setBlock_same hb _, ⟨by simp, MapKept.stamped_empty clock, by simp⟩, Nat.le_refl _, rfl⟩, turned_kp ⟨es, clock, #[], clock, hb, rfl⟩⟩
  simp [Builtin.clear_, run_underlying Try.underlying63, MapKept.run_getObj_map hb, MapKept.run_setObj_map _ hb, Result.andThen]
  rfl
theorem cWipe {w : World} {p mb : Nat} {xs : List Ent} {d : Dk} (hD : Disk w p mb xs d) :
    Calls Try.prog 37 #[.pointer (some ⟨p, 0, none⟩)] w fun e w' => e = .returned (.tuple #[]) ∧ Disk w' p mb [] (wipeD d) ∧ Mv (foot p mb xs) w (foot p mb []) w' := by
  have c1 := hD.hd.c1
  obtain ⟨w2, hrun, hown, kp⟩ := clearF hD.map 0
  have hre : Disk w2 p mb [] (wipeD d) ∧ Mv (foot p mb xs) w (foot p mb []) w2 := hD.reMap (Kp.refl _ _) kp hown List.Pairwise.nil (by simp) (by simp) (by simp) rfl rfl rfl rfl rfl (okWipe hD.ok)
  go_enter Try.func37, Try.ntmps37
  clear hown
  go_wp2_with fail
  go_returns
  exact ⟨rfl, hre⟩

theorem flipBit (y : UInt8) (q : Nat) : bits BinOp.xor IntKind.u8 (y.toNat : Int) (2 ^ q % 256) = ((y ^^^ UInt8.ofNat (2 ^ q)).toNat : Int) := by
  have e : ((2 : Int) ^ q % 256) = ((2 ^ q % 256 : Nat) : Int) := by simp
  rw [e, u8_xor_nat _ _ (UInt8.toNat_lt y) (by omega)]
  simp
theorem Row.put {w : World} {g o n cap : Nat} {bs : List UInt8} (h : Row w (.slice (some ⟨g, o, none⟩) n cap) bs) (i : Nat) (hi : i < bs.length) (y : UInt8) : Row (w.setCell ⟨g, o + i, none⟩ (.int .u8 y.toNat)) (.slice (some ⟨g, o, none⟩) n cap) (bs.set i y) := by
  rcases h with ⟨e, rfl⟩ | ⟨g, o, c, e, hl, hx, hg, hc, ht⟩
  · cases e
  · cases e
    refine .inr ⟨_, _, _, by rw [List.length_set], by rw [List.length_set]; exact hl, hx, by simpa [World.setCell] using hg, fun j u hu => ?_, fun j hj => ⟨?_, (World.frozen?_setCell _ _ _ _).trans (ht j hj).2⟩⟩
    · by_cases e : j = i
      · subst e
        rw [List.getElem?_set_self hi] at hu
        cases hu
        exact World.cell?_setCell_same _ _ _ (hc j bs[j] (by simp [hi]))
      · rw [List.getElem?_set_ne (Ne.symm e)] at hu
        rw [World.cell?_setCell_other _ _ _ _ (by intro h; simp only [Addr.mk.injEq] at h; omega)]
        exact hc j u hu
    · by_cases e : j = i
      · subst e
        rw [World.cell?_setCell_same _ _ _ (hc j bs[j] (by simp [hi]))]
        rfl
      · rw [World.cell?_setCell_other _ _ _ _ (by intro h; simp only [Addr.mk.injEq] at h; omega)]
        exact (ht j hj).1
def FlipP (p mb : Nat) (xs : List Ent) (d : Dk) (b : Bool) (w : World) (e : Ending) (w' : World) : Prop := e = .returned (.bool b) ∧ ∃ xs', Disk w' p mb xs' d ∧ Mv (foot p mb xs) w (foot p mb xs') w'
theorem flip_not {d : Dk} {name : List UInt8} {i b : Int} (h : flipOk d name i b = false) : flipD d name i b = d := by simp [flipD, h]
set_option maxHeartbeats 1000000 in
set_option maxRecDepth 100000 in
theorem cFlip {w : World} {p mb : Nat} {xs : List Ent} {d : Dk} (hD : Disk w p mb xs d) (hB : Small d) (name : List UInt8) (hk : name.length ≤ maxLen) (i b : Int) (hi0 : -9223372036854775808 ≤ i) (hi1 : i < 9223372036854775808) (hb0 : -9223372036854775808 ≤ b) (hb1 : b < 9223372036854775808) :
    Calls Try.prog 40 #[.pointer (some ⟨p, 0, none⟩), .string ⟨name.toArray⟩, .int .i64 i, .int .i64 b] w (FlipP p mb xs (flipD d name i b) (flipOk d name i b) w) := by
  have c1 := hD.hd.c1
  have hl := lookF hD.map name hk
  have hlk := hD.look name
  go_enter Try.func40, Try.ntmps40
  have hno : flipOk d name i b = false → FlipP p mb xs (flipD d name i b) (flipOk d name i b) w (.returned (.bool false)) w := fun h => ⟨by rw [h], xs, by rw [flip_not h]; exact hD, Mv.refl _ _⟩
  cases hx : lookG Ent.name name xs with
  | none =>
    rw [hx] at hl hlk
    have hfin := hno (by simp [flipOk, hlk])
    simp only [ptrOf] at hl
    clear hno hlk hx
    go_wp2_with fail
    go_ret
    exact hfin
  | some x =>
    rw [hx] at hl hlk
    simp only [ptrOf] at hl
    have hx1 := (lookG_some hx).1
    have hf := hD.files x hx1
    have hbl := hB x.fl (by rw [hD.fl]; exact List.mem_map_of_mem hx1)
    simp only [Ent.fl] at hbl
    have hrow := hf.row
    have hap := hf.ap
    have c0 := hf.box.c0
    have hok' : flipOk d name i b = (decide (0 ≤ i) && decide (i < x.bytes.length) && decide (0 ≤ b) && decide (b ≤ 7)) := by simp only [flipOk, hlk]; rfl
    obtain ⟨a, c, ev, hsee, hnil, hcap⟩ := Row.parts hrow
    by_cases h1 : i < 0
    · have hfin := hno (by rw [hok', show decide (0 ≤ i) = false by simp; omega]; rfl)
      rw [ev] at c0
      clear hno hok' hlk hx hsee hnil ev hf
      go_wp2_with fail
      go_ret
      exact hfin
    by_cases h2 : (x.bytes.length : Int) ≤ i
    · have hfin := hno (by rw [hok', show decide (i < (x.bytes.length : Int)) = false by simp; omega]; simp)
      rw [ev] at c0
      clear hno hok' hlk hx hsee hnil ev hf
      go_wp2_with fail
      go_ret
      exact hfin
    by_cases h3 : b < 0
    · have hfin := hno (by rw [hok', show decide (0 ≤ b) = false by simp; omega]; simp)
      rw [ev] at c0
      clear hno hok' hlk hx hsee hnil ev hf
      go_wp2_with fail
      go_ret
      exact hfin
    by_cases h4 : 7 < b
    · have hfin := hno (by rw [hok', show decide (b ≤ 7) = false by simp; omega]; simp)
      rw [ev] at c0
      clear hno hok' hlk hx hsee hnil ev hf
      go_wp2_with fail
      go_ret
      exact hfin
    obtain ⟨m, rfl⟩ : ∃ m : Nat, i = m := ⟨i.toNat, by omega⟩
    obtain ⟨q, rfl⟩ : ∃ q : Nat, b = q := ⟨b.toNat, by omega⟩
    rcases hrow with ⟨hv, hbs⟩ | ⟨g, o, cap, hv, hle, hmx, hg, hcs, hfr⟩
    · rw [hbs] at h2; simp at h2
    have hm : m < x.bytes.length := by omega
    obtain ⟨y, hy⟩ : ∃ y : UInt8, x.bytes[m]? = some y := ⟨x.bytes[m], by simp [hm]⟩
    have cy := hcs m y hy
    have fy := (hfr m (by omega)).2
    have hfin : FlipP p mb xs (flipD d name m q) (flipOk d name m q) w (.returned (.bool true)) (w.setCell ⟨g, o + m, none⟩ (.int .u8 (bits BinOp.xor IntKind.u8 (y.toNat : Int) (2 ^ q % 256)))).drew := by
      have hro := hf.row
      rw [hv] at hro hap
      rw [flipBit]
      have hk1 : ∀ S, g ∈ S → Kp S w (w.setCell ⟨g, o + m, none⟩ (.int .u8 ((y ^^^ UInt8.ofNat (2 ^ q)).toNat : Int))) := fun S hS => (Kp.refl _ w).setCell (p := ⟨g, o + m, none⟩) (.inl hS) _
      have e1 : flipB x.bytes m q = x.bytes.set m (y ^^^ UInt8.ofNat (2 ^ q)) := by simp [flipB, hy]
      have hgx : g ∈ x.foot := by simp [Ent.foot, hv, own_slice, blk]
      have hgb : x.blk ≠ g := by simpa [own_slice, blk] using hap
      have hin := hD.inPlace { x with bytes := flipB x.bytes m q } hx1 rfl rfl (hk1 x.foot hgx)
        ⟨hf.box.kept (hk1 [g] (by simp)) (by simpa using hgb), by simp only [e1, hv]; exact Row.put hro m (by omega) _, hf.ap⟩ (fun k hk' => .inl hk') (okFlip (f := x.fl) hD.ok hlk m q)
      have hok : flipOk d name m q = true := by rw [hok']; simp; omega
      have e2 : flipD d name m q = { d with files := putG Fl.name ({ x with bytes := flipB x.bytes m q } : Ent).fl false d.files } := by
        rw [flipD, if_pos hok, fileOf_some hlk]; rfl
      refine ⟨by rw [hok], _, ?_, hin.2.kp.drew, hin.2.new⟩
      rw [e2]
      exact hin.1.keptNew (Kp.refl _ _).drew
    rw [hv] at c0
    generalize hL : x.bytes.length = L at c0 hm hle hbl
    clear hno hlk hx hsee hnil ev hf hok' h1 h2 h3 hcs hfr hi0 hi1 hb0 hb1
    have h4' : q ≤ 7 := by omega
    go_wp2_with fail
    go_region
    go_wp2_with fail
    go_ret
    exact hfin
end Go.Proofs.Ytgllkonbgigcbaa
end

section
namespace Go.Hay
open Go.RowKit
set_option linter.unusedVariables false

variable {F : Fence} {n : Nat} {P : Program} {σ α : Type}

/-- What an iterator that stands at some s of σ promises: it hands on things x (as encs x), each behind a step T of its own, which may turn memory; a round that goes on takes it from s to nx s x and keeps what K says; S: it is at its end; Sp: a round has said 'no more'. -/
def SeqS (F : Fence) (n : Nat) (P : Program) (g : Nat) (lb : Array Value) (encs : α → Array Value) (T : σ → σ → World → World → Prop) (K : σ → World → World → Prop) (ok : σ → α → Prop) (nx : σ → α → σ) (S Sp : σ → Prop) (s0 : σ) (w : World) : Prop :=
  ∀ (l : Nat) (J Jx : σ → World → Prop) (W : World), K s0 w W → (∀ s s' A B, J s A → T s s' A B → J s' B) →
    (∀ s x A, J s A → ok s x → YieldAt F (n - 1) P l (encs x) A fun e A' => (e = .returned (.bool true) ∧ J (nx s x) A' ∧ K s A A') ∨ (e = .returned (.bool false) ∧ Jx (nx s x) A')) →
    J s0 W → CallsIn F n P g (#[.func (.yield l) #[] #[]] ++ lb) W fun e A' => (∃ v, e = .returned v) ∧ ((∃ s, S s ∧ J s A') ∨ (∃ s, Sp s ∧ Jx s A'))

/-- How a round's body may be left: B: from which block on whatever is no cells must lie as it lay. -/
def leftS (B : Nat) (K : σ → World → World → Prop) (I : σ → World → Prop) (Ix : Code → σ → World → Prop) (s0 s : σ) (W : World) : Exit → Act → World → Prop
  | .normal, _, W' => KeepsFrom B W W' ∧ K s0 W W' ∧ I s W'
  | .ret, _, W' => KeepsFrom B W W' ∧ Ix .ret s W'
  | .exit id, _, W' => KeepsFrom B W W' ∧ Ix (.exit id) s W'
  | .goto t, _, W' => KeepsFrom B W W' ∧ Ix (.goto t) s W'
  | _, _, _ => False

/-- The law. -/
theorem wpRangeS {g : Operand} {ps : Array Tmp} {assign body : Code} {Q : Exit → Act → World → Prop} {a : Act} {w : World}
    (hro : F.round = none) (h1 : 1 ≤ n) {gf : Nat} {lb : Array Value} (hg : a.eval g = .func (.func gf) #[] lb) (hFg : F.fn gf) (eg : ∀ args w, (callFunc gf args).run P w = .ok (.enter gf args) w)
    {encs : α → Array Value} {T : σ → σ → World → World → Prop} {K : σ → World → World → Prop} {ok : σ → α → Prop} {nx : σ → α → σ} {S Sp : σ → Prop} {s0 : σ} {w0 : World}
    (hseq : SeqS F (n - 1) P gf lb encs T K ok nx S Sp s0 w0) (hps : ∀ x, (encs x).size = ps.size)
    (hKt : ∀ {s : σ} {A B C : World}, K s A B → K s B C → K s A C) (hKa : ∀ s W o, K s W (W.alloc o)) (hKb : ∀ (s : σ) (W : World) (l : Nat) (o o' : Obj), w.heap.size ≤ l → W.heap[l]? = some o → o.isCells = false → o.isWalk = false → K s W (W.putObj l o')) (hb0 : K s0 w0 w)
    (hTk : ∀ s s' A B, T s s' A B → ∀ (k : Nat) (o : Obj), w.heap.size ≤ k → A.heap[k]? = some o → o.isCells = false → o.isWalk = false → B.heap[k]? = some o)
    (I : σ → World → Prop) (Ix : Code → σ → World → Prop) (hI : OwnFrom w.heap.size I) (hIx : ∀ c, OwnFrom w.heap.size (Ix c)) (hIT : ∀ s s' A B, I s A → T s s' A B → I s' B) (h0 : I s0 w)
    (a₁ : α → Act) (hassign : ∀ (l : Nat) (x : α) (W : World) (C : Act → World → Prop), C (a₁ x) W →
      assign.wpIn (F.inRound l) (n - 1 - 1) P (Exit.then C (fun _ _ _ => False)) { tmps := (ps.zip (encs x)).foldl (fun t (p, v) => t.setIfInBounds p v) a.tmps, defers := [] } W)
    (hbody : ∀ (l : Nat) (s : σ) (x : α) (W : World), I s W → ok s x → body.wpIn (F.inRound l) (n - 1 - 1) P (leftS w.heap.size K I Ix s (nx s x) W) (a₁ x) W)
    (hdone : ∀ (D : Nat) (s : σ) (W : World), w.heap.size ≤ D → S s → I s W → W.heap[D]? = some (.deferred (some [])) → Q .normal { a with defers := { target := .collected D, args := #[] } :: a.defers } W)
    (hstop : ∀ (D : Nat) (c : Code) (s : σ) (W : World), w.heap.size ≤ D → Sp s → Ix c s W → W.heap[D]? = some (.deferred (some [])) → c.wpIn F n P Q { a with defers := { target := .collected D, args := #[] } :: a.defers } W) :
    (Code.rangeFunc g ps assign body).wpIn F n P Q a w := by
  refine wpIn_rangeFunc fun fn hfn => ?_
  rw [hro]
  -- the loop's record, as it may stand
  let R : LoopState → Option Code → Obj := fun st pe => .loop { state := st, pending := pe, fn, tmps := a.tmps, params := ps, assign, body, defers := w.heap.size }
  let Bk : LoopState → Option Code → World → Prop := fun st pe W => W.heap[w.heap.size + 1]? = some (R st pe) ∧ W.heap[w.heap.size]? = some (.deferred (some []))
  have bkK : ∀ {st pe A B}, KeepsFrom w.heap.size A B → Bk st pe A → Bk st pe B := fun hk hb => ⟨hk.same _ _ (by omega) hb.1 rfl, hk.same _ _ (Nat.le_refl _) hb.2 rfl⟩
  have bkP : ∀ {st pe st' pe' A}, Bk st pe A → Bk st' pe' (A.putObj (w.heap.size + 1) (R st' pe')) := fun hb =>
    ⟨World.putObj_heap_same (Array.getElem?_eq_some_iff.1 hb.1).1, (World.putObj_heap_other (by omega)).trans hb.2⟩
  have iP : ∀ {st pe s A} (o : Obj), Bk st pe A → I s A → I s (A.putObj (w.heap.size + 1) o) := fun o hb hi => hI.putObj o hi (by omega) hb.1 rfl
  have ixP : ∀ {st pe s c A} (o : Obj), Bk st pe A → Ix c s A → Ix c s (A.putObj (w.heap.size + 1) o) := fun o hb hi => (hIx _).putObj o hi (by omega) hb.1 rfl
  have kP : ∀ {s st pe A} (o : Obj), Bk st pe A → K s A (A.putObj (w.heap.size + 1) o) := fun o hb => hKb _ _ _ _ _ (by omega) hb.1 rfl rfl
  have bkT : ∀ {s s' st pe A B}, T s s' A B → Bk st pe A → Bk st pe B := fun ht hb => ⟨hTk _ _ _ _ ht _ _ (by omega) hb.1 rfl rfl, hTk _ _ _ _ ht _ _ (Nat.le_refl _) hb.2 rfl rfl⟩
  have b0 : Bk .ready none ((w.alloc (.deferred (some []))).alloc (R .ready none)) :=
    ⟨by have := World.alloc_heap_new (w.alloc (.deferred (some []))) (R .ready none); rwa [World.size_alloc] at this, (Below.heap_alloc _ _ _ (by simp)).trans (World.alloc_heap_new w _)⟩
  refine ⟨w.heap.size + 1, [{ target := .collected w.heap.size, args := #[] }], ((w.alloc (.deferred (some []))).alloc (R .ready none)), { target := .fn (.func gf) lb, args := #[.func (.yield (w.heap.size + 1)) #[] #[]] }, ((w.alloc (.deferred (some []))).alloc (R .ready none)), gf, #[.func (.yield (w.heap.size + 1)) #[] #[]] ++ lb, ((w.alloc (.deferred (some []))).alloc (R .ready none)),
    run_enterLoop_outer _ _ _ _ _, by simp only [resolve, hg]; simp [go_sem], fun f' hf' => by simp [Target.leads] at hf'; subst hf'; exact hFg, by simp [invoke, go_sem, eg], fun _ => h1, ?_⟩
  refine (hseq (w.heap.size + 1) (fun s A => I s A ∧ Bk .ready none A) (fun s A => ∃ c, Ix c s A ∧ Bk .done (some c) A) _ (hKt hb0 (hKt (hKa _ _ _) (hKa _ _ _)))
    (fun s s' A B hs ht => ⟨hIT s s' A B hs.1 ht, bkT ht hs.2⟩) ?_ ⟨hI.alloc _ (hI.alloc _ h0), b0⟩).mono ?_
  · -- one round
    rintro s x A ⟨hi, hb⟩ hok
    refine ⟨fn, _, assign, body, run_yield hb.1 (hps x), roundIn_of_wpIn hfn (hassign _ x A _ ⟨_, run_beginRound hb.1 rfl, ?_⟩)⟩
    have hb2 : Bk .busy none (A.putObj (w.heap.size + 1) (R .busy none)) := bkP hb
    refine wpIn_mono (hbody _ s x _ (iP _ hb hi) hok) ?_
    rintro e a3 W3 hp
    cases e with
    | normal =>
      have hb3 := bkK hp.1 hb2
      exact ⟨_, _, run_endRound none hb3.1, .inl ⟨rfl, ⟨iP _ hb3 hp.2.2, bkP hb3⟩, hKt (kP _ hb) (hKt hp.2.1 (kP _ hb3))⟩⟩
    | ret => have hb3 := bkK hp.1 hb2; exact ⟨_, _, run_endRound (some .ret) hb3.1, .inr ⟨rfl, .ret, ixP _ hb3 hp.2, bkP hb3⟩⟩
    | exit id => have hb3 := bkK hp.1 hb2; exact ⟨_, _, run_endRound (some (.exit id)) hb3.1, .inr ⟨rfl, .exit id, ixP _ hb3 hp.2, bkP hb3⟩⟩
    | goto t => have hb3 := bkK hp.1 hb2; exact ⟨_, _, run_endRound (some (.goto t)) hb3.1, .inr ⟨rfl, .goto t, ixP _ hb3 hp.2, bkP hb3⟩⟩
    | panic ch => exact hp.elim
    | outgrown => exact hp.elim
  · -- behind the iterator
    rintro e A ⟨⟨v, rfl⟩, (⟨s, hS, hi, hb⟩ | ⟨s, hSp, c, hi, hb⟩)⟩
    · exact ⟨none, _, run_endLoop hb.1 (by simp), hdone _ s _ (Nat.le_refl _) hS (iP _ hb hi) ((World.putObj_heap_other (by omega)).trans hb.2)⟩
    · exact ⟨some c, _, run_endLoop hb.1 (by simp), hstop _ c s _ (Nat.le_refl _) hSp (ixP _ hb hi) ((World.putObj_heap_other (by omega)).trans hb.2)⟩
end Go.Hay
end

section
namespace Go.Proofs.Ytgllkonbgigcbaa
open Go.RowKit Go.Hay Go.Maps Go.Sort Go.Shelf
set_option linter.unusedVariables false
set_option linter.unusedSimpArgs false

/-- What the rounds leave alone: maps and their iterators, and one block. -/
def KeepV (q : Nat) (A B : World) : Prop := KeepsWalks A B ∧ ∀ o, A.heap[q]? = some o → B.heap[q]? = some o
theorem KeepV.trans {q : Nat} {A B C : World} (h : KeepV q A B) (k : KeepV q B C) : KeepV q A C := ⟨h.1.trans k.1, fun o ho => k.2 o (h.2 o ho)⟩
theorem KeepV.alloc (q : Nat) (W : World) (o : Obj) : KeepV q W (W.alloc o) := ⟨KeepsWalks.alloc W o, fun o' ho => (Below.heap_alloc W o q (Array.getElem?_eq_some_iff.1 ho).1).trans ho⟩
theorem KeepV.putObj {q : Nat} (W : World) (l : Nat) (o o' : Obj) (hl : q < l) (h : W.heap[l]? = some o) (ho : o.isWalk = false) : KeepV q W (W.putObj l o') :=
  ⟨KeepsWalks.putObj o' h ho, fun o'' h'' => (World.putObj_heap_other (by omega)).trans h''⟩
/-- The iterator's own step. -/
def StepV (b : Nat) (s s' : List Ent) (A B : World) : Prop := s' = s ∧ ∃ row, A.grownBy B row ∧ ∀ r, row = some r → b ≤ r ∧ ∃ o : Obj, A.heap[r]? = some o ∧ o.isWalk = true
abbrev encPtr (x : Ent) : Array Value := #[.pointer (some ⟨x.blk, 0, none⟩)]

theorem cValues (mb : Option Nat) (w : World) : Calls Try.prog 42 #[.map mb] w fun e w' => e = .returned (.func (.func 55) #[] #[.pointer (some ⟨w.heap.size, 0, none⟩)]) ∧ w' = w.alloc (.cells #[.map mb] 63) := by
  go_enter Try.func42, Try.ntmps42
  go_wp2_with fail
  go_returns
  exact ⟨rfl, rfl⟩

theorem look_of_at {xs : List Ent} {k : List UInt8} {y : DataW Unit} (h : ∀ z, DataW.atKey (.map (xs.map Ent.dat)) (.string k) z = y) : ∃ x, lookG Ent.name k xs = some x ∧ y = .lit (.int .i64 x.blk) := by
  cases hl : lookG Ent.name k xs with
  | some x => exact ⟨x, rfl, by rw [← h .nil, dat_at, hl]⟩
  | none =>
    have h1 := h .nil
    have h2 := h (.lit (.bool true))
    rw [dat_at, hl] at h1 h2
    rw [← h1] at h2
    cases h2
theorem nodup_of_map {α β : Type} {f : α → β} {l : List α} (h : (l.map f).Nodup) : l.Nodup := by
  rw [List.nodup_iff_pairwise_ne, List.pairwise_map] at h
  exact List.nodup_iff_pairwise_ne.2 (h.imp (fun h e => h (by rw [e])))
theorem perm_ents {xs s : List Ent} (hr : riseG Ent.name xs) (hs : ∀ x ∈ s, x ∈ xs) (hp : (s.map Ent.name).Perm (xs.map Ent.name)) : s.Perm xs := by
  have hn : (xs.map Ent.name).Nodup := by
    rw [List.nodup_iff_pairwise_ne, List.pairwise_map]
    exact hr.imp (fun h => bb_ne h)
  have hn2 : (s.map Ent.name).Nodup := hp.nodup_iff.2 hn
  refine (List.perm_ext_iff_of_nodup (nodup_of_map hn2) (nodup_of_map hn)).2 fun y => ⟨hs y, fun hy => ?_⟩
  obtain ⟨x, hx, e⟩ := List.mem_map.1 (hp.mem_iff.2 (List.mem_map_of_mem hy))
  rw [← rise_inj hr (hs x hx) hy e]
  exact hx

set_option maxHeartbeats 4000000 in
set_option maxRecDepth 100000 in
theorem valuesSeq (n : Nat) (hn : 1 ≤ n) (q mb : Nat) (xs : List Ent) (hrise : riseG Ent.name xs) (w : World) (hq : w.heap[q]? = some (.cells #[.map (some mb)] 63 (0, 0))) (hown : OwnsM w mb xs) :
    SeqS Fence.wide n Try.prog 55 #[.pointer (some ⟨q, 0, none⟩)] encPtr (StepV w.heap.size) (fun _ => KeepV q)
      (fun s x => x ∈ xs ∧ x.name ∉ s.map Ent.name) (fun s x => s ++ [x]) (fun s => s.Perm xs) (fun _ => True) [] w := by
  intro l J Jx W hW hT hY h0
  have hqW := hW.2 _ hq
  have hcW : W.cell? ⟨q, 0, none⟩ = some (.map (some mb)) := by unfold World.cell?; rw [hqW]; rfl
  have hownW : OwnsM W mb xs := by
    obtain ⟨es, clock, hb, F, hs, hD⟩ := hown
    exact ⟨es, clock, hW.1.same mb _ hb rfl, F, hs, hD⟩
  refine callsIn_of_wp Try.func55 rfl trivial ?_ rfl
  simp only [Try.ntmps55, List.size_toArray, List.length_cons, List.length_nil, Nat.reduceAdd, Nat.reduceSub, Array.replicate_succ, Array.replicate_zero, List.push_toArray, List.append_toArray, List.nil_append, List.cons_append]
  gi_wp2_with (first
    | (gi_at_range; refine wpListIn_range_own _ rfl _ 63 rfl 9 69 keyedS Try.underlying63 _ mb xs.length _ rfl hownW ?_; intro w0 hrg0 hg0 hs0)
    | gi_in)
  gi_loopw [4] (fun _ wr => ∃ (left : Lit → Bool) (cnt : Nat) (s : List Ent), wr.ranges Try.prog 9 ptrR mb W.heap.size xs.length (.map (xs.map Ent.dat)) left cnt ∧ Collected (DataW.map (xs.map Ent.dat)) left (s.map Ent.name) ∧ (∀ x ∈ s, x ∈ xs) ∧ J s wr)
    (fun _ wr => wr.rangeLeft mb W.heap.size)
  case atStart =>
    exact ⟨_, _, [], hrg0, Collected.start _, by simp, hT [] [] W w0 h0 ⟨rfl, none, hg0, fun r e => by cases e⟩⟩
  case round =>
    obtain ⟨left, cnt, s, hrg, hC, hsx, hJs⟩ := hrel
    gi_wp2_with (first
      | (gi_at_next; refine wpListIn_next_ranges _ rfl _ rfl 9 keyedS ptrR encStr id (fun key kl hk => by obtain ⟨x, hx, _⟩ := Maps.keyOf_str Try.underlying9 hk; exact ⟨x, hx⟩) (fun v _ _ => ⟨v, rfl⟩) mb W.heap.size xs.length _ _ _ rfl hrg ?_ ?_)
      | gi_in)
    · intro hc0 hl0
      gi_wp2
      go_end0
      have hp := hC.perm hownW keyedS Try.underlying9 hl0
      rw [dat_keys] at hp
      exact ⟨⟨_, rfl⟩, .inl ⟨s, perm_ents hrise hsx hp, hJs⟩⟩
    · intro x c kl yd yp w2 cnt2 hkey hlk hv hat hrg2 hlt hg2 hs2 hen
      obtain ⟨x', ex, rfl, _⟩ := Maps.keyOf_str Try.underlying9 hkey
      obtain rfl : x = x' := encStr_inj ex
      obtain ⟨e, hl, rfl⟩ := look_of_at hat
      obtain ⟨hex, hen2⟩ := lookG_some hl
      have hcp : c = .pointer (some ⟨e.blk, 0, none⟩) := ptrR_inv hv
      have hJ2 : J s w2 := hT s s wr w2 hJs ⟨rfl, some W.heap.size, hg2, fun r e => by cases e; exact ⟨hW.1.size, hrg.iter_walk⟩⟩
      have hnot : e.name ∉ s.map Ent.name := fun hm => by
        have := (hC.2 e.name).1 hm
        rw [hen2] at this
        rw [this.2] at hlk
        cases hlk
      obtain ⟨fn, tmps, assign, body, hy, hR⟩ := hY s e w2 hJ2 ⟨hex, hnot⟩
      have hC3 := hC.step hlk hat
      subst hcp
      unfold encPtr at hy
      clear hs2 hat
      gi_wp2
      refine hR.mono ?_
      rintro e1 W3 (⟨rfl, hJ3, hk3⟩ | ⟨rfl, hJx⟩)
      · gi_wp2
        have hrg3 := hrg2.of_walks hk3.1
        go_roundw
        case rel => exact ⟨_, cnt2, s ++ [e], hrg3, by rw [List.map_append]; show Collected _ _ (_ ++ [e.name]); rw [hen2]; exact hC3, fun y hy => by rcases List.mem_append.1 hy with h | h; exact hsx y h; rw [List.mem_singleton.1 h]; exact hex, hJ3⟩
        case measure => rw [hrg3.left_eq, hrg.left_eq]; exact hlt
      · gi_wp2
        go_returns
        exact ⟨⟨_, rfl⟩, .inr ⟨_, trivial, hJx⟩⟩
end Go.Proofs.Ytgllkonbgigcbaa
end

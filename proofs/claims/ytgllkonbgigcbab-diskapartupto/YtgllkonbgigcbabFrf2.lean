/- The reference's calls Free, joined, New, Wipe, Arm, step. -/
import Derived.Test.YtgllkonbgigcbabFref
namespace Go.Proofs.Ytgllkonbgigcbab
open Go.RowKit Go.Hay
set_option linter.unusedVariables false
set_option linter.unusedSimpArgs false

def lens (l : List RF) : Nat := (l.map fun f => f.bytes.length).sum
set_option maxHeartbeats 2000000 in
theorem cRefFree (r : RD) (w : World) (hr : RdOk w r) (hl : r.l.length ≤ 1000000000000) (h0 : 0 ≤ r.room) (h1 : r.room < 9223372036854775808) (hs : (lens r.l : Int) ≤ r.room) : Calls Try.prog 34 #[r.v] w fun e w' => e = .returned (.int .i64 (r.room - lens r.l)) ∧ Kp [] w w' := by
  obtain ⟨room, steps, fa, fc, l, armed, dead, left⟩ := r
  have hf := hr.fls
  simp only [RD.v] at *
  obtain ⟨w1, hw1⟩ : ∃ w1, w1 = w.alloc (.cells #[.int .i64 room, .int .i64 steps, .slice fa l.length fc, .bool armed, .bool dead, .int .i64 left] 32) := ⟨_, rfl⟩
  have kb : Kp [] w w1 := by rw [hw1]; exact (Kp.refl _ _).alloc _
  have bx : B6 w1 w.heap.size (.int .i64 room) (.int .i64 steps) (.slice fa l.length fc) (.bool armed) (.bool dead) (.int .i64 left) := by rw [hw1]; exact B6.at _ rfl _ _ _ _ _ _ _
  have hfb := hf.kept kb (by simp)
  have x0 := bx.c0
  have x2 := bx.c2
  clear bx hr hf
  go_enter Try.func34, Try.ntmps34
  have hal := hw1.symm
  clear hw1
  go_wp2_with fail
  go_loopw [3, 4] (fun n i wn => ∃ j : Nat, j ≤ l.length ∧ i = .int .i64 j ∧ (∃ z : Int, n = .int .i64 z ∧ Hid (z = room - lens (l.take j))) ∧ wn = w1) (fun _ i _ => l.length - (intOf i).toNat)
  case atStart => exact ⟨0, Nat.zero_le _, rfl, ⟨room, rfl, by show _ = _; simp [lens]⟩, rfl⟩
  case round =>
    obtain ⟨j, hj, rfl, ⟨z, rfl, hz⟩, rfl⟩ := hrel
    by_cases hjl : j < l.length
    · obtain ⟨x, hx⟩ : ∃ x, l[j]? = some x := ⟨l[j], by simp [hjl]⟩
      obtain ⟨g, o, rfl, c0, c1, c2⟩ := hfb.at hx
      have e1 : lens (l.take (j + 1)) = lens (l.take j) + x.bytes.length := by
        unfold lens
        rw [List.take_add_one, hx]; simp
      have e2 : lens (l.take (j + 1)) ≤ lens l := by
        have : lens (l.take (j + 1)) + lens (l.drop (j + 1)) = lens l := by
          unfold lens
          rw [← List.sum_append, ← List.map_append, List.take_append_drop]
        omega
      have hz' : Hid (z - x.bytes.length = room - lens (l.take (j + 1))) := by show _ = _; rw [hz.out, e1]; simp only [Int.natCast_add]; omega
      have b1 : 0 ≤ z - x.bytes.length := by rw [hz'.out]; omega
      have b2 : z ≤ room := by rw [hz.out]; omega
      clear hx e1 e2 hz
      go_wp2_with fail
      exact ⟨⟨j + 1, by omega, by go_num, ⟨_, rfl, hz'⟩, trivial⟩, by simp [intOf]; omega⟩
    · have e : j = l.length := by omega
      subst e
      have hz' : Hid (z = room - lens l) := by show _ = _; rw [hz.out, List.take_length]
      clear hz
      go_wp2_with fail
      go_ret
      exact ⟨by rw [hz'.out]; rfl, kb⟩
set_option maxRecDepth 100000 in
theorem cJoined (a b : Option Addr) (ca cb : Nat) (x y : List UInt8) (w : World) (hx : Sees w a x) (hy : Sees w b y) (hl : x.length + y.length ≤ 140737488355328) :
    Calls Try.prog 36 #[.slice a x.length ca, .slice b y.length cb] w (CloneP (x ++ y) w) := by
  go_enter Try.func36, Try.ntmps36
  have hn := Row.nil w
  go_wp2_with (first
    | (refine wpAppR rfl _ _ rfl _ ys rfl hrow1 _ _ _ y rfl rfl hy1' (by omega) ?_; intro zs a2 c2 w2 hz2 hzl2 hrow2 hg2)
    | (refine wpAppR rfl _ _ rfl _ [] rfl hn _ _ _ x rfl rfl hx (by simp; omega) ?_; intro ys a1 c1 w1 hy1 hyl1 hrow1 hg1; have k1 : Kp [] w w1 := hg1.kp; have hy1' : Sees w1 b y := hy.kept k1 (by simp); have hl1 : ys.length ≤ x.length := by simpa using hyl1)
    | fail)
  go_ret
  have e : zs = x ++ y := by rw [hz2.out, hy1.out]; simp
  subst e
  have ho : ∀ k ∈ own (.slice a1 ys.length c1), w.heap.size ≤ k := fun k hk => by
    rcases hg1.new k hk with h | h
    · simp [own, Value.ownBlock, Act.eval] at h
    · exact h
  refine ⟨a2, c2, rfl, hrow2, k1.trans hg2.kp (fun k hk => .inr (ho k hk)), fun k hk => ?_⟩
  rcases hg2.new k (by rw [own_slice]; exact hk) with h | h
  · exact ho k h
  · exact Nat.le_trans k1.size h
def RefP (T : List Nat) (d : Dk) (w : World) (v : Value) (w' : World) : Prop := ∃ r : RD, v = r.v ∧ RdOk w' r ∧ Like r d ∧ Kp [] w w' ∧ ∀ k ∈ r.foot, k ∈ T ∨ w.heap.size ≤ k
theorem RdOk.files {w : World} {r : RD} (h : RdOk w r) {r' : RD} (e1 : r'.fa = r.fa) (e2 : r'.l = r.l) : RdOk w r' := ⟨by rw [e1, e2]; exact h.fls, by rw [e2]; exact h.see⟩
theorem foot_same {r r' : RD} (e1 : r'.fa = r.fa) (e2 : r'.l = r.l) : r'.foot = r.foot := by simp [RD.foot, e1, e2]
theorem cRefNew (room : Int) (w : World) (h : room < 9223372036854775808) : Calls Try.prog 7 #[.int .i64 room] w fun e w' => ∃ v, e = .returned v ∧ RefP [] (newD room) w v w' := by
  go_enter Try.func7, Try.ntmps7
  go_wp2_with fail
  go_returns
  exact ⟨_, rfl, ⟨max room 0, 0, none, 0, [], false, false, 0⟩, rfl, ⟨.inl rfl, by simp⟩, ⟨by simp only [newD]; omega, rfl, rfl, rfl, rfl, by simp [newD], by simp, by simp⟩, (Kp.refl _ _).alloc _, by simp [RD.foot, blk]⟩
theorem cRefWipe (r : RD) (w : World) (d : Dk) (hL : Like r d) : Calls Try.prog 24 #[r.v] w fun e w' => ∃ v, e = .returned v ∧ RefP r.foot (wipeD d) w v w' := by
  obtain ⟨room, steps, fa, fc, l, armed, dead, left⟩ := r
  simp only [RD.v]
  go_enter Try.func24, Try.ntmps24
  go_wp2_with fail
  go_returns
  exact ⟨_, rfl, ⟨room, steps, none, 0, [], armed, dead, left⟩, rfl, ⟨.inl rfl, by simp⟩, ⟨hL.room, hL.steps, rfl, hL.armed, hL.dead, hL.left, hL.lo, hL.hi⟩, ((Kp.refl _ _).alloc _).alloc _, by simp [RD.foot, blk]⟩
theorem cRefArm (r : RD) (w : World) (hr : RdOk w r) (d : Dk) (hL : Like r d) (n : Int) (hn0 : -9223372036854775808 ≤ n) (hn1 : n < 9223372036854775808) : Calls Try.prog 23 #[r.v, .int .i64 n] w fun e w' => ∃ v, e = .returned v ∧ RefP r.foot (armD d n) w v w' := by
  obtain ⟨room, steps, fa, fc, l, armed, dead, left⟩ := r
  simp only [RD.v]
  have hd := hL.dead
  simp only at hd
  cases hdd : d.dead with
  | true =>
    have e : armD d n = d := by simp [armD, hdd]
    rw [hdd] at hd
    subst hd
    rw [e]
    go_enter Try.func23, Try.ntmps23
    go_wp2_with fail
    go_returns
    have kk : Kp [] w _ := ((Kp.refl _ w).alloc (.cells #[.int .i64 room, .int .i64 steps, .slice fa l.length fc, .bool armed, .bool true, .int .i64 left] 32)).alloc (.cells #[.int .i64 room, .int .i64 steps, .slice fa l.length fc, .bool armed, .bool true, .int .i64 left] 32)
    exact ⟨_, rfl, ⟨room, steps, fa, fc, l, armed, true, left⟩, rfl, hr.keptNew kk, hL, kk, fun k hk => .inl hk⟩
  | false =>
    rw [hdd] at hd
    subst hd
    by_cases h0 : 0 ≤ n
    · have e : armD d n = { d with arm := some n.toNat } := by simp [armD, hdd, h0]
      rw [e]
      go_enter Try.func23, Try.ntmps23
      go_wp2_with fail
      go_returns
      have kk : Kp [] w _ := ((Kp.refl _ w).alloc (.cells #[.int .i64 room, .int .i64 steps, .slice fa l.length fc, .bool true, .bool false, .int .i64 n] 32)).alloc (.cells #[.int .i64 room, .int .i64 steps, .slice fa l.length fc, .bool true, .bool false, .int .i64 n] 32)
      refine ⟨_, rfl, ⟨room, steps, fa, fc, l, true, false, n⟩, rfl, (hr.keptNew kk).files rfl rfl, ⟨hL.room, hL.steps, hL.files, rfl, by first | rfl | exact hdd.symm, fun m hm => ?_, hn0, hn1⟩, kk, fun k hk => .inl hk⟩
      simp only [Option.some.injEq] at hm
      simp only
      omega
    · have e : armD d n = { d with arm := none } := by simp [armD, hdd, h0]
      rw [e]
      go_enter Try.func23, Try.ntmps23
      go_wp2_with fail
      go_returns
      have kk : Kp [] w _ := ((Kp.refl _ w).alloc (.cells #[.int .i64 room, .int .i64 steps, .slice fa l.length fc, .bool false, .bool false, .int .i64 n] 32)).alloc (.cells #[.int .i64 room, .int .i64 steps, .slice fa l.length fc, .bool false, .bool false, .int .i64 n] 32)
      exact ⟨_, rfl, ⟨room, steps, fa, fc, l, false, false, n⟩, rfl, (hr.keptNew kk).files rfl rfl, ⟨hL.room, hL.steps, hL.files, rfl, by first | rfl | exact hdd.symm, by simp, hn0, hn1⟩, kk, fun k hk => .inl hk⟩
def stepR (r : RD) : RD × Bool := if r.armed && r.left == 0 then ({ r with steps := r.steps + 1, dead := true }, true) else ({ r with steps := r.steps + 1, left := IntKind.i64.wrap (r.left - 1) }, false)
theorem like_step {r : RD} {d : Dk} (h : Like r d) : Like (stepR r).1 (stepD d).1 ∧ (stepR r).2 = (stepD d).2 := by
  have ha := h.armed
  cases hd : d.arm with
  | none =>
    rw [hd] at ha
    have e1 : stepR r = ({ r with steps := r.steps + 1, left := IntKind.i64.wrap (r.left - 1) }, false) := by simp [stepR, ha]
    have e2 : stepD d = ({ d with steps := d.steps + 1, arm := none }, false) := by simp [stepD, hd]
    rw [e1, e2]
    have hw := IntKind.wrap_i64 (r.left - 1)
    refine ⟨⟨h.room, by simp [h.steps], h.files, ha, h.dead, by simp, ?_, ?_⟩, rfl⟩
    · simp only [hw]; omega
    · simp only [hw]; omega
  | some n =>
    rw [hd] at ha
    have hl := h.left n hd
    have hlo := h.lo
    have hhi := h.hi
    rcases Nat.eq_zero_or_pos n with rfl | hn
    · have e1 : stepR r = ({ r with steps := r.steps + 1, dead := true }, true) := by simp [stepR, ha, hl]
      have e2 : stepD d = ({ d with steps := d.steps + 1, dead := true }, true) := by simp [stepD, hd]
      rw [e1, e2]
      exact ⟨⟨h.room, by simp [h.steps], h.files, by simp [ha, hd], rfl, fun m hm => h.left m hm, h.lo, h.hi⟩, rfl⟩
    · have e1 : stepR r = ({ r with steps := r.steps + 1, left := IntKind.i64.wrap (r.left - 1) }, false) := by
        have : ¬ r.left = 0 := by omega
        simp [stepR, this]
      have e2 : stepD d = ({ d with steps := d.steps + 1, arm := some (n - 1) }, false) := by
        have : ¬ n = 0 := by omega
        simp [stepD, hd, this]
      have hw : IntKind.i64.wrap (r.left - 1) = r.left - 1 := by rw [IntKind.wrap_i64]; omega
      rw [e1, e2, hw]
      exact ⟨⟨h.room, by simp [h.steps], h.files, by simp [ha], h.dead, fun m hm => by simp at hm; subst hm; simp only; omega, by simp only; omega, by simp only; omega⟩, rfl⟩
theorem stepR_files (r : RD) : (stepR r).1.fa = r.fa ∧ (stepR r).1.l = r.l := by
  unfold stepR
  split <;> exact ⟨rfl, rfl⟩
theorem wrapE (z : Int) : wrap64 z = IntKind.i64.wrap z := by rw [IntKind.wrap_i64]; unfold wrap64; omega
theorem cRefStep (r : RD) (w : World) (hs : 0 ≤ r.steps ∧ r.steps < 9000000000000000000) : Calls Try.prog 37 #[r.v] w fun e w' => e = .returned (.tuple #[(stepR r).1.v, .bool (stepR r).2]) ∧ Kp [] w w' := by
  obtain ⟨room, steps, fa, fc, l, armed, dead, left⟩ := r
  simp only [RD.v] at *
  obtain ⟨hs0, hs1⟩ := hs
  cases armed with
  | false =>
    go_enter Try.func37, Try.ntmps37
    go_wp2_with fail
    go_returns
    exact ⟨by simp [stepR]; exact wrapE _, ((Kp.refl _ _).alloc _).alloc _⟩
  | true =>
    by_cases h0 : left = 0
    · subst h0
      go_enter Try.func37, Try.ntmps37
      go_wp2_with fail
      go_returns
      exact ⟨by simp [stepR], ((Kp.refl _ _).alloc _).alloc _⟩
    · have h1 : (left == 0) = false := by simpa using h0
      go_enter Try.func37, Try.ntmps37
      go_wp2_with fail
      go_returns
      exact ⟨by simp [stepR, h0]; exact wrapE _, ((Kp.refl _ _).alloc _).alloc _⟩
end Go.Proofs.Ytgllkonbgigcbab

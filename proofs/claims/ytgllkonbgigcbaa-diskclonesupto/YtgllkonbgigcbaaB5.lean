/- The reference's disk, and its calls At, Free, joined, New, Wipe, Arm, step. The reference's calls Free, joined, New, Wipe, Arm, step. The reference's calls Without, With. The reference's call With. The reference's calls refused, Append. The reference's call Append. -/
import Derived.Test.YtgllkonbgigcbaaB4
section
namespace Go.Proofs.Ytgllkonbgigcbaa
open Go.RowKit Go.Hay
set_option linter.unusedVariables false
set_option linter.unusedSimpArgs false

/-- The reference's disk: its six fields. -/
structure RD where
  room : Int
  steps : Int
  fa : Option Addr
  fc : Nat
  l : List RF
  armed : Bool
  dead : Bool
  left : Int
def RD.v (r : RD) : Value := .agg #[.int .i64 r.room, .int .i64 r.steps, .slice r.fa r.l.length r.fc, .bool r.armed, .bool r.dead, .int .i64 r.left]
/-- The blocks that are seen: nothing of what is empty. -/
def RF.ft (f : RF) : List Nat := if f.bytes = [] then [] else blk f.ba
def RD.ff (r : RD) : List Nat := if r.l = [] then [] else blk r.fa
def RD.foot (r : RD) : List Nat := r.ff ++ r.l.flatMap RF.ft
theorem mem_ft {f : RF} {k : Nat} (h : k ∈ f.ft) : k ∈ blk f.ba := by
  unfold RF.ft at h
  split at h
  · cases h
  · exact h
theorem mem_ff {r : RD} {k : Nat} (h : k ∈ r.ff) : k ∈ blk r.fa := by
  unfold RD.ff at h
  split at h
  · cases h
  · exact h
def FSee (w : World) (f : RF) : Prop := Sees w f.ba f.bytes ∧ (f.ba = none → f.bytes = [] ∧ f.bc = 0) ∧ f.bytes.length ≤ f.bc
structure RdOk (w : World) (r : RD) : Prop where
  fls : Fls w r.fa r.l
  see : ∀ f ∈ r.l, FSee w f
theorem RdOk.kept {w w' : World} {r : RD} {S : List Nat} (h : RdOk w r) (hk : Kp S w w') (hn : ∀ k ∈ r.foot, k ∉ S) : RdOk w' r :=
  ⟨by
    by_cases e : r.l = []
    · rw [e]; exact .inl rfl
    · exact h.fls.kept hk (fun k hk' => hn k (by simp [RD.foot, RD.ff, e, hk'])), fun f hf => ⟨by
    by_cases e : f.bytes = []
    · rw [e]; exact .inl rfl
    · exact (h.see f hf).1.kept hk (fun k hk' => hn k (by simp only [RD.foot, List.mem_append, List.mem_flatMap]; exact .inr ⟨f, hf, by simpa [RF.ft, e] using hk'⟩)), (h.see f hf).2⟩⟩
theorem RdOk.lt {w : World} {r : RD} (h : RdOk w r) : ∀ k ∈ r.foot, k < w.heap.size := fun k hk => by
  simp only [RD.foot, List.mem_append, List.mem_flatMap] at hk
  rcases hk with hk | ⟨f, hf, hk⟩
  · unfold RD.ff at hk
    split at hk
    · cases hk
    · rename_i hne
      obtain ⟨x, hx⟩ := List.exists_mem_of_ne_nil _ hne
      obtain ⟨j, hj, rfl⟩ := List.mem_iff_getElem.1 hx
      obtain ⟨g, o, ea, c0, _⟩ := h.fls.at (j := j) (x := r.l[j]) (by simp)
      rw [ea] at hk
      simp [blk] at hk
      subst hk
      exact World.block_lt_of_cell? _ _ c0
  · unfold RF.ft at hk
    split at hk
    · cases hk
    · rename_i hne
      rcases (h.see f hf).1 with h0 | ⟨g, o, ea, hc⟩
      · exact absurd h0 hne
      · rw [ea] at hk
        simp [blk] at hk
        subst hk
        obtain ⟨y, hy⟩ := List.exists_mem_of_ne_nil _ hne
        obtain ⟨j, hj, rfl⟩ := List.mem_iff_getElem.1 hy
        exact World.block_lt_of_cell? _ _ (hc j f.bytes[j] (by simp))
theorem RdOk.keptNew {w w' : World} {r : RD} (h : RdOk w r) (hk : Kp [] w w') : RdOk w' r := h.kept hk (by simp)
/-- It is the disk d. -/
structure Like (r : RD) (d : Dk) : Prop where
  room : r.room = d.room
  steps : r.steps = d.steps
  files : r.l.map RF.fl = d.files
  armed : r.armed = d.arm.isSome
  dead : r.dead = d.dead
  left : ∀ n : Nat, d.arm = some n → r.left = n
  lo : -9223372036854775808 ≤ r.left
  hi : r.left < 9223372036854775808

theorem strL (a : List UInt8) : (⟨a.toArray⟩ : ByteArray).toList = a := by rw [ByteArray.toList_eq]
theorem strEq (a b : List UInt8) : ((⟨a.toArray⟩ : ByteArray).toList == (⟨b.toArray⟩ : ByteArray).toList) = (a == b) := by rw [strL, strL]
theorem lessEq : ∀ (a b : List UInt8), Op.bytesLess a b = bytesBefore a b
  | [], [] => rfl
  | [], _ :: _ => rfl
  | _ :: _, [] => rfl
  | x :: r, y :: s => by simp [Op.bytesLess, bytesBefore, lessEq r s]
theorem strLe (a b : List UInt8) : (Op.bytesLess (⟨a.toArray⟩ : ByteArray).toList (⟨b.toArray⟩ : ByteArray).toList || (⟨a.toArray⟩ : ByteArray).toList == (⟨b.toArray⟩ : ByteArray).toList) = leN a b := by rw [strL, strL, lessEq]; rfl
/-- A box of six cells. -/
structure B6 (w : World) (q : Nat) (a b c d e f : Value) : Prop where
  c0 : w.cell? ⟨q, 0, none⟩ = some a
  c1 : w.cell? ⟨q, 1, none⟩ = some b
  c2 : w.cell? ⟨q, 2, none⟩ = some c
  c3 : w.cell? ⟨q, 3, none⟩ = some d
  c4 : w.cell? ⟨q, 4, none⟩ = some e
  c5 : w.cell? ⟨q, 5, none⟩ = some f
  free : ∀ j, w.frozen? ⟨q, j, none⟩ = false
theorem B6.at {w : World} (q : Nat) (hq : w.heap.size = q) (a b c d e f : Value) (t : TypeId) : B6 (w.alloc (.cells #[a, b, c, d, e, f] t)) q a b c d e f := by
  subst hq
  exact ⟨World.cell?_alloc_new w _ _ 0, World.cell?_alloc_new w _ _ 1, World.cell?_alloc_new w _ _ 2, World.cell?_alloc_new w _ _ 3, World.cell?_alloc_new w _ _ 4, World.cell?_alloc_new w _ _ 5, fun j => World.frozen?_alloc_new w _ _ j⟩
theorem B6.lt {w : World} {q : Nat} {a b c d e f : Value} (h : B6 w q a b c d e f) : q < w.heap.size := World.block_lt_of_cell? _ _ h.c0
theorem B6.kept {w w' : World} {q : Nat} {a b c d e f : Value} (h : B6 w q a b c d e f) (hk : Kp [] w w') : B6 w' q a b c d e f :=
  ⟨cell_kp hk h.c0, cell_kp hk h.c1, cell_kp hk h.c2, cell_kp hk h.c3, cell_kp hk h.c4, cell_kp hk h.c5, fun j => (hk.frozen (p := ⟨q, j, none⟩) h.lt (by simp)).trans (h.free j)⟩

def AtP (l : List RF) (k : List UInt8) (w : World) (e : Ending) (w' : World) : Prop :=
  Kp [] w w' ∧ ((∃ (j : Nat) (x : RF), e = .returned (.int .i64 (j : Int)) ∧ l[j]? = some x ∧ lookG RF.name k l = some x) ∨ (e = .returned (.int .i64 (-1)) ∧ lookG RF.name k l = none))
theorem look_at {l : List RF} {k : List UInt8} {j : Nat} {x : RF} (h : ∀ i y, i < j → l[i]? = some y → y.name ≠ k) (hx : l[j]? = some x) (hn : x.name = k) : lookG RF.name k l = some x := by
  induction l generalizing j with
  | nil => simp at hx
  | cons y l ih =>
    cases j with
    | zero => simp at hx; subst hx; simp [lookG, hn]
    | succ j =>
      have h0 := h 0 y (by omega) rfl
      have : lookG RF.name k (y :: l) = lookG RF.name k l := by simp [lookG, h0]
      rw [this]
      exact ih (j := j) (fun i z hi hz => h (i + 1) z (by omega) (by simpa using hz)) (by simpa using hx)
theorem look_no {l : List RF} {k : List UInt8} (h : ∀ (i : Nat) (y : RF), l[i]? = some y → y.name ≠ k) : lookG RF.name k l = none := by
  unfold lookG
  rw [List.find?_eq_none]
  intro x hx
  obtain ⟨i, hi, rfl⟩ := List.mem_iff_getElem.1 hx
  simpa using h i l[i] (by simp)
set_option maxHeartbeats 2000000 in
theorem cAt (r : RD) (k : List UInt8) (w : World) (hr : RdOk w r) (hl : r.l.length ≤ 1000000000000) : Calls Try.prog 44 #[r.v, .string ⟨k.toArray⟩] w (AtP r.l k w) := by
  obtain ⟨room, steps, fa, fc, l, armed, dead, left⟩ := r
  have hf := hr.fls
  simp only [RD.v] at *
  have kb : Kp [] w (w.alloc (.cells #[.int .i64 room, .int .i64 steps, .slice fa l.length fc, .bool armed, .bool dead, .int .i64 left] 28)) := (Kp.refl _ _).alloc _
  have bx := B6.at (w := w) w.heap.size rfl (.int .i64 room) (.int .i64 steps) (.slice fa l.length fc) (.bool armed) (.bool dead) (.int .i64 left) 28
  have hfb := hf.kept kb (by simp)
  go_enter Try.func44, Try.ntmps44
  go_wp2_with fail
  go_loopw [5] (fun i wn => ∃ j : Nat, j ≤ l.length ∧ i = .int .i64 j ∧ Hid (∀ i y, i < j → l[i]? = some y → y.name ≠ k) ∧ wn = w.alloc (.cells #[.int .i64 room, .int .i64 steps, .slice fa l.length fc, .bool armed, .bool dead, .int .i64 left] 28)) (fun i _ => l.length - (intOf i).toNat)
  case atStart => exact ⟨0, Nat.zero_le _, rfl, fun i y hi => by omega, rfl⟩
  case round =>
    obtain ⟨j, hj, rfl, hno, rfl⟩ := hrel
    by_cases hjl : j < l.length
    · obtain ⟨x, hx⟩ : ∃ x, l[j]? = some x := ⟨l[j], by simp [hjl]⟩
      obtain ⟨g, o, rfl, c0, c1, c2⟩ := hfb.at hx
      by_cases hn : x.name = k
      · have hfin : AtP l k w (.returned (.int .i64 (j : Int))) (w.alloc (.cells #[.int .i64 room, .int .i64 steps, .slice (some ⟨g, o, none⟩) l.length fc, .bool armed, .bool dead, .int .i64 left] 28)) := ⟨kb, .inl ⟨j, x, rfl, hx, look_at hno.out hx hn⟩⟩
        have he1 : (x.name == k) = true := by simpa using hn
        clear hno hn hx
        go_wp2_with fail
        go_ret
        exact hfin
      · have hno' : Hid (∀ i y, i < j + 1 → l[i]? = some y → y.name ≠ k) := fun i y hi hy => by
          by_cases e : i = j
          · subst e; rw [hx] at hy; cases hy; exact hn
          · exact hno.out i y (by omega) hy
        have he1 : (x.name == k) = false := by simpa using hn
        clear hno hn hx
        go_wp2_with fail
        exact ⟨⟨j + 1, by omega, by go_num, hno', trivial⟩, by simp [intOf]; omega⟩
    · have hfin : AtP l k w (.returned (.int .i64 (-1))) (w.alloc (.cells #[.int .i64 room, .int .i64 steps, .slice fa l.length fc, .bool armed, .bool dead, .int .i64 left] 28)) := ⟨kb, .inr ⟨rfl, look_no (fun i y hy => hno.out i y (by have := (List.getElem?_eq_some_iff.1 hy).1; omega) hy)⟩⟩
      clear hno
      go_wp2_with fail
      go_ret
      exact hfin
end Go.Proofs.Ytgllkonbgigcbaa
end

section
namespace Go.Proofs.Ytgllkonbgigcbaa
open Go.RowKit Go.Hay
set_option linter.unusedVariables false
set_option linter.unusedSimpArgs false

def lens (l : List RF) : Nat := (l.map fun f => f.bytes.length).sum
set_option maxHeartbeats 2000000 in
theorem cRefFree (r : RD) (w : World) (hr : RdOk w r) (hl : r.l.length ≤ 1000000000000) (h0 : 0 ≤ r.room) (h1 : r.room < 9223372036854775808) (hs : (lens r.l : Int) ≤ r.room) : Calls Try.prog 41 #[r.v] w fun e w' => e = .returned (.int .i64 (r.room - lens r.l)) ∧ Kp [] w w' := by
  obtain ⟨room, steps, fa, fc, l, armed, dead, left⟩ := r
  have hf := hr.fls
  simp only [RD.v] at *
  obtain ⟨w1, hw1⟩ : ∃ w1, w1 = w.alloc (.cells #[.int .i64 room, .int .i64 steps, .slice fa l.length fc, .bool armed, .bool dead, .int .i64 left] 28) := ⟨_, rfl⟩
  have kb : Kp [] w w1 := by rw [hw1]; exact (Kp.refl _ _).alloc _
  have bx : B6 w1 w.heap.size (.int .i64 room) (.int .i64 steps) (.slice fa l.length fc) (.bool armed) (.bool dead) (.int .i64 left) := by rw [hw1]; exact B6.at _ rfl _ _ _ _ _ _ _
  have hfb := hf.kept kb (by simp)
  have x0 := bx.c0
  have x2 := bx.c2
  clear bx hr hf
  go_enter Try.func41, Try.ntmps41
  have hal := hw1.symm
  clear hw1
  go_wp2_with fail
  go_loopw [3, 4] (fun n i wn => ∃ j : Nat, j ≤ l.length ∧ i = .int .i64 j ∧ (∃ z : Int, n = .int .i64 z ∧ Hid (z = room - lens (l.take j))) ∧ wn = w1) (fun _ i _ => l.length - (intOf i).toNat)
  case atStart => exact ⟨0, Nat.zero_le _, rfl, ⟨room, rfl, by show _ = _; simp [lens]⟩, rfl⟩
  case round =>
    obtain ⟨j, hj, rfl, ⟨z, rfl, hz⟩, rfl⟩ := hrel
    by_cases hjl : j < l.length
    · obtain ⟨x, hx⟩ : ∃ x, l[j]? = some x := ⟨l[j], by simp [hjl]⟩
      obtain ⟨g, o, rfl, c0, c1, c2⟩ := hfb.at hx
      have e1 : lens (l.take (j + 1)) = lens (l.take j) + x.bytes.length := by
        unfold lens
        rw [List.take_add_one, hx]; simp
      have e2 : lens (l.take (j + 1)) ≤ lens l := by
        have : lens (l.take (j + 1)) + lens (l.drop (j + 1)) = lens l := by
          unfold lens
          rw [← List.sum_append, ← List.map_append, List.take_append_drop]
        omega
      have hz' : Hid (z - x.bytes.length = room - lens (l.take (j + 1))) := by show _ = _; rw [hz.out, e1]; simp only [Int.natCast_add]; omega
      have b1 : 0 ≤ z - x.bytes.length := by rw [hz'.out]; omega
      have b2 : z ≤ room := by rw [hz.out]; omega
      clear hx e1 e2 hz
      go_wp2_with fail
      exact ⟨⟨j + 1, by omega, by go_num, ⟨_, rfl, hz'⟩, trivial⟩, by simp [intOf]; omega⟩
    · have e : j = l.length := by omega
      subst e
      have hz' : Hid (z = room - lens l) := by show _ = _; rw [hz.out, List.take_length]
      clear hz
      go_wp2_with fail
      go_ret
      exact ⟨by rw [hz'.out]; rfl, kb⟩
set_option maxRecDepth 100000 in
theorem cJoined (a b : Option Addr) (ca cb : Nat) (x y : List UInt8) (w : World) (hx : Sees w a x) (hy : Sees w b y) (hl : x.length + y.length ≤ 140737488355328) :
    Calls Try.prog 43 #[.slice a x.length ca, .slice b y.length cb] w (CloneP (x ++ y) w) := by
  go_enter Try.func43, Try.ntmps43
  have hn := Row.nil w
  go_wp2_with (first
    | (refine wpAppR rfl _ _ rfl _ ys rfl hrow1 _ _ _ y rfl rfl hy1' (by omega) ?_; intro zs a2 c2 w2 hz2 hzl2 hrow2 hg2)
    | (refine wpAppR rfl _ _ rfl _ [] rfl hn _ _ _ x rfl rfl hx (by simp; omega) ?_; intro ys a1 c1 w1 hy1 hyl1 hrow1 hg1; have k1 : Kp [] w w1 := hg1.kp; have hy1' : Sees w1 b y := hy.kept k1 (by simp); have hl1 : ys.length ≤ x.length := by simpa using hyl1)
    | fail)
  go_ret
  have e : zs = x ++ y := by rw [hz2.out, hy1.out]; simp
  subst e
  have ho : ∀ k ∈ own (.slice a1 ys.length c1), w.heap.size ≤ k := fun k hk => by
    rcases hg1.new k hk with h | h
    · simp [own, Value.ownBlock, Act.eval] at h
    · exact h
  refine ⟨a2, c2, rfl, hrow2, k1.trans hg2.kp (fun k hk => .inr (ho k hk)), fun k hk => ?_⟩
  rcases hg2.new k (by rw [own_slice]; exact hk) with h | h
  · exact ho k h
  · exact Nat.le_trans k1.size h
def RefP (T : List Nat) (d : Dk) (w : World) (v : Value) (w' : World) : Prop := ∃ r : RD, v = r.v ∧ RdOk w' r ∧ Like r d ∧ Kp [] w w' ∧ ∀ k ∈ r.foot, k ∈ T ∨ w.heap.size ≤ k
theorem RdOk.files {w : World} {r : RD} (h : RdOk w r) {r' : RD} (e1 : r'.fa = r.fa) (e2 : r'.l = r.l) : RdOk w r' := ⟨by rw [e1, e2]; exact h.fls, by rw [e2]; exact h.see⟩
theorem foot_same {r r' : RD} (e1 : r'.fa = r.fa) (e2 : r'.l = r.l) : r'.foot = r.foot := by simp [RD.foot, RD.ff, e1, e2]
theorem cRefNew (room : Int) (w : World) (h : room < 9223372036854775808) : Calls Try.prog 11 #[.int .i64 room] w fun e w' => ∃ v, e = .returned v ∧ RefP [] (newD room) w v w' := by
  go_enter Try.func11, Try.ntmps11
  go_wp2_with fail
  go_returns
  exact ⟨_, rfl, ⟨max room 0, 0, none, 0, [], false, false, 0⟩, rfl, ⟨.inl rfl, by simp⟩, ⟨by simp only [newD]; omega, rfl, rfl, rfl, rfl, by simp [newD], by simp, by simp⟩, (Kp.refl _ _).alloc _, by simp [RD.foot, RD.ff, blk]⟩
theorem cRefWipe (r : RD) (w : World) (d : Dk) (hL : Like r d) : Calls Try.prog 38 #[r.v] w fun e w' => ∃ v, e = .returned v ∧ RefP r.foot (wipeD d) w v w' := by
  obtain ⟨room, steps, fa, fc, l, armed, dead, left⟩ := r
  simp only [RD.v]
  go_enter Try.func38, Try.ntmps38
  go_wp2_with fail
  go_returns
  exact ⟨_, rfl, ⟨room, steps, none, 0, [], armed, dead, left⟩, rfl, ⟨.inl rfl, by simp⟩, ⟨hL.room, hL.steps, rfl, hL.armed, hL.dead, hL.left, hL.lo, hL.hi⟩, ((Kp.refl _ _).alloc _).alloc _, by simp [RD.foot, RD.ff, blk]⟩
theorem cRefArm (r : RD) (w : World) (hr : RdOk w r) (d : Dk) (hL : Like r d) (n : Int) (hn0 : -9223372036854775808 ≤ n) (hn1 : n < 9223372036854775808) : Calls Try.prog 36 #[r.v, .int .i64 n] w fun e w' => ∃ v, e = .returned v ∧ RefP r.foot (armD d n) w v w' := by
  obtain ⟨room, steps, fa, fc, l, armed, dead, left⟩ := r
  simp only [RD.v]
  have hd := hL.dead
  simp only at hd
  cases hdd : d.dead with
  | true =>
    have e : armD d n = d := by simp [armD, hdd]
    rw [hdd] at hd
    subst hd
    rw [e]
    go_enter Try.func36, Try.ntmps36
    go_wp2_with fail
    go_returns
    have kk : Kp [] w _ := ((Kp.refl _ w).alloc (.cells #[.int .i64 room, .int .i64 steps, .slice fa l.length fc, .bool armed, .bool true, .int .i64 left] 28)).alloc (.cells #[.int .i64 room, .int .i64 steps, .slice fa l.length fc, .bool armed, .bool true, .int .i64 left] 28)
    exact ⟨_, rfl, ⟨room, steps, fa, fc, l, armed, true, left⟩, rfl, hr.keptNew kk, hL, kk, fun k hk => .inl hk⟩
  | false =>
    rw [hdd] at hd
    subst hd
    by_cases h0 : 0 ≤ n
    · have e : armD d n = { d with arm := some n.toNat } := by simp [armD, hdd, h0]
      rw [e]
      go_enter Try.func36, Try.ntmps36
      go_wp2_with fail
      go_returns
      have kk : Kp [] w _ := ((Kp.refl _ w).alloc (.cells #[.int .i64 room, .int .i64 steps, .slice fa l.length fc, .bool true, .bool false, .int .i64 n] 28)).alloc (.cells #[.int .i64 room, .int .i64 steps, .slice fa l.length fc, .bool true, .bool false, .int .i64 n] 28)
      refine ⟨_, rfl, ⟨room, steps, fa, fc, l, true, false, n⟩, rfl, (hr.keptNew kk).files rfl rfl, ⟨hL.room, hL.steps, hL.files, rfl, by first | rfl | exact hdd.symm, fun m hm => ?_, hn0, hn1⟩, kk, fun k hk => .inl hk⟩
      simp only [Option.some.injEq] at hm
      simp only
      omega
    · have e : armD d n = { d with arm := none } := by simp [armD, hdd, h0]
      rw [e]
      go_enter Try.func36, Try.ntmps36
      go_wp2_with fail
      go_returns
      have kk : Kp [] w _ := ((Kp.refl _ w).alloc (.cells #[.int .i64 room, .int .i64 steps, .slice fa l.length fc, .bool false, .bool false, .int .i64 n] 28)).alloc (.cells #[.int .i64 room, .int .i64 steps, .slice fa l.length fc, .bool false, .bool false, .int .i64 n] 28)
      exact ⟨_, rfl, ⟨room, steps, fa, fc, l, false, false, n⟩, rfl, (hr.keptNew kk).files rfl rfl, ⟨hL.room, hL.steps, hL.files, rfl, by first | rfl | exact hdd.symm, by simp, hn0, hn1⟩, kk, fun k hk => .inl hk⟩
def stepR (r : RD) : RD × Bool := if r.armed && r.left == 0 then ({ r with steps := r.steps + 1, dead := true }, true) else ({ r with steps := r.steps + 1, left := IntKind.i64.wrap (r.left - 1) }, false)
theorem like_step {r : RD} {d : Dk} (h : Like r d) : Like (stepR r).1 (stepD d).1 ∧ (stepR r).2 = (stepD d).2 := by
  have ha := h.armed
  cases hd : d.arm with
  | none =>
    rw [hd] at ha
    have e1 : stepR r = ({ r with steps := r.steps + 1, left := IntKind.i64.wrap (r.left - 1) }, false) := by simp [stepR, ha]
    have e2 : stepD d = ({ d with steps := d.steps + 1, arm := none }, false) := by simp [stepD, hd]
    rw [e1, e2]
    have hw := IntKind.wrap_i64 (r.left - 1)
    refine ⟨⟨h.room, by simp [h.steps], h.files, ha, h.dead, by simp, ?_, ?_⟩, rfl⟩
    · simp only [hw]; omega
    · simp only [hw]; omega
  | some n =>
    rw [hd] at ha
    have hl := h.left n hd
    have hlo := h.lo
    have hhi := h.hi
    rcases Nat.eq_zero_or_pos n with rfl | hn
    · have e1 : stepR r = ({ r with steps := r.steps + 1, dead := true }, true) := by simp [stepR, ha, hl]
      have e2 : stepD d = ({ d with steps := d.steps + 1, dead := true }, true) := by simp [stepD, hd]
      rw [e1, e2]
      exact ⟨⟨h.room, by simp [h.steps], h.files, by simp [ha, hd], rfl, fun m hm => h.left m hm, h.lo, h.hi⟩, rfl⟩
    · have e1 : stepR r = ({ r with steps := r.steps + 1, left := IntKind.i64.wrap (r.left - 1) }, false) := by
        have : ¬ r.left = 0 := by omega
        simp [stepR, this]
      have e2 : stepD d = ({ d with steps := d.steps + 1, arm := some (n - 1) }, false) := by
        have : ¬ n = 0 := by omega
        simp [stepD, hd, this]
      have hw : IntKind.i64.wrap (r.left - 1) = r.left - 1 := by rw [IntKind.wrap_i64]; omega
      rw [e1, e2, hw]
      exact ⟨⟨h.room, by simp [h.steps], h.files, by simp [ha], h.dead, fun m hm => by simp at hm; subst hm; simp only; omega, by simp only; omega, by simp only; omega⟩, rfl⟩
theorem stepR_files (r : RD) : (stepR r).1.fa = r.fa ∧ (stepR r).1.l = r.l := by
  unfold stepR
  split <;> exact ⟨rfl, rfl⟩
theorem wrapE (z : Int) : wrap64 z = IntKind.i64.wrap z := by rw [IntKind.wrap_i64]; unfold wrap64; omega
theorem cRefStep (r : RD) (w : World) (hs : 0 ≤ r.steps ∧ r.steps < 9000000000000000000) : Calls Try.prog 51 #[r.v] w fun e w' => e = .returned (.tuple #[(stepR r).1.v, .bool (stepR r).2]) ∧ Kp [] w w' := by
  obtain ⟨room, steps, fa, fc, l, armed, dead, left⟩ := r
  simp only [RD.v] at *
  obtain ⟨hs0, hs1⟩ := hs
  cases armed with
  | false =>
    go_enter Try.func51, Try.ntmps51
    go_wp2_with fail
    go_returns
    exact ⟨by simp [stepR]; exact wrapE _, ((Kp.refl _ _).alloc _).alloc _⟩
  | true =>
    by_cases h0 : left = 0
    · subst h0
      go_enter Try.func51, Try.ntmps51
      go_wp2_with fail
      go_returns
      exact ⟨by simp [stepR], ((Kp.refl _ _).alloc _).alloc _⟩
    · have h1 : (left == 0) = false := by simpa using h0
      go_enter Try.func51, Try.ntmps51
      go_wp2_with fail
      go_returns
      exact ⟨by simp [stepR, h0]; exact wrapE _, ((Kp.refl _ _).alloc _).alloc _⟩
end Go.Proofs.Ytgllkonbgigcbaa
end

section
namespace Go.Proofs.Ytgllkonbgigcbaa
open Go.RowKit Go.Hay
set_option linter.unusedVariables false
set_option linter.unusedSimpArgs false

def WithP (r : RD) (l' : List RF) (w : World) (e : Ending) (w' : World) : Prop := ∃ a' c', e = .returned ({ r with fa := a', fc := c', l := l' } : RD).v ∧ Fls w' a' l' ∧ Kp [] w w' ∧ ∀ k ∈ blk a', w.heap.size ≤ k
theorem dropG_snoc {k : List UInt8} {l : List RF} {j : Nat} {x : RF} (hx : l[j]? = some x) : dropG RF.name k (l.take (j + 1)) = dropG RF.name k (l.take j) ++ (if x.name == k then [] else [x]) := by
  rw [List.take_add_one, hx]
  simp only [dropG, List.filter_append, Option.toList_some]
  congr 1
  cases h : x.name == k <;> simp [h]
theorem set6_ex {W : World} {q : Nat} {a0 b0 c0 d0 e0 f0 : Value} (h : B6 W q a0 b0 c0 d0 e0 f0) (a b c d e f : Value) : ∃ W', (((((W.setCell ⟨q, 0, none⟩ a).setCell ⟨q, 1, none⟩ b).setCell ⟨q, 2, none⟩ c).setCell ⟨q, 3, none⟩ d).setCell ⟨q, 4, none⟩ e).setCell ⟨q, 5, none⟩ f = W' ∧ B6 W' q a b c d e f ∧ Kp [q] W W' := by
  have k : ∀ (A : World) (j : Nat) (u : Value), Kp [q] W A → Kp [q] W (A.setCell ⟨q, j, none⟩ u) := fun A j u hA => hA.setCell (p := ⟨q, j, none⟩) (by simp) u
  refine ⟨_, rfl, ⟨?_, ?_, ?_, ?_, ?_, ?_, fun j => ?_⟩, k _ _ _ (k _ _ _ (k _ _ _ (k _ _ _ (k _ _ _ (k _ _ _ (Kp.refl _ _))))))⟩
  · rw [setCell_off (by decide), setCell_off (by decide), setCell_off (by decide), setCell_off (by decide), setCell_off (by decide)]; exact World.cell?_setCell_same _ _ _ h.c0
  · rw [setCell_off (by decide), setCell_off (by decide), setCell_off (by decide), setCell_off (by decide)]; exact World.cell?_setCell_same _ _ _ ((setCell_off (by decide) _).trans h.c1)
  · rw [setCell_off (by decide), setCell_off (by decide), setCell_off (by decide)]; exact World.cell?_setCell_same _ _ _ ((setCell_off (by decide) _).trans ((setCell_off (by decide) _).trans h.c2))
  · rw [setCell_off (by decide), setCell_off (by decide)]; exact World.cell?_setCell_same _ _ _ ((setCell_off (by decide) _).trans ((setCell_off (by decide) _).trans ((setCell_off (by decide) _).trans h.c3)))
  · rw [setCell_off (by decide)]; exact World.cell?_setCell_same _ _ _ ((setCell_off (by decide) _).trans ((setCell_off (by decide) _).trans ((setCell_off (by decide) _).trans ((setCell_off (by decide) _).trans h.c4))))
  · exact World.cell?_setCell_same _ _ _ ((setCell_off (by decide) _).trans ((setCell_off (by decide) _).trans ((setCell_off (by decide) _).trans ((setCell_off (by decide) _).trans ((setCell_off (by decide) _).trans h.c5)))))
  · simp only [World.frozen?_setCell]; exact h.free j
theorem B6.keptS {w w' : World} {q : Nat} {a b c d e f : Value} {S : List Nat} (h : B6 w q a b c d e f) (hk : Kp S w w') (hq : q ∉ S) : B6 w' q a b c d e f :=
  ⟨(hk.cell (p := ⟨q, _, none⟩) h.lt hq).trans h.c0, (hk.cell (p := ⟨q, _, none⟩) h.lt hq).trans h.c1, (hk.cell (p := ⟨q, _, none⟩) h.lt hq).trans h.c2, (hk.cell (p := ⟨q, _, none⟩) h.lt hq).trans h.c3, (hk.cell (p := ⟨q, _, none⟩) h.lt hq).trans h.c4, (hk.cell (p := ⟨q, _, none⟩) h.lt hq).trans h.c5, fun j => (hk.frozen (p := ⟨q, j, none⟩) h.lt hq).trans (h.free j)⟩
set_option maxHeartbeats 4000000 in
set_option maxRecDepth 100000 in
theorem cWithout (r : RD) (k : List UInt8) (w : World) (hr : RdOk w r) (hl : r.l.length ≤ 1000000000) : Calls Try.prog 54 #[r.v, .string ⟨k.toArray⟩] w (WithP r (dropG RF.name k r.l) w) := by
  obtain ⟨room, steps, fa, fc, l, armed, dead, left⟩ := r
  have hf := hr.fls
  simp only [RD.v] at *
  obtain ⟨w1, hw1⟩ : ∃ w1, w1 = (w.alloc (.cells #[.int .i64 room, .int .i64 steps, .slice fa l.length fc, .bool armed, .bool dead, .int .i64 left] 28)).alloc (.cells #[.int .i64 0, .int .i64 0, .slice none 0 0, .bool false, .bool false, .int .i64 0] 28) := ⟨_, rfl⟩
  have kb : Kp [] w w1 := by rw [hw1]; exact ((Kp.refl _ _).alloc _).alloc _
  have bx : B6 w1 w.heap.size (.int .i64 room) (.int .i64 steps) (.slice fa l.length fc) (.bool armed) (.bool dead) (.int .i64 left) := by rw [hw1]; exact (B6.at _ rfl _ _ _ _ _ _ _).kept ((Kp.refl _ _).alloc _)
  have br : B6 w1 (w.heap.size + 1) (.int .i64 0) (.int .i64 0) (.slice none 0 0) (.bool false) (.bool false) (.int .i64 0) := by rw [hw1]; exact B6.at _ (by simp) _ _ _ _ _ _ _
  have hs1 : w.heap.size + 2 ≤ w1.heap.size := by rw [hw1]; simp
  have hfb := hf.kept kb (by simp)
  clear hr hf
  go_enter Try.func54, Try.ntmps54
  have hal := hw1.symm
  clear hw1
  go_wp2_with fail
  go_loopw [5, 6] (fun v i wn => ∃ (j : Nat) (l' : List RF) (a : Option Addr) (c : Nat), j ≤ l.length ∧ i = .int .i64 j ∧ v = .slice a l'.length c ∧ RowF w1.heap.size wn (.slice a l'.length c) l' ∧ Hid (l' = dropG RF.name k (l.take j)) ∧ Kp [] w1 wn ∧ l'.length ≤ j) (fun _ i _ => l.length - (intOf i).toNat)
  case atStart => exact ⟨0, [], none, 0, Nat.zero_le _, rfl, rfl, RowF.nil _ _, rfl, Kp.refl _ _, Nat.le_refl _⟩
  case round =>
    obtain ⟨j, l', av, cv, hj, rfl, rfl, hrow, hl', hk, hlen⟩ := hrel
    have b2 := (bx.kept hk).c2
    by_cases hjl : j < l.length
    · obtain ⟨x, hx⟩ : ∃ x, l[j]? = some x := ⟨l[j], by simp [hjl]⟩
      have hsn := dropG_snoc (k := k) hx
      obtain ⟨g, o, rfl, c0, c1, c2⟩ := (hfb.kept hk (by simp)).at hx
      by_cases hn : x.name = k
      · have hn' : Hid (l' = dropG RF.name k (l.take (j + 1))) := by show _ = _; rw [hsn, hl'.out]; simp [hn]
        have he1 : (x.name == k) = true := by simpa using hn
        clear hsn hl' hx hn
        go_wp2_with fail
        exact ⟨⟨j + 1, l', _, _, by omega, by go_num, rfl, hrow, hn', hk, by omega⟩, by simp [intOf]; omega⟩
      · have hn' : Hid (l' ++ [x] = dropG RF.name k (l.take (j + 1))) := by show _ = _; rw [hsn, hl'.out]; simp [hn]
        have he1 : (x.name == k) = false := by simpa using hn
        clear hsn hl' hx hn
        go_wp2_with (first | (refine wpAppF rfl _ _ rfl w1 _ l' rfl hrow x _ rfl rfl (by omega) hk ?_; intro l2 a2 c2' w2 hl2 hrow2 hk2 hs2 hsame) | fail)
        have hl2' : l2.length ≤ j + 1 := by rw [hl2.out]; simp; omega
        exact ⟨⟨j + 1, l2, a2, c2', by omega, by go_num, rfl, hrow2, by show _ = _; rw [hl2.out]; exact hn'.out, hk2, hl2'⟩, by simp [intOf]; omega⟩
    · have e : j = l.length := by omega
      subst e
      have hn' : Hid (l' = dropG RF.name k l) := by show _ = _; rw [hl'.out, List.take_length]
      have bb := bx.kept hk
      have rr := br.kept hk
      have q0 := bb.c0
      have q1 := bb.c1
      have q3 := bb.c3
      have q4 := bb.c4
      have q5 := bb.c5
      have f2 := bb.free 2
      have r0 := rr.c0
      have r1 := rr.c1
      have r2 := rr.c2
      have r3 := rr.c3
      have r4 := rr.c4
      have r5 := rr.c5
      have g0 := rr.free 0
      have g1 := rr.free 1
      have g2 := rr.free 2
      have g3 := rr.free 3
      have g4 := rr.free 4
      have g5 := rr.free 5
      clear hl'
      go_wp2_with fail
      have kS : Kp [w.heap.size] wr (wr.setCell ⟨w.heap.size, 2, none⟩ (.slice av l'.length cv)) := (Kp.refl _ _).setCell (p := ⟨w.heap.size, 2, none⟩) (by simp) _
      obtain ⟨W', hW', hb6, kW'⟩ := set6_ex (rr.keptS kS (by simp)) (.int .i64 room) (.int .i64 steps) (.slice av l'.length cv) (.bool armed) (.bool dead) (.int .i64 left)
      rw [hW']
      obtain ⟨z0, z1, z2, z3, z4, z5, _⟩ := hb6
      obtain ⟨a', c', ea, hfl, _, _, hnew⟩ := hrow.fls
      cases ea
      have kA : Kp [w.heap.size, w.heap.size + 1] wr W' := (kS.mono (T := [w.heap.size, w.heap.size + 1]) (fun x hx => .inl (by simp at hx; simp [hx]))).trans kW' (fun x hx => .inl (by simp at hx; simp [hx]))
      refine bodyPost_ret (v := .agg #[.int .i64 room, .int .i64 steps, .slice av l'.length cv, .bool armed, .bool dead, .int .i64 left]) (by simp [results, Try.results54, go_sem, z0, z1, z2, z3, z4, z5]) rfl ?_
      refine ⟨av, cv, ?_, ?_, (kb.trans hk (by simp)).trans kA (fun x hx => .inr (by simp at hx; omega)), fun x hx => by have := hnew x hx; omega⟩
      · rw [← hn'.out]; rfl
      · rw [← hn'.out]; exact hfl.kept kA (fun x hx => by have := hnew x hx; simp; omega)
end Go.Proofs.Ytgllkonbgigcbaa
end

section
namespace Go.Proofs.Ytgllkonbgigcbaa
open Go.RowKit Go.Hay
set_option linter.unusedVariables false
set_option linter.unusedSimpArgs false

theorem keepG {W W' : World} {v : Value} {g o : Nat} {u : Value} (h : ∀ k, k < W.heap.size → v.ownBlock ≠ some k → W'.heap[k]? = W.heap[k]?) (hc : W.cell? ⟨g, o, none⟩ = some u) (hne : v.ownBlock ≠ some g) : W'.cell? ⟨g, o, none⟩ = some u :=
  (World.cell?_of_block (a := ⟨g, o, none⟩) (h g (World.block_lt_of_cell? _ _ hc) hne)).trans hc
theorem rowF_lt {n0 : Nat} {w : World} {v : Value} {l : List RF} (h : RowF n0 w v l) : ∀ k, v.ownBlock = some k → k < w.heap.size := by
  obtain ⟨_, ⟨rfl, _⟩ | ⟨g, cap, cur, rfl, hb, hg, _⟩⟩ := h
  · intro k hk; cases hk
  · intro k hk; cases hk; exact (Array.getElem?_eq_some_iff.1 hg).1
theorem runLe (a b : List UInt8) (w : World) : (binOp .leq 9 (.string ⟨a.toArray⟩) (.string ⟨b.toArray⟩)).run Try.prog w = .ok (.bool (leN a b)) w := by
  have e : binOp .leq 9 (.string ⟨a.toArray⟩) (.string ⟨b.toArray⟩) = pure (.bool (Op.bytesLess (⟨a.toArray⟩ : ByteArray).toList (⟨b.toArray⟩ : ByteArray).toList || (⟨a.toArray⟩ : ByteArray).toList == (⟨b.toArray⟩ : ByteArray).toList)) := by simp [binOp, Op.stringOp]
  rw [e, strLe]
  rfl
set_option maxHeartbeats 8000000 in
set_option maxRecDepth 100000 in
theorem cWith (r : RD) (f : RF) (w : World) (hr : RdOk w r) (hl : r.l.length ≤ 1000000000) : Calls Try.prog 52 #[r.v, f.v] w (WithP r (putG RF.name f false r.l) w) := by
  obtain ⟨room, steps, fa, fc, l, armed, dead, left⟩ := r
  have hf := hr.fls
  simp only [RD.v, RF.v] at *
  obtain ⟨w1, hw1⟩ : ∃ w1, w1 = ((w.alloc (.cells #[.int .i64 room, .int .i64 steps, .slice fa l.length fc, .bool armed, .bool dead, .int .i64 left] 28)).alloc (.cells #[.string ⟨f.name.toArray⟩, .slice f.ba f.bytes.length f.bc, .int .i64 (f.last : Int)] 45)).alloc (.cells #[.int .i64 0, .int .i64 0, .slice none 0 0, .bool false, .bool false, .int .i64 0] 28) := ⟨_, rfl⟩
  have kb : Kp [] w w1 := by rw [hw1]; exact (((Kp.refl _ _).alloc _).alloc _).alloc _
  have bx : B6 w1 w.heap.size (.int .i64 room) (.int .i64 steps) (.slice fa l.length fc) (.bool armed) (.bool dead) (.int .i64 left) := by rw [hw1]; exact (B6.at _ rfl _ _ _ _ _ _ _).kept (((Kp.refl _ _).alloc _).alloc _)
  have br : B6 w1 (w.heap.size + 2) (.int .i64 0) (.int .i64 0) (.slice none 0 0) (.bool false) (.bool false) (.int .i64 0) := by rw [hw1]; exact B6.at _ (by simp) _ _ _ _ _ _ _
  have bf : ∀ j u, (RF.c f)[j]? = some u → w1.cell? ⟨w.heap.size + 1, j, none⟩ = some u := fun j u hu => by
    rw [hw1]
    have h0 := World.cell?_alloc_new (w.alloc (.cells #[.int .i64 room, .int .i64 steps, .slice fa l.length fc, .bool armed, .bool dead, .int .i64 left] 28)) #[.string ⟨f.name.toArray⟩, .slice f.ba f.bytes.length f.bc, .int .i64 (f.last : Int)] 45 j
    rw [World.size_alloc] at h0
    refine cell_kp ((Kp.refl _ _).alloc _) (h0.trans ?_)
    simpa [RF.c] using hu
  have bf0 := bf 0 _ rfl
  have bf1 := bf 1 _ rfl
  have bf2 := bf 2 _ rfl
  have hs1 : w.heap.size + 3 ≤ w1.heap.size := by rw [hw1]; simp
  have hfb := hf.kept kb (by simp)
  clear hr hf bf
  go_enter Try.func52, Try.ntmps52
  have hal := hw1.symm
  clear hw1
  go_wp2_with fail
  go_loopw [5, 6, 7] (fun v dn i wn => ∃ (j : Nat) (l' : List RF) (a : Option Addr) (c : Nat) (b : Bool), j ≤ l.length ∧ i = .int .i64 j ∧ v = .slice a l'.length c ∧ dn = .bool b ∧ RowF w1.heap.size wn (.slice a l'.length c) l' ∧ Hid (l' ++ putG RF.name f b (l.drop j) = putG RF.name f false l) ∧ Kp [] w1 wn ∧ l'.length ≤ 2 * j) (fun _ _ i _ => l.length - (intOf i).toNat)
  case atStart => exact ⟨0, [], none, 0, false, Nat.zero_le _, rfl, rfl, rfl, RowF.nil _ _, by show _ = _; simp, Kp.refl _ _, Nat.le_refl _⟩
  case round =>
    obtain ⟨j, l', av, cv, b, hj, rfl, rfl, rfl, hrow, hl', hk, hlen⟩ := hrel
    have b2 := (bx.kept hk).c2
    by_cases hjl : j < l.length
    · obtain ⟨x, hx⟩ : ∃ x, l[j]? = some x := ⟨l[j], by simp [hjl]⟩
      have hdr : l.drop j = x :: l.drop (j + 1) := by
        rw [List.drop_eq_getElem_cons hjl]
        congr 1
        simpa using List.getElem?_eq_some_iff.1 hx |>.2
      obtain ⟨g, o, rfl, c0, c1, c2⟩ := (hfb.kept hk (by simp)).at hx
      obtain ⟨wg, hwg⟩ : ∃ wg, wr.alloc (.cells #[.string ⟨x.name.toArray⟩, .slice x.ba x.bytes.length x.bc, .int .i64 (x.last : Int)] 45) = wg := ⟨_, rfl⟩
      have kg : Kp [] wr wg := by rw [← hwg]; exact (Kp.refl _ _).alloc _
      have hkg : Kp [] w1 wg := hk.trans kg (by simp)
      have hrowg := hrow.kept kg
      have g0 : wg.cell? ⟨wr.heap.size, 0, none⟩ = some (.string ⟨x.name.toArray⟩) := by rw [← hwg]; exact World.cell?_alloc_new wr _ _ 0
      have g1 : wg.cell? ⟨wr.heap.size, 1, none⟩ = some (.slice x.ba x.bytes.length x.bc) := by rw [← hwg]; exact World.cell?_alloc_new wr _ _ 1
      have g2 : wg.cell? ⟨wr.heap.size, 2, none⟩ = some (.int .i64 (x.last : Int)) := by rw [← hwg]; exact World.cell?_alloc_new wr _ _ 2
      have hgo : (Value.slice av l'.length cv).ownBlock ≠ some wr.heap.size := fun e => Nat.lt_irrefl _ (rowF_lt hrow _ e)
      have h1j := bf0
      have fb0 := cell_kp hkg bf0
      have fb1 := cell_kp hkg bf1
      have fb2 := cell_kp hkg bf2
      cases b with
      | true =>
        by_cases hn : x.name = f.name
        · have heq : (x.name == f.name) = true := by simpa using hn
          have hle : leN f.name x.name = true := by simp [leN, hn]
          clear hn
          have hn' : Hid ((l') ++ putG RF.name f true (l.drop (j + 1)) = putG RF.name f false l) := by show _ = _; rw [← hl'.out, hdr]; simp [putG, hle, heq]
          clear hl' hx hdr
          go_wp2_with fail
          exact ⟨⟨j + 1, l', av, cv, true, by omega, by go_num, rfl, rfl, hrowg, hn', hkg, by omega⟩, by simp [intOf]; omega⟩
        · have heq : (x.name == f.name) = false := by simpa using hn
          obtain ⟨bl, hle⟩ : ∃ bl, leN f.name x.name = bl := ⟨_, rfl⟩
          clear hn
          have hn' : Hid (((l') ++ [x]) ++ putG RF.name f true (l.drop (j + 1)) = putG RF.name f false l) := by show _ = _; rw [← hl'.out, hdr]; simp [putG, hle, heq]
          clear hl' hx hdr
          go_wp2_with (first | (refine wpAppF rfl _ _ rfl w1 _ l' rfl hrowg x _ rfl rfl (by omega) hkg ?_; intro l3 a3 c3' w3 hl3 hrow3 hk3 hs3 hsame3) | fail)
          exact ⟨⟨j + 1, l3, a3, c3', true, by omega, by go_num, rfl, rfl, hrow3, by show _ = _; rw [hl3.out]; exact hn'.out, hk3, by rw [hl3.out]; simp; omega⟩, by simp [intOf]; omega⟩
      | false =>
        cases hle : leN f.name x.name with
        | true =>
          have hle2 : ∀ W, (binOp .leq 9 (.string ⟨f.name.toArray⟩) (.string ⟨x.name.toArray⟩)).run Try.prog W = .ok (.bool true) W := fun W => by rw [runLe, hle]
          by_cases hn : x.name = f.name
          · have heq : (x.name == f.name) = true := by simpa using hn
            clear hn
            have hn' : Hid ((l' ++ [f]) ++ putG RF.name f true (l.drop (j + 1)) = putG RF.name f false l) := by show _ = _; rw [← hl'.out, hdr]; simp [putG, hle, heq]
            clear hl' hx hdr
            go_wp2_with (first | (refine wpAppF rfl _ _ rfl w1 _ l' rfl hrowg f _ rfl rfl (by omega) hkg ?_; intro l2 a2 c2' w2 hl2 hrow2 hk2 hs2 hsame; have g0' := keepG hsame g0 hgo; have g1' := keepG hsame g1 hgo; have g2' := keepG hsame g2 hgo; have fb0 := cell_kp hk2 bf0; have fb1 := cell_kp hk2 bf1; have fb2 := cell_kp hk2 bf2; have hln2 : l2.length ≤ 2 * j + 1 := (by rw [hl2.out]; simp; omega)) | fail)
            exact ⟨⟨j + 1, l2, a2, c2', true, by omega, by go_num, rfl, rfl, hrow2, by show _ = _; rw [hl2.out]; exact hn'.out, hk2, by rw [hl2.out]; simp; omega⟩, by simp [intOf]; omega⟩
          · have heq : (x.name == f.name) = false := by simpa using hn
            clear hn
            have hn' : Hid (((l' ++ [f]) ++ [x]) ++ putG RF.name f true (l.drop (j + 1)) = putG RF.name f false l) := by show _ = _; rw [← hl'.out, hdr]; simp [putG, hle, heq]
            clear hl' hx hdr
            go_wp2_with (first | (refine wpAppF rfl _ _ rfl w1 _ l2 rfl hrow2 x _ rfl rfl (by omega) hk2 ?_; intro l3 a3 c3' w3 hl3 hrow3 hk3 hs3 hsame3) | (refine wpAppF rfl _ _ rfl w1 _ l' rfl hrowg f _ rfl rfl (by omega) hkg ?_; intro l2 a2 c2' w2 hl2 hrow2 hk2 hs2 hsame; have g0' := keepG hsame g0 hgo; have g1' := keepG hsame g1 hgo; have g2' := keepG hsame g2 hgo; have fb0 := cell_kp hk2 bf0; have fb1 := cell_kp hk2 bf1; have fb2 := cell_kp hk2 bf2; have hln2 : l2.length ≤ 2 * j + 1 := (by rw [hl2.out]; simp; omega)) | fail)
            exact ⟨⟨j + 1, l3, a3, c3', true, by omega, by go_num, rfl, rfl, hrow3, by show _ = _; rw [hl3.out, hl2.out]; exact hn'.out, hk3, by rw [hl3.out, hl2.out]; simp; omega⟩, by simp [intOf]; omega⟩
        | false =>
          have hle2 : ∀ W, (binOp .leq 9 (.string ⟨f.name.toArray⟩) (.string ⟨x.name.toArray⟩)).run Try.prog W = .ok (.bool false) W := fun W => by rw [runLe, hle]
          have heq : (x.name == f.name) = false := by
            simp only [leN, Bool.or_eq_false_iff, beq_eq_false_iff_ne] at hle
            simpa using Ne.symm hle.2
          have hn' : Hid (((l') ++ [x]) ++ putG RF.name f false (l.drop (j + 1)) = putG RF.name f false l) := by show _ = _; rw [← hl'.out, hdr]; simp [putG, hle, heq]
          clear hl' hx hdr
          go_wp2_with (first | (refine wpAppF rfl _ _ rfl w1 _ l' rfl hrowg x _ rfl rfl (by omega) hkg ?_; intro l3 a3 c3' w3 hl3 hrow3 hk3 hs3 hsame3) | fail)
          exact ⟨⟨j + 1, l3, a3, c3', false, by omega, by go_num, rfl, rfl, hrow3, by show _ = _; rw [hl3.out]; exact hn'.out, hk3, by rw [hl3.out]; simp; omega⟩, by simp [intOf]; omega⟩
    · have e : j = l.length := by omega
      subst e
      have bb := bx.kept hk
      have rr := br.kept hk
      have q0 := bb.c0
      have q1 := bb.c1
      have q3 := bb.c3
      have q4 := bb.c4
      have q5 := bb.c5
      have f2 := bb.free 2
      have r0 := rr.c0
      have r1 := rr.c1
      have r2 := rr.c2
      have r3 := rr.c3
      have r4 := rr.c4
      have r5 := rr.c5
      have g0 := rr.free 0
      have g1 := rr.free 1
      have g2 := rr.free 2
      have g3 := rr.free 3
      have g4 := rr.free 4
      have g5 := rr.free 5
      rw [List.drop_length] at hl'
      cases b with
      | true =>
        have hn' : Hid (l' = putG RF.name f false l) := by show _ = _; rw [← hl'.out]; simp [putG]
        clear hl'
        go_wp2_with fail
        have kS : Kp [w.heap.size] wr (wr.setCell ⟨w.heap.size, 2, none⟩ (.slice av l'.length cv)) := (Kp.refl _ _).setCell (p := ⟨w.heap.size, 2, none⟩) (by simp) _
        obtain ⟨W', hW', hb6, kW'⟩ := set6_ex (rr.keptS kS (by simp)) (.int .i64 room) (.int .i64 steps) (.slice av l'.length cv) (.bool armed) (.bool dead) (.int .i64 left)
        rw [hW']
        obtain ⟨z0, z1, z2, z3, z4, z5, _⟩ := hb6
        obtain ⟨a', c', ea, hfl, _, _, hnew⟩ := hrow.fls
        cases ea
        have kA : Kp [w.heap.size, w.heap.size + 2] wr W' := (kS.mono (T := [w.heap.size, w.heap.size + 2]) (fun x hx => .inl (by simp at hx; simp [hx]))).trans kW' (fun x hx => .inl (by simp at hx; simp [hx]))
        refine bodyPost_ret (v := .agg #[.int .i64 room, .int .i64 steps, .slice av l'.length cv, .bool armed, .bool dead, .int .i64 left]) (by simp [results, Try.results52, go_sem, z0, z1, z2, z3, z4, z5]) rfl ?_
        refine ⟨av, cv, ?_, ?_, (kb.trans hk (by simp)).trans kA (fun x hx => .inr (by simp at hx; omega)), fun x hx => by have := hnew x hx; omega⟩
        · rw [← hn'.out]; rfl
        · rw [← hn'.out]; exact hfl.kept kA (fun x hx => by have := hnew x hx; simp; omega)
      | false =>
        have hn' : Hid (l' ++ [f] = putG RF.name f false l) := by show _ = _; rw [← hl'.out]; simp [putG]
        have fb0 := cell_kp hk bf0
        have fb1 := cell_kp hk bf1
        have fb2 := cell_kp hk bf2
        clear hl' q0 q1 q3 q4 q5 f2 r0 r1 r2 r3 r4 r5 g0 g1 g2 g3 g4 g5
        go_wp2_with (first | (refine wpAppF rfl _ _ rfl w1 _ l' rfl hrow f _ rfl rfl (by omega) hk ?_; intro l2 a2 c2' w2 hl2 hrow2 hk2 hs2 hsame; have bb := bx.kept hk2; have rr := br.kept hk2; have q0 := bb.c0; have q1 := bb.c1; have q2 := bb.c2; have q3 := bb.c3; have q4 := bb.c4; have q5 := bb.c5; have f2 := bb.free 2; have r0 := rr.c0; have r1 := rr.c1; have r2 := rr.c2; have r3 := rr.c3; have r4 := rr.c4; have r5 := rr.c5; have g0 := rr.free 0; have g1 := rr.free 1; have g2 := rr.free 2; have g3 := rr.free 3; have g4 := rr.free 4; have g5 := rr.free 5) | fail)
        have kS : Kp [w.heap.size] w2 (w2.setCell ⟨w.heap.size, 2, none⟩ (.slice a2 l2.length c2')) := (Kp.refl _ _).setCell (p := ⟨w.heap.size, 2, none⟩) (by simp) _
        obtain ⟨W', hW', hb6, kW'⟩ := set6_ex ((br.kept hk2).keptS kS (by simp)) (.int .i64 room) (.int .i64 steps) (.slice a2 l2.length c2') (.bool armed) (.bool dead) (.int .i64 left)
        rw [hW']
        obtain ⟨z0, z1, z2, z3, z4, z5, _⟩ := hb6
        obtain ⟨a', c', ea, hfl, _, _, hnew⟩ := hrow2.fls
        cases ea
        have kA : Kp [w.heap.size, w.heap.size + 2] w2 W' := (kS.mono (T := [w.heap.size, w.heap.size + 2]) (fun x hx => .inl (by simp at hx; simp [hx]))).trans kW' (fun x hx => .inl (by simp at hx; simp [hx]))
        refine bodyPost_ret (v := .agg #[.int .i64 room, .int .i64 steps, .slice a2 l2.length c2', .bool armed, .bool dead, .int .i64 left]) (by simp [results, Try.results52, go_sem, z0, z1, z2, z3, z4, z5]) rfl ?_
        refine ⟨a2, c2', ?_, ?_, (kb.trans hk2 (by simp)).trans kA (fun x hx => .inr (by simp at hx; omega)), fun x hx => by have := hnew x hx; omega⟩
        · rw [← hn'.out, ← hl2.out]; rfl
        · rw [← hn'.out, ← hl2.out]; exact hfl.kept kA (fun x hx => by have := hnew x hx; simp; omega)
end Go.Proofs.Ytgllkonbgigcbaa
end

section
namespace Go.Proofs.Ytgllkonbgigcbaa
open Go.RowKit Go.Hay
set_option linter.unusedVariables false
set_option linter.unusedSimpArgs false

theorem Like.look {r : RD} {d : Dk} (h : Like r d) (k : List UInt8) : lookG Fl.name k d.files = (lookG RF.name k r.l).map RF.fl := by
  rw [← h.files]
  exact lookG_map (nm := RF.name) (nm' := Fl.name) RF.fl (fun _ => rfl) k r.l
/-- The reference's box, as it is made. -/
theorem boxR (r : RD) (w : World) : ∃ w1, w.alloc (.cells #[.int .i64 r.room, .int .i64 r.steps, .slice r.fa r.l.length r.fc, .bool r.armed, .bool r.dead, .int .i64 r.left] 28) = w1 ∧ Kp [] w w1 ∧ B6 w1 w.heap.size (.int .i64 r.room) (.int .i64 r.steps) (.slice r.fa r.l.length r.fc) (.bool r.armed) (.bool r.dead) (.int .i64 r.left) ∧ w.heap.size < w1.heap.size :=
  ⟨_, rfl, (Kp.refl _ _).alloc _, B6.at _ rfl _ _ _ _ _ _ _, by simp⟩
set_option maxHeartbeats 4000000 in
set_option maxRecDepth 100000 in
theorem cRefused (r : RD) (d : Dk) (w : World) (hr : RdOk w r) (hL : Like r d) (hl : r.l.length ≤ 1000000000) (call : Int) (name to : List UInt8) (hto : to.length ≤ maxLen) (n : Int) :
    Calls Try.prog 53 #[r.v, .int .i64 call, .string ⟨name.toArray⟩, .string ⟨to.toArray⟩, .int .i64 n] w fun e w' => e = .returned (.int .i64 (refusedD d call name to n)) ∧ Kp [] w w' := by
  obtain ⟨w1, hw1, k1, bx, hsz⟩ := boxR r w
  have hr1 := hr.keptNew k1
  have hAt := cAt r name w1 hr1 (by omega)
  have hlk := hL.look name
  have hdd := hL.dead
  have hnm : ∀ w, Calls Try.prog 50 #[.string ⟨to.toArray⟩] w fun e w' => e = .returned (.bool (nameOk to)) ∧ w' = w := fun w => cRefName ⟨to.toArray⟩ w (by simpa [ByteArray.size] using hto)
  obtain ⟨room, steps, fa, fc, l, armed, dead, left⟩ := r
  simp only [RD.v] at *
  have b0 := bx.c0; have b1 := bx.c1; have b2 := bx.c2; have b3 := bx.c3; have b4 := bx.c4; have b5 := bx.c5
  subst hdd
  go_enter Try.func53, Try.ntmps53
  go_wp2_with fail
  refine hAt.mono ?_
  rintro e w2 ⟨k2, (⟨j, x, rfl, hx, hxl⟩ | ⟨rfl, hnone⟩)⟩
  · rw [hxl] at hlk
    have kA : Kp [] w w2 := k1.trans k2 (by simp)
    have bb := bx.kept k2
    have d2 := bb.c2
    have d4 := bb.c4
    obtain ⟨g, o, ea, c0, c1, c2⟩ := (hr1.fls.kept k2 (by simp)).at hx
    simp only at ea
    have hjl : j < l.length := (List.getElem?_eq_some_iff.1 hx).1
    cases hde : d.dead with
    | true =>
      have hR : Hid (refusedD d call name to n = 44) := by show _ = _; simp [refusedD, hde]
      rw [hde] at d4
      clear hlk hx hxl hL hnm
      go_wp2_with fail
      go_ret
      exact ⟨by rw [hR.out]; rfl, kA⟩
    | false =>
      rw [hde] at d4
      by_cases h2 : call = 2
      · subst h2
        by_cases hn0 : n < 0
        · have hR : Hid (refusedD d 2 name to n = 43) := by show _ = _; simp [refusedD, hde, hlk, hn0]
          clear hlk hx hxl hL hnm
          go_wp2_with fail
          go_ret
          exact ⟨by rw [hR.out]; rfl, kA⟩
        · by_cases hn1 : (x.bytes.length : Int) < n
          · have hR : Hid (refusedD d 2 name to n = 43) := by show _ = _; simp [refusedD, hde, hlk, RF.fl, hn1]
            clear hlk hx hxl hL hnm
            subst ea
            go_wp2_with fail
            go_ret
            exact ⟨by rw [hR.out]; rfl, kA⟩
          · have hR : Hid (refusedD d 2 name to n = 0) := by show _ = _; simp [refusedD, hde, hlk, RF.fl]; omega
            clear hlk hx hxl hL hnm
            subst ea
            go_wp2_with fail
            go_ret
            exact ⟨by rw [hR.out]; rfl, kA⟩
      · have hc2 : (call == 2) = false := by simpa using h2
        by_cases h3 : call = 3
        · subst h3
          cases hok : nameOk to with
          | false =>
            have hR : Hid (refusedD d 3 name to n = 40) := by show _ = _; simp [refusedD, hde, hlk, hok]
            rw [hok] at hnm
            clear hlk hx hxl hL hok
            go_wp2_with fail
            refine (hnm _).mono ?_
            rintro e w3 ⟨rfl, rfl⟩
            go_wp2_with fail
            go_ret
            exact ⟨by rw [hR.out]; rfl, kA⟩
          | true =>
            have hR : Hid (refusedD d 3 name to n = 0) := by show _ = _; simp [refusedD, hde, hlk, hok]
            rw [hok] at hnm
            clear hlk hx hxl hL hok
            go_wp2_with fail
            refine (hnm _).mono ?_
            rintro e w3 ⟨rfl, rfl⟩
            go_wp2_with fail
            go_ret
            exact ⟨by rw [hR.out]; rfl, kA⟩
        · have hc3 : (call == 3) = false := by simpa using h3
          have hR : Hid (refusedD d call name to n = 0) := by show _ = _; simp [refusedD, hde, hlk, h2, h3]
          clear hlk hx hxl hL hnm h2 h3
          go_wp2_with fail
          go_ret
          exact ⟨by rw [hR.out]; rfl, kA⟩
  · rw [hnone] at hlk
    have kA : Kp [] w w2 := k1.trans k2 (by simp)
    have d4 := (bx.kept k2).c4
    cases hde : d.dead with
    | true =>
      have hR : Hid (refusedD d call name to n = 44) := by show _ = _; simp [refusedD, hde]
      rw [hde] at d4
      clear hlk hL hnm
      go_wp2_with fail
      go_ret
      exact ⟨by rw [hR.out]; rfl, kA⟩
    | false =>
      have hR : Hid (refusedD d call name to n = 42) := by show _ = _; simp [refusedD, hde, hlk]
      rw [hde] at d4
      clear hlk hL hnm
      go_wp2_with fail
      go_ret
      exact ⟨by rw [hR.out]; rfl, kA⟩
end Go.Proofs.Ytgllkonbgigcbaa
end

section
namespace Go.Proofs.Ytgllkonbgigcbaa
open Go.RowKit Go.Hay
set_option linter.unusedVariables false
set_option linter.unusedSimpArgs false

/-- A box of three cells. -/
structure B3 (w : World) (q : Nat) (a b c : Value) : Prop where
  c0 : w.cell? ⟨q, 0, none⟩ = some a
  c1 : w.cell? ⟨q, 1, none⟩ = some b
  c2 : w.cell? ⟨q, 2, none⟩ = some c
  free : ∀ j, w.frozen? ⟨q, j, none⟩ = false
theorem B3.at {w : World} (q : Nat) (hq : w.heap.size = q) (a b c : Value) (t : TypeId) : B3 (w.alloc (.cells #[a, b, c] t)) q a b c := by
  subst hq
  exact ⟨World.cell?_alloc_new w _ _ 0, World.cell?_alloc_new w _ _ 1, World.cell?_alloc_new w _ _ 2, fun j => World.frozen?_alloc_new w _ _ j⟩
theorem B3.lt {w : World} {q : Nat} {a b c : Value} (h : B3 w q a b c) : q < w.heap.size := World.block_lt_of_cell? _ _ h.c0
theorem B3.kept {w w' : World} {q : Nat} {a b c : Value} (h : B3 w q a b c) (hk : Kp [] w w') : B3 w' q a b c :=
  ⟨cell_kp hk h.c0, cell_kp hk h.c1, cell_kp hk h.c2, fun j => (hk.frozen (p := ⟨q, j, none⟩) h.lt (by simp)).trans (h.free j)⟩
theorem B3.set1 {w : World} {q : Nat} {a b c : Value} (h : B3 w q a b c) (u : Value) : B3 (w.setCell ⟨q, 1, none⟩ u) q a u c :=
  ⟨(setCell_off (by decide) _).trans h.c0, World.cell?_setCell_same _ _ _ h.c1, (setCell_off (by decide) _).trans h.c2, fun j => (World.frozen?_setCell _ _ _ _).trans (h.free j)⟩
theorem B3.set2 {w : World} {q : Nat} {a b c : Value} (h : B3 w q a b c) (u : Value) : B3 (w.setCell ⟨q, 2, none⟩ u) q a b u :=
  ⟨(setCell_off (by decide) _).trans h.c0, (setCell_off (by decide) _).trans h.c1, World.cell?_setCell_same _ _ _ h.c2, fun j => (World.frozen?_setCell _ _ _ _).trans (h.free j)⟩
theorem B3.set0 {w : World} {q : Nat} {a b c : Value} (h : B3 w q a b c) (u : Value) : B3 (w.setCell ⟨q, 0, none⟩ u) q u b c :=
  ⟨World.cell?_setCell_same _ _ _ h.c0, (setCell_off (by decide) _).trans h.c1, (setCell_off (by decide) _).trans h.c2, fun j => (World.frozen?_setCell _ _ _ _).trans (h.free j)⟩
theorem set3_ex {W : World} {q : Nat} {a0 b0 c0 : Value} (h : B3 W q a0 b0 c0) (a b c : Value) : ∃ W', ((W.setCell ⟨q, 0, none⟩ a).setCell ⟨q, 1, none⟩ b).setCell ⟨q, 2, none⟩ c = W' ∧ B3 W' q a b c ∧ Kp [q] W W' :=
  ⟨_, rfl, ((h.set0 a).set1 b).set2 c, (((Kp.refl [q] W).setCell (p := ⟨q, 0, none⟩) (by simp) a).setCell (p := ⟨q, 1, none⟩) (by simp) b).setCell (p := ⟨q, 2, none⟩) (by simp) c⟩
theorem kpSet (q j : Nat) (w : World) (u : Value) : Kp [q] w (w.setCell ⟨q, j, none⟩ u) := (Kp.refl _ _).setCell (p := ⟨q, j, none⟩) (by simp) u
theorem lens_sum {r : RD} {d : Dk} (h : Like r d) : lens r.l = sumF d.files := by
  rw [← h.files]
  simp [lens, sumF, Function.comp_def, RF.fl]
theorem Like.rise {r : RD} {d : Dk} (h : Like r d) (ho : Okd d) : riseG RF.name r.l := by
  have h1 := ho.rise
  rw [← h.files] at h1
  exact (riseG_map (nm := RF.name) (nm' := Fl.name) RF.fl (fun _ => rfl)).1 h1
/-- Files put into the reference. -/
theorem Like.put {r : RD} {d : Dk} (h : Like r d) (f : RF) (a : Option Addr) (c : Nat) : Like { r with fa := a, fc := c, l := putG RF.name f false r.l } { d with files := putG Fl.name f.fl false d.files } :=
  ⟨h.room, h.steps, by rw [← h.files]; exact putG_map (nm := RF.name) (nm' := Fl.name) RF.fl (fun _ => rfl) f false r.l, h.armed, h.dead, h.left, h.lo, h.hi⟩
theorem Like.drop {r : RD} {d : Dk} (h : Like r d) (k : List UInt8) (a : Option Addr) (c : Nat) : Like { r with fa := a, fc := c, l := dropG RF.name k r.l } { d with files := dropG Fl.name k d.files } :=
  ⟨h.room, h.steps, by rw [← h.files]; exact dropG_map (nm := RF.name) (nm' := Fl.name) RF.fl (fun _ => rfl) k r.l, h.armed, h.dead, h.left, h.lo, h.hi⟩
theorem RdOk.put {w w' : World} {r : RD} (hr : RdOk w r) (hri : riseG RF.name r.l) (hk : Kp [] w w') {f : RF} (hf : FSee w' f) {a : Option Addr} (c : Nat) (hfl : Fls w' a (putG RF.name f false r.l)) : RdOk w' { r with fa := a, fc := c, l := putG RF.name f false r.l } :=
  ⟨hfl, fun g hg => by
    rcases (mem_putG hri).1 hg with rfl | ⟨hg, _⟩
    · exact hf
    · exact ⟨(hr.see g hg).1.kept hk (by simp), (hr.see g hg).2⟩⟩
theorem foot_put {r : RD} (hri : riseG RF.name r.l) {f : RF} {a : Option Addr} (c : Nat) {n : Nat} (ha : ∀ k ∈ blk a, n ≤ k) (hf : ∀ k ∈ f.ft, k ∈ r.foot ∨ n ≤ k) : ∀ k ∈ ({ r with fa := a, fc := c, l := putG RF.name f false r.l } : RD).foot, k ∈ r.foot ∨ n ≤ k := fun k hk => by
  simp only [RD.foot, List.mem_append, List.mem_flatMap] at hk
  rcases hk with hk | ⟨g, hg, hk⟩
  · exact .inr (ha k (mem_ff hk))
  · rcases (mem_putG hri).1 hg with rfl | ⟨hg, _⟩
    · exact hf k hk
    · exact .inl (by simp only [RD.foot, List.mem_append, List.mem_flatMap]; exact .inr ⟨g, hg, hk⟩)
theorem foot_drop {r : RD} (k0 : List UInt8) {a : Option Addr} (c : Nat) {n : Nat} (ha : ∀ k ∈ blk a, n ≤ k) : ∀ k ∈ ({ r with fa := a, fc := c, l := dropG RF.name k0 r.l } : RD).foot, k ∈ r.foot ∨ n ≤ k := fun k hk => by
  simp only [RD.foot, List.mem_append, List.mem_flatMap] at hk
  rcases hk with hk | ⟨g, hg, hk⟩
  · exact .inr (ha k (mem_ff hk))
  · exact .inl (by simp only [RD.foot, List.mem_append, List.mem_flatMap]; exact .inr ⟨g, (mem_dropG.1 hg).1, hk⟩)
/-- The boxes of a call of the reference's: its disk, its answer. -/
theorem boxRR (r : RD) (w : World) : ∃ w1, (w.alloc (.cells #[.int .i64 r.room, .int .i64 r.steps, .slice r.fa r.l.length r.fc, .bool r.armed, .bool r.dead, .int .i64 r.left] 28)).alloc (.cells #[.int .i64 0, .int .i64 0, .slice none 0 0, .bool false, .bool false, .int .i64 0] 28) = w1 ∧ Kp [] w w1 ∧
    B6 w1 w.heap.size (.int .i64 r.room) (.int .i64 r.steps) (.slice r.fa r.l.length r.fc) (.bool r.armed) (.bool r.dead) (.int .i64 r.left) ∧ B6 w1 (w.heap.size + 1) (.int .i64 0) (.int .i64 0) (.slice none 0 0) (.bool false) (.bool false) (.int .i64 0) ∧ w.heap.size + 2 ≤ w1.heap.size :=
  ⟨_, rfl, ((Kp.refl _ _).alloc _).alloc _, (B6.at _ rfl _ _ _ _ _ _ _).kept ((Kp.refl _ _).alloc _), B6.at _ (by simp) _ _ _ _ _ _ _, by simp⟩
def RefE (T : List Nat) (x : Dk × Int) (w : World) (e : Ending) (w' : World) : Prop := ∃ v, e = .returned (.tuple #[v, .int .i64 x.2]) ∧ RefP T x.1 w v w'
/-- Refused: as it was. -/
theorem RefE.same {r : RD} {d : Dk} {w w' : World} (hr : RdOk w r) (hL : Like r d) (hk : Kp [] w w') {x : Dk × Int} {n : Int} (e : x = (d, n)) : RefE r.foot x w (.returned (.tuple #[.agg #[.int .i64 r.room, .int .i64 r.steps, .slice r.fa r.l.length r.fc, .bool r.armed, .bool r.dead, .int .i64 r.left], .int .i64 n])) w' := by
  subst e
  exact ⟨_, rfl, r, rfl, hr.keptNew hk, hL, hk, fun k hk => .inl hk⟩
end Go.Proofs.Ytgllkonbgigcbaa
end

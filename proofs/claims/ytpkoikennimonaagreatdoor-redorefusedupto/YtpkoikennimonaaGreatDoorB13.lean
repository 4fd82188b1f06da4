/- The reference's call Append. The reference's call Append: its walk. The reference's calls Do and Flip on a disk without files. The reference's call Do: refused, and at the step at which it dies. -/
import Derived.Test.YtpkoikennimonaaGreatDoorB12
section
namespace Go.Proofs.YtpkoikennimonaaGreatDoor
open Go.RowKit Go.Hay
set_option linter.unusedVariables false
set_option linter.unusedSimpArgs false

/-- A box of three cells. -/
structure B3 (w : World) (q : Nat) (a b c : Value) : Prop where
  c0 : w.cell? ⟨q, 0, none⟩ = some a
  c1 : w.cell? ⟨q, 1, none⟩ = some b
  c2 : w.cell? ⟨q, 2, none⟩ = some c
  free : ∀ j, w.frozen? ⟨q, j, none⟩ = false
theorem B3.at {w : World} (q : Nat) (hq : w.heap.size = q) (a b c : Value) (t : TypeId) : B3 (w.alloc (.cells #[a, b, c] t)) q a b c := by
  subst hq
  exact ⟨World.cell?_alloc_new w _ _ 0, World.cell?_alloc_new w _ _ 1, World.cell?_alloc_new w _ _ 2, fun j => World.frozen?_alloc_new w _ _ j⟩
theorem B3.lt {w : World} {q : Nat} {a b c : Value} (h : B3 w q a b c) : q < w.heap.size := World.block_lt_of_cell? _ _ h.c0
theorem B3.kept {w w' : World} {q : Nat} {a b c : Value} (h : B3 w q a b c) (hk : Kp [] w w') : B3 w' q a b c :=
  ⟨cell_kp hk h.c0, cell_kp hk h.c1, cell_kp hk h.c2, fun j => (hk.frozen (p := ⟨q, j, none⟩) h.lt (by simp)).trans (h.free j)⟩
theorem B3.set1 {w : World} {q : Nat} {a b c : Value} (h : B3 w q a b c) (u : Value) : B3 (w.setCell ⟨q, 1, none⟩ u) q a u c :=
  ⟨(setCell_off (by decide) _).trans h.c0, World.cell?_setCell_same _ _ _ h.c1, (setCell_off (by decide) _).trans h.c2, fun j => (World.frozen?_setCell _ _ _ _).trans (h.free j)⟩
theorem B3.set2 {w : World} {q : Nat} {a b c : Value} (h : B3 w q a b c) (u : Value) : B3 (w.setCell ⟨q, 2, none⟩ u) q a b u :=
  ⟨(setCell_off (by decide) _).trans h.c0, (setCell_off (by decide) _).trans h.c1, World.cell?_setCell_same _ _ _ h.c2, fun j => (World.frozen?_setCell _ _ _ _).trans (h.free j)⟩
theorem B3.set0 {w : World} {q : Nat} {a b c : Value} (h : B3 w q a b c) (u : Value) : B3 (w.setCell ⟨q, 0, none⟩ u) q u b c :=
  ⟨World.cell?_setCell_same _ _ _ h.c0, (setCell_off (by decide) _).trans h.c1, (setCell_off (by decide) _).trans h.c2, fun j => (World.frozen?_setCell _ _ _ _).trans (h.free j)⟩
theorem set3_ex {W : World} {q : Nat} {a0 b0 c0 : Value} (h : B3 W q a0 b0 c0) (a b c : Value) : ∃ W', ((W.setCell ⟨q, 0, none⟩ a).setCell ⟨q, 1, none⟩ b).setCell ⟨q, 2, none⟩ c = W' ∧ B3 W' q a b c ∧ Kp [q] W W' :=
  ⟨_, rfl, ((h.set0 a).set1 b).set2 c, (((Kp.refl [q] W).setCell (p := ⟨q, 0, none⟩) (by simp) a).setCell (p := ⟨q, 1, none⟩) (by simp) b).setCell (p := ⟨q, 2, none⟩) (by simp) c⟩
theorem kpSet (q j : Nat) (w : World) (u : Value) : Kp [q] w (w.setCell ⟨q, j, none⟩ u) := (Kp.refl _ _).setCell (p := ⟨q, j, none⟩) (by simp) u
theorem lens_sum {r : RD} {d : Dk} (h : Like r d) : lens r.l = sumF d.files := by
  rw [← h.files]
  simp [lens, sumF, Function.comp_def, RF.fl]
theorem Like.rise {r : RD} {d : Dk} (h : Like r d) (ho : Okd d) : riseG RF.name r.l := by
  have h1 := ho.rise
  rw [← h.files] at h1
  exact (riseG_map (nm := RF.name) (nm' := Fl.name) RF.fl (fun _ => rfl)).1 h1
/-- Files put into the reference. -/
theorem Like.put {r : RD} {d : Dk} (h : Like r d) (f : RF) (a : Option Addr) (c : Nat) : Like { r with fa := a, fc := c, l := putG RF.name f false r.l } { d with files := putG Fl.name f.fl false d.files } :=
  ⟨h.room, h.steps, by rw [← h.files]; exact putG_map (nm := RF.name) (nm' := Fl.name) RF.fl (fun _ => rfl) f false r.l, h.armed, h.dead, h.left, h.lo, h.hi⟩
theorem Like.drop {r : RD} {d : Dk} (h : Like r d) (k : List UInt8) (a : Option Addr) (c : Nat) : Like { r with fa := a, fc := c, l := dropG RF.name k r.l } { d with files := dropG Fl.name k d.files } :=
  ⟨h.room, h.steps, by rw [← h.files]; exact dropG_map (nm := RF.name) (nm' := Fl.name) RF.fl (fun _ => rfl) k r.l, h.armed, h.dead, h.left, h.lo, h.hi⟩
theorem RdOk.put {w w' : World} {r : RD} (hr : RdOk w r) (hri : riseG RF.name r.l) (hk : Kp [] w w') {f : RF} (hf : FSee w' f) {a : Option Addr} (c : Nat) (hfl : Fls w' a (putG RF.name f false r.l)) : RdOk w' { r with fa := a, fc := c, l := putG RF.name f false r.l } :=
  ⟨hfl, fun g hg => by
    rcases (mem_putG hri).1 hg with rfl | ⟨hg, _⟩
    · exact hf
    · exact ⟨(hr.see g hg).1.kept hk (by simp), (hr.see g hg).2⟩⟩
theorem foot_put {r : RD} (hri : riseG RF.name r.l) {f : RF} {a : Option Addr} (c : Nat) {n : Nat} (ha : ∀ k ∈ blk a, n ≤ k) (hf : ∀ k ∈ f.ft, k ∈ r.foot ∨ n ≤ k) : ∀ k ∈ ({ r with fa := a, fc := c, l := putG RF.name f false r.l } : RD).foot, k ∈ r.foot ∨ n ≤ k := fun k hk => by
  simp only [RD.foot, List.mem_append, List.mem_flatMap] at hk
  rcases hk with hk | ⟨g, hg, hk⟩
  · exact .inr (ha k (mem_ff hk))
  · rcases (mem_putG hri).1 hg with rfl | ⟨hg, _⟩
    · exact hf k hk
    · exact .inl (by simp only [RD.foot, List.mem_append, List.mem_flatMap]; exact .inr ⟨g, hg, hk⟩)
theorem foot_drop {r : RD} (k0 : List UInt8) {a : Option Addr} (c : Nat) {n : Nat} (ha : ∀ k ∈ blk a, n ≤ k) : ∀ k ∈ ({ r with fa := a, fc := c, l := dropG RF.name k0 r.l } : RD).foot, k ∈ r.foot ∨ n ≤ k := fun k hk => by
  simp only [RD.foot, List.mem_append, List.mem_flatMap] at hk
  rcases hk with hk | ⟨g, hg, hk⟩
  · exact .inr (ha k (mem_ff hk))
  · exact .inl (by simp only [RD.foot, List.mem_append, List.mem_flatMap]; exact .inr ⟨g, (mem_dropG.1 hg).1, hk⟩)
/-- The boxes of a call of the reference's: its disk, its answer. -/
theorem boxRR (r : RD) (w : World) : ∃ w1, (w.alloc (.cells #[.int .i64 r.room, .int .i64 r.steps, .slice r.fa r.l.length r.fc, .bool r.armed, .bool r.dead, .int .i64 r.left] 27)).alloc (.cells #[.int .i64 0, .int .i64 0, .slice none 0 0, .bool false, .bool false, .int .i64 0] 27) = w1 ∧ Kp [] w w1 ∧
    B6 w1 w.heap.size (.int .i64 r.room) (.int .i64 r.steps) (.slice r.fa r.l.length r.fc) (.bool r.armed) (.bool r.dead) (.int .i64 r.left) ∧ B6 w1 (w.heap.size + 1) (.int .i64 0) (.int .i64 0) (.slice none 0 0) (.bool false) (.bool false) (.int .i64 0) ∧ w.heap.size + 2 ≤ w1.heap.size :=
  ⟨_, rfl, ((Kp.refl _ _).alloc _).alloc _, (B6.at _ rfl _ _ _ _ _ _ _).kept ((Kp.refl _ _).alloc _), B6.at _ (by simp) _ _ _ _ _ _ _, by simp⟩
def RefE (T : List Nat) (x : Dk × Int) (w : World) (e : Ending) (w' : World) : Prop := ∃ v, e = .returned (.tuple #[v, .int .i64 x.2]) ∧ RefP T x.1 w v w'
/-- Refused: as it was. -/
theorem RefE.same {r : RD} {d : Dk} {w w' : World} (hr : RdOk w r) (hL : Like r d) (hk : Kp [] w w') {x : Dk × Int} {n : Int} (e : x = (d, n)) : RefE r.foot x w (.returned (.tuple #[.agg #[.int .i64 r.room, .int .i64 r.steps, .slice r.fa r.l.length r.fc, .bool r.armed, .bool r.dead, .int .i64 r.left], .int .i64 n])) w' := by
  subst e
  exact ⟨_, rfl, r, rfl, hr.keptNew hk, hL, hk, fun k hk => .inl hk⟩
end Go.Proofs.YtpkoikennimonaaGreatDoor
end

section
namespace Go.Proofs.YtpkoikennimonaaGreatDoor
open Go.RowKit Go.Hay
set_option linter.unusedVariables false
set_option linter.unusedSimpArgs false

set_option maxHeartbeats 16000000 in
set_option maxRecDepth 100000 in
theorem cRefAppendD (room steps : Int) (fa : Option Addr) (fc : Nat) (l : List RF) (armed : Bool) (left : Int) (d : Dk) (w : World) (hr : RdOk w (⟨room, steps, fa, fc, l, armed, true, left⟩ : RD)) (hL : Like (⟨room, steps, fa, fc, l, armed, true, left⟩ : RD) d) (ho : Okd d) (hl : l.length ≤ 1000000000) (hst : d.steps < 9000000000000000000) (name : List UInt8) (hk : name.length ≤ maxLen) (ab : Option Addr) (cb : Nat) (b : List UInt8) (hb : Sees w ab b)
    (hlen : (fileOf d.files name).bytes.length + b.length ≤ 140737488355328) :
    Calls Tryz.prog 41 #[.agg #[.int .i64 room, .int .i64 steps, .slice fa l.length fc, .bool armed, .bool true, .int .i64 left], .string ⟨name.toArray⟩, .slice ab b.length cb] w (RefE ((⟨room, steps, fa, fc, l, armed, true, left⟩ : RD)).foot (appendD d name b) w) := by
  obtain ⟨w1, hw1, k1, bx, br, hsz⟩ := boxRR (⟨room, steps, fa, fc, l, armed, true, left⟩ : RD) w
  simp only at hw1 bx
  have hde : d.dead = true := hL.dead.symm
  have hsame : ∀ W, Kp [] w W → ∀ {n : Int}, appendD d name b = (d, n) → RefE ((⟨room, steps, fa, fc, l, armed, true, left⟩ : RD)).foot (appendD d name b) w (.returned (.tuple #[.agg #[.int .i64 room, .int .i64 steps, .slice fa l.length fc, .bool armed, .bool true, .int .i64 left], .int .i64 n])) W := fun W hkW n e => RefE.same hr hL hkW e
  have b0 := bx.c0; have b1 := bx.c1; have b2 := bx.c2; have b3 := bx.c3; have b4 := bx.c4; have b5 := bx.c5
  have r0 := br.c0; have r1 := br.c1; have r2 := br.c2; have r3 := br.c3; have r4 := br.c4; have r5 := br.c5
  have g0 := br.free 0; have g1 := br.free 1; have g2 := br.free 2; have g3 := br.free 3; have g4 := br.free 4; have g5 := br.free 5
  have e44 : appendD d name b = (d, 44) := by simp [appendD, hde]
  have hs2 := fun W hW => hsame W hW e44
  clear hde e44 hsame
  go_enter Tryz.func41, Tryz.ntmps41
  go_wp2_with fail
  obtain ⟨W', hW', hb6, kW'⟩ := set6_ex br (.int .i64 room) (.int .i64 steps) (.slice fa l.length fc) (.bool armed) (.bool true) (.int .i64 left)
  rw [hW']
  obtain ⟨z0, z1, z2, z3, z4, z5, _⟩ := hb6
  refine bodyPost_ret (v := .tuple #[.agg #[.int .i64 room, .int .i64 steps, .slice fa l.length fc, .bool armed, .bool true, .int .i64 left], .int .i64 44]) (by simp [results, Tryz.results41, go_sem, z0, z1, z2, z3, z4, z5]) rfl ?_
  exact hs2 _ (k1.trans kW' (fun x hx => .inr (by simp at hx; omega)))

set_option maxHeartbeats 16000000 in
set_option maxRecDepth 100000 in
theorem cRefAppendL (room steps : Int) (fa : Option Addr) (fc : Nat) (l : List RF) (armed : Bool) (left : Int) (d : Dk) (w : World) (hr : RdOk w (⟨room, steps, fa, fc, l, armed, false, left⟩ : RD)) (hL : Like (⟨room, steps, fa, fc, l, armed, false, left⟩ : RD) d) (ho : Okd d) (hl : l.length ≤ 1000000000) (hst : d.steps < 9000000000000000000) (name : List UInt8) (hk : name.length ≤ maxLen) (ab : Option Addr) (cb : Nat) (b : List UInt8) (hb : Sees w ab b)
    (hlen : (fileOf d.files name).bytes.length + b.length ≤ 140737488355328) :
    Calls Tryz.prog 41 #[.agg #[.int .i64 room, .int .i64 steps, .slice fa l.length fc, .bool armed, .bool false, .int .i64 left], .string ⟨name.toArray⟩, .slice ab b.length cb] w (RefE ((⟨room, steps, fa, fc, l, armed, false, left⟩ : RD)).foot (appendD d name b) w) := by
  obtain ⟨w1, hw1, k1, bx, br, hsz⟩ := boxRR (⟨room, steps, fa, fc, l, armed, false, left⟩ : RD) w
  simp only at hw1 bx
  have hde : d.dead = false := hL.dead.symm
  have hsame : ∀ W, Kp [] w W → ∀ {n : Int}, appendD d name b = (d, n) → RefE ((⟨room, steps, fa, fc, l, armed, false, left⟩ : RD)).foot (appendD d name b) w (.returned (.tuple #[.agg #[.int .i64 room, .int .i64 steps, .slice fa l.length fc, .bool armed, .bool false, .int .i64 left], .int .i64 n])) W := fun W hkW n e => RefE.same hr hL hkW e
  have b0 := bx.c0; have b1 := bx.c1; have b2 := bx.c2; have b3 := bx.c3; have b4 := bx.c4; have b5 := bx.c5
  have r0 := br.c0; have r1 := br.c1; have r2 := br.c2; have r3 := br.c3; have r4 := br.c4; have r5 := br.c5
  have g0 := br.free 0; have g1 := br.free 1; have g2 := br.free 2; have g3 := br.free 3; have g4 := br.free 4; have g5 := br.free 5
  have hr1 := hr.keptNew k1
  have hri := hL.rise ho
  have hlk := hL.look name
  have hroom := hL.room
  have hstep := hL.steps
  have hls := lens_sum hL
  have hor := ho.room
  have hos := ho.sum
  simp only at hri hlk hroom hstep hls
  have hnm : ∀ w, Calls Tryz.prog 66 #[.string ⟨name.toArray⟩] w fun e w' => e = .returned (.bool (nameOk name)) ∧ w' = w := fun w => cRefName ⟨name.toArray⟩ w (by simpa [ByteArray.size] using hk)
  have hfree := cRefFree (⟨room, steps, fa, fc, l, armed, false, left⟩ : RD) w1 hr1 (by simp only; omega) (by simp only; omega) (by simp only; omega) (by simp only; omega)
  have hfe : room - (lens l : Int) = freeD d := by rw [hroom, hls]; rfl
  simp only [RD.v] at hfree
  rw [hfe] at hfree
  have hWith : ∀ (f : RF) (W : World), RdOk W (⟨room, steps, fa, fc, l, armed, false, left⟩ : RD) → Calls Tryz.prog 64 #[.agg #[.int .i64 room, .int .i64 steps, .slice fa l.length fc, .bool armed, .bool false, .int .i64 left], f.v] W (WithP (⟨room, steps, fa, fc, l, armed, false, left⟩ : RD) (putG RF.name f false l) W) := fun f W h => cWith (⟨room, steps, fa, fc, l, armed, false, left⟩ : RD) f W h hl
  have hAt : ∀ W, RdOk W (⟨room, steps, fa, fc, l, armed, false, left⟩ : RD) → Calls Tryz.prog 38 #[.agg #[.int .i64 room, .int .i64 steps, .slice fa l.length fc, .bool armed, .bool false, .int .i64 left], .string ⟨name.toArray⟩] W (AtP l name W) := fun W h => cAt (⟨room, steps, fa, fc, l, armed, false, left⟩ : RD) name W h (by simp only; omega)
  have Hde := hid hde
  have Hroom := hid hroom
  have Hstep := hid hstep
  have Hlk := hid hlk
  clear hroom hfe hls hlk
  go_enter Tryz.func41, Tryz.ntmps41
  cases hn : nameOk name with
  | false =>
    have e40 : appendD d name b = (d, 40) := by simp [appendD, hde, hn]
    have hs2 := fun W hW => hsame W hW e40
    rw [hn] at hnm
    clear hde e40 hsame hn hstep
    go_wp2_with fail
    refine (hnm _).mono ?_
    rintro e w2 ⟨rfl, rfl⟩
    go_wp2_with fail
    obtain ⟨W', hW', hb6, kW'⟩ := set6_ex br (.int .i64 room) (.int .i64 steps) (.slice fa l.length fc) (.bool armed) (.bool false) (.int .i64 left)
    rw [hW']
    obtain ⟨z0, z1, z2, z3, z4, z5, _⟩ := hb6
    refine bodyPost_ret (v := .tuple #[.agg #[.int .i64 room, .int .i64 steps, .slice fa l.length fc, .bool armed, .bool false, .int .i64 left], .int .i64 40]) (by simp [results, Tryz.results41, go_sem, z0, z1, z2, z3, z4, z5]) rfl ?_
    exact hs2 _ (k1.trans kW' (fun x hx => .inr (by simp at hx; omega)))
  | true =>
    rw [hn] at hnm
    by_cases hfull : freeD d < (b.length : Int)
    · have e41 : appendD d name b = (d, 41) := by simp [appendD, hde, hn, hfull]
      have hs2 := fun W hW => hsame W hW e41
      clear hde e41 hsame hn hstep
      go_wp2_with fail
      refine (hnm _).mono ?_
      rintro e w2 ⟨rfl, rfl⟩
      go_wp2_with fail
      refine hfree.mono ?_
      rintro e w3 ⟨rfl, k3⟩
      have bb := bx.kept k3
      have rr := br.kept k3
      have q0 := bb.c0; have q1 := bb.c1; have q2 := bb.c2; have q3 := bb.c3; have q4 := bb.c4; have q5 := bb.c5
      have s0 := rr.c0; have s1 := rr.c1; have s2 := rr.c2; have s3 := rr.c3; have s4 := rr.c4; have s5 := rr.c5
      have t0 := rr.free 0; have t1 := rr.free 1; have t2 := rr.free 2; have t3 := rr.free 3; have t4 := rr.free 4; have t5 := rr.free 5
      go_wp2_with fail
      obtain ⟨W', hW', hb6, kW'⟩ := set6_ex rr (.int .i64 room) (.int .i64 steps) (.slice fa l.length fc) (.bool armed) (.bool false) (.int .i64 left)
      rw [hW']
      obtain ⟨z0, z1, z2, z3, z4, z5, _⟩ := hb6
      refine bodyPost_ret (v := .tuple #[.agg #[.int .i64 room, .int .i64 steps, .slice fa l.length fc, .bool armed, .bool false, .int .i64 left], .int .i64 41]) (by simp [results, Tryz.results41, go_sem, z0, z1, z2, z3, z4, z5]) rfl ?_
      exact hs2 _ ((k1.trans k3 (by simp)).trans kW' (fun x hx => .inr (by simp at hx; omega)))
    · have hap := append_done (b := b) hde hn (by omega)
      have Hap := hid hap
      clear hde hap hsame hn hstep
      go_wp2_with fail
      refine (hnm _).mono ?_
      rintro e w2 ⟨rfl, rfl⟩
      go_wp2_with fail
      refine hfree.mono ?_
      rintro e w3 ⟨rfl, k3⟩
      obtain ⟨w4, hw4⟩ : ∃ w4, Hid (w3.alloc (.cells #[.string ⟨name.toArray⟩, .slice none 0 0, .int .i64 0] 68) = w4) := ⟨_, rfl⟩
      have k4 : Kp [] w3 w4 := by rw [← hw4.out]; exact (Kp.refl _ _).alloc _
      have bf : B3 w4 w3.heap.size (.string ⟨name.toArray⟩) (.slice none 0 0) (.int .i64 0) := by rw [← hw4.out]; exact B3.at _ rfl _ _ _ _
      have k14 : Kp [] w2 w4 := k3.trans k4 (by simp)
      have bb := bx.kept k3
      have q0 := bb.c0; have q1 := bb.c1; have q2 := bb.c2; have q3 := bb.c3; have q4 := bb.c4; have q5 := bb.c5
      have aAt := hAt w4 (hr1.keptNew k14)
      have hs3 : w2.heap.size ≤ w3.heap.size := k3.size
      have hs4 : w.heap.size < w3.heap.size := by omega
      go_wp2_with fail
      rw [hw4.out]
      refine aAt.mono ?_
      rintro e w5 ⟨k5, (⟨j, x, rfl, hx, hxl⟩ | ⟨rfl, hnone⟩)⟩
      · have hxm : x ∈ l := List.mem_of_getElem? hx
        have hlx := Hlk.out
        rw [hxl] at hlx
        have hfo : fileOf d.files name = RF.fl x := fileOf_some hlx
        rw [hfo] at hlen
        simp only [RF.fl] at hlen
        have kw5 : Kp [] w w5 := (k1.trans k14 (by simp)).trans k5 (by simp)
        have hr5 := hr.keptNew kw5
        obtain ⟨g, o, ea, c0, c1, c2⟩ := hr5.fls.at hx
        simp only at ea
        subst ea
        have hjl : j < l.length := (List.getElem?_eq_some_iff.1 hx).1
        have bf5 := bf.kept k5
        have hq3' : w3.heap.size < w5.heap.size := bf5.lt
        obtain ⟨w55, hw55, bfx, k55⟩ := set3_ex bf5 (.string ⟨x.name.toArray⟩) (.slice x.ba x.bytes.length x.bc) (.int .i64 (x.last : Int))
        have f0 := bf5.c0; have f1 := bf5.c1; have f2 := bf5.c2
        have ff0 := bf5.free 0; have ff1 := bf5.free 1; have ff2 := bf5.free 2
        have m1 := bfx.c1
        have bb5 := bx.kept (k14.trans k5 (by simp))
        have y2 := bb5.c2
        have kb55 : Kp [] w2 w55 := (k14.trans k5 (by simp)).trans k55 (fun x hx => .inr (by simp at hx; omega))
        have kw55 : Kp [] w w55 := kw5.trans k55 (fun x hx => .inr (by simp at hx; omega))
        have hseex := hr.see x hxm
        have hjo := cJoined x.ba ab x.bc cb x.bytes b w55 (hseex.1.kept kw55 (by simp)) (hb.kept kw55 (by simp)) (by omega)
        have hq3 : w3.heap.size < w55.heap.size := bfx.lt
        clear hxl Hlk hlen hlx hx
        go_wp2_with fail
        refine hjo.mono ?_
        rintro e w6 ⟨ja, jc, rfl, hj6, k6, hjn⟩
        obtain ⟨ys, hys⟩ : ∃ ys, Hid (ys = x.bytes ++ b) := ⟨_, rfl⟩
        rw [← hys.out] at hj6 ⊢
        have bf6 := bfx.kept k6
        have p1 := bf6.c1
        have pf1 := bf6.free 1
        obtain ⟨w7, hw7⟩ : ∃ w7, w6.setCell ⟨w3.heap.size, 1, none⟩ (.slice ja ys.length jc) = w7 := ⟨_, rfl⟩
        have bf7 : B3 w7 w3.heap.size (.string ⟨x.name.toArray⟩) (.slice ja ys.length jc) (.int .i64 (x.last : Int)) := by rw [← hw7]; exact bf6.set1 _
        have k67 : Kp [w3.heap.size] w6 w7 := by rw [← hw7]; exact kpSet _ _ _ _
        have kw7 : Kp [] w w7 := (kw55.trans k6 (by simp)).trans k67 (fun x hx => .inr (by simp at hx; omega))
        have kb7 : Kp [] w2 w7 := (kb55.trans k6 (by simp)).trans k67 (fun x hx => .inr (by simp at hx; omega))
        have bb7 := bx.kept kb7
        have rr7 := br.kept kb7
        have y0 := bb7.c0; have y1 := bb7.c1; have y2 := bb7.c2; have y3 := bb7.c3; have y4 := bb7.c4; have y5 := bb7.c5
        have n0 := bf7.c0; have n1 := bf7.c1; have n2 := bf7.c2
        have aW := hWith ⟨x.name, ja, jc, ys, x.last⟩ w7 (hr.keptNew kw7)
        simp only [RF.v] at aW
        have hLp := hL.put ⟨x.name, ja, jc, ys, x.last⟩
        have hG : grownF d.files name b = putG Fl.name (RF.fl ⟨x.name, ja, jc, ys, x.last⟩) false d.files := by rw [hys.out]; simp only [grownF, hfo]; rfl
        rw [hG] at Hap
        have hfsee : ∀ W, Kp [] w6 W ∨ (∃ S, Kp S w6 W ∧ ∀ k ∈ blk ja, k ∉ S) → FSee W ⟨x.name, ja, jc, ys, x.last⟩ := fun W h => by
          obtain ⟨_, _, ej, hsj, hnj, hcj⟩ := Row.partsM hj6
          cases ej
          rcases h with h | ⟨S, h, hS⟩
          · exact ⟨hsj.kept h (by simp), hnj, hcj⟩
          · exact ⟨hsj.kept h hS, hnj, hcj⟩
        clear hG hfo hjo
        go_wp2_with fail
        refine aW.mono ?_
        rintro e w8 ⟨a2, c2, rfl, hfl8, k8, ha2⟩
        have aS := cRefStep { (⟨room, steps, some ⟨g, o, none⟩, fc, l, armed, false, left⟩ : RD) with fa := a2, fc := c2, l := putG RF.name ⟨x.name, ja, jc, ys, x.last⟩ false l } w8 (by simp only; have := Hstep.out; omega)
        have hls := like_step (hLp a2 c2)
        have hsf := stepR_files { (⟨room, steps, some ⟨g, o, none⟩, fc, l, armed, false, left⟩ : RD) with fa := a2, fc := c2, l := putG RF.name ⟨x.name, ja, jc, ys, x.last⟩ false l }
        have hsw := stepD_with d (putG Fl.name (RF.fl ⟨x.name, ja, jc, ys, x.last⟩) false d.files)
        rw [hsw] at hls
        simp only at hls
        go_wp2_with fail
        refine aS.mono ?_
        rintro e w9 ⟨rfl, k9⟩
        generalize stepR { (⟨room, steps, some ⟨g, o, none⟩, fc, l, armed, false, left⟩ : RD) with fa := a2, fc := c2, l := putG RF.name ⟨x.name, ja, jc, ys, x.last⟩ false l } = sr at hls hsf ⊢
        obtain ⟨⟨room3, steps3, fa3, fc3, l3, armed3, dead3, left3⟩, dies⟩ := sr
        simp only at hls hsf
        obtain ⟨hL3, hdies⟩ := hls
        obtain ⟨ef3, el3⟩ := hsf
        have Hef := hid ef3
        have Hel := hid el3
        have Hdies := hid hdies
        simp only [RD.v]
        have kb9 : Kp [] w2 w9 := (kb7.trans k8 (by simp)).trans k9 (by simp)
        have bb9 := bx.kept kb9
        have rr9 := br.kept kb9
        obtain ⟨W1, hW1, hB1, kW1⟩ := set6_ex bb9 (.int .i64 room3) (.int .i64 steps3) (.slice fa3 l3.length fc3) (.bool armed3) (.bool dead3) (.int .i64 left3)
        have rrW := rr9.keptS kW1 (by simp)
        have p0 := bb9.c0; have p1 := bb9.c1; have p2 := bb9.c2; have p3 := bb9.c3; have p4 := bb9.c4; have p5 := bb9.c5
        have t0 := bb9.free 0; have t1 := bb9.free 1; have t2 := bb9.free 2; have t3 := bb9.free 3; have t4 := bb9.free 4; have t5 := bb9.free 5
        have u0 := hB1.c0; have u1 := hB1.c1; have u2 := hB1.c2; have u3 := hB1.c3; have u4 := hB1.c4; have u5 := hB1.c5
        have x0 := rrW.c0; have x1 := rrW.c1; have x2 := rrW.c2; have x3 := rrW.c3; have x4 := rrW.c4; have x5 := rrW.c5
        have h0 := rrW.free 0; have h1 := rrW.free 1; have h2 := rrW.free 2; have h3 := rrW.free 3; have h4 := rrW.free 4; have h5 := rrW.free 5
        obtain ⟨W2, hW2, hB2, kW2⟩ := set6_ex rrW (.int .i64 room3) (.int .i64 steps3) (.slice fa3 l3.length fc3) (.bool armed3) (.bool dead3) (.int .i64 left3)
        have kEnd : Kp [w.heap.size, w.heap.size + 1] w9 W2 := (kW1.mono (T := [w.heap.size, w.heap.size + 1]) (fun x hx => .inl (by simp at hx; simp [hx]))).trans kW2 (fun x hx => .inl (by simp at hx; simp [hx]))
        have kw9 : Kp [] w w9 := (kw7.trans k8 (by simp)).trans k9 (by simp)
        have kwE : Kp [] w W2 := kw9.trans kEnd (fun x hx => .inr (by simp at hx; omega))
        have hs7 : w6.heap.size ≤ w7.heap.size := k67.size
        have hs56 : w55.heap.size ≤ w6.heap.size := k6.size
        have hFin : RefE ((⟨room, steps, some ⟨g, o, none⟩, fc, l, armed, false, left⟩ : RD)).foot (appendD d name b) w (.returned (.tuple #[.agg #[.int .i64 room3, .int .i64 steps3, .slice fa3 l3.length fc3, .bool armed3, .bool dead3, .int .i64 left3], .int .i64 (if dies then 44 else 0)])) W2 := by
          rw [Hap.out, ← Hdies.out]
          refine ⟨_, rfl, ⟨room3, steps3, fa3, fc3, l3, armed3, dead3, left3⟩, rfl, ?_, hL3, kwE, ?_⟩
          · have h1 : RdOk W2 { (⟨room, steps, some ⟨g, o, none⟩, fc, l, armed, false, left⟩ : RD) with fa := a2, fc := c2, l := putG RF.name ⟨x.name, ja, jc, ys, x.last⟩ false l } := hr.put hri kwE (hfsee W2 (.inr ⟨[w3.heap.size, w.heap.size, w.heap.size + 1], ?_, fun k hk hm => ?_⟩)) c2 ((hfl8.kept k9 (by simp)).kept kEnd (fun k hk hm => ?_))
            · exact h1.files Hef.out Hel.out
            · refine ((k67.mono (T := [w3.heap.size, w.heap.size, w.heap.size + 1]) (fun x hx => .inl (by simp at hx; simp [hx]))).trans (k8.trans k9 (by simp)) (by simp)).trans kEnd (fun x hx => .inl ?_)
              simp at hx ⊢
              omega
            · have := hjn k hk
              simp at hm
              omega
            · have := ha2 k hk
              simp at hm
              omega
          · intro k hk
            rw [foot_same (r := { (⟨room, steps, some ⟨g, o, none⟩, fc, l, armed, false, left⟩ : RD) with fa := a2, fc := c2, l := putG RF.name ⟨x.name, ja, jc, ys, x.last⟩ false l }) Hef.out Hel.out] at hk
            exact foot_put hri c2 (n := w.heap.size) (fun k hk => by have := ha2 k hk; omega) (fun k hk => .inr (by have := hjn k (mem_ft hk); omega)) k hk
        clear hL3 hdies ef3 el3 Hef Hel Hdies hfl8 hfsee hLp
        obtain ⟨z0, z1, z2, z3, z4, z5, _⟩ := hB2
        cases dies
        · go_wp2_with fail
          exact bodyPost_ret (v := .tuple #[.agg #[.int .i64 room3, .int .i64 steps3, .slice fa3 l3.length fc3, .bool armed3, .bool dead3, .int .i64 left3], .int .i64 0]) (by simp [results, Tryz.results41, go_sem, z0, z1, z2, z3, z4, z5]) rfl hFin
        · go_wp2_with fail
          exact bodyPost_ret (v := .tuple #[.agg #[.int .i64 room3, .int .i64 steps3, .slice fa3 l3.length fc3, .bool armed3, .bool dead3, .int .i64 left3], .int .i64 44]) (by simp [results, Tryz.results41, go_sem, z0, z1, z2, z3, z4, z5]) rfl hFin
      · -- there is none of that name
        rw [hnone] at Hlk
        have hfo : fileOf d.files name = ⟨name, [], 0⟩ := fileOf_none Hlk.out
        have kw5 : Kp [] w w5 := (k1.trans k14 (by simp)).trans k5 (by simp)
        have bfx := bf.kept k5
        have f0 := bfx.c0; have f1 := bfx.c1; have f2 := bfx.c2
        have ff1 := bfx.free 1
        have bb5 := bx.kept (k14.trans k5 (by simp))
        have rr5 := br.kept (k14.trans k5 (by simp))
        have hjo := cJoined none ab 0 cb [] b w5 (.inl rfl) (hb.kept kw5 (by simp)) (by simp; omega)
        have hq3 : w3.heap.size < w5.heap.size := bfx.lt
        clear hnone Hlk hlen
        simp only [List.length_nil] at hjo
        go_wp2_with fail
        refine hjo.mono ?_
        rintro e w6 ⟨ja, jc, rfl, hj6, k6, hjn⟩
        simp only [List.nil_append] at hj6 ⊢
        have bf6 := bfx.kept k6
        have p1 := bf6.c1
        have pf1 := bf6.free 1
        obtain ⟨w7, hw7⟩ : ∃ w7, w6.setCell ⟨w3.heap.size, 1, none⟩ (.slice ja b.length jc) = w7 := ⟨_, rfl⟩
        have bf7 : B3 w7 w3.heap.size (.string ⟨name.toArray⟩) (.slice ja b.length jc) (.int .i64 0) := by rw [← hw7]; exact bf6.set1 _
        have k67 : Kp [w3.heap.size] w6 w7 := by rw [← hw7]; exact kpSet _ _ _ _
        have kw7 : Kp [] w w7 := (kw5.trans k6 (by simp)).trans k67 (fun x hx => .inr (by simp at hx; omega))
        have kb7 : Kp [] w2 w7 := ((k14.trans k5 (by simp)).trans k6 (by simp)).trans k67 (fun x hx => .inr (by simp at hx; omega))
        have bb7 := bx.kept kb7
        have rr7 := br.kept kb7
        have y0 := bb7.c0; have y1 := bb7.c1; have y2 := bb7.c2; have y3 := bb7.c3; have y4 := bb7.c4; have y5 := bb7.c5
        have n0 := bf7.c0; have n1 := bf7.c1; have n2 := bf7.c2
        have aW := hWith ⟨name, ja, jc, b, 0⟩ w7 (hr.keptNew kw7)
        simp only [RF.v] at aW
        have hLp := hL.put ⟨name, ja, jc, b, 0⟩
        have hG : grownF d.files name b = putG Fl.name (RF.fl ⟨name, ja, jc, b, 0⟩) false d.files := by simp only [grownF, hfo]; rfl
        rw [hG] at Hap
        have hfsee : ∀ W, Kp [] w6 W ∨ (∃ S, Kp S w6 W ∧ ∀ k ∈ blk ja, k ∉ S) → FSee W ⟨name, ja, jc, b, 0⟩ := fun W h => by
          obtain ⟨_, _, ej, hsj, hnj, hcj⟩ := Row.partsM hj6
          cases ej
          rcases h with h | ⟨S, h, hS⟩
          · exact ⟨hsj.kept h (by simp), hnj, hcj⟩
          · exact ⟨hsj.kept h hS, hnj, hcj⟩
        clear hG hfo hjo
        go_wp2_with fail
        refine aW.mono ?_
        rintro e w8 ⟨a2, c2, rfl, hfl8, k8, ha2⟩
        have aS := cRefStep { (⟨room, steps, fa, fc, l, armed, false, left⟩ : RD) with fa := a2, fc := c2, l := putG RF.name ⟨name, ja, jc, b, 0⟩ false l } w8 (by simp only; have := Hstep.out; omega)
        have hls := like_step (hLp a2 c2)
        have hsf := stepR_files { (⟨room, steps, fa, fc, l, armed, false, left⟩ : RD) with fa := a2, fc := c2, l := putG RF.name ⟨name, ja, jc, b, 0⟩ false l }
        have hsw := stepD_with d (putG Fl.name (RF.fl ⟨name, ja, jc, b, 0⟩) false d.files)
        rw [hsw] at hls
        simp only at hls
        go_wp2_with fail
        refine aS.mono ?_
        rintro e w9 ⟨rfl, k9⟩
        generalize stepR { (⟨room, steps, fa, fc, l, armed, false, left⟩ : RD) with fa := a2, fc := c2, l := putG RF.name ⟨name, ja, jc, b, 0⟩ false l } = sr at hls hsf ⊢
        obtain ⟨⟨room3, steps3, fa3, fc3, l3, armed3, dead3, left3⟩, dies⟩ := sr
        simp only at hls hsf
        obtain ⟨hL3, hdies⟩ := hls
        obtain ⟨ef3, el3⟩ := hsf
        have Hef := hid ef3
        have Hel := hid el3
        have Hdies := hid hdies
        simp only [RD.v]
        have kb9 : Kp [] w2 w9 := (kb7.trans k8 (by simp)).trans k9 (by simp)
        have bb9 := bx.kept kb9
        have rr9 := br.kept kb9
        obtain ⟨W1, hW1, hB1, kW1⟩ := set6_ex bb9 (.int .i64 room3) (.int .i64 steps3) (.slice fa3 l3.length fc3) (.bool armed3) (.bool dead3) (.int .i64 left3)
        have rrW := rr9.keptS kW1 (by simp)
        have p0 := bb9.c0; have p1 := bb9.c1; have p2 := bb9.c2; have p3 := bb9.c3; have p4 := bb9.c4; have p5 := bb9.c5
        have t0 := bb9.free 0; have t1 := bb9.free 1; have t2 := bb9.free 2; have t3 := bb9.free 3; have t4 := bb9.free 4; have t5 := bb9.free 5
        have u0 := hB1.c0; have u1 := hB1.c1; have u2 := hB1.c2; have u3 := hB1.c3; have u4 := hB1.c4; have u5 := hB1.c5
        have x0 := rrW.c0; have x1 := rrW.c1; have x2 := rrW.c2; have x3 := rrW.c3; have x4 := rrW.c4; have x5 := rrW.c5
        have h0 := rrW.free 0; have h1 := rrW.free 1; have h2 := rrW.free 2; have h3 := rrW.free 3; have h4 := rrW.free 4; have h5 := rrW.free 5
        obtain ⟨W2, hW2, hB2, kW2⟩ := set6_ex rrW (.int .i64 room3) (.int .i64 steps3) (.slice fa3 l3.length fc3) (.bool armed3) (.bool dead3) (.int .i64 left3)
        have kEnd : Kp [w.heap.size, w.heap.size + 1] w9 W2 := (kW1.mono (T := [w.heap.size, w.heap.size + 1]) (fun x hx => .inl (by simp at hx; simp [hx]))).trans kW2 (fun x hx => .inl (by simp at hx; simp [hx]))
        have kw9 : Kp [] w w9 := (kw7.trans k8 (by simp)).trans k9 (by simp)
        have kwE : Kp [] w W2 := kw9.trans kEnd (fun x hx => .inr (by simp at hx; omega))
        have hs7 : w6.heap.size ≤ w7.heap.size := k67.size
        have hs56 : w5.heap.size ≤ w6.heap.size := k6.size
        have hFin : RefE ((⟨room, steps, fa, fc, l, armed, false, left⟩ : RD)).foot (appendD d name b) w (.returned (.tuple #[.agg #[.int .i64 room3, .int .i64 steps3, .slice fa3 l3.length fc3, .bool armed3, .bool dead3, .int .i64 left3], .int .i64 (if dies then 44 else 0)])) W2 := by
          rw [Hap.out, ← Hdies.out]
          refine ⟨_, rfl, ⟨room3, steps3, fa3, fc3, l3, armed3, dead3, left3⟩, rfl, ?_, hL3, kwE, ?_⟩
          · have h1 : RdOk W2 { (⟨room, steps, fa, fc, l, armed, false, left⟩ : RD) with fa := a2, fc := c2, l := putG RF.name ⟨name, ja, jc, b, 0⟩ false l } := hr.put hri kwE (hfsee W2 (.inr ⟨[w3.heap.size, w.heap.size, w.heap.size + 1], ?_, fun k hk hm => ?_⟩)) c2 ((hfl8.kept k9 (by simp)).kept kEnd (fun k hk hm => ?_))
            · exact h1.files Hef.out Hel.out
            · refine ((k67.mono (T := [w3.heap.size, w.heap.size, w.heap.size + 1]) (fun x hx => .inl (by simp at hx; simp [hx]))).trans (k8.trans k9 (by simp)) (by simp)).trans kEnd (fun x hx => .inl ?_)
              simp at hx ⊢
              omega
            · have := hjn k hk
              simp at hm
              omega
            · have := ha2 k hk
              simp at hm
              omega
          · intro k hk
            rw [foot_same (r := { (⟨room, steps, fa, fc, l, armed, false, left⟩ : RD) with fa := a2, fc := c2, l := putG RF.name ⟨name, ja, jc, b, 0⟩ false l }) Hef.out Hel.out] at hk
            exact foot_put hri c2 (n := w.heap.size) (fun k hk => by have := ha2 k hk; omega) (fun k hk => .inr (by have := hjn k (mem_ft hk); omega)) k hk
        clear hL3 hdies ef3 el3 Hef Hel Hdies hfl8 hfsee hLp
        obtain ⟨z0, z1, z2, z3, z4, z5, _⟩ := hB2
        cases dies
        · go_wp2_with fail
          exact bodyPost_ret (v := .tuple #[.agg #[.int .i64 room3, .int .i64 steps3, .slice fa3 l3.length fc3, .bool armed3, .bool dead3, .int .i64 left3], .int .i64 0]) (by simp [results, Tryz.results41, go_sem, z0, z1, z2, z3, z4, z5]) rfl hFin
        · go_wp2_with fail
          exact bodyPost_ret (v := .tuple #[.agg #[.int .i64 room3, .int .i64 steps3, .slice fa3 l3.length fc3, .bool armed3, .bool dead3, .int .i64 left3], .int .i64 44]) (by simp [results, Tryz.results41, go_sem, z0, z1, z2, z3, z4, z5]) rfl hFin

theorem cRefAppend (r : RD) (d : Dk) (w : World) (hr : RdOk w r) (hL : Like r d) (ho : Okd d) (hl : r.l.length ≤ 1000000000) (hst : d.steps < 9000000000000000000) (name : List UInt8) (hk : name.length ≤ maxLen) (ab : Option Addr) (cb : Nat) (b : List UInt8) (hb : Sees w ab b)
    (hlen : (fileOf d.files name).bytes.length + b.length ≤ 140737488355328) : Calls Tryz.prog 41 #[r.v, .string ⟨name.toArray⟩, .slice ab b.length cb] w (RefE r.foot (appendD d name b) w) := by
  obtain ⟨room, steps, fa, fc, l, armed, dead, left⟩ := r
  cases dead
  · exact cRefAppendL room steps fa fc l armed left d w hr hL ho hl hst name hk ab cb b hb hlen
  · exact cRefAppendD room steps fa fc l armed left d w hr hL ho hl hst name hk ab cb b hb hlen
end Go.Proofs.YtpkoikennimonaaGreatDoor
end

section
namespace Go.Proofs.YtpkoikennimonaaGreatDoor
open Go.RowKit Go.Hay
set_option linter.unusedVariables false
set_option linter.unusedSimpArgs false

theorem doD0 {d : Dk} (h : d.files = []) (call : Int) (name to : List UInt8) (n : Int) : doD d call name to n = (d, refusedD d call name to n) ∧ refusedD d call name to n ≠ 0 := by
  have h1 : refusedD d call name to n ≠ 0 := by
    unfold refusedD
    rw [h]
    simp only [lookG, List.find?_nil]
    split <;> decide
  refine ⟨?_, h1⟩
  unfold doD
  rw [if_pos h1]
set_option maxHeartbeats 16000000 in
set_option maxRecDepth 100000 in
theorem cRefDo0 (r : RD) (d : Dk) (w : World) (hr : RdOk w r) (hL : Like r d) (h0 : d.files = []) (call : Int) (name to : List UInt8) (hto : to.length ≤ maxLen) (n : Int) :
    Calls Tryz.prog 40 #[r.v, .int .i64 call, .string ⟨name.toArray⟩, .string ⟨to.toArray⟩, .int .i64 n] w (RefE r.foot (doD d call name to n) w) := by
  obtain ⟨w1, hw1, k1, bx, br, hsz⟩ := boxRR r w
  have hl : r.l.length ≤ 1000000000 := by have := hL.files; rw [h0, List.map_eq_nil_iff] at this; rw [this]; simp
  obtain ⟨e1, e2⟩ := doD0 h0 call name to n
  have hc := cRefused r d w1 (hr.keptNew k1) hL hl call name to hto n
  have hsame : ∀ W, Kp [] w W → RefE r.foot (doD d call name to n) w (.returned (.tuple #[.agg #[.int .i64 r.room, .int .i64 r.steps, .slice r.fa r.l.length r.fc, .bool r.armed, .bool r.dead, .int .i64 r.left], .int .i64 (refusedD d call name to n)])) W := fun W hkW => RefE.same hr hL hkW e1
  obtain ⟨z, hz⟩ : ∃ z, z = refusedD d call name to n := ⟨_, rfl⟩
  rw [← hz] at hc hsame e2
  clear hz e1 h0 hL hr
  obtain ⟨room, steps, fa, fc, l, armed, dead, left⟩ := r
  simp only [RD.v] at *
  have b0 := bx.c0; have b1 := bx.c1; have b2 := bx.c2; have b3 := bx.c3; have b4 := bx.c4; have b5 := bx.c5
  have r0 := br.c0; have r1 := br.c1; have r2 := br.c2; have r3 := br.c3; have r4 := br.c4; have r5 := br.c5
  go_enter Tryz.func40, Tryz.ntmps40
  go_wp2_with fail
  refine hc.mono ?_
  rintro e w2 ⟨rfl, k2⟩
  have bx2 := bx.kept k2
  have br2 := br.kept k2
  have b0 := bx2.c0; have b1 := bx2.c1; have b2 := bx2.c2; have b3 := bx2.c3; have b4 := bx2.c4; have b5 := bx2.c5
  have r0 := br2.c0; have r1 := br2.c1; have r2 := br2.c2; have r3 := br2.c3; have r4 := br2.c4; have r5 := br2.c5
  have g0 := br2.free 0; have g1 := br2.free 1; have g2 := br2.free 2; have g3 := br2.free 3; have g4 := br2.free 4; have g5 := br2.free 5
  have e3 : (z == 0) = false := by simpa using e2
  have e4 : (z != 0) = true := by simpa using e2
  go_wp2_with fail
  obtain ⟨W', hW', hb6, kW'⟩ := set6_ex br2 (.int .i64 room) (.int .i64 steps) (.slice fa l.length fc) (.bool armed) (.bool dead) (.int .i64 left)
  rw [hW']
  obtain ⟨z0, z1, z2, z3, z4, z5, _⟩ := hb6
  refine bodyPost_ret (v := .tuple #[.agg #[.int .i64 room, .int .i64 steps, .slice fa l.length fc, .bool armed, .bool dead, .int .i64 left], .int .i64 z]) (by simp [results, Tryz.results40, go_sem, z0, z1, z2, z3, z4, z5]) rfl ?_
  exact hsame _ ((k1.trans k2 (by simp)).trans kW' (fun x hx => .inr (by simp at hx; omega)))
def RefB (T : List Nat) (d : Dk) (b : Bool) (w : World) (e : Ending) (w' : World) : Prop := ∃ v, e = .returned (.tuple #[v, .bool b]) ∧ RefP T d w v w'
theorem flipD0 {d : Dk} (h : d.files = []) (name : List UInt8) (i b : Int) : flipOk d name i b = false ∧ flipD d name i b = d := by
  have h1 : flipOk d name i b = false := by
    unfold flipOk
    rw [h]
    simp [lookG, List.find?_nil]
  refine ⟨h1, ?_⟩
  unfold flipD
  rw [h1]
  simp
end Go.Proofs.YtpkoikennimonaaGreatDoor
end

section
namespace Go.Proofs.YtpkoikennimonaaGreatDoor
open Go.RowKit Go.Hay
set_option linter.unusedVariables false
set_option linter.unusedSimpArgs false

set_option maxHeartbeats 16000000 in
set_option maxRecDepth 100000 in
theorem cRefDoR (r : RD) (d : Dk) (w : World) (hr : RdOk w r) (hL : Like r d) (hl : r.l.length ≤ 1000000000) (call : Int) (name to : List UInt8) (hto : to.length ≤ maxLen) (n : Int) (e2 : refusedD d call name to n ≠ 0) :
    Calls Tryz.prog 40 #[r.v, .int .i64 call, .string ⟨name.toArray⟩, .string ⟨to.toArray⟩, .int .i64 n] w (RefE r.foot (doD d call name to n) w) := by
  obtain ⟨w1, hw1, k1, bx, br, hsz⟩ := boxRR r w
  have e1 : doD d call name to n = (d, refusedD d call name to n) := by unfold doD; rw [if_pos e2]
  have hc := cRefused r d w1 (hr.keptNew k1) hL hl call name to hto n
  have hsame : ∀ W, Kp [] w W → RefE r.foot (doD d call name to n) w (.returned (.tuple #[.agg #[.int .i64 r.room, .int .i64 r.steps, .slice r.fa r.l.length r.fc, .bool r.armed, .bool r.dead, .int .i64 r.left], .int .i64 (refusedD d call name to n)])) W := fun W hkW => RefE.same hr hL hkW e1
  obtain ⟨z, hz⟩ : ∃ z, z = refusedD d call name to n := ⟨_, rfl⟩
  rw [← hz] at hc hsame e2
  clear hz e1 hL hr
  obtain ⟨room, steps, fa, fc, l, armed, dead, left⟩ := r
  simp only [RD.v] at *
  have b0 := bx.c0; have b1 := bx.c1; have b2 := bx.c2; have b3 := bx.c3; have b4 := bx.c4; have b5 := bx.c5
  have r0 := br.c0; have r1 := br.c1; have r2 := br.c2; have r3 := br.c3; have r4 := br.c4; have r5 := br.c5
  go_enter Tryz.func40, Tryz.ntmps40
  go_wp2_with fail
  refine hc.mono ?_
  rintro e w2 ⟨rfl, k2⟩
  have bx2 := bx.kept k2
  have br2 := br.kept k2
  have b0 := bx2.c0; have b1 := bx2.c1; have b2 := bx2.c2; have b3 := bx2.c3; have b4 := bx2.c4; have b5 := bx2.c5
  have r0 := br2.c0; have r1 := br2.c1; have r2 := br2.c2; have r3 := br2.c3; have r4 := br2.c4; have r5 := br2.c5
  have g0 := br2.free 0; have g1 := br2.free 1; have g2 := br2.free 2; have g3 := br2.free 3; have g4 := br2.free 4; have g5 := br2.free 5
  have e3 : (z == 0) = false := by simpa using e2
  have e4 : (z != 0) = true := by simpa using e2
  go_wp2_with fail
  obtain ⟨W', hW', hb6, kW'⟩ := set6_ex br2 (.int .i64 room) (.int .i64 steps) (.slice fa l.length fc) (.bool armed) (.bool dead) (.int .i64 left)
  rw [hW']
  obtain ⟨z0, z1, z2, z3, z4, z5, _⟩ := hb6
  refine bodyPost_ret (v := .tuple #[.agg #[.int .i64 room, .int .i64 steps, .slice fa l.length fc, .bool armed, .bool dead, .int .i64 left], .int .i64 z]) (by simp [results, Tryz.results40, go_sem, z0, z1, z2, z3, z4, z5]) rfl ?_
  exact hsame _ ((k1.trans k2 (by simp)).trans kW' (fun x hx => .inr (by simp at hx; omega)))
/-- The step at which it dies. -/
theorem RefE.stepped {r : RD} {d : Dk} {w w' : World} (hr : RdOk w r) (hL : Like r d) (hk : Kp [] w w') {x : Dk × Int} {n : Int} (e : x = ((stepD d).1, n)) : RefE r.foot x w (.returned (.tuple #[(stepR r).1.v, .int .i64 n])) w' := by
  subst e
  obtain ⟨hf, hll⟩ := stepR_files r
  refine ⟨_, rfl, (stepR r).1, rfl, ⟨?_, ?_⟩, (like_step hL).1, hk, fun k hk => .inl ?_⟩
  · rw [hf, hll]; exact (hr.keptNew hk).fls
  · rw [hll]; exact (hr.keptNew hk).see
  · simpa only [RD.foot, RD.ff, hf, hll] using hk
set_option maxHeartbeats 16000000 in
set_option maxRecDepth 100000 in
theorem cRefDoS (r : RD) (d : Dk) (w : World) (hr : RdOk w r) (hL : Like r d) (hl : r.l.length ≤ 1000000000) (hst : d.steps < 9000000000000000000) (call : Int) (name to : List UInt8) (hto : to.length ≤ maxLen) (n : Int) (e2 : refusedD d call name to n = 0) (e3 : (stepD d).2 = true) :
    Calls Tryz.prog 40 #[r.v, .int .i64 call, .string ⟨name.toArray⟩, .string ⟨to.toArray⟩, .int .i64 n] w (RefE r.foot (doD d call name to n) w) := by
  obtain ⟨w1, hw1, k1, bx, br, hsz⟩ := boxRR r w
  have e1 : doD d call name to n = ((stepD d).1, 44) := by unfold doD; rw [if_neg (by simpa using e2), if_pos e3]
  have hc := cRefused r d w1 (hr.keptNew k1) hL hl call name to hto n
  rw [e2] at hc
  have hs : 0 ≤ r.steps ∧ r.steps < 9000000000000000000 := by rw [hL.steps]; omega
  have hcs := fun W => cRefStep r W hs
  rw [(like_step hL).2, e3] at hcs
  have hsame : ∀ W, Kp [] w W → RefE r.foot (doD d call name to n) w (.returned (.tuple #[(stepR r).1.v, .int .i64 44])) W := fun W hkW => RefE.stepped hr hL hkW e1
  obtain ⟨r', hr'⟩ : ∃ r', r' = (stepR r).1 := ⟨_, rfl⟩
  rw [← hr'] at hcs hsame
  clear hr' e1 hL hr e2 e3 hs
  obtain ⟨room, steps, fa, fc, l, armed, dead, left⟩ := r
  obtain ⟨room', steps', fa', fc', l', armed', dead', left'⟩ := r'
  simp only [RD.v] at *
  have b0 := bx.c0; have b1 := bx.c1; have b2 := bx.c2; have b3 := bx.c3; have b4 := bx.c4; have b5 := bx.c5
  go_enter Tryz.func40, Tryz.ntmps40
  go_wp2_with fail
  refine hc.mono ?_
  rintro e w2 ⟨rfl, k2⟩
  have bx2 := bx.kept k2
  have br2 := br.kept k2
  have b0 := bx2.c0; have b1 := bx2.c1; have b2 := bx2.c2; have b3 := bx2.c3; have b4 := bx2.c4; have b5 := bx2.c5
  go_wp2_with fail
  refine (hcs _).mono ?_
  rintro e w3 ⟨rfl, k3⟩
  have bx3 := bx2.kept k3
  have br3 := br2.kept k3
  clear b0 b1 b2 b3 b4 b5
  have b0 := bx3.c0; have b1 := bx3.c1; have b2 := bx3.c2; have b3 := bx3.c3; have b4 := bx3.c4; have b5 := bx3.c5
  have f0 := bx3.free 0; have f1 := bx3.free 1; have f2 := bx3.free 2; have f3 := bx3.free 3; have f4 := bx3.free 4; have f5 := bx3.free 5
  obtain ⟨w4, hw4, bx4, k4⟩ := set6_ex bx3 (.int .i64 room') (.int .i64 steps') (.slice fa' l'.length fc') (.bool armed') (.bool dead') (.int .i64 left')
  have br4 : B6 w4 (w.heap.size + 1) (.int .i64 0) (.int .i64 0) (.slice none 0 0) (.bool false) (.bool false) (.int .i64 0) := by
    have hq : w.heap.size + 1 ∉ [w.heap.size] := by simp
    exact ⟨(k4.cell (p := ⟨_, 0, none⟩) br3.lt hq).trans br3.c0, (k4.cell (p := ⟨_, 1, none⟩) br3.lt hq).trans br3.c1, (k4.cell (p := ⟨_, 2, none⟩) br3.lt hq).trans br3.c2, (k4.cell (p := ⟨_, 3, none⟩) br3.lt hq).trans br3.c3, (k4.cell (p := ⟨_, 4, none⟩) br3.lt hq).trans br3.c4, (k4.cell (p := ⟨_, 5, none⟩) br3.lt hq).trans br3.c5, fun j => (k4.frozen (p := ⟨_, j, none⟩) br3.lt hq).trans (br3.free j)⟩
  have c0 := bx4.c0; have c1 := bx4.c1; have c2 := bx4.c2; have c3 := bx4.c3; have c4 := bx4.c4; have c5 := bx4.c5
  have r0 := br4.c0; have r1 := br4.c1; have r2 := br4.c2; have r3 := br4.c3; have r4 := br4.c4; have r5 := br4.c5
  have g0 := br4.free 0; have g1 := br4.free 1; have g2 := br4.free 2; have g3 := br4.free 3; have g4 := br4.free 4; have g5 := br4.free 5
  go_wp2_with fail
  obtain ⟨W', hW', hb6, kW'⟩ := set6_ex br4 (.int .i64 room') (.int .i64 steps') (.slice fa' l'.length fc') (.bool armed') (.bool dead') (.int .i64 left')
  rw [hW']
  obtain ⟨z0, z1, z2, z3, z4, z5, _⟩ := hb6
  refine bodyPost_ret (v := .tuple #[.agg #[.int .i64 room', .int .i64 steps', .slice fa' l'.length fc', .bool armed', .bool dead', .int .i64 left'], .int .i64 44]) (by simp [results, Tryz.results40, go_sem, z0, z1, z2, z3, z4, z5]) rfl ?_
  exact hsame _ (((((k1.trans k2 (by simp)).trans k3 (by simp)).trans k4 (fun x hx => .inr (by simp at hx; omega))).trans kW' (fun x hx => .inr (by simp at hx; omega))))
end Go.Proofs.YtpkoikennimonaaGreatDoor
end

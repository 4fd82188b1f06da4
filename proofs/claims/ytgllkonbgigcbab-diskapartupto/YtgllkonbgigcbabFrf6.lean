/- The reference's call Append. -/
import Derived.Test.YtgllkonbgigcbabFrf5
namespace Go.Proofs.Ytgllkonbgigcbab
open Go.RowKit Go.Hay
set_option linter.unusedVariables false
set_option linter.unusedSimpArgs false

/-- A box of three cells. -/
structure B3 (w : World) (q : Nat) (a b c : Value) : Prop where
  c0 : w.cell? ⟨q, 0, none⟩ = some a
  c1 : w.cell? ⟨q, 1, none⟩ = some b
  c2 : w.cell? ⟨q, 2, none⟩ = some c
  free : ∀ j, w.frozen? ⟨q, j, none⟩ = false
theorem B3.at {w : World} (q : Nat) (hq : w.heap.size = q) (a b c : Value) (t : TypeId) : B3 (w.alloc (.cells #[a, b, c] t)) q a b c := by
  subst hq
  exact ⟨World.cell?_alloc_new w _ _ 0, World.cell?_alloc_new w _ _ 1, World.cell?_alloc_new w _ _ 2, fun j => World.frozen?_alloc_new w _ _ j⟩
theorem B3.lt {w : World} {q : Nat} {a b c : Value} (h : B3 w q a b c) : q < w.heap.size := World.block_lt_of_cell? _ _ h.c0
theorem B3.kept {w w' : World} {q : Nat} {a b c : Value} (h : B3 w q a b c) (hk : Kp [] w w') : B3 w' q a b c :=
  ⟨cell_kp hk h.c0, cell_kp hk h.c1, cell_kp hk h.c2, fun j => (hk.frozen (p := ⟨q, j, none⟩) h.lt (by simp)).trans (h.free j)⟩
theorem B3.set1 {w : World} {q : Nat} {a b c : Value} (h : B3 w q a b c) (u : Value) : B3 (w.setCell ⟨q, 1, none⟩ u) q a u c :=
  ⟨(setCell_off (by decide) _).trans h.c0, World.cell?_setCell_same _ _ _ h.c1, (setCell_off (by decide) _).trans h.c2, fun j => (World.frozen?_setCell _ _ _ _).trans (h.free j)⟩
theorem B3.set2 {w : World} {q : Nat} {a b c : Value} (h : B3 w q a b c) (u : Value) : B3 (w.setCell ⟨q, 2, none⟩ u) q a b u :=
  ⟨(setCell_off (by decide) _).trans h.c0, (setCell_off (by decide) _).trans h.c1, World.cell?_setCell_same _ _ _ h.c2, fun j => (World.frozen?_setCell _ _ _ _).trans (h.free j)⟩
theorem B3.set0 {w : World} {q : Nat} {a b c : Value} (h : B3 w q a b c) (u : Value) : B3 (w.setCell ⟨q, 0, none⟩ u) q u b c :=
  ⟨World.cell?_setCell_same _ _ _ h.c0, (setCell_off (by decide) _).trans h.c1, (setCell_off (by decide) _).trans h.c2, fun j => (World.frozen?_setCell _ _ _ _).trans (h.free j)⟩
theorem set3_ex {W : World} {q : Nat} {a0 b0 c0 : Value} (h : B3 W q a0 b0 c0) (a b c : Value) : ∃ W', ((W.setCell ⟨q, 0, none⟩ a).setCell ⟨q, 1, none⟩ b).setCell ⟨q, 2, none⟩ c = W' ∧ B3 W' q a b c ∧ Kp [q] W W' :=
  ⟨_, rfl, ((h.set0 a).set1 b).set2 c, (((Kp.refl [q] W).setCell (p := ⟨q, 0, none⟩) (by simp) a).setCell (p := ⟨q, 1, none⟩) (by simp) b).setCell (p := ⟨q, 2, none⟩) (by simp) c⟩
theorem kpSet (q j : Nat) (w : World) (u : Value) : Kp [q] w (w.setCell ⟨q, j, none⟩ u) := (Kp.refl _ _).setCell (p := ⟨q, j, none⟩) (by simp) u
theorem lens_sum {r : RD} {d : Dk} (h : Like r d) : lens r.l = sumF d.files := by
  rw [← h.files]
  simp [lens, sumF, Function.comp_def, RF.fl]
theorem Like.rise {r : RD} {d : Dk} (h : Like r d) (ho : Okd d) : riseG RF.name r.l := by
  have h1 := ho.rise
  rw [← h.files] at h1
  exact (riseG_map (nm := RF.name) (nm' := Fl.name) RF.fl (fun _ => rfl)).1 h1
/-- Files put into the reference. -/
theorem Like.put {r : RD} {d : Dk} (h : Like r d) (f : RF) (a : Option Addr) (c : Nat) : Like { r with fa := a, fc := c, l := putG RF.name f false r.l } { d with files := putG Fl.name f.fl false d.files } :=
  ⟨h.room, h.steps, by rw [← h.files]; exact putG_map (nm := RF.name) (nm' := Fl.name) RF.fl (fun _ => rfl) f false r.l, h.armed, h.dead, h.left, h.lo, h.hi⟩
theorem Like.drop {r : RD} {d : Dk} (h : Like r d) (k : List UInt8) (a : Option Addr) (c : Nat) : Like { r with fa := a, fc := c, l := dropG RF.name k r.l } { d with files := dropG Fl.name k d.files } :=
  ⟨h.room, h.steps, by rw [← h.files]; exact dropG_map (nm := RF.name) (nm' := Fl.name) RF.fl (fun _ => rfl) k r.l, h.armed, h.dead, h.left, h.lo, h.hi⟩
theorem RdOk.put {w w' : World} {r : RD} (hr : RdOk w r) (hri : riseG RF.name r.l) (hk : Kp [] w w') {f : RF} (hf : FSee w' f) {a : Option Addr} (c : Nat) (hfl : Fls w' a (putG RF.name f false r.l)) : RdOk w' { r with fa := a, fc := c, l := putG RF.name f false r.l } :=
  ⟨hfl, fun g hg => by
    rcases (mem_putG hri).1 hg with rfl | ⟨hg, _⟩
    · exact hf
    · exact ⟨(hr.see g hg).1.kept hk (by simp), (hr.see g hg).2⟩⟩
theorem foot_put {r : RD} (hri : riseG RF.name r.l) {f : RF} {a : Option Addr} (c : Nat) {n : Nat} (ha : ∀ k ∈ blk a, n ≤ k) (hf : ∀ k ∈ blk f.ba, k ∈ r.foot ∨ n ≤ k) : ∀ k ∈ ({ r with fa := a, fc := c, l := putG RF.name f false r.l } : RD).foot, k ∈ r.foot ∨ n ≤ k := fun k hk => by
  simp only [RD.foot, List.mem_append, List.mem_flatMap] at hk
  rcases hk with hk | ⟨g, hg, hk⟩
  · exact .inr (ha k hk)
  · rcases (mem_putG hri).1 hg with rfl | ⟨hg, _⟩
    · exact hf k hk
    · exact .inl (by simp only [RD.foot, List.mem_append, List.mem_flatMap]; exact .inr ⟨g, hg, hk⟩)
theorem foot_drop {r : RD} (k0 : List UInt8) {a : Option Addr} (c : Nat) {n : Nat} (ha : ∀ k ∈ blk a, n ≤ k) : ∀ k ∈ ({ r with fa := a, fc := c, l := dropG RF.name k0 r.l } : RD).foot, k ∈ r.foot ∨ n ≤ k := fun k hk => by
  simp only [RD.foot, List.mem_append, List.mem_flatMap] at hk
  rcases hk with hk | ⟨g, hg, hk⟩
  · exact .inr (ha k hk)
  · exact .inl (by simp only [RD.foot, List.mem_append, List.mem_flatMap]; exact .inr ⟨g, (mem_dropG.1 hg).1, hk⟩)
/-- The boxes of a call of the reference's: its disk, its answer. -/
theorem boxRR (r : RD) (w : World) : ∃ w1, (w.alloc (.cells #[.int .i64 r.room, .int .i64 r.steps, .slice r.fa r.l.length r.fc, .bool r.armed, .bool r.dead, .int .i64 r.left] 32)).alloc (.cells #[.int .i64 0, .int .i64 0, .slice none 0 0, .bool false, .bool false, .int .i64 0] 32) = w1 ∧ Kp [] w w1 ∧
    B6 w1 w.heap.size (.int .i64 r.room) (.int .i64 r.steps) (.slice r.fa r.l.length r.fc) (.bool r.armed) (.bool r.dead) (.int .i64 r.left) ∧ B6 w1 (w.heap.size + 1) (.int .i64 0) (.int .i64 0) (.slice none 0 0) (.bool false) (.bool false) (.int .i64 0) ∧ w.heap.size + 2 ≤ w1.heap.size :=
  ⟨_, rfl, ((Kp.refl _ _).alloc _).alloc _, (B6.at _ rfl _ _ _ _ _ _ _).kept ((Kp.refl _ _).alloc _), B6.at _ (by simp) _ _ _ _ _ _ _, by simp⟩
def RefE (T : List Nat) (x : Dk × Int) (w : World) (e : Ending) (w' : World) : Prop := ∃ v, e = .returned (.tuple #[v, .int .i64 x.2]) ∧ RefP T x.1 w v w'
/-- Refused: as it was. -/
theorem RefE.same {r : RD} {d : Dk} {w w' : World} (hr : RdOk w r) (hL : Like r d) (hk : Kp [] w w') {x : Dk × Int} {n : Int} (e : x = (d, n)) : RefE r.foot x w (.returned (.tuple #[.agg #[.int .i64 r.room, .int .i64 r.steps, .slice r.fa r.l.length r.fc, .bool r.armed, .bool r.dead, .int .i64 r.left], .int .i64 n])) w' := by
  subst e
  exact ⟨_, rfl, r, rfl, hr.keptNew hk, hL, hk, fun k hk => .inl hk⟩
end Go.Proofs.Ytgllkonbgigcbab

/- The law's own world: boxes of any size; laid. The law's files: a disk has the files that the reference has. -/
import Derived.Test.YtpkoikennimonaaGreatDoorB16
import Derived.Deep.RegionHeld3
section
namespace Go.Proofs.YtpkoikennimonaaGreatDoor
open Go.RowKit Go.Hay
set_option linter.unusedVariables false
set_option linter.unusedSimpArgs false

structure Bn (w : World) (q : Nat) (cs : List Value) : Prop where
  get : ∀ i u, cs[i]? = some u → w.cell? ⟨q, i, none⟩ = some u
  free : ∀ i, w.frozen? ⟨q, i, none⟩ = false
theorem Bn.new (w : World) (cs : List Value) (t : TypeId) : Bn (w.alloc (.cells cs.toArray t)) w.heap.size cs :=
  ⟨fun i u hu => by
    have e : (w.alloc (.cells cs.toArray t)).cell? ⟨w.heap.size, i, none⟩ = _ := World.cell?_alloc_new w _ _ i
    rw [e]; simpa using hu, fun i => World.frozen?_alloc_new w _ _ i⟩
theorem Bn.lt {w : World} {q : Nat} {cs : List Value} (h : Bn w q cs) (hn : 0 < cs.length) : q < w.heap.size := World.block_lt_of_cell? _ _ (h.get 0 cs[0] (by simp [hn]))
theorem Bn.keptS {w w' : World} {S : List Nat} {q : Nat} {cs : List Value} (h : Bn w q cs) (hk : Kp S w w') (hq : q ∉ S) (hl : q < w.heap.size) : Bn w' q cs :=
  ⟨fun i u hu => (hk.cell (p := ⟨q, i, none⟩) hl hq).trans (h.get i u hu), fun i => (hk.frozen (p := ⟨q, i, none⟩) hl hq).trans (h.free i)⟩
theorem Bn.kept {w w' : World} {q : Nat} {cs : List Value} (h : Bn w q cs) (hk : Kp [] w w') (hl : q < w.heap.size) : Bn w' q cs := h.keptS hk (by simp) hl
theorem Bn.set {w : World} {q : Nat} {cs : List Value} (h : Bn w q cs) (i : Nat) (hi : i < cs.length) (v : Value) : Bn (w.setCell ⟨q, i, none⟩ v) q (cs.set i v) :=
  ⟨fun j u hu => by
    by_cases e : j = i
    · subst e
      rw [List.getElem?_set_self hi] at hu
      cases hu
      exact World.cell?_setCell_same _ _ _ (h.get j cs[j] (by simp [hi]))
    · rw [List.getElem?_set_ne (fun h => e h.symm)] at hu
      rw [World.cell?_setCell_other _ _ _ _ (by intro h; simp only [Addr.mk.injEq] at h; omega)]
      exact h.get j u hu, fun j => by rw [World.frozen?_setCell]; exact h.free j⟩
/-- The law's world, as a value. -/
def LWv (dp : Nat) (lp : Option Addr) (r : RD) (g : RL) (up : Bool) : Value := .agg #[.pointer (some ⟨dp, 0, none⟩), .pointer lp, .int .i64 r.room, .int .i64 r.steps, .slice r.fa r.l.length r.fc, .bool r.armed, .bool r.dead, .int .i64 r.left, .string ⟨g.nm.toArray⟩, .slice g.a g.l.length g.c, .int .i64 g.sz, .bool up]
set_option maxHeartbeats 16000000 in
set_option maxRecDepth 100000 in
theorem cLaid (dp : Nat) (l0 lp : Option Addr) (r0 r : RD) (g0 g : RL) (u0 : Bool) (e f : Int) (w : World) :
    Calls Tryz.prog 19 #[LWv dp l0 r0 g0 u0, .pointer lp, .int .i64 e, r.v, g.v, .int .i64 f] w fun en w' => en = .returned (.tuple #[LWv dp lp r g (f == 0), .bool ((e == f) && (lp.isSome == (f == 0)))]) ∧ Kp [] w w' := by
  obtain ⟨z, hz⟩ : ∃ z, (f == 0) = z := ⟨_, rfl⟩
  rw [hz]
  obtain ⟨W0, e0⟩ : ∃ W, (((w.alloc (.cells #[.pointer (some ⟨dp, 0, none⟩), .pointer l0, .int .i64 r0.room, .int .i64 r0.steps, .slice r0.fa r0.l.length r0.fc, .bool r0.armed, .bool r0.dead, .int .i64 r0.left, .string ⟨g0.nm.toArray⟩, .slice g0.a g0.l.length g0.c, .int .i64 g0.sz, .bool u0] 34)).alloc (.cells #[.int .i64 r.room, .int .i64 r.steps, .slice r.fa r.l.length r.fc, .bool r.armed, .bool r.dead, .int .i64 r.left] 27)).alloc (.cells #[.string ⟨g.nm.toArray⟩, .slice g.a g.l.length g.c, .int .i64 g.sz] 32)).alloc (.cells #[.pointer none, .pointer none, .int .i64 0, .int .i64 0, .slice none 0 0, .bool false, .bool false, .int .i64 0, .string ⟨#[]⟩, .slice none 0 0, .int .i64 0, .bool false] 34) = W := ⟨_, rfl⟩
  have k0 : Kp [] w W0 := by rw [← e0]; exact ((((Kp.refl _ _).alloc _).alloc _).alloc _).alloc _
  have z0 : W0.heap.size = w.heap.size + 4 := by rw [← e0]; simp
  have x0 : Bn W0 (w.heap.size) [.pointer (some ⟨dp, 0, none⟩), .pointer l0, .int .i64 r0.room, .int .i64 r0.steps, .slice r0.fa r0.l.length r0.fc, .bool r0.armed, .bool r0.dead, .int .i64 r0.left, .string ⟨g0.nm.toArray⟩, .slice g0.a g0.l.length g0.c, .int .i64 g0.sz, .bool u0] := by rw [← e0]; exact (((Bn.new w [.pointer (some ⟨dp, 0, none⟩), .pointer l0, .int .i64 r0.room, .int .i64 r0.steps, .slice r0.fa r0.l.length r0.fc, .bool r0.armed, .bool r0.dead, .int .i64 r0.left, .string ⟨g0.nm.toArray⟩, .slice g0.a g0.l.length g0.c, .int .i64 g0.sz, .bool u0] 34).kept ((Kp.refl _ _).alloc _) (by simp)).kept ((Kp.refl _ _).alloc _) (by simp <;> omega)).kept ((Kp.refl _ _).alloc _) (by simp <;> omega)
  have x1 : Bn W0 (w.heap.size + 1) [.int .i64 r.room, .int .i64 r.steps, .slice r.fa r.l.length r.fc, .bool r.armed, .bool r.dead, .int .i64 r.left] := by
    rw [← e0]
    have h := Bn.new (w.alloc (.cells #[.pointer (some ⟨dp, 0, none⟩), .pointer l0, .int .i64 r0.room, .int .i64 r0.steps, .slice r0.fa r0.l.length r0.fc, .bool r0.armed, .bool r0.dead, .int .i64 r0.left, .string ⟨g0.nm.toArray⟩, .slice g0.a g0.l.length g0.c, .int .i64 g0.sz, .bool u0] 34)) [.int .i64 r.room, .int .i64 r.steps, .slice r.fa r.l.length r.fc, .bool r.armed, .bool r.dead, .int .i64 r.left] 27
    rw [World.size_alloc] at h
    exact (h.kept ((Kp.refl _ _).alloc _) (by simp)).kept ((Kp.refl _ _).alloc _) (by simp <;> omega)
  have x2 : Bn W0 (w.heap.size + 1 + 1) [.string ⟨g.nm.toArray⟩, .slice g.a g.l.length g.c, .int .i64 g.sz] := by
    rw [← e0]
    have h := Bn.new ((w.alloc (.cells #[.pointer (some ⟨dp, 0, none⟩), .pointer l0, .int .i64 r0.room, .int .i64 r0.steps, .slice r0.fa r0.l.length r0.fc, .bool r0.armed, .bool r0.dead, .int .i64 r0.left, .string ⟨g0.nm.toArray⟩, .slice g0.a g0.l.length g0.c, .int .i64 g0.sz, .bool u0] 34)).alloc (.cells #[.int .i64 r.room, .int .i64 r.steps, .slice r.fa r.l.length r.fc, .bool r.armed, .bool r.dead, .int .i64 r.left] 27)) [.string ⟨g.nm.toArray⟩, .slice g.a g.l.length g.c, .int .i64 g.sz] 32
    rw [World.size_alloc, World.size_alloc] at h
    exact h.kept ((Kp.refl _ _).alloc _) (by simp)
  have x3 : Bn W0 (w.heap.size + 1 + 1 + 1) [.pointer none, .pointer none, .int .i64 0, .int .i64 0, .slice none 0 0, .bool false, .bool false, .int .i64 0, .string ⟨#[]⟩, .slice none 0 0, .int .i64 0, .bool false] := by
    rw [← e0]
    have h := Bn.new (((w.alloc (.cells #[.pointer (some ⟨dp, 0, none⟩), .pointer l0, .int .i64 r0.room, .int .i64 r0.steps, .slice r0.fa r0.l.length r0.fc, .bool r0.armed, .bool r0.dead, .int .i64 r0.left, .string ⟨g0.nm.toArray⟩, .slice g0.a g0.l.length g0.c, .int .i64 g0.sz, .bool u0] 34)).alloc (.cells #[.int .i64 r.room, .int .i64 r.steps, .slice r.fa r.l.length r.fc, .bool r.armed, .bool r.dead, .int .i64 r.left] 27)).alloc (.cells #[.string ⟨g.nm.toArray⟩, .slice g.a g.l.length g.c, .int .i64 g.sz] 32)) [.pointer none, .pointer none, .int .i64 0, .int .i64 0, .slice none 0 0, .bool false, .bool false, .int .i64 0, .string ⟨#[]⟩, .slice none 0 0, .int .i64 0, .bool false] 34
    rw [World.size_alloc, World.size_alloc, World.size_alloc] at h
    exact h
  have kd : Kp [] W0 W0.drew := (Kp.refl _ _).drew
  have y0 := x0.kept kd (by omega)
  have y1 := x1.kept kd (by omega)
  have y2 := x2.kept kd (by omega)
  have y3 := x3.kept kd (by omega)
  have hzd : W0.drew.heap.size = W0.heap.size := rfl
  obtain ⟨A1, a1⟩ : ∃ A, (W0.drew.setCell ⟨w.heap.size, 1, none⟩ (.pointer lp)) = A := ⟨_, rfl⟩
  have t1 : Bn A1 (w.heap.size) [.pointer (some ⟨dp, 0, none⟩), .pointer lp, .int .i64 r0.room, .int .i64 r0.steps, .slice r0.fa r0.l.length r0.fc, .bool r0.armed, .bool r0.dead, .int .i64 r0.left, .string ⟨g0.nm.toArray⟩, .slice g0.a g0.l.length g0.c, .int .i64 g0.sz, .bool u0] := by rw [← a1]; exact y0.set 1 (by simp) (.pointer lp)
  have ka1 : Kp [w.heap.size] W0.drew A1 := by rw [← a1]; exact ((Kp.refl _ _).setCell (by simp) _)
  obtain ⟨A2, a2⟩ : ∃ A, ((((((A1.setCell ⟨w.heap.size, 2, none⟩ (.int .i64 r.room)).setCell ⟨w.heap.size, 3, none⟩ (.int .i64 r.steps)).setCell ⟨w.heap.size, 4, none⟩ (.slice r.fa r.l.length r.fc)).setCell ⟨w.heap.size, 5, none⟩ (.bool r.armed)).setCell ⟨w.heap.size, 6, none⟩ (.bool r.dead)).setCell ⟨w.heap.size, 7, none⟩ (.int .i64 r.left)) = A := ⟨_, rfl⟩
  have t2 : Bn A2 (w.heap.size) [.pointer (some ⟨dp, 0, none⟩), .pointer lp, .int .i64 r.room, .int .i64 r.steps, .slice r.fa r.l.length r.fc, .bool r.armed, .bool r.dead, .int .i64 r.left, .string ⟨g0.nm.toArray⟩, .slice g0.a g0.l.length g0.c, .int .i64 g0.sz, .bool u0] := by rw [← a2]; exact ((((((t1.set 2 (by simp) (.int .i64 r.room)).set 3 (by simp) (.int .i64 r.steps)).set 4 (by simp) (.slice r.fa r.l.length r.fc)).set 5 (by simp) (.bool r.armed)).set 6 (by simp) (.bool r.dead)).set 7 (by simp) (.int .i64 r.left))
  have ka2 : Kp [w.heap.size] A1 A2 := by rw [← a2]; exact (((((((Kp.refl _ _).setCell (by simp) _).setCell (by simp) _).setCell (by simp) _).setCell (by simp) _).setCell (by simp) _).setCell (by simp) _)
  obtain ⟨A3, a3⟩ : ∃ A, (((A2.setCell ⟨w.heap.size, 8, none⟩ (.string ⟨g.nm.toArray⟩)).setCell ⟨w.heap.size, 9, none⟩ (.slice g.a g.l.length g.c)).setCell ⟨w.heap.size, 10, none⟩ (.int .i64 g.sz)) = A := ⟨_, rfl⟩
  have t3 : Bn A3 (w.heap.size) [.pointer (some ⟨dp, 0, none⟩), .pointer lp, .int .i64 r.room, .int .i64 r.steps, .slice r.fa r.l.length r.fc, .bool r.armed, .bool r.dead, .int .i64 r.left, .string ⟨g.nm.toArray⟩, .slice g.a g.l.length g.c, .int .i64 g.sz, .bool u0] := by rw [← a3]; exact (((t2.set 8 (by simp) (.string ⟨g.nm.toArray⟩)).set 9 (by simp) (.slice g.a g.l.length g.c)).set 10 (by simp) (.int .i64 g.sz))
  have ka3 : Kp [w.heap.size] A2 A3 := by rw [← a3]; exact ((((Kp.refl _ _).setCell (by simp) _).setCell (by simp) _).setCell (by simp) _)
  obtain ⟨A4, a4⟩ : ∃ A, (A3.setCell ⟨w.heap.size, 11, none⟩ (.bool z)) = A := ⟨_, rfl⟩
  have t4 : Bn A4 (w.heap.size) [.pointer (some ⟨dp, 0, none⟩), .pointer lp, .int .i64 r.room, .int .i64 r.steps, .slice r.fa r.l.length r.fc, .bool r.armed, .bool r.dead, .int .i64 r.left, .string ⟨g.nm.toArray⟩, .slice g.a g.l.length g.c, .int .i64 g.sz, .bool z] := by rw [← a4]; exact t3.set 11 (by simp) (.bool z)
  have ka4 : Kp [w.heap.size] A3 A4 := by rw [← a4]; exact ((Kp.refl _ _).setCell (by simp) _)
  have k14 : Kp [w.heap.size] W0.drew A4 := ((ka1.trans ka2 (fun x hx => .inl hx)).trans ka3 (fun x hx => .inl hx)).trans ka4 (fun x hx => .inl hx)
  have u3 := y3.keptS k14 (by simp <;> omega) (by omega)
  obtain ⟨A5, a5⟩ : ∃ A, ((((((((((((A4.setCell ⟨w.heap.size + 1 + 1 + 1, 0, none⟩ (.pointer (some ⟨dp, 0, none⟩))).setCell ⟨w.heap.size + 1 + 1 + 1, 1, none⟩ (.pointer lp)).setCell ⟨w.heap.size + 1 + 1 + 1, 2, none⟩ (.int .i64 r.room)).setCell ⟨w.heap.size + 1 + 1 + 1, 3, none⟩ (.int .i64 r.steps)).setCell ⟨w.heap.size + 1 + 1 + 1, 4, none⟩ (.slice r.fa r.l.length r.fc)).setCell ⟨w.heap.size + 1 + 1 + 1, 5, none⟩ (.bool r.armed)).setCell ⟨w.heap.size + 1 + 1 + 1, 6, none⟩ (.bool r.dead)).setCell ⟨w.heap.size + 1 + 1 + 1, 7, none⟩ (.int .i64 r.left)).setCell ⟨w.heap.size + 1 + 1 + 1, 8, none⟩ (.string ⟨g.nm.toArray⟩)).setCell ⟨w.heap.size + 1 + 1 + 1, 9, none⟩ (.slice g.a g.l.length g.c)).setCell ⟨w.heap.size + 1 + 1 + 1, 10, none⟩ (.int .i64 g.sz)).setCell ⟨w.heap.size + 1 + 1 + 1, 11, none⟩ (.bool z)) = A := ⟨_, rfl⟩
  have t5 : Bn A5 (w.heap.size + 1 + 1 + 1) [.pointer (some ⟨dp, 0, none⟩), .pointer lp, .int .i64 r.room, .int .i64 r.steps, .slice r.fa r.l.length r.fc, .bool r.armed, .bool r.dead, .int .i64 r.left, .string ⟨g.nm.toArray⟩, .slice g.a g.l.length g.c, .int .i64 g.sz, .bool z] := by rw [← a5]; exact ((((((((((((u3.set 0 (by simp) (.pointer (some ⟨dp, 0, none⟩))).set 1 (by simp) (.pointer lp)).set 2 (by simp) (.int .i64 r.room)).set 3 (by simp) (.int .i64 r.steps)).set 4 (by simp) (.slice r.fa r.l.length r.fc)).set 5 (by simp) (.bool r.armed)).set 6 (by simp) (.bool r.dead)).set 7 (by simp) (.int .i64 r.left)).set 8 (by simp) (.string ⟨g.nm.toArray⟩)).set 9 (by simp) (.slice g.a g.l.length g.c)).set 10 (by simp) (.int .i64 g.sz)).set 11 (by simp) (.bool z))
  have ka5 : Kp [w.heap.size + 1 + 1 + 1] A4 A5 := by rw [← a5]; exact (((((((((((((Kp.refl _ _).setCell (by simp) _).setCell (by simp) _).setCell (by simp) _).setCell (by simp) _).setCell (by simp) _).setCell (by simp) _).setCell (by simp) _).setCell (by simp) _).setCell (by simp) _).setCell (by simp) _).setCell (by simp) _).setCell (by simp) _)
  have kk : Hid (Kp [] w A5) := ((k0.trans kd (by simp)).trans k14 (fun x hx => .inr (by simp at hx; omega))).trans ka5 (fun x hx => .inr (by simp at hx; omega))
  have hS : Hid (∀ A, Kp [w.heap.size] W0.drew A → (A.cell? ⟨w.heap.size + 1, 0, none⟩ = some (.int .i64 r.room) ∧ A.cell? ⟨w.heap.size + 1, 1, none⟩ = some (.int .i64 r.steps) ∧ A.cell? ⟨w.heap.size + 1, 2, none⟩ = some (.slice r.fa r.l.length r.fc) ∧ A.cell? ⟨w.heap.size + 1, 3, none⟩ = some (.bool r.armed) ∧ A.cell? ⟨w.heap.size + 1, 4, none⟩ = some (.bool r.dead) ∧ A.cell? ⟨w.heap.size + 1, 5, none⟩ = some (.int .i64 r.left)) ∧ A.cell? ⟨w.heap.size + 1 + 1, 0, none⟩ = some (.string ⟨g.nm.toArray⟩) ∧ A.cell? ⟨w.heap.size + 1 + 1, 1, none⟩ = some (.slice g.a g.l.length g.c) ∧ A.cell? ⟨w.heap.size + 1 + 1, 2, none⟩ = some (.int .i64 g.sz)) := fun A k => by
    have h1 := y1.keptS k (by simp <;> omega) (by omega)
    have h2 := y2.keptS k (by simp <;> omega) (by omega)
    exact ⟨⟨h1.get 0 _ rfl, h1.get 1 _ rfl, h1.get 2 _ rfl, h1.get 3 _ rfl, h1.get 4 _ rfl, h1.get 5 _ rfl⟩, h2.get 0 _ rfl, h2.get 1 _ rfl, h2.get 2 _ rfl⟩
  have hS0 := hS.out _ (Kp.refl _ _)
  have hS1 := hid (hS.out _ ka1)
  have hS2 := hid (hS.out _ (ka1.trans ka2 (fun x hx => .inl hx)))
  have hS3 := hid (hS.out _ ((ka1.trans ka2 (fun x hx => .inl hx)).trans ka3 (fun x hx => .inl hx)))
  have hS4 := hid (hS.out _ k14)
  have c1 := y0.get 1 _ rfl
  have f1 := y0.free 1
  have c2 := t1.get 2 _ rfl; have c3 := t1.get 3 _ rfl; have c4 := t1.get 4 _ rfl; have c5 := t1.get 5 _ rfl; have c6 := t1.get 6 _ rfl; have c7 := t1.get 7 _ rfl
  have f2 := t1.free 2; have f3 := t1.free 3; have f4 := t1.free 4; have f5 := t1.free 5; have f6 := t1.free 6; have f7 := t1.free 7
  have c8 := t2.get 8 _ rfl; have c9 := t2.get 9 _ rfl; have c10 := t2.get 10 _ rfl
  have f8 := t2.free 8; have f9 := t2.free 9; have f10 := t2.free 10
  have c11 := t3.get 11 _ rfl
  have f11 := t3.free 11
  have d0 := t4.get 0 _ rfl; have d1 := t4.get 1 _ rfl; have d2 := t4.get 2 _ rfl; have d3 := t4.get 3 _ rfl; have d4 := t4.get 4 _ rfl; have d5 := t4.get 5 _ rfl; have d6 := t4.get 6 _ rfl; have d7 := t4.get 7 _ rfl; have d8 := t4.get 8 _ rfl; have d9 := t4.get 9 _ rfl; have d10 := t4.get 10 _ rfl; have d11 := t4.get 11 _ rfl
  have v0 := u3.get 0 _ rfl; have v1 := u3.get 1 _ rfl; have v2 := u3.get 2 _ rfl; have v3 := u3.get 3 _ rfl; have v4 := u3.get 4 _ rfl; have v5 := u3.get 5 _ rfl; have v6 := u3.get 6 _ rfl; have v7 := u3.get 7 _ rfl; have v8 := u3.get 8 _ rfl; have v9 := u3.get 9 _ rfl; have v10 := u3.get 10 _ rfl; have v11 := u3.get 11 _ rfl
  have vf0 := u3.free 0; have vf1 := u3.free 1; have vf2 := u3.free 2; have vf3 := u3.free 3; have vf4 := u3.free 4; have vf5 := u3.free 5; have vf6 := u3.free 6; have vf7 := u3.free 7; have vf8 := u3.free 8; have vf9 := u3.free 9; have vf10 := u3.free 10; have vf11 := u3.free 11
  have o0 := hid (t5.get 0 _ rfl); have o1 := hid (t5.get 1 _ rfl); have o2 := hid (t5.get 2 _ rfl); have o3 := hid (t5.get 3 _ rfl); have o4 := hid (t5.get 4 _ rfl); have o5 := hid (t5.get 5 _ rfl); have o6 := hid (t5.get 6 _ rfl); have o7 := hid (t5.get 7 _ rfl); have o8 := hid (t5.get 8 _ rfl); have o9 := hid (t5.get 9 _ rfl); have o10 := hid (t5.get 10 _ rfl); have o11 := hid (t5.get 11 _ rfl)
  clear x0 x1 x2 x3 y0 y1 y2 y3 t1 t2 t3 t4 t5 u3 ka1 ka2 ka3 ka4 ka5 k14 kd k0 hS
  obtain ⟨room0, steps0, fa0, fc0, lx0, armed0, dead0, left0⟩ := r0
  obtain ⟨gn0, ga0, gc0, gl0, gs0⟩ := g0
  obtain ⟨room, steps, fa, fc, lx, armed, dead, left⟩ := r
  obtain ⟨gn, ga, gc, gl, gs⟩ := g
  simp only [RD.v, RL.v, LWv] at *
  go_enter Tryz.func19, Tryz.ntmps19
  go_wp2_with fail
  refine wp_region_held_drew (S := fun A => (A.cell? ⟨w.heap.size + 1, 0, none⟩ = some (.int .i64 room) ∧ A.cell? ⟨w.heap.size + 1, 1, none⟩ = some (.int .i64 steps) ∧ A.cell? ⟨w.heap.size + 1, 2, none⟩ = some (.slice fa lx.length fc) ∧ A.cell? ⟨w.heap.size + 1, 3, none⟩ = some (.bool armed) ∧ A.cell? ⟨w.heap.size + 1, 4, none⟩ = some (.bool dead) ∧ A.cell? ⟨w.heap.size + 1, 5, none⟩ = some (.int .i64 left)) ∧ A.cell? ⟨w.heap.size + 1 + 1, 0, none⟩ = some (.string ⟨gn.toArray⟩) ∧ A.cell? ⟨w.heap.size + 1 + 1, 1, none⟩ = some (.slice ga gl.length gc) ∧ A.cell? ⟨w.heap.size + 1 + 1, 2, none⟩ = some (.int .i64 gs)) (by kernel_rfl) ?_ (fun hHeld => ?_)
  · exact hS0
  generalize W0.drew = wd at *
  refine wpAnyH_take (i := 0) (v := ?_) rfl (by kernel_rfl) (by kernel_rfl) (by kernel_rfl) (fun _ _ _ h => h) (Or.inl ⟨by rfl, ?_⟩) (by assumption) ?_
  rotate_left
  · intro w hSw; (try dsimp only at hSw); go_simp <;> with_reducible rfl
  try simp only [Act.put, List.getElem_toArray, List.getElem_cons_zero, List.getElem_cons_succ, List.setIfInBounds_toArray, List.set_cons_zero, List.set_cons_succ]
  refine wpAnyH_take (i := 1) (v := ?_) rfl (by kernel_rfl) (by kernel_rfl) (by kernel_rfl) (fun _ _ _ h => h) (Or.inl ⟨by rfl, ?_⟩) (by assumption) ?_
  rotate_left
  · intro w hSw; (try dsimp only at hSw); go_simp <;> with_reducible rfl
  try simp only [Act.put, List.getElem_toArray, List.getElem_cons_zero, List.getElem_cons_succ, List.setIfInBounds_toArray, List.set_cons_zero, List.set_cons_succ]
  refine wpAnyH_take (i := 2) (v := ?_) rfl (by kernel_rfl) (by kernel_rfl) (by kernel_rfl) (fun _ _ _ h => h) (Or.inl ⟨by rfl, ?_⟩) (by assumption) ?_
  rotate_left
  · intro w hSw; (try dsimp only at hSw); go_simp <;> with_reducible rfl
  try simp only [Act.put, List.getElem_toArray, List.getElem_cons_zero, List.getElem_cons_succ, List.setIfInBounds_toArray, List.set_cons_zero, List.set_cons_succ]
  refine wpAnyH_take (i := 3) (v := ?_) rfl (by kernel_rfl) (by kernel_rfl) (by kernel_rfl) (fun _ _ _ h => h) (Or.inl ⟨by rfl, ?_⟩) (by assumption) ?_
  rotate_left
  · intro w hSw; (try dsimp only at hSw); go_simp <;> with_reducible rfl
  try simp only [Act.put, List.getElem_toArray, List.getElem_cons_zero, List.getElem_cons_succ, List.setIfInBounds_toArray, List.set_cons_zero, List.set_cons_succ]
  refine wpAnyH_take (i := 4) (v := ?_) rfl (by kernel_rfl) (by kernel_rfl) (by kernel_rfl) (fun _ _ _ h => h) (Or.inl ⟨by rfl, ?_⟩) (by assumption) ?_
  rotate_left
  · intro w hSw; (try dsimp only at hSw); go_simp <;> with_reducible rfl
  try simp only [Act.put, List.getElem_toArray, List.getElem_cons_zero, List.getElem_cons_succ, List.setIfInBounds_toArray, List.set_cons_zero, List.set_cons_succ]
  refine wpAnyH_take (i := 5) (v := ?_) rfl (by kernel_rfl) (by kernel_rfl) (by kernel_rfl) (fun _ _ _ h => h) (Or.inl ⟨by rfl, ?_⟩) (by assumption) ?_
  rotate_left
  · intro w hSw; (try dsimp only at hSw); go_simp <;> with_reducible rfl
  try simp only [Act.put, List.getElem_toArray, List.getElem_cons_zero, List.getElem_cons_succ, List.setIfInBounds_toArray, List.set_cons_zero, List.set_cons_succ]
  refine wpAnyH_ready (rs := [6]) (by kernel_rfl) (by simp) ?_
  refine AllReadyH.cons rfl (fun K hK => ?_) AllReadyH.nil
  go_simp
  (try go_wp2_with fail)
  refine hK.out _ _ ?_ (fun hHeld => ?_)
  · exact hS1.out
  clear hK K
  try simp only [Act.put, List.getElem_toArray, List.getElem_cons_zero, List.getElem_cons_succ, List.setIfInBounds_toArray, List.set_cons_zero, List.set_cons_succ]
  refine wpAnyH_take (i := 7) (v := ?_) rfl (by kernel_rfl) (by kernel_rfl) (by kernel_rfl) (fun _ _ _ h => h) (Or.inl ⟨by rfl, ?_⟩) (by assumption) ?_
  rotate_left
  · intro w hSw; (try dsimp only at hSw); go_simp <;> with_reducible rfl
  try simp only [Act.put, List.getElem_toArray, List.getElem_cons_zero, List.getElem_cons_succ, List.setIfInBounds_toArray, List.set_cons_zero, List.set_cons_succ]
  refine wpAnyH_ready (rs := [8]) (by kernel_rfl) (by simp) ?_
  refine AllReadyH.cons rfl (fun K hK => ?_) AllReadyH.nil
  go_simp
  (try go_wp2_with fail)
  refine hK.out _ _ ?_ (fun hHeld => ?_)
  · exact hS2.out
  clear hK K
  try simp only [Act.put, List.getElem_toArray, List.getElem_cons_zero, List.getElem_cons_succ, List.setIfInBounds_toArray, List.set_cons_zero, List.set_cons_succ]
  refine wpAnyH_take (i := 9) (v := ?_) rfl (by kernel_rfl) (by kernel_rfl) (by kernel_rfl) (fun _ _ _ h => h) (Or.inl ⟨by rfl, ?_⟩) (by assumption) ?_
  rotate_left
  · intro w hSw; (try dsimp only at hSw); go_simp <;> with_reducible rfl
  try simp only [Act.put, List.getElem_toArray, List.getElem_cons_zero, List.getElem_cons_succ, List.setIfInBounds_toArray, List.set_cons_zero, List.set_cons_succ]
  refine wpAnyH_ready (rs := [10]) (by kernel_rfl) (by simp) ?_
  refine AllReadyH.cons rfl (fun K hK => ?_) AllReadyH.nil
  go_simp
  (try go_wp2_with fail)
  refine hK.out _ _ ?_ (fun hHeld => ?_)
  · exact hS3.out
  clear hK K
  try simp only [Act.put, List.getElem_toArray, List.getElem_cons_zero, List.getElem_cons_succ, List.setIfInBounds_toArray, List.set_cons_zero, List.set_cons_succ]
  refine wpAnyH_take (i := 11) (v := ?_) rfl (by kernel_rfl) (by kernel_rfl) (by kernel_rfl) (fun _ _ _ h => h) (Or.inl ⟨by rfl, ?_⟩) (by assumption) ?_
  rotate_left
  · intro w hSw; (try dsimp only at hSw); go_simp <;> with_reducible rfl
  try simp only [Act.put, List.getElem_toArray, List.getElem_cons_zero, List.getElem_cons_succ, List.setIfInBounds_toArray, List.set_cons_zero, List.set_cons_succ]
  refine wpAnyH_ready (rs := [12]) (by kernel_rfl) (by simp) ?_
  refine AllReadyH.cons rfl (fun K hK => ?_) AllReadyH.nil
  go_simp
  (try go_wp2_with fail)
  refine hK.out _ _ ?_ (fun hHeld => ?_)
  · exact hS4.out
  clear hK K
  try simp only [Act.put, List.getElem_toArray, List.getElem_cons_zero, List.getElem_cons_succ, List.setIfInBounds_toArray, List.set_cons_zero, List.set_cons_succ]
  refine wpAnyH_done (by kernel_rfl) ?_ _
  have hpost : Hid (∀ b, bodyPost Tryz.prog Tryz.f19 (fun en w' => en = .returned (.tuple #[.agg #[.pointer (some ⟨dp, 0, none⟩), .pointer lp, .int .i64 room, .int .i64 steps, .slice fa lx.length fc, .bool armed, .bool dead, .int .i64 left, .string ⟨gn.toArray⟩, .slice ga gl.length gc, .int .i64 gs, .bool z], .bool b]) ∧ Kp [] w w') = bodyPost Tryz.prog Tryz.f19 (fun en w' => en = .returned (.tuple #[.agg #[.pointer (some ⟨dp, 0, none⟩), .pointer lp, .int .i64 room, .int .i64 steps, .slice fa lx.length fc, .bool armed, .bool dead, .int .i64 left, .string ⟨gn.toArray⟩, .slice ga gl.length gc, .int .i64 gs, .bool z], .bool b]) ∧ Kp [] w w')) := fun _ => rfl
  clear hS0 hHeld hS1 hS2 hS3 hS4 hpost
  cases hx : (e == f) with
  | false =>
    have hx' := hid hx
    go_wp2_with fail
    refine bodyPost_ret (v := .tuple #[.agg #[.pointer (some ⟨dp, 0, none⟩), .pointer lp, .int .i64 room, .int .i64 steps, .slice fa lx.length fc, .bool armed, .bool dead, .int .i64 left, .string ⟨gn.toArray⟩, .slice ga gl.length gc, .int .i64 gs, .bool z], .bool false]) (by simp [results, Tryz.results19, go_sem, o0.out, o1.out, o2.out, o3.out, o4.out, o5.out, o6.out, o7.out, o8.out, o9.out, o10.out, o11.out]) rfl ?_
    exact ⟨by rw [hx'.out]; rfl, kk.out⟩
  | true =>
    have hx' := hid hx
    cases lp with
    | none =>
      cases z with
      | true =>
        go_wp2_with fail
        refine bodyPost_ret (v := .tuple #[.agg #[.pointer (some ⟨dp, 0, none⟩), .pointer none, .int .i64 room, .int .i64 steps, .slice fa lx.length fc, .bool armed, .bool dead, .int .i64 left, .string ⟨gn.toArray⟩, .slice ga gl.length gc, .int .i64 gs, .bool true], .bool false]) (by simp [results, Tryz.results19, go_sem, o0.out, o1.out, o2.out, o3.out, o4.out, o5.out, o6.out, o7.out, o8.out, o9.out, o10.out, o11.out]) rfl ?_
        exact ⟨by rw [hx'.out]; rfl, kk.out⟩
      | false =>
        go_wp2_with fail
        refine bodyPost_ret (v := .tuple #[.agg #[.pointer (some ⟨dp, 0, none⟩), .pointer none, .int .i64 room, .int .i64 steps, .slice fa lx.length fc, .bool armed, .bool dead, .int .i64 left, .string ⟨gn.toArray⟩, .slice ga gl.length gc, .int .i64 gs, .bool false], .bool true]) (by simp [results, Tryz.results19, go_sem, o0.out, o1.out, o2.out, o3.out, o4.out, o5.out, o6.out, o7.out, o8.out, o9.out, o10.out, o11.out]) rfl ?_
        exact ⟨by rw [hx'.out]; rfl, kk.out⟩
    | some pa =>
      cases z with
      | true =>
        go_wp2_with fail
        refine bodyPost_ret (v := .tuple #[.agg #[.pointer (some ⟨dp, 0, none⟩), .pointer (some pa), .int .i64 room, .int .i64 steps, .slice fa lx.length fc, .bool armed, .bool dead, .int .i64 left, .string ⟨gn.toArray⟩, .slice ga gl.length gc, .int .i64 gs, .bool true], .bool true]) (by simp [results, Tryz.results19, go_sem, o0.out, o1.out, o2.out, o3.out, o4.out, o5.out, o6.out, o7.out, o8.out, o9.out, o10.out, o11.out]) rfl ?_
        exact ⟨by rw [hx'.out]; rfl, kk.out⟩
      | false =>
        go_wp2_with fail
        refine bodyPost_ret (v := .tuple #[.agg #[.pointer (some ⟨dp, 0, none⟩), .pointer (some pa), .int .i64 room, .int .i64 steps, .slice fa lx.length fc, .bool armed, .bool dead, .int .i64 left, .string ⟨gn.toArray⟩, .slice ga gl.length gc, .int .i64 gs, .bool false], .bool false]) (by simp [results, Tryz.results19, go_sem, o0.out, o1.out, o2.out, o3.out, o4.out, o5.out, o6.out, o7.out, o8.out, o9.out, o10.out, o11.out]) rfl ?_
        exact ⟨by rw [hx'.out]; rfl, kk.out⟩
end Go.Proofs.YtpkoikennimonaaGreatDoor
end

section
namespace Go.Proofs.YtpkoikennimonaaGreatDoor
open Go.RowKit Go.Hay
set_option linter.unusedVariables false
set_option linter.unusedSimpArgs false

set_option maxHeartbeats 16000000 in
set_option maxRecDepth 100000 in
theorem cFiles {w : World} {p mb : Nat} {xs : List Ent} {d : Dk} (hD : Disk w p mb xs d) (hB : Small d) (hN : xs.length ≤ 1000000000) (lp : Option Addr) (r : RD) (g : RL) (up : Bool) (hr : RdOk w r) (hL : Like r d) :
    Calls Tryz.prog 9 #[LWv p lp r g up] w fun e w' => e = .returned (.bool true) ∧ Kp [] w w' := by
  have h1 := hL.room; have h2 := hL.steps; have h3 := hL.files; have h4 := hL.dead
  obtain ⟨w1, hw1⟩ : ∃ y, w.alloc (.cells #[.pointer (some ⟨p, 0, none⟩), .pointer lp, .int .i64 r.room, .int .i64 r.steps, .slice r.fa r.l.length r.fc, .bool r.armed, .bool r.dead, .int .i64 r.left, .string ⟨g.nm.toArray⟩, .slice g.a g.l.length g.c, .int .i64 g.sz, .bool up] 34) = y := ⟨_, rfl⟩
  have k1 : Kp [] w w1 := by rw [← hw1]; exact (Kp.refl _ _).alloc _
  have bx : Bn w1 w.heap.size [.pointer (some ⟨p, 0, none⟩), .pointer lp, .int .i64 r.room, .int .i64 r.steps, .slice r.fa r.l.length r.fc, .bool r.armed, .bool r.dead, .int .i64 r.left, .string ⟨g.nm.toArray⟩, .slice g.a g.l.length g.c, .int .i64 g.sz, .bool up] := by rw [← hw1]; exact Bn.new w _ _
  have hq1 : w.heap.size < w1.heap.size := by rw [← hw1]; simp
  have hnames : xs.map Ent.name = d.files.map Fl.name := by rw [hD.fl, List.map_map]; rfl
  have hlen : xs.length = r.l.length := by have := congrArg List.length h3; rw [hD.fl] at this; simpa using this.symm
  have hSt : Hid (∀ A, Kp [] w A → Calls Tryz.prog 27 #[.pointer (some ⟨p, 0, none⟩)] A fun e w' => e = .returned (.int .i64 r.steps) ∧ w' = A) := fun A kA => by rw [h2]; exact cSteps (hD.keptNew kA)
  have hDd : Hid (∀ A, Kp [] w A → Calls Tryz.prog 28 #[.pointer (some ⟨p, 0, none⟩)] A fun e w' => e = .returned (.bool r.dead) ∧ w' = A) := fun A kA => by rw [h4]; exact cDead (hD.keptNew kA)
  have hrise : riseG Fl.name d.files := hD.ok.rise
  have hnm : ∀ f ∈ r.l, f.name.length ≤ maxLen := fun f hf => by
    have := hD.ok.name f.fl (by rw [← h3]; exact List.mem_map_of_mem hf)
    simp only [nameOk, Bool.and_eq_true, decide_eq_true_eq, RF.fl] at this
    have h3 : f.name.length ≤ 32 := of_decide_eq_true this.2.2
    unfold maxLen
    omega
  have hlk : ∀ f ∈ r.l, lookG Fl.name f.name d.files = some f.fl := fun f hf => lookG_mem hrise (by rw [← h3]; exact List.mem_map_of_mem hf) rfl
  have hnms : xs.map Ent.name = r.l.map RF.name := by rw [hnames, ← h3, List.map_map]; rfl
  have hLen := hid hlen
  have hNms := hid hnms
  have hRd : Hid (∀ A, Kp [] w A → ∀ f ∈ r.l, Calls Tryz.prog 12 #[.pointer (some ⟨p, 0, none⟩), .string ⟨f.name.toArray⟩] A (ReadP (some f.bytes) A)) := fun A kA f hf => by
    have := cRead (hD.keptNew kA) hB f.name (hnm f hf)
    rw [hlk f hf] at this
    exact this
  have aN := fun A (kA : Kp [] w A) => cNames (hD.keptNew kA) (by omega : xs.length ≤ 1000000000000)
  have aN1 := aN w1 k1
  have hl9 : r.l.length ≤ 1000000000 := by omega
  clear hlen hnms hnames hrise hlk hnm h1 h2 h3 h4 hN aN hB hL
  obtain ⟨room, steps, fa, fc, l, armed, dead, left⟩ := r
  obtain ⟨gn, ga, gc, gl, gs⟩ := g
  simp only [LWv] at *
  have b0 := bx.get 0 _ rfl
  go_enter Tryz.func9, Tryz.ntmps9
  go_wp2_with fail
  refine aN1.mono ?_
  rintro e w2 ⟨na, nc, rfl, hrow, k2⟩
  obtain ⟨_, _, ev, hnm1, _⟩ := Nms.ofRow hrow
  simp only [List.length_map, Value.slice.injEq, true_and] at ev
  obtain ⟨rfl, rfl⟩ := ev
  rw [hNms.out] at hnm1
  rw [hLen.out]
  have bx2 := bx.kept k2 hq1
  have hq2 : w.heap.size < w2.heap.size := by have := k2.size; omega
  have kw2 : Kp [] w w2.drew := (k1.trans k2 (by simp)).drew
  have hw1' := hid hw1
  have hr2 := hr.keptNew kw2
  have hS : Hid (∀ A, Kp [] w2.drew A → A.cell? ⟨w.heap.size, 0, none⟩ = some (.pointer (some ⟨p, 0, none⟩)) ∧ A.cell? ⟨w.heap.size, 3, none⟩ = some (.int .i64 steps) ∧ A.cell? ⟨w.heap.size, 4, none⟩ = some (.slice fa l.length fc) ∧ A.cell? ⟨w.heap.size, 6, none⟩ = some (.bool dead)) := fun A kA => by
    have b := (bx2.kept (w' := w2.drew) (Kp.refl _ _).drew hq2).kept kA hq2
    exact ⟨b.get 0 _ rfl, b.get 3 _ rfl, b.get 4 _ rfl, b.get 6 _ rfl⟩
  have hS0 := hS.out _ (Kp.refl _ _)
  clear b0 aN1 hrow hw1 hr
  go_wp2_with fail
  refine wp_region_held_drew (S := fun A => A.cell? ⟨w.heap.size, 0, none⟩ = some (.pointer (some ⟨p, 0, none⟩)) ∧ A.cell? ⟨w.heap.size, 3, none⟩ = some (.int .i64 steps) ∧ A.cell? ⟨w.heap.size, 4, none⟩ = some (.slice fa l.length fc) ∧ A.cell? ⟨w.heap.size, 6, none⟩ = some (.bool dead)) (by kernel_rfl) ?_ (fun hHeld => ?_)
  · exact hS0
  refine wpAnyH_take (i := 0) (v := ?_) rfl (by kernel_rfl) (by kernel_rfl) (by kernel_rfl) (fun _ _ _ h => h) (Or.inl ⟨by rfl, ?_⟩) (by assumption) ?_
  rotate_left
  · intro w hSw; (try dsimp only at hSw); go_simp <;> with_reducible rfl
  try simp only [Act.put, List.getElem_toArray, List.getElem_cons_zero, List.getElem_cons_succ, List.setIfInBounds_toArray, List.set_cons_zero, List.set_cons_succ]
  refine wpAnyH_take (i := 1) (v := ?_) rfl (by kernel_rfl) (by kernel_rfl) (by kernel_rfl) (fun _ _ _ h => h) (Or.inl ⟨by rfl, ?_⟩) (by assumption) ?_
  rotate_left
  · intro w hSw; (try dsimp only at hSw); go_simp <;> with_reducible rfl
  try simp only [Act.put, List.getElem_toArray, List.getElem_cons_zero, List.getElem_cons_succ, List.setIfInBounds_toArray, List.set_cons_zero, List.set_cons_succ]
  refine wpAnyH_take (i := 2) (v := ?_) rfl (by kernel_rfl) (by kernel_rfl) (by kernel_rfl) (fun _ _ _ h => h) (Or.inl ⟨by rfl, ?_⟩) (by assumption) ?_
  rotate_left
  · intro w hSw; (try dsimp only at hSw); go_simp <;> with_reducible rfl
  try simp only [Act.put, List.getElem_toArray, List.getElem_cons_zero, List.getElem_cons_succ, List.setIfInBounds_toArray, List.set_cons_zero, List.set_cons_succ]
  refine wpAnyH_take (i := 3) (v := ?_) rfl (by kernel_rfl) (by kernel_rfl) (by kernel_rfl) (fun _ _ _ h => h) (Or.inl ⟨by rfl, ?_⟩) (by assumption) ?_
  rotate_left
  · intro w hSw; (try dsimp only at hSw); go_simp <;> with_reducible rfl
  try simp only [Act.put, List.getElem_toArray, List.getElem_cons_zero, List.getElem_cons_succ, List.setIfInBounds_toArray, List.set_cons_zero, List.set_cons_succ]
  refine wpAnyH_take (i := 4) (v := ?_) rfl (by kernel_rfl) (by kernel_rfl) (by kernel_rfl) (fun _ _ _ h => h) (Or.inl ⟨by rfl, ?_⟩) (by assumption) ?_
  rotate_left
  · intro w hSw; (try dsimp only at hSw); go_simp <;> with_reducible rfl
  try simp only [Act.put, List.getElem_toArray, List.getElem_cons_zero, List.getElem_cons_succ, List.setIfInBounds_toArray, List.set_cons_zero, List.set_cons_succ]
  refine wpAnyH_take (i := 5) (v := ?_) rfl (by kernel_rfl) (by kernel_rfl) (by kernel_rfl) (fun _ _ _ h => h) (Or.inl ⟨by rfl, ?_⟩) (by assumption) ?_
  rotate_left
  · intro w hSw; (try dsimp only at hSw); go_simp <;> with_reducible rfl
  try simp only [Act.put, List.getElem_toArray, List.getElem_cons_zero, List.getElem_cons_succ, List.setIfInBounds_toArray, List.set_cons_zero, List.set_cons_succ]
  refine wpAnyH_take (i := 6) (v := ?_) rfl (by kernel_rfl) (by kernel_rfl) (by kernel_rfl) (fun _ _ _ h => h) (Or.inl ⟨by rfl, ?_⟩) (by assumption) ?_
  rotate_left
  · intro w hSw; (try dsimp only at hSw); go_simp <;> with_reducible rfl
  try simp only [Act.put, List.getElem_toArray, List.getElem_cons_zero, List.getElem_cons_succ, List.setIfInBounds_toArray, List.set_cons_zero, List.set_cons_succ]
  refine wpAnyH_take (i := 7) (v := ?_) rfl (by kernel_rfl) (by kernel_rfl) (by kernel_rfl) (fun _ _ _ h => h) (Or.inl ⟨by rfl, ?_⟩) (by assumption) ?_
  rotate_left
  · intro w hSw; (try dsimp only at hSw); go_simp <;> with_reducible rfl
  try simp only [Act.put, List.getElem_toArray, List.getElem_cons_zero, List.getElem_cons_succ, List.setIfInBounds_toArray, List.set_cons_zero, List.set_cons_succ]
  refine wpAnyH_take (i := 8) (v := ?_) rfl (by kernel_rfl) (by kernel_rfl) (by kernel_rfl) (fun _ _ _ h => h) (Or.inl ⟨by rfl, ?_⟩) (by assumption) ?_
  rotate_left
  · intro w hSw; (try dsimp only at hSw); go_simp <;> with_reducible rfl
  try simp only [Act.put, List.getElem_toArray, List.getElem_cons_zero, List.getElem_cons_succ, List.setIfInBounds_toArray, List.set_cons_zero, List.set_cons_succ]
  refine wpAnyH_take (i := 9) (v := ?_) rfl (by kernel_rfl) (by kernel_rfl) (by kernel_rfl) (fun _ _ _ h => h) (Or.inl ⟨by rfl, ?_⟩) (by assumption) ?_
  rotate_left
  · intro w hSw; (try dsimp only at hSw); go_simp <;> with_reducible rfl
  try simp only [Act.put, List.getElem_toArray, List.getElem_cons_zero, List.getElem_cons_succ, List.setIfInBounds_toArray, List.set_cons_zero, List.set_cons_succ]
  refine wpAnyH_take (i := 11) (v := ?_) rfl (by kernel_rfl) (by kernel_rfl) (by kernel_rfl) (fun _ _ _ h => h) (Or.inl ⟨by rfl, ?_⟩) (by assumption) ?_
  rotate_left
  · intro w hSw; (try dsimp only at hSw); go_simp <;> with_reducible rfl
  try simp only [Act.put, List.getElem_toArray, List.getElem_cons_zero, List.getElem_cons_succ, List.setIfInBounds_toArray, List.set_cons_zero, List.set_cons_succ]
  refine wpAnyH_take (i := 12) (v := ?_) rfl (by kernel_rfl) (by kernel_rfl) (by kernel_rfl) (fun _ _ _ h => h) (Or.inl ⟨by rfl, ?_⟩) (by assumption) ?_
  rotate_left
  · intro w hSw; (try dsimp only at hSw); go_simp <;> with_reducible rfl
  try simp only [Act.put, List.getElem_toArray, List.getElem_cons_zero, List.getElem_cons_succ, List.setIfInBounds_toArray, List.set_cons_zero, List.set_cons_succ]
  refine wpAnyH_take (i := 13) (v := ?_) rfl (by kernel_rfl) (by kernel_rfl) (by kernel_rfl) (fun _ _ _ h => h) (Or.inl ⟨by rfl, ?_⟩) (by assumption) ?_
  rotate_left
  · intro w hSw; (try dsimp only at hSw); go_simp <;> with_reducible rfl
  try simp only [Act.put, List.getElem_toArray, List.getElem_cons_zero, List.getElem_cons_succ, List.setIfInBounds_toArray, List.set_cons_zero, List.set_cons_succ]
  refine wpAnyH_ready (rs := [10]) (by kernel_rfl) (by simp) ?_
  refine AllReadyH.cons rfl (fun K hK => ?_) AllReadyH.nil
  go_simp
  refine (hSt.out _ kw2).mono ?_
  rintro e x3 ⟨rfl, hx3⟩
  rw [hx3]
  (try go_wp2_with fail)
  refine hK.out _ _ ?_ (fun hHeld => ?_)
  · exact hHeld
  clear hK K
  try simp only [Act.put, List.getElem_toArray, List.getElem_cons_zero, List.getElem_cons_succ, List.setIfInBounds_toArray, List.set_cons_zero, List.set_cons_succ]
  refine wpAnyH_take (i := 14) (v := ?_) rfl (by kernel_rfl) (by kernel_rfl) (by kernel_rfl) (fun _ _ _ h => h) (Or.inl ⟨by rfl, ?_⟩) (by assumption) ?_
  rotate_left
  · intro w hSw; (try dsimp only at hSw); go_simp <;> with_reducible rfl
  try simp only [Act.put, List.getElem_toArray, List.getElem_cons_zero, List.getElem_cons_succ, List.setIfInBounds_toArray, List.set_cons_zero, List.set_cons_succ]
  refine wpAnyH_take (i := 15) (v := ?_) rfl (by kernel_rfl) (by kernel_rfl) (by kernel_rfl) (fun _ _ _ h => h) (Or.inl ⟨by rfl, ?_⟩) (by assumption) ?_
  rotate_left
  · intro w hSw; (try dsimp only at hSw); go_simp <;> with_reducible rfl
  try simp only [Act.put, List.getElem_toArray, List.getElem_cons_zero, List.getElem_cons_succ, List.setIfInBounds_toArray, List.set_cons_zero, List.set_cons_succ]
  refine wpAnyH_take (i := 16) (v := ?_) rfl (by kernel_rfl) (by kernel_rfl) (by kernel_rfl) (fun _ _ _ h => h) (Or.inl ⟨by rfl, ?_⟩) (by assumption) ?_
  rotate_left
  · intro w hSw; (try dsimp only at hSw); go_simp <;> with_reducible rfl
  try simp only [Act.put, List.getElem_toArray, List.getElem_cons_zero, List.getElem_cons_succ, List.setIfInBounds_toArray, List.set_cons_zero, List.set_cons_succ]
  refine wpAnyH_take (i := 17) (v := ?_) rfl (by kernel_rfl) (by kernel_rfl) (by kernel_rfl) (fun _ _ _ h => h) (Or.inl ⟨by rfl, ?_⟩) (by assumption) ?_
  rotate_left
  · intro w hSw; (try dsimp only at hSw); go_simp <;> with_reducible rfl
  try simp only [Act.put, List.getElem_toArray, List.getElem_cons_zero, List.getElem_cons_succ, List.setIfInBounds_toArray, List.set_cons_zero, List.set_cons_succ]
  refine wpAnyH_take (i := 18) (v := ?_) rfl (by kernel_rfl) (by kernel_rfl) (by kernel_rfl) (fun _ _ _ h => h) (Or.inl ⟨by rfl, ?_⟩) (by assumption) ?_
  rotate_left
  · intro w hSw; (try dsimp only at hSw); go_simp <;> with_reducible rfl
  try simp only [Act.put, List.getElem_toArray, List.getElem_cons_zero, List.getElem_cons_succ, List.setIfInBounds_toArray, List.set_cons_zero, List.set_cons_succ]
  refine wpAnyH_take (i := 20) (v := ?_) rfl (by kernel_rfl) (by kernel_rfl) (by kernel_rfl) (fun _ _ _ h => h) (Or.inl ⟨by rfl, ?_⟩) (by assumption) ?_
  rotate_left
  · intro w hSw; (try dsimp only at hSw); go_simp <;> with_reducible rfl
  try simp only [Act.put, List.getElem_toArray, List.getElem_cons_zero, List.getElem_cons_succ, List.setIfInBounds_toArray, List.set_cons_zero, List.set_cons_succ]
  refine wpAnyH_take (i := 21) (v := ?_) rfl (by kernel_rfl) (by kernel_rfl) (by kernel_rfl) (fun _ _ _ h => h) (Or.inl ⟨by rfl, ?_⟩) (by assumption) ?_
  rotate_left
  · intro w hSw; (try dsimp only at hSw); go_simp <;> with_reducible rfl
  try simp only [Act.put, List.getElem_toArray, List.getElem_cons_zero, List.getElem_cons_succ, List.setIfInBounds_toArray, List.set_cons_zero, List.set_cons_succ]
  refine wpAnyH_take (i := 22) (v := ?_) rfl (by kernel_rfl) (by kernel_rfl) (by kernel_rfl) (fun _ _ _ h => h) (Or.inl ⟨by rfl, ?_⟩) (by assumption) ?_
  rotate_left
  · intro w hSw; (try dsimp only at hSw); go_simp <;> with_reducible rfl
  try simp only [Act.put, List.getElem_toArray, List.getElem_cons_zero, List.getElem_cons_succ, List.setIfInBounds_toArray, List.set_cons_zero, List.set_cons_succ]
  refine wpAnyH_ready (rs := [19]) (by kernel_rfl) (by simp) ?_
  refine AllReadyH.cons rfl (fun K hK => ?_) AllReadyH.nil
  go_simp
  refine (hDd.out _ kw2).mono ?_
  rintro e x4 ⟨rfl, hx4⟩
  rw [hx4]
  (try go_wp2_with fail)
  refine hK.out _ _ ?_ (fun hHeld => ?_)
  · exact hHeld
  clear hK K
  try simp only [Act.put, List.getElem_toArray, List.getElem_cons_zero, List.getElem_cons_succ, List.setIfInBounds_toArray, List.set_cons_zero, List.set_cons_succ]
  refine wpAnyH_take (i := 23) (v := ?_) rfl (by kernel_rfl) (by kernel_rfl) (by kernel_rfl) (fun _ _ _ h => h) (Or.inl ⟨by rfl, ?_⟩) (by assumption) ?_
  rotate_left
  · intro w hSw; (try dsimp only at hSw); go_simp <;> with_reducible rfl
  try simp only [Act.put, List.getElem_toArray, List.getElem_cons_zero, List.getElem_cons_succ, List.setIfInBounds_toArray, List.set_cons_zero, List.set_cons_succ]
  refine wpAnyH_take (i := 24) (v := ?_) rfl (by kernel_rfl) (by kernel_rfl) (by kernel_rfl) (fun _ _ _ h => h) (Or.inl ⟨by rfl, ?_⟩) (by assumption) ?_
  rotate_left
  · intro w hSw; (try dsimp only at hSw); go_simp <;> with_reducible rfl
  try simp only [Act.put, List.getElem_toArray, List.getElem_cons_zero, List.getElem_cons_succ, List.setIfInBounds_toArray, List.set_cons_zero, List.set_cons_succ]
  refine wpAnyH_done (by kernel_rfl) ?_ _
  go_wp2_with fail
  have kA2 : Kp [] w2 w2.drew := ((Kp.refl [] w2).drew).trans (Kp.refl [] w2.drew) (by simp)
  have bxA := bx2.kept kA2 hq2
  have e2 := bxA.get 4 _ rfl
  have e3 := bxA.get 0 _ rfl
  clear hHeld
  go_wp2_with fail
  go_loopw [4, 40] (fun _ i wn => ∃ j : Nat, j ≤ l.length ∧ i = .int .i64 j ∧ Kp [] w2.drew wn) (fun _ i _ => l.length - (intOf i).toNat)
  case atStart => exact ⟨0, Nat.zero_le _, rfl, (Kp.refl [] w2.drew)⟩
  case round =>
    clear e2 e3
    obtain ⟨j, hj, rfl, kn⟩ := hrel
    by_cases hjl : j < l.length
    · obtain ⟨f, hf⟩ : ∃ f, l[j]? = some f := ⟨l[j], by simp [hjl]⟩
      have hfm := List.mem_of_getElem? hf
      have hfn : (l.map RF.name)[j]? = some f.name := by simp [hf]
      rcases hnm1 with hnil | ⟨g1, rfl, hc1⟩
      · rw [hnil] at hfn; simp at hfn
      have hrn := hr2.keptNew kn
      obtain ⟨g, o, ea, c0, c1, c2⟩ := hrn.fls.at hf
      simp only at ea
      subst ea
      have hse := hrn.see f hfm
      obtain ⟨wb, hwb⟩ : ∃ wb, wr.alloc (.cells #[.string ⟨f.name.toArray⟩, .slice f.ba f.bytes.length f.bc, .int .i64 (f.last : Int)] 68) = wb := ⟨_, rfl⟩
      have kb : Kp [] wr wb := by rw [← hwb]; exact (Kp.refl _ _).alloc _
      have bf : B3 wb wr.heap.size (.string ⟨f.name.toArray⟩) (.slice f.ba f.bytes.length f.bc) (.int .i64 (f.last : Int)) := by rw [← hwb]; exact B3.at _ rfl _ _ _ _
      have knb : Kp [] w2.drew wb := kn.trans kb (by simp)
      have hS9 := (hS.out _ knb).1
      have hS8 := (hS.out _ kn).1
      have hqr := World.block_lt_of_cell? _ _ hS8
      dsimp only at hqr
      have hqn : w.heap.size ≠ wr.heap.size := by omega
      have aR := hRd.out wb (kw2.trans knb (by simp)) f hfm
      have f0 := bf.c0
      have hwb' := hid hwb
      have hcn := hc1 j _ hfn
      clear hc1 hf hfn hwb
      go_wp2_with fail
      rw [hwb'.out]
      clear c0 c1 c2
      go_wp2_with fail
      refine aR.mono ?_
      rintro e w8 ⟨ra, rc, rfl, hr8, k8, _⟩
      obtain ⟨_, _, er8, hs8, _⟩ := hr8.sees
      cases er8
      have bf8 := bf.kept k8
      have hse8 : Sees w8 f.ba f.bytes := (hse.1.kept kb (by simp)).kept k8 (by simp)
      obtain ⟨str, hstr⟩ : ∃ str : ByteArray, str = ⟨f.bytes.toArray⟩ := ⟨_, rfl⟩
      obtain ⟨ln, hln⟩ : ∃ ln : Nat, ln = f.bytes.length := ⟨_, rfl⟩
      obtain ⟨nst, hnst⟩ : ∃ nst : ByteArray, nst = ⟨f.name.toArray⟩ := ⟨_, rfl⟩
      have k28 : Kp [] w2 w8 := (((Kp.refl [] w2).drew).trans knb (by simp)).trans k8 (by simp)
      have d1 : w8.drew.cell? ⟨g1, j, none⟩ = some (.string nst) := by rw [hnst]; exact cell_kp k28.drew hcn
      have d2 : w8.drew.cell? ⟨wr.heap.size, 0, none⟩ = some (.string nst) := by rw [hnst]; exact (bf8.kept (w' := w8.drew) (Kp.refl _ _).drew).c0
      have d3 : w8.drew.cell? ⟨wr.heap.size, 1, none⟩ = some (.slice f.ba ln f.bc) := by rw [hln]; exact (bf8.kept (w' := w8.drew) (Kp.refl _ _).drew).c1
      have cv1 : (convert 45 9 (.slice ra ln rc)).run Tryz.prog w8.drew = .ok (.string str) w8.drew := by rw [hln, hstr]; exact convSees hs8.drew rc
      have cv2 : (convert 45 9 (.slice f.ba ln f.bc)).run Tryz.prog w8.drew = .ok (.string str) w8.drew := by rw [hln, hstr]; exact convSees hse8.drew f.bc
      rw [← hln]
      have hfin : Kp [] w2.drew w8.drew := (knb.trans k8 (by simp)).drew
      have hSf : w8.drew.cell? ⟨g1, j, none⟩ = some (.string nst) ∧ w8.drew.cell? ⟨wr.heap.size, 0, none⟩ = some (.string nst) ∧ w8.drew.cell? ⟨wr.heap.size, 1, none⟩ = some (.slice f.ba ln f.bc) ∧ (convert 45 9 (.slice ra ln rc)).run Tryz.prog w8.drew = .ok (.string str) w8.drew ∧ (convert 45 9 (.slice f.ba ln f.bc)).run Tryz.prog w8.drew = .ok (.string str) w8.drew := ⟨d1, d2, d3, cv1, cv2⟩
      clear aR hcn hs8 hr8 bf bf8 hse hse8 f0 hln hstr hnst
      go_wp2_with fail
      go_region_held3 (fun w' => w'.cell? ⟨g1, j, none⟩ = some (.string nst) ∧ w'.cell? ⟨wr.heap.size, 0, none⟩ = some (.string nst) ∧ w'.cell? ⟨wr.heap.size, 1, none⟩ = some (.slice f.ba ln f.bc) ∧ (convert 45 9 (.slice ra ln rc)).run Tryz.prog w' = .ok (.string str) w' ∧ (convert 45 9 (.slice f.ba ln f.bc)).run Tryz.prog w' = .ok (.string str) w')
        (first | assumption) (fail)
      go_wp2_with fail
      exact ⟨⟨j + 1, by omega, by go_num, hfin⟩, by simp [intOf]; omega⟩
    · have kf : Kp [] w wr := kw2.trans kn (by simp)
      go_wp2_with fail
      go_ret
      exact ⟨rfl, kf⟩
end Go.Proofs.YtpkoikennimonaaGreatDoor
end

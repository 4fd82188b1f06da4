/- The law on orders: values are in a total order; what is alike is the same. -/
import Derived.Test.YtboibllahibicaaDoorVmat
import Derived.Test.YtboibllahibicaaDoorVlay
namespace Go.Proofs.YtboibllahibicaaDoor
open Go.RowKit Go.Hay
set_option linter.unusedVariables false
set_option linter.unusedSimpArgs false

/-- Three values' boxes. -/
structure Three (w : World) (q : Nat) (a0 a1 a2 a3 b0 b1 b2 b3 c0 c1 c2 c3 : Value) (w' : World) : Prop where
  a : Box4 w' q a0 a1 a2 a3
  b : Box4 w' (q + 1) b0 b1 b2 b3
  c : Box4 w' (q + 2) c0 c1 c2 c3
  k : Kp [] w w'
theorem Three.kept {w w1 w2 : World} {q : Nat} {a0 a1 a2 a3 b0 b1 b2 b3 c0 c1 c2 c3 : Value} (h : Three w q a0 a1 a2 a3 b0 b1 b2 b3 c0 c1 c2 c3 w1) (k : Kp [] w1 w2) : Three w q a0 a1 a2 a3 b0 b1 b2 b3 c0 c1 c2 c3 w2 :=
  ⟨h.a.kept k (by simp), h.b.kept k (by simp), h.c.kept k (by simp), h.k.trans k (by simp)⟩

/-- Where both are right. -/
def Imp (ra rb : Bool) (x : Int) (X : Bool) : Prop := ra = true → rb = true → (x == 0) = X

theorem Vals.two (w : World) (x y : Val) (t : TypeId) : Vals (w.alloc (.cells #[.int .i64 x.k, .bool x.b, .int .i64 x.n, .string x.t, .int .i64 y.k, .bool y.b, .int .i64 y.n, .string y.t] t)) (some ⟨w.heap.size, 0, none⟩) [x, y] := by
  refine .inr ⟨_, _, rfl, fun j z hz => ?_⟩
  match j, hz with
  | 0, hz => cases hz; exact ⟨World.cell?_alloc_new w _ _ 0, World.cell?_alloc_new w _ _ 1, World.cell?_alloc_new w _ _ 2, World.cell?_alloc_new w _ _ 3⟩
  | 1, hz => cases hz; exact ⟨World.cell?_alloc_new w _ _ 4, World.cell?_alloc_new w _ _ 5, World.cell?_alloc_new w _ _ 6, World.cell?_alloc_new w _ _ 7⟩
  | j + 2, hz => simp at hz
theorem Vals.one (w : World) (x : Val) (t : TypeId) : Vals (w.alloc (.cells #[.int .i64 x.k, .bool x.b, .int .i64 x.n, .string x.t] t)) (some ⟨w.heap.size, 0, none⟩) [x] := by
  refine .inr ⟨_, _, rfl, fun j z hz => ?_⟩
  match j, hz with
  | 0, hz => cases hz; exact ⟨World.cell?_alloc_new w _ _ 0, World.cell?_alloc_new w _ _ 1, World.cell?_alloc_new w _ _ 2, World.cell?_alloc_new w _ _ 3⟩
  | j + 1, hz => simp at hz
theorem Vals.at2 {w : World} (q : Nat) (hq : w.heap.size = q) (x y : Val) (t : TypeId) : Vals (w.alloc (.cells #[.int .i64 x.k, .bool x.b, .int .i64 x.n, .string x.t, .int .i64 y.k, .bool y.b, .int .i64 y.n, .string y.t] t)) (some ⟨q, 0, none⟩) [x, y] := by subst hq; exact Vals.two w x y t

theorem Vals.at1 {w : World} (q : Nat) (hq : w.heap.size = q) (x : Val) (t : TypeId) : Vals (w.alloc (.cells #[.int .i64 x.k, .bool x.b, .int .i64 x.n, .string x.t] t)) (some ⟨q, 0, none⟩) [x] := by subst hq; exact Vals.one w x t

set_option maxHeartbeats 8000000 in
set_option maxRecDepth 100000 in
theorem orderWalk (a b c : Val) (w : World) (ht : Pow w) : Calls Tryd.prog 6 #[a.v, b.v, c.v] w fun e w' => e = .returned (.bool true) ∧ Below w.heap.size w w' := by
  have hx := cmp_range a b
  have hy := cmp_range b c
  have hab := cCompare a b
  have hbc := cCompare b c
  have hba := cCompare b a
  have haa := cCompare a a
  have hac := cCompare a c
  have hra := cRight a
  have hrb := cRight b
  rw [cmp_neg a b] at hba
  rw [cmp_self] at haa
  have htr := cmp_trans a b c
  have heq := cmp_eqv a b
  have R1 := fun (w' : World) (p q : Option Addr) (u v : Nat) (h1 : Vals w' p [a, b]) (h2 : Vals w' q [a, c]) => cRows p q u v [a, b] [a, c] w' h1 h2 (by simp) (by simp)
  have R2 := fun (w' : World) (p q : Option Addr) (u v : Nat) (h1 : Vals w' p [a]) (h2 : Vals w' q [a, c]) => cRows p q u v [a] [a, c] w' h1 h2 (by simp) (by simp)
  rw [rows_two] at R1
  rw [rows_one] at R2
  obtain ⟨X, HX, hX⟩ := eqV a b
  rw [← HX.out] at heq
  clear HX
  generalize cmpV a b = x at *
  generalize cmpV b c = y at *
  generalize cmpV a c = z at *
  generalize a.right = ra at *
  generalize b.right = rb at *
  have HT := hid htr
  have HE : Imp ra rb x X := heq
  clear htr heq
  have hwx : IntKind.i64.wrap (-x) = -x := by rw [IntKind.wrap_i64]; omega
  have V2 := fun (w' : World) (q : Nat) (hq : w'.heap.size = q) => Vals.at2 q hq a b 25
  have V1 := fun (w' : World) (q : Nat) (hq : w'.heap.size = q) => Vals.at1 q hq a 25
  have V3 := fun (w' : World) (q : Nat) (hq : w'.heap.size = q) => Vals.at2 q hq a c 25
  obtain ⟨ak, ab, an, at'⟩ := a
  obtain ⟨bk, bb, bn, bt⟩ := b
  obtain ⟨ck, cb, cn, ct⟩ := c
  unfold Val.v at *
  dsimp only at hab hbc hba haa hac hra hrb hX
  have hW : Three w w.heap.size (.int .i64 ak) (.bool ab) (.int .i64 an) (.string at') (.int .i64 bk) (.bool bb) (.int .i64 bn) (.string bt) (.int .i64 ck) (.bool cb) (.int .i64 cn) (.string ct) (((w.alloc (.cells #[.int .i64 ak, .bool ab, .int .i64 an, .string at'] 25)).alloc (.cells #[.int .i64 bk, .bool bb, .int .i64 bn, .string bt] 25)).alloc (.cells #[.int .i64 ck, .bool cb, .int .i64 cn, .string ct] 25)) :=
    ⟨((Box4.new w _ _ _ _ _).kept (S := []) ((Kp.refl _ _).alloc _) (by simp)).kept (S := []) ((Kp.refl _ _).alloc _) (by simp), (Box4.at (w.heap.size + 1) (by simp) _ _ _ _ _).kept (S := []) ((Kp.refl _ _).alloc _) (by simp), Box4.at (w.heap.size + 2) (by simp) _ _ _ _ _, (((Kp.refl _ _).alloc _).alloc _).alloc _⟩
  go_enter Tryd.func6, Tryd.ntmps6
  go_wp2_with fail
  refine (hab _).mono ?_
  rintro e w' ⟨rfl, k'⟩
  have hW := hW.kept k'
  clear k'
  have la := hW.a.lt; have lb := hW.b.lt; have lc := hW.c.lt; have p0 := hW.a.c0; have p1 := hW.a.c1; have p2 := hW.a.c2; have p3 := hW.a.c3; have b0 := hW.b.c0; have b1 := hW.b.c1; have b2 := hW.b.c2; have b3 := hW.b.c3; have c0 := hW.c.c0; have c1 := hW.c.c1; have c2 := hW.c.c2; have c3 := hW.c.c3
  go_wp2_with fail
  refine (hbc _).mono ?_
  rintro e w' ⟨rfl, k'⟩
  have hW := hW.kept k'
  clear k'
  have la := hW.a.lt; have lb := hW.b.lt; have lc := hW.c.lt; have p0 := hW.a.c0; have p1 := hW.a.c1; have p2 := hW.a.c2; have p3 := hW.a.c3; have b0 := hW.b.c0; have b1 := hW.b.c1; have b2 := hW.b.c2; have b3 := hW.b.c3; have c0 := hW.c.c0; have c1 := hW.c.c1; have c2 := hW.c.c2; have c3 := hW.c.c3
  go_wp2_with fail
  refine (cAlive _ (ht.kept hW.k)).mono ?_
  rintro e w' ⟨rfl, k'⟩
  have hW := hW.kept k'
  clear k'
  have la := hW.a.lt; have lb := hW.b.lt; have lc := hW.c.lt; have p0 := hW.a.c0; have p1 := hW.a.c1; have p2 := hW.a.c2; have p3 := hW.a.c3; have b0 := hW.b.c0; have b1 := hW.b.c1; have b2 := hW.b.c2; have b3 := hW.b.c3; have c0 := hW.c.c0; have c1 := hW.c.c1; have c2 := hW.c.c2; have c3 := hW.c.c3
  go_wp2_with fail
  refine (hba _).mono ?_
  rintro e w' ⟨rfl, k'⟩
  have hW := hW.kept k'
  clear k'
  have la := hW.a.lt; have lb := hW.b.lt; have lc := hW.c.lt; have p0 := hW.a.c0; have p1 := hW.a.c1; have p2 := hW.a.c2; have p3 := hW.a.c3; have b0 := hW.b.c0; have b1 := hW.b.c1; have b2 := hW.b.c2; have b3 := hW.b.c3; have c0 := hW.c.c0; have c1 := hW.c.c1; have c2 := hW.c.c2; have c3 := hW.c.c3
  go_wp2_with fail
  refine (haa _).mono ?_
  rintro e w' ⟨rfl, k'⟩
  have hW := hW.kept k'
  clear k'
  have la := hW.a.lt; have lb := hW.b.lt; have lc := hW.c.lt; have p0 := hW.a.c0; have p1 := hW.a.c1; have p2 := hW.a.c2; have p3 := hW.a.c3; have b0 := hW.b.c0; have b1 := hW.b.c1; have b2 := hW.b.c2; have b3 := hW.b.c3; have c0 := hW.c.c0; have c1 := hW.c.c1; have c2 := hW.c.c2; have c3 := hW.c.c3
  by_cases hxx : x ≤ 0
  · by_cases hyy : y ≤ 0
    · have hz : z ≤ 0 := HT.out hxx hyy
      go_wp2_with fail
      refine (hac _).mono ?_
      rintro e w' ⟨rfl, k'⟩
      have hW := hW.kept k'
      clear k'
      have la := hW.a.lt; have lb := hW.b.lt; have lc := hW.c.lt; have p0 := hW.a.c0; have p1 := hW.a.c1; have p2 := hW.a.c2; have p3 := hW.a.c3; have b0 := hW.b.c0; have b1 := hW.b.c1; have b2 := hW.b.c2; have b3 := hW.b.c3; have c0 := hW.c.c0; have c1 := hW.c.c1; have c2 := hW.c.c2; have c3 := hW.c.c3
      go_wp2_with fail
      refine (hra _).mono ?_
      rintro e w' ⟨rfl, k'⟩
      have hW := hW.kept k'
      clear k'
      have la := hW.a.lt; have lb := hW.b.lt; have lc := hW.c.lt; have p0 := hW.a.c0; have p1 := hW.a.c1; have p2 := hW.a.c2; have p3 := hW.a.c3; have b0 := hW.b.c0; have b1 := hW.b.c1; have b2 := hW.b.c2; have b3 := hW.b.c3; have c0 := hW.c.c0; have c1 := hW.c.c1; have c2 := hW.c.c2; have c3 := hW.c.c3
      cases ra
      · go_wp2_with fail
        refine (R1 _ _ _ _ _ ((V2 w' _ rfl).kept ((Kp.refl _ _).alloc _)) (V3 _ (w'.heap.size + 1) (by simp))).mono ?_
        rintro e w'' ⟨rfl, k'⟩
        have hW := hW.kept ((((Kp.refl [] w').alloc _).alloc _).trans k' (by simp))
        clear k'
        have la := hW.a.lt; have lb := hW.b.lt; have lc := hW.c.lt; have p0 := hW.a.c0; have p1 := hW.a.c1; have p2 := hW.a.c2; have p3 := hW.a.c3; have b0 := hW.b.c0; have b1 := hW.b.c1; have b2 := hW.b.c2; have b3 := hW.b.c3; have c0 := hW.c.c0; have c1 := hW.c.c1; have c2 := hW.c.c2; have c3 := hW.c.c3
        go_wp2_with fail
        refine (R2 _ _ _ _ _ ((V1 w'' _ rfl).kept ((Kp.refl _ _).alloc _)) (V3 _ (w''.heap.size + 1) (by simp))).mono ?_
        rintro e w3 ⟨rfl, k'⟩
        have hW := hW.kept ((((Kp.refl [] w'').alloc _).alloc _).trans k' (by simp))
        go_wp2_with fail
        go_ret
        exact ⟨rfl, hW.k.below⟩
      · go_wp2_with fail
        refine (hrb _).mono ?_
        rintro e w' ⟨rfl, k'⟩
        have hW := hW.kept k'
        clear k'
        have la := hW.a.lt; have lb := hW.b.lt; have lc := hW.c.lt; have p0 := hW.a.c0; have p1 := hW.a.c1; have p2 := hW.a.c2; have p3 := hW.a.c3; have b0 := hW.b.c0; have b1 := hW.b.c1; have b2 := hW.b.c2; have b3 := hW.b.c3; have c0 := hW.c.c0; have c1 := hW.c.c1; have c2 := hW.c.c2; have c3 := hW.c.c3
        cases rb
        · go_wp2_with fail
          refine (R1 _ _ _ _ _ ((V2 w' _ rfl).kept ((Kp.refl _ _).alloc _)) (V3 _ (w'.heap.size + 1) (by simp))).mono ?_
          rintro e w'' ⟨rfl, k'⟩
          have hW := hW.kept ((((Kp.refl [] w').alloc _).alloc _).trans k' (by simp))
          clear k'
          have la := hW.a.lt; have lb := hW.b.lt; have lc := hW.c.lt; have p0 := hW.a.c0; have p1 := hW.a.c1; have p2 := hW.a.c2; have p3 := hW.a.c3; have b0 := hW.b.c0; have b1 := hW.b.c1; have b2 := hW.b.c2; have b3 := hW.b.c3; have c0 := hW.c.c0; have c1 := hW.c.c1; have c2 := hW.c.c2; have c3 := hW.c.c3
          go_wp2_with fail
          refine (R2 _ _ _ _ _ ((V1 w'' _ rfl).kept ((Kp.refl _ _).alloc _)) (V3 _ (w''.heap.size + 1) (by simp))).mono ?_
          rintro e w3 ⟨rfl, k'⟩
          have hW := hW.kept ((((Kp.refl [] w'').alloc _).alloc _).trans k' (by simp))
          go_wp2_with fail
          go_ret
          exact ⟨rfl, hW.k.below⟩
        · have hXX : (x == 0) = X := HE rfl rfl
          subst hXX
          go_wp2_with fail
          refine (R1 _ _ _ _ _ ((V2 w' _ rfl).kept ((Kp.refl _ _).alloc _)) (V3 _ (w'.heap.size + 1) (by simp))).mono ?_
          rintro e w'' ⟨rfl, k'⟩
          have hW := hW.kept ((((Kp.refl [] w').alloc _).alloc _).trans k' (by simp))
          clear k'
          have la := hW.a.lt; have lb := hW.b.lt; have lc := hW.c.lt; have p0 := hW.a.c0; have p1 := hW.a.c1; have p2 := hW.a.c2; have p3 := hW.a.c3; have b0 := hW.b.c0; have b1 := hW.b.c1; have b2 := hW.b.c2; have b3 := hW.b.c3; have c0 := hW.c.c0; have c1 := hW.c.c1; have c2 := hW.c.c2; have c3 := hW.c.c3
          go_wp2_with fail
          refine (R2 _ _ _ _ _ ((V1 w'' _ rfl).kept ((Kp.refl _ _).alloc _)) (V3 _ (w''.heap.size + 1) (by simp))).mono ?_
          rintro e w3 ⟨rfl, k'⟩
          have hW := hW.kept ((((Kp.refl [] w'').alloc _).alloc _).trans k' (by simp))
          go_wp2_with fail
          go_ret
          exact ⟨rfl, hW.k.below⟩
    · go_wp2_with fail
      refine (hra _).mono ?_
      rintro e w' ⟨rfl, k'⟩
      have hW := hW.kept k'
      clear k'
      have la := hW.a.lt; have lb := hW.b.lt; have lc := hW.c.lt; have p0 := hW.a.c0; have p1 := hW.a.c1; have p2 := hW.a.c2; have p3 := hW.a.c3; have b0 := hW.b.c0; have b1 := hW.b.c1; have b2 := hW.b.c2; have b3 := hW.b.c3; have c0 := hW.c.c0; have c1 := hW.c.c1; have c2 := hW.c.c2; have c3 := hW.c.c3
      cases ra
      · go_wp2_with fail
        refine (R1 _ _ _ _ _ ((V2 w' _ rfl).kept ((Kp.refl _ _).alloc _)) (V3 _ (w'.heap.size + 1) (by simp))).mono ?_
        rintro e w'' ⟨rfl, k'⟩
        have hW := hW.kept ((((Kp.refl [] w').alloc _).alloc _).trans k' (by simp))
        clear k'
        have la := hW.a.lt; have lb := hW.b.lt; have lc := hW.c.lt; have p0 := hW.a.c0; have p1 := hW.a.c1; have p2 := hW.a.c2; have p3 := hW.a.c3; have b0 := hW.b.c0; have b1 := hW.b.c1; have b2 := hW.b.c2; have b3 := hW.b.c3; have c0 := hW.c.c0; have c1 := hW.c.c1; have c2 := hW.c.c2; have c3 := hW.c.c3
        go_wp2_with fail
        refine (R2 _ _ _ _ _ ((V1 w'' _ rfl).kept ((Kp.refl _ _).alloc _)) (V3 _ (w''.heap.size + 1) (by simp))).mono ?_
        rintro e w3 ⟨rfl, k'⟩
        have hW := hW.kept ((((Kp.refl [] w'').alloc _).alloc _).trans k' (by simp))
        go_wp2_with fail
        go_ret
        exact ⟨rfl, hW.k.below⟩
      · go_wp2_with fail
        refine (hrb _).mono ?_
        rintro e w' ⟨rfl, k'⟩
        have hW := hW.kept k'
        clear k'
        have la := hW.a.lt; have lb := hW.b.lt; have lc := hW.c.lt; have p0 := hW.a.c0; have p1 := hW.a.c1; have p2 := hW.a.c2; have p3 := hW.a.c3; have b0 := hW.b.c0; have b1 := hW.b.c1; have b2 := hW.b.c2; have b3 := hW.b.c3; have c0 := hW.c.c0; have c1 := hW.c.c1; have c2 := hW.c.c2; have c3 := hW.c.c3
        cases rb
        · go_wp2_with fail
          refine (R1 _ _ _ _ _ ((V2 w' _ rfl).kept ((Kp.refl _ _).alloc _)) (V3 _ (w'.heap.size + 1) (by simp))).mono ?_
          rintro e w'' ⟨rfl, k'⟩
          have hW := hW.kept ((((Kp.refl [] w').alloc _).alloc _).trans k' (by simp))
          clear k'
          have la := hW.a.lt; have lb := hW.b.lt; have lc := hW.c.lt; have p0 := hW.a.c0; have p1 := hW.a.c1; have p2 := hW.a.c2; have p3 := hW.a.c3; have b0 := hW.b.c0; have b1 := hW.b.c1; have b2 := hW.b.c2; have b3 := hW.b.c3; have c0 := hW.c.c0; have c1 := hW.c.c1; have c2 := hW.c.c2; have c3 := hW.c.c3
          go_wp2_with fail
          refine (R2 _ _ _ _ _ ((V1 w'' _ rfl).kept ((Kp.refl _ _).alloc _)) (V3 _ (w''.heap.size + 1) (by simp))).mono ?_
          rintro e w3 ⟨rfl, k'⟩
          have hW := hW.kept ((((Kp.refl [] w'').alloc _).alloc _).trans k' (by simp))
          go_wp2_with fail
          go_ret
          exact ⟨rfl, hW.k.below⟩
        · have hXX : (x == 0) = X := HE rfl rfl
          subst hXX
          go_wp2_with fail
          refine (R1 _ _ _ _ _ ((V2 w' _ rfl).kept ((Kp.refl _ _).alloc _)) (V3 _ (w'.heap.size + 1) (by simp))).mono ?_
          rintro e w'' ⟨rfl, k'⟩
          have hW := hW.kept ((((Kp.refl [] w').alloc _).alloc _).trans k' (by simp))
          clear k'
          have la := hW.a.lt; have lb := hW.b.lt; have lc := hW.c.lt; have p0 := hW.a.c0; have p1 := hW.a.c1; have p2 := hW.a.c2; have p3 := hW.a.c3; have b0 := hW.b.c0; have b1 := hW.b.c1; have b2 := hW.b.c2; have b3 := hW.b.c3; have c0 := hW.c.c0; have c1 := hW.c.c1; have c2 := hW.c.c2; have c3 := hW.c.c3
          go_wp2_with fail
          refine (R2 _ _ _ _ _ ((V1 w'' _ rfl).kept ((Kp.refl _ _).alloc _)) (V3 _ (w''.heap.size + 1) (by simp))).mono ?_
          rintro e w3 ⟨rfl, k'⟩
          have hW := hW.kept ((((Kp.refl [] w'').alloc _).alloc _).trans k' (by simp))
          go_wp2_with fail
          go_ret
          exact ⟨rfl, hW.k.below⟩
  · go_wp2_with fail
    refine (hra _).mono ?_
    rintro e w' ⟨rfl, k'⟩
    have hW := hW.kept k'
    clear k'
    have la := hW.a.lt; have lb := hW.b.lt; have lc := hW.c.lt; have p0 := hW.a.c0; have p1 := hW.a.c1; have p2 := hW.a.c2; have p3 := hW.a.c3; have b0 := hW.b.c0; have b1 := hW.b.c1; have b2 := hW.b.c2; have b3 := hW.b.c3; have c0 := hW.c.c0; have c1 := hW.c.c1; have c2 := hW.c.c2; have c3 := hW.c.c3
    cases ra
    · go_wp2_with fail
      refine (R1 _ _ _ _ _ ((V2 w' _ rfl).kept ((Kp.refl _ _).alloc _)) (V3 _ (w'.heap.size + 1) (by simp))).mono ?_
      rintro e w'' ⟨rfl, k'⟩
      have hW := hW.kept ((((Kp.refl [] w').alloc _).alloc _).trans k' (by simp))
      clear k'
      have la := hW.a.lt; have lb := hW.b.lt; have lc := hW.c.lt; have p0 := hW.a.c0; have p1 := hW.a.c1; have p2 := hW.a.c2; have p3 := hW.a.c3; have b0 := hW.b.c0; have b1 := hW.b.c1; have b2 := hW.b.c2; have b3 := hW.b.c3; have c0 := hW.c.c0; have c1 := hW.c.c1; have c2 := hW.c.c2; have c3 := hW.c.c3
      go_wp2_with fail
      refine (R2 _ _ _ _ _ ((V1 w'' _ rfl).kept ((Kp.refl _ _).alloc _)) (V3 _ (w''.heap.size + 1) (by simp))).mono ?_
      rintro e w3 ⟨rfl, k'⟩
      have hW := hW.kept ((((Kp.refl [] w'').alloc _).alloc _).trans k' (by simp))
      go_wp2_with fail
      go_ret
      exact ⟨rfl, hW.k.below⟩
    · go_wp2_with fail
      refine (hrb _).mono ?_
      rintro e w' ⟨rfl, k'⟩
      have hW := hW.kept k'
      clear k'
      have la := hW.a.lt; have lb := hW.b.lt; have lc := hW.c.lt; have p0 := hW.a.c0; have p1 := hW.a.c1; have p2 := hW.a.c2; have p3 := hW.a.c3; have b0 := hW.b.c0; have b1 := hW.b.c1; have b2 := hW.b.c2; have b3 := hW.b.c3; have c0 := hW.c.c0; have c1 := hW.c.c1; have c2 := hW.c.c2; have c3 := hW.c.c3
      cases rb
      · go_wp2_with fail
        refine (R1 _ _ _ _ _ ((V2 w' _ rfl).kept ((Kp.refl _ _).alloc _)) (V3 _ (w'.heap.size + 1) (by simp))).mono ?_
        rintro e w'' ⟨rfl, k'⟩
        have hW := hW.kept ((((Kp.refl [] w').alloc _).alloc _).trans k' (by simp))
        clear k'
        have la := hW.a.lt; have lb := hW.b.lt; have lc := hW.c.lt; have p0 := hW.a.c0; have p1 := hW.a.c1; have p2 := hW.a.c2; have p3 := hW.a.c3; have b0 := hW.b.c0; have b1 := hW.b.c1; have b2 := hW.b.c2; have b3 := hW.b.c3; have c0 := hW.c.c0; have c1 := hW.c.c1; have c2 := hW.c.c2; have c3 := hW.c.c3
        go_wp2_with fail
        refine (R2 _ _ _ _ _ ((V1 w'' _ rfl).kept ((Kp.refl _ _).alloc _)) (V3 _ (w''.heap.size + 1) (by simp))).mono ?_
        rintro e w3 ⟨rfl, k'⟩
        have hW := hW.kept ((((Kp.refl [] w'').alloc _).alloc _).trans k' (by simp))
        go_wp2_with fail
        go_ret
        exact ⟨rfl, hW.k.below⟩
      · have hXX : (x == 0) = X := HE rfl rfl
        subst hXX
        go_wp2_with fail
        refine (R1 _ _ _ _ _ ((V2 w' _ rfl).kept ((Kp.refl _ _).alloc _)) (V3 _ (w'.heap.size + 1) (by simp))).mono ?_
        rintro e w'' ⟨rfl, k'⟩
        have hW := hW.kept ((((Kp.refl [] w').alloc _).alloc _).trans k' (by simp))
        clear k'
        have la := hW.a.lt; have lb := hW.b.lt; have lc := hW.c.lt; have p0 := hW.a.c0; have p1 := hW.a.c1; have p2 := hW.a.c2; have p3 := hW.a.c3; have b0 := hW.b.c0; have b1 := hW.b.c1; have b2 := hW.b.c2; have b3 := hW.b.c3; have c0 := hW.c.c0; have c1 := hW.c.c1; have c2 := hW.c.c2; have c3 := hW.c.c3
        go_wp2_with fail
        refine (R2 _ _ _ _ _ ((V1 w'' _ rfl).kept ((Kp.refl _ _).alloc _)) (V3 _ (w''.heap.size + 1) (by simp))).mono ?_
        rintro e w3 ⟨rfl, k'⟩
        have hW := hW.kept ((((Kp.refl [] w'').alloc _).alloc _).trans k' (by simp))
        go_wp2_with fail
        go_ret
        exact ⟨rfl, hW.k.below⟩
end Go.Proofs.YtboibllahibicaaDoor

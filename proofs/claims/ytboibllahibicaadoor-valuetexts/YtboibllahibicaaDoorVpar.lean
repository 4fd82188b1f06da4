/- Parse: the value whose text it is, or none. -/
import Derived.Test.YtboibllahibicaaDoorVgue
namespace Go.Proofs.YtboibllahibicaaDoor
open Go.RowKit Go.Hay
set_option linter.unusedVariables false
set_option linter.unusedSimpArgs false

/-- The value that a text is, or that it is none's. -/
def ParsePost (l : List UInt8) (e : Ending) : Prop :=
  (∃ x : Val, x.right = true ∧ x.in64 ∧ printB x = l ∧ e = .returned (.tuple #[x.v, .int .i64 0])) ∨
  ((∀ y : Val, y.right = true → y.in64 → printB y ≠ l) ∧ e = .returned (.tuple #[.agg #[.int .i64 0, .bool false, .int .i64 0, .string ⟨#[]⟩], .int .i64 21]))

/-- What is guessed and printed so is right. -/
def Rgt (ok : Bool) (x : Val) (l : List UInt8) : Prop := ok = true → printB x = l → x.right = true

set_option maxHeartbeats 8000000 in
set_option maxRecDepth 100000 in
theorem cParse (s : ByteArray) (w : World) (he : Errs w) (ht : Pow w) (hm : s.size ≤ 140737488355328) :
    Calls Tryd.prog 26 #[.string s] w fun e w' => ParsePost s.data.toList e ∧ Kp [] w w' := by
  obtain ⟨l, hl⟩ : ∃ l, s.data.toList = l := ⟨_, rfl⟩
  have hl2 : s.toList = l := by rw [Lib.toList_data]; exact hl
  have hk0 : Kp [] w (w.alloc (.cells #[.int .i64 0, .bool false, .int .i64 0, .string ⟨#[]⟩] 25)) := (Kp.refl _ _).alloc _
  have bR := Box4.new w (.int .i64 0) (.bool false) (.int .i64 0) (.string ⟨#[]⟩) 25
  have hg := cGuess s _ (he.kept hk0) hm
  rw [hl] at hg ⊢
  go_enter Tryd.func26, Tryd.ntmps26
  go_wp2_with fail
  refine hg.mono ?_
  rintro e w1 ⟨⟨x, ok, rfl, hx64, hnil, hall⟩, k1⟩
  have hP := fun w' (k : Pow w') => cPrint x hx64.1 hx64.2 w' k
  have bR1 := bR.kept k1 (by simp)
  have kk1 := hk0.trans k1 (by simp)
  have hright : Rgt ok x l := by
    intro h1 h2
    cases hr : x.right with
    | true => rfl
    | false =>
      have : printB x = [] := by unfold printB; rw [hr]; rfl
      rw [this] at h2
      have := hnil h2.symm
      rw [h1] at this
      cases this
  have HA := hid hall
  clear bR hk0 hg hall hnil
  obtain ⟨xk, xb, xn, xt⟩ := x
  unfold Val.v at *
  dsimp only at hP
  have bX := Box4.new w1 (.int .i64 xk) (.bool xb) (.int .i64 xn) (.string xt) 25
  have kX : Kp [] w1 (w1.alloc (.cells #[.int .i64 xk, .bool xb, .int .i64 xn, .string xt] 25)) := (Kp.refl _ _).alloc _
  have bR2 := bR1.kept kX (by simp)
  have kk2 := kk1.trans kX (by simp)
  obtain ⟨pb, Hpb⟩ : ∃ pb : List UInt8, Hid (printB ⟨xk, xb, xn, xt⟩ = pb) := ⟨_, rfl⟩
  rw [Hpb.out] at hP
  cases ok
  · obtain ⟨bR3, ks⟩ := setAll4 bR1 (.int .i64 0) (.bool false) (.int .i64 0) (.string ⟨#[]⟩)
    have kk3 := (kk1.trans ks (fun x hx => .inr (by simp at hx; omega))).alloc (.cells #[.int .i64 xk, .bool xb, .int .i64 xn, .string xt] 25)
    have bR4 := bR3.kept (S := []) ((Kp.refl _ _).alloc (.cells #[.int .i64 xk, .bool xb, .int .i64 xn, .string xt] 25)) (by simp)
    have q0 := bR2.c0; have q1 := bR2.c1; have q2 := bR2.c2; have q3 := bR2.c3; have qf := bR2.free
    have r0 := bR1.c0; have r1 := bR1.c1; have r2 := bR1.c2; have r3 := bR1.c3; have rf := bR1.free; have rl := bR1.lt
    have z0 := bR4.c0; have z1 := bR4.c1; have z2 := bR4.c2; have z3 := bR4.c3
    go_wp2_with fail
    exact bodyPost_ret (v := .tuple #[.agg #[.int .i64 0, .bool false, .int .i64 0, .string ⟨#[]⟩], .int .i64 21]) (by simp [results, Tryd.results26, go_sem, z0, z1, z2, z3]) rfl ⟨Or.inr ⟨fun y hy hy2 hp => absurd (HA.out y hy hy2 hp).1 (by simp), rfl⟩, kk3⟩
  · have hpl : (⟨pb.toArray⟩ : ByteArray).toList = pb := by rw [Lib.toList_data]
    go_wp2_with fail
    refine (hP _ (ht.kept kk2)).mono ?_
    rintro e w2 ⟨rfl, k2⟩
    have bR3 := bR2.kept k2 (by simp)
    have bX3 := bX.kept k2 (by simp)
    have kk3 := kk2.trans k2 (by simp)
    clear bR1 bR2 bX kX k1 k2 kk1 kk2 hP
    have q0 := bR3.c0; have q1 := bR3.c1; have q2 := bR3.c2; have q3 := bR3.c3; have qf := bR3.free
    by_cases hp : pb = l
    · subst hp
      have y0 := bX3.c0; have y1 := bX3.c1; have y2 := bX3.c2; have y3 := bX3.c3
      obtain ⟨bR4, ks⟩ := setAll4 bR3 (.int .i64 xk) (.bool xb) (.int .i64 xn) (.string xt)
      have kk4 := kk3.trans ks (fun x hx => .inr (by simp at hx; omega))
      have z0 := bR4.c0; have z1 := bR4.c1; have z2 := bR4.c2; have z3 := bR4.c3
      have hr := hright rfl Hpb.out
      go_wp2_with fail
      exact bodyPost_ret (v := .tuple #[.agg #[.int .i64 xk, .bool xb, .int .i64 xn, .string xt], .int .i64 0]) (by simp [results, Tryd.results26, go_sem, z0, z1, z2, z3]) rfl ⟨Or.inl ⟨⟨xk, xb, xn, xt⟩, hr, hx64, Hpb.out, rfl⟩, kk4⟩
    · have hpp : (pb == l) = false := by simpa using hp
      obtain ⟨bR4, ks⟩ := setAll4 bR3 (.int .i64 0) (.bool false) (.int .i64 0) (.string ⟨#[]⟩)
      have kk4 := kk3.trans ks (fun x hx => .inr (by simp at hx; omega))
      have z0 := bR4.c0; have z1 := bR4.c1; have z2 := bR4.c2; have z3 := bR4.c3
      have HN : Hid (∀ y : Val, y.right = true → y.in64 → printB y ≠ l) := by
        show ∀ y : Val, _
        intro y hy hy2 h
        have := (HA.out y hy hy2 h).2
        rw [← this, Hpb.out] at h
        exact hp h
      clear hp
      go_wp2_with fail
      exact bodyPost_ret (v := .tuple #[.agg #[.int .i64 0, .bool false, .int .i64 0, .string ⟨#[]⟩], .int .i64 21]) (by simp [results, Tryd.results26, go_sem, z0, z1, z2, z3]) rfl ⟨Or.inr ⟨HN.out, rfl⟩, kk4⟩
end Go.Proofs.YtboibllahibicaaDoor

/- How two values are ordered: the program's Compare, the reference's. -/
import Derived.Test.YtlehalhficlenaaVdef
namespace Go.Proofs.Ytlehalhficlenaa
open Go.RowKit Go.Hay
set_option linter.unusedVariables false
set_option linter.unusedSimpArgs false

/-- Is a text below another one? -/
def bl (s t : ByteArray) : Bool := Op.bytesLess s.toList t.toList
/-- Is a value below another one? -/
def Val.lt (a b : Val) : Bool :=
  if a.k ≠ b.k then decide (a.k < b.k) else if a.k = 1 then !a.b && b.b else if a.k = 2 then decide (a.n < b.n) else if a.k = 3 then bl a.t b.t else false
/-- The order of numbers, of texts, of bools. -/
def ci (x y : Int) : Int := if x < y then -1 else if y < x then 1 else 0
def cs (x y : ByteArray) : Int := if bl x y then -1 else if bl y x then 1 else 0
def cb (x y : Bool) : Int := if (!x && y) then -1 else if (!y && x) then 1 else 0
/-- The order. -/
def cmpV (a b : Val) : Int := if a.lt b then -1 else if b.lt a then 1 else 0

theorem less_irr : ∀ s : List UInt8, Op.bytesLess s s = false
  | [] => rfl
  | x :: s => by simp [Op.bytesLess, less_irr s]
theorem UInt8.lt_trichotomy (x y : UInt8) : x < y ∨ x = y ∨ y < x := by
  rw [UInt8.lt_iff_toNat_lt, UInt8.lt_iff_toNat_lt, ← UInt8.toNat_inj]
  omega
theorem less_total : ∀ s t : List UInt8, (!Op.bytesLess s t && !(s == t)) = Op.bytesLess t s
  | [], [] => rfl
  | [], y :: t => rfl
  | x :: s, [] => rfl
  | x :: s, y :: t => by
    have ih := less_total s t
    simp only [Op.bytesLess]
    rw [show ((x :: s : List UInt8) == y :: t) = (x == y && s == t) from rfl]
    rcases UInt8.lt_trichotomy x y with h | h | h
    · have h2 : ¬ y < x := fun h3 => by rw [UInt8.lt_iff_toNat_lt] at h h3; omega
      have h3 : (y == x) = false := by simp; rintro rfl; exact h2 h
      simp [h, h2, h3]
    · subst h
      have h2 : ¬ x < x := fun h3 => by rw [UInt8.lt_iff_toNat_lt] at h3; omega
      simp [h2]
      simpa using ih
    · have h2 : ¬ x < y := fun h3 => by rw [UInt8.lt_iff_toNat_lt] at h h3; omega
      have h3 : (x == y) = false := by simp; rintro rfl; exact h2 h
      simp [h, h2, h3]
theorem gtS (t : TypeId) (a b : ByteArray) : binOp .gtr t (.string a) (.string b) = pure (.bool (Op.bytesLess b.toList a.toList)) := by
  rw [← less_total]
  simp [binOp, Op.stringOp]

set_option maxHeartbeats 2000000 in
set_option maxRecDepth 100000 in
theorem cLess (a b : Val) (w : World) : Calls Try.prog 32 #[a.v, b.v] w fun e w' => e = .returned (.bool (a.lt b)) ∧ Kp [] w w' := by
  obtain ⟨ak, ab, an, at'⟩ := a
  obtain ⟨bk, bb, bn, bt⟩ := b
  unfold Val.v
  have kw : Kp [] w ((w.alloc (.cells #[.int .i64 ak, .bool ab, .int .i64 an, .string at'] 35)).alloc (.cells #[.int .i64 bk, .bool bb, .int .i64 bn, .string bt] 35)) := ((Kp.refl _ _).alloc _).alloc _
  by_cases hk : ak = bk
  · subst hk
    by_cases h1 : ak = 1
    · subst h1
      cases ab
      all_goals (go_enter Try.func32, Try.ntmps32; go_wp2_with fail; go_ret; exact ⟨by simp [Val.lt], kw⟩)
    by_cases h2 : ak = 2
    · subst h2
      go_enter Try.func32, Try.ntmps32
      go_wp2_with fail
      go_ret
      exact ⟨by simp [Val.lt], kw⟩
    by_cases h3 : ak = 3
    · subst h3
      go_enter Try.func32, Try.ntmps32
      go_wp2_with fail
      go_ret
      exact ⟨by simp [Val.lt, bl], kw⟩
    · have d1 : (ak == 1) = false := by simpa using h1
      have d2 : (ak == 2) = false := by simpa using h2
      have d3 : (ak == 3) = false := by simpa using h3
      go_enter Try.func32, Try.ntmps32
      go_wp2_with fail
      go_ret
      exact ⟨by simp [Val.lt, h1, h2, h3], kw⟩
  · have d1 : (ak == bk) = false := by simpa using hk
    go_enter Try.func32, Try.ntmps32
    go_wp2_with fail
    go_ret
    exact ⟨by simp [Val.lt, hk], kw⟩
theorem cRefCompare (a b : Val) (w : World) : Calls Try.prog 24 #[a.v, b.v] w fun e w' => e = .returned (.int .i64 (cmpV a b)) ∧ Kp [] w w' := by
  obtain ⟨ak, ab, an, at'⟩ := a
  obtain ⟨bk, bb, bn, bt⟩ := b
  rw [show Val.v ⟨ak, ab, an, at'⟩ = .agg #[.int .i64 ak, .bool ab, .int .i64 an, .string at'] from rfl, show Val.v ⟨bk, bb, bn, bt⟩ = .agg #[.int .i64 bk, .bool bb, .int .i64 bn, .string bt] from rfl]
  have kw : Kp [] w ((w.alloc (.cells #[.int .i64 ak, .bool ab, .int .i64 an, .string at'] 35)).alloc (.cells #[.int .i64 bk, .bool bb, .int .i64 bn, .string bt] 35)) := ((Kp.refl _ _).alloc _).alloc _
  have bA := (Box4.new w (.int .i64 ak) (.bool ab) (.int .i64 an) (.string at') 35).kept (S := []) ((Kp.refl _ _).alloc (.cells #[.int .i64 bk, .bool bb, .int .i64 bn, .string bt] 35)) (by simp)
  have bB := Box4.at (w := w.alloc (.cells #[.int .i64 ak, .bool ab, .int .i64 an, .string at'] 35)) (w.heap.size + 1) (by simp) (.int .i64 bk) (.bool bb) (.int .i64 bn) (.string bt) 35
  go_enter Try.func24, Try.ntmps24
  go_wp2_with fail
  refine (cLess ⟨ak, ab, an, at'⟩ ⟨bk, bb, bn, bt⟩ _).mono ?_
  rintro e w1 ⟨rfl, k1⟩
  have bA1 := bA.kept k1 (by simp)
  have bB1 := bB.kept k1 (by simp)
  have kw1 := kw.trans k1 (by simp)
  clear bA bB kw k1
  have a0 := bA1.c0; have a1 := bA1.c1; have a2 := bA1.c2; have a3 := bA1.c3
  have b0 := bB1.c0; have b1 := bB1.c1; have b2 := bB1.c2; have b3 := bB1.c3
  go_wp2_with fail
  refine (cLess ⟨bk, bb, bn, bt⟩ ⟨ak, ab, an, at'⟩ _).mono ?_
  rintro e w2 ⟨rfl, k2⟩
  have kw2 := kw1.trans k2 (by simp)
  clear a0 a1 a2 a3 b0 b1 b2 b3
  obtain ⟨l1, H1⟩ : ∃ l1 : Bool, Hid (Val.lt ⟨ak, ab, an, at'⟩ ⟨bk, bb, bn, bt⟩ = l1) := ⟨_, rfl⟩
  obtain ⟨l2, H2⟩ : ∃ l2 : Bool, Hid (Val.lt ⟨bk, bb, bn, bt⟩ ⟨ak, ab, an, at'⟩ = l2) := ⟨_, rfl⟩
  have HC : Hid (cmpV ⟨ak, ab, an, at'⟩ ⟨bk, bb, bn, bt⟩ = if l1 then -1 else if l2 then 1 else 0) := by unfold cmpV; rw [H1.out, H2.out]; rfl
  rw [H1.out, H2.out]
  cases l1
  · cases l2
    · go_wp2_with fail
      go_ret
      exact ⟨by rw [HC.out]; rfl, kw2⟩
    · go_wp2_with fail
      go_ret
      exact ⟨by rw [HC.out]; rfl, kw2⟩
  · go_wp2_with fail
    go_ret
    exact ⟨by rw [HC.out]; rfl, kw2⟩
end Go.Proofs.Ytlehalhficlenaa

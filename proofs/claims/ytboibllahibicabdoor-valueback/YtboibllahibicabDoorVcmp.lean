/- How two values are ordered: the program's Compare, the reference's. -/
import Derived.Test.YtboibllahibicabDoorVdef
namespace Go.Proofs.YtboibllahibicabDoor
open Go.RowKit Go.Hay
set_option linter.unusedVariables false
set_option linter.unusedSimpArgs false

/-- Is a text below another one? -/
def bl (s t : ByteArray) : Bool := Op.bytesLess s.toList t.toList
/-- Is a value below another one? -/
def Val.lt (a b : Val) : Bool :=
  if a.k ≠ b.k then decide (a.k < b.k) else if a.k = 1 then !a.b && b.b else if a.k = 2 then decide (a.n < b.n) else if a.k = 3 then bl a.t b.t else false
/-- The order of numbers, of texts, of bools. -/
def ci (x y : Int) : Int := if x < y then -1 else if y < x then 1 else 0
def cs (x y : ByteArray) : Int := if bl x y then -1 else if bl y x then 1 else 0
def cb (x y : Bool) : Int := if (!x && y) then -1 else if (!y && x) then 1 else 0
/-- The order. -/
def cmpV (a b : Val) : Int := if a.lt b then -1 else if b.lt a then 1 else 0

theorem cNanI (x : Int) (w : World) : Calls Tryd.prog 40 #[.int .i64 x] w fun e w' => e = .returned (.bool false) ∧ w' = w := by
  go_enter Tryd.func40, Tryd.ntmps40
  go_wp2_with fail
  go_ret
  exact ⟨rfl, rfl⟩
theorem cNanL (x : Int) (w : World) : Calls Tryd.prog 52 #[.int .i64 x] w fun e w' => e = .returned (.bool false) ∧ w' = w := by
  go_enter Tryd.func52, Tryd.ntmps52
  go_wp2_with fail
  go_ret
  exact ⟨rfl, rfl⟩
theorem cNanS (x : ByteArray) (w : World) : Calls Tryd.prog 53 #[.string x] w fun e w' => e = .returned (.bool false) ∧ w' = w := by
  go_enter Tryd.func53, Tryd.ntmps53
  go_wp2_with fail
  go_ret
  exact ⟨rfl, rfl⟩
theorem cCmpI (x y : Int) (w : World) : Calls Tryd.prog 25 #[.int .i64 x, .int .i64 y] w fun e w' => e = .returned (.int .i64 (ci x y)) ∧ w' = w := by
  go_enter Tryd.func25, Tryd.ntmps25
  go_wp2_with (first | (go_at_call 40; refine (cNanI _ _).mono ?_; rintro e w' ⟨rfl, rfl⟩))
  all_goals (go_ret; refine ⟨?_, rfl⟩; show Ending.returned _ = _)
  all_goals (unfold ci; first | (rw [if_pos (by omega)]; rfl) | (rw [if_neg (by omega), if_pos (by omega)]; rfl) | (rw [if_neg (by omega), if_neg (by omega)]; rfl))
theorem cCmpL (x y : Int) (w : World) : Calls Tryd.prog 38 #[.int .i64 x, .int .i64 y] w fun e w' => e = .returned (.int .i64 (ci x y)) ∧ w' = w := by
  go_enter Tryd.func38, Tryd.ntmps38
  go_wp2_with (first | (go_at_call 52; refine (cNanL _ _).mono ?_; rintro e w' ⟨rfl, rfl⟩))
  all_goals (go_ret; refine ⟨?_, rfl⟩; show Ending.returned _ = _)
  all_goals (unfold ci; first | (rw [if_pos (by omega)]; rfl) | (rw [if_neg (by omega), if_pos (by omega)]; rfl) | (rw [if_neg (by omega), if_neg (by omega)]; rfl))
theorem less_irr : ∀ s : List UInt8, Op.bytesLess s s = false
  | [] => rfl
  | x :: s => by simp [Op.bytesLess, less_irr s]
theorem UInt8.lt_trichotomy (x y : UInt8) : x < y ∨ x = y ∨ y < x := by
  rw [UInt8.lt_iff_toNat_lt, UInt8.lt_iff_toNat_lt, ← UInt8.toNat_inj]
  omega
theorem less_total : ∀ s t : List UInt8, (!Op.bytesLess s t && !(s == t)) = Op.bytesLess t s
  | [], [] => rfl
  | [], y :: t => rfl
  | x :: s, [] => rfl
  | x :: s, y :: t => by
    have ih := less_total s t
    simp only [Op.bytesLess]
    rw [show ((x :: s : List UInt8) == y :: t) = (x == y && s == t) from rfl]
    rcases UInt8.lt_trichotomy x y with h | h | h
    · have h2 : ¬ y < x := fun h3 => by rw [UInt8.lt_iff_toNat_lt] at h h3; omega
      have h3 : (y == x) = false := by simp; rintro rfl; exact h2 h
      simp [h, h2, h3]
    · subst h
      have h2 : ¬ x < x := fun h3 => by rw [UInt8.lt_iff_toNat_lt] at h3; omega
      simp [h2]
      simpa using ih
    · have h2 : ¬ x < y := fun h3 => by rw [UInt8.lt_iff_toNat_lt] at h h3; omega
      have h3 : (x == y) = false := by simp; rintro rfl; exact h2 h
      simp [h, h2, h3]
theorem gtS (t : TypeId) (a b : ByteArray) : binOp .gtr t (.string a) (.string b) = pure (.bool (Op.bytesLess b.toList a.toList)) := by
  rw [← less_total]
  simp [binOp, Op.stringOp]
theorem cCmpS (x y : ByteArray) (w : World) : Calls Tryd.prog 39 #[.string x, .string y] w fun e w' => e = .returned (.int .i64 (cs x y)) ∧ w' = w := by
  have hg := gtS
  go_enter Tryd.func39, Tryd.ntmps39
  go_wp2_with (first | (go_at_call 53; refine (cNanS _ _).mono ?_; rintro e w' ⟨rfl, rfl⟩))
  all_goals (go_ret; refine ⟨?_, rfl⟩; show Ending.returned _ = _)
  all_goals simp_all [bl, cs]
theorem cBools (x y : Bool) (w : World) : Calls Tryd.prog 37 #[.bool x, .bool y] w fun e w' => e = .returned (.int .i64 (cb x y)) ∧ w' = w := by
  cases x <;> cases y
  all_goals (go_enter Tryd.func37, Tryd.ntmps37; go_wp2_with fail; go_ret; exact ⟨rfl, rfl⟩)

set_option maxHeartbeats 2000000 in
set_option maxRecDepth 100000 in
theorem cCompare (a b : Val) (w : World) : Calls Tryd.prog 22 #[a.v, b.v] w fun e w' => e = .returned (.int .i64 (cmpV a b)) ∧ Kp [] w w' := by
  obtain ⟨ak, ab, an, at'⟩ := a
  obtain ⟨bk, bb, bn, bt⟩ := b
  unfold Val.v
  have kw : Kp [] w ((w.alloc (.cells #[.int .i64 ak, .bool ab, .int .i64 an, .string at'] 23)).alloc (.cells #[.int .i64 bk, .bool bb, .int .i64 bn, .string bt] 23)) := ((Kp.refl _ _).alloc _).alloc _
  by_cases hk : ak = bk
  · subst hk
    by_cases h1 : ak = 1
    · subst h1
      go_enter Tryd.func22, Tryd.ntmps22
      go_wp2_with (first | (go_at_call 37; refine (cBools _ _ _).mono ?_; rintro e w' ⟨rfl, rfl⟩))
      go_ret
      exact ⟨by simp [cmpV, Val.lt, ci, cs, cb], kw⟩
    by_cases h2 : ak = 2
    · subst h2
      go_enter Tryd.func22, Tryd.ntmps22
      go_wp2_with (first | (go_at_call 38; refine (cCmpL _ _ _).mono ?_; rintro e w' ⟨rfl, rfl⟩))
      go_ret
      exact ⟨by simp [cmpV, Val.lt, ci, cs, cb], kw⟩
    by_cases h3 : ak = 3
    · subst h3
      go_enter Tryd.func22, Tryd.ntmps22
      go_wp2_with (first | (go_at_call 39; refine (cCmpS _ _ _).mono ?_; rintro e w' ⟨rfl, rfl⟩))
      go_ret
      exact ⟨by simp [cmpV, Val.lt, ci, cs, cb], kw⟩
    · have d1 : (ak == 1) = false := by simpa using h1
      have d2 : (ak == 2) = false := by simpa using h2
      have d3 : (ak == 3) = false := by simpa using h3
      go_enter Tryd.func22, Tryd.ntmps22
      go_wp2_with fail
      go_ret
      exact ⟨by simp [cmpV, Val.lt, ci, cs, cb, h1, h2, h3], kw⟩
  · have d1 : (ak == bk) = false := by simpa using hk
    have hk' : ¬ bk = ak := fun h => hk h.symm
    go_enter Tryd.func22, Tryd.ntmps22
    go_wp2_with (first | (go_at_call 25; refine (cCmpI _ _ _).mono ?_; rintro e w' ⟨rfl, rfl⟩))
    go_ret
    exact ⟨by simp [cmpV, Val.lt, ci, cs, cb, hk, hk'], kw⟩

end Go.Proofs.YtboibllahibicabDoor

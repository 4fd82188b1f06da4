/- A value's bytes: the program's putFixed, putValue, putKey; the reference's One. -/
import Derived.Test.YtlehalhficlenaaRlng
import Derived.Test.YtlehalhficlenaaVrig
namespace Go.Proofs.Ytlehalhficlenaa
open Go.RowKit Go.Hay
set_option linter.unusedVariables false
set_option linter.unusedSimpArgs false

/-- An int, as an unsigned number. -/
def u64 (n : Int) : Nat := (n % 18446744073709551616).toNat
/-- What rows and keys have of a null, a bool, an int. -/
def fixB (x : Val) (add : Int) : List UInt8 := if x.k = 0 then [0] else if x.k = 1 then [1, if x.b then 1 else 0] else 2 :: be (u64 (x.n + add)) 8
/-- A value's bytes in a row. -/
def rowB (x : Val) : List UInt8 := if x.k = 3 then 3 :: octet x.t.size :: x.t.data.toList else fixB x 0
/-- A text's bytes in a key. -/
def escK (l : List UInt8) : List UInt8 := l.flatMap fun c => if c = 0 then [0, 255] else [c]
/-- A value's bytes in a key. -/
def keyB (x : Val) : List UInt8 := if x.k = 3 then 3 :: (escK x.t.data.toList ++ [0, 0]) else fixB x 9223372036854775808

theorem right_kind {x : Val} (h : x.right = true) : x.k = 0 ∨ x.k = 1 ∨ x.k = 2 ∨ x.k = 3 := by
  unfold Val.right at h
  split at h
  · omega
  split at h
  · omega
  split at h
  · omega
  split at h
  · omega
  · cases h
theorem right_text {x : Val} (h : x.right = true) (hk : x.k = 3) : x.t.size ≤ 64 := by
  unfold Val.right at h
  rw [hk] at h
  simp at h
  omega
theorem cTruth (b : Bool) (w : World) : Calls Try.prog 36 #[.bool b] w fun e w' => e = .returned (.int .u8 (if b then 1 else 0)) ∧ w' = w := by
  cases b
  all_goals (go_enter Try.func36, Try.ntmps36; go_wp2_with fail; go_ret; exact ⟨rfl, rfl⟩)

set_option maxHeartbeats 2000000 in
set_option maxRecDepth 100000 in
theorem cPutFixed (x : Val) (hkind : x.k = 0 ∨ x.k = 1 ∨ x.k = 2) (add : Int) (a : Option Addr) (c : Nat) (bs : List UInt8) (w : World) (hr : Row w (.slice a bs.length c) bs) (hb : bs.length ≤ 100000000000000) :
    Calls Try.prog 26 #[.slice a bs.length c, x.v, .int .u64 add] w fun e w' => ∃ v', e = .returned v' ∧ Row w' v' (bs ++ fixB x add) ∧ Grew (.slice a bs.length c) w v' w' := by
  obtain ⟨k, b, n, t⟩ := x
  unfold Val.v
  dsimp only at hkind ⊢
  have bA := Box4.new w (.int .i64 k) (.bool b) (.int .i64 n) (.string t) 35
  have kW : Kp [] w (w.alloc (.cells #[.int .i64 k, .bool b, .int .i64 n, .string t] 35)) := (Kp.refl _ _).alloc _
  have hrW := rowKeep hr kW
  have hqn : w.heap.size ∉ own (.slice a bs.length c) := fun h => by have := hr.lt _ h; omega
  rcases hkind with rfl | rfl | rfl
  · go_enter Try.func26, Try.ntmps26
    go_wp2_with (at_builtin; refine wpAppR rfl _ _ rfl (.slice a bs.length c) bs rfl (rowKeep hrW (kpNew _ _)) _ _ _ [octet 0] rfl rfl (seesOne _ (by simp) 0 (by omega) (by omega) _) (by simp; omega) ?_)
    intro b1 a1 c1 w1 hb1 hl1 hr1 hg1
    have hg := hg1.pre (kW.trans (kpNew _ _) (by simp))
    have bA1 := boxGrew (boxKeep bA (kpNew _ _)) hg1 hqn
    have q0 := bA1.c0; have q1 := bA1.c1; have q2 := bA1.c2; have q3 := bA1.c3
    clear hrW
    go_wp2_with fail
    go_ret
    exact ⟨_, rfl, by rw [show bs ++ fixB ⟨0, b, n, t⟩ add = b1 by rw [hb1.out]; rfl]; exact hr1, hg⟩
  · go_enter Try.func26, Try.ntmps26
    go_wp2_with (at_builtin; refine wpAppR rfl _ _ rfl (.slice a bs.length c) bs rfl (rowKeep hrW (kpNew _ _)) _ _ _ [octet 1] rfl rfl (seesOne _ (by simp) 1 (by omega) (by omega) _) (by simp; omega) ?_)
    intro b1 a1 c1 w1 hb1 hl1 hr1 hg1
    have hg := hg1.pre (kW.trans (kpNew _ _) (by simp))
    have bA1 := boxGrew (boxKeep bA (kpNew _ _)) hg1 hqn
    have q0 := bA1.c0; have q1 := bA1.c1; have q2 := bA1.c2; have q3 := bA1.c3
    clear hrW
    have hl1' : b1.length ≤ 100000000000001 := by have : b1.length ≤ bs.length + 1 := hl1; omega
    clear hl1
    have hT := cTruth b
    obtain ⟨y, hy0, hy1, HY⟩ : ∃ y : Int, 0 ≤ y ∧ y ≤ 255 ∧ Hid ((if b = true then (1 : Int) else 0) = y) := ⟨_, by split <;> omega, by split <;> omega, rfl⟩
    rw [HY.out] at hT
    go_wp2_with fail
    refine (hT _).mono ?_
    rintro e w2 ⟨rfl, rfl⟩
    go_wp2_with (at_builtin; refine wpAppR rfl _ _ rfl _ b1 rfl (rowKeep hr1 (kpNew _ _)) _ _ _ [octet y] rfl rfl (seesOne _ (by simp) y hy0 hy1 _) (by simp; omega) ?_)
    intro b2 a2 c2 w2 hb2 _ hr2 hg2
    have hgg := hg.trans (hg2.pre (kpNew _ _))
    go_wp2_with fail
    go_ret
    refine ⟨_, rfl, ?_, hgg⟩
    have e : fixB ⟨1, b, n, t⟩ add = [octet 1, octet y] := by rw [← HY.out]; cases b <;> rfl
    rw [show bs ++ fixB ⟨1, b, n, t⟩ add = b2 by rw [hb2.out, hb1.out, e]; simp]
    exact hr2
  · go_enter Try.func26, Try.ntmps26
    go_wp2_with (at_builtin; refine wpAppR rfl _ _ rfl (.slice a bs.length c) bs rfl (rowKeep hrW (kpNew _ _)) _ _ _ [octet 2] rfl rfl (seesOne _ (by simp) 2 (by omega) (by omega) _) (by simp; omega) ?_)
    intro b1 a1 c1 w1 hb1 hl1 hr1 hg1
    have hg := hg1.pre (kW.trans (kpNew _ _) (by simp))
    have bA1 := boxGrew (boxKeep bA (kpNew _ _)) hg1 hqn
    have q0 := bA1.c0; have q1 := bA1.c1; have q2 := bA1.c2; have q3 := bA1.c3
    clear hrW
    have hl1' : b1.length ≤ 100000000000001 := by have : b1.length ≤ bs.length + 1 := hl1; omega
    clear hl1
    have hu : Hid (IntKind.u64.wrap (IntKind.u64.wrap n + add) = (u64 (n + add) : Int)) := by
      show _ = _
      rw [IntKind.wrap_u64, IntKind.wrap_u64]; unfold u64; omega
    have hu2 : u64 (n + add) < 18446744073709551616 := by unfold u64; omega
    have hL := cLongOf (u64 (n + add))
    rw [Int.toNat_natCast] at hL
    obtain ⟨x0, x1, x2, x3, x4, x5, x6, x7, hbe⟩ : ∃ x0 x1 x2 x3 x4 x5 x6 x7 : UInt8, Hid (be (u64 (n + add)) 8 = [x0, x1, x2, x3, x4, x5, x6, x7]) := ⟨_, _, _, _, _, _, _, _, rfl⟩
    have hL2 := fun w => hL w (by omega) (by omega)
    rw [hbe.out] at hL2
    rw [show long8 [x0, x1, x2, x3, x4, x5, x6, x7] = .agg #[.int .u8 x0.toNat, .int .u8 x1.toNat, .int .u8 x2.toNat, .int .u8 x3.toNat, .int .u8 x4.toNat, .int .u8 x5.toNat, .int .u8 x6.toNat, .int .u8 x7.toNat] from rfl] at hL2
    clear hL
    go_wp2_with fail
    rw [hu.out]
    refine (hL2 _).mono ?_
    rintro e w2 ⟨rfl, k2⟩
    go_wp2_with (at_builtin; refine wpAppR rfl _ _ rfl _ b1 rfl (rowKeep (rowKeep hr1 k2) (kpNew _ _)) _ _ _ [x0, x1, x2, x3, x4, x5, x6, x7] rfl rfl (Sees.new w2 _ _ _ _ rfl) (by simp; omega) ?_)
    intro b2 a2 c2 w3 hb2 _ hr2 hg2
    have hgg := (hg.post k2).trans (hg2.pre (kpNew _ _))
    go_wp2_with fail
    go_ret
    refine ⟨_, rfl, ?_, hgg⟩
    have e : fixB ⟨2, b, n, t⟩ add = 2 :: [x0, x1, x2, x3, x4, x5, x6, x7] := by rw [← hbe.out]; rfl
    rw [show bs ++ fixB ⟨2, b, n, t⟩ add = b2 by rw [hb2.out, hb1.out, e]; simp [octet]]
    exact hr2

set_option maxHeartbeats 2000000 in
set_option maxRecDepth 100000 in
theorem cPutValue (x : Val) (hx : x.right = true) (a : Option Addr) (c : Nat) (bs : List UInt8) (w : World) (hr : Row w (.slice a bs.length c) bs) (hb : bs.length ≤ 100000000000) :
    Calls Try.prog 22 #[.slice a bs.length c, x.v] w fun e w' => ∃ v', e = .returned v' ∧ Row w' v' (bs ++ rowB x) ∧ Grew (.slice a bs.length c) w v' w' := by
  by_cases h3 : x.k = 3
  · have h64 := right_text hx h3
    have e : rowB x = 3 :: octet x.t.size :: x.t.data.toList := by unfold rowB; rw [if_pos h3]
    have HE := hid e
    obtain ⟨k, b, n, t⟩ := x
    unfold Val.v
    dsimp only at h3 h64 HE ⊢
    subst h3
    clear hx e
    have bA := Box4.new w (.int .i64 3) (.bool b) (.int .i64 n) (.string t) 35
    have kW : Kp [] w (w.alloc (.cells #[.int .i64 3, .bool b, .int .i64 n, .string t] 35)) := (Kp.refl _ _).alloc _
    have hrW := rowKeep hr kW
    have hqn : w.heap.size ∉ own (.slice a bs.length c) := fun h => by have := hr.lt _ h; omega
    have hwr : IntKind.u8.wrap (t.size : Int) = (t.size : Int) := by rw [IntKind.wrap_u8]; omega
    go_enter Try.func22, Try.ntmps22
    go_wp2_with (at_builtin; refine wpAppR rfl _ _ rfl (.slice a bs.length c) bs rfl (rowKeep hrW (kpNew _ _)) _ _ _ [octet 3, octet t.size] rfl rfl (seesTwo _ (by simp) 3 t.size (by omega) (by omega) (by omega) (by omega) _) (by simp; omega) ?_)
    intro b1 a1 c1 w1 hb1 hl1 hr1 hg1
    have hl1' : b1.length ≤ 100000000002 := by have : b1.length ≤ bs.length + 2 := hl1; omega
    clear hl1
    have hg := hg1.pre (kW.trans (kpNew _ _) (by simp))
    have bA1 := boxGrew (boxKeep bA (kpNew _ _)) hg1 hqn
    have q0 := bA1.c0; have q1 := bA1.c1; have q2 := bA1.c2; have q3 := bA1.c3
    clear hrW
    go_wp2_with (at_builtin; refine wpAppS rfl _ _ rfl _ b1 rfl hr1 t rfl (by omega) ?_)
    intro b2 a2 c2 w2 hb2 _ hr2 hg2
    have hgg := hg.trans hg2
    go_wp2_with fail
    go_ret
    refine ⟨_, rfl, ?_, hgg⟩
    rw [show bs ++ rowB ⟨3, b, n, t⟩ = b2 by rw [hb2.out, hb1.out, HE.out]; simp [octet]]
    exact hr2
  · have hk : x.k = 0 ∨ x.k = 1 ∨ x.k = 2 := by have := right_kind hx; omega
    have e : rowB x = fixB x 0 := by unfold rowB; rw [if_neg h3]
    have HE := hid e
    have hP := fun w' (h : Row w' (.slice a bs.length c) bs) => cPutFixed x hk 0 a c bs w' h (by omega)
    rw [← HE.out] at hP
    have hk3 : (x.k == 3) = false := by simpa using h3
    generalize rowB x = rb at *
    obtain ⟨k, b, n, t⟩ := x
    unfold Val.v at *
    dsimp only at hP hk3 ⊢
    clear hx e HE hk h3
    have bA := Box4.new w (.int .i64 k) (.bool b) (.int .i64 n) (.string t) 35
    have kW : Kp [] w (w.alloc (.cells #[.int .i64 k, .bool b, .int .i64 n, .string t] 35)) := (Kp.refl _ _).alloc _
    have hrW := rowKeep hr kW
    have q0 := bA.c0; have q1 := bA.c1; have q2 := bA.c2; have q3 := bA.c3
    go_enter Try.func22, Try.ntmps22
    go_wp2_with fail
    refine (hP _ hrW).mono ?_
    rintro e w1 ⟨v1, rfl, hr1, hg1⟩
    go_wp2_with fail
    go_ret
    exact ⟨_, rfl, hr1, hg1.pre kW⟩
end Go.Proofs.Ytlehalhficlenaa

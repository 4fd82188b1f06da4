/- A value's bytes: the program's putFixed, putValue, putKey; the reference's One. A value's bytes, more: the program's putKey, the reference's One. How two values are ordered: the program's Compare, the reference's. How two rows are ordered. Which values fit a column; and which are right, by the reference. Rows' bytes: which rows can be written, the program's Encode and Key, the reference's Right and Encode. Rows of structs, for any element: how a slice of them lies in memory, how it grows, how it is copied onto itself. No statement of the seat is proved here. Rows of any element: made, written at a place, copied into. No statement of the seat is proved here. Rows of values of the calls' own, that grow. Values as elements. -/
import Derived.Test.YtafcdckpicoppaaGreatDoorB1
import Derived.Deep.RegionHeld3
import Derived.Deep.RegionWith
import Derived.Lib.Strings
import Derived.Laws.IdiomCopy
import Derived.Deep.RegionLaw
import Derived.Laws.MakeOwn
import Derived.Deep.DeepAppendWide
import Derived.Laws.AppendOwnNone
section
namespace Go.Proofs.YtafcdckpicoppaaGreatDoor
open Go.RowKit Go.Hay
set_option linter.unusedVariables false
set_option linter.unusedSimpArgs false

/-- An int, as an unsigned number. -/
def u64 (n : Int) : Nat := (n % 18446744073709551616).toNat
/-- What rows and keys have of a null, a bool, an int. -/
def fixB (x : Val) (add : Int) : List UInt8 := if x.k = 0 then [0] else if x.k = 1 then [1, if x.b then 1 else 0] else 2 :: be (u64 (x.n + add)) 8
/-- A value's bytes in a row. -/
def rowB (x : Val) : List UInt8 := if x.k = 3 then 3 :: octet x.t.size :: x.t.data.toList else fixB x 0
/-- A text's bytes in a key. -/
def escK (l : List UInt8) : List UInt8 := l.flatMap fun c => if c = 0 then [0, 255] else [c]
/-- A value's bytes in a key. -/
def keyB (x : Val) : List UInt8 := if x.k = 3 then 3 :: (escK x.t.data.toList ++ [0, 0]) else fixB x 9223372036854775808

theorem right_kind {x : Val} (h : x.right = true) : x.k = 0 ∨ x.k = 1 ∨ x.k = 2 ∨ x.k = 3 := by
  unfold Val.right at h
  split at h
  · omega
  split at h
  · omega
  split at h
  · omega
  split at h
  · omega
  · cases h
theorem right_text {x : Val} (h : x.right = true) (hk : x.k = 3) : x.t.size ≤ 64 := by
  unfold Val.right at h
  rw [hk] at h
  simp at h
  omega
theorem cTruth (b : Bool) (w : World) : Calls Tryz.prog 113 #[.bool b] w fun e w' => e = .returned (.int .u8 (if b then 1 else 0)) ∧ w' = w := by
  cases b
  all_goals (go_enter Tryz.func113, Tryz.ntmps113; go_wp2_with fail; go_ret; exact ⟨rfl, rfl⟩)

set_option maxHeartbeats 2000000 in
set_option maxRecDepth 100000 in
theorem cPutFixed (x : Val) (hkind : x.k = 0 ∨ x.k = 1 ∨ x.k = 2) (add : Int) (a : Option Addr) (c : Nat) (bs : List UInt8) (w : World) (hr : Row w (.slice a bs.length c) bs) (hb : bs.length ≤ 100000000000000) :
    Calls Tryz.prog 96 #[.slice a bs.length c, x.v, .int .u64 add] w fun e w' => ∃ v', e = .returned v' ∧ Row w' v' (bs ++ fixB x add) ∧ Grew (.slice a bs.length c) w v' w' := by
  obtain ⟨k, b, n, t⟩ := x
  unfold Val.v
  dsimp only at hkind ⊢
  have bA := Box4.new w (.int .i64 k) (.bool b) (.int .i64 n) (.string t) 25
  have kW : Kp [] w (w.alloc (.cells #[.int .i64 k, .bool b, .int .i64 n, .string t] 25)) := (Kp.refl _ _).alloc _
  have hrW := rowKeep hr kW
  have hqn : w.heap.size ∉ own (.slice a bs.length c) := fun h => by have := hr.lt _ h; omega
  rcases hkind with rfl | rfl | rfl
  · go_enter Tryz.func96, Tryz.ntmps96
    go_wp2_with (at_builtin; refine wpAppR rfl _ _ rfl (.slice a bs.length c) bs rfl (rowKeep hrW (kpNew _ _)) _ _ _ [octet 0] rfl rfl (seesOne _ (by simp) 0 (by omega) (by omega) _) (by simp; omega) ?_)
    intro b1 a1 c1 w1 hb1 hl1 hr1 hg1
    have hg := hg1.pre (kW.trans (kpNew _ _) (by simp))
    have bA1 := boxGrew (boxKeep bA (kpNew _ _)) hg1 hqn
    have q0 := bA1.c0; have q1 := bA1.c1; have q2 := bA1.c2; have q3 := bA1.c3
    clear hrW
    go_wp2_with fail
    go_ret
    exact ⟨_, rfl, by rw [show bs ++ fixB ⟨0, b, n, t⟩ add = b1 by rw [hb1.out]; rfl]; exact hr1, hg⟩
  · go_enter Tryz.func96, Tryz.ntmps96
    go_wp2_with (at_builtin; refine wpAppR rfl _ _ rfl (.slice a bs.length c) bs rfl (rowKeep hrW (kpNew _ _)) _ _ _ [octet 1] rfl rfl (seesOne _ (by simp) 1 (by omega) (by omega) _) (by simp; omega) ?_)
    intro b1 a1 c1 w1 hb1 hl1 hr1 hg1
    have hg := hg1.pre (kW.trans (kpNew _ _) (by simp))
    have bA1 := boxGrew (boxKeep bA (kpNew _ _)) hg1 hqn
    have q0 := bA1.c0; have q1 := bA1.c1; have q2 := bA1.c2; have q3 := bA1.c3
    clear hrW
    have hl1' : b1.length ≤ 100000000000001 := by have : b1.length ≤ bs.length + 1 := hl1; omega
    clear hl1
    have hT := cTruth b
    obtain ⟨y, hy0, hy1, HY⟩ : ∃ y : Int, 0 ≤ y ∧ y ≤ 255 ∧ Hid ((if b = true then (1 : Int) else 0) = y) := ⟨_, by split <;> omega, by split <;> omega, rfl⟩
    rw [HY.out] at hT
    go_wp2_with fail
    refine (hT _).mono ?_
    rintro e w2 ⟨rfl, rfl⟩
    go_wp2_with (at_builtin; refine wpAppR rfl _ _ rfl _ b1 rfl (rowKeep hr1 (kpNew _ _)) _ _ _ [octet y] rfl rfl (seesOne _ (by simp) y hy0 hy1 _) (by simp; omega) ?_)
    intro b2 a2 c2 w2 hb2 _ hr2 hg2
    have hgg := hg.trans (hg2.pre (kpNew _ _))
    go_wp2_with fail
    go_ret
    refine ⟨_, rfl, ?_, hgg⟩
    have e : fixB ⟨1, b, n, t⟩ add = [octet 1, octet y] := by rw [← HY.out]; cases b <;> rfl
    rw [show bs ++ fixB ⟨1, b, n, t⟩ add = b2 by rw [hb2.out, hb1.out, e]; simp]
    exact hr2
  · go_enter Tryz.func96, Tryz.ntmps96
    go_wp2_with (at_builtin; refine wpAppR rfl _ _ rfl (.slice a bs.length c) bs rfl (rowKeep hrW (kpNew _ _)) _ _ _ [octet 2] rfl rfl (seesOne _ (by simp) 2 (by omega) (by omega) _) (by simp; omega) ?_)
    intro b1 a1 c1 w1 hb1 hl1 hr1 hg1
    have hg := hg1.pre (kW.trans (kpNew _ _) (by simp))
    have bA1 := boxGrew (boxKeep bA (kpNew _ _)) hg1 hqn
    have q0 := bA1.c0; have q1 := bA1.c1; have q2 := bA1.c2; have q3 := bA1.c3
    clear hrW
    have hl1' : b1.length ≤ 100000000000001 := by have : b1.length ≤ bs.length + 1 := hl1; omega
    clear hl1
    have hu : Hid (IntKind.u64.wrap (IntKind.u64.wrap n + add) = (u64 (n + add) : Int)) := by
      show _ = _
      rw [IntKind.wrap_u64, IntKind.wrap_u64]; unfold u64; omega
    have hu2 : u64 (n + add) < 18446744073709551616 := by unfold u64; omega
    have hL := cLongOf (u64 (n + add))
    rw [Int.toNat_natCast] at hL
    obtain ⟨x0, x1, x2, x3, x4, x5, x6, x7, hbe⟩ : ∃ x0 x1 x2 x3 x4 x5 x6 x7 : UInt8, Hid (be (u64 (n + add)) 8 = [x0, x1, x2, x3, x4, x5, x6, x7]) := ⟨_, _, _, _, _, _, _, _, rfl⟩
    have hL2 := fun w => hL w (by omega) (by omega)
    rw [hbe.out] at hL2
    rw [show long8 [x0, x1, x2, x3, x4, x5, x6, x7] = .agg #[.int .u8 x0.toNat, .int .u8 x1.toNat, .int .u8 x2.toNat, .int .u8 x3.toNat, .int .u8 x4.toNat, .int .u8 x5.toNat, .int .u8 x6.toNat, .int .u8 x7.toNat] from rfl] at hL2
    clear hL
    go_wp2_with fail
    rw [hu.out]
    refine (hL2 _).mono ?_
    rintro e w2 ⟨rfl, k2⟩
    go_wp2_with (at_builtin; refine wpAppR rfl _ _ rfl _ b1 rfl (rowKeep (rowKeep hr1 k2) (kpNew _ _)) _ _ _ [x0, x1, x2, x3, x4, x5, x6, x7] rfl rfl (Sees.new w2 _ _ _ _ rfl) (by simp; omega) ?_)
    intro b2 a2 c2 w3 hb2 _ hr2 hg2
    have hgg := (hg.post k2).trans (hg2.pre (kpNew _ _))
    go_wp2_with fail
    go_ret
    refine ⟨_, rfl, ?_, hgg⟩
    have e : fixB ⟨2, b, n, t⟩ add = 2 :: [x0, x1, x2, x3, x4, x5, x6, x7] := by rw [← hbe.out]; rfl
    rw [show bs ++ fixB ⟨2, b, n, t⟩ add = b2 by rw [hb2.out, hb1.out, e]; simp [octet]]
    exact hr2

set_option maxHeartbeats 2000000 in
set_option maxRecDepth 100000 in
theorem cPutValue (x : Val) (hx : x.right = true) (a : Option Addr) (c : Nat) (bs : List UInt8) (w : World) (hr : Row w (.slice a bs.length c) bs) (hb : bs.length ≤ 100000000000) :
    Calls Tryz.prog 87 #[.slice a bs.length c, x.v] w fun e w' => ∃ v', e = .returned v' ∧ Row w' v' (bs ++ rowB x) ∧ Grew (.slice a bs.length c) w v' w' := by
  by_cases h3 : x.k = 3
  · have h64 := right_text hx h3
    have e : rowB x = 3 :: octet x.t.size :: x.t.data.toList := by unfold rowB; rw [if_pos h3]
    have HE := hid e
    obtain ⟨k, b, n, t⟩ := x
    unfold Val.v
    dsimp only at h3 h64 HE ⊢
    subst h3
    clear hx e
    have bA := Box4.new w (.int .i64 3) (.bool b) (.int .i64 n) (.string t) 25
    have kW : Kp [] w (w.alloc (.cells #[.int .i64 3, .bool b, .int .i64 n, .string t] 25)) := (Kp.refl _ _).alloc _
    have hrW := rowKeep hr kW
    have hqn : w.heap.size ∉ own (.slice a bs.length c) := fun h => by have := hr.lt _ h; omega
    have hwr : IntKind.u8.wrap (t.size : Int) = (t.size : Int) := by rw [IntKind.wrap_u8]; omega
    go_enter Tryz.func87, Tryz.ntmps87
    go_wp2_with (at_builtin; refine wpAppR rfl _ _ rfl (.slice a bs.length c) bs rfl (rowKeep hrW (kpNew _ _)) _ _ _ [octet 3, octet t.size] rfl rfl (seesTwo _ (by simp) 3 t.size (by omega) (by omega) (by omega) (by omega) _) (by simp; omega) ?_)
    intro b1 a1 c1 w1 hb1 hl1 hr1 hg1
    have hl1' : b1.length ≤ 100000000002 := by have : b1.length ≤ bs.length + 2 := hl1; omega
    clear hl1
    have hg := hg1.pre (kW.trans (kpNew _ _) (by simp))
    have bA1 := boxGrew (boxKeep bA (kpNew _ _)) hg1 hqn
    have q0 := bA1.c0; have q1 := bA1.c1; have q2 := bA1.c2; have q3 := bA1.c3
    clear hrW
    go_wp2_with (at_builtin; refine wpAppS rfl _ _ rfl _ b1 rfl hr1 t rfl (by omega) ?_)
    intro b2 a2 c2 w2 hb2 _ hr2 hg2
    have hgg := hg.trans hg2
    go_wp2_with fail
    go_ret
    refine ⟨_, rfl, ?_, hgg⟩
    rw [show bs ++ rowB ⟨3, b, n, t⟩ = b2 by rw [hb2.out, hb1.out, HE.out]; simp [octet]]
    exact hr2
  · have hk : x.k = 0 ∨ x.k = 1 ∨ x.k = 2 := by have := right_kind hx; omega
    have e : rowB x = fixB x 0 := by unfold rowB; rw [if_neg h3]
    have HE := hid e
    have hP := fun w' (h : Row w' (.slice a bs.length c) bs) => cPutFixed x hk 0 a c bs w' h (by omega)
    rw [← HE.out] at hP
    have hk3 : (x.k == 3) = false := by simpa using h3
    generalize rowB x = rb at *
    obtain ⟨k, b, n, t⟩ := x
    unfold Val.v at *
    dsimp only at hP hk3 ⊢
    clear hx e HE hk h3
    have bA := Box4.new w (.int .i64 k) (.bool b) (.int .i64 n) (.string t) 25
    have kW : Kp [] w (w.alloc (.cells #[.int .i64 k, .bool b, .int .i64 n, .string t] 25)) := (Kp.refl _ _).alloc _
    have hrW := rowKeep hr kW
    have q0 := bA.c0; have q1 := bA.c1; have q2 := bA.c2; have q3 := bA.c3
    go_enter Tryz.func87, Tryz.ntmps87
    go_wp2_with fail
    refine (hP _ hrW).mono ?_
    rintro e w1 ⟨v1, rfl, hr1, hg1⟩
    go_wp2_with fail
    go_ret
    exact ⟨_, rfl, hr1, hg1.pre kW⟩
end Go.Proofs.YtafcdckpicoppaaGreatDoor
end

section
namespace Go.Proofs.YtafcdckpicoppaaGreatDoor
open Go.RowKit Go.Hay
set_option linter.unusedVariables false
set_option linter.unusedSimpArgs false

theorem escK_take (l : List UInt8) (j : Nat) (h : j < l.length) : escK (l.take (j + 1)) = escK (l.take j) ++ (if l[j] = 0 then [0, 255] else [l[j]]) := by
  unfold escK
  rw [List.take_succ_eq_append_getElem h, List.flatMap_append]
  simp
theorem escK_length (l : List UInt8) : (escK l).length ≤ 2 * l.length := by
  induction l with
  | nil => simp [escK]
  | cons x l ih =>
    have e : escK (x :: l) = (if x = 0 then [0, 255] else [x]) ++ escK l := by simp [escK]
    rw [e, List.length_append, List.length_cons]
    split <;> simp <;> omega
theorem notOwn {a : Option Addr} {n c : Nat} {bs : List UInt8} {w : World} {o : Obj} {v' : Value} {w' : World} (hr : Row w (.slice a n c) bs) (hg : Grew (.slice a n c) (w.alloc o) v' w') : w.heap.size ∉ own v' := fun h => by
  rcases hg.new _ h with h1 | h1
  · have := hr.lt _ h1; omega
  · simp at h1; omega

/-- A row that grew, all new. -/
structure New (w : World) (v : Value) (w' : World) : Prop where
  kp : Kp [] w w'
  own : ∀ k ∈ Go.Hay.own v, w.heap.size ≤ k
theorem New.grew {w w1 w2 : World} {v v' : Value} (h : New w v w1) (g : Grew v w1 v' w2) : New w v' w2 := by
  obtain ⟨a, b⟩ := g.fresh h.kp h.own
  exact ⟨a, b⟩
theorem New.post {w w1 w2 : World} {v : Value} (h : New w v w1) (k : Kp [] w1 w2) : New w v w2 := ⟨h.kp.trans k (by simp), h.own⟩
theorem New.nil {w w' : World} (k : Kp [] w w') (c : Nat) : New w (.slice none 0 c) w' := ⟨k, by simp [Go.Hay.own, Value.ownBlock]⟩
theorem New.pre {w w0 w1 : World} {v : Value} (k : Kp [] w w0) (h : New w0 v w1) : New w v w1 := ⟨k.trans h.kp (by simp), fun x hx => Nat.le_trans k.size (h.own x hx)⟩

end Go.Proofs.YtafcdckpicoppaaGreatDoor
end

section
namespace Go.Proofs.YtafcdckpicoppaaGreatDoor
open Go.RowKit Go.Hay
set_option linter.unusedVariables false
set_option linter.unusedSimpArgs false

/-- Is a text below another one? -/
def bl (s t : ByteArray) : Bool := Op.bytesLess s.toList t.toList
/-- Is a value below another one? -/
def Val.lt (a b : Val) : Bool :=
  if a.k ≠ b.k then decide (a.k < b.k) else if a.k = 1 then !a.b && b.b else if a.k = 2 then decide (a.n < b.n) else if a.k = 3 then bl a.t b.t else false
/-- The order of numbers, of texts, of bools. -/
def ci (x y : Int) : Int := if x < y then -1 else if y < x then 1 else 0
def cs (x y : ByteArray) : Int := if bl x y then -1 else if bl y x then 1 else 0
def cb (x y : Bool) : Int := if (!x && y) then -1 else if (!y && x) then 1 else 0
/-- The order. -/
def cmpV (a b : Val) : Int := if a.lt b then -1 else if b.lt a then 1 else 0

theorem cNanI (x : Int) (w : World) : Calls Tryz.prog 55 #[.int .i64 x] w fun e w' => e = .returned (.bool false) ∧ w' = w := by
  go_enter Tryz.func55, Tryz.ntmps55
  go_wp2_with fail
  go_ret
  exact ⟨rfl, rfl⟩
theorem cNanL (x : Int) (w : World) : Calls Tryz.prog 56 #[.int .i64 x] w fun e w' => e = .returned (.bool false) ∧ w' = w := by
  go_enter Tryz.func56, Tryz.ntmps56
  go_wp2_with fail
  go_ret
  exact ⟨rfl, rfl⟩
theorem cNanS (x : ByteArray) (w : World) : Calls Tryz.prog 57 #[.string x] w fun e w' => e = .returned (.bool false) ∧ w' = w := by
  go_enter Tryz.func57, Tryz.ntmps57
  go_wp2_with fail
  go_ret
  exact ⟨rfl, rfl⟩
theorem cCmpI (x y : Int) (w : World) : Calls Tryz.prog 33 #[.int .i64 x, .int .i64 y] w fun e w' => e = .returned (.int .i64 (ci x y)) ∧ w' = w := by
  go_enter Tryz.func33, Tryz.ntmps33
  go_wp2_with (first | (go_at_call 55; refine (cNanI _ _).mono ?_; rintro e w' ⟨rfl, rfl⟩))
  all_goals (go_ret; refine ⟨?_, rfl⟩; show Ending.returned _ = _)
  all_goals (unfold ci; first | (rw [if_pos (by omega)]; rfl) | (rw [if_neg (by omega), if_pos (by omega)]; rfl) | (rw [if_neg (by omega), if_neg (by omega)]; rfl))
theorem cCmpL (x y : Int) (w : World) : Calls Tryz.prog 35 #[.int .i64 x, .int .i64 y] w fun e w' => e = .returned (.int .i64 (ci x y)) ∧ w' = w := by
  go_enter Tryz.func35, Tryz.ntmps35
  go_wp2_with (first | (go_at_call 56; refine (cNanL _ _).mono ?_; rintro e w' ⟨rfl, rfl⟩))
  all_goals (go_ret; refine ⟨?_, rfl⟩; show Ending.returned _ = _)
  all_goals (unfold ci; first | (rw [if_pos (by omega)]; rfl) | (rw [if_neg (by omega), if_pos (by omega)]; rfl) | (rw [if_neg (by omega), if_neg (by omega)]; rfl))
theorem less_irr : ∀ s : List UInt8, Op.bytesLess s s = false
  | [] => rfl
  | x :: s => by simp [Op.bytesLess, less_irr s]
theorem UInt8.lt_trichotomy (x y : UInt8) : x < y ∨ x = y ∨ y < x := by
  rw [UInt8.lt_iff_toNat_lt, UInt8.lt_iff_toNat_lt, ← UInt8.toNat_inj]
  omega
theorem less_total : ∀ s t : List UInt8, (!Op.bytesLess s t && !(s == t)) = Op.bytesLess t s
  | [], [] => rfl
  | [], y :: t => rfl
  | x :: s, [] => rfl
  | x :: s, y :: t => by
    have ih := less_total s t
    simp only [Op.bytesLess]
    rw [show ((x :: s : List UInt8) == y :: t) = (x == y && s == t) from rfl]
    rcases UInt8.lt_trichotomy x y with h | h | h
    · have h2 : ¬ y < x := fun h3 => by rw [UInt8.lt_iff_toNat_lt] at h h3; omega
      have h3 : (y == x) = false := by simp; rintro rfl; exact h2 h
      simp [h, h2, h3]
    · subst h
      have h2 : ¬ x < x := fun h3 => by rw [UInt8.lt_iff_toNat_lt] at h3; omega
      simp [h2]
      simpa using ih
    · have h2 : ¬ x < y := fun h3 => by rw [UInt8.lt_iff_toNat_lt] at h h3; omega
      have h3 : (x == y) = false := by simp; rintro rfl; exact h2 h
      simp [h, h2, h3]
theorem gtS (t : TypeId) (a b : ByteArray) : binOp .gtr t (.string a) (.string b) = pure (.bool (Op.bytesLess b.toList a.toList)) := by
  rw [← less_total]
  simp [binOp, Op.stringOp]
theorem cCmpS (x y : ByteArray) (w : World) : Calls Tryz.prog 36 #[.string x, .string y] w fun e w' => e = .returned (.int .i64 (cs x y)) ∧ w' = w := by
  have hg := gtS
  go_enter Tryz.func36, Tryz.ntmps36
  go_wp2_with (first | (go_at_call 57; refine (cNanS _ _).mono ?_; rintro e w' ⟨rfl, rfl⟩))
  all_goals (go_ret; refine ⟨?_, rfl⟩; show Ending.returned _ = _)
  all_goals simp_all [bl, cs]
theorem cBools (x y : Bool) (w : World) : Calls Tryz.prog 34 #[.bool x, .bool y] w fun e w' => e = .returned (.int .i64 (cb x y)) ∧ w' = w := by
  cases x <;> cases y
  all_goals (go_enter Tryz.func34, Tryz.ntmps34; go_wp2_with fail; go_ret; exact ⟨rfl, rfl⟩)

set_option maxHeartbeats 2000000 in
set_option maxRecDepth 100000 in
theorem cCompare (a b : Val) (w : World) : Calls Tryz.prog 20 #[a.v, b.v] w fun e w' => e = .returned (.int .i64 (cmpV a b)) ∧ Kp [] w w' := by
  obtain ⟨ak, ab, an, at'⟩ := a
  obtain ⟨bk, bb, bn, bt⟩ := b
  unfold Val.v
  have kw : Kp [] w ((w.alloc (.cells #[.int .i64 ak, .bool ab, .int .i64 an, .string at'] 25)).alloc (.cells #[.int .i64 bk, .bool bb, .int .i64 bn, .string bt] 25)) := ((Kp.refl _ _).alloc _).alloc _
  by_cases hk : ak = bk
  · subst hk
    by_cases h1 : ak = 1
    · subst h1
      go_enter Tryz.func20, Tryz.ntmps20
      go_wp2_with (first | (go_at_call 34; refine (cBools _ _ _).mono ?_; rintro e w' ⟨rfl, rfl⟩))
      go_ret
      exact ⟨by simp [cmpV, Val.lt, ci, cs, cb], kw⟩
    by_cases h2 : ak = 2
    · subst h2
      go_enter Tryz.func20, Tryz.ntmps20
      go_wp2_with (first | (go_at_call 35; refine (cCmpL _ _ _).mono ?_; rintro e w' ⟨rfl, rfl⟩))
      go_ret
      exact ⟨by simp [cmpV, Val.lt, ci, cs, cb], kw⟩
    by_cases h3 : ak = 3
    · subst h3
      go_enter Tryz.func20, Tryz.ntmps20
      go_wp2_with (first | (go_at_call 36; refine (cCmpS _ _ _).mono ?_; rintro e w' ⟨rfl, rfl⟩))
      go_ret
      exact ⟨by simp [cmpV, Val.lt, ci, cs, cb], kw⟩
    · have d1 : (ak == 1) = false := by simpa using h1
      have d2 : (ak == 2) = false := by simpa using h2
      have d3 : (ak == 3) = false := by simpa using h3
      go_enter Tryz.func20, Tryz.ntmps20
      go_wp2_with fail
      go_ret
      exact ⟨by simp [cmpV, Val.lt, ci, cs, cb, h1, h2, h3], kw⟩
  · have d1 : (ak == bk) = false := by simpa using hk
    have hk' : ¬ bk = ak := fun h => hk h.symm
    go_enter Tryz.func20, Tryz.ntmps20
    go_wp2_with (first | (go_at_call 33; refine (cCmpI _ _ _).mono ?_; rintro e w' ⟨rfl, rfl⟩))
    go_ret
    exact ⟨by simp [cmpV, Val.lt, ci, cs, cb, hk, hk'], kw⟩

end Go.Proofs.YtafcdckpicoppaaGreatDoor
end

section
namespace Go.Proofs.YtafcdckpicoppaaGreatDoor
open Go.RowKit Go.Hay
set_option linter.unusedVariables false
set_option linter.unusedSimpArgs false

/-- Values, one behind the other. -/
def Vals (w : World) (a : Option Addr) (l : List Val) : Prop :=
  l = [] ∨ ∃ g o, a = some ⟨g, o, none⟩ ∧ ∀ j x, l[j]? = some x → w.cell? ⟨g, o + j * 4, none⟩ = some (.int .i64 x.k) ∧ w.cell? ⟨g, o + j * 4 + 1, none⟩ = some (.bool x.b) ∧ w.cell? ⟨g, o + j * 4 + 2, none⟩ = some (.int .i64 x.n) ∧ w.cell? ⟨g, o + j * 4 + 3, none⟩ = some (.string x.t)
theorem Vals.kept {w w' : World} {a : Option Addr} {l : List Val} (h : Vals w a l) (hk : Kp [] w w') : Vals w' a l := by
  rcases h with h | ⟨g, o, rfl, hc⟩
  · exact .inl h
  · refine .inr ⟨g, o, rfl, fun j t ht => ?_⟩
    obtain ⟨c0, c1, c2, c3⟩ := hc j t ht
    exact ⟨(hk.cell (World.block_lt_of_cell? _ _ c0) (by simp)).trans c0, (hk.cell (World.block_lt_of_cell? _ _ c1) (by simp)).trans c1, (hk.cell (World.block_lt_of_cell? _ _ c2) (by simp)).trans c2, (hk.cell (World.block_lt_of_cell? _ _ c3) (by simp)).trans c3⟩
theorem Vals.at {w : World} {a : Option Addr} {l : List Val} (h : Vals w a l) (j : Nat) (hj : j < l.length) : ∃ g o, a = some ⟨g, o, none⟩ ∧ w.cell? ⟨g, o + j * 4, none⟩ = some (.int .i64 l[j].k) ∧ w.cell? ⟨g, o + j * 4 + 1, none⟩ = some (.bool l[j].b) ∧ w.cell? ⟨g, o + j * 4 + 2, none⟩ = some (.int .i64 l[j].n) ∧ w.cell? ⟨g, o + j * 4 + 3, none⟩ = some (.string l[j].t) := by
  rcases h with h | ⟨g, o, rfl, hc⟩
  · subst h; simp at hj
  · exact ⟨g, o, rfl, hc j l[j] (by simp)⟩
/-- Cells that are there stay where nothing older turns. -/
theorem kpAt {w w' : World} {p : Addr} {v : Value} (hk : Kp [] w w') (h : w.cell? p = some v) : w'.cell? p = some v := (hk.cell (World.block_lt_of_cell? _ _ h) (by simp)).trans h

/-- The order of rows. -/
def rowsV : List Val → List Val → Int
  | [], [] => 0
  | [], _ :: _ => -1
  | _ :: _, [] => 1
  | x :: a, y :: b => if cmpV x y = 0 then rowsV a b else cmpV x y
theorem rowsV_step (a b : List Val) (j : Nat) (ha : j < a.length) (hb : j < b.length) : rowsV (a.drop j) (b.drop j) = if cmpV a[j] b[j] = 0 then rowsV (a.drop (j + 1)) (b.drop (j + 1)) else cmpV a[j] b[j] := by
  rw [List.drop_eq_getElem_cons ha, List.drop_eq_getElem_cons hb, rowsV]
theorem rowsV_end (a b : List Val) (j : Nat) (h : j = min a.length b.length) : rowsV (a.drop j) (b.drop j) = ci a.length b.length := by
  unfold ci
  rcases Nat.lt_trichotomy a.length b.length with h1 | h1 | h1
  · rw [if_pos (by omega), List.drop_eq_nil_of_le (by omega), List.drop_eq_getElem_cons (by omega : j < b.length), rowsV]
  · rw [if_neg (by omega), if_neg (by omega), List.drop_eq_nil_of_le (by omega), List.drop_eq_nil_of_le (by omega), rowsV]
  · rw [if_neg (by omega), if_pos (by omega), List.drop_eq_getElem_cons (by omega : j < a.length), List.drop_eq_nil_of_le (by omega : b.length ≤ j), rowsV]


end Go.Proofs.YtafcdckpicoppaaGreatDoor
end

section
namespace Go.Proofs.YtafcdckpicoppaaGreatDoor
open Go.RowKit Go.Hay
set_option linter.unusedVariables false
set_option linter.unusedSimpArgs false

/-- Which values fit a column of that kind. -/
def fitsV (ck : Int) (cn : Bool) (x : Val) : Bool := x.right && (x.k == ck || (x.k == 0 && cn))

end Go.Proofs.YtafcdckpicoppaaGreatDoor
end

section
namespace Go.Proofs.YtafcdckpicoppaaGreatDoor
open Go.RowKit Go.Hay
set_option linter.unusedVariables false
set_option linter.unusedSimpArgs false

/-- Are all values right? -/
def allR (l : List Val) : Bool := l.all Val.right
/-- Which rows can be written. -/
def okR (l : List Val) : Bool := decide (l.length ≤ 16) && allR l
theorem allR_drop (l : List Val) (j : Nat) (h : j < l.length) : allR (l.drop j) = (l[j].right && allR (l.drop (j + 1))) := by
  unfold allR
  rw [List.drop_eq_getElem_cons h, List.all_cons]
theorem allR_at {l : List Val} (h : allR l = true) (j : Nat) (hj : j < l.length) : l[j].right = true := (List.all_eq_true.1 h) _ (List.getElem_mem hj)
theorem okR_len {l : List Val} (h : okR l = true) : l.length ≤ 16 := by unfold okR at h; simp at h; exact h.1
theorem okR_all {l : List Val} (h : okR l = true) : allR l = true := by unfold okR at h; simp at h; exact h.2
/-- A row's bytes, and a key's. -/
def encB (l : List Val) : List UInt8 := octet l.length :: l.flatMap rowB
def keysB (l : List Val) : List UInt8 := l.flatMap keyB
theorem rowB_length {x : Val} (h : x.right = true) : (rowB x).length ≤ 66 := by
  unfold rowB fixB
  split
  · have := right_text h (by assumption)
    simp
    omega
  · repeat (first | split | simp [be_length])
theorem keyB_length {x : Val} (h : x.right = true) : (keyB x).length ≤ 131 := by
  unfold keyB fixB
  split
  · have := right_text h (by assumption)
    have := escK_length x.t.data.toList
    simp at this ⊢
    omega
  · repeat (first | split | simp [be_length])
theorem flat_length {f : Val → List UInt8} {m : Nat} (hf : ∀ x : Val, x.right = true → (f x).length ≤ m) : ∀ l : List Val, allR l = true → (l.flatMap f).length ≤ m * l.length
  | [], _ => by simp
  | x :: l, h => by
    unfold allR at h
    rw [List.all_cons, Bool.and_eq_true] at h
    have h1 := hf x h.1
    have h2 := flat_length hf l h.2
    rw [List.flatMap_cons, List.length_append, List.length_cons, Nat.mul_add]
    omega
theorem flat_take (f : Val → List UInt8) (l : List Val) (j : Nat) (h : j < l.length) : (l.take (j + 1)).flatMap f = (l.take j).flatMap f ++ f l[j] := by
  rw [List.take_succ_eq_append_getElem h, List.flatMap_append]
  simp
theorem allR_take {l : List Val} (h : allR l = true) (j : Nat) : allR (l.take j) = true := by
  unfold allR at *
  rw [List.all_eq_true] at *
  exact fun x hx => h x (List.mem_of_mem_take hx)
/-- What is written, or that it can't be. -/
def encS (l : List Val) : List UInt8 × Int := if okR l = true then (encB l, 0) else ([], 30)
def keyS (l : List Val) : List UInt8 × Int := if okR l = true then (keysB l, 0) else ([], 30)

set_option maxHeartbeats 4000000 in
set_option maxRecDepth 100000 in
theorem cRights (a : Option Addr) (ca : Nat) (l : List Val) (w : World) (ha : Vals w a l) (hl : l.length ≤ 9223372036854775807) :
    Calls Tryz.prog 86 #[.slice a l.length ca] w fun e w' => e = .returned (.bool (okR l)) ∧ Kp [] w w' := by
  by_cases h16 : l.length ≤ 16
  · have HO : Hid (okR l = allR l) := by show _ = _; unfold okR; simp [h16]
    go_enter Tryz.func86, Tryz.ntmps86
    go_wp2_with fail
    go_loopw [10] (fun i wn => ∃ j : Nat, j ≤ l.length ∧ i = .int .i64 j ∧ Hid (allR (l.drop j) = allR l) ∧ Kp [] w wn) (fun i _ => l.length - (intOf i).toNat)
    case atStart => exact ⟨0, Nat.zero_le _, rfl, rfl, Kp.refl _ _⟩
    case round =>
      obtain ⟨j, hj, rfl, hr, hk⟩ := hrel
      by_cases hjm : j < l.length
      · obtain ⟨g, o, rfl, a0, a1, a2, a3⟩ := (ha.kept hk).at j hjm
        have hst := hid (allR_drop l j hjm)
        generalize l[j] = x at *
        have hc := cRight x
        obtain ⟨X, HX⟩ : ∃ X : Bool, Hid (x.right = X) := ⟨_, rfl⟩
        rw [HX.out] at hc
        have hst2 : Hid (allR l = (X && allR (l.drop (j + 1)))) := by show _ = _; rw [← hr.out, hst.out, HX.out]
        clear hst HX hr
        obtain ⟨xk, xb, xn, xt⟩ := x
        unfold Val.v at hc
        dsimp only at a0 a1 a2 a3 hc
        go_wp2_with fail
        refine (hc _).mono ?_
        rintro e w1 ⟨rfl, k1⟩
        cases X
        · go_wp2_with fail
          go_ret
          exact ⟨by rw [HO.out, hst2.out]; rfl, (hk.alloc _).trans k1 (by simp)⟩
        · go_wp2_with fail
          exact ⟨⟨j + 1, by omega, by go_num, by show _ = _; rw [hst2.out]; rfl, (hk.alloc _).trans k1 (by simp)⟩, by simp [intOf]; omega⟩
      · obtain rfl : j = l.length := by omega
        have hn : Hid (allR l = true) := by show _ = _; rw [← hr.out, List.drop_length]; rfl
        clear hr
        go_wp2_with fail
        go_ret
        exact ⟨by rw [HO.out, hn.out]; rfl, hk⟩
  · have HO : Hid (okR l = false) := by show _ = _; unfold okR; simp [h16]
    go_enter Tryz.func86, Tryz.ntmps86
    go_wp2_with fail
    go_ret
    exact ⟨by rw [HO.out]; rfl, Kp.refl _ _⟩

/-- What an Encode hands back: a new row. -/
def Wrt (w : World) (r : List UInt8 × Int) (e : Ending) (w' : World) : Prop :=
  ∃ a c bs E, Hid (r = (bs, E)) ∧ e = .returned (.tuple #[.slice a bs.length c, .int .i64 E]) ∧ Row w' (.slice a bs.length c) bs ∧ New w (.slice a bs.length c) w' ∧ bs.length ≤ 10000

set_option maxHeartbeats 4000000 in
set_option maxRecDepth 100000 in
theorem cEncode (a : Option Addr) (ca : Nat) (l : List Val) (w : World) (ha : Vals w a l) (hl : l.length ≤ 9223372036854775807) :
    Calls Tryz.prog 54 #[.slice a l.length ca] w (Wrt w (encS l)) := by
  have hR := fun w' (k : Kp [] w w') => cRights a ca l w' (ha.kept k) hl
  obtain ⟨R, HR⟩ : ∃ R : Bool, Hid (okR l = R) := ⟨_, rfl⟩
  rw [HR.out] at hR
  have HS : Hid (encS l = if R = true then (encB l, 0) else ([], 30)) := by show _ = _; unfold encS; rw [HR.out]
  cases R
  · have HS2 : Hid (encS l = ([], 30)) := HS
    clear HS
    go_enter Tryz.func54, Tryz.ntmps54
    go_wp2_with fail
    refine (hR _ (Kp.refl _ _)).mono ?_
    rintro e w1 ⟨rfl, k1⟩
    go_wp2_with fail
    go_ret2
    exact ⟨none, 0, [], 30, HS2, rfl, Row.nil _, New.nil k1 _, by simp⟩
  · have HS2 : Hid (encS l = (encB l, 0)) := HS
    have h16 := okR_len HR.out
    have hal := okR_all HR.out
    have HA := hid hal
    clear HS hal
    have hwr : IntKind.u8.wrap (l.length : Int) = (l.length : Int) := by rw [IntKind.wrap_u8]; omega
    go_enter Tryz.func54, Tryz.ntmps54
    go_wp2_with fail
    refine (hR _ (Kp.refl _ _)).mono ?_
    rintro e w1 ⟨rfl, k1⟩
    have hrw := rowNew w1 rfl l.length (by omega) (by omega) 5
    have hN1 : New w (.slice (some ⟨w1.heap.size, 0, none⟩) 1 1) (w1.alloc (.cells #[.int .u8 l.length] 5)) := ⟨k1.alloc _, by intro k hk; simp [own, Value.ownBlock] at hk; have := k1.size; omega⟩
    go_wp2_with fail
    go_loopw [4, 16] (fun v i wn => ∃ (j : Nat) (cur : List UInt8) (a' : Option Addr) (c' : Nat), j ≤ l.length ∧ i = .int .i64 j ∧ v = .slice a' cur.length c' ∧ Row wn (.slice a' cur.length c') cur ∧ Hid (cur = octet l.length :: (l.take j).flatMap rowB) ∧ New w (.slice a' cur.length c') wn) (fun _ i _ => l.length - (intOf i).toNat)
    case atStart => exact ⟨0, _, _, _, Nat.zero_le _, rfl, rfl, hrw, rfl, hN1⟩
    case round =>
      obtain ⟨j, cur, a', c', hj, rfl, rfl, hrow, hcur, hN⟩ := hrel
      have hcl : cur.length ≤ 1100 := by
        have := flat_length (f := rowB) (m := 66) (fun x hx => rowB_length hx) (l.take j) (allR_take HA.out j)
        rw [hcur.out]
        simp at this ⊢
        omega
      by_cases hjm : j < l.length
      · obtain ⟨g, o, rfl, a0, a1, a2, a3⟩ := (ha.kept hN.kp).at j hjm
        have hst := hid (flat_take rowB l j hjm)
        have hxr := allR_at HA.out j hjm
        generalize l[j] = x at *
        have hc := fun w' (h : Row w' (.slice a' cur.length c') cur) => cPutValue x hxr a' c' cur w' h (by omega)
        clear hxr
        obtain ⟨rb, Hrb⟩ : ∃ rb : List UInt8, Hid (rowB x = rb) := ⟨_, rfl⟩
        rw [Hrb.out] at hc
        obtain ⟨xk, xb, xn, xt⟩ := x
        unfold Val.v at hc
        dsimp only at a0 a1 a2 a3 hc
        go_wp2_with fail
        refine (hc _ (rowKeep hrow (kpNew _ _))).mono ?_
        rintro e w2 ⟨v2, rfl, hr2, hg2⟩
        obtain ⟨a2', c2', rfl, _⟩ := hr2.shape
        obtain ⟨cur2, Hc2⟩ : ∃ cur2 : List UInt8, Hid (cur ++ rb = cur2) := ⟨_, rfl⟩
        rw [Hc2.out] at hr2 hg2 ⊢
        have hN2 := (hN.post (kpNew _ _)).grew hg2
        go_wp2_with fail
        refine ⟨⟨j + 1, cur2, a2', c2', by omega, by go_num, rfl, hr2, ?_, hN2⟩, by simp [intOf]; omega⟩
        show _ = _
        rw [hst.out, ← Hc2.out, hcur.out, Hrb.out] <;> simp
      · obtain rfl : j = l.length := by omega
        rw [List.take_length] at hcur
        go_wp2_with fail
        go_ret2
        exact ⟨_, _, cur, 0, by show _ = _; rw [HS2.out, hcur.out]; rfl, rfl, hrow, hN, by omega⟩

end Go.Proofs.YtafcdckpicoppaaGreatDoor
end

section
namespace Go.Hay
open Go.RowKit

/-- How an element lies in cells. -/
structure El (α : Type) where
  n : Nat
  c : α → List Value
  len : ∀ x, (c x).length = n
  one : ∀ x, ∀ u ∈ c x, u.oneCell' = true
  pos : 0 < n
section
variable {α : Type} (E : El α)
def El.cs (l : List α) : List Value := l.flatMap E.c
theorem El.cs_cons (x : α) (l : List α) : E.cs (x :: l) = E.c x ++ E.cs l := rfl
theorem El.cs_append (a b : List α) : E.cs (a ++ b) = E.cs a ++ E.cs b := by simp [El.cs]
theorem El.cs_length (l : List α) : (E.cs l).length = l.length * E.n := by
  induction l with
  | nil => simp [El.cs]
  | cons x l ih => rw [El.cs_cons, List.length_append, E.len, ih, List.length_cons, Nat.succ_mul]; omega
theorem El.cs_one (l : List α) : ∀ u ∈ E.cs l, u.oneCell' = true := by
  intro u hu
  obtain ⟨x, _, hx⟩ := List.mem_flatMap.1 hu
  exact E.one x u hx
theorem El.cs_drop (l : List α) : ∀ i, E.cs (l.drop i) = (E.cs l).drop (i * E.n) := by
  induction l with
  | nil => intro i; simp [El.cs]
  | cons x l ih =>
    intro i
    cases i with
    | zero => simp
    | succ i =>
      rw [List.drop_succ_cons, ih i, El.cs_cons, Nat.succ_mul, Nat.add_comm, ← List.drop_drop, List.drop_left' (E.len x)]
theorem El.cs_take (l : List α) : ∀ i, E.cs (l.take i) = (E.cs l).take (i * E.n) := by
  induction l with
  | nil => intro i; simp [El.cs]
  | cons x l ih =>
    intro i
    cases i with
    | zero => simp [El.cs]
    | succ i =>
      rw [List.take_succ_cons, El.cs_cons, ih i, El.cs_cons, Nat.succ_mul, Nat.add_comm, List.take_append, E.len, List.take_of_length_le (l := E.c x) (by rw [E.len]; omega), Nat.add_sub_cancel_left]
theorem El.cs_get {l : List α} {j k : Nat} {x : α} (h : l[j]? = some x) (hk : k < E.n) : (E.cs l)[j * E.n + k]? = (E.c x)[k]? := by
  have e := El.cs_drop E l j
  have hl : l.drop j = x :: l.drop (j + 1) := by
    obtain ⟨h1, rfl⟩ := List.getElem?_eq_some_iff.1 h
    exact List.drop_eq_getElem_cons h1
  rw [hl, El.cs_cons] at e
  have : (E.cs l)[j * E.n + k]? = ((E.cs l).drop (j * E.n))[k]? := by rw [List.getElem?_drop]
  rw [this, ← e, List.getElem?_append_left (by rw [E.len]; exact hk)]

/-- What a slice of elements sees. -/
def El.See (w : World) (a : Option Addr) (l : List α) : Prop :=
  l = [] ∨ ∃ g o, a = some ⟨g, o, none⟩ ∧ ∀ j u, (E.cs l)[j]? = some u → w.cell? ⟨g, o + j, none⟩ = some u
variable {E}
theorem El.See.nil (w : World) (a : Option Addr) : E.See w a [] := .inl rfl
theorem El.See.kept {w w' : World} {a : Option Addr} {l : List α} {S : List Nat} (h : E.See w a l) (hk : Kp S w w') (hn : l ≠ [] → ∀ k ∈ blk a, k ∉ S) : E.See w' a l := by
  rcases h with rfl | ⟨g, o, rfl, hc⟩
  · exact .inl rfl
  · by_cases hl : l = []
    · exact .inl hl
    · exact .inr ⟨g, o, rfl, fun j u hu => (hk.cell (World.block_lt_of_cell? _ _ (hc j u hu)) (hn hl g (by simp [blk]))).trans (hc j u hu)⟩
theorem El.See.keptNew {w w' : World} {a : Option Addr} {l : List α} (h : E.See w a l) (hk : Kp [] w w') : E.See w' a l := h.kept hk (by simp)
theorem El.See.at {w : World} {a : Option Addr} {l : List α} (h : E.See w a l) {j : Nat} {x : α} (hx : l[j]? = some x) : ∃ g o, a = some ⟨g, o, none⟩ ∧ ∀ k u, (E.c x)[k]? = some u → w.cell? ⟨g, o + j * E.n + k, none⟩ = some u := by
  rcases h with rfl | ⟨g, o, rfl, hc⟩
  · simp at hx
  · refine ⟨g, o, rfl, fun k u hu => ?_⟩
    have hk : k < E.n := by have := (List.getElem?_eq_some_iff.1 hu).1; rwa [E.len] at this
    rw [Nat.add_assoc]
    exact hc _ _ ((El.cs_get E hx hk).trans hu)
theorem El.See.lt {w : World} {a : Option Addr} {l : List α} (h : E.See w a l) (hl : l ≠ []) : ∀ k ∈ blk a, k < w.heap.size := by
  cases l with
  | nil => exact absurd rfl hl
  | cons x l =>
    obtain ⟨g, o, rfl, hc⟩ := h.at (j := 0) (x := x) rfl
    intro k hk
    simp [blk] at hk
    subst hk
    have h0 : 0 < (E.c x).length := by rw [E.len]; exact E.pos
    exact World.block_lt_of_cell? _ _ (hc 0 _ (List.getElem?_eq_getElem h0))
theorem El.See.src {P : Program} {w : World} {a : Option Addr} {l : List α} (h : E.See w a l) {t e : TypeId} (ht : P.underlying t = some (.slice e)) (c : Nat) : Src P E.n t (.slice a l.length c) l.length (E.cs l) w := by
  rcases h with rfl | ⟨g, o, rfl, hc⟩
  · cases a with
    | none => exact Src.ofNil w ht c
    | some ad => exact Src.ofSlice w ht ad 0 c [] (by simp) (by intro j u hu; simp at hu) (by intro u hu; simp at hu)
  · exact Src.ofSlice w ht ⟨g, o, none⟩ l.length c (E.cs l) (El.cs_length E l) (fun j u hu => by rw [Addr.add_lit]; exact hc j u hu) (El.cs_one E l)
theorem El.See.front {w : World} {a : Option Addr} {l : List α} (h : E.See w a l) (i : Nat) : E.See w a (l.take i) := by
  rcases h with rfl | ⟨g, o, rfl, hc⟩
  · exact .inl (by simp)
  · refine .inr ⟨g, o, rfl, fun j u hu => ?_⟩
    rw [El.cs_take, List.getElem?_take] at hu
    split at hu
    · exact hc j u hu
    · cases hu

variable (E)
/-- A row of elements of the calls' own: its cells are there, none is frozen. -/
def El.Row (w : World) (v : Value) (l : List α) : Prop :=
  (v = .slice none 0 0 ∧ l = []) ∨ ∃ g o cap, v = .slice (some ⟨g, o, none⟩) l.length cap ∧ l.length ≤ cap ∧ cap ≤ maxLen ∧ g < w.heap.size ∧
    (∀ j u, (E.cs l)[j]? = some u → w.cell? ⟨g, o + j, none⟩ = some u) ∧ ∀ j, j < cap * E.n → (w.cell? ⟨g, o + j, none⟩).isSome = true ∧ w.frozen? ⟨g, o + j, none⟩ = false
variable {E}
theorem El.Row.nil (w : World) : E.Row w (.slice none 0 0) [] := .inl ⟨rfl, rfl⟩
theorem El.Row.lt {w : World} {v : Value} {l : List α} (h : E.Row w v l) : ∀ k ∈ own v, k < w.heap.size := by
  rcases h with ⟨rfl, _⟩ | ⟨g, o, cap, rfl, _, _, hg, _⟩
  · intro k hk; simp [own, Value.ownBlock] at hk
  · intro k hk; simp [own, Value.ownBlock] at hk; omega
theorem El.Row.see {w : World} {v : Value} {l : List α} (h : E.Row w v l) : ∃ a c, v = .slice a l.length c ∧ E.See w a l ∧ (a = none → l = [] ∧ c = 0) ∧ l.length ≤ c ∧ c ≤ maxLen ∧ own v = blk a := by
  rcases h with ⟨rfl, rfl⟩ | ⟨g, o, cap, rfl, hl, hm, hg, hc, ht⟩
  · exact ⟨none, 0, rfl, .inl rfl, fun _ => ⟨rfl, rfl⟩, Nat.le_refl _, Nat.zero_le _, rfl⟩
  · exact ⟨_, _, rfl, .inr ⟨g, o, rfl, hc⟩, fun h => (by cases h), hl, hm, rfl⟩
theorem El.Row.kept {w w' : World} {v : Value} {l : List α} {S : List Nat} (h : E.Row w v l) (hk : Kp S w w') (hn : ∀ k ∈ own v, k ∉ S) : E.Row w' v l := by
  rcases h with h | ⟨g, o, cap, rfl, hl, hm, hg, hc, ht⟩
  · exact .inl h
  · have hgS : g ∉ S := hn g (by simp [own, Value.ownBlock])
    have e1 : ∀ j, w'.cell? ⟨g, o + j, none⟩ = w.cell? ⟨g, o + j, none⟩ := fun j => hk.cell (p := ⟨g, o + j, none⟩) hg hgS
    have e2 : ∀ j, w'.frozen? ⟨g, o + j, none⟩ = w.frozen? ⟨g, o + j, none⟩ := fun j => hk.frozen (p := ⟨g, o + j, none⟩) hg hgS
    exact .inr ⟨g, o, cap, rfl, hl, hm, Nat.lt_of_lt_of_le hg hk.size, fun j u hu => (e1 j).trans (hc j u hu), fun j hj => by rw [e1, e2]; exact ht j hj⟩
theorem El.Row.keptNew {w w' : World} {v : Value} {l : List α} (h : E.Row w v l) (hk : Kp [] w w') : E.Row w' v l := h.kept hk (by simp)

theorem grown_cellsG (w : World) (g : Nat) (xs : List Value) (z : Array Value) (h : g = w.heap.size) (t : TypeId) : ∀ j u, xs[j]? = some u → (w.alloc (.cells (xs.toArray ++ z) t)).cell? ⟨g, 0 + j, none⟩ = some u := by
  subst h
  intro j u hu
  have hj : j < xs.length := (List.getElem?_eq_some_iff.1 hu).1
  have e1 : (w.alloc (.cells (xs.toArray ++ z) t)).cell? ⟨w.heap.size, 0 + j, none⟩ = _ := World.cell?_alloc_new w _ _ (0 + j)
  rw [e1, Nat.zero_add, Array.getElem?_append_left (by simp only [List.size_toArray]; exact hj), List.getElem?_toArray, hu]

/-- An append of elements, out of whatever yields them, onto a row of the call's own. -/
theorem run_appendG {P : Program} (w : World) (t tx ty e : TypeId) (i : TypeInfo) (z : Value) (bytes : Nat) (ht : P.underlying t = some (.slice e)) (hi : P.info? e = some i) (hz : i.zero = some z) (hsize : i.size = E.n) (hby : i.bytes = bytes) (hzs : z.cells.size = E.n)
    (v : Value) (xs : List α) (hown : E.Row w v xs) (x : Value) (bs : List α) (hs : Src P E.n tx x bs.length (E.cs bs) w) (hb : (xs.length + bs.length + (xs.length + bs.length) / 4 + 192) * bytes ≤ 281474976710656) (h63 : xs.length + bs.length ≤ 100000000000000) :
    ∃ v' w', (Builtin.append_ #[t, tx] ty #[v, x]).run P w = .ok v' w' ∧ E.Row w' v' (xs ++ bs) ∧ Kp (own v) w w' ∧ ∀ k ∈ own v', k ∈ own v ∨ w.heap.size ≤ k := by
  have hs' := hs
  rw [← hsize] at hs'
  have grow : ∀ (ao : Option Addr) (cap : Nat), v = .slice ao xs.length cap → cap < xs.length + bs.length → (Builtin.firstCells i.size xs.length (.slice ao xs.length cap)).run P w.drew = .ok (E.cs xs).toArray w.drew →
      ∃ v' w', (Builtin.append_ #[t, tx] ty #[v, x]).run P w = .ok v' w' ∧ E.Row w' v' (xs ++ bs) ∧ Kp (own v) w w' ∧ ∀ k ∈ own v', k ∈ own v ∨ w.heap.size ≤ k := by
    rintro ao cap rfl hlt hold
    have hrun := run_append_grow_src (P := P) w t tx ty e i z ht hi hz ao xs.length cap (E.cs xs) hold x bs.length (E.cs bs) hs' hlt (by omega) (growslice_fits_wide hlt (by rw [hby]; exact hb))
    have hge := grownCap_ge w (xs.length + bs.length) cap e
    have hcm := grownCap_le_maxLen w (xs.length + bs.length) cap e (by unfold maxLen; omega)
    rw [← El.cs_append] at hrun
    refine ⟨_, _, hrun, .inr ⟨w.heap.size, 0, _, by rw [List.length_append], by rw [List.length_append]; omega, hcm, by simp, ?_, ?_⟩, (Kp.refl _ w).drew.alloc _, ?_⟩
    · exact grown_cellsG w.drew _ (E.cs (xs ++ bs)) _ rfl _
    · intro j hj
      refine ⟨?_, World.frozen?_alloc_new w.drew _ _ (0 + j)⟩
      have e1 := World.cell?_alloc_new w.drew ((E.cs (xs ++ bs)).toArray ++ Builtin.zeroCells z.cells (grownCap w (xs.length + bs.length) cap e - (xs.length + bs.length))) e (0 + j)
      have hsz : ((E.cs (xs ++ bs)).toArray ++ Builtin.zeroCells z.cells (grownCap w (xs.length + bs.length) cap e - (xs.length + bs.length))).size = grownCap w (xs.length + bs.length) cap e * E.n := by
        rw [Array.size_append, List.size_toArray, El.cs_length, List.length_append, size_zeroCells, hzs, ← Nat.add_mul]
        congr 1
        omega
      refine (congrArg Option.isSome e1).trans ?_
      rw [Nat.zero_add, Array.getElem?_eq_getElem (by rw [hsz]; exact hj)]
      rfl
    · intro k hk
      simp [own, Value.ownBlock] at hk
      omega
  rcases hown with ⟨rfl, rfl⟩ | ⟨g, o, cap, rfl, hl, hm, hg, hc, ht'⟩
  · rcases Nat.eq_zero_or_pos bs.length with h0 | h0
    · obtain rfl : bs = [] := List.length_eq_zero_iff.1 h0
      exact ⟨_, _, run_append_nothing (P := P) w t tx ty e i ht hi none 0 0 (Nat.le_refl _) x hs', .inl ⟨rfl, rfl⟩, Kp.refl _ _, fun _ h => .inl h⟩
    · exact grow none 0 rfl (by simpa using h0) (run_firstCells_none w.drew i.size 0 0 0)
  · by_cases hroom : xs.length + bs.length ≤ cap
    · have hmul : (xs.length + bs.length) * E.n ≤ cap * E.n := Nat.mul_le_mul_right _ hroom
      rw [Nat.add_mul] at hmul
      have hsome : ∀ j, j < (E.cs bs).length → (w.cell? ⟨g, o + xs.length * i.size + j, none⟩).isSome = true := fun j hj => by
        rw [El.cs_length] at hj; rw [hsize, Nat.add_assoc]; exact (ht' _ (by omega)).1
      have hrun := run_append_room_src (P := P) w t tx ty e i ht hi g o xs.length cap x bs.length (E.cs bs) hs' hroom hsome
        (fun j hj => by rw [El.cs_length] at hj; rw [hsize, Nat.add_assoc]; exact (ht' _ (by omega)).2)
      rw [hsize] at hsome
      rw [hsize] at hrun
      refine ⟨_, _, hrun, .inr ⟨g, o, cap, by rw [List.length_append], by rw [List.length_append]; omega, hm, by rw [size_setCells]; exact hg, ?_, ?_⟩, (Kp.refl _ w).setCells (by simp [own, Value.ownBlock]) _ _, fun k hk => .inl hk⟩
      · intro j u hu
        rw [El.cs_append] at hu
        by_cases hj : j < (E.cs xs).length
        · rw [World.cell?_setCells_out g _ _ _ _ (fun _ _ => Or.inl (by show o + j < o + xs.length * E.n; rw [El.cs_length] at hj; omega))]
          rw [List.getElem?_append_left hj] at hu
          exact hc j u hu
        · rw [List.getElem?_append_right (by omega)] at hu
          have hj2 : j - (E.cs xs).length < (E.cs bs).length := (List.getElem?_eq_some_iff.1 hu).1
          have := World.cell?_setCells_in g (E.cs bs) (o + xs.length * E.n) w hsome (j - (E.cs xs).length) hj2
          rw [← List.getElem?_eq_getElem hj2, hu] at this
          rw [El.cs_length] at hj this
          rw [show o + xs.length * E.n + (j - xs.length * E.n) = o + j by omega] at this
          exact this
      · intro j hj
        refine ⟨?_, (World.frozen?_setCells g _ _ _ _).trans (ht' j hj).2⟩
        by_cases hin : xs.length * E.n ≤ j ∧ j < xs.length * E.n + (E.cs bs).length
        · have := World.cell?_setCells_in g (E.cs bs) (o + xs.length * E.n) w hsome (j - xs.length * E.n) (by omega)
          rw [show o + xs.length * E.n + (j - xs.length * E.n) = o + j by omega] at this
          rw [this]; rfl
        · rw [World.cell?_setCells_out g _ _ _ _ (fun _ _ => by show o + j < o + xs.length * E.n ∨ o + xs.length * E.n + (E.cs bs).length ≤ o + j; omega)]
          exact (ht' j hj).1
    · refine grow (some ⟨g, o, none⟩) cap rfl (by omega) ?_
      exact run_firstCells_some w.drew i.size xs.length ⟨g, o, none⟩ xs.length cap (E.cs xs) (by rw [El.cs_length, hsize]) (fun j u hu => by rw [Addr.add_lit]; exact hc j u hu)

/-- .. for the walk. -/
theorem wpAppG {P : Program} {w : World} {ops : Array Oper} {rest : List Oper} {o : Oper} {a : Act} {Q : Exit → Act → World → Prop} (hgd : o.guard = none) (s x : Operand) (t tx e : TypeId)
    (ho : o.op = .call { callee := .builtin .append, args := #[s, x], argTypes := #[t, tx] })
    (i : TypeInfo) (z : Value) (bytes : Nat) (ht : P.underlying t = some (.slice e)) (hi : P.info? e = some i) (hz : i.zero = some z) (hsize : i.size = E.n) (hby : i.bytes = bytes) (hzs : z.cells.size = E.n)
    (v : Value) (xs : List α) (hv : a.eval s = v) (hown : E.Row w v xs) (xv : Value) (bs : List α) (hx : a.eval x = xv) (hs : Src P E.n tx xv bs.length (E.cs bs) w) (hb : (xs.length + bs.length + (xs.length + bs.length) / 4 + 192) * bytes ≤ 281474976710656) (h63 : xs.length + bs.length ≤ 100000000000000)
    (hK : ∀ l' a' c' w', Hid (l' = xs ++ bs) → E.Row w' (.slice a' l'.length c') l' → Kp (own v) w w' → (∀ k ∈ blk a', k ∈ own v ∨ w.heap.size ≤ k) → wpList P ops Q rest (a.put o.dst (.slice a' l'.length c')) w') : wpList P ops Q (o :: rest) a w := by
  refine wpList_plain hgd fun K hK' => ?_
  obtain ⟨v', w', hrun, h1, h2, h3⟩ := run_appendG (P := P) w t tx o.type e i z bytes ht hi hz hsize hby hzs v xs hown xv bs hs hb h63
  obtain ⟨l', hl'⟩ : ∃ l', l' = xs ++ bs := ⟨_, rfl⟩
  rw [← hl'] at h1
  obtain ⟨a', c', rfl, _, _, _, _, eo⟩ := h1.see
  have hfin := hK' _ _ (hK l' a' c' w' hl' h1 h2 (fun k hk => h3 k (by rw [eo]; exact hk)))
  unfold Oper.wp
  simp [execOp, ho, resolve, invoke, builtin, hv, hx, hrun, Result.andThen]
  exact hfin
end
theorem run_copyG {P : Program} (w : World) (dT sT ty elem : TypeId) (i : TypeInfo) (hu : P.underlying dT = some (.slice elem)) (hi : P.info? elem = some i) (b o dLen dCap : Nat) (a : Addr) (sLen sCap : Nat) (hsd : sLen ≤ dLen) (cs : List Value)
    (hn : cs.length = sLen * i.size) (hsrc : ∀ j v, cs[j]? = some v → w.cell? (a.add j) = some v) (hc : ∀ j, j < cs.length → (w.cell? ⟨b, o + j, none⟩).isSome = true) (hf : ∀ j, j < cs.length → w.frozen? ⟨b, o + j, none⟩ = false) (h1 : ∀ v ∈ cs, v.oneCell' = true) :
    (Builtin.copy_ #[dT, sT] ty #[.slice (some ⟨b, o, none⟩) dLen dCap, .slice (some a) sLen sCap]).run P w = .ok (goInt sLen) (w.setCells b o cs) := by
  have hl := run_loadCells_list (P := P) w a cs hsrc
  have hst := run_storeCells_cells (P := P) b o cs 0 w (by simpa using hc) (by simpa using hf) h1
  simp only [Nat.add_zero] at hst
  have hmin : Nat.min sLen dLen = sLen := Nat.min_eq_left hsd
  simp [Builtin.copy_, run_underlying hu, Builtin.lenOf, Builtin.firstCells, sizeOf, typeInfo, hi, hmin, ← hn, hl, hst]
/-- An append, or a copy, whose run is known, at a step of a region that draws its order. -/
theorem stepAppRun {P : Program} {w w' : World} {ops : Array Oper} {o : Oper} {a : Act} {K : Act → World → Prop} {Q : Exit → Act → World → Prop} {E : Prop} (hgd : o.guard = none) (s x : Operand) (t tx : TypeId)
    (ho : o.op = .call { callee := .builtin .append, args := #[s, x], argTypes := #[t, tx] }) (v xv v' : Value) (hv : a.eval s = v) (hx : a.eval x = xv)
    (hrun : (Builtin.append_ #[t, tx] o.type #[v, xv]).run P w = .ok v' w') (h : K (a.put o.dst v') w') : if Region.wanted o (yielded ops a.tmps) = true then Oper.wp P o a w K Q else E := by
  have hw : Region.wanted o (yielded ops a.tmps) = true := by simp [Region.wanted, hgd]
  rw [if_pos hw]
  unfold Oper.wp execOp
  simp only [ho, resolve, invoke, builtin, Sem.run_bind, Sem.run_pure, Result.andThen_ok, List.map_toArray, List.map_cons, List.map_nil, hv, hx, hrun]
  exact h
theorem stepCpyRun {P : Program} {w w' : World} {ops : Array Oper} {o : Oper} {a : Act} {K : Act → World → Prop} {Q : Exit → Act → World → Prop} {E : Prop} (hgd : o.guard = none) (s x : Operand) (t tx : TypeId)
    (ho : o.op = .call { callee := .builtin .copy, args := #[s, x], argTypes := #[t, tx] }) (v xv v' : Value) (hv : a.eval s = v) (hx : a.eval x = xv)
    (hrun : (Builtin.copy_ #[t, tx] o.type #[v, xv]).run P w = .ok v' w') (h : K (a.put o.dst v') w') : if Region.wanted o (yielded ops a.tmps) = true then Oper.wp P o a w K Q else E := by
  have hw : Region.wanted o (yielded ops a.tmps) = true := by simp [Region.wanted, hgd]
  rw [if_pos hw]
  unfold Oper.wp execOp
  simp only [ho, resolve, invoke, builtin, Sem.run_bind, Sem.run_pure, Result.andThen_ok, List.map_toArray, List.map_cons, List.map_nil, hv, hx, hrun]
  exact h
end Go.Hay
end

section
namespace Go.Hay
open Go.RowKit
set_option linter.unusedVariables false

section
variable {α : Type} {E : El α}
theorem El.cs_replicate (z : α) (n : Nat) (j : Nat) (u : Value) (h : (E.cs (List.replicate n z))[j]? = some u) : (E.c z)[j % E.n]? = some u ∧ j < n * E.n := by
  have hj : j < n * E.n := by have := (List.getElem?_eq_some_iff.1 h).1; rwa [El.cs_length, List.length_replicate] at this
  refine ⟨?_, hj⟩
  have hq : j / E.n < n := (Nat.div_lt_iff_lt_mul E.pos).2 hj
  have hm : j % E.n < E.n := Nat.mod_lt _ E.pos
  have hx : (List.replicate n z)[j / E.n]? = some z := by rw [List.getElem?_replicate, if_pos hq]
  have e := El.cs_get E hx hm
  rw [Nat.mul_comm, Nat.div_add_mod] at e
  rw [← e]; exact h
/-- So many elements, all nought, made. -/
theorem run_makeG {P : Program} (w : World) (t e : TypeId) (i : TypeInfo) (zv : Value) (z : α) (bytes : Nat) (ht : P.underlying t = some (.slice e)) (hi : P.info? e = some i) (hz : i.zero = some zv) (hsize : i.size = E.n) (hby : i.bytes = bytes) (hzc : zv.cells = (E.c z).toArray)
    (kl kc : IntKind) (n : Nat) (hn : n * bytes ≤ 281474976710656) (h63 : n ≤ maxLen) :
    ∃ W, (Instr.makeSlice t (.int kl (n : Int)) (.int kc (n : Int))).run P w = .ok (.slice (some ⟨w.heap.size, 0, none⟩) n n) W ∧ E.Row W (.slice (some ⟨w.heap.size, 0, none⟩) n n) (List.replicate n z) ∧ Kp [] w W ∧ W.heap.size = w.heap.size + 1 := by
  have hr := run_make (P := P) w t e i zv ht hi hz kl kc n n (by omega) (by omega) (by rw [hby]; have h : ((n * bytes : Nat) : Int) ≤ ((281474976710656 : Nat) : Int) := Int.ofNat_le.2 hn; rw [Int.natCast_mul, Int.mul_comm] at h; exact h) (by unfold maxLen at h63; omega)
  rw [Int.toNat_natCast, hsize] at hr
  have hzs : zv.cells.size = E.n := by rw [hzc]; simp [E.len]
  have hget : ∀ j, j < n * E.n → (w.alloc (.cells (madeCells zv.cells (n * E.n)) e)).cell? ⟨w.heap.size, 0 + j, none⟩ = some zv.cells[j % E.n]! := fun j hj => by
    have e1 : (w.alloc (.cells (madeCells zv.cells (n * E.n)) e)).cell? ⟨w.heap.size, 0 + j, none⟩ = _ := World.cell?_alloc_new w _ _ (0 + j)
    rw [e1, Nat.zero_add]
    unfold madeCells
    rw [Array.getElem?_map, Array.getElem?_range, if_pos hj, hzs]
    rfl
  refine ⟨_, hr, .inr ⟨w.heap.size, 0, n, by rw [List.length_replicate], by rw [List.length_replicate]; exact Nat.le_refl _, h63, by simp, fun j u hu => ?_, fun j hj => ⟨?_, World.frozen?_alloc_new w _ _ (0 + j)⟩⟩, (Kp.refl _ _).alloc _, by simp⟩
  · obtain ⟨h1, h2⟩ := El.cs_replicate z n j u hu
    rw [hget j h2, hzc]
    have hm : j % E.n < (E.c z).length := by rw [E.len]; exact Nat.mod_lt _ E.pos
    rw [getElem!_pos _ _ (by simpa using hm)]
    have := (List.getElem?_eq_some_iff.1 h1).2
    simp [this]
  · rw [hget j hj]; rfl
/-- .. written at a place. -/
theorem El.Row.setAt {w : World} {g o n cap : Nat} {l : List α} (h : E.Row w (.slice (some ⟨g, o, none⟩) n cap) l) (i : Nat) (hi : i < l.length) (x : α) : E.Row (w.setCells g (o + i * E.n) (E.c x)) (.slice (some ⟨g, o, none⟩) n cap) (l.set i x) := by
  rcases h with ⟨e, _⟩ | ⟨g, o, c, e, hl, hx, hg, hc, ht⟩
  · cases e
  · cases e
    have hin : i * E.n + E.n ≤ l.length * E.n := by rw [← Nat.succ_mul]; exact Nat.mul_le_mul_right _ hi
    have hcap : l.length * E.n ≤ cap * E.n := Nat.mul_le_mul_right _ hl
    have hsome : ∀ j, j < (E.c x).length → (w.cell? ⟨g, o + i * E.n + j, none⟩).isSome = true := fun j hj => by rw [E.len] at hj; rw [Nat.add_assoc]; exact (ht _ (by omega)).1
    refine .inr ⟨g, o, cap, by rw [List.length_set], by rw [List.length_set]; exact hl, hx, by rw [size_setCells]; exact hg, fun j u hu => ?_, fun j hj => ⟨?_, (World.frozen?_setCells g _ _ _ _).trans (ht j hj).2⟩⟩
    · have hjl : j < l.length * E.n := by have := (List.getElem?_eq_some_iff.1 hu).1; rwa [El.cs_length, List.length_set] at this
      have hq : j / E.n < l.length := (Nat.div_lt_iff_lt_mul E.pos).2 hjl
      have hm : j % E.n < E.n := Nat.mod_lt _ E.pos
      have hjd : j = j / E.n * E.n + j % E.n := by rw [Nat.mul_comm]; exact (Nat.div_add_mod j E.n).symm
      by_cases hji : j / E.n = i
      · have hx' : (l.set i x)[j / E.n]? = some x := by rw [hji]; exact List.getElem?_set_self hi
        have e := El.cs_get E hx' hm
        rw [← hjd, hu] at e
        have hk : j % E.n < (E.c x).length := by rw [E.len]; exact hm
        have := World.cell?_setCells_in g (E.c x) (o + i * E.n) w hsome (j % E.n) hk
        rw [← List.getElem?_eq_getElem hk, ← e] at this
        rw [show o + i * E.n + j % E.n = o + j by rw [hji] at hjd; omega] at this
        exact this
      · have hy : (l.set i x)[j / E.n]? = some l[j / E.n] := by rw [List.getElem?_set_ne (fun e => hji e.symm)]; simp [hq]
        have e := El.cs_get E hy hm
        have e2 := El.cs_get E (show l[j / E.n]? = some l[j / E.n] by simp [hq]) hm
        rw [← hjd, hu] at e
        rw [← hjd, ← e] at e2
        rw [World.cell?_setCells_out g _ _ _ _ (fun _ _ => ?_)]
        · exact hc j u e2
        · rw [E.len]
          show o + j < o + i * E.n ∨ o + i * E.n + E.n ≤ o + j
          rcases Nat.lt_or_gt_of_ne hji with h1 | h1
          · have : (j / E.n + 1) * E.n ≤ i * E.n := Nat.mul_le_mul_right _ h1
            rw [Nat.succ_mul] at this
            left; omega
          · have : (i + 1) * E.n ≤ j / E.n * E.n := Nat.mul_le_mul_right _ h1
            rw [Nat.succ_mul] at this
            right; omega
    · by_cases hin2 : i * E.n ≤ j ∧ j < i * E.n + E.n
      · have := World.cell?_setCells_in g (E.c x) (o + i * E.n) w hsome (j - i * E.n) (by rw [E.len]; omega)
        rw [show o + i * E.n + (j - i * E.n) = o + j by omega] at this
        rw [this]; rfl
      · rw [World.cell?_setCells_out g _ _ _ _ (fun _ _ => by rw [E.len]; show o + j < o + i * E.n ∨ o + i * E.n + E.n ≤ o + j; omega)]
        exact (ht j hj).1
end
def BytE : El UInt8 where
  n := 1
  c x := [.int .u8 x.toNat]
  len _ := rfl
  one _ u hu := by simp at hu; subst hu; rfl
  pos := by decide
theorem bytE_cs (bs : List UInt8) : BytE.cs bs = bs.map fun x => .int .u8 x.toNat := by
  unfold El.cs BytE
  induction bs with
  | nil => rfl
  | cons x l ih => simp [List.flatMap_cons, ih]
theorem rowByt {w : World} {v : Value} {bs : List UInt8} : BytE.Row w v bs ↔ Row w v bs := by
  have hn : BytE.n = 1 := rfl
  constructor
  · rintro (h | ⟨g, o, cap, rfl, hl, hm, hg, hc, ht⟩)
    · exact .inl h
    · exact .inr ⟨g, o, cap, rfl, hl, hm, hg, fun j u hu => hc j _ (by rw [bytE_cs, List.getElem?_map, hu]; rfl), fun j hj => ht j (by rw [hn]; omega)⟩
  · rintro (h | ⟨g, o, cap, rfl, hl, hm, hg, hc, ht⟩)
    · exact .inl h
    · refine .inr ⟨g, o, cap, rfl, hl, hm, hg, fun j u hu => ?_, fun j hj => ht j (by rw [hn] at hj; omega)⟩
      rw [bytE_cs, List.getElem?_map] at hu
      cases hb : bs[j]? with
      | none => rw [hb] at hu; cases hu
      | some b => rw [hb] at hu; cases hu; exact hc j b hb
theorem seeByt {w : World} {a : Option Addr} {bs : List UInt8} : BytE.See w a bs ↔ Sees w a bs := by
  constructor
  · rintro (h | ⟨g, o, rfl, hc⟩)
    · exact .inl h
    · exact .inr ⟨g, o, rfl, fun j u hu => hc j _ (by rw [bytE_cs, List.getElem?_map, hu]; rfl)⟩
  · rintro (h | ⟨g, o, rfl, hc⟩)
    · exact .inl h
    · refine .inr ⟨g, o, rfl, fun j u hu => ?_⟩
      rw [bytE_cs, List.getElem?_map] at hu
      cases hb : bs[j]? with
      | none => rw [hb] at hu; cases hu
      | some b => rw [hb] at hu; cases hu; exact hc j b hb
end Go.Hay
end

section
namespace Go.Proofs.YtafcdckpicoppaaGreatDoor
open Go.RowKit Go.Hay
set_option linter.unusedVariables false
set_option linter.unusedSimpArgs false

/-- Values' cells. -/
def vcells (l : List Val) : List Value := l.flatMap fun x => [.int .i64 x.k, .bool x.b, .int .i64 x.n, .string x.t]
theorem vcells_length (l : List Val) : (vcells l).length = l.length * 4 := by
  induction l with
  | nil => rfl
  | cons x l ih => simp only [vcells, List.flatMap_cons, List.length_append, List.length_cons, List.length_nil] at ih ⊢; omega
theorem vcells_append (a b : List Val) : vcells (a ++ b) = vcells a ++ vcells b := by simp [vcells]
theorem vcells_one (l : List Val) : ∀ u ∈ vcells l, u.oneCell' = true := by
  intro u hu
  obtain ⟨x, _, hx⟩ := List.mem_flatMap.1 hu
  simp at hx
  rcases hx with rfl | rfl | rfl | rfl <;> rfl
theorem vcells_cons (x : Val) (l : List Val) : vcells (x :: l) = [.int .i64 x.k, .bool x.b, .int .i64 x.n, .string x.t] ++ vcells l := rfl
theorem vcells_at (l : List Val) : ∀ (j : Nat) (x : Val), l[j]? = some x → (vcells l)[j * 4]? = some (.int .i64 x.k) ∧ (vcells l)[j * 4 + 1]? = some (.bool x.b) ∧ (vcells l)[j * 4 + 2]? = some (.int .i64 x.n) ∧ (vcells l)[j * 4 + 3]? = some (.string x.t) := by
  induction l with
  | nil => intro j x h; simp at h
  | cons y l ih =>
    intro j x h
    cases j with
    | zero => cases h; exact ⟨rfl, rfl, rfl, rfl⟩
    | succ j =>
      have := ih j x (by simpa using h)
      rw [vcells_cons, show (j + 1) * 4 = j * 4 + 4 by omega]
      simpa using this
theorem vcells_src (l : List Val) (w : World) (g o : Nat) (hc : ∀ j x, l[j]? = some x → w.cell? ⟨g, o + j * 4, none⟩ = some (.int .i64 x.k) ∧ w.cell? ⟨g, o + j * 4 + 1, none⟩ = some (.bool x.b) ∧ w.cell? ⟨g, o + j * 4 + 2, none⟩ = some (.int .i64 x.n) ∧ w.cell? ⟨g, o + j * 4 + 3, none⟩ = some (.string x.t)) (j : Nat) (u : Value) (h : (vcells l)[j]? = some u) : w.cell? ⟨g, o + j, none⟩ = some u := by
  have hj : j < (vcells l).length := (List.getElem?_eq_some_iff.1 h).1
  rw [vcells_length] at hj
  have hq : j / 4 < l.length := by omega
  obtain ⟨e0, e1, e2, e3⟩ := vcells_at l (j / 4) l[j / 4] (by simp)
  obtain ⟨c0, c1, c2, c3⟩ := hc (j / 4) l[j / 4] (by simp)
  rcases (by omega : j % 4 = 0 ∨ j % 4 = 1 ∨ j % 4 = 2 ∨ j % 4 = 3) with h4 | h4 | h4 | h4
  · rw [show j = j / 4 * 4 by omega] at h ⊢; rw [e0] at h; cases h; exact c0
  · rw [show j = j / 4 * 4 + 1 by omega] at h ⊢; rw [e1] at h; cases h; exact c1
  · rw [show j = j / 4 * 4 + 2 by omega] at h ⊢; rw [e2] at h; cases h; exact c2
  · rw [show j = j / 4 * 4 + 3 by omega] at h ⊢; rw [e3] at h; cases h; exact c3

/-- A row of values of the call's own. -/
def RowV (w0 w : World) (v : Value) (l : List Val) : Prop := w.ownsRow w0.heap.size 25 4 v l.length (vcells l)
theorem RowV.vals {w0 w : World} {v : Value} {l : List Val} (h : RowV w0 w v l) : ∃ a c, v = .slice a l.length c ∧ Vals w a l ∧ l.length ≤ c ∧ c ≤ maxLen := by
  obtain ⟨_, ⟨rfl, h0⟩ | ⟨g, cap, cur, rfl, _, hg, hl, hm, hsz, ht⟩⟩ := h
  · obtain rfl : l = [] := List.length_eq_zero_iff.1 h0
    exact ⟨none, 0, rfl, .inl rfl, Nat.le_refl _, Nat.zero_le _⟩
  · refine ⟨some ⟨g, 0, none⟩, cap, rfl, .inr ⟨g, 0, rfl, fun j x hx => ?_⟩, hl, hm⟩
    have cell : ∀ i u, (vcells l)[i]? = some u → w.cell? ⟨g, 0 + i, none⟩ = some u := fun i u hu => by
      rw [← ht, List.getElem?_take] at hu
      split at hu
      · rw [Nat.zero_add, World.cell?, hg]; simpa using hu
      · cases hu
    obtain ⟨e0, e1, e2, e3⟩ := vcells_at l j x hx
    exact ⟨cell _ _ e0, by rw [Nat.add_assoc]; exact cell _ _ e1, by rw [Nat.add_assoc]; exact cell _ _ e2, by rw [Nat.add_assoc]; exact cell _ _ e3⟩
theorem RowV.fresh {w0 w : World} (h : w0.heap.size ≤ w.heap.size) : RowV w0 (w.alloc (.cells #[] 25)) (.slice (some ⟨w.heap.size, 0, none⟩) 0 0) [] :=
  ⟨rfl, .inr ⟨w.heap.size, 0, #[], rfl, h, by show (w.heap.push _)[w.heap.size]? = _; exact Array.getElem?_push_size, Nat.le_refl _, Nat.zero_le _, rfl, rfl⟩⟩
theorem RowV.own {w0 w : World} {v : Value} {l : List Val} (h : RowV w0 w v l) : ∀ k, v.ownBlock = some k → w0.heap.size ≤ k := by
  obtain ⟨_, ⟨rfl, _⟩ | ⟨g, cap, cur, rfl, hb, _⟩⟩ := h
  · intro k hk; cases hk
  · intro k hk; cases hk; exact hb
theorem kpGrown {w0 w w' : World} {row : Option Nat} (h : Kp [] w0 w) (hg : w.grownBy w' row) (hr : ∀ k, row = some k → w0.heap.size ≤ k) : Kp [] w0 w' :=
  ⟨hg.os.trans h.os, hg.tape.trans h.tape, hg.output.trans h.output, Nat.le_trans h.size hg.size, fun k hk hS => (hg.block k (Nat.lt_of_lt_of_le hk h.size) (fun e => by have := hr k e.symm; omega)).trans (h.block k hk hS)⟩

theorem Vals.single (w : World) (x : Val) (t : TypeId) : Vals (w.alloc (.cells #[.int .i64 x.k, .bool x.b, .int .i64 x.n, .string x.t] t)) (some ⟨w.heap.size, 0, none⟩) [x] := by
  refine .inr ⟨_, _, rfl, fun j z hz => ?_⟩
  match j, hz with
  | 0, hz => cases hz; exact ⟨World.cell?_alloc_new w _ _ 0, World.cell?_alloc_new w _ _ 1, World.cell?_alloc_new w _ _ 2, World.cell?_alloc_new w _ _ 3⟩
  | j + 1, hz => simp at hz
theorem RowV.kept {w0 w w' : World} {v : Value} {l : List Val} (h : RowV w0 w v l) (hk : Kp [] w w') : RowV w0 w' v l := by
  obtain ⟨h1, h2 | ⟨g, cap, cur, h3, hb, hg, h4⟩⟩ := h
  · exact ⟨h1, .inl h2⟩
  · refine ⟨h1, .inr ⟨g, cap, cur, h3, hb, ?_, h4⟩⟩
    have hlt : g < w.heap.size := by
      rcases Nat.lt_or_ge g w.heap.size with h' | h'
      · exact h'
      · rw [Array.getElem?_eq_none h'] at hg; cases hg
    rw [hk.block g hlt (by simp)]
    exact hg
theorem info4 {P : Program} {t : TypeId} {z : Value} {a b : Nat} (h : (P.info? t).map (fun i => (i.zero, i.size, i.bytes)) = some (some z, a, b)) : ∃ i, P.info? t = some i ∧ i.zero = some z ∧ i.size = a ∧ i.bytes = b := by
  cases hp : P.info? t with
  | none => rw [hp] at h; cases h
  | some i =>
    rw [hp] at h
    simp at h
    exact ⟨i, rfl, h.1, h.2.1, h.2.2⟩
theorem infoV : ∃ i : TypeInfo, Tryz.prog.info? 25 = some i ∧ i.zero = some (.agg #[.int .i64 0, .bool false, .int .i64 0, .string ⟨#[]⟩]) ∧ i.size = 4 ∧ i.bytes = 40 := info4 (by kernel_rfl)

/-- An append of values onto a row of the call's own, for the walk. -/
theorem wpAppendV {w : World} {ops : Array Oper} {rest : List Oper} {o : Oper} {a : Act} {Q : Exit → Act → World → Prop} (hgd : o.guard = none) (s x : Operand)
    (ho : o.op = .call { callee := .builtin .append, args := #[s, x], argTypes := #[32, 32] })
    (w0 : World) (v : Value) (l : List Val) (hs : a.eval s = v) (hown : RowV w0 w v l) (src : Option Addr) (m c : Nat) (r : List Val) (hx : a.eval x = .slice src m c) (hmr : m = r.length) (hr : Vals w src r) (hc : src = none → c = 0)
    (hb : l.length + r.length ≤ 4000000000000) (hk : Kp [] w0 w)
    (h : ∀ v' w', RowV w0 w' v' (l ++ r) → Kp [] w0 w' → wpList Tryz.prog ops Q rest (a.put o.dst v') w') : wpList Tryz.prog ops Q (o :: rest) a w := by
  obtain ⟨i, hi, hz, hz1, hz2⟩ := infoV
  subst hmr
  cases src with
  | none =>
    obtain rfl : r = [] := by rcases hr with h | ⟨g, o, h, _⟩; exact h; cases h
    rw [hc rfl] at hx
    exact wpList_append_own_none hgd s x 32 ho w0.heap.size 25 i 4 Tryz.underlying32 hi v l.length (vcells l) hs hown hx (h v w (by simpa using hown) hk)
  | some ad =>
    refine wpList_append_own_wide w hgd s x 32 ho w0.heap.size 25 i _ 4 40 Tryz.underlying32 hi hz hz1 hz2 rfl (by omega) v l.length (vcells l) hs hown ad r.length c (vcells r) hx (vcells_length r) ?_ (vcells_one r) (by unfold maxLen; omega) (by omega) hk.size ?_
    · intro j u hu
      rcases hr with rfl | ⟨g, o', hg, hcell⟩
      · simp [vcells] at hu
      · cases hg
        rw [Addr.add_lit]
        exact vcells_src r w g o' hcell j u hu
    · intro v' w' h2 h3 _
      exact h v' w' (by unfold RowV; rw [List.length_append, vcells_append]; exact h2) (kpGrown hk h3 hown.own)
end Go.Proofs.YtafcdckpicoppaaGreatDoor
end

section
namespace Go.Proofs.YtafcdckpicoppaaGreatDoor
open Go.RowKit Go.Hay
set_option linter.unusedVariables false
set_option linter.unusedSimpArgs false

def nulV : Val := ⟨0, false, 0, ⟨#[]⟩⟩
def VE : El Val where
  n := 4
  c x := [.int .i64 x.k, .bool x.b, .int .i64 x.n, .string x.t]
  len _ := rfl
  one _ u hu := by simp at hu; rcases hu with rfl | rfl | rfl | rfl <;> rfl
  pos := by decide
theorem seeV {w : World} {a : Option Addr} {l : List Val} : VE.See w a l ↔ Vals w a l := by
  constructor
  · intro h
    by_cases hl : l = []
    · exact .inl hl
    · rcases h with h | ⟨g, o, rfl, hc⟩
      · exact absurd h hl
      · refine .inr ⟨g, o, rfl, fun j x hx => ?_⟩
        have e : ∀ k u, k < 4 → (VE.c x)[k]? = some u → w.cell? ⟨g, o + j * 4 + k, none⟩ = some u := fun k u hk hu => by
          have := hc (j * 4 + k) u ((El.cs_get VE hx hk).trans hu)
          rwa [← Nat.add_assoc] at this
        exact ⟨e 0 _ (by omega) rfl, e 1 _ (by omega) rfl, e 2 _ (by omega) rfl, e 3 _ (by omega) rfl⟩
  · rintro (h | ⟨g, o, rfl, hc⟩)
    · exact .inl h
    · refine .inr ⟨g, o, rfl, fun j u hu => ?_⟩
      have hj : j < l.length * 4 := by have := (List.getElem?_eq_some_iff.1 hu).1; rwa [El.cs_length] at this
      have hq : j / 4 < l.length := by omega
      have hx : l[j / 4]? = some l[j / 4] := by simp [hq]
      have hg := El.cs_get VE hx (k := j % 4) (Nat.mod_lt _ (by decide))
      have e4 : VE.n = 4 := rfl
      rw [e4, show j / 4 * 4 + j % 4 = j by omega, hu] at hg
      obtain ⟨c0, c1, c2, c3⟩ := hc (j / 4) _ hx
      have hm : j % 4 = 0 ∨ j % 4 = 1 ∨ j % 4 = 2 ∨ j % 4 = 3 := by omega
      have ho : o + j = o + j / 4 * 4 + j % 4 := by omega
      rw [ho]
      rcases hm with h | h | h | h <;> rw [h] at hg ⊢ <;> cases hg <;> assumption
/-- New bytes. -/
def NB (bs : List UInt8) (w : World) (e : Ending) (w' : World) : Prop := ∃ a c, e = .returned (.slice a bs.length c) ∧ Row w' (.slice a bs.length c) bs ∧ Kp [] w w' ∧ ∀ k ∈ blk a, w.heap.size ≤ k
end Go.Proofs.YtafcdckpicoppaaGreatDoor
end

/- What the proof stands on: contracts of functions that the statement calls, and plain lemmas. No statement of the seat is proved here. -/
import Derived.Test.YtlgfekjoknbfdaaGreatDoorB2
import Derived.Laws.Cover3
import Derived.Test.YtlgfekjoknbfdaaGreatDoorB1
import Derived.BigQuiet
import Derived.Lib.AppendZeros
set_option maxHeartbeats 64000000
set_option maxRecDepth 100000
set_option linter.unusedVariables false
set_option linter.unusedSimpArgs false
section
namespace Go.Proofs.YtlgfekjoknbfdaaGreatDoor
open Go.RowKit Go.Hay
attribute [local go_sem] Oper.semAt_some
theorem boxV4Y (w : World) (v : Val) : ∃ q W1 W2, w.heap.size = q ∧ w.alloc (.cells #[.int .i64 0, .bool false, .int .i64 0, .string ⟨#[]⟩] 88) = W1 ∧ Bn W1 q [.int .i64 0, .bool false, .int .i64 0, .string ⟨#[]⟩] ∧
  (((W1.setCell ⟨q, 0, none⟩ (.int .i64 v.k)).setCell ⟨q, 1, none⟩ (.bool v.b)).setCell ⟨q, 2, none⟩ (.int .i64 v.n)).setCell ⟨q, 3, none⟩ (.string v.t) = W2 ∧ Bn W2 q [.int .i64 v.k, .bool v.b, .int .i64 v.n, .string v.t] ∧ Kp [] w W2 ∧ q < W2.heap.size := by
 have b0 := Bn.new w [.int .i64 0, .bool false, .int .i64 0, .string ⟨#[]⟩] 88
 have k0 : Kp [] w (w.alloc (.cells #[.int .i64 0, .bool false, .int .i64 0, .string ⟨#[]⟩] 88)) := (Kp.refl _ _).alloc _
 have h : w.heap.size ∈ ([] : List Nat) ∨ w.heap.size ≤ w.heap.size := .inr (Nat.le_refl _)
 have b1 := (((b0.set 0 (by simp) (.int .i64 v.k)).set 1 (by simp) (.bool v.b)).set 2 (by simp) (.int .i64 v.n)).set 3 (by simp) (.string v.t)
 exact ⟨_, _, _, rfl, rfl, b0, rfl, b1, (((k0.setCell h _).setCell h _).setCell h _).setCell h _, b1.lt (by simp)⟩
theorem cNullE (w : World) : Calls Tryz.prog 130 #[] w fun e w' => e = .returned (.agg #[.int .i64 0, .bool false, .int .i64 0, .string ⟨#[]⟩]) ∧ Kp [] w w' := by
 obtain ⟨q, W1, W2, eq, e1, b1, e2, b2, k2, z2⟩ := boxV4Y w nulV;have m0 := b1.get 0 _ rfl; have m1 := b1.get 1 _ rfl; have m2 := b1.get 2 _ rfl; have m3 := b1.get 3 _ rfl
 have f0 := b1.free 0; have f1 := b1.free 1; have f2 := b1.free 2; have f3 := b1.free 3
 have v0 := b2.get 0 _ rfl; have v1 := b2.get 1 _ rfl; have v2 := b2.get 2 _ rfl; have v3 := b2.get 3 _ rfl
 simp only [nulV] at e2 v0 v1 v2 v3;clear b1 b2;go_enter Tryz.func130, Tryz.ntmps130
 go_wp2_with fail;exact bodyPost_ret (v := .agg #[.int .i64 0, .bool false, .int .i64 0, .string ⟨#[]⟩]) (by simp [results, Tryz.results130, go_sem, v0, v1, v2, v3]) rfl ⟨rfl, k2⟩
theorem cAtE (a : Option Addr) (c : Nat) (l : List Val) (n : Int) (w : World) (ha : Vals w a l) (hl : l.length ≤ 9223372036854775807) : Calls Tryz.prog 99 #[.slice a l.length c, .int .i64 n] w fun e w' => e = .returned (.agg #[.int .i64 (vAt l n).k, .bool (vAt l n).b, .int .i64 (vAt l n).n, .string (vAt l n).t]) ∧ Kp [] w w' := by
 obtain ⟨q, W1, eq, e1, b1, k1⟩ : ∃ q W1, w.heap.size = q ∧ w.alloc (.cells #[.int .i64 0, .bool false, .int .i64 0, .string ⟨#[]⟩] 88) = W1 ∧ Bn W1 q [.int .i64 0, .bool false, .int .i64 0, .string ⟨#[]⟩] ∧ Kp [] w W1 := ⟨_, _, rfl, rfl, Bn.new w _ _, (Kp.refl _ _).alloc _⟩
 have hset : ∀ (W : World) (v : Val), Bn W q [.int .i64 0, .bool false, .int .i64 0, .string ⟨#[]⟩] → Kp [] w W → ∃ W2, (((W.setCell ⟨q, 0, none⟩ (.int .i64 v.k)).setCell ⟨q, 1, none⟩ (.bool v.b)).setCell ⟨q, 2, none⟩ (.int .i64 v.n)).setCell ⟨q, 3, none⟩ (.string v.t) = W2 ∧ Bn W2 q [.int .i64 v.k, .bool v.b, .int .i64 v.n, .string v.t] ∧ Kp [] w W2 := fun W v b k =>
  have h : q ∈ ([] : List Nat) ∨ w.heap.size ≤ q := .inr (by omega)
  ⟨_, rfl, (((b.set 0 (by simp) (.int .i64 v.k)).set 1 (by simp) (.bool v.b)).set 2 (by simp) (.int .i64 v.n)).set 3 (by simp) (.string v.t), (((k.setCell h _).setCell h _).setCell h _).setCell h _⟩
 by_cases hin : 0 ≤ n ∧ n < (l.length : Int)
 ·obtain ⟨i, rfl⟩ := Int.eq_ofNat_of_zero_le hin.1
  have hi : i < l.length := by omega
  rw [vAt_in l i hi];obtain ⟨g, o, rfl, c0, c1, c2, c3⟩ := (ha.kept k1).at i hi;obtain ⟨v, hv⟩ : ∃ v, l[i] = v := ⟨_, rfl⟩
  rw [hv] at c0 c1 c2 c3 ⊢;obtain ⟨W2, e2, b2, k2⟩ := hset W1 v b1 k1;have m0 := b1.get 0 _ rfl; have m1 := b1.get 1 _ rfl; have m2 := b1.get 2 _ rfl; have m3 := b1.get 3 _ rfl
  have f0 := b1.free 0; have f1 := b1.free 1; have f2 := b1.free 2; have f3 := b1.free 3
  have v0 := b2.get 0 _ rfl; have v1 := b2.get 1 _ rfl; have v2 := b2.get 2 _ rfl; have v3 := b2.get 3 _ rfl
  obtain ⟨vk, vb, vn, vt⟩ := v;dsimp only at *;have d1 : decide ((i : Int) < 0) = false := by simp
  have d2 : decide ((l.length : Int) ≤ (i : Int)) = false := by simp; omega
  have d2n : decide (l.length ≤ i) = false := by simp; omega
  have d3 : (0 : Int) ≤ (i : Int) := by omega
  have d4 : (i : Int) < (l.length : Int) := by omega
  clear b1 b2 hset ha hv hin k1;go_enter Tryz.func99, Tryz.ntmps99
  go_wp2_with fail;exact bodyPost_ret (v := .agg #[.int .i64 vk, .bool vb, .int .i64 vn, .string vt]) (by simp [results, Tryz.results99, go_sem, v0, v1, v2, v3]) rfl ⟨rfl, k2⟩
 ·rw [vAt_out l n hin]
  have cN := hid (cNullE W1)
  have HB := hid (And.intro b1 (And.intro k1 hset))
  have go : ∀ e w', (e = Ending.returned (.agg #[.int .i64 0, .bool false, .int .i64 0, .string ⟨#[]⟩]) ∧ Kp [] W1 w') → True := fun _ _ _ => trivial
  clear ha go
  by_cases h0 : n < 0
  ·have d1 : decide (n < 0) = true := by simpa using h0
   clear b1 k1 hset h0 hin;go_enter Tryz.func99, Tryz.ntmps99
   go_wp2_with fail;refine cN.out.mono ?_;rintro e W3 ⟨rfl, k3⟩;have b3 := HB.out.1.kept k3
   obtain ⟨W2, e2, b2, k2⟩ := HB.out.2.2 W3 nulV b3 (HB.out.2.1.trans k3 (by simp))
   have m0 := b3.get 0 _ rfl; have m1 := b3.get 1 _ rfl; have m2 := b3.get 2 _ rfl; have m3 := b3.get 3 _ rfl
   have f0 := b3.free 0; have f1 := b3.free 1; have f2 := b3.free 2; have f3 := b3.free 3
   have v0 := b2.get 0 _ rfl; have v1 := b2.get 1 _ rfl; have v2 := b2.get 2 _ rfl; have v3 := b2.get 3 _ rfl
   simp only [nulV] at e2 v0 v1 v2 v3;clear b3 b2 HB cN k3;go_wp2_with fail;exact bodyPost_ret (v := .agg #[.int .i64 0, .bool false, .int .i64 0, .string ⟨#[]⟩]) (by simp [results, Tryz.results99, go_sem, v0, v1, v2, v3]) rfl ⟨rfl, k2⟩
  ·have d1 : decide (n < 0) = false := by simpa using h0
   have d2 : decide ((l.length : Int) ≤ n) = true := by simp; omega
   clear b1 k1 hset h0 hin;go_enter Tryz.func99, Tryz.ntmps99
   go_wp2_with fail;refine cN.out.mono ?_;rintro e W3 ⟨rfl, k3⟩;have b3 := HB.out.1.kept k3
   obtain ⟨W2, e2, b2, k2⟩ := HB.out.2.2 W3 nulV b3 (HB.out.2.1.trans k3 (by simp))
   have m0 := b3.get 0 _ rfl; have m1 := b3.get 1 _ rfl; have m2 := b3.get 2 _ rfl; have m3 := b3.get 3 _ rfl
   have f0 := b3.free 0; have f1 := b3.free 1; have f2 := b3.free 2; have f3 := b3.free 3
   have v0 := b2.get 0 _ rfl; have v1 := b2.get 1 _ rfl; have v2 := b2.get 2 _ rfl; have v3 := b2.get 3 _ rfl
   simp only [nulV] at e2 v0 v1 v2 v3;clear b3 b2 HB cN k3;go_wp2_with fail;exact bodyPost_ret (v := .agg #[.int .i64 0, .bool false, .int .i64 0, .string ⟨#[]⟩]) (by simp [results, Tryz.results99, go_sem, v0, v1, v2, v3]) rfl ⟨rfl, k2⟩
theorem eqNilY (a : Option Addr) (n c : Nat) (w : World) : (binOp .eql 61 (.slice a n c) (.slice none 0 0)).run Tryz.prog w = .ok (.bool a.isNone) w := by
 simp only [binOp];simp [run_equal_slice_nil w 61 88 a n c Tryz.underlying61]
theorem rowNoneY {α : Type} (E : El α) (w : World) {q : Nat} (hq : w.heap.size = q) (C : Array Value) (t : TypeId) : E.Row (w.alloc (.cells C t)) (.slice (some ⟨q, 0, none⟩) 0 0) [] := by
 subst hq;exact .inr ⟨_, 0, 0, rfl, Nat.le_refl _, Nat.zero_le _, by simp, by intro j u hu; simp [El.cs] at hu, by intro j hj; omega⟩
theorem cCloneR (a : Option Addr) (c : Nat) (l : List Val) (w : World) (ha : Vals w a l) (hn : a = none → c = 0) (hb : l.length ≤ 3600000000000) :
  Calls Tryz.prog 95 #[.slice a l.length c] w (NewR l w) := by
 have hs := seeV.2 ha
 clear ha
 cases a with
 | none =>
  have hl : l = [] := by rcases hs with h | ⟨g, o, h, _⟩; exact h; cases h
  subst hl;rw [hn rfl];have e1 := eqNilY none 0 0
  go_enter Tryz.func95, Tryz.ntmps95
  go_wp2_with fail;go_ret;exact ⟨none, 0, rfl, .inl ⟨rfl, rfl⟩, Kp.refl _ _, by simp [blk]⟩
 | some ad =>
  have e0 := eqNilY (some ad) l.length c
  go_enter Tryz.func95, Tryz.ntmps95
  have k1 : Kp [] w (w.alloc (.cells #[] 88)) := (Kp.refl _ _).alloc _
  have hr := rowNoneY VE w rfl #[] 88
  have hsr := (hs.keptNew k1).src (P := Tryz.prog) Tryz.underlying61 c
  obtain ⟨i0, hi, hz0, hz1, hz2⟩ := infoVal;go_wp2_with (first | (refine wpAppG (E := VE) rfl _ _ 61 61 88 rfl i0 _ 40 Tryz.underlying61 hi hz0 hz1 hz2 rfl _ [] rfl hr _ l rfl hsr (by simp; omega) (by simp; omega) ?_; intro ys a' c' w' hy hrow hg hn) | fail)
  go_ret;have e : ys = l := by rw [hy.out]; rfl
  subst e;refine ⟨a', c', rfl, hrow, k1.trans hg (fun k hk => .inr ?_), fun k hk => ?_⟩
  ·simp [own, Value.ownBlock, Act.eval] at hk; omega
  ·rcases hn k hk with h1 | h1
   ·simp [own, Value.ownBlock, Act.eval] at h1; omega
   ·exact Nat.le_trans k1.size h1
theorem cValuesE (a : Option Addr) (n c : Nat) (w : World) : Calls Tryz.prog 53 #[.slice a n c] w fun e w' => e = .returned (.func (.func 94) #[] #[.pointer (some ⟨w.heap.size, 0, none⟩)]) ∧ w' = w.alloc (.cells #[.slice a n c] 60) := by
 go_enter Tryz.func53, Tryz.ntmps53
 go_wp2_with fail;go_returns;exact ⟨rfl, rfl⟩
end Go.Proofs.YtlgfekjoknbfdaaGreatDoor
end

section
namespace Go.Proofs.YtlgfekjoknbfdaaGreatDoor
open Go.Hay
theorem less_ntrans : ∀ a b c : List UInt8, Op.bytesLess b a = false → Op.bytesLess c b = false → Op.bytesLess c a = false
 | [], _, c, _, _ => by cases c <;> rfl
 | x :: a, [], c, h, _ => by simp [Op.bytesLess] at h
 | x :: a, y :: b, [], _, h => by simp [Op.bytesLess] at h
 | x :: a, y :: b, z :: c, h1, h2 => by
  have ih := less_ntrans a b c
  simp only [Op.bytesLess, Bool.or_eq_false_iff, decide_eq_false_iff_not, Bool.and_eq_false_iff, beq_eq_false_iff_ne, ne_eq] at h1 h2 ⊢;rw [UInt8.lt_iff_toNat_lt, ← UInt8.toNat_inj] at h1 h2 ⊢;refine ⟨by omega, ?_⟩
  by_cases hz : z.toNat = x.toNat
  ·have h3 : Op.bytesLess b a = false := h1.2.resolve_left (by omega)
   have h4 : Op.bytesLess c b = false := h2.2.resolve_left (by omega)
   exact .inr (ih h3 h4)
  ·exact .inl hz
theorem bl_ntrans {a b c : ByteArray} (h : bl b a = false) (k : bl c b = false) : bl c a = false := less_ntrans _ _ _ h k
theorem bl_asymm {a b : ByteArray} (h : bl a b = true) : bl b a = false := by
 unfold bl at *
 rw [← less_total a.toList b.toList, h];rfl
theorem Val.lt_asymm (a b : Val) (h : a.lt b = true) : b.lt a = false := by
 unfold Val.lt at *
 by_cases hk : a.k = b.k
 ·rw [if_neg (by simpa using hk)] at h
  rw [if_neg (by simpa using hk.symm), ← hk]
  by_cases h1 : a.k = 1
  ·rw [if_pos h1] at h ⊢; cases ha : a.b <;> cases hb : b.b <;> simp_all
  rw [if_neg h1] at h ⊢
  by_cases h2 : a.k = 2
  ·rw [if_pos h2] at h ⊢; simp at h ⊢; omega
  rw [if_neg h2] at h ⊢
  by_cases h3 : a.k = 3
  ·rw [if_pos h3] at h ⊢; exact bl_asymm h
  rw [if_neg h3] at h ⊢
 ·rw [if_pos hk] at h
  rw [if_pos (fun e => hk e.symm)]
  simp at h ⊢; omega
theorem Val.lt_ntrans (a b c : Val) (h : b.lt a = false) (k : c.lt b = false) : c.lt a = false := by
 unfold Val.lt at *
 by_cases hba : b.k = a.k
 ·rw [if_neg (by simpa using hba)] at h
  by_cases hcb : c.k = b.k
  ·rw [if_neg (by simpa using hcb)] at k
   rw [if_neg (by simpa using hcb.trans hba)]
   by_cases h1 : a.k = 1
   ·rw [if_pos (by omega)] at h k ⊢; cases ha : a.b <;> cases hb : b.b <;> cases hc : c.b <;> simp_all
   rw [if_neg (by omega)] at h k ⊢
   by_cases h2 : a.k = 2
   ·rw [if_pos (by omega)] at h k ⊢; simp at h k ⊢; omega
   rw [if_neg (by omega)] at h k ⊢
   by_cases h3 : a.k = 3
   ·rw [if_pos (by omega)] at h k ⊢; exact bl_ntrans h k
   rw [if_neg (by omega)]
  ·rw [if_pos (by simpa using hcb)] at k
   rw [if_pos (by rw [← hba]; simpa using hcb)]
   simp at k ⊢; omega
 ·rw [if_pos (by simpa using hba)] at h
  by_cases hcb : c.k = b.k
  ·rw [if_pos (by rw [hcb]; simpa using hba)]
   simp at h ⊢; omega
  ·rw [if_pos (by simpa using hcb)] at k
   simp at h k
   rw [if_pos (by omega)]
   simp; omega
theorem cmp_neg (a b : Val) : cmpV b a = -cmpV a b := by
 unfold cmpV
 cases h1 : a.lt b
 ·cases h2 : b.lt a <;> simp
 ·rw [Val.lt_asymm a b h1]; simp
theorem cmp_le (a b : Val) : cmpV a b ≤ 0 ↔ b.lt a = false := by
 unfold cmpV
 cases h1 : a.lt b
 ·cases h2 : b.lt a <;> simp
 ·rw [Val.lt_asymm a b h1]; simp
theorem cmp_trans (a b c : Val) (h : cmpV a b ≤ 0) (k : cmpV b c ≤ 0) : cmpV a c ≤ 0 := (cmp_le a c).2 (Val.lt_ntrans a b c ((cmp_le a b).1 h) ((cmp_le b c).1 k))
theorem cmp_range (a b : Val) : cmpV a b = -1 ∨ cmpV a b = 0 ∨ cmpV a b = 1 := by
 unfold cmpV
 split
 ·exact .inl rfl
 split
 ·exact .inr (.inr rfl)
 ·exact .inr (.inl rfl)
theorem cmp_strict (a b c : Val) (h : cmpV a b < 0) (k : cmpV b c ≤ 0) : cmpV a c < 0 := by
 have h1 := cmp_trans a b c (by omega) k
 by_cases h2 : cmpV a c = 0
 ·have h3 := cmp_neg a c
  have h4 := cmp_trans b c a k (by omega)
  have h5 := cmp_neg a b
  omega
 ·omega
theorem cmp_strict' (a b c : Val) (h : cmpV a b ≤ 0) (k : cmpV b c < 0) : cmpV a c < 0 := by
 have h1 := cmp_trans a b c h (by omega)
 by_cases h2 : cmpV a c = 0
 ·have h3 := cmp_neg a c
  have h4 := cmp_trans c a b (by omega) h
  have h5 := cmp_neg b c
  omega
 ·omega
theorem rows_neg : ∀ a b : List Val, rowsV b a = -rowsV a b
 | [], [] => rfl
 | [], _ :: _ => rfl
 | _ :: _, [] => rfl
 | x :: a, y :: b => by
  have h := cmp_neg x y
  simp only [rowsV]
  by_cases h0 : cmpV x y = 0
  ·rw [if_pos h0, if_pos (by omega), rows_neg a b]
  ·rw [if_neg h0, if_neg (by omega), h]
theorem rows_trans : ∀ a b c : List Val, rowsV a b ≤ 0 → rowsV b c ≤ 0 → rowsV a c ≤ 0
 | [], _, [], _, _ => by simp [rowsV]
 | [], _, _ :: _, _, _ => by simp [rowsV]
 | _ :: _, [], _, h, _ => by simp [rowsV] at h
 | _ :: _, _ :: _, [], _, h => by simp [rowsV] at h
 | x :: a, y :: b, z :: c, h1, h2 => by
  simp only [rowsV] at h1 h2 ⊢;have ih := rows_trans a b c
  by_cases e1 : cmpV x y = 0
  ·rw [if_pos e1] at h1
   by_cases e2 : cmpV y z = 0
   ·rw [if_pos e2] at h2
    have h3 := cmp_trans x y z (by omega) (by omega)
    have h4 := cmp_neg x y
    have h5 := cmp_neg y z
    have h6 := cmp_neg x z
    have h7 := cmp_trans z y x (by omega) (by omega)
    rw [if_pos (by omega)]
    exact ih h1 h2
   ·rw [if_neg e2] at h2
    have := cmp_strict' x y z (by omega) (by omega)
    rw [if_neg (by omega)]
    omega
  ·rw [if_neg e1] at h1
   have : cmpV y z ≤ 0 := by
    by_cases e2 : cmpV y z = 0
    ·omega
    ·rw [if_neg e2] at h2; omega
   have := cmp_strict x y z (by omega) this
   rw [if_neg (by omega)]
   omega
def sameV : List Val → List Val → Bool
 | [], [] => true
 | x :: a, y :: b => x.eqv y && sameV a b
 | _, _ => false
theorem same_step (a b : List Val) (j : Nat) (ha : j < a.length) (hb : j < b.length) : sameV (a.drop j) (b.drop j) = (a[j].eqv b[j] && sameV (a.drop (j + 1)) (b.drop (j + 1))) := by
 rw [List.drop_eq_getElem_cons ha, List.drop_eq_getElem_cons hb, sameV]
theorem same_length : ∀ a b : List Val, a.length ≠ b.length → sameV a b = false
 | [], [], h => absurd rfl h
 | [], _ :: _, _ => rfl
 | _ :: _, [], _ => rfl
 | x :: a, y :: b, h => by
  rw [sameV, same_length a b (by simpa using h)]
  simp
end Go.Proofs.YtlgfekjoknbfdaaGreatDoor
end

section
namespace Go.Proofs.YtlgfekjoknbfdaaGreatDoor
open Go.RowKit Go.Hay
theorem neV (x y : Val) : ∃ X : Bool, Hid (X = x.eqv y) ∧ ∀ w : World, (binOp .neq 88 (.agg #[.int .i64 x.k, .bool x.b, .int .i64 x.n, .string x.t]) (.agg #[.int .i64 y.k, .bool y.b, .int .i64 y.n, .string y.t])).run Tryz.prog w = .ok (.bool (!X)) w := by
 obtain ⟨X, HX, hX⟩ := eqV x y;refine ⟨X, HX, fun w => ?_⟩
 have h := hX w
 rw [run_eql_struct] at h;rw [run_neq_struct]
 cases hr : (Op.equalIn 10000 88 (.agg #[.int .i64 x.k, .bool x.b, .int .i64 x.n, .string x.t]) (.agg #[.int .i64 y.k, .bool y.b, .int .i64 y.n, .string y.t])).run Tryz.prog w with
 | ok b w' => rw [hr] at h; simp [Result.andThen] at h; obtain ⟨rfl, rfl⟩ := h; rfl
 | halt p w' => rw [hr] at h; cases h
theorem cSame (a b : Option Addr) (ca cb : Nat) (la lb : List Val) (w : World) (ha : Vals w a la) (hb : Vals w b lb) (hla : la.length ≤ 9223372036854775807) (hlb : lb.length ≤ 9223372036854775807) :
  Calls Tryz.prog 66 #[.slice a la.length ca, .slice b lb.length cb] w fun e w' => e = .returned (.bool (sameV la lb)) ∧ Kp [] w w' := by
 by_cases hE : la.length = lb.length
 ·have hE' := hid hE
  go_enter Tryz.func66, Tryz.ntmps66
  go_wp2_with fail;go_loopw [5] (fun i wn => ∃ j : Nat, j ≤ la.length ∧ i = .int .i64 j ∧ Hid (sameV (la.drop j) (lb.drop j) = sameV la lb) ∧ Kp [] w wn) (fun i _ => la.length - (intOf i).toNat)
  case atStart => exact ⟨0, Nat.zero_le _, rfl, rfl, Kp.refl _ _⟩
  case round =>
   obtain ⟨j, hj, rfl, hr, hk⟩ := hrel
   by_cases hja : j < la.length
   ·have hjb : j < lb.length := by rw [← hE'.out]; exact hja
    obtain ⟨g, o, rfl, a0, a1, a2, a3⟩ := (ha.kept hk).at j hja;obtain ⟨g', o', rfl, b0, b1, b2, b3⟩ := (hb.kept hk).at j hjb;have hst := hid (same_step la lb j hja hjb)
    generalize la[j] = x at *
    generalize lb[j] = y at *
    obtain ⟨X, HX, hX⟩ := neV x y;have hst2 : Hid (sameV (la.drop j) (lb.drop j) = (X && sameV (la.drop (j + 1)) (lb.drop (j + 1)))) := by show _ = _; rw [hst.out, HX.out]
    clear hst HX;obtain ⟨xk, xb, xn, xt⟩ := x;obtain ⟨yk, yb, yn, yt⟩ := y;dsimp only at a0 a1 a2 a3 b0 b1 b2 b3 hX
    cases X
    ·have hn : Hid (sameV la lb = false) := by show _ = _; rw [← hr.out, hst2.out]; rfl
     clear hr hst2;go_wp2_with fail;go_quiet ((fail))
     go_wp2_with fail;go_ret;exact ⟨by rw [hn.out]; rfl, hk.drewN _⟩
    ·have hn : Hid (sameV (la.drop (j + 1)) (lb.drop (j + 1)) = sameV la lb) := by show _ = _; rw [← hr.out, hst2.out]; rfl
     clear hr hst2;go_wp2_with fail;go_quiet ((fail))
     go_wp2_with fail;exact ⟨⟨j + 1, by omega, by go_num, hn, hk.drewN _⟩, by simp [intOf]; omega⟩
   ·have hjl : j = la.length := by omega
    subst hjl;have hn : Hid (sameV la lb = true) := by show _ = _; rw [← hr.out, List.drop_length, hE'.out, List.drop_length]; rfl
    clear hr;go_wp2_with fail;go_ret;exact ⟨by rw [hn.out]; rfl, hk⟩
 ·have hn : Hid (sameV la lb = false) := same_length la lb hE
  have hee : ((la.length : Int) == (lb.length : Int)) = false := by simp; omega
  clear hE;go_enter Tryz.func66, Tryz.ntmps66
  go_wp2_with fail;go_ret;exact ⟨by rw [hn.out]; rfl, Kp.refl _ _⟩
end Go.Proofs.YtlgfekjoknbfdaaGreatDoor
end

section
namespace Go.Proofs.YtlgfekjoknbfdaaGreatDoor
open Go.RowKit Go.Hay
attribute [local go_sem] Oper.semAt_some
theorem sameV_selfY : ∀ l : List Val, sameV l l = true
 | [] => rfl
 | x :: l => by simp only [sameV, sameV_selfY l]; unfold Val.eqv; simp
theorem wp_noPanicY {P : Program} {c : Code} {Q : Exit → Act → World → Prop} {a : Act} {w : World} (h : c.wp P (fun e a w => e = .normal ∧ Q e a w) a w) : c.wp P Q a w := wp_mono h (fun _ _ _ h => h.2)
theorem cInsert1R (a : Option Addr) (n c : Nat) (f : Value) (w : World) (hn : n ≤ 1) : Calls Tryz.prog 169 #[.slice a n c, .int .i64 0, .int .i64 (n : Int), f] w fun e w' => (∃ v, e = .returned v) ∧ w' = w := by
 have d1 : decide ((1 : Int) < (n : Int)) = false := by simp; omega
 have d3 : decide (1 < n) = false := by simp; omega
 have d2 : ¬ (1 : Int) < (n : Int) := by omega
 go_enter Tryz.func169, Tryz.ntmps169
 go_wp2_with fail;go_loopw [8] (fun i wr => i = .int .i64 1 ∧ wr = w) (fun _ _ => 0)
 case atStart => exact ⟨rfl, rfl⟩
 case round =>
  obtain ⟨rfl, rfl⟩ := hrel;go_wp2_with fail;go_end0
  exact ⟨⟨_, rfl⟩, rfl⟩
theorem cStable1R (a : Option Addr) (n c : Nat) (f : Value) (w : World) (hn : n ≤ 1) : Calls Tryz.prog 148 #[.slice a n c, .int .i64 (n : Int), f] w fun e w' => (∃ v, e = .returned v) ∧ w' = w := by
 have d1 : decide ((20 : Int) ≤ (n : Int)) = false := by simp; omega
 have d2 : decide ((20 : Int) < (n : Int)) = false := by simp; omega
 have d3 : ¬ (20 : Int) ≤ (n : Int) := by omega
 have d4 : ¬ (20 : Int) < (n : Int) := by omega
 have d5 : decide (20 ≤ n) = false := by simp; omega
 have d6 : decide (20 < n) = false := by simp; omega
 have cI := hid (cInsert1R a n c f w hn)
 go_enter Tryz.func148, Tryz.ntmps148
 go_wp2_with fail;go_loopw [7, 8] (fun v7 v8 wr => v7 = .int .i64 0 ∧ v8 = .int .i64 20 ∧ wr = w) (fun _ _ _ => 0)
 case atStart => exact ⟨rfl, rfl, rfl⟩
 case round =>
  obtain ⟨rfl, rfl, rfl⟩ := hrel;go_wp2_with fail;refine cI.out.mono ?_;rintro e w2 ⟨⟨v, rfl⟩, rfl⟩;clear cI;go_wp2_with fail;go_loopw [6] (fun v6 wr2 => v6 = .int .i64 20 ∧ wr2 = w2) (fun _ _ => 0)
  case atStart => exact ⟨rfl, rfl⟩
  case round =>
   obtain ⟨rfl, rfl⟩ := hrel;go_wp2_with fail;go_end0
   exact ⟨⟨_, rfl⟩, rfl⟩
theorem cSortSt1R (a : Option Addr) (n c : Nat) (f : Value) (w : World) (hn : n ≤ 1) : Calls Tryz.prog 105 #[.slice a n c, f] w fun e w' => (∃ v, e = .returned v) ∧ w' = w := by
 have cI := hid (cStable1R a n c f w hn)
 go_enter Tryz.func105, Tryz.ntmps105
 go_wp2_with fail;refine cI.out.mono ?_;rintro e w2 ⟨⟨v, rfl⟩, rfl⟩;clear cI;go_wp2_with fail;go_end0
 exact ⟨⟨_, rfl⟩, rfl⟩
def SortP (N : Nat) (ra : Option Addr) (rc : Nat) (n : Nat) (S : List (List Val)) (W : World) (e : Ending) (w' : World) : Prop := (∃ v, e = .returned v) ∧ ∃ L', L'.length = n ∧ Lot N ra rc L' w' ∧ L'.map (·.l) = S ∧ Kp (blk ra) W w'
structure GacJ (w1 : World) (S : List Nat) (q3 : Nat) (R : List (List Val)) (s : Sr) (W : World) (ra : Option Addr) (rc : Nat) (L : List Vs) : Prop where
 co : CoR w1 S s W
 box : W.cell? ⟨q3, 0, none⟩ = some (.slice ra L.length rc)
 free : W.frozen? ⟨q3, 0, none⟩ = false
 lot : Lot w1.heap.size ra rc L W
 took : L.map (·.l) = R.take s.i
 ne : ∀ k ∈ blk ra, k ∉ s.js ∧ k ∉ s.qs
 nes : ∀ x ∈ L, ∀ k ∈ blk x.a, k ∉ s.qs
 nil : L = [] → ra = none
 pend : ∀ x, s.p = some x → R[s.i]? = some x.l ∧ x.lies W
def GacI (w1 : World) (S : List Nat) (q3 : Nat) (R : List (List Val)) (s : Sr) (W : World) : Prop := ∃ ra rc L, GacJ w1 S q3 R s W ra rc L
theorem GacI.own {w1 : World} {S : List Nat} {q3 : Nat} {R : List (List Val)} : OwnFrom w1.heap.size (GacI w1 S q3 R) := fun s X Y row ⟨ra, rc, L, h⟩ hg hr => by
 have ck := CK.ofGrown hg (fun r e => (hr r e).2)
 obtain ⟨h1, h2⟩ := ck.2 _ _ trivial h.box
 exact ⟨ra, rc, L, h.co.grown hg hr, h1, h2.trans h.free, h.lot.ck ck (fun _ _ => trivial) (fun _ _ _ _ => trivial), h.took, h.ne, h.nes, h.nil, fun x hx => by
  obtain ⟨p1, p2⟩ := h.pend x hx;exact ⟨p1, p2.ck ck (fun _ _ => trivial)⟩⟩
theorem GacI.step {w1 : World} {S : List Nat} {q3 : Nat} {fr : Bool} {R : List (List Val)} (hS : ∀ k ∈ S, k < w1.heap.size) (hq : q3 < w1.heap.size) {s s' : Sr} {A B : World} (hz : w1.heap.size + 2 ≤ A.heap.size) (h : GacI w1 S q3 R s A) (ht : StepR fr R s s' A B) : GacI w1 S q3 R s' B := by
 obtain ⟨ra, rc, L, h⟩ := h;have co := h.co.step hS hz ht
 have hqs : ∀ k, k < A.heap.size → k ∉ s.qs → k ∉ s'.qs := fun k hk hn hm => by
  cases hs : s.made with
  | true => rcases (ht.stays hs).2.2 k hm with e | e; exact hn e; omega
  | false => have := ((ht.makes hs).2.2 k hm).1; omega
 have hq3 : q3 ∉ s'.qs := fun hm => by
  have hm' : s'.made = true := by
   cases hs : s.made with
   | true => exact (ht.stays hs).1
   | false => exact (ht.makes hs).1
  have := (co.mde hm').2 q3 hm
  omega
 have ck := CK.ofTurn ht.turn
 obtain ⟨h1, h2⟩ := ck.2 _ _ hq3 h.box;have hlt := h.lot.lt
 refine ⟨ra, rc, L, co, h1, h2.trans h.free, h.lot.ck ck (fun k hk => hqs k (hlt k hk) (h.ne k hk).2) (fun x hx k hk => hqs k (h.lot.rows x hx k hk).2.1 (h.nes x hx k hk)), by rw [ht.on]; exact h.took, fun k hk => ⟨fun hm => ?_, hqs k (hlt k hk) (h.ne k hk).2⟩, fun x hx k hk => hqs k (h.lot.rows x hx k hk).2.1 (h.nes x hx k hk), h.nil, fun x hx => ?_⟩
 ·rcases ht.js k hm with e | e
  ·exact (h.ne k hk).1 e
  ·have := hlt k hk; omega
 ·rcases ht.given with e | ⟨y, e, hy, hl, hf⟩
  ·rw [e] at hx; cases hx
  ·rw [e] at hx
   cases hx
   exact ⟨by rw [ht.on]; exact hy, hl⟩
structure CltI (w1 : World) (q4 q5 q6 : Nat) (R : List (List Val)) (m : Nat) (s : Sr) (W : World) : Prop where
 g : GacI w1 [q4, q5, q6] q6 R s W
 few : s.i ≤ m
 r4 : W.cell? ⟨q4, 0, none⟩ = some (.slice none 0 0) ∧ W.frozen? ⟨q4, 0, none⟩ = false
 r5 : W.cell? ⟨q5, 0, none⟩ = some (.int .i64 0) ∧ W.frozen? ⟨q5, 0, none⟩ = false
theorem CltI.own {w1 : World} {q4 q5 q6 : Nat} {R : List (List Val)} {m : Nat} : OwnFrom w1.heap.size (CltI w1 q4 q5 q6 R m) := fun s X Y row h hg hr => by
 have ck := CK.ofGrown hg (fun r e => (hr r e).2)
 obtain ⟨a1, a2⟩ := ck.2 _ _ trivial h.r4.1;obtain ⟨b1, b2⟩ := ck.2 _ _ trivial h.r5.1;exact ⟨GacI.own s X Y row h.g hg hr, h.few, ⟨a1, a2.trans h.r4.2⟩, ⟨b1, b2.trans h.r5.2⟩⟩
theorem CltI.step {w1 : World} {q4 q5 q6 : Nat} {fr : Bool} {R : List (List Val)} {m : Nat} (hS : ∀ k ∈ [q4, q5, q6], k < w1.heap.size) {s s' : Sr} {A B : World} (hz : w1.heap.size + 2 ≤ A.heap.size) (h : CltI w1 q4 q5 q6 R m s A) (ht : StepR fr R s s' A B) : CltI w1 q4 q5 q6 R m s' B := by
 have hg := h.g.step hS (hS q6 (by simp)) hz ht
 have hm : s'.made = true := by
  cases hs : s.made with
  | true => exact (ht.stays hs).1
  | false => exact (ht.makes hs).1
 obtain ⟨_, _, _, hj⟩ := hg;have hq : ∀ q, q < w1.heap.size → q ∉ s'.qs := fun q hq hm' => by have := (hj.co.mde hm).2 q hm'; omega
 have ck := CK.ofTurn ht.turn
 obtain ⟨a1, a2⟩ := ck.2 _ _ (hq q4 (hS q4 (by simp))) h.r4.1
 obtain ⟨b1, b2⟩ := ck.2 _ _ (hq q5 (hS q5 (by simp))) h.r5.1
 exact ⟨⟨_, _, _, hj⟩, by rw [ht.on]; exact h.few, ⟨a1, a2.trans h.r4.2⟩, ⟨b1, b2.trans h.r5.2⟩⟩
structure Stp (w1 : World) (q4 q5 q6 : Nat) (s : Sr) (W : World) : Prop where
 co : CoR w1 [q4, q5, q6] s W
 r4 : W.cell? ⟨q4, 0, none⟩ = some (.slice none 0 0)
 r5 : W.cell? ⟨q5, 0, none⟩ = some (.int .i64 150)
theorem Stp.own {w1 : World} {q4 q5 q6 : Nat} : OwnFrom w1.heap.size (Stp w1 q4 q5 q6) := fun s X Y row h hg hr => by
 have ck := CK.ofGrown hg (fun r e => (hr r e).2)
 exact ⟨h.co.grown hg hr, (ck.2 _ _ trivial h.r4).1, (ck.2 _ _ trivial h.r5).1⟩
theorem Stp.stepX {w1 : World} {q4 q5 q6 : Nat} (h4 : q4 < w1.heap.size) (h5 : q5 < w1.heap.size) {s : Sr} {A B : World} (h : Stp w1 q4 q5 q6 s A) (ht : StepRX s A B) : Stp w1 q4 q5 q6 s B := by
 have hq : ∀ q, q < w1.heap.size → q ∉ s.qs := fun q hq hm => by have := (h.co.mde ht.1).2 q hm; omega
 have ck := CK.ofTurn ht.2
 exact ⟨h.co.stepX ht, (ck.2 _ _ (hq q4 h4) h.r4).1, (ck.2 _ _ (hq q5 h5) h.r5).1⟩
def ColP (R : List (List Val)) (most : Int) (w : World) (e : Ending) (w' : World) : Prop := (most.toNat < R.length ∧ e = .returned (.tuple #[.slice none 0 0, .int .i64 150]) ∧ Kp [] w w') ∨ (R.length ≤ most.toNat ∧ ∃ ra rc L, e = .returned (.tuple #[.slice ra L.length rc, .int .i64 0]) ∧ Lot w.heap.size ra rc L w' ∧ L.map (·.l) = R ∧ Kp [] w w')
theorem cCollectG (d : Nat) (hd : 3 ≤ d) (fr : Bool) (g : Nat) (lb : Array Value) (R : List (List Val)) (js : List Nat) (most : Int) (w : World) (hmost : -9223372036854775808 ≤ most ∧ most ≤ 9223372036854775807) (heg : ∀ args w, (callFunc g args).run Tryz.prog w = .ok (.enter g args) w) (hseq : RowSeq fr (d - 1) g lb R js w) (hjs : ∀ j ∈ js, j < w.heap.size) (hR : R.length ≤ 4000000000000) (hRl : ∀ l ∈ R, l.length ≤ 3600000000000) :
  CallsIn Fence.wide d Tryz.prog 54 #[.func (.func g) #[] lb, .int .i64 most] w (ColP R most w) := by
 obtain ⟨v0, hv0, k0, b0⟩ : ∃ x, w.alloc (.cells #[.int .i64 most] 3) = x ∧ Kp [] w x ∧ Bn x w.heap.size [.int .i64 most] := ⟨_, rfl, (Kp.refl _ _).alloc _, Bn.new w _ _⟩
 obtain ⟨v1, hv1, k1, b1⟩ : ∃ x, v0.alloc (.cells #[.slice none 0 0] 60) = x ∧ Kp [] v0 x ∧ Bn x v0.heap.size [.slice none 0 0] := ⟨_, rfl, (Kp.refl _ _).alloc _, Bn.new v0 _ _⟩
 obtain ⟨v2, hv2, k2, b2⟩ : ∃ x, v1.alloc (.cells #[.int .i64 0] 33) = x ∧ Kp [] v1 x ∧ Bn x v1.heap.size [.int .i64 0] := ⟨_, rfl, (Kp.refl _ _).alloc _, Bn.new v1 _ _⟩
 obtain ⟨w1, hw1, k3, b3⟩ : ∃ x, v2.alloc (.cells #[.slice none 0 0] 60) = x ∧ Kp [] v2 x ∧ Bn x v2.heap.size [.slice none 0 0] := ⟨_, rfl, (Kp.refl _ _).alloc _, Bn.new v2 _ _⟩
 obtain ⟨q3, hq3⟩ : ∃ q, Hid (w.heap.size = q) := ⟨_, hid rfl⟩
 obtain ⟨q4, hq4⟩ : ∃ q, Hid (v0.heap.size = q) := ⟨_, hid rfl⟩
 obtain ⟨q5, hq5⟩ : ∃ q, Hid (v1.heap.size = q) := ⟨_, hid rfl⟩
 obtain ⟨q6, hq6⟩ : ∃ q, Hid (v2.heap.size = q) := ⟨_, hid rfl⟩
 rw [hq3.out] at b0;rw [hq4.out] at b1;rw [hq5.out] at b2;rw [hq6.out] at b3;have hq61 : q6 < w1.heap.size := b3.lt (by simp)
 have hz1 : w1.heap.size = w.heap.size + 4 := by rw [← hw1, ← hv2, ← hv1, ← hv0]; simp
 have hzq : q3 = w.heap.size ∧ q4 = w.heap.size + 1 ∧ q5 = w.heap.size + 2 ∧ q6 = w.heap.size + 3 := ⟨hq3.out.symm, by rw [← hq4.out, ← hv0]; simp, by rw [← hq5.out, ← hv1, ← hv0]; simp, by rw [← hq6.out, ← hv2, ← hv1, ← hv0]; simp⟩
 have HZQ := hid hzq
 have kw1 := ((k0.trans k1 (by simp)).trans k2 (by simp)).trans k3 (by simp)
 have b03 := ((b0.kept k1).kept k2).kept k3
 have b13 := (b1.kept k2).kept k3
 have b23 := b2.kept k3
 have HBX := hid (And.intro b03 (And.intro b13 b23))
 have hI0 : CltI w1 q4 q5 q6 R most.toNat ⟨false, 0, [], js, 0, none⟩ w1 := ⟨⟨none, 0, [], ⟨rfl, rfl, rfl, Nat.le_refl _, fun _ _ _ => rfl, fun h => (by cases h), fun j hj => ⟨by have := hjs j hj; simp; omega, by have := hjs j hj; omega, by have := hjs j hj; omega⟩, fun j hj => by have := hjs j hj; omega, by simp⟩, b3.get 0 _ rfl, b3.free 0, Lot.nil _ _, rfl, by simp [blk], by simp, fun _ => rfl, fun x hx => (by cases hx)⟩, Nat.zero_le _, ⟨b13.get 0 _ rfl, b13.free 0⟩, ⟨b23.get 0 _ rfl, b23.free 0⟩⟩
 have HI0 := hid hI0
 have HK1 := hid kw1
 have HSQ := hid hseq
 have hz1' := hid hz1
 have hKR : Hid (KeepR ⟨false, 0, [], js, 0, none⟩ w w1) := hid ⟨KeepB.ofKp kw1 (by simp), fun h => (by cases h)⟩
 have hSl : ∀ k ∈ [q4, q5, q6], k < w1.heap.size := fun k hk => by simp at hk; omega
 clear hI0 k0 k1 k2 k3 b0 b1 b2 b3 hseq hjs hz1 b03 b13 b23 kw1 hzq;refine callsIn_of_wp_marks Tryz.func54 rfl trivial ?_ rfl;simp only [Tryz.ntmps54, List.size_toArray, List.length_cons, List.length_nil, Nat.reduceAdd, Nat.reduceSub, Array.replicate_succ, Array.replicate_zero, List.push_toArray, List.append_toArray, List.nil_append, List.cons_append];refine wpIn_wide.2 ?_;have hq3' := hq3.out
 have hq4' := hq4.out
 have hq5' := hq5.out
 have hq6' := hq6.out
 go_wp2_with fail;clear hq3' hq4' hq5' hq6';refine (wpIn_wide (n := d)).1 ?_
 refine wpRangeX rfl (by omega) (gf := g) (lb := lb) rfl trivial heg
  HSQ.out (fun _ => rfl) KeepR.trans (fun s W o => KeepR.alloc s W o) hKR.out
  (CltI w1 q4 q5 q6 R most.toNat) (fun c s W' => c = .ret ∧ most.toNat < R.length ∧ Stp w1 q4 q5 q6 s W') CltI.own (fun c s X Y row h hg hr => ⟨h.1, h.2.1, Stp.own s X Y row h.2.2 hg hr⟩) HI0.out
  (fun s s' A B ⟨⟨_, _, _, h⟩, _, _, _⟩ ht k o hk ho => h.co.keeps ht k o hk ho) (fun c s A B h ht k o hk ho => h.2.2.co.keepsX ht k o hk ho) (fun s s' A B hz h ht => h.step hSl hz ht) (fun c s A B h ht => ⟨h.1, h.2.1, h.2.2.stepX (hSl q4 (by simp)) (hSl q5 (by simp)) ht⟩)
  (fun s W o' ⟨⟨_, _, _, h⟩, _, _, _⟩ => h.co.recs o') (fun s x W o' ⟨⟨_, _, _, h⟩, _, _, _⟩ => CoR.recs (S := [q4, q5, q6]) (s := s) ⟨h.co.os, h.co.tape, h.co.output, h.co.size, h.co.low, h.co.mde, h.co.js, h.co.jl, h.co.ql⟩ o') (fun c s x W o' h => CoR.recs (S := [q4, q5, q6]) (s := s) ⟨h.2.2.co.os, h.2.2.co.tape, h.2.2.co.output, h.2.2.co.size, h.2.2.co.low, h.2.2.co.mde, h.2.2.co.js, h.2.2.co.jl, h.2.2.co.ql⟩ o')
  (fun x => { tmps := #[.func (.func g) #[] lb, .int .i64 most, undef, .pointer (some ⟨q3, 0, none⟩), .pointer (some ⟨q4, 0, none⟩), .pointer (some ⟨q5, 0, none⟩), .pointer (some ⟨q6, 0, none⟩), .slice x.a x.l.length x.c, .func (.func g) #[] lb, .slice x.a x.l.length x.c, undef, undef, undef, undef, undef, undef, undef, undef, undef, undef], defers := [] }) ?assign ?body ?done ?stop
 case assign =>
  intro l x W C hC
  gi_wp2_with fail;exact hC
 case body =>
  rintro l0 s ⟨xa, xc, xl⟩ W ⟨⟨ra, rc, L, h⟩, hsm, hr4, hr5⟩ hp;obtain ⟨hRi, hxl⟩ := h.pend _ hp;dsimp only at hRi ⊢;have hxn : xl.length ≤ 3600000000000 := hRl _ (List.mem_of_getElem? hRi)
  have hiR : s.i < R.length := (List.getElem?_eq_some_iff.1 hRi).1
  have hLi : L.length = s.i := by
   have h1 := congrArg List.length h.took
   rw [List.length_map, List.length_take] at h1;omega
  have hLl : L.length ≤ 4000000000000 := by omega
  have k1W := h.co.kp
  have hzq := HZQ.out
  have c3 := (HBX.out.1.keptS k1W (by simp; omega) (HBX.out.1.lt (by simp))).get 0 _ rfl
  have c4 := hr4.1
  have c5 := hr5.1
  have f4 := hr4.2
  have f5 := hr5.2
  have c6 := h.box
  have H45 := hid (And.intro hr4 hr5)
  clear hr4 hr5;have h' := hid h
  have hxl' := hid hxl
  have hRi' := hid hRi
  have hsn' : Hid (R.take (s.i + 1) = R.take s.i ++ [xl]) := hid (by rw [List.take_add_one, hRi]; rfl)
  have hLi' := hid hLi
  have n45 : ¬ q4 = q5 := by omega
  have n54 : ¬ q5 = q4 := by omega
  clear h hRi hxl k1W hLi hzq
  by_cases hm : most ≤ (L.length : Int)
  ·have d1 : decide (most ≤ (L.length : Int)) = true := by simpa using hm
   have hfew : most.toNat < R.length := by have := hLi'.out; omega
   have hfew' := hid hfew
   have hR4 : Hid (KeepsFrom w1.heap.size W ((W.setCell ⟨q4, 0, none⟩ (.slice none 0 0)).setCell ⟨q5, 0, none⟩ (.int .i64 150)) ∧ KeepR s W ((W.setCell ⟨q4, 0, none⟩ (.slice none 0 0)).setCell ⟨q5, 0, none⟩ (.int .i64 150)) ∧ Stp w1 q4 q5 q6 (s.nx ⟨xa, xc, xl⟩) ((W.setCell ⟨q4, 0, none⟩ (.slice none 0 0)).setCell ⟨q5, 0, none⟩ (.int .i64 150))) := hid (by
    have h := h'.out
    have kT : Kp [q4, q5] W ((W.setCell ⟨q4, 0, none⟩ (.slice none 0 0)).setCell ⟨q5, 0, none⟩ (.int .i64 150)) := ((Kp.refl _ _).setCell (by simp) _).setCell (by simp) _
    obtain ⟨r1, r2, r3⟩ := h.co.round (x := ⟨xa, xc, xl⟩) kT (fun k hk => by
     rcases List.mem_cons.1 hk with rfl | hk
     ·exact cellCel c4
     ·rw [List.mem_singleton.1 hk]; exact cellCel c5) (fun k hk => .inl (by simp at hk ⊢; omega)) (fun k hk hm' => (h.co.js k hm').1 (by simp at hk ⊢; omega))
    refine ⟨r1, r2, r3, ?_, ?_⟩
    ·rw [World.cell?_setCell_other _ _ _ _ (by simp <;> omega)]
     exact World.cell?_setCell_same _ _ _ c4
    ·exact World.cell?_setCell_same _ _ _ (show _ = some (Value.int .i64 0) by rw [World.cell?_setCell_other _ _ _ _ (by simp <;> omega)]; exact c5))
   clear hfew hm;gi_wp2_with fail;exact ⟨hR4.out.1, hR4.out.2.1, rfl, hfew'.out, hR4.out.2.2⟩
  ·have d1 : decide (most ≤ (L.length : Int)) = false := by simpa using hm
   have hm' : s.i + 1 ≤ most.toNat := by have := hLi'.out; omega
   have hm2 := hid hm'
   clear hm hm' c4 c5 f4 f5;gi_wp2_with fail;refine region_round (fun _ => True) (by kernel_rfl) (by kernel_rfl) (by rintro ⟨_, _, hlo⟩; exact hlo) trivial (fun _ => ?_)
   have KD : Hid (Kp [] W W.drew) := hid (Kp.refl [] W).drew
   have cCp : Hid (∀ W', Kp [] W W' → Calls Tryz.prog 95 #[.slice xa xl.length xc] W' (NewR xl W')) := fun W' k => cCloneR xa xc xl W' (hxl'.out.see.kept k) hxl'.out.nil hxn
   have hbx : Hid (∀ W', Kp [] W W' → W'.cell? ⟨q6, 0, none⟩ = some (.slice ra L.length rc)) := fun W' k => kpAt k h'.out.box
   generalize W.drew = wd at *
   refine tkH ?_ 1 rfl (by kernel_rfl) (fun _ _ _ h => h) (by rfl) ?_ ‹_› ?_;rotate_left
   ·intro w h; (try dsimp only at h); go_simp <;> with_reducible rfl
   (try simp only [Act.put, lz]);have c3d := hbx.out wd KD.out
   refine wpAnyH_ready (rs := [0, 2]) (by kernel_rfl) (by simp) ?_
   refine AllReadyH.cons rfl (fun K hK => ?_) (AllReadyH.cons rfl (fun K hK => ?_) AllReadyH.nil)
   ·go_simp
    (try go_wp2_with fail);refine hK.out _ _ trivial (fun _ => ?_)
    clear hK K;(try simp only [Act.put, lz]);refine rdH 2 (by kernel_rfl) rfl fun K hK => ?_
    go_simp;refine (cCp.out _ KD.out).mono ?_;rintro e WD ⟨ya, yc, rfl, hyrow, kD, hyb⟩;(try go_wp2_with fail);refine hK.out _ _ trivial (fun _ => ?_)
    clear hK K;(try simp only [Act.put, lz]);have kWD := hid (KD.out.trans kD (by simp))
    have hyl := rowLies hyrow
    have hlD : Lot w1.heap.size ra rc L WD := h'.out.lot.ck (CK.ofKp kWD.out) (by simp) (by simp)
    have hzD := kWD.out.size
    have hwz := h'.out.co.size
    have hywd : ∀ k ∈ blk ya, k < WD.heap.size := fun k hk => hyrow.lt k (by rw [ownV]; exact hk)
    have hyW : ∀ k ∈ blk ya, W.heap.size ≤ k := fun k hk => by have := hyb k hk; have := KD.out.size; omega
    obtain ⟨ra4, rc4, W4, hrun, hl4, k4, hra4⟩ := hlD.app ⟨ya, yc, xl⟩ hyl (by omega) (fun k hk => ⟨by have := hyW k hk; omega, hywd k hk, fun hm => by have := hyW k hk; have := h'.out.lot.lt k hm; omega⟩) hLl
    obtain ⟨L4, hL4⟩ : ∃ L4, Hid (L4 = L ++ [(⟨ya, yc, xl⟩ : Vs)]) := ⟨_, rfl⟩
    rw [← hL4.out] at hrun hl4;have hq5ra : q6 ∉ blk ra := fun hm => by have := h'.out.lot.own q6 hm; omega
    have c3D := hbx.out WD kWD.out
    have c3A : (WD.alloc (.cells #[.slice ya xl.length yc] 61)).cell? ⟨q6, 0, none⟩ = some (.slice ra L.length rc) := kpAt ((Kp.refl _ _).alloc _) c3D
    have ck4 := CK.ofKp k4
    obtain ⟨c3W, f3W⟩ := ck4.2 ⟨q6, 0, none⟩ _ hq5ra c3D;have f3 : W4.frozen? ⟨q6, 0, none⟩ = false := f3W.trans ((kWD.out.frozen (p := ⟨q6, 0, none⟩) (World.block_lt_of_cell? _ _ h'.out.box) (by simp)).trans h'.out.free)
    have HE : Hid (∀ A, leftX w1.heap.size KeepR (CltI w1 q4 q5 q6 R most.toNat) (fun c s W' => c = .ret ∧ most.toNat < R.length ∧ Stp w1 q4 q5 q6 s W') s (s.nx ⟨xa, xc, xl⟩) W .normal A (W4.setCell ⟨q6, 0, none⟩ (.slice ra4 L4.length rc4))) := fun A => by
     have h := h'.out
     have kS : Kp [q6] W4 (W4.setCell ⟨q6, 0, none⟩ (.slice ra4 L4.length rc4)) := (Kp.refl _ _).setCell (by simp) _
     have ckS := CK.ofKp kS
     have kT : Kp (q6 :: blk ra) W (W4.setCell ⟨q6, 0, none⟩ (.slice ra4 L4.length rc4)) := ((kWD.out.mono (T := q6 :: blk ra) (by simp)).trans k4 (fun j hj => .inl (by simp [hj]))).trans kS (fun j hj => .inl (by simp at hj; simp [hj]))
     obtain ⟨r1, r2, r3⟩ := h.co.round (x := ⟨xa, xc, xl⟩) kT (fun k hk => by
      rcases List.mem_cons.1 hk with rfl | hk
      ·exact cellCel h.box
      ·refine rowCel h.lot.row (fun e => ?_) k hk
       rw [h.nil e] at hk;simp [blk] at hk) (fun k hk => by
      rcases List.mem_cons.1 hk with rfl | hk
      ·exact .inl (by simp)
      ·exact .inr (h.lot.own k hk)) (fun k hk => by
      rcases List.mem_cons.1 hk with rfl | hk
      ·exact fun hm => (h.co.js k hm).1 (by simp)
      ·exact (h.ne k hk).1)
     refine ⟨r1, r2, ⟨ra4, rc4, L4, r3, World.cell?_setCell_same _ _ _ c3W, by rw [World.frozen?_setCell]; exact f3, hl4.ck ckS (fun k hk hm => ?_) (fun x hx k hk hm => ?_), ?_, fun k hk => ?_, fun x hx k hk => ?_, fun e => (by rw [hL4.out] at e; simp at e), fun x hx => (by cases hx)⟩, hm2.out, ?_, ?_⟩
     ·simp at hm
      have := hl4.own k hk
      omega
     ·simp at hm
      have := (hl4.rows x hx k hk).1
      omega
     ·show _ = R.take (s.i + 1)
      rw [hsn'.out, hL4.out, List.map_append, h.took];rfl
     ·rcases hra4 k hk with e | e
      ·exact h.ne k e
      ·exact ⟨fun hm => by have := h.co.jl k hm; omega, fun hm => by have := h.co.ql k hm; omega⟩
     ·rw [hL4.out] at hx
      rcases List.mem_append.1 hx with hx | hx
      ·exact h.nes x hx k hk
      ·rw [List.mem_singleton.1 hx] at hk
       exact fun hm => by have := hyW k hk; have := h.co.ql k hm; omega
     ·have n1 : q4 ∉ (q6 :: blk ra) := fun hm => by
       rcases List.mem_cons.1 hm with e | e
       ·have := HZQ.out; omega
       ·have := h.lot.own q4 e; have := hz1'.out; have := HZQ.out; omega
      obtain ⟨p1, p2⟩ := (CK.ofKp kT).2 ⟨q4, 0, none⟩ _ n1 H45.out.1.1;exact ⟨p1, p2.trans H45.out.1.2⟩
     ·have n1 : q5 ∉ (q6 :: blk ra) := fun hm => by
       rcases List.mem_cons.1 hm with e | e
       ·have := HZQ.out; omega
       ·have := h.lot.own q5 e; have := hz1'.out; have := HZQ.out; omega
      obtain ⟨p1, p2⟩ := (CK.ofKp kT).2 ⟨q5, 0, none⟩ _ n1 H45.out.2.1;exact ⟨p1, p2.trans H45.out.2.2⟩
    clear hyl hlD hra4 k4 ck4 f3W hyb hyW hywd hl4 kD;refine rdH 3 (by kernel_rfl) rfl fun K hK => ?_
    go_simp;(try go_wp2_with fail);refine hK.out _ _ trivial (fun _ => ?_)
    clear hK K;(try simp only [Act.put, lz]);refine rdH 4 (by kernel_rfl) rfl fun K hK => ?_
    refine stepAppRun rfl _ _ 60 60 rfl _ _ _ rfl rfl hrun ?_;refine hK.out _ _ trivial (fun _ => ?_)
    clear hK K;(try simp only [Act.put, lz]);refine rdH 5 (by kernel_rfl) rfl fun K hK => ?_
    go_simp;(try go_wp2_with fail);refine hK.out _ _ trivial (fun _ => ?_)
    clear hK K;(try simp only [Act.put, lz]);refine wpAnyH_done (by kernel_rfl) ?_ _
    exact HE.out ⟨#[], []⟩
   ·go_simp
    refine (cCp.out _ KD.out).mono ?_;rintro e WD ⟨ya, yc, rfl, hyrow, kD, hyb⟩;(try go_wp2_with fail);refine hK.out _ _ trivial (fun _ => ?_)
    clear hK K;(try simp only [Act.put, lz]);have kWD := hid (KD.out.trans kD (by simp))
    have hyl := rowLies hyrow
    have hlD : Lot w1.heap.size ra rc L WD := h'.out.lot.ck (CK.ofKp kWD.out) (by simp) (by simp)
    have hzD := kWD.out.size
    have hwz := h'.out.co.size
    have hywd : ∀ k ∈ blk ya, k < WD.heap.size := fun k hk => hyrow.lt k (by rw [ownV]; exact hk)
    have hyW : ∀ k ∈ blk ya, W.heap.size ≤ k := fun k hk => by have := hyb k hk; have := KD.out.size; omega
    obtain ⟨ra4, rc4, W4, hrun, hl4, k4, hra4⟩ := hlD.app ⟨ya, yc, xl⟩ hyl (by omega) (fun k hk => ⟨by have := hyW k hk; omega, hywd k hk, fun hm => by have := hyW k hk; have := h'.out.lot.lt k hm; omega⟩) hLl
    obtain ⟨L4, hL4⟩ : ∃ L4, Hid (L4 = L ++ [(⟨ya, yc, xl⟩ : Vs)]) := ⟨_, rfl⟩
    rw [← hL4.out] at hrun hl4;have hq5ra : q6 ∉ blk ra := fun hm => by have := h'.out.lot.own q6 hm; omega
    have c3D := hbx.out WD kWD.out
    have c3A : (WD.alloc (.cells #[.slice ya xl.length yc] 61)).cell? ⟨q6, 0, none⟩ = some (.slice ra L.length rc) := kpAt ((Kp.refl _ _).alloc _) c3D
    have ck4 := CK.ofKp k4
    obtain ⟨c3W, f3W⟩ := ck4.2 ⟨q6, 0, none⟩ _ hq5ra c3D;have f3 : W4.frozen? ⟨q6, 0, none⟩ = false := f3W.trans ((kWD.out.frozen (p := ⟨q6, 0, none⟩) (World.block_lt_of_cell? _ _ h'.out.box) (by simp)).trans h'.out.free)
    have HE : Hid (∀ A, leftX w1.heap.size KeepR (CltI w1 q4 q5 q6 R most.toNat) (fun c s W' => c = .ret ∧ most.toNat < R.length ∧ Stp w1 q4 q5 q6 s W') s (s.nx ⟨xa, xc, xl⟩) W .normal A (W4.setCell ⟨q6, 0, none⟩ (.slice ra4 L4.length rc4))) := fun A => by
     have h := h'.out
     have kS : Kp [q6] W4 (W4.setCell ⟨q6, 0, none⟩ (.slice ra4 L4.length rc4)) := (Kp.refl _ _).setCell (by simp) _
     have ckS := CK.ofKp kS
     have kT : Kp (q6 :: blk ra) W (W4.setCell ⟨q6, 0, none⟩ (.slice ra4 L4.length rc4)) := ((kWD.out.mono (T := q6 :: blk ra) (by simp)).trans k4 (fun j hj => .inl (by simp [hj]))).trans kS (fun j hj => .inl (by simp at hj; simp [hj]))
     obtain ⟨r1, r2, r3⟩ := h.co.round (x := ⟨xa, xc, xl⟩) kT (fun k hk => by
      rcases List.mem_cons.1 hk with rfl | hk
      ·exact cellCel h.box
      ·refine rowCel h.lot.row (fun e => ?_) k hk
       rw [h.nil e] at hk;simp [blk] at hk) (fun k hk => by
      rcases List.mem_cons.1 hk with rfl | hk
      ·exact .inl (by simp)
      ·exact .inr (h.lot.own k hk)) (fun k hk => by
      rcases List.mem_cons.1 hk with rfl | hk
      ·exact fun hm => (h.co.js k hm).1 (by simp)
      ·exact (h.ne k hk).1)
     refine ⟨r1, r2, ⟨ra4, rc4, L4, r3, World.cell?_setCell_same _ _ _ c3W, by rw [World.frozen?_setCell]; exact f3, hl4.ck ckS (fun k hk hm => ?_) (fun x hx k hk hm => ?_), ?_, fun k hk => ?_, fun x hx k hk => ?_, fun e => (by rw [hL4.out] at e; simp at e), fun x hx => (by cases hx)⟩, hm2.out, ?_, ?_⟩
     ·simp at hm
      have := hl4.own k hk
      omega
     ·simp at hm
      have := (hl4.rows x hx k hk).1
      omega
     ·show _ = R.take (s.i + 1)
      rw [hsn'.out, hL4.out, List.map_append, h.took];rfl
     ·rcases hra4 k hk with e | e
      ·exact h.ne k e
      ·exact ⟨fun hm => by have := h.co.jl k hm; omega, fun hm => by have := h.co.ql k hm; omega⟩
     ·rw [hL4.out] at hx
      rcases List.mem_append.1 hx with hx | hx
      ·exact h.nes x hx k hk
      ·rw [List.mem_singleton.1 hx] at hk
       exact fun hm => by have := hyW k hk; have := h.co.ql k hm; omega
     ·have n1 : q4 ∉ (q6 :: blk ra) := fun hm => by
       rcases List.mem_cons.1 hm with e | e
       ·have := HZQ.out; omega
       ·have := h.lot.own q4 e; have := hz1'.out; have := HZQ.out; omega
      obtain ⟨p1, p2⟩ := (CK.ofKp kT).2 ⟨q4, 0, none⟩ _ n1 H45.out.1.1;exact ⟨p1, p2.trans H45.out.1.2⟩
     ·have n1 : q5 ∉ (q6 :: blk ra) := fun hm => by
       rcases List.mem_cons.1 hm with e | e
       ·have := HZQ.out; omega
       ·have := h.lot.own q5 e; have := hz1'.out; have := HZQ.out; omega
      obtain ⟨p1, p2⟩ := (CK.ofKp kT).2 ⟨q5, 0, none⟩ _ n1 H45.out.2.1;exact ⟨p1, p2.trans H45.out.2.2⟩
    clear hyl hlD hra4 k4 ck4 f3W hyb hyW hywd hl4 kD;refine wpAnyH_ready (rs := [0, 3]) (by kernel_rfl) (by simp) ?_
    refine AllReadyH.cons rfl (fun K hK => ?_) (AllReadyH.cons rfl (fun K hK => ?_) AllReadyH.nil)
    ·go_simp
     (try go_wp2_with fail);refine hK.out _ _ trivial (fun _ => ?_)
     clear hK K;(try simp only [Act.put, lz]);refine rdH 3 (by kernel_rfl) rfl fun K hK => ?_
     go_simp;(try go_wp2_with fail);refine hK.out _ _ trivial (fun _ => ?_)
     clear hK K;(try simp only [Act.put, lz]);refine rdH 4 (by kernel_rfl) rfl fun K hK => ?_
     refine stepAppRun rfl _ _ 60 60 rfl _ _ _ rfl rfl hrun ?_;refine hK.out _ _ trivial (fun _ => ?_)
     clear hK K;(try simp only [Act.put, lz]);refine rdH 5 (by kernel_rfl) rfl fun K hK => ?_
     go_simp;(try go_wp2_with fail);refine hK.out _ _ trivial (fun _ => ?_)
     clear hK K;(try simp only [Act.put, lz]);refine wpAnyH_done (by kernel_rfl) ?_ _
     exact HE.out ⟨#[], []⟩
    ·go_simp
     (try go_wp2_with fail);refine hK.out _ _ trivial (fun _ => ?_)
     clear hK K;(try simp only [Act.put, lz]);refine rdH 0 (by kernel_rfl) rfl fun K hK => ?_
     go_simp;(try go_wp2_with fail);refine hK.out _ _ trivial (fun _ => ?_)
     clear hK K;(try simp only [Act.put, lz]);refine rdH 4 (by kernel_rfl) rfl fun K hK => ?_
     refine stepAppRun rfl _ _ 60 60 rfl _ _ _ rfl rfl hrun ?_;refine hK.out _ _ trivial (fun _ => ?_)
     clear hK K;(try simp only [Act.put, lz]);refine rdH 5 (by kernel_rfl) rfl fun K hK => ?_
     go_simp;(try go_wp2_with fail);refine hK.out _ _ trivial (fun _ => ?_)
     clear hK K;(try simp only [Act.put, lz]);refine wpAnyH_done (by kernel_rfl) ?_ _
     exact HE.out ⟨#[], []⟩
 case done =>
  rintro D s X hD ⟨hmd, hsi, hsp⟩ ⟨⟨ra, rc, L, h⟩, hsm, hr4, hr5⟩ hrec;have hLr : L.map (·.l) = R := by rw [h.took, hsi, List.take_length]
  have h' := hid h
  have hrec' := hid hrec
  have hLm := hid hLr
  have hfew : R.length ≤ most.toNat := by rw [← hsi]; exact hsm
  have hbx := h.box
  have c4 := hr4.1
  have c5 := hr5.1
  have f4 := hr4.2
  have f5 := hr5.2
  have hzq := HZQ.out
  have n45 : ¬ q4 = q5 := by omega
  have n54 : ¬ q5 = q4 := by omega
  obtain ⟨X2, hX2⟩ : ∃ x, (X.setCell ⟨q4, 0, none⟩ (.slice ra L.length rc)).setCell ⟨q5, 0, none⟩ (.int .i64 0) = x := ⟨_, rfl⟩
  have kT : Kp [q4, q5] X X2 := by rw [← hX2]; exact ((Kp.refl _ _).setCell (by simp) _).setCell (by simp) _
  have e4 : X2.cell? ⟨q4, 0, none⟩ = some (.slice ra L.length rc) := by
   rw [← hX2, World.cell?_setCell_other _ _ _ _ (by simp <;> omega)]
   exact World.cell?_setCell_same _ _ _ c4
  have e5 : X2.cell? ⟨q5, 0, none⟩ = some (.int .i64 0) := by
   rw [← hX2];exact World.cell?_setCell_same _ _ _ (show _ = some (Value.int .i64 0) by rw [World.cell?_setCell_other _ _ _ _ (by simp <;> omega)]; exact c5)
  have n4D : D ≠ q4 := fun e => by have := cellCel c4; rw [← e, hrec] at this; simp [Obj.isCells] at this
  have n5D : D ≠ q5 := fun e => by have := cellCel c5; rw [← e, hrec] at this; simp [Obj.isCells] at this
  have hrec2 : X2.heap[D]? = some (.deferred (some [])) := (kT.block D (Array.getElem?_eq_some_iff.1 hrec).1 (by simp; exact ⟨n4D, n5D⟩)).trans hrec
  have HE := hid (And.intro e4 (And.intro e5 (And.intro kT (And.intro hrec2 (And.intro n4D n5D)))))
  have HF := hid hfew
  clear h hrec hLr hr4 hr5 kT e4 e5 hrec2 hfew hzq n4D n5D;go_wp2_with fail;have h := h'.out
  obtain ⟨e4, e5, kT, hrec2, n4D, n5D⟩ := HE.out;have hmk : Mks [D] X2 := (Mks.nil X2).cons hrec2 (by simp)
  have hzw := hz1'.out
  have hzq := HZQ.out
  have kwX : Kp [] w X2 := (HK1.out.trans h.co.kp (fun x hx => .inr (by simp at hx; omega))).trans kT (fun x hx => .inr (by simp at hx; omega))
  show LeavesInM _ _ _ _ _ _ (marks [D]) .returning _
  refine leaves_marks [D] X2 hmk fun w' hk => ?_
  have ck : CK (fun _ => True) X2 w' := CK.ofBlock hk.size fun k _ hl => by
   by_cases e : k = D
   ·exact .inr ⟨_, by rw [e]; exact hrec2, rfl⟩
   ·exact .inl (hk.block k hl (by simpa using e))
  have g4 := (ck.2 _ _ trivial e4).1
  have g5 := (ck.2 _ _ trivial e5).1
  have kww : Kp [] w w' := kwX.trans hk (fun x hx => .inr (by simp at hx; omega))
  refine ⟨.tuple #[.slice ra L.length rc, .int .i64 0], by simp [results, Tryz.results54, go_sem, g4, g5], .inr ⟨HF.out, ra, rc, L, rfl, ?_, hLm.out, kww⟩⟩
  have ck2 : CK (fun k => k ∉ [q4, q5]) X w' := (CK.ofKp kT).trans (ck.mono (fun _ _ => trivial))
  exact (h.lot.ck ck2 (fun k hk' hm => by have := h.lot.own k hk'; simp at hm; omega) (fun x hx k hk' hm => by have := (h.lot.rows x hx k hk').1; simp at hm; omega)).mono (by omega)
 case stop =>
  rintro D c s X hD hsm ⟨rfl, hfew, h⟩ hrec;have hbx := hid h
  have hrec' := hid hrec
  have HF := hid hfew
  clear h hrec hfew;gi_wp2_with fail;have h := hbx.out
  have hzw := hz1'.out
  have hzq := HZQ.out
  have hmk : Mks [D] X := (Mks.nil X).cons hrec'.out (by simp)
  have kwX : Kp [] w X := HK1.out.trans h.co.kp (fun x hx => .inr (by simp at hx; omega))
  show LeavesInM _ _ _ _ _ _ (marks [D]) .returning _
  refine leaves_marks [D] X hmk fun w' hk => ?_
  have ck : CK (fun _ => True) X w' := CK.ofBlock hk.size fun k _ hl => by
   by_cases e : k = D
   ·exact .inr ⟨_, by rw [e]; exact hrec'.out, rfl⟩
   ·exact .inl (hk.block k hl (by simpa using e))
  have g4 := (ck.2 _ _ trivial h.r4).1
  have g5 := (ck.2 _ _ trivial h.r5).1
  have kww : Kp [] w w' := kwX.trans hk (fun x hx => .inr (by simp at hx; omega))
  exact ⟨.tuple #[.slice none 0 0, .int .i64 150], by simp [results, Tryz.results54, go_sem, g4, g5], .inl ⟨HF.out, rfl, kww⟩⟩
theorem cMany (c : Cg) (t : Int) (w : World) (hc : c.ok w) (hT8 : ∀ x ∈ c.tl, x.l.length ≤ 9223372036854775806) (htl : c.tl.length ≤ 9223372036854775807) (hpl : c.pl.length ≤ 4000000000000) (hR8 : (waysV c t).length ≤ 4000000000000) :
  CallsIn Fence.wide 4 Tryz.prog 14 #[c.v, .int .i64 t] w fun e w' => e = .returned (.int .i64 ((waysV c t).length : Nat)) ∧ Kp [] w w' := by
 obtain ⟨v0, hv0, k0, b0⟩ : ∃ x, w.alloc (.cells #[.int .i64 c.n, .int .i64 c.s, .int .i64 c.k, .slice c.ta c.tl.length c.tc, .slice c.pa c.pl.length c.pc] 25) = x ∧ Kp [] w x ∧ Bn x w.heap.size [.int .i64 c.n, .int .i64 c.s, .int .i64 c.k, .slice c.ta c.tl.length c.tc, .slice c.pa c.pl.length c.pc] := ⟨_, rfl, (Kp.refl _ _).alloc _, Bn.new w _ _⟩
 obtain ⟨v1, hv1, k1, b1⟩ : ∃ x, v0.alloc (.cells #[.int .i64 0] 3) = x ∧ Kp [] v0 x ∧ Bn x v0.heap.size [.int .i64 0] := ⟨_, rfl, (Kp.refl _ _).alloc _, Bn.new v0 _ _⟩
 obtain ⟨q5, hq5⟩ : ∃ q, Hid (v0.heap.size = q) := ⟨_, hid rfl⟩
 rw [hq5.out] at b1;have hz0 : v0.heap.size = w.heap.size + 1 := by rw [← hv0]; simp
 have hz1 : v1.heap.size = v0.heap.size + 1 := by rw [← hv1]; simp
 have c5 := b1.get 0 _ rfl
 have f5 := b1.free 0
 obtain ⟨v2, hv2, kS, b2⟩ : ∃ x, v1.setCell ⟨q5, 0, none⟩ (.int .i64 0) = x ∧ Kp [q5] v1 x ∧ Bn x q5 [.int .i64 0] := ⟨_, rfl, (Kp.refl _ _).setCell (by simp) _, b1.set 0 (by simp) _⟩
 have hqz : q5 = w.heap.size + 1 := by rw [← hq5.out, hz0]
 have b01 := (b0.kept k1).keptS kS (by simp; omega) (b0.kept k1 |>.lt (by simp))
 have kk := (k0.trans k1 (by simp)).trans kS (fun x hx => .inr (by simp at hx; omega))
 have hzS : v1.heap.size ≤ v2.heap.size := kS.size
 have cW := hid (cWays c t v2 (hc.kept kk))
 have hjs := hid (catJs_lt hc)
 obtain ⟨R, hR⟩ : ∃ R, Hid (waysV c t = R) := ⟨_, hid rfl⟩
 rw [hR.out] at hR8 ⊢;have cc0 := b01.get 0 _ rfl; have cc1 := b01.get 1 _ rfl; have cc2 := b01.get 2 _ rfl; have cc3 := b01.get 3 _ rfl; have cc4 := b01.get 4 _ rfl
 have B1 := hid (And.intro b2 kk)
 have HZ := hid (And.intro hqz (And.intro hz0 (And.intro hz1 hzS)))
 clear b0 b1 b2 b01 k0 k1 kS kk hc hz0 hz1 hzS hqz;simp only [Cg.v] at cW ⊢;refine callsIn_of_wp_marks Tryz.func14 rfl trivial ?_ rfl;simp only [Tryz.ntmps14, List.size_toArray, List.length_cons, List.length_nil, Nat.reduceAdd, Nat.reduceSub, Array.replicate_succ, Array.replicate_zero, List.push_toArray, List.append_toArray, List.nil_append, List.cons_append];refine wpIn_wide.2 ?_;have hq5' := hq5.out
 go_wp2_with fail;refine cW.out.mono ?_;rintro e w1 ⟨q2, q3, rfl, hA, hJ, k2⟩;have HA := hid hA
 have HJ := hid hJ
 have K2 := hid k2
 clear cW hA hJ k2 hq5';go_wp2_with fail;obtain ⟨js, hjsE⟩ : ∃ js, Hid (q2 :: q3 :: catJs c = js) := ⟨_, hid rfl⟩
 have hzs := HZ.out
 have hbk := B1.out.1.kept K2.out
 have hq5w : q5 < w1.heap.size := hbk.lt (by simp)
 have hz2 := K2.out.size
 have HSQ : Hid (PlSeq 3 80 #[.pointer (some ⟨q3, 0, none⟩), .pointer (some ⟨q2, 0, none⟩)] R js w1) := hid (by
  have h := waysSeq 3 (by omega) q2 q3 c t _ w1 HA.out (fun j hj => (HJ.out j hj).1) hT8 htl hpl
  rw [hR.out, hjsE.out] at h;exact h)
 have HI0 : Hid (MnI w1 q5 R ⟨[], js, 0, none⟩ w1) := hid ⟨⟨rfl, rfl, rfl, Nat.le_refl _, fun _ _ _ => rfl, by simp, fun j hj => by
  rw [← hjsE.out] at hj;obtain ⟨h1, h2⟩ := HJ.out j hj;refine ⟨fun hm => ?_, by omega, by omega⟩
  rw [List.mem_singleton] at hm;have := hjs.out j (h2 (by omega))
  omega, fun j hj => by rw [← hjsE.out] at hj; exact (HJ.out j hj).1⟩, hbk.get 0 _ rfl, hbk.free 0, fun x hx => (by cases hx)⟩
 clear hzs hbk hz2;refine (wpIn_wide (n := 4)).1 ?_
 refine wpRangeX rfl (by omega) (gf := 80) (lb := #[.pointer (some ⟨q3, 0, none⟩), .pointer (some ⟨q2, 0, none⟩)]) rfl trivial (fun _ _ => rfl)
  HSQ.out (fun _ => rfl) KeepW.trans (fun s W o => KeepB.alloc _ _ _) (KeepB.refl _ _)
  (MnI w1 q5 R) (fun c s W' => False) MnI.own (fun c s X Y row h hg hr => h) HI0.out
  (fun s s' A B h ht k o hk ho => (ht.low (Array.getElem?_eq_some_iff.1 ho).1 h.co.own (by omega)).trans ho) (fun c s A B h ht k o hk ho => h.elim) (fun s s' A B hz h ht => h.step hq5w hz ht) (fun c s A B h ht => h)
  (fun s W o' h => h.co.recs o') (fun s x W o' h => h.co.recs o') (fun c s x W o' h => h.elim)
  (fun x => { tmps := #[.agg #[.int .i64 c.n, .int .i64 c.s, .int .i64 c.k, .slice c.ta c.tl.length c.tc, .slice c.pa c.pl.length c.pc], .int .i64 t, .pointer (some ⟨w.heap.size, 0, none⟩), undef, .int .i64 0, .pointer (some ⟨q5, 0, none⟩), .agg #[.int .i64 c.n, .int .i64 c.s, .int .i64 c.k, .slice c.ta c.tl.length c.tc, .slice c.pa c.pl.length c.pc], .int .i64 t, .func (.func 80) #[] #[.pointer (some ⟨q3, 0, none⟩), .pointer (some ⟨q2, 0, none⟩)], plV x, undef, undef, undef], defers := [] }) ?assign ?body ?done ?stop
 case assign =>
  intro l x W C hC
  gi_wp2_with fail;simpa [encW] using hC
 case body =>
  rintro l0 s x W h hp;have hlt := h.pend _ hp
  have c5 := h.box
  have f5 := h.free
  have i3 : (s.i : Int) + 1 ≤ 9223372036854775807 := by omega
  have hR4 : Hid (KeepsFrom w1.heap.size W (W.setCell ⟨q5, 0, none⟩ (.int .i64 ((s.i : Int) + 1))) ∧ KeepW s W (W.setCell ⟨q5, 0, none⟩ (.int .i64 ((s.i : Int) + 1))) ∧ MnI w1 q5 R (s.nx x) (W.setCell ⟨q5, 0, none⟩ (.int .i64 ((s.i : Int) + 1)))) := hid (by
   have kT : Kp [q5] W (W.setCell ⟨q5, 0, none⟩ (.int .i64 ((s.i : Int) + 1))) := (Kp.refl _ _).setCell (by simp) _
   obtain ⟨r1, r2, r3⟩ := h.co.round (x := x) kT (fun k hk => by rw [List.mem_singleton.1 hk]; exact cellCel c5) (fun k hk => .inl hk) (fun k hk hm' => (h.co.js k hm').1 hk)
   refine ⟨r1, r2, r3, ?_, ?_, fun y hy => (by cases hy)⟩
   ·rw [World.cell?_setCell_same _ _ _ c5]; simp [Sw.nx]
   ·rw [World.frozen?_setCell]; exact f5)
  clear h hp hlt HI0 HSQ;gi_wp2_with fail;exact hR4.out
 case done =>
  rintro D s X hD ⟨hsi, hsp⟩ h hrec;have c5 := h.box
  have h' := hid h
  have hrec' := hid hrec
  have hsi' := hid hsi
  clear h hrec hsi HI0 HSQ;go_wp2_with fail;have hmk : Mks [D] X := (Mks.nil X).cons hrec'.out (by simp)
  have kwX : Kp [] w X := (B1.out.2.trans K2.out (by simp)).trans h'.out.co.kp (fun x hx => .inr (by simp at hx; have := HZ.out; omega))
  show LeavesInM _ _ _ _ _ _ (marks [D]) .returning _
  refine leaves_marks [D] X hmk fun w' hk => ?_
  have hz2 := K2.out.size
  have hzs := HZ.out
  exact ⟨.int .i64 (s.i : Int), by simp [results, Tryz.results14, go_sem], by rw [hsi'.out], kwX.trans hk (fun x hx => .inr (by simp at hx; have := B1.out.2.size; omega))⟩
 case stop =>
  rintro D c s X hD hsm h hrec;exact h.elim
def chI (m : Nat) (pick : Int) : Int := Int.tmod (Int.tmod pick m + m) m
def chV (R : List (Int × Int)) (pick : Int) : (Int × Int) × Int :=
 match R[(chI R.length pick).toNat]? with
 | some x => (x, 0)
 | none => ((0, 0), 161)
theorem chI_ok {m : Nat} (hm : 0 < m) (pick : Int) : 0 ≤ chI m pick ∧ chI m pick < m := by
 unfold chI
 have h1 := Int.tmod_lt_of_pos pick (show (0 : Int) < (m : Int) by omega)
 have h2 := Int.lt_tmod_of_pos pick (show (0 : Int) < (m : Int) by omega)
 exact ⟨Int.tmod_nonneg _ (by omega), Int.tmod_lt_of_pos _ (by omega)⟩
def ClW (W : World) (q j : Nat) (v : Value) : Prop := W.cell? ⟨q, j, none⟩ = some v ∧ W.frozen? ⟨q, j, none⟩ = false
theorem ClW.ck {P : Nat → Prop} {X Y : World} {q j : Nat} {v : Value} (h : ClW X q j v) (k : CK P X Y) (hp : P q) : ClW Y q j v := by
 obtain ⟨a, b⟩ := k.2 ⟨q, j, none⟩ v hp h.1;exact ⟨a, b.trans h.2⟩
theorem ClW.set {X : World} {q j : Nat} {v : Value} (h : ClW X q j v) (u : Value) : ClW (X.setCell ⟨q, j, none⟩ u) q j u :=
 ⟨World.cell?_setCell_same _ _ _ h.1, by rw [World.frozen?_setCell]; exact h.2⟩
theorem ClW.other {X : World} {q j q' j' : Nat} {v : Value} (h : ClW X q j v) (u : Value) (hn : q ≠ q' ∨ j ≠ j') : ClW (X.setCell ⟨q', j', none⟩ u) q j v :=
 ⟨by rw [World.cell?_setCell_other _ _ _ _ (by simp <;> omega)]; exact h.1, by rw [World.frozen?_setCell]; exact h.2⟩
structure ChI (w1 : World) (q6 q7 q9 : Nat) (R : List (Int × Int)) (A : Nat) (s : Sw) (W : World) : Prop where
 co : CoW w1 [q6, q7, q9] s W
 c60 : ClW W q6 0 (.int .i64 0)
 c61 : ClW W q6 1 (.int .i64 0)
 c7 : ClW W q7 0 (.int .i64 0)
 c9 : ClW W q9 0 (.int .i64 ((A : Int) - (s.i : Int)))
 few : s.i ≤ A
 pend : ∀ x, s.p = some x → R[s.i]? = some x
theorem ChI.own {w1 : World} {q6 q7 q9 : Nat} {R : List (Int × Int)} {A : Nat} : OwnFrom w1.heap.size (ChI w1 q6 q7 q9 R A) := fun s X Y row h hg hr => by
 have ck := CK.ofGrown hg (fun r e => (hr r e).2)
 exact ⟨h.co.grown hg hr, h.c60.ck ck trivial, h.c61.ck ck trivial, h.c7.ck ck trivial, h.c9.ck ck trivial, h.few, h.pend⟩
theorem ChI.step {w1 : World} {q6 q7 q9 : Nat} {R : List (Int × Int)} {A : Nat} (hq : ∀ k ∈ [q6, q7, q9], k < w1.heap.size) {s s' : Sw} {X Y : World} (hz : w1.heap.size + 2 ≤ X.heap.size) (h : ChI w1 q6 q7 q9 R A s X) (ht : StepW R s s' X Y) : ChI w1 q6 q7 q9 R A s' Y := by
 have hn : ∀ k ∈ [q6, q7, q9], k ∉ s'.qs := fun k hk hm => by
  have := hq k hk
  rcases ht.qs k hm with e | e
  ·have := h.co.own k e; omega
  ·omega
 have ck := CK.ofKp ht.turn
 refine ⟨h.co.step hq hz ht, h.c60.ck ck (hn _ (by simp)), h.c61.ck ck (hn _ (by simp)), h.c7.ck ck (hn _ (by simp)), by rw [ht.on]; exact h.c9.ck ck (hn _ (by simp)), by rw [ht.on]; exact h.few, fun x hx => ?_⟩
 rw [ht.on]
 rcases ht.given with e | ⟨y, e, hy⟩
 ·rw [e] at hx; cases hx
 ·rw [e] at hx; cases hx; exact hy
structure ChX (w1 : World) (q6 q7 q9 : Nat) (R : List (Int × Int)) (A : Nat) (s : Sw) (W : World) : Prop where
 co : CoW w1 [q6, q7, q9] s W
 got : ∃ x, R[A]? = some x ∧ W.cell? ⟨q6, 0, none⟩ = some (.int .i64 x.1) ∧ W.cell? ⟨q6, 1, none⟩ = some (.int .i64 x.2)
 c7 : W.cell? ⟨q7, 0, none⟩ = some (.int .i64 0)
theorem ChX.own {w1 : World} {q6 q7 q9 : Nat} {R : List (Int × Int)} {A : Nat} : OwnFrom w1.heap.size (ChX w1 q6 q7 q9 R A) := fun s X Y row h hg hr => by
 have ck := CK.ofGrown hg (fun r e => (hr r e).2)
 obtain ⟨x, h1, h2, h3⟩ := h.got;exact ⟨h.co.grown hg hr, ⟨x, h1, (ck.2 _ _ trivial h2).1, (ck.2 _ _ trivial h3).1⟩, (ck.2 _ _ trivial h.c7).1⟩
theorem ChX.stepX {w1 : World} {q6 q7 q9 : Nat} {R : List (Int × Int)} {A : Nat} {s : Sw} {X Y : World} (h : ChX w1 q6 q7 q9 R A s X) (ht : StepWX s X Y) : ChX w1 q6 q7 q9 R A s Y := by
 have ck := CK.ofKp ht
 obtain ⟨x, h1, h2, h3⟩ := h.got;exact ⟨h.co.stepX ht, ⟨x, h1, (ck.2 _ _ (by simp) h2).1, (ck.2 _ _ (by simp) h3).1⟩, (ck.2 _ _ (by simp) h.c7).1⟩
theorem cChoose (c : Cg) (t pick : Int) (w : World) (hc : c.ok w) (hT8 : ∀ x ∈ c.tl, x.l.length ≤ 9223372036854775806) (htl : c.tl.length ≤ 9223372036854775807) (hpl : c.pl.length ≤ 4000000000000) (hR8 : (waysV c t).length ≤ 4000000000000) :
  CallsIn Fence.wide 5 Tryz.prog 12 #[c.v, .int .i64 t, .int .i64 pick] w fun e w' => e = .returned (.tuple #[plV (chV (waysV c t) pick).1, .int .i64 (chV (waysV c t) pick).2]) ∧ Kp [] w w' := by
 obtain ⟨v0, hv0, k0, b0⟩ : ∃ x, w.alloc (.cells #[.int .i64 c.n, .int .i64 c.s, .int .i64 c.k, .slice c.ta c.tl.length c.tc, .slice c.pa c.pl.length c.pc] 25) = x ∧ Kp [] w x ∧ Bn x w.heap.size [.int .i64 c.n, .int .i64 c.s, .int .i64 c.k, .slice c.ta c.tl.length c.tc, .slice c.pa c.pl.length c.pc] := ⟨_, rfl, (Kp.refl _ _).alloc _, Bn.new w _ _⟩
 obtain ⟨v1, hv1, k1, b1⟩ : ∃ x, v0.alloc (.cells #[.int .i64 0, .int .i64 0] 38) = x ∧ Kp [] v0 x ∧ Bn x v0.heap.size [.int .i64 0, .int .i64 0] := ⟨_, rfl, (Kp.refl _ _).alloc _, Bn.new v0 _ _⟩
 obtain ⟨v2, hv2, k2, b2⟩ : ∃ x, v1.alloc (.cells #[.int .i64 0] 33) = x ∧ Kp [] v1 x ∧ Bn x v1.heap.size [.int .i64 0] := ⟨_, rfl, (Kp.refl _ _).alloc _, Bn.new v1 _ _⟩
 have hz0 : v0.heap.size = w.heap.size + 1 := by rw [← hv0]; simp
 have hz1 : v1.heap.size = v0.heap.size + 1 := by rw [← hv1]; simp
 have hz2 : v2.heap.size = v1.heap.size + 1 := by rw [← hv2]; simp
 obtain ⟨q6, hq6⟩ : ∃ q, Hid (v0.heap.size = q) := ⟨_, hid rfl⟩
 obtain ⟨q7, hq7⟩ : ∃ q, Hid (v1.heap.size = q) := ⟨_, hid rfl⟩
 rw [hq6.out] at b1;rw [hq7.out] at b2;have b02 := (b0.kept k1).kept k2
 have b12 := b1.kept k2
 have kk := (k0.trans k1 (by simp)).trans k2 (by simp)
 have hck := hc.kept kk
 obtain ⟨R, hR⟩ : ∃ R, Hid (waysV c t = R) := ⟨_, hid rfl⟩
 have cM := cMany c t v2 hck hT8 htl hpl hR8
 rw [hR.out] at hR8 cM ⊢;have cM' := hid (callsIn_wide.1 cM)
 have cc0 := b02.get 0 _ rfl; have cc1 := b02.get 1 _ rfl; have cc2 := b02.get 2 _ rfl; have cc3 := b02.get 3 _ rfl; have cc4 := b02.get 4 _ rfl
 have HB := hid (And.intro b02 (And.intro b12 (And.intro b2 kk)))
 have HZ := hid (And.intro hz0 (And.intro hz1 hz2))
 have HC := hid hc
 clear b0 b1 b2 b02 b12 k0 k1 k2 kk hck hc hz0 hz1 hz2 cM;simp only [Cg.v] at cM' ⊢;refine callsIn_of_wp_marks Tryz.func12 rfl trivial ?_ rfl;simp only [Tryz.ntmps12, List.size_toArray, List.length_cons, List.length_nil, Nat.reduceAdd, Nat.reduceSub, Array.replicate_succ, Array.replicate_zero, List.push_toArray, List.append_toArray, List.nil_append, List.cons_append];refine wpIn_wide.2 ?_;have hq6' := hq6.out
 have hq7' := hq7.out
 go_wp2_with fail;refine cM'.out.mono ?_;rintro e w2 ⟨rfl, k3⟩;have K3 := hid k3
 clear cM' k3 hq6' hq7'
 by_cases hm : 0 < R.length
 ·have d1 : decide ((0 : Int) < (R.length : Int)) = true := by simp; exact hm
  have d2 : (0 : Int) < (R.length : Int) := by omega
  obtain ⟨h0, h1⟩ := chI_ok hm pick;obtain ⟨A, hA⟩ := Int.eq_ofNat_of_zero_le h0;have hAR : A < R.length := by omega
  have hg1 := Int.tmod_lt_of_pos pick d2
  have hg2 := Int.lt_tmod_of_pos pick d2
  unfold chI at hA
  obtain ⟨r1, e1⟩ : ∃ r, Int.tmod pick (R.length : Int) = r := ⟨_, rfl⟩
  rw [e1] at hA hg1 hg2;have e2 : wrap64 (r1 + (R.length : Int)) = r1 + (R.length : Int) := by unfold wrap64; omega
  obtain ⟨r2, e3⟩ : ∃ r, r1 + (R.length : Int) = r := ⟨_, rfl⟩
  rw [e3] at e2 hA;obtain ⟨w3, hw3, k4, b9⟩ : ∃ x, w2.alloc (.cells #[.int .i64 (A : Int)] 3) = x ∧ Kp [] w2 x ∧ Bn x w2.heap.size [.int .i64 (A : Int)] := ⟨_, rfl, (Kp.refl _ _).alloc _, Bn.new w2 _ _⟩
  obtain ⟨q9, hq9⟩ : ∃ q, Hid (w2.heap.size = q) := ⟨_, hid rfl⟩
  rw [hq9.out] at b9;have k34 := K3.out.trans k4 (by simp)
  have b0 := HB.out.1.kept k34
  have cc0 := b0.get 0 _ rfl; have cc1 := b0.get 1 _ rfl; have cc2 := b0.get 2 _ rfl; have cc3 := b0.get 3 _ rfl; have cc4 := b0.get 4 _ rfl
  have cW := hid (cWays c t w3 ((HC.out.kept HB.out.2.2.2).kept k34))
  simp only [Cg.v] at cW;have B9 := hid (And.intro b9 (And.intro ((HB.out.2.1).kept k34) (And.intro (HB.out.2.2.1.kept k34) (HB.out.2.2.2.trans k34 (by simp)))))
  have hz3 : w3.heap.size = w2.heap.size + 1 := by rw [← hw3]; simp
  have HZ3 := hid hz3
  have hAe := hid hA
  have e4 : Int.tmod r2 (R.length : Int) = (A : Int) := hA
  have hRA : Hid (R[A]? = some R[A]) := by show _ = _; simp [hAR]
  have hq9' := hq9.out
  clear h0 h1 hA hg1 hg2 k4 b9 k34 b0 hz3;go_wp2_with fail;refine cW.out.mono ?_;rintro e w4 ⟨q2, q3, rfl, hAt, hJ, k5⟩;have HA := hid hAt
  have HJ := hid hJ
  have K5 := hid k5
  have e1' : Int.tmod pick (R.length : Int) = r1 := e1
  have e3' : r1 + (R.length : Int) = r2 := e3
  clear cW hAt hJ k5 hq9' e1 e2 e3 e4 cc0 cc1 cc2 cc3 cc4;go_wp2_with fail;obtain ⟨js, hjsE⟩ : ∃ js, Hid (q2 :: q3 :: catJs c = js) := ⟨_, hid rfl⟩
  have hzs := HZ.out
  have hzs3 := HZ3.out
  have hzk := K5.out.size
  have hzk3 := K3.out.size
  have hw0 := hq6.out
  have hw1 := hq7.out
  have hw2 := hq9.out
  have b6 := B9.out.2.1.kept K5.out
  have b7 := B9.out.2.2.1.kept K5.out
  have b9 := B9.out.1.kept K5.out
  have hSl : ∀ k ∈ [q6, q7, q9], k < w4.heap.size := fun k hk => by
   simp only [List.mem_cons, List.not_mem_nil, or_false] at hk
   rcases hk with rfl | rfl | rfl
   ·exact b6.lt (by simp)
   ·exact b7.lt (by simp)
   ·exact b9.lt (by simp)
  have n67 : q6 ≠ q7 := by omega
  have n69 : q6 ≠ q9 := by omega
  have n79 : q7 ≠ q9 := by omega
  have HSQ : Hid (PlSeq 4 80 #[.pointer (some ⟨q3, 0, none⟩), .pointer (some ⟨q2, 0, none⟩)] R js w4) := hid (by
   have h := waysSeq 4 (by omega) q2 q3 c t _ w4 HA.out (fun j hj => (HJ.out j hj).1) hT8 htl hpl
   rw [hR.out, hjsE.out] at h;exact h)
  have hcl := catJs_lt HC.out
  have HI0 : Hid (ChI w4 q6 q7 q9 R A ⟨[], js, 0, none⟩ w4) := hid ⟨⟨rfl, rfl, rfl, Nat.le_refl _, fun _ _ _ => rfl, by simp, fun j hj => by
   rw [← hjsE.out] at hj;obtain ⟨h1, h2⟩ := HJ.out j hj;refine ⟨fun hm => ?_, by omega, by omega⟩
   simp only [List.mem_cons, List.not_mem_nil, or_false] at hm;have := hcl j (h2 (by omega))
   omega, fun j hj => by rw [← hjsE.out] at hj; exact (HJ.out j hj).1⟩, ⟨b6.get 0 _ rfl, b6.free 0⟩, ⟨b6.get 1 _ rfl, b6.free 1⟩, ⟨b7.get 0 _ rfl, b7.free 0⟩, ⟨by have := b9.get 0 _ rfl; simpa using this, b9.free 0⟩, Nat.zero_le _, fun x hx => (by cases hx)⟩
  have HKW : Hid (Kp [] w w4) := hid (B9.out.2.2.2.trans K5.out (by simp))
  have HQ : Hid (w.heap.size < q6 ∧ w.heap.size < q7 ∧ w.heap.size < q9) := hid ⟨by omega, by omega, by omega⟩
  clear hzs hzs3 hzk hzk3 hw0 hw1 hw2 b6 b7 b9 hcl;refine (wpIn_wide (n := 5)).1 ?_
  refine wpRangeY rfl (by omega) (gf := 80) (lb := #[.pointer (some ⟨q3, 0, none⟩), .pointer (some ⟨q2, 0, none⟩)]) rfl trivial (fun _ _ => rfl)
   HSQ.out (fun _ => rfl) KeepW.trans (fun s W o => KeepB.alloc _ _ _) (KeepB.refl _ _)
   (ChI w4 q6 q7 q9 R A) (fun c s W' => c = .ret ∧ ChX w4 q6 q7 q9 R A s W') ChI.own (fun c s X Y row h hg hr => ⟨h.1, ChX.own s X Y row h.2 hg hr⟩) HI0.out
   (fun s s' A B h ht k o hk ho => (ht.low (Array.getElem?_eq_some_iff.1 ho).1 h.co.own (by omega)).trans ho) (fun c s A B h ht k o hk ho => (ht.block k (Array.getElem?_eq_some_iff.1 ho).1 (by simp)).trans ho) (fun s s' A B hz h ht => h.step hSl hz ht) (fun c s A B h ht => ⟨h.1, h.2.stepX ht⟩)
   (fun s W o' h => h.co.recs o') (fun s x W o' h => h.co.recs o') (fun c s x W o' h => h.2.co.recs o')
   (fun x => .cells #[.int .i64 x.1, .int .i64 x.2] 38)
   (fun x q => { tmps := #[.agg #[.int .i64 c.n, .int .i64 c.s, .int .i64 c.k, .slice c.ta c.tl.length c.tc, .slice c.pa c.pl.length c.pc], .int .i64 t, .int .i64 pick, .pointer (some ⟨w.heap.size, 0, none⟩), undef, undef, .pointer (some ⟨q6, 0, none⟩), .pointer (some ⟨q7, 0, none⟩), .int .i64 (R.length : Int), .pointer (some ⟨q9, 0, none⟩), .pointer (some ⟨q, 0, none⟩), .agg #[.int .i64 c.n, .int .i64 c.s, .int .i64 c.k, .slice c.ta c.tl.length c.tc, .slice c.pa c.pl.length c.pc], .int .i64 t, .int .i64 (R.length : Int), .int .i64 (R.length : Int), .bool true, .int .i64 pick, .int .i64 (R.length : Int), .int .i64 r1, .int .i64 (R.length : Int), .int .i64 (wrap64 r2), .int .i64 (R.length : Int), .int .i64 (A : Int), .agg #[.int .i64 c.n, .int .i64 c.s, .int .i64 c.k, .slice c.ta c.tl.length c.tc, .slice c.pa c.pl.length c.pc], .int .i64 t, .func (.func 80) #[] #[.pointer (some ⟨q3, 0, none⟩), .pointer (some ⟨q2, 0, none⟩)], plV x, undef, undef, undef, undef, undef, undef], defers := [] }) ?assign ?body ?done ?stop
  case assign =>
   rintro l ⟨x1, x2⟩ W C hC;simp only [encW, plV] at hC ⊢;gi_wp2_with fail;exact hC
  case body =>
   rintro l0 s ⟨x1, x2⟩ W q h hp hob hq2;dsimp only at hob ⊢;have hRi := h.pend _ hp
   have o0 : W.cell? ⟨q, 0, none⟩ = some (.int .i64 x1) := by unfold World.cell?; simp [hob]
   have o1 : W.cell? ⟨q, 1, none⟩ = some (.int .i64 x2) := by unfold World.cell?; simp [hob]
   have h' := hid h
   have hRi' := hid hRi
   have hfew := h.few
   have hS0 := hid hSl
   obtain ⟨δ, hδ⟩ : ∃ δ, Hid ((A : Int) - (s.i : Int) = δ) := ⟨_, hid rfl⟩
   have hc9 := h.c9
   rw [hδ.out] at hc9;have hjn : ∀ k ∈ [q6, q7, q9], k ∉ s.js := fun k hk hm => (h.co.js k hm).1 hk
   by_cases hz : A = s.i
   ·have hd0 : δ = 0 := by have := hδ.out; omega
    rw [hd0] at hc9;have c9 := hc9.1
    have c60 := h.c60
    have c61 := h.c61
    have c70 := h.c7
    obtain ⟨w9, hw9⟩ : ∃ y, ((W.setCell ⟨q6, 0, none⟩ (.int .i64 x1)).setCell ⟨q6, 1, none⟩ (.int .i64 x2)).setCell ⟨q7, 0, none⟩ (.int .i64 0) = y := ⟨_, rfl⟩
    have k9 : Kp [q6, q7] W w9 := by rw [← hw9]; exact (((Kp.refl _ _).setCell (by simp) _).setCell (by simp) _).setCell (by simp) _
    have g60 : w9.cell? ⟨q6, 0, none⟩ = some (.int .i64 x1) := by rw [← hw9]; exact (((c60.set _).other _ (.inr (by omega))).other _ (.inl n67)).1
    have g61 : w9.cell? ⟨q6, 1, none⟩ = some (.int .i64 x2) := by rw [← hw9]; exact (((c61.other _ (.inr (by omega))).set _).other _ (.inl n67)).1
    have g70 : w9.cell? ⟨q7, 0, none⟩ = some (.int .i64 0) := by rw [← hw9]; exact (((c70.other _ (.inl n67.symm)).other _ (.inl n67.symm)).set _).1
    obtain ⟨t1, t2, t3⟩ := h.co.round (x := (x1, x2)) k9 (fun k hk => by
     rcases List.mem_cons.1 hk with rfl | hk
     ·exact cellCel c60.1
     ·rw [List.mem_singleton.1 hk]; exact cellCel c70.1) (fun k hk => .inl (by simp at hk ⊢; omega)) (fun k hk => hjn k (by simp at hk ⊢; omega))
    have HR4 : Hid (KeepsFrom w4.heap.size W w9 ∧ KeepW s W w9 ∧ ChX w4 q6 q7 q9 R A (s.nx (x1, x2)) w9) := hid ⟨t1, t2, t3, ⟨(x1, x2), by rw [hz]; exact hRi, g60, g61⟩, g70⟩
    have a0 := c60.1
    have a1 := c61.1
    have a2 := c70.1
    have p0 := c60.2
    have p1 := c61.2
    have p2 := c70.2
    have n1 : ¬ q6 = q7 := n67
    have n2 : ¬ q7 = q6 := fun e => n67 e.symm
    have d3 : ((0 : Int) == 0) = true := rfl
    clear hc9 c60 c61 c70 k9 g60 g61 g70 t1 t2 t3 h hp hRi hob hq2 hfew hz hd0 HI0 HSQ hjn;gi_wp2_with fail;exact ⟨HR4.out.1, HR4.out.2.1, rfl, HR4.out.2.2⟩
   ·have d3 : (δ == 0) = false := by have := hδ.out; rw [beq_eq_false_iff_ne]; omega
    have hb1 : -9223372036854775808 ≤ δ - 1 := by have := hδ.out; omega
    have hb2 : δ - 1 ≤ 9223372036854775807 := by have := hδ.out; omega
    have c9 := hc9.1
    have f9 := hc9.2
    have k9 : Kp [q9] W (W.setCell ⟨q9, 0, none⟩ (.int .i64 (δ - 1))) := (Kp.refl _ _).setCell (by simp) _
    obtain ⟨t1, t2, t3⟩ := h.co.round (x := (x1, x2)) k9 (fun k hk => by rw [List.mem_singleton.1 hk]; exact cellCel c9) (fun k hk => .inl (by simp at hk ⊢; omega)) (fun k hk => hjn k (by simp at hk ⊢; omega))
    have HR4 : Hid (KeepsFrom w4.heap.size W (W.setCell ⟨q9, 0, none⟩ (.int .i64 (δ - 1))) ∧ KeepW s W (W.setCell ⟨q9, 0, none⟩ (.int .i64 (δ - 1))) ∧ ChI w4 q6 q7 q9 R A (s.nx (x1, x2)) (W.setCell ⟨q9, 0, none⟩ (.int .i64 (δ - 1)))) := hid ⟨t1, t2, t3, h.c60.other _ (.inl n69), h.c61.other _ (.inl n69), h.c7.other _ (.inl n79), by
     have e : (A : Int) - ((s.nx (x1, x2)).i : Int) = δ - 1 := by
      have := hδ.out
      simp only [Sw.nx];omega
     rw [e];exact hc9.set _, by show s.i + 1 ≤ A; omega, fun y hy => (by cases hy)⟩
    clear hc9 k9 t1 t2 t3 h hp hRi hob hq2 hfew hz HI0 HSQ hjn o0 o1;gi_wp2_with fail;exact ⟨HR4.out.1, HR4.out.2.1, HR4.out.2.2⟩
  case done =>
   rintro D s X hD ⟨hsi, hsp⟩ h hrec;have := h.few
   exfalso
   omega
  case stop =>
   rintro D c s X hD hsm ⟨rfl, h⟩ hrec;obtain ⟨x, g1, g2, g3⟩ := h.got;have hAe' := hAe.out
   have hV : Hid (chV R pick = (x, 0)) := by
    show _ = _
    unfold chV chI
    rw [e1', e3', hAe'];simp [g1]
   have h' := hid h
   have hrec' := hid hrec
   have HG := hid (And.intro g2 g3)
   clear h hrec g1 g2 g3 HI0 HSQ;gi_wp2_with fail;have hmk : Mks [D] X := (Mks.nil X).cons hrec'.out (by simp)
   have kwX : Kp [] w X := HKW.out.trans h'.out.co.kp (fun x hx => .inr (by have := HQ.out; simp at hx; omega))
   show LeavesInM _ _ _ _ _ _ (marks [D]) .returning _
   refine leaves_marks [D] X hmk fun w' hk => ?_
   have ck : CK (fun _ => True) X w' := CK.ofBlock hk.size fun k _ hl => by
    by_cases e : k = D
    ·exact .inr ⟨_, by rw [e]; exact hrec'.out, rfl⟩
    ·exact .inl (hk.block k hl (by simpa using e))
   have g4 := (ck.2 _ _ trivial HG.out.1).1
   have g5 := (ck.2 _ _ trivial HG.out.2).1
   have g7 := (ck.2 _ _ trivial h'.out.c7).1
   have hzz := HKW.out.size
   exact ⟨.tuple #[plV x, .int .i64 0], by simp [results, Tryz.results12, go_sem, g4, g5, g7], by rw [hV.out], kwX.trans hk (fun x hx => .inr (by simp at hx; omega))⟩
 ·have hm0 : R.length = 0 := by omega
  have d1 : decide ((0 : Int) < (R.length : Int)) = false := by rw [hm0]; rfl
  have d2 : ¬ (0 : Int) < (R.length : Int) := by omega
  have hR0 : Hid (chV R pick = ((0, 0), 161)) := by
   show _ = _
   have : R = [] := List.length_eq_zero_iff.1 hm0
   subst this;rfl
  have b6 := HB.out.2.1.kept K3.out
  have b7 := HB.out.2.2.1.kept K3.out
  have c60 : ClW w2 q6 0 (.int .i64 0) := ⟨b6.get 0 _ rfl, b6.free 0⟩
  have c61 : ClW w2 q6 1 (.int .i64 0) := ⟨b6.get 1 _ rfl, b6.free 1⟩
  have c70 : ClW w2 q7 0 (.int .i64 0) := ⟨b7.get 0 _ rfl, b7.free 0⟩
  have hz := HZ.out
  have n67 : q6 ≠ q7 := by have := hq6.out; have := hq7.out; omega
  obtain ⟨w9, hw9⟩ : ∃ x, ((w2.setCell ⟨q6, 0, none⟩ (.int .i64 0)).setCell ⟨q6, 1, none⟩ (.int .i64 0)).setCell ⟨q7, 0, none⟩ (.int .i64 161) = x := ⟨_, rfl⟩
  have k9 : Kp [q6, q7] w2 w9 := by rw [← hw9]; exact (((Kp.refl _ _).setCell (by simp) _).setCell (by simp) _).setCell (by simp) _
  have g60 : w9.cell? ⟨q6, 0, none⟩ = some (.int .i64 0) := by rw [← hw9]; exact (((c60.set _).other _ (.inr (by omega))).other _ (.inl n67)).1
  have g61 : w9.cell? ⟨q6, 1, none⟩ = some (.int .i64 0) := by rw [← hw9]; exact (((c61.other _ (.inr (by omega))).set _).other _ (.inl n67)).1
  have g70 : w9.cell? ⟨q7, 0, none⟩ = some (.int .i64 161) := by rw [← hw9]; exact (((c70.other _ (.inl n67.symm)).other _ (.inl n67.symm)).set _).1
  have HG := hid (And.intro g60 (And.intro g61 (And.intro g70 k9)))
  have a0 := c60.1
  have a1 := c61.1
  have a2 := c70.1
  have p0 := c60.2
  have p1 := c61.2
  have p2 := c70.2
  have n1 : ¬ q6 = q7 := n67
  have n2 : ¬ q7 = q6 := fun e => n67 e.symm
  have HQ : Hid (w.heap.size < q6 ∧ w.heap.size < q7) := hid ⟨by have := hq6.out; omega, by have := hq7.out; omega⟩
  clear b6 b7 c60 c61 c70 hz n67 k9 g60 g61 g70;go_wp2_with fail;show LeavesInM _ _ _ _ _ _ (marks []) .returning _
  refine leaves_marks [] w9 (Mks.nil w9) fun w' hk => ?_
  have g4 := kpAt hk HG.out.1
  have g5 := kpAt hk HG.out.2.1
  have g7 := kpAt hk HG.out.2.2.1
  have kw := HB.out.2.2.2.trans K3.out (by simp)
  exact ⟨.tuple #[plV (0, 0), .int .i64 161], by simp [results, Tryz.results12, go_sem, g4, g5, g7], by rw [hR0.out], (kw.trans HG.out.2.2.2 (fun x hx => .inr (by have := HQ.out; simp at hx; omega))).trans hk (by simp)⟩
def cgS (qa qb qc qd qe qf : Nat) : Cg := ⟨1, 1, 0, some ⟨qb, 0, none⟩, 1, [⟨⟨#[116]⟩, some ⟨qa, 0, none⟩, 2, [⟨⟨#[97]⟩, 2, false⟩, ⟨⟨#[98]⟩, 2, false⟩]⟩], some ⟨qf, 0, none⟩, 3,
 [⟨⟨#[112]⟩, 0, some ⟨qc, 0, none⟩, 2, [0, 1], none, 0, [], 0, 0⟩, ⟨⟨#[113]⟩, 0, some ⟨qd, 0, none⟩, 1, [0], none, 0, [], 0, 0⟩, ⟨⟨#[114]⟩, 0, some ⟨qe, 0, none⟩, 1, [1], none, 0, [], 1, 0⟩]⟩
theorem cgS_ways (qa qb qc qd qe qf : Nat) : waysV (cgS qa qb qc qd qe qf) 0 = [(0, -1), (1, 2)] := by
 simp [waysV, cgS, wi, tbM, sgW, ptW, isS, isP, hvA, hasC, colsOf, pjOf, prW, inW, bothW, List.range, List.range.loop, List.range']
theorem cgS_pick (qa qb qc qd qe qf : Nat) : chV (waysV (cgS qa qb qc qd qe qf) 0) (-1) = ((1, 2), 0) := by
 rw [cgS_ways]; rfl
theorem cgS_ok {W : World} {qa qb qc qd qe qf : Nat} (b1 : Bn W qa [.string ⟨#[97]⟩, .int .i64 2, .bool false, .string ⟨#[98]⟩, .int .i64 2, .bool false]) (b2 : Bn W qb [.string ⟨#[116]⟩, .slice (some ⟨qa, 0, none⟩) 2 2])
  (b3 : Bn W qc [.int .i64 0, .int .i64 1]) (b4 : Bn W qd [.int .i64 0]) (b5 : Bn W qe [.int .i64 1])
  (b6 : Bn W qf [.string ⟨#[112]⟩, .int .i64 0, .slice (some ⟨qc, 0, none⟩) 2 2, .slice none 0 0, .int .i64 0, .int .i64 0, .string ⟨#[113]⟩, .int .i64 0, .slice (some ⟨qd, 0, none⟩) 1 1, .slice none 0 0, .int .i64 0, .int .i64 0, .string ⟨#[114]⟩, .int .i64 0, .slice (some ⟨qe, 0, none⟩) 1 1, .slice none 0 0, .int .i64 1, .int .i64 0]) : (cgS qa qb qc qd qe qf).ok W := by
 refine ⟨.inr ⟨_, 0, rfl, fun j u hu => ?_⟩, fun t ht => ?_, by simp [cgS], by simp [cgS], .inr ⟨_, 0, rfl, fun j u hu => ?_⟩, fun p hp => ?_, by simp [cgS], by simp [cgS]⟩
 ·rw [Nat.zero_add]; exact b2.get j u (by simpa [cgS, El.cs, TbE] using hu)
 ·simp [cgS] at ht
  subst ht;refine ⟨.inr ⟨qa, 0, rfl, fun j x hx => ?_⟩, by simp, by simp⟩
  match j, hx with
  | 0, hx =>
   simp at hx
   subst hx;exact ⟨b1.get 0 _ rfl, b1.get 1 _ rfl, b1.get 2 _ rfl⟩
  | 1, hx =>
   simp at hx
   subst hx;exact ⟨b1.get 3 _ rfl, b1.get 4 _ rfl, b1.get 5 _ rfl⟩
  | j + 2, hx => simp at hx
 ·rw [Nat.zero_add]; exact b6.get j u (by simpa [cgS, El.cs, PjE] using hu)
 ·simp [cgS] at hp
  rcases hp with rfl | rfl | rfl
  ·exact ⟨.inr ⟨_, 0, rfl, fun j u hu => by rw [Nat.zero_add]; exact b3.get j u (by simpa [El.cs, IntE] using hu)⟩, .inl rfl, by simp, by simp, by simp, by simp⟩
  ·exact ⟨.inr ⟨_, 0, rfl, fun j u hu => by rw [Nat.zero_add]; exact b4.get j u (by simpa [El.cs, IntE] using hu)⟩, .inl rfl, by simp, by simp, by simp, by simp⟩
  ·exact ⟨.inr ⟨_, 0, rfl, fun j u hu => by rw [Nat.zero_add]; exact b5.get j u (by simpa [El.cs, IntE] using hu)⟩, .inl rfl, by simp, by simp, by simp, by simp⟩
theorem cSmall (w : World) : Calls Tryz.prog 29 #[] w fun e w' => ∃ qa qb qc qd qe qf, e = .returned (cgS qa qb qc qd qe qf).v ∧ (cgS qa qb qc qd qe qf).ok w' ∧ Kp [] w w' := by
 obtain ⟨v0, hv0, k0, b0⟩ : ∃ x, w.alloc (.cells #[.int .i64 0, .int .i64 0, .int .i64 0, .slice none 0 0, .slice none 0 0] 25) = x ∧ Kp [] w x ∧ Bn x w.heap.size [.int .i64 0, .int .i64 0, .int .i64 0, .slice none 0 0, .slice none 0 0] := ⟨_, rfl, (Kp.refl _ _).alloc _, Bn.new w _ _⟩
 obtain ⟨v1, hv1, k1, b1⟩ : ∃ x, v0.alloc (.cells #[.string ⟨#[97]⟩, .int .i64 2, .bool false, .string ⟨#[98]⟩, .int .i64 2, .bool false] 104) = x ∧ Kp [] v0 x ∧ Bn x v0.heap.size [.string ⟨#[97]⟩, .int .i64 2, .bool false, .string ⟨#[98]⟩, .int .i64 2, .bool false] := ⟨_, rfl, (Kp.refl _ _).alloc _, Bn.new v0 _ _⟩
 obtain ⟨v2, hv2, k2, b2⟩ : ∃ x, v1.alloc (.cells #[.string ⟨#[116]⟩, .slice (some ⟨v0.heap.size, 0, none⟩) 2 2] 77) = x ∧ Kp [] v1 x ∧ Bn x v1.heap.size [.string ⟨#[116]⟩, .slice (some ⟨v0.heap.size, 0, none⟩) 2 2] := ⟨_, rfl, (Kp.refl _ _).alloc _, Bn.new v1 _ _⟩
 obtain ⟨v3, hv3, k3, b3⟩ : ∃ x, v2.alloc (.cells #[.int .i64 0, .int .i64 1] 3) = x ∧ Kp [] v2 x ∧ Bn x v2.heap.size [.int .i64 0, .int .i64 1] := ⟨_, rfl, (Kp.refl _ _).alloc _, Bn.new v2 _ _⟩
 obtain ⟨v4, hv4, k4, b4⟩ : ∃ x, v3.alloc (.cells #[.int .i64 0] 3) = x ∧ Kp [] v3 x ∧ Bn x v3.heap.size [.int .i64 0] := ⟨_, rfl, (Kp.refl _ _).alloc _, Bn.new v3 _ _⟩
 obtain ⟨v5, hv5, k5, b5⟩ : ∃ x, v4.alloc (.cells #[.int .i64 1] 3) = x ∧ Kp [] v4 x ∧ Bn x v4.heap.size [.int .i64 1] := ⟨_, rfl, (Kp.refl _ _).alloc _, Bn.new v4 _ _⟩
 obtain ⟨v6, hv6, k6, b6⟩ : ∃ x, v5.alloc (.cells #[.string ⟨#[112]⟩, .int .i64 0, .slice (some ⟨v2.heap.size, 0, none⟩) 2 2, .slice none 0 0, .int .i64 0, .int .i64 0, .string ⟨#[113]⟩, .int .i64 0, .slice (some ⟨v3.heap.size, 0, none⟩) 1 1, .slice none 0 0, .int .i64 0, .int .i64 0, .string ⟨#[114]⟩, .int .i64 0, .slice (some ⟨v4.heap.size, 0, none⟩) 1 1, .slice none 0 0, .int .i64 1, .int .i64 0] 92) = x ∧ Kp [] v5 x ∧ Bn x v5.heap.size [.string ⟨#[112]⟩, .int .i64 0, .slice (some ⟨v2.heap.size, 0, none⟩) 2 2, .slice none 0 0, .int .i64 0, .int .i64 0, .string ⟨#[113]⟩, .int .i64 0, .slice (some ⟨v3.heap.size, 0, none⟩) 1 1, .slice none 0 0, .int .i64 0, .int .i64 0, .string ⟨#[114]⟩, .int .i64 0, .slice (some ⟨v4.heap.size, 0, none⟩) 1 1, .slice none 0 0, .int .i64 1, .int .i64 0] := ⟨_, rfl, (Kp.refl _ _).alloc _, Bn.new v5 _ _⟩
 have z1 := k1.size; have z2 := k2.size; have z3 := k3.size; have z4 := k4.size; have z5 := k5.size; have z6 := k6.size
 have z0 : v0.heap.size = w.heap.size + 1 := by rw [← hv0]; simp
 have m0 := ((((((b0.kept k1).kept k2).kept k3).kept k4).kept k5).kept k6)
 have m1 := (((((b1.kept k2).kept k3).kept k4).kept k5).kept k6)
 have m2 := ((((b2.kept k3).kept k4).kept k5).kept k6)
 have m3 := (((b3.kept k4).kept k5).kept k6)
 have m4 := ((b4.kept k5).kept k6)
 have m5 := (b5.kept k6)
 obtain ⟨q0, hq0⟩ : ∃ q, Hid (w.heap.size = q) := ⟨_, hid rfl⟩
 rw [hq0.out] at m0;obtain ⟨v7, hv7⟩ : ∃ x, ((((v6.setCell ⟨q0, 0, none⟩ (.int .i64 1)).setCell ⟨q0, 1, none⟩ (.int .i64 1)).setCell ⟨q0, 2, none⟩ (.int .i64 0)).setCell ⟨q0, 3, none⟩ (.slice (some ⟨v1.heap.size, 0, none⟩) 1 1)).setCell ⟨q0, 4, none⟩ (.slice (some ⟨v5.heap.size, 0, none⟩) 3 3) = x := ⟨_, rfl⟩
 have k7 : Kp [q0] v6 v7 := by rw [← hv7]; exact ((((((Kp.refl _ _).setCell (by simp) _).setCell (by simp) _).setCell (by simp) _).setCell (by simp) _).setCell (by simp) _)
 have m7 : Bn v7 q0 [.int .i64 1, .int .i64 1, .int .i64 0, .slice (some ⟨v1.heap.size, 0, none⟩) 1 1, .slice (some ⟨v5.heap.size, 0, none⟩) 3 3] := by rw [← hv7]; exact (((((m0.set 0 (by simp) (.int .i64 1)).set 1 (by simp) (.int .i64 1)).set 2 (by simp) (.int .i64 0)).set 3 (by simp) (.slice (some ⟨v1.heap.size, 0, none⟩) 1 1)).set 4 (by simp) (.slice (some ⟨v5.heap.size, 0, none⟩) 3 3))
 have hne : ∀ q, w.heap.size + 1 ≤ q → q ∉ [q0] := fun q h => by have := hq0.out; simp; omega
 have HOK : Hid ((cgS v0.heap.size v1.heap.size v2.heap.size v3.heap.size v4.heap.size v5.heap.size).ok v7) := hid (cgS_ok (m1.keptS k7 (hne _ (by omega)) (m1.lt (by simp))) (m2.keptS k7 (hne _ (by omega)) (m2.lt (by simp))) (m3.keptS k7 (hne _ (by omega)) (m3.lt (by simp))) (m4.keptS k7 (hne _ (by omega)) (m4.lt (by simp))) (m5.keptS k7 (hne _ (by omega)) (m5.lt (by simp))) (b6.keptS k7 (hne _ (by omega)) (b6.lt (by simp))))
 have HK : Hid (Kp [] w v7) := hid (((((((k0.trans k1 (by simp)).trans k2 (by simp)).trans k3 (by simp)).trans k4 (by simp)).trans k5 (by simp)).trans k6 (by simp)).trans k7 (fun x hx => .inr (by have := hq0.out; simp at hx; omega)))
 have a0 := m0.get 0 _ rfl; have a1 := m0.get 1 _ rfl; have a2 := m0.get 2 _ rfl; have a3 := m0.get 3 _ rfl; have a4 := m0.get 4 _ rfl
 have f0 := m0.free 0; have f1 := m0.free 1; have f2 := m0.free 2; have f3 := m0.free 3; have f4 := m0.free 4
 have g0 := m7.get 0 _ rfl; have g1 := m7.get 1 _ rfl; have g2 := m7.get 2 _ rfl; have g3 := m7.get 3 _ rfl; have g4 := m7.get 4 _ rfl
 have hq0' := hq0.out
 clear b0 b1 b2 b3 b4 b5 b6 m0 m1 m2 m3 m4 m5 m7 k0 k1 k2 k3 k4 k5 k6 k7 z0 z1 z2 z3 z4 z5 z6 hne;go_enter Tryz.func29, Tryz.ntmps29
 go_wp2_with fail;exact bodyPost_ret (v := .agg #[.int .i64 1, .int .i64 1, .int .i64 0, .slice (some ⟨v1.heap.size, 0, none⟩) 1 1, .slice (some ⟨v5.heap.size, 0, none⟩) 3 3]) (by simp [results, Tryz.results29, go_sem, g0, g1, g2, g3, g4]) rfl ⟨_, _, _, _, _, _, rfl, HOK.out, HK.out⟩
end Go.Proofs.YtlgfekjoknbfdaaGreatDoor
end

section
namespace Go.Proofs.YtlgfekjoknbfdaaGreatDoor
open Go.RowKit Go.Hay
theorem TurnR.mono {B0 B1 : Nat} {qs ps : List Nat} {A B : World} (h : TurnR B0 qs A B) (hb : B1 ≤ B0) (hq : ∀ q ∈ qs, q ∈ ps) : TurnR B1 ps A B :=
 ⟨h.os, h.tape, h.output, h.size, fun k hk => by
  rcases h.block k hk with e | e | ⟨e, o⟩
  ·exact .inl e
  ·exact .inr (.inl (hq k e))
  ·exact .inr (.inr ⟨by omega, o⟩)⟩
theorem RowSeq.move {fr : Bool} {n g : Nat} {lb : Array Value} {R : List (List Val)} {js : List Nat} {w W : World} (h : RowSeq fr n g lb R js w) (k : KeepB js w W) : RowSeq fr n g lb R js W :=
 fun l J Jx W' hW => h l J Jx W' ⟨k.trans hW.js, fun e => (by cases e)⟩
structure InJ (J : Sr → World → Prop) (RL R : List (List Val)) (f : List Val → List (List Val)) (M : World → Prop) (Mj : List Nat) (w3 : World) (sl : Sr) (W : World) (js qs : List Nat) (i : Nat) : Prop where
 j : J ⟨true, w3.heap.size, qs, js, i, none⟩ W
 sub : ∀ j ∈ sl.js, j ∈ js
 mj : ∀ j ∈ Mj, j ∈ js
 qsub : ∀ q ∈ sl.qs, q ∈ qs
 m : M W
 rel : R.drop i = (RL.drop sl.i).flatMap f
 il : i ≤ R.length
 size : w3.heap.size ≤ W.heap.size
 mde : sl.made = true → w3.heap.size + 2 ≤ sl.B0 ∧ ∀ q ∈ sl.qs, w3.heap.size + 2 ≤ q
 lj : ∀ j ∈ sl.js, j ≠ w3.heap.size ∧ j ≠ w3.heap.size + 1
 pend : ∀ x, sl.p = some x → RL[sl.i]? = some x.l ∧ x.lies W
 jl : ∀ j ∈ js, j < W.heap.size
 ql : ∀ q ∈ qs, q < W.heap.size
def InG (J : Sr → World → Prop) (RL R : List (List Val)) (f : List Val → List (List Val)) (M : World → Prop) (Mj : List Nat) (w3 : World) (sl : Sr) (W : World) : Prop := ∃ js qs i, InJ J RL R f M Mj w3 sl W js qs i
def InX (Jx : Sr → World → Prop) (w3 : World) (sl : Sr) (W : World) : Prop := ∃ s : Sr, s.made = true ∧ s.B0 = w3.heap.size ∧ (∀ q ∈ sl.qs, q ∈ s.qs) ∧ (sl.made = true → w3.heap.size + 2 ≤ sl.B0 ∧ ∀ q ∈ sl.qs, w3.heap.size + 2 ≤ q) ∧ (∀ j ∈ sl.js, j ≠ w3.heap.size ∧ j ≠ w3.heap.size + 1) ∧ Jx s W
section
variable {J Jx : Sr → World → Prop} {fr : Bool} {RL R : List (List Val)} {f : List Val → List (List Val)} {M : World → Prop} {Mj : List Nat} {w3 : World}
theorem InG.own (hT : ∀ s s' A B, J s A → StepR true R s s' A B → J s' B) (hM : ∀ X Y, M X → CK (fun k => k ∈ Mj) X Y → M Y) : OwnFrom w3.heap.size (InG J RL R f M Mj w3) := fun sl X Y row ⟨js, qs, i, h⟩ hg hr => by
 have ck := CK.ofGrown hg (fun r e => (hr r e).2)
 exact ⟨js, qs, i, hT _ _ _ _ h.j (StepR.same rfl rfl (TurnR.ofGrown hg (fun r e => hr r e))), h.sub, h.mj, h.qsub, hM _ _ h.m (ck.mono fun _ _ => trivial), h.rel, h.il, Nat.le_trans h.size hg.size, h.mde, h.lj, fun x hx => ⟨(h.pend x hx).1, (h.pend x hx).2.ck ck (fun _ _ => trivial)⟩, fun j hj => Nat.lt_of_lt_of_le (h.jl j hj) hg.size, fun j hj => Nat.lt_of_lt_of_le (h.ql j hj) hg.size⟩
theorem InX.own (hX : ∀ s A B, Jx s A → StepRX s A B → Jx s B) : OwnFrom w3.heap.size (InX Jx w3) := fun sl X Y row ⟨s, h1, h2, h3, h4, h5, h6⟩ hg hr =>
 ⟨s, h1, h2, h3, h4, h5, hX _ _ _ h6 ⟨h1, TurnR.ofGrown hg (fun r e => by rw [h2]; exact hr r e)⟩⟩
theorem InG.step (hT : ∀ s s' A B, J s A → StepR true R s s' A B → J s' B) (hM : ∀ X Y, M X → CK (fun k => k ∈ Mj) X Y → M Y) (hMj : ∀ j ∈ Mj, j < w3.heap.size) {sl sl' : Sr} {A B : World} (hz : w3.heap.size + 2 ≤ A.heap.size) (h : InG J RL R f M Mj w3 sl A) (ht : StepR fr RL sl sl' A B) : InG J RL R f M Mj w3 sl' B := by
 obtain ⟨js, qs, i, h⟩ := h
 have hmd : sl'.made = true ∧ w3.heap.size + 2 ≤ sl'.B0 ∧ ∀ q ∈ sl'.qs, w3.heap.size + 2 ≤ q := by
  cases hs : sl.made with
  | true =>
   obtain ⟨e0, e1, e2⟩ := ht.stays hs;obtain ⟨h1, h2⟩ := h.mde hs;exact ⟨e0, by omega, fun q hq => by rcases e2 q hq with e | e; exact h2 q e; omega⟩
  | false =>
   obtain ⟨e0, e1, e2⟩ := ht.makes hs;exact ⟨e0, by omega, fun q hq => by have := (e2 q hq).1; omega⟩
 have hqn : ∀ q ∈ sl'.qs, q ∈ qs ∨ (A.heap.size ≤ q ∧ q < B.heap.size) := fun q hq => by
  cases hs : sl.made with
  | true => rcases (ht.stays hs).2.2 q hq with e | e; exact .inl (h.qsub q e); exact .inr e
  | false => exact .inr ((ht.makes hs).2.2 q hq)
 have ck := CK.ofTurn ht.turn
 have hJ : J ⟨true, w3.heap.size, qs ++ sl'.qs, js ++ sl'.js, i, none⟩ B := hT _ _ _ _ h.j ⟨ht.turn.mono (by show w3.heap.size ≤ _; omega) (fun q hq => List.mem_append.2 (.inr hq)), fun _ => ⟨rfl, rfl, fun q hq => by
  rcases List.mem_append.1 hq with e | e
  ·exact .inl e
  ·exact hqn q e⟩, fun e => (by cases e), fun j hj => by
  rcases List.mem_append.1 hj with e | e
  ·exact .inl e
  ·rcases ht.js j e with e2 | e2
   ·exact .inl (h.sub j e2)
   ·exact .inr e2, rfl, .inl rfl⟩
 refine ⟨_, _, i, hJ, fun j hj => List.mem_append.2 (.inr hj), fun j hj => List.mem_append.2 (.inl (h.mj j hj)), fun q hq => List.mem_append.2 (.inr hq), hM _ _ h.m (ck.mono fun k hk hm => ?_), by rw [ht.on]; exact h.rel, h.il, Nat.le_trans h.size ht.turn.size, fun _ => hmd.2, fun j hj => ?_, fun x hx => ?_, fun j hj => ?_, fun q hq => ?_⟩
 ·have := hMj k hk
  have := hmd.2.2 k hm
  omega
 ·rcases ht.js j hj with e | e
  ·exact h.lj j e
  ·omega
 ·rcases ht.given with e | ⟨y, e, hy, hl, _⟩
  ·rw [e] at hx; cases hx
  ·rw [e] at hx
   cases hx
   exact ⟨by rw [ht.on]; exact hy, hl⟩
 ·rcases List.mem_append.1 hj with e | e
  ·exact Nat.lt_of_lt_of_le (h.jl j e) ht.turn.size
  ·rcases ht.js j e with e2 | e2
   ·exact Nat.lt_of_lt_of_le (h.jl j (h.sub j e2)) ht.turn.size
   ·exact e2.2
 ·rcases List.mem_append.1 hq with e | e
  ·exact Nat.lt_of_lt_of_le (h.ql q e) ht.turn.size
  ·rcases hqn q e with e2 | e2
   ·exact Nat.lt_of_lt_of_le (h.ql q e2) ht.turn.size
   ·exact e2.2
theorem InG.keeps {sl sl' : Sr} {A B : World} (h : InG J RL R f M Mj w3 sl A) (ht : StepR fr RL sl sl' A B) (k : Nat) (o : Obj) (hk : k = w3.heap.size ∨ k = w3.heap.size + 1) (ho : A.heap[k]? = some o) : B.heap[k]? = some o := by
 obtain ⟨js, qs, i, h⟩ := h;exact (ht.low h.mde (Array.getElem?_eq_some_iff.1 ho).1 (by omega)).trans ho
theorem InX.step (hX : ∀ s A B, Jx s A → StepRX s A B → Jx s B) {sl : Sr} {A B : World} (h : InX Jx w3 sl A) (ht : StepRX sl A B) : InX Jx w3 sl B := by
 obtain ⟨s, h1, h2, h3, h4, h5, h6⟩ := h;exact ⟨s, h1, h2, h3, h4, h5, hX _ _ _ h6 ⟨h1, ht.2.mono (by rw [h2]; have := (h4 ht.1).1; omega) h3⟩⟩
theorem InX.keeps {sl : Sr} {A B : World} (h : InX Jx w3 sl A) (ht : StepRX sl A B) (k : Nat) (o : Obj) (hk : k = w3.heap.size ∨ k = w3.heap.size + 1) (ho : A.heap[k]? = some o) : B.heap[k]? = some o := by
 obtain ⟨s, h1, h2, h3, h4, h5, h6⟩ := h;obtain ⟨g1, g2⟩ := h4 ht.1;exact (turnLowR ht.2 (Array.getElem?_eq_some_iff.1 ho).1 (by omega) (fun hq => by have := g2 k hq; omega)).trans ho
theorem recsOf {sl : Sr} {W : World} {N : Nat} (hm : sl.made = true → N + 2 ≤ sl.B0 ∧ ∀ q ∈ sl.qs, N + 2 ≤ q) (hj : ∀ j ∈ sl.js, j ≠ N ∧ j ≠ N + 1) (o' : Obj) : KeepR sl W (W.putObj (N + 1) o') :=
 ⟨⟨by simp, fun k hk o ho => (World.putObj_heap_other (by have := (hj k hk).2; omega)).trans ho⟩, fun h k o hk ho _ => (World.putObj_heap_other (by have := (hm h).1; omega)).trans ho⟩
theorem InG.recs {sl : Sr} {W : World} (h : InG J RL R f M Mj w3 sl W) (o' : Obj) : KeepR sl W (W.putObj (w3.heap.size + 1) o') := by
 obtain ⟨js, qs, i, h⟩ := h;exact recsOf h.mde h.lj o'
theorem InG.recs' {sl : Sr} {x : Vs} {W : World} (h : InG J RL R f M Mj w3 (sl.nx x) W) (o' : Obj) : KeepR sl W (W.putObj (w3.heap.size + 1) o') := by
 obtain ⟨js, qs, i, h⟩ := h;exact recsOf (sl := sl) h.mde h.lj o'
theorem InX.recs' {sl : Sr} {x : Vs} {W : World} (h : InX Jx w3 (sl.nx x) W) (o' : Obj) : KeepR sl W (W.putObj (w3.heap.size + 1) o') := by
 obtain ⟨s, h1, h2, h3, h4, h5, h6⟩ := h;exact recsOf (sl := sl) h4 h5 o'
theorem InJ.keepR {sl : Sr} {W W' : World} {js qs : List Nat} {i : Nat} (h : InJ J RL R f M Mj w3 sl W js qs i) {s : Sr} (hs : s.made = true) (hb : s.B0 = w3.heap.size) (hj : ∀ j ∈ js, j ∈ s.js) (k : KeepR s W W') : KeepR sl W W' ∧ KeepsFrom w3.heap.size W W' ∧ KeepB Mj W W' :=
 ⟨⟨⟨k.js.1, fun j hj' o ho => k.js.2 j (hj j (h.sub j hj')) o ho⟩, fun hm j o hj' ho hc => k.recs hs j o (by rw [hb]; have := (h.mde hm).1; omega) ho hc⟩, ⟨k.js.1, fun j o hj' ho hc => k.recs hs j o (by rw [hb]; exact hj') ho hc⟩, ⟨k.js.1, fun j hj' o ho => k.js.2 j (hj j (h.mj j hj')) o ho⟩⟩
end
attribute [local go_sem] Oper.semAt_some
attribute [local go_sem] Oper.semAt_some
attribute [local go_sem] Oper.semAt_some
end Go.Proofs.YtlgfekjoknbfdaaGreatDoor
end

section
namespace Go.Proofs.YtlgfekjoknbfdaaGreatDoor
open Go.RowKit Go.Hay
attribute [local go_sem] Oper.semAt_some
def NewE (w : World) (e : Ending) (w' : World) : Prop := ∃ a c, e = .returned (.slice a 0 c) ∧ VE.Row w' (.slice a 0 c) [] ∧ Kp [] w w' ∧ ∀ k ∈ blk a, w.heap.size ≤ k
theorem cGrowE (n : Nat) (w : World) (hn : n ≤ 3600000000000) : Calls Tryz.prog 131 #[.slice none 0 0, .int .i64 (n : Int)] w (NewE w) := by
 rcases Nat.eq_zero_or_pos n with h0 | h0
 ·subst h0
  go_enter Tryz.func131, Tryz.ntmps131
  go_wp2_with fail;go_ret;exact ⟨none, 0, rfl, .inl ⟨rfl, rfl⟩, Kp.refl _ _, by simp [blk]⟩
 ·obtain ⟨i0, hi, hz0, hz1, hz2⟩ := infoVal
  have hrun := Lib.run_append_nil_zeros (P := Tryz.prog) w 61 3 61 88 i0 _ .i64 .i64 Tryz.underlying61 Tryz.underlying3 hi hz0 n h0 (by omega) (by omega) (by rw [hz2]; omega)
  have hge := grownCap_ge w n 0 88
  have hcm := grownCap_le_maxLen w n 0 88 (by unfold maxLen; omega)
  obtain ⟨C, hC⟩ : ∃ C, grownCap w n 0 88 = C := ⟨_, rfl⟩
  rw [hC] at hrun hge hcm;obtain ⟨W, hW⟩ : ∃ W, w.drew.alloc (.cells (Builtin.zeroCells (Value.agg #[.int .i64 0, .bool false, .int .i64 0, .string ⟨#[]⟩]).cells n ++ Builtin.zeroCells (Value.agg #[.int .i64 0, .bool false, .int .i64 0, .string ⟨#[]⟩]).cells (C - n)) 88) = W := ⟨_, rfl⟩
  rw [hW] at hrun
  have hrow : VE.Row W (.slice (some ⟨w.heap.size, 0, none⟩) 0 C) [] := by
   refine .inr ⟨w.heap.size, 0, C, rfl, Nat.zero_le _, hcm, by rw [← hW]; simp, fun j u hu => by simp [El.cs] at hu, fun j hj => ?_⟩
   rw [← hW];refine ⟨?_, World.frozen?_alloc_new w.drew _ _ (0 + j)⟩;have e1 := World.cell?_alloc_new w.drew (Builtin.zeroCells (Value.agg #[.int .i64 0, .bool false, .int .i64 0, .string ⟨#[]⟩]).cells n ++ Builtin.zeroCells (Value.agg #[.int .i64 0, .bool false, .int .i64 0, .string ⟨#[]⟩]).cells (C - n)) 88 (0 + j)
   refine (congrArg Option.isSome e1).trans ?_
   rw [Nat.zero_add, Array.getElem?_eq_getElem (by
    rw [Array.size_append, size_zeroCells, size_zeroCells];have e4 : (Value.agg #[.int .i64 0, .bool false, .int .i64 0, .string ⟨#[]⟩]).cells.size = 4 := rfl
    have e5 : VE.n = 4 := rfl
    rw [e4];rw [e5] at hj;omega)]
   rfl
  have kW : Kp [] w W := by rw [← hW]; exact (Kp.refl _ w).drew.alloc _
  have hCb : C ≤ 9223372036854775807 := by unfold maxLen at hcm; omega
  have d1 : decide ((n : Int) < 0) = false := by simp
  have d2 : (0 : Int) < (n : Int) := by omega
  have d3 : decide ((0 : Int) < (n : Int)) = true := by simp; omega
  have HW := hid (And.intro hrow kW)
  obtain ⟨q, hq⟩ : ∃ q, w.heap.size = q := ⟨_, rfl⟩
  rw [hq] at hrun HW;have hq' := hid hq
  clear hrow kW hW hcm hge hC hi hz0 hz1 hz2 h0 hq;go_enter Tryz.func131, Tryz.ntmps131
  go_wp2_with (first | (refine wpAppRunY rfl _ _ 61 3 rfl _ _ _ rfl rfl hrun ?_) | fail)
  go_ret;exact ⟨_, _, rfl, HW.out.1, HW.out.2, fun k hk => by simp [blk] at hk; rw [hk, hq'.out]; exact Nat.le_refl _⟩
def sumL (L : List Vs) : Nat := (L.map fun x => x.l.length).sum
theorem sumL_take {L : List Vs} {j : Nat} (h : j < L.length) : sumL (L.take (j + 1)) = sumL (L.take j) + L[j].l.length := by
 unfold sumL
 rw [List.take_succ_eq_append_getElem h, List.map_append, List.sum_append_nat];simp
theorem sumL_le (L : List Vs) (j : Nat) : sumL (L.take j) ≤ sumL L := by
 have e : sumL L = sumL (L.take j) + sumL (L.drop j) := by
  unfold sumL
  conv => lhs; rw [← List.take_append_drop j L, List.map_append, List.sum_append_nat]
 omega
def catL (L : List Vs) : List Val := L.flatMap (·.l)
theorem catL_take {L : List Vs} {j : Nat} (h : j < L.length) : catL (L.take (j + 1)) = catL (L.take j) ++ L[j].l := by
 unfold catL
 rw [List.take_succ_eq_append_getElem h, List.flatMap_append];simp
theorem catL_len (L : List Vs) : (catL L).length = sumL L := by unfold catL sumL; rw [List.length_flatMap]
theorem appVY {W : World} {a : Option Addr} {c : Nat} {l : List Val} (h : VE.Row W (.slice a l.length c) l) (a2 : Option Addr) (c2 : Nat) (ys : List Val) (hs : Vals W a2 ys) (hl : l.length + ys.length ≤ 3600000000000) :
  ∃ a' c' W', (Builtin.append_ #[61, 61] 61 #[.slice a l.length c, .slice a2 ys.length c2]).run Tryz.prog W = .ok (.slice a' (l ++ ys).length c') W' ∧ VE.Row W' (.slice a' (l ++ ys).length c') (l ++ ys) ∧ Kp (blk a) W W' ∧ ∀ k ∈ blk a', k ∈ blk a ∨ W.heap.size ≤ k := by
 obtain ⟨i0, hi, hz0, hz1, hz2⟩ := infoVal;have hsrc := (seeV.2 hs).src (P := Tryz.prog) Tryz.underlying61 c2
 obtain ⟨v6, X4, hrun2, hrow6, kk6, hn6⟩ := run_appendG (E := VE) (P := Tryz.prog) _ 61 61 61 88 i0 _ 40 Tryz.underlying61 hi hz0 hz1 hz2 rfl (.slice a l.length c) l h _ ys hsrc (by omega) (by omega)
 obtain ⟨a6, c6, rfl, _⟩ := hrow6.see;rw [ownV] at kk6;simp only [ownV] at hn6;exact ⟨a6, c6, X4, hrun2, hrow6, kk6, hn6⟩
theorem cConcat (sa : Option Addr) (sc : Nat) (L : List Vs) (w : World) (hs : VsE.See w sa L) (hx : ∀ x ∈ L, x.lies w) (hl : L.length ≤ 4000000000000) (hsum : sumL L ≤ 3600000000000) :
  Calls Tryz.prog 84 #[.slice sa L.length sc] w (NewR (catL L) w) := by
 have HS := hid hs
 have HX := hid hx
 have hrow : Hid (∀ (j : Nat) (hj : j < L.length), ∃ g o, sa = some ⟨g, o, none⟩ ∧ w.cell? ⟨g, o + j, none⟩ = some (.slice L[j].a L[j].l.length L[j].c)) := fun j hj => vsAt HS.out (by simp [hj])
 have hsl := hid (fun j => sumL_le L j)
 clear hs hx;go_enter Tryz.func84, Tryz.ntmps84
 go_wp2_with fail;go_loopw [3, 11] (fun v3 i wr => ∃ (j N : Nat), j ≤ L.length ∧ i = .int .i64 (j : Int) ∧ v3 = .int .i64 (N : Int) ∧ Hid (N = sumL (L.take j)) ∧ w = wr) (fun _ i _ => L.length - (intOf i).toNat)
 case atStart => exact ⟨0, 0, Nat.zero_le _, rfl, rfl, rfl, rfl⟩
 case round =>
  obtain ⟨j, N, hj, rfl, rfl, hN, rfl⟩ := hrel
  by_cases hlt : j < L.length
  ·obtain ⟨g, o, ea, c0⟩ := hrow.out j hlt
   have hst := hid (sumL_take hlt)
   have hs1 := hsl.out (j + 1)
   rw [hst.out, ← hN.out] at hs1;obtain ⟨x, hx⟩ : ∃ x, Hid (L[j] = x) := ⟨L[j], rfl⟩
   rw [hx.out] at c0 hs1 hst;obtain ⟨xa, xc, xl⟩ := x;dsimp only at c0 hs1 hst;subst ea;obtain ⟨M, hM⟩ : ∃ M : Nat, N + xl.length = M := ⟨_, rfl⟩
   have eM : (N : Int) + (xl.length : Int) = (M : Int) := by omega
   have i1 : (0 : Int) ≤ (j : Int) := by omega
   have i2 : (j : Int) < (L.length : Int) := by omega
   have i3 : (j : Int) + 1 ≤ 9223372036854775807 := by omega
   have i4 : (-9223372036854775808 : Int) ≤ (N : Int) + (xl.length : Int) := by omega
   have i5 : (N : Int) + (xl.length : Int) ≤ 9223372036854775807 := by omega
   have i6 : decide ((M : Int) < 0) = false := by simp
   have hM' : Hid (M = sumL (L.take (j + 1))) := by show _ = _; rw [hst.out, ← hN.out, hM]
   clear hM hst;go_wp2_with fail;go_roundw
   case rel => exact ⟨j + 1, M, by omega, by go_num, by simp [eM, IntKind.wrap_i64], hM', by simp⟩
   case measure => simp [intOf]; omega
  ·obtain rfl : j = L.length := by omega
   have dj1 : ¬ (L.length : Int) < (L.length : Int) := by omega
   have dj2 : decide ((L.length : Int) < (L.length : Int)) = false := by simp
   have hNs : N ≤ 3600000000000 := by rw [hN.out, List.take_length]; exact hsum
   have cG := hid (cGrowE N w hNs)
   go_wp2_with fail;refine cG.out.mono ?_;rintro e w2 ⟨ga, gc, rfl, hgr, k2, hgb⟩;have HG := hid (And.intro hgr (And.intro k2 hgb))
   clear cG hgr k2 hgb;go_wp2_with fail;go_loopw [6, 27] (fun v6 i wn => ∃ (j : Nat) (a : Option Addr) (c : Nat) (l : List Val), j ≤ L.length ∧ i = .int .i64 (j : Int) ∧ v6 = .slice a l.length c ∧ Hid (l = catL (L.take j)) ∧ Hid (VE.Row wn (.slice a l.length c) l ∧ Kp [] w wn ∧ ∀ k ∈ blk a, w.heap.size ≤ k)) (fun _ i _ => L.length - (intOf i).toNat)
   case atStart => exact ⟨0, ga, gc, [], Nat.zero_le _, rfl, rfl, rfl, HG⟩
   case round =>
    obtain ⟨j, a, c, l, hj, rfl, rfl, hl', H⟩ := hrel;clear HG
    by_cases hlt : j < L.length
    ·obtain ⟨g, o, ea, c0⟩ := hrow.out j hlt
     have cg := kpAt H.out.2.1 c0
     have hlj := HX.out L[j] (List.getElem_mem hlt)
     have hct := hid (catL_take hlt)
     have hs1 := hsl.out (j + 1)
     rw [sumL_take hlt, ← catL_len, ← hl'.out] at hs1;obtain ⟨a4, c4, W4, hrun, hr4, k4, hn4⟩ := appVY H.out.1 L[j].a L[j].c L[j].l (hlj.see.kept H.out.2.1) (by omega)
     obtain ⟨l4, hl4⟩ : ∃ l4, Hid (l ++ L[j].l = l4) := ⟨l ++ L[j].l, rfl⟩
     rw [hl4.out] at hrun hr4;have hl5 : Hid (l4 = catL (L.take (j + 1))) := by show _ = _; rw [hct.out, ← hl'.out, hl4.out]
     obtain ⟨x, hx⟩ : ∃ x, Hid (L[j] = x) := ⟨L[j], rfl⟩
     rw [hx.out] at cg hrun;obtain ⟨xa, xc, xl⟩ := x;dsimp only at cg hrun
     have HF : Hid (VE.Row W4 (.slice a4 l4.length c4) l4 ∧ Kp [] w W4 ∧ ∀ k ∈ blk a4, w.heap.size ≤ k) := ⟨hr4, H.out.2.1.trans k4 (fun x hx => .inr (H.out.2.2 x hx)), fun k hk => by
      rcases hn4 k hk with e | e
      ·exact H.out.2.2 k e
      ·have := H.out.2.1.size; omega⟩
     have i1 : (0 : Int) ≤ (j : Int) := by omega
     have i2 : (j : Int) < (L.length : Int) := by omega
     have i3 : (j : Int) + 1 ≤ 9223372036854775807 := by omega
     clear c0 hlj hs1 hr4 k4 hn4 hct;subst ea;go_wp2_with (first | (refine wpAppRunY rfl _ _ 61 61 rfl _ _ _ rfl rfl hrun ?_) | fail)
     go_roundw
     case rel => exact ⟨j + 1, a4, c4, l4, by omega, by go_num, rfl, hl5, HF⟩
     case measure => simp [intOf]; omega
    ·obtain rfl : j = L.length := by omega
     have hlc : l = catL L := by rw [hl'.out, List.take_length]
     subst hlc;go_wp2_with fail;go_ret;exact ⟨a, c, rfl, H.out.1, H.out.2.1, H.out.2.2⟩
end Go.Proofs.YtlgfekjoknbfdaaGreatDoor
end

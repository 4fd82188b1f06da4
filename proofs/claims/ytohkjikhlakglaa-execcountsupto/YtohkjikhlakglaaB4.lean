/- Small calls: a value at a place, clones, copies of rows, slices.Values. Which values are right, which fit a column: the program's and the reference's. The order of values is total: plain mathematics. The order of rows is total: plain mathematics. Whether two rows are the same, by the reference. Rows copied; rows compared. Sorting one thing, or none. -/
import Derived.Test.YtohkjikhlakglaaB3
import Derived.Laws.Cover3
import Derived.Test.YtohkjikhlakglaaB1
import Derived.Deep.RegionHeld3
import Derived.Deep.RegionWith
import Derived.BigGuard
import Derived.Test.YtohkjikhlakglaaB2
import Derived.BigQuiet
section
namespace Go.Proofs.Ytohkjikhlakglaa
open Go.RowKit Go.Hay
attribute [local go_sem] Oper.semAt_some
set_option linter.unusedVariables false
set_option linter.unusedSimpArgs false

/-- A value laid in a box of its own. -/
theorem boxV4Y (w : World) (v : Val) : ∃ q W1 W2, w.heap.size = q ∧ w.alloc (.cells #[.int .i64 0, .bool false, .int .i64 0, .string ⟨#[]⟩] 47) = W1 ∧ Bn W1 q [.int .i64 0, .bool false, .int .i64 0, .string ⟨#[]⟩] ∧
    (((W1.setCell ⟨q, 0, none⟩ (.int .i64 v.k)).setCell ⟨q, 1, none⟩ (.bool v.b)).setCell ⟨q, 2, none⟩ (.int .i64 v.n)).setCell ⟨q, 3, none⟩ (.string v.t) = W2 ∧ Bn W2 q [.int .i64 v.k, .bool v.b, .int .i64 v.n, .string v.t] ∧ Kp [] w W2 ∧ q < W2.heap.size := by
  have b0 := Bn.new w [.int .i64 0, .bool false, .int .i64 0, .string ⟨#[]⟩] 47
  have k0 : Kp [] w (w.alloc (.cells #[.int .i64 0, .bool false, .int .i64 0, .string ⟨#[]⟩] 47)) := (Kp.refl _ _).alloc _
  have h : w.heap.size ∈ ([] : List Nat) ∨ w.heap.size ≤ w.heap.size := .inr (Nat.le_refl _)
  have b1 := (((b0.set 0 (by simp) (.int .i64 v.k)).set 1 (by simp) (.bool v.b)).set 2 (by simp) (.int .i64 v.n)).set 3 (by simp) (.string v.t)
  exact ⟨_, _, _, rfl, rfl, b0, rfl, b1, (((k0.setCell h _).setCell h _).setCell h _).setCell h _, b1.lt (by simp)⟩
set_option maxHeartbeats 4000000 in
set_option maxRecDepth 100000 in
theorem cNullE (w : World) : Calls Try.prog 59 #[] w fun e w' => e = .returned (.agg #[.int .i64 0, .bool false, .int .i64 0, .string ⟨#[]⟩]) ∧ Kp [] w w' := by
  obtain ⟨q, W1, W2, eq, e1, b1, e2, b2, k2, z2⟩ := boxV4Y w nulV
  have m0 := b1.get 0 _ rfl; have m1 := b1.get 1 _ rfl; have m2 := b1.get 2 _ rfl; have m3 := b1.get 3 _ rfl
  have f0 := b1.free 0; have f1 := b1.free 1; have f2 := b1.free 2; have f3 := b1.free 3
  have v0 := b2.get 0 _ rfl; have v1 := b2.get 1 _ rfl; have v2 := b2.get 2 _ rfl; have v3 := b2.get 3 _ rfl
  simp only [nulV] at e2 v0 v1 v2 v3
  clear b1 b2
  go_enter Try.func59, Try.ntmps59
  go_wp2_with fail
  exact bodyPost_ret (v := .agg #[.int .i64 0, .bool false, .int .i64 0, .string ⟨#[]⟩]) (by simp [results, Try.results59, go_sem, v0, v1, v2, v3]) rfl ⟨rfl, k2⟩
set_option maxHeartbeats 8000000 in
set_option maxRecDepth 100000 in
theorem cAtE (a : Option Addr) (c : Nat) (l : List Val) (n : Int) (w : World) (ha : Vals w a l) (hl : l.length ≤ 9223372036854775807) : Calls Try.prog 45 #[.slice a l.length c, .int .i64 n] w fun e w' => e = .returned (.agg #[.int .i64 (vAt l n).k, .bool (vAt l n).b, .int .i64 (vAt l n).n, .string (vAt l n).t]) ∧ Kp [] w w' := by
  obtain ⟨q, W1, eq, e1, b1, k1⟩ : ∃ q W1, w.heap.size = q ∧ w.alloc (.cells #[.int .i64 0, .bool false, .int .i64 0, .string ⟨#[]⟩] 47) = W1 ∧ Bn W1 q [.int .i64 0, .bool false, .int .i64 0, .string ⟨#[]⟩] ∧ Kp [] w W1 := ⟨_, _, rfl, rfl, Bn.new w _ _, (Kp.refl _ _).alloc _⟩
  have hset : ∀ (W : World) (v : Val), Bn W q [.int .i64 0, .bool false, .int .i64 0, .string ⟨#[]⟩] → Kp [] w W → ∃ W2, (((W.setCell ⟨q, 0, none⟩ (.int .i64 v.k)).setCell ⟨q, 1, none⟩ (.bool v.b)).setCell ⟨q, 2, none⟩ (.int .i64 v.n)).setCell ⟨q, 3, none⟩ (.string v.t) = W2 ∧ Bn W2 q [.int .i64 v.k, .bool v.b, .int .i64 v.n, .string v.t] ∧ Kp [] w W2 := fun W v b k =>
    have h : q ∈ ([] : List Nat) ∨ w.heap.size ≤ q := .inr (by omega)
    ⟨_, rfl, (((b.set 0 (by simp) (.int .i64 v.k)).set 1 (by simp) (.bool v.b)).set 2 (by simp) (.int .i64 v.n)).set 3 (by simp) (.string v.t), (((k.setCell h _).setCell h _).setCell h _).setCell h _⟩
  by_cases hin : 0 ≤ n ∧ n < (l.length : Int)
  · obtain ⟨i, rfl⟩ := Int.eq_ofNat_of_zero_le hin.1
    have hi : i < l.length := by omega
    rw [vAt_in l i hi]
    obtain ⟨g, o, rfl, c0, c1, c2, c3⟩ := (ha.kept k1).at i hi
    obtain ⟨v, hv⟩ : ∃ v, l[i] = v := ⟨_, rfl⟩
    rw [hv] at c0 c1 c2 c3 ⊢
    obtain ⟨W2, e2, b2, k2⟩ := hset W1 v b1 k1
    have m0 := b1.get 0 _ rfl; have m1 := b1.get 1 _ rfl; have m2 := b1.get 2 _ rfl; have m3 := b1.get 3 _ rfl
    have f0 := b1.free 0; have f1 := b1.free 1; have f2 := b1.free 2; have f3 := b1.free 3
    have v0 := b2.get 0 _ rfl; have v1 := b2.get 1 _ rfl; have v2 := b2.get 2 _ rfl; have v3 := b2.get 3 _ rfl
    obtain ⟨vk, vb, vn, vt⟩ := v
    dsimp only at *
    have d1 : decide ((i : Int) < 0) = false := by simp
    have d2 : decide ((l.length : Int) ≤ (i : Int)) = false := by simp; omega
    have d2n : decide (l.length ≤ i) = false := by simp; omega
    have d3 : (0 : Int) ≤ (i : Int) := by omega
    have d4 : (i : Int) < (l.length : Int) := by omega
    clear b1 b2 hset ha hv hin k1
    go_enter Try.func45, Try.ntmps45
    go_wp2_with fail
    exact bodyPost_ret (v := .agg #[.int .i64 vk, .bool vb, .int .i64 vn, .string vt]) (by simp [results, Try.results45, go_sem, v0, v1, v2, v3]) rfl ⟨rfl, k2⟩
  · rw [vAt_out l n hin]
    have cN := hid (cNullE W1)
    have HB := hid (And.intro b1 (And.intro k1 hset))
    have go : ∀ e w', (e = Ending.returned (.agg #[.int .i64 0, .bool false, .int .i64 0, .string ⟨#[]⟩]) ∧ Kp [] W1 w') → True := fun _ _ _ => trivial
    clear ha go
    by_cases h0 : n < 0
    · have d1 : decide (n < 0) = true := by simpa using h0
      clear b1 k1 hset h0 hin
      go_enter Try.func45, Try.ntmps45
      go_wp2_with fail
      refine cN.out.mono ?_
      rintro e W3 ⟨rfl, k3⟩
      have b3 := HB.out.1.kept k3
      obtain ⟨W2, e2, b2, k2⟩ := HB.out.2.2 W3 nulV b3 (HB.out.2.1.trans k3 (by simp))
      have m0 := b3.get 0 _ rfl; have m1 := b3.get 1 _ rfl; have m2 := b3.get 2 _ rfl; have m3 := b3.get 3 _ rfl
      have f0 := b3.free 0; have f1 := b3.free 1; have f2 := b3.free 2; have f3 := b3.free 3
      have v0 := b2.get 0 _ rfl; have v1 := b2.get 1 _ rfl; have v2 := b2.get 2 _ rfl; have v3 := b2.get 3 _ rfl
      simp only [nulV] at e2 v0 v1 v2 v3
      clear b3 b2 HB cN k3
      go_wp2_with fail
      exact bodyPost_ret (v := .agg #[.int .i64 0, .bool false, .int .i64 0, .string ⟨#[]⟩]) (by simp [results, Try.results45, go_sem, v0, v1, v2, v3]) rfl ⟨rfl, k2⟩
    · have d1 : decide (n < 0) = false := by simpa using h0
      have d2 : decide ((l.length : Int) ≤ n) = true := by simp; omega
      clear b1 k1 hset h0 hin
      go_enter Try.func45, Try.ntmps45
      go_wp2_with fail
      refine cN.out.mono ?_
      rintro e W3 ⟨rfl, k3⟩
      have b3 := HB.out.1.kept k3
      obtain ⟨W2, e2, b2, k2⟩ := HB.out.2.2 W3 nulV b3 (HB.out.2.1.trans k3 (by simp))
      have m0 := b3.get 0 _ rfl; have m1 := b3.get 1 _ rfl; have m2 := b3.get 2 _ rfl; have m3 := b3.get 3 _ rfl
      have f0 := b3.free 0; have f1 := b3.free 1; have f2 := b3.free 2; have f3 := b3.free 3
      have v0 := b2.get 0 _ rfl; have v1 := b2.get 1 _ rfl; have v2 := b2.get 2 _ rfl; have v3 := b2.get 3 _ rfl
      simp only [nulV] at e2 v0 v1 v2 v3
      clear b3 b2 HB cN k3
      go_wp2_with fail
      exact bodyPost_ret (v := .agg #[.int .i64 0, .bool false, .int .i64 0, .string ⟨#[]⟩]) (by simp [results, Try.results45, go_sem, v0, v1, v2, v3]) rfl ⟨rfl, k2⟩
theorem eqNilY (a : Option Addr) (n c : Nat) (w : World) : (binOp .eql 24 (.slice a n c) (.slice none 0 0)).run Try.prog w = .ok (.bool a.isNone) w := by
  simp only [binOp]
  simp [run_equal_slice_nil w 24 47 a n c Try.underlying24]
theorem rowNoneY {α : Type} (E : El α) (w : World) {q : Nat} (hq : w.heap.size = q) (C : Array Value) (t : TypeId) : E.Row (w.alloc (.cells C t)) (.slice (some ⟨q, 0, none⟩) 0 0) [] := by
  subst hq
  exact .inr ⟨_, 0, 0, rfl, Nat.le_refl _, Nat.zero_le _, by simp, by intro j u hu; simp [El.cs] at hu, by intro j hj; omega⟩
set_option maxHeartbeats 4000000 in
set_option maxRecDepth 100000 in
theorem cCloneR (a : Option Addr) (c : Nat) (l : List Val) (w : World) (ha : Vals w a l) (hn : a = none → c = 0) (hb : l.length ≤ 3600000000000) :
    Calls Try.prog 24 #[.slice a l.length c] w (NewR l w) := by
  have hs := seeV.2 ha
  clear ha
  cases a with
  | none =>
    have hl : l = [] := by rcases hs with h | ⟨g, o, h, _⟩; exact h; cases h
    subst hl
    rw [hn rfl]
    have e1 := eqNilY none 0 0
    go_enter Try.func24, Try.ntmps24
    go_wp2_with fail
    go_ret
    exact ⟨none, 0, rfl, .inl ⟨rfl, rfl⟩, Kp.refl _ _, by simp [blk]⟩
  | some ad =>
    have e0 := eqNilY (some ad) l.length c
    go_enter Try.func24, Try.ntmps24
    have k1 : Kp [] w (w.alloc (.cells #[] 47)) := (Kp.refl _ _).alloc _
    have hr := rowNoneY VE w rfl #[] 47
    have hsr := (hs.keptNew k1).src (P := Try.prog) Try.underlying24 c
    obtain ⟨i0, hi, hz0, hz1, hz2⟩ := infoVal
    go_wp2_with (first | (refine wpAppG (E := VE) rfl _ _ 24 24 47 rfl i0 _ 40 Try.underlying24 hi hz0 hz1 hz2 rfl _ [] rfl hr _ l rfl hsr (by simp; omega) (by simp; omega) ?_; intro ys a' c' w' hy hrow hg hn) | fail)
    go_ret
    have e : ys = l := by rw [hy.out]; rfl
    subst e
    refine ⟨a', c', rfl, hrow, k1.trans hg (fun k hk => .inr ?_), fun k hk => ?_⟩
    · simp [own, Value.ownBlock, Act.eval] at hk; omega
    · rcases hn k hk with h1 | h1
      · simp [own, Value.ownBlock, Act.eval] at h1; omega
      · exact Nat.le_trans k1.size h1
theorem cValuesE (a : Option Addr) (n c : Nat) (w : World) : Calls Try.prog 14 #[.slice a n c] w fun e w' => e = .returned (.func (.func 27) #[] #[.pointer (some ⟨w.heap.size, 0, none⟩)]) ∧ w' = w.alloc (.cells #[.slice a n c] 22) := by
  go_enter Try.func14, Try.ntmps14
  go_wp2_with fail
  go_returns
  exact ⟨rfl, rfl⟩
end Go.Proofs.Ytohkjikhlakglaa
end

section
namespace Go.Proofs.Ytohkjikhlakglaa
open Go.RowKit Go.Hay
set_option linter.unusedVariables false
set_option linter.unusedSimpArgs false

/-- Are two values the same? -/
def Val.eqv (x y : Val) : Bool := x.k == y.k && (x.b == y.b && (x.n == y.n && x.t.toList == y.t.toList))
/-- Which values are right. -/
def Val.right (x : Val) : Bool :=
  if x.k = 0 then x.b == false && (x.n == 0 && x.t.toList == [])
  else if x.k = 1 then x.n == 0 && x.t.toList == []
  else if x.k = 2 then x.b == false && x.t.toList == []
  else if x.k = 3 then (x.b == false && x.n == 0) && decide ((x.t.size : Int) ≤ 64)
  else false
theorem emptyL : (⟨#[]⟩ : ByteArray).toList = [] := by rw [ByteArray.toList]; unfold ByteArray.toList.loop; rfl
theorem eqV (x y : Val) : ∃ X : Bool, Hid (X = x.eqv y) ∧ ∀ w : World, (binOp .eql 47 (.agg #[.int .i64 x.k, .bool x.b, .int .i64 x.n, .string x.t]) (.agg #[.int .i64 y.k, .bool y.b, .int .i64 y.n, .string y.t])).run Try.prog w = .ok (.bool X) w := by
  refine ⟨_, rfl, fun w => ?_⟩
  rw [run_eql_struct, run_equalIn_agg (ht := by kernel_rfl) (hp := by kernel_rfl)]
  obtain ⟨k1, b1, n1, t1⟩ := x
  obtain ⟨k2, b2, n2, t2⟩ := y
  simp only [Val.eqv]
  by_cases h1 : k1 = k2
  · by_cases h2 : b1 = b2
    · by_cases h3 : n1 = n2
      · by_cases h4 : t1.toList = t2.toList
        · simp [go_sem, h1, h2, h3, h4]
        · simp [go_sem, h1, h2, h3, h4]
      · simp [go_sem, h1, h2, h3]
    · simp [go_sem, h1, h2]
  · simp [go_sem, h1]

end Go.Proofs.Ytohkjikhlakglaa
end

section
namespace Go.Proofs.Ytohkjikhlakglaa
open Go.Hay
set_option linter.unusedVariables false
set_option linter.unusedSimpArgs false

theorem less_ntrans : ∀ a b c : List UInt8, Op.bytesLess b a = false → Op.bytesLess c b = false → Op.bytesLess c a = false
  | [], _, c, _, _ => by cases c <;> rfl
  | x :: a, [], c, h, _ => by simp [Op.bytesLess] at h
  | x :: a, y :: b, [], _, h => by simp [Op.bytesLess] at h
  | x :: a, y :: b, z :: c, h1, h2 => by
    have ih := less_ntrans a b c
    simp only [Op.bytesLess, Bool.or_eq_false_iff, decide_eq_false_iff_not, Bool.and_eq_false_iff, beq_eq_false_iff_ne, ne_eq] at h1 h2 ⊢
    rw [UInt8.lt_iff_toNat_lt, ← UInt8.toNat_inj] at h1 h2 ⊢
    refine ⟨by omega, ?_⟩
    by_cases hz : z.toNat = x.toNat
    · have h3 : Op.bytesLess b a = false := h1.2.resolve_left (by omega)
      have h4 : Op.bytesLess c b = false := h2.2.resolve_left (by omega)
      exact .inr (ih h3 h4)
    · exact .inl hz
theorem bl_irr (s : ByteArray) : bl s s = false := less_irr _
theorem bl_ntrans {a b c : ByteArray} (h : bl b a = false) (k : bl c b = false) : bl c a = false := less_ntrans _ _ _ h k
theorem bl_asymm {a b : ByteArray} (h : bl a b = true) : bl b a = false := by
  unfold bl at *
  rw [← less_total a.toList b.toList, h]
  rfl
theorem bl_same {a b : ByteArray} (h : bl a b = false) (k : bl b a = false) : a.toList = b.toList := by
  unfold bl at *
  rw [← less_total a.toList b.toList, h] at k
  simpa using k

theorem Val.lt_irr (a : Val) : a.lt a = false := by
  unfold Val.lt
  rw [if_neg (by simp)]
  split
  · simp
  split
  · simp
  split
  · exact bl_irr _
  · rfl
theorem Val.lt_asymm (a b : Val) (h : a.lt b = true) : b.lt a = false := by
  unfold Val.lt at *
  by_cases hk : a.k = b.k
  · rw [if_neg (by simpa using hk)] at h
    rw [if_neg (by simpa using hk.symm), ← hk]
    by_cases h1 : a.k = 1
    · rw [if_pos h1] at h ⊢; cases ha : a.b <;> cases hb : b.b <;> simp_all
    rw [if_neg h1] at h ⊢
    by_cases h2 : a.k = 2
    · rw [if_pos h2] at h ⊢; simp at h ⊢; omega
    rw [if_neg h2] at h ⊢
    by_cases h3 : a.k = 3
    · rw [if_pos h3] at h ⊢; exact bl_asymm h
    rw [if_neg h3] at h ⊢
  · rw [if_pos hk] at h
    rw [if_pos (fun e => hk e.symm)]
    simp at h ⊢; omega
theorem Val.lt_ntrans (a b c : Val) (h : b.lt a = false) (k : c.lt b = false) : c.lt a = false := by
  unfold Val.lt at *
  by_cases hba : b.k = a.k
  · rw [if_neg (by simpa using hba)] at h
    by_cases hcb : c.k = b.k
    · rw [if_neg (by simpa using hcb)] at k
      rw [if_neg (by simpa using hcb.trans hba)]
      by_cases h1 : a.k = 1
      · rw [if_pos (by omega)] at h k ⊢; cases ha : a.b <;> cases hb : b.b <;> cases hc : c.b <;> simp_all
      rw [if_neg (by omega)] at h k ⊢
      by_cases h2 : a.k = 2
      · rw [if_pos (by omega)] at h k ⊢; simp at h k ⊢; omega
      rw [if_neg (by omega)] at h k ⊢
      by_cases h3 : a.k = 3
      · rw [if_pos (by omega)] at h k ⊢; exact bl_ntrans h k
      rw [if_neg (by omega)]
    · rw [if_pos (by simpa using hcb)] at k
      rw [if_pos (by rw [← hba]; simpa using hcb)]
      simp at k ⊢; omega
  · rw [if_pos (by simpa using hba)] at h
    by_cases hcb : c.k = b.k
    · rw [if_pos (by rw [hcb]; simpa using hba)]
      simp at h ⊢; omega
    · rw [if_pos (by simpa using hcb)] at k
      simp at h k
      rw [if_pos (by omega)]
      simp; omega
theorem cmp_neg (a b : Val) : cmpV b a = -cmpV a b := by
  unfold cmpV
  cases h1 : a.lt b
  · cases h2 : b.lt a <;> simp
  · rw [Val.lt_asymm a b h1]; simp
theorem cmp_self (a : Val) : cmpV a a = 0 := by unfold cmpV; rw [Val.lt_irr]; rfl
theorem cmp_le (a b : Val) : cmpV a b ≤ 0 ↔ b.lt a = false := by
  unfold cmpV
  cases h1 : a.lt b
  · cases h2 : b.lt a <;> simp
  · rw [Val.lt_asymm a b h1]; simp
theorem cmp_trans (a b c : Val) (h : cmpV a b ≤ 0) (k : cmpV b c ≤ 0) : cmpV a c ≤ 0 := (cmp_le a c).2 (Val.lt_ntrans a b c ((cmp_le a b).1 h) ((cmp_le b c).1 k))
theorem cmp_zero (a b : Val) : cmpV a b = 0 ↔ a.lt b = false ∧ b.lt a = false := by
  unfold cmpV
  cases h1 : a.lt b
  · cases h2 : b.lt a <;> simp
  · simp
theorem cmp_range (a b : Val) : cmpV a b = -1 ∨ cmpV a b = 0 ∨ cmpV a b = 1 := by
  unfold cmpV
  split
  · exact .inl rfl
  split
  · exact .inr (.inr rfl)
  · exact .inr (.inl rfl)
theorem eqv_self (a : Val) : a.eqv a = true := by simp [Val.eqv]
/-- What is alike, of right values, is the same. -/
theorem cmp_eqv (a b : Val) (ha : a.right = true) (hb : b.right = true) : (cmpV a b == 0) = a.eqv b := by
  by_cases he : a.eqv b = true
  · rw [he]
    simp [Val.eqv] at he
    obtain ⟨h1, h2, h3, h4⟩ := he
    have : cmpV a b = 0 := by
      rw [cmp_zero]
      unfold Val.lt
      simp only [h1, h2, h3]
      constructor
      · rw [if_neg (by simp)]
        split; · simp
        split; · simp
        split; · unfold bl; rw [h4]; exact less_irr _
        rfl
      · rw [if_neg (by simp)]
        split; · simp
        split; · simp
        split; · unfold bl; rw [h4]; exact less_irr _
        rfl
    rw [this]; rfl
  · have he' : a.eqv b = false := by simpa using he
    rw [he']
    rw [beq_eq_false_iff_ne]
    intro hz
    rw [cmp_zero] at hz
    obtain ⟨z1, z2⟩ := hz
    apply he
    unfold Val.lt at z1 z2
    by_cases hk : a.k = b.k
    · rw [if_neg (by simpa using hk)] at z1
      rw [if_neg (by simpa using hk.symm)] at z2
      unfold Val.right at ha hb
      rw [← hk] at hb z2
      by_cases h0 : a.k = 0
      · rw [if_pos h0] at ha hb
        simp at ha hb
        simp [Val.eqv, hk.symm, h0, ha, hb]
      rw [if_neg h0] at ha hb
      by_cases h1 : a.k = 1
      · rw [if_pos h1] at ha hb z1 z2
        simp at ha hb
        have : a.b = b.b := by cases hA : a.b <;> cases hB : b.b <;> simp_all
        simp [Val.eqv, hk, ha, hb, this]
      rw [if_neg h1] at ha hb z1 z2
      by_cases h2 : a.k = 2
      · rw [if_pos h2] at ha hb z1 z2
        simp at ha hb z1 z2
        have : a.n = b.n := by omega
        simp [Val.eqv, hk, ha, hb, this]
      rw [if_neg h2] at ha hb z1 z2
      by_cases h3 : a.k = 3
      · rw [if_pos h3] at ha hb z1 z2
        simp at ha hb
        have := bl_same z1 z2
        simp [Val.eqv, hk, ha, hb, this]
      · rw [if_neg h3] at ha; cases ha
    · rw [if_pos hk] at z1
      rw [if_pos (fun e => hk e.symm)] at z2
      simp at z1 z2
      omega

theorem rows_two (a b c : Val) : rowsV [a, b] [a, c] = cmpV b c := by
  simp only [rowsV, cmp_self, if_true]
  by_cases h : cmpV b c = 0
  · rw [if_pos h, h]
  · rw [if_neg h]
theorem rows_one (a c : Val) : rowsV [a] [a, c] = -1 := by
  simp only [rowsV, cmp_self, if_true]
end Go.Proofs.Ytohkjikhlakglaa
end

section
namespace Go.Proofs.Ytohkjikhlakglaa
open Go.Hay
set_option linter.unusedVariables false
set_option linter.unusedSimpArgs false

theorem cmp_strict (a b c : Val) (h : cmpV a b < 0) (k : cmpV b c ≤ 0) : cmpV a c < 0 := by
  have h1 := cmp_trans a b c (by omega) k
  by_cases h2 : cmpV a c = 0
  · have h3 := cmp_neg a c
    have h4 := cmp_trans b c a k (by omega)
    have h5 := cmp_neg a b
    omega
  · omega
theorem cmp_strict' (a b c : Val) (h : cmpV a b ≤ 0) (k : cmpV b c < 0) : cmpV a c < 0 := by
  have h1 := cmp_trans a b c h (by omega)
  by_cases h2 : cmpV a c = 0
  · have h3 := cmp_neg a c
    have h4 := cmp_trans c a b (by omega) h
    have h5 := cmp_neg b c
    omega
  · omega
theorem rows_neg : ∀ a b : List Val, rowsV b a = -rowsV a b
  | [], [] => rfl
  | [], _ :: _ => rfl
  | _ :: _, [] => rfl
  | x :: a, y :: b => by
    have h := cmp_neg x y
    simp only [rowsV]
    by_cases h0 : cmpV x y = 0
    · rw [if_pos h0, if_pos (by omega), rows_neg a b]
    · rw [if_neg h0, if_neg (by omega), h]
theorem rows_self : ∀ a : List Val, rowsV a a = 0
  | [] => rfl
  | x :: a => by simp only [rowsV, cmp_self, if_true, rows_self a]
theorem rows_range : ∀ a b : List Val, rowsV a b = -1 ∨ rowsV a b = 0 ∨ rowsV a b = 1
  | [], [] => .inr (.inl rfl)
  | [], _ :: _ => .inl rfl
  | _ :: _, [] => .inr (.inr rfl)
  | x :: a, y :: b => by
    simp only [rowsV]
    split
    · exact rows_range a b
    · exact cmp_range x y
theorem rows_trans : ∀ a b c : List Val, rowsV a b ≤ 0 → rowsV b c ≤ 0 → rowsV a c ≤ 0
  | [], _, [], _, _ => by simp [rowsV]
  | [], _, _ :: _, _, _ => by simp [rowsV]
  | _ :: _, [], _, h, _ => by simp [rowsV] at h
  | _ :: _, _ :: _, [], _, h => by simp [rowsV] at h
  | x :: a, y :: b, z :: c, h1, h2 => by
    simp only [rowsV] at h1 h2 ⊢
    have ih := rows_trans a b c
    by_cases e1 : cmpV x y = 0
    · rw [if_pos e1] at h1
      by_cases e2 : cmpV y z = 0
      · rw [if_pos e2] at h2
        have h3 := cmp_trans x y z (by omega) (by omega)
        have h4 := cmp_neg x y
        have h5 := cmp_neg y z
        have h6 := cmp_neg x z
        have h7 := cmp_trans z y x (by omega) (by omega)
        rw [if_pos (by omega)]
        exact ih h1 h2
      · rw [if_neg e2] at h2
        have := cmp_strict' x y z (by omega) (by omega)
        rw [if_neg (by omega)]
        omega
    · rw [if_neg e1] at h1
      have : cmpV y z ≤ 0 := by
        by_cases e2 : cmpV y z = 0
        · omega
        · rw [if_neg e2] at h2; omega
      have := cmp_strict x y z (by omega) this
      rw [if_neg (by omega)]
      omega
theorem rows_less : ∀ a : List Val, a ≠ [] → rowsV (a.take (a.length - 1)) a = -1
  | [], h => absurd rfl h
  | [x], _ => rfl
  | x :: y :: a, _ => by
    have ih := rows_less (y :: a) (by simp)
    simp only [List.length_cons, Nat.add_sub_cancel] at ih ⊢
    rw [List.take_succ_cons]
    simp only [rowsV, cmp_self, if_true]
    exact ih

/-- Are two rows the same? -/
def sameV : List Val → List Val → Bool
  | [], [] => true
  | x :: a, y :: b => x.eqv y && sameV a b
  | _, _ => false
theorem same_step (a b : List Val) (j : Nat) (ha : j < a.length) (hb : j < b.length) : sameV (a.drop j) (b.drop j) = (a[j].eqv b[j] && sameV (a.drop (j + 1)) (b.drop (j + 1))) := by
  rw [List.drop_eq_getElem_cons ha, List.drop_eq_getElem_cons hb, sameV]
theorem same_length : ∀ a b : List Val, a.length ≠ b.length → sameV a b = false
  | [], [], h => absurd rfl h
  | [], _ :: _, _ => rfl
  | _ :: _, [], _ => rfl
  | x :: a, y :: b, h => by
    rw [sameV, same_length a b (by simpa using h)]
    simp
theorem rows_same : ∀ a b : List Val, (∀ x ∈ a, x.right = true) → (∀ x ∈ b, x.right = true) → (rowsV a b == 0) = sameV a b
  | [], [], _, _ => rfl
  | [], _ :: _, _, _ => rfl
  | _ :: _, [], _, _ => rfl
  | x :: a, y :: b, ha, hb => by
    have h1 := cmp_eqv x y (ha x (by simp)) (hb y (by simp))
    have ih := rows_same a b (fun z hz => ha z (by simp [hz])) (fun z hz => hb z (by simp [hz]))
    simp only [rowsV, sameV]
    rw [← h1, ← ih]
    by_cases e : cmpV x y = 0
    · rw [if_pos e, e]; rfl
    · rw [if_neg e]
      have e2 : (cmpV x y == 0) = false := by simpa using e
      rw [e2]; rfl
end Go.Proofs.Ytohkjikhlakglaa
end

section
namespace Go.Proofs.Ytohkjikhlakglaa
open Go.RowKit Go.Hay
set_option linter.unusedVariables false
set_option linter.unusedSimpArgs false

theorem neV (x y : Val) : ∃ X : Bool, Hid (X = x.eqv y) ∧ ∀ w : World, (binOp .neq 47 (.agg #[.int .i64 x.k, .bool x.b, .int .i64 x.n, .string x.t]) (.agg #[.int .i64 y.k, .bool y.b, .int .i64 y.n, .string y.t])).run Try.prog w = .ok (.bool (!X)) w := by
  obtain ⟨X, HX, hX⟩ := eqV x y
  refine ⟨X, HX, fun w => ?_⟩
  have h := hX w
  rw [run_eql_struct] at h
  rw [run_neq_struct]
  cases hr : (Op.equalIn 10000 47 (.agg #[.int .i64 x.k, .bool x.b, .int .i64 x.n, .string x.t]) (.agg #[.int .i64 y.k, .bool y.b, .int .i64 y.n, .string y.t])).run Try.prog w with
  | ok b w' => rw [hr] at h; simp [Result.andThen] at h; obtain ⟨rfl, rfl⟩ := h; rfl
  | halt p w' => rw [hr] at h; cases h

set_option maxHeartbeats 2000000 in
set_option maxRecDepth 100000 in
theorem cSame (a b : Option Addr) (ca cb : Nat) (la lb : List Val) (w : World) (ha : Vals w a la) (hb : Vals w b lb) (hla : la.length ≤ 9223372036854775807) (hlb : lb.length ≤ 9223372036854775807) :
    Calls Try.prog 26 #[.slice a la.length ca, .slice b lb.length cb] w fun e w' => e = .returned (.bool (sameV la lb)) ∧ Kp [] w w' := by
  by_cases hE : la.length = lb.length
  · have hE' := hid hE
    go_enter Try.func26, Try.ntmps26
    go_wp2_with fail
    go_loopw [5] (fun i wn => ∃ j : Nat, j ≤ la.length ∧ i = .int .i64 j ∧ Hid (sameV (la.drop j) (lb.drop j) = sameV la lb) ∧ Kp [] w wn) (fun i _ => la.length - (intOf i).toNat)
    case atStart => exact ⟨0, Nat.zero_le _, rfl, rfl, Kp.refl _ _⟩
    case round =>
      obtain ⟨j, hj, rfl, hr, hk⟩ := hrel
      by_cases hja : j < la.length
      · have hjb : j < lb.length := by rw [← hE'.out]; exact hja
        obtain ⟨g, o, rfl, a0, a1, a2, a3⟩ := (ha.kept hk).at j hja
        obtain ⟨g', o', rfl, b0, b1, b2, b3⟩ := (hb.kept hk).at j hjb
        have hst := hid (same_step la lb j hja hjb)
        generalize la[j] = x at *
        generalize lb[j] = y at *
        obtain ⟨X, HX, hX⟩ := neV x y
        have hst2 : Hid (sameV (la.drop j) (lb.drop j) = (X && sameV (la.drop (j + 1)) (lb.drop (j + 1)))) := by show _ = _; rw [hst.out, HX.out]
        clear hst HX
        obtain ⟨xk, xb, xn, xt⟩ := x
        obtain ⟨yk, yb, yn, yt⟩ := y
        dsimp only at a0 a1 a2 a3 b0 b1 b2 b3 hX
        cases X
        · have hn : Hid (sameV la lb = false) := by show _ = _; rw [← hr.out, hst2.out]; rfl
          clear hr hst2
          go_wp2_with fail
          go_quiet ((fail))
          go_wp2_with fail
          go_ret
          exact ⟨by rw [hn.out]; rfl, hk.drewN _⟩
        · have hn : Hid (sameV (la.drop (j + 1)) (lb.drop (j + 1)) = sameV la lb) := by show _ = _; rw [← hr.out, hst2.out]; rfl
          clear hr hst2
          go_wp2_with fail
          go_quiet ((fail))
          go_wp2_with fail
          exact ⟨⟨j + 1, by omega, by go_num, hn, hk.drewN _⟩, by simp [intOf]; omega⟩
      · have hjl : j = la.length := by omega
        subst hjl
        have hn : Hid (sameV la lb = true) := by show _ = _; rw [← hr.out, List.drop_length, hE'.out, List.drop_length]; rfl
        clear hr
        go_wp2_with fail
        go_ret
        exact ⟨by rw [hn.out]; rfl, hk⟩
  · have hn : Hid (sameV la lb = false) := same_length la lb hE
    have hee : ((la.length : Int) == (lb.length : Int)) = false := by simp; omega
    clear hE
    go_enter Try.func26, Try.ntmps26
    go_wp2_with fail
    go_ret
    exact ⟨by rw [hn.out]; rfl, Kp.refl _ _⟩
end Go.Proofs.Ytohkjikhlakglaa
end

section
namespace Go.Proofs.Ytohkjikhlakglaa
open Go.RowKit Go.Hay
attribute [local go_sem] Oper.semAt_some
set_option linter.unusedVariables false
set_option linter.unusedSimpArgs false

set_option maxHeartbeats 8000000 in
set_option maxRecDepth 100000 in
theorem cCopied (a : Option Addr) (c : Nat) (L : List Vs) (w : World) (hs : VsE.See w a L) (hx : ∀ x ∈ L, x.lies w) (hl : L.length ≤ 4000000000000) (hr : ∀ x ∈ L, x.l.length ≤ 3600000000000) :
    Calls Try.prog 15 #[.slice a L.length c] w (LotP (L.map (·.l)) w) := by
  have HS := hid hs
  have HX := hid hx
  have HR := hid hr
  clear hs hx hr
  go_enter Try.func15, Try.ntmps15
  go_wp2_with fail
  go_loopw [3, 7] (fun v3 i wr => ∃ (j : Nat) (ra : Option Addr) (rc : Nat) (M : List Vs), j ≤ L.length ∧ i = .int .i64 (j : Int) ∧ v3 = .slice ra M.length rc ∧ Hid (Lot w.heap.size ra rc M wr) ∧ Hid (M.map (·.l) = (L.take j).map (·.l)) ∧ Hid (Kp [] w wr)) (fun _ i _ => L.length - (intOf i).toNat)
  case atStart => exact ⟨0, none, 0, [], Nat.zero_le _, rfl, rfl, hid (Lot.nil _ _), rfl, hid (Kp.refl _ _)⟩
  case round =>
    obtain ⟨j, ra, rc, M, hj, rfl, rfl, hlot, hM, hk⟩ := hrel
    by_cases hlt : j < L.length
    · have hxj : L[j]? = some L[j] := by simp [hlt]
      obtain ⟨g, o, ea, c0⟩ := vsAt HS.out hxj
      have cg := kpAt hk.out c0
      have hlj := HX.out L[j] (List.getElem_mem hlt)
      have hrj := HR.out L[j] (List.getElem_mem hlt)
      have htk : (L.take (j + 1)).map (·.l) = (L.take j).map (·.l) ++ [L[j].l] := by rw [List.take_succ_eq_append_getElem hlt, List.map_append]; rfl
      have cC := cCopyR L[j].a L[j].c L[j].l wr (hlj.see.kept hk.out) hrj
      have hMl : M.length ≤ 4000000000000 := by have := congrArg List.length hM.out; simp at this; omega
      generalize L[j] = x at *
      obtain ⟨xa, xc, xl⟩ := x
      dsimp only at *
      have i1 : (0 : Int) ≤ (j : Int) := by omega
      have i2 : (j : Int) < (L.length : Int) := by omega
      have i3 : (j : Int) + 1 ≤ 9223372036854775807 := by omega
      have HC := hid cC
      have htk' := hid htk
      subst ea
      clear cC c0 hlj hxj htk
      go_wp2_with fail
      refine HC.out.mono ?_
      rintro e wd ⟨ya, yc, rfl, hyrow, kd, hyb⟩
      have kwd := hk.out.trans kd (by simp)
      have hld : Lot w.heap.size ra rc M wd := hlot.out.ck (CK.ofKp kd) (by simp) (by simp)
      have hyw : ∀ k ∈ blk ya, k < wd.heap.size := fun k hk' => hyrow.lt k (by rw [ownV]; exact hk')
      have hzr := hk.out.size
      have hzd := kwd.size
      obtain ⟨ra4, rc4, W4, hrun, hl4, k4, hn4⟩ := hld.app ⟨ya, yc, xl⟩ (rowLies hyrow) (by omega) (fun k hk' => ⟨by have := hyb k hk'; omega, hyw k hk', fun hm => by have := hyb k hk'; have := hlot.out.lt k hm; omega⟩) hMl
      obtain ⟨M4, hM4⟩ : ∃ M4, Hid (M4 = M ++ [(⟨ya, yc, xl⟩ : Vs)]) := ⟨_, rfl⟩
      rw [← hM4.out] at hrun hl4
      have hfin := hid (And.intro hl4 (kwd.trans k4 (fun x hx => .inr (hlot.out.own x hx))))
      have hmm : Hid (M4.map (·.l) = (L.take (j + 1)).map (·.l)) := by show _ = _; rw [hM4.out, htk'.out, List.map_append, hM.out]; simp
      clear hld hl4 k4 hn4 hyrow hyb HC kd kwd hyw
      go_wp2_with (first | (refine wpAppRunY rfl _ _ 22 22 rfl _ _ _ rfl rfl hrun ?_) | fail)
      go_roundw
      case rel => exact ⟨j + 1, ra4, rc4, M4, by omega, by go_num, rfl, hid hfin.out.1, hmm, hid hfin.out.2⟩
      case measure => simp [intOf]; omega
    · have dj1 : ¬ (j : Int) < (L.length : Int) := by omega
      have dj2 : decide ((j : Int) < (L.length : Int)) = false := by simp; omega
      have e : j = L.length := by omega
      have hMM : M.map (·.l) = L.map (·.l) := by rw [hM.out, e, List.take_length]
      clear e
      go_wp2_with fail
      go_ret
      exact ⟨ra, rc, M, rfl, hlot.out, hMM, hk.out⟩
theorem sameV_selfY : ∀ l : List Val, sameV l l = true
  | [] => rfl
  | x :: l => by simp only [sameV, sameV_selfY l]; unfold Val.eqv; simp
theorem wp_noPanicY {P : Program} {c : Code} {Q : Exit → Act → World → Prop} {a : Act} {w : World} (h : c.wp P (fun e a w => e = .normal ∧ Q e a w) a w) : c.wp P Q a w := wp_mono h (fun _ _ _ h => h.2)
set_option maxHeartbeats 8000000 in
set_option maxRecDepth 100000 in
/-- Rows that are alike are found alike. -/
theorem cSameAll (a b : Option Addr) (ca cb : Nat) (L M : List Vs) (w : World) (ha : VsE.See w a L) (hb : VsE.See w b M) (hL : ∀ x ∈ L, x.lies w) (hM : ∀ x ∈ M, x.lies w) (he : L.map (·.l) = M.map (·.l)) (hl : L.length ≤ 4000000000000) :
    Calls Try.prog 12 #[.slice a L.length ca, .slice b M.length cb] w fun e w' => e = .returned (.bool true) ∧ Kp [] w w' := by
  have hlen : L.length = M.length := by have := congrArg List.length he; simpa using this
  have HA := hid ha
  have HB := hid hb
  have HL := hid hL
  have HM := hid hM
  have HE := hid he
  clear ha hb hL hM he
  rw [← hlen]
  go_enter Try.func12, Try.ntmps12
  go_wp2_with fail
  go_loopw [5] (fun i wr => ∃ (j : Nat), j ≤ L.length ∧ i = .int .i64 (j : Int) ∧ Hid (Kp [] w wr)) (fun i _ => L.length - (intOf i).toNat)
  case atStart => exact ⟨0, Nat.zero_le _, rfl, hid (Kp.refl _ _)⟩
  case round =>
    obtain ⟨j, hj, rfl, hk⟩ := hrel
    by_cases hlt : j < L.length
    · have hltM : j < M.length := by omega
      have hxj : L[j]? = some L[j] := by simp [hlt]
      have hyj : M[j]? = some M[j] := by simp [hltM]
      obtain ⟨g, o, ea, c0⟩ := vsAt HA.out hxj
      obtain ⟨g2, o2, eb, d0⟩ := vsAt HB.out hyj
      have ell : L[j].l = M[j].l := by
        have h1 := congrArg (fun z => z[j]?) HE.out
        simp [hlt, hltM] at h1
        exact h1
      have hlj := HL.out L[j] (List.getElem_mem hlt)
      have hmj := HM.out M[j] (List.getElem_mem hltM)
      have hcc := hlj.cap
      have hcm := hlj.most
      have hS : Hid (∀ W', Kp [] wr W' → Calls Try.prog 26 #[.slice L[j].a L[j].l.length L[j].c, .slice M[j].a M[j].l.length M[j].c] W' fun e w' => e = .returned (.bool true) ∧ Kp [] W' w') := fun W' k => by
        have := cSame L[j].a M[j].a L[j].c M[j].c L[j].l M[j].l W' (hlj.see.kept (hk.out.trans k (by simp))) (hmj.see.kept (hk.out.trans k (by simp))) (by unfold maxLen at hcm; omega) (by rw [← ell]; unfold maxLen at hcm; omega)
        rw [← ell, sameV_selfY] at this
        rw [← ell]
        exact this
      have hcl : Hid (∀ W', Kp [] w W' → W'.cell? ⟨g, o + j, none⟩ = some (.slice L[j].a L[j].l.length L[j].c) ∧ W'.cell? ⟨g2, o2 + j, none⟩ = some (.slice M[j].a M[j].l.length M[j].c)) := fun W' k => ⟨kpAt k c0, kpAt k d0⟩
      generalize L[j] = x at *
      generalize M[j] = y at *
      obtain ⟨xa, xc, xl⟩ := x
      obtain ⟨ya, yc, yl⟩ := y
      dsimp only at *
      have i1 : (0 : Int) ≤ (j : Int) := by omega
      have i2 : (j : Int) < (L.length : Int) := by omega
      have i3 : (j : Int) + 1 ≤ 9223372036854775807 := by omega
      have i2m : (j : Int) < (M.length : Int) := by omega
      subst ea eb
      clear c0 d0 hlj hmj hxj hyj ell hcc hcm
      obtain ⟨cg, cg2⟩ := hcl.out wr hk.out
      go_wp2_with fail
      refine wp_noPanicY ?_
      refine wp_region_held_drew (S := fun A => A.cell? ⟨g, o + j, none⟩ = some (.slice xa xl.length xc) ∧ A.cell? ⟨g2, o2 + j, none⟩ = some (.slice ya yl.length yc)) (by kernel_rfl) ?_ (fun hHeld => ?_)
      · exact ⟨cg, cg2⟩
      have KD : Hid (Kp [] wr wr.drew) := hid (Kp.refl _ _).drew
      generalize wr.drew = wd at *
      refine wpAnyH_take (i := 0) (v := ?_) rfl (by kernel_rfl) (by kernel_rfl) (by kernel_rfl) (fun _ _ _ h => by cases h.1) (Or.inl ⟨by rfl, ?_⟩) (by assumption) ?_
      rotate_left
      · intro w hSw; (try dsimp only at hSw); go_simp <;> with_reducible rfl
      try simp only [Act.put, List.getElem_toArray, List.getElem_cons_zero, List.getElem_cons_succ, List.setIfInBounds_toArray, List.set_cons_zero, List.set_cons_succ]
      refine wpAnyH_take (i := 1) (v := ?_) rfl (by kernel_rfl) (by kernel_rfl) (by kernel_rfl) (fun _ _ _ h => by cases h.1) (Or.inl ⟨by rfl, ?_⟩) (by assumption) ?_
      rotate_left
      · intro w hSw; (try dsimp only at hSw); go_simp <;> with_reducible rfl
      try simp only [Act.put, List.getElem_toArray, List.getElem_cons_zero, List.getElem_cons_succ, List.setIfInBounds_toArray, List.set_cons_zero, List.set_cons_succ]
      refine wpAnyH_take (i := 2) (v := ?_) rfl (by kernel_rfl) (by kernel_rfl) (by kernel_rfl) (fun _ _ _ h => by cases h.1) (Or.inl ⟨by rfl, ?_⟩) (by assumption) ?_
      rotate_left
      · intro w hSw; (try dsimp only at hSw); go_simp <;> with_reducible rfl
      try simp only [Act.put, List.getElem_toArray, List.getElem_cons_zero, List.getElem_cons_succ, List.setIfInBounds_toArray, List.set_cons_zero, List.set_cons_succ]
      refine wpAnyH_take (i := 3) (v := ?_) rfl (by kernel_rfl) (by kernel_rfl) (by kernel_rfl) (fun _ _ _ h => by cases h.1) (Or.inl ⟨by rfl, ?_⟩) (by assumption) ?_
      rotate_left
      · intro w hSw; (try dsimp only at hSw); go_simp <;> with_reducible rfl
      try simp only [Act.put, List.getElem_toArray, List.getElem_cons_zero, List.getElem_cons_succ, List.setIfInBounds_toArray, List.set_cons_zero, List.set_cons_succ]
      refine wpAnyH_take (i := 4) (v := ?_) rfl (by kernel_rfl) (by kernel_rfl) (by kernel_rfl) (fun _ _ _ h => by cases h.1) (Or.inl ⟨by rfl, ?_⟩) (by assumption) ?_
      rotate_left
      · intro w hSw; (try dsimp only at hSw); go_simp <;> with_reducible rfl
      try simp only [Act.put, List.getElem_toArray, List.getElem_cons_zero, List.getElem_cons_succ, List.setIfInBounds_toArray, List.set_cons_zero, List.set_cons_succ]
      refine wpAnyH_take (i := 5) (v := ?_) rfl (by kernel_rfl) (by kernel_rfl) (by kernel_rfl) (fun _ _ _ h => by cases h.1) (Or.inl ⟨by rfl, ?_⟩) (by assumption) ?_
      rotate_left
      · intro w hSw; (try dsimp only at hSw); go_simp <;> with_reducible rfl
      try simp only [Act.put, List.getElem_toArray, List.getElem_cons_zero, List.getElem_cons_succ, List.setIfInBounds_toArray, List.set_cons_zero, List.set_cons_succ]
      refine wpAnyH_take (i := 6) (v := ?_) rfl (by kernel_rfl) (by kernel_rfl) (by kernel_rfl) (fun _ _ _ h => by cases h.1) (Or.inl ⟨by rfl, ?_⟩) (by assumption) ?_
      rotate_left
      · intro w hSw; (try dsimp only at hSw); go_simp <;> with_reducible rfl
      try simp only [Act.put, List.getElem_toArray, List.getElem_cons_zero, List.getElem_cons_succ, List.setIfInBounds_toArray, List.set_cons_zero, List.set_cons_succ]
      refine wpAnyH_take (i := 7) (v := ?_) rfl (by kernel_rfl) (by kernel_rfl) (by kernel_rfl) (fun _ _ _ h => by cases h.1) (Or.inl ⟨by rfl, ?_⟩) (by assumption) ?_
      rotate_left
      · intro w hSw; (try dsimp only at hSw); go_simp <;> with_reducible rfl
      try simp only [Act.put, List.getElem_toArray, List.getElem_cons_zero, List.getElem_cons_succ, List.setIfInBounds_toArray, List.set_cons_zero, List.set_cons_succ]
      refine wpAnyH_ready (rs := [8]) (by kernel_rfl) (by simp) ?_
      refine AllReadyH.cons rfl (fun K hK => ?_) AllReadyH.nil
      go_simp
      refine (hS.out wd KD.out).mono ?_
      rintro e we ⟨rfl, ke⟩
      (try go_wp2_with fail)
      refine hK.out _ _ ?_ (fun hHeld => ?_)
      · exact hcl.out we (hk.out.trans (KD.out.trans ke (by simp)) (by simp))
      clear hK K
      try simp only [Act.put, List.getElem_toArray, List.getElem_cons_zero, List.getElem_cons_succ, List.setIfInBounds_toArray, List.set_cons_zero, List.set_cons_succ]
      refine wpAnyH_take (i := 9) (v := ?_) rfl (by kernel_rfl) (by kernel_rfl) (by kernel_rfl) (fun _ _ _ h => by cases h.1) (Or.inl ⟨by rfl, ?_⟩) (by assumption) ?_
      rotate_left
      · intro w hSw; (try dsimp only at hSw); go_simp <;> with_reducible rfl
      try simp only [Act.put, List.getElem_toArray, List.getElem_cons_zero, List.getElem_cons_succ, List.setIfInBounds_toArray, List.set_cons_zero, List.set_cons_succ]
      refine wpAnyH_done (by kernel_rfl) ⟨rfl, ?_⟩ _
      have KE := hid (hk.out.trans (KD.out.trans ke (by simp)) (by simp))
      clear hHeld ke cg cg2
      go_wp2_with fail
      go_roundw
      case rel => exact ⟨j + 1, by omega, by go_num, KE⟩
      case measure => simp [intOf]; omega
    · have dj1 : ¬ (j : Int) < (L.length : Int) := by omega
      have dj2 : decide ((j : Int) < (L.length : Int)) = false := by simp; omega
      go_wp2_with fail
      go_ret
      exact ⟨rfl, hk.out⟩
end Go.Proofs.Ytohkjikhlakglaa
end

section
namespace Go.Proofs.Ytohkjikhlakglaa
open Go.RowKit Go.Hay
attribute [local go_sem] Oper.semAt_some
set_option linter.unusedVariables false
set_option linter.unusedSimpArgs false

set_option maxHeartbeats 8000000 in
set_option maxRecDepth 100000 in
theorem cInsert1R (a : Option Addr) (n c : Nat) (f : Value) (w : World) (hn : n ≤ 1) : Calls Try.prog 66 #[.slice a n c, .int .i64 0, .int .i64 (n : Int), f] w fun e w' => (∃ v, e = .returned v) ∧ w' = w := by
  have d1 : decide ((1 : Int) < (n : Int)) = false := by simp; omega
  have d3 : decide (1 < n) = false := by simp; omega
  have d2 : ¬ (1 : Int) < (n : Int) := by omega
  go_enter Try.func66, Try.ntmps66
  go_wp2_with fail
  go_loopw [8] (fun i wr => i = .int .i64 1 ∧ wr = w) (fun _ _ => 0)
  case atStart => exact ⟨rfl, rfl⟩
  case round =>
    obtain ⟨rfl, rfl⟩ := hrel
    go_wp2_with fail
    go_end0
    exact ⟨⟨_, rfl⟩, rfl⟩
set_option maxHeartbeats 8000000 in
set_option maxRecDepth 100000 in
theorem cStable1R (a : Option Addr) (n c : Nat) (f : Value) (w : World) (hn : n ≤ 1) : Calls Try.prog 53 #[.slice a n c, .int .i64 (n : Int), f] w fun e w' => (∃ v, e = .returned v) ∧ w' = w := by
  have d1 : decide ((20 : Int) ≤ (n : Int)) = false := by simp; omega
  have d2 : decide ((20 : Int) < (n : Int)) = false := by simp; omega
  have d3 : ¬ (20 : Int) ≤ (n : Int) := by omega
  have d4 : ¬ (20 : Int) < (n : Int) := by omega
  have d5 : decide (20 ≤ n) = false := by simp; omega
  have d6 : decide (20 < n) = false := by simp; omega
  have cI := hid (cInsert1R a n c f w hn)
  go_enter Try.func53, Try.ntmps53
  go_wp2_with fail
  go_loopw [7, 8] (fun v7 v8 wr => v7 = .int .i64 0 ∧ v8 = .int .i64 20 ∧ wr = w) (fun _ _ _ => 0)
  case atStart => exact ⟨rfl, rfl, rfl⟩
  case round =>
    obtain ⟨rfl, rfl, rfl⟩ := hrel
    go_wp2_with fail
    refine cI.out.mono ?_
    rintro e w2 ⟨⟨v, rfl⟩, rfl⟩
    clear cI
    go_wp2_with fail
    go_loopw [6] (fun v6 wr2 => v6 = .int .i64 20 ∧ wr2 = w2) (fun _ _ => 0)
    case atStart => exact ⟨rfl, rfl⟩
    case round =>
      obtain ⟨rfl, rfl⟩ := hrel
      go_wp2_with fail
      go_end0
      exact ⟨⟨_, rfl⟩, rfl⟩
set_option maxHeartbeats 8000000 in
set_option maxRecDepth 100000 in
theorem cSortSt1R (a : Option Addr) (n c : Nat) (f : Value) (w : World) (hn : n ≤ 1) : Calls Try.prog 37 #[.slice a n c, f] w fun e w' => (∃ v, e = .returned v) ∧ w' = w := by
  have cI := hid (cStable1R a n c f w hn)
  go_enter Try.func37, Try.ntmps37
  go_wp2_with fail
  refine cI.out.mono ?_
  rintro e w2 ⟨⟨v, rfl⟩, rfl⟩
  clear cI
  go_wp2_with fail
  go_end0
  exact ⟨⟨_, rfl⟩, rfl⟩
set_option maxHeartbeats 8000000 in
set_option maxRecDepth 100000 in
theorem cInsert1M (a : Option Addr) (n c : Nat) (f : Value) (w : World) (hn : n ≤ 1) : Calls Try.prog 71 #[.slice a n c, .int .i64 0, .int .i64 (n : Int), f] w fun e w' => (∃ v, e = .returned v) ∧ w' = w := by
  have d1 : decide ((1 : Int) < (n : Int)) = false := by simp; omega
  have d3 : decide (1 < n) = false := by simp; omega
  have d2 : ¬ (1 : Int) < (n : Int) := by omega
  go_enter Try.func71, Try.ntmps71
  go_wp2_with fail
  go_loopw [8] (fun i wr => i = .int .i64 1 ∧ wr = w) (fun _ _ => 0)
  case atStart => exact ⟨rfl, rfl⟩
  case round =>
    obtain ⟨rfl, rfl⟩ := hrel
    go_wp2_with fail
    go_end0
    exact ⟨⟨_, rfl⟩, rfl⟩
set_option maxHeartbeats 8000000 in
set_option maxRecDepth 100000 in
theorem cStable1M (a : Option Addr) (n c : Nat) (f : Value) (w : World) (hn : n ≤ 1) : Calls Try.prog 61 #[.slice a n c, .int .i64 (n : Int), f] w fun e w' => (∃ v, e = .returned v) ∧ w' = w := by
  have d1 : decide ((20 : Int) ≤ (n : Int)) = false := by simp; omega
  have d2 : decide ((20 : Int) < (n : Int)) = false := by simp; omega
  have d3 : ¬ (20 : Int) ≤ (n : Int) := by omega
  have d4 : ¬ (20 : Int) < (n : Int) := by omega
  have d5 : decide (20 ≤ n) = false := by simp; omega
  have d6 : decide (20 < n) = false := by simp; omega
  have cI := hid (cInsert1M a n c f w hn)
  go_enter Try.func61, Try.ntmps61
  go_wp2_with fail
  go_loopw [7, 8] (fun v7 v8 wr => v7 = .int .i64 0 ∧ v8 = .int .i64 20 ∧ wr = w) (fun _ _ _ => 0)
  case atStart => exact ⟨rfl, rfl, rfl⟩
  case round =>
    obtain ⟨rfl, rfl, rfl⟩ := hrel
    go_wp2_with fail
    refine cI.out.mono ?_
    rintro e w2 ⟨⟨v, rfl⟩, rfl⟩
    clear cI
    go_wp2_with fail
    go_loopw [6] (fun v6 wr2 => v6 = .int .i64 20 ∧ wr2 = w2) (fun _ _ => 0)
    case atStart => exact ⟨rfl, rfl⟩
    case round =>
      obtain ⟨rfl, rfl⟩ := hrel
      go_wp2_with fail
      go_end0
      exact ⟨⟨_, rfl⟩, rfl⟩
set_option maxHeartbeats 8000000 in
set_option maxRecDepth 100000 in
theorem cSortSt1M (a : Option Addr) (n c : Nat) (f : Value) (w : World) (hn : n ≤ 1) : Calls Try.prog 48 #[.slice a n c, f] w fun e w' => (∃ v, e = .returned v) ∧ w' = w := by
  have cI := hid (cStable1M a n c f w hn)
  go_enter Try.func48, Try.ntmps48
  go_wp2_with fail
  refine cI.out.mono ?_
  rintro e w2 ⟨⟨v, rfl⟩, rfl⟩
  clear cI
  go_wp2_with fail
  go_end0
  exact ⟨⟨_, rfl⟩, rfl⟩
end Go.Proofs.Ytohkjikhlakglaa
end

/- Values as elements. A block's cells. What a term says of a value: plain. Which values are right, which fit a column: the program's and the reference's. The order of values is total: plain mathematics. Terms as plain values, and how they lie. expr.Term. The reference: Term. -/
import Derived.Test.YtacoabmmhddbkaaDoorB1
import Derived.Deep.RegionHeld3
import Derived.Deep.RegionWith
import Derived.BigGuard
section
namespace Go.Proofs.YtacoabmmhddbkaaDoor
open Go.RowKit Go.Hay
set_option linter.unusedVariables false
set_option linter.unusedSimpArgs false

def VE : El Val where
  n := 4
  c x := [.int .i64 x.k, .bool x.b, .int .i64 x.n, .string x.t]
  len _ := rfl
  one _ u hu := by simp at hu; rcases hu with rfl | rfl | rfl | rfl <;> rfl
  pos := by decide
theorem seeV {w : World} {a : Option Addr} {l : List Val} : VE.See w a l ↔ Vals w a l := by
  constructor
  · intro h
    by_cases hl : l = []
    · exact .inl hl
    · rcases h with h | ⟨g, o, rfl, hc⟩
      · exact absurd h hl
      · refine .inr ⟨g, o, rfl, fun j x hx => ?_⟩
        have e : ∀ k u, k < 4 → (VE.c x)[k]? = some u → w.cell? ⟨g, o + j * 4 + k, none⟩ = some u := fun k u hk hu => by
          have := hc (j * 4 + k) u ((El.cs_get VE hx hk).trans hu)
          rwa [← Nat.add_assoc] at this
        exact ⟨e 0 _ (by omega) rfl, e 1 _ (by omega) rfl, e 2 _ (by omega) rfl, e 3 _ (by omega) rfl⟩
  · rintro (h | ⟨g, o, rfl, hc⟩)
    · exact .inl h
    · refine .inr ⟨g, o, rfl, fun j u hu => ?_⟩
      have hj : j < l.length * 4 := by have := (List.getElem?_eq_some_iff.1 hu).1; rwa [El.cs_length] at this
      have hq : j / 4 < l.length := by omega
      have hx : l[j / 4]? = some l[j / 4] := by simp [hq]
      have hg := El.cs_get VE hx (k := j % 4) (Nat.mod_lt _ (by decide))
      have e4 : VE.n = 4 := rfl
      rw [e4, show j / 4 * 4 + j % 4 = j by omega, hu] at hg
      obtain ⟨c0, c1, c2, c3⟩ := hc (j / 4) _ hx
      have hm : j % 4 = 0 ∨ j % 4 = 1 ∨ j % 4 = 2 ∨ j % 4 = 3 := by omega
      have ho : o + j = o + j / 4 * 4 + j % 4 := by omega
      rw [ho]
      rcases hm with h | h | h | h <;> rw [h] at hg ⊢ <;> cases hg <;> assumption
/-- New bytes. -/
def NB (bs : List UInt8) (w : World) (e : Ending) (w' : World) : Prop := ∃ a c, e = .returned (.slice a bs.length c) ∧ Row w' (.slice a bs.length c) bs ∧ Kp [] w w' ∧ ∀ k ∈ blk a, w.heap.size ≤ k
end Go.Proofs.YtacoabmmhddbkaaDoor
end

section
namespace Go.Proofs.YtacoabmmhddbkaaDoor
open Go.RowKit Go.Hay
set_option linter.unusedVariables false
set_option linter.unusedSimpArgs false

structure Bn (w : World) (q : Nat) (cs : List Value) : Prop where
  get : ∀ i u, cs[i]? = some u → w.cell? ⟨q, i, none⟩ = some u
  free : ∀ i, w.frozen? ⟨q, i, none⟩ = false
theorem Bn.new (w : World) (cs : List Value) (t : TypeId) : Bn (w.alloc (.cells cs.toArray t)) w.heap.size cs :=
  ⟨fun i u hu => by
    have e : (w.alloc (.cells cs.toArray t)).cell? ⟨w.heap.size, i, none⟩ = _ := World.cell?_alloc_new w _ _ i
    rw [e]; simpa using hu, fun i => World.frozen?_alloc_new w _ _ i⟩
theorem Bn.lt {w : World} {q : Nat} {cs : List Value} (h : Bn w q cs) (hn : 0 < cs.length) : q < w.heap.size := World.block_lt_of_cell? _ _ (h.get 0 cs[0] (by simp [hn]))
theorem Bn.keptS {w w' : World} {S : List Nat} {q : Nat} {cs : List Value} (h : Bn w q cs) (hk : Kp S w w') (hq : q ∉ S) (hl : q < w.heap.size) : Bn w' q cs :=
  ⟨fun i u hu => (hk.cell (p := ⟨q, i, none⟩) hl hq).trans (h.get i u hu), fun i => (hk.frozen (p := ⟨q, i, none⟩) hl hq).trans (h.free i)⟩
theorem Bn.kept {w w' : World} {q : Nat} {c : Value} {cs : List Value} (h : Bn w q (c :: cs)) (hk : Kp [] w w') : Bn w' q (c :: cs) := h.keptS hk (by simp) (h.lt (by simp))
theorem Bn.set {w : World} {q : Nat} {cs : List Value} (h : Bn w q cs) (i : Nat) (hi : i < cs.length) (v : Value) : Bn (w.setCell ⟨q, i, none⟩ v) q (cs.set i v) :=
  ⟨fun j u hu => by
    by_cases e : j = i
    · subst e
      rw [List.getElem?_set_self hi] at hu
      cases hu
      exact World.cell?_setCell_same _ _ _ (h.get j cs[j] (by simp [hi]))
    · rw [List.getElem?_set_ne (fun h => e h.symm)] at hu
      rw [World.cell?_setCell_other _ _ _ _ (by intro h; simp only [Addr.mk.injEq] at h; omega)]
      exact h.get j u hu, fun j => by rw [World.frozen?_setCell]; exact h.free j⟩
end Go.Proofs.YtacoabmmhddbkaaDoor
end

section
namespace Go.Proofs.YtacoabmmhddbkaaDoor
open Go.RowKit Go.Hay

def teC (op a : Int) : Bool :=
  if op = 0 then a == 0 else if op = 1 then !(a == 0) else if op = 2 then decide (a < 0) else if op = 3 then decide (a ≤ 0) else if op = 4 then decide (0 < a) else if op = 5 then decide (0 ≤ a) else false
def termC (op xk vk a : Int) : Bool := if op = 6 then xk == 0 else if op = 7 then !(xk == 0) else if xk = 0 ∨ vk = 0 then false else teC op a
end Go.Proofs.YtacoabmmhddbkaaDoor
end

section
namespace Go.Proofs.YtacoabmmhddbkaaDoor
open Go.RowKit Go.Hay
set_option linter.unusedVariables false
set_option linter.unusedSimpArgs false

/-- Are two values the same? -/
def Val.eqv (x y : Val) : Bool := x.k == y.k && (x.b == y.b && (x.n == y.n && x.t.toList == y.t.toList))
/-- Which values are right. -/
def Val.right (x : Val) : Bool :=
  if x.k = 0 then x.b == false && (x.n == 0 && x.t.toList == [])
  else if x.k = 1 then x.n == 0 && x.t.toList == []
  else if x.k = 2 then x.b == false && x.t.toList == []
  else if x.k = 3 then (x.b == false && x.n == 0) && decide ((x.t.size : Int) ≤ 64)
  else false
theorem emptyL : (⟨#[]⟩ : ByteArray).toList = [] := by rw [ByteArray.toList]; unfold ByteArray.toList.loop; rfl
theorem eqV (x y : Val) : ∃ X : Bool, Hid (X = x.eqv y) ∧ ∀ w : World, (binOp .eql 30 (.agg #[.int .i64 x.k, .bool x.b, .int .i64 x.n, .string x.t]) (.agg #[.int .i64 y.k, .bool y.b, .int .i64 y.n, .string y.t])).run Tryd.prog w = .ok (.bool X) w := by
  refine ⟨_, rfl, fun w => ?_⟩
  rw [run_eql_struct, run_equalIn_agg (ht := by kernel_rfl) (hp := by kernel_rfl)]
  obtain ⟨k1, b1, n1, t1⟩ := x
  obtain ⟨k2, b2, n2, t2⟩ := y
  simp only [Val.eqv]
  by_cases h1 : k1 = k2
  · by_cases h2 : b1 = b2
    · by_cases h3 : n1 = n2
      · by_cases h4 : t1.toList = t2.toList
        · simp [go_sem, h1, h2, h3, h4]
        · simp [go_sem, h1, h2, h3, h4]
      · simp [go_sem, h1, h2, h3]
    · simp [go_sem, h1, h2]
  · simp [go_sem, h1]

set_option maxHeartbeats 2000000 in
set_option maxRecDepth 100000 in
theorem cRight (x : Val) (w : World) : Calls Tryd.prog 26 #[x.v] w fun e w' => e = .returned (.bool x.right) ∧ Kp [] w w' := by
  obtain ⟨k, b, n, t⟩ := x
  unfold Val.v
  have kw : Kp [] w (w.alloc (.cells #[.int .i64 k, .bool b, .int .i64 n, .string t] 30)) := (Kp.refl _ _).alloc _
  have bA := Box4.new w (.int .i64 k) (.bool b) (.int .i64 n) (.string t) 30
  by_cases h0 : k = 0
  · subst h0
    obtain ⟨X, HX, hX⟩ := eqV ⟨0, b, n, t⟩ ⟨0, false, 0, ⟨#[]⟩⟩
    have q0 := bA.c0; have q1 := bA.c1; have q2 := bA.c2; have q3 := bA.c3
    go_enter Tryd.func26, Tryd.ntmps26
    go_wp2_with fail
    go_region_held3 (fun w' => w'.cell? ⟨w.heap.size, 0, none⟩ = some (.int .i64 0) ∧ w'.cell? ⟨w.heap.size, 1, none⟩ = some (.bool b) ∧ w'.cell? ⟨w.heap.size, 2, none⟩ = some (.int .i64 n) ∧ w'.cell? ⟨w.heap.size, 3, none⟩ = some (.string t)) (first | go_keep) (first | (go_at_call 32; refine (cNull _).mono ?_; rintro e w1 ⟨rfl, k1⟩; have bA1 := bA.drew.kept k1 (by simp); have y0 := bA1.c0; have y1 := bA1.c1; have y2 := bA1.c2; have y3 := bA1.c3))
    go_wp2_with fail
    go_ret
    have hr : Val.right ⟨0, b, n, t⟩ = X := by rw [HX.out]; simp [Val.right, Val.eqv, emptyL]
    exact ⟨by rw [hr]; rfl, kw.drew.trans k1 (by simp)⟩
  by_cases h1 : k = 1
  · subst h1
    obtain ⟨X, HX, hX⟩ := eqV ⟨1, b, n, t⟩ ⟨1, b, 0, ⟨#[]⟩⟩
    have q0 := bA.c0; have q1 := bA.c1; have q2 := bA.c2; have q3 := bA.c3
    go_enter Tryd.func26, Tryd.ntmps26
    go_wp2_with fail
    go_region_held3 (fun w' => w'.cell? ⟨w.heap.size, 0, none⟩ = some (.int .i64 1) ∧ w'.cell? ⟨w.heap.size, 1, none⟩ = some (.bool b) ∧ w'.cell? ⟨w.heap.size, 2, none⟩ = some (.int .i64 n) ∧ w'.cell? ⟨w.heap.size, 3, none⟩ = some (.string t)) (first | go_keep) (first | (go_at_call 33; refine (cBool b _).mono ?_; rintro e w1 ⟨rfl, k1⟩; have bA1 := bA.drew.kept k1 (by simp); have y0 := bA1.c0; have y1 := bA1.c1; have y2 := bA1.c2; have y3 := bA1.c3))
    go_wp2_with fail
    go_ret
    have hr : Val.right ⟨1, b, n, t⟩ = X := by rw [HX.out]; simp [Val.right, Val.eqv, emptyL]
    exact ⟨by rw [hr]; rfl, kw.drew.trans k1 (by simp)⟩
  by_cases h2 : k = 2
  · subst h2
    obtain ⟨X, HX, hX⟩ := eqV ⟨2, b, n, t⟩ ⟨2, false, n, ⟨#[]⟩⟩
    have q0 := bA.c0; have q1 := bA.c1; have q2 := bA.c2; have q3 := bA.c3
    go_enter Tryd.func26, Tryd.ntmps26
    go_wp2_with fail
    go_region_held3 (fun w' => w'.cell? ⟨w.heap.size, 0, none⟩ = some (.int .i64 2) ∧ w'.cell? ⟨w.heap.size, 1, none⟩ = some (.bool b) ∧ w'.cell? ⟨w.heap.size, 2, none⟩ = some (.int .i64 n) ∧ w'.cell? ⟨w.heap.size, 3, none⟩ = some (.string t)) (first | go_keep) (first | (go_at_call 34; refine (cInt n _).mono ?_; rintro e w1 ⟨rfl, k1⟩; have bA1 := bA.drew.kept k1 (by simp); have y0 := bA1.c0; have y1 := bA1.c1; have y2 := bA1.c2; have y3 := bA1.c3))
    go_wp2_with fail
    go_ret
    have hr : Val.right ⟨2, b, n, t⟩ = X := by rw [HX.out]; simp [Val.right, Val.eqv, emptyL]
    exact ⟨by rw [hr]; rfl, kw.drew.trans k1 (by simp)⟩
  by_cases h3 : k = 3
  · subst h3
    obtain ⟨X, HX, hX⟩ := eqV ⟨3, b, n, t⟩ ⟨3, false, 0, t⟩
    have q0 := bA.c0; have q1 := bA.c1; have q2 := bA.c2; have q3 := bA.c3
    cases X
    · go_enter Tryd.func26, Tryd.ntmps26
      go_wp2_with fail
      first
        | go_region_with (first | (go_at_call 35; refine (cText t _).mono ?_; rintro e w1 ⟨rfl, k1⟩; have bA1 := bA.drew.kept k1 (by simp); have y0 := bA1.c0; have y1 := bA1.c1; have y2 := bA1.c2; have y3 := bA1.c3))
        | fail
      all_goals go_wp2_with fail
      all_goals go_ret
      all_goals have hr : Val.right ⟨3, b, n, t⟩ = false := by have := HX.out; simp [Val.eqv] at this; simp [Val.right]; intro h1 h2; exact absurd h2 (this h1)
      all_goals exact ⟨by rw [hr]; rfl, kw.drew.trans k1 (by simp)⟩
    · go_enter Tryd.func26, Tryd.ntmps26
      go_wp2_with fail
      go_region_held3 (fun w' => w'.cell? ⟨w.heap.size, 0, none⟩ = some (.int .i64 3) ∧ w'.cell? ⟨w.heap.size, 1, none⟩ = some (.bool b) ∧ w'.cell? ⟨w.heap.size, 2, none⟩ = some (.int .i64 n) ∧ w'.cell? ⟨w.heap.size, 3, none⟩ = some (.string t)) (first | go_keep) (first | (go_at_call 35; refine (cText t _).mono ?_; rintro e w1 ⟨rfl, k1⟩; have bA1 := bA.drew.kept k1 (by simp); have y0 := bA1.c0; have y1 := bA1.c1; have y2 := bA1.c2; have y3 := bA1.c3))
      go_wp2_with fail
      go_ret
      have hr : Val.right ⟨3, b, n, t⟩ = decide ((t.size : Int) ≤ 64) := by have := HX.out; simp [Val.eqv] at this; simp [Val.right, this]
      exact ⟨by rw [hr]; rfl, kw.drew.trans k1 (by simp)⟩
  · have d0 : (k == 0) = false := by simpa using h0
    have d1 : (k == 1) = false := by simpa using h1
    have d2 : (k == 2) = false := by simpa using h2
    have d3 : (k == 3) = false := by simpa using h3
    have hr : Val.right ⟨k, b, n, t⟩ = false := by simp [Val.right, h0, h1, h2, h3]
    have HR := hid hr
    clear hr h0 h1 h2 h3
    go_enter Tryd.func26, Tryd.ntmps26
    go_wp2_with fail
    go_ret
    exact ⟨by rw [HR.out]; rfl, kw⟩
end Go.Proofs.YtacoabmmhddbkaaDoor
end

section
namespace Go.Proofs.YtacoabmmhddbkaaDoor
open Go.Hay
set_option linter.unusedVariables false
set_option linter.unusedSimpArgs false

theorem less_ntrans : ∀ a b c : List UInt8, Op.bytesLess b a = false → Op.bytesLess c b = false → Op.bytesLess c a = false
  | [], _, c, _, _ => by cases c <;> rfl
  | x :: a, [], c, h, _ => by simp [Op.bytesLess] at h
  | x :: a, y :: b, [], _, h => by simp [Op.bytesLess] at h
  | x :: a, y :: b, z :: c, h1, h2 => by
    have ih := less_ntrans a b c
    simp only [Op.bytesLess, Bool.or_eq_false_iff, decide_eq_false_iff_not, Bool.and_eq_false_iff, beq_eq_false_iff_ne, ne_eq] at h1 h2 ⊢
    rw [UInt8.lt_iff_toNat_lt, ← UInt8.toNat_inj] at h1 h2 ⊢
    refine ⟨by omega, ?_⟩
    by_cases hz : z.toNat = x.toNat
    · have h3 : Op.bytesLess b a = false := h1.2.resolve_left (by omega)
      have h4 : Op.bytesLess c b = false := h2.2.resolve_left (by omega)
      exact .inr (ih h3 h4)
    · exact .inl hz
theorem bl_irr (s : ByteArray) : bl s s = false := less_irr _
theorem bl_ntrans {a b c : ByteArray} (h : bl b a = false) (k : bl c b = false) : bl c a = false := less_ntrans _ _ _ h k
theorem bl_asymm {a b : ByteArray} (h : bl a b = true) : bl b a = false := by
  unfold bl at *
  rw [← less_total a.toList b.toList, h]
  rfl
theorem bl_same {a b : ByteArray} (h : bl a b = false) (k : bl b a = false) : a.toList = b.toList := by
  unfold bl at *
  rw [← less_total a.toList b.toList, h] at k
  simpa using k

theorem Val.lt_irr (a : Val) : a.lt a = false := by
  unfold Val.lt
  rw [if_neg (by simp)]
  split
  · simp
  split
  · simp
  split
  · exact bl_irr _
  · rfl
theorem Val.lt_asymm (a b : Val) (h : a.lt b = true) : b.lt a = false := by
  unfold Val.lt at *
  by_cases hk : a.k = b.k
  · rw [if_neg (by simpa using hk)] at h
    rw [if_neg (by simpa using hk.symm), ← hk]
    by_cases h1 : a.k = 1
    · rw [if_pos h1] at h ⊢; cases ha : a.b <;> cases hb : b.b <;> simp_all
    rw [if_neg h1] at h ⊢
    by_cases h2 : a.k = 2
    · rw [if_pos h2] at h ⊢; simp at h ⊢; omega
    rw [if_neg h2] at h ⊢
    by_cases h3 : a.k = 3
    · rw [if_pos h3] at h ⊢; exact bl_asymm h
    rw [if_neg h3] at h ⊢
  · rw [if_pos hk] at h
    rw [if_pos (fun e => hk e.symm)]
    simp at h ⊢; omega
theorem Val.lt_ntrans (a b c : Val) (h : b.lt a = false) (k : c.lt b = false) : c.lt a = false := by
  unfold Val.lt at *
  by_cases hba : b.k = a.k
  · rw [if_neg (by simpa using hba)] at h
    by_cases hcb : c.k = b.k
    · rw [if_neg (by simpa using hcb)] at k
      rw [if_neg (by simpa using hcb.trans hba)]
      by_cases h1 : a.k = 1
      · rw [if_pos (by omega)] at h k ⊢; cases ha : a.b <;> cases hb : b.b <;> cases hc : c.b <;> simp_all
      rw [if_neg (by omega)] at h k ⊢
      by_cases h2 : a.k = 2
      · rw [if_pos (by omega)] at h k ⊢; simp at h k ⊢; omega
      rw [if_neg (by omega)] at h k ⊢
      by_cases h3 : a.k = 3
      · rw [if_pos (by omega)] at h k ⊢; exact bl_ntrans h k
      rw [if_neg (by omega)]
    · rw [if_pos (by simpa using hcb)] at k
      rw [if_pos (by rw [← hba]; simpa using hcb)]
      simp at k ⊢; omega
  · rw [if_pos (by simpa using hba)] at h
    by_cases hcb : c.k = b.k
    · rw [if_pos (by rw [hcb]; simpa using hba)]
      simp at h ⊢; omega
    · rw [if_pos (by simpa using hcb)] at k
      simp at h k
      rw [if_pos (by omega)]
      simp; omega
theorem cmp_neg (a b : Val) : cmpV b a = -cmpV a b := by
  unfold cmpV
  cases h1 : a.lt b
  · cases h2 : b.lt a <;> simp
  · rw [Val.lt_asymm a b h1]; simp
theorem cmp_self (a : Val) : cmpV a a = 0 := by unfold cmpV; rw [Val.lt_irr]; rfl
theorem cmp_le (a b : Val) : cmpV a b ≤ 0 ↔ b.lt a = false := by
  unfold cmpV
  cases h1 : a.lt b
  · cases h2 : b.lt a <;> simp
  · rw [Val.lt_asymm a b h1]; simp
theorem cmp_trans (a b c : Val) (h : cmpV a b ≤ 0) (k : cmpV b c ≤ 0) : cmpV a c ≤ 0 := (cmp_le a c).2 (Val.lt_ntrans a b c ((cmp_le a b).1 h) ((cmp_le b c).1 k))
theorem cmp_zero (a b : Val) : cmpV a b = 0 ↔ a.lt b = false ∧ b.lt a = false := by
  unfold cmpV
  cases h1 : a.lt b
  · cases h2 : b.lt a <;> simp
  · simp
theorem cmp_range (a b : Val) : cmpV a b = -1 ∨ cmpV a b = 0 ∨ cmpV a b = 1 := by
  unfold cmpV
  split
  · exact .inl rfl
  split
  · exact .inr (.inr rfl)
  · exact .inr (.inl rfl)
theorem eqv_self (a : Val) : a.eqv a = true := by simp [Val.eqv]
/-- What is alike, of right values, is the same. -/
theorem cmp_eqv (a b : Val) (ha : a.right = true) (hb : b.right = true) : (cmpV a b == 0) = a.eqv b := by
  by_cases he : a.eqv b = true
  · rw [he]
    simp [Val.eqv] at he
    obtain ⟨h1, h2, h3, h4⟩ := he
    have : cmpV a b = 0 := by
      rw [cmp_zero]
      unfold Val.lt
      simp only [h1, h2, h3]
      constructor
      · rw [if_neg (by simp)]
        split; · simp
        split; · simp
        split; · unfold bl; rw [h4]; exact less_irr _
        rfl
      · rw [if_neg (by simp)]
        split; · simp
        split; · simp
        split; · unfold bl; rw [h4]; exact less_irr _
        rfl
    rw [this]; rfl
  · have he' : a.eqv b = false := by simpa using he
    rw [he']
    rw [beq_eq_false_iff_ne]
    intro hz
    rw [cmp_zero] at hz
    obtain ⟨z1, z2⟩ := hz
    apply he
    unfold Val.lt at z1 z2
    by_cases hk : a.k = b.k
    · rw [if_neg (by simpa using hk)] at z1
      rw [if_neg (by simpa using hk.symm)] at z2
      unfold Val.right at ha hb
      rw [← hk] at hb z2
      by_cases h0 : a.k = 0
      · rw [if_pos h0] at ha hb
        simp at ha hb
        simp [Val.eqv, hk.symm, h0, ha, hb]
      rw [if_neg h0] at ha hb
      by_cases h1 : a.k = 1
      · rw [if_pos h1] at ha hb z1 z2
        simp at ha hb
        have : a.b = b.b := by cases hA : a.b <;> cases hB : b.b <;> simp_all
        simp [Val.eqv, hk, ha, hb, this]
      rw [if_neg h1] at ha hb z1 z2
      by_cases h2 : a.k = 2
      · rw [if_pos h2] at ha hb z1 z2
        simp at ha hb z1 z2
        have : a.n = b.n := by omega
        simp [Val.eqv, hk, ha, hb, this]
      rw [if_neg h2] at ha hb z1 z2
      by_cases h3 : a.k = 3
      · rw [if_pos h3] at ha hb z1 z2
        simp at ha hb
        have := bl_same z1 z2
        simp [Val.eqv, hk, ha, hb, this]
      · rw [if_neg h3] at ha; cases ha
    · rw [if_pos hk] at z1
      rw [if_pos (fun e => hk e.symm)] at z2
      simp at z1 z2
      omega

theorem rows_two (a b c : Val) : rowsV [a, b] [a, c] = cmpV b c := by
  simp only [rowsV, cmp_self, if_true]
  by_cases h : cmpV b c = 0
  · rw [if_pos h, h]
  · rw [if_neg h]
theorem rows_one (a c : Val) : rowsV [a] [a, c] = -1 := by
  simp only [rowsV, cmp_self, if_true]
end Go.Proofs.YtacoabmmhddbkaaDoor
end

section
namespace Go.Proofs.YtacoabmmhddbkaaDoor
open Go.RowKit Go.Hay
set_option linter.unusedVariables false
set_option linter.unusedSimpArgs false

/-- A term. -/
structure Tm where
  co : Int
  op : Int
  x : Val
instance : Inhabited Tm := ⟨⟨0, 0, ⟨0, false, 0, ⟨#[]⟩⟩⟩⟩
def Tm.v (t : Tm) : Value := .agg #[.int .i64 t.co, .int .i64 t.op, .int .i64 t.x.k, .bool t.x.b, .int .i64 t.x.n, .string t.x.t]
def TmE : El Tm where
  n := 6
  c t := [.int .i64 t.co, .int .i64 t.op, .int .i64 t.x.k, .bool t.x.b, .int .i64 t.x.n, .string t.x.t]
  len _ := rfl
  one _ u hu := by simp at hu; rcases hu with rfl | rfl | rfl | rfl | rfl | rfl <;> rfl
  pos := by decide
theorem tmAt {w : World} {a : Option Addr} {l : List Tm} (h : TmE.See w a l) {j : Nat} {t : Tm} (hx : l[j]? = some t) : ∃ g o, a = some ⟨g, o, none⟩ ∧ w.cell? ⟨g, o + j * 6, none⟩ = some (.int .i64 t.co) ∧ w.cell? ⟨g, o + j * 6 + 1, none⟩ = some (.int .i64 t.op) ∧ w.cell? ⟨g, o + j * 6 + 2, none⟩ = some (.int .i64 t.x.k) ∧ w.cell? ⟨g, o + j * 6 + 3, none⟩ = some (.bool t.x.b) ∧ w.cell? ⟨g, o + j * 6 + 4, none⟩ = some (.int .i64 t.x.n) ∧ w.cell? ⟨g, o + j * 6 + 5, none⟩ = some (.string t.x.t) := by
  obtain ⟨g, o, rfl, hc⟩ := h.at hx
  exact ⟨g, o, rfl, hc 0 _ rfl, hc 1 _ rfl, hc 2 _ rfl, hc 3 _ rfl, hc 4 _ rfl, hc 5 _ rfl⟩
/-- The table of what a term asks of an order. -/
def askL : List Bool := [false, true, false, true, false, true, true, false, false, true, true, false, false, false, true, false, true, true]
def Asks (w : World) : Prop := 0 < w.heap.size ∧ ∀ i, i < 18 → w.cell? ⟨0, i, none⟩ = some (.bool (askL.getD i false))
theorem Asks.kept {w w' : World} {S : List Nat} (h : Asks w) (hk : Kp S w w') (h0 : 0 ∉ S) : Asks w' :=
  ⟨Nat.lt_of_lt_of_le h.1 hk.size, fun i hi => (hk.cell (p := ⟨0, i, none⟩) h.1 h0).trans (h.2 i hi)⟩
def nulV : Val := ⟨0, false, 0, ⟨#[]⟩⟩
/-- Is a term true of a row? -/
def termT (t : Tm) (l : List Val) : Bool := if t.co < 0 ∨ (l.length : Int) ≤ t.co then false else termC t.op (l.getD t.co.toNat nulV).k t.x.k (cmpV (l.getD t.co.toNat nulV) t.x)
def allT (l : List Tm) (r : List Val) : Bool := l.all fun t => termT t r
theorem termT_out (t : Tm) (l : List Val) (h : t.co < 0 ∨ (l.length : Int) ≤ t.co) : termT t l = false := by unfold termT; rw [if_pos h]
theorem termT_at (t : Tm) (l : List Val) (i : Nat) (hi : i < l.length) (e : t.co = i) : termT t l = termC t.op l[i].k t.x.k (cmpV l[i] t.x) := by
  unfold termT
  rw [if_neg (by omega), e]
  simp [hi]
end Go.Proofs.YtacoabmmhddbkaaDoor
end

section
namespace Go.Proofs.YtacoabmmhddbkaaDoor
open Go.RowKit Go.Hay
set_option linter.unusedVariables false
set_option linter.unusedSimpArgs false

theorem cOrdered (op : Int) (w : World) : Calls Tryd.prog 23 #[.int .i64 op] w fun e w' => e = .returned (.bool (decide (0 ≤ op) && decide (op < 6))) ∧ w' = w := by
  by_cases h : 0 ≤ op
  · have d : decide (0 ≤ op) = true := by simpa using h
    rw [d]
    go_enter Tryd.func23, Tryd.ntmps23
    go_wp2_with fail
    go_returns
    exact ⟨by simp, rfl⟩
  · have d : decide (0 ≤ op) = false := by simpa using h
    rw [d]
    go_enter Tryd.func23, Tryd.ntmps23
    go_wp2_with fail
    go_returns
    exact ⟨by simp, rfl⟩
theorem cFull (p q : Nat) (v : Val) (t : Tm) (w : World) (hv : w.cell? ⟨p, 0, none⟩ = some (.int .i64 v.k)) (ht : w.cell? ⟨q, 2, none⟩ = some (.int .i64 t.x.k)) : Calls Tryd.prog 22 #[.pointer (some ⟨p, 0, none⟩), .pointer (some ⟨q, 0, none⟩)] w fun e w' => e = .returned (.bool (!(v.k == 0) && !(t.x.k == 0))) ∧ w' = w := by
  by_cases h : v.k = 0
  · have d : (v.k == 0) = true := by simpa using h
    have d' : (v.k != 0) = false := by simpa using h
    rw [d]
    clear h
    go_enter Tryd.func22, Tryd.ntmps22
    go_wp2_with fail
    go_returns
    exact ⟨by simp, rfl⟩
  · have d : (v.k == 0) = false := by simpa using h
    have d' : (v.k != 0) = true := by simpa using h
    rw [d]
    clear h
    go_enter Tryd.func22, Tryd.ntmps22
    go_wp2_with fail
    go_returns
    exact ⟨by simp [bne], rfl⟩
set_option maxHeartbeats 16000000 in
set_option maxRecDepth 100000 in
theorem xTerm (t : Tm) (a : Option Addr) (cap : Nat) (l : List Val) (w : World) (hT : Asks w) (hs : VE.See w a l) (hl : l.length ≤ 9223372036854775807) : Calls Tryd.prog 12 #[t.v, .slice a l.length cap] w fun e w' => e = .returned (.bool (termT t l)) ∧ Kp [] w w' := by
  obtain ⟨WA, eWA⟩ : ∃ Y, w.alloc (.cells #[.int .i64 t.co, .int .i64 t.op, .int .i64 t.x.k, .bool t.x.b, .int .i64 t.x.n, .string t.x.t] 32) = Y := ⟨_, rfl⟩
  have kA : Kp [] w WA := by rw [← eWA]; exact (Kp.refl _ _).alloc _
  have zA : WA.heap.size = w.heap.size + 1 := by rw [← eWA]; simp
  have bA : Bn WA w.heap.size [.int .i64 t.co, .int .i64 t.op, .int .i64 t.x.k, .bool t.x.b, .int .i64 t.x.n, .string t.x.t] := by rw [← eWA]; exact Bn.new w [.int .i64 t.co, .int .i64 t.op, .int .i64 t.x.k, .bool t.x.b, .int .i64 t.x.n, .string t.x.t] 32
  have ta0 := bA.get 0 _ rfl; have ta1 := bA.get 1 _ rfl; have ta2 := bA.get 2 _ rfl; have ta3 := bA.get 3 _ rfl; have ta4 := bA.get 4 _ rfl; have ta5 := bA.get 5 _ rfl
  unfold Tm.v
  by_cases h1 : t.co < 0
  · have d1 : decide (t.co < 0) = true := by simpa using h1
    rw [termT_out t l (.inl h1)]
    clear bA h1
    go_enter Tryd.func12, Tryd.ntmps12
    go_wp2_with fail
    go_returns
    exact ⟨rfl, kA⟩
  have d1 : decide (t.co < 0) = false := by simpa using h1
  by_cases h2 : (l.length : Int) ≤ t.co
  · have d2 : decide ((l.length : Int) ≤ t.co) = true := by simpa using h2
    rw [termT_out t l (.inr h2)]
    clear bA h1 h2
    go_enter Tryd.func12, Tryd.ntmps12
    go_wp2_with fail
    go_returns
    exact ⟨rfl, kA⟩
  have d2 : decide ((l.length : Int) ≤ t.co) = false := by simpa using h2
  obtain ⟨i, hi⟩ := Int.eq_ofNat_of_zero_le (show 0 ≤ t.co by omega)
  have hil : i < l.length := by omega
  rw [termT_at t l i hil hi]
  have hx : l[i]? = some l[i] := by simp [hil]
  obtain ⟨g, o, rfl, hc⟩ := (hs.keptNew kA).at hx
  have v0 := hc 0 _ rfl; have v1 := hc 1 _ rfl; have v2 := hc 2 _ rfl; have v3 := hc 3 _ rfl
  simp only [show VE.n = 4 from rfl, Nat.add_zero] at v0 v1 v2 v3
  generalize l[i] = v at *
  obtain ⟨WB, eWB⟩ : ∃ Y, WA.alloc (.cells #[.int .i64 0, .bool false, .int .i64 0, .string ⟨#[]⟩] 30) = Y := ⟨_, rfl⟩
  have kWB : Kp [] WA WB := by rw [← eWB]; exact (Kp.refl _ _).alloc _
  have zWB : WB.heap.size = WA.heap.size + 1 := by rw [← eWB]; simp
  have xWB : Bn WB (WA.heap.size) [.int .i64 0, .bool false, .int .i64 0, .string ⟨#[]⟩] := by rw [← eWB]; exact Bn.new WA [.int .i64 0, .bool false, .int .i64 0, .string ⟨#[]⟩] 30
  obtain ⟨WC, eWC⟩ : ∃ Y, ((((WB.setCell ⟨WA.heap.size, 0, none⟩ (.int .i64 v.k)).setCell ⟨WA.heap.size, 1, none⟩ (.bool v.b)).setCell ⟨WA.heap.size, 2, none⟩ (.int .i64 v.n)).setCell ⟨WA.heap.size, 3, none⟩ (.string v.t)) = Y := ⟨_, rfl⟩
  have kWC : Kp [WA.heap.size] WB WC := by rw [← eWC]; exact (((((Kp.refl _ _).setCell (by simp) _).setCell (by simp) _).setCell (by simp) _).setCell (by simp) _)
  have xWC : Bn WC (WA.heap.size) [.int .i64 v.k, .bool v.b, .int .i64 v.n, .string v.t] := by rw [← eWC]; exact ((((xWB.set 0 (by simp) (.int .i64 v.k)).set 1 (by simp) (.bool v.b)).set 2 (by simp) (.int .i64 v.n)).set 3 (by simp) (.string v.t))
  have zWC := kWC.size
  have ma0 := xWB.get 0 _ rfl; have ma1 := xWB.get 1 _ rfl; have ma2 := xWB.get 2 _ rfl; have ma3 := xWB.get 3 _ rfl
  have mf0 := xWB.free 0; have mf1 := xWB.free 1; have mf2 := xWB.free 2; have mf3 := xWB.free 3
  have va0 := xWC.get 0 _ rfl; have va1 := xWC.get 1 _ rfl; have va2 := xWC.get 2 _ rfl; have va3 := xWC.get 3 _ rfl
  have kC : Kp [] WA WC := kWB.trans kWC (fun x hx => .inr (by simp at hx; omega))
  have bC := bA.kept kC
  have tc0 := bC.get 0 _ rfl; have tc1 := bC.get 1 _ rfl; have tc2 := bC.get 2 _ rfl; have tc3 := bC.get 3 _ rfl; have tc4 := bC.get 4 _ rfl; have tc5 := bC.get 5 _ rfl
  have KW := hid (kA.trans kC (by simp))
  have HT := hid (hT.kept KW.out (by simp))
  have i1 : (0 : Int) ≤ (i : Int) := by omega
  have i2 : (i : Int) < (l.length : Int) := by omega
  have d2n : decide (l.length ≤ i) = false := by simp; omega
  have BB := hid (And.intro bC xWC)
  have zC : WA.heap.size < WC.heap.size := by omega
  have zD : w.heap.size < WA.heap.size := by omega
  have zE : w.heap.size < WC.heap.size := by omega
  have zA' : Hid (WA.heap.size = w.heap.size + 1) := hid zA
  clear zA hc hx hs hT kA kC kWB kWC xWB xWC bA bC h1 h2 zWB zWC
  obtain ⟨co, op, x⟩ := t
  obtain ⟨xk, xb, xn, xt⟩ := x
  obtain ⟨vk, vb, vn, vt⟩ := v
  simp only at *
  subst hi
  by_cases h6 : op = 6
  · subst h6
    clear HT BB
    rw [show termC 6 vk xk (cmpV ⟨vk, vb, vn, vt⟩ ⟨xk, xb, xn, xt⟩) = (vk == 0) from rfl]
    go_enter Tryd.func12, Tryd.ntmps12
    go_wp2_with fail
    go_returns
    exact ⟨rfl, KW.out⟩
  by_cases h7 : op = 7
  · subst h7
    clear HT BB
    rw [show termC 7 vk xk (cmpV ⟨vk, vb, vn, vt⟩ ⟨xk, xb, xn, xt⟩) = !(vk == 0) from rfl]
    go_enter Tryd.func12, Tryd.ntmps12
    go_wp2_with fail
    go_returns
    exact ⟨rfl, KW.out⟩
  have d6 : (op == 6) = false := by simpa using h6
  have d7 : (op == 7) = false := by simpa using h7
  have aO := hid (cOrdered op)
  have hF : Hid (∀ W', Kp [] WC W' → (W'.cell? ⟨w.heap.size, 0, none⟩ = some (.int .i64 (i : Int)) ∧ W'.cell? ⟨w.heap.size, 1, none⟩ = some (.int .i64 op) ∧ W'.cell? ⟨w.heap.size, 2, none⟩ = some (.int .i64 xk) ∧ W'.cell? ⟨w.heap.size, 3, none⟩ = some (.bool xb) ∧ W'.cell? ⟨w.heap.size, 4, none⟩ = some (.int .i64 xn) ∧ W'.cell? ⟨w.heap.size, 5, none⟩ = some (.string xt) ∧ W'.cell? ⟨WA.heap.size, 0, none⟩ = some (.int .i64 vk) ∧ W'.cell? ⟨WA.heap.size, 1, none⟩ = some (.bool vb) ∧ W'.cell? ⟨WA.heap.size, 2, none⟩ = some (.int .i64 vn) ∧ W'.cell? ⟨WA.heap.size, 3, none⟩ = some (.string vt))) := fun W' k => by
    have h1 := BB.out.1.kept k
    have h2 := BB.out.2.kept k
    exact ⟨h1.get 0 _ rfl, h1.get 1 _ rfl, h1.get 2 _ rfl, h1.get 3 _ rfl, h1.get 4 _ rfl, h1.get 5 _ rfl, h2.get 0 _ rfl, h2.get 1 _ rfl, h2.get 2 _ rfl, h2.get 3 _ rfl⟩
  by_cases h8 : 0 ≤ op ∧ op < 6
  · have hO : (decide (0 ≤ op) && decide (op < 6)) = true := by simp [h8]
    rw [hO] at aO
    clear hO
    have aFu := hid (fun W' (k : Kp [] WC W') => cFull WA.heap.size w.heap.size ⟨vk, vb, vn, vt⟩ ⟨(i : Int), op, ⟨xk, xb, xn, xt⟩⟩ W' (hF.out W' k).2.2.2.2.2.2.1 (hF.out W' k).2.2.1)
    simp only at aFu
    by_cases hf : vk = 0 ∨ xk = 0
    · have hR : Hid (termC op vk xk (cmpV ⟨vk, vb, vn, vt⟩ ⟨xk, xb, xn, xt⟩) = false) := by show _ = _; unfold termC; rw [if_neg h6, if_neg h7, if_pos hf]
      rw [hR.out]
      have hFF : (!(vk == 0) && !(xk == 0)) = false := by rcases hf with h | h <;> simp [h]
      rw [hFF] at aFu
      clear hFF hf hR HT h8 h6 h7
      go_enter Tryd.func12, Tryd.ntmps12
      go_wp2_with fail
      refine wp_region_held_drew (S := fun W' => W'.cell? ⟨w.heap.size, 0, none⟩ = some (.int .i64 (i : Int)) ∧ W'.cell? ⟨w.heap.size, 1, none⟩ = some (.int .i64 op) ∧ W'.cell? ⟨w.heap.size, 2, none⟩ = some (.int .i64 xk) ∧ W'.cell? ⟨w.heap.size, 3, none⟩ = some (.bool xb) ∧ W'.cell? ⟨w.heap.size, 4, none⟩ = some (.int .i64 xn) ∧ W'.cell? ⟨w.heap.size, 5, none⟩ = some (.string xt) ∧ W'.cell? ⟨WA.heap.size, 0, none⟩ = some (.int .i64 vk) ∧ W'.cell? ⟨WA.heap.size, 1, none⟩ = some (.bool vb) ∧ W'.cell? ⟨WA.heap.size, 2, none⟩ = some (.int .i64 vn) ∧ W'.cell? ⟨WA.heap.size, 3, none⟩ = some (.string vt)) (by kernel_rfl) ?_ (fun hHeld => ?_)
      · exact hF.out _ (Kp.refl _ _).drew
      have KD : Hid (Kp [] WC WC.drew) := hid (Kp.refl _ _).drew
      generalize WC.drew = Wd at *
      refine wpAnyH_take (i := 0) (v := ?_) rfl (by kernel_rfl) (by kernel_rfl) (by kernel_rfl) (fun _ _ _ h => h) (Or.inl ⟨by rfl, ?_⟩) (by assumption) ?_
      rotate_left
      · intro w hSw; (try dsimp only at hSw); go_simp <;> with_reducible rfl
      try simp only [Act.put, List.getElem_toArray, List.getElem_cons_zero, List.getElem_cons_succ, List.setIfInBounds_toArray, List.set_cons_zero, List.set_cons_succ]
      refine wpAnyH_take (i := 1) (v := ?_) rfl (by kernel_rfl) (by kernel_rfl) (by kernel_rfl) (fun _ _ _ h => h) (Or.inl ⟨by rfl, ?_⟩) (by assumption) ?_
      rotate_left
      · intro w hSw; (try dsimp only at hSw); go_simp <;> with_reducible rfl
      try simp only [Act.put, List.getElem_toArray, List.getElem_cons_zero, List.getElem_cons_succ, List.setIfInBounds_toArray, List.set_cons_zero, List.set_cons_succ]
      refine wpAnyH_ready (rs := [2]) (by kernel_rfl) (by simp) ?_
      refine AllReadyH.cons rfl (fun K hK => ?_) AllReadyH.nil
      go_simp
      refine (aO.out _).mono ?_
      rintro e wx ⟨rfl, ex⟩
      rw [ex]
      clear ex wx
      (try go_wp2_with fail)
      refine hK.out _ _ ?_ (fun hHeld => ?_)
      · exact hF.out _ KD.out
      clear hK K
      try simp only [Act.put, List.getElem_toArray, List.getElem_cons_zero, List.getElem_cons_succ, List.setIfInBounds_toArray, List.set_cons_zero, List.set_cons_succ]
      refine wpAnyH_take (i := 3) (v := ?_) rfl (by kernel_rfl) (by kernel_rfl) (by kernel_rfl) (fun _ _ _ h => h) (Or.inl ⟨by rfl, ?_⟩) (by assumption) ?_
      rotate_left
      · intro w hSw; (try dsimp only at hSw); go_simp <;> with_reducible rfl
      try simp only [Act.put, List.getElem_toArray, List.getElem_cons_zero, List.getElem_cons_succ, List.setIfInBounds_toArray, List.set_cons_zero, List.set_cons_succ]
      refine wpAnyH_take (i := 4) (v := ?_) rfl (by kernel_rfl) (by kernel_rfl) (by kernel_rfl) (fun _ _ _ h => h) (Or.inl ⟨by rfl, ?_⟩) (by assumption) ?_
      rotate_left
      · intro w hSw; (try dsimp only at hSw); go_simp <;> with_reducible rfl
      try simp only [Act.put, List.getElem_toArray, List.getElem_cons_zero, List.getElem_cons_succ, List.setIfInBounds_toArray, List.set_cons_zero, List.set_cons_succ]
      refine wpAnyH_ready (rs := [5]) (by kernel_rfl) (by simp) ?_
      refine AllReadyH.cons rfl (fun K hK => ?_) AllReadyH.nil
      go_simp
      refine (aFu.out _ KD.out).mono ?_
      rintro e wx ⟨rfl, ex⟩
      rw [ex]
      clear ex wx
      (try go_wp2_with fail)
      refine hK.out _ _ ?_ (fun hHeld => ?_)
      · exact hF.out _ KD.out
      clear hK K
      try simp only [Act.put, List.getElem_toArray, List.getElem_cons_zero, List.getElem_cons_succ, List.setIfInBounds_toArray, List.set_cons_zero, List.set_cons_succ]
      refine wpAnyH_take (i := 6) (v := ?_) rfl (by kernel_rfl) (by kernel_rfl) (by kernel_rfl) (fun _ _ _ h => h) (Or.inl ⟨by rfl, ?_⟩) (by assumption) ?_
      rotate_left
      · intro w hSw; (try dsimp only at hSw); go_simp <;> with_reducible rfl
      try simp only [Act.put, List.getElem_toArray, List.getElem_cons_zero, List.getElem_cons_succ, List.setIfInBounds_toArray, List.set_cons_zero, List.set_cons_succ]
      refine wpAnyH_take (i := 7) (v := ?_) rfl (by kernel_rfl) (by kernel_rfl) (by kernel_rfl) (fun _ _ _ h => h) (Or.inl ⟨by rfl, ?_⟩) (by assumption) ?_
      rotate_left
      · intro w hSw; (try dsimp only at hSw); go_simp <;> with_reducible rfl
      try simp only [Act.put, List.getElem_toArray, List.getElem_cons_zero, List.getElem_cons_succ, List.setIfInBounds_toArray, List.set_cons_zero, List.set_cons_succ]
      refine wpAnyH_take (i := 8) (v := undef) rfl (by kernel_rfl) (by kernel_rfl) (by kernel_rfl) (fun _ _ _ h => h) (Or.inr ⟨by rfl, rfl⟩) (by assumption) ?_
      try simp only [Act.put, List.getElem_toArray, List.getElem_cons_zero, List.getElem_cons_succ, List.setIfInBounds_toArray, List.set_cons_zero, List.set_cons_succ]
      refine wpAnyH_take (i := 9) (v := undef) rfl (by kernel_rfl) (by kernel_rfl) (by kernel_rfl) (fun _ _ _ h => h) (Or.inr ⟨by rfl, rfl⟩) (by assumption) ?_
      try simp only [Act.put, List.getElem_toArray, List.getElem_cons_zero, List.getElem_cons_succ, List.setIfInBounds_toArray, List.set_cons_zero, List.set_cons_succ]
      refine wpAnyH_take (i := 10) (v := undef) rfl (by kernel_rfl) (by kernel_rfl) (by kernel_rfl) (fun _ _ _ h => h) (Or.inr ⟨by rfl, rfl⟩) (by assumption) ?_
      try simp only [Act.put, List.getElem_toArray, List.getElem_cons_zero, List.getElem_cons_succ, List.setIfInBounds_toArray, List.set_cons_zero, List.set_cons_succ]
      refine wpAnyH_take (i := 11) (v := undef) rfl (by kernel_rfl) (by kernel_rfl) (by kernel_rfl) (fun _ _ _ h => h) (Or.inr ⟨by rfl, rfl⟩) (by assumption) ?_
      try simp only [Act.put, List.getElem_toArray, List.getElem_cons_zero, List.getElem_cons_succ, List.setIfInBounds_toArray, List.set_cons_zero, List.set_cons_succ]
      refine wpAnyH_take (i := 12) (v := undef) rfl (by kernel_rfl) (by kernel_rfl) (by kernel_rfl) (fun _ _ _ h => h) (Or.inr ⟨by rfl, rfl⟩) (by assumption) ?_
      try simp only [Act.put, List.getElem_toArray, List.getElem_cons_zero, List.getElem_cons_succ, List.setIfInBounds_toArray, List.set_cons_zero, List.set_cons_succ]
      refine wpAnyH_take (i := 13) (v := undef) rfl (by kernel_rfl) (by kernel_rfl) (by kernel_rfl) (fun _ _ _ h => h) (Or.inr ⟨by rfl, rfl⟩) (by assumption) ?_
      try simp only [Act.put, List.getElem_toArray, List.getElem_cons_zero, List.getElem_cons_succ, List.setIfInBounds_toArray, List.set_cons_zero, List.set_cons_succ]
      refine wpAnyH_take (i := 14) (v := undef) rfl (by kernel_rfl) (by kernel_rfl) (by kernel_rfl) (fun _ _ _ h => h) (Or.inr ⟨by rfl, rfl⟩) (by assumption) ?_
      try simp only [Act.put, List.getElem_toArray, List.getElem_cons_zero, List.getElem_cons_succ, List.setIfInBounds_toArray, List.set_cons_zero, List.set_cons_succ]
      refine wpAnyH_take (i := 15) (v := undef) rfl (by kernel_rfl) (by kernel_rfl) (by kernel_rfl) (fun _ _ _ h => h) (Or.inr ⟨by rfl, rfl⟩) (by assumption) ?_
      try simp only [Act.put, List.getElem_toArray, List.getElem_cons_zero, List.getElem_cons_succ, List.setIfInBounds_toArray, List.set_cons_zero, List.set_cons_succ]
      refine wpAnyH_take (i := 16) (v := undef) rfl (by kernel_rfl) (by kernel_rfl) (by kernel_rfl) (fun _ _ _ h => h) (Or.inr ⟨by rfl, rfl⟩) (by assumption) ?_
      try simp only [Act.put, List.getElem_toArray, List.getElem_cons_zero, List.getElem_cons_succ, List.setIfInBounds_toArray, List.set_cons_zero, List.set_cons_succ]
      refine wpAnyH_take (i := 17) (v := undef) rfl (by kernel_rfl) (by kernel_rfl) (by kernel_rfl) (fun _ _ _ h => h) (Or.inr ⟨by rfl, rfl⟩) (by assumption) ?_
      try simp only [Act.put, List.getElem_toArray, List.getElem_cons_zero, List.getElem_cons_succ, List.setIfInBounds_toArray, List.set_cons_zero, List.set_cons_succ]
      refine wpAnyH_take (i := 18) (v := ?_) rfl (by kernel_rfl) (by kernel_rfl) (by kernel_rfl) (fun _ _ _ h => h) (Or.inl ⟨by rfl, ?_⟩) (by assumption) ?_
      rotate_left
      · intro w hSw; (try dsimp only at hSw); go_simp <;> with_reducible rfl
      try simp only [Act.put, List.getElem_toArray, List.getElem_cons_zero, List.getElem_cons_succ, List.setIfInBounds_toArray, List.set_cons_zero, List.set_cons_succ]
      refine wpAnyH_take (i := 19) (v := ?_) rfl (by kernel_rfl) (by kernel_rfl) (by kernel_rfl) (fun _ _ _ h => h) (Or.inl ⟨by rfl, ?_⟩) (by assumption) ?_
      rotate_left
      · intro w hSw; (try dsimp only at hSw); go_simp <;> with_reducible rfl
      try simp only [Act.put, List.getElem_toArray, List.getElem_cons_zero, List.getElem_cons_succ, List.setIfInBounds_toArray, List.set_cons_zero, List.set_cons_succ]
      refine wpAnyH_done (by kernel_rfl) ?_ _
      clear hHeld
      go_wp2_with fail
      go_ret
      exact ⟨by rfl, KW.out.trans KD.out (by simp)⟩
    · have hR : Hid (termC op vk xk (cmpV ⟨vk, vb, vn, vt⟩ ⟨xk, xb, xn, xt⟩) = teC op (cmpV ⟨vk, vb, vn, vt⟩ ⟨xk, xb, xn, xt⟩)) := by show _ = _; unfold termC; rw [if_neg h6, if_neg h7, if_neg hf]
      rw [hR.out]
      have hFF : (!(vk == 0) && !(xk == 0)) = true := by simp only [not_or] at hf; simp [hf.1, hf.2]
      rw [hFF] at aFu
      have r1 := cmp_range ⟨vk, vb, vn, vt⟩ ⟨xk, xb, xn, xt⟩
      have aC := hid (fun W' => cCompare ⟨vk, vb, vn, vt⟩ ⟨xk, xb, xn, xt⟩ W')
      simp only [Val.v] at aC
      generalize cmpV ⟨vk, vb, vn, vt⟩ ⟨xk, xb, xn, xt⟩ = A at *
      obtain ⟨m, rfl⟩ := Int.eq_ofNat_of_zero_le h8.1
      have hm : m < 6 := by omega
      obtain ⟨n, hn⟩ := Int.eq_ofNat_of_zero_le (show 0 ≤ A + 1 by omega)
      have hn3 : n < 3 := by omega
      have hE : Hid (teC (m : Int) A = askL.getD (m * 3 + n) false) := by
        show _ = _
        obtain rfl : A = (n : Int) - 1 := by omega
        match m, hm with
        | 0, _ => match n, hn3 with
          | 0, _ => rfl
          | 1, _ => rfl
          | 2, _ => rfl
        | 1, _ => match n, hn3 with
          | 0, _ => rfl
          | 1, _ => rfl
          | 2, _ => rfl
        | 2, _ => match n, hn3 with
          | 0, _ => rfl
          | 1, _ => rfl
          | 2, _ => rfl
        | 3, _ => match n, hn3 with
          | 0, _ => rfl
          | 1, _ => rfl
          | 2, _ => rfl
        | 4, _ => match n, hn3 with
          | 0, _ => rfl
          | 1, _ => rfl
          | 2, _ => rfl
        | 5, _ => match n, hn3 with
          | 0, _ => rfl
          | 1, _ => rfl
          | 2, _ => rfl
        | m + 6, h => omega
      rw [hE.out]
      have wA : IntKind.i64.wrap (A + 1) = (n : Int) := by rw [hn, IntKind.wrap_i64]; omega
      have m1 : (0 : Int) ≤ (m : Int) := by omega
      have m2 : (m : Int) < 6 := by omega
      have n1 : (0 : Int) ≤ (n : Int) := by omega
      have n2 : (n : Int) < 3 := by omega
      have hF2 : Hid (∀ W', Kp [] WC W' → (W'.cell? ⟨w.heap.size, 0, none⟩ = some (.int .i64 (i : Int)) ∧ W'.cell? ⟨w.heap.size, 1, none⟩ = some (.int .i64 (m : Int)) ∧ W'.cell? ⟨w.heap.size, 2, none⟩ = some (.int .i64 xk) ∧ W'.cell? ⟨w.heap.size, 3, none⟩ = some (.bool xb) ∧ W'.cell? ⟨w.heap.size, 4, none⟩ = some (.int .i64 xn) ∧ W'.cell? ⟨w.heap.size, 5, none⟩ = some (.string xt) ∧ W'.cell? ⟨WA.heap.size, 0, none⟩ = some (.int .i64 vk) ∧ W'.cell? ⟨WA.heap.size, 1, none⟩ = some (.bool vb) ∧ W'.cell? ⟨WA.heap.size, 2, none⟩ = some (.int .i64 vn) ∧ W'.cell? ⟨WA.heap.size, 3, none⟩ = some (.string vt) ∧ W'.cell? ⟨0, m * 3 + n, none⟩ = some (.bool (askL.getD (m * 3 + n) false)))) := fun W' k => by
        have h1 := BB.out.1.kept k
        have h2 := BB.out.2.kept k
        exact ⟨h1.get 0 _ rfl, h1.get 1 _ rfl, h1.get 2 _ rfl, h1.get 3 _ rfl, h1.get 4 _ rfl, h1.get 5 _ rfl, h2.get 0 _ rfl, h2.get 1 _ rfl, h2.get 2 _ rfl, h2.get 3 _ rfl, (HT.out.kept k (by simp)).2 _ (by omega)⟩
      generalize askL.getD (m * 3 + n) false = R at *
      clear hFF hf hR HT h8 h6 h7 hE hn r1 hF
      have hF := hF2
      clear hF2
      go_enter Tryd.func12, Tryd.ntmps12
      go_wp2_with fail
      refine wp_region_held_drew (S := fun W' => W'.cell? ⟨w.heap.size, 0, none⟩ = some (.int .i64 (i : Int)) ∧ W'.cell? ⟨w.heap.size, 1, none⟩ = some (.int .i64 (m : Int)) ∧ W'.cell? ⟨w.heap.size, 2, none⟩ = some (.int .i64 xk) ∧ W'.cell? ⟨w.heap.size, 3, none⟩ = some (.bool xb) ∧ W'.cell? ⟨w.heap.size, 4, none⟩ = some (.int .i64 xn) ∧ W'.cell? ⟨w.heap.size, 5, none⟩ = some (.string xt) ∧ W'.cell? ⟨WA.heap.size, 0, none⟩ = some (.int .i64 vk) ∧ W'.cell? ⟨WA.heap.size, 1, none⟩ = some (.bool vb) ∧ W'.cell? ⟨WA.heap.size, 2, none⟩ = some (.int .i64 vn) ∧ W'.cell? ⟨WA.heap.size, 3, none⟩ = some (.string vt) ∧ W'.cell? ⟨0, m * 3 + n, none⟩ = some (.bool R)) (by kernel_rfl) ?_ (fun hHeld => ?_)
      · exact hF.out _ (Kp.refl _ _).drew
      have KD : Hid (Kp [] WC WC.drew) := hid (Kp.refl _ _).drew
      generalize WC.drew = Wd at *
      refine wpAnyH_take (i := 0) (v := ?_) rfl (by kernel_rfl) (by kernel_rfl) (by kernel_rfl) (fun _ _ _ h => h) (Or.inl ⟨by rfl, ?_⟩) (by assumption) ?_
      rotate_left
      · intro w hSw; (try dsimp only at hSw); go_simp <;> with_reducible rfl
      try simp only [Act.put, List.getElem_toArray, List.getElem_cons_zero, List.getElem_cons_succ, List.setIfInBounds_toArray, List.set_cons_zero, List.set_cons_succ]
      refine wpAnyH_take (i := 1) (v := ?_) rfl (by kernel_rfl) (by kernel_rfl) (by kernel_rfl) (fun _ _ _ h => h) (Or.inl ⟨by rfl, ?_⟩) (by assumption) ?_
      rotate_left
      · intro w hSw; (try dsimp only at hSw); go_simp <;> with_reducible rfl
      try simp only [Act.put, List.getElem_toArray, List.getElem_cons_zero, List.getElem_cons_succ, List.setIfInBounds_toArray, List.set_cons_zero, List.set_cons_succ]
      refine wpAnyH_ready (rs := [2]) (by kernel_rfl) (by simp) ?_
      refine AllReadyH.cons rfl (fun K hK => ?_) AllReadyH.nil
      go_simp
      refine (aO.out _).mono ?_
      rintro e wx ⟨rfl, ex⟩
      rw [ex]
      clear ex wx
      (try go_wp2_with fail)
      refine hK.out _ _ ?_ (fun hHeld => ?_)
      · exact hF.out _ KD.out
      clear hK K
      try simp only [Act.put, List.getElem_toArray, List.getElem_cons_zero, List.getElem_cons_succ, List.setIfInBounds_toArray, List.set_cons_zero, List.set_cons_succ]
      refine wpAnyH_take (i := 3) (v := ?_) rfl (by kernel_rfl) (by kernel_rfl) (by kernel_rfl) (fun _ _ _ h => h) (Or.inl ⟨by rfl, ?_⟩) (by assumption) ?_
      rotate_left
      · intro w hSw; (try dsimp only at hSw); go_simp <;> with_reducible rfl
      try simp only [Act.put, List.getElem_toArray, List.getElem_cons_zero, List.getElem_cons_succ, List.setIfInBounds_toArray, List.set_cons_zero, List.set_cons_succ]
      refine wpAnyH_take (i := 4) (v := ?_) rfl (by kernel_rfl) (by kernel_rfl) (by kernel_rfl) (fun _ _ _ h => h) (Or.inl ⟨by rfl, ?_⟩) (by assumption) ?_
      rotate_left
      · intro w hSw; (try dsimp only at hSw); go_simp <;> with_reducible rfl
      try simp only [Act.put, List.getElem_toArray, List.getElem_cons_zero, List.getElem_cons_succ, List.setIfInBounds_toArray, List.set_cons_zero, List.set_cons_succ]
      refine wpAnyH_ready (rs := [5]) (by kernel_rfl) (by simp) ?_
      refine AllReadyH.cons rfl (fun K hK => ?_) AllReadyH.nil
      go_simp
      refine (aFu.out _ KD.out).mono ?_
      rintro e wx ⟨rfl, ex⟩
      rw [ex]
      clear ex wx
      (try go_wp2_with fail)
      refine hK.out _ _ ?_ (fun hHeld => ?_)
      · exact hF.out _ KD.out
      clear hK K
      try simp only [Act.put, List.getElem_toArray, List.getElem_cons_zero, List.getElem_cons_succ, List.setIfInBounds_toArray, List.set_cons_zero, List.set_cons_succ]
      refine wpAnyH_take (i := 6) (v := ?_) rfl (by kernel_rfl) (by kernel_rfl) (by kernel_rfl) (fun _ _ _ h => h) (Or.inl ⟨by rfl, ?_⟩) (by assumption) ?_
      rotate_left
      · intro w hSw; (try dsimp only at hSw); go_simp <;> with_reducible rfl
      try simp only [Act.put, List.getElem_toArray, List.getElem_cons_zero, List.getElem_cons_succ, List.setIfInBounds_toArray, List.set_cons_zero, List.set_cons_succ]
      refine wpAnyH_take (i := 7) (v := ?_) rfl (by kernel_rfl) (by kernel_rfl) (by kernel_rfl) (fun _ _ _ h => h) (Or.inl ⟨by rfl, ?_⟩) (by assumption) ?_
      rotate_left
      · intro w hSw; (try dsimp only at hSw); go_simp <;> with_reducible rfl
      try simp only [Act.put, List.getElem_toArray, List.getElem_cons_zero, List.getElem_cons_succ, List.setIfInBounds_toArray, List.set_cons_zero, List.set_cons_succ]
      refine wpAnyH_take (i := 8) (v := ?_) rfl (by kernel_rfl) (by kernel_rfl) (by kernel_rfl) (fun _ _ _ h => h) (Or.inl ⟨by rfl, ?_⟩) (by assumption) ?_
      rotate_left
      · intro w hSw; (try dsimp only at hSw); go_simp <;> with_reducible rfl
      try simp only [Act.put, List.getElem_toArray, List.getElem_cons_zero, List.getElem_cons_succ, List.setIfInBounds_toArray, List.set_cons_zero, List.set_cons_succ]
      refine wpAnyH_take (i := 9) (v := ?_) rfl (by kernel_rfl) (by kernel_rfl) (by kernel_rfl) (fun _ _ _ h => h) (Or.inl ⟨by rfl, ?_⟩) (by assumption) ?_
      rotate_left
      · intro w hSw; (try dsimp only at hSw); go_simp <;> with_reducible rfl
      try simp only [Act.put, List.getElem_toArray, List.getElem_cons_zero, List.getElem_cons_succ, List.setIfInBounds_toArray, List.set_cons_zero, List.set_cons_succ]
      refine wpAnyH_take (i := 10) (v := ?_) rfl (by kernel_rfl) (by kernel_rfl) (by kernel_rfl) (fun _ _ _ h => h) (Or.inl ⟨by rfl, ?_⟩) (by assumption) ?_
      rotate_left
      · intro w hSw; (try dsimp only at hSw); go_simp <;> with_reducible rfl
      try simp only [Act.put, List.getElem_toArray, List.getElem_cons_zero, List.getElem_cons_succ, List.setIfInBounds_toArray, List.set_cons_zero, List.set_cons_succ]
      refine wpAnyH_take (i := 11) (v := ?_) rfl (by kernel_rfl) (by kernel_rfl) (by kernel_rfl) (fun _ _ _ h => h) (Or.inl ⟨by rfl, ?_⟩) (by assumption) ?_
      rotate_left
      · intro w hSw; (try dsimp only at hSw); go_simp <;> with_reducible rfl
      try simp only [Act.put, List.getElem_toArray, List.getElem_cons_zero, List.getElem_cons_succ, List.setIfInBounds_toArray, List.set_cons_zero, List.set_cons_succ]
      refine wpAnyH_take (i := 12) (v := ?_) rfl (by kernel_rfl) (by kernel_rfl) (by kernel_rfl) (fun _ _ _ h => h) (Or.inl ⟨by rfl, ?_⟩) (by assumption) ?_
      rotate_left
      · intro w hSw; (try dsimp only at hSw); go_simp <;> with_reducible rfl
      try simp only [Act.put, List.getElem_toArray, List.getElem_cons_zero, List.getElem_cons_succ, List.setIfInBounds_toArray, List.set_cons_zero, List.set_cons_succ]
      refine wpAnyH_take (i := 15) (v := ?_) rfl (by kernel_rfl) (by kernel_rfl) (by kernel_rfl) (fun _ _ _ h => h) (Or.inl ⟨by rfl, ?_⟩) (by assumption) ?_
      rotate_left
      · intro w hSw; (try dsimp only at hSw); go_simp <;> with_reducible rfl
      try simp only [Act.put, List.getElem_toArray, List.getElem_cons_zero, List.getElem_cons_succ, List.setIfInBounds_toArray, List.set_cons_zero, List.set_cons_succ]
      refine wpAnyH_ready (rs := [13]) (by kernel_rfl) (by simp) ?_
      refine AllReadyH.cons rfl (fun K hK => ?_) AllReadyH.nil
      go_simp
      refine (aC.out _).mono ?_
      rintro e w1 ⟨rfl, k1⟩
      (try go_wp2_with fail)
      refine hK.out _ _ ?_ (fun hHeld => ?_)
      · exact hF.out _ (KD.out.trans k1 (by simp))
      clear hK K
      try simp only [Act.put, List.getElem_toArray, List.getElem_cons_zero, List.getElem_cons_succ, List.setIfInBounds_toArray, List.set_cons_zero, List.set_cons_succ]
      have K1 := hid (KD.out.trans k1 (by simp))
      clear k1 KD
      refine wpAnyH_take (i := 14) (v := ?_) rfl (by kernel_rfl) (by kernel_rfl) (by kernel_rfl) (fun _ _ _ h => h) (Or.inl ⟨by rfl, ?_⟩) (by assumption) ?_
      rotate_left
      · intro w hSw; (try dsimp only at hSw); go_simp <;> (try simp only [wA]) <;> with_reducible rfl
      try simp only [Act.put, List.getElem_toArray, List.getElem_cons_zero, List.getElem_cons_succ, List.setIfInBounds_toArray, List.set_cons_zero, List.set_cons_succ]
      refine wpAnyH_take (i := 16) (v := ?_) rfl (by kernel_rfl) (by kernel_rfl) (by kernel_rfl) (fun _ _ _ h => h) (Or.inl ⟨by rfl, ?_⟩) (by assumption) ?_
      rotate_left
      · intro w hSw; (try dsimp only at hSw); go_simp <;> with_reducible rfl
      try simp only [Act.put, List.getElem_toArray, List.getElem_cons_zero, List.getElem_cons_succ, List.setIfInBounds_toArray, List.set_cons_zero, List.set_cons_succ]
      refine wpAnyH_take (i := 17) (v := ?_) rfl (by kernel_rfl) (by kernel_rfl) (by kernel_rfl) (fun _ _ _ h => h) (Or.inl ⟨by rfl, ?_⟩) (by assumption) ?_
      rotate_left
      · intro w hSw; (try dsimp only at hSw); go_simp <;> with_reducible rfl
      try simp only [Act.put, List.getElem_toArray, List.getElem_cons_zero, List.getElem_cons_succ, List.setIfInBounds_toArray, List.set_cons_zero, List.set_cons_succ]
      refine wpAnyH_take (i := 18) (v := ?_) rfl (by kernel_rfl) (by kernel_rfl) (by kernel_rfl) (fun _ _ _ h => h) (Or.inl ⟨by rfl, ?_⟩) (by assumption) ?_
      rotate_left
      · intro w hSw; (try dsimp only at hSw); go_simp <;> with_reducible rfl
      try simp only [Act.put, List.getElem_toArray, List.getElem_cons_zero, List.getElem_cons_succ, List.setIfInBounds_toArray, List.set_cons_zero, List.set_cons_succ]
      refine wpAnyH_take (i := 19) (v := ?_) rfl (by kernel_rfl) (by kernel_rfl) (by kernel_rfl) (fun _ _ _ h => h) (Or.inl ⟨by rfl, ?_⟩) (by assumption) ?_
      rotate_left
      · intro w hSw; (try dsimp only at hSw); go_simp <;> with_reducible rfl
      try simp only [Act.put, List.getElem_toArray, List.getElem_cons_zero, List.getElem_cons_succ, List.setIfInBounds_toArray, List.set_cons_zero, List.set_cons_succ]
      refine wpAnyH_done (by kernel_rfl) ?_ _
      clear hHeld
      go_wp2_with fail
      go_ret
      exact ⟨by rfl, KW.out.trans K1.out (by simp)⟩

  · have hO : (decide (0 ≤ op) && decide (op < 6)) = false := by simp; omega
    rw [hO] at aO
    have hR : Hid (termC op vk xk (cmpV ⟨vk, vb, vn, vt⟩ ⟨xk, xb, xn, xt⟩) = false) := by show _ = _; unfold termC teC; rw [if_neg h6, if_neg h7, if_neg (show ¬ op = 0 by omega), if_neg (show ¬ op = 1 by omega), if_neg (show ¬ op = 2 by omega), if_neg (show ¬ op = 3 by omega), if_neg (show ¬ op = 4 by omega), if_neg (show ¬ op = 5 by omega)]; simp
    rw [hR.out]
    clear hO hR HT h8 h6 h7
    go_enter Tryd.func12, Tryd.ntmps12
    go_wp2_with fail
    refine wp_region_held_drew (S := fun W' => W'.cell? ⟨w.heap.size, 0, none⟩ = some (.int .i64 (i : Int)) ∧ W'.cell? ⟨w.heap.size, 1, none⟩ = some (.int .i64 op) ∧ W'.cell? ⟨w.heap.size, 2, none⟩ = some (.int .i64 xk) ∧ W'.cell? ⟨w.heap.size, 3, none⟩ = some (.bool xb) ∧ W'.cell? ⟨w.heap.size, 4, none⟩ = some (.int .i64 xn) ∧ W'.cell? ⟨w.heap.size, 5, none⟩ = some (.string xt) ∧ W'.cell? ⟨WA.heap.size, 0, none⟩ = some (.int .i64 vk) ∧ W'.cell? ⟨WA.heap.size, 1, none⟩ = some (.bool vb) ∧ W'.cell? ⟨WA.heap.size, 2, none⟩ = some (.int .i64 vn) ∧ W'.cell? ⟨WA.heap.size, 3, none⟩ = some (.string vt)) (by kernel_rfl) ?_ (fun hHeld => ?_)
    · exact hF.out _ (Kp.refl _ _).drew
    have KD : Hid (Kp [] WC WC.drew) := hid (Kp.refl _ _).drew
    generalize WC.drew = Wd at *
    refine wpAnyH_take (i := 0) (v := ?_) rfl (by kernel_rfl) (by kernel_rfl) (by kernel_rfl) (fun _ _ _ h => h) (Or.inl ⟨by rfl, ?_⟩) (by assumption) ?_
    rotate_left
    · intro w hSw; (try dsimp only at hSw); go_simp <;> with_reducible rfl
    try simp only [Act.put, List.getElem_toArray, List.getElem_cons_zero, List.getElem_cons_succ, List.setIfInBounds_toArray, List.set_cons_zero, List.set_cons_succ]
    refine wpAnyH_take (i := 1) (v := ?_) rfl (by kernel_rfl) (by kernel_rfl) (by kernel_rfl) (fun _ _ _ h => h) (Or.inl ⟨by rfl, ?_⟩) (by assumption) ?_
    rotate_left
    · intro w hSw; (try dsimp only at hSw); go_simp <;> with_reducible rfl
    try simp only [Act.put, List.getElem_toArray, List.getElem_cons_zero, List.getElem_cons_succ, List.setIfInBounds_toArray, List.set_cons_zero, List.set_cons_succ]
    refine wpAnyH_ready (rs := [2]) (by kernel_rfl) (by simp) ?_
    refine AllReadyH.cons rfl (fun K hK => ?_) AllReadyH.nil
    go_simp
    refine (aO.out _).mono ?_
    rintro e wx ⟨rfl, ex⟩
    rw [ex]
    clear ex wx
    (try go_wp2_with fail)
    refine hK.out _ _ ?_ (fun hHeld => ?_)
    · exact hF.out _ KD.out
    clear hK K
    try simp only [Act.put, List.getElem_toArray, List.getElem_cons_zero, List.getElem_cons_succ, List.setIfInBounds_toArray, List.set_cons_zero, List.set_cons_succ]
    refine wpAnyH_take (i := 3) (v := ?_) rfl (by kernel_rfl) (by kernel_rfl) (by kernel_rfl) (fun _ _ _ h => h) (Or.inl ⟨by rfl, ?_⟩) (by assumption) ?_
    rotate_left
    · intro w hSw; (try dsimp only at hSw); go_simp <;> with_reducible rfl
    try simp only [Act.put, List.getElem_toArray, List.getElem_cons_zero, List.getElem_cons_succ, List.setIfInBounds_toArray, List.set_cons_zero, List.set_cons_succ]
    refine wpAnyH_take (i := 4) (v := undef) rfl (by kernel_rfl) (by kernel_rfl) (by kernel_rfl) (fun _ _ _ h => h) (Or.inr ⟨by rfl, rfl⟩) (by assumption) ?_
    try simp only [Act.put, List.getElem_toArray, List.getElem_cons_zero, List.getElem_cons_succ, List.setIfInBounds_toArray, List.set_cons_zero, List.set_cons_succ]
    refine wpAnyH_take (i := 5) (v := undef) rfl (by kernel_rfl) (by kernel_rfl) (by kernel_rfl) (fun _ _ _ h => h) (Or.inr ⟨by rfl, rfl⟩) (by assumption) ?_
    try simp only [Act.put, List.getElem_toArray, List.getElem_cons_zero, List.getElem_cons_succ, List.setIfInBounds_toArray, List.set_cons_zero, List.set_cons_succ]
    refine wpAnyH_take (i := 6) (v := ?_) rfl (by kernel_rfl) (by kernel_rfl) (by kernel_rfl) (fun _ _ _ h => h) (Or.inl ⟨by rfl, ?_⟩) (by assumption) ?_
    rotate_left
    · intro w hSw; (try dsimp only at hSw); go_simp <;> with_reducible rfl
    try simp only [Act.put, List.getElem_toArray, List.getElem_cons_zero, List.getElem_cons_succ, List.setIfInBounds_toArray, List.set_cons_zero, List.set_cons_succ]
    refine wpAnyH_take (i := 7) (v := ?_) rfl (by kernel_rfl) (by kernel_rfl) (by kernel_rfl) (fun _ _ _ h => h) (Or.inl ⟨by rfl, ?_⟩) (by assumption) ?_
    rotate_left
    · intro w hSw; (try dsimp only at hSw); go_simp <;> with_reducible rfl
    try simp only [Act.put, List.getElem_toArray, List.getElem_cons_zero, List.getElem_cons_succ, List.setIfInBounds_toArray, List.set_cons_zero, List.set_cons_succ]
    refine wpAnyH_take (i := 8) (v := undef) rfl (by kernel_rfl) (by kernel_rfl) (by kernel_rfl) (fun _ _ _ h => h) (Or.inr ⟨by rfl, rfl⟩) (by assumption) ?_
    try simp only [Act.put, List.getElem_toArray, List.getElem_cons_zero, List.getElem_cons_succ, List.setIfInBounds_toArray, List.set_cons_zero, List.set_cons_succ]
    refine wpAnyH_take (i := 9) (v := undef) rfl (by kernel_rfl) (by kernel_rfl) (by kernel_rfl) (fun _ _ _ h => h) (Or.inr ⟨by rfl, rfl⟩) (by assumption) ?_
    try simp only [Act.put, List.getElem_toArray, List.getElem_cons_zero, List.getElem_cons_succ, List.setIfInBounds_toArray, List.set_cons_zero, List.set_cons_succ]
    refine wpAnyH_take (i := 10) (v := undef) rfl (by kernel_rfl) (by kernel_rfl) (by kernel_rfl) (fun _ _ _ h => h) (Or.inr ⟨by rfl, rfl⟩) (by assumption) ?_
    try simp only [Act.put, List.getElem_toArray, List.getElem_cons_zero, List.getElem_cons_succ, List.setIfInBounds_toArray, List.set_cons_zero, List.set_cons_succ]
    refine wpAnyH_take (i := 11) (v := undef) rfl (by kernel_rfl) (by kernel_rfl) (by kernel_rfl) (fun _ _ _ h => h) (Or.inr ⟨by rfl, rfl⟩) (by assumption) ?_
    try simp only [Act.put, List.getElem_toArray, List.getElem_cons_zero, List.getElem_cons_succ, List.setIfInBounds_toArray, List.set_cons_zero, List.set_cons_succ]
    refine wpAnyH_take (i := 12) (v := undef) rfl (by kernel_rfl) (by kernel_rfl) (by kernel_rfl) (fun _ _ _ h => h) (Or.inr ⟨by rfl, rfl⟩) (by assumption) ?_
    try simp only [Act.put, List.getElem_toArray, List.getElem_cons_zero, List.getElem_cons_succ, List.setIfInBounds_toArray, List.set_cons_zero, List.set_cons_succ]
    refine wpAnyH_take (i := 13) (v := undef) rfl (by kernel_rfl) (by kernel_rfl) (by kernel_rfl) (fun _ _ _ h => h) (Or.inr ⟨by rfl, rfl⟩) (by assumption) ?_
    try simp only [Act.put, List.getElem_toArray, List.getElem_cons_zero, List.getElem_cons_succ, List.setIfInBounds_toArray, List.set_cons_zero, List.set_cons_succ]
    refine wpAnyH_take (i := 14) (v := undef) rfl (by kernel_rfl) (by kernel_rfl) (by kernel_rfl) (fun _ _ _ h => h) (Or.inr ⟨by rfl, rfl⟩) (by assumption) ?_
    try simp only [Act.put, List.getElem_toArray, List.getElem_cons_zero, List.getElem_cons_succ, List.setIfInBounds_toArray, List.set_cons_zero, List.set_cons_succ]
    refine wpAnyH_take (i := 15) (v := undef) rfl (by kernel_rfl) (by kernel_rfl) (by kernel_rfl) (fun _ _ _ h => h) (Or.inr ⟨by rfl, rfl⟩) (by assumption) ?_
    try simp only [Act.put, List.getElem_toArray, List.getElem_cons_zero, List.getElem_cons_succ, List.setIfInBounds_toArray, List.set_cons_zero, List.set_cons_succ]
    refine wpAnyH_take (i := 16) (v := undef) rfl (by kernel_rfl) (by kernel_rfl) (by kernel_rfl) (fun _ _ _ h => h) (Or.inr ⟨by rfl, rfl⟩) (by assumption) ?_
    try simp only [Act.put, List.getElem_toArray, List.getElem_cons_zero, List.getElem_cons_succ, List.setIfInBounds_toArray, List.set_cons_zero, List.set_cons_succ]
    refine wpAnyH_take (i := 17) (v := undef) rfl (by kernel_rfl) (by kernel_rfl) (by kernel_rfl) (fun _ _ _ h => h) (Or.inr ⟨by rfl, rfl⟩) (by assumption) ?_
    try simp only [Act.put, List.getElem_toArray, List.getElem_cons_zero, List.getElem_cons_succ, List.setIfInBounds_toArray, List.set_cons_zero, List.set_cons_succ]
    refine wpAnyH_take (i := 18) (v := ?_) rfl (by kernel_rfl) (by kernel_rfl) (by kernel_rfl) (fun _ _ _ h => h) (Or.inl ⟨by rfl, ?_⟩) (by assumption) ?_
    rotate_left
    · intro w hSw; (try dsimp only at hSw); go_simp <;> with_reducible rfl
    try simp only [Act.put, List.getElem_toArray, List.getElem_cons_zero, List.getElem_cons_succ, List.setIfInBounds_toArray, List.set_cons_zero, List.set_cons_succ]
    refine wpAnyH_take (i := 19) (v := ?_) rfl (by kernel_rfl) (by kernel_rfl) (by kernel_rfl) (fun _ _ _ h => h) (Or.inl ⟨by rfl, ?_⟩) (by assumption) ?_
    rotate_left
    · intro w hSw; (try dsimp only at hSw); go_simp <;> with_reducible rfl
    try simp only [Act.put, List.getElem_toArray, List.getElem_cons_zero, List.getElem_cons_succ, List.setIfInBounds_toArray, List.set_cons_zero, List.set_cons_succ]
    refine wpAnyH_done (by kernel_rfl) ?_ _
    clear hHeld
    go_wp2_with fail
    go_ret
    exact ⟨by rfl, KW.out.trans KD.out (by simp)⟩

end Go.Proofs.YtacoabmmhddbkaaDoor
end

section
namespace Go.Proofs.YtacoabmmhddbkaaDoor
open Go.RowKit Go.Hay
set_option linter.unusedVariables false
set_option linter.unusedSimpArgs false

set_option maxHeartbeats 16000000 in
set_option maxRecDepth 100000 in
theorem rTerm (t : Tm) (a : Option Addr) (cap : Nat) (l : List Val) (w : World) (hs : VE.See w a l) (hl : l.length ≤ 9223372036854775807) : Calls Tryd.prog 13 #[t.v, .slice a l.length cap] w fun e w' => e = .returned (.bool (termT t l)) ∧ Kp [] w w' := by
  obtain ⟨WA, eWA⟩ : ∃ Y, w.alloc (.cells #[.int .i64 t.co, .int .i64 t.op, .int .i64 t.x.k, .bool t.x.b, .int .i64 t.x.n, .string t.x.t] 32) = Y := ⟨_, rfl⟩
  have kA : Kp [] w WA := by rw [← eWA]; exact (Kp.refl _ _).alloc _
  have zA : WA.heap.size = w.heap.size + 1 := by rw [← eWA]; simp
  have bA : Bn WA w.heap.size [.int .i64 t.co, .int .i64 t.op, .int .i64 t.x.k, .bool t.x.b, .int .i64 t.x.n, .string t.x.t] := by rw [← eWA]; exact Bn.new w [.int .i64 t.co, .int .i64 t.op, .int .i64 t.x.k, .bool t.x.b, .int .i64 t.x.n, .string t.x.t] 32
  have ta0 := bA.get 0 _ rfl; have ta1 := bA.get 1 _ rfl; have ta2 := bA.get 2 _ rfl; have ta3 := bA.get 3 _ rfl; have ta4 := bA.get 4 _ rfl; have ta5 := bA.get 5 _ rfl
  unfold Tm.v
  by_cases h1 : t.co < 0
  · have d1 : decide (t.co < 0) = true := by simpa using h1
    rw [termT_out t l (.inl h1)]
    clear bA h1
    go_enter Tryd.func13, Tryd.ntmps13
    go_wp2_with fail
    go_returns
    exact ⟨rfl, kA⟩
  have d1 : decide (t.co < 0) = false := by simpa using h1
  by_cases h2 : (l.length : Int) ≤ t.co
  · have d2 : decide ((l.length : Int) ≤ t.co) = true := by simpa using h2
    rw [termT_out t l (.inr h2)]
    clear bA h1 h2
    go_enter Tryd.func13, Tryd.ntmps13
    go_wp2_with fail
    go_returns
    exact ⟨rfl, kA⟩
  have d2 : decide ((l.length : Int) ≤ t.co) = false := by simpa using h2
  obtain ⟨i, hi⟩ := Int.eq_ofNat_of_zero_le (show 0 ≤ t.co by omega)
  have hil : i < l.length := by omega
  rw [termT_at t l i hil hi]
  have hx : l[i]? = some l[i] := by simp [hil]
  obtain ⟨g, o, rfl, hc⟩ := (hs.keptNew kA).at hx
  have v0 := hc 0 _ rfl; have v1 := hc 1 _ rfl; have v2 := hc 2 _ rfl; have v3 := hc 3 _ rfl
  simp only [show VE.n = 4 from rfl, Nat.add_zero] at v0 v1 v2 v3
  generalize l[i] = v at *
  obtain ⟨WB, eWB⟩ : ∃ Y, WA.alloc (.cells #[.int .i64 0, .bool false, .int .i64 0, .string ⟨#[]⟩] 30) = Y := ⟨_, rfl⟩
  have kWB : Kp [] WA WB := by rw [← eWB]; exact (Kp.refl _ _).alloc _
  have zWB : WB.heap.size = WA.heap.size + 1 := by rw [← eWB]; simp
  have xWB : Bn WB (WA.heap.size) [.int .i64 0, .bool false, .int .i64 0, .string ⟨#[]⟩] := by rw [← eWB]; exact Bn.new WA [.int .i64 0, .bool false, .int .i64 0, .string ⟨#[]⟩] 30
  obtain ⟨WC, eWC⟩ : ∃ Y, ((((WB.setCell ⟨WA.heap.size, 0, none⟩ (.int .i64 v.k)).setCell ⟨WA.heap.size, 1, none⟩ (.bool v.b)).setCell ⟨WA.heap.size, 2, none⟩ (.int .i64 v.n)).setCell ⟨WA.heap.size, 3, none⟩ (.string v.t)) = Y := ⟨_, rfl⟩
  have kWC : Kp [WA.heap.size] WB WC := by rw [← eWC]; exact (((((Kp.refl _ _).setCell (by simp) _).setCell (by simp) _).setCell (by simp) _).setCell (by simp) _)
  have xWC : Bn WC (WA.heap.size) [.int .i64 v.k, .bool v.b, .int .i64 v.n, .string v.t] := by rw [← eWC]; exact ((((xWB.set 0 (by simp) (.int .i64 v.k)).set 1 (by simp) (.bool v.b)).set 2 (by simp) (.int .i64 v.n)).set 3 (by simp) (.string v.t))
  have zWC := kWC.size
  have ma0 := xWB.get 0 _ rfl; have ma1 := xWB.get 1 _ rfl; have ma2 := xWB.get 2 _ rfl; have ma3 := xWB.get 3 _ rfl
  have mf0 := xWB.free 0; have mf1 := xWB.free 1; have mf2 := xWB.free 2; have mf3 := xWB.free 3
  have va0 := xWC.get 0 _ rfl; have va1 := xWC.get 1 _ rfl; have va2 := xWC.get 2 _ rfl; have va3 := xWC.get 3 _ rfl
  have kC : Kp [] WA WC := kWB.trans kWC (fun x hx => .inr (by simp at hx; omega))
  have bC := bA.kept kC
  have tc0 := bC.get 0 _ rfl; have tc1 := bC.get 1 _ rfl; have tc2 := bC.get 2 _ rfl; have tc3 := bC.get 3 _ rfl; have tc4 := bC.get 4 _ rfl; have tc5 := bC.get 5 _ rfl
  have KW := hid (kA.trans kC (by simp))
  have i1 : (0 : Int) ≤ (i : Int) := by omega
  have i2 : (i : Int) < (l.length : Int) := by omega
  have d2n : decide (l.length ≤ i) = false := by simp; omega
  have BB := hid (And.intro bC xWC)
  have zC : WA.heap.size < WC.heap.size := by omega
  have zD : w.heap.size < WA.heap.size := by omega
  have zE : w.heap.size < WC.heap.size := by omega
  have zA' : Hid (WA.heap.size = w.heap.size + 1) := hid zA
  clear zA hc hx hs kA kC kWB kWC xWB xWC bA bC h1 h2 zWB zWC
  obtain ⟨co, op, x⟩ := t
  obtain ⟨xk, xb, xn, xt⟩ := x
  obtain ⟨vk, vb, vn, vt⟩ := v
  simp only at *
  subst hi
  by_cases h6 : op = 6
  · subst h6
    clear BB
    rw [show termC 6 vk xk (cmpV ⟨vk, vb, vn, vt⟩ ⟨xk, xb, xn, xt⟩) = (vk == 0) from rfl]
    go_enter Tryd.func13, Tryd.ntmps13
    go_wp2_with fail
    go_returns
    exact ⟨rfl, KW.out⟩
  by_cases h7 : op = 7
  · subst h7
    clear BB
    rw [show termC 7 vk xk (cmpV ⟨vk, vb, vn, vt⟩ ⟨xk, xb, xn, xt⟩) = !(vk == 0) from rfl]
    go_enter Tryd.func13, Tryd.ntmps13
    go_wp2_with fail
    go_returns
    exact ⟨rfl, KW.out⟩
  have d6 : (op == 6) = false := by simpa using h6
  have d7 : (op == 7) = false := by simpa using h7
  by_cases hv : vk = 0
  · subst hv
    have hR : Hid (termC op 0 xk (cmpV ⟨0, vb, vn, vt⟩ ⟨xk, xb, xn, xt⟩) = false) := by show _ = _; unfold termC; rw [if_neg h6, if_neg h7, if_pos (.inl rfl)]
    rw [hR.out]
    clear BB h6 h7
    go_enter Tryd.func13, Tryd.ntmps13
    go_wp2_with fail
    go_returns
    exact ⟨rfl, KW.out⟩
  have dv : (vk == 0) = false := by simpa using hv
  by_cases hx : xk = 0
  · subst hx
    have hR : Hid (termC op vk 0 (cmpV ⟨vk, vb, vn, vt⟩ ⟨0, xb, xn, xt⟩) = false) := by show _ = _; unfold termC; rw [if_neg h6, if_neg h7, if_pos (.inr rfl)]
    rw [hR.out]
    clear BB h6 h7 hv
    go_enter Tryd.func13, Tryd.ntmps13
    go_wp2_with fail
    go_returns
    exact ⟨rfl, KW.out⟩
  have dx : (xk == 0) = false := by simpa using hx
  have hR : Hid (termC op vk xk (cmpV ⟨vk, vb, vn, vt⟩ ⟨xk, xb, xn, xt⟩) = teC op (cmpV ⟨vk, vb, vn, vt⟩ ⟨xk, xb, xn, xt⟩)) := by show _ = _; unfold termC; rw [if_neg h6, if_neg h7, if_neg (by omega)]
  rw [hR.out]
  have r1 := cmp_range ⟨vk, vb, vn, vt⟩ ⟨xk, xb, xn, xt⟩
  have aC := hid (fun W' => cRefCompare ⟨vk, vb, vn, vt⟩ ⟨xk, xb, xn, xt⟩ W')
  simp only [Val.v] at aC
  generalize cmpV ⟨vk, vb, vn, vt⟩ ⟨xk, xb, xn, xt⟩ = A at *
  clear hR h6 h7 hv hx
  go_enter Tryd.func13, Tryd.ntmps13
  go_wp2_with fail
  refine (aC.out _).mono ?_
  rintro e w1 ⟨rfl, k1⟩
  have b1 := BB.out.1.kept k1
  have s1 := b1.get 1 _ rfl
  have K1 := hid (KW.out.trans k1 (by simp))
  clear b1 BB k1 aC eWA eWB eWC ta0 ta1 ta2 ta3 ta4 ta5 tc0 tc1 tc2 tc3 tc4 tc5 va0 va1 va2 va3 ma0 ma1 ma2 ma3 mf0 mf1 mf2 mf3
  rcases (show op = 0 ∨ op = 1 ∨ op = 2 ∨ op = 3 ∨ op = 4 ∨ op = 5 ∨ (op ≠ 0 ∧ op ≠ 1 ∧ op ≠ 2 ∧ op ≠ 3 ∧ op ≠ 4 ∧ op ≠ 5) by omega) with h | h | h | h | h | h | h
  all_goals first | subst h | (obtain ⟨h0, h1, h2, h3, h4, h5⟩ := h; have e0 : (op == 0) = false := beq_eq_false_iff_ne.2 h0; have e1 : (op == 1) = false := beq_eq_false_iff_ne.2 h1; have e2 : (op == 2) = false := beq_eq_false_iff_ne.2 h2; have e3 : (op == 3) = false := beq_eq_false_iff_ne.2 h3; have e4 : (op == 4) = false := beq_eq_false_iff_ne.2 h4; have e5 : (op == 5) = false := beq_eq_false_iff_ne.2 h5)
  all_goals (rcases r1 with f1 | f1 | f1 <;> subst f1 <;> (go_wp2_with fail) <;> go_ret <;> exact ⟨by simp [teC, *], K1.out⟩)
end Go.Proofs.YtacoabmmhddbkaaDoor
end

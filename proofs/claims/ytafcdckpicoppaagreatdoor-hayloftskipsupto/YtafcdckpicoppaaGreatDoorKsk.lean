/- HayloftSkips (second form): reading only those blocks whose heads allow the term finds the places of all values of which it is true, and no other, where what is given is of bulk at most 1048576. -/
import Derived.Test.YtafcdckpicoppaaGreatDoorB15
import Derived.Test.YtafcdckpicoppaaGreatDoorB13
import Derived.Test.YtafcdckpicoppaaGreatDoorB10
import Derived.Test.YtafcdckpicoppaaGreatDoorB3
import Derived.Test.YtafcdckpicoppaaGreatDoorB1
import Derived.RangeFuncLeaves
import Derived.RangeFuncRecord
import Derived.Test.YtafcdckpicoppaaGreatDoorB16
import Derived.Test.YtafcdckpicoppaaGreatDoorB14
import Derived.OrdersHeld
import Derived.OrdersIn
import Derived.OwnWalkIn
import Derived.RangeFuncCalls
import Derived.Deep.RegionHeld3
import Derived.Test.YtafcdckpicoppaaGreatDoorB11
import Derived.Laws.IdiomArrays
import Derived.Deep.DeepHandedRow
import Derived.Lib.LaidTab
import Derived.SizedLaws
import Derived.JoinedCond
import Derived.Deep.CondSized
section
namespace Go.Proofs.YtafcdckpicoppaaGreatDoor
open Go.RowKit Go.Hay
set_option linter.unusedVariables false
set_option linter.unusedSimpArgs false

/-- The kind that is asked for the list at a place. -/
def kAt (ks : List Int) (i : Nat) : Int := if h : i < ks.length then ks[i] else -1
/-- The bytes of the lists from a place on. -/
def mB (ks : List Int) : Nat → List (List Val) → List UInt8
  | _, [] => []
  | i, x :: r => (wrB (kAt ks i) x).1 ++ mB ks (i + 1) r
/-- .. and the values of those that could be written. -/
def mV (ks : List Int) : Nat → List (List Val) → List Val
  | _, [] => []
  | i, x :: r => (if (wrB (kAt ks i) x).2 = 0 then x else []) ++ mV ks (i + 1) r
theorem wrB_not {k : Int} {l : List Val} (h : (wrB k l).2 ≠ 0) : (wrB k l).1 = [] := by
  unfold wrB at h ⊢
  by_cases h0 : l.length = 0
  · rw [if_pos h0]
  · rw [if_neg h0] at h ⊢
    by_cases h1 : refE (kindW k l) l = 0
    · rw [if_pos h1] at h; exact absurd rfl h
    · rw [if_neg h1]
theorem wrB_is {k : Int} {l : List Val} (h : (wrB k l).2 = 0) : 0 < l.length ∧ refE (kindW k l) l = 0 ∧ (wrB k l).1 = blkB (kindW k l) l := by
  unfold wrB at h ⊢
  by_cases h0 : l.length = 0
  · rw [if_pos h0] at h; cases h
  · rw [if_neg h0] at h ⊢
    by_cases h1 : refE (kindW k l) l = 0
    · rw [if_pos h1]; exact ⟨by omega, h1, rfl⟩
    · rw [if_neg h1] at h; exact absurd h h1
theorem wrB_len (k : Int) (l : List Val) : (wrB k l).1.length ≤ 10200 := by
  by_cases h : (wrB k l).2 = 0
  · obtain ⟨h0, h1, e⟩ := wrB_is h
    rw [e]
    exact blkB_le _ _ h1 h0
  · rw [wrB_not h]; simp
theorem allV_many (ks : List Int) : ∀ (l : List (List Val)) (i : Nat), (∀ x ∈ l, ∀ y ∈ x, y.in64) → allV (mB ks i l) = mV ks i l
  | [], i, _ => allV_end (.inl rfl)
  | x :: r, i, h => by
    have ih := allV_many ks r (i + 1) (fun y hy => h y (by simp [hy]))
    rw [mB, mV]
    by_cases h0 : (wrB (kAt ks i) x).2 = 0
    · obtain ⟨hp, h1, e⟩ := wrB_is h0
      rw [if_pos h0, e, allV_step (rdR_blk _ x hp (h x (by simp)) h1 _), List.drop_left, ih]
    · rw [if_neg h0, wrB_not h0, List.nil_append, List.nil_append, ih]
theorem mB_len (ks : List Int) : ∀ (l : List (List Val)) (i : Nat), (mB ks i l).length ≤ 10200 * l.length
  | [], i => by simp [mB]
  | x :: r, i => by
    have := mB_len ks r (i + 1)
    have := wrB_len (kAt ks i) x
    rw [mB, List.length_append, List.length_cons]
    omega
theorem mV_len (ks : List Int) : ∀ (l : List (List Val)) (i : Nat), (mV ks i l).length ≤ (l.map List.length).sum
  | [], i => by simp [mV]
  | x :: r, i => by
    have := mV_len ks r (i + 1)
    rw [mV, List.length_append, List.map_cons, List.sum_cons]
    split
    · omega
    · simp; omega
/-- Bytes that a slice sees, behind a row; long ones. -/
theorem appB {W : World} {a : Option Addr} {c : Nat} {bs : List UInt8} (h : BytE.Row W (.slice a bs.length c) bs) (a2 : Option Addr) (c2 : Nat) (ys : List UInt8) (hs : Sees W a2 ys) (hl : bs.length ≤ 1000000000000) (hy : ys.length ≤ 100000) :
    ∃ a' c' W', (Builtin.append_ #[28, 28] 28 #[.slice a bs.length c, .slice a2 ys.length c2]).run Tryz.prog W = .ok (.slice a' (bs ++ ys).length c') W' ∧ BytE.Row W' (.slice a' (bs ++ ys).length c') (bs ++ ys) ∧ Kp (blk a) W W' ∧ ∀ k ∈ blk a', k ∈ blk a ∨ W.heap.size ≤ k := by
  obtain ⟨i0, hi, hz0, hz1, hz2⟩ := infoU'
  have hsrc := (seeByt.2 hs).src (P := Tryz.prog) Tryz.underlying28 c2
  obtain ⟨v6, X4, hrun2, hrow6, kk6, hn6⟩ := run_appendG (E := BytE) (P := Tryz.prog) _ 28 28 28 5 i0 _ 1 Tryz.underlying28 hi hz0 hz1 hz2 rfl (.slice a bs.length c) bs h _ ys hsrc (by omega) (by omega)
  obtain ⟨a6, c6, rfl, _⟩ := hrow6.see
  rw [ownS] at kk6
  simp only [ownS] at hn6
  exact ⟨a6, c6, X4, hrun2, hrow6, kk6, hn6⟩
/-- Values that a slice sees, behind a row. -/
theorem appV {W : World} {a : Option Addr} {c : Nat} {l : List Val} (h : VE.Row W (.slice a l.length c) l) (a2 : Option Addr) (c2 : Nat) (ys : List Val) (hs : Vals W a2 ys) (hl : l.length ≤ 1000000000) (hy : ys.length ≤ 1000000000) :
    ∃ a' c' W', (Builtin.append_ #[32, 32] 32 #[.slice a l.length c, .slice a2 ys.length c2]).run Tryz.prog W = .ok (.slice a' (l ++ ys).length c') W' ∧ VE.Row W' (.slice a' (l ++ ys).length c') (l ++ ys) ∧ Kp (blk a) W W' ∧ ∀ k ∈ blk a', k ∈ blk a ∨ W.heap.size ≤ k := by
  obtain ⟨i0, hi, hz0, hz1, hz2⟩ := infoV'
  have hsrc := (seeV.2 hs).src (P := Tryz.prog) Tryz.underlying32 c2
  obtain ⟨v6, X4, hrun2, hrow6, kk6, hn6⟩ := run_appendG (E := VE) (P := Tryz.prog) _ 32 32 32 25 i0 _ 40 Tryz.underlying32 hi hz0 hz1 hz2 rfl (.slice a l.length c) l h _ ys hsrc (by omega) (by omega)
  obtain ⟨a6, c6, rfl, _⟩ := hrow6.see
  rw [ownS] at kk6
  simp only [ownS] at hn6
  exact ⟨a6, c6, X4, hrun2, hrow6, kk6, hn6⟩
/-- How the two rows stand: bytes, and values whose slice lies in a box. -/
structure MI (w2 : World) (q6 : Nat) (W : World) (ba : Option Addr) (bc : Nat) (bs : List UInt8) (va : Option Addr) (vc : Nat) (vs : List Val) : Prop where
  b : BytE.Row W (.slice ba bs.length bc) bs
  v : VE.Row W (.slice va vs.length vc) vs
  bn : ∀ k ∈ blk ba, w2.heap.size ≤ k
  vn : ∀ k ∈ blk va, w2.heap.size ≤ k
  ne : ∀ k ∈ blk ba, k ∉ blk va
  bx : Bx W q6 [.slice va vs.length vc]
  kp : Kp [q6] w2 W
theorem blkLtB {W : World} {a : Option Addr} {c : Nat} {bs : List UInt8} (h : BytE.Row W (.slice a bs.length c) bs) : ∀ k ∈ blk a, k < W.heap.size := fun k hk => h.lt k (by rw [ownS]; exact hk)
theorem blkLtV {W : World} {a : Option Addr} {c : Nat} {bs : List Val} (h : VE.Row W (.slice a bs.length c) bs) : ∀ k ∈ blk a, k < W.heap.size := fun k hk => h.lt k (by rw [ownS]; exact hk)
theorem MI.keep {w2 : World} {q6 : Nat} {W W' : World} {ba : Option Addr} {bc : Nat} {bs : List UInt8} {va : Option Addr} {vc : Nat} {vs : List Val} (h : MI w2 q6 W ba bc bs va vc vs) (k : Kp [] W W') : MI w2 q6 W' ba bc bs va vc vs :=
  ⟨h.b.keptNew k, h.v.keptNew k, h.bn, h.vn, h.ne, h.bx.kept k (by simp) (h.bx.lt (by simp)), h.kp.trans k (by simp)⟩
theorem MI.addB {w2 : World} {q6 : Nat} {W W' : World} {ba : Option Addr} {bc : Nat} {bs : List UInt8} {va : Option Addr} {vc : Nat} {vs : List Val} (hq : q6 < w2.heap.size) (h : MI w2 q6 W ba bc bs va vc vs)
    {a' : Option Addr} {c' : Nat} {bs' : List UInt8} (hr : BytE.Row W' (.slice a' bs'.length c') bs') (k : Kp (blk ba) W W') (hn : ∀ k ∈ blk a', k ∈ blk ba ∨ W.heap.size ≤ k) : MI w2 q6 W' a' c' bs' va vc vs := by
  refine ⟨hr, h.v.kept k (fun j hj hm => h.ne j hm (by rw [ownS] at hj; exact hj)), fun j hj => ?_, h.vn, fun j hj hm => ?_, h.bx.kept k (fun hm => ?_) (h.bx.lt (by simp)), h.kp.trans k (fun j hj => .inr (h.bn j hj))⟩
  · rcases hn j hj with e | e
    · exact h.bn j e
    · have := h.kp.size; omega
  · rcases hn j hj with e | e
    · exact h.ne j e hm
    · have := blkLtV h.v j hm; omega
  · have := h.bn _ hm; omega
theorem MI.addV {w2 : World} {q6 : Nat} {W W' : World} {ba : Option Addr} {bc : Nat} {bs : List UInt8} {va : Option Addr} {vc : Nat} {vs : List Val} (hq : q6 < w2.heap.size) (h : MI w2 q6 W ba bc bs va vc vs)
    {a' : Option Addr} {c' : Nat} {vs' : List Val} (hr : VE.Row W' (.slice a' vs'.length c') vs') (k : Kp (blk va) W W') (hn : ∀ k ∈ blk a', k ∈ blk va ∨ W.heap.size ≤ k) : Bx W' q6 [.slice va vs.length vc] ∧ MI w2 q6 (W'.setCell ⟨q6, 0, none⟩ (.slice a' vs'.length c')) ba bc bs a' c' vs' := by
  have hbx := h.bx.kept k (fun hm => by have := h.vn _ hm; omega) (h.bx.lt (by simp))
  have kS : Kp [q6] W' (W'.setCell ⟨q6, 0, none⟩ (.slice a' vs'.length c')) := (Kp.refl _ _).setCell (by simp) _
  have hvn : ∀ j ∈ blk a', w2.heap.size ≤ j := fun j hj => by
    rcases hn j hj with e | e
    · exact h.vn j e
    · have := h.kp.size; omega
  refine ⟨hbx, (h.b.kept k (fun j hj hm => h.ne j (by rw [ownS] at hj; exact hj) hm)).kept kS (fun j hj hm => by rw [ownS] at hj; have := h.bn j hj; simp at hm; omega), hr.kept kS (fun j hj hm => by rw [ownS] at hj; have := hvn j hj; simp at hm; omega), h.bn, hvn, fun j hj hm => ?_, ?_, (h.kp.trans k (fun j hj => .inr (h.vn j hj))).trans kS (fun j hj => .inl hj)⟩
  · rcases hn j hm with e | e
    · exact h.ne j hj e
    · have := blkLtB h.b j hj; omega
  · have := hbx.set 0 (by simp) (.slice a' vs'.length c')
    exact this
end Go.Proofs.YtafcdckpicoppaaGreatDoor
end

section
namespace Go.Proofs.YtafcdckpicoppaaGreatDoor
open Go.RowKit Go.Hay
set_option linter.unusedVariables false
set_option linter.unusedSimpArgs false

theorem min_le (l : List Val) : ∀ j i, i ≤ j → cmpV (minTo l j) (l.getD i nv) ≤ 0
  | 0, i, h => by
    obtain rfl : i = 0 := by omega
    show cmpV (l.getD 0 nv) (l.getD 0 nv) ≤ 0
    rw [cmp_self]; omega
  | j + 1, i, h => by
    unfold minTo
    by_cases hc : cmpV (l.getD (j + 1) nv) (minTo l j) < 0
    · rw [if_pos hc]
      by_cases e : i = j + 1
      · rw [e, cmp_self]; omega
      · exact cmp_trans _ _ _ (by omega) (min_le l j i (by omega))
    · rw [if_neg hc]
      by_cases e : i = j + 1
      · rw [e]
        have := cmp_neg (l.getD (j + 1) nv) (minTo l j)
        omega
      · exact min_le l j i (by omega)
theorem max_ge (l : List Val) : ∀ j i, i ≤ j → cmpV (l.getD i nv) (maxTo l j) ≤ 0
  | 0, i, h => by
    obtain rfl : i = 0 := by omega
    show cmpV (l.getD 0 nv) (l.getD 0 nv) ≤ 0
    rw [cmp_self]; omega
  | j + 1, i, h => by
    unfold maxTo
    by_cases hc : 0 < cmpV (l.getD (j + 1) nv) (maxTo l j)
    · rw [if_pos hc]
      by_cases e : i = j + 1
      · rw [e, cmp_self]; omega
      · refine cmp_trans _ _ _ (max_ge l j i (by omega)) ?_
        have := cmp_neg (l.getD (j + 1) nv) (maxTo l j)
        omega
    · rw [if_neg hc]
      by_cases e : i = j + 1
      · rw [e]; omega
      · exact max_ge l j i (by omega)
theorem nulls_some (l : List Val) (i : Nat) (h : i < l.length) (hk : (l.getD i nv).k = 0) : 0 < nullsV l := by
  have e : l.getD i nv = l[i] := by simp [h]
  unfold nullsV
  rw [List.countP_pos_iff]
  exact ⟨l[i], List.getElem_mem h, by rw [← e, hk]; rfl⟩
theorem nulls_full (l : List Val) (i : Nat) (h : i < l.length) (hk : (l.getD i nv).k ≠ 0) : nullsV l < l.length := by
  have e : l.getD i nv = l[i] := by simp [h]
  have h1 := nulls_le l
  rcases Nat.lt_or_eq_of_le h1 with h2 | h2
  · exact h2
  · exfalso
    unfold nullsV at h2
    rw [List.countP_eq_length] at h2
    have := h2 l[i] (List.getElem_mem h)
    rw [← e] at this
    simp at this
    exact hk this
/-- If a value makes a term true, the head says that it may. -/
theorem may_of (l : List Val) (i : Nat) (h : i < l.length) (op : Int) (v : Val) (ht : termC op (l.getD i nv).k v.k (cmpV (l.getD i nv) v) = true) :
    mayC op (nullsV l) l.length v.k (cmpV (minV l) v) (cmpV (maxV l) v) = true := by
  have hmin : cmpV (minV l) (l.getD i nv) ≤ 0 := min_le l (l.length - 1) i (by omega)
  have hmax : cmpV (l.getD i nv) (maxV l) ≤ 0 := max_ge l (l.length - 1) i (by omega)
  have hs := nulls_some l i h
  have hf := nulls_full l i h
  generalize l.getD i nv = x at *
  generalize minV l = m at *
  generalize maxV l = g at *
  unfold termC at ht
  unfold mayC
  by_cases h6 : op = 6
  · rw [if_pos h6] at ht ⊢
    have hk : x.k = 0 := by simpa using ht
    have := hs hk
    simp; omega
  rw [if_neg h6] at ht ⊢
  by_cases h7 : op = 7
  · rw [if_pos h7] at ht ⊢
    have hk : x.k ≠ 0 := by simpa using ht
    have := hf hk
    simp; omega
  rw [if_neg h7] at ht ⊢
  by_cases hz : x.k = 0 ∨ v.k = 0
  · rw [if_pos hz] at ht; cases ht
  rw [if_neg hz] at ht
  have hx : x.k ≠ 0 := fun e => hz (.inl e)
  have hff := hf hx
  rw [if_neg (by intro e; rcases e with e | e; omega; exact hz (.inr e))]
  have hle : cmpV x v ≤ 0 → cmpV m v ≤ 0 := fun e => cmp_trans _ _ _ hmin e
  have hlt : cmpV x v < 0 → cmpV m v < 0 := fun e => cmp_strict' _ _ _ hmin e
  have hge : 0 ≤ cmpV x v → 0 ≤ cmpV g v := fun e => by
    have e1 : cmpV v x ≤ 0 := by have := cmp_neg x v; omega
    have e2 := cmp_trans _ _ _ e1 hmax
    have := cmp_neg v g
    omega
  have hgt : 0 < cmpV x v → 0 < cmpV g v := fun e => by
    have e1 : cmpV v x < 0 := by have := cmp_neg x v; omega
    have e2 := cmp_strict _ _ _ e1 hmax
    have := cmp_neg v g
    omega
  generalize cmpV x v = a at *
  generalize cmpV m v = b at *
  generalize cmpV g v = c at *
  by_cases h0 : op = 0
  · subst h0
    have : a = 0 := by simpa [teC] using ht
    have q1 := hle (by omega)
    have q2 := hge (by omega)
    simp [wiC]; omega
  by_cases h1 : op = 1
  · subst h1
    have : a ≠ 0 := by simpa [teC] using ht
    rcases Int.lt_or_gt_of_ne this with q | q
    · have := hlt q; simp [wiC]; omega
    · have := hgt q; simp [wiC]; omega
  by_cases h2 : op = 2
  · subst h2
    have : a < 0 := by simpa [teC] using ht
    have := hlt this; simp [wiC]; omega
  by_cases h3 : op = 3
  · subst h3
    have : a ≤ 0 := by simpa [teC] using ht
    have := hle this; simp [wiC]; omega
  by_cases h4 : op = 4
  · subst h4
    have : 0 < a := by simpa [teC] using ht
    have := hgt this; simp [wiC]; omega
  by_cases h5 : op = 5
  · subst h5
    have : 0 ≤ a := by simpa [teC] using ht
    have := hge this; simp [wiC]; omega
  · unfold teC at ht
    rw [if_neg h0, if_neg h1, if_neg h2, if_neg h3, if_neg h4, if_neg h5] at ht
    cases ht
end Go.Proofs.YtafcdckpicoppaaGreatDoor
end

section
namespace Go.Proofs.YtafcdckpicoppaaGreatDoor
open Go.RowKit Go.Hay
set_option linter.unusedVariables false
set_option linter.unusedSimpArgs false

/-- The places, from n on, of the values of which it is true. -/
def posF (tb : Val → Bool) : Nat → List Val → List Int
  | _, [] => []
  | n, v :: r => if tb v = true then (n : Int) :: posF tb (n + 1) r else posF tb (n + 1) r
theorem posF_app (tb : Val → Bool) : ∀ (a : List Val) (n : Nat) (b : List Val), posF tb n (a ++ b) = posF tb n a ++ posF tb (n + a.length) b
  | [], n, b => by simp [posF]
  | v :: r, n, b => by
    rw [List.cons_append, posF, posF]
    have := posF_app tb r (n + 1) b
    rw [this, List.length_cons, show n + 1 + r.length = n + (r.length + 1) by omega]
    split <;> simp
theorem posF_len (tb : Val → Bool) : ∀ (a : List Val) (n : Nat), (posF tb n a).length ≤ a.length
  | [], n => by simp [posF]
  | v :: r, n => by
    have := posF_len tb r (n + 1)
    rw [posF]
    split <;> simp <;> omega
theorem posF_none (tb : Val → Bool) : ∀ (a : List Val) (n : Nat), (∀ v ∈ a, tb v = false) → posF tb n a = []
  | [], n, _ => rfl
  | v :: r, n, h => by
    rw [posF, if_neg (by rw [h v (by simp)]; simp)]
    exact posF_none tb r (n + 1) (fun x hx => h x (by simp [hx]))
theorem posF_yes (tb : Val → Bool) (a : List Val) (v : Val) (h : tb v = true) : posF tb 0 (a ++ [v]) = posF tb 0 a ++ [(a.length : Int)] := by
  rw [posF_app, posF, if_pos h, posF]; simp
theorem posF_no (tb : Val → Bool) (a : List Val) (v : Val) (h : tb v = false) : posF tb 0 (a ++ [v]) = posF tb 0 a := by
  rw [posF_app, posF, if_neg (by rw [h]; simp), posF]; simp
/-- What is found next is what was asked for next. -/
theorem posF_at (tb : Val → Bool) (a : List Val) (v : Val) (r : List Val) (h : tb v = true) : (posF tb 0 (a ++ v :: r))[(posF tb 0 a).length]? = some (a.length : Int) := by
  rw [posF_app, posF, if_pos h]
  simp
theorem take_snocV {l : List Val} {i : Nat} {v : Val} (h : l[i]? = some v) : l.take (i + 1) = l.take i ++ [v] := by
  rw [List.take_add_one, h]; rfl
theorem split_atV {l : List Val} {i : Nat} {v : Val} (h : l[i]? = some v) : l = l.take i ++ v :: l.drop (i + 1) := by
  obtain ⟨hi, rfl⟩ := List.getElem?_eq_some_iff.1 h
  rw [← List.drop_eq_getElem_cons hi, List.take_append_drop]
/-- A block that was written: its kind, its values. -/
def GdB (x : Int × List Val) : Prop := 0 < x.2.length ∧ (∀ y ∈ x.2, y.in64) ∧ refE x.1 x.2 = 0
def catB (l : List (Int × List Val)) : List UInt8 := l.flatMap fun x => blkB x.1 x.2
def catV (l : List (Int × List Val)) : List Val := l.flatMap fun x => x.2
theorem catB_app (a b : List (Int × List Val)) : catB (a ++ b) = catB a ++ catB b := by unfold catB; simp
theorem catV_app (a b : List (Int × List Val)) : catV (a ++ b) = catV a ++ catV b := by unfold catV; simp
theorem blk_pos (k : Int) (l : List Val) : 0 < (blkB k l).length := by rw [blkB_len]; omega
theorem catB_pos {x : Int × List Val} {l : List (Int × List Val)} : 0 < (catB (x :: l)).length := by
  have := blk_pos x.1 x.2
  unfold catB
  rw [List.flatMap_cons, List.length_append]
  omega
theorem refE_le {k : Int} {l : List Val} (h : refE k l = 0) : l.length ≤ 64 := (refE_ok h).2.1
theorem allV_one (x : Int × List Val) (h : GdB x) : allV (blkB x.1 x.2) = x.2 := by
  have hr := rdR_blk x.1 x.2 h.1 h.2.1 h.2.2 []
  rw [List.append_nil] at hr
  rw [allV_step hr, List.drop_length, allV_end (.inl rfl), List.append_nil]
theorem hdP_one (x : Int × List Val) (h : GdB x) (q : List UInt8) : hdP (blkB x.1 x.2 ++ q) = (⟨x.1, x.2.length, minV x.2, maxV x.2, nullsV x.2, (blkB x.1 x.2).length⟩, 5 + (rowB (minV x.2)).length + (rowB (maxV x.2)).length, 0) := by
  unfold hdP
  rw [hdR_blk x.1 x.2 h.1 h.2.1 h.2.2 q]
/-- The term, asked of a row of one value. -/
def tbT (op : Int) (y : Val) (v : Val) : Bool := termC op v.k y.k (cmpV v y)
theorem tbT_one (op : Int) (y v : Val) : termT ⟨0, op, y⟩ [v] = tbT op y v := by
  rw [termT_at _ _ 0 (by simp) rfl]
  rfl
theorem may_none {l : List Val} {op : Int} {y : Val} (h : mayC op (nullsV l) l.length y.k (cmpV (minV l) y) (cmpV (maxV l) y) = false) : ∀ v ∈ l, tbT op y v = false := fun v hv => by
  obtain ⟨i, hi, rfl⟩ := List.getElem_of_mem hv
  cases e : tbT op y l[i] with
  | false => rfl
  | true =>
    have e2 : l.getD i nv = l[i] := by simp [hi]
    have := may_of l i hi op y (by rw [e2]; exact e)
    rw [this] at h
    cases h
end Go.Proofs.YtafcdckpicoppaaGreatDoor
end

section
namespace Go.Hay
open Go.RowKit
set_option linter.unusedVariables false
/-- The marks of ranges that are over. -/
def marks (Ds : List Nat) : List Deferred := Ds.map fun D => { target := .collected D, args := #[] }
/-- They stand, and none stands twice. -/
structure Mks (Ds : List Nat) (w : World) : Prop where
  nd : Ds.Nodup
  at_ : ∀ D ∈ Ds, w.heap[D]? = some (.deferred (some []))
theorem Mks.nil (w : World) : Mks [] w := ⟨List.nodup_nil, by simp⟩
theorem Mks.lt {Ds : List Nat} {w : World} (h : Mks Ds w) : ∀ D ∈ Ds, D < w.heap.size := fun D hD => (Array.getElem?_eq_some_iff.1 (h.at_ D hD)).1
theorem Mks.kept {Ds : List Nat} {w w' : World} {S : List Nat} (h : Mks Ds w) (hk : Kp S w w') (hS : ∀ D ∈ Ds, D ∉ S) : Mks Ds w' :=
  ⟨h.nd, fun D hD => (hk.block D (h.lt D hD) (hS D hD)).trans (h.at_ D hD)⟩
theorem Mks.cons {Ds : List Nat} {w : World} {D : Nat} (h : Mks Ds w) (hD : w.heap[D]? = some (.deferred (some []))) (hn : D ∉ Ds) : Mks (D :: Ds) w :=
  ⟨List.nodup_cons.2 ⟨hn, h.nd⟩, fun E hE => by rcases List.mem_cons.1 hE with rfl | hE; exact hD; exact h.at_ E hE⟩
/-- A block that holds cells is no mark. -/
theorem Mks.cell {Ds : List Nat} {w : World} (h : Mks Ds w) {a : Addr} (hc : (w.cell? a).isSome = true) : a.block ∉ Ds := fun hm => by
  have := h.at_ _ hm
  unfold World.cell? at hc
  rw [this] at hc
  simp at hc
theorem leaves_marks {F : Fence} {n : Nat} {P : Program} {fn : Func} {tmps : Array Value} {R : Ending → World → Prop} : ∀ (Ds : List Nat) (w : World), Mks Ds w →
    (∀ w', Kp Ds w w' → ∃ v, (results fn tmps).run P w' = .ok v w' ∧ R (.returned v) w') → LeavesInM F n P fn tmps R (marks Ds) .returning w
  | [], w, _, h => h w (Kp.refl _ _)
  | D :: Ds, w, hM, h => by
    have hD := hM.at_ D (by simp)
    have hnd := List.nodup_cons.1 hM.nd
    have kD : Kp [D] w (w.putObj D (.deferred none)) := ⟨rfl, rfl, rfl, by simp, fun k hk hn => World.putObj_heap_other (by simpa using hn)⟩
    have hM2 : Mks Ds w := ⟨hnd.2, fun E hE => hM.at_ E (by simp [hE])⟩
    refine ⟨by simp, .inl ⟨D, _, rfl, run_takeDeferred hD, leaves_marks Ds _ (hM2.kept kD (fun E hE => by simp; rintro rfl; exact hnd.1 hE)) fun w' hk => h w' ?_⟩⟩
    exact (kD.mono (fun x hx => .inl (by simp at hx; simp [hx]))).trans hk (fun x hx => .inl (by simp [hx]))
end Go.Hay
end

section
namespace Go.Proofs.YtafcdckpicoppaaGreatDoor
open Go.RowKit Go.Hay
attribute [local go_sem] Oper.semAt_some
set_option linter.unusedVariables false
set_option linter.unusedSimpArgs false

theorem results_cell_oneS {fn : Func} {t : Tmp} {tmps : Array Value} {w : World} {g : Nat} {v : Value} (h : fn.results = #[.cell t 4]) (hp : tmps.getD t undef = .pointer (some ⟨g, 0, none⟩)) (hc : w.cell? ⟨g, 0, none⟩ = some v) :
    (results fn tmps).run Tryz.prog w = .ok v w := by
  have hp' : tmps[t]?.getD undef = .pointer (some ⟨g, 0, none⟩) := by simpa using hp
  simp [results, h, hp', asAddr, loadVar, hc, go_sem]
theorem eqlFuncNilS {P : Program} {t : TypeId} {ps rs : Array TypeId} {v : Bool} (h : P.underlying t = some (.func ps rs v)) (f : Fn) (fi ca : Array Value) (w : World) : (binOp .eql t (.func f fi ca) .nilFunc).run P w = .ok (.bool false) w := by
  have e0 : ∀ d : Nat, (Op.equalIn (d + 1) t (.func f fi ca) .nilFunc).run P w = .ok false w := fun d => by simp [Op.equalIn, run_underlying h]
  have e : (Op.equal t (.func f fi ca) .nilFunc).run P w = .ok false w := e0 9999
  simp only [binOp]
  simp [e]
theorem vsAt {w : World} {a : Option Addr} {l : List Vs} (h : VsE.See w a l) {k : Nat} {x : Vs} (hx : l[k]? = some x) : ∃ g o, a = some ⟨g, o, none⟩ ∧ w.cell? ⟨g, o + k, none⟩ = some (.slice x.a x.l.length x.c) := by
  obtain ⟨g, o, e, hc⟩ := h.at hx
  refine ⟨g, o, e, ?_⟩
  have := hc 0 _ rfl
  simpa [VsE] using this
theorem intAtS {w : World} {a : Option Addr} {l : List Int} (h : IntE.See w a l) {k : Nat} {x : Int} (hx : l[k]? = some x) : ∃ g o, a = some ⟨g, o, none⟩ ∧ w.cell? ⟨g, o + k, none⟩ = some (.int .i64 x) := by
  obtain ⟨g, o, e, hc⟩ := h.at hx
  refine ⟨g, o, e, ?_⟩
  have := hc 0 _ rfl
  simpa [IntE] using this
theorem kAt_in {K : List Int} {j : Nat} (h : j < K.length) : kAt K j = K[j] := by unfold kAt; rw [dif_pos h]
theorem kAt_out {K : List Int} {j : Nat} (h : ¬ j < K.length) : kAt K j = -1 := by unfold kAt; rw [dif_neg h]
theorem le_sumN : ∀ {l : List Nat} {x : Nat}, x ∈ l → x ≤ l.sum
  | y :: r, x, h => by
    rw [List.sum_cons]
    rcases List.mem_cons.1 h with rfl | h
    · omega
    · have := le_sumN h; omega
theorem infoIS : ∃ i : TypeInfo, Tryz.prog.info? 3 = some i ∧ i.zero = some (.int .i64 0) ∧ i.size = 1 ∧ i.bytes = 8 := info3 (by kernel_rfl)
/-- One more number, behind a row of numbers. -/
theorem appIS (w : World) (a : Option Addr) (cp : Nat) (l : List Int) (x : Int) (hrow : IntE.Row w (.slice a l.length cp) l) (hl : l.length ≤ 4000000) :
    ∃ a' cp' W', (Builtin.append_ #[23, 23] 23 #[.slice a l.length cp, .slice (some ⟨w.heap.size, 0, none⟩) 1 1]).run Tryz.prog (w.alloc (.cells #[.int .i64 x] 3)) = .ok (.slice a' (l ++ [x]).length cp') W' ∧ IntE.Row W' (.slice a' (l ++ [x]).length cp') (l ++ [x]) ∧ Kp (blk a) w W' ∧ ∀ k ∈ blk a', k ∈ blk a ∨ w.heap.size ≤ k := by
  obtain ⟨A1, hA1⟩ : ∃ A1, w.alloc (.cells #[.int .i64 x] 3) = A1 := ⟨_, rfl⟩
  have kA1 : Kp [] w A1 := by rw [← hA1]; exact (Kp.refl _ _).alloc _
  have bx1 : Bx A1 w.heap.size (IntE.c x) := by rw [← hA1]; exact Bx.new w (IntE.c x) _
  have hs1 : IntE.See A1 (some ⟨w.heap.size, 0, none⟩) [x] := .inr ⟨w.heap.size, 0, rfl, fun j u hu => by rw [Nat.zero_add]; exact bx1.get j u (by simpa [El.cs] using hu)⟩
  obtain ⟨i0, hi, hz0', hz1', hz2'⟩ := infoIS
  have hsr := hs1.src (P := Tryz.prog) Tryz.underlying23 1
  obtain ⟨v', A2, hrun, hrow2, k2, hn2⟩ := run_appendG (E := IntE) (P := Tryz.prog) A1 23 23 23 3 i0 _ 8 Tryz.underlying23 hi hz0' hz1' hz2' rfl (.slice a l.length cp) l (hrow.keptNew kA1) _ [x] hsr (by simp only [List.length_cons, List.length_nil]; omega) (by simp only [List.length_cons, List.length_nil]; omega)
  obtain ⟨a', c', rfl, _⟩ := hrow2.see
  simp only [ownS] at k2 hn2
  rw [hA1]
  have z1 := kA1.size
  exact ⟨a', c', A2, hrun, hrow2, (kA1.mono (by simp)).trans k2 (fun j hj => .inl hj), fun k hk => by
    rcases hn2 k hk with e | e
    · exact .inl e
    · exact .inr (by omega)⟩
/-- How the two rows stand: bytes, and numbers whose slice lies in a box. -/
structure SkI (w2 : World) (q6 : Nat) (W : World) (ba : Option Addr) (bc : Nat) (bs : List UInt8) (va : Option Addr) (vc : Nat) (vs : List Int) : Prop where
  b : BytE.Row W (.slice ba bs.length bc) bs
  v : IntE.Row W (.slice va vs.length vc) vs
  bn : ∀ k ∈ blk ba, w2.heap.size ≤ k
  vn : ∀ k ∈ blk va, w2.heap.size ≤ k
  ne : ∀ k ∈ blk ba, k ∉ blk va
  bx : Bx W q6 [.slice va vs.length vc]
  kp : Kp [q6] w2 W
theorem blkLtI {W : World} {a : Option Addr} {c : Nat} {bs : List Int} (h : IntE.Row W (.slice a bs.length c) bs) : ∀ k ∈ blk a, k < W.heap.size := fun k hk => h.lt k (by rw [ownS]; exact hk)
theorem SkI.keep {w2 : World} {q6 : Nat} {W W' : World} {ba : Option Addr} {bc : Nat} {bs : List UInt8} {va : Option Addr} {vc : Nat} {vs : List Int} (h : SkI w2 q6 W ba bc bs va vc vs) (k : Kp [] W W') : SkI w2 q6 W' ba bc bs va vc vs :=
  ⟨h.b.keptNew k, h.v.keptNew k, h.bn, h.vn, h.ne, h.bx.kept k (by simp) (h.bx.lt (by simp)), h.kp.trans k (by simp)⟩
theorem SkI.addB {w2 : World} {q6 : Nat} {W W' : World} {ba : Option Addr} {bc : Nat} {bs : List UInt8} {va : Option Addr} {vc : Nat} {vs : List Int} (hq : q6 < w2.heap.size) (h : SkI w2 q6 W ba bc bs va vc vs)
    {a' : Option Addr} {c' : Nat} {bs' : List UInt8} (hr : BytE.Row W' (.slice a' bs'.length c') bs') (k : Kp (blk ba) W W') (hn : ∀ k ∈ blk a', k ∈ blk ba ∨ W.heap.size ≤ k) : SkI w2 q6 W' a' c' bs' va vc vs := by
  refine ⟨hr, h.v.kept k (fun j hj hm => h.ne j hm (by rw [ownS] at hj; exact hj)), fun j hj => ?_, h.vn, fun j hj hm => ?_, h.bx.kept k (fun hm => ?_) (h.bx.lt (by simp)), h.kp.trans k (fun j hj => .inr (h.bn j hj))⟩
  · rcases hn j hj with e | e
    · exact h.bn j e
    · have := h.kp.size; omega
  · rcases hn j hj with e | e
    · exact h.ne j e hm
    · have := blkLtI h.v j hm; omega
  · have := h.bn _ hm; omega
theorem SkI.addV {w2 : World} {q6 : Nat} {W W' : World} {ba : Option Addr} {bc : Nat} {bs : List UInt8} {va : Option Addr} {vc : Nat} {vs : List Int} (hq : q6 < w2.heap.size) (h : SkI w2 q6 W ba bc bs va vc vs)
    {a' : Option Addr} {c' : Nat} {vs' : List Int} (hr : IntE.Row W' (.slice a' vs'.length c') vs') (k : Kp (blk va) W W') (hn : ∀ k ∈ blk a', k ∈ blk va ∨ W.heap.size ≤ k) : Bx W' q6 [.slice va vs.length vc] ∧ SkI w2 q6 (W'.setCell ⟨q6, 0, none⟩ (.slice a' vs'.length c')) ba bc bs a' c' vs' := by
  have hbx := h.bx.kept k (fun hm => by have := h.vn _ hm; omega) (h.bx.lt (by simp))
  have kS : Kp [q6] W' (W'.setCell ⟨q6, 0, none⟩ (.slice a' vs'.length c')) := (Kp.refl _ _).setCell (by simp) _
  have hvn : ∀ j ∈ blk a', w2.heap.size ≤ j := fun j hj => by
    rcases hn j hj with e | e
    · exact h.vn j e
    · have := h.kp.size; omega
  refine ⟨hbx, (h.b.kept k (fun j hj hm => h.ne j (by rw [ownS] at hj; exact hj) hm)).kept kS (fun j hj hm => by rw [ownS] at hj; have := h.bn j hj; simp at hm; omega), hr.kept kS (fun j hj hm => by rw [ownS] at hj; have := hvn j hj; simp at hm; omega), h.bn, hvn, fun j hj hm => ?_, ?_, (h.kp.trans k (fun j hj => .inr (h.vn j hj))).trans kS (fun j hj => .inl hj)⟩
  · rcases hn j hm with e | e
    · exact h.ne j hj e
    · have := blkLtB h.b j hj; omega
  · have := hbx.set 0 (by simp) (.slice a' vs'.length c')
    exact this
/-- What was written so far, and at which places the term is true. -/
structure SkB (tb : Val → Bool) (L : List Vs) (j : Nat) (bs : List UInt8) (vs : List Val) (ns : List Int) : Prop where
  ex : ∃ BL, (∀ x ∈ BL, GdB x) ∧ bs = catB BL ∧ vs = catV BL
  nl : bs.length ≤ 10200 * j
  vl : vs.length ≤ ((L.take j).map fun y => y.l.length).sum
  ns : ns = posF tb 0 vs
theorem sum_take {L : List Vs} {j : Nat} (h : j < L.length) : ((L.take (j + 1)).map fun y => y.l.length).sum = ((L.take j).map fun y => y.l.length).sum + L[j].l.length := by
  rw [List.take_succ_eq_append_getElem h, List.map_append, List.sum_append_nat]
  simp
theorem sum_take_le (L : List Vs) (j : Nat) : ((L.take j).map fun y => y.l.length).sum ≤ (L.map fun y => y.l.length).sum := by
  have e : (L.map fun y => y.l.length).sum = ((L.take j).map fun y => y.l.length).sum + ((L.drop j).map fun y => y.l.length).sum := by
    conv => lhs; rw [← List.take_append_drop j L, List.map_append, List.sum_append_nat]
  omega
theorem SkB.none {tb : Val → Bool} {L : List Vs} {j : Nat} {bs : List UInt8} {vs : List Val} {ns : List Int} (h : SkB tb L j bs vs ns) (hj : j < L.length) : SkB tb L (j + 1) bs vs ns :=
  ⟨h.ex, by have := h.nl; omega, by have := h.vl; rw [sum_take hj]; omega, h.ns⟩
theorem SkB.some {tb : Val → Bool} {L : List Vs} {j : Nat} {bs : List UInt8} {vs : List Val} {ns : List Int} (h : SkB tb L j bs vs ns) (hj : j < L.length) (k : Int) (hin : ∀ y ∈ L[j].l, y.in64) (he : (wrB k L[j].l).2 = 0) :
    SkB tb L (j + 1) (bs ++ (wrB k L[j].l).1) (vs ++ L[j].l) (posF tb 0 (vs ++ L[j].l)) := by
  obtain ⟨h0, hr, eb⟩ := wrB_is he
  obtain ⟨BL, hg, e1, e2⟩ := h.ex
  have hl := wrB_len k L[j].l
  refine ⟨⟨BL ++ [(kindW k L[j].l, L[j].l)], fun x hx => ?_, ?_, ?_⟩, ?_, ?_, rfl⟩
  · rcases List.mem_append.1 hx with hx | hx
    · exact hg x hx
    · rw [List.mem_singleton.1 hx]; exact ⟨h0, hin, hr⟩
  · rw [catB_app, e1, eb]; simp [catB]
  · rw [catV_app, e2]; simp [catV]
  · have := h.nl; rw [List.length_append]; omega
  · have := h.vl; rw [sum_take hj, List.length_append]; omega
/-- Who ranges over a block's values, and counts those of which the term is true. -/
structure CoF (w0 : World) (qc : Nat) (c : Nat → Nat) (s : Sa) (W : World) : Prop where
  co : CoX w0 qc s W
  cnt : W.cell? ⟨qc, 0, none⟩ = some (.int .i64 (c s.i : Int))
  free : W.frozen? ⟨qc, 0, none⟩ = false
theorem CoF.own {w0 : World} {qc : Nat} {c : Nat → Nat} (hq : qc < w0.heap.size) : OwnFrom w0.heap.size (CoF w0 qc c) := fun s X Y row h hg hr => by
  have e : Y.heap[qc]? = X.heap[qc]? := hg.block qc (Nat.lt_of_lt_of_le hq h.co.size) (fun e => by have := (hr qc e.symm).1; omega)
  obtain ⟨h1, h2⟩ := lowKeep e h.cnt h.free
  exact ⟨h.co.grown hg hr, h1, h2⟩
theorem CoF.step {w0 : World} {qc : Nat} {c : Nat → Nat} {s s' : Sa} {A B : World} (hq : qc < w0.heap.size) (hz : w0.heap.size + 2 ≤ A.heap.size) (h : CoF w0 qc c s A) (ht : StepA s s' A B) : CoF w0 qc c s' B := by
  obtain ⟨h1, h2⟩ := lowKeep (ht.low h.co.mde (k := qc) (by omega) (by omega)) h.cnt h.free
  exact ⟨h.co.step hq hz ht, by rw [ht.on]; exact h1, h2⟩
/-- The boxes of a round of the second loop: a head laid in a box of its own. -/
theorem boxI (w : World) (i : Inf) : ∃ W, ((((((((((((w.alloc (.cells #[.int .i64 0, .int .i64 0, .int .i64 0, .bool false, .int .i64 0, .string ⟨#[]⟩, .int .i64 0, .bool false, .int .i64 0, .string ⟨#[]⟩, .int .i64 0, .int .i64 0] 35)).setCell ⟨w.heap.size, 0, none⟩ (.int .i64 i.kind)).setCell ⟨w.heap.size, 1, none⟩ (.int .i64 i.many)).setCell ⟨w.heap.size, 2, none⟩ (.int .i64 i.mn.k)).setCell ⟨w.heap.size, 3, none⟩ (.bool i.mn.b)).setCell ⟨w.heap.size, 4, none⟩ (.int .i64 i.mn.n)).setCell ⟨w.heap.size, 5, none⟩ (.string i.mn.t)).setCell ⟨w.heap.size, 6, none⟩ (.int .i64 i.mx.k)).setCell ⟨w.heap.size, 7, none⟩ (.bool i.mx.b)).setCell ⟨w.heap.size, 8, none⟩ (.int .i64 i.mx.n)).setCell ⟨w.heap.size, 9, none⟩ (.string i.mx.t)).setCell ⟨w.heap.size, 10, none⟩ (.int .i64 i.nulls)).setCell ⟨w.heap.size, 11, none⟩ (.int .i64 i.bytes) = W ∧
    Bx W w.heap.size [.int .i64 i.kind, .int .i64 i.many, .int .i64 i.mn.k, .bool i.mn.b, .int .i64 i.mn.n, .string i.mn.t, .int .i64 i.mx.k, .bool i.mx.b, .int .i64 i.mx.n, .string i.mx.t, .int .i64 i.nulls, .int .i64 i.bytes] ∧ Kp [] w W ∧ w.heap.size < W.heap.size := by
  have b0 := Bx.new w [.int .i64 0, .int .i64 0, .int .i64 0, .bool false, .int .i64 0, .string ⟨#[]⟩, .int .i64 0, .bool false, .int .i64 0, .string ⟨#[]⟩, .int .i64 0, .int .i64 0] 35
  have k0 : Kp [] w (w.alloc (.cells #[.int .i64 0, .int .i64 0, .int .i64 0, .bool false, .int .i64 0, .string ⟨#[]⟩, .int .i64 0, .bool false, .int .i64 0, .string ⟨#[]⟩, .int .i64 0, .int .i64 0] 35)) := (Kp.refl _ _).alloc _
  refine ⟨_, rfl, gen12 (R := fun W => Bx W w.heap.size [.int .i64 i.kind, .int .i64 i.many, .int .i64 i.mn.k, .bool i.mn.b, .int .i64 i.mn.n, .string i.mn.t, .int .i64 i.mx.k, .bool i.mx.b, .int .i64 i.mx.n, .string i.mx.t, .int .i64 i.nulls, .int .i64 i.bytes] ∧ Kp [] w W ∧ w.heap.size < W.heap.size) b0 rfl k0 (Nat.le_refl _) _ _ _ _ _ _ _ _ _ _ _ _ fun W bW kW => ⟨bW, kW, bW.lt (by simp)⟩⟩
/-- A value laid in a box of its own. -/
theorem boxV4 (w : World) (v : Val) : ∃ q W1 W2, w.heap.size = q ∧ w.alloc (.cells #[.int .i64 0, .bool false, .int .i64 0, .string ⟨#[]⟩] 25) = W1 ∧ Bx W1 q [.int .i64 0, .bool false, .int .i64 0, .string ⟨#[]⟩] ∧
    (((W1.setCell ⟨q, 0, none⟩ (.int .i64 v.k)).setCell ⟨q, 1, none⟩ (.bool v.b)).setCell ⟨q, 2, none⟩ (.int .i64 v.n)).setCell ⟨q, 3, none⟩ (.string v.t) = W2 ∧ Bx W2 q [.int .i64 v.k, .bool v.b, .int .i64 v.n, .string v.t] ∧ Kp [] w W2 ∧ q < W2.heap.size := by
  have b0 := Bx.new w [.int .i64 0, .bool false, .int .i64 0, .string ⟨#[]⟩] 25
  have k0 : Kp [] w (w.alloc (.cells #[.int .i64 0, .bool false, .int .i64 0, .string ⟨#[]⟩] 25)) := (Kp.refl _ _).alloc _
  have h : w.heap.size ∈ ([] : List Nat) ∨ w.heap.size ≤ w.heap.size := .inr (Nat.le_refl _)
  have b1 := (((b0.set 0 (by simp) (.int .i64 v.k)).set 1 (by simp) (.bool v.b)).set 2 (by simp) (.int .i64 v.n)).set 3 (by simp) (.string v.t)
  exact ⟨_, _, _, rfl, rfl, b0, rfl, b1, (((k0.setCell h _).setCell h _).setCell h _).setCell h _, b1.lt (by simp)⟩
/-- A number laid in a box of its own. -/
theorem boxZ (w : World) : ∃ q W1 W2, w.heap.size = q ∧ w.alloc (.cells #[.int .i64 0] 3) = W1 ∧ Bx W1 q [.int .i64 0] ∧ W1.setCell ⟨q, 0, none⟩ (.int .i64 0) = W2 ∧ Bx W2 q [.int .i64 0] ∧ Kp [] w W2 ∧ q < W2.heap.size := by
  have b0 := Bx.new w [.int .i64 0] 3
  have k0 : Kp [] w (w.alloc (.cells #[.int .i64 0] 3)) := (Kp.refl _ _).alloc _
  have b1 := b0.set 0 (by simp) (.int .i64 0)
  exact ⟨_, _, _, rfl, rfl, b0, rfl, b1, k0.setCell (.inr (Nat.le_refl _)) _, b1.lt (by simp)⟩
/-- A head laid in a box of its own. -/
theorem box12 (w : World) (i : Inf) : ∃ q W1 W2, w.heap.size = q ∧ w.alloc (.cells #[.int .i64 0, .int .i64 0, .int .i64 0, .bool false, .int .i64 0, .string ⟨#[]⟩, .int .i64 0, .bool false, .int .i64 0, .string ⟨#[]⟩, .int .i64 0, .int .i64 0] 35) = W1 ∧ Bx W1 q [.int .i64 0, .int .i64 0, .int .i64 0, .bool false, .int .i64 0, .string ⟨#[]⟩, .int .i64 0, .bool false, .int .i64 0, .string ⟨#[]⟩, .int .i64 0, .int .i64 0] ∧ ((((((((((((W1.setCell ⟨q, 0, none⟩ (.int .i64 i.kind)).setCell ⟨q, 1, none⟩ (.int .i64 i.many)).setCell ⟨q, 2, none⟩ (.int .i64 i.mn.k)).setCell ⟨q, 3, none⟩ (.bool i.mn.b)).setCell ⟨q, 4, none⟩ (.int .i64 i.mn.n)).setCell ⟨q, 5, none⟩ (.string i.mn.t)).setCell ⟨q, 6, none⟩ (.int .i64 i.mx.k)).setCell ⟨q, 7, none⟩ (.bool i.mx.b)).setCell ⟨q, 8, none⟩ (.int .i64 i.mx.n)).setCell ⟨q, 9, none⟩ (.string i.mx.t)).setCell ⟨q, 10, none⟩ (.int .i64 i.nulls)).setCell ⟨q, 11, none⟩ (.int .i64 i.bytes)) = W2 ∧ Bx W2 q [.int .i64 i.kind, .int .i64 i.many, .int .i64 i.mn.k, .bool i.mn.b, .int .i64 i.mn.n, .string i.mn.t, .int .i64 i.mx.k, .bool i.mx.b, .int .i64 i.mx.n, .string i.mx.t, .int .i64 i.nulls, .int .i64 i.bytes] ∧ Kp [] w W2 ∧ q < W2.heap.size := by
  have b0 := Bx.new w [.int .i64 0, .int .i64 0, .int .i64 0, .bool false, .int .i64 0, .string ⟨#[]⟩, .int .i64 0, .bool false, .int .i64 0, .string ⟨#[]⟩, .int .i64 0, .int .i64 0] 35
  have k0 : Kp [] w (w.alloc (.cells #[.int .i64 0, .int .i64 0, .int .i64 0, .bool false, .int .i64 0, .string ⟨#[]⟩, .int .i64 0, .bool false, .int .i64 0, .string ⟨#[]⟩, .int .i64 0, .int .i64 0] 35)) := (Kp.refl _ _).alloc _
  refine ⟨w.heap.size, _, _, rfl, rfl, b0, rfl, gen12 (R := fun W => Bx W w.heap.size [.int .i64 i.kind, .int .i64 i.many, .int .i64 i.mn.k, .bool i.mn.b, .int .i64 i.mn.n, .string i.mn.t, .int .i64 i.mx.k, .bool i.mx.b, .int .i64 i.mx.n, .string i.mx.t, .int .i64 i.nulls, .int .i64 i.bytes] ∧ Kp [] w W ∧ w.heap.size < W.heap.size) b0 rfl k0 (Nat.le_refl _) _ _ _ _ _ _ _ _ _ _ _ _ fun W bW kW => ⟨bW, kW, bW.lt (by simp)⟩⟩
/-- How the second loop stands: BL the blocks that are left, VD the values that are behind. -/
structure SkL (xd : World) (q16 q17 : Nat) (tb : Val → Bool) (VS : List Val) (BL : List (Int × List Val)) (VD : List Val) (W : World) (ba : Option Addr) (bc : Nat) (bs : List UInt8) (Ds : List Nat) : Prop where
  good : ∀ x ∈ BL, GdB x
  eb : bs = catB BL
  ev : VD ++ catV BL = VS
  see : Sees W ba bs
  cap : bs.length ≤ bc
  most : bc ≤ maxLen
  at_ : W.cell? ⟨q16, 0, none⟩ = some (.int .i64 (VD.length : Int)) ∧ W.frozen? ⟨q16, 0, none⟩ = false
  fd : W.cell? ⟨q17, 0, none⟩ = some (.int .i64 ((posF tb 0 VD).length : Int)) ∧ W.frozen? ⟨q17, 0, none⟩ = false
  kp : Kp [q16, q17] xd W
  mks : Mks Ds W
  low : ∀ D ∈ Ds, xd.heap.size ≤ D
  bk : ∀ k ∈ blk ba, k ≠ q16 ∧ k ≠ q17
theorem seesS {W W2 : World} {S : List Nat} {a : Option Addr} {bs : List UInt8} (h : Sees W a bs) (k : Kp S W W2) (hn : ∀ j ∈ blk a, j ∉ S) : Sees W2 a bs := by
  rcases h with e | ⟨g, o, e, hc⟩
  · exact .inl e
  · subst e
    exact .inr ⟨g, o, rfl, fun j u hu => (k.cell (p := ⟨g, o + j, none⟩) (World.block_lt_of_cell? _ _ (hc j u hu)) (hn g (by simp [blk]))).trans (hc j u hu)⟩
theorem seesPre {W : World} {a : Option Addr} {x y : List UInt8} (h : Sees W a (x ++ y)) : Sees W a x := by
  rcases h with e | ⟨g, o, e, hc⟩
  · exact .inl (List.append_eq_nil_iff.1 e).1
  · exact .inr ⟨g, o, e, fun j u hu => hc j u (by rw [List.getElem?_append_left (List.getElem?_eq_some_iff.1 hu).1]; exact hu)⟩
theorem SkL.next {xd : World} {q16 q17 : Nat} {tb : Val → Bool} {VS : List Val} {x : Int × List Val} {R : List (Int × List Val)} {VD : List Val} {W : World} {ba : Option Addr} {bc : Nat} {bs : List UInt8} {Ds Ds' : List Nat} (h : SkL xd q16 q17 tb VS (x :: R) VD W ba bc bs Ds) (hq : q16 ≠ q17) {W2 : World} (k : Kp [q17] W W2)
    (hf : W2.cell? ⟨q17, 0, none⟩ = some (.int .i64 ((posF tb 0 (VD ++ x.2)).length : Int)) ∧ W2.frozen? ⟨q17, 0, none⟩ = false) (hm : Mks Ds' W2) (hl : ∀ D ∈ Ds', xd.heap.size ≤ D) (v : Value) (hv : v = .int .i64 ((VD ++ x.2).length : Int)) :
    SkL xd q16 q17 tb VS R (VD ++ x.2) (W2.setCell ⟨q16, 0, none⟩ v) (ba.map fun y => y.add (blkB x.1 x.2).length) (bc - (blkB x.1 x.2).length) (bs.drop (blkB x.1 x.2).length) Ds' := by
  have e : bs = blkB x.1 x.2 ++ catB R := by rw [h.eb]; simp [catB]
  have e2 : bs.drop (blkB x.1 x.2).length = catB R := by rw [e]; simp
  have c16 : W2.cell? ⟨q16, 0, none⟩ = some (.int .i64 (VD.length : Int)) := (k.cell (p := ⟨q16, 0, none⟩) (World.block_lt_of_cell? _ _ h.at_.1) (by simpa using hq)).trans h.at_.1
  have f16 : W2.frozen? ⟨q16, 0, none⟩ = false := (k.frozen (p := ⟨q16, 0, none⟩) (World.block_lt_of_cell? _ _ h.at_.1) (by simpa using hq)).trans h.at_.2
  have kS : Kp [q16] W2 (W2.setCell ⟨q16, 0, none⟩ v) := (Kp.refl _ _).setCell (by simp) _
  have kk : Kp [q16, q17] W (W2.setCell ⟨q16, 0, none⟩ v) := (k.mono (fun j hj => .inl (by simp at hj; simp [hj]))).trans kS (fun j hj => .inl (by simp at hj; simp [hj]))
  refine ⟨fun y hy => h.good y (by simp [hy]), e2, by rw [← h.ev]; simp [catV], ?_, ?_, ?_, ⟨?_, ?_⟩, ⟨?_, ?_⟩, h.kp.trans kk (fun j hj => .inl hj), hm.kept kS (fun D hD hmm => ?_), hl, ?_⟩
  · exact (seesS h.see kk (fun j hj hmm => by have := h.bk j hj; simp at hmm; omega)).tail _
  · have := h.cap; rw [List.length_drop]; omega
  · have := h.most; omega
  · rw [hv]; exact World.cell?_setCell_same _ _ _ c16
  · rw [World.frozen?_setCell]; exact f16
  · rw [World.cell?_setCell_other _ _ _ _ (by intro hh; simp only [Addr.mk.injEq] at hh; omega)]; exact hf.1
  · rw [World.frozen?_setCell]; exact hf.2
  · simp at hmm
    subst hmm
    exact hm.cell (a := ⟨D, 0, none⟩) (by rw [c16]; rfl) hD
  · rw [blk_tail]; exact h.bk
theorem SkL.flat {xd : World} {q16 q17 : Nat} {tb : Val → Bool} {VS : List Val} {R : List (Int × List Val)} {VD : List Val} {W : World} {ba : Option Addr} {n bc : Nat} {bs : List UInt8} {Ds : List Nat} (h : SkL xd q16 q17 tb VS R VD W (ba.map fun y => y.add n) (bc - n) bs Ds) (e : bc = n) : SkL xd q16 q17 tb VS R VD W ba 0 bs Ds := by
  have h0 : bs = [] := List.length_eq_zero_iff.1 (by have := h.cap; omega)
  refine ⟨h.good, h.eb, h.ev, .inl h0, by simp [h0], Nat.zero_le _, h.at_, h.fd, h.kp, h.mks, h.low, ?_⟩
  have := h.bk
  rw [blk_tail] at this
  exact this
end Go.Proofs.YtafcdckpicoppaaGreatDoor
end

section
namespace Go.Proofs.YtafcdckpicoppaaGreatDoor
open Go.RowKit Go.Hay
set_option linter.unusedVariables false

theorem list_map (n : Nat) (l : List Value) (h : l.length = n) : l = (List.range n).map fun k => l.getD k undef := by
  apply List.ext_getElem
  · simp [h]
  · intro i h1 h2
    simp [h1]
set_option maxRecDepth 100000 in
theorem frame173 (A : Act) (h : A.tmps.size = 173) : ∃ f : Nat → Value, (∀ k, f k = A.tmps.getD k undef) ∧ A = { tmps := #[f 0, f 1, f 2, f 3, f 4, f 5, f 6, f 7, f 8, f 9, f 10, f 11, f 12, f 13, f 14, f 15, f 16, f 17, f 18, f 19, f 20, f 21, f 22, f 23, f 24, f 25, f 26, f 27, f 28, f 29, f 30, f 31, f 32, f 33, f 34, f 35, f 36, f 37, f 38, f 39, f 40, f 41, f 42, f 43, f 44, f 45, f 46, f 47, f 48, f 49, f 50, f 51, f 52, f 53, f 54, f 55, f 56, f 57, f 58, f 59, f 60, f 61, f 62, f 63, f 64, f 65, f 66, f 67, f 68, f 69, f 70, f 71, f 72, f 73, f 74, f 75, f 76, f 77, f 78, f 79, f 80, f 81, f 82, f 83, f 84, f 85, f 86, f 87, f 88, f 89, f 90, f 91, f 92, f 93, f 94, f 95, f 96, f 97, f 98, f 99, f 100, f 101, f 102, f 103, f 104, f 105, f 106, f 107, f 108, f 109, f 110, f 111, f 112, f 113, f 114, f 115, f 116, f 117, f 118, f 119, f 120, f 121, f 122, f 123, f 124, f 125, f 126, f 127, f 128, f 129, f 130, f 131, f 132, f 133, f 134, f 135, f 136, f 137, f 138, f 139, f 140, f 141, f 142, f 143, f 144, f 145, f 146, f 147, f 148, f 149, f 150, f 151, f 152, f 153, f 154, f 155, f 156, f 157, f 158, f 159, f 160, f 161, f 162, f 163, f 164, f 165, f 166, f 167, f 168, f 169, f 170, f 171, f 172], defers := A.defers } := by
  obtain ⟨⟨l⟩, d⟩ := A
  have h' : l.length = 173 := h
  refine ⟨fun k => l.getD k undef, fun k => by simp, ?_⟩
  have e := list_map 173 l h'
  have e2 : (List.range 173).map (fun k => l.getD k undef) = [l.getD 0 undef, l.getD 1 undef, l.getD 2 undef, l.getD 3 undef, l.getD 4 undef, l.getD 5 undef, l.getD 6 undef, l.getD 7 undef, l.getD 8 undef, l.getD 9 undef, l.getD 10 undef, l.getD 11 undef, l.getD 12 undef, l.getD 13 undef, l.getD 14 undef, l.getD 15 undef, l.getD 16 undef, l.getD 17 undef, l.getD 18 undef, l.getD 19 undef, l.getD 20 undef, l.getD 21 undef, l.getD 22 undef, l.getD 23 undef, l.getD 24 undef, l.getD 25 undef, l.getD 26 undef, l.getD 27 undef, l.getD 28 undef, l.getD 29 undef, l.getD 30 undef, l.getD 31 undef, l.getD 32 undef, l.getD 33 undef, l.getD 34 undef, l.getD 35 undef, l.getD 36 undef, l.getD 37 undef, l.getD 38 undef, l.getD 39 undef, l.getD 40 undef, l.getD 41 undef, l.getD 42 undef, l.getD 43 undef, l.getD 44 undef, l.getD 45 undef, l.getD 46 undef, l.getD 47 undef, l.getD 48 undef, l.getD 49 undef, l.getD 50 undef, l.getD 51 undef, l.getD 52 undef, l.getD 53 undef, l.getD 54 undef, l.getD 55 undef, l.getD 56 undef, l.getD 57 undef, l.getD 58 undef, l.getD 59 undef, l.getD 60 undef, l.getD 61 undef, l.getD 62 undef, l.getD 63 undef, l.getD 64 undef, l.getD 65 undef, l.getD 66 undef, l.getD 67 undef, l.getD 68 undef, l.getD 69 undef, l.getD 70 undef, l.getD 71 undef, l.getD 72 undef, l.getD 73 undef, l.getD 74 undef, l.getD 75 undef, l.getD 76 undef, l.getD 77 undef, l.getD 78 undef, l.getD 79 undef, l.getD 80 undef, l.getD 81 undef, l.getD 82 undef, l.getD 83 undef, l.getD 84 undef, l.getD 85 undef, l.getD 86 undef, l.getD 87 undef, l.getD 88 undef, l.getD 89 undef, l.getD 90 undef, l.getD 91 undef, l.getD 92 undef, l.getD 93 undef, l.getD 94 undef, l.getD 95 undef, l.getD 96 undef, l.getD 97 undef, l.getD 98 undef, l.getD 99 undef, l.getD 100 undef, l.getD 101 undef, l.getD 102 undef, l.getD 103 undef, l.getD 104 undef, l.getD 105 undef, l.getD 106 undef, l.getD 107 undef, l.getD 108 undef, l.getD 109 undef, l.getD 110 undef, l.getD 111 undef, l.getD 112 undef, l.getD 113 undef, l.getD 114 undef, l.getD 115 undef, l.getD 116 undef, l.getD 117 undef, l.getD 118 undef, l.getD 119 undef, l.getD 120 undef, l.getD 121 undef, l.getD 122 undef, l.getD 123 undef, l.getD 124 undef, l.getD 125 undef, l.getD 126 undef, l.getD 127 undef, l.getD 128 undef, l.getD 129 undef, l.getD 130 undef, l.getD 131 undef, l.getD 132 undef, l.getD 133 undef, l.getD 134 undef, l.getD 135 undef, l.getD 136 undef, l.getD 137 undef, l.getD 138 undef, l.getD 139 undef, l.getD 140 undef, l.getD 141 undef, l.getD 142 undef, l.getD 143 undef, l.getD 144 undef, l.getD 145 undef, l.getD 146 undef, l.getD 147 undef, l.getD 148 undef, l.getD 149 undef, l.getD 150 undef, l.getD 151 undef, l.getD 152 undef, l.getD 153 undef, l.getD 154 undef, l.getD 155 undef, l.getD 156 undef, l.getD 157 undef, l.getD 158 undef, l.getD 159 undef, l.getD 160 undef, l.getD 161 undef, l.getD 162 undef, l.getD 163 undef, l.getD 164 undef, l.getD 165 undef, l.getD 166 undef, l.getD 167 undef, l.getD 168 undef, l.getD 169 undef, l.getD 170 undef, l.getD 171 undef, l.getD 172 undef] := rfl
  have e3 := e.trans e2
  exact congrArg (fun x => (⟨⟨x⟩, d⟩ : Act)) e3
set_option maxRecDepth 100000 in
theorem openSk (A : Act) (h : A.tmps.size = 173) {v0 : Value} (e0 : A.tmps.getD 0 undef = v0) {v1 : Value} (e1 : A.tmps.getD 1 undef = v1) {v2 : Value} (e2 : A.tmps.getD 2 undef = v2) {v5 : Value} (e5 : A.tmps.getD 5 undef = v5) {v6 : Value} (e6 : A.tmps.getD 6 undef = v6) {v7 : Value} (e7 : A.tmps.getD 7 undef = v7) {v8 : Value} (e8 : A.tmps.getD 8 undef = v8) {v9 : Value} (e9 : A.tmps.getD 9 undef = v9) {v16 : Value} (e16 : A.tmps.getD 16 undef = v16) {v17 : Value} (e17 : A.tmps.getD 17 undef = v17) : ∃ f : Nat → Value, A = { tmps := #[v0, v1, v2, f 3, f 4, v5, v6, v7, v8, v9, f 10, f 11, f 12, f 13, f 14, f 15, v16, v17, f 18, f 19, f 20, f 21, f 22, f 23, f 24, f 25, f 26, f 27, f 28, f 29, f 30, f 31, f 32, f 33, f 34, f 35, f 36, f 37, f 38, f 39, f 40, f 41, f 42, f 43, f 44, f 45, f 46, f 47, f 48, f 49, f 50, f 51, f 52, f 53, f 54, f 55, f 56, f 57, f 58, f 59, f 60, f 61, f 62, f 63, f 64, f 65, f 66, f 67, f 68, f 69, f 70, f 71, f 72, f 73, f 74, f 75, f 76, f 77, f 78, f 79, f 80, f 81, f 82, f 83, f 84, f 85, f 86, f 87, f 88, f 89, f 90, f 91, f 92, f 93, f 94, f 95, f 96, f 97, f 98, f 99, f 100, f 101, f 102, f 103, f 104, f 105, f 106, f 107, f 108, f 109, f 110, f 111, f 112, f 113, f 114, f 115, f 116, f 117, f 118, f 119, f 120, f 121, f 122, f 123, f 124, f 125, f 126, f 127, f 128, f 129, f 130, f 131, f 132, f 133, f 134, f 135, f 136, f 137, f 138, f 139, f 140, f 141, f 142, f 143, f 144, f 145, f 146, f 147, f 148, f 149, f 150, f 151, f 152, f 153, f 154, f 155, f 156, f 157, f 158, f 159, f 160, f 161, f 162, f 163, f 164, f 165, f 166, f 167, f 168, f 169, f 170, f 171, f 172], defers := A.defers } := by
  obtain ⟨f, hf, e⟩ := frame173 A h
  refine ⟨f, ?_⟩
  rw [← e0, ← hf 0, ← e1, ← hf 1, ← e2, ← hf 2, ← e5, ← hf 5, ← e6, ← hf 6, ← e7, ← hf 7, ← e8, ← hf 8, ← e9, ← hf 9, ← e16, ← hf 16, ← e17, ← hf 17]
  exact e
end Go.Proofs.YtafcdckpicoppaaGreatDoor
end

section
namespace Go.Hay
open Go.RowKit
set_option linter.unusedVariables false

variable {F : Fence} {n : Nat} {P : Program} {σ α : Type}

/-- The law. -/
theorem wpRangeY {g : Operand} {ps : Array Tmp} {assign body : Code} {Q : Exit → Act → World → Prop} {a : Act} {w : World}
    (hro : F.round = none) (h1 : 1 ≤ n) {gf : Nat} {lb : Array Value} (hg : a.eval g = .func (.func gf) #[] lb) (hFg : F.fn gf) (eg : ∀ args w, (callFunc gf args).run P w = .ok (.enter gf args) w)
    {encs : α → Array Value} {T : σ → σ → World → World → Prop} {Tx : σ → World → World → Prop} {K : σ → World → World → Prop} {ok : σ → α → Prop} {nx : σ → α → σ} {S Sp : σ → Prop} {s0 : σ} {w0 : World}
    (hseq : SeqX F (n - 1) P gf lb encs T Tx K ok nx S Sp s0 w0) (hps : ∀ x, (encs x).size = ps.size)
    (hKt : ∀ {s : σ} {A B C : World}, K s A B → K s B C → K s A C) (hKa : ∀ s W o, K s W (W.alloc o)) (hb0 : K s0 w0 w)
    (I : σ → World → Prop) (Ix : Code → σ → World → Prop) (hI : OwnFrom w.heap.size I) (hIx : ∀ c, OwnFrom w.heap.size (Ix c)) (h0 : I s0 w)
    (hTk : ∀ s s' A B, I s A → T s s' A B → ∀ (k : Nat) (o : Obj), (k = w.heap.size ∨ k = w.heap.size + 1) → A.heap[k]? = some o → B.heap[k]? = some o)
    (hXk : ∀ c s A B, Ix c s A → Tx s A B → ∀ (k : Nat) (o : Obj), (k = w.heap.size ∨ k = w.heap.size + 1) → A.heap[k]? = some o → B.heap[k]? = some o)
    (hIT : ∀ s s' A B, w.heap.size + 2 ≤ A.heap.size → I s A → T s s' A B → I s' B) (hXT : ∀ c s A B, Ix c s A → Tx s A B → Ix c s B)
    (hKb : ∀ (s : σ) (W : World) (o' : Obj), I s W → K s W (W.putObj (w.heap.size + 1) o')) (hKc : ∀ (s : σ) (x : α) (W : World) (o' : Obj), I (nx s x) W → K s W (W.putObj (w.heap.size + 1) o'))
    (hKx : ∀ (c : Code) (s : σ) (x : α) (W : World) (o' : Obj), Ix c (nx s x) W → K s W (W.putObj (w.heap.size + 1) o'))
    (ob : α → Obj) (a₁ : α → Nat → Act) (hassign : ∀ (l : Nat) (x : α) (W : World) (C : Act → World → Prop), C (a₁ x W.heap.size) (W.alloc (ob x)) →
      assign.wpIn (F.inRound l) (n - 1 - 1) P (Exit.then C (fun _ _ _ => False)) { tmps := (ps.zip (encs x)).foldl (fun t (p, v) => t.setIfInBounds p v) a.tmps, defers := [] } W)
    (hbody : ∀ (l : Nat) (s : σ) (x : α) (W : World) (q : Nat), I s W → ok s x → W.heap[q]? = some (ob x) → w.heap.size + 2 ≤ q → body.wpIn (F.inRound l) (n - 1 - 1) P (leftX w.heap.size K I Ix s (nx s x) W) (a₁ x q) W)
    (hdone : ∀ (D : Nat) (s : σ) (W : World), w.heap.size ≤ D → S s → I s W → W.heap[D]? = some (.deferred (some [])) → Q .normal { a with defers := { target := .collected D, args := #[] } :: a.defers } W)
    (hstop : ∀ (D : Nat) (c : Code) (s : σ) (W : World), w.heap.size ≤ D → Sp s → Ix c s W → W.heap[D]? = some (.deferred (some [])) → c.wpIn F n P Q { a with defers := { target := .collected D, args := #[] } :: a.defers } W) :
    (Code.rangeFunc g ps assign body).wpIn F n P Q a w := by
  refine wpIn_rangeFunc fun fn hfn => ?_
  rw [hro]
  -- the loop's record, as it may stand
  let R : LoopState → Option Code → Obj := fun st pe => .loop { state := st, pending := pe, fn, tmps := a.tmps, params := ps, assign, body, defers := w.heap.size }
  let Bk : LoopState → Option Code → World → Prop := fun st pe W => W.heap[w.heap.size + 1]? = some (R st pe) ∧ W.heap[w.heap.size]? = some (.deferred (some []))
  have bkK : ∀ {st pe A B}, KeepsFrom w.heap.size A B → Bk st pe A → Bk st pe B := fun hk hb => ⟨hk.same _ _ (by omega) hb.1 rfl, hk.same _ _ (Nat.le_refl _) hb.2 rfl⟩
  have bkP : ∀ {st pe st' pe' A}, Bk st pe A → Bk st' pe' (A.putObj (w.heap.size + 1) (R st' pe')) := fun hb =>
    ⟨World.putObj_heap_same (Array.getElem?_eq_some_iff.1 hb.1).1, (World.putObj_heap_other (by omega)).trans hb.2⟩
  have iP : ∀ {st pe s A} (o : Obj), Bk st pe A → I s A → I s (A.putObj (w.heap.size + 1) o) := fun o hb hi => hI.putObj o hi (by omega) hb.1 rfl
  have ixP : ∀ {st pe s c A} (o : Obj), Bk st pe A → Ix c s A → Ix c s (A.putObj (w.heap.size + 1) o) := fun o hb hi => (hIx _).putObj o hi (by omega) hb.1 rfl
  have bsz : ∀ {st pe A}, Bk st pe A → w.heap.size + 2 ≤ A.heap.size := fun hb => by have := (Array.getElem?_eq_some_iff.1 hb.1).1; omega
  have b0 : Bk .ready none ((w.alloc (.deferred (some []))).alloc (R .ready none)) :=
    ⟨by have := World.alloc_heap_new (w.alloc (.deferred (some []))) (R .ready none); rwa [World.size_alloc] at this, (Below.heap_alloc _ _ _ (by simp)).trans (World.alloc_heap_new w _)⟩
  refine ⟨w.heap.size + 1, [{ target := .collected w.heap.size, args := #[] }], ((w.alloc (.deferred (some []))).alloc (R .ready none)), { target := .fn (.func gf) lb, args := #[.func (.yield (w.heap.size + 1)) #[] #[]] }, ((w.alloc (.deferred (some []))).alloc (R .ready none)), gf, #[.func (.yield (w.heap.size + 1)) #[] #[]] ++ lb, ((w.alloc (.deferred (some []))).alloc (R .ready none)),
    run_enterLoop_outer _ _ _ _ _, by simp only [resolve, hg]; simp [go_sem], fun f' hf' => by simp [Target.leads] at hf'; subst hf'; exact hFg, by simp [invoke, go_sem, eg], fun _ => h1, ?_⟩
  refine (hseq (w.heap.size + 1) (fun s A => I s A ∧ Bk .ready none A) (fun s A => ∃ c, Ix c s A ∧ Bk .done (some c) A) _ (hKt hb0 (hKt (hKa _ _ _) (hKa _ _ _)))
    (fun s s' A B hs ht => ⟨hIT s s' A B (bsz hs.2) hs.1 ht, hTk s s' A B hs.1 ht _ _ (.inr rfl) hs.2.1, hTk s s' A B hs.1 ht _ _ (.inl rfl) hs.2.2⟩)
    (fun s A B ⟨c, hs, hb⟩ ht => ⟨c, hXT c s A B hs ht, hXk c s A B hs ht _ _ (.inr rfl) hb.1, hXk c s A B hs ht _ _ (.inl rfl) hb.2⟩) ?_ ⟨hI.alloc _ (hI.alloc _ h0), b0⟩).mono ?_
  · -- one round
    rintro s x A ⟨hi, hb⟩ hok
    have hb1 : Bk .ready none (A.alloc (ob x)) := ⟨(Below.heap_alloc A _ _ (Array.getElem?_eq_some_iff.1 hb.1).1).trans hb.1, (Below.heap_alloc A _ _ (Array.getElem?_eq_some_iff.1 hb.2).1).trans hb.2⟩
    have hi1 : I s (A.alloc (ob x)) := hI.alloc _ hi
    have hz := bsz hb
    refine ⟨fn, _, assign, body, run_yield hb.1 (hps x), roundIn_of_wpIn hfn (hassign _ x A _ ⟨_, run_beginRound hb1.1 rfl, ?_⟩)⟩
    have hb2 : Bk .busy none ((A.alloc (ob x)).putObj (w.heap.size + 1) (R .busy none)) := bkP hb1
    refine wpIn_mono (hbody _ s x _ A.heap.size (iP _ hb1 hi1) hok ((World.putObj_heap_other (by omega)).trans (World.alloc_heap_new A (ob x))) hz) ?_
    rintro e a3 W3 hp
    cases e with
    | normal =>
      have hb3 := bkK hp.1 hb2
      exact ⟨_, _, run_endRound none hb3.1, .inl ⟨rfl, ⟨iP _ hb3 hp.2.2, bkP hb3⟩, hKt (hKa _ _ _) (hKt (hKb _ _ _ hi1) (hKt hp.2.1 (hKc _ _ _ _ hp.2.2)))⟩⟩
    | ret => have hb3 := bkK hp.1 hb2; exact ⟨_, _, run_endRound (some .ret) hb3.1, .inr ⟨rfl, ⟨.ret, ixP _ hb3 hp.2.2, bkP hb3⟩, hKt (hKa _ _ _) (hKt (hKb _ _ _ hi1) (hKt hp.2.1 (hKx _ _ _ _ _ hp.2.2)))⟩⟩
    | exit id => have hb3 := bkK hp.1 hb2; exact ⟨_, _, run_endRound (some (.exit id)) hb3.1, .inr ⟨rfl, ⟨.exit id, ixP _ hb3 hp.2.2, bkP hb3⟩, hKt (hKa _ _ _) (hKt (hKb _ _ _ hi1) (hKt hp.2.1 (hKx _ _ _ _ _ hp.2.2)))⟩⟩
    | goto t => have hb3 := bkK hp.1 hb2; exact ⟨_, _, run_endRound (some (.goto t)) hb3.1, .inr ⟨rfl, ⟨.goto t, ixP _ hb3 hp.2.2, bkP hb3⟩, hKt (hKa _ _ _) (hKt (hKb _ _ _ hi1) (hKt hp.2.1 (hKx _ _ _ _ _ hp.2.2)))⟩⟩
    | panic ch => exact hp.elim
    | outgrown => exact hp.elim
  · -- behind the iterator
    rintro e A ⟨⟨v, rfl⟩, (⟨s, hS, hi, hb⟩ | ⟨s, hSp, c, hi, hb⟩)⟩
    · exact ⟨none, _, run_endLoop hb.1 (by simp), hdone _ s _ (Nat.le_refl _) hS (iP _ hb hi) ((World.putObj_heap_other (by omega)).trans hb.2)⟩
    · exact ⟨some c, _, run_endLoop hb.1 (by simp), hstop _ c s _ (Nat.le_refl _) hSp (ixP _ hb hi) ((World.putObj_heap_other (by omega)).trans hb.2)⟩
end Go.Hay
end

section
namespace Go.Hay
open Go.RowKit
set_option linter.unusedVariables false

variable {P : Program} {l n : Nat}
theorem upon_round {o : Oper} {a : Act} {K : Act → World → Prop} {Q : Exit → Act → World → Prop} : ∀ {r : Result Next}, o.upon P a K Q r → o.uponIn (Fence.wide.inRound l) n P a K Q r := by
  intro r h
  have hdep : (Fence.wide.inRound l).depth.isSome = true → 1 ≤ n := fun h => by cases h
  unfold Oper.upon at h
  split at h
  · exact h
  · exact h
  · exact h
  · exact ⟨hdep, callsIn_wide.2 h⟩
  · refine ⟨hdep, fun c cs _ => ?_⟩
    obtain ⟨v, w', hr, hs⟩ := h c cs
    exact ⟨v, w', hr, stepsIn_wide.2 hs⟩
  · exact h
  · exact h.elim
theorem op_round {ops : Array Oper} {i : Nat} {K : Act → World → Prop} {Q : Exit → Act → World → Prop} {a : Act} {w : World} (hnd : ∀ o, ops[i]? = some o → ∀ c, o.op ≠ .defer c) (hlo : ¬ LetsOut Q) (h : wpOp P ops Q i K a w) : wpOpIn (Fence.wide.inRound l) n P ops Q i K a w := by
  unfold wpOp at h
  unfold wpOpIn
  cases ho : ops[i]? with
  | none => rw [ho] at h; exact h
  | some o =>
    rw [ho] at h
    simp only at h ⊢
    split
    · rename_i hw
      rw [if_pos hw] at h
      rcases h with h | h
      · refine ⟨fun _ _ => trivial, ?_⟩
        rw [Oper.semAt_plain _ _ _ (hnd o ho)]
        exact upon_round h
      · exact absurd h.2 hlo
    · rename_i hw
      rw [if_neg hw] at h
      exact ⟨fun _ _ => trivial, h⟩
theorem any_round {ops : Array Oper} {Q : Exit → Act → World → Prop} {S : World → Prop} (hnd : ∀ (i : Nat) (o : Oper), ops[i]? = some o → ∀ c, o.op ≠ .defer c) (hlo : ¬ LetsOut Q) : ∀ (fuel : Nat) (listed : Array Bool) (a : Act) (w : World), wpAnyH P .any ops Q S fuel listed a w → wpAnyIn (Fence.wide.inRound l) n P .any ops Q fuel listed a w
  | 0, _, _, _, h => h
  | fuel + 1, listed, a, w, h => ⟨h.1, fun i hi => op_round (hnd i) hlo (wpOp_mono (fun a w hk => any_round hnd hlo fuel _ a w hk.2) (h.2 i hi))⟩
def noDefer (ops : Array Oper) : Bool := ops.all fun o => match o.op with | .defer _ => false | _ => true
theorem noDefer_spec {ops : Array Oper} (h : noDefer ops = true) (i : Nat) (o : Oper) (ho : ops[i]? = some o) (c : Call) : o.op ≠ .defer c := fun e => by
  have := Array.all_eq_true.1 h i (Array.getElem?_eq_some_iff.1 ho).1
  rw [(Array.getElem?_eq_some_iff.1 ho).2, e] at this
  cases this
theorem region_round {id : Nat} {ops : Array Oper} {Q : Exit → Act → World → Prop} {a : Act} {w : World} (S : World → Prop) (hm : P.follows .mixedOrders = true) (hnd : noDefer ops = true) (hlo : ¬ LetsOut Q) (hS : S w.drew)
    (h : S w.drew → wpAnyH P .any ops Q S ops.size (Array.replicate ops.size false) a w.drew) : (Code.region id ops true).wpIn (Fence.wide.inRound l) n P Q a w :=
  wpIn_region_any hm (any_round (noDefer_spec hnd) hlo _ _ _ _ (h hS))
end Go.Hay
end

section
namespace Go.Proofs.YtafcdckpicoppaaGreatDoor
open Go.RowKit Go.Hay
attribute [local go_sem] Oper.semAt_some
set_option linter.unusedVariables false
set_option linter.unusedSimpArgs false

def lN : List Val := [nulV]
theorem refN : refE (bestV lN) lN = 0 := by decide +kernel
theorem wrN : wrB (-1) lN = (blkB (bestV lN) lN, 0) := by
  unfold wrB kindW
  rw [if_neg (by decide), if_pos rfl, if_pos refN]
theorem nulN : nullsV lN = 1 := by decide +kernel
theorem inN : ∀ x ∈ lN, x.in64 := fun x hx => by
  rw [List.mem_singleton.1 hx]
  simp [Val.in64, nulV]
theorem hdN : ∃ i s, hdP (blkB (bestV lN) lN) = (i, s, 0) ∧ i.nulls = 1 := by
  have := hdP_one (bestV lN, lN) ⟨by decide, inN, refN⟩ []
  rw [List.append_nil] at this
  exact ⟨_, _, this, by simp [nulN]⟩
theorem seeN (w : World) (t : TypeId) (v : Val) : VE.See (w.alloc (.cells #[.int .i64 v.k, .bool v.b, .int .i64 v.n, .string v.t] t)) (some ⟨w.heap.size, 0, none⟩) [v] := by
  have b := Bx.new w (VE.c v) t
  exact .inr ⟨w.heap.size, 0, rfl, fun j u hu => by rw [Nat.zero_add]; exact b.get j u (by simpa [El.cs] using hu)⟩
set_option maxHeartbeats 64000000 in
set_option maxRecDepth 100000 in
theorem walkSk (la : Option Addr) (lc : Nat) (L : List Vs) (ka : Option Addr) (kc : Nat) (K : List Int) (co op yk : Int) (yb : Bool) (yn : Int) (yt : ByteArray) (w : World) (ht0 : Tab w) (hA0 : Asks w) (hsL : VsE.See w la L) (hoL : ∀ y ∈ L, y.ok w) (hLc : L.length ≤ lc) (hLm : lc ≤ maxLen) (hsK : IntE.See w ka K) (hKc : K.length ≤ kc) (hKm : kc ≤ maxLen) (hL : L.length ≤ 1048576) (hV : (L.map fun y => y.l.length).sum ≤ 1048576) :
    CallsIn Fence.wide 9 Tryz.prog 3 #[.slice la L.length lc, .slice ka K.length kc, .agg #[.int .i64 co, .int .i64 op, .int .i64 yk, .bool yb, .int .i64 yn, .string yt]] w fun e w' => e = .returned (.bool true) ∧ Kp [] w w' := by
  obtain ⟨w1, hw1, k1, b1⟩ : ∃ w1, w.alloc (.cells #[.int .i64 co, .int .i64 op, .int .i64 yk, .bool yb, .int .i64 yn, .string yt] 27) = w1 ∧ Kp [] w w1 ∧ Bx w1 w.heap.size [.int .i64 co, .int .i64 op, .int .i64 yk, .bool yb, .int .i64 yn, .string yt] := ⟨_, rfl, (Kp.refl _ _).alloc _, Bx.new w _ _⟩
  obtain ⟨w2, hw2, k2, b2⟩ : ∃ w2, w1.alloc (.cells #[.bool false] 4) = w2 ∧ Kp [] w1 w2 ∧ Bx w2 w1.heap.size [.bool false] := ⟨_, rfl, (Kp.refl _ _).alloc _, Bx.new w1 _ _⟩
  obtain ⟨q5, hq5⟩ : ∃ q, Hid (w.heap.size = q) := ⟨_, rfl⟩
  obtain ⟨q6, hq6⟩ : ∃ q, Hid (w1.heap.size = q) := ⟨_, rfl⟩
  rw [hq5.out] at b1
  rw [hq6.out] at b2
  have b12 := b1.kept k2 (by simp) (b1.lt (by simp))
  have c50 := b12.get 0 _ rfl
  have c5f := b12.free 0
  obtain ⟨w3, hw3, k3, b13⟩ : ∃ w3, w2.setCell ⟨q5, 0, none⟩ (.int .i64 0) = w3 ∧ Kp [q5] w2 w3 ∧ Bx w3 q5 [.int .i64 0, .int .i64 op, .int .i64 yk, .bool yb, .int .i64 yn, .string yt] := ⟨_, rfl, (Kp.refl _ _).setCell (.inl (by simp)) _, b12.set 0 (by simp) _⟩
  have hq56 : q5 < q6 := by rw [← hq6.out]; exact b1.lt (by simp)
  have hq5w : w.heap.size ≤ q5 := by rw [hq5.out]; omega
  have b23 := b2.kept k3 (by simp; omega) (b2.lt (by simp))
  have kw3 : Kp [] w w3 := (k1.trans k2 (by simp)).trans k3 (fun x hx => .inr (by simp at hx; omega))
  obtain ⟨w4, hw4, k4, b4⟩ : ∃ w4, w3.alloc (.cells #[.slice none 0 0] 23) = w4 ∧ Kp [] w3 w4 ∧ Bx w4 w3.heap.size [.slice none 0 0] := ⟨_, rfl, (Kp.refl _ _).alloc _, Bx.new w3 _ _⟩
  obtain ⟨q8, hq8⟩ : ∃ q, Hid (w3.heap.size = q) := ⟨_, rfl⟩
  rw [hq8.out] at b4
  have b14 := b13.kept k4 (by simp) (b13.lt (by simp))
  have b24 := b23.kept k4 (by simp) (b23.lt (by simp))
  have kw4 := kw3.trans k4 (by simp)
  have hq68 : q6 < q8 := by rw [← hq8.out]; exact b23.lt (by simp)
  have hq84 : q8 < w4.heap.size := b4.lt (by simp)
  have hTm : Hid (∀ (v : Val) (a : Option Addr) (c : Nat) (W : World), Kp [] w W → VE.See W a [v] → Calls Tryz.prog 5 #[.agg #[.int .i64 0, .int .i64 op, .int .i64 yk, .bool yb, .int .i64 yn, .string yt], .slice a 1 c] W fun e w' => e = .returned (.bool (tbT op ⟨yk, yb, yn, yt⟩ v)) ∧ Kp [] W w') := fun v a c W kW hs => by
    have := xTerm ⟨0, op, ⟨yk, yb, yn, yt⟩⟩ a c [v] W (hA0.kept kW (by simp)) hs (by simp)
    rw [tbT_one] at this
    exact this
  have hWr : Hid (∀ (j : Nat) (hj : j < L.length) k W, Kp [] w W → Calls Tryz.prog 4 #[.int .i64 k, .slice L[j].a L[j].l.length L[j].c] W (BsP (wrB k L[j].l) W)) := fun j hj k W kW => by
    have ho := hoL L[j] (List.getElem_mem hj)
    exact cWriteB k _ _ _ W (ht0.kept kW (by simp)) (ho.see.kept kW) ho.cap ho.most
  have hVl : Hid (∀ (j : Nat) (hj : j < L.length) W, Kp [] w W → Vals W L[j].a L[j].l ∧ L[j].l.length ≤ 1048576) := fun j hj W kW => by
    have ho := hoL L[j] (List.getElem_mem hj)
    refine ⟨ho.see.kept kW, ?_⟩
    have : L[j].l.length ∈ L.map fun y => y.l.length := List.mem_map.2 ⟨L[j], List.getElem_mem hj, rfl⟩
    have := le_sumN this
    omega
  have hi64 : Hid (∀ (j : Nat) (hj : j < L.length), ∀ y ∈ L[j].l, y.in64) := fun j hj y hy => ((hoL L[j] (List.getElem_mem hj)).val y hy).2.1
  have hcL : Hid (∀ (j : Nat) (hj : j < L.length), ∃ g o, la = some ⟨g, o, none⟩ ∧ w.cell? ⟨g, o + j, none⟩ = some (.slice L[j].a L[j].l.length L[j].c)) := fun j hj => vsAt hsL (by simp [hj])
  have hcK : Hid (∀ (j : Nat) (hj : j < K.length), ∃ g o, ka = some ⟨g, o, none⟩ ∧ w.cell? ⟨g, o + j, none⟩ = some (.int .i64 K[j])) := fun j hj => intAtS hsK (by simp [hj])
  have hgo : Hid (∀ W, Kp [q8] w4 W → Kp [] w W) := fun W k => kw4.trans k (fun x hx => .inr (by simp at hx; have := kw3.size; omega))
  have H4 := hid (And.intro b14 (And.intro b24 (And.intro b4 kw4)))
  have hM0 : Hid (SkI w4 q8 w4 none 0 [] none 0 []) := ⟨.inl ⟨rfl, rfl⟩, .inl ⟨rfl, rfl⟩, by simp [blk], by simp [blk], by simp [blk], b4, Kp.refl _ _⟩
  obtain ⟨tb, htb⟩ : ∃ t, Hid (tbT op ⟨yk, yb, yn, yt⟩ = t) := ⟨_, rfl⟩
  have hB0 : Hid (SkB tb L 0 [] [] []) := ⟨⟨[], by simp, rfl, rfl⟩, by simp, by simp, rfl⟩
  simp only [htb.out] at hTm
  have hTab : Hid (∀ W, Kp [] w W → Tab W) := fun W k => ht0.kept k (by simp)
  have hz4 : Hid (w.heap.size ≤ w4.heap.size) := kw4.size
  have hsum := hid (fun j => Nat.le_trans (sum_take_le L j) hV)
  clear hsL hsK hoL ht0 hA0 k1 k2 k3 k4 b1 b2 b12 b13 b23 b4 b14 b24 kw3 kw4 hV
  have hq5' := hq5.out
  have hq6' := hq6.out
  have hq8' := hq8.out
  refine callsIn_of_wp_marks Tryz.func3 rfl trivial ?_ rfl
  simp only [Tryz.ntmps3, List.size_toArray, List.length_cons, List.length_nil, Nat.reduceAdd, Nat.reduceSub, Array.replicate_succ, Array.replicate_zero, List.push_toArray, List.append_toArray, List.nil_append, List.cons_append]
  refine wpIn_wide.2 ?_
  go_wp2_with fail
  go_loopw [7, 9, 30] (fun v7 v9 i wn => ∃ (j : Nat) (ba : Option Addr) (bc : Nat) (bs : List UInt8) (N : Nat) (va : Option Addr) (vc : Nat) (vs : List Val) (ns : List Int), j ≤ L.length ∧ i = .int .i64 j ∧ v7 = .slice ba bs.length bc ∧ v9 = .int .i64 (N : Int) ∧ Hid (N = vs.length) ∧ Hid (SkI w4 q8 wn ba bc bs va vc ns) ∧ Hid (SkB tb L j bs vs ns)) (fun _ _ i _ => L.length - (intOf i).toNat)
  case atStart => exact ⟨0, none, 0, [], 0, none, 0, [], [], Nat.zero_le _, rfl, rfl, rfl, rfl, hM0, hB0⟩
  case round =>
    obtain ⟨j, ba, bc, bs, N, va, vc, vs, ns, hj, rfl, rfl, rfl, hN, HM, hI⟩ := hrel
    clear hB0 hM0
    by_cases hlt : j < L.length
    · have kW := hgo.out _ HM.out.kp
      obtain ⟨g, o, ea, c00⟩ := hcL.out j hlt
      have c0 := hid c00
      have cL := (kW.cell (p := ⟨g, o + j, none⟩) (World.block_lt_of_cell? _ _ c00) (by simp)).trans c00
      have dj1 : (j : Int) < (L.length : Int) := by omega
      have dj0 : (0 : Int) ≤ (j : Int) := by omega
      have cW' := fun kk => hWr.out j hlt kk _ kW
      have hst' := fun kk he => hI.out.some hlt kk (hi64.out j hlt) he
      have hno := hid (hI.out.none hlt)
      have hVl' := hVl.out j hlt
      obtain ⟨Y, hY⟩ : ∃ Y, L[j] = Y := ⟨_, rfl⟩
      rw [hY] at cL c0 c00 hVl'
      simp only [hY] at cW' hst' hVl'
      obtain ⟨ya, yc, yl⟩ := Y
      dsimp only at cL c0 cW' hst' hVl'
      have hVlj := hid hVl'
      clear c00 hY hVl'
      subst ea
      by_cases hk : j < K.length
      · obtain ⟨g2, o2, ea2, c20⟩ := hcK.out j hk
        have cK := (kW.cell (p := ⟨g2, o2 + j, none⟩) (World.block_lt_of_cell? _ _ c20) (by simp)).trans c20
        have dk1 : (j : Int) < (K.length : Int) := by omega
        obtain ⟨kk, hkk⟩ : ∃ kk, K[j] = kk := ⟨_, rfl⟩
        rw [hkk] at cK
        have cW := cW' kk
        have hst := hst' kk
        subst ea2
        clear c20 hkk cW' hst' kW
        have hRle := wrB_len kk yl
        obtain ⟨⟨R1, R2⟩, hR⟩ : ∃ R, Hid (wrB kk yl = R) := ⟨_, rfl⟩
        rw [hR.out] at cW hRle hst
        unfold BsP at cW
        dsimp only at cW hRle hst
        have HW := hid cW
        clear cW
        go_wp2_with fail
        refine HW.out.mono ?_
        rintro e w5 ⟨rb, rc, rfl, hrow3, k3, hn3⟩
        obtain ⟨rb', rc', erb, hs3, _⟩ := hrow3.sees
        cases erb
        have HM3 := hid (HM.out.keep k3)
        clear hrow3 hn3 k3 HW HM
        by_cases hE : R2 = 0
        · subst hE
          obtain ⟨ba4, bc4, w6, hrun4, hrow4, k4, hn4⟩ := appB HM3.out.b rb rc R1 hs3 (by have := hI.out.nl; omega) (by omega)
          obtain ⟨B4, hB4⟩ : ∃ B, Hid (bs ++ R1 = B) := ⟨_, rfl⟩
          rw [hB4.out] at hrun4 hrow4
          have HM4 := hid (HM3.out.addB hq84 hrow4 k4 hn4)
          have kW4 := hgo.out w6 HM4.out.kp
          have hI2 := hid (hst rfl)
          rw [hB4.out] at hI2
          have cL4 := (kW4.cell (p := ⟨g, o + j, none⟩) (World.block_lt_of_cell? _ _ c0.out) (by simp)).trans c0.out
          clear hs3 hrow4 k4 hn4 hst HM3
          go_wp2_with (first | (refine wpAppRun rfl _ _ 28 28 rfl _ _ _ rfl rfl hrun4 ?_) | fail)
          clear hrun4 cL4 kW4 cL
          go_loopw [9, 60] (fun v9 i wn => ∃ (m : Nat) (N2 : Nat) (va2 : Option Addr) (vc2 : Nat) (ns2 : List Int), m ≤ yl.length ∧ i = .int .i64 (m : Int) ∧ v9 = .int .i64 (N2 : Int) ∧ Hid (N2 = vs.length + m) ∧ Hid (SkI w4 q8 wn ba4 bc4 B4 va2 vc2 ns2) ∧ Hid (ns2 = posF tb 0 (vs ++ yl.take m))) (fun _ i _ => yl.length - (intOf i).toNat)
          case atStart => exact ⟨0, N, va, vc, ns, Nat.zero_le _, rfl, rfl, by rw [hN.out]; rfl, HM4, by rw [hI.out.ns]; simp [hid]⟩
          case round =>
            obtain ⟨m, N2, va2, vc2, ns2, hm, rfl, rfl, hN2, HM, hns⟩ := hrel
            clear HM4
            by_cases hml : m < yl.length
            · have kW := hgo.out _ HM.out.kp
              obtain ⟨g3, o3, ey, y0, y1, y2, y3⟩ := (hVlj.out _ kW).1.at m hml
              obtain ⟨v, hv⟩ : ∃ v, Hid (yl[m] = v) := ⟨yl[m], rfl⟩
              rw [hv.out] at y0 y1 y2 y3
              have hvm : Hid (yl[m]? = some v) := by show _ = _; rw [List.getElem?_eq_getElem hml, hv.out]
              have hpy := hid (fun h => posF_yes tb (vs ++ yl.take m) v h)
              have hpn := hid (fun h => posF_no tb (vs ++ yl.take m) v h)
              obtain ⟨q15, WA, WB, eq15, eWA, bWA, eWB, bWB, kWB, zWB⟩ := boxV4 wr v
              have HMB := hid (HM.out.keep kWB)
              have kB := kW.trans kWB (by simp)
              have b5 := H4.out.1.kept HMB.out.kp (by simp; omega) (H4.out.1.lt (by simp))
              have t0 := b5.get 0 _ rfl; have t1 := b5.get 1 _ rfl; have t2 := b5.get 2 _ rfl; have t3 := b5.get 3 _ rfl; have t4 := b5.get 4 _ rfl; have t5 := b5.get 5 _ rfl
              have m0 := bWA.get 0 _ rfl; have m1 := bWA.get 1 _ rfl; have m2 := bWA.get 2 _ rfl; have m3 := bWA.get 3 _ rfl
              have mf0 := bWA.free 0; have mf1 := bWA.free 1; have mf2 := bWA.free 2; have mf3 := bWA.free 3
              have v0 := bWB.get 0 _ rfl; have v1 := bWB.get 1 _ rfl; have v2 := bWB.get 2 _ rfl; have v3 := bWB.get 3 _ rfl
              obtain ⟨WC, eWC⟩ : ∃ Y, WB.alloc (.cells #[.int .i64 v.k, .bool v.b, .int .i64 v.n, .string v.t] 25) = Y := ⟨_, rfl⟩
              have kWC : Kp [] WB WC := by rw [← eWC]; exact (Kp.refl _ _).alloc _
              have sWC := seeN WB 25 v
              rw [eWC] at sWC
              obtain ⟨q66, hq66⟩ : ∃ q, WB.heap.size = q := ⟨_, rfl⟩
              rw [hq66] at sWC
              have cT := hid (hTm.out v _ 1 WC (kB.trans kWC (by simp)) sWC)
              have HMC := hid (HMB.out.keep kWC)
              obtain ⟨tv, htv⟩ : ∃ b, Hid (tb v = b) := ⟨_, rfl⟩
              rw [htv.out] at cT
              have dm1 : (m : Int) < (yl.length : Int) := by omega
              have dm0 : (0 : Int) ≤ (m : Int) := by omega
              have dm2 : (-9223372036854775808 : Int) ≤ (N2 : Int) + 1 := by omega
              have hN2b : N2 ≤ 1048576 + 1048576 := by rw [hN2.out]; have := hsum.out j; have := hI.out.vl; have := (hVlj.out _ kW).2; omega
              have dm3 : (N2 : Int) + 1 ≤ 9223372036854775807 := by omega
              have hyl := (hVlj.out _ kW).2
              have dm4 : (-9223372036854775808 : Int) ≤ (m : Int) + 1 := by omega
              have dm5 : (m : Int) + 1 ≤ 9223372036854775807 := by omega
              obtain ⟨vk, vb, vn, vt⟩ := v
              dsimp only at *
              clear HM HMB b5 bWA bWB kWB kWC sWC kB kW
              subst ey
              go_wp2_with fail
              refine cT.out.mono ?_
              rintro e WD ⟨rfl, kWD⟩
              have HMD := hid (HMC.out.keep kWD)
              clear cT HMC kWD t0 t1 t2 t3 t4 t5 m0 m1 m2 m3 mf0 mf1 mf2 mf3 v0 v1 v2 v3 y0 y1 y2 y3
              cases tv with
              | true =>
                obtain ⟨va3, vc3, WE, hrun5, hrow5, k5, hn5⟩ := appIS WD va2 vc2 ns2 (N2 : Int) HMD.out.v (by rw [hns.out]; have := posF_len tb (vs ++ yl.take m) 0; rw [List.length_append, List.length_take] at this; have := hN2.out; omega)
                obtain ⟨M2, hM2⟩ : ∃ M, Hid (ns2 ++ [(N2 : Int)] = M) := ⟨_, rfl⟩
                rw [hM2.out] at hrun5 hrow5
                have H5 := HMD.out.addV hq84 hrow5 k5 hn5
                have s8 := HMD.out.bx.get 0 _ rfl
                have s8w : (WD.alloc (.cells #[.int .i64 (N2 : Int)] 3)).cell? ⟨q8, 0, none⟩ = some (.slice va2 ns2.length vc2) := kpAt ((Kp.refl _ _).alloc _) s8
                have s8b := H5.1.get 0 _ rfl
                have f8b := H5.1.free 0
                have H5' := hid H5.2
                have hpy2 := hpy.out htv.out
                have hns3 : Hid (M2 = posF tb 0 (vs ++ yl.take (m + 1))) := by
                  show _ = _
                  rw [take_snocV hvm.out, ← List.append_assoc, hpy2, ← hM2.out, hns.out, hN2.out]
                  simp
                  omega
                clear HMD H5 hrow5 k5 hn5 hpy hpn hpy2
                go_wp2_with (first | (refine wpAppRun rfl _ _ 23 23 rfl _ _ _ rfl rfl hrun5 ?_) | fail)
                go_roundw
                case rel => exact ⟨m + 1, N2 + 1, va3, vc3, M2, by omega, by simp, by simp, by rw [hN2.out]; rfl, H5', hns3⟩
                case measure => simp [intOf]; omega
              | false =>
                have hns3 : Hid (ns2 = posF tb 0 (vs ++ yl.take (m + 1))) := by
                  show _ = _
                  rw [take_snocV hvm.out, ← List.append_assoc, hpn.out htv.out, hns.out]
                clear hpy hpn
                go_wp2_with fail
                go_roundw
                case rel => exact ⟨m + 1, N2 + 1, va2, vc2, ns2, by omega, by simp, by simp, by rw [hN2.out]; rfl, HMD, hns3⟩
                case measure => simp [intOf]; omega
            · have dm1 : ¬ (m : Int) < (yl.length : Int) := by omega
              have dm2 : decide ((m : Int) < (yl.length : Int)) = false := by simp; omega
              have hmm : m = yl.length := by omega
              rw [hmm, List.take_length] at hns
              have hI3 : Hid (SkB tb L (j + 1) B4 (vs ++ yl) ns2) := by show _; rw [hns.out]; exact hI2.out
              have hN3 : Hid (N2 = (vs ++ yl).length) := by show _ = _; rw [List.length_append, hN2.out, hmm]
              clear hmm
              go_wp2_with fail
              go_roundw
              case rel => exact ⟨j + 1, ba4, bc4, B4, N2, va2, vc2, vs ++ yl, ns2, by omega, by simp, rfl, rfl, hN3, HM, hI3⟩
              case measure => simp [intOf]; omega
        · have d1 : (R2 != 0) = true := by simpa using hE
          clear hst hs3
          go_wp2_with fail
          go_roundw
          case rel => exact ⟨j + 1, ba, bc, bs, N, va, vc, vs, ns, by omega, by simp, rfl, rfl, hN, HM3, hno⟩
          case measure => simp [intOf]; omega
      · have dk1 : decide ((j : Int) < (K.length : Int)) = false := by simp; omega
        have cW := cW' (-1)
        have hst := hst' (-1)
        clear cW' hst' kW
        have hRle := wrB_len (-1) yl
        obtain ⟨⟨R1, R2⟩, hR⟩ : ∃ R, Hid (wrB (-1) yl = R) := ⟨_, rfl⟩
        rw [hR.out] at cW hRle hst
        unfold BsP at cW
        dsimp only at cW hRle hst
        have HW := hid cW
        clear cW
        go_wp2_with fail
        refine HW.out.mono ?_
        rintro e w5 ⟨rb, rc, rfl, hrow3, k3, hn3⟩
        obtain ⟨rb', rc', erb, hs3, _⟩ := hrow3.sees
        cases erb
        have HM3 := hid (HM.out.keep k3)
        clear hrow3 hn3 k3 HW HM
        by_cases hE : R2 = 0
        · subst hE
          obtain ⟨ba4, bc4, w6, hrun4, hrow4, k4, hn4⟩ := appB HM3.out.b rb rc R1 hs3 (by have := hI.out.nl; omega) (by omega)
          obtain ⟨B4, hB4⟩ : ∃ B, Hid (bs ++ R1 = B) := ⟨_, rfl⟩
          rw [hB4.out] at hrun4 hrow4
          have HM4 := hid (HM3.out.addB hq84 hrow4 k4 hn4)
          have kW4 := hgo.out w6 HM4.out.kp
          have hI2 := hid (hst rfl)
          rw [hB4.out] at hI2
          have cL4 := (kW4.cell (p := ⟨g, o + j, none⟩) (World.block_lt_of_cell? _ _ c0.out) (by simp)).trans c0.out
          clear hs3 hrow4 k4 hn4 hst HM3
          go_wp2_with (first | (refine wpAppRun rfl _ _ 28 28 rfl _ _ _ rfl rfl hrun4 ?_) | fail)
          clear hrun4 cL4 kW4 cL
          go_loopw [9, 60] (fun v9 i wn => ∃ (m : Nat) (N2 : Nat) (va2 : Option Addr) (vc2 : Nat) (ns2 : List Int), m ≤ yl.length ∧ i = .int .i64 (m : Int) ∧ v9 = .int .i64 (N2 : Int) ∧ Hid (N2 = vs.length + m) ∧ Hid (SkI w4 q8 wn ba4 bc4 B4 va2 vc2 ns2) ∧ Hid (ns2 = posF tb 0 (vs ++ yl.take m))) (fun _ i _ => yl.length - (intOf i).toNat)
          case atStart => exact ⟨0, N, va, vc, ns, Nat.zero_le _, rfl, rfl, by rw [hN.out]; rfl, HM4, by rw [hI.out.ns]; simp [hid]⟩
          case round =>
            obtain ⟨m, N2, va2, vc2, ns2, hm, rfl, rfl, hN2, HM, hns⟩ := hrel
            clear HM4
            by_cases hml : m < yl.length
            · have kW := hgo.out _ HM.out.kp
              obtain ⟨g3, o3, ey, y0, y1, y2, y3⟩ := (hVlj.out _ kW).1.at m hml
              obtain ⟨v, hv⟩ : ∃ v, Hid (yl[m] = v) := ⟨yl[m], rfl⟩
              rw [hv.out] at y0 y1 y2 y3
              have hvm : Hid (yl[m]? = some v) := by show _ = _; rw [List.getElem?_eq_getElem hml, hv.out]
              have hpy := hid (fun h => posF_yes tb (vs ++ yl.take m) v h)
              have hpn := hid (fun h => posF_no tb (vs ++ yl.take m) v h)
              obtain ⟨q15, WA, WB, eq15, eWA, bWA, eWB, bWB, kWB, zWB⟩ := boxV4 wr v
              have HMB := hid (HM.out.keep kWB)
              have kB := kW.trans kWB (by simp)
              have b5 := H4.out.1.kept HMB.out.kp (by simp; omega) (H4.out.1.lt (by simp))
              have t0 := b5.get 0 _ rfl; have t1 := b5.get 1 _ rfl; have t2 := b5.get 2 _ rfl; have t3 := b5.get 3 _ rfl; have t4 := b5.get 4 _ rfl; have t5 := b5.get 5 _ rfl
              have m0 := bWA.get 0 _ rfl; have m1 := bWA.get 1 _ rfl; have m2 := bWA.get 2 _ rfl; have m3 := bWA.get 3 _ rfl
              have mf0 := bWA.free 0; have mf1 := bWA.free 1; have mf2 := bWA.free 2; have mf3 := bWA.free 3
              have v0 := bWB.get 0 _ rfl; have v1 := bWB.get 1 _ rfl; have v2 := bWB.get 2 _ rfl; have v3 := bWB.get 3 _ rfl
              obtain ⟨WC, eWC⟩ : ∃ Y, WB.alloc (.cells #[.int .i64 v.k, .bool v.b, .int .i64 v.n, .string v.t] 25) = Y := ⟨_, rfl⟩
              have kWC : Kp [] WB WC := by rw [← eWC]; exact (Kp.refl _ _).alloc _
              have sWC := seeN WB 25 v
              rw [eWC] at sWC
              obtain ⟨q66, hq66⟩ : ∃ q, WB.heap.size = q := ⟨_, rfl⟩
              rw [hq66] at sWC
              have cT := hid (hTm.out v _ 1 WC (kB.trans kWC (by simp)) sWC)
              have HMC := hid (HMB.out.keep kWC)
              obtain ⟨tv, htv⟩ : ∃ b, Hid (tb v = b) := ⟨_, rfl⟩
              rw [htv.out] at cT
              have dm1 : (m : Int) < (yl.length : Int) := by omega
              have dm0 : (0 : Int) ≤ (m : Int) := by omega
              have dm2 : (-9223372036854775808 : Int) ≤ (N2 : Int) + 1 := by omega
              have hN2b : N2 ≤ 1048576 + 1048576 := by rw [hN2.out]; have := hsum.out j; have := hI.out.vl; have := (hVlj.out _ kW).2; omega
              have dm3 : (N2 : Int) + 1 ≤ 9223372036854775807 := by omega
              have hyl := (hVlj.out _ kW).2
              have dm4 : (-9223372036854775808 : Int) ≤ (m : Int) + 1 := by omega
              have dm5 : (m : Int) + 1 ≤ 9223372036854775807 := by omega
              obtain ⟨vk, vb, vn, vt⟩ := v
              dsimp only at *
              clear HM HMB b5 bWA bWB kWB kWC sWC kB kW
              subst ey
              go_wp2_with fail
              refine cT.out.mono ?_
              rintro e WD ⟨rfl, kWD⟩
              have HMD := hid (HMC.out.keep kWD)
              clear cT HMC kWD t0 t1 t2 t3 t4 t5 m0 m1 m2 m3 mf0 mf1 mf2 mf3 v0 v1 v2 v3 y0 y1 y2 y3
              cases tv with
              | true =>
                obtain ⟨va3, vc3, WE, hrun5, hrow5, k5, hn5⟩ := appIS WD va2 vc2 ns2 (N2 : Int) HMD.out.v (by rw [hns.out]; have := posF_len tb (vs ++ yl.take m) 0; rw [List.length_append, List.length_take] at this; have := hN2.out; omega)
                obtain ⟨M2, hM2⟩ : ∃ M, Hid (ns2 ++ [(N2 : Int)] = M) := ⟨_, rfl⟩
                rw [hM2.out] at hrun5 hrow5
                have H5 := HMD.out.addV hq84 hrow5 k5 hn5
                have s8 := HMD.out.bx.get 0 _ rfl
                have s8w : (WD.alloc (.cells #[.int .i64 (N2 : Int)] 3)).cell? ⟨q8, 0, none⟩ = some (.slice va2 ns2.length vc2) := kpAt ((Kp.refl _ _).alloc _) s8
                have s8b := H5.1.get 0 _ rfl
                have f8b := H5.1.free 0
                have H5' := hid H5.2
                have hpy2 := hpy.out htv.out
                have hns3 : Hid (M2 = posF tb 0 (vs ++ yl.take (m + 1))) := by
                  show _ = _
                  rw [take_snocV hvm.out, ← List.append_assoc, hpy2, ← hM2.out, hns.out, hN2.out]
                  simp
                  omega
                clear HMD H5 hrow5 k5 hn5 hpy hpn hpy2
                go_wp2_with (first | (refine wpAppRun rfl _ _ 23 23 rfl _ _ _ rfl rfl hrun5 ?_) | fail)
                go_roundw
                case rel => exact ⟨m + 1, N2 + 1, va3, vc3, M2, by omega, by simp, by simp, by rw [hN2.out]; rfl, H5', hns3⟩
                case measure => simp [intOf]; omega
              | false =>
                have hns3 : Hid (ns2 = posF tb 0 (vs ++ yl.take (m + 1))) := by
                  show _ = _
                  rw [take_snocV hvm.out, ← List.append_assoc, hpn.out htv.out, hns.out]
                clear hpy hpn
                go_wp2_with fail
                go_roundw
                case rel => exact ⟨m + 1, N2 + 1, va2, vc2, ns2, by omega, by simp, by simp, by rw [hN2.out]; rfl, HMD, hns3⟩
                case measure => simp [intOf]; omega
            · have dm1 : ¬ (m : Int) < (yl.length : Int) := by omega
              have dm2 : decide ((m : Int) < (yl.length : Int)) = false := by simp; omega
              have hmm : m = yl.length := by omega
              rw [hmm, List.take_length] at hns
              have hI3 : Hid (SkB tb L (j + 1) B4 (vs ++ yl) ns2) := by show _; rw [hns.out]; exact hI2.out
              have hN3 : Hid (N2 = (vs ++ yl).length) := by show _ = _; rw [List.length_append, hN2.out, hmm]
              clear hmm
              go_wp2_with fail
              go_roundw
              case rel => exact ⟨j + 1, ba4, bc4, B4, N2, va2, vc2, vs ++ yl, ns2, by omega, by simp, rfl, rfl, hN3, HM, hI3⟩
              case measure => simp [intOf]; omega
        · have d1 : (R2 != 0) = true := by simpa using hE
          clear hst hs3
          go_wp2_with fail
          go_roundw
          case rel => exact ⟨j + 1, ba, bc, bs, N, va, vc, vs, ns, by omega, by simp, rfl, rfl, hN, HM3, hno⟩
          case measure => simp [intOf]; omega
    · have dj1 : ¬ (j : Int) < (L.length : Int) := by omega
      have dj2 : decide ((j : Int) < (L.length : Int)) = false := by simp; omega
      obtain ⟨q16, xa, xb, eq16, exa, bxa, exb, bxb, kxb, zxb⟩ := boxZ wr
      obtain ⟨q17, xc, xd, eq17, exc, bxc, exd, bxd, kxd, zxd⟩ := boxZ xb
      have ga0 := bxa.get 0 _ rfl; have gaf := bxa.free 0; have gc0 := bxc.get 0 _ rfl; have gcf := bxc.free 0
      have HMd := hid ((HM.out.keep kxb).keep kxd)
      have b16 := bxb.kept kxd (by simp) (bxb.lt (by simp))
      have kd := hid (hgo.out _ HMd.out.kp)
      have hq817 : q8 < q16 := by rw [← eq16]; exact Nat.lt_of_lt_of_le hq84 HM.out.kp.size
      have hq1617 : q16 < q17 := by rw [← eq17]; exact bxb.lt (by simp)
      obtain ⟨BL0, hg0, heb0, hev0⟩ := hI.out.ex
      obtain ⟨hsb, hcb, hmb⟩ := rowSee (rowByt.1 HMd.out.b)
      have hbk0 : ∀ k ∈ blk ba, k ≠ q16 ∧ k ≠ q17 := fun k hk => by
        have h1 := blkLtB HM.out.b k hk
        omega
      have hL0 : Hid (SkL xd q16 q17 tb vs BL0 [] xd ba bc bs []) := ⟨hg0, heb0, by rw [hev0]; rfl, hsb, hcb, hmb, ⟨b16.get 0 _ rfl, b16.free 0⟩, ⟨bxd.get 0 _ rfl, bxd.free 0⟩, Kp.refl _ _, Mks.nil _, by simp, hbk0⟩
      have hns := hid hI.out.ns
      have hVSb : vs.length ≤ 1048576 := Nat.le_trans hI.out.vl (hsum.out j)
      have hBSb : bs.length ≤ 200000000000000 := by have := hI.out.nl; omega
      have hkx : Hid (∀ W, Kp [q16, q17] xd W → Kp [] w W) := fun W k => kd.out.trans k (fun x hx => .inr (by simp at hx; have := hz4.out; have := kd.out.size; omega))
      have hb5 : Hid (∀ W, Kp [q16, q17] xd W → Bx W q5 [.int .i64 0, .int .i64 op, .int .i64 yk, .bool yb, .int .i64 yn, .string yt] ∧ Bx W q6 [.bool false] ∧ W.cell? ⟨q8, 0, none⟩ = some (.slice va ns.length vc) ∧ IntE.See W va ns) := fun W k => by
        have k4 := HMd.out.kp
        have b5 := H4.out.1.kept k4 (by simp; omega) (H4.out.1.lt (by simp))
        have b6 := H4.out.2.1.kept k4 (by simp; omega) (H4.out.2.1.lt (by simp))
        have b8 := HMd.out.bx
        obtain ⟨a', c', ea, hse, _⟩ := HMd.out.v.see
        cases ea
        refine ⟨b5.kept k (by simp; omega) (b5.lt (by simp)), b6.kept k (by simp; omega) (b6.lt (by simp)), (b8.kept k (by simp; omega) (b8.lt (by simp))).get 0 _ rfl, hse.kept k (fun _ j hj hm => ?_)⟩
        have h1 := HMd.out.vn j hj
        have h2 := blkLtI HM.out.v j hj
        simp at hm
        omega
      clear hI HM bxa bxc kxb kxd b16 bxb bxd hg0 heb0 hev0 hsb hcb hmb hbk0 hgo hcL hcK hVl hWr hi64 hsum
      go_wp2_with fail
      rename_i K1 hK1
      obtain ⟨VS, hVS⟩ : ∃ V, Hid (vs = V) := ⟨_, rfl⟩
      rw [hVS.out] at hL0 hns hVSb
      obtain ⟨BSn, hBSn⟩ : ∃ V, Hid (bs.length = V) := ⟨_, rfl⟩
      rw [hBSn.out] at hBSb
      have HK : Hid (∀ (A : Act) (VD : List Val) (W : World) (ba' : Option Addr) (bc' : Nat) (bs' : List UInt8) (Ds : List Nat), A.tmps.size = 173 → A.tmps.getD 0 undef = .slice la L.length lc → A.tmps.getD 1 undef = .slice ka K.length kc → A.tmps.getD 2 undef = .agg #[.int .i64 co, .int .i64 op, .int .i64 yk, .bool yb, .int .i64 yn, .string yt] → A.tmps.getD 5 undef = .pointer (some ⟨q5, 0, none⟩) → A.tmps.getD 6 undef = .pointer (some ⟨q6, 0, none⟩) → A.tmps.getD 7 undef = .slice ba' bs'.length bc' → A.tmps.getD 8 undef = .pointer (some ⟨q8, 0, none⟩) → A.tmps.getD 9 undef = .int .i64 (N : Int) → A.tmps.getD 16 undef = .pointer (some ⟨q16, 0, none⟩) → A.tmps.getD 17 undef = .pointer (some ⟨q17, 0, none⟩) → A.defers = marks Ds → SkL xd q16 q17 tb VS [] VD W ba' bc' bs' Ds → K1 A W) := by
        intro A VD W ba' bc' bs' Ds e173 e0 e1 e2 e5 e6 e7 e8 e9 e16 e17 edf hL
        obtain ⟨f, eA⟩ := openSk A e173 e0 e1 e2 e5 e6 e7 e8 e9 e16 e17
        rw [edf] at eA
        clear e173 e0 e1 e2 e5 e6 e7 e8 e9 e16 e17 edf
        subst eA
        refine hK1 _ _ ?_
        obtain ⟨b5, b6, c8, hse⟩ := hb5.out W hL.kp
        have kW := hkx.out W hL.kp
        have evd : VD = VS := by have := hL.ev; simpa [catV] using this
        have c16 := hL.at_.1
        have c17 := hL.fd.1
        rw [evd] at c16 c17
        rw [← hns.out] at c17
        have hNV : N = VS.length := by rw [hN.out, hVS.out]
        rw [← hNV] at c16
        obtain ⟨Wz, eWz⟩ : ∃ Y, W.alloc (.cells #[.int .i64 0, .bool false, .int .i64 0, .string ⟨#[]⟩] 25) = Y := ⟨_, rfl⟩
        have kz : Kp [] W Wz := by rw [← eWz]; exact (Kp.refl _ _).alloc _
        have sz := seeN W 25 nulV
        rw [show W.alloc (.cells #[.int .i64 nulV.k, .bool nulV.b, .int .i64 nulV.n, .string nulV.t] 25) = Wz from eWz] at sz
        obtain ⟨qz, eqz⟩ : ∃ q, W.heap.size = q := ⟨_, rfl⟩
        rw [eqz] at sz
        have cW := cWriteB (-1) (some ⟨qz, 0, none⟩) 1 lN Wz (hTab.out _ (kW.trans kz (by simp))) (seeV.1 sz) (by decide) (by unfold maxLen; omega)
        rw [wrN] at cW
        unfold BsP at cW
        dsimp only at cW
        obtain ⟨iN, sN, hPN, hnN⟩ := hdN
        obtain ⟨XN, hXN⟩ : ∃ X, Hid (blkB (bestV lN) lN = X) := ⟨_, rfl⟩
        rw [hXN.out] at cW hPN
        have HW := hid cW
        have HC := hid (And.intro c8 (And.intro c16 (And.intro c17 b6)))
        have HL := hid hL
        clear hK1 cW sz b5 b6 c8 hse c16 c17 hL evd
        have eln : (lN.length : Int) = 1 := rfl
        go_wp2_with fail
        refine HW.out.mono ?_
        rintro e W1 ⟨rb, rc, rfl, hrow, k1, hn1⟩
        obtain ⟨hs1, hc1, hm1⟩ := rowSee hrow
        have cH := bHead rb rc XN W1 hs1 hc1 hm1
        rw [hPN] at cH
        unfold Inf.v Inf.cs at cH
        dsimp only at cH
        have HH := hid cH
        have k01 := kz.trans k1 (by simp)
        clear HW hrow hn1 hs1 cH k1 kz
        go_wp2_with fail
        refine HH.out.mono ?_
        rintro e W2 ⟨rfl, k2⟩
        obtain ⟨q25, Wa, Wb, eq25, eWa, bIa, eWb, bIb, kWb, zWb⟩ := box12 W2 iN
        have p0 := bIa.get 0 _ rfl; have f0_ := bIa.free 0; have p1 := bIa.get 1 _ rfl; have f1_ := bIa.free 1; have p2 := bIa.get 2 _ rfl; have f2_ := bIa.free 2; have p3 := bIa.get 3 _ rfl; have f3_ := bIa.free 3; have p4 := bIa.get 4 _ rfl; have f4_ := bIa.free 4; have p5 := bIa.get 5 _ rfl; have f5_ := bIa.free 5; have p6 := bIa.get 6 _ rfl; have f6_ := bIa.free 6; have p7 := bIa.get 7 _ rfl; have f7_ := bIa.free 7; have p8 := bIa.get 8 _ rfl; have f8_ := bIa.free 8; have p9 := bIa.get 9 _ rfl; have f9_ := bIa.free 9; have p10 := bIa.get 10 _ rfl; have f10_ := bIa.free 10; have p11 := bIa.get 11 _ rfl; have f11_ := bIa.free 11
        have u10 := bIb.get 10 _ rfl
        rw [hnN] at u10
        have kb := (k01.trans k2 (by simp)).trans kWb (by simp)
        have c8 := kpAt kb HC.out.1
        have c16 := kpAt kb HC.out.2.1
        have c17 := kpAt kb HC.out.2.2.1
        have b6 := HC.out.2.2.2.kept kb (by simp) (HC.out.2.2.2.lt (by simp))
        have c6 := b6.get 0 _ rfl
        have f6 := b6.free 0
        have hmk := hid (HL.out.mks.kept kb (by simp))
        have kWf := hid (kW.trans kb (by simp))
        have hlow := hid HL.out.low
        have ee1 : ((ns.length : Int) == (ns.length : Int)) = true := by simp
        have ee2 : ((N : Int) == (N : Int)) = true := by simp
        clear HH HC HL k01 k2 kWb bIa bIb kb b6 hnN hPN
        go_wp2_with fail
        have kS : Kp [q6] Wb (Wb.setCell ⟨q6, 0, none⟩ (.bool true)) := (Kp.refl _ _).setCell (.inl (by simp)) _
        have h6n : q6 ∉ Ds := fun hm => hmk.out.cell (a := ⟨q6, 0, none⟩) (by rw [c6]; rfl) hm
        have hmS := hmk.out.kept kS (fun D hD hm => h6n (by simp at hm; rw [← hm]; exact hD))
        have c6' : (Wb.setCell ⟨q6, 0, none⟩ (.bool true)).cell? ⟨q6, 0, none⟩ = some (.bool true) := World.cell?_setCell_same _ _ _ c6
        have kE := kWf.out.trans kS (fun x hx => .inr (by simp at hx; omega))
        have hzx := kd.out.size
        show LeavesInM _ _ _ _ _ _ (marks Ds) .returning _
        exact leaves_marks Ds _ hmS fun w' hk => ⟨_, results_cell_oneS rfl rfl ((hk.cell (p := ⟨q6, 0, none⟩) (World.block_lt_of_cell? _ _ c6') h6n).trans c6'), rfl, kE.trans hk (fun x hx => .inr (by have := hlow.out x hx; omega))⟩
      clear hK1
      refine wp_loop (fun A W => ∃ (BL : List (Int × List Val)) (VD : List Val) (ba' : Option Addr) (bc' : Nat) (bs' : List UInt8) (Ds : List Nat), A.tmps.size = 173 ∧ A.tmps.getD 0 undef = .slice la L.length lc ∧ A.tmps.getD 1 undef = .slice ka K.length kc ∧ A.tmps.getD 2 undef = .agg #[.int .i64 co, .int .i64 op, .int .i64 yk, .bool yb, .int .i64 yn, .string yt] ∧ A.tmps.getD 5 undef = .pointer (some ⟨q5, 0, none⟩) ∧ A.tmps.getD 6 undef = .pointer (some ⟨q6, 0, none⟩) ∧ A.tmps.getD 7 undef = .slice ba' bs'.length bc' ∧ A.tmps.getD 8 undef = .pointer (some ⟨q8, 0, none⟩) ∧ A.tmps.getD 9 undef = .int .i64 (N : Int) ∧ A.tmps.getD 16 undef = .pointer (some ⟨q16, 0, none⟩) ∧ A.tmps.getD 17 undef = .pointer (some ⟨q17, 0, none⟩) ∧ A.defers = marks Ds ∧ bs'.length ≤ BSn ∧ Hid (SkL xd q16 q17 tb VS BL VD W ba' bc' bs' Ds)) (fun A _ => slen (A.tmps.getD 7 undef)) ⟨BL0, [], ba, bc, bs, [], rfl, rfl, rfl, rfl, rfl, rfl, rfl, rfl, rfl, rfl, rfl, rfl, by rw [hBSn.out]; exact Nat.le_refl _, hL0⟩ ?_
      rintro A W ⟨BL, VD, ba', bc', bs', Ds, e173, e0, e1, e2, e5, e6, e7, e8, e9, e16, e17, edf, hbl, HL⟩
      obtain ⟨f, eA⟩ := openSk A e173 e0 e1 e2 e5 e6 e7 e8 e9 e16 e17
      rw [edf] at eA
      have hmu : slen (A.tmps.getD 7 undef) = bs'.length := by rw [e7]; rfl
      rw [hmu]
      clear hL0 e173 e0 e1 e2 e5 e6 e7 e8 e9 e16 e17 edf hmu
      subst eA
      cases BL with
      | nil =>
        have hb0 : bs' = [] := HL.out.eb
        subst hb0
        have HKK := hid HL.out
        clear HL
        go_wp2_with fail
        exact HK.out _ VD W ba' bc' [] Ds rfl rfl rfl rfl rfl rfl rfl rfl rfl rfl rfl rfl HKK.out
      | cons x R =>
        obtain ⟨k, l⟩ := x
        have hgd := HL.out.good (k, l) (by simp)
        have ebs : bs' = blkB k l ++ catB R := by have := HL.out.eb; simpa [catB] using this
        have hP := hdP_one (k, l) hgd (catB R)
        rw [← ebs] at hP
        have hmn : mayC op (nullsV l) l.length yk (cmpV (minV l) ⟨yk, yb, yn, yt⟩) (cmpV (maxV l) ⟨yk, yb, yn, yt⟩) = false → ∀ v ∈ l, tb v = false := fun h => by rw [← htb.out]; exact may_none (y := ⟨yk, yb, yn, yt⟩) h
        have hav := allV_one (k, l) hgd
        have hXp := blk_pos k l
        have hXl : (blkB k l).length ≤ bs'.length := by rw [ebs]; simp
        have hpre : Sees W ba' (blkB k l) := seesPre (y := catB R) (by rw [← ebs]; exact HL.out.see)
        have hlV : VD.length + l.length ≤ VS.length := by rw [← HL.out.ev]; simp [catV]
        have hat : ∀ i v, l[i]? = some v → tb v = true → ns[(posF tb 0 (VD ++ l.take i)).length]? = some ((VD.length + i : Nat) : Int) := fun i v hi hv => by
          have e1 : VS = (VD ++ l.take i) ++ v :: (l.drop (i + 1) ++ catV R) := by
            rw [← HL.out.ev]
            have e2 := split_atV hi
            conv => lhs; rw [show catV ((k, l) :: R) = l ++ catV R by simp [catV], e2]
            simp
          have hi' := (List.getElem?_eq_some_iff.1 hi).1
          rw [hns.out, e1, posF_at tb _ v _ hv]
          simp
          omega
        have hnx := hid (fun (W2 : World) (Ds' : List Nat) kk hf hm hl v hv => HL.out.next (W2 := W2) (Ds' := Ds') (by omega) kk hf hm hl v hv)
        have hcap := HL.out.cap
        have hmost := HL.out.most
        unfold maxLen at hmost
        have l64 := refE_le hgd.2.2
        dsimp only at hP hav hnx l64
        obtain ⟨X1, hX1⟩ : ∃ X, Hid (blkB k l = X) := ⟨_, rfl⟩
        rw [hX1.out] at hP hav hXp hXl hpre
        simp only [hX1.out] at hnx
        have cA := hid (fun W' (kW' : Kp [] w W') (hs : Sees W' ba' X1) => cAll ba' bc' X1 W' (hTab.out W' kW') hs (by omega))
        have hsq := hid (fun q a' c' X (h1 : X1.length ≤ c') (h2 : c' ≤ maxLen) hA => allSeq 8 (by omega) q a' c' X1 h1 h2 (by omega) X hA)
        simp only [hav] at hsq
        obtain ⟨nB, hnB⟩ : ∃ n, Hid (X1.length = n) := ⟨_, rfl⟩
        rw [hnB.out] at hP hXp hXl
        simp only [hnB.out] at hnx cA
        have cH := bHead ba' bc' bs' W HL.out.see hcap (by unfold maxLen; omega)
        rw [hP] at cH
        obtain ⟨⟨mk, mb, mn, mt⟩, hmm⟩ : ∃ v, Hid (minV l = v) := ⟨_, rfl⟩
        obtain ⟨⟨xk, xb, xn, xt⟩, hmx⟩ : ∃ v, Hid (maxV l = v) := ⟨_, rfl⟩
        obtain ⟨NU, hNU⟩ : ∃ n : Nat, Hid (nullsV l = n) := ⟨_, rfl⟩
        obtain ⟨lm, hlm⟩ : ∃ n : Nat, Hid (l.length = n) := ⟨_, rfl⟩
        obtain ⟨vd, hvd⟩ : ∃ n : Nat, Hid (VD.length = n) := ⟨_, rfl⟩
        obtain ⟨fc, hfc⟩ : ∃ c : Nat → Nat, Hid (c = fun i => (posF tb 0 (VD ++ l.take i)).length) := ⟨_, rfl⟩
        rw [hmm.out, hmx.out, hNU.out, hlm.out] at cH hmn
        rw [hlm.out, hvd.out] at hlV
        rw [hlm.out] at l64
        have HMN := hid hmn
        have HAT := hid hat
        have HCH := hid cH
        have hkW := hid (hkx.out W HL.out.kp)
        have hP' := hid hpre
        unfold Inf.v Inf.cs at HCH
        dsimp only at HCH
        have dn1 : decide ((bs'.length : Int) < (nB : Int)) = false := by simp; omega
        have dn2 : decide ((nB : Int) < 1) = false := by simp; omega
        have dn3 : (0 : Int) < (bs'.length : Int) := by omega
        have dn4 : (0 : Int) ≤ (nB : Int) := by omega
        have dn5 : (nB : Int) ≤ (bs'.length : Int) := by omega
        have dn6 : (nB : Int) ≤ (bc' : Int) := by omega
        have dn7 : (-9223372036854775808 : Int) ≤ (vd : Int) + (lm : Int) := by omega
        have dn8 : (vd : Int) + (lm : Int) ≤ 9223372036854775807 := by omega
        clear hgd ebs hP hmn hav hpre hat cH hmm hmx hNU hX1
        go_wp2_with fail
        refine HCH.out.mono ?_
        rintro e W2 ⟨rfl, k2⟩
        obtain ⟨q18, Wa, Wb, eq18, eWa, bIa, eWb, bIb, kWb, zWb⟩ := box12 W2 ⟨k, lm, ⟨mk, mb, mn, mt⟩, ⟨xk, xb, xn, xt⟩, NU, nB⟩
        dsimp only at eWb bIb
        have hqq : q17 < q18 := by have h1 := World.block_lt_of_cell? _ _ HL.out.fd.1; have h2 := k2.size; rw [← eq18]; exact Nat.lt_of_lt_of_le h1 h2
        have p0 := bIa.get 0 _ rfl; have f0_ := bIa.free 0; have p1 := bIa.get 1 _ rfl; have f1_ := bIa.free 1; have p2 := bIa.get 2 _ rfl; have f2_ := bIa.free 2; have p3 := bIa.get 3 _ rfl; have f3_ := bIa.free 3; have p4 := bIa.get 4 _ rfl; have f4_ := bIa.free 4; have p5 := bIa.get 5 _ rfl; have f5_ := bIa.free 5; have p6 := bIa.get 6 _ rfl; have f6_ := bIa.free 6; have p7 := bIa.get 7 _ rfl; have f7_ := bIa.free 7; have p8 := bIa.get 8 _ rfl; have f8_ := bIa.free 8; have p9 := bIa.get 9 _ rfl; have f9_ := bIa.free 9; have p10 := bIa.get 10 _ rfl; have f10_ := bIa.free 10; have p11 := bIa.get 11 _ rfl; have f11_ := bIa.free 11
        have u0_ := bIb.get 0 _ rfl; have u1_ := bIb.get 1 _ rfl; have u2_ := bIb.get 2 _ rfl; have u3_ := bIb.get 3 _ rfl; have u4_ := bIb.get 4 _ rfl; have u5_ := bIb.get 5 _ rfl; have u6_ := bIb.get 6 _ rfl; have u7_ := bIb.get 7 _ rfl; have u8_ := bIb.get 8 _ rfl; have u9_ := bIb.get 9 _ rfl; have u10_ := bIb.get 10 _ rfl; have u11_ := bIb.get 11 _ rfl
        have k0b := k2.trans kWb (by simp)
        have kxb := HL.out.kp.trans k0b (by simp)
        obtain ⟨b5, b6, c8, hse⟩ := hb5.out Wb kxb
        have t0_ := b5.get 0 _ rfl; have t1_ := b5.get 1 _ rfl; have t2_ := b5.get 2 _ rfl; have t3_ := b5.get 3 _ rfl; have t4_ := b5.get 4 _ rfl; have t5_ := b5.get 5 _ rfl
        have cM := hid (bMay k lm mk mb mn mt xk xb xn xt NU nB 0 op yk yb yn yt Wb)
        obtain ⟨MA, hMA⟩ : ∃ b, Hid (mayC op NU lm yk (cmpV ⟨mk, mb, mn, mt⟩ ⟨yk, yb, yn, yt⟩) (cmpV ⟨xk, xb, xn, xt⟩ ⟨yk, yb, yn, yt⟩) = b) := ⟨_, rfl⟩
        rw [hMA.out] at cM
        have HIb := hid bIb
        have K0b := hid k0b
        clear HCH k2 kWb bIa bIb k0b kxb b5 b6 c8 hse
        go_wp2_with fail
        refine cM.out.mono ?_
        rintro e W3 ⟨rfl, k3⟩
        have K03 := hid (K0b.out.trans k3 (by simp))
        have HI3 := hid (HIb.out.kept k3 (by simp) (HIb.out.lt (by simp)))
        clear cM k3 p0 f0_ p1 f1_ p2 f2_ p3 f3_ p4 f4_ p5 f5_ p6 f6_ p7 f7_ p8 f8_ p9 f9_ p10 f10_ p11 f11_ u0_ u1_ u2_ u3_ u4_ u5_ u6_ u7_ u8_ u9_ u10_ u11_ t0_ t1_ t2_ t3_ t4_ t5_ HIb K0b eWb eWa
        cases MA with
        | false =>
          have hnone := HMN.out hMA.out
          have bI3 := HI3.out
          have u1_ := bI3.get 1 _ rfl
          have u11_ := bI3.get 11 _ rfl
          have c16 := kpAt K03.out HL.out.at_.1
          have f16 := (K03.out.frozen (p := ⟨q16, 0, none⟩) (World.block_lt_of_cell? _ _ HL.out.at_.1) (by simp)).trans HL.out.at_.2
          have c17 := kpAt K03.out HL.out.fd.1
          have f17 := (K03.out.frozen (p := ⟨q17, 0, none⟩) (World.block_lt_of_cell? _ _ HL.out.fd.1) (by simp)).trans HL.out.fd.2
          have hpz : posF tb 0 (VD ++ l) = posF tb 0 VD := by rw [posF_app, posF_none tb l _ hnone, List.append_nil]
          have hN2 := hid (hnx.out W3 Ds (K03.out.mono (by simp)) ⟨by rw [hpz]; exact c17, f17⟩ (HL.out.mks.kept K03.out (by simp)) HL.out.low (.int .i64 ((vd : Int) + (lm : Int))) (by rw [List.length_append, hvd.out, hlm.out]; simp))
          rw [hvd.out] at c16
          have hq18' : q18 ≠ q16 := by omega
          clear hnx HL hpz hnone c17 f17 bI3
          go_wp2_with fail
          case inl h => exact ⟨⟨R, VD ++ l, ba', 0, bs'.drop nB, ⟨rfl, by simp, rfl⟩, Ds, rfl, by simp; omega, hid (hN2.out.flat h)⟩, by show bs'.length - nB < _; omega⟩
          case inr h => exact ⟨⟨R, VD ++ l, _, _, bs'.drop nB, ⟨rfl, by simp, rfl⟩, Ds, rfl, by simp; omega, hN2⟩, by show bs'.length - nB < _; omega⟩
        | true =>
          have cAl := hid (cA.out W3 (hkW.out.trans K03.out (by simp)) (hP'.out.kept K03.out (by simp)))
          unfold AllP at cAl
          have bI3 := HI3.out
          have u11_ := bI3.get 11 _ rfl
          clear bI3 cA
          go_wp2_with fail
          refine cAl.out.mono ?_
          rintro e w6 ⟨qb, ab, cb, rfl, hAt, hlb, hmb, k6, hqb, hbk⟩
          have K06 := hid (K03.out.trans k6 (by simp))
          have HI6 := hid (HI3.out.kept k6 (by simp) (HI3.out.lt (by simp)))
          have hnf : ∀ W : World, (binOp .eql 40 (.func (.func 24) #[] #[.pointer (some ⟨qb, 0, none⟩)]) .nilFunc).run Tryz.prog W = .ok (.bool false) W := fun W => eqlFuncNilS Tryz.underlying40 _ _ _ W
          have hAt' := hid hAt
          have hz36 := k6.size
          have hzW3 := K03.out.size
          clear cAl hAt k6 u11_ K03 HI3
          go_wp2_with fail
          refine (wpIn_wide (n := 9)).1 ?_
          have hseq := hsq.out qb ab cb w6 hlb hmb hAt'.out
          have h17W := World.block_lt_of_cell? _ _ HL.out.fd.1
          have hz6 : q17 < w6.heap.size := by have h1 : q17 < W.heap.size := h17W; omega
          generalize hAct : Act.mk _ _ = A0
          have hGw : 1 < w.heap.size := (hTab.out w (Kp.refl _ _)).1
          have hwq : w.heap.size ≤ q16 := by have := hz4.out; omega
          have hbk6 : ∀ j ∈ bk ab X1, j < w6.heap.size := fun j hj => by
            unfold bk at hj
            split at hj
            · simp at hj
            · rename_i hne; exact hAt'.out.sees.lt hne j hj
          have hjs0 : ∀ j ∈ 1 :: qb :: bk ab X1, j ≠ q17 ∧ j ≠ w6.heap.size ∧ j ≠ w6.heap.size + 1 := fun j hj => by
            have h1 : q17 < W.heap.size := h17W
            have h2 := World.block_lt_of_cell? _ _ hAt'.out.box
            have h3 : qb < w6.heap.size := h2
            simp only [List.mem_cons] at hj
            rcases hj with rfl | rfl | hj
            · omega
            · omega
            · have := hbk j hj; have := hbk6 j hj; omega
          have c17 := kpAt K06.out HL.out.fd.1
          have f17 := (K06.out.frozen (p := ⟨q17, 0, none⟩) h17W (by simp)).trans HL.out.fd.2
          have hfc0 : fc 0 = (posF tb 0 VD).length := by rw [hfc.out]; simp
          rw [← hfc0] at c17
          have kx6 := hid (HL.out.kp.trans K06.out (by simp))
          refine wpRangeY rfl (by omega) (gf := 24) (lb := #[.pointer (some ⟨qb, 0, none⟩)]) (by rw [← hAct]; rfl) trivial (enters_of Tryz.func24 (by kernel_rfl) rfl)
            hseq (fun _ => rfl) KeepA.trans (fun s W o => KeepA.alloc s W o) (KeepA.refl _ _)
            (CoF w6 q17 fc) (fun _ _ _ => False) (CoF.own hz6) (fun _ _ _ _ _ h _ _ => h) ⟨⟨rfl, rfl, rfl, Nat.le_refl _, fun _ _ _ => rfl, fun h => (by cases h), hjs0⟩, c17, f17⟩
            (fun s s' A B h ht k o hk ho => h.co.keeps ht k o hk ho) (fun _ _ _ _ h => h.elim) (fun s s' A B hz h ht => h.step hz6 hz ht) (fun _ _ _ _ h => h.elim)
            (fun s W o' h => h.co.recs o') (fun s x W o' h => CoX.recs (s := s) ⟨h.co.os, h.co.tape, h.co.output, h.co.size, h.co.low, h.co.mde, h.co.js⟩ o') (fun _ _ _ _ _ h => h.elim)
            (fun x => .cells #[.int .i64 x.v.k, .bool x.v.b, .int .i64 x.v.n, .string x.v.t] 25)
            (fun x q => { tmps := (((A0.tmps.setIfInBounds 109 (.int .i64 (x.i : Int))).setIfInBounds 110 (.agg #[.int .i64 x.v.k, .bool x.v.b, .int .i64 x.v.n, .string x.v.t])).setIfInBounds 21 (.int .i64 (x.i : Int))).setIfInBounds 22 (.pointer (some ⟨q, 0, none⟩)), defers := [] }) ?assign ?body ?done ?stop
          case assign =>
            intro l x W C hC
            subst hAct
            simp only [List.setIfInBounds_toArray, List.set_cons_zero, List.set_cons_succ] at hC
            gi_wp2_with fail
            exact hC
          case body =>
            rintro l0 s ⟨ix, ⟨vk, vb, vn, vt⟩⟩ W5 q hI ⟨hxi, hxv⟩ hob hq2
            subst hAct
            simp only [List.setIfInBounds_toArray, List.set_cons_zero, List.set_cons_succ]
            simp only at hxi hxv hob ⊢
            obtain ⟨i, hi⟩ : ∃ i : Nat, Hid (s.i = i) := ⟨_, rfl⟩
            rw [hxi, hi.out]
            rw [hi.out] at hxv
            have hcnt := hI.cnt
            rw [hi.out] at hcnt
            have k5 := hI.co.kp
            have kx5 := kx6.out.trans k5 (fun x hx => .inl (by simp at hx; simp [hx]))
            have kw5 := hkx.out W5 kx5
            obtain ⟨b5, -, c8, hse⟩ := hb5.out W5 kx5
            have t0_ := b5.get 0 _ rfl; have t1_ := b5.get 1 _ rfl; have t2_ := b5.get 2 _ rfl; have t3_ := b5.get 3 _ rfl; have t4_ := b5.get 4 _ rfl; have t5_ := b5.get 5 _ rfl
            have hbx : ∀ z : Nat, W5.cell? ⟨q, z, none⟩ = (#[.int .i64 vk, .bool vb, .int .i64 vn, .string vt] : Array Value)[z]? := fun z => by
              unfold World.cell?
              simp [hob]
            have v0 : W5.cell? ⟨q, 0, none⟩ = some (.int .i64 vk) := hbx 0
            have v1 : W5.cell? ⟨q, 1, none⟩ = some (.bool vb) := hbx 1
            have v2 : W5.cell? ⟨q, 2, none⟩ = some (.int .i64 vn) := hbx 2
            have v3 : W5.cell? ⟨q, 3, none⟩ = some (.string vt) := hbx 3
            obtain ⟨WC, eWC⟩ : ∃ Y, W5.alloc (.cells #[.int .i64 vk, .bool vb, .int .i64 vn, .string vt] 25) = Y := ⟨_, rfl⟩
            have kWC : Kp [] W5 WC := by rw [← eWC]; exact (Kp.refl _ _).alloc _
            have sWC := seeN W5 25 ⟨vk, vb, vn, vt⟩
            dsimp only at sWC
            rw [eWC] at sWC
            obtain ⟨q113, hq113⟩ : ∃ q, W5.heap.size = q := ⟨_, rfl⟩
            rw [hq113] at sWC
            have cT := hid (hTm.out ⟨vk, vb, vn, vt⟩ _ 1 WC (kw5.trans kWC (by simp)) sWC)
            obtain ⟨tv, htv⟩ : ∃ b, Hid (tb ⟨vk, vb, vn, vt⟩ = b) := ⟨_, rfl⟩
            rw [htv.out] at cT
            have hIo := hid hI
            have HE := hid hse
            have hcl : Hid (W5.heap[q17]?.map Obj.isCells = some true) := by
              show _ = _
              have := hcnt
              unfold World.cell? at this
              cases e : W5.heap[q17]? with
              | none => rw [e] at this; cases this
              | some ob => rw [e] at this; cases ob <;> simp_all [Obj.isCells]
            have hfs : Hid (fc (i + 1) = if tv = true then fc i + 1 else fc i) := by
              show _ = _
              rw [hfc.out]
              dsimp only
              rw [take_snocV hxv, ← List.append_assoc]
              cases tv with
              | true => rw [posF_yes tb _ _ htv.out]; simp
              | false => rw [posF_no tb _ _ htv.out]; simp
            have hcx := hid (And.intro hcnt (And.intro c8 kWC))
            have hxv' := hid hxv
            have hkx5 := hid kx5
            clear hI k5 kx5 kw5 b5 c8 hse hbx hob sWC kWC hcnt hxv
            gi_wp2_with fail
            refine ⟨trivial, (CallsIn.inRound l0 (callsIn_wide.2 cT.out)).mono ?_⟩
            rintro e WD ⟨rfl, kWD⟩
            have kD := hid (hcx.out.2.2.trans kWD (by simp))
            clear cT kWD t0_ t1_ t2_ t3_ t4_ t5_ v0 v1 v2 v3
            cases tv with
            | false =>
              gi_wp2_with fail
              obtain ⟨r1, r2, r3⟩ := hIo.out.co.round (x := ⟨i, ⟨vk, vb, vn, vt⟩⟩) (kD.out.mono (by simp)) hcl.out
              refine ⟨r1, r2, r3, ?_, ?_⟩
              · have e1 : fc (s.nx ⟨i, ⟨vk, vb, vn, vt⟩⟩).i = fc i := by
                  show fc (s.i + 1) = _
                  rw [hi.out, hfs.out]; simp
                rw [e1]
                exact kpAt kD.out hcx.out.1
              · exact (kD.out.frozen (p := ⟨q17, 0, none⟩) (World.block_lt_of_cell? _ _ hcx.out.1) (by simp)).trans hIo.out.free
            | true =>
              obtain ⟨fi, hfi⟩ : ∃ n, Hid (fc i = n) := ⟨_, rfl⟩
              have hat := HAT.out i _ hxv'.out htv.out
              have hat' : ns[fi]? = some ((vd + i : Nat) : Int) := by
                rw [← hfi.out, hfc.out, ← hvd.out]; exact hat
              have hfl : fi < ns.length := (List.getElem?_eq_some_iff.1 hat').1
              have hnl : ns.length ≤ 1048576 := by rw [hns.out]; have := posF_len tb VS 0; omega
              obtain ⟨g, o, eg, cw⟩ := intAtS HE.out hat'
              have cw2 : WD.cell? ⟨g, o + fi, none⟩ = some (.int .i64 ((vd : Int) + (i : Int))) := by have := kpAt kD.out cw; simpa using this
              have c17d : WD.cell? ⟨q17, 0, none⟩ = some (.int .i64 (fi : Int)) := by have := kpAt kD.out hcx.out.1; rw [hfi.out] at this; exact this
              have c8d := kpAt kD.out hcx.out.2.1
              have c16d : WD.cell? ⟨q16, 0, none⟩ = some (.int .i64 (vd : Int)) := by
                have h1 := kpAt K06.out HL.out.at_.1
                rw [hvd.out] at h1
                have h2 := (hIo.out.co.kp.cell (p := ⟨q16, 0, none⟩) (World.block_lt_of_cell? _ _ h1) (by simp; omega)).trans h1
                exact kpAt kD.out h2
              have f17d : WD.frozen? ⟨q17, 0, none⟩ = false := (kD.out.frozen (p := ⟨q17, 0, none⟩) (World.block_lt_of_cell? _ _ hcx.out.1) (by simp)).trans hIo.out.free
              rw [eg] at c8d
              have hS0 : (fun A : World => (A.cell? ⟨q17, 0, none⟩ = some (.int .i64 (fi : Int)) ∧ A.cell? ⟨q8, 0, none⟩ = some (.slice (some ⟨g, o, none⟩) ns.length vc)) ∧ A.cell? ⟨g, o + fi, none⟩ = some (.int .i64 ((vd : Int) + (i : Int))) ∧ A.cell? ⟨q16, 0, none⟩ = some (.int .i64 (vd : Int))) WD.drew := ⟨⟨c17d, c8d⟩, cw2, c16d⟩
              have hil : i < lm := by rw [← hlm.out]; exact (List.getElem?_eq_some_iff.1 hxv'.out).1
              have dd1 : (((vd : Int) + (i : Int)) != ((vd : Int) + (i : Int))) = false := by simp
              have dd2 : ¬ (ns.length : Int) ≤ (fi : Int) := by omega
              have dd3 : decide ((ns.length : Int) ≤ (fi : Int)) = false := by simp; omega
              have dd6 : decide (ns.length ≤ fi) = false := by simp; omega
              have dd4 : (fi : Int) < (ns.length : Int) := by omega
              have dd5 : (0 : Int) ≤ (fi : Int) := by omega
              have dd7 : (-9223372036854775808 : Int) ≤ (fi : Int) + 1 := by omega
              have dd8 : (fi : Int) + 1 ≤ 9223372036854775807 := by omega
              have dd9 : (-9223372036854775808 : Int) ≤ (vd : Int) + (i : Int) := by omega
              have dd0 : (vd : Int) + (i : Int) ≤ 9223372036854775807 := by omega
              have ddw : IntKind.i64.wrap ((vd : Int) + (i : Int)) = (vd : Int) + (i : Int) := by rw [IntKind.wrap_i64]; omega
              have f17w : WD.drew.frozen? ⟨q17, 0, none⟩ = false := f17d
              have kDd := hid (kD.out.drew)
              clear c17d c8d cw2 c16d f17d cw hat hat'
              gi_wp2_with fail
              refine region_round (fun A : World => (A.cell? ⟨q17, 0, none⟩ = some (.int .i64 (fi : Int)) ∧ A.cell? ⟨q8, 0, none⟩ = some (.slice (some ⟨g, o, none⟩) ns.length vc)) ∧ A.cell? ⟨g, o + fi, none⟩ = some (.int .i64 ((vd : Int) + (i : Int))) ∧ A.cell? ⟨q16, 0, none⟩ = some (.int .i64 (vd : Int))) (by kernel_rfl) (by kernel_rfl) (by rintro ⟨_, _, hlo⟩; exact hlo) ?_ (fun hHeld => ?_)
              · exact hS0
              clear hHeld
              have hHeld := hS0
              try dsimp only at hHeld
              clear hS0
              generalize WD.drew = wd at *
              refine wpAnyH_take (i := 0) (v := ?_) rfl (by kernel_rfl) (by kernel_rfl) (by kernel_rfl) (fun _ _ _ h => h) (Or.inl ⟨by rfl, ?_⟩) (by assumption) ?_
              rotate_left
              · intro w hSw; (try dsimp only at hSw); go_simp <;> with_reducible rfl
              try simp only [Act.put, List.getElem_toArray, List.getElem_cons_zero, List.getElem_cons_succ, List.setIfInBounds_toArray, List.set_cons_zero, List.set_cons_succ]
              refine wpAnyH_take (i := 1) (v := ?_) rfl (by kernel_rfl) (by kernel_rfl) (by kernel_rfl) (fun _ _ _ h => h) (Or.inl ⟨by rfl, ?_⟩) (by assumption) ?_
              rotate_left
              · intro w hSw; (try dsimp only at hSw); go_simp <;> with_reducible rfl
              try simp only [Act.put, List.getElem_toArray, List.getElem_cons_zero, List.getElem_cons_succ, List.setIfInBounds_toArray, List.set_cons_zero, List.set_cons_succ]
              refine wpAnyH_take (i := 2) (v := ?_) rfl (by kernel_rfl) (by kernel_rfl) (by kernel_rfl) (fun _ _ _ h => h) (Or.inl ⟨by rfl, ?_⟩) (by assumption) ?_
              rotate_left
              · intro w hSw; (try dsimp only at hSw); go_simp <;> with_reducible rfl
              try simp only [Act.put, List.getElem_toArray, List.getElem_cons_zero, List.getElem_cons_succ, List.setIfInBounds_toArray, List.set_cons_zero, List.set_cons_succ]
              refine wpAnyH_take (i := 3) (v := ?_) rfl (by kernel_rfl) (by kernel_rfl) (by kernel_rfl) (fun _ _ _ h => h) (Or.inl ⟨by rfl, ?_⟩) (by assumption) ?_
              rotate_left
              · intro w hSw; (try dsimp only at hSw); go_simp <;> with_reducible rfl
              try simp only [Act.put, List.getElem_toArray, List.getElem_cons_zero, List.getElem_cons_succ, List.setIfInBounds_toArray, List.set_cons_zero, List.set_cons_succ]
              try simp only [dd3, dd6, dd2]
              refine wpAnyH_take (i := 4) (v := ?_) rfl (by kernel_rfl) (by kernel_rfl) (by kernel_rfl) (fun _ _ _ h => h) (Or.inl ⟨by rfl, ?_⟩) (by assumption) ?_
              rotate_left
              · intro w hSw; (try dsimp only at hSw); go_simp <;> with_reducible rfl
              try simp only [Act.put, List.getElem_toArray, List.getElem_cons_zero, List.getElem_cons_succ, List.setIfInBounds_toArray, List.set_cons_zero, List.set_cons_succ]
              try simp only [dd3, dd6, dd2]
              refine wpAnyH_take (i := 5) (v := ?_) rfl (by kernel_rfl) (by kernel_rfl) (by kernel_rfl) (fun _ _ _ h => h) (Or.inl ⟨by rfl, ?_⟩) (by assumption) ?_
              rotate_left
              · intro w hSw; (try dsimp only at hSw); go_simp <;> with_reducible rfl
              try simp only [Act.put, List.getElem_toArray, List.getElem_cons_zero, List.getElem_cons_succ, List.setIfInBounds_toArray, List.set_cons_zero, List.set_cons_succ]
              refine wpAnyH_take (i := 6) (v := ?_) rfl (by kernel_rfl) (by kernel_rfl) (by kernel_rfl) (fun _ _ _ h => h) (Or.inl ⟨by rfl, ?_⟩) (by assumption) ?_
              rotate_left
              · intro w hSw; (try dsimp only at hSw); go_simp <;> with_reducible rfl
              try simp only [Act.put, List.getElem_toArray, List.getElem_cons_zero, List.getElem_cons_succ, List.setIfInBounds_toArray, List.set_cons_zero, List.set_cons_succ]
              refine wpAnyH_take (i := 7) (v := ?_) rfl (by kernel_rfl) (by kernel_rfl) (by kernel_rfl) (fun _ _ _ h => h) (Or.inl ⟨by rfl, ?_⟩) (by assumption) ?_
              rotate_left
              · intro w hSw; (try dsimp only at hSw); go_simp <;> with_reducible rfl
              try simp only [Act.put, List.getElem_toArray, List.getElem_cons_zero, List.getElem_cons_succ, List.setIfInBounds_toArray, List.set_cons_zero, List.set_cons_succ]
              refine wpAnyH_take (i := 8) (v := ?_) rfl (by kernel_rfl) (by kernel_rfl) (by kernel_rfl) (fun _ _ _ h => h) (Or.inl ⟨by rfl, ?_⟩) (by assumption) ?_
              rotate_left
              · intro w hSw; (try dsimp only at hSw); go_simp <;> with_reducible rfl
              try simp only [Act.put, List.getElem_toArray, List.getElem_cons_zero, List.getElem_cons_succ, List.setIfInBounds_toArray, List.set_cons_zero, List.set_cons_succ]
              refine wpAnyH_take (i := 9) (v := ?_) rfl (by kernel_rfl) (by kernel_rfl) (by kernel_rfl) (fun _ _ _ h => h) (Or.inl ⟨by rfl, ?_⟩) (by assumption) ?_
              rotate_left
              · intro w hSw; (try dsimp only at hSw); go_simp <;> with_reducible rfl
              try simp only [Act.put, List.getElem_toArray, List.getElem_cons_zero, List.getElem_cons_succ, List.setIfInBounds_toArray, List.set_cons_zero, List.set_cons_succ]
              refine wpAnyH_take (i := 10) (v := ?_) rfl (by kernel_rfl) (by kernel_rfl) (by kernel_rfl) (fun _ _ _ h => h) (Or.inl ⟨by rfl, ?_⟩) (by assumption) ?_
              rotate_left
              · intro w hSw; (try dsimp only at hSw); go_simp <;> with_reducible rfl
              try simp only [Act.put, List.getElem_toArray, List.getElem_cons_zero, List.getElem_cons_succ, List.setIfInBounds_toArray, List.set_cons_zero, List.set_cons_succ]
              refine wpAnyH_take (i := 11) (v := ?_) rfl (by kernel_rfl) (by kernel_rfl) (by kernel_rfl) (fun _ _ _ h => h) (Or.inl ⟨by rfl, ?_⟩) (by assumption) ?_
              rotate_left
              · intro w hSw; (try dsimp only at hSw); go_simp <;> with_reducible rfl
              try simp only [Act.put, List.getElem_toArray, List.getElem_cons_zero, List.getElem_cons_succ, List.setIfInBounds_toArray, List.set_cons_zero, List.set_cons_succ]
              try simp only [ddw, dd1]
              refine wpAnyH_take (i := 12) (v := ?_) rfl (by kernel_rfl) (by kernel_rfl) (by kernel_rfl) (fun _ _ _ h => h) (Or.inl ⟨by rfl, ?_⟩) (by assumption) ?_
              rotate_left
              · intro w hSw; (try dsimp only at hSw); go_simp <;> with_reducible rfl
              try simp only [Act.put, List.getElem_toArray, List.getElem_cons_zero, List.getElem_cons_succ, List.setIfInBounds_toArray, List.set_cons_zero, List.set_cons_succ]
              try simp only [ddw, dd1]
              refine wpAnyH_take (i := 13) (v := ?_) rfl (by kernel_rfl) (by kernel_rfl) (by kernel_rfl) (fun _ _ _ h => h) (Or.inl ⟨by rfl, ?_⟩) (by assumption) ?_
              rotate_left
              · intro w hSw; (try dsimp only at hSw); go_simp <;> with_reducible rfl
              try simp only [Act.put, List.getElem_toArray, List.getElem_cons_zero, List.getElem_cons_succ, List.setIfInBounds_toArray, List.set_cons_zero, List.set_cons_succ]
              refine wpAnyH_done (by kernel_rfl) ?_ _
              have hc7 := hHeld.1.1
              gi_wp2_with fail
              have kY : Kp [q17] W5 (wd.setCell ⟨q17, 0, none⟩ (.int .i64 ((fi : Int) + 1))) := (kDd.out.mono (by simp)).setCell (.inl (by simp)) _
              obtain ⟨r1, r2, r3⟩ := hIo.out.co.round (x := ⟨i, ⟨vk, vb, vn, vt⟩⟩) kY hcl.out
              refine ⟨r1, r2, r3, ?_, (World.frozen?_setCell _ _ _ _).trans f17w⟩
              rw [World.cell?_setCell_same _ _ _ hc7]
              have e1 : fc (s.nx ⟨i, ⟨vk, vb, vn, vt⟩⟩).i = fi + 1 := by
                show fc (s.i + 1) = _
                rw [hi.out, hfs.out, hfi.out]; simp
              rw [e1]
              simp
          case done =>
            rintro D' s X hD ⟨hmd, hsi⟩ hI hrec
            subst hAct
            try dsimp only
            have kX := hI.co.kp
            have hcX := hI.cnt
            have hfX := hI.free
            have efc : fc s.i = (posF tb 0 (VD ++ l)).length := by
              rw [hsi, hfc.out]
              try dsimp only
              rw [List.take_length]
            rw [efc] at hcX
            have K0X : Kp [q17] W X := (K06.out.mono (by simp)).trans kX (fun x hx => .inl hx)
            have bIX := HI6.out.kept kX (by simp; omega) (HI6.out.lt (by simp))
            have u1_ := bIX.get 1 _ rfl
            have u11_ := bIX.get 11 _ rfl
            have h17n : q17 ∉ Ds := fun hm => HL.out.mks.cell (a := ⟨q17, 0, none⟩) (by rw [HL.out.fd.1]; rfl) hm
            have hmX : Mks (D' :: Ds) X := (HL.out.mks.kept K0X (fun D hD hm => h17n (by simp at hm; rw [← hm]; exact hD))).cons hrec (fun hm => by have := HL.out.mks.lt D' hm; omega)
            have hzx := HL.out.kp.size
            have c16 : X.cell? ⟨q16, 0, none⟩ = some (.int .i64 (vd : Int)) := by
              have h1 := HL.out.at_.1
              rw [hvd.out] at h1
              exact (K0X.cell (p := ⟨q16, 0, none⟩) (World.block_lt_of_cell? _ _ h1) (by simp; omega)).trans h1
            have f16 : X.frozen? ⟨q16, 0, none⟩ = false := (K0X.frozen (p := ⟨q16, 0, none⟩) (World.block_lt_of_cell? _ _ HL.out.at_.1) (by simp; omega)).trans HL.out.at_.2
            have hN2 := hid (hnx.out X (D' :: Ds) K0X ⟨hcX, hfX⟩ hmX (fun D hDm => by
              rcases List.mem_cons.1 hDm with rfl | hDm
              · omega
              · exact HL.out.low D hDm) (.int .i64 ((vd : Int) + (lm : Int))) (by rw [List.length_append, hvd.out, hlm.out]; simp))
            have hq18' : q18 ≠ q16 := by omega
            clear hnx HL hI kX hcX hfX efc K0X bIX hmX hseq hsq HI6 K06 hrec hmd hsi hjs0 hbk6 hbk HAT HMN
            go_wp2_with fail
            case inl h => exact ⟨⟨R, VD ++ l, ba', 0, bs'.drop nB, ⟨rfl, by simp, rfl⟩, D' :: Ds, rfl, by simp; omega, hid (hN2.out.flat h)⟩, by show bs'.length - nB < _; omega⟩
            case inr h => exact ⟨⟨R, VD ++ l, _, _, bs'.drop nB, ⟨rfl, by simp, rfl⟩, D' :: Ds, rfl, by simp; omega, hN2⟩, by show bs'.length - nB < _; omega⟩
          case stop =>
            rintro D c s X hD _ h
            exact h.elim
end Go.Proofs.YtafcdckpicoppaaGreatDoor
end

section
namespace Go.Proofs.YtafcdckpicoppaaGreatDoor
open Go.RowKit Go.Hay
set_option linter.unusedVariables false
theorem skWalk (la : Option Addr) (lc : Nat) (L : List Vs) (ka : Option Addr) (kc : Nat) (K : List Int) (co op : Int) (y : Val) (w : World) (ht0 : Tab w) (hA0 : Asks w) (hsL : VsE.See w la L) (hoL : ∀ y ∈ L, y.ok w) (hLc : L.length ≤ lc) (hLm : lc ≤ maxLen) (hsK : IntE.See w ka K) (hKc : K.length ≤ kc) (hKm : kc ≤ maxLen) (hL : L.length ≤ 1048576) (hV : (L.map fun y => y.l.length).sum ≤ 1048576) :
    Calls Tryz.prog 3 #[.slice la L.length lc, .slice ka K.length kc, .agg #[.int .i64 co, .int .i64 op, .int .i64 y.k, .bool y.b, .int .i64 y.n, .string y.t]] w fun e w' => e = .returned (.bool true) ∧ Below w.heap.size w w' :=
  (callsIn_wide.1 (walkSk la lc L ka kc K co op y.k y.b y.n y.t w ht0 hA0 hsL hoL hLc hLm hsK hKc hKm hL hV)).mono fun e w' h => ⟨h.1, h.2.below⟩
end Go.Proofs.YtafcdckpicoppaaGreatDoor
end

section
namespace Go.Proofs.YtafcdckpicoppaaGreatDoor
open Go.ChangeShapes Go.WideShapes Go.ChangeAt Go.RowKit Go.Hay
set_option linter.unusedVariables false

theorem cellsTm : Tryz.prog.cellsOf 27 = 6 := by kernel_rfl
set_option maxRecDepth 100000 in
theorem openTerm6 {H : Type} {enc : TypeId × Value → H} {W : World} {fuel : Nat} {c0 c1 c2 c3 c4 c5 : Value} {x : DataW H × List MemPlace} (h : DataW.trod enc Tryz.prog W 0 (fun _ => true) true fuel 27 [c0, c1, c2, c3, c4, c5] = some x) :
    ∃ (co op : Int) (t : Val), c0 = .int .i64 co ∧ c1 = .int .i64 op ∧ c2 = .int .i64 t.k ∧ c3 = .bool t.b ∧ c4 = .int .i64 t.n ∧ c5 = .string t.t := by
  obtain ⟨xs, n, _, rfl, _, hlen, hf⟩ := DataW.trod_struct Tryz.underlying27 h
  match xs, hlen with
  | [y0, y1, y2], _ =>
    have h0 := hf 0 _ rfl
    have h1 := hf 1 _ rfl
    have h2 := hf 2 _ rfl
    simp [cellsI, cellsV] at h0 h1 h2
    obtain ⟨co, e0, _, w0⟩ := DataW.trod_int Tryz.underlying3 h0
    obtain ⟨op, e1, _, w1⟩ := DataW.trod_int Tryz.underlying3 h1
    obtain ⟨t, ok, e2, e3, e4, e5⟩ := openVal4 (c0 := c2) (c1 := c3) (c2 := c4) (c3 := c5) h2
    simp at e0 e1
    exact ⟨co, op, t, e0, e1, e2, e3, e4, e5⟩
set_option maxRecDepth 100000 in
theorem openTerm {H : Type} {enc : TypeId × Value → H} {W : World} {base : Nat} {v : Value} {d : DataW H} {ps : List MemPlace} (hv : Value.okWide Tryz.prog W .any base 27 v)
    (h : DataW.Trod enc Tryz.prog W 0 (fun _ => true) true 27 v d ps) : ∃ (co op : Int) (t : Val), v = .agg #[.int .i64 co, .int .i64 op, .int .i64 t.k, .bool t.b, .int .i64 t.n, .string t.t] := by
  obtain ⟨cs, rfl, hsz⟩ := okWide_struct Tryz.underlying27 hv
  rw [cellsTm] at hsz
  obtain ⟨fuel, hf⟩ := h
  obtain ⟨l⟩ := cs
  match l, hsz, hf with
  | [c0, c1, c2, c3, c4, c5], _, hf =>
    obtain ⟨co, op, t, e0, e1, e2, e3, e4, e5⟩ := openTerm6 (c0 := c0) (c1 := c1) (c2 := c2) (c3 := c3) (c4 := c4) (c5 := c5) hf
    subst e0 e1 e2 e3 e4 e5
    exact ⟨co, op, t, rfl⟩
end Go.Proofs.YtafcdckpicoppaaGreatDoor
end

section
namespace Go.Proofs.YtafcdckpicoppaaGreatDoor
open Go.ChangeShapes Go.WideShapes Go.ChangeAt Go.RowKit Go.Hay
set_option linter.unusedVariables false
set_option linter.unusedSimpArgs false

theorem cellsBo : Tryz.prog.cellsOf 4 = 1 := by kernel_rfl
theorem gAsk : Tryz.prog.globalNamed "hayloft/expr.asks" = some 0 := by kernel_rfl
theorem gAskType : (Tryz.prog.globals[0]?).map (·.type) = some 56 := by kernel_rfl
theorem cellsAsk : Tryz.prog.cellsOf 56 = 18 := by kernel_rfl
theorem cellsAs3 : Tryz.prog.cellsOf 55 = 3 := by kernel_rfl
theorem askRow {W : World} {fuel : Nat} {c0 c1 c2 : Value} {b0 b1 b2 : Bool} {x : DataW Unit × List MemPlace} (h : DataW.trod (fun _ => ()) Tryz.prog W 0 (fun _ => true) false fuel 55 [c0, c1, c2] = some x) (hd : x.1 = .agg [.lit (.bool b0), .lit (.bool b1), .lit (.bool b2)]) : c0 = .bool b0 ∧ c1 = .bool b1 ∧ c2 = .bool b2 := by
  obtain ⟨y0, y1, y2, n, rfl, h0, h1, h2⟩ := trod_array3 Tryz.underlying55 cellsBo h
  obtain ⟨z0, e0, f0⟩ := DataW.trod_bool Tryz.underlying4 h0
  obtain ⟨z1, e1, f1⟩ := DataW.trod_bool Tryz.underlying4 h1
  obtain ⟨z2, e2, f2⟩ := DataW.trod_bool Tryz.underlying4 h2
  simp at e0 e1 e2
  subst e0 e1 e2 f0 f1 f2
  simp at hd
  simp [hd]
set_option maxRecDepth 100000 in
theorem asksOf {W : World} (hv0 : ∃ t cs fuel p, (Tryz.prog.globals[0]?).map (·.type) = some t ∧ W.var? Tryz.prog "hayloft/expr.asks" = some cs ∧ DataW.trod (fun _ => ()) Tryz.prog W 0 (fun _ => true) false fuel t cs.toList = some (Rows.laid_hayloft_expr_asks, p)) : Asks W := by
  obtain ⟨t, cs, fuel, p, ht, hv, hd⟩ := hv0
  obtain rfl := Option.some.inj (gAskType.symm.trans ht)
  obtain ⟨xs, m, _, ex, hlen, hl, hel⟩ := DataW.trod_array Tryz.underlying56 hd
  rw [cellsAsk] at hlen
  obtain ⟨l⟩ := cs
  match l, hlen with
  | [c0, c1, c2, c3, c4, c5, c6, c7, c8, c9, c10, c11, c12, c13, c14, c15, c16, c17], _ =>
    match xs, hl with
    | [x0, x1, x2, x3, x4, x5], _ =>
      have e6 := (DataW.agg.inj (Prod.mk.inj ex).1)
      simp only [List.map_cons, List.map_nil, List.cons.injEq, and_true] at e6
      obtain ⟨f0, f1, f2, f3, f4, f5⟩ := e6
      have k0 := hel 0 (by omega)
      have k1 := hel 1 (by omega)
      have k2 := hel 2 (by omega)
      have k3 := hel 3 (by omega)
      have k4 := hel 4 (by omega)
      have k5 := hel 5 (by omega)
      rw [cellsAs3] at k0 k1 k2 k3 k4 k5
      obtain ⟨g0, g1, g2⟩ := askRow (c0 := c0) (c1 := c1) (c2 := c2) (b0 := false) (b1 := true) (b2 := false) k0 f0.symm
      obtain ⟨g3, g4, g5⟩ := askRow (c0 := c3) (c1 := c4) (c2 := c5) (b0 := true) (b1 := false) (b2 := true) k1 f1.symm
      obtain ⟨g6, g7, g8⟩ := askRow (c0 := c6) (c1 := c7) (c2 := c8) (b0 := true) (b1 := false) (b2 := false) k2 f2.symm
      obtain ⟨g9, g10, g11⟩ := askRow (c0 := c9) (c1 := c10) (c2 := c11) (b0 := true) (b1 := true) (b2 := false) k3 f3.symm
      obtain ⟨g12, g13, g14⟩ := askRow (c0 := c12) (c1 := c13) (c2 := c14) (b0 := false) (b1 := false) (b2 := true) k4 f4.symm
      obtain ⟨g15, g16, g17⟩ := askRow (c0 := c15) (c1 := c16) (c2 := c17) (b0 := false) (b1 := true) (b2 := true) k5 f5.symm
      subst g0 g1 g2 g3 g4 g5 g6 g7 g8 g9 g10 g11 g12 g13 g14 g15 g16 g17
      have hc : ∀ i, i < 18 → W.cell? ⟨0, i, none⟩ = some (.bool (askL.getD i false)) := by
        intro i hi
        rw [World.var?_cell gAsk hv i]
        match i, hi with
        | 0, _ => rfl
        | 1, _ => rfl
        | 2, _ => rfl
        | 3, _ => rfl
        | 4, _ => rfl
        | 5, _ => rfl
        | 6, _ => rfl
        | 7, _ => rfl
        | 8, _ => rfl
        | 9, _ => rfl
        | 10, _ => rfl
        | 11, _ => rfl
        | 12, _ => rfl
        | 13, _ => rfl
        | 14, _ => rfl
        | 15, _ => rfl
        | 16, _ => rfl
        | 17, _ => rfl
        | i + 18, h => omega
      exact ⟨World.block_lt_of_cell? _ _ (hc 0 (by omega)), hc⟩
/-- The block of the table, as its initialiser lays it. -/
def askCells : Array Value := #[.bool false, .bool true, .bool false, .bool true, .bool false, .bool true, .bool true, .bool false, .bool false, .bool true, .bool true, .bool false, .bool false, .bool false, .bool true, .bool false, .bool true, .bool true]
def setTab : Obj → Obj
  | .cells _ t frozen => .cells tabCells t frozen
  | o => o
def setAsk : Obj → Obj
  | .cells _ t frozen => .cells askCells t frozen
  | o => o
theorem tables {W : World} (h : laidMetH Tryz.prog [("hayloft/codec.nibbleSums", Rows.laid_hayloft_codec_nibbleSums), ("hayloft/expr.asks", Rows.laid_hayloft_expr_asks)] W) : Tab W ∧ Asks W := by
  have h' : laidMet Tryz.prog [("hayloft/codec.nibbleSums", Rows.laid_hayloft_codec_nibbleSums), ("hayloft/expr.asks", Rows.laid_hayloft_expr_asks)] W := h
  refine ⟨tabOf h', ?_⟩
  obtain ⟨ps, ⟨g, t, cs, fuel, p, q, hg, ht, hv, hd, ⟨g2, t2, cs2, fuel2, p2, q2, hg2, ht2, hv2, hd2, _, _⟩, _⟩, _, _⟩ := h'
  obtain rfl := Option.some.inj (gAsk.symm.trans hg2)
  exact asksOf ⟨t2, cs2, fuel2, p2, ht2, hv2, hd2⟩
end Go.Proofs.YtafcdckpicoppaaGreatDoor
end

section
namespace Go.Proofs.YtafcdckpicoppaaGreatDoor
open Go.ChangeShapes Go.WideShapes Go.ChangeAt Go.RowKit Go.Hay
set_option linter.unusedVariables false

set_option maxRecDepth 100000 in
theorem hayloftSkipsContract (H : Type) (enc : TypeId × Value → H) (W : World) (base : Nat) (args : Array Value) (ds gs : List (DataW H)) (before : List MemPlace)
    (hval : ∀ (j : Nat) t v, Tryz.f3.params[j]? = some t → args[j]? = some v → Value.okWide Tryz.prog W .any base t v)
    (hW : DataW.Whole enc Tryz.prog Tryz.f3.params.toList Rows.hayloftSkipsSpec.vars false W args.toList ds gs before)
    (hsz : (DataW.weightsEach Tryz.prog (Tryz.f3.params.toList ++ (Rows.OpenSpec.upto Rows.hayloftSkipsSpec).bare.plain.varTypes Tryz.prog) (ds ++ gs)).all (· ≤ reachBytes) = true)
    (hk : Rows.uptoSmall H (ds ++ gs) = true)
    (hL : laidMetH Tryz.prog Rows.hayloftSkipsUptoRow.laid W) :
    Calls Tryz.prog 3 args W fun e W' => ∃ v, e = .returned v ∧ Rows.hayloftSkipsSpec.post enc Tryz.prog Tryz.f3 false true false false W args v W' := by
  have hW' := hW
  obtain ⟨p, q, hA0, hV, rfl, hfz, hnd⟩ := hW
  have hA : DataW.TrodAll enc Tryz.prog W 0 (fun _ => true) true Tryz.f3.params.toList args.toList ds p := hA0
  rw [Tryz.params3] at hA hval hsz
  obtain ⟨v0, vs0, d0, ds0, p0, q0, hargs, rfl, rfl, h0, r0⟩ := trodAll_cons hA
  obtain ⟨v1, vs1, d1, ds1, p1, q1, rfl, rfl, rfl, h1, r1⟩ := trodAll_cons r0
  obtain ⟨v2, vs2, d2, ds2, p2, q2, rfl, rfl, rfl, h2, r2⟩ := trodAll_cons r1
  obtain ⟨rfl, rfl, rfl⟩ := trodAll_nil r2
  obtain rfl : args = #[v0, v1, v2] := by cases args; simp_all
  obtain ⟨rfl, rfl⟩ := trodVars_none hV
  obtain ⟨a0, len0, cap0, rfl⟩ := okWide_slice Tryz.underlying22 (hval 0 22 v0 rfl rfl)
  have k0 := h0
  have lt0 : ∀ x ∈ p0, x.block < W.heap.size := by obtain ⟨m, hm⟩ := k0; exact DataW.trod_lt m _ _ _ hm
  obtain ⟨l0, rfl, hs0, hok0, hl0, hm0, hn0, hfit0, hbk0, hcp0⟩ := openVlists h0
  obtain ⟨hc0, hq0⟩ := hfit0 (List.all_eq_true.2 fun x hx => List.all_eq_true.1 hsz x (by simp [DataW.weightsEach]; first | exact .inl hx | exact .inr hx | exact .inr (.inl hx) | exact .inr (.inr hx) | exact hx))
  obtain ⟨a1, len1, cap1, rfl⟩ := okWide_slice Tryz.underlying23 (hval 1 23 v1 rfl rfl)
  have k1 := h1
  have lt1 : ∀ x ∈ p1, x.block < W.heap.size := by obtain ⟨m, hm⟩ := k1; exact DataW.trod_lt m _ _ _ hm
  obtain ⟨l1, rfl, hs1, hok1, hl1, hm1, hn1, hfit1, hbk1, hcp1⟩ := openInts h1
  obtain ⟨hc1, hq1⟩ := hfit1 (List.all_eq_true.2 fun x hx => List.all_eq_true.1 hsz x (by simp [DataW.weightsEach]; first | exact .inl hx | exact .inr hx | exact .inr (.inl hx) | exact .inr (.inr hx) | exact hx))
  have k2 := h2
  have lt2 : ∀ x ∈ p2, x.block < W.heap.size := by obtain ⟨m, hm⟩ := k2; exact DataW.trod_lt m _ _ _ hm
  obtain ⟨co2, op2, x2, rfl⟩ := openTerm (hval 2 27 v2 rfl rfl) h2
  have hbk := of_decide_eq_true hk
  simp only [List.append_nil, Rows.uptoBulkAll] at hbk
  clear hA0
  refine (skWalk a0 cap0 l0 a1 cap1 l1 co2 op2 x2 W (tables hL).1 (tables hL).2 hs0 hok0 hl0 hm0 hs1 hl1 hm1 (by omega) (by omega)).mono fun e W' ⟨he, bel⟩ => ?_
  subst he
  exact ⟨_, rfl, _, _, _, [], _, [], hW', trodAll_mk1 (shut_bool Tryz.underlying4 _), (trodAll_cons_mk (Below.trod Tryz.laidOut (by kernel_rfl) (of_decide_eq_true (by kernel_rfl)) k0 bel lt0) (trodAll_cons_mk (Below.trod Tryz.laidOut (by kernel_rfl) (of_decide_eq_true (by kernel_rfl)) k1 bel lt1) (trodAll_cons_mk (Below.trod Tryz.laidOut (by kernel_rfl) (of_decide_eq_true (by kernel_rfl)) k2 bel lt2) trodAll_mk0))), rfl, bel.frame _, fun h => by cases h⟩

set_option maxRecDepth 100000 in
theorem hayloftSkipsLifted (os : Os) (started : os.Started) (H : Type) (enc : TypeId × Value → H) (F : Stop.Interp) :
    ReturnsInHanded {} Tryz.checked os 3 .any ((Rows.OpenSpec.upto Rows.hayloftSkipsSpec).preRow enc Tryz.prog Tryz.f3 Rows.hayloftSkipsUptoRow.domain false Rows.hayloftSkipsUptoRow.laid) (((Rows.OpenSpec.upto Rows.hayloftSkipsSpec).at F).post enc Tryz.prog Tryz.f3 false true false false) := by
  refine returnsInHanded_of_row (C := Tryz.checked) (s := Rows.OpenSpec.upto Rows.hayloftSkipsSpec) Tryz.own started (by kernel_rfl) Tryz.func3
    (witness_row_at (enc := enc) (C := Tryz.checked) false ({ World.holding Tryz.prog os ⟨#[], #[], []⟩ with heap := (((World.holding Tryz.prog os ⟨#[], #[], []⟩).heap.modify 1 setTab).modify 0 setAsk) })
      #[.slice none 0 0, .slice none 0 0, .agg #[.int .i64 0, .int .i64 0, .int .i64 0, .bool false, .int .i64 0, .string ⟨#[]⟩]] rfl (by kernel_rfl) (by kernel_rfl) (by kernel_rfl)
      (OpenSpec.preRow_of_cond (x := ([.nil, .nil, .agg [.lit (.int .i64 0), .lit (.int .i64 0), .agg [.lit (.int .i64 0), .lit (.bool false), .lit (.int .i64 0), .lit (.string [])]]], [], [])) 8 (by kernel_rfl) (by kernel_rfl) (fun k hk => by cases hk; kernel_rfl) (by kernel_rfl) (laidMet_of_run' 8 (by kernel_rfl) (by kernel_rfl)))) ?_
  intro W base args ds gs before hval hW _ hcond hsz hL _ _
  exact hayloftSkipsContract H enc W base args ds gs before hval hW hsz (hcond _ rfl) hL

theorem hayloftSkipsSaid : Rows.HayloftSkipsUptoSaid :=
  OpenClaim.holds_of_cond 3 Tryz.f3 rfl rfl rfl rfl rfl rfl rfl ⟨rfl, rfl, rfl, rfl, rfl⟩ rfl rfl rfl rfl rfl (by kernel_rfl) Tryz.func3 (by kernel_rfl)
    (of_decide_eq_true (by kernel_rfl)) (by unfold Func.isWrapper; first | (rw [if_pos (by decide +kernel)]; kernel_rfl) | (rw [if_neg (by decide +kernel)]; exact ⟨rfl, rfl⟩))
    (fun os started H enc _ F => by rw [OpenClaim.pre_eq_preRow]; exact hayloftSkipsLifted os started H enc F)

theorem hayloftSkipsPlain (f : FuncId) (fn : Func) (hf : Tryz.pinned.checked.prog.funcNamed "hayloft/haylofttop.HayloftSkips" = some f) (hfn : Tryz.pinned.checked.prog.funcs[f]? = some fn) :
    false = Tryz.pinned.checked.prog.looks [] ∧ ∀ (j : Nat) t, fn.params[j]? = some t → Tryz.pinned.checked.prog.wantsStandIn t = false := by
  obtain rfl : f = 3 := Option.some.inj ((show Tryz.prog.funcNamed "hayloft/haylofttop.HayloftSkips" = some 3 by kernel_rfl).symm.trans hf) |>.symm
  obtain rfl : fn = Tryz.f3 := (Option.some.inj (Tryz.func3.symm.trans hfn)).symm
  refine ⟨by kernel_rfl, fun j t ht => ?_⟩
  rw [Tryz.params3] at ht
  have hm := Array.mem_of_getElem? ht
  have h2 : t = 22 ∨ t = 23 ∨ t = 27 := by first | (simpa using hm) | (rcases (show t = 22 ∨ t = 23 ∨ t = 27 from by simpa using hm) with h | h | h <;> simp [h])
  rcases h2 with rfl | rfl | rfl
  · exact (show Tryz.prog.wantsStandIn 22 = false by kernel_rfl)
  · exact (show Tryz.prog.wantsStandIn 23 = false by kernel_rfl)
  · exact (show Tryz.prog.wantsStandIn 27 = false by kernel_rfl)

theorem HayloftSkips_holds : Rows.HayloftSkipsUptoCardSaid :=
  Claim7.holds_tied_plain_at .later [] _ _ _ _ hayloftSkipsSaid (fun _ h => by cases h) (by kernel_rfl) (fun _ h => by cases h) hayloftSkipsUpto_row_tie rfl ⟨rfl, rfl⟩ (by kernel_rfl) rfl hayloftSkipsPlain (by kernel_rfl)
#print axioms HayloftSkips_holds
end Go.Proofs.YtafcdckpicoppaaGreatDoor
end

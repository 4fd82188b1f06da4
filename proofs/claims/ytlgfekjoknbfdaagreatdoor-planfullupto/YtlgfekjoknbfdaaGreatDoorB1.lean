/- What the proof stands on: contracts of functions that the statement calls, and plain lemmas. No statement of the seat is proved here. -/
import Derived.WalkKit
import Derived.OrdersIn
import Derived.OrdersHeld
import Derived.Deep.RegionHeld3
import Derived.WalkSpells
import Derived.Deep.Upon
import Derived.Deep.DeepAppendWide
import Derived.WalkSmall
import Derived.Test.YtlgfekjoknbfdaaGreatDoorRows
import Derived.Laws.StructEq
import Derived.Handy
import Derived.BigQuiet
import Derived.Deep.QuietTactic
import Derived.Deep.RegionWith
import Derived.BigGuard
import Derived.Lib.Strings
import Derived.Laws.IdiomCopy
import Derived.Deep.RegionLaw
import Derived.Below
import Derived.ProofKit
import Derived.OpenShut
import Derived.ShutString
import Derived.ChangeOld
import Derived.Deep.Slices
import Derived.RangeFuncRecord
import Derived.RangeFuncNested
import Derived.RangeFuncBound
import Derived.RangeFuncCalls
import Derived.RangeFuncLeaves
import Derived.RangeFuncSeq
import Derived.Laws.AppendOwnNone
import Derived.Shelf.RegionOpen
import Derived.LoopIn
import Derived.LoopNIn
import Derived.TacticsInMore
import Derived.OwnWalkIn
import Derived.RegionIn
set_option maxHeartbeats 64000000
set_option maxRecDepth 100000
set_option linter.unusedVariables false
set_option linter.unusedSimpArgs false
section
namespace Go.Hay
open Go.RowKit
theorem lz {α : Type} : (∀ (l : List α) (i : Nat) (h : i < l.toArray.size), l.toArray[i] = l[i]'(by simpa using h)) ∧ (∀ (a : α) (l : List α) (h : 0 < (a :: l).length), (a :: l)[0] = a) ∧ (∀ (a : α) (l : List α) (i : Nat) (h : i + 1 < (a :: l).length), (a :: l)[i + 1] = l[i]'(by simpa using h)) ∧ (∀ (l : List α) (i : Nat) (a : α), l.toArray.setIfInBounds i a = (l.set i a).toArray) ∧ (∀ (a b : α) (l : List α), (a :: l).set 0 b = b :: l) ∧ (∀ (a b : α) (l : List α) (i : Nat), (a :: l).set (i + 1) b = a :: l.set i b) :=
  ⟨fun _ _ _ => by simp, fun _ _ _ => rfl, fun _ _ _ _ => rfl, fun _ _ _ => by simp, fun _ _ _ => rfl, fun _ _ _ _ => rfl⟩
theorem tkH {P : Program} {md : Region.Mode} {ops : Array Oper} {Q : Exit → Act → World → Prop} {S : World → Prop} (v : Value) {fuel : Nat} {listed : Array Bool} {a : Act} {w : World} (i : Nat) {oi : Oper} (hi : ops[i]? = some oi) (hb : (Region.noSelect ops && Region.free md ops listed i && (Region.ready md ops listed).contains i) = true) (hQ : ∀ c a w, Q (.panic c) (a.put oi.dst v) w → Q (.panic c) a w) (hg : Region.wanted oi (yielded ops a.tmps) = true) (hy : ∀ w, S w → (execOp a.eval oi).run P w = .ok (.value v) w) (hS : S w) (h : wpAnyH P md ops Q S fuel (listed.setIfInBounds i true) (a.put oi.dst v) w) : wpAnyH P md ops Q S (fuel + 1) listed a w := by
  rw [Bool.and_eq_true, Bool.and_eq_true] at hb
  exact wpAnyH_take hi hb.1.1 hb.1.2 hb.2 hQ (.inl ⟨hg, hy⟩) hS h
theorem tkU {P : Program} {md : Region.Mode} {ops : Array Oper} {Q : Exit → Act → World → Prop} {S : World → Prop} {fuel : Nat} {listed : Array Bool} {a : Act} {w : World} (i : Nat) {oi : Oper} (hi : ops[i]? = some oi) (hb : (Region.noSelect ops && Region.free md ops listed i && (Region.ready md ops listed).contains i) = true) (hQ : ∀ c a w, Q (.panic c) (a.put oi.dst undef) w → Q (.panic c) a w) (hg : Region.wanted oi (yielded ops a.tmps) = false) (hS : S w) (h : wpAnyH P md ops Q S fuel (listed.setIfInBounds i true) (a.put oi.dst undef) w) : wpAnyH P md ops Q S (fuel + 1) listed a w := by
  rw [Bool.and_eq_true, Bool.and_eq_true] at hb
  exact wpAnyH_take hi hb.1.1 hb.1.2 hb.2 hQ (.inr ⟨hg, rfl⟩) hS h
theorem tkI {F : Fence} {n : Nat} {P : Program} {md : Region.Mode} {ops : Array Oper} {Q : Exit → Act → World → Prop} (v : Value) {fuel : Nat} {listed : Array Bool} {a : Act} {w : World} (i : Nat) {oi : Oper} (hro : F.round = none) (hi : ops[i]? = some oi) (hb : (Region.noSelect ops && Region.free md ops listed i && (Region.ready md ops listed).contains i) = true) (hQ : ∀ c a w, Q (.panic c) (a.put oi.dst v) w → Q (.panic c) a w) (hy : YieldsFenced P ops oi v a) (h : wpAnyIn F n P md ops Q fuel (listed.setIfInBounds i true) (a.put oi.dst v) w) : wpAnyIn F n P md ops Q (fuel + 1) listed a w := by
  rw [Bool.and_eq_true, Bool.and_eq_true] at hb
  exact wpAnyIn_take hro hi hb.1.1 hb.1.2 hb.2 hQ hy h
theorem rdI {F : Fence} {n : Nat} {P : Program} {md : Region.Mode} {ops : Array Oper} {Q : Exit → Act → World → Prop} {fuel : Nat} {listed : Array Bool} {a : Act} {w : World} (i : Nat) {o : Oper} (hr : Region.ready md ops listed = [i]) (ho : ops[i]? = some o) (h : ∀ K' : Act → World → Prop, (∀ a w, wpAnyIn F n P md ops Q fuel (listed.setIfInBounds i true) a w → K' a w) → if Region.wanted o (yielded ops a.tmps) = true then Oper.wpIn F n P o a w K' Q else (∀ f, o.about P w a.eval = some f → F.fn f) ∧ K' (a.put o.dst undef) w) : wpAnyIn F n P md ops Q (fuel + 1) listed a w :=
  wpAnyIn_ready hr (by simp) (AllReadyIn.cons ho h AllReadyIn.nil)
theorem rdJ {F : Fence} {n : Nat} {P : Program} {md : Region.Mode} {ops : Array Oper} {Q : Exit → Act → World → Prop} {fuel : Nat} {listed : Array Bool} {a : Act} {w : World} (i j : Nat) {o o' : Oper} (hr : Region.ready md ops listed = [i, j]) (ho : ops[i]? = some o) (ho' : ops[j]? = some o') (h : ∀ K' : Act → World → Prop, (∀ a w, wpAnyIn F n P md ops Q fuel (listed.setIfInBounds i true) a w → K' a w) → if Region.wanted o (yielded ops a.tmps) = true then Oper.wpIn F n P o a w K' Q else (∀ f, o.about P w a.eval = some f → F.fn f) ∧ K' (a.put o.dst undef) w) (h' : ∀ K' : Act → World → Prop, (∀ a w, wpAnyIn F n P md ops Q fuel (listed.setIfInBounds j true) a w → K' a w) → if Region.wanted o' (yielded ops a.tmps) = true then Oper.wpIn F n P o' a w K' Q else (∀ f, o'.about P w a.eval = some f → F.fn f) ∧ K' (a.put o'.dst undef) w) : wpAnyIn F n P md ops Q (fuel + 1) listed a w :=
  wpAnyIn_ready hr (by simp) (AllReadyIn.cons ho h (AllReadyIn.cons ho' h' AllReadyIn.nil))
theorem rdH {P : Program} {md : Region.Mode} {ops : Array Oper} {Q : Exit → Act → World → Prop} {S : World → Prop} {fuel : Nat} {listed : Array Bool} {a : Act} {w : World} (i : Nat) {o : Oper} (hr : Region.ready md ops listed = [i]) (ho : ops[i]? = some o) (h : ∀ K' : Act → World → Prop, Shut (∀ a w, S w → (S w → wpAnyH P md ops Q S fuel (listed.setIfInBounds i true) a w) → K' a w) → if Region.wanted o (yielded ops a.tmps) = true then Oper.wp P o a w K' Q else K' (a.put o.dst undef) w) : wpAnyH P md ops Q S (fuel + 1) listed a w :=
  wpAnyH_ready hr (by simp) (AllReadyH.cons ho h AllReadyH.nil)
structure Kp (S : List Nat) (w w' : World) : Prop where
 os : w'.os = w.os
 tape : w'.tape = w.tape
 output : w'.output = w.output
 size : w.heap.size ≤ w'.heap.size
 block : ∀ k, k < w.heap.size → k ∉ S → w'.heap[k]? = w.heap[k]?
theorem Kp.refl (S : List Nat) (w : World) : Kp S w w := ⟨rfl, rfl, rfl, Nat.le_refl _, fun _ _ _ => rfl⟩
theorem Kp.trans {S T : List Nat} {a b c : World} (h : Kp S a b) (k : Kp T b c) (hT : ∀ x ∈ T, x ∈ S ∨ a.heap.size ≤ x) : Kp S a c :=
 ⟨k.os.trans h.os, k.tape.trans h.tape, k.output.trans h.output, Nat.le_trans h.size k.size, fun i hi hn =>
  (k.block i (Nat.lt_of_lt_of_le hi h.size) (fun hm => by rcases hT i hm with h1 | h1; exact hn h1; omega)).trans (h.block i hi hn)⟩
theorem Kp.mono {S T : List Nat} {a b : World} (h : Kp S a b) (hT : ∀ x ∈ S, x ∈ T ∨ a.heap.size ≤ x) : Kp T a b :=
 ⟨h.os, h.tape, h.output, h.size, fun i hi hn => h.block i hi (fun hm => by rcases hT i hm with h1 | h1; exact hn h1; omega)⟩
theorem Kp.drew {S : List Nat} {a w : World} (h : Kp S a w) : Kp S a w.drew := ⟨h.os, h.tape, h.output, h.size, h.block⟩
theorem Kp.drewN {S : List Nat} {a w : World} (h : Kp S a w) (n : Nat) : Kp S a (w.drewN n) := ⟨h.os, h.tape, h.output, h.size, h.block⟩
theorem Kp.alloc {S : List Nat} {a w : World} (h : Kp S a w) (o : Obj) : Kp S a (w.alloc o) :=
 ⟨h.os, h.tape, h.output, by have := h.size; simp; omega, fun k hk hn => (Below.heap_alloc w o k (Nat.lt_of_lt_of_le hk h.size)).trans (h.block k hk hn)⟩
theorem Kp.setCell {S : List Nat} {a w : World} (h : Kp S a w) {p : Addr} (hp : p.block ∈ S ∨ a.heap.size ≤ p.block) (u : Value) : Kp S a (w.setCell p u) :=
 ⟨h.os, h.tape, h.output, by have := h.size; simpa [World.setCell] using this, fun k hk hn =>
  (Below.heap_setCell w p u k (fun e => by subst e; rcases hp with h1 | h1; exact hn h1; omega)).trans (h.block k hk hn)⟩
theorem Kp.below {w w' : World} (h : Kp [] w w') : Below w.heap.size w w' := ⟨h.os, h.tape, h.output, h.size, fun k hk => h.block k hk (by simp)⟩
theorem Kp.cell {S : List Nat} {w w' : World} (h : Kp S w w') {p : Addr} (hp : p.block < w.heap.size) (hn : p.block ∉ S) : w'.cell? p = w.cell? p := World.cell?_of_block (h.block p.block hp hn)
theorem Kp.frozen {S : List Nat} {w w' : World} (h : Kp S w w') {p : Addr} (hp : p.block < w.heap.size) (hn : p.block ∉ S) : w'.frozen? p = w.frozen? p := World.frozen?_of_block (h.block p.block hp hn)
def own (v : Value) : List Nat := v.ownBlock.toList
def Row (w : World) (v : Value) (bs : List UInt8) : Prop :=
 (v = .slice none 0 0 ∧ bs = []) ∨ ∃ g o cap, v = .slice (some ⟨g, o, none⟩) bs.length cap ∧ bs.length ≤ cap ∧ cap ≤ maxLen ∧ g < w.heap.size ∧
  (∀ j u, bs[j]? = some u → w.cell? ⟨g, o + j, none⟩ = some (.int .u8 u.toNat)) ∧ ∀ j, j < cap → (w.cell? ⟨g, o + j, none⟩).isSome = true ∧ w.frozen? ⟨g, o + j, none⟩ = false
def Sees (w : World) (a : Option Addr) (bs : List UInt8) : Prop :=
 bs = [] ∨ ∃ g o, a = some ⟨g, o, none⟩ ∧ ∀ j u, bs[j]? = some u → w.cell? ⟨g, o + j, none⟩ = some (.int .u8 u.toNat)
def blk (a : Option Addr) : List Nat := (a.map (·.block)).toList
theorem size_setCells (g : Nat) : ∀ (vs : List Value) (o : Nat) (w : World), (w.setCells g o vs).heap.size = w.heap.size
 | [], _, _ => rfl
 | v :: r, o, w => by rw [World.setCells, size_setCells g r]; simp [World.setCell]
theorem Kp.setCells {S : List Nat} {a w : World} (h : Kp S a w) {g : Nat} (hg : g ∈ S ∨ a.heap.size ≤ g) : ∀ (vs : List Value) (o : Nat), Kp S a (w.setCells g o vs) := by
 intro vs
 induction vs generalizing w with
 | nil => intro o; exact h
 | cons v r ih => intro o; exact ih (h.setCell (p := ⟨g, o, none⟩) hg v) (o + 1)
section
variable {P : Program} (w : World)
end
theorem hid {p : Prop} (h : p) : Hid p := h
end Go.Hay
end

section
namespace Go.Proofs.YtlgfekjoknbfdaaGreatDoor
open Go.RowKit Go.Hay
structure Val where
 k : Int
 b : Bool
 n : Int
 t : ByteArray
def Val.v (x : Val) : Value := .agg #[.int .i64 x.k, .bool x.b, .int .i64 x.n, .string x.t]
def Val.eqv (x y : Val) : Bool := x.k == y.k && (x.b == y.b && (x.n == y.n && x.t.toList == y.t.toList))
theorem eqV (x y : Val) : ∃ X : Bool, Hid (X = x.eqv y) ∧ ∀ w : World, (binOp .eql 88 (.agg #[.int .i64 x.k, .bool x.b, .int .i64 x.n, .string x.t]) (.agg #[.int .i64 y.k, .bool y.b, .int .i64 y.n, .string y.t])).run Tryz.prog w = .ok (.bool X) w := by
 refine ⟨_, rfl, fun w => ?_⟩
 rw [run_eql_struct, run_equalIn_agg (ht := by kernel_rfl) (hp := by kernel_rfl)]
 obtain ⟨k1, b1, n1, t1⟩ := x;obtain ⟨k2, b2, n2, t2⟩ := y;simp only [Val.eqv]
 by_cases h1 : k1 = k2
 ·by_cases h2 : b1 = b2
  ·by_cases h3 : n1 = n2
   ·by_cases h4 : t1.toList = t2.toList
    ·simp [go_sem, h1, h2, h3, h4]
    ·simp [go_sem, h1, h2, h3, h4]
   ·simp [go_sem, h1, h2, h3]
  ·simp [go_sem, h1, h2]
 ·simp [go_sem, h1]
end Go.Proofs.YtlgfekjoknbfdaaGreatDoor
end

section
namespace Go.Proofs.YtlgfekjoknbfdaaGreatDoor
open Go.RowKit Go.Hay
end Go.Proofs.YtlgfekjoknbfdaaGreatDoor
end

section
namespace Go.Proofs.YtlgfekjoknbfdaaGreatDoor
open Go.RowKit Go.Hay
def bl (s t : ByteArray) : Bool := Op.bytesLess s.toList t.toList
def Val.lt (a b : Val) : Bool :=
 if a.k ≠ b.k then decide (a.k < b.k) else if a.k = 1 then !a.b && b.b else if a.k = 2 then decide (a.n < b.n) else if a.k = 3 then bl a.t b.t else false
def ci (x y : Int) : Int := if x < y then -1 else if y < x then 1 else 0
def cs (x y : ByteArray) : Int := if bl x y then -1 else if bl y x then 1 else 0
def cb (x y : Bool) : Int := if (!x && y) then -1 else if (!y && x) then 1 else 0
def cmpV (a b : Val) : Int := if a.lt b then -1 else if b.lt a then 1 else 0
theorem cNanI (x : Int) (w : World) : Calls Tryz.prog 175 #[.int .i64 x] w fun e w' => e = .returned (.bool false) ∧ w' = w := by
 go_enter Tryz.func175, Tryz.ntmps175
 go_wp2_with fail;go_ret;exact ⟨rfl, rfl⟩
theorem cNanL (x : Int) (w : World) : Calls Tryz.prog 176 #[.int .i64 x] w fun e w' => e = .returned (.bool false) ∧ w' = w := by
 go_enter Tryz.func176, Tryz.ntmps176
 go_wp2_with fail;go_ret;exact ⟨rfl, rfl⟩
theorem cNanS (x : ByteArray) (w : World) : Calls Tryz.prog 177 #[.string x] w fun e w' => e = .returned (.bool false) ∧ w' = w := by
 go_enter Tryz.func177, Tryz.ntmps177
 go_wp2_with fail;go_ret;exact ⟨rfl, rfl⟩
theorem cCmpI (x y : Int) (w : World) : Calls Tryz.prog 161 #[.int .i64 x, .int .i64 y] w fun e w' => e = .returned (.int .i64 (ci x y)) ∧ w' = w := by
 go_enter Tryz.func161, Tryz.ntmps161
 go_wp2_with (first | (go_at_call 175; refine (cNanI _ _).mono ?_; rintro e w' ⟨rfl, rfl⟩))
 all_goals (go_ret; refine ⟨?_, rfl⟩; show Ending.returned _ = _)
 all_goals (unfold ci; first | (rw [if_pos (by omega)]; rfl) | (rw [if_neg (by omega), if_pos (by omega)]; rfl) | (rw [if_neg (by omega), if_neg (by omega)]; rfl))
theorem cCmpL (x y : Int) (w : World) : Calls Tryz.prog 163 #[.int .i64 x, .int .i64 y] w fun e w' => e = .returned (.int .i64 (ci x y)) ∧ w' = w := by
 go_enter Tryz.func163, Tryz.ntmps163
 go_wp2_with (first | (go_at_call 176; refine (cNanL _ _).mono ?_; rintro e w' ⟨rfl, rfl⟩))
 all_goals (go_ret; refine ⟨?_, rfl⟩; show Ending.returned _ = _)
 all_goals (unfold ci; first | (rw [if_pos (by omega)]; rfl) | (rw [if_neg (by omega), if_pos (by omega)]; rfl) | (rw [if_neg (by omega), if_neg (by omega)]; rfl))
theorem UInt8.lt_trichotomy (x y : UInt8) : x < y ∨ x = y ∨ y < x := by
 rw [UInt8.lt_iff_toNat_lt, UInt8.lt_iff_toNat_lt, ← UInt8.toNat_inj];omega
theorem less_total : ∀ s t : List UInt8, (!Op.bytesLess s t && !(s == t)) = Op.bytesLess t s
 | [], [] => rfl
 | [], y :: t => rfl
 | x :: s, [] => rfl
 | x :: s, y :: t => by
  have ih := less_total s t
  simp only [Op.bytesLess];rw [show ((x :: s : List UInt8) == y :: t) = (x == y && s == t) from rfl]
  rcases UInt8.lt_trichotomy x y with h | h | h
  ·have h2 : ¬ y < x := fun h3 => by rw [UInt8.lt_iff_toNat_lt] at h h3; omega
   have h3 : (y == x) = false := by simp; rintro rfl; exact h2 h
   simp [h, h2, h3]
  ·subst h
   have h2 : ¬ x < x := fun h3 => by rw [UInt8.lt_iff_toNat_lt] at h3; omega
   simp [h2]
   simpa using ih
  ·have h2 : ¬ x < y := fun h3 => by rw [UInt8.lt_iff_toNat_lt] at h h3; omega
   have h3 : (x == y) = false := by simp; rintro rfl; exact h2 h
   simp [h, h2, h3]
theorem gtS (t : TypeId) (a b : ByteArray) : binOp .gtr t (.string a) (.string b) = pure (.bool (Op.bytesLess b.toList a.toList)) := by
 rw [← less_total];simp [binOp, Op.stringOp]
theorem cCmpS (x y : ByteArray) (w : World) : Calls Tryz.prog 164 #[.string x, .string y] w fun e w' => e = .returned (.int .i64 (cs x y)) ∧ w' = w := by
 have hg := gtS
 go_enter Tryz.func164, Tryz.ntmps164
 go_wp2_with (first | (go_at_call 177; refine (cNanS _ _).mono ?_; rintro e w' ⟨rfl, rfl⟩))
 all_goals (go_ret; refine ⟨?_, rfl⟩; show Ending.returned _ = _)
 all_goals simp_all [bl, cs]
theorem cBools (x y : Bool) (w : World) : Calls Tryz.prog 162 #[.bool x, .bool y] w fun e w' => e = .returned (.int .i64 (cb x y)) ∧ w' = w := by
 cases x <;> cases y
 all_goals (go_enter Tryz.func162, Tryz.ntmps162; go_wp2_with fail; go_ret; exact ⟨rfl, rfl⟩)
theorem cCompare (a b : Val) (w : World) : Calls Tryz.prog 136 #[a.v, b.v] w fun e w' => e = .returned (.int .i64 (cmpV a b)) ∧ Kp [] w w' := by
 obtain ⟨ak, ab, an, at'⟩ := a;obtain ⟨bk, bb, bn, bt⟩ := b;unfold Val.v
 have kw : Kp [] w ((w.alloc (.cells #[.int .i64 ak, .bool ab, .int .i64 an, .string at'] 88)).alloc (.cells #[.int .i64 bk, .bool bb, .int .i64 bn, .string bt] 88)) := ((Kp.refl _ _).alloc _).alloc _
 by_cases hk : ak = bk
 ·subst hk
  by_cases h1 : ak = 1
  ·subst h1
   go_enter Tryz.func136, Tryz.ntmps136
   go_wp2_with (first | (go_at_call 162; refine (cBools _ _ _).mono ?_; rintro e w' ⟨rfl, rfl⟩))
   go_ret;exact ⟨by simp [cmpV, Val.lt, ci, cs, cb], kw⟩
  by_cases h2 : ak = 2
  ·subst h2
   go_enter Tryz.func136, Tryz.ntmps136
   go_wp2_with (first | (go_at_call 163; refine (cCmpL _ _ _).mono ?_; rintro e w' ⟨rfl, rfl⟩))
   go_ret;exact ⟨by simp [cmpV, Val.lt, ci, cs, cb], kw⟩
  by_cases h3 : ak = 3
  ·subst h3
   go_enter Tryz.func136, Tryz.ntmps136
   go_wp2_with (first | (go_at_call 164; refine (cCmpS _ _ _).mono ?_; rintro e w' ⟨rfl, rfl⟩))
   go_ret;exact ⟨by simp [cmpV, Val.lt, ci, cs, cb], kw⟩
  ·have d1 : (ak == 1) = false := by simpa using h1
   have d2 : (ak == 2) = false := by simpa using h2
   have d3 : (ak == 3) = false := by simpa using h3
   go_enter Tryz.func136, Tryz.ntmps136
   go_wp2_with fail;go_ret;exact ⟨by simp [cmpV, Val.lt, ci, cs, cb, h1, h2, h3], kw⟩
 ·have d1 : (ak == bk) = false := by simpa using hk
  have hk' : ¬ bk = ak := fun h => hk h.symm
  go_enter Tryz.func136, Tryz.ntmps136
  go_wp2_with (first | (go_at_call 161; refine (cCmpI _ _ _).mono ?_; rintro e w' ⟨rfl, rfl⟩))
  go_ret;exact ⟨by simp [cmpV, Val.lt, ci, cs, cb, hk, hk'], kw⟩
def Vals (w : World) (a : Option Addr) (l : List Val) : Prop :=
 l = [] ∨ ∃ g o, a = some ⟨g, o, none⟩ ∧ ∀ j x, l[j]? = some x → w.cell? ⟨g, o + j * 4, none⟩ = some (.int .i64 x.k) ∧ w.cell? ⟨g, o + j * 4 + 1, none⟩ = some (.bool x.b) ∧ w.cell? ⟨g, o + j * 4 + 2, none⟩ = some (.int .i64 x.n) ∧ w.cell? ⟨g, o + j * 4 + 3, none⟩ = some (.string x.t)
theorem Vals.kept {w w' : World} {a : Option Addr} {l : List Val} (h : Vals w a l) (hk : Kp [] w w') : Vals w' a l := by
 rcases h with h | ⟨g, o, rfl, hc⟩
 ·exact .inl h
 ·refine .inr ⟨g, o, rfl, fun j t ht => ?_⟩
  obtain ⟨c0, c1, c2, c3⟩ := hc j t ht;exact ⟨(hk.cell (World.block_lt_of_cell? _ _ c0) (by simp)).trans c0, (hk.cell (World.block_lt_of_cell? _ _ c1) (by simp)).trans c1, (hk.cell (World.block_lt_of_cell? _ _ c2) (by simp)).trans c2, (hk.cell (World.block_lt_of_cell? _ _ c3) (by simp)).trans c3⟩
theorem Vals.at {w : World} {a : Option Addr} {l : List Val} (h : Vals w a l) (j : Nat) (hj : j < l.length) : ∃ g o, a = some ⟨g, o, none⟩ ∧ w.cell? ⟨g, o + j * 4, none⟩ = some (.int .i64 l[j].k) ∧ w.cell? ⟨g, o + j * 4 + 1, none⟩ = some (.bool l[j].b) ∧ w.cell? ⟨g, o + j * 4 + 2, none⟩ = some (.int .i64 l[j].n) ∧ w.cell? ⟨g, o + j * 4 + 3, none⟩ = some (.string l[j].t) := by
 rcases h with h | ⟨g, o, rfl, hc⟩
 ·subst h; simp at hj
 ·exact ⟨g, o, rfl, hc j l[j] (by simp)⟩
theorem kpAt {w w' : World} {p : Addr} {v : Value} (hk : Kp [] w w') (h : w.cell? p = some v) : w'.cell? p = some v := (hk.cell (World.block_lt_of_cell? _ _ h) (by simp)).trans h
def rowsV : List Val → List Val → Int
 | [], [] => 0
 | [], _ :: _ => -1
 | _ :: _, [] => 1
 | x :: a, y :: b => if cmpV x y = 0 then rowsV a b else cmpV x y
theorem rowsV_step (a b : List Val) (j : Nat) (ha : j < a.length) (hb : j < b.length) : rowsV (a.drop j) (b.drop j) = if cmpV a[j] b[j] = 0 then rowsV (a.drop (j + 1)) (b.drop (j + 1)) else cmpV a[j] b[j] := by
 rw [List.drop_eq_getElem_cons ha, List.drop_eq_getElem_cons hb, rowsV]
theorem rowsV_end (a b : List Val) (j : Nat) (h : j = min a.length b.length) : rowsV (a.drop j) (b.drop j) = ci a.length b.length := by
 unfold ci
 rcases Nat.lt_trichotomy a.length b.length with h1 | h1 | h1
 ·rw [if_pos (by omega), List.drop_eq_nil_of_le (by omega), List.drop_eq_getElem_cons (by omega : j < b.length), rowsV]
 ·rw [if_neg (by omega), if_neg (by omega), List.drop_eq_nil_of_le (by omega), List.drop_eq_nil_of_le (by omega), rowsV]
 ·rw [if_neg (by omega), if_pos (by omega), List.drop_eq_getElem_cons (by omega : j < a.length), List.drop_eq_nil_of_le (by omega : b.length ≤ j), rowsV]
theorem cRows (a b : Option Addr) (ca cb : Nat) (la lb : List Val) (w : World) (ha : Vals w a la) (hb : Vals w b lb) (hla : la.length ≤ 9223372036854775807) (hlb : lb.length ≤ 9223372036854775807) :
  Calls Tryz.prog 149 #[.slice a la.length ca, .slice b lb.length cb] w fun e w' => e = .returned (.int .i64 (rowsV la lb)) ∧ Kp [] w w' := by
 by_cases hlt : lb.length < la.length
 ·go_enter Tryz.func149, Tryz.ntmps149
  go_wp2_with fail;go_loopw [12] (fun i wn => ∃ j : Nat, j ≤ lb.length ∧ i = .int .i64 j ∧ Hid (rowsV (la.drop j) (lb.drop j) = rowsV la lb) ∧ Kp [] w wn) (fun i _ => lb.length - (intOf i).toNat)
  case atStart => exact ⟨0, Nat.zero_le _, rfl, rfl, Kp.refl _ _⟩
  case round =>
   obtain ⟨j, hj, rfl, hr, hk⟩ := hrel
   by_cases hjm : j < lb.length
   ·have hja : j < la.length := by omega
    have hjb : j < lb.length := by omega
    obtain ⟨g, o, rfl, a0, a1, a2, a3⟩ := (ha.kept hk).at j hja;obtain ⟨g', o', rfl, b0, b1, b2, b3⟩ := (hb.kept hk).at j hjb;have hst := hid (rowsV_step la lb j hja hjb)
    generalize hx : la[j] = x at *
    generalize hy : lb[j] = y at *
    have hc := cCompare x y
    obtain ⟨c, Hc⟩ : ∃ c : Int, Hid (cmpV x y = c) := ⟨_, rfl⟩
    rw [Hc.out] at hc;obtain ⟨xk, xb, xn, xt⟩ := x;obtain ⟨yk, yb, yn, yt⟩ := y;unfold Val.v at hc
    dsimp only at a0 a1 a2 a3 b0 b1 b2 b3 hc;clear hx hy;go_wp2_with fail
    go_region_held3 (fun w' => w'.cell? ⟨g, o + j * 4, none⟩ = some (.int .i64 xk) ∧ w'.cell? ⟨g, o + j * 4 + 1, none⟩ = some (.bool xb) ∧ w'.cell? ⟨g, o + j * 4 + 2, none⟩ = some (.int .i64 xn) ∧ w'.cell? ⟨g, o + j * 4 + 3, none⟩ = some (.string xt) ∧ w'.cell? ⟨g', o' + j * 4, none⟩ = some (.int .i64 yk) ∧ w'.cell? ⟨g', o' + j * 4 + 1, none⟩ = some (.bool yb) ∧ w'.cell? ⟨g', o' + j * 4 + 2, none⟩ = some (.int .i64 yn) ∧ w'.cell? ⟨g', o' + j * 4 + 3, none⟩ = some (.string yt)) (first | go_keep)
     (first | (go_at_call 136; refine (hc _).mono ?_; rintro e w1 ⟨rfl, k1⟩; have y0 := kpAt (w := wr.drew) k1 a0; have y1 := kpAt (w := wr.drew) k1 a1; have y2 := kpAt (w := wr.drew) k1 a2; have y3 := kpAt (w := wr.drew) k1 a3; have z0 := kpAt (w := wr.drew) k1 b0; have z1 := kpAt (w := wr.drew) k1 b1; have z2 := kpAt (w := wr.drew) k1 b2; have z3 := kpAt (w := wr.drew) k1 b3))
    have hkk := hk.drew.trans k1 (by simp)
    by_cases hc0 : c = 0
    ·subst hc0
     have hn : Hid (rowsV (la.drop (j + 1)) (lb.drop (j + 1)) = rowsV la lb) := by show _ = _; rw [← hr.out, hst.out, if_pos Hc.out]
     clear hst hr;go_wp2_with fail;exact ⟨⟨j + 1, by omega, by go_num, hn, hkk⟩, by simp [intOf]; omega⟩
    ·have hn : Hid (rowsV la lb = c) := by show _ = _; rw [← hr.out, hst.out, if_neg (by rw [Hc.out]; exact hc0), Hc.out]
     have hcc : (c == 0) = false := by simpa using hc0
     clear hst hr;go_wp2_with fail;go_ret;exact ⟨by rw [hn.out]; rfl, hkk⟩
   ·have he := hid (rowsV_end la lb j (by omega))
    have hn : Hid (rowsV la lb = ci la.length lb.length) := by show _ = _; rw [← hr.out, he.out]
    clear he hr;go_wp2_with fail;refine (cCmpI _ _ _).mono ?_;rintro e w1 ⟨rfl, rfl⟩;go_wp2_with fail;go_ret;exact ⟨by rw [hn.out]; rfl, hk⟩
 ·go_enter Tryz.func149, Tryz.ntmps149
  go_wp2_with fail;go_loopw [12] (fun i wn => ∃ j : Nat, j ≤ la.length ∧ i = .int .i64 j ∧ Hid (rowsV (la.drop j) (lb.drop j) = rowsV la lb) ∧ Kp [] w wn) (fun i _ => la.length - (intOf i).toNat)
  case atStart => exact ⟨0, Nat.zero_le _, rfl, rfl, Kp.refl _ _⟩
  case round =>
   obtain ⟨j, hj, rfl, hr, hk⟩ := hrel
   by_cases hjm : j < la.length
   ·have hja : j < la.length := by omega
    have hjb : j < lb.length := by omega
    obtain ⟨g, o, rfl, a0, a1, a2, a3⟩ := (ha.kept hk).at j hja;obtain ⟨g', o', rfl, b0, b1, b2, b3⟩ := (hb.kept hk).at j hjb;have hst := hid (rowsV_step la lb j hja hjb)
    generalize hx : la[j] = x at *
    generalize hy : lb[j] = y at *
    have hc := cCompare x y
    obtain ⟨c, Hc⟩ : ∃ c : Int, Hid (cmpV x y = c) := ⟨_, rfl⟩
    rw [Hc.out] at hc;obtain ⟨xk, xb, xn, xt⟩ := x;obtain ⟨yk, yb, yn, yt⟩ := y;unfold Val.v at hc
    dsimp only at a0 a1 a2 a3 b0 b1 b2 b3 hc;clear hx hy;go_wp2_with fail
    go_region_held3 (fun w' => w'.cell? ⟨g, o + j * 4, none⟩ = some (.int .i64 xk) ∧ w'.cell? ⟨g, o + j * 4 + 1, none⟩ = some (.bool xb) ∧ w'.cell? ⟨g, o + j * 4 + 2, none⟩ = some (.int .i64 xn) ∧ w'.cell? ⟨g, o + j * 4 + 3, none⟩ = some (.string xt) ∧ w'.cell? ⟨g', o' + j * 4, none⟩ = some (.int .i64 yk) ∧ w'.cell? ⟨g', o' + j * 4 + 1, none⟩ = some (.bool yb) ∧ w'.cell? ⟨g', o' + j * 4 + 2, none⟩ = some (.int .i64 yn) ∧ w'.cell? ⟨g', o' + j * 4 + 3, none⟩ = some (.string yt)) (first | go_keep)
     (first | (go_at_call 136; refine (hc _).mono ?_; rintro e w1 ⟨rfl, k1⟩; have y0 := kpAt (w := wr.drew) k1 a0; have y1 := kpAt (w := wr.drew) k1 a1; have y2 := kpAt (w := wr.drew) k1 a2; have y3 := kpAt (w := wr.drew) k1 a3; have z0 := kpAt (w := wr.drew) k1 b0; have z1 := kpAt (w := wr.drew) k1 b1; have z2 := kpAt (w := wr.drew) k1 b2; have z3 := kpAt (w := wr.drew) k1 b3))
    have hkk := hk.drew.trans k1 (by simp)
    by_cases hc0 : c = 0
    ·subst hc0
     have hn : Hid (rowsV (la.drop (j + 1)) (lb.drop (j + 1)) = rowsV la lb) := by show _ = _; rw [← hr.out, hst.out, if_pos Hc.out]
     clear hst hr;go_wp2_with fail;exact ⟨⟨j + 1, by omega, by go_num, hn, hkk⟩, by simp [intOf]; omega⟩
    ·have hn : Hid (rowsV la lb = c) := by show _ = _; rw [← hr.out, hst.out, if_neg (by rw [Hc.out]; exact hc0), Hc.out]
     have hcc : (c == 0) = false := by simpa using hc0
     clear hst hr;go_wp2_with fail;go_ret;exact ⟨by rw [hn.out]; rfl, hkk⟩
   ·have he := hid (rowsV_end la lb j (by omega))
    have hn : Hid (rowsV la lb = ci la.length lb.length) := by show _ = _; rw [← hr.out, he.out]
    clear he hr;go_wp2_with fail;refine (cCmpI _ _ _).mono ?_;rintro e w1 ⟨rfl, rfl⟩;go_wp2_with fail;go_ret;exact ⟨by rw [hn.out]; rfl, hk⟩
structure Col where
 nm : ByteArray
 k : Int
 z : Bool
def Cols (w : World) (a : Option Addr) (l : List Col) : Prop :=
 l = [] ∨ ∃ g o, a = some ⟨g, o, none⟩ ∧ ∀ j x, l[j]? = some x → w.cell? ⟨g, o + j * 3, none⟩ = some (.string x.nm) ∧ w.cell? ⟨g, o + j * 3 + 1, none⟩ = some (.int .i64 x.k) ∧ w.cell? ⟨g, o + j * 3 + 2, none⟩ = some (.bool x.z)
theorem Cols.kept {w w' : World} {a : Option Addr} {l : List Col} (h : Cols w a l) (hk : Kp [] w w') : Cols w' a l := by
 rcases h with h | ⟨g, o, rfl, hc⟩
 ·exact .inl h
 ·refine .inr ⟨g, o, rfl, fun j t ht => ?_⟩
  obtain ⟨c0, c1, c2⟩ := hc j t ht;exact ⟨kpAt hk c0, kpAt hk c1, kpAt hk c2⟩
theorem Cols.at {w : World} {a : Option Addr} {l : List Col} (h : Cols w a l) (j : Nat) (hj : j < l.length) : ∃ g o, a = some ⟨g, o, none⟩ ∧ w.cell? ⟨g, o + j * 3, none⟩ = some (.string l[j].nm) ∧ w.cell? ⟨g, o + j * 3 + 1, none⟩ = some (.int .i64 l[j].k) ∧ w.cell? ⟨g, o + j * 3 + 2, none⟩ = some (.bool l[j].z) := by
 rcases h with h | ⟨g, o, rfl, hc⟩
 ·subst h; simp at hj
 ·exact ⟨g, o, rfl, hc j l[j] (by simp)⟩
def namedV (s : ByteArray) : Bool := decide ((0 : Int) < s.size) && decide ((s.size : Int) ≤ 64)
def keptK (k : Int) : Bool := k == 1 || (k == 2 || k == 3)
def hasN (l : List Col) (nm : ByteArray) : Bool := l.any fun c => c.nm.toList == nm.toList
def colAt (l : List Col) (j : Nat) : Bool := match l[j]? with
 | some c => namedV c.nm && (keptK c.k && !hasN (l.take j) c.nm)
 | none => true
def colsV (l : List Col) : Bool := (List.range l.length).all (colAt l)
def tableV (nm : ByteArray) (l : List Col) : Int := if namedV nm && (decide (l.length ≠ 0) && (decide (l.length ≤ 8) && colsV l)) then 0 else 20
theorem cRefNamed (s : ByteArray) (w : World) : Calls Tryz.prog 69 #[.string s] w fun e w' => e = .returned (.bool (namedV s)) ∧ w' = w := by
 by_cases h : (0 : Int) < s.size
 ·go_enter Tryz.func69, Tryz.ntmps69
  go_wp2_with fail;go_ret
  exact ⟨by
    have h3 : decide ((0 : Int) < s.size) = true := by simpa using h
    unfold namedV; rw [h3]; rfl, rfl⟩
 ·have h' : s.size = 0 := by omega
  go_enter Tryz.func69, Tryz.ntmps69
  go_wp2_with fail;go_ret;exact ⟨by simp [namedV, h'], rfl⟩
structure Box2 (w : World) (q : Nat) (a b : Value) : Prop where
 c0 : w.cell? ⟨q, 0, none⟩ = some a
 c1 : w.cell? ⟨q, 1, none⟩ = some b
theorem Box2.new (w : World) (a b : Value) (t : TypeId) : Box2 (w.alloc (.cells #[a, b] t)) w.heap.size a b := ⟨World.cell?_alloc_new w _ _ 0, World.cell?_alloc_new w _ _ 1⟩
theorem Box2.lt {w : World} {q : Nat} {a b : Value} (h : Box2 w q a b) : q < w.heap.size := World.block_lt_of_cell? _ _ h.c0
theorem colAt_eq (l : List Col) (j : Nat) (h : j < l.length) : colAt l j = (namedV l[j].nm && (keptK l[j].k && !hasN (l.take j) l[j].nm)) := by
 unfold colAt; rw [List.getElem?_eq_getElem h]
theorem colsV_false (l : List Col) (j : Nat) (h : j < l.length) (hf : colAt l j = false) : colsV l = false := by
 unfold colsV
 rw [List.all_eq_false];exact ⟨j, List.mem_range.2 h, by simpa using hf⟩
theorem colsV_true (l : List Col) (h : ∀ i, i < l.length → colAt l i = true) : colsV l = true := by
 unfold colsV
 rw [List.all_eq_true];exact fun i hi => h i (List.mem_range.1 hi)
def Upto (l : List Col) (j : Nat) : Prop := ∀ i, i < j → colAt l i = true
theorem Upto.step {l : List Col} {j : Nat} (h : Upto l j) (hj : colAt l j = true) : Upto l (j + 1) := fun i hi => by
 by_cases e : i = j
 ·rw [e]; exact hj
 ·exact h i (by omega)
end Go.Proofs.YtlgfekjoknbfdaaGreatDoor
end

section
namespace Go.Hay
open Go.RowKit
structure El (α : Type) where
 n : Nat
 c : α → List Value
 len : ∀ x, (c x).length = n
 one : ∀ x, ∀ u ∈ c x, u.oneCell' = true
 pos : 0 < n
section
variable {α : Type} (E : El α)
def El.cs (l : List α) : List Value := l.flatMap E.c
theorem El.cs_cons (x : α) (l : List α) : E.cs (x :: l) = E.c x ++ E.cs l := rfl
theorem El.cs_append (a b : List α) : E.cs (a ++ b) = E.cs a ++ E.cs b := by simp [El.cs]
theorem El.cs_length (l : List α) : (E.cs l).length = l.length * E.n := by
 induction l with
 | nil => simp [El.cs]
 | cons x l ih => rw [El.cs_cons, List.length_append, E.len, ih, List.length_cons, Nat.succ_mul]; omega
theorem El.cs_one (l : List α) : ∀ u ∈ E.cs l, u.oneCell' = true := by
 intro u hu
 obtain ⟨x, _, hx⟩ := List.mem_flatMap.1 hu;exact E.one x u hx
theorem El.cs_drop (l : List α) : ∀ i, E.cs (l.drop i) = (E.cs l).drop (i * E.n) := by
 induction l with
 | nil => intro i; simp [El.cs]
 | cons x l ih =>
  intro i
  cases i with
  | zero => simp
  | succ i =>
   rw [List.drop_succ_cons, ih i, El.cs_cons, Nat.succ_mul, Nat.add_comm, ← List.drop_drop, List.drop_left' (E.len x)]
theorem El.cs_take (l : List α) : ∀ i, E.cs (l.take i) = (E.cs l).take (i * E.n) := by
 induction l with
 | nil => intro i; simp [El.cs]
 | cons x l ih =>
  intro i
  cases i with
  | zero => simp [El.cs]
  | succ i =>
   rw [List.take_succ_cons, El.cs_cons, ih i, El.cs_cons, Nat.succ_mul, Nat.add_comm, List.take_append, E.len, List.take_of_length_le (l := E.c x) (by rw [E.len]; omega), Nat.add_sub_cancel_left]
theorem El.cs_get {l : List α} {j k : Nat} {x : α} (h : l[j]? = some x) (hk : k < E.n) : (E.cs l)[j * E.n + k]? = (E.c x)[k]? := by
 have e := El.cs_drop E l j
 have hl : l.drop j = x :: l.drop (j + 1) := by
  obtain ⟨h1, rfl⟩ := List.getElem?_eq_some_iff.1 h;exact List.drop_eq_getElem_cons h1
 rw [hl, El.cs_cons] at e;have : (E.cs l)[j * E.n + k]? = ((E.cs l).drop (j * E.n))[k]? := by rw [List.getElem?_drop]
 rw [this, ← e, List.getElem?_append_left (by rw [E.len]; exact hk)]
def El.See (w : World) (a : Option Addr) (l : List α) : Prop :=
 l = [] ∨ ∃ g o, a = some ⟨g, o, none⟩ ∧ ∀ j u, (E.cs l)[j]? = some u → w.cell? ⟨g, o + j, none⟩ = some u
variable {E}
theorem El.See.kept {w w' : World} {a : Option Addr} {l : List α} {S : List Nat} (h : E.See w a l) (hk : Kp S w w') (hn : l ≠ [] → ∀ k ∈ blk a, k ∉ S) : E.See w' a l := by
 rcases h with rfl | ⟨g, o, rfl, hc⟩
 ·exact .inl rfl
 ·by_cases hl : l = []
  ·exact .inl hl
  ·exact .inr ⟨g, o, rfl, fun j u hu => (hk.cell (World.block_lt_of_cell? _ _ (hc j u hu)) (hn hl g (by simp [blk]))).trans (hc j u hu)⟩
theorem El.See.keptNew {w w' : World} {a : Option Addr} {l : List α} (h : E.See w a l) (hk : Kp [] w w') : E.See w' a l := h.kept hk (by simp)
theorem El.See.at {w : World} {a : Option Addr} {l : List α} (h : E.See w a l) {j : Nat} {x : α} (hx : l[j]? = some x) : ∃ g o, a = some ⟨g, o, none⟩ ∧ ∀ k u, (E.c x)[k]? = some u → w.cell? ⟨g, o + j * E.n + k, none⟩ = some u := by
 rcases h with rfl | ⟨g, o, rfl, hc⟩
 ·simp at hx
 ·refine ⟨g, o, rfl, fun k u hu => ?_⟩
  have hk : k < E.n := by have := (List.getElem?_eq_some_iff.1 hu).1; rwa [E.len] at this
  rw [Nat.add_assoc];exact hc _ _ ((El.cs_get E hx hk).trans hu)
theorem El.See.src {P : Program} {w : World} {a : Option Addr} {l : List α} (h : E.See w a l) {t e : TypeId} (ht : P.underlying t = some (.slice e)) (c : Nat) : Src P E.n t (.slice a l.length c) l.length (E.cs l) w := by
 rcases h with rfl | ⟨g, o, rfl, hc⟩
 ·cases a with
  | none => exact Src.ofNil w ht c
  | some ad => exact Src.ofSlice w ht ad 0 c [] (by simp) (by intro j u hu; simp at hu) (by intro u hu; simp at hu)
 ·exact Src.ofSlice w ht ⟨g, o, none⟩ l.length c (E.cs l) (El.cs_length E l) (fun j u hu => by rw [Addr.add_lit]; exact hc j u hu) (El.cs_one E l)
theorem El.See.front {w : World} {a : Option Addr} {l : List α} (h : E.See w a l) (i : Nat) : E.See w a (l.take i) := by
 rcases h with rfl | ⟨g, o, rfl, hc⟩
 ·exact .inl (by simp)
 ·refine .inr ⟨g, o, rfl, fun j u hu => ?_⟩
  rw [El.cs_take, List.getElem?_take] at hu;split at hu
  ·exact hc j u hu
  ·cases hu
variable (E)
def El.Row (w : World) (v : Value) (l : List α) : Prop :=
 (v = .slice none 0 0 ∧ l = []) ∨ ∃ g o cap, v = .slice (some ⟨g, o, none⟩) l.length cap ∧ l.length ≤ cap ∧ cap ≤ maxLen ∧ g < w.heap.size ∧
  (∀ j u, (E.cs l)[j]? = some u → w.cell? ⟨g, o + j, none⟩ = some u) ∧ ∀ j, j < cap * E.n → (w.cell? ⟨g, o + j, none⟩).isSome = true ∧ w.frozen? ⟨g, o + j, none⟩ = false
variable {E}
theorem El.Row.lt {w : World} {v : Value} {l : List α} (h : E.Row w v l) : ∀ k ∈ own v, k < w.heap.size := by
 rcases h with ⟨rfl, _⟩ | ⟨g, o, cap, rfl, _, _, hg, _⟩
 ·intro k hk; simp [own, Value.ownBlock] at hk
 ·intro k hk; simp [own, Value.ownBlock] at hk; omega
theorem El.Row.see {w : World} {v : Value} {l : List α} (h : E.Row w v l) : ∃ a c, v = .slice a l.length c ∧ E.See w a l ∧ (a = none → l = [] ∧ c = 0) ∧ l.length ≤ c ∧ c ≤ maxLen ∧ own v = blk a := by
 rcases h with ⟨rfl, rfl⟩ | ⟨g, o, cap, rfl, hl, hm, hg, hc, ht⟩
 ·exact ⟨none, 0, rfl, .inl rfl, fun _ => ⟨rfl, rfl⟩, Nat.le_refl _, Nat.zero_le _, rfl⟩
 ·exact ⟨_, _, rfl, .inr ⟨g, o, rfl, hc⟩, fun h => (by cases h), hl, hm, rfl⟩
theorem El.Row.kept {w w' : World} {v : Value} {l : List α} {S : List Nat} (h : E.Row w v l) (hk : Kp S w w') (hn : ∀ k ∈ own v, k ∉ S) : E.Row w' v l := by
 rcases h with h | ⟨g, o, cap, rfl, hl, hm, hg, hc, ht⟩
 ·exact .inl h
 ·have hgS : g ∉ S := hn g (by simp [own, Value.ownBlock])
  have e1 : ∀ j, w'.cell? ⟨g, o + j, none⟩ = w.cell? ⟨g, o + j, none⟩ := fun j => hk.cell (p := ⟨g, o + j, none⟩) hg hgS
  have e2 : ∀ j, w'.frozen? ⟨g, o + j, none⟩ = w.frozen? ⟨g, o + j, none⟩ := fun j => hk.frozen (p := ⟨g, o + j, none⟩) hg hgS
  exact .inr ⟨g, o, cap, rfl, hl, hm, Nat.lt_of_lt_of_le hg hk.size, fun j u hu => (e1 j).trans (hc j u hu), fun j hj => by rw [e1, e2]; exact ht j hj⟩
theorem El.Row.keptNew {w w' : World} {v : Value} {l : List α} (h : E.Row w v l) (hk : Kp [] w w') : E.Row w' v l := h.kept hk (by simp)
theorem grown_cellsG (w : World) (g : Nat) (xs : List Value) (z : Array Value) (h : g = w.heap.size) (t : TypeId) : ∀ j u, xs[j]? = some u → (w.alloc (.cells (xs.toArray ++ z) t)).cell? ⟨g, 0 + j, none⟩ = some u := by
 subst h;intro j u hu
 have hj : j < xs.length := (List.getElem?_eq_some_iff.1 hu).1
 have e1 : (w.alloc (.cells (xs.toArray ++ z) t)).cell? ⟨w.heap.size, 0 + j, none⟩ = _ := World.cell?_alloc_new w _ _ (0 + j)
 rw [e1, Nat.zero_add, Array.getElem?_append_left (by simp only [List.size_toArray]; exact hj), List.getElem?_toArray, hu]
theorem run_appendG {P : Program} (w : World) (t tx ty e : TypeId) (i : TypeInfo) (z : Value) (bytes : Nat) (ht : P.underlying t = some (.slice e)) (hi : P.info? e = some i) (hz : i.zero = some z) (hsize : i.size = E.n) (hby : i.bytes = bytes) (hzs : z.cells.size = E.n)
  (v : Value) (xs : List α) (hown : E.Row w v xs) (x : Value) (bs : List α) (hs : Src P E.n tx x bs.length (E.cs bs) w) (hb : (xs.length + bs.length + (xs.length + bs.length) / 4 + 192) * bytes ≤ 281474976710656) (h63 : xs.length + bs.length ≤ 100000000000000) :
  ∃ v' w', (Builtin.append_ #[t, tx] ty #[v, x]).run P w = .ok v' w' ∧ E.Row w' v' (xs ++ bs) ∧ Kp (own v) w w' ∧ ∀ k ∈ own v', k ∈ own v ∨ w.heap.size ≤ k := by
 have hs' := hs
 rw [← hsize] at hs'
 have grow : ∀ (ao : Option Addr) (cap : Nat), v = .slice ao xs.length cap → cap < xs.length + bs.length → (Builtin.firstCells i.size xs.length (.slice ao xs.length cap)).run P w.drew = .ok (E.cs xs).toArray w.drew →
   ∃ v' w', (Builtin.append_ #[t, tx] ty #[v, x]).run P w = .ok v' w' ∧ E.Row w' v' (xs ++ bs) ∧ Kp (own v) w w' ∧ ∀ k ∈ own v', k ∈ own v ∨ w.heap.size ≤ k := by
  rintro ao cap rfl hlt hold;have hrun := run_append_grow_src (P := P) w t tx ty e i z ht hi hz ao xs.length cap (E.cs xs) hold x bs.length (E.cs bs) hs' hlt (by omega) (growslice_fits_wide hlt (by rw [hby]; exact hb))
  have hge := grownCap_ge w (xs.length + bs.length) cap e
  have hcm := grownCap_le_maxLen w (xs.length + bs.length) cap e (by unfold maxLen; omega)
  rw [← El.cs_append] at hrun;refine ⟨_, _, hrun, .inr ⟨w.heap.size, 0, _, by rw [List.length_append], by rw [List.length_append]; omega, hcm, by simp, ?_, ?_⟩, (Kp.refl _ w).drew.alloc _, ?_⟩
  ·exact grown_cellsG w.drew _ (E.cs (xs ++ bs)) _ rfl _
  ·intro j hj
   refine ⟨?_, World.frozen?_alloc_new w.drew _ _ (0 + j)⟩;have e1 := World.cell?_alloc_new w.drew ((E.cs (xs ++ bs)).toArray ++ Builtin.zeroCells z.cells (grownCap w (xs.length + bs.length) cap e - (xs.length + bs.length))) e (0 + j)
   have hsz : ((E.cs (xs ++ bs)).toArray ++ Builtin.zeroCells z.cells (grownCap w (xs.length + bs.length) cap e - (xs.length + bs.length))).size = grownCap w (xs.length + bs.length) cap e * E.n := by
    rw [Array.size_append, List.size_toArray, El.cs_length, List.length_append, size_zeroCells, hzs, ← Nat.add_mul];congr 1
    omega
   refine (congrArg Option.isSome e1).trans ?_;rw [Nat.zero_add, Array.getElem?_eq_getElem (by rw [hsz]; exact hj)]
   rfl
  ·intro k hk
   simp [own, Value.ownBlock] at hk
   omega
 rcases hown with ⟨rfl, rfl⟩ | ⟨g, o, cap, rfl, hl, hm, hg, hc, ht'⟩
 ·rcases Nat.eq_zero_or_pos bs.length with h0 | h0
  ·obtain rfl : bs = [] := List.length_eq_zero_iff.1 h0
   exact ⟨_, _, run_append_nothing (P := P) w t tx ty e i ht hi none 0 0 (Nat.le_refl _) x hs', .inl ⟨rfl, rfl⟩, Kp.refl _ _, fun _ h => .inl h⟩
  ·exact grow none 0 rfl (by simpa using h0) (run_firstCells_none w.drew i.size 0 0 0)
 ·by_cases hroom : xs.length + bs.length ≤ cap
  ·have hmul : (xs.length + bs.length) * E.n ≤ cap * E.n := Nat.mul_le_mul_right _ hroom
   rw [Nat.add_mul] at hmul
   have hsome : ∀ j, j < (E.cs bs).length → (w.cell? ⟨g, o + xs.length * i.size + j, none⟩).isSome = true := fun j hj => by
    rw [El.cs_length] at hj; rw [hsize, Nat.add_assoc]; exact (ht' _ (by omega)).1
   have hrun := run_append_room_src (P := P) w t tx ty e i ht hi g o xs.length cap x bs.length (E.cs bs) hs' hroom hsome
    (fun j hj => by rw [El.cs_length] at hj; rw [hsize, Nat.add_assoc]; exact (ht' _ (by omega)).2)
   rw [hsize] at hsome;rw [hsize] at hrun;refine ⟨_, _, hrun, .inr ⟨g, o, cap, by rw [List.length_append], by rw [List.length_append]; omega, hm, by rw [size_setCells]; exact hg, ?_, ?_⟩, (Kp.refl _ w).setCells (by simp [own, Value.ownBlock]) _ _, fun k hk => .inl hk⟩
   ·intro j u hu
    rw [El.cs_append] at hu
    by_cases hj : j < (E.cs xs).length
    ·rw [World.cell?_setCells_out g _ _ _ _ (fun _ _ => Or.inl (by show o + j < o + xs.length * E.n; rw [El.cs_length] at hj; omega))]
     rw [List.getElem?_append_left hj] at hu;exact hc j u hu
    ·rw [List.getElem?_append_right (by omega)] at hu
     have hj2 : j - (E.cs xs).length < (E.cs bs).length := (List.getElem?_eq_some_iff.1 hu).1
     have := World.cell?_setCells_in g (E.cs bs) (o + xs.length * E.n) w hsome (j - (E.cs xs).length) hj2
     rw [← List.getElem?_eq_getElem hj2, hu] at this;rw [El.cs_length] at hj this;rw [show o + xs.length * E.n + (j - xs.length * E.n) = o + j by omega] at this
     exact this
   ·intro j hj
    refine ⟨?_, (World.frozen?_setCells g _ _ _ _).trans (ht' j hj).2⟩
    by_cases hin : xs.length * E.n ≤ j ∧ j < xs.length * E.n + (E.cs bs).length
    ·have := World.cell?_setCells_in g (E.cs bs) (o + xs.length * E.n) w hsome (j - xs.length * E.n) (by omega)
     rw [show o + xs.length * E.n + (j - xs.length * E.n) = o + j by omega] at this
     rw [this]; rfl
    ·rw [World.cell?_setCells_out g _ _ _ _ (fun _ _ => by show o + j < o + xs.length * E.n ∨ o + xs.length * E.n + (E.cs bs).length ≤ o + j; omega)]
     exact (ht' j hj).1
  ·refine grow (some ⟨g, o, none⟩) cap rfl (by omega) ?_
   exact run_firstCells_some w.drew i.size xs.length ⟨g, o, none⟩ xs.length cap (E.cs xs) (by rw [El.cs_length, hsize]) (fun j u hu => by rw [Addr.add_lit]; exact hc j u hu)
theorem wpAppG {P : Program} {w : World} {ops : Array Oper} {rest : List Oper} {o : Oper} {a : Act} {Q : Exit → Act → World → Prop} (hgd : o.guard = none) (s x : Operand) (t tx e : TypeId)
  (ho : o.op = .call { callee := .builtin .append, args := #[s, x], argTypes := #[t, tx] })
  (i : TypeInfo) (z : Value) (bytes : Nat) (ht : P.underlying t = some (.slice e)) (hi : P.info? e = some i) (hz : i.zero = some z) (hsize : i.size = E.n) (hby : i.bytes = bytes) (hzs : z.cells.size = E.n)
  (v : Value) (xs : List α) (hv : a.eval s = v) (hown : E.Row w v xs) (xv : Value) (bs : List α) (hx : a.eval x = xv) (hs : Src P E.n tx xv bs.length (E.cs bs) w) (hb : (xs.length + bs.length + (xs.length + bs.length) / 4 + 192) * bytes ≤ 281474976710656) (h63 : xs.length + bs.length ≤ 100000000000000)
  (hK : ∀ l' a' c' w', Hid (l' = xs ++ bs) → E.Row w' (.slice a' l'.length c') l' → Kp (own v) w w' → (∀ k ∈ blk a', k ∈ own v ∨ w.heap.size ≤ k) → wpList P ops Q rest (a.put o.dst (.slice a' l'.length c')) w') : wpList P ops Q (o :: rest) a w := by
 refine wpList_plain hgd fun K hK' => ?_
 obtain ⟨v', w', hrun, h1, h2, h3⟩ := run_appendG (P := P) w t tx o.type e i z bytes ht hi hz hsize hby hzs v xs hown xv bs hs hb h63;obtain ⟨l', hl'⟩ : ∃ l', l' = xs ++ bs := ⟨_, rfl⟩
 rw [← hl'] at h1;obtain ⟨a', c', rfl, _, _, _, _, eo⟩ := h1.see;have hfin := hK' _ _ (hK l' a' c' w' hl' h1 h2 (fun k hk => h3 k (by rw [eo]; exact hk)))
 unfold Oper.wp
 simp [execOp, ho, resolve, invoke, builtin, hv, hx, hrun, Result.andThen]
 exact hfin
end
theorem stepAppRun {P : Program} {w w' : World} {ops : Array Oper} {o : Oper} {a : Act} {K : Act → World → Prop} {Q : Exit → Act → World → Prop} {E : Prop} (hgd : o.guard = none) (s x : Operand) (t tx : TypeId)
  (ho : o.op = .call { callee := .builtin .append, args := #[s, x], argTypes := #[t, tx] }) (v xv v' : Value) (hv : a.eval s = v) (hx : a.eval x = xv)
  (hrun : (Builtin.append_ #[t, tx] o.type #[v, xv]).run P w = .ok v' w') (h : K (a.put o.dst v') w') : if Region.wanted o (yielded ops a.tmps) = true then Oper.wp P o a w K Q else E := by
 have hw : Region.wanted o (yielded ops a.tmps) = true := by simp [Region.wanted, hgd]
 rw [if_pos hw];unfold Oper.wp execOp
 simp only [ho, resolve, invoke, builtin, Sem.run_bind, Sem.run_pure, Result.andThen_ok, List.map_toArray, List.map_cons, List.map_nil, hv, hx, hrun];exact h
theorem stepCpyRun {P : Program} {w w' : World} {ops : Array Oper} {o : Oper} {a : Act} {K : Act → World → Prop} {Q : Exit → Act → World → Prop} {E : Prop} (hgd : o.guard = none) (s x : Operand) (t tx : TypeId)
  (ho : o.op = .call { callee := .builtin .copy, args := #[s, x], argTypes := #[t, tx] }) (v xv v' : Value) (hv : a.eval s = v) (hx : a.eval x = xv)
  (hrun : (Builtin.copy_ #[t, tx] o.type #[v, xv]).run P w = .ok v' w') (h : K (a.put o.dst v') w') : if Region.wanted o (yielded ops a.tmps) = true then Oper.wp P o a w K Q else E := by
 have hw : Region.wanted o (yielded ops a.tmps) = true := by simp [Region.wanted, hgd]
 rw [if_pos hw];unfold Oper.wp execOp
 simp only [ho, resolve, invoke, builtin, Sem.run_bind, Sem.run_pure, Result.andThen_ok, List.map_toArray, List.map_cons, List.map_nil, hv, hx, hrun];exact h
end Go.Hay
end

section
namespace Go.Hay
end Go.Hay
end

section
namespace Go.Hay
end Go.Hay
end

section
namespace Go.Proofs.YtlgfekjoknbfdaaGreatDoor
open Go.ChangeShapes Go.WideShapes Go.ChangeAt Go.RowKit Go.Hay
theorem Tryz.own : ownKnob Tryz.prog.godebug = none := by kernel_rfl
theorem Tryz.laidOut : laidOutB Tryz.prog = true := by kernel_rfl
def capD {H : Type} : DataW H → Nat
 | .slice e sp => e.length + sp.length
 | _ => 0
theorem bulk_pos {H : Type} (d : DataW H) : 1 ≤ Rows.uptoBulk d := by
 cases d with
 | lit l => cases l <;> simp [Rows.uptoBulk]
 | _ => simp [Rows.uptoBulk]
theorem bulkAll_ge {H : Type} (l : List (DataW H)) : l.length ≤ Rows.uptoBulkAll l := by
 induction l with
 | nil => simp
 | cons d l ih => have := bulk_pos d; simp only [Rows.uptoBulkAll, List.length_cons]; omega
theorem bulk_cap {H : Type} (d : DataW H) : capD d + 1 ≤ Rows.uptoBulk d := by
 cases d with
 | slice e sp => have := bulkAll_ge e; have := bulkAll_ge sp; simp only [capD, Rows.uptoBulk]; omega
 | lit l => cases l <;> simp [capD, Rows.uptoBulk]
 | _ => simp [capD, Rows.uptoBulk]
theorem bulkAll_map {H : Type} (n : Nat) (D : Nat → DataW H) (f : Nat → Nat) (h : ∀ i, i < n → f i ≤ Rows.uptoBulk (D i)) : ((List.range n).map f).sum ≤ Rows.uptoBulkAll ((List.range n).map D) := by
 have gen : ∀ l : List Nat, (∀ i ∈ l, f i ≤ Rows.uptoBulk (D i)) → (l.map f).sum ≤ Rows.uptoBulkAll (l.map D) := by
  intro l
  induction l with
  | nil => intro _; simp
  | cons i l ih =>
   intro hl
   have h1 := hl i (by simp)
   have h2 := ih (fun j hj => hl j (by simp [hj]))
   simp only [List.map_cons, List.sum_cons, Rows.uptoBulkAll];omega
 exact gen _ (fun i hi => h i (List.mem_range.1 hi))
theorem mem_weightsAll {H : Type} {P : Program} {e : TypeId} {l : List (DataW H)} {d : DataW H} (hd : d ∈ l) {x : Nat} (hx : x ∈ d.weights P e) : x ∈ DataW.weightsAll P e l := by
 induction l with
 | nil => cases hd
 | cons y l ih =>
  rw [DataW.weightsAll, List.mem_append]
  rcases List.mem_cons.1 hd with rfl | h
  ·exact .inl hx
  ·exact .inr (ih h)
def Fit {H : Type} (t : TypeId) (d : DataW H) : Prop := (DataW.weights Tryz.prog t d).all (· ≤ reachBytes) = true
theorem openEls {α : Type} [Inhabited α] (E : El α) {t e : TypeId} (ht : Tryz.prog.underlying t = some (.slice e)) (hcells : Tryz.prog.cellsOf e = E.n) (B : Nat) (hB : Tryz.prog.bytesOf e = B)
  {H : Type} {enc : TypeId × Value → H} {W : World} (ok : α → Prop) (Q : α → Prop) (bk : α → Nat)
  (op : ∀ fuel cs x, DataW.trod enc Tryz.prog W 0 (fun _ => true) true fuel e cs = some x → cs.length = E.n → ∃ y : α, ok y ∧ cs = E.c y ∧ (Fit e x.1 → Q y) ∧ bk y ≤ Rows.uptoBulk x.1)
  {a : Option Addr} {len cap : Nat} {d : DataW H} {ps : List MemPlace} (h : DataW.Trod enc Tryz.prog W 0 (fun _ => true) true t (.slice a len cap) d ps) :
  ∃ l : List α, len = l.length ∧ E.See W a l ∧ (∀ y ∈ l, ok y) ∧ l.length ≤ cap ∧ cap ≤ maxLen ∧ (a = none → cap = 0) ∧ (Fit t d → cap * B ≤ 140737488351232 ∧ ∀ y ∈ l, Q y) ∧ (l.map bk).sum ≤ Rows.uptoBulk d ∧ cap + 1 ≤ Rows.uptoBulk d := by
 obtain ⟨fuel, hf⟩ := h
 rcases Go.Deep.open_slice ht hf with ⟨hcs, hx⟩ | ⟨x, len', cap', m, n, D, Pl, hcs, _, hl, hmx, hm, hx, hcell⟩
 ·simp [Value.cells] at hcs
  obtain ⟨rfl, rfl, rfl⟩ := hcs
  cases hx
  exact ⟨[], rfl, .inl rfl, by simp, Nat.le_refl _, Nat.zero_le _, fun _ => rfl, fun _ => ⟨by omega, by simp⟩, by simp, by simp [Rows.uptoBulk]⟩
 ·simp [Value.cells] at hcs
  obtain ⟨rfl, rfl, rfl⟩ := hcs
  cases hx
  have hm' : m = cap := by simpa using hm
  subst hm';rw [hcells] at hcell
  obtain ⟨Y, hY⟩ := Go.Deep.choose_lt (α := α) (n := len) (p := fun i y => ok y ∧ (∀ k u, (E.c y)[k]? = some u → W.cell? ((x.add (i * E.n)).add k) = some u) ∧ (Fit e (D i) → Q y) ∧ bk y ≤ Rows.uptoBulk (D i)) (fun i hi => by
   obtain ⟨cs', h1, h2⟩ := hcell i (by omega)
   obtain ⟨_, hlen, hc⟩ := World.cells?_some h1;obtain ⟨y, g1, rfl, g2, g3⟩ := op _ _ _ h2 hlen;refine ⟨y, g1, fun k u hu => ?_, g2, g3⟩
   have hk : k < E.n := by have := (List.getElem?_eq_some_iff.1 hu).1; rwa [E.len] at this
   exact (hc k hk).trans hu)
  refine ⟨(List.range len).map Y, by simp, ?_, ?_, by simpa using hl, hmx, fun h => (by cases h), fun hfit => ?_, ?_, ?_⟩
  ·cases hlen : len with
   | zero => exact .inl rfl
   | succ k =>
    obtain ⟨b, off, spot⟩ := x;have h0 : 0 < (E.c (Y 0)).length := by rw [E.len]; exact E.pos
    have hc0 := (hY 0 (by omega)).2.1 0 _ (List.getElem?_eq_getElem h0)
    have hspot : spot = none := by
     have := World.cell?_spot hc0
     simpa [Addr.add] using this
    subst hspot;refine .inr ⟨b, off, rfl, fun j u hu => ?_⟩
    rw [← hlen] at hu;have hj : j < ((List.range len).map Y).length * E.n := by have := (List.getElem?_eq_some_iff.1 hu).1; rwa [El.cs_length] at this
    have hpos := E.pos
    have hq : j / E.n < len := by
     rw [List.length_map, List.length_range] at hj;exact Nat.div_lt_of_lt_mul (by rw [Nat.mul_comm]; exact hj)
    have hr : j % E.n < E.n := Nat.mod_lt _ hpos
    have hje : j = j / E.n * E.n + j % E.n := by rw [Nat.mul_comm]; exact (Nat.div_add_mod j E.n).symm
    have hget : ((List.range len).map Y)[j / E.n]? = some (Y (j / E.n)) := by rw [List.getElem?_map, List.getElem?_range hq]; rfl
    rw [hje, El.cs_get E hget hr] at hu;have hcc := (hY _ hq).2.1 _ _ hu
    rw [Addr.add_lit, Addr.add_lit, Nat.add_assoc, ← hje] at hcc;exact hcc
  ·intro y hy
   obtain ⟨i, hi, rfl⟩ := List.mem_map.1 hy;exact (hY i (List.mem_range.1 hi)).1
  ·unfold Fit at hfit
   simp only [DataW.weights, ht] at hfit;rw [List.all_cons, Bool.and_eq_true] at hfit;refine ⟨?_, fun y hy => ?_⟩
   ·have := of_decide_eq_true hfit.1
    simp only [List.length_map, List.length_range, hB, reachBytes] at this;rwa [show len + (m - len) = m by omega] at this
   ·obtain ⟨i, hi, rfl⟩ := List.mem_map.1 hy
    refine (hY i (List.mem_range.1 hi)).2.2.1 (List.all_eq_true.2 fun x hx => List.all_eq_true.1 hfit.2 x ?_)
    rw [List.mem_append];exact .inl (mem_weightsAll (List.mem_map_of_mem hi) hx)
  ·have := bulkAll_map len D (fun i => bk (Y i)) (fun i hi => (hY i hi).2.2.2)
   simp only [List.map_map, Rows.uptoBulk];have e : (List.range len).map (bk ∘ Y) = (List.range len).map (fun i => bk (Y i)) := rfl
   rw [e];omega
  ·have := bulk_cap (.slice ((List.range len).map D) ((List.range (m - len)).map fun j => D (len + j)) : DataW H)
   simp only [capD, List.length_map, List.length_range] at this;omega
structure Bs where
 a : Option Addr
 c : Nat
 bs : List UInt8
structure Bs.ok (w : World) (x : Bs) : Prop where
 see : Sees w x.a x.bs
 cap : x.bs.length ≤ x.c
 nil : x.a = none → x.c = 0
instance : Inhabited Bs := ⟨⟨none, 0, []⟩⟩
section
variable {H : Type} {enc : TypeId × Value → H} {W : World}
end
end Go.Proofs.YtlgfekjoknbfdaaGreatDoor
end

section
namespace Go.Proofs.YtlgfekjoknbfdaaGreatDoor
open Go.RowKit Go.Hay
structure Bn (w : World) (q : Nat) (cs : List Value) : Prop where
 get : ∀ i u, cs[i]? = some u → w.cell? ⟨q, i, none⟩ = some u
 free : ∀ i, w.frozen? ⟨q, i, none⟩ = false
theorem Bn.new (w : World) (cs : List Value) (t : TypeId) : Bn (w.alloc (.cells cs.toArray t)) w.heap.size cs :=
 ⟨fun i u hu => by
  have e : (w.alloc (.cells cs.toArray t)).cell? ⟨w.heap.size, i, none⟩ = _ := World.cell?_alloc_new w _ _ i
  rw [e]; simpa using hu, fun i => World.frozen?_alloc_new w _ _ i⟩
theorem Bn.lt {w : World} {q : Nat} {cs : List Value} (h : Bn w q cs) (hn : 0 < cs.length) : q < w.heap.size := World.block_lt_of_cell? _ _ (h.get 0 cs[0] (by simp [hn]))
theorem Bn.keptS {w w' : World} {S : List Nat} {q : Nat} {cs : List Value} (h : Bn w q cs) (hk : Kp S w w') (hq : q ∉ S) (hl : q < w.heap.size) : Bn w' q cs :=
 ⟨fun i u hu => (hk.cell (p := ⟨q, i, none⟩) hl hq).trans (h.get i u hu), fun i => (hk.frozen (p := ⟨q, i, none⟩) hl hq).trans (h.free i)⟩
theorem Bn.kept {w w' : World} {q : Nat} {c : Value} {cs : List Value} (h : Bn w q (c :: cs)) (hk : Kp [] w w') : Bn w' q (c :: cs) := h.keptS hk (by simp) (h.lt (by simp))
theorem Bn.set {w : World} {q : Nat} {cs : List Value} (h : Bn w q cs) (i : Nat) (hi : i < cs.length) (v : Value) : Bn (w.setCell ⟨q, i, none⟩ v) q (cs.set i v) :=
 ⟨fun j u hu => by
  by_cases e : j = i
  ·subst e
   rw [List.getElem?_set_self hi] at hu
   cases hu
   exact World.cell?_setCell_same _ _ _ (h.get j cs[j] (by simp [hi]))
  ·rw [List.getElem?_set_ne (fun h => e h.symm)] at hu
   rw [World.cell?_setCell_other _ _ _ _ (by intro h; simp only [Addr.mk.injEq] at h; omega)]
   exact h.get j u hu, fun j => by rw [World.frozen?_setCell]; exact h.free j⟩
def IntE : El Int where
 n := 1
 c x := [.int .i64 x]
 len _ := rfl
 one _ u hu := by simp at hu; subst hu; rfl
 pos := by decide
theorem intAt {w : World} {a : Option Addr} {l : List Int} (h : IntE.See w a l) (j : Nat) (hj : j < l.length) : ∃ g o, a = some ⟨g, o, none⟩ ∧ w.cell? ⟨g, o + j, none⟩ = some (.int .i64 l[j]) := by
 obtain ⟨g, o, e, hc⟩ := h.at (j := j) (x := l[j]) (by simp [hj])
 refine ⟨g, o, e, ?_⟩;have := hc 0 _ rfl
 simpa [IntE] using this
structure Tb where
 nm : ByteArray
 a : Option Addr
 c : Nat
 l : List Col
structure Tb.ok (w : World) (t : Tb) : Prop where
 cols : Cols w t.a t.l
 cap : t.l.length ≤ t.c
 max : t.c ≤ 9223372036854775807
theorem Tb.ok.kept {w w' : World} {t : Tb} (h : t.ok w) (k : Kp [] w w') : t.ok w' := ⟨h.cols.kept k, h.cap, h.max⟩
structure Pj where
 nm : ByteArray
 tb : Int
 ca : Option Addr
 cc : Nat
 cl : List Int
 sa : Option Addr
 sc : Nat
 sl : List Int
 by_ : Int
 sh : Int
structure Pj.ok (w : World) (p : Pj) : Prop where
 cols : IntE.See w p.ca p.cl
 sort : IntE.See w p.sa p.sl
 ccap : p.cl.length ≤ p.cc
 scap : p.sl.length ≤ p.sc
 cmax : p.cc ≤ 9223372036854775807
 smax : p.sc ≤ 9223372036854775807
theorem Pj.ok.kept {w w' : World} {p : Pj} (h : p.ok w) (k : Kp [] w w') : p.ok w' := ⟨h.cols.keptNew k, h.sort.keptNew k, h.ccap, h.scap, h.cmax, h.smax⟩
instance : Inhabited Tb := ⟨⟨default, none, 0, []⟩⟩
instance : Inhabited Pj := ⟨⟨default, 0, none, 0, [], none, 0, [], 0, 0⟩⟩
def TbE : El Tb where
 n := 2
 c t := [.string t.nm, .slice t.a t.l.length t.c]
 len _ := rfl
 one _ u hu := by simp at hu; rcases hu with rfl | rfl <;> rfl
 pos := by decide
def PjE : El Pj where
 n := 6
 c p := [.string p.nm, .int .i64 p.tb, .slice p.ca p.cl.length p.cc, .slice p.sa p.sl.length p.sc, .int .i64 p.by_, .int .i64 p.sh]
 len _ := rfl
 one _ u hu := by simp at hu; rcases hu with rfl | rfl | rfl | rfl | rfl | rfl <;> rfl
 pos := by decide
theorem tbAt {w : World} {a : Option Addr} {l : List Tb} (h : TbE.See w a l) {j : Nat} {t : Tb} (hx : l[j]? = some t) : ∃ g f, a = some ⟨g, f, none⟩ ∧ w.cell? ⟨g, f + j * 2, none⟩ = some (.string t.nm) ∧ w.cell? ⟨g, f + j * 2 + 1, none⟩ = some (.slice t.a t.l.length t.c) := by
 obtain ⟨g, f, rfl, hc⟩ := h.at hx;exact ⟨g, f, rfl, hc 0 _ rfl, hc 1 _ rfl⟩
theorem pjAt {w : World} {a : Option Addr} {l : List Pj} (h : PjE.See w a l) {j : Nat} {p : Pj} (hx : l[j]? = some p) : ∃ g f, a = some ⟨g, f, none⟩ ∧ w.cell? ⟨g, f + j * 6, none⟩ = some (.string p.nm) ∧ w.cell? ⟨g, f + j * 6 + 1, none⟩ = some (.int .i64 p.tb) ∧ w.cell? ⟨g, f + j * 6 + 2, none⟩ = some (.slice p.ca p.cl.length p.cc) ∧ w.cell? ⟨g, f + j * 6 + 3, none⟩ = some (.slice p.sa p.sl.length p.sc) ∧ w.cell? ⟨g, f + j * 6 + 4, none⟩ = some (.int .i64 p.by_) ∧ w.cell? ⟨g, f + j * 6 + 5, none⟩ = some (.int .i64 p.sh) := by
 obtain ⟨g, f, rfl, hc⟩ := h.at hx;exact ⟨g, f, rfl, hc 0 _ rfl, hc 1 _ rfl, hc 2 _ rfl, hc 3 _ rfl, hc 4 _ rfl, hc 5 _ rfl⟩
structure Cg where
 n : Int
 s : Int
 k : Int
 ta : Option Addr
 tc : Nat
 tl : List Tb
 pa : Option Addr
 pc : Nat
 pl : List Pj
def Tb.v (t : Tb) : Value := .agg #[.string t.nm, .slice t.a t.l.length t.c]
def Pj.v (p : Pj) : Value := .agg #[.string p.nm, .int .i64 p.tb, .slice p.ca p.cl.length p.cc, .slice p.sa p.sl.length p.sc, .int .i64 p.by_, .int .i64 p.sh]
def Cg.v (c : Cg) : Value := .agg #[.int .i64 c.n, .int .i64 c.s, .int .i64 c.k, .slice c.ta c.tl.length c.tc, .slice c.pa c.pl.length c.pc]
structure Cg.ok (w : World) (c : Cg) : Prop where
 ts : TbE.See w c.ta c.tl
 tok : ∀ t ∈ c.tl, t.ok w
 tcap : c.tl.length ≤ c.tc
 tmax : c.tc ≤ 9223372036854775807
 ps : PjE.See w c.pa c.pl
 pok : ∀ p ∈ c.pl, p.ok w
 pcap : c.pl.length ≤ c.pc
 pmax : c.pc ≤ 9223372036854775807
theorem Cg.ok.kept {w w' : World} {c : Cg} (h : c.ok w) (k : Kp [] w w') : c.ok w' :=
 ⟨h.ts.keptNew k, fun t ht => (h.tok t ht).kept k, h.tcap, h.tmax, h.ps.keptNew k, fun p hp => (h.pok p hp).kept k, h.pcap, h.pmax⟩
def wi (x m : Int) : Bool := decide (0 ≤ x) && decide (x < m)
theorem cWithin (x m : Int) (w : World) : Calls Tryz.prog 157 #[.int .i64 x, .int .i64 m] w fun e w' => e = .returned (.bool (wi x m)) ∧ w' = w := by
 unfold wi
 by_cases h : 0 ≤ x
 ·have d : decide (0 ≤ x) = true := by simpa using h
  rw [d];go_enter Tryz.func157, Tryz.ntmps157
  go_wp2_with fail;go_returns;exact ⟨by simp, rfl⟩
 ·have d : decide (0 ≤ x) = false := by simpa using h
  rw [d];go_enter Tryz.func157, Tryz.ntmps157
  go_wp2_with fail;go_returns;exact ⟨by simp, rfl⟩
def ixI (l : List Int) (x : Int) : Int := if x ∈ l then (l.idxOf x : Int) else -1
theorem ixI_at {l : List Int} {x : Int} {j : Nat} (hj : j < l.length) (e : x = l[j]) (h : ∀ y ∈ l.take j, ¬ y = x) : ixI l x = j := by
 have hm : x ∈ l := by rw [e]; exact List.getElem_mem hj
 unfold ixI
 rw [if_pos hm]
 have h1 : l.idxOf x = j := by
  have e1 : l = l.take j ++ x :: l.drop (j + 1) := by rw [e, List.getElem_cons_drop, List.take_append_drop]
  rw [e1, List.idxOf_append, if_neg (fun hx => h x hx rfl)]
  simp [List.length_take]
  omega
 rw [h1]
theorem ixI_none {l : List Int} {x : Int} (h : ∀ y ∈ l, ¬ y = x) : ixI l x = -1 := by
 unfold ixI
 rw [if_neg (fun hx => h x hx rfl)]
theorem ixI_in (l : List Int) (x : Int) : decide (0 ≤ ixI l x) = decide (x ∈ l) := by
 unfold ixI
 by_cases h : x ∈ l
 ·rw [if_pos h]; simp [h]
 ·rw [if_neg h]; simp [h]
theorem cIndexI (a : Option Addr) (c : Nat) (l : List Int) (x : Int) (w : World) (hs : IntE.See w a l) (hl : l.length ≤ 9223372036854775807) :
  Calls Tryz.prog 86 #[.slice a l.length c, .int .i64 x] w fun e w' => e = .returned (.int .i64 (ixI l x)) ∧ Kp [] w w' := by
 obtain ⟨r, hr⟩ : ∃ r, Hid (ixI l x = r) := ⟨_, rfl⟩
 rw [hr.out];have hs' := hid hs
 clear hs;go_enter Tryz.func86, Tryz.ntmps86
 go_wp2_with fail;go_loopw [8] (fun i wr => ∃ j : Nat, j ≤ l.length ∧ i = .int .i64 j ∧ Hid (∀ y ∈ l.take j, ¬ y = x) ∧ Kp [] w wr) (fun i _ => l.length - (intOf i).toNat)
 case atStart => exact ⟨0, Nat.zero_le _, rfl, by intro y hy; simp at hy, Kp.refl _ _⟩
 case round =>
  obtain ⟨j, hj, rfl, hst, kr⟩ := hrel
  by_cases hjl : j < l.length
  ·obtain ⟨g, o, rfl, c0⟩ := intAt (hs'.out.keptNew kr) j hjl
   have htk : Hid (l.take (j + 1) = l.take j ++ [l[j]]) := by show _ = _; rw [List.take_succ_eq_append_getElem hjl]
   have i1 : (0 : Int) ≤ (j : Int) := by omega
   have i2 : (j : Int) < (l.length : Int) := by omega
   have i3 : (j : Int) + 1 ≤ 9223372036854775807 := by omega
   obtain ⟨y, hy⟩ : ∃ y, Hid (l[j] = y) := ⟨l[j], hid rfl⟩
   rw [hy.out] at c0
   by_cases he : x = y
   ·have d1 : (x == y) = true := by simpa using he
    have hR : Hid (r = j) := by show _ = _; rw [← hr.out]; exact ixI_at hjl (by rw [hy.out]; exact he) hst.out
    clear he;go_wp2_with fail;go_ret;exact ⟨by rw [hR.out]; rfl, kr⟩
   ·have d1 : (x == y) = false := by simpa using he
    have he' := hid he
    clear he;go_wp2_with fail;refine ⟨⟨j + 1, by omega, by go_num, fun z hz => ?_, kr⟩, by simp [intOf]; omega⟩
    rw [htk.out] at hz
    rcases List.mem_append.1 hz with h | h
    ·exact hst.out z h
    ·rw [List.mem_singleton, hy.out] at h; subst h; exact fun e => he'.out e.symm
  ·have e : j = l.length := by omega
   subst e;have hR : Hid (r = -1) := by show _ = _; rw [← hr.out]; exact ixI_none (fun z hz => hst.out z (by rw [List.take_length]; exact hz))
   go_wp2_with fail;go_ret;exact ⟨by rw [hR.out]; rfl, kr⟩
theorem cContainsI (a : Option Addr) (c : Nat) (l : List Int) (x : Int) (w : World) (hs : IntE.See w a l) (hl : l.length ≤ 9223372036854775807) :
  Calls Tryz.prog 125 #[.slice a l.length c, .int .i64 x] w fun e w' => e = .returned (.bool (decide (x ∈ l))) ∧ Kp [] w w' := by
 have h := hid (cIndexI a c l x w hs hl)
 rw [← ixI_in l x];go_enter Tryz.func125, Tryz.ntmps125
 go_wp2_with fail;refine h.out.mono ?_;rintro e w' ⟨rfl, k⟩;go_wp2_with fail;go_returns;exact ⟨rfl, k⟩
end Go.Proofs.YtlgfekjoknbfdaaGreatDoor
end

section
namespace Go.Proofs.YtlgfekjoknbfdaaGreatDoor
open Go.RowKit Go.Hay
attribute [local go_sem] Oper.semAt_some
theorem cWithinP (x m : Int) (w : World) : Calls Tryz.prog 45 #[.int .i64 x, .int .i64 m] w fun e w' => e = .returned (.bool (wi x m)) ∧ w' = w := by
 unfold wi
 by_cases h : 0 ≤ x
 ·have d : decide (0 ≤ x) = true := by simpa using h
  rw [d];go_enter Tryz.func45, Tryz.ntmps45
  go_wp2_with fail;go_returns;exact ⟨by simp, rfl⟩
 ·have d : decide (0 ≤ x) = false := by simpa using h
  rw [d];go_enter Tryz.func45, Tryz.ntmps45
  go_wp2_with fail;go_returns;exact ⟨by simp, rfl⟩
structure Il where
 a : Option Addr
 c : Nat
 l : List Int
instance : Inhabited Il := ⟨⟨none, 0, []⟩⟩
def IlE : El Il where
 n := 1
 c x := [.slice x.a x.l.length x.c]
 len _ := rfl
 one _ u hu := by simp at hu; subst hu; rfl
 pos := by decide
structure Il.ok (w : World) (x : Il) : Prop where
 see : IntE.See w x.a x.l
 max : x.l.length ≤ 9223372036854775807
theorem Il.ok.kept {w w' : World} {x : Il} (h : x.ok w) (k : Kp [] w w') : x.ok w' := ⟨h.see.keptNew k, h.max⟩
theorem ilAt {w : World} {a : Option Addr} {l : List Il} (h : IlE.See w a l) {j : Nat} {x : Il} (hx : l[j]? = some x) : ∃ g o, a = some ⟨g, o, none⟩ ∧ w.cell? ⟨g, o + j, none⟩ = some (.slice x.a x.l.length x.c) := by
 obtain ⟨g, o, e, hc⟩ := h.at hx;refine ⟨g, o, e, ?_⟩;have := hc 0 _ rfl
 simpa [IlE] using this
def hasC (L : List Il) (x : Int) : Bool := L.any fun l => decide (x ∈ l.l)
def hvA (m : Nat) (L : List Il) : Bool := (List.range m).all fun i => hasC L (i : Int)
theorem cHas (q : Nat) (x : Int) (t : Il) (w : World) (hq : w.cell? ⟨q, 0, none⟩ = some (.int .i64 x)) (ht : t.ok w) : Calls Tryz.prog 124 #[.slice t.a t.l.length t.c, .pointer (some ⟨q, 0, none⟩)] w fun e w' => e = .returned (.bool (decide (x ∈ t.l))) ∧ Kp [] w w' := by
 have hlt : q < w.heap.size := World.block_lt_of_cell? _ _ hq
 obtain ⟨X, hX⟩ : ∃ X, Hid (decide (x ∈ t.l) = X) := ⟨_, hid rfl⟩
 rw [hX.out];have h := hid (cContainsI t.a t.c t.l x w ht.see ht.max)
 rw [hX.out] at h;clear ht;go_enter Tryz.func124, Tryz.ntmps124
 go_wp2_with fail;refine h.out.mono ?_;rintro e w' ⟨rfl, k⟩;go_wp2_with fail;go_returns;exact ⟨rfl, k⟩
theorem cIndexH (a : Option Addr) (c q : Nat) (x : Int) (l : List Il) (w : World) (hs : IlE.See w a l) (ho : ∀ t ∈ l, t.ok w) (hq : w.cell? ⟨q, 0, none⟩ = some (.int .i64 x)) (hf : l.length ≤ 9223372036854775807) :
  Calls Tryz.prog 156 #[.slice a l.length c, .func (.func 124) #[] #[.pointer (some ⟨q, 0, none⟩)]] w fun e w' => ∃ r, e = .returned (.int .i64 r) ∧ decide (0 ≤ r) = hasC l x ∧ Kp [] w w' := by
 have hs' := hid hs
 have hq' := hid hq
 have ho' := hid ho
 clear hs hq ho;go_enter Tryz.func156, Tryz.ntmps156
 go_wp2_with fail;go_loopw [8] (fun i wr => ∃ j : Nat, j ≤ l.length ∧ i = .int .i64 j ∧ Hid (hasC (l.take j) x = false) ∧ Kp [] w wr) (fun i _ => l.length - (intOf i).toNat)
 case atStart => exact ⟨0, Nat.zero_le _, rfl, hid rfl, Kp.refl _ _⟩
 case round =>
  obtain ⟨j, hj, rfl, hst, kr⟩ := hrel
  by_cases hjl : j < l.length
  ·have hx : l[j]? = some l[j] := by simp [hjl]
   obtain ⟨g, o, rfl, x0⟩ := ilAt (hs'.out.keptNew kr) hx;have hmm : Hid (l[j] ∈ l) := List.getElem_mem hjl
   have cG := hid (cHas q x l[j] wr (kpAt kr hq'.out) ((ho'.out _ hmm.out).kept kr))
   have htk : Hid (l.take (j + 1) = l.take j ++ [l[j]]) := by show _ = _; rw [List.take_succ_eq_append_getElem hjl]
   clear hx;have i1 : (0 : Int) ≤ (j : Int) := by omega
   have i2 : (j : Int) < (l.length : Int) := by omega
   have i3 : (j : Int) + 1 ≤ 9223372036854775807 := by omega
   obtain ⟨B, hB⟩ : ∃ B, Hid (decide (x ∈ l[j].l) = B) := ⟨_, hid rfl⟩
   rw [hB.out] at cG
   have h1 : Hid (hasC (l.take (j + 1)) x = B) := by
    show _ = _
    unfold hasC at hst ⊢
    rw [htk.out, List.any_append, hst.out];simp only [List.any_cons, List.any_nil, hB.out, Bool.or_false, Bool.false_or]
   have h2 : Hid (B = true → hasC l x = true) := fun e => by
    unfold hasC
    rw [List.any_eq_true];exact ⟨_, hmm.out, by rw [hB.out, e]⟩
   clear htk hmm hB;generalize l[j] = y at *
   obtain ⟨ya, yc, yl⟩ := y;simp only at *
   go_wp2_with fail;refine cG.out.mono ?_;rintro e w2 ⟨rfl, k2⟩;have kw2 := kr.trans k2 (by simp)
   clear cG k2 x0
   cases B with
   | false =>
    go_wp2_with fail;exact ⟨⟨j + 1, by omega, by go_num, h1, kw2⟩, by simp [intOf]; omega⟩
   | true =>
    have h3 := hid (h2.out rfl)
    clear h2;go_wp2_with fail;go_ret;exact ⟨_, rfl, by rw [h3.out]; simp, kw2⟩
  ·have e : j = l.length := by omega
   subst e;have h4 : Hid (hasC l x = false) := by have := hst.out; rw [List.take_length] at this; exact hid this
   go_wp2_with fail;go_ret;exact ⟨_, rfl, by rw [h4.out]; rfl, kr⟩
theorem cContH (a : Option Addr) (c q : Nat) (x : Int) (l : List Il) (w : World) (hs : IlE.See w a l) (ho : ∀ t ∈ l, t.ok w) (hq : w.cell? ⟨q, 0, none⟩ = some (.int .i64 x)) (hf : l.length ≤ 9223372036854775807) :
  Calls Tryz.prog 126 #[.slice a l.length c, .func (.func 124) #[] #[.pointer (some ⟨q, 0, none⟩)]] w fun e w' => e = .returned (.bool (hasC l x)) ∧ Kp [] w w' := by
 have h := hid (cIndexH a c q x l w hs ho hq hf)
 obtain ⟨X, hX⟩ : ∃ X, Hid (hasC l x = X) := ⟨_, hid rfl⟩
 rw [hX.out];go_enter Tryz.func126, Tryz.ntmps126
 go_wp2_with fail;refine h.out.mono ?_;rintro e w' ⟨r, rfl, hr, k⟩;have hr' : Hid (decide (0 ≤ r) = X) := by rw [hX.out] at hr; exact hid hr
 clear hr;go_wp2_with fail;go_returns;exact ⟨by rw [hr'.out]; rfl, k⟩
theorem cHaveAll (m : Nat) (a : Option Addr) (c : Nat) (L : List Il) (w : World) (hs : IlE.See w a L) (ho : ∀ t ∈ L, t.ok w) (hf : L.length ≤ 9223372036854775807) (hm : m ≤ 9223372036854775806) :
  Calls Tryz.prog 81 #[.int .i64 m, .slice a L.length c] w fun e w' => e = .returned (.bool (hvA m L)) ∧ Kp [] w w' := by
 obtain ⟨R, hR⟩ : ∃ R, Hid (hvA m L = R) := ⟨_, hid rfl⟩
 rw [hR.out];have hs' := hid (And.intro hs ho)
 clear hs ho;go_enter Tryz.func81, Tryz.ntmps81
 go_wp2_with fail;go_loopw [8] (fun i wr => ∃ j : Nat, j ≤ m ∧ i = .int .i64 j ∧ Hid (∀ k, k < j → hasC L (k : Int) = true) ∧ Kp [] w wr) (fun i _ => m - (intOf i).toNat)
 case atStart => exact ⟨0, Nat.zero_le _, rfl, hid (fun k hk => absurd hk (by omega)), Kp.refl _ _⟩
 case round =>
  obtain ⟨j, hj, rfl, hst, kr⟩ := hrel
  by_cases hjl : j < m
  ·have i2 : (j : Int) < (m : Int) := by omega
   have i3 : (j : Int) + 1 ≤ 9223372036854775807 := by omega
   have i1 : (0 : Int) ≤ (j : Int) := by omega
   go_wp2_with fail;obtain ⟨v1, hv1, k1, b1⟩ : ∃ x, wr.alloc (.cells #[.int .i64 (j : Int)] 3) = x ∧ Kp [] wr x ∧ Bn x wr.heap.size [.int .i64 (j : Int)] := ⟨_, rfl, (Kp.refl _ _).alloc _, Bn.new wr _ _⟩
   rw [hv1];have kk := kr.trans k1 (by simp)
   have cG := hid (cContH a c wr.heap.size (j : Int) L v1 (hs'.out.1.keptNew kk) (fun t ht => (hs'.out.2 t ht).kept kk) (b1.get 0 _ rfl) hf)
   obtain ⟨B, hB⟩ : ∃ B, Hid (hasC L (j : Int) = B) := ⟨_, hid rfl⟩
   rw [hB.out] at cG;refine cG.out.mono ?_;rintro e w2 ⟨rfl, k2⟩;have kw2 := kk.trans k2 (by simp)
   clear cG k2 b1 k1 hv1
   cases B with
   | false =>
    have hF : Hid (R = false) := by
     show _ = _
     rw [← hR.out];unfold hvA
     rw [List.all_eq_false];exact ⟨j, List.mem_range.2 hjl, by rw [hB.out]; simp⟩
    go_wp2_with fail;go_ret;exact ⟨by rw [hF.out]; rfl, kw2⟩
   | true =>
    go_wp2_with fail
    exact ⟨⟨j + 1, by omega, by go_num, hid (fun k hk => by
     rcases Nat.lt_or_ge k j with h | h
     ·exact hst.out k h
     ·have : k = j := by omega
      subst this;exact hB.out), kw2⟩, by simp [intOf]; omega⟩
  ·have e : j = m := by omega
   subst e
   have hT : Hid (R = true) := by
    show _ = _
    rw [← hR.out];unfold hvA
    rw [List.all_eq_true];intro k hk
    exact hst.out k (List.mem_range.1 hk)
   go_wp2_with fail;go_returns;exact ⟨by rw [hT.out]; rfl, kr⟩
end Go.Proofs.YtlgfekjoknbfdaaGreatDoor
end

section
namespace Go.Proofs.YtlgfekjoknbfdaaGreatDoor
open Go.RowKit Go.Hay
def KeepB (Js : List Nat) (A B : World) : Prop := A.heap.size ≤ B.heap.size ∧ ∀ k ∈ Js, ∀ o, A.heap[k]? = some o → B.heap[k]? = some o
theorem KeepB.trans {Js : List Nat} {A B C : World} (h : KeepB Js A B) (k : KeepB Js B C) : KeepB Js A C := ⟨Nat.le_trans h.1 k.1, fun j hj o ho => k.2 j hj o (h.2 j hj o ho)⟩
theorem KeepB.refl (Js : List Nat) (A : World) : KeepB Js A A := ⟨Nat.le_refl _, fun _ _ _ h => h⟩
theorem KeepB.ofKp {Js S : List Nat} {A B : World} (hk : Kp S A B) (hJ : ∀ j ∈ Js, j ∉ S) : KeepB Js A B := ⟨hk.size, fun j hj o ho => (hk.block j (Array.getElem?_eq_some_iff.1 ho).1 (hJ j hj)).trans ho⟩
theorem KeepB.cell {Js : List Nat} {A B : World} (h : KeepB Js A B) {g j : Nat} (hg : g ∈ Js) {v : Value} (hc : A.cell? ⟨g, j, none⟩ = some v) : B.cell? ⟨g, j, none⟩ = some v := by
 have hl := World.block_lt_of_cell? _ _ hc
 have e : A.heap[g]? = some A.heap[g] := by simp at hl; simp [hl]
 exact (World.cell?_of_block (a := ⟨g, j, none⟩) ((h.2 g hg _ e).trans e.symm)).trans hc
theorem KeepB.alloc (Js : List Nat) (W : World) (o : Obj) : KeepB Js W (W.alloc o) := ⟨by simp, fun k _ o' ho => (Below.heap_alloc W o k (Array.getElem?_eq_some_iff.1 ho).1).trans ho⟩
structure Vs where
 a : Option Addr
 c : Nat
 l : List Val
instance : Inhabited Vs := ⟨⟨none, 0, []⟩⟩
def VsE : El Vs where
 n := 1
 c x := [.slice x.a x.l.length x.c]
 len _ := rfl
 one _ u hu := by simp at hu; subst hu; rfl
 pos := by decide
theorem cellsVs : Tryz.prog.cellsOf 61 = 1 := by kernel_rfl
end Go.Proofs.YtlgfekjoknbfdaaGreatDoor
end

section
namespace Go.Hay
open Go.RowKit
variable {F : Fence} {n : Nat} {P : Program} {σ α : Type}
def SeqS (F : Fence) (n : Nat) (P : Program) (g : Nat) (lb : Array Value) (encs : α → Array Value) (T : σ → σ → World → World → Prop) (K : σ → World → World → Prop) (ok : σ → α → Prop) (nx : σ → α → σ) (S Sp : σ → Prop) (s0 : σ) (w : World) : Prop :=
 ∀ (l : Nat) (J Jx : σ → World → Prop) (W : World), K s0 w W → (∀ s s' A B, J s A → T s s' A B → J s' B) →
  (∀ s x A, J s A → ok s x → YieldAt F (n - 1) P l (encs x) A fun e A' => (e = .returned (.bool true) ∧ J (nx s x) A' ∧ K s A A') ∨ (e = .returned (.bool false) ∧ Jx (nx s x) A')) →
  J s0 W → CallsIn F n P g (#[.func (.yield l) #[] #[]] ++ lb) W fun e A' => (∃ v, e = .returned v) ∧ ((∃ s, S s ∧ J s A') ∨ (∃ s, Sp s ∧ Jx s A'))
variable {F : Fence} {n : Nat} {P : Program} {σ α : Type}
def SeqX (F : Fence) (n : Nat) (P : Program) (g : Nat) (lb : Array Value) (encs : α → Array Value) (T : σ → σ → World → World → Prop) (Tx : σ → World → World → Prop) (K : σ → World → World → Prop) (ok : σ → α → Prop) (nx : σ → α → σ) (S Sp : σ → Prop) (s0 : σ) (w : World) : Prop :=
 ∀ (l : Nat) (J Jx : σ → World → Prop) (W : World), K s0 w W → (∀ s s' A B, J s A → T s s' A B → J s' B) → (∀ s A B, Jx s A → Tx s A B → Jx s B) →
  (∀ s x A, J s A → ok s x → YieldAt F (n - 1) P l (encs x) A fun e A' => (e = .returned (.bool true) ∧ J (nx s x) A' ∧ K s A A') ∨ (e = .returned (.bool false) ∧ Jx (nx s x) A' ∧ K s A A')) →
  J s0 W → CallsIn F n P g (#[.func (.yield l) #[] #[]] ++ lb) W fun e A' => (∃ v, e = .returned v) ∧ ((∃ s, S s ∧ J s A') ∨ (∃ s, Sp s ∧ Jx s A'))
def leftX (B : Nat) (K : σ → World → World → Prop) (I : σ → World → Prop) (Ix : Code → σ → World → Prop) (s0 s : σ) (W : World) : Exit → Act → World → Prop
 | .normal, _, W' => KeepsFrom B W W' ∧ K s0 W W' ∧ I s W'
 | .ret, _, W' => KeepsFrom B W W' ∧ K s0 W W' ∧ Ix .ret s W'
 | .exit id, _, W' => KeepsFrom B W W' ∧ K s0 W W' ∧ Ix (.exit id) s W'
 | .goto t, _, W' => KeepsFrom B W W' ∧ K s0 W W' ∧ Ix (.goto t) s W'
 | _, _, _ => False
theorem wpRangeX {g : Operand} {ps : Array Tmp} {assign body : Code} {Q : Exit → Act → World → Prop} {a : Act} {w : World}
  (hro : F.round = none) (h1 : 1 ≤ n) {gf : Nat} {lb : Array Value} (hg : a.eval g = .func (.func gf) #[] lb) (hFg : F.fn gf) (eg : ∀ args w, (callFunc gf args).run P w = .ok (.enter gf args) w)
  {encs : α → Array Value} {T : σ → σ → World → World → Prop} {Tx : σ → World → World → Prop} {K : σ → World → World → Prop} {ok : σ → α → Prop} {nx : σ → α → σ} {S Sp : σ → Prop} {s0 : σ} {w0 : World}
  (hseq : SeqX F (n - 1) P gf lb encs T Tx K ok nx S Sp s0 w0) (hps : ∀ x, (encs x).size = ps.size)
  (hKt : ∀ {s : σ} {A B C : World}, K s A B → K s B C → K s A C) (hKa : ∀ s W o, K s W (W.alloc o)) (hb0 : K s0 w0 w)
  (I : σ → World → Prop) (Ix : Code → σ → World → Prop) (hI : OwnFrom w.heap.size I) (hIx : ∀ c, OwnFrom w.heap.size (Ix c)) (h0 : I s0 w)
  (hTk : ∀ s s' A B, I s A → T s s' A B → ∀ (k : Nat) (o : Obj), (k = w.heap.size ∨ k = w.heap.size + 1) → A.heap[k]? = some o → B.heap[k]? = some o)
  (hXk : ∀ c s A B, Ix c s A → Tx s A B → ∀ (k : Nat) (o : Obj), (k = w.heap.size ∨ k = w.heap.size + 1) → A.heap[k]? = some o → B.heap[k]? = some o)
  (hIT : ∀ s s' A B, w.heap.size + 2 ≤ A.heap.size → I s A → T s s' A B → I s' B) (hXT : ∀ c s A B, Ix c s A → Tx s A B → Ix c s B)
  (hKb : ∀ (s : σ) (W : World) (o' : Obj), I s W → K s W (W.putObj (w.heap.size + 1) o')) (hKc : ∀ (s : σ) (x : α) (W : World) (o' : Obj), I (nx s x) W → K s W (W.putObj (w.heap.size + 1) o'))
  (hKx : ∀ (c : Code) (s : σ) (x : α) (W : World) (o' : Obj), Ix c (nx s x) W → K s W (W.putObj (w.heap.size + 1) o'))
  (a₁ : α → Act) (hassign : ∀ (l : Nat) (x : α) (W : World) (C : Act → World → Prop), C (a₁ x) W →
   assign.wpIn (F.inRound l) (n - 1 - 1) P (Exit.then C (fun _ _ _ => False)) { tmps := (ps.zip (encs x)).foldl (fun t (p, v) => t.setIfInBounds p v) a.tmps, defers := [] } W)
  (hbody : ∀ (l : Nat) (s : σ) (x : α) (W : World), I s W → ok s x → body.wpIn (F.inRound l) (n - 1 - 1) P (leftX w.heap.size K I Ix s (nx s x) W) (a₁ x) W)
  (hdone : ∀ (D : Nat) (s : σ) (W : World), w.heap.size ≤ D → S s → I s W → W.heap[D]? = some (.deferred (some [])) → Q .normal { a with defers := { target := .collected D, args := #[] } :: a.defers } W)
  (hstop : ∀ (D : Nat) (c : Code) (s : σ) (W : World), w.heap.size ≤ D → Sp s → Ix c s W → W.heap[D]? = some (.deferred (some [])) → c.wpIn F n P Q { a with defers := { target := .collected D, args := #[] } :: a.defers } W) :
  (Code.rangeFunc g ps assign body).wpIn F n P Q a w := by
 refine wpIn_rangeFunc fun fn hfn => ?_
 rw [hro]
 -- the loop's record, as it may stand
 let R : LoopState → Option Code → Obj := fun st pe => .loop { state := st, pending := pe, fn, tmps := a.tmps, params := ps, assign, body, defers := w.heap.size }
 let Bk : LoopState → Option Code → World → Prop := fun st pe W => W.heap[w.heap.size + 1]? = some (R st pe) ∧ W.heap[w.heap.size]? = some (.deferred (some []))
 have bkK : ∀ {st pe A B}, KeepsFrom w.heap.size A B → Bk st pe A → Bk st pe B := fun hk hb => ⟨hk.same _ _ (by omega) hb.1 rfl, hk.same _ _ (Nat.le_refl _) hb.2 rfl⟩
 have bkP : ∀ {st pe st' pe' A}, Bk st pe A → Bk st' pe' (A.putObj (w.heap.size + 1) (R st' pe')) := fun hb =>
  ⟨World.putObj_heap_same (Array.getElem?_eq_some_iff.1 hb.1).1, (World.putObj_heap_other (by omega)).trans hb.2⟩
 have iP : ∀ {st pe s A} (o : Obj), Bk st pe A → I s A → I s (A.putObj (w.heap.size + 1) o) := fun o hb hi => hI.putObj o hi (by omega) hb.1 rfl
 have ixP : ∀ {st pe s c A} (o : Obj), Bk st pe A → Ix c s A → Ix c s (A.putObj (w.heap.size + 1) o) := fun o hb hi => (hIx _).putObj o hi (by omega) hb.1 rfl
 have bsz : ∀ {st pe A}, Bk st pe A → w.heap.size + 2 ≤ A.heap.size := fun hb => by have := (Array.getElem?_eq_some_iff.1 hb.1).1; omega
 have b0 : Bk .ready none ((w.alloc (.deferred (some []))).alloc (R .ready none)) :=
  ⟨by have := World.alloc_heap_new (w.alloc (.deferred (some []))) (R .ready none); rwa [World.size_alloc] at this, (Below.heap_alloc _ _ _ (by simp)).trans (World.alloc_heap_new w _)⟩
 refine ⟨w.heap.size + 1, [{ target := .collected w.heap.size, args := #[] }], ((w.alloc (.deferred (some []))).alloc (R .ready none)), { target := .fn (.func gf) lb, args := #[.func (.yield (w.heap.size + 1)) #[] #[]] }, ((w.alloc (.deferred (some []))).alloc (R .ready none)), gf, #[.func (.yield (w.heap.size + 1)) #[] #[]] ++ lb, ((w.alloc (.deferred (some []))).alloc (R .ready none)),
  run_enterLoop_outer _ _ _ _ _, by simp only [resolve, hg]; simp [go_sem], fun f' hf' => by simp [Target.leads] at hf'; subst hf'; exact hFg, by simp [invoke, go_sem, eg], fun _ => h1, ?_⟩
 refine (hseq (w.heap.size + 1) (fun s A => I s A ∧ Bk .ready none A) (fun s A => ∃ c, Ix c s A ∧ Bk .done (some c) A) _ (hKt hb0 (hKt (hKa _ _ _) (hKa _ _ _)))
  (fun s s' A B hs ht => ⟨hIT s s' A B (bsz hs.2) hs.1 ht, hTk s s' A B hs.1 ht _ _ (.inr rfl) hs.2.1, hTk s s' A B hs.1 ht _ _ (.inl rfl) hs.2.2⟩)
  (fun s A B ⟨c, hs, hb⟩ ht => ⟨c, hXT c s A B hs ht, hXk c s A B hs ht _ _ (.inr rfl) hb.1, hXk c s A B hs ht _ _ (.inl rfl) hb.2⟩) ?_ ⟨hI.alloc _ (hI.alloc _ h0), b0⟩).mono ?_
 ·-- one round
  rintro s x A ⟨hi, hb⟩ hok;refine ⟨fn, _, assign, body, run_yield hb.1 (hps x), roundIn_of_wpIn hfn (hassign _ x A _ ⟨_, run_beginRound hb.1 rfl, ?_⟩)⟩;have hb2 : Bk .busy none (A.putObj (w.heap.size + 1) (R .busy none)) := bkP hb
  refine wpIn_mono (hbody _ s x _ (iP _ hb hi) hok) ?_;rintro e a3 W3 hp
  cases e with
  | normal =>
   have hb3 := bkK hp.1 hb2
   exact ⟨_, _, run_endRound none hb3.1, .inl ⟨rfl, ⟨iP _ hb3 hp.2.2, bkP hb3⟩, hKt (hKb _ _ _ hi) (hKt hp.2.1 (hKc _ _ _ _ hp.2.2))⟩⟩
  | ret => have hb3 := bkK hp.1 hb2; exact ⟨_, _, run_endRound (some .ret) hb3.1, .inr ⟨rfl, ⟨.ret, ixP _ hb3 hp.2.2, bkP hb3⟩, hKt (hKb _ _ _ hi) (hKt hp.2.1 (hKx _ _ _ _ _ hp.2.2))⟩⟩
  | exit id => have hb3 := bkK hp.1 hb2; exact ⟨_, _, run_endRound (some (.exit id)) hb3.1, .inr ⟨rfl, ⟨.exit id, ixP _ hb3 hp.2.2, bkP hb3⟩, hKt (hKb _ _ _ hi) (hKt hp.2.1 (hKx _ _ _ _ _ hp.2.2))⟩⟩
  | goto t => have hb3 := bkK hp.1 hb2; exact ⟨_, _, run_endRound (some (.goto t)) hb3.1, .inr ⟨rfl, ⟨.goto t, ixP _ hb3 hp.2.2, bkP hb3⟩, hKt (hKb _ _ _ hi) (hKt hp.2.1 (hKx _ _ _ _ _ hp.2.2))⟩⟩
  | panic ch => exact hp.elim
  | outgrown => exact hp.elim
 ·-- behind the iterator
  rintro e A ⟨⟨v, rfl⟩, (⟨s, hS, hi, hb⟩ | ⟨s, hSp, c, hi, hb⟩)⟩
  ·exact ⟨none, _, run_endLoop hb.1 (by simp), hdone _ s _ (Nat.le_refl _) hS (iP _ hb hi) ((World.putObj_heap_other (by omega)).trans hb.2)⟩
  ·exact ⟨some c, _, run_endLoop hb.1 (by simp), hstop _ c s _ (Nat.le_refl _) hSp (ixP _ hb hi) ((World.putObj_heap_other (by omega)).trans hb.2)⟩
end Go.Hay
end

section
namespace Go.Proofs.YtlgfekjoknbfdaaGreatDoor
open Go.RowKit Go.Hay
end Go.Proofs.YtlgfekjoknbfdaaGreatDoor
end

section
namespace Go.Proofs.YtlgfekjoknbfdaaGreatDoor
open Go.RowKit Go.Hay
def nulV : Val := ⟨0, false, 0, ⟨#[]⟩⟩
def VE : El Val where
 n := 4
 c x := [.int .i64 x.k, .bool x.b, .int .i64 x.n, .string x.t]
 len _ := rfl
 one _ u hu := by simp at hu; rcases hu with rfl | rfl | rfl | rfl <;> rfl
 pos := by decide
theorem seeV {w : World} {a : Option Addr} {l : List Val} : VE.See w a l ↔ Vals w a l := by
 constructor
 ·intro h
  by_cases hl : l = []
  ·exact .inl hl
  ·rcases h with h | ⟨g, o, rfl, hc⟩
   ·exact absurd h hl
   ·refine .inr ⟨g, o, rfl, fun j x hx => ?_⟩
    have e : ∀ k u, k < 4 → (VE.c x)[k]? = some u → w.cell? ⟨g, o + j * 4 + k, none⟩ = some u := fun k u hk hu => by
     have := hc (j * 4 + k) u ((El.cs_get VE hx hk).trans hu)
     rwa [← Nat.add_assoc] at this
    exact ⟨e 0 _ (by omega) rfl, e 1 _ (by omega) rfl, e 2 _ (by omega) rfl, e 3 _ (by omega) rfl⟩
 ·rintro (h | ⟨g, o, rfl, hc⟩)
  ·exact .inl h
  ·refine .inr ⟨g, o, rfl, fun j u hu => ?_⟩
   have hj : j < l.length * 4 := by have := (List.getElem?_eq_some_iff.1 hu).1; rwa [El.cs_length] at this
   have hq : j / 4 < l.length := by omega
   have hx : l[j / 4]? = some l[j / 4] := by simp [hq]
   have hg := El.cs_get VE hx (k := j % 4) (Nat.mod_lt _ (by decide))
   have e4 : VE.n = 4 := rfl
   rw [e4, show j / 4 * 4 + j % 4 = j by omega, hu] at hg
   obtain ⟨c0, c1, c2, c3⟩ := hc (j / 4) _ hx;have hm : j % 4 = 0 ∨ j % 4 = 1 ∨ j % 4 = 2 ∨ j % 4 = 3 := by omega
   have ho : o + j = o + j / 4 * 4 + j % 4 := by omega
   rw [ho]
   rcases hm with h | h | h | h <;> rw [h] at hg ⊢ <;> cases hg <;> assumption
abbrev encR (x : Vs) : Array Value := #[.slice x.a x.l.length x.c]
structure Sr where
 made : Bool
 B0 : Nat
 qs : List Nat
 js : List Nat
 i : Nat
 p : Option Vs
def Sr.nx (s : Sr) (x : Vs) : Sr := { s with i := s.i + 1, p := none }
structure TurnR (B0 : Nat) (qs : List Nat) (A B : World) : Prop where
 os : B.os = A.os
 tape : B.tape = A.tape
 output : B.output = A.output
 size : A.heap.size ≤ B.heap.size
 block : ∀ k, k < A.heap.size → B.heap[k]? = A.heap[k]? ∨ k ∈ qs ∨ (B0 ≤ k ∧ ∃ o : Obj, A.heap[k]? = some o ∧ o.isCells = false)
theorem TurnR.ofKp {B0 : Nat} {qs : List Nat} {A B : World} (h : Kp qs A B) : TurnR B0 qs A B := ⟨h.os, h.tape, h.output, h.size, fun k hk => by
 by_cases e : k ∈ qs
 ·exact .inr (.inl e)
 ·exact .inl (h.block k hk e)⟩
theorem TurnR.ofKp0 {B0 : Nat} {qs : List Nat} {A B : World} (h : Kp [] A B) : TurnR B0 qs A B := TurnR.ofKp (h.mono (by simp))
theorem TurnR.refl (B0 : Nat) (qs : List Nat) (A : World) : TurnR B0 qs A A := TurnR.ofKp0 (Kp.refl _ _)
theorem TurnR.ofGrown {B0 : Nat} {qs : List Nat} {A B : World} {row : Option Nat} (h : A.grownBy B row) (hr : ∀ r, row = some r → B0 ≤ r ∧ ∃ o : Obj, A.heap[r]? = some o ∧ o.isCells = false) : TurnR B0 qs A B :=
 ⟨h.os, h.tape, h.output, h.size, fun k hk => by
  by_cases e : row = some k
  ·exact .inr (.inr (hr k e))
  ·exact .inl (h.block k hk (fun e' => e e'.symm))⟩
structure Vs.lies (w : World) (x : Vs) : Prop where
 see : Vals w x.a x.l
 cap : x.l.length ≤ x.c
 most : x.c ≤ maxLen
 nil : x.a = none → x.c = 0
structure StepR (fr : Bool) (R : List (List Val)) (s s' : Sr) (A B : World) : Prop where
 turn : TurnR s'.B0 s'.qs A B
 stays : s.made = true → s'.made = true ∧ s'.B0 = s.B0 ∧ ∀ q ∈ s'.qs, q ∈ s.qs ∨ (A.heap.size ≤ q ∧ q < B.heap.size)
 makes : s.made = false → s'.made = true ∧ A.heap.size ≤ s'.B0 ∧ ∀ q ∈ s'.qs, A.heap.size ≤ q ∧ q < B.heap.size
 js : ∀ j ∈ s'.js, j ∈ s.js ∨ (A.heap.size ≤ j ∧ j < B.heap.size)
 on : s'.i = s.i
 given : s'.p = none ∨ ∃ x, s'.p = some x ∧ R[s.i]? = some x.l ∧ x.lies B ∧ (fr = true → VE.Row B (.slice x.a x.l.length x.c) x.l ∧ ∀ k ∈ blk x.a, A.heap.size ≤ k ∧ k ∉ s'.js ∧ k ∉ s'.qs)
theorem StepR.same {fr : Bool} {R : List (List Val)} {s : Sr} {A B : World} (hm : s.made = true) (hp : s.p = none) (ht : TurnR s.B0 s.qs A B) : StepR fr R s s A B :=
 ⟨ht, fun _ => ⟨hm, rfl, fun q hq => .inl hq⟩, fun h => (by rw [hm] at h; cases h), fun j hj => .inl hj, rfl, .inl hp⟩
def StepRX (s : Sr) (A B : World) : Prop := s.made = true ∧ TurnR s.B0 s.qs A B
structure KeepR (s : Sr) (A B : World) : Prop where
 js : KeepB s.js A B
 recs : s.made = true → ∀ (k : Nat) (o : Obj), s.B0 ≤ k → A.heap[k]? = some o → o.isCells = false → B.heap[k]? = some o
theorem KeepR.trans {s : Sr} {A B C : World} (h : KeepR s A B) (k : KeepR s B C) : KeepR s A C :=
 ⟨h.js.trans k.js, fun hm j o hj ho hc => k.recs hm j o hj (h.recs hm j o hj ho hc) hc⟩
theorem KeepR.refl (s : Sr) (A : World) : KeepR s A A := ⟨KeepB.refl _ _, fun _ _ _ _ h _ => h⟩
theorem KeepR.alloc (s : Sr) (W : World) (o : Obj) : KeepR s W (W.alloc o) :=
 ⟨KeepB.alloc _ _ _, fun _ k o' _ ho _ => (Below.heap_alloc W o k (Array.getElem?_eq_some_iff.1 ho).1).trans ho⟩
def RowSeq (fr : Bool) (n : Nat) (g : Nat) (lb : Array Value) (R : List (List Val)) (js : List Nat) (w : World) : Prop :=
 SeqX Fence.wide n Tryz.prog g lb encR (StepR fr R) StepRX KeepR (fun s x => s.p = some x) Sr.nx (fun s => s.made = true ∧ s.i = R.length ∧ s.p = none) (fun s => s.made = true) ⟨false, 0, [], js, 0, none⟩ w
structure CoR (w0 : World) (S : List Nat) (s : Sr) (W : World) : Prop where
 os : W.os = w0.os
 tape : W.tape = w0.tape
 output : W.output = w0.output
 size : w0.heap.size ≤ W.heap.size
 low : ∀ k, k < w0.heap.size → k ∉ S → W.heap[k]? = w0.heap[k]?
 mde : s.made = true → w0.heap.size + 2 ≤ s.B0 ∧ ∀ q ∈ s.qs, w0.heap.size + 2 ≤ q
 js : ∀ j ∈ s.js, j ∉ S ∧ j ≠ w0.heap.size ∧ j ≠ w0.heap.size + 1
 jl : ∀ j ∈ s.js, j < W.heap.size
 ql : ∀ q ∈ s.qs, q < W.heap.size
theorem CoR.kp {w0 : World} {S : List Nat} {s : Sr} {W : World} (h : CoR w0 S s W) : Kp S w0 W := ⟨h.os, h.tape, h.output, h.size, fun k hk hn => h.low k hk hn⟩
theorem CoR.grown {w0 : World} {S : List Nat} {s : Sr} {X Y : World} {row : Option Nat} (h : CoR w0 S s X) (hg : X.grownBy Y row) (hr : ∀ r, row = some r → w0.heap.size ≤ r ∧ ∃ o : Obj, X.heap[r]? = some o ∧ o.isCells = false) : CoR w0 S s Y :=
 ⟨hg.os.trans h.os, hg.tape.trans h.tape, hg.output.trans h.output, Nat.le_trans h.size hg.size, fun k hk hn => (hg.block k (Nat.lt_of_lt_of_le hk h.size) (fun e => by have := (hr k e.symm).1; omega)).trans (h.low k hk hn), h.mde, h.js, fun j hj => Nat.lt_of_lt_of_le (h.jl j hj) hg.size, fun j hj => Nat.lt_of_lt_of_le (h.ql j hj) hg.size⟩
theorem turnLowR {B0 : Nat} {qs : List Nat} {A B : World} (h : TurnR B0 qs A B) {k : Nat} (hk : k < A.heap.size) (h1 : k < B0) (h2 : k ∉ qs) : B.heap[k]? = A.heap[k]? := by
 rcases h.block k hk with e | e | ⟨e, _⟩
 ·exact e
 ·exact absurd e h2
 ·omega
theorem StepR.low {fr : Bool} {R : List (List Val)} {w0 : World} {s s' : Sr} {A B : World} (ht : StepR fr R s s' A B) (hm : s.made = true → w0.heap.size + 2 ≤ s.B0 ∧ ∀ q ∈ s.qs, w0.heap.size + 2 ≤ q) {k : Nat} (hk : k < A.heap.size) (hk2 : k < w0.heap.size + 2) : B.heap[k]? = A.heap[k]? := by
 cases hs : s.made with
 | true =>
  obtain ⟨_, e1, e2⟩ := ht.stays hs;obtain ⟨h1, h2⟩ := hm hs;exact turnLowR ht.turn hk (by omega) (fun hq => by rcases e2 k hq with e | e; have := h2 k e; omega; omega)
 | false =>
  obtain ⟨_, e1, e2⟩ := ht.makes hs;exact turnLowR ht.turn hk (by omega) (fun hq => by have := (e2 k hq).1; omega)
theorem CoR.step {fr : Bool} {R : List (List Val)} {w0 : World} {S : List Nat} {s s' : Sr} {A B : World} (hS : ∀ k ∈ S, k < w0.heap.size) (hz : w0.heap.size + 2 ≤ A.heap.size) (h : CoR w0 S s A) (ht : StepR fr R s s' A B) : CoR w0 S s' B := by
 refine ⟨ht.turn.os.trans h.os, ht.turn.tape.trans h.tape, ht.turn.output.trans h.output, Nat.le_trans h.size ht.turn.size, fun k hk hn => (ht.low h.mde (by omega) (by omega)).trans (h.low k hk hn), fun _ => ?_, fun j hj => ?_, fun j hj => ?_, fun q hq => ?_⟩
 ·cases hs : s.made with
  | true =>
   obtain ⟨_, e1, e2⟩ := ht.stays hs;obtain ⟨h1, h2⟩ := h.mde hs;exact ⟨by omega, fun q hq => by rcases e2 q hq with e | e; exact h2 q e; omega⟩
  | false =>
   obtain ⟨_, e1, e2⟩ := ht.makes hs;exact ⟨by omega, fun q hq => by have := (e2 q hq).1; omega⟩
 ·rcases ht.js j hj with e | e
  ·exact h.js j e
  ·exact ⟨fun hm => by have := hS j hm; omega, by omega, by omega⟩
 ·rcases ht.js j hj with e | e
  ·exact Nat.lt_of_lt_of_le (h.jl j e) ht.turn.size
  ·exact e.2
 ·cases hs : s.made with
  | true =>
   obtain ⟨_, e1, e2⟩ := ht.stays hs
   rcases e2 q hq with e | e
   ·exact Nat.lt_of_lt_of_le (h.ql q e) ht.turn.size
   ·exact e.2
  | false => exact ((ht.makes hs).2.2 q hq).2
theorem CoR.recs {w0 : World} {S : List Nat} {s : Sr} {W : World} (h : CoR w0 S s W) (o' : Obj) : KeepR s W (W.putObj (w0.heap.size + 1) o') :=
 ⟨⟨by simp, fun k hk o ho => (World.putObj_heap_other (by have := (h.js k hk).2.2; omega)).trans ho⟩, fun hm k o hk ho _ => (World.putObj_heap_other (by have := (h.mde hm).1; omega)).trans ho⟩
theorem CoR.keeps {fr : Bool} {R : List (List Val)} {w0 : World} {S : List Nat} {s s' : Sr} {A B : World} (h : CoR w0 S s A) (ht : StepR fr R s s' A B) (k : Nat) (o : Obj) (hk : k = w0.heap.size ∨ k = w0.heap.size + 1) (ho : A.heap[k]? = some o) : B.heap[k]? = some o :=
 (ht.low h.mde (Array.getElem?_eq_some_iff.1 ho).1 (by omega)).trans ho
theorem CoR.stepX {w0 : World} {S : List Nat} {s : Sr} {A B : World} (h : CoR w0 S s A) (ht : StepRX s A B) : CoR w0 S s B := by
 obtain ⟨h1, h2⟩ := h.mde ht.1;exact ⟨ht.2.os.trans h.os, ht.2.tape.trans h.tape, ht.2.output.trans h.output, Nat.le_trans h.size ht.2.size, fun k hk hn => (turnLowR ht.2 (Nat.lt_of_lt_of_le hk h.size) (by omega) (fun hq => by have := h2 k hq; omega)).trans (h.low k hk hn), h.mde, h.js, fun j hj => Nat.lt_of_lt_of_le (h.jl j hj) ht.2.size, fun j hj => Nat.lt_of_lt_of_le (h.ql j hj) ht.2.size⟩
theorem CoR.keepsX {w0 : World} {S : List Nat} {s : Sr} {A B : World} (h : CoR w0 S s A) (ht : StepRX s A B) (k : Nat) (o : Obj) (hk : k = w0.heap.size ∨ k = w0.heap.size + 1) (ho : A.heap[k]? = some o) : B.heap[k]? = some o := by
 obtain ⟨h1, h2⟩ := h.mde ht.1;exact (turnLowR ht.2 (Array.getElem?_eq_some_iff.1 ho).1 (by omega) (fun hq => by have := h2 k hq; omega)).trans ho
theorem CoR.round {w0 : World} {S T : List Nat} {s : Sr} {A B : World} {x : Vs} (h : CoR w0 S s A) (hk : Kp T A B) (hT : ∀ k ∈ T, A.heap[k]?.map Obj.isCells = some true) (hS : ∀ k ∈ T, k ∈ S ∨ w0.heap.size ≤ k) (hj : ∀ k ∈ T, k ∉ s.js) : KeepsFrom w0.heap.size A B ∧ KeepR s A B ∧ CoR w0 S (s.nx x) B := by
 have hne : ∀ k (o : Obj), A.heap[k]? = some o → o.isCells = false → k ∉ T := fun k o ho hc e => by
  have := hT k e
  rw [ho] at this;simp at this
  rw [this] at hc
  cases hc
 refine ⟨⟨hk.size, fun k o _ ho hc => (hk.block k (Array.getElem?_eq_some_iff.1 ho).1 (hne k o ho hc)).trans ho⟩, ⟨⟨hk.size, fun k hk' o ho => (hk.block k (Array.getElem?_eq_some_iff.1 ho).1 (fun hm => hj k hm hk')).trans ho⟩, fun _ k o _ ho hc => (hk.block k (Array.getElem?_eq_some_iff.1 ho).1 (hne k o ho hc)).trans ho⟩, ⟨hk.os.trans h.os, hk.tape.trans h.tape, hk.output.trans h.output, Nat.le_trans h.size hk.size, fun k hk' hn => (hk.block k (Nat.lt_of_lt_of_le hk' h.size) (fun hm => by rcases hS k hm with e | e; exact hn e; omega)).trans (h.low k hk' hn), h.mde, h.js, fun j hj => Nat.lt_of_lt_of_le (h.jl j hj) hk.size, fun j hj => Nat.lt_of_lt_of_le (h.ql j hj) hk.size⟩⟩
end Go.Proofs.YtlgfekjoknbfdaaGreatDoor
end

section
namespace Go.Proofs.YtlgfekjoknbfdaaGreatDoor
open Go.RowKit Go.Hay
attribute [local go_sem] Oper.semAt_some
theorem vsAt {w : World} {a : Option Addr} {l : List Vs} (h : VsE.See w a l) {k : Nat} {x : Vs} (hx : l[k]? = some x) : ∃ g o, a = some ⟨g, o, none⟩ ∧ w.cell? ⟨g, o + k, none⟩ = some (.slice x.a x.l.length x.c) := by
 obtain ⟨g, o, e, hc⟩ := h.at hx;refine ⟨g, o, e, ?_⟩;have := hc 0 _ rfl
 simpa [VsE] using this
theorem valsKeepB {X Y : World} {a : Option Addr} {l : List Val} {js : List Nat} (h : Vals X a l) (hk : KeepB js X Y) (hj : ∀ k ∈ blk a, k ∈ js) : Vals Y a l := by
 rcases h with e | ⟨g, o, e, h⟩
 ·exact .inl e
 ·subst e
  have hg : g ∈ js := hj g (by simp [blk])
  refine .inr ⟨g, o, rfl, fun j y hy => ?_⟩
  obtain ⟨h0, h1, h2, h3⟩ := h j y hy;exact ⟨hk.cell hg h0, hk.cell hg h1, hk.cell hg h2, hk.cell hg h3⟩
end Go.Proofs.YtlgfekjoknbfdaaGreatDoor
end

section
namespace Go.Proofs.YtlgfekjoknbfdaaGreatDoor
open Go.RowKit Go.Hay
theorem ownV (a : Option Addr) (n c : Nat) : own (.slice a n c) = blk a := by cases a <;> rfl
def CK (P : Nat → Prop) (X Y : World) : Prop := X.heap.size ≤ Y.heap.size ∧ ∀ p u, P p.block → X.cell? p = some u → Y.cell? p = some u ∧ Y.frozen? p = X.frozen? p
theorem CK.mono {P Q : Nat → Prop} {X Y : World} (h : CK P X Y) (hq : ∀ k, Q k → P k) : CK Q X Y := ⟨h.1, fun p u hp hc => h.2 p u (hq _ hp) hc⟩
theorem CK.trans {P : Nat → Prop} {X Y Z : World} (h : CK P X Y) (k : CK P Y Z) : CK P X Z := ⟨Nat.le_trans h.1 k.1, fun p u hp hc => by
 obtain ⟨h1, h2⟩ := h.2 p u hp hc;obtain ⟨h3, h4⟩ := k.2 p u hp h1;exact ⟨h3, h4.trans h2⟩⟩
theorem CK.ofBlock {P : Nat → Prop} {X Y : World} (hz : X.heap.size ≤ Y.heap.size) (h : ∀ k, P k → k < X.heap.size → Y.heap[k]? = X.heap[k]? ∨ ∃ o : Obj, X.heap[k]? = some o ∧ o.isCells = false) : CK P X Y := ⟨hz, fun p u hp hc => by
 have hl := World.block_lt_of_cell? _ _ hc
 rcases h p.block hp hl with e | ⟨o, ho, hf⟩
 ·exact ⟨(World.cell?_of_block e).trans hc, World.frozen?_of_block e⟩
 ·unfold World.cell? at hc
  rw [ho] at hc
  cases o <;> simp_all [Obj.isCells]⟩
theorem CK.ofKp {S : List Nat} {X Y : World} (h : Kp S X Y) : CK (fun k => k ∉ S) X Y := CK.ofBlock h.size fun k hk hl => .inl (h.block k hl hk)
theorem CK.ofTurn {B0 : Nat} {qs : List Nat} {X Y : World} (h : TurnR B0 qs X Y) : CK (fun k => k ∉ qs) X Y := CK.ofBlock h.size fun k hk hl => by
 rcases h.block k hl with e | e | ⟨_, e⟩
 ·exact .inl e
 ·exact absurd e hk
 ·exact .inr e
theorem CK.ofGrown {X Y : World} {row : Option Nat} (h : X.grownBy Y row) (hr : ∀ r, row = some r → ∃ o : Obj, X.heap[r]? = some o ∧ o.isCells = false) : CK (fun _ => True) X Y := CK.ofBlock h.size fun k _ hl => by
 by_cases e : row = some k
 ·exact .inr (hr k e)
 ·exact .inl (h.block k hl (fun e' => e e'.symm))
theorem ckVals {P : Nat → Prop} {X Y : World} (h : CK P X Y) {a : Option Addr} {l : List Val} (hv : Vals X a l) (hP : ∀ k ∈ blk a, P k) : Vals Y a l := by
 rcases hv with e | ⟨g, o, e, hc⟩
 ·exact .inl e
 ·subst e
  have hg := hP g (by simp [blk])
  refine .inr ⟨g, o, rfl, fun j y hy => ?_⟩
  obtain ⟨h0, h1, h2, h3⟩ := hc j y hy;exact ⟨(h.2 ⟨g, _, none⟩ _ hg h0).1, (h.2 ⟨g, _, none⟩ _ hg h1).1, (h.2 ⟨g, _, none⟩ _ hg h2).1, (h.2 ⟨g, _, none⟩ _ hg h3).1⟩
theorem ckRow {α : Type} {E : El α} {P : Nat → Prop} {X Y : World} (h : CK P X Y) {a : Option Addr} {n c : Nat} {l : List α} (hr : E.Row X (.slice a n c) l) (hP : ∀ k ∈ blk a, P k) : E.Row Y (.slice a n c) l := by
 rcases hr with e | ⟨g, o, cap, e, h1, h2, h3, h4, h5⟩
 ·exact .inl e
 ·injection e with e1 e2 e3
  subst e1 e2 e3;have hg := hP g (by simp [blk])
  refine .inr ⟨g, o, c, rfl, h1, h2, Nat.lt_of_lt_of_le h3 h.1, fun j u hu => (h.2 ⟨g, _, none⟩ u hg (h4 j u hu)).1, fun j hj => ?_⟩
  obtain ⟨h6, h7⟩ := h5 j hj;obtain ⟨u, hu⟩ := Option.isSome_iff_exists.1 h6;obtain ⟨h8, h9⟩ := h.2 ⟨g, _, none⟩ u hg hu;exact ⟨by rw [h8]; rfl, h9.trans h7⟩
theorem Vs.lies.ck {P : Nat → Prop} {X Y : World} {x : Vs} (hx : x.lies X) (h : CK P X Y) (hP : ∀ k ∈ blk x.a, P k) : x.lies Y := ⟨ckVals h hx.see hP, hx.cap, hx.most, hx.nil⟩
structure Lot (N : Nat) (ra : Option Addr) (rc : Nat) (L : List Vs) (W : World) : Prop where
 row : VsE.Row W (.slice ra L.length rc) L
 lies : ∀ x ∈ L, x.lies W
 own : ∀ k ∈ blk ra, N ≤ k
 rows : ∀ x ∈ L, ∀ k ∈ blk x.a, N ≤ k ∧ k < W.heap.size ∧ k ∉ blk ra
theorem Lot.nil (N : Nat) (W : World) : Lot N none 0 [] W := ⟨.inl ⟨rfl, rfl⟩, by simp, by simp [blk], by simp⟩
theorem Lot.ck {N : Nat} {ra : Option Addr} {rc : Nat} {L : List Vs} {P : Nat → Prop} {X Y : World} (h : Lot N ra rc L X) (k : CK P X Y) (h1 : ∀ k ∈ blk ra, P k) (h2 : ∀ x ∈ L, ∀ k ∈ blk x.a, P k) : Lot N ra rc L Y :=
 ⟨ckRow k h.row h1, fun x hx => (h.lies x hx).ck k (h2 x hx), h.own, fun x hx j hj => ⟨(h.rows x hx j hj).1, Nat.lt_of_lt_of_le (h.rows x hx j hj).2.1 k.1, (h.rows x hx j hj).2.2⟩⟩
theorem Lot.lt {N : Nat} {ra : Option Addr} {rc : Nat} {L : List Vs} {X : World} (h : Lot N ra rc L X) : ∀ k ∈ blk ra, k < X.heap.size := fun k hk => h.row.lt k (by rw [ownV]; exact hk)
theorem Lot.mono {N M : Nat} {ra : Option Addr} {rc : Nat} {L : List Vs} {X : World} (h : Lot N ra rc L X) (hm : M ≤ N) : Lot M ra rc L X :=
 ⟨h.row, h.lies, fun k hk => Nat.le_trans hm (h.own k hk), fun x hx k hk => ⟨Nat.le_trans hm (h.rows x hx k hk).1, (h.rows x hx k hk).2⟩⟩
theorem infoVs : ∃ i : TypeInfo, Tryz.prog.info? 61 = some i ∧ i.zero = some (.slice none 0 0) ∧ i.size = 1 ∧ i.bytes = 24 := by
 have h : (Tryz.prog.info? 61).map (fun i => (i.zero, i.size, i.bytes)) = some (some (.slice none 0 0), 1, 24) := by kernel_rfl
 cases e : Tryz.prog.info? 61 with
 | none => rw [e] at h; cases h
 | some i =>
  rw [e] at h;simp at h
  exact ⟨i, rfl, h.1, h.2.1, h.2.2⟩
theorem Lot.app {N : Nat} {ra : Option Addr} {rc : Nat} {L : List Vs} {w : World} (h : Lot N ra rc L w) (x : Vs) (hx : x.lies w) (hN : N ≤ w.heap.size) (hb : ∀ k ∈ blk x.a, N ≤ k ∧ k < w.heap.size ∧ k ∉ blk ra) (hl : L.length ≤ 4000000000000) :
  ∃ a' c' W', (Builtin.append_ #[60, 60] 60 #[.slice ra L.length rc, .slice (some ⟨w.heap.size, 0, none⟩) 1 1]).run Tryz.prog (w.alloc (.cells #[.slice x.a x.l.length x.c] 61)) = .ok (.slice a' (L ++ [x]).length c') W' ∧ Lot N a' c' (L ++ [x]) W' ∧ Kp (blk ra) w W' ∧ ∀ k ∈ blk a', k ∈ blk ra ∨ w.heap.size ≤ k := by
 obtain ⟨A1, hA1⟩ : ∃ A1, w.alloc (.cells #[.slice x.a x.l.length x.c] 61) = A1 := ⟨_, rfl⟩
 have kA1 : Kp [] w A1 := by rw [← hA1]; exact (Kp.refl _ _).alloc _
 have bx1 : Bn A1 w.heap.size (VsE.c x) := by rw [← hA1]; exact Bn.new w (VsE.c x) _
 have hs1 : VsE.See A1 (some ⟨w.heap.size, 0, none⟩) [x] := .inr ⟨w.heap.size, 0, rfl, fun j u hu => by rw [Nat.zero_add]; exact bx1.get j u (by simpa [El.cs] using hu)⟩
 obtain ⟨i0, hi, hz0', hz1', hz2'⟩ := infoVs;have hsr := hs1.src (P := Tryz.prog) Tryz.underlying60 1
 obtain ⟨v', A2, hrun, hrow2, k2, hn2⟩ := run_appendG (E := VsE) (P := Tryz.prog) A1 60 60 60 61 i0 _ 24 Tryz.underlying60 hi hz0' hz1' hz2' rfl (.slice ra L.length rc) L (h.row.keptNew kA1) _ [x] hsr (by simp only [List.length_cons, List.length_nil]; omega) (by simp only [List.length_cons, List.length_nil]; omega)
 obtain ⟨a', c', rfl, _⟩ := hrow2.see;simp only [ownV] at k2 hn2;rw [hA1];have z1 := kA1.size
 have kw : Kp (blk ra) w A2 := (kA1.mono (by simp)).trans k2 (fun j hj => .inl hj)
 have hnew : ∀ k ∈ blk a', k ∈ blk ra ∨ w.heap.size ≤ k := fun k hk => by
  rcases hn2 k hk with e | e
  ·exact .inl e
  ·exact .inr (by omega)
 have ck := CK.ofKp kw
 refine ⟨a', c', A2, hrun, ⟨hrow2, fun y hy => ?_, fun k hk => ?_, fun y hy k hk => ?_⟩, kw, hnew⟩
 ·rcases List.mem_append.1 hy with hy | hy
  ·exact (h.lies y hy).ck ck (fun k hk => (h.rows y hy k hk).2.2)
  ·rw [List.mem_singleton.1 hy]; exact hx.ck ck (fun k hk => (hb k hk).2.2)
 ·rcases hnew k hk with e | e
  ·exact h.own k e
  ·omega
 ·have h0 : N ≤ k ∧ k < w.heap.size ∧ k ∉ blk ra := by
   rcases List.mem_append.1 hy with hy | hy
   ·exact h.rows y hy k hk
   ·rw [List.mem_singleton.1 hy] at hk; exact hb k hk
  refine ⟨h0.1, Nat.lt_of_lt_of_le h0.2.1 kw.size, fun hm => ?_⟩
  rcases hnew k hm with e | e
  ·exact h0.2.2 e
  ·omega
end Go.Proofs.YtlgfekjoknbfdaaGreatDoor
end

/- Versions in memory; the calls that only read one: Less, Seen, As, the program's and the reference's; copies. copyOf, As; how rows in memory lie: New, Len, find. Where a name stands: find. Cells written over in a row; a copy onto it; an insertion. No statement of the seat is proved here. -/
import Derived.Test.YtdjlefacdfdhmaaRows
import Derived.Test.YtdjlefacdfdhmaaB1
import Derived.Laws.StructEq
import Derived.Handy
import Derived.BigQuiet
import Derived.Deep.QuietTactic
import Derived.Deep.RegionHeld3
import Derived.Deep.RegionWith
import Derived.Laws.Cover3
import Derived.Lib.AppendZerosOnto
import Derived.Lib.Overlaps
section
namespace Go.Proofs.Ytdjlefacdfdhmaa
open Go.RowKit Go.Hay
set_option linter.unusedVariables false
set_option linter.unusedSimpArgs false

theorem kpAt {w w' : World} {p : Addr} {v : Value} (hk : Kp [] w w') (h : w.cell? p = some v) : w'.cell? p = some v := (hk.cell (World.block_lt_of_cell? _ _ h) (by simp)).trans h
theorem own_slice (a : Option Addr) (n c : Nat) : own (.slice a n c) = blk a := by cases a <;> rfl
/-- A variable's block of any number of cells. -/
structure Bx (w : World) (q : Nat) (cs : List Value) : Prop where
  get : ∀ i u, cs[i]? = some u → w.cell? ⟨q, i, none⟩ = some u
  free : ∀ i, w.frozen? ⟨q, i, none⟩ = false
theorem Bx.new (w : World) (cs : List Value) (t : TypeId) : Bx (w.alloc (.cells cs.toArray t)) w.heap.size cs :=
  ⟨fun i u hu => by
    have e : (w.alloc (.cells cs.toArray t)).cell? ⟨w.heap.size, i, none⟩ = _ := World.cell?_alloc_new w _ _ i
    rw [e]; simpa using hu, fun i => World.frozen?_alloc_new w _ _ i⟩
theorem Bx.lt {w : World} {q : Nat} {cs : List Value} (h : Bx w q cs) (hn : 0 < cs.length) : q < w.heap.size := World.block_lt_of_cell? _ _ (h.get 0 cs[0] (by simp [hn]))
theorem Bx.keptS {w w' : World} {S : List Nat} {q : Nat} {cs : List Value} (h : Bx w q cs) (hk : Kp S w w') (hq : q ∉ S) (hl : q < w.heap.size) : Bx w' q cs :=
  ⟨fun i u hu => (hk.cell (p := ⟨q, i, none⟩) hl hq).trans (h.get i u hu), fun i => (hk.frozen (p := ⟨q, i, none⟩) hl hq).trans (h.free i)⟩
theorem Bx.kept {w w' : World} {q : Nat} {cs : List Value} (h : Bx w q cs) (hk : Kp [] w w') (hl : q < w.heap.size) : Bx w' q cs := h.keptS hk (by simp) hl
theorem Bx.set {w : World} {q : Nat} {cs : List Value} (h : Bx w q cs) (i : Nat) (hi : i < cs.length) (v : Value) : Bx (w.setCell ⟨q, i, none⟩ v) q (cs.set i v) :=
  ⟨fun j u hu => by
    by_cases e : j = i
    · subst e
      rw [List.getElem?_set_self hi] at hu
      cases hu
      exact World.cell?_setCell_same _ _ _ (h.get j cs[j] (by simp [hi]))
    · rw [List.getElem?_set_ne (fun h => e h.symm)] at hu
      rw [World.cell?_setCell_other _ _ _ _ (by intro h; simp only [Addr.mk.injEq] at h; omega)]
      exact h.get j u hu, fun j => by rw [World.frozen?_setCell]; exact h.free j⟩
/-- Four cells stored at once. -/
theorem Bx.set4 {w : World} {q : Nat} {cs : List Value} (h : Bx w q cs) (hl : cs.length = 4) (v0 v1 v2 v3 : Value) : ∃ W, (((w.setCell ⟨q, 0, none⟩ v0).setCell ⟨q, 1, none⟩ v1).setCell ⟨q, 2, none⟩ v2).setCell ⟨q, 3, none⟩ v3 = W ∧ Bx W q [v0, v1, v2, v3] ∧ Kp [q] w W := by
  refine ⟨_, rfl, ?_, ?_⟩
  · have e : [v0, v1, v2, v3] = (((cs.set 0 v0).set 1 v1).set 2 v2).set 3 v3 := by
      match cs, hl with
      | [_, _, _, _], _ => rfl
    rw [e]
    exact (((h.set 0 (by simp [hl]) _).set 1 (by simp [hl]) _).set 2 (by simp [hl]) _).set 3 (by simp [hl]) _
  · have hk : Kp [q] w w := Kp.refl _ _
    exact (((hk.setCell (.inl (by simp)) _).setCell (.inl (by simp)) _).setCell (.inl (by simp)) _).setCell (.inl (by simp)) _
/-- What a version's row sees, and its room. -/
structure VnOk (w : World) (x : Vn) : Prop where
  see : VE.See w x.a x.row
  cap : x.row.length ≤ x.c
  nil : x.a = none → x.c = 0
  few : x.row.length * 40 ≤ 140737488355328
/-- The block that a version's row lies in. -/
def bkV (x : Vn) : List Nat := if x.row = [] then [] else blk x.a
theorem VnOk.lt {w : World} {x : Vn} (h : VnOk w x) : ∀ k ∈ bkV x, k < w.heap.size := fun k hk => by
  unfold bkV at hk
  split at hk
  · cases hk
  · rename_i hne; exact h.see.lt hne k hk
theorem VnOk.keptS {w w' : World} {x : Vn} {S : List Nat} (h : VnOk w x) (hk : Kp S w w') (hn : ∀ k ∈ bkV x, k ∉ S) : VnOk w' x :=
  ⟨h.see.kept hk (fun hne k hk' => hn k (by unfold bkV; rw [if_neg hne]; exact hk')), h.cap, h.nil, h.few⟩
theorem VnOk.kept {w w' : World} {x : Vn} (h : VnOk w x) (hk : Kp [] w w') : VnOk w' x := h.keptS hk (by simp)
theorem VnOk.era {w : World} {x : Vn} (h : VnOk w x) (e : Int) : VnOk w (erased x e) := ⟨h.see, h.cap, h.nil, h.few⟩

theorem info3 {P : Program} {t : TypeId} {z : Value} {a b : Nat} (h : (P.info? t).map (fun i => (i.zero, i.size, i.bytes)) = some (some z, a, b)) : ∃ i, P.info? t = some i ∧ i.zero = some z ∧ i.size = a ∧ i.bytes = b := by
  cases hp : P.info? t with
  | none => rw [hp] at h; cases h
  | some i =>
    rw [hp] at h
    simp at h
    exact ⟨i, rfl, h.1, h.2.1, h.2.2⟩
theorem infoV : ∃ i : TypeInfo, Try.prog.info? 64 = some i ∧ i.zero = some (.agg #[.int .i64 0, .bool false, .int .i64 0, .string ⟨#[]⟩]) ∧ i.size = 4 ∧ i.bytes = 40 := info3 (by kernel_rfl)
theorem infoN : ∃ i : TypeInfo, Try.prog.info? 45 = some i ∧ i.zero = some (.agg #[.int .u64 0, .int .u32 0, .slice none 0 0, .int .u64 0]) ∧ i.size = 4 ∧ i.bytes = 48 := info3 (by kernel_rfl)

theorem ltI_mk (a b c d : Int) : ltI (a, b) (c, d) = if a = c then decide (b < d) else decide (a < c) := rfl
theorem cLess (a b c d : Int) (w : World) : Calls Try.prog 49 #[.agg #[.int .u64 a, .int .u32 b], .agg #[.int .u64 c, .int .u32 d]] w fun e w' => e = .returned (.bool (ltI (a, b) (c, d))) ∧ Kp [] w w' := by
  rw [ltI_mk]
  by_cases h : a = c
  · rw [if_pos h]
    have e1 : (a != c) = false := by simpa using h
    clear h
    go_enter Try.func49, Try.ntmps49
    go_wp2_with fail
    go_returns
    exact ⟨rfl, ((Kp.refl _ _).alloc _).alloc _⟩
  · rw [if_neg h]
    have e1 : (a != c) = true := by simpa using h
    clear h
    go_enter Try.func49, Try.ntmps49
    go_wp2_with fail
    go_returns
    exact ⟨rfl, ((Kp.refl _ _).alloc _).alloc _⟩
theorem rLess (a b c d : Int) (w : World) : Calls Try.prog 56 #[.agg #[.int .u64 a, .int .u32 b], .agg #[.int .u64 c, .int .u32 d]] w fun e w' => e = .returned (.bool (ltI (a, b) (c, d))) ∧ Kp [] w w' := by
  rw [ltI_mk]
  by_cases h : a = c
  · rw [if_pos h]
    have e1 : (a != c) = false := by simpa using h
    clear h
    go_enter Try.func56, Try.ntmps56
    go_wp2_with fail
    go_returns
    exact ⟨rfl, ((Kp.refl _ _).alloc _).alloc _⟩
  · rw [if_neg h]
    have e1 : (a != c) = true := by simpa using h
    clear h
    go_enter Try.func56, Try.ntmps56
    go_wp2_with fail
    go_returns
    exact ⟨rfl, ((Kp.refl _ _).alloc _).alloc _⟩
theorem cSeen (x : Vn) (e : Int) (w : World) : Calls Try.prog 27 #[x.v, .int .u64 e] w fun r w' => r = .returned (.bool (seenV e x)) ∧ Kp [] w w' := by
  obtain ⟨ep, num, a, c, row, del⟩ := x
  unfold seenV Vn.v
  dsimp only
  by_cases h1 : ep ≤ e
  · have d1 : decide (ep ≤ e) = true := by simpa using h1
    rw [d1]
    by_cases h2 : del = 0
    · have d2 : (del == 0) = true := by simpa using h2
      have d3 : decide (del = 0) = true := by simpa using h2
      rw [d3]
      clear h1 h2
      go_enter Try.func27, Try.ntmps27
      go_wp2_with fail
      go_returns
      exact ⟨rfl, (Kp.refl _ _).alloc _⟩
    · have d2 : (del == 0) = false := by simpa using h2
      have d3 : decide (del = 0) = false := by simpa using h2
      rw [d3]
      clear h1 h2
      go_enter Try.func27, Try.ntmps27
      go_wp2_with fail
      go_returns
      exact ⟨by simp, (Kp.refl _ _).alloc _⟩
  · have d1 : decide (ep ≤ e) = false := by simpa using h1
    rw [d1]
    clear h1
    go_enter Try.func27, Try.ntmps27
    go_wp2_with fail
    go_returns
    exact ⟨rfl, (Kp.refl _ _).alloc _⟩
theorem rSeen (x : Vn) (e : Int) (w : World) : Calls Try.prog 33 #[x.v, .int .u64 e] w fun r w' => r = .returned (.bool (seenV e x)) ∧ Kp [] w w' := by
  obtain ⟨ep, num, a, c, row, del⟩ := x
  unfold seenV Vn.v
  dsimp only
  by_cases h1 : ep ≤ e
  · have d1 : decide (ep ≤ e) = true := by simpa using h1
    have d0 : ¬ e < ep := by omega
    rw [d1]
    by_cases h2 : del = 0
    · have d2 : (del == 0) = true := by simpa using h2
      have d3 : decide (del = 0) = true := by simpa using h2
      rw [d3]
      clear h1 h2
      go_enter Try.func33, Try.ntmps33
      go_wp2_with fail
      go_returns
      exact ⟨rfl, (Kp.refl _ _).alloc _⟩
    · have d2 : (del == 0) = false := by simpa using h2
      have d3 : decide (del = 0) = false := by simpa using h2
      rw [d3]
      clear h1 h2
      go_enter Try.func33, Try.ntmps33
      go_wp2_with fail
      go_returns
      exact ⟨by simp, (Kp.refl _ _).alloc _⟩
  · have d1 : decide (ep ≤ e) = false := by simpa using h1
    have d0 : e < ep := by omega
    rw [d1]
    clear h1
    go_enter Try.func33, Try.ntmps33
    go_wp2_with fail
    go_returns
    exact ⟨rfl, (Kp.refl _ _).alloc _⟩
theorem rAs (x : Vn) (e : Int) (w : World) : Calls Try.prog 34 #[x.v, .int .u64 e] w fun r w' => r = .returned (asV e x).v ∧ Kp [] w w' := by
  obtain ⟨ep, num, a, c, row, del⟩ := x
  unfold asV erased Vn.v
  dsimp only
  by_cases h1 : e < del
  · rw [if_pos h1]
    go_enter Try.func34, Try.ntmps34
    go_wp2_with fail
    go_returns
    exact ⟨rfl, ((Kp.refl _ _).alloc _).alloc _⟩
  · rw [if_neg h1]
    go_enter Try.func34, Try.ntmps34
    go_wp2_with fail
    go_returns
    exact ⟨rfl, ((Kp.refl _ _).alloc _).alloc _⟩
/-- A slice held against nil. -/
theorem eqNilV (a : Option Addr) (n c : Nat) (w : World) : (binOp .eql 43 (.slice a n c) (.slice none 0 0)).run Try.prog w = .ok (.bool a.isNone) w := by
  simp only [binOp]
  simp [run_equal_slice_nil w 43 64 a n c Try.underlying43]
theorem eqNilN (a : Option Addr) (n c : Nat) (w : World) : (binOp .eql 26 (.slice a n c) (.slice none 0 0)).run Try.prog w = .ok (.bool a.isNone) w := by
  simp only [binOp]
  simp [run_equal_slice_nil w 26 45 a n c Try.underlying26]
/-- A row of none, in a block of its own. -/
theorem rowNone {α : Type} (E : El α) (w : World) {q : Nat} (hq : w.heap.size = q) (C : Array Value) (t : TypeId) : E.Row (w.alloc (.cells C t)) (.slice (some ⟨q, 0, none⟩) 0 0) [] := by
  subst hq
  exact .inr ⟨_, 0, 0, rfl, Nat.le_refl _, Nat.zero_le _, by simp, by intro j u hu; simp [El.cs] at hu, by intro j hj; omega⟩
/-- A copy, all new. -/
def CloneP {α : Type} (E : El α) (l : List α) (w : World) (e : Ending) (w' : World) : Prop := ∃ a c, e = .returned (.slice a l.length c) ∧ E.Row w' (.slice a l.length c) l ∧ Kp [] w w' ∧ ∀ k ∈ blk a, w.heap.size ≤ k
set_option maxHeartbeats 4000000 in
set_option maxRecDepth 100000 in
theorem cCloneV (a : Option Addr) (c : Nat) (l : List Val) (w : World) (hs : VE.See w a l) (hn : a = none → c = 0) (hb : l.length * 40 ≤ 140737488355328) :
    Calls Try.prog 52 #[.slice a l.length c] w (CloneP VE l w) := by
  cases a with
  | none =>
    have hl : l = [] := by rcases hs with h | ⟨g, o, h, _⟩; exact h; cases h
    subst hl
    rw [hn rfl]
    have e1 := eqNilV none 0 0
    go_enter Try.func52, Try.ntmps52
    go_wp2_with fail
    go_ret
    exact ⟨none, 0, rfl, .inl ⟨rfl, rfl⟩, Kp.refl _ _, by simp [blk]⟩
  | some ad =>
    have e0 := eqNilV (some ad) l.length c
    go_enter Try.func52, Try.ntmps52
    have k1 : Kp [] w (w.alloc (.cells #[] 64)) := (Kp.refl _ _).alloc _
    have hr := rowNone VE w rfl #[] 64
    have hsr := (hs.keptNew k1).src (P := Try.prog) Try.underlying43 c
    obtain ⟨i0, hi, hz0, hz1, hz2⟩ := infoV
    go_wp2_with (first | (refine wpAppG (E := VE) rfl _ _ 43 43 64 rfl i0 _ 40 Try.underlying43 hi hz0 hz1 hz2 rfl _ [] rfl hr _ l rfl hsr (by simp; omega) (by simp; omega) ?_; intro ys a' c' w' hy hrow hg hn) | fail)
    go_ret
    have e : ys = l := by rw [hy.out]; rfl
    subst e
    refine ⟨a', c', rfl, hrow, k1.trans hg (fun k hk => .inr ?_), fun k hk => ?_⟩
    · simp [own, Value.ownBlock, Act.eval] at hk; omega
    · rcases hn k hk with h1 | h1
      · simp [own, Value.ownBlock, Act.eval] at h1; omega
      · exact Nat.le_trans k1.size h1
set_option maxHeartbeats 4000000 in
set_option maxRecDepth 100000 in
theorem cCloneN (a : Option Addr) (c : Nat) (l : List Vn) (w : World) (hs : VnE.See w a l) (hn : a = none → c = 0) (hb : l.length ≤ 4000000000000) :
    Calls Try.prog 40 #[.slice a l.length c] w (CloneP VnE l w) := by
  cases a with
  | none =>
    have hl : l = [] := by rcases hs with h | ⟨g, o, h, _⟩; exact h; cases h
    subst hl
    rw [hn rfl]
    have e1 := eqNilN none 0 0
    go_enter Try.func40, Try.ntmps40
    go_wp2_with fail
    go_ret
    exact ⟨none, 0, rfl, .inl ⟨rfl, rfl⟩, Kp.refl _ _, by simp [blk]⟩
  | some ad =>
    have e0 := eqNilN (some ad) l.length c
    go_enter Try.func40, Try.ntmps40
    have k1 : Kp [] w (w.alloc (.cells #[] 45)) := (Kp.refl _ _).alloc _
    have hr := rowNone VnE w rfl #[] 45
    have hsr := (hs.keptNew k1).src (P := Try.prog) Try.underlying26 c
    obtain ⟨i0, hi, hz0, hz1, hz2⟩ := infoN
    go_wp2_with (first | (refine wpAppG (E := VnE) rfl _ _ 26 26 45 rfl i0 _ 48 Try.underlying26 hi hz0 hz1 hz2 rfl _ [] rfl hr _ l rfl hsr (by simp; omega) (by simp; omega) ?_; intro ys a' c' w' hy hrow hg hn) | fail)
    go_ret
    have e : ys = l := by rw [hy.out]; rfl
    subst e
    refine ⟨a', c', rfl, hrow, k1.trans hg (fun k hk => .inr ?_), fun k hk => ?_⟩
    · simp [own, Value.ownBlock, Act.eval] at hk; omega
    · rcases hn k hk with h1 | h1
      · simp [own, Value.ownBlock, Act.eval] at h1; omega
      · exact Nat.le_trans k1.size h1
end Go.Proofs.Ytdjlefacdfdhmaa
end

section
namespace Go.Proofs.Ytdjlefacdfdhmaa
open Go.RowKit Go.Hay
set_option linter.unusedVariables false
set_option linter.unusedSimpArgs false

/-- A version whose row is all new. -/
def CopP (x : Vn) (w : World) (e : Ending) (w' : World) : Prop :=
  ∃ a c, e = .returned (.agg #[.int .u64 x.ep, .int .u32 x.num, .slice a x.row.length c, .int .u64 x.del]) ∧ VE.Row w' (.slice a x.row.length c) x.row ∧ Kp [] w w' ∧ ∀ k ∈ blk a, w.heap.size ≤ k
theorem box45 (w : World) (v0 v1 v2 v3 u0 u1 u2 u3 : Value) (t : TypeId) : ∃ w1, (w.alloc (.cells #[v0, v1, v2, v3] t)).alloc (.cells #[u0, u1, u2, u3] t) = w1 ∧ Kp [] w w1 ∧ Bx w1 w.heap.size [v0, v1, v2, v3] ∧ Bx w1 (w.heap.size + 1) [u0, u1, u2, u3] ∧ w.heap.size + 2 ≤ w1.heap.size := by
  refine ⟨_, rfl, ((Kp.refl _ _).alloc _).alloc _, (Bx.new w [v0, v1, v2, v3] t).kept ((Kp.refl _ _).alloc _) (by simp), ?_, by simp⟩
  have := Bx.new (w.alloc (.cells #[v0, v1, v2, v3] t)) [u0, u1, u2, u3] t
  rwa [World.size_alloc] at this
set_option maxHeartbeats 4000000 in
theorem cCopyOf (x : Vn) (w : World) (h : VnOk w x) : Calls Try.prog 37 #[x.v] w (CopP x w) := by
  obtain ⟨ep, num, a, c, row, del⟩ := x
  obtain ⟨w1, hw1, k1, b0, b1, hz1⟩ := box45 w (.int .u64 ep) (.int .u32 num) (.slice a row.length c) (.int .u64 del) (.int .u64 0) (.int .u32 0) (.slice none 0 0) (.int .u64 0) 45
  have cC := cCloneV a c row w1 (h.see.keptNew k1) h.nil h.few
  have p2 := b0.get 2 _ rfl
  unfold Vn.v CopP
  dsimp only
  clear h
  go_enter Try.func37, Try.ntmps37
  go_wp2_with fail
  refine cC.mono ?_
  rintro e w2 ⟨a2, c2, rfl, hr2, k2, hn2⟩
  have d0 := b0.kept k2 (by omega)
  have d1 := b1.kept k2 (by omega)
  have hz2 := k2.size
  have f0 := d0.get 2 _ rfl; have f1 := d0.free 2
  obtain ⟨w3, hw3⟩ : ∃ y, w2.setCell ⟨w.heap.size, 2, none⟩ (.slice a2 row.length c2) = y := ⟨_, rfl⟩
  have k3 : Kp [w.heap.size] w2 w3 := by rw [← hw3]; exact (Kp.refl _ _).setCell (.inl (by simp)) _
  have e0 : Bx w3 w.heap.size [.int .u64 ep, .int .u32 num, .slice a2 row.length c2, .int .u64 del] := by rw [← hw3]; exact d0.set 2 (by simp) _
  have e1 := d1.keptS k3 (by simp) (by omega)
  obtain ⟨w4, hw4, g1, k4⟩ := e1.set4 rfl (.int .u64 ep) (.int .u32 num) (.slice a2 row.length c2) (.int .u64 del)
  have kk : Kp [] w w4 := ((k1.trans k2 (by simp)).trans k3 (fun x hx => .inr (by simp at hx; omega))).trans k4 (fun x hx => .inr (by simp at hx; omega))
  have hnew : ∀ k ∈ blk a2, w.heap.size + 2 ≤ k := fun k hk => by have := hn2 k hk; omega
  have hr4 : VE.Row w4 (.slice a2 row.length c2) row := (hr2.kept k3 (fun k hk => by rw [own_slice] at hk; have := hnew k hk; simp; omega)).kept k4 (fun k hk => by rw [own_slice] at hk; have := hnew k hk; simp; omega)
  have x0 := e0.get 0 _ rfl; have x1 := e0.get 1 _ rfl; have x2 := e0.get 2 _ rfl; have x3 := e0.get 3 _ rfl
  have y0 := e1.get 0 _ rfl; have y1 := e1.get 1 _ rfl; have y2 := e1.get 2 _ rfl; have y3 := e1.get 3 _ rfl
  have z0 := e1.free 0; have z1 := e1.free 1; have z2 := e1.free 2; have z3 := e1.free 3
  have r0 := g1.get 0 _ rfl; have r1 := g1.get 1 _ rfl; have r2 := g1.get 2 _ rfl; have r3 := g1.get 3 _ rfl
  have H := hid (And.intro hr4 (And.intro kk hnew))
  clear cC hr2 k2 hn2 d0 d1 k3 e0 e1 g1 k4 kk hnew hr4 b0 b1 k1 hw1 p2
  go_wp2_with fail
  refine bodyPost_ret (v := .agg #[.int .u64 ep, .int .u32 num, .slice a2 row.length c2, .int .u64 del]) (by simp [results, Try.results37, go_sem, r0, r1, r2, r3]) rfl ?_
  exact ⟨a2, c2, rfl, H.out.1, H.out.2.1, fun k hk => by have := H.out.2.2 k hk; omega⟩
set_option maxHeartbeats 4000000 in
theorem cAs (x : Vn) (w : World) (h : VnOk w x) (e : Int) : Calls Try.prog 30 #[x.v, .int .u64 e] w (CopP (asV e x) w) := by
  obtain ⟨ep, num, a, c, row, del⟩ := x
  obtain ⟨w1, hw1, k1, b0, b1, hz1⟩ := box45 w (.int .u64 ep) (.int .u32 num) (.slice a row.length c) (.int .u64 del) (.int .u64 0) (.int .u32 0) (.slice none 0 0) (.int .u64 0) 45
  have cC := cCopyOf ⟨ep, num, a, c, row, del⟩ w1 (h.kept k1)
  have p0 := b0.get 0 _ rfl; have p1 := b0.get 1 _ rfl; have p2 := b0.get 2 _ rfl; have p3 := b0.get 3 _ rfl
  unfold CopP Vn.v at cC
  unfold Vn.v CopP
  dsimp only at cC ⊢
  clear h
  go_enter Try.func30, Try.ntmps30
  go_wp2_with fail
  refine cC.mono ?_
  rintro e' w2 ⟨a2, c2, rfl, hr2, k2, hn2⟩
  have d0 := b0.kept k2 (by omega)
  have d1 := b1.kept k2 (by omega)
  have hz2 := k2.size
  have f0 := d0.get 0 _ rfl; have f1 := d0.get 1 _ rfl; have f2 := d0.get 2 _ rfl; have f3 := d0.get 3 _ rfl
  have q0 := d0.free 0; have q1 := d0.free 1; have q2 := d0.free 2; have q3 := d0.free 3
  obtain ⟨w3, hw3, e0, k3⟩ := d0.set4 rfl (.int .u64 ep) (.int .u32 num) (.slice a2 row.length c2) (.int .u64 del)
  have e1 := d1.keptS k3 (by simp) (by omega)
  have hnew : ∀ k ∈ blk a2, w.heap.size + 2 ≤ k := fun k hk => by have := hn2 k hk; omega
  have x0 := e0.get 0 _ rfl; have x1 := e0.get 1 _ rfl; have x2 := e0.get 2 _ rfl; have x3 := e0.get 3 _ rfl
  have xf := e0.free 3
  by_cases hd : e < del
  · obtain ⟨w5, hw5⟩ : ∃ y, w3.setCell ⟨w.heap.size, 3, none⟩ (.int .u64 0) = y := ⟨_, rfl⟩
    have k5 : Kp [w.heap.size] w3 w5 := by rw [← hw5]; exact (Kp.refl _ _).setCell (.inl (by simp)) _
    have e5 : Bx w5 w.heap.size [.int .u64 ep, .int .u32 num, .slice a2 row.length c2, .int .u64 0] := by rw [← hw5]; exact e0.set 3 (by simp) _
    have e6 := e1.keptS k5 (by simp) (by have := k3.size; omega)
    have u0 := e5.get 0 _ rfl; have u1 := e5.get 1 _ rfl; have u2 := e5.get 2 _ rfl; have u3 := e5.get 3 _ rfl
    have y0 := e6.get 0 _ rfl; have y1 := e6.get 1 _ rfl; have y2 := e6.get 2 _ rfl; have y3 := e6.get 3 _ rfl
    have z0 := e6.free 0; have z1 := e6.free 1; have z2 := e6.free 2; have z3 := e6.free 3
    obtain ⟨w4, hw4, g1, k4⟩ := e6.set4 rfl (.int .u64 ep) (.int .u32 num) (.slice a2 row.length c2) (.int .u64 0)
    have kk : Kp [] w w4 := (((k1.trans k2 (by simp)).trans k3 (fun x hx => .inr (by simp at hx; omega))).trans k5 (fun x hx => .inr (by simp at hx; omega))).trans k4 (fun x hx => .inr (by simp at hx; omega))
    have hr4 : VE.Row w4 (.slice a2 row.length c2) row := ((hr2.kept k3 (fun k hk => by rw [own_slice] at hk; have := hnew k hk; simp; omega)).kept k5 (fun k hk => by rw [own_slice] at hk; have := hnew k hk; simp; omega)).kept k4 (fun k hk => by rw [own_slice] at hk; have := hnew k hk; simp; omega)
    have r0 := g1.get 0 _ rfl; have r1 := g1.get 1 _ rfl; have r2 := g1.get 2 _ rfl; have r3 := g1.get 3 _ rfl
    have H := hid (And.intro hr4 (And.intro kk hnew))
    have ha : Hid (asV e ⟨ep, num, a, c, row, del⟩ = ⟨ep, num, a, c, row, 0⟩) := by show _ = _; unfold asV; rw [if_pos hd]; rfl
    clear cC hr2 k2 hn2 d0 d1 k3 e0 e1 g1 k4 kk hnew hr4 b0 b1 k1 hw1 p0 p1 p2 p3 k5 e5 e6
    go_wp2_with fail
    refine bodyPost_ret (v := .agg #[.int .u64 ep, .int .u32 num, .slice a2 row.length c2, .int .u64 0]) (by simp [results, Try.results30, go_sem, r0, r1, r2, r3]) rfl ?_
    rw [ha.out]
    exact ⟨a2, c2, rfl, H.out.1, H.out.2.1, fun k hk => by have := H.out.2.2 k hk; omega⟩
  · have y0 := e1.get 0 _ rfl; have y1 := e1.get 1 _ rfl; have y2 := e1.get 2 _ rfl; have y3 := e1.get 3 _ rfl
    have z0 := e1.free 0; have z1 := e1.free 1; have z2 := e1.free 2; have z3 := e1.free 3
    obtain ⟨w4, hw4, g1, k4⟩ := e1.set4 rfl (.int .u64 ep) (.int .u32 num) (.slice a2 row.length c2) (.int .u64 del)
    have kk : Kp [] w w4 := ((k1.trans k2 (by simp)).trans k3 (fun x hx => .inr (by simp at hx; omega))).trans k4 (fun x hx => .inr (by simp at hx; omega))
    have hr4 : VE.Row w4 (.slice a2 row.length c2) row := (hr2.kept k3 (fun k hk => by rw [own_slice] at hk; have := hnew k hk; simp; omega)).kept k4 (fun k hk => by rw [own_slice] at hk; have := hnew k hk; simp; omega)
    have r0 := g1.get 0 _ rfl; have r1 := g1.get 1 _ rfl; have r2 := g1.get 2 _ rfl; have r3 := g1.get 3 _ rfl
    have H := hid (And.intro hr4 (And.intro kk hnew))
    have ha : Hid (asV e ⟨ep, num, a, c, row, del⟩ = ⟨ep, num, a, c, row, del⟩) := by show _ = _; unfold asV; rw [if_neg hd]
    clear cC hr2 k2 hn2 d0 d1 k3 e0 e1 g1 k4 kk hnew hr4 b0 b1 k1 hw1 p0 p1 p2 p3
    go_wp2_with fail
    refine bodyPost_ret (v := .agg #[.int .u64 ep, .int .u32 num, .slice a2 row.length c2, .int .u64 del]) (by simp [results, Try.results30, go_sem, r0, r1, r2, r3]) rfl ?_
    rw [ha.out]
    exact ⟨a2, c2, rfl, H.out.1, H.out.2.1, fun k hk => by have := H.out.2.2 k hk; omega⟩
/-- Rows in memory lie at p; its cell holds v. -/
structure Wos (w : World) (p : Nat) (v : Value) (l : List Vn) : Prop where
  c0 : w.cell? ⟨p, 0, none⟩ = some v
  free : ∀ j, w.frozen? ⟨p, j, none⟩ = false
  row : VnE.Row w v l
  ok : ∀ x ∈ l, VnOk w x
  apart : p ∉ own v
  off : ∀ x ∈ l, ∀ k ∈ bkV x, k ∉ p :: own v
  srt : Srt l
  few : l.length ≤ 4000000000000
section
variable {w w' : World} {p : Nat} {v : Value} {l : List Vn}
theorem Wos.lt (h : Wos w p v l) : p < w.heap.size := World.block_lt_of_cell? _ _ h.c0
theorem Wos.ltAll (h : Wos w p v l) : ∀ k ∈ p :: own v, k < w.heap.size := fun k hk => by
  rcases List.mem_cons.1 hk with rfl | hk
  · exact h.lt
  · exact h.row.lt k hk
theorem Wos.kept {S : List Nat} (h : Wos w p v l) (hk : Kp S w w') (hn : ∀ k ∈ p :: own v, k ∉ S) (hr : ∀ x ∈ l, ∀ k ∈ bkV x, k ∉ S) : Wos w' p v l :=
  ⟨(hk.cell (p := ⟨p, 0, none⟩) h.lt (hn p (by simp))).trans h.c0, fun j => (hk.frozen (p := ⟨p, j, none⟩) h.lt (hn p (by simp))).trans (h.free j), h.row.kept hk (fun k hk' => hn k (by simp [hk'])), fun x hx => (h.ok x hx).keptS hk (hr x hx), h.apart, h.off, h.srt, h.few⟩
theorem Wos.keptNew (h : Wos w p v l) (hk : Kp [] w w') : Wos w' p v l := h.kept hk (by simp) (by simp)
end
theorem cNew (w : World) : Calls Try.prog 25 #[] w (fun e w' => e = .returned (.pointer (some ⟨w.heap.size, 0, none⟩)) ∧ Wos w' w.heap.size (.slice none 0 0) [] ∧ Kp [] w w') := by
  go_enter Try.func25, Try.ntmps25
  go_wp2_with fail
  go_returns
  exact ⟨rfl, ⟨World.cell?_alloc_new w _ _ 0, fun j => World.frozen?_alloc_new w _ _ j, El.Row.nil _, by simp, by simp [own, Value.ownBlock], by simp, List.Pairwise.nil, by simp⟩, (Kp.refl _ _).alloc _⟩
theorem cLen {w : World} {p : Nat} {v : Value} {l : List Vn} (h : Wos w p v l) : Calls Try.prog 15 #[.pointer (some ⟨p, 0, none⟩)] w (fun e w' => e = .returned (.int .i64 (l.length : Int)) ∧ w' = w) := by
  have c0 := h.c0
  obtain ⟨a, c, rfl, _⟩ := h.row.see
  go_enter Try.func15, Try.ntmps15
  go_wp2_with fail
  go_returns
  exact ⟨rfl, rfl⟩
end Go.Proofs.Ytdjlefacdfdhmaa
end

section
namespace Go.Proofs.Ytdjlefacdfdhmaa
open Go.RowKit Go.Hay
set_option linter.unusedVariables false
set_option linter.unusedSimpArgs false

/-- What find's closure reads. -/
structure AtF (q1 q2 p : Nat) (a : Option Addr) (c : Nat) (l : List Vn) (e n : Int) (w : World) : Prop where
  b1 : w.cell? ⟨q1, 0, none⟩ = some (.pointer (some ⟨p, 0, none⟩))
  b2 : w.cell? ⟨q2, 0, none⟩ = some (.int .u64 e)
  b3 : w.cell? ⟨q2, 1, none⟩ = some (.int .u32 n)
  c0 : w.cell? ⟨p, 0, none⟩ = some (.slice a l.length c)
  see : VnE.See w a l
theorem AtF.kept {q1 q2 p : Nat} {a : Option Addr} {c : Nat} {l : List Vn} {e n : Int} {w w' : World} (h : AtF q1 q2 p a c l e n w) (hk : Kp [] w w') : AtF q1 q2 p a c l e n w' :=
  ⟨kpAt hk h.b1, kpAt hk h.b2, kpAt hk h.b3, kpAt hk h.c0, h.see.keptNew hk⟩
theorem idAt {w : World} {a : Option Addr} {l : List Vn} (h : VnE.See w a l) {i : Nat} {x : Vn} (hx : l[i]? = some x) : ∃ g o, a = some ⟨g, o, none⟩ ∧ w.cell? ⟨g, o + i * 4, none⟩ = some (.int .u64 x.ep) ∧ w.cell? ⟨g, o + i * 4 + 1, none⟩ = some (.int .u32 x.num) ∧ w.cell? ⟨g, o + i * 4 + 2, none⟩ = some (.slice x.a x.row.length x.c) ∧ w.cell? ⟨g, o + i * 4 + 3, none⟩ = some (.int .u64 x.del) := by
  obtain ⟨g, o, e, hc⟩ := h.at hx
  exact ⟨g, o, e, hc 0 _ rfl, hc 1 _ rfl, hc 2 _ rfl, hc 3 _ rfl⟩
set_option maxHeartbeats 4000000 in
theorem cFind1 {q1 q2 p : Nat} {a : Option Addr} {c : Nat} {l : List Vn} {e n : Int} {w : World} (h : AtF q1 q2 p a c l e n w) (hf : l.length ≤ 4000000000000) (i : Nat) (x : Vn) (hx : l[i]? = some x) :
    Calls Try.prog 48 #[.int .i64 (i : Int), .pointer (some ⟨q1, 0, none⟩), .pointer (some ⟨q2, 0, none⟩)] w fun r w' => r = .returned (.bool (!ltI x.id (e, n))) ∧ Kp [] w w' := by
  obtain ⟨g, o, rfl, c0, c1, _⟩ := idAt h.see hx
  have hil : i < l.length := (List.getElem?_eq_some_iff.1 hx).1
  have cL := cLess x.ep x.num e n
  obtain ⟨ep, num, xa, xc, row, del⟩ := x
  dsimp only [Vn.id] at c0 c1 cL ⊢
  have hS0 : (fun A : World => (A.cell? ⟨q1, 0, none⟩ = some (.pointer (some ⟨p, 0, none⟩)) ∧ A.cell? ⟨p, 0, none⟩ = some (.slice (some ⟨g, o, none⟩) l.length c)) ∧ (A.cell? ⟨g, o + i * 4, none⟩ = some (.int .u64 ep) ∧ A.cell? ⟨g, o + i * 4 + 1, none⟩ = some (.int .u32 num)) ∧ A.cell? ⟨q2, 0, none⟩ = some (.int .u64 e) ∧ A.cell? ⟨q2, 1, none⟩ = some (.int .u32 n)) w.drew := ⟨⟨h.b1, h.c0⟩, ⟨c0, c1⟩, h.b2, h.b3⟩
  obtain ⟨B, hB⟩ : ∃ B, Hid (ltI (ep, num) (e, n) = B) := ⟨_, rfl⟩
  rw [hB.out]
  simp only [hB.out] at cL
  have kd : Kp [] w w.drew := (Kp.refl _ _).drew
  have di1 : (0 : Int) ≤ (i : Int) := by omega
  have di2 : (i : Int) < (l.length : Int) := by omega
  clear hx hB c0 c1
  go_enter Try.func48, Try.ntmps48
  go_wp2_with fail
  refine wp_region_held_drew (S := (fun A => (A.cell? ⟨q1, 0, none⟩ = some (.pointer (some ⟨p, 0, none⟩)) ∧ A.cell? ⟨p, 0, none⟩ = some (.slice (some ⟨g, o, none⟩) l.length c)) ∧ (A.cell? ⟨g, o + i * 4, none⟩ = some (.int .u64 ep) ∧ A.cell? ⟨g, o + i * 4 + 1, none⟩ = some (.int .u32 num)) ∧ A.cell? ⟨q2, 0, none⟩ = some (.int .u64 e) ∧ A.cell? ⟨q2, 1, none⟩ = some (.int .u32 n))) (by kernel_rfl) ?_ (fun hHeld => ?_)
  · exact hS0
  generalize w.drew = wd at *
  refine wpAnyH_take (i := 0) (v := ?_) rfl (by kernel_rfl) (by kernel_rfl) (by kernel_rfl) (fun _ _ _ h => h) (Or.inl ⟨by rfl, ?_⟩) (by assumption) ?_
  rotate_left
  · intro w hSw; (try dsimp only at hSw); go_simp <;> with_reducible rfl
  try simp only [Act.put, List.getElem_toArray, List.getElem_cons_zero, List.getElem_cons_succ, List.setIfInBounds_toArray, List.set_cons_zero, List.set_cons_succ]
  refine wpAnyH_take (i := 1) (v := ?_) rfl (by kernel_rfl) (by kernel_rfl) (by kernel_rfl) (fun _ _ _ h => h) (Or.inl ⟨by rfl, ?_⟩) (by assumption) ?_
  rotate_left
  · intro w hSw; (try dsimp only at hSw); go_simp <;> with_reducible rfl
  try simp only [Act.put, List.getElem_toArray, List.getElem_cons_zero, List.getElem_cons_succ, List.setIfInBounds_toArray, List.set_cons_zero, List.set_cons_succ]
  refine wpAnyH_take (i := 2) (v := ?_) rfl (by kernel_rfl) (by kernel_rfl) (by kernel_rfl) (fun _ _ _ h => h) (Or.inl ⟨by rfl, ?_⟩) (by assumption) ?_
  rotate_left
  · intro w hSw; (try dsimp only at hSw); go_simp <;> with_reducible rfl
  try simp only [Act.put, List.getElem_toArray, List.getElem_cons_zero, List.getElem_cons_succ, List.setIfInBounds_toArray, List.set_cons_zero, List.set_cons_succ]
  refine wpAnyH_take (i := 3) (v := ?_) rfl (by kernel_rfl) (by kernel_rfl) (by kernel_rfl) (fun _ _ _ h => h) (Or.inl ⟨by rfl, ?_⟩) (by assumption) ?_
  rotate_left
  · intro w hSw; (try dsimp only at hSw); go_simp <;> with_reducible rfl
  try simp only [Act.put, List.getElem_toArray, List.getElem_cons_zero, List.getElem_cons_succ, List.setIfInBounds_toArray, List.set_cons_zero, List.set_cons_succ]
  refine wpAnyH_take (i := 4) (v := ?_) rfl (by kernel_rfl) (by kernel_rfl) (by kernel_rfl) (fun _ _ _ h => h) (Or.inl ⟨by rfl, ?_⟩) (by assumption) ?_
  rotate_left
  · intro w hSw; (try dsimp only at hSw); go_simp <;> with_reducible rfl
  try simp only [Act.put, List.getElem_toArray, List.getElem_cons_zero, List.getElem_cons_succ, List.setIfInBounds_toArray, List.set_cons_zero, List.set_cons_succ]
  refine wpAnyH_take (i := 5) (v := ?_) rfl (by kernel_rfl) (by kernel_rfl) (by kernel_rfl) (fun _ _ _ h => h) (Or.inl ⟨by rfl, ?_⟩) (by assumption) ?_
  rotate_left
  · intro w hSw; (try dsimp only at hSw); go_simp <;> with_reducible rfl
  try simp only [Act.put, List.getElem_toArray, List.getElem_cons_zero, List.getElem_cons_succ, List.setIfInBounds_toArray, List.set_cons_zero, List.set_cons_succ]
  refine wpAnyH_take (i := 6) (v := ?_) rfl (by kernel_rfl) (by kernel_rfl) (by kernel_rfl) (fun _ _ _ h => h) (Or.inl ⟨by rfl, ?_⟩) (by assumption) ?_
  rotate_left
  · intro w hSw; (try dsimp only at hSw); go_simp <;> with_reducible rfl
  try simp only [Act.put, List.getElem_toArray, List.getElem_cons_zero, List.getElem_cons_succ, List.setIfInBounds_toArray, List.set_cons_zero, List.set_cons_succ]
  refine wpAnyH_take (i := 7) (v := ?_) rfl (by kernel_rfl) (by kernel_rfl) (by kernel_rfl) (fun _ _ _ h => h) (Or.inl ⟨by rfl, ?_⟩) (by assumption) ?_
  rotate_left
  · intro w hSw; (try dsimp only at hSw); go_simp <;> with_reducible rfl
  try simp only [Act.put, List.getElem_toArray, List.getElem_cons_zero, List.getElem_cons_succ, List.setIfInBounds_toArray, List.set_cons_zero, List.set_cons_succ]
  refine wpAnyH_take (i := 8) (v := ?_) rfl (by kernel_rfl) (by kernel_rfl) (by kernel_rfl) (fun _ _ _ h => h) (Or.inl ⟨by rfl, ?_⟩) (by assumption) ?_
  rotate_left
  · intro w hSw; (try dsimp only at hSw); go_simp <;> with_reducible rfl
  try simp only [Act.put, List.getElem_toArray, List.getElem_cons_zero, List.getElem_cons_succ, List.setIfInBounds_toArray, List.set_cons_zero, List.set_cons_succ]
  refine wpAnyH_ready (rs := [9]) (by kernel_rfl) (by simp) ?_
  refine AllReadyH.cons rfl (fun K hK => ?_) AllReadyH.nil
  go_simp
  refine (cL wd).mono ?_
  rintro e1 x1 ⟨rfl, kx1⟩
  (try go_wp2_with fail)
  refine hK.out _ _ ?_ (fun hHeld => ?_)
  · exact ⟨⟨kpAt kx1 hHeld.1.1, kpAt kx1 hHeld.1.2⟩, ⟨kpAt kx1 hHeld.2.1.1, kpAt kx1 hHeld.2.1.2⟩, kpAt kx1 hHeld.2.2.1, kpAt kx1 hHeld.2.2.2⟩
  clear hK K
  try simp only [Act.put, List.getElem_toArray, List.getElem_cons_zero, List.getElem_cons_succ, List.setIfInBounds_toArray, List.set_cons_zero, List.set_cons_succ]
  refine wpAnyH_take (i := 10) (v := ?_) rfl (by kernel_rfl) (by kernel_rfl) (by kernel_rfl) (fun _ _ _ h => h) (Or.inl ⟨by rfl, ?_⟩) (by assumption) ?_
  rotate_left
  · intro w hSw; (try dsimp only at hSw); go_simp <;> with_reducible rfl
  try simp only [Act.put, List.getElem_toArray, List.getElem_cons_zero, List.getElem_cons_succ, List.setIfInBounds_toArray, List.set_cons_zero, List.set_cons_succ]
  refine wpAnyH_take (i := 11) (v := ?_) rfl (by kernel_rfl) (by kernel_rfl) (by kernel_rfl) (fun _ _ _ h => h) (Or.inl ⟨by rfl, ?_⟩) (by assumption) ?_
  rotate_left
  · intro w hSw; (try dsimp only at hSw); go_simp <;> with_reducible rfl
  try simp only [Act.put, List.getElem_toArray, List.getElem_cons_zero, List.getElem_cons_succ, List.setIfInBounds_toArray, List.set_cons_zero, List.set_cons_succ]
  refine wpAnyH_done (by kernel_rfl) ?_ _
  go_wp2_with fail
  go_returns
  exact ⟨rfl, kd.trans kx1 (by simp)⟩
set_option maxHeartbeats 4000000 in
theorem cSearch {q1 q2 p : Nat} {a : Option Addr} {c : Nat} {l : List Vn} {e n : Int} {w : World} (h : AtF q1 q2 p a c l e n w) (hs : Srt l) (hf : l.length ≤ 4000000000000) :
    Calls Try.prog 47 #[.int .i64 (l.length : Int), .func (.func 48) #[] #[.pointer (some ⟨q1, 0, none⟩), .pointer (some ⟨q2, 0, none⟩)]] w fun r w' => r = .returned (.int .i64 (kOf l (e, n) : Int)) ∧ Kp [] w w' := by
  have hk := kOf_le l (e, n)
  have hF : Hid (∀ (W : World) (i : Nat), Kp [] w W → i < l.length → Calls Try.prog 48 #[.int .i64 (i : Int), .pointer (some ⟨q1, 0, none⟩), .pointer (some ⟨q2, 0, none⟩)] W fun r w' => r = .returned (.bool (decide (kOf l (e, n) ≤ i))) ∧ Kp [] W w') := fun W i kW hi => by
    have hx : l[i]? = some l[i] := by simp [hi]
    have := cFind1 (h.kept kW) hf i l[i] hx
    have e1 : (!ltI l[i].id (e, n)) = decide (kOf l (e, n) ≤ i) := by
      have hat := kOf_at hs (e, n) i l[i] hx
      cases hb : ltI l[i].id (e, n) with
      | true => have := hat.1 hb; simp; omega
      | false =>
        have : ¬ i < kOf l (e, n) := fun h => by have := hat.2 h; rw [hb] at this; cases this
        simp; omega
    rw [e1] at this
    exact this
  obtain ⟨k, hk'⟩ : ∃ k, Hid (kOf l (e, n) = k) := ⟨_, rfl⟩
  rw [hk'.out] at hk ⊢
  simp only [hk'.out] at hF
  obtain ⟨N, hN⟩ : ∃ N, Hid (l.length = N) := ⟨_, rfl⟩
  rw [hN.out] at hk hf ⊢
  simp only [hN.out] at hF
  clear h hs hk' hN
  go_enter Try.func47, Try.ntmps47
  go_wp2_with fail
  go_loopw [5, 6] (fun i j wr => ∃ x y : Nat, x ≤ k ∧ k ≤ y ∧ y ≤ N ∧ i = .int .i64 x ∧ j = .int .i64 y ∧ Kp [] w wr) (fun i j _ => (intOf j).toNat - (intOf i).toNat)
  case atStart => exact ⟨0, N, Nat.zero_le _, hk, Nat.le_refl _, rfl, rfl, Kp.refl _ _⟩
  case round =>
    obtain ⟨x, y, hx, hy, hyN, rfl, rfl, kr⟩ := hrel
    by_cases hxy : x < y
    · have d1 : (x : Int) < (y : Int) := by omega
      obtain ⟨m, hm⟩ : ∃ m, Hid ((x + y) / 2 = m) := ⟨_, rfl⟩
      have hm1 : x ≤ m := by rw [← hm.out]; omega
      have hm2 : m < y := by rw [← hm.out]; omega
      have cF := hF.out wr m kr (by omega)
      go_wp2_with fail
      rw [show ((x : Int) + (y : Int)) / 2 = (m : Int) by rw [← hm.out]; omega]
      refine cF.mono ?_
      rintro r w2 ⟨rfl, k2⟩
      have kw2 := kr.trans k2 (by simp)
      by_cases hkm : k ≤ m
      · have d2 : decide (k ≤ m) = true := by simpa using hkm
        rw [d2]
        clear cF k2 hm
        go_wp2_with fail
        exact ⟨⟨x, m, hx, hkm, by omega, rfl, rfl, kw2⟩, by simp [intOf]; omega⟩
      · have d2 : decide (k ≤ m) = false := by simpa using hkm
        rw [d2]
        clear cF k2 hm
        go_wp2_with fail
        exact ⟨⟨m + 1, y, by omega, hy, hyN, by go_num, rfl, kw2⟩, by simp [intOf]; omega⟩
    · have e1 : x = k := by omega
      have d1 : ¬ (x : Int) < (y : Int) := by omega
      subst e1
      go_wp2_with fail
      go_ret
      exact ⟨rfl, kr⟩
theorem eqI (a b c d : Int) (w : World) : (binOp .eql 42 (.agg #[.int .u64 a, .int .u32 b]) (.agg #[.int .u64 c, .int .u32 d])).run Try.prog w = .ok (.bool (decide ((a, b) = (c, d)))) w := by
  rw [run_eql_struct, run_equalIn_agg (ht := by kernel_rfl) (hp := by kernel_rfl)]
  by_cases h1 : a = c
  · by_cases h2 : b = d
    · simp [go_sem, h1, h2]
    · simp [go_sem, h1, h2]
  · simp [go_sem, h1]
theorem neI (a b c d : Int) (w : World) : (binOp .neq 42 (.agg #[.int .u64 a, .int .u32 b]) (.agg #[.int .u64 c, .int .u32 d])).run Try.prog w = .ok (.bool (!decide ((a, b) = (c, d)))) w := by
  rw [run_neq_struct, run_equalIn_agg (ht := by kernel_rfl) (hp := by kernel_rfl)]
  by_cases h1 : a = c
  · by_cases h2 : b = d
    · simp [go_sem, h1, h2]
    · simp [go_sem, h1, h2]
  · simp [go_sem, h1]
set_option maxHeartbeats 8000000 in
set_option maxRecDepth 100000 in
theorem cFind {w : World} {p : Nat} {v : Value} {l : List Vn} (h : Wos w p v l) (e n : Int) : Calls Try.prog 35 #[.pointer (some ⟨p, 0, none⟩), .agg #[.int .u64 e, .int .u32 n]] w fun r w' => r = .returned (.tuple #[.int .i64 (kOf l (e, n) : Int), .bool (hasV l (e, n))]) ∧ Kp [] w w' := by
  obtain ⟨w1, hw1, k1, b1, b2, b3⟩ : ∃ w1, (w.alloc (.cells #[.pointer (some ⟨p, 0, none⟩)] 23)).alloc (.cells #[.int .u64 e, .int .u32 n] 42) = w1 ∧ Kp [] w w1 ∧ w1.cell? ⟨w.heap.size, 0, none⟩ = some (.pointer (some ⟨p, 0, none⟩)) ∧ w1.cell? ⟨w.heap.size + 1, 0, none⟩ = some (.int .u64 e) ∧ w1.cell? ⟨w.heap.size + 1, 1, none⟩ = some (.int .u32 n) := by
    refine ⟨_, rfl, ((Kp.refl _ _).alloc _).alloc _, kpAt ((Kp.refl _ _).alloc _) (World.cell?_alloc_new w #[.pointer (some ⟨p, 0, none⟩)] 23 0), ?_, ?_⟩
    · have := World.cell?_alloc_new (w.alloc (.cells #[.pointer (some ⟨p, 0, none⟩)] 23)) #[.int .u64 e, .int .u32 n] 42 0
      rwa [World.size_alloc] at this
    · have := World.cell?_alloc_new (w.alloc (.cells #[.pointer (some ⟨p, 0, none⟩)] 23)) #[.int .u64 e, .int .u32 n] 42 1
      rwa [World.size_alloc] at this
  have h1 := h.keptNew k1
  obtain ⟨a, c, rfl, hsee, hnil, hlc, hcm, _⟩ := h1.row.see
  have A1 : AtF w.heap.size (w.heap.size + 1) p a c l e n w1 := ⟨b1, b2, b3, h1.c0, hsee⟩
  have cS := cSearch A1 h.srt h.few
  have c0 := h1.c0
  have hf := h.few
  have hA := hid (fun W (k : Kp [] w1 W) => A1.kept k)
  have hkl := kOf_le l (e, n)
  have hyes := hid (has_at h.srt (e, n))
  have hno := hid (hasNot_at (l := l) (e, n))
  obtain ⟨k, hk⟩ : ∃ k, Hid (kOf l (e, n) = k) := ⟨_, rfl⟩
  obtain ⟨B, hB⟩ : ∃ B, Hid (hasV l (e, n) = B) := ⟨_, rfl⟩
  rw [hk.out] at cS hyes hkl ⊢
  rw [hB.out] at hyes hno ⊢
  clear h h1 hsee A1
  go_enter Try.func35, Try.ntmps35
  go_wp2_with fail
  refine cS.mono ?_
  rintro r w2 ⟨rfl, k2⟩
  have A2 := hA.out w2 k2
  have d1 := A2.b1; have d2 := A2.b2; have d3 := A2.b3; have d4 := A2.c0
  have kk := hid (k1.trans k2 (by simp))
  by_cases hkl2 : k < l.length
  · have hx : l[k]? = some l[k] := by simp [hkl2]
    obtain ⟨g, o, rfl, x0, x1, _⟩ := idAt A2.see hx
    have t1 : decide ((k : Int) < (l.length : Int)) = true := by simp; omega
    have t2 : (k : Int) < (l.length : Int) := by omega
    have t3 : (0 : Int) ≤ (k : Int) := by omega
    have hE : Hid (decide ((l[k].ep, l[k].num) = (e, n)) = B) := by
      show _ = _
      cases B with
      | true => obtain ⟨x, h1, h2⟩ := hyes.out rfl; rw [hx] at h1; cases h1; simpa using h2
      | false => have := hno.out rfl l[k] (List.getElem_mem _); simpa using this
    have q := eqI l[k].ep l[k].num e n
    simp only [hE.out] at q
    generalize l[k].ep = ep at *
    generalize l[k].num = num at *
    clear hE hx A2 hA hyes hno cS k2 k1 b1 b2 b3 hw1 c0 hk hB
    go_wp2_with fail
    go_quiet (fail)
    go_wp2_with fail
    go_returns
    exact ⟨rfl, kk.out.drewN _⟩
  · have hB0 : B = false := by
      cases B with
      | false => rfl
      | true => obtain ⟨x, h1, h2⟩ := hyes.out rfl; exact absurd (List.getElem?_eq_some_iff.1 h1).1 hkl2
    subst hB0
    have t1 : decide ((k : Int) < (l.length : Int)) = false := by simp; omega
    have t2 : ¬ (k : Int) < (l.length : Int) := by omega
    clear A2 hA hyes hno cS k2 k1 b1 b2 b3 hw1 c0 hk hB
    go_wp2_with fail
    go_quiet (fail)
    go_wp2_with fail
    go_returns
    exact ⟨rfl, kk.out.drewN _⟩
end Go.Proofs.Ytdjlefacdfdhmaa
end

section
namespace Go.Hay
open Go.RowKit
set_option linter.unusedVariables false

section
variable {α : Type} {E : El α}
/-- A row written over from its element j on; it may grow into its spare places. -/
theorem El.Row.put {w : World} {g o c : Nat} {l : List α} (h : E.Row w (.slice (some ⟨g, o, none⟩) l.length c) l) (j : Nat) (hj : j ≤ l.length) (bs : List α) (hb : j + bs.length ≤ c) :
    E.Row (w.setCells g (o + j * E.n) (E.cs bs)) (.slice (some ⟨g, o, none⟩) (l.take j ++ bs ++ l.drop (j + bs.length)).length c) (l.take j ++ bs ++ l.drop (j + bs.length)) ∧ Kp [g] w (w.setCells g (o + j * E.n) (E.cs bs)) ∧
      (∀ k, k < (E.cs bs).length → (w.cell? ⟨g, o + j * E.n + k, none⟩).isSome = true) ∧ ∀ k, k < (E.cs bs).length → w.frozen? ⟨g, o + j * E.n + k, none⟩ = false := by
  rcases h with ⟨e, _⟩ | ⟨g', o', cap, e, hl, hm, hg, hc, ht⟩
  · cases e
  · simp only [Value.slice.injEq, Option.some.injEq, Addr.mk.injEq] at e
    obtain ⟨⟨rfl, rfl, _⟩, _, rfl⟩ := e
    have hmul : (j + bs.length) * E.n ≤ c * E.n := Nat.mul_le_mul_right _ hb
    rw [Nat.add_mul] at hmul
    have hsome : ∀ k, k < (E.cs bs).length → (w.cell? ⟨g, o + j * E.n + k, none⟩).isSome = true := fun k hk => by
      rw [El.cs_length] at hk; rw [Nat.add_assoc]; exact (ht _ (by omega)).1
    have hfr : ∀ k, k < (E.cs bs).length → w.frozen? ⟨g, o + j * E.n + k, none⟩ = false := fun k hk => by
      rw [El.cs_length] at hk; rw [Nat.add_assoc]; exact (ht _ (by omega)).2
    have hlen : (l.take j ++ bs ++ l.drop (j + bs.length)).length ≤ c := by simp; omega
    refine ⟨.inr ⟨g, o, c, rfl, hlen, hm, by rw [size_setCells]; exact hg, ?_, ?_⟩, (Kp.refl _ w).setCells (by simp) _ _, hsome, hfr⟩
    · intro k u hu
      rw [El.cs_append, El.cs_append, El.cs_take, El.cs_drop] at hu
      have hjl : ((E.cs l).take (j * E.n)).length = j * E.n := by
        rw [List.length_take, El.cs_length]
        have := Nat.mul_le_mul_right E.n hj
        omega
      by_cases h1 : k < j * E.n
      · rw [List.getElem?_append_left (by rw [List.length_append, hjl]; omega), List.getElem?_append_left (by omega), List.getElem?_take, if_pos h1] at hu
        rw [World.cell?_setCells_out g _ _ _ _ (fun _ _ => Or.inl (by show o + k < o + j * E.n; omega))]
        exact hc k u hu
      · by_cases h2 : k < j * E.n + (E.cs bs).length
        · rw [List.getElem?_append_left (by rw [List.length_append, hjl]; omega), List.getElem?_append_right (by omega), hjl] at hu
          have hj2 : k - j * E.n < (E.cs bs).length := by omega
          have := World.cell?_setCells_in g (E.cs bs) (o + j * E.n) w hsome (k - j * E.n) hj2
          rw [← List.getElem?_eq_getElem hj2, hu] at this
          rw [show o + j * E.n + (k - j * E.n) = o + k by omega] at this
          exact this
        · rw [List.getElem?_append_right (by rw [List.length_append, hjl]; omega), List.length_append, hjl, List.getElem?_drop] at hu
          rw [World.cell?_setCells_out g _ _ _ _ (fun _ _ => Or.inr (by show o + j * E.n + (E.cs bs).length ≤ o + k; omega))]
          refine hc k u ?_
          rw [← hu]
          congr 1
          rw [El.cs_length] at h2 ⊢
          rw [Nat.add_mul]
          omega
    · intro k hk
      refine ⟨?_, (World.frozen?_setCells g _ _ _ _).trans (ht k hk).2⟩
      by_cases hin : j * E.n ≤ k ∧ k < j * E.n + (E.cs bs).length
      · have := World.cell?_setCells_in g (E.cs bs) (o + j * E.n) w hsome (k - j * E.n) (by omega)
        rw [show o + j * E.n + (k - j * E.n) = o + k by omega] at this
        rw [this]; rfl
      · rw [World.cell?_setCells_out g _ _ _ _ (fun _ _ => by show o + k < o + j * E.n ∨ o + j * E.n + (E.cs bs).length ≤ o + k; omega)]
        exact (ht k hk).1
end
theorem El.cs_set {α : Type} (E : El α) (y : α) (j : Nat) (u : Value) (hj : j < E.n) : ∀ (l : List α) (k : Nat) (x : α), l[k]? = some x → E.c y = (E.c x).set j u → E.cs (l.set k y) = (E.cs l).set (k * E.n + j) u
  | [], _, _, h, _ => by simp at h
  | x :: l, 0, z, h, hy => by
    cases h
    rw [List.set_cons_zero, El.cs_cons, El.cs_cons, hy, Nat.zero_mul, Nat.zero_add, List.set_append_left _ _ (by rw [E.len]; exact hj)]
  | x :: l, k + 1, z, h, hy => by
    have h' : l[k]? = some z := by simpa using h
    rw [List.set_cons_succ, El.cs_cons, El.cs_cons, El.cs_set E y j u hj l k z h' hy, List.set_append_right _ _ (by rw [E.len, Nat.succ_mul]; omega)]
    congr 2
    rw [E.len, Nat.succ_mul]; omega
/-- One cell of an element, written over. -/
theorem El.Row.cell1 {α : Type} {E : El α} {w : World} {g o c : Nat} {l : List α} (h : E.Row w (.slice (some ⟨g, o, none⟩) l.length c) l) (k j : Nat) (x y : α) (hx : l[k]? = some x) (hj : j < E.n) (u : Value) (hy : E.c y = (E.c x).set j u) :
    (w.cell? ⟨g, o + k * E.n + j, none⟩).isSome = true ∧ w.frozen? ⟨g, o + k * E.n + j, none⟩ = false ∧ E.Row (w.setCell ⟨g, o + k * E.n + j, none⟩ u) (.slice (some ⟨g, o, none⟩) l.length c) (l.set k y) := by
  have hk : k < l.length := (List.getElem?_eq_some_iff.1 hx).1
  rcases h with ⟨e, _⟩ | ⟨g', o', cap, e, hl, hm, hg, hc, ht⟩
  · cases e
  · simp only [Value.slice.injEq, Option.some.injEq, Addr.mk.injEq] at e
    obtain ⟨⟨rfl, rfl, _⟩, _, rfl⟩ := e
    have hmul : (k + 1) * E.n ≤ c * E.n := Nat.mul_le_mul_right _ (by omega)
    rw [Nat.succ_mul] at hmul
    have hlt : k * E.n + j < c * E.n := by omega
    have h1 := ht _ hlt
    rw [← Nat.add_assoc] at h1
    have hmul2 : (k + 1) * E.n ≤ l.length * E.n := Nat.mul_le_mul_right _ (by omega)
    rw [Nat.succ_mul] at hmul2
    obtain ⟨u0, hu0⟩ := Option.isSome_iff_exists.1 h1.1
    refine ⟨h1.1, h1.2, .inr ⟨g, o, c, by rw [List.length_set], by rw [List.length_set]; exact hl, hm, by simpa [World.setCell] using hg, ?_, ?_⟩⟩
    · intro z v hv
      rw [El.cs_set E y j u hj l k x hx hy] at hv
      by_cases hz : z = k * E.n + j
      · subst hz
        rw [List.getElem?_set_self (by rw [El.cs_length]; omega)] at hv
        cases hv
        rw [← Nat.add_assoc]
        exact World.cell?_setCell_same _ _ _ hu0
      · rw [List.getElem?_set_ne (fun e => hz e.symm)] at hv
        rw [World.cell?_setCell_other _ _ _ _ (by intro e; simp only [Addr.mk.injEq] at e; omega)]
        exact hc z v hv
    · intro z hz
      refine ⟨?_, (World.frozen?_setCell _ _ _ _).trans (ht z hz).2⟩
      by_cases hz2 : z = k * E.n + j
      · subst hz2
        rw [← Nat.add_assoc, World.cell?_setCell_same _ _ _ hu0]; rfl
      · rw [World.cell?_setCell_other _ _ _ _ (by intro e; simp only [Addr.mk.injEq] at e; omega)]
        exact (ht z hz).1
/-- copy(d, s), whichever of the two is longer. -/
theorem run_copyM {P : Program} (w : World) (dT sT ty elem : TypeId) (i : TypeInfo) (hu : P.underlying dT = some (.slice elem)) (hi : P.info? elem = some i) (b o dLen dCap : Nat) (a : Addr) (sLen sCap n : Nat) (hmin : Nat.min sLen dLen = n) (cs : List Value)
    (hn : cs.length = n * i.size) (hsrc : ∀ j v, cs[j]? = some v → w.cell? (a.add j) = some v) (hc : ∀ j, j < cs.length → (w.cell? ⟨b, o + j, none⟩).isSome = true) (hf : ∀ j, j < cs.length → w.frozen? ⟨b, o + j, none⟩ = false) (h1 : ∀ v ∈ cs, v.oneCell' = true) :
    (Builtin.copy_ #[dT, sT] ty #[.slice (some ⟨b, o, none⟩) dLen dCap, .slice (some a) sLen sCap]).run P w = .ok (goInt n) (w.setCells b o cs) := by
  have hl := run_loadCells_list (P := P) w a cs hsrc
  have hst := run_storeCells_cells (P := P) b o cs 0 w (by simpa using hc) (by simpa using hf) h1
  simp only [Nat.add_zero] at hst
  simp [Builtin.copy_, run_underlying hu, Builtin.lenOf, Builtin.firstCells, sizeOf, typeInfo, hi, hmin, ← hn, hl, hst]
/-- A copy whose run is known, for the walk. -/
theorem wpCpyRun {P : Program} {w w' : World} {ops : Array Oper} {rest : List Oper} {o : Oper} {a : Act} {Q : Exit → Act → World → Prop} (hgd : o.guard = none) (s x : Operand) (t tx : TypeId)
    (ho : o.op = .call { callee := .builtin .copy, args := #[s, x], argTypes := #[t, tx] }) (v xv v' : Value) (hv : a.eval s = v) (hx : a.eval x = xv)
    (hrun : (Builtin.copy_ #[t, tx] o.type #[v, xv]).run P w = .ok v' w') (h : wpList P ops Q rest (a.put o.dst v') w') : wpList P ops Q (o :: rest) a w := by
  refine wpList_plain hgd fun K hK' => ?_
  unfold Oper.wp execOp
  simp only [ho, resolve, invoke, builtin, Sem.run_bind, Sem.run_pure, Result.andThen_ok, List.map_toArray, List.map_cons, List.map_nil, hv, hx, hrun]
  exact hK' _ _ h
/-- .. an append. -/
theorem wpAppRun {P : Program} {w w' : World} {ops : Array Oper} {rest : List Oper} {o : Oper} {a : Act} {Q : Exit → Act → World → Prop} (hgd : o.guard = none) (s x : Operand) (t tx : TypeId)
    (ho : o.op = .call { callee := .builtin .append, args := #[s, x], argTypes := #[t, tx] }) (v xv v' : Value) (hv : a.eval s = v) (hx : a.eval x = xv)
    (hrun : (Builtin.append_ #[t, tx] o.type #[v, xv]).run P w = .ok v' w') (h : wpList P ops Q rest (a.put o.dst v') w') : wpList P ops Q (o :: rest) a w := by
  refine wpList_plain hgd fun K hK' => ?_
  unfold Oper.wp execOp
  simp only [ho, resolve, invoke, builtin, Sem.run_bind, Sem.run_pure, Result.andThen_ok, List.map_toArray, List.map_cons, List.map_nil, hv, hx, hrun]
  exact hK' _ _ h
/-- Zero values, as cells. -/
theorem zeroCells_cs {α : Type} (E : El α) (d : α) (z : Array Value) (hz : z.toList = E.c d) (k : Nat) : (Builtin.zeroCells z k).toList = E.cs (List.replicate k d) := by
  have hs : z.size = E.n := by rw [← Array.length_toList, hz, E.len]
  have hpos := E.pos
  apply List.ext_getElem?
  intro j
  by_cases hj : j < k * E.n
  · have hq : j / E.n < k := Nat.div_lt_of_lt_mul (by rw [Nat.mul_comm]; exact hj)
    have hr : j % E.n < E.n := Nat.mod_lt _ hpos
    have hje : j = j / E.n * E.n + j % E.n := by rw [Nat.mul_comm]; exact (Nat.div_add_mod j E.n).symm
    have hget : (List.replicate k d)[j / E.n]? = some d := by rw [List.getElem?_replicate, if_pos hq]
    conv => rhs; rw [hje]
    rw [El.cs_get E hget hr, ← hz]
    simp only [Builtin.zeroCells, hs]
    simp [hj, hr, hs]
  · have h1 : (E.cs (List.replicate k d))[j]? = none := by rw [List.getElem?_eq_none_iff, El.cs_length, List.length_replicate]; omega
    rw [h1, List.getElem?_eq_none_iff]
    simp only [Builtin.zeroCells, hs]
    simp; omega
end Go.Hay
end

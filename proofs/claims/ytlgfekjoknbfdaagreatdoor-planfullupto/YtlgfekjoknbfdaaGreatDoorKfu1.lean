/- Stable sorting: rotate. -/
import Derived.Test.YtlgfekjoknbfdaaGreatDoorB1
import Derived.Laws.BitsAllLaws
import Derived.Deep.RegionHeld3
import Derived.Test.YtlgfekjoknbfdaaGreatDoorB2
import Derived.Shelf.RegionOpen
import Derived.LoopIn
import Derived.LoopNIn
import Derived.OrdersIn
import Derived.TacticsInMore
import Derived.OwnWalkIn
import Derived.RegionIn
import Derived.RangeFuncCalls
import Derived.RangeFuncNested
import Derived.RangeFuncBound
import Derived.RangeFuncLeaves
import Derived.RangeFuncSeq
import Derived.Test.YtlgfekjoknbfdaaGreatDoorB4
import Derived.Deep.Cut
import Derived.Deep.CutRange
import Derived.Test.YtlgfekjoknbfdaaGreatDoorB3
import Derived.Test.YtlgfekjoknbfdaaGreatDoorB7
import Derived.Test.YtlgfekjoknbfdaaGreatDoorB5
set_option maxHeartbeats 64000000
set_option maxRecDepth 100000
set_option linter.unusedVariables false
set_option linter.unusedSimpArgs false
section
namespace Go.Proofs.YtlgfekjoknbfdaaGreatDoor
open Go.RowKit Go.Hay
def cntd (c : Cg) : Bool := decide (1 ≤ c.n) && (decide (c.n ≤ 8) && (wi c.k c.n && (decide (1 ≤ c.s) && decide (c.s ≤ 8))))
theorem cntd_iff (c : Cg) : cntd c = true ↔ (1 ≤ c.n ∧ c.n ≤ 8) ∧ (0 ≤ c.k ∧ c.k < c.n) ∧ 1 ≤ c.s ∧ c.s ≤ 8 := by
 unfold cntd wi
 simp
 omega
theorem cCounted (c : Cg) (w : World) : Calls Tryz.prog 127 #[c.v] w fun e w' => e = .returned (.bool (cntd c)) ∧ Kp [] w w' := by
 have hW := hid (fun w' => cWithin c.k c.n w')
 unfold cntd
 obtain ⟨n, s, k, ta, tc, tl, pa, pc, pl⟩ := c;simp only [Cg.v] at *
 by_cases h0 : 1 ≤ n
 rotate_left
 ·have d0 : decide (1 ≤ n) = false := by simpa using h0
  rw [d0];go_enter Tryz.func127, Tryz.ntmps127
  go_wp2_with fail;go_returns;exact ⟨rfl, (Kp.refl _ _).alloc _⟩
 have d0 : decide (1 ≤ n) = true := by simpa using h0
 rw [d0]
 by_cases h1 : n ≤ 8
 rotate_left
 ·have d1 : decide (n ≤ 8) = false := by simpa using h1
  rw [d1];go_enter Tryz.func127, Tryz.ntmps127
  go_wp2_with fail;go_returns;exact ⟨rfl, (Kp.refl _ _).alloc _⟩
 have d1 : decide (n ≤ 8) = true := by simpa using h1
 rw [d1];obtain ⟨X, hX⟩ : ∃ X, Hid (wi k n = X) := ⟨_, rfl⟩
 cases X with
 | false =>
  rw [hX.out];go_enter Tryz.func127, Tryz.ntmps127
  go_wp2_with fail;refine (hW.out _).mono ?_;rintro e w' ⟨rfl, rfl⟩;rw [hX.out];go_wp2_with fail;go_returns;exact ⟨rfl, (Kp.refl _ _).alloc _⟩
 | true =>
 rw [hX.out]
 by_cases h3 : 1 ≤ s
 rotate_left
 ·have d3 : decide (1 ≤ s) = false := by simpa using h3
  rw [d3];go_enter Tryz.func127, Tryz.ntmps127
  go_wp2_with fail;refine (hW.out _).mono ?_;rintro e w' ⟨rfl, rfl⟩;rw [hX.out];go_wp2_with fail;go_returns;exact ⟨rfl, (Kp.refl _ _).alloc _⟩
 have d3 : decide (1 ≤ s) = true := by simpa using h3
 rw [d3]
 by_cases h4 : s ≤ 8
 rotate_left
 ·have d4 : decide (s ≤ 8) = false := by simpa using h4
  rw [d4];go_enter Tryz.func127, Tryz.ntmps127
  go_wp2_with fail;refine (hW.out _).mono ?_;rintro e w' ⟨rfl, rfl⟩;rw [hX.out];go_wp2_with fail;go_returns;exact ⟨rfl, (Kp.refl _ _).alloc _⟩
 have d4 : decide (s ≤ 8) = true := by simpa using h4
 rw [d4];go_enter Tryz.func127, Tryz.ntmps127
 go_wp2_with fail;refine (hW.out _).mono ?_;rintro e w' ⟨rfl, rfl⟩;rw [hX.out];go_wp2_with fail;go_returns;exact ⟨rfl, (Kp.refl _ _).alloc _⟩
def plTo (l : List Int) (m : Int) (j : Nat) : Bool := (List.range j).all fun i => wi (l.getD i 0) m && !decide (l.getD i 0 ∈ l.take i)
def plM (l : List Int) (m : Int) : Bool := plTo l m l.length
theorem plTo_succ (l : List Int) (m : Int) (j : Nat) (h : j < l.length) : plTo l m (j + 1) = (plTo l m j && (wi l[j] m && !decide (l[j] ∈ l.take j))) := by
 unfold plTo
 rw [List.range_succ, List.all_append];simp [h]
theorem plTo_mono (l : List Int) (m : Int) (j k : Nat) (h : j ≤ k) (hf : plTo l m j = false) : plTo l m k = false := by
 unfold plTo at hf ⊢
 rw [List.all_eq_false] at hf ⊢;obtain ⟨x, hx, hx2⟩ := hf;exact ⟨x, List.mem_range.2 (by have := List.mem_range.1 hx; omega), hx2⟩
def hvC (C P : List Int) : Bool := P.all fun x => decide (x ∈ C)
def cbt : List Int → Nat := fun l => l.foldl (fun b p => b ||| 2 ^ p.toNat) 0
def hasT (l : List Tb) (nm : ByteArray) : Bool := l.any fun t => t.nm.toList == nm.toList
def hasP (l : List Pj) (nm : ByteArray) : Bool := l.any fun t => t.nm.toList == nm.toList
def tabAt (l : List Tb) (j : Nat) : Bool := match l[j]? with
 | some t => (tableV t.nm t.l == 0) && !hasT (l.take j) t.nm
 | none => true
def tabTo (l : List Tb) (j : Nat) : Bool := (List.range j).all (tabAt l)
def tabsM (l : List Tb) : Bool := decide (l.length ≠ 0) && (decide (l.length ≤ 4) && tabTo l l.length)
theorem tabTo_succ (l : List Tb) (j : Nat) (h : j < l.length) : tabTo l (j + 1) = (tabTo l j && ((tableV l[j].nm l[j].l == 0) && !hasT (l.take j) l[j].nm)) := by
 unfold tabTo
 rw [List.range_succ, List.all_append];simp [tabAt, h]
theorem tabTo_mono (l : List Tb) (j k : Nat) (h : j ≤ k) (hf : tabTo l j = false) : tabTo l k = false := by
 unfold tabTo at hf ⊢
 rw [List.all_eq_false] at hf ⊢;obtain ⟨x, hx, hx2⟩ := hf;exact ⟨x, List.mem_range.2 (by have := List.mem_range.1 hx; omega), hx2⟩
def manyC (c : Cg) (p : Pj) : Int := ((c.tl.getD p.tb.toNat default).l.length : Int)
def pjM (c : Cg) (p : Pj) : Bool := namedV p.nm && (wi p.tb (c.tl.length : Int) && (wi p.sh c.n && (decide (0 < (p.cl.length : Int)) && (plM p.cl (manyC c p) && (plM p.sl (manyC c p) && (hvC p.cl p.sl && hvC p.cl [p.by_]))))))
theorem boxCP (c : Cg) (p : Pj) (w : World) : ∃ W, (w.alloc (.cells #[.int .i64 c.n, .int .i64 c.s, .int .i64 c.k, .slice c.ta c.tl.length c.tc, .slice c.pa c.pl.length c.pc] 25)).alloc (.cells #[.string p.nm, .int .i64 p.tb, .slice p.ca p.cl.length p.cc, .slice p.sa p.sl.length p.sc, .int .i64 p.by_, .int .i64 p.sh] 92) = W ∧ Kp [] w W ∧ W.heap.size = w.heap.size + 2 ∧ Bn W w.heap.size [.int .i64 c.n, .int .i64 c.s, .int .i64 c.k, .slice c.ta c.tl.length c.tc, .slice c.pa c.pl.length c.pc] ∧ Bn W (w.heap.size + 1) [.string p.nm, .int .i64 p.tb, .slice p.ca p.cl.length p.cc, .slice p.sa p.sl.length p.sc, .int .i64 p.by_, .int .i64 p.sh] := by
 refine ⟨_, rfl, ((Kp.refl _ _).alloc _).alloc _, by simp, ?_, ?_⟩
 ·exact (Bn.new w [.int .i64 c.n, .int .i64 c.s, .int .i64 c.k, .slice c.ta c.tl.length c.tc, .slice c.pa c.pl.length c.pc] 25).kept ((Kp.refl _ _).alloc _)
 ·have h := Bn.new (w.alloc (.cells #[.int .i64 c.n, .int .i64 c.s, .int .i64 c.k, .slice c.ta c.tl.length c.tc, .slice c.pa c.pl.length c.pc] 25)) [.string p.nm, .int .i64 p.tb, .slice p.ca p.cl.length p.cc, .slice p.sa p.sl.length p.sc, .int .i64 p.by_, .int .i64 p.sh] 92
  rw [World.size_alloc] at h;exact h
theorem boxC (c : Cg) (w : World) : ∃ W, w.alloc (.cells #[.int .i64 c.n, .int .i64 c.s, .int .i64 c.k, .slice c.ta c.tl.length c.tc, .slice c.pa c.pl.length c.pc] 25) = W ∧ Kp [] w W ∧ W.heap.size = w.heap.size + 1 ∧ Bn W w.heap.size [.int .i64 c.n, .int .i64 c.s, .int .i64 c.k, .slice c.ta c.tl.length c.tc, .slice c.pa c.pl.length c.pc] :=
 ⟨_, rfl, (Kp.refl _ _).alloc _, by simp, Bn.new w [.int .i64 c.n, .int .i64 c.s, .int .i64 c.k, .slice c.ta c.tl.length c.tc, .slice c.pa c.pl.length c.pc] 25⟩
def pjAtC (c : Cg) (j : Nat) : Bool := match c.pl[j]? with
 | some p => pjM c p && !hasP (c.pl.take j) p.nm
 | none => true
def pjsTo (c : Cg) (j : Nat) : Bool := (List.range j).all (pjAtC c)
def pjsM (c : Cg) : Bool := decide (c.pl.length ≤ 8) && pjsTo c c.pl.length
theorem pjsTo_succ (c : Cg) (j : Nat) (h : j < c.pl.length) : pjsTo c (j + 1) = (pjsTo c j && (pjM c c.pl[j] && !hasP (c.pl.take j) c.pl[j].nm)) := by
 unfold pjsTo
 rw [List.range_succ, List.all_append];simp [pjAtC, h]
theorem pjsTo_mono (c : Cg) (j k : Nat) (h : j ≤ k) (hf : pjsTo c j = false) : pjsTo c k = false := by
 unfold pjsTo at hf ⊢
 rw [List.all_eq_false] at hf ⊢;obtain ⟨x, hx, hx2⟩ := hf;exact ⟨x, List.mem_range.2 (by have := List.mem_range.1 hx; omega), hx2⟩
def cvP (t : Int) (A : Nat) (p q : Pj) : Bool := (p.tb == t) && ((q.tb == t) && ((cbt p.cl ||| cbt q.cl) == A))
def cvIn (l : List Pj) (t : Int) (A : Nat) (i m : Nat) : Bool := (List.range m).any fun k => cvP t A (l.getD i default) (l.getD (i + k) default)
def cvTo (l : List Pj) (t : Int) (A : Nat) (j : Nat) : Bool := (List.range j).any fun i => cvIn l t A i (l.length - i)
theorem cv_true (l : List Pj) (t : Int) (A i m : Nat) (hi : i < l.length) (hm : i + m < l.length) (h : cvP t A (l.getD i default) (l.getD (i + m) default) = true) : cvTo l t A l.length = true := by
 unfold cvTo
 rw [List.any_eq_true];refine ⟨i, List.mem_range.2 hi, ?_⟩;unfold cvIn
 rw [List.any_eq_true];exact ⟨m, List.mem_range.2 (by omega), h⟩
def allB (t : Tb) : Nat := 2 ^ t.l.length - 1
def acTo (c : Cg) (j : Nat) : Bool := (List.range j).all fun (i : Nat) => cvTo c.pl i (allB (c.tl.getD i default)) c.pl.length
def acM (c : Cg) : Bool := acTo c c.tl.length
theorem acTo_succ (c : Cg) (j : Nat) (h : j < c.tl.length) : acTo c (j + 1) = (acTo c j && cvTo c.pl j (allB c.tl[j]) c.pl.length) := by
 unfold acTo
 rw [List.range_succ, List.all_append];simp [h]
theorem acTo_mono (c : Cg) (j k : Nat) (h : j ≤ k) (hf : acTo c j = false) : acTo c k = false := by
 unfold acTo at hf ⊢
 rw [List.all_eq_false] at hf ⊢;obtain ⟨x, hx, hx2⟩ := hf;exact ⟨x, List.mem_range.2 (by have := List.mem_range.1 hx; omega), hx2⟩
theorem boxCA (c : Cg) (P S : Int) (w : World) : ∃ W, (w.alloc (.cells #[.int .i64 c.n, .int .i64 c.s, .int .i64 c.k, .slice c.ta c.tl.length c.tc, .slice c.pa c.pl.length c.pc] 25)).alloc (.cells #[.int .i64 P, .int .i64 S] 82) = W ∧ Kp [] w W ∧ W.heap.size = w.heap.size + 2 ∧ Bn W w.heap.size [.int .i64 c.n, .int .i64 c.s, .int .i64 c.k, .slice c.ta c.tl.length c.tc, .slice c.pa c.pl.length c.pc] ∧ Bn W (w.heap.size + 1) [.int .i64 P, .int .i64 S] := by
 refine ⟨_, rfl, ((Kp.refl _ _).alloc _).alloc _, by simp, ?_, ?_⟩
 ·exact (Bn.new w [.int .i64 c.n, .int .i64 c.s, .int .i64 c.k, .slice c.ta c.tl.length c.tc, .slice c.pa c.pl.length c.pc] 25).kept ((Kp.refl _ _).alloc _)
 ·have h := Bn.new (w.alloc (.cells #[.int .i64 c.n, .int .i64 c.s, .int .i64 c.k, .slice c.ta c.tl.length c.tc, .slice c.pa c.pl.length c.pc] 25)) [.int .i64 P, .int .i64 S] 82
  rw [World.size_alloc] at h;exact h
def liesC (c : Cg) (P S : Int) : Bool := wi P (c.pl.length : Int) && wi S c.s
theorem infI {P : Program} {t : TypeId} {z : Value} {n b : Nat} (h : ((P.info? t).map fun i => (i.zero, i.size, i.bytes)) = some (some z, n, b)) : ∃ i : TypeInfo, P.info? t = some i ∧ i.zero = some z ∧ i.size = n ∧ i.bytes = b := by
 cases hi : P.info? t with
 | none => rw [hi] at h; cases h
 | some i =>
  rw [hi] at h;simp at h
  exact ⟨i, rfl, h.1, h.2.1, h.2.2⟩
theorem infoI : ∃ i : TypeInfo, Tryz.prog.info? 3 = some i ∧ i.zero = some (.int .i64 0) ∧ i.size = 1 ∧ i.bytes = 8 := infI (by kernel_rfl)
def ring (F n : Int) (m : Nat) : List Int := (List.range m).map fun (j : Nat) => (F + j) % n
theorem ring_length (F n : Int) (m : Nat) : (ring F n m).length = m := by simp [ring]
theorem ring_succ (F n : Int) (j : Nat) : ring F n (j + 1) = ring F n j ++ [(F + j) % n] := by
 unfold ring
 rw [List.range_succ, List.map_append];rfl
def ndsC (c : Cg) (P S : Int) : List Int := if liesC c P S = true then ring (S + (c.pl.getD P.toNat default).sh) c.n (c.k.toNat + 1) else []
theorem ndsC_len (c : Cg) (P S : Int) : (ndsC c P S).length ≤ c.k.toNat + 1 := by
 unfold ndsC
 split
 ·rw [ring_length]; omega
 ·simp
end Go.Proofs.YtlgfekjoknbfdaaGreatDoor
end

section
namespace Go.Proofs.YtlgfekjoknbfdaaGreatDoor
open Go.RowKit Go.Hay
attribute [local go_sem] Oper.semAt_some
def KeepC (G : Addr → Prop) (A B : World) : Prop := A.heap.size ≤ B.heap.size ∧ ∀ a v, G a → A.cell? a = some v → B.cell? a = some v
theorem KeepC.refl (G : Addr → Prop) (A : World) : KeepC G A A := ⟨Nat.le_refl _, fun _ _ _ h => h⟩
theorem KeepC.trans {G : Addr → Prop} {A B C : World} (h : KeepC G A B) (k : KeepC G B C) : KeepC G A C := ⟨Nat.le_trans h.1 k.1, fun a v g hc => k.2 a v g (h.2 a v g hc)⟩
theorem KeepC.ofKp {G : Addr → Prop} {S : List Nat} {A B : World} (hk : Kp S A B) (hS : ∀ a, G a → a.block ∉ S) : KeepC G A B := ⟨hk.size, fun a v g hc => (hk.cell (World.block_lt_of_cell? _ _ hc) (hS a g)).trans hc⟩
theorem KeepC.alloc (G : Addr → Prop) (W : World) (o : Obj) : KeepC G W (W.alloc o) := KeepC.ofKp (S := []) ((Kp.refl _ _).alloc _) (by simp)
theorem KeepC.putObj (G : Addr → Prop) (W : World) (l : Nat) (o o' : Obj) (ho : W.heap[l]? = some o) (hc : o.isCells = false) : KeepC G W (W.putObj l o') :=
 ⟨by simp, fun a v _ hv => by
  have hne : a.block ≠ l := fun e => by
   unfold World.cell? at hv
   rw [e, ho] at hv
   cases o <;> simp_all [Obj.isCells]
  exact (World.cell?_of_block (World.putObj_heap_other (by simpa using hne))).trans hv⟩
def Gsg (q1 q2 : Nat) : Addr → Prop := fun x => x.block = q1 ∨ x.block = q2
theorem segSeq (n : Nat) (hn : 1 ≤ n) (q1 q2 P M : Nat) (w : World) (hb1 : w.cell? ⟨q1, 0, none⟩ = some (.int .i64 (P : Int))) (hb2 : w.cell? ⟨q2, 0, none⟩ = some (.int .i64 (M : Int))) (hP : P ≤ 9223372036854775807) (hM : M ≤ 9223372036854775807) :
  SeqS Fence.wide n Tryz.prog 128 #[.pointer (some ⟨q1, 0, none⟩), .pointer (some ⟨q2, 0, none⟩)] (fun x : Nat × Nat => #[.agg #[.int .i64 x.1, .int .i64 x.2]]) (fun s s' A B => s = s' ∧ A = B) (fun _ => KeepC (Gsg q1 q2))
   (fun s x => s < P * M ∧ x.1 * M + x.2 = s ∧ x.2 < M ∧ x.1 < P) (fun s _ => s + 1) (fun s => s = P * M) (fun _ => True) 0 w := by
 intro ly J Jx W hW hT hY h0
 have hb1W := hW.2 _ _ (.inl rfl) hb1
 have hkW := hid hW
 have hB := hid hb2
 clear hb1 hb2 hW;refine callsIn_of_wp Tryz.func128 rfl trivial ?_ rfl;simp only [Tryz.ntmps128, List.size_toArray, List.length_cons, List.length_nil, Nat.reduceAdd, Nat.reduceSub, Array.replicate_succ, Array.replicate_zero, List.push_toArray, List.append_toArray, List.nil_append, List.cons_append];gi_wp2_with fail;gi_loopw [7] (fun i wr => ∃ k : Nat, k ≤ P ∧ i = .int .i64 k ∧ J (k * M) wr ∧ Hid (KeepC (Gsg q1 q2) w wr)) (fun i _ => P - (intOf i).toNat)
 case atStart => exact ⟨0, Nat.zero_le _, rfl, by simpa using h0, hkW⟩
 case round =>
  obtain ⟨k, hk, rfl, hJk, hkr⟩ := hrel;clear h0 hb1W hkW
  by_cases hkP : k < P
  ·have b2 := hkr.out.2 _ _ (.inr rfl) hB.out
   have i1 : (0 : Int) ≤ (k : Int) := by omega
   have i2 : (k : Int) < (P : Int) := by omega
   have i3 : (k : Int) + 1 ≤ 9223372036854775807 := by omega
   gi_wp2_with fail;gi_loopw [11] (fun i wn => ∃ j : Nat, j ≤ M ∧ i = .int .i64 j ∧ J (k * M + j) wn ∧ Hid (KeepC (Gsg q1 q2) w wn)) (fun i _ => M - (intOf i).toNat)
   case atStart => exact ⟨0, Nat.zero_le _, rfl, by simpa using hJk, hkr⟩
   case round =>
    obtain ⟨j, hj, rfl, hJj, hkn⟩ := hrel;clear hJk hkr b2
    by_cases hjM : j < M
    ·have j1 : (0 : Int) ≤ (j : Int) := by omega
     have j2 : (j : Int) < (M : Int) := by omega
     have j3 : (j : Int) + 1 ≤ 9223372036854775807 := by omega
     have hlt : k * M + j < P * M := by
      have : (k + 1) * M ≤ P * M := Nat.mul_le_mul_right _ hkP
      rw [Nat.succ_mul] at this;omega
     obtain ⟨fn, tmps, assign, body, hy, hR⟩ := hY _ (k, j) _ hJj ⟨hlt, rfl, hjM, hkP⟩;dsimp only at hy;clear hJj hlt;gi_wp2_with fail;refine hR.mono ?_;rintro e1 W3 (⟨rfl, hJ3, hk3⟩ | ⟨rfl, hJx⟩)
     ·have hkk := hid (hkn.out.trans hk3)
      clear hR hy hkn;gi_wp2_with fail;go_roundw
      case rel => exact ⟨j + 1, by omega, by go_num, by simpa [Nat.add_assoc] using hJ3, hkk⟩
      case measure => simp [intOf]; omega
     ·clear hR hy
      gi_wp2_with fail;refine bodyPost_ret (results_none rfl _ _ _) rfl ?_;exact ⟨⟨_, rfl⟩, .inr ⟨_, trivial, hJx⟩⟩
    ·have e : j = M := by omega
     subst e;have hJ4 : J ((k + 1) * j) wr := by rw [Nat.succ_mul]; exact hJj
     gi_wp2_with fail;go_roundw
     case rel => exact ⟨k + 1, by omega, by go_num, hJ4, hkn⟩
     case measure => simp [intOf]; omega
  ·have e : k = P := by omega
   subst e;gi_wp2
   go_end0
   exact ⟨⟨_, rfl⟩, .inl ⟨_, rfl, hJk⟩⟩
end Go.Proofs.YtlgfekjoknbfdaaGreatDoor
end

section
namespace Go.Proofs.YtlgfekjoknbfdaaGreatDoor
open Go.RowKit Go.Hay
def SgP (P M : Nat) (w : World) (e : Ending) (w' : World) : Prop := ∃ q1 q2, e = .returned (.func (.func 128) #[] #[.pointer (some ⟨q1, 0, none⟩), .pointer (some ⟨q2, 0, none⟩)]) ∧ w'.cell? ⟨q1, 0, none⟩ = some (.int .i64 (P : Int)) ∧ w'.cell? ⟨q2, 0, none⟩ = some (.int .i64 (M : Int)) ∧ w.heap.size ≤ q1 ∧ w.heap.size ≤ q2 ∧ Kp [] w w'
theorem cSegments (c : Cg) (w : World) (M : Nat) (hM : c.s = (M : Int)) (hn : cntd c = true) : Calls Tryz.prog 82 #[c.v] w (SgP c.pl.length M w) := by
 obtain ⟨W, eW, kW, zW, bC⟩ := boxC c w;have aC := hid (fun W' => cCounted c W')
 rw [hn] at aC;simp only [Cg.v] at *;rw [hM] at aC eW bC;rw [hM];have c4 := bC.get 4 _ rfl
 have c1 := bC.get 1 _ rfl
 have BC := hid bC
 have KW := hid kW
 have zW' : w.heap.size < W.heap.size := by omega
 have hF : Hid (∀ W', Kp [] W W' → (W'.cell? ⟨w.heap.size, 0, none⟩ = some (.int .i64 c.n) ∧ W'.cell? ⟨w.heap.size, 1, none⟩ = some (.int .i64 (M : Int)) ∧ W'.cell? ⟨w.heap.size, 2, none⟩ = some (.int .i64 c.k) ∧ W'.cell? ⟨w.heap.size, 3, none⟩ = some (.slice c.ta c.tl.length c.tc) ∧ W'.cell? ⟨w.heap.size, 4, none⟩ = some (.slice c.pa c.pl.length c.pc))) := fun W' k => by
  have h1 := BC.out.kept k
  exact ⟨h1.get 0 _ rfl, h1.get 1 _ rfl, h1.get 2 _ rfl, h1.get 3 _ rfl, h1.get 4 _ rfl⟩
 clear kW bC hn hM;go_enter Tryz.func82, Tryz.ntmps82
 go_wp2_with fail;refine wp_region_held_drew (S := fun W' => W'.cell? ⟨w.heap.size, 0, none⟩ = some (.int .i64 c.n) ∧ W'.cell? ⟨w.heap.size, 1, none⟩ = some (.int .i64 (M : Int)) ∧ W'.cell? ⟨w.heap.size, 2, none⟩ = some (.int .i64 c.k) ∧ W'.cell? ⟨w.heap.size, 3, none⟩ = some (.slice c.ta c.tl.length c.tc) ∧ W'.cell? ⟨w.heap.size, 4, none⟩ = some (.slice c.pa c.pl.length c.pc)) (by kernel_rfl) ?_ (fun hHeld => ?_)
 ·exact hF.out _ (Kp.refl _ _).drew
 have KD : Hid (Kp [] W W.drew) := hid (Kp.refl _ _).drew
 generalize W.drew = Wd at *
 clear c4 c1;refine tkH ?_ 0 rfl (by kernel_rfl) (fun _ _ _ h => h) (by rfl) ?_ ‹_› ?_;rotate_left
 ·intro w h; (try dsimp only at h); go_simp <;> with_reducible rfl
 (try simp only [Act.put, lz]);refine tkH ?_ 1 rfl (by kernel_rfl) (fun _ _ _ h => h) (by rfl) ?_ ‹_› ?_;rotate_left
 ·intro w h; (try dsimp only at h); go_simp <;> with_reducible rfl
 (try simp only [Act.put, lz]);refine tkH ?_ 2 rfl (by kernel_rfl) (fun _ _ _ h => h) (by rfl) ?_ ‹_› ?_;rotate_left
 ·intro w h; (try dsimp only at h); go_simp <;> with_reducible rfl
 (try simp only [Act.put, lz]);refine tkH ?_ 3 rfl (by kernel_rfl) (fun _ _ _ h => h) (by rfl) ?_ ‹_› ?_;rotate_left
 ·intro w h; (try dsimp only at h); go_simp <;> with_reducible rfl
 (try simp only [Act.put, lz]);refine tkH ?_ 4 rfl (by kernel_rfl) (fun _ _ _ h => h) (by rfl) ?_ ‹_› ?_;rotate_left
 ·intro w h; (try dsimp only at h); go_simp <;> with_reducible rfl
 (try simp only [Act.put, lz]);refine wpAnyH_ready (rs := [5, 6]) (by kernel_rfl) (by simp) ?_
 refine AllReadyH.cons rfl (fun K hK => ?_) (AllReadyH.cons rfl (fun K hK => ?_) AllReadyH.nil)
 ·clear hHeld
  go_simp;(try go_wp2_with fail);refine hK.out _ _ ?_ (fun hHeld => ?_)
  ·exact hF.out _ (KD.out.alloc _)
  clear hK K;(try simp only [Act.put, lz]);refine rdH 6 (by kernel_rfl) rfl fun K hK => ?_
  go_simp;(try go_wp2_with fail);refine hK.out _ _ ?_ (fun hHeld => ?_)
  ·exact hF.out _ ((KD.out.alloc _).alloc _)
  clear hK K;(try simp only [Act.put, lz]);obtain ⟨W2, e2⟩ : ∃ Y, (Wd.alloc (.cells #[.int .i64 0] 3)).alloc (.cells #[.int .i64 0] 3) = Y := ⟨_, rfl⟩
  have b3 : Bn W2 Wd.heap.size [.int .i64 0] := by rw [← e2]; exact (Bn.new Wd [.int .i64 0] 3).kept ((Kp.refl _ _).alloc _)
  have b4 : Bn W2 (Wd.heap.size + 1) [.int .i64 0] := by
   have h := Bn.new (Wd.alloc (.cells #[.int .i64 0] 3)) [.int .i64 0] 3
   rw [World.size_alloc] at h;rw [← e2]; exact h
  have k2 : Kp [] Wd W2 := by rw [← e2]; exact ((Kp.refl _ _).alloc _).alloc _
  have z2 : W2.heap.size = Wd.heap.size + 2 := by rw [← e2]; simp
  try rw [e2]
  try rw [World.size_alloc]
  have u3 := b3.get 0 _ rfl
  have v3 := b3.free 0
  have B3 := b3.set 0 (by simp) (.int .i64 (c.pl.length : Int))
  have kS3 : Kp [Wd.heap.size] W2 (W2.setCell ⟨Wd.heap.size, 0, none⟩ (.int .i64 (c.pl.length : Int))) := (Kp.refl _ _).setCell (by simp) _
  have B4 := b4.keptS kS3 (by simp) (by omega)
  have KS3 : Hid (Kp [] W (W2.setCell ⟨Wd.heap.size, 0, none⟩ (.int .i64 (c.pl.length : Int)))) := hid ((KD.out.trans k2 (by simp)).trans kS3 (fun x hx => .inr (by simp at hx; have := KD.out.size; omega)))
  clear hHeld;refine rdH 7 (by kernel_rfl) rfl fun K hK => ?_
  go_simp;(try go_wp2_with fail);refine hK.out _ _ ?_ (fun hHeld => ?_)
  ·exact hF.out _ KS3.out
  clear hK K;(try simp only [Act.put, lz]);generalize W2.setCell ⟨Wd.heap.size, 0, none⟩ (.int .i64 (c.pl.length : Int)) = W3 at *
  have z3 := kS3.size
  have u4 := B4.get 0 _ rfl
  have v4 := B4.free 0
  have B5 := B4.set 0 (by simp) (.int .i64 (M : Int))
  have kS4 : Kp [Wd.heap.size + 1] W3 (W3.setCell ⟨Wd.heap.size + 1, 0, none⟩ (.int .i64 (M : Int))) := (Kp.refl _ _).setCell (by simp) _
  have B6 := B3.keptS kS4 (by simp) (by omega)
  have KS4 : Hid (Kp [] W (W3.setCell ⟨Wd.heap.size + 1, 0, none⟩ (.int .i64 (M : Int)))) := hid (KS3.out.trans kS4 (fun x hx => .inr (by simp at hx; have := KD.out.size; omega)))
  clear hHeld;refine rdH 8 (by kernel_rfl) rfl fun K hK => ?_
  go_simp;(try go_wp2_with fail);refine hK.out _ _ ?_ (fun hHeld => ?_)
  ·exact hF.out _ KS4.out
  clear hK K;(try simp only [Act.put, lz]);generalize W3.setCell ⟨Wd.heap.size + 1, 0, none⟩ (.int .i64 (M : Int)) = W4 at *
  have HB := hid (And.intro B6 B5)
  obtain ⟨r0, r1, r2, r3, r4⟩ := hF.out _ KS4.out;have zd := KD.out.size
  clear hHeld u3 v3 u4 v4 b3 b4 B3 B4 B5 B6 kS3 kS4 k2;refine wpAnyH_done (by kernel_rfl) ?_ _
  go_wp2_with fail;refine (aC.out _).mono ?_;rintro e w5 ⟨rfl, k5⟩;have K5 := hid k5
  clear k5 r0 r1 r2 r3 r4 aC;go_wp2_with fail;go_ret;exact ⟨Wd.heap.size, Wd.heap.size + 1, rfl, (HB.out.1.kept K5.out).get 0 _ rfl, (HB.out.2.kept K5.out).get 0 _ rfl, by omega, by omega, (KW.out.trans KS4.out (by simp)).trans K5.out (by simp)⟩
 ·clear hHeld
  go_simp;(try go_wp2_with fail);refine hK.out _ _ ?_ (fun hHeld => ?_)
  ·exact hF.out _ (KD.out.alloc _)
  clear hK K;(try simp only [Act.put, lz]);refine rdH 5 (by kernel_rfl) rfl fun K hK => ?_
  go_simp;(try go_wp2_with fail);refine hK.out _ _ ?_ (fun hHeld => ?_)
  ·exact hF.out _ ((KD.out.alloc _).alloc _)
  clear hK K;(try simp only [Act.put, lz]);obtain ⟨W2, e2⟩ : ∃ Y, (Wd.alloc (.cells #[.int .i64 0] 3)).alloc (.cells #[.int .i64 0] 3) = Y := ⟨_, rfl⟩
  have b3 : Bn W2 Wd.heap.size [.int .i64 0] := by rw [← e2]; exact (Bn.new Wd [.int .i64 0] 3).kept ((Kp.refl _ _).alloc _)
  have b4 : Bn W2 (Wd.heap.size + 1) [.int .i64 0] := by
   have h := Bn.new (Wd.alloc (.cells #[.int .i64 0] 3)) [.int .i64 0] 3
   rw [World.size_alloc] at h;rw [← e2]; exact h
  have k2 : Kp [] Wd W2 := by rw [← e2]; exact ((Kp.refl _ _).alloc _).alloc _
  have z2 : W2.heap.size = Wd.heap.size + 2 := by rw [← e2]; simp
  try rw [e2]
  try rw [World.size_alloc]
  have u3 := b4.get 0 _ rfl
  have v3 := b4.free 0
  have B3 := b4.set 0 (by simp) (.int .i64 (c.pl.length : Int))
  have kS3 : Kp [Wd.heap.size + 1] W2 (W2.setCell ⟨Wd.heap.size + 1, 0, none⟩ (.int .i64 (c.pl.length : Int))) := (Kp.refl _ _).setCell (by simp) _
  have B4 := b3.keptS kS3 (by simp) (by omega)
  have KS3 : Hid (Kp [] W (W2.setCell ⟨Wd.heap.size + 1, 0, none⟩ (.int .i64 (c.pl.length : Int)))) := hid ((KD.out.trans k2 (by simp)).trans kS3 (fun x hx => .inr (by simp at hx; have := KD.out.size; omega)))
  clear hHeld;refine rdH 7 (by kernel_rfl) rfl fun K hK => ?_
  go_simp;(try go_wp2_with fail);refine hK.out _ _ ?_ (fun hHeld => ?_)
  ·exact hF.out _ KS3.out
  clear hK K;(try simp only [Act.put, lz]);generalize W2.setCell ⟨Wd.heap.size + 1, 0, none⟩ (.int .i64 (c.pl.length : Int)) = W3 at *
  have z3 := kS3.size
  have u4 := B4.get 0 _ rfl
  have v4 := B4.free 0
  have B5 := B4.set 0 (by simp) (.int .i64 (M : Int))
  have kS4 : Kp [Wd.heap.size] W3 (W3.setCell ⟨Wd.heap.size, 0, none⟩ (.int .i64 (M : Int))) := (Kp.refl _ _).setCell (by simp) _
  have B6 := B3.keptS kS4 (by simp) (by omega)
  have KS4 : Hid (Kp [] W (W3.setCell ⟨Wd.heap.size, 0, none⟩ (.int .i64 (M : Int)))) := hid (KS3.out.trans kS4 (fun x hx => .inr (by simp at hx; have := KD.out.size; omega)))
  clear hHeld;refine rdH 8 (by kernel_rfl) rfl fun K hK => ?_
  go_simp;(try go_wp2_with fail);refine hK.out _ _ ?_ (fun hHeld => ?_)
  ·exact hF.out _ KS4.out
  clear hK K;(try simp only [Act.put, lz]);generalize W3.setCell ⟨Wd.heap.size, 0, none⟩ (.int .i64 (M : Int)) = W4 at *
  have HB := hid (And.intro B6 B5)
  obtain ⟨r0, r1, r2, r3, r4⟩ := hF.out _ KS4.out;have zd := KD.out.size
  clear hHeld u3 v3 u4 v4 b3 b4 B3 B4 B5 B6 kS3 kS4 k2;refine wpAnyH_done (by kernel_rfl) ?_ _
  go_wp2_with fail;refine (aC.out _).mono ?_;rintro e w5 ⟨rfl, k5⟩;have K5 := hid k5
  clear k5 r0 r1 r2 r3 r4 aC;go_wp2_with fail;go_ret;exact ⟨Wd.heap.size + 1, Wd.heap.size, rfl, (HB.out.1.kept K5.out).get 0 _ rfl, (HB.out.2.kept K5.out).get 0 _ rfl, by omega, by omega, (KW.out.trans KS4.out (by simp)).trans K5.out (by simp)⟩
end Go.Proofs.YtlgfekjoknbfdaaGreatDoor
end

section
namespace Go.Hay
open Go.RowKit
variable {F : Fence} {n : Nat} {P : Program} {σ α : Type}
def Recs (B : Nat) (W W' : World) : Prop := W'.heap[B]? = W.heap[B]? ∧ W'.heap[B + 1]? = W.heap[B + 1]?
def leftZ (B : Nat) (K : σ → World → World → Prop) (I : σ → World → Prop) (Ix : Code → σ → World → Prop) (s0 s : σ) (W : World) : Exit → Act → World → Prop
 | .normal, _, W' => Recs B W W' ∧ K s0 W W' ∧ I s W'
 | .ret, _, W' => Recs B W W' ∧ Ix .ret s W'
 | .exit id, _, W' => Recs B W W' ∧ Ix (.exit id) s W'
 | .goto t, _, W' => Recs B W W' ∧ Ix (.goto t) s W'
 | _, _, _ => False
variable {F : Fence} {n : Nat} {P : Program} {σ α : Type}
theorem wpRangeW {g : Operand} {ps : Array Tmp} {assign body : Code} {Q : Exit → Act → World → Prop} {a : Act} {w : World}
  (hro : F.round = none) (h1 : 1 ≤ n) {gf : Nat} {lb : Array Value} (hg : a.eval g = .func (.func gf) #[] lb) (hFg : F.fn gf) (eg : ∀ args w, (callFunc gf args).run P w = .ok (.enter gf args) w)
  {encs : α → Array Value} {T : σ → σ → World → World → Prop} {K : σ → World → World → Prop} {ok : σ → α → Prop} {nx : σ → α → σ} {S Sp : σ → Prop} {s0 : σ} {w0 : World}
  (hseq : SeqS F (n - 1) P gf lb encs T K ok nx S Sp s0 w0) (hps : ∀ x, (encs x).size = ps.size)
  (hKt : ∀ {s : σ} {A B C : World}, K s A B → K s B C → K s A C) (hKa : ∀ s W o, K s W (W.alloc o)) (hKb : ∀ (s : σ) (W : World) (l : Nat) (o o' : Obj), w.heap.size ≤ l → W.heap[l]? = some o → o.isCells = false → o.isWalk = false → K s W (W.putObj l o')) (hb0 : K s0 w0 w)
  (hTk : ∀ s s' A B, T s s' A B → ∀ (k : Nat) (o : Obj), w.heap.size ≤ k → A.heap[k]? = some o → o.isCells = false → o.isWalk = false → B.heap[k]? = some o)
  (I : σ → World → Prop) (Ix : Code → σ → World → Prop) (hI : ∀ s W o', I s W → W.heap.size > w.heap.size + 1 → I s (W.putObj (w.heap.size + 1) o')) (hIx : ∀ c s W o', Ix c s W → W.heap.size > w.heap.size + 1 → Ix c s (W.putObj (w.heap.size + 1) o')) (hIT : ∀ s s' A B, I s A → T s s' A B → I s' B) (h0 : ∀ o1 o2, I s0 ((w.alloc o1).alloc o2)) (hIa : ∀ s W o, I s W → I s (W.alloc o))
  (ob : α → Obj) (a₁ : α → Nat → Act) (hassign : ∀ (l : Nat) (x : α) (W : World) (C : Act → World → Prop), C (a₁ x W.heap.size) (W.alloc (ob x)) →
   assign.wpIn (F.inRound l) (n - 1 - 1) P (Exit.then C (fun _ _ _ => False)) { tmps := (ps.zip (encs x)).foldl (fun t (p, v) => t.setIfInBounds p v) a.tmps, defers := [] } W)
  (hbody : ∀ (l : Nat) (s : σ) (x : α) (W : World) (q : Nat), I s W → ok s x → W.heap[q]? = some (ob x) → w.heap.size + 2 ≤ q → body.wpIn (F.inRound l) (n - 1 - 1) P (leftZ w.heap.size K I Ix s (nx s x) W) (a₁ x q) W)
  (hdone : ∀ (D : Nat) (s : σ) (W : World), w.heap.size ≤ D → S s → I s W → W.heap[D]? = some (.deferred (some [])) → Q .normal { a with defers := { target := .collected D, args := #[] } :: a.defers } W)
  (hstop : ∀ (D : Nat) (c : Code) (s : σ) (W : World), w.heap.size ≤ D → Sp s → Ix c s W → W.heap[D]? = some (.deferred (some [])) → c.wpIn F n P Q { a with defers := { target := .collected D, args := #[] } :: a.defers } W) :
  (Code.rangeFunc g ps assign body).wpIn F n P Q a w := by
 refine wpIn_rangeFunc fun fn hfn => ?_
 rw [hro]
 -- the loop's record, as it may stand
 let R : LoopState → Option Code → Obj := fun st pe => .loop { state := st, pending := pe, fn, tmps := a.tmps, params := ps, assign, body, defers := w.heap.size }
 let Bk : LoopState → Option Code → World → Prop := fun st pe W => W.heap[w.heap.size + 1]? = some (R st pe) ∧ W.heap[w.heap.size]? = some (.deferred (some []))
 have bkK : ∀ {st pe A B}, Recs w.heap.size A B → Bk st pe A → Bk st pe B := fun hk hb => ⟨hk.2.trans hb.1, hk.1.trans hb.2⟩
 have bkP : ∀ {st pe st' pe' A}, Bk st pe A → Bk st' pe' (A.putObj (w.heap.size + 1) (R st' pe')) := fun hb =>
  ⟨World.putObj_heap_same (Array.getElem?_eq_some_iff.1 hb.1).1, (World.putObj_heap_other (by omega)).trans hb.2⟩
 have iP : ∀ {st pe s A} (o : Obj), Bk st pe A → I s A → I s (A.putObj (w.heap.size + 1) o) := fun o hb hi => hI _ _ o hi (Array.getElem?_eq_some_iff.1 hb.1).1
 have ixP : ∀ {st pe s c A} (o : Obj), Bk st pe A → Ix c s A → Ix c s (A.putObj (w.heap.size + 1) o) := fun o hb hi => hIx _ _ _ o hi (Array.getElem?_eq_some_iff.1 hb.1).1
 have kP : ∀ {s st pe A} (o : Obj), Bk st pe A → K s A (A.putObj (w.heap.size + 1) o) := fun o hb => hKb _ _ _ _ _ (by omega) hb.1 rfl rfl
 have bkT : ∀ {s s' st pe A B}, T s s' A B → Bk st pe A → Bk st pe B := fun ht hb => ⟨hTk _ _ _ _ ht _ _ (by omega) hb.1 rfl rfl, hTk _ _ _ _ ht _ _ (Nat.le_refl _) hb.2 rfl rfl⟩
 have b0 : Bk .ready none ((w.alloc (.deferred (some []))).alloc (R .ready none)) :=
  ⟨by have := World.alloc_heap_new (w.alloc (.deferred (some []))) (R .ready none); rwa [World.size_alloc] at this, (Below.heap_alloc _ _ _ (by simp)).trans (World.alloc_heap_new w _)⟩
 refine ⟨w.heap.size + 1, [{ target := .collected w.heap.size, args := #[] }], ((w.alloc (.deferred (some []))).alloc (R .ready none)), { target := .fn (.func gf) lb, args := #[.func (.yield (w.heap.size + 1)) #[] #[]] }, ((w.alloc (.deferred (some []))).alloc (R .ready none)), gf, #[.func (.yield (w.heap.size + 1)) #[] #[]] ++ lb, ((w.alloc (.deferred (some []))).alloc (R .ready none)),
  run_enterLoop_outer _ _ _ _ _, by simp only [resolve, hg]; simp [go_sem], fun f' hf' => by simp [Target.leads] at hf'; subst hf'; exact hFg, by simp [invoke, go_sem, eg], fun _ => h1, ?_⟩
 refine (hseq (w.heap.size + 1) (fun s A => I s A ∧ Bk .ready none A) (fun s A => ∃ c, Ix c s A ∧ Bk .done (some c) A) _ (hKt hb0 (hKt (hKa _ _ _) (hKa _ _ _)))
  (fun s s' A B hs ht => ⟨hIT s s' A B hs.1 ht, bkT ht hs.2⟩) ?_ ⟨h0 _ _, b0⟩).mono ?_
 ·-- one round
  rintro s x A ⟨hi, hb⟩ hok;have hb1 : Bk .ready none (A.alloc (ob x)) := ⟨(Below.heap_alloc A _ _ (Array.getElem?_eq_some_iff.1 hb.1).1).trans hb.1, (Below.heap_alloc A _ _ (Array.getElem?_eq_some_iff.1 hb.2).1).trans hb.2⟩
  have hi1 : I s (A.alloc (ob x)) := hIa _ _ _ hi
  have hz : w.heap.size + 2 ≤ A.heap.size := (Array.getElem?_eq_some_iff.1 hb.1).1
  refine ⟨fn, _, assign, body, run_yield hb.1 (hps x), roundIn_of_wpIn hfn (hassign _ x A _ ⟨_, run_beginRound hb1.1 rfl, ?_⟩)⟩;have hb2 : Bk .busy none ((A.alloc (ob x)).putObj (w.heap.size + 1) (R .busy none)) := bkP hb1
  refine wpIn_mono (hbody _ s x _ A.heap.size (iP _ hb1 hi1) hok ((World.putObj_heap_other (by omega)).trans (World.alloc_heap_new A (ob x))) hz) ?_
  rintro e a3 W3 hp
  cases e with
  | normal =>
   have hb3 := bkK hp.1 hb2
   exact ⟨_, _, run_endRound none hb3.1, .inl ⟨rfl, ⟨iP _ hb3 hp.2.2, bkP hb3⟩, hKt (hKa _ _ _) (hKt (kP _ hb1) (hKt hp.2.1 (kP _ hb3)))⟩⟩
  | ret => have hb3 := bkK hp.1 hb2; exact ⟨_, _, run_endRound (some .ret) hb3.1, .inr ⟨rfl, .ret, ixP _ hb3 hp.2, bkP hb3⟩⟩
  | exit id => have hb3 := bkK hp.1 hb2; exact ⟨_, _, run_endRound (some (.exit id)) hb3.1, .inr ⟨rfl, .exit id, ixP _ hb3 hp.2, bkP hb3⟩⟩
  | goto t => have hb3 := bkK hp.1 hb2; exact ⟨_, _, run_endRound (some (.goto t)) hb3.1, .inr ⟨rfl, .goto t, ixP _ hb3 hp.2, bkP hb3⟩⟩
  | panic ch => exact hp.elim
  | outgrown => exact hp.elim
 ·-- behind the iterator
  rintro e A ⟨⟨v, rfl⟩, (⟨s, hS, hi, hb⟩ | ⟨s, hSp, c, hi, hb⟩)⟩
  ·exact ⟨none, _, run_endLoop hb.1 (by simp), hdone _ s _ (Nat.le_refl _) hS (iP _ hb hi) ((World.putObj_heap_other (by omega)).trans hb.2)⟩
  ·exact ⟨some c, _, run_endLoop hb.1 (by simp), hstop _ c s _ (Nat.le_refl _) hSp (ixP _ hb hi) ((World.putObj_heap_other (by omega)).trans hb.2)⟩
end Go.Hay
end

section
namespace Go.Proofs.YtlgfekjoknbfdaaGreatDoor
open Go.RowKit Go.Hay
attribute [local go_sem] Oper.semAt_some
theorem wpAppRunIn {F : Fence} {n : Nat} {P : Program} {w w' : World} {ops : Array Oper} {rest : List Oper} {o : Oper} {a : Act} {Q : Exit → Act → World → Prop} (hgd : o.guard = none) (s x : Operand) (t tx : TypeId)
  (ho : o.op = .call { callee := .builtin .append, args := #[s, x], argTypes := #[t, tx] }) (v xv v' : Value) (hv : a.eval s = v) (hx : a.eval x = xv)
  (hrun : (Builtin.append_ #[t, tx] o.type #[v, xv]).run P w = .ok v' w') (h : wpListIn F n P ops Q rest (a.put o.dst v') w') : wpListIn F n P ops Q (o :: rest) a w := by
 refine wpListIn_plain hgd fun K hK' => ?_
 unfold Oper.wpIn
 refine ⟨?_, ?_⟩
 ·simp [Oper.about, ho, resolve, Target.leads, Sem.run_pure]
 ·rw [Oper.semAt_plain F _ _ (by rw [ho]; intro c hc'; cases hc')]
  simp [execOp, ho, resolve, invoke, builtin, hv, hx, hrun, Result.andThen]
  exact hK' _ _ h
def SgE : El (Nat × Nat) where
 n := 2
 c x := [.int .i64 (x.1 : Int), .int .i64 (x.2 : Int)]
 len _ := rfl
 one _ u hu := by simp at hu; rcases hu with rfl | rfl <;> rfl
 pos := by decide
theorem infoSg : ∃ i : TypeInfo, Tryz.prog.info? 82 = some i ∧ i.zero = some (.agg #[.int .i64 0, .int .i64 0]) ∧ i.size = 2 ∧ i.bytes = 16 := infI (by kernel_rfl)
def ofTo (c : Cg) (M : Nat) (node : Int) (s : Nat) : List (Nat × Nat) := ((List.range s).map fun k => (k / M, k % M)).filter fun x => decide (node ∈ ndsC c x.1 x.2)
theorem ofTo_succ (c : Cg) (M : Nat) (node : Int) (s : Nat) (x : Nat × Nat) (h : x.1 * M + x.2 = s) (hx : x.2 < M) : ofTo c M node (s + 1) = ofTo c M node s ++ (if node ∈ ndsC c x.1 x.2 then [x] else []) := by
 unfold ofTo
 rw [List.range_succ, List.map_append, List.filter_append];have e1 : s / M = x.1 := by rw [← h, Nat.add_comm, Nat.add_mul_div_right _ _ (by omega), Nat.div_eq_of_lt hx]; omega
 have e2 : s % M = x.2 := by rw [← h, Nat.add_comm, Nat.add_mul_mod_self_right, Nat.mod_eq_of_lt hx]
 have e3 : (s / M, s % M) = x := by rw [e1, e2]
 simp only [List.map_cons, List.map_nil, e3, List.filter_cons, List.filter_nil]
 by_cases hm : node ∈ ndsC c x.1 x.2
 ·simp [hm]
 ·simp [hm]
theorem ofTo_len (c : Cg) (M : Nat) (node : Int) (s : Nat) : (ofTo c M node s).length ≤ s := by
 unfold ofTo
 refine Nat.le_trans (List.length_filter_le _ _) ?_;simp
def OfP (l : List (Nat × Nat)) (w : World) (e : Ending) (w' : World) : Prop := ∃ (a : Option Addr) (cp : Nat), e = .returned (.slice a l.length cp) ∧ SgE.See w' a l ∧ l.length ≤ cp ∧ Kp [] w w'
def ofC (c : Cg) (M : Nat) (node : Int) : List (Nat × Nat) := ofTo c M node (c.pl.length * M)
theorem ownSl (a : Option Addr) (n c : Nat) : own (.slice a n c) = blk a := by cases a <;> simp [own, blk, Value.ownBlock]
theorem boxOf (c : Cg) (node : Int) (w : World) : ∃ W, ((w.alloc (.cells #[.int .i64 c.n, .int .i64 c.s, .int .i64 c.k, .slice c.ta c.tl.length c.tc, .slice c.pa c.pl.length c.pc] 25)).alloc (.cells #[.int .i64 node] 3)).alloc (.cells #[.slice none 0 0] 48) = W ∧ Kp [] w W ∧ W.heap.size = w.heap.size + 3 ∧ Bn W w.heap.size [.int .i64 c.n, .int .i64 c.s, .int .i64 c.k, .slice c.ta c.tl.length c.tc, .slice c.pa c.pl.length c.pc] ∧ Bn W (w.heap.size + 1) [.int .i64 node] ∧ Bn W (w.heap.size + 2) [.slice none 0 0] := by
 refine ⟨_, rfl, (((Kp.refl _ _).alloc _).alloc _).alloc _, by simp, ?_, ?_, ?_⟩
 ·exact ((Bn.new w [.int .i64 c.n, .int .i64 c.s, .int .i64 c.k, .slice c.ta c.tl.length c.tc, .slice c.pa c.pl.length c.pc] 25).kept ((Kp.refl _ _).alloc _)).kept ((Kp.refl _ _).alloc _)
 ·have h := Bn.new (w.alloc (.cells #[.int .i64 c.n, .int .i64 c.s, .int .i64 c.k, .slice c.ta c.tl.length c.tc, .slice c.pa c.pl.length c.pc] 25)) [.int .i64 node] 3
  rw [World.size_alloc] at h;exact h.kept ((Kp.refl _ _).alloc _)
 ·have h := Bn.new ((w.alloc (.cells #[.int .i64 c.n, .int .i64 c.s, .int .i64 c.k, .slice c.ta c.tl.length c.tc, .slice c.pa c.pl.length c.pc] 25)).alloc (.cells #[.int .i64 node] 3)) [.slice none 0 0] 48
  rw [World.size_alloc, World.size_alloc] at h;exact h
end Go.Proofs.YtlgfekjoknbfdaaGreatDoor
end

section
namespace Go.Proofs.YtlgfekjoknbfdaaGreatDoor
open Go.RowKit Go.Hay
def auTo (c : Cg) (M : Nat) (j : Nat) : Bool := (List.range j).all fun (i : Nat) => !(ofC c M (i : Int)).isEmpty
theorem auTo_succ (c : Cg) (M j : Nat) : auTo c M (j + 1) = (auTo c M j && !(ofC c M (j : Int)).isEmpty) := by
 unfold auTo
 rw [List.range_succ, List.all_append];simp
theorem auTo_mono (c : Cg) (M j k : Nat) (h : j ≤ k) (hf : auTo c M j = false) : auTo c M k = false := by
 unfold auTo at hf ⊢
 rw [List.all_eq_false] at hf ⊢;obtain ⟨x, hx, hx2⟩ := hf;exact ⟨x, List.mem_range.2 (by have := List.mem_range.1 hx; omega), hx2⟩
theorem pjsM_all {c : Cg} (h : pjsM c = true) : c.pl.length ≤ 8 ∧ ∀ p ∈ c.pl, pjM c p = true := by
 unfold pjsM pjsTo at h
 simp only [Bool.and_eq_true, decide_eq_true_eq, List.all_eq_true, List.mem_range] at h;refine ⟨h.1, fun p hp => ?_⟩
 obtain ⟨i, hi, rfl⟩ := List.getElem_of_mem hp;have := h.2 i hi
 unfold pjAtC at this
 simp [hi] at this
 exact this.1
theorem pjM_parts {c : Cg} {p : Pj} (h : pjM c p = true) : wi p.tb (c.tl.length : Int) = true ∧ wi p.sh c.n = true ∧ plM p.cl (manyC c p) = true := by
 unfold pjM at h
 simp only [Bool.and_eq_true] at h;exact ⟨h.2.1, h.2.2.1, h.2.2.2.2.1⟩
theorem plM_mem {l : List Int} {m : Int} (h : plM l m = true) : ∀ y ∈ l, 0 ≤ y ∧ y < m := fun y hy => by
 unfold plM plTo at h
 simp only [List.all_eq_true, List.mem_range] at h;obtain ⟨i, hi, rfl⟩ := List.getElem_of_mem hy;have h1 := h i hi
 simp only [Bool.and_eq_true] at h1;have h2 := h1.1
 unfold wi at h2
 simp [hi] at h2
 exact h2
theorem tabsM_all {l : List Tb} (h : tabsM l = true) : ∀ t ∈ l, t.l.length ≤ 8 := fun t ht => by
 unfold tabsM tabTo at h
 simp only [Bool.and_eq_true, decide_eq_true_eq, List.all_eq_true, List.mem_range] at h;obtain ⟨i, hi, rfl⟩ := List.getElem_of_mem ht;have h1 := h.2.2 i hi
 unfold tabAt at h1
 simp [hi] at h1
 have h2 := h1.1
 unfold tableV at h2
 split at h2
 ·rename_i h3
  simp only [Bool.and_eq_true, decide_eq_true_eq] at h3;exact h3.2.2.1
 ·cases h2
def chkC (c : Cg) : Int := if cntd c = false then 133 else if tabsM c.tl = false then 130 else if pjsM c = false then 131 else if acM c = false then 132 else if auTo c c.s.toNat c.n.toNat = false then 133 else 0
theorem memTake (l : List Int) (x : Int) (j : Nat) (h : j < l.length) : decide (x ∈ l.take (j + 1)) = (decide (x ∈ l.take j) || (l[j] == x)) := by
 have h1 : (x ∈ l.take (j + 1)) ↔ (x ∈ l.take j ∨ x = l[j]) := by rw [List.take_succ_eq_append_getElem h, List.mem_append, List.mem_singleton]
 rw [decide_eq_decide.2 h1, Bool.decide_or];congr 1
 rw [Bool.eq_iff_iff, decide_eq_true_iff, beq_iff_eq];exact ⟨Eq.symm, Eq.symm⟩
theorem rIn (a : Option Addr) (c : Nat) (l : List Int) (x : Int) (w : World) (hs : IntE.See w a l) (hl : l.length ≤ 9223372036854775807) :
  Calls Tryz.prog 71 #[.slice a l.length c, .int .i64 x] w fun e w' => e = .returned (.bool (decide (x ∈ l))) ∧ Kp [] w w' := by
 obtain ⟨r, hr⟩ : ∃ r, Hid (decide (x ∈ l) = r) := ⟨_, hid rfl⟩
 rw [hr.out];have hs' := hid hs
 clear hs;go_enter Tryz.func71, Tryz.ntmps71
 go_wp2_with fail;go_loopw [5] (fun i wr => ∃ j : Nat, j ≤ l.length ∧ i = .int .i64 j ∧ Hid (decide (x ∈ l.take j) = false) ∧ Kp [] w wr) (fun i _ => l.length - (intOf i).toNat)
 case atStart => exact ⟨0, Nat.zero_le _, rfl, hid (by simp), Kp.refl _ _⟩
 case round =>
  obtain ⟨j, hj, rfl, hst, kr⟩ := hrel
  by_cases hjl : j < l.length
  ·obtain ⟨g, o, rfl, c0⟩ := intAt (hs'.out.keptNew kr) j hjl
   have hmt := hid (memTake l x j hjl)
   have hmm : Hid (l[j] ∈ l) := List.getElem_mem hjl
   have i1 : (0 : Int) ≤ (j : Int) := by omega
   have i2 : (j : Int) < (l.length : Int) := by omega
   have i3 : (j : Int) + 1 ≤ 9223372036854775807 := by omega
   rw [hst.out] at hmt;generalize l[j] = y at *
   by_cases he : y = x
   ·have d1 : (y == x) = true := by simpa using he
    have hR : Hid (r = true) := by show _ = _; rw [← hr.out]; subst he; simpa using hmm.out
    clear he hmt;go_wp2_with fail;go_ret;exact ⟨by rw [hR.out]; rfl, kr⟩
   ·have d1 : (y == x) = false := by simpa using he
    have hm2 : Hid (decide (x ∈ l.take (j + 1)) = false) := by show _ = _; rw [hmt.out, d1]; rfl
    clear he hmt;go_wp2_with fail;exact ⟨⟨j + 1, by omega, by go_num, hm2, kr⟩, by simp [intOf]; omega⟩
  ·have e : j = l.length := by omega
   subst e;have hR : Hid (r = false) := by show _ = _; rw [← hr.out]; have := hst.out; rw [List.take_length] at this; exact this
   go_wp2_with fail;go_ret;exact ⟨by rw [hR.out]; rfl, kr⟩
theorem rPlaces (a : Option Addr) (c : Nat) (l : List Int) (m : Int) (w : World) (hs : IntE.See w a l) (hl : l.length ≤ c) (hc : c ≤ 9223372036854775807) :
  Calls Tryz.prog 70 #[.slice a l.length c, .int .i64 m] w fun e w' => e = .returned (.bool (plM l m)) ∧ Kp [] w w' := by
 obtain ⟨r, hr⟩ : ∃ r, Hid (plM l m = r) := ⟨_, hid rfl⟩
 rw [hr.out];have hs' := hid hs
 clear hs;go_enter Tryz.func70, Tryz.ntmps70
 go_wp2_with fail;go_loopw [5, 6] (fun i _ wr => ∃ j : Nat, j ≤ l.length ∧ i = .int .i64 j ∧ Hid (plTo l m j = true) ∧ Kp [] w wr) (fun i _ _ => l.length - (intOf i).toNat)
 case atStart => exact ⟨0, Nat.zero_le _, rfl, hid rfl, Kp.refl _ _⟩
 case round =>
  obtain ⟨j, hj, rfl, hst, kr⟩ := hrel
  by_cases hjl : j < l.length
  ·obtain ⟨g, o, rfl, c0⟩ := intAt (hs'.out.keptNew kr) j hjl
   have hsu := hid (plTo_succ l m j hjl)
   have hmo := hid (plTo_mono l m (j + 1) l.length (by omega))
   have i1 : (0 : Int) ≤ (j : Int) := by omega
   have i2 : (j : Int) < (l.length : Int) := by omega
   have i3 : (j : Int) + 1 ≤ 9223372036854775807 := by omega
   have i4 : (j : Int) ≤ (c : Int) := by omega
   have hj2 : (l.take j).length = j := by rw [List.length_take]; omega
   obtain ⟨y, hy⟩ : ∃ y, Hid (l[j] = y) := ⟨l[j], hid rfl⟩
   have aC := hid (fun w' (k : Kp [] wr w') => rIn (some ⟨g, o, none⟩) c (l.take j) y w' (((hs'.out.keptNew kr).keptNew k).front j) (by omega))
   rw [hj2] at aC;rw [hy.out] at c0 hsu;obtain ⟨Z, hZ⟩ : ∃ Z, Hid (decide (y ∈ l.take j) = Z) := ⟨_, hid rfl⟩
   rw [hZ.out] at aC;rw [hZ.out, hst.out] at hsu;have hF : Hid (∀ W', Kp [] wr W' → W'.cell? ⟨g, o + j, none⟩ = some (.int .i64 y)) := fun W' k => kpAt k c0
   clear hj2 hZ hy;go_wp2_with fail;refine wp_region_held_drew (S := fun W' => W'.cell? ⟨g, o + j, none⟩ = some (.int .i64 y)) (by kernel_rfl) ?_ (fun hHeld => ?_)
   ·exact hF.out _ (Kp.refl _ _).drew
   have KD : Hid (Kp [] wr wr.drew) := hid (Kp.refl _ _).drew
   generalize wr.drew = Wd at *
   refine tkH ?_ 0 rfl (by kernel_rfl) (fun _ _ _ h => h) (by rfl) ?_ ‹_› ?_;rotate_left
   ·intro w h; (try dsimp only at h); go_simp <;> with_reducible rfl
   (try simp only [Act.put, lz]);refine tkH ?_ 1 rfl (by kernel_rfl) (fun _ _ _ h => h) (by rfl) ?_ ‹_› ?_;rotate_left
   ·intro w h; (try dsimp only at h); go_simp <;> with_reducible rfl
   (try simp only [Act.put, lz]);refine tkH ?_ 2 rfl (by kernel_rfl) (fun _ _ _ h => h) (by rfl) ?_ ‹_› ?_;rotate_left
   ·intro w h; (try dsimp only at h); go_simp <;> with_reducible rfl
   (try simp only [Act.put, lz]);refine tkH ?_ 3 rfl (by kernel_rfl) (fun _ _ _ h => h) (by rfl) ?_ ‹_› ?_;rotate_left
   ·intro w h; (try dsimp only at h); go_simp <;> with_reducible rfl
   (try simp only [Act.put, lz]);refine tkH ?_ 4 rfl (by kernel_rfl) (fun _ _ _ h => h) (by rfl) ?_ ‹_› ?_;rotate_left
   ·intro w h; (try dsimp only at h); go_simp <;> with_reducible rfl
   (try simp only [Act.put, lz]);refine tkH ?_ 5 rfl (by kernel_rfl) (fun _ _ _ h => h) (by rfl) ?_ ‹_› ?_;rotate_left
   ·intro w h; (try dsimp only at h); go_simp <;> with_reducible rfl
   (try simp only [Act.put, lz]);refine tkH ?_ 6 rfl (by kernel_rfl) (fun _ _ _ h => h) (by rfl) ?_ ‹_› ?_;rotate_left
   ·intro w h; (try dsimp only at h); go_simp <;> with_reducible rfl
   (try simp only [Act.put, lz]);refine rdH 7 (by kernel_rfl) rfl fun K hK => ?_
   go_simp;refine (aC.out Wd KD.out).mono ?_;rintro e w3 ⟨rfl, k3⟩;(try go_wp2_with fail);refine hK.out _ _ ?_ (fun hHeld => ?_)
   ·exact hF.out _ (KD.out.trans k3 (by simp))
   clear hK K;(try simp only [Act.put, lz]);have K3 := hid (KD.out.trans k3 (by simp))
   clear k3 aC;refine tkH ?_ 8 rfl (by kernel_rfl) (fun _ _ _ h => h) (by rfl) ?_ ‹_› ?_;rotate_left
   ·intro w h; (try dsimp only at h); go_simp <;> with_reducible rfl
   (try simp only [Act.put, lz]);refine wpAnyH_done (by kernel_rfl) ?_ _
   have e0 := hF.out _ K3.out
   have kw3 := hid (kr.trans K3.out (by simp))
   clear hHeld c0 hF
   by_cases h0 : y < 0
   ·have d0 : decide (y < 0) = true := by simpa using h0
    have hw : wi y m = false := by unfold wi; simp; omega
    have hR : Hid (r = false) := by show _ = _; rw [← hr.out]; exact hmo.out (by rw [hsu.out, hw]; rfl)
    go_wp2_with fail;go_ret;exact ⟨by rw [hR.out]; rfl, kw3.out⟩
   have d0 : decide (y < 0) = false := by simpa using h0
   by_cases hm : m ≤ y
   ·have d1 : decide (m ≤ y) = true := by simpa using hm
    have hw : wi y m = false := by unfold wi; simp; omega
    have hR : Hid (r = false) := by show _ = _; rw [← hr.out]; exact hmo.out (by rw [hsu.out, hw]; rfl)
    go_wp2_with fail;go_ret;exact ⟨by rw [hR.out]; rfl, kw3.out⟩
   have d1 : decide (m ≤ y) = false := by simpa using hm
   have hw : wi y m = true := by unfold wi; simp; omega
   rw [hw] at hsu;clear hw
   cases Z with
   | true =>
    have hR : Hid (r = false) := by show _ = _; rw [← hr.out]; exact hmo.out hsu.out
    go_wp2_with fail;go_ret;exact ⟨by rw [hR.out]; rfl, kw3.out⟩
   | false =>
    go_wp2_with fail;exact ⟨⟨j + 1, by omega, by go_num, hsu, kw3.out⟩, by simp [intOf]; omega⟩
  ·have e : j = l.length := by omega
   subst e;have hR : Hid (r = true) := by show _ = _; rw [← hr.out]; exact hst.out
   go_wp2_with fail;go_ret;exact ⟨by rw [hR.out]; rfl, kr⟩
theorem hvC_one (C : List Int) (x : Int) : hvC C [x] = decide (x ∈ C) := by simp [hvC]
theorem hvC_succ (C l : List Int) (j : Nat) (h : j < l.length) : hvC C (l.take (j + 1)) = (hvC C (l.take j) && decide (l[j] ∈ C)) := by
 unfold hvC
 have e : l.take (j + 1) = l.take j ++ [l[j]] := by rw [List.take_succ_eq_append_getElem h]
 rw [e, List.all_append, List.all_cons, List.all_nil, Bool.and_true]
theorem hvC_false (C l : List Int) (j : Nat) (h : hvC C (l.take j) = false) : hvC C l = false := by
 unfold hvC at h ⊢
 rw [List.all_eq_false] at h ⊢;obtain ⟨x, hx, hx2⟩ := h;exact ⟨x, List.mem_of_mem_take hx, hx2⟩
theorem rProj (c : Cg) (p : Pj) (w : World) (hc : c.ok w) (hp : p.ok w) : Calls Tryz.prog 31 #[c.v, p.v] w fun e w' => e = .returned (.bool (pjM c p)) ∧ Kp [] w w' := by
 obtain ⟨r, hr⟩ : ∃ r, Hid (pjM c p = r) := ⟨_, hid rfl⟩
 rw [hr.out];obtain ⟨W, eW, kW, zW, bC, bP⟩ := boxCP c p w;have HC := hid (hc.kept kW)
 have HP := hid (hp.kept kW)
 have KW := hid kW
 have c0 := bC.get 0 _ rfl; have c1 := bC.get 1 _ rfl; have c2 := bC.get 2 _ rfl; have c3 := bC.get 3 _ rfl; have c4 := bC.get 4 _ rfl
 have p0 := bP.get 0 _ rfl; have p1 := bP.get 1 _ rfl; have p2 := bP.get 2 _ rfl; have p3 := bP.get 3 _ rfl; have p4 := bP.get 4 _ rfl; have p5 := bP.get 5 _ rfl
 have zW' : w.heap.size + 1 < W.heap.size := by omega
 have BB := hid (And.intro bC bP)
 clear hc hp kW bC bP zW;unfold pjM at hr
 simp only [Cg.v, Pj.v]
 by_cases h0 : p.nm.size = 0
 ·have d0 : ((p.nm.size : Int) == 0) = true := by simp [h0]
  have hN : namedV p.nm = false := by unfold namedV; simp [h0]
  rw [hN] at hr;clear h0 hN;go_enter Tryz.func31, Tryz.ntmps31
  go_wp2_with fail;go_ret;exact ⟨by rw [← hr.out]; rfl, KW.out⟩
 have d0 : ((p.nm.size : Int) == 0) = false := by simpa using h0
 by_cases h64 : 64 < p.nm.size
 ·have d1 : decide ((64 : Int) < (p.nm.size : Int)) = true := by simp; omega
  have hN : namedV p.nm = false := by unfold namedV; simp; omega
  rw [hN] at hr;clear hN;go_enter Tryz.func31, Tryz.ntmps31
  go_wp2_with fail;go_ret;exact ⟨by rw [← hr.out]; rfl, KW.out⟩
 have d1 : decide ((64 : Int) < (p.nm.size : Int)) = false := by simp; omega
 have hN : namedV p.nm = true := by unfold namedV; simp; omega
 rw [hN] at hr;clear h0 hN
 by_cases ht0 : p.tb < 0
 ·have d2 : decide (p.tb < 0) = true := by simpa using ht0
  have hW : wi p.tb (c.tl.length : Int) = false := by unfold wi; simp; omega
  rw [hW] at hr;clear hW;go_enter Tryz.func31, Tryz.ntmps31
  go_wp2_with fail;go_ret;exact ⟨by rw [← hr.out]; rfl, KW.out⟩
 have d2 : decide (p.tb < 0) = false := by simpa using ht0
 by_cases ht1 : (c.tl.length : Int) ≤ p.tb
 ·have d3 : decide ((c.tl.length : Int) ≤ p.tb) = true := by simpa using ht1
  have hW : wi p.tb (c.tl.length : Int) = false := by unfold wi; simp; omega
  rw [hW] at hr;clear hW;go_enter Tryz.func31, Tryz.ntmps31
  go_wp2_with fail;go_ret;exact ⟨by rw [← hr.out]; rfl, KW.out⟩
 have d3 : decide ((c.tl.length : Int) ≤ p.tb) = false := by simpa using ht1
 have hW : wi p.tb (c.tl.length : Int) = true := by unfold wi; simp; omega
 rw [hW] at hr;clear hW
 by_cases h5 : p.cl.length = 0
 ·have d4 : ((p.cl.length : Int) == 0) = true := by simp [h5]
  have hW : decide (0 < (p.cl.length : Int)) = false := by simp [h5]
  rw [hW] at hr;have hr2 : Hid (r = false) := by have := hr.out; exact hid (by simpa using this.symm)
  clear hW h5 hr;go_enter Tryz.func31, Tryz.ntmps31
  go_wp2_with fail;go_ret;exact ⟨by rw [hr2.out]; rfl, KW.out⟩
 have d4 : ((p.cl.length : Int) == 0) = false := by simpa using h5
 have hW : decide (0 < (p.cl.length : Int)) = true := by simp; omega
 rw [hW] at hr;clear hW h5;obtain ⟨i, hi⟩ := Int.eq_ofNat_of_zero_le (show 0 ≤ p.tb by omega)
 have hil : i < c.tl.length := by omega
 obtain ⟨g, f, eg, x0, x1⟩ := tbAt HC.out.ts (j := i) (t := c.tl[i]) (by simp [hil])
 obtain ⟨M, hM⟩ : ∃ M, Hid (c.tl[i].l.length = M) := ⟨_, hid rfl⟩
 have hMc : Hid (manyC c p = (M : Int)) := by show _ = _; unfold manyC; rw [hi]; simp [hil, hM.out]
 rw [hM.out] at x1;rw [hMc.out, hvC_one] at hr;have i1 : (0 : Int) ≤ (i : Int) := by omega
 have i2 : (i : Int) < (c.tl.length : Int) := by omega
 rw [hi] at p1 d2 d3 eW;rw [eg] at c3 eW;have d3n : decide (c.tl.length ≤ i) = false := by simp; omega
 have b1 := hid (fun w' (k : Kp [] W w') => rPlaces p.ca p.cc p.cl (M : Int) w' (HP.out.cols.keptNew k) HP.out.ccap HP.out.cmax)
 have b2 := hid (fun w' (k : Kp [] W w') => rPlaces p.sa p.sc p.sl (M : Int) w' (HP.out.sort.keptNew k) HP.out.scap HP.out.smax)
 have b3 := hid (fun (x : Int) w' (k : Kp [] W w') => rIn p.ca p.cc p.cl x w' (HP.out.cols.keptNew k) (by have := HP.out.ccap; have := HP.out.cmax; omega))
 have hsl : p.sl.length ≤ 9223372036854775807 := by have := HP.out.scap; have := HP.out.smax; omega
 have HB : Hid (∀ w', Kp [] W w' → (w'.cell? ⟨w.heap.size + 1, 0, none⟩ = some (.string p.nm) ∧ w'.cell? ⟨w.heap.size + 1, 1, none⟩ = some (.int .i64 p.tb) ∧ w'.cell? ⟨w.heap.size + 1, 2, none⟩ = some (.slice p.ca p.cl.length p.cc) ∧ w'.cell? ⟨w.heap.size + 1, 3, none⟩ = some (.slice p.sa p.sl.length p.sc) ∧ w'.cell? ⟨w.heap.size + 1, 4, none⟩ = some (.int .i64 p.by_) ∧ w'.cell? ⟨w.heap.size + 1, 5, none⟩ = some (.int .i64 p.sh)) ∧ w'.cell? ⟨w.heap.size, 0, none⟩ = some (.int .i64 c.n)) := fun w' k => by
  have h1 := BB.out.2.kept k
  have h2 := BB.out.1.kept k
  exact ⟨⟨h1.get 0 _ rfl, h1.get 1 _ rfl, h1.get 2 _ rfl, h1.get 3 _ rfl, h1.get 4 _ rfl, h1.get 5 _ rfl⟩, h2.get 0 _ rfl⟩
 obtain ⟨A, hA⟩ : ∃ A, Hid (plM p.cl (M : Int) = A) := ⟨_, hid rfl⟩
 obtain ⟨B, hB⟩ : ∃ B, Hid (plM p.sl (M : Int) = B) := ⟨_, hid rfl⟩
 obtain ⟨D, hD⟩ : ∃ D, Hid (decide (p.by_ ∈ p.cl) = D) := ⟨_, hid rfl⟩
 rw [hA.out] at b1 hr;rw [hB.out] at b2 hr;rw [hD.out] at hr;have qD := hid (b3.out p.by_)
 rw [hD.out] at qD;obtain ⟨sa, hsa⟩ : ∃ sa, Hid (p.sa = sa) := ⟨_, hid rfl⟩
 rw [hsa.out] at eW BB p3 b2 HB;rw [hsa.out];rw [hi] at HB;clear ht0 ht1 hA hB hD;go_enter Tryz.func31, Tryz.ntmps31
 go_wp2_with fail;refine (b1.out W (Kp.refl _ _)).mono ?_;rintro e w2 ⟨rfl, k2⟩;have K2 := hid k2
 clear k2 p0 p1 p2 p3 p4 p5 b1 c0 c1 c2 c3 c4 x0 x1;obtain ⟨⟨p0, p1, p2, p3, p4, p5⟩, c0⟩ := HB.out _ K2.out;go_wp2_with fail;refine (b2.out _ K2.out).mono ?_;rintro e w3 ⟨rfl, k3⟩;have K3 := hid (K2.out.trans k3 (by simp))
 clear k3 p0 p1 p2 p3 p4 p5 b2 c0;obtain ⟨⟨p0, p1, p2, p3, p4, p5⟩, c0⟩ := HB.out _ K3.out;go_wp2_with fail;refine (qD.out _ K3.out).mono ?_;rintro e w4 ⟨rfl, k4⟩;have K4 := hid (K3.out.trans k4 (by simp))
 clear k4 p0 p1 p2 p3 p4 p5 qD c0;go_wp2_with fail;go_loopw [9, 10] (fun iv _ wr => ∃ j : Nat, j ≤ p.sl.length ∧ iv = .int .i64 j ∧ Hid (hvC p.cl (p.sl.take j) = true) ∧ Hid (Kp [] W wr)) (fun iv _ _ => p.sl.length - (intOf iv).toNat)
 case atStart => exact ⟨0, Nat.zero_le _, rfl, hid rfl, K4⟩
 case round =>
  obtain ⟨j, hj, rfl, hst, kr⟩ := hrel;clear K2 K3 K4;obtain ⟨⟨p0, p1, p2, p3, p4, p5⟩, c0⟩ := HB.out _ kr.out
  by_cases hjl : j < p.sl.length
  ·obtain ⟨g2, o2, eg2, y0⟩ := intAt (HP.out.sort.keptNew kr.out) j hjl
   rw [hsa.out] at eg2;subst eg2;have hsu := hid (hvC_succ p.cl p.sl j hjl)
   have hfa := hid (hvC_false p.cl p.sl (j + 1))
   have i3 : (0 : Int) ≤ (j : Int) := by omega
   have i4 : (j : Int) < (p.sl.length : Int) := by omega
   have i5 : (j : Int) + 1 ≤ 9223372036854775807 := by omega
   rw [hst.out] at hsu;generalize p.sl[j] = y at *
   obtain ⟨Z, hZ⟩ : ∃ Z, Hid (decide (y ∈ p.cl) = Z) := ⟨_, hid rfl⟩
   have aC := hid (b3.out y)
   rw [hZ.out] at aC hsu
   have hF : Hid (∀ W', Kp [] wr W' → (W'.cell? ⟨w.heap.size + 1, 2, none⟩ = some (.slice p.ca p.cl.length p.cc) ∧ W'.cell? ⟨w.heap.size + 1, 3, none⟩ = some (.slice (some ⟨g2, o2, none⟩) p.sl.length p.sc) ∧ W'.cell? ⟨g2, o2 + j, none⟩ = some (.int .i64 y))) := fun W' k => by
    obtain ⟨⟨_, _, h2, h3, _, _⟩, _⟩ := HB.out _ (kr.out.trans k (by simp))
    exact ⟨h2, h3, kpAt k y0⟩
   clear hZ;go_wp2_with fail;refine wp_region_held_drew (S := fun W' => W'.cell? ⟨w.heap.size + 1, 2, none⟩ = some (.slice p.ca p.cl.length p.cc) ∧ W'.cell? ⟨w.heap.size + 1, 3, none⟩ = some (.slice (some ⟨g2, o2, none⟩) p.sl.length p.sc) ∧ W'.cell? ⟨g2, o2 + j, none⟩ = some (.int .i64 y)) (by kernel_rfl) ?_ (fun hHeld => ?_)
   ·exact hF.out _ (Kp.refl _ _).drew
   have KD : Hid (Kp [] wr wr.drew) := hid (Kp.refl _ _).drew
   generalize wr.drew = Wd at *
   refine tkH ?_ 0 rfl (by kernel_rfl) (fun _ _ _ h => h) (by rfl) ?_ ‹_› ?_;rotate_left
   ·intro w h; (try dsimp only at h); go_simp <;> with_reducible rfl
   (try simp only [Act.put, lz]);refine tkH ?_ 1 rfl (by kernel_rfl) (fun _ _ _ h => h) (by rfl) ?_ ‹_› ?_;rotate_left
   ·intro w h; (try dsimp only at h); go_simp <;> with_reducible rfl
   (try simp only [Act.put, lz]);refine tkH ?_ 2 rfl (by kernel_rfl) (fun _ _ _ h => h) (by rfl) ?_ ‹_› ?_;rotate_left
   ·intro w h; (try dsimp only at h); go_simp <;> with_reducible rfl
   (try simp only [Act.put, lz]);refine tkH ?_ 3 rfl (by kernel_rfl) (fun _ _ _ h => h) (by rfl) ?_ ‹_› ?_;rotate_left
   ·intro w h; (try dsimp only at h); go_simp <;> with_reducible rfl
   (try simp only [Act.put, lz]);refine tkH ?_ 4 rfl (by kernel_rfl) (fun _ _ _ h => h) (by rfl) ?_ ‹_› ?_;rotate_left
   ·intro w h; (try dsimp only at h); go_simp <;> with_reducible rfl
   (try simp only [Act.put, lz]);refine tkH ?_ 5 rfl (by kernel_rfl) (fun _ _ _ h => h) (by rfl) ?_ ‹_› ?_;rotate_left
   ·intro w h; (try dsimp only at h); go_simp <;> with_reducible rfl
   (try simp only [Act.put, lz]);refine tkH ?_ 6 rfl (by kernel_rfl) (fun _ _ _ h => h) (by rfl) ?_ ‹_› ?_;rotate_left
   ·intro w h; (try dsimp only at h); go_simp <;> with_reducible rfl
   (try simp only [Act.put, lz]);refine rdH 7 (by kernel_rfl) rfl fun K hK => ?_
   go_simp;refine (aC.out Wd (kr.out.trans KD.out (by simp))).mono ?_
   rintro e w5 ⟨rfl, k5⟩;(try go_wp2_with fail);refine hK.out _ _ ?_ (fun hHeld => ?_)
   ·exact hF.out _ (KD.out.trans k5 (by simp))
   clear hK K;(try simp only [Act.put, lz]);have K5 := hid (kr.out.trans (KD.out.trans k5 (by simp)) (by simp))
   clear k5 aC hF;refine tkH ?_ 8 rfl (by kernel_rfl) (fun _ _ _ h => h) (by rfl) ?_ ‹_› ?_;rotate_left
   ·intro w h; (try dsimp only at h); go_simp <;> with_reducible rfl
   (try simp only [Act.put, lz]);refine wpAnyH_done (by kernel_rfl) ?_ _
   clear hHeld p0 p1 p2 p3 p4 p5 c0 y0
   cases Z with
   | true =>
    go_wp2_with fail;exact ⟨⟨j + 1, by omega, by go_num, hsu, K5⟩, by simp [intOf]; omega⟩
   | false =>
    have hf2 := hfa.out hsu.out
    rw [hf2] at hr;have hr2 : Hid (r = false) := by have := hr.out; exact hid (by simpa using this.symm)
    clear hr hf2;go_wp2_with fail;go_ret;exact ⟨by rw [hr2.out]; rfl, KW.out.trans K5.out (by simp)⟩
  ·have e : j = p.sl.length := by omega
   subst e;have hs2 := hst.out
   rw [List.take_length] at hs2;rw [hs2] at hr;clear hs2 hst;have KF := hid (KW.out.trans kr.out (by simp))
   cases A with
   | false =>
    have hr2 : Hid (r = false) := by have := hr.out; exact hid (by simpa using this.symm)
    clear hr;go_wp2_with fail;go_ret;exact ⟨by rw [hr2.out]; rfl, KF.out⟩
   | true =>
   cases B with
   | false =>
    have hr2 : Hid (r = false) := by have := hr.out; exact hid (by simpa using this.symm)
    clear hr;go_wp2_with fail;go_ret;exact ⟨by rw [hr2.out]; rfl, KF.out⟩
   | true =>
   cases D with
   | false =>
    have hr2 : Hid (r = false) := by have := hr.out; exact hid (by simpa using this.symm)
    clear hr;go_wp2_with fail;go_ret;exact ⟨by rw [hr2.out]; rfl, KF.out⟩
   | true =>
   have hr2 : Hid (r = wi p.sh c.n) := by have := hr.out; exact hid (by simpa using this.symm)
   clear hr;unfold wi at hr2
   by_cases hs0 : 0 ≤ p.sh
   ·have e0 : decide (0 ≤ p.sh) = true := by simpa using hs0
    rw [e0] at hr2;go_wp2_with fail;go_ret;exact ⟨by rw [hr2.out]; simp, KF.out⟩
   ·have e0 : decide (0 ≤ p.sh) = false := by simpa using hs0
    rw [e0] at hr2;go_wp2_with fail;go_ret;exact ⟨by rw [hr2.out]; simp, KF.out⟩
def alR (m : Nat) (C D : List Int) : Bool := (List.range m).all fun n => decide ((n : Int) ∈ C) || decide ((n : Int) ∈ D)
theorem cbt_bit : ∀ (l : List Int) (b n : Nat), (∀ y ∈ l, 0 ≤ y) → (l.foldl (fun b p => b ||| 2 ^ p.toNat) b).testBit n = (b.testBit n || decide ((n : Int) ∈ l))
 | [], b, n, _ => by simp
 | y :: l, b, n, h => by
  have hy := h y (by simp)
  have ih := cbt_bit l (b ||| 2 ^ y.toNat) n (fun z hz => h z (by simp [hz]))
  rw [List.foldl_cons, ih, Nat.testBit_or, Nat.testBit_two_pow]
  have e : decide (y.toNat = n) = decide ((n : Int) = y) := by
   rw [decide_eq_decide];omega
  rw [e]
  by_cases h1 : (n : Int) = y
  ·simp [h1]
  ·by_cases h2 : (n : Int) ∈ l
   ·simp [h1, h2]
   ·simp [h1, h2]
theorem alR_bits (m : Nat) (C D : List Int) (hC : ∀ y ∈ C, 0 ≤ y ∧ y < (m : Int)) (hD : ∀ y ∈ D, 0 ≤ y ∧ y < (m : Int)) : alR m C D = ((cbt C ||| cbt D) == 2 ^ m - 1) := by
 have hb : ∀ n, (cbt C ||| cbt D).testBit n = (decide ((n : Int) ∈ C) || decide ((n : Int) ∈ D)) := fun n => by
  rw [Nat.testBit_or];have h1 := cbt_bit C 0 n (fun y hy => (hC y hy).1)
  have h2 := cbt_bit D 0 n (fun y hy => (hD y hy).1)
  simp only [Nat.zero_testBit, Bool.false_or] at h1 h2;unfold cbt
  rw [h1, h2]
 rw [Bool.eq_iff_iff];constructor
 ·intro h
  rw [beq_iff_eq];apply Nat.eq_of_testBit_eq
  intro n
  rw [hb, Nat.testBit_two_pow_sub_one]
  by_cases hn : n < m
  ·unfold alR at h
   rw [List.all_eq_true] at h;rw [h n (List.mem_range.2 hn)];simp [hn]
  ·have h1 : ¬ (n : Int) ∈ C := fun hm => by have := hC _ hm; omega
   have h2 : ¬ (n : Int) ∈ D := fun hm => by have := hD _ hm; omega
   simp [h1, h2, hn]
 ·intro h
  rw [beq_iff_eq] at h;unfold alR
  rw [List.all_eq_true];intro n hn
  rw [← hb n, h, Nat.testBit_two_pow_sub_one];simpa using List.mem_range.1 hn
theorem alR_succ (m : Nat) (C D : List Int) : alR (m + 1) C D = (alR m C D && (decide ((m : Int) ∈ C) || decide ((m : Int) ∈ D))) := by
 unfold alR
 rw [List.range_succ, List.all_append];simp
theorem alR_mono (m k : Nat) (C D : List Int) (h : m ≤ k) (hf : alR m C D = false) : alR k C D = false := by
 unfold alR at hf ⊢
 rw [List.all_eq_false] at hf ⊢;obtain ⟨x, hx, hx2⟩ := hf;exact ⟨x, List.mem_range.2 (by have := List.mem_range.1 hx; omega), hx2⟩
theorem boxTPQ (t : Tb) (p q : Pj) (w : World) : ∃ W, ((w.alloc (.cells #[.string t.nm, .slice t.a t.l.length t.c] 77)).alloc (.cells #[.string p.nm, .int .i64 p.tb, .slice p.ca p.cl.length p.cc, .slice p.sa p.sl.length p.sc, .int .i64 p.by_, .int .i64 p.sh] 92)).alloc (.cells #[.string q.nm, .int .i64 q.tb, .slice q.ca q.cl.length q.cc, .slice q.sa q.sl.length q.sc, .int .i64 q.by_, .int .i64 q.sh] 92) = W ∧ Kp [] w W ∧ W.heap.size = w.heap.size + 3 ∧ Bn W w.heap.size [.string t.nm, .slice t.a t.l.length t.c] ∧ Bn W (w.heap.size + 1) [.string p.nm, .int .i64 p.tb, .slice p.ca p.cl.length p.cc, .slice p.sa p.sl.length p.sc, .int .i64 p.by_, .int .i64 p.sh] ∧ Bn W (w.heap.size + 1 + 1) [.string q.nm, .int .i64 q.tb, .slice q.ca q.cl.length q.cc, .slice q.sa q.sl.length q.sc, .int .i64 q.by_, .int .i64 q.sh] := by
 refine ⟨_, rfl, (((Kp.refl _ _).alloc _).alloc _).alloc _, by simp, ?_, ?_, ?_⟩
 ·exact ((Bn.new w [.string t.nm, .slice t.a t.l.length t.c] 77).kept ((Kp.refl _ _).alloc _)).kept ((Kp.refl _ _).alloc _)
 ·have h := Bn.new (w.alloc (.cells #[.string t.nm, .slice t.a t.l.length t.c] 77)) [.string p.nm, .int .i64 p.tb, .slice p.ca p.cl.length p.cc, .slice p.sa p.sl.length p.sc, .int .i64 p.by_, .int .i64 p.sh] 92
  rw [World.size_alloc] at h;exact h.kept ((Kp.refl _ _).alloc _)
 ·have h := Bn.new ((w.alloc (.cells #[.string t.nm, .slice t.a t.l.length t.c] 77)).alloc (.cells #[.string p.nm, .int .i64 p.tb, .slice p.ca p.cl.length p.cc, .slice p.sa p.sl.length p.sc, .int .i64 p.by_, .int .i64 p.sh] 92)) [.string q.nm, .int .i64 q.tb, .slice q.ca q.cl.length q.cc, .slice q.sa q.sl.length q.sc, .int .i64 q.by_, .int .i64 q.sh] 92
  rw [World.size_alloc, World.size_alloc] at h;exact h
theorem rAllC (t : Tb) (p q : Pj) (w : World) (ht : t.l.length ≤ 9223372036854775806) (hp : p.ok w) (hq : q.ok w) : Calls Tryz.prog 42 #[t.v, p.v, q.v] w fun e w' => e = .returned (.bool (alR t.l.length p.cl q.cl)) ∧ Kp [] w w' := by
 obtain ⟨W, eW, kW, zW, bT, bP, bQ⟩ := boxTPQ t p q w;obtain ⟨r, hr⟩ : ∃ r, Hid (alR t.l.length p.cl q.cl = r) := ⟨_, hid rfl⟩
 rw [hr.out];have aP := hid (fun (x : Int) w' (k : Kp [] w w') => rIn p.ca p.cc p.cl x w' (hp.kept k).cols (by have := hp.ccap; have := hp.cmax; omega))
 have aQ := hid (fun (x : Int) w' (k : Kp [] w w') => rIn q.ca q.cc q.cl x w' (hq.kept k).cols (by have := hq.ccap; have := hq.cmax; omega))
 have KW := hid kW
 have BB := hid (And.intro bT (And.intro bP bQ))
 have zW' : w.heap.size + 1 + 1 < W.heap.size := by omega
 have hF : Hid (∀ w', Kp [] W w' → w'.cell? ⟨w.heap.size, 1, none⟩ = some (.slice t.a t.l.length t.c) ∧ w'.cell? ⟨w.heap.size + 1, 2, none⟩ = some (.slice p.ca p.cl.length p.cc) ∧ w'.cell? ⟨w.heap.size + 1 + 1, 2, none⟩ = some (.slice q.ca q.cl.length q.cc)) := fun w' k => ⟨(BB.out.1.kept k).get 1 _ rfl, (BB.out.2.1.kept k).get 2 _ rfl, (BB.out.2.2.kept k).get 2 _ rfl⟩
 clear hp hq kW bT bP bQ zW;simp only [Tb.v, Pj.v];obtain ⟨M, hM⟩ : ∃ M, Hid (t.l.length = M) := ⟨_, hid rfl⟩
 rw [hM.out] at eW hr hF ht;rw [hM.out];go_enter Tryz.func42, Tryz.ntmps42
 go_wp2_with fail;go_loopw [7, 8, 9] (fun i _ _ wr => ∃ j : Nat, j ≤ M ∧ i = .int .i64 j ∧ Hid (alR j p.cl q.cl = true) ∧ Hid (Kp [] W wr)) (fun i _ _ _ => M - (intOf i).toNat)
 case atStart => exact ⟨0, Nat.zero_le _, rfl, hid rfl, hid (Kp.refl _ _)⟩
 case round =>
  obtain ⟨j, hj, rfl, hst, kr⟩ := hrel;obtain ⟨b1, b2, b3⟩ := hF.out _ kr.out
  by_cases hjl : j < M
  ·have i1 : (0 : Int) ≤ (j : Int) := by omega
   have i2 : (j : Int) < (M : Int) := by omega
   have i3 : (j : Int) + 1 ≤ 9223372036854775807 := by omega
   have hsu := hid (alR_succ j p.cl q.cl)
   have hmo := hid (alR_mono (j + 1) M p.cl q.cl (by omega))
   obtain ⟨X, hX⟩ : ∃ X, Hid (decide ((j : Int) ∈ p.cl) = X) := ⟨_, hid rfl⟩
   obtain ⟨Y, hY⟩ : ∃ Y, Hid (decide ((j : Int) ∈ q.cl) = Y) := ⟨_, hid rfl⟩
   have a1 := hid (aP.out (j : Int) wr (KW.out.trans kr.out (by simp)))
   have a2 := hid (fun w' (k : Kp [] W w') => aQ.out (j : Int) w' (KW.out.trans k (by simp)))
   rw [hX.out] at a1;rw [hY.out] at a2;rw [hst.out, hX.out, hY.out] at hsu;clear hX hY;go_wp2_with fail;refine a1.out.mono ?_;rintro e w2 ⟨rfl, k2⟩;have K2 := hid (kr.out.trans k2 (by simp))
   clear k2 a1 b1 b2 b3;obtain ⟨b1, b2, b3⟩ := hF.out _ K2.out;go_wp2_with fail;refine (a2.out _ K2.out).mono ?_;rintro e w3 ⟨rfl, k3⟩;have K3 := hid (K2.out.trans k3 (by simp))
   clear k3 a2 b1 b2 b3
   cases X with
   | true =>
    have hsu2 : Hid (alR (j + 1) p.cl q.cl = true) := by show _ = _; rw [hsu.out]; rfl
    go_wp2_with fail;exact ⟨⟨j + 1, by omega, by go_num, hsu2, K3⟩, by simp [intOf]; omega⟩
   | false =>
   cases Y with
   | true =>
    have hsu2 : Hid (alR (j + 1) p.cl q.cl = true) := by show _ = _; rw [hsu.out]; rfl
    go_wp2_with fail;exact ⟨⟨j + 1, by omega, by go_num, hsu2, K3⟩, by simp [intOf]; omega⟩
   | false =>
    have hR : Hid (r = false) := by show _ = _; rw [← hr.out]; exact hmo.out (by rw [hsu.out]; rfl)
    go_wp2_with fail;go_ret;exact ⟨by rw [hR.out]; rfl, KW.out.trans K3.out (by simp)⟩
  ·have e : j = M := by omega
   subst e;have hR : Hid (r = true) := by show _ = _; rw [← hr.out]; exact hst.out
   go_wp2_with fail;go_ret;exact ⟨by rw [hR.out]; rfl, KW.out.trans kr.out (by simp)⟩
def rvIn (l : List Pj) (t : Int) (A i m : Nat) : Bool := (List.range m).any fun k => cvP t A (l.getD i default) (l.getD k default)
def rvTo (l : List Pj) (t : Int) (A j : Nat) : Bool := (List.range j).any fun i => rvIn l t A i l.length
theorem rvIn_succ (l : List Pj) (t : Int) (A i m : Nat) : rvIn l t A i (m + 1) = (rvIn l t A i m || cvP t A (l.getD i default) (l.getD m default)) := by
 unfold rvIn
 rw [List.range_succ, List.any_append];simp
theorem rvTo_succ (l : List Pj) (t : Int) (A j : Nat) : rvTo l t A (j + 1) = (rvTo l t A j || rvIn l t A j l.length) := by
 unfold rvTo
 rw [List.range_succ, List.any_append];simp
theorem rv_true (l : List Pj) (t : Int) (A i m : Nat) (hi : i < l.length) (hm : m < l.length) (h : cvP t A (l.getD i default) (l.getD m default) = true) : rvTo l t A l.length = true := by
 unfold rvTo
 rw [List.any_eq_true];refine ⟨i, List.mem_range.2 hi, ?_⟩;unfold rvIn
 rw [List.any_eq_true];exact ⟨m, List.mem_range.2 hm, h⟩
theorem cvP_comm (t : Int) (A : Nat) (p q : Pj) : cvP t A p q = cvP t A q p := by
 unfold cvP
 rw [Nat.or_comm (cbt p.cl) (cbt q.cl)]
 cases (p.tb == t) <;> cases (q.tb == t) <;> simp
theorem rv_eq (l : List Pj) (t : Int) (A : Nat) : rvTo l t A l.length = cvTo l t A l.length := by
 rw [Bool.eq_iff_iff];constructor
 ·intro h
  unfold rvTo rvIn at h
  rw [List.any_eq_true] at h;obtain ⟨i, hi, h⟩ := h;rw [List.any_eq_true] at h;obtain ⟨k, hk, h⟩ := h;rw [List.mem_range] at hi hk
  by_cases hik : i ≤ k
  ·exact cv_true l t A i (k - i) hi (by omega) (by rw [show i + (k - i) = k by omega]; exact h)
  ·exact cv_true l t A k (i - k) hk (by omega) (by rw [show k + (i - k) = i by omega, cvP_comm]; exact h)
 ·intro h
  unfold cvTo cvIn at h
  rw [List.any_eq_true] at h;obtain ⟨i, hi, h⟩ := h;rw [List.any_eq_true] at h;obtain ⟨k, hk, h⟩ := h;rw [List.mem_range] at hi hk;exact rv_true l t A i (i + k) hi (by omega) h
def rpW (m : Nat) (t : Int) (pl : List Pj) (i : Nat) (r : List Nat) : List (Int × Int) :=
 (r.filter fun k => isP m t (pjOf pl i) && isP m t (pjOf pl k) && bothW m pl i k).map fun (k : Nat) => ((i : Int), (k : Int))
theorem prW_flat (m : Nat) (t : Int) (pl : List Pj) : ∀ (n j : Nat), prW (bothW m pl) (ptW m t pl (List.range' j n)) = (List.range' j n).flatMap fun i => rpW m t pl i (List.range' (i + 1) (j + n - (i + 1)))
 | 0, j => by simp [ptW, prW]
 | n + 1, j => by
  rw [List.range'_succ, List.flatMap_cons];have ih := prW_flat m t pl n (j + 1)
  have e1 : j + (n + 1) - (j + 1) = n := by omega
  have e2 : ∀ i, j + 1 + n - (i + 1) = j + (n + 1) - (i + 1) := fun i => by omega
  simp only [e2] at ih;rw [e1, ← ih];unfold ptW rpW
  rw [List.filter_cons]
  cases hp : isP m t (pjOf pl j) with
  | false => simp
  | true =>
   rw [if_pos rfl];show inW (bothW m pl) j _ ++ _ = _
   congr 1
   unfold inW
   rw [List.filter_filter];congr 1
   refine List.filter_congr fun k _ => ?_
   simp [Bool.and_comm]
theorem hv_one (m : Nat) (x : Il) : hvA m [x, x] = hvA m [x] := by
 unfold hvA hasC
 simp
theorem alR_hv (m : Nat) (p q : Pj) : alR m p.cl q.cl = hvA m [colsOf p, colsOf q] := by
 unfold alR hvA hasC
 simp [colsOf]
theorem alR_one (m : Nat) (p : Pj) : alR m p.cl p.cl = hvA m [colsOf p] := by rw [alR_hv, hv_one]
theorem isP_alR (m : Nat) (t : Int) (p : Pj) : isP m t p = (decide (p.tb = t) && !alR m p.cl p.cl) := by unfold isP; rw [alR_one]
theorem isS_alR (m : Nat) (t : Int) (p : Pj) : isS m t p = (decide (p.tb = t) && alR m p.cl p.cl) := by unfold isS; rw [alR_one]
theorem tmod_ref (m : Nat) (hm : 0 < m) (pick : Int) : (if Int.tmod pick m < 0 then Int.tmod pick m + m else Int.tmod pick m) = Int.tmod (Int.tmod pick m + m) m := by
 have h1 := Int.tmod_lt_of_pos pick (show (0 : Int) < (m : Int) by omega)
 have h2 := Int.lt_tmod_of_pos pick (show (0 : Int) < (m : Int) by omega)
 generalize Int.tmod pick m = r at *
 split
 ·rw [Int.tmod_eq_emod_of_nonneg (by omega), Int.emod_eq_of_lt (by omega) (by omega)]
 ·rw [Int.tmod_eq_emod_of_nonneg (by omega), Int.add_emod_right, Int.emod_eq_of_lt (by omega) (by omega)]
end Go.Proofs.YtlgfekjoknbfdaaGreatDoor
end

section
namespace Go.Proofs.YtlgfekjoknbfdaaGreatDoor
open Go.RowKit Go.Hay
attribute [local go_sem] Oper.semAt_some
theorem infoPl : ∃ i : TypeInfo, Tryz.prog.info? 41 = some i ∧ i.zero = some (.agg #[.int .i64 0, .int .i64 0]) ∧ i.size = 2 ∧ i.bytes = 16 := by
 have h : (Tryz.prog.info? 41).map (fun i => (i.zero, i.size, i.bytes)) = some (some (.agg #[.int .i64 0, .int .i64 0]), 2, 16) := by kernel_rfl
 cases hi : Tryz.prog.info? 41 with
 | none => rw [hi] at h; cases h
 | some i =>
  rw [hi] at h;simp at h
  exact ⟨i, rfl, h.1, h.2.1, h.2.2⟩
theorem appPl (w : World) (a : Option Addr) (cp : Nat) (l : List (Int × Int)) (x y : Int) (hrow : AgE.Row w (.slice a l.length cp) l) (hl : l.length ≤ 4000000000000) :
  ∃ a' cp' W', (Builtin.append_ #[45, 45] 45 #[.slice a l.length cp, .slice (some ⟨w.heap.size, 0, none⟩) 1 1]).run Tryz.prog (w.alloc (.cells #[.int .i64 x, .int .i64 y] 41)) = .ok (.slice a' (l ++ [(x, y)]).length cp') W' ∧ AgE.Row W' (.slice a' (l ++ [(x, y)]).length cp') (l ++ [(x, y)]) ∧ (∀ k ∈ blk a', k ∈ blk a ∨ w.heap.size ≤ k) ∧ Kp (blk a) w W' := by
 obtain ⟨A1, hA1⟩ : ∃ A1, w.alloc (.cells #[.int .i64 x, .int .i64 y] 41) = A1 := ⟨_, rfl⟩
 have kA1 : Kp [] w A1 := by rw [← hA1]; exact (Kp.refl _ _).alloc _
 have bx1 : Bn A1 w.heap.size (AgE.c (x, y)) := by rw [← hA1]; exact Bn.new w (AgE.c (x, y)) _
 have hs1 : AgE.See A1 (some ⟨w.heap.size, 0, none⟩) [(x, y)] := .inr ⟨w.heap.size, 0, rfl, fun j u hu => by rw [Nat.zero_add]; exact bx1.get j u (by simpa [El.cs] using hu)⟩
 obtain ⟨i0, hi, hz0', hz1', hz2'⟩ := infoPl;have hsr := hs1.src (P := Tryz.prog) Tryz.underlying45 1
 obtain ⟨v', A2, hrun, hrow2, k2, hn2⟩ := run_appendG (E := AgE) (P := Tryz.prog) A1 45 45 45 41 i0 _ 16 Tryz.underlying45 hi hz0' hz1' hz2' rfl (.slice a l.length cp) l (hrow.keptNew kA1) _ [(x, y)] hsr (by simp; omega) (by simp; omega)
 obtain ⟨a', c', rfl, _⟩ := hrow2.see;simp only [ownV] at k2 hn2;rw [hA1];have z1 := kA1.size
 exact ⟨a', c', A2, hrun, hrow2, fun k hk => by
  rcases hn2 k hk with e | e
  ·exact .inl e
  ·exact .inr (by omega), (kA1.mono (by simp)).trans k2 (fun j hj => .inl hj)⟩
theorem sgW_to {m : Nat} {t : Int} {pl : List Pj} {j : Nat} : sgW m t pl (List.range' 0 (j + 1)) = sgW m t pl (List.range' 0 j) ++ (if isS m t (pjOf pl j) then [((j : Int), (-1 : Int))] else []) := by
 unfold sgW
 rw [range'_to, List.filter_append, List.map_append];congr 1
 by_cases h : isS m t (pjOf pl j) = true <;> simp [h]
theorem rpW_to {m : Nat} {t : Int} {pl : List Pj} {i d : Nat} : rpW m t pl i (List.range' (i + 1) (d + 1)) = rpW m t pl i (List.range' (i + 1) d) ++ (if isP m t (pjOf pl i) && isP m t (pjOf pl (i + 1 + d)) && bothW m pl i (i + 1 + d) then [((i : Int), ((i + 1 + d : Nat) : Int))] else []) := by
 unfold rpW
 rw [List.range'_concat, List.filter_append, List.map_append];congr 1
 rw [Nat.one_mul]
 by_cases h : (isP m t (pjOf pl i) && isP m t (pjOf pl (i + 1 + d)) && bothW m pl i (i + 1 + d)) = true <;> simp [h]
def flW (m : Nat) (t : Int) (pl : List Pj) (j : Nat) : List (Int × Int) := (List.range' 0 j).flatMap fun i => rpW m t pl i (List.range' (i + 1) (pl.length - (i + 1)))
theorem flW_to {m : Nat} {t : Int} {pl : List Pj} {j : Nat} : flW m t pl (j + 1) = flW m t pl j ++ rpW m t pl j (List.range' (j + 1) (pl.length - (j + 1))) := by
 unfold flW
 rw [range'_to, List.flatMap_append];simp
theorem boxPj (w : World) (p : Pj) : ∃ q W1 W2, w.heap.size = q ∧ w.alloc (.cells #[.string ⟨#[]⟩, .int .i64 0, .slice none 0 0, .slice none 0 0, .int .i64 0, .int .i64 0] 92) = W1 ∧ Bn W1 q [.string ⟨#[]⟩, .int .i64 0, .slice none 0 0, .slice none 0 0, .int .i64 0, .int .i64 0] ∧ (((((W1.setCell ⟨q, 0, none⟩ (.string p.nm)).setCell ⟨q, 1, none⟩ (.int .i64 p.tb)).setCell ⟨q, 2, none⟩ (.slice p.ca p.cl.length p.cc)).setCell ⟨q, 3, none⟩ (.slice p.sa p.sl.length p.sc)).setCell ⟨q, 4, none⟩ (.int .i64 p.by_)).setCell ⟨q, 5, none⟩ (.int .i64 p.sh) = W2 ∧ Bn W2 q [.string p.nm, .int .i64 p.tb, .slice p.ca p.cl.length p.cc, .slice p.sa p.sl.length p.sc, .int .i64 p.by_, .int .i64 p.sh] ∧ Kp [] w W2 := by
 have b0 := Bn.new w [.string ⟨#[]⟩, .int .i64 0, .slice none 0 0, .slice none 0 0, .int .i64 0, .int .i64 0] 92
 have k0 : Kp [] w (w.alloc (.cells #[.string ⟨#[]⟩, .int .i64 0, .slice none 0 0, .slice none 0 0, .int .i64 0, .int .i64 0] 92)) := (Kp.refl _ _).alloc _
 have h : w.heap.size ∈ ([] : List Nat) ∨ w.heap.size ≤ w.heap.size := .inr (Nat.le_refl _)
 exact ⟨_, _, _, rfl, rfl, b0, rfl, (((((b0.set 0 (by simp) _).set 1 (by simp) _).set 2 (by simp) _).set 3 (by simp) _).set 4 (by simp) _).set 5 (by simp) _, (((((k0.setCell h _).setCell h _).setCell h _).setCell h _).setCell h _).setCell h _⟩
def RwP (l : List (Int × Int)) (w : World) (e : Ending) (w' : World) : Prop := ∃ a cp, e = .returned (.slice a l.length cp) ∧ AgE.Row w' (.slice a l.length cp) l ∧ Kp [] w w'
theorem rWays (c : Cg) (t : Int) (w : World) (hc : c.ok w) (h8 : ∀ x ∈ c.tl, x.l.length ≤ 1000000) (hpl : c.pl.length ≤ 1000000) : Calls Tryz.prog 15 #[c.v, .int .i64 t] w (RwP (waysV c t) w) := by
 obtain ⟨R, hR⟩ : ∃ R, Hid (waysV c t = R) := ⟨_, hid rfl⟩
 rw [hR.out];obtain ⟨w1, hw1, k1, z1, b1⟩ := boxC c w;obtain ⟨qc, hqc⟩ : ∃ x, w.heap.size = x := ⟨_, rfl⟩
 rw [hqc] at b1 z1;have HC := hid (hc.kept k1)
 have H8 := hid h8
 have K1 := hid k1
 have HB := hid b1
 have a3 := b1.get 3 _ rfl
 have htl : c.tl.length ≤ 9223372036854775807 := by have := hc.tcap; have := hc.tmax; omega
 simp only [Cg.v];clear hc k1 h8 z1 b1
 by_cases t0 : t < 0
 ·have e0 : decide (t < 0) = true := by simpa using t0
  have hRn : Hid (R = []) := hid (by rw [← hR.out]; unfold waysV; rw [if_neg]; unfold wi; simp; omega)
  clear t0;go_enter Tryz.func15, Tryz.ntmps15
  go_wp2_with fail;go_ret;rw [hRn.out];exact ⟨none, 0, rfl, .inl ⟨rfl, rfl⟩, K1.out⟩
 have e0 : decide (t < 0) = false := by simpa using t0
 by_cases t1 : t ≥ (c.tl.length : Int)
 ·have e1 : decide (t ≥ (c.tl.length : Int)) = true := by simpa using t1
  have hRn : Hid (R = []) := hid (by rw [← hR.out]; unfold waysV; rw [if_neg]; unfold wi; simp; omega)
  clear t0 t1;go_enter Tryz.func15, Tryz.ntmps15
  go_wp2_with fail;go_ret;rw [hRn.out];exact ⟨none, 0, rfl, .inl ⟨rfl, rfl⟩, K1.out⟩
 have e1 : decide (t ≥ (c.tl.length : Int)) = false := by simpa using t1
 obtain ⟨n, rfl⟩ := Int.eq_ofNat_of_zero_le (show (0 : Int) ≤ t by omega)
 have hn : n < c.tl.length := by omega
 obtain ⟨g, o, hta, x0, x1⟩ := tbAt HC.out.ts (j := n) (t := c.tl[n]) (by simp [hn])
 have hx8 := H8.out _ (List.getElem_mem hn)
 obtain ⟨m, hm⟩ : ∃ m, Hid (tbM c n = m) := ⟨_, hid rfl⟩
 have hml : c.tl[n].l.length = m := by rw [← hm.out]; simp [tbM, hn]
 have hR2 : Hid (R = sgW m n c.pl (List.range' 0 c.pl.length) ++ flW m n c.pl c.pl.length) := hid (by
  rw [← hR.out];unfold waysV flW
  have e : wi (n : Int) c.tl.length = true := by unfold wi; simp; omega
  rw [if_pos e, hm.out, prW_flat];simp)
 rw [hta] at a3;simp only [hta] at hw1 ⊢;generalize c.tl[n] = x at *
 obtain ⟨xn, xa, xc, xl⟩ := x;dsimp only at x0 x1 hx8 hml;subst hml;have i1 : (0 : Int) ≤ (n : Int) := by omega
 have i2 : (n : Int) < (c.tl.length : Int) := by omega
 have hX := hid (And.intro x0 x1)
 have K0 := hid (Kp.refl [] w1)
 have hne : AgE.Row w1 (.slice none 0 0) [] := .inl ⟨rfl, rfl⟩
 have hne' := hid hne
 have e2 : decide (c.tl.length ≤ n) = false := by simp; omega
 have e3 : ¬ c.tl.length ≤ n := by omega
 clear t0 t1 x0 x1 hR hm;go_enter Tryz.func15, Tryz.ntmps15
 go_wp2_with fail;clear e0 e1 e2;go_loopw [5, 6] (fun v5 v6 wr => ∃ (j : Nat) (a : Option Addr) (cp : Nat) (l : List (Int × Int)), j ≤ c.pl.length ∧ v6 = .int .i64 (j : Int) ∧ v5 = .slice a l.length cp ∧ Hid (l = sgW xl.length n c.pl (List.range' 0 j) ∧ l.length ≤ j) ∧ Hid (AgE.Row wr (.slice a l.length cp) l ∧ (∀ k ∈ blk a, w1.heap.size ≤ k) ∧ Kp [] w1 wr)) (fun _ v6 _ => c.pl.length - (intOf v6).toNat)
 case atStart => exact ⟨0, none, 0, [], Nat.zero_le _, rfl, rfl, hid ⟨rfl, Nat.le_refl _⟩, hid ⟨hne'.out, by simp [blk], K0.out⟩⟩
 case round =>
  obtain ⟨j, a, cp, l, hj, rfl, rfl, hl, hk⟩ := hrel;clear K0;have a4 := (HB.out.kept hk.out.2.2).get 4 _ rfl
  by_cases hlt : j < c.pl.length
  ·obtain ⟨g2, o2, hpa, y0, y1, y2, y3, y4, y5⟩ := pjAt HC.out.ps (j := j) (p := c.pl[j]) (by simp [hlt])
   have hpj : Hid (pjOf c.pl j = c.pl[j]) := hid (by simp [pjOf, hlt])
   have hsg := hid (sgW_to (m := xl.length) (t := (n : Int)) (pl := c.pl) (j := j))
   rw [hpj.out] at hsg;have hpok := hid (HC.out.pok _ (List.getElem_mem hlt))
   have hS1 : Hid (∀ W', Kp [] w1 W' → ((W'.cell? ⟨qc, 3, none⟩ = some (.slice (some ⟨g, o, none⟩) c.tl.length c.tc) ∧ W'.cell? ⟨qc, 4, none⟩ = some (.slice (some ⟨g2, o2, none⟩) c.pl.length c.pc)) ∧ (W'.cell? ⟨g, o + n * 2, none⟩ = some (.string xn) ∧ W'.cell? ⟨g, o + n * 2 + 1, none⟩ = some (.slice xa xl.length xc)))) := hid fun W' k => by
    have b := HB.out.kept k
    have b3 := b.get 3 _ rfl
    have b4 := b.get 4 _ rfl
    rw [hta] at b3;rw [hpa] at b4;exact ⟨⟨b3, b4⟩, kpAt k hX.out.1, kpAt k hX.out.2⟩
   generalize c.pl[j] = p at *
   obtain ⟨pn, pt, pa, pc, pl, psa, psc, psl, pb, ph⟩ := p;dsimp only at y0 y1 y2 y3 y4 y5
   have hS : Hid (∀ W', Kp [] wr W' → (fun W' => W'.cell? ⟨qc, 3, none⟩ = some (.slice (some ⟨g, o, none⟩) c.tl.length c.tc) ∧ W'.cell? ⟨qc, 4, none⟩ = some (.slice (some ⟨g2, o2, none⟩) c.pl.length c.pc) ∧ W'.cell? ⟨g, o + n * 2, none⟩ = some (.string xn) ∧ W'.cell? ⟨g, o + n * 2 + 1, none⟩ = some (.slice xa xl.length xc) ∧ W'.cell? ⟨g2, o2 + j * 6, none⟩ = some (.string pn) ∧ W'.cell? ⟨g2, o2 + j * 6 + 1, none⟩ = some (.int .i64 pt) ∧ W'.cell? ⟨g2, o2 + j * 6 + 2, none⟩ = some (.slice pa pl.length pc) ∧ W'.cell? ⟨g2, o2 + j * 6 + 3, none⟩ = some (.slice psa psl.length psc) ∧ W'.cell? ⟨g2, o2 + j * 6 + 4, none⟩ = some (.int .i64 pb) ∧ W'.cell? ⟨g2, o2 + j * 6 + 5, none⟩ = some (.int .i64 ph)) W') := hid fun W' k => by
    have kk := hk.out.2.2.trans k (by simp)
    obtain ⟨⟨h1, h2⟩, h3, h4⟩ := hS1.out W' kk;exact ⟨h1, h2, h3, h4, kpAt kk y0, kpAt kk y1, kpAt kk y2, kpAt kk y3, kpAt kk y4, kpAt kk y5⟩
   obtain ⟨V, hV⟩ : ∃ V, Hid (alR xl.length pl pl = V) := ⟨_, hid rfl⟩
   have cA : Hid (∀ W', Kp [] wr W' → Calls Tryz.prog 42 #[.agg #[.string xn, .slice xa xl.length xc], .agg #[.string pn, .int .i64 pt, .slice pa pl.length pc, .slice psa psl.length psc, .int .i64 pb, .int .i64 ph], .agg #[.string pn, .int .i64 pt, .slice pa pl.length pc, .slice psa psl.length psc, .int .i64 pb, .int .i64 ph]] W' fun e w' => e = .returned (.bool V) ∧ Kp [] W' w') := hid fun W' k => by
    have h := rAllC ⟨xn, xa, xc, xl⟩ ⟨pn, pt, pa, pc, pl, psa, psc, psl, pb, ph⟩ ⟨pn, pt, pa, pc, pl, psa, psc, psl, pb, ph⟩ W' (by dsimp only; omega) (hpok.out.kept (hk.out.2.2.trans k (by simp))) (hpok.out.kept (hk.out.2.2.trans k (by simp)))
    dsimp only at h;rw [hV.out] at h;exact h
   have hSS : Hid (isS xl.length n ⟨pn, pt, pa, pc, pl, psa, psc, psl, pb, ph⟩ = (decide (pt = (n : Int)) && V)) := hid (by rw [isS_alR]; dsimp only; rw [hV.out])
   rw [hSS.out] at hsg;have i3 : (0 : Int) ≤ (j : Int) := by omega
   have i4 : (j : Int) < (c.pl.length : Int) := by omega
   have i5 : (j : Int) + 1 ≤ 9223372036854775807 := by omega
   rw [hpa] at a4;simp only [hpa] at hw1 ⊢;clear y0 y1 y2 y3 y4 y5;go_upto_region 7 with fail
   go_cut [7] from 31 to 47 (fun v wx => v = .bool V ∧ Hid (Kp [] wr wx))
   case first =>
    refine wp_noPanicY ?_;refine wp_region_held_drew (S := fun W' => W'.cell? ⟨qc, 3, none⟩ = some (.slice (some ⟨g, o, none⟩) c.tl.length c.tc) ∧ W'.cell? ⟨qc, 4, none⟩ = some (.slice (some ⟨g2, o2, none⟩) c.pl.length c.pc) ∧ W'.cell? ⟨g, o + n * 2, none⟩ = some (.string xn) ∧ W'.cell? ⟨g, o + n * 2 + 1, none⟩ = some (.slice xa xl.length xc) ∧ W'.cell? ⟨g2, o2 + j * 6, none⟩ = some (.string pn) ∧ W'.cell? ⟨g2, o2 + j * 6 + 1, none⟩ = some (.int .i64 pt) ∧ W'.cell? ⟨g2, o2 + j * 6 + 2, none⟩ = some (.slice pa pl.length pc) ∧ W'.cell? ⟨g2, o2 + j * 6 + 3, none⟩ = some (.slice psa psl.length psc) ∧ W'.cell? ⟨g2, o2 + j * 6 + 4, none⟩ = some (.int .i64 pb) ∧ W'.cell? ⟨g2, o2 + j * 6 + 5, none⟩ = some (.int .i64 ph)) (by kernel_rfl) (hS.out _ (Kp.refl _ _).drew) (fun hHeld => ?_)
    have KD : Hid (Kp [] wr wr.drew) := hid (Kp.refl _ _).drew
    generalize wr.drew = wd at *
    refine tkH ?_ 0 rfl (by kernel_rfl) (fun _ _ _ h => by cases h.1) (by rfl) ?_ ‹_› ?_;rotate_left
    ·intro w h; (try dsimp only at h); go_simp <;> with_reducible rfl
    (try simp only [Act.put, lz]);refine tkH ?_ 1 rfl (by kernel_rfl) (fun _ _ _ h => by cases h.1) (by rfl) ?_ ‹_› ?_;rotate_left
    ·intro w h; (try dsimp only at h); go_simp <;> with_reducible rfl
    (try simp only [Act.put, lz]);refine tkH ?_ 2 rfl (by kernel_rfl) (fun _ _ _ h => by cases h.1) (by rfl) ?_ ‹_› ?_;rotate_left
    ·intro w h; (try dsimp only at h); go_simp <;> with_reducible rfl
    (try simp only [Act.put, lz]);refine tkH ?_ 3 rfl (by kernel_rfl) (fun _ _ _ h => by cases h.1) (by rfl) ?_ ‹_› ?_;rotate_left
    ·intro w h; (try dsimp only at h); go_simp <;> with_reducible rfl
    (try simp only [Act.put, lz]);refine tkH ?_ 4 rfl (by kernel_rfl) (fun _ _ _ h => by cases h.1) (by rfl) ?_ ‹_› ?_;rotate_left
    ·intro w h; (try dsimp only at h); go_simp <;> with_reducible rfl
    (try simp only [Act.put, lz]);refine tkH ?_ 5 rfl (by kernel_rfl) (fun _ _ _ h => by cases h.1) (by rfl) ?_ ‹_› ?_;rotate_left
    ·intro w h; (try dsimp only at h); go_simp <;> with_reducible rfl
    (try simp only [Act.put, lz]);refine tkH ?_ 6 rfl (by kernel_rfl) (fun _ _ _ h => by cases h.1) (by rfl) ?_ ‹_› ?_;rotate_left
    ·intro w h; (try dsimp only at h); go_simp <;> with_reducible rfl
    (try simp only [Act.put, lz]);refine tkH ?_ 7 rfl (by kernel_rfl) (fun _ _ _ h => by cases h.1) (by rfl) ?_ ‹_› ?_;rotate_left
    ·intro w h; (try dsimp only at h); go_simp <;> with_reducible rfl
    (try simp only [Act.put, lz]);refine tkH ?_ 8 rfl (by kernel_rfl) (fun _ _ _ h => by cases h.1) (by rfl) ?_ ‹_› ?_;rotate_left
    ·intro w h; (try dsimp only at h); go_simp <;> with_reducible rfl
    (try simp only [Act.put, lz]);refine tkH ?_ 9 rfl (by kernel_rfl) (fun _ _ _ h => by cases h.1) (by rfl) ?_ ‹_› ?_;rotate_left
    ·intro w h; (try dsimp only at h); go_simp <;> with_reducible rfl
    (try simp only [Act.put, lz]);refine tkH ?_ 10 rfl (by kernel_rfl) (fun _ _ _ h => by cases h.1) (by rfl) ?_ ‹_› ?_;rotate_left
    ·intro w h; (try dsimp only at h); go_simp <;> with_reducible rfl
    (try simp only [Act.put, lz]);refine tkH ?_ 11 rfl (by kernel_rfl) (fun _ _ _ h => by cases h.1) (by rfl) ?_ ‹_› ?_;rotate_left
    ·intro w h; (try dsimp only at h); go_simp <;> with_reducible rfl
    (try simp only [Act.put, lz]);refine tkH ?_ 12 rfl (by kernel_rfl) (fun _ _ _ h => by cases h.1) (by rfl) ?_ ‹_› ?_;rotate_left
    ·intro w h; (try dsimp only at h); go_simp <;> with_reducible rfl
    (try simp only [Act.put, lz]);refine tkH ?_ 13 rfl (by kernel_rfl) (fun _ _ _ h => by cases h.1) (by rfl) ?_ ‹_› ?_;rotate_left
    ·intro w h; (try dsimp only at h); go_simp <;> with_reducible rfl
    (try simp only [Act.put, lz]);refine tkH ?_ 14 rfl (by kernel_rfl) (fun _ _ _ h => by cases h.1) (by rfl) ?_ ‹_› ?_;rotate_left
    ·intro w h; (try dsimp only at h); go_simp <;> with_reducible rfl
    (try simp only [Act.put, lz]);refine rdH 15 (by kernel_rfl) rfl fun K hK => ?_
    go_simp;refine (cA.out wd KD.out).mono ?_;rintro e wz ⟨rfl, kz⟩;have KZ := hid (KD.out.trans kz (by simp))
    clear kz;(try go_wp2_with fail);refine hK.out _ _ (hS.out wz KZ.out) (fun hHeld => ?_)
    clear hK K;(try simp only [Act.put, lz]);refine tkH ?_ 16 rfl (by kernel_rfl) (fun _ _ _ h => by cases h.1) (by rfl) ?_ ‹_› ?_;rotate_left
    ·intro w h; (try dsimp only at h); go_simp <;> with_reducible rfl
    (try simp only [Act.put, lz]);refine wpAnyH_done (by kernel_rfl) ⟨rfl, ?_⟩ _
    clear hHeld;go_wp2_with fail;go_meet
    case rel => exact ⟨rfl, KZ⟩
   case rest =>
    obtain ⟨rfl, kc⟩ := hcut;obtain ⟨w3, hw3⟩ : ∃ x, x = wc := ⟨wc, rfl⟩
    subst hw3;obtain ⟨f1, f2, f3, f4, f5, f6, f7, f8, f9, f10⟩ := hS.out w3 kc.out;have K3 := hid (hk.out.2.2.trans kc.out (by simp))
    have hrow3 := hid (hk.out.1.keptNew kc.out)
    have hl3 : l.length ≤ 4000000000000 := by have := hl.out.2; omega
    have hlr := hid (And.intro hl.out (And.intro hrow3.out (And.intro hk.out.2.1 K3.out)))
    by_cases ht : pt = (n : Int)
    ·cases V with
     | true =>
      have hsn : Hid (l ++ [((j : Int), (-1 : Int))] = sgW xl.length n c.pl (List.range' 0 (j + 1)) ∧ (l ++ [((j : Int), (-1 : Int))]).length ≤ j + 1) := hid ⟨by rw [hsg.out, hl.out.1, ht]; simp, by rw [List.length_append]; have := hl.out.2; simp; omega⟩
      obtain ⟨a', cp', W', hrun, hrw, hnb, kA⟩ := appPl w3 a cp l (j : Int) (-1) hrow3.out hl3;obtain ⟨l4, hl4⟩ : ∃ z, Hid (l ++ [((j : Int), (-1 : Int))] = z) := ⟨_, hid rfl⟩
      rw [hl4.out] at hrun hrw hsn
      have hfin : Hid (AgE.Row W' (.slice a' l4.length cp') l4 ∧ (∀ k ∈ blk a', w1.heap.size ≤ k) ∧ Kp [] w1 W') := hid ⟨hrw, fun k hk' => by
       rcases hnb k hk' with e | e
       ·exact hk.out.2.1 k e
       ·have := K3.out.size; omega, K3.out.trans kA (fun x hx => .inr (hk.out.2.1 x hx))⟩
      have hrun' := hid hrun
      have t3 : (pt == (n : Int)) = true := by simpa using ht
      clear hrun hrw hnb kA;subst ht;go_wp2_with (first | (refine wpAppRunY rfl _ _ 45 45 rfl _ _ _ rfl rfl hrun'.out ?_) | fail)
      go_roundw
      case rel => exact ⟨j + 1, a', cp', l4, by omega, by go_num, rfl, hsn, hfin⟩
      case measure => simp [intOf]; omega
     | false =>
      have hsn : Hid (l = sgW xl.length n c.pl (List.range' 0 (j + 1)) ∧ l.length ≤ j + 1) := hid ⟨by rw [hsg.out, ← hl.out.1]; simp, by have := hl.out.2; omega⟩
      have hfin := hid hlr.out.2
      subst ht;go_wp2_with fail;go_roundw
      case rel => exact ⟨j + 1, a, cp, l, by omega, by go_num, rfl, hsn, hfin⟩
      case measure => simp [intOf]; omega
    ·have t3 : (pt == (n : Int)) = false := by simpa using ht
     have hsn : Hid (l = sgW xl.length n c.pl (List.range' 0 (j + 1)) ∧ l.length ≤ j + 1) := hid ⟨by rw [hsg.out, ← hl.out.1]; simp [ht], by have := hl.out.2; omega⟩
     have hfin := hid hlr.out.2
     clear ht;go_wp2_with fail;go_roundw
     case rel => exact ⟨j + 1, a, cp, l, by omega, by go_num, rfl, hsn, hfin⟩
     case measure => simp [intOf]; omega
  ·have hje : j = c.pl.length := by omega
   subst hje;have dj1 : ¬ (c.pl.length : Int) < (c.pl.length : Int) := by omega
   have dj2 : decide ((c.pl.length : Int) < (c.pl.length : Int)) = false := by simp
   obtain ⟨SG, hSG⟩ : ∃ z, Hid (sgW xl.length n c.pl (List.range' 0 c.pl.length) = z) := ⟨_, hid rfl⟩
   have hl' : Hid (l = SG ++ flW xl.length n c.pl 0 ∧ l.length ≤ 1000000) := hid ⟨by rw [hl.out.1, hSG.out]; simp [flW], by have := hl.out.2; omega⟩
   rw [hSG.out] at hR2;have hk' := hid hk.out
   go_wp2_with fail;go_loopw [5, 8] (fun v5 v8 wo => ∃ (i : Nat) (a : Option Addr) (cp : Nat) (l : List (Int × Int)), i ≤ c.pl.length ∧ v8 = .int .i64 (i : Int) ∧ v5 = .slice a l.length cp ∧ Hid (l = SG ++ flW xl.length n c.pl i ∧ l.length ≤ 1000000 + i * 1000000) ∧ Hid (AgE.Row wo (.slice a l.length cp) l ∧ (∀ k ∈ blk a, w1.heap.size ≤ k) ∧ Kp [] w1 wo)) (fun _ v8 _ => c.pl.length - (intOf v8).toNat)
   case atStart => exact ⟨0, a, cp, l, Nat.zero_le _, rfl, rfl, hid ⟨hl'.out.1, by have := hl'.out.2; omega⟩, hk'⟩
   case round =>
    obtain ⟨i, a, cp, l, hi, rfl, rfl, hl2, hk2⟩ := hrel;clear hl' hk' a4 hl hk dj1 dj2;have a4 := (HB.out.kept hk2.out.2.2).get 4 _ rfl
    by_cases hlt : i < c.pl.length
    ·have i3 : (i : Int) < (c.pl.length : Int) := by omega
     have i4 : (i : Int) + 1 ≤ 9223372036854775807 := by omega
     have i5 : (0 : Int) ≤ (i : Int) := by omega
     have hl3 : Hid (l = SG ++ flW xl.length n c.pl i ++ rpW xl.length n c.pl i (List.range' (i + 1) (i + 1 - (i + 1))) ∧ l.length ≤ 1000000 + i * 1000000 + (i + 1 - (i + 1))) := hid ⟨by rw [Nat.sub_self, hl2.out.1]; simp [rpW], by have := hl2.out.2; omega⟩
     obtain ⟨i1', hi1⟩ : ∃ z : Nat, i + 1 = z := ⟨_, rfl⟩
     have ei : (i : Int) + 1 = (i1' : Int) := by omega
     have ei2 : IntKind.i64.wrap (i1' : Int) = (i1' : Int) := by rw [IntKind.wrap_i64]; omega
     have hi1' := hid hi1
     have hi2 : i1' ≤ c.pl.length := by omega
     rw [hi1] at hl3;clear hi1;go_wp2_with fail;go_loopw [5, 9] (fun v5 v9 wn => ∃ (k : Nat) (a : Option Addr) (cp : Nat) (l : List (Int × Int)), (i1' ≤ k ∧ k ≤ c.pl.length) ∧ v9 = .int .i64 (k : Int) ∧ v5 = .slice a l.length cp ∧ Hid (l = SG ++ flW xl.length n c.pl i ++ rpW xl.length n c.pl i (List.range' i1' (k - i1')) ∧ l.length ≤ 1000000 + i * 1000000 + (k - i1')) ∧ Hid (AgE.Row wn (.slice a l.length cp) l ∧ (∀ k ∈ blk a, w1.heap.size ≤ k) ∧ Kp [] w1 wn)) (fun _ v9 _ => c.pl.length - (intOf v9).toNat)
     case atStart => exact ⟨i1', a, cp, l, ⟨Nat.le_refl _, hi2⟩, by simp [ei], rfl, hl3, hk2⟩
     case round =>
      obtain ⟨k, a, cp, l, ⟨hk1, hkn⟩, rfl, rfl, hl4, hk3⟩ := hrel;clear hl3 hk2 hl2 a4 ei ei2;have a4 := (HB.out.kept hk3.out.2.2).get 4 _ rfl
      by_cases hkl : k < c.pl.length
      ·obtain ⟨g2, o2, hpa, y0, y1, y2, y3, y4, y5⟩ := pjAt HC.out.ps (j := i) (p := c.pl[i]) (by simp [hlt])
       obtain ⟨g2', o2', hpa', z0, z1, z2, z3, z4, z5⟩ := pjAt HC.out.ps (j := k) (p := c.pl[k]) (by simp [hkl])
       rw [hpa] at hpa'
       cases hpa'
       have hpi : Hid (pjOf c.pl i = c.pl[i]) := hid (by simp [pjOf, hlt])
       have hpk : Hid (pjOf c.pl k = c.pl[k]) := hid (by simp [pjOf, hkl])
       have hpokp := hid (HC.out.pok _ (List.getElem_mem hlt))
       have hpokq := hid (HC.out.pok _ (List.getElem_mem hkl))
       have hsn0 := rpW_to (m := xl.length) (t := (n : Int)) (pl := c.pl) (i := i) (d := k - (i + 1))
       rw [show i + 1 + (k - (i + 1)) = k by have := hi1'.out; omega, hpi.out, hpk.out, hi1'.out] at hsn0
       unfold bothW at hsn0
       rw [hpi.out, hpk.out] at hsn0;have hsn1 := hid hsn0
       have hS1 : Hid (∀ W', Kp [] w1 W' → (W'.cell? ⟨qc, 3, none⟩ = some (.slice (some ⟨g, o, none⟩) c.tl.length c.tc) ∧ (W'.cell? ⟨g, o + n * 2, none⟩ = some (.string xn) ∧ W'.cell? ⟨g, o + n * 2 + 1, none⟩ = some (.slice xa xl.length xc)))) := hid fun W' k => by
        have b3 := (HB.out.kept k).get 3 _ rfl
        rw [hta] at b3;exact ⟨b3, kpAt k hX.out.1, kpAt k hX.out.2⟩
       clear hsn0;generalize c.pl[i] = p at *
       generalize c.pl[k] = q at *
       obtain ⟨pn, pt, pa, pc, pl, psa, psc, psl, pb, ph⟩ := p;obtain ⟨un, ut, ua, uc, ul, usa, usc, usl, ub, uh⟩ := q;dsimp only at y0 y1 y2 y3 y4 y5 z0 z1 z2 z3 z4 z5;obtain ⟨q1, W1, W2, hq1, hW1, bW1, hW2, bW2, kW2⟩ := boxPj wr ⟨pn, pt, pa, pc, pl, psa, psc, psl, pb, ph⟩;obtain ⟨q2, W3, W4, hq2, hW3, bW3, hW4, bW4, kW4⟩ := boxPj W2 ⟨un, ut, ua, uc, ul, usa, usc, usl, ub, uh⟩;dsimp only at hW2 bW2 hW4 bW4;have kk := hk3.out.2.2
       have y0' := kpAt kk y0; have y1' := kpAt kk y1; have y2' := kpAt kk y2; have y3' := kpAt kk y3; have y4' := kpAt kk y4; have y5' := kpAt kk y5
       have kk2 := kk.trans kW2 (by simp)
       have z0' := kpAt kk2 z0; have z1' := kpAt kk2 z1; have z2' := kpAt kk2 z2; have z3' := kpAt kk2 z3; have z4' := kpAt kk2 z4; have z5' := kpAt kk2 z5
       have a4' := kpAt kW2 a4
       have m0 := bW1.get 0 _ rfl; have m1 := bW1.get 1 _ rfl; have m2 := bW1.get 2 _ rfl; have m3 := bW1.get 3 _ rfl; have m4 := bW1.get 4 _ rfl; have m5 := bW1.get 5 _ rfl
       have u0 := bW1.free 0; have u1 := bW1.free 1; have u2 := bW1.free 2; have u3 := bW1.free 3; have u4 := bW1.free 4; have u5 := bW1.free 5
       have n0 := bW3.get 0 _ rfl; have n1 := bW3.get 1 _ rfl; have n2 := bW3.get 2 _ rfl; have n3 := bW3.get 3 _ rfl; have n4 := bW3.get 4 _ rfl; have n5 := bW3.get 5 _ rfl
       have v0 := bW3.free 0; have v1 := bW3.free 1; have v2 := bW3.free 2; have v3 := bW3.free 3; have v4 := bW3.free 4; have v5 := bW3.free 5
       have KW4 := hid (kk2.trans kW4 (by simp))
       have hS : Hid (∀ W', Kp [] W4 W' → (fun W' => W'.cell? ⟨qc, 3, none⟩ = some (.slice (some ⟨g, o, none⟩) c.tl.length c.tc) ∧ W'.cell? ⟨g, o + n * 2, none⟩ = some (.string xn) ∧ W'.cell? ⟨g, o + n * 2 + 1, none⟩ = some (.slice xa xl.length xc) ∧ W'.cell? ⟨q1, 0, none⟩ = some (.string pn) ∧ W'.cell? ⟨q1, 1, none⟩ = some (.int .i64 pt) ∧ W'.cell? ⟨q1, 2, none⟩ = some (.slice pa pl.length pc) ∧ W'.cell? ⟨q1, 3, none⟩ = some (.slice psa psl.length psc) ∧ W'.cell? ⟨q1, 4, none⟩ = some (.int .i64 pb) ∧ W'.cell? ⟨q1, 5, none⟩ = some (.int .i64 ph) ∧ W'.cell? ⟨q2, 0, none⟩ = some (.string un) ∧ W'.cell? ⟨q2, 1, none⟩ = some (.int .i64 ut) ∧ W'.cell? ⟨q2, 2, none⟩ = some (.slice ua ul.length uc) ∧ W'.cell? ⟨q2, 3, none⟩ = some (.slice usa usl.length usc) ∧ W'.cell? ⟨q2, 4, none⟩ = some (.int .i64 ub) ∧ W'.cell? ⟨q2, 5, none⟩ = some (.int .i64 uh)) W') := hid fun W' k => by
        obtain ⟨h1, h2, h3⟩ := hS1.out W' (KW4.out.trans k (by simp))
        have c1 := (bW2.kept kW4).kept k
        have c2 := bW4.kept k
        exact ⟨h1, h2, h3, c1.get 0 _ rfl, c1.get 1 _ rfl, c1.get 2 _ rfl, c1.get 3 _ rfl, c1.get 4 _ rfl, c1.get 5 _ rfl, c2.get 0 _ rfl, c2.get 1 _ rfl, c2.get 2 _ rfl, c2.get 3 _ rfl, c2.get 4 _ rfl, c2.get 5 _ rfl⟩
       have hrow4 := hid (hk3.out.1.keptNew (kW2.trans kW4 (by simp)))
       have hAll : Hid (∀ (u v : Pj) W', u.ok w1 → v.ok w1 → Kp [] W4 W' → Calls Tryz.prog 42 #[.agg #[.string xn, .slice xa xl.length xc], u.v, v.v] W' fun e w' => e = .returned (.bool (alR xl.length u.cl v.cl)) ∧ Kp [] W' w') := hid fun u v W' hu hv k => rAllC ⟨xn, xa, xc, xl⟩ u v W' (by dsimp only; omega) (hu.kept (KW4.out.trans k (by simp))) (hv.kept (KW4.out.trans k (by simp)))
       obtain ⟨P1, hP1⟩ : ∃ V, Hid (alR xl.length pl pl = V) := ⟨_, hid rfl⟩
       obtain ⟨Q1, hQ1⟩ : ∃ V, Hid (alR xl.length ul ul = V) := ⟨_, hid rfl⟩
       obtain ⟨B1, hB1⟩ : ∃ V, Hid (alR xl.length pl ul = V) := ⟨_, hid rfl⟩
       have cP := hid (fun W' (k : Kp [] W4 W') => hAll.out ⟨pn, pt, pa, pc, pl, psa, psc, psl, pb, ph⟩ ⟨pn, pt, pa, pc, pl, psa, psc, psl, pb, ph⟩ W' hpokp.out hpokp.out k)
       have cQ := hid (fun W' (k : Kp [] W4 W') => hAll.out ⟨un, ut, ua, uc, ul, usa, usc, usl, ub, uh⟩ ⟨un, ut, ua, uc, ul, usa, usc, usl, ub, uh⟩ W' hpokq.out hpokq.out k)
       have cB := hid (fun W' (k : Kp [] W4 W') => hAll.out ⟨pn, pt, pa, pc, pl, psa, psc, psl, pb, ph⟩ ⟨un, ut, ua, uc, ul, usa, usc, usl, ub, uh⟩ W' hpokp.out hpokq.out k)
       simp only [Pj.v, hP1.out] at cP;simp only [Pj.v, hQ1.out] at cQ;simp only [Pj.v, hB1.out] at cB;have i6 : (0 : Int) ≤ (k : Int) := by omega
       have i7 : (k : Int) < (c.pl.length : Int) := by omega
       have i8 : (k : Int) + 1 ≤ 9223372036854775807 := by omega
       rw [hpa] at a4 a4';simp only [hpa] at hw1 ⊢;clear y0 y1 y2 y3 y4 y5 z0 z1 z2 z3 z4 z5 bW1 bW2 bW3 bW4 kW2 kW4 kk kk2;go_upto_region 18 with fail
       go_cut [12] from 89 to 97 (fun v wx => v = .bool P1 ∧ Hid (Kp [] W4 wx))
       case first =>
        refine wp_noPanicY ?_;refine wp_region_held_drew (S := fun W' => W'.cell? ⟨qc, 3, none⟩ = some (.slice (some ⟨g, o, none⟩) c.tl.length c.tc) ∧ W'.cell? ⟨g, o + n * 2, none⟩ = some (.string xn) ∧ W'.cell? ⟨g, o + n * 2 + 1, none⟩ = some (.slice xa xl.length xc) ∧ W'.cell? ⟨q1, 0, none⟩ = some (.string pn) ∧ W'.cell? ⟨q1, 1, none⟩ = some (.int .i64 pt) ∧ W'.cell? ⟨q1, 2, none⟩ = some (.slice pa pl.length pc) ∧ W'.cell? ⟨q1, 3, none⟩ = some (.slice psa psl.length psc) ∧ W'.cell? ⟨q1, 4, none⟩ = some (.int .i64 pb) ∧ W'.cell? ⟨q1, 5, none⟩ = some (.int .i64 ph) ∧ W'.cell? ⟨q2, 0, none⟩ = some (.string un) ∧ W'.cell? ⟨q2, 1, none⟩ = some (.int .i64 ut) ∧ W'.cell? ⟨q2, 2, none⟩ = some (.slice ua ul.length uc) ∧ W'.cell? ⟨q2, 3, none⟩ = some (.slice usa usl.length usc) ∧ W'.cell? ⟨q2, 4, none⟩ = some (.int .i64 ub) ∧ W'.cell? ⟨q2, 5, none⟩ = some (.int .i64 uh)) (by kernel_rfl) (hS.out _ (Kp.refl _ _).drew) (fun hHeld => ?_)
        have KD : Hid (Kp [] W4 W4.drew) := hid (Kp.refl _ _).drew
        generalize W4.drew = wd at *
        refine tkH ?_ 0 rfl (by kernel_rfl) (fun _ _ _ h => by cases h.1) (by rfl) ?_ ‹_› ?_;rotate_left
        ·intro w h; (try dsimp only at h); go_simp <;> with_reducible rfl
        (try simp only [Act.put, lz]);refine tkH ?_ 1 rfl (by kernel_rfl) (fun _ _ _ h => by cases h.1) (by rfl) ?_ ‹_› ?_;rotate_left
        ·intro w h; (try dsimp only at h); go_simp <;> with_reducible rfl
        (try simp only [Act.put, lz]);refine tkH ?_ 2 rfl (by kernel_rfl) (fun _ _ _ h => by cases h.1) (by rfl) ?_ ‹_› ?_;rotate_left
        ·intro w h; (try dsimp only at h); go_simp <;> with_reducible rfl
        (try simp only [Act.put, lz]);refine tkH ?_ 3 rfl (by kernel_rfl) (fun _ _ _ h => by cases h.1) (by rfl) ?_ ‹_› ?_;rotate_left
        ·intro w h; (try dsimp only at h); go_simp <;> with_reducible rfl
        (try simp only [Act.put, lz]);refine tkH ?_ 4 rfl (by kernel_rfl) (fun _ _ _ h => by cases h.1) (by rfl) ?_ ‹_› ?_;rotate_left
        ·intro w h; (try dsimp only at h); go_simp <;> with_reducible rfl
        (try simp only [Act.put, lz]);refine tkH ?_ 5 rfl (by kernel_rfl) (fun _ _ _ h => by cases h.1) (by rfl) ?_ ‹_› ?_;rotate_left
        ·intro w h; (try dsimp only at h); go_simp <;> with_reducible rfl
        (try simp only [Act.put, lz]);refine tkH ?_ 6 rfl (by kernel_rfl) (fun _ _ _ h => by cases h.1) (by rfl) ?_ ‹_› ?_;rotate_left
        ·intro w h; (try dsimp only at h); go_simp <;> with_reducible rfl
        (try simp only [Act.put, lz]);refine rdH 7 (by kernel_rfl) rfl fun K hK => ?_
        go_simp;refine (cP.out wd KD.out).mono ?_;rintro e wz ⟨rfl, kz⟩;have KZ := hid (KD.out.trans kz (by simp))
        clear kz;(try go_wp2_with fail);refine hK.out _ _ (hS.out wz KZ.out) (fun hHeld => ?_)
        clear hK K;(try simp only [Act.put, lz]);refine tkH ?_ 8 rfl (by kernel_rfl) (fun _ _ _ h => by cases h.1) (by rfl) ?_ ‹_› ?_;rotate_left
        ·intro w h; (try dsimp only at h); go_simp <;> with_reducible rfl
        (try simp only [Act.put, lz]);refine wpAnyH_done (by kernel_rfl) ⟨rfl, ?_⟩ _
        clear hHeld;go_wp2_with fail;go_meet
        case rel => exact ⟨rfl, KZ⟩
       case rest =>
        obtain ⟨rfl, kc⟩ := hcut;obtain ⟨w5, hw5⟩ : ∃ x, x = wc := ⟨wc, rfl⟩
        subst hw5;have hS5 : Hid (∀ W', Kp [] w5 W' → (fun W' => W'.cell? ⟨qc, 3, none⟩ = some (.slice (some ⟨g, o, none⟩) c.tl.length c.tc) ∧ W'.cell? ⟨g, o + n * 2, none⟩ = some (.string xn) ∧ W'.cell? ⟨g, o + n * 2 + 1, none⟩ = some (.slice xa xl.length xc) ∧ W'.cell? ⟨q1, 0, none⟩ = some (.string pn) ∧ W'.cell? ⟨q1, 1, none⟩ = some (.int .i64 pt) ∧ W'.cell? ⟨q1, 2, none⟩ = some (.slice pa pl.length pc) ∧ W'.cell? ⟨q1, 3, none⟩ = some (.slice psa psl.length psc) ∧ W'.cell? ⟨q1, 4, none⟩ = some (.int .i64 pb) ∧ W'.cell? ⟨q1, 5, none⟩ = some (.int .i64 ph) ∧ W'.cell? ⟨q2, 0, none⟩ = some (.string un) ∧ W'.cell? ⟨q2, 1, none⟩ = some (.int .i64 ut) ∧ W'.cell? ⟨q2, 2, none⟩ = some (.slice ua ul.length uc) ∧ W'.cell? ⟨q2, 3, none⟩ = some (.slice usa usl.length usc) ∧ W'.cell? ⟨q2, 4, none⟩ = some (.int .i64 ub) ∧ W'.cell? ⟨q2, 5, none⟩ = some (.int .i64 uh)) W') := hid fun W' k => hS.out W' (kc.out.trans k (by simp))
        have cQ5 := hid (fun W' (k : Kp [] w5 W') => cQ.out W' (kc.out.trans k (by simp)))
        have cB5 := hid (fun W' (k : Kp [] w5 W') => cB.out W' (kc.out.trans k (by simp)))
        have K5 := hid (KW4.out.trans kc.out (by simp))
        have hrow5 := hid (hrow4.out.keptNew kc.out)
        clear hS cQ cB cP kc;go_upto_region 19 with fail
        go_cut [13] from 97 to 105 (fun v wx => v = .bool Q1 ∧ Hid (Kp [] w5 wx))
        case first =>
         refine wp_noPanicY ?_;refine wp_region_held_drew (S := fun W' => W'.cell? ⟨qc, 3, none⟩ = some (.slice (some ⟨g, o, none⟩) c.tl.length c.tc) ∧ W'.cell? ⟨g, o + n * 2, none⟩ = some (.string xn) ∧ W'.cell? ⟨g, o + n * 2 + 1, none⟩ = some (.slice xa xl.length xc) ∧ W'.cell? ⟨q1, 0, none⟩ = some (.string pn) ∧ W'.cell? ⟨q1, 1, none⟩ = some (.int .i64 pt) ∧ W'.cell? ⟨q1, 2, none⟩ = some (.slice pa pl.length pc) ∧ W'.cell? ⟨q1, 3, none⟩ = some (.slice psa psl.length psc) ∧ W'.cell? ⟨q1, 4, none⟩ = some (.int .i64 pb) ∧ W'.cell? ⟨q1, 5, none⟩ = some (.int .i64 ph) ∧ W'.cell? ⟨q2, 0, none⟩ = some (.string un) ∧ W'.cell? ⟨q2, 1, none⟩ = some (.int .i64 ut) ∧ W'.cell? ⟨q2, 2, none⟩ = some (.slice ua ul.length uc) ∧ W'.cell? ⟨q2, 3, none⟩ = some (.slice usa usl.length usc) ∧ W'.cell? ⟨q2, 4, none⟩ = some (.int .i64 ub) ∧ W'.cell? ⟨q2, 5, none⟩ = some (.int .i64 uh)) (by kernel_rfl) (hS5.out _ (Kp.refl _ _).drew) (fun hHeld => ?_)
         have KD : Hid (Kp [] w5 w5.drew) := hid (Kp.refl _ _).drew
         generalize w5.drew = wd at *
         refine tkH ?_ 0 rfl (by kernel_rfl) (fun _ _ _ h => by cases h.1) (by rfl) ?_ ‹_› ?_;rotate_left
         ·intro w h; (try dsimp only at h); go_simp <;> with_reducible rfl
         (try simp only [Act.put, lz]);refine tkH ?_ 1 rfl (by kernel_rfl) (fun _ _ _ h => by cases h.1) (by rfl) ?_ ‹_› ?_;rotate_left
         ·intro w h; (try dsimp only at h); go_simp <;> with_reducible rfl
         (try simp only [Act.put, lz]);refine tkH ?_ 2 rfl (by kernel_rfl) (fun _ _ _ h => by cases h.1) (by rfl) ?_ ‹_› ?_;rotate_left
         ·intro w h; (try dsimp only at h); go_simp <;> with_reducible rfl
         (try simp only [Act.put, lz]);refine tkH ?_ 3 rfl (by kernel_rfl) (fun _ _ _ h => by cases h.1) (by rfl) ?_ ‹_› ?_;rotate_left
         ·intro w h; (try dsimp only at h); go_simp <;> with_reducible rfl
         (try simp only [Act.put, lz]);refine tkH ?_ 4 rfl (by kernel_rfl) (fun _ _ _ h => by cases h.1) (by rfl) ?_ ‹_› ?_;rotate_left
         ·intro w h; (try dsimp only at h); go_simp <;> with_reducible rfl
         (try simp only [Act.put, lz]);refine tkH ?_ 5 rfl (by kernel_rfl) (fun _ _ _ h => by cases h.1) (by rfl) ?_ ‹_› ?_;rotate_left
         ·intro w h; (try dsimp only at h); go_simp <;> with_reducible rfl
         (try simp only [Act.put, lz]);refine tkH ?_ 6 rfl (by kernel_rfl) (fun _ _ _ h => by cases h.1) (by rfl) ?_ ‹_› ?_;rotate_left
         ·intro w h; (try dsimp only at h); go_simp <;> with_reducible rfl
         (try simp only [Act.put, lz]);refine rdH 7 (by kernel_rfl) rfl fun K hK => ?_
         go_simp;refine (cQ5.out wd KD.out).mono ?_;rintro e wz ⟨rfl, kz⟩;have KZ := hid (KD.out.trans kz (by simp))
         clear kz;(try go_wp2_with fail);refine hK.out _ _ (hS5.out wz KZ.out) (fun hHeld => ?_)
         clear hK K;(try simp only [Act.put, lz]);refine tkH ?_ 8 rfl (by kernel_rfl) (fun _ _ _ h => by cases h.1) (by rfl) ?_ ‹_› ?_;rotate_left
         ·intro w h; (try dsimp only at h); go_simp <;> with_reducible rfl
         (try simp only [Act.put, lz]);refine wpAnyH_done (by kernel_rfl) ⟨rfl, ?_⟩ _
         clear hHeld;go_wp2_with fail;go_meet
         case rel => exact ⟨rfl, KZ⟩
        case rest =>
         obtain ⟨rfl, kc⟩ := hcut;obtain ⟨w6, hw6⟩ : ∃ x, x = wc := ⟨wc, rfl⟩
         subst hw6;have hS6 : Hid (∀ W', Kp [] w6 W' → (fun W' => W'.cell? ⟨qc, 3, none⟩ = some (.slice (some ⟨g, o, none⟩) c.tl.length c.tc) ∧ W'.cell? ⟨g, o + n * 2, none⟩ = some (.string xn) ∧ W'.cell? ⟨g, o + n * 2 + 1, none⟩ = some (.slice xa xl.length xc) ∧ W'.cell? ⟨q1, 0, none⟩ = some (.string pn) ∧ W'.cell? ⟨q1, 1, none⟩ = some (.int .i64 pt) ∧ W'.cell? ⟨q1, 2, none⟩ = some (.slice pa pl.length pc) ∧ W'.cell? ⟨q1, 3, none⟩ = some (.slice psa psl.length psc) ∧ W'.cell? ⟨q1, 4, none⟩ = some (.int .i64 pb) ∧ W'.cell? ⟨q1, 5, none⟩ = some (.int .i64 ph) ∧ W'.cell? ⟨q2, 0, none⟩ = some (.string un) ∧ W'.cell? ⟨q2, 1, none⟩ = some (.int .i64 ut) ∧ W'.cell? ⟨q2, 2, none⟩ = some (.slice ua ul.length uc) ∧ W'.cell? ⟨q2, 3, none⟩ = some (.slice usa usl.length usc) ∧ W'.cell? ⟨q2, 4, none⟩ = some (.int .i64 ub) ∧ W'.cell? ⟨q2, 5, none⟩ = some (.int .i64 uh)) W') := hid fun W' k => hS5.out W' (kc.out.trans k (by simp))
         have cB6 := hid (fun W' (k : Kp [] w6 W') => cB5.out W' (kc.out.trans k (by simp)))
         have K6 := hid (K5.out.trans kc.out (by simp))
         have hrow6 := hid (hrow5.out.keptNew kc.out)
         clear hS5 cQ5 cB5 kc;go_upto_region 20 with fail
         go_cut [14] from 105 to 113 (fun v wx => v = .bool B1 ∧ Hid (Kp [] w6 wx))
         case first =>
          refine wp_noPanicY ?_;refine wp_region_held_drew (S := fun W' => W'.cell? ⟨qc, 3, none⟩ = some (.slice (some ⟨g, o, none⟩) c.tl.length c.tc) ∧ W'.cell? ⟨g, o + n * 2, none⟩ = some (.string xn) ∧ W'.cell? ⟨g, o + n * 2 + 1, none⟩ = some (.slice xa xl.length xc) ∧ W'.cell? ⟨q1, 0, none⟩ = some (.string pn) ∧ W'.cell? ⟨q1, 1, none⟩ = some (.int .i64 pt) ∧ W'.cell? ⟨q1, 2, none⟩ = some (.slice pa pl.length pc) ∧ W'.cell? ⟨q1, 3, none⟩ = some (.slice psa psl.length psc) ∧ W'.cell? ⟨q1, 4, none⟩ = some (.int .i64 pb) ∧ W'.cell? ⟨q1, 5, none⟩ = some (.int .i64 ph) ∧ W'.cell? ⟨q2, 0, none⟩ = some (.string un) ∧ W'.cell? ⟨q2, 1, none⟩ = some (.int .i64 ut) ∧ W'.cell? ⟨q2, 2, none⟩ = some (.slice ua ul.length uc) ∧ W'.cell? ⟨q2, 3, none⟩ = some (.slice usa usl.length usc) ∧ W'.cell? ⟨q2, 4, none⟩ = some (.int .i64 ub) ∧ W'.cell? ⟨q2, 5, none⟩ = some (.int .i64 uh)) (by kernel_rfl) (hS6.out _ (Kp.refl _ _).drew) (fun hHeld => ?_)
          have KD : Hid (Kp [] w6 w6.drew) := hid (Kp.refl _ _).drew
          generalize w6.drew = wd at *
          refine tkH ?_ 0 rfl (by kernel_rfl) (fun _ _ _ h => by cases h.1) (by rfl) ?_ ‹_› ?_;rotate_left
          ·intro w h; (try dsimp only at h); go_simp <;> with_reducible rfl
          (try simp only [Act.put, lz]);refine tkH ?_ 1 rfl (by kernel_rfl) (fun _ _ _ h => by cases h.1) (by rfl) ?_ ‹_› ?_;rotate_left
          ·intro w h; (try dsimp only at h); go_simp <;> with_reducible rfl
          (try simp only [Act.put, lz]);refine tkH ?_ 2 rfl (by kernel_rfl) (fun _ _ _ h => by cases h.1) (by rfl) ?_ ‹_› ?_;rotate_left
          ·intro w h; (try dsimp only at h); go_simp <;> with_reducible rfl
          (try simp only [Act.put, lz]);refine tkH ?_ 3 rfl (by kernel_rfl) (fun _ _ _ h => by cases h.1) (by rfl) ?_ ‹_› ?_;rotate_left
          ·intro w h; (try dsimp only at h); go_simp <;> with_reducible rfl
          (try simp only [Act.put, lz]);refine tkH ?_ 4 rfl (by kernel_rfl) (fun _ _ _ h => by cases h.1) (by rfl) ?_ ‹_› ?_;rotate_left
          ·intro w h; (try dsimp only at h); go_simp <;> with_reducible rfl
          (try simp only [Act.put, lz]);refine tkH ?_ 5 rfl (by kernel_rfl) (fun _ _ _ h => by cases h.1) (by rfl) ?_ ‹_› ?_;rotate_left
          ·intro w h; (try dsimp only at h); go_simp <;> with_reducible rfl
          (try simp only [Act.put, lz]);refine tkH ?_ 6 rfl (by kernel_rfl) (fun _ _ _ h => by cases h.1) (by rfl) ?_ ‹_› ?_;rotate_left
          ·intro w h; (try dsimp only at h); go_simp <;> with_reducible rfl
          (try simp only [Act.put, lz]);refine rdH 7 (by kernel_rfl) rfl fun K hK => ?_
          go_simp;refine (cB6.out wd KD.out).mono ?_;rintro e wz ⟨rfl, kz⟩;have KZ := hid (KD.out.trans kz (by simp))
          clear kz;(try go_wp2_with fail);refine hK.out _ _ (hS6.out wz KZ.out) (fun hHeld => ?_)
          clear hK K;(try simp only [Act.put, lz]);refine tkH ?_ 8 rfl (by kernel_rfl) (fun _ _ _ h => by cases h.1) (by rfl) ?_ ‹_› ?_;rotate_left
          ·intro w h; (try dsimp only at h); go_simp <;> with_reducible rfl
          (try simp only [Act.put, lz]);refine wpAnyH_done (by kernel_rfl) ⟨rfl, ?_⟩ _
          clear hHeld;go_wp2_with fail;go_meet
          case rel => exact ⟨rfl, KZ⟩
         case rest =>
          obtain ⟨rfl, kc⟩ := hcut;obtain ⟨w7, hw7⟩ : ∃ x, x = wc := ⟨wc, rfl⟩
          subst hw7;obtain ⟨f1, f2, f3, f4, f5, f6, f7, f8, f9, g1, g2', g3, g4, g5, g6⟩ := hS6.out w7 kc.out;have K7 := hid (K6.out.trans kc.out (by simp))
          have hrow7 := hid (hrow6.out.keptNew kc.out)
          have hlen : l.length ≤ 4000000000000 := by have := hl4.out.2; omega
          have hlr := hid (And.intro hrow7.out (And.intro hk3.out.2.1 K7.out))
          have hsn2 : Hid (rpW xl.length n c.pl i (List.range' i1' (k + 1 - i1')) = rpW xl.length n c.pl i (List.range' i1' (k - i1')) ++ (if ((decide (pt = (n : Int)) && !P1) && (decide (ut = (n : Int)) && !Q1) && B1) = true then [((i : Int), (k : Int))] else [])) := hid (by
           have e : k + 1 - i1' = k - i1' + 1 := by omega
           rw [e, hsn1.out, isP_alR, isP_alR, ← alR_hv];dsimp only;rw [hP1.out, hQ1.out, hB1.out])
          clear kc hS6 cB6 hsn1
          by_cases hp : pt = (n : Int)
          ·have t3 : (pt == (n : Int)) = true := by simpa using hp
           by_cases hq : ut = (n : Int)
           ·have t4 : (ut == (n : Int)) = true := by simpa using hq
            cases P1 with
            | true =>
             have hsd : Hid (l = SG ++ flW xl.length n c.pl i ++ rpW xl.length n c.pl i (List.range' i1' (k + 1 - i1')) ∧ l.length ≤ 1000000 + i * 1000000 + (k + 1 - i1')) := hid ⟨by rw [hsn2.out, ← List.append_assoc, ← hl4.out.1]; simp, by have := hl4.out.2; omega⟩
             have hfd := hid hlr.out
             clear hlr hk3 hsn2 hl4;go_wp2_with fail;go_roundw
             case rel => exact ⟨k + 1, a, cp, l, ⟨by omega, by omega⟩, by go_num, rfl, hsd, hfd⟩
             case measure => simp [intOf]; omega
            | false =>
             cases Q1 with
             | true =>
              have hsd : Hid (l = SG ++ flW xl.length n c.pl i ++ rpW xl.length n c.pl i (List.range' i1' (k + 1 - i1')) ∧ l.length ≤ 1000000 + i * 1000000 + (k + 1 - i1')) := hid ⟨by rw [hsn2.out, ← List.append_assoc, ← hl4.out.1]; simp, by have := hl4.out.2; omega⟩
              have hfd := hid hlr.out
              clear hlr hk3 hsn2 hl4;go_wp2_with fail;go_roundw
              case rel => exact ⟨k + 1, a, cp, l, ⟨by omega, by omega⟩, by go_num, rfl, hsd, hfd⟩
              case measure => simp [intOf]; omega
             | false =>
              cases B1 with
              | false =>
               have hsd : Hid (l = SG ++ flW xl.length n c.pl i ++ rpW xl.length n c.pl i (List.range' i1' (k + 1 - i1')) ∧ l.length ≤ 1000000 + i * 1000000 + (k + 1 - i1')) := hid ⟨by rw [hsn2.out, ← List.append_assoc, ← hl4.out.1]; simp, by have := hl4.out.2; omega⟩
               have hfd := hid hlr.out
               clear hlr hk3 hsn2 hl4;go_wp2_with fail;go_roundw
               case rel => exact ⟨k + 1, a, cp, l, ⟨by omega, by omega⟩, by go_num, rfl, hsd, hfd⟩
               case measure => simp [intOf]; omega
              | true =>
               have hsx : Hid (l ++ [((i : Int), (k : Int))] = SG ++ flW xl.length n c.pl i ++ rpW xl.length n c.pl i (List.range' i1' (k + 1 - i1')) ∧ (l ++ [((i : Int), (k : Int))]).length ≤ 1000000 + i * 1000000 + (k + 1 - i1')) := hid ⟨by rw [hsn2.out, ← List.append_assoc, ← hl4.out.1]; simp [hp, hq], by rw [List.length_append]; have := hl4.out.2; simp; omega⟩
               obtain ⟨a', cp', W', hrun, hrw, hnb, kA⟩ := appPl w7 a cp l (i : Int) (k : Int) hrow7.out hlen;obtain ⟨l5, hl5⟩ : ∃ z, Hid (l ++ [((i : Int), (k : Int))] = z) := ⟨_, hid rfl⟩
               rw [hl5.out] at hrun hrw hsx
               have hfin : Hid (AgE.Row W' (.slice a' l5.length cp') l5 ∧ (∀ k ∈ blk a', w1.heap.size ≤ k) ∧ Kp [] w1 W') := hid ⟨hrw, fun k hk' => by
                rcases hnb k hk' with e | e
                ·exact hk3.out.2.1 k e
                ·have := K7.out.size; omega, K7.out.trans kA (fun x hx => .inr (hk3.out.2.1 x hx))⟩
               have hrun' := hid hrun
               clear hrun hrw hnb kA hlr hk3 hsn2 hl4;go_wp2_with (first | (refine wpAppRunY rfl _ _ 45 45 rfl _ _ _ rfl rfl hrun'.out ?_) | fail)
               go_roundw
               case rel => exact ⟨k + 1, a', cp', l5, ⟨by omega, by omega⟩, by go_num, rfl, hsx, hfin⟩
               case measure => simp [intOf]; omega
           ·have t4 : (ut == (n : Int)) = false := by simpa using hq
            have hsd : Hid (l = SG ++ flW xl.length n c.pl i ++ rpW xl.length n c.pl i (List.range' i1' (k + 1 - i1')) ∧ l.length ≤ 1000000 + i * 1000000 + (k + 1 - i1')) := hid ⟨by rw [hsn2.out, ← List.append_assoc, ← hl4.out.1]; simp [hq], by have := hl4.out.2; omega⟩
            have hfd := hid hlr.out
            clear hlr hk3 hsn2 hl4;go_wp2_with fail;go_roundw
            case rel => exact ⟨k + 1, a, cp, l, ⟨by omega, by omega⟩, by go_num, rfl, hsd, hfd⟩
            case measure => simp [intOf]; omega
          ·have t3 : (pt == (n : Int)) = false := by simpa using hp
           have hsd : Hid (l = SG ++ flW xl.length n c.pl i ++ rpW xl.length n c.pl i (List.range' i1' (k + 1 - i1')) ∧ l.length ≤ 1000000 + i * 1000000 + (k + 1 - i1')) := hid ⟨by rw [hsn2.out, ← List.append_assoc, ← hl4.out.1]; simp [hp], by have := hl4.out.2; omega⟩
           have hfd := hid hlr.out
           clear hlr hk3 hsn2 hl4;go_wp2_with fail;go_roundw
           case rel => exact ⟨k + 1, a, cp, l, ⟨by omega, by omega⟩, by go_num, rfl, hsd, hfd⟩
           case measure => simp [intOf]; omega
      ·have hke : k = c.pl.length := by omega
       have dk1 : ¬ (k : Int) < (c.pl.length : Int) := by omega
       have dk2 : decide ((k : Int) < (c.pl.length : Int)) = false := by simp; omega
       have hsf : Hid (l = SG ++ flW xl.length n c.pl (i + 1) ∧ l.length ≤ 1000000 + (i + 1) * 1000000) := hid ⟨by rw [hl4.out.1, flW_to, hi1'.out, hke, List.append_assoc], by have := hl4.out.2; omega⟩
       have hfk := hid hk3.out
       clear hl4 hk3 hke;go_wp2_with fail;go_roundw
       case rel => exact ⟨i + 1, a, cp, l, by omega, by go_num, rfl, hsf, hfk⟩
       case measure => simp [intOf]; omega
    ·have hie : i = c.pl.length := by omega
     have hRe : Hid (l = R) := hid (by rw [hR2.out, hl2.out.1, hie])
     have dj1 : ¬ (i : Int) < (c.pl.length : Int) := by omega
     have dj2 : decide ((i : Int) < (c.pl.length : Int)) = false := by simp; omega
     have hk4 := hid hk2.out
     clear hie;go_wp2_with fail;go_ret;rw [← hRe.out];exact ⟨a, cp, rfl, hk4.out.1, K1.out.trans hk4.out.2.2 (by simp)⟩
theorem chV_none (pick : Int) : chV [] pick = ((0, 0), 161) := rfl
theorem rChoose (c : Cg) (t pick : Int) (w : World) (hc : c.ok w) (h8 : ∀ x ∈ c.tl, x.l.length ≤ 1000000) (hpl : c.pl.length ≤ 1000000) (hR8 : (waysV c t).length ≤ 4000000000000) :
  Calls Tryz.prog 13 #[c.v, .int .i64 t, .int .i64 pick] w fun e w' => e = .returned (.tuple #[plV (chV (waysV c t) pick).1, .int .i64 (chV (waysV c t) pick).2]) ∧ Kp [] w w' := by
 obtain ⟨w1, hw1, k1, z1, b1⟩ := boxC c w;obtain ⟨q3, hq3⟩ : ∃ x, w.heap.size = x := ⟨_, rfl⟩
 rw [hq3] at b1 z1;obtain ⟨w2, hw2, k2, b2⟩ : ∃ x, w1.alloc (.cells #[.int .i64 0, .int .i64 0] 41) = x ∧ Kp [] w1 x ∧ Bn x w1.heap.size [.int .i64 0, .int .i64 0] := ⟨_, rfl, (Kp.refl _ _).alloc _, Bn.new w1 _ _⟩
 obtain ⟨q6, hq6⟩ : ∃ x, w1.heap.size = x := ⟨_, rfl⟩
 rw [hq6] at b2;have HQ : Hid (w.heap.size < q6) := hid (by omega)
 have b12 := b1.kept k2
 have cc0 := b12.get 0 _ rfl; have cc1 := b12.get 1 _ rfl; have cc2 := b12.get 2 _ rfl; have cc3 := b12.get 3 _ rfl; have cc4 := b12.get 4 _ rfl
 have kk := k1.trans k2 (by simp)
 have K2 := hid kk
 have cW := hid (rWays c t w2 (hc.kept kk) h8 hpl)
 obtain ⟨R, hR⟩ : ∃ R, Hid (waysV c t = R) := ⟨_, hid rfl⟩
 rw [hR.out] at hR8 cW ⊢;have B2 := hid b2
 simp only [Cg.v] at cW ⊢;clear z1 b1 k1 k2 b2 b12 kk hc h8 hpl;go_enter Tryz.func13, Tryz.ntmps13
 go_wp2_with fail;refine cW.out.mono ?_;rintro e w3 ⟨a, cp, rfl, hrow, k3⟩;have K3 := hid k3
 have HRow := hid hrow
 have b3 := B2.out.kept k3
 have a0 := b3.get 0 _ rfl
 have a1 := b3.get 1 _ rfl
 have p0 := b3.free 0
 have p1 := b3.free 1
 have B3 := hid b3
 clear cW k3 hrow b3 cc0 cc1 cc2 cc3 cc4
 by_cases hm : 0 < R.length
 ·have d2 : (0 : Int) < (R.length : Int) := by omega
  have d1 : ((R.length : Int) == 0) = false := by simp; intro e; rw [e] at hm; simp at hm
  obtain ⟨h0, h1⟩ := chI_ok hm pick;obtain ⟨A, hA⟩ := Int.eq_ofNat_of_zero_le h0;have hAR : A < R.length := by omega
  have hg1 := Int.tmod_lt_of_pos pick d2
  have hg2 := Int.lt_tmod_of_pos pick d2
  have hRef := tmod_ref R.length hm pick
  have hV : Hid (chV R pick = (R[A], 0)) := hid (by
   unfold chV
   rw [hA];simp [hAR])
  unfold chI at hA
  rw [hA] at hRef;obtain ⟨a2, c2, hv2, hs2, _⟩ := HRow.out.see
  cases hv2
  obtain ⟨g, o, rfl, x0, x1⟩ := agAt hs2 A hAR;obtain ⟨X, hX⟩ : ∃ X, Hid (R[A] = X) := ⟨_, hid rfl⟩
  rw [hX.out] at x0 x1 hV;obtain ⟨xa, xb⟩ := X;dsimp only at x0 x1;obtain ⟨Y, hY⟩ : ∃ x, (w3.setCell ⟨q6, 0, none⟩ (.int .i64 xa)).setCell ⟨q6, 1, none⟩ (.int .i64 xb) = x := ⟨_, rfl⟩
  have bY := (B3.out.set 0 (by simp) (.int .i64 xa)).set 1 (by simp) (.int .i64 xb)
  rw [hY] at bY;have kY : Kp [q6] w3 Y := by rw [← hY]; exact ((Kp.refl _ _).setCell (by simp) _).setCell (by simp) _
  have y0 := bY.get 0 _ rfl
  have y1 := bY.get 1 _ rfl
  have KY := hid kY
  obtain ⟨r1, e1⟩ : ∃ r, Int.tmod pick (R.length : Int) = r := ⟨_, rfl⟩
  rw [e1] at hg1 hg2 hRef;have i1 : (0 : Int) ≤ (A : Int) := by omega
  have i2 : (A : Int) < (R.length : Int) := by omega
  clear bY kY h0 h1 hA hm
  by_cases hr : r1 < 0
  ·rw [if_pos hr] at hRef
   have d3 : decide (r1 < 0) = true := by simpa using hr
   have e2 : wrap64 (r1 + (R.length : Int)) = (A : Int) := by rw [hRef]; unfold wrap64; omega
   clear hr hg1 hg2;go_wp2_with fail;exact bodyPost_ret (v := .tuple #[plV (xa, xb), .int .i64 0]) (by simp [results, Tryz.results13, go_sem, y0, y1, plV]) rfl ⟨by rw [hV.out], (K2.out.trans K3.out (by simp)).trans KY.out (fun x hx => .inr (by have := HQ.out; simp at hx; omega))⟩
  ·rw [if_neg hr] at hRef
   subst hRef;have d3 : decide ((A : Int) < 0) = false := by simp
   clear hr hg1 hg2;go_wp2_with fail;exact bodyPost_ret (v := .tuple #[plV (xa, xb), .int .i64 0]) (by simp [results, Tryz.results13, go_sem, y0, y1, plV]) rfl ⟨by rw [hV.out], (K2.out.trans K3.out (by simp)).trans KY.out (fun x hx => .inr (by have := HQ.out; simp at hx; omega))⟩
 ·have hR0 : R = [] := List.length_eq_zero_iff.1 (by omega)
  subst hR0;obtain ⟨Y, hY⟩ : ∃ x, (w3.setCell ⟨q6, 0, none⟩ (.int .i64 0)).setCell ⟨q6, 1, none⟩ (.int .i64 0) = x := ⟨_, rfl⟩
  have bY := (B3.out.set 0 (by simp) (.int .i64 0)).set 1 (by simp) (.int .i64 0)
  rw [hY] at bY;have kY : Kp [q6] w3 Y := by rw [← hY]; exact ((Kp.refl _ _).setCell (by simp) _).setCell (by simp) _
  have y0 := bY.get 0 _ rfl
  have y1 := bY.get 1 _ rfl
  have KY := hid kY
  clear bY kY hm;go_wp2_with fail;exact bodyPost_ret (v := .tuple #[plV (0, 0), .int .i64 161]) (by simp [results, Tryz.results13, go_sem, y0, y1, plV]) rfl ⟨by rw [chV_none], (K2.out.trans K3.out (by simp)).trans KY.out (fun x hx => .inr (by have := HQ.out; simp at hx; omega))⟩
end Go.Proofs.YtlgfekjoknbfdaaGreatDoor
end

section
namespace Go.Proofs.YtlgfekjoknbfdaaGreatDoor
open Go.RowKit Go.Hay
theorem rCovered (c : Cg) (t : Nat) (w : World) (hc : c.ok w) (htl : t < c.tl.length) (hm8 : c.tl[t].l.length ≤ 8) (hcl : ∀ p ∈ c.pl, p.tb = (t : Int) → ∀ y ∈ p.cl, 0 ≤ y ∧ y < (c.tl[t].l.length : Int)) : Calls Tryz.prog 32 #[c.v, .int .i64 (t : Int)] w fun e w' => e = .returned (.bool (cvTo c.pl t (allB c.tl[t]) c.pl.length)) ∧ Kp [] w w' := by
 obtain ⟨W, eW, kW, zW, bC⟩ := boxC c w;rw [← rv_eq];obtain ⟨r, hr⟩ : ∃ r, Hid (rvTo c.pl t (allB c.tl[t]) c.pl.length = r) := ⟨_, hid rfl⟩
 rw [hr.out];have HC := hid hc
 have hpm : c.pl.length ≤ 9223372036854775807 := by have := hc.pcap; have := hc.pmax; omega
 obtain ⟨gt, ot, egt, _, _⟩ := tbAt hc.ts (j := t) (t := c.tl[t]) (by simp [htl])
 have htt : Hid (∀ w', Kp [] w w' → w'.cell? ⟨gt, ot + t * 2, none⟩ = some (.string c.tl[t].nm) ∧ w'.cell? ⟨gt, ot + t * 2 + 1, none⟩ = some (.slice c.tl[t].a c.tl[t].l.length c.tl[t].c)) := fun w' k => by
  obtain ⟨g2, o2, e2, h1, h2⟩ := tbAt (hc.kept k).ts (j := t) (t := c.tl[t]) (by simp [htl])
  rw [egt] at e2;injection e2 with e2
  injection e2 with e3 e4
  subst e3 e4;exact ⟨h1, h2⟩
 obtain ⟨AL, hAL⟩ : ∃ A, Hid (allB c.tl[t] = A) := ⟨_, hid rfl⟩
 rw [hAL.out] at hr
 have hAl : Hid (∀ p q : Pj, p ∈ c.pl → q ∈ c.pl → p.tb = (t : Int) → q.tb = (t : Int) → alR c.tl[t].l.length p.cl q.cl = cvP (t : Int) AL p q) := fun p q hp hq h1 h2 => by
  have e := alR_bits c.tl[t].l.length p.cl q.cl (hcl p hp h1) (hcl q hq h2)
  unfold cvP
  rw [e, h1, h2, ← hAL.out];unfold allB
  simp
 have t0 : (0 : Int) ≤ (t : Int) := by omega
 have t1 : (t : Int) < (c.tl.length : Int) := by omega
 rw [egt] at eW bC;have BC := hid bC
 have KW := hid kW
 have zW' : w.heap.size < W.heap.size := by omega
 generalize c.tl[t] = T at *
 clear hc kW bC zW hcl htl hAL;simp only [Cg.v];rw [egt];obtain ⟨pa, hpa⟩ : ∃ pa, Hid (c.pa = pa) := ⟨_, hid rfl⟩
 rw [hpa.out] at eW BC;rw [hpa.out];have EGT := hid egt
 clear egt;go_enter Tryz.func32, Tryz.ntmps32
 go_wp2_with fail;go_loopw [5, 6, 7] (fun i _ _ wr => ∃ j : Nat, j ≤ c.pl.length ∧ i = .int .i64 j ∧ Hid (rvTo c.pl t AL j = false) ∧ Hid (Bn wr w.heap.size [.int .i64 c.n, .int .i64 c.s, .int .i64 c.k, .slice (some ⟨gt, ot, none⟩) c.tl.length c.tc, .slice pa c.pl.length c.pc]) ∧ Hid (Kp [] w wr)) (fun i _ _ _ => c.pl.length - (intOf i).toNat)
 case atStart => exact ⟨0, Nat.zero_le _, rfl, hid rfl, BC, KW⟩
 case round =>
  obtain ⟨j, hj, rfl, hst, bx, kr⟩ := hrel;clear BC KW eW zW';have b4 := bx.out.get 4 _ rfl
  have wlt := bx.out.lt (by simp)
  by_cases hjl : j < c.pl.length
  ·obtain ⟨g, o, eg, _⟩ := pjAt (HC.out.ps.keptNew kr.out) (j := j) (p := c.pl[j]) (by simp [hjl])
   rw [hpa.out] at eg;subst eg
   have hpx : Hid (∀ (k : Nat) (h : k < c.pl.length) w', Kp [] w w' → (w'.cell? ⟨g, o + k * 6, none⟩ = some (.string c.pl[k].nm) ∧ w'.cell? ⟨g, o + k * 6 + 1, none⟩ = some (.int .i64 c.pl[k].tb) ∧ w'.cell? ⟨g, o + k * 6 + 2, none⟩ = some (.slice c.pl[k].ca c.pl[k].cl.length c.pl[k].cc) ∧ w'.cell? ⟨g, o + k * 6 + 3, none⟩ = some (.slice c.pl[k].sa c.pl[k].sl.length c.pl[k].sc) ∧ w'.cell? ⟨g, o + k * 6 + 4, none⟩ = some (.int .i64 c.pl[k].by_) ∧ w'.cell? ⟨g, o + k * 6 + 5, none⟩ = some (.int .i64 c.pl[k].sh))) := fun k h w' hk => by
    obtain ⟨g2, o2, e2, h1⟩ := pjAt (HC.out.ps.keptNew hk) (j := k) (p := c.pl[k]) (by simp [h])
    rw [hpa.out] at e2;injection e2 with e2
    injection e2 with e3 e4
    subst e3 e4;exact h1
   have hsu := hid (rvTo_succ c.pl t AL j)
   have hgd : Hid (c.pl.getD j default = c.pl[j]) := by show _ = _; simp [hjl]
   have hpo := hid (HC.out.pok _ (List.getElem_mem hjl))
   have hmp : Hid (c.pl[j] ∈ c.pl) := List.getElem_mem hjl
   have hpj := hid (hpx.out j hjl)
   have i1 : (0 : Int) ≤ (j : Int) := by omega
   have i2 : (j : Int) < (c.pl.length : Int) := by omega
   have i3 : (j : Int) + 1 ≤ 9223372036854775807 := by omega
   rw [hst.out] at hsu;generalize c.pl[j] = p at *
   go_wp2_with fail;clear b4;go_loopw [6, 7] (fun i _ wn => ∃ m : Nat, m ≤ c.pl.length ∧ i = .int .i64 m ∧ Hid (rvIn c.pl t AL j m = false) ∧ Hid (Bn wn w.heap.size [.int .i64 c.n, .int .i64 c.s, .int .i64 c.k, .slice (some ⟨gt, ot, none⟩) c.tl.length c.tc, .slice (some ⟨g, o, none⟩) c.pl.length c.pc]) ∧ Hid (Kp [] w wn)) (fun i _ _ => c.pl.length - (intOf i).toNat)
   case atStart => exact ⟨0, Nat.zero_le _, rfl, hid rfl, bx, kr⟩
   case round =>
    obtain ⟨m, hm, rfl, hin, bx2, km⟩ := hrel;clear bx kr;have b4 := bx2.out.get 4 _ rfl
    by_cases hml : m < c.pl.length
    ·have hgq : Hid (c.pl.getD m default = c.pl[m]) := by show _ = _; simp [hml]
     have hqo := hid (HC.out.pok _ (List.getElem_mem hml))
     have hmq : Hid (c.pl[m] ∈ c.pl) := List.getElem_mem hml
     have hqj := hid (hpx.out m hml)
     have hins := hid (rvIn_succ c.pl t AL j m)
     have htr := hid (rv_true c.pl t AL j m hjl hml)
     rw [hin.out, hgd.out, hgq.out] at hins;rw [hgd.out, hgq.out] at htr;have m1 : (0 : Int) ≤ (m : Int) := by omega
     have m2 : (m : Int) < (c.pl.length : Int) := by omega
     have m3 : (m : Int) + 1 ≤ 9223372036854775807 := by omega
     generalize c.pl[m] = q at *
     obtain ⟨x0, x1, x2, x3, x4, x5⟩ := hpj.out _ km.out;obtain ⟨y0, y1, y2, y3, y4, y5⟩ := hqj.out _ km.out
     by_cases h1 : p.tb = (t : Int)
     rotate_left
     ·have d1 : (p.tb == (t : Int)) = false := by simpa using h1
      have hins2 : Hid (rvIn c.pl t AL j (m + 1) = false) := by show _ = _; rw [hins.out]; unfold cvP; rw [d1]; rfl
      clear hins htr h1;go_wp2_with fail;exact ⟨⟨m + 1, by omega, by go_num, hins2, bx2, km⟩, by simp [intOf]; omega⟩
     have d1 : (p.tb == (t : Int)) = true := by simpa using h1
     by_cases h2 : q.tb = (t : Int)
     rotate_left
     ·have d2 : (q.tb == (t : Int)) = false := by simpa using h2
      have hins2 : Hid (rvIn c.pl t AL j (m + 1) = false) := by show _ = _; rw [hins.out]; unfold cvP; rw [d2]; simp
      have h1' := hid h1
      clear hins htr h1 h2;go_wp2_with fail;exact ⟨⟨m + 1, by omega, by go_num, hins2, bx2, km⟩, by simp [intOf]; omega⟩
     have d2 : (q.tb == (t : Int)) = true := by simpa using h2
     have hal := hAl.out p q hmp.out hmq.out h1 h2
     obtain ⟨V, hV⟩ : ∃ V, Hid (cvP (t : Int) AL p q = V) := ⟨_, hid rfl⟩
     rw [hV.out] at hal hins htr;have aA := hid (fun w' (k : Kp [] w w') => rAllC T p q w' (by omega) (hpo.out.kept k) (hqo.out.kept k))
     rw [hal] at aA;simp only [Tb.v, Pj.v] at aA
     have hF : Hid (∀ W', Kp [] wr W' → (W'.cell? ⟨w.heap.size, 3, none⟩ = some (.slice (some ⟨gt, ot, none⟩) c.tl.length c.tc) ∧ W'.cell? ⟨w.heap.size, 4, none⟩ = some (.slice (some ⟨g, o, none⟩) c.pl.length c.pc) ∧ W'.cell? ⟨gt, ot + t * 2, none⟩ = some (.string T.nm) ∧ W'.cell? ⟨gt, ot + t * 2 + 1, none⟩ = some (.slice T.a T.l.length T.c) ∧ W'.cell? ⟨g, o + j * 6, none⟩ = some (.string p.nm) ∧ W'.cell? ⟨g, o + j * 6 + 1, none⟩ = some (.int .i64 p.tb) ∧ W'.cell? ⟨g, o + j * 6 + 2, none⟩ = some (.slice p.ca p.cl.length p.cc) ∧ W'.cell? ⟨g, o + j * 6 + 3, none⟩ = some (.slice p.sa p.sl.length p.sc) ∧ W'.cell? ⟨g, o + j * 6 + 4, none⟩ = some (.int .i64 p.by_) ∧ W'.cell? ⟨g, o + j * 6 + 5, none⟩ = some (.int .i64 p.sh) ∧ W'.cell? ⟨g, o + m * 6, none⟩ = some (.string q.nm) ∧ W'.cell? ⟨g, o + m * 6 + 1, none⟩ = some (.int .i64 q.tb) ∧ W'.cell? ⟨g, o + m * 6 + 2, none⟩ = some (.slice q.ca q.cl.length q.cc) ∧ W'.cell? ⟨g, o + m * 6 + 3, none⟩ = some (.slice q.sa q.sl.length q.sc) ∧ W'.cell? ⟨g, o + m * 6 + 4, none⟩ = some (.int .i64 q.by_) ∧ W'.cell? ⟨g, o + m * 6 + 5, none⟩ = some (.int .i64 q.sh))) := fun W' k => by
      have hk := km.out.trans k (by simp)
      have e1 := bx2.out.kept k
      obtain ⟨f0, f1⟩ := htt.out _ hk;obtain ⟨x0, x1, x2, x3, x4, x5⟩ := hpj.out _ hk;obtain ⟨y0, y1, y2, y3, y4, y5⟩ := hqj.out _ hk;exact ⟨e1.get 3 _ rfl, e1.get 4 _ rfl, f0, f1, x0, x1, x2, x3, x4, x5, y0, y1, y2, y3, y4, y5⟩
     have h12 := hid (And.intro h1 h2)
     clear h1 h2 hal hV;go_wp2_with fail;refine wp_region_held_drew (S := fun W' => W'.cell? ⟨w.heap.size, 3, none⟩ = some (.slice (some ⟨gt, ot, none⟩) c.tl.length c.tc) ∧ W'.cell? ⟨w.heap.size, 4, none⟩ = some (.slice (some ⟨g, o, none⟩) c.pl.length c.pc) ∧ W'.cell? ⟨gt, ot + t * 2, none⟩ = some (.string T.nm) ∧ W'.cell? ⟨gt, ot + t * 2 + 1, none⟩ = some (.slice T.a T.l.length T.c) ∧ W'.cell? ⟨g, o + j * 6, none⟩ = some (.string p.nm) ∧ W'.cell? ⟨g, o + j * 6 + 1, none⟩ = some (.int .i64 p.tb) ∧ W'.cell? ⟨g, o + j * 6 + 2, none⟩ = some (.slice p.ca p.cl.length p.cc) ∧ W'.cell? ⟨g, o + j * 6 + 3, none⟩ = some (.slice p.sa p.sl.length p.sc) ∧ W'.cell? ⟨g, o + j * 6 + 4, none⟩ = some (.int .i64 p.by_) ∧ W'.cell? ⟨g, o + j * 6 + 5, none⟩ = some (.int .i64 p.sh) ∧ W'.cell? ⟨g, o + m * 6, none⟩ = some (.string q.nm) ∧ W'.cell? ⟨g, o + m * 6 + 1, none⟩ = some (.int .i64 q.tb) ∧ W'.cell? ⟨g, o + m * 6 + 2, none⟩ = some (.slice q.ca q.cl.length q.cc) ∧ W'.cell? ⟨g, o + m * 6 + 3, none⟩ = some (.slice q.sa q.sl.length q.sc) ∧ W'.cell? ⟨g, o + m * 6 + 4, none⟩ = some (.int .i64 q.by_) ∧ W'.cell? ⟨g, o + m * 6 + 5, none⟩ = some (.int .i64 q.sh)) (by kernel_rfl) ?_ (fun hHeld => ?_)
     ·exact hF.out _ (Kp.refl _ _).drew
     have KD : Hid (Kp [] wr wr.drew) := hid (Kp.refl _ _).drew
     generalize wr.drew = Wd at *
     clear x0 x1 x2 x3 x4 x5 y0 y1 y2 y3 y4 y5 b4;refine tkH ?_ 0 rfl (by kernel_rfl) (fun _ _ _ h => h) (by rfl) ?_ ‹_› ?_;rotate_left
     ·intro w h; (try dsimp only at h); go_simp <;> with_reducible rfl
     (try simp only [Act.put, lz]);refine tkH ?_ 1 rfl (by kernel_rfl) (fun _ _ _ h => h) (by rfl) ?_ ‹_› ?_;rotate_left
     ·intro w h; (try dsimp only at h); go_simp <;> with_reducible rfl
     (try simp only [Act.put, lz]);refine tkH ?_ 2 rfl (by kernel_rfl) (fun _ _ _ h => h) (by rfl) ?_ ‹_› ?_;rotate_left
     ·intro w h; (try dsimp only at h); go_simp <;> with_reducible rfl
     (try simp only [Act.put, lz]);refine tkH ?_ 3 rfl (by kernel_rfl) (fun _ _ _ h => h) (by rfl) ?_ ‹_› ?_;rotate_left
     ·intro w h; (try dsimp only at h); go_simp <;> with_reducible rfl
     (try simp only [Act.put, lz]);refine tkH ?_ 4 rfl (by kernel_rfl) (fun _ _ _ h => h) (by rfl) ?_ ‹_› ?_;rotate_left
     ·intro w h; (try dsimp only at h); go_simp <;> with_reducible rfl
     (try simp only [Act.put, lz]);refine tkH ?_ 5 rfl (by kernel_rfl) (fun _ _ _ h => h) (by rfl) ?_ ‹_› ?_;rotate_left
     ·intro w h; (try dsimp only at h); go_simp <;> with_reducible rfl
     (try simp only [Act.put, lz]);refine tkH ?_ 6 rfl (by kernel_rfl) (fun _ _ _ h => h) (by rfl) ?_ ‹_› ?_;rotate_left
     ·intro w h; (try dsimp only at h); go_simp <;> with_reducible rfl
     (try simp only [Act.put, lz]);refine tkH ?_ 7 rfl (by kernel_rfl) (fun _ _ _ h => h) (by rfl) ?_ ‹_› ?_;rotate_left
     ·intro w h; (try dsimp only at h); go_simp <;> with_reducible rfl
     (try simp only [Act.put, lz]);refine tkH ?_ 8 rfl (by kernel_rfl) (fun _ _ _ h => h) (by rfl) ?_ ‹_› ?_;rotate_left
     ·intro w h; (try dsimp only at h); go_simp <;> with_reducible rfl
     (try simp only [Act.put, lz]);refine tkH ?_ 9 rfl (by kernel_rfl) (fun _ _ _ h => h) (by rfl) ?_ ‹_› ?_;rotate_left
     ·intro w h; (try dsimp only at h); go_simp <;> with_reducible rfl
     (try simp only [Act.put, lz]);refine tkH ?_ 10 rfl (by kernel_rfl) (fun _ _ _ h => h) (by rfl) ?_ ‹_› ?_;rotate_left
     ·intro w h; (try dsimp only at h); go_simp <;> with_reducible rfl
     (try simp only [Act.put, lz]);refine tkH ?_ 11 rfl (by kernel_rfl) (fun _ _ _ h => h) (by rfl) ?_ ‹_› ?_;rotate_left
     ·intro w h; (try dsimp only at h); go_simp <;> with_reducible rfl
     (try simp only [Act.put, lz]);refine tkH ?_ 12 rfl (by kernel_rfl) (fun _ _ _ h => h) (by rfl) ?_ ‹_› ?_;rotate_left
     ·intro w h; (try dsimp only at h); go_simp <;> with_reducible rfl
     (try simp only [Act.put, lz]);refine tkH ?_ 13 rfl (by kernel_rfl) (fun _ _ _ h => h) (by rfl) ?_ ‹_› ?_;rotate_left
     ·intro w h; (try dsimp only at h); go_simp <;> with_reducible rfl
     (try simp only [Act.put, lz]);refine tkH ?_ 14 rfl (by kernel_rfl) (fun _ _ _ h => h) (by rfl) ?_ ‹_› ?_;rotate_left
     ·intro w h; (try dsimp only at h); go_simp <;> with_reducible rfl
     (try simp only [Act.put, lz]);refine rdH 15 (by kernel_rfl) rfl fun K hK => ?_
     go_simp;refine (aA.out Wd (km.out.trans KD.out (by simp))).mono ?_
     rintro e w5 ⟨rfl, k5⟩;(try go_wp2_with fail);refine hK.out _ _ ?_ (fun hHeld => ?_)
     ·exact hF.out _ (KD.out.trans k5 (by simp))
     clear hK K;(try simp only [Act.put, lz]);have K5 := hid (KD.out.trans k5 (by simp))
     clear k5 aA hF;refine tkH ?_ 16 rfl (by kernel_rfl) (fun _ _ _ h => h) (by rfl) ?_ ‹_› ?_;rotate_left
     ·intro w h; (try dsimp only at h); go_simp <;> with_reducible rfl
     (try simp only [Act.put, lz]);refine wpAnyH_done (by kernel_rfl) ?_ _
     clear hHeld;have km5 := hid (km.out.trans K5.out (by simp))
     cases V with
     | true =>
      have hR : Hid (r = true) := by show _ = _; rw [← hr.out]; exact htr.out rfl
      clear htr hins;go_wp2_with fail;go_ret;exact ⟨by rw [hR.out]; rfl, km5.out⟩
     | false =>
      have hins2 : Hid (rvIn c.pl t AL j (m + 1) = false) := by show _ = _; rw [hins.out]; rfl
      clear htr hins;go_wp2_with fail;exact ⟨⟨m + 1, by omega, by go_num, hins2, hid (bx2.out.kept K5.out), km5⟩, by simp [intOf]; omega⟩
    ·have e : m = c.pl.length := by omega
     have hsu2 : Hid (rvTo c.pl t AL (j + 1) = false) := by show _ = _; rw [hsu.out, ← e, hin.out]; rfl
     have e2 : ((m : Int) < (c.pl.length : Int)) = False := by simp [e]
     go_wp2_with fail;exact ⟨⟨j + 1, by omega, by go_num, hsu2, bx2, km⟩, by simp [intOf]; omega⟩
  ·have e : j = c.pl.length := by omega
   have hR : Hid (r = false) := by show _ = _; rw [← hr.out, ← e]; exact hst.out
   subst e;go_wp2_with fail;go_ret;exact ⟨by rw [hR.out]; rfl, kr.out⟩
theorem wpAppRun {P : Program} {w w' : World} {ops : Array Oper} {rest : List Oper} {o : Oper} {a : Act} {Q : Exit → Act → World → Prop} (hgd : o.guard = none) (s x : Operand) (t tx : TypeId)
  (ho : o.op = .call { callee := .builtin .append, args := #[s, x], argTypes := #[t, tx] }) (v xv v' : Value) (hv : a.eval s = v) (hx : a.eval x = xv)
  (hrun : (Builtin.append_ #[t, tx] o.type #[v, xv]).run P w = .ok v' w') (h : wpList P ops Q rest (a.put o.dst v') w') : wpList P ops Q (o :: rest) a w := by
 refine wpList_plain hgd fun K hK' => ?_
 have hfin := hK' _ _ h
 unfold Oper.wp
 simp [execOp, ho, resolve, invoke, builtin, hv, hx, hrun, Result.andThen]
 exact hfin
def sgTo (M s : Nat) : List (Nat × Nat) := (List.range s).map fun k => (k / M, k % M)
theorem sgTo_len (M s : Nat) : (sgTo M s).length = s := by simp [sgTo]
theorem sgTo_succ (M k j : Nat) (h : j < M) : sgTo M (k * M + j + 1) = sgTo M (k * M + j) ++ [(k, j)] := by
 unfold sgTo
 rw [List.range_succ, List.map_append];have e1 : (k * M + j) / M = k := by rw [Nat.add_comm, Nat.add_mul_div_right _ _ (by omega), Nat.div_eq_of_lt h]; omega
 have e2 : (k * M + j) % M = j := by rw [Nat.add_comm, Nat.add_mul_mod_self_right, Nat.mod_eq_of_lt h]
 simp only [List.map_cons, List.map_nil, e1, e2]
theorem appSg (w : World) (a : Option Addr) (cp : Nat) (l : List (Nat × Nat)) (x : Nat × Nat) (N : Nat) (hrow : SgE.Row w (.slice a l.length cp) l) (hnw : ∀ k ∈ blk a, N ≤ k) (hN : N ≤ w.heap.size) (hl : l.length ≤ 1000000) :
  ∃ a' cp' W', (Builtin.append_ #[48, 48] 48 #[.slice a l.length cp, .slice (some ⟨w.heap.size, 0, none⟩) 1 1]).run Tryz.prog (w.alloc (.cells #[.int .i64 (x.1 : Int), .int .i64 (x.2 : Int)] 82)) = .ok (.slice a' (l ++ [x]).length cp') W' ∧ SgE.Row W' (.slice a' (l ++ [x]).length cp') (l ++ [x]) ∧ (∀ k ∈ blk a', N ≤ k) ∧ Kp (blk a) w W' := by
 obtain ⟨A1, hA1⟩ : ∃ A1, w.alloc (.cells #[.int .i64 (x.1 : Int), .int .i64 (x.2 : Int)] 82) = A1 := ⟨_, rfl⟩
 have kA1 : Kp [] w A1 := by rw [← hA1]; exact (Kp.refl _ _).alloc _
 have bx1 : Bn A1 w.heap.size (SgE.c x) := by rw [← hA1]; exact Bn.new w (SgE.c x) _
 have hs1 : SgE.See A1 (some ⟨w.heap.size, 0, none⟩) [x] := .inr ⟨w.heap.size, 0, rfl, fun j u hu => by rw [Nat.zero_add]; exact bx1.get j u (by simpa [El.cs] using hu)⟩
 obtain ⟨i0, hi, hz0', hz1', hz2'⟩ := infoSg;have hsr := hs1.src (P := Tryz.prog) Tryz.underlying48 1
 obtain ⟨v', A2, hrun, hrow2, k2, hn2⟩ := run_appendG (E := SgE) (P := Tryz.prog) A1 48 48 48 82 i0 _ 16 Tryz.underlying48 hi hz0' hz1' hz2' rfl (.slice a l.length cp) l (hrow.keptNew kA1) _ [x] hsr (by simp only [List.length_cons, List.length_nil]; omega) (by simp only [List.length_cons, List.length_nil]; omega)
 obtain ⟨a', c', rfl, _⟩ := hrow2.see;simp only [ownSl] at k2 hn2;rw [hA1];have z1 := kA1.size
 exact ⟨a', c', A2, hrun, hrow2, fun k hk => by
  rcases hn2 k hk with e | e
  ·exact hnw k e
  ·omega, (kA1.mono (by simp)).trans k2 (fun j hj => .inl hj)⟩
theorem rSegments (c : Cg) (M P : Nat) (w : World) (hM : c.s = (M : Int)) (hPl : c.pl.length = P) (hM8 : M ≤ 8) (hP8 : P ≤ 8) : Calls Tryz.prog 72 #[c.v] w (OfP (sgTo M (P * M)) w) := by
 obtain ⟨W, eW, kW, zW, bC⟩ := boxC c w;simp only [Cg.v];rw [hM, hPl] at eW bC;rw [hM, hPl];have BC := hid bC
 have KW := hid kW
 have zW' : w.heap.size < W.heap.size := by omega
 have hF : Hid (∀ w', Kp [] W w' → w'.cell? ⟨w.heap.size, 1, none⟩ = some (.int .i64 (M : Int)) ∧ w'.cell? ⟨w.heap.size, 4, none⟩ = some (.slice c.pa P c.pc)) := fun w' k => ⟨(BC.out.kept k).get 1 _ rfl, (BC.out.kept k).get 4 _ rfl⟩
 have hzW := hid (And.intro zW hPl)
 clear kW bC zW hM hPl;go_enter Tryz.func72, Tryz.ntmps72
 go_wp2_with fail;go_loopw [3, 4, 5] (fun lv pv _ wr => ∃ (k : Nat) (a : Option Addr) (cp : Nat) (l : List (Nat × Nat)), k ≤ P ∧ pv = .int .i64 k ∧ lv = .slice a l.length cp ∧ Hid (l = sgTo M (k * M)) ∧ Hid (SgE.Row wr (.slice a l.length cp) l ∧ (∀ z ∈ blk a, W.heap.size ≤ z) ∧ Kp [] W wr)) (fun _ pv _ _ => P - (intOf pv).toNat)
 case atStart => exact ⟨0, none, 0, [], Nat.zero_le _, rfl, rfl, hid (by simp [sgTo]), hid ⟨.inl ⟨rfl, rfl⟩, by simp [blk], Kp.refl _ _⟩⟩
 case round =>
  obtain ⟨k, a, cp, l, hk, rfl, rfl, hl, hw⟩ := hrel;obtain ⟨b1, b4⟩ := hF.out _ hw.out.2.2
  by_cases hkl : k < P
  ·have i1 : (0 : Int) ≤ (k : Int) := by omega
   have i2 : (k : Int) < (P : Int) := by omega
   have i3 : (k : Int) + 1 ≤ 9223372036854775807 := by omega
   go_wp2_with fail;clear b1 b4;go_loopw [3, 5] (fun lv nv wn => ∃ (j : Nat) (a : Option Addr) (cp : Nat) (l : List (Nat × Nat)), j ≤ M ∧ nv = .int .i64 j ∧ lv = .slice a l.length cp ∧ Hid (l = sgTo M (k * M + j)) ∧ Hid (SgE.Row wn (.slice a l.length cp) l ∧ (∀ z ∈ blk a, W.heap.size ≤ z) ∧ Kp [] W wn)) (fun _ nv _ => M - (intOf nv).toNat)
   case atStart => exact ⟨0, a, cp, l, Nat.zero_le _, rfl, rfl, hl, hw⟩
   case round =>
    obtain ⟨j, a, cp, l, hj, rfl, rfl, hl, hw⟩ := hrel;obtain ⟨b1, b4⟩ := hF.out _ hw.out.2.2
    by_cases hjl : j < M
    ·have j1 : (0 : Int) ≤ (j : Int) := by omega
     have j2 : (j : Int) < (M : Int) := by omega
     have j3 : (j : Int) + 1 ≤ 9223372036854775807 := by omega
     have hlen : l.length ≤ 1000000 := by
      rw [hl.out, sgTo_len];have : k * M ≤ 8 * 8 := Nat.mul_le_mul (by omega) hM8
      omega
     have hzw := hw.out.2.2.size
     obtain ⟨a', cp', W', hrun, hrow', hnw', k'⟩ := appSg wr a cp l (k, j) W.heap.size hw.out.1 hw.out.2.1 hzw hlen;have hl2 : Hid (l ++ [(k, j)] = sgTo M (k * M + (j + 1))) := by show _ = _; rw [← Nat.add_assoc, sgTo_succ M k j hjl, ← hl.out]
     have hw2 : Hid (SgE.Row W' (.slice a' (l ++ [(k, j)]).length cp') (l ++ [(k, j)]) ∧ (∀ z ∈ blk a', W.heap.size ≤ z) ∧ Kp [] W W') := hid ⟨hrow', hnw', hw.out.2.2.trans k' (fun z hz => .inr (hw.out.2.1 z hz))⟩
     obtain ⟨L2, hL2⟩ : ∃ L2, Hid (l ++ [(k, j)] = L2) := ⟨_, hid rfl⟩
     rw [hL2.out] at hl2 hw2 hrun;clear hrow' hnw' k' hlen hl hw;dsimp only at hrun;go_wp2_with (first | (refine wpAppRun rfl _ _ 48 48 rfl _ _ _ rfl rfl hrun ?_) | fail)
     exact ⟨⟨j + 1, a', cp', L2, by omega, by go_num, rfl, hl2, hw2⟩, by simp [intOf]; omega⟩
    ·have e : j = M := by omega
     have e2 : ((j : Int) < (M : Int)) = False := by simp [e]
     have hl2 : Hid (l = sgTo M ((k + 1) * M)) := by show _ = _; rw [Nat.succ_mul, hl.out, e]
     clear hl;go_wp2_with fail;exact ⟨⟨k + 1, a, cp, l, by omega, by go_num, rfl, hl2, hw⟩, by simp [intOf]; omega⟩
  ·have e : k = P := by omega
   subst e;go_wp2_with fail;go_ret;obtain ⟨_, _, e, hsee, _, hcp, _⟩ := hw.out.1.see
   cases e
   exact ⟨a, cp, by rw [← hl.out]; rfl, by rw [← hl.out]; exact hsee, by rw [← hl.out]; exact hcp, KW.out.trans hw.out.2.2 (by simp)⟩
theorem i64w (x : Int) (h0 : -9223372036854775808 ≤ x) (h1 : x ≤ 9223372036854775807) : IntKind.i64.wrap x = x := by
 rw [IntKind.wrap_i64];omega
theorem appI (w : World) (a : Option Addr) (cp : Nat) (l : List Int) (x : Int) (N : Nat) (hrow : IntE.Row w (.slice a l.length cp) l) (hnw : ∀ k ∈ blk a, N ≤ k) (hN : N ≤ w.heap.size) (hl : l.length ≤ 1000000) :
  ∃ a' cp' W', (Builtin.append_ #[27, 27] 27 #[.slice a l.length cp, .slice (some ⟨w.heap.size, 0, none⟩) 1 1]).run Tryz.prog (w.alloc (.cells #[.int .i64 x] 3)) = .ok (.slice a' (l ++ [x]).length cp') W' ∧ IntE.Row W' (.slice a' (l ++ [x]).length cp') (l ++ [x]) ∧ (∀ k ∈ blk a', N ≤ k) ∧ Kp (blk a) w W' := by
 obtain ⟨A1, hA1⟩ : ∃ A1, w.alloc (.cells #[.int .i64 x] 3) = A1 := ⟨_, rfl⟩
 have kA1 : Kp [] w A1 := by rw [← hA1]; exact (Kp.refl _ _).alloc _
 have bx1 : Bn A1 w.heap.size (IntE.c x) := by rw [← hA1]; exact Bn.new w (IntE.c x) _
 have hs1 : IntE.See A1 (some ⟨w.heap.size, 0, none⟩) [x] := .inr ⟨w.heap.size, 0, rfl, fun j u hu => by rw [Nat.zero_add]; exact bx1.get j u (by simpa [El.cs] using hu)⟩
 obtain ⟨i0, hi, hz0', hz1', hz2'⟩ := infoI;have hsr := hs1.src (P := Tryz.prog) Tryz.underlying27 1
 obtain ⟨v', A2, hrun, hrow2, k2, hn2⟩ := run_appendG (E := IntE) (P := Tryz.prog) A1 27 27 27 3 i0 _ 8 Tryz.underlying27 hi hz0' hz1' hz2' rfl (.slice a l.length cp) l (hrow.keptNew kA1) _ [x] hsr (by simp only [List.length_cons, List.length_nil]; omega) (by simp only [List.length_cons, List.length_nil]; omega)
 obtain ⟨a', c', rfl, _⟩ := hrow2.see;simp only [ownSl] at k2 hn2;rw [hA1];have z1 := kA1.size
 exact ⟨a', c', A2, hrun, hrow2, fun k hk => by
  rcases hn2 k hk with e | e
  ·exact hnw k e
  ·omega, (kA1.mono (by simp)).trans k2 (fun j hj => .inl hj)⟩
def RnP (l : List Int) (w : World) (e : Ending) (w' : World) : Prop := ∃ (a : Option Addr) (cp : Nat), e = .returned (.slice a l.length cp) ∧ IntE.See w' a l ∧ l.length ≤ cp ∧ 0 ≤ cp ∧ Kp [] w w'
theorem rNodes (c : Cg) (P S : Int) (w : World) (hc : c.ok w) (hn : cntd c = true) (hsh : ∀ p ∈ c.pl, wi p.sh c.n = true) : Calls Tryz.prog 73 #[c.v, .agg #[.int .i64 P, .int .i64 S]] w (RnP (ndsC c P S) w) := by
 obtain ⟨W, eW, kW, zW, bC, bA⟩ := boxCA c P S w;have KW := hid kW
 have HC := hid hc
 have BB := hid (And.intro bC bA)
 have hN := (cntd_iff c).1 hn
 have zW' : w.heap.size + 1 < W.heap.size := by omega
 have HSH := hid hsh
 have cc0 := bC.get 0 _ rfl; have cc1 := bC.get 1 _ rfl; have cc2 := bC.get 2 _ rfl; have cc3 := bC.get 3 _ rfl; have cc4 := bC.get 4 _ rfl
 have aa0 := bA.get 0 _ rfl; have aa1 := bA.get 1 _ rfl
 clear kW bC bA hc hn hsh zW;unfold ndsC
 simp only [Cg.v] at *
 by_cases h1 : P < 0
 ·have d1 : decide (P < 0) = true := by simpa using h1
  have hL : liesC c P S = false := by unfold liesC wi; simp; omega
  rw [hL, if_neg (by simp)]
  clear hN hL;go_enter Tryz.func73, Tryz.ntmps73
  go_wp2_with fail;go_returns;exact ⟨none, 0, rfl, .inl rfl, by simp, by omega, KW.out⟩
 have d1 : decide (P < 0) = false := by simpa using h1
 by_cases h2 : (c.pl.length : Int) ≤ P
 ·have d2 : decide ((c.pl.length : Int) ≤ P) = true := by simpa using h2
  have hL : liesC c P S = false := by unfold liesC wi; simp; omega
  rw [hL, if_neg (by simp)]
  clear hN hL;go_enter Tryz.func73, Tryz.ntmps73
  go_wp2_with fail;go_returns;exact ⟨none, 0, rfl, .inl rfl, by simp, by omega, KW.out⟩
 have d2 : decide ((c.pl.length : Int) ≤ P) = false := by simpa using h2
 by_cases h3 : S < 0
 ·have d3 : decide (S < 0) = true := by simpa using h3
  have hL : liesC c P S = false := by unfold liesC wi; simp; omega
  rw [hL, if_neg (by simp)]
  clear hN hL;go_enter Tryz.func73, Tryz.ntmps73
  go_wp2_with fail;go_returns;exact ⟨none, 0, rfl, .inl rfl, by simp, by omega, KW.out⟩
 have d3 : decide (S < 0) = false := by simpa using h3
 by_cases h4 : c.s ≤ S
 ·have d4 : decide (c.s ≤ S) = true := by simpa using h4
  have hL : liesC c P S = false := by unfold liesC wi; simp; omega
  rw [hL, if_neg (by simp)]
  clear hN hL;go_enter Tryz.func73, Tryz.ntmps73
  go_wp2_with fail;go_returns;exact ⟨none, 0, rfl, .inl rfl, by simp, by omega, KW.out⟩
 have d4 : decide (c.s ≤ S) = false := by simpa using h4
 have hL : liesC c P S = true := by unfold liesC wi; simp; omega
 rw [hL, if_pos rfl];obtain ⟨i, rfl⟩ := Int.eq_ofNat_of_zero_le (show 0 ≤ P by omega)
 have hil : i < c.pl.length := by omega
 have d2n : decide (c.pl.length ≤ i) = false := by simp; omega
 obtain ⟨g, o, eg, _, _, _, _, _, x5⟩ := pjAt (HC.out.ps.keptNew KW.out) (j := i) (p := c.pl[i]) (by simp [hil])
 have hs1 := HSH.out _ (List.getElem_mem hil)
 have hgd : (c.pl.getD (i : Int).toNat default).sh = c.pl[i].sh := by simp [hil]
 rw [hgd];generalize c.pl[i].sh = sh at *
 unfold wi at hs1
 simp only [Bool.and_eq_true, decide_eq_true_eq] at hs1;obtain ⟨K, hK⟩ := Int.eq_ofNat_of_zero_le hN.2.1.1;rw [eg] at eW BB cc4;rw [eg];rw [hK] at eW BB cc2;rw [hK];have i1 : (0 : Int) ≤ (i : Int) := by omega
 have i2 : (i : Int) < (c.pl.length : Int) := by omega
 have hF : Hid (∀ W', Kp [] W W' → (W'.cell? ⟨w.heap.size, 0, none⟩ = some (.int .i64 c.n) ∧ W'.cell? ⟨w.heap.size, 1, none⟩ = some (.int .i64 c.s) ∧ W'.cell? ⟨w.heap.size, 2, none⟩ = some (.int .i64 (K : Int)) ∧ W'.cell? ⟨w.heap.size, 3, none⟩ = some (.slice c.ta c.tl.length c.tc) ∧ W'.cell? ⟨w.heap.size, 4, none⟩ = some (.slice (some ⟨g, o, none⟩) c.pl.length c.pc) ∧ W'.cell? ⟨w.heap.size + 1, 0, none⟩ = some (.int .i64 (i : Int)) ∧ W'.cell? ⟨w.heap.size + 1, 1, none⟩ = some (.int .i64 S) ∧ W'.cell? ⟨g, o + i * 6 + 5, none⟩ = some (.int .i64 sh))) := fun W' k => by
  have h1 := BB.out.1.kept k
  have h2 := BB.out.2.kept k
  exact ⟨h1.get 0 _ rfl, h1.get 1 _ rfl, h1.get 2 _ rfl, h1.get 3 _ rfl, h1.get 4 _ rfl, h2.get 0 _ rfl, h2.get 1 _ rfl, kpAt k x5⟩
 have hn1 : 1 ≤ c.n := hN.1.1
 have hn8 : c.n ≤ 8 := hN.1.2
 have hn0 : (c.n == 0) = false := by simp; omega
 obtain ⟨F, hFe⟩ : ∃ F, S + sh = F := ⟨_, rfl⟩
 have hFb : 0 ≤ F ∧ F ≤ 16 := by omega
 have b1 : (-9223372036854775808 : Int) ≤ S + sh := by omega
 have b2 : S + sh ≤ 9223372036854775807 := by omega
 have hK8 : K < 8 := by omega
 rw [hFe, show ((K : Int)).toNat = K by simp]
 have HN := hid hN
 have HK := hid hK
 have HFe := hid hFe
 clear h1 h2 h3 h4 x5 hgd hs1 hN hK hL;go_enter Tryz.func73, Tryz.ntmps73
 go_wp2_with fail;clear cc0 cc1 cc2 cc3 cc4 aa0 aa1 eW;go_loopw [5, 6] (fun lv jv wr => ∃ (j : Nat) (a : Option Addr) (cp : Nat) (l : List Int), j ≤ K + 1 ∧ jv = .int .i64 j ∧ lv = .slice a l.length cp ∧ Hid (l = ring F c.n j) ∧ Hid (IntE.Row wr (.slice a l.length cp) l ∧ (∀ z ∈ blk a, W.heap.size ≤ z) ∧ Kp [] W wr)) (fun _ jv _ => K + 1 - (intOf jv).toNat)
 case atStart => exact ⟨0, none, 0, [], Nat.zero_le _, rfl, rfl, hid (by simp [ring]), hid ⟨.inl ⟨rfl, rfl⟩, by simp [blk], Kp.refl _ _⟩⟩
 case round =>
  obtain ⟨j, a, cp, l, hj, rfl, rfl, hl, hw⟩ := hrel;obtain ⟨q0, q1, q2, q3, q4, q5, q6, q7⟩ := hF.out _ hw.out.2.2
  by_cases hlt : j ≤ K
  ·have j1 : (j : Int) ≤ (K : Int) := by omega
   have j3 : (j : Int) + 1 ≤ 9223372036854775807 := by omega
   have j4 : (-9223372036854775808 : Int) ≤ F + (j : Int) := by omega
   have j5 : F + (j : Int) ≤ 9223372036854775807 := by omega
   have hmod : Int.tmod (F + (j : Int)) c.n = (F + (j : Int)) % c.n := Int.tmod_eq_emod_of_nonneg (by omega)
   obtain ⟨V, hV⟩ : ∃ V, (F + (j : Int)) % c.n = V := ⟨_, rfl⟩
   rw [hV] at hmod;have hlen : l.length ≤ 1000000 := by rw [hl.out, ring_length]; omega
   have hs2 := hid (ring_succ F c.n j)
   rw [hV] at hs2;have hF2 : Hid (∀ W', Kp [] wr W' → (W'.cell? ⟨w.heap.size, 0, none⟩ = some (.int .i64 c.n) ∧ W'.cell? ⟨w.heap.size, 1, none⟩ = some (.int .i64 c.s) ∧ W'.cell? ⟨w.heap.size, 2, none⟩ = some (.int .i64 (K : Int)) ∧ W'.cell? ⟨w.heap.size, 3, none⟩ = some (.slice c.ta c.tl.length c.tc) ∧ W'.cell? ⟨w.heap.size, 4, none⟩ = some (.slice (some ⟨g, o, none⟩) c.pl.length c.pc) ∧ W'.cell? ⟨w.heap.size + 1, 0, none⟩ = some (.int .i64 (i : Int)) ∧ W'.cell? ⟨w.heap.size + 1, 1, none⟩ = some (.int .i64 S) ∧ W'.cell? ⟨g, o + i * 6 + 5, none⟩ = some (.int .i64 sh))) := fun W' k => hF.out _ (hw.out.2.2.trans k (by simp))
   have wF : IntKind.i64.wrap F = F := i64w F (by omega) (by omega)
   have wFj : IntKind.i64.wrap (F + (j : Int)) = F + (j : Int) := i64w _ (by omega) (by omega)
   have hnz : (c.n = 0) = False := by simp; omega
   clear hV;go_wp2_with fail;refine wp_region_held_drew (S := fun W' => W'.cell? ⟨w.heap.size, 0, none⟩ = some (.int .i64 c.n) ∧ W'.cell? ⟨w.heap.size, 1, none⟩ = some (.int .i64 c.s) ∧ W'.cell? ⟨w.heap.size, 2, none⟩ = some (.int .i64 (K : Int)) ∧ W'.cell? ⟨w.heap.size, 3, none⟩ = some (.slice c.ta c.tl.length c.tc) ∧ W'.cell? ⟨w.heap.size, 4, none⟩ = some (.slice (some ⟨g, o, none⟩) c.pl.length c.pc) ∧ W'.cell? ⟨w.heap.size + 1, 0, none⟩ = some (.int .i64 (i : Int)) ∧ W'.cell? ⟨w.heap.size + 1, 1, none⟩ = some (.int .i64 S) ∧ W'.cell? ⟨g, o + i * 6 + 5, none⟩ = some (.int .i64 sh)) (by kernel_rfl) ?_ (fun hHeld => ?_)
   ·exact hF2.out _ (Kp.refl _ _).drew
   have KD : Hid (Kp [] wr wr.drew) := hid (Kp.refl _ _).drew
   generalize wr.drew = Wd at *
   have zD := KD.out.size
   have zw := hw.out.2.2.size
   obtain ⟨a', cp', W5, hrun, hrow', hnw', k'⟩ := appI Wd a cp l V W.heap.size (hw.out.1.keptNew KD.out) hw.out.2.1 (by omega) hlen
   clear q0 q1 q2 q3 q4 q5 q6 q7;refine tkH ?_ 0 rfl (by kernel_rfl) (fun _ _ _ h => h) (by rfl) ?_ ‹_› ?_;rotate_left
   ·intro w h; (try dsimp only at h); go_simp <;> with_reducible rfl
   (try simp only [Act.put, lz]);refine tkH ?_ 1 rfl (by kernel_rfl) (fun _ _ _ h => h) (by rfl) ?_ ‹_› ?_;rotate_left
   ·intro w h; (try dsimp only at h); go_simp <;> with_reducible rfl
   (try simp only [Act.put, lz]);refine tkH ?_ 2 rfl (by kernel_rfl) (fun _ _ _ h => h) (by rfl) ?_ ‹_› ?_;rotate_left
   ·intro w h; (try dsimp only at h); go_simp <;> with_reducible rfl
   (try simp only [Act.put, lz]);refine tkH ?_ 3 rfl (by kernel_rfl) (fun _ _ _ h => h) (by rfl) ?_ ‹_› ?_;rotate_left
   ·intro w h; (try dsimp only at h); go_simp <;> with_reducible rfl
   (try simp only [Act.put, lz]);refine tkH ?_ 4 rfl (by kernel_rfl) (fun _ _ _ h => h) (by rfl) ?_ ‹_› ?_;rotate_left
   ·intro w h; (try dsimp only at h); go_simp <;> with_reducible rfl
   (try simp only [Act.put, lz]);refine tkH ?_ 5 rfl (by kernel_rfl) (fun _ _ _ h => h) (by rfl) ?_ ‹_› ?_;rotate_left
   ·intro w h; (try dsimp only at h); go_simp <;> with_reducible rfl
   (try simp only [Act.put, lz]);refine tkH ?_ 6 rfl (by kernel_rfl) (fun _ _ _ h => h) (by rfl) ?_ ‹_› ?_;rotate_left
   ·intro w h; (try dsimp only at h); go_simp <;> with_reducible rfl
   (try simp only [Act.put, lz]);refine tkH ?_ 7 rfl (by kernel_rfl) (fun _ _ _ h => h) (by rfl) ?_ ‹_› ?_;rotate_left
   ·intro w h; (try dsimp only at h); go_simp <;> with_reducible rfl
   (try simp only [Act.put, lz]);refine tkH ?_ 8 rfl (by kernel_rfl) (fun _ _ _ h => h) (by rfl) ?_ ‹_› ?_;rotate_left
   ·intro w h; (try dsimp only at h); go_simp <;> with_reducible rfl
   (try simp only [Act.put, lz]);refine tkH ?_ 9 rfl (by kernel_rfl) (fun _ _ _ h => h) (by rfl) ?_ ‹_› ?_;rotate_left
   ·intro w h; (try dsimp only at h); go_simp <;> with_reducible rfl
   (try simp only [Act.put, lz]);refine tkH ?_ 10 rfl (by kernel_rfl) (fun _ _ _ h => h) (by rfl) ?_ ‹_› ?_;rotate_left
   ·intro w hSw; (try dsimp only at hSw); go_simp <;> (try simp only [wF, wFj, hmod, hnz, if_false]) <;> with_reducible rfl
   (try simp only [Act.put, lz]);try simp only [hFe, wF]
   refine tkH ?_ 11 rfl (by kernel_rfl) (fun _ _ _ h => h) (by rfl) ?_ ‹_› ?_;rotate_left
   ·intro w h; (try dsimp only at h); go_simp <;> with_reducible rfl
   (try simp only [Act.put, lz]);refine tkH ?_ 12 rfl (by kernel_rfl) (fun _ _ _ h => h) (by rfl) ?_ ‹_› ?_;rotate_left
   ·intro w hSw; (try dsimp only at hSw); go_simp <;> (try simp only [wF, wFj, hmod, hnz, if_false]) <;> with_reducible rfl
   (try simp only [Act.put, lz]);try simp only [wFj]
   refine tkH ?_ 13 rfl (by kernel_rfl) (fun _ _ _ h => h) (by rfl) ?_ ‹_› ?_;rotate_left
   ·intro w h; (try dsimp only at h); go_simp <;> with_reducible rfl
   (try simp only [Act.put, lz]);refine tkH ?_ 14 rfl (by kernel_rfl) (fun _ _ _ h => h) (by rfl) ?_ ‹_› ?_;rotate_left
   ·intro w h; (try dsimp only at h); go_simp <;> with_reducible rfl
   (try simp only [Act.put, lz]);refine tkH ?_ 15 rfl (by kernel_rfl) (fun _ _ _ h => h) (by rfl) ?_ ‹_› ?_;rotate_left
   ·intro w hSw; (try dsimp only at hSw); go_simp <;> (try simp only [wF, wFj, hmod, hnz, if_false]) <;> with_reducible rfl
   (try simp only [Act.put, lz]);try simp only [hmod]
   refine rdH 16 (by kernel_rfl) rfl fun K hK => ?_
   go_simp;(try go_wp2_with fail);refine hK.out _ _ ?_ (fun hHeld => ?_)
   ·exact hF2.out _ (KD.out.alloc _)
   clear hK K;(try simp only [Act.put, lz]);clear hHeld;have k5 : Kp [] W W5 := (hw.out.2.2.trans KD.out (by simp)).trans k' (fun x hx => .inr (hw.out.2.1 x hx))
   have hl2 : Hid (l ++ [V] = ring F c.n (j + 1)) := by show _ = _; rw [hs2.out, ← hl.out]
   obtain ⟨L2, hL2⟩ : ∃ L2, Hid (l ++ [V] = L2) := ⟨_, hid rfl⟩
   rw [hL2.out] at hl2 hrun hrow';have hw2 : Hid (IntE.Row W5 (.slice a' L2.length cp') L2 ∧ (∀ z ∈ blk a', W.heap.size ≤ z) ∧ Kp [] W W5) := hid ⟨hrow', hnw', k5⟩
   have KK := hid k5
   clear hrow' hnw' k' k5;refine rdH 17 (by kernel_rfl) rfl fun K hK => ?_
   refine stepAppRun rfl _ _ 27 27 rfl _ _ _ rfl rfl hrun ?_;refine hK.out _ _ ?_ (fun hHeld => ?_)
   ·exact hF.out _ KK.out
   clear hK K;(try simp only [Act.put, lz]);refine tkH ?_ 18 rfl (by kernel_rfl) (fun _ _ _ h => h) (by rfl) ?_ ‹_› ?_;rotate_left
   ·intro w h; (try dsimp only at h); go_simp <;> with_reducible rfl
   (try simp only [Act.put, lz]);refine wpAnyH_done (by kernel_rfl) ?_ _
   clear hHeld hrun;go_wp2_with fail;exact ⟨⟨j + 1, a', cp', L2, by omega, by go_num, rfl, hl2, hw2⟩, by simp [intOf]; omega⟩
  ·have e : j = K + 1 := by omega
   subst e;have e2 : decide ((((K + 1 : Nat) : Int)) ≤ (K : Int)) = false := by simp; omega
   go_wp2_with fail;go_ret;obtain ⟨_, _, e, hsee, _, hcp, _⟩ := hw.out.1.see
   cases e
   exact ⟨a, cp, by rw [← hl.out]; rfl, by rw [← hl.out]; exact hsee, by rw [← hl.out]; exact hcp, by omega, KW.out.trans hw.out.2.2 (by simp)⟩
theorem sgAt2 {w : World} {a : Option Addr} {l : List (Nat × Nat)} (h : SgE.See w a l) {j : Nat} {x : Nat × Nat} (hx : l[j]? = some x) : ∃ g f, a = some ⟨g, f, none⟩ ∧ w.cell? ⟨g, f + j * 2, none⟩ = some (.int .i64 (x.1 : Int)) ∧ w.cell? ⟨g, f + j * 2 + 1, none⟩ = some (.int .i64 (x.2 : Int)) := by
 obtain ⟨g, f, rfl, hc⟩ := h.at hx;exact ⟨g, f, rfl, hc 0 _ rfl, hc 1 _ rfl⟩
theorem rOf (c : Cg) (node : Int) (M : Nat) (w : World) (hM : c.s = (M : Int)) (hc : c.ok w) (hn : cntd c = true) (hsh : ∀ p ∈ c.pl, wi p.sh c.n = true) (hp8 : c.pl.length ≤ 8) : Calls Tryz.prog 33 #[c.v, .int .i64 node] w (OfP (ofC c M node) w) := by
 obtain ⟨W, eW, kW, zW, bC⟩ := boxC c w;have hMl : M ≤ 8 ∧ 1 ≤ M := by have := (cntd_iff c).1 hn; omega
 have aSg := hid (rSegments c M c.pl.length W hM rfl hMl.1 hp8)
 have HC := hid hc
 have HN := hid (And.intro hn hsh)
 have BC := hid bC
 have KW := hid kW
 have c0 := bC.get 0 _ rfl; have c1 := bC.get 1 _ rfl; have c2 := bC.get 2 _ rfl; have c3 := bC.get 3 _ rfl; have c4 := bC.get 4 _ rfl
 have zW' : w.heap.size < W.heap.size := by omega
 obtain ⟨N, hN⟩ : ∃ N, Hid (c.pl.length * M = N) := ⟨_, hid rfl⟩
 have hN64 : N ≤ 64 := by have h1 : c.pl.length * M ≤ 8 * 8 := Nat.mul_le_mul hp8 hMl.1; have := hN.out; omega
 unfold ofC
 rw [hN.out] at aSg;rw [hN.out];clear kW bC hc hn hsh hM zW;simp only [Cg.v] at *;go_enter Tryz.func33, Tryz.ntmps33
 go_wp2_with fail;refine aSg.out.mono ?_;rintro e w1 ⟨sa, sc, rfl, hss, hsc, k1⟩;have K1 := hid k1
 have HSS := hid hss
 rw [sgTo_len];clear aSg hss hsc k1 c0 c1 c2 c3 c4;go_wp2_with fail;go_loopw [5, 7, 8] (fun lv iv _ wr => ∃ (s : Nat) (a : Option Addr) (cp : Nat) (l : List (Nat × Nat)), s ≤ N ∧ iv = .int .i64 s ∧ lv = .slice a l.length cp ∧ Hid (l = ofTo c M node s) ∧ Hid (SgE.Row wr (.slice a l.length cp) l ∧ (∀ z ∈ blk a, w1.heap.size ≤ z) ∧ Kp [] w1 wr)) (fun _ iv _ _ => N - (intOf iv).toNat)
 case atStart => exact ⟨0, none, 0, [], Nat.zero_le _, rfl, rfl, hid (by simp [ofTo]), hid ⟨.inl ⟨rfl, rfl⟩, by simp [blk], Kp.refl _ _⟩⟩
 case round =>
  obtain ⟨s, a, cp, l, hs, rfl, rfl, hl, hw⟩ := hrel
  by_cases hsl : s < N
  ·have hxg : (sgTo M N)[s]? = some (s / M, s % M) := by simp [sgTo, hsl]
   obtain ⟨x, hx⟩ : ∃ x : Nat × Nat, (s / M, s % M) = x := ⟨_, rfl⟩
   have hxs : x.1 * M + x.2 = s := by rw [← hx, Nat.mul_comm]; exact Nat.div_add_mod s M
   have hx2 : x.2 < M := by rw [← hx]; exact Nat.mod_lt _ (by omega)
   rw [hx] at hxg;obtain ⟨g, o, eg, _⟩ := sgAt2 (HSS.out.keptNew hw.out.2.2) hxg;subst eg
   have hF : Hid (∀ W', Kp [] w1 W' → (W'.cell? ⟨w.heap.size, 0, none⟩ = some (.int .i64 c.n) ∧ W'.cell? ⟨w.heap.size, 1, none⟩ = some (.int .i64 c.s) ∧ W'.cell? ⟨w.heap.size, 2, none⟩ = some (.int .i64 c.k) ∧ W'.cell? ⟨w.heap.size, 3, none⟩ = some (.slice c.ta c.tl.length c.tc) ∧ W'.cell? ⟨w.heap.size, 4, none⟩ = some (.slice c.pa c.pl.length c.pc) ∧ W'.cell? ⟨g, o + s * 2, none⟩ = some (.int .i64 (x.1 : Int)) ∧ W'.cell? ⟨g, o + s * 2 + 1, none⟩ = some (.int .i64 (x.2 : Int)))) := fun W' k => by
    have h1 := BC.out.kept (K1.out.trans k (by simp))
    obtain ⟨g2, o2, e2, y0, y1⟩ := sgAt2 (HSS.out.keptNew k) hxg;injection e2 with e2
    injection e2 with e3 e4
    subst e3 e4;exact ⟨h1.get 0 _ rfl, h1.get 1 _ rfl, h1.get 2 _ rfl, h1.get 3 _ rfl, h1.get 4 _ rfl, y0, y1⟩
   have i1 : (0 : Int) ≤ (s : Int) := by omega
   have i2 : (s : Int) < (N : Int) := by omega
   have i3 : (s : Int) + 1 ≤ 9223372036854775807 := by omega
   have hou := hid (ofTo_succ c M node s x hxs hx2)
   have aN := hid (fun W' (k : Kp [] w1 W') => rNodes c (x.1 : Int) (x.2 : Int) W' (HC.out.kept ((KW.out.trans K1.out (by simp)).trans k (by simp))) HN.out.1 HN.out.2)
   simp only [Cg.v] at aN;have hnl := hid (ndsC_len c (x.1 : Int) (x.2 : Int))
   have hk8 : Hid (c.k.toNat ≤ 8) := by have := (cntd_iff c).1 HN.out.1; exact hid (by omega)
   have hll : l.length ≤ 1000000 := by have := ofTo_len c M node s; rw [hl.out]; omega
   clear hx hxg hxs hx2;go_wp2_with fail;refine wp_region_held_drew (S := fun W' => W'.cell? ⟨w.heap.size, 0, none⟩ = some (.int .i64 c.n) ∧ W'.cell? ⟨w.heap.size, 1, none⟩ = some (.int .i64 c.s) ∧ W'.cell? ⟨w.heap.size, 2, none⟩ = some (.int .i64 c.k) ∧ W'.cell? ⟨w.heap.size, 3, none⟩ = some (.slice c.ta c.tl.length c.tc) ∧ W'.cell? ⟨w.heap.size, 4, none⟩ = some (.slice c.pa c.pl.length c.pc) ∧ W'.cell? ⟨g, o + s * 2, none⟩ = some (.int .i64 (x.1 : Int)) ∧ W'.cell? ⟨g, o + s * 2 + 1, none⟩ = some (.int .i64 (x.2 : Int))) (by kernel_rfl) ?_ (fun hHeld => ?_)
   ·exact hF.out _ (hw.out.2.2.trans (Kp.refl [] wr).drew (by simp))
   have KD : Hid (Kp [] wr wr.drew) := hid (Kp.refl _ _).drew
   generalize wr.drew = Wd at *
   have K1D := hid (hw.out.2.2.trans KD.out (by simp))
   refine tkH ?_ 0 rfl (by kernel_rfl) (fun _ _ _ h => h) (by rfl) ?_ ‹_› ?_;rotate_left
   ·intro w h; (try dsimp only at h); go_simp <;> with_reducible rfl
   (try simp only [Act.put, lz]);refine tkH ?_ 1 rfl (by kernel_rfl) (fun _ _ _ h => h) (by rfl) ?_ ‹_› ?_;rotate_left
   ·intro w h; (try dsimp only at h); go_simp <;> with_reducible rfl
   (try simp only [Act.put, lz]);refine tkH ?_ 2 rfl (by kernel_rfl) (fun _ _ _ h => h) (by rfl) ?_ ‹_› ?_;rotate_left
   ·intro w h; (try dsimp only at h); go_simp <;> with_reducible rfl
   (try simp only [Act.put, lz]);refine tkH ?_ 3 rfl (by kernel_rfl) (fun _ _ _ h => h) (by rfl) ?_ ‹_› ?_;rotate_left
   ·intro w h; (try dsimp only at h); go_simp <;> with_reducible rfl
   (try simp only [Act.put, lz]);refine tkH ?_ 4 rfl (by kernel_rfl) (fun _ _ _ h => h) (by rfl) ?_ ‹_› ?_;rotate_left
   ·intro w h; (try dsimp only at h); go_simp <;> with_reducible rfl
   (try simp only [Act.put, lz]);refine tkH ?_ 6 rfl (by kernel_rfl) (fun _ _ _ h => h) (by rfl) ?_ ‹_› ?_;rotate_left
   ·intro w h; (try dsimp only at h); go_simp <;> with_reducible rfl
   (try simp only [Act.put, lz]);refine rdH 5 (by kernel_rfl) rfl fun K hK => ?_
   go_simp;refine (aN.out Wd K1D.out).mono ?_;rintro e wn ⟨na, nc, rfl, hns, hnc, hn8, kn⟩;(try go_wp2_with fail);refine hK.out _ _ ?_ (fun hHeld => ?_)
   ·exact hF.out _ (K1D.out.trans kn (by simp))
   clear hK K;(try simp only [Act.put, lz]);have KN := hid (KD.out.trans kn (by simp))
   have aC := hid (rIn na nc (ndsC c (x.1 : Int) (x.2 : Int)) node wn hns (by have := hnl.out; have := hk8.out; omega))
   clear kn hns;obtain ⟨X, hX⟩ : ∃ X, Hid (decide (node ∈ ndsC c (x.1 : Int) (x.2 : Int)) = X) := ⟨_, hid rfl⟩
   rw [hX.out] at aC;refine rdH 7 (by kernel_rfl) rfl fun K hK => ?_
   go_simp;refine aC.out.mono ?_;rintro e wc ⟨rfl, kc⟩;(try go_wp2_with fail);refine hK.out _ _ ?_ (fun hHeld => ?_)
   ·exact hF.out _ (hw.out.2.2.trans (KN.out.trans kc (by simp)) (by simp))
   clear hK K;(try simp only [Act.put, lz]);have KC := hid (KN.out.trans kc (by simp))
   clear kc aC;refine tkH ?_ 8 rfl (by kernel_rfl) (fun _ _ _ h => h) (by rfl) ?_ ‹_› ?_;rotate_left
   ·intro w h; (try dsimp only at h); go_simp <;> with_reducible rfl
   (try simp only [Act.put, lz]);refine wpAnyH_done (by kernel_rfl) ?_ _
   obtain ⟨_, _, _, _, _, f0, f1⟩ := hF.out _ (hw.out.2.2.trans KC.out (by simp))
   clear hHeld hF
   cases X with
   | false =>
    have hm : ¬ node ∈ ndsC c (x.1 : Int) (x.2 : Int) := by simpa using hX.out
    have hl2 : Hid (l = ofTo c M node (s + 1)) := by show _ = _; rw [hou.out, if_neg hm, List.append_nil]; exact hl.out
    have hw2 : Hid (SgE.Row wc (.slice a l.length cp) l ∧ (∀ z ∈ blk a, w1.heap.size ≤ z) ∧ Kp [] w1 wc) := hid ⟨hw.out.1.keptNew KC.out, hw.out.2.1, hw.out.2.2.trans KC.out (by simp)⟩
    clear hm hou hl hw hX;go_wp2_with fail;exact ⟨⟨s + 1, a, cp, l, by omega, by go_num, rfl, hl2, hw2⟩, by simp [intOf]; omega⟩
   | true =>
    have hm : node ∈ ndsC c (x.1 : Int) (x.2 : Int) := by simpa using hX.out
    have zc := KC.out.size
    have z1 := hw.out.2.2.size
    obtain ⟨a', cp', W', hrun, hrow', hnw', k'⟩ := appSg wc a cp l x w1.heap.size (hw.out.1.keptNew KC.out) hw.out.2.1 (by omega) hll
    have hl2 : Hid (l ++ [x] = ofTo c M node (s + 1)) := by show _ = _; rw [hou.out, if_pos hm, ← hl.out]
    have hw2 : Hid (SgE.Row W' (.slice a' (l ++ [x]).length cp') (l ++ [x]) ∧ (∀ z ∈ blk a', w1.heap.size ≤ z) ∧ Kp [] w1 W') := hid ⟨hrow', hnw', (hw.out.2.2.trans KC.out (by simp)).trans k' (fun z hz => .inr (hw.out.2.1 z hz))⟩
    obtain ⟨L2, hL2⟩ : ∃ L2, Hid (l ++ [x] = L2) := ⟨_, hid rfl⟩
    rw [hL2.out] at hl2 hw2 hrun;clear hrow' hnw' k' hm hou hl hw hX;go_wp2_with (first | (refine wpAppRun rfl _ _ 48 48 rfl _ _ _ rfl rfl hrun ?_) | fail)
    exact ⟨⟨s + 1, a', cp', L2, by omega, by go_num, rfl, hl2, hw2⟩, by simp [intOf]; omega⟩
  ·have e : s = N := by omega
   subst e;go_wp2_with fail;go_ret;obtain ⟨_, _, e, hsee, _, hcp, _⟩ := hw.out.1.see
   cases e
   exact ⟨a, cp, by rw [← hl.out]; rfl, by rw [← hl.out]; exact hsee, by rw [← hl.out]; exact hcp, (KW.out.trans K1.out (by simp)).trans hw.out.2.2 (by simp)⟩
theorem has_take (l : List Col) (m : Nat) (h : m < l.length) (nm : ByteArray) : hasN (l.take (m + 1)) nm = (hasN (l.take m) nm || (l[m].nm.toList == nm.toList)) := by
 unfold hasN
 rw [← List.take_append_getElem h, List.any_append];simp
theorem has_more (l : List Col) (m j : Nat) (h : m ≤ j) (nm : ByteArray) (ht : hasN (l.take m) nm = true) : hasN (l.take j) nm = true := by
 simp only [hasN, List.any_eq_true] at ht ⊢;obtain ⟨x, hx, hx2⟩ := ht;refine ⟨x, ?_, hx2⟩;rw [show m = min m j by omega, ← List.take_take] at hx
 exact List.mem_of_mem_take hx
theorem keptK_iff (k : Int) : keptK k = (decide (1 ≤ k) && decide (k ≤ 3)) := by
 unfold keptK
 by_cases h1 : k = 1
 ·subst h1; rfl
 by_cases h2 : k = 2
 ·subst h2; rfl
 by_cases h3 : k = 3
 ·subst h3; rfl
 have e : (k == 1 || (k == 2 || k == 3)) = false := by simp [h1, h2, h3]
 rw [e]
 by_cases h4 : 1 ≤ k
 ·rw [show decide (k ≤ 3) = false by simp; omega]; simp
 ·rw [show decide (1 ≤ k) = false by simpa using h4]; simp
theorem cRefTable (nm : ByteArray) (a : Option Addr) (ca : Nat) (l : List Col) (w : World) (ha : Cols w a l) (hl : l.length ≤ ca) (hm : ca ≤ 9223372036854775807) :
  Calls Tryz.prog 30 #[.agg #[.string nm, .slice a l.length ca]] w fun e w' => e = .returned (.int .i64 (tableV nm l)) ∧ Kp [] w w' := by
 have bT := Box2.new w (.string nm) (.slice a l.length ca) 77
 have kW : Kp [] w (w.alloc (.cells #[.string nm, .slice a l.length ca] 77)) := (Kp.refl _ _).alloc _
 have hN := cRefNamed nm
 obtain ⟨N, HN⟩ : ∃ N : Bool, Hid (namedV nm = N) := ⟨_, rfl⟩
 rw [HN.out] at hN
 cases N
 ·have HV : Hid (tableV nm l = 20) := by show _ = _; unfold tableV; rw [HN.out]; rfl
  go_enter Tryz.func30, Tryz.ntmps30
  go_wp2_with fail;refine (hN _).mono ?_;rintro e w' ⟨rfl, rfl⟩;go_wp2_with fail;go_ret;exact ⟨by rw [HV.out]; rfl, kW⟩
 by_cases h0 : l.length = 0
 ·have HV : Hid (tableV nm l = 20) := by show _ = _; unfold tableV; rw [HN.out, h0]; rfl
  have e0 : ((l.length : Int) == 0) = true := by simp [h0]
  clear h0;go_enter Tryz.func30, Tryz.ntmps30
  go_wp2_with fail;refine (hN _).mono ?_;rintro e w' ⟨rfl, rfl⟩;go_wp2_with fail;go_ret;exact ⟨by rw [HV.out]; rfl, kW⟩
 have e0 : ((l.length : Int) == 0) = false := by simpa using h0
 by_cases h8 : 8 < l.length
 ·have HV : Hid (tableV nm l = 20) := by show _ = _; unfold tableV; rw [HN.out, show decide (l.length ≤ 8) = false by simpa using h8]; simp
  go_enter Tryz.func30, Tryz.ntmps30
  go_wp2_with fail;refine (hN _).mono ?_;rintro e w' ⟨rfl, rfl⟩;go_wp2_with fail;go_ret;exact ⟨by rw [HV.out]; rfl, kW⟩
 have HT : Hid (tableV nm l = if colsV l then 0 else 20) := by
  show _ = _
  unfold tableV
  rw [HN.out, show decide (l.length ≤ 8) = true by simpa using h8, show decide (l.length ≠ 0) = true by simpa using h0]
  rfl
 go_enter Tryz.func30, Tryz.ntmps30
 go_wp2_with fail;refine (hN _).mono ?_;rintro e w' ⟨rfl, rfl⟩;go_wp2_with fail;go_loopw [4] (fun i wn => ∃ j : Nat, j ≤ l.length ∧ i = .int .i64 j ∧ Upto l j ∧ Box2 wn w.heap.size (.string nm) (.slice a l.length ca) ∧ Kp [] w wn) (fun i _ => l.length - (intOf i).toNat)
 case atStart => exact ⟨0, Nat.zero_le _, rfl, fun i hi => by omega, bT, kW⟩
 case round =>
  obtain ⟨j, hj, rfl, hup, hbx, hk⟩ := hrel;have q0 := hbx.c0; have q1 := hbx.c1; have ql := hbx.lt
  by_cases hjm : j < l.length
  ·obtain ⟨g, o, rfl, a0, a1, a2⟩ := (ha.kept hk).at j hjm
   have hca := hid (colAt_eq l j hjm)
   obtain ⟨x, Hx⟩ : ∃ x : Col, Hid (l[j] = x) := ⟨l[j], show l[j] = l[j] from rfl⟩
   rw [Hx.out] at a0 a1 a2 hca;obtain ⟨xn, xk, xz⟩ := x;dsimp only at a0 a1 a2;have h1 := cRefNamed xn
   obtain ⟨N, HN⟩ : ∃ N : Bool, Hid (namedV xn = N) := ⟨_, rfl⟩
   rw [HN.out] at h1;have hC : Hid (colAt l j = (N && (keptK xk && !hasN (l.take j) xn))) := by show _ = _; rw [hca.out]; simp only [HN.out]
   clear hca HN
   cases N
   ·have HV : Hid (tableV nm l = 20) := by show _ = _; rw [HT.out, colsV_false l j hjm hC.out]; rfl
    go_wp2_with fail;refine (h1 _).mono ?_;rintro e w' ⟨rfl, rfl⟩;go_wp2_with fail;go_ret;exact ⟨by rw [HV.out]; rfl, hk⟩
   by_cases hk1 : 1 ≤ xk
   ·by_cases hk3 : xk ≤ 3
    ·have hC2 : Hid (colAt l j = !hasN (l.take j) xn) := by show _ = _; rw [hC.out, keptK_iff, show decide (1 ≤ xk) = true by simpa using hk1, show decide (xk ≤ 3) = true by simpa using hk3]; rfl
     clear hC;go_wp2_with fail;refine (h1 _).mono ?_;rintro e w' ⟨rfl, rfl⟩;go_wp2_with fail;go_loopw [5] (fun i wn => ∃ m : Nat, m ≤ j ∧ i = .int .i64 m ∧ Hid (hasN (l.take m) xn = false) ∧ Box2 wn w.heap.size (.string nm) (.slice (some ⟨g, o, none⟩) l.length ca) ∧ Kp [] w wn) (fun i _ => j - (intOf i).toNat)
     case atStart => exact ⟨0, Nat.zero_le _, rfl, rfl, hbx, hk⟩
     case round =>
      obtain ⟨m, hm', rfl, hh, hbx', hk'⟩ := hrel;have q0' := hbx'.c0; have q1' := hbx'.c1; have ql' := hbx'.lt
      clear q0 q1 ql a0 a1 a2
      by_cases hmj : m < j
      ·have hml : m < l.length := by omega
       obtain ⟨g', o', hgo, b0, b1, b2⟩ := (ha.kept hk').at m hml;obtain ⟨g2, o2, hgo2, c0, c1, c2⟩ := (ha.kept hk').at j hjm
       cases hgo
       cases hgo2
       rw [Hx.out] at c0 c1 c2;have hst := hid (has_take l m hml xn)
       have hmo := hid (has_more l (m + 1) j hmj xn)
       generalize l[m] = y at *
       obtain ⟨yn, yk, yz⟩ := y;dsimp only at b0 b1 b2 c0 c1 c2
       by_cases he : yn.toList = xn.toList
       ·have hee : (yn.toList == xn.toList) = true := by simpa using he
        have HV : Hid (tableV nm l = 20) := by show _ = _; rw [HT.out, colsV_false l j hjm (by rw [hC2.out, hmo.out (by rw [hst.out]; simp [he])]; rfl)]; rfl
        clear he hst hmo;go_wp2_with fail;go_quiet ((fail))
        go_wp2_with fail;go_ret;exact ⟨by rw [HV.out]; rfl, hk'.drewN _⟩
       ·have hee : (yn.toList == xn.toList) = false := by simpa using he
        have hn2 : Hid (hasN (l.take (m + 1)) xn = false) := by show _ = _; rw [hst.out, hh.out]; exact hee
        clear he hst hmo hh;have hbx2 := hbx'
        go_wp2_with fail;go_quiet ((fail))
        go_wp2_with fail;exact ⟨⟨m + 1, by omega, by go_num, hn2, ⟨hbx2.c0, hbx2.c1⟩, hk'.drewN _⟩, by simp [intOf]; omega⟩
      ·have hmm : m = j := by omega
       subst hmm;have hup2 := hup.step (by rw [hC2.out, hh.out]; rfl)
       go_wp2_with fail;exact ⟨⟨m + 1, by omega, by go_num, hup2, hbx', hk'⟩, by simp [intOf]; omega⟩
    ·have HV : Hid (tableV nm l = 20) := by show _ = _; rw [HT.out, colsV_false l j hjm (by rw [hC.out, keptK_iff, show decide (xk ≤ 3) = false by simpa using hk3]; simp)]; rfl
     have e3 : ¬ xk ≤ 3 := hk3
     go_wp2_with fail;refine (h1 _).mono ?_;rintro e w' ⟨rfl, rfl⟩;go_wp2_with fail;go_ret;exact ⟨by rw [HV.out]; rfl, hk⟩
   ·have HV : Hid (tableV nm l = 20) := by show _ = _; rw [HT.out, colsV_false l j hjm (by rw [hC.out, keptK_iff, show decide (1 ≤ xk) = false by simpa using hk1]; simp)]; rfl
    go_wp2_with fail;refine (h1 _).mono ?_;rintro e w' ⟨rfl, rfl⟩;go_wp2_with fail;go_ret;exact ⟨by rw [HV.out]; rfl, hk⟩
  ·have hjl : j = l.length := by omega
   subst hjl;have HV : Hid (tableV nm l = 0) := by show _ = _; rw [HT.out, colsV_true l hup]; rfl
   go_wp2_with fail;go_ret;exact ⟨by rw [HV.out]; rfl, hk⟩
theorem hasT_succ (l : List Tb) (k : Nat) (nm : ByteArray) (h : k < l.length) : hasT (l.take (k + 1)) nm = (hasT (l.take k) nm || (l[k].nm.toList == nm.toList)) := by
 unfold hasT
 have e : l.take (k + 1) = l.take k ++ [l[k]] := by rw [List.take_succ_eq_append_getElem h]
 rw [e, List.any_append, List.any_cons, List.any_nil, Bool.or_false]
theorem hasP_succ (l : List Pj) (k : Nat) (nm : ByteArray) (h : k < l.length) : hasP (l.take (k + 1)) nm = (hasP (l.take k) nm || (l[k].nm.toList == nm.toList)) := by
 unfold hasP
 have e : l.take (k + 1) = l.take k ++ [l[k]] := by rw [List.take_succ_eq_append_getElem h]
 rw [e, List.any_append, List.any_cons, List.any_nil, Bool.or_false]
theorem hasT_more (l : List Tb) (k j : Nat) (nm : ByteArray) (h : k ≤ j) (ht : hasT (l.take k) nm = true) : hasT (l.take j) nm = true := by
 unfold hasT at ht ⊢
 rw [List.any_eq_true] at ht ⊢;obtain ⟨x, hx, hx2⟩ := ht;exact ⟨x, by rw [show k = min k j by omega, ← List.take_take] at hx; exact List.mem_of_mem_take hx, hx2⟩
theorem hasP_more (l : List Pj) (k j : Nat) (nm : ByteArray) (h : k ≤ j) (ht : hasP (l.take k) nm = true) : hasP (l.take j) nm = true := by
 unfold hasP at ht ⊢
 rw [List.any_eq_true] at ht ⊢;obtain ⟨x, hx, hx2⟩ := ht;exact ⟨x, by rw [show k = min k j by omega, ← List.take_take] at hx; exact List.mem_of_mem_take hx, hx2⟩
theorem rCheck (c : Cg) (w : World) (hc : c.ok w) : Calls Tryz.prog 9 #[c.v] w fun e w' => e = .returned (.int .i64 (chkC c)) ∧ Kp [] w w' := by
 obtain ⟨W, eW, kW, zW, bC⟩ := boxC c w;obtain ⟨r, hr⟩ : ∃ r, Hid (chkC c = r) := ⟨_, hid rfl⟩
 rw [hr.out];unfold chkC at hr
 have HC := hid hc
 have htm : c.tl.length ≤ 9223372036854775807 := by have := hc.tcap; have := hc.tmax; omega
 have hpm : c.pl.length ≤ 9223372036854775807 := by have := hc.pcap; have := hc.pmax; omega
 have KW := hid kW
 simp only [Cg.v];obtain ⟨ta, hta⟩ : ∃ ta, Hid (c.ta = ta) := ⟨_, hid rfl⟩
 obtain ⟨pa, hpa⟩ : ∃ pa, Hid (c.pa = pa) := ⟨_, hid rfl⟩
 rw [hta.out, hpa.out] at eW bC;rw [hta.out, hpa.out];have BC := hid bC
 have zW' : w.heap.size < W.heap.size := by omega
 have c0 := bC.get 0 _ rfl; have c1 := bC.get 1 _ rfl; have c2 := bC.get 2 _ rfl; have c3 := bC.get 3 _ rfl; have c4 := bC.get 4 _ rfl
 have hF : Hid (∀ w', Kp [] W w' → (w'.cell? ⟨w.heap.size, 0, none⟩ = some (.int .i64 c.n) ∧ w'.cell? ⟨w.heap.size, 1, none⟩ = some (.int .i64 c.s) ∧ w'.cell? ⟨w.heap.size, 2, none⟩ = some (.int .i64 c.k) ∧ w'.cell? ⟨w.heap.size, 3, none⟩ = some (.slice ta c.tl.length c.tc) ∧ w'.cell? ⟨w.heap.size, 4, none⟩ = some (.slice pa c.pl.length c.pc))) := fun w' k => by
  have h1 := BC.out.kept k
  exact ⟨h1.get 0 _ rfl, h1.get 1 _ rfl, h1.get 2 _ rfl, h1.get 3 _ rfl, h1.get 4 _ rfl⟩
 clear hc kW bC zW
 by_cases n1 : c.n < 1
 ·have d1 : decide (c.n < 1) = true := by simpa using n1
  have hC : cntd c = false := by cases hq : cntd c with
   | false => rfl
   | true => have := (cntd_iff c).1 hq; omega
  have hR : Hid (r = 133) := by have := hr.out; rw [if_pos hC] at this; exact hid this.symm
  clear hC;go_enter Tryz.func9, Tryz.ntmps9
  go_wp2_with fail;go_returns;exact ⟨by rw [hR.out]; rfl, KW.out⟩
 have d1 : decide (c.n < 1) = false := by simpa using n1
 by_cases n2 : 8 < c.n
 ·have d2 : decide (8 < c.n) = true := by simpa using n2
  have hC : cntd c = false := by cases hq : cntd c with
   | false => rfl
   | true => have := (cntd_iff c).1 hq; omega
  have hR : Hid (r = 133) := by have := hr.out; rw [if_pos hC] at this; exact hid this.symm
  clear hC;go_enter Tryz.func9, Tryz.ntmps9
  go_wp2_with fail;go_returns;exact ⟨by rw [hR.out]; rfl, KW.out⟩
 have d2 : decide (8 < c.n) = false := by simpa using n2
 by_cases n3 : c.k < 0
 ·have d3 : decide (c.k < 0) = true := by simpa using n3
  have hC : cntd c = false := by cases hq : cntd c with
   | false => rfl
   | true => have := (cntd_iff c).1 hq; omega
  have hR : Hid (r = 133) := by have := hr.out; rw [if_pos hC] at this; exact hid this.symm
  clear hC;go_enter Tryz.func9, Tryz.ntmps9
  go_wp2_with fail;go_returns;exact ⟨by rw [hR.out]; rfl, KW.out⟩
 have d3 : decide (c.k < 0) = false := by simpa using n3
 by_cases n4 : c.n ≤ c.k
 ·have d4 : decide (c.n ≤ c.k) = true := by simpa using n4
  have hC : cntd c = false := by cases hq : cntd c with
   | false => rfl
   | true => have := (cntd_iff c).1 hq; omega
  have hR : Hid (r = 133) := by have := hr.out; rw [if_pos hC] at this; exact hid this.symm
  clear hC;go_enter Tryz.func9, Tryz.ntmps9
  go_wp2_with fail;go_returns;exact ⟨by rw [hR.out]; rfl, KW.out⟩
 have d4 : decide (c.n ≤ c.k) = false := by simpa using n4
 by_cases n5 : c.s < 1
 ·have d5 : decide (c.s < 1) = true := by simpa using n5
  have hC : cntd c = false := by cases hq : cntd c with
   | false => rfl
   | true => have := (cntd_iff c).1 hq; omega
  have hR : Hid (r = 133) := by have := hr.out; rw [if_pos hC] at this; exact hid this.symm
  clear hC;go_enter Tryz.func9, Tryz.ntmps9
  go_wp2_with fail;go_returns;exact ⟨by rw [hR.out]; rfl, KW.out⟩
 have d5 : decide (c.s < 1) = false := by simpa using n5
 by_cases n6 : 8 < c.s
 ·have d6 : decide (8 < c.s) = true := by simpa using n6
  have hC : cntd c = false := by cases hq : cntd c with
   | false => rfl
   | true => have := (cntd_iff c).1 hq; omega
  have hR : Hid (r = 133) := by have := hr.out; rw [if_pos hC] at this; exact hid this.symm
  clear hC;go_enter Tryz.func9, Tryz.ntmps9
  go_wp2_with fail;go_returns;exact ⟨by rw [hR.out]; rfl, KW.out⟩
 have d6 : decide (8 < c.s) = false := by simpa using n6
 have hC : cntd c = true := (cntd_iff c).2 (by omega)
 have HN := hid hC
 rw [hC] at hr;clear hC;have hr1 : Hid ((if tabsM c.tl = false then (130 : Int) else if pjsM c = false then 131 else if acM c = false then 132 else if auTo c c.s.toNat c.n.toNat = false then 133 else 0) = r) := by have := hr.out; exact hid (by simpa using this)
 clear hr
 by_cases h0 : c.tl.length = 0
 ·have e0 : ((c.tl.length : Int) == 0) = true := by simp [h0]
  have hT : tabsM c.tl = false := by unfold tabsM; simp [h0]
  have hR : Hid (r = 130) := by have := hr1.out; rw [if_pos hT] at this; exact hid this.symm
  clear hT h0 hr1;go_enter Tryz.func9, Tryz.ntmps9
  go_wp2_with fail;go_returns;exact ⟨by rw [hR.out]; rfl, KW.out⟩
 have e0 : ((c.tl.length : Int) == 0) = false := by simpa using h0
 by_cases h4 : 4 < c.tl.length
 ·have e4 : decide ((4 : Int) < (c.tl.length : Int)) = true := by simp; omega
  have hT : tabsM c.tl = false := by unfold tabsM; simp [show ¬ c.tl.length ≤ 4 by omega]
  have hR : Hid (r = 130) := by have := hr1.out; rw [if_pos hT] at this; exact hid this.symm
  clear hT hr1;go_enter Tryz.func9, Tryz.ntmps9
  go_wp2_with fail;go_returns;exact ⟨by rw [hR.out]; rfl, KW.out⟩
 have e4 : decide ((4 : Int) < (c.tl.length : Int)) = false := by simp; omega
 have hTT : Hid (tabsM c.tl = tabTo c.tl c.tl.length) := by show _ = _; unfold tabsM; simp [h0, show c.tl.length ≤ 4 by omega]
 clear h0;go_enter Tryz.func9, Tryz.ntmps9
 go_wp2_with fail;clear c0 c1 c2 c3 c4 eW;go_loopw [3, 4] (fun iv _ wr => ∃ j : Nat, j ≤ c.tl.length ∧ iv = .int .i64 j ∧ Hid (tabTo c.tl j = true) ∧ Hid (Kp [] W wr)) (fun iv _ _ => c.tl.length - (intOf iv).toNat)
 case atStart => exact ⟨0, Nat.zero_le _, rfl, hid rfl, hid (Kp.refl _ _)⟩
 case round =>
  obtain ⟨j, hj, rfl, hst, kr⟩ := hrel;obtain ⟨c0, c1, c2, c3, c4⟩ := hF.out _ kr.out;have KR := hid (KW.out.trans kr.out (by simp))
  by_cases hjl : j < c.tl.length
  ·obtain ⟨g, o, eg, _⟩ := tbAt (HC.out.ts.keptNew KR.out) (j := j) (t := c.tl[j]) (by simp [hjl])
   rw [hta.out] at eg;subst eg
   have htx : Hid (∀ (k : Nat) (h : k < c.tl.length) w', Kp [] w w' → w'.cell? ⟨g, o + k * 2, none⟩ = some (.string c.tl[k].nm) ∧ w'.cell? ⟨g, o + k * 2 + 1, none⟩ = some (.slice c.tl[k].a c.tl[k].l.length c.tl[k].c)) := fun k h w' hk => by
    obtain ⟨g2, o2, e2, h1⟩ := tbAt (HC.out.ts.keptNew hk) (j := k) (t := c.tl[k]) (by simp [h])
    rw [hta.out] at e2;injection e2 with e2
    injection e2 with e3 e4
    subst e3 e4;exact h1
   have hsu := hid (tabTo_succ c.tl j hjl)
   have hmo := hid (tabTo_mono c.tl (j + 1) c.tl.length (by omega))
   have hto := hid (HC.out.tok _ (List.getElem_mem hjl))
   have hme := hid (fun k (h : k ≤ j) => hasT_more c.tl k j c.tl[j].nm h)
   have hss := hid (fun k (h : k < c.tl.length) => hasT_succ c.tl k c.tl[j].nm h)
   have htj := hid (htx.out j hjl)
   have i1 : (0 : Int) ≤ (j : Int) := by omega
   have i2 : (j : Int) < (c.tl.length : Int) := by omega
   have i3 : (j : Int) + 1 ≤ 9223372036854775807 := by omega
   rw [hst.out] at hsu;generalize c.tl[j] = t at *
   obtain ⟨x0, x1⟩ := htj.out _ KR.out;have aT := hid (cRefTable t.nm t.a t.c t.l wr (hto.out.kept KR.out).cols hto.out.cap hto.out.max)
   obtain ⟨V, hV⟩ : ∃ V, Hid (tableV t.nm t.l = V) := ⟨_, hid rfl⟩
   rw [hV.out] at aT hsu
   have hRf : Hid (tabTo c.tl (j + 1) = false → r = 130) := fun h => by
    have := hr1.out
    rw [if_pos (by rw [hTT.out]; exact hmo.out h)] at this
    exact this.symm
   go_wp2_with fail;refine aT.out.mono ?_;rintro e w2 ⟨rfl, k2⟩;have K2 := hid (kr.out.trans k2 (by simp))
   clear k2 aT x0 x1 c0 c1 c2 c3 c4
   by_cases hv : V = 0
   rotate_left
   ·have dv : (V != 0) = true := by simpa using hv
    have hR := hid (hRf.out (by rw [hsu.out]; simp [hv]))
    clear hsu hv hRf;go_wp2_with fail;go_ret;exact ⟨by rw [hR.out]; rfl, KW.out.trans K2.out (by simp)⟩
   have dv : (V != 0) = false := by simpa using hv
   have hsu2 : Hid (tabTo c.tl (j + 1) = !hasT (c.tl.take j) t.nm) := by show _ = _; rw [hsu.out, hv]; simp
   clear hsu hv;go_wp2_with fail;go_loopw [4] (fun kv wn => ∃ k : Nat, k ≤ j ∧ kv = .int .i64 k ∧ Hid (hasT (c.tl.take k) t.nm = false) ∧ Hid (Kp [] W wn)) (fun kv _ => j - (intOf kv).toNat)
   case atStart => exact ⟨0, Nat.zero_le _, rfl, hid rfl, K2⟩
   case round =>
    obtain ⟨k, hk, rfl, hin, kn⟩ := hrel;obtain ⟨c0, c1, c2, c3, c4⟩ := hF.out _ kn.out;have KN := hid (KW.out.trans kn.out (by simp))
    by_cases hkl : k < j
    ·have hkt : k < c.tl.length := by omega
     obtain ⟨y0, y1⟩ := htx.out k hkt _ KN.out;obtain ⟨x0, x1⟩ := htj.out _ KN.out;have hs3 := hid (hss.out k hkt)
     have hm3 := hid (hme.out (k + 1) (by omega))
     have k1 : (0 : Int) ≤ (k : Int) := by omega
     have k2 : (k : Int) < (c.tl.length : Int) := by omega
     have k3 : (k : Int) < (j : Int) := by omega
     have k4 : (k : Int) + 1 ≤ 9223372036854775807 := by omega
     generalize c.tl[k] = u at *
     obtain ⟨B, hB⟩ : ∃ B, (u.nm.toList == t.nm.toList) = B := ⟨_, rfl⟩
     rw [hin.out, hB] at hs3
     cases B with
     | true =>
      have hR := hid (hRf.out (by rw [hsu2.out, hm3.out (by rw [hs3.out]; rfl)]; rfl))
      go_wp2_with fail;go_quiet ((fail))
      go_wp2_with fail;go_ret;exact ⟨by rw [hR.out]; rfl, KN.out.drewN _⟩
     | false =>
      have hin2 : Hid (hasT (c.tl.take (k + 1)) t.nm = false) := by show _ = _; rw [hs3.out]; rfl
      go_wp2_with fail;go_quiet ((fail))
      go_wp2_with fail;exact ⟨⟨k + 1, by omega, by go_num, hin2, hid (kn.out.drewN _)⟩, by simp [intOf]; omega⟩
    ·have e : k = j := by omega
     have e2 : decide ((k : Int) < (j : Int)) = false := by simp; omega
     have hsu3 : Hid (tabTo c.tl (j + 1) = true) := by show _ = _; rw [hsu2.out, ← e, hin.out]; rfl
     go_wp2_with fail;exact ⟨⟨j + 1, by omega, by go_num, hsu3, kn⟩, by simp [intOf]; omega⟩
  ·have e : j = c.tl.length := by omega
   have hTA : tabsM c.tl = true := by rw [hTT.out, ← e]; exact hst.out
   subst e;have hr2 : Hid ((if pjsM c = false then (131 : Int) else if acM c = false then 132 else if auTo c c.s.toNat c.n.toNat = false then 133 else 0) = r) := by have := hr1.out; rw [hTA] at this; exact hid (by simpa using this)
   have HTA := hid hTA
   clear hTA hr1 hst
   by_cases h8 : 8 < c.pl.length
   ·have e8 : decide ((8 : Int) < (c.pl.length : Int)) = true := by simp; omega
    have hP : pjsM c = false := by unfold pjsM; simp [show ¬ c.pl.length ≤ 8 by omega]
    have hR : Hid (r = 131) := by have := hr2.out; rw [if_pos hP] at this; exact hid this.symm
    clear hP hr2;go_wp2_with fail;go_ret;exact ⟨by rw [hR.out]; rfl, KR.out⟩
   have e8 : decide ((8 : Int) < (c.pl.length : Int)) = false := by simp; omega
   have hPP : Hid (pjsM c = pjsTo c c.pl.length) := by show _ = _; unfold pjsM; simp [show c.pl.length ≤ 8 by omega]
   have kr0 := kr
   clear kr;go_wp2_with fail;clear c0 c1 c2 c3 c4;go_loopw [5, 6, 7] (fun iv _ _ wr => ∃ j : Nat, j ≤ c.pl.length ∧ iv = .int .i64 j ∧ Hid (pjsTo c j = true) ∧ Hid (Kp [] W wr)) (fun iv _ _ _ => c.pl.length - (intOf iv).toNat)
   case atStart => exact ⟨0, Nat.zero_le _, rfl, hid rfl, kr0⟩
   case round =>
    obtain ⟨j, hj, rfl, hst, kr⟩ := hrel;clear kr0 KR;obtain ⟨c0, c1, c2, c3, c4⟩ := hF.out _ kr.out;have KR := hid (KW.out.trans kr.out (by simp))
    by_cases hjl : j < c.pl.length
    ·obtain ⟨g, o, eg, _⟩ := pjAt (HC.out.ps.keptNew KR.out) (j := j) (p := c.pl[j]) (by simp [hjl])
     rw [hpa.out] at eg;subst eg
     have hpx : Hid (∀ (k : Nat) (h : k < c.pl.length) w', Kp [] w w' → (w'.cell? ⟨g, o + k * 6, none⟩ = some (.string c.pl[k].nm) ∧ w'.cell? ⟨g, o + k * 6 + 1, none⟩ = some (.int .i64 c.pl[k].tb) ∧ w'.cell? ⟨g, o + k * 6 + 2, none⟩ = some (.slice c.pl[k].ca c.pl[k].cl.length c.pl[k].cc) ∧ w'.cell? ⟨g, o + k * 6 + 3, none⟩ = some (.slice c.pl[k].sa c.pl[k].sl.length c.pl[k].sc) ∧ w'.cell? ⟨g, o + k * 6 + 4, none⟩ = some (.int .i64 c.pl[k].by_) ∧ w'.cell? ⟨g, o + k * 6 + 5, none⟩ = some (.int .i64 c.pl[k].sh))) := fun k h w' hk => by
      obtain ⟨g2, o2, e2, h1⟩ := pjAt (HC.out.ps.keptNew hk) (j := k) (p := c.pl[k]) (by simp [h])
      rw [hpa.out] at e2;injection e2 with e2
      injection e2 with e3 e4
      subst e3 e4;exact h1
     have hsu := hid (pjsTo_succ c j hjl)
     have hmo := hid (pjsTo_mono c (j + 1) c.pl.length (by omega))
     have hpo := hid (HC.out.pok _ (List.getElem_mem hjl))
     have hme := hid (fun k (h : k ≤ j) => hasP_more c.pl k j c.pl[j].nm h)
     have hss := hid (fun k (h : k < c.pl.length) => hasP_succ c.pl k c.pl[j].nm h)
     have hpj := hid (hpx.out j hjl)
     have i1 : (0 : Int) ≤ (j : Int) := by omega
     have i2 : (j : Int) < (c.pl.length : Int) := by omega
     have i3 : (j : Int) + 1 ≤ 9223372036854775807 := by omega
     rw [hst.out] at hsu;generalize c.pl[j] = p at *
     have hF2 : Hid (∀ W', Kp [] W W' → (W'.cell? ⟨w.heap.size, 0, none⟩ = some (.int .i64 c.n) ∧ W'.cell? ⟨w.heap.size, 1, none⟩ = some (.int .i64 c.s) ∧ W'.cell? ⟨w.heap.size, 2, none⟩ = some (.int .i64 c.k) ∧ W'.cell? ⟨w.heap.size, 3, none⟩ = some (.slice ta c.tl.length c.tc) ∧ W'.cell? ⟨w.heap.size, 4, none⟩ = some (.slice (some ⟨g, o, none⟩) c.pl.length c.pc) ∧ W'.cell? ⟨g, o + j * 6, none⟩ = some (.string p.nm) ∧ W'.cell? ⟨g, o + j * 6 + 1, none⟩ = some (.int .i64 p.tb) ∧ W'.cell? ⟨g, o + j * 6 + 2, none⟩ = some (.slice p.ca p.cl.length p.cc) ∧ W'.cell? ⟨g, o + j * 6 + 3, none⟩ = some (.slice p.sa p.sl.length p.sc) ∧ W'.cell? ⟨g, o + j * 6 + 4, none⟩ = some (.int .i64 p.by_) ∧ W'.cell? ⟨g, o + j * 6 + 5, none⟩ = some (.int .i64 p.sh))) := fun W' k => by
      obtain ⟨b0, b1, b2, b3, b4⟩ := hF.out _ k;obtain ⟨x0, x1, x2, x3, x4, x5⟩ := hpj.out _ (KW.out.trans k (by simp))
      exact ⟨b0, b1, b2, b3, b4, x0, x1, x2, x3, x4, x5⟩
     have aT := hid (fun w' (k : Kp [] w w') => rProj c p w' (HC.out.kept k) (hpo.out.kept k))
     obtain ⟨V, hV⟩ : ∃ V, Hid (pjM c p = V) := ⟨_, hid rfl⟩
     rw [hV.out] at aT hsu;simp only [Cg.v, Pj.v] at aT;rw [hta.out, hpa.out] at aT
     have hRf : Hid (pjsTo c (j + 1) = false → r = 131) := fun h => by
      have := hr2.out
      rw [if_pos (by rw [hPP.out]; exact hmo.out h)] at this
      exact this.symm
     clear hV;go_wp2_with fail;refine wp_region_held_drew (S := fun W' => W'.cell? ⟨w.heap.size, 0, none⟩ = some (.int .i64 c.n) ∧ W'.cell? ⟨w.heap.size, 1, none⟩ = some (.int .i64 c.s) ∧ W'.cell? ⟨w.heap.size, 2, none⟩ = some (.int .i64 c.k) ∧ W'.cell? ⟨w.heap.size, 3, none⟩ = some (.slice ta c.tl.length c.tc) ∧ W'.cell? ⟨w.heap.size, 4, none⟩ = some (.slice (some ⟨g, o, none⟩) c.pl.length c.pc) ∧ W'.cell? ⟨g, o + j * 6, none⟩ = some (.string p.nm) ∧ W'.cell? ⟨g, o + j * 6 + 1, none⟩ = some (.int .i64 p.tb) ∧ W'.cell? ⟨g, o + j * 6 + 2, none⟩ = some (.slice p.ca p.cl.length p.cc) ∧ W'.cell? ⟨g, o + j * 6 + 3, none⟩ = some (.slice p.sa p.sl.length p.sc) ∧ W'.cell? ⟨g, o + j * 6 + 4, none⟩ = some (.int .i64 p.by_) ∧ W'.cell? ⟨g, o + j * 6 + 5, none⟩ = some (.int .i64 p.sh)) (by kernel_rfl) ?_ (fun hHeld => ?_)
     ·exact hF2.out _ (kr.out.trans (Kp.refl [] wr).drew (by simp))
     have KD : Hid (Kp [] W wr.drew) := hid (kr.out.trans (Kp.refl [] wr).drew (by simp))
     generalize wr.drew = Wd at *
     clear c0 c1 c2 c3 c4;refine tkH ?_ 0 rfl (by kernel_rfl) (fun _ _ _ h => h) (by rfl) ?_ ‹_› ?_;rotate_left
     ·intro w h; (try dsimp only at h); go_simp <;> with_reducible rfl
     (try simp only [Act.put, lz]);refine tkH ?_ 1 rfl (by kernel_rfl) (fun _ _ _ h => h) (by rfl) ?_ ‹_› ?_;rotate_left
     ·intro w h; (try dsimp only at h); go_simp <;> with_reducible rfl
     (try simp only [Act.put, lz]);refine tkH ?_ 2 rfl (by kernel_rfl) (fun _ _ _ h => h) (by rfl) ?_ ‹_› ?_;rotate_left
     ·intro w h; (try dsimp only at h); go_simp <;> with_reducible rfl
     (try simp only [Act.put, lz]);refine tkH ?_ 3 rfl (by kernel_rfl) (fun _ _ _ h => h) (by rfl) ?_ ‹_› ?_;rotate_left
     ·intro w h; (try dsimp only at h); go_simp <;> with_reducible rfl
     (try simp only [Act.put, lz]);refine tkH ?_ 4 rfl (by kernel_rfl) (fun _ _ _ h => h) (by rfl) ?_ ‹_› ?_;rotate_left
     ·intro w h; (try dsimp only at h); go_simp <;> with_reducible rfl
     (try simp only [Act.put, lz]);refine tkH ?_ 5 rfl (by kernel_rfl) (fun _ _ _ h => h) (by rfl) ?_ ‹_› ?_;rotate_left
     ·intro w h; (try dsimp only at h); go_simp <;> with_reducible rfl
     (try simp only [Act.put, lz]);refine rdH 6 (by kernel_rfl) rfl fun K hK => ?_
     go_simp;refine (aT.out Wd (KW.out.trans KD.out (by simp))).mono ?_
     rintro e w2 ⟨rfl, k2⟩;(try go_wp2_with fail);refine hK.out _ _ ?_ (fun hHeld => ?_)
     ·exact hF2.out _ (KD.out.trans k2 (by simp))
     clear hK K;(try simp only [Act.put, lz]);have K2 := hid (KD.out.trans k2 (by simp))
     clear k2 aT;refine tkH ?_ 7 rfl (by kernel_rfl) (fun _ _ _ h => h) (by rfl) ?_ ‹_› ?_;rotate_left
     ·intro w h; (try dsimp only at h); go_simp <;> with_reducible rfl
     (try simp only [Act.put, lz]);refine wpAnyH_done (by kernel_rfl) ?_ _
     clear hHeld
     cases V with
     | false =>
      have hR := hid (hRf.out (by rw [hsu.out]; simp))
      clear hsu hRf;go_wp2_with fail;go_ret;exact ⟨by rw [hR.out]; rfl, KW.out.trans K2.out (by simp)⟩
     | true =>
     have hsu2 : Hid (pjsTo c (j + 1) = !hasP (c.pl.take j) p.nm) := by show _ = _; rw [hsu.out]; simp
     clear hsu;go_wp2_with fail;go_loopw [7] (fun kv wn => ∃ k : Nat, k ≤ j ∧ kv = .int .i64 k ∧ Hid (hasP (c.pl.take k) p.nm = false) ∧ Hid (Kp [] W wn)) (fun kv _ => j - (intOf kv).toNat)
     case atStart => exact ⟨0, Nat.zero_le _, rfl, hid rfl, K2⟩
     case round =>
      obtain ⟨k, hk, rfl, hin, kn⟩ := hrel;obtain ⟨c0, c1, c2, c3, c4⟩ := hF.out _ kn.out;have KN := hid (KW.out.trans kn.out (by simp))
      by_cases hkl : k < j
      ·have hkt : k < c.pl.length := by omega
       obtain ⟨y0, _⟩ := hpx.out k hkt _ KN.out;obtain ⟨x0, _⟩ := hpj.out _ KN.out;have hs3 := hid (hss.out k hkt)
       have hm3 := hid (hme.out (k + 1) (by omega))
       have k1 : (0 : Int) ≤ (k : Int) := by omega
       have k2 : (k : Int) < (c.pl.length : Int) := by omega
       have k3 : (k : Int) < (j : Int) := by omega
       have k4 : (k : Int) + 1 ≤ 9223372036854775807 := by omega
       generalize c.pl[k] = u at *
       obtain ⟨B, hB⟩ : ∃ B, (u.nm.toList == p.nm.toList) = B := ⟨_, rfl⟩
       rw [hin.out, hB] at hs3
       cases B with
       | true =>
        have hR := hid (hRf.out (by rw [hsu2.out, hm3.out (by rw [hs3.out]; rfl)]; rfl))
        go_wp2_with fail;go_quiet ((fail))
        go_wp2_with fail;go_ret;exact ⟨by rw [hR.out]; rfl, KN.out.drewN _⟩
       | false =>
        have hin2 : Hid (hasP (c.pl.take (k + 1)) p.nm = false) := by show _ = _; rw [hs3.out]; rfl
        go_wp2_with fail;go_quiet ((fail))
        go_wp2_with fail;exact ⟨⟨k + 1, by omega, by go_num, hin2, hid (kn.out.drewN _)⟩, by simp [intOf]; omega⟩
      ·have e : k = j := by omega
       have e2 : decide ((k : Int) < (j : Int)) = false := by simp; omega
       have hsu3 : Hid (pjsTo c (j + 1) = true) := by show _ = _; rw [hsu2.out, ← e, hin.out]; rfl
       go_wp2_with fail;exact ⟨⟨j + 1, by omega, by go_num, hsu3, kn⟩, by simp [intOf]; omega⟩
    ·have e : j = c.pl.length := by omega
     have hPA : pjsM c = true := by rw [hPP.out, ← e]; exact hst.out
     subst e;have hr3 : Hid ((if acM c = false then (132 : Int) else if auTo c c.s.toNat c.n.toNat = false then 133 else 0) = r) := by have := hr2.out; rw [hPA] at this; exact hid (by simpa using this)
     have HPA := hid hPA
     clear hPA hr2 hst;have kr0 := kr
     clear kr;go_wp2_with fail;clear c0 c1 c2 c3 c4;go_loopw [8, 9] (fun iv _ wr => ∃ j : Nat, j ≤ c.tl.length ∧ iv = .int .i64 j ∧ Hid (acTo c j = true) ∧ Hid (Kp [] W wr)) (fun iv _ _ => c.tl.length - (intOf iv).toNat)
     case atStart => exact ⟨0, Nat.zero_le _, rfl, hid rfl, kr0⟩
     case round =>
      obtain ⟨j, hj, rfl, hst, kr⟩ := hrel;clear kr0 KR;obtain ⟨c0, c1, c2, c3, c4⟩ := hF.out _ kr.out;have KR := hid (KW.out.trans kr.out (by simp))
      by_cases hjl : j < c.tl.length
      ·have hsu := hid (acTo_succ c j hjl)
       have hmo := hid (acTo_mono c (j + 1) c.tl.length (by omega))
       have i1 : (0 : Int) ≤ (j : Int) := by omega
       have i2 : (j : Int) < (c.tl.length : Int) := by omega
       have i3 : (j : Int) + 1 ≤ 9223372036854775807 := by omega
       have aV := hid (rCovered c j wr (HC.out.kept KR.out) hjl (tabsM_all HTA.out _ (List.getElem_mem hjl)) (fun p hp htb y hy => by
        have h3 := (pjsM_all HPA.out).2 p hp
        have h4 := plM_mem (pjM_parts h3).2.2 y hy
        have h5 : manyC c p = (c.tl[j].l.length : Int) := by unfold manyC; rw [htb]; simp [hjl]
        omega))
       rw [hst.out] at hsu;obtain ⟨V, hV⟩ : ∃ V, Hid (cvTo c.pl j (allB c.tl[j]) c.pl.length = V) := ⟨_, hid rfl⟩
       rw [hV.out] at aV hsu;simp only [Cg.v] at aV;rw [hta.out, hpa.out] at aV;clear hV;go_wp2_with fail;refine aV.out.mono ?_;rintro e w2 ⟨rfl, k2⟩;have K2 := hid (kr.out.trans k2 (by simp))
       clear k2 aV c0 c1 c2 c3 c4
       cases V with
       | true =>
        have hsu2 : Hid (acTo c (j + 1) = true) := by show _ = _; rw [hsu.out]; rfl
        go_wp2_with fail;exact ⟨⟨j + 1, by omega, by go_num, hsu2, K2⟩, by simp [intOf]; omega⟩
       | false =>
        have hR : Hid (r = 132) := by
         have := hr3.out
         rw [if_pos (by unfold acM; exact hmo.out (by rw [hsu.out]; rfl))] at this
         exact hid this.symm
        go_wp2_with fail;go_ret;exact ⟨by rw [hR.out]; rfl, KW.out.trans K2.out (by simp)⟩
      ·have e : j = c.tl.length := by omega
       have hAA : acM c = true := by unfold acM; rw [← e]; exact hst.out
       subst e;have hr4 : Hid ((if auTo c c.s.toNat c.n.toNat = false then (133 : Int) else 0) = r) := by have := hr3.out; rw [hAA] at this; exact hid (by simpa using this)
       clear hAA hr3 hst;obtain ⟨N, hN⟩ : ∃ N, Hid (c.n.toNat = N) := ⟨_, hid rfl⟩
       have hNe : c.n = (N : Int) := by have := hN.out; omega
       rw [hN.out] at hr4;have HNe := hid hNe
       have hN8 : N ≤ 8 := by omega
       have kr0 := kr
       have hF3 : Hid (∀ w', Kp [] W w' → w'.cell? ⟨w.heap.size, 0, none⟩ = some (.int .i64 (N : Int))) := fun w' k => by have := (hF.out _ k).1; rw [hNe] at this; exact this
       clear kr hNe;go_wp2_with fail;clear c0 c1 c2 c3 c4;go_loopw [10] (fun iv wr => ∃ j : Nat, j ≤ N ∧ iv = .int .i64 j ∧ Hid (auTo c c.s.toNat j = true) ∧ Hid (Kp [] W wr)) (fun iv _ => N - (intOf iv).toNat)
       case atStart => exact ⟨0, Nat.zero_le _, rfl, hid rfl, kr0⟩
       case round =>
        obtain ⟨j, hj, rfl, hst, kr⟩ := hrel;clear kr0 KR;obtain ⟨c0, c1, c2, c3, c4⟩ := hF.out _ kr.out;have KR := hid (KW.out.trans kr.out (by simp))
        have n0 := hF3.out _ kr.out
        by_cases hjl : j < N
        ·have i1 : (0 : Int) ≤ (j : Int) := by omega
         have i2 : (j : Int) < c.n := by have := HNe.out; omega
         have i3 : (j : Int) + 1 ≤ 9223372036854775807 := by omega
         have hsu := hid (auTo_succ c c.s.toNat j)
         have hmo := hid (auTo_mono c c.s.toNat (j + 1) N (by omega))
         have aO := hid (rOf c (j : Int) c.s.toNat wr (by omega) (HC.out.kept KR.out) HN.out (fun p hp => (pjM_parts ((pjsM_all HPA.out).2 p hp)).2.1) (pjsM_all HPA.out).1)
         simp only [Cg.v] at aO;rw [hta.out, hpa.out] at aO;rw [hst.out] at hsu;clear n0;go_wp2_with fail;refine aO.out.mono ?_;rintro e w2 ⟨oa, ocp, rfl, hs, hl, k2⟩;have K2 := hid (kr.out.trans k2 (by simp))
         clear aO k2 c0 c1 c2 c3 c4;obtain ⟨L0, hL⟩ : ∃ L, Hid (ofC c c.s.toNat (j : Int) = L) := ⟨_, hid rfl⟩
         rw [hL.out] at hsu ⊢
         cases L0 with
         | nil =>
          have hR : Hid (r = 133) := by
           have := hr4.out
           rw [if_pos (hmo.out (by rw [hsu.out]; rfl))] at this
           exact hid this.symm
          simp only [List.length_nil];go_wp2_with fail;go_ret;exact ⟨by rw [hR.out]; rfl, KW.out.trans K2.out (by simp)⟩
         | cons x L0 =>
          have hsu2 : Hid (auTo c c.s.toNat (j + 1) = true) := by show _ = _; rw [hsu.out]; rfl
          have dd : (((x :: L0).length : Int) == 0) = false := by simp; omega
          generalize (x :: L0).length = n at *
          clear hs hl hL hsu;go_wp2_with fail;exact ⟨⟨j + 1, by omega, by go_num, hsu2, K2⟩, by simp [intOf]; omega⟩
        ·have e : j = N := by omega
         have e2 : decide ((j : Int) < c.n) = false := by have := HNe.out; simp; omega
         have e3 : ((j : Int) < c.n) = False := by have := HNe.out; simp; omega
         have e5 : c.n ≤ (j : Int) := by have := HNe.out; omega
         have hR : Hid (r = 0) := by
          have := hr4.out
          rw [← e, hst.out] at this;exact hid (by simpa using this.symm)
         clear n0;go_wp2_with fail;go_ret;exact ⟨by rw [hR.out]; rfl, KR.out⟩
theorem chk_ok {c : Cg} (h : chkC c = 0) : cntd c = true ∧ tabsM c.tl = true ∧ pjsM c = true ∧ c.pl.length ≤ 8 ∧ (∀ p ∈ c.pl, wi p.sh c.n = true) ∧ auTo c c.s.toNat c.n.toNat = true := by
 unfold chkC at h
 cases h1 : cntd c with
 | false => rw [h1] at h; simp at h
 | true =>
 cases h2 : tabsM c.tl with
 | false => rw [h1, h2] at h; simp at h
 | true =>
 cases h3 : pjsM c with
 | false => rw [h1, h2, h3] at h; simp at h
 | true =>
 cases h4 : acM c with
 | false => rw [h1, h2, h3, h4] at h; simp at h
 | true =>
 cases h5 : auTo c c.s.toNat c.n.toNat with
 | false => rw [h1, h2, h3, h4, h5] at h; simp at h
 | true => exact ⟨rfl, rfl, rfl, (pjsM_all h3).1, fun p hp => (pjM_parts ((pjsM_all h3).2 p hp)).2.1, rfl⟩
def arrFu (A : Nat → Vr) (p : Nat → Nat) (n : Nat) : List Vr := (List.range n).map fun k => A (p k)
theorem arr_lenFu (A : Nat → Vr) (p : Nat → Nat) (n : Nat) : (arrFu A p n).length = n := by simp [arrFu]
theorem arr_atFu (A : Nat → Vr) (p : Nat → Nat) (n i : Nat) (h : i < n) : (arrFu A p n)[i]? = some (A (p i)) := by simp [arrFu, h]
theorem arr_swapFu (A : Nat → Vr) (p : Nat → Nat) (n i j : Nat) (hi : i < n) (hj : j < n) : ((arrFu A p n).set i (A (p j))).set j (A (p i)) = arrFu A (fun k => p (swp i j k)) n := by
 apply List.ext_getElem?
 intro k
 by_cases hk : k < n
 ·rw [arr_atFu A _ n k hk, List.getElem?_set, List.getElem?_set]
  simp only [List.length_set, arr_lenFu, hj, hi, if_true]
  by_cases c1 : j = k
  ·subst c1
   rw [if_pos rfl];unfold swp
   split
   ·rename_i h; rw [h]
   ·rw [if_pos rfl]
  ·rw [if_neg c1]
   by_cases c2 : i = k
   ·subst c2
    rw [if_pos rfl];unfold swp
    rw [if_pos rfl]
   ·rw [if_neg c2, arr_atFu A _ n k hk]
    unfold swp
    rw [if_neg (fun h => c2 h.symm), if_neg (fun h => c1 h.symm)]
 ·rw [List.getElem?_eq_none (by simp [arr_lenFu]; omega), List.getElem?_eq_none (by simp [arr_lenFu]; omega)]
def HdFu (W : World) (g o n cap : Nat) (A : Nat → Vr) (p : Nat → Nat) : Prop := VrE.Row W (.slice (some ⟨g, o, none⟩) n cap) (arrFu A p n)
theorem HdFu.cells {W : World} {g o n cap : Nat} {A : Nat → Vr} {p : Nat → Nat} (h : HdFu W g o n cap A p) (i : Nat) (hi : i < n) : (W.cell? ⟨g, o + i * 4, none⟩ = some (.int .u64 (A (p i)).e) ∧ W.cell? ⟨g, o + i * 4 + 1, none⟩ = some (.int .u32 (A (p i)).n) ∧ W.cell? ⟨g, o + i * 4 + 2, none⟩ = some (.slice (A (p i)).a (A (p i)).l.length (A (p i)).c) ∧ W.cell? ⟨g, o + i * 4 + 3, none⟩ = some (.int .u64 (A (p i)).d)) ∧ W.frozen? ⟨g, o + i * 4, none⟩ = false ∧ W.frozen? ⟨g, o + i * 4 + 1, none⟩ = false ∧ W.frozen? ⟨g, o + i * 4 + 2, none⟩ = false ∧ W.frozen? ⟨g, o + i * 4 + 3, none⟩ = false := by
 obtain ⟨a', c', e, hs, _⟩ := El.Row.see h;have e1 := Value.slice.inj e
 obtain ⟨g', o', e2, x0, x1, x2, x3⟩ := vrAt hs (arr_atFu A p n i hi);rw [← e1.1] at e2
 cases e2
 refine ⟨⟨x0, x1, x2, x3⟩, ?_⟩
 rcases h with ⟨e3, _⟩ | ⟨g2, o2, cc, e3, hl, hx, hg, hc, ht⟩
 ·cases e3
 ·have e4 := Value.slice.inj e3
  obtain ⟨e5, e6, e7⟩ := e4
  cases e5
  subst e7;have en : VrE.n = 4 := rfl
  rw [en] at ht;rw [arr_lenFu] at hl;have f : ∀ c, c < 4 → W.frozen? ⟨g, o + (i * 4 + c), none⟩ = false := fun c hc => (ht (i * 4 + c) (by omega)).2
  exact ⟨f 0 (by omega), by rw [Nat.add_assoc]; exact f 1 (by omega), by rw [Nat.add_assoc]; exact f 2 (by omega), by rw [Nat.add_assoc]; exact f 3 (by omega)⟩
def put4Fu (W : World) (g x : Nat) (v : Vr) : World := (((W.setCell ⟨g, x, none⟩ (.int .u64 v.e)).setCell ⟨g, x + 1, none⟩ (.int .u32 v.n)).setCell ⟨g, x + 2, none⟩ (.slice v.a v.l.length v.c)).setCell ⟨g, x + 3, none⟩ (.int .u64 v.d)
theorem put4_kpFu (W : World) (g x : Nat) (v : Vr) : Kp [g] W (put4Fu W g x v) :=
 ((((Kp.refl _ _).setCell (by simp) _).setCell (by simp) _).setCell (by simp) _).setCell (by simp) _
theorem row_put4Fu {W : World} {g o n cap : Nat} {l : List Vr} (h : VrE.Row W (.slice (some ⟨g, o, none⟩) n cap) l) (i : Nat) (hi : i < l.length) (x : Vr) : VrE.Row (put4Fu W g (o + i * 4) x) (.slice (some ⟨g, o, none⟩) n cap) (l.set i x) := by
 have := h.setAt i hi x
 have e : VrE.n = 4 := rfl
 rw [e] at this;exact this
theorem HdFu.swap {W : World} {g o n cap : Nat} {A : Nat → Vr} {p : Nat → Nat} (h : HdFu W g o n cap A p) (i j : Nat) (hi : i < n) (hj : j < n) : HdFu (put4Fu (put4Fu W g (o + i * 4) (A (p j))) g (o + j * 4) (A (p i))) g o n cap A (fun k => p (swp i j k)) := by
 unfold HdFu
 rw [← arr_swapFu A p n i j hi hj];exact row_put4Fu (row_put4Fu h i (by rw [arr_lenFu]; exact hi) _) j (by rw [List.length_set, arr_lenFu]; exact hj) _
theorem put4_cellsFu {W : World} {g o n cap : Nat} {A : Nat → Vr} {p : Nat → Nat} (h : HdFu W g o n cap A p) (i j : Nat) (hi : i < n) (hj : j < n) (x : Vr) : ∀ c, c < 4 → (∃ u, (put4Fu W g (o + i * 4) x).cell? ⟨g, o + j * 4 + c, none⟩ = some u) ∧ (put4Fu W g (o + i * 4) x).frozen? ⟨g, o + j * 4 + c, none⟩ = false := by
 intro c hc
 have h1 := row_put4Fu h i (by rw [arr_lenFu]; exact hi) x
 rcases h1 with ⟨e3, _⟩ | ⟨g2, o2, cc, e3, hl, hx, hg, hcc, ht⟩
 ·cases e3
 ·obtain ⟨e5, e6, e7⟩ := Value.slice.inj e3
  cases e5
  subst e7;have en : VrE.n = 4 := rfl
  rw [en] at ht;rw [List.length_set, arr_lenFu] at hl;have := ht (j * 4 + c) (by omega)
  rw [← Nat.add_assoc] at this;exact ⟨Option.isSome_iff_exists.1 this.1, this.2⟩
theorem HdFu.kept {W W' : World} {g o n cap : Nat} {A : Nat → Vr} {p : Nat → Nat} (h : HdFu W g o n cap A p) (k : Kp [] W W') : HdFu W' g o n cap A p := El.Row.keptNew h k
theorem HdFu.lt {W : World} {g o n cap : Nat} {A : Nat → Vr} {p : Nat → Nat} (h : HdFu W g o n cap A p) : g < W.heap.size := El.Row.lt h g (by simp [own, Value.ownBlock])
theorem cSwapRFu (g o n cap : Nat) (A : Nat → Vr) (p : Nat → Nat) (a b m : Nat) (f : Value) (w : World) (h : HdFu w g o n cap A p) (h1 : a + m ≤ b) (h2 : b + m ≤ n) (hn : n ≤ 4000000000000) (hcap : n ≤ cap) : Calls Tryz.prog 183 #[.slice (some ⟨g, o, none⟩) n cap, .int .i64 (a : Int), .int .i64 (b : Int), .int .i64 (m : Int), f] w fun e w' => (∃ v, e = .returned v) ∧ HdFu w' g o n cap A (fun k => p (swR a b m k)) ∧ Kp [g] w w' := by
 have HH := hid h
 clear h;go_enter Tryz.func183, Tryz.ntmps183
 go_wp2_with fail;go_loopw [10] (fun iv wr => ∃ i : Nat, i ≤ m ∧ iv = .int .i64 (i : Int) ∧ Hid (HdFu wr g o n cap A (fun k => p (swR a b i k)) ∧ Kp [g] w wr)) (fun iv _ => m - (intOf iv).toNat)
 case atStart => exact ⟨0, Nat.zero_le _, rfl, hid ⟨by rw [swR_zero]; exact HH.out, Kp.refl _ _⟩⟩
 case round =>
  obtain ⟨i, hi, rfl, hr⟩ := hrel
  by_cases hlt : i < m
  ·obtain ⟨x, hx⟩ : ∃ x : Nat, x = a + i := ⟨_, rfl⟩
   obtain ⟨y, hy⟩ : ∃ y : Nat, y = b + i := ⟨_, rfl⟩
   have ex : (a : Int) + (i : Int) = (x : Int) := by omega
   have ey : (b : Int) + (i : Int) = (y : Int) := by omega
   have hxn : x < n := by omega
   have hyn : y < n := by omega
   have b1 : (-9223372036854775808 : Int) ≤ (a : Int) + (i : Int) := by omega
   have b2 : (a : Int) + (i : Int) ≤ 9223372036854775807 := by omega
   have b3 : (-9223372036854775808 : Int) ≤ (b : Int) + (i : Int) := by omega
   have b4 : (b : Int) + (i : Int) ≤ 9223372036854775807 := by omega
   have i1 : (0 : Int) ≤ (x : Int) := by omega
   have i2 : (x : Int) < (n : Int) := by omega
   have i3 : (0 : Int) ≤ (y : Int) := by omega
   have i4 : (y : Int) < (n : Int) := by omega
   have i5 : (i : Int) + 1 ≤ 9223372036854775807 := by omega
   have i6 : (i : Int) < (m : Int) := by omega
   have wx : IntKind.i64.wrap ((a : Int) + (i : Int)) = (x : Int) := by rw [ex, IntKind.wrap_i64]; omega
   have wy : IntKind.i64.wrap ((b : Int) + (i : Int)) = (y : Int) := by rw [ey, IntKind.wrap_i64]; omega
   have wx2 : IntKind.i64.wrap (x : Int) = (x : Int) := by rw [IntKind.wrap_i64]; omega
   have wy2 : IntKind.i64.wrap (y : Int) = (y : Int) := by rw [IntKind.wrap_i64]; omega
   obtain ⟨P, hP⟩ : ∃ P, Hid (P = fun k => p (swR a b i k)) := ⟨_, hid rfl⟩
   have hd := hr.out.1
   have kr := hid hr.out.2
   rw [← hP.out] at hd;have HX := hid (And.intro hx hy)
   clear hx hy hr;go_wp2_with fail;refine wp_region_held_drew (S := fun _ => True) (by kernel_rfl) trivial (fun hHeld => ?_)
   have KD : Kp [] wr wr.drew := (Kp.refl [] wr).drew
   have hd2 := hd.kept KD
   generalize wr.drew = Wd at *
   obtain ⟨⟨x0, x1, x2, x3⟩, fx0, fx1, fx2, fx3⟩ := hd2.cells x (by omega)
   obtain ⟨⟨y0, y1, y2, y3⟩, fy0, fy1, fy2, fy3⟩ := hd2.cells y (by omega)
   have hsw := hd2.swap x y (by omega) (by omega)
   have hpc := put4_cellsFu hd2 x y (by omega) (by omega)
   obtain ⟨V1, hV1⟩ : ∃ V, V = A (P x) := ⟨_, rfl⟩
   obtain ⟨V2, hV2⟩ : ∃ V, V = A (P y) := ⟨_, rfl⟩
   rw [← hV1] at x0 x1 x2 x3 hsw;rw [← hV2] at y0 y1 y2 y3 hsw;replace hpc := hpc V2
   obtain ⟨⟨u0, hu0⟩, gu0⟩ := hpc 0 (by omega)
   obtain ⟨⟨u1, hu1⟩, gu1⟩ := hpc 1 (by omega)
   obtain ⟨⟨u2, hu2⟩, gu2⟩ := hpc 2 (by omega)
   obtain ⟨⟨u3, hu3⟩, gu3⟩ := hpc 3 (by omega)
   simp only [Nat.add_zero] at hu0 gu0;obtain ⟨W1, eW1⟩ : ∃ Y, ((((Wd.setCell ⟨g, o + x * 4, none⟩ (.int .u64 V2.e)).setCell ⟨g, o + x * 4 + 1, none⟩ (.int .u32 V2.n)).setCell ⟨g, o + x * 4 + 2, none⟩ (.slice V2.a V2.l.length V2.c)).setCell ⟨g, o + x * 4 + 3, none⟩ (.int .u64 V2.d)) = Y := ⟨_, rfl⟩
   have eP1 : put4Fu Wd g (o + x * 4) V2 = W1 := eW1
   obtain ⟨W2, eW2⟩ : ∃ Y, ((((W1.setCell ⟨g, o + y * 4, none⟩ (.int .u64 V1.e)).setCell ⟨g, o + y * 4 + 1, none⟩ (.int .u32 V1.n)).setCell ⟨g, o + y * 4 + 2, none⟩ (.slice V1.a V1.l.length V1.c)).setCell ⟨g, o + y * 4 + 3, none⟩ (.int .u64 V1.d)) = Y := ⟨_, rfl⟩
   have eP2 : put4Fu W1 g (o + y * 4) V1 = W2 := eW2
   have kP1 : Kp [g] Wd W1 := by rw [← eP1]; exact put4_kpFu _ _ _ _
   have kP2 : Kp [g] W1 W2 := by rw [← eP2]; exact put4_kpFu _ _ _ _
   simp only [eP1] at hu0 hu1 hu2 hu3 gu0 gu1 gu2 gu3 hsw;simp only [eP2] at hsw;have zW1 := kP1.size
   have HSW := hid (And.intro hsw (kP1.trans kP2 (by simp)))
   have zg : g < Wd.heap.size := hd2.lt
   have zg1 : g < W1.heap.size := by omega
   clear hpc hsw eP1 eP2 kP1 kP2 hV1 hV2 zW1;obtain ⟨e1, n1, a1, c1, l1, d1⟩ := V1;obtain ⟨e2, n2, a2, c2, l2, d2⟩ := V2;dsimp only at *
   have hfin : Hid (HdFu W2 g o n cap A (fun k => p (swR a b (i + 1) k)) ∧ Kp [g] w W2) := hid ⟨by
    have := HSW.out.1
    rw [hP.out] at this;rw [swR_succ a b i (by omega), ← HX.out.1, ← HX.out.2]
    exact this, (kr.out.trans KD (by simp)).trans HSW.out.2 (by simp)⟩
   clear hd hd2 HSW hP kr KD HX;refine tkH ?_ 0 rfl (by kernel_rfl) (fun _ _ _ h => h) (by rfl) ?_ ‹_› ?_;rotate_left
   ·intro w h; (try dsimp only at h); go_simp <;> with_reducible rfl
   (try simp only [Act.put, lz]);refine tkH ?_ 1 rfl (by kernel_rfl) (fun _ _ _ h => h) (by rfl) ?_ ‹_› ?_;rotate_left
   ·intro w h; (try dsimp only at h); go_simp <;> with_reducible rfl
   (try simp only [Act.put, lz]);refine tkH ?_ 2 rfl (by kernel_rfl) (fun _ _ _ h => h) (by rfl) ?_ ‹_› ?_;rotate_left
   ·intro w h; (try dsimp only at h); go_simp <;> with_reducible rfl
   (try simp only [Act.put, lz]);refine tkH ?_ 3 rfl (by kernel_rfl) (fun _ _ _ h => h) (by rfl) ?_ ‹_› ?_;rotate_left
   ·intro w hSw; (try dsimp only at hSw); go_simp <;> (try simp only [wx, wy, wx2, wy2]) <;> with_reducible rfl
   (try simp only [Act.put, lz]);try simp only [wx, wy, wx2, wy2]
   refine tkH ?_ 4 rfl (by kernel_rfl) (fun _ _ _ h => h) (by rfl) ?_ ‹_› ?_;rotate_left
   ·intro w h; (try dsimp only at h); go_simp <;> with_reducible rfl
   (try simp only [Act.put, lz]);refine tkH ?_ 5 rfl (by kernel_rfl) (fun _ _ _ h => h) (by rfl) ?_ ‹_› ?_;rotate_left
   ·intro w h; (try dsimp only at h); go_simp <;> with_reducible rfl
   (try simp only [Act.put, lz]);refine tkH ?_ 6 rfl (by kernel_rfl) (fun _ _ _ h => h) (by rfl) ?_ ‹_› ?_;rotate_left
   ·intro w h; (try dsimp only at h); go_simp <;> with_reducible rfl
   (try simp only [Act.put, lz]);refine tkH ?_ 7 rfl (by kernel_rfl) (fun _ _ _ h => h) (by rfl) ?_ ‹_› ?_;rotate_left
   ·intro w hSw; (try dsimp only at hSw); go_simp <;> (try simp only [wx, wy, wx2, wy2]) <;> with_reducible rfl
   (try simp only [Act.put, lz]);try simp only [wx, wy, wx2, wy2]
   refine tkH ?_ 8 rfl (by kernel_rfl) (fun _ _ _ h => h) (by rfl) ?_ ‹_› ?_;rotate_left
   ·intro w h; (try dsimp only at h); go_simp <;> with_reducible rfl
   (try simp only [Act.put, lz]);refine tkH ?_ 9 rfl (by kernel_rfl) (fun _ _ _ h => h) (by rfl) ?_ ‹_› ?_;rotate_left
   ·intro w h; (try dsimp only at h); go_simp <;> with_reducible rfl
   (try simp only [Act.put, lz]);refine tkH ?_ 10 rfl (by kernel_rfl) (fun _ _ _ h => h) (by rfl) ?_ ‹_› ?_;rotate_left
   ·intro w h; (try dsimp only at h); go_simp <;> with_reducible rfl
   (try simp only [Act.put, lz]);refine tkH ?_ 11 rfl (by kernel_rfl) (fun _ _ _ h => h) (by rfl) ?_ ‹_› ?_;rotate_left
   ·intro w hSw; (try dsimp only at hSw); go_simp <;> (try simp only [wx, wy, wx2, wy2]) <;> with_reducible rfl
   (try simp only [Act.put, lz]);try simp only [wx, wy, wx2, wy2]
   refine tkH ?_ 12 rfl (by kernel_rfl) (fun _ _ _ h => h) (by rfl) ?_ ‹_› ?_;rotate_left
   ·intro w h; (try dsimp only at h); go_simp <;> with_reducible rfl
   (try simp only [Act.put, lz]);refine tkH ?_ 14 rfl (by kernel_rfl) (fun _ _ _ h => h) (by rfl) ?_ ‹_› ?_;rotate_left
   ·intro w h; (try dsimp only at h); go_simp <;> with_reducible rfl
   (try simp only [Act.put, lz]);refine tkH ?_ 15 rfl (by kernel_rfl) (fun _ _ _ h => h) (by rfl) ?_ ‹_› ?_;rotate_left
   ·intro w h; (try dsimp only at h); go_simp <;> with_reducible rfl
   (try simp only [Act.put, lz]);refine tkH ?_ 16 rfl (by kernel_rfl) (fun _ _ _ h => h) (by rfl) ?_ ‹_› ?_;rotate_left
   ·intro w h; (try dsimp only at h); go_simp <;> with_reducible rfl
   (try simp only [Act.put, lz]);refine tkH ?_ 17 rfl (by kernel_rfl) (fun _ _ _ h => h) (by rfl) ?_ ‹_› ?_;rotate_left
   ·intro w hSw; (try dsimp only at hSw); go_simp <;> (try simp only [wx, wy, wx2, wy2]) <;> with_reducible rfl
   (try simp only [Act.put, lz]);try simp only [wx, wy, wx2, wy2]
   refine tkH ?_ 18 rfl (by kernel_rfl) (fun _ _ _ h => h) (by rfl) ?_ ‹_› ?_;rotate_left
   ·intro w h; (try dsimp only at h); go_simp <;> with_reducible rfl
   (try simp only [Act.put, lz]);refine wpAnyH_ready (rs := [13, 19]) (by kernel_rfl) (by simp) ?_
   refine AllReadyH.cons rfl (fun K hK => ?_) (AllReadyH.cons rfl (fun K hK => ?_) AllReadyH.nil)
   ·go_simp
    (try go_wp2_with fail);refine hK.out _ _ trivial (fun hHeld => ?_)
    clear hK K;(try simp only [Act.put, lz]);refine rdH 19 (by kernel_rfl) rfl fun K hK => ?_
    go_simp;(try go_wp2_with fail);refine hK.out _ _ trivial (fun hHeld => ?_)
    clear hK K;(try simp only [Act.put, lz]);refine tkH ?_ 20 rfl (by kernel_rfl) (fun _ _ _ h => h) (by rfl) ?_ ‹_› ?_;rotate_left
    ·intro w h; (try dsimp only at h); go_simp <;> with_reducible rfl
    (try simp only [Act.put, lz]);refine rdH 21 (by kernel_rfl) rfl fun K hK => ?_
    go_simp;(try go_wp2_with fail);refine hK.out _ _ trivial (fun hHeld => ?_)
    clear hK K;(try simp only [Act.put, lz]);refine tkH ?_ 22 rfl (by kernel_rfl) (fun _ _ _ h => h) (by rfl) ?_ ‹_› ?_;rotate_left
    ·intro w h; (try dsimp only at h); go_simp <;> with_reducible rfl
    (try simp only [Act.put, lz]);refine rdH 23 (by kernel_rfl) rfl fun K hK => ?_
    go_simp;(try go_wp2_with fail);refine hK.out _ _ trivial (fun hHeld => ?_)
    clear hK K;(try simp only [Act.put, lz]);refine wpAnyH_done (by kernel_rfl) ?_ _
    clear hHeld;go_wp2_with fail;exact ⟨⟨i + 1, by omega, by go_num, hfin⟩, by simp [intOf]; omega⟩
   ·go_simp
    (try go_wp2_with fail);refine hK.out _ _ trivial (fun hHeld => ?_)
    clear hK K;(try simp only [Act.put, lz]);refine rdH 13 (by kernel_rfl) rfl fun K hK => ?_
    go_simp;(try go_wp2_with fail);refine hK.out _ _ trivial (fun hHeld => ?_)
    clear hK K;(try simp only [Act.put, lz]);refine tkH ?_ 20 rfl (by kernel_rfl) (fun _ _ _ h => h) (by rfl) ?_ ‹_› ?_;rotate_left
    ·intro w h; (try dsimp only at h); go_simp <;> with_reducible rfl
    (try simp only [Act.put, lz]);refine rdH 21 (by kernel_rfl) rfl fun K hK => ?_
    go_simp;(try go_wp2_with fail);refine hK.out _ _ trivial (fun hHeld => ?_)
    clear hK K;(try simp only [Act.put, lz]);refine tkH ?_ 22 rfl (by kernel_rfl) (fun _ _ _ h => h) (by rfl) ?_ ‹_› ?_;rotate_left
    ·intro w h; (try dsimp only at h); go_simp <;> with_reducible rfl
    (try simp only [Act.put, lz]);refine rdH 23 (by kernel_rfl) rfl fun K hK => ?_
    go_simp;(try go_wp2_with fail);refine hK.out _ _ trivial (fun hHeld => ?_)
    clear hK K;(try simp only [Act.put, lz]);refine wpAnyH_done (by kernel_rfl) ?_ _
    clear hHeld;go_wp2_with fail;exact ⟨⟨i + 1, by omega, by go_num, hfin⟩, by simp [intOf]; omega⟩
  ·have e : i = m := by omega
   subst e;go_wp2_with fail;go_end0
   exact ⟨⟨_, rfl⟩, hr.out.1, hr.out.2⟩
theorem cRotFu (g o n cap : Nat) (A : Nat → Vr) (p : Nat → Nat) (a m b : Nat) (f : Value) (w : World) (h : HdFu w g o n cap A p) (h1 : a < m) (h2 : m < b) (h3 : b ≤ n) (hn : n ≤ 4000000000000) (hcap : n ≤ cap) : Calls Tryz.prog 174 #[.slice (some ⟨g, o, none⟩) n cap, .int .i64 (a : Int), .int .i64 (m : Int), .int .i64 (b : Int), f] w fun e w' => (∃ v, e = .returned v) ∧ HdFu w' g o n cap A (fun k => p (rot a m b k)) ∧ Kp [g] w w' := by
 have HH := hid h
 obtain ⟨i0, hi0⟩ : ∃ i : Nat, i = m - a := ⟨_, rfl⟩
 obtain ⟨j0, hj0⟩ : ∃ j : Nat, j = b - m := ⟨_, rfl⟩
 have ei : (m : Int) - (a : Int) = (i0 : Int) := by omega
 have ej : (b : Int) - (m : Int) = (j0 : Int) := by omega
 have q1 : (-9223372036854775808 : Int) ≤ (m : Int) - (a : Int) := by omega
 have q2 : (m : Int) - (a : Int) ≤ 9223372036854775807 := by omega
 have q3 : (-9223372036854775808 : Int) ≤ (b : Int) - (m : Int) := by omega
 have q4 : (b : Int) - (m : Int) ≤ 9223372036854775807 := by omega
 have hst : Hid ((fun k => rot (m - i0) m (m + j0) k) = rot a m b) := hid (by rw [show m - i0 = a by omega, show m + j0 = b by omega])
 have hb0 : 1 ≤ i0 ∧ 1 ≤ j0 ∧ i0 ≤ m ∧ m + j0 ≤ n := by omega
 clear h hi0 hj0;go_enter Tryz.func174, Tryz.ntmps174
 go_wp2_with fail;clear ei ej q1 q2 q3 q4;go_loopw [10, 11] (fun iv jv wr => ∃ (i j : Nat) (s : Nat → Nat), (1 ≤ i ∧ 1 ≤ j ∧ i ≤ m ∧ m + j ≤ n) ∧ iv = .int .i64 (i : Int) ∧ jv = .int .i64 (j : Int) ∧ Hid ((fun k => s (rot (m - i) m (m + j) k)) = rot a m b) ∧ Hid (HdFu wr g o n cap A (fun k => p (s k)) ∧ Kp [g] w wr)) (fun iv jv _ => (intOf iv).toNat + (intOf jv).toNat)
 case atStart => exact ⟨i0, j0, fun k => k, hb0, rfl, rfl, hst, hid ⟨HH.out, Kp.refl _ _⟩⟩
 case round =>
  obtain ⟨i, j, s, ⟨bi, bj, bm, bn⟩, rfl, rfl, hs, hr⟩ := hrel;clear hb0 hst;obtain ⟨x, hx⟩ : ∃ x : Nat, x = m - i := ⟨_, rfl⟩
  have ex : (m : Int) - (i : Int) = (x : Int) := by omega
  have q1 : (-9223372036854775808 : Int) ≤ (m : Int) - (i : Int) := by omega
  have q2 : (m : Int) - (i : Int) ≤ 9223372036854775807 := by omega
  by_cases hij : i = j
  ·subst hij
   have hne : ((i : Int) != (i : Int)) = false := by simp
   have cS := hid (cSwapRFu g o n cap A (fun k => p (s k)) x m i f wr hr.out.1 (by omega) (by omega) hn hcap)
   have hs2 : Hid ((fun k => s (swR x m i k)) = rot a m b) := hid (by rw [← hs.out, rot_end m i bm, hx])
   have KR := hid hr.out.2
   clear hx hs hr;go_wp2_with fail;refine cS.out.mono ?_;rintro e w1 ⟨⟨v, rfl⟩, hd, k1⟩;have HF := hid (And.intro hd (KR.out.trans k1 (by simp)))
   clear hd k1;go_wp2_with fail;go_end0
   refine ⟨⟨_, rfl⟩, ?_, HF.out.2⟩;rw [← hs2.out];exact HF.out.1
  have hne : ((i : Int) != (j : Int)) = true := by simp; omega
  by_cases hgt : j < i
  ·have dg : decide ((j : Int) < (i : Int)) = true := by simp; omega
   have cS := hid (cSwapRFu g o n cap A (fun k => p (s k)) x m j f wr hr.out.1 (by omega) (by omega) hn hcap)
   have hs2 : Hid ((fun k => s (swR x m j (rot (m - (i - j)) m (m + j) k))) = rot a m b) := hid (by rw [← hs.out, rot_step1 m i j bm hgt, hx])
   have KR := hid hr.out.2
   obtain ⟨i', hi'⟩ : ∃ i' : Nat, i' = i - j := ⟨_, rfl⟩
   have ei : (i : Int) - (j : Int) = (i' : Int) := by omega
   have q3 : (-9223372036854775808 : Int) ≤ (i : Int) - (j : Int) := by omega
   have q4 : (i : Int) - (j : Int) ≤ 9223372036854775807 := by omega
   rw [← hi'] at hs2;have hb : 1 ≤ i' ∧ 1 ≤ j ∧ i' ≤ m ∧ m + j ≤ n := by omega
   have hdec : i' + j < i + j := by omega
   clear hx hs hr hi' hij;go_wp2_with fail;refine cS.out.mono ?_;rintro e w1 ⟨⟨v, rfl⟩, hd, k1⟩;have HF := hid (And.intro hd (KR.out.trans k1 (by simp)))
   clear hd k1;go_wp2_with fail;exact ⟨⟨i', j, fun k => s (swR x m j k), hb, rfl, rfl, hs2, HF⟩, by simp [intOf]; omega⟩
  ·have dg : decide ((j : Int) < (i : Int)) = false := by simp; omega
   obtain ⟨z, hz⟩ : ∃ z : Nat, z = m + j := ⟨_, rfl⟩
   obtain ⟨y, hy⟩ : ∃ y : Nat, y = m + j - i := ⟨_, rfl⟩
   have ez : (m : Int) + (j : Int) = (z : Int) := by omega
   have ey : (z : Int) - (i : Int) = (y : Int) := by omega
   have q5 : (-9223372036854775808 : Int) ≤ (m : Int) + (j : Int) := by omega
   have q6 : (m : Int) + (j : Int) ≤ 9223372036854775807 := by omega
   have q7 : (-9223372036854775808 : Int) ≤ (z : Int) - (i : Int) := by omega
   have q8 : (z : Int) - (i : Int) ≤ 9223372036854775807 := by omega
   have cS := hid (cSwapRFu g o n cap A (fun k => p (s k)) x y i f wr hr.out.1 (by omega) (by omega) hn hcap)
   have hs2 : Hid ((fun k => s (swR x y i (rot (m - i) m (m + (j - i)) k))) = rot a m b) := hid (by rw [← hs.out, rot_step2 m i j bm (by omega), hx, hy])
   have KR := hid hr.out.2
   obtain ⟨j', hj'⟩ : ∃ j' : Nat, j' = j - i := ⟨_, rfl⟩
   have ej : (j : Int) - (i : Int) = (j' : Int) := by omega
   have q3 : (-9223372036854775808 : Int) ≤ (j : Int) - (i : Int) := by omega
   have q4 : (j : Int) - (i : Int) ≤ 9223372036854775807 := by omega
   rw [← hj'] at hs2;have hb : 1 ≤ i ∧ 1 ≤ j' ∧ i ≤ m ∧ m + j' ≤ n := by omega
   have hdec : i + j' < i + j := by omega
   clear hx hs hr hj' hy hz hij;go_wp2_with fail;refine cS.out.mono ?_;rintro e w1 ⟨⟨v, rfl⟩, hd, k1⟩;have HF := hid (And.intro hd (KR.out.trans k1 (by simp)))
   clear hd k1;go_wp2_with fail;exact ⟨⟨i, j', fun k => s (swR x y i k), hb, rfl, rfl, hs2, HF⟩, by simp [intOf]; omega⟩
end Go.Proofs.YtlgfekjoknbfdaaGreatDoor
end

/- What the proof stands on: contracts of functions that the statement calls, and plain lemmas. No statement of the seat is proved here. -/
import Derived.Test.YtlgfekjoknbfdaaGreatDoorB3
import Derived.Test.YtlgfekjoknbfdaaGreatDoorB1
import Derived.Deep.RegionHeld3
set_option maxHeartbeats 64000000
set_option maxRecDepth 100000
set_option linter.unusedVariables false
set_option linter.unusedSimpArgs false
section
namespace Go.Proofs.YtlgfekjoknbfdaaGreatDoor
open Go.RowKit Go.Hay
attribute [local go_sem] Oper.semAt_some
def pickV (l : List Val) (ps : List Int) : List Val := ps.map fun p => vAt l p
theorem pickV_take {l : List Val} {ps : List Int} {j : Nat} (h : j < ps.length) : pickV l (ps.take (j + 1)) = pickV l (ps.take j) ++ [vAt l ps[j]] := by
 unfold pickV
 rw [List.take_succ_eq_append_getElem h, List.map_append];rfl
theorem appV1 {W : World} {a : Option Addr} {c : Nat} {l : List Val} (h : VE.Row W (.slice a l.length c) l) (v : Val) (hl : l.length ≤ 3000000000000) :
  ∃ a' c' W', (Builtin.append_ #[61, 61] 61 #[.slice a l.length c, .slice (some ⟨W.heap.size, 0, none⟩) 1 1]).run Tryz.prog (W.alloc (.cells #[.int .i64 v.k, .bool v.b, .int .i64 v.n, .string v.t] 88)) = .ok (.slice a' (l ++ [v]).length c') W' ∧ VE.Row W' (.slice a' (l ++ [v]).length c') (l ++ [v]) ∧ Kp (blk a) W W' ∧ ∀ k ∈ blk a', k ∈ blk a ∨ W.heap.size ≤ k := by
 obtain ⟨A1, hA1⟩ : ∃ A1, W.alloc (.cells #[.int .i64 v.k, .bool v.b, .int .i64 v.n, .string v.t] 88) = A1 := ⟨_, rfl⟩
 have kA1 : Kp [] W A1 := by rw [← hA1]; exact (Kp.refl _ _).alloc _
 have bx1 : Bn A1 W.heap.size (VE.c v) := by rw [← hA1]; exact Bn.new W (VE.c v) _
 have hs1 : VE.See A1 (some ⟨W.heap.size, 0, none⟩) [v] := .inr ⟨W.heap.size, 0, rfl, fun j u hu => by rw [Nat.zero_add]; exact bx1.get j u (by simpa [El.cs] using hu)⟩
 obtain ⟨a', c', W', hrun, hrow, k, hn⟩ := appVY (h.keptNew kA1) (some ⟨W.heap.size, 0, none⟩) 1 [v] (seeV.1 hs1) (by simp; omega)
 rw [hA1];have z1 := kA1.size
 exact ⟨a', c', W', hrun, hrow, (kA1.mono (by simp)).trans k (fun j hj => .inl hj), fun k hk => by
  rcases hn k hk with e | e
  ·exact .inl e
  ·exact .inr (by omega)⟩
theorem makeV0 (w : World) (n : Nat) (hn : n ≤ 3000000000000) : ∃ W, (Instr.makeSlice 61 (.int .i64 0) (.int .i64 (n : Int))).run Tryz.prog w = .ok (.slice (some ⟨w.heap.size, 0, none⟩) 0 n) W ∧ VE.Row W (.slice (some ⟨w.heap.size, 0, none⟩) 0 n) [] ∧ Kp [] w W := by
 obtain ⟨i0, hi, hz0, hz1, hz2⟩ := infoVal;have hr := run_make (P := Tryz.prog) w 61 88 i0 _ Tryz.underlying61 hi hz0 .i64 .i64 0 n (by omega) (by omega) (by rw [hz2]; omega) (by omega)
 rw [Int.toNat_natCast, hz1] at hr;refine ⟨_, hr, .inr ⟨w.heap.size, 0, n, rfl, Nat.zero_le _, by unfold maxLen; omega, by simp, fun j u hu => by simp [El.cs] at hu, fun j hj => ⟨?_, World.frozen?_alloc_new w _ _ (0 + j)⟩⟩, (Kp.refl _ _).alloc _⟩
 have e1 := World.cell?_alloc_new w (madeCells (Value.agg #[.int .i64 0, .bool false, .int .i64 0, .string ⟨#[]⟩]).cells (n * 4)) 88 (0 + j)
 refine (congrArg Option.isSome e1).trans ?_;have e5 : VE.n = 4 := rfl
 rw [e5] at hj;unfold madeCells
 rw [Nat.zero_add, Array.getElem?_map, Array.getElem?_range, if_pos hj];rfl
theorem cPick (a : Option Addr) (c : Nat) (l : List Val) (pa : Option Addr) (pc : Nat) (ps : List Int) (w : World) (ha : Vals w a l) (hl : l.length ≤ 9223372036854775807) (hp : IntE.See w pa ps) (hpl : ps.length ≤ 3000000000000) :
  Calls Tryz.prog 146 #[.slice a l.length c, .slice pa ps.length pc] w (NewR (pickV l ps) w) := by
 have HA := hid ha
 have HP := hid hp
 obtain ⟨W, hmk, hr0, k0⟩ := makeV0 w ps.length hpl;have H0 : Hid (VE.Row W (.slice (some ⟨w.heap.size, 0, none⟩) 0 ps.length) [] ∧ Kp [] w W ∧ ∀ k ∈ blk (some (⟨w.heap.size, 0, none⟩ : Addr)), w.heap.size ≤ k) := ⟨hr0, k0, fun k hk => by simp [blk] at hk; omega⟩
 clear ha hp hr0 k0;go_enter Tryz.func146, Tryz.ntmps146
 go_wp2_with fail;go_loopw [5, 13] (fun v5 i wr => ∃ (j : Nat) (ra : Option Addr) (rc : Nat) (m : List Val), j ≤ ps.length ∧ i = .int .i64 (j : Int) ∧ v5 = .slice ra m.length rc ∧ Hid (m = pickV l (ps.take j)) ∧ Hid (VE.Row wr (.slice ra m.length rc) m ∧ Kp [] w wr ∧ ∀ k ∈ blk ra, w.heap.size ≤ k)) (fun _ i _ => ps.length - (intOf i).toNat)
 case atStart => exact ⟨0, _, _, [], Nat.zero_le _, rfl, rfl, rfl, H0⟩
 case round =>
  obtain ⟨j, ra, rc, m, hj, rfl, rfl, hm, H⟩ := hrel;clear H0
  by_cases hlt : j < ps.length
  ·obtain ⟨g, o, ea, c0⟩ := intAt HP.out j hlt
   have cg := kpAt H.out.2.1 c0
   have hpt := hid (pickV_take (l := l) hlt)
   obtain ⟨p, hp⟩ : ∃ p, Hid (ps[j] = p) := ⟨ps[j], rfl⟩
   rw [hp.out] at cg hpt;have cA := hid (cAtE a c l p wr (HA.out.kept H.out.2.1) hl)
   obtain ⟨⟨vk, vb, vn, vt⟩, hv⟩ : ∃ v, Hid (vAt l p = v) := ⟨vAt l p, rfl⟩
   rw [hv.out] at cA hpt;dsimp only at cA;have hml : m.length ≤ 3000000000000 := by rw [hm.out]; unfold pickV; simp; omega
   have i1 : (0 : Int) ≤ (j : Int) := by omega
   have i2 : (j : Int) < (ps.length : Int) := by omega
   have i3 : (j : Int) + 1 ≤ 9223372036854775807 := by omega
   subst ea;clear c0;go_wp2_with fail;refine cA.out.mono ?_;rintro e wd ⟨rfl, kd⟩;obtain ⟨a4, c4, W4, hrun, hr4, k4, hn4⟩ := appV1 (H.out.1.keptNew kd) ⟨vk, vb, vn, vt⟩ hml;obtain ⟨m4, hm4⟩ : ∃ m4, Hid (m ++ [(⟨vk, vb, vn, vt⟩ : Val)] = m4) := ⟨_, rfl⟩
   rw [hm4.out] at hrun hr4;dsimp only at hrun;have kwd := H.out.2.1.trans kd (by simp)
   have HF : Hid (VE.Row W4 (.slice a4 m4.length c4) m4 ∧ Kp [] w W4 ∧ ∀ k ∈ blk a4, w.heap.size ≤ k) := ⟨hr4, kwd.trans k4 (fun x hx => .inr (H.out.2.2 x hx)), fun k hk => by
    rcases hn4 k hk with e | e
    ·exact H.out.2.2 k e
    ·have := kwd.size; omega⟩
   have hm5 : Hid (m4 = pickV l (ps.take (j + 1))) := by show _ = _; rw [hpt.out, ← hm.out, hm4.out]
   clear cA kd hr4 k4 hn4 kwd;go_wp2_with (first | (refine wpAppRunY rfl _ _ 61 61 rfl _ _ _ rfl rfl hrun ?_) | fail)
   go_roundw
   case rel => exact ⟨j + 1, a4, c4, m4, by omega, by go_num, rfl, hm5, HF⟩
   case measure => simp [intOf]; omega
  ·have hmm : m = pickV l ps := by rw [hm.out, show j = ps.length by omega, List.take_length]
   have dj1 : ¬ (j : Int) < (ps.length : Int) := by omega
   have dj2 : decide ((j : Int) < (ps.length : Int)) = false := by simp; omega
   subst hmm;go_wp2_with fail;go_ret;exact ⟨ra, rc, rfl, H.out.1, H.out.2.1, H.out.2.2⟩
theorem roomJ_of_none {F : Fence} (hd : F.depth = none) (k : Nat) : F.room k := fun d h => by rw [hd] at h; cases h
theorem RoundIn.anyDepthJ {F : Fence} (hd : F.depth = none) {m m' : Nat} {P : Program} {l : Nat} {f : FuncId} {tmps : Array Value} {assign body : Code} {w : World} {R : Ending → World → Prop}
  (h : RoundIn F m P l f tmps assign body w R) : RoundIn F m' P l f tmps assign body w R := ⟨h.1, fun c cs _ => h.2 c cs (roomJ_of_none hd _)⟩
theorem ckOfKeepB {js : List Nat} {X Y : World} (h : KeepB js X Y) : CK (fun k => k ∈ js) X Y := ⟨h.1, fun p u hp hc => by
 have hl := World.block_lt_of_cell? _ _ hc
 have e : X.heap[p.block]? = some X.heap[p.block] := by simp [hl]
 have e2 := (h.2 _ hp _ e).trans e.symm
 exact ⟨(World.cell?_of_block e2).trans hc, World.frozen?_of_block e2⟩⟩
end Go.Proofs.YtlgfekjoknbfdaaGreatDoor
end

section
namespace Go.Proofs.YtlgfekjoknbfdaaGreatDoor
open Go.RowKit Go.Hay
attribute [local go_sem] Oper.semAt_some
attribute [local go_sem] Oper.semAt_some
end Go.Proofs.YtlgfekjoknbfdaaGreatDoor
end

section
namespace Go.Proofs.YtlgfekjoknbfdaaGreatDoor
open Go.RowKit Go.Hay
attribute [local go_sem] Oper.semAt_some
def AgE : El (Int × Int) where
 n := 2
 c x := [.int .i64 x.1, .int .i64 x.2]
 len _ := rfl
 one _ u hu := by simp at hu; rcases hu with rfl | rfl <;> rfl
 pos := by decide
theorem agAt {w : World} {a : Option Addr} {l : List (Int × Int)} (h : AgE.See w a l) (j : Nat) (hj : j < l.length) : ∃ g o, a = some ⟨g, o, none⟩ ∧ w.cell? ⟨g, o + j * 2, none⟩ = some (.int .i64 l[j].1) ∧ w.cell? ⟨g, o + j * 2 + 1, none⟩ = some (.int .i64 l[j].2) := by
 obtain ⟨g, o, e, hc⟩ := h.at (j := j) (x := l[j]) (by simp [hj])
 exact ⟨g, o, e, hc 0 _ rfl, hc 1 _ rfl⟩
end Go.Proofs.YtlgfekjoknbfdaaGreatDoor
end

section
namespace Go.Proofs.YtlgfekjoknbfdaaGreatDoor
open Go.RowKit Go.Hay
attribute [local go_sem] Oper.semAt_some
end Go.Proofs.YtlgfekjoknbfdaaGreatDoor
end

section
namespace Go.Proofs.YtlgfekjoknbfdaaGreatDoor
open Go.RowKit Go.Hay
attribute [local go_sem] Oper.semAt_some
theorem infoIY : ∃ i : TypeInfo, Tryz.prog.info? 3 = some i ∧ i.zero = some (.int .i64 0) ∧ i.size = 1 ∧ i.bytes = 8 := by
 have h : (Tryz.prog.info? 3).map (fun i => (i.zero, i.size, i.bytes)) = some (some (.int .i64 0), 1, 8) := by kernel_rfl
 cases e : Tryz.prog.info? 3 with
 | none => rw [e] at h; cases h
 | some i =>
  rw [e] at h;simp at h
  exact ⟨i, rfl, h.1, h.2.1, h.2.2⟩
theorem eqNilIY (a : Option Addr) (n c : Nat) (w : World) : (binOp .eql 27 (.slice a n c) (.slice none 0 0)).run Tryz.prog w = .ok (.bool a.isNone) w := by
 simp only [binOp];simp [run_equal_slice_nil w 27 3 a n c Tryz.underlying27]
def NewIY (l : List (Int)) (w : World) (e : Ending) (w' : World) : Prop := ∃ a c, e = .returned (.slice a l.length c) ∧ IntE.Row w' (.slice a l.length c) l ∧ Kp [] w w' ∧ ∀ k ∈ blk a, w.heap.size ≤ k
theorem cCloneIY (a : Option Addr) (c : Nat) (l : List (Int)) (w : World) (hs : IntE.See w a l) (hn : a = none → c = 0) (hb : l.length ≤ 3600000000000) :
  Calls Tryz.prog 139 #[.slice a l.length c] w (NewIY l w) := by
 cases a with
 | none =>
  have hl : l = [] := by rcases hs with h | ⟨g, o, h, _⟩; exact h; cases h
  subst hl;rw [hn rfl];have e1 := eqNilIY none 0 0
  go_enter Tryz.func139, Tryz.ntmps139
  go_wp2_with fail;go_ret;exact ⟨none, 0, rfl, .inl ⟨rfl, rfl⟩, Kp.refl _ _, by simp [blk]⟩
 | some ad =>
  have e0 := eqNilIY (some ad) l.length c
  go_enter Tryz.func139, Tryz.ntmps139
  have k1 : Kp [] w (w.alloc (.cells #[] 3)) := (Kp.refl _ _).alloc _
  have hr := rowNoneY IntE w rfl #[] 3
  have hsr := (hs.keptNew k1).src (P := Tryz.prog) Tryz.underlying27 c
  obtain ⟨i0, hi, hz0, hz1, hz2⟩ := infoIY;go_wp2_with (first | (refine wpAppG (E := IntE) rfl _ _ 27 27 3 rfl i0 _ 8 Tryz.underlying27 hi hz0 hz1 hz2 rfl _ [] rfl hr _ l rfl hsr (by simp; omega) (by simp; omega) ?_; intro ys a' c' w' hy hrow hg hn) | fail)
  go_ret;have e : ys = l := by rw [hy.out]; rfl
  subst e;refine ⟨a', c', rfl, hrow, k1.trans hg (fun k hk => .inr ?_), fun k hk => ?_⟩
  ·simp [own, Value.ownBlock, Act.eval] at hk; omega
  ·rcases hn k hk with h1 | h1
   ·simp [own, Value.ownBlock, Act.eval] at h1; omega
   ·exact Nat.le_trans k1.size h1
end Go.Proofs.YtlgfekjoknbfdaaGreatDoor
end

section
namespace Go.Proofs.YtlgfekjoknbfdaaGreatDoor
open Go.RowKit Go.Hay
attribute [local go_sem] Oper.semAt_some
end Go.Proofs.YtlgfekjoknbfdaaGreatDoor
end

section
namespace Go.Proofs.YtlgfekjoknbfdaaGreatDoor
open Go.RowKit Go.Hay
attribute [local go_sem] Oper.semAt_some
structure Mb where
 k : Vs
 r : Vs
instance : Inhabited Mb := ⟨⟨default, default⟩⟩
structure Mb.lies (w : World) (x : Mb) : Prop where
 k : x.k.lies w
 r : x.r.lies w
end Go.Proofs.YtlgfekjoknbfdaaGreatDoor
end

section
namespace Go.Proofs.YtlgfekjoknbfdaaGreatDoor
open Go.RowKit Go.Hay
attribute [local go_sem] Oper.semAt_some
end Go.Proofs.YtlgfekjoknbfdaaGreatDoor
end

section
namespace Go.Proofs.YtlgfekjoknbfdaaGreatDoor
open Go.RowKit Go.Hay
attribute [local go_sem] Oper.semAt_some
theorem ckSee {α : Type} {E : El α} {P : Nat → Prop} {X Y : World} (h : CK P X Y) {a : Option Addr} {l : List α} (hs : E.See X a l) (hP : ∀ k ∈ blk a, P k) : E.See Y a l := by
 rcases hs with e | ⟨g, o, e, hc⟩
 ·exact .inl e
 ·subst e
  exact .inr ⟨g, o, rfl, fun j u hu => (h.2 ⟨g, _, none⟩ u (hP g (by simp [blk])) (hc j u hu)).1⟩
end Go.Proofs.YtlgfekjoknbfdaaGreatDoor
end

section
namespace Go.Proofs.YtlgfekjoknbfdaaGreatDoor
open Go.RowKit Go.Hay
structure MI (v2 : Value) (q2 q3 ly : Nat) (X : World → Prop) (W : World) : Prop where
 c2 : W.cell? ⟨q2, 0, none⟩ = some v2
 c3 : W.cell? ⟨q3, 0, none⟩ = some (.func (.yield ly) #[] #[])
 x : X W
theorem MI.ck {v2 : Value} {q2 q3 ly : Nat} {X : World → Prop} {Xj : List Nat} (hX : ∀ A B, X A → CK (fun k => k ∈ Xj) A B → X B) {A B : World} (h : MI v2 q2 q3 ly X A) (k : CK (fun k => k ∈ q2 :: q3 :: Xj) A B) : MI v2 q2 q3 ly X B :=
 ⟨(k.2 ⟨q2, 0, none⟩ _ (by simp) h.c2).1, (k.2 ⟨q3, 0, none⟩ _ (by simp) h.c3).1, hX A B h.x (k.mono fun j hj => by simp [hj])⟩
theorem relStep {RL RJ : List (List Val)} {f : List Val → List (List Val)} {i k : Nat} {x : List Val} (h : RJ.drop i = (RL.drop k).flatMap f) (hx : RL[k]? = some x) : RJ.drop i = f x ++ (RL.drop (k + 1)).flatMap f := by
 obtain ⟨hk, e⟩ := List.getElem?_eq_some_iff.1 hx;rw [h, List.drop_eq_getElem_cons hk, e, List.flatMap_cons]
theorem relOne {RJ : List (List Val)} {i : Nat} {z : List Val} {l : List (List Val)} (h : RJ.drop i = [z] ++ l) : RJ[i]? = some z ∧ RJ.drop (i + 1) = l ∧ i + 1 ≤ RJ.length := by
 have h0 : RJ[i]? = some z := by
  have := congrArg (fun z => z[0]?) h
  simpa [List.getElem?_drop] using this
 refine ⟨h0, ?_, (List.getElem?_eq_some_iff.1 h0).1⟩;have := congrArg (List.drop 1) h
 simpa [List.drop_drop] using this
section
variable {J : Sr → World → Prop} {fr : Bool} {RL R : List (List Val)} {M : Nat → World → Prop} {Mj : List Nat} {w3 : World} {q4 : Nat}
end
attribute [local go_sem] Oper.semAt_some
attribute [local go_sem] Oper.semAt_some
end Go.Proofs.YtlgfekjoknbfdaaGreatDoor
end

section
namespace Go.Proofs.YtlgfekjoknbfdaaGreatDoor
open Go.RowKit Go.Hay
attribute [local go_sem] Oper.semAt_some
def projF (ps : List Int) (x : List Val) : List (List Val) := [pickV x ps]
theorem projSeq (n : Nat) (hn : 2 ≤ n) (q1 q2 : Nat) (fr : Bool) (gl : Nat) (lbl : Array Value) (RL : List (List Val)) (jsl js : List Nat) (pa : Option Addr) (pc : Nat) (ps : List Int) (w : World)
  (heL : ∀ args w, (callFunc gl args).run Tryz.prog w = .ok (.enter gl args) w)
  (c1 : w.cell? ⟨q1, 0, none⟩ = some (.func (.func gl) #[] lbl)) (c2 : w.cell? ⟨q2, 0, none⟩ = some (Value.slice pa ps.length pc)) (hXw : (fun W => IntE.See W pa ps) w)
  (hq : ∀ q ∈ [q1, q2], q ∈ js) (hjl : ∀ j ∈ jsl, j ∈ js) (hXj : ∀ j ∈ blk pa, j ∈ js) (hjb : ∀ j ∈ js, j < w.heap.size)
  (hL : RowSeq fr (n - 1) gl lbl RL jsl w) (hRLl : ∀ l ∈ RL, l.length ≤ 1800000000000) (hpl : ps.length ≤ 3000000000000) :
  RowSeq true n 145 #[.pointer (some ⟨q1, 0, none⟩), .pointer (some ⟨q2, 0, none⟩)] (RL.flatMap (projF ps)) js w := by
 intro ly J Jx W hW hT hX hY h0
 obtain ⟨f, hf⟩ : ∃ f, Hid (projF ps = f) := ⟨_, rfl⟩
 obtain ⟨RJ, hRJ⟩ : ∃ R, Hid (RL.flatMap f = R) := ⟨_, rfl⟩
 rw [hf.out, hRJ.out] at hT ⊢;obtain ⟨X, hXd⟩ : ∃ X, Hid ((fun W => IntE.See W pa ps) = X) := ⟨_, rfl⟩
 obtain ⟨Xj, hXjd⟩ : ∃ X, Hid (blk pa = X) := ⟨_, rfl⟩
 have hXck : ∀ A B, X A → CK (fun k => k ∈ Xj) A B → X B := by rw [← hXd.out, ← hXjd.out]; exact (fun A B h k => ckSee k h (fun j hj => hj))
 have hXw : X w := by rw [← hXd.out]; exact hXw
 rw [hXjd.out] at hXj;have kjs := hW.js
 have d1 := kjs.cell (hq q1 (by simp)) c1
 have d2 := kjs.cell (hq q2 (by simp)) c2
 have dX := hXck _ _ hXw ((ckOfKeepB kjs).mono fun k hk => hXj k hk)
 have hlW := hL.move (W := W) ⟨kjs.1, fun j hj o ho => kjs.2 j (hjl j hj) o ho⟩
 have hjW : ∀ j ∈ js, j < W.heap.size := fun j hj => Nat.lt_of_lt_of_le (hjb j hj) kjs.1
 obtain ⟨W1, hW1, k1, b1⟩ : ∃ W1, W.alloc (.cells #[.func (.yield ly) #[] #[]] 169) = W1 ∧ Kp [] W W1 ∧ Bn W1 W.heap.size [.func (.yield ly) #[] #[]] := ⟨_, rfl, (Kp.refl _ _).alloc _, Bn.new W _ _⟩
 obtain ⟨q3, hq3⟩ : ∃ q, Hid (W.heap.size = q) := ⟨_, rfl⟩
 rw [hq3.out] at b1;have e1 := kpAt k1 d1
 obtain ⟨Mj, hMj⟩ : ∃ M, Hid (M = q2 :: q3 :: Xj) := ⟨_, rfl⟩
 obtain ⟨V2, hV2⟩ : ∃ v, Hid (Value.slice pa ps.length pc = v) := ⟨_, rfl⟩
 rw [hV2.out] at d2;have hM1 : MI V2 q2 q3 ly X W1 := ⟨kpAt k1 d2, b1.get 0 _ rfl, hXck _ _ dX ((CK.ofKp k1).mono (by simp))⟩
 have hMst : ∀ A B, MI V2 q2 q3 ly X A → CK (fun k => k ∈ Mj) A B → MI V2 q2 q3 ly X B := fun A B h k => h.ck hXck (by rw [← hMj.out]; exact k)
 have hMn : ∀ j ∈ Mj, j ∈ js ∨ (W.heap.size ≤ j ∧ j < W1.heap.size) := fun j hj => by
  rw [hMj.out] at hj
  rcases List.mem_cons.1 hj with rfl | hj
  ·exact .inl (hq _ (by simp))
  ·rcases List.mem_cons.1 hj with rfl | hj
   ·exact .inr ⟨by rw [← hq3.out]; exact Nat.le_refl _, b1.lt (by simp)⟩
   ·exact .inl (hXj j hj)
 have hMb : ∀ j ∈ Mj, j < W1.heap.size := fun j hj => by
  rcases hMn j hj with e | e
  ·exact Nat.lt_of_lt_of_le (hjW j e) k1.size
  ·exact e.2
 have hJ1 : J ⟨true, W1.heap.size, [], js ++ Mj, 0, none⟩ W1 := hT _ _ _ _ h0 ⟨TurnR.ofKp0 k1, fun h => (by cases h), fun _ => ⟨rfl, k1.size, by simp⟩, fun j hj => by
  rcases List.mem_append.1 hj with e | e
  ·exact .inl e
  ·exact hMn j e, rfl, .inl rfl⟩
 have hI0 : InG J RL RJ f (MI V2 q2 q3 ly X) Mj W1 ⟨false, 0, [], jsl, 0, none⟩ W1 := ⟨js ++ Mj, [], 0, hJ1, fun j hj => List.mem_append.2 (.inl (hjl j hj)), fun j hj => List.mem_append.2 (.inr hj), by simp, hM1, by rw [← hRJ.out]; rfl, Nat.zero_le _, Nat.le_refl _, fun h => (by cases h), fun j hj => by have := hjW j (hjl j hj); have := k1.size; omega, fun x hx => (by cases hx), fun j hj => by
  rcases List.mem_append.1 hj with e | e
  ·have := hjW j e; have := k1.size; omega
  ·exact hMb j e, by simp⟩
 have hsq := hid (hlW.move (KeepB.ofKp k1 (by simp)))
 have HI0 := hid hI0
 have HMS := hid hMst
 have HMB := hid hMb
 have hq3' := hq3.out
 clear c1 c2 hL hW kjs hjb hlW k1 b1 d1 d2 hM1 hMn hJ1 hI0 hMst hMb h0 dX;refine callsIn_of_wp_marks Tryz.func145 rfl trivial ?_ rfl;simp only [Tryz.ntmps145, List.size_toArray, List.length_cons, List.length_nil, Nat.reduceAdd, Nat.reduceSub, Array.replicate_succ, Array.replicate_zero, List.push_toArray, List.append_toArray, List.nil_append, List.cons_append];refine wpIn_wide.2 ?_;go_wp2_with fail;refine (wpIn_wide (n := n)).1 ?_
 refine wpRangeX rfl (by omega) (gf := gl) (lb := lbl) rfl trivial heL
  hsq.out (fun _ => rfl) KeepR.trans (fun s W o => KeepR.alloc s W o) (KeepR.refl _ _)
  (InG J RL RJ f (MI V2 q2 q3 ly X) Mj W1) (fun c s W' => c = .ret ∧ InX Jx W1 s W') (InG.own hT HMS.out) (fun c s X Y row h hg hr => ⟨h.1, InX.own hX s X Y row h.2 hg hr⟩) HI0.out
  (fun s s' A B h ht k o hk ho => h.keeps ht k o hk ho) (fun c s A B h ht k o hk ho => h.2.keeps ht k o hk ho) (fun s s' A B hz h ht => h.step hT HMS.out HMB.out hz ht) (fun c s A B h ht => ⟨h.1, h.2.step hX ht⟩)
  (fun s W o' h => h.recs o') (fun s x W o' h => h.recs' o') (fun c s x W o' h => h.2.recs' o')
  (fun x => { tmps := #[.func (.yield ly) #[] #[], .pointer (some ⟨q1, 0, none⟩), .pointer (some ⟨q2, 0, none⟩), .pointer (some ⟨q3, 0, none⟩), .slice x.a x.l.length x.c, .func (.func gl) #[] lbl, .slice x.a x.l.length x.c, undef, undef, undef, undef, undef, undef], defers := [] }) ?assign ?body ?done ?stop
 case assign =>
  intro l x W C hC
  gi_wp2_with fail;exact hC
 case body =>
  rintro l0 s ⟨xa, xc, xl⟩ A ⟨jsA, qsA, i, h⟩ hp;obtain ⟨hRi, hxl⟩ := h.pend _ hp;dsimp only at hRi ⊢;have hxn : xl.length ≤ 1800000000000 := hRLl _ (List.mem_of_getElem? hRi)
  have hrel := hid (relStep h.rel hRi)
  have h' := hid h
  have hxl' := hid hxl
  have hmK : Hid (∀ A', Kp [] A A' → MI V2 q2 q3 ly X A') := fun A' k => HMS.out _ _ h'.out.m ((CK.ofKp k).mono (by simp))
  clear h hRi hxl HI0;rw [← hV2.out] at hmK;have hR1 : Hid (RJ[i]? = some (pickV xl ps) ∧ RJ.drop (i + 1) = (RL.drop (s.i + 1)).flatMap f ∧ i + 1 ≤ RJ.length) := relOne (by rw [hrel.out, ← hf.out]; rfl)
  obtain ⟨zl, hzl0⟩ : ∃ z, Hid (pickV xl ps = z) := ⟨_, rfl⟩
  rw [hzl0.out] at hR1;gi_wp2_with fail;refine wpIn_region_any (by kernel_rfl) ?_
  change wpAnyIn _ _ _ _ _ _ _ _ _ A.drew
  have kD : Kp [] A A.drew := (Kp.refl _ _).drew
  generalize A.drew = wd at *
  have KB := hid kD
  have c2b := (hmK.out wd kD).c2
  have c3b := (hmK.out wd kD).c3
  have cCt : Hid (Calls Tryz.prog 146 #[.slice xa xl.length xc, .slice pa ps.length pc] wd (NewR zl wd)) := by
   rw [← hzl0.out];have hx := (hmK.out wd kD).x
   rw [← hXd.out] at hx;exact cPick xa xc xl pa pc ps wd (hxl'.out.see.kept kD) (by omega) hx hpl
  clear kD;refine wpAnyIn_ready (rs := [0, 1, 2]) (by kernel_rfl) (by simp) ?_
  refine AllReadyIn.cons rfl (fun K hK => ?_) (AllReadyIn.cons rfl (fun K hK => ?_) (AllReadyIn.cons rfl (fun K hK => ?_) AllReadyIn.nil))
  ·go_simp
   refine hK _ _ ?_;clear hK K;(try simp only [Act.put, lz]);refine rdJ 1 2 (by kernel_rfl) rfl rfl (fun K hK => ?_) fun K hK => ?_
   ·go_simp
    refine hK _ _ ?_;clear hK K;(try simp only [Act.put, lz]);refine rdI 2 (by kernel_rfl) rfl fun K hK => ?_
    go_simp;refine hK _ _ ?_;clear hK K;(try simp only [Act.put, lz]);refine rdI 3 (by kernel_rfl) rfl fun K hK => ?_
    go_simp;refine ⟨trivial, fun h => (by cases h), (CallsIn.inRound l0 (callsIn_wide.2 cCt.out)).mono ?_⟩
    rintro e Wz ⟨za, zc, rfl, hzrow, kz, hzb⟩;have c3z := kpAt kz c3b
    refine hK _ _ ?_;clear hK K;(try simp only [Act.put, lz]);have kWz := hid (KB.out.trans kz (by simp))
    have hzl := rowLies hzrow
    have hzb2 : ∀ j ∈ blk za, A.heap.size ≤ j := fun j hj => by have := hzb j hj; have := KB.out.size; omega
    have hJz : J ⟨true, W1.heap.size, qsA, jsA, i, some ⟨za, zc, zl⟩⟩ Wz := hT _ _ _ _ h'.out.j ⟨TurnR.ofKp0 kWz.out, fun _ => ⟨rfl, rfl, fun q hq => .inl hq⟩, fun e => (by cases e), fun j hj => .inl hj, rfl, .inr ⟨_, rfl, hR1.out.1, hzl, fun _ => ⟨hzrow, fun j hj => ⟨hzb2 j hj, fun hm => by have := h'.out.jl j hm; have := hzb2 j hj; omega, fun hm => by have := h'.out.ql j hm; have := hzb2 j hj; omega⟩⟩⟩⟩
    obtain ⟨fn, tmps, assign, body, hyl5, hR⟩ := hY _ ⟨za, zc, zl⟩ Wz hJz rfl;have hR' : RoundIn (Fence.wide.inRound l0) (n - 1 - 1 - 1) Tryz.prog ly fn tmps assign body Wz _ := RoundIn.anyDepthJ (F := Fence.wide.inRound l0) rfl hR
    have hgo : Hid (∀ A3, KeepR ⟨true, W1.heap.size, qsA, jsA, i, some ⟨za, zc, zl⟩⟩ Wz A3 → KeepR s A A3 ∧ KeepsFrom W1.heap.size A A3 ∧ KeepB Mj A A3) := fun A3 hk3 => h'.out.keepR (s := ⟨true, W1.heap.size, qsA, jsA, i, some ⟨za, zc, zl⟩⟩) rfl rfl (fun j hj => hj) (KeepR.trans ⟨KeepB.ofKp kWz.out (by simp), fun _ j o _ ho _ => (kWz.out.block j (Array.getElem?_eq_some_iff.1 ho).1 (by simp)).trans ho⟩ hk3)
    have hyl6 := hyl5
    simp only [encR] at hyl6;clear hR hJz hzl hzrow kz hzb hzb2 hyl5 cCt;refine rdI 4 (by kernel_rfl) rfl fun K hK => ?_
    go_simp;refine ⟨fun h => (by cases h), hR'.mono ?_⟩
    rintro e A3 (⟨rfl, hJ3, hk3⟩ | ⟨rfl, hJ3, hk3⟩)
    ·have HG := hid (hgo.out A3 hk3)
     have hJ4 : Hid (J ⟨true, W1.heap.size, qsA, jsA, i + 1, none⟩ A3) := hJ3
     clear hgo hR' hyl6 hJ3 hk3;refine hK _ _ ?_;clear hK K;(try simp only [Act.put, lz]);refine rdI 5 (by kernel_rfl) rfl fun K hK => ?_
     go_simp;refine hK _ _ ?_;clear hK K;(try simp only [Act.put, lz]);refine wpAnyIn_done (by kernel_rfl) ?_ _
     gi_wp2_with fail;refine ⟨HG.out.2.1, HG.out.1, jsA, qsA, i + 1, hJ4.out, h'.out.sub, h'.out.mj, h'.out.qsub, HMS.out _ _ h'.out.m (ckOfKeepB HG.out.2.2), hR1.out.2.1, hR1.out.2.2, Nat.le_trans h'.out.size HG.out.2.1.size, h'.out.mde, h'.out.lj, fun x hx => (by cases hx), fun j hj => Nat.lt_of_lt_of_le (h'.out.jl j hj) HG.out.2.1.size, fun q hq => Nat.lt_of_lt_of_le (h'.out.ql q hq) HG.out.2.1.size⟩
    ·have HG := hid (hgo.out A3 hk3)
     have hJ4 := hid hJ3
     clear hgo hR' hyl6 hJ3 hk3;refine hK _ _ ?_;clear hK K;(try simp only [Act.put, lz]);refine rdI 5 (by kernel_rfl) rfl fun K hK => ?_
     go_simp;refine hK _ _ ?_;clear hK K;(try simp only [Act.put, lz]);refine wpAnyIn_done (by kernel_rfl) ?_ _
     gi_wp2_with fail;refine ⟨HG.out.2.1, HG.out.1, rfl, Sr.nx ⟨true, W1.heap.size, qsA, jsA, i, some ⟨za, zc, zl⟩⟩ ⟨za, zc, zl⟩, rfl, rfl, h'.out.qsub, h'.out.mde, h'.out.lj, hJ4.out⟩
   ·go_simp
    refine hK _ _ ?_;clear hK K;(try simp only [Act.put, lz]);refine rdI 1 (by kernel_rfl) rfl fun K hK => ?_
    go_simp;refine hK _ _ ?_;clear hK K;(try simp only [Act.put, lz]);refine rdI 3 (by kernel_rfl) rfl fun K hK => ?_
    go_simp;refine ⟨trivial, fun h => (by cases h), (CallsIn.inRound l0 (callsIn_wide.2 cCt.out)).mono ?_⟩
    rintro e Wz ⟨za, zc, rfl, hzrow, kz, hzb⟩;have c3z := kpAt kz c3b
    refine hK _ _ ?_;clear hK K;(try simp only [Act.put, lz]);have kWz := hid (KB.out.trans kz (by simp))
    have hzl := rowLies hzrow
    have hzb2 : ∀ j ∈ blk za, A.heap.size ≤ j := fun j hj => by have := hzb j hj; have := KB.out.size; omega
    have hJz : J ⟨true, W1.heap.size, qsA, jsA, i, some ⟨za, zc, zl⟩⟩ Wz := hT _ _ _ _ h'.out.j ⟨TurnR.ofKp0 kWz.out, fun _ => ⟨rfl, rfl, fun q hq => .inl hq⟩, fun e => (by cases e), fun j hj => .inl hj, rfl, .inr ⟨_, rfl, hR1.out.1, hzl, fun _ => ⟨hzrow, fun j hj => ⟨hzb2 j hj, fun hm => by have := h'.out.jl j hm; have := hzb2 j hj; omega, fun hm => by have := h'.out.ql j hm; have := hzb2 j hj; omega⟩⟩⟩⟩
    obtain ⟨fn, tmps, assign, body, hyl5, hR⟩ := hY _ ⟨za, zc, zl⟩ Wz hJz rfl;have hR' : RoundIn (Fence.wide.inRound l0) (n - 1 - 1 - 1) Tryz.prog ly fn tmps assign body Wz _ := RoundIn.anyDepthJ (F := Fence.wide.inRound l0) rfl hR
    have hgo : Hid (∀ A3, KeepR ⟨true, W1.heap.size, qsA, jsA, i, some ⟨za, zc, zl⟩⟩ Wz A3 → KeepR s A A3 ∧ KeepsFrom W1.heap.size A A3 ∧ KeepB Mj A A3) := fun A3 hk3 => h'.out.keepR (s := ⟨true, W1.heap.size, qsA, jsA, i, some ⟨za, zc, zl⟩⟩) rfl rfl (fun j hj => hj) (KeepR.trans ⟨KeepB.ofKp kWz.out (by simp), fun _ j o _ ho _ => (kWz.out.block j (Array.getElem?_eq_some_iff.1 ho).1 (by simp)).trans ho⟩ hk3)
    have hyl6 := hyl5
    simp only [encR] at hyl6;clear hR hJz hzl hzrow kz hzb hzb2 hyl5 cCt;refine rdI 4 (by kernel_rfl) rfl fun K hK => ?_
    go_simp;refine ⟨fun h => (by cases h), hR'.mono ?_⟩
    rintro e A3 (⟨rfl, hJ3, hk3⟩ | ⟨rfl, hJ3, hk3⟩)
    ·have HG := hid (hgo.out A3 hk3)
     have hJ4 : Hid (J ⟨true, W1.heap.size, qsA, jsA, i + 1, none⟩ A3) := hJ3
     clear hgo hR' hyl6 hJ3 hk3;refine hK _ _ ?_;clear hK K;(try simp only [Act.put, lz]);refine rdI 5 (by kernel_rfl) rfl fun K hK => ?_
     go_simp;refine hK _ _ ?_;clear hK K;(try simp only [Act.put, lz]);refine wpAnyIn_done (by kernel_rfl) ?_ _
     gi_wp2_with fail;refine ⟨HG.out.2.1, HG.out.1, jsA, qsA, i + 1, hJ4.out, h'.out.sub, h'.out.mj, h'.out.qsub, HMS.out _ _ h'.out.m (ckOfKeepB HG.out.2.2), hR1.out.2.1, hR1.out.2.2, Nat.le_trans h'.out.size HG.out.2.1.size, h'.out.mde, h'.out.lj, fun x hx => (by cases hx), fun j hj => Nat.lt_of_lt_of_le (h'.out.jl j hj) HG.out.2.1.size, fun q hq => Nat.lt_of_lt_of_le (h'.out.ql q hq) HG.out.2.1.size⟩
    ·have HG := hid (hgo.out A3 hk3)
     have hJ4 := hid hJ3
     clear hgo hR' hyl6 hJ3 hk3;refine hK _ _ ?_;clear hK K;(try simp only [Act.put, lz]);refine rdI 5 (by kernel_rfl) rfl fun K hK => ?_
     go_simp;refine hK _ _ ?_;clear hK K;(try simp only [Act.put, lz]);refine wpAnyIn_done (by kernel_rfl) ?_ _
     gi_wp2_with fail;refine ⟨HG.out.2.1, HG.out.1, rfl, Sr.nx ⟨true, W1.heap.size, qsA, jsA, i, some ⟨za, zc, zl⟩⟩ ⟨za, zc, zl⟩, rfl, rfl, h'.out.qsub, h'.out.mde, h'.out.lj, hJ4.out⟩
  ·go_simp
   refine hK _ _ ?_;clear hK K;(try simp only [Act.put, lz]);refine rdJ 0 2 (by kernel_rfl) rfl rfl (fun K hK => ?_) fun K hK => ?_
   ·go_simp
    refine hK _ _ ?_;clear hK K;(try simp only [Act.put, lz]);refine rdI 2 (by kernel_rfl) rfl fun K hK => ?_
    go_simp;refine hK _ _ ?_;clear hK K;(try simp only [Act.put, lz]);refine rdI 3 (by kernel_rfl) rfl fun K hK => ?_
    go_simp;refine ⟨trivial, fun h => (by cases h), (CallsIn.inRound l0 (callsIn_wide.2 cCt.out)).mono ?_⟩
    rintro e Wz ⟨za, zc, rfl, hzrow, kz, hzb⟩;have c3z := kpAt kz c3b
    refine hK _ _ ?_;clear hK K;(try simp only [Act.put, lz]);have kWz := hid (KB.out.trans kz (by simp))
    have hzl := rowLies hzrow
    have hzb2 : ∀ j ∈ blk za, A.heap.size ≤ j := fun j hj => by have := hzb j hj; have := KB.out.size; omega
    have hJz : J ⟨true, W1.heap.size, qsA, jsA, i, some ⟨za, zc, zl⟩⟩ Wz := hT _ _ _ _ h'.out.j ⟨TurnR.ofKp0 kWz.out, fun _ => ⟨rfl, rfl, fun q hq => .inl hq⟩, fun e => (by cases e), fun j hj => .inl hj, rfl, .inr ⟨_, rfl, hR1.out.1, hzl, fun _ => ⟨hzrow, fun j hj => ⟨hzb2 j hj, fun hm => by have := h'.out.jl j hm; have := hzb2 j hj; omega, fun hm => by have := h'.out.ql j hm; have := hzb2 j hj; omega⟩⟩⟩⟩
    obtain ⟨fn, tmps, assign, body, hyl5, hR⟩ := hY _ ⟨za, zc, zl⟩ Wz hJz rfl;have hR' : RoundIn (Fence.wide.inRound l0) (n - 1 - 1 - 1) Tryz.prog ly fn tmps assign body Wz _ := RoundIn.anyDepthJ (F := Fence.wide.inRound l0) rfl hR
    have hgo : Hid (∀ A3, KeepR ⟨true, W1.heap.size, qsA, jsA, i, some ⟨za, zc, zl⟩⟩ Wz A3 → KeepR s A A3 ∧ KeepsFrom W1.heap.size A A3 ∧ KeepB Mj A A3) := fun A3 hk3 => h'.out.keepR (s := ⟨true, W1.heap.size, qsA, jsA, i, some ⟨za, zc, zl⟩⟩) rfl rfl (fun j hj => hj) (KeepR.trans ⟨KeepB.ofKp kWz.out (by simp), fun _ j o _ ho _ => (kWz.out.block j (Array.getElem?_eq_some_iff.1 ho).1 (by simp)).trans ho⟩ hk3)
    have hyl6 := hyl5
    simp only [encR] at hyl6;clear hR hJz hzl hzrow kz hzb hzb2 hyl5 cCt;refine rdI 4 (by kernel_rfl) rfl fun K hK => ?_
    go_simp;refine ⟨fun h => (by cases h), hR'.mono ?_⟩
    rintro e A3 (⟨rfl, hJ3, hk3⟩ | ⟨rfl, hJ3, hk3⟩)
    ·have HG := hid (hgo.out A3 hk3)
     have hJ4 : Hid (J ⟨true, W1.heap.size, qsA, jsA, i + 1, none⟩ A3) := hJ3
     clear hgo hR' hyl6 hJ3 hk3;refine hK _ _ ?_;clear hK K;(try simp only [Act.put, lz]);refine rdI 5 (by kernel_rfl) rfl fun K hK => ?_
     go_simp;refine hK _ _ ?_;clear hK K;(try simp only [Act.put, lz]);refine wpAnyIn_done (by kernel_rfl) ?_ _
     gi_wp2_with fail;refine ⟨HG.out.2.1, HG.out.1, jsA, qsA, i + 1, hJ4.out, h'.out.sub, h'.out.mj, h'.out.qsub, HMS.out _ _ h'.out.m (ckOfKeepB HG.out.2.2), hR1.out.2.1, hR1.out.2.2, Nat.le_trans h'.out.size HG.out.2.1.size, h'.out.mde, h'.out.lj, fun x hx => (by cases hx), fun j hj => Nat.lt_of_lt_of_le (h'.out.jl j hj) HG.out.2.1.size, fun q hq => Nat.lt_of_lt_of_le (h'.out.ql q hq) HG.out.2.1.size⟩
    ·have HG := hid (hgo.out A3 hk3)
     have hJ4 := hid hJ3
     clear hgo hR' hyl6 hJ3 hk3;refine hK _ _ ?_;clear hK K;(try simp only [Act.put, lz]);refine rdI 5 (by kernel_rfl) rfl fun K hK => ?_
     go_simp;refine hK _ _ ?_;clear hK K;(try simp only [Act.put, lz]);refine wpAnyIn_done (by kernel_rfl) ?_ _
     gi_wp2_with fail;refine ⟨HG.out.2.1, HG.out.1, rfl, Sr.nx ⟨true, W1.heap.size, qsA, jsA, i, some ⟨za, zc, zl⟩⟩ ⟨za, zc, zl⟩, rfl, rfl, h'.out.qsub, h'.out.mde, h'.out.lj, hJ4.out⟩
   ·go_simp
    refine hK _ _ ?_;clear hK K;(try simp only [Act.put, lz]);refine rdJ 0 3 (by kernel_rfl) rfl rfl (fun K hK => ?_) fun K hK => ?_
    ·go_simp
     refine hK _ _ ?_;clear hK K;(try simp only [Act.put, lz]);refine rdI 3 (by kernel_rfl) rfl fun K hK => ?_
     go_simp;refine ⟨trivial, fun h => (by cases h), (CallsIn.inRound l0 (callsIn_wide.2 cCt.out)).mono ?_⟩
     rintro e Wz ⟨za, zc, rfl, hzrow, kz, hzb⟩;have c3z := kpAt kz c3b
     refine hK _ _ ?_;clear hK K;(try simp only [Act.put, lz]);have kWz := hid (KB.out.trans kz (by simp))
     have hzl := rowLies hzrow
     have hzb2 : ∀ j ∈ blk za, A.heap.size ≤ j := fun j hj => by have := hzb j hj; have := KB.out.size; omega
     have hJz : J ⟨true, W1.heap.size, qsA, jsA, i, some ⟨za, zc, zl⟩⟩ Wz := hT _ _ _ _ h'.out.j ⟨TurnR.ofKp0 kWz.out, fun _ => ⟨rfl, rfl, fun q hq => .inl hq⟩, fun e => (by cases e), fun j hj => .inl hj, rfl, .inr ⟨_, rfl, hR1.out.1, hzl, fun _ => ⟨hzrow, fun j hj => ⟨hzb2 j hj, fun hm => by have := h'.out.jl j hm; have := hzb2 j hj; omega, fun hm => by have := h'.out.ql j hm; have := hzb2 j hj; omega⟩⟩⟩⟩
     obtain ⟨fn, tmps, assign, body, hyl5, hR⟩ := hY _ ⟨za, zc, zl⟩ Wz hJz rfl;have hR' : RoundIn (Fence.wide.inRound l0) (n - 1 - 1 - 1) Tryz.prog ly fn tmps assign body Wz _ := RoundIn.anyDepthJ (F := Fence.wide.inRound l0) rfl hR
     have hgo : Hid (∀ A3, KeepR ⟨true, W1.heap.size, qsA, jsA, i, some ⟨za, zc, zl⟩⟩ Wz A3 → KeepR s A A3 ∧ KeepsFrom W1.heap.size A A3 ∧ KeepB Mj A A3) := fun A3 hk3 => h'.out.keepR (s := ⟨true, W1.heap.size, qsA, jsA, i, some ⟨za, zc, zl⟩⟩) rfl rfl (fun j hj => hj) (KeepR.trans ⟨KeepB.ofKp kWz.out (by simp), fun _ j o _ ho _ => (kWz.out.block j (Array.getElem?_eq_some_iff.1 ho).1 (by simp)).trans ho⟩ hk3)
     have hyl6 := hyl5
     simp only [encR] at hyl6;clear hR hJz hzl hzrow kz hzb hzb2 hyl5 cCt;refine rdI 4 (by kernel_rfl) rfl fun K hK => ?_
     go_simp;refine ⟨fun h => (by cases h), hR'.mono ?_⟩
     rintro e A3 (⟨rfl, hJ3, hk3⟩ | ⟨rfl, hJ3, hk3⟩)
     ·have HG := hid (hgo.out A3 hk3)
      have hJ4 : Hid (J ⟨true, W1.heap.size, qsA, jsA, i + 1, none⟩ A3) := hJ3
      clear hgo hR' hyl6 hJ3 hk3;refine hK _ _ ?_;clear hK K;(try simp only [Act.put, lz]);refine rdI 5 (by kernel_rfl) rfl fun K hK => ?_
      go_simp;refine hK _ _ ?_;clear hK K;(try simp only [Act.put, lz]);refine wpAnyIn_done (by kernel_rfl) ?_ _
      gi_wp2_with fail;refine ⟨HG.out.2.1, HG.out.1, jsA, qsA, i + 1, hJ4.out, h'.out.sub, h'.out.mj, h'.out.qsub, HMS.out _ _ h'.out.m (ckOfKeepB HG.out.2.2), hR1.out.2.1, hR1.out.2.2, Nat.le_trans h'.out.size HG.out.2.1.size, h'.out.mde, h'.out.lj, fun x hx => (by cases hx), fun j hj => Nat.lt_of_lt_of_le (h'.out.jl j hj) HG.out.2.1.size, fun q hq => Nat.lt_of_lt_of_le (h'.out.ql q hq) HG.out.2.1.size⟩
     ·have HG := hid (hgo.out A3 hk3)
      have hJ4 := hid hJ3
      clear hgo hR' hyl6 hJ3 hk3;refine hK _ _ ?_;clear hK K;(try simp only [Act.put, lz]);refine rdI 5 (by kernel_rfl) rfl fun K hK => ?_
      go_simp;refine hK _ _ ?_;clear hK K;(try simp only [Act.put, lz]);refine wpAnyIn_done (by kernel_rfl) ?_ _
      gi_wp2_with fail;refine ⟨HG.out.2.1, HG.out.1, rfl, Sr.nx ⟨true, W1.heap.size, qsA, jsA, i, some ⟨za, zc, zl⟩⟩ ⟨za, zc, zl⟩, rfl, rfl, h'.out.qsub, h'.out.mde, h'.out.lj, hJ4.out⟩
    ·go_simp
     refine ⟨trivial, fun h => (by cases h), (CallsIn.inRound l0 (callsIn_wide.2 cCt.out)).mono ?_⟩
     rintro e Wz ⟨za, zc, rfl, hzrow, kz, hzb⟩;have c3z := kpAt kz c3b
     refine hK _ _ ?_;clear hK K;(try simp only [Act.put, lz]);refine rdI 0 (by kernel_rfl) rfl fun K hK => ?_
     go_simp;refine hK _ _ ?_;clear hK K;(try simp only [Act.put, lz]);have kWz := hid (KB.out.trans kz (by simp))
     have hzl := rowLies hzrow
     have hzb2 : ∀ j ∈ blk za, A.heap.size ≤ j := fun j hj => by have := hzb j hj; have := KB.out.size; omega
     have hJz : J ⟨true, W1.heap.size, qsA, jsA, i, some ⟨za, zc, zl⟩⟩ Wz := hT _ _ _ _ h'.out.j ⟨TurnR.ofKp0 kWz.out, fun _ => ⟨rfl, rfl, fun q hq => .inl hq⟩, fun e => (by cases e), fun j hj => .inl hj, rfl, .inr ⟨_, rfl, hR1.out.1, hzl, fun _ => ⟨hzrow, fun j hj => ⟨hzb2 j hj, fun hm => by have := h'.out.jl j hm; have := hzb2 j hj; omega, fun hm => by have := h'.out.ql j hm; have := hzb2 j hj; omega⟩⟩⟩⟩
     obtain ⟨fn, tmps, assign, body, hyl5, hR⟩ := hY _ ⟨za, zc, zl⟩ Wz hJz rfl;have hR' : RoundIn (Fence.wide.inRound l0) (n - 1 - 1 - 1) Tryz.prog ly fn tmps assign body Wz _ := RoundIn.anyDepthJ (F := Fence.wide.inRound l0) rfl hR
     have hgo : Hid (∀ A3, KeepR ⟨true, W1.heap.size, qsA, jsA, i, some ⟨za, zc, zl⟩⟩ Wz A3 → KeepR s A A3 ∧ KeepsFrom W1.heap.size A A3 ∧ KeepB Mj A A3) := fun A3 hk3 => h'.out.keepR (s := ⟨true, W1.heap.size, qsA, jsA, i, some ⟨za, zc, zl⟩⟩) rfl rfl (fun j hj => hj) (KeepR.trans ⟨KeepB.ofKp kWz.out (by simp), fun _ j o _ ho _ => (kWz.out.block j (Array.getElem?_eq_some_iff.1 ho).1 (by simp)).trans ho⟩ hk3)
     have hyl6 := hyl5
     simp only [encR] at hyl6;clear hR hJz hzl hzrow kz hzb hzb2 hyl5 cCt;refine rdI 4 (by kernel_rfl) rfl fun K hK => ?_
     go_simp;refine ⟨fun h => (by cases h), hR'.mono ?_⟩
     rintro e A3 (⟨rfl, hJ3, hk3⟩ | ⟨rfl, hJ3, hk3⟩)
     ·have HG := hid (hgo.out A3 hk3)
      have hJ4 : Hid (J ⟨true, W1.heap.size, qsA, jsA, i + 1, none⟩ A3) := hJ3
      clear hgo hR' hyl6 hJ3 hk3;refine hK _ _ ?_;clear hK K;(try simp only [Act.put, lz]);refine rdI 5 (by kernel_rfl) rfl fun K hK => ?_
      go_simp;refine hK _ _ ?_;clear hK K;(try simp only [Act.put, lz]);refine wpAnyIn_done (by kernel_rfl) ?_ _
      gi_wp2_with fail;refine ⟨HG.out.2.1, HG.out.1, jsA, qsA, i + 1, hJ4.out, h'.out.sub, h'.out.mj, h'.out.qsub, HMS.out _ _ h'.out.m (ckOfKeepB HG.out.2.2), hR1.out.2.1, hR1.out.2.2, Nat.le_trans h'.out.size HG.out.2.1.size, h'.out.mde, h'.out.lj, fun x hx => (by cases hx), fun j hj => Nat.lt_of_lt_of_le (h'.out.jl j hj) HG.out.2.1.size, fun q hq => Nat.lt_of_lt_of_le (h'.out.ql q hq) HG.out.2.1.size⟩
     ·have HG := hid (hgo.out A3 hk3)
      have hJ4 := hid hJ3
      clear hgo hR' hyl6 hJ3 hk3;refine hK _ _ ?_;clear hK K;(try simp only [Act.put, lz]);refine rdI 5 (by kernel_rfl) rfl fun K hK => ?_
      go_simp;refine hK _ _ ?_;clear hK K;(try simp only [Act.put, lz]);refine wpAnyIn_done (by kernel_rfl) ?_ _
      gi_wp2_with fail;refine ⟨HG.out.2.1, HG.out.1, rfl, Sr.nx ⟨true, W1.heap.size, qsA, jsA, i, some ⟨za, zc, zl⟩⟩ ⟨za, zc, zl⟩, rfl, rfl, h'.out.qsub, h'.out.mde, h'.out.lj, hJ4.out⟩
  ·go_simp
   refine hK _ _ ?_;clear hK K;(try simp only [Act.put, lz]);refine rdJ 0 1 (by kernel_rfl) rfl rfl (fun K hK => ?_) fun K hK => ?_
   ·go_simp
    refine hK _ _ ?_;clear hK K;(try simp only [Act.put, lz]);refine rdI 1 (by kernel_rfl) rfl fun K hK => ?_
    go_simp;refine hK _ _ ?_;clear hK K;(try simp only [Act.put, lz]);refine rdI 3 (by kernel_rfl) rfl fun K hK => ?_
    go_simp;refine ⟨trivial, fun h => (by cases h), (CallsIn.inRound l0 (callsIn_wide.2 cCt.out)).mono ?_⟩
    rintro e Wz ⟨za, zc, rfl, hzrow, kz, hzb⟩;have c3z := kpAt kz c3b
    refine hK _ _ ?_;clear hK K;(try simp only [Act.put, lz]);have kWz := hid (KB.out.trans kz (by simp))
    have hzl := rowLies hzrow
    have hzb2 : ∀ j ∈ blk za, A.heap.size ≤ j := fun j hj => by have := hzb j hj; have := KB.out.size; omega
    have hJz : J ⟨true, W1.heap.size, qsA, jsA, i, some ⟨za, zc, zl⟩⟩ Wz := hT _ _ _ _ h'.out.j ⟨TurnR.ofKp0 kWz.out, fun _ => ⟨rfl, rfl, fun q hq => .inl hq⟩, fun e => (by cases e), fun j hj => .inl hj, rfl, .inr ⟨_, rfl, hR1.out.1, hzl, fun _ => ⟨hzrow, fun j hj => ⟨hzb2 j hj, fun hm => by have := h'.out.jl j hm; have := hzb2 j hj; omega, fun hm => by have := h'.out.ql j hm; have := hzb2 j hj; omega⟩⟩⟩⟩
    obtain ⟨fn, tmps, assign, body, hyl5, hR⟩ := hY _ ⟨za, zc, zl⟩ Wz hJz rfl;have hR' : RoundIn (Fence.wide.inRound l0) (n - 1 - 1 - 1) Tryz.prog ly fn tmps assign body Wz _ := RoundIn.anyDepthJ (F := Fence.wide.inRound l0) rfl hR
    have hgo : Hid (∀ A3, KeepR ⟨true, W1.heap.size, qsA, jsA, i, some ⟨za, zc, zl⟩⟩ Wz A3 → KeepR s A A3 ∧ KeepsFrom W1.heap.size A A3 ∧ KeepB Mj A A3) := fun A3 hk3 => h'.out.keepR (s := ⟨true, W1.heap.size, qsA, jsA, i, some ⟨za, zc, zl⟩⟩) rfl rfl (fun j hj => hj) (KeepR.trans ⟨KeepB.ofKp kWz.out (by simp), fun _ j o _ ho _ => (kWz.out.block j (Array.getElem?_eq_some_iff.1 ho).1 (by simp)).trans ho⟩ hk3)
    have hyl6 := hyl5
    simp only [encR] at hyl6;clear hR hJz hzl hzrow kz hzb hzb2 hyl5 cCt;refine rdI 4 (by kernel_rfl) rfl fun K hK => ?_
    go_simp;refine ⟨fun h => (by cases h), hR'.mono ?_⟩
    rintro e A3 (⟨rfl, hJ3, hk3⟩ | ⟨rfl, hJ3, hk3⟩)
    ·have HG := hid (hgo.out A3 hk3)
     have hJ4 : Hid (J ⟨true, W1.heap.size, qsA, jsA, i + 1, none⟩ A3) := hJ3
     clear hgo hR' hyl6 hJ3 hk3;refine hK _ _ ?_;clear hK K;(try simp only [Act.put, lz]);refine rdI 5 (by kernel_rfl) rfl fun K hK => ?_
     go_simp;refine hK _ _ ?_;clear hK K;(try simp only [Act.put, lz]);refine wpAnyIn_done (by kernel_rfl) ?_ _
     gi_wp2_with fail;refine ⟨HG.out.2.1, HG.out.1, jsA, qsA, i + 1, hJ4.out, h'.out.sub, h'.out.mj, h'.out.qsub, HMS.out _ _ h'.out.m (ckOfKeepB HG.out.2.2), hR1.out.2.1, hR1.out.2.2, Nat.le_trans h'.out.size HG.out.2.1.size, h'.out.mde, h'.out.lj, fun x hx => (by cases hx), fun j hj => Nat.lt_of_lt_of_le (h'.out.jl j hj) HG.out.2.1.size, fun q hq => Nat.lt_of_lt_of_le (h'.out.ql q hq) HG.out.2.1.size⟩
    ·have HG := hid (hgo.out A3 hk3)
     have hJ4 := hid hJ3
     clear hgo hR' hyl6 hJ3 hk3;refine hK _ _ ?_;clear hK K;(try simp only [Act.put, lz]);refine rdI 5 (by kernel_rfl) rfl fun K hK => ?_
     go_simp;refine hK _ _ ?_;clear hK K;(try simp only [Act.put, lz]);refine wpAnyIn_done (by kernel_rfl) ?_ _
     gi_wp2_with fail;refine ⟨HG.out.2.1, HG.out.1, rfl, Sr.nx ⟨true, W1.heap.size, qsA, jsA, i, some ⟨za, zc, zl⟩⟩ ⟨za, zc, zl⟩, rfl, rfl, h'.out.qsub, h'.out.mde, h'.out.lj, hJ4.out⟩
   ·go_simp
    refine hK _ _ ?_;clear hK K;(try simp only [Act.put, lz]);refine rdJ 0 3 (by kernel_rfl) rfl rfl (fun K hK => ?_) fun K hK => ?_
    ·go_simp
     refine hK _ _ ?_;clear hK K;(try simp only [Act.put, lz]);refine rdI 3 (by kernel_rfl) rfl fun K hK => ?_
     go_simp;refine ⟨trivial, fun h => (by cases h), (CallsIn.inRound l0 (callsIn_wide.2 cCt.out)).mono ?_⟩
     rintro e Wz ⟨za, zc, rfl, hzrow, kz, hzb⟩;have c3z := kpAt kz c3b
     refine hK _ _ ?_;clear hK K;(try simp only [Act.put, lz]);have kWz := hid (KB.out.trans kz (by simp))
     have hzl := rowLies hzrow
     have hzb2 : ∀ j ∈ blk za, A.heap.size ≤ j := fun j hj => by have := hzb j hj; have := KB.out.size; omega
     have hJz : J ⟨true, W1.heap.size, qsA, jsA, i, some ⟨za, zc, zl⟩⟩ Wz := hT _ _ _ _ h'.out.j ⟨TurnR.ofKp0 kWz.out, fun _ => ⟨rfl, rfl, fun q hq => .inl hq⟩, fun e => (by cases e), fun j hj => .inl hj, rfl, .inr ⟨_, rfl, hR1.out.1, hzl, fun _ => ⟨hzrow, fun j hj => ⟨hzb2 j hj, fun hm => by have := h'.out.jl j hm; have := hzb2 j hj; omega, fun hm => by have := h'.out.ql j hm; have := hzb2 j hj; omega⟩⟩⟩⟩
     obtain ⟨fn, tmps, assign, body, hyl5, hR⟩ := hY _ ⟨za, zc, zl⟩ Wz hJz rfl;have hR' : RoundIn (Fence.wide.inRound l0) (n - 1 - 1 - 1) Tryz.prog ly fn tmps assign body Wz _ := RoundIn.anyDepthJ (F := Fence.wide.inRound l0) rfl hR
     have hgo : Hid (∀ A3, KeepR ⟨true, W1.heap.size, qsA, jsA, i, some ⟨za, zc, zl⟩⟩ Wz A3 → KeepR s A A3 ∧ KeepsFrom W1.heap.size A A3 ∧ KeepB Mj A A3) := fun A3 hk3 => h'.out.keepR (s := ⟨true, W1.heap.size, qsA, jsA, i, some ⟨za, zc, zl⟩⟩) rfl rfl (fun j hj => hj) (KeepR.trans ⟨KeepB.ofKp kWz.out (by simp), fun _ j o _ ho _ => (kWz.out.block j (Array.getElem?_eq_some_iff.1 ho).1 (by simp)).trans ho⟩ hk3)
     have hyl6 := hyl5
     simp only [encR] at hyl6;clear hR hJz hzl hzrow kz hzb hzb2 hyl5 cCt;refine rdI 4 (by kernel_rfl) rfl fun K hK => ?_
     go_simp;refine ⟨fun h => (by cases h), hR'.mono ?_⟩
     rintro e A3 (⟨rfl, hJ3, hk3⟩ | ⟨rfl, hJ3, hk3⟩)
     ·have HG := hid (hgo.out A3 hk3)
      have hJ4 : Hid (J ⟨true, W1.heap.size, qsA, jsA, i + 1, none⟩ A3) := hJ3
      clear hgo hR' hyl6 hJ3 hk3;refine hK _ _ ?_;clear hK K;(try simp only [Act.put, lz]);refine rdI 5 (by kernel_rfl) rfl fun K hK => ?_
      go_simp;refine hK _ _ ?_;clear hK K;(try simp only [Act.put, lz]);refine wpAnyIn_done (by kernel_rfl) ?_ _
      gi_wp2_with fail;refine ⟨HG.out.2.1, HG.out.1, jsA, qsA, i + 1, hJ4.out, h'.out.sub, h'.out.mj, h'.out.qsub, HMS.out _ _ h'.out.m (ckOfKeepB HG.out.2.2), hR1.out.2.1, hR1.out.2.2, Nat.le_trans h'.out.size HG.out.2.1.size, h'.out.mde, h'.out.lj, fun x hx => (by cases hx), fun j hj => Nat.lt_of_lt_of_le (h'.out.jl j hj) HG.out.2.1.size, fun q hq => Nat.lt_of_lt_of_le (h'.out.ql q hq) HG.out.2.1.size⟩
     ·have HG := hid (hgo.out A3 hk3)
      have hJ4 := hid hJ3
      clear hgo hR' hyl6 hJ3 hk3;refine hK _ _ ?_;clear hK K;(try simp only [Act.put, lz]);refine rdI 5 (by kernel_rfl) rfl fun K hK => ?_
      go_simp;refine hK _ _ ?_;clear hK K;(try simp only [Act.put, lz]);refine wpAnyIn_done (by kernel_rfl) ?_ _
      gi_wp2_with fail;refine ⟨HG.out.2.1, HG.out.1, rfl, Sr.nx ⟨true, W1.heap.size, qsA, jsA, i, some ⟨za, zc, zl⟩⟩ ⟨za, zc, zl⟩, rfl, rfl, h'.out.qsub, h'.out.mde, h'.out.lj, hJ4.out⟩
    ·go_simp
     refine ⟨trivial, fun h => (by cases h), (CallsIn.inRound l0 (callsIn_wide.2 cCt.out)).mono ?_⟩
     rintro e Wz ⟨za, zc, rfl, hzrow, kz, hzb⟩;have c3z := kpAt kz c3b
     refine hK _ _ ?_;clear hK K;(try simp only [Act.put, lz]);refine rdI 0 (by kernel_rfl) rfl fun K hK => ?_
     go_simp;refine hK _ _ ?_;clear hK K;(try simp only [Act.put, lz]);have kWz := hid (KB.out.trans kz (by simp))
     have hzl := rowLies hzrow
     have hzb2 : ∀ j ∈ blk za, A.heap.size ≤ j := fun j hj => by have := hzb j hj; have := KB.out.size; omega
     have hJz : J ⟨true, W1.heap.size, qsA, jsA, i, some ⟨za, zc, zl⟩⟩ Wz := hT _ _ _ _ h'.out.j ⟨TurnR.ofKp0 kWz.out, fun _ => ⟨rfl, rfl, fun q hq => .inl hq⟩, fun e => (by cases e), fun j hj => .inl hj, rfl, .inr ⟨_, rfl, hR1.out.1, hzl, fun _ => ⟨hzrow, fun j hj => ⟨hzb2 j hj, fun hm => by have := h'.out.jl j hm; have := hzb2 j hj; omega, fun hm => by have := h'.out.ql j hm; have := hzb2 j hj; omega⟩⟩⟩⟩
     obtain ⟨fn, tmps, assign, body, hyl5, hR⟩ := hY _ ⟨za, zc, zl⟩ Wz hJz rfl;have hR' : RoundIn (Fence.wide.inRound l0) (n - 1 - 1 - 1) Tryz.prog ly fn tmps assign body Wz _ := RoundIn.anyDepthJ (F := Fence.wide.inRound l0) rfl hR
     have hgo : Hid (∀ A3, KeepR ⟨true, W1.heap.size, qsA, jsA, i, some ⟨za, zc, zl⟩⟩ Wz A3 → KeepR s A A3 ∧ KeepsFrom W1.heap.size A A3 ∧ KeepB Mj A A3) := fun A3 hk3 => h'.out.keepR (s := ⟨true, W1.heap.size, qsA, jsA, i, some ⟨za, zc, zl⟩⟩) rfl rfl (fun j hj => hj) (KeepR.trans ⟨KeepB.ofKp kWz.out (by simp), fun _ j o _ ho _ => (kWz.out.block j (Array.getElem?_eq_some_iff.1 ho).1 (by simp)).trans ho⟩ hk3)
     have hyl6 := hyl5
     simp only [encR] at hyl6;clear hR hJz hzl hzrow kz hzb hzb2 hyl5 cCt;refine rdI 4 (by kernel_rfl) rfl fun K hK => ?_
     go_simp;refine ⟨fun h => (by cases h), hR'.mono ?_⟩
     rintro e A3 (⟨rfl, hJ3, hk3⟩ | ⟨rfl, hJ3, hk3⟩)
     ·have HG := hid (hgo.out A3 hk3)
      have hJ4 : Hid (J ⟨true, W1.heap.size, qsA, jsA, i + 1, none⟩ A3) := hJ3
      clear hgo hR' hyl6 hJ3 hk3;refine hK _ _ ?_;clear hK K;(try simp only [Act.put, lz]);refine rdI 5 (by kernel_rfl) rfl fun K hK => ?_
      go_simp;refine hK _ _ ?_;clear hK K;(try simp only [Act.put, lz]);refine wpAnyIn_done (by kernel_rfl) ?_ _
      gi_wp2_with fail;refine ⟨HG.out.2.1, HG.out.1, jsA, qsA, i + 1, hJ4.out, h'.out.sub, h'.out.mj, h'.out.qsub, HMS.out _ _ h'.out.m (ckOfKeepB HG.out.2.2), hR1.out.2.1, hR1.out.2.2, Nat.le_trans h'.out.size HG.out.2.1.size, h'.out.mde, h'.out.lj, fun x hx => (by cases hx), fun j hj => Nat.lt_of_lt_of_le (h'.out.jl j hj) HG.out.2.1.size, fun q hq => Nat.lt_of_lt_of_le (h'.out.ql q hq) HG.out.2.1.size⟩
     ·have HG := hid (hgo.out A3 hk3)
      have hJ4 := hid hJ3
      clear hgo hR' hyl6 hJ3 hk3;refine hK _ _ ?_;clear hK K;(try simp only [Act.put, lz]);refine rdI 5 (by kernel_rfl) rfl fun K hK => ?_
      go_simp;refine hK _ _ ?_;clear hK K;(try simp only [Act.put, lz]);refine wpAnyIn_done (by kernel_rfl) ?_ _
      gi_wp2_with fail;refine ⟨HG.out.2.1, HG.out.1, rfl, Sr.nx ⟨true, W1.heap.size, qsA, jsA, i, some ⟨za, zc, zl⟩⟩ ⟨za, zc, zl⟩, rfl, rfl, h'.out.qsub, h'.out.mde, h'.out.lj, hJ4.out⟩
 case done =>
  rintro D s X hD ⟨hmd, hsi, hsp⟩ ⟨jsA, qsA, i, h⟩ hrec
  have hie : i = RJ.length := by
   have := h.rel
   rw [hsi, List.drop_length, List.flatMap_nil] at this;have := congrArg List.length this
   rw [List.length_drop, List.length_nil] at this;have := h.il
   omega
  have hJD := hT _ _ _ _ h.j (StepR.same rfl rfl (TurnR.ofGrown (grownBy_putObj' X D (.deferred none)) (fun r e => by cases e; exact ⟨hD, _, hrec, rfl⟩)))
  gi_wp2_with fail;refine ⟨by simp, .inl ⟨_, _, rfl, run_takeDeferred hrec, ?_⟩⟩
  exact ⟨_, results_none rfl _ _ _, ⟨_, rfl⟩, .inl ⟨_, ⟨rfl, hie, rfl⟩, hJD⟩⟩
 case stop =>
  rintro D c s X hD hsm ⟨rfl, h⟩ hrec;obtain ⟨s2, h1, h2, h3, h4, h5, h6⟩ := h;have hJD := hX _ _ _ h6 ⟨h1, TurnR.ofGrown (grownBy_putObj' X D (.deferred none)) (fun r e => by cases e; exact ⟨by rw [h2]; exact hD, _, hrec, rfl⟩)⟩
  gi_wp2_with fail;refine ⟨by simp, .inl ⟨_, _, rfl, run_takeDeferred hrec, ?_⟩⟩
  exact ⟨_, results_none rfl _ _ _, ⟨_, rfl⟩, .inr ⟨s2, h1, hJD⟩⟩
end Go.Proofs.YtlgfekjoknbfdaaGreatDoor
end

section
namespace Go.Proofs.YtlgfekjoknbfdaaGreatDoor
open Go.RowKit Go.Hay
def teC (op a : Int) : Bool :=
 if op = 0 then a == 0 else if op = 1 then !(a == 0) else if op = 2 then decide (a < 0) else if op = 3 then decide (a ≤ 0) else if op = 4 then decide (0 < a) else if op = 5 then decide (0 ≤ a) else false
def termC (op xk vk a : Int) : Bool := if op = 6 then xk == 0 else if op = 7 then !(xk == 0) else if xk = 0 ∨ vk = 0 then false else teC op a
structure Tm where
 co : Int
 op : Int
 x : Val
instance : Inhabited Tm := ⟨⟨0, 0, ⟨0, false, 0, ⟨#[]⟩⟩⟩⟩
def Tm.v (t : Tm) : Value := .agg #[.int .i64 t.co, .int .i64 t.op, .int .i64 t.x.k, .bool t.x.b, .int .i64 t.x.n, .string t.x.t]
def TmE : El Tm where
 n := 6
 c t := [.int .i64 t.co, .int .i64 t.op, .int .i64 t.x.k, .bool t.x.b, .int .i64 t.x.n, .string t.x.t]
 len _ := rfl
 one _ u hu := by simp at hu; rcases hu with rfl | rfl | rfl | rfl | rfl | rfl <;> rfl
 pos := by decide
theorem tmAt {w : World} {a : Option Addr} {l : List Tm} (h : TmE.See w a l) {j : Nat} {t : Tm} (hx : l[j]? = some t) : ∃ g o, a = some ⟨g, o, none⟩ ∧ w.cell? ⟨g, o + j * 6, none⟩ = some (.int .i64 t.co) ∧ w.cell? ⟨g, o + j * 6 + 1, none⟩ = some (.int .i64 t.op) ∧ w.cell? ⟨g, o + j * 6 + 2, none⟩ = some (.int .i64 t.x.k) ∧ w.cell? ⟨g, o + j * 6 + 3, none⟩ = some (.bool t.x.b) ∧ w.cell? ⟨g, o + j * 6 + 4, none⟩ = some (.int .i64 t.x.n) ∧ w.cell? ⟨g, o + j * 6 + 5, none⟩ = some (.string t.x.t) := by
 obtain ⟨g, o, rfl, hc⟩ := h.at hx;exact ⟨g, o, rfl, hc 0 _ rfl, hc 1 _ rfl, hc 2 _ rfl, hc 3 _ rfl, hc 4 _ rfl, hc 5 _ rfl⟩
def askL : List Bool := [false, true, false, true, false, true, true, false, false, true, true, false, false, false, true, false, true, true]
def Asks (w : World) : Prop := 0 < w.heap.size ∧ ∀ i, i < 18 → w.cell? ⟨0, i, none⟩ = some (.bool (askL.getD i false))
theorem Asks.kept {w w' : World} {S : List Nat} (h : Asks w) (hk : Kp S w w') (h0 : 0 ∉ S) : Asks w' :=
 ⟨Nat.lt_of_lt_of_le h.1 hk.size, fun i hi => (hk.cell (p := ⟨0, i, none⟩) h.1 h0).trans (h.2 i hi)⟩
def termT (t : Tm) (l : List Val) : Bool := if t.co < 0 ∨ (l.length : Int) ≤ t.co then false else termC t.op (l.getD t.co.toNat nulV).k t.x.k (cmpV (l.getD t.co.toNat nulV) t.x)
def allT (l : List Tm) (r : List Val) : Bool := l.all fun t => termT t r
theorem termT_out (t : Tm) (l : List Val) (h : t.co < 0 ∨ (l.length : Int) ≤ t.co) : termT t l = false := by unfold termT; rw [if_pos h]
theorem termT_at (t : Tm) (l : List Val) (i : Nat) (hi : i < l.length) (e : t.co = i) : termT t l = termC t.op l[i].k t.x.k (cmpV l[i] t.x) := by
 unfold termT
 rw [if_neg (by omega), e]
 simp [hi]
theorem cOrdered (op : Int) (w : World) : Calls Tryz.prog 121 #[.int .i64 op] w fun e w' => e = .returned (.bool (decide (0 ≤ op) && decide (op < 6))) ∧ w' = w := by
 by_cases h : 0 ≤ op
 ·have d : decide (0 ≤ op) = true := by simpa using h
  rw [d];go_enter Tryz.func121, Tryz.ntmps121
  go_wp2_with fail;go_returns;exact ⟨by simp, rfl⟩
 ·have d : decide (0 ≤ op) = false := by simpa using h
  rw [d];go_enter Tryz.func121, Tryz.ntmps121
  go_wp2_with fail;go_returns;exact ⟨by simp, rfl⟩
theorem cFull (p q : Nat) (v : Val) (t : Tm) (w : World) (hv : w.cell? ⟨p, 0, none⟩ = some (.int .i64 v.k)) (ht : w.cell? ⟨q, 2, none⟩ = some (.int .i64 t.x.k)) : Calls Tryz.prog 168 #[.pointer (some ⟨p, 0, none⟩), .pointer (some ⟨q, 0, none⟩)] w fun e w' => e = .returned (.bool (!(v.k == 0) && !(t.x.k == 0))) ∧ w' = w := by
 by_cases h : v.k = 0
 ·have d : (v.k == 0) = true := by simpa using h
  have d' : (v.k != 0) = false := by simpa using h
  rw [d];clear h;go_enter Tryz.func168, Tryz.ntmps168
  go_wp2_with fail;go_returns;exact ⟨by simp, rfl⟩
 ·have d : (v.k == 0) = false := by simpa using h
  have d' : (v.k != 0) = true := by simpa using h
  rw [d];clear h;go_enter Tryz.func168, Tryz.ntmps168
  go_wp2_with fail;go_returns;exact ⟨by simp [bne], rfl⟩
theorem xTerm (t : Tm) (a : Option Addr) (cap : Nat) (l : List Val) (w : World) (hT : Asks w) (hs : VE.See w a l) (hl : l.length ≤ 9223372036854775807) : Calls Tryz.prog 147 #[t.v, .slice a l.length cap] w fun e w' => e = .returned (.bool (termT t l)) ∧ Kp [] w w' := by
 obtain ⟨WA, eWA⟩ : ∃ Y, w.alloc (.cells #[.int .i64 t.co, .int .i64 t.op, .int .i64 t.x.k, .bool t.x.b, .int .i64 t.x.n, .string t.x.t] 145) = Y := ⟨_, rfl⟩
 have kA : Kp [] w WA := by rw [← eWA]; exact (Kp.refl _ _).alloc _
 have zA : WA.heap.size = w.heap.size + 1 := by rw [← eWA]; simp
 have bA : Bn WA w.heap.size [.int .i64 t.co, .int .i64 t.op, .int .i64 t.x.k, .bool t.x.b, .int .i64 t.x.n, .string t.x.t] := by rw [← eWA]; exact Bn.new w [.int .i64 t.co, .int .i64 t.op, .int .i64 t.x.k, .bool t.x.b, .int .i64 t.x.n, .string t.x.t] 145
 have ta0 := bA.get 0 _ rfl; have ta1 := bA.get 1 _ rfl; have ta2 := bA.get 2 _ rfl; have ta3 := bA.get 3 _ rfl; have ta4 := bA.get 4 _ rfl; have ta5 := bA.get 5 _ rfl
 unfold Tm.v
 by_cases h1 : t.co < 0
 ·have d1 : decide (t.co < 0) = true := by simpa using h1
  rw [termT_out t l (.inl h1)];clear bA h1;go_enter Tryz.func147, Tryz.ntmps147
  go_wp2_with fail;go_returns;exact ⟨rfl, kA⟩
 have d1 : decide (t.co < 0) = false := by simpa using h1
 by_cases h2 : (l.length : Int) ≤ t.co
 ·have d2 : decide ((l.length : Int) ≤ t.co) = true := by simpa using h2
  rw [termT_out t l (.inr h2)];clear bA h1 h2;go_enter Tryz.func147, Tryz.ntmps147
  go_wp2_with fail;go_returns;exact ⟨rfl, kA⟩
 have d2 : decide ((l.length : Int) ≤ t.co) = false := by simpa using h2
 obtain ⟨i, hi⟩ := Int.eq_ofNat_of_zero_le (show 0 ≤ t.co by omega)
 have hil : i < l.length := by omega
 rw [termT_at t l i hil hi];have hx : l[i]? = some l[i] := by simp [hil]
 obtain ⟨g, o, rfl, hc⟩ := (hs.keptNew kA).at hx;have v0 := hc 0 _ rfl; have v1 := hc 1 _ rfl; have v2 := hc 2 _ rfl; have v3 := hc 3 _ rfl
 simp only [show VE.n = 4 from rfl, Nat.add_zero] at v0 v1 v2 v3;generalize l[i] = v at *
 obtain ⟨WB, eWB⟩ : ∃ Y, WA.alloc (.cells #[.int .i64 0, .bool false, .int .i64 0, .string ⟨#[]⟩] 88) = Y := ⟨_, rfl⟩
 have kWB : Kp [] WA WB := by rw [← eWB]; exact (Kp.refl _ _).alloc _
 have zWB : WB.heap.size = WA.heap.size + 1 := by rw [← eWB]; simp
 have xWB : Bn WB (WA.heap.size) [.int .i64 0, .bool false, .int .i64 0, .string ⟨#[]⟩] := by rw [← eWB]; exact Bn.new WA [.int .i64 0, .bool false, .int .i64 0, .string ⟨#[]⟩] 88
 obtain ⟨WC, eWC⟩ : ∃ Y, ((((WB.setCell ⟨WA.heap.size, 0, none⟩ (.int .i64 v.k)).setCell ⟨WA.heap.size, 1, none⟩ (.bool v.b)).setCell ⟨WA.heap.size, 2, none⟩ (.int .i64 v.n)).setCell ⟨WA.heap.size, 3, none⟩ (.string v.t)) = Y := ⟨_, rfl⟩
 have kWC : Kp [WA.heap.size] WB WC := by rw [← eWC]; exact (((((Kp.refl _ _).setCell (by simp) _).setCell (by simp) _).setCell (by simp) _).setCell (by simp) _)
 have xWC : Bn WC (WA.heap.size) [.int .i64 v.k, .bool v.b, .int .i64 v.n, .string v.t] := by rw [← eWC]; exact ((((xWB.set 0 (by simp) (.int .i64 v.k)).set 1 (by simp) (.bool v.b)).set 2 (by simp) (.int .i64 v.n)).set 3 (by simp) (.string v.t))
 have zWC := kWC.size
 have ma0 := xWB.get 0 _ rfl; have ma1 := xWB.get 1 _ rfl; have ma2 := xWB.get 2 _ rfl; have ma3 := xWB.get 3 _ rfl
 have mf0 := xWB.free 0; have mf1 := xWB.free 1; have mf2 := xWB.free 2; have mf3 := xWB.free 3
 have va0 := xWC.get 0 _ rfl; have va1 := xWC.get 1 _ rfl; have va2 := xWC.get 2 _ rfl; have va3 := xWC.get 3 _ rfl
 have kC : Kp [] WA WC := kWB.trans kWC (fun x hx => .inr (by simp at hx; omega))
 have bC := bA.kept kC
 have tc0 := bC.get 0 _ rfl; have tc1 := bC.get 1 _ rfl; have tc2 := bC.get 2 _ rfl; have tc3 := bC.get 3 _ rfl; have tc4 := bC.get 4 _ rfl; have tc5 := bC.get 5 _ rfl
 have KW := hid (kA.trans kC (by simp))
 have HT := hid (hT.kept KW.out (by simp))
 have i1 : (0 : Int) ≤ (i : Int) := by omega
 have i2 : (i : Int) < (l.length : Int) := by omega
 have d2n : decide (l.length ≤ i) = false := by simp; omega
 have BB := hid (And.intro bC xWC)
 have zC : WA.heap.size < WC.heap.size := by omega
 have zD : w.heap.size < WA.heap.size := by omega
 have zE : w.heap.size < WC.heap.size := by omega
 have zA' : Hid (WA.heap.size = w.heap.size + 1) := hid zA
 clear zA hc hx hs hT kA kC kWB kWC xWB xWC bA bC h1 h2 zWB zWC;obtain ⟨co, op, x⟩ := t;obtain ⟨xk, xb, xn, xt⟩ := x;obtain ⟨vk, vb, vn, vt⟩ := v;simp only at *
 subst hi
 by_cases h6 : op = 6
 ·subst h6
  clear HT BB;rw [show termC 6 vk xk (cmpV ⟨vk, vb, vn, vt⟩ ⟨xk, xb, xn, xt⟩) = (vk == 0) from rfl];go_enter Tryz.func147, Tryz.ntmps147
  go_wp2_with fail;go_returns;exact ⟨rfl, KW.out⟩
 by_cases h7 : op = 7
 ·subst h7
  clear HT BB;rw [show termC 7 vk xk (cmpV ⟨vk, vb, vn, vt⟩ ⟨xk, xb, xn, xt⟩) = !(vk == 0) from rfl];go_enter Tryz.func147, Tryz.ntmps147
  go_wp2_with fail;go_returns;exact ⟨rfl, KW.out⟩
 have d6 : (op == 6) = false := by simpa using h6
 have d7 : (op == 7) = false := by simpa using h7
 have aO := hid (cOrdered op)
 have hF : Hid (∀ W', Kp [] WC W' → (W'.cell? ⟨w.heap.size, 0, none⟩ = some (.int .i64 (i : Int)) ∧ W'.cell? ⟨w.heap.size, 1, none⟩ = some (.int .i64 op) ∧ W'.cell? ⟨w.heap.size, 2, none⟩ = some (.int .i64 xk) ∧ W'.cell? ⟨w.heap.size, 3, none⟩ = some (.bool xb) ∧ W'.cell? ⟨w.heap.size, 4, none⟩ = some (.int .i64 xn) ∧ W'.cell? ⟨w.heap.size, 5, none⟩ = some (.string xt) ∧ W'.cell? ⟨WA.heap.size, 0, none⟩ = some (.int .i64 vk) ∧ W'.cell? ⟨WA.heap.size, 1, none⟩ = some (.bool vb) ∧ W'.cell? ⟨WA.heap.size, 2, none⟩ = some (.int .i64 vn) ∧ W'.cell? ⟨WA.heap.size, 3, none⟩ = some (.string vt))) := fun W' k => by
  have h1 := BB.out.1.kept k
  have h2 := BB.out.2.kept k
  exact ⟨h1.get 0 _ rfl, h1.get 1 _ rfl, h1.get 2 _ rfl, h1.get 3 _ rfl, h1.get 4 _ rfl, h1.get 5 _ rfl, h2.get 0 _ rfl, h2.get 1 _ rfl, h2.get 2 _ rfl, h2.get 3 _ rfl⟩
 by_cases h8 : 0 ≤ op ∧ op < 6
 ·have hO : (decide (0 ≤ op) && decide (op < 6)) = true := by simp [h8]
  rw [hO] at aO;clear hO;have aFu := hid (fun W' (k : Kp [] WC W') => cFull WA.heap.size w.heap.size ⟨vk, vb, vn, vt⟩ ⟨(i : Int), op, ⟨xk, xb, xn, xt⟩⟩ W' (hF.out W' k).2.2.2.2.2.2.1 (hF.out W' k).2.2.1)
  simp only at aFu
  by_cases hf : vk = 0 ∨ xk = 0
  ·have hR : Hid (termC op vk xk (cmpV ⟨vk, vb, vn, vt⟩ ⟨xk, xb, xn, xt⟩) = false) := by show _ = _; unfold termC; rw [if_neg h6, if_neg h7, if_pos hf]
   rw [hR.out];have hFF : (!(vk == 0) && !(xk == 0)) = false := by rcases hf with h | h <;> simp [h]
   rw [hFF] at aFu;clear hFF hf hR HT h8 h6 h7;go_enter Tryz.func147, Tryz.ntmps147
   go_wp2_with fail;refine wp_region_held_drew (S := fun W' => W'.cell? ⟨w.heap.size, 0, none⟩ = some (.int .i64 (i : Int)) ∧ W'.cell? ⟨w.heap.size, 1, none⟩ = some (.int .i64 op) ∧ W'.cell? ⟨w.heap.size, 2, none⟩ = some (.int .i64 xk) ∧ W'.cell? ⟨w.heap.size, 3, none⟩ = some (.bool xb) ∧ W'.cell? ⟨w.heap.size, 4, none⟩ = some (.int .i64 xn) ∧ W'.cell? ⟨w.heap.size, 5, none⟩ = some (.string xt) ∧ W'.cell? ⟨WA.heap.size, 0, none⟩ = some (.int .i64 vk) ∧ W'.cell? ⟨WA.heap.size, 1, none⟩ = some (.bool vb) ∧ W'.cell? ⟨WA.heap.size, 2, none⟩ = some (.int .i64 vn) ∧ W'.cell? ⟨WA.heap.size, 3, none⟩ = some (.string vt)) (by kernel_rfl) ?_ (fun hHeld => ?_)
   ·exact hF.out _ (Kp.refl _ _).drew
   have KD : Hid (Kp [] WC WC.drew) := hid (Kp.refl _ _).drew
   generalize WC.drew = Wd at *
   refine tkH ?_ 0 rfl (by kernel_rfl) (fun _ _ _ h => h) (by rfl) ?_ ‹_› ?_;rotate_left
   ·intro w h; (try dsimp only at h); go_simp <;> with_reducible rfl
   (try simp only [Act.put, lz]);refine tkH ?_ 1 rfl (by kernel_rfl) (fun _ _ _ h => h) (by rfl) ?_ ‹_› ?_;rotate_left
   ·intro w h; (try dsimp only at h); go_simp <;> with_reducible rfl
   (try simp only [Act.put, lz]);refine rdH 2 (by kernel_rfl) rfl fun K hK => ?_
   go_simp;refine (aO.out _).mono ?_;rintro e wx ⟨rfl, ex⟩;rw [ex];clear ex wx;(try go_wp2_with fail);refine hK.out _ _ ?_ (fun hHeld => ?_)
   ·exact hF.out _ KD.out
   clear hK K;(try simp only [Act.put, lz]);refine tkH ?_ 3 rfl (by kernel_rfl) (fun _ _ _ h => h) (by rfl) ?_ ‹_› ?_;rotate_left
   ·intro w h; (try dsimp only at h); go_simp <;> with_reducible rfl
   (try simp only [Act.put, lz]);refine tkH ?_ 4 rfl (by kernel_rfl) (fun _ _ _ h => h) (by rfl) ?_ ‹_› ?_;rotate_left
   ·intro w h; (try dsimp only at h); go_simp <;> with_reducible rfl
   (try simp only [Act.put, lz]);refine rdH 5 (by kernel_rfl) rfl fun K hK => ?_
   go_simp;refine (aFu.out _ KD.out).mono ?_;rintro e wx ⟨rfl, ex⟩;rw [ex];clear ex wx;(try go_wp2_with fail);refine hK.out _ _ ?_ (fun hHeld => ?_)
   ·exact hF.out _ KD.out
   clear hK K;(try simp only [Act.put, lz]);refine tkH ?_ 6 rfl (by kernel_rfl) (fun _ _ _ h => h) (by rfl) ?_ ‹_› ?_;rotate_left
   ·intro w h; (try dsimp only at h); go_simp <;> with_reducible rfl
   (try simp only [Act.put, lz]);refine tkH ?_ 7 rfl (by kernel_rfl) (fun _ _ _ h => h) (by rfl) ?_ ‹_› ?_;rotate_left
   ·intro w h; (try dsimp only at h); go_simp <;> with_reducible rfl
   (try simp only [Act.put, lz]);refine tkU 8 rfl (by kernel_rfl) (fun _ _ _ h => h) (by rfl) ‹_› ?_
   (try simp only [Act.put, lz]);refine tkU 9 rfl (by kernel_rfl) (fun _ _ _ h => h) (by rfl) ‹_› ?_
   (try simp only [Act.put, lz]);refine tkU 10 rfl (by kernel_rfl) (fun _ _ _ h => h) (by rfl) ‹_› ?_
   (try simp only [Act.put, lz]);refine tkU 11 rfl (by kernel_rfl) (fun _ _ _ h => h) (by rfl) ‹_› ?_
   (try simp only [Act.put, lz]);refine tkU 12 rfl (by kernel_rfl) (fun _ _ _ h => h) (by rfl) ‹_› ?_
   (try simp only [Act.put, lz]);refine tkU 13 rfl (by kernel_rfl) (fun _ _ _ h => h) (by rfl) ‹_› ?_
   (try simp only [Act.put, lz]);refine tkU 14 rfl (by kernel_rfl) (fun _ _ _ h => h) (by rfl) ‹_› ?_
   (try simp only [Act.put, lz]);refine tkU 15 rfl (by kernel_rfl) (fun _ _ _ h => h) (by rfl) ‹_› ?_
   (try simp only [Act.put, lz]);refine tkU 16 rfl (by kernel_rfl) (fun _ _ _ h => h) (by rfl) ‹_› ?_
   (try simp only [Act.put, lz]);refine tkU 17 rfl (by kernel_rfl) (fun _ _ _ h => h) (by rfl) ‹_› ?_
   (try simp only [Act.put, lz]);refine tkH ?_ 18 rfl (by kernel_rfl) (fun _ _ _ h => h) (by rfl) ?_ ‹_› ?_;rotate_left
   ·intro w h; (try dsimp only at h); go_simp <;> with_reducible rfl
   (try simp only [Act.put, lz]);refine tkH ?_ 19 rfl (by kernel_rfl) (fun _ _ _ h => h) (by rfl) ?_ ‹_› ?_;rotate_left
   ·intro w h; (try dsimp only at h); go_simp <;> with_reducible rfl
   (try simp only [Act.put, lz]);refine wpAnyH_done (by kernel_rfl) ?_ _
   clear hHeld;go_wp2_with fail;go_ret;exact ⟨by rfl, KW.out.trans KD.out (by simp)⟩
  ·have hR : Hid (termC op vk xk (cmpV ⟨vk, vb, vn, vt⟩ ⟨xk, xb, xn, xt⟩) = teC op (cmpV ⟨vk, vb, vn, vt⟩ ⟨xk, xb, xn, xt⟩)) := by show _ = _; unfold termC; rw [if_neg h6, if_neg h7, if_neg hf]
   rw [hR.out];have hFF : (!(vk == 0) && !(xk == 0)) = true := by simp only [not_or] at hf; simp [hf.1, hf.2]
   rw [hFF] at aFu;have r1 := cmp_range ⟨vk, vb, vn, vt⟩ ⟨xk, xb, xn, xt⟩
   have aC := hid (fun W' => cCompare ⟨vk, vb, vn, vt⟩ ⟨xk, xb, xn, xt⟩ W')
   simp only [Val.v] at aC;generalize cmpV ⟨vk, vb, vn, vt⟩ ⟨xk, xb, xn, xt⟩ = A at *
   obtain ⟨m, rfl⟩ := Int.eq_ofNat_of_zero_le h8.1;have hm : m < 6 := by omega
   obtain ⟨n, hn⟩ := Int.eq_ofNat_of_zero_le (show 0 ≤ A + 1 by omega)
   have hn3 : n < 3 := by omega
   have hE : Hid (teC (m : Int) A = askL.getD (m * 3 + n) false) := by
    show _ = _
    obtain rfl : A = (n : Int) - 1 := by omega
    match m, hm with
    | 0, _ => match n, hn3 with
     | 0, _ => rfl
     | 1, _ => rfl
     | 2, _ => rfl
    | 1, _ => match n, hn3 with
     | 0, _ => rfl
     | 1, _ => rfl
     | 2, _ => rfl
    | 2, _ => match n, hn3 with
     | 0, _ => rfl
     | 1, _ => rfl
     | 2, _ => rfl
    | 3, _ => match n, hn3 with
     | 0, _ => rfl
     | 1, _ => rfl
     | 2, _ => rfl
    | 4, _ => match n, hn3 with
     | 0, _ => rfl
     | 1, _ => rfl
     | 2, _ => rfl
    | 5, _ => match n, hn3 with
     | 0, _ => rfl
     | 1, _ => rfl
     | 2, _ => rfl
    | m + 6, h => omega
   rw [hE.out];have wA : IntKind.i64.wrap (A + 1) = (n : Int) := by rw [hn, IntKind.wrap_i64]; omega
   have m1 : (0 : Int) ≤ (m : Int) := by omega
   have m2 : (m : Int) < 6 := by omega
   have n1 : (0 : Int) ≤ (n : Int) := by omega
   have n2 : (n : Int) < 3 := by omega
   have hF2 : Hid (∀ W', Kp [] WC W' → (W'.cell? ⟨w.heap.size, 0, none⟩ = some (.int .i64 (i : Int)) ∧ W'.cell? ⟨w.heap.size, 1, none⟩ = some (.int .i64 (m : Int)) ∧ W'.cell? ⟨w.heap.size, 2, none⟩ = some (.int .i64 xk) ∧ W'.cell? ⟨w.heap.size, 3, none⟩ = some (.bool xb) ∧ W'.cell? ⟨w.heap.size, 4, none⟩ = some (.int .i64 xn) ∧ W'.cell? ⟨w.heap.size, 5, none⟩ = some (.string xt) ∧ W'.cell? ⟨WA.heap.size, 0, none⟩ = some (.int .i64 vk) ∧ W'.cell? ⟨WA.heap.size, 1, none⟩ = some (.bool vb) ∧ W'.cell? ⟨WA.heap.size, 2, none⟩ = some (.int .i64 vn) ∧ W'.cell? ⟨WA.heap.size, 3, none⟩ = some (.string vt) ∧ W'.cell? ⟨0, m * 3 + n, none⟩ = some (.bool (askL.getD (m * 3 + n) false)))) := fun W' k => by
    have h1 := BB.out.1.kept k
    have h2 := BB.out.2.kept k
    exact ⟨h1.get 0 _ rfl, h1.get 1 _ rfl, h1.get 2 _ rfl, h1.get 3 _ rfl, h1.get 4 _ rfl, h1.get 5 _ rfl, h2.get 0 _ rfl, h2.get 1 _ rfl, h2.get 2 _ rfl, h2.get 3 _ rfl, (HT.out.kept k (by simp)).2 _ (by omega)⟩
   generalize askL.getD (m * 3 + n) false = R at *
   clear hFF hf hR HT h8 h6 h7 hE hn r1 hF;have hF := hF2
   clear hF2;go_enter Tryz.func147, Tryz.ntmps147
   go_wp2_with fail;refine wp_region_held_drew (S := fun W' => W'.cell? ⟨w.heap.size, 0, none⟩ = some (.int .i64 (i : Int)) ∧ W'.cell? ⟨w.heap.size, 1, none⟩ = some (.int .i64 (m : Int)) ∧ W'.cell? ⟨w.heap.size, 2, none⟩ = some (.int .i64 xk) ∧ W'.cell? ⟨w.heap.size, 3, none⟩ = some (.bool xb) ∧ W'.cell? ⟨w.heap.size, 4, none⟩ = some (.int .i64 xn) ∧ W'.cell? ⟨w.heap.size, 5, none⟩ = some (.string xt) ∧ W'.cell? ⟨WA.heap.size, 0, none⟩ = some (.int .i64 vk) ∧ W'.cell? ⟨WA.heap.size, 1, none⟩ = some (.bool vb) ∧ W'.cell? ⟨WA.heap.size, 2, none⟩ = some (.int .i64 vn) ∧ W'.cell? ⟨WA.heap.size, 3, none⟩ = some (.string vt) ∧ W'.cell? ⟨0, m * 3 + n, none⟩ = some (.bool R)) (by kernel_rfl) ?_ (fun hHeld => ?_)
   ·exact hF.out _ (Kp.refl _ _).drew
   have KD : Hid (Kp [] WC WC.drew) := hid (Kp.refl _ _).drew
   generalize WC.drew = Wd at *
   refine tkH ?_ 0 rfl (by kernel_rfl) (fun _ _ _ h => h) (by rfl) ?_ ‹_› ?_;rotate_left
   ·intro w h; (try dsimp only at h); go_simp <;> with_reducible rfl
   (try simp only [Act.put, lz]);refine tkH ?_ 1 rfl (by kernel_rfl) (fun _ _ _ h => h) (by rfl) ?_ ‹_› ?_;rotate_left
   ·intro w h; (try dsimp only at h); go_simp <;> with_reducible rfl
   (try simp only [Act.put, lz]);refine rdH 2 (by kernel_rfl) rfl fun K hK => ?_
   go_simp;refine (aO.out _).mono ?_;rintro e wx ⟨rfl, ex⟩;rw [ex];clear ex wx;(try go_wp2_with fail);refine hK.out _ _ ?_ (fun hHeld => ?_)
   ·exact hF.out _ KD.out
   clear hK K;(try simp only [Act.put, lz]);refine tkH ?_ 3 rfl (by kernel_rfl) (fun _ _ _ h => h) (by rfl) ?_ ‹_› ?_;rotate_left
   ·intro w h; (try dsimp only at h); go_simp <;> with_reducible rfl
   (try simp only [Act.put, lz]);refine tkH ?_ 4 rfl (by kernel_rfl) (fun _ _ _ h => h) (by rfl) ?_ ‹_› ?_;rotate_left
   ·intro w h; (try dsimp only at h); go_simp <;> with_reducible rfl
   (try simp only [Act.put, lz]);refine rdH 5 (by kernel_rfl) rfl fun K hK => ?_
   go_simp;refine (aFu.out _ KD.out).mono ?_;rintro e wx ⟨rfl, ex⟩;rw [ex];clear ex wx;(try go_wp2_with fail);refine hK.out _ _ ?_ (fun hHeld => ?_)
   ·exact hF.out _ KD.out
   clear hK K;(try simp only [Act.put, lz]);refine tkH ?_ 6 rfl (by kernel_rfl) (fun _ _ _ h => h) (by rfl) ?_ ‹_› ?_;rotate_left
   ·intro w h; (try dsimp only at h); go_simp <;> with_reducible rfl
   (try simp only [Act.put, lz]);refine tkH ?_ 7 rfl (by kernel_rfl) (fun _ _ _ h => h) (by rfl) ?_ ‹_› ?_;rotate_left
   ·intro w h; (try dsimp only at h); go_simp <;> with_reducible rfl
   (try simp only [Act.put, lz]);refine tkH ?_ 8 rfl (by kernel_rfl) (fun _ _ _ h => h) (by rfl) ?_ ‹_› ?_;rotate_left
   ·intro w h; (try dsimp only at h); go_simp <;> with_reducible rfl
   (try simp only [Act.put, lz]);refine tkH ?_ 9 rfl (by kernel_rfl) (fun _ _ _ h => h) (by rfl) ?_ ‹_› ?_;rotate_left
   ·intro w h; (try dsimp only at h); go_simp <;> with_reducible rfl
   (try simp only [Act.put, lz]);refine tkH ?_ 10 rfl (by kernel_rfl) (fun _ _ _ h => h) (by rfl) ?_ ‹_› ?_;rotate_left
   ·intro w h; (try dsimp only at h); go_simp <;> with_reducible rfl
   (try simp only [Act.put, lz]);refine tkH ?_ 11 rfl (by kernel_rfl) (fun _ _ _ h => h) (by rfl) ?_ ‹_› ?_;rotate_left
   ·intro w h; (try dsimp only at h); go_simp <;> with_reducible rfl
   (try simp only [Act.put, lz]);refine tkH ?_ 12 rfl (by kernel_rfl) (fun _ _ _ h => h) (by rfl) ?_ ‹_› ?_;rotate_left
   ·intro w h; (try dsimp only at h); go_simp <;> with_reducible rfl
   (try simp only [Act.put, lz]);refine tkH ?_ 15 rfl (by kernel_rfl) (fun _ _ _ h => h) (by rfl) ?_ ‹_› ?_;rotate_left
   ·intro w h; (try dsimp only at h); go_simp <;> with_reducible rfl
   (try simp only [Act.put, lz]);refine rdH 13 (by kernel_rfl) rfl fun K hK => ?_
   go_simp;refine (aC.out _).mono ?_;rintro e w1 ⟨rfl, k1⟩;(try go_wp2_with fail);refine hK.out _ _ ?_ (fun hHeld => ?_)
   ·exact hF.out _ (KD.out.trans k1 (by simp))
   clear hK K;(try simp only [Act.put, lz]);have K1 := hid (KD.out.trans k1 (by simp))
   clear k1 KD;refine tkH ?_ 14 rfl (by kernel_rfl) (fun _ _ _ h => h) (by rfl) ?_ ‹_› ?_;rotate_left
   ·intro w hSw; (try dsimp only at hSw); go_simp <;> (try simp only [wA]) <;> with_reducible rfl
   (try simp only [Act.put, lz]);refine tkH ?_ 16 rfl (by kernel_rfl) (fun _ _ _ h => h) (by rfl) ?_ ‹_› ?_;rotate_left
   ·intro w h; (try dsimp only at h); go_simp <;> with_reducible rfl
   (try simp only [Act.put, lz]);refine tkH ?_ 17 rfl (by kernel_rfl) (fun _ _ _ h => h) (by rfl) ?_ ‹_› ?_;rotate_left
   ·intro w h; (try dsimp only at h); go_simp <;> with_reducible rfl
   (try simp only [Act.put, lz]);refine tkH ?_ 18 rfl (by kernel_rfl) (fun _ _ _ h => h) (by rfl) ?_ ‹_› ?_;rotate_left
   ·intro w h; (try dsimp only at h); go_simp <;> with_reducible rfl
   (try simp only [Act.put, lz]);refine tkH ?_ 19 rfl (by kernel_rfl) (fun _ _ _ h => h) (by rfl) ?_ ‹_› ?_;rotate_left
   ·intro w h; (try dsimp only at h); go_simp <;> with_reducible rfl
   (try simp only [Act.put, lz]);refine wpAnyH_done (by kernel_rfl) ?_ _
   clear hHeld;go_wp2_with fail;go_ret;exact ⟨by rfl, KW.out.trans K1.out (by simp)⟩
 ·have hO : (decide (0 ≤ op) && decide (op < 6)) = false := by simp; omega
  rw [hO] at aO;have hR : Hid (termC op vk xk (cmpV ⟨vk, vb, vn, vt⟩ ⟨xk, xb, xn, xt⟩) = false) := by show _ = _; unfold termC teC; rw [if_neg h6, if_neg h7, if_neg (show ¬ op = 0 by omega), if_neg (show ¬ op = 1 by omega), if_neg (show ¬ op = 2 by omega), if_neg (show ¬ op = 3 by omega), if_neg (show ¬ op = 4 by omega), if_neg (show ¬ op = 5 by omega)]; simp
  rw [hR.out];clear hO hR HT h8 h6 h7;go_enter Tryz.func147, Tryz.ntmps147
  go_wp2_with fail;refine wp_region_held_drew (S := fun W' => W'.cell? ⟨w.heap.size, 0, none⟩ = some (.int .i64 (i : Int)) ∧ W'.cell? ⟨w.heap.size, 1, none⟩ = some (.int .i64 op) ∧ W'.cell? ⟨w.heap.size, 2, none⟩ = some (.int .i64 xk) ∧ W'.cell? ⟨w.heap.size, 3, none⟩ = some (.bool xb) ∧ W'.cell? ⟨w.heap.size, 4, none⟩ = some (.int .i64 xn) ∧ W'.cell? ⟨w.heap.size, 5, none⟩ = some (.string xt) ∧ W'.cell? ⟨WA.heap.size, 0, none⟩ = some (.int .i64 vk) ∧ W'.cell? ⟨WA.heap.size, 1, none⟩ = some (.bool vb) ∧ W'.cell? ⟨WA.heap.size, 2, none⟩ = some (.int .i64 vn) ∧ W'.cell? ⟨WA.heap.size, 3, none⟩ = some (.string vt)) (by kernel_rfl) ?_ (fun hHeld => ?_)
  ·exact hF.out _ (Kp.refl _ _).drew
  have KD : Hid (Kp [] WC WC.drew) := hid (Kp.refl _ _).drew
  generalize WC.drew = Wd at *
  refine tkH ?_ 0 rfl (by kernel_rfl) (fun _ _ _ h => h) (by rfl) ?_ ‹_› ?_;rotate_left
  ·intro w h; (try dsimp only at h); go_simp <;> with_reducible rfl
  (try simp only [Act.put, lz]);refine tkH ?_ 1 rfl (by kernel_rfl) (fun _ _ _ h => h) (by rfl) ?_ ‹_› ?_;rotate_left
  ·intro w h; (try dsimp only at h); go_simp <;> with_reducible rfl
  (try simp only [Act.put, lz]);refine rdH 2 (by kernel_rfl) rfl fun K hK => ?_
  go_simp;refine (aO.out _).mono ?_;rintro e wx ⟨rfl, ex⟩;rw [ex];clear ex wx;(try go_wp2_with fail);refine hK.out _ _ ?_ (fun hHeld => ?_)
  ·exact hF.out _ KD.out
  clear hK K;(try simp only [Act.put, lz]);refine tkH ?_ 3 rfl (by kernel_rfl) (fun _ _ _ h => h) (by rfl) ?_ ‹_› ?_;rotate_left
  ·intro w h; (try dsimp only at h); go_simp <;> with_reducible rfl
  (try simp only [Act.put, lz]);refine tkU 4 rfl (by kernel_rfl) (fun _ _ _ h => h) (by rfl) ‹_› ?_
  (try simp only [Act.put, lz]);refine tkU 5 rfl (by kernel_rfl) (fun _ _ _ h => h) (by rfl) ‹_› ?_
  (try simp only [Act.put, lz]);refine tkH ?_ 6 rfl (by kernel_rfl) (fun _ _ _ h => h) (by rfl) ?_ ‹_› ?_;rotate_left
  ·intro w h; (try dsimp only at h); go_simp <;> with_reducible rfl
  (try simp only [Act.put, lz]);refine tkH ?_ 7 rfl (by kernel_rfl) (fun _ _ _ h => h) (by rfl) ?_ ‹_› ?_;rotate_left
  ·intro w h; (try dsimp only at h); go_simp <;> with_reducible rfl
  (try simp only [Act.put, lz]);refine tkU 8 rfl (by kernel_rfl) (fun _ _ _ h => h) (by rfl) ‹_› ?_
  (try simp only [Act.put, lz]);refine tkU 9 rfl (by kernel_rfl) (fun _ _ _ h => h) (by rfl) ‹_› ?_
  (try simp only [Act.put, lz]);refine tkU 10 rfl (by kernel_rfl) (fun _ _ _ h => h) (by rfl) ‹_› ?_
  (try simp only [Act.put, lz]);refine tkU 11 rfl (by kernel_rfl) (fun _ _ _ h => h) (by rfl) ‹_› ?_
  (try simp only [Act.put, lz]);refine tkU 12 rfl (by kernel_rfl) (fun _ _ _ h => h) (by rfl) ‹_› ?_
  (try simp only [Act.put, lz]);refine tkU 13 rfl (by kernel_rfl) (fun _ _ _ h => h) (by rfl) ‹_› ?_
  (try simp only [Act.put, lz]);refine tkU 14 rfl (by kernel_rfl) (fun _ _ _ h => h) (by rfl) ‹_› ?_
  (try simp only [Act.put, lz]);refine tkU 15 rfl (by kernel_rfl) (fun _ _ _ h => h) (by rfl) ‹_› ?_
  (try simp only [Act.put, lz]);refine tkU 16 rfl (by kernel_rfl) (fun _ _ _ h => h) (by rfl) ‹_› ?_
  (try simp only [Act.put, lz]);refine tkU 17 rfl (by kernel_rfl) (fun _ _ _ h => h) (by rfl) ‹_› ?_
  (try simp only [Act.put, lz]);refine tkH ?_ 18 rfl (by kernel_rfl) (fun _ _ _ h => h) (by rfl) ?_ ‹_› ?_;rotate_left
  ·intro w h; (try dsimp only at h); go_simp <;> with_reducible rfl
  (try simp only [Act.put, lz]);refine tkH ?_ 19 rfl (by kernel_rfl) (fun _ _ _ h => h) (by rfl) ?_ ‹_› ?_;rotate_left
  ·intro w h; (try dsimp only at h); go_simp <;> with_reducible rfl
  (try simp only [Act.put, lz]);refine wpAnyH_done (by kernel_rfl) ?_ _
  clear hHeld;go_wp2_with fail;go_ret;exact ⟨by rfl, KW.out.trans KD.out (by simp)⟩
end Go.Proofs.YtlgfekjoknbfdaaGreatDoor
end

section
namespace Go.Proofs.YtlgfekjoknbfdaaGreatDoor
open Go.RowKit Go.Hay
end Go.Proofs.YtlgfekjoknbfdaaGreatDoor
end

section
namespace Go.Proofs.YtlgfekjoknbfdaaGreatDoor
open Go.RowKit Go.Hay
theorem xAll (a b : Option Addr) (ca cb : Nat) (l : List Tm) (r : List Val) (w : World) (hT : Asks w) (ht : TmE.See w a l) (hs : VE.See w b r) (hl : l.length ≤ 9223372036854775806) (hr : r.length ≤ 9223372036854775807) : Calls Tryz.prog 104 #[.slice a l.length ca, .slice b r.length cb] w fun e w' => e = .returned (.bool (allT l r)) ∧ Kp [] w w' := by
 have HS := hid hs
 have HTm := hid ht
 have HA := hid hT
 clear hs ht hT;obtain ⟨R, hR⟩ : ∃ R, Hid (allT l r = R) := ⟨_, hid rfl⟩
 rw [hR.out];go_enter Tryz.func104, Tryz.ntmps104
 go_wp2_with fail;go_loopw [9] (fun i wr => ∃ j : Nat, j ≤ l.length ∧ i = .int .i64 j ∧ Hid (allT (l.take j) r = true) ∧ Kp [] w wr) (fun i _ => l.length - (intOf i).toNat)
 case atStart => exact ⟨0, Nat.zero_le _, rfl, hid rfl, Kp.refl _ _⟩
 case round =>
  obtain ⟨j, hj, rfl, hst, kr⟩ := hrel
  by_cases hjl : j < l.length
  ·have hx : l[j]? = some l[j] := by simp [hjl]
   obtain ⟨g, o, rfl, x0, x1, x2, x3, x4, x5⟩ := tmAt (HTm.out.keptNew kr) hx;have i1 : (0 : Int) ≤ (j : Int) := by omega
   have i2 : (j : Int) < (l.length : Int) := by omega
   have i3 : (j : Int) + 1 ≤ 9223372036854775807 := by omega
   have hsu : Hid (allT (l.take (j + 1)) r = termT l[j] r) := by
    show _ = _
    have h1 := hst.out
    unfold allT at h1 ⊢
    rw [List.take_succ_eq_append_getElem hjl, List.all_append, h1];simp
   have hno : Hid (termT l[j] r = false → R = false) := fun e => by
    rw [← hR.out];unfold allT
    rw [List.all_eq_false];exact ⟨_, List.getElem_mem hjl, by rw [e]; simp⟩
   clear hx;generalize l[j] = t at *
   obtain ⟨WA, eWA⟩ : ∃ Y, wr.alloc (.cells #[.int .i64 0, .int .i64 0, .int .i64 0, .bool false, .int .i64 0, .string ⟨#[]⟩] 145) = Y := ⟨_, rfl⟩
   have kWA : Kp [] wr WA := by rw [← eWA]; exact (Kp.refl _ _).alloc _
   have zWA : WA.heap.size = wr.heap.size + 1 := by rw [← eWA]; simp
   have xWA : Bn WA (wr.heap.size) [.int .i64 0, .int .i64 0, .int .i64 0, .bool false, .int .i64 0, .string ⟨#[]⟩] := by rw [← eWA]; exact Bn.new wr [.int .i64 0, .int .i64 0, .int .i64 0, .bool false, .int .i64 0, .string ⟨#[]⟩] 145
   obtain ⟨WB, eWB⟩ : ∃ Y, ((((((WA.setCell ⟨wr.heap.size, 0, none⟩ (.int .i64 t.co)).setCell ⟨wr.heap.size, 1, none⟩ (.int .i64 t.op)).setCell ⟨wr.heap.size, 2, none⟩ (.int .i64 t.x.k)).setCell ⟨wr.heap.size, 3, none⟩ (.bool t.x.b)).setCell ⟨wr.heap.size, 4, none⟩ (.int .i64 t.x.n)).setCell ⟨wr.heap.size, 5, none⟩ (.string t.x.t)) = Y := ⟨_, rfl⟩
   have kWB : Kp [wr.heap.size] WA WB := by rw [← eWB]; exact (((((((Kp.refl _ _).setCell (by simp) _).setCell (by simp) _).setCell (by simp) _).setCell (by simp) _).setCell (by simp) _).setCell (by simp) _)
   have xWB : Bn WB (wr.heap.size) [.int .i64 t.co, .int .i64 t.op, .int .i64 t.x.k, .bool t.x.b, .int .i64 t.x.n, .string t.x.t] := by rw [← eWB]; exact ((((((xWA.set 0 (by simp) (.int .i64 t.co)).set 1 (by simp) (.int .i64 t.op)).set 2 (by simp) (.int .i64 t.x.k)).set 3 (by simp) (.bool t.x.b)).set 4 (by simp) (.int .i64 t.x.n)).set 5 (by simp) (.string t.x.t))
   have zWB := kWB.size
   have ma0 := xWA.get 0 _ rfl; have ma1 := xWA.get 1 _ rfl; have ma2 := xWA.get 2 _ rfl; have ma3 := xWA.get 3 _ rfl; have ma4 := xWA.get 4 _ rfl; have ma5 := xWA.get 5 _ rfl
   have mf0 := xWA.free 0; have mf1 := xWA.free 1; have mf2 := xWA.free 2; have mf3 := xWA.free 3; have mf4 := xWA.free 4; have mf5 := xWA.free 5
   have pc0 := xWB.get 0 _ rfl; have pc1 := xWB.get 1 _ rfl; have pc2 := xWB.get 2 _ rfl; have pc3 := xWB.get 3 _ rfl; have pc4 := xWB.get 4 _ rfl; have pc5 := xWB.get 5 _ rfl
   have kB : Kp [] wr WB := kWA.trans kWB (fun x hx => .inr (by simp at hx; omega))
   have KB := hid (kr.trans kB (by simp))
   have aT := hid (xTerm t b cb r WB (HA.out.kept KB.out (by simp)) (HS.out.keptNew KB.out) hr)
   clear kWA kWB xWA xWB kB;generalize termT t r = Z at *
   obtain ⟨co, op, ⟨xk, xb, xn, xt⟩⟩ := t;simp only [Tm.v] at *;go_wp2_with fail;refine aT.out.mono ?_;rintro e w2 ⟨rfl, k2⟩;have K2 := hid (KB.out.trans k2 (by simp))
   clear aT k2 KB x0 x1 x2 x3 x4 x5 eWA eWB ma0 ma1 ma2 ma3 ma4 ma5 mf0 mf1 mf2 mf3 mf4 mf5 pc0 pc1 pc2 pc3 pc4 pc5
   cases Z with
   | false =>
    have h3 := hid (hno.out rfl)
    clear hno hsu;go_wp2_with fail;go_ret;exact ⟨by rw [h3.out]; rfl, K2.out⟩
   | true =>
    clear hno;go_wp2_with fail;exact ⟨⟨j + 1, by omega, by go_num, hsu, K2.out⟩, by simp [intOf]; omega⟩
  ·have e : j = l.length := by omega
   subst e;have h4 : Hid (R = true) := by show _ = _; rw [← hR.out]; have := hst.out; rwa [List.take_length] at this
   go_wp2_with fail;go_ret;exact ⟨by rw [h4.out]; rfl, kr⟩
end Go.Proofs.YtlgfekjoknbfdaaGreatDoor
end

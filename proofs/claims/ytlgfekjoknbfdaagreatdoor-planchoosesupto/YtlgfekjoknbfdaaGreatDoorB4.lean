/- What the proof stands on: contracts of functions that the statement calls, and plain lemmas. No statement of the seat is proved here. -/
import Derived.Test.YtlgfekjoknbfdaaGreatDoorB3
import Derived.Lib.AppendZeros
import Derived.Test.YtlgfekjoknbfdaaGreatDoorB1
set_option maxHeartbeats 64000000
set_option maxRecDepth 100000
set_option linter.unusedVariables false
set_option linter.unusedSimpArgs false
section
namespace Go.Proofs.YtlgfekjoknbfdaaGreatDoor
open Go.RowKit Go.Hay
attribute [local go_sem] Oper.semAt_some
theorem appVY {W : World} {a : Option Addr} {c : Nat} {l : List Val} (h : VE.Row W (.slice a l.length c) l) (a2 : Option Addr) (c2 : Nat) (ys : List Val) (hs : Vals W a2 ys) (hl : l.length + ys.length ≤ 3600000000000) :
  ∃ a' c' W', (Builtin.append_ #[61, 61] 61 #[.slice a l.length c, .slice a2 ys.length c2]).run Tryz.prog W = .ok (.slice a' (l ++ ys).length c') W' ∧ VE.Row W' (.slice a' (l ++ ys).length c') (l ++ ys) ∧ Kp (blk a) W W' ∧ ∀ k ∈ blk a', k ∈ blk a ∨ W.heap.size ≤ k := by
 obtain ⟨i0, hi, hz0, hz1, hz2⟩ := infoVal;have hsrc := (seeV.2 hs).src (P := Tryz.prog) Tryz.underlying61 c2
 obtain ⟨v6, X4, hrun2, hrow6, kk6, hn6⟩ := run_appendG (E := VE) (P := Tryz.prog) _ 61 61 61 88 i0 _ 40 Tryz.underlying61 hi hz0 hz1 hz2 rfl (.slice a l.length c) l h _ ys hsrc (by omega) (by omega)
 obtain ⟨a6, c6, rfl, _⟩ := hrow6.see;rw [ownV] at kk6;simp only [ownV] at hn6;exact ⟨a6, c6, X4, hrun2, hrow6, kk6, hn6⟩
def pickV (l : List Val) (ps : List Int) : List Val := ps.map fun p => vAt l p
theorem pickV_take {l : List Val} {ps : List Int} {j : Nat} (h : j < ps.length) : pickV l (ps.take (j + 1)) = pickV l (ps.take j) ++ [vAt l ps[j]] := by
 unfold pickV
 rw [List.take_succ_eq_append_getElem h, List.map_append];rfl
theorem appV1 {W : World} {a : Option Addr} {c : Nat} {l : List Val} (h : VE.Row W (.slice a l.length c) l) (v : Val) (hl : l.length ≤ 3000000000000) :
  ∃ a' c' W', (Builtin.append_ #[61, 61] 61 #[.slice a l.length c, .slice (some ⟨W.heap.size, 0, none⟩) 1 1]).run Tryz.prog (W.alloc (.cells #[.int .i64 v.k, .bool v.b, .int .i64 v.n, .string v.t] 88)) = .ok (.slice a' (l ++ [v]).length c') W' ∧ VE.Row W' (.slice a' (l ++ [v]).length c') (l ++ [v]) ∧ Kp (blk a) W W' ∧ ∀ k ∈ blk a', k ∈ blk a ∨ W.heap.size ≤ k := by
 obtain ⟨A1, hA1⟩ : ∃ A1, W.alloc (.cells #[.int .i64 v.k, .bool v.b, .int .i64 v.n, .string v.t] 88) = A1 := ⟨_, rfl⟩
 have kA1 : Kp [] W A1 := by rw [← hA1]; exact (Kp.refl _ _).alloc _
 have bx1 : Bn A1 W.heap.size (VE.c v) := by rw [← hA1]; exact Bn.new W (VE.c v) _
 have hs1 : VE.See A1 (some ⟨W.heap.size, 0, none⟩) [v] := .inr ⟨W.heap.size, 0, rfl, fun j u hu => by rw [Nat.zero_add]; exact bx1.get j u (by simpa [El.cs] using hu)⟩
 obtain ⟨a', c', W', hrun, hrow, k, hn⟩ := appVY (h.keptNew kA1) (some ⟨W.heap.size, 0, none⟩) 1 [v] (seeV.1 hs1) (by simp; omega)
 rw [hA1];have z1 := kA1.size
 exact ⟨a', c', W', hrun, hrow, (kA1.mono (by simp)).trans k (fun j hj => .inl hj), fun k hk => by
  rcases hn k hk with e | e
  ·exact .inl e
  ·exact .inr (by omega)⟩
theorem makeV0 (w : World) (n : Nat) (hn : n ≤ 3000000000000) : ∃ W, (Instr.makeSlice 61 (.int .i64 0) (.int .i64 (n : Int))).run Tryz.prog w = .ok (.slice (some ⟨w.heap.size, 0, none⟩) 0 n) W ∧ VE.Row W (.slice (some ⟨w.heap.size, 0, none⟩) 0 n) [] ∧ Kp [] w W := by
 obtain ⟨i0, hi, hz0, hz1, hz2⟩ := infoVal;have hr := run_make (P := Tryz.prog) w 61 88 i0 _ Tryz.underlying61 hi hz0 .i64 .i64 0 n (by omega) (by omega) (by rw [hz2]; omega) (by omega)
 rw [Int.toNat_natCast, hz1] at hr;refine ⟨_, hr, .inr ⟨w.heap.size, 0, n, rfl, Nat.zero_le _, by unfold maxLen; omega, by simp, fun j u hu => by simp [El.cs] at hu, fun j hj => ⟨?_, World.frozen?_alloc_new w _ _ (0 + j)⟩⟩, (Kp.refl _ _).alloc _⟩
 have e1 := World.cell?_alloc_new w (madeCells (Value.agg #[.int .i64 0, .bool false, .int .i64 0, .string ⟨#[]⟩]).cells (n * 4)) 88 (0 + j)
 refine (congrArg Option.isSome e1).trans ?_;have e5 : VE.n = 4 := rfl
 rw [e5] at hj;unfold madeCells
 rw [Nat.zero_add, Array.getElem?_map, Array.getElem?_range, if_pos hj];rfl
theorem cPick (a : Option Addr) (c : Nat) (l : List Val) (pa : Option Addr) (pc : Nat) (ps : List Int) (w : World) (ha : Vals w a l) (hl : l.length ≤ 9223372036854775807) (hp : IntE.See w pa ps) (hpl : ps.length ≤ 3000000000000) :
  Calls Tryz.prog 146 #[.slice a l.length c, .slice pa ps.length pc] w (NewR (pickV l ps) w) := by
 have HA := hid ha
 have HP := hid hp
 obtain ⟨W, hmk, hr0, k0⟩ := makeV0 w ps.length hpl;have H0 : Hid (VE.Row W (.slice (some ⟨w.heap.size, 0, none⟩) 0 ps.length) [] ∧ Kp [] w W ∧ ∀ k ∈ blk (some (⟨w.heap.size, 0, none⟩ : Addr)), w.heap.size ≤ k) := ⟨hr0, k0, fun k hk => by simp [blk] at hk; omega⟩
 clear ha hp hr0 k0;go_enter Tryz.func146, Tryz.ntmps146
 go_wp2_with fail;go_loopw [5, 13] (fun v5 i wr => ∃ (j : Nat) (ra : Option Addr) (rc : Nat) (m : List Val), j ≤ ps.length ∧ i = .int .i64 (j : Int) ∧ v5 = .slice ra m.length rc ∧ Hid (m = pickV l (ps.take j)) ∧ Hid (VE.Row wr (.slice ra m.length rc) m ∧ Kp [] w wr ∧ ∀ k ∈ blk ra, w.heap.size ≤ k)) (fun _ i _ => ps.length - (intOf i).toNat)
 case atStart => exact ⟨0, _, _, [], Nat.zero_le _, rfl, rfl, rfl, H0⟩
 case round =>
  obtain ⟨j, ra, rc, m, hj, rfl, rfl, hm, H⟩ := hrel;clear H0
  by_cases hlt : j < ps.length
  ·obtain ⟨g, o, ea, c0⟩ := intAt HP.out j hlt
   have cg := kpAt H.out.2.1 c0
   have hpt := hid (pickV_take (l := l) hlt)
   obtain ⟨p, hp⟩ : ∃ p, Hid (ps[j] = p) := ⟨ps[j], rfl⟩
   rw [hp.out] at cg hpt;have cA := hid (cAtE a c l p wr (HA.out.kept H.out.2.1) hl)
   obtain ⟨⟨vk, vb, vn, vt⟩, hv⟩ : ∃ v, Hid (vAt l p = v) := ⟨vAt l p, rfl⟩
   rw [hv.out] at cA hpt;dsimp only at cA;have hml : m.length ≤ 3000000000000 := by rw [hm.out]; unfold pickV; simp; omega
   have i1 : (0 : Int) ≤ (j : Int) := by omega
   have i2 : (j : Int) < (ps.length : Int) := by omega
   have i3 : (j : Int) + 1 ≤ 9223372036854775807 := by omega
   subst ea;clear c0;go_wp2_with fail;refine cA.out.mono ?_;rintro e wd ⟨rfl, kd⟩;obtain ⟨a4, c4, W4, hrun, hr4, k4, hn4⟩ := appV1 (H.out.1.keptNew kd) ⟨vk, vb, vn, vt⟩ hml;obtain ⟨m4, hm4⟩ : ∃ m4, Hid (m ++ [(⟨vk, vb, vn, vt⟩ : Val)] = m4) := ⟨_, rfl⟩
   rw [hm4.out] at hrun hr4;dsimp only at hrun;have kwd := H.out.2.1.trans kd (by simp)
   have HF : Hid (VE.Row W4 (.slice a4 m4.length c4) m4 ∧ Kp [] w W4 ∧ ∀ k ∈ blk a4, w.heap.size ≤ k) := ⟨hr4, kwd.trans k4 (fun x hx => .inr (H.out.2.2 x hx)), fun k hk => by
    rcases hn4 k hk with e | e
    ·exact H.out.2.2 k e
    ·have := kwd.size; omega⟩
   have hm5 : Hid (m4 = pickV l (ps.take (j + 1))) := by show _ = _; rw [hpt.out, ← hm.out, hm4.out]
   clear cA kd hr4 k4 hn4 kwd;go_wp2_with (first | (refine wpAppRunY rfl _ _ 61 61 rfl _ _ _ rfl rfl hrun ?_) | fail)
   go_roundw
   case rel => exact ⟨j + 1, a4, c4, m4, by omega, by go_num, rfl, hm5, HF⟩
   case measure => simp [intOf]; omega
  ·have hmm : m = pickV l ps := by rw [hm.out, show j = ps.length by omega, List.take_length]
   have dj1 : ¬ (j : Int) < (ps.length : Int) := by omega
   have dj2 : decide ((j : Int) < (ps.length : Int)) = false := by simp; omega
   subst hmm;go_wp2_with fail;go_ret;exact ⟨ra, rc, rfl, H.out.1, H.out.2.1, H.out.2.2⟩
theorem roomJ_of_none {F : Fence} (hd : F.depth = none) (k : Nat) : F.room k := fun d h => by rw [hd] at h; cases h
theorem RoundIn.anyDepthJ {F : Fence} (hd : F.depth = none) {m m' : Nat} {P : Program} {l : Nat} {f : FuncId} {tmps : Array Value} {assign body : Code} {w : World} {R : Ending → World → Prop}
  (h : RoundIn F m P l f tmps assign body w R) : RoundIn F m' P l f tmps assign body w R := ⟨h.1, fun c cs _ => h.2 c cs (roomJ_of_none hd _)⟩
structure MJ (lo ro : Int) (q2 q4 q5 q6 ly N : Nat) (sra : Option Addr) (src : Nat) (SL : List Vs) (W : World) : Prop where
 c2 : W.cell? ⟨q2, 0, none⟩ = some (.int .i64 ro)
 c4 : W.cell? ⟨q4, 0, none⟩ = some (.int .i64 lo)
 c5 : W.cell? ⟨q5, 0, none⟩ = some (.func (.yield ly) #[] #[])
 c6 : W.cell? ⟨q6, 0, none⟩ = some (.slice sra SL.length src)
 lot : Lot N sra src SL W
def mjs (q2 q4 q5 q6 : Nat) (sra : Option Addr) (SL : List Vs) : List Nat := [q2, q4, q5, q6] ++ blk sra ++ SL.flatMap fun x => blk x.a
theorem MJ.ck {lo ro : Int} {q2 q4 q5 q6 ly N : Nat} {sra : Option Addr} {src : Nat} {SL : List Vs} {X Y : World} (h : MJ lo ro q2 q4 q5 q6 ly N sra src SL X) (k : CK (fun k => k ∈ mjs q2 q4 q5 q6 sra SL) X Y) : MJ lo ro q2 q4 q5 q6 ly N sra src SL Y :=
 ⟨(k.2 ⟨q2, 0, none⟩ _ (by simp [mjs]) h.c2).1, (k.2 ⟨q4, 0, none⟩ _ (by simp [mjs]) h.c4).1, (k.2 ⟨q5, 0, none⟩ _ (by simp [mjs]) h.c5).1, (k.2 ⟨q6, 0, none⟩ _ (by simp [mjs]) h.c6).1, h.lot.ck k (fun j hj => by simp [mjs, hj]) (fun x hx j hj => by simp only [mjs, List.mem_append, List.mem_flatMap]; exact .inr ⟨x, hx, hj⟩)⟩
theorem ckOfKeepB {js : List Nat} {X Y : World} (h : KeepB js X Y) : CK (fun k => k ∈ js) X Y := ⟨h.1, fun p u hp hc => by
 have hl := World.block_lt_of_cell? _ _ hc
 have e : X.heap[p.block]? = some X.heap[p.block] := by simp [hl]
 have e2 := (h.2 _ hp _ e).trans e.symm
 exact ⟨(World.cell?_of_block e2).trans hc, World.frozen?_of_block e2⟩⟩
end Go.Proofs.YtlgfekjoknbfdaaGreatDoor
end

section
namespace Go.Proofs.YtlgfekjoknbfdaaGreatDoor
open Go.RowKit Go.Hay
attribute [local go_sem] Oper.semAt_some
attribute [local go_sem] Oper.semAt_some
end Go.Proofs.YtlgfekjoknbfdaaGreatDoor
end

section
namespace Go.Proofs.YtlgfekjoknbfdaaGreatDoor
open Go.RowKit Go.Hay
attribute [local go_sem] Oper.semAt_some
def AgE : El (Int × Int) where
 n := 2
 c x := [.int .i64 x.1, .int .i64 x.2]
 len _ := rfl
 one _ u hu := by simp at hu; rcases hu with rfl | rfl <;> rfl
 pos := by decide
theorem agAt {w : World} {a : Option Addr} {l : List (Int × Int)} (h : AgE.See w a l) (j : Nat) (hj : j < l.length) : ∃ g o, a = some ⟨g, o, none⟩ ∧ w.cell? ⟨g, o + j * 2, none⟩ = some (.int .i64 l[j].1) ∧ w.cell? ⟨g, o + j * 2 + 1, none⟩ = some (.int .i64 l[j].2) := by
 obtain ⟨g, o, e, hc⟩ := h.at (j := j) (x := l[j]) (by simp [hj])
 exact ⟨g, o, e, hc 0 _ rfl, hc 1 _ rfl⟩
end Go.Proofs.YtlgfekjoknbfdaaGreatDoor
end

section
namespace Go.Proofs.YtlgfekjoknbfdaaGreatDoor
open Go.RowKit Go.Hay
attribute [local go_sem] Oper.semAt_some
end Go.Proofs.YtlgfekjoknbfdaaGreatDoor
end

section
namespace Go.Proofs.YtlgfekjoknbfdaaGreatDoor
open Go.RowKit Go.Hay
attribute [local go_sem] Oper.semAt_some
theorem infoIY : ∃ i : TypeInfo, Tryz.prog.info? 3 = some i ∧ i.zero = some (.int .i64 0) ∧ i.size = 1 ∧ i.bytes = 8 := by
 have h : (Tryz.prog.info? 3).map (fun i => (i.zero, i.size, i.bytes)) = some (some (.int .i64 0), 1, 8) := by kernel_rfl
 cases e : Tryz.prog.info? 3 with
 | none => rw [e] at h; cases h
 | some i =>
  rw [e] at h;simp at h
  exact ⟨i, rfl, h.1, h.2.1, h.2.2⟩
theorem eqNilIY (a : Option Addr) (n c : Nat) (w : World) : (binOp .eql 27 (.slice a n c) (.slice none 0 0)).run Tryz.prog w = .ok (.bool a.isNone) w := by
 simp only [binOp];simp [run_equal_slice_nil w 27 3 a n c Tryz.underlying27]
def NewIY (l : List (Int)) (w : World) (e : Ending) (w' : World) : Prop := ∃ a c, e = .returned (.slice a l.length c) ∧ IntE.Row w' (.slice a l.length c) l ∧ Kp [] w w' ∧ ∀ k ∈ blk a, w.heap.size ≤ k
theorem cCloneIY (a : Option Addr) (c : Nat) (l : List (Int)) (w : World) (hs : IntE.See w a l) (hn : a = none → c = 0) (hb : l.length ≤ 3600000000000) :
  Calls Tryz.prog 139 #[.slice a l.length c] w (NewIY l w) := by
 cases a with
 | none =>
  have hl : l = [] := by rcases hs with h | ⟨g, o, h, _⟩; exact h; cases h
  subst hl;rw [hn rfl];have e1 := eqNilIY none 0 0
  go_enter Tryz.func139, Tryz.ntmps139
  go_wp2_with fail;go_ret;exact ⟨none, 0, rfl, .inl ⟨rfl, rfl⟩, Kp.refl _ _, by simp [blk]⟩
 | some ad =>
  have e0 := eqNilIY (some ad) l.length c
  go_enter Tryz.func139, Tryz.ntmps139
  have k1 : Kp [] w (w.alloc (.cells #[] 3)) := (Kp.refl _ _).alloc _
  have hr := rowNoneY IntE w rfl #[] 3
  have hsr := (hs.keptNew k1).src (P := Tryz.prog) Tryz.underlying27 c
  obtain ⟨i0, hi, hz0, hz1, hz2⟩ := infoIY;go_wp2_with (first | (refine wpAppG (E := IntE) rfl _ _ 27 27 3 rfl i0 _ 8 Tryz.underlying27 hi hz0 hz1 hz2 rfl _ [] rfl hr _ l rfl hsr (by simp; omega) (by simp; omega) ?_; intro ys a' c' w' hy hrow hg hn) | fail)
  go_ret;have e : ys = l := by rw [hy.out]; rfl
  subst e;refine ⟨a', c', rfl, hrow, k1.trans hg (fun k hk => .inr ?_), fun k hk => ?_⟩
  ·simp [own, Value.ownBlock, Act.eval] at hk; omega
  ·rcases hn k hk with h1 | h1
   ·simp [own, Value.ownBlock, Act.eval] at h1; omega
   ·exact Nat.le_trans k1.size h1
end Go.Proofs.YtlgfekjoknbfdaaGreatDoor
end

section
namespace Go.Proofs.YtlgfekjoknbfdaaGreatDoor
open Go.RowKit Go.Hay
attribute [local go_sem] Oper.semAt_some
end Go.Proofs.YtlgfekjoknbfdaaGreatDoor
end

section
namespace Go.Proofs.YtlgfekjoknbfdaaGreatDoor
open Go.RowKit Go.Hay
attribute [local go_sem] Oper.semAt_some
structure Mb where
 k : Vs
 r : Vs
instance : Inhabited Mb := ⟨⟨default, default⟩⟩
def MbE : El Mb where
 n := 2
 c x := [.slice x.k.a x.k.l.length x.k.c, .slice x.r.a x.r.l.length x.r.c]
 len _ := rfl
 one _ u hu := by simp at hu; rcases hu with rfl | rfl <;> rfl
 pos := by decide
def Mb.bs (x : Mb) : List Nat := blk x.k.a ++ blk x.r.a
def Mb.pr (x : Mb) : List Val × List Val := (x.k.l, x.r.l)
def mbR (bs : List Int) (R : List (List Val)) : List (List Val × List Val) := R.map fun l => (pickV l bs, l)
structure Mb.lies (w : World) (x : Mb) : Prop where
 k : x.k.lies w
 r : x.r.lies w
theorem Mb.lies.ck {P : Nat → Prop} {X Y : World} {x : Mb} (hx : Mb.lies X x) (h : CK P X Y) (hP : ∀ k ∈ x.bs, P k) : Mb.lies Y x := ⟨hx.k.ck h (fun k hk => hP k (by simp [Mb.bs, hk])), hx.r.ck h (fun k hk => hP k (by simp [Mb.bs, hk]))⟩
theorem mbAt {w : World} {a : Option Addr} {l : List Mb} (h : MbE.See w a l) (j : Nat) (hj : j < l.length) : ∃ g o, a = some ⟨g, o, none⟩ ∧ w.cell? ⟨g, o + j * 2, none⟩ = some (.slice l[j].k.a l[j].k.l.length l[j].k.c) ∧ w.cell? ⟨g, o + j * 2 + 1, none⟩ = some (.slice l[j].r.a l[j].r.l.length l[j].r.c) := by
 obtain ⟨g, o, e, hc⟩ := h.at (j := j) (x := l[j]) (by simp [hj])
 exact ⟨g, o, e, hc 0 _ rfl, hc 1 _ rfl⟩
structure Lom (N : Nat) (ra : Option Addr) (rc : Nat) (L : List Mb) (W : World) : Prop where
 row : MbE.Row W (.slice ra L.length rc) L
 lies : ∀ x ∈ L, Mb.lies W x
 own : ∀ k ∈ blk ra, N ≤ k
 rows : ∀ x ∈ L, ∀ k ∈ x.bs, N ≤ k ∧ k < W.heap.size ∧ k ∉ blk ra
theorem Lom.nil (N : Nat) (W : World) : Lom N none 0 [] W := ⟨.inl ⟨rfl, rfl⟩, by simp, by simp [blk], by simp⟩
theorem Lom.ck {N : Nat} {ra : Option Addr} {rc : Nat} {L : List Mb} {P : Nat → Prop} {X Y : World} (h : Lom N ra rc L X) (k : CK P X Y) (h1 : ∀ k ∈ blk ra, P k) (h2 : ∀ x ∈ L, ∀ k ∈ x.bs, P k) : Lom N ra rc L Y :=
 ⟨ckRow k h.row h1, fun x hx => (h.lies x hx).ck k (h2 x hx), h.own, fun x hx j hj => ⟨(h.rows x hx j hj).1, Nat.lt_of_lt_of_le (h.rows x hx j hj).2.1 k.1, (h.rows x hx j hj).2.2⟩⟩
theorem Lom.lt {N : Nat} {ra : Option Addr} {rc : Nat} {L : List Mb} {X : World} (h : Lom N ra rc L X) : ∀ k ∈ blk ra, k < X.heap.size := fun k hk => h.row.lt k (by rw [ownV]; exact hk)
theorem Lom.mono {N M : Nat} {ra : Option Addr} {rc : Nat} {L : List Mb} {X : World} (h : Lom N ra rc L X) (hm : M ≤ N) : Lom M ra rc L X :=
 ⟨h.row, h.lies, fun k hk => Nat.le_trans hm (h.own k hk), fun x hx k hk => ⟨Nat.le_trans hm (h.rows x hx k hk).1, (h.rows x hx k hk).2⟩⟩
theorem infoMb : ∃ i : TypeInfo, Tryz.prog.info? 206 = some i ∧ i.zero = some (.agg #[.slice none 0 0, .slice none 0 0]) ∧ i.size = 2 ∧ i.bytes = 48 := by
 have h : (Tryz.prog.info? 206).map (fun i => (i.zero, i.size, i.bytes)) = some (some (.agg #[.slice none 0 0, .slice none 0 0]), 2, 48) := by kernel_rfl
 cases e : Tryz.prog.info? 206 with
 | none => rw [e] at h; cases h
 | some i =>
  rw [e] at h;simp at h
  exact ⟨i, rfl, h.1, h.2.1, h.2.2⟩
theorem Lom.app {N : Nat} {ra : Option Addr} {rc : Nat} {L : List Mb} {w : World} (h : Lom N ra rc L w) (x : Mb) (hx : Mb.lies w x) (hN : N ≤ w.heap.size) (hb : ∀ k ∈ x.bs, N ≤ k ∧ k < w.heap.size ∧ k ∉ blk ra) (hl : L.length ≤ 4000000000000) :
  ∃ a' c' W', (Builtin.append_ #[201, 201] 201 #[.slice ra L.length rc, .slice (some ⟨w.heap.size, 0, none⟩) 1 1]).run Tryz.prog (w.alloc (.cells #[.slice x.k.a x.k.l.length x.k.c, .slice x.r.a x.r.l.length x.r.c] 206)) = .ok (.slice a' (L ++ [x]).length c') W' ∧ Lom N a' c' (L ++ [x]) W' ∧ Kp (blk ra) w W' ∧ ∀ k ∈ blk a', k ∈ blk ra ∨ w.heap.size ≤ k := by
 obtain ⟨A1, hA1⟩ : ∃ A1, w.alloc (.cells #[.slice x.k.a x.k.l.length x.k.c, .slice x.r.a x.r.l.length x.r.c] 206) = A1 := ⟨_, rfl⟩
 have kA1 : Kp [] w A1 := by rw [← hA1]; exact (Kp.refl _ _).alloc _
 have bx1 : Bn A1 w.heap.size (MbE.c x) := by rw [← hA1]; exact Bn.new w (MbE.c x) _
 have hs1 : MbE.See A1 (some ⟨w.heap.size, 0, none⟩) [x] := .inr ⟨w.heap.size, 0, rfl, fun j u hu => by rw [Nat.zero_add]; exact bx1.get j u (by simpa [El.cs] using hu)⟩
 obtain ⟨i0, hi, hz0', hz1', hz2'⟩ := infoMb;have hsr := hs1.src (P := Tryz.prog) Tryz.underlying201 1
 obtain ⟨v', A2, hrun, hrow2, k2, hn2⟩ := run_appendG (E := MbE) (P := Tryz.prog) A1 201 201 201 206 i0 _ 48 Tryz.underlying201 hi hz0' hz1' hz2' rfl (.slice ra L.length rc) L (h.row.keptNew kA1) _ [x] hsr (by simp only [List.length_cons, List.length_nil]; omega) (by simp only [List.length_cons, List.length_nil]; omega)
 obtain ⟨a', c', rfl, _⟩ := hrow2.see;simp only [ownV] at k2 hn2;rw [hA1];have z1 := kA1.size
 have kw : Kp (blk ra) w A2 := (kA1.mono (by simp)).trans k2 (fun j hj => .inl hj)
 have hnew : ∀ k ∈ blk a', k ∈ blk ra ∨ w.heap.size ≤ k := fun k hk => by
  rcases hn2 k hk with e | e
  ·exact .inl e
  ·exact .inr (by omega)
 have ck := CK.ofKp kw
 refine ⟨a', c', A2, hrun, ⟨hrow2, fun y hy => ?_, fun k hk => ?_, fun y hy k hk => ?_⟩, kw, hnew⟩
 ·rcases List.mem_append.1 hy with hy | hy
  ·exact (h.lies y hy).ck ck (fun k hk => (h.rows y hy k hk).2.2)
  ·rw [List.mem_singleton.1 hy]; exact hx.ck ck (fun k hk => (hb k hk).2.2)
 ·rcases hnew k hk with e | e
  ·exact h.own k e
  ·omega
 ·have h0 : N ≤ k ∧ k < w.heap.size ∧ k ∉ blk ra := by
   rcases List.mem_append.1 hy with hy | hy
   ·exact h.rows y hy k hk
   ·rw [List.mem_singleton.1 hy] at hk; exact hb k hk
  refine ⟨h0.1, Nat.lt_of_lt_of_le h0.2.1 kw.size, fun hm => ?_⟩
  rcases hnew k hm with e | e
  ·exact h0.2.2 e
  ·omega
structure GamJ (w1 : World) (q3 : Nat) (R : List (List Val)) (bs : List Int) (s : Sr) (W : World) (ra : Option Addr) (rc : Nat) (L : List Mb) : Prop where
 co : CoR w1 [q3] s W
 box : W.cell? ⟨q3, 0, none⟩ = some (.slice ra L.length rc)
 free : W.frozen? ⟨q3, 0, none⟩ = false
 lot : Lom w1.heap.size ra rc L W
 took : L.map Mb.pr = mbR bs (R.take s.i)
 ne : ∀ k ∈ blk ra, k ∉ s.js ∧ k ∉ s.qs
 nes : ∀ x ∈ L, ∀ k ∈ x.bs, k ∉ s.qs
 nil : L = [] → ra = none
 pend : ∀ x, s.p = some x → R[s.i]? = some x.l ∧ x.lies W
def GamI (w1 : World) (q3 : Nat) (R : List (List Val)) (bs : List Int) (s : Sr) (W : World) : Prop := ∃ ra rc L, GamJ w1 q3 R bs s W ra rc L
theorem GamI.own {w1 : World} {q3 : Nat} {R : List (List Val)} {bs : List Int} : OwnFrom w1.heap.size (GamI w1 q3 R bs) := fun s X Y row ⟨ra, rc, L, h⟩ hg hr => by
 have ck := CK.ofGrown hg (fun r e => (hr r e).2)
 obtain ⟨h1, h2⟩ := ck.2 _ _ trivial h.box
 exact ⟨ra, rc, L, h.co.grown hg hr, h1, h2.trans h.free, h.lot.ck ck (fun _ _ => trivial) (fun _ _ _ _ => trivial), h.took, h.ne, h.nes, h.nil, fun x hx => by
  obtain ⟨p1, p2⟩ := h.pend x hx;exact ⟨p1, p2.ck ck (fun _ _ => trivial)⟩⟩
theorem GamI.step {w1 : World} {q3 : Nat} {fr : Bool} {R : List (List Val)} {bs : List Int} (hq : q3 < w1.heap.size) {s s' : Sr} {A B : World} (hz : w1.heap.size + 2 ≤ A.heap.size) (h : GamI w1 q3 R bs s A) (ht : StepR fr R s s' A B) : GamI w1 q3 R bs s' B := by
 obtain ⟨ra, rc, L, h⟩ := h;have co := h.co.step (by simpa using hq) hz ht
 have hqs : ∀ k, k < A.heap.size → k ∉ s.qs → k ∉ s'.qs := fun k hk hn hm => by
  cases hs : s.made with
  | true => rcases (ht.stays hs).2.2 k hm with e | e; exact hn e; omega
  | false => have := ((ht.makes hs).2.2 k hm).1; omega
 have hq3 : q3 ∉ s'.qs := fun hm => by
  have hm' : s'.made = true := by
   cases hs : s.made with
   | true => exact (ht.stays hs).1
   | false => exact (ht.makes hs).1
  have := (co.mde hm').2 q3 hm
  omega
 have ck := CK.ofTurn ht.turn
 obtain ⟨h1, h2⟩ := ck.2 _ _ hq3 h.box;have hlt := h.lot.lt
 refine ⟨ra, rc, L, co, h1, h2.trans h.free, h.lot.ck ck (fun k hk => hqs k (hlt k hk) (h.ne k hk).2) (fun x hx k hk => hqs k (h.lot.rows x hx k hk).2.1 (h.nes x hx k hk)), by rw [ht.on]; exact h.took, fun k hk => ⟨fun hm => ?_, hqs k (hlt k hk) (h.ne k hk).2⟩, fun x hx k hk => hqs k (h.lot.rows x hx k hk).2.1 (h.nes x hx k hk), h.nil, fun x hx => ?_⟩
 ·rcases ht.js k hm with e | e
  ·exact (h.ne k hk).1 e
  ·have := hlt k hk; omega
 ·rcases ht.given with e | ⟨y, e, hy, hl, hf⟩
  ·rw [e] at hx; cases hx
  ·rw [e] at hx
   cases hx
   exact ⟨by rw [ht.on]; exact hy, hl⟩
end Go.Proofs.YtlgfekjoknbfdaaGreatDoor
end

section
namespace Go.Proofs.YtlgfekjoknbfdaaGreatDoor
open Go.RowKit Go.Hay
attribute [local go_sem] Oper.semAt_some
end Go.Proofs.YtlgfekjoknbfdaaGreatDoor
end

section
namespace Go.Proofs.YtlgfekjoknbfdaaGreatDoor
open Go.RowKit Go.Hay
attribute [local go_sem] Oper.semAt_some
theorem ckSee {α : Type} {E : El α} {P : Nat → Prop} {X Y : World} (h : CK P X Y) {a : Option Addr} {l : List α} (hs : E.See X a l) (hP : ∀ k ∈ blk a, P k) : E.See Y a l := by
 rcases hs with e | ⟨g, o, e, hc⟩
 ·exact .inl e
 ·subst e
  exact .inr ⟨g, o, rfl, fun j u hu => (h.2 ⟨g, _, none⟩ u (hP g (by simp [blk])) (hc j u hu)).1⟩
end Go.Proofs.YtlgfekjoknbfdaaGreatDoor
end

section
namespace Go.Proofs.YtlgfekjoknbfdaaGreatDoor
open Go.RowKit Go.Hay
structure MI (v2 : Value) (q2 q3 ly : Nat) (X : World → Prop) (W : World) : Prop where
 c2 : W.cell? ⟨q2, 0, none⟩ = some v2
 c3 : W.cell? ⟨q3, 0, none⟩ = some (.func (.yield ly) #[] #[])
 x : X W
theorem MI.ck {v2 : Value} {q2 q3 ly : Nat} {X : World → Prop} {Xj : List Nat} (hX : ∀ A B, X A → CK (fun k => k ∈ Xj) A B → X B) {A B : World} (h : MI v2 q2 q3 ly X A) (k : CK (fun k => k ∈ q2 :: q3 :: Xj) A B) : MI v2 q2 q3 ly X B :=
 ⟨(k.2 ⟨q2, 0, none⟩ _ (by simp) h.c2).1, (k.2 ⟨q3, 0, none⟩ _ (by simp) h.c3).1, hX A B h.x (k.mono fun j hj => by simp [hj])⟩
theorem relStep {RL RJ : List (List Val)} {f : List Val → List (List Val)} {i k : Nat} {x : List Val} (h : RJ.drop i = (RL.drop k).flatMap f) (hx : RL[k]? = some x) : RJ.drop i = f x ++ (RL.drop (k + 1)).flatMap f := by
 obtain ⟨hk, e⟩ := List.getElem?_eq_some_iff.1 hx;rw [h, List.drop_eq_getElem_cons hk, e, List.flatMap_cons]
theorem relOne {RJ : List (List Val)} {i : Nat} {z : List Val} {l : List (List Val)} (h : RJ.drop i = [z] ++ l) : RJ[i]? = some z ∧ RJ.drop (i + 1) = l ∧ i + 1 ≤ RJ.length := by
 have h0 : RJ[i]? = some z := by
  have := congrArg (fun z => z[0]?) h
  simpa [List.getElem?_drop] using this
 refine ⟨h0, ?_, (List.getElem?_eq_some_iff.1 h0).1⟩;have := congrArg (List.drop 1) h
 simpa [List.drop_drop] using this
def CB (P : Nat → Prop) (X Y : World) : Prop := X.heap.size ≤ Y.heap.size ∧ ∀ (k : Nat) (o : Obj), P k → X.heap[k]? = some o → o.isCells = true → Y.heap[k]? = some o
theorem CB.mono {P Q : Nat → Prop} {X Y : World} (h : CB P X Y) (hq : ∀ k, Q k → P k) : CB Q X Y := ⟨h.1, fun k o hk => h.2 k o (hq k hk)⟩
theorem CB.ck {P : Nat → Prop} {X Y : World} (h : CB P X Y) : CK P X Y := CK.ofBlock h.1 fun k hk hl => by
 have e : X.heap[k]? = some X.heap[k] := by simp [hl]
 cases hc : (X.heap[k]).isCells with
 | true => exact .inl ((h.2 k _ hk e hc).trans e.symm)
 | false => exact .inr ⟨_, e, hc⟩
theorem CB.ofKp {S : List Nat} {X Y : World} (h : Kp S X Y) : CB (fun k => k ∉ S) X Y := ⟨h.size, fun k o hk ho _ => (h.block k (Array.getElem?_eq_some_iff.1 ho).1 hk).trans ho⟩
theorem CB.ofTurn {B0 : Nat} {qs : List Nat} {X Y : World} (h : TurnR B0 qs X Y) : CB (fun k => k ∉ qs) X Y := ⟨h.size, fun k o hk ho hc => by
 rcases h.block k (Array.getElem?_eq_some_iff.1 ho).1 with e | e | ⟨_, o', e, f⟩
 ·exact e.trans ho
 ·exact absurd e hk
 ·rw [ho] at e
  cases e
  rw [hc] at f
  cases f⟩
theorem CB.ofGrown {X Y : World} {row : Option Nat} (h : X.grownBy Y row) (hr : ∀ r, row = some r → ∃ o : Obj, X.heap[r]? = some o ∧ o.isCells = false) : CB (fun _ => True) X Y := ⟨h.size, fun k o _ ho hc => by
 by_cases e : row = some k
 ·obtain ⟨o', e', f⟩ := hr k e
  rw [ho] at e'
  cases e'
  rw [hc] at f
  cases f
 ·exact (h.block k (Array.getElem?_eq_some_iff.1 ho).1 (fun e' => e e'.symm)).trans ho⟩
theorem CB.ofKeepB {js : List Nat} {X Y : World} (h : KeepB js X Y) : CB (fun k => k ∈ js) X Y := ⟨h.1, fun k o hk ho _ => h.2 k hk o ho⟩
structure LiJ (J : Sr → World → Prop) (RL : List (List Val)) (M : Nat → World → Prop) (Mj : List Nat) (w3 : World) (q4 : Nat) (sl : Sr) (W : World) (js qs : List Nat) (i : Nat) : Prop where
 j : J ⟨true, w3.heap.size, qs, js, i, none⟩ W
 sub : ∀ j ∈ sl.js, j ∈ js
 mj : ∀ j ∈ Mj, j ∈ js
 qsub : ∀ q ∈ sl.qs, q ∈ qs
 qq : q4 ∈ qs
 m : M sl.i W
 rel : i = sl.i
 size : w3.heap.size ≤ W.heap.size
 mde : sl.made = true → w3.heap.size + 2 ≤ sl.B0 ∧ ∀ q ∈ sl.qs, w3.heap.size + 2 ≤ q
 lj : ∀ j ∈ sl.js, j ≠ w3.heap.size ∧ j ≠ w3.heap.size + 1
 lq : ∀ j ∈ sl.js, j ≠ q4
 pend : ∀ x, sl.p = some x → RL[sl.i]? = some x.l ∧ x.lies W
 jl : ∀ j ∈ js, j < W.heap.size
 ql : ∀ q ∈ qs, q < W.heap.size
def LiG (J : Sr → World → Prop) (RL : List (List Val)) (M : Nat → World → Prop) (Mj : List Nat) (w3 : World) (q4 : Nat) (sl : Sr) (W : World) : Prop := ∃ js qs i, LiJ J RL M Mj w3 q4 sl W js qs i
section
variable {J : Sr → World → Prop} {fr : Bool} {RL R : List (List Val)} {M : Nat → World → Prop} {Mj : List Nat} {w3 : World} {q4 : Nat}
theorem LiG.own (hT : ∀ s s' A B, J s A → StepR true R s s' A B → J s' B) (hM : ∀ n X Y, M n X → CB (fun k => k ∈ Mj) X Y → M n Y) : OwnFrom w3.heap.size (LiG J RL M Mj w3 q4) := fun sl X Y row ⟨js, qs, i, h⟩ hg hr => by
 have ck := CK.ofGrown hg (fun r e => (hr r e).2)
 exact ⟨js, qs, i, hT _ _ _ _ h.j (StepR.same rfl rfl (TurnR.ofGrown hg (fun r e => hr r e))), h.sub, h.mj, h.qsub, h.qq, hM _ _ _ h.m ((CB.ofGrown hg (fun r e => (hr r e).2)).mono fun _ _ => trivial), h.rel, Nat.le_trans h.size hg.size, h.mde, h.lj, h.lq, fun x hx => ⟨(h.pend x hx).1, (h.pend x hx).2.ck ck (fun _ _ => trivial)⟩, fun j hj => Nat.lt_of_lt_of_le (h.jl j hj) hg.size, fun j hj => Nat.lt_of_lt_of_le (h.ql j hj) hg.size⟩
theorem LiG.step (hT : ∀ s s' A B, J s A → StepR true R s s' A B → J s' B) (hM : ∀ n X Y, M n X → CB (fun k => k ∈ Mj) X Y → M n Y) (hMj : ∀ j ∈ Mj, j < w3.heap.size) (hq4 : q4 < w3.heap.size) {sl sl' : Sr} {A B : World} (hz : w3.heap.size + 2 ≤ A.heap.size) (h : LiG J RL M Mj w3 q4 sl A) (ht : StepR fr RL sl sl' A B) : LiG J RL M Mj w3 q4 sl' B := by
 obtain ⟨js, qs, i, h⟩ := h
 have hmd : sl'.made = true ∧ w3.heap.size + 2 ≤ sl'.B0 ∧ ∀ q ∈ sl'.qs, w3.heap.size + 2 ≤ q := by
  cases hs : sl.made with
  | true =>
   obtain ⟨e0, e1, e2⟩ := ht.stays hs;obtain ⟨h1, h2⟩ := h.mde hs;exact ⟨e0, by omega, fun q hq => by rcases e2 q hq with e | e; exact h2 q e; omega⟩
  | false =>
   obtain ⟨e0, e1, e2⟩ := ht.makes hs;exact ⟨e0, by omega, fun q hq => by have := (e2 q hq).1; omega⟩
 have hqn : ∀ q ∈ sl'.qs, q ∈ qs ∨ (A.heap.size ≤ q ∧ q < B.heap.size) := fun q hq => by
  cases hs : sl.made with
  | true => rcases (ht.stays hs).2.2 q hq with e | e; exact .inl (h.qsub q e); exact .inr e
  | false => exact .inr ((ht.makes hs).2.2 q hq)
 have ck := CK.ofTurn ht.turn
 have hJ : J ⟨true, w3.heap.size, qs ++ sl'.qs, js ++ sl'.js, i, none⟩ B := hT _ _ _ _ h.j ⟨ht.turn.mono (by show w3.heap.size ≤ _; omega) (fun q hq => List.mem_append.2 (.inr hq)), fun _ => ⟨rfl, rfl, fun q hq => by
  rcases List.mem_append.1 hq with e | e
  ·exact .inl e
  ·exact hqn q e⟩, fun e => (by cases e), fun j hj => by
  rcases List.mem_append.1 hj with e | e
  ·exact .inl e
  ·rcases ht.js j e with e2 | e2
   ·exact .inl (h.sub j e2)
   ·exact .inr e2, rfl, .inl rfl⟩
 refine ⟨_, _, i, hJ, fun j hj => List.mem_append.2 (.inr hj), fun j hj => List.mem_append.2 (.inl (h.mj j hj)), fun q hq => List.mem_append.2 (.inr hq), List.mem_append.2 (.inl h.qq), (congrArg (fun n => M n B) ht.on).mpr (hM _ _ _ h.m ((CB.ofTurn ht.turn).mono fun k hk hm => ?_)), by rw [ht.on]; exact h.rel, Nat.le_trans h.size ht.turn.size, fun _ => hmd.2, fun j hj => ?_, fun j hj => ?_, fun x hx => ?_, fun j hj => ?_, fun q hq => ?_⟩
 ·have := hMj k hk
  have := hmd.2.2 k hm
  omega
 ·rcases ht.js j hj with e | e
  ·exact h.lj j e
  ·omega
 ·rcases ht.js j hj with e | e
  ·exact h.lq j e
  ·omega
 ·rcases ht.given with e | ⟨y, e, hy, hl, _⟩
  ·rw [e] at hx; cases hx
  ·rw [e] at hx
   cases hx
   exact ⟨by rw [ht.on]; exact hy, hl⟩
 ·rcases List.mem_append.1 hj with e | e
  ·exact Nat.lt_of_lt_of_le (h.jl j e) ht.turn.size
  ·rcases ht.js j e with e2 | e2
   ·exact Nat.lt_of_lt_of_le (h.jl j (h.sub j e2)) ht.turn.size
   ·exact e2.2
 ·rcases List.mem_append.1 hq with e | e
  ·exact Nat.lt_of_lt_of_le (h.ql q e) ht.turn.size
  ·rcases hqn q e with e2 | e2
   ·exact Nat.lt_of_lt_of_le (h.ql q e2) ht.turn.size
   ·exact e2.2
theorem LiG.keeps {sl sl' : Sr} {A B : World} (h : LiG J RL M Mj w3 q4 sl A) (ht : StepR fr RL sl sl' A B) (k : Nat) (o : Obj) (hk : k = w3.heap.size ∨ k = w3.heap.size + 1) (ho : A.heap[k]? = some o) : B.heap[k]? = some o := by
 obtain ⟨js, qs, i, h⟩ := h;exact (ht.low h.mde (Array.getElem?_eq_some_iff.1 ho).1 (by omega)).trans ho
theorem LiG.recs {sl : Sr} {W : World} (h : LiG J RL M Mj w3 q4 sl W) (o' : Obj) : KeepR sl W (W.putObj (w3.heap.size + 1) o') := by
 obtain ⟨js, qs, i, h⟩ := h;exact recsOf h.mde h.lj o'
theorem LiG.recs' {sl : Sr} {x : Vs} {W : World} (h : LiG J RL M Mj w3 q4 (sl.nx x) W) (o' : Obj) : KeepR sl W (W.putObj (w3.heap.size + 1) o') := by
 obtain ⟨js, qs, i, h⟩ := h;exact recsOf (sl := sl) h.mde h.lj o'
theorem LiJ.keepR {sl : Sr} {W W' : World} {js qs : List Nat} {i : Nat} (h : LiJ J RL M Mj w3 q4 sl W js qs i) {s : Sr} (hs : s.made = true) (hb : s.B0 = w3.heap.size) (hj : ∀ j ∈ js, j ∈ s.js) (k : KeepR s W W') : KeepR sl W W' ∧ KeepsFrom w3.heap.size W W' ∧ KeepB Mj W W' :=
 ⟨⟨⟨k.js.1, fun j hj' o ho => k.js.2 j (hj j (h.sub j hj')) o ho⟩, fun hm j o hj' ho hc => k.recs hs j o (by rw [hb]; have := (h.mde hm).1; omega) ho hc⟩, ⟨k.js.1, fun j o hj' ho hc => k.recs hs j o (by rw [hb]; exact hj') ho hc⟩, ⟨k.js.1, fun j hj' o ho => k.js.2 j (hj j (h.mj j hj')) o ho⟩⟩
end
def JxD (J Jx : Sr → World → Prop) (n : Nat) (s : Sr) (W : World) : Prop := Jx s W ∨ (s.i = n ∧ s.p = none ∧ J s W)
theorem JxD.step {J Jx : Sr → World → Prop} {R : List (List Val)} (hT : ∀ s s' A B, J s A → StepR true R s s' A B → J s' B) (hX : ∀ s A B, Jx s A → StepRX s A B → Jx s B) {n : Nat} : ∀ s A B, JxD J Jx n s A → StepRX s A B → JxD J Jx n s B := fun s A B h ht => by
 rcases h with h | ⟨h1, h2, h3⟩
 ·exact .inl (hX _ _ _ h ht)
 ·exact .inr ⟨h1, h2, hT _ _ _ _ h3 (StepR.same ht.1 h2 ht.2)⟩
structure ML (many : Int) (q1 q3 q4 ly : Nat) (n : Nat) (W : World) : Prop where
 c1 : W.cell? ⟨q1, 0, none⟩ = some (.int .i64 many)
 c3 : W.cell? ⟨q3, 0, none⟩ = some (.func (.yield ly) #[] #[])
 c4 : W.cell? ⟨q4, 0, none⟩ = some (.int .i64 (n : Int))
 f4 : W.frozen? ⟨q4, 0, none⟩ = false
 n4 : ∀ k, 1 ≤ k → W.cell? ⟨q4, k, none⟩ = none
 lt : (n : Int) < many
theorem cellFar (w : World) (q k : Nat) (v : Value) (h : 1 ≤ k) : (w.setCell ⟨q, 0, none⟩ v).cell? ⟨q, k, none⟩ = w.cell? ⟨q, k, none⟩ := by
 rw [World.cell?_setCell_other];intro e
 have := congrArg Addr.off e
 simp at this
 omega
theorem noneCB {P : Nat → Prop} {A B : World} {q : Nat} {v : Value} (k : CB P A B) (hq : P q) (hc : A.cell? ⟨q, 0, none⟩ = some v) (h : ∀ k, 1 ≤ k → A.cell? ⟨q, k, none⟩ = none) : ∀ k, 1 ≤ k → B.cell? ⟨q, k, none⟩ = none := fun j hj => by
 have hl := World.block_lt_of_cell? _ _ hc
 have e : A.heap[q]? = some A.heap[q] := by simp [show q < A.heap.size from hl]
 have hcel := cellCel hc
 rw [show A.heap[(⟨q, 0, none⟩ : Addr).block]? = A.heap[q]? from rfl, e] at hcel;have e2 := (k.2 q _ hq e (by simpa using hcel)).trans e.symm
 exact (World.cell?_of_block (a := ⟨q, j, none⟩) e2).trans (h j hj)
theorem ML.ck {many : Int} {q1 q3 q4 ly n : Nat} {A B : World} (h : ML many q1 q3 q4 ly n A) (k : CB (fun k => k ∈ [q1, q3, q4]) A B) : ML many q1 q3 q4 ly n B :=
 ⟨(k.ck.2 ⟨q1, 0, none⟩ _ (by simp) h.c1).1, (k.ck.2 ⟨q3, 0, none⟩ _ (by simp) h.c3).1, (k.ck.2 ⟨q4, 0, none⟩ _ (by simp) h.c4).1, ((k.ck.2 ⟨q4, 0, none⟩ _ (by simp) h.c4).2).trans h.f4, noneCB k (by simp) h.c4 h.n4, h.lt⟩
end Go.Proofs.YtlgfekjoknbfdaaGreatDoor
end

section
namespace Go.Proofs.YtlgfekjoknbfdaaGreatDoor
open Go.RowKit Go.Hay
attribute [local go_sem] Oper.semAt_some
theorem limSeq (n : Nat) (hn : 2 ≤ n) (q1 q2 : Nat) (fr : Bool) (gl : Nat) (lbl : Array Value) (RL : List (List Val)) (jsl js : List Nat) (many : Int) (w : World)
  (heL : ∀ args w, (callFunc gl args).run Tryz.prog w = .ok (.enter gl args) w)
  (c1 : w.cell? ⟨q1, 0, none⟩ = some (.int .i64 many)) (c2 : w.cell? ⟨q2, 0, none⟩ = some (.func (.func gl) #[] lbl))
  (hq : ∀ q ∈ [q1, q2], q ∈ js) (hjl : ∀ j ∈ jsl, j ∈ js) (hjb : ∀ j ∈ js, j < w.heap.size)
  (hL : RowSeq fr (n - 1) gl lbl RL jsl w) (hRLl : ∀ l ∈ RL, l.length ≤ 1800000000000) (hRLn : RL.length ≤ 4000000000000) (hmx : many ≤ 9223372036854775807) :
  RowSeq true n 109 #[.pointer (some ⟨q1, 0, none⟩), .pointer (some ⟨q2, 0, none⟩)] (RL.take many.toNat) js w := by
 intro ly J Jx W hW hT hX hY h0
 obtain ⟨RJ, hRJ⟩ : ∃ R, Hid (RL.take many.toNat = R) := ⟨_, rfl⟩
 rw [hRJ.out] at hT ⊢;have kjs := hW.js
 have d1 := kjs.cell (hq q1 (by simp)) c1
 have d2 := kjs.cell (hq q2 (by simp)) c2
 have hlW := hL.move (W := W) ⟨kjs.1, fun j hj o ho => kjs.2 j (hjl j hj) o ho⟩
 have hjW : ∀ j ∈ js, j < W.heap.size := fun j hj => Nat.lt_of_lt_of_le (hjb j hj) kjs.1
 obtain ⟨W1, hW1, k1, b1⟩ : ∃ W1, W.alloc (.cells #[.func (.yield ly) #[] #[]] 169) = W1 ∧ Kp [] W W1 ∧ Bn W1 W.heap.size [.func (.yield ly) #[] #[]] := ⟨_, rfl, (Kp.refl _ _).alloc _, Bn.new W _ _⟩
 obtain ⟨q3, hq3⟩ : ∃ q, Hid (W.heap.size = q) := ⟨_, rfl⟩
 rw [hq3.out] at b1;have e1 := kpAt k1 d1
 have e2 := kpAt k1 d2
 have hq3' := hq3.out
 by_cases hm1 : many < 1
 ·have g1 : decide (many < 1) = true := by simpa using hm1
  have hRe : RJ.length = 0 := by rw [← hRJ.out, show many.toNat = 0 by omega]; rfl
  have hJ1 : Hid (J ⟨true, W1.heap.size, [], js, 0, none⟩ W1) := hT _ _ _ _ h0 ⟨TurnR.ofKp0 k1, fun h => (by cases h), fun _ => ⟨rfl, k1.size, by simp⟩, fun j hj => .inl hj, rfl, .inl rfl⟩
  have hRe' := hid hRe
  clear c1 c2 hL hW kjs hjb hlW k1 b1 d1 d2 h0 hRe hm1;refine callsIn_of_wp_marks Tryz.func109 rfl trivial ?_ rfl;simp only [Tryz.ntmps109, List.size_toArray, List.length_cons, List.length_nil, Nat.reduceAdd, Nat.reduceSub, Array.replicate_succ, Array.replicate_zero, List.push_toArray, List.append_toArray, List.nil_append, List.cons_append];refine wpIn_wide.2 ?_;go_wp2_with fail;exact ⟨_, results_none rfl _ _ _, ⟨_, rfl⟩, .inl ⟨_, ⟨rfl, hRe'.out.symm, rfl⟩, hJ1.out⟩⟩
 ·have g1 : decide (many < 1) = false := by simpa using hm1
  obtain ⟨W2z, hW2z, k2z, b2z⟩ : ∃ W2, W1.alloc (.cells #[.int .i64 0] 3) = W2 ∧ Kp [] W1 W2 ∧ Bn W2 W1.heap.size [.int .i64 0] := ⟨_, rfl, (Kp.refl _ _).alloc _, Bn.new W1 _ _⟩
  obtain ⟨q4, hq4⟩ : ∃ q, Hid (W1.heap.size = q) := ⟨_, rfl⟩
  rw [hq4.out] at b2z;have hq4' := hq4.out
  have z0 := b2z.get 0 _ rfl
  have zf := b2z.free 0
  obtain ⟨W2, hW2, k2, b2⟩ : ∃ W2, W2z.setCell ⟨q4, 0, none⟩ (.int .i64 0) = W2 ∧ Kp [] W1 W2 ∧ Bn W2 q4 [.int .i64 0] := ⟨_, rfl, k2z.setCell (.inr (by rw [hq4.out]; exact Nat.le_refl _)) _, b2z.set 0 (by simp) _⟩
  have n42 : ∀ k, 1 ≤ k → W2.cell? ⟨q4, k, none⟩ = none := fun k hk => by
   rw [← hW2, cellFar _ _ _ _ hk, ← hW2z, ← hq4.out, World.cell?_alloc_new];simp; omega
  have k02 := k1.trans k2 (by simp)
  have f2 := kpAt k2 e2
  have z1 := k1.size
  have hq42 : q4 < W2.heap.size := b2.lt (by simp)
  have hq14 : q1 ≠ q4 := by have := hjW q1 (hq q1 (by simp)); omega
  have hq34 : q3 ≠ q4 := by have : q3 < W1.heap.size := b1.lt (by simp); omega
  obtain ⟨Mj, hMj⟩ : ∃ M, Hid (M = [q1, q3, q4]) := ⟨_, rfl⟩
  have hM2 : ML many q1 q3 q4 ly 0 W2 := ⟨kpAt k2 e1, (b1.kept k2).get 0 _ rfl, b2.get 0 _ rfl, b2.free 0, n42, by omega⟩
  have hMst : ∀ n A B, ML many q1 q3 q4 ly n A → CB (fun k => k ∈ Mj) A B → ML many q1 q3 q4 ly n B := fun n A B h k => h.ck (by rw [← hMj.out]; exact k)
  have hMn : ∀ j ∈ Mj, j ∈ js ∨ (W.heap.size ≤ j ∧ j < W2.heap.size) := fun j hj => by
   rw [hMj.out] at hj;simp only [List.mem_cons, List.not_mem_nil, or_false] at hj
   rcases hj with rfl | rfl | rfl
   ·exact .inl (hq _ (by simp))
   ·exact .inr ⟨by rw [hq3.out]; exact Nat.le_refl _, (b1.kept k2).lt (by simp)⟩
   ·exact .inr ⟨by omega, hq42⟩
  have hMb : ∀ j ∈ Mj, j < W2.heap.size := fun j hj => by
   rcases hMn j hj with e | e
   ·exact Nat.lt_of_lt_of_le (hjW j e) k02.size
   ·exact e.2
  have hJ2 : J ⟨true, W2.heap.size, [q4], js ++ Mj, 0, none⟩ W2 := hT _ _ _ _ h0 ⟨TurnR.ofKp (k02.mono (by simp)), fun h => (by cases h), fun _ => ⟨rfl, k02.size, fun q hq' => by rw [List.mem_singleton.1 hq']; exact ⟨by omega, hq42⟩⟩, fun j hj => by
   rcases List.mem_append.1 hj with e | e
   ·exact .inl e
   ·exact hMn j e, rfl, .inl rfl⟩
  have hI0 : LiG J RL (ML many q1 q3 q4 ly) Mj W2 q4 ⟨false, 0, [], jsl, 0, none⟩ W2 := ⟨js ++ Mj, [q4], 0, hJ2, fun j hj => List.mem_append.2 (.inl (hjl j hj)), fun j hj => List.mem_append.2 (.inr hj), by simp, by simp, hM2, rfl, Nat.le_refl _, fun h => (by cases h), fun j hj => by have := hjW j (hjl j hj); have := k02.size; omega, fun j hj => by have := hjW j (hjl j hj); omega, fun x hx => (by cases hx), fun j hj => by
   rcases List.mem_append.1 hj with e | e
   ·have := hjW j e; have := k02.size; omega
   ·exact hMb j e, fun q hq' => by rw [List.mem_singleton.1 hq']; exact hq42⟩
  have hsq := hid (hlW.move (KeepB.ofKp k02 (by simp)))
  have HI0 := hid hI0
  have HMS := hid hMst
  have HMB := hid hMb
  clear c1 c2 hL hW kjs hjb hlW k1 b1 d1 d2 hM2 hMn hJ2 hI0 hMst hMb h0 k2 k2z b2 b2z k02 z1;refine callsIn_of_wp_marks Tryz.func109 rfl trivial ?_ rfl;simp only [Tryz.ntmps109, List.size_toArray, List.length_cons, List.length_nil, Nat.reduceAdd, Nat.reduceSub, Array.replicate_succ, Array.replicate_zero, List.push_toArray, List.append_toArray, List.nil_append, List.cons_append];refine wpIn_wide.2 ?_;go_wp2_with fail;refine (wpIn_wide (n := n)).1 ?_
  refine wpRangeX rfl (by omega) (gf := gl) (lb := lbl) rfl trivial heL
   hsq.out (fun _ => rfl) KeepR.trans (fun s W o => KeepR.alloc s W o) (KeepR.refl _ _)
   (LiG J RL (ML many q1 q3 q4 ly) Mj W2 q4) (fun c s W' => c = .ret ∧ InX (JxD J Jx RJ.length) W2 s W') (LiG.own hT HMS.out) (fun c s X Y row h hg hr => ⟨h.1, InX.own (JxD.step hT hX) s X Y row h.2 hg hr⟩) HI0.out
   (fun s s' A B h ht k o hk ho => h.keeps ht k o hk ho) (fun c s A B h ht k o hk ho => h.2.keeps ht k o hk ho) (fun s s' A B hz h ht => h.step hT HMS.out HMB.out hq42 hz ht) (fun c s A B h ht => ⟨h.1, h.2.step (JxD.step hT hX) ht⟩)
   (fun s W o' h => h.recs o') (fun s x W o' h => h.recs' o') (fun c s x W o' h => h.2.recs' o')
   (fun x => { tmps := #[.func (.yield ly) #[] #[], .pointer (some ⟨q1, 0, none⟩), .pointer (some ⟨q2, 0, none⟩), .pointer (some ⟨q3, 0, none⟩), .pointer (some ⟨q4, 0, none⟩), .slice x.a x.l.length x.c, .int .i64 many, .bool false, .func (.func gl) #[] lbl, .slice x.a x.l.length x.c, undef, undef, undef, undef, undef, undef, undef, undef, undef, undef, undef, undef], defers := [] }) ?assign ?body ?done ?stop
  case assign =>
   intro l x W C hC
   gi_wp2_with fail;exact hC
  case body =>
   rintro l0 s ⟨xa, xc, xl⟩ A ⟨jsA, qsA, i, h⟩ hp;obtain ⟨hRi, hxl⟩ := h.pend _ hp;dsimp only at hRi ⊢;have hxn : xl.length ≤ 1800000000000 := hRLl _ (List.mem_of_getElem? hRi)
   have hiR : s.i < RL.length := (List.getElem?_eq_some_iff.1 hRi).1
   have hil := h.m.lt
   have hie := hid h.rel
   have hR1 : Hid (RJ[i]? = some xl) := by
    show _ = _
    rw [← hRJ.out, hie.out, List.getElem?_take, if_pos (by omega)]
    exact hRi
   have c4 := h.m.c4
   have f4 := h.m.f4
   have c1A := h.m.c1
   have c3A := h.m.c3
   have i1 : (s.i : Int) + 1 ≤ 9223372036854775807 := by omega
   obtain ⟨A1, eA1⟩ : ∃ x, A.setCell ⟨q4, 0, none⟩ (.int .i64 ((s.i : Int) + 1)) = x := ⟨_, rfl⟩
   have kA1 : Kp [q4] A A1 := by rw [← eA1]; exact (Kp.refl _ _).setCell (by simp) _
   have c4A1 : A1.cell? ⟨q4, 0, none⟩ = some (.int .i64 ((s.i : Int) + 1)) := by rw [← eA1]; exact World.cell?_setCell_same _ _ _ c4
   have f4A1 : A1.frozen? ⟨q4, 0, none⟩ = false := by rw [← eA1, World.frozen?_setCell]; exact f4
   have c1A1 := (kA1.cell (p := ⟨q1, 0, none⟩) (World.block_lt_of_cell? _ _ c1A) (by simpa using hq14)).trans c1A
   have c3A1 := (kA1.cell (p := ⟨q3, 0, none⟩) (World.block_lt_of_cell? _ _ c3A) (by simpa using hq34)).trans c3A
   have hn4 := h.m.n4
   have hxl1 : (⟨xa, xc, xl⟩ : Vs).lies A1 := by
    refine ⟨?_, hxl.cap, hxl.most, hxl.nil⟩
    by_cases hb : q4 ∈ blk xa
    ·rcases hxl.see with e | ⟨g, o, e, hv⟩
     ·exact .inl e
     ·dsimp only at e hv
      subst e;simp [blk] at hb
      subst hb
      by_cases hnil : xl = []
      ·exact .inl hnil
      ·obtain ⟨_, b1', _⟩ := hv 0 (xl[0]'(List.length_pos_iff.2 hnil)) (List.getElem?_eq_getElem (List.length_pos_iff.2 hnil))
       rw [hn4 _ (by omega)] at b1'
       cases b1'
    ·exact ckVals (CK.ofKp kA1) hxl.see (fun k hk hm => by rw [List.mem_singleton.1 hm] at hk; exact hb hk)
   have n4A1 : ∀ k, 1 ≤ k → A1.cell? ⟨q4, k, none⟩ = none := fun k hk => by
    rw [← eA1, cellFar _ _ _ _ hk];exact hn4 k hk
   have HN := hid n4A1
   have h' := hid h
   have KA1 := hid kA1
   have HC := hid (And.intro c1A1 (And.intro c3A1 (And.intro c4A1 f4A1)))
   have hcel := hid (cellCel c4)
   have hxl' := hid hxl1
   clear h hRi hxl HI0 hn4 n4A1 c1A c3A c1A1 c3A1 f4A1 kA1 hxl1 c4A1;gi_wp2_with fail;refine wpIn_region_any (by kernel_rfl) ?_
   change wpAnyIn _ _ _ _ _ _ _ _ _ A1.drew
   have kD : Kp [] A1 A1.drew := (Kp.refl _ _).drew
   generalize A1.drew = wd at *
   have KB := hid (KA1.out.trans kD (by simp))
   have KD := hid kD
   have c3b := kpAt kD HC.out.2.1
   have cCt := hid (cCloneR xa xc xl wd (hxl'.out.see.kept kD) hxl'.out.nil (by omega))
   clear kD c4 f4;refine rdJ 0 1 (by kernel_rfl) rfl rfl (fun K hK => ?_) fun K hK => ?_
   ·go_simp
    refine hK _ _ ?_;clear hK K;(try simp only [Act.put, lz]);refine rdI 1 (by kernel_rfl) rfl fun K hK => ?_
    go_simp;refine hK _ _ ?_;clear hK K;(try simp only [Act.put, lz]);refine rdI 2 (by kernel_rfl) rfl fun K hK => ?_
    go_simp;refine ⟨trivial, fun h => (by cases h), (CallsIn.inRound l0 (callsIn_wide.2 cCt.out)).mono ?_⟩
    rintro e Wz ⟨za, zc, rfl, hzrow, kz, hzb⟩;have c3z := kpAt kz c3b
    refine hK _ _ ?_;clear hK K;(try simp only [Act.put, lz]);have kWz := hid (KB.out.trans kz (by simp))
    have hzl := rowLies hzrow
    have hzb2 : ∀ j ∈ blk za, A.heap.size ≤ j := fun j hj => by have := hzb j hj; have := KB.out.size; omega
    have hJz : J ⟨true, W2.heap.size, qsA, jsA, i, some ⟨za, zc, xl⟩⟩ Wz := hT _ _ _ _ h'.out.j ⟨TurnR.ofKp (kWz.out.mono (fun q hq' => by rw [List.mem_singleton.1 hq']; exact .inl h'.out.qq)), fun _ => ⟨rfl, rfl, fun q hq => .inl hq⟩, fun e => (by cases e), fun j hj => .inl hj, rfl, .inr ⟨_, rfl, hR1.out, hzl, fun _ => ⟨hzrow, fun j hj => ⟨hzb2 j hj, fun hm => by have := h'.out.jl j hm; have := hzb2 j hj; omega, fun hm => by have := h'.out.ql j hm; have := hzb2 j hj; omega⟩⟩⟩⟩
    obtain ⟨fn, tmps, assign, body, hyl5, hR⟩ := hY _ ⟨za, zc, xl⟩ Wz hJz rfl;have hR' : RoundIn (Fence.wide.inRound l0) (n - 1 - 1 - 1) Tryz.prog ly fn tmps assign body Wz _ := RoundIn.anyDepthJ (F := Fence.wide.inRound l0) rfl hR
    have hgo : Hid (∀ A3, KeepR ⟨true, W2.heap.size, qsA, jsA, i, some ⟨za, zc, xl⟩⟩ Wz A3 → KeepR s A A3 ∧ KeepsFrom W2.heap.size A A3 ∧ A3.cell? ⟨q1, 0, none⟩ = some (.int .i64 many) ∧ A3.cell? ⟨q3, 0, none⟩ = some (.func (.yield ly) #[] #[]) ∧ A3.cell? ⟨q4, 0, none⟩ = some (.int .i64 ((s.i : Int) + 1)) ∧ A3.frozen? ⟨q4, 0, none⟩ = false ∧ ∀ k, 1 ≤ k → A3.cell? ⟨q4, k, none⟩ = none) := fun A3 hk3 => by
     have hnr : ∀ j (o : Obj), A.heap[j]? = some o → o.isCells = false → j ∉ [q4] := fun j o ho hc hm => by
      rw [List.mem_singleton.1 hm] at ho;have := hcel.out
      rw [ho] at this;simp [hc] at this
     have t1 : KeepR s A Wz := ⟨KeepB.ofKp kWz.out (fun j hj hm => h'.out.lq j hj (List.mem_singleton.1 hm)), fun _ j o _ ho hc => (kWz.out.block j (Array.getElem?_eq_some_iff.1 ho).1 (hnr j o ho hc)).trans ho⟩
     have t2 : KeepR s Wz A3 := ⟨⟨hk3.js.1, fun j hj o ho => hk3.js.2 j (h'.out.sub j hj) o ho⟩, fun hm j o hj ho hc => hk3.recs rfl j o (by have := (h'.out.mde hm).1; show W2.heap.size ≤ j; omega) ho hc⟩
     have ck3 := ckOfKeepB hk3.js
     have kz1 : Kp [] A1 Wz := KD.out.trans kz (by simp)
     have hin : ∀ q ∈ [q1, q3, q4], q ∈ jsA := fun q hq' => h'.out.mj q (by rw [hMj.out]; exact hq')
     have a4 := kpAt kz1 HC.out.2.2.1
     refine ⟨t1.trans t2, ⟨Nat.le_trans kWz.out.size hk3.js.1, fun j o hj ho hc => hk3.recs rfl j o hj ((kWz.out.block j (Array.getElem?_eq_some_iff.1 ho).1 (hnr j o ho hc)).trans ho) hc⟩, (ck3.2 ⟨q1, 0, none⟩ _ (hin q1 (by simp)) (kpAt kz1 HC.out.1)).1, (ck3.2 ⟨q3, 0, none⟩ _ (hin q3 (by simp)) (kpAt kz1 HC.out.2.1)).1, (ck3.2 ⟨q4, 0, none⟩ _ (hin q4 (by simp)) a4).1, ((ck3.2 ⟨q4, 0, none⟩ _ (hin q4 (by simp)) a4).2).trans ((kz1.frozen (p := ⟨q4, 0, none⟩) (World.block_lt_of_cell? _ _ HC.out.2.2.1) (by simp)).trans HC.out.2.2.2), noneCB (CB.ofKeepB hk3.js) (hin q4 (by simp)) a4 (noneCB (CB.ofKp kz1) (by simp) HC.out.2.2.1 HN.out)⟩
    have hyl6 := hyl5
    simp only [encR] at hyl6;clear hR hJz hzl hzrow kz hzb hzb2 hyl5 cCt;refine rdI 3 (by kernel_rfl) rfl fun K hK => ?_
    go_simp;refine ⟨fun h => (by cases h), hR'.mono ?_⟩
    rintro e A3 (⟨rfl, hJ3, hk3⟩ | ⟨rfl, hJ3, hk3⟩)
    ·have HG := hid (hgo.out A3 hk3)
     have hJ4 : Hid (J ⟨true, W2.heap.size, qsA, jsA, i + 1, none⟩ A3) := hJ3
     have y1 := HG.out.2.2.1
     have y4 := HG.out.2.2.2.2.1
     clear hgo hR' hyl6 hJ3 hk3;refine hK _ _ ?_;clear hK K;(try simp only [Act.put, lz]);refine rdI 4 (by kernel_rfl) rfl fun K hK => ?_
     go_simp;refine hK _ _ ?_;clear hK K;(try simp only [Act.put, lz]);refine rdI 5 (by kernel_rfl) rfl fun K hK => ?_
     go_simp;refine hK _ _ ?_;clear hK K;try simp only [Act.put, lz]
     by_cases hfin0 : (s.i : Int) + 1 = many
     ·have dE : ((s.i : Int) + 1 == many) = true := by simpa using hfin0
      have hfin := hid hfin0
      clear hfin0;refine rdJ 6 7 (by kernel_rfl) rfl rfl (fun K hK => ?_) fun K hK => ?_
      ·go_simp
       refine hK _ _ ?_;clear hK K;(try simp only [Act.put, lz]);refine rdI 7 (by kernel_rfl) rfl fun K hK => ?_
       go_simp;refine hK _ _ ?_;clear hK K;(try simp only [Act.put, lz]);refine rdI 8 (by kernel_rfl) rfl fun K hK => ?_
       go_simp;refine hK _ _ ?_;clear hK K;(try simp only [Act.put, lz]);refine rdI 9 (by kernel_rfl) rfl fun K hK => ?_
       go_simp;refine hK _ _ ?_;clear hK K;(try simp only [Act.put, lz]);refine wpAnyIn_done (by kernel_rfl) ?_ _
       gi_wp2_with fail;refine ⟨HG.out.2.1, HG.out.1, rfl, ⟨true, W2.heap.size, qsA, jsA, i + 1, none⟩, rfl, rfl, h'.out.qsub, h'.out.mde, h'.out.lj, .inr ⟨?_, rfl, hJ4.out⟩⟩;show i + 1 = RJ.length
       have h1 := hie.out
       have h2 := hfin.out
       rw [← hRJ.out, List.length_take];omega
      ·go_simp
       refine hK _ _ ?_;clear hK K;(try simp only [Act.put, lz]);refine rdI 6 (by kernel_rfl) rfl fun K hK => ?_
       go_simp;refine hK _ _ ?_;clear hK K;(try simp only [Act.put, lz]);refine rdI 8 (by kernel_rfl) rfl fun K hK => ?_
       go_simp;refine hK _ _ ?_;clear hK K;(try simp only [Act.put, lz]);refine rdI 9 (by kernel_rfl) rfl fun K hK => ?_
       go_simp;refine hK _ _ ?_;clear hK K;(try simp only [Act.put, lz]);refine wpAnyIn_done (by kernel_rfl) ?_ _
       gi_wp2_with fail;refine ⟨HG.out.2.1, HG.out.1, rfl, ⟨true, W2.heap.size, qsA, jsA, i + 1, none⟩, rfl, rfl, h'.out.qsub, h'.out.mde, h'.out.lj, .inr ⟨?_, rfl, hJ4.out⟩⟩;show i + 1 = RJ.length
       have h1 := hie.out
       have h2 := hfin.out
       rw [← hRJ.out, List.length_take];omega
     ·have dE : ((s.i : Int) + 1 == many) = false := beq_eq_false_iff_ne.2 hfin0
      have hfin := hid hfin0
      clear hfin0;refine rdJ 6 7 (by kernel_rfl) rfl rfl (fun K hK => ?_) fun K hK => ?_
      ·go_simp
       refine hK _ _ ?_;clear hK K;(try simp only [Act.put, lz]);refine rdI 7 (by kernel_rfl) rfl fun K hK => ?_
       go_simp;refine hK _ _ ?_;clear hK K;(try simp only [Act.put, lz]);refine rdI 8 (by kernel_rfl) rfl fun K hK => ?_
       go_simp;refine hK _ _ ?_;clear hK K;(try simp only [Act.put, lz]);refine rdI 9 (by kernel_rfl) rfl fun K hK => ?_
       go_simp;refine hK _ _ ?_;clear hK K;(try simp only [Act.put, lz]);refine wpAnyIn_done (by kernel_rfl) ?_ _
       gi_wp2_with fail;refine ⟨HG.out.2.1, HG.out.1, jsA, qsA, i + 1, hJ4.out, h'.out.sub, h'.out.mj, h'.out.qsub, h'.out.qq, ⟨HG.out.2.2.1, HG.out.2.2.2.1, by simpa [Sr.nx] using HG.out.2.2.2.2.1, HG.out.2.2.2.2.2.1, HG.out.2.2.2.2.2.2, by show ((s.i + 1 : Nat) : Int) < many; have := hfin.out; omega⟩, by show i + 1 = s.i + 1; rw [hie.out], Nat.le_trans h'.out.size HG.out.2.1.size, h'.out.mde, h'.out.lj, h'.out.lq, fun x hx => (by cases hx), fun j hj => Nat.lt_of_lt_of_le (h'.out.jl j hj) HG.out.2.1.size, fun q hq => Nat.lt_of_lt_of_le (h'.out.ql q hq) HG.out.2.1.size⟩
      ·go_simp
       refine hK _ _ ?_;clear hK K;(try simp only [Act.put, lz]);refine rdI 6 (by kernel_rfl) rfl fun K hK => ?_
       go_simp;refine hK _ _ ?_;clear hK K;(try simp only [Act.put, lz]);refine rdI 8 (by kernel_rfl) rfl fun K hK => ?_
       go_simp;refine hK _ _ ?_;clear hK K;(try simp only [Act.put, lz]);refine rdI 9 (by kernel_rfl) rfl fun K hK => ?_
       go_simp;refine hK _ _ ?_;clear hK K;(try simp only [Act.put, lz]);refine wpAnyIn_done (by kernel_rfl) ?_ _
       gi_wp2_with fail;refine ⟨HG.out.2.1, HG.out.1, jsA, qsA, i + 1, hJ4.out, h'.out.sub, h'.out.mj, h'.out.qsub, h'.out.qq, ⟨HG.out.2.2.1, HG.out.2.2.2.1, by simpa [Sr.nx] using HG.out.2.2.2.2.1, HG.out.2.2.2.2.2.1, HG.out.2.2.2.2.2.2, by show ((s.i + 1 : Nat) : Int) < many; have := hfin.out; omega⟩, by show i + 1 = s.i + 1; rw [hie.out], Nat.le_trans h'.out.size HG.out.2.1.size, h'.out.mde, h'.out.lj, h'.out.lq, fun x hx => (by cases hx), fun j hj => Nat.lt_of_lt_of_le (h'.out.jl j hj) HG.out.2.1.size, fun q hq => Nat.lt_of_lt_of_le (h'.out.ql q hq) HG.out.2.1.size⟩
    ·have HG := hid (hgo.out A3 hk3)
     have hJ4 := hid hJ3
     clear hgo hR' hyl6 hJ3 hk3;refine hK _ _ ?_;clear hK K;(try simp only [Act.put, lz]);refine rdI 4 (by kernel_rfl) rfl fun K hK => ?_
     go_simp;refine hK _ _ ?_;clear hK K;(try simp only [Act.put, lz]);refine rdI 5 (by kernel_rfl) rfl fun K hK => ?_
     go_simp;refine hK _ _ ?_;clear hK K;(try simp only [Act.put, lz]);refine rdJ 6 7 (by kernel_rfl) rfl rfl (fun K hK => ?_) fun K hK => ?_
     ·go_simp
      refine hK _ _ ?_;clear hK K;(try simp only [Act.put, lz]);refine rdI 7 (by kernel_rfl) rfl fun K hK => ?_
      go_simp;refine hK _ _ ?_;clear hK K;(try simp only [Act.put, lz]);refine rdI 8 (by kernel_rfl) rfl fun K hK => ?_
      go_simp;refine hK _ _ ?_;clear hK K;(try simp only [Act.put, lz]);refine rdI 9 (by kernel_rfl) rfl fun K hK => ?_
      go_simp;refine hK _ _ ?_;clear hK K;(try simp only [Act.put, lz]);refine wpAnyIn_done (by kernel_rfl) ?_ _
      gi_wp2_with fail;exact ⟨HG.out.2.1, HG.out.1, rfl, Sr.nx ⟨true, W2.heap.size, qsA, jsA, i, some ⟨za, zc, xl⟩⟩ ⟨za, zc, xl⟩, rfl, rfl, h'.out.qsub, h'.out.mde, h'.out.lj, .inl hJ4.out⟩
     ·go_simp
      refine hK _ _ ?_;clear hK K;(try simp only [Act.put, lz]);refine rdI 6 (by kernel_rfl) rfl fun K hK => ?_
      go_simp;refine hK _ _ ?_;clear hK K;(try simp only [Act.put, lz]);refine rdI 8 (by kernel_rfl) rfl fun K hK => ?_
      go_simp;refine hK _ _ ?_;clear hK K;(try simp only [Act.put, lz]);refine rdI 9 (by kernel_rfl) rfl fun K hK => ?_
      go_simp;refine hK _ _ ?_;clear hK K;(try simp only [Act.put, lz]);refine wpAnyIn_done (by kernel_rfl) ?_ _
      gi_wp2_with fail;exact ⟨HG.out.2.1, HG.out.1, rfl, Sr.nx ⟨true, W2.heap.size, qsA, jsA, i, some ⟨za, zc, xl⟩⟩ ⟨za, zc, xl⟩, rfl, rfl, h'.out.qsub, h'.out.mde, h'.out.lj, .inl hJ4.out⟩
   ·go_simp
    refine hK _ _ ?_;clear hK K;(try simp only [Act.put, lz]);refine rdJ 0 2 (by kernel_rfl) rfl rfl (fun K hK => ?_) fun K hK => ?_
    ·go_simp
     refine hK _ _ ?_;clear hK K;(try simp only [Act.put, lz]);refine rdI 2 (by kernel_rfl) rfl fun K hK => ?_
     go_simp;refine ⟨trivial, fun h => (by cases h), (CallsIn.inRound l0 (callsIn_wide.2 cCt.out)).mono ?_⟩
     rintro e Wz ⟨za, zc, rfl, hzrow, kz, hzb⟩;have c3z := kpAt kz c3b
     refine hK _ _ ?_;clear hK K;(try simp only [Act.put, lz]);have kWz := hid (KB.out.trans kz (by simp))
     have hzl := rowLies hzrow
     have hzb2 : ∀ j ∈ blk za, A.heap.size ≤ j := fun j hj => by have := hzb j hj; have := KB.out.size; omega
     have hJz : J ⟨true, W2.heap.size, qsA, jsA, i, some ⟨za, zc, xl⟩⟩ Wz := hT _ _ _ _ h'.out.j ⟨TurnR.ofKp (kWz.out.mono (fun q hq' => by rw [List.mem_singleton.1 hq']; exact .inl h'.out.qq)), fun _ => ⟨rfl, rfl, fun q hq => .inl hq⟩, fun e => (by cases e), fun j hj => .inl hj, rfl, .inr ⟨_, rfl, hR1.out, hzl, fun _ => ⟨hzrow, fun j hj => ⟨hzb2 j hj, fun hm => by have := h'.out.jl j hm; have := hzb2 j hj; omega, fun hm => by have := h'.out.ql j hm; have := hzb2 j hj; omega⟩⟩⟩⟩
     obtain ⟨fn, tmps, assign, body, hyl5, hR⟩ := hY _ ⟨za, zc, xl⟩ Wz hJz rfl;have hR' : RoundIn (Fence.wide.inRound l0) (n - 1 - 1 - 1) Tryz.prog ly fn tmps assign body Wz _ := RoundIn.anyDepthJ (F := Fence.wide.inRound l0) rfl hR
     have hgo : Hid (∀ A3, KeepR ⟨true, W2.heap.size, qsA, jsA, i, some ⟨za, zc, xl⟩⟩ Wz A3 → KeepR s A A3 ∧ KeepsFrom W2.heap.size A A3 ∧ A3.cell? ⟨q1, 0, none⟩ = some (.int .i64 many) ∧ A3.cell? ⟨q3, 0, none⟩ = some (.func (.yield ly) #[] #[]) ∧ A3.cell? ⟨q4, 0, none⟩ = some (.int .i64 ((s.i : Int) + 1)) ∧ A3.frozen? ⟨q4, 0, none⟩ = false ∧ ∀ k, 1 ≤ k → A3.cell? ⟨q4, k, none⟩ = none) := fun A3 hk3 => by
      have hnr : ∀ j (o : Obj), A.heap[j]? = some o → o.isCells = false → j ∉ [q4] := fun j o ho hc hm => by
       rw [List.mem_singleton.1 hm] at ho;have := hcel.out
       rw [ho] at this;simp [hc] at this
      have t1 : KeepR s A Wz := ⟨KeepB.ofKp kWz.out (fun j hj hm => h'.out.lq j hj (List.mem_singleton.1 hm)), fun _ j o _ ho hc => (kWz.out.block j (Array.getElem?_eq_some_iff.1 ho).1 (hnr j o ho hc)).trans ho⟩
      have t2 : KeepR s Wz A3 := ⟨⟨hk3.js.1, fun j hj o ho => hk3.js.2 j (h'.out.sub j hj) o ho⟩, fun hm j o hj ho hc => hk3.recs rfl j o (by have := (h'.out.mde hm).1; show W2.heap.size ≤ j; omega) ho hc⟩
      have ck3 := ckOfKeepB hk3.js
      have kz1 : Kp [] A1 Wz := KD.out.trans kz (by simp)
      have hin : ∀ q ∈ [q1, q3, q4], q ∈ jsA := fun q hq' => h'.out.mj q (by rw [hMj.out]; exact hq')
      have a4 := kpAt kz1 HC.out.2.2.1
      refine ⟨t1.trans t2, ⟨Nat.le_trans kWz.out.size hk3.js.1, fun j o hj ho hc => hk3.recs rfl j o hj ((kWz.out.block j (Array.getElem?_eq_some_iff.1 ho).1 (hnr j o ho hc)).trans ho) hc⟩, (ck3.2 ⟨q1, 0, none⟩ _ (hin q1 (by simp)) (kpAt kz1 HC.out.1)).1, (ck3.2 ⟨q3, 0, none⟩ _ (hin q3 (by simp)) (kpAt kz1 HC.out.2.1)).1, (ck3.2 ⟨q4, 0, none⟩ _ (hin q4 (by simp)) a4).1, ((ck3.2 ⟨q4, 0, none⟩ _ (hin q4 (by simp)) a4).2).trans ((kz1.frozen (p := ⟨q4, 0, none⟩) (World.block_lt_of_cell? _ _ HC.out.2.2.1) (by simp)).trans HC.out.2.2.2), noneCB (CB.ofKeepB hk3.js) (hin q4 (by simp)) a4 (noneCB (CB.ofKp kz1) (by simp) HC.out.2.2.1 HN.out)⟩
     have hyl6 := hyl5
     simp only [encR] at hyl6;clear hR hJz hzl hzrow kz hzb hzb2 hyl5 cCt;refine rdI 3 (by kernel_rfl) rfl fun K hK => ?_
     go_simp;refine ⟨fun h => (by cases h), hR'.mono ?_⟩
     rintro e A3 (⟨rfl, hJ3, hk3⟩ | ⟨rfl, hJ3, hk3⟩)
     ·have HG := hid (hgo.out A3 hk3)
      have hJ4 : Hid (J ⟨true, W2.heap.size, qsA, jsA, i + 1, none⟩ A3) := hJ3
      have y1 := HG.out.2.2.1
      have y4 := HG.out.2.2.2.2.1
      clear hgo hR' hyl6 hJ3 hk3;refine hK _ _ ?_;clear hK K;(try simp only [Act.put, lz]);refine rdI 4 (by kernel_rfl) rfl fun K hK => ?_
      go_simp;refine hK _ _ ?_;clear hK K;(try simp only [Act.put, lz]);refine rdI 5 (by kernel_rfl) rfl fun K hK => ?_
      go_simp;refine hK _ _ ?_;clear hK K;try simp only [Act.put, lz]
      by_cases hfin0 : (s.i : Int) + 1 = many
      ·have dE : ((s.i : Int) + 1 == many) = true := by simpa using hfin0
       have hfin := hid hfin0
       clear hfin0;refine rdJ 6 7 (by kernel_rfl) rfl rfl (fun K hK => ?_) fun K hK => ?_
       ·go_simp
        refine hK _ _ ?_;clear hK K;(try simp only [Act.put, lz]);refine rdI 7 (by kernel_rfl) rfl fun K hK => ?_
        go_simp;refine hK _ _ ?_;clear hK K;(try simp only [Act.put, lz]);refine rdI 8 (by kernel_rfl) rfl fun K hK => ?_
        go_simp;refine hK _ _ ?_;clear hK K;(try simp only [Act.put, lz]);refine rdI 9 (by kernel_rfl) rfl fun K hK => ?_
        go_simp;refine hK _ _ ?_;clear hK K;(try simp only [Act.put, lz]);refine wpAnyIn_done (by kernel_rfl) ?_ _
        gi_wp2_with fail;refine ⟨HG.out.2.1, HG.out.1, rfl, ⟨true, W2.heap.size, qsA, jsA, i + 1, none⟩, rfl, rfl, h'.out.qsub, h'.out.mde, h'.out.lj, .inr ⟨?_, rfl, hJ4.out⟩⟩;show i + 1 = RJ.length
        have h1 := hie.out
        have h2 := hfin.out
        rw [← hRJ.out, List.length_take];omega
       ·go_simp
        refine hK _ _ ?_;clear hK K;(try simp only [Act.put, lz]);refine rdI 6 (by kernel_rfl) rfl fun K hK => ?_
        go_simp;refine hK _ _ ?_;clear hK K;(try simp only [Act.put, lz]);refine rdI 8 (by kernel_rfl) rfl fun K hK => ?_
        go_simp;refine hK _ _ ?_;clear hK K;(try simp only [Act.put, lz]);refine rdI 9 (by kernel_rfl) rfl fun K hK => ?_
        go_simp;refine hK _ _ ?_;clear hK K;(try simp only [Act.put, lz]);refine wpAnyIn_done (by kernel_rfl) ?_ _
        gi_wp2_with fail;refine ⟨HG.out.2.1, HG.out.1, rfl, ⟨true, W2.heap.size, qsA, jsA, i + 1, none⟩, rfl, rfl, h'.out.qsub, h'.out.mde, h'.out.lj, .inr ⟨?_, rfl, hJ4.out⟩⟩;show i + 1 = RJ.length
        have h1 := hie.out
        have h2 := hfin.out
        rw [← hRJ.out, List.length_take];omega
      ·have dE : ((s.i : Int) + 1 == many) = false := beq_eq_false_iff_ne.2 hfin0
       have hfin := hid hfin0
       clear hfin0;refine rdJ 6 7 (by kernel_rfl) rfl rfl (fun K hK => ?_) fun K hK => ?_
       ·go_simp
        refine hK _ _ ?_;clear hK K;(try simp only [Act.put, lz]);refine rdI 7 (by kernel_rfl) rfl fun K hK => ?_
        go_simp;refine hK _ _ ?_;clear hK K;(try simp only [Act.put, lz]);refine rdI 8 (by kernel_rfl) rfl fun K hK => ?_
        go_simp;refine hK _ _ ?_;clear hK K;(try simp only [Act.put, lz]);refine rdI 9 (by kernel_rfl) rfl fun K hK => ?_
        go_simp;refine hK _ _ ?_;clear hK K;(try simp only [Act.put, lz]);refine wpAnyIn_done (by kernel_rfl) ?_ _
        gi_wp2_with fail;refine ⟨HG.out.2.1, HG.out.1, jsA, qsA, i + 1, hJ4.out, h'.out.sub, h'.out.mj, h'.out.qsub, h'.out.qq, ⟨HG.out.2.2.1, HG.out.2.2.2.1, by simpa [Sr.nx] using HG.out.2.2.2.2.1, HG.out.2.2.2.2.2.1, HG.out.2.2.2.2.2.2, by show ((s.i + 1 : Nat) : Int) < many; have := hfin.out; omega⟩, by show i + 1 = s.i + 1; rw [hie.out], Nat.le_trans h'.out.size HG.out.2.1.size, h'.out.mde, h'.out.lj, h'.out.lq, fun x hx => (by cases hx), fun j hj => Nat.lt_of_lt_of_le (h'.out.jl j hj) HG.out.2.1.size, fun q hq => Nat.lt_of_lt_of_le (h'.out.ql q hq) HG.out.2.1.size⟩
       ·go_simp
        refine hK _ _ ?_;clear hK K;(try simp only [Act.put, lz]);refine rdI 6 (by kernel_rfl) rfl fun K hK => ?_
        go_simp;refine hK _ _ ?_;clear hK K;(try simp only [Act.put, lz]);refine rdI 8 (by kernel_rfl) rfl fun K hK => ?_
        go_simp;refine hK _ _ ?_;clear hK K;(try simp only [Act.put, lz]);refine rdI 9 (by kernel_rfl) rfl fun K hK => ?_
        go_simp;refine hK _ _ ?_;clear hK K;(try simp only [Act.put, lz]);refine wpAnyIn_done (by kernel_rfl) ?_ _
        gi_wp2_with fail;refine ⟨HG.out.2.1, HG.out.1, jsA, qsA, i + 1, hJ4.out, h'.out.sub, h'.out.mj, h'.out.qsub, h'.out.qq, ⟨HG.out.2.2.1, HG.out.2.2.2.1, by simpa [Sr.nx] using HG.out.2.2.2.2.1, HG.out.2.2.2.2.2.1, HG.out.2.2.2.2.2.2, by show ((s.i + 1 : Nat) : Int) < many; have := hfin.out; omega⟩, by show i + 1 = s.i + 1; rw [hie.out], Nat.le_trans h'.out.size HG.out.2.1.size, h'.out.mde, h'.out.lj, h'.out.lq, fun x hx => (by cases hx), fun j hj => Nat.lt_of_lt_of_le (h'.out.jl j hj) HG.out.2.1.size, fun q hq => Nat.lt_of_lt_of_le (h'.out.ql q hq) HG.out.2.1.size⟩
     ·have HG := hid (hgo.out A3 hk3)
      have hJ4 := hid hJ3
      clear hgo hR' hyl6 hJ3 hk3;refine hK _ _ ?_;clear hK K;(try simp only [Act.put, lz]);refine rdI 4 (by kernel_rfl) rfl fun K hK => ?_
      go_simp;refine hK _ _ ?_;clear hK K;(try simp only [Act.put, lz]);refine rdI 5 (by kernel_rfl) rfl fun K hK => ?_
      go_simp;refine hK _ _ ?_;clear hK K;(try simp only [Act.put, lz]);refine rdJ 6 7 (by kernel_rfl) rfl rfl (fun K hK => ?_) fun K hK => ?_
      ·go_simp
       refine hK _ _ ?_;clear hK K;(try simp only [Act.put, lz]);refine rdI 7 (by kernel_rfl) rfl fun K hK => ?_
       go_simp;refine hK _ _ ?_;clear hK K;(try simp only [Act.put, lz]);refine rdI 8 (by kernel_rfl) rfl fun K hK => ?_
       go_simp;refine hK _ _ ?_;clear hK K;(try simp only [Act.put, lz]);refine rdI 9 (by kernel_rfl) rfl fun K hK => ?_
       go_simp;refine hK _ _ ?_;clear hK K;(try simp only [Act.put, lz]);refine wpAnyIn_done (by kernel_rfl) ?_ _
       gi_wp2_with fail;exact ⟨HG.out.2.1, HG.out.1, rfl, Sr.nx ⟨true, W2.heap.size, qsA, jsA, i, some ⟨za, zc, xl⟩⟩ ⟨za, zc, xl⟩, rfl, rfl, h'.out.qsub, h'.out.mde, h'.out.lj, .inl hJ4.out⟩
      ·go_simp
       refine hK _ _ ?_;clear hK K;(try simp only [Act.put, lz]);refine rdI 6 (by kernel_rfl) rfl fun K hK => ?_
       go_simp;refine hK _ _ ?_;clear hK K;(try simp only [Act.put, lz]);refine rdI 8 (by kernel_rfl) rfl fun K hK => ?_
       go_simp;refine hK _ _ ?_;clear hK K;(try simp only [Act.put, lz]);refine rdI 9 (by kernel_rfl) rfl fun K hK => ?_
       go_simp;refine hK _ _ ?_;clear hK K;(try simp only [Act.put, lz]);refine wpAnyIn_done (by kernel_rfl) ?_ _
       gi_wp2_with fail;exact ⟨HG.out.2.1, HG.out.1, rfl, Sr.nx ⟨true, W2.heap.size, qsA, jsA, i, some ⟨za, zc, xl⟩⟩ ⟨za, zc, xl⟩, rfl, rfl, h'.out.qsub, h'.out.mde, h'.out.lj, .inl hJ4.out⟩
    ·go_simp
     refine ⟨trivial, fun h => (by cases h), (CallsIn.inRound l0 (callsIn_wide.2 cCt.out)).mono ?_⟩
     rintro e Wz ⟨za, zc, rfl, hzrow, kz, hzb⟩;have c3z := kpAt kz c3b
     refine hK _ _ ?_;clear hK K;(try simp only [Act.put, lz]);refine rdI 0 (by kernel_rfl) rfl fun K hK => ?_
     go_simp;refine hK _ _ ?_;clear hK K;(try simp only [Act.put, lz]);have kWz := hid (KB.out.trans kz (by simp))
     have hzl := rowLies hzrow
     have hzb2 : ∀ j ∈ blk za, A.heap.size ≤ j := fun j hj => by have := hzb j hj; have := KB.out.size; omega
     have hJz : J ⟨true, W2.heap.size, qsA, jsA, i, some ⟨za, zc, xl⟩⟩ Wz := hT _ _ _ _ h'.out.j ⟨TurnR.ofKp (kWz.out.mono (fun q hq' => by rw [List.mem_singleton.1 hq']; exact .inl h'.out.qq)), fun _ => ⟨rfl, rfl, fun q hq => .inl hq⟩, fun e => (by cases e), fun j hj => .inl hj, rfl, .inr ⟨_, rfl, hR1.out, hzl, fun _ => ⟨hzrow, fun j hj => ⟨hzb2 j hj, fun hm => by have := h'.out.jl j hm; have := hzb2 j hj; omega, fun hm => by have := h'.out.ql j hm; have := hzb2 j hj; omega⟩⟩⟩⟩
     obtain ⟨fn, tmps, assign, body, hyl5, hR⟩ := hY _ ⟨za, zc, xl⟩ Wz hJz rfl;have hR' : RoundIn (Fence.wide.inRound l0) (n - 1 - 1 - 1) Tryz.prog ly fn tmps assign body Wz _ := RoundIn.anyDepthJ (F := Fence.wide.inRound l0) rfl hR
     have hgo : Hid (∀ A3, KeepR ⟨true, W2.heap.size, qsA, jsA, i, some ⟨za, zc, xl⟩⟩ Wz A3 → KeepR s A A3 ∧ KeepsFrom W2.heap.size A A3 ∧ A3.cell? ⟨q1, 0, none⟩ = some (.int .i64 many) ∧ A3.cell? ⟨q3, 0, none⟩ = some (.func (.yield ly) #[] #[]) ∧ A3.cell? ⟨q4, 0, none⟩ = some (.int .i64 ((s.i : Int) + 1)) ∧ A3.frozen? ⟨q4, 0, none⟩ = false ∧ ∀ k, 1 ≤ k → A3.cell? ⟨q4, k, none⟩ = none) := fun A3 hk3 => by
      have hnr : ∀ j (o : Obj), A.heap[j]? = some o → o.isCells = false → j ∉ [q4] := fun j o ho hc hm => by
       rw [List.mem_singleton.1 hm] at ho;have := hcel.out
       rw [ho] at this;simp [hc] at this
      have t1 : KeepR s A Wz := ⟨KeepB.ofKp kWz.out (fun j hj hm => h'.out.lq j hj (List.mem_singleton.1 hm)), fun _ j o _ ho hc => (kWz.out.block j (Array.getElem?_eq_some_iff.1 ho).1 (hnr j o ho hc)).trans ho⟩
      have t2 : KeepR s Wz A3 := ⟨⟨hk3.js.1, fun j hj o ho => hk3.js.2 j (h'.out.sub j hj) o ho⟩, fun hm j o hj ho hc => hk3.recs rfl j o (by have := (h'.out.mde hm).1; show W2.heap.size ≤ j; omega) ho hc⟩
      have ck3 := ckOfKeepB hk3.js
      have kz1 : Kp [] A1 Wz := KD.out.trans kz (by simp)
      have hin : ∀ q ∈ [q1, q3, q4], q ∈ jsA := fun q hq' => h'.out.mj q (by rw [hMj.out]; exact hq')
      have a4 := kpAt kz1 HC.out.2.2.1
      refine ⟨t1.trans t2, ⟨Nat.le_trans kWz.out.size hk3.js.1, fun j o hj ho hc => hk3.recs rfl j o hj ((kWz.out.block j (Array.getElem?_eq_some_iff.1 ho).1 (hnr j o ho hc)).trans ho) hc⟩, (ck3.2 ⟨q1, 0, none⟩ _ (hin q1 (by simp)) (kpAt kz1 HC.out.1)).1, (ck3.2 ⟨q3, 0, none⟩ _ (hin q3 (by simp)) (kpAt kz1 HC.out.2.1)).1, (ck3.2 ⟨q4, 0, none⟩ _ (hin q4 (by simp)) a4).1, ((ck3.2 ⟨q4, 0, none⟩ _ (hin q4 (by simp)) a4).2).trans ((kz1.frozen (p := ⟨q4, 0, none⟩) (World.block_lt_of_cell? _ _ HC.out.2.2.1) (by simp)).trans HC.out.2.2.2), noneCB (CB.ofKeepB hk3.js) (hin q4 (by simp)) a4 (noneCB (CB.ofKp kz1) (by simp) HC.out.2.2.1 HN.out)⟩
     have hyl6 := hyl5
     simp only [encR] at hyl6;clear hR hJz hzl hzrow kz hzb hzb2 hyl5 cCt;refine rdI 3 (by kernel_rfl) rfl fun K hK => ?_
     go_simp;refine ⟨fun h => (by cases h), hR'.mono ?_⟩
     rintro e A3 (⟨rfl, hJ3, hk3⟩ | ⟨rfl, hJ3, hk3⟩)
     ·have HG := hid (hgo.out A3 hk3)
      have hJ4 : Hid (J ⟨true, W2.heap.size, qsA, jsA, i + 1, none⟩ A3) := hJ3
      have y1 := HG.out.2.2.1
      have y4 := HG.out.2.2.2.2.1
      clear hgo hR' hyl6 hJ3 hk3;refine hK _ _ ?_;clear hK K;(try simp only [Act.put, lz]);refine rdI 4 (by kernel_rfl) rfl fun K hK => ?_
      go_simp;refine hK _ _ ?_;clear hK K;(try simp only [Act.put, lz]);refine rdI 5 (by kernel_rfl) rfl fun K hK => ?_
      go_simp;refine hK _ _ ?_;clear hK K;try simp only [Act.put, lz]
      by_cases hfin0 : (s.i : Int) + 1 = many
      ·have dE : ((s.i : Int) + 1 == many) = true := by simpa using hfin0
       have hfin := hid hfin0
       clear hfin0;refine rdJ 6 7 (by kernel_rfl) rfl rfl (fun K hK => ?_) fun K hK => ?_
       ·go_simp
        refine hK _ _ ?_;clear hK K;(try simp only [Act.put, lz]);refine rdI 7 (by kernel_rfl) rfl fun K hK => ?_
        go_simp;refine hK _ _ ?_;clear hK K;(try simp only [Act.put, lz]);refine rdI 8 (by kernel_rfl) rfl fun K hK => ?_
        go_simp;refine hK _ _ ?_;clear hK K;(try simp only [Act.put, lz]);refine rdI 9 (by kernel_rfl) rfl fun K hK => ?_
        go_simp;refine hK _ _ ?_;clear hK K;(try simp only [Act.put, lz]);refine wpAnyIn_done (by kernel_rfl) ?_ _
        gi_wp2_with fail;refine ⟨HG.out.2.1, HG.out.1, rfl, ⟨true, W2.heap.size, qsA, jsA, i + 1, none⟩, rfl, rfl, h'.out.qsub, h'.out.mde, h'.out.lj, .inr ⟨?_, rfl, hJ4.out⟩⟩;show i + 1 = RJ.length
        have h1 := hie.out
        have h2 := hfin.out
        rw [← hRJ.out, List.length_take];omega
       ·go_simp
        refine hK _ _ ?_;clear hK K;(try simp only [Act.put, lz]);refine rdI 6 (by kernel_rfl) rfl fun K hK => ?_
        go_simp;refine hK _ _ ?_;clear hK K;(try simp only [Act.put, lz]);refine rdI 8 (by kernel_rfl) rfl fun K hK => ?_
        go_simp;refine hK _ _ ?_;clear hK K;(try simp only [Act.put, lz]);refine rdI 9 (by kernel_rfl) rfl fun K hK => ?_
        go_simp;refine hK _ _ ?_;clear hK K;(try simp only [Act.put, lz]);refine wpAnyIn_done (by kernel_rfl) ?_ _
        gi_wp2_with fail;refine ⟨HG.out.2.1, HG.out.1, rfl, ⟨true, W2.heap.size, qsA, jsA, i + 1, none⟩, rfl, rfl, h'.out.qsub, h'.out.mde, h'.out.lj, .inr ⟨?_, rfl, hJ4.out⟩⟩;show i + 1 = RJ.length
        have h1 := hie.out
        have h2 := hfin.out
        rw [← hRJ.out, List.length_take];omega
      ·have dE : ((s.i : Int) + 1 == many) = false := beq_eq_false_iff_ne.2 hfin0
       have hfin := hid hfin0
       clear hfin0;refine rdJ 6 7 (by kernel_rfl) rfl rfl (fun K hK => ?_) fun K hK => ?_
       ·go_simp
        refine hK _ _ ?_;clear hK K;(try simp only [Act.put, lz]);refine rdI 7 (by kernel_rfl) rfl fun K hK => ?_
        go_simp;refine hK _ _ ?_;clear hK K;(try simp only [Act.put, lz]);refine rdI 8 (by kernel_rfl) rfl fun K hK => ?_
        go_simp;refine hK _ _ ?_;clear hK K;(try simp only [Act.put, lz]);refine rdI 9 (by kernel_rfl) rfl fun K hK => ?_
        go_simp;refine hK _ _ ?_;clear hK K;(try simp only [Act.put, lz]);refine wpAnyIn_done (by kernel_rfl) ?_ _
        gi_wp2_with fail;refine ⟨HG.out.2.1, HG.out.1, jsA, qsA, i + 1, hJ4.out, h'.out.sub, h'.out.mj, h'.out.qsub, h'.out.qq, ⟨HG.out.2.2.1, HG.out.2.2.2.1, by simpa [Sr.nx] using HG.out.2.2.2.2.1, HG.out.2.2.2.2.2.1, HG.out.2.2.2.2.2.2, by show ((s.i + 1 : Nat) : Int) < many; have := hfin.out; omega⟩, by show i + 1 = s.i + 1; rw [hie.out], Nat.le_trans h'.out.size HG.out.2.1.size, h'.out.mde, h'.out.lj, h'.out.lq, fun x hx => (by cases hx), fun j hj => Nat.lt_of_lt_of_le (h'.out.jl j hj) HG.out.2.1.size, fun q hq => Nat.lt_of_lt_of_le (h'.out.ql q hq) HG.out.2.1.size⟩
       ·go_simp
        refine hK _ _ ?_;clear hK K;(try simp only [Act.put, lz]);refine rdI 6 (by kernel_rfl) rfl fun K hK => ?_
        go_simp;refine hK _ _ ?_;clear hK K;(try simp only [Act.put, lz]);refine rdI 8 (by kernel_rfl) rfl fun K hK => ?_
        go_simp;refine hK _ _ ?_;clear hK K;(try simp only [Act.put, lz]);refine rdI 9 (by kernel_rfl) rfl fun K hK => ?_
        go_simp;refine hK _ _ ?_;clear hK K;(try simp only [Act.put, lz]);refine wpAnyIn_done (by kernel_rfl) ?_ _
        gi_wp2_with fail;refine ⟨HG.out.2.1, HG.out.1, jsA, qsA, i + 1, hJ4.out, h'.out.sub, h'.out.mj, h'.out.qsub, h'.out.qq, ⟨HG.out.2.2.1, HG.out.2.2.2.1, by simpa [Sr.nx] using HG.out.2.2.2.2.1, HG.out.2.2.2.2.2.1, HG.out.2.2.2.2.2.2, by show ((s.i + 1 : Nat) : Int) < many; have := hfin.out; omega⟩, by show i + 1 = s.i + 1; rw [hie.out], Nat.le_trans h'.out.size HG.out.2.1.size, h'.out.mde, h'.out.lj, h'.out.lq, fun x hx => (by cases hx), fun j hj => Nat.lt_of_lt_of_le (h'.out.jl j hj) HG.out.2.1.size, fun q hq => Nat.lt_of_lt_of_le (h'.out.ql q hq) HG.out.2.1.size⟩
     ·have HG := hid (hgo.out A3 hk3)
      have hJ4 := hid hJ3
      clear hgo hR' hyl6 hJ3 hk3;refine hK _ _ ?_;clear hK K;(try simp only [Act.put, lz]);refine rdI 4 (by kernel_rfl) rfl fun K hK => ?_
      go_simp;refine hK _ _ ?_;clear hK K;(try simp only [Act.put, lz]);refine rdI 5 (by kernel_rfl) rfl fun K hK => ?_
      go_simp;refine hK _ _ ?_;clear hK K;(try simp only [Act.put, lz]);refine rdJ 6 7 (by kernel_rfl) rfl rfl (fun K hK => ?_) fun K hK => ?_
      ·go_simp
       refine hK _ _ ?_;clear hK K;(try simp only [Act.put, lz]);refine rdI 7 (by kernel_rfl) rfl fun K hK => ?_
       go_simp;refine hK _ _ ?_;clear hK K;(try simp only [Act.put, lz]);refine rdI 8 (by kernel_rfl) rfl fun K hK => ?_
       go_simp;refine hK _ _ ?_;clear hK K;(try simp only [Act.put, lz]);refine rdI 9 (by kernel_rfl) rfl fun K hK => ?_
       go_simp;refine hK _ _ ?_;clear hK K;(try simp only [Act.put, lz]);refine wpAnyIn_done (by kernel_rfl) ?_ _
       gi_wp2_with fail;exact ⟨HG.out.2.1, HG.out.1, rfl, Sr.nx ⟨true, W2.heap.size, qsA, jsA, i, some ⟨za, zc, xl⟩⟩ ⟨za, zc, xl⟩, rfl, rfl, h'.out.qsub, h'.out.mde, h'.out.lj, .inl hJ4.out⟩
      ·go_simp
       refine hK _ _ ?_;clear hK K;(try simp only [Act.put, lz]);refine rdI 6 (by kernel_rfl) rfl fun K hK => ?_
       go_simp;refine hK _ _ ?_;clear hK K;(try simp only [Act.put, lz]);refine rdI 8 (by kernel_rfl) rfl fun K hK => ?_
       go_simp;refine hK _ _ ?_;clear hK K;(try simp only [Act.put, lz]);refine rdI 9 (by kernel_rfl) rfl fun K hK => ?_
       go_simp;refine hK _ _ ?_;clear hK K;(try simp only [Act.put, lz]);refine wpAnyIn_done (by kernel_rfl) ?_ _
       gi_wp2_with fail;exact ⟨HG.out.2.1, HG.out.1, rfl, Sr.nx ⟨true, W2.heap.size, qsA, jsA, i, some ⟨za, zc, xl⟩⟩ ⟨za, zc, xl⟩, rfl, rfl, h'.out.qsub, h'.out.mde, h'.out.lj, .inl hJ4.out⟩
  case done =>
   rintro D s X hD ⟨hmd, hsi, hsp⟩ ⟨jsA, qsA, i, h⟩ hrec
   have hie : i = RJ.length := by
    have h1 := h.rel
    have h2 := h.m.lt
    rw [← hRJ.out, List.length_take];omega
   have hJD := hT _ _ _ _ h.j (StepR.same rfl rfl (TurnR.ofGrown (grownBy_putObj' X D (.deferred none)) (fun r e => by cases e; exact ⟨hD, _, hrec, rfl⟩)))
   gi_wp2_with fail;refine ⟨by simp, .inl ⟨_, _, rfl, run_takeDeferred hrec, ?_⟩⟩
   exact ⟨_, results_none rfl _ _ _, ⟨_, rfl⟩, .inl ⟨_, ⟨rfl, hie, rfl⟩, hJD⟩⟩
  case stop =>
   rintro D c s X hD hsm ⟨rfl, h⟩ hrec;obtain ⟨s2, h1, h2, h3, h4, h5, h6⟩ := h;have hJD := JxD.step hT hX _ _ _ h6 ⟨h1, TurnR.ofGrown (grownBy_putObj' X D (.deferred none)) (fun r e => by cases e; exact ⟨by rw [h2]; exact hD, _, hrec, rfl⟩)⟩
   gi_wp2_with fail;refine ⟨by simp, .inl ⟨_, _, rfl, run_takeDeferred hrec, ?_⟩⟩
   refine ⟨_, results_none rfl _ _ _, ⟨_, rfl⟩, ?_⟩
   rcases hJD with e | ⟨e1, e2, e3⟩
   ·exact .inr ⟨s2, h1, e⟩
   ·exact .inl ⟨s2, ⟨h1, e1, e2⟩, e3⟩
theorem heLim : ∀ (args : Array Value) (w : World), (callFunc 109 args).run Tryz.prog w = .ok (.enter 109 args) w := fun _ _ => rfl
theorem limSrc {gl : Nat} {lbl : Array Value} {many : Int} {w w' : World} (hw : w' = (w.alloc (.cells #[.func (.func gl) #[] lbl] 123)).alloc (.cells #[.int .i64 many] 3)) (m : Nat) (hm : 2 ≤ m) (fr : Bool) (RL : List (List Val)) (jsl : List Nat) (heg : ∀ args w, (callFunc gl args).run Tryz.prog w = .ok (.enter gl args) w) (hL : ∀ n, m ≤ n → RowSeq fr (n - 1) gl lbl RL jsl w) (hjl : ∀ j ∈ jsl, j < w.heap.size) (hRLl : ∀ l ∈ RL, l.length ≤ 1800000000000) (hRLn : RL.length ≤ 4000000000000) (hmx : many ≤ 9223372036854775807) :
  ∃ js, (∀ j ∈ js, j < w'.heap.size) ∧ (∀ n, m ≤ n → RowSeq true n 109 #[.pointer (some ⟨w.heap.size + 1, 0, none⟩), .pointer (some ⟨w.heap.size, 0, none⟩)] (RL.take many.toNat) js w') ∧ Kp [] w w' := by
 obtain ⟨wa, ha⟩ : ∃ x, x = w.alloc (.cells #[.func (.func gl) #[] lbl] 123) := ⟨_, rfl⟩
 rw [← ha] at hw;have za : wa.heap.size = w.heap.size + 1 := by rw [ha]; simp
 have zb : w'.heap.size = w.heap.size + 2 := by rw [hw]; simp [za]
 have ka : Kp [] w wa := by rw [ha]; exact (Kp.refl _ _).alloc _
 have kb : Kp [] wa w' := by rw [hw]; exact (Kp.refl _ _).alloc _
 have ba : Bn wa w.heap.size [.func (.func gl) #[] lbl] := by rw [ha]; exact Bn.new w _ _
 have bb : Bn w' (w.heap.size + 1) [.int .i64 many] := by rw [hw, ← za]; exact Bn.new wa _ _
 have k := ka.trans kb (by simp)
 have hjs : ∀ j ∈ jsl ++ [w.heap.size + 1, w.heap.size], j < w'.heap.size := fun j hj => by
  rcases List.mem_append.1 hj with e | e
  ·have := hjl j e; omega
  ·simp at e; omega
 exact ⟨_, hjs, fun n hn => limSeq n (by omega) _ _ fr gl lbl RL jsl _ many w' heg (bb.get 0 _ rfl) ((ba.kept kb).get 0 _ rfl) (fun q hq => List.mem_append.2 (.inr hq)) (fun j hj => List.mem_append.2 (.inl hj)) hjs ((hL n hn).move (KeepB.ofKp k (by simp))) hRLl hRLn hmx, k⟩
end Go.Proofs.YtlgfekjoknbfdaaGreatDoor
end

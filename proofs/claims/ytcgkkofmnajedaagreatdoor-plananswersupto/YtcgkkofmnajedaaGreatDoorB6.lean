/- exec.told: a group's row. exec.together of one member. slices.Clone of numbers, of what is asked of a group. exec.Group's closure. Members of groups that are gathered. exec.members, over any iterator of rows. exec.Group's iterator. An iterator that ranges over another one: its own memory. How Limit's inner range stands. -/
import Derived.Test.YtcgkkofmnajedaaGreatDoorB5
set_option maxHeartbeats 64000000
set_option maxRecDepth 100000
section
namespace Go.Proofs.YtcgkkofmnajedaaGreatDoor
open Go.RowKit Go.Hay
attribute [local go_sem] Oper.semAt_some
set_option linter.unusedVariables false
set_option linter.unusedSimpArgs false
def AgE : El (Int × Int) where
 n := 2
 c x := [.int .i64 x.1, .int .i64 x.2]
 len _ := rfl
 one _ u hu := by simp at hu; rcases hu with rfl | rfl <;> rfl
 pos := by decide
theorem agAt {w : World} {a : Option Addr} {l : List (Int × Int)} (h : AgE.See w a l) (j : Nat) (hj : j < l.length) : ∃ g o, a = some ⟨g, o, none⟩ ∧ w.cell? ⟨g, o + j * 2, none⟩ = some (.int .i64 l[j].1) ∧ w.cell? ⟨g, o + j * 2 + 1, none⟩ = some (.int .i64 l[j].2) := by
 obtain ⟨g, o, e, hc⟩ := h.at (j := j) (x := l[j]) (by simp [hj])
 exact ⟨g, o, e, hc 0 _ rfl, hc 1 _ rfl⟩
theorem boxAg (w : World) (x y : Int) : ∃ q W1 W2, w.heap.size = q ∧ w.alloc (.cells #[.int .i64 0, .int .i64 0] 102) = W1 ∧ Bn W1 q [.int .i64 0, .int .i64 0] ∧ (W1.setCell ⟨q, 0, none⟩ (.int .i64 x)).setCell ⟨q, 1, none⟩ (.int .i64 y) = W2 ∧ Bn W2 q [.int .i64 x, .int .i64 y] ∧ Kp [] w W2 := by
 have b0 := Bn.new w [.int .i64 0, .int .i64 0] 102
 have k0 : Kp [] w (w.alloc (.cells #[.int .i64 0, .int .i64 0] 102)) := (Kp.refl _ _).alloc _
 have h : w.heap.size ∈ ([] : List Nat) ∨ w.heap.size ≤ w.heap.size := .inr (Nat.le_refl _)
 exact ⟨_, _, _, rfl, rfl, b0, rfl, (b0.set 0 (by simp) (.int .i64 x)).set 1 (by simp) (.int .i64 y), (k0.setCell h _).setCell h _⟩
theorem cTold (ka : Option Addr) (kc : Nat) (key : List Val) (ma : Option Addr) (mn mc : Nat) (ga : Option Addr) (gc : Nat) (gs : List (Int × Int)) (tv : Int × Int → Val) (w : World) (hk : (⟨ka, kc, key⟩ : Vs).lies w) (hg : AgE.See w ga gs) (hkl : key.length + gs.length ≤ 3000000000000)
  (ht : ∀ g ∈ gs, ∀ W, Kp [] w W → Calls Tryz.prog 167 #[.slice ma mn mc, .agg #[.int .i64 g.1, .int .i64 g.2]] W fun e w' => e = .returned (.agg #[.int .i64 (tv g).k, .bool (tv g).b, .int .i64 (tv g).n, .string (tv g).t]) ∧ Kp [] W w') :
  Calls Tryz.prog 143 #[.slice ka key.length kc, .slice ma mn mc, .slice ga gs.length gc] w (NewR (key ++ gs.map tv) w) := by
 have cC := hid (cCloneR ka kc key w hk.see hk.nil (by omega))
 have HG := hid hg
 have HT := hid ht
 clear hg ht hk
 go_enter Tryz.func143, Tryz.ntmps143
 go_wp2_with fail
 refine cC.out.mono ?_
 rintro e w0 ⟨ya, yc, rfl, hyr, ky, hyb⟩
 have H0 := hid (And.intro hyr (And.intro ky hyb))
 clear cC hyr ky hyb
 go_wp2_with fail
 go_loopw [7, 14] (fun v7 i wr => ∃ (j : Nat) (ra : Option Addr) (rc : Nat) (m : List Val), j ≤ gs.length ∧ i = .int .i64 (j : Int) ∧ v7 = .slice ra m.length rc ∧ Hid (m = key ++ (gs.take j).map tv) ∧ Hid (VE.Row wr (.slice ra m.length rc) m ∧ Kp [] w wr ∧ ∀ k ∈ blk ra, w.heap.size ≤ k)) (fun _ i _ => gs.length - (intOf i).toNat)
 case atStart => exact ⟨0, ya, yc, key, Nat.zero_le _, rfl, rfl, by simp [hid], H0⟩
 case round =>
  obtain ⟨j, ra, rc, m, hj, rfl, rfl, hm, H⟩ := hrel
  clear H0
  by_cases hlt : j < gs.length
  ·obtain ⟨g, o, ea, c0, c1⟩ := agAt HG.out j hlt
   have cg0 := kpAt H.out.2.1 c0
   have cg1 := kpAt H.out.2.1 c1
   have htk : Hid ((gs.take (j + 1)).map tv = (gs.take j).map tv ++ [tv gs[j]]) := by show _ = _; rw [List.take_succ_eq_append_getElem hlt, List.map_append]; rfl
   have hT := hid (HT.out gs[j] (List.getElem_mem hlt))
   obtain ⟨x, hx⟩ : ∃ x, Hid (gs[j] = x) := ⟨gs[j], rfl⟩
   rw [hx.out] at cg0 cg1 htk hT
   obtain ⟨x1, x2⟩ := x
   dsimp only at cg0 cg1 hT
   obtain ⟨q9, B1, B2, eq9, e1, b1, e2, b2, kb⟩ := boxAg wr x1 x2
   have m0 := b1.get 0 _ rfl; have m1 := b1.get 1 _ rfl
   have f0 := b1.free 0; have f1 := b1.free 1
   have v0 := b2.get 0 _ rfl; have v1 := b2.get 1 _ rfl
   have cT := hid (hT.out B2 (H.out.2.1.trans kb (by simp)))
   obtain ⟨⟨tk, tb, tn, tt⟩, htv⟩ : ∃ v, Hid (tv (x1, x2) = v) := ⟨tv (x1, x2), rfl⟩
   rw [htv.out] at cT htk
   dsimp only at cT
   have hml : m.length ≤ 3000000000000 := by rw [hm.out]; simp; omega
   have i1 : (0 : Int) ≤ (j : Int) := by omega
   have i2 : (j : Int) < (gs.length : Int) := by omega
   have i3 : (j : Int) + 1 ≤ 9223372036854775807 := by omega
   have KB := hid kb
   subst ea
   clear c0 c1 b1 b2 kb
   go_wp2_with fail
   refine cT.out.mono ?_
   rintro e wd ⟨rfl, kd⟩
   have kbd := KB.out.trans kd (by simp)
   obtain ⟨a4, c4, W4, hrun, hr4, k4, hn4⟩ := appV1 (H.out.1.keptNew kbd) ⟨tk, tb, tn, tt⟩ hml
   obtain ⟨m4, hm4⟩ : ∃ m4, Hid (m ++ [(⟨tk, tb, tn, tt⟩ : Val)] = m4) := ⟨_, rfl⟩
   rw [hm4.out] at hrun hr4
   dsimp only at hrun
   have kwd := H.out.2.1.trans kbd (by simp)
   have HF : Hid (VE.Row W4 (.slice a4 m4.length c4) m4 ∧ Kp [] w W4 ∧ ∀ k ∈ blk a4, w.heap.size ≤ k) := ⟨hr4, kwd.trans k4 (fun x hx => .inr (H.out.2.2 x hx)), fun k hk => by
    rcases hn4 k hk with e | e
    ·exact H.out.2.2 k e
    ·have := kwd.size; omega⟩
   have hm5 : Hid (m4 = key ++ (gs.take (j + 1)).map tv) := by show _ = _; rw [htk.out, ← List.append_assoc, ← hm.out, hm4.out]
   clear cT kd hr4 k4 hn4 kwd kbd m0 m1 f0 f1 v0 v1
   go_wp2_with (first | (refine wpAppRunY rfl _ _ 61 61 rfl _ _ _ rfl rfl hrun ?_) | fail)
   go_roundw
   case rel => exact ⟨j + 1, a4, c4, m4, by omega, by go_num, rfl, hm5, HF⟩
   case measure => simp [intOf]; omega
  ·have hmm : m = key ++ gs.map tv := by rw [hm.out, show j = gs.length by omega, List.take_length]
   have dj1 : ¬ (j : Int) < (gs.length : Int) := by omega
   have dj2 : decide ((j : Int) < (gs.length : Int)) = false := by simp; omega
   have hmm' := hid hmm
   clear hmm
   go_wp2_with fail
   go_ret
   rw [← hmm'.out]
   exact ⟨ra, rc, rfl, H.out.1, H.out.2.1, H.out.2.2⟩

theorem infoIY : ∃ i : TypeInfo, Tryz.prog.info? 3 = some i ∧ i.zero = some (.int .i64 0) ∧ i.size = 1 ∧ i.bytes = 8 := by
 have h : (Tryz.prog.info? 3).map (fun i => (i.zero, i.size, i.bytes)) = some (some (.int .i64 0), 1, 8) := by kernel_rfl
 cases e : Tryz.prog.info? 3 with
 | none => rw [e] at h; cases h
 | some i =>
  rw [e] at h
  simp at h
  exact ⟨i, rfl, h.1, h.2.1, h.2.2⟩
theorem eqNilIY (a : Option Addr) (n c : Nat) (w : World) : (binOp .eql 27 (.slice a n c) (.slice none 0 0)).run Tryz.prog w = .ok (.bool a.isNone) w := by
 simp only [binOp]
 simp [run_equal_slice_nil w 27 3 a n c Tryz.underlying27]
def NewIY (l : List (Int)) (w : World) (e : Ending) (w' : World) : Prop := ∃ a c, e = .returned (.slice a l.length c) ∧ IntE.Row w' (.slice a l.length c) l ∧ Kp [] w w' ∧ ∀ k ∈ blk a, w.heap.size ≤ k
theorem cCloneIY (a : Option Addr) (c : Nat) (l : List (Int)) (w : World) (hs : IntE.See w a l) (hn : a = none → c = 0) (hb : l.length ≤ 3600000000000) :
  Calls Tryz.prog 139 #[.slice a l.length c] w (NewIY l w) := by
 cases a with
 | none =>
  have hl : l = [] := by rcases hs with h | ⟨g, o, h, _⟩; exact h; cases h
  subst hl
  rw [hn rfl]
  have e1 := eqNilIY none 0 0
  go_enter Tryz.func139, Tryz.ntmps139
  go_wp2_with fail
  go_ret
  exact ⟨none, 0, rfl, .inl ⟨rfl, rfl⟩, Kp.refl _ _, by simp [blk]⟩
 | some ad =>
  have e0 := eqNilIY (some ad) l.length c
  go_enter Tryz.func139, Tryz.ntmps139
  have k1 : Kp [] w (w.alloc (.cells #[] 3)) := (Kp.refl _ _).alloc _
  have hr := rowNoneY IntE w rfl #[] 3
  have hsr := (hs.keptNew k1).src (P := Tryz.prog) Tryz.underlying27 c
  obtain ⟨i0, hi, hz0, hz1, hz2⟩ := infoIY
  go_wp2_with (first | (refine wpAppG (E := IntE) rfl _ _ 27 27 3 rfl i0 _ 8 Tryz.underlying27 hi hz0 hz1 hz2 rfl _ [] rfl hr _ l rfl hsr (by simp; omega) (by simp; omega) ?_; intro ys a' c' w' hy hrow hg hn) | fail)
  go_ret
  have e : ys = l := by rw [hy.out]; rfl
  subst e
  refine ⟨a', c', rfl, hrow, k1.trans hg (fun k hk => .inr ?_), fun k hk => ?_⟩
  ·simp [own, Value.ownBlock, Act.eval] at hk; omega
  ·rcases hn k hk with h1 | h1
   ·simp [own, Value.ownBlock, Act.eval] at h1; omega
   ·exact Nat.le_trans k1.size h1
theorem infoAY : ∃ i : TypeInfo, Tryz.prog.info? 102 = some i ∧ i.zero = some (.agg #[.int .i64 0, .int .i64 0]) ∧ i.size = 2 ∧ i.bytes = 16 := by
 have h : (Tryz.prog.info? 102).map (fun i => (i.zero, i.size, i.bytes)) = some (some (.agg #[.int .i64 0, .int .i64 0]), 2, 16) := by kernel_rfl
 cases e : Tryz.prog.info? 102 with
 | none => rw [e] at h; cases h
 | some i =>
  rw [e] at h
  simp at h
  exact ⟨i, rfl, h.1, h.2.1, h.2.2⟩
theorem eqNilAY (a : Option Addr) (n c : Nat) (w : World) : (binOp .eql 28 (.slice a n c) (.slice none 0 0)).run Tryz.prog w = .ok (.bool a.isNone) w := by
 simp only [binOp]
 simp [run_equal_slice_nil w 28 102 a n c Tryz.underlying28]
def NewAY (l : List (Int × Int)) (w : World) (e : Ending) (w' : World) : Prop := ∃ a c, e = .returned (.slice a l.length c) ∧ AgE.Row w' (.slice a l.length c) l ∧ Kp [] w w' ∧ ∀ k ∈ blk a, w.heap.size ≤ k
theorem cCloneAY (a : Option Addr) (c : Nat) (l : List (Int × Int)) (w : World) (hs : AgE.See w a l) (hn : a = none → c = 0) (hb : l.length ≤ 3600000000000) :
  Calls Tryz.prog 140 #[.slice a l.length c] w (NewAY l w) := by
 cases a with
 | none =>
  have hl : l = [] := by rcases hs with h | ⟨g, o, h, _⟩; exact h; cases h
  subst hl
  rw [hn rfl]
  have e1 := eqNilAY none 0 0
  go_enter Tryz.func140, Tryz.ntmps140
  go_wp2_with fail
  go_ret
  exact ⟨none, 0, rfl, .inl ⟨rfl, rfl⟩, Kp.refl _ _, by simp [blk]⟩
 | some ad =>
  have e0 := eqNilAY (some ad) l.length c
  go_enter Tryz.func140, Tryz.ntmps140
  have k1 : Kp [] w (w.alloc (.cells #[] 102)) := (Kp.refl _ _).alloc _
  have hr := rowNoneY AgE w rfl #[] 102
  have hsr := (hs.keptNew k1).src (P := Tryz.prog) Tryz.underlying28 c
  obtain ⟨i0, hi, hz0, hz1, hz2⟩ := infoAY
  go_wp2_with (first | (refine wpAppG (E := AgE) rfl _ _ 28 28 102 rfl i0 _ 16 Tryz.underlying28 hi hz0 hz1 hz2 rfl _ [] rfl hr _ l rfl hsr (by simp; omega) (by simp; omega) ?_; intro ys a' c' w' hy hrow hg hn) | fail)
  go_ret
  have e : ys = l := by rw [hy.out]; rfl
  subst e
  refine ⟨a', c', rfl, hrow, k1.trans hg (fun k hk => .inr ?_), fun k hk => ?_⟩
  ·simp [own, Value.ownBlock, Act.eval] at hk; omega
  ·rcases hn k hk with h1 | h1
   ·simp [own, Value.ownBlock, Act.eval] at h1; omega
   ·exact Nat.le_trans k1.size h1
def GrpP (g : Nat) (lb : Array Value) (bs : List Int) (gs : List (Int × Int)) (w : World) (e : Ending) (w' : World) : Prop := ∃ (q3 q4 q5 : Nat) (a4 : Option Addr) (c4 : Nat) (a5 : Option Addr) (c5 : Nat), e = .returned (.func (.func 141) #[] #[.pointer (some ⟨q3, 0, none⟩), .pointer (some ⟨q4, 0, none⟩), .pointer (some ⟨q5, 0, none⟩)]) ∧ w'.cell? ⟨q3, 0, none⟩ = some (.func (.func g) #[] lb) ∧ w'.cell? ⟨q4, 0, none⟩ = some (.slice a4 bs.length c4) ∧ w'.cell? ⟨q5, 0, none⟩ = some (.slice a5 gs.length c5) ∧ IntE.Row w' (.slice a4 bs.length c4) bs ∧ AgE.Row w' (.slice a5 gs.length c5) gs ∧ w.heap.size ≤ q3 ∧ w.heap.size ≤ q4 ∧ w.heap.size ≤ q5 ∧ (∀ k ∈ blk a4, w.heap.size ≤ k) ∧ (∀ k ∈ blk a5, w.heap.size ≤ k) ∧ Kp [] w w'
theorem cGroupE (g : Nat) (lb : Array Value) (ba : Option Addr) (bc : Nat) (bs : List Int) (ga : Option Addr) (gc : Nat) (gs : List (Int × Int)) (w : World) (hb : IntE.See w ba bs) (hbn : ba = none → bc = 0) (hbl : bs.length ≤ 3600000000000) (hg : AgE.See w ga gs) (hgn : ga = none → gc = 0) (hgl : gs.length ≤ 3600000000000) :
  Calls Tryz.prog 100 #[.func (.func g) #[] lb, .slice ba bs.length bc, .slice ga gs.length gc] w (GrpP g lb bs gs w) := by
 obtain ⟨w1, hw1, k1, b1⟩ : ∃ w1, w.alloc (.cells #[.func (.func g) #[] lb] 123) = w1 ∧ Kp [] w w1 ∧ Bn w1 w.heap.size [.func (.func g) #[] lb] := ⟨_, rfl, (Kp.refl _ _).alloc _, Bn.new w _ _⟩
 obtain ⟨w2, hw2, k2, b2⟩ : ∃ w2, w1.alloc (.cells #[.slice ba bs.length bc] 27) = w2 ∧ Kp [] w1 w2 ∧ Bn w2 w1.heap.size [.slice ba bs.length bc] := ⟨_, rfl, (Kp.refl _ _).alloc _, Bn.new w1 _ _⟩
 obtain ⟨w3, hw3, k3, b3⟩ : ∃ w3, w2.alloc (.cells #[.slice ga gs.length gc] 28) = w3 ∧ Kp [] w2 w3 ∧ Bn w3 w2.heap.size [.slice ga gs.length gc] := ⟨_, rfl, (Kp.refl _ _).alloc _, Bn.new w2 _ _⟩
 obtain ⟨q3, hq3⟩ : ∃ q, Hid (w.heap.size = q) := ⟨_, rfl⟩
 obtain ⟨q4, hq4⟩ : ∃ q, Hid (w1.heap.size = q) := ⟨_, rfl⟩
 obtain ⟨q5, hq5⟩ : ∃ q, Hid (w2.heap.size = q) := ⟨_, rfl⟩
 rw [hq3.out] at b1
 rw [hq4.out] at b2
 rw [hq5.out] at b3
 have hq3' := hq3.out
 have hq4' := hq4.out
 have hq5' := hq5.out
 have b13 := (b1.kept k2).kept k3
 have b23 := b2.kept k3
 have kw := (k1.trans k2 (by simp)).trans k3 (by simp)
 have HZ : Hid (w.heap.size ≤ q3 ∧ q3 < q4 ∧ q4 < q5 ∧ q5 < w3.heap.size) := ⟨by rw [← hq3.out]; exact Nat.le_refl _, by rw [← hq4.out]; exact b1.lt (by simp), by rw [← hq5.out]; exact b2.lt (by simp), b3.lt (by simp)⟩
 have KW := hid kw
 have hc : Hid (∀ W, Kp [] w3 W → W.cell? ⟨q3, 0, none⟩ = some (.func (.func g) #[] lb) ∧ W.cell? ⟨q5, 0, none⟩ = some (.slice ga gs.length gc) ∧ W.cell? ⟨q4, 0, none⟩ = some (.slice ba bs.length bc) ∧ W.frozen? ⟨q4, 0, none⟩ = false ∧ W.frozen? ⟨q5, 0, none⟩ = false) := fun W k => ⟨(b13.kept k).get 0 _ rfl, (b3.kept k).get 0 _ rfl, (b23.kept k).get 0 _ rfl, (b23.kept k).free 0, (b3.kept k).free 0⟩
 have cI : Hid (∀ W, Kp [] w3 W → Calls Tryz.prog 139 #[.slice ba bs.length bc] W (NewIY bs W)) := fun W k => cCloneIY ba bc bs W (hb.keptNew (kw.trans k (by simp))) hbn hbl
 have cA : Hid (∀ W, Kp [] w3 W → Calls Tryz.prog 140 #[.slice ga gs.length gc] W (NewAY gs W)) := fun W k => cCloneAY ga gc gs W (hg.keptNew (kw.trans k (by simp))) hgn hgl
 clear k1 k2 k3 b1 b2 b3 b13 b23 kw hb hg
 go_enter Tryz.func100, Tryz.ntmps100
 go_wp2_with fail
 refine wp_noPanicY ?_
 refine wp_region_held_drew (S := fun A => True) (by kernel_rfl) trivial (fun _ => ?_)
 have KD : Hid (Kp [] w3 w3.drew) := hid (Kp.refl _ _).drew
 generalize w3.drew = wd at *
 have d5 := (hc.out wd KD.out).2.1
 have d4 := (hc.out wd KD.out).2.2.1
 refine wpAnyH_ready (rs := [0, 2]) (by kernel_rfl) (by simp) ?_
 refine AllReadyH.cons rfl (fun K hK => ?_) (AllReadyH.cons rfl (fun K hK => ?_) AllReadyH.nil)
 ·go_simp
  (try go_wp2_with fail)
  refine hK.out _ _ trivial (fun _ => ?_)
  clear hK K
  try simp only [Act.put, lz]
  refine wpAnyH_ready (rs := [1, 2]) (by kernel_rfl) (by simp) ?_
  refine AllReadyH.cons rfl (fun K hK => ?_) (AllReadyH.cons rfl (fun K hK => ?_) AllReadyH.nil)
  ·go_simp
   refine (cI.out _ KD.out).mono ?_
   rintro e W5 ⟨a4, c4, rfl, hI5, k5, hn5⟩
   (try go_wp2_with fail)
   refine hK.out _ _ trivial (fun _ => ?_)
   clear hK K
   try simp only [Act.put, lz]
   have K5 := hid (KD.out.trans k5 (by simp))
   have e5 := (hc.out W5 K5.out).2.1
   refine rdH 2 (by kernel_rfl) rfl fun K hK => ?_
   go_simp
   (try go_wp2_with fail)
   refine hK.out _ _ trivial (fun _ => ?_)
   clear hK K
   try simp only [Act.put, lz]
   refine rdH 3 (by kernel_rfl) rfl fun K hK => ?_
   go_simp
   refine (cA.out _ K5.out).mono ?_
   rintro e W6 ⟨a5, c5, rfl, hA6, k6, hn6⟩
   (try go_wp2_with fail)
   refine hK.out _ _ trivial (fun _ => ?_)
   clear hK K
   try simp only [Act.put, lz]
   have hz0 := HZ.out
   have K6 := hid (K5.out.trans k6 (by simp))
   obtain ⟨g3, g5, g4, gf4, gf5⟩ := hc.out W6 K6.out
   have k47 : Kp [q4] W6 (W6.setCell ⟨q4, 0, none⟩ (.slice a4 bs.length c4)) := (Kp.refl _ _).setCell (by simp) _
   have x4 : (W6.setCell ⟨q4, 0, none⟩ (.slice a4 bs.length c4)).cell? ⟨q4, 0, none⟩ = some (.slice a4 bs.length c4) := World.cell?_setCell_same _ _ _ g4
   have x5 : (W6.setCell ⟨q4, 0, none⟩ (.slice a4 bs.length c4)).cell? ⟨q5, 0, none⟩ = some (.slice ga gs.length gc) := (k47.cell (p := ⟨q5, 0, none⟩) (World.block_lt_of_cell? _ _ g5) (by simp; omega)).trans g5
   have x3 : (W6.setCell ⟨q4, 0, none⟩ (.slice a4 bs.length c4)).cell? ⟨q3, 0, none⟩ = some (.func (.func g) #[] lb) := (k47.cell (p := ⟨q3, 0, none⟩) (World.block_lt_of_cell? _ _ g3) (by simp; omega)).trans g3
   have xf : (W6.setCell ⟨q4, 0, none⟩ (.slice a4 bs.length c4)).frozen? ⟨q5, 0, none⟩ = false := by rw [World.frozen?_setCell]; exact gf5
   obtain ⟨W7, hW7⟩ : ∃ Y, W6.setCell ⟨q4, 0, none⟩ (.slice a4 bs.length c4) = Y := ⟨_, rfl⟩
   rw [hW7] at k47 x4 x5 x3 xf
   have k78 : Kp [q5] W7 (W7.setCell ⟨q5, 0, none⟩ (.slice a5 gs.length c5)) := (Kp.refl _ _).setCell (by simp) _
   have hF : Hid (GrpP g lb bs gs w (.returned (.func (.func 141) #[] #[.pointer (some ⟨q3, 0, none⟩), .pointer (some ⟨q4, 0, none⟩), .pointer (some ⟨q5, 0, none⟩)])) (W7.setCell ⟨q5, 0, none⟩ (.slice a5 gs.length c5))) := by
    have hz := HZ.out
    have zD := KD.out.size
    have z5 := K5.out.size
    have r4 : IntE.Row (W7.setCell ⟨q5, 0, none⟩ (.slice a5 gs.length c5)) (.slice a4 bs.length c4) bs := ((hI5.keptNew k6).kept k47 (fun j hj hm => by rw [ownV] at hj; simp at hm; have := hn5 j hj; omega)).kept k78 (fun j hj hm => by rw [ownV] at hj; simp at hm; have := hn5 j hj; omega)
    have r5 : AgE.Row (W7.setCell ⟨q5, 0, none⟩ (.slice a5 gs.length c5)) (.slice a5 gs.length c5) gs := (hA6.kept k47 (fun j hj hm => by rw [ownV] at hj; simp at hm; have := hn6 j hj; omega)).kept k78 (fun j hj hm => by rw [ownV] at hj; simp at hm; have := hn6 j hj; omega)
    exact ⟨q3, q4, q5, a4, c4, a5, c5, rfl, (k78.cell (p := ⟨q3, 0, none⟩) (World.block_lt_of_cell? _ _ x3) (by simp; omega)).trans x3, (k78.cell (p := ⟨q4, 0, none⟩) (World.block_lt_of_cell? _ _ x4) (by simp; omega)).trans x4, World.cell?_setCell_same _ _ _ x5, r4, r5, by omega, by omega, by omega, fun k hk => by have := hn5 k hk; omega, fun k hk => by have := hn6 k hk; omega, ((KW.out.trans K6.out (by simp)).trans k47 (fun x hx => .inr (by simp at hx; omega))).trans k78 (fun x hx => .inr (by simp at hx; omega))⟩
   clear hI5 hA6 k5 k6 hn5 hn6 k47 k78 g3 hz0
   refine rdH 4 (by kernel_rfl) rfl fun K hK => ?_
   go_simp
   (try go_wp2_with fail)
   refine hK.out _ _ trivial (fun _ => ?_)
   clear hK K
   try simp only [Act.put, lz]
   refine rdH 5 (by kernel_rfl) rfl fun K hK => ?_
   go_simp
   (try go_wp2_with fail)
   refine hK.out _ _ trivial (fun _ => ?_)
   clear hK K
   try simp only [Act.put, lz]
   refine wpAnyH_done (by kernel_rfl) ⟨rfl, ?_⟩ _
   go_wp2_with fail
   go_ret
   exact hF.out
  ·go_simp
   (try go_wp2_with fail)
   refine hK.out _ _ trivial (fun _ => ?_)
   clear hK K
   try simp only [Act.put, lz]
   refine rdH 1 (by kernel_rfl) rfl fun K hK => ?_
   go_simp
   refine (cI.out _ KD.out).mono ?_
   rintro e W5 ⟨a4, c4, rfl, hI5, k5, hn5⟩
   (try go_wp2_with fail)
   refine hK.out _ _ trivial (fun _ => ?_)
   clear hK K
   try simp only [Act.put, lz]
   have K5 := hid (KD.out.trans k5 (by simp))
   have e5 := (hc.out W5 K5.out).2.1
   refine rdH 3 (by kernel_rfl) rfl fun K hK => ?_
   go_simp
   refine (cA.out _ K5.out).mono ?_
   rintro e W6 ⟨a5, c5, rfl, hA6, k6, hn6⟩
   (try go_wp2_with fail)
   refine hK.out _ _ trivial (fun _ => ?_)
   clear hK K
   try simp only [Act.put, lz]
   have hz0 := HZ.out
   have K6 := hid (K5.out.trans k6 (by simp))
   obtain ⟨g3, g5, g4, gf4, gf5⟩ := hc.out W6 K6.out
   have k47 : Kp [q4] W6 (W6.setCell ⟨q4, 0, none⟩ (.slice a4 bs.length c4)) := (Kp.refl _ _).setCell (by simp) _
   have x4 : (W6.setCell ⟨q4, 0, none⟩ (.slice a4 bs.length c4)).cell? ⟨q4, 0, none⟩ = some (.slice a4 bs.length c4) := World.cell?_setCell_same _ _ _ g4
   have x5 : (W6.setCell ⟨q4, 0, none⟩ (.slice a4 bs.length c4)).cell? ⟨q5, 0, none⟩ = some (.slice ga gs.length gc) := (k47.cell (p := ⟨q5, 0, none⟩) (World.block_lt_of_cell? _ _ g5) (by simp; omega)).trans g5
   have x3 : (W6.setCell ⟨q4, 0, none⟩ (.slice a4 bs.length c4)).cell? ⟨q3, 0, none⟩ = some (.func (.func g) #[] lb) := (k47.cell (p := ⟨q3, 0, none⟩) (World.block_lt_of_cell? _ _ g3) (by simp; omega)).trans g3
   have xf : (W6.setCell ⟨q4, 0, none⟩ (.slice a4 bs.length c4)).frozen? ⟨q5, 0, none⟩ = false := by rw [World.frozen?_setCell]; exact gf5
   obtain ⟨W7, hW7⟩ : ∃ Y, W6.setCell ⟨q4, 0, none⟩ (.slice a4 bs.length c4) = Y := ⟨_, rfl⟩
   rw [hW7] at k47 x4 x5 x3 xf
   have k78 : Kp [q5] W7 (W7.setCell ⟨q5, 0, none⟩ (.slice a5 gs.length c5)) := (Kp.refl _ _).setCell (by simp) _
   have hF : Hid (GrpP g lb bs gs w (.returned (.func (.func 141) #[] #[.pointer (some ⟨q3, 0, none⟩), .pointer (some ⟨q4, 0, none⟩), .pointer (some ⟨q5, 0, none⟩)])) (W7.setCell ⟨q5, 0, none⟩ (.slice a5 gs.length c5))) := by
    have hz := HZ.out
    have zD := KD.out.size
    have z5 := K5.out.size
    have r4 : IntE.Row (W7.setCell ⟨q5, 0, none⟩ (.slice a5 gs.length c5)) (.slice a4 bs.length c4) bs := ((hI5.keptNew k6).kept k47 (fun j hj hm => by rw [ownV] at hj; simp at hm; have := hn5 j hj; omega)).kept k78 (fun j hj hm => by rw [ownV] at hj; simp at hm; have := hn5 j hj; omega)
    have r5 : AgE.Row (W7.setCell ⟨q5, 0, none⟩ (.slice a5 gs.length c5)) (.slice a5 gs.length c5) gs := (hA6.kept k47 (fun j hj hm => by rw [ownV] at hj; simp at hm; have := hn6 j hj; omega)).kept k78 (fun j hj hm => by rw [ownV] at hj; simp at hm; have := hn6 j hj; omega)
    exact ⟨q3, q4, q5, a4, c4, a5, c5, rfl, (k78.cell (p := ⟨q3, 0, none⟩) (World.block_lt_of_cell? _ _ x3) (by simp; omega)).trans x3, (k78.cell (p := ⟨q4, 0, none⟩) (World.block_lt_of_cell? _ _ x4) (by simp; omega)).trans x4, World.cell?_setCell_same _ _ _ x5, r4, r5, by omega, by omega, by omega, fun k hk => by have := hn5 k hk; omega, fun k hk => by have := hn6 k hk; omega, ((KW.out.trans K6.out (by simp)).trans k47 (fun x hx => .inr (by simp at hx; omega))).trans k78 (fun x hx => .inr (by simp at hx; omega))⟩
   clear hI5 hA6 k5 k6 hn5 hn6 k47 k78 g3 hz0
   refine rdH 4 (by kernel_rfl) rfl fun K hK => ?_
   go_simp
   (try go_wp2_with fail)
   refine hK.out _ _ trivial (fun _ => ?_)
   clear hK K
   try simp only [Act.put, lz]
   refine rdH 5 (by kernel_rfl) rfl fun K hK => ?_
   go_simp
   (try go_wp2_with fail)
   refine hK.out _ _ trivial (fun _ => ?_)
   clear hK K
   try simp only [Act.put, lz]
   refine wpAnyH_done (by kernel_rfl) ⟨rfl, ?_⟩ _
   go_wp2_with fail
   go_ret
   exact hF.out
 ·go_simp
  (try go_wp2_with fail)
  refine hK.out _ _ trivial (fun _ => ?_)
  clear hK K
  try simp only [Act.put, lz]
  refine rdH 0 (by kernel_rfl) rfl fun K hK => ?_
  go_simp
  (try go_wp2_with fail)
  refine hK.out _ _ trivial (fun _ => ?_)
  clear hK K
  try simp only [Act.put, lz]
  refine rdH 1 (by kernel_rfl) rfl fun K hK => ?_
  go_simp
  refine (cI.out _ KD.out).mono ?_
  rintro e W5 ⟨a4, c4, rfl, hI5, k5, hn5⟩
  (try go_wp2_with fail)
  refine hK.out _ _ trivial (fun _ => ?_)
  clear hK K
  try simp only [Act.put, lz]
  have K5 := hid (KD.out.trans k5 (by simp))
  have e5 := (hc.out W5 K5.out).2.1
  refine rdH 3 (by kernel_rfl) rfl fun K hK => ?_
  go_simp
  refine (cA.out _ K5.out).mono ?_
  rintro e W6 ⟨a5, c5, rfl, hA6, k6, hn6⟩
  (try go_wp2_with fail)
  refine hK.out _ _ trivial (fun _ => ?_)
  clear hK K
  try simp only [Act.put, lz]
  have hz0 := HZ.out
  have K6 := hid (K5.out.trans k6 (by simp))
  obtain ⟨g3, g5, g4, gf4, gf5⟩ := hc.out W6 K6.out
  have k47 : Kp [q4] W6 (W6.setCell ⟨q4, 0, none⟩ (.slice a4 bs.length c4)) := (Kp.refl _ _).setCell (by simp) _
  have x4 : (W6.setCell ⟨q4, 0, none⟩ (.slice a4 bs.length c4)).cell? ⟨q4, 0, none⟩ = some (.slice a4 bs.length c4) := World.cell?_setCell_same _ _ _ g4
  have x5 : (W6.setCell ⟨q4, 0, none⟩ (.slice a4 bs.length c4)).cell? ⟨q5, 0, none⟩ = some (.slice ga gs.length gc) := (k47.cell (p := ⟨q5, 0, none⟩) (World.block_lt_of_cell? _ _ g5) (by simp; omega)).trans g5
  have x3 : (W6.setCell ⟨q4, 0, none⟩ (.slice a4 bs.length c4)).cell? ⟨q3, 0, none⟩ = some (.func (.func g) #[] lb) := (k47.cell (p := ⟨q3, 0, none⟩) (World.block_lt_of_cell? _ _ g3) (by simp; omega)).trans g3
  have xf : (W6.setCell ⟨q4, 0, none⟩ (.slice a4 bs.length c4)).frozen? ⟨q5, 0, none⟩ = false := by rw [World.frozen?_setCell]; exact gf5
  obtain ⟨W7, hW7⟩ : ∃ Y, W6.setCell ⟨q4, 0, none⟩ (.slice a4 bs.length c4) = Y := ⟨_, rfl⟩
  rw [hW7] at k47 x4 x5 x3 xf
  have k78 : Kp [q5] W7 (W7.setCell ⟨q5, 0, none⟩ (.slice a5 gs.length c5)) := (Kp.refl _ _).setCell (by simp) _
  have hF : Hid (GrpP g lb bs gs w (.returned (.func (.func 141) #[] #[.pointer (some ⟨q3, 0, none⟩), .pointer (some ⟨q4, 0, none⟩), .pointer (some ⟨q5, 0, none⟩)])) (W7.setCell ⟨q5, 0, none⟩ (.slice a5 gs.length c5))) := by
   have hz := HZ.out
   have zD := KD.out.size
   have z5 := K5.out.size
   have r4 : IntE.Row (W7.setCell ⟨q5, 0, none⟩ (.slice a5 gs.length c5)) (.slice a4 bs.length c4) bs := ((hI5.keptNew k6).kept k47 (fun j hj hm => by rw [ownV] at hj; simp at hm; have := hn5 j hj; omega)).kept k78 (fun j hj hm => by rw [ownV] at hj; simp at hm; have := hn5 j hj; omega)
   have r5 : AgE.Row (W7.setCell ⟨q5, 0, none⟩ (.slice a5 gs.length c5)) (.slice a5 gs.length c5) gs := (hA6.kept k47 (fun j hj hm => by rw [ownV] at hj; simp at hm; have := hn6 j hj; omega)).kept k78 (fun j hj hm => by rw [ownV] at hj; simp at hm; have := hn6 j hj; omega)
   exact ⟨q3, q4, q5, a4, c4, a5, c5, rfl, (k78.cell (p := ⟨q3, 0, none⟩) (World.block_lt_of_cell? _ _ x3) (by simp; omega)).trans x3, (k78.cell (p := ⟨q4, 0, none⟩) (World.block_lt_of_cell? _ _ x4) (by simp; omega)).trans x4, World.cell?_setCell_same _ _ _ x5, r4, r5, by omega, by omega, by omega, fun k hk => by have := hn5 k hk; omega, fun k hk => by have := hn6 k hk; omega, ((KW.out.trans K6.out (by simp)).trans k47 (fun x hx => .inr (by simp at hx; omega))).trans k78 (fun x hx => .inr (by simp at hx; omega))⟩
  clear hI5 hA6 k5 k6 hn5 hn6 k47 k78 g3 hz0
  refine rdH 4 (by kernel_rfl) rfl fun K hK => ?_
  go_simp
  (try go_wp2_with fail)
  refine hK.out _ _ trivial (fun _ => ?_)
  clear hK K
  try simp only [Act.put, lz]
  refine rdH 5 (by kernel_rfl) rfl fun K hK => ?_
  go_simp
  (try go_wp2_with fail)
  refine hK.out _ _ trivial (fun _ => ?_)
  clear hK K
  try simp only [Act.put, lz]
  refine wpAnyH_done (by kernel_rfl) ⟨rfl, ?_⟩ _
  go_wp2_with fail
  go_ret
  exact hF.out
structure Mb where
 k : Vs
 r : Vs
instance : Inhabited Mb := ⟨⟨default, default⟩⟩
def MbE : El Mb where
 n := 2
 c x := [.slice x.k.a x.k.l.length x.k.c, .slice x.r.a x.r.l.length x.r.c]
 len _ := rfl
 one _ u hu := by simp at hu; rcases hu with rfl | rfl <;> rfl
 pos := by decide
def Mb.bs (x : Mb) : List Nat := blk x.k.a ++ blk x.r.a
def Mb.pr (x : Mb) : List Val × List Val := (x.k.l, x.r.l)
def mbR (bs : List Int) (R : List (List Val)) : List (List Val × List Val) := R.map fun l => (pickV l bs, l)
theorem mbR_snoc (bs : List Int) (R : List (List Val)) (i : Nat) (l : List Val) (h : R[i]? = some l) : mbR bs (R.take (i + 1)) = mbR bs (R.take i) ++ [(pickV l bs, l)] := by
 rw [List.take_add_one, h]
 simp [mbR]
structure Mb.lies (w : World) (x : Mb) : Prop where
 k : x.k.lies w
 r : x.r.lies w
theorem Mb.lies.ck {P : Nat → Prop} {X Y : World} {x : Mb} (hx : Mb.lies X x) (h : CK P X Y) (hP : ∀ k ∈ x.bs, P k) : Mb.lies Y x := ⟨hx.k.ck h (fun k hk => hP k (by simp [Mb.bs, hk])), hx.r.ck h (fun k hk => hP k (by simp [Mb.bs, hk]))⟩
theorem mbAt {w : World} {a : Option Addr} {l : List Mb} (h : MbE.See w a l) (j : Nat) (hj : j < l.length) : ∃ g o, a = some ⟨g, o, none⟩ ∧ w.cell? ⟨g, o + j * 2, none⟩ = some (.slice l[j].k.a l[j].k.l.length l[j].k.c) ∧ w.cell? ⟨g, o + j * 2 + 1, none⟩ = some (.slice l[j].r.a l[j].r.l.length l[j].r.c) := by
 obtain ⟨g, o, e, hc⟩ := h.at (j := j) (x := l[j]) (by simp [hj])
 exact ⟨g, o, e, hc 0 _ rfl, hc 1 _ rfl⟩
structure Lom (N : Nat) (ra : Option Addr) (rc : Nat) (L : List Mb) (W : World) : Prop where
 row : MbE.Row W (.slice ra L.length rc) L
 lies : ∀ x ∈ L, Mb.lies W x
 own : ∀ k ∈ blk ra, N ≤ k
 rows : ∀ x ∈ L, ∀ k ∈ x.bs, N ≤ k ∧ k < W.heap.size ∧ k ∉ blk ra
theorem Lom.nil (N : Nat) (W : World) : Lom N none 0 [] W := ⟨.inl ⟨rfl, rfl⟩, by simp, by simp [blk], by simp⟩
theorem Lom.ck {N : Nat} {ra : Option Addr} {rc : Nat} {L : List Mb} {P : Nat → Prop} {X Y : World} (h : Lom N ra rc L X) (k : CK P X Y) (h1 : ∀ k ∈ blk ra, P k) (h2 : ∀ x ∈ L, ∀ k ∈ x.bs, P k) : Lom N ra rc L Y :=
 ⟨ckRow k h.row h1, fun x hx => (h.lies x hx).ck k (h2 x hx), h.own, fun x hx j hj => ⟨(h.rows x hx j hj).1, Nat.lt_of_lt_of_le (h.rows x hx j hj).2.1 k.1, (h.rows x hx j hj).2.2⟩⟩
theorem Lom.lt {N : Nat} {ra : Option Addr} {rc : Nat} {L : List Mb} {X : World} (h : Lom N ra rc L X) : ∀ k ∈ blk ra, k < X.heap.size := fun k hk => h.row.lt k (by rw [ownV]; exact hk)
theorem Lom.mono {N M : Nat} {ra : Option Addr} {rc : Nat} {L : List Mb} {X : World} (h : Lom N ra rc L X) (hm : M ≤ N) : Lom M ra rc L X :=
 ⟨h.row, h.lies, fun k hk => Nat.le_trans hm (h.own k hk), fun x hx k hk => ⟨Nat.le_trans hm (h.rows x hx k hk).1, (h.rows x hx k hk).2⟩⟩
theorem infoMb : ∃ i : TypeInfo, Tryz.prog.info? 206 = some i ∧ i.zero = some (.agg #[.slice none 0 0, .slice none 0 0]) ∧ i.size = 2 ∧ i.bytes = 48 := by
 have h : (Tryz.prog.info? 206).map (fun i => (i.zero, i.size, i.bytes)) = some (some (.agg #[.slice none 0 0, .slice none 0 0]), 2, 48) := by kernel_rfl
 cases e : Tryz.prog.info? 206 with
 | none => rw [e] at h; cases h
 | some i =>
  rw [e] at h
  simp at h
  exact ⟨i, rfl, h.1, h.2.1, h.2.2⟩
theorem Lom.app {N : Nat} {ra : Option Addr} {rc : Nat} {L : List Mb} {w : World} (h : Lom N ra rc L w) (x : Mb) (hx : Mb.lies w x) (hN : N ≤ w.heap.size) (hb : ∀ k ∈ x.bs, N ≤ k ∧ k < w.heap.size ∧ k ∉ blk ra) (hl : L.length ≤ 4000000000000) :
  ∃ a' c' W', (Builtin.append_ #[201, 201] 201 #[.slice ra L.length rc, .slice (some ⟨w.heap.size, 0, none⟩) 1 1]).run Tryz.prog (w.alloc (.cells #[.slice x.k.a x.k.l.length x.k.c, .slice x.r.a x.r.l.length x.r.c] 206)) = .ok (.slice a' (L ++ [x]).length c') W' ∧ Lom N a' c' (L ++ [x]) W' ∧ Kp (blk ra) w W' ∧ ∀ k ∈ blk a', k ∈ blk ra ∨ w.heap.size ≤ k := by
 obtain ⟨A1, hA1⟩ : ∃ A1, w.alloc (.cells #[.slice x.k.a x.k.l.length x.k.c, .slice x.r.a x.r.l.length x.r.c] 206) = A1 := ⟨_, rfl⟩
 have kA1 : Kp [] w A1 := by rw [← hA1]; exact (Kp.refl _ _).alloc _
 have bx1 : Bn A1 w.heap.size (MbE.c x) := by rw [← hA1]; exact Bn.new w (MbE.c x) _
 have hs1 : MbE.See A1 (some ⟨w.heap.size, 0, none⟩) [x] := .inr ⟨w.heap.size, 0, rfl, fun j u hu => by rw [Nat.zero_add]; exact bx1.get j u (by simpa [El.cs] using hu)⟩
 obtain ⟨i0, hi, hz0', hz1', hz2'⟩ := infoMb
 have hsr := hs1.src (P := Tryz.prog) Tryz.underlying201 1
 obtain ⟨v', A2, hrun, hrow2, k2, hn2⟩ := run_appendG (E := MbE) (P := Tryz.prog) A1 201 201 201 206 i0 _ 48 Tryz.underlying201 hi hz0' hz1' hz2' rfl (.slice ra L.length rc) L (h.row.keptNew kA1) _ [x] hsr (by simp only [List.length_cons, List.length_nil]; omega) (by simp only [List.length_cons, List.length_nil]; omega)
 obtain ⟨a', c', rfl, _⟩ := hrow2.see
 simp only [ownV] at k2 hn2
 rw [hA1]
 have z1 := kA1.size
 have kw : Kp (blk ra) w A2 := (kA1.mono (by simp)).trans k2 (fun j hj => .inl hj)
 have hnew : ∀ k ∈ blk a', k ∈ blk ra ∨ w.heap.size ≤ k := fun k hk => by
  rcases hn2 k hk with e | e
  ·exact .inl e
  ·exact .inr (by omega)
 have ck := CK.ofKp kw
 refine ⟨a', c', A2, hrun, ⟨hrow2, fun y hy => ?_, fun k hk => ?_, fun y hy k hk => ?_⟩, kw, hnew⟩
 ·rcases List.mem_append.1 hy with hy | hy
  ·exact (h.lies y hy).ck ck (fun k hk => (h.rows y hy k hk).2.2)
  ·rw [List.mem_singleton.1 hy]; exact hx.ck ck (fun k hk => (hb k hk).2.2)
 ·rcases hnew k hk with e | e
  ·exact h.own k e
  ·omega
 ·have h0 : N ≤ k ∧ k < w.heap.size ∧ k ∉ blk ra := by
   rcases List.mem_append.1 hy with hy | hy
   ·exact h.rows y hy k hk
   ·rw [List.mem_singleton.1 hy] at hk; exact hb k hk
  refine ⟨h0.1, Nat.lt_of_lt_of_le h0.2.1 kw.size, fun hm => ?_⟩
  rcases hnew k hm with e | e
  ·exact h0.2.2 e
  ·omega
structure GamJ (w1 : World) (q3 : Nat) (R : List (List Val)) (bs : List Int) (s : Sr) (W : World) (ra : Option Addr) (rc : Nat) (L : List Mb) : Prop where
 co : CoR w1 [q3] s W
 box : W.cell? ⟨q3, 0, none⟩ = some (.slice ra L.length rc)
 free : W.frozen? ⟨q3, 0, none⟩ = false
 lot : Lom w1.heap.size ra rc L W
 took : L.map Mb.pr = mbR bs (R.take s.i)
 ne : ∀ k ∈ blk ra, k ∉ s.js ∧ k ∉ s.qs
 nes : ∀ x ∈ L, ∀ k ∈ x.bs, k ∉ s.qs
 nil : L = [] → ra = none
 pend : ∀ x, s.p = some x → R[s.i]? = some x.l ∧ x.lies W
def GamI (w1 : World) (q3 : Nat) (R : List (List Val)) (bs : List Int) (s : Sr) (W : World) : Prop := ∃ ra rc L, GamJ w1 q3 R bs s W ra rc L
theorem GamI.own {w1 : World} {q3 : Nat} {R : List (List Val)} {bs : List Int} : OwnFrom w1.heap.size (GamI w1 q3 R bs) := fun s X Y row ⟨ra, rc, L, h⟩ hg hr => by
 have ck := CK.ofGrown hg (fun r e => (hr r e).2)
 obtain ⟨h1, h2⟩ := ck.2 _ _ trivial h.box
 exact ⟨ra, rc, L, h.co.grown hg hr, h1, h2.trans h.free, h.lot.ck ck (fun _ _ => trivial) (fun _ _ _ _ => trivial), h.took, h.ne, h.nes, h.nil, fun x hx => by
  obtain ⟨p1, p2⟩ := h.pend x hx
  exact ⟨p1, p2.ck ck (fun _ _ => trivial)⟩⟩
theorem GamI.step {w1 : World} {q3 : Nat} {fr : Bool} {R : List (List Val)} {bs : List Int} (hq : q3 < w1.heap.size) {s s' : Sr} {A B : World} (hz : w1.heap.size + 2 ≤ A.heap.size) (h : GamI w1 q3 R bs s A) (ht : StepR fr R s s' A B) : GamI w1 q3 R bs s' B := by
 obtain ⟨ra, rc, L, h⟩ := h
 have co := h.co.step (by simpa using hq) hz ht
 have hqs : ∀ k, k < A.heap.size → k ∉ s.qs → k ∉ s'.qs := fun k hk hn hm => by
  cases hs : s.made with
  | true => rcases (ht.stays hs).2.2 k hm with e | e; exact hn e; omega
  | false => have := ((ht.makes hs).2.2 k hm).1; omega
 have hq3 : q3 ∉ s'.qs := fun hm => by
  have hm' : s'.made = true := by
   cases hs : s.made with
   | true => exact (ht.stays hs).1
   | false => exact (ht.makes hs).1
  have := (co.mde hm').2 q3 hm
  omega
 have ck := CK.ofTurn ht.turn
 obtain ⟨h1, h2⟩ := ck.2 _ _ hq3 h.box
 have hlt := h.lot.lt
 refine ⟨ra, rc, L, co, h1, h2.trans h.free, h.lot.ck ck (fun k hk => hqs k (hlt k hk) (h.ne k hk).2) (fun x hx k hk => hqs k (h.lot.rows x hx k hk).2.1 (h.nes x hx k hk)), by rw [ht.on]; exact h.took, fun k hk => ⟨fun hm => ?_, hqs k (hlt k hk) (h.ne k hk).2⟩, fun x hx k hk => hqs k (h.lot.rows x hx k hk).2.1 (h.nes x hx k hk), h.nil, fun x hx => ?_⟩
 ·rcases ht.js k hm with e | e
  ·exact (h.ne k hk).1 e
  ·have := hlt k hk; omega
 ·rcases ht.given with e | ⟨y, e, hy, hl, hf⟩
  ·rw [e] at hx; cases hx
  ·rw [e] at hx
   cases hx
   exact ⟨by rw [ht.on]; exact hy, hl⟩
def SortPM (N : Nat) (ra : Option Addr) (rc : Nat) (n : Nat) (S : List (List Val × List Val)) (W : World) (e : Ending) (w' : World) : Prop := (∃ v, e = .returned v) ∧ ∃ L', L'.length = n ∧ Lom N ra rc L' w' ∧ L'.map Mb.pr = S ∧ Kp (blk ra) W w'
def LomP (S : List (List Val × List Val)) (w : World) (e : Ending) (w' : World) : Prop := ∃ ra rc L, e = .returned (.slice ra L.length rc) ∧ Lom w.heap.size ra rc L w' ∧ L.map Mb.pr = S ∧ Kp [] w w'
theorem cMembersG (d : Nat) (hd : 3 ≤ d) (fr : Bool) (g : Nat) (lb : Array Value) (R : List (List Val)) (js : List Nat) (ba : Option Addr) (bc : Nat) (bs : List Int) (S : List (List Val × List Val)) (w : World) (heg : ∀ args w, (callFunc g args).run Tryz.prog w = .ok (.enter g args) w) (hseq : RowSeq fr (d - 1) g lb R js w) (hjs : ∀ j ∈ js, j < w.heap.size) (hR : R.length ≤ 4000000000000) (hRl : ∀ l ∈ R, l.length ≤ 3600000000000)
  (hb : IntE.Row w (.slice ba bs.length bc) bs) (hbl : bs.length ≤ 3000000000000)
  (hsort : ∀ (W : World) (N : Nat) (ra : Option Addr) (rc : Nat) (L : List Mb), Lom N ra rc L W → L.map Mb.pr = mbR bs R → Calls Tryz.prog 165 #[.slice ra L.length rc, .func (.func 166) #[] #[]] W (SortPM N ra rc L.length S W)) :
  CallsIn Fence.wide d Tryz.prog 142 #[.func (.func g) #[] lb, .slice ba bs.length bc] w (LomP S w) := by
 obtain ⟨w0, hw0, k0, b0⟩ : ∃ w0, w.alloc (.cells #[.slice ba bs.length bc] 27) = w0 ∧ Kp [] w w0 ∧ Bn w0 w.heap.size [.slice ba bs.length bc] := ⟨_, rfl, (Kp.refl _ _).alloc _, Bn.new w _ _⟩
 obtain ⟨w1, hw1, k1, b1⟩ : ∃ w1, w0.alloc (.cells #[.slice none 0 0] 201) = w1 ∧ Kp [] w0 w1 ∧ Bn w1 w0.heap.size [.slice none 0 0] := ⟨_, rfl, (Kp.refl _ _).alloc _, Bn.new w0 _ _⟩
 obtain ⟨q3, hq3⟩ : ∃ q, Hid (w.heap.size = q) := ⟨_, rfl⟩
 obtain ⟨q5, hq5⟩ : ∃ q, Hid (w0.heap.size = q) := ⟨_, rfl⟩
 rw [hq3.out] at b0
 rw [hq5.out] at b1
 have hq51 : q5 < w1.heap.size := b1.lt (by simp)
 have hq35 : q3 < q5 := by rw [← hq5.out]; exact b0.lt (by simp)
 have hz1 : w1.heap.size = w.heap.size + 2 := by rw [← hw1, ← hw0]; simp
 have hzq : q3 = w.heap.size ∧ q5 = w.heap.size + 1 := ⟨hq3.out.symm, by rw [← hq5.out, ← hw0]; simp⟩
 have HZQ := hid hzq
 have b01 := b0.kept k1
 have hI0 : GamI w1 q5 R bs ⟨false, 0, [], js, 0, none⟩ w1 := ⟨none, 0, [], ⟨rfl, rfl, rfl, Nat.le_refl _, fun _ _ _ => rfl, fun h => (by cases h), fun j hj => ⟨by have := hjs j hj; simp; omega, by have := hjs j hj; omega, by have := hjs j hj; omega⟩, fun j hj => by have := hjs j hj; omega, by simp⟩, b1.get 0 _ rfl, b1.free 0, Lom.nil _ _, rfl, by simp [blk], by simp, fun _ => rfl, fun x hx => (by cases hx)⟩
 have HI0 := hid hI0
 have kw1 := k0.trans k1 (by simp)
 have HK1 := hid kw1
 have HSQ := hid hseq
 have HST := hid hsort
 have HBS := hid hb
 have hz1' := hid hz1
 have HB := hid b01
 have hKR : Hid (KeepR ⟨false, 0, [], js, 0, none⟩ w w1) := ⟨KeepB.ofKp kw1 (by simp), fun h => (by cases h)⟩
 clear hI0 k0 k1 b0 b1 hseq hjs hz1 b01 kw1 hsort hzq hb
 refine callsIn_of_wp_marks Tryz.func142 rfl trivial ?_ rfl
 simp only [Tryz.ntmps142, List.size_toArray, List.length_cons, List.length_nil, Nat.reduceAdd, Nat.reduceSub, Array.replicate_succ, Array.replicate_zero, List.push_toArray, List.append_toArray, List.nil_append, List.cons_append]
 refine wpIn_wide.2 ?_
 have hq3' := hq3.out
 have hq5' := hq5.out
 go_wp2_with fail
 refine (wpIn_wide (n := d)).1 ?_
 refine wpRangeX rfl (by omega) (gf := g) (lb := lb) rfl trivial heg
  HSQ.out (fun _ => rfl) KeepR.trans (fun s W o => KeepR.alloc s W o) hKR.out
  (GamI w1 q5 R bs) (fun _ _ _ => False) GamI.own (fun _ _ _ _ _ h _ _ => h) HI0.out
  (fun s s' A B ⟨_, _, _, h⟩ ht k o hk ho => h.co.keeps ht k o hk ho) (fun _ _ _ _ h => h.elim) (fun s s' A B hz h ht => h.step hq51 hz ht) (fun _ _ _ _ h => h.elim)
  (fun s W o' ⟨_, _, _, h⟩ => h.co.recs o') (fun s x W o' ⟨_, _, _, h⟩ => CoR.recs (S := [q5]) (s := s) ⟨h.co.os, h.co.tape, h.co.output, h.co.size, h.co.low, h.co.mde, h.co.js, h.co.jl, h.co.ql⟩ o') (fun _ _ _ _ _ h => h.elim)
  (fun x => { tmps := #[.func (.func g) #[] lb, .slice ba bs.length bc, undef, .pointer (some ⟨q3, 0, none⟩), .slice none 0 0, .pointer (some ⟨q5, 0, none⟩), .slice x.a x.l.length x.c, .func (.func g) #[] lb, .slice x.a x.l.length x.c, undef, undef, undef, undef, undef, undef, undef, undef, undef, undef, undef, undef], defers := [] }) ?assign ?body ?done ?stop
 case assign =>
  intro l x W C hC
  gi_wp2_with fail
  exact hC
 case body =>
  rintro l0 s ⟨xa, xc, xl⟩ W ⟨ra, rc, L, h⟩ hp
  obtain ⟨hRi, hxl⟩ := h.pend _ hp
  dsimp only at hRi ⊢
  have hxn : xl.length ≤ 3600000000000 := hRl _ (List.mem_of_getElem? hRi)
  have hiR : s.i < R.length := (List.getElem?_eq_some_iff.1 hRi).1
  have hLl : L.length ≤ 4000000000000 := by
   have h1 := congrArg List.length h.took
   unfold mbR at h1
   simp at h1
   omega
  have hsn := mbR_snoc bs R s.i xl hRi
  have k1W := h.co.kp
  have b3 := HB.out.keptS k1W (by simp; omega) (HB.out.lt (by simp))
  have c3 := b3.get 0 _ rfl
  have hbw1 := HBS.out.keptNew HK1.out
  have hbW : IntE.Row W (.slice ba bs.length bc) bs := ckRow (CK.ofKp k1W) hbw1 (fun k hk hm => by
   simp at hm
   subst hm
   have := HBS.out.lt k (by rw [ownV]; exact hk)
   have := HZQ.out
   omega)
  have h' := hid h
  have hxl' := hid hxl
  have hsn' := hid hsn
  have hbW' := hid hbW
  have hbx : Hid (∀ W', Kp [] W W' → W'.cell? ⟨q5, 0, none⟩ = some (.slice ra L.length rc)) := fun W' k => kpAt k h'.out.box
  have hS : Hid (∀ T W', Kp T W W' → q3 ∉ T → W'.cell? ⟨q3, 0, none⟩ = some (.slice ba bs.length bc)) := fun T W' k hn => (k.cell (p := ⟨q3, 0, none⟩) (World.block_lt_of_cell? _ _ c3) hn).trans c3
  clear h hRi hxl hsn k1W b3 hbW hbw1 c3
  obtain ⟨kl, hkl⟩ : ∃ kl, Hid (pickV xl bs = kl) := ⟨_, rfl⟩
  have cPk : Hid (∀ W', Kp [] W W' → Calls Tryz.prog 146 #[.slice xa xl.length xc, .slice ba bs.length bc] W' (NewR kl W')) := fun W' k => by
   rw [← hkl.out]
   obtain ⟨a', c', e, hs, _⟩ := (hbW'.out.keptNew k).see
   cases e
   exact cPick xa xc xl ba bc bs W' (hxl'.out.see.kept k) (by omega) hs hbl
  have cCp : Hid (∀ W', Kp [] W W' → Calls Tryz.prog 95 #[.slice xa xl.length xc] W' (NewR xl W')) := fun W' k => cCloneR xa xc xl W' (hxl'.out.see.kept k) hxl'.out.nil hxn
  rw [hkl.out] at hsn'
  gi_wp2_with fail
  refine region_round (fun B => B.cell? ⟨q3, 0, none⟩ = some (.slice ba bs.length bc)) (by kernel_rfl) (by kernel_rfl) (by rintro ⟨_, _, hlo⟩; exact hlo) (hS.out [] _ (Kp.refl [] W).drew (by simp)) (fun hHeld => ?_)
  have KD : Hid (Kp [] W W.drew) := hid (Kp.refl [] W).drew
  generalize W.drew = wd at *
  refine tkH (v := ?_) 1 rfl (by kernel_rfl) (fun _ _ _ h => h) (Or.inl ⟨by rfl, ?_⟩) (by assumption) ?_
  rotate_left
  ·intro w hSw; (try dsimp only at hSw); go_simp <;> with_reducible rfl
  try simp only [Act.put, lz]
  refine tkH (v := ?_) 4 rfl (by kernel_rfl) (fun _ _ _ h => h) (Or.inl ⟨by rfl, ?_⟩) (by assumption) ?_
  rotate_left
  ·intro w hSw; (try dsimp only at hSw); go_simp <;> with_reducible rfl
  try simp only [Act.put, lz]
  refine tkH (v := ?_) 2 rfl (by kernel_rfl) (fun _ _ _ h => h) (Or.inl ⟨by rfl, ?_⟩) (by assumption) ?_
  rotate_left
  ·intro w hSw; (try dsimp only at hSw); go_simp <;> with_reducible rfl
  try simp only [Act.put, lz]
  have c3d := hbx.out wd KD.out
  refine wpAnyH_ready (rs := [0, 3]) (by kernel_rfl) (by simp) ?_
  refine AllReadyH.cons rfl (fun K hK => ?_) (AllReadyH.cons rfl (fun K hK => ?_) AllReadyH.nil)
  ·go_simp
   (try go_wp2_with fail)
   refine hK.out _ _ hHeld (fun hHeld => ?_)
   clear hK K
   try simp only [Act.put, lz]
   refine rdH 3 (by kernel_rfl) rfl fun K hK => ?_
   go_simp
   refine (cPk.out _ KD.out).mono ?_
   rintro e W3 ⟨ka, kc, rfl, hkrow, kk, hkb⟩
   have K3 := hid (KD.out.trans kk (by simp))
   have c3K := hbx.out W3 K3.out
   (try go_wp2_with fail)
   refine hK.out _ _ (hS.out [] _ K3.out (by simp)) (fun hHeld => ?_)
   clear hK K
   try simp only [Act.put, lz]
   refine rdH 5 (by kernel_rfl) rfl fun K hK => ?_
   go_simp
   refine (cCp.out _ K3.out).mono ?_
   rintro e W5 ⟨ya, yc, rfl, hyrow, ky, hyb⟩
   (try go_wp2_with fail)
   refine hK.out _ _ (hS.out [] _ (K3.out.trans ky (by simp)) (by simp)) (fun hHeld => ?_)
   clear hK K
   try simp only [Act.put, lz]
   have kWD := hid (K3.out.trans ky (by simp))
   have hyl := rowLies hyrow
   have hkrow5 := hkrow.keptNew ky
   have hkl5 := rowLies hkrow5
   have hlD : Lom w1.heap.size ra rc L W5 := h'.out.lot.ck (CK.ofKp kWD.out) (by simp) (by simp)
   have hzD := kWD.out.size
   have hwz := h'.out.co.size
   have hywd : ∀ k ∈ blk ya, k < W5.heap.size := fun k hk => hyrow.lt k (by rw [ownV]; exact hk)
   have hkwd : ∀ k ∈ blk ka, k < W5.heap.size := fun k hk => hkrow5.lt k (by rw [ownV]; exact hk)
   have hyW : ∀ k ∈ blk ya, W.heap.size ≤ k := fun k hk => by have := hyb k hk; have := K3.out.size; omega
   have hkW : ∀ k ∈ blk ka, W.heap.size ≤ k := fun k hk => by have := hkb k hk; have := KD.out.size; omega
   have hbW : ∀ k ∈ (⟨⟨ka, kc, kl⟩, ⟨ya, yc, xl⟩⟩ : Mb).bs, W.heap.size ≤ k ∧ k < W5.heap.size := fun k hk => by
    rcases List.mem_append.1 hk with e | e
    ·exact ⟨hkW k e, hkwd k e⟩
    ·exact ⟨hyW k e, hywd k e⟩
   obtain ⟨ra4, rc4, W4, hrun, hl4, k4, hra4⟩ := hlD.app ⟨⟨ka, kc, kl⟩, ⟨ya, yc, xl⟩⟩ ⟨hkl5, hyl⟩ (by omega) (fun k hk => ⟨by have := (hbW k hk).1; omega, (hbW k hk).2, fun hm => by have := (hbW k hk).1; have := h'.out.lot.lt k hm; omega⟩) hLl
   obtain ⟨L4, hL4⟩ : ∃ L4, Hid (L4 = L ++ [(⟨⟨ka, kc, kl⟩, ⟨ya, yc, xl⟩⟩ : Mb)]) := ⟨_, rfl⟩
   rw [← hL4.out] at hrun hl4
   dsimp only at hrun
   have hq5ra : q5 ∉ blk ra := fun hm => by have := h'.out.lot.own q5 hm; omega
   have hq3ra : q3 ∉ blk ra := fun hm => by have := h'.out.lot.own q3 hm; omega
   have c3D := hbx.out W5 kWD.out
   have c3A : (W5.alloc (.cells #[.slice ka kl.length kc, .slice ya xl.length yc] 206)).cell? ⟨q5, 0, none⟩ = some (.slice ra L.length rc) := kpAt ((Kp.refl _ _).alloc _) c3D
   have sA := hS.out [] _ (kWD.out.alloc (.cells #[.slice ka kl.length kc, .slice ya xl.length yc] 206)) (by simp)
   have kW4 : Kp (blk ra) W W4 := (kWD.out.mono (T := blk ra) (by simp)).trans k4 (fun j hj => .inl hj)
   have s4 := hS.out _ _ kW4 hq3ra
   have kS : Kp [q5] W4 (W4.setCell ⟨q5, 0, none⟩ (.slice ra4 L4.length rc4)) := (Kp.refl _ _).setCell (by simp) _
   have kT : Kp (q5 :: blk ra) W (W4.setCell ⟨q5, 0, none⟩ (.slice ra4 L4.length rc4)) := (kW4.mono (T := q5 :: blk ra) (fun j hj => by simp [hj])).trans kS (fun j hj => .inl (by simp at hj; simp [hj]))
   have sT := hS.out _ _ kT (by simp [hq3ra]; omega)
   have ck4 := CK.ofKp k4
   obtain ⟨c3W, f3W⟩ := ck4.2 ⟨q5, 0, none⟩ _ hq5ra c3D
   have f3 : W4.frozen? ⟨q5, 0, none⟩ = false := f3W.trans ((kWD.out.frozen (p := ⟨q5, 0, none⟩) (World.block_lt_of_cell? _ _ h'.out.box) (by simp)).trans h'.out.free)
   have HE : Hid (∀ A, leftX w1.heap.size KeepR (GamI w1 q5 R bs) (fun _ _ _ => False) s (s.nx ⟨xa, xc, xl⟩) W .normal A (W4.setCell ⟨q5, 0, none⟩ (.slice ra4 L4.length rc4))) := fun A => by
    have h := h'.out
    have ckS := CK.ofKp kS
    obtain ⟨r1, r2, r3⟩ := h.co.round (x := ⟨xa, xc, xl⟩) kT (fun k hk => by
     rcases List.mem_cons.1 hk with rfl | hk
     ·exact cellCel h.box
     ·refine rowCel h.lot.row (fun e => ?_) k hk
      rw [h.nil e] at hk
      simp [blk] at hk) (fun k hk => by
     rcases List.mem_cons.1 hk with rfl | hk
     ·exact .inl (by simp)
     ·exact .inr (h.lot.own k hk)) (fun k hk => by
     rcases List.mem_cons.1 hk with rfl | hk
     ·exact fun hm => (h.co.js k hm).1 (by simp)
     ·exact (h.ne k hk).1)
    refine ⟨r1, r2, ra4, rc4, L4, r3, World.cell?_setCell_same _ _ _ c3W, by rw [World.frozen?_setCell]; exact f3, hl4.ck ckS (fun k hk hm => ?_) (fun x hx k hk hm => ?_), ?_, fun k hk => ?_, fun x hx k hk => ?_, fun e => (by rw [hL4.out] at e; simp at e), fun x hx => (by cases hx)⟩
    ·simp at hm
     have := hl4.own k hk
     omega
    ·simp at hm
     have := (hl4.rows x hx k hk).1
     omega
    ·show _ = mbR bs (R.take (s.i + 1))
     rw [hsn'.out, hL4.out, List.map_append, h.took]
     rfl
    ·rcases hra4 k hk with e | e
     ·exact h.ne k e
     ·exact ⟨fun hm => by have := h.co.jl k hm; omega, fun hm => by have := h.co.ql k hm; omega⟩
    ·rw [hL4.out] at hx
     rcases List.mem_append.1 hx with hx | hx
     ·exact h.nes x hx k hk
     ·rw [List.mem_singleton.1 hx] at hk
      exact fun hm => by have := (hbW k hk).1; have := h.co.ql k hm; omega
   clear hyl hlD hra4 ck4 f3W hyb hyW hywd hl4 ky hkrow5 hkl5 hkwd hkW hbW
   refine tkH (v := ?_) 6 rfl (by kernel_rfl) (fun _ _ _ h => h) (Or.inl ⟨by rfl, ?_⟩) (by assumption) ?_
   rotate_left
   ·intro w hSw; (try dsimp only at hSw); go_simp <;> with_reducible rfl
   try simp only [Act.put, lz]
   refine rdH 7 (by kernel_rfl) rfl fun K hK => ?_
   go_simp
   (try go_wp2_with fail)
   refine hK.out _ _ sA (fun hHeld => ?_)
   clear hK K
   try simp only [Act.put, lz]
   refine rdH 8 (by kernel_rfl) rfl fun K hK => ?_
   refine stepAppRun rfl _ _ 201 201 rfl _ _ _ rfl rfl hrun ?_
   refine hK.out _ _ s4 (fun hHeld => ?_)
   clear hK K
   try simp only [Act.put, lz]
   refine rdH 9 (by kernel_rfl) rfl fun K hK => ?_
   go_simp
   (try go_wp2_with fail)
   refine hK.out _ _ sT (fun hHeld => ?_)
   clear hK K
   try simp only [Act.put, lz]
   refine wpAnyH_done (by kernel_rfl) ?_ _
   exact HE.out ⟨#[], []⟩
  ·go_simp
   refine (cPk.out _ KD.out).mono ?_
   rintro e W3 ⟨ka, kc, rfl, hkrow, kk, hkb⟩
   have K3 := hid (KD.out.trans kk (by simp))
   have c3K := hbx.out W3 K3.out
   (try go_wp2_with fail)
   refine hK.out _ _ (hS.out [] _ K3.out (by simp)) (fun hHeld => ?_)
   clear hK K
   try simp only [Act.put, lz]
   refine wpAnyH_ready (rs := [0, 5]) (by kernel_rfl) (by simp) ?_
   refine AllReadyH.cons rfl (fun K hK => ?_) (AllReadyH.cons rfl (fun K hK => ?_) AllReadyH.nil)
   ·go_simp
    (try go_wp2_with fail)
    refine hK.out _ _ hHeld (fun hHeld => ?_)
    clear hK K
    try simp only [Act.put, lz]
    refine rdH 5 (by kernel_rfl) rfl fun K hK => ?_
    go_simp
    refine (cCp.out _ K3.out).mono ?_
    rintro e W5 ⟨ya, yc, rfl, hyrow, ky, hyb⟩
    (try go_wp2_with fail)
    refine hK.out _ _ (hS.out [] _ (K3.out.trans ky (by simp)) (by simp)) (fun hHeld => ?_)
    clear hK K
    try simp only [Act.put, lz]
    have kWD := hid (K3.out.trans ky (by simp))
    have hyl := rowLies hyrow
    have hkrow5 := hkrow.keptNew ky
    have hkl5 := rowLies hkrow5
    have hlD : Lom w1.heap.size ra rc L W5 := h'.out.lot.ck (CK.ofKp kWD.out) (by simp) (by simp)
    have hzD := kWD.out.size
    have hwz := h'.out.co.size
    have hywd : ∀ k ∈ blk ya, k < W5.heap.size := fun k hk => hyrow.lt k (by rw [ownV]; exact hk)
    have hkwd : ∀ k ∈ blk ka, k < W5.heap.size := fun k hk => hkrow5.lt k (by rw [ownV]; exact hk)
    have hyW : ∀ k ∈ blk ya, W.heap.size ≤ k := fun k hk => by have := hyb k hk; have := K3.out.size; omega
    have hkW : ∀ k ∈ blk ka, W.heap.size ≤ k := fun k hk => by have := hkb k hk; have := KD.out.size; omega
    have hbW : ∀ k ∈ (⟨⟨ka, kc, kl⟩, ⟨ya, yc, xl⟩⟩ : Mb).bs, W.heap.size ≤ k ∧ k < W5.heap.size := fun k hk => by
     rcases List.mem_append.1 hk with e | e
     ·exact ⟨hkW k e, hkwd k e⟩
     ·exact ⟨hyW k e, hywd k e⟩
    obtain ⟨ra4, rc4, W4, hrun, hl4, k4, hra4⟩ := hlD.app ⟨⟨ka, kc, kl⟩, ⟨ya, yc, xl⟩⟩ ⟨hkl5, hyl⟩ (by omega) (fun k hk => ⟨by have := (hbW k hk).1; omega, (hbW k hk).2, fun hm => by have := (hbW k hk).1; have := h'.out.lot.lt k hm; omega⟩) hLl
    obtain ⟨L4, hL4⟩ : ∃ L4, Hid (L4 = L ++ [(⟨⟨ka, kc, kl⟩, ⟨ya, yc, xl⟩⟩ : Mb)]) := ⟨_, rfl⟩
    rw [← hL4.out] at hrun hl4
    dsimp only at hrun
    have hq5ra : q5 ∉ blk ra := fun hm => by have := h'.out.lot.own q5 hm; omega
    have hq3ra : q3 ∉ blk ra := fun hm => by have := h'.out.lot.own q3 hm; omega
    have c3D := hbx.out W5 kWD.out
    have c3A : (W5.alloc (.cells #[.slice ka kl.length kc, .slice ya xl.length yc] 206)).cell? ⟨q5, 0, none⟩ = some (.slice ra L.length rc) := kpAt ((Kp.refl _ _).alloc _) c3D
    have sA := hS.out [] _ (kWD.out.alloc (.cells #[.slice ka kl.length kc, .slice ya xl.length yc] 206)) (by simp)
    have kW4 : Kp (blk ra) W W4 := (kWD.out.mono (T := blk ra) (by simp)).trans k4 (fun j hj => .inl hj)
    have s4 := hS.out _ _ kW4 hq3ra
    have kS : Kp [q5] W4 (W4.setCell ⟨q5, 0, none⟩ (.slice ra4 L4.length rc4)) := (Kp.refl _ _).setCell (by simp) _
    have kT : Kp (q5 :: blk ra) W (W4.setCell ⟨q5, 0, none⟩ (.slice ra4 L4.length rc4)) := (kW4.mono (T := q5 :: blk ra) (fun j hj => by simp [hj])).trans kS (fun j hj => .inl (by simp at hj; simp [hj]))
    have sT := hS.out _ _ kT (by simp [hq3ra]; omega)
    have ck4 := CK.ofKp k4
    obtain ⟨c3W, f3W⟩ := ck4.2 ⟨q5, 0, none⟩ _ hq5ra c3D
    have f3 : W4.frozen? ⟨q5, 0, none⟩ = false := f3W.trans ((kWD.out.frozen (p := ⟨q5, 0, none⟩) (World.block_lt_of_cell? _ _ h'.out.box) (by simp)).trans h'.out.free)
    have HE : Hid (∀ A, leftX w1.heap.size KeepR (GamI w1 q5 R bs) (fun _ _ _ => False) s (s.nx ⟨xa, xc, xl⟩) W .normal A (W4.setCell ⟨q5, 0, none⟩ (.slice ra4 L4.length rc4))) := fun A => by
     have h := h'.out
     have ckS := CK.ofKp kS
     obtain ⟨r1, r2, r3⟩ := h.co.round (x := ⟨xa, xc, xl⟩) kT (fun k hk => by
      rcases List.mem_cons.1 hk with rfl | hk
      ·exact cellCel h.box
      ·refine rowCel h.lot.row (fun e => ?_) k hk
       rw [h.nil e] at hk
       simp [blk] at hk) (fun k hk => by
      rcases List.mem_cons.1 hk with rfl | hk
      ·exact .inl (by simp)
      ·exact .inr (h.lot.own k hk)) (fun k hk => by
      rcases List.mem_cons.1 hk with rfl | hk
      ·exact fun hm => (h.co.js k hm).1 (by simp)
      ·exact (h.ne k hk).1)
     refine ⟨r1, r2, ra4, rc4, L4, r3, World.cell?_setCell_same _ _ _ c3W, by rw [World.frozen?_setCell]; exact f3, hl4.ck ckS (fun k hk hm => ?_) (fun x hx k hk hm => ?_), ?_, fun k hk => ?_, fun x hx k hk => ?_, fun e => (by rw [hL4.out] at e; simp at e), fun x hx => (by cases hx)⟩
     ·simp at hm
      have := hl4.own k hk
      omega
     ·simp at hm
      have := (hl4.rows x hx k hk).1
      omega
     ·show _ = mbR bs (R.take (s.i + 1))
      rw [hsn'.out, hL4.out, List.map_append, h.took]
      rfl
     ·rcases hra4 k hk with e | e
      ·exact h.ne k e
      ·exact ⟨fun hm => by have := h.co.jl k hm; omega, fun hm => by have := h.co.ql k hm; omega⟩
     ·rw [hL4.out] at hx
      rcases List.mem_append.1 hx with hx | hx
      ·exact h.nes x hx k hk
      ·rw [List.mem_singleton.1 hx] at hk
       exact fun hm => by have := (hbW k hk).1; have := h.co.ql k hm; omega
    clear hyl hlD hra4 ck4 f3W hyb hyW hywd hl4 ky hkrow5 hkl5 hkwd hkW hbW
    refine tkH (v := ?_) 6 rfl (by kernel_rfl) (fun _ _ _ h => h) (Or.inl ⟨by rfl, ?_⟩) (by assumption) ?_
    rotate_left
    ·intro w hSw; (try dsimp only at hSw); go_simp <;> with_reducible rfl
    try simp only [Act.put, lz]
    refine rdH 7 (by kernel_rfl) rfl fun K hK => ?_
    go_simp
    (try go_wp2_with fail)
    refine hK.out _ _ sA (fun hHeld => ?_)
    clear hK K
    try simp only [Act.put, lz]
    refine rdH 8 (by kernel_rfl) rfl fun K hK => ?_
    refine stepAppRun rfl _ _ 201 201 rfl _ _ _ rfl rfl hrun ?_
    refine hK.out _ _ s4 (fun hHeld => ?_)
    clear hK K
    try simp only [Act.put, lz]
    refine rdH 9 (by kernel_rfl) rfl fun K hK => ?_
    go_simp
    (try go_wp2_with fail)
    refine hK.out _ _ sT (fun hHeld => ?_)
    clear hK K
    try simp only [Act.put, lz]
    refine wpAnyH_done (by kernel_rfl) ?_ _
    exact HE.out ⟨#[], []⟩
   ·go_simp
    refine (cCp.out _ K3.out).mono ?_
    rintro e W5 ⟨ya, yc, rfl, hyrow, ky, hyb⟩
    (try go_wp2_with fail)
    refine hK.out _ _ (hS.out [] _ (K3.out.trans ky (by simp)) (by simp)) (fun hHeld => ?_)
    clear hK K
    try simp only [Act.put, lz]
    have kWD := hid (K3.out.trans ky (by simp))
    have hyl := rowLies hyrow
    have hkrow5 := hkrow.keptNew ky
    have hkl5 := rowLies hkrow5
    have hlD : Lom w1.heap.size ra rc L W5 := h'.out.lot.ck (CK.ofKp kWD.out) (by simp) (by simp)
    have hzD := kWD.out.size
    have hwz := h'.out.co.size
    have hywd : ∀ k ∈ blk ya, k < W5.heap.size := fun k hk => hyrow.lt k (by rw [ownV]; exact hk)
    have hkwd : ∀ k ∈ blk ka, k < W5.heap.size := fun k hk => hkrow5.lt k (by rw [ownV]; exact hk)
    have hyW : ∀ k ∈ blk ya, W.heap.size ≤ k := fun k hk => by have := hyb k hk; have := K3.out.size; omega
    have hkW : ∀ k ∈ blk ka, W.heap.size ≤ k := fun k hk => by have := hkb k hk; have := KD.out.size; omega
    have hbW : ∀ k ∈ (⟨⟨ka, kc, kl⟩, ⟨ya, yc, xl⟩⟩ : Mb).bs, W.heap.size ≤ k ∧ k < W5.heap.size := fun k hk => by
     rcases List.mem_append.1 hk with e | e
     ·exact ⟨hkW k e, hkwd k e⟩
     ·exact ⟨hyW k e, hywd k e⟩
    obtain ⟨ra4, rc4, W4, hrun, hl4, k4, hra4⟩ := hlD.app ⟨⟨ka, kc, kl⟩, ⟨ya, yc, xl⟩⟩ ⟨hkl5, hyl⟩ (by omega) (fun k hk => ⟨by have := (hbW k hk).1; omega, (hbW k hk).2, fun hm => by have := (hbW k hk).1; have := h'.out.lot.lt k hm; omega⟩) hLl
    obtain ⟨L4, hL4⟩ : ∃ L4, Hid (L4 = L ++ [(⟨⟨ka, kc, kl⟩, ⟨ya, yc, xl⟩⟩ : Mb)]) := ⟨_, rfl⟩
    rw [← hL4.out] at hrun hl4
    dsimp only at hrun
    have hq5ra : q5 ∉ blk ra := fun hm => by have := h'.out.lot.own q5 hm; omega
    have hq3ra : q3 ∉ blk ra := fun hm => by have := h'.out.lot.own q3 hm; omega
    have c3D := hbx.out W5 kWD.out
    have c3A : (W5.alloc (.cells #[.slice ka kl.length kc, .slice ya xl.length yc] 206)).cell? ⟨q5, 0, none⟩ = some (.slice ra L.length rc) := kpAt ((Kp.refl _ _).alloc _) c3D
    have sA := hS.out [] _ (kWD.out.alloc (.cells #[.slice ka kl.length kc, .slice ya xl.length yc] 206)) (by simp)
    have kW4 : Kp (blk ra) W W4 := (kWD.out.mono (T := blk ra) (by simp)).trans k4 (fun j hj => .inl hj)
    have s4 := hS.out _ _ kW4 hq3ra
    have kS : Kp [q5] W4 (W4.setCell ⟨q5, 0, none⟩ (.slice ra4 L4.length rc4)) := (Kp.refl _ _).setCell (by simp) _
    have kT : Kp (q5 :: blk ra) W (W4.setCell ⟨q5, 0, none⟩ (.slice ra4 L4.length rc4)) := (kW4.mono (T := q5 :: blk ra) (fun j hj => by simp [hj])).trans kS (fun j hj => .inl (by simp at hj; simp [hj]))
    have sT := hS.out _ _ kT (by simp [hq3ra]; omega)
    have ck4 := CK.ofKp k4
    obtain ⟨c3W, f3W⟩ := ck4.2 ⟨q5, 0, none⟩ _ hq5ra c3D
    have f3 : W4.frozen? ⟨q5, 0, none⟩ = false := f3W.trans ((kWD.out.frozen (p := ⟨q5, 0, none⟩) (World.block_lt_of_cell? _ _ h'.out.box) (by simp)).trans h'.out.free)
    have HE : Hid (∀ A, leftX w1.heap.size KeepR (GamI w1 q5 R bs) (fun _ _ _ => False) s (s.nx ⟨xa, xc, xl⟩) W .normal A (W4.setCell ⟨q5, 0, none⟩ (.slice ra4 L4.length rc4))) := fun A => by
     have h := h'.out
     have ckS := CK.ofKp kS
     obtain ⟨r1, r2, r3⟩ := h.co.round (x := ⟨xa, xc, xl⟩) kT (fun k hk => by
      rcases List.mem_cons.1 hk with rfl | hk
      ·exact cellCel h.box
      ·refine rowCel h.lot.row (fun e => ?_) k hk
       rw [h.nil e] at hk
       simp [blk] at hk) (fun k hk => by
      rcases List.mem_cons.1 hk with rfl | hk
      ·exact .inl (by simp)
      ·exact .inr (h.lot.own k hk)) (fun k hk => by
      rcases List.mem_cons.1 hk with rfl | hk
      ·exact fun hm => (h.co.js k hm).1 (by simp)
      ·exact (h.ne k hk).1)
     refine ⟨r1, r2, ra4, rc4, L4, r3, World.cell?_setCell_same _ _ _ c3W, by rw [World.frozen?_setCell]; exact f3, hl4.ck ckS (fun k hk hm => ?_) (fun x hx k hk hm => ?_), ?_, fun k hk => ?_, fun x hx k hk => ?_, fun e => (by rw [hL4.out] at e; simp at e), fun x hx => (by cases hx)⟩
     ·simp at hm
      have := hl4.own k hk
      omega
     ·simp at hm
      have := (hl4.rows x hx k hk).1
      omega
     ·show _ = mbR bs (R.take (s.i + 1))
      rw [hsn'.out, hL4.out, List.map_append, h.took]
      rfl
     ·rcases hra4 k hk with e | e
      ·exact h.ne k e
      ·exact ⟨fun hm => by have := h.co.jl k hm; omega, fun hm => by have := h.co.ql k hm; omega⟩
     ·rw [hL4.out] at hx
      rcases List.mem_append.1 hx with hx | hx
      ·exact h.nes x hx k hk
      ·rw [List.mem_singleton.1 hx] at hk
       exact fun hm => by have := (hbW k hk).1; have := h.co.ql k hm; omega
    clear hyl hlD hra4 ck4 f3W hyb hyW hywd hl4 ky hkrow5 hkl5 hkwd hkW hbW
    refine tkH (v := ?_) 6 rfl (by kernel_rfl) (fun _ _ _ h => h) (Or.inl ⟨by rfl, ?_⟩) (by assumption) ?_
    rotate_left
    ·intro w hSw; (try dsimp only at hSw); go_simp <;> with_reducible rfl
    try simp only [Act.put, lz]
    refine wpAnyH_ready (rs := [0, 7]) (by kernel_rfl) (by simp) ?_
    refine AllReadyH.cons rfl (fun K hK => ?_) (AllReadyH.cons rfl (fun K hK => ?_) AllReadyH.nil)
    ·go_simp
     (try go_wp2_with fail)
     refine hK.out _ _ hHeld (fun hHeld => ?_)
     clear hK K
     try simp only [Act.put, lz]
     refine rdH 7 (by kernel_rfl) rfl fun K hK => ?_
     go_simp
     (try go_wp2_with fail)
     refine hK.out _ _ sA (fun hHeld => ?_)
     clear hK K
     try simp only [Act.put, lz]
     refine rdH 8 (by kernel_rfl) rfl fun K hK => ?_
     refine stepAppRun rfl _ _ 201 201 rfl _ _ _ rfl rfl hrun ?_
     refine hK.out _ _ s4 (fun hHeld => ?_)
     clear hK K
     try simp only [Act.put, lz]
     refine rdH 9 (by kernel_rfl) rfl fun K hK => ?_
     go_simp
     (try go_wp2_with fail)
     refine hK.out _ _ sT (fun hHeld => ?_)
     clear hK K
     try simp only [Act.put, lz]
     refine wpAnyH_done (by kernel_rfl) ?_ _
     exact HE.out ⟨#[], []⟩
    ·go_simp
     (try go_wp2_with fail)
     refine hK.out _ _ sA (fun hHeld => ?_)
     clear hK K
     try simp only [Act.put, lz]
     refine rdH 0 (by kernel_rfl) rfl fun K hK => ?_
     go_simp
     (try go_wp2_with fail)
     refine hK.out _ _ hHeld (fun hHeld => ?_)
     clear hK K
     try simp only [Act.put, lz]
     refine rdH 8 (by kernel_rfl) rfl fun K hK => ?_
     refine stepAppRun rfl _ _ 201 201 rfl _ _ _ rfl rfl hrun ?_
     refine hK.out _ _ s4 (fun hHeld => ?_)
     clear hK K
     try simp only [Act.put, lz]
     refine rdH 9 (by kernel_rfl) rfl fun K hK => ?_
     go_simp
     (try go_wp2_with fail)
     refine hK.out _ _ sT (fun hHeld => ?_)
     clear hK K
     try simp only [Act.put, lz]
     refine wpAnyH_done (by kernel_rfl) ?_ _
     exact HE.out ⟨#[], []⟩
 case done =>
  rintro D s X hD ⟨hmd, hsi, hsp⟩ ⟨ra, rc, L, h⟩ hrec
  have hbx := h.box
  have h' := hid h
  have hrec' := hid hrec
  have hLr : L.map Mb.pr = mbR bs R := by rw [h.took, hsi, List.take_length]
  have cS := hid (HST.out X w1.heap.size ra rc L h.lot hLr)
  clear h hrec hLr
  go_wp2_with fail
  refine cS.out.mono ?_
  rintro e X2 ⟨⟨v, rfl⟩, L2, hn2, hl2, hm2, k2⟩
  have hq5ra : q5 ∉ blk ra := fun hm => by have := h'.out.lot.own q5 hm; omega
  have c5 := (k2.cell (p := ⟨q5, 0, none⟩) (World.block_lt_of_cell? _ _ hbx) hq5ra).trans hbx
  rw [← hn2] at c5
  have HF := hid (And.intro hl2 (And.intro hm2 k2))
  clear cS hl2 hm2 k2 hn2
  go_wp2_with fail
  have h := h'.out
  obtain ⟨hl2, hm2, k2⟩ := HF.out
  have hDra : D ∉ blk ra := fun hm => by
   have hne : L ≠ [] := fun e => by rw [h.nil e] at hm; simp [blk] at hm
   have := rowCel h.lot.row hne D hm
   rw [hrec'.out] at this
   simp [Obj.isCells] at this
  have hrec2 : X2.heap[D]? = some (.deferred (some [])) := (k2.block D (Array.getElem?_eq_some_iff.1 hrec'.out).1 hDra).trans hrec'.out
  have hmk : Mks [D] X2 := (Mks.nil X2).cons hrec2 (by simp)
  have hzw := hz1'.out
  have hzq := HZQ.out
  have kwX : Kp [] w X2 := (HK1.out.trans h.co.kp (fun x hx => .inr (by simp at hx; omega))).trans k2 (fun x hx => .inr (by have := h.lot.own x hx; omega))
  show LeavesInM _ _ _ _ _ _ (marks [D]) .returning _
  refine leaves_marks [D] X2 hmk fun w' hk => ⟨_, results_tmp rfl _ _ _, ra, rc, L2, rfl, ?_, hm2, kwX.trans hk (fun x hx => .inr (by simp at hx; omega))⟩
  have ck : CK (fun _ => True) X2 w' := CK.ofBlock hk.size fun k _ hl => by
   by_cases e : k = D
   ·exact .inr ⟨_, by rw [e]; exact hrec2, rfl⟩
   ·exact .inl (hk.block k hl (by simpa using e))
  exact (hl2.ck ck (fun _ _ => trivial) (fun _ _ _ _ => trivial)).mono (by omega)
 case stop =>
  rintro D c s X hD _ h
  exact h.elim
theorem ckSee {α : Type} {E : El α} {P : Nat → Prop} {X Y : World} (h : CK P X Y) {a : Option Addr} {l : List α} (hs : E.See X a l) (hP : ∀ k ∈ blk a, P k) : E.See Y a l := by
 rcases hs with e | ⟨g, o, e, hc⟩
 ·exact .inl e
 ·subst e
  exact .inr ⟨g, o, rfl, fun j u hu => (h.2 ⟨g, _, none⟩ u (hP g (by simp [blk])) (hc j u hu)).1⟩
theorem csDropM : ∀ (M : List Mb) (n : Nat), MbE.cs (M.drop n) = (MbE.cs M).drop (n * 2)
 | [], n => by simp [El.cs]
 | x :: M, 0 => by simp
 | x :: M, n + 1 => by
  rw [List.drop_succ_cons, csDropM M n, show (n + 1) * 2 = n * 2 + 1 + 1 by omega]
  simp [El.cs, MbE]
theorem csTakeM : ∀ (M : List Mb) (n : Nat), MbE.cs (M.take n) = (MbE.cs M).take (n * 2)
 | [], n => by simp [El.cs]
 | x :: M, 0 => by simp [El.cs]
 | x :: M, n + 1 => by
  have := csTakeM M n
  rw [show (n + 1) * 2 = n * 2 + 1 + 1 by omega]
  simp [El.cs, MbE] at this ⊢
  exact this
theorem seeDropM {w : World} {a : Option Addr} {L : List Mb} (h : MbE.See w a L) (i : Nat) : MbE.See w (a.map fun x => x.add (i * 2)) (L.drop i) := by
 rcases h with e | ⟨g, o, e, hc⟩
 ·exact .inl (by rw [e]; simp)
 ·subst e
  refine .inr ⟨g, o + i * 2, by simp [Addr.add], fun j u hu => ?_⟩
  rw [csDropM, List.getElem?_drop] at hu
  have := hc (i * 2 + j) u hu
  rw [← Nat.add_assoc] at this
  exact this
theorem seeTakeM {w : World} {a : Option Addr} {L : List Mb} (h : MbE.See w a L) (m : Nat) : MbE.See w a (L.take m) := by
 rcases h with e | ⟨g, o, e, hc⟩
 ·exact .inl (by rw [e]; simp)
 ·refine .inr ⟨g, o, e, fun j u hu => hc j u ?_⟩
  rw [csTakeM, List.getElem?_take] at hu
  split at hu
  ·exact hu
  ·cases hu
def lenS : Value → Nat
 | .slice _ n _ => n
 | _ => 0
def grpR (S : List (List Val × List Val)) (m : Nat) (cs : Nat → Nat) (gs : List (Int × Int)) (tv : Nat → Int × Int → Val) : List (List Val) := (List.range m).map fun i => (S.getD (cs i) ([], [])).1 ++ gs.map (tv i)
theorem groupSeq (n : Nat) (hn : 4 ≤ n) (q1 q2 q3 : Nat) (fr : Bool) (g : Nat) (lb : Array Value) (RR : List (List Val)) (jsr js : List Nat) (ba : Option Addr) (bc : Nat) (bs : List Int) (ga : Option Addr) (gc : Nat) (gs : List (Int × Int)) (S : List (List Val × List Val)) (m : Nat) (cs : Nat → Nat) (tv : Nat → Int × Int → Val) (w : World)
  (heg : ∀ args w, (callFunc g args).run Tryz.prog w = .ok (.enter g args) w)
  (c1 : w.cell? ⟨q1, 0, none⟩ = some (.func (.func g) #[] lb)) (c2 : w.cell? ⟨q2, 0, none⟩ = some (.slice ba bs.length bc)) (c3 : w.cell? ⟨q3, 0, none⟩ = some (.slice ga gs.length gc))
  (hq : ∀ q ∈ [q1, q2, q3], q ∈ js) (hjr : ∀ j ∈ jsr, j ∈ js) (hjb : ∀ j ∈ js, j < w.heap.size)
  (hb : IntE.Row w (.slice ba bs.length bc) bs) (hbj : ∀ k ∈ blk ba, k ∈ js) (hg : AgE.See w ga gs) (hgj : ∀ k ∈ blk ga, k ∈ js)
  (hR : ∀ n, 3 ≤ n → RowSeq fr n g lb RR jsr w) (hRR : RR.length ≤ 4000000000000) (hRRl : ∀ l ∈ RR, l.length ≤ 3600000000000) (hbl : bs.length ≤ 3000000000000)
  (hsort : ∀ (W : World) (N : Nat) (ra : Option Addr) (rc : Nat) (L : List Mb), Lom N ra rc L W → L.map Mb.pr = mbR bs RR → Calls Tryz.prog 165 #[.slice ra L.length rc, .func (.func 166) #[] #[]] W (SortPM N ra rc L.length S W))
  (hSn : S ≠ []) (hS4 : S.length ≤ 4000000000000) (hc0 : cs 0 = 0) (hcm : cs m = S.length) (hcs : ∀ i, i < m → cs i < cs (i + 1) ∧ cs (i + 1) ≤ S.length) (hkl : ∀ p ∈ S, p.1.length + gs.length ≤ 3000000000000)
  (htog : ∀ i, i < m → ∀ (W : World) (a : Option Addr) (c : Nat) (T : List Mb), MbE.See W a T → (∀ x ∈ T, Mb.lies W x) → T.map Mb.pr = S.drop (cs i) → Calls Tryz.prog 144 #[.slice a T.length c] W fun e w' => e = .returned (.int .i64 ((cs (i + 1) - cs i : Nat) : Int)) ∧ Kp [] W w')
  (htell : ∀ i, i < m → ∀ ag ∈ gs, ∀ (W : World) (a : Option Addr) (c : Nat) (T : List Mb), MbE.See W a T → (∀ x ∈ T, Mb.lies W x) → T.map Mb.pr = (S.drop (cs i)).take (cs (i + 1) - cs i) → Calls Tryz.prog 167 #[.slice a T.length c, .agg #[.int .i64 ag.1, .int .i64 ag.2]] W fun e w' => e = .returned (.agg #[.int .i64 (tv i ag).k, .bool (tv i ag).b, .int .i64 (tv i ag).n, .string (tv i ag).t]) ∧ Kp [] W w') :
  RowSeq true n 141 #[.pointer (some ⟨q1, 0, none⟩), .pointer (some ⟨q2, 0, none⟩), .pointer (some ⟨q3, 0, none⟩)] (grpR S m cs gs tv) js w := by
 intro ly J Jx W hW hT hX hY h0
 obtain ⟨RG, hRG⟩ : ∃ R, Hid (grpR S m cs gs tv = R) := ⟨_, rfl⟩
 rw [hRG.out] at hT ⊢
 have hRGl : RG.length = m := by rw [← hRG.out]; simp [grpR]
 have hRGi : Hid (∀ i, i < m → RG[i]? = some ((S.getD (cs i) ([], [])).1 ++ gs.map (tv i))) := fun i hi => by rw [← hRG.out]; simp [grpR, hi]
 have kjs := hW.js
 have d1 := kjs.cell (hq q1 (by simp)) c1
 have d2 := kjs.cell (hq q2 (by simp)) c2
 have d3 := kjs.cell (hq q3 (by simp)) c3
 have hjW : ∀ j ∈ js, j < W.heap.size := fun j hj => Nat.lt_of_lt_of_le (hjb j hj) kjs.1
 have ckW := ckOfKeepB kjs
 have cM := hid (callsIn_wide.1 (cMembersG 4 (by omega) fr g lb RR jsr ba bc bs S W heg ((hR 3 (by omega)).move ⟨kjs.1, fun j hj o ho => kjs.2 j (hjr j hj) o ho⟩) (fun j hj => hjW j (hjr j hj)) hRR hRRl (ckRow ckW hb hbj) hbl hsort))
 have hgW : Hid (AgE.See W ga gs) := ckSee ckW hg hgj
 have HTO := hid htog
 have HTE := hid htell
 have h0' := hid h0
 have hgj' := hid hgj
 have hkl' := hid hkl
 have hcs' := hid hcs
 have hjW' := hid hjW
 have hq3j := hid (hq q3 (by simp))
 clear c1 c2 c3 hR hsort hW kjs hjb h0 hb hbj hg hgj ckW htog htell hkl hcs hq hjr hjW
 refine callsIn_of_wp Tryz.func141 rfl trivial ?_ rfl
 simp only [Tryz.ntmps141, List.size_toArray, List.length_cons, List.length_nil, Nat.reduceAdd, Nat.reduceSub, Array.replicate_succ, Array.replicate_zero, List.push_toArray, List.append_toArray, List.nil_append, List.cons_append]
 gi_wp2_with fail
 refine ⟨trivial, fun h => (by cases h), (callsIn_wide.2 cM.out).mono ?_⟩
 rintro e W2 ⟨ra, rc, L, rfl, hlot, hL, k2⟩
 have hLl : L.length = S.length := by have := congrArg List.length hL; simpa using this
 have hLp : 0 < L.length := by rw [hLl]; exact List.length_pos_iff.2 hSn
 obtain ⟨a', c', e', hsee, _, hLc, hrm, _⟩ := hlot.row.see
 cases e'
 obtain ⟨Mj, hMj⟩ : ∃ M, Hid (M = blk ra ++ L.flatMap Mb.bs) := ⟨_, rfl⟩
 have hMb : ∀ j ∈ Mj, W.heap.size ≤ j ∧ j < W2.heap.size := fun j hj => by
  rw [hMj.out] at hj
  rcases List.mem_append.1 hj with e | e
  ·exact ⟨hlot.own j e, hlot.lt j e⟩
  ·obtain ⟨x, hx, e⟩ := List.mem_flatMap.1 e
   exact ⟨(hlot.rows x hx j e).1, (hlot.rows x hx j e).2.1⟩
 obtain ⟨jsM, hjsM⟩ : ∃ M, Hid (M = js ++ Mj) := ⟨_, rfl⟩
 have hJ2 : J ⟨true, W2.heap.size, [], jsM, 0, none⟩ W2 := hT _ _ _ _ h0'.out ⟨TurnR.ofKp0 k2, fun h => (by cases h), fun _ => ⟨rfl, k2.size, by simp⟩, fun j hj => by
  rw [hjsM.out] at hj
  rcases List.mem_append.1 hj with e | e
  ·exact .inl e
  ·exact .inr (hMb j e), rfl, .inl rfl⟩
 have hjM : Hid (∀ j ∈ jsM, j < W2.heap.size) := fun j hj => by
  rw [hjsM.out] at hj
  rcases List.mem_append.1 hj with e | e
  ·exact Nat.lt_of_lt_of_le (hjW'.out j e) k2.size
  ·exact (hMb j e).2
 have hraM : Hid (∀ k ∈ blk ra, k ∈ jsM) := fun k hk => by rw [hjsM.out, hMj.out]; simp [hk]
 have hmbM : Hid (∀ x ∈ L, ∀ k ∈ x.bs, k ∈ jsM) := fun x hx k hk => by
  rw [hjsM.out, hMj.out]
  exact List.mem_append.2 (.inr (List.mem_append.2 (.inr (List.mem_flatMap.2 ⟨x, hx, hk⟩))))
 have hgM : Hid (∀ k ∈ blk ga, k ∈ jsM) := fun k hk => by rw [hjsM.out]; simp [hgj'.out k hk]
 have hq3M : q3 ∈ jsM := by rw [hjsM.out]; simp [hq3j.out]
 have hg2 : Hid (AgE.See W2 ga gs) := hgW.out.keptNew k2
 have c32 := kpAt k2 d3
 have hlot' := hid hlot
 have hL' := hid hL
 have hsee' := hid hsee
 have hMb' := hid hMb
 have hB0 : ∃ B, Hid (W2.heap.size = B) := ⟨_, rfl⟩
 obtain ⟨B0, hB0⟩ := hB0
 rw [hB0.out] at hJ2
 have dl : (((L.length : Nat) : Int) == 0) = false := beq_eq_false_iff_ne.2 (by omega)
 unfold maxLen at hrm
 have hLl' := hid hLl
 have hL4 : L.length ≤ 4000000000000 := by omega
 clear hLl
 clear cM hlot hL hsee k2 hMb d1 d2 d3 hgW
 gi_wp2_with fail
 gi_loopw [5] (fun v5 wr => ∃ (i : Nat) (a : Option Addr) (n' c : Nat), i ≤ m ∧ v5 = .slice a n' c ∧ Hid (n' = S.length - cs i) ∧ n' ≤ c ∧ c ≤ 9223372036854775807 ∧ Hid (MbE.See W2 a (L.drop (cs i)) ∧ ∀ k ∈ blk a, k ∈ blk ra) ∧ J ⟨true, B0, [], jsM, i, none⟩ wr ∧ Hid (KeepB jsM W2 wr)) (fun v5 _ => lenS v5)
 case atStart => exact ⟨0, ra, L.length, rc, Nat.zero_le _, rfl, by show _ = _; rw [hLl'.out, hc0]; rfl, hLc, by omega, ⟨by rw [hc0]; exact hsee'.out, fun k hk => hk⟩, hJ2, KeepB.refl _ _⟩
 case round =>
  obtain ⟨i, a, n', c, him, rfl, hn', hnc, hcM, HS, hJi, hkB⟩ := hrel
  clear hJ2
  by_cases hlt : i < m
  ·obtain ⟨hci, hcj⟩ := hcs'.out i hlt
   obtain ⟨k', hk'⟩ : ∃ k, Hid (cs (i + 1) - cs i = k) := ⟨_, rfl⟩
   have hk1 : 1 ≤ k' := by have := hk'.out; omega
   have hkn : k' ≤ n' := by have := hk'.out; have := hn'.out; omega
   obtain ⟨T, hT'⟩ : ∃ T, Hid (L.drop (cs i) = T) := ⟨_, rfl⟩
   have hTl : T.length = n' := by rw [← hT'.out, hn'.out, List.length_drop, hLl'.out]
   have hTS : Hid (T.map Mb.pr = S.drop (cs i)) := by show _ = _; rw [← hT'.out, List.map_drop, hL'.out]
   have hTm : Hid (∀ x ∈ T, x ∈ L) := fun x hx => by rw [← hT'.out] at hx; exact List.mem_of_mem_drop hx
   have HS2 := HS.out
   rw [hT'.out] at HS2
   have ckr := ckOfKeepB hkB.out
   have hseer : MbE.See wr a T := ckSee ckr HS2.1 (fun k hk => hraM.out k (HS2.2 k hk))
   have hlir : ∀ x ∈ T, Mb.lies wr x := fun x hx => (hlot'.out.lies x (hTm.out x hx)).ck ckr (hmbM.out x (hTm.out x hx))
   have cTo := HTO.out i hlt wr a c T hseer hlir hTS.out
   rw [hk'.out, hTl] at cTo
   have cTo' := hid cTo
   have HR := hid (And.intro hseer hlir)
   have hgr : Hid (AgE.See wr ga gs) := ckSee ckr hg2.out hgM.out
   have c3r : wr.cell? ⟨q3, 0, none⟩ = some (.slice ga gs.length gc) := (ckr.2 ⟨q3, 0, none⟩ _ hq3M c32).1
   have i1 : (0 : Int) < (n' : Int) := by omega
   have i2 : (1 : Int) ≤ (k' : Int) := by omega
   have i3 : (k' : Int) ≤ (n' : Int) := by omega
   have i4 : (k' : Int) ≤ (c : Int) := by omega
   have i5 : (0 : Int) ≤ (k' : Int) := by omega
   have hcij := hid (And.intro hci hcj)
   clear cTo hseer hlir ckr hci hcj HS2
   gi_wp2_with fail
   refine ⟨trivial, fun h => (by cases h), (callsIn_wide.2 cTo'.out).mono ?_⟩
   rintro e w3 ⟨rfl, k3⟩
   have K3 := hid k3
   clear cTo' k3
   gi_wp2_with fail
   obtain ⟨gb, o, ea, c0, _⟩ := mbAt HR.out.1 0 (by omega)
   have hx0S : Hid (S.getD (cs i) ([], []) = T[0].pr) := by
    show _ = _
    have h1 : (T.map Mb.pr)[0]? = (S.drop (cs i))[0]? := by rw [hTS.out]
    rw [List.getElem?_drop, List.getElem?_map, List.getElem?_eq_getElem (by omega)] at h1
    simp at h1
    rw [List.getD_eq_getElem?_getD, ← h1]
    rfl
   have hx0m : Hid (T[0] ∈ T) := List.getElem_mem _
   obtain ⟨x0, hx0⟩ : ∃ x, Hid (T[0] = x) := ⟨T[0], rfl⟩
   rw [hx0.out] at c0 hx0S hx0m
   obtain ⟨⟨ka, kc, kl⟩, xr⟩ := x0
   simp only [Nat.zero_mul, Nat.add_zero] at c0
   have hkS : Hid ((S.getD (cs i) ([], [])).1 = kl) := by show _ = _; rw [hx0S.out]; rfl
   have hRGk := hid (hRGi.out i hlt)
   rw [hkS.out] at hRGk
   have hklb : kl.length + gs.length ≤ 3000000000000 := by
    have hci := hcij.out
    have := hkl'.out S[cs i] (List.getElem_mem (by omega))
    have e2 : S.getD (cs i) ([], []) = S[cs i] := by rw [List.getD_eq_getElem?_getD, List.getElem?_eq_getElem (by omega)]; rfl
    rw [← e2, hkS.out] at this
    exact this
   obtain ⟨zl, hzl⟩ : ∃ z, Hid (kl ++ gs.map (tv i) = z) := ⟨_, rfl⟩
   rw [hzl.out] at hRGk
   have cTd : Hid (∀ W', Kp [] wr W' → Calls Tryz.prog 143 #[.slice ka kl.length kc, .slice a k' c, .slice ga gs.length gc] W' (NewR zl W')) := fun W' k => by
    rw [← hzl.out]
    have ck := CK.ofKp k
    refine cTold ka kc kl a k' c ga gc gs (tv i) W' (((HR.out.2 _ hx0m.out).k).ck ck (by simp)) (ckSee ck hgr.out (by simp)) hklb (fun ag hag W'' k2 => ?_)
    have ck2 := CK.ofKp (k.trans k2 (by simp))
    have h1 := HTE.out i hlt ag hag W'' a c (T.take k') (seeTakeM (ckSee ck2 HR.out.1 (by simp)) k') (fun x hx => (HR.out.2 x (List.mem_of_mem_take hx)).ck ck2 (by simp)) (by rw [List.map_take, hTS.out, hk'.out])
    rw [List.length_take, hTl, Nat.min_eq_left hkn] at h1
    exact h1
   have kD : Kp [] wr w3.drew := K3.out.drew
   refine wpIn_region_any (by kernel_rfl) ?_
   change wpAnyIn _ _ _ _ _ _ _ _ _ w3.drew
   generalize w3.drew = wd at *
   have KD := hid kD
   have c0d := kpAt kD c0
   have c3d := kpAt kD c3r
   subst ea
   clear c0 c3r kD
   refine tkI (v := ?_) 0 rfl rfl (by kernel_rfl) (fun _ _ _ h => h) ⟨Or.inl ⟨by rfl, ?_⟩, fun _ => rfl⟩ ?_
   rotate_left
   ·intro w; go_simp <;> with_reducible rfl
   try simp only [Act.put, lz]
   refine tkI (v := ?_) 1 rfl rfl (by kernel_rfl) (fun _ _ _ h => h) ⟨Or.inl ⟨by rfl, ?_⟩, fun _ => rfl⟩ ?_
   rotate_left
   ·intro w; go_simp <;> with_reducible rfl
   try simp only [Act.put, lz]
   refine tkI (v := ?_) 2 rfl rfl (by kernel_rfl) (fun _ _ _ h => h) ⟨Or.inl ⟨by rfl, ?_⟩, fun _ => rfl⟩ ?_
   rotate_left
   ·intro w; go_simp <;> with_reducible rfl
   try simp only [Act.put, lz]
   refine tkI (v := ?_) 3 rfl rfl (by kernel_rfl) (fun _ _ _ h => h) ⟨Or.inl ⟨by rfl, ?_⟩, fun _ => rfl⟩ ?_
   rotate_left
   ·intro w; go_simp <;> with_reducible rfl
   try simp only [Act.put, lz]
   refine tkI (v := ?_) 5 rfl rfl (by kernel_rfl) (fun _ _ _ h => h) ⟨Or.inl ⟨by rfl, ?_⟩, fun _ => rfl⟩ ?_
   rotate_left
   ·intro w; go_simp <;> with_reducible rfl
   try simp only [Act.put, lz]
   refine tkI (v := ?_) 6 rfl rfl (by kernel_rfl) (fun _ _ _ h => h) ⟨Or.inl ⟨by rfl, ?_⟩, fun _ => rfl⟩ ?_
   rotate_left
   ·intro w; go_simp <;> with_reducible rfl
   try simp only [Act.put, lz]
   refine tkI (v := ?_) 7 rfl rfl (by kernel_rfl) (fun _ _ _ h => h) ⟨Or.inl ⟨by rfl, ?_⟩, fun _ => rfl⟩ ?_
   rotate_left
   ·intro w; go_simp <;> with_reducible rfl
   try simp only [Act.put, lz]
   refine wpAnyIn_ready (rs := [4, 8]) (by kernel_rfl) (by simp) ?_
   refine AllReadyIn.cons rfl (fun K hK => ?_) (AllReadyIn.cons rfl (fun K hK => ?_) AllReadyIn.nil)
   ·go_simp
    refine hK _ _ ?_
    clear hK K
    try simp only [Act.put, lz]
    refine rdI 8 (by kernel_rfl) rfl fun K hK => ?_
    go_simp
    refine hK _ _ ?_
    clear hK K
    try simp only [Act.put, lz]
    refine rdI 9 (by kernel_rfl) rfl fun K hK => ?_
    go_simp
    refine ⟨trivial, fun h => (by cases h), (callsIn_wide.2 (cTd.out _ KD.out)).mono ?_⟩
    rintro e Wz ⟨za, zc, rfl, hzrow, kz, hzb⟩
    refine hK _ _ ?_
    clear hK K
    try simp only [Act.put, lz]
    have kWz := hid (KD.out.trans kz (by simp))
    have hzl2 := rowLies hzrow
    have hzb2 : ∀ j ∈ blk za, wr.heap.size ≤ j := fun j hj => by have := hzb j hj; have := KD.out.size; omega
    have hJz : J ⟨true, B0, [], jsM, i, some ⟨za, zc, zl⟩⟩ Wz := hT _ _ _ _ hJi ⟨TurnR.ofKp0 kWz.out, fun _ => ⟨rfl, rfl, fun q hq => .inl hq⟩, fun e => (by cases e), fun j hj => .inl hj, rfl, .inr ⟨_, rfl, hRGk.out, hzl2, fun _ => ⟨hzrow, fun j hj => ⟨hzb2 j hj, fun hm => by have := hjM.out j hm; have := hkB.out.1; have := hzb2 j hj; omega, by simp⟩⟩⟩⟩
    obtain ⟨fn, tmps, assign, body, hyl5, hR⟩ := hY _ ⟨za, zc, zl⟩ Wz hJz rfl
    have hR' := hid hR
    have hgo : Hid (∀ A3, KeepR ⟨true, B0, [], jsM, i, some ⟨za, zc, zl⟩⟩ Wz A3 → KeepB jsM W2 A3) := fun A3 hk3 => hkB.out.trans ((KeepB.ofKp kWz.out (by simp)).trans hk3.js)
    dsimp only [encR] at hyl5
    clear hR hJz hzl2 hzrow kz hzb hzb2 cTd
    refine rdI 10 (by kernel_rfl) rfl fun K hK => ?_
    go_simp
    refine ⟨fun h => (by cases h), hR'.out.mono ?_⟩
    rintro e A3 (⟨rfl, hJ3, hk3⟩ | ⟨rfl, hJ3, hk3⟩)
    ·have HG := hid (hgo.out A3 hk3)
     have hJ4 : J ⟨true, B0, [], jsM, i + 1, none⟩ A3 := hJ3
     clear hgo hR' hyl5 hJ3 hk3
     refine hK _ _ ?_
     clear hK K
     try simp only [Act.put, lz]
     refine rdI 11 (by kernel_rfl) rfl fun K hK => ?_
     go_simp
     refine hK _ _ ?_
     clear hK K
     try simp only [Act.put, lz]
     refine wpAnyIn_done (by kernel_rfl) ?_ _
     gi_wp2_with fail
     refine ⟨⟨i + 1, _, _, _, by omega, rfl, ?_, by omega, by omega, ⟨?_, fun k hk => HS.out.2 k (by split at hk <;> simpa [blk] using hk)⟩, hJ4, HG⟩, by simp [lenS]; omega⟩
     ·have := hk'.out; have := hn'.out; show _ = _; omega
     ·split
      ·have := hk'.out; have := hn'.out; have := hcij.out; exact .inl (List.drop_eq_nil_of_le (by rw [hLl'.out]; omega))
      ·have h1 := seeDropM HS.out.1 k'
       rw [List.drop_drop, show cs i + k' = cs (i + 1) by have := hk'.out; have := hcij.out; omega] at h1
       simpa [Addr.add, show ¬ k' * 2 = 0 by omega, show ¬ k' = 0 by omega] using h1
    ·have hJ4 := hid hJ3
     clear hgo hR' hyl5 hJ3 hk3
     refine hK _ _ ?_
     clear hK K
     try simp only [Act.put, lz]
     refine rdI 11 (by kernel_rfl) rfl fun K hK => ?_
     go_simp
     refine hK _ _ ?_
     clear hK K
     try simp only [Act.put, lz]
     refine wpAnyIn_done (by kernel_rfl) ?_ _
     gi_wp2_with fail
     refine bodyPost_ret (results_none rfl _ _ _) rfl ?_
     exact ⟨⟨_, rfl⟩, .inr ⟨_, rfl, hJ4.out⟩⟩
   ·go_simp
    refine hK _ _ ?_
    clear hK K
    try simp only [Act.put, lz]
    refine rdI 4 (by kernel_rfl) rfl fun K hK => ?_
    go_simp
    refine hK _ _ ?_
    clear hK K
    try simp only [Act.put, lz]
    refine rdI 9 (by kernel_rfl) rfl fun K hK => ?_
    go_simp
    refine ⟨trivial, fun h => (by cases h), (callsIn_wide.2 (cTd.out _ KD.out)).mono ?_⟩
    rintro e Wz ⟨za, zc, rfl, hzrow, kz, hzb⟩
    refine hK _ _ ?_
    clear hK K
    try simp only [Act.put, lz]
    have kWz := hid (KD.out.trans kz (by simp))
    have hzl2 := rowLies hzrow
    have hzb2 : ∀ j ∈ blk za, wr.heap.size ≤ j := fun j hj => by have := hzb j hj; have := KD.out.size; omega
    have hJz : J ⟨true, B0, [], jsM, i, some ⟨za, zc, zl⟩⟩ Wz := hT _ _ _ _ hJi ⟨TurnR.ofKp0 kWz.out, fun _ => ⟨rfl, rfl, fun q hq => .inl hq⟩, fun e => (by cases e), fun j hj => .inl hj, rfl, .inr ⟨_, rfl, hRGk.out, hzl2, fun _ => ⟨hzrow, fun j hj => ⟨hzb2 j hj, fun hm => by have := hjM.out j hm; have := hkB.out.1; have := hzb2 j hj; omega, by simp⟩⟩⟩⟩
    obtain ⟨fn, tmps, assign, body, hyl5, hR⟩ := hY _ ⟨za, zc, zl⟩ Wz hJz rfl
    have hR' := hid hR
    have hgo : Hid (∀ A3, KeepR ⟨true, B0, [], jsM, i, some ⟨za, zc, zl⟩⟩ Wz A3 → KeepB jsM W2 A3) := fun A3 hk3 => hkB.out.trans ((KeepB.ofKp kWz.out (by simp)).trans hk3.js)
    dsimp only [encR] at hyl5
    clear hR hJz hzl2 hzrow kz hzb hzb2 cTd
    refine rdI 10 (by kernel_rfl) rfl fun K hK => ?_
    go_simp
    refine ⟨fun h => (by cases h), hR'.out.mono ?_⟩
    rintro e A3 (⟨rfl, hJ3, hk3⟩ | ⟨rfl, hJ3, hk3⟩)
    ·have HG := hid (hgo.out A3 hk3)
     have hJ4 : J ⟨true, B0, [], jsM, i + 1, none⟩ A3 := hJ3
     clear hgo hR' hyl5 hJ3 hk3
     refine hK _ _ ?_
     clear hK K
     try simp only [Act.put, lz]
     refine rdI 11 (by kernel_rfl) rfl fun K hK => ?_
     go_simp
     refine hK _ _ ?_
     clear hK K
     try simp only [Act.put, lz]
     refine wpAnyIn_done (by kernel_rfl) ?_ _
     gi_wp2_with fail
     refine ⟨⟨i + 1, _, _, _, by omega, rfl, ?_, by omega, by omega, ⟨?_, fun k hk => HS.out.2 k (by split at hk <;> simpa [blk] using hk)⟩, hJ4, HG⟩, by simp [lenS]; omega⟩
     ·have := hk'.out; have := hn'.out; show _ = _; omega
     ·split
      ·have := hk'.out; have := hn'.out; have := hcij.out; exact .inl (List.drop_eq_nil_of_le (by rw [hLl'.out]; omega))
      ·have h1 := seeDropM HS.out.1 k'
       rw [List.drop_drop, show cs i + k' = cs (i + 1) by have := hk'.out; have := hcij.out; omega] at h1
       simpa [Addr.add, show ¬ k' * 2 = 0 by omega, show ¬ k' = 0 by omega] using h1
    ·have hJ4 := hid hJ3
     clear hgo hR' hyl5 hJ3 hk3
     refine hK _ _ ?_
     clear hK K
     try simp only [Act.put, lz]
     refine rdI 11 (by kernel_rfl) rfl fun K hK => ?_
     go_simp
     refine hK _ _ ?_
     clear hK K
     try simp only [Act.put, lz]
     refine wpAnyIn_done (by kernel_rfl) ?_ _
     gi_wp2_with fail
     refine bodyPost_ret (results_none rfl _ _ _) rfl ?_
     exact ⟨⟨_, rfl⟩, .inr ⟨_, rfl, hJ4.out⟩⟩
  ·have hie : i = m := by omega
   have hn0 : n' = 0 := by have := hn'.out; rw [hie, hcm] at this; omega
   have dj1 : ¬ (0 : Int) < (n' : Int) := by omega
   have dj2 : decide ((0 : Int) < (n' : Int)) = false := by simp; omega
   have hie' := hid hie
   subst hn0
   clear hie
   gi_wp2_with fail
   go_end0
   exact ⟨⟨_, rfl⟩, .inl ⟨_, ⟨rfl, hie'.out, rfl⟩, hJi⟩⟩
end Go.Proofs.YtcgkkofmnajedaaGreatDoor
end

section
namespace Go.Proofs.YtcgkkofmnajedaaGreatDoor
open Go.RowKit Go.Hay
set_option linter.unusedVariables false
set_option linter.unusedSimpArgs false
structure MI (v2 : Value) (q2 q3 ly : Nat) (X : World → Prop) (W : World) : Prop where
 c2 : W.cell? ⟨q2, 0, none⟩ = some v2
 c3 : W.cell? ⟨q3, 0, none⟩ = some (.func (.yield ly) #[] #[])
 x : X W
theorem MI.ck {v2 : Value} {q2 q3 ly : Nat} {X : World → Prop} {Xj : List Nat} (hX : ∀ A B, X A → CK (fun k => k ∈ Xj) A B → X B) {A B : World} (h : MI v2 q2 q3 ly X A) (k : CK (fun k => k ∈ q2 :: q3 :: Xj) A B) : MI v2 q2 q3 ly X B :=
 ⟨(k.2 ⟨q2, 0, none⟩ _ (by simp) h.c2).1, (k.2 ⟨q3, 0, none⟩ _ (by simp) h.c3).1, hX A B h.x (k.mono fun j hj => by simp [hj])⟩
theorem relStep {RL RJ : List (List Val)} {f : List Val → List (List Val)} {i k : Nat} {x : List Val} (h : RJ.drop i = (RL.drop k).flatMap f) (hx : RL[k]? = some x) : RJ.drop i = f x ++ (RL.drop (k + 1)).flatMap f := by
 obtain ⟨hk, e⟩ := List.getElem?_eq_some_iff.1 hx
 rw [h, List.drop_eq_getElem_cons hk, e, List.flatMap_cons]
theorem relOne {RJ : List (List Val)} {i : Nat} {z : List Val} {l : List (List Val)} (h : RJ.drop i = [z] ++ l) : RJ[i]? = some z ∧ RJ.drop (i + 1) = l ∧ i + 1 ≤ RJ.length := by
 have h0 : RJ[i]? = some z := by
  have := congrArg (fun z => z[0]?) h
  simpa [List.getElem?_drop] using this
 refine ⟨h0, ?_, (List.getElem?_eq_some_iff.1 h0).1⟩
 have := congrArg (List.drop 1) h
 simpa [List.drop_drop] using this
def CB (P : Nat → Prop) (X Y : World) : Prop := X.heap.size ≤ Y.heap.size ∧ ∀ (k : Nat) (o : Obj), P k → X.heap[k]? = some o → o.isCells = true → Y.heap[k]? = some o
theorem CB.mono {P Q : Nat → Prop} {X Y : World} (h : CB P X Y) (hq : ∀ k, Q k → P k) : CB Q X Y := ⟨h.1, fun k o hk => h.2 k o (hq k hk)⟩
theorem CB.ck {P : Nat → Prop} {X Y : World} (h : CB P X Y) : CK P X Y := CK.ofBlock h.1 fun k hk hl => by
 have e : X.heap[k]? = some X.heap[k] := by simp [hl]
 cases hc : (X.heap[k]).isCells with
 | true => exact .inl ((h.2 k _ hk e hc).trans e.symm)
 | false => exact .inr ⟨_, e, hc⟩
theorem CB.ofKp {S : List Nat} {X Y : World} (h : Kp S X Y) : CB (fun k => k ∉ S) X Y := ⟨h.size, fun k o hk ho _ => (h.block k (Array.getElem?_eq_some_iff.1 ho).1 hk).trans ho⟩
theorem CB.ofTurn {B0 : Nat} {qs : List Nat} {X Y : World} (h : TurnR B0 qs X Y) : CB (fun k => k ∉ qs) X Y := ⟨h.size, fun k o hk ho hc => by
 rcases h.block k (Array.getElem?_eq_some_iff.1 ho).1 with e | e | ⟨_, o', e, f⟩
 ·exact e.trans ho
 ·exact absurd e hk
 ·rw [ho] at e
  cases e
  rw [hc] at f
  cases f⟩
theorem CB.ofGrown {X Y : World} {row : Option Nat} (h : X.grownBy Y row) (hr : ∀ r, row = some r → ∃ o : Obj, X.heap[r]? = some o ∧ o.isCells = false) : CB (fun _ => True) X Y := ⟨h.size, fun k o _ ho hc => by
 by_cases e : row = some k
 ·obtain ⟨o', e', f⟩ := hr k e
  rw [ho] at e'
  cases e'
  rw [hc] at f
  cases f
 ·exact (h.block k (Array.getElem?_eq_some_iff.1 ho).1 (fun e' => e e'.symm)).trans ho⟩
theorem CB.ofKeepB {js : List Nat} {X Y : World} (h : KeepB js X Y) : CB (fun k => k ∈ js) X Y := ⟨h.1, fun k o hk ho _ => h.2 k hk o ho⟩
structure LiJ (J : Sr → World → Prop) (RL : List (List Val)) (M : Nat → World → Prop) (Mj : List Nat) (w3 : World) (q4 : Nat) (sl : Sr) (W : World) (js qs : List Nat) (i : Nat) : Prop where
 j : J ⟨true, w3.heap.size, qs, js, i, none⟩ W
 sub : ∀ j ∈ sl.js, j ∈ js
 mj : ∀ j ∈ Mj, j ∈ js
 qsub : ∀ q ∈ sl.qs, q ∈ qs
 qq : q4 ∈ qs
 m : M sl.i W
 rel : i = sl.i
 size : w3.heap.size ≤ W.heap.size
 mde : sl.made = true → w3.heap.size + 2 ≤ sl.B0 ∧ ∀ q ∈ sl.qs, w3.heap.size + 2 ≤ q
 lj : ∀ j ∈ sl.js, j ≠ w3.heap.size ∧ j ≠ w3.heap.size + 1
 lq : ∀ j ∈ sl.js, j ≠ q4
 pend : ∀ x, sl.p = some x → RL[sl.i]? = some x.l ∧ x.lies W
 jl : ∀ j ∈ js, j < W.heap.size
 ql : ∀ q ∈ qs, q < W.heap.size
def LiG (J : Sr → World → Prop) (RL : List (List Val)) (M : Nat → World → Prop) (Mj : List Nat) (w3 : World) (q4 : Nat) (sl : Sr) (W : World) : Prop := ∃ js qs i, LiJ J RL M Mj w3 q4 sl W js qs i
section
variable {J : Sr → World → Prop} {fr : Bool} {RL R : List (List Val)} {M : Nat → World → Prop} {Mj : List Nat} {w3 : World} {q4 : Nat}
theorem LiG.own (hT : ∀ s s' A B, J s A → StepR true R s s' A B → J s' B) (hM : ∀ n X Y, M n X → CB (fun k => k ∈ Mj) X Y → M n Y) : OwnFrom w3.heap.size (LiG J RL M Mj w3 q4) := fun sl X Y row ⟨js, qs, i, h⟩ hg hr => by
 have ck := CK.ofGrown hg (fun r e => (hr r e).2)
 exact ⟨js, qs, i, hT _ _ _ _ h.j (StepR.same rfl rfl (TurnR.ofGrown hg (fun r e => hr r e))), h.sub, h.mj, h.qsub, h.qq, hM _ _ _ h.m ((CB.ofGrown hg (fun r e => (hr r e).2)).mono fun _ _ => trivial), h.rel, Nat.le_trans h.size hg.size, h.mde, h.lj, h.lq, fun x hx => ⟨(h.pend x hx).1, (h.pend x hx).2.ck ck (fun _ _ => trivial)⟩, fun j hj => Nat.lt_of_lt_of_le (h.jl j hj) hg.size, fun j hj => Nat.lt_of_lt_of_le (h.ql j hj) hg.size⟩
theorem LiG.step (hT : ∀ s s' A B, J s A → StepR true R s s' A B → J s' B) (hM : ∀ n X Y, M n X → CB (fun k => k ∈ Mj) X Y → M n Y) (hMj : ∀ j ∈ Mj, j < w3.heap.size) (hq4 : q4 < w3.heap.size) {sl sl' : Sr} {A B : World} (hz : w3.heap.size + 2 ≤ A.heap.size) (h : LiG J RL M Mj w3 q4 sl A) (ht : StepR fr RL sl sl' A B) : LiG J RL M Mj w3 q4 sl' B := by
 obtain ⟨js, qs, i, h⟩ := h
 have hmd : sl'.made = true ∧ w3.heap.size + 2 ≤ sl'.B0 ∧ ∀ q ∈ sl'.qs, w3.heap.size + 2 ≤ q := by
  cases hs : sl.made with
  | true =>
   obtain ⟨e0, e1, e2⟩ := ht.stays hs
   obtain ⟨h1, h2⟩ := h.mde hs
   exact ⟨e0, by omega, fun q hq => by rcases e2 q hq with e | e; exact h2 q e; omega⟩
  | false =>
   obtain ⟨e0, e1, e2⟩ := ht.makes hs
   exact ⟨e0, by omega, fun q hq => by have := (e2 q hq).1; omega⟩
 have hqn : ∀ q ∈ sl'.qs, q ∈ qs ∨ (A.heap.size ≤ q ∧ q < B.heap.size) := fun q hq => by
  cases hs : sl.made with
  | true => rcases (ht.stays hs).2.2 q hq with e | e; exact .inl (h.qsub q e); exact .inr e
  | false => exact .inr ((ht.makes hs).2.2 q hq)
 have ck := CK.ofTurn ht.turn
 have hJ : J ⟨true, w3.heap.size, qs ++ sl'.qs, js ++ sl'.js, i, none⟩ B := hT _ _ _ _ h.j ⟨ht.turn.mono (by show w3.heap.size ≤ _; omega) (fun q hq => List.mem_append.2 (.inr hq)), fun _ => ⟨rfl, rfl, fun q hq => by
  rcases List.mem_append.1 hq with e | e
  ·exact .inl e
  ·exact hqn q e⟩, fun e => (by cases e), fun j hj => by
  rcases List.mem_append.1 hj with e | e
  ·exact .inl e
  ·rcases ht.js j e with e2 | e2
   ·exact .inl (h.sub j e2)
   ·exact .inr e2, rfl, .inl rfl⟩
 refine ⟨_, _, i, hJ, fun j hj => List.mem_append.2 (.inr hj), fun j hj => List.mem_append.2 (.inl (h.mj j hj)), fun q hq => List.mem_append.2 (.inr hq), List.mem_append.2 (.inl h.qq), (congrArg (fun n => M n B) ht.on).mpr (hM _ _ _ h.m ((CB.ofTurn ht.turn).mono fun k hk hm => ?_)), by rw [ht.on]; exact h.rel, Nat.le_trans h.size ht.turn.size, fun _ => hmd.2, fun j hj => ?_, fun j hj => ?_, fun x hx => ?_, fun j hj => ?_, fun q hq => ?_⟩
 ·have := hMj k hk
  have := hmd.2.2 k hm
  omega
 ·rcases ht.js j hj with e | e
  ·exact h.lj j e
  ·omega
 ·rcases ht.js j hj with e | e
  ·exact h.lq j e
  ·omega
 ·rcases ht.given with e | ⟨y, e, hy, hl, _⟩
  ·rw [e] at hx; cases hx
  ·rw [e] at hx
   cases hx
   exact ⟨by rw [ht.on]; exact hy, hl⟩
 ·rcases List.mem_append.1 hj with e | e
  ·exact Nat.lt_of_lt_of_le (h.jl j e) ht.turn.size
  ·rcases ht.js j e with e2 | e2
   ·exact Nat.lt_of_lt_of_le (h.jl j (h.sub j e2)) ht.turn.size
   ·exact e2.2
 ·rcases List.mem_append.1 hq with e | e
  ·exact Nat.lt_of_lt_of_le (h.ql q e) ht.turn.size
  ·rcases hqn q e with e2 | e2
   ·exact Nat.lt_of_lt_of_le (h.ql q e2) ht.turn.size
   ·exact e2.2
theorem LiG.keeps {sl sl' : Sr} {A B : World} (h : LiG J RL M Mj w3 q4 sl A) (ht : StepR fr RL sl sl' A B) (k : Nat) (o : Obj) (hk : k = w3.heap.size ∨ k = w3.heap.size + 1) (ho : A.heap[k]? = some o) : B.heap[k]? = some o := by
 obtain ⟨js, qs, i, h⟩ := h
 exact (ht.low h.mde (Array.getElem?_eq_some_iff.1 ho).1 (by omega)).trans ho
theorem LiG.recs {sl : Sr} {W : World} (h : LiG J RL M Mj w3 q4 sl W) (o' : Obj) : KeepR sl W (W.putObj (w3.heap.size + 1) o') := by
 obtain ⟨js, qs, i, h⟩ := h
 exact recsOf h.mde h.lj o'
theorem LiG.recs' {sl : Sr} {x : Vs} {W : World} (h : LiG J RL M Mj w3 q4 (sl.nx x) W) (o' : Obj) : KeepR sl W (W.putObj (w3.heap.size + 1) o') := by
 obtain ⟨js, qs, i, h⟩ := h
 exact recsOf (sl := sl) h.mde h.lj o'
theorem LiJ.keepR {sl : Sr} {W W' : World} {js qs : List Nat} {i : Nat} (h : LiJ J RL M Mj w3 q4 sl W js qs i) {s : Sr} (hs : s.made = true) (hb : s.B0 = w3.heap.size) (hj : ∀ j ∈ js, j ∈ s.js) (k : KeepR s W W') : KeepR sl W W' ∧ KeepsFrom w3.heap.size W W' ∧ KeepB Mj W W' :=
 ⟨⟨⟨k.js.1, fun j hj' o ho => k.js.2 j (hj j (h.sub j hj')) o ho⟩, fun hm j o hj' ho hc => k.recs hs j o (by rw [hb]; have := (h.mde hm).1; omega) ho hc⟩, ⟨k.js.1, fun j o hj' ho hc => k.recs hs j o (by rw [hb]; exact hj') ho hc⟩, ⟨k.js.1, fun j hj' o ho => k.js.2 j (hj j (h.mj j hj')) o ho⟩⟩
end
def JxD (J Jx : Sr → World → Prop) (n : Nat) (s : Sr) (W : World) : Prop := Jx s W ∨ (s.i = n ∧ s.p = none ∧ J s W)
theorem JxD.step {J Jx : Sr → World → Prop} {R : List (List Val)} (hT : ∀ s s' A B, J s A → StepR true R s s' A B → J s' B) (hX : ∀ s A B, Jx s A → StepRX s A B → Jx s B) {n : Nat} : ∀ s A B, JxD J Jx n s A → StepRX s A B → JxD J Jx n s B := fun s A B h ht => by
 rcases h with h | ⟨h1, h2, h3⟩
 ·exact .inl (hX _ _ _ h ht)
 ·exact .inr ⟨h1, h2, hT _ _ _ _ h3 (StepR.same ht.1 h2 ht.2)⟩
structure ML (many : Int) (q1 q3 q4 ly : Nat) (n : Nat) (W : World) : Prop where
 c1 : W.cell? ⟨q1, 0, none⟩ = some (.int .i64 many)
 c3 : W.cell? ⟨q3, 0, none⟩ = some (.func (.yield ly) #[] #[])
 c4 : W.cell? ⟨q4, 0, none⟩ = some (.int .i64 (n : Int))
 f4 : W.frozen? ⟨q4, 0, none⟩ = false
 n4 : ∀ k, 1 ≤ k → W.cell? ⟨q4, k, none⟩ = none
 lt : (n : Int) < many
theorem cellFar (w : World) (q k : Nat) (v : Value) (h : 1 ≤ k) : (w.setCell ⟨q, 0, none⟩ v).cell? ⟨q, k, none⟩ = w.cell? ⟨q, k, none⟩ := by
 rw [World.cell?_setCell_other]
 intro e
 have := congrArg Addr.off e
 simp at this
 omega
theorem noneCB {P : Nat → Prop} {A B : World} {q : Nat} {v : Value} (k : CB P A B) (hq : P q) (hc : A.cell? ⟨q, 0, none⟩ = some v) (h : ∀ k, 1 ≤ k → A.cell? ⟨q, k, none⟩ = none) : ∀ k, 1 ≤ k → B.cell? ⟨q, k, none⟩ = none := fun j hj => by
 have hl := World.block_lt_of_cell? _ _ hc
 have e : A.heap[q]? = some A.heap[q] := by simp [show q < A.heap.size from hl]
 have hcel := cellCel hc
 rw [show A.heap[(⟨q, 0, none⟩ : Addr).block]? = A.heap[q]? from rfl, e] at hcel
 have e2 := (k.2 q _ hq e (by simpa using hcel)).trans e.symm
 exact (World.cell?_of_block (a := ⟨q, j, none⟩) e2).trans (h j hj)
theorem ML.ck {many : Int} {q1 q3 q4 ly n : Nat} {A B : World} (h : ML many q1 q3 q4 ly n A) (k : CB (fun k => k ∈ [q1, q3, q4]) A B) : ML many q1 q3 q4 ly n B :=
 ⟨(k.ck.2 ⟨q1, 0, none⟩ _ (by simp) h.c1).1, (k.ck.2 ⟨q3, 0, none⟩ _ (by simp) h.c3).1, (k.ck.2 ⟨q4, 0, none⟩ _ (by simp) h.c4).1, ((k.ck.2 ⟨q4, 0, none⟩ _ (by simp) h.c4).2).trans h.f4, noneCB k (by simp) h.c4 h.n4, h.lt⟩
end Go.Proofs.YtcgkkofmnajedaaGreatDoor
end

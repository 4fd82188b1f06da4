/- PlanLimits (second form): an answer with a limit is the beginning of the answer without one, where what is given is of bulk at most 1048576. -/
import Derived.Test.YtcgkkofmnajedaaDoorB15
import Derived.Test.YtcgkkofmnajedaaDoorB1
import Derived.Test.YtcgkkofmnajedaaDoorB12
import Derived.Test.YtcgkkofmnajedaaDoorB6
import Derived.SizedLaws
import Derived.JoinedCond
import Derived.Deep.CondSized
section
namespace Go.Proofs.YtcgkkofmnajedaaDoor
open Go.ChangeShapes Go.WideShapes Go.ChangeAt Go.RowKit Go.Hay
set_option linter.unusedVariables false
set_option linter.unusedSimpArgs false

theorem cellsYI : Tryd.prog.cellsOf 3 = 1 := by kernel_rfl
theorem bytesYI : Tryd.prog.bytesOf 3 = 8 := by kernel_rfl
section
variable {H : Type} {enc : TypeId × Value → H} {W : World} {a : Option Addr} {len cap : Nat} {d : DataW H} {ps : List MemPlace}
theorem openVlists (h : DataW.Trod enc Tryd.prog W 0 (fun _ => true) true 28 (.slice a len cap) d ps) :
  ∃ l : List Vs, len = l.length ∧ VsE.See W a l ∧ (∀ y ∈ l, y.lies W) ∧ l.length ≤ cap ∧ cap ≤ maxLen ∧ (a = none → cap = 0) ∧ (Fit 28 d → cap * 24 ≤ 140737488351232 ∧ ∀ y ∈ l, y.c * 40 ≤ 140737488351232) ∧ (l.map fun y => y.l.length).sum ≤ Rows.uptoBulk d ∧ cap + 1 ≤ Rows.uptoBulk d :=
 openEls VsE Tryd.underlying28 cellsVs 24 bytesVs (fun y => y.lies W) (fun y => y.c * 40 ≤ 140737488351232) (fun y => y.l.length) (fun fuel cs x hx hcs => by
  obtain ⟨v, rfl⟩ : ∃ v, cs = [v] := by
   match cs, hcs with
   | [v], _ => exact ⟨v, rfl⟩
  have hv : ∃ a len cap, v = .slice a len cap := by
   rcases Go.Deep.open_slice Tryd.underlying46 hx with ⟨hcs, _⟩ | ⟨a, len, cap, _, _, _, _, hcs, _⟩
   ·exact ⟨none, 0, 0, by simpa using hcs⟩
   ·exact ⟨_, _, _, by simpa using hcs⟩
  obtain ⟨a, len, cap, rfl⟩ := hv
  have ht : DataW.Trod enc Tryd.prog W 0 (fun _ => true) true 46 (.slice a len cap) x.1 x.2 := ⟨fuel, hx⟩
  obtain ⟨l, rfl, hs, _, hl, hm, hn, hf, _, hb⟩ := openXv ht
  exact ⟨⟨a, cap, l⟩, ⟨seeV.1 hs, hl, hm, hn⟩, rfl, fun h => (hf h).1, by simp only; omega⟩) h
theorem openInts (h : DataW.Trod enc Tryd.prog W 0 (fun _ => true) true 23 (.slice a len cap) d ps) :
  ∃ l : List Int, len = l.length ∧ IntE.See W a l ∧ (∀ y ∈ l, True) ∧ l.length ≤ cap ∧ cap ≤ maxLen ∧ (a = none → cap = 0) ∧ (Fit 23 d → cap * 8 ≤ 140737488351232 ∧ ∀ y ∈ l, True) ∧ (l.map fun _ => 0).sum ≤ Rows.uptoBulk d ∧ cap + 1 ≤ Rows.uptoBulk d :=
 openEls IntE Tryd.underlying23 cellsYI 8 bytesYI (fun _ => True) (fun _ => True) (fun _ => 0) (fun fuel cs x hx hcs => by
  obtain ⟨v, rfl⟩ : ∃ v, cs = [v] := by
   match cs, hcs with
   | [v], _ => exact ⟨v, rfl⟩
  obtain ⟨n, e, _, _⟩ := DataW.trod_int Tryd.underlying3 hx
  simp at e
  subst e
  exact ⟨n, trivial, rfl, fun _ => trivial, Nat.zero_le _⟩) h
theorem lenOfSum {L : List Vs} {n : Nat} (h : (L.map fun y => y.l.length).sum ≤ n) : ∀ x ∈ L, x.l.length ≤ n := by
 induction L with
 | nil => simp
 | cons y L ih =>
  simp at h
  intro x hx
  rcases List.mem_cons.1 hx with rfl | hx
  ·omega
  ·exact ih (by omega) x hx
end
end Go.Proofs.YtcgkkofmnajedaaDoor
end

section
namespace Go.Proofs.YtcgkkofmnajedaaDoor
open Go.ChangeShapes Go.WideShapes Go.ChangeAt Go.RowKit Go.Hay
set_option linter.unusedVariables false
set_option linter.unusedSimpArgs false

theorem cellsU1 : Tryd.prog.cellsOf 3 = 1 := by kernel_rfl
theorem cellsU2 : Tryd.prog.cellsOf 4 = 1 := by kernel_rfl
theorem cellsU3 : Tryd.prog.cellsOf 108 = 2 := by kernel_rfl
theorem bytesU3 : Tryd.prog.bytesOf 108 = 16 := by kernel_rfl
theorem cellsU4 : Tryd.prog.cellsOf 97 = 2 := by kernel_rfl
theorem bytesU4 : Tryd.prog.bytesOf 97 = 16 := by kernel_rfl
section
variable {H : Type} {enc : TypeId × Value → H} {W : World} {a : Option Addr} {len cap : Nat} {d : DataW H} {ps : List MemPlace}
theorem openOrders (h : DataW.Trod enc Tryd.prog W 0 (fun _ => true) true 25 (.slice a len cap) d ps) :
  ∃ l : List (Int × Bool), len = l.length ∧ OrE.See W a l ∧ (∀ y ∈ l, True) ∧ l.length ≤ cap ∧ cap ≤ maxLen ∧ (a = none → cap = 0) ∧ (Fit 25 d → cap * 16 ≤ 140737488351232 ∧ ∀ y ∈ l, True) ∧ (l.map fun _ => 0).sum ≤ Rows.uptoBulk d ∧ cap + 1 ≤ Rows.uptoBulk d :=
 openEls OrE Tryd.underlying25 cellsU3 16 bytesU3 (fun _ => True) (fun _ => True) (fun _ => 0) (fun fuel cs x hx hcs => by
  match cs, hcs with
  | [c0, c1], _ =>
   obtain ⟨xs, n, _, rfl, _, hlen, hf⟩ := DataW.trod_struct Tryd.underlying108 hx
   match xs, hlen with
   | [y0, y1], _ =>
    have h0 := hf 0 _ rfl
    have h1 := hf 1 _ rfl
    simp [cellsU1, cellsU2] at h0 h1
    obtain ⟨k, e0, _, w0⟩ := DataW.trod_int Tryd.underlying3 h0
    obtain ⟨b, e1, _⟩ := DataW.trod_bool Tryd.underlying4 h1
    simp at e0 e1
    subst e0 e1
    exact ⟨(k, b), trivial, rfl, fun _ => trivial, Nat.zero_le _⟩) h
theorem openAggs (h : DataW.Trod enc Tryd.prog W 0 (fun _ => true) true 24 (.slice a len cap) d ps) :
  ∃ l : List (Int × Int), len = l.length ∧ AgE.See W a l ∧ (∀ y ∈ l, True) ∧ l.length ≤ cap ∧ cap ≤ maxLen ∧ (a = none → cap = 0) ∧ (Fit 24 d → cap * 16 ≤ 140737488351232 ∧ ∀ y ∈ l, True) ∧ (l.map fun _ => 0).sum ≤ Rows.uptoBulk d ∧ cap + 1 ≤ Rows.uptoBulk d :=
 openEls AgE Tryd.underlying24 cellsU4 16 bytesU4 (fun _ => True) (fun _ => True) (fun _ => 0) (fun fuel cs x hx hcs => by
  match cs, hcs with
  | [c0, c1], _ =>
   obtain ⟨xs, n, _, rfl, _, hlen, hf⟩ := DataW.trod_struct Tryd.underlying97 hx
   match xs, hlen with
   | [y0, y1], _ =>
    have h0 := hf 0 _ rfl
    have h1 := hf 1 _ rfl
    simp [cellsU1, cellsU2] at h0 h1
    obtain ⟨k, e0, _, w0⟩ := DataW.trod_int Tryd.underlying3 h0
    obtain ⟨b, e1, _, w1⟩ := DataW.trod_int Tryd.underlying3 h1
    simp at e0 e1
    subst e0 e1
    exact ⟨(k, b), trivial, rfl, fun _ => trivial, Nat.zero_le _⟩) h
end
end Go.Proofs.YtcgkkofmnajedaaDoor
end

section
namespace Go.Proofs.YtcgkkofmnajedaaDoor
open Go.ChangeShapes Go.WideShapes Go.ChangeAt Go.RowKit Go.Hay
set_option linter.unusedVariables false
set_option linter.unusedSimpArgs false

theorem cellsQ0 : Tryd.prog.cellsOf 27 = 12 := by kernel_rfl
theorem cellsQ1 : Tryd.prog.cellsOf 22 = 1 := by kernel_rfl
theorem cellsQ2 : Tryd.prog.cellsOf 23 = 1 := by kernel_rfl
theorem cellsQ3 : Tryd.prog.cellsOf 24 = 1 := by kernel_rfl
theorem cellsQ4 : Tryd.prog.cellsOf 25 = 1 := by kernel_rfl
section
variable {H : Type} {enc : TypeId × Value → H} {W : World} {a : Option Addr} {len cap : Nat} {d : DataW H} {ps : List MemPlace}
theorem openIntQ {fuel : Nat} {v : Value} {x : DataW H × List MemPlace} (h : DataW.trod enc Tryd.prog W 0 (fun _ => true) true fuel 3 [v] = some x) : ∃ n : Int, v = .int .i64 n ∧ -9223372036854775808 ≤ n ∧ n ≤ 9223372036854775807 := by
 obtain ⟨n, e0, _, w0⟩ := DataW.trod_int Tryd.underlying3 h
 have hb := bounds_i64 w0
 exact ⟨n, by simpa using e0, hb.1, hb.2⟩
theorem openBoolQ {fuel : Nat} {v : Value} {x : DataW H × List MemPlace} (h : DataW.trod enc Tryd.prog W 0 (fun _ => true) true fuel 4 [v] = some x) : ∃ n : Bool, v = .bool n := by
 obtain ⟨n, e0, _⟩ := DataW.trod_bool Tryd.underlying4 h
 exact ⟨n, by simpa using e0⟩
theorem slQ {t : TypeId} {e : TypeId} (ht : Tryd.prog.underlying t = some (.slice e)) {fuel : Nat} {v : Value} {x : DataW H × List MemPlace} (h : DataW.trod enc Tryd.prog W 0 (fun _ => true) true fuel t [v] = some x) : ∃ a len cap, v = .slice a len cap := by
 rcases Go.Deep.open_slice ht h with ⟨hcs, _⟩ | ⟨a, len, cap, _, _, _, _, hcs, _⟩
 ·exact ⟨none, 0, 0, by simpa using hcs⟩
 ·exact ⟨_, _, _, by simpa using hcs⟩
/-- A query as it lies, and how much its slices hold. -/
structure Qy.lies (W : World) (q : Qy) (n : Nat) : Prop where
 wh : TmE.See W q.wh.a q.wh.l
 cl : IntE.See W q.cl.a q.cl.l
 by_ : IntE.See W q.by_.a q.by_.l
 ag : AgE.See W q.ag.a q.ag.l
 od : OrE.See W q.od.a q.od.l
 nil : (q.wh.a = none → q.wh.c = 0) ∧ (q.cl.a = none → q.cl.c = 0) ∧ (q.by_.a = none → q.by_.c = 0) ∧ (q.ag.a = none → q.ag.c = 0) ∧ (q.od.a = none → q.od.c = 0)
 few : q.wh.l.length ≤ n ∧ q.cl.l.length ≤ n ∧ q.by_.l.length ≤ n ∧ q.ag.l.length ≤ n ∧ q.od.l.length ≤ n
 lim : -9223372036854775808 ≤ q.lim ∧ q.lim ≤ 9223372036854775807
theorem Qy.lies.ok {q : Qy} {n : Nat} (h : q.lies W n) (hn : n ≤ 1048576) : q.ok W := by
 obtain ⟨f1, f2, f3, f4, f5⟩ := h.few
 obtain ⟨n1, n2, n3, n4, n5⟩ := h.nil
 exact ⟨⟨h.wh, n1, by omega⟩, ⟨h.cl, n2, by omega⟩, ⟨h.by_, n3, by omega⟩, ⟨h.ag, n4, by omega⟩, ⟨h.od, n5, by omega⟩, h.lim.2⟩
set_option maxRecDepth 100000 in
theorem openQuery {base : Nat} {v : Value} (hv : Value.okWide Tryd.prog W .any base 27 v) (h : DataW.Trod enc Tryd.prog W 0 (fun _ => true) true 27 v d ps) : ∃ q : Qy, v = .agg q.cs.toArray ∧ q.lies W (Rows.uptoBulk d) := by
 obtain ⟨cs, rfl, hsz⟩ := okWide_struct Tryd.underlying27 hv
 rw [cellsQ0] at hsz
 obtain ⟨fuel, hf⟩ := h
 obtain ⟨l⟩ := cs
 match l, hsz, hf with
 | [c0, c1, c2, c3, c4, c5, c6, c7, c8, c9, c10, c11], _, hf =>
  have hf' : DataW.trod enc Tryd.prog W 0 (fun _ => true) true fuel 27 [c0, c1, c2, c3, c4, c5, c6, c7, c8, c9, c10, c11] = some (d, ps) := hf
  obtain ⟨xs, n, _, ed, _, hlen, hff⟩ := DataW.trod_struct Tryd.underlying27 hf'
  match xs, hlen with
  | [y0, y1, y2, y3, y4, y5, y6, y7, y8, y9, y10, y11], _ =>
   have h0 := hff 0 _ rfl
   have h1 := hff 1 _ rfl
   have h2 := hff 2 _ rfl
   have h3 := hff 3 _ rfl
   have h4 := hff 4 _ rfl
   have h5 := hff 5 _ rfl
   have h6 := hff 6 _ rfl
   have h7 := hff 7 _ rfl
   have h8 := hff 8 _ rfl
   have h9 := hff 9 _ rfl
   have h10 := hff 10 _ rfl
   have h11 := hff 11 _ rfl
   simp [cellsU1, cellsU2, cellsQ1, cellsQ2, cellsQ3, cellsQ4] at h0 h1 h2 h3 h4 h5 h6 h7 h8 h9 h10 h11
   obtain ⟨tb, e0, _⟩ := openIntQ h0
   obtain ⟨jn, e1⟩ := openBoolQ h1
   obtain ⟨rt, e2, _⟩ := openIntQ h2
   obtain ⟨lo, e3, _⟩ := openIntQ h3
   obtain ⟨ro, e4, _⟩ := openIntQ h4
   obtain ⟨wa, wn, wc, rfl⟩ := slQ Tryd.underlying22 h5
   obtain ⟨ca, cn, cc, rfl⟩ := slQ Tryd.underlying23 h6
   obtain ⟨gr, e7⟩ := openBoolQ h7
   obtain ⟨ya, yn, yc, rfl⟩ := slQ Tryd.underlying23 h8
   obtain ⟨ga, gn, gc, rfl⟩ := slQ Tryd.underlying24 h9
   obtain ⟨oa, on, oc, rfl⟩ := slQ Tryd.underlying25 h10
   obtain ⟨lim, e11, hb⟩ := openIntQ h11
   obtain ⟨wl, rfl, ws, _, wl1, wl2, wl3, _, _, wl4⟩ := openTerms ⟨_, h5⟩
   obtain ⟨cl, rfl, cs', _, cl1, cl2, cl3, _, _, cl4⟩ := openInts ⟨_, h6⟩
   obtain ⟨yl, rfl, ys, _, yl1, yl2, yl3, _, _, yl4⟩ := openInts ⟨_, h8⟩
   obtain ⟨gl, rfl, gs, _, gl1, gl2, gl3, _, _, gl4⟩ := openAggs ⟨_, h9⟩
   obtain ⟨ol, rfl, os, _, ol1, ol2, ol3, _, _, ol4⟩ := openOrders ⟨_, h10⟩
   subst e0 e1 e2 e3 e4 e7 e11
   have hd : Rows.uptoBulk y5.1 ≤ Rows.uptoBulk d ∧ Rows.uptoBulk y6.1 ≤ Rows.uptoBulk d ∧ Rows.uptoBulk y8.1 ≤ Rows.uptoBulk d ∧ Rows.uptoBulk y9.1 ≤ Rows.uptoBulk d ∧ Rows.uptoBulk y10.1 ≤ Rows.uptoBulk d := by
    have e := (Prod.mk.inj ed).1
    rw [e]
    simp only [Rows.uptoBulk, List.map_cons, List.map_nil, Rows.uptoBulkAll]
    omega
   refine ⟨⟨tb, jn, rt, lo, ro, ⟨wa, wc, wl⟩, ⟨ca, cc, cl⟩, gr, ⟨ya, yc, yl⟩, ⟨ga, gc, gl⟩, ⟨oa, oc, ol⟩, lim⟩, rfl, ⟨ws, cs', ys, gs, os, ⟨wl3, cl3, yl3, gl3, ol3⟩, ?_, hb⟩⟩
   dsimp only
   omega
end
end Go.Proofs.YtcgkkofmnajedaaDoor
end

section
namespace Go.Proofs.YtcgkkofmnajedaaDoor
open Go.RowKit Go.Hay
attribute [local go_sem] Oper.semAt_some
set_option linter.unusedVariables false
set_option linter.unusedSimpArgs false

theorem ansV_lim (q : Qy) (RL RR : List (List Val)) : ansV q RL RR = (ansV { q with lim := 0 } RL RR).map (limV q.lim) := by
 unfold ansV
 have e1 : baseV { q with lim := 0 } RL RR = baseV q RL RR := rfl
 rw [e1]
 generalize (baseV q RL RR).flatMap (filtF q.wh.l) = S
 by_cases h : q.jn = true ∧ 65536 < (baseV q RL RR).length
 ·simp only [h, and_self, if_true]; rfl
 ·rw [if_neg h, if_neg h]
  unfold ansS
  have e2 : shapeV { q with lim := 0 } S = shapeV q S := rfl
  rw [e2]
  generalize shapeV q S = sh
  dsimp only
  split
  ·rfl
  ·simp [limV]
set_option maxHeartbeats 16000000 in
set_option maxRecDepth 100000 in
theorem limitsWalk (q : Qy) (a : Option Addr) (ca : Nat) (L : List Vs) (b : Option Addr) (cb : Nat) (M : List Vs) (w : World) (hq : q.ok w) (hlm : -9223372036854775808 ≤ q.lim) (hA : Asks w) (hs : VsE.See w a L) (hx : ∀ x ∈ L, x.lies w) (ht : VsE.See w b M) (hy : ∀ x ∈ M, x.lies w) (hl : L.length ≤ 1048576) (hm : M.length ≤ 1048576) (hr : ∀ x ∈ L, x.l.length ≤ 1048576) (hrm : ∀ x ∈ M, x.l.length ≤ 1048576) :
  Calls Tryd.prog 3 #[.agg q.cs.toArray, .slice a L.length ca, .slice b M.length cb] w fun e w' => e = .returned (.bool true) ∧ Below w.heap.size w w' := by
 obtain ⟨P, hP⟩ : ∃ P, Hid (L.length * M.length = P) := ⟨_, hid rfl⟩
 have hPm : ((L.length : Int) * (M.length : Int)) = (P : Int) := by rw [← hP.out]; simp
 have hPb : P ≤ 1048576 * 1048576 := by rw [← hP.out]; exact Nat.mul_le_mul hl hm
 have hPw : IntKind.i64.wrap (P : Int) = (P : Int) := by rw [IntKind.wrap_i64]; omega
 have cAl : Hid (∀ W, Kp [] w W → Calls Tryd.prog 4 #[] W fun e w' => e = .returned (.bool true) ∧ Kp [] W w') := hid fun W k => cAlive16 W (hA.kept k (by simp))
 obtain ⟨w1, hw1, k1, b1⟩ : ∃ x, w.alloc (.cells q.cs.toArray 27) = x ∧ Kp [] w x ∧ Bn x w.heap.size q.cs := ⟨_, rfl, (Kp.refl _ _).alloc _, Bn.new w _ _⟩
 obtain ⟨q2, hq2⟩ : ∃ x, Hid (w.heap.size = x) := ⟨_, hid rfl⟩
 rw [hq2.out] at b1
 by_cases hbig : P ≤ 1000000
 ·obtain ⟨S, hS⟩ : ∃ S, Hid (ansV { q with lim := 0 } (L.map (·.l)) (M.map (·.l)) = S) := ⟨_, hid rfl⟩
  have hB : ∀ q : Qy, q.jn = true → L.length * M.length ≤ 1048576 := fun _ _ => by rw [hP.out]; omega
  have c1 : Hid (∀ W, Kp [] w W → Calls Tryd.prog 5 #[.agg q.cs.toArray, .slice a L.length ca, .slice b M.length cb] W (AnsP (S.map (limV q.lim)) W)) := hid fun W k => by
   have h := cAnswer q a ca L b cb M W (hq.kept k) (hA.kept k (by simp)) (ckSee (CK.ofKp k) hs (by simp)) (fun x h => (hx x h).ck (CK.ofKp k) (by simp)) (ckSee (CK.ofKp k) ht (by simp)) (fun x h => (hy x h).ck (CK.ofKp k) (by simp)) hl hm hr hrm (hB q)
   rw [ansV_lim, hS.out] at h
   exact h
  have c2 : Hid (∀ W, Kp [] w W → Calls Tryd.prog 5 #[.agg (Qy.cs { q with lim := 0 }).toArray, .slice a L.length ca, .slice b M.length cb] W (AnsP S W)) := hid fun W k => by
   have h := cAnswer { q with lim := 0 } a ca L b cb M W (⟨(hq.kept k).wh, (hq.kept k).cl, (hq.kept k).by_, (hq.kept k).ag, (hq.kept k).od, by simp⟩) (hA.kept k (by simp)) (ckSee (CK.ofKp k) hs (by simp)) (fun x h => (hx x h).ck (CK.ofKp k) (by simp)) (ckSee (CK.ofKp k) ht (by simp)) (fun x h => (hy x h).ck (CK.ofKp k) (by simp)) hl hm hr hrm (hB _)
   rw [hS.out] at h
   exact h
  have HSb : Hid (∀ R, S = some R → R.length ≤ 4096) := hid fun R hR => by
   rw [← hS.out] at hR
   unfold ansV ansS at hR
   dsimp only at hR
   split at hR
   ·cases hR
   ·split at hR
    ·cases hR
    ·cases hR
     rename_i h
     simp only [limV]
     rw [if_neg (by omega)]
     have := (srtO_perm q.od.l (shapeV { q with lim := 0 } ((baseV { q with lim := 0 } (L.map (·.l)) (M.map (·.l))).flatMap (filtF q.wh.l)))).length_eq
     omega
  have hlim : q.lim ≤ 9223372036854775807 := hq.lim
  have K1 := hid k1
  have HB1 := hid b1
  clear hq hA hs hx ht hy hr hrm hB k1
  obtain ⟨tb, jn, rt, lo, ro, ⟨wa, wc, wl⟩, ⟨ca', cc, cl⟩, gr, ⟨ya, yc, yl⟩, ⟨ga, gc, gl⟩, ⟨oa, oc, ol⟩, lim⟩ := q
  simp only [Qy.cs, Sl.v] at hw1 c1 c2 HB1 b1 ⊢
  dsimp only at hlim hlm c1 c2
  have s0 := b1.get 0 _ rfl; have s1 := b1.get 1 _ rfl; have s2 := b1.get 2 _ rfl; have s3 := b1.get 3 _ rfl; have s4 := b1.get 4 _ rfl; have s5 := b1.get 5 _ rfl; have s6 := b1.get 6 _ rfl; have s7 := b1.get 7 _ rfl; have s8 := b1.get 8 _ rfl; have s9 := b1.get 9 _ rfl; have s10 := b1.get 10 _ rfl; have s11 := b1.get 11 _ rfl
  have cA := hid (c1.out w1 K1.out)
  have t1 : ¬ (P : Int) > 1000000 := by omega
  have t2 : decide ((P : Int) > 1000000) = false := by simp; omega
  have hq2' := hq2.out
  clear b1
  go_enter Tryd.func3, Tryd.ntmps3
  go_wp2_with fail
  refine cA.out.mono ?_
  intro e w2 hP1
  have HC2 := hid c2.out
  clear cA c1 c2
  cases S with
  | none =>
   obtain ⟨rfl, k2⟩ := hP1
   have K2 := hid (K1.out.trans k2 (by simp))
   have b2 := HB1.out.kept k2
   have u11 := b2.get 11 _ rfl
   have f11 := b2.free 11
   obtain ⟨w3, hw3⟩ : ∃ x, w2.setCell ⟨q2, 11, none⟩ (.int .i64 0) = x := ⟨_, rfl⟩
   have k3 : Kp [] w w3 := by rw [← hw3]; exact K2.out.setCell (.inr (by have := hq2.out; dsimp only; omega)) _
   have b3 : Bn w3 q2 [.int .i64 tb, .bool jn, .int .i64 rt, .int .i64 lo, .int .i64 ro, .slice wa wl.length wc, .slice ca' cl.length cc, .bool gr, .slice ya yl.length yc, .slice ga gl.length gc, .slice oa ol.length oc, .int .i64 0] := by rw [← hw3]; exact b2.set 11 (by simp) (.int .i64 0)
   have v0 := b3.get 0 _ rfl; have v1 := b3.get 1 _ rfl; have v2 := b3.get 2 _ rfl; have v3 := b3.get 3 _ rfl; have v4 := b3.get 4 _ rfl; have v5 := b3.get 5 _ rfl; have v6 := b3.get 6 _ rfl; have v7 := b3.get 7 _ rfl; have v8 := b3.get 8 _ rfl; have v9 := b3.get 9 _ rfl; have v10 := b3.get 10 _ rfl; have v11 := b3.get 11 _ rfl
   have K3 := hid k3
   have cB := hid (HC2.out w3 k3)
   clear b2 b3 k2 k3 s0 s1 s2 s3 s4 s5 s6 s7 s8 s9 s10 s11
   go_wp2_with fail
   refine cB.out.mono ?_
   rintro e w4 ⟨rfl, k4⟩
   have K4 := hid (K3.out.trans k4 (by simp))
   have cL := hid (cAl.out w4 K4.out)
   clear cB k4 v0 v1 v2 v3 v4 v5 v6 v7 v8 v9 v10 v11 u11 f11
   go_wp2_with fail
   refine cL.out.mono ?_
   rintro e w5 ⟨rfl, k5⟩
   have K5 := hid (K4.out.trans k5 (by simp))
   have cS := hid (cSameAll none none 0 0 [] [] w5 (.inl rfl) (.inl rfl) (by simp) (by simp) rfl (by simp))
   have HT := sliceToVs none 0 0 0 w5 (Nat.le_refl _)
   clear cL k5
   by_cases hz : lim ≤ 0
   ·have z1 : decide (lim ≤ 0) = true := by simpa using hz
    go_wp2_with fail
    refine cS.out.mono ?_
    rintro e w6 ⟨rfl, k6⟩
    have K6 := hid (K5.out.trans k6 (by simp))
    clear cS k6
    go_wp2_with fail
    go_ret
    exact ⟨rfl, K6.out.below⟩
   ·have z1 : decide (lim ≤ 0) = false := by simpa using hz
    have z2 : decide (lim > 0) = true := by simp; omega
    go_wp2_with fail
    refine cS.out.mono ?_
    rintro e w6 ⟨rfl, k6⟩
    have K6 := hid (K5.out.trans k6 (by simp))
    clear cS k6
    go_wp2_with fail
    go_ret
    exact ⟨rfl, K6.out.below⟩
  | some R =>
   obtain ⟨ra, rc, L1, rfl, lo1, hL1, k2⟩ := hP1
   have hRb := HSb.out R rfl
   have hL1b : L1.length ≤ 4096 := by
    have := congrArg List.length hL1
    rw [List.length_map] at this
    unfold limV at this
    split at this
    ·rw [List.length_take] at this; omega
    ·omega
   have K2 := hid (K1.out.trans k2 (by simp))
   have b2 := HB1.out.kept k2
   have u11 := b2.get 11 _ rfl
   have f11 := b2.free 11
   obtain ⟨w3, hw3⟩ : ∃ x, w2.setCell ⟨q2, 11, none⟩ (.int .i64 0) = x := ⟨_, rfl⟩
   have k3 : Kp [] w w3 := by rw [← hw3]; exact K2.out.setCell (.inr (by have := hq2.out; dsimp only; omega)) _
   have k23 : Kp [q2] w2 w3 := by rw [← hw3]; exact (Kp.refl _ _).setCell (.inl (by simp)) _
   have hsz : q2 < w1.heap.size := World.block_lt_of_cell? _ _ s0
   have lo3 : Lot w1.heap.size ra rc L1 w3 := lo1.ck (CK.ofKp k23) (fun k hk => by have := lo1.own k hk; simp; omega) (fun x hx k hk => by have := (lo1.rows x hx k hk).1; simp; omega)
   have b3 : Bn w3 q2 [.int .i64 tb, .bool jn, .int .i64 rt, .int .i64 lo, .int .i64 ro, .slice wa wl.length wc, .slice ca' cl.length cc, .bool gr, .slice ya yl.length yc, .slice ga gl.length gc, .slice oa ol.length oc, .int .i64 0] := by rw [← hw3]; exact b2.set 11 (by simp) (.int .i64 0)
   have v0 := b3.get 0 _ rfl; have v1 := b3.get 1 _ rfl; have v2 := b3.get 2 _ rfl; have v3 := b3.get 3 _ rfl; have v4 := b3.get 4 _ rfl; have v5 := b3.get 5 _ rfl; have v6 := b3.get 6 _ rfl; have v7 := b3.get 7 _ rfl; have v8 := b3.get 8 _ rfl; have v9 := b3.get 9 _ rfl; have v10 := b3.get 10 _ rfl; have v11 := b3.get 11 _ rfl
   have K3 := hid k3
   have H1 := hid (And.intro lo3 hL1)
   have hL1b' := hid hL1b
   have cB := hid (HC2.out w3 k3)
   clear b2 b3 k2 k3 s0 s1 s2 s3 s4 s5 s6 s7 s8 s9 s10 s11 lo1 lo3 hL1 k23 hsz hL1b
   go_wp2_with fail
   refine cB.out.mono ?_
   rintro e w4 ⟨rb, rd, M1, rfl, lo4, hM1, k4⟩
   have K4 := hid (K3.out.trans k4 (by simp))
   have cL := hid (cAl.out w4 K4.out)
   have H2 := hid (And.intro (H1.out.1.ck (CK.ofKp k4) (by simp) (by simp)) (And.intro lo4 hM1))
   have hMl' : Hid (M1.length = R.length) := hid (by rw [← hM1]; simp)
   clear cB k4 v0 v1 v2 v3 v4 v5 v6 v7 v8 v9 v10 v11 u11 f11 lo4 hM1
   go_wp2_with fail
   refine cL.out.mono ?_
   rintro e w5 ⟨rfl, k5⟩
   have K5 := hid (K4.out.trans k5 (by simp))
   have l1 := H2.out.1.ck (CK.ofKp k5) (by simp) (by simp)
   have l2 := H2.out.2.1.ck (CK.ofKp k5) (by simp) (by simp)
   obtain ⟨_, _, e1, see1, _⟩ := l1.row.see
   cases e1
   obtain ⟨_, _, e2, see2, _, hc2, hm2, _⟩ := l2.row.see
   cases e2
   unfold maxLen at hm2
   have hMR := H2.out.2.2
   have hLR := H1.out.2
   have hLb := hL1b'.out
   have HSm : Hid (∀ k : Nat, k ≤ M1.length → limV lim R = R.take k → Calls Tryd.prog 6 #[.slice ra L1.length rc, .slice rb (k : Nat) rd] w5 fun e w' => e = .returned (.bool true) ∧ Kp [] w5 w') := hid fun k hk hR => by
    have h := cSameAll ra rb rc rd L1 (M1.take k) w5 see1 (seeTakeVs see2 k) l1.lies (fun x hx => l2.lies x (List.mem_of_mem_take hx)) (by rw [hLR, List.map_take, hMR]; exact hR) (by omega)
    rw [List.length_take, Nat.min_eq_left hk] at h
    exact h
   have K5' := K5
   have i1 : (0 : Int) ≤ (M1.length : Int) := by omega
   have i2 : (M1.length : Int) ≤ (rd : Int) := by omega
   have hl0 : limV lim R = if 0 < lim then R.take lim.toNat else R := rfl
   have hl0' := hid hl0
   clear cL k5 see1 see2 l1 l2 H1 H2 hL1b' hMR hLR hl0
   by_cases hz : lim ≤ 0
   ·have z1 : decide (lim ≤ 0) = true := by simpa using hz
    have hTk := sliceToVs rb M1.length rd M1.length w5 hc2
    have cS := hid (HSm.out M1.length (Nat.le_refl _) (by rw [hl0'.out, if_neg (by omega), hMl'.out, List.take_length]))
    go_wp2_with fail
    refine cS.out.mono ?_
    rintro e w6 ⟨rfl, k6⟩
    have K6 := hid (K5.out.trans k6 (by simp))
    clear cS k6 hTk
    go_wp2_with fail
    go_ret
    exact ⟨rfl, K6.out.below⟩
   ·by_cases hz2 : lim > (M1.length : Int)
    ·have z1 : decide (lim ≤ 0) = false := by simpa using hz
     have z2 : decide (lim > (M1.length : Int)) = true := by simpa using hz2
     have hTk := sliceToVs rb M1.length rd M1.length w5 hc2
     have cS := hid (HSm.out M1.length (Nat.le_refl _) (by rw [hl0'.out, if_pos (by omega), hMl'.out, List.take_length, List.take_of_length_le (by have := hMl'.out; omega)]))
     go_wp2_with fail
     refine cS.out.mono ?_
     rintro e w6 ⟨rfl, k6⟩
     have K6 := hid (K5.out.trans k6 (by simp))
     clear cS k6 hTk
     go_wp2_with fail
     go_ret
     exact ⟨rfl, K6.out.below⟩
    ·obtain ⟨k, rfl⟩ : ∃ k : Nat, lim = (k : Int) := ⟨lim.toNat, by omega⟩
     have z1 : decide ((k : Int) ≤ 0) = false := by simpa using hz
     have z2 : decide ((k : Int) > (M1.length : Int)) = false := by simpa using hz2
     have j1 : (0 : Int) ≤ (k : Int) := by omega
     have j2 : (k : Int) ≤ (rd : Int) := by omega
     have hTk := sliceToVs rb M1.length rd k w5 (by omega)
     have cS := hid (HSm.out k (by omega) (by rw [hl0'.out, if_pos (by omega), Int.toNat_natCast]))
     go_wp2_with fail
     refine cS.out.mono ?_
     rintro e w6 ⟨rfl, k6⟩
     have K6 := hid (K5.out.trans k6 (by simp))
     clear cS k6 hTk
     go_wp2_with fail
     go_ret
     exact ⟨rfl, K6.out.below⟩
 ·have t1 : (P : Int) > 1000000 := by omega
  have t2 : decide ((P : Int) > 1000000) = true := by simp; omega
  have cL := hid (cAl.out w1 k1)
  have K1 := hid k1
  obtain ⟨tb, jn, rt, lo, ro, ⟨wa, wc, wl⟩, ⟨ca', cc, cl⟩, gr, ⟨ya, yc, yl⟩, ⟨ga, gc, gl⟩, ⟨oa, oc, ol⟩, lim⟩ := q
  simp only [Qy.cs, Sl.v] at hw1 ⊢
  clear hq hA hs hx ht hy hr hrm b1 k1
  go_enter Tryd.func3, Tryd.ntmps3
  go_wp2_with fail
  refine cL.out.mono ?_
  rintro e w2 ⟨rfl, k2⟩
  have K2 := hid (K1.out.trans k2 (by simp))
  clear cL k2
  go_wp2_with fail
  go_ret
  exact ⟨rfl, K2.out.below⟩
end Go.Proofs.YtcgkkofmnajedaaDoor
end

section
namespace Go.Proofs.YtcgkkofmnajedaaDoor
open Go.ChangeShapes Go.WideShapes Go.ChangeAt Go.RowKit Go.Hay
set_option linter.unusedVariables false

set_option maxRecDepth 100000 in
theorem planLimitsContract (H : Type) (enc : TypeId × Value → H) (W : World) (base : Nat) (args : Array Value) (ds gs : List (DataW H)) (before : List MemPlace)
  (hval : ∀ (j : Nat) t v, Tryd.f3.params[j]? = some t → args[j]? = some v → Value.okWide Tryd.prog W .any base t v)
  (hW : DataW.Whole enc Tryd.prog Tryd.f3.params.toList Rows.planLimitsSpec.vars false W args.toList ds gs before)
  (hsz : (DataW.weightsEach Tryd.prog (Tryd.f3.params.toList ++ (Rows.OpenSpec.upto Rows.planLimitsSpec).bare.plain.varTypes Tryd.prog) (ds ++ gs)).all (· ≤ reachBytes) = true)
  (hk : Rows.uptoSmall H (ds ++ gs) = true)
  (hL : laidMetH Tryd.prog Rows.planLimitsUptoRow.laid W) :
  Calls Tryd.prog 3 args W fun e W' => ∃ v, e = .returned v ∧ Rows.planLimitsSpec.post enc Tryd.prog Tryd.f3 false true false false W args v W' := by
 have hW' := hW
 obtain ⟨p, q, hA0, hV, rfl, hfz, hnd⟩ := hW
 have hA : DataW.TrodAll enc Tryd.prog W 0 (fun _ => true) true Tryd.f3.params.toList args.toList ds p := hA0
 rw [Tryd.params3] at hA hval hsz
 obtain ⟨v0, vs0, d0, ds0, p0, q0, hargs, rfl, rfl, h0, r0⟩ := trodAll_cons hA
 obtain ⟨v1, vs1, d1, ds1, p1, q1, rfl, rfl, rfl, h1, r1⟩ := trodAll_cons r0
 obtain ⟨v2, vs2, d2, ds2, p2, q2, rfl, rfl, rfl, h2, r2⟩ := trodAll_cons r1
 obtain ⟨rfl, rfl, rfl⟩ := trodAll_nil r2
 obtain rfl : args = #[v0, v1, v2] := by cases args; simp_all
 obtain ⟨rfl, rfl⟩ := trodVars_none hV
 have k0 := h0
 have lt0 : ∀ x ∈ p0, x.block < W.heap.size := by obtain ⟨m, hm⟩ := k0; exact DataW.trod_lt m _ _ _ hm
 obtain ⟨x0, rfl, ok0⟩ := openQuery (hval 0 27 v0 rfl rfl) h0
 obtain ⟨a1, len1, cap1, rfl⟩ := okWide_slice Tryd.underlying28 (hval 1 28 v1 rfl rfl)
 have k1 := h1
 have lt1 : ∀ x ∈ p1, x.block < W.heap.size := by obtain ⟨m, hm⟩ := k1; exact DataW.trod_lt m _ _ _ hm
 obtain ⟨l1, rfl, hs1, hok1, hl1, hm1, hn1, hfit1, hbk1, hcp1⟩ := openVlists h1
 obtain ⟨hc1, hq1⟩ := hfit1 (List.all_eq_true.2 fun x hx => List.all_eq_true.1 hsz x (by simp [DataW.weightsEach]; first | exact .inl hx | exact .inr hx | exact .inr (.inl hx) | exact .inr (.inr hx) | exact hx))
 obtain ⟨a2, len2, cap2, rfl⟩ := okWide_slice Tryd.underlying28 (hval 2 28 v2 rfl rfl)
 have k2 := h2
 have lt2 : ∀ x ∈ p2, x.block < W.heap.size := by obtain ⟨m, hm⟩ := k2; exact DataW.trod_lt m _ _ _ hm
 obtain ⟨l2, rfl, hs2, hok2, hl2, hm2, hn2, hfit2, hbk2, hcp2⟩ := openVlists h2
 obtain ⟨hc2, hq2⟩ := hfit2 (List.all_eq_true.2 fun x hx => List.all_eq_true.1 hsz x (by simp [DataW.weightsEach]; first | exact .inl hx | exact .inr hx | exact .inr (.inl hx) | exact .inr (.inr hx) | exact hx))
 have hbk := of_decide_eq_true hk
 simp only [List.append_nil, Rows.uptoBulkAll] at hbk
 clear hA0
 refine (limitsWalk x0 a1 cap1 l1 a2 cap2 l2 W (ok0.ok (by omega)) ok0.lim.1 (table hL) hs1 hok1 hs2 hok2 (by omega) (by omega) (fun x h => by have := lenOfSum hbk1 x h; omega) (fun x h => by have := lenOfSum hbk2 x h; omega)).mono fun e W' ⟨he, bel⟩ => ?_
 subst he
 exact ⟨_, rfl, _, _, _, [], _, [], hW', trodAll_mk1 (shut_bool Tryd.underlying4 _), (trodAll_cons_mk (Below.trod Tryd.laidOut (by kernel_rfl) (of_decide_eq_true (by kernel_rfl)) k0 bel lt0) (trodAll_cons_mk (Below.trod Tryd.laidOut (by kernel_rfl) (of_decide_eq_true (by kernel_rfl)) k1 bel lt1) (trodAll_cons_mk (Below.trod Tryd.laidOut (by kernel_rfl) (of_decide_eq_true (by kernel_rfl)) k2 bel lt2) trodAll_mk0))), rfl, bel.frame _, fun h => by cases h⟩

set_option maxRecDepth 100000 in
theorem planLimitsLifted (os : Os) (started : os.Started) (H : Type) (enc : TypeId × Value → H) (F : Stop.Interp) :
  ReturnsInHanded {} Tryd.checked os 3 .any ((Rows.OpenSpec.upto Rows.planLimitsSpec).preRow enc Tryd.prog Tryd.f3 Rows.planLimitsUptoRow.domain false Rows.planLimitsUptoRow.laid) (((Rows.OpenSpec.upto Rows.planLimitsSpec).at F).post enc Tryd.prog Tryd.f3 false true false false) := by
 refine returnsInHanded_of_row (C := Tryd.checked) (s := Rows.OpenSpec.upto Rows.planLimitsSpec) Tryd.own started (by kernel_rfl) Tryd.func3
  (witness_row_at (enc := enc) (C := Tryd.checked) false ({ World.holding Tryd.prog os ⟨#[], #[], []⟩ with heap := (World.holding Tryd.prog os ⟨#[], #[], []⟩).heap.modify 0 fun
   | .cells _ t frozen => .cells tabCells t frozen
   | o => o }) #[.agg #[.int .i64 0, .bool false, .int .i64 0, .int .i64 0, .int .i64 0, .slice none 0 0, .slice none 0 0, .bool false, .slice none 0 0, .slice none 0 0, .slice none 0 0, .int .i64 0], .slice none 0 0, .slice none 0 0] rfl (by kernel_rfl) (by kernel_rfl) (by kernel_rfl)
   (OpenSpec.preRow_of_cond (x := ([.agg [.lit (.int .i64 0), .lit (.bool false), .lit (.int .i64 0), .lit (.int .i64 0), .lit (.int .i64 0), .nil, .nil, .lit (.bool false), .nil, .nil, .nil, .lit (.int .i64 0)], .nil, .nil], [], [])) 8 (by kernel_rfl) (by kernel_rfl) (fun k hk => by cases hk; kernel_rfl) (by kernel_rfl) (laidMet_of_run' 8 (by kernel_rfl) (by kernel_rfl)))) ?_
 intro W base args ds gs before hval hW _ hcond hsz hL _ _
 exact planLimitsContract H enc W base args ds gs before hval hW hsz (hcond _ rfl) hL

theorem planLimitsSaid : Rows.PlanLimitsUptoSaid :=
 OpenClaim.holds_of_cond 3 Tryd.f3 rfl rfl rfl rfl rfl rfl rfl ⟨rfl, rfl, rfl, rfl, rfl⟩ rfl rfl rfl rfl rfl (by kernel_rfl) Tryd.func3 (by kernel_rfl)
  (of_decide_eq_true (by kernel_rfl)) (by unfold Func.isWrapper; first | (rw [if_pos (by decide +kernel)]; kernel_rfl) | (rw [if_neg (by decide +kernel)]; exact ⟨rfl, rfl⟩))
  (fun os started H enc _ F => by rw [OpenClaim.pre_eq_preRow]; exact planLimitsLifted os started H enc F)

theorem planLimitsPlain (f : FuncId) (fn : Func) (hf : Tryd.pinned.checked.prog.funcNamed "hayloft/hayloftlaw16.PlanLimits" = some f) (hfn : Tryd.pinned.checked.prog.funcs[f]? = some fn) :
  false = Tryd.pinned.checked.prog.looks [] ∧ ∀ (j : Nat) t, fn.params[j]? = some t → Tryd.pinned.checked.prog.wantsStandIn t = false := by
 obtain rfl : f = 3 := Option.some.inj ((show Tryd.prog.funcNamed "hayloft/hayloftlaw16.PlanLimits" = some 3 by kernel_rfl).symm.trans hf) |>.symm
 obtain rfl : fn = Tryd.f3 := (Option.some.inj (Tryd.func3.symm.trans hfn)).symm
 refine ⟨by kernel_rfl, fun j t ht => ?_⟩
 rw [Tryd.params3] at ht
 have hm := Array.mem_of_getElem? ht
 have h2 : t = 27 ∨ t = 28 := by first | (simpa using hm) | (rcases (show t = 27 ∨ t = 28 ∨ t = 28 from by simpa using hm) with h | h | h <;> simp [h])
 rcases h2 with rfl | rfl
 ·exact (show Tryd.prog.wantsStandIn 27 = false by kernel_rfl)
 ·exact (show Tryd.prog.wantsStandIn 28 = false by kernel_rfl)

theorem PlanLimits_holds : Rows.PlanLimitsUptoCardSaid :=
 Claim7.holds_tied_plain_at .later [] _ _ _ _ planLimitsSaid (fun _ h => by cases h) (by kernel_rfl) (fun _ h => by cases h) planLimitsUpto_row_tie rfl ⟨rfl, rfl⟩ (by kernel_rfl) rfl planLimitsPlain (by kernel_rfl)
#print axioms PlanLimits_holds
end Go.Proofs.YtcgkkofmnajedaaDoor
end

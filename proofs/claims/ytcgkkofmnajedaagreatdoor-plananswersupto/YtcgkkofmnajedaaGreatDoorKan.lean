/- PlanAnswers (second form): every answer is the document's, and the rows stay as they are, where what is given is of bulk at most 1048576. -/
import Derived.Test.YtcgkkofmnajedaaGreatDoorB13
import Derived.Test.YtcgkkofmnajedaaGreatDoorB2
import Derived.Test.YtcgkkofmnajedaaGreatDoorB1
import Derived.Test.YtcgkkofmnajedaaGreatDoorB10
import Derived.Test.YtcgkkofmnajedaaGreatDoorB5
import Derived.Test.YtcgkkofmnajedaaGreatDoorB15
import Derived.Test.YtcgkkofmnajedaaGreatDoorB3
import Derived.SizedLaws
import Derived.JoinedCond
import Derived.Deep.CondSized
set_option maxHeartbeats 64000000
set_option maxRecDepth 100000
set_option linter.unusedVariables false
set_option linter.unusedSimpArgs false
section
namespace Go.Proofs.YtcgkkofmnajedaaGreatDoor
open Go.ChangeShapes Go.WideShapes Go.ChangeAt Go.RowKit Go.Hay
theorem cellsYI : Tryz.prog.cellsOf 3 = 1 := by kernel_rfl
theorem bytesYI : Tryz.prog.bytesOf 3 = 8 := by kernel_rfl
section
variable {H : Type} {enc : TypeId × Value → H} {W : World} {a : Option Addr} {len cap : Nat} {d : DataW H} {ps : List MemPlace}
theorem openVlists (h : DataW.Trod enc Tryz.prog W 0 (fun _ => true) true 60 (.slice a len cap) d ps) :
  ∃ l : List Vs, len = l.length ∧ VsE.See W a l ∧ (∀ y ∈ l, y.lies W) ∧ l.length ≤ cap ∧ cap ≤ maxLen ∧ (a = none → cap = 0) ∧ (Fit 60 d → cap * 24 ≤ 140737488351232 ∧ ∀ y ∈ l, y.c * 40 ≤ 140737488351232) ∧ (l.map fun y => y.l.length).sum ≤ Rows.uptoBulk d ∧ cap + 1 ≤ Rows.uptoBulk d :=
 openEls VsE Tryz.underlying60 cellsVs 24 bytesVs (fun y => y.lies W) (fun y => y.c * 40 ≤ 140737488351232) (fun y => y.l.length) (fun fuel cs x hx hcs => by
  obtain ⟨v, rfl⟩ : ∃ v, cs = [v] := by
   match cs, hcs with
   | [v], _ => exact ⟨v, rfl⟩
  have hv : ∃ a len cap, v = .slice a len cap := by
   rcases Go.Deep.open_slice Tryz.underlying61 hx with ⟨hcs, _⟩ | ⟨a, len, cap, _, _, _, _, hcs, _⟩
   ·exact ⟨none, 0, 0, by simpa using hcs⟩
   ·exact ⟨_, _, _, by simpa using hcs⟩
  obtain ⟨a, len, cap, rfl⟩ := hv;have ht : DataW.Trod enc Tryz.prog W 0 (fun _ => true) true 61 (.slice a len cap) x.1 x.2 := ⟨fuel, hx⟩
  obtain ⟨l, rfl, hs, _, hl, hm, hn, hf, _, hb⟩ := openXv ht;exact ⟨⟨a, cap, l⟩, ⟨seeV.1 hs, hl, hm, hn⟩, rfl, fun h => (hf h).1, by simp only; omega⟩) h
theorem openInts (h : DataW.Trod enc Tryz.prog W 0 (fun _ => true) true 27 (.slice a len cap) d ps) :
  ∃ l : List Int, len = l.length ∧ IntE.See W a l ∧ (∀ y ∈ l, True) ∧ l.length ≤ cap ∧ cap ≤ maxLen ∧ (a = none → cap = 0) ∧ (Fit 27 d → cap * 8 ≤ 140737488351232 ∧ ∀ y ∈ l, True) ∧ (l.map fun _ => 0).sum ≤ Rows.uptoBulk d ∧ cap + 1 ≤ Rows.uptoBulk d :=
 openEls IntE Tryz.underlying27 cellsYI 8 bytesYI (fun _ => True) (fun _ => True) (fun _ => 0) (fun fuel cs x hx hcs => by
  obtain ⟨v, rfl⟩ : ∃ v, cs = [v] := by
   match cs, hcs with
   | [v], _ => exact ⟨v, rfl⟩
  obtain ⟨n, e, _, _⟩ := DataW.trod_int Tryz.underlying3 hx;simp at e
  subst e;exact ⟨n, trivial, rfl, fun _ => trivial, Nat.zero_le _⟩) h
theorem lenOfSum {L : List Vs} {n : Nat} (h : (L.map fun y => y.l.length).sum ≤ n) : ∀ x ∈ L, x.l.length ≤ n := by
 induction L with
 | nil => simp
 | cons y L ih =>
  simp at h
  intro x hx
  rcases List.mem_cons.1 hx with rfl | hx
  ·omega
  ·exact ih (by omega) x hx
end
theorem cellsU1 : Tryz.prog.cellsOf 3 = 1 := by kernel_rfl
theorem cellsU2 : Tryz.prog.cellsOf 4 = 1 := by kernel_rfl
theorem cellsU3 : Tryz.prog.cellsOf 106 = 2 := by kernel_rfl
theorem bytesU3 : Tryz.prog.bytesOf 106 = 16 := by kernel_rfl
theorem cellsU4 : Tryz.prog.cellsOf 102 = 2 := by kernel_rfl
theorem bytesU4 : Tryz.prog.bytesOf 102 = 16 := by kernel_rfl
section
variable {H : Type} {enc : TypeId × Value → H} {W : World} {a : Option Addr} {len cap : Nat} {d : DataW H} {ps : List MemPlace}
theorem openOrders (h : DataW.Trod enc Tryz.prog W 0 (fun _ => true) true 29 (.slice a len cap) d ps) :
  ∃ l : List (Int × Bool), len = l.length ∧ OrE.See W a l ∧ (∀ y ∈ l, True) ∧ l.length ≤ cap ∧ cap ≤ maxLen ∧ (a = none → cap = 0) ∧ (Fit 29 d → cap * 16 ≤ 140737488351232 ∧ ∀ y ∈ l, True) ∧ (l.map fun _ => 0).sum ≤ Rows.uptoBulk d ∧ cap + 1 ≤ Rows.uptoBulk d :=
 openEls OrE Tryz.underlying29 cellsU3 16 bytesU3 (fun _ => True) (fun _ => True) (fun _ => 0) (fun fuel cs x hx hcs => by
  match cs, hcs with
  | [c0, c1], _ =>
   obtain ⟨xs, n, _, rfl, _, hlen, hf⟩ := DataW.trod_struct Tryz.underlying106 hx
   match xs, hlen with
   | [y0, y1], _ =>
    have h0 := hf 0 _ rfl
    have h1 := hf 1 _ rfl
    simp [cellsU1, cellsU2] at h0 h1
    obtain ⟨k, e0, _, w0⟩ := DataW.trod_int Tryz.underlying3 h0;obtain ⟨b, e1, _⟩ := DataW.trod_bool Tryz.underlying4 h1;simp at e0 e1
    subst e0 e1;exact ⟨(k, b), trivial, rfl, fun _ => trivial, Nat.zero_le _⟩) h
theorem openAggs (h : DataW.Trod enc Tryz.prog W 0 (fun _ => true) true 28 (.slice a len cap) d ps) :
  ∃ l : List (Int × Int), len = l.length ∧ AgE.See W a l ∧ (∀ y ∈ l, True) ∧ l.length ≤ cap ∧ cap ≤ maxLen ∧ (a = none → cap = 0) ∧ (Fit 28 d → cap * 16 ≤ 140737488351232 ∧ ∀ y ∈ l, True) ∧ (l.map fun _ => 0).sum ≤ Rows.uptoBulk d ∧ cap + 1 ≤ Rows.uptoBulk d :=
 openEls AgE Tryz.underlying28 cellsU4 16 bytesU4 (fun _ => True) (fun _ => True) (fun _ => 0) (fun fuel cs x hx hcs => by
  match cs, hcs with
  | [c0, c1], _ =>
   obtain ⟨xs, n, _, rfl, _, hlen, hf⟩ := DataW.trod_struct Tryz.underlying102 hx
   match xs, hlen with
   | [y0, y1], _ =>
    have h0 := hf 0 _ rfl
    have h1 := hf 1 _ rfl
    simp [cellsU1, cellsU2] at h0 h1
    obtain ⟨k, e0, _, w0⟩ := DataW.trod_int Tryz.underlying3 h0;obtain ⟨b, e1, _, w1⟩ := DataW.trod_int Tryz.underlying3 h1;simp at e0 e1
    subst e0 e1;exact ⟨(k, b), trivial, rfl, fun _ => trivial, Nat.zero_le _⟩) h
end
theorem cellsQ0 : Tryz.prog.cellsOf 31 = 12 := by kernel_rfl
theorem cellsQ1 : Tryz.prog.cellsOf 26 = 1 := by kernel_rfl
theorem cellsQ2 : Tryz.prog.cellsOf 27 = 1 := by kernel_rfl
theorem cellsQ3 : Tryz.prog.cellsOf 28 = 1 := by kernel_rfl
theorem cellsQ4 : Tryz.prog.cellsOf 29 = 1 := by kernel_rfl
section
variable {H : Type} {enc : TypeId × Value → H} {W : World} {a : Option Addr} {len cap : Nat} {d : DataW H} {ps : List MemPlace}
theorem openIntQ {fuel : Nat} {v : Value} {x : DataW H × List MemPlace} (h : DataW.trod enc Tryz.prog W 0 (fun _ => true) true fuel 3 [v] = some x) : ∃ n : Int, v = .int .i64 n ∧ -9223372036854775808 ≤ n ∧ n ≤ 9223372036854775807 := by
 obtain ⟨n, e0, _, w0⟩ := DataW.trod_int Tryz.underlying3 h;have hb := bounds_i64 w0
 exact ⟨n, by simpa using e0, hb.1, hb.2⟩
theorem openBoolQ {fuel : Nat} {v : Value} {x : DataW H × List MemPlace} (h : DataW.trod enc Tryz.prog W 0 (fun _ => true) true fuel 4 [v] = some x) : ∃ n : Bool, v = .bool n := by
 obtain ⟨n, e0, _⟩ := DataW.trod_bool Tryz.underlying4 h;exact ⟨n, by simpa using e0⟩
theorem slQ {t : TypeId} {e : TypeId} (ht : Tryz.prog.underlying t = some (.slice e)) {fuel : Nat} {v : Value} {x : DataW H × List MemPlace} (h : DataW.trod enc Tryz.prog W 0 (fun _ => true) true fuel t [v] = some x) : ∃ a len cap, v = .slice a len cap := by
 rcases Go.Deep.open_slice ht h with ⟨hcs, _⟩ | ⟨a, len, cap, _, _, _, _, hcs, _⟩
 ·exact ⟨none, 0, 0, by simpa using hcs⟩
 ·exact ⟨_, _, _, by simpa using hcs⟩
structure Qy.lies (W : World) (q : Qy) (n : Nat) : Prop where
 wh : TmE.See W q.wh.a q.wh.l
 cl : IntE.See W q.cl.a q.cl.l
 by_ : IntE.See W q.by_.a q.by_.l
 ag : AgE.See W q.ag.a q.ag.l
 od : OrE.See W q.od.a q.od.l
 nil : (q.wh.a = none → q.wh.c = 0) ∧ (q.cl.a = none → q.cl.c = 0) ∧ (q.by_.a = none → q.by_.c = 0) ∧ (q.ag.a = none → q.ag.c = 0) ∧ (q.od.a = none → q.od.c = 0)
 few : q.wh.l.length ≤ n ∧ q.cl.l.length ≤ n ∧ q.by_.l.length ≤ n ∧ q.ag.l.length ≤ n ∧ q.od.l.length ≤ n
 lim : -9223372036854775808 ≤ q.lim ∧ q.lim ≤ 9223372036854775807
theorem Qy.lies.ok {q : Qy} {n : Nat} (h : q.lies W n) (hn : n ≤ 1048576) : q.ok W := by
 obtain ⟨f1, f2, f3, f4, f5⟩ := h.few;obtain ⟨n1, n2, n3, n4, n5⟩ := h.nil;exact ⟨⟨h.wh, n1, by omega⟩, ⟨h.cl, n2, by omega⟩, ⟨h.by_, n3, by omega⟩, ⟨h.ag, n4, by omega⟩, ⟨h.od, n5, by omega⟩, h.lim.2⟩
theorem openQuery {base : Nat} {v : Value} (hv : Value.okWide Tryz.prog W .any base 31 v) (h : DataW.Trod enc Tryz.prog W 0 (fun _ => true) true 31 v d ps) : ∃ q : Qy, v = .agg q.cs.toArray ∧ q.lies W (Rows.uptoBulk d) := by
 obtain ⟨cs, rfl, hsz⟩ := okWide_struct Tryz.underlying31 hv;rw [cellsQ0] at hsz;obtain ⟨fuel, hf⟩ := h;obtain ⟨l⟩ := cs
 match l, hsz, hf with
 | [c0, c1, c2, c3, c4, c5, c6, c7, c8, c9, c10, c11], _, hf =>
  have hf' : DataW.trod enc Tryz.prog W 0 (fun _ => true) true fuel 31 [c0, c1, c2, c3, c4, c5, c6, c7, c8, c9, c10, c11] = some (d, ps) := hf
  obtain ⟨xs, n, _, ed, _, hlen, hff⟩ := DataW.trod_struct Tryz.underlying31 hf'
  match xs, hlen with
  | [y0, y1, y2, y3, y4, y5, y6, y7, y8, y9, y10, y11], _ =>
   have h0 := hff 0 _ rfl
   have h1 := hff 1 _ rfl
   have h2 := hff 2 _ rfl
   have h3 := hff 3 _ rfl
   have h4 := hff 4 _ rfl
   have h5 := hff 5 _ rfl
   have h6 := hff 6 _ rfl
   have h7 := hff 7 _ rfl
   have h8 := hff 8 _ rfl
   have h9 := hff 9 _ rfl
   have h10 := hff 10 _ rfl
   have h11 := hff 11 _ rfl
   simp [cellsU1, cellsU2, cellsQ1, cellsQ2, cellsQ3, cellsQ4] at h0 h1 h2 h3 h4 h5 h6 h7 h8 h9 h10 h11
   obtain ⟨tb, e0, _⟩ := openIntQ h0;obtain ⟨jn, e1⟩ := openBoolQ h1;obtain ⟨rt, e2, _⟩ := openIntQ h2;obtain ⟨lo, e3, _⟩ := openIntQ h3;obtain ⟨ro, e4, _⟩ := openIntQ h4;obtain ⟨wa, wn, wc, rfl⟩ := slQ Tryz.underlying26 h5;obtain ⟨ca, cn, cc, rfl⟩ := slQ Tryz.underlying27 h6;obtain ⟨gr, e7⟩ := openBoolQ h7;obtain ⟨ya, yn, yc, rfl⟩ := slQ Tryz.underlying27 h8;obtain ⟨ga, gn, gc, rfl⟩ := slQ Tryz.underlying28 h9;obtain ⟨oa, on, oc, rfl⟩ := slQ Tryz.underlying29 h10;obtain ⟨lim, e11, hb⟩ := openIntQ h11;obtain ⟨wl, rfl, ws, _, wl1, wl2, wl3, _, _, wl4⟩ := openTerms ⟨_, h5⟩;obtain ⟨cl, rfl, cs', _, cl1, cl2, cl3, _, _, cl4⟩ := openInts ⟨_, h6⟩;obtain ⟨yl, rfl, ys, _, yl1, yl2, yl3, _, _, yl4⟩ := openInts ⟨_, h8⟩;obtain ⟨gl, rfl, gs, _, gl1, gl2, gl3, _, _, gl4⟩ := openAggs ⟨_, h9⟩;obtain ⟨ol, rfl, os, _, ol1, ol2, ol3, _, _, ol4⟩ := openOrders ⟨_, h10⟩;subst e0 e1 e2 e3 e4 e7 e11
   have hd : Rows.uptoBulk y5.1 ≤ Rows.uptoBulk d ∧ Rows.uptoBulk y6.1 ≤ Rows.uptoBulk d ∧ Rows.uptoBulk y8.1 ≤ Rows.uptoBulk d ∧ Rows.uptoBulk y9.1 ≤ Rows.uptoBulk d ∧ Rows.uptoBulk y10.1 ≤ Rows.uptoBulk d := by
    have e := (Prod.mk.inj ed).1
    rw [e];simp only [Rows.uptoBulk, List.map_cons, List.map_nil, Rows.uptoBulkAll];omega
   refine ⟨⟨tb, jn, rt, lo, ro, ⟨wa, wc, wl⟩, ⟨ca, cc, cl⟩, gr, ⟨ya, yc, yl⟩, ⟨ga, gc, gl⟩, ⟨oa, oc, ol⟩, lim⟩, rfl, ⟨ws, cs', ys, gs, os, ⟨wl3, cl3, yl3, gl3, ol3⟩, ?_, hb⟩⟩;dsimp only;omega
end
end Go.Proofs.YtcgkkofmnajedaaGreatDoor
end

section
namespace Go.Proofs.YtcgkkofmnajedaaGreatDoor
open Go.RowKit Go.Hay
attribute [local go_sem] Oper.semAt_some
theorem AnsP.one {S : Option (List (List Val))} {w w' : World} {e : Ending} (h : AnsP S w e w') : ∃ la lc Lr, e = .returned (.tuple #[.slice la (Lr : List Vs).length lc, .int .i64 (if S.isNone then 150 else 0)]) ∧ RowsP w' la Lr (S.getD []) ∧ Kp [] w w' := by
 cases S with
 | none => exact ⟨none, 0, [], h.1, ⟨.inl rfl, by simp, rfl⟩, h.2⟩
 | some R =>
  obtain ⟨ra, rc, L, rfl, lo, e, k⟩ := h;obtain ⟨_, _, e1, see1, _⟩ := lo.row.see
  cases e1
  exact ⟨ra, rc, L, rfl, ⟨see1, lo.lies, e⟩, k⟩
theorem RanP.one {S : Option (List (List Val))} {w w' : World} {e : Ending} (h : RanP S w e w') : ∃ la lc Lr, e = .returned (.tuple #[.slice la (Lr : List Vs).length lc, .int .i64 (if S.isNone then 150 else 0)]) ∧ RowsP w' la Lr (S.getD []) ∧ Kp [] w w' := by
 cases S with
 | none => exact ⟨none, 0, [], h.2, ⟨.inl rfl, by simp, rfl⟩, h.1⟩
 | some R =>
  obtain ⟨k, ra, rc, L, rfl, hr⟩ := h;exact ⟨ra, rc, L, rfl, hr, k⟩
theorem answersWalk (q : Qy) (a : Option Addr) (ca : Nat) (L : List Vs) (b : Option Addr) (cb : Nat) (M0 : List Vs) (w : World) (hq : q.ok w) (hlm : -9223372036854775808 ≤ q.lim) (hA : Asks w) (hs : VsE.See w a L) (hx : ∀ x ∈ L, x.lies w) (ht : VsE.See w b M0) (hy : ∀ x ∈ M0, x.lies w) (hl : L.length ≤ 1048576) (hm : M0.length ≤ 1048576) (hr : ∀ x ∈ L, x.l.length ≤ 1048576) (hrm : ∀ x ∈ M0, x.l.length ≤ 1048576) (hrj : ∀ x ∈ L, ∀ y ∈ M0, x.l.length + y.l.length ≤ 1048576) :
  Calls Tryz.prog 6 #[.agg q.cs.toArray, .slice a L.length ca, .slice b M0.length cb] w fun e w' => e = .returned (.bool true) ∧ Below w.heap.size w w' := by
 obtain ⟨P, hP⟩ : ∃ P, Hid (L.length * M0.length = P) := ⟨_, hid rfl⟩
 have hPm : ((L.length : Int) * (M0.length : Int)) = (P : Int) := by rw [← hP.out]; simp
 have hPb : P ≤ 1048576 * 1048576 := by rw [← hP.out]; exact Nat.mul_le_mul hl hm
 have hPw : IntKind.i64.wrap (P : Int) = (P : Int) := by rw [IntKind.wrap_i64]; omega
 have cAl : Hid (∀ W, Kp [] w W → Calls Tryz.prog 8 #[] W fun e w' => e = .returned (.bool true) ∧ Kp [] W w') := hid fun W k => cAlive16 W (hA.kept k (by simp))
 obtain ⟨w1, hw1, k1, b1⟩ : ∃ x, w.alloc (.cells q.cs.toArray 31) = x ∧ Kp [] w x ∧ Bn x w.heap.size q.cs := ⟨_, rfl, (Kp.refl _ _).alloc _, Bn.new w _ _⟩
 obtain ⟨q2, hq2⟩ : ∃ x, Hid (w.heap.size = x) := ⟨_, hid rfl⟩
 rw [hq2.out] at b1
 by_cases hbig : P ≤ 1000000
 ·obtain ⟨S, hS⟩ : ∃ S, Hid (ansV q (L.map (·.l)) (M0.map (·.l)) = S) := ⟨_, hid rfl⟩
  have HAn : Hid (∀ (a' : Option Addr) (ca' : Nat) (L' : List Vs) W, Kp [] w W → VsE.See W a' L' → (∀ x ∈ L', x.lies W) → L'.map (·.l) = L.map (·.l) → Calls Tryz.prog 23 #[.agg q.cs.toArray, .slice a' L'.length ca', .slice b M0.length cb] W (AnsP S W)) := hid fun a' ca' L' W k s1 x1 e1 => by
   have hle : L'.length = L.length := by have := congrArg List.length e1; rwa [List.length_map, List.length_map] at this
   have h := cAnswer q a' ca' L' b cb M0 W (hq.kept k) (hA.kept k (by simp)) s1 x1 (ckSee (CK.ofKp k) ht (by simp)) (fun x h => (hy x h).ck (CK.ofKp k) (by simp)) (by omega) hm (fun x h => by
    have h1 : x.l ∈ L.map (·.l) := by rw [← e1]; exact List.mem_map_of_mem h
    obtain ⟨y, h2, h3⟩ := List.mem_map.1 h1;rw [← h3]; exact hr y h2) hrm (fun _ => by rw [hle, hP.out]; omega)
   rw [e1, hS.out] at h;exact h
  have HRn : Hid (∀ W, Kp [] w W → Calls Tryz.prog 24 #[.agg q.cs.toArray, .slice a L.length ca, .slice b M0.length cb] W (RanP S W)) := hid fun W k => by
   have h := rAnswer q a ca L b cb M0 W (hq.kept k) hlm (ckSee (CK.ofKp k) hs (by simp)) (fun x h => (hx x h).ck (CK.ofKp k) (by simp)) (ckSee (CK.ofKp k) ht (by simp)) (fun x h => (hy x h).ck (CK.ofKp k) (by simp)) hl hm hr hrm hrj
   rw [hS.out] at h;exact h
  have HSe : Hid (∀ W, Kp [] w W → VsE.See W a L ∧ ∀ x ∈ L, x.lies W) := hid fun W k => ⟨ckSee (CK.ofKp k) hs (by simp), fun x h => (hx x h).ck (CK.ofKp k) (by simp)⟩
  have HSb : Hid (∀ R, S = some R → R.length ≤ 4096) := hid fun R hR => by
   rw [← hS.out] at hR;unfold ansV ansS at hR
   split at hR
   ·cases hR
   ·split at hR
    ·cases hR
    ·cases hR
     rename_i h
     have := (srtO_perm q.od.l (shapeV q ((baseV q (L.map (·.l)) (M0.map (·.l))).flatMap (filtF q.wh.l)))).length_eq
     unfold limV
     split
     ·rw [List.length_take]; omega
     ·omega
  have K1 := hid k1
  have HB1 := hid b1
  have HS := hid (HSe.out w1 k1).1
  have HX := hid (HSe.out w1 k1).2
  have HR := hid hr
  clear hq hA hs hx ht hy hr hrm hrj k1;obtain ⟨tb, jn, rt, lo, ro, ⟨xa', xc', xl'⟩, ⟨ca', cc, cl⟩, gr, ⟨ya, yc, yl⟩, ⟨ga, gc, gl⟩, ⟨oa, oc, ol⟩, lim⟩ := q;simp only [Qy.cs, Sl.v] at hw1 HAn HRn HB1 b1 ⊢;have HB := hid (fun (W : World) (k : Kp [] w1 W) => HB1.out.kept k)
  have t1 : ¬ (P : Int) > 1000000 := by omega
  have t2 : decide ((P : Int) > 1000000) = false := by simp; omega
  have hq2' := hq2.out
  clear b1;go_enter Tryz.func6, Tryz.ntmps6
  go_wp2_with fail;clear t1 t2;go_loopw [7, 22] (fun v3 i wr => ∃ (j : Nat) (ra : Option Addr) (rc : Nat) (M : List Vs), j ≤ L.length ∧ i = .int .i64 (j : Int) ∧ v3 = .slice ra M.length rc ∧ Hid (Lot w1.heap.size ra rc M wr) ∧ Hid (M.map (·.l) = (L.take j).map (·.l)) ∧ Hid (Kp [] w1 wr)) (fun _ i _ => L.length - (intOf i).toNat)
  case atStart => exact ⟨0, none, 0, [], Nat.zero_le _, rfl, rfl, hid (Lot.nil _ _), rfl, hid (Kp.refl _ _)⟩
  case round =>
   obtain ⟨j, ra, rc, M, hj, rfl, rfl, hlot, hM, hk⟩ := hrel
   by_cases hlt : j < L.length
   ·have hxj : L[j]? = some L[j] := by simp [hlt]
    obtain ⟨g, o, ea, c0⟩ := vsAt HS.out hxj;have cg := kpAt hk.out c0
    have hlj := HX.out L[j] (List.getElem_mem hlt)
    have hrj := HR.out L[j] (List.getElem_mem hlt)
    have htk : (L.take (j + 1)).map (·.l) = (L.take j).map (·.l) ++ [L[j].l] := by rw [List.take_succ_eq_append_getElem hlt, List.map_append]; rfl
    have cC := cCopyR L[j].a L[j].c L[j].l wr (hlj.see.kept hk.out) (by omega)
    have hMl : M.length ≤ 4000000000000 := by have := congrArg List.length hM.out; simp at this; omega
    generalize L[j] = x at *
    obtain ⟨xa, xc, xl⟩ := x;dsimp only at *;have i1 : (0 : Int) ≤ (j : Int) := by omega
    have i2 : (j : Int) < (L.length : Int) := by omega
    have i3 : (j : Int) + 1 ≤ 9223372036854775807 := by omega
    have HC := hid cC
    have htk' := hid htk
    subst ea;clear cC c0 hlj hxj htk;go_wp2_with fail;refine HC.out.mono ?_;rintro e wd ⟨ya, yc, rfl, hyrow, kd, hyb⟩;have kwd := hk.out.trans kd (by simp)
    have hld : Lot w1.heap.size ra rc M wd := hlot.out.ck (CK.ofKp kd) (by simp) (by simp)
    have hyw : ∀ k ∈ blk ya, k < wd.heap.size := fun k hk' => hyrow.lt k (by rw [ownV]; exact hk')
    have hzr := hk.out.size
    have hzd := kwd.size
    obtain ⟨ra4, rc4, W4, hrun, hl4, k4, hn4⟩ := hld.app ⟨ya, yc, xl⟩ (rowLies hyrow) (by omega) (fun k hk' => ⟨by have := hyb k hk'; omega, hyw k hk', fun hm => by have := hyb k hk'; have := hlot.out.lt k hm; omega⟩) hMl
    obtain ⟨M4, hM4⟩ : ∃ M4, Hid (M4 = M ++ [(⟨ya, yc, xl⟩ : Vs)]) := ⟨_, rfl⟩
    rw [← hM4.out] at hrun hl4;have hfin := hid (And.intro hl4 (kwd.trans k4 (fun x hx => .inr (hlot.out.own x hx))))
    have hmm : Hid (M4.map (·.l) = (L.take (j + 1)).map (·.l)) := by show _ = _; rw [hM4.out, htk'.out, List.map_append, hM.out]; simp
    clear hld hl4 k4 hn4 hyrow hyb HC kd kwd hyw;go_wp2_with (first | (refine wpAppRunY rfl _ _ 60 60 rfl _ _ _ rfl rfl hrun ?_) | fail)
    go_roundw
    case rel => exact ⟨j + 1, ra4, rc4, M4, by omega, by go_num, rfl, hid hfin.out.1, hmm, hid hfin.out.2⟩
    case measure => simp [intOf]; omega
   ·have hmm : Hid (M.map (·.l) = L.map (·.l)) := hid (by rw [hM.out, show j = L.length by omega, List.take_length])
    have dj1 : ¬ (j : Int) < (L.length : Int) := by omega
    have dj2 : decide ((j : Int) < (L.length : Int)) = false := by simp; omega
    have K2 := hid (K1.out.trans hk.out (by simp))
    have bb := HB.out wr hk.out
    have s0 := bb.get 0 _ rfl; have s1 := bb.get 1 _ rfl; have s2 := bb.get 2 _ rfl; have s3 := bb.get 3 _ rfl; have s4 := bb.get 4 _ rfl; have s5 := bb.get 5 _ rfl; have s6 := bb.get 6 _ rfl; have s7 := bb.get 7 _ rfl; have s8 := bb.get 8 _ rfl; have s9 := bb.get 9 _ rfl; have s10 := bb.get 10 _ rfl; have s11 := bb.get 11 _ rfl
    have cA : Hid (Calls Tryz.prog 23 #[.agg #[.int .i64 tb, .bool jn, .int .i64 rt, .int .i64 lo, .int .i64 ro, .slice xa' xl'.length xc', .slice ca' cl.length cc, .bool gr, .slice ya yl.length yc, .slice ga gl.length gc, .slice oa ol.length oc, .int .i64 lim], .slice ra M.length rc, .slice b M0.length cb] wr (AnsP S wr)) := hid (by
     obtain ⟨_, _, e1, see1, _⟩ := hlot.out.row.see
     cases e1
     exact HAn.out ra rc M wr K2.out see1 hlot.out.lies hmm.out)
    clear bb;go_wp2_with fail;refine cA.out.mono ?_;intro e w4 hP4
    obtain ⟨la, lc, Lr, rfl, hL4, k4⟩ := hP4.one
    have hNb : Hid ((S.getD []).length ≤ 4096) := hid (by
     cases hSS : S with
     | none => simp
     | some R => exact HSb.out R hSS)
    have hLrl := hid (show Lr.length ≤ 4096 by have h1 := congrArg List.length hL4.eq; rw [List.length_map] at h1; have := hNb.out; omega)
    have K4 := hid (K2.out.trans k4 (by simp))
    have kk4 := hid (hk.out.trans k4 (by simp))
    have bb := HB.out w4 kk4.out
    have HL4 := hid hL4
    have hlot4 := hid (hlot.out.ck (CK.ofKp k4) (by simp) (by simp))
    clear s0 s1 s2 s3 s4 s5 s6 s7 s8 s9 s10 s11 cA hP4 hL4 k4 hlot;obtain ⟨E, hE⟩ : ∃ E : Int, Hid ((if S.isNone then 150 else 0) = E) := ⟨_, hid rfl⟩
    rw [hE.out];have v0 := bb.get 0 _ rfl; have v1 := bb.get 1 _ rfl; have v2 := bb.get 2 _ rfl; have v3 := bb.get 3 _ rfl; have v4 := bb.get 4 _ rfl; have v5 := bb.get 5 _ rfl; have v6 := bb.get 6 _ rfl; have v7 := bb.get 7 _ rfl; have v8 := bb.get 8 _ rfl; have v9 := bb.get 9 _ rfl; have v10 := bb.get 10 _ rfl; have v11 := bb.get 11 _ rfl
    have cR := hid (HRn.out w4 K4.out)
    clear bb;go_wp2_with fail;refine cR.out.mono ?_;intro e w5 hP5
    obtain ⟨ma, mc, Mr, rfl, hM5, k5⟩ := hP5.one;rw [hE.out];have K5 := hid (K4.out.trans k5 (by simp))
    have kk5 := hid (kk4.out.trans k5 (by simp))
    have HL5 := hid (HL4.out.kept k5)
    have HM5 := hid hM5
    have hlot5 := hid (hlot4.out.ck (CK.ofKp k5) (by simp) (by simp))
    have cL := hid (cAl.out w5 K5.out)
    clear v0 v1 v2 v3 v4 v5 v6 v7 v8 v9 v10 v11 cR hP5 hM5 k5;go_wp2_with fail;refine cL.out.mono ?_;rintro e w6 ⟨rfl, k6⟩;have K6 := hid (K5.out.trans k6 (by simp))
    have kk6 := hid (kk5.out.trans k6 (by simp))
    have h6 := HL5.out.kept k6
    have m6 := HM5.out.kept k6
    have hlot6 := hid (hlot5.out.ck (CK.ofKp k6) (by simp) (by simp))
    have cS := hid (cSameAll la ma lc mc Lr Mr w6 h6.see m6.see h6.lies m6.lies (by rw [h6.eq, m6.eq]) (by have := hLrl.out; omega))
    clear cL k6 h6 m6;go_wp2_with fail;refine cS.out.mono ?_;rintro e w7 ⟨rfl, k7⟩;have K7 := hid (K6.out.trans k7 (by simp))
    have kk7 := hid (kk6.out.trans k7 (by simp))
    have l7 := hlot6.out.ck (CK.ofKp k7) (by simp) (by simp)
    obtain ⟨_, _, e1, see1, _⟩ := l7.row.see
    cases e1
    have hMl7 : M.length ≤ 4000000000000 := by have h1 := congrArg List.length hmm.out; rw [List.length_map, List.length_map] at h1; omega
    have cT := hid (cSameAll ra a rc ca M L w7 see1 (HSe.out w7 K7.out).1 l7.lies (HSe.out w7 K7.out).2 hmm.out hMl7)
    clear cS k7 l7 see1;go_wp2_with fail;refine cT.out.mono ?_;rintro e w8 ⟨rfl, k8⟩;have K8 := hid (K7.out.trans k8 (by simp))
    clear cT k8;go_wp2_with fail;go_ret;exact ⟨rfl, K8.out.below⟩
 ·have t1 : (P : Int) > 1000000 := by omega
  have t2 : decide ((P : Int) > 1000000) = true := by simp; omega
  have cL := hid (cAl.out w1 k1)
  have K1 := hid k1
  obtain ⟨tb, jn, rt, lo, ro, ⟨wa, wc, wl⟩, ⟨ca', cc, cl⟩, gr, ⟨ya, yc, yl⟩, ⟨ga, gc, gl⟩, ⟨oa, oc, ol⟩, lim⟩ := q;simp only [Qy.cs, Sl.v] at hw1 ⊢;clear hq hA hs hx ht hy hr hrm hrj b1 k1;go_enter Tryz.func6, Tryz.ntmps6
  go_wp2_with fail;refine cL.out.mono ?_;rintro e w2 ⟨rfl, k2⟩;have K2 := hid (K1.out.trans k2 (by simp))
  clear cL k2;go_wp2_with fail;go_ret;exact ⟨rfl, K2.out.below⟩
end Go.Proofs.YtcgkkofmnajedaaGreatDoor
end

section
namespace Go.Proofs.YtcgkkofmnajedaaGreatDoor
open Go.ChangeShapes Go.WideShapes Go.ChangeAt Go.RowKit Go.Hay
theorem planAnswersContract (H : Type) (enc : TypeId × Value → H) (W : World) (base : Nat) (args : Array Value) (ds gs : List (DataW H)) (before : List MemPlace)
  (hval : ∀ (j : Nat) t v, Tryz.f6.params[j]? = some t → args[j]? = some v → Value.okWide Tryz.prog W .any base t v)
  (hW : DataW.Whole enc Tryz.prog Tryz.f6.params.toList Rows.planAnswersSpec.vars false W args.toList ds gs before)
  (hsz : (DataW.weightsEach Tryz.prog (Tryz.f6.params.toList ++ (Rows.OpenSpec.upto Rows.planAnswersSpec).bare.plain.varTypes Tryz.prog) (ds ++ gs)).all (· ≤ reachBytes) = true)
  (hk : Rows.uptoSmall H (ds ++ gs) = true)
  (hL : laidMetH Tryz.prog Rows.planAnswersUptoRow.laid W) :
  Calls Tryz.prog 6 args W fun e W' => ∃ v, e = .returned v ∧ Rows.planAnswersSpec.post enc Tryz.prog Tryz.f6 false true false false W args v W' := by
 have hW' := hW
 obtain ⟨p, q, hA0, hV, rfl, hfz, hnd⟩ := hW;have hA : DataW.TrodAll enc Tryz.prog W 0 (fun _ => true) true Tryz.f6.params.toList args.toList ds p := hA0
 rw [Tryz.params6] at hA hval hsz;obtain ⟨v0, vs0, d0, ds0, p0, q0, hargs, rfl, rfl, h0, r0⟩ := trodAll_cons hA;obtain ⟨v1, vs1, d1, ds1, p1, q1, rfl, rfl, rfl, h1, r1⟩ := trodAll_cons r0;obtain ⟨v2, vs2, d2, ds2, p2, q2, rfl, rfl, rfl, h2, r2⟩ := trodAll_cons r1;obtain ⟨rfl, rfl, rfl⟩ := trodAll_nil r2;obtain rfl : args = #[v0, v1, v2] := by cases args; simp_all
 obtain ⟨rfl, rfl⟩ := trodVars_none hV;have k0 := h0
 have lt0 : ∀ x ∈ p0, x.block < W.heap.size := by obtain ⟨m, hm⟩ := k0; exact DataW.trod_lt m _ _ _ hm
 obtain ⟨x0, rfl, ok0⟩ := openQuery (hval 0 31 v0 rfl rfl) h0;obtain ⟨a1, len1, cap1, rfl⟩ := okWide_slice Tryz.underlying60 (hval 1 60 v1 rfl rfl);have k1 := h1
 have lt1 : ∀ x ∈ p1, x.block < W.heap.size := by obtain ⟨m, hm⟩ := k1; exact DataW.trod_lt m _ _ _ hm
 obtain ⟨l1, rfl, hs1, hok1, hl1, hm1, hn1, hfit1, hbk1, hcp1⟩ := openVlists h1;obtain ⟨hc1, hq1⟩ := hfit1 (List.all_eq_true.2 fun x hx => List.all_eq_true.1 hsz x (by simp [DataW.weightsEach]; first | exact .inl hx | exact .inr hx | exact .inr (.inl hx) | exact .inr (.inr hx) | exact hx))
 obtain ⟨a2, len2, cap2, rfl⟩ := okWide_slice Tryz.underlying60 (hval 2 60 v2 rfl rfl);have k2 := h2
 have lt2 : ∀ x ∈ p2, x.block < W.heap.size := by obtain ⟨m, hm⟩ := k2; exact DataW.trod_lt m _ _ _ hm
 obtain ⟨l2, rfl, hs2, hok2, hl2, hm2, hn2, hfit2, hbk2, hcp2⟩ := openVlists h2;obtain ⟨hc2, hq2⟩ := hfit2 (List.all_eq_true.2 fun x hx => List.all_eq_true.1 hsz x (by simp [DataW.weightsEach]; first | exact .inl hx | exact .inr hx | exact .inr (.inl hx) | exact .inr (.inr hx) | exact hx))
 have hbk := of_decide_eq_true hk
 simp only [List.append_nil, Rows.uptoBulkAll] at hbk;clear hA0;refine (answersWalk x0 a1 cap1 l1 a2 cap2 l2 W (ok0.ok (by omega)) ok0.lim.1 (table hL) hs1 hok1 hs2 hok2 (by omega) (by omega) (fun x h => by have := lenOfSum hbk1 x h; omega) (fun x h => by have := lenOfSum hbk2 x h; omega) (fun x h y h2 => by have := lenOfSum hbk1 x h; have := lenOfSum hbk2 y h2; omega)).mono fun e W' ⟨he, bel⟩ => ?_
 subst he;exact ⟨_, rfl, _, _, _, [], _, [], hW', trodAll_mk1 (shut_bool Tryz.underlying4 _), (trodAll_cons_mk (Below.trod Tryz.laidOut (by kernel_rfl) (of_decide_eq_true (by kernel_rfl)) k0 bel lt0) (trodAll_cons_mk (Below.trod Tryz.laidOut (by kernel_rfl) (of_decide_eq_true (by kernel_rfl)) k1 bel lt1) (trodAll_cons_mk (Below.trod Tryz.laidOut (by kernel_rfl) (of_decide_eq_true (by kernel_rfl)) k2 bel lt2) trodAll_mk0))), rfl, bel.frame _, fun h => by cases h⟩
theorem planAnswersLifted (os : Os) (started : os.Started) (H : Type) (enc : TypeId × Value → H) (F : Stop.Interp) :
  ReturnsInHanded {} Tryz.checked os 6 .any ((Rows.OpenSpec.upto Rows.planAnswersSpec).preRow enc Tryz.prog Tryz.f6 Rows.planAnswersUptoRow.domain false Rows.planAnswersUptoRow.laid) (((Rows.OpenSpec.upto Rows.planAnswersSpec).at F).post enc Tryz.prog Tryz.f6 false true false false) := by
 refine returnsInHanded_of_row (C := Tryz.checked) (s := Rows.OpenSpec.upto Rows.planAnswersSpec) Tryz.own started (by kernel_rfl) Tryz.func6
  (witness_row_at (enc := enc) (C := Tryz.checked) false ({ World.holding Tryz.prog os ⟨#[], #[], []⟩ with heap := (World.holding Tryz.prog os ⟨#[], #[], []⟩).heap.modify 0 fun
   | .cells _ t frozen => .cells tabCells t frozen
   | o => o }) #[.agg #[.int .i64 0, .bool false, .int .i64 0, .int .i64 0, .int .i64 0, .slice none 0 0, .slice none 0 0, .bool false, .slice none 0 0, .slice none 0 0, .slice none 0 0, .int .i64 0], .slice none 0 0, .slice none 0 0] rfl (by kernel_rfl) (by kernel_rfl) (by kernel_rfl)
   (OpenSpec.preRow_of_cond (x := ([.agg [.lit (.int .i64 0), .lit (.bool false), .lit (.int .i64 0), .lit (.int .i64 0), .lit (.int .i64 0), .nil, .nil, .lit (.bool false), .nil, .nil, .nil, .lit (.int .i64 0)], .nil, .nil], [], [])) 8 (by kernel_rfl) (by kernel_rfl) (fun k hk => by cases hk; kernel_rfl) (by kernel_rfl) (laidMet_of_run' 8 (by kernel_rfl) (by kernel_rfl)))) ?_
 intro W base args ds gs before hval hW _ hcond hsz hL _ _
 exact planAnswersContract H enc W base args ds gs before hval hW hsz (hcond _ rfl) hL
theorem planAnswersSaid : Rows.PlanAnswersUptoSaid :=
 OpenClaim.holds_of_cond 6 Tryz.f6 rfl rfl rfl rfl rfl rfl rfl ⟨rfl, rfl, rfl, rfl, rfl⟩ rfl rfl rfl rfl rfl (by kernel_rfl) Tryz.func6 (by kernel_rfl)
  (of_decide_eq_true (by kernel_rfl)) (by unfold Func.isWrapper; first | (rw [if_pos (by decide +kernel)]; kernel_rfl) | (rw [if_neg (by decide +kernel)]; exact ⟨rfl, rfl⟩))
  (fun os started H enc _ F => by rw [OpenClaim.pre_eq_preRow]; exact planAnswersLifted os started H enc F)
theorem planAnswersPlain (f : FuncId) (fn : Func) (hf : Tryz.pinned.checked.prog.funcNamed "hayloft/hayloftlaw16.PlanAnswers" = some f) (hfn : Tryz.pinned.checked.prog.funcs[f]? = some fn) :
  false = Tryz.pinned.checked.prog.looks [] ∧ ∀ (j : Nat) t, fn.params[j]? = some t → Tryz.pinned.checked.prog.wantsStandIn t = false := by
 obtain rfl : f = 6 := Option.some.inj ((show Tryz.prog.funcNamed "hayloft/hayloftlaw16.PlanAnswers" = some 6 by kernel_rfl).symm.trans hf) |>.symm
 obtain rfl : fn = Tryz.f6 := (Option.some.inj (Tryz.func6.symm.trans hfn)).symm
 refine ⟨by kernel_rfl, fun j t ht => ?_⟩
 rw [Tryz.params6] at ht;have hm := Array.mem_of_getElem? ht
 have h2 : t = 31 ∨ t = 60 := by first | (simpa using hm) | (rcases (show t = 31 ∨ t = 60 ∨ t = 60 from by simpa using hm) with h | h | h <;> simp [h])
 rcases h2 with rfl | rfl
 ·exact (show Tryz.prog.wantsStandIn 31 = false by kernel_rfl)
 ·exact (show Tryz.prog.wantsStandIn 60 = false by kernel_rfl)
theorem PlanAnswers_holds : Rows.PlanAnswersUptoCardSaid :=
 Claim7.holds_tied_plain_at .later [] _ _ _ _ planAnswersSaid (fun _ h => by cases h) (by kernel_rfl) (fun _ h => by cases h) planAnswersUpto_row_tie rfl ⟨rfl, rfl⟩ (by kernel_rfl) rfl planAnswersPlain (by kernel_rfl)
#print axioms PlanAnswers_holds
end Go.Proofs.YtcgkkofmnajedaaGreatDoor
end

/- lay, Send, At, Double. -/
import Derived.Test.YtgegdlllmpinfaaNnet
namespace Go.Proofs.Ytgegdlllmpinfaa
open Go.RowKit Go.Hay
set_option linter.unusedVariables false
set_option linter.unusedSimpArgs false

/-- What a call that changes a net leaves. -/
def ChgN (p : Nat) (v : Value) (n' : Nt) (r : Value) (w : World) (e : Ending) (w' : World) : Prop :=
  ∃ v', e = .returned r ∧ Net w' p v' n' ∧ Wrote p v w v' w'
/-- One message, newly made. -/
theorem srcOne (w : World) (q : Nat) (hq : w.heap.size = q) (m : Msg) : Src Try.prog 2 44 (.slice (some ⟨q, 0, none⟩) 1 1) 1 (MsgE.cs [m]) (w.alloc (.cells #[.int .i64 m.to, .string ⟨m.body.toArray⟩] 43)) := by
  subst hq
  refine Src.ofSlice _ Try.underlying44 ⟨w.heap.size, 0, none⟩ 1 1 _ rfl ?_ (El.cs_one MsgE [m])
  intro j u hu
  rw [Addr.add_lit, Nat.zero_add]
  match j, hu with
  | 0, hu => cases hu; exact World.cell?_alloc_new w _ _ 0
  | 1, hu => cases hu; exact World.cell?_alloc_new w _ _ 1
  | j + 2, hu => simp [El.cs, MsgE] at hu
theorem kpN {w w' : World} (h : Kp [] w w') (k : Nat) : Kp [] w (w'.drewN k) := h.drewN k
set_option maxHeartbeats 1000000 in
theorem cLay {w : World} {p : Nat} {v : Value} {n : Nt} (h : Net w p v n) (hb : n.l.length ≤ 6000000000000) (m : Msg) : Calls Try.prog 15 #[.pointer (some ⟨p, 0, none⟩), .agg #[.int .i64 m.to, .string ⟨m.body.toArray⟩]] w (ChgN p v (putN n m).1 (.int .i64 (putN n m).2) w) := by
  obtain ⟨w1, hw1⟩ : ∃ w1, w.alloc (.cells #[.int .i64 m.to, .string ⟨m.body.toArray⟩] 43) = w1 := ⟨_, rfl⟩
  have k1 : Kp [] w w1 := by rw [← hw1]; exact (Kp.refl _ _).alloc _
  have b0 : w1.cell? ⟨w.heap.size, 0, none⟩ = some (.int .i64 m.to) := by rw [← hw1]; exact World.cell?_alloc_new w _ _ 0
  have b1 : w1.cell? ⟨w.heap.size, 1, none⟩ = some (.string ⟨m.body.toArray⟩) := by rw [← hw1]; exact World.cell?_alloc_new w _ _ 1
  have h1 := h.keptNew k1
  have c0 := h1.c0
  have c1 := h1.c1
  obtain ⟨a, c, rfl, hsee, hn, hlc, hcm, hob⟩ := h1.row.see
  by_cases hr : n.room ≤ (n.l.length : Int)
  · have hfin : ∀ k, ChgN p (.slice a n.l.length c) (putN n m).1 (.int .i64 (putN n m).2) w (.returned (.int .i64 50)) (w1.drewN k) := fun k => by
      unfold putN
      rw [if_pos hr]
      exact ⟨_, rfl, h1.keptNew ((Kp.refl _ _).drewN k), (Wrote.refl p _ w).post (k1.drewN k)⟩
    clear h h1 hsee
    go_enter Try.func15, Try.ntmps15
    go_wp2_with fail
    go_quiet (fail)
    go_wp2_with fail
    go_returns
    exact hfin _
  · obtain ⟨i0, hi, hz0, hz1, hz2⟩ := infoM
    have big : ∀ k, ∃ a' b' c' w3, (Builtin.append_ #[44, 44] 44 #[.slice a n.l.length c, .slice (some ⟨w1.heap.size, 0, none⟩) 1 1]).run Try.prog ((w1.drewN k).alloc (.cells #[.int .i64 m.to, .string ⟨m.body.toArray⟩] 43)) = .ok (.slice a' b' c') w3 ∧
        w3.cell? ⟨p, 1, none⟩ = some (.slice a n.l.length c) ∧ w3.frozen? ⟨p, 1, none⟩ = false ∧ ChgN p (.slice a n.l.length c) (putN n m).1 (.int .i64 (putN n m).2) w (.returned (.int .i64 0)) (w3.setCell ⟨p, 1, none⟩ (.slice a' b' c')) := fun k => by
      have kk : Kp [] w1 (w1.drewN k) := (Kp.refl _ _).drewN k
      have k2 : Kp [] w1 ((w1.drewN k).alloc (.cells #[.int .i64 m.to, .string ⟨m.body.toArray⟩] 43)) := kk.alloc _
      have hs := srcOne (w1.drewN k) w1.heap.size rfl m
      obtain ⟨v', w3, hrun, hrow3, k3, hnew3⟩ := run_appendG (E := MsgE) (P := Try.prog) _ 44 44 44 43 i0 _ 24 Try.underlying44 hi hz0 hz1 hz2 rfl _ n.l (h1.row.keptNew k2) _ [m] hs (by simp only [List.length_cons, List.length_nil]; omega) (by simp only [List.length_cons, List.length_nil]; omega)
      obtain ⟨e1, e2, hN, hW⟩ := h.stored (n' := { n with l := n.l ++ [m] }) (k1.trans k2 (by simp)) rfl hrow3 k3 hnew3
      obtain ⟨a', c', rfl, _⟩ := hrow3.see
      refine ⟨a', _, c', w3, hrun, e1, e2, ?_⟩
      unfold putN
      rw [if_neg (by omega)]
      exact ⟨_, rfl, hN, hW⟩
    have hlt := h1.lt
    have hlt0 : w.heap.size < w1.heap.size := by rw [← hw1]; simp
    have big2 : ∀ k, ((w1.drewN k).alloc (.cells #[.int .i64 m.to, .string ⟨m.body.toArray⟩] 43)).cell? ⟨p, 1, none⟩ = some (.slice a n.l.length c) := fun k => (((Kp.refl [] w1).drewN k).alloc _).cell (p := ⟨p, 1, none⟩) hlt (by simp) |>.trans c1
    clear h h1 hsee
    have hbig := hid big
    clear big
    go_enter Try.func15, Try.ntmps15
    go_wp2_with fail
    go_quiet (fail)
    go_wp2_with fail
    obtain ⟨a', b', c', w3, hrun, e1, e2, hfin⟩ := hbig.out (nq + 1)
    have e4 := big2 (nq + 1)
    clear big2 hbig
    go_region_law (refine stepAppRun (by rfl) _ _ _ _ (by rfl) _ _ _ (by rfl) (by rfl) hrun ?_)
    all_goals (go_wp2_with fail; go_returns; exact hfin)
/-- A message's two cells. -/
theorem msgAt {w : World} {p : Nat} {a : Option Addr} {c : Nat} {n : Nt} (h : RowM w (.slice a n.l.length c) n.l) {k : Nat} {m : Msg} (hm : n.l[k]? = some m) : ∃ g o, a = some ⟨g, o, none⟩ ∧ w.cell? ⟨g, o + k * 2, none⟩ = some (.int .i64 m.to) ∧ w.cell? ⟨g, o + k * 2 + 1, none⟩ = some (.string ⟨m.body.toArray⟩) := by
  obtain ⟨a', c', e, hsee, _⟩ := h.see
  cases e
  obtain ⟨g, o, rfl, hc⟩ := hsee.at hm
  exact ⟨g, o, rfl, hc 0 _ rfl, hc 1 _ rfl⟩
/-- What At tells. -/
def AtP (o : Option Msg) (w : World) (e : Ending) (w' : World) : Prop :=
  match o with
  | none => e = .returned (.tuple #[.int .i64 0, .slice none 0 0, .bool false]) ∧ Kp [] w w'
  | some m => ∃ a c, e = .returned (.tuple #[.int .i64 m.to, .slice a m.body.length c, .bool true]) ∧ Row w' (.slice a m.body.length c) m.body ∧ Kp [] w w' ∧ ∀ k ∈ blk a, w.heap.size ≤ k
/-- No message is greater than memory. -/
def Smalls (n : Nt) : Prop := ∀ m ∈ n.l, m.body.length ≤ 140737488355328
set_option maxHeartbeats 1000000 in
theorem cAt {w : World} {p : Nat} {v : Value} {n : Nt} (h : Net w p v n) (hB : Smalls n) (hb : n.l.length ≤ 6000000000000) (i : Int) : Calls Try.prog 6 #[.pointer (some ⟨p, 0, none⟩), .int .i64 i] w (AtP (atN n i) w) := by
  have c1 := h.c1
  obtain ⟨a, c, rfl, hsee, hn, hlc, hcm, hob⟩ := h.row.see
  cases hm : atN n i with
  | none =>
    have hc := cHasN h i (atN_none hm)
    go_enter Try.func6, Try.ntmps6
    go_wp2_with fail
    refine hc.mono ?_
    rintro e w' ⟨rfl, rfl⟩
    go_wp2_with fail
    go_returns
    exact ⟨rfl, Kp.refl _ _⟩
  | some m =>
    obtain ⟨k, rfl, hk, hkl⟩ := atN_some hm
    obtain ⟨g, o, rfl, m0, m1⟩ := msgAt (p := p) h.row hk
    have hc := cHasY h k hkl
    obtain ⟨w1, hw1⟩ : ∃ w1, w.alloc (.cells #[.int .i64 m.to, .string ⟨m.body.toArray⟩] 43) = w1 := ⟨_, rfl⟩
    have k1 : Kp [] w w1 := by rw [← hw1]; exact (Kp.refl _ _).alloc _
    have b0 : w1.cell? ⟨w.heap.size, 0, none⟩ = some (.int .i64 m.to) := by rw [← hw1]; exact World.cell?_alloc_new w _ _ 0
    have b1 : w1.cell? ⟨w.heap.size, 1, none⟩ = some (.string ⟨m.body.toArray⟩) := by rw [← hw1]; exact World.cell?_alloc_new w _ _ 1
    have hlt0 : w.heap.size < w1.heap.size := by rw [← hw1]; simp
    obtain ⟨c2, w2, hcv, hrow2, k2, hs2⟩ := convBytes (w1.drew) m.body (by have := hB m (List.mem_of_getElem? hk); omega)
    have d0 : w2.cell? ⟨w.heap.size, 0, none⟩ = some (.int .i64 m.to) := (k2.cell (p := ⟨w.heap.size, 0, none⟩) hlt0 (by simp)).trans b0
    have d1 : w2.cell? ⟨w.heap.size, 1, none⟩ = some (.string ⟨m.body.toArray⟩) := (k2.cell (p := ⟨w.heap.size, 1, none⟩) hlt0 (by simp)).trans b1
    have hfin : AtP (some m) w (.returned (.tuple #[.int .i64 m.to, .slice (some ⟨w1.heap.size, 0, none⟩) m.body.length c2, .bool true])) w2 := ⟨_, _, rfl, hrow2, k1.drew.trans k2 (by simp), fun x hx => by simp [blk] at hx; omega⟩
    have hww := hid hw1
    clear hw1
    clear h hsee hrow2 hk
    go_enter Try.func6, Try.ntmps6
    go_wp2_with fail
    refine hc.mono ?_
    rintro e w' ⟨rfl, rfl⟩
    go_wp2_with fail
    rw [hww.out]
    go_region
    all_goals (go_wp2_with fail; go_returns; exact hfin)
theorem cSend {w : World} {p : Nat} {v : Value} {n : Nt} (h : Net w p v n) (hb : n.l.length ≤ 6000000000000) (to : Int) (a : Option Addr) (c : Nat) (bs : List UInt8) (hs : Sees w a bs) : Calls Try.prog 7 #[.pointer (some ⟨p, 0, none⟩), .int .i64 to, .slice a bs.length c] w (ChgN p v (putN n ⟨to, bs⟩).1 (.int .i64 (putN n ⟨to, bs⟩).2) w) := by
  have cv := convSees hs c
  have hc := cLay h hb ⟨to, bs⟩
  go_enter Try.func7, Try.ntmps7
  go_wp2_with fail
  refine hc.mono ?_
  rintro e w' ⟨v', rfl, hN, hW⟩
  go_wp2_with fail
  go_returns
  exact ⟨v', rfl, hN, hW⟩
theorem cDouble {w : World} {p : Nat} {v : Value} {n : Nt} (h : Net w p v n) (hb : n.l.length ≤ 6000000000000) (i : Int) : Calls Try.prog 10 #[.pointer (some ⟨p, 0, none⟩), .int .i64 i] w (ChgN p v (dblN n i).1 (.int .i64 (dblN n i).2) w) := by
  have c1 := h.c1
  obtain ⟨a, c, rfl, hsee, hn, hlc, hcm, hob⟩ := h.row.see
  unfold dblN
  cases hm : atN n i with
  | none =>
    have hc := cHasN h i (atN_none hm)
    go_enter Try.func10, Try.ntmps10
    go_wp2_with fail
    refine hc.mono ?_
    rintro e w' ⟨rfl, rfl⟩
    go_wp2_with fail
    go_returns
    exact ⟨_, rfl, h, Wrote.refl _ _ _⟩
  | some m =>
    obtain ⟨k, rfl, hk, hkl⟩ := atN_some hm
    obtain ⟨g, o, rfl, m0, m1⟩ := msgAt (p := p) h.row hk
    have hc := cHasY h k hkl
    have hl := cLay h hb m
    simp only
    clear hk hsee h
    go_enter Try.func10, Try.ntmps10
    go_wp2_with fail
    refine hc.mono ?_
    rintro e w' ⟨rfl, rfl⟩
    go_wp2_with fail
    refine hl.mono ?_
    rintro e w1 ⟨v', rfl, hN, hW⟩
    go_wp2_with fail
    go_returns
    exact ⟨v', rfl, hN, hW⟩
end Go.Proofs.Ytgegdlllmpinfaa

/- The law's alive. The law's alive. -/
import Derived.Test.YtfolkjjhlcjfgabB9
section
namespace Go.Proofs.Ytfolkjjhlcjfgab
open Go.RowKit Go.Hay
attribute [local go_sem] Oper.semAt_some
set_option linter.unusedVariables false
set_option linter.unusedSimpArgs false

/-- The blocks that an iterator over rows in memory reads. -/
def jsV (q : Nat) (ra : Option Addr) (L : List Vs) : List Nat := q :: (blk ra ++ L.flatMap fun x => blk x.a)
theorem valSrc {w : World} {ra : Option Addr} {rc : Nat} {L : List Vs} (hs : VsE.See w ra L) (hx : ∀ x ∈ L, x.lies w) (hl : L.length ≤ 4000000000000) (h1 : ∀ k ∈ blk ra, k < w.heap.size) (h2 : ∀ x ∈ L, ∀ k ∈ blk x.a, k < w.heap.size) (t : TypeId) :
    (∀ n, 1 ≤ n → RowSeq false n 23 #[.pointer (some ⟨w.heap.size, 0, none⟩)] (L.map (·.l)) (jsV w.heap.size ra L) (w.alloc (.cells #[.slice ra L.length rc] t))) ∧ ∀ j ∈ jsV w.heap.size ra L, j < (w.alloc (.cells #[.slice ra L.length rc] t)).heap.size := by
  have b := Bn.new w [.slice ra L.length rc] t
  have k : Kp [] w (w.alloc (.cells #[.slice ra L.length rc] t)) := (Kp.refl _ _).alloc _
  have ck := CK.ofKp k
  refine ⟨fun n hn => valuesSeq n hn _ ra rc L _ _ ⟨b.get 0 _ rfl, ckSee ck hs (by simp), fun x h => (hx x h).ck ck (by simp), by omega, by simp [jsV], fun k hk => by simp [jsV, hk], fun x h k hk => ?_⟩, fun j hj => ?_⟩
  · simp only [jsV, List.mem_cons, List.mem_append, List.mem_flatMap]
    exact .inr (.inr ⟨x, h, hk⟩)
  · have hz : (w.alloc (.cells #[.slice ra L.length rc] t)).heap.size = w.heap.size + 1 := by simp
    simp only [jsV, List.mem_cons, List.mem_append, List.mem_flatMap] at hj
    rcases hj with rfl | hj | ⟨x, h, hj⟩
    · omega
    · have := h1 j hj; omega
    · have := h2 x h j hj; omega
theorem Lot.src {N : Nat} {w : World} {ra : Option Addr} {rc : Nat} {L : List Vs} (h : Lot N ra rc L w) (hl : L.length ≤ 4000000000000) (t : TypeId) :
    (∀ n, 1 ≤ n → RowSeq false n 23 #[.pointer (some ⟨w.heap.size, 0, none⟩)] (L.map (·.l)) (jsV w.heap.size ra L) (w.alloc (.cells #[.slice ra L.length rc] t))) ∧ ∀ j ∈ jsV w.heap.size ra L, j < (w.alloc (.cells #[.slice ra L.length rc] t)).heap.size := by
  obtain ⟨a', c', e, hs, _⟩ := h.row.see
  cases e
  exact valSrc hs h.lies hl h.lt (fun x hx k hk => (h.rows x hx k hk).2.1) t
theorem heVal : ∀ (args : Array Value) (w : World), (callFunc 23 args).run Try.prog w = .ok (.enter 23 args) w := fun _ _ => rfl
theorem heJoin : ∀ (args : Array Value) (w : World), (callFunc 17 args).run Try.prog w = .ok (.enter 17 args) w := fun _ _ => rfl
theorem heGrp : ∀ (args : Array Value) (w : World), (callFunc 27 args).run Try.prog w = .ok (.enter 27 args) w := fun _ _ => rfl
/-- Rows of two sides, at most one of which can be joined: what is joined. -/
theorem join1 (d : Nat) (hd : 5 ≤ d) (gl gr : Nat) (lbl lbr : Array Value) (frL frR : Bool) (RL RR : List (List Val)) (jsl jsr : List Nat) (lo ro : Int) (w : World)
    (heL : ∀ args w, (callFunc gl args).run Try.prog w = .ok (.enter gl args) w) (heR : ∀ args w, (callFunc gr args).run Try.prog w = .ok (.enter gr args) w)
    (hL : ∀ n, 1 ≤ n → RowSeq frL n gl lbl RL jsl w) (hR : ∀ n, 1 ≤ n → RowSeq frR n gr lbr RR jsr w) (hjl : ∀ j ∈ jsl, j < w.heap.size) (hjr : ∀ j ∈ jsr, j < w.heap.size)
    (hRR : RR.length ≤ 1) (hRRl : ∀ l ∈ RR, l.length ≤ 1800000000000) (hRLl : ∀ l ∈ RL, l.length ≤ 1800000000000) (w' : World)
    (hw : w' = (((w.alloc (.cells #[.func (.func gl) #[] lbl] 27)).alloc (.cells #[.func (.func gr) #[] lbr] 27)).alloc (.cells #[.int .i64 lo] 3)).alloc (.cells #[.int .i64 ro] 3)) :
    Kp [] w w' ∧ ∃ js, (∀ j ∈ js, j < w'.heap.size) ∧ RowSeq true (d - 1) 17 #[.pointer (some ⟨w.heap.size + 1, 0, none⟩), .pointer (some ⟨w.heap.size + 3, 0, none⟩), .pointer (some ⟨w.heap.size, 0, none⟩), .pointer (some ⟨w.heap.size + 2, 0, none⟩)] (joinR RL (ordR ro RR) lo ro) js w' := by
  obtain ⟨wa, ha⟩ : ∃ x, x = w.alloc (.cells #[.func (.func gl) #[] lbl] 27) := ⟨_, rfl⟩
  obtain ⟨wb, hb⟩ : ∃ x, x = wa.alloc (.cells #[.func (.func gr) #[] lbr] 27) := ⟨_, rfl⟩
  obtain ⟨wc, hc⟩ : ∃ x, x = wb.alloc (.cells #[.int .i64 lo] 3) := ⟨_, rfl⟩
  rw [← ha, ← hb, ← hc] at hw
  have za : wa.heap.size = w.heap.size + 1 := by rw [ha]; simp
  have zb : wb.heap.size = w.heap.size + 2 := by rw [hb]; simp [za]
  have zc : wc.heap.size = w.heap.size + 3 := by rw [hc]; simp [zb]
  have zd : w'.heap.size = w.heap.size + 4 := by rw [hw]; simp [zc]
  have ka : Kp [] w wa := by rw [ha]; exact (Kp.refl _ _).alloc _
  have kb : Kp [] wa wb := by rw [hb]; exact (Kp.refl _ _).alloc _
  have kc : Kp [] wb wc := by rw [hc]; exact (Kp.refl _ _).alloc _
  have kd : Kp [] wc w' := by rw [hw]; exact (Kp.refl _ _).alloc _
  have ba : Bn wa w.heap.size [.func (.func gl) #[] lbl] := by rw [ha]; exact Bn.new w _ _
  have bb : Bn wb (w.heap.size + 1) [.func (.func gr) #[] lbr] := by rw [hb, ← za]; exact Bn.new wa _ _
  have bc : Bn wc (w.heap.size + 2) [.int .i64 lo] := by rw [hc, ← zb]; exact Bn.new wb _ _
  have bd : Bn w' (w.heap.size + 3) [.int .i64 ro] := by rw [hw, ← zc]; exact Bn.new wc _ _
  have kcd := kc.trans kd (by simp)
  have kbd := kb.trans kcd (by simp)
  have kw := ka.trans kbd (by simp)
  refine ⟨kw, (jsl ++ jsr) ++ [w.heap.size + 1, w.heap.size + 3, w.heap.size, w.heap.size + 2], fun j hj => ?_, ?_⟩
  · rcases List.mem_append.1 hj with e | e
    · rcases List.mem_append.1 e with e | e
      · have := hjl j e; omega
      · have := hjr j e; omega
    · simp at e; omega
  · refine joinSeq (d - 1) (by omega) _ _ _ _ frL frR gl gr lbl lbr RL RR (ordR ro RR) jsl jsr _ lo ro w' heL heR ((bb.kept kcd).get 0 _ rfl) (bd.get 0 _ rfl) ((ba.kept kbd).get 0 _ rfl) ((bc.kept kd).get 0 _ rfl) (fun q hq => List.mem_append.2 (.inr hq)) (fun j hj => by simp [hj]) (fun j hj => by simp [hj]) (fun j hj => ?_) (fun n hn => (hL n hn).move (KeepB.ofKp kw (by simp))) (fun n hn => (hR n hn).move (KeepB.ofKp kw (by simp))) (by omega) hRRl hRLl ?_ ?_ (sort1 ro RR ?_) (fun SL v hSL => mono1 ?_)
    · rcases List.mem_append.1 hj with e | e
      · rcases List.mem_append.1 e with e | e
        · have := hjl j e; omega
        · have := hjr j e; omega
      · simp at e; omega
    · have := List.length_filter_le (fun l => !((vAt l ro).k == 0)) RR
      unfold ordR; omega
    · intro l hl
      exact hRRl l (List.mem_filter.1 hl).1
    · have := List.length_filter_le (fun l => !((vAt l ro).k == 0)) RR
      unfold ordR; omega
    · have h1 := congrArg List.length hSL
      have := List.length_filter_le (fun l => !((vAt l ro).k == 0)) RR
      unfold ordR at h1
      simp at h1
      omega
theorem sort1M (bs : List Int) (R : List (List Val)) (h1 : R.length ≤ 1) : ∀ (W : World) (N : Nat) (ra : Option Addr) (rc : Nat) (L : List Mb), Lom N ra rc L W → L.map Mb.pr = mbR bs R → Calls Try.prog 39 #[.slice ra L.length rc, .func (.func 40) #[] #[]] W (SortPM N ra rc L.length (mbR bs R) W) := fun W N ra rc L hl hm => by
  have hn : L.length ≤ 1 := by have := congrArg List.length hm; unfold mbR at this; simp at this; omega
  exact (cSortSt1M ra L.length rc _ W hn).mono fun e w' ⟨hv, e2⟩ => ⟨hv, L, rfl, by rw [e2]; exact hl, hm, by rw [e2]; exact Kp.refl _ _⟩
/-- One row's group, counted. -/
theorem group1 (d : Nat) (hd : 5 ≤ d) (q3 q4 q5 : Nat) (fr : Bool) (g : Nat) (lb : Array Value) (r : List Val) (jsr : List Nat) (ba : Option Addr) (bc : Nat) (bs : List Int) (ga : Option Addr) (gc : Nat) (gs : List (Int × Int)) (w : World)
    (heg : ∀ args w, (callFunc g args).run Try.prog w = .ok (.enter g args) w) (hR : ∀ n, 1 ≤ n → RowSeq fr n g lb [r] jsr w) (hjr : ∀ j ∈ jsr, j < w.heap.size) (hr : r.length ≤ 3600000000000)
    (c1 : w.cell? ⟨q3, 0, none⟩ = some (.func (.func g) #[] lb)) (c2 : w.cell? ⟨q4, 0, none⟩ = some (.slice ba bs.length bc)) (c3 : w.cell? ⟨q5, 0, none⟩ = some (.slice ga gs.length gc))
    (hb : IntE.Row w (.slice ba bs.length bc) bs) (hg : AgE.Row w (.slice ga gs.length gc) gs) (hl : bs.length + gs.length ≤ 3000000000000) (h0 : ∀ ag ∈ gs, ag.1 = 0) :
    ∃ js, (∀ j ∈ js, j < w.heap.size) ∧ RowSeq true (d - 1) 27 #[.pointer (some ⟨q3, 0, none⟩), .pointer (some ⟨q4, 0, none⟩), .pointer (some ⟨q5, 0, none⟩)] [pickV r bs ++ gs.map fun _ => ⟨2, false, 1, ⟨#[]⟩⟩] js w := by
  have hjs : ∀ j ∈ jsr ++ ([q3, q4, q5] ++ (blk ba ++ blk ga)), j < w.heap.size := fun j hj => by
    rcases List.mem_append.1 hj with e | e
    · exact hjr j e
    · rcases List.mem_append.1 e with e | e
      · simp at e
        rcases e with rfl | rfl | rfl
        · exact World.block_lt_of_cell? _ _ c1
        · exact World.block_lt_of_cell? _ _ c2
        · exact World.block_lt_of_cell? _ _ c3
      · rcases List.mem_append.1 e with e | e
        · exact hb.lt j (by rw [ownV]; exact e)
        · exact hg.lt j (by rw [ownV]; exact e)
  obtain ⟨a', c', e, hgs, _⟩ := hg.see
  cases e
  have hlen : ∀ (T : List Mb) (k : Nat), T.map Mb.pr = (mbR bs [r]).take k → k = 1 → T.length = 1 := fun T k h e => by
    have := congrArg List.length h
    subst e
    simpa [mbR] using this
  refine ⟨_, hjs, ?_⟩
  have := groupSeq (d - 1) (by omega) q3 q4 q5 fr g lb [r] jsr (jsr ++ ([q3, q4, q5] ++ (blk ba ++ blk ga))) ba bc bs ga gc gs (mbR bs [r]) 1 id (fun _ _ => ⟨2, false, 1, ⟨#[]⟩⟩) w heg c1 c2 c3 (fun q hq => List.mem_append.2 (.inr (List.mem_append.2 (.inl hq)))) (fun j hj => by simp [hj]) hjs hb (fun k hk => by simp [hk]) hgs (fun k hk => by simp [hk]) hR (by simp) (by simpa using hr) (by omega) (sort1M bs [r] (by simp)) (by simp [mbR]) (by simp [mbR]) rfl rfl (fun i hi => by simp [mbR]; omega) (fun p hp => by simp [mbR] at hp; rw [hp]; simp [pickV]; omega)
    (fun i hi W a c T hs hx ht => by
      obtain rfl : i = 0 := by omega
      have h1 : T.length = 1 := hlen T 1 (by simpa [mbR] using ht) rfl
      rw [h1]
      exact cTogether1 a c W)
    (fun i hi ag hag W a c T hs hx ht => by
      obtain rfl : i = 0 := by omega
      have h1 : T.length = 1 := hlen T 1 (by simpa [mbR] using ht) rfl
      have h2 := cTell0 a 1 c ag.2 W
      rw [h1, h0 ag hag]
      exact h2)
  simpa [grpR, mbR] using this
end Go.Proofs.Ytfolkjjhlcjfgab
end

section
namespace Go.Proofs.Ytfolkjjhlcjfgab
open Go.RowKit Go.Hay
attribute [local go_sem] Oper.semAt_some
set_option linter.unusedVariables false
set_option linter.unusedSimpArgs false

abbrev vTwo : Val := ⟨2, false, 2, ⟨#[]⟩⟩
theorem joinTwo : joinR [[vTwo]] (ordR 0 [[vTwo]]) 0 0 = [[vTwo, vTwo]] := by
  have h : vTwo.lt vTwo = false := by decide
  simp [joinR, fJ, ordR, vAt, cmpV, h]
/-- A lot of one row. -/
theorem Lot.one {N : Nat} {ra : Option Addr} {rc : Nat} {L : List Vs} {w : World} {r : List Val} (h : Lot N ra rc L w) (hL : L.map (·.l) = [r]) : ∃ g o x, L = [x] ∧ x.l = r ∧ ra = some ⟨g, o, none⟩ ∧ w.cell? ⟨g, o, none⟩ = some (.slice x.a x.l.length x.c) ∧ x.lies w := by
  match L, hL with
  | [x], hL =>
    simp at hL
    obtain ⟨a', c', e, hs, _⟩ := h.row.see
    cases e
    obtain ⟨g, o, e, hc⟩ := vsAt hs (k := 0) (x := x) rfl
    exact ⟨g, o, x, rfl, hL, e, by simpa using hc, h.lies x (by simp)⟩
set_option maxHeartbeats 16000000 in
set_option maxRecDepth 100000 in
theorem cAlive15 (w : World) : Calls Try.prog 5 #[] w fun e w' => e = .returned (.bool true) ∧ Kp [] w w' := by
  obtain ⟨wa, hwa, ka, ba⟩ : ∃ x, w.alloc (.cells #[.int .i64 2, .bool false, .int .i64 2, .string ⟨#[]⟩] 33) = x ∧ Kp [] w x ∧ Bn x w.heap.size [.int .i64 2, .bool false, .int .i64 2, .string ⟨#[]⟩] := ⟨_, rfl, (Kp.refl _ _).alloc _, Bn.new w _ _⟩
  obtain ⟨q0, hq0⟩ : ∃ q, w.heap.size = q := ⟨_, rfl⟩
  rw [hq0] at ba
  obtain ⟨w1, hw1, k1, b1⟩ : ∃ x, wa.alloc (.cells #[.slice (some ⟨q0, 0, none⟩) 1 1] 30) = x ∧ Kp [] wa x ∧ Bn x wa.heap.size [.slice (some ⟨q0, 0, none⟩) 1 1] := ⟨_, rfl, (Kp.refl _ _).alloc _, Bn.new wa _ _⟩
  obtain ⟨q1, hq1⟩ : ∃ q, wa.heap.size = q := ⟨_, rfl⟩
  rw [hq1] at b1
  have ba1 := ba.kept k1
  have s0 : VE.See w1 (some ⟨q0, 0, none⟩) [vTwo] := .inr ⟨q0, 0, rfl, fun j u hu => by rw [Nat.zero_add]; exact ba1.get j u (by simpa [El.cs, VE] using hu)⟩
  have x0 : (⟨some ⟨q0, 0, none⟩, 1, [vTwo]⟩ : Vs).lies w1 := ⟨seeV.1 s0, by simp, by show (1 : Nat) ≤ maxLen; unfold maxLen; omega, fun h => (by cases h)⟩
  have s1 : VsE.See w1 (some ⟨q1, 0, none⟩) [⟨some ⟨q0, 0, none⟩, 1, [vTwo]⟩] := .inr ⟨q1, 0, rfl, fun j u hu => by rw [Nat.zero_add]; exact b1.get j u (by simpa [El.cs, VsE] using hu)⟩
  have l0 : q0 < w1.heap.size := ba1.lt (by simp)
  have l1 : q1 < w1.heap.size := b1.lt (by simp)
  have HK1 := hid (ka.trans k1 (by simp))
  have HS := hid (And.intro s1 (And.intro x0 (And.intro l0 l1)))
  have cV := hid (cValuesE (some ⟨q1, 0, none⟩) 1 1 w1)
  clear ka k1 ba b1 ba1 s0 x0 s1 l0 l1
  go_enter Try.func5, Try.ntmps5
  go_wp2_with fail
  refine cV.out.mono ?_
  rintro e w2 ⟨rfl, hw2⟩
  have src1 := hid (valSrc (rc := 1) HS.out.1 (by simpa using HS.out.2.1) (by simp) (by simpa [blk] using HS.out.2.2.2) (by simpa [blk] using HS.out.2.2.1) 22)
  have k2 : Kp [] w1 w2 := by rw [hw2]; exact (Kp.refl _ _).alloc _
  have K2 := hid k2
  have hw2' := hid hw2
  obtain ⟨qa, hqa⟩ : ∃ q, w1.heap.size = q := ⟨_, rfl⟩
  have hqa' := hid hqa
  rw [hqa]
  have cC := hid (cCopied (some ⟨q1, 0, none⟩) 1 [⟨some ⟨q0, 0, none⟩, 1, [vTwo]⟩] w2 (ckSee (CK.ofKp k2) HS.out.1 (by simp)) (fun x hx => by rw [List.mem_singleton.1 hx]; exact HS.out.2.1.ck (CK.ofKp k2) (by simp)) (by simp) (by simp))
  have cCn : Hid (∀ W, Kp [] w2 W → Calls Try.prog 9 #[.slice (some ⟨q1, 0, none⟩) 1 1] W (LotP [[vTwo]] W)) := fun W k => cCopied (some ⟨q1, 0, none⟩) 1 [⟨some ⟨q0, 0, none⟩, 1, [vTwo]⟩] W (ckSee (CK.ofKp (k2.trans k (by simp))) HS.out.1 (by simp)) (fun x hx => by rw [List.mem_singleton.1 hx]; exact HS.out.2.1.ck (CK.ofKp (k2.trans k (by simp))) (by simp)) (by simp) (by simp)
  clear cV hw2 k2 hqa cC
  go_wp2_with fail
  refine (cCn.out w2 (Kp.refl _ _)).mono ?_
  rintro e w3 ⟨ra, rc, L, rfl, hlot, hL, k3⟩
  have hL1 : L.length = 1 := by have := congrArg List.length hL; simpa using this
  have src2 := hid (hlot.src (by omega) 22)
  rw [hL] at src2
  have K3 := hid (K2.out.trans k3 (by simp))
  have K23 := hid k3
  have cV := hid (cValuesE ra L.length rc w3)
  clear hlot hL k3
  have hL1' := hid hL1
  clear hL1
  go_wp2_with fail
  refine cV.out.mono ?_
  rintro e w4 ⟨rfl, hw4⟩
  have k4 : Kp [] w3 w4 := by rw [hw4]; exact (Kp.refl _ _).alloc _
  have K4 := hid (K3.out.trans k4 (by simp))
  have K24 := hid (K23.out.trans k4 (by simp))
  rw [← hw4] at src2
  have hs1m := hid (src1.out)
  simp only [List.length_cons, List.length_nil, Nat.zero_add, List.map_cons, List.map_nil] at hs1m
  rw [← hw2'.out, hqa'.out] at hs1m
  obtain ⟨qb, hqb⟩ : ∃ q, Hid (w3.heap.size = q) := ⟨_, rfl⟩
  rw [hqb.out] at src2 ⊢
  have hj1 := hid (join1 5 (by omega) 23 23 #[.pointer (some ⟨qa, 0, none⟩)] #[.pointer (some ⟨qb, 0, none⟩)] false false [[vTwo]] [[vTwo]] _ _ 0 0 w4 heVal heVal (fun n hn => (hs1m.out.1 n hn).move (KeepB.ofKp K24.out (by simp))) (src2.out.1) (fun j hj => by have := hs1m.out.2 j hj; have := K24.out.size; omega) src2.out.2 (by simp) (by simp) (by simp))
  have cJ := hid (cJoinE 23 23 #[.pointer (some ⟨qa, 0, none⟩)] #[.pointer (some ⟨qb, 0, none⟩)] 0 0 w4)
  clear cV hw4 k4
  go_wp2_with fail
  refine cJ.out.mono ?_
  rintro e w5 ⟨rfl, hw5⟩
  obtain ⟨k5, js, hjs, hsq⟩ := hj1.out w5 hw5
  rw [joinTwo] at hsq
  have cA := hid (callsIn_wide.1 (cAllR 5 (by omega) _ _ [[vTwo, vTwo]] js w5 heJoin hsq hjs (by simp) (by simp)))
  have K5 := hid (K4.out.trans k5 (by simp))
  have K25 := hid (K24.out.trans k5 (by simp))
  clear cJ hw5 k5 hjs hsq hj1 src2
  go_wp2_with fail
  refine cA.out.mono ?_
  rintro e w6 ⟨rj, rjc, LJ, rfl, hlotJ, hLJ, k6⟩
  have HJ := hid (And.intro hlotJ hLJ)
  have K6 := hid (K5.out.trans k6 (by simp))
  have K26 := hid (K25.out.trans k6 (by simp))
  clear cA hlotJ hLJ k6
  go_wp2_with fail
  refine (cCn.out w6 K26.out).mono ?_
  rintro e w7 ⟨ra7, rc7, L7, rfl, hlot7, hL7, k7⟩
  have hL71 : Hid (L7.length = 1) := by show _ = _; have := congrArg List.length hL7; simpa using this
  have src7 := hid (hlot7.src (by rw [hL71.out]; omega) 22)
  rw [hL7] at src7
  have K67 := hid k7
  have cV := hid (cValuesE ra7 L7.length rc7 w7)
  clear hlot7 hL7 k7
  go_wp2_with fail
  refine cV.out.mono ?_
  rintro e w8 ⟨rfl, hw8⟩
  have k8 : Kp [] w7 w8 := by rw [hw8]; exact (Kp.refl _ _).alloc _
  have K68 := hid (K67.out.trans k8 (by simp))
  rw [← hw8] at src7
  obtain ⟨qc, hqc⟩ : ∃ q, Hid (w7.heap.size = q) := ⟨_, rfl⟩
  rw [hqc.out] at src7 ⊢
  obtain ⟨w9, hw9, k9, b9⟩ : ∃ x, w8.alloc (.cells #[.int .i64 0, .int .i64 0] 42) = x ∧ Kp [] w8 x ∧ Bn x w8.heap.size [.int .i64 0, .int .i64 0] := ⟨_, rfl, (Kp.refl _ _).alloc _, Bn.new w8 _ _⟩
  obtain ⟨q9, hq9⟩ : ∃ q, w8.heap.size = q := ⟨_, rfl⟩
  rw [hq9] at b9
  have s9 : AgE.See w9 (some ⟨q9, 0, none⟩) [(0, 0)] := .inr ⟨q9, 0, rfl, fun j u hu => by rw [Nat.zero_add]; exact b9.get j u (by simpa [El.cs, AgE] using hu)⟩
  have K69 := hid (K68.out.trans k9 (by simp))
  have cG := hid (cGroupE 23 #[.pointer (some ⟨qc, 0, none⟩)] none 0 [] (some ⟨q9, 0, none⟩) 1 [(0, 0)] w9 (.inl rfl) (fun _ => rfl) (by simp) s9 (fun h => (by cases h)) (by simp))
  have K89 := hid k9
  clear cV hw8 k8 k9 b9 s9
  go_wp2_with fail
  refine cG.out.mono ?_
  rintro e w10 ⟨g3, g4, g5, a4, c4, a5, c5, rfl, x3, x4, x5, hb, hg, _, _, _, _, _, k10⟩
  have K810 := hid (K89.out.trans k10 (by simp))
  obtain ⟨js, hjs, hsq⟩ := group1 5 (by omega) g3 g4 g5 false _ _ [vTwo] _ a4 c4 [] a5 c5 [(0, 0)] w10 heVal (fun n hn => (src7.out.1 n hn).move (KeepB.ofKp K810.out (by simp))) (fun j hj => by have := src7.out.2 j hj; have := K810.out.size; omega) (by simp) x3 x4 x5 hb hg (by simp) (by simp)
  have cA := hid (callsIn_wide.1 (cAllR 5 (by omega) _ _ _ js w10 heGrp hsq hjs (by simp) (by simp [pickV])))
  have K610 := hid (K69.out.trans k10 (by simp))
  clear cG x3 x4 x5 hb hg k10 hjs hsq
  go_wp2_with fail
  refine cA.out.mono ?_
  rintro e w11 ⟨rm, rmc, LM, rfl, hlotM, hLM, k11⟩
  have K611 := hid (K610.out.trans k11 (by simp))
  obtain ⟨gm, om, xm, rfl, hxm, rfl, cm, hm⟩ := hlotM.one hLM
  obtain ⟨gj, oj, xj, rfl, hxj, rfl, cj, hj⟩ := HJ.out.1.one HJ.out.2
  have cj11 := kpAt K611.out cj
  obtain ⟨xa, xc, xl⟩ := xm
  dsimp only at hxm cm
  subst hxm
  obtain ⟨ja, jc, jl⟩ := xj
  dsimp only at hxj cj11
  subst hxj
  have hv := hm.see
  rcases hv with e | ⟨gv, ov, ev, hv⟩
  · simp [pickV] at e
  · dsimp only at ev
    subst ev
    obtain ⟨_, _, v2, _⟩ := hv 0 ⟨2, false, 1, ⟨#[]⟩⟩ (by simp [pickV])
    simp only [pickV, List.map_nil, List.map_cons, List.nil_append, List.length_cons, List.length_nil, Nat.zero_add, Nat.add_zero, Nat.zero_mul] at cm v2 cj11
    have KE := hid (HK1.out.trans (K6.out.trans K611.out (by simp)) (by simp))
    clear cA hlotM hLM k11 HJ cj hj hm hv
    go_wp2_with fail
    go_ret
    exact ⟨rfl, KE.out⟩
end Go.Proofs.Ytfolkjjhlcjfgab
end

/- The law's alive. The law's alive. What a term says of a value: plain. Terms as plain values, and how they lie. expr.Term. The reference: Term. All: the program, the reference. -/
import Derived.Test.YtfolkjjhlcjfgabDoorB9
import Derived.Test.YtfolkjjhlcjfgabDoorB1
import Derived.Test.YtfolkjjhlcjfgabDoorB2
import Derived.Test.YtfolkjjhlcjfgabDoorB4
import Derived.Deep.RegionHeld3
section
namespace Go.Proofs.YtfolkjjhlcjfgabDoor
open Go.RowKit Go.Hay
attribute [local go_sem] Oper.semAt_some
set_option linter.unusedVariables false
set_option linter.unusedSimpArgs false

/-- The blocks that an iterator over rows in memory reads. -/
def jsV (q : Nat) (ra : Option Addr) (L : List Vs) : List Nat := q :: (blk ra ++ L.flatMap fun x => blk x.a)
theorem valSrc {w : World} {ra : Option Addr} {rc : Nat} {L : List Vs} (hs : VsE.See w ra L) (hx : ∀ x ∈ L, x.lies w) (hl : L.length ≤ 4000000000000) (h1 : ∀ k ∈ blk ra, k < w.heap.size) (h2 : ∀ x ∈ L, ∀ k ∈ blk x.a, k < w.heap.size) (t : TypeId) :
    (∀ n, 1 ≤ n → RowSeq false n 17 #[.pointer (some ⟨w.heap.size, 0, none⟩)] (L.map (·.l)) (jsV w.heap.size ra L) (w.alloc (.cells #[.slice ra L.length rc] t))) ∧ ∀ j ∈ jsV w.heap.size ra L, j < (w.alloc (.cells #[.slice ra L.length rc] t)).heap.size := by
  have b := Bn.new w [.slice ra L.length rc] t
  have k : Kp [] w (w.alloc (.cells #[.slice ra L.length rc] t)) := (Kp.refl _ _).alloc _
  have ck := CK.ofKp k
  refine ⟨fun n hn => valuesSeq n hn _ ra rc L _ _ ⟨b.get 0 _ rfl, ckSee ck hs (by simp), fun x h => (hx x h).ck ck (by simp), by omega, by simp [jsV], fun k hk => by simp [jsV, hk], fun x h k hk => ?_⟩, fun j hj => ?_⟩
  · simp only [jsV, List.mem_cons, List.mem_append, List.mem_flatMap]
    exact .inr (.inr ⟨x, h, hk⟩)
  · have hz : (w.alloc (.cells #[.slice ra L.length rc] t)).heap.size = w.heap.size + 1 := by simp
    simp only [jsV, List.mem_cons, List.mem_append, List.mem_flatMap] at hj
    rcases hj with rfl | hj | ⟨x, h, hj⟩
    · omega
    · have := h1 j hj; omega
    · have := h2 x h j hj; omega
theorem Lot.src {N : Nat} {w : World} {ra : Option Addr} {rc : Nat} {L : List Vs} (h : Lot N ra rc L w) (hl : L.length ≤ 4000000000000) (t : TypeId) :
    (∀ n, 1 ≤ n → RowSeq false n 17 #[.pointer (some ⟨w.heap.size, 0, none⟩)] (L.map (·.l)) (jsV w.heap.size ra L) (w.alloc (.cells #[.slice ra L.length rc] t))) ∧ ∀ j ∈ jsV w.heap.size ra L, j < (w.alloc (.cells #[.slice ra L.length rc] t)).heap.size := by
  obtain ⟨a', c', e, hs, _⟩ := h.row.see
  cases e
  exact valSrc hs h.lies hl h.lt (fun x hx k hk => (h.rows x hx k hk).2.1) t
theorem heVal : ∀ (args : Array Value) (w : World), (callFunc 17 args).run Tryd.prog w = .ok (.enter 17 args) w := fun _ _ => rfl
theorem heJoin : ∀ (args : Array Value) (w : World), (callFunc 26 args).run Tryd.prog w = .ok (.enter 26 args) w := fun _ _ => rfl
theorem heGrp : ∀ (args : Array Value) (w : World), (callFunc 32 args).run Tryd.prog w = .ok (.enter 32 args) w := fun _ _ => rfl
/-- Rows of two sides, at most one of which can be joined: what is joined. -/
theorem join1 (d : Nat) (hd : 5 ≤ d) (gl gr : Nat) (lbl lbr : Array Value) (frL frR : Bool) (RL RR : List (List Val)) (jsl jsr : List Nat) (lo ro : Int) (w : World)
    (heL : ∀ args w, (callFunc gl args).run Tryd.prog w = .ok (.enter gl args) w) (heR : ∀ args w, (callFunc gr args).run Tryd.prog w = .ok (.enter gr args) w)
    (hL : ∀ n, 1 ≤ n → RowSeq frL n gl lbl RL jsl w) (hR : ∀ n, 1 ≤ n → RowSeq frR n gr lbr RR jsr w) (hjl : ∀ j ∈ jsl, j < w.heap.size) (hjr : ∀ j ∈ jsr, j < w.heap.size)
    (hRR : RR.length ≤ 1) (hRRl : ∀ l ∈ RR, l.length ≤ 1800000000000) (hRLl : ∀ l ∈ RL, l.length ≤ 1800000000000) (w' : World)
    (hw : w' = (((w.alloc (.cells #[.func (.func gl) #[] lbl] 27)).alloc (.cells #[.func (.func gr) #[] lbr] 27)).alloc (.cells #[.int .i64 lo] 3)).alloc (.cells #[.int .i64 ro] 3)) :
    Kp [] w w' ∧ ∃ js, (∀ j ∈ js, j < w'.heap.size) ∧ RowSeq true (d - 1) 26 #[.pointer (some ⟨w.heap.size + 1, 0, none⟩), .pointer (some ⟨w.heap.size + 3, 0, none⟩), .pointer (some ⟨w.heap.size, 0, none⟩), .pointer (some ⟨w.heap.size + 2, 0, none⟩)] (joinR RL (ordR ro RR) lo ro) js w' := by
  obtain ⟨wa, ha⟩ : ∃ x, x = w.alloc (.cells #[.func (.func gl) #[] lbl] 27) := ⟨_, rfl⟩
  obtain ⟨wb, hb⟩ : ∃ x, x = wa.alloc (.cells #[.func (.func gr) #[] lbr] 27) := ⟨_, rfl⟩
  obtain ⟨wc, hc⟩ : ∃ x, x = wb.alloc (.cells #[.int .i64 lo] 3) := ⟨_, rfl⟩
  rw [← ha, ← hb, ← hc] at hw
  have za : wa.heap.size = w.heap.size + 1 := by rw [ha]; simp
  have zb : wb.heap.size = w.heap.size + 2 := by rw [hb]; simp [za]
  have zc : wc.heap.size = w.heap.size + 3 := by rw [hc]; simp [zb]
  have zd : w'.heap.size = w.heap.size + 4 := by rw [hw]; simp [zc]
  have ka : Kp [] w wa := by rw [ha]; exact (Kp.refl _ _).alloc _
  have kb : Kp [] wa wb := by rw [hb]; exact (Kp.refl _ _).alloc _
  have kc : Kp [] wb wc := by rw [hc]; exact (Kp.refl _ _).alloc _
  have kd : Kp [] wc w' := by rw [hw]; exact (Kp.refl _ _).alloc _
  have ba : Bn wa w.heap.size [.func (.func gl) #[] lbl] := by rw [ha]; exact Bn.new w _ _
  have bb : Bn wb (w.heap.size + 1) [.func (.func gr) #[] lbr] := by rw [hb, ← za]; exact Bn.new wa _ _
  have bc : Bn wc (w.heap.size + 2) [.int .i64 lo] := by rw [hc, ← zb]; exact Bn.new wb _ _
  have bd : Bn w' (w.heap.size + 3) [.int .i64 ro] := by rw [hw, ← zc]; exact Bn.new wc _ _
  have kcd := kc.trans kd (by simp)
  have kbd := kb.trans kcd (by simp)
  have kw := ka.trans kbd (by simp)
  refine ⟨kw, (jsl ++ jsr) ++ [w.heap.size + 1, w.heap.size + 3, w.heap.size, w.heap.size + 2], fun j hj => ?_, ?_⟩
  · rcases List.mem_append.1 hj with e | e
    · rcases List.mem_append.1 e with e | e
      · have := hjl j e; omega
      · have := hjr j e; omega
    · simp at e; omega
  · refine joinSeq (d - 1) (by omega) _ _ _ _ frL frR gl gr lbl lbr RL RR (ordR ro RR) jsl jsr _ lo ro w' heL heR ((bb.kept kcd).get 0 _ rfl) (bd.get 0 _ rfl) ((ba.kept kbd).get 0 _ rfl) ((bc.kept kd).get 0 _ rfl) (fun q hq => List.mem_append.2 (.inr hq)) (fun j hj => by simp [hj]) (fun j hj => by simp [hj]) (fun j hj => ?_) (fun n hn => (hL n hn).move (KeepB.ofKp kw (by simp))) (fun n hn => (hR n hn).move (KeepB.ofKp kw (by simp))) (by omega) hRRl hRLl ?_ ?_ (sort1 ro RR ?_) (fun SL v hSL => mono1 ?_)
    · rcases List.mem_append.1 hj with e | e
      · rcases List.mem_append.1 e with e | e
        · have := hjl j e; omega
        · have := hjr j e; omega
      · simp at e; omega
    · have := List.length_filter_le (fun l => !((vAt l ro).k == 0)) RR
      unfold ordR; omega
    · intro l hl
      exact hRRl l (List.mem_filter.1 hl).1
    · have := List.length_filter_le (fun l => !((vAt l ro).k == 0)) RR
      unfold ordR; omega
    · have h1 := congrArg List.length hSL
      have := List.length_filter_le (fun l => !((vAt l ro).k == 0)) RR
      unfold ordR at h1
      simp at h1
      omega
theorem sort1M (bs : List Int) (R : List (List Val)) (h1 : R.length ≤ 1) : ∀ (W : World) (N : Nat) (ra : Option Addr) (rc : Nat) (L : List Mb), Lom N ra rc L W → L.map Mb.pr = mbR bs R → Calls Tryd.prog 45 #[.slice ra L.length rc, .func (.func 46) #[] #[]] W (SortPM N ra rc L.length (mbR bs R) W) := fun W N ra rc L hl hm => by
  have hn : L.length ≤ 1 := by have := congrArg List.length hm; unfold mbR at this; simp at this; omega
  exact (cSortSt1M ra L.length rc _ W hn).mono fun e w' ⟨hv, e2⟩ => ⟨hv, L, rfl, by rw [e2]; exact hl, hm, by rw [e2]; exact Kp.refl _ _⟩
/-- One row's group, counted. -/
theorem group1 (d : Nat) (hd : 5 ≤ d) (q3 q4 q5 : Nat) (fr : Bool) (g : Nat) (lb : Array Value) (r : List Val) (jsr : List Nat) (ba : Option Addr) (bc : Nat) (bs : List Int) (ga : Option Addr) (gc : Nat) (gs : List (Int × Int)) (w : World)
    (heg : ∀ args w, (callFunc g args).run Tryd.prog w = .ok (.enter g args) w) (hR : ∀ n, 1 ≤ n → RowSeq fr n g lb [r] jsr w) (hjr : ∀ j ∈ jsr, j < w.heap.size) (hr : r.length ≤ 3600000000000)
    (c1 : w.cell? ⟨q3, 0, none⟩ = some (.func (.func g) #[] lb)) (c2 : w.cell? ⟨q4, 0, none⟩ = some (.slice ba bs.length bc)) (c3 : w.cell? ⟨q5, 0, none⟩ = some (.slice ga gs.length gc))
    (hb : IntE.Row w (.slice ba bs.length bc) bs) (hg : AgE.Row w (.slice ga gs.length gc) gs) (hl : bs.length + gs.length ≤ 3000000000000) (h0 : ∀ ag ∈ gs, ag.1 = 0) :
    ∃ js, (∀ j ∈ js, j < w.heap.size) ∧ RowSeq true (d - 1) 32 #[.pointer (some ⟨q3, 0, none⟩), .pointer (some ⟨q4, 0, none⟩), .pointer (some ⟨q5, 0, none⟩)] [pickV r bs ++ gs.map fun _ => ⟨2, false, 1, ⟨#[]⟩⟩] js w := by
  have hjs : ∀ j ∈ jsr ++ ([q3, q4, q5] ++ (blk ba ++ blk ga)), j < w.heap.size := fun j hj => by
    rcases List.mem_append.1 hj with e | e
    · exact hjr j e
    · rcases List.mem_append.1 e with e | e
      · simp at e
        rcases e with rfl | rfl | rfl
        · exact World.block_lt_of_cell? _ _ c1
        · exact World.block_lt_of_cell? _ _ c2
        · exact World.block_lt_of_cell? _ _ c3
      · rcases List.mem_append.1 e with e | e
        · exact hb.lt j (by rw [ownV]; exact e)
        · exact hg.lt j (by rw [ownV]; exact e)
  obtain ⟨a', c', e, hgs, _⟩ := hg.see
  cases e
  have hlen : ∀ (T : List Mb) (k : Nat), T.map Mb.pr = (mbR bs [r]).take k → k = 1 → T.length = 1 := fun T k h e => by
    have := congrArg List.length h
    subst e
    simpa [mbR] using this
  refine ⟨_, hjs, ?_⟩
  have := groupSeq (d - 1) (by omega) q3 q4 q5 fr g lb [r] jsr (jsr ++ ([q3, q4, q5] ++ (blk ba ++ blk ga))) ba bc bs ga gc gs (mbR bs [r]) 1 id (fun _ _ => ⟨2, false, 1, ⟨#[]⟩⟩) w heg c1 c2 c3 (fun q hq => List.mem_append.2 (.inr (List.mem_append.2 (.inl hq)))) (fun j hj => by simp [hj]) hjs hb (fun k hk => by simp [hk]) hgs (fun k hk => by simp [hk]) hR (by simp) (by simpa using hr) (by omega) (sort1M bs [r] (by simp)) (by simp [mbR]) (by simp [mbR]) rfl rfl (fun i hi => by simp [mbR]; omega) (fun p hp => by simp [mbR] at hp; rw [hp]; simp [pickV]; omega)
    (fun i hi W a c T hs hx ht => by
      obtain rfl : i = 0 := by omega
      have h1 : T.length = 1 := hlen T 1 (by simpa [mbR] using ht) rfl
      rw [h1]
      exact cTogether1 a c W)
    (fun i hi ag hag W a c T hs hx ht => by
      obtain rfl : i = 0 := by omega
      have h1 : T.length = 1 := hlen T 1 (by simpa [mbR] using ht) rfl
      have h2 := cTell0 a 1 c ag.2 W
      rw [h1, h0 ag hag]
      exact h2)
  simpa [grpR, mbR] using this
end Go.Proofs.YtfolkjjhlcjfgabDoor
end

section
namespace Go.Proofs.YtfolkjjhlcjfgabDoor
open Go.RowKit Go.Hay
attribute [local go_sem] Oper.semAt_some
set_option linter.unusedVariables false
set_option linter.unusedSimpArgs false

abbrev vTwo : Val := ⟨2, false, 2, ⟨#[]⟩⟩
theorem joinTwo : joinR [[vTwo]] (ordR 0 [[vTwo]]) 0 0 = [[vTwo, vTwo]] := by
  have h : vTwo.lt vTwo = false := by decide
  simp [joinR, fJ, ordR, vAt, cmpV, h]
/-- A lot of one row. -/
theorem Lot.one {N : Nat} {ra : Option Addr} {rc : Nat} {L : List Vs} {w : World} {r : List Val} (h : Lot N ra rc L w) (hL : L.map (·.l) = [r]) : ∃ g o x, L = [x] ∧ x.l = r ∧ ra = some ⟨g, o, none⟩ ∧ w.cell? ⟨g, o, none⟩ = some (.slice x.a x.l.length x.c) ∧ x.lies w := by
  match L, hL with
  | [x], hL =>
    simp at hL
    obtain ⟨a', c', e, hs, _⟩ := h.row.see
    cases e
    obtain ⟨g, o, e, hc⟩ := vsAt hs (k := 0) (x := x) rfl
    exact ⟨g, o, x, rfl, hL, e, by simpa using hc, h.lies x (by simp)⟩
set_option maxHeartbeats 16000000 in
set_option maxRecDepth 100000 in
theorem cAlive15 (w : World) : Calls Tryd.prog 8 #[] w fun e w' => e = .returned (.bool true) ∧ Kp [] w w' := by
  obtain ⟨wa, hwa, ka, ba⟩ : ∃ x, w.alloc (.cells #[.int .i64 2, .bool false, .int .i64 2, .string ⟨#[]⟩] 39) = x ∧ Kp [] w x ∧ Bn x w.heap.size [.int .i64 2, .bool false, .int .i64 2, .string ⟨#[]⟩] := ⟨_, rfl, (Kp.refl _ _).alloc _, Bn.new w _ _⟩
  obtain ⟨q0, hq0⟩ : ∃ q, w.heap.size = q := ⟨_, rfl⟩
  rw [hq0] at ba
  obtain ⟨w1, hw1, k1, b1⟩ : ∃ x, wa.alloc (.cells #[.slice (some ⟨q0, 0, none⟩) 1 1] 30) = x ∧ Kp [] wa x ∧ Bn x wa.heap.size [.slice (some ⟨q0, 0, none⟩) 1 1] := ⟨_, rfl, (Kp.refl _ _).alloc _, Bn.new wa _ _⟩
  obtain ⟨q1, hq1⟩ : ∃ q, wa.heap.size = q := ⟨_, rfl⟩
  rw [hq1] at b1
  have ba1 := ba.kept k1
  have s0 : VE.See w1 (some ⟨q0, 0, none⟩) [vTwo] := .inr ⟨q0, 0, rfl, fun j u hu => by rw [Nat.zero_add]; exact ba1.get j u (by simpa [El.cs, VE] using hu)⟩
  have x0 : (⟨some ⟨q0, 0, none⟩, 1, [vTwo]⟩ : Vs).lies w1 := ⟨seeV.1 s0, by simp, by show (1 : Nat) ≤ maxLen; unfold maxLen; omega, fun h => (by cases h)⟩
  have s1 : VsE.See w1 (some ⟨q1, 0, none⟩) [⟨some ⟨q0, 0, none⟩, 1, [vTwo]⟩] := .inr ⟨q1, 0, rfl, fun j u hu => by rw [Nat.zero_add]; exact b1.get j u (by simpa [El.cs, VsE] using hu)⟩
  have l0 : q0 < w1.heap.size := ba1.lt (by simp)
  have l1 : q1 < w1.heap.size := b1.lt (by simp)
  have HK1 := hid (ka.trans k1 (by simp))
  have HS := hid (And.intro s1 (And.intro x0 (And.intro l0 l1)))
  have cV := hid (cValuesE (some ⟨q1, 0, none⟩) 1 1 w1)
  clear ka k1 ba b1 ba1 s0 x0 s1 l0 l1
  go_enter Tryd.func8, Tryd.ntmps8
  go_wp2_with fail
  refine cV.out.mono ?_
  rintro e w2 ⟨rfl, hw2⟩
  have src1 := hid (valSrc (rc := 1) HS.out.1 (by simpa using HS.out.2.1) (by simp) (by simpa [blk] using HS.out.2.2.2) (by simpa [blk] using HS.out.2.2.1) 22)
  have k2 : Kp [] w1 w2 := by rw [hw2]; exact (Kp.refl _ _).alloc _
  have K2 := hid k2
  have hw2' := hid hw2
  obtain ⟨qa, hqa⟩ : ∃ q, w1.heap.size = q := ⟨_, rfl⟩
  have hqa' := hid hqa
  rw [hqa]
  have cC := hid (cCopied (some ⟨q1, 0, none⟩) 1 [⟨some ⟨q0, 0, none⟩, 1, [vTwo]⟩] w2 (ckSee (CK.ofKp k2) HS.out.1 (by simp)) (fun x hx => by rw [List.mem_singleton.1 hx]; exact HS.out.2.1.ck (CK.ofKp k2) (by simp)) (by simp) (by simp))
  have cCn : Hid (∀ W, Kp [] w2 W → Calls Tryd.prog 7 #[.slice (some ⟨q1, 0, none⟩) 1 1] W (LotP [[vTwo]] W)) := fun W k => cCopied (some ⟨q1, 0, none⟩) 1 [⟨some ⟨q0, 0, none⟩, 1, [vTwo]⟩] W (ckSee (CK.ofKp (k2.trans k (by simp))) HS.out.1 (by simp)) (fun x hx => by rw [List.mem_singleton.1 hx]; exact HS.out.2.1.ck (CK.ofKp (k2.trans k (by simp))) (by simp)) (by simp) (by simp)
  clear cV hw2 k2 hqa cC
  go_wp2_with fail
  refine (cCn.out w2 (Kp.refl _ _)).mono ?_
  rintro e w3 ⟨ra, rc, L, rfl, hlot, hL, k3⟩
  have hL1 : L.length = 1 := by have := congrArg List.length hL; simpa using this
  have src2 := hid (hlot.src (by omega) 22)
  rw [hL] at src2
  have K3 := hid (K2.out.trans k3 (by simp))
  have K23 := hid k3
  have cV := hid (cValuesE ra L.length rc w3)
  clear hlot hL k3
  have hL1' := hid hL1
  clear hL1
  go_wp2_with fail
  refine cV.out.mono ?_
  rintro e w4 ⟨rfl, hw4⟩
  have k4 : Kp [] w3 w4 := by rw [hw4]; exact (Kp.refl _ _).alloc _
  have K4 := hid (K3.out.trans k4 (by simp))
  have K24 := hid (K23.out.trans k4 (by simp))
  rw [← hw4] at src2
  have hs1m := hid (src1.out)
  simp only [List.length_cons, List.length_nil, Nat.zero_add, List.map_cons, List.map_nil] at hs1m
  rw [← hw2'.out, hqa'.out] at hs1m
  obtain ⟨qb, hqb⟩ : ∃ q, Hid (w3.heap.size = q) := ⟨_, rfl⟩
  rw [hqb.out] at src2 ⊢
  have hj1 := hid (join1 5 (by omega) 17 17 #[.pointer (some ⟨qa, 0, none⟩)] #[.pointer (some ⟨qb, 0, none⟩)] false false [[vTwo]] [[vTwo]] _ _ 0 0 w4 heVal heVal (fun n hn => (hs1m.out.1 n hn).move (KeepB.ofKp K24.out (by simp))) (src2.out.1) (fun j hj => by have := hs1m.out.2 j hj; have := K24.out.size; omega) src2.out.2 (by simp) (by simp) (by simp))
  have cJ := hid (cJoinE 17 17 #[.pointer (some ⟨qa, 0, none⟩)] #[.pointer (some ⟨qb, 0, none⟩)] 0 0 w4)
  clear cV hw4 k4
  go_wp2_with fail
  refine cJ.out.mono ?_
  rintro e w5 ⟨rfl, hw5⟩
  obtain ⟨k5, js, hjs, hsq⟩ := hj1.out w5 hw5
  rw [joinTwo] at hsq
  have cA := hid (callsIn_wide.1 (cAllR 5 (by omega) _ _ [[vTwo, vTwo]] js w5 heJoin hsq hjs (by simp) (by simp)))
  have K5 := hid (K4.out.trans k5 (by simp))
  have K25 := hid (K24.out.trans k5 (by simp))
  clear cJ hw5 k5 hjs hsq hj1 src2
  go_wp2_with fail
  refine cA.out.mono ?_
  rintro e w6 ⟨rj, rjc, LJ, rfl, hlotJ, hLJ, k6⟩
  have HJ := hid (And.intro hlotJ hLJ)
  have K6 := hid (K5.out.trans k6 (by simp))
  have K26 := hid (K25.out.trans k6 (by simp))
  clear cA hlotJ hLJ k6
  go_wp2_with fail
  refine (cCn.out w6 K26.out).mono ?_
  rintro e w7 ⟨ra7, rc7, L7, rfl, hlot7, hL7, k7⟩
  have hL71 : Hid (L7.length = 1) := by show _ = _; have := congrArg List.length hL7; simpa using this
  have src7 := hid (hlot7.src (by rw [hL71.out]; omega) 22)
  rw [hL7] at src7
  have K67 := hid k7
  have cV := hid (cValuesE ra7 L7.length rc7 w7)
  clear hlot7 hL7 k7
  go_wp2_with fail
  refine cV.out.mono ?_
  rintro e w8 ⟨rfl, hw8⟩
  have k8 : Kp [] w7 w8 := by rw [hw8]; exact (Kp.refl _ _).alloc _
  have K68 := hid (K67.out.trans k8 (by simp))
  rw [← hw8] at src7
  obtain ⟨qc, hqc⟩ : ∃ q, Hid (w7.heap.size = q) := ⟨_, rfl⟩
  rw [hqc.out] at src7 ⊢
  obtain ⟨w9, hw9, k9, b9⟩ : ∃ x, w8.alloc (.cells #[.int .i64 0, .int .i64 0] 48) = x ∧ Kp [] w8 x ∧ Bn x w8.heap.size [.int .i64 0, .int .i64 0] := ⟨_, rfl, (Kp.refl _ _).alloc _, Bn.new w8 _ _⟩
  obtain ⟨q9, hq9⟩ : ∃ q, w8.heap.size = q := ⟨_, rfl⟩
  rw [hq9] at b9
  have s9 : AgE.See w9 (some ⟨q9, 0, none⟩) [(0, 0)] := .inr ⟨q9, 0, rfl, fun j u hu => by rw [Nat.zero_add]; exact b9.get j u (by simpa [El.cs, AgE] using hu)⟩
  have K69 := hid (K68.out.trans k9 (by simp))
  have cG := hid (cGroupE 17 #[.pointer (some ⟨qc, 0, none⟩)] none 0 [] (some ⟨q9, 0, none⟩) 1 [(0, 0)] w9 (.inl rfl) (fun _ => rfl) (by simp) s9 (fun h => (by cases h)) (by simp))
  have K89 := hid k9
  clear cV hw8 k8 k9 b9 s9
  go_wp2_with fail
  refine cG.out.mono ?_
  rintro e w10 ⟨g3, g4, g5, a4, c4, a5, c5, rfl, x3, x4, x5, hb, hg, _, _, _, _, _, k10⟩
  have K810 := hid (K89.out.trans k10 (by simp))
  obtain ⟨js, hjs, hsq⟩ := group1 5 (by omega) g3 g4 g5 false _ _ [vTwo] _ a4 c4 [] a5 c5 [(0, 0)] w10 heVal (fun n hn => (src7.out.1 n hn).move (KeepB.ofKp K810.out (by simp))) (fun j hj => by have := src7.out.2 j hj; have := K810.out.size; omega) (by simp) x3 x4 x5 hb hg (by simp) (by simp)
  have cA := hid (callsIn_wide.1 (cAllR 5 (by omega) _ _ _ js w10 heGrp hsq hjs (by simp) (by simp [pickV])))
  have K610 := hid (K69.out.trans k10 (by simp))
  clear cG x3 x4 x5 hb hg k10 hjs hsq
  go_wp2_with fail
  refine cA.out.mono ?_
  rintro e w11 ⟨rm, rmc, LM, rfl, hlotM, hLM, k11⟩
  have K611 := hid (K610.out.trans k11 (by simp))
  obtain ⟨gm, om, xm, rfl, hxm, rfl, cm, hm⟩ := hlotM.one hLM
  obtain ⟨gj, oj, xj, rfl, hxj, rfl, cj, hj⟩ := HJ.out.1.one HJ.out.2
  have cj11 := kpAt K611.out cj
  obtain ⟨xa, xc, xl⟩ := xm
  dsimp only at hxm cm
  subst hxm
  obtain ⟨ja, jc, jl⟩ := xj
  dsimp only at hxj cj11
  subst hxj
  have hv := hm.see
  rcases hv with e | ⟨gv, ov, ev, hv⟩
  · simp [pickV] at e
  · dsimp only at ev
    subst ev
    obtain ⟨_, _, v2, _⟩ := hv 0 ⟨2, false, 1, ⟨#[]⟩⟩ (by simp [pickV])
    simp only [pickV, List.map_nil, List.map_cons, List.nil_append, List.length_cons, List.length_nil, Nat.zero_add, Nat.add_zero, Nat.zero_mul] at cm v2 cj11
    have KE := hid (HK1.out.trans (K6.out.trans K611.out (by simp)) (by simp))
    clear cA hlotM hLM k11 HJ cj hj hm hv
    go_wp2_with fail
    go_ret
    exact ⟨rfl, KE.out⟩
end Go.Proofs.YtfolkjjhlcjfgabDoor
end

section
namespace Go.Proofs.YtfolkjjhlcjfgabDoor
open Go.RowKit Go.Hay

def teC (op a : Int) : Bool :=
  if op = 0 then a == 0 else if op = 1 then !(a == 0) else if op = 2 then decide (a < 0) else if op = 3 then decide (a ≤ 0) else if op = 4 then decide (0 < a) else if op = 5 then decide (0 ≤ a) else false
def termC (op xk vk a : Int) : Bool := if op = 6 then xk == 0 else if op = 7 then !(xk == 0) else if xk = 0 ∨ vk = 0 then false else teC op a
end Go.Proofs.YtfolkjjhlcjfgabDoor
end

section
namespace Go.Proofs.YtfolkjjhlcjfgabDoor
open Go.RowKit Go.Hay
set_option linter.unusedVariables false
set_option linter.unusedSimpArgs false

/-- A term. -/
structure Tm where
  co : Int
  op : Int
  x : Val
instance : Inhabited Tm := ⟨⟨0, 0, ⟨0, false, 0, ⟨#[]⟩⟩⟩⟩
def Tm.v (t : Tm) : Value := .agg #[.int .i64 t.co, .int .i64 t.op, .int .i64 t.x.k, .bool t.x.b, .int .i64 t.x.n, .string t.x.t]
def TmE : El Tm where
  n := 6
  c t := [.int .i64 t.co, .int .i64 t.op, .int .i64 t.x.k, .bool t.x.b, .int .i64 t.x.n, .string t.x.t]
  len _ := rfl
  one _ u hu := by simp at hu; rcases hu with rfl | rfl | rfl | rfl | rfl | rfl <;> rfl
  pos := by decide
theorem tmAt {w : World} {a : Option Addr} {l : List Tm} (h : TmE.See w a l) {j : Nat} {t : Tm} (hx : l[j]? = some t) : ∃ g o, a = some ⟨g, o, none⟩ ∧ w.cell? ⟨g, o + j * 6, none⟩ = some (.int .i64 t.co) ∧ w.cell? ⟨g, o + j * 6 + 1, none⟩ = some (.int .i64 t.op) ∧ w.cell? ⟨g, o + j * 6 + 2, none⟩ = some (.int .i64 t.x.k) ∧ w.cell? ⟨g, o + j * 6 + 3, none⟩ = some (.bool t.x.b) ∧ w.cell? ⟨g, o + j * 6 + 4, none⟩ = some (.int .i64 t.x.n) ∧ w.cell? ⟨g, o + j * 6 + 5, none⟩ = some (.string t.x.t) := by
  obtain ⟨g, o, rfl, hc⟩ := h.at hx
  exact ⟨g, o, rfl, hc 0 _ rfl, hc 1 _ rfl, hc 2 _ rfl, hc 3 _ rfl, hc 4 _ rfl, hc 5 _ rfl⟩
/-- The table of what a term asks of an order. -/
def askL : List Bool := [false, true, false, true, false, true, true, false, false, true, true, false, false, false, true, false, true, true]
def Asks (w : World) : Prop := 0 < w.heap.size ∧ ∀ i, i < 18 → w.cell? ⟨0, i, none⟩ = some (.bool (askL.getD i false))
theorem Asks.kept {w w' : World} {S : List Nat} (h : Asks w) (hk : Kp S w w') (h0 : 0 ∉ S) : Asks w' :=
  ⟨Nat.lt_of_lt_of_le h.1 hk.size, fun i hi => (hk.cell (p := ⟨0, i, none⟩) h.1 h0).trans (h.2 i hi)⟩
/-- Is a term true of a row? -/
def termT (t : Tm) (l : List Val) : Bool := if t.co < 0 ∨ (l.length : Int) ≤ t.co then false else termC t.op (l.getD t.co.toNat nulV).k t.x.k (cmpV (l.getD t.co.toNat nulV) t.x)
def allT (l : List Tm) (r : List Val) : Bool := l.all fun t => termT t r
theorem termT_out (t : Tm) (l : List Val) (h : t.co < 0 ∨ (l.length : Int) ≤ t.co) : termT t l = false := by unfold termT; rw [if_pos h]
theorem termT_at (t : Tm) (l : List Val) (i : Nat) (hi : i < l.length) (e : t.co = i) : termT t l = termC t.op l[i].k t.x.k (cmpV l[i] t.x) := by
  unfold termT
  rw [if_neg (by omega), e]
  simp [hi]
end Go.Proofs.YtfolkjjhlcjfgabDoor
end

section
namespace Go.Proofs.YtfolkjjhlcjfgabDoor
open Go.RowKit Go.Hay
set_option linter.unusedVariables false
set_option linter.unusedSimpArgs false

theorem cOrdered (op : Int) (w : World) : Calls Tryd.prog 37 #[.int .i64 op] w fun e w' => e = .returned (.bool (decide (0 ≤ op) && decide (op < 6))) ∧ w' = w := by
  by_cases h : 0 ≤ op
  · have d : decide (0 ≤ op) = true := by simpa using h
    rw [d]
    go_enter Tryd.func37, Tryd.ntmps37
    go_wp2_with fail
    go_returns
    exact ⟨by simp, rfl⟩
  · have d : decide (0 ≤ op) = false := by simpa using h
    rw [d]
    go_enter Tryd.func37, Tryd.ntmps37
    go_wp2_with fail
    go_returns
    exact ⟨by simp, rfl⟩
theorem cFull (p q : Nat) (v : Val) (t : Tm) (w : World) (hv : w.cell? ⟨p, 0, none⟩ = some (.int .i64 v.k)) (ht : w.cell? ⟨q, 2, none⟩ = some (.int .i64 t.x.k)) : Calls Tryd.prog 36 #[.pointer (some ⟨p, 0, none⟩), .pointer (some ⟨q, 0, none⟩)] w fun e w' => e = .returned (.bool (!(v.k == 0) && !(t.x.k == 0))) ∧ w' = w := by
  by_cases h : v.k = 0
  · have d : (v.k == 0) = true := by simpa using h
    have d' : (v.k != 0) = false := by simpa using h
    rw [d]
    clear h
    go_enter Tryd.func36, Tryd.ntmps36
    go_wp2_with fail
    go_returns
    exact ⟨by simp, rfl⟩
  · have d : (v.k == 0) = false := by simpa using h
    have d' : (v.k != 0) = true := by simpa using h
    rw [d]
    clear h
    go_enter Tryd.func36, Tryd.ntmps36
    go_wp2_with fail
    go_returns
    exact ⟨by simp [bne], rfl⟩
set_option maxHeartbeats 16000000 in
set_option maxRecDepth 100000 in
theorem xTerm (t : Tm) (a : Option Addr) (cap : Nat) (l : List Val) (w : World) (hT : Asks w) (hs : VE.See w a l) (hl : l.length ≤ 9223372036854775807) : Calls Tryd.prog 25 #[t.v, .slice a l.length cap] w fun e w' => e = .returned (.bool (termT t l)) ∧ Kp [] w w' := by
  obtain ⟨WA, eWA⟩ : ∃ Y, w.alloc (.cells #[.int .i64 t.co, .int .i64 t.op, .int .i64 t.x.k, .bool t.x.b, .int .i64 t.x.n, .string t.x.t] 42) = Y := ⟨_, rfl⟩
  have kA : Kp [] w WA := by rw [← eWA]; exact (Kp.refl _ _).alloc _
  have zA : WA.heap.size = w.heap.size + 1 := by rw [← eWA]; simp
  have bA : Bn WA w.heap.size [.int .i64 t.co, .int .i64 t.op, .int .i64 t.x.k, .bool t.x.b, .int .i64 t.x.n, .string t.x.t] := by rw [← eWA]; exact Bn.new w [.int .i64 t.co, .int .i64 t.op, .int .i64 t.x.k, .bool t.x.b, .int .i64 t.x.n, .string t.x.t] 42
  have ta0 := bA.get 0 _ rfl; have ta1 := bA.get 1 _ rfl; have ta2 := bA.get 2 _ rfl; have ta3 := bA.get 3 _ rfl; have ta4 := bA.get 4 _ rfl; have ta5 := bA.get 5 _ rfl
  unfold Tm.v
  by_cases h1 : t.co < 0
  · have d1 : decide (t.co < 0) = true := by simpa using h1
    rw [termT_out t l (.inl h1)]
    clear bA h1
    go_enter Tryd.func25, Tryd.ntmps25
    go_wp2_with fail
    go_returns
    exact ⟨rfl, kA⟩
  have d1 : decide (t.co < 0) = false := by simpa using h1
  by_cases h2 : (l.length : Int) ≤ t.co
  · have d2 : decide ((l.length : Int) ≤ t.co) = true := by simpa using h2
    rw [termT_out t l (.inr h2)]
    clear bA h1 h2
    go_enter Tryd.func25, Tryd.ntmps25
    go_wp2_with fail
    go_returns
    exact ⟨rfl, kA⟩
  have d2 : decide ((l.length : Int) ≤ t.co) = false := by simpa using h2
  obtain ⟨i, hi⟩ := Int.eq_ofNat_of_zero_le (show 0 ≤ t.co by omega)
  have hil : i < l.length := by omega
  rw [termT_at t l i hil hi]
  have hx : l[i]? = some l[i] := by simp [hil]
  obtain ⟨g, o, rfl, hc⟩ := (hs.keptNew kA).at hx
  have v0 := hc 0 _ rfl; have v1 := hc 1 _ rfl; have v2 := hc 2 _ rfl; have v3 := hc 3 _ rfl
  simp only [show VE.n = 4 from rfl, Nat.add_zero] at v0 v1 v2 v3
  generalize l[i] = v at *
  obtain ⟨WB, eWB⟩ : ∃ Y, WA.alloc (.cells #[.int .i64 0, .bool false, .int .i64 0, .string ⟨#[]⟩] 39) = Y := ⟨_, rfl⟩
  have kWB : Kp [] WA WB := by rw [← eWB]; exact (Kp.refl _ _).alloc _
  have zWB : WB.heap.size = WA.heap.size + 1 := by rw [← eWB]; simp
  have xWB : Bn WB (WA.heap.size) [.int .i64 0, .bool false, .int .i64 0, .string ⟨#[]⟩] := by rw [← eWB]; exact Bn.new WA [.int .i64 0, .bool false, .int .i64 0, .string ⟨#[]⟩] 39
  obtain ⟨WC, eWC⟩ : ∃ Y, ((((WB.setCell ⟨WA.heap.size, 0, none⟩ (.int .i64 v.k)).setCell ⟨WA.heap.size, 1, none⟩ (.bool v.b)).setCell ⟨WA.heap.size, 2, none⟩ (.int .i64 v.n)).setCell ⟨WA.heap.size, 3, none⟩ (.string v.t)) = Y := ⟨_, rfl⟩
  have kWC : Kp [WA.heap.size] WB WC := by rw [← eWC]; exact (((((Kp.refl _ _).setCell (by simp) _).setCell (by simp) _).setCell (by simp) _).setCell (by simp) _)
  have xWC : Bn WC (WA.heap.size) [.int .i64 v.k, .bool v.b, .int .i64 v.n, .string v.t] := by rw [← eWC]; exact ((((xWB.set 0 (by simp) (.int .i64 v.k)).set 1 (by simp) (.bool v.b)).set 2 (by simp) (.int .i64 v.n)).set 3 (by simp) (.string v.t))
  have zWC := kWC.size
  have ma0 := xWB.get 0 _ rfl; have ma1 := xWB.get 1 _ rfl; have ma2 := xWB.get 2 _ rfl; have ma3 := xWB.get 3 _ rfl
  have mf0 := xWB.free 0; have mf1 := xWB.free 1; have mf2 := xWB.free 2; have mf3 := xWB.free 3
  have va0 := xWC.get 0 _ rfl; have va1 := xWC.get 1 _ rfl; have va2 := xWC.get 2 _ rfl; have va3 := xWC.get 3 _ rfl
  have kC : Kp [] WA WC := kWB.trans kWC (fun x hx => .inr (by simp at hx; omega))
  have bC := bA.kept kC
  have tc0 := bC.get 0 _ rfl; have tc1 := bC.get 1 _ rfl; have tc2 := bC.get 2 _ rfl; have tc3 := bC.get 3 _ rfl; have tc4 := bC.get 4 _ rfl; have tc5 := bC.get 5 _ rfl
  have KW := hid (kA.trans kC (by simp))
  have HT := hid (hT.kept KW.out (by simp))
  have i1 : (0 : Int) ≤ (i : Int) := by omega
  have i2 : (i : Int) < (l.length : Int) := by omega
  have d2n : decide (l.length ≤ i) = false := by simp; omega
  have BB := hid (And.intro bC xWC)
  have zC : WA.heap.size < WC.heap.size := by omega
  have zD : w.heap.size < WA.heap.size := by omega
  have zE : w.heap.size < WC.heap.size := by omega
  have zA' : Hid (WA.heap.size = w.heap.size + 1) := hid zA
  clear zA hc hx hs hT kA kC kWB kWC xWB xWC bA bC h1 h2 zWB zWC
  obtain ⟨co, op, x⟩ := t
  obtain ⟨xk, xb, xn, xt⟩ := x
  obtain ⟨vk, vb, vn, vt⟩ := v
  simp only at *
  subst hi
  by_cases h6 : op = 6
  · subst h6
    clear HT BB
    rw [show termC 6 vk xk (cmpV ⟨vk, vb, vn, vt⟩ ⟨xk, xb, xn, xt⟩) = (vk == 0) from rfl]
    go_enter Tryd.func25, Tryd.ntmps25
    go_wp2_with fail
    go_returns
    exact ⟨rfl, KW.out⟩
  by_cases h7 : op = 7
  · subst h7
    clear HT BB
    rw [show termC 7 vk xk (cmpV ⟨vk, vb, vn, vt⟩ ⟨xk, xb, xn, xt⟩) = !(vk == 0) from rfl]
    go_enter Tryd.func25, Tryd.ntmps25
    go_wp2_with fail
    go_returns
    exact ⟨rfl, KW.out⟩
  have d6 : (op == 6) = false := by simpa using h6
  have d7 : (op == 7) = false := by simpa using h7
  have aO := hid (cOrdered op)
  have hF : Hid (∀ W', Kp [] WC W' → (W'.cell? ⟨w.heap.size, 0, none⟩ = some (.int .i64 (i : Int)) ∧ W'.cell? ⟨w.heap.size, 1, none⟩ = some (.int .i64 op) ∧ W'.cell? ⟨w.heap.size, 2, none⟩ = some (.int .i64 xk) ∧ W'.cell? ⟨w.heap.size, 3, none⟩ = some (.bool xb) ∧ W'.cell? ⟨w.heap.size, 4, none⟩ = some (.int .i64 xn) ∧ W'.cell? ⟨w.heap.size, 5, none⟩ = some (.string xt) ∧ W'.cell? ⟨WA.heap.size, 0, none⟩ = some (.int .i64 vk) ∧ W'.cell? ⟨WA.heap.size, 1, none⟩ = some (.bool vb) ∧ W'.cell? ⟨WA.heap.size, 2, none⟩ = some (.int .i64 vn) ∧ W'.cell? ⟨WA.heap.size, 3, none⟩ = some (.string vt))) := fun W' k => by
    have h1 := BB.out.1.kept k
    have h2 := BB.out.2.kept k
    exact ⟨h1.get 0 _ rfl, h1.get 1 _ rfl, h1.get 2 _ rfl, h1.get 3 _ rfl, h1.get 4 _ rfl, h1.get 5 _ rfl, h2.get 0 _ rfl, h2.get 1 _ rfl, h2.get 2 _ rfl, h2.get 3 _ rfl⟩
  by_cases h8 : 0 ≤ op ∧ op < 6
  · have hO : (decide (0 ≤ op) && decide (op < 6)) = true := by simp [h8]
    rw [hO] at aO
    clear hO
    have aFu := hid (fun W' (k : Kp [] WC W') => cFull WA.heap.size w.heap.size ⟨vk, vb, vn, vt⟩ ⟨(i : Int), op, ⟨xk, xb, xn, xt⟩⟩ W' (hF.out W' k).2.2.2.2.2.2.1 (hF.out W' k).2.2.1)
    simp only at aFu
    by_cases hf : vk = 0 ∨ xk = 0
    · have hR : Hid (termC op vk xk (cmpV ⟨vk, vb, vn, vt⟩ ⟨xk, xb, xn, xt⟩) = false) := by show _ = _; unfold termC; rw [if_neg h6, if_neg h7, if_pos hf]
      rw [hR.out]
      have hFF : (!(vk == 0) && !(xk == 0)) = false := by rcases hf with h | h <;> simp [h]
      rw [hFF] at aFu
      clear hFF hf hR HT h8 h6 h7
      go_enter Tryd.func25, Tryd.ntmps25
      go_wp2_with fail
      refine wp_region_held_drew (S := fun W' => W'.cell? ⟨w.heap.size, 0, none⟩ = some (.int .i64 (i : Int)) ∧ W'.cell? ⟨w.heap.size, 1, none⟩ = some (.int .i64 op) ∧ W'.cell? ⟨w.heap.size, 2, none⟩ = some (.int .i64 xk) ∧ W'.cell? ⟨w.heap.size, 3, none⟩ = some (.bool xb) ∧ W'.cell? ⟨w.heap.size, 4, none⟩ = some (.int .i64 xn) ∧ W'.cell? ⟨w.heap.size, 5, none⟩ = some (.string xt) ∧ W'.cell? ⟨WA.heap.size, 0, none⟩ = some (.int .i64 vk) ∧ W'.cell? ⟨WA.heap.size, 1, none⟩ = some (.bool vb) ∧ W'.cell? ⟨WA.heap.size, 2, none⟩ = some (.int .i64 vn) ∧ W'.cell? ⟨WA.heap.size, 3, none⟩ = some (.string vt)) (by kernel_rfl) ?_ (fun hHeld => ?_)
      · exact hF.out _ (Kp.refl _ _).drew
      have KD : Hid (Kp [] WC WC.drew) := hid (Kp.refl _ _).drew
      generalize WC.drew = Wd at *
      refine wpAnyH_take (i := 0) (v := ?_) rfl (by kernel_rfl) (by kernel_rfl) (by kernel_rfl) (fun _ _ _ h => h) (Or.inl ⟨by rfl, ?_⟩) (by assumption) ?_
      rotate_left
      · intro w hSw; (try dsimp only at hSw); go_simp <;> with_reducible rfl
      try simp only [Act.put, List.getElem_toArray, List.getElem_cons_zero, List.getElem_cons_succ, List.setIfInBounds_toArray, List.set_cons_zero, List.set_cons_succ]
      refine wpAnyH_take (i := 1) (v := ?_) rfl (by kernel_rfl) (by kernel_rfl) (by kernel_rfl) (fun _ _ _ h => h) (Or.inl ⟨by rfl, ?_⟩) (by assumption) ?_
      rotate_left
      · intro w hSw; (try dsimp only at hSw); go_simp <;> with_reducible rfl
      try simp only [Act.put, List.getElem_toArray, List.getElem_cons_zero, List.getElem_cons_succ, List.setIfInBounds_toArray, List.set_cons_zero, List.set_cons_succ]
      refine wpAnyH_ready (rs := [2]) (by kernel_rfl) (by simp) ?_
      refine AllReadyH.cons rfl (fun K hK => ?_) AllReadyH.nil
      go_simp
      refine (aO.out _).mono ?_
      rintro e wx ⟨rfl, ex⟩
      rw [ex]
      clear ex wx
      (try go_wp2_with fail)
      refine hK.out _ _ ?_ (fun hHeld => ?_)
      · exact hF.out _ KD.out
      clear hK K
      try simp only [Act.put, List.getElem_toArray, List.getElem_cons_zero, List.getElem_cons_succ, List.setIfInBounds_toArray, List.set_cons_zero, List.set_cons_succ]
      refine wpAnyH_take (i := 3) (v := ?_) rfl (by kernel_rfl) (by kernel_rfl) (by kernel_rfl) (fun _ _ _ h => h) (Or.inl ⟨by rfl, ?_⟩) (by assumption) ?_
      rotate_left
      · intro w hSw; (try dsimp only at hSw); go_simp <;> with_reducible rfl
      try simp only [Act.put, List.getElem_toArray, List.getElem_cons_zero, List.getElem_cons_succ, List.setIfInBounds_toArray, List.set_cons_zero, List.set_cons_succ]
      refine wpAnyH_take (i := 4) (v := ?_) rfl (by kernel_rfl) (by kernel_rfl) (by kernel_rfl) (fun _ _ _ h => h) (Or.inl ⟨by rfl, ?_⟩) (by assumption) ?_
      rotate_left
      · intro w hSw; (try dsimp only at hSw); go_simp <;> with_reducible rfl
      try simp only [Act.put, List.getElem_toArray, List.getElem_cons_zero, List.getElem_cons_succ, List.setIfInBounds_toArray, List.set_cons_zero, List.set_cons_succ]
      refine wpAnyH_ready (rs := [5]) (by kernel_rfl) (by simp) ?_
      refine AllReadyH.cons rfl (fun K hK => ?_) AllReadyH.nil
      go_simp
      refine (aFu.out _ KD.out).mono ?_
      rintro e wx ⟨rfl, ex⟩
      rw [ex]
      clear ex wx
      (try go_wp2_with fail)
      refine hK.out _ _ ?_ (fun hHeld => ?_)
      · exact hF.out _ KD.out
      clear hK K
      try simp only [Act.put, List.getElem_toArray, List.getElem_cons_zero, List.getElem_cons_succ, List.setIfInBounds_toArray, List.set_cons_zero, List.set_cons_succ]
      refine wpAnyH_take (i := 6) (v := ?_) rfl (by kernel_rfl) (by kernel_rfl) (by kernel_rfl) (fun _ _ _ h => h) (Or.inl ⟨by rfl, ?_⟩) (by assumption) ?_
      rotate_left
      · intro w hSw; (try dsimp only at hSw); go_simp <;> with_reducible rfl
      try simp only [Act.put, List.getElem_toArray, List.getElem_cons_zero, List.getElem_cons_succ, List.setIfInBounds_toArray, List.set_cons_zero, List.set_cons_succ]
      refine wpAnyH_take (i := 7) (v := ?_) rfl (by kernel_rfl) (by kernel_rfl) (by kernel_rfl) (fun _ _ _ h => h) (Or.inl ⟨by rfl, ?_⟩) (by assumption) ?_
      rotate_left
      · intro w hSw; (try dsimp only at hSw); go_simp <;> with_reducible rfl
      try simp only [Act.put, List.getElem_toArray, List.getElem_cons_zero, List.getElem_cons_succ, List.setIfInBounds_toArray, List.set_cons_zero, List.set_cons_succ]
      refine wpAnyH_take (i := 8) (v := undef) rfl (by kernel_rfl) (by kernel_rfl) (by kernel_rfl) (fun _ _ _ h => h) (Or.inr ⟨by rfl, rfl⟩) (by assumption) ?_
      try simp only [Act.put, List.getElem_toArray, List.getElem_cons_zero, List.getElem_cons_succ, List.setIfInBounds_toArray, List.set_cons_zero, List.set_cons_succ]
      refine wpAnyH_take (i := 9) (v := undef) rfl (by kernel_rfl) (by kernel_rfl) (by kernel_rfl) (fun _ _ _ h => h) (Or.inr ⟨by rfl, rfl⟩) (by assumption) ?_
      try simp only [Act.put, List.getElem_toArray, List.getElem_cons_zero, List.getElem_cons_succ, List.setIfInBounds_toArray, List.set_cons_zero, List.set_cons_succ]
      refine wpAnyH_take (i := 10) (v := undef) rfl (by kernel_rfl) (by kernel_rfl) (by kernel_rfl) (fun _ _ _ h => h) (Or.inr ⟨by rfl, rfl⟩) (by assumption) ?_
      try simp only [Act.put, List.getElem_toArray, List.getElem_cons_zero, List.getElem_cons_succ, List.setIfInBounds_toArray, List.set_cons_zero, List.set_cons_succ]
      refine wpAnyH_take (i := 11) (v := undef) rfl (by kernel_rfl) (by kernel_rfl) (by kernel_rfl) (fun _ _ _ h => h) (Or.inr ⟨by rfl, rfl⟩) (by assumption) ?_
      try simp only [Act.put, List.getElem_toArray, List.getElem_cons_zero, List.getElem_cons_succ, List.setIfInBounds_toArray, List.set_cons_zero, List.set_cons_succ]
      refine wpAnyH_take (i := 12) (v := undef) rfl (by kernel_rfl) (by kernel_rfl) (by kernel_rfl) (fun _ _ _ h => h) (Or.inr ⟨by rfl, rfl⟩) (by assumption) ?_
      try simp only [Act.put, List.getElem_toArray, List.getElem_cons_zero, List.getElem_cons_succ, List.setIfInBounds_toArray, List.set_cons_zero, List.set_cons_succ]
      refine wpAnyH_take (i := 13) (v := undef) rfl (by kernel_rfl) (by kernel_rfl) (by kernel_rfl) (fun _ _ _ h => h) (Or.inr ⟨by rfl, rfl⟩) (by assumption) ?_
      try simp only [Act.put, List.getElem_toArray, List.getElem_cons_zero, List.getElem_cons_succ, List.setIfInBounds_toArray, List.set_cons_zero, List.set_cons_succ]
      refine wpAnyH_take (i := 14) (v := undef) rfl (by kernel_rfl) (by kernel_rfl) (by kernel_rfl) (fun _ _ _ h => h) (Or.inr ⟨by rfl, rfl⟩) (by assumption) ?_
      try simp only [Act.put, List.getElem_toArray, List.getElem_cons_zero, List.getElem_cons_succ, List.setIfInBounds_toArray, List.set_cons_zero, List.set_cons_succ]
      refine wpAnyH_take (i := 15) (v := undef) rfl (by kernel_rfl) (by kernel_rfl) (by kernel_rfl) (fun _ _ _ h => h) (Or.inr ⟨by rfl, rfl⟩) (by assumption) ?_
      try simp only [Act.put, List.getElem_toArray, List.getElem_cons_zero, List.getElem_cons_succ, List.setIfInBounds_toArray, List.set_cons_zero, List.set_cons_succ]
      refine wpAnyH_take (i := 16) (v := undef) rfl (by kernel_rfl) (by kernel_rfl) (by kernel_rfl) (fun _ _ _ h => h) (Or.inr ⟨by rfl, rfl⟩) (by assumption) ?_
      try simp only [Act.put, List.getElem_toArray, List.getElem_cons_zero, List.getElem_cons_succ, List.setIfInBounds_toArray, List.set_cons_zero, List.set_cons_succ]
      refine wpAnyH_take (i := 17) (v := undef) rfl (by kernel_rfl) (by kernel_rfl) (by kernel_rfl) (fun _ _ _ h => h) (Or.inr ⟨by rfl, rfl⟩) (by assumption) ?_
      try simp only [Act.put, List.getElem_toArray, List.getElem_cons_zero, List.getElem_cons_succ, List.setIfInBounds_toArray, List.set_cons_zero, List.set_cons_succ]
      refine wpAnyH_take (i := 18) (v := ?_) rfl (by kernel_rfl) (by kernel_rfl) (by kernel_rfl) (fun _ _ _ h => h) (Or.inl ⟨by rfl, ?_⟩) (by assumption) ?_
      rotate_left
      · intro w hSw; (try dsimp only at hSw); go_simp <;> with_reducible rfl
      try simp only [Act.put, List.getElem_toArray, List.getElem_cons_zero, List.getElem_cons_succ, List.setIfInBounds_toArray, List.set_cons_zero, List.set_cons_succ]
      refine wpAnyH_take (i := 19) (v := ?_) rfl (by kernel_rfl) (by kernel_rfl) (by kernel_rfl) (fun _ _ _ h => h) (Or.inl ⟨by rfl, ?_⟩) (by assumption) ?_
      rotate_left
      · intro w hSw; (try dsimp only at hSw); go_simp <;> with_reducible rfl
      try simp only [Act.put, List.getElem_toArray, List.getElem_cons_zero, List.getElem_cons_succ, List.setIfInBounds_toArray, List.set_cons_zero, List.set_cons_succ]
      refine wpAnyH_done (by kernel_rfl) ?_ _
      clear hHeld
      go_wp2_with fail
      go_ret
      exact ⟨by rfl, KW.out.trans KD.out (by simp)⟩
    · have hR : Hid (termC op vk xk (cmpV ⟨vk, vb, vn, vt⟩ ⟨xk, xb, xn, xt⟩) = teC op (cmpV ⟨vk, vb, vn, vt⟩ ⟨xk, xb, xn, xt⟩)) := by show _ = _; unfold termC; rw [if_neg h6, if_neg h7, if_neg hf]
      rw [hR.out]
      have hFF : (!(vk == 0) && !(xk == 0)) = true := by simp only [not_or] at hf; simp [hf.1, hf.2]
      rw [hFF] at aFu
      have r1 := cmp_range ⟨vk, vb, vn, vt⟩ ⟨xk, xb, xn, xt⟩
      have aC := hid (fun W' => cCompare ⟨vk, vb, vn, vt⟩ ⟨xk, xb, xn, xt⟩ W')
      simp only [Val.v] at aC
      generalize cmpV ⟨vk, vb, vn, vt⟩ ⟨xk, xb, xn, xt⟩ = A at *
      obtain ⟨m, rfl⟩ := Int.eq_ofNat_of_zero_le h8.1
      have hm : m < 6 := by omega
      obtain ⟨n, hn⟩ := Int.eq_ofNat_of_zero_le (show 0 ≤ A + 1 by omega)
      have hn3 : n < 3 := by omega
      have hE : Hid (teC (m : Int) A = askL.getD (m * 3 + n) false) := by
        show _ = _
        obtain rfl : A = (n : Int) - 1 := by omega
        match m, hm with
        | 0, _ => match n, hn3 with
          | 0, _ => rfl
          | 1, _ => rfl
          | 2, _ => rfl
        | 1, _ => match n, hn3 with
          | 0, _ => rfl
          | 1, _ => rfl
          | 2, _ => rfl
        | 2, _ => match n, hn3 with
          | 0, _ => rfl
          | 1, _ => rfl
          | 2, _ => rfl
        | 3, _ => match n, hn3 with
          | 0, _ => rfl
          | 1, _ => rfl
          | 2, _ => rfl
        | 4, _ => match n, hn3 with
          | 0, _ => rfl
          | 1, _ => rfl
          | 2, _ => rfl
        | 5, _ => match n, hn3 with
          | 0, _ => rfl
          | 1, _ => rfl
          | 2, _ => rfl
        | m + 6, h => omega
      rw [hE.out]
      have wA : IntKind.i64.wrap (A + 1) = (n : Int) := by rw [hn, IntKind.wrap_i64]; omega
      have m1 : (0 : Int) ≤ (m : Int) := by omega
      have m2 : (m : Int) < 6 := by omega
      have n1 : (0 : Int) ≤ (n : Int) := by omega
      have n2 : (n : Int) < 3 := by omega
      have hF2 : Hid (∀ W', Kp [] WC W' → (W'.cell? ⟨w.heap.size, 0, none⟩ = some (.int .i64 (i : Int)) ∧ W'.cell? ⟨w.heap.size, 1, none⟩ = some (.int .i64 (m : Int)) ∧ W'.cell? ⟨w.heap.size, 2, none⟩ = some (.int .i64 xk) ∧ W'.cell? ⟨w.heap.size, 3, none⟩ = some (.bool xb) ∧ W'.cell? ⟨w.heap.size, 4, none⟩ = some (.int .i64 xn) ∧ W'.cell? ⟨w.heap.size, 5, none⟩ = some (.string xt) ∧ W'.cell? ⟨WA.heap.size, 0, none⟩ = some (.int .i64 vk) ∧ W'.cell? ⟨WA.heap.size, 1, none⟩ = some (.bool vb) ∧ W'.cell? ⟨WA.heap.size, 2, none⟩ = some (.int .i64 vn) ∧ W'.cell? ⟨WA.heap.size, 3, none⟩ = some (.string vt) ∧ W'.cell? ⟨0, m * 3 + n, none⟩ = some (.bool (askL.getD (m * 3 + n) false)))) := fun W' k => by
        have h1 := BB.out.1.kept k
        have h2 := BB.out.2.kept k
        exact ⟨h1.get 0 _ rfl, h1.get 1 _ rfl, h1.get 2 _ rfl, h1.get 3 _ rfl, h1.get 4 _ rfl, h1.get 5 _ rfl, h2.get 0 _ rfl, h2.get 1 _ rfl, h2.get 2 _ rfl, h2.get 3 _ rfl, (HT.out.kept k (by simp)).2 _ (by omega)⟩
      generalize askL.getD (m * 3 + n) false = R at *
      clear hFF hf hR HT h8 h6 h7 hE hn r1 hF
      have hF := hF2
      clear hF2
      go_enter Tryd.func25, Tryd.ntmps25
      go_wp2_with fail
      refine wp_region_held_drew (S := fun W' => W'.cell? ⟨w.heap.size, 0, none⟩ = some (.int .i64 (i : Int)) ∧ W'.cell? ⟨w.heap.size, 1, none⟩ = some (.int .i64 (m : Int)) ∧ W'.cell? ⟨w.heap.size, 2, none⟩ = some (.int .i64 xk) ∧ W'.cell? ⟨w.heap.size, 3, none⟩ = some (.bool xb) ∧ W'.cell? ⟨w.heap.size, 4, none⟩ = some (.int .i64 xn) ∧ W'.cell? ⟨w.heap.size, 5, none⟩ = some (.string xt) ∧ W'.cell? ⟨WA.heap.size, 0, none⟩ = some (.int .i64 vk) ∧ W'.cell? ⟨WA.heap.size, 1, none⟩ = some (.bool vb) ∧ W'.cell? ⟨WA.heap.size, 2, none⟩ = some (.int .i64 vn) ∧ W'.cell? ⟨WA.heap.size, 3, none⟩ = some (.string vt) ∧ W'.cell? ⟨0, m * 3 + n, none⟩ = some (.bool R)) (by kernel_rfl) ?_ (fun hHeld => ?_)
      · exact hF.out _ (Kp.refl _ _).drew
      have KD : Hid (Kp [] WC WC.drew) := hid (Kp.refl _ _).drew
      generalize WC.drew = Wd at *
      refine wpAnyH_take (i := 0) (v := ?_) rfl (by kernel_rfl) (by kernel_rfl) (by kernel_rfl) (fun _ _ _ h => h) (Or.inl ⟨by rfl, ?_⟩) (by assumption) ?_
      rotate_left
      · intro w hSw; (try dsimp only at hSw); go_simp <;> with_reducible rfl
      try simp only [Act.put, List.getElem_toArray, List.getElem_cons_zero, List.getElem_cons_succ, List.setIfInBounds_toArray, List.set_cons_zero, List.set_cons_succ]
      refine wpAnyH_take (i := 1) (v := ?_) rfl (by kernel_rfl) (by kernel_rfl) (by kernel_rfl) (fun _ _ _ h => h) (Or.inl ⟨by rfl, ?_⟩) (by assumption) ?_
      rotate_left
      · intro w hSw; (try dsimp only at hSw); go_simp <;> with_reducible rfl
      try simp only [Act.put, List.getElem_toArray, List.getElem_cons_zero, List.getElem_cons_succ, List.setIfInBounds_toArray, List.set_cons_zero, List.set_cons_succ]
      refine wpAnyH_ready (rs := [2]) (by kernel_rfl) (by simp) ?_
      refine AllReadyH.cons rfl (fun K hK => ?_) AllReadyH.nil
      go_simp
      refine (aO.out _).mono ?_
      rintro e wx ⟨rfl, ex⟩
      rw [ex]
      clear ex wx
      (try go_wp2_with fail)
      refine hK.out _ _ ?_ (fun hHeld => ?_)
      · exact hF.out _ KD.out
      clear hK K
      try simp only [Act.put, List.getElem_toArray, List.getElem_cons_zero, List.getElem_cons_succ, List.setIfInBounds_toArray, List.set_cons_zero, List.set_cons_succ]
      refine wpAnyH_take (i := 3) (v := ?_) rfl (by kernel_rfl) (by kernel_rfl) (by kernel_rfl) (fun _ _ _ h => h) (Or.inl ⟨by rfl, ?_⟩) (by assumption) ?_
      rotate_left
      · intro w hSw; (try dsimp only at hSw); go_simp <;> with_reducible rfl
      try simp only [Act.put, List.getElem_toArray, List.getElem_cons_zero, List.getElem_cons_succ, List.setIfInBounds_toArray, List.set_cons_zero, List.set_cons_succ]
      refine wpAnyH_take (i := 4) (v := ?_) rfl (by kernel_rfl) (by kernel_rfl) (by kernel_rfl) (fun _ _ _ h => h) (Or.inl ⟨by rfl, ?_⟩) (by assumption) ?_
      rotate_left
      · intro w hSw; (try dsimp only at hSw); go_simp <;> with_reducible rfl
      try simp only [Act.put, List.getElem_toArray, List.getElem_cons_zero, List.getElem_cons_succ, List.setIfInBounds_toArray, List.set_cons_zero, List.set_cons_succ]
      refine wpAnyH_ready (rs := [5]) (by kernel_rfl) (by simp) ?_
      refine AllReadyH.cons rfl (fun K hK => ?_) AllReadyH.nil
      go_simp
      refine (aFu.out _ KD.out).mono ?_
      rintro e wx ⟨rfl, ex⟩
      rw [ex]
      clear ex wx
      (try go_wp2_with fail)
      refine hK.out _ _ ?_ (fun hHeld => ?_)
      · exact hF.out _ KD.out
      clear hK K
      try simp only [Act.put, List.getElem_toArray, List.getElem_cons_zero, List.getElem_cons_succ, List.setIfInBounds_toArray, List.set_cons_zero, List.set_cons_succ]
      refine wpAnyH_take (i := 6) (v := ?_) rfl (by kernel_rfl) (by kernel_rfl) (by kernel_rfl) (fun _ _ _ h => h) (Or.inl ⟨by rfl, ?_⟩) (by assumption) ?_
      rotate_left
      · intro w hSw; (try dsimp only at hSw); go_simp <;> with_reducible rfl
      try simp only [Act.put, List.getElem_toArray, List.getElem_cons_zero, List.getElem_cons_succ, List.setIfInBounds_toArray, List.set_cons_zero, List.set_cons_succ]
      refine wpAnyH_take (i := 7) (v := ?_) rfl (by kernel_rfl) (by kernel_rfl) (by kernel_rfl) (fun _ _ _ h => h) (Or.inl ⟨by rfl, ?_⟩) (by assumption) ?_
      rotate_left
      · intro w hSw; (try dsimp only at hSw); go_simp <;> with_reducible rfl
      try simp only [Act.put, List.getElem_toArray, List.getElem_cons_zero, List.getElem_cons_succ, List.setIfInBounds_toArray, List.set_cons_zero, List.set_cons_succ]
      refine wpAnyH_take (i := 8) (v := ?_) rfl (by kernel_rfl) (by kernel_rfl) (by kernel_rfl) (fun _ _ _ h => h) (Or.inl ⟨by rfl, ?_⟩) (by assumption) ?_
      rotate_left
      · intro w hSw; (try dsimp only at hSw); go_simp <;> with_reducible rfl
      try simp only [Act.put, List.getElem_toArray, List.getElem_cons_zero, List.getElem_cons_succ, List.setIfInBounds_toArray, List.set_cons_zero, List.set_cons_succ]
      refine wpAnyH_take (i := 9) (v := ?_) rfl (by kernel_rfl) (by kernel_rfl) (by kernel_rfl) (fun _ _ _ h => h) (Or.inl ⟨by rfl, ?_⟩) (by assumption) ?_
      rotate_left
      · intro w hSw; (try dsimp only at hSw); go_simp <;> with_reducible rfl
      try simp only [Act.put, List.getElem_toArray, List.getElem_cons_zero, List.getElem_cons_succ, List.setIfInBounds_toArray, List.set_cons_zero, List.set_cons_succ]
      refine wpAnyH_take (i := 10) (v := ?_) rfl (by kernel_rfl) (by kernel_rfl) (by kernel_rfl) (fun _ _ _ h => h) (Or.inl ⟨by rfl, ?_⟩) (by assumption) ?_
      rotate_left
      · intro w hSw; (try dsimp only at hSw); go_simp <;> with_reducible rfl
      try simp only [Act.put, List.getElem_toArray, List.getElem_cons_zero, List.getElem_cons_succ, List.setIfInBounds_toArray, List.set_cons_zero, List.set_cons_succ]
      refine wpAnyH_take (i := 11) (v := ?_) rfl (by kernel_rfl) (by kernel_rfl) (by kernel_rfl) (fun _ _ _ h => h) (Or.inl ⟨by rfl, ?_⟩) (by assumption) ?_
      rotate_left
      · intro w hSw; (try dsimp only at hSw); go_simp <;> with_reducible rfl
      try simp only [Act.put, List.getElem_toArray, List.getElem_cons_zero, List.getElem_cons_succ, List.setIfInBounds_toArray, List.set_cons_zero, List.set_cons_succ]
      refine wpAnyH_take (i := 12) (v := ?_) rfl (by kernel_rfl) (by kernel_rfl) (by kernel_rfl) (fun _ _ _ h => h) (Or.inl ⟨by rfl, ?_⟩) (by assumption) ?_
      rotate_left
      · intro w hSw; (try dsimp only at hSw); go_simp <;> with_reducible rfl
      try simp only [Act.put, List.getElem_toArray, List.getElem_cons_zero, List.getElem_cons_succ, List.setIfInBounds_toArray, List.set_cons_zero, List.set_cons_succ]
      refine wpAnyH_take (i := 15) (v := ?_) rfl (by kernel_rfl) (by kernel_rfl) (by kernel_rfl) (fun _ _ _ h => h) (Or.inl ⟨by rfl, ?_⟩) (by assumption) ?_
      rotate_left
      · intro w hSw; (try dsimp only at hSw); go_simp <;> with_reducible rfl
      try simp only [Act.put, List.getElem_toArray, List.getElem_cons_zero, List.getElem_cons_succ, List.setIfInBounds_toArray, List.set_cons_zero, List.set_cons_succ]
      refine wpAnyH_ready (rs := [13]) (by kernel_rfl) (by simp) ?_
      refine AllReadyH.cons rfl (fun K hK => ?_) AllReadyH.nil
      go_simp
      refine (aC.out _).mono ?_
      rintro e w1 ⟨rfl, k1⟩
      (try go_wp2_with fail)
      refine hK.out _ _ ?_ (fun hHeld => ?_)
      · exact hF.out _ (KD.out.trans k1 (by simp))
      clear hK K
      try simp only [Act.put, List.getElem_toArray, List.getElem_cons_zero, List.getElem_cons_succ, List.setIfInBounds_toArray, List.set_cons_zero, List.set_cons_succ]
      have K1 := hid (KD.out.trans k1 (by simp))
      clear k1 KD
      refine wpAnyH_take (i := 14) (v := ?_) rfl (by kernel_rfl) (by kernel_rfl) (by kernel_rfl) (fun _ _ _ h => h) (Or.inl ⟨by rfl, ?_⟩) (by assumption) ?_
      rotate_left
      · intro w hSw; (try dsimp only at hSw); go_simp <;> (try simp only [wA]) <;> with_reducible rfl
      try simp only [Act.put, List.getElem_toArray, List.getElem_cons_zero, List.getElem_cons_succ, List.setIfInBounds_toArray, List.set_cons_zero, List.set_cons_succ]
      refine wpAnyH_take (i := 16) (v := ?_) rfl (by kernel_rfl) (by kernel_rfl) (by kernel_rfl) (fun _ _ _ h => h) (Or.inl ⟨by rfl, ?_⟩) (by assumption) ?_
      rotate_left
      · intro w hSw; (try dsimp only at hSw); go_simp <;> with_reducible rfl
      try simp only [Act.put, List.getElem_toArray, List.getElem_cons_zero, List.getElem_cons_succ, List.setIfInBounds_toArray, List.set_cons_zero, List.set_cons_succ]
      refine wpAnyH_take (i := 17) (v := ?_) rfl (by kernel_rfl) (by kernel_rfl) (by kernel_rfl) (fun _ _ _ h => h) (Or.inl ⟨by rfl, ?_⟩) (by assumption) ?_
      rotate_left
      · intro w hSw; (try dsimp only at hSw); go_simp <;> with_reducible rfl
      try simp only [Act.put, List.getElem_toArray, List.getElem_cons_zero, List.getElem_cons_succ, List.setIfInBounds_toArray, List.set_cons_zero, List.set_cons_succ]
      refine wpAnyH_take (i := 18) (v := ?_) rfl (by kernel_rfl) (by kernel_rfl) (by kernel_rfl) (fun _ _ _ h => h) (Or.inl ⟨by rfl, ?_⟩) (by assumption) ?_
      rotate_left
      · intro w hSw; (try dsimp only at hSw); go_simp <;> with_reducible rfl
      try simp only [Act.put, List.getElem_toArray, List.getElem_cons_zero, List.getElem_cons_succ, List.setIfInBounds_toArray, List.set_cons_zero, List.set_cons_succ]
      refine wpAnyH_take (i := 19) (v := ?_) rfl (by kernel_rfl) (by kernel_rfl) (by kernel_rfl) (fun _ _ _ h => h) (Or.inl ⟨by rfl, ?_⟩) (by assumption) ?_
      rotate_left
      · intro w hSw; (try dsimp only at hSw); go_simp <;> with_reducible rfl
      try simp only [Act.put, List.getElem_toArray, List.getElem_cons_zero, List.getElem_cons_succ, List.setIfInBounds_toArray, List.set_cons_zero, List.set_cons_succ]
      refine wpAnyH_done (by kernel_rfl) ?_ _
      clear hHeld
      go_wp2_with fail
      go_ret
      exact ⟨by rfl, KW.out.trans K1.out (by simp)⟩

  · have hO : (decide (0 ≤ op) && decide (op < 6)) = false := by simp; omega
    rw [hO] at aO
    have hR : Hid (termC op vk xk (cmpV ⟨vk, vb, vn, vt⟩ ⟨xk, xb, xn, xt⟩) = false) := by show _ = _; unfold termC teC; rw [if_neg h6, if_neg h7, if_neg (show ¬ op = 0 by omega), if_neg (show ¬ op = 1 by omega), if_neg (show ¬ op = 2 by omega), if_neg (show ¬ op = 3 by omega), if_neg (show ¬ op = 4 by omega), if_neg (show ¬ op = 5 by omega)]; simp
    rw [hR.out]
    clear hO hR HT h8 h6 h7
    go_enter Tryd.func25, Tryd.ntmps25
    go_wp2_with fail
    refine wp_region_held_drew (S := fun W' => W'.cell? ⟨w.heap.size, 0, none⟩ = some (.int .i64 (i : Int)) ∧ W'.cell? ⟨w.heap.size, 1, none⟩ = some (.int .i64 op) ∧ W'.cell? ⟨w.heap.size, 2, none⟩ = some (.int .i64 xk) ∧ W'.cell? ⟨w.heap.size, 3, none⟩ = some (.bool xb) ∧ W'.cell? ⟨w.heap.size, 4, none⟩ = some (.int .i64 xn) ∧ W'.cell? ⟨w.heap.size, 5, none⟩ = some (.string xt) ∧ W'.cell? ⟨WA.heap.size, 0, none⟩ = some (.int .i64 vk) ∧ W'.cell? ⟨WA.heap.size, 1, none⟩ = some (.bool vb) ∧ W'.cell? ⟨WA.heap.size, 2, none⟩ = some (.int .i64 vn) ∧ W'.cell? ⟨WA.heap.size, 3, none⟩ = some (.string vt)) (by kernel_rfl) ?_ (fun hHeld => ?_)
    · exact hF.out _ (Kp.refl _ _).drew
    have KD : Hid (Kp [] WC WC.drew) := hid (Kp.refl _ _).drew
    generalize WC.drew = Wd at *
    refine wpAnyH_take (i := 0) (v := ?_) rfl (by kernel_rfl) (by kernel_rfl) (by kernel_rfl) (fun _ _ _ h => h) (Or.inl ⟨by rfl, ?_⟩) (by assumption) ?_
    rotate_left
    · intro w hSw; (try dsimp only at hSw); go_simp <;> with_reducible rfl
    try simp only [Act.put, List.getElem_toArray, List.getElem_cons_zero, List.getElem_cons_succ, List.setIfInBounds_toArray, List.set_cons_zero, List.set_cons_succ]
    refine wpAnyH_take (i := 1) (v := ?_) rfl (by kernel_rfl) (by kernel_rfl) (by kernel_rfl) (fun _ _ _ h => h) (Or.inl ⟨by rfl, ?_⟩) (by assumption) ?_
    rotate_left
    · intro w hSw; (try dsimp only at hSw); go_simp <;> with_reducible rfl
    try simp only [Act.put, List.getElem_toArray, List.getElem_cons_zero, List.getElem_cons_succ, List.setIfInBounds_toArray, List.set_cons_zero, List.set_cons_succ]
    refine wpAnyH_ready (rs := [2]) (by kernel_rfl) (by simp) ?_
    refine AllReadyH.cons rfl (fun K hK => ?_) AllReadyH.nil
    go_simp
    refine (aO.out _).mono ?_
    rintro e wx ⟨rfl, ex⟩
    rw [ex]
    clear ex wx
    (try go_wp2_with fail)
    refine hK.out _ _ ?_ (fun hHeld => ?_)
    · exact hF.out _ KD.out
    clear hK K
    try simp only [Act.put, List.getElem_toArray, List.getElem_cons_zero, List.getElem_cons_succ, List.setIfInBounds_toArray, List.set_cons_zero, List.set_cons_succ]
    refine wpAnyH_take (i := 3) (v := ?_) rfl (by kernel_rfl) (by kernel_rfl) (by kernel_rfl) (fun _ _ _ h => h) (Or.inl ⟨by rfl, ?_⟩) (by assumption) ?_
    rotate_left
    · intro w hSw; (try dsimp only at hSw); go_simp <;> with_reducible rfl
    try simp only [Act.put, List.getElem_toArray, List.getElem_cons_zero, List.getElem_cons_succ, List.setIfInBounds_toArray, List.set_cons_zero, List.set_cons_succ]
    refine wpAnyH_take (i := 4) (v := undef) rfl (by kernel_rfl) (by kernel_rfl) (by kernel_rfl) (fun _ _ _ h => h) (Or.inr ⟨by rfl, rfl⟩) (by assumption) ?_
    try simp only [Act.put, List.getElem_toArray, List.getElem_cons_zero, List.getElem_cons_succ, List.setIfInBounds_toArray, List.set_cons_zero, List.set_cons_succ]
    refine wpAnyH_take (i := 5) (v := undef) rfl (by kernel_rfl) (by kernel_rfl) (by kernel_rfl) (fun _ _ _ h => h) (Or.inr ⟨by rfl, rfl⟩) (by assumption) ?_
    try simp only [Act.put, List.getElem_toArray, List.getElem_cons_zero, List.getElem_cons_succ, List.setIfInBounds_toArray, List.set_cons_zero, List.set_cons_succ]
    refine wpAnyH_take (i := 6) (v := ?_) rfl (by kernel_rfl) (by kernel_rfl) (by kernel_rfl) (fun _ _ _ h => h) (Or.inl ⟨by rfl, ?_⟩) (by assumption) ?_
    rotate_left
    · intro w hSw; (try dsimp only at hSw); go_simp <;> with_reducible rfl
    try simp only [Act.put, List.getElem_toArray, List.getElem_cons_zero, List.getElem_cons_succ, List.setIfInBounds_toArray, List.set_cons_zero, List.set_cons_succ]
    refine wpAnyH_take (i := 7) (v := ?_) rfl (by kernel_rfl) (by kernel_rfl) (by kernel_rfl) (fun _ _ _ h => h) (Or.inl ⟨by rfl, ?_⟩) (by assumption) ?_
    rotate_left
    · intro w hSw; (try dsimp only at hSw); go_simp <;> with_reducible rfl
    try simp only [Act.put, List.getElem_toArray, List.getElem_cons_zero, List.getElem_cons_succ, List.setIfInBounds_toArray, List.set_cons_zero, List.set_cons_succ]
    refine wpAnyH_take (i := 8) (v := undef) rfl (by kernel_rfl) (by kernel_rfl) (by kernel_rfl) (fun _ _ _ h => h) (Or.inr ⟨by rfl, rfl⟩) (by assumption) ?_
    try simp only [Act.put, List.getElem_toArray, List.getElem_cons_zero, List.getElem_cons_succ, List.setIfInBounds_toArray, List.set_cons_zero, List.set_cons_succ]
    refine wpAnyH_take (i := 9) (v := undef) rfl (by kernel_rfl) (by kernel_rfl) (by kernel_rfl) (fun _ _ _ h => h) (Or.inr ⟨by rfl, rfl⟩) (by assumption) ?_
    try simp only [Act.put, List.getElem_toArray, List.getElem_cons_zero, List.getElem_cons_succ, List.setIfInBounds_toArray, List.set_cons_zero, List.set_cons_succ]
    refine wpAnyH_take (i := 10) (v := undef) rfl (by kernel_rfl) (by kernel_rfl) (by kernel_rfl) (fun _ _ _ h => h) (Or.inr ⟨by rfl, rfl⟩) (by assumption) ?_
    try simp only [Act.put, List.getElem_toArray, List.getElem_cons_zero, List.getElem_cons_succ, List.setIfInBounds_toArray, List.set_cons_zero, List.set_cons_succ]
    refine wpAnyH_take (i := 11) (v := undef) rfl (by kernel_rfl) (by kernel_rfl) (by kernel_rfl) (fun _ _ _ h => h) (Or.inr ⟨by rfl, rfl⟩) (by assumption) ?_
    try simp only [Act.put, List.getElem_toArray, List.getElem_cons_zero, List.getElem_cons_succ, List.setIfInBounds_toArray, List.set_cons_zero, List.set_cons_succ]
    refine wpAnyH_take (i := 12) (v := undef) rfl (by kernel_rfl) (by kernel_rfl) (by kernel_rfl) (fun _ _ _ h => h) (Or.inr ⟨by rfl, rfl⟩) (by assumption) ?_
    try simp only [Act.put, List.getElem_toArray, List.getElem_cons_zero, List.getElem_cons_succ, List.setIfInBounds_toArray, List.set_cons_zero, List.set_cons_succ]
    refine wpAnyH_take (i := 13) (v := undef) rfl (by kernel_rfl) (by kernel_rfl) (by kernel_rfl) (fun _ _ _ h => h) (Or.inr ⟨by rfl, rfl⟩) (by assumption) ?_
    try simp only [Act.put, List.getElem_toArray, List.getElem_cons_zero, List.getElem_cons_succ, List.setIfInBounds_toArray, List.set_cons_zero, List.set_cons_succ]
    refine wpAnyH_take (i := 14) (v := undef) rfl (by kernel_rfl) (by kernel_rfl) (by kernel_rfl) (fun _ _ _ h => h) (Or.inr ⟨by rfl, rfl⟩) (by assumption) ?_
    try simp only [Act.put, List.getElem_toArray, List.getElem_cons_zero, List.getElem_cons_succ, List.setIfInBounds_toArray, List.set_cons_zero, List.set_cons_succ]
    refine wpAnyH_take (i := 15) (v := undef) rfl (by kernel_rfl) (by kernel_rfl) (by kernel_rfl) (fun _ _ _ h => h) (Or.inr ⟨by rfl, rfl⟩) (by assumption) ?_
    try simp only [Act.put, List.getElem_toArray, List.getElem_cons_zero, List.getElem_cons_succ, List.setIfInBounds_toArray, List.set_cons_zero, List.set_cons_succ]
    refine wpAnyH_take (i := 16) (v := undef) rfl (by kernel_rfl) (by kernel_rfl) (by kernel_rfl) (fun _ _ _ h => h) (Or.inr ⟨by rfl, rfl⟩) (by assumption) ?_
    try simp only [Act.put, List.getElem_toArray, List.getElem_cons_zero, List.getElem_cons_succ, List.setIfInBounds_toArray, List.set_cons_zero, List.set_cons_succ]
    refine wpAnyH_take (i := 17) (v := undef) rfl (by kernel_rfl) (by kernel_rfl) (by kernel_rfl) (fun _ _ _ h => h) (Or.inr ⟨by rfl, rfl⟩) (by assumption) ?_
    try simp only [Act.put, List.getElem_toArray, List.getElem_cons_zero, List.getElem_cons_succ, List.setIfInBounds_toArray, List.set_cons_zero, List.set_cons_succ]
    refine wpAnyH_take (i := 18) (v := ?_) rfl (by kernel_rfl) (by kernel_rfl) (by kernel_rfl) (fun _ _ _ h => h) (Or.inl ⟨by rfl, ?_⟩) (by assumption) ?_
    rotate_left
    · intro w hSw; (try dsimp only at hSw); go_simp <;> with_reducible rfl
    try simp only [Act.put, List.getElem_toArray, List.getElem_cons_zero, List.getElem_cons_succ, List.setIfInBounds_toArray, List.set_cons_zero, List.set_cons_succ]
    refine wpAnyH_take (i := 19) (v := ?_) rfl (by kernel_rfl) (by kernel_rfl) (by kernel_rfl) (fun _ _ _ h => h) (Or.inl ⟨by rfl, ?_⟩) (by assumption) ?_
    rotate_left
    · intro w hSw; (try dsimp only at hSw); go_simp <;> with_reducible rfl
    try simp only [Act.put, List.getElem_toArray, List.getElem_cons_zero, List.getElem_cons_succ, List.setIfInBounds_toArray, List.set_cons_zero, List.set_cons_succ]
    refine wpAnyH_done (by kernel_rfl) ?_ _
    clear hHeld
    go_wp2_with fail
    go_ret
    exact ⟨by rfl, KW.out.trans KD.out (by simp)⟩

end Go.Proofs.YtfolkjjhlcjfgabDoor
end

section
namespace Go.Proofs.YtfolkjjhlcjfgabDoor
open Go.RowKit Go.Hay
set_option linter.unusedVariables false
set_option linter.unusedSimpArgs false

end Go.Proofs.YtfolkjjhlcjfgabDoor
end

section
namespace Go.Proofs.YtfolkjjhlcjfgabDoor
open Go.RowKit Go.Hay
set_option linter.unusedVariables false
set_option linter.unusedSimpArgs false

set_option maxHeartbeats 8000000 in
set_option maxRecDepth 100000 in
theorem xAll (a b : Option Addr) (ca cb : Nat) (l : List Tm) (r : List Val) (w : World) (hT : Asks w) (ht : TmE.See w a l) (hs : VE.See w b r) (hl : l.length ≤ 9223372036854775806) (hr : r.length ≤ 9223372036854775807) : Calls Tryd.prog 15 #[.slice a l.length ca, .slice b r.length cb] w fun e w' => e = .returned (.bool (allT l r)) ∧ Kp [] w w' := by
  have HS := hid hs
  have HTm := hid ht
  have HA := hid hT
  clear hs ht hT
  obtain ⟨R, hR⟩ : ∃ R, Hid (allT l r = R) := ⟨_, hid rfl⟩
  rw [hR.out]
  go_enter Tryd.func15, Tryd.ntmps15
  go_wp2_with fail
  go_loopw [9] (fun i wr => ∃ j : Nat, j ≤ l.length ∧ i = .int .i64 j ∧ Hid (allT (l.take j) r = true) ∧ Kp [] w wr) (fun i _ => l.length - (intOf i).toNat)
  case atStart => exact ⟨0, Nat.zero_le _, rfl, hid rfl, Kp.refl _ _⟩
  case round =>
    obtain ⟨j, hj, rfl, hst, kr⟩ := hrel
    by_cases hjl : j < l.length
    · have hx : l[j]? = some l[j] := by simp [hjl]
      obtain ⟨g, o, rfl, x0, x1, x2, x3, x4, x5⟩ := tmAt (HTm.out.keptNew kr) hx
      have i1 : (0 : Int) ≤ (j : Int) := by omega
      have i2 : (j : Int) < (l.length : Int) := by omega
      have i3 : (j : Int) + 1 ≤ 9223372036854775807 := by omega
      have hsu : Hid (allT (l.take (j + 1)) r = termT l[j] r) := by
        show _ = _
        have h1 := hst.out
        unfold allT at h1 ⊢
        rw [List.take_succ_eq_append_getElem hjl, List.all_append, h1]
        simp
      have hno : Hid (termT l[j] r = false → R = false) := fun e => by
        rw [← hR.out]
        unfold allT
        rw [List.all_eq_false]
        exact ⟨_, List.getElem_mem hjl, by rw [e]; simp⟩
      clear hx
      generalize l[j] = t at *
      obtain ⟨WA, eWA⟩ : ∃ Y, wr.alloc (.cells #[.int .i64 0, .int .i64 0, .int .i64 0, .bool false, .int .i64 0, .string ⟨#[]⟩] 42) = Y := ⟨_, rfl⟩
      have kWA : Kp [] wr WA := by rw [← eWA]; exact (Kp.refl _ _).alloc _
      have zWA : WA.heap.size = wr.heap.size + 1 := by rw [← eWA]; simp
      have xWA : Bn WA (wr.heap.size) [.int .i64 0, .int .i64 0, .int .i64 0, .bool false, .int .i64 0, .string ⟨#[]⟩] := by rw [← eWA]; exact Bn.new wr [.int .i64 0, .int .i64 0, .int .i64 0, .bool false, .int .i64 0, .string ⟨#[]⟩] 42
      obtain ⟨WB, eWB⟩ : ∃ Y, ((((((WA.setCell ⟨wr.heap.size, 0, none⟩ (.int .i64 t.co)).setCell ⟨wr.heap.size, 1, none⟩ (.int .i64 t.op)).setCell ⟨wr.heap.size, 2, none⟩ (.int .i64 t.x.k)).setCell ⟨wr.heap.size, 3, none⟩ (.bool t.x.b)).setCell ⟨wr.heap.size, 4, none⟩ (.int .i64 t.x.n)).setCell ⟨wr.heap.size, 5, none⟩ (.string t.x.t)) = Y := ⟨_, rfl⟩
      have kWB : Kp [wr.heap.size] WA WB := by rw [← eWB]; exact (((((((Kp.refl _ _).setCell (by simp) _).setCell (by simp) _).setCell (by simp) _).setCell (by simp) _).setCell (by simp) _).setCell (by simp) _)
      have xWB : Bn WB (wr.heap.size) [.int .i64 t.co, .int .i64 t.op, .int .i64 t.x.k, .bool t.x.b, .int .i64 t.x.n, .string t.x.t] := by rw [← eWB]; exact ((((((xWA.set 0 (by simp) (.int .i64 t.co)).set 1 (by simp) (.int .i64 t.op)).set 2 (by simp) (.int .i64 t.x.k)).set 3 (by simp) (.bool t.x.b)).set 4 (by simp) (.int .i64 t.x.n)).set 5 (by simp) (.string t.x.t))
      have zWB := kWB.size
      have ma0 := xWA.get 0 _ rfl; have ma1 := xWA.get 1 _ rfl; have ma2 := xWA.get 2 _ rfl; have ma3 := xWA.get 3 _ rfl; have ma4 := xWA.get 4 _ rfl; have ma5 := xWA.get 5 _ rfl
      have mf0 := xWA.free 0; have mf1 := xWA.free 1; have mf2 := xWA.free 2; have mf3 := xWA.free 3; have mf4 := xWA.free 4; have mf5 := xWA.free 5
      have pc0 := xWB.get 0 _ rfl; have pc1 := xWB.get 1 _ rfl; have pc2 := xWB.get 2 _ rfl; have pc3 := xWB.get 3 _ rfl; have pc4 := xWB.get 4 _ rfl; have pc5 := xWB.get 5 _ rfl
      have kB : Kp [] wr WB := kWA.trans kWB (fun x hx => .inr (by simp at hx; omega))
      have KB := hid (kr.trans kB (by simp))
      have aT := hid (xTerm t b cb r WB (HA.out.kept KB.out (by simp)) (HS.out.keptNew KB.out) hr)
      clear kWA kWB xWA xWB kB
      generalize termT t r = Z at *
      obtain ⟨co, op, ⟨xk, xb, xn, xt⟩⟩ := t
      simp only [Tm.v] at *
      go_wp2_with fail
      refine aT.out.mono ?_
      rintro e w2 ⟨rfl, k2⟩
      have K2 := hid (KB.out.trans k2 (by simp))
      clear aT k2 KB x0 x1 x2 x3 x4 x5 eWA eWB ma0 ma1 ma2 ma3 ma4 ma5 mf0 mf1 mf2 mf3 mf4 mf5 pc0 pc1 pc2 pc3 pc4 pc5
      cases Z with
      | false =>
        have h3 := hid (hno.out rfl)
        clear hno hsu
        go_wp2_with fail
        go_ret
        exact ⟨by rw [h3.out]; rfl, K2.out⟩
      | true =>
        clear hno
        go_wp2_with fail
        exact ⟨⟨j + 1, by omega, by go_num, hsu, K2.out⟩, by simp [intOf]; omega⟩
    · have e : j = l.length := by omega
      subst e
      have h4 : Hid (R = true) := by show _ = _; rw [← hR.out]; have := hst.out; rwa [List.take_length] at this
      go_wp2_with fail
      go_ret
      exact ⟨by rw [h4.out]; rfl, kr⟩
end Go.Proofs.YtfolkjjhlcjfgabDoor
end

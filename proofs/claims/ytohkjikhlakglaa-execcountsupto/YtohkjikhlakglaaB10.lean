/- The law's alive. The law's alive. Plain mathematics of the bytes: numbers in so many bytes, the highest first; the form of a Var. No Go text. More plain mathematics: a number and its bytes, back and forth; what a Var read comes to. Arguments opened: a slice of elements of whatever type, told by what it sees; how great it may be. Arguments opened: slices of values, as elements. Rows, and places, among the arguments. exec.compare: rows by some columns, then whole. Orders, and what is asked of groups, among the arguments. -/
import Derived.Test.YtohkjikhlakglaaB9
import Derived.Below
import Derived.Test.YtohkjikhlakglaaRows
import Derived.Test.YtohkjikhlakglaaB1
import Derived.ProofKit
import Derived.OpenShut
import Derived.ShutString
import Derived.ChangeOld
import Derived.Deep.Slices
import Derived.Test.YtohkjikhlakglaaB2
import Derived.Test.YtohkjikhlakglaaB6
import Derived.Test.YtohkjikhlakglaaB4
import Derived.Test.YtohkjikhlakglaaB8
section
namespace Go.Proofs.Ytohkjikhlakglaa
open Go.RowKit Go.Hay
attribute [local go_sem] Oper.semAt_some
set_option linter.unusedVariables false
set_option linter.unusedSimpArgs false

/-- The blocks that an iterator over rows in memory reads. -/
def jsV (q : Nat) (ra : Option Addr) (L : List Vs) : List Nat := q :: (blk ra ++ L.flatMap fun x => blk x.a)
theorem valSrc {w : World} {ra : Option Addr} {rc : Nat} {L : List Vs} (hs : VsE.See w ra L) (hx : ∀ x ∈ L, x.lies w) (hl : L.length ≤ 4000000000000) (h1 : ∀ k ∈ blk ra, k < w.heap.size) (h2 : ∀ x ∈ L, ∀ k ∈ blk x.a, k < w.heap.size) (t : TypeId) :
    (∀ n, 1 ≤ n → RowSeq false n 27 #[.pointer (some ⟨w.heap.size, 0, none⟩)] (L.map (·.l)) (jsV w.heap.size ra L) (w.alloc (.cells #[.slice ra L.length rc] t))) ∧ ∀ j ∈ jsV w.heap.size ra L, j < (w.alloc (.cells #[.slice ra L.length rc] t)).heap.size := by
  have b := Bn.new w [.slice ra L.length rc] t
  have k : Kp [] w (w.alloc (.cells #[.slice ra L.length rc] t)) := (Kp.refl _ _).alloc _
  have ck := CK.ofKp k
  refine ⟨fun n hn => valuesSeq n hn _ ra rc L _ _ ⟨b.get 0 _ rfl, ckSee ck hs (by simp), fun x h => (hx x h).ck ck (by simp), by omega, by simp [jsV], fun k hk => by simp [jsV, hk], fun x h k hk => ?_⟩, fun j hj => ?_⟩
  · simp only [jsV, List.mem_cons, List.mem_append, List.mem_flatMap]
    exact .inr (.inr ⟨x, h, hk⟩)
  · have hz : (w.alloc (.cells #[.slice ra L.length rc] t)).heap.size = w.heap.size + 1 := by simp
    simp only [jsV, List.mem_cons, List.mem_append, List.mem_flatMap] at hj
    rcases hj with rfl | hj | ⟨x, h, hj⟩
    · omega
    · have := h1 j hj; omega
    · have := h2 x h j hj; omega
theorem Lot.src {N : Nat} {w : World} {ra : Option Addr} {rc : Nat} {L : List Vs} (h : Lot N ra rc L w) (hl : L.length ≤ 4000000000000) (t : TypeId) :
    (∀ n, 1 ≤ n → RowSeq false n 27 #[.pointer (some ⟨w.heap.size, 0, none⟩)] (L.map (·.l)) (jsV w.heap.size ra L) (w.alloc (.cells #[.slice ra L.length rc] t))) ∧ ∀ j ∈ jsV w.heap.size ra L, j < (w.alloc (.cells #[.slice ra L.length rc] t)).heap.size := by
  obtain ⟨a', c', e, hs, _⟩ := h.row.see
  cases e
  exact valSrc hs h.lies hl h.lt (fun x hx k hk => (h.rows x hx k hk).2.1) t
theorem heVal : ∀ (args : Array Value) (w : World), (callFunc 27 args).run Try.prog w = .ok (.enter 27 args) w := fun _ _ => rfl
theorem heJoin : ∀ (args : Array Value) (w : World), (callFunc 42 args).run Try.prog w = .ok (.enter 42 args) w := fun _ _ => rfl
theorem heGrp : ∀ (args : Array Value) (w : World), (callFunc 30 args).run Try.prog w = .ok (.enter 30 args) w := fun _ _ => rfl
/-- Rows of two sides, at most one of which can be joined: what is joined. -/
theorem join1 (d : Nat) (hd : 5 ≤ d) (gl gr : Nat) (lbl lbr : Array Value) (frL frR : Bool) (RL RR : List (List Val)) (jsl jsr : List Nat) (lo ro : Int) (w : World)
    (heL : ∀ args w, (callFunc gl args).run Try.prog w = .ok (.enter gl args) w) (heR : ∀ args w, (callFunc gr args).run Try.prog w = .ok (.enter gr args) w)
    (hL : ∀ n, 1 ≤ n → RowSeq frL n gl lbl RL jsl w) (hR : ∀ n, 1 ≤ n → RowSeq frR n gr lbr RR jsr w) (hjl : ∀ j ∈ jsl, j < w.heap.size) (hjr : ∀ j ∈ jsr, j < w.heap.size)
    (hRR : RR.length ≤ 1) (hRRl : ∀ l ∈ RR, l.length ≤ 1800000000000) (hRLl : ∀ l ∈ RL, l.length ≤ 1800000000000) (w' : World)
    (hw : w' = (((w.alloc (.cells #[.func (.func gl) #[] lbl] 28)).alloc (.cells #[.func (.func gr) #[] lbr] 28)).alloc (.cells #[.int .i64 lo] 3)).alloc (.cells #[.int .i64 ro] 3)) :
    Kp [] w w' ∧ ∃ js, (∀ j ∈ js, j < w'.heap.size) ∧ RowSeq true (d - 1) 42 #[.pointer (some ⟨w.heap.size + 1, 0, none⟩), .pointer (some ⟨w.heap.size + 3, 0, none⟩), .pointer (some ⟨w.heap.size, 0, none⟩), .pointer (some ⟨w.heap.size + 2, 0, none⟩)] (joinR RL (ordR ro RR) lo ro) js w' := by
  obtain ⟨wa, ha⟩ : ∃ x, x = w.alloc (.cells #[.func (.func gl) #[] lbl] 28) := ⟨_, rfl⟩
  obtain ⟨wb, hb⟩ : ∃ x, x = wa.alloc (.cells #[.func (.func gr) #[] lbr] 28) := ⟨_, rfl⟩
  obtain ⟨wc, hc⟩ : ∃ x, x = wb.alloc (.cells #[.int .i64 lo] 3) := ⟨_, rfl⟩
  rw [← ha, ← hb, ← hc] at hw
  have za : wa.heap.size = w.heap.size + 1 := by rw [ha]; simp
  have zb : wb.heap.size = w.heap.size + 2 := by rw [hb]; simp [za]
  have zc : wc.heap.size = w.heap.size + 3 := by rw [hc]; simp [zb]
  have zd : w'.heap.size = w.heap.size + 4 := by rw [hw]; simp [zc]
  have ka : Kp [] w wa := by rw [ha]; exact (Kp.refl _ _).alloc _
  have kb : Kp [] wa wb := by rw [hb]; exact (Kp.refl _ _).alloc _
  have kc : Kp [] wb wc := by rw [hc]; exact (Kp.refl _ _).alloc _
  have kd : Kp [] wc w' := by rw [hw]; exact (Kp.refl _ _).alloc _
  have ba : Bn wa w.heap.size [.func (.func gl) #[] lbl] := by rw [ha]; exact Bn.new w _ _
  have bb : Bn wb (w.heap.size + 1) [.func (.func gr) #[] lbr] := by rw [hb, ← za]; exact Bn.new wa _ _
  have bc : Bn wc (w.heap.size + 2) [.int .i64 lo] := by rw [hc, ← zb]; exact Bn.new wb _ _
  have bd : Bn w' (w.heap.size + 3) [.int .i64 ro] := by rw [hw, ← zc]; exact Bn.new wc _ _
  have kcd := kc.trans kd (by simp)
  have kbd := kb.trans kcd (by simp)
  have kw := ka.trans kbd (by simp)
  refine ⟨kw, (jsl ++ jsr) ++ [w.heap.size + 1, w.heap.size + 3, w.heap.size, w.heap.size + 2], fun j hj => ?_, ?_⟩
  · rcases List.mem_append.1 hj with e | e
    · rcases List.mem_append.1 e with e | e
      · have := hjl j e; omega
      · have := hjr j e; omega
    · simp at e; omega
  · refine joinSeq (d - 1) (by omega) _ _ _ _ frL frR gl gr lbl lbr RL RR (ordR ro RR) jsl jsr _ lo ro w' heL heR ((bb.kept kcd).get 0 _ rfl) (bd.get 0 _ rfl) ((ba.kept kbd).get 0 _ rfl) ((bc.kept kd).get 0 _ rfl) (fun q hq => List.mem_append.2 (.inr hq)) (fun j hj => by simp [hj]) (fun j hj => by simp [hj]) (fun j hj => ?_) (fun n hn => (hL n hn).move (KeepB.ofKp kw (by simp))) (fun n hn => (hR n hn).move (KeepB.ofKp kw (by simp))) (by omega) hRRl hRLl ?_ ?_ (sort1 ro RR ?_) (fun SL v hSL => mono1 ?_)
    · rcases List.mem_append.1 hj with e | e
      · rcases List.mem_append.1 e with e | e
        · have := hjl j e; omega
        · have := hjr j e; omega
      · simp at e; omega
    · have := List.length_filter_le (fun l => !((vAt l ro).k == 0)) RR
      unfold ordR; omega
    · intro l hl
      exact hRRl l (List.mem_filter.1 hl).1
    · have := List.length_filter_le (fun l => !((vAt l ro).k == 0)) RR
      unfold ordR; omega
    · have h1 := congrArg List.length hSL
      have := List.length_filter_le (fun l => !((vAt l ro).k == 0)) RR
      unfold ordR at h1
      simp at h1
      omega
theorem sort1M (bs : List Int) (R : List (List Val)) (h1 : R.length ≤ 1) : ∀ (W : World) (N : Nat) (ra : Option Addr) (rc : Nat) (L : List Mb), Lom N ra rc L W → L.map Mb.pr = mbR bs R → Calls Try.prog 48 #[.slice ra L.length rc, .func (.func 49) #[] #[]] W (SortPM N ra rc L.length (mbR bs R) W) := fun W N ra rc L hl hm => by
  have hn : L.length ≤ 1 := by have := congrArg List.length hm; unfold mbR at this; simp at this; omega
  exact (cSortSt1M ra L.length rc _ W hn).mono fun e w' ⟨hv, e2⟩ => ⟨hv, L, rfl, by rw [e2]; exact hl, hm, by rw [e2]; exact Kp.refl _ _⟩
/-- One row's group, counted. -/
theorem group1 (d : Nat) (hd : 5 ≤ d) (q3 q4 q5 : Nat) (fr : Bool) (g : Nat) (lb : Array Value) (r : List Val) (jsr : List Nat) (ba : Option Addr) (bc : Nat) (bs : List Int) (ga : Option Addr) (gc : Nat) (gs : List (Int × Int)) (w : World)
    (heg : ∀ args w, (callFunc g args).run Try.prog w = .ok (.enter g args) w) (hR : ∀ n, 1 ≤ n → RowSeq fr n g lb [r] jsr w) (hjr : ∀ j ∈ jsr, j < w.heap.size) (hr : r.length ≤ 3600000000000)
    (c1 : w.cell? ⟨q3, 0, none⟩ = some (.func (.func g) #[] lb)) (c2 : w.cell? ⟨q4, 0, none⟩ = some (.slice ba bs.length bc)) (c3 : w.cell? ⟨q5, 0, none⟩ = some (.slice ga gs.length gc))
    (hb : IntE.Row w (.slice ba bs.length bc) bs) (hg : AgE.Row w (.slice ga gs.length gc) gs) (hl : bs.length + gs.length ≤ 3000000000000) (h0 : ∀ ag ∈ gs, ag.1 = 0) :
    ∃ js, (∀ j ∈ js, j < w.heap.size) ∧ RowSeq true (d - 1) 30 #[.pointer (some ⟨q3, 0, none⟩), .pointer (some ⟨q4, 0, none⟩), .pointer (some ⟨q5, 0, none⟩)] [pickV r bs ++ gs.map fun _ => ⟨2, false, 1, ⟨#[]⟩⟩] js w := by
  have hjs : ∀ j ∈ jsr ++ ([q3, q4, q5] ++ (blk ba ++ blk ga)), j < w.heap.size := fun j hj => by
    rcases List.mem_append.1 hj with e | e
    · exact hjr j e
    · rcases List.mem_append.1 e with e | e
      · simp at e
        rcases e with rfl | rfl | rfl
        · exact World.block_lt_of_cell? _ _ c1
        · exact World.block_lt_of_cell? _ _ c2
        · exact World.block_lt_of_cell? _ _ c3
      · rcases List.mem_append.1 e with e | e
        · exact hb.lt j (by rw [ownV]; exact e)
        · exact hg.lt j (by rw [ownV]; exact e)
  obtain ⟨a', c', e, hgs, _⟩ := hg.see
  cases e
  have hlen : ∀ (T : List Mb) (k : Nat), T.map Mb.pr = (mbR bs [r]).take k → k = 1 → T.length = 1 := fun T k h e => by
    have := congrArg List.length h
    subst e
    simpa [mbR] using this
  refine ⟨_, hjs, ?_⟩
  have := groupSeq (d - 1) (by omega) q3 q4 q5 fr g lb [r] jsr (jsr ++ ([q3, q4, q5] ++ (blk ba ++ blk ga))) ba bc bs ga gc gs (mbR bs [r]) 1 id (fun _ _ => ⟨2, false, 1, ⟨#[]⟩⟩) w heg c1 c2 c3 (fun q hq => List.mem_append.2 (.inr (List.mem_append.2 (.inl hq)))) (fun j hj => by simp [hj]) hjs hb (fun k hk => by simp [hk]) hgs (fun k hk => by simp [hk]) hR (by simp) (by simpa using hr) (by omega) (sort1M bs [r] (by simp)) (by simp [mbR]) (by simp [mbR]) rfl rfl (fun i hi => by simp [mbR]; omega) (fun p hp => by simp [mbR] at hp; rw [hp]; simp [pickV]; omega)
    (fun i hi W a c T hs hx ht => by
      obtain rfl : i = 0 := by omega
      have h1 : T.length = 1 := hlen T 1 (by simpa [mbR] using ht) rfl
      rw [h1]
      exact cTogether1 a c W)
    (fun i hi ag hag W a c T hs hx ht => by
      obtain rfl : i = 0 := by omega
      have h1 : T.length = 1 := hlen T 1 (by simpa [mbR] using ht) rfl
      have h2 := cTell0 a 1 c ag.2 W
      rw [h1, h0 ag hag]
      exact h2)
  simpa [grpR, mbR] using this
end Go.Proofs.Ytohkjikhlakglaa
end

section
namespace Go.Proofs.Ytohkjikhlakglaa
open Go.RowKit Go.Hay
attribute [local go_sem] Oper.semAt_some
set_option linter.unusedVariables false
set_option linter.unusedSimpArgs false

abbrev vTwo : Val := ⟨2, false, 2, ⟨#[]⟩⟩
theorem joinTwo : joinR [[vTwo]] (ordR 0 [[vTwo]]) 0 0 = [[vTwo, vTwo]] := by
  have h : vTwo.lt vTwo = false := by decide
  simp [joinR, fJ, ordR, vAt, cmpV, h]
/-- A lot of one row. -/
theorem Lot.one {N : Nat} {ra : Option Addr} {rc : Nat} {L : List Vs} {w : World} {r : List Val} (h : Lot N ra rc L w) (hL : L.map (·.l) = [r]) : ∃ g o x, L = [x] ∧ x.l = r ∧ ra = some ⟨g, o, none⟩ ∧ w.cell? ⟨g, o, none⟩ = some (.slice x.a x.l.length x.c) ∧ x.lies w := by
  match L, hL with
  | [x], hL =>
    simp at hL
    obtain ⟨a', c', e, hs, _⟩ := h.row.see
    cases e
    obtain ⟨g, o, e, hc⟩ := vsAt hs (k := 0) (x := x) rfl
    exact ⟨g, o, x, rfl, hL, e, by simpa using hc, h.lies x (by simp)⟩
set_option maxHeartbeats 16000000 in
set_option maxRecDepth 100000 in
theorem cAlive15 (w : World) : Calls Try.prog 11 #[] w fun e w' => e = .returned (.bool true) ∧ Kp [] w w' := by
  obtain ⟨wa, hwa, ka, ba⟩ : ∃ x, w.alloc (.cells #[.int .i64 2, .bool false, .int .i64 2, .string ⟨#[]⟩] 47) = x ∧ Kp [] w x ∧ Bn x w.heap.size [.int .i64 2, .bool false, .int .i64 2, .string ⟨#[]⟩] := ⟨_, rfl, (Kp.refl _ _).alloc _, Bn.new w _ _⟩
  obtain ⟨q0, hq0⟩ : ∃ q, w.heap.size = q := ⟨_, rfl⟩
  rw [hq0] at ba
  obtain ⟨w1, hw1, k1, b1⟩ : ∃ x, wa.alloc (.cells #[.slice (some ⟨q0, 0, none⟩) 1 1] 24) = x ∧ Kp [] wa x ∧ Bn x wa.heap.size [.slice (some ⟨q0, 0, none⟩) 1 1] := ⟨_, rfl, (Kp.refl _ _).alloc _, Bn.new wa _ _⟩
  obtain ⟨q1, hq1⟩ : ∃ q, wa.heap.size = q := ⟨_, rfl⟩
  rw [hq1] at b1
  have ba1 := ba.kept k1
  have s0 : VE.See w1 (some ⟨q0, 0, none⟩) [vTwo] := .inr ⟨q0, 0, rfl, fun j u hu => by rw [Nat.zero_add]; exact ba1.get j u (by simpa [El.cs, VE] using hu)⟩
  have x0 : (⟨some ⟨q0, 0, none⟩, 1, [vTwo]⟩ : Vs).lies w1 := ⟨seeV.1 s0, by simp, by show (1 : Nat) ≤ maxLen; unfold maxLen; omega, fun h => (by cases h)⟩
  have s1 : VsE.See w1 (some ⟨q1, 0, none⟩) [⟨some ⟨q0, 0, none⟩, 1, [vTwo]⟩] := .inr ⟨q1, 0, rfl, fun j u hu => by rw [Nat.zero_add]; exact b1.get j u (by simpa [El.cs, VsE] using hu)⟩
  have l0 : q0 < w1.heap.size := ba1.lt (by simp)
  have l1 : q1 < w1.heap.size := b1.lt (by simp)
  have HK1 := hid (ka.trans k1 (by simp))
  have HS := hid (And.intro s1 (And.intro x0 (And.intro l0 l1)))
  have cV := hid (cValuesE (some ⟨q1, 0, none⟩) 1 1 w1)
  clear ka k1 ba b1 ba1 s0 x0 s1 l0 l1
  go_enter Try.func11, Try.ntmps11
  go_wp2_with fail
  refine cV.out.mono ?_
  rintro e w2 ⟨rfl, hw2⟩
  have src1 := hid (valSrc (rc := 1) HS.out.1 (by simpa using HS.out.2.1) (by simp) (by simpa [blk] using HS.out.2.2.2) (by simpa [blk] using HS.out.2.2.1) 22)
  have k2 : Kp [] w1 w2 := by rw [hw2]; exact (Kp.refl _ _).alloc _
  have K2 := hid k2
  have hw2' := hid hw2
  obtain ⟨qa, hqa⟩ : ∃ q, w1.heap.size = q := ⟨_, rfl⟩
  have hqa' := hid hqa
  rw [hqa]
  have cC := hid (cCopied (some ⟨q1, 0, none⟩) 1 [⟨some ⟨q0, 0, none⟩, 1, [vTwo]⟩] w2 (ckSee (CK.ofKp k2) HS.out.1 (by simp)) (fun x hx => by rw [List.mem_singleton.1 hx]; exact HS.out.2.1.ck (CK.ofKp k2) (by simp)) (by simp) (by simp))
  have cCn : Hid (∀ W, Kp [] w2 W → Calls Try.prog 15 #[.slice (some ⟨q1, 0, none⟩) 1 1] W (LotP [[vTwo]] W)) := fun W k => cCopied (some ⟨q1, 0, none⟩) 1 [⟨some ⟨q0, 0, none⟩, 1, [vTwo]⟩] W (ckSee (CK.ofKp (k2.trans k (by simp))) HS.out.1 (by simp)) (fun x hx => by rw [List.mem_singleton.1 hx]; exact HS.out.2.1.ck (CK.ofKp (k2.trans k (by simp))) (by simp)) (by simp) (by simp)
  clear cV hw2 k2 hqa cC
  go_wp2_with fail
  refine (cCn.out w2 (Kp.refl _ _)).mono ?_
  rintro e w3 ⟨ra, rc, L, rfl, hlot, hL, k3⟩
  have hL1 : L.length = 1 := by have := congrArg List.length hL; simpa using this
  have src2 := hid (hlot.src (by omega) 22)
  rw [hL] at src2
  have K3 := hid (K2.out.trans k3 (by simp))
  have K23 := hid k3
  have cV := hid (cValuesE ra L.length rc w3)
  clear hlot hL k3
  have hL1' := hid hL1
  clear hL1
  go_wp2_with fail
  refine cV.out.mono ?_
  rintro e w4 ⟨rfl, hw4⟩
  have k4 : Kp [] w3 w4 := by rw [hw4]; exact (Kp.refl _ _).alloc _
  have K4 := hid (K3.out.trans k4 (by simp))
  have K24 := hid (K23.out.trans k4 (by simp))
  rw [← hw4] at src2
  have hs1m := hid (src1.out)
  simp only [List.length_cons, List.length_nil, Nat.zero_add, List.map_cons, List.map_nil] at hs1m
  rw [← hw2'.out, hqa'.out] at hs1m
  obtain ⟨qb, hqb⟩ : ∃ q, Hid (w3.heap.size = q) := ⟨_, rfl⟩
  rw [hqb.out] at src2 ⊢
  have hj1 := hid (join1 5 (by omega) 27 27 #[.pointer (some ⟨qa, 0, none⟩)] #[.pointer (some ⟨qb, 0, none⟩)] false false [[vTwo]] [[vTwo]] _ _ 0 0 w4 heVal heVal (fun n hn => (hs1m.out.1 n hn).move (KeepB.ofKp K24.out (by simp))) (src2.out.1) (fun j hj => by have := hs1m.out.2 j hj; have := K24.out.size; omega) src2.out.2 (by simp) (by simp) (by simp))
  have cJ := hid (cJoinE 27 27 #[.pointer (some ⟨qa, 0, none⟩)] #[.pointer (some ⟨qb, 0, none⟩)] 0 0 w4)
  clear cV hw4 k4
  go_wp2_with fail
  refine cJ.out.mono ?_
  rintro e w5 ⟨rfl, hw5⟩
  obtain ⟨k5, js, hjs, hsq⟩ := hj1.out w5 hw5
  rw [joinTwo] at hsq
  have cA := hid (callsIn_wide.1 (cAllR 5 (by omega) _ _ [[vTwo, vTwo]] js w5 heJoin hsq hjs (by simp) (by simp)))
  have K5 := hid (K4.out.trans k5 (by simp))
  have K25 := hid (K24.out.trans k5 (by simp))
  clear cJ hw5 k5 hjs hsq hj1 src2
  go_wp2_with fail
  refine cA.out.mono ?_
  rintro e w6 ⟨rj, rjc, LJ, rfl, hlotJ, hLJ, k6⟩
  have HJ := hid (And.intro hlotJ hLJ)
  have K6 := hid (K5.out.trans k6 (by simp))
  have K26 := hid (K25.out.trans k6 (by simp))
  clear cA hlotJ hLJ k6
  go_wp2_with fail
  refine (cCn.out w6 K26.out).mono ?_
  rintro e w7 ⟨ra7, rc7, L7, rfl, hlot7, hL7, k7⟩
  have hL71 : Hid (L7.length = 1) := by show _ = _; have := congrArg List.length hL7; simpa using this
  have src7 := hid (hlot7.src (by rw [hL71.out]; omega) 22)
  rw [hL7] at src7
  have K67 := hid k7
  have cV := hid (cValuesE ra7 L7.length rc7 w7)
  clear hlot7 hL7 k7
  go_wp2_with fail
  refine cV.out.mono ?_
  rintro e w8 ⟨rfl, hw8⟩
  have k8 : Kp [] w7 w8 := by rw [hw8]; exact (Kp.refl _ _).alloc _
  have K68 := hid (K67.out.trans k8 (by simp))
  rw [← hw8] at src7
  obtain ⟨qc, hqc⟩ : ∃ q, Hid (w7.heap.size = q) := ⟨_, rfl⟩
  rw [hqc.out] at src7 ⊢
  obtain ⟨w9, hw9, k9, b9⟩ : ∃ x, w8.alloc (.cells #[.int .i64 0, .int .i64 0] 51) = x ∧ Kp [] w8 x ∧ Bn x w8.heap.size [.int .i64 0, .int .i64 0] := ⟨_, rfl, (Kp.refl _ _).alloc _, Bn.new w8 _ _⟩
  obtain ⟨q9, hq9⟩ : ∃ q, w8.heap.size = q := ⟨_, rfl⟩
  rw [hq9] at b9
  have s9 : AgE.See w9 (some ⟨q9, 0, none⟩) [(0, 0)] := .inr ⟨q9, 0, rfl, fun j u hu => by rw [Nat.zero_add]; exact b9.get j u (by simpa [El.cs, AgE] using hu)⟩
  have K69 := hid (K68.out.trans k9 (by simp))
  have cG := hid (cGroupE 27 #[.pointer (some ⟨qc, 0, none⟩)] none 0 [] (some ⟨q9, 0, none⟩) 1 [(0, 0)] w9 (.inl rfl) (fun _ => rfl) (by simp) s9 (fun h => (by cases h)) (by simp))
  have K89 := hid k9
  clear cV hw8 k8 k9 b9 s9
  go_wp2_with fail
  refine cG.out.mono ?_
  rintro e w10 ⟨g3, g4, g5, a4, c4, a5, c5, rfl, x3, x4, x5, hb, hg, _, _, _, _, _, k10⟩
  have K810 := hid (K89.out.trans k10 (by simp))
  obtain ⟨js, hjs, hsq⟩ := group1 5 (by omega) g3 g4 g5 false _ _ [vTwo] _ a4 c4 [] a5 c5 [(0, 0)] w10 heVal (fun n hn => (src7.out.1 n hn).move (KeepB.ofKp K810.out (by simp))) (fun j hj => by have := src7.out.2 j hj; have := K810.out.size; omega) (by simp) x3 x4 x5 hb hg (by simp) (by simp)
  have cA := hid (callsIn_wide.1 (cAllR 5 (by omega) _ _ _ js w10 heGrp hsq hjs (by simp) (by simp [pickV])))
  have K610 := hid (K69.out.trans k10 (by simp))
  clear cG x3 x4 x5 hb hg k10 hjs hsq
  go_wp2_with fail
  refine cA.out.mono ?_
  rintro e w11 ⟨rm, rmc, LM, rfl, hlotM, hLM, k11⟩
  have K611 := hid (K610.out.trans k11 (by simp))
  obtain ⟨gm, om, xm, rfl, hxm, rfl, cm, hm⟩ := hlotM.one hLM
  obtain ⟨gj, oj, xj, rfl, hxj, rfl, cj, hj⟩ := HJ.out.1.one HJ.out.2
  have cj11 := kpAt K611.out cj
  obtain ⟨xa, xc, xl⟩ := xm
  dsimp only at hxm cm
  subst hxm
  obtain ⟨ja, jc, jl⟩ := xj
  dsimp only at hxj cj11
  subst hxj
  have hv := hm.see
  rcases hv with e | ⟨gv, ov, ev, hv⟩
  · simp [pickV] at e
  · dsimp only at ev
    subst ev
    obtain ⟨_, _, v2, _⟩ := hv 0 ⟨2, false, 1, ⟨#[]⟩⟩ (by simp [pickV])
    simp only [pickV, List.map_nil, List.map_cons, List.nil_append, List.length_cons, List.length_nil, Nat.zero_add, Nat.add_zero, Nat.zero_mul] at cm v2 cj11
    have KE := hid (HK1.out.trans (K6.out.trans K611.out (by simp)) (by simp))
    clear cA hlotM hLM k11 HJ cj hj hm hv
    go_wp2_with fail
    go_ret
    exact ⟨rfl, KE.out⟩
end Go.Proofs.Ytohkjikhlakglaa
end

section
namespace Go.Hay

/-- n in k bytes, the highest first. -/
def be (n : Nat) : Nat → List UInt8
  | 0 => []
  | k + 1 => UInt8.ofNat (n / 256 ^ k % 256) :: be n k
theorem be_length (n k : Nat) : (be n k).length = k := by
  induction k with
  | zero => rfl
  | succ k ih => simp [be, ih]
/-- The first byte of n's Var. -/
def leadI (n : Int) : Int := if n < 253 then n else if n < 65536 then 253 else if n < 4294967296 then 254 else 255
/-- How many bytes a Var has behind its first one. -/
def behindI (f : Int) : Int := if f = 253 then 2 else if f = 254 then 4 else if f = 255 then 8 else 0
theorem leadI_bd (n : Int) (h : 0 ≤ n) : 0 ≤ leadI n ∧ leadI n ≤ 255 := by unfold leadI; repeat (first | split | omega)
theorem behindI_bd (n : Int) : 0 ≤ behindI n ∧ behindI n ≤ 8 := by unfold behindI; repeat (first | split | omega)
/-- The number that bytes say, the highest first. -/
def num (bs : List UInt8) : Nat := bs.foldl (fun n x => n * 256 + x.toNat) 0
theorem num_snoc (bs : List UInt8) (x : UInt8) : num (bs ++ [x]) = num bs * 256 + x.toNat := by simp [num]
theorem num_lt (bs : List UInt8) : num bs < 256 ^ bs.length := by
  suffices ∀ (l : List UInt8), num l.reverse < 256 ^ l.length by simpa using this bs.reverse
  intro l
  induction l with
  | nil => simp [num]
  | cons x l ih =>
    rw [List.reverse_cons, num_snoc, List.length_cons, Nat.pow_succ]
    have := x.toNat_lt
    omega
/-- A byte, of a number. -/
def octet (n : Int) : UInt8 := UInt8.ofNat n.toNat
theorem octet_toNat (n : Int) (h0 : 0 ≤ n) (h1 : n ≤ 255) : ((octet n).toNat : Int) = n := by
  unfold octet
  rw [UInt8.toNat_ofNat']
  omega
/-- A number's Var. -/
def varB (n : Int) : List UInt8 := octet (leadI n) :: be n.toNat (behindI (leadI n)).toNat
theorem varB_length (n : Int) : (varB n).length ≤ 9 ∧ 1 ≤ (varB n).length := by
  have := behindI_bd (leadI n)
  simp only [varB, List.length_cons, be_length]
  omega
/-- What bytes begin with, read as a Var: the number, in how many bytes, what is amiss. -/
def fv (bs : List UInt8) : Int × Int × Int :=
  match bs with
  | [] => (0, 0, 10)
  | f :: r =>
    if behindI f.toNat = 0 then (f.toNat, 1, 0)
    else if (r.length : Int) < behindI f.toNat then (0, 0, 10)
    else if leadI (num (r.take (behindI f.toNat).toNat)) ≠ f.toNat then (0, 0, 11)
    else (num (r.take (behindI f.toNat).toNat), 1 + behindI f.toNat, 0)
theorem fv_bd (bs : List UInt8) : 0 ≤ (fv bs).1 ∧ (fv bs).1 < 18446744073709551616 ∧ 0 ≤ (fv bs).2.1 ∧ (fv bs).2.1 ≤ 9 ∧ (fv bs).2.1 ≤ bs.length := by
  cases bs with
  | nil => simp [fv]
  | cons f r =>
    have hf := f.toNat_lt
    have hb := behindI_bd f.toNat
    simp only [fv]
    have h64 : ∀ k : Nat, k ≤ 8 → num (r.take k) < 18446744073709551616 := fun k hk => by
      have h1 := num_lt (r.take k)
      have h2 : (r.take k).length ≤ 8 := by simp; omega
      have h3 : 256 ^ (r.take k).length ≤ 256 ^ 8 := Nat.pow_le_pow_right (by omega) h2
      omega
    have h64' := h64 (behindI f.toNat).toNat (by omega)
    generalize num (r.take (behindI f.toNat).toNat) = m at *
    simp only [List.length_cons]
    split
    · simp; omega
    · split
      · simp; omega
      · split
        · simp; omega
        · simp; omega
/-- A reader that takes n bytes: what it gives, what is left, what was amiss. -/
def takeS (n : Nat) (bs : List UInt8) (e : Int) : List UInt8 × List UInt8 × Int :=
  if e ≠ 0 then ([], bs, e) else if bs.length < n then ([], bs, 10) else (bs.take n, bs.drop n, 0)
/-- A reader that reads a Var. -/
def varS (most : Int) (bs : List UInt8) (e : Int) : Int × List UInt8 × Int :=
  if e ≠ 0 then (0, bs, e) else if (fv bs).2.2 ≠ 0 then (0, bs, (fv bs).2.2) else if most < (fv bs).1 then (0, bs, 12) else ((fv bs).1, bs.drop (fv bs).2.1.toNat, 0)
/-- .. raw bytes. -/
def rawS (n : Int) (bs : List UInt8) (e : Int) : List UInt8 × List UInt8 × Int :=
  if n < 0 then ([], bs, if e = 0 then 12 else e) else takeS n.toNat bs e
/-- .. a count. -/
def countS (most : Int) (bs : List UInt8) (e : Int) : Int × List UInt8 × Int :=
  if 0 ≤ most then varS most bs e else (0, bs, if (varS 18446744073709551615 bs e).2.2 = 0 then 12 else (varS 18446744073709551615 bs e).2.2)
/-- .. a text. -/
def textS (most : Int) (bs : List UInt8) (e : Int) : List UInt8 × List UInt8 × Int :=
  if (rawS (countS most bs e).1 (countS most bs e).2.1 (countS most bs e).2.2).2.2 ≠ 0 then ((rawS (countS most bs e).1 (countS most bs e).2.1 (countS most bs e).2.2).1, bs, (rawS (countS most bs e).1 (countS most bs e).2.1 (countS most bs e).2.2).2.2)
  else rawS (countS most bs e).1 (countS most bs e).2.1 (countS most bs e).2.2
/-- A text. -/
def textB (b : List UInt8) : List UInt8 := varB b.length ++ b
end Go.Hay
end

section
namespace Go.Hay
set_option linter.unusedVariables false

theorem be_snoc (n k : Nat) : be n (k + 1) = be (n / 256) k ++ [UInt8.ofNat (n % 256)] := by
  induction k with
  | zero => simp [be]
  | succ k ih =>
    rw [be, ih, be, List.cons_append]
    congr 2
    rw [Nat.div_div_eq_div_mul, Nat.pow_succ, Nat.mul_comm]
theorem be_num_rev (l : List UInt8) : be (num l.reverse) l.length = l.reverse := by
  induction l with
  | nil => simp [be]
  | cons x l ih =>
    have hx := x.toNat_lt
    rw [List.reverse_cons, num_snoc, List.length_cons, be_snoc, show (num l.reverse * 256 + x.toNat) / 256 = num l.reverse by omega, ih, show (num l.reverse * 256 + x.toNat) % 256 = x.toNat by omega, UInt8.ofNat_toNat]
theorem be_num (xs : List UInt8) : be (num xs) xs.length = xs := by simpa using be_num_rev xs.reverse
theorem num_be (n k : Nat) : num (be n k) = n % 256 ^ k := by
  induction k generalizing n with
  | zero => simp [be, num, Nat.mod_one]
  | succ k ih =>
    rw [be_snoc, num_snoc, ih, UInt8.toNat_ofNat', show 256 ^ (k + 1) = 256 * 256 ^ k by rw [Nat.pow_succ, Nat.mul_comm], Nat.mod_mul]
    omega
theorem octet_nat (x : UInt8) : octet x.toNat = x := by simp [octet]

/-- What is read as a number is written as the same bytes. -/
theorem fv_back (bs : List UInt8) (h : (fv bs).2.2 = 0) : varB (fv bs).1 = bs.take (fv bs).2.1.toNat ∧ 1 ≤ (fv bs).2.1 := by
  cases bs with
  | nil => simp [fv] at h
  | cons f r =>
    have hf := f.toNat_lt
    have hb := behindI_bd f.toNat
    simp only [fv] at h ⊢
    split
    · rename_i h0
      have hl : leadI f.toNat = f.toNat := by
        unfold behindI at h0
        unfold leadI
        repeat (first | split at h0 | (split <;> omega) | omega)
      simp only [varB, hl, h0, octet_nat]
      simp [be]
    · rename_i h0
      rw [if_neg h0] at h
      by_cases h1 : (r.length : Int) < behindI f.toNat
      · rw [if_pos h1] at h; simp at h
      rw [if_neg h1] at h ⊢
      by_cases h2 : leadI (num (r.take (behindI f.toNat).toNat)) ≠ f.toNat
      · rw [if_pos h2] at h; simp at h
      rw [if_neg h2]
      have h3 : leadI (num (r.take (behindI f.toNat).toNat)) = f.toNat := Decidable.not_not.1 h2
      obtain ⟨k, hk⟩ : ∃ k : Nat, behindI f.toNat = k := ⟨(behindI f.toNat).toNat, by omega⟩
      rw [hk, Int.toNat_natCast] at h3
      have hlen : (r.take k).length = k := by simp; omega
      refine ⟨?_, by show 1 ≤ 1 + behindI f.toNat; omega⟩
      show varB (num (r.take (behindI f.toNat).toNat)) = List.take (1 + behindI f.toNat).toNat (f :: r)
      rw [hk, Int.toNat_natCast]
      simp only [varB]
      rw [h3, hk, Int.toNat_natCast, Int.toNat_natCast, octet_nat]
      have e := be_num (r.take k)
      rw [hlen] at e
      rw [e, show (1 + (k : Int)).toNat = k + 1 by omega, List.take_succ_cons]

/-- Of a Var that was read: in words that the law uses. -/
theorem varS_cases (most : Int) (bs : List UInt8) {n : Int} {bs' : List UInt8} {e' : Int} (h0 : 0 ≤ most) (h : varS most bs 0 = (n, bs', e')) :
    0 ≤ n ∧ n < 18446744073709551616 ∧ bs'.length ≤ bs.length ∧ (e' ≠ 0 → n = 0 ∧ bs' = bs) ∧ (e' = 0 → n ≤ most ∧ varB n = bs.take (bs.length - bs'.length)) := by
  have hbd := fv_bd bs
  have hbk := fv_back bs
  unfold varS at h
  rw [if_neg (by simp)] at h
  split at h
  · rename_i h1
    cases h
    exact ⟨by omega, by omega, Nat.le_refl _, fun _ => ⟨rfl, rfl⟩, fun h => absurd h h1⟩
  · rename_i h1
    have h1' : (fv bs).2.2 = 0 := Decidable.not_not.1 h1
    have hbk := hbk h1'
    split at h
    · cases h
      exact ⟨by omega, by omega, Nat.le_refl _, fun _ => ⟨rfl, rfl⟩, fun h => by simp at h⟩
    · cases h
      refine ⟨by omega, by omega, by simp, fun h => absurd rfl h, fun _ => ⟨by omega, ?_⟩⟩
      rw [hbk.1]
      congr 1
      rw [List.length_drop]
      omega
end Go.Hay
end

section
namespace Go.Proofs.Ytohkjikhlakglaa
open Go.ChangeShapes Go.WideShapes Go.ChangeAt Go.RowKit Go.Hay
set_option linter.unusedVariables false

theorem Try.own : ownKnob Try.prog.godebug = none := by kernel_rfl
theorem Try.laidOut : laidOutB Try.prog = true := by kernel_rfl

/-- How many values a slice's datum holds, its spare places too. -/
def capD {H : Type} : DataW H → Nat
  | .slice e sp => e.length + sp.length
  | _ => 0
theorem bulk_pos {H : Type} (d : DataW H) : 1 ≤ Rows.uptoBulk d := by
  cases d with
  | lit l => cases l <;> simp [Rows.uptoBulk]
  | _ => simp [Rows.uptoBulk]
theorem bulkAll_ge {H : Type} (l : List (DataW H)) : l.length ≤ Rows.uptoBulkAll l := by
  induction l with
  | nil => simp
  | cons d l ih => have := bulk_pos d; simp only [Rows.uptoBulkAll, List.length_cons]; omega
theorem bulk_cap {H : Type} (d : DataW H) : capD d + 1 ≤ Rows.uptoBulk d := by
  cases d with
  | slice e sp => have := bulkAll_ge e; have := bulkAll_ge sp; simp only [capD, Rows.uptoBulk]; omega
  | lit l => cases l <;> simp [capD, Rows.uptoBulk]
  | _ => simp [capD, Rows.uptoBulk]
theorem bulkAll_map {H : Type} (n : Nat) (D : Nat → DataW H) (f : Nat → Nat) (h : ∀ i, i < n → f i ≤ Rows.uptoBulk (D i)) : ((List.range n).map f).sum ≤ Rows.uptoBulkAll ((List.range n).map D) := by
  have gen : ∀ l : List Nat, (∀ i ∈ l, f i ≤ Rows.uptoBulk (D i)) → (l.map f).sum ≤ Rows.uptoBulkAll (l.map D) := by
    intro l
    induction l with
    | nil => intro _; simp
    | cons i l ih =>
      intro hl
      have h1 := hl i (by simp)
      have h2 := ih (fun j hj => hl j (by simp [hj]))
      simp only [List.map_cons, List.sum_cons, Rows.uptoBulkAll]
      omega
  exact gen _ (fun i hi => h i (List.mem_range.1 hi))
theorem mem_weightsAll {H : Type} {P : Program} {e : TypeId} {l : List (DataW H)} {d : DataW H} (hd : d ∈ l) {x : Nat} (hx : x ∈ d.weights P e) : x ∈ DataW.weightsAll P e l := by
  induction l with
  | nil => cases hd
  | cons y l ih =>
    rw [DataW.weightsAll, List.mem_append]
    rcases List.mem_cons.1 hd with rfl | h
    · exact .inl hx
    · exact .inr (ih h)
/-- Within the form's reach. -/
def Fit {H : Type} (t : TypeId) (d : DataW H) : Prop := (DataW.weights Try.prog t d).all (· ≤ reachBytes) = true

theorem openEls {α : Type} [Inhabited α] (E : El α) {t e : TypeId} (ht : Try.prog.underlying t = some (.slice e)) (hcells : Try.prog.cellsOf e = E.n) (B : Nat) (hB : Try.prog.bytesOf e = B)
    {H : Type} {enc : TypeId × Value → H} {W : World} (ok : α → Prop) (Q : α → Prop) (bk : α → Nat)
    (op : ∀ fuel cs x, DataW.trod enc Try.prog W 0 (fun _ => true) true fuel e cs = some x → cs.length = E.n → ∃ y : α, ok y ∧ cs = E.c y ∧ (Fit e x.1 → Q y) ∧ bk y ≤ Rows.uptoBulk x.1)
    {a : Option Addr} {len cap : Nat} {d : DataW H} {ps : List MemPlace} (h : DataW.Trod enc Try.prog W 0 (fun _ => true) true t (.slice a len cap) d ps) :
    ∃ l : List α, len = l.length ∧ E.See W a l ∧ (∀ y ∈ l, ok y) ∧ l.length ≤ cap ∧ cap ≤ maxLen ∧ (a = none → cap = 0) ∧ (Fit t d → cap * B ≤ 140737488351232 ∧ ∀ y ∈ l, Q y) ∧ (l.map bk).sum ≤ Rows.uptoBulk d ∧ cap + 1 ≤ Rows.uptoBulk d := by
  obtain ⟨fuel, hf⟩ := h
  rcases Go.Deep.open_slice ht hf with ⟨hcs, hx⟩ | ⟨x, len', cap', m, n, D, Pl, hcs, _, hl, hmx, hm, hx, hcell⟩
  · simp [Value.cells] at hcs
    obtain ⟨rfl, rfl, rfl⟩ := hcs
    cases hx
    exact ⟨[], rfl, .inl rfl, by simp, Nat.le_refl _, Nat.zero_le _, fun _ => rfl, fun _ => ⟨by omega, by simp⟩, by simp, by simp [Rows.uptoBulk]⟩
  · simp [Value.cells] at hcs
    obtain ⟨rfl, rfl, rfl⟩ := hcs
    cases hx
    have hm' : m = cap := by simpa using hm
    subst hm'
    rw [hcells] at hcell
    obtain ⟨Y, hY⟩ := Go.Deep.choose_lt (α := α) (n := len) (p := fun i y => ok y ∧ (∀ k u, (E.c y)[k]? = some u → W.cell? ((x.add (i * E.n)).add k) = some u) ∧ (Fit e (D i) → Q y) ∧ bk y ≤ Rows.uptoBulk (D i)) (fun i hi => by
      obtain ⟨cs', h1, h2⟩ := hcell i (by omega)
      obtain ⟨_, hlen, hc⟩ := World.cells?_some h1
      obtain ⟨y, g1, rfl, g2, g3⟩ := op _ _ _ h2 hlen
      refine ⟨y, g1, fun k u hu => ?_, g2, g3⟩
      have hk : k < E.n := by have := (List.getElem?_eq_some_iff.1 hu).1; rwa [E.len] at this
      exact (hc k hk).trans hu)
    refine ⟨(List.range len).map Y, by simp, ?_, ?_, by simpa using hl, hmx, fun h => (by cases h), fun hfit => ?_, ?_, ?_⟩
    · cases hlen : len with
      | zero => exact .inl rfl
      | succ k =>
        obtain ⟨b, off, spot⟩ := x
        have h0 : 0 < (E.c (Y 0)).length := by rw [E.len]; exact E.pos
        have hc0 := (hY 0 (by omega)).2.1 0 _ (List.getElem?_eq_getElem h0)
        have hspot : spot = none := by
          have := World.cell?_spot hc0
          simpa [Addr.add] using this
        subst hspot
        refine .inr ⟨b, off, rfl, fun j u hu => ?_⟩
        rw [← hlen] at hu
        have hj : j < ((List.range len).map Y).length * E.n := by have := (List.getElem?_eq_some_iff.1 hu).1; rwa [El.cs_length] at this
        have hpos := E.pos
        have hq : j / E.n < len := by
          rw [List.length_map, List.length_range] at hj
          exact Nat.div_lt_of_lt_mul (by rw [Nat.mul_comm]; exact hj)
        have hr : j % E.n < E.n := Nat.mod_lt _ hpos
        have hje : j = j / E.n * E.n + j % E.n := by rw [Nat.mul_comm]; exact (Nat.div_add_mod j E.n).symm
        have hget : ((List.range len).map Y)[j / E.n]? = some (Y (j / E.n)) := by rw [List.getElem?_map, List.getElem?_range hq]; rfl
        rw [hje, El.cs_get E hget hr] at hu
        have hcc := (hY _ hq).2.1 _ _ hu
        rw [Addr.add_lit, Addr.add_lit, Nat.add_assoc, ← hje] at hcc
        exact hcc
    · intro y hy
      obtain ⟨i, hi, rfl⟩ := List.mem_map.1 hy
      exact (hY i (List.mem_range.1 hi)).1
    · unfold Fit at hfit
      simp only [DataW.weights, ht] at hfit
      rw [List.all_cons, Bool.and_eq_true] at hfit
      refine ⟨?_, fun y hy => ?_⟩
      · have := of_decide_eq_true hfit.1
        simp only [List.length_map, List.length_range, hB, reachBytes] at this
        rwa [show len + (m - len) = m by omega] at this
      · obtain ⟨i, hi, rfl⟩ := List.mem_map.1 hy
        refine (hY i (List.mem_range.1 hi)).2.2.1 (List.all_eq_true.2 fun x hx => List.all_eq_true.1 hfit.2 x ?_)
        rw [List.mem_append]
        exact .inl (mem_weightsAll (List.mem_map_of_mem hi) hx)
    · have := bulkAll_map len D (fun i => bk (Y i)) (fun i hi => (hY i hi).2.2.2)
      simp only [List.map_map, Rows.uptoBulk]
      have e : (List.range len).map (bk ∘ Y) = (List.range len).map (fun i => bk (Y i)) := rfl
      rw [e]
      omega
    · have := bulk_cap (.slice ((List.range len).map D) ((List.range (m - len)).map fun j => D (len + j)) : DataW H)
      simp only [capD, List.length_map, List.length_range] at this
      omega

/-- A byte. -/
def ByteE : El UInt8 where
  n := 1
  c x := [.int .u8 x.toNat]
  len _ := rfl
  one _ u hu := by simp at hu; subst hu; rfl
  pos := by decide
theorem byteCs (l : List UInt8) : ByteE.cs l = bcells l := by
  induction l with
  | nil => rfl
  | cons x l ih => rw [El.cs_cons, ih]; rfl
theorem byteSee {w : World} {a : Option Addr} {l : List UInt8} (h : ByteE.See w a l) : Sees w a l := by
  rcases h with h | ⟨g, o, rfl, hc⟩
  · exact .inl h
  · refine .inr ⟨g, o, rfl, fun j u hu => hc j _ ?_⟩
    rw [byteCs, bcells_get, hu]
    rfl
/-- A slice of bytes, and what it sees. -/
structure Bs where
  a : Option Addr
  c : Nat
  bs : List UInt8
def Bs.v (x : Bs) : Value := .slice x.a x.bs.length x.c
structure Bs.ok (w : World) (x : Bs) : Prop where
  see : Sees w x.a x.bs
  cap : x.bs.length ≤ x.c
  nil : x.a = none → x.c = 0
theorem Bs.ok.kept {w w' : World} {x : Bs} {S : List Nat} (h : x.ok w) (hk : Kp S w w') (hn : x.bs ≠ [] → ∀ k ∈ blk x.a, k ∉ S) : x.ok w' := ⟨h.see.kept' hk hn, h.cap, h.nil⟩
theorem Bs.ok.keptNew {w w' : World} {x : Bs} (h : x.ok w) (hk : Kp [] w w') : x.ok w' := h.kept hk (by simp)
instance : Inhabited Bs := ⟨⟨none, 0, []⟩⟩
theorem cellsB : Try.prog.cellsOf 5 = 1 := by kernel_rfl
theorem bytesB : Try.prog.bytesOf 5 = 1 := by kernel_rfl
theorem cellsI : Try.prog.cellsOf 3 = 1 := by kernel_rfl
def Few (x : Bs) : Prop := x.bs.length ≤ 140737488351232
section
variable {H : Type} {enc : TypeId × Value → H} {W : World}
/-- A number among the arguments' cells. -/
theorem openI {fuel : Nat} {v : Value} {x : DataW H × List MemPlace} (h : DataW.trod enc Try.prog W 0 (fun _ => true) true fuel 3 [v] = some x) : ∃ n : Int, v = .int .i64 n ∧ -9223372036854775808 ≤ n ∧ n ≤ 9223372036854775807 := by
  obtain ⟨n, e, _, hw⟩ := DataW.trod_int Try.underlying3 h
  have hb := bounds_i64 hw
  exact ⟨n, by simpa using e, hb.1, hb.2⟩
end
end Go.Proofs.Ytohkjikhlakglaa
end

section
namespace Go.Proofs.Ytohkjikhlakglaa
open Go.ChangeShapes Go.WideShapes Go.ChangeAt Go.RowKit Go.Hay
set_option linter.unusedVariables false
set_option linter.unusedSimpArgs false

theorem cellsX1 : Try.prog.cellsOf 3 = 1 := by kernel_rfl
theorem cellsX2 : Try.prog.cellsOf 4 = 1 := by kernel_rfl
theorem cellsX3 : Try.prog.cellsOf 2 = 1 := by kernel_rfl
theorem cellsX4 : Try.prog.cellsOf 9 = 1 := by kernel_rfl
theorem cellsX5 : Try.prog.cellsOf 47 = 4 := by kernel_rfl
theorem bytesX5 : Try.prog.bytesOf 47 = 40 := by kernel_rfl
instance : Inhabited Val := ⟨⟨0, false, 0, ⟨#[]⟩⟩⟩
section
variable {H : Type} {enc : TypeId × Value → H} {W : World} {a : Option Addr} {len cap : Nat} {d : DataW H} {ps : List MemPlace}
theorem openV4 {fuel : Nat} {c0 c1 c2 c3 : Value} {x : DataW H × List MemPlace} (h : DataW.trod enc Try.prog W 0 (fun _ => true) true fuel 47 [c0, c1, c2, c3] = some x) :
    ∃ t : Val, c0 = .int .i64 t.k ∧ c1 = .bool t.b ∧ c2 = .int .i64 t.n ∧ c3 = .string t.t := by
  obtain ⟨xs, n, _, rfl, _, hlen, hf⟩ := DataW.trod_struct Try.underlying47 h
  match xs, hlen with
  | [y0, y1, y2, y3], _ =>
    have h0 := hf 0 _ rfl
    have h1 := hf 1 _ rfl
    have h2 := hf 2 _ rfl
    have h3 := hf 3 _ rfl
    simp [cellsX1, cellsX2, cellsX3, cellsX4] at h0 h1 h2 h3
    obtain ⟨k, e0, _, w0⟩ := DataW.trod_int Try.underlying3 h0
    obtain ⟨b, e1, _⟩ := DataW.trod_bool Try.underlying4 h1
    obtain ⟨n2, e2, _, w2⟩ := DataW.trod_int Try.underlying2 h2
    obtain ⟨s, e3, _, w3⟩ := DataW.trod_string Try.underlying9 h3
    simp at e0 e1 e2 e3
    exact ⟨⟨k, b, n2, s⟩, e0, e1, e2, e3⟩
theorem openXv (h : DataW.Trod enc Try.prog W 0 (fun _ => true) true 24 (.slice a len cap) d ps) :
    ∃ l : List Val, len = l.length ∧ VE.See W a l ∧ (∀ y ∈ l, True) ∧ l.length ≤ cap ∧ cap ≤ maxLen ∧ (a = none → cap = 0) ∧ (Fit 24 d → cap * 40 ≤ 140737488351232 ∧ ∀ y ∈ l, True) ∧ (l.map fun _ => 0).sum ≤ Rows.uptoBulk d ∧ cap + 1 ≤ Rows.uptoBulk d :=
  openEls VE Try.underlying24 cellsX5 40 bytesX5 (fun _ => True) (fun _ => True) (fun _ => 0) (fun fuel cs x hx hcs => by
    match cs, hcs with
    | [c0, c1, c2, c3], _ =>
      obtain ⟨t, e0, e1, e2, e3⟩ := openV4 hx
      subst e0 e1 e2 e3
      exact ⟨t, trivial, rfl, fun _ => trivial, Nat.zero_le _⟩) h
end
end Go.Proofs.Ytohkjikhlakglaa
end

section
namespace Go.Proofs.Ytohkjikhlakglaa
open Go.ChangeShapes Go.WideShapes Go.ChangeAt Go.RowKit Go.Hay
set_option linter.unusedVariables false
set_option linter.unusedSimpArgs false

theorem cellsYI : Try.prog.cellsOf 3 = 1 := by kernel_rfl
theorem bytesYI : Try.prog.bytesOf 3 = 8 := by kernel_rfl
section
variable {H : Type} {enc : TypeId × Value → H} {W : World} {a : Option Addr} {len cap : Nat} {d : DataW H} {ps : List MemPlace}
theorem openVlists (h : DataW.Trod enc Try.prog W 0 (fun _ => true) true 22 (.slice a len cap) d ps) :
    ∃ l : List Vs, len = l.length ∧ VsE.See W a l ∧ (∀ y ∈ l, y.lies W) ∧ l.length ≤ cap ∧ cap ≤ maxLen ∧ (a = none → cap = 0) ∧ (Fit 22 d → cap * 24 ≤ 140737488351232 ∧ ∀ y ∈ l, y.c * 40 ≤ 140737488351232) ∧ (l.map fun y => y.l.length).sum ≤ Rows.uptoBulk d ∧ cap + 1 ≤ Rows.uptoBulk d :=
  openEls VsE Try.underlying22 cellsVs 24 bytesVs (fun y => y.lies W) (fun y => y.c * 40 ≤ 140737488351232) (fun y => y.l.length) (fun fuel cs x hx hcs => by
    obtain ⟨v, rfl⟩ : ∃ v, cs = [v] := by
      match cs, hcs with
      | [v], _ => exact ⟨v, rfl⟩
    have hv : ∃ a len cap, v = .slice a len cap := by
      rcases Go.Deep.open_slice Try.underlying24 hx with ⟨hcs, _⟩ | ⟨a, len, cap, _, _, _, _, hcs, _⟩
      · exact ⟨none, 0, 0, by simpa using hcs⟩
      · exact ⟨_, _, _, by simpa using hcs⟩
    obtain ⟨a, len, cap, rfl⟩ := hv
    have ht : DataW.Trod enc Try.prog W 0 (fun _ => true) true 24 (.slice a len cap) x.1 x.2 := ⟨fuel, hx⟩
    obtain ⟨l, rfl, hs, _, hl, hm, hn, hf, _, hb⟩ := openXv ht
    exact ⟨⟨a, cap, l⟩, ⟨seeV.1 hs, hl, hm, hn⟩, rfl, fun h => (hf h).1, by simp only; omega⟩) h
theorem openInts (h : DataW.Trod enc Try.prog W 0 (fun _ => true) true 38 (.slice a len cap) d ps) :
    ∃ l : List Int, len = l.length ∧ IntE.See W a l ∧ (∀ y ∈ l, True) ∧ l.length ≤ cap ∧ cap ≤ maxLen ∧ (a = none → cap = 0) ∧ (Fit 38 d → cap * 8 ≤ 140737488351232 ∧ ∀ y ∈ l, True) ∧ (l.map fun _ => 0).sum ≤ Rows.uptoBulk d ∧ cap + 1 ≤ Rows.uptoBulk d :=
  openEls IntE Try.underlying38 cellsYI 8 bytesYI (fun _ => True) (fun _ => True) (fun _ => 0) (fun fuel cs x hx hcs => by
    obtain ⟨v, rfl⟩ : ∃ v, cs = [v] := by
      match cs, hcs with
      | [v], _ => exact ⟨v, rfl⟩
    obtain ⟨n, e, _, _⟩ := DataW.trod_int Try.underlying3 hx
    simp at e
    subst e
    exact ⟨n, trivial, rfl, fun _ => trivial, Nat.zero_le _⟩) h
theorem lenOfSum {L : List Vs} {n : Nat} (h : (L.map fun y => y.l.length).sum ≤ n) : ∀ x ∈ L, x.l.length ≤ n := by
  induction L with
  | nil => simp
  | cons y L ih =>
    simp at h
    intro x hx
    rcases List.mem_cons.1 hx with rfl | hx
    · omega
    · exact ih (by omega) x hx
end
end Go.Proofs.Ytohkjikhlakglaa
end

section
namespace Go.Proofs.Ytohkjikhlakglaa
open Go.RowKit Go.Hay
attribute [local go_sem] Oper.semAt_some
set_option linter.unusedVariables false
set_option linter.unusedSimpArgs false

/-- A column by which it is sorted, and whether falling. -/
def OrE : El (Int × Bool) where
  n := 2
  c x := [.int .i64 x.1, .bool x.2]
  len _ := rfl
  one _ u hu := by simp at hu; rcases hu with rfl | rfl <;> rfl
  pos := by decide
theorem orAt {w : World} {a : Option Addr} {l : List (Int × Bool)} (h : OrE.See w a l) (j : Nat) (hj : j < l.length) : ∃ g o, a = some ⟨g, o, none⟩ ∧ w.cell? ⟨g, o + j * 2, none⟩ = some (.int .i64 l[j].1) ∧ w.cell? ⟨g, o + j * 2 + 1, none⟩ = some (.bool l[j].2) := by
  obtain ⟨g, o, e, hc⟩ := h.at (j := j) (x := l[j]) (by simp [hj])
  exact ⟨g, o, e, hc 0 _ rfl, hc 1 _ rfl⟩
theorem boxOr (w : World) (x : Int) (y : Bool) : ∃ q W1 W2, w.heap.size = q ∧ w.alloc (.cells #[.int .i64 0, .bool false] 80) = W1 ∧ Bn W1 q [.int .i64 0, .bool false] ∧ (W1.setCell ⟨q, 0, none⟩ (.int .i64 x)).setCell ⟨q, 1, none⟩ (.bool y) = W2 ∧ Bn W2 q [.int .i64 x, .bool y] ∧ Kp [] w W2 := by
  have b0 := Bn.new w [.int .i64 0, .bool false] 80
  have k0 : Kp [] w (w.alloc (.cells #[.int .i64 0, .bool false] 80)) := (Kp.refl _ _).alloc _
  have h : w.heap.size ∈ ([] : List Nat) ∨ w.heap.size ≤ w.heap.size := .inr (Nat.le_refl _)
  exact ⟨_, _, _, rfl, rfl, b0, rfl, (b0.set 0 (by simp) (.int .i64 x)).set 1 (by simp) (.bool y), (k0.setCell h _).setCell h _⟩
def dirC (d : Bool) (k : Int) : Int := if d then -k else k
/-- The order of rows. -/
def cmpO : List (Int × Bool) → List Val → List Val → Int
  | [], a, b => rowsV a b
  | o :: os, a, b => if dirC o.2 (cmpV (vAt a o.1) (vAt b o.1)) = 0 then cmpO os a b else dirC o.2 (cmpV (vAt a o.1) (vAt b o.1))
theorem cmpO_drop (os : List (Int × Bool)) (a b : List Val) (j : Nat) (h : j < os.length) : cmpO (os.drop j) a b = if dirC os[j].2 (cmpV (vAt a os[j].1) (vAt b os[j].1)) = 0 then cmpO (os.drop (j + 1)) a b else dirC os[j].2 (cmpV (vAt a os[j].1) (vAt b os[j].1)) := by
  rw [List.drop_eq_getElem_cons h]
  rfl
set_option maxHeartbeats 16000000 in
set_option maxRecDepth 100000 in
theorem cCmpO (x y : Vs) (oa : Option Addr) (oc : Nat) (os : List (Int × Bool)) (w : World) (hx : x.lies w) (hy : y.lies w) (ho : OrE.See w oa os) (hol : os.length ≤ 4000000000000) :
    Calls Try.prog 39 #[.slice x.a x.l.length x.c, .slice y.a y.l.length y.c, .slice oa os.length oc] w fun e w' => e = .returned (.int .i64 (cmpO os x.l y.l)) ∧ Kp [] w w' := by
  obtain ⟨xa, xc, xl⟩ := x
  obtain ⟨ya, yc, yl⟩ := y
  have h1 := hx.cap; have h2 := hx.most; have h3 := hy.cap; have h4 := hy.most
  unfold maxLen at h2 h4
  dsimp only at *
  have HX := hid hx
  have HY := hid hy
  have HO := hid ho
  obtain ⟨Z, hZ⟩ : ∃ Z, Hid (cmpO os xl yl = Z) := ⟨_, rfl⟩
  rw [hZ.out]
  clear hx hy ho
  go_enter Try.func39, Try.ntmps39
  go_wp2_with fail
  go_loopw [12] (fun i wr => ∃ j : Nat, j ≤ os.length ∧ i = .int .i64 (j : Int) ∧ Hid (cmpO (os.drop j) xl yl = Z) ∧ Hid (Kp [] w wr)) (fun i _ => os.length - (intOf i).toNat)
  case atStart => exact ⟨0, Nat.zero_le _, rfl, hZ, Kp.refl _ _⟩
  case round =>
    obtain ⟨j, hj, rfl, hz, H⟩ := hrel
    by_cases hlt : j < os.length
    · obtain ⟨g, o, ea, c0, c1⟩ := orAt HO.out j hlt
      have cg0 := kpAt H.out c0
      have cg1 := kpAt H.out c1
      have hdr := hid (cmpO_drop os xl yl j hlt)
      obtain ⟨p, hp⟩ : ∃ p, Hid (os[j] = p) := ⟨os[j], rfl⟩
      rw [hp.out] at cg0 cg1 hdr
      obtain ⟨col, dn⟩ := p
      dsimp only at cg0 cg1 hdr
      obtain ⟨q8, W1, W2, eq8, e1, b1, e2, b2, kb⟩ := boxOr wr col dn
      have m0 := b1.get 0 _ rfl; have m1 := b1.get 1 _ rfl
      have f0 := b1.free 0; have f1 := b1.free 1
      have KW := hid (H.out.trans kb (by simp))
      have hS : Hid (∀ A, Kp [] W2 A → A.cell? ⟨q8, 0, none⟩ = some (.int .i64 col) ∧ A.cell? ⟨q8, 1, none⟩ = some (.bool dn)) := fun A k => ⟨(b2.kept k).get 0 _ rfl, (b2.kept k).get 1 _ rfl⟩
      have cA : Hid (∀ A, Kp [] w A → Calls Try.prog 45 #[.slice xa xl.length xc, .int .i64 col] A fun e w' => e = .returned (.agg #[.int .i64 (vAt xl col).k, .bool (vAt xl col).b, .int .i64 (vAt xl col).n, .string (vAt xl col).t]) ∧ Kp [] A w') := fun A k => cAtE xa xc xl col A (HX.out.see.kept k) (by omega)
      have cB : Hid (∀ A, Kp [] w A → Calls Try.prog 45 #[.slice ya yl.length yc, .int .i64 col] A fun e w' => e = .returned (.agg #[.int .i64 (vAt yl col).k, .bool (vAt yl col).b, .int .i64 (vAt yl col).n, .string (vAt yl col).t]) ∧ Kp [] A w') := fun A k => cAtE ya yc yl col A (HY.out.see.kept k) (by omega)
      obtain ⟨⟨uk, ub, un, ut⟩, hu⟩ : ∃ y, Hid (vAt xl col = y) := ⟨_, rfl⟩
      obtain ⟨⟨vk, vb, vn, vt⟩, hv⟩ : ∃ y, Hid (vAt yl col = y) := ⟨_, rfl⟩
      simp only [hu.out] at cA
      simp only [hv.out] at cB
      rw [hu.out, hv.out] at hdr
      have cC := hid (fun A => cCompare ⟨uk, ub, un, ut⟩ ⟨vk, vb, vn, vt⟩ A)
      simp only [Val.v] at cC
      have hrg := cmp_range ⟨uk, ub, un, ut⟩ ⟨vk, vb, vn, vt⟩
      obtain ⟨C, hC⟩ : ∃ C, Hid (cmpV ⟨uk, ub, un, ut⟩ ⟨vk, vb, vn, vt⟩ = C) := ⟨_, rfl⟩
      simp only [hC.out] at cC
      rw [hC.out] at hdr hrg
      have i1 : (0 : Int) ≤ (j : Int) := by omega
      have i2 : (j : Int) < (os.length : Int) := by omega
      have i3 : (j : Int) + 1 ≤ 9223372036854775807 := by omega
      subst ea
      clear c0 c1 b1 b2 kb
      go_wp2_with fail
      refine wp_noPanicY ?_
      refine wp_region_held_drew (S := fun A => A.cell? ⟨q8, 0, none⟩ = some (.int .i64 col) ∧ A.cell? ⟨q8, 1, none⟩ = some (.bool dn)) (by kernel_rfl) (hS.out _ (Kp.refl _ _).drew) (fun hHeld => ?_)
      have KD : Hid (Kp [] W2 W2.drew) := hid (Kp.refl _ _).drew
      generalize W2.drew = wd at *
      refine wpAnyH_take (i := 0) (v := ?_) rfl (by kernel_rfl) (by kernel_rfl) (by kernel_rfl) (fun _ _ _ h => by cases h.1) (Or.inl ⟨by rfl, ?_⟩) (by assumption) ?_
      rotate_left
      · intro w hSw; (try dsimp only at hSw); go_simp <;> with_reducible rfl
      try simp only [Act.put, List.getElem_toArray, List.getElem_cons_zero, List.getElem_cons_succ, List.setIfInBounds_toArray, List.set_cons_zero, List.set_cons_succ]
      refine wpAnyH_take (i := 1) (v := ?_) rfl (by kernel_rfl) (by kernel_rfl) (by kernel_rfl) (fun _ _ _ h => by cases h.1) (Or.inl ⟨by rfl, ?_⟩) (by assumption) ?_
      rotate_left
      · intro w hSw; (try dsimp only at hSw); go_simp <;> with_reducible rfl
      try simp only [Act.put, List.getElem_toArray, List.getElem_cons_zero, List.getElem_cons_succ, List.setIfInBounds_toArray, List.set_cons_zero, List.set_cons_succ]
      refine wpAnyH_take (i := 2) (v := ?_) rfl (by kernel_rfl) (by kernel_rfl) (by kernel_rfl) (fun _ _ _ h => by cases h.1) (Or.inl ⟨by rfl, ?_⟩) (by assumption) ?_
      rotate_left
      · intro w hSw; (try dsimp only at hSw); go_simp <;> with_reducible rfl
      try simp only [Act.put, List.getElem_toArray, List.getElem_cons_zero, List.getElem_cons_succ, List.setIfInBounds_toArray, List.set_cons_zero, List.set_cons_succ]
      refine wpAnyH_take (i := 4) (v := ?_) rfl (by kernel_rfl) (by kernel_rfl) (by kernel_rfl) (fun _ _ _ h => by cases h.1) (Or.inl ⟨by rfl, ?_⟩) (by assumption) ?_
      rotate_left
      · intro w hSw; (try dsimp only at hSw); go_simp <;> with_reducible rfl
      try simp only [Act.put, List.getElem_toArray, List.getElem_cons_zero, List.getElem_cons_succ, List.setIfInBounds_toArray, List.set_cons_zero, List.set_cons_succ]
      refine wpAnyH_take (i := 5) (v := ?_) rfl (by kernel_rfl) (by kernel_rfl) (by kernel_rfl) (fun _ _ _ h => by cases h.1) (Or.inl ⟨by rfl, ?_⟩) (by assumption) ?_
      rotate_left
      · intro w hSw; (try dsimp only at hSw); go_simp <;> with_reducible rfl
      try simp only [Act.put, List.getElem_toArray, List.getElem_cons_zero, List.getElem_cons_succ, List.setIfInBounds_toArray, List.set_cons_zero, List.set_cons_succ]
      refine wpAnyH_take (i := 6) (v := ?_) rfl (by kernel_rfl) (by kernel_rfl) (by kernel_rfl) (fun _ _ _ h => by cases h.1) (Or.inl ⟨by rfl, ?_⟩) (by assumption) ?_
      rotate_left
      · intro w hSw; (try dsimp only at hSw); go_simp <;> with_reducible rfl
      try simp only [Act.put, List.getElem_toArray, List.getElem_cons_zero, List.getElem_cons_succ, List.setIfInBounds_toArray, List.set_cons_zero, List.set_cons_succ]
      refine wpAnyH_ready (rs := [3]) (by kernel_rfl) (by simp) ?_
      refine AllReadyH.cons rfl (fun K hK => ?_) AllReadyH.nil
      go_simp
      refine (cA.out wd (KW.out.trans KD.out (by simp))).mono ?_
      rintro e we ⟨rfl, ke⟩
      (try go_wp2_with fail)
      refine hK.out _ _ ?_ (fun hHeld => ?_)
      · exact hS.out we (KD.out.trans ke (by simp))
      clear hK K
      try simp only [Act.put, List.getElem_toArray, List.getElem_cons_zero, List.getElem_cons_succ, List.setIfInBounds_toArray, List.set_cons_zero, List.set_cons_succ]
      have KE := hid (KD.out.trans ke (by simp))
      refine wpAnyH_ready (rs := [7]) (by kernel_rfl) (by simp) ?_
      refine AllReadyH.cons rfl (fun K hK => ?_) AllReadyH.nil
      go_simp
      refine (cB.out we (KW.out.trans KE.out (by simp))).mono ?_
      rintro e wf ⟨rfl, kf⟩
      (try go_wp2_with fail)
      refine hK.out _ _ ?_ (fun hHeld => ?_)
      · exact hS.out wf (KE.out.trans kf (by simp))
      clear hK K
      try simp only [Act.put, List.getElem_toArray, List.getElem_cons_zero, List.getElem_cons_succ, List.setIfInBounds_toArray, List.set_cons_zero, List.set_cons_succ]
      have KF := hid (KE.out.trans kf (by simp))
      refine wpAnyH_ready (rs := [8]) (by kernel_rfl) (by simp) ?_
      refine AllReadyH.cons rfl (fun K hK => ?_) AllReadyH.nil
      go_simp
      refine (cC.out wf).mono ?_
      rintro e wg ⟨rfl, kg⟩
      (try go_wp2_with fail)
      refine hK.out _ _ ?_ (fun hHeld => ?_)
      · exact hS.out wg (KF.out.trans kg (by simp))
      clear hK K
      try simp only [Act.put, List.getElem_toArray, List.getElem_cons_zero, List.getElem_cons_succ, List.setIfInBounds_toArray, List.set_cons_zero, List.set_cons_succ]
      refine wpAnyH_take (i := 9) (v := ?_) rfl (by kernel_rfl) (by kernel_rfl) (by kernel_rfl) (fun _ _ _ h => by cases h.1) (Or.inl ⟨by rfl, ?_⟩) (by assumption) ?_
      rotate_left
      · intro w hSw; (try dsimp only at hSw); go_simp <;> with_reducible rfl
      try simp only [Act.put, List.getElem_toArray, List.getElem_cons_zero, List.getElem_cons_succ, List.setIfInBounds_toArray, List.set_cons_zero, List.set_cons_succ]
      refine wpAnyH_done (by kernel_rfl) ⟨rfl, ?_⟩ _
      have KG := hid (KF.out.trans kg (by simp))
      have KWG := hid (KW.out.trans KG.out (by simp))
      obtain ⟨s0, s1⟩ := hS.out wg KG.out
      clear hHeld ke kf kg m0 m1 f0 f1 cg0 cg1
      cases dn with
      | false =>
        by_cases hC0 : C = 0
        · have d1 : (C != 0) = false := by simpa using hC0
          have hz2 : Hid (cmpO (os.drop (j + 1)) xl yl = Z) := by show _ = _; rw [← hz.out, hdr.out, dirC]; simp [hC0]
          clear hC0
          go_wp2_with fail
          go_roundw
          case rel => exact ⟨j + 1, by omega, by go_num, hz2, KWG⟩
          case measure => simp [intOf]; omega
        · have d1 : (C != 0) = true := by simpa using hC0
          have hz2 : Hid (C = Z) := by show _ = _; rw [← hz.out, hdr.out, dirC]; simp [hC0]
          clear hC0
          go_wp2_with fail
          go_ret
          rw [← hz2.out]
          exact ⟨rfl, KWG.out⟩
      | true =>
        have n1 : (-9223372036854775808 : Int) ≤ -C := by omega
        have n2 : -C ≤ 9223372036854775807 := by omega
        have nw : IntKind.i64.wrap (-C) = -C := by rw [IntKind.wrap_i64]; omega
        by_cases hC0 : C = 0
        · have d1 : (-C != 0) = false := by simp [hC0]
          have d2 : (C != 0) = false := by simp [hC0]
          have hz2 : Hid (cmpO (os.drop (j + 1)) xl yl = Z) := by show _ = _; rw [← hz.out, hdr.out, dirC]; simp [hC0]
          clear hC0
          go_wp2_with fail
          go_roundw
          case rel => exact ⟨j + 1, by omega, by go_num, hz2, KWG⟩
          case measure => simp [intOf]; omega
        · have d1 : (-C != 0) = true := by simpa using hC0
          have hz2 : Hid (-C = Z) := by
            show _ = _
            rw [← hz.out, hdr.out, dirC]
            simp [hC0]
          clear hC0
          go_wp2_with fail
          go_ret
          rw [← hz2.out]
          exact ⟨by simp [nw], KWG.out⟩
    · have hje : os.drop j = [] := List.drop_eq_nil_of_le (by omega)
      have hz2 : Hid (rowsV xl yl = Z) := by show _ = _; rw [← hz.out, hje]; rfl
      have cR := hid (cRows xa ya xc yc xl yl wr (HX.out.see.kept H.out) (HY.out.see.kept H.out) (by omega) (by omega))
      rw [hz2.out] at cR
      have dj1 : ¬ (j : Int) < (os.length : Int) := by omega
      have dj2 : decide ((j : Int) < (os.length : Int)) = false := by simp; omega
      clear hje
      go_wp2_with fail
      refine cR.out.mono ?_
      rintro e w2 ⟨rfl, k2⟩
      have KF := hid (H.out.trans k2 (by simp))
      clear cR k2
      go_wp2_with fail
      go_ret
      exact ⟨rfl, KF.out⟩
end Go.Proofs.Ytohkjikhlakglaa
end

section
namespace Go.Proofs.Ytohkjikhlakglaa
open Go.ChangeShapes Go.WideShapes Go.ChangeAt Go.RowKit Go.Hay
set_option linter.unusedVariables false
set_option linter.unusedSimpArgs false

theorem cellsU1 : Try.prog.cellsOf 3 = 1 := by kernel_rfl
theorem cellsU2 : Try.prog.cellsOf 4 = 1 := by kernel_rfl
theorem cellsU3 : Try.prog.cellsOf 80 = 2 := by kernel_rfl
theorem bytesU3 : Try.prog.bytesOf 80 = 16 := by kernel_rfl
theorem cellsU4 : Try.prog.cellsOf 51 = 2 := by kernel_rfl
theorem bytesU4 : Try.prog.bytesOf 51 = 16 := by kernel_rfl
section
variable {H : Type} {enc : TypeId × Value → H} {W : World} {a : Option Addr} {len cap : Nat} {d : DataW H} {ps : List MemPlace}
theorem openOrders (h : DataW.Trod enc Try.prog W 0 (fun _ => true) true 44 (.slice a len cap) d ps) :
    ∃ l : List (Int × Bool), len = l.length ∧ OrE.See W a l ∧ (∀ y ∈ l, True) ∧ l.length ≤ cap ∧ cap ≤ maxLen ∧ (a = none → cap = 0) ∧ (Fit 44 d → cap * 16 ≤ 140737488351232 ∧ ∀ y ∈ l, True) ∧ (l.map fun _ => 0).sum ≤ Rows.uptoBulk d ∧ cap + 1 ≤ Rows.uptoBulk d :=
  openEls OrE Try.underlying44 cellsU3 16 bytesU3 (fun _ => True) (fun _ => True) (fun _ => 0) (fun fuel cs x hx hcs => by
    match cs, hcs with
    | [c0, c1], _ =>
      obtain ⟨xs, n, _, rfl, _, hlen, hf⟩ := DataW.trod_struct Try.underlying80 hx
      match xs, hlen with
      | [y0, y1], _ =>
        have h0 := hf 0 _ rfl
        have h1 := hf 1 _ rfl
        simp [cellsU1, cellsU2] at h0 h1
        obtain ⟨k, e0, _, w0⟩ := DataW.trod_int Try.underlying3 h0
        obtain ⟨b, e1, _⟩ := DataW.trod_bool Try.underlying4 h1
        simp at e0 e1
        subst e0 e1
        exact ⟨(k, b), trivial, rfl, fun _ => trivial, Nat.zero_le _⟩) h
theorem openAggs (h : DataW.Trod enc Try.prog W 0 (fun _ => true) true 39 (.slice a len cap) d ps) :
    ∃ l : List (Int × Int), len = l.length ∧ AgE.See W a l ∧ (∀ y ∈ l, True) ∧ l.length ≤ cap ∧ cap ≤ maxLen ∧ (a = none → cap = 0) ∧ (Fit 39 d → cap * 16 ≤ 140737488351232 ∧ ∀ y ∈ l, True) ∧ (l.map fun _ => 0).sum ≤ Rows.uptoBulk d ∧ cap + 1 ≤ Rows.uptoBulk d :=
  openEls AgE Try.underlying39 cellsU4 16 bytesU4 (fun _ => True) (fun _ => True) (fun _ => 0) (fun fuel cs x hx hcs => by
    match cs, hcs with
    | [c0, c1], _ =>
      obtain ⟨xs, n, _, rfl, _, hlen, hf⟩ := DataW.trod_struct Try.underlying51 hx
      match xs, hlen with
      | [y0, y1], _ =>
        have h0 := hf 0 _ rfl
        have h1 := hf 1 _ rfl
        simp [cellsU1, cellsU2] at h0 h1
        obtain ⟨k, e0, _, w0⟩ := DataW.trod_int Try.underlying3 h0
        obtain ⟨b, e1, _, w1⟩ := DataW.trod_int Try.underlying3 h1
        simp at e0 e1
        subst e0 e1
        exact ⟨(k, b), trivial, rfl, fun _ => trivial, Nat.zero_le _⟩) h
end
end Go.Proofs.Ytohkjikhlakglaa
end

/- ExecFilters (second form): the rows of which all terms are true, and the columns that are asked for, are given as the document says, and the rows stay as they are, where what is given is of bulk at most 1048576. -/
import Derived.Test.YtfolkjjhlcjfgaaDoorB10
import Derived.Test.YtfolkjjhlcjfgaaDoorB9
import Derived.Test.YtfolkjjhlcjfgaaDoorB11
import Derived.Test.YtfolkjjhlcjfgaaDoorB2
import Derived.Test.YtfolkjjhlcjfgaaDoorB5
import Derived.SizedLaws
import Derived.JoinedCond
import Derived.Deep.CondSized
section
namespace Go.Proofs.YtfolkjjhlcjfgaaDoor
open Go.RowKit Go.Hay
attribute [local go_sem] Oper.semAt_some
set_option linter.unusedVariables false
set_option linter.unusedSimpArgs false

/-- How the first walk stands. -/
structure TwI (w1 : World) (q : Nat) (s : Sr) (W : World) : Prop where
  co : CoR w1 [q] s W
  box : W.cell? ⟨q, 0, none⟩ = some (.int .i64 (s.i : Int))
  free : W.frozen? ⟨q, 0, none⟩ = false
  few : s.i ≤ 1
theorem TwI.own {w1 : World} {q : Nat} : OwnFrom w1.heap.size (TwI w1 q) := fun s X Y row h hg hr => by
  have ck := CK.ofGrown hg (fun r e => (hr r e).2)
  obtain ⟨h1, h2⟩ := ck.2 _ _ trivial h.box
  exact ⟨h.co.grown hg hr, h1, h2.trans h.free, h.few⟩
theorem TwI.step {fr : Bool} {R : List (List Val)} {w1 : World} {q : Nat} (hq : q < w1.heap.size) {s s' : Sr} {A B : World} (hz : w1.heap.size + 2 ≤ A.heap.size) (h : TwI w1 q s A) (ht : StepR fr R s s' A B) : TwI w1 q s' B := by
  have co := h.co.step (by simpa using hq) hz ht
  have hm : s'.made = true := by
    cases hs : s.made with
    | true => exact (ht.stays hs).1
    | false => exact (ht.makes hs).1
  have hq3 : q ∉ s'.qs := fun hm' => by
    have := (co.mde hm).2 q hm'
    omega
  obtain ⟨h1, h2⟩ := (CK.ofTurn ht.turn).2 _ _ hq3 h.box
  exact ⟨co, by rw [ht.on]; exact h1, h2.trans h.free, by rw [ht.on]; exact h.few⟩
theorem coOwn {w1 : World} {S : List Nat} : OwnFrom w1.heap.size (CoR w1 S) := fun s X Y row h hg hr => h.grown hg hr
set_option maxHeartbeats 32000000 in
set_option maxRecDepth 100000 in
theorem cTwice (d : Nat) (hd : 4 ≤ d) (g : Nat) (lb : Array Value) (R : List (List Val)) (js : List Nat) (ma : Option Addr) (mc : Nat) (M : List Vs) (w : World) (heg : ∀ args w, (callFunc g args).run Tryd.prog w = .ok (.enter g args) w) (hseq : ∀ n, d ≤ n → RowSeq true (n - 1) g lb R js w) (hjs : ∀ j ∈ js, j < w.heap.size) (hR : R.length ≤ 4000000000000) (hRl : ∀ l ∈ R, l.length ≤ 3600000000000)
    (hs : VsE.See w ma M) (hx : ∀ x ∈ M, x.lies w) (hM : M.map (·.l) = R) :
    Calls Tryd.prog 5 #[.func (.func g) #[] lb, .slice ma M.length mc] w fun e w' => e = .returned (.bool true) ∧ Kp [] w w' := by
  refine (callsIn_wide (n := d)).1 ?_
  obtain ⟨w1, hw1, k1, b1⟩ : ∃ w1, w.alloc (.cells #[.int .i64 0] 3) = w1 ∧ Kp [] w w1 ∧ Bn w1 w.heap.size [.int .i64 0] := ⟨_, rfl, (Kp.refl _ _).alloc _, Bn.new w _ _⟩
  obtain ⟨q5, hq5⟩ : ∃ q, w.heap.size = q := ⟨_, rfl⟩
  rw [hq5] at b1
  have hq51 : q5 < w1.heap.size := b1.lt (by simp)
  have z0 := b1.get 0 _ rfl
  have zf := b1.free 0
  obtain ⟨w2, hw2, k2, b2⟩ : ∃ w2, w1.setCell ⟨q5, 0, none⟩ (.int .i64 0) = w2 ∧ Kp [] w w2 ∧ Bn w2 q5 [.int .i64 0] := ⟨_, rfl, k1.setCell (.inr (by show w.heap.size ≤ q5; omega)) _, b1.set 0 (by simp) _⟩
  have hz2 : w2.heap.size = w.heap.size + 1 := by rw [← hw2, ← hw1]; simp
  have hq52 : q5 < w2.heap.size := b2.lt (by simp)
  have hI0 : TwI w2 q5 ⟨false, 0, [], js, 0, none⟩ w2 := ⟨⟨rfl, rfl, rfl, Nat.le_refl _, fun _ _ _ => rfl, fun h => (by cases h), fun j hj => ⟨by have := hjs j hj; simp; omega, by have := hjs j hj; omega, by have := hjs j hj; omega⟩, fun j hj => by have := hjs j hj; omega, by simp⟩, b2.get 0 _ rfl, b2.free 0, by simp⟩
  have HI0 := hid hI0
  have HK := hid k2
  have HSQ := hid (hseq d (Nat.le_refl _))
  have HSN := hid hseq
  have HJS := hid hjs
  have HM := hid (And.intro hs (And.intro hx hM))
  have hzw := hid hz2
  have hKR : Hid (KeepR ⟨false, 0, [], js, 0, none⟩ w w2) := ⟨KeepB.ofKp k2 (by simp), fun h => (by cases h)⟩
  have hnf := eqlFuncNilY (v := false) Tryd.underlying28 (.func g) #[] lb
  have cAll : Hid (∀ W, Kp [] w W → Calls Tryd.prog 14 #[.func (.func g) #[] lb] W (LotP R W)) := fun W k => callsIn_wide.1 (cAllR d (by omega) g lb R js W heg ((hseq d (Nat.le_refl _)).move (KeepB.ofKp k (by simp))) (fun j hj => Nat.lt_of_lt_of_le (hjs j hj) k.size) hR hRl)
  have cSm : Hid (∀ W, Kp [] w W → ∀ ra rc L, Lot 0 ra rc L W → L.map (·.l) = R → Calls Tryd.prog 12 #[.slice ra L.length rc, .slice ma M.length mc] W fun e w' => e = .returned (.bool true) ∧ Kp [] W w') := fun W k ra rc L hl hL => by
    have ck := CK.ofKp k
    obtain ⟨a', c', e, hs', _⟩ := hl.row.see
    cases e
    exact cSameAll ra ma rc mc L M W hs' (ckSee ck hs (by simp)) hl.lies (fun x h => (hx x h).ck ck (by simp)) (by rw [hL, hM]) (by have := congrArg List.length hL; simp at this; omega)
  clear hI0 k1 k2 b1 b2 hseq hjs hz2 hs hx hM
  refine callsIn_of_wp_marks Tryd.func5 rfl trivial ?_ rfl
  simp only [Tryd.ntmps5, List.size_toArray, List.length_cons, List.length_nil, Nat.reduceAdd, Nat.reduceSub, Array.replicate_succ, Array.replicate_zero, List.push_toArray, List.append_toArray, List.nil_append, List.cons_append]
  refine wpIn_wide.2 ?_
  go_wp2_with fail
  refine (wpIn_wide (n := d)).1 ?_
  refine wpRangeX rfl (by omega) (gf := g) (lb := lb) rfl trivial heg
    HSQ.out (fun _ => rfl) KeepR.trans (fun s W o => KeepR.alloc s W o) hKR.out
    (TwI w2 q5) (fun c s W' => c = .exit 0 ∧ CoR w2 [q5] s W') TwI.own (fun c s X Y row h hg hr => ⟨h.1, h.2.grown hg hr⟩) HI0.out
    (fun s s' A B h ht k o hk ho => h.co.keeps ht k o hk ho) (fun c s A B h ht k o hk ho => h.2.keepsX ht k o hk ho) (fun s s' A B hz h ht => h.step hq52 hz ht) (fun c s A B h ht => ⟨h.1, h.2.stepX ht⟩)
    (fun s W o' h => h.co.recs o') (fun s x W o' h => CoR.recs (S := [q5]) (s := s) ⟨h.co.os, h.co.tape, h.co.output, h.co.size, h.co.low, h.co.mde, h.co.js, h.co.jl, h.co.ql⟩ o') (fun c s x W o' h => CoR.recs (S := [q5]) (s := s) ⟨h.2.os, h.2.tape, h.2.output, h.2.size, h.2.low, h.2.mde, h.2.js, h.2.jl, h.2.ql⟩ o')
    (fun x => { tmps := #[.func (.func g) #[] lb, .slice ma M.length mc, undef, undef, .bool false, .pointer (some ⟨q5, 0, none⟩), .func (.func g) #[] lb, .bool false, .func (.func g) #[] lb, .slice x.a x.l.length x.c, undef, undef, undef, undef, undef, undef, undef, undef, undef, undef, undef, undef, undef, undef], defers := [] }) ?assign ?body ?done ?stop
  case assign =>
    intro l x W C hC
    gi_wp2_with fail
    simpa [encR] using hC
  case body =>
    rintro l0 s ⟨xa, xc, xl⟩ A h hp
    have hb := h.box
    have hf := h.free
    have hfew := h.few
    have h' := hid h
    have d1 : (s.i : Int) + 1 ≤ 9223372036854775807 := by omega
    have c1 := World.cell?_setCell_same A ⟨q5, 0, none⟩ (.int .i64 ((s.i : Int) + 1)) hb
    have k1 : Kp [q5] A (A.setCell ⟨q5, 0, none⟩ (.int .i64 ((s.i : Int) + 1))) := (Kp.refl _ _).setCell (by simp) _
    obtain ⟨r1, r2, r3⟩ := h.co.round (x := ⟨xa, xc, xl⟩) k1 (fun k hk => by rw [List.mem_singleton.1 hk]; exact cellCel hb) (fun k hk => .inl hk) (fun k hk hm => (h.co.js k hm).1 hk)
    have f1 : (A.setCell ⟨q5, 0, none⟩ (.int .i64 ((s.i : Int) + 1))).frozen? ⟨q5, 0, none⟩ = false := by rw [World.frozen?_setCell]; exact hf
    have HR := hid (And.intro r1 (And.intro r2 (And.intro r3 (And.intro c1 f1))))
    clear h r1 r2 r3 k1 f1
    by_cases hi : s.i = 1
    · have d2 : (((s.i : Nat) : Int) + 1 == 2) = true := by simp; omega
      have d3 : ((s.i : Nat) : Int) + 1 = 2 := by omega
      have hi' := hid hi
      clear hi
      gi_wp2_with fail
      have HR2 := HR.out
      rw [d3] at HR2
      exact ⟨HR2.1, HR2.2.1, rfl, HR2.2.2.1⟩
    · have d2 : (((s.i : Nat) : Int) + 1 == 2) = false := beq_eq_false_iff_ne.2 (by omega)
      have d3 : ¬ ((s.i : Nat) : Int) + 1 = 2 := by omega
      have hi' := hid hi
      clear hi
      gi_wp2_with fail
      exact ⟨HR.out.1, HR.out.2.1, HR.out.2.2.1, HR.out.2.2.2.1, HR.out.2.2.2.2, by show s.i + 1 ≤ 1; have := hi'.out; omega⟩
  case done =>
    rintro D s X hD ⟨hmd, hsi, hsp⟩ h hrec
    have hkX : Kp [] w X := HK.out.trans h.co.kp (fun x hx => .inr (by simp at hx; omega))
    clear h
    have KX := hid hkX
    have hrec' := hid hrec
    clear hkX hrec
    go_wp2_with fail
    refine (cAll.out X KX.out).mono ?_
    rintro e X1 ⟨ra, rc, L, rfl, hl, hL, k1⟩
    have KX1 := hid (KX.out.trans k1 (by simp))
    have KD1 := hid k1
    have cS1 := hid (cSm.out X1 KX1.out ra rc L (hl.mono (Nat.zero_le _)) hL)
    clear hl hL k1
    go_wp2_with fail
    refine cS1.out.mono ?_
    rintro e X2 ⟨rfl, k2⟩
    have KX2 := hid (KX1.out.trans k2 (by simp))
    have KD2 := hid (KD1.out.trans k2 (by simp))
    clear cS1 k2
    go_wp2_with fail
    refine (cAll.out X2 KX2.out).mono ?_
    rintro e X3 ⟨ra3, rc3, L3, rfl, hl, hL, k3⟩
    have KX3 := hid (KX2.out.trans k3 (by simp))
    have KD3 := hid (KD2.out.trans k3 (by simp))
    have cS3 := hid (cSm.out X3 KX3.out ra3 rc3 L3 (hl.mono (Nat.zero_le _)) hL)
    clear hl hL k3
    go_wp2_with fail
    refine cS3.out.mono ?_
    rintro e X4 ⟨rfl, k4⟩
    have KX4 := hid (KX3.out.trans k4 (by simp))
    have KD4 := hid (KD3.out.trans k4 (by simp))
    clear cS3 k4
    go_wp2_with fail
    have hDl := (Array.getElem?_eq_some_iff.1 hrec'.out).1
    have hrec2 : X4.heap[D]? = some (.deferred (some [])) := (KD4.out.block D hDl (by simp)).trans hrec'.out
    have hmk : Mks [D] X4 := (Mks.nil X4).cons hrec2 (by simp)
    have hDw : w.heap.size ≤ D := by have := hzw.out; omega
    show LeavesInM _ _ _ _ _ _ (marks [D]) .returning _
    refine leaves_marks [D] X4 hmk fun w' hk => ⟨_, results_tmp rfl _ _ _, rfl, KX4.out.trans hk (fun x hx => .inr (by simp at hx; omega))⟩
  case stop =>
    rintro D c s X hD hsm ⟨rfl, h⟩ hrec
    have hkX : Kp [] w X := HK.out.trans h.kp (fun x hx => .inr (by simp at hx; omega))
    clear h
    refine wpIn_wide.2 ?_
    have KX := hid hkX
    have hrec' := hid hrec
    clear hkX hrec
    go_wp2_with fail
    refine (cAll.out X KX.out).mono ?_
    rintro e X1 ⟨ra, rc, L, rfl, hl, hL, k1⟩
    have KX1 := hid (KX.out.trans k1 (by simp))
    have KD1 := hid k1
    have cS1 := hid (cSm.out X1 KX1.out ra rc L (hl.mono (Nat.zero_le _)) hL)
    clear hl hL k1
    go_wp2_with fail
    refine cS1.out.mono ?_
    rintro e X2 ⟨rfl, k2⟩
    have KX2 := hid (KX1.out.trans k2 (by simp))
    have KD2 := hid (KD1.out.trans k2 (by simp))
    clear cS1 k2
    go_wp2_with fail
    refine (cAll.out X2 KX2.out).mono ?_
    rintro e X3 ⟨ra3, rc3, L3, rfl, hl, hL, k3⟩
    have KX3 := hid (KX2.out.trans k3 (by simp))
    have KD3 := hid (KD2.out.trans k3 (by simp))
    have cS3 := hid (cSm.out X3 KX3.out ra3 rc3 L3 (hl.mono (Nat.zero_le _)) hL)
    clear hl hL k3
    go_wp2_with fail
    refine cS3.out.mono ?_
    rintro e X4 ⟨rfl, k4⟩
    have KX4 := hid (KX3.out.trans k4 (by simp))
    have KD4 := hid (KD3.out.trans k4 (by simp))
    clear cS3 k4
    go_wp2_with fail
    have hDl := (Array.getElem?_eq_some_iff.1 hrec'.out).1
    have hrec2 : X4.heap[D]? = some (.deferred (some [])) := (KD4.out.block D hDl (by simp)).trans hrec'.out
    have hmk : Mks [D] X4 := (Mks.nil X4).cons hrec2 (by simp)
    have hDw : w.heap.size ≤ D := by have := hzw.out; omega
    show LeavesInM _ _ _ _ _ _ (marks [D]) .returning _
    refine leaves_marks [D] X4 hmk fun w' hk => ⟨_, results_tmp rfl _ _ _, rfl, KX4.out.trans hk (fun x hx => .inr (by simp at hx; omega))⟩
end Go.Proofs.YtfolkjjhlcjfgaaDoor
end

section
namespace Go.Proofs.YtfolkjjhlcjfgaaDoor
open Go.RowKit Go.Hay
set_option linter.unusedVariables false
set_option linter.unusedSimpArgs false

/-- The iterator's own memory: what it was given, in a box; yield, in a box; and what it reads besides. -/
structure MI (v2 : Value) (q2 q3 ly : Nat) (X : World → Prop) (W : World) : Prop where
  c2 : W.cell? ⟨q2, 0, none⟩ = some v2
  c3 : W.cell? ⟨q3, 0, none⟩ = some (.func (.yield ly) #[] #[])
  x : X W
theorem MI.ck {v2 : Value} {q2 q3 ly : Nat} {X : World → Prop} {Xj : List Nat} (hX : ∀ A B, X A → CK (fun k => k ∈ Xj) A B → X B) {A B : World} (h : MI v2 q2 q3 ly X A) (k : CK (fun k => k ∈ q2 :: q3 :: Xj) A B) : MI v2 q2 q3 ly X B :=
  ⟨(k.2 ⟨q2, 0, none⟩ _ (by simp) h.c2).1, (k.2 ⟨q3, 0, none⟩ _ (by simp) h.c3).1, hX A B h.x (k.mono fun j hj => by simp [hj])⟩
theorem relStep {RL RJ : List (List Val)} {f : List Val → List (List Val)} {i k : Nat} {x : List Val} (h : RJ.drop i = (RL.drop k).flatMap f) (hx : RL[k]? = some x) : RJ.drop i = f x ++ (RL.drop (k + 1)).flatMap f := by
  obtain ⟨hk, e⟩ := List.getElem?_eq_some_iff.1 hx
  rw [h, List.drop_eq_getElem_cons hk, e, List.flatMap_cons]
theorem relOne {RJ : List (List Val)} {i : Nat} {z : List Val} {l : List (List Val)} (h : RJ.drop i = [z] ++ l) : RJ[i]? = some z ∧ RJ.drop (i + 1) = l ∧ i + 1 ≤ RJ.length := by
  have h0 : RJ[i]? = some z := by
    have := congrArg (fun z => z[0]?) h
    simpa [List.getElem?_drop] using this
  refine ⟨h0, ?_, (List.getElem?_eq_some_iff.1 h0).1⟩
  have := congrArg (List.drop 1) h
  simpa [List.drop_drop] using this
end Go.Proofs.YtfolkjjhlcjfgaaDoor
end

section
namespace Go.Proofs.YtfolkjjhlcjfgaaDoor
open Go.RowKit Go.Hay
attribute [local go_sem] Oper.semAt_some
set_option linter.unusedVariables false
set_option linter.unusedSimpArgs false

/-- Which rows one row gives. -/
def projF (ps : List Int) (x : List Val) : List (List Val) := [pickV x ps]
set_option maxHeartbeats 64000000 in
set_option maxRecDepth 100000 in
theorem projSeq (n : Nat) (hn : 2 ≤ n) (q1 q2 : Nat) (fr : Bool) (gl : Nat) (lbl : Array Value) (RL : List (List Val)) (jsl js : List Nat) (pa : Option Addr) (pc : Nat) (ps : List Int) (w : World)
    (heL : ∀ args w, (callFunc gl args).run Tryd.prog w = .ok (.enter gl args) w)
    (c1 : w.cell? ⟨q1, 0, none⟩ = some (.func (.func gl) #[] lbl)) (c2 : w.cell? ⟨q2, 0, none⟩ = some (Value.slice pa ps.length pc)) (hXw : (fun W => IntE.See W pa ps) w)
    (hq : ∀ q ∈ [q1, q2], q ∈ js) (hjl : ∀ j ∈ jsl, j ∈ js) (hXj : ∀ j ∈ blk pa, j ∈ js) (hjb : ∀ j ∈ js, j < w.heap.size)
    (hL : RowSeq fr (n - 1) gl lbl RL jsl w) (hRLl : ∀ l ∈ RL, l.length ≤ 1800000000000) (hpl : ps.length ≤ 3000000000000) :
    RowSeq true n 22 #[.pointer (some ⟨q1, 0, none⟩), .pointer (some ⟨q2, 0, none⟩)] (RL.flatMap (projF ps)) js w := by
  intro ly J Jx W hW hT hX hY h0
  obtain ⟨f, hf⟩ : ∃ f, Hid (projF ps = f) := ⟨_, rfl⟩
  obtain ⟨RJ, hRJ⟩ : ∃ R, Hid (RL.flatMap f = R) := ⟨_, rfl⟩
  rw [hf.out, hRJ.out] at hT ⊢
  obtain ⟨X, hXd⟩ : ∃ X, Hid ((fun W => IntE.See W pa ps) = X) := ⟨_, rfl⟩
  obtain ⟨Xj, hXjd⟩ : ∃ X, Hid (blk pa = X) := ⟨_, rfl⟩
  have hXck : ∀ A B, X A → CK (fun k => k ∈ Xj) A B → X B := by rw [← hXd.out, ← hXjd.out]; exact (fun A B h k => ckSee k h (fun j hj => hj))
  have hXw : X w := by rw [← hXd.out]; exact hXw
  rw [hXjd.out] at hXj
  have kjs := hW.js
  have d1 := kjs.cell (hq q1 (by simp)) c1
  have d2 := kjs.cell (hq q2 (by simp)) c2
  have dX := hXck _ _ hXw ((ckOfKeepB kjs).mono fun k hk => hXj k hk)
  have hlW := hL.move (W := W) ⟨kjs.1, fun j hj o ho => kjs.2 j (hjl j hj) o ho⟩
  have hjW : ∀ j ∈ js, j < W.heap.size := fun j hj => Nat.lt_of_lt_of_le (hjb j hj) kjs.1
  obtain ⟨W1, hW1, k1, b1⟩ : ∃ W1, W.alloc (.cells #[.func (.yield ly) #[] #[]] 45) = W1 ∧ Kp [] W W1 ∧ Bn W1 W.heap.size [.func (.yield ly) #[] #[]] := ⟨_, rfl, (Kp.refl _ _).alloc _, Bn.new W _ _⟩
  obtain ⟨q3, hq3⟩ : ∃ q, Hid (W.heap.size = q) := ⟨_, rfl⟩
  rw [hq3.out] at b1
  have e1 := kpAt k1 d1
  obtain ⟨Mj, hMj⟩ : ∃ M, Hid (M = q2 :: q3 :: Xj) := ⟨_, rfl⟩
  obtain ⟨V2, hV2⟩ : ∃ v, Hid (Value.slice pa ps.length pc = v) := ⟨_, rfl⟩
  rw [hV2.out] at d2
  have hM1 : MI V2 q2 q3 ly X W1 := ⟨kpAt k1 d2, b1.get 0 _ rfl, hXck _ _ dX ((CK.ofKp k1).mono (by simp))⟩
  have hMst : ∀ A B, MI V2 q2 q3 ly X A → CK (fun k => k ∈ Mj) A B → MI V2 q2 q3 ly X B := fun A B h k => h.ck hXck (by rw [← hMj.out]; exact k)
  have hMn : ∀ j ∈ Mj, j ∈ js ∨ (W.heap.size ≤ j ∧ j < W1.heap.size) := fun j hj => by
    rw [hMj.out] at hj
    rcases List.mem_cons.1 hj with rfl | hj
    · exact .inl (hq _ (by simp))
    · rcases List.mem_cons.1 hj with rfl | hj
      · exact .inr ⟨by rw [← hq3.out]; exact Nat.le_refl _, b1.lt (by simp)⟩
      · exact .inl (hXj j hj)
  have hMb : ∀ j ∈ Mj, j < W1.heap.size := fun j hj => by
    rcases hMn j hj with e | e
    · exact Nat.lt_of_lt_of_le (hjW j e) k1.size
    · exact e.2
  have hJ1 : J ⟨true, W1.heap.size, [], js ++ Mj, 0, none⟩ W1 := hT _ _ _ _ h0 ⟨TurnR.ofKp0 k1, fun h => (by cases h), fun _ => ⟨rfl, k1.size, by simp⟩, fun j hj => by
    rcases List.mem_append.1 hj with e | e
    · exact .inl e
    · exact hMn j e, rfl, .inl rfl⟩
  have hI0 : InG J RL RJ f (MI V2 q2 q3 ly X) Mj W1 ⟨false, 0, [], jsl, 0, none⟩ W1 := ⟨js ++ Mj, [], 0, hJ1, fun j hj => List.mem_append.2 (.inl (hjl j hj)), fun j hj => List.mem_append.2 (.inr hj), by simp, hM1, by rw [← hRJ.out]; rfl, Nat.zero_le _, Nat.le_refl _, fun h => (by cases h), fun j hj => by have := hjW j (hjl j hj); have := k1.size; omega, fun x hx => (by cases hx), fun j hj => by
    rcases List.mem_append.1 hj with e | e
    · have := hjW j e; have := k1.size; omega
    · exact hMb j e, by simp⟩
  have hsq := hid (hlW.move (KeepB.ofKp k1 (by simp)))
  have HI0 := hid hI0
  have HMS := hid hMst
  have HMB := hid hMb
  have hq3' := hq3.out
  clear c1 c2 hL hW kjs hjb hlW k1 b1 d1 d2 hM1 hMn hJ1 hI0 hMst hMb h0 dX
  refine callsIn_of_wp_marks Tryd.func22 rfl trivial ?_ rfl
  simp only [Tryd.ntmps22, List.size_toArray, List.length_cons, List.length_nil, Nat.reduceAdd, Nat.reduceSub, Array.replicate_succ, Array.replicate_zero, List.push_toArray, List.append_toArray, List.nil_append, List.cons_append]
  refine wpIn_wide.2 ?_
  go_wp2_with fail
  refine (wpIn_wide (n := n)).1 ?_
  refine wpRangeX rfl (by omega) (gf := gl) (lb := lbl) rfl trivial heL
    hsq.out (fun _ => rfl) KeepR.trans (fun s W o => KeepR.alloc s W o) (KeepR.refl _ _)
    (InG J RL RJ f (MI V2 q2 q3 ly X) Mj W1) (fun c s W' => c = .ret ∧ InX Jx W1 s W') (InG.own hT HMS.out) (fun c s X Y row h hg hr => ⟨h.1, InX.own hX s X Y row h.2 hg hr⟩) HI0.out
    (fun s s' A B h ht k o hk ho => h.keeps ht k o hk ho) (fun c s A B h ht k o hk ho => h.2.keeps ht k o hk ho) (fun s s' A B hz h ht => h.step hT HMS.out HMB.out hz ht) (fun c s A B h ht => ⟨h.1, h.2.step hX ht⟩)
    (fun s W o' h => h.recs o') (fun s x W o' h => h.recs' o') (fun c s x W o' h => h.2.recs' o')
    (fun x => { tmps := #[.func (.yield ly) #[] #[], .pointer (some ⟨q1, 0, none⟩), .pointer (some ⟨q2, 0, none⟩), .pointer (some ⟨q3, 0, none⟩), .slice x.a x.l.length x.c, .func (.func gl) #[] lbl, .slice x.a x.l.length x.c, undef, undef, undef, undef, undef, undef], defers := [] }) ?assign ?body ?done ?stop
  case assign =>
    intro l x W C hC
    gi_wp2_with fail
    exact hC
  case body =>
    rintro l0 s ⟨xa, xc, xl⟩ A ⟨jsA, qsA, i, h⟩ hp
    obtain ⟨hRi, hxl⟩ := h.pend _ hp
    dsimp only at hRi ⊢
    have hxn : xl.length ≤ 1800000000000 := hRLl _ (List.mem_of_getElem? hRi)
    have hrel := hid (relStep h.rel hRi)
    have h' := hid h
    have hxl' := hid hxl
    have hmK : Hid (∀ A', Kp [] A A' → MI V2 q2 q3 ly X A') := fun A' k => HMS.out _ _ h'.out.m ((CK.ofKp k).mono (by simp))
    clear h hRi hxl HI0
    rw [← hV2.out] at hmK
    have hR1 : Hid (RJ[i]? = some (pickV xl ps) ∧ RJ.drop (i + 1) = (RL.drop (s.i + 1)).flatMap f ∧ i + 1 ≤ RJ.length) := relOne (by rw [hrel.out, ← hf.out]; rfl)
    obtain ⟨zl, hzl0⟩ : ∃ z, Hid (pickV xl ps = z) := ⟨_, rfl⟩
    rw [hzl0.out] at hR1
    gi_wp2_with fail
    refine wpIn_region_any (by kernel_rfl) ?_
    change wpAnyIn _ _ _ _ _ _ _ _ _ A.drew
    have kD : Kp [] A A.drew := (Kp.refl _ _).drew
    generalize A.drew = wd at *
    have KB := hid kD
    have c2b := (hmK.out wd kD).c2
    have c3b := (hmK.out wd kD).c3
    have cCt : Hid (Calls Tryd.prog 23 #[.slice xa xl.length xc, .slice pa ps.length pc] wd (NewR zl wd)) := by
      rw [← hzl0.out]
      have hx := (hmK.out wd kD).x
      rw [← hXd.out] at hx
      exact cPick xa xc xl pa pc ps wd (hxl'.out.see.kept kD) (by omega) hx hpl
    clear kD
    refine wpAnyIn_ready (rs := [0, 1, 2]) (by kernel_rfl) (by simp) ?_
    refine AllReadyIn.cons rfl (fun K hK => ?_) (AllReadyIn.cons rfl (fun K hK => ?_) (AllReadyIn.cons rfl (fun K hK => ?_) AllReadyIn.nil))
    · go_simp
      refine hK _ _ ?_
      clear hK K
      try simp only [Act.put, List.getElem_toArray, List.getElem_cons_zero, List.getElem_cons_succ, List.setIfInBounds_toArray, List.set_cons_zero, List.set_cons_succ]
      refine wpAnyIn_ready (rs := [1, 2]) (by kernel_rfl) (by simp) ?_
      refine AllReadyIn.cons rfl (fun K hK => ?_) (AllReadyIn.cons rfl (fun K hK => ?_) AllReadyIn.nil)
      · go_simp
        refine hK _ _ ?_
        clear hK K
        try simp only [Act.put, List.getElem_toArray, List.getElem_cons_zero, List.getElem_cons_succ, List.setIfInBounds_toArray, List.set_cons_zero, List.set_cons_succ]
        refine wpAnyIn_ready (rs := [2]) (by kernel_rfl) (by simp) ?_
        refine AllReadyIn.cons rfl (fun K hK => ?_) AllReadyIn.nil
        go_simp
        refine hK _ _ ?_
        clear hK K
        try simp only [Act.put, List.getElem_toArray, List.getElem_cons_zero, List.getElem_cons_succ, List.setIfInBounds_toArray, List.set_cons_zero, List.set_cons_succ]
        refine wpAnyIn_ready (rs := [3]) (by kernel_rfl) (by simp) ?_
        refine AllReadyIn.cons rfl (fun K hK => ?_) AllReadyIn.nil
        go_simp
        refine ⟨trivial, fun h => (by cases h), (CallsIn.inRound l0 (callsIn_wide.2 cCt.out)).mono ?_⟩
        rintro e Wz ⟨za, zc, rfl, hzrow, kz, hzb⟩
        have c3z := kpAt kz c3b
        refine hK _ _ ?_
        clear hK K
        try simp only [Act.put, List.getElem_toArray, List.getElem_cons_zero, List.getElem_cons_succ, List.setIfInBounds_toArray, List.set_cons_zero, List.set_cons_succ]
        have kWz := hid (KB.out.trans kz (by simp))
        have hzl := rowLies hzrow
        have hzb2 : ∀ j ∈ blk za, A.heap.size ≤ j := fun j hj => by have := hzb j hj; have := KB.out.size; omega
        have hJz : J ⟨true, W1.heap.size, qsA, jsA, i, some ⟨za, zc, zl⟩⟩ Wz := hT _ _ _ _ h'.out.j ⟨TurnR.ofKp0 kWz.out, fun _ => ⟨rfl, rfl, fun q hq => .inl hq⟩, fun e => (by cases e), fun j hj => .inl hj, rfl, .inr ⟨_, rfl, hR1.out.1, hzl, fun _ => ⟨hzrow, fun j hj => ⟨hzb2 j hj, fun hm => by have := h'.out.jl j hm; have := hzb2 j hj; omega, fun hm => by have := h'.out.ql j hm; have := hzb2 j hj; omega⟩⟩⟩⟩
        obtain ⟨fn, tmps, assign, body, hyl5, hR⟩ := hY _ ⟨za, zc, zl⟩ Wz hJz rfl
        have hR' : RoundIn (Fence.wide.inRound l0) (n - 1 - 1 - 1) Tryd.prog ly fn tmps assign body Wz _ := RoundIn.anyDepthJ (F := Fence.wide.inRound l0) rfl hR
        have hgo : Hid (∀ A3, KeepR ⟨true, W1.heap.size, qsA, jsA, i, some ⟨za, zc, zl⟩⟩ Wz A3 → KeepR s A A3 ∧ KeepsFrom W1.heap.size A A3 ∧ KeepB Mj A A3) := fun A3 hk3 => h'.out.keepR (s := ⟨true, W1.heap.size, qsA, jsA, i, some ⟨za, zc, zl⟩⟩) rfl rfl (fun j hj => hj) (KeepR.trans ⟨KeepB.ofKp kWz.out (by simp), fun _ j o _ ho _ => (kWz.out.block j (Array.getElem?_eq_some_iff.1 ho).1 (by simp)).trans ho⟩ hk3)
        have hyl6 := hyl5
        simp only [encR] at hyl6
        clear hR hJz hzl hzrow kz hzb hzb2 hyl5 cCt
        refine wpAnyIn_ready (rs := [4]) (by kernel_rfl) (by simp) ?_
        refine AllReadyIn.cons rfl (fun K hK => ?_) AllReadyIn.nil
        go_simp
        refine ⟨fun h => (by cases h), hR'.mono ?_⟩
        rintro e A3 (⟨rfl, hJ3, hk3⟩ | ⟨rfl, hJ3, hk3⟩)
        · have HG := hid (hgo.out A3 hk3)
          have hJ4 : Hid (J ⟨true, W1.heap.size, qsA, jsA, i + 1, none⟩ A3) := hJ3
          clear hgo hR' hyl6 hJ3 hk3
          refine hK _ _ ?_
          clear hK K
          try simp only [Act.put, List.getElem_toArray, List.getElem_cons_zero, List.getElem_cons_succ, List.setIfInBounds_toArray, List.set_cons_zero, List.set_cons_succ]
          refine wpAnyIn_ready (rs := [5]) (by kernel_rfl) (by simp) ?_
          refine AllReadyIn.cons rfl (fun K hK => ?_) AllReadyIn.nil
          go_simp
          refine hK _ _ ?_
          clear hK K
          try simp only [Act.put, List.getElem_toArray, List.getElem_cons_zero, List.getElem_cons_succ, List.setIfInBounds_toArray, List.set_cons_zero, List.set_cons_succ]
          refine wpAnyIn_done (by kernel_rfl) ?_ _
          gi_wp2_with fail
          refine ⟨HG.out.2.1, HG.out.1, jsA, qsA, i + 1, hJ4.out, h'.out.sub, h'.out.mj, h'.out.qsub, HMS.out _ _ h'.out.m (ckOfKeepB HG.out.2.2), hR1.out.2.1, hR1.out.2.2, Nat.le_trans h'.out.size HG.out.2.1.size, h'.out.mde, h'.out.lj, fun x hx => (by cases hx), fun j hj => Nat.lt_of_lt_of_le (h'.out.jl j hj) HG.out.2.1.size, fun q hq => Nat.lt_of_lt_of_le (h'.out.ql q hq) HG.out.2.1.size⟩
        · have HG := hid (hgo.out A3 hk3)
          have hJ4 := hid hJ3
          clear hgo hR' hyl6 hJ3 hk3
          refine hK _ _ ?_
          clear hK K
          try simp only [Act.put, List.getElem_toArray, List.getElem_cons_zero, List.getElem_cons_succ, List.setIfInBounds_toArray, List.set_cons_zero, List.set_cons_succ]
          refine wpAnyIn_ready (rs := [5]) (by kernel_rfl) (by simp) ?_
          refine AllReadyIn.cons rfl (fun K hK => ?_) AllReadyIn.nil
          go_simp
          refine hK _ _ ?_
          clear hK K
          try simp only [Act.put, List.getElem_toArray, List.getElem_cons_zero, List.getElem_cons_succ, List.setIfInBounds_toArray, List.set_cons_zero, List.set_cons_succ]
          refine wpAnyIn_done (by kernel_rfl) ?_ _
          gi_wp2_with fail
          refine ⟨HG.out.2.1, HG.out.1, rfl, Sr.nx ⟨true, W1.heap.size, qsA, jsA, i, some ⟨za, zc, zl⟩⟩ ⟨za, zc, zl⟩, rfl, rfl, h'.out.qsub, h'.out.mde, h'.out.lj, hJ4.out⟩
      · go_simp
        refine hK _ _ ?_
        clear hK K
        try simp only [Act.put, List.getElem_toArray, List.getElem_cons_zero, List.getElem_cons_succ, List.setIfInBounds_toArray, List.set_cons_zero, List.set_cons_succ]
        refine wpAnyIn_ready (rs := [1]) (by kernel_rfl) (by simp) ?_
        refine AllReadyIn.cons rfl (fun K hK => ?_) AllReadyIn.nil
        go_simp
        refine hK _ _ ?_
        clear hK K
        try simp only [Act.put, List.getElem_toArray, List.getElem_cons_zero, List.getElem_cons_succ, List.setIfInBounds_toArray, List.set_cons_zero, List.set_cons_succ]
        refine wpAnyIn_ready (rs := [3]) (by kernel_rfl) (by simp) ?_
        refine AllReadyIn.cons rfl (fun K hK => ?_) AllReadyIn.nil
        go_simp
        refine ⟨trivial, fun h => (by cases h), (CallsIn.inRound l0 (callsIn_wide.2 cCt.out)).mono ?_⟩
        rintro e Wz ⟨za, zc, rfl, hzrow, kz, hzb⟩
        have c3z := kpAt kz c3b
        refine hK _ _ ?_
        clear hK K
        try simp only [Act.put, List.getElem_toArray, List.getElem_cons_zero, List.getElem_cons_succ, List.setIfInBounds_toArray, List.set_cons_zero, List.set_cons_succ]
        have kWz := hid (KB.out.trans kz (by simp))
        have hzl := rowLies hzrow
        have hzb2 : ∀ j ∈ blk za, A.heap.size ≤ j := fun j hj => by have := hzb j hj; have := KB.out.size; omega
        have hJz : J ⟨true, W1.heap.size, qsA, jsA, i, some ⟨za, zc, zl⟩⟩ Wz := hT _ _ _ _ h'.out.j ⟨TurnR.ofKp0 kWz.out, fun _ => ⟨rfl, rfl, fun q hq => .inl hq⟩, fun e => (by cases e), fun j hj => .inl hj, rfl, .inr ⟨_, rfl, hR1.out.1, hzl, fun _ => ⟨hzrow, fun j hj => ⟨hzb2 j hj, fun hm => by have := h'.out.jl j hm; have := hzb2 j hj; omega, fun hm => by have := h'.out.ql j hm; have := hzb2 j hj; omega⟩⟩⟩⟩
        obtain ⟨fn, tmps, assign, body, hyl5, hR⟩ := hY _ ⟨za, zc, zl⟩ Wz hJz rfl
        have hR' : RoundIn (Fence.wide.inRound l0) (n - 1 - 1 - 1) Tryd.prog ly fn tmps assign body Wz _ := RoundIn.anyDepthJ (F := Fence.wide.inRound l0) rfl hR
        have hgo : Hid (∀ A3, KeepR ⟨true, W1.heap.size, qsA, jsA, i, some ⟨za, zc, zl⟩⟩ Wz A3 → KeepR s A A3 ∧ KeepsFrom W1.heap.size A A3 ∧ KeepB Mj A A3) := fun A3 hk3 => h'.out.keepR (s := ⟨true, W1.heap.size, qsA, jsA, i, some ⟨za, zc, zl⟩⟩) rfl rfl (fun j hj => hj) (KeepR.trans ⟨KeepB.ofKp kWz.out (by simp), fun _ j o _ ho _ => (kWz.out.block j (Array.getElem?_eq_some_iff.1 ho).1 (by simp)).trans ho⟩ hk3)
        have hyl6 := hyl5
        simp only [encR] at hyl6
        clear hR hJz hzl hzrow kz hzb hzb2 hyl5 cCt
        refine wpAnyIn_ready (rs := [4]) (by kernel_rfl) (by simp) ?_
        refine AllReadyIn.cons rfl (fun K hK => ?_) AllReadyIn.nil
        go_simp
        refine ⟨fun h => (by cases h), hR'.mono ?_⟩
        rintro e A3 (⟨rfl, hJ3, hk3⟩ | ⟨rfl, hJ3, hk3⟩)
        · have HG := hid (hgo.out A3 hk3)
          have hJ4 : Hid (J ⟨true, W1.heap.size, qsA, jsA, i + 1, none⟩ A3) := hJ3
          clear hgo hR' hyl6 hJ3 hk3
          refine hK _ _ ?_
          clear hK K
          try simp only [Act.put, List.getElem_toArray, List.getElem_cons_zero, List.getElem_cons_succ, List.setIfInBounds_toArray, List.set_cons_zero, List.set_cons_succ]
          refine wpAnyIn_ready (rs := [5]) (by kernel_rfl) (by simp) ?_
          refine AllReadyIn.cons rfl (fun K hK => ?_) AllReadyIn.nil
          go_simp
          refine hK _ _ ?_
          clear hK K
          try simp only [Act.put, List.getElem_toArray, List.getElem_cons_zero, List.getElem_cons_succ, List.setIfInBounds_toArray, List.set_cons_zero, List.set_cons_succ]
          refine wpAnyIn_done (by kernel_rfl) ?_ _
          gi_wp2_with fail
          refine ⟨HG.out.2.1, HG.out.1, jsA, qsA, i + 1, hJ4.out, h'.out.sub, h'.out.mj, h'.out.qsub, HMS.out _ _ h'.out.m (ckOfKeepB HG.out.2.2), hR1.out.2.1, hR1.out.2.2, Nat.le_trans h'.out.size HG.out.2.1.size, h'.out.mde, h'.out.lj, fun x hx => (by cases hx), fun j hj => Nat.lt_of_lt_of_le (h'.out.jl j hj) HG.out.2.1.size, fun q hq => Nat.lt_of_lt_of_le (h'.out.ql q hq) HG.out.2.1.size⟩
        · have HG := hid (hgo.out A3 hk3)
          have hJ4 := hid hJ3
          clear hgo hR' hyl6 hJ3 hk3
          refine hK _ _ ?_
          clear hK K
          try simp only [Act.put, List.getElem_toArray, List.getElem_cons_zero, List.getElem_cons_succ, List.setIfInBounds_toArray, List.set_cons_zero, List.set_cons_succ]
          refine wpAnyIn_ready (rs := [5]) (by kernel_rfl) (by simp) ?_
          refine AllReadyIn.cons rfl (fun K hK => ?_) AllReadyIn.nil
          go_simp
          refine hK _ _ ?_
          clear hK K
          try simp only [Act.put, List.getElem_toArray, List.getElem_cons_zero, List.getElem_cons_succ, List.setIfInBounds_toArray, List.set_cons_zero, List.set_cons_succ]
          refine wpAnyIn_done (by kernel_rfl) ?_ _
          gi_wp2_with fail
          refine ⟨HG.out.2.1, HG.out.1, rfl, Sr.nx ⟨true, W1.heap.size, qsA, jsA, i, some ⟨za, zc, zl⟩⟩ ⟨za, zc, zl⟩, rfl, rfl, h'.out.qsub, h'.out.mde, h'.out.lj, hJ4.out⟩
    · go_simp
      refine hK _ _ ?_
      clear hK K
      try simp only [Act.put, List.getElem_toArray, List.getElem_cons_zero, List.getElem_cons_succ, List.setIfInBounds_toArray, List.set_cons_zero, List.set_cons_succ]
      refine wpAnyIn_ready (rs := [0, 2]) (by kernel_rfl) (by simp) ?_
      refine AllReadyIn.cons rfl (fun K hK => ?_) (AllReadyIn.cons rfl (fun K hK => ?_) AllReadyIn.nil)
      · go_simp
        refine hK _ _ ?_
        clear hK K
        try simp only [Act.put, List.getElem_toArray, List.getElem_cons_zero, List.getElem_cons_succ, List.setIfInBounds_toArray, List.set_cons_zero, List.set_cons_succ]
        refine wpAnyIn_ready (rs := [2]) (by kernel_rfl) (by simp) ?_
        refine AllReadyIn.cons rfl (fun K hK => ?_) AllReadyIn.nil
        go_simp
        refine hK _ _ ?_
        clear hK K
        try simp only [Act.put, List.getElem_toArray, List.getElem_cons_zero, List.getElem_cons_succ, List.setIfInBounds_toArray, List.set_cons_zero, List.set_cons_succ]
        refine wpAnyIn_ready (rs := [3]) (by kernel_rfl) (by simp) ?_
        refine AllReadyIn.cons rfl (fun K hK => ?_) AllReadyIn.nil
        go_simp
        refine ⟨trivial, fun h => (by cases h), (CallsIn.inRound l0 (callsIn_wide.2 cCt.out)).mono ?_⟩
        rintro e Wz ⟨za, zc, rfl, hzrow, kz, hzb⟩
        have c3z := kpAt kz c3b
        refine hK _ _ ?_
        clear hK K
        try simp only [Act.put, List.getElem_toArray, List.getElem_cons_zero, List.getElem_cons_succ, List.setIfInBounds_toArray, List.set_cons_zero, List.set_cons_succ]
        have kWz := hid (KB.out.trans kz (by simp))
        have hzl := rowLies hzrow
        have hzb2 : ∀ j ∈ blk za, A.heap.size ≤ j := fun j hj => by have := hzb j hj; have := KB.out.size; omega
        have hJz : J ⟨true, W1.heap.size, qsA, jsA, i, some ⟨za, zc, zl⟩⟩ Wz := hT _ _ _ _ h'.out.j ⟨TurnR.ofKp0 kWz.out, fun _ => ⟨rfl, rfl, fun q hq => .inl hq⟩, fun e => (by cases e), fun j hj => .inl hj, rfl, .inr ⟨_, rfl, hR1.out.1, hzl, fun _ => ⟨hzrow, fun j hj => ⟨hzb2 j hj, fun hm => by have := h'.out.jl j hm; have := hzb2 j hj; omega, fun hm => by have := h'.out.ql j hm; have := hzb2 j hj; omega⟩⟩⟩⟩
        obtain ⟨fn, tmps, assign, body, hyl5, hR⟩ := hY _ ⟨za, zc, zl⟩ Wz hJz rfl
        have hR' : RoundIn (Fence.wide.inRound l0) (n - 1 - 1 - 1) Tryd.prog ly fn tmps assign body Wz _ := RoundIn.anyDepthJ (F := Fence.wide.inRound l0) rfl hR
        have hgo : Hid (∀ A3, KeepR ⟨true, W1.heap.size, qsA, jsA, i, some ⟨za, zc, zl⟩⟩ Wz A3 → KeepR s A A3 ∧ KeepsFrom W1.heap.size A A3 ∧ KeepB Mj A A3) := fun A3 hk3 => h'.out.keepR (s := ⟨true, W1.heap.size, qsA, jsA, i, some ⟨za, zc, zl⟩⟩) rfl rfl (fun j hj => hj) (KeepR.trans ⟨KeepB.ofKp kWz.out (by simp), fun _ j o _ ho _ => (kWz.out.block j (Array.getElem?_eq_some_iff.1 ho).1 (by simp)).trans ho⟩ hk3)
        have hyl6 := hyl5
        simp only [encR] at hyl6
        clear hR hJz hzl hzrow kz hzb hzb2 hyl5 cCt
        refine wpAnyIn_ready (rs := [4]) (by kernel_rfl) (by simp) ?_
        refine AllReadyIn.cons rfl (fun K hK => ?_) AllReadyIn.nil
        go_simp
        refine ⟨fun h => (by cases h), hR'.mono ?_⟩
        rintro e A3 (⟨rfl, hJ3, hk3⟩ | ⟨rfl, hJ3, hk3⟩)
        · have HG := hid (hgo.out A3 hk3)
          have hJ4 : Hid (J ⟨true, W1.heap.size, qsA, jsA, i + 1, none⟩ A3) := hJ3
          clear hgo hR' hyl6 hJ3 hk3
          refine hK _ _ ?_
          clear hK K
          try simp only [Act.put, List.getElem_toArray, List.getElem_cons_zero, List.getElem_cons_succ, List.setIfInBounds_toArray, List.set_cons_zero, List.set_cons_succ]
          refine wpAnyIn_ready (rs := [5]) (by kernel_rfl) (by simp) ?_
          refine AllReadyIn.cons rfl (fun K hK => ?_) AllReadyIn.nil
          go_simp
          refine hK _ _ ?_
          clear hK K
          try simp only [Act.put, List.getElem_toArray, List.getElem_cons_zero, List.getElem_cons_succ, List.setIfInBounds_toArray, List.set_cons_zero, List.set_cons_succ]
          refine wpAnyIn_done (by kernel_rfl) ?_ _
          gi_wp2_with fail
          refine ⟨HG.out.2.1, HG.out.1, jsA, qsA, i + 1, hJ4.out, h'.out.sub, h'.out.mj, h'.out.qsub, HMS.out _ _ h'.out.m (ckOfKeepB HG.out.2.2), hR1.out.2.1, hR1.out.2.2, Nat.le_trans h'.out.size HG.out.2.1.size, h'.out.mde, h'.out.lj, fun x hx => (by cases hx), fun j hj => Nat.lt_of_lt_of_le (h'.out.jl j hj) HG.out.2.1.size, fun q hq => Nat.lt_of_lt_of_le (h'.out.ql q hq) HG.out.2.1.size⟩
        · have HG := hid (hgo.out A3 hk3)
          have hJ4 := hid hJ3
          clear hgo hR' hyl6 hJ3 hk3
          refine hK _ _ ?_
          clear hK K
          try simp only [Act.put, List.getElem_toArray, List.getElem_cons_zero, List.getElem_cons_succ, List.setIfInBounds_toArray, List.set_cons_zero, List.set_cons_succ]
          refine wpAnyIn_ready (rs := [5]) (by kernel_rfl) (by simp) ?_
          refine AllReadyIn.cons rfl (fun K hK => ?_) AllReadyIn.nil
          go_simp
          refine hK _ _ ?_
          clear hK K
          try simp only [Act.put, List.getElem_toArray, List.getElem_cons_zero, List.getElem_cons_succ, List.setIfInBounds_toArray, List.set_cons_zero, List.set_cons_succ]
          refine wpAnyIn_done (by kernel_rfl) ?_ _
          gi_wp2_with fail
          refine ⟨HG.out.2.1, HG.out.1, rfl, Sr.nx ⟨true, W1.heap.size, qsA, jsA, i, some ⟨za, zc, zl⟩⟩ ⟨za, zc, zl⟩, rfl, rfl, h'.out.qsub, h'.out.mde, h'.out.lj, hJ4.out⟩
      · go_simp
        refine hK _ _ ?_
        clear hK K
        try simp only [Act.put, List.getElem_toArray, List.getElem_cons_zero, List.getElem_cons_succ, List.setIfInBounds_toArray, List.set_cons_zero, List.set_cons_succ]
        refine wpAnyIn_ready (rs := [0, 3]) (by kernel_rfl) (by simp) ?_
        refine AllReadyIn.cons rfl (fun K hK => ?_) (AllReadyIn.cons rfl (fun K hK => ?_) AllReadyIn.nil)
        · go_simp
          refine hK _ _ ?_
          clear hK K
          try simp only [Act.put, List.getElem_toArray, List.getElem_cons_zero, List.getElem_cons_succ, List.setIfInBounds_toArray, List.set_cons_zero, List.set_cons_succ]
          refine wpAnyIn_ready (rs := [3]) (by kernel_rfl) (by simp) ?_
          refine AllReadyIn.cons rfl (fun K hK => ?_) AllReadyIn.nil
          go_simp
          refine ⟨trivial, fun h => (by cases h), (CallsIn.inRound l0 (callsIn_wide.2 cCt.out)).mono ?_⟩
          rintro e Wz ⟨za, zc, rfl, hzrow, kz, hzb⟩
          have c3z := kpAt kz c3b
          refine hK _ _ ?_
          clear hK K
          try simp only [Act.put, List.getElem_toArray, List.getElem_cons_zero, List.getElem_cons_succ, List.setIfInBounds_toArray, List.set_cons_zero, List.set_cons_succ]
          have kWz := hid (KB.out.trans kz (by simp))
          have hzl := rowLies hzrow
          have hzb2 : ∀ j ∈ blk za, A.heap.size ≤ j := fun j hj => by have := hzb j hj; have := KB.out.size; omega
          have hJz : J ⟨true, W1.heap.size, qsA, jsA, i, some ⟨za, zc, zl⟩⟩ Wz := hT _ _ _ _ h'.out.j ⟨TurnR.ofKp0 kWz.out, fun _ => ⟨rfl, rfl, fun q hq => .inl hq⟩, fun e => (by cases e), fun j hj => .inl hj, rfl, .inr ⟨_, rfl, hR1.out.1, hzl, fun _ => ⟨hzrow, fun j hj => ⟨hzb2 j hj, fun hm => by have := h'.out.jl j hm; have := hzb2 j hj; omega, fun hm => by have := h'.out.ql j hm; have := hzb2 j hj; omega⟩⟩⟩⟩
          obtain ⟨fn, tmps, assign, body, hyl5, hR⟩ := hY _ ⟨za, zc, zl⟩ Wz hJz rfl
          have hR' : RoundIn (Fence.wide.inRound l0) (n - 1 - 1 - 1) Tryd.prog ly fn tmps assign body Wz _ := RoundIn.anyDepthJ (F := Fence.wide.inRound l0) rfl hR
          have hgo : Hid (∀ A3, KeepR ⟨true, W1.heap.size, qsA, jsA, i, some ⟨za, zc, zl⟩⟩ Wz A3 → KeepR s A A3 ∧ KeepsFrom W1.heap.size A A3 ∧ KeepB Mj A A3) := fun A3 hk3 => h'.out.keepR (s := ⟨true, W1.heap.size, qsA, jsA, i, some ⟨za, zc, zl⟩⟩) rfl rfl (fun j hj => hj) (KeepR.trans ⟨KeepB.ofKp kWz.out (by simp), fun _ j o _ ho _ => (kWz.out.block j (Array.getElem?_eq_some_iff.1 ho).1 (by simp)).trans ho⟩ hk3)
          have hyl6 := hyl5
          simp only [encR] at hyl6
          clear hR hJz hzl hzrow kz hzb hzb2 hyl5 cCt
          refine wpAnyIn_ready (rs := [4]) (by kernel_rfl) (by simp) ?_
          refine AllReadyIn.cons rfl (fun K hK => ?_) AllReadyIn.nil
          go_simp
          refine ⟨fun h => (by cases h), hR'.mono ?_⟩
          rintro e A3 (⟨rfl, hJ3, hk3⟩ | ⟨rfl, hJ3, hk3⟩)
          · have HG := hid (hgo.out A3 hk3)
            have hJ4 : Hid (J ⟨true, W1.heap.size, qsA, jsA, i + 1, none⟩ A3) := hJ3
            clear hgo hR' hyl6 hJ3 hk3
            refine hK _ _ ?_
            clear hK K
            try simp only [Act.put, List.getElem_toArray, List.getElem_cons_zero, List.getElem_cons_succ, List.setIfInBounds_toArray, List.set_cons_zero, List.set_cons_succ]
            refine wpAnyIn_ready (rs := [5]) (by kernel_rfl) (by simp) ?_
            refine AllReadyIn.cons rfl (fun K hK => ?_) AllReadyIn.nil
            go_simp
            refine hK _ _ ?_
            clear hK K
            try simp only [Act.put, List.getElem_toArray, List.getElem_cons_zero, List.getElem_cons_succ, List.setIfInBounds_toArray, List.set_cons_zero, List.set_cons_succ]
            refine wpAnyIn_done (by kernel_rfl) ?_ _
            gi_wp2_with fail
            refine ⟨HG.out.2.1, HG.out.1, jsA, qsA, i + 1, hJ4.out, h'.out.sub, h'.out.mj, h'.out.qsub, HMS.out _ _ h'.out.m (ckOfKeepB HG.out.2.2), hR1.out.2.1, hR1.out.2.2, Nat.le_trans h'.out.size HG.out.2.1.size, h'.out.mde, h'.out.lj, fun x hx => (by cases hx), fun j hj => Nat.lt_of_lt_of_le (h'.out.jl j hj) HG.out.2.1.size, fun q hq => Nat.lt_of_lt_of_le (h'.out.ql q hq) HG.out.2.1.size⟩
          · have HG := hid (hgo.out A3 hk3)
            have hJ4 := hid hJ3
            clear hgo hR' hyl6 hJ3 hk3
            refine hK _ _ ?_
            clear hK K
            try simp only [Act.put, List.getElem_toArray, List.getElem_cons_zero, List.getElem_cons_succ, List.setIfInBounds_toArray, List.set_cons_zero, List.set_cons_succ]
            refine wpAnyIn_ready (rs := [5]) (by kernel_rfl) (by simp) ?_
            refine AllReadyIn.cons rfl (fun K hK => ?_) AllReadyIn.nil
            go_simp
            refine hK _ _ ?_
            clear hK K
            try simp only [Act.put, List.getElem_toArray, List.getElem_cons_zero, List.getElem_cons_succ, List.setIfInBounds_toArray, List.set_cons_zero, List.set_cons_succ]
            refine wpAnyIn_done (by kernel_rfl) ?_ _
            gi_wp2_with fail
            refine ⟨HG.out.2.1, HG.out.1, rfl, Sr.nx ⟨true, W1.heap.size, qsA, jsA, i, some ⟨za, zc, zl⟩⟩ ⟨za, zc, zl⟩, rfl, rfl, h'.out.qsub, h'.out.mde, h'.out.lj, hJ4.out⟩
        · go_simp
          refine ⟨trivial, fun h => (by cases h), (CallsIn.inRound l0 (callsIn_wide.2 cCt.out)).mono ?_⟩
          rintro e Wz ⟨za, zc, rfl, hzrow, kz, hzb⟩
          have c3z := kpAt kz c3b
          refine hK _ _ ?_
          clear hK K
          try simp only [Act.put, List.getElem_toArray, List.getElem_cons_zero, List.getElem_cons_succ, List.setIfInBounds_toArray, List.set_cons_zero, List.set_cons_succ]
          refine wpAnyIn_ready (rs := [0]) (by kernel_rfl) (by simp) ?_
          refine AllReadyIn.cons rfl (fun K hK => ?_) AllReadyIn.nil
          go_simp
          refine hK _ _ ?_
          clear hK K
          try simp only [Act.put, List.getElem_toArray, List.getElem_cons_zero, List.getElem_cons_succ, List.setIfInBounds_toArray, List.set_cons_zero, List.set_cons_succ]
          have kWz := hid (KB.out.trans kz (by simp))
          have hzl := rowLies hzrow
          have hzb2 : ∀ j ∈ blk za, A.heap.size ≤ j := fun j hj => by have := hzb j hj; have := KB.out.size; omega
          have hJz : J ⟨true, W1.heap.size, qsA, jsA, i, some ⟨za, zc, zl⟩⟩ Wz := hT _ _ _ _ h'.out.j ⟨TurnR.ofKp0 kWz.out, fun _ => ⟨rfl, rfl, fun q hq => .inl hq⟩, fun e => (by cases e), fun j hj => .inl hj, rfl, .inr ⟨_, rfl, hR1.out.1, hzl, fun _ => ⟨hzrow, fun j hj => ⟨hzb2 j hj, fun hm => by have := h'.out.jl j hm; have := hzb2 j hj; omega, fun hm => by have := h'.out.ql j hm; have := hzb2 j hj; omega⟩⟩⟩⟩
          obtain ⟨fn, tmps, assign, body, hyl5, hR⟩ := hY _ ⟨za, zc, zl⟩ Wz hJz rfl
          have hR' : RoundIn (Fence.wide.inRound l0) (n - 1 - 1 - 1) Tryd.prog ly fn tmps assign body Wz _ := RoundIn.anyDepthJ (F := Fence.wide.inRound l0) rfl hR
          have hgo : Hid (∀ A3, KeepR ⟨true, W1.heap.size, qsA, jsA, i, some ⟨za, zc, zl⟩⟩ Wz A3 → KeepR s A A3 ∧ KeepsFrom W1.heap.size A A3 ∧ KeepB Mj A A3) := fun A3 hk3 => h'.out.keepR (s := ⟨true, W1.heap.size, qsA, jsA, i, some ⟨za, zc, zl⟩⟩) rfl rfl (fun j hj => hj) (KeepR.trans ⟨KeepB.ofKp kWz.out (by simp), fun _ j o _ ho _ => (kWz.out.block j (Array.getElem?_eq_some_iff.1 ho).1 (by simp)).trans ho⟩ hk3)
          have hyl6 := hyl5
          simp only [encR] at hyl6
          clear hR hJz hzl hzrow kz hzb hzb2 hyl5 cCt
          refine wpAnyIn_ready (rs := [4]) (by kernel_rfl) (by simp) ?_
          refine AllReadyIn.cons rfl (fun K hK => ?_) AllReadyIn.nil
          go_simp
          refine ⟨fun h => (by cases h), hR'.mono ?_⟩
          rintro e A3 (⟨rfl, hJ3, hk3⟩ | ⟨rfl, hJ3, hk3⟩)
          · have HG := hid (hgo.out A3 hk3)
            have hJ4 : Hid (J ⟨true, W1.heap.size, qsA, jsA, i + 1, none⟩ A3) := hJ3
            clear hgo hR' hyl6 hJ3 hk3
            refine hK _ _ ?_
            clear hK K
            try simp only [Act.put, List.getElem_toArray, List.getElem_cons_zero, List.getElem_cons_succ, List.setIfInBounds_toArray, List.set_cons_zero, List.set_cons_succ]
            refine wpAnyIn_ready (rs := [5]) (by kernel_rfl) (by simp) ?_
            refine AllReadyIn.cons rfl (fun K hK => ?_) AllReadyIn.nil
            go_simp
            refine hK _ _ ?_
            clear hK K
            try simp only [Act.put, List.getElem_toArray, List.getElem_cons_zero, List.getElem_cons_succ, List.setIfInBounds_toArray, List.set_cons_zero, List.set_cons_succ]
            refine wpAnyIn_done (by kernel_rfl) ?_ _
            gi_wp2_with fail
            refine ⟨HG.out.2.1, HG.out.1, jsA, qsA, i + 1, hJ4.out, h'.out.sub, h'.out.mj, h'.out.qsub, HMS.out _ _ h'.out.m (ckOfKeepB HG.out.2.2), hR1.out.2.1, hR1.out.2.2, Nat.le_trans h'.out.size HG.out.2.1.size, h'.out.mde, h'.out.lj, fun x hx => (by cases hx), fun j hj => Nat.lt_of_lt_of_le (h'.out.jl j hj) HG.out.2.1.size, fun q hq => Nat.lt_of_lt_of_le (h'.out.ql q hq) HG.out.2.1.size⟩
          · have HG := hid (hgo.out A3 hk3)
            have hJ4 := hid hJ3
            clear hgo hR' hyl6 hJ3 hk3
            refine hK _ _ ?_
            clear hK K
            try simp only [Act.put, List.getElem_toArray, List.getElem_cons_zero, List.getElem_cons_succ, List.setIfInBounds_toArray, List.set_cons_zero, List.set_cons_succ]
            refine wpAnyIn_ready (rs := [5]) (by kernel_rfl) (by simp) ?_
            refine AllReadyIn.cons rfl (fun K hK => ?_) AllReadyIn.nil
            go_simp
            refine hK _ _ ?_
            clear hK K
            try simp only [Act.put, List.getElem_toArray, List.getElem_cons_zero, List.getElem_cons_succ, List.setIfInBounds_toArray, List.set_cons_zero, List.set_cons_succ]
            refine wpAnyIn_done (by kernel_rfl) ?_ _
            gi_wp2_with fail
            refine ⟨HG.out.2.1, HG.out.1, rfl, Sr.nx ⟨true, W1.heap.size, qsA, jsA, i, some ⟨za, zc, zl⟩⟩ ⟨za, zc, zl⟩, rfl, rfl, h'.out.qsub, h'.out.mde, h'.out.lj, hJ4.out⟩
    · go_simp
      refine hK _ _ ?_
      clear hK K
      try simp only [Act.put, List.getElem_toArray, List.getElem_cons_zero, List.getElem_cons_succ, List.setIfInBounds_toArray, List.set_cons_zero, List.set_cons_succ]
      refine wpAnyIn_ready (rs := [0, 1]) (by kernel_rfl) (by simp) ?_
      refine AllReadyIn.cons rfl (fun K hK => ?_) (AllReadyIn.cons rfl (fun K hK => ?_) AllReadyIn.nil)
      · go_simp
        refine hK _ _ ?_
        clear hK K
        try simp only [Act.put, List.getElem_toArray, List.getElem_cons_zero, List.getElem_cons_succ, List.setIfInBounds_toArray, List.set_cons_zero, List.set_cons_succ]
        refine wpAnyIn_ready (rs := [1]) (by kernel_rfl) (by simp) ?_
        refine AllReadyIn.cons rfl (fun K hK => ?_) AllReadyIn.nil
        go_simp
        refine hK _ _ ?_
        clear hK K
        try simp only [Act.put, List.getElem_toArray, List.getElem_cons_zero, List.getElem_cons_succ, List.setIfInBounds_toArray, List.set_cons_zero, List.set_cons_succ]
        refine wpAnyIn_ready (rs := [3]) (by kernel_rfl) (by simp) ?_
        refine AllReadyIn.cons rfl (fun K hK => ?_) AllReadyIn.nil
        go_simp
        refine ⟨trivial, fun h => (by cases h), (CallsIn.inRound l0 (callsIn_wide.2 cCt.out)).mono ?_⟩
        rintro e Wz ⟨za, zc, rfl, hzrow, kz, hzb⟩
        have c3z := kpAt kz c3b
        refine hK _ _ ?_
        clear hK K
        try simp only [Act.put, List.getElem_toArray, List.getElem_cons_zero, List.getElem_cons_succ, List.setIfInBounds_toArray, List.set_cons_zero, List.set_cons_succ]
        have kWz := hid (KB.out.trans kz (by simp))
        have hzl := rowLies hzrow
        have hzb2 : ∀ j ∈ blk za, A.heap.size ≤ j := fun j hj => by have := hzb j hj; have := KB.out.size; omega
        have hJz : J ⟨true, W1.heap.size, qsA, jsA, i, some ⟨za, zc, zl⟩⟩ Wz := hT _ _ _ _ h'.out.j ⟨TurnR.ofKp0 kWz.out, fun _ => ⟨rfl, rfl, fun q hq => .inl hq⟩, fun e => (by cases e), fun j hj => .inl hj, rfl, .inr ⟨_, rfl, hR1.out.1, hzl, fun _ => ⟨hzrow, fun j hj => ⟨hzb2 j hj, fun hm => by have := h'.out.jl j hm; have := hzb2 j hj; omega, fun hm => by have := h'.out.ql j hm; have := hzb2 j hj; omega⟩⟩⟩⟩
        obtain ⟨fn, tmps, assign, body, hyl5, hR⟩ := hY _ ⟨za, zc, zl⟩ Wz hJz rfl
        have hR' : RoundIn (Fence.wide.inRound l0) (n - 1 - 1 - 1) Tryd.prog ly fn tmps assign body Wz _ := RoundIn.anyDepthJ (F := Fence.wide.inRound l0) rfl hR
        have hgo : Hid (∀ A3, KeepR ⟨true, W1.heap.size, qsA, jsA, i, some ⟨za, zc, zl⟩⟩ Wz A3 → KeepR s A A3 ∧ KeepsFrom W1.heap.size A A3 ∧ KeepB Mj A A3) := fun A3 hk3 => h'.out.keepR (s := ⟨true, W1.heap.size, qsA, jsA, i, some ⟨za, zc, zl⟩⟩) rfl rfl (fun j hj => hj) (KeepR.trans ⟨KeepB.ofKp kWz.out (by simp), fun _ j o _ ho _ => (kWz.out.block j (Array.getElem?_eq_some_iff.1 ho).1 (by simp)).trans ho⟩ hk3)
        have hyl6 := hyl5
        simp only [encR] at hyl6
        clear hR hJz hzl hzrow kz hzb hzb2 hyl5 cCt
        refine wpAnyIn_ready (rs := [4]) (by kernel_rfl) (by simp) ?_
        refine AllReadyIn.cons rfl (fun K hK => ?_) AllReadyIn.nil
        go_simp
        refine ⟨fun h => (by cases h), hR'.mono ?_⟩
        rintro e A3 (⟨rfl, hJ3, hk3⟩ | ⟨rfl, hJ3, hk3⟩)
        · have HG := hid (hgo.out A3 hk3)
          have hJ4 : Hid (J ⟨true, W1.heap.size, qsA, jsA, i + 1, none⟩ A3) := hJ3
          clear hgo hR' hyl6 hJ3 hk3
          refine hK _ _ ?_
          clear hK K
          try simp only [Act.put, List.getElem_toArray, List.getElem_cons_zero, List.getElem_cons_succ, List.setIfInBounds_toArray, List.set_cons_zero, List.set_cons_succ]
          refine wpAnyIn_ready (rs := [5]) (by kernel_rfl) (by simp) ?_
          refine AllReadyIn.cons rfl (fun K hK => ?_) AllReadyIn.nil
          go_simp
          refine hK _ _ ?_
          clear hK K
          try simp only [Act.put, List.getElem_toArray, List.getElem_cons_zero, List.getElem_cons_succ, List.setIfInBounds_toArray, List.set_cons_zero, List.set_cons_succ]
          refine wpAnyIn_done (by kernel_rfl) ?_ _
          gi_wp2_with fail
          refine ⟨HG.out.2.1, HG.out.1, jsA, qsA, i + 1, hJ4.out, h'.out.sub, h'.out.mj, h'.out.qsub, HMS.out _ _ h'.out.m (ckOfKeepB HG.out.2.2), hR1.out.2.1, hR1.out.2.2, Nat.le_trans h'.out.size HG.out.2.1.size, h'.out.mde, h'.out.lj, fun x hx => (by cases hx), fun j hj => Nat.lt_of_lt_of_le (h'.out.jl j hj) HG.out.2.1.size, fun q hq => Nat.lt_of_lt_of_le (h'.out.ql q hq) HG.out.2.1.size⟩
        · have HG := hid (hgo.out A3 hk3)
          have hJ4 := hid hJ3
          clear hgo hR' hyl6 hJ3 hk3
          refine hK _ _ ?_
          clear hK K
          try simp only [Act.put, List.getElem_toArray, List.getElem_cons_zero, List.getElem_cons_succ, List.setIfInBounds_toArray, List.set_cons_zero, List.set_cons_succ]
          refine wpAnyIn_ready (rs := [5]) (by kernel_rfl) (by simp) ?_
          refine AllReadyIn.cons rfl (fun K hK => ?_) AllReadyIn.nil
          go_simp
          refine hK _ _ ?_
          clear hK K
          try simp only [Act.put, List.getElem_toArray, List.getElem_cons_zero, List.getElem_cons_succ, List.setIfInBounds_toArray, List.set_cons_zero, List.set_cons_succ]
          refine wpAnyIn_done (by kernel_rfl) ?_ _
          gi_wp2_with fail
          refine ⟨HG.out.2.1, HG.out.1, rfl, Sr.nx ⟨true, W1.heap.size, qsA, jsA, i, some ⟨za, zc, zl⟩⟩ ⟨za, zc, zl⟩, rfl, rfl, h'.out.qsub, h'.out.mde, h'.out.lj, hJ4.out⟩
      · go_simp
        refine hK _ _ ?_
        clear hK K
        try simp only [Act.put, List.getElem_toArray, List.getElem_cons_zero, List.getElem_cons_succ, List.setIfInBounds_toArray, List.set_cons_zero, List.set_cons_succ]
        refine wpAnyIn_ready (rs := [0, 3]) (by kernel_rfl) (by simp) ?_
        refine AllReadyIn.cons rfl (fun K hK => ?_) (AllReadyIn.cons rfl (fun K hK => ?_) AllReadyIn.nil)
        · go_simp
          refine hK _ _ ?_
          clear hK K
          try simp only [Act.put, List.getElem_toArray, List.getElem_cons_zero, List.getElem_cons_succ, List.setIfInBounds_toArray, List.set_cons_zero, List.set_cons_succ]
          refine wpAnyIn_ready (rs := [3]) (by kernel_rfl) (by simp) ?_
          refine AllReadyIn.cons rfl (fun K hK => ?_) AllReadyIn.nil
          go_simp
          refine ⟨trivial, fun h => (by cases h), (CallsIn.inRound l0 (callsIn_wide.2 cCt.out)).mono ?_⟩
          rintro e Wz ⟨za, zc, rfl, hzrow, kz, hzb⟩
          have c3z := kpAt kz c3b
          refine hK _ _ ?_
          clear hK K
          try simp only [Act.put, List.getElem_toArray, List.getElem_cons_zero, List.getElem_cons_succ, List.setIfInBounds_toArray, List.set_cons_zero, List.set_cons_succ]
          have kWz := hid (KB.out.trans kz (by simp))
          have hzl := rowLies hzrow
          have hzb2 : ∀ j ∈ blk za, A.heap.size ≤ j := fun j hj => by have := hzb j hj; have := KB.out.size; omega
          have hJz : J ⟨true, W1.heap.size, qsA, jsA, i, some ⟨za, zc, zl⟩⟩ Wz := hT _ _ _ _ h'.out.j ⟨TurnR.ofKp0 kWz.out, fun _ => ⟨rfl, rfl, fun q hq => .inl hq⟩, fun e => (by cases e), fun j hj => .inl hj, rfl, .inr ⟨_, rfl, hR1.out.1, hzl, fun _ => ⟨hzrow, fun j hj => ⟨hzb2 j hj, fun hm => by have := h'.out.jl j hm; have := hzb2 j hj; omega, fun hm => by have := h'.out.ql j hm; have := hzb2 j hj; omega⟩⟩⟩⟩
          obtain ⟨fn, tmps, assign, body, hyl5, hR⟩ := hY _ ⟨za, zc, zl⟩ Wz hJz rfl
          have hR' : RoundIn (Fence.wide.inRound l0) (n - 1 - 1 - 1) Tryd.prog ly fn tmps assign body Wz _ := RoundIn.anyDepthJ (F := Fence.wide.inRound l0) rfl hR
          have hgo : Hid (∀ A3, KeepR ⟨true, W1.heap.size, qsA, jsA, i, some ⟨za, zc, zl⟩⟩ Wz A3 → KeepR s A A3 ∧ KeepsFrom W1.heap.size A A3 ∧ KeepB Mj A A3) := fun A3 hk3 => h'.out.keepR (s := ⟨true, W1.heap.size, qsA, jsA, i, some ⟨za, zc, zl⟩⟩) rfl rfl (fun j hj => hj) (KeepR.trans ⟨KeepB.ofKp kWz.out (by simp), fun _ j o _ ho _ => (kWz.out.block j (Array.getElem?_eq_some_iff.1 ho).1 (by simp)).trans ho⟩ hk3)
          have hyl6 := hyl5
          simp only [encR] at hyl6
          clear hR hJz hzl hzrow kz hzb hzb2 hyl5 cCt
          refine wpAnyIn_ready (rs := [4]) (by kernel_rfl) (by simp) ?_
          refine AllReadyIn.cons rfl (fun K hK => ?_) AllReadyIn.nil
          go_simp
          refine ⟨fun h => (by cases h), hR'.mono ?_⟩
          rintro e A3 (⟨rfl, hJ3, hk3⟩ | ⟨rfl, hJ3, hk3⟩)
          · have HG := hid (hgo.out A3 hk3)
            have hJ4 : Hid (J ⟨true, W1.heap.size, qsA, jsA, i + 1, none⟩ A3) := hJ3
            clear hgo hR' hyl6 hJ3 hk3
            refine hK _ _ ?_
            clear hK K
            try simp only [Act.put, List.getElem_toArray, List.getElem_cons_zero, List.getElem_cons_succ, List.setIfInBounds_toArray, List.set_cons_zero, List.set_cons_succ]
            refine wpAnyIn_ready (rs := [5]) (by kernel_rfl) (by simp) ?_
            refine AllReadyIn.cons rfl (fun K hK => ?_) AllReadyIn.nil
            go_simp
            refine hK _ _ ?_
            clear hK K
            try simp only [Act.put, List.getElem_toArray, List.getElem_cons_zero, List.getElem_cons_succ, List.setIfInBounds_toArray, List.set_cons_zero, List.set_cons_succ]
            refine wpAnyIn_done (by kernel_rfl) ?_ _
            gi_wp2_with fail
            refine ⟨HG.out.2.1, HG.out.1, jsA, qsA, i + 1, hJ4.out, h'.out.sub, h'.out.mj, h'.out.qsub, HMS.out _ _ h'.out.m (ckOfKeepB HG.out.2.2), hR1.out.2.1, hR1.out.2.2, Nat.le_trans h'.out.size HG.out.2.1.size, h'.out.mde, h'.out.lj, fun x hx => (by cases hx), fun j hj => Nat.lt_of_lt_of_le (h'.out.jl j hj) HG.out.2.1.size, fun q hq => Nat.lt_of_lt_of_le (h'.out.ql q hq) HG.out.2.1.size⟩
          · have HG := hid (hgo.out A3 hk3)
            have hJ4 := hid hJ3
            clear hgo hR' hyl6 hJ3 hk3
            refine hK _ _ ?_
            clear hK K
            try simp only [Act.put, List.getElem_toArray, List.getElem_cons_zero, List.getElem_cons_succ, List.setIfInBounds_toArray, List.set_cons_zero, List.set_cons_succ]
            refine wpAnyIn_ready (rs := [5]) (by kernel_rfl) (by simp) ?_
            refine AllReadyIn.cons rfl (fun K hK => ?_) AllReadyIn.nil
            go_simp
            refine hK _ _ ?_
            clear hK K
            try simp only [Act.put, List.getElem_toArray, List.getElem_cons_zero, List.getElem_cons_succ, List.setIfInBounds_toArray, List.set_cons_zero, List.set_cons_succ]
            refine wpAnyIn_done (by kernel_rfl) ?_ _
            gi_wp2_with fail
            refine ⟨HG.out.2.1, HG.out.1, rfl, Sr.nx ⟨true, W1.heap.size, qsA, jsA, i, some ⟨za, zc, zl⟩⟩ ⟨za, zc, zl⟩, rfl, rfl, h'.out.qsub, h'.out.mde, h'.out.lj, hJ4.out⟩
        · go_simp
          refine ⟨trivial, fun h => (by cases h), (CallsIn.inRound l0 (callsIn_wide.2 cCt.out)).mono ?_⟩
          rintro e Wz ⟨za, zc, rfl, hzrow, kz, hzb⟩
          have c3z := kpAt kz c3b
          refine hK _ _ ?_
          clear hK K
          try simp only [Act.put, List.getElem_toArray, List.getElem_cons_zero, List.getElem_cons_succ, List.setIfInBounds_toArray, List.set_cons_zero, List.set_cons_succ]
          refine wpAnyIn_ready (rs := [0]) (by kernel_rfl) (by simp) ?_
          refine AllReadyIn.cons rfl (fun K hK => ?_) AllReadyIn.nil
          go_simp
          refine hK _ _ ?_
          clear hK K
          try simp only [Act.put, List.getElem_toArray, List.getElem_cons_zero, List.getElem_cons_succ, List.setIfInBounds_toArray, List.set_cons_zero, List.set_cons_succ]
          have kWz := hid (KB.out.trans kz (by simp))
          have hzl := rowLies hzrow
          have hzb2 : ∀ j ∈ blk za, A.heap.size ≤ j := fun j hj => by have := hzb j hj; have := KB.out.size; omega
          have hJz : J ⟨true, W1.heap.size, qsA, jsA, i, some ⟨za, zc, zl⟩⟩ Wz := hT _ _ _ _ h'.out.j ⟨TurnR.ofKp0 kWz.out, fun _ => ⟨rfl, rfl, fun q hq => .inl hq⟩, fun e => (by cases e), fun j hj => .inl hj, rfl, .inr ⟨_, rfl, hR1.out.1, hzl, fun _ => ⟨hzrow, fun j hj => ⟨hzb2 j hj, fun hm => by have := h'.out.jl j hm; have := hzb2 j hj; omega, fun hm => by have := h'.out.ql j hm; have := hzb2 j hj; omega⟩⟩⟩⟩
          obtain ⟨fn, tmps, assign, body, hyl5, hR⟩ := hY _ ⟨za, zc, zl⟩ Wz hJz rfl
          have hR' : RoundIn (Fence.wide.inRound l0) (n - 1 - 1 - 1) Tryd.prog ly fn tmps assign body Wz _ := RoundIn.anyDepthJ (F := Fence.wide.inRound l0) rfl hR
          have hgo : Hid (∀ A3, KeepR ⟨true, W1.heap.size, qsA, jsA, i, some ⟨za, zc, zl⟩⟩ Wz A3 → KeepR s A A3 ∧ KeepsFrom W1.heap.size A A3 ∧ KeepB Mj A A3) := fun A3 hk3 => h'.out.keepR (s := ⟨true, W1.heap.size, qsA, jsA, i, some ⟨za, zc, zl⟩⟩) rfl rfl (fun j hj => hj) (KeepR.trans ⟨KeepB.ofKp kWz.out (by simp), fun _ j o _ ho _ => (kWz.out.block j (Array.getElem?_eq_some_iff.1 ho).1 (by simp)).trans ho⟩ hk3)
          have hyl6 := hyl5
          simp only [encR] at hyl6
          clear hR hJz hzl hzrow kz hzb hzb2 hyl5 cCt
          refine wpAnyIn_ready (rs := [4]) (by kernel_rfl) (by simp) ?_
          refine AllReadyIn.cons rfl (fun K hK => ?_) AllReadyIn.nil
          go_simp
          refine ⟨fun h => (by cases h), hR'.mono ?_⟩
          rintro e A3 (⟨rfl, hJ3, hk3⟩ | ⟨rfl, hJ3, hk3⟩)
          · have HG := hid (hgo.out A3 hk3)
            have hJ4 : Hid (J ⟨true, W1.heap.size, qsA, jsA, i + 1, none⟩ A3) := hJ3
            clear hgo hR' hyl6 hJ3 hk3
            refine hK _ _ ?_
            clear hK K
            try simp only [Act.put, List.getElem_toArray, List.getElem_cons_zero, List.getElem_cons_succ, List.setIfInBounds_toArray, List.set_cons_zero, List.set_cons_succ]
            refine wpAnyIn_ready (rs := [5]) (by kernel_rfl) (by simp) ?_
            refine AllReadyIn.cons rfl (fun K hK => ?_) AllReadyIn.nil
            go_simp
            refine hK _ _ ?_
            clear hK K
            try simp only [Act.put, List.getElem_toArray, List.getElem_cons_zero, List.getElem_cons_succ, List.setIfInBounds_toArray, List.set_cons_zero, List.set_cons_succ]
            refine wpAnyIn_done (by kernel_rfl) ?_ _
            gi_wp2_with fail
            refine ⟨HG.out.2.1, HG.out.1, jsA, qsA, i + 1, hJ4.out, h'.out.sub, h'.out.mj, h'.out.qsub, HMS.out _ _ h'.out.m (ckOfKeepB HG.out.2.2), hR1.out.2.1, hR1.out.2.2, Nat.le_trans h'.out.size HG.out.2.1.size, h'.out.mde, h'.out.lj, fun x hx => (by cases hx), fun j hj => Nat.lt_of_lt_of_le (h'.out.jl j hj) HG.out.2.1.size, fun q hq => Nat.lt_of_lt_of_le (h'.out.ql q hq) HG.out.2.1.size⟩
          · have HG := hid (hgo.out A3 hk3)
            have hJ4 := hid hJ3
            clear hgo hR' hyl6 hJ3 hk3
            refine hK _ _ ?_
            clear hK K
            try simp only [Act.put, List.getElem_toArray, List.getElem_cons_zero, List.getElem_cons_succ, List.setIfInBounds_toArray, List.set_cons_zero, List.set_cons_succ]
            refine wpAnyIn_ready (rs := [5]) (by kernel_rfl) (by simp) ?_
            refine AllReadyIn.cons rfl (fun K hK => ?_) AllReadyIn.nil
            go_simp
            refine hK _ _ ?_
            clear hK K
            try simp only [Act.put, List.getElem_toArray, List.getElem_cons_zero, List.getElem_cons_succ, List.setIfInBounds_toArray, List.set_cons_zero, List.set_cons_succ]
            refine wpAnyIn_done (by kernel_rfl) ?_ _
            gi_wp2_with fail
            refine ⟨HG.out.2.1, HG.out.1, rfl, Sr.nx ⟨true, W1.heap.size, qsA, jsA, i, some ⟨za, zc, zl⟩⟩ ⟨za, zc, zl⟩, rfl, rfl, h'.out.qsub, h'.out.mde, h'.out.lj, hJ4.out⟩
  case done =>
    rintro D s X hD ⟨hmd, hsi, hsp⟩ ⟨jsA, qsA, i, h⟩ hrec
    have hie : i = RJ.length := by
      have := h.rel
      rw [hsi, List.drop_length, List.flatMap_nil] at this
      have := congrArg List.length this
      rw [List.length_drop, List.length_nil] at this
      have := h.il
      omega
    have hJD := hT _ _ _ _ h.j (StepR.same rfl rfl (TurnR.ofGrown (grownBy_putObj' X D (.deferred none)) (fun r e => by cases e; exact ⟨hD, _, hrec, rfl⟩)))
    gi_wp2_with fail
    refine ⟨by simp, .inl ⟨_, _, rfl, run_takeDeferred hrec, ?_⟩⟩
    exact ⟨_, results_none rfl _ _ _, ⟨_, rfl⟩, .inl ⟨_, ⟨rfl, hie, rfl⟩, hJD⟩⟩
  case stop =>
    rintro D c s X hD hsm ⟨rfl, h⟩ hrec
    obtain ⟨s2, h1, h2, h3, h4, h5, h6⟩ := h
    have hJD := hX _ _ _ h6 ⟨h1, TurnR.ofGrown (grownBy_putObj' X D (.deferred none)) (fun r e => by cases e; exact ⟨by rw [h2]; exact hD, _, hrec, rfl⟩)⟩
    gi_wp2_with fail
    refine ⟨by simp, .inl ⟨_, _, rfl, run_takeDeferred hrec, ?_⟩⟩
    exact ⟨_, results_none rfl _ _ _, ⟨_, rfl⟩, .inr ⟨s2, h1, hJD⟩⟩
end Go.Proofs.YtfolkjjhlcjfgaaDoor
end

section
namespace Go.Proofs.YtfolkjjhlcjfgaaDoor
open Go.RowKit Go.Hay
attribute [local go_sem] Oper.semAt_some
set_option linter.unusedVariables false
set_option linter.unusedSimpArgs false

/-- Which rows one row gives. -/
def filtF (ts : List Tm) (x : List Val) : List (List Val) := if allT ts x then [x] else []
theorem asksCK {P : Nat → Prop} {A B : World} (h : Asks A) (k : CK P A B) (hp : P 0) : Asks B := ⟨Nat.lt_of_lt_of_le h.1 k.1, fun i hi => (k.2 ⟨0, i, none⟩ _ hp (h.2 i hi)).1⟩
set_option maxHeartbeats 64000000 in
set_option maxRecDepth 100000 in
theorem filtSeq (n : Nat) (hn : 2 ≤ n) (q1 q2 : Nat) (fr : Bool) (gl : Nat) (lbl : Array Value) (RL : List (List Val)) (jsl js : List Nat) (ta : Option Addr) (tc : Nat) (ts : List Tm) (w : World)
    (heL : ∀ args w, (callFunc gl args).run Tryd.prog w = .ok (.enter gl args) w)
    (c1 : w.cell? ⟨q1, 0, none⟩ = some (.func (.func gl) #[] lbl)) (c2 : w.cell? ⟨q2, 0, none⟩ = some (Value.slice ta ts.length tc)) (hXw : (fun W => TmE.See W ta ts ∧ Asks W) w)
    (hq : ∀ q ∈ [q1, q2], q ∈ js) (hjl : ∀ j ∈ jsl, j ∈ js) (hXj : ∀ j ∈ (0 :: blk ta), j ∈ js) (hjb : ∀ j ∈ js, j < w.heap.size)
    (hL : RowSeq fr (n - 1) gl lbl RL jsl w) (hRLl : ∀ l ∈ RL, l.length ≤ 1800000000000) (htl : ts.length ≤ 3000000000000) :
    RowSeq true n 16 #[.pointer (some ⟨q1, 0, none⟩), .pointer (some ⟨q2, 0, none⟩)] (RL.flatMap (filtF ts)) js w := by
  intro ly J Jx W hW hT hX hY h0
  obtain ⟨f, hf⟩ : ∃ f, Hid (filtF ts = f) := ⟨_, rfl⟩
  obtain ⟨RJ, hRJ⟩ : ∃ R, Hid (RL.flatMap f = R) := ⟨_, rfl⟩
  rw [hf.out, hRJ.out] at hT ⊢
  obtain ⟨X, hXd⟩ : ∃ X, Hid ((fun W => TmE.See W ta ts ∧ Asks W) = X) := ⟨_, rfl⟩
  obtain ⟨Xj, hXjd⟩ : ∃ X, Hid ((0 :: blk ta) = X) := ⟨_, rfl⟩
  have hXck : ∀ A B, X A → CK (fun k => k ∈ Xj) A B → X B := by rw [← hXd.out, ← hXjd.out]; exact (fun A B h k => ⟨ckSee k h.1 (fun j hj => by simp [hj]), asksCK h.2 k (by simp)⟩)
  have hXw : X w := by rw [← hXd.out]; exact hXw
  rw [hXjd.out] at hXj
  have kjs := hW.js
  have d1 := kjs.cell (hq q1 (by simp)) c1
  have d2 := kjs.cell (hq q2 (by simp)) c2
  have dX := hXck _ _ hXw ((ckOfKeepB kjs).mono fun k hk => hXj k hk)
  have hlW := hL.move (W := W) ⟨kjs.1, fun j hj o ho => kjs.2 j (hjl j hj) o ho⟩
  have hjW : ∀ j ∈ js, j < W.heap.size := fun j hj => Nat.lt_of_lt_of_le (hjb j hj) kjs.1
  obtain ⟨W1, hW1, k1, b1⟩ : ∃ W1, W.alloc (.cells #[.func (.yield ly) #[] #[]] 45) = W1 ∧ Kp [] W W1 ∧ Bn W1 W.heap.size [.func (.yield ly) #[] #[]] := ⟨_, rfl, (Kp.refl _ _).alloc _, Bn.new W _ _⟩
  obtain ⟨q3, hq3⟩ : ∃ q, Hid (W.heap.size = q) := ⟨_, rfl⟩
  rw [hq3.out] at b1
  have e1 := kpAt k1 d1
  obtain ⟨Mj, hMj⟩ : ∃ M, Hid (M = q2 :: q3 :: Xj) := ⟨_, rfl⟩
  obtain ⟨V2, hV2⟩ : ∃ v, Hid (Value.slice ta ts.length tc = v) := ⟨_, rfl⟩
  rw [hV2.out] at d2
  have hM1 : MI V2 q2 q3 ly X W1 := ⟨kpAt k1 d2, b1.get 0 _ rfl, hXck _ _ dX ((CK.ofKp k1).mono (by simp))⟩
  have hMst : ∀ A B, MI V2 q2 q3 ly X A → CK (fun k => k ∈ Mj) A B → MI V2 q2 q3 ly X B := fun A B h k => h.ck hXck (by rw [← hMj.out]; exact k)
  have hMn : ∀ j ∈ Mj, j ∈ js ∨ (W.heap.size ≤ j ∧ j < W1.heap.size) := fun j hj => by
    rw [hMj.out] at hj
    rcases List.mem_cons.1 hj with rfl | hj
    · exact .inl (hq _ (by simp))
    · rcases List.mem_cons.1 hj with rfl | hj
      · exact .inr ⟨by rw [← hq3.out]; exact Nat.le_refl _, b1.lt (by simp)⟩
      · exact .inl (hXj j hj)
  have hMb : ∀ j ∈ Mj, j < W1.heap.size := fun j hj => by
    rcases hMn j hj with e | e
    · exact Nat.lt_of_lt_of_le (hjW j e) k1.size
    · exact e.2
  have hJ1 : J ⟨true, W1.heap.size, [], js ++ Mj, 0, none⟩ W1 := hT _ _ _ _ h0 ⟨TurnR.ofKp0 k1, fun h => (by cases h), fun _ => ⟨rfl, k1.size, by simp⟩, fun j hj => by
    rcases List.mem_append.1 hj with e | e
    · exact .inl e
    · exact hMn j e, rfl, .inl rfl⟩
  have hI0 : InG J RL RJ f (MI V2 q2 q3 ly X) Mj W1 ⟨false, 0, [], jsl, 0, none⟩ W1 := ⟨js ++ Mj, [], 0, hJ1, fun j hj => List.mem_append.2 (.inl (hjl j hj)), fun j hj => List.mem_append.2 (.inr hj), by simp, hM1, by rw [← hRJ.out]; rfl, Nat.zero_le _, Nat.le_refl _, fun h => (by cases h), fun j hj => by have := hjW j (hjl j hj); have := k1.size; omega, fun x hx => (by cases hx), fun j hj => by
    rcases List.mem_append.1 hj with e | e
    · have := hjW j e; have := k1.size; omega
    · exact hMb j e, by simp⟩
  have hsq := hid (hlW.move (KeepB.ofKp k1 (by simp)))
  have HI0 := hid hI0
  have HMS := hid hMst
  have HMB := hid hMb
  have hq3' := hq3.out
  clear c1 c2 hL hW kjs hjb hlW k1 b1 d1 d2 hM1 hMn hJ1 hI0 hMst hMb h0 dX
  refine callsIn_of_wp_marks Tryd.func16 rfl trivial ?_ rfl
  simp only [Tryd.ntmps16, List.size_toArray, List.length_cons, List.length_nil, Nat.reduceAdd, Nat.reduceSub, Array.replicate_succ, Array.replicate_zero, List.push_toArray, List.append_toArray, List.nil_append, List.cons_append]
  refine wpIn_wide.2 ?_
  go_wp2_with fail
  refine (wpIn_wide (n := n)).1 ?_
  refine wpRangeX rfl (by omega) (gf := gl) (lb := lbl) rfl trivial heL
    hsq.out (fun _ => rfl) KeepR.trans (fun s W o => KeepR.alloc s W o) (KeepR.refl _ _)
    (InG J RL RJ f (MI V2 q2 q3 ly X) Mj W1) (fun c s W' => c = .ret ∧ InX Jx W1 s W') (InG.own hT HMS.out) (fun c s X Y row h hg hr => ⟨h.1, InX.own hX s X Y row h.2 hg hr⟩) HI0.out
    (fun s s' A B h ht k o hk ho => h.keeps ht k o hk ho) (fun c s A B h ht k o hk ho => h.2.keeps ht k o hk ho) (fun s s' A B hz h ht => h.step hT HMS.out HMB.out hz ht) (fun c s A B h ht => ⟨h.1, h.2.step hX ht⟩)
    (fun s W o' h => h.recs o') (fun s x W o' h => h.recs' o') (fun c s x W o' h => h.2.recs' o')
    (fun x => { tmps := #[.func (.yield ly) #[] #[], .pointer (some ⟨q1, 0, none⟩), .pointer (some ⟨q2, 0, none⟩), .pointer (some ⟨q3, 0, none⟩), .slice x.a x.l.length x.c, .func (.func gl) #[] lbl, .slice x.a x.l.length x.c, undef, undef, undef, undef, undef, undef, undef, undef, undef, undef], defers := [] }) ?assign ?body ?done ?stop
  case assign =>
    intro l x W C hC
    gi_wp2_with fail
    exact hC
  case body =>
    rintro l0 s ⟨xa, xc, xl⟩ A ⟨jsA, qsA, i, h⟩ hp
    obtain ⟨hRi, hxl⟩ := h.pend _ hp
    dsimp only at hRi ⊢
    have hxn : xl.length ≤ 1800000000000 := hRLl _ (List.mem_of_getElem? hRi)
    have hrel := hid (relStep h.rel hRi)
    have h' := hid h
    have hxl' := hid hxl
    have hmK : Hid (∀ A', Kp [] A A' → MI V2 q2 q3 ly X A') := fun A' k => HMS.out _ _ h'.out.m ((CK.ofKp k).mono (by simp))
    clear h hRi hxl HI0
    rw [← hV2.out] at hmK
    have cAl0 : Hid (∀ A', Kp [] A A' → Calls Tryd.prog 17 #[.slice ta ts.length tc, .slice xa xl.length xc] A' fun e w' => e = .returned (.bool (allT ts xl)) ∧ Kp [] A' w') := fun A' k => by
      have hx := (hmK.out A' k).x
      rw [← hXd.out] at hx
      exact xAll ta xa tc xc ts xl A' hx.2 hx.1 (seeV.2 (hxl'.out.see.kept k)) (by omega) (by omega)
    have cCp : Hid (∀ W', Kp [] A W' → Calls Tryd.prog 18 #[.slice xa xl.length xc] W' (NewR xl W')) := fun W' k => cCloneR xa xc xl W' (hxl'.out.see.kept k) hxl'.out.nil (by omega)
    gi_wp2_with fail
    by_cases hall : allT ts xl = true
    · have hR1 : Hid (RJ[i]? = some xl ∧ RJ.drop (i + 1) = (RL.drop (s.i + 1)).flatMap f ∧ i + 1 ≤ RJ.length) := relOne (by rw [hrel.out, ← hf.out, filtF, if_pos hall])
      refine wpIn_region_any (by kernel_rfl) ?_
      change wpAnyIn _ _ _ _ _ _ _ _ _ A.drew
      have kD : Kp [] A A.drew := (Kp.refl _ _).drew
      generalize A.drew = wd at *
      have KB := hid kD
      have c2b := (hmK.out wd kD).c2
      have c3b := (hmK.out wd kD).c3
      have cAl := hid (cAl0.out wd kD)
      rw [hall] at cAl
      clear kD hall
      refine wpAnyIn_ready (rs := [0, 1]) (by kernel_rfl) (by simp) ?_
      refine AllReadyIn.cons rfl (fun K hK => ?_) (AllReadyIn.cons rfl (fun K hK => ?_) AllReadyIn.nil)
      · go_simp
        refine hK _ _ ?_
        clear hK K
        try simp only [Act.put, List.getElem_toArray, List.getElem_cons_zero, List.getElem_cons_succ, List.setIfInBounds_toArray, List.set_cons_zero, List.set_cons_succ]
        refine wpAnyIn_ready (rs := [1]) (by kernel_rfl) (by simp) ?_
        refine AllReadyIn.cons rfl (fun K hK => ?_) AllReadyIn.nil
        go_simp
        refine hK _ _ ?_
        clear hK K
        try simp only [Act.put, List.getElem_toArray, List.getElem_cons_zero, List.getElem_cons_succ, List.setIfInBounds_toArray, List.set_cons_zero, List.set_cons_succ]
        refine wpAnyIn_ready (rs := [2]) (by kernel_rfl) (by simp) ?_
        refine AllReadyIn.cons rfl (fun K hK => ?_) AllReadyIn.nil
        go_simp
        refine ⟨trivial, fun h => (by cases h), (CallsIn.inRound l0 (callsIn_wide.2 cAl.out)).mono ?_⟩
        rintro e we ⟨rfl, ke⟩
        have KB := hid (KB.out.trans ke (by simp))
        have c3b := kpAt ke c3b
        have cCt := hid (cCp.out we KB.out)
        clear ke
        refine hK _ _ ?_
        clear hK K
        try simp only [Act.put, List.getElem_toArray, List.getElem_cons_zero, List.getElem_cons_succ, List.setIfInBounds_toArray, List.set_cons_zero, List.set_cons_succ]
        refine wpAnyIn_ready (rs := [3]) (by kernel_rfl) (by simp) ?_
        refine AllReadyIn.cons rfl (fun K hK => ?_) AllReadyIn.nil
        go_simp
        refine hK _ _ ?_
        clear hK K
        try simp only [Act.put, List.getElem_toArray, List.getElem_cons_zero, List.getElem_cons_succ, List.setIfInBounds_toArray, List.set_cons_zero, List.set_cons_succ]
        refine wpAnyIn_ready (rs := [4, 5]) (by kernel_rfl) (by simp) ?_
        refine AllReadyIn.cons rfl (fun K hK => ?_) (AllReadyIn.cons rfl (fun K hK => ?_) AllReadyIn.nil)
        · go_simp
          refine hK _ _ ?_
          clear hK K
          try simp only [Act.put, List.getElem_toArray, List.getElem_cons_zero, List.getElem_cons_succ, List.setIfInBounds_toArray, List.set_cons_zero, List.set_cons_succ]
          refine wpAnyIn_ready (rs := [5]) (by kernel_rfl) (by simp) ?_
          refine AllReadyIn.cons rfl (fun K hK => ?_) AllReadyIn.nil
          go_simp
          refine hK _ _ ?_
          clear hK K
          try simp only [Act.put, List.getElem_toArray, List.getElem_cons_zero, List.getElem_cons_succ, List.setIfInBounds_toArray, List.set_cons_zero, List.set_cons_succ]
          refine wpAnyIn_ready (rs := [6]) (by kernel_rfl) (by simp) ?_
          refine AllReadyIn.cons rfl (fun K hK => ?_) AllReadyIn.nil
          go_simp
          refine ⟨trivial, fun h => (by cases h), (CallsIn.inRound l0 (callsIn_wide.2 cCt.out)).mono ?_⟩
          rintro e Wz ⟨za, zc, rfl, hzrow, kz, hzb⟩
          have c3z := kpAt kz c3b
          refine hK _ _ ?_
          clear hK K
          try simp only [Act.put, List.getElem_toArray, List.getElem_cons_zero, List.getElem_cons_succ, List.setIfInBounds_toArray, List.set_cons_zero, List.set_cons_succ]
          have kWz := hid (KB.out.trans kz (by simp))
          have hzl := rowLies hzrow
          have hzb2 : ∀ j ∈ blk za, A.heap.size ≤ j := fun j hj => by have := hzb j hj; have := KB.out.size; omega
          have hJz : J ⟨true, W1.heap.size, qsA, jsA, i, some ⟨za, zc, xl⟩⟩ Wz := hT _ _ _ _ h'.out.j ⟨TurnR.ofKp0 kWz.out, fun _ => ⟨rfl, rfl, fun q hq => .inl hq⟩, fun e => (by cases e), fun j hj => .inl hj, rfl, .inr ⟨_, rfl, hR1.out.1, hzl, fun _ => ⟨hzrow, fun j hj => ⟨hzb2 j hj, fun hm => by have := h'.out.jl j hm; have := hzb2 j hj; omega, fun hm => by have := h'.out.ql j hm; have := hzb2 j hj; omega⟩⟩⟩⟩
          obtain ⟨fn, tmps, assign, body, hyl5, hR⟩ := hY _ ⟨za, zc, xl⟩ Wz hJz rfl
          have hR' : RoundIn (Fence.wide.inRound l0) (n - 1 - 1 - 1) Tryd.prog ly fn tmps assign body Wz _ := RoundIn.anyDepthJ (F := Fence.wide.inRound l0) rfl hR
          have hgo : Hid (∀ A3, KeepR ⟨true, W1.heap.size, qsA, jsA, i, some ⟨za, zc, xl⟩⟩ Wz A3 → KeepR s A A3 ∧ KeepsFrom W1.heap.size A A3 ∧ KeepB Mj A A3) := fun A3 hk3 => h'.out.keepR (s := ⟨true, W1.heap.size, qsA, jsA, i, some ⟨za, zc, xl⟩⟩) rfl rfl (fun j hj => hj) (KeepR.trans ⟨KeepB.ofKp kWz.out (by simp), fun _ j o _ ho _ => (kWz.out.block j (Array.getElem?_eq_some_iff.1 ho).1 (by simp)).trans ho⟩ hk3)
          have hyl6 := hyl5
          simp only [encR] at hyl6
          clear hR hJz hzl hzrow kz hzb hzb2 hyl5 cCt
          refine wpAnyIn_ready (rs := [7]) (by kernel_rfl) (by simp) ?_
          refine AllReadyIn.cons rfl (fun K hK => ?_) AllReadyIn.nil
          go_simp
          refine ⟨fun h => (by cases h), hR'.mono ?_⟩
          rintro e A3 (⟨rfl, hJ3, hk3⟩ | ⟨rfl, hJ3, hk3⟩)
          · have HG := hid (hgo.out A3 hk3)
            have hJ4 : Hid (J ⟨true, W1.heap.size, qsA, jsA, i + 1, none⟩ A3) := hJ3
            clear hgo hR' hyl6 hJ3 hk3
            refine hK _ _ ?_
            clear hK K
            try simp only [Act.put, List.getElem_toArray, List.getElem_cons_zero, List.getElem_cons_succ, List.setIfInBounds_toArray, List.set_cons_zero, List.set_cons_succ]
            refine wpAnyIn_ready (rs := [8]) (by kernel_rfl) (by simp) ?_
            refine AllReadyIn.cons rfl (fun K hK => ?_) AllReadyIn.nil
            go_simp
            refine hK _ _ ?_
            clear hK K
            try simp only [Act.put, List.getElem_toArray, List.getElem_cons_zero, List.getElem_cons_succ, List.setIfInBounds_toArray, List.set_cons_zero, List.set_cons_succ]
            refine wpAnyIn_ready (rs := [9]) (by kernel_rfl) (by simp) ?_
            refine AllReadyIn.cons rfl (fun K hK => ?_) AllReadyIn.nil
            go_simp
            refine hK _ _ ?_
            clear hK K
            try simp only [Act.put, List.getElem_toArray, List.getElem_cons_zero, List.getElem_cons_succ, List.setIfInBounds_toArray, List.set_cons_zero, List.set_cons_succ]
            refine wpAnyIn_done (by kernel_rfl) ?_ _
            gi_wp2_with fail
            refine ⟨HG.out.2.1, HG.out.1, jsA, qsA, i + 1, hJ4.out, h'.out.sub, h'.out.mj, h'.out.qsub, HMS.out _ _ h'.out.m (ckOfKeepB HG.out.2.2), hR1.out.2.1, hR1.out.2.2, Nat.le_trans h'.out.size HG.out.2.1.size, h'.out.mde, h'.out.lj, fun x hx => (by cases hx), fun j hj => Nat.lt_of_lt_of_le (h'.out.jl j hj) HG.out.2.1.size, fun q hq => Nat.lt_of_lt_of_le (h'.out.ql q hq) HG.out.2.1.size⟩
          · have HG := hid (hgo.out A3 hk3)
            have hJ4 := hid hJ3
            clear hgo hR' hyl6 hJ3 hk3
            refine hK _ _ ?_
            clear hK K
            try simp only [Act.put, List.getElem_toArray, List.getElem_cons_zero, List.getElem_cons_succ, List.setIfInBounds_toArray, List.set_cons_zero, List.set_cons_succ]
            refine wpAnyIn_ready (rs := [8]) (by kernel_rfl) (by simp) ?_
            refine AllReadyIn.cons rfl (fun K hK => ?_) AllReadyIn.nil
            go_simp
            refine hK _ _ ?_
            clear hK K
            try simp only [Act.put, List.getElem_toArray, List.getElem_cons_zero, List.getElem_cons_succ, List.setIfInBounds_toArray, List.set_cons_zero, List.set_cons_succ]
            refine wpAnyIn_ready (rs := [9]) (by kernel_rfl) (by simp) ?_
            refine AllReadyIn.cons rfl (fun K hK => ?_) AllReadyIn.nil
            go_simp
            refine hK _ _ ?_
            clear hK K
            try simp only [Act.put, List.getElem_toArray, List.getElem_cons_zero, List.getElem_cons_succ, List.setIfInBounds_toArray, List.set_cons_zero, List.set_cons_succ]
            refine wpAnyIn_done (by kernel_rfl) ?_ _
            gi_wp2_with fail
            refine ⟨HG.out.2.1, HG.out.1, rfl, Sr.nx ⟨true, W1.heap.size, qsA, jsA, i, some ⟨za, zc, xl⟩⟩ ⟨za, zc, xl⟩, rfl, rfl, h'.out.qsub, h'.out.mde, h'.out.lj, hJ4.out⟩
        · go_simp
          refine hK _ _ ?_
          clear hK K
          try simp only [Act.put, List.getElem_toArray, List.getElem_cons_zero, List.getElem_cons_succ, List.setIfInBounds_toArray, List.set_cons_zero, List.set_cons_succ]
          refine wpAnyIn_ready (rs := [4, 6]) (by kernel_rfl) (by simp) ?_
          refine AllReadyIn.cons rfl (fun K hK => ?_) (AllReadyIn.cons rfl (fun K hK => ?_) AllReadyIn.nil)
          · go_simp
            refine hK _ _ ?_
            clear hK K
            try simp only [Act.put, List.getElem_toArray, List.getElem_cons_zero, List.getElem_cons_succ, List.setIfInBounds_toArray, List.set_cons_zero, List.set_cons_succ]
            refine wpAnyIn_ready (rs := [6]) (by kernel_rfl) (by simp) ?_
            refine AllReadyIn.cons rfl (fun K hK => ?_) AllReadyIn.nil
            go_simp
            refine ⟨trivial, fun h => (by cases h), (CallsIn.inRound l0 (callsIn_wide.2 cCt.out)).mono ?_⟩
            rintro e Wz ⟨za, zc, rfl, hzrow, kz, hzb⟩
            have c3z := kpAt kz c3b
            refine hK _ _ ?_
            clear hK K
            try simp only [Act.put, List.getElem_toArray, List.getElem_cons_zero, List.getElem_cons_succ, List.setIfInBounds_toArray, List.set_cons_zero, List.set_cons_succ]
            have kWz := hid (KB.out.trans kz (by simp))
            have hzl := rowLies hzrow
            have hzb2 : ∀ j ∈ blk za, A.heap.size ≤ j := fun j hj => by have := hzb j hj; have := KB.out.size; omega
            have hJz : J ⟨true, W1.heap.size, qsA, jsA, i, some ⟨za, zc, xl⟩⟩ Wz := hT _ _ _ _ h'.out.j ⟨TurnR.ofKp0 kWz.out, fun _ => ⟨rfl, rfl, fun q hq => .inl hq⟩, fun e => (by cases e), fun j hj => .inl hj, rfl, .inr ⟨_, rfl, hR1.out.1, hzl, fun _ => ⟨hzrow, fun j hj => ⟨hzb2 j hj, fun hm => by have := h'.out.jl j hm; have := hzb2 j hj; omega, fun hm => by have := h'.out.ql j hm; have := hzb2 j hj; omega⟩⟩⟩⟩
            obtain ⟨fn, tmps, assign, body, hyl5, hR⟩ := hY _ ⟨za, zc, xl⟩ Wz hJz rfl
            have hR' : RoundIn (Fence.wide.inRound l0) (n - 1 - 1 - 1) Tryd.prog ly fn tmps assign body Wz _ := RoundIn.anyDepthJ (F := Fence.wide.inRound l0) rfl hR
            have hgo : Hid (∀ A3, KeepR ⟨true, W1.heap.size, qsA, jsA, i, some ⟨za, zc, xl⟩⟩ Wz A3 → KeepR s A A3 ∧ KeepsFrom W1.heap.size A A3 ∧ KeepB Mj A A3) := fun A3 hk3 => h'.out.keepR (s := ⟨true, W1.heap.size, qsA, jsA, i, some ⟨za, zc, xl⟩⟩) rfl rfl (fun j hj => hj) (KeepR.trans ⟨KeepB.ofKp kWz.out (by simp), fun _ j o _ ho _ => (kWz.out.block j (Array.getElem?_eq_some_iff.1 ho).1 (by simp)).trans ho⟩ hk3)
            have hyl6 := hyl5
            simp only [encR] at hyl6
            clear hR hJz hzl hzrow kz hzb hzb2 hyl5 cCt
            refine wpAnyIn_ready (rs := [7]) (by kernel_rfl) (by simp) ?_
            refine AllReadyIn.cons rfl (fun K hK => ?_) AllReadyIn.nil
            go_simp
            refine ⟨fun h => (by cases h), hR'.mono ?_⟩
            rintro e A3 (⟨rfl, hJ3, hk3⟩ | ⟨rfl, hJ3, hk3⟩)
            · have HG := hid (hgo.out A3 hk3)
              have hJ4 : Hid (J ⟨true, W1.heap.size, qsA, jsA, i + 1, none⟩ A3) := hJ3
              clear hgo hR' hyl6 hJ3 hk3
              refine hK _ _ ?_
              clear hK K
              try simp only [Act.put, List.getElem_toArray, List.getElem_cons_zero, List.getElem_cons_succ, List.setIfInBounds_toArray, List.set_cons_zero, List.set_cons_succ]
              refine wpAnyIn_ready (rs := [8]) (by kernel_rfl) (by simp) ?_
              refine AllReadyIn.cons rfl (fun K hK => ?_) AllReadyIn.nil
              go_simp
              refine hK _ _ ?_
              clear hK K
              try simp only [Act.put, List.getElem_toArray, List.getElem_cons_zero, List.getElem_cons_succ, List.setIfInBounds_toArray, List.set_cons_zero, List.set_cons_succ]
              refine wpAnyIn_ready (rs := [9]) (by kernel_rfl) (by simp) ?_
              refine AllReadyIn.cons rfl (fun K hK => ?_) AllReadyIn.nil
              go_simp
              refine hK _ _ ?_
              clear hK K
              try simp only [Act.put, List.getElem_toArray, List.getElem_cons_zero, List.getElem_cons_succ, List.setIfInBounds_toArray, List.set_cons_zero, List.set_cons_succ]
              refine wpAnyIn_done (by kernel_rfl) ?_ _
              gi_wp2_with fail
              refine ⟨HG.out.2.1, HG.out.1, jsA, qsA, i + 1, hJ4.out, h'.out.sub, h'.out.mj, h'.out.qsub, HMS.out _ _ h'.out.m (ckOfKeepB HG.out.2.2), hR1.out.2.1, hR1.out.2.2, Nat.le_trans h'.out.size HG.out.2.1.size, h'.out.mde, h'.out.lj, fun x hx => (by cases hx), fun j hj => Nat.lt_of_lt_of_le (h'.out.jl j hj) HG.out.2.1.size, fun q hq => Nat.lt_of_lt_of_le (h'.out.ql q hq) HG.out.2.1.size⟩
            · have HG := hid (hgo.out A3 hk3)
              have hJ4 := hid hJ3
              clear hgo hR' hyl6 hJ3 hk3
              refine hK _ _ ?_
              clear hK K
              try simp only [Act.put, List.getElem_toArray, List.getElem_cons_zero, List.getElem_cons_succ, List.setIfInBounds_toArray, List.set_cons_zero, List.set_cons_succ]
              refine wpAnyIn_ready (rs := [8]) (by kernel_rfl) (by simp) ?_
              refine AllReadyIn.cons rfl (fun K hK => ?_) AllReadyIn.nil
              go_simp
              refine hK _ _ ?_
              clear hK K
              try simp only [Act.put, List.getElem_toArray, List.getElem_cons_zero, List.getElem_cons_succ, List.setIfInBounds_toArray, List.set_cons_zero, List.set_cons_succ]
              refine wpAnyIn_ready (rs := [9]) (by kernel_rfl) (by simp) ?_
              refine AllReadyIn.cons rfl (fun K hK => ?_) AllReadyIn.nil
              go_simp
              refine hK _ _ ?_
              clear hK K
              try simp only [Act.put, List.getElem_toArray, List.getElem_cons_zero, List.getElem_cons_succ, List.setIfInBounds_toArray, List.set_cons_zero, List.set_cons_succ]
              refine wpAnyIn_done (by kernel_rfl) ?_ _
              gi_wp2_with fail
              refine ⟨HG.out.2.1, HG.out.1, rfl, Sr.nx ⟨true, W1.heap.size, qsA, jsA, i, some ⟨za, zc, xl⟩⟩ ⟨za, zc, xl⟩, rfl, rfl, h'.out.qsub, h'.out.mde, h'.out.lj, hJ4.out⟩
          · go_simp
            refine ⟨trivial, fun h => (by cases h), (CallsIn.inRound l0 (callsIn_wide.2 cCt.out)).mono ?_⟩
            rintro e Wz ⟨za, zc, rfl, hzrow, kz, hzb⟩
            have c3z := kpAt kz c3b
            refine hK _ _ ?_
            clear hK K
            try simp only [Act.put, List.getElem_toArray, List.getElem_cons_zero, List.getElem_cons_succ, List.setIfInBounds_toArray, List.set_cons_zero, List.set_cons_succ]
            refine wpAnyIn_ready (rs := [4]) (by kernel_rfl) (by simp) ?_
            refine AllReadyIn.cons rfl (fun K hK => ?_) AllReadyIn.nil
            go_simp
            refine hK _ _ ?_
            clear hK K
            try simp only [Act.put, List.getElem_toArray, List.getElem_cons_zero, List.getElem_cons_succ, List.setIfInBounds_toArray, List.set_cons_zero, List.set_cons_succ]
            have kWz := hid (KB.out.trans kz (by simp))
            have hzl := rowLies hzrow
            have hzb2 : ∀ j ∈ blk za, A.heap.size ≤ j := fun j hj => by have := hzb j hj; have := KB.out.size; omega
            have hJz : J ⟨true, W1.heap.size, qsA, jsA, i, some ⟨za, zc, xl⟩⟩ Wz := hT _ _ _ _ h'.out.j ⟨TurnR.ofKp0 kWz.out, fun _ => ⟨rfl, rfl, fun q hq => .inl hq⟩, fun e => (by cases e), fun j hj => .inl hj, rfl, .inr ⟨_, rfl, hR1.out.1, hzl, fun _ => ⟨hzrow, fun j hj => ⟨hzb2 j hj, fun hm => by have := h'.out.jl j hm; have := hzb2 j hj; omega, fun hm => by have := h'.out.ql j hm; have := hzb2 j hj; omega⟩⟩⟩⟩
            obtain ⟨fn, tmps, assign, body, hyl5, hR⟩ := hY _ ⟨za, zc, xl⟩ Wz hJz rfl
            have hR' : RoundIn (Fence.wide.inRound l0) (n - 1 - 1 - 1) Tryd.prog ly fn tmps assign body Wz _ := RoundIn.anyDepthJ (F := Fence.wide.inRound l0) rfl hR
            have hgo : Hid (∀ A3, KeepR ⟨true, W1.heap.size, qsA, jsA, i, some ⟨za, zc, xl⟩⟩ Wz A3 → KeepR s A A3 ∧ KeepsFrom W1.heap.size A A3 ∧ KeepB Mj A A3) := fun A3 hk3 => h'.out.keepR (s := ⟨true, W1.heap.size, qsA, jsA, i, some ⟨za, zc, xl⟩⟩) rfl rfl (fun j hj => hj) (KeepR.trans ⟨KeepB.ofKp kWz.out (by simp), fun _ j o _ ho _ => (kWz.out.block j (Array.getElem?_eq_some_iff.1 ho).1 (by simp)).trans ho⟩ hk3)
            have hyl6 := hyl5
            simp only [encR] at hyl6
            clear hR hJz hzl hzrow kz hzb hzb2 hyl5 cCt
            refine wpAnyIn_ready (rs := [7]) (by kernel_rfl) (by simp) ?_
            refine AllReadyIn.cons rfl (fun K hK => ?_) AllReadyIn.nil
            go_simp
            refine ⟨fun h => (by cases h), hR'.mono ?_⟩
            rintro e A3 (⟨rfl, hJ3, hk3⟩ | ⟨rfl, hJ3, hk3⟩)
            · have HG := hid (hgo.out A3 hk3)
              have hJ4 : Hid (J ⟨true, W1.heap.size, qsA, jsA, i + 1, none⟩ A3) := hJ3
              clear hgo hR' hyl6 hJ3 hk3
              refine hK _ _ ?_
              clear hK K
              try simp only [Act.put, List.getElem_toArray, List.getElem_cons_zero, List.getElem_cons_succ, List.setIfInBounds_toArray, List.set_cons_zero, List.set_cons_succ]
              refine wpAnyIn_ready (rs := [8]) (by kernel_rfl) (by simp) ?_
              refine AllReadyIn.cons rfl (fun K hK => ?_) AllReadyIn.nil
              go_simp
              refine hK _ _ ?_
              clear hK K
              try simp only [Act.put, List.getElem_toArray, List.getElem_cons_zero, List.getElem_cons_succ, List.setIfInBounds_toArray, List.set_cons_zero, List.set_cons_succ]
              refine wpAnyIn_ready (rs := [9]) (by kernel_rfl) (by simp) ?_
              refine AllReadyIn.cons rfl (fun K hK => ?_) AllReadyIn.nil
              go_simp
              refine hK _ _ ?_
              clear hK K
              try simp only [Act.put, List.getElem_toArray, List.getElem_cons_zero, List.getElem_cons_succ, List.setIfInBounds_toArray, List.set_cons_zero, List.set_cons_succ]
              refine wpAnyIn_done (by kernel_rfl) ?_ _
              gi_wp2_with fail
              refine ⟨HG.out.2.1, HG.out.1, jsA, qsA, i + 1, hJ4.out, h'.out.sub, h'.out.mj, h'.out.qsub, HMS.out _ _ h'.out.m (ckOfKeepB HG.out.2.2), hR1.out.2.1, hR1.out.2.2, Nat.le_trans h'.out.size HG.out.2.1.size, h'.out.mde, h'.out.lj, fun x hx => (by cases hx), fun j hj => Nat.lt_of_lt_of_le (h'.out.jl j hj) HG.out.2.1.size, fun q hq => Nat.lt_of_lt_of_le (h'.out.ql q hq) HG.out.2.1.size⟩
            · have HG := hid (hgo.out A3 hk3)
              have hJ4 := hid hJ3
              clear hgo hR' hyl6 hJ3 hk3
              refine hK _ _ ?_
              clear hK K
              try simp only [Act.put, List.getElem_toArray, List.getElem_cons_zero, List.getElem_cons_succ, List.setIfInBounds_toArray, List.set_cons_zero, List.set_cons_succ]
              refine wpAnyIn_ready (rs := [8]) (by kernel_rfl) (by simp) ?_
              refine AllReadyIn.cons rfl (fun K hK => ?_) AllReadyIn.nil
              go_simp
              refine hK _ _ ?_
              clear hK K
              try simp only [Act.put, List.getElem_toArray, List.getElem_cons_zero, List.getElem_cons_succ, List.setIfInBounds_toArray, List.set_cons_zero, List.set_cons_succ]
              refine wpAnyIn_ready (rs := [9]) (by kernel_rfl) (by simp) ?_
              refine AllReadyIn.cons rfl (fun K hK => ?_) AllReadyIn.nil
              go_simp
              refine hK _ _ ?_
              clear hK K
              try simp only [Act.put, List.getElem_toArray, List.getElem_cons_zero, List.getElem_cons_succ, List.setIfInBounds_toArray, List.set_cons_zero, List.set_cons_succ]
              refine wpAnyIn_done (by kernel_rfl) ?_ _
              gi_wp2_with fail
              refine ⟨HG.out.2.1, HG.out.1, rfl, Sr.nx ⟨true, W1.heap.size, qsA, jsA, i, some ⟨za, zc, xl⟩⟩ ⟨za, zc, xl⟩, rfl, rfl, h'.out.qsub, h'.out.mde, h'.out.lj, hJ4.out⟩
      · go_simp
        refine hK _ _ ?_
        clear hK K
        try simp only [Act.put, List.getElem_toArray, List.getElem_cons_zero, List.getElem_cons_succ, List.setIfInBounds_toArray, List.set_cons_zero, List.set_cons_succ]
        refine wpAnyIn_ready (rs := [0]) (by kernel_rfl) (by simp) ?_
        refine AllReadyIn.cons rfl (fun K hK => ?_) AllReadyIn.nil
        go_simp
        refine hK _ _ ?_
        clear hK K
        try simp only [Act.put, List.getElem_toArray, List.getElem_cons_zero, List.getElem_cons_succ, List.setIfInBounds_toArray, List.set_cons_zero, List.set_cons_succ]
        refine wpAnyIn_ready (rs := [2]) (by kernel_rfl) (by simp) ?_
        refine AllReadyIn.cons rfl (fun K hK => ?_) AllReadyIn.nil
        go_simp
        refine ⟨trivial, fun h => (by cases h), (CallsIn.inRound l0 (callsIn_wide.2 cAl.out)).mono ?_⟩
        rintro e we ⟨rfl, ke⟩
        have KB := hid (KB.out.trans ke (by simp))
        have c3b := kpAt ke c3b
        have cCt := hid (cCp.out we KB.out)
        clear ke
        refine hK _ _ ?_
        clear hK K
        try simp only [Act.put, List.getElem_toArray, List.getElem_cons_zero, List.getElem_cons_succ, List.setIfInBounds_toArray, List.set_cons_zero, List.set_cons_succ]
        refine wpAnyIn_ready (rs := [3]) (by kernel_rfl) (by simp) ?_
        refine AllReadyIn.cons rfl (fun K hK => ?_) AllReadyIn.nil
        go_simp
        refine hK _ _ ?_
        clear hK K
        try simp only [Act.put, List.getElem_toArray, List.getElem_cons_zero, List.getElem_cons_succ, List.setIfInBounds_toArray, List.set_cons_zero, List.set_cons_succ]
        refine wpAnyIn_ready (rs := [4, 5]) (by kernel_rfl) (by simp) ?_
        refine AllReadyIn.cons rfl (fun K hK => ?_) (AllReadyIn.cons rfl (fun K hK => ?_) AllReadyIn.nil)
        · go_simp
          refine hK _ _ ?_
          clear hK K
          try simp only [Act.put, List.getElem_toArray, List.getElem_cons_zero, List.getElem_cons_succ, List.setIfInBounds_toArray, List.set_cons_zero, List.set_cons_succ]
          refine wpAnyIn_ready (rs := [5]) (by kernel_rfl) (by simp) ?_
          refine AllReadyIn.cons rfl (fun K hK => ?_) AllReadyIn.nil
          go_simp
          refine hK _ _ ?_
          clear hK K
          try simp only [Act.put, List.getElem_toArray, List.getElem_cons_zero, List.getElem_cons_succ, List.setIfInBounds_toArray, List.set_cons_zero, List.set_cons_succ]
          refine wpAnyIn_ready (rs := [6]) (by kernel_rfl) (by simp) ?_
          refine AllReadyIn.cons rfl (fun K hK => ?_) AllReadyIn.nil
          go_simp
          refine ⟨trivial, fun h => (by cases h), (CallsIn.inRound l0 (callsIn_wide.2 cCt.out)).mono ?_⟩
          rintro e Wz ⟨za, zc, rfl, hzrow, kz, hzb⟩
          have c3z := kpAt kz c3b
          refine hK _ _ ?_
          clear hK K
          try simp only [Act.put, List.getElem_toArray, List.getElem_cons_zero, List.getElem_cons_succ, List.setIfInBounds_toArray, List.set_cons_zero, List.set_cons_succ]
          have kWz := hid (KB.out.trans kz (by simp))
          have hzl := rowLies hzrow
          have hzb2 : ∀ j ∈ blk za, A.heap.size ≤ j := fun j hj => by have := hzb j hj; have := KB.out.size; omega
          have hJz : J ⟨true, W1.heap.size, qsA, jsA, i, some ⟨za, zc, xl⟩⟩ Wz := hT _ _ _ _ h'.out.j ⟨TurnR.ofKp0 kWz.out, fun _ => ⟨rfl, rfl, fun q hq => .inl hq⟩, fun e => (by cases e), fun j hj => .inl hj, rfl, .inr ⟨_, rfl, hR1.out.1, hzl, fun _ => ⟨hzrow, fun j hj => ⟨hzb2 j hj, fun hm => by have := h'.out.jl j hm; have := hzb2 j hj; omega, fun hm => by have := h'.out.ql j hm; have := hzb2 j hj; omega⟩⟩⟩⟩
          obtain ⟨fn, tmps, assign, body, hyl5, hR⟩ := hY _ ⟨za, zc, xl⟩ Wz hJz rfl
          have hR' : RoundIn (Fence.wide.inRound l0) (n - 1 - 1 - 1) Tryd.prog ly fn tmps assign body Wz _ := RoundIn.anyDepthJ (F := Fence.wide.inRound l0) rfl hR
          have hgo : Hid (∀ A3, KeepR ⟨true, W1.heap.size, qsA, jsA, i, some ⟨za, zc, xl⟩⟩ Wz A3 → KeepR s A A3 ∧ KeepsFrom W1.heap.size A A3 ∧ KeepB Mj A A3) := fun A3 hk3 => h'.out.keepR (s := ⟨true, W1.heap.size, qsA, jsA, i, some ⟨za, zc, xl⟩⟩) rfl rfl (fun j hj => hj) (KeepR.trans ⟨KeepB.ofKp kWz.out (by simp), fun _ j o _ ho _ => (kWz.out.block j (Array.getElem?_eq_some_iff.1 ho).1 (by simp)).trans ho⟩ hk3)
          have hyl6 := hyl5
          simp only [encR] at hyl6
          clear hR hJz hzl hzrow kz hzb hzb2 hyl5 cCt
          refine wpAnyIn_ready (rs := [7]) (by kernel_rfl) (by simp) ?_
          refine AllReadyIn.cons rfl (fun K hK => ?_) AllReadyIn.nil
          go_simp
          refine ⟨fun h => (by cases h), hR'.mono ?_⟩
          rintro e A3 (⟨rfl, hJ3, hk3⟩ | ⟨rfl, hJ3, hk3⟩)
          · have HG := hid (hgo.out A3 hk3)
            have hJ4 : Hid (J ⟨true, W1.heap.size, qsA, jsA, i + 1, none⟩ A3) := hJ3
            clear hgo hR' hyl6 hJ3 hk3
            refine hK _ _ ?_
            clear hK K
            try simp only [Act.put, List.getElem_toArray, List.getElem_cons_zero, List.getElem_cons_succ, List.setIfInBounds_toArray, List.set_cons_zero, List.set_cons_succ]
            refine wpAnyIn_ready (rs := [8]) (by kernel_rfl) (by simp) ?_
            refine AllReadyIn.cons rfl (fun K hK => ?_) AllReadyIn.nil
            go_simp
            refine hK _ _ ?_
            clear hK K
            try simp only [Act.put, List.getElem_toArray, List.getElem_cons_zero, List.getElem_cons_succ, List.setIfInBounds_toArray, List.set_cons_zero, List.set_cons_succ]
            refine wpAnyIn_ready (rs := [9]) (by kernel_rfl) (by simp) ?_
            refine AllReadyIn.cons rfl (fun K hK => ?_) AllReadyIn.nil
            go_simp
            refine hK _ _ ?_
            clear hK K
            try simp only [Act.put, List.getElem_toArray, List.getElem_cons_zero, List.getElem_cons_succ, List.setIfInBounds_toArray, List.set_cons_zero, List.set_cons_succ]
            refine wpAnyIn_done (by kernel_rfl) ?_ _
            gi_wp2_with fail
            refine ⟨HG.out.2.1, HG.out.1, jsA, qsA, i + 1, hJ4.out, h'.out.sub, h'.out.mj, h'.out.qsub, HMS.out _ _ h'.out.m (ckOfKeepB HG.out.2.2), hR1.out.2.1, hR1.out.2.2, Nat.le_trans h'.out.size HG.out.2.1.size, h'.out.mde, h'.out.lj, fun x hx => (by cases hx), fun j hj => Nat.lt_of_lt_of_le (h'.out.jl j hj) HG.out.2.1.size, fun q hq => Nat.lt_of_lt_of_le (h'.out.ql q hq) HG.out.2.1.size⟩
          · have HG := hid (hgo.out A3 hk3)
            have hJ4 := hid hJ3
            clear hgo hR' hyl6 hJ3 hk3
            refine hK _ _ ?_
            clear hK K
            try simp only [Act.put, List.getElem_toArray, List.getElem_cons_zero, List.getElem_cons_succ, List.setIfInBounds_toArray, List.set_cons_zero, List.set_cons_succ]
            refine wpAnyIn_ready (rs := [8]) (by kernel_rfl) (by simp) ?_
            refine AllReadyIn.cons rfl (fun K hK => ?_) AllReadyIn.nil
            go_simp
            refine hK _ _ ?_
            clear hK K
            try simp only [Act.put, List.getElem_toArray, List.getElem_cons_zero, List.getElem_cons_succ, List.setIfInBounds_toArray, List.set_cons_zero, List.set_cons_succ]
            refine wpAnyIn_ready (rs := [9]) (by kernel_rfl) (by simp) ?_
            refine AllReadyIn.cons rfl (fun K hK => ?_) AllReadyIn.nil
            go_simp
            refine hK _ _ ?_
            clear hK K
            try simp only [Act.put, List.getElem_toArray, List.getElem_cons_zero, List.getElem_cons_succ, List.setIfInBounds_toArray, List.set_cons_zero, List.set_cons_succ]
            refine wpAnyIn_done (by kernel_rfl) ?_ _
            gi_wp2_with fail
            refine ⟨HG.out.2.1, HG.out.1, rfl, Sr.nx ⟨true, W1.heap.size, qsA, jsA, i, some ⟨za, zc, xl⟩⟩ ⟨za, zc, xl⟩, rfl, rfl, h'.out.qsub, h'.out.mde, h'.out.lj, hJ4.out⟩
        · go_simp
          refine hK _ _ ?_
          clear hK K
          try simp only [Act.put, List.getElem_toArray, List.getElem_cons_zero, List.getElem_cons_succ, List.setIfInBounds_toArray, List.set_cons_zero, List.set_cons_succ]
          refine wpAnyIn_ready (rs := [4, 6]) (by kernel_rfl) (by simp) ?_
          refine AllReadyIn.cons rfl (fun K hK => ?_) (AllReadyIn.cons rfl (fun K hK => ?_) AllReadyIn.nil)
          · go_simp
            refine hK _ _ ?_
            clear hK K
            try simp only [Act.put, List.getElem_toArray, List.getElem_cons_zero, List.getElem_cons_succ, List.setIfInBounds_toArray, List.set_cons_zero, List.set_cons_succ]
            refine wpAnyIn_ready (rs := [6]) (by kernel_rfl) (by simp) ?_
            refine AllReadyIn.cons rfl (fun K hK => ?_) AllReadyIn.nil
            go_simp
            refine ⟨trivial, fun h => (by cases h), (CallsIn.inRound l0 (callsIn_wide.2 cCt.out)).mono ?_⟩
            rintro e Wz ⟨za, zc, rfl, hzrow, kz, hzb⟩
            have c3z := kpAt kz c3b
            refine hK _ _ ?_
            clear hK K
            try simp only [Act.put, List.getElem_toArray, List.getElem_cons_zero, List.getElem_cons_succ, List.setIfInBounds_toArray, List.set_cons_zero, List.set_cons_succ]
            have kWz := hid (KB.out.trans kz (by simp))
            have hzl := rowLies hzrow
            have hzb2 : ∀ j ∈ blk za, A.heap.size ≤ j := fun j hj => by have := hzb j hj; have := KB.out.size; omega
            have hJz : J ⟨true, W1.heap.size, qsA, jsA, i, some ⟨za, zc, xl⟩⟩ Wz := hT _ _ _ _ h'.out.j ⟨TurnR.ofKp0 kWz.out, fun _ => ⟨rfl, rfl, fun q hq => .inl hq⟩, fun e => (by cases e), fun j hj => .inl hj, rfl, .inr ⟨_, rfl, hR1.out.1, hzl, fun _ => ⟨hzrow, fun j hj => ⟨hzb2 j hj, fun hm => by have := h'.out.jl j hm; have := hzb2 j hj; omega, fun hm => by have := h'.out.ql j hm; have := hzb2 j hj; omega⟩⟩⟩⟩
            obtain ⟨fn, tmps, assign, body, hyl5, hR⟩ := hY _ ⟨za, zc, xl⟩ Wz hJz rfl
            have hR' : RoundIn (Fence.wide.inRound l0) (n - 1 - 1 - 1) Tryd.prog ly fn tmps assign body Wz _ := RoundIn.anyDepthJ (F := Fence.wide.inRound l0) rfl hR
            have hgo : Hid (∀ A3, KeepR ⟨true, W1.heap.size, qsA, jsA, i, some ⟨za, zc, xl⟩⟩ Wz A3 → KeepR s A A3 ∧ KeepsFrom W1.heap.size A A3 ∧ KeepB Mj A A3) := fun A3 hk3 => h'.out.keepR (s := ⟨true, W1.heap.size, qsA, jsA, i, some ⟨za, zc, xl⟩⟩) rfl rfl (fun j hj => hj) (KeepR.trans ⟨KeepB.ofKp kWz.out (by simp), fun _ j o _ ho _ => (kWz.out.block j (Array.getElem?_eq_some_iff.1 ho).1 (by simp)).trans ho⟩ hk3)
            have hyl6 := hyl5
            simp only [encR] at hyl6
            clear hR hJz hzl hzrow kz hzb hzb2 hyl5 cCt
            refine wpAnyIn_ready (rs := [7]) (by kernel_rfl) (by simp) ?_
            refine AllReadyIn.cons rfl (fun K hK => ?_) AllReadyIn.nil
            go_simp
            refine ⟨fun h => (by cases h), hR'.mono ?_⟩
            rintro e A3 (⟨rfl, hJ3, hk3⟩ | ⟨rfl, hJ3, hk3⟩)
            · have HG := hid (hgo.out A3 hk3)
              have hJ4 : Hid (J ⟨true, W1.heap.size, qsA, jsA, i + 1, none⟩ A3) := hJ3
              clear hgo hR' hyl6 hJ3 hk3
              refine hK _ _ ?_
              clear hK K
              try simp only [Act.put, List.getElem_toArray, List.getElem_cons_zero, List.getElem_cons_succ, List.setIfInBounds_toArray, List.set_cons_zero, List.set_cons_succ]
              refine wpAnyIn_ready (rs := [8]) (by kernel_rfl) (by simp) ?_
              refine AllReadyIn.cons rfl (fun K hK => ?_) AllReadyIn.nil
              go_simp
              refine hK _ _ ?_
              clear hK K
              try simp only [Act.put, List.getElem_toArray, List.getElem_cons_zero, List.getElem_cons_succ, List.setIfInBounds_toArray, List.set_cons_zero, List.set_cons_succ]
              refine wpAnyIn_ready (rs := [9]) (by kernel_rfl) (by simp) ?_
              refine AllReadyIn.cons rfl (fun K hK => ?_) AllReadyIn.nil
              go_simp
              refine hK _ _ ?_
              clear hK K
              try simp only [Act.put, List.getElem_toArray, List.getElem_cons_zero, List.getElem_cons_succ, List.setIfInBounds_toArray, List.set_cons_zero, List.set_cons_succ]
              refine wpAnyIn_done (by kernel_rfl) ?_ _
              gi_wp2_with fail
              refine ⟨HG.out.2.1, HG.out.1, jsA, qsA, i + 1, hJ4.out, h'.out.sub, h'.out.mj, h'.out.qsub, HMS.out _ _ h'.out.m (ckOfKeepB HG.out.2.2), hR1.out.2.1, hR1.out.2.2, Nat.le_trans h'.out.size HG.out.2.1.size, h'.out.mde, h'.out.lj, fun x hx => (by cases hx), fun j hj => Nat.lt_of_lt_of_le (h'.out.jl j hj) HG.out.2.1.size, fun q hq => Nat.lt_of_lt_of_le (h'.out.ql q hq) HG.out.2.1.size⟩
            · have HG := hid (hgo.out A3 hk3)
              have hJ4 := hid hJ3
              clear hgo hR' hyl6 hJ3 hk3
              refine hK _ _ ?_
              clear hK K
              try simp only [Act.put, List.getElem_toArray, List.getElem_cons_zero, List.getElem_cons_succ, List.setIfInBounds_toArray, List.set_cons_zero, List.set_cons_succ]
              refine wpAnyIn_ready (rs := [8]) (by kernel_rfl) (by simp) ?_
              refine AllReadyIn.cons rfl (fun K hK => ?_) AllReadyIn.nil
              go_simp
              refine hK _ _ ?_
              clear hK K
              try simp only [Act.put, List.getElem_toArray, List.getElem_cons_zero, List.getElem_cons_succ, List.setIfInBounds_toArray, List.set_cons_zero, List.set_cons_succ]
              refine wpAnyIn_ready (rs := [9]) (by kernel_rfl) (by simp) ?_
              refine AllReadyIn.cons rfl (fun K hK => ?_) AllReadyIn.nil
              go_simp
              refine hK _ _ ?_
              clear hK K
              try simp only [Act.put, List.getElem_toArray, List.getElem_cons_zero, List.getElem_cons_succ, List.setIfInBounds_toArray, List.set_cons_zero, List.set_cons_succ]
              refine wpAnyIn_done (by kernel_rfl) ?_ _
              gi_wp2_with fail
              refine ⟨HG.out.2.1, HG.out.1, rfl, Sr.nx ⟨true, W1.heap.size, qsA, jsA, i, some ⟨za, zc, xl⟩⟩ ⟨za, zc, xl⟩, rfl, rfl, h'.out.qsub, h'.out.mde, h'.out.lj, hJ4.out⟩
          · go_simp
            refine ⟨trivial, fun h => (by cases h), (CallsIn.inRound l0 (callsIn_wide.2 cCt.out)).mono ?_⟩
            rintro e Wz ⟨za, zc, rfl, hzrow, kz, hzb⟩
            have c3z := kpAt kz c3b
            refine hK _ _ ?_
            clear hK K
            try simp only [Act.put, List.getElem_toArray, List.getElem_cons_zero, List.getElem_cons_succ, List.setIfInBounds_toArray, List.set_cons_zero, List.set_cons_succ]
            refine wpAnyIn_ready (rs := [4]) (by kernel_rfl) (by simp) ?_
            refine AllReadyIn.cons rfl (fun K hK => ?_) AllReadyIn.nil
            go_simp
            refine hK _ _ ?_
            clear hK K
            try simp only [Act.put, List.getElem_toArray, List.getElem_cons_zero, List.getElem_cons_succ, List.setIfInBounds_toArray, List.set_cons_zero, List.set_cons_succ]
            have kWz := hid (KB.out.trans kz (by simp))
            have hzl := rowLies hzrow
            have hzb2 : ∀ j ∈ blk za, A.heap.size ≤ j := fun j hj => by have := hzb j hj; have := KB.out.size; omega
            have hJz : J ⟨true, W1.heap.size, qsA, jsA, i, some ⟨za, zc, xl⟩⟩ Wz := hT _ _ _ _ h'.out.j ⟨TurnR.ofKp0 kWz.out, fun _ => ⟨rfl, rfl, fun q hq => .inl hq⟩, fun e => (by cases e), fun j hj => .inl hj, rfl, .inr ⟨_, rfl, hR1.out.1, hzl, fun _ => ⟨hzrow, fun j hj => ⟨hzb2 j hj, fun hm => by have := h'.out.jl j hm; have := hzb2 j hj; omega, fun hm => by have := h'.out.ql j hm; have := hzb2 j hj; omega⟩⟩⟩⟩
            obtain ⟨fn, tmps, assign, body, hyl5, hR⟩ := hY _ ⟨za, zc, xl⟩ Wz hJz rfl
            have hR' : RoundIn (Fence.wide.inRound l0) (n - 1 - 1 - 1) Tryd.prog ly fn tmps assign body Wz _ := RoundIn.anyDepthJ (F := Fence.wide.inRound l0) rfl hR
            have hgo : Hid (∀ A3, KeepR ⟨true, W1.heap.size, qsA, jsA, i, some ⟨za, zc, xl⟩⟩ Wz A3 → KeepR s A A3 ∧ KeepsFrom W1.heap.size A A3 ∧ KeepB Mj A A3) := fun A3 hk3 => h'.out.keepR (s := ⟨true, W1.heap.size, qsA, jsA, i, some ⟨za, zc, xl⟩⟩) rfl rfl (fun j hj => hj) (KeepR.trans ⟨KeepB.ofKp kWz.out (by simp), fun _ j o _ ho _ => (kWz.out.block j (Array.getElem?_eq_some_iff.1 ho).1 (by simp)).trans ho⟩ hk3)
            have hyl6 := hyl5
            simp only [encR] at hyl6
            clear hR hJz hzl hzrow kz hzb hzb2 hyl5 cCt
            refine wpAnyIn_ready (rs := [7]) (by kernel_rfl) (by simp) ?_
            refine AllReadyIn.cons rfl (fun K hK => ?_) AllReadyIn.nil
            go_simp
            refine ⟨fun h => (by cases h), hR'.mono ?_⟩
            rintro e A3 (⟨rfl, hJ3, hk3⟩ | ⟨rfl, hJ3, hk3⟩)
            · have HG := hid (hgo.out A3 hk3)
              have hJ4 : Hid (J ⟨true, W1.heap.size, qsA, jsA, i + 1, none⟩ A3) := hJ3
              clear hgo hR' hyl6 hJ3 hk3
              refine hK _ _ ?_
              clear hK K
              try simp only [Act.put, List.getElem_toArray, List.getElem_cons_zero, List.getElem_cons_succ, List.setIfInBounds_toArray, List.set_cons_zero, List.set_cons_succ]
              refine wpAnyIn_ready (rs := [8]) (by kernel_rfl) (by simp) ?_
              refine AllReadyIn.cons rfl (fun K hK => ?_) AllReadyIn.nil
              go_simp
              refine hK _ _ ?_
              clear hK K
              try simp only [Act.put, List.getElem_toArray, List.getElem_cons_zero, List.getElem_cons_succ, List.setIfInBounds_toArray, List.set_cons_zero, List.set_cons_succ]
              refine wpAnyIn_ready (rs := [9]) (by kernel_rfl) (by simp) ?_
              refine AllReadyIn.cons rfl (fun K hK => ?_) AllReadyIn.nil
              go_simp
              refine hK _ _ ?_
              clear hK K
              try simp only [Act.put, List.getElem_toArray, List.getElem_cons_zero, List.getElem_cons_succ, List.setIfInBounds_toArray, List.set_cons_zero, List.set_cons_succ]
              refine wpAnyIn_done (by kernel_rfl) ?_ _
              gi_wp2_with fail
              refine ⟨HG.out.2.1, HG.out.1, jsA, qsA, i + 1, hJ4.out, h'.out.sub, h'.out.mj, h'.out.qsub, HMS.out _ _ h'.out.m (ckOfKeepB HG.out.2.2), hR1.out.2.1, hR1.out.2.2, Nat.le_trans h'.out.size HG.out.2.1.size, h'.out.mde, h'.out.lj, fun x hx => (by cases hx), fun j hj => Nat.lt_of_lt_of_le (h'.out.jl j hj) HG.out.2.1.size, fun q hq => Nat.lt_of_lt_of_le (h'.out.ql q hq) HG.out.2.1.size⟩
            · have HG := hid (hgo.out A3 hk3)
              have hJ4 := hid hJ3
              clear hgo hR' hyl6 hJ3 hk3
              refine hK _ _ ?_
              clear hK K
              try simp only [Act.put, List.getElem_toArray, List.getElem_cons_zero, List.getElem_cons_succ, List.setIfInBounds_toArray, List.set_cons_zero, List.set_cons_succ]
              refine wpAnyIn_ready (rs := [8]) (by kernel_rfl) (by simp) ?_
              refine AllReadyIn.cons rfl (fun K hK => ?_) AllReadyIn.nil
              go_simp
              refine hK _ _ ?_
              clear hK K
              try simp only [Act.put, List.getElem_toArray, List.getElem_cons_zero, List.getElem_cons_succ, List.setIfInBounds_toArray, List.set_cons_zero, List.set_cons_succ]
              refine wpAnyIn_ready (rs := [9]) (by kernel_rfl) (by simp) ?_
              refine AllReadyIn.cons rfl (fun K hK => ?_) AllReadyIn.nil
              go_simp
              refine hK _ _ ?_
              clear hK K
              try simp only [Act.put, List.getElem_toArray, List.getElem_cons_zero, List.getElem_cons_succ, List.setIfInBounds_toArray, List.set_cons_zero, List.set_cons_succ]
              refine wpAnyIn_done (by kernel_rfl) ?_ _
              gi_wp2_with fail
              refine ⟨HG.out.2.1, HG.out.1, rfl, Sr.nx ⟨true, W1.heap.size, qsA, jsA, i, some ⟨za, zc, xl⟩⟩ ⟨za, zc, xl⟩, rfl, rfl, h'.out.qsub, h'.out.mde, h'.out.lj, hJ4.out⟩
    · have hall' : allT ts xl = false := by simpa using hall
      have hr0 : Hid (RJ.drop i = (RL.drop (s.i + 1)).flatMap f) := by show _ = _; rw [hrel.out, ← hf.out, filtF, hall']; rfl
      refine region_round (fun B => B.cell? ⟨q2, 0, none⟩ = some (.slice ta ts.length tc)) (by kernel_rfl) (by kernel_rfl) (by rintro ⟨_, _, hlo⟩; exact hlo) (hmK.out _ (Kp.refl [] A).drew).c2 (fun hHeld => ?_)
      have KD : Hid (Kp [] A A.drew) := hid (Kp.refl [] A).drew
      generalize A.drew = wd at *
      have cAl := hid (cAl0.out wd KD.out)
      rw [hall'] at cAl
      refine wpAnyH_take (i := 0) (v := ?_) rfl (by kernel_rfl) (by kernel_rfl) (by kernel_rfl) (fun _ _ _ h => h) (Or.inl ⟨by rfl, ?_⟩) (by assumption) ?_
      rotate_left
      · intro w hSw; (try dsimp only at hSw); go_simp <;> with_reducible rfl
      try simp only [Act.put, List.getElem_toArray, List.getElem_cons_zero, List.getElem_cons_succ, List.setIfInBounds_toArray, List.set_cons_zero, List.set_cons_succ]
      refine wpAnyH_take (i := 1) (v := ?_) rfl (by kernel_rfl) (by kernel_rfl) (by kernel_rfl) (fun _ _ _ h => h) (Or.inl ⟨by rfl, ?_⟩) (by assumption) ?_
      rotate_left
      · intro w hSw; (try dsimp only at hSw); go_simp <;> with_reducible rfl
      try simp only [Act.put, List.getElem_toArray, List.getElem_cons_zero, List.getElem_cons_succ, List.setIfInBounds_toArray, List.set_cons_zero, List.set_cons_succ]
      refine wpAnyH_ready (rs := [2]) (by kernel_rfl) (by simp) ?_
      refine AllReadyH.cons rfl (fun K hK => ?_) AllReadyH.nil
      go_simp
      refine cAl.out.mono ?_
      rintro e we ⟨rfl, ke⟩
      (try go_wp2_with fail)
      refine hK.out _ _ ?_ (fun hHeld => ?_)
      · exact (hmK.out _ (KD.out.trans ke (by simp))).c2
      clear hK K
      try simp only [Act.put, List.getElem_toArray, List.getElem_cons_zero, List.getElem_cons_succ, List.setIfInBounds_toArray, List.set_cons_zero, List.set_cons_succ]
      refine wpAnyH_take (i := 3) (v := ?_) rfl (by kernel_rfl) (by kernel_rfl) (by kernel_rfl) (fun _ _ _ h => h) (Or.inl ⟨by rfl, ?_⟩) (by assumption) ?_
      rotate_left
      · intro w hSw; (try dsimp only at hSw); go_simp <;> with_reducible rfl
      try simp only [Act.put, List.getElem_toArray, List.getElem_cons_zero, List.getElem_cons_succ, List.setIfInBounds_toArray, List.set_cons_zero, List.set_cons_succ]
      refine wpAnyH_take (i := 4) (v := undef) rfl (by kernel_rfl) (by kernel_rfl) (by kernel_rfl) (fun _ _ _ h => h) (Or.inr ⟨by rfl, rfl⟩) (by assumption) ?_
      try simp only [Act.put, List.getElem_toArray, List.getElem_cons_zero, List.getElem_cons_succ, List.setIfInBounds_toArray, List.set_cons_zero, List.set_cons_succ]
      refine wpAnyH_take (i := 5) (v := undef) rfl (by kernel_rfl) (by kernel_rfl) (by kernel_rfl) (fun _ _ _ h => h) (Or.inr ⟨by rfl, rfl⟩) (by assumption) ?_
      try simp only [Act.put, List.getElem_toArray, List.getElem_cons_zero, List.getElem_cons_succ, List.setIfInBounds_toArray, List.set_cons_zero, List.set_cons_succ]
      refine wpAnyH_take (i := 6) (v := undef) rfl (by kernel_rfl) (by kernel_rfl) (by kernel_rfl) (fun _ _ _ h => h) (Or.inr ⟨by rfl, rfl⟩) (by assumption) ?_
      try simp only [Act.put, List.getElem_toArray, List.getElem_cons_zero, List.getElem_cons_succ, List.setIfInBounds_toArray, List.set_cons_zero, List.set_cons_succ]
      refine wpAnyH_take (i := 7) (v := undef) rfl (by kernel_rfl) (by kernel_rfl) (by kernel_rfl) (fun _ _ _ h => h) (Or.inr ⟨by rfl, rfl⟩) (by assumption) ?_
      try simp only [Act.put, List.getElem_toArray, List.getElem_cons_zero, List.getElem_cons_succ, List.setIfInBounds_toArray, List.set_cons_zero, List.set_cons_succ]
      refine wpAnyH_take (i := 8) (v := undef) rfl (by kernel_rfl) (by kernel_rfl) (by kernel_rfl) (fun _ _ _ h => h) (Or.inr ⟨by rfl, rfl⟩) (by assumption) ?_
      try simp only [Act.put, List.getElem_toArray, List.getElem_cons_zero, List.getElem_cons_succ, List.setIfInBounds_toArray, List.set_cons_zero, List.set_cons_succ]
      refine wpAnyH_take (i := 9) (v := ?_) rfl (by kernel_rfl) (by kernel_rfl) (by kernel_rfl) (fun _ _ _ h => h) (Or.inl ⟨by rfl, ?_⟩) (by assumption) ?_
      rotate_left
      · intro w hSw; (try dsimp only at hSw); go_simp <;> with_reducible rfl
      try simp only [Act.put, List.getElem_toArray, List.getElem_cons_zero, List.getElem_cons_succ, List.setIfInBounds_toArray, List.set_cons_zero, List.set_cons_succ]
      refine wpAnyH_done (by kernel_rfl) ?_ _
      have KE := hid (KD.out.trans ke (by simp))
      clear ke hHeld cAl
      gi_wp2_with fail
      obtain ⟨g1, g2, g3⟩ := h'.out.keepR (s := ⟨true, W1.heap.size, qsA, jsA, i, none⟩) rfl rfl (fun j hj => hj) (W' := we) ⟨KeepB.ofKp KE.out (by simp), fun _ j o _ ho _ => (KE.out.block j (Array.getElem?_eq_some_iff.1 ho).1 (by simp)).trans ho⟩
      exact ⟨g2, g1, jsA, qsA, i, hT _ _ _ _ h'.out.j (StepR.same rfl rfl (TurnR.ofKp0 KE.out)), h'.out.sub, h'.out.mj, h'.out.qsub, HMS.out _ _ h'.out.m ((CK.ofKp KE.out).mono (by simp)), hr0.out, h'.out.il, Nat.le_trans h'.out.size KE.out.size, h'.out.mde, h'.out.lj, fun x hx => (by cases hx), fun j hj => Nat.lt_of_lt_of_le (h'.out.jl j hj) KE.out.size, fun q hq => Nat.lt_of_lt_of_le (h'.out.ql q hq) KE.out.size⟩
  case done =>
    rintro D s X hD ⟨hmd, hsi, hsp⟩ ⟨jsA, qsA, i, h⟩ hrec
    have hie : i = RJ.length := by
      have := h.rel
      rw [hsi, List.drop_length, List.flatMap_nil] at this
      have := congrArg List.length this
      rw [List.length_drop, List.length_nil] at this
      have := h.il
      omega
    have hJD := hT _ _ _ _ h.j (StepR.same rfl rfl (TurnR.ofGrown (grownBy_putObj' X D (.deferred none)) (fun r e => by cases e; exact ⟨hD, _, hrec, rfl⟩)))
    gi_wp2_with fail
    refine ⟨by simp, .inl ⟨_, _, rfl, run_takeDeferred hrec, ?_⟩⟩
    exact ⟨_, results_none rfl _ _ _, ⟨_, rfl⟩, .inl ⟨_, ⟨rfl, hie, rfl⟩, hJD⟩⟩
  case stop =>
    rintro D c s X hD hsm ⟨rfl, h⟩ hrec
    obtain ⟨s2, h1, h2, h3, h4, h5, h6⟩ := h
    have hJD := hX _ _ _ h6 ⟨h1, TurnR.ofGrown (grownBy_putObj' X D (.deferred none)) (fun r e => by cases e; exact ⟨by rw [h2]; exact hD, _, hrec, rfl⟩)⟩
    gi_wp2_with fail
    refine ⟨by simp, .inl ⟨_, _, rfl, run_takeDeferred hrec, ?_⟩⟩
    exact ⟨_, results_none rfl _ _ _, ⟨_, rfl⟩, .inr ⟨s2, h1, hJD⟩⟩
end Go.Proofs.YtfolkjjhlcjfgaaDoor
end

section
namespace Go.Proofs.YtfolkjjhlcjfgaaDoor
open Go.RowKit Go.Hay
attribute [local go_sem] Oper.semAt_some
set_option linter.unusedVariables false
set_option linter.unusedSimpArgs false

theorem infoTY : ∃ i : TypeInfo, Tryd.prog.info? 44 = some i ∧ i.zero = some (.agg #[.int .i64 0, .int .i64 0, .int .i64 0, .bool false, .int .i64 0, .string ⟨#[]⟩]) ∧ i.size = 6 ∧ i.bytes = 56 := by
  have h : (Tryd.prog.info? 44).map (fun i => (i.zero, i.size, i.bytes)) = some (some (.agg #[.int .i64 0, .int .i64 0, .int .i64 0, .bool false, .int .i64 0, .string ⟨#[]⟩]), 6, 56) := by kernel_rfl
  cases e : Tryd.prog.info? 44 with
  | none => rw [e] at h; cases h
  | some i =>
    rw [e] at h
    simp at h
    exact ⟨i, rfl, h.1, h.2.1, h.2.2⟩
theorem eqNilTY (a : Option Addr) (n c : Nat) (w : World) : (binOp .eql 23 (.slice a n c) (.slice none 0 0)).run Tryd.prog w = .ok (.bool a.isNone) w := by
  simp only [binOp]
  simp [run_equal_slice_nil w 23 44 a n c Tryd.underlying23]
/-- A row of its own. -/
def NewTY (l : List (Tm)) (w : World) (e : Ending) (w' : World) : Prop := ∃ a c, e = .returned (.slice a l.length c) ∧ TmE.Row w' (.slice a l.length c) l ∧ Kp [] w w' ∧ ∀ k ∈ blk a, w.heap.size ≤ k
set_option maxHeartbeats 4000000 in
set_option maxRecDepth 100000 in
theorem cCloneTY (a : Option Addr) (c : Nat) (l : List (Tm)) (w : World) (hs : TmE.See w a l) (hn : a = none → c = 0) (hb : l.length ≤ 3600000000000) :
    Calls Tryd.prog 15 #[.slice a l.length c] w (NewTY l w) := by
  cases a with
  | none =>
    have hl : l = [] := by rcases hs with h | ⟨g, o, h, _⟩; exact h; cases h
    subst hl
    rw [hn rfl]
    have e1 := eqNilTY none 0 0
    go_enter Tryd.func15, Tryd.ntmps15
    go_wp2_with fail
    go_ret
    exact ⟨none, 0, rfl, .inl ⟨rfl, rfl⟩, Kp.refl _ _, by simp [blk]⟩
  | some ad =>
    have e0 := eqNilTY (some ad) l.length c
    go_enter Tryd.func15, Tryd.ntmps15
    have k1 : Kp [] w (w.alloc (.cells #[] 44)) := (Kp.refl _ _).alloc _
    have hr := rowNoneY TmE w rfl #[] 44
    have hsr := (hs.keptNew k1).src (P := Tryd.prog) Tryd.underlying23 c
    obtain ⟨i0, hi, hz0, hz1, hz2⟩ := infoTY
    go_wp2_with (first | (refine wpAppG (E := TmE) rfl _ _ 23 23 44 rfl i0 _ 56 Tryd.underlying23 hi hz0 hz1 hz2 rfl _ [] rfl hr _ l rfl hsr (by simp; omega) (by simp; omega) ?_; intro ys a' c' w' hy hrow hg hn) | fail)
    go_ret
    have e : ys = l := by rw [hy.out]; rfl
    subst e
    refine ⟨a', c', rfl, hrow, k1.trans hg (fun k hk => .inr ?_), fun k hk => ?_⟩
    · simp [own, Value.ownBlock, Act.eval] at hk; omega
    · rcases hn k hk with h1 | h1
      · simp [own, Value.ownBlock, Act.eval] at h1; omega
      · exact Nat.le_trans k1.size h1
/-- What Filter hands back: a closure, with what it was given in boxes, and a row of its own. -/
def FiltP (g : Nat) (lb : Array Value) (ts : List (Tm)) (w : World) (e : Ending) (w' : World) : Prop := ∃ (q2 q3 : Nat) (a : Option Addr) (c : Nat), e = .returned (.func (.func 16) #[] #[.pointer (some ⟨q2, 0, none⟩), .pointer (some ⟨q3, 0, none⟩)]) ∧ w'.cell? ⟨q2, 0, none⟩ = some (.func (.func g) #[] lb) ∧ w'.cell? ⟨q3, 0, none⟩ = some (.slice a ts.length c) ∧ TmE.Row w' (.slice a ts.length c) ts ∧ Kp [] w w'
set_option maxHeartbeats 8000000 in
set_option maxRecDepth 100000 in
theorem cFiltE (g : Nat) (lb : Array Value) (ta : Option Addr) (tc : Nat) (ts : List (Tm)) (w : World) (ht : TmE.See w ta ts) (htn : ta = none → tc = 0) (htl : ts.length ≤ 3600000000000) :
    Calls Tryd.prog 6 #[.func (.func g) #[] lb, .slice ta ts.length tc] w (FiltP g lb ts w) := by
  obtain ⟨w1, hw1, k1, b1⟩ : ∃ w1, w.alloc (.cells #[.func (.func g) #[] lb] 28) = w1 ∧ Kp [] w w1 ∧ Bn w1 w.heap.size [.func (.func g) #[] lb] := ⟨_, rfl, (Kp.refl _ _).alloc _, Bn.new w _ _⟩
  obtain ⟨w2, hw2, k2, b2⟩ : ∃ w2, w1.alloc (.cells #[.slice ta ts.length tc] 23) = w2 ∧ Kp [] w1 w2 ∧ Bn w2 w1.heap.size [.slice ta ts.length tc] := ⟨_, rfl, (Kp.refl _ _).alloc _, Bn.new w1 _ _⟩
  obtain ⟨q2, hq2⟩ : ∃ q, Hid (w.heap.size = q) := ⟨_, rfl⟩
  obtain ⟨q3, hq3⟩ : ∃ q, Hid (w1.heap.size = q) := ⟨_, rfl⟩
  rw [hq2.out] at b1
  rw [hq3.out] at b2
  have hq2' := hq2.out
  have hq3' := hq3.out
  have k12 := k1.trans k2 (by simp)
  have b12 := b1.kept k2
  have z1 := k1.size
  have cC := hid (cCloneTY ta tc ts w2 (ht.keptNew k12) htn htl)
  have v3 := b2.get 0 _ rfl
  have HB := hid (And.intro b12 (And.intro b2 (And.intro k12 z1)))
  clear ht k1 k2 b1 b2 b12 k12 z1
  go_enter Tryd.func6, Tryd.ntmps6
  go_wp2_with fail
  refine cC.out.mono ?_
  rintro e w3 ⟨a, c, rfl, hr, k3, hb⟩
  have b3 := HB.out.2.1.kept k3
  have y3 := b3.get 0 _ rfl
  have f3 := b3.free 0
  obtain ⟨w4, e4, b4, k4⟩ : ∃ W2, w3.setCell ⟨q3, 0, none⟩ (.slice a ts.length c) = W2 ∧ Bn W2 q3 [.slice a ts.length c] ∧ Kp [q3] w3 W2 := ⟨_, rfl, b3.set 0 (by simp) _, (Kp.refl _ _).setCell (by simp) _⟩
  have hbq : ∀ k ∈ blk a, k ∉ [q3] := fun k hk hm => by
    simp at hm
    have h1 := hb k hk
    have h2 : q3 < w2.heap.size := HB.out.2.1.lt (by simp)
    omega
  have r4 : TmE.Row w4 (.slice a ts.length c) ts := ckRow (CK.ofKp k4) hr hbq
  have hne : q2 ∉ [q3] := by
    simp
    rw [← hq2.out, ← hq3.out, ← hw1]
    simp
  have x2 : w4.cell? ⟨q2, 0, none⟩ = some (.func (.func g) #[] lb) := (k4.cell (p := ⟨q2, 0, none⟩) (by have := (HB.out.1.kept k3).lt (by simp); exact this) hne).trans ((HB.out.1.kept k3).get 0 _ rfl)
  have kk : Kp [] w w4 := (HB.out.2.2.1.trans k3 (by simp)).trans k4 (fun j hj => .inr (by simp at hj; rw [hj, ← hq3.out]; exact HB.out.2.2.2))
  have HF := hid (And.intro x2 (And.intro (b4.get 0 _ rfl) (And.intro r4 kk)))
  clear cC hr k3 hb b3 b4 k4 hbq r4 x2 kk v3
  go_wp2_with fail
  go_ret
  exact ⟨q2, q3, a, c, rfl, HF.out.1, HF.out.2.1, HF.out.2.2.1, HF.out.2.2.2⟩
/-- What Project hands back: a closure, with what it was given in boxes, and a row of its own. -/
def ProjP (g : Nat) (lb : Array Value) (ts : List (Int)) (w : World) (e : Ending) (w' : World) : Prop := ∃ (q2 q3 : Nat) (a : Option Addr) (c : Nat), e = .returned (.func (.func 22) #[] #[.pointer (some ⟨q2, 0, none⟩), .pointer (some ⟨q3, 0, none⟩)]) ∧ w'.cell? ⟨q2, 0, none⟩ = some (.func (.func g) #[] lb) ∧ w'.cell? ⟨q3, 0, none⟩ = some (.slice a ts.length c) ∧ IntE.Row w' (.slice a ts.length c) ts ∧ Kp [] w w'
set_option maxHeartbeats 8000000 in
set_option maxRecDepth 100000 in
theorem cProjE (g : Nat) (lb : Array Value) (ta : Option Addr) (tc : Nat) (ts : List (Int)) (w : World) (ht : IntE.See w ta ts) (htn : ta = none → tc = 0) (htl : ts.length ≤ 3600000000000) :
    Calls Tryd.prog 9 #[.func (.func g) #[] lb, .slice ta ts.length tc] w (ProjP g lb ts w) := by
  obtain ⟨w1, hw1, k1, b1⟩ : ∃ w1, w.alloc (.cells #[.func (.func g) #[] lb] 28) = w1 ∧ Kp [] w w1 ∧ Bn w1 w.heap.size [.func (.func g) #[] lb] := ⟨_, rfl, (Kp.refl _ _).alloc _, Bn.new w _ _⟩
  obtain ⟨w2, hw2, k2, b2⟩ : ∃ w2, w1.alloc (.cells #[.slice ta ts.length tc] 24) = w2 ∧ Kp [] w1 w2 ∧ Bn w2 w1.heap.size [.slice ta ts.length tc] := ⟨_, rfl, (Kp.refl _ _).alloc _, Bn.new w1 _ _⟩
  obtain ⟨q2, hq2⟩ : ∃ q, Hid (w.heap.size = q) := ⟨_, rfl⟩
  obtain ⟨q3, hq3⟩ : ∃ q, Hid (w1.heap.size = q) := ⟨_, rfl⟩
  rw [hq2.out] at b1
  rw [hq3.out] at b2
  have hq2' := hq2.out
  have hq3' := hq3.out
  have k12 := k1.trans k2 (by simp)
  have b12 := b1.kept k2
  have z1 := k1.size
  have cC := hid (cCloneIY ta tc ts w2 (ht.keptNew k12) htn htl)
  have v3 := b2.get 0 _ rfl
  have HB := hid (And.intro b12 (And.intro b2 (And.intro k12 z1)))
  clear ht k1 k2 b1 b2 b12 k12 z1
  go_enter Tryd.func9, Tryd.ntmps9
  go_wp2_with fail
  refine cC.out.mono ?_
  rintro e w3 ⟨a, c, rfl, hr, k3, hb⟩
  have b3 := HB.out.2.1.kept k3
  have y3 := b3.get 0 _ rfl
  have f3 := b3.free 0
  obtain ⟨w4, e4, b4, k4⟩ : ∃ W2, w3.setCell ⟨q3, 0, none⟩ (.slice a ts.length c) = W2 ∧ Bn W2 q3 [.slice a ts.length c] ∧ Kp [q3] w3 W2 := ⟨_, rfl, b3.set 0 (by simp) _, (Kp.refl _ _).setCell (by simp) _⟩
  have hbq : ∀ k ∈ blk a, k ∉ [q3] := fun k hk hm => by
    simp at hm
    have h1 := hb k hk
    have h2 : q3 < w2.heap.size := HB.out.2.1.lt (by simp)
    omega
  have r4 : IntE.Row w4 (.slice a ts.length c) ts := ckRow (CK.ofKp k4) hr hbq
  have hne : q2 ∉ [q3] := by
    simp
    rw [← hq2.out, ← hq3.out, ← hw1]
    simp
  have x2 : w4.cell? ⟨q2, 0, none⟩ = some (.func (.func g) #[] lb) := (k4.cell (p := ⟨q2, 0, none⟩) (by have := (HB.out.1.kept k3).lt (by simp); exact this) hne).trans ((HB.out.1.kept k3).get 0 _ rfl)
  have kk : Kp [] w w4 := (HB.out.2.2.1.trans k3 (by simp)).trans k4 (fun j hj => .inr (by simp at hj; rw [hj, ← hq3.out]; exact HB.out.2.2.2))
  have HF := hid (And.intro x2 (And.intro (b4.get 0 _ rfl) (And.intro r4 kk)))
  clear cC hr k3 hb b3 b4 k4 hbq r4 x2 kk v3
  go_wp2_with fail
  go_ret
  exact ⟨q2, q3, a, c, rfl, HF.out.1, HF.out.2.1, HF.out.2.2.1, HF.out.2.2.2⟩
theorem heFilt : ∀ (args : Array Value) (w : World), (callFunc 16 args).run Tryd.prog w = .ok (.enter 16 args) w := fun _ _ => rfl
theorem heProj : ∀ (args : Array Value) (w : World), (callFunc 22 args).run Tryd.prog w = .ok (.enter 22 args) w := fun _ _ => rfl
/-- What Filter gives is an iterator of the rows of which all terms are true. -/
theorem filtSrc {g : Nat} {lb : Array Value} {ts : List Tm} {w w' : World} {e : Ending} (h : FiltP g lb ts w e w') (m : Nat) (hm : 2 ≤ m) (fr : Bool) (RL : List (List Val)) (jsl : List Nat) (heg : ∀ args w, (callFunc g args).run Tryd.prog w = .ok (.enter g args) w) (hL : ∀ n, m ≤ n → RowSeq fr (n - 1) g lb RL jsl w) (hjl : ∀ j ∈ jsl, j < w.heap.size) (hA : Asks w) (hRLl : ∀ l ∈ RL, l.length ≤ 1800000000000) (htl : ts.length ≤ 3000000000000) :
    ∃ lb', e = .returned (.func (.func 16) #[] lb') ∧ ∃ js, (∀ j ∈ js, j < w'.heap.size) ∧ (∀ n, m ≤ n → RowSeq true n 16 lb' (RL.flatMap (filtF ts)) js w') ∧ Kp [] w w' := by
  obtain ⟨q2, q3, a, c, rfl, c1, c2, hr, k⟩ := h
  obtain ⟨a', c', e, hs, _⟩ := hr.see
  cases e
  have hA' : Asks w' := hA.kept k (by simp)
  have hjs : ∀ j ∈ jsl ++ ([q2, q3] ++ (0 :: blk a)), j < w'.heap.size := fun j hj => by
    rcases List.mem_append.1 hj with e | e
    · exact Nat.lt_of_lt_of_le (hjl j e) k.size
    · rcases List.mem_append.1 e with e | e
      · simp at e
        rcases e with rfl | rfl
        · exact World.block_lt_of_cell? _ _ c1
        · exact World.block_lt_of_cell? _ _ c2
      · rcases List.mem_cons.1 e with rfl | e
        · exact hA'.1
        · exact hr.lt j (by rw [ownV]; exact e)
  exact ⟨_, rfl, _, hjs, fun n hn => filtSeq n (by omega) q2 q3 fr g lb RL jsl _ a c ts w' heg c1 c2 ⟨hs, hA'⟩ (fun q hq => List.mem_append.2 (.inr (List.mem_append.2 (.inl hq)))) (fun j hj => List.mem_append.2 (.inl hj)) (fun j hj => List.mem_append.2 (.inr (List.mem_append.2 (.inr hj)))) hjs ((hL n hn).move (KeepB.ofKp k (by simp))) hRLl htl, k⟩
/-- What Project gives is an iterator of the values at these places. -/
theorem projSrc {g : Nat} {lb : Array Value} {ps : List Int} {w w' : World} {e : Ending} (h : ProjP g lb ps w e w') (m : Nat) (hm : 2 ≤ m) (fr : Bool) (RL : List (List Val)) (jsl : List Nat) (heg : ∀ args w, (callFunc g args).run Tryd.prog w = .ok (.enter g args) w) (hL : ∀ n, m ≤ n → RowSeq fr (n - 1) g lb RL jsl w) (hjl : ∀ j ∈ jsl, j < w.heap.size) (hRLl : ∀ l ∈ RL, l.length ≤ 1800000000000) (htl : ps.length ≤ 3000000000000) :
    ∃ lb', e = .returned (.func (.func 22) #[] lb') ∧ ∃ js, (∀ j ∈ js, j < w'.heap.size) ∧ (∀ n, m ≤ n → RowSeq true n 22 lb' (RL.flatMap (projF ps)) js w') ∧ Kp [] w w' := by
  obtain ⟨q2, q3, a, c, rfl, c1, c2, hr, k⟩ := h
  obtain ⟨a', c', e, hs, _⟩ := hr.see
  cases e
  have hjs : ∀ j ∈ jsl ++ ([q2, q3] ++ blk a), j < w'.heap.size := fun j hj => by
    rcases List.mem_append.1 hj with e | e
    · exact Nat.lt_of_lt_of_le (hjl j e) k.size
    · rcases List.mem_append.1 e with e | e
      · simp at e
        rcases e with rfl | rfl
        · exact World.block_lt_of_cell? _ _ c1
        · exact World.block_lt_of_cell? _ _ c2
      · exact hr.lt j (by rw [ownV]; exact e)
  exact ⟨_, rfl, _, hjs, fun n hn => projSeq n (by omega) q2 q3 fr g lb RL jsl _ a c ps w' heg c1 c2 hs (fun q hq => List.mem_append.2 (.inr (List.mem_append.2 (.inl hq)))) (fun j hj => List.mem_append.2 (.inl hj)) (fun j hj => List.mem_append.2 (.inr (List.mem_append.2 (.inr hj)))) hjs ((hL n hn).move (KeepB.ofKp k (by simp))) hRLl htl, k⟩
end Go.Proofs.YtfolkjjhlcjfgaaDoor
end

section
namespace Go.Proofs.YtfolkjjhlcjfgaaDoor
open Go.RowKit Go.Hay
attribute [local go_sem] Oper.semAt_some
set_option linter.unusedVariables false
set_option linter.unusedSimpArgs false

set_option maxHeartbeats 8000000 in
set_option maxRecDepth 100000 in
theorem rAtE (a : Option Addr) (c : Nat) (l : List Val) (n : Int) (w : World) (ha : Vals w a l) (hl : l.length ≤ 9223372036854775807) : Calls Tryd.prog 31 #[.slice a l.length c, .int .i64 n] w fun e w' => e = .returned (.agg #[.int .i64 (vAt l n).k, .bool (vAt l n).b, .int .i64 (vAt l n).n, .string (vAt l n).t]) ∧ Kp [] w w' := by
  obtain ⟨q, W1, eq, e1, b1, k1⟩ : ∃ q W1, w.heap.size = q ∧ w.alloc (.cells #[.int .i64 0, .bool false, .int .i64 0, .string ⟨#[]⟩] 42) = W1 ∧ Bn W1 q [.int .i64 0, .bool false, .int .i64 0, .string ⟨#[]⟩] ∧ Kp [] w W1 := ⟨_, _, rfl, rfl, Bn.new w _ _, (Kp.refl _ _).alloc _⟩
  have hset : ∀ (W : World) (v : Val), Bn W q [.int .i64 0, .bool false, .int .i64 0, .string ⟨#[]⟩] → Kp [] w W → ∃ W2, (((W.setCell ⟨q, 0, none⟩ (.int .i64 v.k)).setCell ⟨q, 1, none⟩ (.bool v.b)).setCell ⟨q, 2, none⟩ (.int .i64 v.n)).setCell ⟨q, 3, none⟩ (.string v.t) = W2 ∧ Bn W2 q [.int .i64 v.k, .bool v.b, .int .i64 v.n, .string v.t] ∧ Kp [] w W2 := fun W v b k =>
    have h : q ∈ ([] : List Nat) ∨ w.heap.size ≤ q := .inr (by omega)
    ⟨_, rfl, (((b.set 0 (by simp) (.int .i64 v.k)).set 1 (by simp) (.bool v.b)).set 2 (by simp) (.int .i64 v.n)).set 3 (by simp) (.string v.t), (((k.setCell h _).setCell h _).setCell h _).setCell h _⟩
  by_cases hin : 0 ≤ n ∧ n < (l.length : Int)
  · obtain ⟨i, rfl⟩ := Int.eq_ofNat_of_zero_le hin.1
    have hi : i < l.length := by omega
    rw [vAt_in l i hi]
    obtain ⟨g, o, rfl, c0, c1, c2, c3⟩ := (ha.kept k1).at i hi
    obtain ⟨v, hv⟩ : ∃ v, l[i] = v := ⟨_, rfl⟩
    rw [hv] at c0 c1 c2 c3 ⊢
    obtain ⟨W2, e2, b2, k2⟩ := hset W1 v b1 k1
    have m0 := b1.get 0 _ rfl; have m1 := b1.get 1 _ rfl; have m2 := b1.get 2 _ rfl; have m3 := b1.get 3 _ rfl
    have f0 := b1.free 0; have f1 := b1.free 1; have f2 := b1.free 2; have f3 := b1.free 3
    have v0 := b2.get 0 _ rfl; have v1 := b2.get 1 _ rfl; have v2 := b2.get 2 _ rfl; have v3 := b2.get 3 _ rfl
    obtain ⟨vk, vb, vn, vt⟩ := v
    dsimp only at *
    have d1 : decide ((i : Int) < 0) = false := by simp
    have d2 : decide ((l.length : Int) ≤ (i : Int)) = false := by simp; omega
    have d2n : decide (l.length ≤ i) = false := by simp; omega
    have d3 : (0 : Int) ≤ (i : Int) := by omega
    have d4 : (i : Int) < (l.length : Int) := by omega
    clear b1 b2 hset ha hv hin k1
    go_enter Tryd.func31, Tryd.ntmps31
    go_wp2_with fail
    exact bodyPost_ret (v := .agg #[.int .i64 vk, .bool vb, .int .i64 vn, .string vt]) (by simp [results, Tryd.results31, go_sem, v0, v1, v2, v3]) rfl ⟨rfl, k2⟩
  · rw [vAt_out l n hin]
    obtain ⟨W2, e2, b2, k2⟩ := hset W1 nulV b1 k1
    have m0 := b1.get 0 _ rfl; have m1 := b1.get 1 _ rfl; have m2 := b1.get 2 _ rfl; have m3 := b1.get 3 _ rfl
    have f0 := b1.free 0; have f1 := b1.free 1; have f2 := b1.free 2; have f3 := b1.free 3
    have v0 := b2.get 0 _ rfl; have v1 := b2.get 1 _ rfl; have v2 := b2.get 2 _ rfl; have v3 := b2.get 3 _ rfl
    dsimp only [nulV] at *
    by_cases h0 : n < 0
    · have d1 : decide (n < 0) = true := by simpa using h0
      clear b1 b2 k1 hset h0 hin
      go_enter Tryd.func31, Tryd.ntmps31
      go_wp2_with fail
      exact bodyPost_ret (v := .agg #[.int .i64 0, .bool false, .int .i64 0, .string ⟨#[]⟩]) (by simp [results, Tryd.results31, go_sem, v0, v1, v2, v3]) rfl ⟨rfl, k2⟩
    · have d1 : decide (n < 0) = false := by simpa using h0
      have d2 : decide ((l.length : Int) ≤ n) = true := by simp; omega
      clear b1 b2 k1 hset h0 hin
      go_enter Tryd.func31, Tryd.ntmps31
      go_wp2_with fail
      exact bodyPost_ret (v := .agg #[.int .i64 0, .bool false, .int .i64 0, .string ⟨#[]⟩]) (by simp [results, Tryd.results31, go_sem, v0, v1, v2, v3]) rfl ⟨rfl, k2⟩
set_option maxHeartbeats 8000000 in
set_option maxRecDepth 100000 in
theorem rPick (a : Option Addr) (c : Nat) (l : List Val) (pa : Option Addr) (pc : Nat) (ps : List Int) (w : World) (ha : Vals w a l) (hl : l.length ≤ 9223372036854775807) (hp : IntE.See w pa ps) (hpl : ps.length ≤ 3000000000000) :
    Calls Tryd.prog 24 #[.slice a l.length c, .slice pa ps.length pc] w (NewR (pickV l ps) w) := by
  have HA := hid ha
  have HP := hid hp
  have H0 : Hid (VE.Row w (.slice none 0 0) [] ∧ Kp [] w w ∧ ∀ k ∈ blk none, w.heap.size ≤ k) := ⟨.inl ⟨rfl, rfl⟩, Kp.refl _ _, by simp [blk]⟩
  clear ha hp
  go_enter Tryd.func24, Tryd.ntmps24
  go_wp2_with fail
  go_loopw [5, 6] (fun v5 i wr => ∃ (j : Nat) (ra : Option Addr) (rc : Nat) (m : List Val), j ≤ ps.length ∧ i = .int .i64 (j : Int) ∧ v5 = .slice ra m.length rc ∧ Hid (m = pickV l (ps.take j)) ∧ Hid (VE.Row wr (.slice ra m.length rc) m ∧ Kp [] w wr ∧ ∀ k ∈ blk ra, w.heap.size ≤ k)) (fun _ i _ => ps.length - (intOf i).toNat)
  case atStart => exact ⟨0, none, 0, [], Nat.zero_le _, rfl, rfl, rfl, H0⟩
  case round =>
    obtain ⟨j, ra, rc, m, hj, rfl, rfl, hm, H⟩ := hrel
    clear H0
    by_cases hlt : j < ps.length
    · obtain ⟨g, o, ea, c0⟩ := intAt HP.out j hlt
      have cg := kpAt H.out.2.1 c0
      have hpt := hid (pickV_take (l := l) hlt)
      obtain ⟨p, hp⟩ : ∃ p, Hid (ps[j] = p) := ⟨ps[j], rfl⟩
      rw [hp.out] at cg hpt
      have cA := hid (rAtE a c l p wr (HA.out.kept H.out.2.1) hl)
      obtain ⟨⟨vk, vb, vn, vt⟩, hv⟩ : ∃ v, Hid (vAt l p = v) := ⟨vAt l p, rfl⟩
      rw [hv.out] at cA hpt
      dsimp only at cA
      have hml : m.length ≤ 3000000000000 := by rw [hm.out]; unfold pickV; simp; omega
      have i1 : (0 : Int) ≤ (j : Int) := by omega
      have i2 : (j : Int) < (ps.length : Int) := by omega
      have i3 : (j : Int) + 1 ≤ 9223372036854775807 := by omega
      subst ea
      clear c0
      go_wp2_with fail
      refine cA.out.mono ?_
      rintro e wd ⟨rfl, kd⟩
      obtain ⟨a4, c4, W4, hrun, hr4, k4, hn4⟩ := appV1 (H.out.1.keptNew kd) ⟨vk, vb, vn, vt⟩ hml
      obtain ⟨m4, hm4⟩ : ∃ m4, Hid (m ++ [(⟨vk, vb, vn, vt⟩ : Val)] = m4) := ⟨_, rfl⟩
      rw [hm4.out] at hrun hr4
      dsimp only at hrun
      have kwd := H.out.2.1.trans kd (by simp)
      have HF : Hid (VE.Row W4 (.slice a4 m4.length c4) m4 ∧ Kp [] w W4 ∧ ∀ k ∈ blk a4, w.heap.size ≤ k) := ⟨hr4, kwd.trans k4 (fun x hx => .inr (H.out.2.2 x hx)), fun k hk => by
        rcases hn4 k hk with e | e
        · exact H.out.2.2 k e
        · have := kwd.size; omega⟩
      have hm5 : Hid (m4 = pickV l (ps.take (j + 1))) := by show _ = _; rw [hpt.out, ← hm.out, hm4.out]
      clear cA kd hr4 k4 hn4 kwd
      go_wp2_with (first | (refine wpAppRunY rfl _ _ 31 31 rfl _ _ _ rfl rfl hrun ?_) | fail)
      go_roundw
      case rel => exact ⟨j + 1, a4, c4, m4, by omega, by go_num, rfl, hm5, HF⟩
      case measure => simp [intOf]; omega
    · have hmm : m = pickV l ps := by rw [hm.out, show j = ps.length by omega, List.take_length]
      have dj1 : ¬ (j : Int) < (ps.length : Int) := by omega
      have dj2 : decide ((j : Int) < (ps.length : Int)) = false := by simp; omega
      subst hmm
      go_wp2_with fail
      go_ret
      exact ⟨ra, rc, rfl, H.out.1, H.out.2.1, H.out.2.2⟩
/-- One more row, behind others: the row itself is not copied. -/
theorem appVs1 {ra : Option Addr} {rc : Nat} {L : List Vs} {w : World} (h : VsE.Row w (.slice ra L.length rc) L) (x : Vs) (hl : L.length ≤ 4000000000000) :
    ∃ a' c' W', (Builtin.append_ #[22, 22] 22 #[.slice ra L.length rc, .slice (some ⟨w.heap.size, 0, none⟩) 1 1]).run Tryd.prog (w.alloc (.cells #[.slice x.a x.l.length x.c] 31)) = .ok (.slice a' (L ++ [x]).length c') W' ∧ VsE.Row W' (.slice a' (L ++ [x]).length c') (L ++ [x]) ∧ Kp (blk ra) w W' ∧ ∀ k ∈ blk a', k ∈ blk ra ∨ w.heap.size ≤ k := by
  obtain ⟨A1, hA1⟩ : ∃ A1, w.alloc (.cells #[.slice x.a x.l.length x.c] 31) = A1 := ⟨_, rfl⟩
  have kA1 : Kp [] w A1 := by rw [← hA1]; exact (Kp.refl _ _).alloc _
  have bx1 : Bn A1 w.heap.size (VsE.c x) := by rw [← hA1]; exact Bn.new w (VsE.c x) _
  have hs1 : VsE.See A1 (some ⟨w.heap.size, 0, none⟩) [x] := .inr ⟨w.heap.size, 0, rfl, fun j u hu => by rw [Nat.zero_add]; exact bx1.get j u (by simpa [El.cs] using hu)⟩
  obtain ⟨i0, hi, hz0', hz1', hz2'⟩ := infoVs
  have hsr := hs1.src (P := Tryd.prog) Tryd.underlying22 1
  obtain ⟨v', A2, hrun, hrow2, k2, hn2⟩ := run_appendG (E := VsE) (P := Tryd.prog) A1 22 22 22 31 i0 _ 24 Tryd.underlying22 hi hz0' hz1' hz2' rfl (.slice ra L.length rc) L (h.keptNew kA1) _ [x] hsr (by simp only [List.length_cons, List.length_nil]; omega) (by simp only [List.length_cons, List.length_nil]; omega)
  obtain ⟨a', c', rfl, _⟩ := hrow2.see
  simp only [ownV] at k2 hn2
  rw [hA1]
  have z1 := kA1.size
  exact ⟨a', c', A2, hrun, hrow2, (kA1.mono (by simp)).trans k2 (fun j hj => .inl hj), fun k hk => by
    rcases hn2 k hk with e | e
    · exact .inl e
    · exact .inr (by omega)⟩
/-- Rows that were gathered, and are somebody else's. -/
def RefP (L : List Vs) (w : World) (e : Ending) (w' : World) : Prop := ∃ a c, e = .returned (.slice a L.length c) ∧ VsE.Row w' (.slice a L.length c) L ∧ Kp [] w w' ∧ ∀ k ∈ blk a, w.heap.size ≤ k
theorem filter_snoc {α : Type} (p : α → Bool) (L : List α) (j : Nat) (hj : j < L.length) : (L.take (j + 1)).filter p = (L.take j).filter p ++ (if p L[j] then [L[j]] else []) := by
  rw [List.take_succ_eq_append_getElem hj, List.filter_append]
  by_cases h : p L[j] <;> simp [h]
set_option maxHeartbeats 8000000 in
set_option maxRecDepth 100000 in
theorem rFilter (a : Option Addr) (c : Nat) (L : List Vs) (ta : Option Addr) (tc : Nat) (ts : List Tm) (w : World) (hs : VsE.See w a L) (hx : ∀ x ∈ L, x.lies w) (ht : TmE.See w ta ts) (hl : L.length ≤ 4000000000000) (htl : ts.length ≤ 3000000000000) (hr : ∀ x ∈ L, x.l.length ≤ 1800000000000) :
    Calls Tryd.prog 8 #[.slice a L.length c, .slice ta ts.length tc] w (RefP (L.filter fun x => allT ts x.l) w) := by
  have HS := hid hs
  have HX := hid hx
  have HT := hid ht
  have HR := hid hr
  obtain ⟨pf, hpf⟩ : ∃ p, Hid ((fun x : Vs => allT ts x.l) = p) := ⟨_, rfl⟩
  rw [hpf.out]
  have H0 : Hid (VsE.Row w (.slice none 0 0) [] ∧ Kp [] w w ∧ ∀ k ∈ blk none, w.heap.size ≤ k) := ⟨.inl ⟨rfl, rfl⟩, Kp.refl _ _, by simp [blk]⟩
  clear hs hx ht hr
  go_enter Tryd.func8, Tryd.ntmps8
  go_wp2_with fail
  go_loopw [5, 6] (fun v5 i wr => ∃ (j : Nat) (ra : Option Addr) (rc : Nat) (m : List Vs), j ≤ L.length ∧ i = .int .i64 (j : Int) ∧ v5 = .slice ra m.length rc ∧ Hid (m = (L.take j).filter pf) ∧ Hid (VsE.Row wr (.slice ra m.length rc) m ∧ Kp [] w wr ∧ ∀ k ∈ blk ra, w.heap.size ≤ k)) (fun _ i _ => L.length - (intOf i).toNat)
  case atStart => exact ⟨0, none, 0, [], Nat.zero_le _, rfl, rfl, rfl, H0⟩
  case round =>
    obtain ⟨j, ra, rc, m, hj, rfl, rfl, hm, H⟩ := hrel
    clear H0
    by_cases hlt : j < L.length
    · have hxj : L[j]? = some L[j] := by simp [hlt]
      obtain ⟨g, o, ea, c0⟩ := vsAt HS.out hxj
      have cg := kpAt H.out.2.1 c0
      have hli := (HX.out L[j] (List.getElem_mem hlt)).ck (CK.ofKp H.out.2.1) (by simp)
      have hln := HR.out L[j] (List.getElem_mem hlt)
      have hsn := hid (filter_snoc pf L j hlt)
      have hpx : Hid (pf L[j] = allT ts L[j].l) := by show _ = _; rw [← hpf.out]
      obtain ⟨x, hx⟩ : ∃ x, Hid (L[j] = x) := ⟨L[j], rfl⟩
      rw [hx.out] at cg hli hln hsn hpx
      obtain ⟨xa, xc, xl⟩ := x
      dsimp only at cg hln hpx
      have hml : m.length ≤ 4000000000000 := by rw [hm.out]; have := List.length_filter_le pf (L.take j); simp at this; omega
      have cA := hid (rAll ta xa tc xc ts xl wr (ckSee (CK.ofKp H.out.2.1) HT.out (by simp)) (seeV.2 hli.see) (by omega) (by omega))
      have hli' := hid hli
      have i1 : (0 : Int) ≤ (j : Int) := by omega
      have i2 : (j : Int) < (L.length : Int) := by omega
      have i3 : (j : Int) + 1 ≤ 9223372036854775807 := by omega
      obtain ⟨B, hB⟩ : ∃ B, Hid (allT ts xl = B) := ⟨_, rfl⟩
      rw [hB.out] at cA hpx
      subst ea
      clear c0 hli hxj
      go_wp2_with fail
      refine cA.out.mono ?_
      rintro e wd ⟨rfl, kd⟩
      have KD := hid (H.out.2.1.trans kd (by simp))
      have cgd := kpAt kd cg
      have hrd := hid (H.out.1.keptNew kd)
      clear cA kd cg
      cases B with
      | true =>
        obtain ⟨a4, c4, W4, hrun, hr4, k4, hn4⟩ := appVs1 hrd.out ⟨xa, xc, xl⟩ hml
        obtain ⟨m4, hm4⟩ : ∃ m4, Hid (m ++ [(⟨xa, xc, xl⟩ : Vs)] = m4) := ⟨_, rfl⟩
        rw [hm4.out] at hrun hr4
        dsimp only at hrun
        have HF : Hid (VsE.Row W4 (.slice a4 m4.length c4) m4 ∧ Kp [] w W4 ∧ ∀ k ∈ blk a4, w.heap.size ≤ k) := ⟨hr4, KD.out.trans k4 (fun x hx => .inr (H.out.2.2 x hx)), fun k hk => by
          rcases hn4 k hk with e | e
          · exact H.out.2.2 k e
          · have := KD.out.size; omega⟩
        have hm5 : Hid (m4 = (L.take (j + 1)).filter pf) := by show _ = _; rw [hsn.out, hpx.out, ← hm4.out, hm.out]; rfl
        clear hr4 k4 hn4
        go_wp2_with (first | (refine wpAppRunY rfl _ _ 22 22 rfl _ _ _ rfl rfl hrun ?_) | fail)
        go_roundw
        case rel => exact ⟨j + 1, a4, c4, m4, by omega, by go_num, rfl, hm5, HF⟩
        case measure => simp [intOf]; omega
      | false =>
        have hm5 : Hid (m = (L.take (j + 1)).filter pf) := by show _ = _; rw [hsn.out, hpx.out, ← hm.out]; simp
        have HF : Hid (VsE.Row wd (.slice ra m.length rc) m ∧ Kp [] w wd ∧ ∀ k ∈ blk ra, w.heap.size ≤ k) := ⟨hrd.out, KD.out, H.out.2.2⟩
        go_wp2_with fail
        go_roundw
        case rel => exact ⟨j + 1, ra, rc, m, by omega, by go_num, rfl, hm5, HF⟩
        case measure => simp [intOf]; omega
    · have hmm : m = L.filter pf := by rw [hm.out, show j = L.length by omega, List.take_length]
      have dj1 : ¬ (j : Int) < (L.length : Int) := by omega
      have dj2 : decide ((j : Int) < (L.length : Int)) = false := by simp; omega
      have hmm' := hid hmm
      clear hmm
      go_wp2_with fail
      go_ret
      rw [← hmm'.out]
      exact ⟨ra, rc, rfl, H.out.1, H.out.2.1, H.out.2.2⟩
set_option maxHeartbeats 8000000 in
set_option maxRecDepth 100000 in
theorem rProject (a : Option Addr) (c : Nat) (L : List Vs) (pa : Option Addr) (pc : Nat) (ps : List Int) (w : World) (hs : VsE.See w a L) (hx : ∀ x ∈ L, x.lies w) (hp : IntE.See w pa ps) (hl : L.length ≤ 4000000000000) (hpl : ps.length ≤ 3000000000000) (hr : ∀ x ∈ L, x.l.length ≤ 1800000000000) :
    Calls Tryd.prog 10 #[.slice a L.length c, .slice pa ps.length pc] w (LotP ((L.map (·.l)).map fun l => pickV l ps) w) := by
  have HS := hid hs
  have HX := hid hx
  have HP := hid hp
  have HR := hid hr
  obtain ⟨pf, hpf⟩ : ∃ p, Hid ((fun x : Vs => pickV x.l ps) = p) := ⟨_, rfl⟩
  have hpe : (L.map (·.l)).map (fun l => pickV l ps) = L.map pf := by rw [List.map_map, ← hpf.out]; rfl
  rw [hpe]
  have H0 : Hid (Lot w.heap.size none 0 [] w ∧ Kp [] w w) := ⟨Lot.nil _ _, Kp.refl _ _⟩
  clear hs hx hp hr hpe
  go_enter Tryd.func10, Tryd.ntmps10
  go_wp2_with fail
  go_loopw [5, 6] (fun v5 i wr => ∃ (j : Nat) (ra : Option Addr) (rc : Nat) (m : List Vs), j ≤ L.length ∧ i = .int .i64 (j : Int) ∧ v5 = .slice ra m.length rc ∧ Hid (m.map (·.l) = (L.take j).map pf) ∧ Hid (Lot w.heap.size ra rc m wr ∧ Kp [] w wr)) (fun _ i _ => L.length - (intOf i).toNat)
  case atStart => exact ⟨0, none, 0, [], Nat.zero_le _, rfl, rfl, rfl, H0⟩
  case round =>
    obtain ⟨j, ra, rc, m, hj, rfl, rfl, hm, H⟩ := hrel
    clear H0
    by_cases hlt : j < L.length
    · have hxj : L[j]? = some L[j] := by simp [hlt]
      obtain ⟨g, o, ea, c0⟩ := vsAt HS.out hxj
      have cg := kpAt H.out.2 c0
      have hli := (HX.out L[j] (List.getElem_mem hlt)).ck (CK.ofKp H.out.2) (by simp)
      have hln := HR.out L[j] (List.getElem_mem hlt)
      have hsn : Hid ((L.take (j + 1)).map pf = (L.take j).map pf ++ [pf L[j]]) := by show _ = _; rw [List.take_succ_eq_append_getElem hlt, List.map_append]; rfl
      have hpx : Hid (pf L[j] = pickV L[j].l ps) := by show _ = _; rw [← hpf.out]
      obtain ⟨x, hx⟩ : ∃ x, Hid (L[j] = x) := ⟨L[j], rfl⟩
      rw [hx.out] at cg hli hln hsn hpx
      obtain ⟨xa, xc, xl⟩ := x
      dsimp only at cg hln hpx
      have hml : m.length ≤ 4000000000000 := by have := congrArg List.length hm.out; simp at this; omega
      have cA := hid (rPick xa xc xl pa pc ps wr hli.see (by omega) (ckSee (CK.ofKp H.out.2) HP.out (by simp)) hpl)
      have i1 : (0 : Int) ≤ (j : Int) := by omega
      have i2 : (j : Int) < (L.length : Int) := by omega
      have i3 : (j : Int) + 1 ≤ 9223372036854775807 := by omega
      obtain ⟨B, hB⟩ : ∃ B, Hid (pickV xl ps = B) := ⟨_, rfl⟩
      rw [hB.out] at cA hpx
      subst ea
      clear c0 hli hxj
      go_wp2_with fail
      refine cA.out.mono ?_
      rintro e wd ⟨ya, yc, rfl, hyr, kd, hyb⟩
      have KD := hid (H.out.2.trans kd (by simp))
      have hzs := KD.out.size
      have hld := H.out.1.ck (CK.ofKp kd) (by simp) (by simp)
      obtain ⟨a4, c4, W4, hrun, hl4, k4, hn4⟩ := hld.app ⟨ya, yc, B⟩ (rowLies hyr) (by omega) (fun k hk => ⟨by have := hyb k hk; have := H.out.2.size; omega, hyr.lt k (by rw [ownV]; exact hk), fun hm' => by have := hyb k hk; have := H.out.1.lt k hm'; omega⟩) hml
      obtain ⟨m4, hm4⟩ : ∃ m4, Hid (m ++ [(⟨ya, yc, B⟩ : Vs)] = m4) := ⟨_, rfl⟩
      rw [hm4.out] at hrun hl4
      dsimp only at hrun
      have HF : Hid (Lot w.heap.size a4 c4 m4 W4 ∧ Kp [] w W4) := ⟨hl4, KD.out.trans k4 (fun x hx => .inr (H.out.1.own x hx))⟩
      have hm5 : Hid (m4.map (·.l) = (L.take (j + 1)).map pf) := by show _ = _; rw [hsn.out, hpx.out, ← hm4.out, List.map_append, hm.out]; rfl
      clear cA kd hyr hyb hld hl4 k4 hn4 hzs
      go_wp2_with (first | (refine wpAppRunY rfl _ _ 22 22 rfl _ _ _ rfl rfl hrun ?_) | fail)
      go_roundw
      case rel => exact ⟨j + 1, a4, c4, m4, by omega, by go_num, rfl, hm5, HF⟩
      case measure => simp [intOf]; omega
    · have hmm : m.map (·.l) = L.map pf := by rw [hm.out, show j = L.length by omega, List.take_length]
      have dj1 : ¬ (j : Int) < (L.length : Int) := by omega
      have dj2 : decide ((j : Int) < (L.length : Int)) = false := by simp; omega
      have hmm' := hid hmm
      clear hmm
      go_wp2_with fail
      go_ret
      exact ⟨ra, rc, m, rfl, H.out.1, hmm'.out, H.out.2⟩
end Go.Proofs.YtfolkjjhlcjfgaaDoor
end

section
namespace Go.Proofs.YtfolkjjhlcjfgaaDoor
open Go.RowKit Go.Hay
attribute [local go_sem] Oper.semAt_some
set_option linter.unusedVariables false
set_option linter.unusedSimpArgs false

theorem filtEq (ts : List Tm) (L : List Vs) : (L.filter fun x => allT ts x.l).map (·.l) = (L.map (·.l)).flatMap (filtF ts) := by
  induction L with
  | nil => rfl
  | cons x L ih =>
    rw [List.map_cons, List.flatMap_cons, ← ih, filtF]
    by_cases h : allT ts x.l = true
    · rw [List.filter_cons_of_pos (by simpa using h), if_pos h]; rfl
    · rw [List.filter_cons_of_neg (by simpa using h), if_neg h]; rfl
theorem projEq (ps : List Int) (R : List (List Val)) : (R.map fun l => pickV l ps) = R.flatMap (projF ps) := by
  induction R with
  | nil => rfl
  | cons x R ih => rw [List.map_cons, List.flatMap_cons, ← ih]; rfl
theorem filtLen (ts : List Tm) (R : List (List Val)) : (R.flatMap (filtF ts)).length ≤ R.length ∧ ∀ l ∈ R.flatMap (filtF ts), l ∈ R := by
  refine ⟨?_, fun l hl => ?_⟩
  · induction R with
    | nil => simp
    | cons x R ih =>
      rw [List.flatMap_cons, List.length_append]
      have : (filtF ts x).length ≤ 1 := by unfold filtF; split <;> simp
      simp only [List.length_cons]
      omega
  · obtain ⟨x, hx, hm⟩ := List.mem_flatMap.1 hl
    unfold filtF at hm
    split at hm
    · rw [List.mem_singleton.1 hm]; exact hx
    · cases hm
theorem projLen (ps : List Int) (R : List (List Val)) : (R.flatMap (projF ps)).length = R.length ∧ ∀ l ∈ R.flatMap (projF ps), l.length = ps.length := by
  rw [← projEq]
  refine ⟨by simp, fun l hl => ?_⟩
  obtain ⟨x, hx, rfl⟩ := List.mem_map.1 hl
  simp [pickV]
set_option maxHeartbeats 16000000 in
set_option maxRecDepth 100000 in
theorem filtersWalk (a0 : Option Addr) (c0 : Nat) (L0 : List Vs) (a1 : Option Addr) (c1 : Nat) (ts : List Tm) (a2 : Option Addr) (c2 : Nat) (ps : List Int) (w : World) (hA : Asks w) (hs : VsE.See w a0 L0) (hx : ∀ x ∈ L0, x.lies w) (hl : L0.length ≤ 1048576) (hr : ∀ x ∈ L0, x.l.length ≤ 1048576) (ht : TmE.See w a1 ts) (htn : a1 = none → c1 = 0) (htl : ts.length ≤ 1048576) (hp : IntE.See w a2 ps) (hpn : a2 = none → c2 = 0) (hpl : ps.length ≤ 1048576) :
    Calls Tryd.prog 3 #[.slice a0 L0.length c0, .slice a1 ts.length c1, .slice a2 ps.length c2] w fun e w' => e = .returned (.bool true) ∧ Below w.heap.size w w' := by
  have HS : Hid (∀ W, Kp [] w W → VsE.See W a0 L0 ∧ (∀ x ∈ L0, x.lies W)) := fun W k => ⟨ckSee (CK.ofKp k) hs (by simp), fun x h => (hx x h).ck (CK.ofKp k) (by simp)⟩
  have HT : Hid (∀ W, Kp [] w W → TmE.See W a1 ts ∧ Asks W) := fun W k => ⟨ckSee (CK.ofKp k) ht (by simp), hA.kept k (by simp)⟩
  have HP : Hid (∀ W, Kp [] w W → IntE.See W a2 ps) := fun W k => ckSee (CK.ofKp k) hp (by simp)
  have hr' := hid hr
  obtain ⟨R0, hR0⟩ : ∃ R, Hid (L0.map (·.l) = R) := ⟨_, rfl⟩
  have hR0l : Hid (R0.length ≤ 1048576 ∧ ∀ l ∈ R0, l.length ≤ 1048576) := ⟨by rw [← hR0.out]; simpa using hl, fun l hm => by rw [← hR0.out] at hm; obtain ⟨x, hx', rfl⟩ := List.mem_map.1 hm; exact hr x hx'⟩
  have cC := hid (cCopied a0 c0 L0 w hs hx (by omega) (fun x h => by have := hr x h; omega))
  rw [hR0.out] at cC
  clear hs hx ht hA hp hr
  go_enter Tryd.func3, Tryd.ntmps3
  go_wp2_with fail
  refine cC.out.mono ?_
  rintro e w1 ⟨ra, rc, L, rfl, hlot, hL, k1⟩
  have hLn : L.length ≤ 4000000000000 := by have h1 := congrArg List.length hL; have h2 := hR0l.out.1; rw [List.length_map] at h1; omega
  have HL : Hid (∀ W, Kp [] w1 W → Lot w.heap.size ra rc L W) := fun W k => hlot.ck (CK.ofKp k) (by simp) (by simp)
  have hL' := hid hL
  have K1 := hid k1
  have cV := hid (cValuesE ra L.length rc w1)
  have src := hid (hlot.src hLn 22)
  rw [hL] at src
  clear cC hlot hL k1
  go_wp2_with fail
  refine cV.out.mono ?_
  rintro e w2 ⟨rfl, hw2⟩
  have k2 : Kp [] w1 w2 := by rw [hw2]; exact (Kp.refl _ _).alloc _
  rw [← hw2] at src
  obtain ⟨qa, hqa⟩ : ∃ q, Hid (w1.heap.size = q) := ⟨_, rfl⟩
  rw [hqa.out] at src ⊢
  have K2 := hid (K1.out.trans k2 (by simp))
  have K12 := hid k2
  have cF := hid (cFiltE 19 #[.pointer (some ⟨qa, 0, none⟩)] a1 c1 ts w2 (HT.out w2 K2.out).1 htn (by omega))
  clear cV hw2 k2
  go_wp2_with fail
  refine cF.out.mono ?_
  intro e w3 hF
  obtain ⟨lb1, rfl, js1, hj1, hsq1, k3⟩ := filtSrc hF 2 (by omega) false R0 _ heVal (fun n hn => src.out.1 (n - 1) (by omega)) src.out.2 (HT.out w2 K2.out).2 (fun l h => by have := hR0l.out.2 l h; omega) (by omega)
  have K3 := hid (K2.out.trans k3 (by simp))
  have K13 := hid (K12.out.trans k3 (by simp))
  have HQ := hid (And.intro hj1 hsq1)
  have cR := hid (rFilter a0 c0 L0 a1 c1 ts w3 (HS.out w3 K3.out).1 (HS.out w3 K3.out).2 (HT.out w3 K3.out).1 (by omega) (by omega) (fun x h => by have := hr'.out x h; omega))
  clear cF hF hj1 hsq1 k3 src
  go_wp2_with fail
  refine cR.out.mono ?_
  rintro e w4 ⟨ma, mc, rfl, hm, k4, hmn⟩
  have K4 := hid (K3.out.trans k4 (by simp))
  have K14 := hid (K13.out.trans k4 (by simp))
  obtain ⟨a', c', e', hms, _⟩ := hm.see
  cases e'
  have hfe := filtEq ts L0
  rw [hR0.out] at hfe
  have cT := hid (cTwice 4 (by omega) 16 lb1 (R0.flatMap (filtF ts)) js1 ma mc _ w4 heFilt (fun n hn => (HQ.out.2 (n - 1) (by omega)).move (KeepB.ofKp k4 (by simp))) (fun j hj => Nat.lt_of_lt_of_le (HQ.out.1 j hj) k4.size) (by have := (filtLen ts R0).1; have := hR0l.out.1; omega) (fun l h => by have := hR0l.out.2 l ((filtLen ts R0).2 l h); omega) hms (fun x h => (HS.out w4 K4.out).2 x (List.mem_filter.1 h).1) hfe)
  clear cR hm k4 hmn hms HQ hfe
  generalize (L0.filter fun x => allT ts x.l).length = mn at *
  go_wp2_with fail
  refine cT.out.mono ?_
  rintro e w5 ⟨rfl, k5⟩
  have K5 := hid (K4.out.trans k5 (by simp))
  have K15 := hid (K14.out.trans k5 (by simp))
  have cV := hid (cValuesE ra L.length rc w5)
  have src := hid ((HL.out w5 K15.out).src hLn 22)
  rw [hL'.out] at src
  clear cT k5
  go_wp2_with fail
  refine cV.out.mono ?_
  rintro e w6 ⟨rfl, hw6⟩
  have k6 : Kp [] w5 w6 := by rw [hw6]; exact (Kp.refl _ _).alloc _
  rw [← hw6] at src
  obtain ⟨qb, hqb⟩ : ∃ q, Hid (w5.heap.size = q) := ⟨_, rfl⟩
  rw [hqb.out] at src ⊢
  have K6 := hid (K5.out.trans k6 (by simp))
  have K16 := hid (K15.out.trans k6 (by simp))
  have cF := hid (cProjE 19 #[.pointer (some ⟨qb, 0, none⟩)] a2 c2 ps w6 (HP.out w6 K6.out) hpn (by omega))
  clear cV hw6 k6
  go_wp2_with fail
  refine cF.out.mono ?_
  intro e w7 hF
  obtain ⟨lb2, rfl, js2, hj2, hsq2, k7⟩ := projSrc hF 2 (by omega) false R0 _ heVal (fun n hn => src.out.1 (n - 1) (by omega)) src.out.2 (fun l h => by have := hR0l.out.2 l h; omega) (by omega)
  have K7 := hid (K6.out.trans k7 (by simp))
  have K17 := hid (K16.out.trans k7 (by simp))
  have HQ := hid (And.intro hj2 hsq2)
  have cR := hid (rProject a0 c0 L0 a2 c2 ps w7 (HS.out w7 K7.out).1 (HS.out w7 K7.out).2 (HP.out w7 K7.out) (by omega) (by omega) (fun x h => by have := hr'.out x h; omega))
  rw [hR0.out, projEq] at cR
  clear cF hF hj2 hsq2 k7 src
  go_wp2_with fail
  refine cR.out.mono ?_
  rintro e w8 ⟨ma2, mc2, M2, rfl, hm2, hM2, k8⟩
  have K8 := hid (K7.out.trans k8 (by simp))
  have K18 := hid (K17.out.trans k8 (by simp))
  obtain ⟨a', c', e', hms, _⟩ := hm2.row.see
  cases e'
  have cT := hid (cTwice 4 (by omega) 22 lb2 (R0.flatMap (projF ps)) js2 ma2 mc2 M2 w8 heProj (fun n hn => (HQ.out.2 (n - 1) (by omega)).move (KeepB.ofKp k8 (by simp))) (fun j hj => Nat.lt_of_lt_of_le (HQ.out.1 j hj) k8.size) (by have := (projLen ps R0).1; have := hR0l.out.1; omega) (fun l h => by have := (projLen ps R0).2 l h; omega) hms hm2.lies hM2)
  clear cR k8 hms HQ hm2 hM2
  go_wp2_with fail
  refine cT.out.mono ?_
  rintro e w9 ⟨rfl, k9⟩
  have K9 := hid (K8.out.trans k9 (by simp))
  have K19 := hid (K18.out.trans k9 (by simp))
  have cAl := hid (cAlive15 w9)
  clear cT k9
  go_wp2_with fail
  refine cAl.out.mono ?_
  rintro e w10 ⟨rfl, k10⟩
  have K10 := hid (K9.out.trans k10 (by simp))
  have K110 := hid (K19.out.trans k10 (by simp))
  have hl10 := HL.out w10 K110.out
  obtain ⟨a', c', e', hls, _⟩ := hl10.row.see
  cases e'
  have cS := hid (cSameAll ra a0 rc c0 L L0 w10 hls (HS.out w10 K10.out).1 hl10.lies (HS.out w10 K10.out).2 (by rw [hL'.out, hR0.out]) (by omega))
  clear cAl k10 hl10 hls
  go_wp2_with fail
  refine cS.out.mono ?_
  rintro e w11 ⟨rfl, k11⟩
  have K11 := hid (K10.out.trans k11 (by simp))
  clear cS k11
  go_wp2_with fail
  go_ret
  exact ⟨rfl, K11.out.below⟩
end Go.Proofs.YtfolkjjhlcjfgaaDoor
end

section
namespace Go.Proofs.YtfolkjjhlcjfgaaDoor
open Go.ChangeShapes Go.WideShapes Go.ChangeAt Go.RowKit Go.Hay
set_option linter.unusedVariables false
set_option linter.unusedSimpArgs false

theorem cellsYI : Tryd.prog.cellsOf 3 = 1 := by kernel_rfl
theorem bytesYI : Tryd.prog.bytesOf 3 = 8 := by kernel_rfl
section
variable {H : Type} {enc : TypeId × Value → H} {W : World} {a : Option Addr} {len cap : Nat} {d : DataW H} {ps : List MemPlace}
theorem openVlists (h : DataW.Trod enc Tryd.prog W 0 (fun _ => true) true 22 (.slice a len cap) d ps) :
    ∃ l : List Vs, len = l.length ∧ VsE.See W a l ∧ (∀ y ∈ l, y.lies W) ∧ l.length ≤ cap ∧ cap ≤ maxLen ∧ (a = none → cap = 0) ∧ (Fit 22 d → cap * 24 ≤ 140737488351232 ∧ ∀ y ∈ l, y.c * 40 ≤ 140737488351232) ∧ (l.map fun y => y.l.length).sum ≤ Rows.uptoBulk d ∧ cap + 1 ≤ Rows.uptoBulk d :=
  openEls VsE Tryd.underlying22 cellsVs 24 bytesVs (fun y => y.lies W) (fun y => y.c * 40 ≤ 140737488351232) (fun y => y.l.length) (fun fuel cs x hx hcs => by
    obtain ⟨v, rfl⟩ : ∃ v, cs = [v] := by
      match cs, hcs with
      | [v], _ => exact ⟨v, rfl⟩
    have hv : ∃ a len cap, v = .slice a len cap := by
      rcases Go.Deep.open_slice Tryd.underlying31 hx with ⟨hcs, _⟩ | ⟨a, len, cap, _, _, _, _, hcs, _⟩
      · exact ⟨none, 0, 0, by simpa using hcs⟩
      · exact ⟨_, _, _, by simpa using hcs⟩
    obtain ⟨a, len, cap, rfl⟩ := hv
    have ht : DataW.Trod enc Tryd.prog W 0 (fun _ => true) true 31 (.slice a len cap) x.1 x.2 := ⟨fuel, hx⟩
    obtain ⟨l, rfl, hs, _, hl, hm, hn, hf, _, hb⟩ := openXv ht
    exact ⟨⟨a, cap, l⟩, ⟨seeV.1 hs, hl, hm, hn⟩, rfl, fun h => (hf h).1, by simp only; omega⟩) h
theorem openInts (h : DataW.Trod enc Tryd.prog W 0 (fun _ => true) true 24 (.slice a len cap) d ps) :
    ∃ l : List Int, len = l.length ∧ IntE.See W a l ∧ (∀ y ∈ l, True) ∧ l.length ≤ cap ∧ cap ≤ maxLen ∧ (a = none → cap = 0) ∧ (Fit 24 d → cap * 8 ≤ 140737488351232 ∧ ∀ y ∈ l, True) ∧ (l.map fun _ => 0).sum ≤ Rows.uptoBulk d ∧ cap + 1 ≤ Rows.uptoBulk d :=
  openEls IntE Tryd.underlying24 cellsYI 8 bytesYI (fun _ => True) (fun _ => True) (fun _ => 0) (fun fuel cs x hx hcs => by
    obtain ⟨v, rfl⟩ : ∃ v, cs = [v] := by
      match cs, hcs with
      | [v], _ => exact ⟨v, rfl⟩
    obtain ⟨n, e, _, _⟩ := DataW.trod_int Tryd.underlying3 hx
    simp at e
    subst e
    exact ⟨n, trivial, rfl, fun _ => trivial, Nat.zero_le _⟩) h
theorem lenOfSum {L : List Vs} {n : Nat} (h : (L.map fun y => y.l.length).sum ≤ n) : ∀ x ∈ L, x.l.length ≤ n := by
  induction L with
  | nil => simp
  | cons y L ih =>
    simp at h
    intro x hx
    rcases List.mem_cons.1 hx with rfl | hx
    · omega
    · exact ih (by omega) x hx
end
end Go.Proofs.YtfolkjjhlcjfgaaDoor
end

section
namespace Go.Proofs.YtfolkjjhlcjfgaaDoor
open Go.ChangeShapes Go.WideShapes Go.ChangeAt Go.RowKit Go.Hay
set_option linter.unusedVariables false

set_option maxRecDepth 100000 in
theorem execFiltersContract (H : Type) (enc : TypeId × Value → H) (W : World) (base : Nat) (args : Array Value) (ds gs : List (DataW H)) (before : List MemPlace)
    (hval : ∀ (j : Nat) t v, Tryd.f3.params[j]? = some t → args[j]? = some v → Value.okWide Tryd.prog W .any base t v)
    (hW : DataW.Whole enc Tryd.prog Tryd.f3.params.toList Rows.execFiltersSpec.vars false W args.toList ds gs before)
    (hsz : (DataW.weightsEach Tryd.prog (Tryd.f3.params.toList ++ (Rows.OpenSpec.upto Rows.execFiltersSpec).bare.plain.varTypes Tryd.prog) (ds ++ gs)).all (· ≤ reachBytes) = true)
    (hk : Rows.uptoSmall H (ds ++ gs) = true)
    (hL : laidMetH Tryd.prog Rows.execFiltersUptoRow.laid W) :
    Calls Tryd.prog 3 args W fun e W' => ∃ v, e = .returned v ∧ Rows.execFiltersSpec.post enc Tryd.prog Tryd.f3 false true false false W args v W' := by
  have hW' := hW
  obtain ⟨p, q, hA0, hV, rfl, hfz, hnd⟩ := hW
  have hA : DataW.TrodAll enc Tryd.prog W 0 (fun _ => true) true Tryd.f3.params.toList args.toList ds p := hA0
  rw [Tryd.params3] at hA hval hsz
  obtain ⟨v0, vs0, d0, ds0, p0, q0, hargs, rfl, rfl, h0, r0⟩ := trodAll_cons hA
  obtain ⟨v1, vs1, d1, ds1, p1, q1, rfl, rfl, rfl, h1, r1⟩ := trodAll_cons r0
  obtain ⟨v2, vs2, d2, ds2, p2, q2, rfl, rfl, rfl, h2, r2⟩ := trodAll_cons r1
  obtain ⟨rfl, rfl, rfl⟩ := trodAll_nil r2
  obtain rfl : args = #[v0, v1, v2] := by cases args; simp_all
  obtain ⟨rfl, rfl⟩ := trodVars_none hV
  obtain ⟨a0, len0, cap0, rfl⟩ := okWide_slice Tryd.underlying22 (hval 0 22 v0 rfl rfl)
  have k0 := h0
  have lt0 : ∀ x ∈ p0, x.block < W.heap.size := by obtain ⟨m, hm⟩ := k0; exact DataW.trod_lt m _ _ _ hm
  obtain ⟨l0, rfl, hs0, hok0, hl0, hm0, hn0, hfit0, hbk0, hcp0⟩ := openVlists h0
  obtain ⟨hc0, hq0⟩ := hfit0 (List.all_eq_true.2 fun x hx => List.all_eq_true.1 hsz x (by simp [DataW.weightsEach]; first | exact .inl hx | exact .inr hx | exact .inr (.inl hx) | exact .inr (.inr hx) | exact hx))
  obtain ⟨a1, len1, cap1, rfl⟩ := okWide_slice Tryd.underlying23 (hval 1 23 v1 rfl rfl)
  have k1 := h1
  have lt1 : ∀ x ∈ p1, x.block < W.heap.size := by obtain ⟨m, hm⟩ := k1; exact DataW.trod_lt m _ _ _ hm
  obtain ⟨l1, rfl, hs1, hok1, hl1, hm1, hn1, hfit1, hbk1, hcp1⟩ := openTerms h1
  obtain ⟨hc1, hq1⟩ := hfit1 (List.all_eq_true.2 fun x hx => List.all_eq_true.1 hsz x (by simp [DataW.weightsEach]; first | exact .inl hx | exact .inr hx | exact .inr (.inl hx) | exact .inr (.inr hx) | exact hx))
  obtain ⟨a2, len2, cap2, rfl⟩ := okWide_slice Tryd.underlying24 (hval 2 24 v2 rfl rfl)
  have k2 := h2
  have lt2 : ∀ x ∈ p2, x.block < W.heap.size := by obtain ⟨m, hm⟩ := k2; exact DataW.trod_lt m _ _ _ hm
  obtain ⟨l2, rfl, hs2, hok2, hl2, hm2, hn2, hfit2, hbk2, hcp2⟩ := openInts h2
  obtain ⟨hc2, hq2⟩ := hfit2 (List.all_eq_true.2 fun x hx => List.all_eq_true.1 hsz x (by simp [DataW.weightsEach]; first | exact .inl hx | exact .inr hx | exact .inr (.inl hx) | exact .inr (.inr hx) | exact hx))
  have hbk := of_decide_eq_true hk
  simp only [List.append_nil, Rows.uptoBulkAll] at hbk
  clear hA0
  refine (filtersWalk a0 cap0 l0 a1 cap1 l1 a2 cap2 l2 W (table hL) hs0 hok0 (by omega) (fun x h => by have := lenOfSum hbk0 x h; omega) hs1 hn1 (by omega) hs2 hn2 (by omega)).mono fun e W' ⟨he, bel⟩ => ?_
  subst he
  exact ⟨_, rfl, _, _, _, [], _, [], hW', trodAll_mk1 (shut_bool Tryd.underlying4 _), (trodAll_cons_mk (Below.trod Tryd.laidOut (by kernel_rfl) (of_decide_eq_true (by kernel_rfl)) k0 bel lt0) (trodAll_cons_mk (Below.trod Tryd.laidOut (by kernel_rfl) (of_decide_eq_true (by kernel_rfl)) k1 bel lt1) (trodAll_cons_mk (Below.trod Tryd.laidOut (by kernel_rfl) (of_decide_eq_true (by kernel_rfl)) k2 bel lt2) trodAll_mk0))), rfl, bel.frame _, fun h => by cases h⟩

set_option maxRecDepth 100000 in
theorem execFiltersLifted (os : Os) (started : os.Started) (H : Type) (enc : TypeId × Value → H) (F : Stop.Interp) :
    ReturnsInHanded {} Tryd.checked os 3 .any ((Rows.OpenSpec.upto Rows.execFiltersSpec).preRow enc Tryd.prog Tryd.f3 Rows.execFiltersUptoRow.domain false Rows.execFiltersUptoRow.laid) (((Rows.OpenSpec.upto Rows.execFiltersSpec).at F).post enc Tryd.prog Tryd.f3 false true false false) := by
  refine returnsInHanded_of_row (C := Tryd.checked) (s := Rows.OpenSpec.upto Rows.execFiltersSpec) Tryd.own started (by kernel_rfl) Tryd.func3
    (witness_row_at (enc := enc) (C := Tryd.checked) false ({ World.holding Tryd.prog os ⟨#[], #[], []⟩ with heap := (World.holding Tryd.prog os ⟨#[], #[], []⟩).heap.modify 0 fun
      | .cells _ t frozen => .cells tabCells t frozen
      | o => o }) #[.slice none 0 0, .slice none 0 0, .slice none 0 0] rfl (by kernel_rfl) (by kernel_rfl) (by kernel_rfl)
      (OpenSpec.preRow_of_cond (x := ([.nil, .nil, .nil], [], [])) 8 (by kernel_rfl) (by kernel_rfl) (fun k hk => by cases hk; kernel_rfl) (by kernel_rfl) (laidMet_of_run' 8 (by kernel_rfl) (by kernel_rfl)))) ?_
  intro W base args ds gs before hval hW _ hcond hsz hL _ _
  exact execFiltersContract H enc W base args ds gs before hval hW hsz (hcond _ rfl) hL

theorem execFiltersSaid : Rows.ExecFiltersUptoSaid :=
  OpenClaim.holds_of_cond 3 Tryd.f3 rfl rfl rfl rfl rfl rfl rfl ⟨rfl, rfl, rfl, rfl, rfl⟩ rfl rfl rfl rfl rfl (by kernel_rfl) Tryd.func3 (by kernel_rfl)
    (of_decide_eq_true (by kernel_rfl)) (by unfold Func.isWrapper; first | (rw [if_pos (by decide +kernel)]; kernel_rfl) | (rw [if_neg (by decide +kernel)]; exact ⟨rfl, rfl⟩))
    (fun os started H enc _ F => by rw [OpenClaim.pre_eq_preRow]; exact execFiltersLifted os started H enc F)

theorem execFiltersPlain (f : FuncId) (fn : Func) (hf : Tryd.pinned.checked.prog.funcNamed "hayloft/hayloftlaw15.ExecFilters" = some f) (hfn : Tryd.pinned.checked.prog.funcs[f]? = some fn) :
    false = Tryd.pinned.checked.prog.looks [] ∧ ∀ (j : Nat) t, fn.params[j]? = some t → Tryd.pinned.checked.prog.wantsStandIn t = false := by
  obtain rfl : f = 3 := Option.some.inj ((show Tryd.prog.funcNamed "hayloft/hayloftlaw15.ExecFilters" = some 3 by kernel_rfl).symm.trans hf) |>.symm
  obtain rfl : fn = Tryd.f3 := (Option.some.inj (Tryd.func3.symm.trans hfn)).symm
  refine ⟨by kernel_rfl, fun j t ht => ?_⟩
  rw [Tryd.params3] at ht
  have hm := Array.mem_of_getElem? ht
  have h2 : t = 22 ∨ t = 23 ∨ t = 24 := by first | (simpa using hm) | (rcases (show t = 22 ∨ t = 23 ∨ t = 24 from by simpa using hm) with h | h | h <;> simp [h])
  rcases h2 with rfl | rfl | rfl
  · exact (show Tryd.prog.wantsStandIn 22 = false by kernel_rfl)
  · exact (show Tryd.prog.wantsStandIn 23 = false by kernel_rfl)
  · exact (show Tryd.prog.wantsStandIn 24 = false by kernel_rfl)

theorem ExecFilters_holds : Rows.ExecFiltersUptoCardSaid :=
  Claim7.holds_tied_plain_at .later [] _ _ _ _ execFiltersSaid (fun _ h => by cases h) (by kernel_rfl) (fun _ h => by cases h) execFiltersUpto_row_tie rfl ⟨rfl, rfl⟩ (by kernel_rfl) rfl execFiltersPlain (by kernel_rfl)
#print axioms ExecFilters_holds
end Go.Proofs.YtfolkjjhlcjfgaaDoor
end

/- block.All: how its iterator stands, what it may turn, what the rounds must leave alone. block.All's iterator. The reference's Head. The reference's facts. The reference's Read. The reference's Best; Copy; Can. block.All, and the reference's All. Who ranges over block.All: what he keeps. What a term says of a value: plain. What a head says of a term: the program's, the reference's; the law's term. What a head says of a term. A block's cells. Terms as plain values, and how they lie. -/
import Derived.Test.YtafcdckpicoppaaGreatDoorB14
import Derived.Test.YtafcdckpicoppaaGreatDoorB13
import Derived.Deep.RegionHeld3
import Derived.Test.YtafcdckpicoppaaGreatDoorB7
import Derived.Test.YtafcdckpicoppaaGreatDoorB12
import Derived.Test.YtafcdckpicoppaaGreatDoorB2
import Derived.Test.YtafcdckpicoppaaGreatDoorB3
section
namespace Go.Proofs.YtafcdckpicoppaaGreatDoor
open Go.RowKit Go.Hay
set_option linter.unusedVariables false
set_option linter.unusedSimpArgs false

/-- The values of blocks that stand one behind the other. -/
def allF : Nat → List UInt8 → List Val
  | 0, _ => []
  | f + 1, bs => if bs = [] ∨ (rdR bs).2.2 ≠ 0 then [] else (rdR bs).1 ++ allF f (bs.drop (rdR bs).2.1)
def allV (bs : List UInt8) : List Val := allF bs.length bs
theorem allF_more : ∀ (f g : Nat) (bs : List UInt8), bs.length ≤ f → bs.length ≤ g → allF f bs = allF g bs
  | 0, 0, _, _, _ => rfl
  | 0, g + 1, bs, h, _ => by
    have e : bs = [] := List.eq_nil_of_length_eq_zero (by omega)
    rw [e]; simp [allF]
  | f + 1, 0, bs, _, h => by
    have e : bs = [] := List.eq_nil_of_length_eq_zero (by omega)
    rw [e]; simp [allF]
  | f + 1, g + 1, bs, h1, h2 => by
    unfold allF
    by_cases hc : bs = [] ∨ (rdR bs).2.2 ≠ 0
    · rw [if_pos hc, if_pos hc]
    · rw [if_neg hc, if_neg hc]
      have hz : (rdR bs).2.2 = 0 := Classical.byContradiction fun h => hc (.inr h)
      have hn := rdR_n (bs := bs) (l := (rdR bs).1) (n := (rdR bs).2.1) (by rw [← hz])
      rw [allF_more f g (bs.drop (rdR bs).2.1) (by rw [List.length_drop]; omega) (by rw [List.length_drop]; omega)]
theorem allV_end {bs : List UInt8} (h : bs = [] ∨ (rdR bs).2.2 ≠ 0) : allV bs = [] := by
  unfold allV
  cases e : bs.length with
  | zero => rfl
  | succ f => unfold allF; rw [if_pos h]
theorem allV_step {bs : List UInt8} {l : List Val} {n : Nat} (h : rdR bs = (l, n, 0)) : allV bs = l ++ allV (bs.drop n) := by
  have hn := rdR_n h
  have hne : ¬ (bs = [] ∨ (rdR bs).2.2 ≠ 0) := by
    rw [h]
    rintro (e | e)
    · rw [e] at hn; simp at hn; omega
    · exact e rfl
  unfold allV
  cases e : bs.length with
  | zero => omega
  | succ f =>
    conv => lhs; unfold allF
    rw [if_neg hne, h]
    dsimp only
    rw [allF_more f (bs.drop n).length (bs.drop n) (by rw [List.length_drop]; omega) (Nat.le_refl _)]
/-- What is given: a number, and a value. -/
structure Gv where
  i : Nat
  v : Val
abbrev encV (x : Gv) : Array Value := #[.int .i64 (x.i : Int), .agg #[.int .i64 x.v.k, .bool x.v.b, .int .i64 x.v.n, .string x.v.t]]
/-- How it stands: whether its memory is made, from which block on its records lie, its number's block, which blocks the rounds leave alone, how many values were given. -/
structure Sa where
  made : Bool
  B0 : Nat
  qn : Nat
  js : List Nat
  i : Nat
def Sa.nx (s : Sa) (x : Gv) : Sa := { s with i := s.i + 1 }
/-- What the iterator's own step may turn: new memory, records that hold no cells, from B0 on, and its number. -/
structure TurnA (B0 qn : Nat) (A B : World) : Prop where
  os : B.os = A.os
  tape : B.tape = A.tape
  output : B.output = A.output
  size : A.heap.size ≤ B.heap.size
  block : ∀ k, k < A.heap.size → B.heap[k]? = A.heap[k]? ∨ k = qn ∨ (B0 ≤ k ∧ ∃ o : Obj, A.heap[k]? = some o ∧ o.isCells = false)
theorem TurnA.ofKp {B0 qn : Nat} {A B : World} (h : Kp [] A B) : TurnA B0 qn A B := ⟨h.os, h.tape, h.output, h.size, fun k hk => .inl (h.block k hk (by simp))⟩
theorem TurnA.ofKpq {B0 qn : Nat} {A B : World} (h : Kp [qn] A B) : TurnA B0 qn A B := ⟨h.os, h.tape, h.output, h.size, fun k hk => by
  by_cases e : k = qn
  · exact .inr (.inl e)
  · exact .inl (h.block k hk (by simpa using e))⟩
theorem TurnA.ofGrown {B0 qn : Nat} {A B : World} {row : Option Nat} (h : A.grownBy B row) (hr : ∀ r, row = some r → B0 ≤ r ∧ ∃ o : Obj, A.heap[r]? = some o ∧ o.isCells = false) : TurnA B0 qn A B :=
  ⟨h.os, h.tape, h.output, h.size, fun k hk => by
    by_cases e : row = some k
    · exact .inr (.inr (hr k e))
    · exact .inl (h.block k hk (fun e' => e e'.symm))⟩
/-- The iterator's own step. -/
structure StepA (s s' : Sa) (A B : World) : Prop where
  turn : TurnA s'.B0 s'.qn A B
  stays : s.made = true → s'.made = true ∧ s'.B0 = s.B0 ∧ s'.qn = s.qn
  makes : s.made = false → s'.made = true ∧ A.heap.size ≤ s'.B0 ∧ A.heap.size ≤ s'.qn
  js : ∀ j ∈ s'.js, j ∈ s.js ∨ (A.heap.size ≤ j ∧ j < B.heap.size)
  on : s'.i = s.i
theorem StepA.same {s : Sa} {A B : World} (hm : s.made = true) (ht : TurnA s.B0 s.qn A B) : StepA s s A B :=
  ⟨ht, fun _ => ⟨hm, rfl, rfl⟩, fun h => (by rw [hm] at h; cases h), fun j hj => .inl hj, rfl⟩
/-- What the iterator may turn behind its end. -/
def StepAX (s : Sa) (A B : World) : Prop := s.made = true ∧ TurnA s.B0 s.qn A B
/-- What the rounds leave alone: the blocks js, and every record from B0 on. -/
structure KeepA (s : Sa) (A B : World) : Prop where
  js : KeepB s.js A B
  recs : s.made = true → ∀ (k : Nat) (o : Obj), s.B0 ≤ k → A.heap[k]? = some o → o.isCells = false → B.heap[k]? = some o
theorem KeepA.trans {s : Sa} {A B C : World} (h : KeepA s A B) (k : KeepA s B C) : KeepA s A C :=
  ⟨h.js.trans k.js, fun hm j o hj ho hc => k.recs hm j o hj (h.recs hm j o hj ho hc) hc⟩
theorem KeepA.refl (s : Sa) (A : World) : KeepA s A A := ⟨KeepB.refl _ _, fun _ _ _ _ h _ => h⟩
end Go.Proofs.YtafcdckpicoppaaGreatDoor
end

section
namespace Go.Proofs.YtafcdckpicoppaaGreatDoor
open Go.RowKit Go.Hay
attribute [local go_sem] Oper.semAt_some
set_option linter.unusedVariables false
set_option linter.unusedSimpArgs false

theorem roomB_of_none {F : Fence} (hd : F.depth = none) (k : Nat) : F.room k := fun d h => by rw [hd] at h; cases h
theorem RoundIn.anyDepthB {F : Fence} (hd : F.depth = none) {m m' : Nat} {P : Program} {l : Nat} {f : FuncId} {tmps : Array Value} {assign body : Code} {w : World} {R : Ending → World → Prop}
    (h : RoundIn F m P l f tmps assign body w R) : RoundIn F m' P l f tmps assign body w R := ⟨h.1, fun c cs _ => h.2 c cs (roomB_of_none hd _)⟩
theorem cLists (a : Option Addr) (n c : Nat) (w : World) : Calls Tryz.prog 25 #[.slice a n c] w fun e w' => e = .returned (.func (.func 43) #[] #[.pointer (some ⟨w.heap.size, 0, none⟩)]) ∧ w' = w.alloc (.cells #[.slice a n c] 28) := by
  go_enter Tryz.func25, Tryz.ntmps25
  go_wp2_with fail
  go_returns
  exact ⟨by simp, rfl⟩
theorem grownCell {X Y : World} {row : Option Nat} (hg : X.grownBy Y row) (hr : ∀ r, row = some r → ∃ o : Obj, X.heap[r]? = some o ∧ o.isCells = false) {p : Addr} {v : Value} (hc : X.cell? p = some v) : Y.cell? p = some v ∧ Y.frozen? p = X.frozen? p := by
  have hl := World.block_lt_of_cell? _ _ hc
  obtain ⟨o, ho⟩ : ∃ o, X.heap[p.block]? = some o := ⟨X.heap[p.block], by simp [hl]⟩
  have hoc : o.isCells = true := by
    unfold World.cell? at hc
    rw [ho] at hc
    cases o <;> simp_all [Obj.isCells]
  have e : Y.heap[p.block]? = X.heap[p.block]? := hg.block p.block hl (fun e => by
    obtain ⟨o', h1, h2⟩ := hr p.block e.symm
    rw [ho] at h1
    cases h1
    rw [hoc] at h2
    cases h2)
  exact ⟨(World.cell?_of_block e).trans hc, World.frozen?_of_block e⟩
theorem valsMap {X Y : World} {a : Option Addr} {l : List Val} (h : Vals X a l) (hc : ∀ p v, X.cell? p = some v → Y.cell? p = some v) : Vals Y a l := by
  rcases h with e | ⟨g, o, e, h⟩
  · exact .inl e
  · refine .inr ⟨g, o, e, fun j y hy => ?_⟩
    obtain ⟨h0, h1, h2, h3⟩ := h j y hy
    exact ⟨hc _ _ h0, hc _ _ h1, hc _ _ h2, hc _ _ h3⟩
theorem valsKeep {X Y : World} {a : Option Addr} {l : List Val} {js : List Nat} (h : Vals X a l) (hk : KeepB js X Y) (hj : ∀ k ∈ blk a, k ∈ js) : Vals Y a l := by
  rcases h with e | ⟨g, o, e, h⟩
  · exact .inl e
  · subst e
    have hg : g ∈ js := hj g (by simp [blk])
    refine .inr ⟨g, o, rfl, fun j y hy => ?_⟩
    obtain ⟨h0, h1, h2, h3⟩ := h j y hy
    exact ⟨hk.cell hg h0, hk.cell hg h1, hk.cell hg h2, hk.cell hg h3⟩
theorem KeepB.alloc (Js : List Nat) (W : World) (o : Obj) : KeepB Js W (W.alloc o) := ⟨by simp, fun k _ o' ho => (Below.heap_alloc W o k (Array.getElem?_eq_some_iff.1 ho).1).trans ho⟩
theorem KeepB.putObj {Js : List Nat} {B : Nat} (hB : ∀ j ∈ Js, j < B) (W : World) (l : Nat) (o' : Obj) (hl : B ≤ l) : KeepB Js W (W.putObj l o') :=
  ⟨by simp, fun k hk o'' h'' => (World.putObj_heap_other (by have := hB k hk; omega)).trans h''⟩
theorem allF_len : ∀ (f : Nat) (bs : List UInt8), (allF f bs).length ≤ 64 * bs.length
  | 0, bs => by simp [allF]
  | f + 1, bs => by
    unfold allF
    by_cases hc : bs = [] ∨ (rdR bs).2.2 ≠ 0
    · rw [if_pos hc]; simp
    · rw [if_neg hc]
      have hz : (rdR bs).2.2 = 0 := Classical.byContradiction fun h => hc (.inr h)
      obtain ⟨i, s, _, h2, _, _, h5, _, h7⟩ := rdR_put (bs := bs) (l := (rdR bs).1) (n := (rdR bs).2.1) (by rw [← hz])
      have h64 := (refE_ok h2).2.1
      have := allF_len f (bs.drop (rdR bs).2.1)
      rw [List.length_drop] at this
      rw [List.length_append]
      omega
theorem allV_len (bs : List UInt8) : (allV bs).length ≤ 64 * bs.length := allF_len _ _
/-- What the inner range keeps. -/
structure InA (bs : List UInt8) (J : Sa → World → Prop) (B0 qy qn : Nat) (js0 : List Nat) (ly : Nat) (Z : Nat) (s : Ls) (W : World) : Prop where
  all : ∃ js i, J ⟨true, B0, qn, js, i⟩ W ∧ (∀ j ∈ js0, j ∈ js) ∧ W.cell? ⟨qy, 0, none⟩ = some (.func (.yield ly) #[] #[]) ∧ W.cell? ⟨qn, 0, none⟩ = some (.int .i64 (i : Int)) ∧ W.frozen? ⟨qn, 0, none⟩ = false ∧ (allV bs).drop i = allV (bs.drop s.d) ∧ i ≤ (allV bs).length ∧ Z ≤ W.heap.size ∧
    ∀ x, s.v = some x → Vals W x.a x.l ∧ x.l.length ≤ x.c ∧ x.c ≤ maxLen ∧ ∀ k ∈ blk x.a, k ∈ js ∧ Z ≤ k
set_option maxHeartbeats 32000000 in
set_option maxRecDepth 100000 in
theorem allSeq (d : Nat) (hd : 4 ≤ d) (qb : Nat) (a : Option Addr) (c : Nat) (bs : List UInt8) (hl : bs.length ≤ c) (hm : c ≤ maxLen) (hb : bs.length ≤ 200000000000000) (w : World) (hA : AtL qb a c bs w) :
    SeqX Fence.wide d Tryz.prog 24 #[.pointer (some ⟨qb, 0, none⟩)] encV StepA StepAX KeepA (fun s x => x.i = s.i ∧ (allV bs)[s.i]? = some x.v) Sa.nx (fun s => s.made = true ∧ s.i = (allV bs).length) (fun _ => True) ⟨false, 0, 0, 1 :: qb :: bk a bs, 0⟩ w := by
  intro ly J Jx W hW hT hX hY h0
  have hAW := hA.kept hW.js
  obtain ⟨W1, hW1⟩ : ∃ W1, W.alloc (.cells #[.func (.yield ly) #[] #[]] 61) = W1 := ⟨_, rfl⟩
  obtain ⟨W2z, hW2z⟩ : ∃ W2, W1.alloc (.cells #[.int .i64 0] 3) = W2 := ⟨_, rfl⟩
  have hz1 : W1.heap.size = W.heap.size + 1 := by rw [← hW1]; simp
  obtain ⟨W2, hW2⟩ : ∃ W2, W2z.setCell ⟨W.heap.size + 1, 0, none⟩ (.int .i64 0) = W2 := ⟨_, rfl⟩
  have k1 : Kp [] W W1 := by rw [← hW1]; exact (Kp.refl _ _).alloc _
  have n2z : W2z.cell? ⟨W.heap.size + 1, 0, none⟩ = some (.int .i64 0) := by rw [← hW2z, ← hz1]; exact World.cell?_alloc_new W1 _ _ 0
  have f2z : W2z.frozen? ⟨W.heap.size + 1, 0, none⟩ = false := by rw [← hW2z, ← hz1]; exact World.frozen?_alloc_new W1 _ _ 0
  have k2 : Kp [] W1 W2 := by
    have kz : Kp [] W1 W2z := by rw [← hW2z]; exact (Kp.refl _ _).alloc _
    rw [← hW2]
    exact kz.setCell (.inr (by show W1.heap.size ≤ W.heap.size + 1; omega)) _
  have k02 := k1.trans k2 (by simp)
  have hz2 : W2.heap.size = W.heap.size + 2 := by rw [← hW2, ← hW2z]; simp [World.setCell, hz1]
  have y1 : W1.cell? ⟨W.heap.size, 0, none⟩ = some (.func (.yield ly) #[] #[]) := by rw [← hW1]; exact World.cell?_alloc_new W _ _ 0
  have y2 := kpAt k2 y1
  have n2 : W2.cell? ⟨W.heap.size + 1, 0, none⟩ = some (.int .i64 0) := by rw [← hW2]; exact World.cell?_setCell_same _ _ _ n2z
  have f2 : W2.frozen? ⟨W.heap.size + 1, 0, none⟩ = false := by rw [← hW2, World.frozen?_setCell]; exact f2z
  have hbx : W2.cell? ⟨qb, 0, none⟩ = some (.slice a bs.length c) := kpAt k02 hAW.box
  have cL := cLists a bs.length c W2
  refine callsIn_of_wp_marks Tryz.func24 rfl trivial ?_ rfl
  simp only [Tryz.ntmps24, List.size_toArray, List.length_cons, List.length_nil, Nat.reduceAdd, Nat.reduceSub, Array.replicate_succ, Array.replicate_zero, List.push_toArray, List.append_toArray, List.nil_append, List.cons_append]
  refine wpIn_wide.2 ?_
  have hz1' := hid hz1
  have hz2' := hid hz2
  have HK := hid (And.intro k02 (And.intro y2 (And.intro n2 f2)))
  have hAW' := hid hAW
  clear hz2 k1 k2 k02 y1 y2 n2 f2 hAW hA hW
  go_wp2_with fail
  refine cL.mono ?_
  rintro e W3 ⟨rfl, hW3⟩
  have kk := HK.out.1
  have k3 : Kp [] W2 W3 := by rw [hW3]; exact (Kp.refl _ _).alloc _
  have kW3 := kk.trans k3 (by simp)
  have hz3 : W3.heap.size = W.heap.size + 3 := by rw [hW3]; simp [hz2'.out]
  obtain ⟨q, hq⟩ : ∃ q, Hid (W2.heap.size = q) := ⟨_, rfl⟩
  have hqz : q = W.heap.size + 2 := by rw [← hq.out]; exact hz2'.out
  have bx3 : W3.cell? ⟨q, 0, none⟩ = some (.slice a bs.length c) := by rw [hW3, ← hq.out]; exact World.cell?_alloc_new W2 _ _ 0
  have hAt : AtL q a c bs W3 := ⟨bx3, hAW'.out.sees.kept kW3 (by simp), hAW'.out.tab.kept kW3 (by simp)⟩
  have y3 := kpAt k3 HK.out.2.1
  have n3 := kpAt k3 HK.out.2.2.1
  have f3 : W3.frozen? ⟨W.heap.size + 1, 0, none⟩ = false := (k3.frozen (p := ⟨W.heap.size + 1, 0, none⟩) (by show W.heap.size + 1 < W2.heap.size; have := hz2'.out; omega) (by simp)).trans HK.out.2.2.2
  obtain ⟨B0, hB0⟩ : ∃ B0, Hid (B0 = W3.heap.size) := ⟨_, rfl⟩
  obtain ⟨js0, hjs⟩ : ∃ js, Hid (js = W.heap.size :: (W.heap.size + 1) :: 1 :: q :: bk a bs) := ⟨_, rfl⟩
  have hGw : 1 < W.heap.size := hAW'.out.tab.1
  have hblk : ∀ k ∈ bk a bs, k < W.heap.size := fun k hk => by
    unfold bk at hk
    by_cases hbs : bs = []
    · rw [if_pos hbs] at hk; simp at hk
    · rw [if_neg hbs] at hk
      exact hAW'.out.sees.lt hbs k hk
  have hJ3 : J ⟨true, B0, W.heap.size + 1, js0, 0⟩ W3 := hT _ _ _ _ h0 ⟨TurnA.ofKp kW3, fun h => (by cases h), fun _ => ⟨rfl, by rw [hB0.out]; exact kW3.size, Nat.le_succ _⟩, fun j hj => by
    rw [hjs.out] at hj
    simp only [List.mem_cons] at hj ⊢
    rcases hj with rfl | rfl | rfl | rfl | hj
    · right; omega
    · right; omega
    · left; left; rfl
    · right; omega
    · left; right; right; exact hj, rfl⟩
  have hlo : ∀ j ∈ 1 :: q :: bk a bs, j < W3.heap.size := fun j hj => by
    simp only [List.mem_cons] at hj
    rcases hj with rfl | rfl | hj
    · omega
    · omega
    · have := hblk j hj; omega
  clear cL hW3
  go_wp2_with fail
  refine (wpIn_wide (n := d)).1 ?_
  have hseq := listsSeq (d - 1) (by omega) q a c bs hl hm hb W3 hAt
  refine wpRangeS rfl (by omega) (gf := 43) (lb := #[.pointer (some ⟨q, 0, none⟩)]) (by rw [← hq.out]; rfl) trivial (enters_of Tryz.func43 (by kernel_rfl) rfl)
    hseq (fun _ => rfl) KeepB.trans (fun s => KeepB.alloc _) (fun s W l o o' hl ho hc _ => KeepB.putObj (B := W3.heap.size) hlo W l o' hl) (KeepB.refl _ _) (fun s s' A B ht k o _ ho _ _ => (ht.kp.block k (Array.getElem?_eq_some_iff.1 ho).1 (by simp)).trans ho)
    (InA bs J B0 W.heap.size (W.heap.size + 1) js0 ly W3.heap.size)
    (fun c s W' => c = .ret ∧ ∃ s : Sa, s.made = true ∧ s.B0 = B0 ∧ s.qn = W.heap.size + 1 ∧ Jx s W')
    ?hI ?hIx ?hIT ⟨js0, 0, hJ3, fun j h => h, y3, n3, f3, rfl, Nat.zero_le _, Nat.le_refl _, fun x hx => (by cases hx)⟩
    (fun x => { tmps := #[.func (.yield ly) #[] #[], .pointer (some ⟨qb, 0, none⟩), .pointer (some ⟨W.heap.size, 0, none⟩), .pointer (some ⟨W.heap.size + 1, 0, none⟩), .slice x.a x.l.length x.c, undef, undef, .slice a bs.length c, .func (.func 43) #[] #[.pointer (some ⟨W2.heap.size, 0, none⟩)], .slice x.a x.l.length x.c, undef, undef, undef, undef, undef, undef, undef, undef, undef, undef, undef, undef, undef, undef], defers := [] })
    ?assign ?body ?done ?stop
  case hI =>
    rintro s X Y row ⟨js, i, hJ, hjj, hy, hn, hf, hdr, hi, hz, hv⟩ hg hr
    have hrc : ∀ r, row = some r → ∃ o : Obj, X.heap[r]? = some o ∧ o.isCells = false := fun r e => (hr r e).2
    refine ⟨js, i, hT _ _ _ _ hJ (StepA.same rfl (TurnA.ofGrown hg (fun r e => by have := hr r e; simp only; rw [hB0.out]; exact this))), hjj, (grownCell hg hrc hy).1, (grownCell hg hrc hn).1, (grownCell hg hrc hn).2.trans hf, hdr, hi, Nat.le_trans hz hg.size, fun x hx => ?_⟩
    obtain ⟨h1, h2⟩ := hv x hx
    exact ⟨valsMap h1 (fun p v hc => (grownCell hg hrc hc).1), h2⟩
  case hIx =>
    rintro c s X Y row ⟨hc, s', hm', hs0, hsn, hJ⟩ hg hr
    exact ⟨hc, s', hm', hs0, hsn, hX _ _ _ hJ ⟨hm', TurnA.ofGrown hg (fun r e => by have := hr r e; rw [hs0, hB0.out]; exact this)⟩⟩
  case hIT =>
    rintro s s' A B ⟨js, i, hJ, hjj, hy, hn, hf, hdr, hi, hz, hv⟩ ht
    have hk := ht.kp
    have hfr : B.frozen? ⟨W.heap.size + 1, 0, none⟩ = false := (hk.frozen (World.block_lt_of_cell? _ _ hn) (by simp)).trans hf
    rcases ht.given with e | ⟨x, e, hrd, hrow, hnew⟩
    · exact ⟨js, i, hT _ _ _ _ hJ (StepA.same rfl (TurnA.ofKp hk)), hjj, kpAt hk hy, kpAt hk hn, hfr, by rw [ht.same]; exact hdr, hi, Nat.le_trans hz hk.size, fun x hx => (by rw [e] at hx; cases hx)⟩
    · obtain ⟨hv1, hl1, hm1⟩ := rowVals hrow
      refine ⟨blk x.a ++ js, i, hT _ _ _ _ hJ ⟨TurnA.ofKp hk, fun _ => ⟨rfl, rfl, rfl⟩, fun h => (by cases h), fun j hj => ?_, rfl⟩, fun j hj => by simp [hjj j hj], kpAt hk hy, kpAt hk hn, hfr, by rw [ht.same]; exact hdr, hi, Nat.le_trans hz hk.size, fun x' hx' => ?_⟩
      · simp only [List.mem_append] at hj
        rcases hj with hj | hj
        · right
          exact ⟨hnew j hj, hrow.lt j (by rw [ownS]; exact hj)⟩
        · left; exact hj
      · rw [e] at hx'
        injection hx' with hx'
        subst hx'
        exact ⟨hv1, hl1, hm1, fun k hk' => ⟨by simp [hk'], Nat.le_trans hz (hnew k hk')⟩⟩
  case assign =>
    intro l x W C hC
    gi_wp2_with fail
    exact hC
  case body =>
    rintro l s ⟨xa, xc, xl, xn⟩ A ⟨js, i, hJ, hjj, hy, hn, hf, hdr, hi, hz, hv⟩ ⟨hsv, hrd⟩
    obtain ⟨hvl, hlc, hmc, hbl⟩ := hv _ hsv
    simp only at *
    have hall := allV_step hrd
    have hlen : i + xl.length ≤ (allV bs).length := by
      have := congrArg List.length hdr
      rw [hall, List.length_drop, List.length_append] at this
      omega
    have hget : Hid (∀ j (h : j < xl.length), (allV bs)[i + j]? = some xl[j]) := fun j h => by
      have e : ((allV bs).drop i)[j]? = some xl[j] := by
        rw [hdr, hall, List.getElem?_append_left h]
        simp [h]
      rwa [List.getElem?_drop] at e
    have hnext : Hid ((allV bs).drop (i + xl.length) = allV (bs.drop (s.d + xn))) := by
      show _ = _
      rw [← List.drop_drop, hdr, hall, List.drop_left, List.drop_drop]
    have hJ' := hid hJ
    have hvl' := hid hvl
    have hA0 := hid (And.intro hy (And.intro hn hf))
    have hlen' := hid hlen
    have hmx : xl.length ≤ 9223372036854775807 := by unfold maxLen at hmc; omega
    have hall2 : (allV bs).length ≤ 9000000000000000000 := by have := allV_len bs; omega
    have hi2 : i + xl.length ≤ 9000000000000000000 := by omega
    clear hJ hvl hy hn hf hv hdr hall hlen hrd hsv
    gi_wp2_with fail
    gi_loopw [12] (fun v wr => ∃ (j : Nat), j ≤ xl.length ∧ v = .int .i64 (j : Int) ∧ J ⟨true, B0, W.heap.size + 1, js, i + j⟩ wr ∧ wr.cell? ⟨W.heap.size, 0, none⟩ = some (.func (.yield ly) #[] #[]) ∧ wr.cell? ⟨W.heap.size + 1, 0, none⟩ = some (.int .i64 ((i + j : Nat) : Int)) ∧ wr.frozen? ⟨W.heap.size + 1, 0, none⟩ = false ∧ Vals wr xa xl ∧ KeepsFrom W3.heap.size A wr ∧ KeepB (1 :: q :: bk a bs) A wr) (fun v _ => xl.length - (intOf v).toNat)
    case atStart => exact ⟨0, Nat.zero_le _, rfl, hJ'.out, hA0.out.1, hA0.out.2.1, hA0.out.2.2, hvl'.out, KeepsFrom.refl _ _, KeepB.refl _ _⟩
    case round =>
      obtain ⟨j, hj, rfl, hJj, hyj, hnj, hfj, hvj, hkf, hkb⟩ := hrel
      by_cases hlt : j < xl.length
      · obtain ⟨g, o, ea, c0, c1, c2, c3⟩ := hvj.at j hlt
        have hgj := hget.out j hlt
        obtain ⟨M, hM⟩ : ∃ x : Nat, Hid (i + j = x) := ⟨_, rfl⟩
        rw [hM.out] at hgj hJj hnj
        have hMb : M < 9000000000000000000 := by rw [← hM.out]; omega
        obtain ⟨⟨vk, vb, vn, vt⟩, hv⟩ : ∃ v, Hid (xl[j]'hlt = v) := ⟨_, rfl⟩
        rw [hv.out] at c0 c1 c2 c3 hgj
        dsimp only at c0 c1 c2 c3
        obtain ⟨wb, hwb⟩ : ∃ wb, wr.alloc (.cells #[.int .i64 vk, .bool vb, .int .i64 vn, .string vt] 25) = wb := ⟨_, rfl⟩
        have kb : Kp [] wr wb := by rw [← hwb]; exact (Kp.refl _ _).alloc _
        have bx := Box4.new wr (.int .i64 vk) (.bool vb) (.int .i64 vn) (.string vt) 25
        rw [hwb] at bx
        have p0 := bx.c0; have p1 := bx.c1; have p2 := bx.c2; have p3 := bx.c3
        have yb := kpAt kb hyj
        have nb := kpAt kb hnj
        have fb : wb.frozen? ⟨W.heap.size + 1, 0, none⟩ = false := (kb.frozen (World.block_lt_of_cell? _ _ hnj) (by simp)).trans hfj
        have hvb := hvj.kept kb
        have hJb : J ⟨true, B0, W.heap.size + 1, js, M⟩ wb := hT _ _ _ _ hJj (StepA.same rfl (TurnA.ofKp kb))
        obtain ⟨fn, tmps, assign, body, hyl, hR⟩ := hY _ ⟨M, ⟨vk, vb, vn, vt⟩⟩ wb hJb ⟨rfl, hgj⟩
        have hR' : RoundIn (Fence.wide.inRound l) (d - 1 - 1 - 1) Tryz.prog ly fn tmps assign body wb _ := RoundIn.anyDepthB (F := Fence.wide.inRound l) rfl hR
        have hin : ∀ k ∈ 1 :: q :: bk a bs, k ∈ js := fun k hk => hjj k (by rw [hjs.out]; simp only [List.mem_cons] at hk ⊢; rcases hk with h | h | h; exact .inr (.inr (.inl h)); exact .inr (.inr (.inr (.inl h))); exact .inr (.inr (.inr (.inr h))))
        have kf : Hid (∀ A2, KeepA ⟨true, B0, W.heap.size + 1, js, M⟩ wb A2 → KeepsFrom W3.heap.size A A2 ∧ KeepB (1 :: q :: bk a bs) A A2 ∧ A2.cell? ⟨W.heap.size, 0, none⟩ = some (.func (.yield ly) #[] #[]) ∧ A2.cell? ⟨W.heap.size + 1, 0, none⟩ = some (.int .i64 (M : Int)) ∧ A2.frozen? ⟨W.heap.size + 1, 0, none⟩ = false ∧ Vals A2 xa xl) := fun A2 hk => by
          have h1 : KeepB js wr A2 := (KeepB.ofKp kb (by simp)).trans hk.js
          have hqy : W.heap.size ∈ js := hjj _ (by rw [hjs.out]; simp)
          have hqn : W.heap.size + 1 ∈ js := hjj _ (by rw [hjs.out]; simp)
          have hll := World.block_lt_of_cell? _ _ nb
          have eb : wb.heap[W.heap.size + 1]? = some wb.heap[W.heap.size + 1] := by simp at hll; simp [hll]
          have efr : A2.frozen? ⟨W.heap.size + 1, 0, none⟩ = wb.frozen? ⟨W.heap.size + 1, 0, none⟩ := World.frozen?_of_block (a := ⟨W.heap.size + 1, 0, none⟩) ((hk.js.2 _ hqn _ eb).trans eb.symm)
          refine ⟨⟨Nat.le_trans hkf.size h1.1, fun k o hk' ho hc => ?_⟩, hkb.trans ⟨h1.1, fun k hk' => h1.2 k (hin k hk')⟩, hk.js.cell hqy yb, hk.js.cell hqn nb, efr.trans fb, valsKeep hvb hk.js (fun k hk' => (hbl k hk').1)⟩
          have e1 := hkf.same k o hk' ho hc
          have e2 : wb.heap[k]? = some o := (kb.block k (Array.getElem?_eq_some_iff.1 e1).1 (by simp)).trans e1
          exact hk.recs rfl k o (by simp only; rw [hB0.out]; exact hk') e2 hc
        have djl : (j : Int) < (xl.length : Int) := by omega
        subst ea
        clear hget hgj hv hR hJb hJj hyj hnj hfj hvj hkf hkb hin bx kb fb hvb hJ' hvl' hA0 hnext
        gi_wp2_with fail
        refine ⟨fun _ => by omega, ?_⟩
        refine hR'.mono ?_
        rintro e A2 (⟨rfl, hJ3, hk3⟩ | ⟨rfl, hJ3, hk3⟩)
        · obtain ⟨f1, f2, f3, f4, f5, f6⟩ := kf.out A2 hk3
          have hlq := World.block_lt_of_cell? _ _ f4
          obtain ⟨A3, hA3⟩ : ∃ A3, A2.setCell ⟨W.heap.size + 1, 0, none⟩ (.int .i64 ((M : Int) + 1)) = A3 := ⟨_, rfl⟩
          have kS : Kp [W.heap.size + 1] A2 A3 := by rw [← hA3]; exact (Kp.refl [W.heap.size + 1] A2).setCell (p := ⟨W.heap.size + 1, 0, none⟩) (.inl (by simp)) _
          have hJ4 : J ⟨true, B0, W.heap.size + 1, js, M + 1⟩ A3 := hT _ _ _ _ hJ3 (StepA.same rfl (TurnA.ofKpq kS))
          have n4 : A3.cell? ⟨W.heap.size + 1, 0, none⟩ = some (.int .i64 ((M : Int) + 1)) := by rw [← hA3]; exact World.cell?_setCell_same _ _ _ f4
          have fr4 : A3.frozen? ⟨W.heap.size + 1, 0, none⟩ = false := by rw [← hA3, World.frozen?_setCell]; exact f5
          have y4 : A3.cell? ⟨W.heap.size, 0, none⟩ = some (.func (.yield ly) #[] #[]) := (kS.cell (p := ⟨W.heap.size, 0, none⟩) (World.block_lt_of_cell? _ _ f3) (by simp)).trans f3
          have hq3 : ∀ k ∈ 1 :: q :: bk a bs, k ≠ W.heap.size + 1 := fun k hk => by
            simp only [List.mem_cons] at hk
            rcases hk with rfl | rfl | hk
            · omega
            · omega
            · have := hblk k hk; omega
          have kf4 : KeepsFrom W3.heap.size A A3 := ⟨Nat.le_trans f1.size kS.size, fun k o hk ho hc => by
            have e1 := f1.same k o hk ho hc
            exact (kS.block k (Array.getElem?_eq_some_iff.1 e1).1 (by simp only [List.mem_singleton]; omega)).trans e1⟩
          have kb4 : KeepB (1 :: q :: bk a bs) A A3 := f2.trans (KeepB.ofKp kS (fun j hj => by simpa using hq3 j hj))
          have hg4 : W3.heap.size ≤ g := (hbl g (by simp [blk])).2
          have v4 : Vals A3 (some ⟨g, o, none⟩) xl := by
            rcases f6 with e | ⟨g', o', e, h⟩
            · exact .inl e
            · cases e
              refine .inr ⟨g, o, rfl, fun jj y hy => ?_⟩
              obtain ⟨h0, h1, h2, h3⟩ := h jj y hy
              have hc : ∀ z v, A2.cell? ⟨g, z, none⟩ = some v → A3.cell? ⟨g, z, none⟩ = some v := fun z v hv => (kS.cell (p := ⟨g, z, none⟩) (World.block_lt_of_cell? _ _ hv) (by simp; omega)).trans hv
              exact ⟨hc _ _ h0, hc _ _ h1, hc _ _ h2, hc _ _ h3⟩
          have H4 := hid (And.intro hJ4 (And.intro y4 (And.intro n4 (And.intro fr4 (And.intro v4 (And.intro kf4 kb4))))))
          clear kf hR' f1 f2 f3 f6 hJ3 hk3 hJ4 n4 fr4 y4 v4 kf4 kb4 kS
          gi_wp2_with fail
          have hM' := hM.out
          refine ⟨⟨j + 1, by omega, by go_num, ?_, H4.out.2.1, ?_, H4.out.2.2.2.1, H4.out.2.2.2.2.1, H4.out.2.2.2.2.2.1, H4.out.2.2.2.2.2.2⟩, by simp [intOf]; omega⟩
          · rw [show i + (j + 1) = M + 1 by omega]; exact H4.out.1
          · rw [show ((i + (j + 1) : Nat) : Int) = (M : Int) + 1 by omega]; exact H4.out.2.2.1
        · obtain ⟨f1, f2, f3, f4, f5, f6⟩ := kf.out A2 hk3
          clear kf hR'
          gi_wp2_with fail
          exact ⟨f1, rfl, _, rfl, rfl, rfl, hJ3⟩
      · have e : j = xl.length := by omega
        subst e
        have hnx := hnext.out
        clear hnext hget
        gi_wp2_with fail
        refine ⟨hkf, hkb, js, i + xl.length, hJj, hjj, hyj, hnj, hfj, hnx, hlen'.out, Nat.le_trans hz hkf.size, fun x hx => (by cases hx)⟩
  case done =>
    rintro D s X hD hS ⟨js, i, hJ, hjj, hy, hn, hf, hdr, hi, hz, hv⟩ hK
    have hie : i = (allV bs).length := by
      have e1 : allV (bs.drop s.d) = [] := allV_end hS.2
      rw [e1] at hdr
      have := congrArg List.length hdr
      rw [List.length_drop, List.length_nil] at this
      omega
    have hJD := hT _ _ _ _ hJ (StepA.same rfl (TurnA.ofGrown (B0 := B0) (grownBy_putObj' X D (.deferred none)) (fun r e => by cases e; exact ⟨by rw [hB0.out]; exact hD, _, hK, rfl⟩)))
    gi_wp2_with fail
    refine ⟨by simp, .inl ⟨_, _, rfl, run_takeDeferred hK, ?_⟩⟩
    exact ⟨_, results_none rfl _ _ _, ⟨_, rfl⟩, .inl ⟨_, ⟨rfl, hie⟩, hJD⟩⟩
  case stop =>
    rintro D c s X hD _ ⟨rfl, s', hm', hs0, hsn, hJ⟩ hK
    have hJD := hX _ _ _ hJ ⟨hm', TurnA.ofGrown (grownBy_putObj' X D (.deferred none)) (fun r e => by cases e; exact ⟨by rw [hs0, hB0.out]; exact hD, _, hK, rfl⟩)⟩
    gi_wp2_with fail
    refine ⟨by simp, .inl ⟨_, _, rfl, run_takeDeferred hK, ?_⟩⟩
    exact ⟨_, results_none rfl _ _ _, ⟨_, rfl⟩, .inr ⟨s', trivial, hJD⟩⟩
end Go.Proofs.YtafcdckpicoppaaGreatDoor
end

section
namespace Go.Proofs.YtafcdckpicoppaaGreatDoor
open Go.RowKit Go.Hay
set_option linter.unusedVariables false
set_option linter.unusedSimpArgs false

end Go.Proofs.YtafcdckpicoppaaGreatDoor
end

section
namespace Go.Proofs.YtafcdckpicoppaaGreatDoor
open Go.RowKit Go.Hay
set_option linter.unusedVariables false
set_option linter.unusedSimpArgs false

theorem min_step (l : List Val) (j : Nat) : minTo l (j + 1 - 1) = if cmpV (l.getD j nv) (minTo l (j - 1)) < 0 then l.getD j nv else minTo l (j - 1) := by
  cases j with
  | zero => rw [if_neg (by show ¬ cmpV (l.getD 0 nv) (l.getD 0 nv) < 0; rw [cmp_self]; omega)]
  | succ j => rfl
theorem max_step (l : List Val) (j : Nat) : maxTo l (j + 1 - 1) = if 0 < cmpV (l.getD j nv) (maxTo l (j - 1)) then l.getD j nv else maxTo l (j - 1) := by
  cases j with
  | zero => rw [if_neg (by show ¬ 0 < cmpV (l.getD 0 nv) (l.getD 0 nv); rw [cmp_self]; omega)]
  | succ j => rfl
end Go.Proofs.YtafcdckpicoppaaGreatDoor
end

section
namespace Go.Proofs.YtafcdckpicoppaaGreatDoor
open Go.RowKit Go.Hay
set_option linter.unusedVariables false
set_option linter.unusedSimpArgs false

theorem eqv_sym (x y : Val) : x.eqv y = y.eqv x := by
  cases h : y.eqv x with
  | true => rw [eqv_iff] at h ⊢; exact h.symm
  | false =>
    cases h2 : x.eqv y with
    | false => rfl
    | true => rw [eqv_iff] at h2; rw [h2, eqv_iff.2 rfl] at h; cases h
theorem eqI_sym (i : Inf) (l : List Val) {k y : Int} (hk : i.kind = k) (hy : i.bytes = y) : Inf.eqI ⟨k, l.length, minV l, maxV l, nullsV l, y⟩ i = tellB i l := by
  subst hk hy
  rw [← eqI_tell]
  unfold Inf.eqI
  dsimp only
  rw [eqv_sym (minV l), eqv_sym (maxV l)]
  have hb : ∀ a b : Int, (a == b) = (b == a) := fun a b => by
    cases h : b == a with
    | true => rw [beq_iff_eq] at h ⊢; exact h.symm
    | false =>
      rw [beq_eq_false_iff_ne] at h ⊢
      exact fun e => h e.symm
  rw [hb (l.length : Int), hb (nullsV l : Int)]
end Go.Proofs.YtafcdckpicoppaaGreatDoor
end

section
namespace Go.Proofs.YtafcdckpicoppaaGreatDoor
open Go.RowKit Go.Hay
set_option linter.unusedVariables false
set_option linter.unusedSimpArgs false

theorem ref_bad {l : List Val} (h : refE 0 l ≠ 0) (k : Int) : refE k l ≠ 0 := by
  unfold refE at h ⊢
  have e0 : knownB 0 = true := rfl
  have e1 : ofI 0 = false := rfl
  rw [e0, e1] at h
  simp only [Bool.true_eq_false, if_false, Bool.false_and] at h
  split
  · decide
  · split
    · decide
    · rename_i h2
      rw [if_neg h2] at h
      split
      · decide
      · rename_i h3
        rw [if_neg h3] at h
        simp at h
theorem bT_ok {l : List Val} (h : refE 0 l = 0) : ∀ k, refE (bT l (k + 1)).1 l = 0 ∧ (bT l (k + 1)).2 = ((encR (bT l (k + 1)).1 l).length : Int) ∧ (bT l (k + 1)).2 ≤ ((encR 0 l).length : Int)
  | 0 => by
    have e : bT l 1 = (0, ((encR 0 l).length : Int)) := by rw [bT, if_pos ⟨h, .inl (show (-1 : Int) < 0 by decide)⟩]; rfl
    rw [e]
    exact ⟨h, rfl, Int.le_refl _⟩
  | k + 1 => by
    obtain ⟨h1, h2, h3⟩ := bT_ok h k
    rw [bT]
    split
    · rename_i hc
      refine ⟨hc.1, rfl, ?_⟩
      rcases hc.2 with h4 | h4
      · omega
      · show ((encR ((k + 1 : Nat) : Int) l).length : Int) ≤ _
        omega
    · exact ⟨h1, h2, h3⟩
theorem bT_bad {l : List Val} (h : refE 0 l ≠ 0) : ∀ k, bT l k = (0, -1)
  | 0 => rfl
  | k + 1 => by rw [bT, if_neg (fun hc => ref_bad h _ hc.1)]; exact bT_bad h k
theorem best_ok (l : List Val) : refE (bestV l) l = refE 0 l ∧ (encR (bestV l) l).length ≤ (encR 0 l).length := by
  by_cases h : refE 0 l = 0
  · obtain ⟨h1, h2, h3⟩ := bT_ok h 4
    refine ⟨by rw [h]; exact h1, ?_⟩
    have h2' : (bT l 5).2 = ((encR (bestV l) l).length : Int) := h2
    have h3' : (bT l 5).2 ≤ ((encR 0 l).length : Int) := h3
    omega
  · have e : bestV l = 0 := by unfold bestV; rw [bT_bad h 5]
    rw [e]
    exact ⟨rfl, Nat.le_refl _⟩
theorem bT_min {l : List Val} : ∀ (n j : Nat), j < n → refE j l = 0 → 0 ≤ (bT l n).2 ∧ (bT l n).2 ≤ ((encR j l).length : Int)
  | 0, j, h, _ => by omega
  | n + 1, j, h, hr => by
    rw [bT]
    by_cases e : j = n
    · subst e
      split
      · exact ⟨Int.natCast_nonneg _, Int.le_refl _⟩
      · rename_i hc
        have : ¬ ((bT l j).2 < 0 ∨ ((encR j l).length : Int) < (bT l j).2) := fun h2 => hc ⟨hr, h2⟩
        omega
    · obtain ⟨h1, h2⟩ := bT_min n j (by omega) hr
      split
      · rename_i hc
        refine ⟨Int.natCast_nonneg _, ?_⟩
        rcases hc.2 with h3 | h3
        · omega
        · show ((encR (n : Int) l).length : Int) ≤ _
          omega
      · exact ⟨h1, h2⟩
theorem best_least (l : List Val) (j : Nat) (hj : j < 5) (hr : refE j l = 0) : refE (bestV l) l = 0 ∧ (encR (bestV l) l).length ≤ (encR j l).length := by
  have h0 : refE 0 l = 0 := by
    by_cases h : refE 0 l = 0
    · exact h
    · exact absurd hr (ref_bad h _)
  obtain ⟨h1, h2, _⟩ := bT_ok h0 4
  obtain ⟨h3, h4⟩ := bT_min 5 j hj hr
  refine ⟨h1, ?_⟩
  have h2' : (bT l 5).2 = ((encR (bestV l) l).length : Int) := h2
  omega
end Go.Proofs.YtafcdckpicoppaaGreatDoor
end

section
namespace Go.Proofs.YtafcdckpicoppaaGreatDoor
open Go.RowKit Go.Hay
set_option linter.unusedVariables false
set_option linter.unusedSimpArgs false

/-- What block.All hands back. -/
def AllP (bs : List UInt8) (w : World) (e : Ending) (w' : World) : Prop := ∃ q a' c', e = .returned (.func (.func 24) #[] #[.pointer (some ⟨q, 0, none⟩)]) ∧ AtL q a' c' bs w' ∧ bs.length ≤ c' ∧ c' ≤ maxLen ∧ Kp [] w w' ∧ w.heap.size ≤ q ∧ ∀ k ∈ bk a' bs, w.heap.size ≤ k
set_option maxHeartbeats 4000000 in
theorem cAll (a : Option Addr) (c : Nat) (bs : List UInt8) (w : World) (ht : Tab w) (hs : Sees w a bs) (hb : bs.length ≤ 200000000000000) :
    Calls Tryz.prog 8 #[.slice a bs.length c] w (AllP bs w) := by
  obtain ⟨w1, hw1⟩ : ∃ w1, w.alloc (.cells #[.slice a bs.length c] 28) = w1 := ⟨_, rfl⟩
  have k1 : Kp [] w w1 := by rw [← hw1]; exact (Kp.refl _ _).alloc _
  have b1 : w1.cell? ⟨w.heap.size, 0, none⟩ = some (.slice a bs.length c) := by rw [← hw1]; exact World.cell?_alloc_new w _ _ 0
  have f1 : w1.frozen? ⟨w.heap.size, 0, none⟩ = false := by rw [← hw1]; exact World.frozen?_alloc_new w _ _ 0
  have cC := cClone a bs.length c bs w1 (hs.kept k1 (by simp)) rfl hb
  have ht' := hid ht
  have hs' := hid hs
  clear ht hs
  go_enter Tryz.func8, Tryz.ntmps8
  go_wp2_with fail
  refine cC.mono ?_
  rintro e w2 ⟨v2, rfl, hr2, k2, hn2⟩
  have b2 := kpAt k2 b1
  have hl1 : w.heap.size < w1.heap.size := World.block_lt_of_cell? _ _ b1
  have f2 : w2.frozen? ⟨w.heap.size, 0, none⟩ = false := (k2.frozen (p := ⟨w.heap.size, 0, none⟩) hl1 (by simp)).trans f1
  obtain ⟨a2, c2, rfl, hs2, ho2⟩ := hr2.sees
  obtain ⟨_, hc2, hm2⟩ := rowSee hr2
  obtain ⟨w3, hw3⟩ : ∃ w3, w2.setCell ⟨w.heap.size, 0, none⟩ (.slice a2 bs.length c2) = w3 := ⟨_, rfl⟩
  have k3 : Kp [w.heap.size] w2 w3 := by rw [← hw3]; exact (Kp.refl [w.heap.size] w2).setCell (p := ⟨w.heap.size, 0, none⟩) (.inl (by simp)) _
  have b3 : w3.cell? ⟨w.heap.size, 0, none⟩ = some (.slice a2 bs.length c2) := by rw [← hw3]; exact World.cell?_setCell_same _ _ _ b2
  have kk : Kp [] w w3 := (k1.trans k2 (by simp)).trans k3 (fun x hx => .inr (by simp at hx; omega))
  have hnew : ∀ k ∈ blk a2, w1.heap.size ≤ k := fun k hk => hn2 k (by rw [ho2]; exact hk)
  have hs3 : Sees w3 a2 bs := hs2.kept k3 (fun k hk => by simp only [List.mem_singleton]; have := hnew k hk; omega)
  have H := hid (And.intro b3 (And.intro hs3 (And.intro kk hnew)))
  clear cC hr2 k2 hn2 hs2 ho2 k3 b3 kk hnew hs3 k1 b1 f1
  go_wp2_with fail
  go_ret
  refine ⟨w.heap.size, a2, c2, rfl, ⟨H.out.1, H.out.2.1, ht'.out.kept H.out.2.2.1 (by simp)⟩, hc2, hm2, H.out.2.2.1, Nat.le_refl _, fun k hk => ?_⟩
  unfold bk at hk
  split at hk
  · simp at hk
  · have := H.out.2.2.2 k hk; omega
end Go.Proofs.YtafcdckpicoppaaGreatDoor
end

section
namespace Go.Proofs.YtafcdckpicoppaaGreatDoor
open Go.RowKit Go.Hay
set_option linter.unusedVariables false
set_option linter.unusedSimpArgs false

/-- The blocks below w0, but for a counter's, lie as they lay; the iterator's own blocks are new, or are left alone. -/
structure CoX (w0 : World) (qc : Nat) (s : Sa) (W : World) : Prop where
  os : W.os = w0.os
  tape : W.tape = w0.tape
  output : W.output = w0.output
  size : w0.heap.size ≤ W.heap.size
  low : ∀ k, k < w0.heap.size → k ≠ qc → W.heap[k]? = w0.heap[k]?
  mde : s.made = true → w0.heap.size + 2 ≤ s.B0 ∧ w0.heap.size + 2 ≤ s.qn
  js : ∀ j ∈ s.js, j ≠ qc ∧ j ≠ w0.heap.size ∧ j ≠ w0.heap.size + 1
/-- .. and the counter tells how many values were given. -/
structure CoI (w0 : World) (qc : Nat) (s : Sa) (W : World) : Prop where
  co : CoX w0 qc s W
  cnt : W.cell? ⟨qc, 0, none⟩ = some (.int .i64 (s.i : Int))
  free : W.frozen? ⟨qc, 0, none⟩ = false
theorem CoX.kp {w0 : World} {qc : Nat} {s : Sa} {W : World} (h : CoX w0 qc s W) : Kp [qc] w0 W := ⟨h.os, h.tape, h.output, h.size, fun k hk hn => h.low k hk (by simpa using hn)⟩
theorem lowKeep {X Y : World} {qc : Nat} (e : Y.heap[qc]? = X.heap[qc]?) {v : Value} (hc : X.cell? ⟨qc, 0, none⟩ = some v) (hf : X.frozen? ⟨qc, 0, none⟩ = false) : Y.cell? ⟨qc, 0, none⟩ = some v ∧ Y.frozen? ⟨qc, 0, none⟩ = false :=
  ⟨(World.cell?_of_block (a := ⟨qc, 0, none⟩) e).trans hc, (World.frozen?_of_block (a := ⟨qc, 0, none⟩) e).trans hf⟩
theorem CoX.grown {w0 : World} {qc : Nat} {s : Sa} {X Y : World} {row : Option Nat} (h : CoX w0 qc s X) (hg : X.grownBy Y row) (hr : ∀ r, row = some r → w0.heap.size ≤ r ∧ ∃ o : Obj, X.heap[r]? = some o ∧ o.isCells = false) : CoX w0 qc s Y :=
  ⟨hg.os.trans h.os, hg.tape.trans h.tape, hg.output.trans h.output, Nat.le_trans h.size hg.size, fun k hk hn => (hg.block k (Nat.lt_of_lt_of_le hk h.size) (fun e => by have := (hr k e.symm).1; omega)).trans (h.low k hk hn), h.mde, h.js⟩
theorem CoX.own (w0 : World) (qc : Nat) : OwnFrom w0.heap.size (CoX w0 qc) := fun s X Y row h hg hr => h.grown hg hr
theorem CoI.own {w0 : World} {qc : Nat} (hq : qc < w0.heap.size) : OwnFrom w0.heap.size (CoI w0 qc) := fun s X Y row h hg hr => by
  have e : Y.heap[qc]? = X.heap[qc]? := hg.block qc (Nat.lt_of_lt_of_le hq h.co.size) (fun e => by have := (hr qc e.symm).1; omega)
  obtain ⟨h1, h2⟩ := lowKeep e h.cnt h.free
  exact ⟨h.co.grown hg hr, h1, h2⟩
theorem turnLow {B0 qn : Nat} {A B : World} (h : TurnA B0 qn A B) {k : Nat} (hk : k < A.heap.size) (h1 : k < B0) (h2 : k ≠ qn) : B.heap[k]? = A.heap[k]? := by
  rcases h.block k hk with e | e | ⟨e, _⟩
  · exact e
  · exact absurd e h2
  · omega
theorem StepA.low {w0 : World} {s s' : Sa} {A B : World} (ht : StepA s s' A B) (hm : s.made = true → w0.heap.size + 2 ≤ s.B0 ∧ w0.heap.size + 2 ≤ s.qn) {k : Nat} (hk : k < A.heap.size) (hk2 : k < w0.heap.size + 2) : B.heap[k]? = A.heap[k]? := by
  cases hs : s.made with
  | true =>
    obtain ⟨_, e1, e2⟩ := ht.stays hs
    obtain ⟨h1, h2⟩ := hm hs
    exact turnLow ht.turn hk (by omega) (by omega)
  | false =>
    obtain ⟨_, e1, e2⟩ := ht.makes hs
    exact turnLow ht.turn hk (by omega) (by omega)
theorem CoX.step {w0 : World} {qc : Nat} {s s' : Sa} {A B : World} (hq : qc < w0.heap.size) (hz : w0.heap.size + 2 ≤ A.heap.size) (h : CoX w0 qc s A) (ht : StepA s s' A B) : CoX w0 qc s' B := by
  refine ⟨ht.turn.os.trans h.os, ht.turn.tape.trans h.tape, ht.turn.output.trans h.output, Nat.le_trans h.size ht.turn.size, fun k hk hn => (ht.low h.mde (by omega) (by omega)).trans (h.low k hk hn), fun _ => ?_, fun j hj => ?_⟩
  · cases hs : s.made with
    | true =>
      obtain ⟨_, e1, e2⟩ := ht.stays hs
      obtain ⟨h1, h2⟩ := h.mde hs
      omega
    | false =>
      obtain ⟨_, e1, e2⟩ := ht.makes hs
      omega
  · rcases ht.js j hj with e | e
    · exact h.js j e
    · omega
theorem CoI.step {w0 : World} {qc : Nat} {s s' : Sa} {A B : World} (hq : qc < w0.heap.size) (hz : w0.heap.size + 2 ≤ A.heap.size) (h : CoI w0 qc s A) (ht : StepA s s' A B) : CoI w0 qc s' B := by
  obtain ⟨h1, h2⟩ := lowKeep (ht.low h.co.mde (k := qc) (by omega) (by omega)) h.cnt h.free
  exact ⟨h.co.step hq hz ht, by rw [ht.on]; exact h1, h2⟩
theorem CoX.recs {w0 : World} {qc : Nat} {s : Sa} {W : World} (h : CoX w0 qc s W) (o' : Obj) : KeepA s W (W.putObj (w0.heap.size + 1) o') :=
  ⟨⟨by simp, fun k hk o ho => (World.putObj_heap_other (by have := (h.js k hk).2.2; omega)).trans ho⟩, fun hm k o hk ho _ => (World.putObj_heap_other (by have := (h.mde hm).1; omega)).trans ho⟩
theorem CoX.keeps {w0 : World} {qc : Nat} {s s' : Sa} {A B : World} (h : CoX w0 qc s A) (ht : StepA s s' A B) (k : Nat) (o : Obj) (hk : k = w0.heap.size ∨ k = w0.heap.size + 1) (ho : A.heap[k]? = some o) : B.heap[k]? = some o :=
  (ht.low h.mde (Array.getElem?_eq_some_iff.1 ho).1 (by omega)).trans ho
theorem KeepA.alloc (s : Sa) (W : World) (o : Obj) : KeepA s W (W.alloc o) :=
  ⟨KeepB.alloc _ _ _, fun _ k o' _ ho _ => (Below.heap_alloc W o k (Array.getElem?_eq_some_iff.1 ho).1).trans ho⟩
/-- Behind the end the iterator's own memory alone may turn. -/
theorem CoX.stepX {w0 : World} {qc : Nat} {s : Sa} {A B : World} (h : CoX w0 qc s A) (ht : StepAX s A B) : CoX w0 qc s B := by
  obtain ⟨h1, h2⟩ := h.mde ht.1
  exact ⟨ht.2.os.trans h.os, ht.2.tape.trans h.tape, ht.2.output.trans h.output, Nat.le_trans h.size ht.2.size, fun k hk hn => (turnLow ht.2 (Nat.lt_of_lt_of_le hk h.size) (by omega) (by omega)).trans (h.low k hk hn), h.mde, h.js⟩
theorem CoX.keepsX {w0 : World} {qc : Nat} {s : Sa} {A B : World} (h : CoX w0 qc s A) (ht : StepAX s A B) (k : Nat) (o : Obj) (hk : k = w0.heap.size ∨ k = w0.heap.size + 1) (ho : A.heap[k]? = some o) : B.heap[k]? = some o := by
  obtain ⟨h1, h2⟩ := h.mde ht.1
  exact (turnLow ht.2 (Array.getElem?_eq_some_iff.1 ho).1 (by omega) (by omega)).trans ho
/-- A round that writes into the counter, and makes memory. -/
theorem CoX.round {w0 : World} {qc : Nat} {s : Sa} {A B : World} {x : Gv} (h : CoX w0 qc s A) (hk : Kp [qc] A B) (hq : A.heap[qc]?.map Obj.isCells = some true) : KeepsFrom w0.heap.size A B ∧ KeepA s A B ∧ CoX w0 qc (s.nx x) B := by
  have hne : ∀ k (o : Obj), A.heap[k]? = some o → o.isCells = false → k ≠ qc := fun k o ho hc e => by
    subst e
    rw [ho] at hq
    simp at hq
    rw [hq] at hc
    cases hc
  refine ⟨⟨hk.size, fun k o _ ho hc => (hk.block k (Array.getElem?_eq_some_iff.1 ho).1 (by simpa using hne k o ho hc)).trans ho⟩, ⟨⟨hk.size, fun k hk' o ho => (hk.block k (Array.getElem?_eq_some_iff.1 ho).1 (by simpa using (h.js k hk').1)).trans ho⟩, fun _ k o _ ho hc => (hk.block k (Array.getElem?_eq_some_iff.1 ho).1 (by simpa using hne k o ho hc)).trans ho⟩, ⟨hk.os.trans h.os, hk.tape.trans h.tape, hk.output.trans h.output, Nat.le_trans h.size hk.size, fun k hk' hn => (hk.block k (Nat.lt_of_lt_of_le hk' h.size) (by simpa using hn)).trans (h.low k hk' hn), h.mde, h.js⟩⟩
end Go.Proofs.YtafcdckpicoppaaGreatDoor
end

section
namespace Go.Proofs.YtafcdckpicoppaaGreatDoor
open Go.RowKit Go.Hay

def teC (op a : Int) : Bool :=
  if op = 0 then a == 0 else if op = 1 then !(a == 0) else if op = 2 then decide (a < 0) else if op = 3 then decide (a ≤ 0) else if op = 4 then decide (0 < a) else if op = 5 then decide (0 ≤ a) else false
def termC (op xk vk a : Int) : Bool := if op = 6 then xk == 0 else if op = 7 then !(xk == 0) else if xk = 0 ∨ vk = 0 then false else teC op a
end Go.Proofs.YtafcdckpicoppaaGreatDoor
end

section
namespace Go.Proofs.YtafcdckpicoppaaGreatDoor
open Go.RowKit Go.Hay
set_option linter.unusedVariables false
set_option linter.unusedSimpArgs false

/-- What an order asks of the least and of the greatest value. -/
def wiC (op a b : Int) : Bool :=
  if op = 0 then decide (a ≤ 0) && decide (0 ≤ b) else if op = 1 then !(a == 0) || !(b == 0) else if op = 2 then decide (a < 0) else if op = 3 then decide (a ≤ 0) else if op = 4 then decide (0 < b) else if op = 5 then decide (0 ≤ b) else false
def mayC (op nulls many vk a b : Int) : Bool :=
  if op = 6 then decide (0 < nulls) else if op = 7 then decide (nulls < many) else if many ≤ nulls ∨ vk = 0 then false else wiC op a b
set_option maxHeartbeats 32000000 in
set_option maxRecDepth 100000 in
theorem bWithin (iK iM mk : Int) (mb : Bool) (mn : Int) (mt : ByteArray) (xk : Int) (xb : Bool) (xn : Int) (xt : ByteArray) (iN iB : Int) (co op vk : Int) (vb : Bool) (vn : Int) (vt : ByteArray) (w : World) : Calls Tryz.prog 22 #[.agg #[.int .i64 iK, .int .i64 iM, .int .i64 mk, .bool mb, .int .i64 mn, .string mt, .int .i64 xk, .bool xb, .int .i64 xn, .string xt, .int .i64 iN, .int .i64 iB], .agg #[.int .i64 co, .int .i64 op, .int .i64 vk, .bool vb, .int .i64 vn, .string vt]] w fun e w' => e = .returned (.bool (wiC op (cmpV ⟨mk, mb, mn, mt⟩ ⟨vk, vb, vn, vt⟩) (cmpV ⟨xk, xb, xn, xt⟩ ⟨vk, vb, vn, vt⟩))) ∧ Kp [] w w' := by
  obtain ⟨w1, hw1, k1, b1⟩ : ∃ w1, w.alloc (.cells #[.int .i64 iK, .int .i64 iM, .int .i64 mk, .bool mb, .int .i64 mn, .string mt, .int .i64 xk, .bool xb, .int .i64 xn, .string xt, .int .i64 iN, .int .i64 iB] 35) = w1 ∧ Kp [] w w1 ∧ Bx w1 w.heap.size [.int .i64 iK, .int .i64 iM, .int .i64 mk, .bool mb, .int .i64 mn, .string mt, .int .i64 xk, .bool xb, .int .i64 xn, .string xt, .int .i64 iN, .int .i64 iB] := ⟨_, rfl, (Kp.refl _ _).alloc _, Bx.new w _ _⟩
  obtain ⟨q, hq⟩ : ∃ q, Hid (w.heap.size = q) := ⟨_, rfl⟩
  rw [hq.out] at b1
  obtain ⟨w2, hw2, k2, b2⟩ : ∃ w2, w1.alloc (.cells #[.int .i64 co, .int .i64 op, .int .i64 vk, .bool vb, .int .i64 vn, .string vt] 27) = w2 ∧ Kp [] w1 w2 ∧ Bx w2 w1.heap.size [.int .i64 co, .int .i64 op, .int .i64 vk, .bool vb, .int .i64 vn, .string vt] := ⟨_, rfl, (Kp.refl _ _).alloc _, Bx.new w1 _ _⟩
  obtain ⟨q2, hq2⟩ : ∃ q, Hid (w1.heap.size = q) := ⟨_, rfl⟩
  rw [hq2.out] at b2
  have b12 := b1.kept k2 (by simp) (b1.lt (by simp))
  have kk := hid (k1.trans k2 (by simp))
  have hq' := hq.out
  have hq2' := hq2.out
  have c1 := cCompare ⟨mk, mb, mn, mt⟩ ⟨vk, vb, vn, vt⟩ w2
  have h2c := hid (fun W => cCompare ⟨xk, xb, xn, xt⟩ ⟨vk, vb, vn, vt⟩ W)
  have r1 := cmp_range ⟨mk, mb, mn, mt⟩ ⟨vk, vb, vn, vt⟩
  have r2 := cmp_range ⟨xk, xb, xn, xt⟩ ⟨vk, vb, vn, vt⟩
  obtain ⟨A, hA⟩ : ∃ A, Hid (cmpV ⟨mk, mb, mn, mt⟩ ⟨vk, vb, vn, vt⟩ = A) := ⟨_, rfl⟩
  obtain ⟨B, hB⟩ : ∃ A, Hid (cmpV ⟨xk, xb, xn, xt⟩ ⟨vk, vb, vn, vt⟩ = A) := ⟨_, rfl⟩
  rw [hA.out] at c1 r1 ⊢
  rw [hB.out] at r2 ⊢
  simp only [hB.out] at h2c
  unfold Val.v at c1 h2c
  dsimp only at c1 h2c
  have p0 := b12.get 0 _ rfl
  have p1 := b12.get 1 _ rfl
  have p2 := b12.get 2 _ rfl
  have p3 := b12.get 3 _ rfl
  have p4 := b12.get 4 _ rfl
  have p5 := b12.get 5 _ rfl
  have p6 := b12.get 6 _ rfl
  have p7 := b12.get 7 _ rfl
  have p8 := b12.get 8 _ rfl
  have p9 := b12.get 9 _ rfl
  have p10 := b12.get 10 _ rfl
  have p11 := b12.get 11 _ rfl
  have s0 := b2.get 0 _ rfl
  have s1 := b2.get 1 _ rfl
  have s2 := b2.get 2 _ rfl
  have s3 := b2.get 3 _ rfl
  have s4 := b2.get 4 _ rfl
  have s5 := b2.get 5 _ rfl
  have hb12 := hid b12
  have hb2 := hid b2
  clear k1 k2 b1 b2 b12 hA hB
  go_enter Tryz.func22, Tryz.ntmps22
  go_wp2_with fail
  refine c1.mono ?_
  rintro e w3 ⟨rfl, k3⟩
  have kk3 := hid (kk.out.trans k3 (by simp))
  have b3 := hb12.out.kept k3 (by simp) (hb12.out.lt (by simp))
  have t3 := hb2.out.kept k3 (by simp) (hb2.out.lt (by simp))
  clear p0 p1 p2 p3 p4 p5 p6 p7 p8 p9 p10 p11 s0 s1 s2 s3 s4 s5 c1 hw1 hw2 hq' hq2'
  have p0 := b3.get 0 _ rfl
  have p1 := b3.get 1 _ rfl
  have p2 := b3.get 2 _ rfl
  have p3 := b3.get 3 _ rfl
  have p4 := b3.get 4 _ rfl
  have p5 := b3.get 5 _ rfl
  have p6 := b3.get 6 _ rfl
  have p7 := b3.get 7 _ rfl
  have p8 := b3.get 8 _ rfl
  have p9 := b3.get 9 _ rfl
  have p10 := b3.get 10 _ rfl
  have p11 := b3.get 11 _ rfl
  have s0 := t3.get 0 _ rfl
  have s1 := t3.get 1 _ rfl
  have s2 := t3.get 2 _ rfl
  have s3 := t3.get 3 _ rfl
  have s4 := t3.get 4 _ rfl
  have s5 := t3.get 5 _ rfl
  have ht3 := hid t3
  clear b3 t3 k3 hb12 hb2
  go_wp2_with fail
  refine (h2c.out w3).mono ?_
  rintro e w4 ⟨rfl, k4⟩
  have kk4 := hid (kk3.out.trans k4 (by simp))
  have t4 := ht3.out.kept k4 (by simp) (ht3.out.lt (by simp))
  have s1' := t4.get 1 _ rfl
  clear p0 p1 p2 p3 p4 p5 p6 p7 p8 p9 p10 p11 s0 s1 s2 s3 s4 s5 t4 ht3 k4 h2c
  rcases (show op = 0 ∨ op = 1 ∨ op = 2 ∨ op = 3 ∨ op = 4 ∨ op = 5 ∨ (op ≠ 0 ∧ op ≠ 1 ∧ op ≠ 2 ∧ op ≠ 3 ∧ op ≠ 4 ∧ op ≠ 5) by omega) with h | h | h | h | h | h | h
  all_goals first | subst h | (obtain ⟨h0, h1, h2, h3, h4, h5⟩ := h; have d0 : (op == 0) = false := beq_eq_false_iff_ne.2 h0; have d1 : (op == 1) = false := beq_eq_false_iff_ne.2 h1; have d2 : (op == 2) = false := beq_eq_false_iff_ne.2 h2; have d3 : (op == 3) = false := beq_eq_false_iff_ne.2 h3; have d4 : (op == 4) = false := beq_eq_false_iff_ne.2 h4; have d5 : (op == 5) = false := beq_eq_false_iff_ne.2 h5)
  all_goals (rcases r1 with e1 | e1 | e1 <;> rcases r2 with e2 | e2 | e2 <;> subst e1 <;> subst e2 <;> (go_wp2_with fail) <;> go_ret <;> exact ⟨by simp [wiC, *], kk4.out⟩)
end Go.Proofs.YtafcdckpicoppaaGreatDoor
end

section
namespace Go.Proofs.YtafcdckpicoppaaGreatDoor
open Go.RowKit Go.Hay
set_option linter.unusedVariables false
set_option linter.unusedSimpArgs false

set_option maxHeartbeats 32000000 in
set_option maxRecDepth 100000 in
theorem bMay (iK iM mk : Int) (mb : Bool) (mn : Int) (mt : ByteArray) (xk : Int) (xb : Bool) (xn : Int) (xt : ByteArray) (iN iB : Int) (co op vk : Int) (vb : Bool) (vn : Int) (vt : ByteArray) (w : World) : Calls Tryz.prog 7 #[.agg #[.int .i64 iK, .int .i64 iM, .int .i64 mk, .bool mb, .int .i64 mn, .string mt, .int .i64 xk, .bool xb, .int .i64 xn, .string xt, .int .i64 iN, .int .i64 iB], .agg #[.int .i64 co, .int .i64 op, .int .i64 vk, .bool vb, .int .i64 vn, .string vt]] w fun e w' => e = .returned (.bool (mayC op iN iM vk (cmpV ⟨mk, mb, mn, mt⟩ ⟨vk, vb, vn, vt⟩) (cmpV ⟨xk, xb, xn, xt⟩ ⟨vk, vb, vn, vt⟩))) ∧ Kp [] w w' := by
  obtain ⟨w1, hw1, k1, b1⟩ : ∃ w1, w.alloc (.cells #[.int .i64 iK, .int .i64 iM, .int .i64 mk, .bool mb, .int .i64 mn, .string mt, .int .i64 xk, .bool xb, .int .i64 xn, .string xt, .int .i64 iN, .int .i64 iB] 35) = w1 ∧ Kp [] w w1 ∧ Bx w1 w.heap.size [.int .i64 iK, .int .i64 iM, .int .i64 mk, .bool mb, .int .i64 mn, .string mt, .int .i64 xk, .bool xb, .int .i64 xn, .string xt, .int .i64 iN, .int .i64 iB] := ⟨_, rfl, (Kp.refl _ _).alloc _, Bx.new w _ _⟩
  obtain ⟨q, hq⟩ : ∃ q, Hid (w.heap.size = q) := ⟨_, rfl⟩
  rw [hq.out] at b1
  obtain ⟨w2, hw2, k2, b2⟩ : ∃ w2, w1.alloc (.cells #[.int .i64 co, .int .i64 op, .int .i64 vk, .bool vb, .int .i64 vn, .string vt] 27) = w2 ∧ Kp [] w1 w2 ∧ Bx w2 w1.heap.size [.int .i64 co, .int .i64 op, .int .i64 vk, .bool vb, .int .i64 vn, .string vt] := ⟨_, rfl, (Kp.refl _ _).alloc _, Bx.new w1 _ _⟩
  obtain ⟨q2, hq2⟩ : ∃ q, Hid (w1.heap.size = q) := ⟨_, rfl⟩
  rw [hq2.out] at b2
  have b12 := b1.kept k2 (by simp) (b1.lt (by simp))
  have kk := hid (k1.trans k2 (by simp))
  have hq' := hq.out
  have hq2' := hq2.out
  have cW := bWithin iK iM mk mb mn mt xk xb xn xt iN iB co op vk vb vn vt w2
  obtain ⟨A, hA⟩ : ∃ A, Hid (cmpV ⟨mk, mb, mn, mt⟩ ⟨vk, vb, vn, vt⟩ = A) := ⟨_, rfl⟩
  obtain ⟨B, hB⟩ : ∃ A, Hid (cmpV ⟨xk, xb, xn, xt⟩ ⟨vk, vb, vn, vt⟩ = A) := ⟨_, rfl⟩
  rw [hA.out, hB.out] at cW ⊢
  obtain ⟨X, hX⟩ : ∃ X, Hid (wiC op A B = X) := ⟨_, rfl⟩
  rw [hX.out] at cW
  have p0 := b12.get 0 _ rfl
  have p1 := b12.get 1 _ rfl
  have p2 := b12.get 2 _ rfl
  have p3 := b12.get 3 _ rfl
  have p4 := b12.get 4 _ rfl
  have p5 := b12.get 5 _ rfl
  have p6 := b12.get 6 _ rfl
  have p7 := b12.get 7 _ rfl
  have p8 := b12.get 8 _ rfl
  have p9 := b12.get 9 _ rfl
  have p10 := b12.get 10 _ rfl
  have p11 := b12.get 11 _ rfl
  have s0 := b2.get 0 _ rfl
  have s1 := b2.get 1 _ rfl
  have s2 := b2.get 2 _ rfl
  have s3 := b2.get 3 _ rfl
  have s4 := b2.get 4 _ rfl
  have s5 := b2.get 5 _ rfl
  clear k1 k2 b1 b2 b12 hA hB
  rcases (show op = 6 ∨ op = 7 ∨ (op ≠ 6 ∧ op ≠ 7) by omega) with h6 | h6 | ⟨h6, h7⟩
  · subst h6
    have hr : Hid (mayC 6 iN iM vk A B = decide (0 < iN)) := rfl
    go_enter Tryz.func7, Tryz.ntmps7
    go_wp2_with fail
    go_ret
    exact ⟨by rw [hr.out]; simp, kk.out⟩
  · subst h6
    have hr : Hid (mayC 7 iN iM vk A B = decide (iN < iM)) := rfl
    go_enter Tryz.func7, Tryz.ntmps7
    go_wp2_with fail
    go_ret
    exact ⟨by rw [hr.out]; simp, kk.out⟩
  · have d6 : (op == 6) = false := beq_eq_false_iff_ne.2 h6
    have d7 : (op == 7) = false := beq_eq_false_iff_ne.2 h7
    have hr : Hid (mayC op iN iM vk A B = if iM ≤ iN ∨ vk = 0 then false else X) := by show _ = _; unfold mayC; rw [if_neg h6, if_neg h7, hX.out]
    by_cases hf : iN < iM
    · have f1 : decide (iN < iM) = true := by simpa using hf
      by_cases hv : vk = 0
      · have hr2 : Hid (mayC op iN iM vk A B = false) := by show _ = _; rw [hr.out, if_pos (.inr hv)]
        have dv : (vk != 0) = false := by simp [hv]
        clear hr hv
        go_enter Tryz.func7, Tryz.ntmps7
        go_wp2_with fail
        go_ret
        exact ⟨by rw [hr2.out]; simp, kk.out⟩
      · have hr2 : Hid (mayC op iN iM vk A B = X) := by show _ = _; rw [hr.out, if_neg (by intro h; rcases h with h | h; omega; exact hv h)]
        have dv : (vk != 0) = true := by simpa using hv
        clear hr hv
        go_enter Tryz.func7, Tryz.ntmps7
        go_wp2_with fail
        refine cW.mono ?_
        rintro e w3 ⟨rfl, k3⟩
        go_wp2_with fail
        go_ret
        exact ⟨by rw [hr2.out]; simp, kk.out.trans k3 (by simp)⟩
    · have f1 : decide (iN < iM) = false := by simpa using hf
      have hr2 : Hid (mayC op iN iM vk A B = false) := by show _ = _; rw [hr.out, if_pos (.inl (by omega))]
      clear hr
      go_enter Tryz.func7, Tryz.ntmps7
      go_wp2_with fail
      go_ret
      exact ⟨by rw [hr2.out]; simp, kk.out⟩
end Go.Proofs.YtafcdckpicoppaaGreatDoor
end

section
namespace Go.Proofs.YtafcdckpicoppaaGreatDoor
open Go.RowKit Go.Hay
set_option linter.unusedVariables false
set_option linter.unusedSimpArgs false

structure Bn (w : World) (q : Nat) (cs : List Value) : Prop where
  get : ∀ i u, cs[i]? = some u → w.cell? ⟨q, i, none⟩ = some u
  free : ∀ i, w.frozen? ⟨q, i, none⟩ = false
theorem Bn.new (w : World) (cs : List Value) (t : TypeId) : Bn (w.alloc (.cells cs.toArray t)) w.heap.size cs :=
  ⟨fun i u hu => by
    have e : (w.alloc (.cells cs.toArray t)).cell? ⟨w.heap.size, i, none⟩ = _ := World.cell?_alloc_new w _ _ i
    rw [e]; simpa using hu, fun i => World.frozen?_alloc_new w _ _ i⟩
theorem Bn.lt {w : World} {q : Nat} {cs : List Value} (h : Bn w q cs) (hn : 0 < cs.length) : q < w.heap.size := World.block_lt_of_cell? _ _ (h.get 0 cs[0] (by simp [hn]))
theorem Bn.keptS {w w' : World} {S : List Nat} {q : Nat} {cs : List Value} (h : Bn w q cs) (hk : Kp S w w') (hq : q ∉ S) (hl : q < w.heap.size) : Bn w' q cs :=
  ⟨fun i u hu => (hk.cell (p := ⟨q, i, none⟩) hl hq).trans (h.get i u hu), fun i => (hk.frozen (p := ⟨q, i, none⟩) hl hq).trans (h.free i)⟩
theorem Bn.kept {w w' : World} {q : Nat} {c : Value} {cs : List Value} (h : Bn w q (c :: cs)) (hk : Kp [] w w') : Bn w' q (c :: cs) := h.keptS hk (by simp) (h.lt (by simp))
theorem Bn.set {w : World} {q : Nat} {cs : List Value} (h : Bn w q cs) (i : Nat) (hi : i < cs.length) (v : Value) : Bn (w.setCell ⟨q, i, none⟩ v) q (cs.set i v) :=
  ⟨fun j u hu => by
    by_cases e : j = i
    · subst e
      rw [List.getElem?_set_self hi] at hu
      cases hu
      exact World.cell?_setCell_same _ _ _ (h.get j cs[j] (by simp [hi]))
    · rw [List.getElem?_set_ne (fun h => e h.symm)] at hu
      rw [World.cell?_setCell_other _ _ _ _ (by intro h; simp only [Addr.mk.injEq] at h; omega)]
      exact h.get j u hu, fun j => by rw [World.frozen?_setCell]; exact h.free j⟩
end Go.Proofs.YtafcdckpicoppaaGreatDoor
end

section
namespace Go.Proofs.YtafcdckpicoppaaGreatDoor
open Go.RowKit Go.Hay
set_option linter.unusedVariables false
set_option linter.unusedSimpArgs false

/-- A term. -/
structure Tm where
  co : Int
  op : Int
  x : Val
instance : Inhabited Tm := ⟨⟨0, 0, ⟨0, false, 0, ⟨#[]⟩⟩⟩⟩
def Tm.v (t : Tm) : Value := .agg #[.int .i64 t.co, .int .i64 t.op, .int .i64 t.x.k, .bool t.x.b, .int .i64 t.x.n, .string t.x.t]
def TmE : El Tm where
  n := 6
  c t := [.int .i64 t.co, .int .i64 t.op, .int .i64 t.x.k, .bool t.x.b, .int .i64 t.x.n, .string t.x.t]
  len _ := rfl
  one _ u hu := by simp at hu; rcases hu with rfl | rfl | rfl | rfl | rfl | rfl <;> rfl
  pos := by decide
theorem tmAt {w : World} {a : Option Addr} {l : List Tm} (h : TmE.See w a l) {j : Nat} {t : Tm} (hx : l[j]? = some t) : ∃ g o, a = some ⟨g, o, none⟩ ∧ w.cell? ⟨g, o + j * 6, none⟩ = some (.int .i64 t.co) ∧ w.cell? ⟨g, o + j * 6 + 1, none⟩ = some (.int .i64 t.op) ∧ w.cell? ⟨g, o + j * 6 + 2, none⟩ = some (.int .i64 t.x.k) ∧ w.cell? ⟨g, o + j * 6 + 3, none⟩ = some (.bool t.x.b) ∧ w.cell? ⟨g, o + j * 6 + 4, none⟩ = some (.int .i64 t.x.n) ∧ w.cell? ⟨g, o + j * 6 + 5, none⟩ = some (.string t.x.t) := by
  obtain ⟨g, o, rfl, hc⟩ := h.at hx
  exact ⟨g, o, rfl, hc 0 _ rfl, hc 1 _ rfl, hc 2 _ rfl, hc 3 _ rfl, hc 4 _ rfl, hc 5 _ rfl⟩
/-- The table of what a term asks of an order. -/
def askL : List Bool := [false, true, false, true, false, true, true, false, false, true, true, false, false, false, true, false, true, true]
def Asks (w : World) : Prop := 0 < w.heap.size ∧ ∀ i, i < 18 → w.cell? ⟨0, i, none⟩ = some (.bool (askL.getD i false))
theorem Asks.kept {w w' : World} {S : List Nat} (h : Asks w) (hk : Kp S w w') (h0 : 0 ∉ S) : Asks w' :=
  ⟨Nat.lt_of_lt_of_le h.1 hk.size, fun i hi => (hk.cell (p := ⟨0, i, none⟩) h.1 h0).trans (h.2 i hi)⟩
/-- Is a term true of a row? -/
def termT (t : Tm) (l : List Val) : Bool := if t.co < 0 ∨ (l.length : Int) ≤ t.co then false else termC t.op (l.getD t.co.toNat nulV).k t.x.k (cmpV (l.getD t.co.toNat nulV) t.x)
def allT (l : List Tm) (r : List Val) : Bool := l.all fun t => termT t r
theorem termT_out (t : Tm) (l : List Val) (h : t.co < 0 ∨ (l.length : Int) ≤ t.co) : termT t l = false := by unfold termT; rw [if_pos h]
theorem termT_at (t : Tm) (l : List Val) (i : Nat) (hi : i < l.length) (e : t.co = i) : termT t l = termC t.op l[i].k t.x.k (cmpV l[i] t.x) := by
  unfold termT
  rw [if_neg (by omega), e]
  simp [hi]
end Go.Proofs.YtafcdckpicoppaaGreatDoor
end

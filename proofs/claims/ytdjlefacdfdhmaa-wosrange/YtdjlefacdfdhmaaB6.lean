/- Versions given to a range: how the outer iterators stand, what they may turn, and what the rounds must leave alone. Versions given to a range: all. -/
import Derived.Test.YtdjlefacdfdhmaaB5
section
namespace Go.Proofs.Ytdjlefacdfdhmaa
open Go.RowKit Go.Hay
set_option linter.unusedVariables false
set_option linter.unusedSimpArgs false

/-- How one stands: whether it has begun, from which block on its records lie, which blocks the rounds leave alone, the place, the version that is given now. -/
structure Sb where
  made : Bool
  B0 : Nat
  js : List Nat
  i : Nat
  v : Option Vn
def Sb.nx (s : Sb) (x : Vn) : Sb := { s with i := s.i + 1, v := none }
/-- What the iterator's own step may turn: new memory, and records that hold no cells, from B0 on. -/
structure TurnT (B0 : Nat) (A B : World) : Prop where
  os : B.os = A.os
  tape : B.tape = A.tape
  output : B.output = A.output
  size : A.heap.size ≤ B.heap.size
  block : ∀ k, k < A.heap.size → B.heap[k]? = A.heap[k]? ∨ (B0 ≤ k ∧ ∃ o : Obj, A.heap[k]? = some o ∧ o.isCells = false)
theorem TurnT.ofKp {B0 : Nat} {A B : World} (h : Kp [] A B) : TurnT B0 A B := ⟨h.os, h.tape, h.output, h.size, fun k hk => .inl (h.block k hk (by simp))⟩
theorem TurnT.ofGrown {B0 : Nat} {A B : World} {row : Option Nat} (h : A.grownBy B row) (hr : ∀ r, row = some r → B0 ≤ r ∧ ∃ o : Obj, A.heap[r]? = some o ∧ o.isCells = false) : TurnT B0 A B :=
  ⟨h.os, h.tape, h.output, h.size, fun k hk => by
    by_cases e : row = some k
    · exact .inr (hr k e)
    · exact .inl (h.block k hk (fun e' => e e'.symm))⟩
theorem TurnT.cells {B0 k : Nat} {A B : World} (h : TurnT B0 A B) {o : Obj} (ho : A.heap[k]? = some o) (hc : o.isCells = true) : B.heap[k]? = some o := by
  rcases h.block k (Array.getElem?_eq_some_iff.1 ho).1 with e | ⟨_, o', ho', hc'⟩
  · exact e.trans ho
  · rw [ho] at ho'; cases ho'; rw [hc] at hc'; cases hc'
theorem TurnT.low {B0 k : Nat} {A B : World} (h : TurnT B0 A B) (hk : k < A.heap.size) (hb : k < B0) : B.heap[k]? = A.heap[k]? := by
  rcases h.block k hk with e | ⟨h1, _⟩
  · exact e
  · omega
/-- Every block of cells stands. -/
structure Ck (X Y : World) : Prop where
  size : X.heap.size ≤ Y.heap.size
  same : ∀ (k : Nat) (o : Obj), X.heap[k]? = some o → o.isCells = true → Y.heap[k]? = some o
theorem TurnT.ck {B0 : Nat} {X Y : World} (h : TurnT B0 X Y) : Ck X Y := ⟨h.size, fun k o ho hc => h.cells ho hc⟩
theorem Ck.ofKp {X Y : World} (h : Kp [] X Y) : Ck X Y := ⟨h.size, fun k o ho _ => (h.block k (Array.getElem?_eq_some_iff.1 ho).1 (by simp)).trans ho⟩
theorem isCells_of {X : World} {a : Addr} {v : Value} (hv : X.cell? a = some v) : ∃ o : Obj, X.heap[a.block]? = some o ∧ o.isCells = true := by
  have hl := World.block_lt_of_cell? _ _ hv
  obtain ⟨o, ho⟩ : ∃ o, X.heap[a.block]? = some o := ⟨X.heap[a.block], by simp [hl]⟩
  refine ⟨o, ho, ?_⟩
  unfold World.cell? at hv
  rw [ho] at hv
  cases o <;> simp_all [Obj.isCells]
theorem Ck.block {X Y : World} (h : Ck X Y) {a : Addr} (hc : (X.cell? a).isSome = true) : Y.heap[a.block]? = X.heap[a.block]? := by
  obtain ⟨v, hv⟩ := Option.isSome_iff_exists.1 hc
  obtain ⟨o, ho, hoc⟩ := isCells_of hv
  exact (h.same _ o ho hoc).trans ho.symm
theorem Ck.cell {X Y : World} (h : Ck X Y) {a : Addr} {v : Value} (hc : X.cell? a = some v) : Y.cell? a = some v := (World.cell?_of_block (h.block (by rw [hc]; rfl))).trans hc
theorem Ck.some {X Y : World} (h : Ck X Y) {a : Addr} (hc : (X.cell? a).isSome = true) : (Y.cell? a).isSome = true := by rw [World.cell?_of_block (h.block hc)]; exact hc
theorem Ck.frozen {X Y : World} (h : Ck X Y) {a : Addr} (hc : (X.cell? a).isSome = true) : Y.frozen? a = X.frozen? a := World.frozen?_of_block (h.block hc)
theorem Ck.rowE {α : Type} {E : El α} {X Y : World} (h : Ck X Y) {v : Value} {l : List α} (hr : E.Row X v l) : E.Row Y v l := by
  rcases hr with hr | ⟨g, o, cap, rfl, hl, hm, hg, hc, ht⟩
  · exact .inl hr
  · exact .inr ⟨g, o, cap, rfl, hl, hm, Nat.lt_of_lt_of_le hg h.size, fun j u hu => h.cell (hc j u hu), fun j hj => ⟨h.some (ht j hj).1, (h.frozen (ht j hj).1).trans (ht j hj).2⟩⟩
theorem Ck.seeE {α : Type} {E : El α} {X Y : World} (h : Ck X Y) {a : Option Addr} {l : List α} (hr : E.See X a l) : E.See Y a l := by
  rcases hr with hr | ⟨g, o, e, hc⟩
  · exact .inl hr
  · exact .inr ⟨g, o, e, fun j u hu => h.cell (hc j u hu)⟩
theorem Ck.ok {X Y : World} (h : Ck X Y) {x : Vn} (hx : VnOk X x) : VnOk Y x := ⟨h.seeE hx.see, hx.cap, hx.nil, hx.few⟩
theorem Ck.bx {X Y : World} (h : Ck X Y) {q : Nat} {cs : List Value} (hb : Bx X q cs) (hn : 0 < cs.length) : Bx Y q cs := by
  have e := h.block (a := ⟨q, 0, none⟩) (by rw [hb.get 0 cs[0] (by simp [hn])]; rfl)
  exact ⟨fun i u hu => h.cell (hb.get i u hu), fun i => (World.frozen?_of_block (a := ⟨q, i, none⟩) e).trans (hb.free i)⟩
theorem Ck.wos {X Y : World} (h : Ck X Y) {p : Nat} {v : Value} {l : List Vn} (hw : Wos X p v l) : Wos Y p v l := by
  have e := h.block (a := ⟨p, 0, none⟩) (by rw [hw.c0]; rfl)
  exact ⟨h.cell hw.c0, fun j => (World.frozen?_of_block (a := ⟨p, j, none⟩) e).trans (hw.free j), h.rowE hw.row, fun x hx => h.ok (hw.ok x hx), hw.apart, hw.off, hw.srt, hw.few⟩
theorem Kp.turn {S : List Nat} {w X Y : World} {B0 : Nat} (h : Kp S w X) (ht : TurnT B0 X Y) (hB : w.heap.size ≤ B0) : Kp S w Y :=
  ⟨ht.os.trans h.os, ht.tape.trans h.tape, ht.output.trans h.output, Nat.le_trans h.size ht.size, fun k hk hn => (ht.low (Nat.lt_of_lt_of_le hk h.size) (by omega)).trans (h.block k hk hn)⟩
/-- A version that is given: all of its row is new since A. -/
structure Giv (A B : World) (y z : Vn) : Prop where
  same : y.p = z.p
  row : VE.Row B (.slice y.a y.row.length y.c) y.row
  new : ∀ k ∈ blk y.a, A.heap.size ≤ k
  few : y.row.length * 40 ≤ 140737488355328
/-- The iterator's own step: R the blocks of rows, f what is told of a version. -/
structure StepT (R : List Nat) (l : List Vn) (f : Vn → Option Vn) (s s' : Sb) (A B : World) : Prop where
  turn : TurnT s'.B0 A B
  stays : s.made = true → s'.made = true ∧ s'.B0 = s.B0
  makes : s.made = false → s'.made = true ∧ A.heap.size ≤ s'.B0 ∧ s'.v = none
  js : ∀ j ∈ s'.js, (j ∈ s.js ∧ (s.made = true ∨ j ∈ R)) ∨ (A.heap.size ≤ j ∧ j < B.heap.size)
  on : s.i ≤ s'.i
  skip : ∀ k x, s.i ≤ k → k < s'.i → l[k]? = some x → f x = none
  was : s.v = none
  given : s'.v = none ∨ ∃ y x z, s'.v = some y ∧ l[s'.i]? = some x ∧ f x = some z ∧ Giv A B y z
  gjs : s'.v = none ∨ s'.js = s.js
/-- What the iterator may turn behind its end. -/
def StepX (s : Sb) (A B : World) : Prop := s.made = true ∧ TurnT s.B0 A B
/-- What may be given now. -/
def okT (s : Sb) (x : Vn) : Prop := s.v = some x
/-- What the rounds leave alone: the blocks js, and every record from B0 on. -/
structure KeepT (s : Sb) (A B : World) : Prop where
  js : KeepN s.js A B
  recs : s.made = true → ∀ (k : Nat) (o : Obj), s.B0 ≤ k → A.heap[k]? = some o → o.isCells = false → B.heap[k]? = some o
theorem KeepT.trans {s : Sb} {A B C : World} (h : KeepT s A B) (k : KeepT s B C) : KeepT s A C :=
  ⟨h.js.trans k.js, fun hm j o hj ho hc => k.recs hm j o hj (h.recs hm j o hj ho hc) hc⟩
theorem KeepT.refl (s : Sb) (A : World) : KeepT s A A := ⟨KeepN.refl _ _, fun _ _ _ _ h _ => h⟩
theorem KeepT.alloc (s : Sb) (W : World) (o : Obj) : KeepT s W (W.alloc o) :=
  ⟨KeepN.alloc _ _ _, fun _ k o' _ ho _ => (Below.heap_alloc W o k (Array.getElem?_eq_some_iff.1 ho).1).trans ho⟩
theorem KeepT.putObj {s : Sb} {l : Nat} (hj : ∀ j ∈ s.js, j ≠ l) (hb : s.made = true → l < s.B0) (W : World) (o' : Obj) : KeepT s W (W.putObj l o') :=
  ⟨⟨by simp, fun k hk o'' h'' => (World.putObj_heap_other (hj k hk)).trans h''⟩, fun hm k o'' hk h'' _ => (World.putObj_heap_other (by have := hb hm; omega)).trans h''⟩
theorem StepT.same {R : List Nat} {l : List Vn} {f : Vn → Option Vn} {s : Sb} {A B : World} (hm : s.made = true) (hv : s.v = none) (ht : TurnT s.B0 A B) : StepT R l f s s A B :=
  ⟨ht, fun _ => ⟨hm, rfl⟩, fun h => (by rw [hm] at h; cases h), fun j hj => .inl ⟨hj, .inl hm⟩, Nat.le_refl _, fun k x h1 h2 => by omega, hv, .inl hv, .inl hv⟩
theorem SeqS.toX {σ α : Type} {F : Fence} {n : Nat} {P : Program} {g : Nat} {lb : Array Value} {encs : α → Array Value} {T : σ → σ → World → World → Prop} {Tx : σ → World → World → Prop} {K : σ → World → World → Prop} {ok : σ → α → Prop} {nx : σ → α → σ} {S Sp : σ → Prop} {s0 : σ} {w : World}
    (h : SeqS F n P g lb encs T K ok nx S Sp s0 w) : SeqX F n P g lb encs T Tx K ok nx S Sp s0 w := fun ly J Jx W hW hT _ hY h0 => by
  refine h ly J Jx W hW hT (fun s x A hJ ho => ?_) h0
  obtain ⟨fn, tmps, assign, body, hy, hR⟩ := hY s x A hJ ho
  exact ⟨fn, tmps, assign, body, hy, hR.mono fun e w h => by
    rcases h with ⟨h1, h2, h3⟩ | ⟨h1, h2, h3⟩
    · exact .inl ⟨h1, h2, h3⟩
    · exact .inr ⟨h1, h2⟩⟩
theorem room_of_none {F : Fence} (hd : F.depth = none) (k : Nat) : F.room k := fun d h => by rw [hd] at h; cases h
theorem RoundIn.anyDepth {F : Fence} (hd : F.depth = none) {m m' : Nat} {P : Program} {l : Nat} {f : FuncId} {tmps : Array Value} {assign body : Code} {w : World} {R : Ending → World → Prop}
    (h : RoundIn F m P l f tmps assign body w R) : RoundIn F m' P l f tmps assign body w R := ⟨h.1, fun c cs _ => h.2 c cs (room_of_none hd _)⟩
theorem cNow (p : Nat) (w : World) : Calls Try.prog 29 #[.pointer (some ⟨p, 0, none⟩)] w fun e w' => e = .returned (.func (.func 45) #[] #[.pointer (some ⟨w.heap.size, 0, none⟩)]) ∧ w' = w.alloc (.cells #[.pointer (some ⟨p, 0, none⟩)] 23) := by
  go_enter Try.func29, Try.ntmps29
  go_wp2_with fail
  go_returns
  exact ⟨by simp, rfl⟩
theorem cAll (p : Nat) (w : World) : Calls Try.prog 19 #[.pointer (some ⟨p, 0, none⟩)] w fun e w' => e = .returned (.func (.func 38) #[] #[.pointer (some ⟨w.heap.size, 0, none⟩)]) ∧ w' = w.alloc (.cells #[.pointer (some ⟨p, 0, none⟩)] 23) := by
  go_enter Try.func19, Try.ntmps19
  go_wp2_with fail
  go_returns
  exact ⟨by simp, rfl⟩
theorem cAt (p : Nat) (e : Int) (w : World) : Calls Try.prog 12 #[.pointer (some ⟨p, 0, none⟩), .int .u64 e] w fun r w' => r = .returned (.func (.func 28) #[] #[.pointer (some ⟨w.heap.size, 0, none⟩), .pointer (some ⟨w.heap.size + 1, 0, none⟩)]) ∧ w' = (w.alloc (.cells #[.pointer (some ⟨p, 0, none⟩)] 23)).alloc (.cells #[.int .u64 e] 30) := by
  go_enter Try.func12, Try.ntmps12
  go_wp2_with fail
  go_returns
  exact ⟨by simp, rfl⟩
/-- What an iterator finds: its box, and the rows in memory. -/
structure AtT (q p : Nat) (a : Option Addr) (c : Nat) (l : List Vn) (w : World) : Prop where
  b1 : w.cell? ⟨q, 0, none⟩ = some (.pointer (some ⟨p, 0, none⟩))
  c0 : w.cell? ⟨p, 0, none⟩ = some (.slice a l.length c)
  see : VnE.See w a l
  nil : a = none → c = 0
  ok : ∀ x ∈ l, VnOk w x
  few : l.length ≤ 4000000000000
  lt : ∀ k ∈ blk a, k < w.heap.size
theorem AtT.kept {q p : Nat} {a : Option Addr} {c : Nat} {l : List Vn} {A B : World} (h : AtT q p a c l A) (hk : KeepN (q :: p :: (blk a ++ rowsB l)) A B) : AtT q p a c l B :=
  ⟨hk.cell (by simp) h.b1, hk.cell (by simp) h.c0, hk.see h.see (fun _ k hk' => by simp [hk']), h.nil, fun x hx => hk.ok (h.ok x hx) (fun k hk' => by simp only [List.mem_cons, List.mem_append]; exact .inr (.inr (.inr (mem_rowsB.2 ⟨x, hx, hk'⟩)))), h.few, fun k hk' => Nat.lt_of_lt_of_le (h.lt k hk') hk.1⟩
theorem Wos.atT {w : World} {p : Nat} {a : Option Addr} {c : Nat} {l : List Vn} (h : Wos w p (.slice a l.length c) l) {q : Nat} (hb : w.cell? ⟨q, 0, none⟩ = some (.pointer (some ⟨p, 0, none⟩))) : AtT q p a c l w := by
  obtain ⟨_, _, ev, hs, hn, _⟩ := h.row.see
  cases ev
  exact ⟨hb, h.c0, hs, fun e => (hn e).2, h.ok, h.few, fun k hk => h.row.lt k (by rw [own_slice]; exact hk)⟩
/-- How one stands ahead of its begin. -/
abbrev sT (q p : Nat) (a : Option Addr) (l : List Vn) (more : List Nat) : Sb := ⟨false, 0, more ++ (q :: p :: (blk a ++ rowsB l)), 0, none⟩
end Go.Proofs.Ytdjlefacdfdhmaa
end

section
namespace Go.Proofs.Ytdjlefacdfdhmaa
open Go.RowKit Go.Hay
attribute [local go_sem] Oper.semAt_some
set_option linter.unusedVariables false
set_option linter.unusedSimpArgs false

set_option maxHeartbeats 16000000 in
set_option maxRecDepth 100000 in
theorem allSeq (d : Nat) (hd : 5 ≤ d) (q p : Nat) (a : Option Addr) (c : Nat) (l : List Vn) (w : World) (hA : AtT q p a c l w) :
    SeqX Fence.wide d Try.prog 38 #[.pointer (some ⟨q, 0, none⟩)] encV (StepT (rowsB l) l some) StepX KeepT okT Sb.nx (fun s => s.made = true ∧ s.i = l.length ∧ s.v = none) (fun _ => True) (sT q p a l []) w := by
  intro ly J Jx W hW hT hX hY h0
  have hAW := hA.kept (hW.js.sub (fun k hk => List.mem_append_right _ hk))
  obtain ⟨W1, hW1⟩ : ∃ W1, W.alloc (.cells #[.func (.yield ly) #[] #[]] 68) = W1 := ⟨_, rfl⟩
  have k1 : Kp [] W W1 := by rw [← hW1]; exact (Kp.refl _ _).alloc _
  have by1 : W1.cell? ⟨W.heap.size, 0, none⟩ = some (.func (.yield ly) #[] #[]) := by rw [← hW1]; exact World.cell?_alloc_new W _ _ 0
  have hz1 : W.heap.size < W1.heap.size := by rw [← hW1]; simp
  have hq1 := kpAt k1 hAW.b1
  obtain ⟨W2, hW2⟩ : ∃ W2, W1.alloc (.cells #[.pointer (some ⟨p, 0, none⟩)] 23) = W2 := ⟨_, rfl⟩
  have k2 : Kp [] W1 W2 := by rw [← hW2]; exact (Kp.refl _ _).alloc _
  have bq2 : W2.cell? ⟨W1.heap.size, 0, none⟩ = some (.pointer (some ⟨p, 0, none⟩)) := by rw [← hW2]; exact World.cell?_alloc_new W1 _ _ 0
  have hz2 : W1.heap.size < W2.heap.size := by rw [← hW2]; simp
  have kW2 : Kp [] W W2 := k1.trans k2 (by simp)
  have by2 := kpAt k2 by1
  have hseq := nowSeq (d - 1) (by omega) W1.heap.size p a c l W2 bq2 (kpAt kW2 hAW.c0) (hAW.see.keptNew kW2) hAW.nil hAW.few
  have hok2 : Hid (∀ x ∈ l, VnOk W2 x) := fun x hx => (hAW.ok x hx).kept kW2
  have hplt : p < W.heap.size := World.block_lt_of_cell? _ _ hAW.c0
  have halt : ∀ k ∈ blk a, k < W.heap.size := hAW.lt
  have hcN := cNow p W1
  rw [hW2] at hcN
  refine callsIn_of_wp_marks Try.func38 rfl trivial ?_ rfl
  simp only [Try.ntmps38, List.size_toArray, List.length_cons, List.length_nil, Nat.reduceAdd, Nat.reduceSub, Array.replicate_succ, Array.replicate_zero, List.push_toArray, List.append_toArray, List.nil_append, List.cons_append]
  refine wpIn_wide.2 ?_
  go_wp2_with fail
  refine hcN.mono ?_
  rintro e0 w2 ⟨rfl, hw2⟩
  rw [hw2]
  clear hw2 w2
  obtain ⟨B0, hB0⟩ : ∃ B0, Hid (B0 = W2.heap.size) := ⟨_, rfl⟩
  obtain ⟨js, hjs⟩ : ∃ js, Hid (js = W.heap.size :: W1.heap.size :: rowsB l) := ⟨_, rfl⟩
  have hJ2 : J ⟨true, B0, js, 0, none⟩ W2 := hT _ _ _ _ h0 ⟨TurnT.ofKp kW2, fun h => (by cases h), fun _ => ⟨rfl, by rw [hB0.out]; exact kW2.size, rfl⟩, fun j hj => by
    rw [hjs.out] at hj
    simp only [List.mem_cons] at hj
    rcases hj with rfl | rfl | hj
    · exact .inr ⟨Nat.le_refl _, by omega⟩
    · exact .inr ⟨by omega, by omega⟩
    · exact .inl ⟨by simp [hj], .inr hj⟩, Nat.le_refl _, fun k x h1 h2 => absurd h2 (Nat.not_lt_zero _), rfl, .inl rfl, .inl rfl⟩
  clear hcN hW1 hW2 hq1 by1
  go_wp2_with fail
  refine (wpIn_wide (n := d)).1 ?_
  refine wpRangeY rfl (by omega) (gf := 45) (lb := #[.pointer (some ⟨W1.heap.size, 0, none⟩)]) rfl trivial (enters_of Try.func45 (by kernel_rfl) rfl)
    (SeqS.toX (Tx := fun _ _ _ => False) hseq) (fun _ => rfl) KeepN.trans (fun s => KeepN.alloc _) (KeepN.refl _ _)
    (fun s W' => J ⟨true, B0, js ++ (if s.made = true then s.js else []), s.i, none⟩ W' ∧ W'.cell? ⟨W.heap.size, 0, none⟩ = some (.func (.yield ly) #[] #[]) ∧ W2.heap.size ≤ W'.heap.size ∧ (∀ x ∈ l, VnOk W' x) ∧ (s.made = false → s.js = W1.heap.size :: p :: blk a) ∧ (s.made = true → ∀ j ∈ s.js, W2.heap.size + 2 ≤ j))
    (fun c s W' => c = .ret ∧ (∀ j ∈ s.js, j ≠ W2.heap.size + 1) ∧ ∃ sb : Sb, sb.made = true ∧ sb.B0 = B0 ∧ Jx sb W')
    ?hI ?hIx ⟨by simpa using hJ2, by2, Nat.le_refl _, hok2.out, fun _ => rfl, fun h => (by cases h)⟩
    (fun s s' A B h ht k o hk ho => (ht.kp.block k (Array.getElem?_eq_some_iff.1 ho).1 (by simp)).trans ho) (fun _ _ _ _ _ h => h.elim) ?hIT (fun _ _ _ _ _ h => h.elim)
    ?hKb ?hKc ?hKx
    (fun x => .cells #[.int .u64 x.ep, .int .u32 x.num, .slice x.a x.row.length x.c, .int .u64 x.del] 45)
    (fun x q3 => { tmps := #[.func (.yield ly) #[] #[], .pointer (some ⟨q, 0, none⟩), .pointer (some ⟨W.heap.size, 0, none⟩), .pointer (some ⟨q3, 0, none⟩), .pointer (some ⟨p, 0, none⟩), .func (.func 45) #[] #[.pointer (some ⟨W1.heap.size, 0, none⟩)], .agg #[.int .u64 x.ep, .int .u32 x.num, .slice x.a x.row.length x.c, .int .u64 x.del], undef, undef, undef, undef, undef], defers := [] }) ?assign ?body ?done ?stop
  case hI =>
    rintro s X Z row ⟨hJ, hc, hz, hk, hm1, hm2⟩ hg hr
    have ht : TurnT W2.heap.size X Z := TurnT.ofGrown hg hr
    exact ⟨hT _ _ _ _ hJ (StepT.same rfl rfl (by show TurnT B0 X Z; rw [hB0.out]; exact ht)), ht.ck.cell hc, Nat.le_trans hz ht.size, fun x hx => ht.ck.ok (hk x hx), hm1, hm2⟩
  case hIx =>
    rintro c s X Z row ⟨hc, hj, sb, hm, hs0, hJ⟩ hg hr
    exact ⟨hc, hj, sb, hm, hs0, hX _ _ _ hJ ⟨hm, by rw [hs0, hB0.out]; exact TurnT.ofGrown hg hr⟩⟩
  case hIT =>
    rintro s s' A B hz2' ⟨hJ, hc, hz, hk, hm1, hm2⟩ ht
    have hck := Ck.ofKp ht.kp
    cases hs : s.made with
    | true =>
      have e := ht.stays hs
      subst e
      exact ⟨hT _ _ _ _ hJ (StepT.same rfl rfl (TurnT.ofKp ht.kp)), hck.cell hc, Nat.le_trans hz ht.kp.size, fun x hx => hck.ok (hk x hx), hm1, hm2⟩
    | false =>
      obtain ⟨m1, m2⟩ := ht.makes hs
      refine ⟨hT _ _ _ _ hJ ⟨TurnT.ofKp ht.kp, fun _ => ⟨rfl, rfl⟩, fun h => (by cases h), fun j hj => ?_, by simp only [ht.on]; exact Nat.le_refl _, fun k x h1 h2 => by simp only [ht.on] at h1 h2; omega, rfl, .inl rfl, .inl rfl⟩, hck.cell hc, Nat.le_trans hz ht.kp.size, fun x hx => hck.ok (hk x hx), fun h => (by rw [m1] at h; cases h), fun _ j hj => by have := m2 j hj; omega⟩
      simp only [m1, if_true] at hj
      rcases List.mem_append.1 hj with h | h
      · exact .inl ⟨by simp [h], .inl rfl⟩
      · exact .inr (m2 j h)
  case hKb =>
    rintro s X o' ⟨hJ, hc, hz, hk, hm1, hm2⟩
    refine ⟨by simp, fun k hk' o'' h'' => (World.putObj_heap_other ?_).trans h''⟩
    cases hs : s.made with
    | true => have := hm2 hs k hk'; omega
    | false =>
      rw [hm1 hs] at hk'
      simp only [List.mem_cons] at hk'
      rcases hk' with rfl | rfl | hk'
      · omega
      · omega
      · have := halt k hk'; omega
  case hKc =>
    rintro s x X o' ⟨hJ, hc, hz, hk, hm1, hm2⟩
    refine ⟨by simp, fun k hk' o'' h'' => (World.putObj_heap_other ?_).trans h''⟩
    cases hs : s.made with
    | true => have := hm2 hs k hk'; omega
    | false =>
      have e : s.js = W1.heap.size :: p :: blk a := hm1 hs
      rw [e] at hk'
      simp only [List.mem_cons] at hk'
      rcases hk' with rfl | rfl | hk'
      · omega
      · omega
      · have := halt k hk'; omega
  case hKx =>
    rintro c s x X o' ⟨_, hj, _⟩
    exact ⟨by simp, fun k hk' o'' h'' => (World.putObj_heap_other (hj k hk')).trans h''⟩
  case assign =>
    intro l x W C hC
    gi_wp2_with fail
    exact hC
  case body =>
    rintro lr s x A q3 ⟨hJ, hy, hz, hk, hm1, hm2⟩ ⟨hmd, hx⟩ hob hq3
    have hxl : x ∈ l := List.mem_of_getElem? hx
    have hbx : ∀ z : Nat, A.cell? ⟨q3, z, none⟩ = (#[.int .u64 x.ep, .int .u32 x.num, .slice x.a x.row.length x.c, .int .u64 x.del] : Array Value)[z]? := fun z => by
      unfold World.cell?
      simp [hob]
    have kd : Kp [] A A.drew := (Kp.refl _ _).drew
    have hokx := hk x hxl
    have hgiv : Hid (∀ x1 a2 c2, VE.Row x1 (.slice a2 x.row.length c2) x.row → (∀ k ∈ blk a2, A.heap.size ≤ k) → Giv A x1 { x with a := a2, c := c2 } x) := fun x1 a2 c2 h1 h2 => ⟨rfl, h1, h2, hokx.few⟩
    obtain ⟨jk, hjk⟩ : ∃ jk, Hid (js ++ (if s.made = true then s.js else []) = jk) := ⟨_, rfl⟩
    rw [hjk.out] at hJ
    have hjs2 : ∀ j ∈ s.js, j ∈ jk := fun j hj => by rw [← hjk.out, if_pos hmd]; exact List.mem_append_right _ hj
    have hjs1 : ∀ j ∈ js, j ∈ jk := fun j hj => by rw [← hjk.out]; exact List.mem_append_left _ hj
    have hjne : Hid (∀ j ∈ (s.nx x).js, j ≠ W2.heap.size + 1) := fun j hj => by have := hm2 hmd j hj; omega
    have hjkx : Hid (jk = js ++ (if (s.nx x).made = true then (s.nx x).js else [])) := by show _ = _; rw [← hjk.out]; rfl
    have hgive : Hid (∀ x1 a2 c2, Kp [] A x1 → VE.Row x1 (.slice a2 x.row.length c2) x.row → (∀ k ∈ blk a2, A.heap.size ≤ k) → YieldAt Fence.wide (d - 1) Try.prog ly #[.agg #[.int .u64 x.ep, .int .u32 x.num, .slice a2 x.row.length c2, .int .u64 x.del]] x1 fun r A' => (r = .returned (.bool true) ∧ J ⟨true, B0, jk, (s.nx x).i, none⟩ A' ∧ KeepT ⟨true, B0, jk, s.i, some { x with a := a2, c := c2 }⟩ x1 A') ∨ (r = .returned (.bool false) ∧ Jx ⟨true, B0, jk, (s.nx x).i, none⟩ A' ∧ KeepT ⟨true, B0, jk, s.i, some { x with a := a2, c := c2 }⟩ x1 A')) := fun x1 a2 c2 kx hr hn => by
      have hJy : J ⟨true, B0, jk, s.i, some { x with a := a2, c := c2 }⟩ x1 := hT _ _ A x1 hJ ⟨TurnT.ofKp kx, fun _ => ⟨rfl, rfl⟩, fun h => (by cases h), fun j hj => .inl ⟨hj, .inl rfl⟩, Nat.le_refl _, fun k x h1 h2 => by simp only at h1 h2; omega, rfl, .inr ⟨_, _, _, rfl, hx, rfl, hgiv.out x1 a2 c2 hr hn⟩, .inr rfl⟩
      exact hY _ { x with a := a2, c := c2 } x1 hJy rfl
    have kf : Hid (∀ x1 A2 y, Kp [] A x1 → KeepT ⟨true, B0, jk, s.i, some y⟩ x1 A2 → KeepsFrom W2.heap.size A A2 ∧ KeepN s.js A A2 ∧ A2.cell? ⟨W.heap.size, 0, none⟩ = some (.func (.yield ly) #[] #[]) ∧ W2.heap.size ≤ A2.heap.size ∧ (∀ x ∈ l, VnOk A2 x)) := fun x1 A2 y kx hk3 => by
      have h1 := KeepN.ofKp (Js := jk) kx (by simp)
      have h2 : KeepN jk A A2 := h1.trans hk3.js
      refine ⟨⟨h2.1, fun k o hk' ho hc => ?_⟩, h2.sub hjs2, h2.cell (hjs1 _ (by rw [hjs.out]; simp)) hy, Nat.le_trans hz h2.1, fun x hx => h2.ok (hk x hx) (fun k hk' => hjs1 _ (by rw [hjs.out]; simp only [List.mem_cons]; exact .inr (.inr (mem_rowsB.2 ⟨x, hx, hk'⟩))))⟩
      have e1 : x1.heap[k]? = some o := (kx.block k (Array.getElem?_eq_some_iff.1 ho).1 (by simp)).trans ho
      exact hk3.recs rfl k o (by simp only; rw [hB0.out]; exact hk') e1 hc
    have cC : ∀ X, Kp [] A X → Calls Try.prog 37 #[.agg #[.int .u64 x.ep, .int .u32 x.num, .slice x.a x.row.length x.c, .int .u64 x.del]] X (CopP x X) := fun X kX => cCopyOf x X (hokx.kept kX)
    unfold CopP at cC
    have v0 := hbx 0; have v1 := hbx 1; have v2 := hbx 2; have v3 := hbx 3
    have hzA := hid (fun X (kX : Kp [] A X) => kX.size)
    obtain ⟨ep, num, xa, xc, row, del⟩ := x
    dsimp only at cC hgive v0 v1 v2 v3 hjkx hjne ⊢
    have Ywd : A.drew.cell? ⟨W.heap.size, 0, none⟩ = some (.func (.yield ly) #[] #[]) := hy
    have V0 : A.drew.cell? ⟨q3, 0, none⟩ = some (.int .u64 ep) := v0
    have V1 : A.drew.cell? ⟨q3, 1, none⟩ = some (.int .u32 num) := v1
    have V2 : A.drew.cell? ⟨q3, 2, none⟩ = some (.slice xa row.length xc) := v2
    have V3 : A.drew.cell? ⟨q3, 3, none⟩ = some (.int .u64 del) := v3
    have Kwd : Kp [] A A.drew := kd
    clear hJ hob hbx hx hokx kd hgiv hjs2 hjs1 v0 v1 v2 v3
    gi_wp2_with fail
    refine wpIn_region_any (by kernel_rfl) ?_
    (try change wpAnyIn _ _ _ _ _ _ _ _ _ (World.drew _))
    generalize A.drew = wd at *
    refine wpAnyIn_ready (rs := [0, 1]) (by kernel_rfl) (by simp) ?_
    refine AllReadyIn.cons rfl (fun K hK => ?_) (AllReadyIn.cons rfl (fun K hK => ?_) AllReadyIn.nil)
    · go_simp
      refine hK _ _ ?_
      clear hK K
      try simp only [Act.put, List.getElem_toArray, List.getElem_cons_zero, List.getElem_cons_succ, List.setIfInBounds_toArray, List.set_cons_zero, List.set_cons_succ]
      refine wpAnyIn_ready (rs := [1]) (by kernel_rfl) (by simp) ?_
      refine AllReadyIn.cons rfl (fun K hK => ?_) AllReadyIn.nil
      go_simp
      refine hK _ _ ?_
      clear hK K
      try simp only [Act.put, List.getElem_toArray, List.getElem_cons_zero, List.getElem_cons_succ, List.setIfInBounds_toArray, List.set_cons_zero, List.set_cons_succ]
      refine wpAnyIn_ready (rs := [2]) (by kernel_rfl) (by simp) ?_
      refine AllReadyIn.cons rfl (fun K hK => ?_) AllReadyIn.nil
      go_simp
      refine ⟨trivial, fun _ => by omega, (CallsIn.inRound lr (callsIn_wide.2 (cC _ Kwd))).mono ?_⟩
      rintro e1 x1 ⟨a2, c2, rfl, hr1, kx1, hn1⟩
      refine hK _ _ ?_
      clear hK K
      try simp only [Act.put, List.getElem_toArray, List.getElem_cons_zero, List.getElem_cons_succ, List.setIfInBounds_toArray, List.set_cons_zero, List.set_cons_succ]
      have Yx1 := kpAt kx1 Ywd
      have Kx1 := Kwd.trans kx1 (by simp)
      have hn2 : ∀ k ∈ blk a2, A.heap.size ≤ k := fun k hk => Nat.le_trans (hzA.out _ Kwd) (hn1 k hk)
      refine wpAnyIn_ready (rs := [3]) (by kernel_rfl) (by simp) ?_
      refine AllReadyIn.cons rfl (fun K hK => ?_) AllReadyIn.nil
      obtain ⟨fn, tmps, assign, body, hyl, hR⟩ := hgive.out x1 a2 c2 Kx1 hr1 hn2
      have hR' : RoundIn (Fence.wide.inRound lr) (d - 1 - 1 - 1) Try.prog ly fn tmps assign body x1 _ := RoundIn.anyDepth (F := Fence.wide.inRound lr) rfl hR
      go_simp
      refine ⟨fun _ => by omega, hR'.mono ?_⟩
      clear hR hyl
      rintro e2 A2 (⟨rfl, hJ3, hk3⟩ | ⟨rfl, hJ3, hk3⟩)
      · refine hK _ _ ?_
        clear hK K
        try simp only [Act.put, List.getElem_toArray, List.getElem_cons_zero, List.getElem_cons_succ, List.setIfInBounds_toArray, List.set_cons_zero, List.set_cons_succ]
        obtain ⟨f1, f2, f3, f4, f5⟩ := kf.out x1 A2 _ Kx1 hk3
        refine wpAnyIn_ready (rs := [4]) (by kernel_rfl) (by simp) ?_
        refine AllReadyIn.cons rfl (fun K hK => ?_) AllReadyIn.nil
        go_simp
        refine hK _ _ ?_
        clear hK K
        try simp only [Act.put, List.getElem_toArray, List.getElem_cons_zero, List.getElem_cons_succ, List.setIfInBounds_toArray, List.set_cons_zero, List.set_cons_succ]
        refine wpAnyIn_done (by kernel_rfl) ?_ _
        gi_wp2_with fail
        exact ⟨f1, f2, hjkx.out ▸ hJ3, f3, f4, f5, hm1, hm2⟩
      · refine hK _ _ ?_
        clear hK K
        try simp only [Act.put, List.getElem_toArray, List.getElem_cons_zero, List.getElem_cons_succ, List.setIfInBounds_toArray, List.set_cons_zero, List.set_cons_succ]
        obtain ⟨f1, f2, f3, f4, f5⟩ := kf.out x1 A2 _ Kx1 hk3
        refine wpAnyIn_ready (rs := [4]) (by kernel_rfl) (by simp) ?_
        refine AllReadyIn.cons rfl (fun K hK => ?_) AllReadyIn.nil
        go_simp
        refine hK _ _ ?_
        clear hK K
        try simp only [Act.put, List.getElem_toArray, List.getElem_cons_zero, List.getElem_cons_succ, List.setIfInBounds_toArray, List.set_cons_zero, List.set_cons_succ]
        refine wpAnyIn_done (by kernel_rfl) ?_ _
        gi_wp2_with fail
        exact ⟨f1, f2, rfl, hjne.out, _, rfl, rfl, hJ3⟩
    · go_simp
      refine hK _ _ ?_
      clear hK K
      try simp only [Act.put, List.getElem_toArray, List.getElem_cons_zero, List.getElem_cons_succ, List.setIfInBounds_toArray, List.set_cons_zero, List.set_cons_succ]
      refine wpAnyIn_ready (rs := [0, 2]) (by kernel_rfl) (by simp) ?_
      refine AllReadyIn.cons rfl (fun K hK => ?_) (AllReadyIn.cons rfl (fun K hK => ?_) AllReadyIn.nil)
      · go_simp
        refine hK _ _ ?_
        clear hK K
        try simp only [Act.put, List.getElem_toArray, List.getElem_cons_zero, List.getElem_cons_succ, List.setIfInBounds_toArray, List.set_cons_zero, List.set_cons_succ]
        refine wpAnyIn_ready (rs := [2]) (by kernel_rfl) (by simp) ?_
        refine AllReadyIn.cons rfl (fun K hK => ?_) AllReadyIn.nil
        go_simp
        refine ⟨trivial, fun _ => by omega, (CallsIn.inRound lr (callsIn_wide.2 (cC _ Kwd))).mono ?_⟩
        rintro e1 x1 ⟨a2, c2, rfl, hr1, kx1, hn1⟩
        refine hK _ _ ?_
        clear hK K
        try simp only [Act.put, List.getElem_toArray, List.getElem_cons_zero, List.getElem_cons_succ, List.setIfInBounds_toArray, List.set_cons_zero, List.set_cons_succ]
        have Yx1 := kpAt kx1 Ywd
        have Kx1 := Kwd.trans kx1 (by simp)
        have hn2 : ∀ k ∈ blk a2, A.heap.size ≤ k := fun k hk => Nat.le_trans (hzA.out _ Kwd) (hn1 k hk)
        refine wpAnyIn_ready (rs := [3]) (by kernel_rfl) (by simp) ?_
        refine AllReadyIn.cons rfl (fun K hK => ?_) AllReadyIn.nil
        obtain ⟨fn, tmps, assign, body, hyl, hR⟩ := hgive.out x1 a2 c2 Kx1 hr1 hn2
        have hR' : RoundIn (Fence.wide.inRound lr) (d - 1 - 1 - 1) Try.prog ly fn tmps assign body x1 _ := RoundIn.anyDepth (F := Fence.wide.inRound lr) rfl hR
        go_simp
        refine ⟨fun _ => by omega, hR'.mono ?_⟩
        clear hR hyl
        rintro e2 A2 (⟨rfl, hJ3, hk3⟩ | ⟨rfl, hJ3, hk3⟩)
        · refine hK _ _ ?_
          clear hK K
          try simp only [Act.put, List.getElem_toArray, List.getElem_cons_zero, List.getElem_cons_succ, List.setIfInBounds_toArray, List.set_cons_zero, List.set_cons_succ]
          obtain ⟨f1, f2, f3, f4, f5⟩ := kf.out x1 A2 _ Kx1 hk3
          refine wpAnyIn_ready (rs := [4]) (by kernel_rfl) (by simp) ?_
          refine AllReadyIn.cons rfl (fun K hK => ?_) AllReadyIn.nil
          go_simp
          refine hK _ _ ?_
          clear hK K
          try simp only [Act.put, List.getElem_toArray, List.getElem_cons_zero, List.getElem_cons_succ, List.setIfInBounds_toArray, List.set_cons_zero, List.set_cons_succ]
          refine wpAnyIn_done (by kernel_rfl) ?_ _
          gi_wp2_with fail
          exact ⟨f1, f2, hjkx.out ▸ hJ3, f3, f4, f5, hm1, hm2⟩
        · refine hK _ _ ?_
          clear hK K
          try simp only [Act.put, List.getElem_toArray, List.getElem_cons_zero, List.getElem_cons_succ, List.setIfInBounds_toArray, List.set_cons_zero, List.set_cons_succ]
          obtain ⟨f1, f2, f3, f4, f5⟩ := kf.out x1 A2 _ Kx1 hk3
          refine wpAnyIn_ready (rs := [4]) (by kernel_rfl) (by simp) ?_
          refine AllReadyIn.cons rfl (fun K hK => ?_) AllReadyIn.nil
          go_simp
          refine hK _ _ ?_
          clear hK K
          try simp only [Act.put, List.getElem_toArray, List.getElem_cons_zero, List.getElem_cons_succ, List.setIfInBounds_toArray, List.set_cons_zero, List.set_cons_succ]
          refine wpAnyIn_done (by kernel_rfl) ?_ _
          gi_wp2_with fail
          exact ⟨f1, f2, rfl, hjne.out, _, rfl, rfl, hJ3⟩
      · go_simp
        refine ⟨trivial, fun _ => by omega, (CallsIn.inRound lr (callsIn_wide.2 (cC _ Kwd))).mono ?_⟩
        rintro e1 x1 ⟨a2, c2, rfl, hr1, kx1, hn1⟩
        refine hK _ _ ?_
        clear hK K
        try simp only [Act.put, List.getElem_toArray, List.getElem_cons_zero, List.getElem_cons_succ, List.setIfInBounds_toArray, List.set_cons_zero, List.set_cons_succ]
        have Yx1 := kpAt kx1 Ywd
        have Kx1 := Kwd.trans kx1 (by simp)
        have hn2 : ∀ k ∈ blk a2, A.heap.size ≤ k := fun k hk => Nat.le_trans (hzA.out _ Kwd) (hn1 k hk)
        refine wpAnyIn_ready (rs := [0]) (by kernel_rfl) (by simp) ?_
        refine AllReadyIn.cons rfl (fun K hK => ?_) AllReadyIn.nil
        go_simp
        refine hK _ _ ?_
        clear hK K
        try simp only [Act.put, List.getElem_toArray, List.getElem_cons_zero, List.getElem_cons_succ, List.setIfInBounds_toArray, List.set_cons_zero, List.set_cons_succ]
        refine wpAnyIn_ready (rs := [3]) (by kernel_rfl) (by simp) ?_
        refine AllReadyIn.cons rfl (fun K hK => ?_) AllReadyIn.nil
        obtain ⟨fn, tmps, assign, body, hyl, hR⟩ := hgive.out x1 a2 c2 Kx1 hr1 hn2
        have hR' : RoundIn (Fence.wide.inRound lr) (d - 1 - 1 - 1) Try.prog ly fn tmps assign body x1 _ := RoundIn.anyDepth (F := Fence.wide.inRound lr) rfl hR
        go_simp
        refine ⟨fun _ => by omega, hR'.mono ?_⟩
        clear hR hyl
        rintro e2 A2 (⟨rfl, hJ3, hk3⟩ | ⟨rfl, hJ3, hk3⟩)
        · refine hK _ _ ?_
          clear hK K
          try simp only [Act.put, List.getElem_toArray, List.getElem_cons_zero, List.getElem_cons_succ, List.setIfInBounds_toArray, List.set_cons_zero, List.set_cons_succ]
          obtain ⟨f1, f2, f3, f4, f5⟩ := kf.out x1 A2 _ Kx1 hk3
          refine wpAnyIn_ready (rs := [4]) (by kernel_rfl) (by simp) ?_
          refine AllReadyIn.cons rfl (fun K hK => ?_) AllReadyIn.nil
          go_simp
          refine hK _ _ ?_
          clear hK K
          try simp only [Act.put, List.getElem_toArray, List.getElem_cons_zero, List.getElem_cons_succ, List.setIfInBounds_toArray, List.set_cons_zero, List.set_cons_succ]
          refine wpAnyIn_done (by kernel_rfl) ?_ _
          gi_wp2_with fail
          exact ⟨f1, f2, hjkx.out ▸ hJ3, f3, f4, f5, hm1, hm2⟩
        · refine hK _ _ ?_
          clear hK K
          try simp only [Act.put, List.getElem_toArray, List.getElem_cons_zero, List.getElem_cons_succ, List.setIfInBounds_toArray, List.set_cons_zero, List.set_cons_succ]
          obtain ⟨f1, f2, f3, f4, f5⟩ := kf.out x1 A2 _ Kx1 hk3
          refine wpAnyIn_ready (rs := [4]) (by kernel_rfl) (by simp) ?_
          refine AllReadyIn.cons rfl (fun K hK => ?_) AllReadyIn.nil
          go_simp
          refine hK _ _ ?_
          clear hK K
          try simp only [Act.put, List.getElem_toArray, List.getElem_cons_zero, List.getElem_cons_succ, List.setIfInBounds_toArray, List.set_cons_zero, List.set_cons_succ]
          refine wpAnyIn_done (by kernel_rfl) ?_ _
          gi_wp2_with fail
          exact ⟨f1, f2, rfl, hjne.out, _, rfl, rfl, hJ3⟩
  case done =>
    rintro D s X hD ⟨hmd, hsi⟩ ⟨hJ, _⟩ hK
    have hJD := hT _ _ _ _ hJ (StepT.same rfl rfl (TurnT.ofGrown (B0 := B0) (grownBy_putObj' X D (.deferred none)) (fun r e => by cases e; exact ⟨by rw [hB0.out]; exact hD, _, hK, rfl⟩)))
    gi_wp2_with fail
    refine ⟨by simp, .inl ⟨_, _, rfl, run_takeDeferred hK, ?_⟩⟩
    exact ⟨_, results_none rfl _ _ _, ⟨_, rfl⟩, .inl ⟨_, ⟨rfl, hsi, rfl⟩, hJD⟩⟩
  case stop =>
    rintro D c s X hD _ ⟨rfl, _, sb, hm, hs0, hJ⟩ hK
    have hJD := hX _ _ _ hJ ⟨hm, TurnT.ofGrown (grownBy_putObj' X D (.deferred none)) (fun r e => by cases e; exact ⟨by rw [hs0, hB0.out]; exact hD, _, hK, rfl⟩)⟩
    gi_wp2_with fail
    refine ⟨by simp, .inl ⟨_, _, rfl, run_takeDeferred hK, ?_⟩⟩
    exact ⟨_, results_none rfl _ _ _, ⟨_, rfl⟩, .inr ⟨sb, trivial, hJD⟩⟩
end Go.Proofs.Ytdjlefacdfdhmaa
end

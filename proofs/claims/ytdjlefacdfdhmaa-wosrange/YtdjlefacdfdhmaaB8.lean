/- All that a range gives, gathered: the law's gone, slices.Collect. Take; the law's spoilt. The reference's Same, SameAll, Place. -/
import Derived.Test.YtdjlefacdfdhmaaB6
import Derived.Test.YtdjlefacdfdhmaaB7
section
namespace Go.Proofs.Ytdjlefacdfdhmaa
open Go.RowKit Go.Hay
attribute [local go_sem] Oper.semAt_some
set_option linter.unusedVariables false
set_option linter.unusedSimpArgs false

theorem wpAppRunIn {F : Fence} {n : Nat} {P : Program} {w w' : World} {ops : Array Oper} {rest : List Oper} {o : Oper} {a : Act} {Q : Exit → Act → World → Prop} (hgd : o.guard = none) (s x : Operand) (t tx : TypeId)
    (ho : o.op = .call { callee := .builtin .append, args := #[s, x], argTypes := #[t, tx] }) (v xv v' : Value) (hv : a.eval s = v) (hx : a.eval x = xv)
    (hrun : (Builtin.append_ #[t, tx] o.type #[v, xv]).run P w = .ok v' w') (h : wpListIn F n P ops Q rest (a.put o.dst v') w') : wpListIn F n P ops Q (o :: rest) a w := by
  refine wpListIn_plain hgd fun K hK' => ?_
  unfold Oper.wpIn
  refine ⟨?_, ?_⟩
  · simp [Oper.about, ho, resolve, Target.leads, Sem.run_pure]
  · rw [Oper.semAt_plain F _ _ (by rw [ho]; intro c hc'; cases hc')]
    simp [execOp, ho, resolve, invoke, builtin, hv, hx, hrun, Result.andThen]
    exact hK' _ _ h
/-- A version whose row is the holder's own. -/
structure Ownd (n0 : Nat) (W : World) (y : Vn) : Prop where
  row : VE.Row W (.slice y.a y.row.length y.c) y.row
  new : ∀ k ∈ blk y.a, n0 ≤ k
  few : y.row.length * 40 ≤ 140737488355328
theorem Ownd.kept {n0 : Nat} {W W' : World} {y : Vn} {S : List Nat} (h : Ownd n0 W y) (hk : Kp S W W') (hn : ∀ k ∈ blk y.a, k ∉ S) : Ownd n0 W' y := ⟨h.row.kept hk (fun k hk' => hn k (by rw [own_slice] at hk'; exact hk')), h.new, h.few⟩
theorem Ownd.lt {n0 : Nat} {W : World} {y : Vn} (h : Ownd n0 W y) : ∀ k ∈ blk y.a, k < W.heap.size := fun k hk => h.row.lt k (by rw [own_slice]; exact hk)
theorem Ownd.ok {n0 : Nat} {W : World} {y : Vn} (h : Ownd n0 W y) : VnOk W y := by
  obtain ⟨_, _, e, hs, hn, hl, _⟩ := h.row.see
  cases e
  exact ⟨hs, hl, fun e => (hn e).2, h.few⟩
/-- How who gathers stands between two rounds. -/
structure GoI (w : World) (l : List Vn) (f : Vn → Option Vn) (q wl : Nat) (va : Value) (L : List Vn) (s : Sb) (W : World) : Prop where
  kp : Kp [] w W
  box : Bx W q [va]
  row : VnE.Row W va L
  nw : ∀ k ∈ own va, wl ≤ k ∧ k ∉ s.js
  rows : ∀ y ∈ L, Ownd wl W y ∧ ∀ k ∈ blk y.a, k ∉ own va
  like : Like L ((l.take s.i).filterMap f)
  mb : s.made = true → wl + 2 ≤ s.B0
  js : ∀ j ∈ s.js, j ≠ q ∧ j ≠ wl ∧ j ≠ wl + 1
  jl : ∀ j ∈ s.js, j < W.heap.size
  ne : L = [] → va = .slice none 0 0
  un : s.made = false → s.v = none
  gv : ∀ y, s.v = some y → ∃ x z, l[s.i]? = some x ∧ f x = some z ∧ y.p = z.p ∧ Ownd wl W y ∧ ∀ k ∈ blk y.a, k ∉ s.js ∧ k ∉ own va
section
variable {w : World} {l : List Vn} {f : Vn → Option Vn} {q wl : Nat}
theorem Ck.own {X Y : World} (h : Ck X Y) {n0 : Nat} {y : Vn} (hy : Ownd n0 X y) : Ownd n0 Y y := ⟨h.rowE hy.row, hy.new, hy.few⟩
def GoJ (w : World) (l : List Vn) (f : Vn → Option Vn) (q wl : Nat) (s : Sb) (W : World) : Prop := ∃ va L, GoI w l f q wl va L s W
theorem GoJ.own (hq : w.heap.size ≤ wl) : OwnFrom wl (GoJ w l f q wl) := fun s X Y row ⟨va, L, h⟩ hg hr => by
  have ht : TurnT wl X Y := TurnT.ofGrown hg hr
  exact ⟨va, L, Kp.turn h.kp ht hq, ht.ck.bx h.box (by simp), ht.ck.rowE h.row, h.nw, fun y hy => ⟨ht.ck.own (h.rows y hy).1, (h.rows y hy).2⟩, h.like, h.mb, h.js, fun j hj => Nat.lt_of_lt_of_le (h.jl j hj) ht.size, h.ne, h.un, fun y hy => by
    obtain ⟨x, z, h1, h2, h3, h4, h5⟩ := h.gv y hy
    exact ⟨x, z, h1, h2, h3, ht.ck.own h4, h5⟩⟩
theorem StepT.low {R : List Nat} {s s' : Sb} {A B : World} (hm : s.made = true → wl + 2 ≤ s.B0) (hz : wl + 2 ≤ A.heap.size) (ht : StepT R l f s s' A B) : wl + 2 ≤ s'.B0 := by
  cases e : s.made with
  | true => have := ht.stays e; have := hm e; omega
  | false => have := (ht.makes e).2.1; omega
theorem filt_skip {f : Vn → Option Vn} {l : List Vn} {i j : Nat} (hij : i ≤ j) (h : ∀ k x, i ≤ k → k < j → l[k]? = some x → f x = none) : (l.take j).filterMap f = (l.take i).filterMap f := by
  obtain ⟨d, rfl⟩ : ∃ d, j = i + d := ⟨j - i, by omega⟩
  clear hij
  induction d with
  | zero => rfl
  | succ d ih =>
    rw [← Nat.add_assoc]
    by_cases hl : i + d < l.length
    · rw [List.take_succ_eq_append_getElem hl, List.filterMap_append, ih (fun k x h1 h2 => h k x h1 (by omega)), List.filterMap_cons, h (i + d) l[i + d] (by omega) (by omega) (by simp [hl])]
      simp
    · rw [List.take_of_length_le (by omega), ← ih (fun k x h1 h2 => h k x h1 (by omega)), List.take_of_length_le (by omega)]
theorem filt_one {f : Vn → Option Vn} {l : List Vn} {i : Nat} {x z : Vn} (hx : l[i]? = some x) (hz : f x = some z) : (l.take (i + 1)).filterMap f = (l.take i).filterMap f ++ [z] := by
  obtain ⟨hl, rfl⟩ := List.getElem?_eq_some_iff.1 hx
  rw [List.take_succ_eq_append_getElem hl, List.filterMap_append, List.filterMap_cons, hz]
  rfl
theorem GoJ.step {R : List Nat} (hq : w.heap.size ≤ wl) (hqw : q < wl) (hR : ∀ k ∈ R, k ≠ q ∧ k ≠ wl ∧ k ≠ wl + 1) (s s' : Sb) (A B : World) (hz : wl + 2 ≤ A.heap.size) (h : GoJ w l f q wl s A) (ht : StepT R l f s s' A B) : GoJ w l f q wl s' B := by
  obtain ⟨va, L, h⟩ := h
  have hB := StepT.low h.mb hz ht
  have made' : s'.made = true := by
    cases e : s.made with
    | true => exact (ht.stays e).1
    | false => exact (ht.makes e).1
  have hjs : ∀ j ∈ s'.js, (j ∈ s.js) ∨ (A.heap.size ≤ j ∧ j < B.heap.size) := fun j hj => (ht.js j hj).imp (fun h => h.1) id
  refine ⟨va, L, Kp.turn h.kp ht.turn (by omega), ht.turn.ck.bx h.box (by simp), ht.turn.ck.rowE h.row, fun k hk => ⟨(h.nw k hk).1, fun hm => ?_⟩, fun y hy => ⟨ht.turn.ck.own (h.rows y hy).1, (h.rows y hy).2⟩, by rw [filt_skip ht.on ht.skip]; exact h.like, fun _ => hB, fun j hj => ?_, fun j hj => ?_, h.ne, fun e => (by rw [made'] at e; cases e), fun y hy => ?_⟩
  · rcases hjs k hm with e | e
    · exact (h.nw k hk).2 e
    · have := h.row.lt k hk; omega
  · rcases hjs j hj with e | e
    · exact h.js j e
    · omega
  · rcases hjs j hj with e | e
    · exact Nat.lt_of_lt_of_le (h.jl j e) ht.turn.size
    · exact e.2
  · rcases ht.given with h1 | ⟨u', x, z, h1, h2, h3, h4⟩
    · rw [h1] at hy; cases hy
    · rw [h1] at hy
      cases hy
      refine ⟨x, z, h2, h3, h4.same, ⟨h4.row, fun k hk => by have := h4.new k hk; omega, h4.few⟩, fun k hk => ⟨fun hm => ?_, fun hm => ?_⟩⟩
      · rcases ht.gjs with e | e
        · rw [h1] at e; cases e
        · rw [e] at hm
          have := h.jl k hm; have := h4.new k hk; omega
      · have := h.row.lt k hm; have := h4.new k hk; omega
end
/-- What is gathered: versions whose rows are all new, in a row that is new. -/
def GoneP (T : List Vn) (w : World) (e : Ending) (w' : World) : Prop :=
  ∃ L a c, e = .returned (.slice a L.length c) ∧ Like L T ∧ VnE.Row w' (.slice a L.length c) L ∧ Kp [] w w' ∧ (∀ k ∈ blk a, w.heap.size ≤ k) ∧ ∀ y ∈ L, Ownd w.heap.size w' y ∧ ∀ k ∈ blk y.a, k ∉ blk a

set_option maxHeartbeats 16000000 in
set_option maxRecDepth 100000 in
theorem cGone (g : Nat) (lb : Array Value) (eg : ∀ args w, (callFunc g args).run Try.prog w = .ok (.enter g args) w) (R : List Nat) (l : List Vn) (f : Vn → Option Vn) (s0 : Sb) (hm0 : s0.made = false) (hv0 : s0.v = none) (hi0 : s0.i = 0) (w : World) (hj0 : ∀ j ∈ s0.js, j < w.heap.size) (hR : ∀ k ∈ R, k < w.heap.size) (hf : l.length ≤ 4000000000000)
    (hseq : ∀ W, Kp [] w W → SeqX Fence.wide 7 Try.prog g lb encV (StepT R l f) StepX KeepT okT Sb.nx (fun s => s.made = true ∧ s.i = l.length ∧ s.v = none) (fun _ => True) s0 W) :
    Calls Try.prog 11 #[.func (.func g) #[] lb] w (GoneP (l.filterMap f) w) := by
  obtain ⟨w1, hw1⟩ : ∃ w1, w.alloc (.cells #[.slice none 0 0] 26) = w1 := ⟨_, rfl⟩
  have k1 : Kp [] w w1 := by rw [← hw1]; exact (Kp.refl _ _).alloc _
  have b1 : Bx w1 w.heap.size [.slice none 0 0] := by rw [← hw1]; exact Bx.new w [.slice none 0 0] _
  have hz1 : w1.heap.size = w.heap.size + 1 := by rw [← hw1]; simp
  have hsq := hseq w1 k1
  have hG0 : GoJ w l f w.heap.size w1.heap.size s0 w1 := ⟨.slice none 0 0, [], k1, b1, El.Row.nil _, by simp [own, Value.ownBlock], by simp, by rw [hi0]; rfl, fun h => (by rw [hm0] at h; cases h), fun j hj => by have := hj0 j hj; omega, fun j hj => by have := hj0 j hj; omega, fun _ => rfl, fun _ => hv0, fun y hy => by rw [hv0] at hy; cases hy⟩
  refine (callsIn_wide (n := 8)).1 ?_
  refine callsIn_of_wp_marks Try.func11 rfl trivial ?_ rfl
  simp only [Try.ntmps11, List.size_toArray, List.length_cons, List.length_nil, Nat.reduceAdd, Nat.reduceSub, Array.replicate_succ, Array.replicate_zero, List.push_toArray, List.append_toArray, List.nil_append, List.cons_append]
  refine wpIn_wide.2 ?_
  go_wp2_with fail
  refine (wpIn_wide (n := 8)).1 ?_
  clear hw1
  have hqw : w.heap.size < w1.heap.size := by omega
  refine wpRangeY rfl (by omega) (gf := g) (lb := lb) rfl trivial eg
    hsq (fun _ => rfl) KeepT.trans (fun s => KeepT.alloc s) (KeepT.refl _ _)
    (GoJ w l f w.heap.size w1.heap.size) (fun _ _ _ => False) (GoJ.own (by omega)) (fun _ _ _ _ _ h _ _ => h) hG0
    (fun s s' A B h ht k o hk ho => ?hTk) (fun _ _ _ _ h => h.elim) (fun s s' A B hz h ht => GoJ.step (by omega) hqw (fun k hk => by have := hR k hk; omega) s s' A B hz h ht) (fun _ _ _ _ h => h.elim)
    (fun s W o' h => ?hKb) (fun s x W o' h => ?hKc) (fun _ _ _ _ _ h => h.elim)
    (fun x => .cells #[.int .u64 x.ep, .int .u32 x.num, .slice x.a x.row.length x.c, .int .u64 x.del] 45)
    (fun x q3 => { tmps := #[.func (.func g) #[] lb, undef, .slice none 0 0, .pointer (some ⟨w.heap.size, 0, none⟩), .pointer (some ⟨q3, 0, none⟩), .func (.func g) #[] lb, .agg #[.int .u64 x.ep, .int .u32 x.num, .slice x.a x.row.length x.c, .int .u64 x.del], undef, undef, undef, undef, undef], defers := [] }) ?assign ?body ?done ?stop
  case hTk =>
    obtain ⟨va, L, h⟩ := h
    refine (ht.turn.low (Array.getElem?_eq_some_iff.1 ho).1 ?_).trans ho
    cases e : s.made with
    | true => have := (ht.stays e).2; have := h.mb e; omega
    | false => have := (ht.makes e).2.1; have := (Array.getElem?_eq_some_iff.1 ho).1; omega
  case hKb =>
    obtain ⟨va, L, h⟩ := h
    exact KeepT.putObj (fun j hj => (h.js j hj).2.2) (fun e => by have := h.mb e; omega) W o'
  case hKc =>
    obtain ⟨va, L, h⟩ := h
    exact KeepT.putObj (s := s) (fun j hj => (h.js j hj).2.2) (fun e => by have : w1.heap.size + 2 ≤ s.B0 := h.mb e; omega) W o'
  case assign =>
    intro l x W C hC
    gi_wp2_with fail
    exact hC
  case body =>
    rintro lr s x A q3 ⟨va, L, h⟩ hok hob hq3
    have hok' : s.v = some x := hok
    obtain ⟨x0, z0, hx0, hz0, hpz, hown, hoff⟩ := h.gv x hok'
    have hbx : ∀ z : Nat, A.cell? ⟨q3, z, none⟩ = (#[.int .u64 x.ep, .int .u32 x.num, .slice x.a x.row.length x.c, .int .u64 x.del] : Array Value)[z]? := fun z => by
      unfold World.cell?
      simp [hob]
    have v0 := hbx 0; have v1 := hbx 1; have v2 := hbx 2; have v3 := hbx 3
    have hLl : L.length ≤ l.length := by
      rw [h.like.len]
      refine Nat.le_trans (List.length_filterMap_le _ _) ?_
      rw [List.length_take]; omega
    obtain ⟨a, c, rfl, _⟩ := h.row.see
    have bq := h.box.get 0 _ rfl
    have fq := h.box.free 0
    obtain ⟨A1, hA1⟩ : ∃ A1, A.alloc (.cells #[.int .u64 x.ep, .int .u32 x.num, .slice x.a x.row.length x.c, .int .u64 x.del] 45) = A1 := ⟨_, rfl⟩
    have kA1 : Kp [] A A1 := by rw [← hA1]; exact (Kp.refl _ _).alloc _
    have bx1 : Bx A1 A.heap.size (VnE.c x) := by rw [← hA1]; exact Bx.new A (VnE.c x) _
    obtain ⟨i0, hi, hz0', hz1', hz2'⟩ := infoN
    have hsr := bx1.see1.src (P := Try.prog) Try.underlying26 1
    obtain ⟨v', A2, hrun, hrow2, k2, hn2⟩ := run_appendG (E := VnE) (P := Try.prog) A1 26 26 26 45 i0 _ 48 Try.underlying26 hi hz0' hz1' hz2' rfl (.slice a L.length c) L (h.row.keptNew kA1) _ [x] hsr (by simp only [List.length_cons, List.length_nil]; omega) (by simp only [List.length_cons, List.length_nil]; omega)
    obtain ⟨a', c', rfl, _⟩ := hrow2.see
    simp only [own_slice] at k2 hn2
    have zA := h.kp.size
    have hqA : w.heap.size < A.heap.size := h.box.lt (by simp)
    have nw' : ∀ k ∈ blk a, w1.heap.size ≤ k ∧ k ∉ s.js := fun k hk => h.nw k (by rw [own_slice]; exact hk)
    have hqa : w.heap.size ∉ blk a := fun hm => by have := (nw' _ hm).1; omega
    have bq2 : A2.cell? ⟨w.heap.size, 0, none⟩ = some (.slice a L.length c) := (k2.cell (p := ⟨w.heap.size, 0, none⟩) (Nat.lt_of_lt_of_le hqA kA1.size) hqa).trans (kpAt kA1 bq)
    have bx2 : Bx A2 w.heap.size [.slice a L.length c] := (h.box.kept kA1 hqA).keptS k2 hqa (Nat.lt_of_lt_of_le hqA kA1.size)
    have fq2 := bx2.free 0
    obtain ⟨A3, hA3⟩ : ∃ A3, A2.setCell ⟨w.heap.size, 0, none⟩ (.slice a' (L ++ [x]).length c') = A3 := ⟨_, rfl⟩
    have k3 : Kp [w.heap.size] A2 A3 := by rw [← hA3]; exact (Kp.refl _ _).setCell (.inl (by simp)) _
    have bx3 : Bx A3 w.heap.size [.slice a' (L ++ [x]).length c'] := by rw [← hA3]; exact bx2.set 0 (by simp) _
    have hz2 := k2.size
    have hzA1 := kA1.size
    have nw2 : ∀ k ∈ blk a', w1.heap.size ≤ k ∧ k ∉ s.js ∧ (k ∈ blk a ∨ A1.heap.size ≤ k) := fun k hk => by
      rcases hn2 k hk with e | e
      · exact ⟨(nw' k e).1, (nw' k e).2, .inl e⟩
      · exact ⟨by omega, fun hm => by have := h.jl k hm; omega, .inr e⟩
    have hqa' : w.heap.size ∉ blk a' := fun hm => by have := (nw2 _ hm).1; omega
    have kA3 : Kp (w.heap.size :: blk a) A A3 := ((kA1.mono (T := w.heap.size :: blk a) (by simp)).trans k2 (fun k hk => .inl (by simp [hk]))).trans k3 (fun k hk => .inl (by simp at hk; simp [hk]))
    have hrow3 : VnE.Row A3 (.slice a' (L ++ [x]).length c') (L ++ [x]) := hrow2.kept k3 (fun k hk hm => by rw [own_slice] at hk; simp at hm; subst hm; exact hqa' hk)
    have hkeepO : ∀ y, Ownd w1.heap.size A y → (∀ k ∈ blk y.a, k ∉ blk a) → Ownd w1.heap.size A3 y ∧ ∀ k ∈ blk y.a, k ∉ own (.slice a' (L ++ [x]).length c') := fun y hy hn => by
      refine ⟨hy.kept kA3 (fun k hk hm => ?_), fun k hk hm => ?_⟩
      · rcases List.mem_cons.1 hm with e | e
        · have := hy.new k hk; omega
        · exact hn k hk e
      · rw [own_slice] at hm
        rcases (nw2 k hm).2.2 with e | e
        · exact hn k hk e
        · have := hy.lt k hk; omega
    have hJ : GoJ w l f w.heap.size w1.heap.size (s.nx x) A3 := by
      refine ⟨_, L ++ [x], h.kp.trans kA3 (fun k hk => .inr ?_), bx3, hrow3, fun k hk => ?_, fun y hy => ?_, ?_, h.mb, h.js, fun j hj => Nat.lt_of_lt_of_le (h.jl j hj) kA3.size, fun e => (by simp at e), fun e => rfl, fun y hy => (by cases hy)⟩
      · rcases List.mem_cons.1 hk with e | e
        · omega
        · have := (nw' k e).1; omega
      · rw [own_slice] at hk; exact ⟨(nw2 k hk).1, (nw2 k hk).2.1⟩
      · rcases List.mem_append.1 hy with e | e
        · exact hkeepO y (h.rows y e).1 (fun k hk hm => (h.rows y e).2 k hk (by rw [own_slice]; exact hm))
        · rw [List.mem_singleton] at e
          subst e
          exact hkeepO y hown (fun k hk hm => (hoff k hk).2 (by rw [own_slice]; exact hm))
      · show Like (L ++ [x]) ((l.take (s.i + 1)).filterMap f)
        rw [filt_one hx0 hz0]
        exact h.like.append (Like.mk hpz (Like.refl []))
    have hKeepR : ∀ (k : Nat) (o : Obj), A.heap[k]? = some o → o.isCells = false → A3.heap[k]? = some o := fun k o ho hc => (kA3.block k (Array.getElem?_eq_some_iff.1 ho).1 (fun hm => by
        have hcell : ∃ ob : Obj, A.heap[k]? = some ob ∧ ob.isCells = true := by
          rcases List.mem_cons.1 hm with e | e
          · subst e; exact isCells_of bq
          · by_cases hL : L = []
            · have := h.ne hL
              simp only [Value.slice.injEq] at this
              rw [this.1] at e
              simp [blk] at e
            · obtain ⟨_, _, e1, hs1, _⟩ := h.row.see
              cases e1
              obtain ⟨y0, L0, rfl⟩ := List.exists_cons_of_ne_nil hL
              obtain ⟨g1, o1, e2, c0, _⟩ := idAt hs1 (i := 0) (x := y0) rfl
              subst e2
              simp [blk] at e
              subst e
              exact isCells_of c0
        obtain ⟨ob, hob', hc'⟩ := hcell
        rw [ho] at hob'
        cases hob'
        rw [hc] at hc'
        cases hc')).trans ho
    have hKeep : KeepT s A A3 := ⟨KeepN.ofKp kA3 (fun j hj hm => by
      rcases List.mem_cons.1 hm with e | e
      · exact (h.js j hj).1 e
      · exact (nw' j e).2 hj), fun _ k o hk ho hc => hKeepR k o ho hc⟩
    have hKF : KeepsFrom w1.heap.size A A3 := ⟨kA3.size, fun k o _ ho hc => hKeepR k o ho hc⟩
    have HB := hid (And.intro hKF (And.intro hKeep hJ))
    obtain ⟨NL, hNL⟩ : ∃ n, Hid ((L ++ [x]).length = n) := ⟨_, rfl⟩
    rw [hNL.out] at hA3 hrun
    obtain ⟨ep, num, xa, xc, row, del⟩ := x
    dsimp only at v0 v1 v2 v3 hA1
    clear h hok hok' hob hbx hown hoff hrow2 k2 hn2 hrow3 hkeepO hJ hKeep hKF kA3 k3 bx3 bx2 bx1 hsr kA1 hx0 hz0 hpz
    gi_wp2_with (first | (refine wpAppRunIn rfl _ _ 26 26 rfl _ _ _ rfl rfl hrun ?_) | fail)
    exact HB.out
  case done =>
    rintro D s X hD ⟨hmd, hsi, hsv⟩ ⟨va, L, h⟩ hK
    obtain ⟨a, c, rfl, _⟩ := h.row.see
    have bq := h.box.get 0 _ rfl
    have kp : Kp [D] X (X.putObj D (.deferred none)) := ⟨rfl, rfl, rfl, by simp, fun k hk hn => World.putObj_heap_other (by simpa using hn)⟩
    have hck : Ck X (X.putObj D (.deferred none)) := ⟨kp.size, fun k o ho hc => (kp.block k (Array.getElem?_eq_some_iff.1 ho).1 (fun hm => by
      simp at hm
      subst hm
      rw [hK] at ho
      cases ho
      cases hc)).trans ho⟩
    have hfin : GoneP (l.filterMap f) w (.returned (.slice a L.length c)) (X.putObj D (.deferred none)) := by
      have e : Like L (l.filterMap f) := by have := h.like; rwa [hsi, List.take_length] at this
      exact ⟨L, a, c, rfl, e, hck.rowE h.row, h.kp.trans kp (fun k hk => .inr (by simp at hk; omega)), fun k hk => by have := (h.nw k (by rw [own_slice]; exact hk)).1; omega, fun y hy => ⟨⟨(hck.own (h.rows y hy).1).row, fun k hk => by have := (h.rows y hy).1.new k hk; omega, (h.rows y hy).1.few⟩, fun k hk hm => (h.rows y hy).2 k hk (by rw [own_slice]; exact hm)⟩⟩
    have hH := hid hfin
    clear hfin hck kp h
    go_wp2_with fail
    refine ⟨by simp, .inl ⟨_, _, rfl, run_takeDeferred hK, ?_⟩⟩
    exact ⟨.slice a L.length c, by simp [results, Try.results11, go_sem], hH.out⟩
  case stop =>
    rintro D c s X hD _ h
    exact h.elim

set_option maxHeartbeats 16000000 in
set_option maxRecDepth 100000 in
theorem cAppSeq (g : Nat) (lb : Array Value) (eg : ∀ args w, (callFunc g args).run Try.prog w = .ok (.enter g args) w) (R : List Nat) (l : List Vn) (f : Vn → Option Vn) (s0 : Sb) (hm0 : s0.made = false) (hv0 : s0.v = none) (hi0 : s0.i = 0) (w : World) (hj0 : ∀ j ∈ s0.js, j < w.heap.size) (hR : ∀ k ∈ R, k < w.heap.size) (hf : l.length ≤ 4000000000000)
    (hseq : ∀ W, Kp [] w W → SeqX Fence.wide 7 Try.prog g lb encV (StepT R l f) StepX KeepT okT Sb.nx (fun s => s.made = true ∧ s.i = l.length ∧ s.v = none) (fun _ => True) s0 W) :
    Calls Try.prog 53 #[.slice none 0 0, .func (.func g) #[] lb] w (GoneP (l.filterMap f) w) := by
  obtain ⟨w1, hw1⟩ : ∃ w1, w.alloc (.cells #[.slice none 0 0] 26) = w1 := ⟨_, rfl⟩
  have k1 : Kp [] w w1 := by rw [← hw1]; exact (Kp.refl _ _).alloc _
  have b1 : Bx w1 w.heap.size [.slice none 0 0] := by rw [← hw1]; exact Bx.new w [.slice none 0 0] _
  have hz1 : w1.heap.size = w.heap.size + 1 := by rw [← hw1]; simp
  have hsq := hseq w1 k1
  have hG0 : GoJ w l f w.heap.size w1.heap.size s0 w1 := ⟨.slice none 0 0, [], k1, b1, El.Row.nil _, by simp [own, Value.ownBlock], by simp, by rw [hi0]; rfl, fun h => (by rw [hm0] at h; cases h), fun j hj => by have := hj0 j hj; omega, fun j hj => by have := hj0 j hj; omega, fun _ => rfl, fun _ => hv0, fun y hy => by rw [hv0] at hy; cases hy⟩
  refine (callsIn_wide (n := 8)).1 ?_
  refine callsIn_of_wp_marks Try.func53 rfl trivial ?_ rfl
  simp only [Try.ntmps53, List.size_toArray, List.length_cons, List.length_nil, Nat.reduceAdd, Nat.reduceSub, Array.replicate_succ, Array.replicate_zero, List.push_toArray, List.append_toArray, List.nil_append, List.cons_append]
  refine wpIn_wide.2 ?_
  go_wp2_with fail
  refine (wpIn_wide (n := 8)).1 ?_
  clear hw1
  have hqw : w.heap.size < w1.heap.size := by omega
  refine wpRangeY rfl (by omega) (gf := g) (lb := lb) rfl trivial eg
    hsq (fun _ => rfl) KeepT.trans (fun s => KeepT.alloc s) (KeepT.refl _ _)
    (GoJ w l f w.heap.size w1.heap.size) (fun _ _ _ => False) (GoJ.own (by omega)) (fun _ _ _ _ _ h _ _ => h) hG0
    (fun s s' A B h ht k o hk ho => ?hTk) (fun _ _ _ _ h => h.elim) (fun s s' A B hz h ht => GoJ.step (by omega) hqw (fun k hk => by have := hR k hk; omega) s s' A B hz h ht) (fun _ _ _ _ h => h.elim)
    (fun s W o' h => ?hKb) (fun s x W o' h => ?hKc) (fun _ _ _ _ _ h => h.elim)
    (fun x => .cells #[.int .u64 x.ep, .int .u32 x.num, .slice x.a x.row.length x.c, .int .u64 x.del] 45)
    (fun x q3 => { tmps := #[.slice none 0 0, .func (.func g) #[] lb, .pointer (some ⟨w.heap.size, 0, none⟩), undef, .slice none 0 0, .pointer (some ⟨q3, 0, none⟩), .func (.func g) #[] lb, .agg #[.int .u64 x.ep, .int .u32 x.num, .slice x.a x.row.length x.c, .int .u64 x.del], undef, undef, undef, undef, undef], defers := [] }) ?assign ?body ?done ?stop
  case hTk =>
    obtain ⟨va, L, h⟩ := h
    refine (ht.turn.low (Array.getElem?_eq_some_iff.1 ho).1 ?_).trans ho
    cases e : s.made with
    | true => have := (ht.stays e).2; have := h.mb e; omega
    | false => have := (ht.makes e).2.1; have := (Array.getElem?_eq_some_iff.1 ho).1; omega
  case hKb =>
    obtain ⟨va, L, h⟩ := h
    exact KeepT.putObj (fun j hj => (h.js j hj).2.2) (fun e => by have := h.mb e; omega) W o'
  case hKc =>
    obtain ⟨va, L, h⟩ := h
    exact KeepT.putObj (s := s) (fun j hj => (h.js j hj).2.2) (fun e => by have : w1.heap.size + 2 ≤ s.B0 := h.mb e; omega) W o'
  case assign =>
    intro l x W C hC
    gi_wp2_with fail
    exact hC
  case body =>
    rintro lr s x A q3 ⟨va, L, h⟩ hok hob hq3
    have hok' : s.v = some x := hok
    obtain ⟨x0, z0, hx0, hz0, hpz, hown, hoff⟩ := h.gv x hok'
    have hbx : ∀ z : Nat, A.cell? ⟨q3, z, none⟩ = (#[.int .u64 x.ep, .int .u32 x.num, .slice x.a x.row.length x.c, .int .u64 x.del] : Array Value)[z]? := fun z => by
      unfold World.cell?
      simp [hob]
    have v0 := hbx 0; have v1 := hbx 1; have v2 := hbx 2; have v3 := hbx 3
    have hLl : L.length ≤ l.length := by
      rw [h.like.len]
      refine Nat.le_trans (List.length_filterMap_le _ _) ?_
      rw [List.length_take]; omega
    obtain ⟨a, c, rfl, _⟩ := h.row.see
    have bq := h.box.get 0 _ rfl
    have fq := h.box.free 0
    obtain ⟨A1, hA1⟩ : ∃ A1, A.alloc (.cells #[.int .u64 x.ep, .int .u32 x.num, .slice x.a x.row.length x.c, .int .u64 x.del] 45) = A1 := ⟨_, rfl⟩
    have kA1 : Kp [] A A1 := by rw [← hA1]; exact (Kp.refl _ _).alloc _
    have bx1 : Bx A1 A.heap.size (VnE.c x) := by rw [← hA1]; exact Bx.new A (VnE.c x) _
    obtain ⟨i0, hi, hz0', hz1', hz2'⟩ := infoN
    have hsr := bx1.see1.src (P := Try.prog) Try.underlying26 1
    obtain ⟨v', A2, hrun, hrow2, k2, hn2⟩ := run_appendG (E := VnE) (P := Try.prog) A1 26 26 26 45 i0 _ 48 Try.underlying26 hi hz0' hz1' hz2' rfl (.slice a L.length c) L (h.row.keptNew kA1) _ [x] hsr (by simp only [List.length_cons, List.length_nil]; omega) (by simp only [List.length_cons, List.length_nil]; omega)
    obtain ⟨a', c', rfl, _⟩ := hrow2.see
    simp only [own_slice] at k2 hn2
    have zA := h.kp.size
    have hqA : w.heap.size < A.heap.size := h.box.lt (by simp)
    have nw' : ∀ k ∈ blk a, w1.heap.size ≤ k ∧ k ∉ s.js := fun k hk => h.nw k (by rw [own_slice]; exact hk)
    have hqa : w.heap.size ∉ blk a := fun hm => by have := (nw' _ hm).1; omega
    have bq2 : A2.cell? ⟨w.heap.size, 0, none⟩ = some (.slice a L.length c) := (k2.cell (p := ⟨w.heap.size, 0, none⟩) (Nat.lt_of_lt_of_le hqA kA1.size) hqa).trans (kpAt kA1 bq)
    have bx2 : Bx A2 w.heap.size [.slice a L.length c] := (h.box.kept kA1 hqA).keptS k2 hqa (Nat.lt_of_lt_of_le hqA kA1.size)
    have fq2 := bx2.free 0
    obtain ⟨A3, hA3⟩ : ∃ A3, A2.setCell ⟨w.heap.size, 0, none⟩ (.slice a' (L ++ [x]).length c') = A3 := ⟨_, rfl⟩
    have k3 : Kp [w.heap.size] A2 A3 := by rw [← hA3]; exact (Kp.refl _ _).setCell (.inl (by simp)) _
    have bx3 : Bx A3 w.heap.size [.slice a' (L ++ [x]).length c'] := by rw [← hA3]; exact bx2.set 0 (by simp) _
    have hz2 := k2.size
    have hzA1 := kA1.size
    have nw2 : ∀ k ∈ blk a', w1.heap.size ≤ k ∧ k ∉ s.js ∧ (k ∈ blk a ∨ A1.heap.size ≤ k) := fun k hk => by
      rcases hn2 k hk with e | e
      · exact ⟨(nw' k e).1, (nw' k e).2, .inl e⟩
      · exact ⟨by omega, fun hm => by have := h.jl k hm; omega, .inr e⟩
    have hqa' : w.heap.size ∉ blk a' := fun hm => by have := (nw2 _ hm).1; omega
    have kA3 : Kp (w.heap.size :: blk a) A A3 := ((kA1.mono (T := w.heap.size :: blk a) (by simp)).trans k2 (fun k hk => .inl (by simp [hk]))).trans k3 (fun k hk => .inl (by simp at hk; simp [hk]))
    have hrow3 : VnE.Row A3 (.slice a' (L ++ [x]).length c') (L ++ [x]) := hrow2.kept k3 (fun k hk hm => by rw [own_slice] at hk; simp at hm; subst hm; exact hqa' hk)
    have hkeepO : ∀ y, Ownd w1.heap.size A y → (∀ k ∈ blk y.a, k ∉ blk a) → Ownd w1.heap.size A3 y ∧ ∀ k ∈ blk y.a, k ∉ own (.slice a' (L ++ [x]).length c') := fun y hy hn => by
      refine ⟨hy.kept kA3 (fun k hk hm => ?_), fun k hk hm => ?_⟩
      · rcases List.mem_cons.1 hm with e | e
        · have := hy.new k hk; omega
        · exact hn k hk e
      · rw [own_slice] at hm
        rcases (nw2 k hm).2.2 with e | e
        · exact hn k hk e
        · have := hy.lt k hk; omega
    have hJ : GoJ w l f w.heap.size w1.heap.size (s.nx x) A3 := by
      refine ⟨_, L ++ [x], h.kp.trans kA3 (fun k hk => .inr ?_), bx3, hrow3, fun k hk => ?_, fun y hy => ?_, ?_, h.mb, h.js, fun j hj => Nat.lt_of_lt_of_le (h.jl j hj) kA3.size, fun e => (by simp at e), fun e => rfl, fun y hy => (by cases hy)⟩
      · rcases List.mem_cons.1 hk with e | e
        · omega
        · have := (nw' k e).1; omega
      · rw [own_slice] at hk; exact ⟨(nw2 k hk).1, (nw2 k hk).2.1⟩
      · rcases List.mem_append.1 hy with e | e
        · exact hkeepO y (h.rows y e).1 (fun k hk hm => (h.rows y e).2 k hk (by rw [own_slice]; exact hm))
        · rw [List.mem_singleton] at e
          subst e
          exact hkeepO y hown (fun k hk hm => (hoff k hk).2 (by rw [own_slice]; exact hm))
      · show Like (L ++ [x]) ((l.take (s.i + 1)).filterMap f)
        rw [filt_one hx0 hz0]
        exact h.like.append (Like.mk hpz (Like.refl []))
    have hKeepR : ∀ (k : Nat) (o : Obj), A.heap[k]? = some o → o.isCells = false → A3.heap[k]? = some o := fun k o ho hc => (kA3.block k (Array.getElem?_eq_some_iff.1 ho).1 (fun hm => by
        have hcell : ∃ ob : Obj, A.heap[k]? = some ob ∧ ob.isCells = true := by
          rcases List.mem_cons.1 hm with e | e
          · subst e; exact isCells_of bq
          · by_cases hL : L = []
            · have := h.ne hL
              simp only [Value.slice.injEq] at this
              rw [this.1] at e
              simp [blk] at e
            · obtain ⟨_, _, e1, hs1, _⟩ := h.row.see
              cases e1
              obtain ⟨y0, L0, rfl⟩ := List.exists_cons_of_ne_nil hL
              obtain ⟨g1, o1, e2, c0, _⟩ := idAt hs1 (i := 0) (x := y0) rfl
              subst e2
              simp [blk] at e
              subst e
              exact isCells_of c0
        obtain ⟨ob, hob', hc'⟩ := hcell
        rw [ho] at hob'
        cases hob'
        rw [hc] at hc'
        cases hc')).trans ho
    have hKeep : KeepT s A A3 := ⟨KeepN.ofKp kA3 (fun j hj hm => by
      rcases List.mem_cons.1 hm with e | e
      · exact (h.js j hj).1 e
      · exact (nw' j e).2 hj), fun _ k o hk ho hc => hKeepR k o ho hc⟩
    have hKF : KeepsFrom w1.heap.size A A3 := ⟨kA3.size, fun k o _ ho hc => hKeepR k o ho hc⟩
    have HB := hid (And.intro hKF (And.intro hKeep hJ))
    obtain ⟨NL, hNL⟩ : ∃ n, Hid ((L ++ [x]).length = n) := ⟨_, rfl⟩
    rw [hNL.out] at hA3 hrun
    obtain ⟨ep, num, xa, xc, row, del⟩ := x
    dsimp only at v0 v1 v2 v3 hA1
    clear h hok hok' hob hbx hown hoff hrow2 k2 hn2 hrow3 hkeepO hJ hKeep hKF kA3 k3 bx3 bx2 bx1 hsr kA1 hx0 hz0 hpz
    gi_wp2_with (first | (refine wpAppRunIn rfl _ _ 26 26 rfl _ _ _ rfl rfl hrun ?_) | fail)
    exact HB.out
  case done =>
    rintro D s X hD ⟨hmd, hsi, hsv⟩ ⟨va, L, h⟩ hK
    obtain ⟨a, c, rfl, _⟩ := h.row.see
    have bq := h.box.get 0 _ rfl
    have kp : Kp [D] X (X.putObj D (.deferred none)) := ⟨rfl, rfl, rfl, by simp, fun k hk hn => World.putObj_heap_other (by simpa using hn)⟩
    have hck : Ck X (X.putObj D (.deferred none)) := ⟨kp.size, fun k o ho hc => (kp.block k (Array.getElem?_eq_some_iff.1 ho).1 (fun hm => by
      simp at hm
      subst hm
      rw [hK] at ho
      cases ho
      cases hc)).trans ho⟩
    have hfin : GoneP (l.filterMap f) w (.returned (.slice a L.length c)) (X.putObj D (.deferred none)) := by
      have e : Like L (l.filterMap f) := by have := h.like; rwa [hsi, List.take_length] at this
      exact ⟨L, a, c, rfl, e, hck.rowE h.row, h.kp.trans kp (fun k hk => .inr (by simp at hk; omega)), fun k hk => by have := (h.nw k (by rw [own_slice]; exact hk)).1; omega, fun y hy => ⟨⟨(hck.own (h.rows y hy).1).row, fun k hk => by have := (h.rows y hy).1.new k hk; omega, (h.rows y hy).1.few⟩, fun k hk hm => (h.rows y hy).2 k hk (by rw [own_slice]; exact hm)⟩⟩
    have hH := hid hfin
    clear hfin hck kp h
    go_wp2_with fail
    refine ⟨by simp, .inl ⟨_, _, rfl, run_takeDeferred hK, ?_⟩⟩
    exact ⟨.slice a L.length c, by simp [results, Try.results53, go_sem], hH.out⟩
  case stop =>
    rintro D c s X hD _ h
    exact h.elim

theorem cCollect (g : Nat) (lb : Array Value) (T : List Vn) (w : World) (h : Calls Try.prog 53 #[.slice none 0 0, .func (.func g) #[] lb] w (GoneP T w)) :
    Calls Try.prog 39 #[.func (.func g) #[] lb] w (GoneP T w) := by
  go_enter Try.func39, Try.ntmps39
  go_wp2_with fail
  refine h.mono ?_
  rintro e w2 ⟨L, a, c, rfl, h1⟩
  have hH := hid h1
  clear h1 h
  go_wp2_with fail
  go_returns
  exact ⟨L, a, c, rfl, hH.out⟩
/-- All, gathered. -/
theorem cGoneAll {w : World} {p : Nat} {v : Value} {l : List Vn} (h : Wos w p v l) (q : Nat) (hq : w.cell? ⟨q, 0, none⟩ = some (.pointer (some ⟨p, 0, none⟩))) :
    Calls Try.prog 11 #[.func (.func 38) #[] #[.pointer (some ⟨q, 0, none⟩)]] w (GoneP l w) := by
  obtain ⟨a, c, rfl, _⟩ := h.row.see
  have hlt := h.ltAll
  rw [own_slice] at hlt
  have hrw : ∀ k ∈ rowsB l, k < w.heap.size := fun k hk => by obtain ⟨x, hx, hk'⟩ := mem_rowsB.1 hk; exact (h.ok x hx).lt k hk'
  have := cGone 38 #[.pointer (some ⟨q, 0, none⟩)] (enters_of Try.func38 (by kernel_rfl) rfl) (rowsB l) l some (sT q p a l []) rfl rfl rfl w (fun j hj => by
    simp only [List.nil_append, List.mem_cons, List.mem_append] at hj
    rcases hj with rfl | rfl | hj | hj
    · exact World.block_lt_of_cell? _ _ hq
    · exact h.lt
    · exact hlt j (by simp [hj])
    · exact hrw j hj) hrw h.few (fun W k => allSeq 7 (by omega) q p a c l W ((h.keptNew k).atT (kpAt k hq)))
  rwa [show l.filterMap some = l by simp] at this
theorem cAppAll {w : World} {p : Nat} {v : Value} {l : List Vn} (h : Wos w p v l) (q : Nat) (hq : w.cell? ⟨q, 0, none⟩ = some (.pointer (some ⟨p, 0, none⟩))) :
    Calls Try.prog 53 #[.slice none 0 0, .func (.func 38) #[] #[.pointer (some ⟨q, 0, none⟩)]] w (GoneP l w) := by
  obtain ⟨a, c, rfl, _⟩ := h.row.see
  have hlt := h.ltAll
  rw [own_slice] at hlt
  have hrw : ∀ k ∈ rowsB l, k < w.heap.size := fun k hk => by obtain ⟨x, hx, hk'⟩ := mem_rowsB.1 hk; exact (h.ok x hx).lt k hk'
  have := cAppSeq 38 #[.pointer (some ⟨q, 0, none⟩)] (enters_of Try.func38 (by kernel_rfl) rfl) (rowsB l) l some (sT q p a l []) rfl rfl rfl w (fun j hj => by
    simp only [List.nil_append, List.mem_cons, List.mem_append] at hj
    rcases hj with rfl | rfl | hj | hj
    · exact World.block_lt_of_cell? _ _ hq
    · exact h.lt
    · exact hlt j (by simp [hj])
    · exact hrw j hj) hrw h.few (fun W k => allSeq 7 (by omega) q p a c l W ((h.keptNew k).atT (kpAt k hq)))
  rwa [show l.filterMap some = l by simp] at this
theorem filtAt (e : Int) (l : List Vn) : l.filterMap (fun x => if seenV e x = true then some (asV e x) else none) = atV e l := by
  unfold atV
  induction l with
  | nil => rfl
  | cons x l ih =>
    rw [List.filterMap_cons, List.filter_cons]
    by_cases h : seenV e x = true
    · simp [h, ih]
    · simp [h, ih]
/-- Those at an epoch, gathered. -/
theorem cGoneAt {w : World} {p : Nat} {v : Value} {l : List Vn} (h : Wos w p v l) (q qe : Nat) (e : Int) (hq : w.cell? ⟨q, 0, none⟩ = some (.pointer (some ⟨p, 0, none⟩))) (hqe : w.cell? ⟨qe, 0, none⟩ = some (.int .u64 e)) :
    Calls Try.prog 11 #[.func (.func 28) #[] #[.pointer (some ⟨q, 0, none⟩), .pointer (some ⟨qe, 0, none⟩)]] w (GoneP (atV e l) w) := by
  obtain ⟨a, c, rfl, _⟩ := h.row.see
  have hlt := h.ltAll
  rw [own_slice] at hlt
  have hrw : ∀ k ∈ rowsB l, k < w.heap.size := fun k hk => by obtain ⟨x, hx, hk'⟩ := mem_rowsB.1 hk; exact (h.ok x hx).lt k hk'
  have hql : qe < w.heap.size := World.block_lt_of_cell? _ _ hqe
  have := cGone 28 #[.pointer (some ⟨q, 0, none⟩), .pointer (some ⟨qe, 0, none⟩)] (enters_of Try.func28 (by kernel_rfl) rfl) (rowsB l ++ [qe]) l (fun x => if seenV e x = true then some (asV e x) else none) (sT q p a l [qe]) rfl rfl rfl w (fun j hj => by
    simp only [List.cons_append, List.nil_append, List.mem_cons, List.mem_append] at hj
    rcases hj with rfl | rfl | rfl | hj | hj
    · exact hql
    · exact World.block_lt_of_cell? _ _ hq
    · exact h.lt
    · exact hlt j (by simp [hj])
    · exact hrw j hj) (fun k hk => by
      rcases List.mem_append.1 hk with hk | hk
      · exact hrw k hk
      · simp at hk; omega) h.few (fun W k => atSeq 7 (by omega) q qe p e a c l W ((h.keptNew k).atT (kpAt k hq)) (kpAt k hqe))
  rwa [filtAt] at this
end Go.Proofs.Ytdjlefacdfdhmaa
end

section
namespace Go.Proofs.Ytdjlefacdfdhmaa
open Go.RowKit Go.Hay
set_option linter.unusedVariables false
set_option linter.unusedSimpArgs false

/-- What Take leaves and hands back. -/
def TakeP (p : Nat) (l : List Vn) (w : World) (e : Ending) (w' : World) : Prop :=
  ∃ L a c, e = .returned (.slice a L.length c) ∧ Like L l ∧ VnE.Row w' (.slice a L.length c) L ∧ Kp [p] w w' ∧ (∀ k ∈ blk a, w.heap.size ≤ k) ∧ (∀ y ∈ L, Ownd w.heap.size w' y ∧ ∀ k ∈ blk y.a, k ∉ blk a) ∧ Wos w' p (.slice none 0 0) []
set_option maxHeartbeats 4000000 in
theorem cTake {w : World} {p : Nat} {v : Value} {l : List Vn} (h : Wos w p v l) : Calls Try.prog 22 #[.pointer (some ⟨p, 0, none⟩)] w (TakeP p l w) := by
  have cA := cAll p w
  obtain ⟨w1, hw1⟩ : ∃ w1, w.alloc (.cells #[.pointer (some ⟨p, 0, none⟩)] 23) = w1 := ⟨_, rfl⟩
  have k1 : Kp [] w w1 := by rw [← hw1]; exact (Kp.refl _ _).alloc _
  have hq : w1.cell? ⟨w.heap.size, 0, none⟩ = some (.pointer (some ⟨p, 0, none⟩)) := by rw [← hw1]; exact World.cell?_alloc_new w _ _ 0
  have h1 := h.keptNew k1
  rw [hw1] at cA
  have cC := cCollect _ _ _ _ (cAppAll h1 w.heap.size hq)
  have hplt := h.lt
  have hW := hid h1
  clear h h1 hw1
  go_enter Try.func22, Try.ntmps22
  go_wp2_with fail
  refine cA.mono ?_
  rintro e w1' ⟨rfl, hw1'⟩
  rw [hw1']
  clear hw1' w1' cA
  go_wp2_with fail
  refine cC.mono ?_
  rintro e w2 ⟨L, a, c, rfl, hL, hrow, k2, hn, hown⟩
  clear cC
  have h2 := hW.out.keptNew k2
  have c2 := h2.c0
  have f2 := h2.free 0
  have z1 := k1.size; have z2 := k2.size
  have ks : Kp [p] w2 (w2.setCell ⟨p, 0, none⟩ (.slice none 0 0)) := (Kp.refl _ _).setCell (.inl (by simp)) _
  have hH : Hid (TakeP p l w (.returned (.slice a L.length c)) (w2.setCell ⟨p, 0, none⟩ (.slice none 0 0))) := by
    refine ⟨L, a, c, rfl, hL, hrow.kept ks (fun k hk hm => ?_), ((k1.trans k2 (by simp)).mono (by simp)).trans ks (fun _ h => .inl h), fun k hk => by have := hn k hk; omega, fun y hy => ⟨?_, (hown y hy).2⟩, ⟨World.cell?_setCell_same _ _ _ c2, setCell_free h2.free _, El.Row.nil _, by simp, by simp [own, Value.ownBlock], by simp, List.Pairwise.nil, by simp⟩⟩
    · rw [own_slice] at hk; simp at hm; have := hn k hk; omega
    · have h3 := (hown y hy).1.kept ks (fun k hk hm => by simp at hm; have := (hown y hy).1.new k hk; omega)
      exact ⟨h3.row, fun k hk => by have := h3.new k hk; omega, h3.few⟩
  clear hrow hown hL h2 ks
  go_wp2_with fail
  go_returns
  exact hH.out
/-- A version whose row may be written over. -/
def Wrt (w : World) (y : Vn) : Prop := y.row = [] ∨ ∃ g o, y.a = some ⟨g, o, none⟩ ∧ ∀ j, j < y.row.length * 4 → (w.cell? ⟨g, o + j, none⟩).isSome = true ∧ w.frozen? ⟨g, o + j, none⟩ = false
theorem Ownd.wrt {n0 : Nat} {w : World} {y : Vn} (h : Ownd n0 w y) : Wrt w y := by
  rcases h.row with ⟨_, e⟩ | ⟨g, o, cap, e, hl, hm, hg, hc, ht⟩
  · exact .inl e
  · simp only [Value.slice.injEq] at e
    refine .inr ⟨g, o, e.1, fun j hj => ht j ?_⟩
    show j < cap * 4
    omega
theorem some_set {w : World} {p q : Addr} {u : Value} (h : (w.cell? q).isSome = true) : ((w.setCell p u).cell? q).isSome = true := by
  by_cases e : p = q
  · subst e
    obtain ⟨v, hv⟩ := Option.isSome_iff_exists.1 h
    rw [World.cell?_setCell_same _ _ _ hv]; rfl
  · rw [World.cell?_setCell_other _ _ _ _ e]; exact h
theorem Wrt.set {w : World} {y : Vn} (h : Wrt w y) (p : Addr) (u : Value) : Wrt (w.setCell p u) y := by
  rcases h with h | ⟨g, o, e, hc⟩
  · exact .inl h
  · exact .inr ⟨g, o, e, fun j hj => ⟨some_set (hc j hj).1, (World.frozen?_setCell _ _ _ _).trans (hc j hj).2⟩⟩
set_option maxHeartbeats 8000000 in
set_option maxRecDepth 100000 in
theorem cSpoilt (a : Option Addr) (c : Nat) (L : List Vn) (w : World) (hs : VnE.See w a L) (hL : L.length ≤ 4000000000000) (hw : ∀ y ∈ L, Wrt w y) (hb : ∀ y ∈ L, y.row.length * 40 ≤ 140737488355328) (hoff : ∀ y ∈ L, ∀ k ∈ bkV y, k ∉ blk a) :
    Calls Try.prog 41 #[.slice a L.length c] w fun e w' => (∃ v, e = .returned v) ∧ Kp (rowsB L) w w' := by
  have hs' := hid hs
  have hw' := hid hw
  have hb' := hid hb
  have hoff' : Hid (∀ k ∈ blk a, L ≠ [] → k ∉ rowsB L) := fun k hk _ hm => by obtain ⟨y, hy, h1⟩ := mem_rowsB.1 hm; exact hoff y hy k h1 hk
  clear hs hw hb hoff
  go_enter Try.func41, Try.ntmps41
  go_wp2_with fail
  go_loopw [6] (fun i wr => ∃ j : Nat, j ≤ L.length ∧ i = .int .i64 j ∧ Kp (rowsB L) w wr ∧ Hid (∀ y ∈ L, Wrt wr y)) (fun i _ => L.length - (intOf i).toNat)
  case atStart => exact ⟨0, Nat.zero_le _, rfl, Kp.refl _ _, hw'⟩
  case round =>
    clear hw'
    obtain ⟨j, hj, rfl, kr, hwr⟩ := hrel
    by_cases hjl : j < L.length
    · have hx : L[j]? = some L[j] := by simp [hjl]
      have hsee : Hid (∀ W, Kp (rowsB L) w W → VnE.See W a L) := fun W k => hs'.out.kept k (fun hne q hq => hoff'.out q hq hne)
      obtain ⟨g, o, rfl, _, _, c2, _⟩ := idAt (hsee.out wr kr) hx
      have hcell : Hid (∀ W, Kp (rowsB L) w W → W.cell? ⟨g, o + j * 4 + 2, none⟩ = some (.slice L[j].a L[j].row.length L[j].c)) := fun W k => by
        obtain ⟨g', o', e, _, _, h2, _⟩ := idAt (hsee.out W k) hx
        cases e
        exact h2
      have hmem : L[j] ∈ L := List.getElem_mem _
      have hrj : Hid (∀ k ∈ bkV L[j], k ∈ rowsB L) := fun k hk => mem_rowsB.2 ⟨_, hmem, hk⟩
      have hbj := hb'.out L[j] hmem
      have i1 : (0 : Int) ≤ (j : Int) := by omega
      have i2 : (j : Int) < (L.length : Int) := by omega
      have hmem' := hid hmem
      clear hx hmem
      generalize L[j] = y at *
      obtain ⟨ye, yn, ya, yc, yr, yd⟩ := y
      dsimp only at c2 hcell hbj
      obtain ⟨m, hm⟩ : ∃ m, Hid (yr.length = m) := ⟨_, rfl⟩
      rw [hm.out] at c2 hbj
      simp only [hm.out] at hcell
      go_wp2_with fail
      go_loopw [15] (fun i wn => ∃ k : Nat, k ≤ m ∧ i = .int .i64 k ∧ Kp (rowsB L) w wn ∧ Hid (∀ y ∈ L, Wrt wn y)) (fun i _ => m - (intOf i).toNat)
      case atStart => exact ⟨0, Nat.zero_le _, rfl, kr, hwr⟩
      case round =>
        clear c2 kr hwr
        obtain ⟨k, hk, rfl, kn, hwn⟩ := hrel
        by_cases hkm : k < m
        · have hWy := hwn.out _ hmem'.out
          have hne : yr ≠ [] := fun e => by have := hm.out; rw [e] at this; simp at this; omega
          obtain ⟨g2, o2, e2, hc2⟩ : ∃ g o, ya = some ⟨g, o, none⟩ ∧ ∀ j, j < m * 4 → (wr.cell? ⟨g, o + j, none⟩).isSome = true ∧ wr.frozen? ⟨g, o + j, none⟩ = false := by
            rcases hWy with e | ⟨g2, o2, e2, hc2⟩
            · exact absurd e hne
            · exact ⟨g2, o2, e2, by simpa only [hm.out] using hc2⟩
          subst e2
          have hg2 : g2 ∈ rowsB L := hrj.out g2 (by unfold bkV; rw [if_neg hne]; simp [blk])
          have q0 := hc2 (k * 4) (by omega); have q1 := hc2 (k * 4 + 1) (by omega); have q2 := hc2 (k * 4 + 2) (by omega); have q3 := hc2 (k * 4 + 3) (by omega)
          rw [← Nat.add_assoc] at q1 q2 q3
          obtain ⟨⟨u0, v0⟩, r0⟩ := And.imp_left Option.isSome_iff_exists.1 q0
          obtain ⟨⟨u1, v1⟩, r1⟩ := And.imp_left Option.isSome_iff_exists.1 q1
          obtain ⟨⟨u2, v2⟩, r2⟩ := And.imp_left Option.isSome_iff_exists.1 q2
          obtain ⟨⟨u3, v3⟩, r3⟩ := And.imp_left Option.isSome_iff_exists.1 q3
          have cc := hcell.out wr kn
          obtain ⟨w5, hw5⟩ : ∃ w5, (((wr.setCell ⟨g2, o2 + k * 4, none⟩ (.int .i64 9)).setCell ⟨g2, o2 + k * 4 + 1, none⟩ (.bool false)).setCell ⟨g2, o2 + k * 4 + 2, none⟩ (.int .i64 0)).setCell ⟨g2, o2 + k * 4 + 3, none⟩ (.string ⟨#[]⟩) = w5 := ⟨_, rfl⟩
          have k5 : Kp (rowsB L) w w5 := by rw [← hw5]; exact (((kn.setCell (.inl hg2) _).setCell (.inl hg2) _).setCell (.inl hg2) _).setCell (.inl hg2) _
          have hw6 : Hid (∀ y ∈ L, Wrt w5 y) := fun y hy => by rw [← hw5]; exact ((((hwn.out y hy).set _ _).set _ _).set _ _).set _ _
          have j1 : (0 : Int) ≤ (k : Int) := by omega
          have j2 : (k : Int) < (m : Int) := by omega
          have hgg : g ≠ g2 := fun e => by subst e; exact hoff'.out g (by simp [blk]) (fun e => by rw [e] at hjl; simp at hjl) hg2
          clear hWy hc2 q0 q1 q2 q3 kn hwn
          go_wp2_with fail
          exact ⟨⟨k + 1, by omega, by go_num, k5, hw6⟩, by simp [intOf]; omega⟩
        · have e : k = m := by omega
          subst e
          clear hcell
          go_wp2_with fail
          exact ⟨⟨j + 1, by omega, by go_num, kn, hwn⟩, by simp [intOf]; omega⟩
    · have e : j = L.length := by omega
      subst e
      go_wp2_with fail
      go_returns
      exact ⟨⟨_, rfl⟩, kr⟩
end Go.Proofs.Ytdjlefacdfdhmaa
end

section
namespace Go.Proofs.Ytdjlefacdfdhmaa
open Go.RowKit Go.Hay
set_option linter.unusedVariables false
set_option linter.unusedSimpArgs false

theorem neVV (v : Val) (w : World) : (binOp .neq 64 (.agg #[.int .i64 v.k, .bool v.b, .int .i64 v.n, .string v.t]) (.agg #[.int .i64 v.k, .bool v.b, .int .i64 v.n, .string v.t])).run Try.prog w = .ok (.bool false) w := by
  rw [run_neq_struct, run_equalIn_agg (ht := by kernel_rfl) (hp := by kernel_rfl)]
  simp [go_sem]
theorem valAt {w : World} {a : Option Addr} {l : List Val} (h : VE.See w a l) {i : Nat} {x : Val} (hx : l[i]? = some x) : ∃ g o, a = some ⟨g, o, none⟩ ∧ w.cell? ⟨g, o + i * 4, none⟩ = some (.int .i64 x.k) ∧ w.cell? ⟨g, o + i * 4 + 1, none⟩ = some (.bool x.b) ∧ w.cell? ⟨g, o + i * 4 + 2, none⟩ = some (.int .i64 x.n) ∧ w.cell? ⟨g, o + i * 4 + 3, none⟩ = some (.string x.t) := by
  obtain ⟨g, o, e, hc⟩ := h.at hx
  exact ⟨g, o, e, hc 0 _ rfl, hc 1 _ rfl, hc 2 _ rfl, hc 3 _ rfl⟩
set_option maxHeartbeats 8000000 in
set_option maxRecDepth 100000 in
theorem rSame (x y : Vn) (w : World) (hx : VnOk w x) (hy : VnOk w y) (h : x.p = y.p) : Calls Try.prog 21 #[.agg #[.int .u64 x.ep, .int .u32 x.num, .slice x.a x.row.length x.c, .int .u64 x.del], .agg #[.int .u64 y.ep, .int .u32 y.num, .slice y.a y.row.length y.c, .int .u64 y.del]] w fun e w' => e = .returned (.bool true) ∧ Kp [] w w' := by
  have e1 := p_ep h; have e2 := p_num h; have e3 := p_row h; have e4 := p_del h
  obtain ⟨xe, xn, xa, xc, xr, xd⟩ := x
  obtain ⟨ye, yn, ya, yc, yr, yd⟩ := y
  dsimp only at e1 e2 e3 e4 ⊢
  subst e1 e2 e3 e4
  have hfew := hx.few
  dsimp only at hfew
  obtain ⟨w1, hw1, k1, b0, b1, hz1⟩ := box45 w (.int .u64 xe) (.int .u32 xn) (.slice xa xr.length xc) (.int .u64 xd) (.int .u64 xe) (.int .u32 xn) (.slice ya xr.length yc) (.int .u64 xd) 45
  have hs1 := hid (hx.see.keptNew k1)
  have hs2 := hid (hy.see.keptNew k1)
  dsimp only at hs1 hs2
  have p0 := b0.get 0 _ rfl; have p1 := b0.get 1 _ rfl; have p2 := b0.get 2 _ rfl; have p3 := b0.get 3 _ rfl
  have q0 := b1.get 0 _ rfl; have q1 := b1.get 1 _ rfl; have q2 := b1.get 2 _ rfl; have q3 := b1.get 3 _ rfl
  have n1 := neI xe xn xe xn
  simp only [decide_true, Bool.not_true] at n1
  have n2 : (xd != xd) = false := by simp
  obtain ⟨m, hm⟩ : ∃ m, Hid (xr.length = m) := ⟨_, rfl⟩
  rw [hm.out] at p2 q2 hw1 hfew ⊢
  have n3 : ((m : Int) != (m : Int)) = false := by simp
  have hB0 := hid b0
  have hB1 := hid b1
  rw [hm.out] at hB0 hB1
  clear hx hy h b0 b1
  go_enter Try.func21, Try.ntmps21
  go_wp2_with fail
  go_loopw [5] (fun i wr => ∃ j : Nat, j ≤ m ∧ i = .int .i64 j ∧ Kp [] w1 wr) (fun i _ => m - (intOf i).toNat)
  case atStart => exact ⟨0, Nat.zero_le _, rfl, Kp.refl _ _⟩
  case round =>
    clear p0 p1 p2 p3 q0 q1 q2 q3
    obtain ⟨j, hj, rfl, kr⟩ := hrel
    have P2 := (hB0.out.kept kr (by omega)).get 2 _ rfl
    have Q2 := (hB1.out.kept kr (by omega)).get 2 _ rfl
    by_cases hjm : j < m
    · have hx : xr[j]? = some (xr[j]'(by rw [hm.out]; exact hjm)) := by simp [hm.out, hjm]
      obtain ⟨g, o, rfl, a0, a1, a2, a3⟩ := valAt (hs1.out.keptNew kr) hx
      obtain ⟨g2, o2, rfl, d0, d1, d2, d3⟩ := valAt (hs2.out.keptNew kr) hx
      have hv := neVV (xr[j]'(by rw [hm.out]; exact hjm))
      clear hx
      generalize xr[j]'(by rw [hm.out]; exact hjm) = z at *
      obtain ⟨zk, zb, zn, zt⟩ := z
      dsimp only at a0 a1 a2 a3 d0 d1 d2 d3 hv
      have i1 : (0 : Int) ≤ (j : Int) := by omega
      have i2 : (j : Int) < (m : Int) := by omega
      go_wp2_with fail
      go_quiet (fail)
      go_wp2_with fail
      exact ⟨⟨j + 1, by omega, by go_num, kr.drewN _⟩, by simp [intOf]; omega⟩
    · have e : j = m := by omega
      subst e
      go_wp2_with fail
      go_ret
      exact ⟨rfl, k1.trans kr (by simp)⟩
set_option maxHeartbeats 8000000 in
set_option maxRecDepth 100000 in
theorem rSameAll (a b : Option Addr) (ca cb : Nat) (L M : List Vn) (w : World) (ha : VnE.See w a L) (hb : VnE.See w b M) (oa : ∀ x ∈ L, VnOk w x) (ob : ∀ x ∈ M, VnOk w x) (h : Like L M) (hf : L.length ≤ 4000000000001) :
    Calls Try.prog 14 #[.slice a L.length ca, .slice b M.length cb] w fun e w' => e = .returned (.bool true) ∧ Kp [] w w' := by
  have hlen := h.len
  have H := hid (And.intro ha (And.intro hb (And.intro oa (And.intro ob h))))
  rw [← hlen]
  have hlen' := hid hlen
  clear ha hb oa ob h hlen
  have n3 : ((L.length : Int) != (L.length : Int)) = false := by simp
  go_enter Try.func14, Try.ntmps14
  go_wp2_with fail
  go_loopw [5] (fun i wr => ∃ j : Nat, j ≤ L.length ∧ i = .int .i64 j ∧ Kp [] w wr) (fun i _ => L.length - (intOf i).toNat)
  case atStart => exact ⟨0, Nat.zero_le _, rfl, Kp.refl _ _⟩
  case round =>
    obtain ⟨j, hj, rfl, kr⟩ := hrel
    by_cases hjl : j < L.length
    · have hx : L[j]? = some L[j] := by simp [hjl]
      obtain ⟨y, hy, hp⟩ := H.out.2.2.2.2.at hx
      obtain ⟨g, o, rfl, c0, c1, c2, c3⟩ := idAt (H.out.1.keptNew kr) hx
      obtain ⟨g2, o2, rfl, d0, d1, d2, d3⟩ := idAt (H.out.2.1.keptNew kr) hy
      have cS : ∀ W, Kp [] wr W → Calls Try.prog 21 #[.agg #[.int .u64 L[j].ep, .int .u32 L[j].num, .slice L[j].a L[j].row.length L[j].c, .int .u64 L[j].del], .agg #[.int .u64 y.ep, .int .u32 y.num, .slice y.a y.row.length y.c, .int .u64 y.del]] W fun e w' => e = .returned (.bool true) ∧ Kp [] W w' := fun W kW => rSame L[j] y W ((H.out.2.2.1 _ (List.mem_of_getElem? hx)).kept (kr.trans kW (by simp))) ((H.out.2.2.2.1 _ (List.mem_of_getElem? hy)).kept (kr.trans kW (by simp))) hp
      have Kwd : Kp [] wr wr.drew := (Kp.refl _ _).drew
      have hkr := hid kr
      clear hx hy hp
      generalize L[j] = x at *
      obtain ⟨xe, xn, xa, xc, xr, xd⟩ := x
      obtain ⟨ye, yn, ya, yc, yr, yd⟩ := y
      dsimp only at c0 c1 c2 c3 d0 d1 d2 d3 cS
      have hS0 : (fun A : World => (A.cell? ⟨g, o + j * 4, none⟩ = some (.int .u64 xe) ∧ A.cell? ⟨g, o + j * 4 + 1, none⟩ = some (.int .u32 xn) ∧ A.cell? ⟨g, o + j * 4 + 2, none⟩ = some (.slice xa xr.length xc) ∧ A.cell? ⟨g, o + j * 4 + 3, none⟩ = some (.int .u64 xd)) ∧ A.cell? ⟨g2, o2 + j * 4, none⟩ = some (.int .u64 ye) ∧ A.cell? ⟨g2, o2 + j * 4 + 1, none⟩ = some (.int .u32 yn) ∧ A.cell? ⟨g2, o2 + j * 4 + 2, none⟩ = some (.slice ya yr.length yc) ∧ A.cell? ⟨g2, o2 + j * 4 + 3, none⟩ = some (.int .u64 yd)) wr.drew := ⟨⟨c0, c1, c2, c3⟩, d0, d1, d2, d3⟩
      have i1 : (0 : Int) ≤ (j : Int) := by omega
      have i2 : (j : Int) < (L.length : Int) := by omega
      clear c0 c1 c2 c3 d0 d1 d2 d3
      go_wp2_with fail
      refine wp_region_held_drew (S := (fun A => (A.cell? ⟨g, o + j * 4, none⟩ = some (.int .u64 xe) ∧ A.cell? ⟨g, o + j * 4 + 1, none⟩ = some (.int .u32 xn) ∧ A.cell? ⟨g, o + j * 4 + 2, none⟩ = some (.slice xa xr.length xc) ∧ A.cell? ⟨g, o + j * 4 + 3, none⟩ = some (.int .u64 xd)) ∧ A.cell? ⟨g2, o2 + j * 4, none⟩ = some (.int .u64 ye) ∧ A.cell? ⟨g2, o2 + j * 4 + 1, none⟩ = some (.int .u32 yn) ∧ A.cell? ⟨g2, o2 + j * 4 + 2, none⟩ = some (.slice ya yr.length yc) ∧ A.cell? ⟨g2, o2 + j * 4 + 3, none⟩ = some (.int .u64 yd))) (by kernel_rfl) ?_ (fun hHeld => ?_)
      · exact hS0
      generalize wr.drew = wd at *
      refine wpAnyH_take (i := 0) (v := ?_) rfl (by kernel_rfl) (by kernel_rfl) (by kernel_rfl) (fun _ _ _ h => h) (Or.inl ⟨by rfl, ?_⟩) (by assumption) ?_
      rotate_left
      · intro w hSw; (try dsimp only at hSw); go_simp <;> with_reducible rfl
      try simp only [Act.put, List.getElem_toArray, List.getElem_cons_zero, List.getElem_cons_succ, List.setIfInBounds_toArray, List.set_cons_zero, List.set_cons_succ]
      refine wpAnyH_take (i := 1) (v := ?_) rfl (by kernel_rfl) (by kernel_rfl) (by kernel_rfl) (fun _ _ _ h => h) (Or.inl ⟨by rfl, ?_⟩) (by assumption) ?_
      rotate_left
      · intro w hSw; (try dsimp only at hSw); go_simp <;> with_reducible rfl
      try simp only [Act.put, List.getElem_toArray, List.getElem_cons_zero, List.getElem_cons_succ, List.setIfInBounds_toArray, List.set_cons_zero, List.set_cons_succ]
      refine wpAnyH_take (i := 2) (v := ?_) rfl (by kernel_rfl) (by kernel_rfl) (by kernel_rfl) (fun _ _ _ h => h) (Or.inl ⟨by rfl, ?_⟩) (by assumption) ?_
      rotate_left
      · intro w hSw; (try dsimp only at hSw); go_simp <;> with_reducible rfl
      try simp only [Act.put, List.getElem_toArray, List.getElem_cons_zero, List.getElem_cons_succ, List.setIfInBounds_toArray, List.set_cons_zero, List.set_cons_succ]
      refine wpAnyH_take (i := 3) (v := ?_) rfl (by kernel_rfl) (by kernel_rfl) (by kernel_rfl) (fun _ _ _ h => h) (Or.inl ⟨by rfl, ?_⟩) (by assumption) ?_
      rotate_left
      · intro w hSw; (try dsimp only at hSw); go_simp <;> with_reducible rfl
      try simp only [Act.put, List.getElem_toArray, List.getElem_cons_zero, List.getElem_cons_succ, List.setIfInBounds_toArray, List.set_cons_zero, List.set_cons_succ]
      refine wpAnyH_take (i := 4) (v := ?_) rfl (by kernel_rfl) (by kernel_rfl) (by kernel_rfl) (fun _ _ _ h => h) (Or.inl ⟨by rfl, ?_⟩) (by assumption) ?_
      rotate_left
      · intro w hSw; (try dsimp only at hSw); go_simp <;> with_reducible rfl
      try simp only [Act.put, List.getElem_toArray, List.getElem_cons_zero, List.getElem_cons_succ, List.setIfInBounds_toArray, List.set_cons_zero, List.set_cons_succ]
      refine wpAnyH_take (i := 5) (v := ?_) rfl (by kernel_rfl) (by kernel_rfl) (by kernel_rfl) (fun _ _ _ h => h) (Or.inl ⟨by rfl, ?_⟩) (by assumption) ?_
      rotate_left
      · intro w hSw; (try dsimp only at hSw); go_simp <;> with_reducible rfl
      try simp only [Act.put, List.getElem_toArray, List.getElem_cons_zero, List.getElem_cons_succ, List.setIfInBounds_toArray, List.set_cons_zero, List.set_cons_succ]
      refine wpAnyH_take (i := 6) (v := ?_) rfl (by kernel_rfl) (by kernel_rfl) (by kernel_rfl) (fun _ _ _ h => h) (Or.inl ⟨by rfl, ?_⟩) (by assumption) ?_
      rotate_left
      · intro w hSw; (try dsimp only at hSw); go_simp <;> with_reducible rfl
      try simp only [Act.put, List.getElem_toArray, List.getElem_cons_zero, List.getElem_cons_succ, List.setIfInBounds_toArray, List.set_cons_zero, List.set_cons_succ]
      refine wpAnyH_take (i := 7) (v := ?_) rfl (by kernel_rfl) (by kernel_rfl) (by kernel_rfl) (fun _ _ _ h => h) (Or.inl ⟨by rfl, ?_⟩) (by assumption) ?_
      rotate_left
      · intro w hSw; (try dsimp only at hSw); go_simp <;> with_reducible rfl
      try simp only [Act.put, List.getElem_toArray, List.getElem_cons_zero, List.getElem_cons_succ, List.setIfInBounds_toArray, List.set_cons_zero, List.set_cons_succ]
      refine wpAnyH_ready (rs := [8]) (by kernel_rfl) (by simp) ?_
      refine AllReadyH.cons rfl (fun K hK => ?_) AllReadyH.nil
      go_simp
      refine (cS wd Kwd).mono ?_
      rintro e1 x1 ⟨rfl, kx1⟩
      (try go_wp2_with fail)
      refine hK.out _ _ ?_ (fun hHeld => ?_)
      · exact ⟨⟨kpAt kx1 hHeld.1.1, kpAt kx1 hHeld.1.2.1, kpAt kx1 hHeld.1.2.2.1, kpAt kx1 hHeld.1.2.2.2⟩, kpAt kx1 hHeld.2.1, kpAt kx1 hHeld.2.2.1, kpAt kx1 hHeld.2.2.2.1, kpAt kx1 hHeld.2.2.2.2⟩
      clear hK K
      try simp only [Act.put, List.getElem_toArray, List.getElem_cons_zero, List.getElem_cons_succ, List.setIfInBounds_toArray, List.set_cons_zero, List.set_cons_succ]
      refine wpAnyH_take (i := 9) (v := ?_) rfl (by kernel_rfl) (by kernel_rfl) (by kernel_rfl) (fun _ _ _ h => h) (Or.inl ⟨by rfl, ?_⟩) (by assumption) ?_
      rotate_left
      · intro w hSw; (try dsimp only at hSw); go_simp <;> with_reducible rfl
      try simp only [Act.put, List.getElem_toArray, List.getElem_cons_zero, List.getElem_cons_succ, List.setIfInBounds_toArray, List.set_cons_zero, List.set_cons_succ]
      refine wpAnyH_done (by kernel_rfl) ?_ _
      have kk : Kp [] w x1 := (hkr.out.trans Kwd (by simp)).trans kx1 (by simp)
      clear hHeld cS
      go_wp2_with fail
      exact ⟨⟨j + 1, by omega, by go_num, kk⟩, by simp [intOf]; omega⟩
    · have e : j = L.length := by omega
      subst e
      go_wp2_with fail
      go_ret
      exact ⟨rfl, kr⟩
/-- What Place tells: the first of a name. -/
def PlcP (l : List Vn) (i : Int × Int) (r : Int) : Prop := (r = -1 ∧ ∀ x ∈ l, x.id ≠ i) ∨ ∃ (j : Nat) (x : Vn), r = j ∧ l[j]? = some x ∧ x.id = i ∧ ∀ y ∈ l.take j, y.id ≠ i
theorem PlcP.no {l : List Vn} {i : Int × Int} {r : Int} (h : PlcP l i r) (hn : hasV l i = false) : r = -1 := by
  rcases h with ⟨e, _⟩ | ⟨j, x, _, hx, e, _⟩
  · exact e
  · exact absurd e (hasNot_at i hn x (List.mem_of_getElem? hx))
theorem PlcP.yes {l : List Vn} {i : Int × Int} {r : Int} (h : PlcP l i r) (hs : Srt l) (hy : hasV l i = true) : r = (kOf l i : Int) := by
  obtain ⟨x, hx, ei⟩ := has_at hs i hy
  rcases h with ⟨_, hn⟩ | ⟨j, y, rfl, hj, e, hn⟩
  · exact absurd ei (hn x (List.mem_of_getElem? hx))
  · have h1 := kOf_at hs i j y hj
    rw [e, ltI_irrefl] at h1
    rcases Nat.lt_trichotomy j (kOf l i) with h2 | h2 | h2
    · have := h1.2 h2; cases this
    · rw [h2]
    · refine absurd ei (hn x (List.mem_of_getElem? (i := kOf l i) ?_))
      rw [List.getElem?_take, if_pos h2]; exact hx
set_option maxHeartbeats 8000000 in
set_option maxRecDepth 100000 in
theorem rPlace (a : Option Addr) (c : Nat) (l : List Vn) (ep num : Int) (w : World) (hs : VnE.See w a l) (hf : l.length ≤ 4000000000001) :
    Calls Try.prog 17 #[.slice a l.length c, .agg #[.int .u64 ep, .int .u32 num]] w fun e w' => ∃ r, e = .returned (.int .i64 r) ∧ PlcP l (ep, num) r ∧ Kp [] w w' := by
  obtain ⟨w1, hw1⟩ : ∃ w1, w.alloc (.cells #[.int .u64 ep, .int .u32 num] 42) = w1 := ⟨_, rfl⟩
  have k1 : Kp [] w w1 := by rw [← hw1]; exact (Kp.refl _ _).alloc _
  have bx : Bx w1 w.heap.size [.int .u64 ep, .int .u32 num] := by rw [← hw1]; exact Bx.new w [.int .u64 ep, .int .u32 num] _
  have hlt1 : w.heap.size < w1.heap.size := by rw [← hw1]; simp
  have hs1 := hid (hs.keptNew k1)
  have hB := hid bx
  clear hs bx
  go_enter Try.func17, Try.ntmps17
  go_wp2_with fail
  go_loopw [5] (fun i wr => ∃ j : Nat, j ≤ l.length ∧ i = .int .i64 j ∧ Kp [] w1 wr ∧ Hid (∀ y ∈ l.take j, y.id ≠ (ep, num))) (fun i _ => l.length - (intOf i).toNat)
  case atStart => exact ⟨0, Nat.zero_le _, rfl, Kp.refl _ _, by intro y hy; simp at hy⟩
  case round =>
    clear hw1
    obtain ⟨j, hj, rfl, kr, hst⟩ := hrel
    by_cases hjl : j < l.length
    · have hx : l[j]? = some l[j] := by simp [hjl]
      obtain ⟨g, o, rfl, c0, c1, _⟩ := idAt (hs1.out.keptNew kr) hx
      have b2 := hB.out.kept kr hlt1
      have d0 := b2.get 0 _ rfl; have d1 := b2.get 1 _ rfl
      have htk : Hid (l.take (j + 1) = l.take j ++ [l[j]]) := by show _ = _; rw [List.take_succ_eq_append_getElem hjl]
      have hx' := hid hx
      clear hx b2
      generalize l[j] = x at *
      have q := eqI x.ep x.num ep num
      obtain ⟨B, hBB⟩ : ∃ B, Hid (decide ((x.ep, x.num) = (ep, num)) = B) := ⟨_, rfl⟩
      simp only [hBB.out] at q
      have i1 : (0 : Int) ≤ (j : Int) := by omega
      have i2 : (j : Int) < (l.length : Int) := by omega
      obtain ⟨xe, xn, xa, xc, xr, xd⟩ := x
      dsimp only at c0 c1 q hBB
      cases B with
      | true =>
        have hid1 : Hid ((xe, xn) = (ep, num)) := by have := hBB.out; show _ = _; simpa using this
        clear hBB
        go_wp2_with fail
        go_quiet (fail)
        go_wp2_with fail
        go_ret
        exact ⟨_, rfl, .inr ⟨j, _, rfl, hx'.out, hid1.out, hst.out⟩, (k1.trans kr (by simp)).drewN _⟩
      | false =>
        have hid1 : Hid ((xe, xn) ≠ (ep, num)) := by have := hBB.out; show _ ≠ _; simpa using this
        clear hBB
        go_wp2_with fail
        go_quiet (fail)
        go_wp2_with fail
        refine ⟨⟨j + 1, by omega, by go_num, kr.drewN _, fun y hy => ?_⟩, by simp [intOf]; omega⟩
        rw [htk.out] at hy
        rcases List.mem_append.1 hy with h | h
        · exact hst.out y h
        · rw [List.mem_singleton] at h; subst h; exact hid1.out
    · have e : j = l.length := by omega
      subst e
      go_wp2_with fail
      go_ret
      exact ⟨_, rfl, .inl ⟨rfl, fun x hx => hst.out x (by rw [List.take_length]; exact hx)⟩, k1.trans kr (by simp)⟩
end Go.Proofs.Ytdjlefacdfdhmaa
end

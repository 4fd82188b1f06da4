/- catalog: the segments of a node. catalog: allUsed; Check. catalog: whether some nodes have all segments. The law's alive: a catalog that may be, and where its segments lie. -/
import Derived.Test.YtckicbaidbgonaaB5
import Derived.Deep.RegionHeld3
section
namespace Go.Proofs.Ytckicbaidbgonaa
open Go.RowKit Go.Hay
attribute [local go_sem] Oper.semAt_some
set_option linter.unusedVariables false
set_option linter.unusedSimpArgs false

theorem wpAppRunIn {F : Fence} {n : Nat} {P : Program} {w w' : World} {ops : Array Oper} {rest : List Oper} {o : Oper} {a : Act} {Q : Exit → Act → World → Prop} (hgd : o.guard = none) (s x : Operand) (t tx : TypeId)
    (ho : o.op = .call { callee := .builtin .append, args := #[s, x], argTypes := #[t, tx] }) (v xv v' : Value) (hv : a.eval s = v) (hx : a.eval x = xv)
    (hrun : (Builtin.append_ #[t, tx] o.type #[v, xv]).run P w = .ok v' w') (h : wpListIn F n P ops Q rest (a.put o.dst v') w') : wpListIn F n P ops Q (o :: rest) a w := by
  refine wpListIn_plain hgd fun K hK' => ?_
  unfold Oper.wpIn
  refine ⟨?_, ?_⟩
  · simp [Oper.about, ho, resolve, Target.leads, Sem.run_pure]
  · rw [Oper.semAt_plain F _ _ (by rw [ho]; intro c hc'; cases hc')]
    simp [execOp, ho, resolve, invoke, builtin, hv, hx, hrun, Result.andThen]
    exact hK' _ _ h
def SgE : El (Nat × Nat) where
  n := 2
  c x := [.int .i64 (x.1 : Int), .int .i64 (x.2 : Int)]
  len _ := rfl
  one _ u hu := by simp at hu; rcases hu with rfl | rfl <;> rfl
  pos := by decide
theorem infoSg : ∃ i : TypeInfo, Try.prog.info? 31 = some i ∧ i.zero = some (.agg #[.int .i64 0, .int .i64 0]) ∧ i.size = 2 ∧ i.bytes = 16 := infI (by kernel_rfl)
/-- The segments of a node, of the first ones. -/
def ofTo (c : Cg) (M : Nat) (node : Int) (s : Nat) : List (Nat × Nat) := ((List.range s).map fun k => (k / M, k % M)).filter fun x => decide (node ∈ ndsC c x.1 x.2)
theorem ofTo_succ (c : Cg) (M : Nat) (node : Int) (s : Nat) (x : Nat × Nat) (h : x.1 * M + x.2 = s) (hx : x.2 < M) : ofTo c M node (s + 1) = ofTo c M node s ++ (if node ∈ ndsC c x.1 x.2 then [x] else []) := by
  unfold ofTo
  rw [List.range_succ, List.map_append, List.filter_append]
  have e1 : s / M = x.1 := by rw [← h, Nat.add_comm, Nat.add_mul_div_right _ _ (by omega), Nat.div_eq_of_lt hx]; omega
  have e2 : s % M = x.2 := by rw [← h, Nat.add_comm, Nat.add_mul_mod_self_right, Nat.mod_eq_of_lt hx]
  have e3 : (s / M, s % M) = x := by rw [e1, e2]
  simp only [List.map_cons, List.map_nil, e3, List.filter_cons, List.filter_nil]
  by_cases hm : node ∈ ndsC c x.1 x.2
  · simp [hm]
  · simp [hm]
theorem ofTo_len (c : Cg) (M : Nat) (node : Int) (s : Nat) : (ofTo c M node s).length ≤ s := by
  unfold ofTo
  refine Nat.le_trans (List.length_filter_le _ _) ?_
  simp
/-- How Of's memory stands between two rounds. -/
structure OfI (w : World) (B : Nat) (c : Cg) (M : Nat) (node : Int) (s : Nat) (W : World) (a : Option Addr) (cp : Nat) (l : List (Nat × Nat)) : Prop where
  kp : Kp [] w W
  bC : Bn W w.heap.size [.int .i64 c.n, .int .i64 c.s, .int .i64 c.k, .slice c.ta c.tl.length c.tc, .slice c.pa c.pl.length c.pc]
  bN : Bn W (w.heap.size + 1) [.int .i64 node]
  bL : Bn W (w.heap.size + 2) [.slice a l.length cp]
  row : SgE.Row W (.slice a l.length cp) l
  nw : ∀ k ∈ blk a, B + 2 ≤ k
  eq : l = ofTo c M node s
def OfJ (w : World) (B : Nat) (c : Cg) (M : Nat) (node : Int) (s : Nat) (W : World) : Prop := ∃ a cp l, OfI w B c M node s W a cp l
theorem OfI.keepS {w : World} {B : Nat} {c : Cg} {M : Nat} {node : Int} {s : Nat} {W W' : World} {a : Option Addr} {cp : Nat} {l : List (Nat × Nat)} (h : OfI w B c M node s W a cp l) {S : List Nat} (k : Kp S W W') (hS : ∀ j ∈ S, B ≤ j ∧ j < B + 2) (hB : w.heap.size + 3 ≤ B) : OfI w B c M node s W' a cp l := by
  have hz := h.kp.size
  refine ⟨h.kp.trans k (fun j hj => .inr (by have := hS j hj; omega)), h.bC.keptS k (fun hm => by have := hS _ hm; omega) (h.bC.lt (by simp)), h.bN.keptS k (fun hm => by have := hS _ hm; omega) (h.bN.lt (by simp)), h.bL.keptS k (fun hm => by have := hS _ hm; omega) (h.bL.lt (by simp)), h.row.kept k (fun j hj hm => ?_), h.nw, h.eq⟩
  have h1 := hS j hm
  have h2 : j ∈ blk a := by
    obtain ⟨_, _, e, _, _, _, _, eo⟩ := h.row.see
    cases e
    rw [← eo]; exact hj
  have := h.nw j h2
  omega
/-- What Of hands back. -/
def OfP (l : List (Nat × Nat)) (w : World) (e : Ending) (w' : World) : Prop := ∃ (a : Option Addr) (cp : Nat), e = .returned (.slice a l.length cp) ∧ SgE.See w' a l ∧ l.length ≤ cp ∧ Kp [] w w'
def ofC (c : Cg) (M : Nat) (node : Int) : List (Nat × Nat) := ofTo c M node (c.pl.length * M)
theorem ownSl (a : Option Addr) (n c : Nat) : own (.slice a n c) = blk a := by cases a <;> simp [own, blk, Value.ownBlock]
theorem boxOf (c : Cg) (node : Int) (w : World) : ∃ W, ((w.alloc (.cells #[.int .i64 c.n, .int .i64 c.s, .int .i64 c.k, .slice c.ta c.tl.length c.tc, .slice c.pa c.pl.length c.pc] 25)).alloc (.cells #[.int .i64 node] 3)).alloc (.cells #[.slice none 0 0] 33) = W ∧ Kp [] w W ∧ W.heap.size = w.heap.size + 3 ∧ Bn W w.heap.size [.int .i64 c.n, .int .i64 c.s, .int .i64 c.k, .slice c.ta c.tl.length c.tc, .slice c.pa c.pl.length c.pc] ∧ Bn W (w.heap.size + 1) [.int .i64 node] ∧ Bn W (w.heap.size + 2) [.slice none 0 0] := by
  refine ⟨_, rfl, (((Kp.refl _ _).alloc _).alloc _).alloc _, by simp, ?_, ?_, ?_⟩
  · exact ((Bn.new w [.int .i64 c.n, .int .i64 c.s, .int .i64 c.k, .slice c.ta c.tl.length c.tc, .slice c.pa c.pl.length c.pc] 25).kept ((Kp.refl _ _).alloc _)).kept ((Kp.refl _ _).alloc _)
  · have h := Bn.new (w.alloc (.cells #[.int .i64 c.n, .int .i64 c.s, .int .i64 c.k, .slice c.ta c.tl.length c.tc, .slice c.pa c.pl.length c.pc] 25)) [.int .i64 node] 3
    rw [World.size_alloc] at h
    exact h.kept ((Kp.refl _ _).alloc _)
  · have h := Bn.new ((w.alloc (.cells #[.int .i64 c.n, .int .i64 c.s, .int .i64 c.k, .slice c.ta c.tl.length c.tc, .slice c.pa c.pl.length c.pc] 25)).alloc (.cells #[.int .i64 node] 3)) [.slice none 0 0] 33
    rw [World.size_alloc, World.size_alloc] at h
    exact h
set_option maxHeartbeats 16000000 in
set_option maxRecDepth 100000 in
theorem cOf (c : Cg) (node : Int) (M : Nat) (w : World) (hM : c.s = (M : Int)) (hc : c.ok w) (hn : cntd c = true) (hsh : ∀ p ∈ c.pl, wi p.sh c.n = true) (hp8 : c.pl.length ≤ 8) : Calls Try.prog 14 #[c.v, .int .i64 node] w (OfP (ofC c M node) w) := by
  obtain ⟨W, eW, kW, zW, bC, bN, bL⟩ := boxOf c node w
  have hMl : M ≤ 8 := by have := (cntd_iff c).1 hn; omega
  have aSg := hid (cSegments c W M hM hn)
  have HC := hid hc
  have HN := hid (And.intro hn hsh)
  have BB := hid (And.intro bC (And.intro bN bL))
  have KW := hid kW
  have hP : c.pl.length ≤ 9223372036854775807 := by have := hc.pcap; have := hc.pmax; omega
  have c0 := bC.get 0 _ rfl; have c1 := bC.get 1 _ rfl; have c2 := bC.get 2 _ rfl; have c3 := bC.get 3 _ rfl; have c4 := bC.get 4 _ rfl
  have hz3 : Hid (W.heap.size = w.heap.size + 3) := hid zW
  have zW' : w.heap.size + 2 < W.heap.size := by omega
  clear kW bC bN bL hc hn hsh hM zW
  simp only [Cg.v] at *
  refine (callsIn_wide (n := 6)).1 ?_
  refine callsIn_of_wp_marks Try.func14 rfl trivial ?_ rfl
  simp only [Try.ntmps14, List.size_toArray, List.length_cons, List.length_nil, Nat.reduceAdd, Nat.reduceSub, Array.replicate_succ, Array.replicate_zero, List.push_toArray, List.append_toArray, List.nil_append, List.cons_append]
  refine wpIn_wide.2 ?_
  go_wp2_with fail
  refine aSg.out.mono ?_
  rintro e w1 ⟨q1, q2, rfl, hq1, hq2, l1, l2, k1⟩
  have z1 := k1.size
  have hI0 : OfI w w1.heap.size c M node 0 w1 none 0 [] := ⟨KW.out.trans k1 (by simp), BB.out.1.kept k1, BB.out.2.1.kept k1, BB.out.2.2.kept k1, .inl ⟨rfl, rfl⟩, by simp [blk], rfl⟩
  have hsq := segSeq (6 - 1) (by omega) q1 q2 c.pl.length M w1 hq1 hq2 hP (by omega)
  have hlt1 := World.block_lt_of_cell? _ _ hq1
  have hlt2 := World.block_lt_of_cell? _ _ hq2
  have HL := hid (And.intro hlt1 (And.intro hlt2 (And.intro l1 l2)))
  have hB3 : w.heap.size + 3 ≤ w1.heap.size := by have := hz3.out; omega
  have HI0 := hid hI0
  have HSQ := hid hsq
  clear aSg c0 c1 c2 c3 c4 eW hq1 hq2 l1 l2 hI0 hsq k1 hlt1 hlt2
  go_wp2_with fail
  refine (wpIn_wide (n := 6)).1 ?_
  refine wpRangeW rfl (by omega) (gf := 64) (lb := #[.pointer (some ⟨q1, 0, none⟩), .pointer (some ⟨q2, 0, none⟩)]) rfl trivial (enters_of Try.func64 (by kernel_rfl) rfl)
    HSQ.out (fun _ => rfl) KeepC.trans (fun s W o => KeepC.alloc _ W o) (fun s W k o o' _ ho hc _ => KeepC.putObj _ W k o o' ho hc) (KeepC.refl _ _) (fun s s' A B ht k o _ ho _ _ => by rw [← ht.2]; exact ho)
    (OfJ w w1.heap.size c M node) (fun _ _ _ => False) ?hI (fun _ _ _ _ h _ => h) (fun s s' A B h ht => by rw [← ht.1, ← ht.2]; exact h) ?h0 ?hIa
    (fun x => .cells #[.int .i64 (x.1 : Int), .int .i64 (x.2 : Int)] 31)
    (fun x q3 => { tmps := #[.agg #[.int .i64 c.n, .int .i64 c.s, .int .i64 c.k, .slice c.ta c.tl.length c.tc, .slice c.pa c.pl.length c.pc], .int .i64 node, .pointer (some ⟨w.heap.size, 0, none⟩), .pointer (some ⟨w.heap.size + 1, 0, none⟩), .slice none 0 0, .pointer (some ⟨w.heap.size + 2, 0, none⟩), .pointer (some ⟨q3, 0, none⟩), .agg #[.int .i64 c.n, .int .i64 c.s, .int .i64 c.k, .slice c.ta c.tl.length c.tc, .slice c.pa c.pl.length c.pc], .func (.func 64) #[] #[.pointer (some ⟨q1, 0, none⟩), .pointer (some ⟨q2, 0, none⟩)], .agg #[.int .i64 (x.1 : Int), .int .i64 (x.2 : Int)], undef, undef, undef, undef, undef, undef, undef, undef, undef, undef], defers := [] }) ?assign ?body ?done ?stop
  case hI =>
    rintro s X o' ⟨a, cp, l, h⟩ hz
    have kp : Kp [w1.heap.size + 1] X (X.putObj (w1.heap.size + 1) o') := ⟨rfl, rfl, rfl, by simp, fun k hk hn => World.putObj_heap_other (by simpa using hn)⟩
    exact ⟨a, cp, l, h.keepS kp (fun j hj => by simp at hj; omega) hB3⟩
  case h0 =>
    intro o1 o2
    exact ⟨none, 0, [], HI0.out.keepS (S := []) (((Kp.refl _ _).alloc _).alloc _) (by simp) hB3⟩
  case hIa =>
    rintro s X o ⟨a, cp, l, h⟩
    exact ⟨a, cp, l, h.keepS (S := []) ((Kp.refl _ _).alloc _) (by simp) hB3⟩
  case assign =>
    intro l x W C hC
    gi_wp2_with fail
    exact hC
  case body =>
    rintro lr s x A q3 ⟨a, cp, l, h⟩ ⟨hslt, hxs, hx2, hx1⟩ hob hq3
    have hbx : ∀ z : Nat, A.cell? ⟨q3, z, none⟩ = (#[.int .i64 (x.1 : Int), .int .i64 (x.2 : Int)] : Array Value)[z]? := fun z => by
      unfold World.cell?
      simp [hob]
    have hv0 := hbx 0; have hv1 := hbx 1
    have hS : Hid (∀ W', Kp [] A W' → (W'.cell? ⟨w.heap.size, 0, none⟩ = some (.int .i64 c.n) ∧ W'.cell? ⟨w.heap.size, 1, none⟩ = some (.int .i64 c.s) ∧ W'.cell? ⟨w.heap.size, 2, none⟩ = some (.int .i64 c.k) ∧ W'.cell? ⟨w.heap.size, 3, none⟩ = some (.slice c.ta c.tl.length c.tc) ∧ W'.cell? ⟨w.heap.size, 4, none⟩ = some (.slice c.pa c.pl.length c.pc) ∧ W'.cell? ⟨w.heap.size + 1, 0, none⟩ = some (.int .i64 node) ∧ W'.cell? ⟨q3, 0, none⟩ = some (.int .i64 (x.1 : Int)) ∧ W'.cell? ⟨q3, 1, none⟩ = some (.int .i64 (x.2 : Int)))) := fun W' k => by
      have h1 := h.bC.kept k
      have h2 := h.bN.kept k
      exact ⟨h1.get 0 _ rfl, h1.get 1 _ rfl, h1.get 2 _ rfl, h1.get 3 _ rfl, h1.get 4 _ rfl, h2.get 0 _ rfl, kpAt k hv0, kpAt k hv1⟩
    have aN := hid (fun W' (k : Kp [] A W') => cNodes c (x.1 : Int) (x.2 : Int) W' (HC.out.kept (h.kp.trans k (by simp))) HN.out.1 HN.out.2)
    have hnl := hid (ndsC_len c (x.1 : Int) (x.2 : Int))
    have hk8 : Hid (c.k.toNat ≤ 8) := by have := (cntd_iff c).1 HN.out.1; exact hid (by omega)
    have hou := hid (ofTo_succ c M node s x hxs hx2)
    have HI := hid h
    have hq3' := hid (And.intro hq3 (Array.getElem?_eq_some_iff.1 hob).1)
    simp only [Cg.v] at aN
    have hs64 : s < 64 := by have : c.pl.length * M ≤ 8 * 8 := Nat.mul_le_mul hp8 hMl; omega
    clear hbx hob hv0 hv1 h hslt hx1
    gi_wp2_with fail
    refine region_round (fun W' => W'.cell? ⟨w.heap.size, 0, none⟩ = some (.int .i64 c.n) ∧ W'.cell? ⟨w.heap.size, 1, none⟩ = some (.int .i64 c.s) ∧ W'.cell? ⟨w.heap.size, 2, none⟩ = some (.int .i64 c.k) ∧ W'.cell? ⟨w.heap.size, 3, none⟩ = some (.slice c.ta c.tl.length c.tc) ∧ W'.cell? ⟨w.heap.size, 4, none⟩ = some (.slice c.pa c.pl.length c.pc) ∧ W'.cell? ⟨w.heap.size + 1, 0, none⟩ = some (.int .i64 node) ∧ W'.cell? ⟨q3, 0, none⟩ = some (.int .i64 (x.1 : Int)) ∧ W'.cell? ⟨q3, 1, none⟩ = some (.int .i64 (x.2 : Int))) (by kernel_rfl) (by kernel_rfl) (by rintro ⟨_, _, hlo⟩; exact hlo) ?_ (fun hHeld => ?_)
    · exact hS.out _ (Kp.refl _ _).drew
    have KD : Hid (Kp [] A A.drew) := hid (Kp.refl _ _).drew
    generalize A.drew = Wd at *
    refine wpAnyH_take (i := 0) (v := ?_) rfl (by kernel_rfl) (by kernel_rfl) (by kernel_rfl) (fun _ _ _ h => h) (Or.inl ⟨by rfl, ?_⟩) (by assumption) ?_
    rotate_left
    · intro w hSw; (try dsimp only at hSw); go_simp <;> with_reducible rfl
    try simp only [Act.put, List.getElem_toArray, List.getElem_cons_zero, List.getElem_cons_succ, List.setIfInBounds_toArray, List.set_cons_zero, List.set_cons_succ]
    refine wpAnyH_take (i := 1) (v := ?_) rfl (by kernel_rfl) (by kernel_rfl) (by kernel_rfl) (fun _ _ _ h => h) (Or.inl ⟨by rfl, ?_⟩) (by assumption) ?_
    rotate_left
    · intro w hSw; (try dsimp only at hSw); go_simp <;> with_reducible rfl
    try simp only [Act.put, List.getElem_toArray, List.getElem_cons_zero, List.getElem_cons_succ, List.setIfInBounds_toArray, List.set_cons_zero, List.set_cons_succ]
    refine wpAnyH_take (i := 3) (v := ?_) rfl (by kernel_rfl) (by kernel_rfl) (by kernel_rfl) (fun _ _ _ h => h) (Or.inl ⟨by rfl, ?_⟩) (by assumption) ?_
    rotate_left
    · intro w hSw; (try dsimp only at hSw); go_simp <;> with_reducible rfl
    try simp only [Act.put, List.getElem_toArray, List.getElem_cons_zero, List.getElem_cons_succ, List.setIfInBounds_toArray, List.set_cons_zero, List.set_cons_succ]
    refine wpAnyH_ready (rs := [2]) (by kernel_rfl) (by simp) ?_
    refine AllReadyH.cons rfl (fun K hK => ?_) AllReadyH.nil
    go_simp
    refine (aN.out Wd KD.out).mono ?_
    rintro e wn ⟨na, nc, rfl, hns, hnc, hn8, kn⟩
    (try go_wp2_with fail)
    refine hK.out _ _ ?_ (fun hHeld => ?_)
    · exact hS.out _ (KD.out.trans kn (by simp))
    clear hK K
    try simp only [Act.put, List.getElem_toArray, List.getElem_cons_zero, List.getElem_cons_succ, List.setIfInBounds_toArray, List.set_cons_zero, List.set_cons_succ]
    have KN := hid (KD.out.trans kn (by simp))
    have aC := hid (cContainsI na nc (ndsC c (x.1 : Int) (x.2 : Int)) node wn hns (by have := hnl.out; have := hk8.out; omega))
    clear kn hns
    obtain ⟨X, hX⟩ : ∃ X, Hid (decide (node ∈ ndsC c (x.1 : Int) (x.2 : Int)) = X) := ⟨_, hid rfl⟩
    rw [hX.out] at aC
    refine wpAnyH_ready (rs := [4]) (by kernel_rfl) (by simp) ?_
    refine AllReadyH.cons rfl (fun K hK => ?_) AllReadyH.nil
    go_simp
    refine aC.out.mono ?_
    rintro e wc ⟨rfl, kc⟩
    (try go_wp2_with fail)
    refine hK.out _ _ ?_ (fun hHeld => ?_)
    · exact hS.out _ (KN.out.trans kc (by simp))
    clear hK K
    try simp only [Act.put, List.getElem_toArray, List.getElem_cons_zero, List.getElem_cons_succ, List.setIfInBounds_toArray, List.set_cons_zero, List.set_cons_succ]
    have KC := hid (KN.out.trans kc (by simp))
    clear kc aC
    refine wpAnyH_done (by kernel_rfl) ?_ _
    have h := HI.out.keepS (S := []) KC.out (by simp) hB3
    have zA := h.kp.size
    have hRec : ∀ W', Kp [] A W' → Recs w1.heap.size A W' := fun W' k => ⟨k.block _ (by have := hq3'.out.1; have := hq3'.out.2; omega) (by simp), k.block _ (by have := hq3'.out.1; have := hq3'.out.2; omega) (by simp)⟩
    cases X with
    | false =>
      have hm : ¬ node ∈ ndsC c (x.1 : Int) (x.2 : Int) := by simpa using hX.out
      have e9 := hou.out
      rw [if_neg hm, List.append_nil] at e9
      have HF : Hid (OfJ w w1.heap.size c M node (s + 1) wc) := hid ⟨a, cp, l, { h with eq := by rw [e9]; exact h.eq }⟩
      have HR := hid (And.intro (hRec wc KC.out) (KeepC.ofKp (G := Gsg q1 q2) KC.out (by simp)))
      clear hHeld hRec h e9 hm hX hou
      gi_wp2_with fail
      exact ⟨HR.out.1, HR.out.2, HF.out⟩
    | true =>
      have hm : node ∈ ndsC c (x.1 : Int) (x.2 : Int) := by simpa using hX.out
      have e9 := hou.out
      rw [if_pos hm, ← h.eq] at e9
      have hll : l.length ≤ s := by rw [h.eq]; exact ofTo_len _ _ _ _
      obtain ⟨A1, hA1⟩ : ∃ A1, wc.alloc (.cells #[.int .i64 (x.1 : Int), .int .i64 (x.2 : Int)] 31) = A1 := ⟨_, rfl⟩
      have kA1 : Kp [] wc A1 := by rw [← hA1]; exact (Kp.refl _ _).alloc _
      have bx1 : Bn A1 wc.heap.size (SgE.c x) := by rw [← hA1]; exact Bn.new wc (SgE.c x) _
      have hs1 : SgE.See A1 (some ⟨wc.heap.size, 0, none⟩) [x] := .inr ⟨wc.heap.size, 0, rfl, fun j u hu => by rw [Nat.zero_add]; exact bx1.get j u (by simpa [El.cs] using hu)⟩
      obtain ⟨i0, hi, hz0', hz1', hz2'⟩ := infoSg
      have hsr := hs1.src (P := Try.prog) Try.underlying33 1
      obtain ⟨v', A2, hrun, hrow2, k2, hn2⟩ := run_appendG (E := SgE) (P := Try.prog) A1 33 33 33 31 i0 _ 16 Try.underlying33 hi hz0' hz1' hz2' rfl (.slice a l.length cp) l (h.row.keptNew kA1) _ [x] hsr (by simp only [List.length_cons, List.length_nil]; omega) (by simp only [List.length_cons, List.length_nil]; omega)
      obtain ⟨a', c', rfl, _⟩ := hrow2.see
      simp only [ownSl] at k2 hn2
      have hnw := h.nw
      have zwc := KC.out.size
      have zA1 := kA1.size
      have z2 := k2.size
      have hq33 := hq3'.out
      have hnq : w.heap.size + 2 ∉ blk a := fun hm' => by have := hnw _ hm'; omega
      have bx2 := (h.bL.kept kA1).keptS k2 hnq (by have := h.bL.lt (by simp); omega)
      have b0 := bx2.get 0 _ rfl
      have f0 := bx2.free 0
      obtain ⟨A3, hA3⟩ : ∃ A3, A2.setCell ⟨w.heap.size + 2, 0, none⟩ (.slice a' (l ++ [x]).length c') = A3 := ⟨_, rfl⟩
      have bx3 : Bn A3 (w.heap.size + 2) [.slice a' (l ++ [x]).length c'] := by rw [← hA3]; exact bx2.set 0 (by simp) _
      have k3 : Kp [w.heap.size + 2] A2 A3 := by rw [← hA3]; exact (Kp.refl _ _).setCell (by simp) _
      have kW3 : Kp ((w.heap.size + 2) :: blk a) wc A3 := ((kA1.mono (T := (w.heap.size + 2) :: blk a) (by simp)).trans k2 (fun j hj => .inl (by simp [hj]))).trans k3 (fun j hj => .inl (by simp at hj; simp [hj]))
      have kA3 : Kp ((w.heap.size + 2) :: blk a) A A3 := (KC.out.mono (T := (w.heap.size + 2) :: blk a) (by simp)).trans kW3 (fun j hj => .inl hj)
      have hmem : ∀ j ∈ (w.heap.size + 2) :: blk a, j = w.heap.size + 2 ∨ w1.heap.size + 2 ≤ j := fun j hj => by
        rcases List.mem_cons.1 hj with e | e
        · exact .inl e
        · exact .inr (hnw j e)
      have hlb := HL.out
      have hz30 := hz3.out
      have hR2 : Recs w1.heap.size A A3 := ⟨kA3.block _ (by omega) (fun hm' => by rcases hmem _ hm' with e | e <;> omega), kA3.block _ (by omega) (fun hm' => by rcases hmem _ hm' with e | e <;> omega)⟩
      have hK2 : KeepC (Gsg q1 q2) A A3 := KeepC.ofKp kA3 (fun y hy hm' => by
        rcases hmem _ hm' with e | e <;> rcases hy with e2 | e2 <;> omega)
      have hna' : ∀ k ∈ blk a', w1.heap.size + 2 ≤ k := fun k hk => by
        rcases hn2 k hk with e | e
        · exact hnw k e
        · omega
      have hJ : OfJ w w1.heap.size c M node (s + 1) A3 := by
        refine ⟨a', c', l ++ [x], ⟨h.kp.trans kW3 (fun j hj => .inr (by rcases hmem _ hj with e | e <;> omega)), h.bC.keptS kW3 (fun hm' => by rcases hmem _ hm' with e | e <;> omega) (h.bC.lt (by simp)), h.bN.keptS kW3 (fun hm' => by rcases hmem _ hm' with e | e <;> omega) (h.bN.lt (by simp)), bx3, hrow2.kept k3 (fun j hj hm' => ?_), hna', e9.symm⟩⟩
        simp only [ownSl] at hj
        simp at hm'
        have := hna' j hj
        omega
      have HF := hid (And.intro hR2 (And.intro hK2 hJ))
      obtain ⟨NL, hNL⟩ : ∃ n, Hid ((l ++ [x]).length = n) := ⟨_, hid rfl⟩
      rw [hNL.out] at hA3 hrun
      have bL0 := h.bL.get 0 _ rfl
      obtain ⟨_, _, _, _, _, _, g0, g1⟩ := hS.out _ KC.out
      have hlc := h.bL.lt (by simp)
      clear hHeld hRec h e9 hm hX hou hR2 hK2 hJ hna' kA3 kW3 k3 bx3 bx2 hrow2 k2 hn2 hsr hs1 bx1 kA1 hmem hnw hnq
      gi_wp2_with (first | (refine wpAppRunIn rfl _ _ 33 33 rfl _ _ _ rfl rfl hrun ?_) | fail)
      exact HF.out
  case done =>
    rintro D s X hD hs ⟨a, cp, l, h⟩ hK
    have bq := h.bL.get 0 _ rfl
    have kp : Kp [D] X (X.putObj D (.deferred none)) := ⟨rfl, rfl, rfl, by simp, fun k hk hn => World.putObj_heap_other (by simpa using hn)⟩
    obtain ⟨_, _, e, hsee, _, hcp, _, eo⟩ := h.row.see
    cases e
    have hsee2 : SgE.See (X.putObj D (.deferred none)) a l := by
      rcases hsee with e | ⟨g, o, e, hc⟩
      · exact .inl e
      · refine .inr ⟨g, o, e, fun j u hu => ?_⟩
        have h1 := hc j u hu
        have hne : g ≠ D := fun e2 => by
          subst e2
          unfold World.cell? at h1
          simp [hK] at h1
        exact (kp.cell (p := ⟨g, o + j, none⟩) (World.block_lt_of_cell? _ _ h1) (by simpa using hne)).trans h1
    have hfin : OfP (ofC c M node) w (.returned (.slice a l.length cp)) (X.putObj D (.deferred none)) := by
      have e1 : ofC c M node = l := by rw [h.eq, hs]; rfl
      rw [e1]
      exact ⟨a, cp, rfl, hsee2, hcp, h.kp.trans kp (fun k hk => .inr (by simp at hk; omega))⟩
    have hH := hid hfin
    clear hfin kp hsee hsee2 h
    go_wp2_with fail
    refine ⟨by simp, .inl ⟨_, _, rfl, run_takeDeferred hK, ?_⟩⟩
    exact ⟨.slice a l.length cp, by simp [results, Try.results14, go_sem], hH.out⟩
  case stop =>
    rintro D c s X hD _ h
    exact h.elim
end Go.Proofs.Ytckicbaidbgonaa
end

section
namespace Go.Proofs.Ytckicbaidbgonaa
open Go.RowKit Go.Hay
set_option linter.unusedVariables false
set_option linter.unusedSimpArgs false

def auTo (c : Cg) (M : Nat) (j : Nat) : Bool := (List.range j).all fun (i : Nat) => !(ofC c M (i : Int)).isEmpty
theorem auTo_succ (c : Cg) (M j : Nat) : auTo c M (j + 1) = (auTo c M j && !(ofC c M (j : Int)).isEmpty) := by
  unfold auTo
  rw [List.range_succ, List.all_append]
  simp
theorem auTo_mono (c : Cg) (M j k : Nat) (h : j ≤ k) (hf : auTo c M j = false) : auTo c M k = false := by
  unfold auTo at hf ⊢
  rw [List.all_eq_false] at hf ⊢
  obtain ⟨x, hx, hx2⟩ := hf
  exact ⟨x, List.mem_range.2 (by have := List.mem_range.1 hx; omega), hx2⟩
set_option maxHeartbeats 4000000 in
set_option maxRecDepth 100000 in
theorem cAllUsed (c : Cg) (M N : Nat) (w : World) (hM : c.s = (M : Int)) (hN : c.n = (N : Int)) (hc : c.ok w) (hn : cntd c = true) (hsh : ∀ p ∈ c.pl, wi p.sh c.n = true) (hp8 : c.pl.length ≤ 8) : Calls Try.prog 37 #[c.v] w fun e w' => e = .returned (.bool (auTo c M N)) ∧ Kp [] w w' := by
  obtain ⟨W, eW, kW, zW, bC⟩ := boxC c w
  have hN8 : N ≤ 8 := by have := (cntd_iff c).1 hn; omega
  have aO := hid (fun (j : Nat) (w' : World) (k : Kp [] w w') => cOf c (j : Int) M w' hM (hc.kept k) hn hsh hp8)
  have KW := hid kW
  have zW' : w.heap.size < W.heap.size := by omega
  obtain ⟨r, hr⟩ : ∃ r, Hid (auTo c M N = r) := ⟨_, hid rfl⟩
  rw [hr.out]
  simp only [Cg.v] at *
  rw [hN] at aO bC eW
  rw [hN]
  have c0 := bC.get 0 _ rfl
  have BC := hid bC
  clear hc kW bC zW hM hN hn hsh
  go_enter Try.func37, Try.ntmps37
  go_wp2_with fail
  go_loopw [6] (fun i wr => ∃ j : Nat, j ≤ N ∧ i = .int .i64 j ∧ Hid (auTo c M j = true) ∧ Hid (Bn wr w.heap.size [.int .i64 (N : Int), .int .i64 c.s, .int .i64 c.k, .slice c.ta c.tl.length c.tc, .slice c.pa c.pl.length c.pc]) ∧ Kp [] w wr) (fun i _ => N - (intOf i).toNat)
  case atStart => exact ⟨0, Nat.zero_le _, rfl, hid rfl, BC, KW.out⟩
  case round =>
    obtain ⟨j, hj, rfl, hst, bx, kr⟩ := hrel
    clear BC KW c0 eW zW'
    by_cases hjl : j < N
    · have i1 : (0 : Int) ≤ (j : Int) := by omega
      have i2 : (j : Int) < (N : Int) := by omega
      have i3 : (j : Int) + 1 ≤ 9223372036854775807 := by omega
      have hsu := hid (auTo_succ c M j)
      have hmo := hid (auTo_mono c M (j + 1) N (by omega))
      have bx' := bx.out
      have b0 := bx'.get 0 _ rfl; have b1 := bx'.get 1 _ rfl; have b2 := bx'.get 2 _ rfl; have b3 := bx'.get 3 _ rfl; have b4 := bx'.get 4 _ rfl
      have aJ := hid (aO.out j wr kr)
      have wlt := bx.out.lt (by simp)
      rw [hst.out] at hsu
      clear bx'
      go_wp2_with fail
      refine aJ.out.mono ?_
      rintro e w2 ⟨a, cp, rfl, hs, hl, k2⟩
      have kw2 := kr.trans k2 (by simp)
      have bx2 := hid (bx.out.kept k2)
      clear aJ k2 b0 b1 b2 b3 b4
      obtain ⟨L, hL⟩ : ∃ L, Hid (ofC c M (j : Int) = L) := ⟨_, hid rfl⟩
      rw [hL.out] at hsu ⊢
      cases L with
      | nil =>
        have hR : Hid (r = false) := by show _ = _; rw [← hr.out]; exact hmo.out (by rw [hsu.out]; rfl)
        simp only [List.length_nil]
        go_wp2_with fail
        go_ret
        exact ⟨by rw [hR.out]; rfl, kw2⟩
      | cons x L =>
        have hsu2 : Hid (auTo c M (j + 1) = true) := by show _ = _; rw [hsu.out]; rfl
        have d1 : (((x :: L).length : Int) == 0) = false := by simp; omega
        generalize (x :: L).length = n at *
        clear hs hl hL hsu
        go_wp2_with fail
        exact ⟨⟨j + 1, by omega, by go_num, hsu2, bx2, kw2⟩, by simp [intOf]; omega⟩
    · have e : j = N := by omega
      subst e
      have hR : Hid (r = true) := by show _ = _; rw [← hr.out]; exact hst.out
      go_wp2_with fail
      go_ret
      exact ⟨by rw [hR.out]; rfl, kr⟩
theorem pjsM_all {c : Cg} (h : pjsM c = true) : c.pl.length ≤ 8 ∧ ∀ p ∈ c.pl, pjM c p = true := by
  unfold pjsM pjsTo at h
  simp only [Bool.and_eq_true, decide_eq_true_eq, List.all_eq_true, List.mem_range] at h
  refine ⟨h.1, fun p hp => ?_⟩
  obtain ⟨i, hi, rfl⟩ := List.getElem_of_mem hp
  have := h.2 i hi
  unfold pjAtC at this
  simp [hi] at this
  exact this.1
theorem pjM_parts {c : Cg} {p : Pj} (h : pjM c p = true) : wi p.tb (c.tl.length : Int) = true ∧ wi p.sh c.n = true ∧ plM p.cl (manyC c p) = true := by
  unfold pjM at h
  simp only [Bool.and_eq_true] at h
  exact ⟨h.2.1, h.2.2.1, h.2.2.2.2.1⟩
theorem plM_mem {l : List Int} {m : Int} (h : plM l m = true) : ∀ y ∈ l, 0 ≤ y ∧ y < m := fun y hy => by
  unfold plM plTo at h
  simp only [List.all_eq_true, List.mem_range] at h
  obtain ⟨i, hi, rfl⟩ := List.getElem_of_mem hy
  have h1 := h i hi
  simp only [Bool.and_eq_true] at h1
  have h2 := h1.1
  unfold wi at h2
  simp [hi] at h2
  exact h2
theorem tabsM_all {l : List Tb} (h : tabsM l = true) : ∀ t ∈ l, t.l.length ≤ 8 := fun t ht => by
  unfold tabsM tabTo at h
  simp only [Bool.and_eq_true, decide_eq_true_eq, List.all_eq_true, List.mem_range] at h
  obtain ⟨i, hi, rfl⟩ := List.getElem_of_mem ht
  have h1 := h.2.2 i hi
  unfold tabAt at h1
  simp [hi] at h1
  have h2 := h1.1
  unfold tableV at h2
  split at h2
  · rename_i h3
    simp only [Bool.and_eq_true, decide_eq_true_eq] at h3
    exact h3.2.2.1
  · cases h2
theorem many_le {c : Cg} {p : Pj} (ht : tabsM c.tl = true) (h : pjM c p = true) : manyC c p ≤ 8 := by
  have h1 := (pjM_parts h).1
  unfold wi at h1
  simp only [Bool.and_eq_true, decide_eq_true_eq] at h1
  have hi : p.tb.toNat < c.tl.length := by omega
  have := tabsM_all ht _ (List.getElem_mem hi)
  unfold manyC
  rw [List.getD_eq_getElem?_getD, List.getElem?_eq_getElem hi]
  simp only [Option.getD_some]
  omega
/-- Which catalogs may be. -/
def chkC (c : Cg) : Int := if cntd c = false then 133 else if tabsM c.tl = false then 130 else if pjsM c = false then 131 else if acM c = false then 132 else if auTo c c.s.toNat c.n.toNat = false then 133 else 0
set_option maxHeartbeats 4000000 in
set_option maxRecDepth 100000 in
theorem cCheck (c : Cg) (w : World) (hc : c.ok w) : Calls Try.prog 10 #[c.v] w fun e w' => e = .returned (.int .i64 (chkC c)) ∧ Kp [] w w' := by
  obtain ⟨W, eW, kW, zW, bC⟩ := boxC c w
  obtain ⟨r, hr⟩ : ∃ r, Hid (chkC c = r) := ⟨_, hid rfl⟩
  rw [hr.out]
  unfold chkC at hr
  have a1 := hid (fun w' => cCounted c w')
  have a2 := hid (fun w' (k : Kp [] w w') => cTables c.ta c.tc c.tl w' (hc.kept k).ts (hc.kept k).tok hc.tcap hc.tmax)
  have a3 := hid (fun w' (k : Kp [] w w') => cProjs c w' (hc.kept k))
  have a4 := hid (fun (h1 : tabsM c.tl = true) (h2 : pjsM c = true) w' (k : Kp [] w w') => cAllCov c w' (hc.kept k) (fun p hp y hy => by
    have h3 := (pjsM_all h2).2 p hp
    have := plM_mem (pjM_parts h3).2.2 y hy
    have := many_le h1 h3
    omega) (tabsM_all h1))
  have a5 := hid (fun (h0 : cntd c = true) (h2 : pjsM c = true) w' (k : Kp [] w w') => cAllUsed c c.s.toNat c.n.toNat w' (by have := (cntd_iff c).1 h0; omega) (by have := (cntd_iff c).1 h0; omega) (hc.kept k) h0 (fun p hp => (pjM_parts ((pjsM_all h2).2 p hp)).2.1) (pjsM_all h2).1)
  have KW := hid kW
  have BC := hid bC
  have zW' : w.heap.size < W.heap.size := by omega
  have c0 := bC.get 0 _ rfl; have c1 := bC.get 1 _ rfl; have c2 := bC.get 2 _ rfl; have c3 := bC.get 3 _ rfl; have c4 := bC.get 4 _ rfl
  have hF : Hid (∀ w', Kp [] W w' → (w'.cell? ⟨w.heap.size, 0, none⟩ = some (.int .i64 c.n) ∧ w'.cell? ⟨w.heap.size, 1, none⟩ = some (.int .i64 c.s) ∧ w'.cell? ⟨w.heap.size, 2, none⟩ = some (.int .i64 c.k) ∧ w'.cell? ⟨w.heap.size, 3, none⟩ = some (.slice c.ta c.tl.length c.tc) ∧ w'.cell? ⟨w.heap.size, 4, none⟩ = some (.slice c.pa c.pl.length c.pc))) := fun w' k => by
    have h1 := BC.out.kept k
    exact ⟨h1.get 0 _ rfl, h1.get 1 _ rfl, h1.get 2 _ rfl, h1.get 3 _ rfl, h1.get 4 _ rfl⟩
  clear hc kW bC zW
  simp only [Cg.v] at *
  go_enter Try.func10, Try.ntmps10
  go_wp2_with fail
  obtain ⟨C0, hC0⟩ : ∃ X, Hid (cntd c = X) := ⟨_, hid rfl⟩
  have q0 := hid (a1.out W)
  rw [hC0.out] at q0 hr
  refine q0.out.mono ?_
  rintro e w2 ⟨rfl, k⟩
  have K0 : Hid (Kp [] W w2) := hid (k)
  clear k q0 c0 c1 c2 c3 c4
  obtain ⟨c0, c1, c2, c3, c4⟩ := hF.out _ K0.out
  cases C0 with
  | false =>
    have hR : Hid (r = 133) := by have := hr.out; exact hid (by simpa using this.symm)
    clear hr
    go_wp2_with fail
    go_ret
    exact ⟨by rw [hR.out]; rfl, KW.out.trans K0.out (by simp)⟩
  | true =>
  go_wp2_with fail
  obtain ⟨C1, hC1⟩ : ∃ X, Hid (tabsM c.tl = X) := ⟨_, hid rfl⟩
  have q1 := hid (a2.out _ (KW.out.trans K0.out (by simp)))
  rw [hC1.out] at q1 hr
  refine q1.out.mono ?_
  rintro e w3 ⟨rfl, k⟩
  have K1 : Hid (Kp [] W w3) := hid (K0.out.trans k (by simp))
  clear k q1 c0 c1 c2 c3 c4
  obtain ⟨c0, c1, c2, c3, c4⟩ := hF.out _ K1.out
  cases C1 with
  | false =>
    have hR : Hid (r = 130) := by have := hr.out; exact hid (by simpa using this.symm)
    clear hr
    go_wp2_with fail
    go_ret
    exact ⟨by rw [hR.out]; rfl, KW.out.trans K1.out (by simp)⟩
  | true =>
  go_wp2_with fail
  obtain ⟨C2, hC2⟩ : ∃ X, Hid (pjsM c = X) := ⟨_, hid rfl⟩
  have q2 := hid (a3.out _ (KW.out.trans K1.out (by simp)))
  rw [hC2.out] at q2 hr
  refine q2.out.mono ?_
  rintro e w4 ⟨rfl, k⟩
  have K2 : Hid (Kp [] W w4) := hid (K1.out.trans k (by simp))
  clear k q2 c0 c1 c2 c3 c4
  obtain ⟨c0, c1, c2, c3, c4⟩ := hF.out _ K2.out
  cases C2 with
  | false =>
    have hR : Hid (r = 131) := by have := hr.out; exact hid (by simpa using this.symm)
    clear hr
    go_wp2_with fail
    go_ret
    exact ⟨by rw [hR.out]; rfl, KW.out.trans K2.out (by simp)⟩
  | true =>
  go_wp2_with fail
  obtain ⟨C3, hC3⟩ : ∃ X, Hid (acM c = X) := ⟨_, hid rfl⟩
  have q3 := hid (a4.out hC1.out hC2.out _ (KW.out.trans K2.out (by simp)))
  rw [hC3.out] at q3 hr
  refine q3.out.mono ?_
  rintro e w5 ⟨rfl, k⟩
  have K3 : Hid (Kp [] W w5) := hid (K2.out.trans k (by simp))
  clear k q3 c0 c1 c2 c3 c4
  obtain ⟨c0, c1, c2, c3, c4⟩ := hF.out _ K3.out
  cases C3 with
  | false =>
    have hR : Hid (r = 132) := by have := hr.out; exact hid (by simpa using this.symm)
    clear hr
    go_wp2_with fail
    go_ret
    exact ⟨by rw [hR.out]; rfl, KW.out.trans K3.out (by simp)⟩
  | true =>
  go_wp2_with fail
  obtain ⟨C4, hC4⟩ : ∃ X, Hid (auTo c c.s.toNat c.n.toNat = X) := ⟨_, hid rfl⟩
  have q4 := hid (a5.out hC0.out hC2.out _ (KW.out.trans K3.out (by simp)))
  rw [hC4.out] at q4 hr
  refine q4.out.mono ?_
  rintro e w6 ⟨rfl, k⟩
  have K4 : Hid (Kp [] W w6) := hid (K3.out.trans k (by simp))
  clear k q4 c0 c1 c2 c3 c4
  obtain ⟨c0, c1, c2, c3, c4⟩ := hF.out _ K4.out
  cases C4 with
  | false =>
    have hR : Hid (r = 133) := by have := hr.out; exact hid (by simpa using this.symm)
    clear hr
    go_wp2_with fail
    go_ret
    exact ⟨by rw [hR.out]; rfl, KW.out.trans K4.out (by simp)⟩
  | true =>
  go_wp2_with fail
  have hR : Hid (r = 0) := by have := hr.out; exact hid (by simpa using this.symm)
  go_ret
  exact ⟨by rw [hR.out]; rfl, KW.out.trans K4.out (by simp)⟩
end Go.Proofs.Ytckicbaidbgonaa
end

section
namespace Go.Proofs.Ytckicbaidbgonaa
open Go.RowKit Go.Hay
attribute [local go_sem] Oper.semAt_some
set_option linter.unusedVariables false
set_option linter.unusedSimpArgs false

theorem run_store_func (P : Program) (w : World) (a : Addr) (m) (f : Fn) (x y : Array Value) : (store a (.func f x y) m).run P w = stored P w a (.func f x y) m := run_store P w a _ m rfl
attribute [local go_sem] run_store_func
def BoE : El Bool where
  n := 1
  c x := [.bool x]
  len _ := rfl
  one _ u hu := by simp at hu; subst hu; rfl
  pos := by decide
theorem boAt {w : World} {a : Option Addr} {l : List Bool} (h : BoE.See w a l) (j : Nat) (hj : j < l.length) : ∃ g o, a = some ⟨g, o, none⟩ ∧ w.cell? ⟨g, o + j, none⟩ = some (.bool l[j]) := by
  obtain ⟨g, o, e, hc⟩ := h.at (j := j) (x := l[j]) (by simp [hj])
  refine ⟨g, o, e, ?_⟩
  have := hc 0 _ rfl
  simpa [BoE] using this
/-- Is a node live? -/
def lvAt (V : List Bool) (x : Int) : Bool := decide (x < (V.length : Int)) && V.getD x.toNat false
set_option maxHeartbeats 4000000 in
set_option maxRecDepth 100000 in
theorem cLive (q : Nat) (va : Option Addr) (vc : Nat) (V : List Bool) (x : Int) (hx : 0 ≤ x) (w : World) (hq : w.cell? ⟨q, 0, none⟩ = some (.slice va V.length vc)) (hs : BoE.See w va V) : Calls Try.prog 44 #[.int .i64 x, .pointer (some ⟨q, 0, none⟩)] w fun e w' => e = .returned (.bool (lvAt V x)) ∧ Kp [] w w' := by
  have hlt : q < w.heap.size := World.block_lt_of_cell? _ _ hq
  obtain ⟨n, rfl⟩ := Int.eq_ofNat_of_zero_le hx
  unfold lvAt
  by_cases h : n < V.length
  · have d : decide ((n : Int) < (V.length : Int)) = true := by simp; exact h
    obtain ⟨g, o, rfl, c0⟩ := boAt hs n h
    have e : V.getD (n : Int).toNat false = V[n] := by simp [h]
    rw [d, e]
    generalize V[n] = b at *
    have d2 : (n : Int) < (V.length : Int) := by omega
    have d3 : (0 : Int) ≤ (n : Int) := by omega
    go_enter Try.func44, Try.ntmps44
    go_wp2_with fail
    go_returns
    exact ⟨by simp, Kp.refl _ _⟩
  · have d : decide ((n : Int) < (V.length : Int)) = false := by simp; omega
    rw [d]
    go_enter Try.func44, Try.ntmps44
    go_wp2_with fail
    go_returns
    exact ⟨by simp, Kp.refl _ _⟩
set_option maxHeartbeats 4000000 in
set_option maxRecDepth 100000 in
theorem cIndexB (a : Option Addr) (c q : Nat) (va : Option Addr) (vc : Nat) (V : List Bool) (l : List Int) (hl0 : ∀ x ∈ l, 0 ≤ x) (w : World) (hs : IntE.See w a l) (hq : w.cell? ⟨q, 0, none⟩ = some (.slice va V.length vc)) (hv : BoE.See w va V) (hf : l.length ≤ 9223372036854775807) :
    Calls Try.prog 65 #[.slice a l.length c, .func (.func 44) #[] #[.pointer (some ⟨q, 0, none⟩)]] w fun e w' => ∃ r, e = .returned (.int .i64 r) ∧ decide (0 ≤ r) = l.any (lvAt V) ∧ Kp [] w w' := by
  have hs' := hid hs
  have hq' := hid (And.intro hq hv)
  have hl' := hid hl0
  clear hs hq hv hl0
  go_enter Try.func65, Try.ntmps65
  go_wp2_with fail
  go_loopw [8] (fun i wr => ∃ j : Nat, j ≤ l.length ∧ i = .int .i64 j ∧ Hid ((l.take j).any (lvAt V) = false) ∧ Kp [] w wr) (fun i _ => l.length - (intOf i).toNat)
  case atStart => exact ⟨0, Nat.zero_le _, rfl, hid rfl, Kp.refl _ _⟩
  case round =>
    obtain ⟨j, hj, rfl, hst, kr⟩ := hrel
    by_cases hjl : j < l.length
    · obtain ⟨g, o, rfl, x0⟩ := intAt (hs'.out.keptNew kr) j hjl
      have hmm : Hid (l[j] ∈ l) := List.getElem_mem hjl
      have cG := hid (cLive q va vc V l[j] (hl'.out _ hmm.out) wr (kpAt kr hq'.out.1) (hq'.out.2.keptNew kr))
      have htk : Hid (l.take (j + 1) = l.take j ++ [l[j]]) := by show _ = _; rw [List.take_succ_eq_append_getElem hjl]
      have i1 : (0 : Int) ≤ (j : Int) := by omega
      have i2 : (j : Int) < (l.length : Int) := by omega
      have i3 : (j : Int) + 1 ≤ 9223372036854775807 := by omega
      obtain ⟨B, hB⟩ : ∃ B, Hid (lvAt V l[j] = B) := ⟨_, hid rfl⟩
      rw [hB.out] at cG
      have h1 : Hid ((l.take (j + 1)).any (lvAt V) = B) := by
        show _ = _
        rw [htk.out, List.any_append, hst.out]
        simp [hB.out]
      have h2 : Hid (B = true → l.any (lvAt V) = true) := fun e => by
        rw [List.any_eq_true]
        exact ⟨_, hmm.out, by rw [hB.out, e]⟩
      clear htk hmm hB
      generalize l[j] = y at *
      go_wp2_with fail
      refine cG.out.mono ?_
      rintro e w2 ⟨rfl, k2⟩
      have kw2 := kr.trans k2 (by simp)
      clear cG k2 x0
      cases B with
      | false =>
        go_wp2_with fail
        exact ⟨⟨j + 1, by omega, by go_num, h1, kw2⟩, by simp [intOf]; omega⟩
      | true =>
        have h3 := hid (h2.out rfl)
        clear h2
        go_wp2_with fail
        go_ret
        exact ⟨_, rfl, by rw [h3.out]; simp, kw2⟩
    · have e : j = l.length := by omega
      subst e
      have h4 : Hid (l.any (lvAt V) = false) := by have := hst.out; rw [List.take_length] at this; exact hid this
      go_wp2_with fail
      go_ret
      exact ⟨_, rfl, by rw [h4.out]; rfl, kr⟩
theorem cContB (a : Option Addr) (c q : Nat) (va : Option Addr) (vc : Nat) (V : List Bool) (l : List Int) (hl0 : ∀ x ∈ l, 0 ≤ x) (w : World) (hs : IntE.See w a l) (hq : w.cell? ⟨q, 0, none⟩ = some (.slice va V.length vc)) (hv : BoE.See w va V) (hf : l.length ≤ 9223372036854775807) :
    Calls Try.prog 45 #[.slice a l.length c, .func (.func 44) #[] #[.pointer (some ⟨q, 0, none⟩)]] w fun e w' => e = .returned (.bool (l.any (lvAt V))) ∧ Kp [] w w' := by
  have h := hid (cIndexB a c q va vc V l hl0 w hs hq hv hf)
  obtain ⟨X, hX⟩ : ∃ X, Hid (l.any (lvAt V) = X) := ⟨_, hid rfl⟩
  rw [hX.out]
  go_enter Try.func45, Try.ntmps45
  go_wp2_with fail
  refine h.out.mono ?_
  rintro e w' ⟨r, rfl, hr, k⟩
  have hr' : Hid (decide (0 ≤ r) = X) := by rw [hX.out] at hr; exact hid hr
  clear hr
  go_wp2_with fail
  go_returns
  exact ⟨by rw [hr'.out]; rfl, k⟩
theorem ring_pos {F n : Int} {m : Nat} (hn : 1 ≤ n) : ∀ x ∈ ring F n m, 0 ≤ x ∧ x < n := fun x hx => by
  unfold ring at hx
  obtain ⟨j, _, rfl⟩ := List.mem_map.1 hx
  exact ⟨Int.emod_nonneg _ (by omega), Int.emod_lt_of_pos _ (by omega)⟩
theorem nds_pos {c : Cg} {P S : Int} (hn : cntd c = true) : ∀ x ∈ ndsC c P S, 0 ≤ x ∧ x < c.n := fun x hx => by
  unfold ndsC at hx
  split at hx
  · exact ring_pos ((cntd_iff c).1 hn).1.1 x hx
  · cases hx
/-- Has each segment, of the first ones, a copy on a live node? -/
def cvdTo (c : Cg) (M : Nat) (V : List Bool) (s : Nat) : Bool := (List.range s).all fun k => (ndsC c ((k / M : Nat) : Int) ((k % M : Nat) : Int)).any (lvAt V)
theorem cvdTo_succ (c : Cg) (M : Nat) (V : List Bool) (s : Nat) (x : Nat × Nat) (h : x.1 * M + x.2 = s) (hx : x.2 < M) : cvdTo c M V (s + 1) = (cvdTo c M V s && (ndsC c (x.1 : Int) (x.2 : Int)).any (lvAt V)) := by
  have e1 : s / M = x.1 := by rw [← h, Nat.add_comm, Nat.add_mul_div_right _ _ (by omega), Nat.div_eq_of_lt hx]; omega
  have e2 : s % M = x.2 := by rw [← h, Nat.add_comm, Nat.add_mul_mod_self_right, Nat.mod_eq_of_lt hx]
  unfold cvdTo
  rw [List.range_succ, List.all_append]
  simp only [List.all_cons, List.all_nil, Bool.and_true, e1, e2]
theorem cvdTo_mono (c : Cg) (M : Nat) (V : List Bool) (j k : Nat) (h : j ≤ k) (hf : cvdTo c M V j = false) : cvdTo c M V k = false := by
  unfold cvdTo at hf ⊢
  rw [List.all_eq_false] at hf ⊢
  obtain ⟨x, hx, hx2⟩ := hf
  exact ⟨x, List.mem_range.2 (by have := List.mem_range.1 hx; omega), hx2⟩
/-- How Covered's memory stands between two rounds. -/
structure CvI (w : World) (c : Cg) (va : Option Addr) (vc : Nat) (V : List Bool) (W : World) : Prop where
  kp : Kp [] w W
  bC : Bn W w.heap.size [.int .i64 c.n, .int .i64 c.s, .int .i64 c.k, .slice c.ta c.tl.length c.tc, .slice c.pa c.pl.length c.pc]
  bV : Bn W (w.heap.size + 1) [.slice va V.length vc]
  bR : Bn W (w.heap.size + 2) [.bool false]
  bF : Bn W (w.heap.size + 3) [.func (.func 44) #[] #[.pointer (some ⟨w.heap.size + 1, 0, none⟩)]]
theorem CvI.keepS {w : World} {c : Cg} {va : Option Addr} {vc : Nat} {V : List Bool} {W W' : World} (h : CvI w c va vc V W) {S : List Nat} (k : Kp S W W') (hS : ∀ j ∈ S, w.heap.size + 4 ≤ j) : CvI w c va vc V W' :=
  ⟨h.kp.trans k (fun j hj => .inr (by have := hS j hj; omega)), h.bC.keptS k (fun hm => by have := hS _ hm; omega) (h.bC.lt (by simp)), h.bV.keptS k (fun hm => by have := hS _ hm; omega) (h.bV.lt (by simp)), h.bR.keptS k (fun hm => by have := hS _ hm; omega) (h.bR.lt (by simp)), h.bF.keptS k (fun hm => by have := hS _ hm; omega) (h.bF.lt (by simp))⟩
/-- Left: no. -/
structure CvX (w : World) (W : World) : Prop where
  kp : Kp [] w W
  bR : Bn W (w.heap.size + 2) [.bool false]
theorem CvX.keepS {w W W' : World} (h : CvX w W) {S : List Nat} (k : Kp S W W') (hS : ∀ j ∈ S, w.heap.size + 4 ≤ j) : CvX w W' :=
  ⟨h.kp.trans k (fun j hj => .inr (by have := hS j hj; omega)), h.bR.keptS k (fun hm => by have := hS _ hm; omega) (h.bR.lt (by simp))⟩
theorem boxCv (c : Cg) (va : Option Addr) (vc : Nat) (V : List Bool) (w : World) : ∃ W, ((((w.alloc (.cells #[.int .i64 c.n, .int .i64 c.s, .int .i64 c.k, .slice c.ta c.tl.length c.tc, .slice c.pa c.pl.length c.pc] 25)).alloc (.cells #[.slice va V.length vc] 32)).alloc (.cells #[.bool false] 4)).alloc (.cells #[.nilFunc] 85)) = W ∧ Kp [] w W ∧ W.heap.size = w.heap.size + 4 ∧ Bn W w.heap.size [.int .i64 c.n, .int .i64 c.s, .int .i64 c.k, .slice c.ta c.tl.length c.tc, .slice c.pa c.pl.length c.pc] ∧ Bn W (w.heap.size + 1) [.slice va V.length vc] ∧ Bn W (w.heap.size + 2) [.bool false] ∧ Bn W (w.heap.size + 3) [.nilFunc] := by
  refine ⟨_, rfl, ((((Kp.refl _ _).alloc _).alloc _).alloc _).alloc _, by simp, ?_, ?_, ?_, ?_⟩
  · exact (((Bn.new w [.int .i64 c.n, .int .i64 c.s, .int .i64 c.k, .slice c.ta c.tl.length c.tc, .slice c.pa c.pl.length c.pc] 25).kept ((Kp.refl _ _).alloc _)).kept ((Kp.refl _ _).alloc _)).kept ((Kp.refl _ _).alloc _)
  · have h := Bn.new (w.alloc (.cells #[.int .i64 c.n, .int .i64 c.s, .int .i64 c.k, .slice c.ta c.tl.length c.tc, .slice c.pa c.pl.length c.pc] 25)) [.slice va V.length vc] 32
    rw [World.size_alloc] at h
    exact (h.kept ((Kp.refl _ _).alloc _)).kept ((Kp.refl _ _).alloc _)
  · have h := Bn.new ((w.alloc (.cells #[.int .i64 c.n, .int .i64 c.s, .int .i64 c.k, .slice c.ta c.tl.length c.tc, .slice c.pa c.pl.length c.pc] 25)).alloc (.cells #[.slice va V.length vc] 32)) [.bool false] 4
    rw [World.size_alloc, World.size_alloc] at h
    exact h.kept ((Kp.refl _ _).alloc _)
  · have h := Bn.new (((w.alloc (.cells #[.int .i64 c.n, .int .i64 c.s, .int .i64 c.k, .slice c.ta c.tl.length c.tc, .slice c.pa c.pl.length c.pc] 25)).alloc (.cells #[.slice va V.length vc] 32)).alloc (.cells #[.bool false] 4)) [.nilFunc] 85
    rw [World.size_alloc, World.size_alloc, World.size_alloc] at h
    exact h
set_option maxHeartbeats 16000000 in
set_option maxRecDepth 100000 in
theorem cCoveredC (c : Cg) (va : Option Addr) (vc : Nat) (V : List Bool) (M : Nat) (w : World) (hM : c.s = (M : Int)) (hc : c.ok w) (hv : BoE.See w va V) (hn : cntd c = true) (hsh : ∀ p ∈ c.pl, wi p.sh c.n = true) : Calls Try.prog 20 #[c.v, .slice va V.length vc] w fun e w' => e = .returned (.bool (cvdTo c M V (c.pl.length * M))) ∧ Kp [] w w' := by
  obtain ⟨W, eW, kW, zW, bC, bV, bR, bF⟩ := boxCv c va vc V w
  obtain ⟨W', eW', kW', bF'⟩ : ∃ W', W.setCell ⟨w.heap.size + 1 + 1 + 1, 0, none⟩ (.func (.func 44) #[] #[.pointer (some ⟨w.heap.size + 1, 0, none⟩)]) = W' ∧ Kp [w.heap.size + 3] W W' ∧ Bn W' (w.heap.size + 3) [.func (.func 44) #[] #[.pointer (some ⟨w.heap.size + 1, 0, none⟩)]] := ⟨_, rfl, (Kp.refl _ _).setCell (by simp) _, bF.set 0 (by simp) _⟩
  have hMl : M ≤ 8 := by have := (cntd_iff c).1 hn; omega
  have zW2 := kW'.size
  have hI0 : CvI w c va vc V W' := ⟨kW.trans kW' (fun x hx => .inr (by simp at hx; omega)), bC.keptS kW' (by simp) (by omega), bV.keptS kW' (by simp) (by omega), bR.keptS kW' (by simp) (by omega), bF'⟩
  have aSg := hid (cSegments c W' M hM hn)
  have HC := hid hc
  have HV := hid hv
  have HN := hid (And.intro hn hsh)
  have f0 : W.cell? ⟨w.heap.size + 1 + 1 + 1, 0, none⟩ = some .nilFunc := bF.get 0 _ rfl
  have ff : W.frozen? ⟨w.heap.size + 1 + 1 + 1, 0, none⟩ = false := bF.free 0
  have hP : c.pl.length ≤ 9223372036854775807 := by have := hc.pcap; have := hc.pmax; omega
  have c0 := hI0.bC.get 0 _ rfl; have c1 := hI0.bC.get 1 _ rfl; have c2 := hI0.bC.get 2 _ rfl; have c3 := hI0.bC.get 3 _ rfl; have c4 := hI0.bC.get 4 _ rfl
  have hz3 : Hid (w.heap.size + 4 ≤ W'.heap.size) := hid (by omega)
  have zW' : w.heap.size + 3 < W.heap.size := by omega
  have zW'' : w.heap.size + 3 < W'.heap.size := by omega
  have HI0 := hid hI0
  clear kW bC bV bR bF hc hv hn hsh hM zW kW' bF' hI0 zW2
  simp only [Cg.v] at *
  refine (callsIn_wide (n := 6)).1 ?_
  refine callsIn_of_wp_marks Try.func20 rfl trivial ?_ rfl
  simp only [Try.ntmps20, List.size_toArray, List.length_cons, List.length_nil, Nat.reduceAdd, Nat.reduceSub, Array.replicate_succ, Array.replicate_zero, List.push_toArray, List.append_toArray, List.nil_append, List.cons_append]
  refine wpIn_wide.2 ?_
  go_wp2_with fail
  refine aSg.out.mono ?_
  rintro e w1 ⟨q1, q2, rfl, hq1, hq2, l1, l2, k1⟩
  have z1 := k1.size
  have hsq := segSeq (6 - 1) (by omega) q1 q2 c.pl.length M w1 hq1 hq2 hP (by omega)
  have hlt1 := World.block_lt_of_cell? _ _ hq1
  have hlt2 := World.block_lt_of_cell? _ _ hq2
  have HL := hid (And.intro hlt1 (And.intro hlt2 (And.intro l1 l2)))
  have hB3 : w.heap.size + 4 ≤ w1.heap.size := by have := hz3.out; omega
  have HI1 := hid (HI0.out.keepS k1 (by simp))
  have HSQ := hid hsq
  clear aSg c0 c1 c2 c3 c4 f0 ff eW eW' hq1 hq2 l1 l2 hsq k1 hlt1 hlt2 HI0
  go_wp2_with fail
  refine (wpIn_wide (n := 6)).1 ?_
  refine wpRangeW rfl (by omega) (gf := 64) (lb := #[.pointer (some ⟨q1, 0, none⟩), .pointer (some ⟨q2, 0, none⟩)]) rfl trivial (enters_of Try.func64 (by kernel_rfl) rfl)
    HSQ.out (fun _ => rfl) KeepC.trans (fun s W o => KeepC.alloc _ W o) (fun s W k o o' _ ho hc _ => KeepC.putObj _ W k o o' ho hc) (KeepC.refl _ _) (fun s s' A B ht k o _ ho _ _ => by rw [← ht.2]; exact ho)
    (fun s W => CvI w c va vc V W ∧ cvdTo c M V s = true) (fun cd s W => cd = .ret ∧ CvX w W ∧ cvdTo c M V (c.pl.length * M) = false) ?hI ?hIx (fun s s' A B h ht => by rw [← ht.1, ← ht.2]; exact h) ?h0 ?hIa
    (fun x => .cells #[.int .i64 (x.1 : Int), .int .i64 (x.2 : Int)] 31)
    (fun x q3 => { tmps := #[.agg #[.int .i64 c.n, .int .i64 c.s, .int .i64 c.k, .slice c.ta c.tl.length c.tc, .slice c.pa c.pl.length c.pc], .slice va V.length vc, .pointer (some ⟨w.heap.size, 0, none⟩), .pointer (some ⟨w.heap.size + 1, 0, none⟩), .pointer (some ⟨w.heap.size + 2, 0, none⟩), .pointer (some ⟨w.heap.size + 3, 0, none⟩), .pointer (some ⟨q3, 0, none⟩), .func (.func 44) #[] #[.pointer (some ⟨w.heap.size + 1, 0, none⟩)], .agg #[.int .i64 c.n, .int .i64 c.s, .int .i64 c.k, .slice c.ta c.tl.length c.tc, .slice c.pa c.pl.length c.pc], .func (.func 64) #[] #[.pointer (some ⟨q1, 0, none⟩), .pointer (some ⟨q2, 0, none⟩)], .agg #[.int .i64 (x.1 : Int), .int .i64 (x.2 : Int)], undef, undef, undef, undef, undef, undef], defers := [] }) ?assign ?body ?done ?stop
  case hI =>
    rintro s X o' ⟨h, he⟩ hz
    have kp : Kp [w1.heap.size + 1] X (X.putObj (w1.heap.size + 1) o') := ⟨rfl, rfl, rfl, by simp, fun k hk hn => World.putObj_heap_other (by simpa using hn)⟩
    exact ⟨h.keepS kp (fun j hj => by simp at hj; omega), he⟩
  case hIx =>
    rintro cd s X o' ⟨hcd, h, he⟩ hz
    have kp : Kp [w1.heap.size + 1] X (X.putObj (w1.heap.size + 1) o') := ⟨rfl, rfl, rfl, by simp, fun k hk hn => World.putObj_heap_other (by simpa using hn)⟩
    exact ⟨hcd, h.keepS kp (fun j hj => by simp at hj; omega), he⟩
  case h0 =>
    intro o1 o2
    exact ⟨HI1.out.keepS (S := []) (((Kp.refl _ _).alloc _).alloc _) (by simp), rfl⟩
  case hIa =>
    rintro s X o ⟨h, he⟩
    exact ⟨h.keepS (S := []) ((Kp.refl _ _).alloc _) (by simp), he⟩
  case assign =>
    intro l x W C hC
    gi_wp2_with fail
    exact hC
  case body =>
    rintro lr s x A q3 ⟨h, hcv⟩ ⟨hslt, hxs, hx2, hx1⟩ hob hq3
    have hbx : ∀ z : Nat, A.cell? ⟨q3, z, none⟩ = (#[.int .i64 (x.1 : Int), .int .i64 (x.2 : Int)] : Array Value)[z]? := fun z => by
      unfold World.cell?
      simp [hob]
    have hv0 := hbx 0; have hv1 := hbx 1
    have hS : Hid (∀ W', Kp [] A W' → (W'.cell? ⟨w.heap.size, 0, none⟩ = some (.int .i64 c.n) ∧ W'.cell? ⟨w.heap.size, 1, none⟩ = some (.int .i64 c.s) ∧ W'.cell? ⟨w.heap.size, 2, none⟩ = some (.int .i64 c.k) ∧ W'.cell? ⟨w.heap.size, 3, none⟩ = some (.slice c.ta c.tl.length c.tc) ∧ W'.cell? ⟨w.heap.size, 4, none⟩ = some (.slice c.pa c.pl.length c.pc) ∧ W'.cell? ⟨w.heap.size + 3, 0, none⟩ = some (.func (.func 44) #[] #[.pointer (some ⟨w.heap.size + 1, 0, none⟩)]) ∧ W'.cell? ⟨q3, 0, none⟩ = some (.int .i64 (x.1 : Int)) ∧ W'.cell? ⟨q3, 1, none⟩ = some (.int .i64 (x.2 : Int)))) := fun W' k => by
      have h1 := h.bC.kept k
      have h2 := h.bF.kept k
      exact ⟨h1.get 0 _ rfl, h1.get 1 _ rfl, h1.get 2 _ rfl, h1.get 3 _ rfl, h1.get 4 _ rfl, h2.get 0 _ rfl, kpAt k hv0, kpAt k hv1⟩
    have aN := hid (fun W' (k : Kp [] A W') => cNodes c (x.1 : Int) (x.2 : Int) W' (HC.out.kept (h.kp.trans k (by simp))) HN.out.1 HN.out.2)
    have hnl := hid (ndsC_len c (x.1 : Int) (x.2 : Int))
    have hk8 : Hid (c.k.toNat ≤ 8) := by have := (cntd_iff c).1 HN.out.1; exact hid (by omega)
    have hou := hid (cvdTo_succ c M V s x hxs hx2)
    have hmo := hid (cvdTo_mono c M V (s + 1) (c.pl.length * M) (by omega))
    rw [hcv] at hou
    have HI := hid h
    have hq3' := hid (And.intro hq3 (Array.getElem?_eq_some_iff.1 hob).1)
    simp only [Cg.v] at aN
    clear hbx hob hv0 hv1 h hslt hx1 hcv
    gi_wp2_with fail
    refine region_round (fun W' => W'.cell? ⟨w.heap.size, 0, none⟩ = some (.int .i64 c.n) ∧ W'.cell? ⟨w.heap.size, 1, none⟩ = some (.int .i64 c.s) ∧ W'.cell? ⟨w.heap.size, 2, none⟩ = some (.int .i64 c.k) ∧ W'.cell? ⟨w.heap.size, 3, none⟩ = some (.slice c.ta c.tl.length c.tc) ∧ W'.cell? ⟨w.heap.size, 4, none⟩ = some (.slice c.pa c.pl.length c.pc) ∧ W'.cell? ⟨w.heap.size + 3, 0, none⟩ = some (.func (.func 44) #[] #[.pointer (some ⟨w.heap.size + 1, 0, none⟩)]) ∧ W'.cell? ⟨q3, 0, none⟩ = some (.int .i64 (x.1 : Int)) ∧ W'.cell? ⟨q3, 1, none⟩ = some (.int .i64 (x.2 : Int))) (by kernel_rfl) (by kernel_rfl) (by rintro ⟨_, _, hlo⟩; exact hlo) ?_ (fun hHeld => ?_)
    · exact hS.out _ (Kp.refl _ _).drew
    have KD : Hid (Kp [] A A.drew) := hid (Kp.refl _ _).drew
    generalize A.drew = Wd at *
    refine wpAnyH_take (i := 0) (v := ?_) rfl (by kernel_rfl) (by kernel_rfl) (by kernel_rfl) (fun _ _ _ h => h) (Or.inl ⟨by rfl, ?_⟩) (by assumption) ?_
    rotate_left
    · intro w hSw; (try dsimp only at hSw); go_simp <;> with_reducible rfl
    try simp only [Act.put, List.getElem_toArray, List.getElem_cons_zero, List.getElem_cons_succ, List.setIfInBounds_toArray, List.set_cons_zero, List.set_cons_succ]
    refine wpAnyH_take (i := 1) (v := ?_) rfl (by kernel_rfl) (by kernel_rfl) (by kernel_rfl) (fun _ _ _ h => h) (Or.inl ⟨by rfl, ?_⟩) (by assumption) ?_
    rotate_left
    · intro w hSw; (try dsimp only at hSw); go_simp <;> with_reducible rfl
    try simp only [Act.put, List.getElem_toArray, List.getElem_cons_zero, List.getElem_cons_succ, List.setIfInBounds_toArray, List.set_cons_zero, List.set_cons_succ]
    refine wpAnyH_take (i := 3) (v := ?_) rfl (by kernel_rfl) (by kernel_rfl) (by kernel_rfl) (fun _ _ _ h => h) (Or.inl ⟨by rfl, ?_⟩) (by assumption) ?_
    rotate_left
    · intro w hSw; (try dsimp only at hSw); go_simp <;> with_reducible rfl
    try simp only [Act.put, List.getElem_toArray, List.getElem_cons_zero, List.getElem_cons_succ, List.setIfInBounds_toArray, List.set_cons_zero, List.set_cons_succ]
    refine wpAnyH_ready (rs := [2]) (by kernel_rfl) (by simp) ?_
    refine AllReadyH.cons rfl (fun K hK => ?_) AllReadyH.nil
    go_simp
    refine (aN.out Wd KD.out).mono ?_
    rintro e wn ⟨na, nc, rfl, hns, hnc, hn8, kn⟩
    (try go_wp2_with fail)
    refine hK.out _ _ ?_ (fun hHeld => ?_)
    · exact hS.out _ (KD.out.trans kn (by simp))
    clear hK K
    try simp only [Act.put, List.getElem_toArray, List.getElem_cons_zero, List.getElem_cons_succ, List.setIfInBounds_toArray, List.set_cons_zero, List.set_cons_succ]
    have KN := hid (KD.out.trans kn (by simp))
    have hcn := HI.out.keepS KN.out (by simp)
    have aC := hid (cContB na nc (w.heap.size + 1) va vc V (ndsC c (x.1 : Int) (x.2 : Int)) (fun y hy => (nds_pos HN.out.1 y hy).1) wn hns (hcn.bV.get 0 _ rfl) (HV.out.keptNew hcn.kp) (by have := hnl.out; have := hk8.out; omega))
    clear kn hns hcn
    obtain ⟨X, hX⟩ : ∃ X, Hid ((ndsC c (x.1 : Int) (x.2 : Int)).any (lvAt V) = X) := ⟨_, hid rfl⟩
    rw [hX.out] at aC hou
    refine wpAnyH_ready (rs := [4]) (by kernel_rfl) (by simp) ?_
    refine AllReadyH.cons rfl (fun K hK => ?_) AllReadyH.nil
    go_simp
    refine aC.out.mono ?_
    rintro e wc ⟨rfl, kc⟩
    (try go_wp2_with fail)
    refine hK.out _ _ ?_ (fun hHeld => ?_)
    · exact hS.out _ (KN.out.trans kc (by simp))
    clear hK K
    try simp only [Act.put, List.getElem_toArray, List.getElem_cons_zero, List.getElem_cons_succ, List.setIfInBounds_toArray, List.set_cons_zero, List.set_cons_succ]
    have KC := hid (KN.out.trans kc (by simp))
    clear kc aC
    have h := HI.out.keepS (S := []) KC.out (by simp)
    have hRec : ∀ W' S, Kp S A W' → (∀ j ∈ S, j < w1.heap.size) → Recs w1.heap.size A W' := fun W' S k hSS => ⟨k.block _ (by have := hq3'.out.1; have := hq3'.out.2; omega) (fun hm => by have := hSS _ hm; omega), k.block _ (by have := hq3'.out.1; have := hq3'.out.2; omega) (fun hm => by have := hSS _ hm; omega)⟩
    cases X with
    | true =>
      have HF : Hid (CvI w c va vc V wc ∧ cvdTo c M V (s + 1) = true) := hid ⟨h, by rw [hou.out]; rfl⟩
      have HR := hid (And.intro (hRec wc [] KC.out (by simp)) (KeepC.ofKp (G := Gsg q1 q2) KC.out (by simp)))
      refine wpAnyH_take (i := 5) (v := ?_) rfl (by kernel_rfl) (by kernel_rfl) (by kernel_rfl) (fun _ _ _ h => h) (Or.inl ⟨by rfl, ?_⟩) (by assumption) ?_
      rotate_left
      · intro w hSw; (try dsimp only at hSw); go_simp <;> with_reducible rfl
      try simp only [Act.put, List.getElem_toArray, List.getElem_cons_zero, List.getElem_cons_succ, List.setIfInBounds_toArray, List.set_cons_zero, List.set_cons_succ]
      try simp only [Bool.not_true, Bool.not_false]
      refine wpAnyH_done (by kernel_rfl) ?_ _
      clear hHeld hRec h hX hou
      gi_wp2_with fail
      exact ⟨HR.out.1, HR.out.2, HF.out⟩
    | false =>
      have hfl : cvdTo c M V (c.pl.length * M) = false := hmo.out (by rw [hou.out]; rfl)
      have r0 := h.bR.get 0 _ rfl
      have rf := h.bR.free 0
      obtain ⟨W5, e5⟩ : ∃ Y, wc.setCell ⟨w.heap.size + 2, 0, none⟩ (.bool false) = Y := ⟨_, rfl⟩
      have k5 : Kp [w.heap.size + 2] wc W5 := by rw [← e5]; exact (Kp.refl _ _).setCell (by simp) _
      have b5 : Bn W5 (w.heap.size + 2) [.bool false] := by rw [← e5]; exact h.bR.set 0 (by simp) _
      have kA5 : Kp [w.heap.size + 2] A W5 := (KC.out.mono (T := [w.heap.size + 2]) (by simp)).trans k5 (fun j hj => .inl hj)
      have HF : Hid (Recs w1.heap.size A W5 ∧ CvX w W5 ∧ cvdTo c M V (c.pl.length * M) = false) := hid ⟨hRec W5 _ kA5 (fun j hj => by simp at hj; omega), ⟨h.kp.trans k5 (fun j hj => .inr (by simp at hj; omega)), b5⟩, hfl⟩
      have hlr := h.bR.lt (by simp)
      refine wpAnyH_take (i := 5) (v := ?_) rfl (by kernel_rfl) (by kernel_rfl) (by kernel_rfl) (fun _ _ _ h => h) (Or.inl ⟨by rfl, ?_⟩) (by assumption) ?_
      rotate_left
      · intro w hSw; (try dsimp only at hSw); go_simp <;> with_reducible rfl
      try simp only [Act.put, List.getElem_toArray, List.getElem_cons_zero, List.getElem_cons_succ, List.setIfInBounds_toArray, List.set_cons_zero, List.set_cons_succ]
      try simp only [Bool.not_true, Bool.not_false]
      refine wpAnyH_done (by kernel_rfl) ?_ _
      clear hHeld hRec h hX hou k5 b5 kA5 hfl
      gi_wp2_with fail
      exact ⟨HF.out.1, rfl, HF.out.2⟩
  case done =>
    rintro D s X hD hs ⟨h, hcv⟩ hK
    rw [hs] at hcv
    have kp : ∀ Y : World, Kp [D] Y (Y.putObj D (.deferred none)) := fun Y => ⟨rfl, rfl, rfl, by simp, fun k hk hn => World.putObj_heap_other (by simpa using hn)⟩
    have r0 := h.bR.get 0 _ rfl
    have rf := h.bR.free 0
    have hlr := h.bR.lt (by simp)
    obtain ⟨W5, e5⟩ : ∃ Y, X.setCell ⟨w.heap.size + 2, 0, none⟩ (.bool true) = Y := ⟨_, rfl⟩
    have k5 : Kp [w.heap.size + 2] X W5 := by rw [← e5]; exact (Kp.refl _ _).setCell (by simp) _
    have b5 : Bn W5 (w.heap.size + 2) [.bool true] := by rw [← e5]; exact h.bR.set 0 (by simp) _
    have hDl : D < X.heap.size := (Array.getElem?_eq_some_iff.1 hK).1
    have hK5 : W5.heap[D]? = some (.deferred (some [])) := (k5.block D hDl (by simp; omega)).trans hK
    have z5 := k5.size
    have b6 := (b5.keptS (kp W5) (by simp; omega) (by omega)).get 0 _ rfl
    have HF := hid ((h.kp.trans k5 (fun j hj => .inr (by simp at hj; omega))).trans (kp W5) (fun j hj => .inr (by simp at hj; omega)))
    have HK5 := hid (And.intro hK5 b6)
    have HCV := hid hcv
    clear h hcv k5 b5 kp hK5 b6
    go_wp2_with fail
    refine ⟨by simp, .inl ⟨_, _, rfl, run_takeDeferred HK5.out.1, ?_⟩⟩
    exact ⟨.bool true, by simp [results, Try.results20, go_sem, HK5.out.2], by rw [HCV.out], HF.out⟩
  case stop =>
    rintro D cd s X hD _ ⟨rfl, h, hcv⟩ hK
    have kp : ∀ Y : World, Kp [D] Y (Y.putObj D (.deferred none)) := fun Y => ⟨rfl, rfl, rfl, by simp, fun k hk hn => World.putObj_heap_other (by simpa using hn)⟩
    have hlr := h.bR.lt (by simp)
    have b6 := (h.bR.keptS (kp X) (by simp; omega) (by omega)).get 0 _ rfl
    have HF := hid (h.kp.trans (kp X) (fun j hj => .inr (by simp at hj; omega)))
    have HK5 := hid (And.intro hK b6)
    have HCV := hid hcv
    clear h hcv kp hK b6
    gi_wp2_with fail
    refine ⟨by simp, .inl ⟨_, _, rfl, run_takeDeferred HK5.out.1, ?_⟩⟩
    exact ⟨.bool false, by simp [results, Try.results20, go_sem, HK5.out.2], by rw [HCV.out], HF.out⟩
end Go.Proofs.Ytckicbaidbgonaa
end

section
namespace Go.Proofs.Ytckicbaidbgonaa
open Go.RowKit Go.Hay
set_option linter.unusedVariables false
set_option linter.unusedSimpArgs false

/-- The law's own catalog. -/
def cgA (q : Nat) : Cg := ⟨3, 2, 1, some ⟨q + 1, 0, none⟩, 1, [⟨⟨#[116]⟩, some ⟨q, 0, none⟩, 1, [⟨⟨#[97]⟩, 2, false⟩]⟩], some ⟨q + 1 + 1 + 1, 0, none⟩, 1, [⟨⟨#[112]⟩, 0, some ⟨q + 1 + 1, 0, none⟩, 1, [0], none, 0, [], 0, 2⟩]⟩
theorem boxAl (w : World) : ∃ W, (((((w.alloc (.cells #[.string ⟨#[97]⟩, .int .i64 2, .bool false] 73)).alloc (.cells #[.string ⟨#[116]⟩, .slice (some ⟨w.heap.size, 0, none⟩) 1 1] 76)).alloc (.cells #[.int .i64 0] 3)).alloc (.cells #[.string ⟨#[112]⟩, .int .i64 0, .slice (some ⟨w.heap.size + 1 + 1, 0, none⟩) 1 1, .slice none 0 0, .int .i64 0, .int .i64 2] 48)).alloc (.cells #[.int .i64 3, .int .i64 2, .int .i64 1, .slice (some ⟨w.heap.size + 1, 0, none⟩) 1 1, .slice (some ⟨w.heap.size + 1 + 1 + 1, 0, none⟩) 1 1] 25)) = W ∧ Kp [] w W ∧ W.heap.size = w.heap.size + 5 ∧ Bn W (w.heap.size) [.string ⟨#[97]⟩, .int .i64 2, .bool false] ∧ Bn W (w.heap.size + 1) [.string ⟨#[116]⟩, .slice (some ⟨w.heap.size, 0, none⟩) 1 1] ∧ Bn W (w.heap.size + 1 + 1) [.int .i64 0] ∧ Bn W (w.heap.size + 1 + 1 + 1) [.string ⟨#[112]⟩, .int .i64 0, .slice (some ⟨w.heap.size + 1 + 1, 0, none⟩) 1 1, .slice none 0 0, .int .i64 0, .int .i64 2] ∧ Bn W (w.heap.size + 1 + 1 + 1 + 1) [.int .i64 3, .int .i64 2, .int .i64 1, .slice (some ⟨w.heap.size + 1, 0, none⟩) 1 1, .slice (some ⟨w.heap.size + 1 + 1 + 1, 0, none⟩) 1 1] := by
  refine ⟨_, rfl, (((((Kp.refl _ _).alloc _).alloc _).alloc _).alloc _).alloc _, by simp, ?_, ?_, ?_, ?_, ?_⟩
  · have h := Bn.new w [.string ⟨#[97]⟩, .int .i64 2, .bool false] 73
    try simp only [World.size_alloc] at h
    exact ((((h.kept ((Kp.refl _ _).alloc _)).kept ((Kp.refl _ _).alloc _)).kept ((Kp.refl _ _).alloc _)).kept ((Kp.refl _ _).alloc _))
  · have h := Bn.new (w.alloc (.cells #[.string ⟨#[97]⟩, .int .i64 2, .bool false] 73)) [.string ⟨#[116]⟩, .slice (some ⟨w.heap.size, 0, none⟩) 1 1] 76
    try simp only [World.size_alloc] at h
    exact (((h.kept ((Kp.refl _ _).alloc _)).kept ((Kp.refl _ _).alloc _)).kept ((Kp.refl _ _).alloc _))
  · have h := Bn.new ((w.alloc (.cells #[.string ⟨#[97]⟩, .int .i64 2, .bool false] 73)).alloc (.cells #[.string ⟨#[116]⟩, .slice (some ⟨w.heap.size, 0, none⟩) 1 1] 76)) [.int .i64 0] 3
    try simp only [World.size_alloc] at h
    exact ((h.kept ((Kp.refl _ _).alloc _)).kept ((Kp.refl _ _).alloc _))
  · have h := Bn.new (((w.alloc (.cells #[.string ⟨#[97]⟩, .int .i64 2, .bool false] 73)).alloc (.cells #[.string ⟨#[116]⟩, .slice (some ⟨w.heap.size, 0, none⟩) 1 1] 76)).alloc (.cells #[.int .i64 0] 3)) [.string ⟨#[112]⟩, .int .i64 0, .slice (some ⟨w.heap.size + 1 + 1, 0, none⟩) 1 1, .slice none 0 0, .int .i64 0, .int .i64 2] 48
    try simp only [World.size_alloc] at h
    exact (h.kept ((Kp.refl _ _).alloc _))
  · have h := Bn.new ((((w.alloc (.cells #[.string ⟨#[97]⟩, .int .i64 2, .bool false] 73)).alloc (.cells #[.string ⟨#[116]⟩, .slice (some ⟨w.heap.size, 0, none⟩) 1 1] 76)).alloc (.cells #[.int .i64 0] 3)).alloc (.cells #[.string ⟨#[112]⟩, .int .i64 0, .slice (some ⟨w.heap.size + 1 + 1, 0, none⟩) 1 1, .slice none 0 0, .int .i64 0, .int .i64 2] 48)) [.int .i64 3, .int .i64 2, .int .i64 1, .slice (some ⟨w.heap.size + 1, 0, none⟩) 1 1, .slice (some ⟨w.heap.size + 1 + 1 + 1, 0, none⟩) 1 1] 25
    try simp only [World.size_alloc] at h
    exact h
theorem cgA_ok {w W : World} (b0 : Bn W (w.heap.size) [.string ⟨#[97]⟩, .int .i64 2, .bool false]) (b1 : Bn W (w.heap.size + 1) [.string ⟨#[116]⟩, .slice (some ⟨w.heap.size, 0, none⟩) 1 1]) (b2 : Bn W (w.heap.size + 1 + 1) [.int .i64 0]) (b3 : Bn W (w.heap.size + 1 + 1 + 1) [.string ⟨#[112]⟩, .int .i64 0, .slice (some ⟨w.heap.size + 1 + 1, 0, none⟩) 1 1, .slice none 0 0, .int .i64 0, .int .i64 2]) : (cgA w.heap.size).ok W := by
  refine ⟨.inr ⟨_, 0, rfl, fun j u hu => ?_⟩, fun t ht => ?_, by simp [cgA], by simp [cgA], .inr ⟨_, 0, rfl, fun j u hu => ?_⟩, fun p hp => ?_, by simp [cgA], by simp [cgA]⟩
  · rw [Nat.zero_add]; exact b1.get j u (by simpa [cgA, El.cs, TbE] using hu)
  · simp [cgA] at ht
    subst ht
    refine ⟨.inr ⟨w.heap.size, 0, rfl, fun j x hx => ?_⟩, by simp, by simp⟩
    match j, hx with
    | 0, hx =>
      simp at hx
      subst hx
      exact ⟨b0.get 0 _ rfl, b0.get 1 _ rfl, b0.get 2 _ rfl⟩
    | j + 1, hx => simp at hx
  · rw [Nat.zero_add]; exact b3.get j u (by simpa [cgA, El.cs, PjE] using hu)
  · simp [cgA] at hp
    subst hp
    exact ⟨.inr ⟨_, 0, rfl, fun j u hu => by rw [Nat.zero_add]; exact b2.get j u (by simpa [El.cs, IntE] using hu)⟩, .inl rfl, by simp, by simp, by simp, by simp⟩
theorem cgA_cnt (q : Nat) : cntd (cgA q) = true := rfl
theorem cgA_nds (q : Nat) : ndsC (cgA q) 0 1 = [0, 1] := by kernel_rfl
theorem cgA_chk (q : Nat) : chkC (cgA q) = 0 := by kernel_rfl
theorem cgA_cvd (q : Nat) : cvdTo (cgA q) 2 [true, false, false] (1 * 2) = true := by kernel_rfl
theorem cgA_sh (q : Nat) : ∀ p ∈ (cgA q).pl, wi p.sh (cgA q).n = true := fun p hp => by
  simp [cgA] at hp
  subst hp
  rfl
set_option maxHeartbeats 4000000 in
set_option maxRecDepth 100000 in
theorem cAlive (w : World) : Calls Try.prog 9 #[] w fun e w' => e = .returned (.bool true) ∧ Kp [] w w' := by
  obtain ⟨W, eW, kW, zW, b0, b1, b2, b3, b4⟩ := boxAl w
  have hok := cgA_ok b0 b1 b2 b3
  have aN := cNodes (cgA w.heap.size) 0 1 W hok (cgA_cnt _) (cgA_sh _)
  rw [cgA_nds] at aN
  have aN' : Hid (Calls Try.prog 18 #[.agg #[.int .i64 3, .int .i64 2, .int .i64 1, .slice (some ⟨w.heap.size + 1, 0, none⟩) 1 1, .slice (some ⟨w.heap.size + 1 + 1 + 1, 0, none⟩) 1 1], .agg #[.int .i64 0, .int .i64 1]] W (NdP [0, 1] W)) := hid aN
  have aK : Hid (∀ w', Kp [] W w' → Calls Try.prog 10 #[.agg #[.int .i64 3, .int .i64 2, .int .i64 1, .slice (some ⟨w.heap.size + 1, 0, none⟩) 1 1, .slice (some ⟨w.heap.size + 1 + 1 + 1, 0, none⟩) 1 1]] w' fun e w'' => e = .returned (.int .i64 0) ∧ Kp [] w' w'') := fun w' k => by
    have h := cCheck (cgA w.heap.size) w' (hok.kept k)
    rw [cgA_chk] at h
    exact h
  have aV : Hid (∀ w' (va : Option Addr), Kp [] W w' → BoE.See w' va [true, false, false] → Calls Try.prog 20 #[.agg #[.int .i64 3, .int .i64 2, .int .i64 1, .slice (some ⟨w.heap.size + 1, 0, none⟩) 1 1, .slice (some ⟨w.heap.size + 1 + 1 + 1, 0, none⟩) 1 1], .slice va 3 3] w' fun e w'' => e = .returned (.bool true) ∧ Kp [] w' w'') := fun w' va k s => by
    have h := cCoveredC (cgA w.heap.size) va 3 [true, false, false] 2 w' rfl (hok.kept k) s (cgA_cnt _) (cgA_sh _)
    have e : cvdTo (cgA w.heap.size) 2 [true, false, false] ((cgA w.heap.size).pl.length * 2) = true := cgA_cvd _
    rw [e] at h
    exact h
  have hF : Hid (∀ w', Kp [] W w' → w'.cell? ⟨w.heap.size + 1 + 1 + 1 + 1, 0, none⟩ = some (.int .i64 3) ∧ w'.cell? ⟨w.heap.size + 1 + 1 + 1 + 1, 1, none⟩ = some (.int .i64 2) ∧ w'.cell? ⟨w.heap.size + 1 + 1 + 1 + 1, 2, none⟩ = some (.int .i64 1) ∧ w'.cell? ⟨w.heap.size + 1 + 1 + 1 + 1, 3, none⟩ = some (.slice (some ⟨w.heap.size + 1, 0, none⟩) 1 1) ∧ w'.cell? ⟨w.heap.size + 1 + 1 + 1 + 1, 4, none⟩ = some (.slice (some ⟨w.heap.size + 1 + 1 + 1, 0, none⟩) 1 1)) := fun w' k => by
    have h1 := b4.kept k
    exact ⟨h1.get 0 _ rfl, h1.get 1 _ rfl, h1.get 2 _ rfl, h1.get 3 _ rfl, h1.get 4 _ rfl⟩
  have KW := hid kW
  have zW' : w.heap.size + 1 + 1 + 1 + 1 < W.heap.size := by omega
  clear b0 b1 b2 b3 b4 kW aN hok zW
  obtain ⟨c0, c1, c2, c3, c4⟩ := hF.out W (Kp.refl _ _)
  go_enter Try.func9, Try.ntmps9
  go_wp2_with fail
  refine aN'.out.mono ?_
  rintro e w1 ⟨na, nc, rfl, hns, hnc, hn8, k1⟩
  have K1 := hid k1
  have HNS := hid hns
  clear c0 c1 c2 c3 c4
  obtain ⟨c0, c1, c2, c3, c4⟩ := hF.out _ K1.out
  clear aN' k1 hns eW
  simp only [List.length_cons, List.length_nil, Nat.zero_add, Nat.reduceAdd] at *
  go_wp2_with fail
  refine (aK.out _ K1.out).mono ?_
  rintro e w2 ⟨rfl, k2⟩
  have K2 := hid (K1.out.trans k2 (by simp))
  obtain ⟨g, o, eg, x0⟩ := intAt (HNS.out.keptNew k2) 0 (by simp)
  obtain ⟨g2, o2, eg2, x1⟩ := intAt (HNS.out.keptNew k2) 1 (by simp)
  subst eg
  injection eg2 with eg2
  injection eg2 with e3 e4
  subst e3 e4
  simp only [List.getElem_cons_zero, List.getElem_cons_succ, Nat.add_zero] at x0 x1
  clear k2 c0 c1 c2 c3 c4 aK
  obtain ⟨c0, c1, c2, c3, c4⟩ := hF.out _ K2.out
  obtain ⟨W3, e3⟩ : ∃ Y, w2.alloc (.cells #[.bool true, .bool false, .bool false] 4) = Y := ⟨_, rfl⟩
  have k3 : Kp [] w2 W3 := by rw [← e3]; exact (Kp.refl _ _).alloc _
  have s3 : BoE.See W3 (some ⟨w2.heap.size, 0, none⟩) [true, false, false] := by
    refine .inr ⟨w2.heap.size, 0, rfl, fun j u hu => ?_⟩
    have e : W3.cell? ⟨w2.heap.size, 0 + j, none⟩ = (#[Value.bool true, .bool false, .bool false] : Array Value)[0 + j]? := by rw [← e3]; exact World.cell?_alloc_new w2 _ _ (0 + j)
    rw [e, Nat.zero_add]
    simpa [El.cs, BoE] using hu
  have K3 := hid (K2.out.trans k3 (by simp))
  have qV := hid (aV.out W3 _ K3.out s3)
  clear k3 s3
  go_wp2_with fail
  refine qV.out.mono ?_
  rintro e w4 ⟨rfl, k4⟩
  have K4 := hid (K3.out.trans k4 (by simp))
  clear k4 qV
  go_wp2_with fail
  go_ret
  exact ⟨rfl, KW.out.trans K4.out (by simp)⟩
end Go.Proofs.Ytckicbaidbgonaa
end

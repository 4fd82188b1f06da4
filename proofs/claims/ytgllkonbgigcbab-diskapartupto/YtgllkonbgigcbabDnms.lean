/- Names: all names, rising. -/
import Derived.Test.YtgllkonbgigcbabDris
import Derived.Maps.OwnIn
namespace Go.Proofs.Ytgllkonbgigcbab
open Go.RowKit Go.Hay Go.Maps Go.Sort Go.Shelf
attribute [local go_sem] Oper.semAt_some
set_option linter.unusedVariables false
set_option linter.unusedSimpArgs false

abbrev RowN (base : Nat) (w : World) (v : Value) (l : List (List UInt8)) : Prop := w.ownsRow base 9 1 v l.length (l.map encStr)
theorem RowN.lt {base : Nat} {w : World} {v : Value} {l : List (List UInt8)} (h : RowN base w v l) : ∀ k, v.ownBlock = some k → base ≤ k ∧ k < w.heap.size ∧ ∃ o : Obj, w.heap[k]? = some o ∧ o.isCells = true := by
  obtain ⟨_, ⟨rfl, _⟩ | ⟨g, cap, cur, rfl, hb, hg, _⟩⟩ := h
  · intro k hk; cases hk
  · intro k hk; cases hk; exact ⟨hb, (Array.getElem?_eq_some_iff.1 hg).1, _, hg, rfl⟩
theorem RowN.kept {base : Nat} {w w' : World} {v : Value} {l : List (List UInt8)} (h : RowN base w v l) (hb : ∀ k, v.ownBlock = some k → w'.heap[k]? = w.heap[k]?) : RowN base w' v l := by
  obtain ⟨h0, ⟨rfl, h1⟩ | ⟨g, cap, cur, rfl, hb', hg, h2⟩⟩ := h
  · exact ⟨h0, .inl ⟨rfl, h1⟩⟩
  · exact ⟨h0, .inr ⟨g, cap, cur, rfl, hb', (hb g rfl).trans hg, h2⟩⟩
theorem RowN.shape {base : Nat} {w : World} {v : Value} {l : List (List UInt8)} (h : RowN base w v l) : ∃ a c, v = .slice a l.length c := by
  obtain ⟨_, ⟨rfl, h0⟩ | ⟨g, cap, cur, rfl, _⟩⟩ := h
  · exact ⟨none, 0, by rw [h0]⟩
  · exact ⟨_, _, rfl⟩
theorem RowN.low {base m : Nat} {w : World} {v : Value} {l : List (List UInt8)} (h : RowN base w v l) (hm : m ≤ base) : RowN m w v l := by
  obtain ⟨h0, ⟨rfl, h1⟩ | ⟨g, cap, cur, rfl, hb', hg, h2⟩⟩ := h
  · exact ⟨h0, .inl ⟨rfl, h1⟩⟩
  · exact ⟨h0, .inr ⟨g, cap, cur, rfl, Nat.le_trans hm hb', hg, h2⟩⟩
theorem infoS : ∃ i : TypeInfo, Try.prog.info? 9 = some i ∧ i.zero = some (.string ⟨#[]⟩) ∧ i.size = 1 ∧ i.bytes = 16 := info3 (by kernel_rfl)

/-- One text more, for the fenced walk. -/
theorem wpAppN {F : Fence} {n : Nat} {w : World} {ops : Array Oper} {rest : List Oper} {o : Oper} {a : Act} {Q : Exit → Act → World → Prop} (hgd : o.guard = none) (s x : Operand)
    (ho : o.op = .call { callee := .builtin .append, args := #[s, x], argTypes := #[42, 42] })
    (b0 : Nat) (v : Value) (l : List (List UInt8)) (hv : a.eval s = v) (hown : RowN b0 w v l) (t : List UInt8) (q : Nat) (hq : w.heap.size = q) (hx : a.eval x = .slice (some ⟨q, 0, none⟩) 1 1) (hb : l.length + 1 ≤ 5000000000000) (hbase : b0 ≤ w.heap.size)
    (hK : ∀ l' a' c' w', Hid (l' = l ++ [t]) → RowN b0 w' (.slice a' l'.length c') l' → Kp v.ownBlock.toList w w' → (∀ k, (Value.slice a' l'.length c').ownBlock = some k → v.ownBlock = some k ∨ w.heap.size ≤ k) → wpListIn F n Try.prog ops Q rest (a.put o.dst (.slice a' l'.length c')) w') :
    wpListIn F n Try.prog ops Q (o :: rest) a (w.alloc (.cells #[.string ⟨t.toArray⟩] 9)) := by
  subst hq
  obtain ⟨i, hi, hz, hz1, hz2⟩ := infoS
  have hown1 : RowN b0 (w.alloc (.cells #[.string ⟨t.toArray⟩] 9)) v l := RowN.kept hown (fun k hk => Below.heap_alloc _ _ k (RowN.lt hown k hk).2.1)
  refine wpListIn_append_own_at _ hgd s x 42 ho b0 9 i _ 1 16 Try.underlying42 hi hz hz1 hz2 rfl (by decide) v l.length (l.map encStr) hv hown1 ⟨w.heap.size, 0, none⟩ 1 1 [encStr t] hx rfl (cell_one_new w _ _) (by intro u hu; simp at hu; subst hu; rfl) (by unfold maxLen; omega) (by omega) (by simp; omega) ?_
  intro v' w' h2 h3 _ h5
  have h2' : RowN b0 w' v' (l ++ [t]) := by
    unfold RowN
    rw [List.length_append, List.map_append]
    exact h2
  obtain ⟨a', c', rfl⟩ := RowN.shape h2'
  refine hK (l ++ [t]) a' c' w' rfl h2' ?_ ?_
  · exact ((Kp.refl _ w).alloc _).grown h3 (fun k e => .inl (by rw [Option.mem_toList]; exact e))
  · intro k hk
    rcases h5 with h5 | h5
    · exact .inl (h5.symm.trans hk)
    · rw [hk] at h5
      cases h5
      exact .inr (by simp)
/-- How it stands between two rounds. -/
def NamesI (xs : List Ent) (b0 : Nat) (w : World) (s : Sr) (W : World) : Prop := ∃ v l, W.cell? ⟨w.heap.size, 0, none⟩ = some v ∧ W.frozen? ⟨w.heap.size, 0, none⟩ = false ∧ RowN b0 W v l ∧ l = (xs.map Ent.name).take s.i ∧ Kp [] w W ∧ b0 ≤ W.heap.size ∧ s.i ≤ xs.length ∧ ∀ q, s.q = some q → b0 ≤ q ∧ q < W.heap.size ∧ v.ownBlock ≠ some q
theorem namesOwn (xs : List Ent) (b0 : Nat) (w : World) (hB : w.heap.size < b0) : OwnFrom b0 (NamesI xs b0 w) := fun s W W' row h hg hr => by
  obtain ⟨v, l, h1, h2, h3, h4, h5, h6, h7, h8⟩ := h
  have hb : W'.heap[w.heap.size]? = W.heap[w.heap.size]? := hg.block _ (World.block_lt_of_cell? _ _ h1) (fun e => by have := (hr _ e.symm).1; omega)
  refine ⟨v, l, (World.cell?_of_block (a := ⟨w.heap.size, 0, none⟩) hb).trans h1, (World.frozen?_of_block (a := ⟨w.heap.size, 0, none⟩) hb).trans h2, h3.kept (fun k hk => hg.block k (h3.lt k hk).2.1 (fun e => ?_)), h4, h5.grown hg (fun k e => by have := (hr k e).1; exact .inr (by omega)), Nat.le_trans h6 hg.size, h7, fun q hq => ⟨(h8 q hq).1, Nat.lt_of_lt_of_le (h8 q hq).2.1 hg.size, (h8 q hq).2.2⟩⟩
  obtain ⟨_, o, ho, hc⟩ := hr k e.symm
  obtain ⟨_, _, o', ho', hc'⟩ := h3.lt k hk
  rw [ho] at ho'; cases ho'; rw [hc] at hc'; cases hc'
theorem namesTurn (xs : List Ent) (b0 : Nat) (w : World) (hB : w.heap.size < b0) (s s' : Sr) (A B : World) (h : NamesI xs b0 w s A) (ht : StepR s s' A B) : NamesI xs b0 w s' B := by
  obtain ⟨v, l, h1, h2, h3, h4, h5, h6, h7, h8⟩ := h
  obtain ⟨_, e, hk, q, hq, hq1, hq2⟩ := ht
  have ei : s'.i = s.i := by rw [e]
  have hlt := World.block_lt_of_cell? _ _ h1
  refine ⟨v, l, (hk.cell (p := ⟨w.heap.size, 0, none⟩) hlt (by simp)).trans h1, (hk.frozen (p := ⟨w.heap.size, 0, none⟩) hlt (by simp)).trans h2, h3.kept (fun k hk' => hk.block k (h3.lt k hk').2.1 (by simp)), by rw [ei]; exact h4, h5.trans hk (by simp), Nat.le_trans h6 hk.size, by rw [ei]; exact h7, fun q' hq' => ?_⟩
  rw [hq] at hq'
  cases hq'
  exact ⟨by omega, hq2, fun e => by have := (h3.lt _ e).2.1; omega⟩
theorem stepRKeeps {s s' : Sr} {A B : World} (ht : StepR s s' A B) (k : Nat) (o : Obj) (ho : A.heap[k]? = some o) : B.heap[k]? = some o :=
  (ht.2.2.1.block k (Array.getElem?_eq_some_iff.1 ho).1 (by simp)).trans ho

def NamesP (xs : List Ent) (w : World) (e : Ending) (w' : World) : Prop := ∃ a c, e = .returned (.slice a xs.length c) ∧ RowN w.heap.size w' (.slice a xs.length c) (xs.map Ent.name) ∧ Kp [] w w'
theorem Disk.names {w : World} {p mb : Nat} {xs : List Ent} {d : Dk} (h : Disk w p mb xs d) : ∀ x ∈ xs, x.name.length ≤ maxLen := fun x hx => by
  have := h.ok.name x.fl (by rw [h.fl]; exact List.mem_map_of_mem hx)
  simp only [nameOk, Ent.fl, Bool.and_eq_true, decide_eq_true_eq] at this
  obtain ⟨_, _, h32⟩ := this
  have h33 : x.name.length ≤ 32 := of_decide_eq_true h32
  unfold maxLen
  omega

set_option maxHeartbeats 8000000 in
set_option maxRecDepth 100000 in
theorem cNames {w : World} {p mb : Nat} {xs : List Ent} {d : Dk} (hD : Disk w p mb xs d) (hN : xs.length ≤ 1000000000000) : Calls Try.prog 12 #[.pointer (some ⟨p, 0, none⟩)] w (NamesP xs w) := by
  have hplt := hD.hd.lt
  have hmlt := hD.map.lt
  refine (callsIn_wide (n := 4)).1 ?_
  refine callsIn_of_wp_marks Try.func12 rfl trivial ?_ rfl
  simp only [Try.ntmps12, List.size_toArray, List.length_cons, List.length_nil, Nat.reduceAdd, Nat.reduceSub, Array.replicate_succ, Array.replicate_zero, List.push_toArray, List.append_toArray, List.nil_append, List.cons_append]
  gi_wp2_with fail
  refine ⟨trivial, (callsIn_wide.2 (cRising _ _)).mono ?_⟩
  rintro e w' ⟨rfl, rfl⟩
  obtain ⟨w1, hw1⟩ : ∃ w1, w1 = (w.alloc (.cells #[.slice none 0 0] 42)).alloc (.cells #[.pointer (some ⟨p, 0, none⟩)] 23) := ⟨_, rfl⟩
  have hs1 : w1.heap.size = w.heap.size + 2 := by rw [hw1]; simp
  have k1 : Kp [] w w1 := by rw [hw1]; exact ((Kp.refl _ _).alloc _).alloc _
  have b0 : w1.cell? ⟨w.heap.size, 0, none⟩ = some (.slice none 0 0) := by rw [hw1]; simp
  have f0 : w1.frozen? ⟨w.heap.size, 0, none⟩ = false := by rw [hw1]; simp
  have b1 : w1.cell? ⟨w.heap.size + 1, 0, none⟩ = some (.pointer (some ⟨p, 0, none⟩)) := by
    rw [hw1]
    have := World.cell?_alloc_new (w.alloc (.cells #[.slice none 0 0] 42)) #[.pointer (some ⟨p, 0, none⟩)] 23 0
    rwa [World.size_alloc] at this
  rw [← hw1]
  simp only [World.size_alloc]
  have hD1 := hD.keptNew k1
  have hseq := risingSeq (4 - 1) (by omega) (w.heap.size + 1) p mb xs hD.rise (by omega) hD.names w1 ⟨b1, hD1.hd.c1, hD1.map⟩
  have hI0 : NamesI xs w1.heap.size w ⟨none, 0⟩ w1 := ⟨_, [], b0, f0, ⟨rfl, .inl ⟨rfl, rfl⟩⟩, by simp, k1, Nat.le_refl _, Nat.zero_le _, by simp⟩
  have hJs : ∀ j ∈ [w.heap.size + 1, p, mb], j < w1.heap.size := by intro j hj; simp at hj; omega
  have hs1a : w.heap.size + 2 ≤ w1.heap.size := by omega
  have hs1b : w1.heap.size ≤ w.heap.size + 2 := by omega
  clear b0 f0 hw1 hs1
  gi_wp2_with fail
  refine wpRangeS rfl (by omega) (gf := 41) (lb := #[.pointer (some ⟨w.heap.size + 1, 0, none⟩)]) rfl trivial (enters_of Try.func41 (by kernel_rfl) rfl)
    hseq (fun _ => rfl) KeepR.trans (fun s => KeepR.alloc _ s) (fun s W l o o' hl ho hc _ => KeepR.putObj hJs W l o o' hl ho hc) (KeepR.refl _ _ _) (fun s s' A B ht k o _ ho _ _ => stepRKeeps ht k o ho)
    (NamesI xs w1.heap.size w) (fun _ _ _ => False) (namesOwn xs _ w (by omega)) (fun _ _ _ _ _ h _ _ => h) (namesTurn xs _ w (by omega)) hI0
    (fun x => { tmps := #[.pointer (some ⟨p, 0, none⟩), undef, .slice none 0 0, .pointer (some ⟨w.heap.size, 0, none⟩), encStr x.name, .pointer (some ⟨p, 0, none⟩), .func (.func 41) #[] #[.pointer (some ⟨w.heap.size + 1, 0, none⟩)], encStr x.name, .pointer (some ⟨x.blk, 0, none⟩), undef, undef, undef, undef, undef], defers := [] }) ?assign ?body ?done ?stop
  case assign =>
    intro l x W C hC
    gi_wp2_with fail
    exact hC
  case body =>
    rintro l ⟨sq, i⟩ x W ⟨v, nl, h1, h2, h3, h4, h5, h6, h7, h8⟩ ⟨hsq, hx⟩
    simp only at hsq hx h4 h7 h8
    have hil : i < xs.length := (List.getElem?_eq_some_iff.1 hx).1
    have hlen : nl.length ≤ 1000000000000 := by rw [h4, List.length_take]; omega
    have hn2 : nl ++ [x.name] = (xs.map Ent.name).take (i + 1) := by rw [h4, List.take_add_one]; simp [hx]
    have hlt := World.block_lt_of_cell? _ _ h1
    obtain ⟨av, cv, rfl⟩ := RowN.shape h3
    have h3lt := RowN.lt h3
    have hH4 := hid h4
    have hHn := hid hn2
    clear h4 hn2
    gi_wp2_with (gi_at_builtin; refine wpAppN rfl _ _ rfl w1.heap.size _ nl rfl h3 x.name _ rfl rfl (by omega) h6 ?_)
    intro l' a' c' w3 hl' r3 k3 hnew
    have hwn : w.heap.size ∉ (Value.slice av nl.length cv).ownBlock.toList := fun hm => by have := (h3lt _ (by simpa [Option.mem_toList] using hm)).1; omega
    have cb : w3.cell? ⟨w.heap.size, 0, none⟩ = some (.slice av nl.length cv) := (k3.cell (p := ⟨w.heap.size, 0, none⟩) hlt hwn).trans h1
    have fb : w3.frozen? ⟨w.heap.size, 0, none⟩ = false := (k3.frozen (p := ⟨w.heap.size, 0, none⟩) hlt hwn).trans h2
    have kS : Kp [w.heap.size] w3 (w3.setCell ⟨w.heap.size, 0, none⟩ (.slice a' l'.length c')) := (Kp.refl _ _).setCell (p := ⟨w.heap.size, 0, none⟩) (by simp) _
    have kA : Kp (w.heap.size :: (Value.slice av nl.length cv).ownBlock.toList) W (w3.setCell ⟨w.heap.size, 0, none⟩ (.slice a' l'.length c')) := (k3.mono (T := w.heap.size :: (Value.slice av nl.length cv).ownBlock.toList) (fun k hk => .inl (by simp only [List.mem_cons]; exact .inr hk))).trans kS (fun k hk => .inl (by rw [List.mem_singleton] at hk; simp [hk]))
    have hmem : ∀ k, k ∈ w.heap.size :: (Value.slice av nl.length cv).ownBlock.toList → k = w.heap.size ∨ (Value.slice av nl.length cv).ownBlock = some k := fun k hk => by
      rcases List.mem_cons.1 hk with h | h
      · exact .inl h
      · exact .inr (by simpa [Option.mem_toList] using h)
    have hr4 : RowN w1.heap.size (w3.setCell ⟨w.heap.size, 0, none⟩ (.slice a' l'.length c')) (.slice a' l'.length c') l' := RowN.kept r3 (fun k hk => kS.block k (RowN.lt r3 k hk).2.1 (by have := (RowN.lt r3 k hk).1; simp; omega))
    have hfin : leftS w1.heap.size (KeepR [w.heap.size + 1, p, mb]) (NamesI xs w1.heap.size w) (fun _ _ _ => False) ⟨sq, i⟩ (Sr.nx ⟨sq, i⟩ x) W .normal { tmps := #[], defers := [] } (w3.setCell ⟨w.heap.size, 0, none⟩ (.slice a' l'.length c')) := by
      refine ⟨⟨kA.size, fun k o hk ho hc => (kA.block k (Array.getElem?_eq_some_iff.1 ho).1 (fun hm => ?_)).trans ho⟩, KeepR.ofKp kA (fun j hj hm => ?_) (fun q hq hm => ?_), .slice a' l'.length c', l', World.cell?_setCell_same _ _ _ cb, by rw [World.frozen?_setCell]; exact fb, hr4, by rw [hl'.out]; exact hHn.out, h5.trans kA (fun k hk => .inr ?_), Nat.le_trans h6 kA.size, by simp only [Sr.nx]; omega, fun q hq => ?_⟩
      · rcases hmem k hm with rfl | h
        · omega
        · obtain ⟨_, _, o', ho', hc'⟩ := h3lt k h
          rw [ho] at ho'; cases ho'; rw [hc] at hc'; cases hc'
      · rcases hmem j hm with rfl | h
        · simp at hj; omega
        · have := (h3lt j h).1; have := hJs j hj; omega
      · have := h8 q hq
        rcases hmem q hm with rfl | h
        · omega
        · exact this.2.2 h
      · rcases hmem k hk with rfl | h
        · exact Nat.le_refl _
        · have := (h3lt k h).1; omega
      · have h9 := h8 q hq
        refine ⟨h9.1, Nat.lt_of_lt_of_le h9.2.1 kA.size, fun e => ?_⟩
        rcases hnew q e with h | h
        · exact h9.2.2 h
        · omega
    clear hr4 kA kS hmem hnew k3 r3 hl' hHn hH4 h8
    gi_wp2_with fail
    exact hfin
  case done =>
    rintro D' ⟨sq, i⟩ W hD' ⟨hsq, hS⟩ ⟨v, nl, h1, h2, h3, h4, h5, h6, h7, h8⟩ hK
    simp only at hS h4
    have hnl : nl = xs.map Ent.name := by rw [h4, hS]; exact List.take_of_length_le (by simp)
    have hkD : Kp [D'] W (W.putObj D' (.deferred none)) := ⟨rfl, rfl, rfl, by simp, fun k hk hn => World.putObj_heap_other (by simpa using hn)⟩
    have kD := h5.trans hkD (fun x hx => .inr (by simp at hx; omega))
    have r3 : RowN w.heap.size (W.putObj D' (.deferred none)) v nl := RowN.low (RowN.kept h3 (fun k hk => hkD.block k (RowN.lt h3 k hk).2.1 (fun hm => by
      rw [List.mem_singleton] at hm
      subst hm
      obtain ⟨_, _, o', ho', hc'⟩ := RowN.lt h3 k hk
      rw [hK] at ho'; cases ho'; cases hc'))) (by omega)
    obtain ⟨av, cv, rfl⟩ := RowN.shape h3
    subst hnl
    have hlen : (xs.map Ent.name).length = xs.length := by simp
    rw [hlen] at r3 h1
    clear h4 h3 hS
    gi_wp2_with fail
    refine ⟨by simp, .inl ⟨_, _, rfl, run_takeDeferred hK, ?_⟩⟩
    exact ⟨_, results_tmp rfl _ _ _, av, cv, rfl, r3, kD⟩
  case stop =>
    rintro D' c s W _ _ h _
    exact h.elim
end Go.Proofs.Ytgllkonbgigcbab

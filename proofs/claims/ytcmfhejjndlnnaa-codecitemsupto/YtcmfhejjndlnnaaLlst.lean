/- A list read: codec.List. -/
import Derived.Test.YtcmfhejjndlnnaaLrun
namespace Go.Proofs.Ytcmfhejjndlnnaa
open Go.RowKit Go.Hay Go.Shelf
attribute [local go_sem] Oper.semAt_some
set_option linter.unusedVariables false
set_option linter.unusedSimpArgs false

/-- What List hands back. -/
def ListPost (p : Nat) (D : List Nat) (full : List UInt8) (most : Int) (w : World) (e : Ending) (w' : World) : Prop :=
  ∃ N bs1 e1 L bs2 e2 v, countS most full 0 = (N, bs1, e1) ∧ lstS N.toNat bs1 e1 = (L, bs2, e2) ∧ e = .returned v ∧ (e2 = 0 → RowL w.heap.size w' v L) ∧ (e2 ≠ 0 → v = .slice none 0 0) ∧ Rd w' p D bs2 e2 ∧ Kp [p] w w'
/-- How List's memory stands between two rounds. -/
def ListI (p : Nat) (D : List Nat) (full : List UInt8) (most : Int) (w : World) (s : St) (W : World) : Prop :=
  ∃ L v, Run most full s L ∧ W.cell? ⟨w.heap.size, 0, none⟩ = some v ∧ W.frozen? ⟨w.heap.size, 0, none⟩ = false ∧ RowL (w.heap.size + 4) W v L ∧ Rd W p D s.bs s.e ∧ Kp [p] w W ∧ w.heap.size + 4 ≤ W.heap.size ∧ (L = [] → v = .slice none 0 0) ∧
    ∀ x out, s.pend = some (x, out) → Row W x out ∧ ∀ k ∈ own x, w.heap.size + 4 ≤ k ∧ k ∉ own v

theorem listOwn (p : Nat) (D : List Nat) (full : List UInt8) (most : Int) (w : World) (B : Nat) (hB : w.heap.size ≤ B) : OwnFrom B (ListI p D full most w) := by
  intro s W W' row ⟨L, v, h1, h2, h3, h4, h5, h6, h7, h9, h8⟩ hg hr
  have hk := kpOfGrown hg
  have hn := nocOf hr
  refine ⟨L, v, h1, cellN hk hn h2, (frozenN hk hn (by rw [h2]; rfl)).trans h3, rowLN hk hn h4, rdN hk hn h5, h6.trans hk (fun x hx => .inr (by have := (hr x (by simpa [Option.mem_toList] using hx)).1; omega)), Nat.le_trans h7 hk.size, h9, fun x out hp => ⟨rowN hk hn (h8 x out hp).1, (h8 x out hp).2⟩⟩
theorem listTurn (p : Nat) (D : List Nat) (full : List UInt8) (most : Int) (w : World) (hp : p < w.heap.size) (s s' : St) (A B : World) (h : ListI p D full most w s A) (ht : Turn p D most s s' A B) : ListI p D full most w s' B := by
  obtain ⟨L, v, h1, h2, h3, h4, h5, h6, h7, h9, h8⟩ := h
  have hk := ht.1
  refine ⟨L, v, run_turn h1 ht, (hk.cell (p := ⟨w.heap.size, 0, none⟩) (World.block_lt_of_cell? _ _ h2) (by simp; omega)).trans h2, (hk.frozen (p := ⟨w.heap.size, 0, none⟩) (World.block_lt_of_cell? _ _ h2) (by simp; omega)).trans h3, h4.kept hk (by simp; omega), ht.2.1, h6.trans hk (fun x hx => .inl hx), Nat.le_trans h7 hk.size, h9, ?_⟩
  intro x out hpe
  obtain ⟨_, _, ⟨_, n, _, _, hs'⟩ | ⟨_, _, _, _, v', out', _, hs', hrow, hown⟩⟩ := ht
  · rw [hs'] at hpe; cases hpe
  · rw [hs'] at hpe
    cases hpe
    refine ⟨hrow, fun k hk' => ⟨by have := hown k hk'; omega, fun hm => ?_⟩⟩
    have := h4.lt k hm
    have := hown k hk'
    omega

theorem rowLshape {n0 : Nat} {w : World} {v : Value} {L : List (List UInt8)} (h : RowL n0 w v L) : ∃ a c, v = .slice a L.length c := by
  obtain ⟨vs, hvl, hs, _⟩ := h
  rcases hs with ⟨rfl, rfl⟩ | ⟨g, o, cap, rfl, _⟩
  · simp at hvl; exact ⟨none, 0, by rw [← hvl]⟩
  · exact ⟨_, _, by rw [hvl]⟩
theorem cellsOf {W : World} {a : Addr} (h : (W.cell? a).isSome = true) : ∃ o : Obj, W.heap[a.block]? = some o ∧ o.isCells = true := by
  unfold World.cell? at h
  cases ho : W.heap[a.block]? with
  | none => rw [ho] at h; simp at h
  | some o => exact ⟨o, rfl, by rw [ho] at h; cases o <;> simp_all [Obj.isCells]⟩
theorem rowLcel {n0 : Nat} {W : World} {v : Value} {L : List (List UInt8)} (h : RowL n0 W v L) (h0 : L = [] → v = .slice none 0 0) : ∀ k ∈ own v, ∃ o : Obj, W.heap[k]? = some o ∧ o.isCells = true := by
  intro k hk
  obtain ⟨vs, hvl, hs, _⟩ := h
  rcases hs with ⟨rfl, _⟩ | ⟨g, o, cap, rfl, hl, _, _, _, ht⟩
  · simp [own, Value.ownBlock] at hk
  · cases L with
    | nil => have := h0 rfl; cases this
    | cons x L =>
      have hkg : k = g := by simpa [own, Value.ownBlock, eq_comm] using hk
      rw [hkg]
      exact cellsOf (a := ⟨g, o + 0, none⟩) (ht 0 (by simp at hvl; omega)).1
theorem keepsCel {S : List Nat} {W W' : World} (hk : Kp S W W') (hS : ∀ k ∈ S, ∃ o : Obj, W.heap[k]? = some o ∧ o.isCells = true) (B : Nat) : KeepsFrom B W W' :=
  ⟨hk.size, fun k o _ ho hc => (hk.block k (Array.getElem?_eq_some_iff.1 ho).1 (fun hm => by obtain ⟨o', ho', hc'⟩ := hS k hm; rw [ho] at ho'; cases ho'; rw [hc] at hc'; cases hc')).trans ho⟩
theorem keepsTurn {p : Nat} {D : List Nat} {most : Int} {s s' : St} {A B : World} (h : Turn p D most s s' A B) (n : Nat) (hp : p < n) : KeepsFrom n A B :=
  ⟨h.1.size, fun k o hk ho _ => (h.1.block k (Array.getElem?_eq_some_iff.1 ho).1 (by simp; omega)).trans ho⟩

set_option maxHeartbeats 8000000 in
set_option maxRecDepth 100000 in
theorem cList (p : Nat) (D : List Nat) (full : List UInt8) (most : Int) (w : World) (hr : Rd w p D full 0) (hm0 : -9223372036854775808 ≤ most) (hm1 : most ≤ 9223372036854775807) (hb : full.length ≤ 4000000000000) :
    Calls Try.prog 7 #[.pointer (some ⟨p, 0, none⟩), .int .i64 most, .func (.func 8) #[] #[]] w (ListPost p D full most w) := by
  have hplt := hr.lt
  refine (callsIn_wide (n := 4)).1 ?_
  refine callsIn_of_wp_marks Try.func7 rfl trivial ?_ rfl
  simp only [Try.ntmps7, List.size_toArray, List.length_cons, List.length_nil, Nat.reduceAdd, Nat.reduceSub, Array.replicate_succ, Array.replicate_zero, List.push_toArray, List.append_toArray, List.nil_append, List.cons_append]
  gi_wp2_with fail
  refine ⟨trivial, (callsIn_wide.2 (cItems p most _)).mono ?_⟩
  rintro e w1 ⟨rfl, k1, hsz, d1, d2, d3⟩
  rw [World.size_alloc] at hsz d1 d2 d3
  have kw1 : Kp [p] w w1 := ((Kp.refl [p] w).alloc _).trans k1 (by simp)
  have hr1 : Rd w1 p D full 0 := (hr.kept (S := []) ((Kp.refl _ _).alloc _) (by simp) (by simp)).kept k1 (by simp) (by simp)
  have bx : w1.cell? ⟨w.heap.size, 0, none⟩ = some (.slice none 0 0) := (k1.cell (p := ⟨w.heap.size, 0, none⟩) (by simp) (by simp)).trans (newCell _ _ _ rfl)
  have bf : w1.frozen? ⟨w.heap.size, 0, none⟩ = false := (k1.frozen (p := ⟨w.heap.size, 0, none⟩) (by simp) (by simp)).trans (World.frozen?_alloc_new w _ _ 0)
  have hdl := hr.dlt
  have hJs : ∀ j ∈ p :: (w.heap.size + 1) :: (w.heap.size + 1 + 1) :: (w.heap.size + 1 + 2) :: D, j < w1.heap.size := by
    intro j hj
    rcases List.mem_cons.1 hj with rfl | hj
    · omega
    rcases List.mem_cons.1 hj with rfl | hj
    · omega
    rcases List.mem_cons.1 hj with rfl | hj
    · omega
    rcases List.mem_cons.1 hj with rfl | hj
    · omega
    · have := hdl j hj; omega
  have hNot : ∀ j ∈ p :: (w.heap.size + 1) :: (w.heap.size + 1 + 1) :: (w.heap.size + 1 + 2) :: D, j ≠ w.heap.size ∧ j < w.heap.size + 4 := by
    intro j hj
    rcases List.mem_cons.1 hj with rfl | hj
    · omega
    rcases List.mem_cons.1 hj with rfl | hj
    · omega
    rcases List.mem_cons.1 hj with rfl | hj
    · omega
    rcases List.mem_cons.1 hj with rfl | hj
    · omega
    · have := hdl j hj; omega
  have hI0 : ListI p D full most w ⟨0, 0, full, 0, false, none⟩ w1 := ⟨[], .slice none 0 0, .inl ⟨rfl, rfl⟩, bx, bf, RowL.nil _ _, hr1, kw1, by omega, fun _ => rfl, fun x out h => by cases h⟩
  have hseq := itemsSeq (4 - 1) (by omega) p (w.heap.size + 1) (w.heap.size + 1 + 1) (w.heap.size + 1 + 2) D most hm0 hm1 full 0 w1 d1 d2 d3 hr1 ⟨by omega, by omega, by omega⟩ (fun N bs1 e1 h => by have := countS_le h; omega)
  clear d1 d2 d3 bx bf hr1 k1
  gi_wp2_with fail
  refine wpRangeT rfl (by omega) (gf := 26) (lb := #[.pointer (some ⟨w.heap.size + 1, 0, none⟩), .pointer (some ⟨w.heap.size + 1 + 1, 0, none⟩), .pointer (some ⟨w.heap.size + 1 + 2, 0, none⟩)]) rfl trivial (enters_of Try.func26 (by kernel_rfl) rfl)
    hseq (fun _ => rfl) Away.trans (Away.alloc _) (fun W l o o' hl _ _ => Away.putObj hJs W l o' hl) ⟨[], Kp.refl _ _, by simp⟩ (fun s s' A B ht => keepsTurn ht _ (by omega))
    (ListI p D full most w) (fun _ _ _ => False) (listOwn p D full most w _ (by omega)) (fun _ _ _ _ _ h _ _ => h) (listTurn p D full most w hplt) hI0
    (fun x => { tmps := #[.pointer (some ⟨p, 0, none⟩), .int .i64 most, .func (.func 8) #[] #[], undef, undef, undef, .slice none 0 0, .pointer (some ⟨w.heap.size, 0, none⟩), undef, x.2.1, .pointer (some ⟨p, 0, none⟩), .int .i64 most, .func (.func 8) #[] #[], .func (.func 26) #[] #[.pointer (some ⟨w.heap.size + 1, 0, none⟩), .pointer (some ⟨w.heap.size + 1 + 1, 0, none⟩), .pointer (some ⟨w.heap.size + 1 + 2, 0, none⟩)], .int .i64 x.1, x.2.1, undef, undef, undef, undef, undef, undef, undef, undef, undef, undef], defers := [] }) ?assign ?body ?done ?stop
  case assign =>
    intro l x W C hC
    gi_wp2_with fail
    exact hC
  case body =>
    rintro l s ⟨i, xv, out⟩ W ⟨L, v, h1, h2, h3, h4, h5, h6, h7, h9, h8⟩ ⟨he, hpe, hxk⟩
    dsimp only at hpe hxk
    obtain ⟨hrx, hox⟩ := h8 _ _ hpe
    obtain ⟨hrun, hlen⟩ := run_next (x := (i, xv, out)) h1 he hpe
    have hcel := rowLcel h4 h9
    obtain ⟨ax, cx, rfl, _⟩ := hrx.shape
    obtain ⟨av, cv, rfl⟩ := rowLshape h4
    have hfrom := h4.from
    have hlt := World.block_lt_of_cell? _ _ h2
    gi_wp2_with (gi_at_builtin; refine wpAppendLIn rfl _ _ rfl _ L rfl h4 _ out hrx hox h7 rfl rfl (by omega) ?_)
    intro v2 w2 r2 k2 hnew
    obtain ⟨a2, c2, rfl⟩ := rowLshape r2
    have hbo : w.heap.size ∉ own (.slice av L.length cv) := fun hm => by have := hfrom _ hm; omega
    have b2 : w2.cell? ⟨w.heap.size, 0, none⟩ = some (.slice av L.length cv) := (k2.cell (p := ⟨w.heap.size, 0, none⟩) hlt hbo).trans h2
    have f2 : w2.frozen? ⟨w.heap.size, 0, none⟩ = false := (k2.frozen (p := ⟨w.heap.size, 0, none⟩) hlt hbo).trans h3
    have hpo : p ∉ own (.slice av L.length cv) := fun hm => by have := hfrom _ hm; omega
    have r2d := h5.kept k2 hpo (fun k hk hm => by have := hfrom _ hm; have := hdl k hk; omega)
    have hf2 := r2.from
    generalize hL2 : L ++ [out] = L2 at *
    have HL2 := hid hL2
    clear hL2
    have kS : Kp [w.heap.size] w2 (w2.setCell ⟨w.heap.size, 0, none⟩ (.slice a2 L2.length c2)) := (Kp.refl _ _).setCell (by simp) _
    have kAll : Kp (w.heap.size :: own (.slice av L.length cv)) W (w2.setCell ⟨w.heap.size, 0, none⟩ (.slice a2 L2.length c2)) := (k2.mono (T := w.heap.size :: own (.slice av L.length cv)) (fun x hx => .inl (by simp [hx]))).trans kS (fun x hx => .inl (by simp at hx; simp [hx]))
    have hbx : ∃ o : Obj, W.heap[w.heap.size]? = some o ∧ o.isCells = true := cellsOf (a := ⟨w.heap.size, 0, none⟩) (by rw [h2]; rfl)
    have r3 := r2.kept kS (by simp)
    have kk : Kp [p] w (w2.setCell ⟨w.heap.size, 0, none⟩ (.slice a2 L2.length c2)) := h6.trans kAll (fun x hx => .inr (by rcases List.mem_cons.1 hx with rfl | hx; omega; have := hfrom x hx; omega))
    have hcel' := hcel
    gi_wp2_with fail
    refine ⟨keepsCel kAll (fun k hk => by rcases List.mem_cons.1 hk with rfl | hk; exact hbx; exact hcel' k hk) _, ⟨_, kAll, fun j hj hm => ?_⟩, L2, _, hrun, World.cell?_setCell_same _ _ _ b2, by rw [World.frozen?_setCell]; exact f2, r3, r2d.kept kS (by simp; omega) (fun k hk => by have := hdl k hk; simp; omega), kk, Nat.le_trans h7 kAll.size, fun h => by rw [← HL2.out] at h; simp at h, fun x o h => by cases h⟩
    have hj2 := hNot j hj
    rcases List.mem_cons.1 hm with h | h
    · exact hj2.1 h
    · have := hfrom j h; omega
  case done =>
    rintro D' s W hD ⟨hgo, hS⟩ ⟨L, v, h1, h2, h3, h4, h5, h6, h7, h9, h8⟩ hK
    obtain ⟨N, bs1, e1, hc, hl⟩ := run_done h1 hgo hS
    have her := h5.err
    have hpl := h5.lt
    obtain ⟨av, cv, rfl⟩ := rowLshape h4
    have hkD : Kp [D'] W (W.putObj D' (.deferred none)) := ⟨rfl, rfl, rfl, by simp, fun k hk hn => World.putObj_heap_other (by simpa using hn)⟩
    have hnD : NoC [D'] W := fun r hr' => by obtain rfl : r = D' := by simpa using hr'
                                             exact ⟨_, hK, rfl⟩
    have rD := rdN hkD hnD h5
    have lD := (rowLN hkD hnD h4).low (m := w.heap.size) (by omega)
    have kD := h6.trans hkD (fun x hx => .inr (by simp at hx; omega))
    have HC := hid hc
    have HL := hid hl
    clear hc hl h1 h8 h9 hS
    by_cases he : s.e = 0
    · have HE := hid he
      rw [he] at her
      clear he
      gi_wp2_with fail
      refine ⟨by simp, .inl ⟨_, _, rfl, run_takeDeferred hK, ?_⟩⟩
      exact ⟨_, results_tmp rfl _ _ _, N, bs1, e1, L, s.bs, s.e, .slice av L.length cv, HC.out, HL.out, rfl, fun _ => lD, fun h => absurd HE.out h, rD, kD⟩
    · have he' : (s.e == 0) = false := by simpa using he
      have he2 : (s.e != 0) = true := by simpa using he
      have HE := hid he
      clear he
      gi_wp2_with fail
      refine ⟨by simp, .inl ⟨_, _, rfl, run_takeDeferred hK, ?_⟩⟩
      exact ⟨_, results_tmp rfl _ _ _, N, bs1, e1, L, s.bs, s.e, .slice none 0 0, HC.out, HL.out, rfl, fun h => absurd h HE.out, fun _ => rfl, rD, kD⟩
  case stop =>
    rintro D' c s W _ _ h _
    exact h.elim
end Go.Proofs.Ytcmfhejjndlnnaa

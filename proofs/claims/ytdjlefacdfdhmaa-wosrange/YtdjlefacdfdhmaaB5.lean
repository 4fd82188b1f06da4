/- Rows in memory: Purge. A range over an iterator that makes memory of its own, which the rounds leave alone: a law. No statement of the seat is proved here. A range over an iterator that ranges over another one: its own steps turn records of its own, and the rounds leave these alone: a law. No statement of the seat is proved here. A range whose rounds begin by making a box for what is given: a law. No statement of the seat is proved here. A region that draws its order, inside a round of a range over a function: as a plain one, where nothing is deferred. No statement of the seat is proved here. Versions given to a range: the inner iterator. -/
import Derived.Test.YtdjlefacdfdhmaaB4
import Derived.RangeFuncNested
import Derived.RangeFuncBound
import Derived.RangeFuncCalls
import Derived.RangeFuncLeaves
import Derived.RangeFuncSeq
import Derived.OrdersHeld
import Derived.OrdersIn
import Derived.OwnWalkIn
import Derived.Deep.RegionHeld3
import Derived.Shelf.RegionOpen
import Derived.LoopIn
import Derived.LoopNIn
import Derived.TacticsInMore
import Derived.RegionIn
section
namespace Go.Proofs.Ytdjlefacdfdhmaa
open Go.RowKit Go.Hay
set_option linter.unusedVariables false
set_option linter.unusedSimpArgs false

theorem cGone1 (q : Nat) (m : Int) (x : Vn) (w : World) (hq : w.cell? ⟨q, 0, none⟩ = some (.int .u64 m)) : Calls Try.prog 32 #[.agg #[.int .u64 x.ep, .int .u32 x.num, .slice x.a x.row.length x.c, .int .u64 x.del], .pointer (some ⟨q, 0, none⟩)] w fun r w' => r = .returned (.bool (!stays m x)) ∧ Kp [] w w' := by
  have hlt : q < w.heap.size := World.block_lt_of_cell? _ _ hq
  obtain ⟨ep, num, a, c, row, del⟩ := x
  unfold stays
  dsimp only
  by_cases h1 : del = 0
  · have d1 : (del != 0) = false := by simpa using h1
    have d2 : decide (del = 0) = true := by simpa using h1
    rw [d2]
    clear h1
    go_enter Try.func32, Try.ntmps32
    go_wp2_with fail
    go_returns
    exact ⟨rfl, (Kp.refl _ _).alloc _⟩
  · have d1 : (del != 0) = true := by simpa using h1
    have d2 : decide (del = 0) = false := by simpa using h1
    have d3 : (!(false || decide (m < del))) = decide (del ≤ m) := by
      by_cases h : m < del
      · have : ¬ del ≤ m := by omega
        simp [h, this]
      · have : del ≤ m := by omega
        simp [h, this]
    rw [d2, d3]
    clear h1
    go_enter Try.func32, Try.ntmps32
    go_wp2_with fail
    go_returns
    exact ⟨rfl, (Kp.refl _ _).alloc _⟩
/-- What IndexFunc tells: the first that goes. -/
def IdxP (m : Int) (l : List Vn) (r : Int) : Prop := (r = -1 ∧ ∀ x ∈ l, stays m x = true) ∨ ∃ i : Nat, ∃ x, r = i ∧ l[i]? = some x ∧ stays m x = false ∧ ∀ y ∈ l.take i, stays m y = true
set_option maxHeartbeats 8000000 in
set_option maxRecDepth 100000 in
theorem cIndexF (a : Option Addr) (c q : Nat) (m : Int) (l : List Vn) (w : World) (hs : VnE.See w a l) (hq : w.cell? ⟨q, 0, none⟩ = some (.int .u64 m)) (hf : l.length ≤ 4000000000000) :
    Calls Try.prog 46 #[.slice a l.length c, .func (.func 32) #[] #[.pointer (some ⟨q, 0, none⟩)]] w fun e w' => ∃ r, e = .returned (.int .i64 r) ∧ IdxP m l r ∧ Kp [] w w' := by
  have hs' := hid hs
  have hq' := hid hq
  clear hs hq
  go_enter Try.func46, Try.ntmps46
  go_wp2_with fail
  go_loopw [8] (fun i wr => ∃ j : Nat, j ≤ l.length ∧ i = .int .i64 j ∧ Hid (∀ y ∈ l.take j, stays m y = true) ∧ Kp [] w wr) (fun i _ => l.length - (intOf i).toNat)
  case atStart => exact ⟨0, Nat.zero_le _, rfl, by intro y hy; simp at hy, Kp.refl _ _⟩
  case round =>
    obtain ⟨j, hj, rfl, hst, kr⟩ := hrel
    by_cases hjl : j < l.length
    · have hx : l[j]? = some l[j] := by simp [hjl]
      obtain ⟨g, o, rfl, c0, c1, c2, c3⟩ := idAt (hs'.out.keptNew kr) hx
      have cG := cGone1 q m l[j] wr (kpAt kr hq'.out)
      have htk : Hid (l.take (j + 1) = l.take j ++ [l[j]]) := by show _ = _; rw [List.take_succ_eq_append_getElem hjl]
      have hx' := hid hx
      clear hx
      generalize l[j] = x at *
      have i1 : (0 : Int) ≤ (j : Int) := by omega
      have i2 : (j : Int) < (l.length : Int) := by omega
      obtain ⟨B, hB⟩ : ∃ B, Hid (stays m x = B) := ⟨_, rfl⟩
      rw [hB.out] at cG
      obtain ⟨ep, num, xa, xc, row, del⟩ := x
      dsimp only at c0 c1 c2 c3 cG
      go_wp2_with fail
      refine cG.mono ?_
      rintro e w2 ⟨rfl, k2⟩
      have kw2 := kr.trans k2 (by simp)
      clear cG k2 c0 c1 c2 c3
      cases B with
      | true =>
        go_wp2_with fail
        refine ⟨⟨j + 1, by omega, by go_num, fun y hy => ?_, kw2⟩, by simp [intOf]; omega⟩
        rw [htk.out] at hy
        rcases List.mem_append.1 hy with h | h
        · exact hst.out y h
        · rw [List.mem_singleton] at h; subst h; exact hB.out
      | false =>
        go_wp2_with fail
        go_ret
        exact ⟨_, rfl, .inr ⟨j, _, rfl, hx'.out, hB.out, hst.out⟩, kw2⟩
    · have e : j = l.length := by omega
      subst e
      go_wp2_with fail
      go_ret
      exact ⟨_, rfl, .inl ⟨rfl, fun x hx => hst.out x (by rw [List.take_length]; exact hx)⟩, kr⟩
/-- The rest of a row of versions, made nought. -/
theorem run_clearN (W : World) (g o n c : Nat) (hn : 0 < n) (hc : ∀ j, j < n * 4 → (W.cell? ⟨g, o + j, none⟩).isSome = true ∧ W.frozen? ⟨g, o + j, none⟩ = false) :
    ∀ ty, (Builtin.clear_ #[26] ty #[.slice (some ⟨g, o, none⟩) n c]).run Try.prog W = .ok (.tuple #[]) (W.setCells g o (VnE.cs (List.replicate n default))) := by
  have hv : ∀ w : World, (zeroValue 45).run Try.prog w = .ok (.agg #[.int .u64 0, .int .u32 0, .slice none 0 0, .int .u64 0]) w := Try.zeroValue45
  have hzc := zeroCells_cs VnE default (Value.agg #[.int .u64 0, .int .u32 0, .slice none 0 0, .int .u64 0]).cells rfl n
  have hlen : (VnE.cs (List.replicate n default)).length = n * 4 := by rw [El.cs_length, List.length_replicate]; rfl
  have hst := run_storeCells_cells (P := Try.prog) g o (VnE.cs (List.replicate n default)) 0 W (by rw [hlen]; simpa using fun j hj => (hc j hj).1) (by rw [hlen]; simpa using fun j hj => (hc j hj).2) (El.cs_one VnE _)
  simp only [Nat.add_zero] at hst
  intro ty
  obtain ⟨m, rfl⟩ : ∃ m, n = m + 1 := ⟨n - 1, by omega⟩
  simp [Builtin.clear_, run_underlying Try.underlying26, hv, hzc, hst]
/-- The first ones of a row, with all its room. -/
theorem rowFront {α : Type} {E : El α} {w : World} {g o c : Nat} {l : List α} (h : E.Row w (.slice (some ⟨g, o, none⟩) l.length c) l) (k : Nat) (hk : k ≤ l.length) : E.Row w (.slice (some ⟨g, o, none⟩) k c) (l.take k) := by
  have hlen : (l.take k).length = k := by simp; omega
  rcases h with ⟨e, _⟩ | ⟨g', o', cap, e, hl, hm, hg, hc, ht⟩
  · cases e
  · simp only [Value.slice.injEq, Option.some.injEq, Addr.mk.injEq] at e
    obtain ⟨⟨rfl, rfl, _⟩, _, rfl⟩ := e
    refine .inr ⟨g, o, c, by rw [hlen], by rw [hlen]; omega, hm, hg, fun j u hu => ?_, ht⟩
    rw [El.cs_take, List.getElem?_take] at hu
    split at hu
    · exact hc j u hu
    · cases hu
theorem rowCells {α : Type} {E : El α} {w : World} {g o c : Nat} {l : List α} (h : E.Row w (.slice (some ⟨g, o, none⟩) l.length c) l) : l.length ≤ c ∧ c ≤ maxLen ∧ g < w.heap.size ∧ ∀ j, j < c * E.n → (w.cell? ⟨g, o + j, none⟩).isSome = true ∧ w.frozen? ⟨g, o + j, none⟩ = false := by
  rcases h with ⟨e, _⟩ | ⟨g', o', cap, e, hl, hm, hg, hc, ht⟩
  · cases e
  · simp only [Value.slice.injEq, Option.some.injEq, Addr.mk.injEq] at e
    obtain ⟨⟨rfl, rfl, _⟩, _, rfl⟩ := e
    exact ⟨hl, hm, hg, ht⟩
theorem purV_all {m : Int} {l : List Vn} (h : ∀ x ∈ l, stays m x = true) : purV m l = l := List.filter_eq_self.2 h
theorem purV_snoc (m : Int) (l : List Vn) (x : Vn) : purV m (l ++ [x]) = if stays m x = true then purV m l ++ [x] else purV m l := by
  unfold purV
  rw [List.filter_append]
  by_cases h : stays m x = true <;> simp [h]
def DelP (g o c : Nat) (m : Int) (l : List Vn) (w : World) (e : Ending) (w' : World) : Prop := e = .returned (.slice (some ⟨g, o, none⟩) (purV m l).length c) ∧ VnE.Row w' (.slice (some ⟨g, o, none⟩) (purV m l).length c) (purV m l) ∧ Kp [g] w w'
set_option maxHeartbeats 16000000 in
set_option maxRecDepth 100000 in
theorem cDelF (g o c q : Nat) (m : Int) (l : List Vn) (w : World) (hr : VnE.Row w (.slice (some ⟨g, o, none⟩) l.length c) l) (hq : w.cell? ⟨q, 0, none⟩ = some (.int .u64 m)) (hqg : q ≠ g) (hf : l.length ≤ 4000000000000) :
    Calls Try.prog 31 #[.slice (some ⟨g, o, none⟩) l.length c, .func (.func 32) #[] #[.pointer (some ⟨q, 0, none⟩)]] w (DelP g o c m l w) := by
  obtain ⟨hlc, hcm, _, _⟩ := rowCells hr
  obtain ⟨_, _, ev, hsee, _⟩ := hr.see
  cases ev
  have cI := cIndexF (some ⟨g, o, none⟩) c q m l w hsee hq hf
  have hr' := hid hr
  have hq' := hid hq
  unfold maxLen at hcm
  clear hr hsee hq
  go_enter Try.func31, Try.ntmps31
  go_wp2_with fail
  refine cI.mono ?_
  rintro e w2 ⟨r, rfl, hI, k2⟩
  clear cI
  rcases hI with ⟨rfl, hall⟩ | ⟨i, x0, rfl, hx0, hx1, hst⟩
  · have hH : Hid (DelP g o c m l w (.returned (.slice (some ⟨g, o, none⟩) l.length c)) w2) := by
      show DelP _ _ _ _ _ _ _ _
      unfold DelP
      rw [purV_all hall]
      exact ⟨rfl, hr'.out.keptNew k2, k2.mono (by simp)⟩
    clear hall
    go_wp2_with fail
    go_ret
    exact hH.out
  · have hil : i < l.length := (List.getElem?_eq_some_iff.1 hx0).1
    have t1 : ((i : Int) == -1) = false := beq_eq_false_iff_ne.2 (by omega)
    have hP0 : Hid (purV m (l.take (i + 1)) = l.take i) := by
      show _ = _
      have e1 : l.take (i + 1) = l.take i ++ [x0] := by
        rw [List.take_succ_eq_append_getElem hil]
        obtain ⟨_, rfl⟩ := List.getElem?_eq_some_iff.1 hx0
        rfl
      rw [e1, purV_snoc, if_neg (by rw [hx1]; simp), purV_all hst]
    have hlti : Hid ((l.take i).length = i) := by show _ = _; rw [List.length_take]; omega
    have hr2 := hid (hr'.out.keptNew k2)
    have hq2 := hid (kpAt k2 hq'.out)
    clear hx0 hx1 hst hr' hq'
    go_wp2_with fail
    go_loopw [5, 6, 7] (fun s5 s6 s7 wn => ∃ (kk j : Nat), s5 = .int .i64 kk ∧ s6 = .int .i64 j ∧ j ≤ l.length ∧ kk < j ∧ Hid ((purV m (l.take j)).length = kk) ∧ VnE.Row wn (.slice (some ⟨g, o, none⟩) l.length c) (purV m (l.take j) ++ l.drop kk) ∧ Kp [g] w2 wn) (fun _ s6 _ _ => l.length - (intOf s6).toNat)
    case atStart => exact ⟨i, i + 1, rfl, by go_num, by omega, by omega, by show _ = _; rw [hP0.out, hlti.out], by rw [hP0.out, List.take_append_drop]; exact hr2.out, Kp.refl _ _⟩
    case round =>
      clear hr2 hP0 hlti
      obtain ⟨kk, j, rfl, rfl, hj, hkk, hpl, hrow, kn⟩ := hrel
      have hLl : (purV m (l.take j) ++ l.drop kk).length = l.length := by rw [List.length_append, hpl.out]; simp; omega
      have hLl' := hid hLl
      have hrow2 : VnE.Row wr (.slice (some ⟨g, o, none⟩) (purV m (l.take j) ++ l.drop kk).length c) (purV m (l.take j) ++ l.drop kk) := by rw [hLl]; exact hrow
      clear hLl
      by_cases hjl : j < l.length
      · have hx : l[j]? = some l[j] := by simp [hjl]
        have hxx : (purV m (l.take j) ++ l.drop kk)[j]? = some l[j] := by
          rw [List.getElem?_append_right (by rw [hpl.out]; omega), hpl.out, List.getElem?_drop, show kk + (j - kk) = j by omega]
          exact hx
        obtain ⟨_, _, ev, hsee, _⟩ := hrow2.see
        simp only [Value.slice.injEq] at ev
        obtain ⟨rfl, _, rfl⟩ := ev
        obtain ⟨g', o', ea, c0, c1, c2, c3⟩ := idAt hsee hxx
        simp only [Option.some.injEq, Addr.mk.injEq] at ea
        obtain ⟨rfl, rfl, _⟩ := ea
        have htk : Hid (l.take (j + 1) = l.take j ++ [l[j]]) := by show _ = _; rw [List.take_succ_eq_append_getElem hjl]
        generalize l[j] = x at *
        obtain ⟨wb, hwb⟩ : ∃ wb, wr.alloc (.cells #[.int .u64 x.ep, .int .u32 x.num, .slice x.a x.row.length x.c, .int .u64 x.del] 45) = wb := ⟨_, rfl⟩
        have kb : Kp [] wr wb := by rw [← hwb]; exact (Kp.refl _ _).alloc _
        have bb : Bx wb wr.heap.size (VnE.c x) := by rw [← hwb]; exact Bx.new wr (VnE.c x) _
        have hzb : wr.heap.size < wb.heap.size := by rw [← hwb]; simp
        have hqr : wr.cell? ⟨q, 0, none⟩ = some (.int .u64 m) := (kn.cell (p := ⟨q, 0, none⟩) (World.block_lt_of_cell? _ _ hq2.out) (by simpa using hqg)).trans hq2.out
        have cG := cGone1 q m x wb (kpAt kb hqr)
        obtain ⟨B, hB⟩ : ∃ B, Hid (stays m x = B) := ⟨_, rfl⟩
        rw [hB.out] at cG
        have i1 : (0 : Int) ≤ (j : Int) := by omega
        have i2 : (j : Int) < (l.length : Int) := by omega
        have i3 : (0 : Int) ≤ (kk : Int) := by omega
        have i4 : (kk : Int) < (l.length : Int) := by omega
        have b0 := bb.get 0 _ rfl; have b1 := bb.get 1 _ rfl; have b2 := bb.get 2 _ rfl; have b3 := bb.get 3 _ rfl
        have hrow' := hid hrow2
        obtain ⟨ep, num, xa, xc, row, del⟩ := x
        dsimp only at c0 c1 c2 c3 cG b0 b1 b2 b3 hwb
        clear hx hxx hsee hrow hrow2
        go_wp2_with fail
        refine cG.mono ?_
        rintro e w4 ⟨rfl, k4⟩
        have kbr := kb.trans k4 (by simp)
        have kw4 := kn.trans kbr (by simp)
        clear cG
        cases B with
        | true =>
          have b4 := bb.kept k4 hzb
          have d0 := b4.get 0 _ rfl; have d1 := b4.get 1 _ rfl; have d2 := b4.get 2 _ rfl; have d3 := b4.get 3 _ rfl
          have hr4 := hrow'.out.keptNew kbr
          obtain ⟨hput, kput, hs, hfz⟩ := hr4.put kk (by rw [hLl'.out]; omega) [⟨ep, num, xa, xc, row, del⟩] (by simp; omega)
          have hl2 : (purV m (l.take j) ++ l.drop kk).take kk ++ [⟨ep, num, xa, xc, row, del⟩] ++ (purV m (l.take j) ++ l.drop kk).drop (kk + [(⟨ep, num, xa, xc, row, del⟩ : Vn)].length) = purV m (l.take (j + 1)) ++ l.drop (kk + 1) := by
            have e1 : (purV m (l.take j) ++ l.drop kk).take kk = purV m (l.take j) := by
              have := List.take_left (l₁ := purV m (l.take j)) (l₂ := l.drop kk)
              rwa [hpl.out] at this
            have e2 : (purV m (l.take j) ++ l.drop kk).drop (kk + 1) = l.drop (kk + 1) := by
              rw [List.drop_append, List.drop_of_length_le (by rw [hpl.out]; omega), List.nil_append, hpl.out, List.drop_drop]
              congr 1
              omega
            rw [e1, show kk + [(⟨ep, num, xa, xc, row, del⟩ : Vn)].length = kk + 1 from rfl, e2, htk.out, purV_snoc, if_pos hB.out]
          have hlen2 : (purV m (l.take (j + 1)) ++ l.drop (kk + 1)).length = l.length := by
            rw [htk.out, purV_snoc, if_pos hB.out, List.length_append, List.length_append, hpl.out]; simp; omega
          rw [hl2, hlen2] at hput
          have f0 := hfz 0 (by simp [El.cs, VnE]); have f1 := hfz 1 (by simp [El.cs, VnE]); have f2 := hfz 2 (by simp [El.cs, VnE]); have f3 := hfz 3 (by simp [El.cs, VnE])
          obtain ⟨u0, v0⟩ := Option.isSome_iff_exists.1 (hs 0 (by simp [El.cs, VnE]))
          obtain ⟨u1, v1⟩ := Option.isSome_iff_exists.1 (hs 1 (by simp [El.cs, VnE]))
          obtain ⟨u2, v2⟩ := Option.isSome_iff_exists.1 (hs 2 (by simp [El.cs, VnE]))
          obtain ⟨u3, v3⟩ := Option.isSome_iff_exists.1 (hs 3 (by simp [El.cs, VnE]))
          have e4 : VnE.n = 4 := rfl
          rw [e4] at f0 f1 f2 f3 v0 v1 v2 v3
          rw [Nat.add_zero] at f0 v0
          obtain ⟨w5, hw5⟩ : ∃ w5, (((w4.setCell ⟨g, o + kk * 4, none⟩ (.int .u64 ep)).setCell ⟨g, o + kk * 4 + 1, none⟩ (.int .u32 num)).setCell ⟨g, o + kk * 4 + 2, none⟩ (.slice xa row.length xc)).setCell ⟨g, o + kk * 4 + 3, none⟩ (.int .u64 del) = w5 := ⟨_, rfl⟩
          have hput5 : VnE.Row w5 (.slice (some ⟨g, o, none⟩) l.length c) (purV m (l.take (j + 1)) ++ l.drop (kk + 1)) := by rw [← hw5]; exact hput
          have k5 : Kp [g] w2 w5 := by rw [← hw5]; exact kw4.trans kput (fun _ h => .inl h)
          have hpl2 : Hid ((purV m (l.take (j + 1))).length = kk + 1) := by show _ = _; rw [htk.out, purV_snoc, if_pos hB.out, List.length_append, hpl.out]; rfl
          have H := hid (And.intro hput5 k5)
          clear hr4 hput kput hs hfz hl2 hlen2 hput5 k5 b4 bb hrow' k4 kb kbr kw4 c0 c1 c2 c3 b0 b1 b2 b3 hwb
          go_wp2_with fail
          exact ⟨⟨kk + 1, j + 1, by go_num, by go_num, by omega, by omega, hpl2, H.out.1, H.out.2⟩, by simp [intOf]; omega⟩
        | false =>
          have hpl2 : Hid (purV m (l.take (j + 1)) = purV m (l.take j)) := by show _ = _; rw [htk.out, purV_snoc, if_neg (by rw [hB.out]; simp)]
          have hr4 : VnE.Row w4 (.slice (some ⟨g, o, none⟩) l.length c) (purV m (l.take j) ++ l.drop kk) := by have := hrow'.out.keptNew kbr; rwa [hLl'.out] at this
          have H := hid (And.intro hr4 kw4)
          clear hr4 bb hrow' k4 kb kbr kw4 c0 c1 c2 c3 b0 b1 b2 b3 hwb
          go_wp2_with fail
          exact ⟨⟨kk, j + 1, rfl, by go_num, by omega, by omega, by show _ = _; rw [hpl2.out, hpl.out], by rw [hpl2.out]; exact H.out.1, H.out.2⟩, by simp [intOf]; omega⟩
      · have e : j = l.length := by omega
        subst e
        have hF : Hid (purV m (l.take l.length) = purV m l) := by show _ = _; rw [List.take_length]
        rw [hF.out] at hrow2 hpl hLl'
        obtain ⟨hl9, hm9, hg9, ht9⟩ := rowCells hrow2
        rw [hLl'.out] at hl9
        have hcc : ∀ z, z < (l.length - kk) * 4 → (wr.cell? ⟨g, o + kk * 4 + z, none⟩).isSome = true ∧ wr.frozen? ⟨g, o + kk * 4 + z, none⟩ = false := fun z hz => by
          rw [Nat.add_assoc]
          refine ht9 _ ?_
          show _ < c * 4
          omega
        have hcl := run_clearN wr g (o + kk * 4) (l.length - kk) (c - kk) (by omega) hcc
        obtain ⟨hput, kput, _, _⟩ := hrow2.put kk (by rw [hLl'.out]; omega) (List.replicate (l.length - kk) default) (by simp; omega)
        have hlz : ((purV m l ++ l.drop kk).take kk ++ List.replicate (l.length - kk) default ++ (purV m l ++ l.drop kk).drop (kk + (List.replicate (l.length - kk) (default : Vn)).length)).take kk = purV m l := by
          have e1 : (purV m l ++ l.drop kk).take kk = purV m l := by
            have := List.take_left (l₁ := purV m l) (l₂ := l.drop kk)
            rwa [hpl.out] at this
          rw [e1, List.append_assoc, List.take_append_of_le_length (by rw [hpl.out]; omega), ← hpl.out, List.take_length]
        have hfr := rowFront hput kk (by simp only [List.length_append, List.length_replicate, List.length_take, List.length_drop]; rw [hpl.out]; omega)
        rw [hlz] at hfr
        have hH : Hid (DelP g o c m l w (.returned (.slice (some ⟨g, o, none⟩) kk c)) (wr.setCells g (o + kk * 4) (VnE.cs (List.replicate (l.length - kk) default)))) := by
          show DelP _ _ _ _ _ _ _ _
          unfold DelP
          rw [hpl.out]
          exact ⟨rfl, hfr, ((k2.mono (by simp)).trans kn (fun _ h => .inl h)).trans kput (fun _ h => .inl h)⟩
        have n2 : (kk : Int) ≤ (l.length : Int) := by omega
        have n3 : (kk : Int) ≤ (c : Int) := by omega
        have n4 : kk < l.length := by omega
        have n5 : kk < c := by omega
        clear hput kput hfr hlz hrow hrow2 hpl hLl' ht9 hcc hF hm9
        go_wp2_with fail
        go_ret
        exact hH.out
set_option maxHeartbeats 8000000 in
set_option maxRecDepth 100000 in
theorem cDelNil (c q : Nat) (m : Int) (w : World) (hq : w.cell? ⟨q, 0, none⟩ = some (.int .u64 m)) :
    Calls Try.prog 31 #[.slice none 0 0, .func (.func 32) #[] #[.pointer (some ⟨q, 0, none⟩)]] w fun e w' => e = .returned (.slice none 0 0) ∧ Kp [] w w' := by
  have cI := cIndexF none 0 q m [] w (.inl rfl) hq (by simp)
  simp only [List.length_nil] at cI
  clear hq
  go_enter Try.func31, Try.ntmps31
  go_wp2_with fail
  refine cI.mono ?_
  rintro e w2 ⟨r, rfl, hI, k2⟩
  clear cI
  rcases hI with ⟨rfl, hall⟩ | ⟨i, x0, rfl, hx0, hx1, hst⟩
  · clear hall
    go_wp2_with fail
    go_ret
    exact ⟨rfl, k2⟩
  · simp at hx0
set_option maxHeartbeats 8000000 in
set_option maxRecDepth 100000 in
theorem cPurge {w : World} {p : Nat} {v : Value} {l : List Vn} (h : Wos w p v l) (m : Int) :
    Calls Try.prog 13 #[.pointer (some ⟨p, 0, none⟩), .int .u64 m] w (ChgW p v l (purV m l) (.int .i64 ((l.length : Int) - ((purV m l).length : Int))) w) := by
  obtain ⟨w1, hw1⟩ : ∃ w1, w.alloc (.cells #[.int .u64 m] 30) = w1 := ⟨_, rfl⟩
  have k1 : Kp [] w w1 := by rw [← hw1]; exact (Kp.refl _ _).alloc _
  have hq : w1.cell? ⟨w.heap.size, 0, none⟩ = some (.int .u64 m) := by rw [← hw1]; exact World.cell?_alloc_new w _ _ 0
  have h1 := h.keptNew k1
  have c1 := h1.c0
  have hfew := h.few
  have hple : (purV m l).length ≤ l.length := List.length_filter_le _ _
  have hsub : ∀ y ∈ purV m l, y ∈ l := fun y hy => (List.mem_filter.1 hy).1
  rcases h.row with ⟨rfl, rfl⟩ | ⟨g, o, c, rfl, hl, hm, hg, _⟩
  · have cD := cDelNil 0 w.heap.size m w1 hq
    have hH : Hid (∀ w2, Kp [] w1 w2 → w2.cell? ⟨p, 0, none⟩ = some (.slice none 0 0) ∧ w2.frozen? ⟨p, 0, none⟩ = false ∧ ChgW p (.slice none 0 0) [] (purV m []) (.int .i64 (((([] : List Vn)).length : Int) - ((purV m []).length : Int))) w (.returned (.int .i64 0)) (w2.setCell ⟨p, 0, none⟩ (.slice none 0 0))) := fun w2 k2 => by
      have h2 := h1.keptNew k2
      have ks : Kp [p] w2 (w2.setCell ⟨p, 0, none⟩ (.slice none 0 0)) := (Kp.refl _ _).setCell (.inl (by simp)) _
      refine ⟨h2.c0, h2.free 0, _, rfl, ⟨World.cell?_setCell_same _ _ _ h2.c0, setCell_free h2.free _, El.Row.nil _, by simp [purV], by simp [own, Value.ownBlock], by simp [purV], List.Pairwise.nil, by simp [purV]⟩, ⟨((k1.trans k2 (by simp)).mono (by simp)).trans ks (fun k hk => .inl (by simp at hk; simp [hk])), fun _ h => .inl h⟩, by simp [purV]⟩
    clear h h1
    simp only [List.length_nil]
    go_enter Try.func13, Try.ntmps13
    go_wp2_with fail
    refine cD.mono ?_
    rintro r w2 ⟨rfl, k2⟩
    obtain ⟨q1, q2, q3⟩ := hH.out w2 k2
    have q3' := hid q3
    have q4 : (w2.setCell ⟨p, 0, none⟩ (.slice none 0 0)).cell? ⟨p, 0, none⟩ = some (.slice none 0 0) := World.cell?_setCell_same _ _ _ q1
    clear cD q3 hH
    go_wp2_with fail
    go_returns
    exact q3'.out
  · have hgp : p ≠ g := fun e => h.apart (by simp [own, Value.ownBlock, e])
    have cD := cDelF g o c w.heap.size m l w1 h1.row hq (by omega) hfew
    unfold DelP at cD
    have hoff : ∀ y ∈ l, ∀ k ∈ bkV y, k ∉ [g] ∧ k ≠ p := fun y hy k hk => by
      have := h.off y hy k hk
      simp [own, Value.ownBlock] at this
      simp
      exact ⟨this.2, this.1⟩
    have hH : Hid (∀ w2, VnE.Row w2 (.slice (some ⟨g, o, none⟩) (purV m l).length c) (purV m l) → Kp [g] w1 w2 → w2.cell? ⟨p, 0, none⟩ = some (.slice (some ⟨g, o, none⟩) l.length c) ∧ w2.frozen? ⟨p, 0, none⟩ = false ∧ ChgW p (.slice (some ⟨g, o, none⟩) l.length c) l (purV m l) (.int .i64 ((l.length : Int) - ((purV m l).length : Int))) w (.returned (.int .i64 ((l.length : Int) - ((purV m l).length : Int)))) (w2.setCell ⟨p, 0, none⟩ (.slice (some ⟨g, o, none⟩) (purV m l).length c))) := fun w2 hr2 k2 => by
      have c2 : w2.cell? ⟨p, 0, none⟩ = some (.slice (some ⟨g, o, none⟩) l.length c) := (k2.cell (p := ⟨p, 0, none⟩) h1.lt (by simpa using hgp)).trans h1.c0
      have f2 : ∀ j, w2.frozen? ⟨p, j, none⟩ = false := fun j => (k2.frozen (p := ⟨p, j, none⟩) h1.lt (by simpa using hgp)).trans (h1.free j)
      have ks : Kp [p] w2 (w2.setCell ⟨p, 0, none⟩ (.slice (some ⟨g, o, none⟩) (purV m l).length c)) := (Kp.refl _ _).setCell (.inl (by simp)) _
      refine ⟨c2, f2 0, _, rfl, ⟨World.cell?_setCell_same _ _ _ c2, setCell_free f2 _, hr2.kept ks (fun k hk hs => ?_), fun y hy => ((h1.ok y (hsub y hy)).keptS k2 (fun k hk => (hoff y (hsub y hy) k hk).1)).keptS ks (fun k hk => by simpa using (hoff y (hsub y hy) k hk).2), by simpa [own, Value.ownBlock] using hgp, fun y hy k hk => ?_, h.srt.filter _, by omega⟩, ⟨?_, fun _ h => .inl h⟩, fun y hy k hk => .inl ⟨y, hsub y hy, hk⟩⟩
      · simp [own, Value.ownBlock] at hk; simp at hs; omega
      · have := hoff y (hsub y hy) k hk
        simp [own, Value.ownBlock]
        simp at this
        exact ⟨this.2, this.1⟩
      · exact ((k1.mono (by simp)).trans k2 (fun k hk => .inl (by simp at hk; simp [own, Value.ownBlock, hk]))).trans ks (fun k hk => .inl (by simp at hk; simp [hk]))
    obtain ⟨N, hN⟩ : ∃ N, Hid (l.length = N) := ⟨_, rfl⟩
    obtain ⟨M, hM⟩ : ∃ M, Hid ((purV m l).length = M) := ⟨_, rfl⟩
    rw [hN.out, hM.out] at hple
    rw [hN.out] at cD hfew c1
    rw [hM.out] at cD
    rw [hN.out, hM.out]
    simp only [hN.out, hM.out] at hH
    clear h h1 hsub hoff hN hM
    go_enter Try.func13, Try.ntmps13
    go_wp2_with fail
    refine cD.mono ?_
    rintro r w2 ⟨rfl, hr2, k2⟩
    obtain ⟨q1, q2, q3⟩ := hH.out w2 hr2 k2
    have q3' := hid q3
    have q4 : (w2.setCell ⟨p, 0, none⟩ (.slice (some ⟨g, o, none⟩) M c)).cell? ⟨p, 0, none⟩ = some (.slice (some ⟨g, o, none⟩) M c) := World.cell?_setCell_same _ _ _ q1
    clear cD q3 hH
    go_wp2_with fail
    go_returns
    exact q3'.out
end Go.Proofs.Ytdjlefacdfdhmaa
end

section
namespace Go.Hay
open Go.RowKit
set_option linter.unusedVariables false

variable {F : Fence} {n : Nat} {P : Program} {σ α : Type}

/-- What an iterator that stands at some s of σ promises: it hands on things x (as encs x), each behind a step T of its own, which may turn memory; a round that goes on takes it from s to nx s x and keeps what K says; S: it is at its end; Sp: a round has said 'no more'. -/
def SeqS (F : Fence) (n : Nat) (P : Program) (g : Nat) (lb : Array Value) (encs : α → Array Value) (T : σ → σ → World → World → Prop) (K : σ → World → World → Prop) (ok : σ → α → Prop) (nx : σ → α → σ) (S Sp : σ → Prop) (s0 : σ) (w : World) : Prop :=
  ∀ (l : Nat) (J Jx : σ → World → Prop) (W : World), K s0 w W → (∀ s s' A B, J s A → T s s' A B → J s' B) →
    (∀ s x A, J s A → ok s x → YieldAt F (n - 1) P l (encs x) A fun e A' => (e = .returned (.bool true) ∧ J (nx s x) A' ∧ K s A A') ∨ (e = .returned (.bool false) ∧ Jx (nx s x) A')) →
    J s0 W → CallsIn F n P g (#[.func (.yield l) #[] #[]] ++ lb) W fun e A' => (∃ v, e = .returned v) ∧ ((∃ s, S s ∧ J s A') ∨ (∃ s, Sp s ∧ Jx s A'))

/-- How a round's body may be left: B: from which block on whatever is no cells must lie as it lay. -/
def leftS (B : Nat) (K : σ → World → World → Prop) (I : σ → World → Prop) (Ix : Code → σ → World → Prop) (s0 s : σ) (W : World) : Exit → Act → World → Prop
  | .normal, _, W' => KeepsFrom B W W' ∧ K s0 W W' ∧ I s W'
  | .ret, _, W' => KeepsFrom B W W' ∧ Ix .ret s W'
  | .exit id, _, W' => KeepsFrom B W W' ∧ Ix (.exit id) s W'
  | .goto t, _, W' => KeepsFrom B W W' ∧ Ix (.goto t) s W'
  | _, _, _ => False

/-- The law. -/
theorem wpRangeS {g : Operand} {ps : Array Tmp} {assign body : Code} {Q : Exit → Act → World → Prop} {a : Act} {w : World}
    (hro : F.round = none) (h1 : 1 ≤ n) {gf : Nat} {lb : Array Value} (hg : a.eval g = .func (.func gf) #[] lb) (hFg : F.fn gf) (eg : ∀ args w, (callFunc gf args).run P w = .ok (.enter gf args) w)
    {encs : α → Array Value} {T : σ → σ → World → World → Prop} {K : σ → World → World → Prop} {ok : σ → α → Prop} {nx : σ → α → σ} {S Sp : σ → Prop} {s0 : σ} {w0 : World}
    (hseq : SeqS F (n - 1) P gf lb encs T K ok nx S Sp s0 w0) (hps : ∀ x, (encs x).size = ps.size)
    (hKt : ∀ {s : σ} {A B C : World}, K s A B → K s B C → K s A C) (hKa : ∀ s W o, K s W (W.alloc o)) (hKb : ∀ (s : σ) (W : World) (l : Nat) (o o' : Obj), w.heap.size ≤ l → W.heap[l]? = some o → o.isCells = false → o.isWalk = false → K s W (W.putObj l o')) (hb0 : K s0 w0 w)
    (hTk : ∀ s s' A B, T s s' A B → ∀ (k : Nat) (o : Obj), w.heap.size ≤ k → A.heap[k]? = some o → o.isCells = false → o.isWalk = false → B.heap[k]? = some o)
    (I : σ → World → Prop) (Ix : Code → σ → World → Prop) (hI : OwnFrom w.heap.size I) (hIx : ∀ c, OwnFrom w.heap.size (Ix c)) (hIT : ∀ s s' A B, I s A → T s s' A B → I s' B) (h0 : I s0 w)
    (a₁ : α → Act) (hassign : ∀ (l : Nat) (x : α) (W : World) (C : Act → World → Prop), C (a₁ x) W →
      assign.wpIn (F.inRound l) (n - 1 - 1) P (Exit.then C (fun _ _ _ => False)) { tmps := (ps.zip (encs x)).foldl (fun t (p, v) => t.setIfInBounds p v) a.tmps, defers := [] } W)
    (hbody : ∀ (l : Nat) (s : σ) (x : α) (W : World), I s W → ok s x → body.wpIn (F.inRound l) (n - 1 - 1) P (leftS w.heap.size K I Ix s (nx s x) W) (a₁ x) W)
    (hdone : ∀ (D : Nat) (s : σ) (W : World), w.heap.size ≤ D → S s → I s W → W.heap[D]? = some (.deferred (some [])) → Q .normal { a with defers := { target := .collected D, args := #[] } :: a.defers } W)
    (hstop : ∀ (D : Nat) (c : Code) (s : σ) (W : World), w.heap.size ≤ D → Sp s → Ix c s W → W.heap[D]? = some (.deferred (some [])) → c.wpIn F n P Q { a with defers := { target := .collected D, args := #[] } :: a.defers } W) :
    (Code.rangeFunc g ps assign body).wpIn F n P Q a w := by
  refine wpIn_rangeFunc fun fn hfn => ?_
  rw [hro]
  -- the loop's record, as it may stand
  let R : LoopState → Option Code → Obj := fun st pe => .loop { state := st, pending := pe, fn, tmps := a.tmps, params := ps, assign, body, defers := w.heap.size }
  let Bk : LoopState → Option Code → World → Prop := fun st pe W => W.heap[w.heap.size + 1]? = some (R st pe) ∧ W.heap[w.heap.size]? = some (.deferred (some []))
  have bkK : ∀ {st pe A B}, KeepsFrom w.heap.size A B → Bk st pe A → Bk st pe B := fun hk hb => ⟨hk.same _ _ (by omega) hb.1 rfl, hk.same _ _ (Nat.le_refl _) hb.2 rfl⟩
  have bkP : ∀ {st pe st' pe' A}, Bk st pe A → Bk st' pe' (A.putObj (w.heap.size + 1) (R st' pe')) := fun hb =>
    ⟨World.putObj_heap_same (Array.getElem?_eq_some_iff.1 hb.1).1, (World.putObj_heap_other (by omega)).trans hb.2⟩
  have iP : ∀ {st pe s A} (o : Obj), Bk st pe A → I s A → I s (A.putObj (w.heap.size + 1) o) := fun o hb hi => hI.putObj o hi (by omega) hb.1 rfl
  have ixP : ∀ {st pe s c A} (o : Obj), Bk st pe A → Ix c s A → Ix c s (A.putObj (w.heap.size + 1) o) := fun o hb hi => (hIx _).putObj o hi (by omega) hb.1 rfl
  have kP : ∀ {s st pe A} (o : Obj), Bk st pe A → K s A (A.putObj (w.heap.size + 1) o) := fun o hb => hKb _ _ _ _ _ (by omega) hb.1 rfl rfl
  have bkT : ∀ {s s' st pe A B}, T s s' A B → Bk st pe A → Bk st pe B := fun ht hb => ⟨hTk _ _ _ _ ht _ _ (by omega) hb.1 rfl rfl, hTk _ _ _ _ ht _ _ (Nat.le_refl _) hb.2 rfl rfl⟩
  have b0 : Bk .ready none ((w.alloc (.deferred (some []))).alloc (R .ready none)) :=
    ⟨by have := World.alloc_heap_new (w.alloc (.deferred (some []))) (R .ready none); rwa [World.size_alloc] at this, (Below.heap_alloc _ _ _ (by simp)).trans (World.alloc_heap_new w _)⟩
  refine ⟨w.heap.size + 1, [{ target := .collected w.heap.size, args := #[] }], ((w.alloc (.deferred (some []))).alloc (R .ready none)), { target := .fn (.func gf) lb, args := #[.func (.yield (w.heap.size + 1)) #[] #[]] }, ((w.alloc (.deferred (some []))).alloc (R .ready none)), gf, #[.func (.yield (w.heap.size + 1)) #[] #[]] ++ lb, ((w.alloc (.deferred (some []))).alloc (R .ready none)),
    run_enterLoop_outer _ _ _ _ _, by simp only [resolve, hg]; simp [go_sem], fun f' hf' => by simp [Target.leads] at hf'; subst hf'; exact hFg, by simp [invoke, go_sem, eg], fun _ => h1, ?_⟩
  refine (hseq (w.heap.size + 1) (fun s A => I s A ∧ Bk .ready none A) (fun s A => ∃ c, Ix c s A ∧ Bk .done (some c) A) _ (hKt hb0 (hKt (hKa _ _ _) (hKa _ _ _)))
    (fun s s' A B hs ht => ⟨hIT s s' A B hs.1 ht, bkT ht hs.2⟩) ?_ ⟨hI.alloc _ (hI.alloc _ h0), b0⟩).mono ?_
  · -- one round
    rintro s x A ⟨hi, hb⟩ hok
    refine ⟨fn, _, assign, body, run_yield hb.1 (hps x), roundIn_of_wpIn hfn (hassign _ x A _ ⟨_, run_beginRound hb.1 rfl, ?_⟩)⟩
    have hb2 : Bk .busy none (A.putObj (w.heap.size + 1) (R .busy none)) := bkP hb
    refine wpIn_mono (hbody _ s x _ (iP _ hb hi) hok) ?_
    rintro e a3 W3 hp
    cases e with
    | normal =>
      have hb3 := bkK hp.1 hb2
      exact ⟨_, _, run_endRound none hb3.1, .inl ⟨rfl, ⟨iP _ hb3 hp.2.2, bkP hb3⟩, hKt (kP _ hb) (hKt hp.2.1 (kP _ hb3))⟩⟩
    | ret => have hb3 := bkK hp.1 hb2; exact ⟨_, _, run_endRound (some .ret) hb3.1, .inr ⟨rfl, .ret, ixP _ hb3 hp.2, bkP hb3⟩⟩
    | exit id => have hb3 := bkK hp.1 hb2; exact ⟨_, _, run_endRound (some (.exit id)) hb3.1, .inr ⟨rfl, .exit id, ixP _ hb3 hp.2, bkP hb3⟩⟩
    | goto t => have hb3 := bkK hp.1 hb2; exact ⟨_, _, run_endRound (some (.goto t)) hb3.1, .inr ⟨rfl, .goto t, ixP _ hb3 hp.2, bkP hb3⟩⟩
    | panic ch => exact hp.elim
    | outgrown => exact hp.elim
  · -- behind the iterator
    rintro e A ⟨⟨v, rfl⟩, (⟨s, hS, hi, hb⟩ | ⟨s, hSp, c, hi, hb⟩)⟩
    · exact ⟨none, _, run_endLoop hb.1 (by simp), hdone _ s _ (Nat.le_refl _) hS (iP _ hb hi) ((World.putObj_heap_other (by omega)).trans hb.2)⟩
    · exact ⟨some c, _, run_endLoop hb.1 (by simp), hstop _ c s _ (Nat.le_refl _) hSp (ixP _ hb hi) ((World.putObj_heap_other (by omega)).trans hb.2)⟩
end Go.Hay
end

section
namespace Go.Hay
open Go.RowKit
set_option linter.unusedVariables false

variable {F : Fence} {n : Nat} {P : Program} {σ α : Type}

/-- As SeqS; a round keeps what K says also where it has said 'no more', and behind that the iterator may turn what Tx says. -/
def SeqX (F : Fence) (n : Nat) (P : Program) (g : Nat) (lb : Array Value) (encs : α → Array Value) (T : σ → σ → World → World → Prop) (Tx : σ → World → World → Prop) (K : σ → World → World → Prop) (ok : σ → α → Prop) (nx : σ → α → σ) (S Sp : σ → Prop) (s0 : σ) (w : World) : Prop :=
  ∀ (l : Nat) (J Jx : σ → World → Prop) (W : World), K s0 w W → (∀ s s' A B, J s A → T s s' A B → J s' B) → (∀ s A B, Jx s A → Tx s A B → Jx s B) →
    (∀ s x A, J s A → ok s x → YieldAt F (n - 1) P l (encs x) A fun e A' => (e = .returned (.bool true) ∧ J (nx s x) A' ∧ K s A A') ∨ (e = .returned (.bool false) ∧ Jx (nx s x) A' ∧ K s A A')) →
    J s0 W → CallsIn F n P g (#[.func (.yield l) #[] #[]] ++ lb) W fun e A' => (∃ v, e = .returned v) ∧ ((∃ s, S s ∧ J s A') ∨ (∃ s, Sp s ∧ Jx s A'))

/-- How a round's body may be left. -/
def leftX (B : Nat) (K : σ → World → World → Prop) (I : σ → World → Prop) (Ix : Code → σ → World → Prop) (s0 s : σ) (W : World) : Exit → Act → World → Prop
  | .normal, _, W' => KeepsFrom B W W' ∧ K s0 W W' ∧ I s W'
  | .ret, _, W' => KeepsFrom B W W' ∧ K s0 W W' ∧ Ix .ret s W'
  | .exit id, _, W' => KeepsFrom B W W' ∧ K s0 W W' ∧ Ix (.exit id) s W'
  | .goto t, _, W' => KeepsFrom B W W' ∧ K s0 W W' ∧ Ix (.goto t) s W'
  | _, _, _ => False

/-- The law. -/
theorem wpRangeX {g : Operand} {ps : Array Tmp} {assign body : Code} {Q : Exit → Act → World → Prop} {a : Act} {w : World}
    (hro : F.round = none) (h1 : 1 ≤ n) {gf : Nat} {lb : Array Value} (hg : a.eval g = .func (.func gf) #[] lb) (hFg : F.fn gf) (eg : ∀ args w, (callFunc gf args).run P w = .ok (.enter gf args) w)
    {encs : α → Array Value} {T : σ → σ → World → World → Prop} {Tx : σ → World → World → Prop} {K : σ → World → World → Prop} {ok : σ → α → Prop} {nx : σ → α → σ} {S Sp : σ → Prop} {s0 : σ} {w0 : World}
    (hseq : SeqX F (n - 1) P gf lb encs T Tx K ok nx S Sp s0 w0) (hps : ∀ x, (encs x).size = ps.size)
    (hKt : ∀ {s : σ} {A B C : World}, K s A B → K s B C → K s A C) (hKa : ∀ s W o, K s W (W.alloc o)) (hb0 : K s0 w0 w)
    (I : σ → World → Prop) (Ix : Code → σ → World → Prop) (hI : OwnFrom w.heap.size I) (hIx : ∀ c, OwnFrom w.heap.size (Ix c)) (h0 : I s0 w)
    (hTk : ∀ s s' A B, I s A → T s s' A B → ∀ (k : Nat) (o : Obj), (k = w.heap.size ∨ k = w.heap.size + 1) → A.heap[k]? = some o → B.heap[k]? = some o)
    (hXk : ∀ c s A B, Ix c s A → Tx s A B → ∀ (k : Nat) (o : Obj), (k = w.heap.size ∨ k = w.heap.size + 1) → A.heap[k]? = some o → B.heap[k]? = some o)
    (hIT : ∀ s s' A B, w.heap.size + 2 ≤ A.heap.size → I s A → T s s' A B → I s' B) (hXT : ∀ c s A B, Ix c s A → Tx s A B → Ix c s B)
    (hKb : ∀ (s : σ) (W : World) (o' : Obj), I s W → K s W (W.putObj (w.heap.size + 1) o')) (hKc : ∀ (s : σ) (x : α) (W : World) (o' : Obj), I (nx s x) W → K s W (W.putObj (w.heap.size + 1) o'))
    (hKx : ∀ (c : Code) (s : σ) (x : α) (W : World) (o' : Obj), Ix c (nx s x) W → K s W (W.putObj (w.heap.size + 1) o'))
    (a₁ : α → Act) (hassign : ∀ (l : Nat) (x : α) (W : World) (C : Act → World → Prop), C (a₁ x) W →
      assign.wpIn (F.inRound l) (n - 1 - 1) P (Exit.then C (fun _ _ _ => False)) { tmps := (ps.zip (encs x)).foldl (fun t (p, v) => t.setIfInBounds p v) a.tmps, defers := [] } W)
    (hbody : ∀ (l : Nat) (s : σ) (x : α) (W : World), I s W → ok s x → body.wpIn (F.inRound l) (n - 1 - 1) P (leftX w.heap.size K I Ix s (nx s x) W) (a₁ x) W)
    (hdone : ∀ (D : Nat) (s : σ) (W : World), w.heap.size ≤ D → S s → I s W → W.heap[D]? = some (.deferred (some [])) → Q .normal { a with defers := { target := .collected D, args := #[] } :: a.defers } W)
    (hstop : ∀ (D : Nat) (c : Code) (s : σ) (W : World), w.heap.size ≤ D → Sp s → Ix c s W → W.heap[D]? = some (.deferred (some [])) → c.wpIn F n P Q { a with defers := { target := .collected D, args := #[] } :: a.defers } W) :
    (Code.rangeFunc g ps assign body).wpIn F n P Q a w := by
  refine wpIn_rangeFunc fun fn hfn => ?_
  rw [hro]
  -- the loop's record, as it may stand
  let R : LoopState → Option Code → Obj := fun st pe => .loop { state := st, pending := pe, fn, tmps := a.tmps, params := ps, assign, body, defers := w.heap.size }
  let Bk : LoopState → Option Code → World → Prop := fun st pe W => W.heap[w.heap.size + 1]? = some (R st pe) ∧ W.heap[w.heap.size]? = some (.deferred (some []))
  have bkK : ∀ {st pe A B}, KeepsFrom w.heap.size A B → Bk st pe A → Bk st pe B := fun hk hb => ⟨hk.same _ _ (by omega) hb.1 rfl, hk.same _ _ (Nat.le_refl _) hb.2 rfl⟩
  have bkP : ∀ {st pe st' pe' A}, Bk st pe A → Bk st' pe' (A.putObj (w.heap.size + 1) (R st' pe')) := fun hb =>
    ⟨World.putObj_heap_same (Array.getElem?_eq_some_iff.1 hb.1).1, (World.putObj_heap_other (by omega)).trans hb.2⟩
  have iP : ∀ {st pe s A} (o : Obj), Bk st pe A → I s A → I s (A.putObj (w.heap.size + 1) o) := fun o hb hi => hI.putObj o hi (by omega) hb.1 rfl
  have ixP : ∀ {st pe s c A} (o : Obj), Bk st pe A → Ix c s A → Ix c s (A.putObj (w.heap.size + 1) o) := fun o hb hi => (hIx _).putObj o hi (by omega) hb.1 rfl
  have bsz : ∀ {st pe A}, Bk st pe A → w.heap.size + 2 ≤ A.heap.size := fun hb => by have := (Array.getElem?_eq_some_iff.1 hb.1).1; omega
  have b0 : Bk .ready none ((w.alloc (.deferred (some []))).alloc (R .ready none)) :=
    ⟨by have := World.alloc_heap_new (w.alloc (.deferred (some []))) (R .ready none); rwa [World.size_alloc] at this, (Below.heap_alloc _ _ _ (by simp)).trans (World.alloc_heap_new w _)⟩
  refine ⟨w.heap.size + 1, [{ target := .collected w.heap.size, args := #[] }], ((w.alloc (.deferred (some []))).alloc (R .ready none)), { target := .fn (.func gf) lb, args := #[.func (.yield (w.heap.size + 1)) #[] #[]] }, ((w.alloc (.deferred (some []))).alloc (R .ready none)), gf, #[.func (.yield (w.heap.size + 1)) #[] #[]] ++ lb, ((w.alloc (.deferred (some []))).alloc (R .ready none)),
    run_enterLoop_outer _ _ _ _ _, by simp only [resolve, hg]; simp [go_sem], fun f' hf' => by simp [Target.leads] at hf'; subst hf'; exact hFg, by simp [invoke, go_sem, eg], fun _ => h1, ?_⟩
  refine (hseq (w.heap.size + 1) (fun s A => I s A ∧ Bk .ready none A) (fun s A => ∃ c, Ix c s A ∧ Bk .done (some c) A) _ (hKt hb0 (hKt (hKa _ _ _) (hKa _ _ _)))
    (fun s s' A B hs ht => ⟨hIT s s' A B (bsz hs.2) hs.1 ht, hTk s s' A B hs.1 ht _ _ (.inr rfl) hs.2.1, hTk s s' A B hs.1 ht _ _ (.inl rfl) hs.2.2⟩)
    (fun s A B ⟨c, hs, hb⟩ ht => ⟨c, hXT c s A B hs ht, hXk c s A B hs ht _ _ (.inr rfl) hb.1, hXk c s A B hs ht _ _ (.inl rfl) hb.2⟩) ?_ ⟨hI.alloc _ (hI.alloc _ h0), b0⟩).mono ?_
  · -- one round
    rintro s x A ⟨hi, hb⟩ hok
    refine ⟨fn, _, assign, body, run_yield hb.1 (hps x), roundIn_of_wpIn hfn (hassign _ x A _ ⟨_, run_beginRound hb.1 rfl, ?_⟩)⟩
    have hb2 : Bk .busy none (A.putObj (w.heap.size + 1) (R .busy none)) := bkP hb
    refine wpIn_mono (hbody _ s x _ (iP _ hb hi) hok) ?_
    rintro e a3 W3 hp
    cases e with
    | normal =>
      have hb3 := bkK hp.1 hb2
      exact ⟨_, _, run_endRound none hb3.1, .inl ⟨rfl, ⟨iP _ hb3 hp.2.2, bkP hb3⟩, hKt (hKb _ _ _ hi) (hKt hp.2.1 (hKc _ _ _ _ hp.2.2))⟩⟩
    | ret => have hb3 := bkK hp.1 hb2; exact ⟨_, _, run_endRound (some .ret) hb3.1, .inr ⟨rfl, ⟨.ret, ixP _ hb3 hp.2.2, bkP hb3⟩, hKt (hKb _ _ _ hi) (hKt hp.2.1 (hKx _ _ _ _ _ hp.2.2))⟩⟩
    | exit id => have hb3 := bkK hp.1 hb2; exact ⟨_, _, run_endRound (some (.exit id)) hb3.1, .inr ⟨rfl, ⟨.exit id, ixP _ hb3 hp.2.2, bkP hb3⟩, hKt (hKb _ _ _ hi) (hKt hp.2.1 (hKx _ _ _ _ _ hp.2.2))⟩⟩
    | goto t => have hb3 := bkK hp.1 hb2; exact ⟨_, _, run_endRound (some (.goto t)) hb3.1, .inr ⟨rfl, ⟨.goto t, ixP _ hb3 hp.2.2, bkP hb3⟩, hKt (hKb _ _ _ hi) (hKt hp.2.1 (hKx _ _ _ _ _ hp.2.2))⟩⟩
    | panic ch => exact hp.elim
    | outgrown => exact hp.elim
  · -- behind the iterator
    rintro e A ⟨⟨v, rfl⟩, (⟨s, hS, hi, hb⟩ | ⟨s, hSp, c, hi, hb⟩)⟩
    · exact ⟨none, _, run_endLoop hb.1 (by simp), hdone _ s _ (Nat.le_refl _) hS (iP _ hb hi) ((World.putObj_heap_other (by omega)).trans hb.2)⟩
    · exact ⟨some c, _, run_endLoop hb.1 (by simp), hstop _ c s _ (Nat.le_refl _) hSp (ixP _ hb hi) ((World.putObj_heap_other (by omega)).trans hb.2)⟩
end Go.Hay
end

section
namespace Go.Hay
open Go.RowKit
set_option linter.unusedVariables false

variable {F : Fence} {n : Nat} {P : Program} {σ α : Type}

/-- The law. -/
theorem wpRangeY {g : Operand} {ps : Array Tmp} {assign body : Code} {Q : Exit → Act → World → Prop} {a : Act} {w : World}
    (hro : F.round = none) (h1 : 1 ≤ n) {gf : Nat} {lb : Array Value} (hg : a.eval g = .func (.func gf) #[] lb) (hFg : F.fn gf) (eg : ∀ args w, (callFunc gf args).run P w = .ok (.enter gf args) w)
    {encs : α → Array Value} {T : σ → σ → World → World → Prop} {Tx : σ → World → World → Prop} {K : σ → World → World → Prop} {ok : σ → α → Prop} {nx : σ → α → σ} {S Sp : σ → Prop} {s0 : σ} {w0 : World}
    (hseq : SeqX F (n - 1) P gf lb encs T Tx K ok nx S Sp s0 w0) (hps : ∀ x, (encs x).size = ps.size)
    (hKt : ∀ {s : σ} {A B C : World}, K s A B → K s B C → K s A C) (hKa : ∀ s W o, K s W (W.alloc o)) (hb0 : K s0 w0 w)
    (I : σ → World → Prop) (Ix : Code → σ → World → Prop) (hI : OwnFrom w.heap.size I) (hIx : ∀ c, OwnFrom w.heap.size (Ix c)) (h0 : I s0 w)
    (hTk : ∀ s s' A B, I s A → T s s' A B → ∀ (k : Nat) (o : Obj), (k = w.heap.size ∨ k = w.heap.size + 1) → A.heap[k]? = some o → B.heap[k]? = some o)
    (hXk : ∀ c s A B, Ix c s A → Tx s A B → ∀ (k : Nat) (o : Obj), (k = w.heap.size ∨ k = w.heap.size + 1) → A.heap[k]? = some o → B.heap[k]? = some o)
    (hIT : ∀ s s' A B, w.heap.size + 2 ≤ A.heap.size → I s A → T s s' A B → I s' B) (hXT : ∀ c s A B, Ix c s A → Tx s A B → Ix c s B)
    (hKb : ∀ (s : σ) (W : World) (o' : Obj), I s W → K s W (W.putObj (w.heap.size + 1) o')) (hKc : ∀ (s : σ) (x : α) (W : World) (o' : Obj), I (nx s x) W → K s W (W.putObj (w.heap.size + 1) o'))
    (hKx : ∀ (c : Code) (s : σ) (x : α) (W : World) (o' : Obj), Ix c (nx s x) W → K s W (W.putObj (w.heap.size + 1) o'))
    (ob : α → Obj) (a₁ : α → Nat → Act) (hassign : ∀ (l : Nat) (x : α) (W : World) (C : Act → World → Prop), C (a₁ x W.heap.size) (W.alloc (ob x)) →
      assign.wpIn (F.inRound l) (n - 1 - 1) P (Exit.then C (fun _ _ _ => False)) { tmps := (ps.zip (encs x)).foldl (fun t (p, v) => t.setIfInBounds p v) a.tmps, defers := [] } W)
    (hbody : ∀ (l : Nat) (s : σ) (x : α) (W : World) (q : Nat), I s W → ok s x → W.heap[q]? = some (ob x) → w.heap.size + 2 ≤ q → body.wpIn (F.inRound l) (n - 1 - 1) P (leftX w.heap.size K I Ix s (nx s x) W) (a₁ x q) W)
    (hdone : ∀ (D : Nat) (s : σ) (W : World), w.heap.size ≤ D → S s → I s W → W.heap[D]? = some (.deferred (some [])) → Q .normal { a with defers := { target := .collected D, args := #[] } :: a.defers } W)
    (hstop : ∀ (D : Nat) (c : Code) (s : σ) (W : World), w.heap.size ≤ D → Sp s → Ix c s W → W.heap[D]? = some (.deferred (some [])) → c.wpIn F n P Q { a with defers := { target := .collected D, args := #[] } :: a.defers } W) :
    (Code.rangeFunc g ps assign body).wpIn F n P Q a w := by
  refine wpIn_rangeFunc fun fn hfn => ?_
  rw [hro]
  -- the loop's record, as it may stand
  let R : LoopState → Option Code → Obj := fun st pe => .loop { state := st, pending := pe, fn, tmps := a.tmps, params := ps, assign, body, defers := w.heap.size }
  let Bk : LoopState → Option Code → World → Prop := fun st pe W => W.heap[w.heap.size + 1]? = some (R st pe) ∧ W.heap[w.heap.size]? = some (.deferred (some []))
  have bkK : ∀ {st pe A B}, KeepsFrom w.heap.size A B → Bk st pe A → Bk st pe B := fun hk hb => ⟨hk.same _ _ (by omega) hb.1 rfl, hk.same _ _ (Nat.le_refl _) hb.2 rfl⟩
  have bkP : ∀ {st pe st' pe' A}, Bk st pe A → Bk st' pe' (A.putObj (w.heap.size + 1) (R st' pe')) := fun hb =>
    ⟨World.putObj_heap_same (Array.getElem?_eq_some_iff.1 hb.1).1, (World.putObj_heap_other (by omega)).trans hb.2⟩
  have iP : ∀ {st pe s A} (o : Obj), Bk st pe A → I s A → I s (A.putObj (w.heap.size + 1) o) := fun o hb hi => hI.putObj o hi (by omega) hb.1 rfl
  have ixP : ∀ {st pe s c A} (o : Obj), Bk st pe A → Ix c s A → Ix c s (A.putObj (w.heap.size + 1) o) := fun o hb hi => (hIx _).putObj o hi (by omega) hb.1 rfl
  have bsz : ∀ {st pe A}, Bk st pe A → w.heap.size + 2 ≤ A.heap.size := fun hb => by have := (Array.getElem?_eq_some_iff.1 hb.1).1; omega
  have b0 : Bk .ready none ((w.alloc (.deferred (some []))).alloc (R .ready none)) :=
    ⟨by have := World.alloc_heap_new (w.alloc (.deferred (some []))) (R .ready none); rwa [World.size_alloc] at this, (Below.heap_alloc _ _ _ (by simp)).trans (World.alloc_heap_new w _)⟩
  refine ⟨w.heap.size + 1, [{ target := .collected w.heap.size, args := #[] }], ((w.alloc (.deferred (some []))).alloc (R .ready none)), { target := .fn (.func gf) lb, args := #[.func (.yield (w.heap.size + 1)) #[] #[]] }, ((w.alloc (.deferred (some []))).alloc (R .ready none)), gf, #[.func (.yield (w.heap.size + 1)) #[] #[]] ++ lb, ((w.alloc (.deferred (some []))).alloc (R .ready none)),
    run_enterLoop_outer _ _ _ _ _, by simp only [resolve, hg]; simp [go_sem], fun f' hf' => by simp [Target.leads] at hf'; subst hf'; exact hFg, by simp [invoke, go_sem, eg], fun _ => h1, ?_⟩
  refine (hseq (w.heap.size + 1) (fun s A => I s A ∧ Bk .ready none A) (fun s A => ∃ c, Ix c s A ∧ Bk .done (some c) A) _ (hKt hb0 (hKt (hKa _ _ _) (hKa _ _ _)))
    (fun s s' A B hs ht => ⟨hIT s s' A B (bsz hs.2) hs.1 ht, hTk s s' A B hs.1 ht _ _ (.inr rfl) hs.2.1, hTk s s' A B hs.1 ht _ _ (.inl rfl) hs.2.2⟩)
    (fun s A B ⟨c, hs, hb⟩ ht => ⟨c, hXT c s A B hs ht, hXk c s A B hs ht _ _ (.inr rfl) hb.1, hXk c s A B hs ht _ _ (.inl rfl) hb.2⟩) ?_ ⟨hI.alloc _ (hI.alloc _ h0), b0⟩).mono ?_
  · -- one round
    rintro s x A ⟨hi, hb⟩ hok
    have hb1 : Bk .ready none (A.alloc (ob x)) := ⟨(Below.heap_alloc A _ _ (Array.getElem?_eq_some_iff.1 hb.1).1).trans hb.1, (Below.heap_alloc A _ _ (Array.getElem?_eq_some_iff.1 hb.2).1).trans hb.2⟩
    have hi1 : I s (A.alloc (ob x)) := hI.alloc _ hi
    have hz := bsz hb
    refine ⟨fn, _, assign, body, run_yield hb.1 (hps x), roundIn_of_wpIn hfn (hassign _ x A _ ⟨_, run_beginRound hb1.1 rfl, ?_⟩)⟩
    have hb2 : Bk .busy none ((A.alloc (ob x)).putObj (w.heap.size + 1) (R .busy none)) := bkP hb1
    refine wpIn_mono (hbody _ s x _ A.heap.size (iP _ hb1 hi1) hok ((World.putObj_heap_other (by omega)).trans (World.alloc_heap_new A (ob x))) hz) ?_
    rintro e a3 W3 hp
    cases e with
    | normal =>
      have hb3 := bkK hp.1 hb2
      exact ⟨_, _, run_endRound none hb3.1, .inl ⟨rfl, ⟨iP _ hb3 hp.2.2, bkP hb3⟩, hKt (hKa _ _ _) (hKt (hKb _ _ _ hi1) (hKt hp.2.1 (hKc _ _ _ _ hp.2.2)))⟩⟩
    | ret => have hb3 := bkK hp.1 hb2; exact ⟨_, _, run_endRound (some .ret) hb3.1, .inr ⟨rfl, ⟨.ret, ixP _ hb3 hp.2.2, bkP hb3⟩, hKt (hKa _ _ _) (hKt (hKb _ _ _ hi1) (hKt hp.2.1 (hKx _ _ _ _ _ hp.2.2)))⟩⟩
    | exit id => have hb3 := bkK hp.1 hb2; exact ⟨_, _, run_endRound (some (.exit id)) hb3.1, .inr ⟨rfl, ⟨.exit id, ixP _ hb3 hp.2.2, bkP hb3⟩, hKt (hKa _ _ _) (hKt (hKb _ _ _ hi1) (hKt hp.2.1 (hKx _ _ _ _ _ hp.2.2)))⟩⟩
    | goto t => have hb3 := bkK hp.1 hb2; exact ⟨_, _, run_endRound (some (.goto t)) hb3.1, .inr ⟨rfl, ⟨.goto t, ixP _ hb3 hp.2.2, bkP hb3⟩, hKt (hKa _ _ _) (hKt (hKb _ _ _ hi1) (hKt hp.2.1 (hKx _ _ _ _ _ hp.2.2)))⟩⟩
    | panic ch => exact hp.elim
    | outgrown => exact hp.elim
  · -- behind the iterator
    rintro e A ⟨⟨v, rfl⟩, (⟨s, hS, hi, hb⟩ | ⟨s, hSp, c, hi, hb⟩)⟩
    · exact ⟨none, _, run_endLoop hb.1 (by simp), hdone _ s _ (Nat.le_refl _) hS (iP _ hb hi) ((World.putObj_heap_other (by omega)).trans hb.2)⟩
    · exact ⟨some c, _, run_endLoop hb.1 (by simp), hstop _ c s _ (Nat.le_refl _) hSp (ixP _ hb hi) ((World.putObj_heap_other (by omega)).trans hb.2)⟩
end Go.Hay
end

section
namespace Go.Hay
open Go.RowKit
set_option linter.unusedVariables false

variable {P : Program} {l n : Nat}
theorem upon_round {o : Oper} {a : Act} {K : Act → World → Prop} {Q : Exit → Act → World → Prop} : ∀ {r : Result Next}, o.upon P a K Q r → o.uponIn (Fence.wide.inRound l) n P a K Q r := by
  intro r h
  have hdep : (Fence.wide.inRound l).depth.isSome = true → 1 ≤ n := fun h => by cases h
  unfold Oper.upon at h
  split at h
  · exact h
  · exact h
  · exact h
  · exact ⟨hdep, callsIn_wide.2 h⟩
  · refine ⟨hdep, fun c cs _ => ?_⟩
    obtain ⟨v, w', hr, hs⟩ := h c cs
    exact ⟨v, w', hr, stepsIn_wide.2 hs⟩
  · exact h
  · exact h.elim
theorem op_round {ops : Array Oper} {i : Nat} {K : Act → World → Prop} {Q : Exit → Act → World → Prop} {a : Act} {w : World} (hnd : ∀ o, ops[i]? = some o → ∀ c, o.op ≠ .defer c) (hlo : ¬ LetsOut Q) (h : wpOp P ops Q i K a w) : wpOpIn (Fence.wide.inRound l) n P ops Q i K a w := by
  unfold wpOp at h
  unfold wpOpIn
  cases ho : ops[i]? with
  | none => rw [ho] at h; exact h
  | some o =>
    rw [ho] at h
    simp only at h ⊢
    split
    · rename_i hw
      rw [if_pos hw] at h
      rcases h with h | h
      · refine ⟨fun _ _ => trivial, ?_⟩
        rw [Oper.semAt_plain _ _ _ (hnd o ho)]
        exact upon_round h
      · exact absurd h.2 hlo
    · rename_i hw
      rw [if_neg hw] at h
      exact ⟨fun _ _ => trivial, h⟩
theorem any_round {ops : Array Oper} {Q : Exit → Act → World → Prop} {S : World → Prop} (hnd : ∀ (i : Nat) (o : Oper), ops[i]? = some o → ∀ c, o.op ≠ .defer c) (hlo : ¬ LetsOut Q) : ∀ (fuel : Nat) (listed : Array Bool) (a : Act) (w : World), wpAnyH P .any ops Q S fuel listed a w → wpAnyIn (Fence.wide.inRound l) n P .any ops Q fuel listed a w
  | 0, _, _, _, h => h
  | fuel + 1, listed, a, w, h => ⟨h.1, fun i hi => op_round (hnd i) hlo (wpOp_mono (fun a w hk => any_round hnd hlo fuel _ a w hk.2) (h.2 i hi))⟩
def noDefer (ops : Array Oper) : Bool := ops.all fun o => match o.op with | .defer _ => false | _ => true
theorem noDefer_spec {ops : Array Oper} (h : noDefer ops = true) (i : Nat) (o : Oper) (ho : ops[i]? = some o) (c : Call) : o.op ≠ .defer c := fun e => by
  have := Array.all_eq_true.1 h i (Array.getElem?_eq_some_iff.1 ho).1
  rw [(Array.getElem?_eq_some_iff.1 ho).2, e] at this
  cases this
theorem region_round {id : Nat} {ops : Array Oper} {Q : Exit → Act → World → Prop} {a : Act} {w : World} (S : World → Prop) (hm : P.follows .mixedOrders = true) (hnd : noDefer ops = true) (hlo : ¬ LetsOut Q) (hS : S w.drew)
    (h : S w.drew → wpAnyH P .any ops Q S ops.size (Array.replicate ops.size false) a w.drew) : (Code.region id ops true).wpIn (Fence.wide.inRound l) n P Q a w :=
  wpIn_region_any hm (any_round (noDefer_spec hnd) hlo _ _ _ _ (h hS))
end Go.Hay
end

section
namespace Go.Proofs.Ytdjlefacdfdhmaa
open Go.RowKit Go.Hay
attribute [local go_sem] Oper.semAt_some
set_option linter.unusedVariables false
set_option linter.unusedSimpArgs false

/-- What the rounds leave alone: the blocks Js. -/
def KeepN (Js : List Nat) (A B : World) : Prop := A.heap.size ≤ B.heap.size ∧ ∀ k ∈ Js, ∀ o, A.heap[k]? = some o → B.heap[k]? = some o
theorem KeepN.trans {Js : List Nat} {A B C : World} (h : KeepN Js A B) (k : KeepN Js B C) : KeepN Js A C := ⟨Nat.le_trans h.1 k.1, fun j hj o ho => k.2 j hj o (h.2 j hj o ho)⟩
theorem KeepN.refl (Js : List Nat) (A : World) : KeepN Js A A := ⟨Nat.le_refl _, fun _ _ _ h => h⟩
theorem KeepN.alloc (Js : List Nat) (W : World) (o : Obj) : KeepN Js W (W.alloc o) := ⟨by simp, fun k _ o' ho => (Below.heap_alloc W o k (Array.getElem?_eq_some_iff.1 ho).1).trans ho⟩
theorem KeepN.ofKp {Js S : List Nat} {A B : World} (hk : Kp S A B) (hJ : ∀ j ∈ Js, j ∉ S) : KeepN Js A B := ⟨hk.size, fun j hj o ho => (hk.block j (Array.getElem?_eq_some_iff.1 ho).1 (hJ j hj)).trans ho⟩
theorem KeepN.sub {Js Ks : List Nat} {A B : World} (h : KeepN Js A B) (hs : ∀ k ∈ Ks, k ∈ Js) : KeepN Ks A B := ⟨h.1, fun k hk => h.2 k (hs k hk)⟩
theorem KeepN.cell {Js : List Nat} {A B : World} (h : KeepN Js A B) {g j : Nat} (hg : g ∈ Js) {v : Value} (hc : A.cell? ⟨g, j, none⟩ = some v) : B.cell? ⟨g, j, none⟩ = some v := by
  have hl := World.block_lt_of_cell? _ _ hc
  have e : A.heap[g]? = some A.heap[g] := by simp at hl; simp [hl]
  exact (World.cell?_of_block (a := ⟨g, j, none⟩) ((h.2 g hg _ e).trans e.symm)).trans hc
theorem KeepN.see {α : Type} {E : El α} {Js : List Nat} {A B : World} (h : KeepN Js A B) {a : Option Addr} {l : List α} (hs : E.See A a l) (hj : l ≠ [] → ∀ k ∈ blk a, k ∈ Js) : E.See B a l := by
  by_cases hl : l = []
  · exact .inl hl
  · rcases hs with e | ⟨g, o, rfl, hc⟩
    · exact absurd e hl
    · exact .inr ⟨g, o, rfl, fun j u hu => h.cell (hj hl g (by simp [blk])) (hc j u hu)⟩
/-- All blocks that versions' rows lie in. -/
def rowsB (l : List Vn) : List Nat := l.flatMap bkV
theorem mem_rowsB {l : List Vn} {k : Nat} : k ∈ rowsB l ↔ ∃ x ∈ l, k ∈ bkV x := by simp [rowsB, List.mem_flatMap]
theorem KeepN.ok {Js : List Nat} {A B : World} (h : KeepN Js A B) {x : Vn} (hx : VnOk A x) (hj : ∀ k ∈ bkV x, k ∈ Js) : VnOk B x :=
  ⟨h.see hx.see (fun hne k hk => hj k (by unfold bkV; rw [if_neg hne]; exact hk)), hx.cap, hx.nil, hx.few⟩
/-- How the inner iterator stands. -/
structure Sn where
  made : Bool
  js : List Nat
  i : Nat
def Sn.nx (s : Sn) (x : Vn) : Sn := { s with i := s.i + 1 }
abbrev encV (x : Vn) : Array Value := #[.agg #[.int .u64 x.ep, .int .u32 x.num, .slice x.a x.row.length x.c, .int .u64 x.del]]
/-- The inner iterator's own step: new memory. -/
structure StepN (s s' : Sn) (A B : World) : Prop where
  kp : Kp [] A B
  on : s'.i = s.i
  stays : s.made = true → s' = s
  makes : s.made = false → s'.made = true ∧ ∀ j ∈ s'.js, A.heap.size ≤ j ∧ j < B.heap.size
set_option maxHeartbeats 8000000 in
set_option maxRecDepth 100000 in
theorem nowSeq (n : Nat) (hn : 2 ≤ n) (q1 p : Nat) (a : Option Addr) (c : Nat) (l : List Vn) (w : World) (hb : w.cell? ⟨q1, 0, none⟩ = some (.pointer (some ⟨p, 0, none⟩))) (hc0 : w.cell? ⟨p, 0, none⟩ = some (.slice a l.length c)) (hsee : VnE.See w a l) (hnil : a = none → c = 0) (hf : l.length ≤ 4000000000000) :
    SeqS Fence.wide n Try.prog 45 #[.pointer (some ⟨q1, 0, none⟩)] encV StepN (fun s => KeepN s.js)
      (fun s x => s.made = true ∧ l[s.i]? = some x) Sn.nx (fun s => s.made = true ∧ s.i = l.length) (fun _ => True) ⟨false, q1 :: p :: blk a, 0⟩ w := by
  intro ly J Jx W hW hT hY h0
  have hbW := hW.cell (by simp) hb
  have hcW := hW.cell (by simp) hc0
  have hsW : VnE.See W a l := hW.see hsee (fun _ k hk => by simp [hk])
  have cC := cCloneN a c l W hsW hnil hf
  refine callsIn_of_wp Try.func45 rfl trivial ?_ rfl
  simp only [Try.ntmps45, List.size_toArray, List.length_cons, List.length_nil, Nat.reduceAdd, Nat.reduceSub, Array.replicate_succ, Array.replicate_zero, List.push_toArray, List.append_toArray, List.nil_append, List.cons_append]
  clear hsW hsee hb hc0
  gi_wp2_with fail
  refine ⟨trivial, fun _ => by omega, (callsIn_wide.2 cC).mono ?_⟩
  rintro e W1 ⟨a1, c1, rfl, hr1, k1, hn1⟩
  clear cC
  obtain ⟨_, _, ev, hs1, _⟩ := hr1.see
  cases ev
  have hs1' := hid hs1
  have hlt1 : ∀ k ∈ blk a1, k < W1.heap.size := fun k hk => hr1.lt k (by rw [own_slice]; exact hk)
  have hJ1 : J ⟨true, blk a1, 0⟩ W1 := hT _ _ _ _ h0 ⟨k1, rfl, fun h => (by cases h), fun _ => ⟨rfl, fun j hj => ⟨hn1 j hj, hlt1 j hj⟩⟩⟩
  clear hs1 hr1
  gi_wp2_with fail
  gi_loopw [4, 11] (fun s4 i wr => ∃ j : Nat, j ≤ l.length ∧ i = .int .i64 j ∧ J ⟨true, blk a1, j⟩ wr ∧ KeepN (blk a1) W1 wr) (fun _ i _ => l.length - (intOf i).toNat)
  case atStart => exact ⟨0, Nat.zero_le _, rfl, hJ1, KeepN.refl _ _⟩
  case round =>
    obtain ⟨j, hj, rfl, hJj, hkr⟩ := hrel
    by_cases hjl : j < l.length
    · have hx : l[j]? = some l[j] := by simp [hjl]
      obtain ⟨g, o, rfl, c0, c1', c2, c3⟩ := idAt (hkr.see hs1'.out (fun _ k hk => hk)) hx
      have hx' := hid hx
      clear hx
      generalize l[j] = x at *
      obtain ⟨wb, hwb⟩ : ∃ wb, wr.alloc (.cells #[.int .u64 x.ep, .int .u32 x.num, .slice x.a x.row.length x.c, .int .u64 x.del] 45) = wb := ⟨_, rfl⟩
      have kb : Kp [] wr wb := by rw [← hwb]; exact (Kp.refl _ _).alloc _
      have hJb : J ⟨true, blk (some ⟨g, o, none⟩), j⟩ wb := hT _ _ wr wb hJj ⟨kb, rfl, fun _ => rfl, fun h => (by cases h)⟩
      obtain ⟨fn, tmps, assign, body, hy, hR⟩ := hY _ x wb hJb ⟨rfl, hx'.out⟩
      have i1 : (0 : Int) ≤ (j : Int) := by omega
      have i2 : (j : Int) < (l.length : Int) := by omega
      obtain ⟨ep, num, xa, xc, row, del⟩ := x
      dsimp only at c0 c1' c2 c3 hwb hy hR
      have bb : Bx wb wr.heap.size [.int .u64 ep, .int .u32 num, .slice xa row.length xc, .int .u64 del] := by rw [← hwb]; exact Bx.new wr [.int .u64 ep, .int .u32 num, .slice xa row.length xc, .int .u64 del] _
      have b0 := bb.get 0 _ rfl; have b1 := bb.get 1 _ rfl; have b2 := bb.get 2 _ rfl; have b3 := bb.get 3 _ rfl
      clear hJj hJb bb
      gi_wp2_with fail
      refine ⟨fun _ => by omega, hR.mono ?_⟩
      rintro e1 W3 (⟨rfl, hJ3, hk3⟩ | ⟨rfl, hJx⟩)
      · have hkk : KeepN (blk (some ⟨g, o, none⟩)) W1 W3 := (hkr.trans (KeepN.ofKp kb (by simp))).trans hk3
        clear hR hy c0 c1' c2 c3 b0 b1 b2 b3 hwb
        gi_wp2_with fail
        go_roundw
        case rel => exact ⟨j + 1, by omega, by go_num, hJ3, hkk⟩
        case measure => simp [intOf]; omega
      · clear hR hy c0 c1' c2 c3 b0 b1 b2 b3 hwb
        gi_wp2_with fail
        go_returns
        exact ⟨⟨_, rfl⟩, .inr ⟨_, trivial, hJx⟩⟩
    · have e : j = l.length := by omega
      subst e
      gi_wp2
      go_end0
      exact ⟨⟨_, rfl⟩, .inl ⟨_, ⟨rfl, rfl⟩, hJj⟩⟩
end Go.Proofs.Ytdjlefacdfdhmaa
end

/- Rows in memory: Purge. Recover: sorting versions by names, making compact. Recover: versions by rising names; a version as it is told. -/
import Derived.Test.YtebkkdoggagcdaaB8
import Derived.Test.YtebkkdoggagcdaaB2
import Derived.Test.YtebkkdoggagcdaaB3
section
namespace Go.Proofs.Ytebkkdoggagcdaa
open Go.RowKit Go.Hay
set_option linter.unusedVariables false
set_option linter.unusedSimpArgs false

theorem cGone1 (q : Nat) (m : Int) (x : Vn) (w : World) (hq : w.cell? ⟨q, 0, none⟩ = some (.int .u64 m)) : Calls Try.prog 27 #[.agg #[.int .u64 x.ep, .int .u32 x.num, .slice x.a x.row.length x.c, .int .u64 x.del], .pointer (some ⟨q, 0, none⟩)] w fun r w' => r = .returned (.bool (!behS m x)) ∧ Kp [] w w' := by
  have hlt : q < w.heap.size := World.block_lt_of_cell? _ _ hq
  obtain ⟨ep, num, a, c, row, del⟩ := x
  have e : (!behS m ⟨ep, num, a, c, row, del⟩) = (decide (ep ≤ m) && decide (del ≤ m)) := by
    unfold behS
    by_cases h1 : m < ep
    · have : ¬ ep ≤ m := by omega
      simp [h1, this]
    · have h1' : ep ≤ m := by omega
      by_cases h2 : m < del
      · have : ¬ del ≤ m := by omega
        simp [h2, this]
      · have h2' : del ≤ m := by omega
        simp [h1, h2, h1', h2']
  rw [e]
  clear e
  by_cases h1 : ep ≤ m
  · have d1 : decide (ep ≤ m) = true := by simpa using h1
    rw [d1]
    clear h1
    go_enter Try.func27, Try.ntmps27
    go_wp2_with fail
    go_returns
    exact ⟨by simp, (Kp.refl _ _).alloc _⟩
  · have d1 : decide (ep ≤ m) = false := by simpa using h1
    rw [d1]
    clear h1
    go_enter Try.func27, Try.ntmps27
    go_wp2_with fail
    go_returns
    exact ⟨by simp, (Kp.refl _ _).alloc _⟩
/-- What IndexFunc tells: the first that goes. -/
def IdxP (m : Int) (l : List Vn) (r : Int) : Prop := (r = -1 ∧ ∀ x ∈ l, behS m x = true) ∨ ∃ i : Nat, ∃ x, r = i ∧ l[i]? = some x ∧ behS m x = false ∧ ∀ y ∈ l.take i, behS m y = true
set_option maxHeartbeats 8000000 in
set_option maxRecDepth 100000 in
theorem cIndexF (a : Option Addr) (c q : Nat) (m : Int) (l : List Vn) (w : World) (hs : VnE.See w a l) (hq : w.cell? ⟨q, 0, none⟩ = some (.int .u64 m)) (hf : l.length ≤ 4000000000000) :
    Calls Try.prog 36 #[.slice a l.length c, .func (.func 27) #[] #[.pointer (some ⟨q, 0, none⟩)]] w fun e w' => ∃ r, e = .returned (.int .i64 r) ∧ IdxP m l r ∧ Kp [] w w' := by
  have hs' := hid hs
  have hq' := hid hq
  clear hs hq
  go_enter Try.func36, Try.ntmps36
  go_wp2_with fail
  go_loopw [8] (fun i wr => ∃ j : Nat, j ≤ l.length ∧ i = .int .i64 j ∧ Hid (∀ y ∈ l.take j, behS m y = true) ∧ Kp [] w wr) (fun i _ => l.length - (intOf i).toNat)
  case atStart => exact ⟨0, Nat.zero_le _, rfl, by intro y hy; simp at hy, Kp.refl _ _⟩
  case round =>
    obtain ⟨j, hj, rfl, hst, kr⟩ := hrel
    by_cases hjl : j < l.length
    · have hx : l[j]? = some l[j] := by simp [hjl]
      obtain ⟨g, o, rfl, c0, c1, c2, c3⟩ := idAt (hs'.out.keptNew kr) hx
      have cG := cGone1 q m l[j] wr (kpAt kr hq'.out)
      have htk : Hid (l.take (j + 1) = l.take j ++ [l[j]]) := by show _ = _; rw [List.take_succ_eq_append_getElem hjl]
      have hx' := hid hx
      clear hx
      generalize l[j] = x at *
      have i1 : (0 : Int) ≤ (j : Int) := by omega
      have i2 : (j : Int) < (l.length : Int) := by omega
      obtain ⟨B, hB⟩ : ∃ B, Hid (behS m x = B) := ⟨_, rfl⟩
      rw [hB.out] at cG
      obtain ⟨ep, num, xa, xc, row, del⟩ := x
      dsimp only at c0 c1 c2 c3 cG
      go_wp2_with fail
      refine cG.mono ?_
      rintro e w2 ⟨rfl, k2⟩
      have kw2 := kr.trans k2 (by simp)
      clear cG k2 c0 c1 c2 c3
      cases B with
      | true =>
        go_wp2_with fail
        refine ⟨⟨j + 1, by omega, by go_num, fun y hy => ?_, kw2⟩, by simp [intOf]; omega⟩
        rw [htk.out] at hy
        rcases List.mem_append.1 hy with h | h
        · exact hst.out y h
        · rw [List.mem_singleton] at h; subst h; exact hB.out
      | false =>
        go_wp2_with fail
        go_ret
        exact ⟨_, rfl, .inr ⟨j, _, rfl, hx'.out, hB.out, hst.out⟩, kw2⟩
    · have e : j = l.length := by omega
      subst e
      go_wp2_with fail
      go_ret
      exact ⟨_, rfl, .inl ⟨rfl, fun x hx => hst.out x (by rw [List.take_length]; exact hx)⟩, kr⟩
/-- The rest of a row of versions, made nought. -/
theorem run_clearN (W : World) (g o n c : Nat) (hn : 0 < n) (hc : ∀ j, j < n * 4 → (W.cell? ⟨g, o + j, none⟩).isSome = true ∧ W.frozen? ⟨g, o + j, none⟩ = false) :
    ∀ ty, (Builtin.clear_ #[22] ty #[.slice (some ⟨g, o, none⟩) n c]).run Try.prog W = .ok (.tuple #[]) (W.setCells g o (VnE.cs (List.replicate n default))) := by
  have hv : ∀ w : World, (zeroValue 34).run Try.prog w = .ok (.agg #[.int .u64 0, .int .u32 0, .slice none 0 0, .int .u64 0]) w := Try.zeroValue34
  have hzc := zeroCells_cs VnE default (Value.agg #[.int .u64 0, .int .u32 0, .slice none 0 0, .int .u64 0]).cells rfl n
  have hlen : (VnE.cs (List.replicate n default)).length = n * 4 := by rw [El.cs_length, List.length_replicate]; rfl
  have hst := run_storeCells_cells (P := Try.prog) g o (VnE.cs (List.replicate n default)) 0 W (by rw [hlen]; simpa using fun j hj => (hc j hj).1) (by rw [hlen]; simpa using fun j hj => (hc j hj).2) (El.cs_one VnE _)
  simp only [Nat.add_zero] at hst
  intro ty
  obtain ⟨m, rfl⟩ : ∃ m, n = m + 1 := ⟨n - 1, by omega⟩
  simp [Builtin.clear_, run_underlying Try.underlying22, hv, hzc, hst]
/-- The first ones of a row, with all its room. -/
theorem rowFront {α : Type} {E : El α} {w : World} {g o c : Nat} {l : List α} (h : E.Row w (.slice (some ⟨g, o, none⟩) l.length c) l) (k : Nat) (hk : k ≤ l.length) : E.Row w (.slice (some ⟨g, o, none⟩) k c) (l.take k) := by
  have hlen : (l.take k).length = k := by simp; omega
  rcases h with ⟨e, _⟩ | ⟨g', o', cap, e, hl, hm, hg, hc, ht⟩
  · cases e
  · simp only [Value.slice.injEq, Option.some.injEq, Addr.mk.injEq] at e
    obtain ⟨⟨rfl, rfl, _⟩, _, rfl⟩ := e
    refine .inr ⟨g, o, c, by rw [hlen], by rw [hlen]; omega, hm, hg, fun j u hu => ?_, ht⟩
    rw [El.cs_take, List.getElem?_take] at hu
    split at hu
    · exact hc j u hu
    · cases hu
theorem rowCells {α : Type} {E : El α} {w : World} {g o c : Nat} {l : List α} (h : E.Row w (.slice (some ⟨g, o, none⟩) l.length c) l) : l.length ≤ c ∧ c ≤ maxLen ∧ g < w.heap.size ∧ ∀ j, j < c * E.n → (w.cell? ⟨g, o + j, none⟩).isSome = true ∧ w.frozen? ⟨g, o + j, none⟩ = false := by
  rcases h with ⟨e, _⟩ | ⟨g', o', cap, e, hl, hm, hg, hc, ht⟩
  · cases e
  · simp only [Value.slice.injEq, Option.some.injEq, Addr.mk.injEq] at e
    obtain ⟨⟨rfl, rfl, _⟩, _, rfl⟩ := e
    exact ⟨hl, hm, hg, ht⟩
theorem chgF_all {m : Int} {l : List Vn} (h : ∀ x ∈ l, behS m x = true) : chgF m l = l := List.filter_eq_self.2 h
theorem chgF_snoc (m : Int) (l : List Vn) (x : Vn) : chgF m (l ++ [x]) = if behS m x = true then chgF m l ++ [x] else chgF m l := by
  unfold chgF
  rw [List.filter_append]
  by_cases h : behS m x = true <;> simp [h]
def DelP (g o c : Nat) (m : Int) (l : List Vn) (w : World) (e : Ending) (w' : World) : Prop := e = .returned (.slice (some ⟨g, o, none⟩) (chgF m l).length c) ∧ VnE.Row w' (.slice (some ⟨g, o, none⟩) (chgF m l).length c) (chgF m l) ∧ Kp [g] w w'
set_option maxHeartbeats 16000000 in
set_option maxRecDepth 100000 in
theorem cDelF (g o c q : Nat) (m : Int) (l : List Vn) (w : World) (hr : VnE.Row w (.slice (some ⟨g, o, none⟩) l.length c) l) (hq : w.cell? ⟨q, 0, none⟩ = some (.int .u64 m)) (hqg : q ≠ g) (hf : l.length ≤ 4000000000000) :
    Calls Try.prog 26 #[.slice (some ⟨g, o, none⟩) l.length c, .func (.func 27) #[] #[.pointer (some ⟨q, 0, none⟩)]] w (DelP g o c m l w) := by
  obtain ⟨hlc, hcm, _, _⟩ := rowCells hr
  obtain ⟨_, _, ev, hsee, _⟩ := hr.see
  cases ev
  have cI := cIndexF (some ⟨g, o, none⟩) c q m l w hsee hq hf
  have hr' := hid hr
  have hq' := hid hq
  unfold maxLen at hcm
  clear hr hsee hq
  go_enter Try.func26, Try.ntmps26
  go_wp2_with fail
  refine cI.mono ?_
  rintro e w2 ⟨r, rfl, hI, k2⟩
  clear cI
  rcases hI with ⟨rfl, hall⟩ | ⟨i, x0, rfl, hx0, hx1, hst⟩
  · have hH : Hid (DelP g o c m l w (.returned (.slice (some ⟨g, o, none⟩) l.length c)) w2) := by
      show DelP _ _ _ _ _ _ _ _
      unfold DelP
      rw [chgF_all hall]
      exact ⟨rfl, hr'.out.keptNew k2, k2.mono (by simp)⟩
    clear hall
    go_wp2_with fail
    go_ret
    exact hH.out
  · have hil : i < l.length := (List.getElem?_eq_some_iff.1 hx0).1
    have t1 : ((i : Int) == -1) = false := beq_eq_false_iff_ne.2 (by omega)
    have hP0 : Hid (chgF m (l.take (i + 1)) = l.take i) := by
      show _ = _
      have e1 : l.take (i + 1) = l.take i ++ [x0] := by
        rw [List.take_succ_eq_append_getElem hil]
        obtain ⟨_, rfl⟩ := List.getElem?_eq_some_iff.1 hx0
        rfl
      rw [e1, chgF_snoc, if_neg (by rw [hx1]; simp), chgF_all hst]
    have hlti : Hid ((l.take i).length = i) := by show _ = _; rw [List.length_take]; omega
    have hr2 := hid (hr'.out.keptNew k2)
    have hq2 := hid (kpAt k2 hq'.out)
    clear hx0 hx1 hst hr' hq'
    go_wp2_with fail
    go_loopw [5, 6, 7] (fun s5 s6 s7 wn => ∃ (kk j : Nat), s5 = .int .i64 kk ∧ s6 = .int .i64 j ∧ j ≤ l.length ∧ kk < j ∧ Hid ((chgF m (l.take j)).length = kk) ∧ VnE.Row wn (.slice (some ⟨g, o, none⟩) l.length c) (chgF m (l.take j) ++ l.drop kk) ∧ Kp [g] w2 wn) (fun _ s6 _ _ => l.length - (intOf s6).toNat)
    case atStart => exact ⟨i, i + 1, rfl, by go_num, by omega, by omega, by show _ = _; rw [hP0.out, hlti.out], by rw [hP0.out, List.take_append_drop]; exact hr2.out, Kp.refl _ _⟩
    case round =>
      clear hr2 hP0 hlti
      obtain ⟨kk, j, rfl, rfl, hj, hkk, hpl, hrow, kn⟩ := hrel
      have hLl : (chgF m (l.take j) ++ l.drop kk).length = l.length := by rw [List.length_append, hpl.out]; simp; omega
      have hLl' := hid hLl
      have hrow2 : VnE.Row wr (.slice (some ⟨g, o, none⟩) (chgF m (l.take j) ++ l.drop kk).length c) (chgF m (l.take j) ++ l.drop kk) := by rw [hLl]; exact hrow
      clear hLl
      by_cases hjl : j < l.length
      · have hx : l[j]? = some l[j] := by simp [hjl]
        have hxx : (chgF m (l.take j) ++ l.drop kk)[j]? = some l[j] := by
          rw [List.getElem?_append_right (by rw [hpl.out]; omega), hpl.out, List.getElem?_drop, show kk + (j - kk) = j by omega]
          exact hx
        obtain ⟨_, _, ev, hsee, _⟩ := hrow2.see
        simp only [Value.slice.injEq] at ev
        obtain ⟨rfl, _, rfl⟩ := ev
        obtain ⟨g', o', ea, c0, c1, c2, c3⟩ := idAt hsee hxx
        simp only [Option.some.injEq, Addr.mk.injEq] at ea
        obtain ⟨rfl, rfl, _⟩ := ea
        have htk : Hid (l.take (j + 1) = l.take j ++ [l[j]]) := by show _ = _; rw [List.take_succ_eq_append_getElem hjl]
        generalize l[j] = x at *
        obtain ⟨wb, hwb⟩ : ∃ wb, wr.alloc (.cells #[.int .u64 x.ep, .int .u32 x.num, .slice x.a x.row.length x.c, .int .u64 x.del] 34) = wb := ⟨_, rfl⟩
        have kb : Kp [] wr wb := by rw [← hwb]; exact (Kp.refl _ _).alloc _
        have bb : Bx wb wr.heap.size (VnE.c x) := by rw [← hwb]; exact Bx.new wr (VnE.c x) _
        have hzb : wr.heap.size < wb.heap.size := by rw [← hwb]; simp
        have hqr : wr.cell? ⟨q, 0, none⟩ = some (.int .u64 m) := (kn.cell (p := ⟨q, 0, none⟩) (World.block_lt_of_cell? _ _ hq2.out) (by simpa using hqg)).trans hq2.out
        have cG := cGone1 q m x wb (kpAt kb hqr)
        obtain ⟨B, hB⟩ : ∃ B, Hid (behS m x = B) := ⟨_, rfl⟩
        rw [hB.out] at cG
        have i1 : (0 : Int) ≤ (j : Int) := by omega
        have i2 : (j : Int) < (l.length : Int) := by omega
        have i3 : (0 : Int) ≤ (kk : Int) := by omega
        have i4 : (kk : Int) < (l.length : Int) := by omega
        have b0 := bb.get 0 _ rfl; have b1 := bb.get 1 _ rfl; have b2 := bb.get 2 _ rfl; have b3 := bb.get 3 _ rfl
        have hrow' := hid hrow2
        obtain ⟨ep, num, xa, xc, row, del⟩ := x
        dsimp only at c0 c1 c2 c3 cG b0 b1 b2 b3 hwb
        clear hx hxx hsee hrow hrow2
        go_wp2_with fail
        refine cG.mono ?_
        rintro e w4 ⟨rfl, k4⟩
        have kbr := kb.trans k4 (by simp)
        have kw4 := kn.trans kbr (by simp)
        clear cG
        cases B with
        | true =>
          have b4 := bb.kept k4 hzb
          have d0 := b4.get 0 _ rfl; have d1 := b4.get 1 _ rfl; have d2 := b4.get 2 _ rfl; have d3 := b4.get 3 _ rfl
          have hr4 := hrow'.out.keptNew kbr
          obtain ⟨hput, kput, hs, hfz⟩ := hr4.put kk (by rw [hLl'.out]; omega) [⟨ep, num, xa, xc, row, del⟩] (by simp; omega)
          have hl2 : (chgF m (l.take j) ++ l.drop kk).take kk ++ [⟨ep, num, xa, xc, row, del⟩] ++ (chgF m (l.take j) ++ l.drop kk).drop (kk + [(⟨ep, num, xa, xc, row, del⟩ : Vn)].length) = chgF m (l.take (j + 1)) ++ l.drop (kk + 1) := by
            have e1 : (chgF m (l.take j) ++ l.drop kk).take kk = chgF m (l.take j) := by
              have := List.take_left (l₁ := chgF m (l.take j)) (l₂ := l.drop kk)
              rwa [hpl.out] at this
            have e2 : (chgF m (l.take j) ++ l.drop kk).drop (kk + 1) = l.drop (kk + 1) := by
              rw [List.drop_append, List.drop_of_length_le (by rw [hpl.out]; omega), List.nil_append, hpl.out, List.drop_drop]
              congr 1
              omega
            rw [e1, show kk + [(⟨ep, num, xa, xc, row, del⟩ : Vn)].length = kk + 1 from rfl, e2, htk.out, chgF_snoc, if_pos hB.out]
          have hlen2 : (chgF m (l.take (j + 1)) ++ l.drop (kk + 1)).length = l.length := by
            rw [htk.out, chgF_snoc, if_pos hB.out, List.length_append, List.length_append, hpl.out]; simp; omega
          rw [hl2, hlen2] at hput
          have f0 := hfz 0 (by simp [El.cs, VnE]); have f1 := hfz 1 (by simp [El.cs, VnE]); have f2 := hfz 2 (by simp [El.cs, VnE]); have f3 := hfz 3 (by simp [El.cs, VnE])
          obtain ⟨u0, v0⟩ := Option.isSome_iff_exists.1 (hs 0 (by simp [El.cs, VnE]))
          obtain ⟨u1, v1⟩ := Option.isSome_iff_exists.1 (hs 1 (by simp [El.cs, VnE]))
          obtain ⟨u2, v2⟩ := Option.isSome_iff_exists.1 (hs 2 (by simp [El.cs, VnE]))
          obtain ⟨u3, v3⟩ := Option.isSome_iff_exists.1 (hs 3 (by simp [El.cs, VnE]))
          have e4 : VnE.n = 4 := rfl
          rw [e4] at f0 f1 f2 f3 v0 v1 v2 v3
          rw [Nat.add_zero] at f0 v0
          obtain ⟨w5, hw5⟩ : ∃ w5, (((w4.setCell ⟨g, o + kk * 4, none⟩ (.int .u64 ep)).setCell ⟨g, o + kk * 4 + 1, none⟩ (.int .u32 num)).setCell ⟨g, o + kk * 4 + 2, none⟩ (.slice xa row.length xc)).setCell ⟨g, o + kk * 4 + 3, none⟩ (.int .u64 del) = w5 := ⟨_, rfl⟩
          have hput5 : VnE.Row w5 (.slice (some ⟨g, o, none⟩) l.length c) (chgF m (l.take (j + 1)) ++ l.drop (kk + 1)) := by rw [← hw5]; exact hput
          have k5 : Kp [g] w2 w5 := by rw [← hw5]; exact kw4.trans kput (fun _ h => .inl h)
          have hpl2 : Hid ((chgF m (l.take (j + 1))).length = kk + 1) := by show _ = _; rw [htk.out, chgF_snoc, if_pos hB.out, List.length_append, hpl.out]; rfl
          have H := hid (And.intro hput5 k5)
          clear hr4 hput kput hs hfz hl2 hlen2 hput5 k5 b4 bb hrow' k4 kb kbr kw4 c0 c1 c2 c3 b0 b1 b2 b3 hwb
          go_wp2_with fail
          exact ⟨⟨kk + 1, j + 1, by go_num, by go_num, by omega, by omega, hpl2, H.out.1, H.out.2⟩, by simp [intOf]; omega⟩
        | false =>
          have hpl2 : Hid (chgF m (l.take (j + 1)) = chgF m (l.take j)) := by show _ = _; rw [htk.out, chgF_snoc, if_neg (by rw [hB.out]; simp)]
          have hr4 : VnE.Row w4 (.slice (some ⟨g, o, none⟩) l.length c) (chgF m (l.take j) ++ l.drop kk) := by have := hrow'.out.keptNew kbr; rwa [hLl'.out] at this
          have H := hid (And.intro hr4 kw4)
          clear hr4 bb hrow' k4 kb kbr kw4 c0 c1 c2 c3 b0 b1 b2 b3 hwb
          go_wp2_with fail
          exact ⟨⟨kk, j + 1, rfl, by go_num, by omega, by omega, by show _ = _; rw [hpl2.out, hpl.out], by rw [hpl2.out]; exact H.out.1, H.out.2⟩, by simp [intOf]; omega⟩
      · have e : j = l.length := by omega
        subst e
        have hF : Hid (chgF m (l.take l.length) = chgF m l) := by show _ = _; rw [List.take_length]
        rw [hF.out] at hrow2 hpl hLl'
        obtain ⟨hl9, hm9, hg9, ht9⟩ := rowCells hrow2
        rw [hLl'.out] at hl9
        have hcc : ∀ z, z < (l.length - kk) * 4 → (wr.cell? ⟨g, o + kk * 4 + z, none⟩).isSome = true ∧ wr.frozen? ⟨g, o + kk * 4 + z, none⟩ = false := fun z hz => by
          rw [Nat.add_assoc]
          refine ht9 _ ?_
          show _ < c * 4
          omega
        have hcl := run_clearN wr g (o + kk * 4) (l.length - kk) (c - kk) (by omega) hcc
        obtain ⟨hput, kput, _, _⟩ := hrow2.put kk (by rw [hLl'.out]; omega) (List.replicate (l.length - kk) default) (by simp; omega)
        have hlz : ((chgF m l ++ l.drop kk).take kk ++ List.replicate (l.length - kk) default ++ (chgF m l ++ l.drop kk).drop (kk + (List.replicate (l.length - kk) (default : Vn)).length)).take kk = chgF m l := by
          have e1 : (chgF m l ++ l.drop kk).take kk = chgF m l := by
            have := List.take_left (l₁ := chgF m l) (l₂ := l.drop kk)
            rwa [hpl.out] at this
          rw [e1, List.append_assoc, List.take_append_of_le_length (by rw [hpl.out]; omega), ← hpl.out, List.take_length]
        have hfr := rowFront hput kk (by simp only [List.length_append, List.length_replicate, List.length_take, List.length_drop]; rw [hpl.out]; omega)
        rw [hlz] at hfr
        have hH : Hid (DelP g o c m l w (.returned (.slice (some ⟨g, o, none⟩) kk c)) (wr.setCells g (o + kk * 4) (VnE.cs (List.replicate (l.length - kk) default)))) := by
          show DelP _ _ _ _ _ _ _ _
          unfold DelP
          rw [hpl.out]
          exact ⟨rfl, hfr, ((k2.mono (by simp)).trans kn (fun _ h => .inl h)).trans kput (fun _ h => .inl h)⟩
        have n2 : (kk : Int) ≤ (l.length : Int) := by omega
        have n3 : (kk : Int) ≤ (c : Int) := by omega
        have n4 : kk < l.length := by omega
        have n5 : kk < c := by omega
        clear hput kput hfr hlz hrow hrow2 hpl hLl' ht9 hcc hF hm9
        go_wp2_with fail
        go_ret
        exact hH.out
set_option maxHeartbeats 8000000 in
set_option maxRecDepth 100000 in
theorem cDelNil (c q : Nat) (m : Int) (w : World) (hq : w.cell? ⟨q, 0, none⟩ = some (.int .u64 m)) :
    Calls Try.prog 26 #[.slice none 0 0, .func (.func 27) #[] #[.pointer (some ⟨q, 0, none⟩)]] w fun e w' => e = .returned (.slice none 0 0) ∧ Kp [] w w' := by
  have cI := cIndexF none 0 q m [] w (.inl rfl) hq (by simp)
  simp only [List.length_nil] at cI
  clear hq
  go_enter Try.func26, Try.ntmps26
  go_wp2_with fail
  refine cI.mono ?_
  rintro e w2 ⟨r, rfl, hI, k2⟩
  clear cI
  rcases hI with ⟨rfl, hall⟩ | ⟨i, x0, rfl, hx0, hx1, hst⟩
  · clear hall
    go_wp2_with fail
    go_ret
    exact ⟨rfl, k2⟩
  · simp at hx0
end Go.Proofs.Ytebkkdoggagcdaa
end

section
namespace Go.Proofs.Ytebkkdoggagcdaa
open Go.RowKit Go.Hay
attribute [local go_sem] Oper.semAt_some
set_option linter.unusedVariables false
set_option linter.unusedSimpArgs false

theorem i64wR (x : Int) (h0 : -9223372036854775808 ≤ x) (h1 : x ≤ 9223372036854775807) : IntKind.i64.wrap x = x := by
  rw [IntKind.wrap_i64]
  omega
def Vr.of (x : Vn) : Vr := ⟨x.ep, x.num, x.a, x.c, x.row, x.del⟩
theorem cs_of : ∀ (l : List Vn), VrE.cs (l.map Vr.of) = VnE.cs l
  | [] => rfl
  | x :: l => by
    have := cs_of l
    simp only [El.cs, List.map_cons, List.flatMap_cons] at this ⊢
    rw [this]
    rfl
theorem rowVr {w : World} {v : Value} {l : List Vn} : VrE.Row w v (l.map Vr.of) ↔ VnE.Row w v l := by
  unfold El.Row
  rw [cs_of, List.length_map, List.map_eq_nil_iff]
  exact Iff.rfl
theorem arr_of (l : List Vn) (s : Nat → Nat) : arr (fun k => Vr.of (l.getD k default)) s l.length = (arrN l s).map Vr.of := by
  unfold arr arrN
  rw [List.map_map]
  rfl
theorem cSortN (g o cap : Nat) (l : List Vn) (q4 q5 : Nat) (w : World) (hr : VnE.Row w (.slice (some ⟨g, o, none⟩) l.length cap) l) (hb : BxK q4 q5 w) (h4 : q4 ≠ g) (h5 : q5 ≠ g) (hn : l.length ≤ 4000000000000) :
    Calls Try.prog 41 #[.slice (some ⟨g, o, none⟩) l.length cap, .func (.func 39) #[] #[.pointer (some ⟨q5, 0, none⟩), .pointer (some ⟨q4, 0, none⟩)]] w fun e w' => (∃ v, e = .returned v) ∧ ∃ s, PermIn 0 l.length s ∧ Stb (ltN l) s 0 l.length ∧ VnE.Row w' (.slice (some ⟨g, o, none⟩) l.length cap) (arrN l s) ∧ Kp [g] w w' := by
  have hC : CmpOk g l.length (fun k => Vr.of (l.getD k default)) (.pointer (some ⟨q5, 0, none⟩)) (.pointer (some ⟨q4, 0, none⟩)) (fun x y => nmI (l.getD x default).id (l.getD y default).id) (BxK q4 q5) := ⟨fun W x y hI _ _ => cByKey q4 q5 _ _ W hI, fun W W' hI k => hI.kept k (by simpa using h4) (by simpa using h5), ltN_swo l⟩
  have hd : Hd w g o l.length cap (fun k => Vr.of (l.getD k default)) (fun k => k) := by
    unfold Hd
    rw [arr_of, arrN_id, rowVr]
    exact hr
  refine (cSortStable g o l.length cap _ _ _ _ _ hC hn (rowCells hr).1 w hd hb).mono ?_
  rintro e w' ⟨hv, s, hp, hs, hd', k⟩
  refine ⟨hv, s, hp, hs, ?_, k⟩
  unfold Hd at hd'
  rw [arr_of] at hd'
  exact rowVr.1 hd'
set_option maxHeartbeats 8000000 in
set_option maxRecDepth 100000 in
theorem cInsert1R (a : Option Addr) (n c : Nat) (f : Value) (w : World) (hn : n ≤ 1) : Calls Try.prog 50 #[.slice a n c, .int .i64 0, .int .i64 (n : Int), f] w fun e w' => (∃ v, e = .returned v) ∧ w' = w := by
  have d1 : decide ((1 : Int) < (n : Int)) = false := by simp; omega
  have d3 : decide (1 < n) = false := by simp; omega
  have d2 : ¬ (1 : Int) < (n : Int) := by omega
  go_enter Try.func50, Try.ntmps50
  go_wp2_with fail
  go_loopw [8] (fun i wr => i = .int .i64 1 ∧ wr = w) (fun _ _ => 0)
  case atStart => exact ⟨rfl, rfl⟩
  case round =>
    obtain ⟨rfl, rfl⟩ := hrel
    go_wp2_with fail
    go_end0
    exact ⟨⟨_, rfl⟩, rfl⟩
set_option maxHeartbeats 8000000 in
set_option maxRecDepth 100000 in
theorem cStable1R (a : Option Addr) (n c : Nat) (f : Value) (w : World) (hn : n ≤ 1) : Calls Try.prog 47 #[.slice a n c, .int .i64 (n : Int), f] w fun e w' => (∃ v, e = .returned v) ∧ w' = w := by
  have d1 : decide ((20 : Int) ≤ (n : Int)) = false := by simp; omega
  have d2 : decide ((20 : Int) < (n : Int)) = false := by simp; omega
  have d3 : ¬ (20 : Int) ≤ (n : Int) := by omega
  have d4 : ¬ (20 : Int) < (n : Int) := by omega
  have d5 : decide (20 ≤ n) = false := by simp; omega
  have d6 : decide (20 < n) = false := by simp; omega
  have cI := hid (cInsert1R a n c f w hn)
  go_enter Try.func47, Try.ntmps47
  go_wp2_with fail
  go_loopw [7, 8] (fun v7 v8 wr => v7 = .int .i64 0 ∧ v8 = .int .i64 20 ∧ wr = w) (fun _ _ _ => 0)
  case atStart => exact ⟨rfl, rfl, rfl⟩
  case round =>
    obtain ⟨rfl, rfl, rfl⟩ := hrel
    go_wp2_with fail
    refine cI.out.mono ?_
    rintro e w2 ⟨⟨v, rfl⟩, rfl⟩
    clear cI
    go_wp2_with fail
    go_loopw [6] (fun v6 wr2 => v6 = .int .i64 20 ∧ wr2 = w2) (fun _ _ => 0)
    case atStart => exact ⟨rfl, rfl⟩
    case round =>
      obtain ⟨rfl, rfl⟩ := hrel
      go_wp2_with fail
      go_end0
      exact ⟨⟨_, rfl⟩, rfl⟩
set_option maxHeartbeats 8000000 in
set_option maxRecDepth 100000 in
theorem cSortSt1R (a : Option Addr) (n c : Nat) (f : Value) (w : World) (hn : n ≤ 1) : Calls Try.prog 41 #[.slice a n c, f] w fun e w' => (∃ v, e = .returned v) ∧ w' = w := by
  have cI := hid (cStable1R a n c f w hn)
  go_enter Try.func41, Try.ntmps41
  go_wp2_with fail
  refine cI.out.mono ?_
  rintro e w2 ⟨⟨v, rfl⟩, rfl⟩
  clear cI
  go_wp2_with fail
  go_end0
  exact ⟨⟨_, rfl⟩, rfl⟩
/-- The functions that inOrder hands on, as they lie. -/
structure BxC (q4 q5 q7 g : Nat) (W : World) : Prop where
  b : BxK q4 q5 W
  eq : W.cell? ⟨q7, 0, none⟩ = some (.func (.func 39) #[] #[.pointer (some ⟨q5, 0, none⟩), .pointer (some ⟨q4, 0, none⟩)])
theorem BxC.kept {S : List Nat} {q4 q5 q7 g : Nat} {W W' : World} (h : BxC q4 q5 q7 g W) (k : Kp S W W') (h4 : q4 ∉ S) (h5 : q5 ∉ S) (h7 : q7 ∉ S) : BxC q4 q5 q7 g W' := ⟨h.b.kept k h4 h5, (k.cell (p := ⟨q7, 0, none⟩) (World.block_lt_of_cell? _ _ h.eq) h7).trans h.eq⟩
theorem rowLen {w : World} {g o n c : Nat} {l : List Vn} (h : VnE.Row w (.slice (some ⟨g, o, none⟩) n c) l) (hn : l.length = n) : VnE.See w (some ⟨g, o, none⟩) l := by
  subst hn
  obtain ⟨_, _, e, hs, _⟩ := h.see
  cases e
  exact hs
theorem idAt2 {w : World} {g o : Nat} {l : List Vn} (h : VnE.See w (some ⟨g, o, none⟩) l) {i : Nat} (hi : i < l.length) {x : Vn} (hx : l.getD i default = x) : w.cell? ⟨g, o + i * 4, none⟩ = some (.int .u64 x.ep) ∧ w.cell? ⟨g, o + i * 4 + 1, none⟩ = some (.int .u32 x.num) ∧ w.cell? ⟨g, o + i * 4 + 2, none⟩ = some (.slice x.a x.row.length x.c) ∧ w.cell? ⟨g, o + i * 4 + 3, none⟩ = some (.int .u64 x.del) := by
  have hx' : l[i]? = some x := by rw [← hx]; simp [hi]
  obtain ⟨g', o', e, c⟩ := idAt h hx'
  simp only [Option.some.injEq, Addr.mk.injEq] at e
  obtain ⟨rfl, rfl, _⟩ := e
  exact c
set_option maxHeartbeats 32000000 in
set_option maxRecDepth 100000 in
theorem cCompactN (g o c : Nat) (l : List Vn) (q4 q5 q7 : Nat) (w : World) (hs : VnE.Row w (.slice (some ⟨g, o, none⟩) l.length c) l) (hb : BxC q4 q5 q7 g w) (n4 : q4 ≠ g) (n5 : q5 ≠ g) (n7 : q7 ≠ g) (hl : l.length ≤ 4000000000000) :
    Calls Try.prog 42 #[.slice (some ⟨g, o, none⟩) l.length c, .func (.func 43) #[] #[.pointer (some ⟨q7, 0, none⟩)]] w fun e w' => e = .returned (.slice (some ⟨g, o, none⟩) (cpt l).length c) ∧ VnE.Row w' (.slice (some ⟨g, o, none⟩) (cpt l).length c) (cpt l) ∧ Kp [g] w w' := by
  obtain ⟨hc, hm, _, _⟩ := rowCells hs
  unfold maxLen at hm
  have hF : Hid (cpt l = cptTo l l.length) := hid rfl
  by_cases h2 : l.length < 2
  · have e : Hid (cpt l = l) := hid (by
      match l, h2 with
      | [], _ => rfl
      | [x], _ => rfl)
    rw [e.out]
    have hs' := hid hs
    clear hF hs hb
    go_enter Try.func42, Try.ntmps42
    go_wp2_with fail
    go_ret
    exact ⟨rfl, hs'.out, Kp.refl _ _⟩
  · have h1e : Hid (cptTo l 1 = l.take 1) := hid (by
      rw [cptTo_new l 0 (.inl rfl)]
      have := take_getD l 0 (by omega)
      simpa [cptTo] using this)
    obtain ⟨F, hFF⟩ : ∃ F, Hid (cpt l = F) := ⟨_, hid rfl⟩
    rw [hFF.out] at hF ⊢
    have hs' := hid hs
    have HB := hid hb
    have NN := hid (And.intro n4 (And.intro n5 n7))
    clear hs hb n4 n5 n7
    go_enter Try.func42, Try.ntmps42
    go_wp2_with fail
    go_loopw [5] (fun i wn => ∃ k : Nat, 1 ≤ k ∧ k ≤ l.length ∧ i = .int .i64 k ∧ Hid (cptTo l k = l.take k) ∧ Hid (Kp [] w wn)) (fun i _ => l.length - (intOf i).toNat)
    case atStart => exact ⟨1, Nat.le_refl _, by omega, rfl, h1e, hid (Kp.refl _ _)⟩
    case round =>
      clear h1e
      obtain ⟨k, hk1, hkl, rfl, htk, kn⟩ := hrel
      by_cases hlt : k < l.length
      · obtain ⟨j, hj⟩ : ∃ j, k = j + 1 := ⟨k - 1, by omega⟩
        have hrow := hid (hs'.out.keptNew kn.out)
        have hjk : k - 1 = j := by omega
        have hsame := hid (cptTo_same l k (by omega))
        have hnew := hid (cptTo_new l k)
        rw [hjk] at hsame hnew
        have htg := hid (take_getD l k hlt)
        obtain ⟨x, hx⟩ : ∃ x, Hid (l.getD k default = x) := ⟨_, hid rfl⟩
        obtain ⟨y, hy⟩ : ∃ y, Hid (l.getD j default = y) := ⟨_, hid rfl⟩
        have hSee : Hid (∀ W', Kp [] wr W' → VnE.See W' (some ⟨g, o, none⟩) l) := hid fun W' k' => rowLen (hrow.out.keptNew k') rfl
        have hFx : Hid (∀ W', Kp [] wr W' → _ ∧ _) := hid fun W' k' => And.intro (idAt2 (hSee.out W' k') hlt hx.out) (idAt2 (hSee.out W' k') (show j < l.length by omega) hy.out)
        rw [hx.out, hy.out] at hsame hnew
        rw [hx.out] at htg
        have cE := hid (fun W (k' : Kp [] wr W) => cEqK q4 q5 q7 x y W (HB.out.kept (kn.out.trans k' (by simp)) (by simp) (by simp) (by simp)).b (HB.out.kept (g := g) (kn.out.trans k' (by simp)) (by simp) (by simp) (by simp)).eq)
        obtain ⟨X, HX⟩ : ∃ X, Hid (decide (x.id = y.id) = X) := ⟨_, hid rfl⟩
        simp only [HX.out] at cE
        obtain ⟨xe, xn, xa, xc, xr, xd⟩ := x
        obtain ⟨ye, yn, ya, yc, yr, yd⟩ := y
        dsimp only at cE hFx
        have hG : Hid (∀ W', Kp [] wr W' → W'.cell? ⟨g, o + k * 4, none⟩ = some (.int .u64 xe) ∧ W'.cell? ⟨g, o + k * 4 + 1, none⟩ = some (.int .u32 xn) ∧ W'.cell? ⟨g, o + k * 4 + 2, none⟩ = some (.slice xa xr.length xc) ∧ W'.cell? ⟨g, o + k * 4 + 3, none⟩ = some (.int .u64 xd) ∧ W'.cell? ⟨g, o + j * 4, none⟩ = some (.int .u64 ye) ∧ W'.cell? ⟨g, o + j * 4 + 1, none⟩ = some (.int .u32 yn) ∧ W'.cell? ⟨g, o + j * 4 + 2, none⟩ = some (.slice ya yr.length yc) ∧ W'.cell? ⟨g, o + j * 4 + 3, none⟩ = some (.int .u64 yd)) := hid fun W' k' => by
          obtain ⟨⟨h0, h1, h2, h3⟩, h4, h5, h6, h7⟩ := hFx.out W' k'
          exact ⟨h0, h1, h2, h3, h4, h5, h6, h7⟩
        have i1 : (k : Int) < (l.length : Int) := by omega
        have i2 : (j : Int) < (l.length : Int) := by omega
        have i3 : (0 : Int) ≤ (j : Int) := by omega
        have i4 : (0 : Int) ≤ (k : Int) := by omega
        have ek : (k : Int) - 1 = (j : Int) := by omega
        have wk : IntKind.i64.wrap ((k : Int) - 1) = (j : Int) := by rw [ek]; exact i64wR _ (by omega) (by omega)
        have hkj := hid hj
        clear hj hjk hFx ek
        go_wp2_with fail
        refine wp_region_held_drew (S := fun W' => W'.cell? ⟨g, o + k * 4, none⟩ = some (.int .u64 xe) ∧ W'.cell? ⟨g, o + k * 4 + 1, none⟩ = some (.int .u32 xn) ∧ W'.cell? ⟨g, o + k * 4 + 2, none⟩ = some (.slice xa xr.length xc) ∧ W'.cell? ⟨g, o + k * 4 + 3, none⟩ = some (.int .u64 xd) ∧ W'.cell? ⟨g, o + j * 4, none⟩ = some (.int .u64 ye) ∧ W'.cell? ⟨g, o + j * 4 + 1, none⟩ = some (.int .u32 yn) ∧ W'.cell? ⟨g, o + j * 4 + 2, none⟩ = some (.slice ya yr.length yc) ∧ W'.cell? ⟨g, o + j * 4 + 3, none⟩ = some (.int .u64 yd)) (by kernel_rfl) ?_ (fun hHeld => ?_)
        · exact hG.out _ (Kp.refl [] wr).drew
        have KD : Hid (Kp [] wr wr.drew) := hid (Kp.refl [] wr).drew
        generalize wr.drew = Wd at *
        refine wpAnyH_take (i := 0) (v := ?_) rfl (by kernel_rfl) (by kernel_rfl) (by kernel_rfl) (fun _ _ _ h => h) (Or.inl ⟨by rfl, ?_⟩) (by assumption) ?_
        rotate_left
        · intro w hSw; (try dsimp only at hSw); go_simp <;> with_reducible rfl
        try simp only [Act.put, List.getElem_toArray, List.getElem_cons_zero, List.getElem_cons_succ, List.setIfInBounds_toArray, List.set_cons_zero, List.set_cons_succ]
        refine wpAnyH_take (i := 1) (v := ?_) rfl (by kernel_rfl) (by kernel_rfl) (by kernel_rfl) (fun _ _ _ h => h) (Or.inl ⟨by rfl, ?_⟩) (by assumption) ?_
        rotate_left
        · intro w hSw; (try dsimp only at hSw); go_simp <;> with_reducible rfl
        try simp only [Act.put, List.getElem_toArray, List.getElem_cons_zero, List.getElem_cons_succ, List.setIfInBounds_toArray, List.set_cons_zero, List.set_cons_succ]
        refine wpAnyH_take (i := 2) (v := ?_) rfl (by kernel_rfl) (by kernel_rfl) (by kernel_rfl) (fun _ _ _ h => h) (Or.inl ⟨by rfl, ?_⟩) (by assumption) ?_
        rotate_left
        · intro w hSw; (try dsimp only at hSw); go_simp <;> with_reducible rfl
        try simp only [Act.put, List.getElem_toArray, List.getElem_cons_zero, List.getElem_cons_succ, List.setIfInBounds_toArray, List.set_cons_zero, List.set_cons_succ]
        refine wpAnyH_take (i := 3) (v := ?_) rfl (by kernel_rfl) (by kernel_rfl) (by kernel_rfl) (fun _ _ _ h => h) (Or.inl ⟨by rfl, ?_⟩) (by assumption) ?_
        rotate_left
        · intro w hSw; (try dsimp only at hSw); go_simp <;> with_reducible rfl
        try simp only [Act.put, List.getElem_toArray, List.getElem_cons_zero, List.getElem_cons_succ, List.setIfInBounds_toArray, List.set_cons_zero, List.set_cons_succ]
        refine wpAnyH_take (i := 4) (v := ?_) rfl (by kernel_rfl) (by kernel_rfl) (by kernel_rfl) (fun _ _ _ h => h) (Or.inl ⟨by rfl, ?_⟩) (by assumption) ?_
        rotate_left
        · intro w hSw; (try dsimp only at hSw); go_simp <;> with_reducible rfl
        try simp only [Act.put, List.getElem_toArray, List.getElem_cons_zero, List.getElem_cons_succ, List.setIfInBounds_toArray, List.set_cons_zero, List.set_cons_succ]
        refine wpAnyH_take (i := 5) (v := ?_) rfl (by kernel_rfl) (by kernel_rfl) (by kernel_rfl) (fun _ _ _ h => h) (Or.inl ⟨by rfl, ?_⟩) (by assumption) ?_
        rotate_left
        · intro w hSw; (try dsimp only at hSw); go_simp <;> with_reducible rfl
        try simp only [Act.put, List.getElem_toArray, List.getElem_cons_zero, List.getElem_cons_succ, List.setIfInBounds_toArray, List.set_cons_zero, List.set_cons_succ]
        refine wpAnyH_take (i := 6) (v := ?_) rfl (by kernel_rfl) (by kernel_rfl) (by kernel_rfl) (fun _ _ _ h => h) (Or.inl ⟨by rfl, ?_⟩) (by assumption) ?_
        rotate_left
        · intro w hSw; (try dsimp only at hSw); go_simp <;> with_reducible rfl
        try simp only [Act.put, List.getElem_toArray, List.getElem_cons_zero, List.getElem_cons_succ, List.setIfInBounds_toArray, List.set_cons_zero, List.set_cons_succ]
        refine wpAnyH_take (i := 7) (v := ?_) rfl (by kernel_rfl) (by kernel_rfl) (by kernel_rfl) (fun _ _ _ h => h) (Or.inl ⟨by rfl, ?_⟩) (by assumption) ?_
        rotate_left
        · intro w hSw; (try dsimp only at hSw); go_simp <;> (try simp only [wk]) <;> with_reducible rfl
        try simp only [Act.put, List.getElem_toArray, List.getElem_cons_zero, List.getElem_cons_succ, List.setIfInBounds_toArray, List.set_cons_zero, List.set_cons_succ]
        try simp only [wk]
        refine wpAnyH_take (i := 8) (v := ?_) rfl (by kernel_rfl) (by kernel_rfl) (by kernel_rfl) (fun _ _ _ h => h) (Or.inl ⟨by rfl, ?_⟩) (by assumption) ?_
        rotate_left
        · intro w hSw; (try dsimp only at hSw); go_simp <;> with_reducible rfl
        try simp only [Act.put, List.getElem_toArray, List.getElem_cons_zero, List.getElem_cons_succ, List.setIfInBounds_toArray, List.set_cons_zero, List.set_cons_succ]
        refine wpAnyH_take (i := 9) (v := ?_) rfl (by kernel_rfl) (by kernel_rfl) (by kernel_rfl) (fun _ _ _ h => h) (Or.inl ⟨by rfl, ?_⟩) (by assumption) ?_
        rotate_left
        · intro w hSw; (try dsimp only at hSw); go_simp <;> with_reducible rfl
        try simp only [Act.put, List.getElem_toArray, List.getElem_cons_zero, List.getElem_cons_succ, List.setIfInBounds_toArray, List.set_cons_zero, List.set_cons_succ]
        refine wpAnyH_ready (rs := [10]) (by kernel_rfl) (by simp) ?_
        refine AllReadyH.cons rfl (fun K hK => ?_) AllReadyH.nil
        go_simp
        refine (cE.out _ (KD.out)).mono ?_
        rintro e w9 ⟨rfl, k9⟩
        have K9 := hid (KD.out.trans k9 (by simp))
        clear k9
        (try go_wp2_with fail)
        refine hK.out _ _ ?_ (fun hHeld => ?_)
        · exact hG.out _ K9.out
        clear hK K
        try simp only [Act.put, List.getElem_toArray, List.getElem_cons_zero, List.getElem_cons_succ, List.setIfInBounds_toArray, List.set_cons_zero, List.set_cons_succ]
        refine wpAnyH_done (by kernel_rfl) ?_ _
        have kq : Kp [] w w9 := kn.out.trans K9.out (by simp)
        have hrq := hid (hrow.out.keptNew K9.out)
        have KQ := hid kq
        clear hHeld hG hSee cE wk i3 i4 kq hrow
        cases X
        · have hst : Hid (cptTo l (k + 1) = l.take (k + 1)) := hid (by
            rw [hnew.out (.inr (by simpa using HX.out)), htk.out, htg.out])
          clear hsame hnew htg htk
          go_wp2_with fail
          exact ⟨⟨k + 1, by omega, by omega, by go_num, hst, KQ⟩, by simp [intOf]; omega⟩
        · have hst : Hid (cptTo l (k + 1) = l.take k) := hid (by
            rw [hsame.out (by simpa using HX.out), htk.out])
          clear hsame hnew htg htk HX
          go_wp2_with fail
          go_loopw [5, 7] (fun s5 s7 wn => ∃ (kk k2 : Nat), s5 = .int .i64 kk ∧ s7 = .int .i64 k2 ∧ 1 ≤ k2 ∧ k + k2 ≤ l.length ∧ kk < k + k2 ∧ Hid ((cptTo l (k + k2)).length = kk) ∧ Hid (VnE.Row wn (.slice (some ⟨g, o, none⟩) l.length c) (cptTo l (k + k2) ++ l.drop kk)) ∧ Hid (Kp [g] w wn)) (fun _ s7 _ => l.length - k - (intOf s7).toNat)
          case atStart => exact ⟨k, 1, rfl, rfl, Nat.le_refl _, by omega, by omega, hid (by rw [hst.out]; simp; omega), hid (by rw [hst.out, List.take_append_drop]; exact hrq.out), hid (KQ.out.mono (by simp))⟩
          case round =>
            clear hrq hst
            obtain ⟨kk, k2, rfl, rfl, h21, h2l, hkk, hpl, hrow, kn2⟩ := hrel
            have hLl : Hid ((cptTo l (k + k2) ++ l.drop kk).length = l.length) := hid (by rw [List.length_append, hpl.out]; simp; omega)
            have hbb := hid (HB.out.kept kn2.out (by simpa using NN.out.1) (by simpa using NN.out.2.1) (by simpa using NN.out.2.2))
            by_cases hlt2 : k + k2 < l.length
            · have hgd : Hid (∀ i, kk ≤ i → (cptTo l (k + k2) ++ l.drop kk).getD i default = l.getD i default) := hid fun i hi => by
                simp only [List.getD_eq_getElem?_getD]
                rw [List.getElem?_append_right (by rw [hpl.out]; exact hi), hpl.out, List.getElem?_drop]
                congr 2
                omega
              obtain ⟨j, hj⟩ : ∃ j, k2 = j + 1 := ⟨k2 - 1, by omega⟩
              have hjk : k + k2 - 1 = k + j := by omega
              have hsame := hid (cptTo_same l (k + k2) (by omega))
              have hnew := hid (cptTo_new l (k + k2))
              rw [hjk] at hsame hnew
              obtain ⟨x, hx⟩ : ∃ x, Hid (l.getD (k + k2) default = x) := ⟨_, hid rfl⟩
              obtain ⟨y, hy⟩ : ∃ y, Hid (l.getD (k + j) default = y) := ⟨_, hid rfl⟩
              have hFx : Hid (∀ W', Kp [] wr W' → _ ∧ _) := hid fun W' k' => And.intro (idAt2 (rowLen (hrow.out.keptNew k') hLl.out) (show k + k2 < _ by rw [hLl.out]; exact hlt2) ((hgd.out _ (by omega)).trans hx.out)) (idAt2 (rowLen (hrow.out.keptNew k') hLl.out) (show k + j < _ by rw [hLl.out]; omega) ((hgd.out _ (by omega)).trans hy.out))
              rw [hx.out, hy.out] at hsame hnew
              have cE := hid (fun W (k' : Kp [] wr W) => cEqK q4 q5 q7 x y W (hbb.out.kept k' (by simp) (by simp) (by simp)).b (hbb.out.kept (g := g) k' (by simp) (by simp) (by simp)).eq)
              obtain ⟨X, HX⟩ : ∃ X, Hid (decide (x.id = y.id) = X) := ⟨_, hid rfl⟩
              simp only [HX.out] at cE
              obtain ⟨xe, xn, xa, xc, xr, xd⟩ := x
              obtain ⟨ye, yn, ya, yc, yr, yd⟩ := y
              have e1 : o + (k + k2) * 4 = o + k * 4 + k2 * 4 := by omega
              have e2 : o + (k + j) * 4 = o + k * 4 + j * 4 := by omega
              rw [e1, e2] at hFx
              dsimp only at cE hFx
              have hG : Hid (∀ W', Kp [] wr W' → W'.cell? ⟨g, o + k * 4 + k2 * 4, none⟩ = some (.int .u64 xe) ∧ W'.cell? ⟨g, o + k * 4 + k2 * 4 + 1, none⟩ = some (.int .u32 xn) ∧ W'.cell? ⟨g, o + k * 4 + k2 * 4 + 2, none⟩ = some (.slice xa xr.length xc) ∧ W'.cell? ⟨g, o + k * 4 + k2 * 4 + 3, none⟩ = some (.int .u64 xd) ∧ W'.cell? ⟨g, o + k * 4 + j * 4, none⟩ = some (.int .u64 ye) ∧ W'.cell? ⟨g, o + k * 4 + j * 4 + 1, none⟩ = some (.int .u32 yn) ∧ W'.cell? ⟨g, o + k * 4 + j * 4 + 2, none⟩ = some (.slice ya yr.length yc) ∧ W'.cell? ⟨g, o + k * 4 + j * 4 + 3, none⟩ = some (.int .u64 yd)) := hid fun W' k' => by
                obtain ⟨⟨h0, h1, h2, h3⟩, h4, h5, h6, h7⟩ := hFx.out W' k'
                exact ⟨h0, h1, h2, h3, h4, h5, h6, h7⟩
              have i1 : (k2 : Int) < ((l.length - k : Nat) : Int) := by omega
              have i2 : (j : Int) < ((l.length - k : Nat) : Int) := by omega
              have i3 : (0 : Int) ≤ (j : Int) := by omega
              have i4 : (0 : Int) ≤ (k2 : Int) := by omega
              have j1 : k2 < l.length - k := by omega
              have ek : (k2 : Int) - 1 = (j : Int) := by omega
              have wk : IntKind.i64.wrap ((k2 : Int) - 1) = (j : Int) := by rw [ek]; exact i64wR _ (by omega) (by omega)
              clear hj hjk hFx ek e1 e2
              go_wp2_with fail
              refine wp_region_held_drew (S := fun W' => W'.cell? ⟨g, o + k * 4 + k2 * 4, none⟩ = some (.int .u64 xe) ∧ W'.cell? ⟨g, o + k * 4 + k2 * 4 + 1, none⟩ = some (.int .u32 xn) ∧ W'.cell? ⟨g, o + k * 4 + k2 * 4 + 2, none⟩ = some (.slice xa xr.length xc) ∧ W'.cell? ⟨g, o + k * 4 + k2 * 4 + 3, none⟩ = some (.int .u64 xd) ∧ W'.cell? ⟨g, o + k * 4 + j * 4, none⟩ = some (.int .u64 ye) ∧ W'.cell? ⟨g, o + k * 4 + j * 4 + 1, none⟩ = some (.int .u32 yn) ∧ W'.cell? ⟨g, o + k * 4 + j * 4 + 2, none⟩ = some (.slice ya yr.length yc) ∧ W'.cell? ⟨g, o + k * 4 + j * 4 + 3, none⟩ = some (.int .u64 yd)) (by kernel_rfl) ?_ (fun hHeld => ?_)
              · exact hG.out _ (Kp.refl [] wr).drew
              have KD : Hid (Kp [] wr wr.drew) := hid (Kp.refl [] wr).drew
              generalize wr.drew = Wd at *
              refine wpAnyH_take (i := 0) (v := ?_) rfl (by kernel_rfl) (by kernel_rfl) (by kernel_rfl) (fun _ _ _ h => h) (Or.inl ⟨by rfl, ?_⟩) (by assumption) ?_
              rotate_left
              · intro w hSw; (try dsimp only at hSw); go_simp <;> with_reducible rfl
              try simp only [Act.put, List.getElem_toArray, List.getElem_cons_zero, List.getElem_cons_succ, List.setIfInBounds_toArray, List.set_cons_zero, List.set_cons_succ]
              refine wpAnyH_take (i := 1) (v := ?_) rfl (by kernel_rfl) (by kernel_rfl) (by kernel_rfl) (fun _ _ _ h => h) (Or.inl ⟨by rfl, ?_⟩) (by assumption) ?_
              rotate_left
              · intro w hSw; (try dsimp only at hSw); go_simp <;> with_reducible rfl
              try simp only [Act.put, List.getElem_toArray, List.getElem_cons_zero, List.getElem_cons_succ, List.setIfInBounds_toArray, List.set_cons_zero, List.set_cons_succ]
              refine wpAnyH_take (i := 2) (v := ?_) rfl (by kernel_rfl) (by kernel_rfl) (by kernel_rfl) (fun _ _ _ h => h) (Or.inl ⟨by rfl, ?_⟩) (by assumption) ?_
              rotate_left
              · intro w hSw; (try dsimp only at hSw); go_simp <;> with_reducible rfl
              try simp only [Act.put, List.getElem_toArray, List.getElem_cons_zero, List.getElem_cons_succ, List.setIfInBounds_toArray, List.set_cons_zero, List.set_cons_succ]
              refine wpAnyH_take (i := 3) (v := ?_) rfl (by kernel_rfl) (by kernel_rfl) (by kernel_rfl) (fun _ _ _ h => h) (Or.inl ⟨by rfl, ?_⟩) (by assumption) ?_
              rotate_left
              · intro w hSw; (try dsimp only at hSw); go_simp <;> with_reducible rfl
              try simp only [Act.put, List.getElem_toArray, List.getElem_cons_zero, List.getElem_cons_succ, List.setIfInBounds_toArray, List.set_cons_zero, List.set_cons_succ]
              refine wpAnyH_take (i := 4) (v := ?_) rfl (by kernel_rfl) (by kernel_rfl) (by kernel_rfl) (fun _ _ _ h => h) (Or.inl ⟨by rfl, ?_⟩) (by assumption) ?_
              rotate_left
              · intro w hSw; (try dsimp only at hSw); go_simp <;> with_reducible rfl
              try simp only [Act.put, List.getElem_toArray, List.getElem_cons_zero, List.getElem_cons_succ, List.setIfInBounds_toArray, List.set_cons_zero, List.set_cons_succ]
              refine wpAnyH_take (i := 5) (v := ?_) rfl (by kernel_rfl) (by kernel_rfl) (by kernel_rfl) (fun _ _ _ h => h) (Or.inl ⟨by rfl, ?_⟩) (by assumption) ?_
              rotate_left
              · intro w hSw; (try dsimp only at hSw); go_simp <;> with_reducible rfl
              try simp only [Act.put, List.getElem_toArray, List.getElem_cons_zero, List.getElem_cons_succ, List.setIfInBounds_toArray, List.set_cons_zero, List.set_cons_succ]
              refine wpAnyH_take (i := 6) (v := ?_) rfl (by kernel_rfl) (by kernel_rfl) (by kernel_rfl) (fun _ _ _ h => h) (Or.inl ⟨by rfl, ?_⟩) (by assumption) ?_
              rotate_left
              · intro w hSw; (try dsimp only at hSw); go_simp <;> with_reducible rfl
              try simp only [Act.put, List.getElem_toArray, List.getElem_cons_zero, List.getElem_cons_succ, List.setIfInBounds_toArray, List.set_cons_zero, List.set_cons_succ]
              refine wpAnyH_take (i := 7) (v := ?_) rfl (by kernel_rfl) (by kernel_rfl) (by kernel_rfl) (fun _ _ _ h => h) (Or.inl ⟨by rfl, ?_⟩) (by assumption) ?_
              rotate_left
              · intro w hSw; (try dsimp only at hSw); go_simp <;> (try simp only [wk]) <;> with_reducible rfl
              try simp only [Act.put, List.getElem_toArray, List.getElem_cons_zero, List.getElem_cons_succ, List.setIfInBounds_toArray, List.set_cons_zero, List.set_cons_succ]
              try simp only [wk]
              refine wpAnyH_take (i := 8) (v := ?_) rfl (by kernel_rfl) (by kernel_rfl) (by kernel_rfl) (fun _ _ _ h => h) (Or.inl ⟨by rfl, ?_⟩) (by assumption) ?_
              rotate_left
              · intro w hSw; (try dsimp only at hSw); go_simp <;> with_reducible rfl
              try simp only [Act.put, List.getElem_toArray, List.getElem_cons_zero, List.getElem_cons_succ, List.setIfInBounds_toArray, List.set_cons_zero, List.set_cons_succ]
              refine wpAnyH_take (i := 9) (v := ?_) rfl (by kernel_rfl) (by kernel_rfl) (by kernel_rfl) (fun _ _ _ h => h) (Or.inl ⟨by rfl, ?_⟩) (by assumption) ?_
              rotate_left
              · intro w hSw; (try dsimp only at hSw); go_simp <;> with_reducible rfl
              try simp only [Act.put, List.getElem_toArray, List.getElem_cons_zero, List.getElem_cons_succ, List.setIfInBounds_toArray, List.set_cons_zero, List.set_cons_succ]
              refine wpAnyH_ready (rs := [10]) (by kernel_rfl) (by simp) ?_
              refine AllReadyH.cons rfl (fun K hK => ?_) AllReadyH.nil
              go_simp
              refine (cE.out _ (KD.out)).mono ?_
              rintro e w9 ⟨rfl, k9⟩
              have K9 := hid (KD.out.trans k9 (by simp))
              clear k9
              (try go_wp2_with fail)
              refine hK.out _ _ ?_ (fun hHeld => ?_)
              · exact hG.out _ K9.out
              clear hK K
              try simp only [Act.put, List.getElem_toArray, List.getElem_cons_zero, List.getElem_cons_succ, List.setIfInBounds_toArray, List.set_cons_zero, List.set_cons_succ]
              refine wpAnyH_take (i := 11) (v := ?_) rfl (by kernel_rfl) (by kernel_rfl) (by kernel_rfl) (fun _ _ _ h => h) (Or.inl ⟨by rfl, ?_⟩) (by assumption) ?_
              rotate_left
              · intro w hSw; (try dsimp only at hSw); go_simp <;> with_reducible rfl
              try simp only [Act.put, List.getElem_toArray, List.getElem_cons_zero, List.getElem_cons_succ, List.setIfInBounds_toArray, List.set_cons_zero, List.set_cons_succ]
              refine wpAnyH_done (by kernel_rfl) ?_ _
              have kq2 : Kp [g] w w9 := kn2.out.trans K9.out (by simp)
              have hrq2 : VnE.Row w9 (.slice (some ⟨g, o, none⟩) (cptTo l (k + k2) ++ l.drop kk).length c) (cptTo l (k + k2) ++ l.drop kk) := by rw [hLl.out]; exact hrow.out.keptNew K9.out
              obtain ⟨C0, C1, C2, C3, _, _, _, _⟩ := hG.out w9 K9.out
              clear hHeld hG cE wk i3 i4 hrow
              cases X
              · have hst : Hid (cptTo l (k + k2 + 1) = cptTo l (k + k2) ++ [⟨xe, xn, xa, xc, xr, xd⟩]) := hid (by
                  rw [hnew.out (.inr (by simpa using HX.out))])
                obtain ⟨hput, kput, hsm, hfz⟩ := hrq2.put kk (by rw [hLl.out]; omega) [⟨xe, xn, xa, xc, xr, xd⟩] (by simp; omega)
                have hl2 : (cptTo l (k + k2) ++ l.drop kk).take kk ++ [⟨xe, xn, xa, xc, xr, xd⟩] ++ (cptTo l (k + k2) ++ l.drop kk).drop (kk + [(⟨xe, xn, xa, xc, xr, xd⟩ : Vn)].length) = cptTo l (k + k2 + 1) ++ l.drop (kk + 1) := by
                  have e1 : (cptTo l (k + k2) ++ l.drop kk).take kk = cptTo l (k + k2) := by
                    have := List.take_left (l₁ := cptTo l (k + k2)) (l₂ := l.drop kk)
                    rwa [hpl.out] at this
                  have e2 : (cptTo l (k + k2) ++ l.drop kk).drop (kk + 1) = l.drop (kk + 1) := by
                    rw [List.drop_append, List.drop_of_length_le (by rw [hpl.out]; omega), List.nil_append, hpl.out, List.drop_drop]
                    congr 1
                    omega
                  rw [e1, show kk + [(⟨xe, xn, xa, xc, xr, xd⟩ : Vn)].length = kk + 1 from rfl, e2, hst.out]
                have hlen2 : (cptTo l (k + k2 + 1) ++ l.drop (kk + 1)).length = l.length := by
                  rw [hst.out, List.length_append, List.length_append, hpl.out]; simp; omega
                rw [hl2, hlen2] at hput
                have f0 := hfz 0 (by simp [El.cs, VnE]); have f1 := hfz 1 (by simp [El.cs, VnE]); have f2 := hfz 2 (by simp [El.cs, VnE]); have f3 := hfz 3 (by simp [El.cs, VnE])
                obtain ⟨u0, v0⟩ := Option.isSome_iff_exists.1 (hsm 0 (by simp [El.cs, VnE]))
                obtain ⟨u1, v1⟩ := Option.isSome_iff_exists.1 (hsm 1 (by simp [El.cs, VnE]))
                obtain ⟨u2, v2⟩ := Option.isSome_iff_exists.1 (hsm 2 (by simp [El.cs, VnE]))
                obtain ⟨u3, v3⟩ := Option.isSome_iff_exists.1 (hsm 3 (by simp [El.cs, VnE]))
                have e4 : VnE.n = 4 := rfl
                rw [e4] at f0 f1 f2 f3 v0 v1 v2 v3
                rw [Nat.add_zero] at f0 v0
                obtain ⟨w5, hw5⟩ : ∃ w5, (((w9.setCell ⟨g, o + kk * 4, none⟩ (.int .u64 xe)).setCell ⟨g, o + kk * 4 + 1, none⟩ (.int .u32 xn)).setCell ⟨g, o + kk * 4 + 2, none⟩ (.slice xa xr.length xc)).setCell ⟨g, o + kk * 4 + 3, none⟩ (.int .u64 xd) = w5 := ⟨_, rfl⟩
                have hput5 : Hid (VnE.Row w5 (.slice (some ⟨g, o, none⟩) l.length c) (cptTo l (k + k2 + 1) ++ l.drop (kk + 1))) := hid (by rw [← hw5]; exact hput)
                have k5 : Hid (Kp [g] w w5) := hid (by rw [← hw5]; exact kq2.trans kput (fun _ h => .inl h))
                have hpl2 : Hid ((cptTo l (k + k2 + 1)).length = kk + 1) := hid (by rw [hst.out]; simp [hpl.out])
                have hkkl : (kk : Int) < (l.length : Int) := by omega
                have hkk0 : (0 : Int) ≤ (kk : Int) := by omega
                clear hput kput hsm hfz hl2 hlen2 hrq2 hsame hnew hst hpl hgd HX kq2
                go_wp2_with fail
                exact ⟨⟨kk + 1, k2 + 1, by go_num, by go_num, by omega, by omega, by omega, hpl2, hput5, k5⟩, by simp [intOf]; omega⟩
              · have hst : Hid (cptTo l (k + k2 + 1) = cptTo l (k + k2)) := hid (by
                  rw [hsame.out (by simpa using HX.out)])
                have hpl2 : Hid ((cptTo l (k + k2 + 1)).length = kk) := hid (by rw [hst.out, hpl.out])
                rw [hLl.out, ← hst.out] at hrq2
                have hrq2' := hid hrq2
                have KQ2 := hid kq2
                clear hrq2 hsame hnew hst hpl hgd HX kq2 C0 C1 C2 C3
                go_wp2_with fail
                exact ⟨⟨kk, k2 + 1, rfl, by go_num, by omega, by omega, by omega, hpl2, hrq2', KQ2⟩, by simp [intOf]; omega⟩
            · obtain hend : k + k2 = l.length := by omega
              have hrow2 : VnE.Row wr (.slice (some ⟨g, o, none⟩) (F ++ l.drop kk).length c) (F ++ l.drop kk) := by
                have h1 := hrow.out
                have h2 := hLl.out
                rw [hend, ← hF.out] at h1 h2
                rw [h2]; exact h1
              have hplF : Hid (F.length = kk) := hid (by have := hpl.out; rwa [hend, ← hF.out] at this)
              have hLF : Hid ((F ++ l.drop kk).length = l.length) := hid (by have := hLl.out; rwa [hend, ← hF.out] at this)
              obtain ⟨hl9, hm9, hg9, ht9⟩ := rowCells hrow2
              rw [hLF.out] at hl9
              have hcc : ∀ z, z < (l.length - kk) * 4 → (wr.cell? ⟨g, o + kk * 4 + z, none⟩).isSome = true ∧ wr.frozen? ⟨g, o + kk * 4 + z, none⟩ = false := fun z hz => by
                rw [Nat.add_assoc]
                refine ht9 _ ?_
                show _ < c * 4
                omega
              have hcl := run_clearN wr g (o + kk * 4) (l.length - kk) (c - kk) (by omega) hcc
              obtain ⟨hput, kput, _, _⟩ := hrow2.put kk (by rw [hLF.out]; omega) (List.replicate (l.length - kk) default) (by simp; omega)
              have hlz : ((F ++ l.drop kk).take kk ++ List.replicate (l.length - kk) default ++ (F ++ l.drop kk).drop (kk + (List.replicate (l.length - kk) (default : Vn)).length)).take kk = F := by
                have e1 : (F ++ l.drop kk).take kk = F := by
                  have := List.take_left (l₁ := F) (l₂ := l.drop kk)
                  rwa [hplF.out] at this
                rw [e1, List.append_assoc, List.take_append_of_le_length (by rw [hplF.out]; omega), ← hplF.out, List.take_length]
              have hfr := rowFront hput kk (by simp only [List.length_append, List.length_replicate, List.length_take, List.length_drop]; rw [hplF.out]; omega)
              rw [hlz] at hfr
              have HFR := hid hfr
              have KS := hid (kn2.out.trans kput (fun _ h => .inl h))
              have n1 : ¬ (k2 : Int) < ((l.length - k : Nat) : Int) := by omega
              have n2 : (kk : Int) ≤ (l.length : Int) := by omega
              have n3 : (kk : Int) ≤ (c : Int) := by omega
              have n4 : kk < l.length := by omega
              have n5 : kk < c := by omega
              clear hput kput hfr hlz hrow2 hrow hpl hLl hcc hF hFF hl9 hm9 hg9 ht9 hLF
              go_wp2_with fail
              go_ret
              rw [hplF.out]
              exact ⟨rfl, HFR.out, KS.out⟩
      · obtain rfl : k = l.length := by omega
        have hfin : Hid (F = l) := hid (by rw [hF.out, htk.out, List.take_length])
        clear htk hF
        go_wp2_with fail
        go_ret
        rw [hfin.out]
        exact ⟨rfl, hs'.out.keptNew kn.out, kn.out.mono (by simp)⟩
end Go.Proofs.Ytebkkdoggagcdaa
end

section
namespace Go.Proofs.Ytebkkdoggagcdaa
open Go.RowKit Go.Hay
attribute [local go_sem] Oper.semAt_some
set_option linter.unusedVariables false
set_option linter.unusedSimpArgs false

theorem run_store_func (P : Program) (w : World) (a : Addr) (m) (f : Fn) (x y : Array Value) : (store a (.func f x y) m).run P w = stored P w a (.func f x y) m := run_store P w a _ m rfl
attribute [local go_sem] run_store_func
theorem once_short {l : List Vn} (h : l.length < 2) : onceV l = l := by
  match l, h with
  | [], _ => rfl
  | [x], _ => simp [onceV, stO, hasV, insV, kOf]
set_option maxHeartbeats 8000000 in
set_option maxRecDepth 100000 in
theorem cCompact1 (a : Option Addr) (n c : Nat) (f : Value) (w : World) (hn : n < 2) : Calls Try.prog 42 #[.slice a n c, f] w fun e w' => e = .returned (.slice a n c) ∧ w' = w := by
  go_enter Try.func42, Try.ntmps42
  go_wp2_with fail
  go_ret
  exact ⟨rfl, rfl⟩
set_option maxHeartbeats 16000000 in
set_option maxRecDepth 100000 in
theorem cInOrder (a : Option Addr) (c : Nat) (l : List Vn) (w : World) (hs : VnE.See w a l) (hn : a = none → c = 0) (hl : l.length ≤ 4000000000000) :
    Calls Try.prog 33 #[.slice a l.length c, .func (.func 34) #[] #[], .func (.func 35) #[] #[]] w (CloneP VnE (onceV l) w) := by
  obtain ⟨w1, hw1, k1, b1⟩ : ∃ x, w.alloc (.cells #[.func (.func 34) #[] #[]] 65) = x ∧ Kp [] w x ∧ Bn x w.heap.size [.func (.func 34) #[] #[]] := ⟨_, rfl, (Kp.refl _ _).alloc _, Bn.new w _ _⟩
  obtain ⟨w2, hw2, k2, b2⟩ : ∃ x, w1.alloc (.cells #[.func (.func 35) #[] #[]] 66) = x ∧ Kp [] w1 x ∧ Bn x w1.heap.size [.func (.func 35) #[] #[]] := ⟨_, rfl, (Kp.refl _ _).alloc _, Bn.new w1 _ _⟩
  obtain ⟨w3, hw3, k3, b3⟩ : ∃ x, w2.alloc (.cells #[.nilFunc] 70) = x ∧ Kp [] w2 x ∧ Bn x w2.heap.size [.nilFunc] := ⟨_, rfl, (Kp.refl _ _).alloc _, Bn.new w2 _ _⟩
  have z1 : w1.heap.size = w.heap.size + 1 := by rw [← hw1]; simp
  have z2 : w2.heap.size = w1.heap.size + 1 := by rw [← hw2]; simp
  obtain ⟨q4, hq4⟩ : ∃ q, w.heap.size = q := ⟨_, rfl⟩
  obtain ⟨q5, hq5⟩ : ∃ q, w1.heap.size = q := ⟨_, rfl⟩
  obtain ⟨q7, hq7⟩ : ∃ q, w2.heap.size = q := ⟨_, rfl⟩
  rw [hq4] at b1
  rw [hq5] at b2
  rw [hq7] at b3
  have HZ : Hid (q4 = w.heap.size ∧ q5 = w.heap.size + 1 ∧ q7 = w.heap.size + 2) := hid (by omega)
  obtain ⟨w4, hw4⟩ : ∃ x, w3.setCell ⟨q7, 0, none⟩ (.func (.func 39) #[] #[.pointer (some ⟨q5, 0, none⟩), .pointer (some ⟨q4, 0, none⟩)]) = x := ⟨_, rfl⟩
  have k4 : Kp [q7] w3 w4 := by rw [← hw4]; exact (Kp.refl _ _).setCell (by simp) _
  have b4 : Bn w4 q7 [.func (.func 39) #[] #[.pointer (some ⟨q5, 0, none⟩), .pointer (some ⟨q4, 0, none⟩)]] := by rw [← hw4]; exact b3.set 0 (by simp) _
  have m0 := b3.get 0 _ rfl; have f0 := b3.free 0
  have kw3 := (k1.trans k2 (by simp)).trans k3 (by simp)
  have hne : q4 ≠ q7 ∧ q5 ≠ q7 := by omega
  have hb4 : BxC q4 q5 q7 0 w4 := ⟨⟨(k4.cell (p := ⟨q4, 0, none⟩) (World.block_lt_of_cell? _ _ (kpAt (k2.trans k3 (by simp)) (b1.get 0 _ rfl))) (by simpa using hne.1)).trans (kpAt (k2.trans k3 (by simp)) (b1.get 0 _ rfl)), (k4.cell (p := ⟨q5, 0, none⟩) (World.block_lt_of_cell? _ _ (kpAt k3 (b2.get 0 _ rfl))) (by simpa using hne.2)).trans (kpAt k3 (b2.get 0 _ rfl))⟩, b4.get 0 _ rfl⟩
  have K4 := hid (kw3.trans k4 (fun x hx => .inr (by simp at hx; omega)))
  have HB := hid hb4
  have cC := hid (cCloneN a c l w4 (hs.keptNew K4.out) hn hl)
  have HL := hid hl
  obtain ⟨O, hO⟩ : ∃ O, Hid (onceV l = O) := ⟨_, hid rfl⟩
  rw [hO.out]
  clear z1 z2 b1 b2 b3 b4 k1 k2 k3 k4 kw3 hb4 hs hn hl hne
  go_enter Try.func33, Try.ntmps33
  go_wp2_with fail
  refine cC.out.mono ?_
  rintro e w5 ⟨a', c', rfl, hrow, k5, hnw⟩
  have K5 := hid (K4.out.trans k5 (by simp))
  have HB5 := hid (HB.out.kept k5 (by simp) (by simp) (by simp))
  have HN : Hid (∀ k ∈ blk a', w.heap.size + 3 ≤ k) := hid fun k hk => by have h1 := hnw k hk; have h2 : q7 < w4.heap.size := World.block_lt_of_cell? _ _ HB.out.eq; have h3 := HZ.out.2.2; omega
  have s7 := HB5.out.eq
  have HR := hid hrow
  clear cC hrow k5 hnw m0 f0
  by_cases hlen : l.length < 2
  · have cS := hid (cSortSt1R a' l.length c' (.func (.func 39) #[] #[.pointer (some ⟨q5, 0, none⟩), .pointer (some ⟨q4, 0, none⟩)]) w5 (by omega))
    have cK := hid (cCompact1 a' l.length c' (.func (.func 43) #[] #[.pointer (some ⟨q7, 0, none⟩)]) w5 hlen)
    have ho : Hid (O = l) := hid (by rw [← hO.out]; exact once_short hlen)
    go_wp2_with fail
    refine cS.out.mono ?_
    rintro e w6 ⟨⟨v, rfl⟩, rfl⟩
    clear cS
    go_wp2_with fail
    refine cK.out.mono ?_
    rintro e w7 ⟨rfl, rfl⟩
    clear cK
    go_wp2_with fail
    go_ret
    rw [ho.out]
    exact ⟨a', c', rfl, HR.out, K5.out, fun k hk => by have := HN.out k hk; omega⟩
  · obtain ⟨g, o, rfl⟩ : ∃ g o, a' = some ⟨g, o, none⟩ := by
      rcases HR.out with ⟨e, e2⟩ | ⟨g, o, cap, e, _⟩
      · rw [e2] at hlen; simp at hlen
      · have := Value.slice.inj e
        exact ⟨g, o, this.1⟩
    have hg : w.heap.size + 3 ≤ g := HN.out g (by simp [blk])
    have hne : q4 ≠ g ∧ q5 ≠ g ∧ q7 ≠ g := by have := HZ.out; omega
    have NE := hid hne
    have cS := hid (cSortN g o c' l q4 q5 w5 HR.out HB5.out.b hne.1 hne.2.1 HL.out)
    clear hne hlen
    go_wp2_with fail
    refine cS.out.mono ?_
    rintro e w6 ⟨⟨v, rfl⟩, s, hp, hst, hrow6, k6⟩
    have HB6 := hid (HB5.out.kept k6 (by simpa using NE.out.1) (by simpa using NE.out.2.1) (by simpa using NE.out.2.2))
    have eO : cpt (arrN l s) = O := by rw [← hO.out]; exact sorted_once hp hst
    have eL := arrN_len l s
    have hrow6' : VnE.Row w6 (.slice (some ⟨g, o, none⟩) (arrN l s).length c') (arrN l s) := by rw [eL]; exact hrow6
    have cK := hid (cCompactN g o c' (arrN l s) q4 q5 q7 w6 hrow6' ⟨HB6.out.b, HB6.out.eq⟩ NE.out.1 NE.out.2.1 NE.out.2.2 (by rw [eL]; exact HL.out))
    rw [eO, eL] at cK
    have K6 := hid (K5.out.trans k6 (fun x hx => .inr (by simp at hx; omega)))
    clear cS hp hst hrow6 k6 eO eL hrow6'
    go_wp2_with fail
    refine cK.out.mono ?_
    rintro e w7 ⟨rfl, hrow7, k7⟩
    have HR7 := hid hrow7
    have K7 := hid (K6.out.trans k7 (fun x hx => .inr (by simp at hx; omega)))
    clear cK hrow7 k7
    go_wp2_with fail
    go_ret
    exact ⟨some ⟨g, o, none⟩, c', rfl, HR7.out, K7.out, fun k hk => by simp [blk] at hk; omega⟩
theorem cByNames (a : Option Addr) (c : Nat) (l : List Vn) (w : World) (hs : VnE.See w a l) (hn : a = none → c = 0) (hl : l.length ≤ 4000000000000) :
    Calls Try.prog 24 #[.slice a l.length c] w (CloneP VnE (onceV l) w) := by
  have cI := hid (cInOrder a c l w hs hn hl)
  clear hs hn
  go_enter Try.func24, Try.ntmps24
  go_wp2_with fail
  refine cI.out.mono ?_
  rintro e w7 ⟨a', c', rfl, hrow, k, hnw⟩
  have H := hid (And.intro hrow (And.intro k hnw))
  clear cI hrow k hnw
  go_wp2_with fail
  go_ret
  exact ⟨a', c', rfl, H.out.1, H.out.2.1, H.out.2.2⟩
/-- A version as it is told, its row in memory of its own. -/
def AsP (x : Vn) (d : Int) (w : World) (e : Ending) (w' : World) : Prop := ∃ a c, e = .returned (.agg #[.int .u64 x.ep, .int .u32 x.num, .slice a x.row.length c, .int .u64 d]) ∧ VE.Row w' (.slice a x.row.length c) x.row ∧ Kp [] w w' ∧ ∀ k ∈ blk a, w.heap.size ≤ k
theorem asV_del (e : Int) (x : Vn) : (asV e x).del = if e < x.del then 0 else x.del := by unfold asV; split <;> rfl
set_option maxHeartbeats 16000000 in
set_option maxRecDepth 100000 in
theorem cAs (x : Vn) (ep : Int) (w : World) (hx : VnOk w x) : Calls Try.prog 25 #[.agg #[.int .u64 x.ep, .int .u32 x.num, .slice x.a x.row.length x.c, .int .u64 x.del], .int .u64 ep] w (AsP x (asV ep x).del w) := by
  rw [asV_del]
  obtain ⟨w1, hw1, k1, b1⟩ : ∃ y, w.alloc (.cells #[.int .u64 x.ep, .int .u32 x.num, .slice x.a x.row.length x.c, .int .u64 x.del] 34) = y ∧ Kp [] w y ∧ Bn y w.heap.size [.int .u64 x.ep, .int .u32 x.num, .slice x.a x.row.length x.c, .int .u64 x.del] := ⟨_, rfl, (Kp.refl _ _).alloc _, Bn.new w _ _⟩
  obtain ⟨w2, hw2, k2, b2⟩ : ∃ y, w1.alloc (.cells #[.int .u64 0, .int .u32 0, .slice none 0 0, .int .u64 0] 34) = y ∧ Kp [] w1 y ∧ Bn y w1.heap.size [.int .u64 0, .int .u32 0, .slice none 0 0, .int .u64 0] := ⟨_, rfl, (Kp.refl _ _).alloc _, Bn.new w1 _ _⟩
  have z1 : w1.heap.size = w.heap.size + 1 := by rw [← hw1]; simp
  obtain ⟨q2, hq2⟩ : ∃ q, w.heap.size = q := ⟨_, rfl⟩
  obtain ⟨q4, hq4⟩ : ∃ q, w1.heap.size = q := ⟨_, rfl⟩
  rw [hq2] at b1
  rw [hq4] at b2
  have KA := hid (k1.trans k2 (by simp))
  have cC := hid (cCloneV x.a x.c x.row w2 (hx.see.keptNew KA.out) hx.nil hx.few)
  have HZ : Hid (q2 = w.heap.size ∧ q4 = w.heap.size + 1) := hid (by omega)
  have b12 := b1.kept k2
  have HB := hid (And.intro b12 b2)
  have s2 := b12.get 2 _ rfl
  obtain ⟨xe, xn, xa, xc, xr, xd⟩ := x
  dsimp only at *
  obtain ⟨d, hd⟩ : ∃ d : Int, Hid ((if ep < xd then (0 : Int) else xd) = d) := ⟨_, hid rfl⟩
  rw [hd.out]
  clear b1 b2 b12 k1 k2 hx z1
  go_enter Try.func25, Try.ntmps25
  go_wp2_with fail
  refine cC.out.mono ?_
  rintro e w3 ⟨a', c', rfl, hrow, k3, hnw⟩
  have b3 := HB.out.1.kept k3
  have b3' := HB.out.2.kept k3
  have hlt2 : q2 < w3.heap.size := b3.lt (by simp)
  have hlt4 : q4 < w3.heap.size := b3'.lt (by simp)
  have hq2w : w2.heap.size = w.heap.size + 2 := by rw [← hw2, World.size_alloc, hq4]; have := HZ.out; omega
  have m0 := b3.get 2 _ rfl; have f0 := b3.free 2
  obtain ⟨W4, hW4⟩ : ∃ Y, w3.setCell ⟨q2, 2, none⟩ (.slice a' xr.length c') = Y := ⟨_, rfl⟩
  have k4 : Kp [q2] w3 W4 := by rw [← hW4]; exact (Kp.refl _ _).setCell (by simp) _
  have b4 : Bn W4 q2 [.int .u64 xe, .int .u32 xn, .slice a' xr.length c', .int .u64 xd] := by rw [← hW4]; exact b3.set 2 (by simp) _
  have b4' : Bn W4 q4 [.int .u64 0, .int .u32 0, .slice none 0 0, .int .u64 0] := b3'.keptS k4 (by have := HZ.out; simp; omega) hlt4
  have hr4 : VE.Row W4 (.slice a' xr.length c') xr := hrow.kept k4 (fun k hk => by rw [own_slice] at hk; have := hnw k hk; have := HZ.out; simp; omega)
  have K4 := hid ((KA.out.trans k3 (by simp)).trans k4 (fun x hx => .inr (by simp at hx; have := HZ.out; omega)))
  have HNW : Hid (∀ k ∈ blk a', w.heap.size + 2 ≤ k) := hid fun k hk => by have := hnw k hk; omega
  obtain ⟨WB, hWB⟩ : ∃ Y, W4.setCell ⟨q2, 3, none⟩ (.int .u64 0) = Y := ⟨_, rfl⟩
  have FIN : Hid (∀ W, Bn W q4 [.int .u64 0, .int .u32 0, .slice none 0 0, .int .u64 0] → VE.Row W (.slice a' xr.length c') xr → Kp [] w W → ∀ d : Int, ∃ W2, (((W.setCell ⟨q4, 0, none⟩ (.int .u64 xe)).setCell ⟨q4, 1, none⟩ (.int .u32 xn)).setCell ⟨q4, 2, none⟩ (.slice a' xr.length c')).setCell ⟨q4, 3, none⟩ (.int .u64 d) = W2 ∧ Bn W2 q4 [.int .u64 xe, .int .u32 xn, .slice a' xr.length c', .int .u64 d] ∧ VE.Row W2 (.slice a' xr.length c') xr ∧ Kp [] w W2) := hid fun W hb hr hk d => by
    have ks : Kp [q4] W ((((W.setCell ⟨q4, 0, none⟩ (.int .u64 xe)).setCell ⟨q4, 1, none⟩ (.int .u32 xn)).setCell ⟨q4, 2, none⟩ (.slice a' xr.length c')).setCell ⟨q4, 3, none⟩ (.int .u64 d)) := ((((Kp.refl _ _).setCell (by simp) _).setCell (by simp) _).setCell (by simp) _).setCell (by simp) _
    refine ⟨_, rfl, (((hb.set 0 (by simp) _).set 1 (by simp) _).set 2 (by simp) _).set 3 (by simp) _, hr.kept ks (fun k hk => ?_), hk.trans ks (fun x hx => .inr (by simp at hx; have := HZ.out; omega))⟩
    rw [own_slice] at hk
    have := HNW.out k hk
    have := HZ.out
    simp
    omega
  have n2 := b4.get 0 _ rfl; have n3 := b4.get 1 _ rfl; have n4 := b4.get 2 _ rfl; have n5 := b4.get 3 _ rfl; have n6 := b4.free 3
  have HR4 := hid hr4
  have HB4 := hid (And.intro b4 b4')
  clear cC hrow k3 hnw b3 b3' s2 b4 b4' hr4 k4 hlt2 hlt4 hq2w
  by_cases hlt : ep < xd
  · have d1 : decide (xd > ep) = true := decide_eq_true hlt
    have d2 : decide (ep < xd) = true := decide_eq_true hlt
    have hd0 : Hid (d = 0) := hid (by rw [← hd.out, if_pos hlt])
    have kB : Kp [q2] W4 WB := by rw [← hWB]; exact (Kp.refl _ _).setCell (by simp) _
    have bB : Bn WB q2 [.int .u64 xe, .int .u32 xn, .slice a' xr.length c', .int .u64 0] := by rw [← hWB]; exact HB4.out.1.set 3 (by simp) _
    have hlt4 : q4 < W4.heap.size := HB4.out.2.lt (by simp)
    have bB' : Bn WB q4 [.int .u64 0, .int .u32 0, .slice none 0 0, .int .u64 0] := HB4.out.2.keptS kB (by have := HZ.out; simp; omega) hlt4
    obtain ⟨W2, hW2, b2, hr2, kk2⟩ := FIN.out WB bB' (HR4.out.kept kB (fun k hk => by rw [own_slice] at hk; have := HNW.out k hk; have := HZ.out; simp; omega)) (K4.out.trans kB (fun x hx => .inr (by simp at hx; have := HZ.out; omega))) 0
    have c0 := b2.get 0 _ rfl; have c1 := b2.get 1 _ rfl; have c2 := b2.get 2 _ rfl; have c3 := b2.get 3 _ rfl
    have o0 := bB.get 0 _ rfl; have o1 := bB.get 1 _ rfl; have o2 := bB.get 2 _ rfl; have o3 := bB.get 3 _ rfl
    have p0 := bB'.get 0 _ rfl; have p1 := bB'.get 1 _ rfl; have p2 := bB'.get 2 _ rfl; have p3 := bB'.get 3 _ rfl
    have g0 := bB'.free 0; have g1 := bB'.free 1; have g2 := bB'.free 2; have g3 := bB'.free 3
    have H := hid (And.intro hr2 kk2)
    clear hlt kB bB bB' b2 hr2 kk2 hlt4 FIN
    go_wp2_with fail
    exact bodyPost_ret (v := .agg #[.int .u64 xe, .int .u32 xn, .slice a' xr.length c', .int .u64 0]) (by simp [results, Try.results25, go_sem, c0, c1, c2, c3]) rfl ⟨a', c', by rw [hd0.out], H.out.1, H.out.2, fun k hk => by have := HNW.out k hk; omega⟩
  · have d1 : decide (xd > ep) = false := decide_eq_false hlt
    have d2 : decide (ep < xd) = false := decide_eq_false hlt
    have hd0 : Hid (d = xd) := hid (by rw [← hd.out, if_neg hlt])
    obtain ⟨W2, hW2, b2, hr2, kk2⟩ := FIN.out W4 HB4.out.2 HR4.out K4.out xd
    have c0 := b2.get 0 _ rfl; have c1 := b2.get 1 _ rfl; have c2 := b2.get 2 _ rfl; have c3 := b2.get 3 _ rfl
    have bB' := HB4.out.2
    have p0 := bB'.get 0 _ rfl; have p1 := bB'.get 1 _ rfl; have p2 := bB'.get 2 _ rfl; have p3 := bB'.get 3 _ rfl
    have g0 := bB'.free 0; have g1 := bB'.free 1; have g2 := bB'.free 2; have g3 := bB'.free 3
    have H := hid (And.intro hr2 kk2)
    clear hlt bB' b2 hr2 kk2 FIN
    go_wp2_with fail
    exact bodyPost_ret (v := .agg #[.int .u64 xe, .int .u32 xn, .slice a' xr.length c', .int .u64 xd]) (by simp [results, Try.results25, go_sem, c0, c1, c2, c3]) rfl ⟨a', c', by rw [hd0.out], H.out.1, H.out.2, fun k hk => by have := HNW.out k hk; omega⟩
end Go.Proofs.Ytebkkdoggagcdaa
end

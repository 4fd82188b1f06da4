/- catalog: names; tablesMay. catalog: which projections may be. catalog: which projections may be together. catalog: whether a table is covered. -/
import Derived.Test.YtckicbaidbgonaaB2
import Derived.Deep.RegionHeld3
section
namespace Go.Proofs.Ytckicbaidbgonaa
open Go.RowKit Go.Hay
set_option linter.unusedVariables false
set_option linter.unusedSimpArgs false

/-- Is a name among some? -/
def hasT (l : List Tb) (nm : ByteArray) : Bool := l.any fun t => t.nm.toList == nm.toList
theorem cTabEq (q : Nat) (nm : ByteArray) (t : Tb) (w : World) (hq : w.cell? ⟨q, 0, none⟩ = some (.string nm)) : Calls Try.prog 54 #[t.v, .pointer (some ⟨q, 0, none⟩)] w fun e w' => e = .returned (.bool (t.nm.toList == nm.toList)) ∧ Kp [] w w' := by
  have hlt : q < w.heap.size := World.block_lt_of_cell? _ _ hq
  simp only [Tb.v]
  go_enter Try.func54, Try.ntmps54
  go_wp2_with fail
  go_returns
  exact ⟨rfl, (Kp.refl _ _).alloc _⟩
set_option maxHeartbeats 4000000 in
set_option maxRecDepth 100000 in
theorem cIndexT (a : Option Addr) (c q : Nat) (nm : ByteArray) (l : List Tb) (w : World) (hs : TbE.See w a l) (hq : w.cell? ⟨q, 0, none⟩ = some (.string nm)) (hf : l.length ≤ 9223372036854775807) :
    Calls Try.prog 73 #[.slice a l.length c, .func (.func 54) #[] #[.pointer (some ⟨q, 0, none⟩)]] w fun e w' => ∃ r, e = .returned (.int .i64 r) ∧ decide (0 ≤ r) = hasT l nm ∧ Kp [] w w' := by
  have hs' := hid hs
  have hq' := hid hq
  clear hs hq
  go_enter Try.func73, Try.ntmps73
  go_wp2_with fail
  go_loopw [8] (fun i wr => ∃ j : Nat, j ≤ l.length ∧ i = .int .i64 j ∧ Hid (hasT (l.take j) nm = false) ∧ Kp [] w wr) (fun i _ => l.length - (intOf i).toNat)
  case atStart => exact ⟨0, Nat.zero_le _, rfl, hid rfl, Kp.refl _ _⟩
  case round =>
    obtain ⟨j, hj, rfl, hst, kr⟩ := hrel
    by_cases hjl : j < l.length
    · have hx : l[j]? = some l[j] := by simp [hjl]
      obtain ⟨g, o, rfl, x0, x1⟩ := tbAt (hs'.out.keptNew kr) hx
      have cG := hid (cTabEq q nm l[j] wr (kpAt kr hq'.out))
      have htk : Hid (l.take (j + 1) = l.take j ++ [l[j]]) := by show _ = _; rw [List.take_succ_eq_append_getElem hjl]
      have hmm : Hid (l[j] ∈ l) := List.getElem_mem hjl
      clear hx
      have i1 : (0 : Int) ≤ (j : Int) := by omega
      have i2 : (j : Int) < (l.length : Int) := by omega
      have i3 : (j : Int) + 1 ≤ 9223372036854775807 := by omega
      obtain ⟨B, hB⟩ : ∃ B, Hid ((l[j].nm.toList == nm.toList) = B) := ⟨_, hid rfl⟩
      rw [hB.out] at cG
      have h1 : Hid (hasT (l.take (j + 1)) nm = B) := by
        show _ = _
        unfold hasT at hst ⊢
        rw [htk.out, List.any_append, hst.out]
        simp [hB.out]
      have h2 : Hid (B = true → hasT l nm = true) := fun e => by
        unfold hasT
        rw [List.any_eq_true]
        exact ⟨_, hmm.out, by rw [hB.out, e]⟩
      clear htk hmm hB
      generalize l[j] = x at *
      obtain ⟨tn, ta, tc, tl⟩ := x
      simp only [Tb.v] at *
      go_wp2_with fail
      refine cG.out.mono ?_
      rintro e w2 ⟨rfl, k2⟩
      have kw2 := kr.trans k2 (by simp)
      clear cG k2 x0 x1
      cases B with
      | false =>
        go_wp2_with fail
        exact ⟨⟨j + 1, by omega, by go_num, h1, kw2⟩, by simp [intOf]; omega⟩
      | true =>
        have h3 := hid (h2.out rfl)
        clear h2
        go_wp2_with fail
        go_ret
        exact ⟨_, rfl, by rw [h3.out]; simp, kw2⟩
    · have e : j = l.length := by omega
      subst e
      have h4 : Hid (hasT l nm = false) := by have := hst.out; rw [List.take_length] at this; exact hid this
      go_wp2_with fail
      go_ret
      exact ⟨_, rfl, by rw [h4.out]; rfl, kr⟩
theorem cContT (a : Option Addr) (c q : Nat) (nm : ByteArray) (l : List Tb) (w : World) (hs : TbE.See w a l) (hq : w.cell? ⟨q, 0, none⟩ = some (.string nm)) (hf : l.length ≤ 9223372036854775807) :
    Calls Try.prog 56 #[.slice a l.length c, .func (.func 54) #[] #[.pointer (some ⟨q, 0, none⟩)]] w fun e w' => e = .returned (.bool (hasT l nm)) ∧ Kp [] w w' := by
  have h := hid (cIndexT a c q nm l w hs hq hf)
  obtain ⟨X, hX⟩ : ∃ X, Hid (hasT l nm = X) := ⟨_, hid rfl⟩
  rw [hX.out]
  go_enter Try.func56, Try.ntmps56
  go_wp2_with fail
  refine h.out.mono ?_
  rintro e w' ⟨r, rfl, hr, k⟩
  have hr' : Hid (decide (0 ≤ r) = X) := by rw [hX.out] at hr; exact hid hr
  clear hr
  go_wp2_with fail
  go_returns
  exact ⟨by rw [hr'.out]; rfl, k⟩
/-- Is a name among some? -/
def hasP (l : List Pj) (nm : ByteArray) : Bool := l.any fun t => t.nm.toList == nm.toList
theorem cPjEq (q : Nat) (nm : ByteArray) (t : Pj) (w : World) (hq : w.cell? ⟨q, 0, none⟩ = some (.string nm)) : Calls Try.prog 57 #[t.v, .pointer (some ⟨q, 0, none⟩)] w fun e w' => e = .returned (.bool (t.nm.toList == nm.toList)) ∧ Kp [] w w' := by
  have hlt : q < w.heap.size := World.block_lt_of_cell? _ _ hq
  simp only [Pj.v]
  go_enter Try.func57, Try.ntmps57
  go_wp2_with fail
  go_returns
  exact ⟨rfl, (Kp.refl _ _).alloc _⟩
set_option maxHeartbeats 4000000 in
set_option maxRecDepth 100000 in
theorem cIndexP (a : Option Addr) (c q : Nat) (nm : ByteArray) (l : List Pj) (w : World) (hs : PjE.See w a l) (hq : w.cell? ⟨q, 0, none⟩ = some (.string nm)) (hf : l.length ≤ 9223372036854775807) :
    Calls Try.prog 76 #[.slice a l.length c, .func (.func 57) #[] #[.pointer (some ⟨q, 0, none⟩)]] w fun e w' => ∃ r, e = .returned (.int .i64 r) ∧ decide (0 ≤ r) = hasP l nm ∧ Kp [] w w' := by
  have hs' := hid hs
  have hq' := hid hq
  clear hs hq
  go_enter Try.func76, Try.ntmps76
  go_wp2_with fail
  go_loopw [8] (fun i wr => ∃ j : Nat, j ≤ l.length ∧ i = .int .i64 j ∧ Hid (hasP (l.take j) nm = false) ∧ Kp [] w wr) (fun i _ => l.length - (intOf i).toNat)
  case atStart => exact ⟨0, Nat.zero_le _, rfl, hid rfl, Kp.refl _ _⟩
  case round =>
    obtain ⟨j, hj, rfl, hst, kr⟩ := hrel
    by_cases hjl : j < l.length
    · have hx : l[j]? = some l[j] := by simp [hjl]
      obtain ⟨g, o, rfl, x0, x1, x2, x3, x4, x5⟩ := pjAt (hs'.out.keptNew kr) hx
      have cG := hid (cPjEq q nm l[j] wr (kpAt kr hq'.out))
      have htk : Hid (l.take (j + 1) = l.take j ++ [l[j]]) := by show _ = _; rw [List.take_succ_eq_append_getElem hjl]
      have hmm : Hid (l[j] ∈ l) := List.getElem_mem hjl
      clear hx
      have i1 : (0 : Int) ≤ (j : Int) := by omega
      have i2 : (j : Int) < (l.length : Int) := by omega
      have i3 : (j : Int) + 1 ≤ 9223372036854775807 := by omega
      obtain ⟨B, hB⟩ : ∃ B, Hid ((l[j].nm.toList == nm.toList) = B) := ⟨_, hid rfl⟩
      rw [hB.out] at cG
      have h1 : Hid (hasP (l.take (j + 1)) nm = B) := by
        show _ = _
        unfold hasP at hst ⊢
        rw [htk.out, List.any_append, hst.out]
        simp [hB.out]
      have h2 : Hid (B = true → hasP l nm = true) := fun e => by
        unfold hasP
        rw [List.any_eq_true]
        exact ⟨_, hmm.out, by rw [hB.out, e]⟩
      clear htk hmm hB
      generalize l[j] = x at *
      obtain ⟨tn, ttb, ca, cc, cl, sa, sc, sl, tby, tsh⟩ := x
      simp only [Pj.v] at *
      go_wp2_with fail
      refine cG.out.mono ?_
      rintro e w2 ⟨rfl, k2⟩
      have kw2 := kr.trans k2 (by simp)
      clear cG k2 x0 x1 x2 x3 x4 x5
      cases B with
      | false =>
        go_wp2_with fail
        exact ⟨⟨j + 1, by omega, by go_num, h1, kw2⟩, by simp [intOf]; omega⟩
      | true =>
        have h3 := hid (h2.out rfl)
        clear h2
        go_wp2_with fail
        go_ret
        exact ⟨_, rfl, by rw [h3.out]; simp, kw2⟩
    · have e : j = l.length := by omega
      subst e
      have h4 : Hid (hasP l nm = false) := by have := hst.out; rw [List.take_length] at this; exact hid this
      go_wp2_with fail
      go_ret
      exact ⟨_, rfl, by rw [h4.out]; rfl, kr⟩
theorem cContP (a : Option Addr) (c q : Nat) (nm : ByteArray) (l : List Pj) (w : World) (hs : PjE.See w a l) (hq : w.cell? ⟨q, 0, none⟩ = some (.string nm)) (hf : l.length ≤ 9223372036854775807) :
    Calls Try.prog 59 #[.slice a l.length c, .func (.func 57) #[] #[.pointer (some ⟨q, 0, none⟩)]] w fun e w' => e = .returned (.bool (hasP l nm)) ∧ Kp [] w w' := by
  have h := hid (cIndexP a c q nm l w hs hq hf)
  obtain ⟨X, hX⟩ : ∃ X, Hid (hasP l nm = X) := ⟨_, hid rfl⟩
  rw [hX.out]
  go_enter Try.func59, Try.ntmps59
  go_wp2_with fail
  refine h.out.mono ?_
  rintro e w' ⟨r, rfl, hr, k⟩
  have hr' : Hid (decide (0 ≤ r) = X) := by rw [hX.out] at hr; exact hid hr
  clear hr
  go_wp2_with fail
  go_returns
  exact ⟨by rw [hr'.out]; rfl, k⟩
/-- Which tables may be together: of the first ones. -/
def tabAt (l : List Tb) (j : Nat) : Bool := match l[j]? with
  | some t => (tableV t.nm t.l == 0) && !hasT (l.take j) t.nm
  | none => true
def tabTo (l : List Tb) (j : Nat) : Bool := (List.range j).all (tabAt l)
def tabsM (l : List Tb) : Bool := decide (l.length ≠ 0) && (decide (l.length ≤ 4) && tabTo l l.length)
theorem tabTo_succ (l : List Tb) (j : Nat) (h : j < l.length) : tabTo l (j + 1) = (tabTo l j && ((tableV l[j].nm l[j].l == 0) && !hasT (l.take j) l[j].nm)) := by
  unfold tabTo
  rw [List.range_succ, List.all_append]
  simp [tabAt, h]
theorem tabTo_mono (l : List Tb) (j k : Nat) (h : j ≤ k) (hf : tabTo l j = false) : tabTo l k = false := by
  unfold tabTo at hf ⊢
  rw [List.all_eq_false] at hf ⊢
  obtain ⟨x, hx, hx2⟩ := hf
  exact ⟨x, List.mem_range.2 (by have := List.mem_range.1 hx; omega), hx2⟩
set_option maxHeartbeats 4000000 in
set_option maxRecDepth 100000 in
theorem cTables (a : Option Addr) (c : Nat) (l : List Tb) (w : World) (hs : TbE.See w a l) (hok : ∀ t ∈ l, t.ok w) (hl : l.length ≤ c) (hc : c ≤ 9223372036854775807) :
    Calls Try.prog 34 #[.slice a l.length c] w fun e w' => e = .returned (.bool (tabsM l)) ∧ Kp [] w w' := by
  have hs' := hid hs
  have hok' := hid hok
  clear hs hok
  by_cases h0 : l.length = 0
  · have hR : Hid (tabsM l = false) := by show _ = _; unfold tabsM; simp [h0]
    rw [hR.out]
    have e0 : ((l.length : Int) == 0) = true := by simp [h0]
    clear h0
    go_enter Try.func34, Try.ntmps34
    go_wp2_with fail
    go_returns
    exact ⟨rfl, Kp.refl _ _⟩
  have e0 : ((l.length : Int) == 0) = false := by simpa using h0
  by_cases h4 : 4 < l.length
  · have hR : Hid (tabsM l = false) := by show _ = _; unfold tabsM; simp [show ¬ l.length ≤ 4 by omega]
    rw [hR.out]
    have e4 : decide ((4 : Int) < (l.length : Int)) = true := by simp; omega
    go_enter Try.func34, Try.ntmps34
    go_wp2_with fail
    go_returns
    exact ⟨rfl, Kp.refl _ _⟩
  have e4 : decide ((4 : Int) < (l.length : Int)) = false := by simp; omega
  have hR : Hid (tabsM l = tabTo l l.length) := by show _ = _; unfold tabsM; simp [h0, show l.length ≤ 4 by omega]
  rw [hR.out]
  obtain ⟨r, hr⟩ : ∃ r, Hid (tabTo l l.length = r) := ⟨_, rfl⟩
  rw [hr.out]
  clear hR h0
  go_enter Try.func34, Try.ntmps34
  go_wp2_with fail
  go_loopw [16] (fun i wr => ∃ j : Nat, j ≤ l.length ∧ i = .int .i64 j ∧ Hid (tabTo l j = true) ∧ Kp [] w wr) (fun i _ => l.length - (intOf i).toNat)
  case atStart => exact ⟨0, Nat.zero_le _, rfl, hid rfl, Kp.refl _ _⟩
  case round =>
    obtain ⟨j, hj, rfl, hst, kr⟩ := hrel
    by_cases hjl : j < l.length
    · have hx : l[j]? = some l[j] := by simp [hjl]
      obtain ⟨g, o, rfl, x0, x1⟩ := tbAt (hs'.out.keptNew kr) hx
      have hsu := hid (tabTo_succ l j hjl)
      have hmo := hid (tabTo_mono l (j + 1) l.length (by omega))
      have hto := hok'.out _ (List.getElem_mem hjl)
      have i1 : (0 : Int) ≤ (j : Int) := by omega
      have i2 : (j : Int) < (l.length : Int) := by omega
      have i3 : (j : Int) + 1 ≤ 9223372036854775807 := by omega
      have i4 : (j : Int) ≤ (c : Int) := by omega
      have hj2 : (l.take j).length = j := by rw [List.length_take]; omega
      generalize l[j] = t at *
      obtain ⟨WA, eWA⟩ : ∃ Y, wr.alloc (.cells #[.string ⟨#[]⟩, .slice none 0 0] 76) = Y := ⟨_, rfl⟩
      have kWA : Kp [] wr WA := by rw [← eWA]; exact (Kp.refl _ _).alloc _
      have zWA : WA.heap.size = wr.heap.size + 1 := by rw [← eWA]; simp
      have xWA : Bn WA (wr.heap.size) [.string ⟨#[]⟩, .slice none 0 0] := by rw [← eWA]; exact Bn.new wr [.string ⟨#[]⟩, .slice none 0 0] 76
      obtain ⟨WB, eWB⟩ : ∃ Y, ((WA.setCell ⟨wr.heap.size, 0, none⟩ (.string t.nm)).setCell ⟨wr.heap.size, 1, none⟩ (.slice t.a t.l.length t.c)) = Y := ⟨_, rfl⟩
      have kWB : Kp [wr.heap.size] WA WB := by rw [← eWB]; exact (((Kp.refl _ _).setCell (by simp) _).setCell (by simp) _)
      have xWB : Bn WB (wr.heap.size) [.string t.nm, .slice t.a t.l.length t.c] := by rw [← eWB]; exact ((xWA.set 0 (by simp) (.string t.nm)).set 1 (by simp) (.slice t.a t.l.length t.c))
      have zWB := kWB.size
      have ma0 := xWA.get 0 _ rfl; have ma1 := xWA.get 1 _ rfl
      have mf0 := xWA.free 0; have mf1 := xWA.free 1
      have pc0 := xWB.get 0 _ rfl; have pc1 := xWB.get 1 _ rfl
      have kB : Kp [] wr WB := kWA.trans kWB (fun x hx => .inr (by simp at hx; omega))
      have HB := hid (And.intro xWB kB)
      have aT := hid (cTable t.nm t.a t.c t.l WB ((hto.kept (kr.trans kB (by simp))).cols) hto.cap hto.max)
      obtain ⟨V, hV⟩ : ∃ V, Hid (tableV t.nm t.l = V) := ⟨_, rfl⟩
      obtain ⟨Z, hZ⟩ : ∃ Z, Hid (hasT (l.take j) t.nm = Z) := ⟨_, rfl⟩
      rw [hV.out] at aT
      have aC := hid (fun w' (k : Kp [] WB w') => cContT (some ⟨g, o, none⟩) c wr.heap.size t.nm (l.take j) w' (((hs'.out.keptNew kr).keptNew (kB.trans k (by simp))).front j) ((HB.out.1.kept k).get 0 _ rfl) (by omega))
      rw [hj2, hZ.out] at aC
      rw [hV.out, hZ.out, hst.out] at hsu
      have KR := hid (kr.trans kB (by simp))
      clear hj2 hV hZ hto hx kWA kWB xWA xWB kB
      obtain ⟨tn, ta, tc, tl⟩ := t
      simp only at *
      by_cases hv : V = 0
      · have dv : (V != 0) = false := by simpa using hv
        have hsu2 : Hid (tabTo l (j + 1) = !Z) := by show _ = _; rw [hsu.out, hv]; simp
        clear hsu hv
        go_wp2_with fail
        refine aT.out.mono ?_
        rintro e w2 ⟨rfl, k2⟩
        have K2 := hid k2
        clear k2 aT
        go_wp2_with fail
        refine (aC.out _ K2.out).mono ?_
        rintro e w3 ⟨rfl, k3⟩
        have kw3 := (KR.out.trans K2.out (by simp)).trans k3 (by simp)
        clear k3 aC K2 KR HB x0 x1 ma0 ma1 mf0 mf1 pc0 pc1 eWA eWB
        cases Z with
        | true =>
          have hR : Hid (r = false) := by show _ = _; rw [← hr.out]; exact hmo.out hsu2.out
          go_wp2_with fail
          go_ret
          exact ⟨by rw [hR.out]; rfl, kw3⟩
        | false =>
          go_wp2_with fail
          exact ⟨⟨j + 1, by omega, by go_num, hsu2, kw3⟩, by simp [intOf]; omega⟩
      · have dv : (V != 0) = true := by simpa using hv
        have hR : Hid (r = false) := by show _ = _; rw [← hr.out]; exact hmo.out (by rw [hsu.out]; simp [hv])
        clear hsu hv
        go_wp2_with fail
        refine aT.out.mono ?_
        rintro e w2 ⟨rfl, k2⟩
        have K2 := hid (KR.out.trans k2 (by simp))
        clear k2 aT
        go_wp2_with fail
        go_ret
        exact ⟨by rw [hR.out]; rfl, K2.out⟩
    · have e : j = l.length := by omega
      subst e
      have hR : Hid (r = true) := by show _ = _; rw [← hr.out]; exact hst.out
      go_wp2_with fail
      go_ret
      exact ⟨by rw [hR.out]; rfl, kr⟩
end Go.Proofs.Ytckicbaidbgonaa
end

section
namespace Go.Proofs.Ytckicbaidbgonaa
open Go.RowKit Go.Hay
set_option linter.unusedVariables false
set_option linter.unusedSimpArgs false

/-- How many columns a table has. -/
def manyC (c : Cg) (p : Pj) : Int := ((c.tl.getD p.tb.toNat default).l.length : Int)
/-- Which projections may be. -/
def pjM (c : Cg) (p : Pj) : Bool := namedV p.nm && (wi p.tb (c.tl.length : Int) && (wi p.sh c.n && (decide (0 < (p.cl.length : Int)) && (plM p.cl (manyC c p) && (plM p.sl (manyC c p) && (hvC p.cl p.sl && hvC p.cl [p.by_]))))))
theorem boxCP (c : Cg) (p : Pj) (w : World) : ∃ W, (w.alloc (.cells #[.int .i64 c.n, .int .i64 c.s, .int .i64 c.k, .slice c.ta c.tl.length c.tc, .slice c.pa c.pl.length c.pc] 25)).alloc (.cells #[.string p.nm, .int .i64 p.tb, .slice p.ca p.cl.length p.cc, .slice p.sa p.sl.length p.sc, .int .i64 p.by_, .int .i64 p.sh] 48) = W ∧ Kp [] w W ∧ W.heap.size = w.heap.size + 2 ∧ Bn W w.heap.size [.int .i64 c.n, .int .i64 c.s, .int .i64 c.k, .slice c.ta c.tl.length c.tc, .slice c.pa c.pl.length c.pc] ∧ Bn W (w.heap.size + 1) [.string p.nm, .int .i64 p.tb, .slice p.ca p.cl.length p.cc, .slice p.sa p.sl.length p.sc, .int .i64 p.by_, .int .i64 p.sh] := by
  refine ⟨_, rfl, ((Kp.refl _ _).alloc _).alloc _, by simp, ?_, ?_⟩
  · exact (Bn.new w [.int .i64 c.n, .int .i64 c.s, .int .i64 c.k, .slice c.ta c.tl.length c.tc, .slice c.pa c.pl.length c.pc] 25).kept ((Kp.refl _ _).alloc _)
  · have h := Bn.new (w.alloc (.cells #[.int .i64 c.n, .int .i64 c.s, .int .i64 c.k, .slice c.ta c.tl.length c.tc, .slice c.pa c.pl.length c.pc] 25)) [.string p.nm, .int .i64 p.tb, .slice p.ca p.cl.length p.cc, .slice p.sa p.sl.length p.sc, .int .i64 p.by_, .int .i64 p.sh] 48
    rw [World.size_alloc] at h
    exact h
theorem boxC (c : Cg) (w : World) : ∃ W, w.alloc (.cells #[.int .i64 c.n, .int .i64 c.s, .int .i64 c.k, .slice c.ta c.tl.length c.tc, .slice c.pa c.pl.length c.pc] 25) = W ∧ Kp [] w W ∧ W.heap.size = w.heap.size + 1 ∧ Bn W w.heap.size [.int .i64 c.n, .int .i64 c.s, .int .i64 c.k, .slice c.ta c.tl.length c.tc, .slice c.pa c.pl.length c.pc] :=
  ⟨_, rfl, (Kp.refl _ _).alloc _, by simp, Bn.new w [.int .i64 c.n, .int .i64 c.s, .int .i64 c.k, .slice c.ta c.tl.length c.tc, .slice c.pa c.pl.length c.pc] 25⟩
set_option maxHeartbeats 4000000 in
set_option maxRecDepth 100000 in
theorem cProj (c : Cg) (p : Pj) (w : World) (hc : c.ok w) (hp : p.ok w) : Calls Try.prog 58 #[c.v, p.v] w fun e w' => e = .returned (.bool (pjM c p)) ∧ Kp [] w w' := by
  obtain ⟨r, hr⟩ : ∃ r, Hid (pjM c p = r) := ⟨_, hid rfl⟩
  rw [hr.out]
  obtain ⟨W, eW, kW, zW, bC, bP⟩ := boxCP c p w
  have HC := hid (hc.kept kW)
  have HP := hid (hp.kept kW)
  have aW1 := hid (cWithin p.tb (c.tl.length : Int))
  have aW2 := hid (cWithin p.sh c.n)
  have KW := hid kW
  have c0 := bC.get 0 _ rfl; have c1 := bC.get 1 _ rfl; have c2 := bC.get 2 _ rfl; have c3 := bC.get 3 _ rfl; have c4 := bC.get 4 _ rfl
  have p0 := bP.get 0 _ rfl; have p1 := bP.get 1 _ rfl; have p2 := bP.get 2 _ rfl; have p3 := bP.get 3 _ rfl; have p4 := bP.get 4 _ rfl; have p5 := bP.get 5 _ rfl
  have hsz : Hid (W.heap.size = w.heap.size + 2) := hid zW
  have zW' : w.heap.size + 1 < W.heap.size := by omega
  have BP := hid bP
  clear hc hp kW zW bC bP
  unfold pjM at hr
  simp only [Cg.v, Pj.v]
  by_cases h0 : p.nm.size = 0
  · have d0 : ((p.nm.size : Int) == 0) = true := by simp [h0]
    have hN : namedV p.nm = false := by unfold namedV; simp [h0]
    rw [hN] at hr
    clear h0 hN
    go_enter Try.func58, Try.ntmps58
    go_wp2_with fail
    go_ret
    exact ⟨by rw [← hr.out]; rfl, KW.out⟩
  have d0 : ((p.nm.size : Int) == 0) = false := by simpa using h0
  by_cases h64 : 64 < p.nm.size
  · have d1 : decide ((64 : Int) < (p.nm.size : Int)) = true := by simp; omega
    have hN : namedV p.nm = false := by unfold namedV; simp; omega
    rw [hN] at hr
    clear hN
    go_enter Try.func58, Try.ntmps58
    go_wp2_with fail
    go_ret
    exact ⟨by rw [← hr.out]; rfl, KW.out⟩
  have d1 : decide ((64 : Int) < (p.nm.size : Int)) = false := by simp; omega
  have hN : namedV p.nm = true := by unfold namedV; simp; omega
  rw [hN] at hr
  clear h0 hN
  go_enter Try.func58, Try.ntmps58
  go_wp2_with fail
  obtain ⟨X, hX⟩ : ∃ X, Hid (wi p.tb (c.tl.length : Int) = X) := ⟨_, hid rfl⟩
  rw [hX.out] at aW1 hr
  refine (aW1.out _).mono ?_
  rintro e w2 ⟨rfl, e2⟩
  rw [e2]
  clear e2 w2
  cases X with
  | false =>
    go_wp2_with fail
    go_ret
    exact ⟨by rw [← hr.out]; rfl, KW.out⟩
  | true =>
  go_wp2_with fail
  obtain ⟨Y, hY⟩ : ∃ Y, Hid (wi p.sh c.n = Y) := ⟨_, hid rfl⟩
  rw [hY.out] at aW2 hr
  refine (aW2.out _).mono ?_
  rintro e w3 ⟨rfl, e3⟩
  rw [e3]
  clear e3 w3
  cases Y with
  | false =>
    go_wp2_with fail
    go_ret
    exact ⟨by rw [← hr.out]; rfl, KW.out⟩
  | true =>
  have hX' := hX.out
  unfold wi at hX'
  simp only [Bool.and_eq_true, decide_eq_true_eq] at hX'
  obtain ⟨i, hi⟩ := Int.eq_ofNat_of_zero_le hX'.1
  have hil : i < c.tl.length := by omega
  obtain ⟨g, f, eg, x0, x1⟩ := tbAt HC.out.ts (j := i) (t := c.tl[i]) (by simp [hil])
  obtain ⟨M, hM⟩ : ∃ M, Hid (c.tl[i].l.length = M) := ⟨_, hid rfl⟩
  have hMc : Hid (manyC c p = (M : Int)) := by show _ = _; unfold manyC; rw [hi]; simp [hil, hM.out]
  rw [hM.out] at x1
  rw [hMc.out] at hr
  have i1 : (0 : Int) ≤ (i : Int) := by omega
  have i2 : (i : Int) < (c.tl.length : Int) := by omega
  rw [hi] at p1
  rw [eg] at c3
  clear hX' aW1 aW2 hX hY
  have b1 := hid (fun w' (k : Kp [] W w') => cPlaces p.ca p.cc p.cl (M : Int) w' (HP.out.cols.keptNew k) HP.out.ccap HP.out.cmax)
  have b2 := hid (fun w' (k : Kp [] W w') => cPlaces p.sa p.sc p.sl (M : Int) w' (HP.out.sort.keptNew k) HP.out.scap HP.out.smax)
  have b3 := hid (fun w' (k : Kp [] W w') => cColsHave p p.sa p.sc p.sl w' (HP.out.kept k) (HP.out.sort.keptNew k) (by have := HP.out.scap; have := HP.out.smax; omega))
  have b4 := hid (fun w' (k : Kp [] W w') (a : Option Addr) (s : IntE.See w' a [p.by_]) => cColsHave p a 1 [p.by_] w' (HP.out.kept k) s (by simp))
  simp only [Pj.v, hi, List.length_cons, List.length_nil, Nat.zero_add] at b3 b4
  have HB : Hid (∀ w', Kp [] W w' → w'.cell? ⟨w.heap.size + 1, 0, none⟩ = some (.string p.nm) ∧ w'.cell? ⟨w.heap.size + 1, 1, none⟩ = some (.int .i64 p.tb) ∧ w'.cell? ⟨w.heap.size + 1, 2, none⟩ = some (.slice p.ca p.cl.length p.cc) ∧ w'.cell? ⟨w.heap.size + 1, 3, none⟩ = some (.slice p.sa p.sl.length p.sc) ∧ w'.cell? ⟨w.heap.size + 1, 4, none⟩ = some (.int .i64 p.by_) ∧ w'.cell? ⟨w.heap.size + 1, 5, none⟩ = some (.int .i64 p.sh)) := fun w' k => by
    have := BP.out.kept k
    exact ⟨this.get 0 _ rfl, this.get 1 _ rfl, this.get 2 _ rfl, this.get 3 _ rfl, this.get 4 _ rfl, this.get 5 _ rfl⟩
  rw [hi] at HB
  by_cases h5 : 0 < p.cl.length
  rotate_left
  · have d5 : decide (0 < (p.cl.length : Int)) = false := by simp; simpa using h5
    have d5' : decide ((0 : Int) < (p.cl.length : Int)) = false := d5
    rw [d5] at hr
    go_wp2_with fail
    go_ret
    exact ⟨by rw [← hr.out]; rfl, KW.out⟩
  have d5 : decide (0 < (p.cl.length : Int)) = true := by simp; omega
  rw [d5] at hr
  have d6 : (0 : Int) < (p.cl.length : Int) := by omega
  go_wp2_with fail
  obtain ⟨A, hA⟩ : ∃ A, Hid (plM p.cl (M : Int) = A) := ⟨_, hid rfl⟩
  have qA := hid (b1.out W (Kp.refl _ _))
  rw [hA.out] at qA hr
  refine qA.out.mono ?_
  rintro e w4 ⟨rfl, kA⟩
  have KA : Hid (Kp [] W w4) := hid kA
  clear kA qA p0 p1 p2 p3 p4 p5
  obtain ⟨p0, p1, p2, p3, p4, p5⟩ := HB.out _ KA.out
  cases A with
  | false =>
    go_wp2_with fail
    go_ret
    exact ⟨by rw [← hr.out]; rfl, KW.out.trans KA.out (by simp)⟩
  | true =>
  go_wp2_with fail
  obtain ⟨B, hB⟩ : ∃ B, Hid (plM p.sl (M : Int) = B) := ⟨_, hid rfl⟩
  have qB := hid (b2.out w4 KA.out)
  rw [hB.out] at qB hr
  refine qB.out.mono ?_
  rintro e w5 ⟨rfl, kB⟩
  have KB : Hid (Kp [] W w5) := hid (KA.out.trans kB (by simp))
  clear kB qB p0 p1 p2 p3 p4 p5
  obtain ⟨p0, p1, p2, p3, p4, p5⟩ := HB.out _ KB.out
  cases B with
  | false =>
    go_wp2_with fail
    go_ret
    exact ⟨by rw [← hr.out]; rfl, KW.out.trans KB.out (by simp)⟩
  | true =>
  go_wp2_with fail
  obtain ⟨C, hC⟩ : ∃ C, Hid (hvC p.cl p.sl = C) := ⟨_, hid rfl⟩
  have qC := hid (b3.out w5 KB.out)
  rw [hC.out] at qC hr
  refine qC.out.mono ?_
  rintro e w6 ⟨rfl, kC⟩
  have KC : Hid (Kp [] W w6) := hid (KB.out.trans kC (by simp))
  clear kC qC p0 p1 p2 p3 p4 p5
  obtain ⟨p0, p1, p2, p3, p4, p5⟩ := HB.out _ KC.out
  cases C with
  | false =>
    go_wp2_with fail
    go_ret
    exact ⟨by rw [← hr.out]; rfl, KW.out.trans KC.out (by simp)⟩
  | true =>
  obtain ⟨W7, e7⟩ : ∃ Y, w6.alloc (.cells #[.int .i64 p.by_] 3) = Y := ⟨_, rfl⟩
  have k7 : Kp [] w6 W7 := by rw [← e7]; exact (Kp.refl _ _).alloc _
  have s7 : IntE.See W7 (some ⟨w6.heap.size, 0, none⟩) [p.by_] := by
    refine .inr ⟨w6.heap.size, 0, rfl, fun j u hu => ?_⟩
    have e : W7.cell? ⟨w6.heap.size, 0 + j, none⟩ = (#[Value.int .i64 p.by_] : Array Value)[0 + j]? := by rw [← e7]; exact World.cell?_alloc_new w6 _ _ (0 + j)
    rw [e, Nat.zero_add]
    simpa [El.cs, IntE] using hu
  have K7 := hid (KC.out.trans k7 (by simp))
  obtain ⟨D, hD⟩ : ∃ D, Hid (hvC p.cl [p.by_] = D) := ⟨_, hid rfl⟩
  have qD := hid (b4.out W7 K7.out _ s7)
  rw [hD.out] at qD hr
  have hrD : Hid (D = r) := by have := hr.out; exact hid (by simpa using this)
  clear k7 s7 hr
  go_wp2_with fail
  refine qD.out.mono ?_
  rintro e w8 ⟨rfl, k8⟩
  go_wp2_with fail
  go_ret
  exact ⟨by rw [hrD.out]; rfl, (KW.out.trans K7.out (by simp)).trans k8 (by simp)⟩
end Go.Proofs.Ytckicbaidbgonaa
end

section
namespace Go.Proofs.Ytckicbaidbgonaa
open Go.RowKit Go.Hay
set_option linter.unusedVariables false
set_option linter.unusedSimpArgs false

/-- Which projections may be together: of the first ones. -/
def pjAtC (c : Cg) (j : Nat) : Bool := match c.pl[j]? with
  | some p => pjM c p && !hasP (c.pl.take j) p.nm
  | none => true
def pjsTo (c : Cg) (j : Nat) : Bool := (List.range j).all (pjAtC c)
def pjsM (c : Cg) : Bool := decide (c.pl.length ≤ 8) && pjsTo c c.pl.length
theorem pjsTo_succ (c : Cg) (j : Nat) (h : j < c.pl.length) : pjsTo c (j + 1) = (pjsTo c j && (pjM c c.pl[j] && !hasP (c.pl.take j) c.pl[j].nm)) := by
  unfold pjsTo
  rw [List.range_succ, List.all_append]
  simp [pjAtC, h]
theorem pjsTo_mono (c : Cg) (j k : Nat) (h : j ≤ k) (hf : pjsTo c j = false) : pjsTo c k = false := by
  unfold pjsTo at hf ⊢
  rw [List.all_eq_false] at hf ⊢
  obtain ⟨x, hx, hx2⟩ := hf
  exact ⟨x, List.mem_range.2 (by have := List.mem_range.1 hx; omega), hx2⟩
set_option maxHeartbeats 4000000 in
set_option maxRecDepth 100000 in
theorem cProjs (c : Cg) (w : World) (hc : c.ok w) : Calls Try.prog 35 #[c.v] w fun e w' => e = .returned (.bool (pjsM c)) ∧ Kp [] w w' := by
  obtain ⟨W, eW, kW, zW, bC⟩ := boxC c w
  have HC := hid hc
  have hcap := hc.pcap
  have hmax := hc.pmax
  have c4 := bC.get 4 _ rfl
  have KW := hid kW
  have BC := hid bC
  have zW' : w.heap.size < W.heap.size := by omega
  clear hc kW bC zW
  simp only [Cg.v]
  obtain ⟨pa, hpa⟩ : ∃ pa, Hid (c.pa = pa) := ⟨_, hid rfl⟩
  rw [hpa.out] at c4 eW BC
  rw [hpa.out]
  by_cases h8 : 8 < c.pl.length
  · have hR : Hid (pjsM c = false) := by show _ = _; unfold pjsM; simp [show ¬ c.pl.length ≤ 8 by omega]
    rw [hR.out]
    have e8 : decide ((8 : Int) < (c.pl.length : Int)) = true := by simp; omega
    go_enter Try.func35, Try.ntmps35
    go_wp2_with fail
    go_returns
    exact ⟨rfl, KW.out⟩
  have e8 : decide ((8 : Int) < (c.pl.length : Int)) = false := by simp; omega
  have hR : Hid (pjsM c = pjsTo c c.pl.length) := by show _ = _; unfold pjsM; simp [show c.pl.length ≤ 8 by omega]
  rw [hR.out]
  obtain ⟨r, hr⟩ : ∃ r, Hid (pjsTo c c.pl.length = r) := ⟨_, hid rfl⟩
  rw [hr.out]
  clear hR
  go_enter Try.func35, Try.ntmps35
  go_wp2_with fail
  go_loopw [13] (fun i wr => ∃ j : Nat, j ≤ c.pl.length ∧ i = .int .i64 j ∧ Hid (pjsTo c j = true) ∧ Hid (Bn wr w.heap.size [.int .i64 c.n, .int .i64 c.s, .int .i64 c.k, .slice c.ta c.tl.length c.tc, .slice pa c.pl.length c.pc]) ∧ Kp [] w wr) (fun i _ => c.pl.length - (intOf i).toNat)
  case atStart => exact ⟨0, Nat.zero_le _, rfl, hid rfl, BC, KW.out⟩
  case round =>
    obtain ⟨j, hj, rfl, hst, bx, kr⟩ := hrel
    clear BC KW c4 eW zW'
    by_cases hjl : j < c.pl.length
    · have hx : c.pl[j]? = some c.pl[j] := by simp [hjl]
      obtain ⟨g, o, eg, x0, x1, x2, x3, x4, x5⟩ := pjAt (HC.out.ps.keptNew kr) hx
      rw [hpa.out] at eg
      subst eg
      have hsu := hid (pjsTo_succ c j hjl)
      have hmo := hid (pjsTo_mono c (j + 1) c.pl.length (by omega))
      have hpo := HC.out.pok _ (List.getElem_mem hjl)
      have i1 : (0 : Int) ≤ (j : Int) := by omega
      have i2 : (j : Int) < (c.pl.length : Int) := by omega
      have i3 : (j : Int) + 1 ≤ 9223372036854775807 := by omega
      have i4 : (j : Int) ≤ (c.pc : Int) := by omega
      have hj2 : (c.pl.take j).length = j := by rw [List.length_take]; omega
      generalize c.pl[j] = p at *
      obtain ⟨WA, eWA⟩ : ∃ Y, wr.alloc (.cells #[.string ⟨#[]⟩, .int .i64 0, .slice none 0 0, .slice none 0 0, .int .i64 0, .int .i64 0] 48) = Y := ⟨_, rfl⟩
      have kWA : Kp [] wr WA := by rw [← eWA]; exact (Kp.refl _ _).alloc _
      have zWA : WA.heap.size = wr.heap.size + 1 := by rw [← eWA]; simp
      have xWA : Bn WA (wr.heap.size) [.string ⟨#[]⟩, .int .i64 0, .slice none 0 0, .slice none 0 0, .int .i64 0, .int .i64 0] := by rw [← eWA]; exact Bn.new wr [.string ⟨#[]⟩, .int .i64 0, .slice none 0 0, .slice none 0 0, .int .i64 0, .int .i64 0] 48
      obtain ⟨WB, eWB⟩ : ∃ Y, ((((((WA.setCell ⟨wr.heap.size, 0, none⟩ (.string p.nm)).setCell ⟨wr.heap.size, 1, none⟩ (.int .i64 p.tb)).setCell ⟨wr.heap.size, 2, none⟩ (.slice p.ca p.cl.length p.cc)).setCell ⟨wr.heap.size, 3, none⟩ (.slice p.sa p.sl.length p.sc)).setCell ⟨wr.heap.size, 4, none⟩ (.int .i64 p.by_)).setCell ⟨wr.heap.size, 5, none⟩ (.int .i64 p.sh)) = Y := ⟨_, rfl⟩
      have kWB : Kp [wr.heap.size] WA WB := by rw [← eWB]; exact (((((((Kp.refl _ _).setCell (by simp) _).setCell (by simp) _).setCell (by simp) _).setCell (by simp) _).setCell (by simp) _).setCell (by simp) _)
      have xWB : Bn WB (wr.heap.size) [.string p.nm, .int .i64 p.tb, .slice p.ca p.cl.length p.cc, .slice p.sa p.sl.length p.sc, .int .i64 p.by_, .int .i64 p.sh] := by rw [← eWB]; exact ((((((xWA.set 0 (by simp) (.string p.nm)).set 1 (by simp) (.int .i64 p.tb)).set 2 (by simp) (.slice p.ca p.cl.length p.cc)).set 3 (by simp) (.slice p.sa p.sl.length p.sc)).set 4 (by simp) (.int .i64 p.by_)).set 5 (by simp) (.int .i64 p.sh))
      have zWB := kWB.size
      have ma0 := xWA.get 0 _ rfl; have ma1 := xWA.get 1 _ rfl; have ma2 := xWA.get 2 _ rfl; have ma3 := xWA.get 3 _ rfl; have ma4 := xWA.get 4 _ rfl; have ma5 := xWA.get 5 _ rfl
      have mf0 := xWA.free 0; have mf1 := xWA.free 1; have mf2 := xWA.free 2; have mf3 := xWA.free 3; have mf4 := xWA.free 4; have mf5 := xWA.free 5
      have pp0 := xWB.get 0 _ rfl; have pp1 := xWB.get 1 _ rfl; have pp2 := xWB.get 2 _ rfl; have pp3 := xWB.get 3 _ rfl; have pp4 := xWB.get 4 _ rfl; have pp5 := xWB.get 5 _ rfl
      have kB : Kp [] wr WB := kWA.trans kWB (fun x hx => .inr (by simp at hx; omega))
      have HB := hid (And.intro xWB kB)
      have bxB := bx.out.kept kB
      have aT := hid (cProj c p WB (HC.out.kept (kr.trans kB (by simp))) (hpo.kept (kr.trans kB (by simp))))
      obtain ⟨V, hV⟩ : ∃ V, Hid (pjM c p = V) := ⟨_, hid rfl⟩
      obtain ⟨Z, hZ⟩ : ∃ Z, Hid (hasP (c.pl.take j) p.nm = Z) := ⟨_, hid rfl⟩
      rw [hV.out] at aT
      have aC := hid (fun w' (k : Kp [] WB w') => cContP c.pa c.pc wr.heap.size p.nm (c.pl.take j) w' (((HC.out.ps.keptNew kr).keptNew (kB.trans k (by simp))).front j) ((HB.out.1.kept k).get 0 _ rfl) (by omega))
      rw [hj2, hZ.out] at aC
      rw [hV.out, hZ.out, hst.out] at hsu
      have KR := hid (kr.trans kB (by simp))
      have BXB := hid bxB
      have cc0 := bxB.get 0 _ rfl; have cc1 := bxB.get 1 _ rfl; have cc2 := bxB.get 2 _ rfl; have cc3 := bxB.get 3 _ rfl; have cc4 := bxB.get 4 _ rfl
      simp only [Cg.v, Pj.v] at aT
      have wlt := bx.out.lt (by simp)
      have bx1 := bx.out.get 4 _ rfl
      clear hj2 hV hZ hpo hx kWA kWB xWA xWB kB bxB
      rw [hpa.out] at aC aT
      cases V with
      | true =>
        have hsu2 : Hid (pjsTo c (j + 1) = !Z) := by show _ = _; rw [hsu.out]; simp
        clear hsu
        go_wp2_with fail
        refine aT.out.mono ?_
        rintro e w2 ⟨rfl, k2⟩
        have K2 := hid k2
        have d4 := (BXB.out.kept k2).get 4 _ rfl
        clear k2 aT
        go_wp2_with fail
        refine (aC.out _ K2.out).mono ?_
        rintro e w3 ⟨rfl, k3⟩
        have kw3 := (KR.out.trans K2.out (by simp)).trans k3 (by simp)
        have bx3 := hid (BXB.out.kept (K2.out.trans k3 (by simp)))
        clear k3 aC K2 KR HB x0 x1 x2 x3 x4 x5 ma0 ma1 ma2 ma3 ma4 ma5 mf0 mf1 mf2 mf3 mf4 mf5 pp0 pp1 pp2 pp3 pp4 pp5 eWA eWB cc0 cc1 cc2 cc3 cc4 d4 bx1
        cases Z with
        | true =>
          have hR : Hid (r = false) := by show _ = _; rw [← hr.out]; exact hmo.out hsu2.out
          go_wp2_with fail
          go_ret
          exact ⟨by rw [hR.out]; rfl, kw3⟩
        | false =>
          go_wp2_with fail
          exact ⟨⟨j + 1, by omega, by go_num, hsu2, bx3, kw3⟩, by simp [intOf]; omega⟩
      | false =>
        have hR : Hid (r = false) := by show _ = _; rw [← hr.out]; exact hmo.out (by rw [hsu.out]; simp)
        clear hsu
        go_wp2_with fail
        refine aT.out.mono ?_
        rintro e w2 ⟨rfl, k2⟩
        have K2 := hid (KR.out.trans k2 (by simp))
        clear k2 aT
        go_wp2_with fail
        go_ret
        exact ⟨by rw [hR.out]; rfl, K2.out⟩
    · have e : j = c.pl.length := by omega
      have hR : Hid (r = true) := by show _ = _; rw [← hr.out, ← e]; exact hst.out
      have hjl2 : ((j : Int) < (c.pl.length : Int)) = False := by simp [e]
      subst e
      go_wp2_with fail
      go_ret
      exact ⟨by rw [hR.out]; rfl, kr⟩
end Go.Proofs.Ytckicbaidbgonaa
end

section
namespace Go.Proofs.Ytckicbaidbgonaa
open Go.RowKit Go.Hay
set_option linter.unusedVariables false
set_option linter.unusedSimpArgs false

/-- Do two projections of a table have so many bits together? -/
def cvP (t : Int) (A : Nat) (p q : Pj) : Bool := (p.tb == t) && ((q.tb == t) && ((cbt p.cl ||| cbt q.cl) == A))
def cvIn (l : List Pj) (t : Int) (A : Nat) (i m : Nat) : Bool := (List.range m).any fun k => cvP t A (l.getD i default) (l.getD (i + k) default)
def cvTo (l : List Pj) (t : Int) (A : Nat) (j : Nat) : Bool := (List.range j).any fun i => cvIn l t A i (l.length - i)
theorem cvIn_succ (l : List Pj) (t : Int) (A i m : Nat) : cvIn l t A i (m + 1) = (cvIn l t A i m || cvP t A (l.getD i default) (l.getD (i + m) default)) := by
  unfold cvIn
  rw [List.range_succ, List.any_append]
  simp
theorem cvTo_succ (l : List Pj) (t : Int) (A j : Nat) : cvTo l t A (j + 1) = (cvTo l t A j || cvIn l t A j (l.length - j)) := by
  unfold cvTo
  rw [List.range_succ, List.any_append]
  simp
theorem cv_true (l : List Pj) (t : Int) (A i m : Nat) (hi : i < l.length) (hm : i + m < l.length) (h : cvP t A (l.getD i default) (l.getD (i + m) default) = true) : cvTo l t A l.length = true := by
  unfold cvTo
  rw [List.any_eq_true]
  refine ⟨i, List.mem_range.2 hi, ?_⟩
  unfold cvIn
  rw [List.any_eq_true]
  exact ⟨m, List.mem_range.2 (by omega), h⟩
theorem cbt_lt8 {p : Pj} (h : ∀ y ∈ p.cl, 0 ≤ y ∧ y < 8) : cbt p.cl < 256 := cbt_lt _ 0 (by omega) h
set_option maxHeartbeats 8000000 in
set_option maxRecDepth 100000 in
theorem cCovered (c : Cg) (t : Int) (A : Nat) (w : World) (hc : c.ok w) (h8 : ∀ p ∈ c.pl, ∀ y ∈ p.cl, 0 ≤ y ∧ y < 8) : Calls Try.prog 60 #[c.v, .int .i64 t, .int .u64 (A : Int)] w fun e w' => e = .returned (.bool (cvTo c.pl t A c.pl.length)) ∧ Kp [] w w' := by
  obtain ⟨W, eW, kW, zW, bC⟩ := boxC c w
  have HC := hid hc
  have H8 := hid h8
  have hcap := hc.pcap
  have hmax := hc.pmax
  have c4 := bC.get 4 _ rfl
  have KW := hid kW
  have BC := hid bC
  have zW' : w.heap.size < W.heap.size := by omega
  obtain ⟨r, hr⟩ : ∃ r, Hid (cvTo c.pl t A c.pl.length = r) := ⟨_, hid rfl⟩
  rw [hr.out]
  clear hc kW bC zW h8
  simp only [Cg.v]
  obtain ⟨pa, hpa⟩ : ∃ pa, Hid (c.pa = pa) := ⟨_, hid rfl⟩
  rw [hpa.out] at c4 eW BC
  rw [hpa.out]
  go_enter Try.func60, Try.ntmps60
  go_wp2_with fail
  go_loopw [14] (fun i wr => ∃ j : Nat, j ≤ c.pl.length ∧ i = .int .i64 j ∧ Hid (cvTo c.pl t A j = false) ∧ Hid (Bn wr w.heap.size [.int .i64 c.n, .int .i64 c.s, .int .i64 c.k, .slice c.ta c.tl.length c.tc, .slice pa c.pl.length c.pc]) ∧ Kp [] w wr) (fun i _ => c.pl.length - (intOf i).toNat)
  case atStart => exact ⟨0, Nat.zero_le _, rfl, hid rfl, BC, KW.out⟩
  case round =>
    obtain ⟨j, hj, rfl, hst, bx, kr⟩ := hrel
    clear BC KW c4 eW zW'
    by_cases hjl : j < c.pl.length
    · have hx : c.pl[j]? = some c.pl[j] := by simp [hjl]
      obtain ⟨g, o, eg, x0, x1, x2, x3, x4, x5⟩ := pjAt (HC.out.ps.keptNew kr) hx
      rw [hpa.out] at eg
      subst eg
      have hsu := hid (cvTo_succ c.pl t A j)
      have hpo := HC.out.pok _ (List.getElem_mem hjl)
      have hp8 := hid (H8.out _ (List.getElem_mem hjl))
      have hgd : Hid (c.pl.getD j default = c.pl[j]) := by show _ = _; simp [hjl]
      have i1 : (0 : Int) ≤ (j : Int) := by omega
      have i2 : (j : Int) < (c.pl.length : Int) := by omega
      have i3 : (j : Int) + 1 ≤ 9223372036854775807 := by omega
      have i4 : (j : Int) ≤ (c.pc : Int) := by omega
      generalize c.pl[j] = p at *
      obtain ⟨WA, eWA⟩ : ∃ Y, wr.alloc (.cells #[.string ⟨#[]⟩, .int .i64 0, .slice none 0 0, .slice none 0 0, .int .i64 0, .int .i64 0] 48) = Y := ⟨_, rfl⟩
      have kWA : Kp [] wr WA := by rw [← eWA]; exact (Kp.refl _ _).alloc _
      have zWA : WA.heap.size = wr.heap.size + 1 := by rw [← eWA]; simp
      have xWA : Bn WA (wr.heap.size) [.string ⟨#[]⟩, .int .i64 0, .slice none 0 0, .slice none 0 0, .int .i64 0, .int .i64 0] := by rw [← eWA]; exact Bn.new wr [.string ⟨#[]⟩, .int .i64 0, .slice none 0 0, .slice none 0 0, .int .i64 0, .int .i64 0] 48
      obtain ⟨WB, eWB⟩ : ∃ Y, ((((((WA.setCell ⟨wr.heap.size, 0, none⟩ (.string p.nm)).setCell ⟨wr.heap.size, 1, none⟩ (.int .i64 p.tb)).setCell ⟨wr.heap.size, 2, none⟩ (.slice p.ca p.cl.length p.cc)).setCell ⟨wr.heap.size, 3, none⟩ (.slice p.sa p.sl.length p.sc)).setCell ⟨wr.heap.size, 4, none⟩ (.int .i64 p.by_)).setCell ⟨wr.heap.size, 5, none⟩ (.int .i64 p.sh)) = Y := ⟨_, rfl⟩
      have kWB : Kp [wr.heap.size] WA WB := by rw [← eWB]; exact (((((((Kp.refl _ _).setCell (by simp) _).setCell (by simp) _).setCell (by simp) _).setCell (by simp) _).setCell (by simp) _).setCell (by simp) _)
      have xWB : Bn WB (wr.heap.size) [.string p.nm, .int .i64 p.tb, .slice p.ca p.cl.length p.cc, .slice p.sa p.sl.length p.sc, .int .i64 p.by_, .int .i64 p.sh] := by rw [← eWB]; exact ((((((xWA.set 0 (by simp) (.string p.nm)).set 1 (by simp) (.int .i64 p.tb)).set 2 (by simp) (.slice p.ca p.cl.length p.cc)).set 3 (by simp) (.slice p.sa p.sl.length p.sc)).set 4 (by simp) (.int .i64 p.by_)).set 5 (by simp) (.int .i64 p.sh))
      have zWB := kWB.size
      have ma0 := xWA.get 0 _ rfl; have ma1 := xWA.get 1 _ rfl; have ma2 := xWA.get 2 _ rfl; have ma3 := xWA.get 3 _ rfl; have ma4 := xWA.get 4 _ rfl; have ma5 := xWA.get 5 _ rfl
      have mf0 := xWA.free 0; have mf1 := xWA.free 1; have mf2 := xWA.free 2; have mf3 := xWA.free 3; have mf4 := xWA.free 4; have mf5 := xWA.free 5
      have pp0 := xWB.get 0 _ rfl; have pp1 := xWB.get 1 _ rfl; have pp2 := xWB.get 2 _ rfl; have pp3 := xWB.get 3 _ rfl; have pp4 := xWB.get 4 _ rfl; have pp5 := xWB.get 5 _ rfl
      have kB : Kp [] wr WB := kWA.trans kWB (fun x hx => .inr (by simp at hx; omega))
      have bxB := bx.out.kept kB
      have BXB := hid bxB
      have XWB := hid xWB
      have KR := hid (kr.trans kB (by simp))
      have cc4 := bxB.get 4 _ rfl
      have wlt := bx.out.lt (by simp)
      have bx1 := bx.out.get 4 _ rfl
      have HPO := hid hpo
      clear hpo hx kWA kWB xWA xWB kB bxB
      go_wp2_with fail
      generalize wr.heap.size = qp at *
      have hqw : w.heap.size < qp := wlt
      obtain ⟨N, hN⟩ : ∃ N, Hid (c.pl.length - j = N) := ⟨_, hid rfl⟩
      rw [hN.out]
      have hN2 : N ≤ 9223372036854775807 := by have := hN.out; omega
      clear x0 x1 x2 x3 x4 x5 ma0 ma1 ma2 ma3 ma4 ma5 mf0 mf1 mf2 mf3 mf4 mf5 pp0 pp1 pp2 pp3 pp4 pp5 eWA eWB cc4 bx1 bx
      go_loopw [24] (fun i wn => ∃ m : Nat, m ≤ N ∧ i = .int .i64 m ∧ Hid (cvIn c.pl t A j m = false) ∧ Hid (Bn wn w.heap.size [.int .i64 c.n, .int .i64 c.s, .int .i64 c.k, .slice c.ta c.tl.length c.tc, .slice (some ⟨g, o, none⟩) c.pl.length c.pc]) ∧ Hid (Bn wn qp [.string p.nm, .int .i64 p.tb, .slice p.ca p.cl.length p.cc, .slice p.sa p.sl.length p.sc, .int .i64 p.by_, .int .i64 p.sh]) ∧ Kp [] w wn) (fun i _ => N - (intOf i).toNat)
      case atStart => exact ⟨0, Nat.zero_le _, rfl, hid rfl, BXB, XWB, KR.out⟩
      case round =>
        obtain ⟨m, hm, rfl, hin, bx, bp, km⟩ := hrel
        clear BXB XWB KR
        by_cases hml : m < N
        · have hjm : j + m < c.pl.length := by have := hN.out; omega
          have hx : c.pl[j + m]? = some c.pl[j + m] := by simp [hjm]
          obtain ⟨g2, o2, eg, x0, x1, x2, x3, x4, x5⟩ := pjAt (HC.out.ps.keptNew km) hx
          rw [hpa.out] at eg
          injection eg with eg
          injection eg with eg1 eg2
          subst eg1 eg2
          have eo : o + (j + m) * 6 = o + j * 6 + m * 6 := by omega
          rw [eo] at x0 x1 x2 x3 x4 x5
          have hqo := HC.out.pok _ (List.getElem_mem hjm)
          have hq8 := hid (H8.out _ (List.getElem_mem hjm))
          have hgq : Hid (c.pl.getD (j + m) default = c.pl[j + m]) := by show _ = _; simp [hjm]
          have hins := hid (cvIn_succ c.pl t A j m)
          have htr := hid (cv_true c.pl t A j m (by omega) hjm)
          rw [hin.out, hgd.out, hgq.out] at hins
          rw [hgd.out, hgq.out] at htr
          have m1 : (0 : Int) ≤ (m : Int) := by omega
          have m2 : (m : Int) < (N : Int) := by omega
          have m3 : (m : Int) + 1 ≤ 9223372036854775807 := by omega
          clear hx eo hgq
          generalize c.pl[j + m] = q at *
          obtain ⟨WC, eWC⟩ : ∃ Y, wr.alloc (.cells #[.string ⟨#[]⟩, .int .i64 0, .slice none 0 0, .slice none 0 0, .int .i64 0, .int .i64 0] 48) = Y := ⟨_, rfl⟩
          have kWC : Kp [] wr WC := by rw [← eWC]; exact (Kp.refl _ _).alloc _
          have zWC : WC.heap.size = wr.heap.size + 1 := by rw [← eWC]; simp
          have xWC : Bn WC (wr.heap.size) [.string ⟨#[]⟩, .int .i64 0, .slice none 0 0, .slice none 0 0, .int .i64 0, .int .i64 0] := by rw [← eWC]; exact Bn.new wr [.string ⟨#[]⟩, .int .i64 0, .slice none 0 0, .slice none 0 0, .int .i64 0, .int .i64 0] 48
          obtain ⟨WD, eWD⟩ : ∃ Y, ((((((WC.setCell ⟨wr.heap.size, 0, none⟩ (.string q.nm)).setCell ⟨wr.heap.size, 1, none⟩ (.int .i64 q.tb)).setCell ⟨wr.heap.size, 2, none⟩ (.slice q.ca q.cl.length q.cc)).setCell ⟨wr.heap.size, 3, none⟩ (.slice q.sa q.sl.length q.sc)).setCell ⟨wr.heap.size, 4, none⟩ (.int .i64 q.by_)).setCell ⟨wr.heap.size, 5, none⟩ (.int .i64 q.sh)) = Y := ⟨_, rfl⟩
          have kWD : Kp [wr.heap.size] WC WD := by rw [← eWD]; exact (((((((Kp.refl _ _).setCell (by simp) _).setCell (by simp) _).setCell (by simp) _).setCell (by simp) _).setCell (by simp) _).setCell (by simp) _)
          have xWD : Bn WD (wr.heap.size) [.string q.nm, .int .i64 q.tb, .slice q.ca q.cl.length q.cc, .slice q.sa q.sl.length q.sc, .int .i64 q.by_, .int .i64 q.sh] := by rw [← eWD]; exact ((((((xWC.set 0 (by simp) (.string q.nm)).set 1 (by simp) (.int .i64 q.tb)).set 2 (by simp) (.slice q.ca q.cl.length q.cc)).set 3 (by simp) (.slice q.sa q.sl.length q.sc)).set 4 (by simp) (.int .i64 q.by_)).set 5 (by simp) (.int .i64 q.sh))
          have zWD := kWD.size
          have na0 := xWC.get 0 _ rfl; have na1 := xWC.get 1 _ rfl; have na2 := xWC.get 2 _ rfl; have na3 := xWC.get 3 _ rfl; have na4 := xWC.get 4 _ rfl; have na5 := xWC.get 5 _ rfl
          have nf0 := xWC.free 0; have nf1 := xWC.free 1; have nf2 := xWC.free 2; have nf3 := xWC.free 3; have nf4 := xWC.free 4; have nf5 := xWC.free 5
          have qq0 := xWD.get 0 _ rfl; have qq1 := xWD.get 1 _ rfl; have qq2 := xWD.get 2 _ rfl; have qq3 := xWD.get 3 _ rfl; have qq4 := xWD.get 4 _ rfl; have qq5 := xWD.get 5 _ rfl
          have kD : Kp [] wr WD := kWC.trans kWD (fun x hx => .inr (by simp at hx; omega))
          have hqp := bp.out.lt (by simp)
          have bpD := bp.out.kept kD
          have BPD := hid bpD
          have XWD := hid xWD
          have BXD := hid (bx.out.kept kD)
          have KM := hid (km.trans kD (by simp))
          have pp0 := bpD.get 0 _ rfl; have pp1 := bpD.get 1 _ rfl; have pp2 := bpD.get 2 _ rfl; have pp3 := bpD.get 3 _ rfl; have pp4 := bpD.get 4 _ rfl; have pp5 := bpD.get 5 _ rfl
          have hF : Hid (∀ W', Kp [] WD W' → (W'.cell? ⟨qp, 0, none⟩ = some (.string p.nm) ∧ W'.cell? ⟨qp, 1, none⟩ = some (.int .i64 p.tb) ∧ W'.cell? ⟨qp, 2, none⟩ = some (.slice p.ca p.cl.length p.cc) ∧ W'.cell? ⟨qp, 3, none⟩ = some (.slice p.sa p.sl.length p.sc) ∧ W'.cell? ⟨qp, 4, none⟩ = some (.int .i64 p.by_) ∧ W'.cell? ⟨qp, 5, none⟩ = some (.int .i64 p.sh) ∧ W'.cell? ⟨wr.heap.size, 0, none⟩ = some (.string q.nm) ∧ W'.cell? ⟨wr.heap.size, 1, none⟩ = some (.int .i64 q.tb) ∧ W'.cell? ⟨wr.heap.size, 2, none⟩ = some (.slice q.ca q.cl.length q.cc) ∧ W'.cell? ⟨wr.heap.size, 3, none⟩ = some (.slice q.sa q.sl.length q.sc) ∧ W'.cell? ⟨wr.heap.size, 4, none⟩ = some (.int .i64 q.by_) ∧ W'.cell? ⟨wr.heap.size, 5, none⟩ = some (.int .i64 q.sh))) := fun W' k => by
            have h1 := BPD.out.kept k
            have h2 := XWD.out.kept k
            exact ⟨h1.get 0 _ rfl, h1.get 1 _ rfl, h1.get 2 _ rfl, h1.get 3 _ rfl, h1.get 4 _ rfl, h1.get 5 _ rfl, h2.get 0 _ rfl, h2.get 1 _ rfl, h2.get 2 _ rfl, h2.get 3 _ rfl, h2.get 4 _ rfl, h2.get 5 _ rfl⟩
          have aP := hid (fun W' (k : Kp [] WD W') => cBits p W' ((HPO.out.kept km).kept (kD.trans k (by simp))) hp8.out)
          have aQ := hid (fun W' (k : Kp [] WD W') => cBits q W' ((hqo.kept km).kept (kD.trans k (by simp))) hq8.out)
          simp only [Pj.v] at aP aQ
          have hA1 := hid (cbt_lt8 hp8.out)
          have hA2 := hid (cbt_lt8 hq8.out)
          clear hqo kWC kWD xWC xWD kD bpD bx bp
          by_cases h1 : p.tb = t
          rotate_left
          · have d1 : (p.tb == t) = false := by simpa using h1
            have hins2 : Hid (cvIn c.pl t A j (m + 1) = false) := by show _ = _; rw [hins.out]; unfold cvP; rw [d1]; rfl
            clear hins htr h1 hA1 hA2 aP aQ hF
            go_wp2_with fail
            go_quiet ((fail))
            go_wp2_with fail
            exact ⟨⟨m + 1, by omega, by go_num, hins2, hid (BXD.out.kept ((Kp.refl _ _).drewN _)), hid (BPD.out.kept ((Kp.refl _ _).drewN _)), KM.out.drewN _⟩, by simp [intOf]; omega⟩
          have d1 : (p.tb == t) = true := by simpa using h1
          by_cases h2 : q.tb = t
          rotate_left
          · have d2 : (q.tb == t) = false := by simpa using h2
            have hins2 : Hid (cvIn c.pl t A j (m + 1) = false) := by show _ = _; rw [hins.out]; unfold cvP; rw [d2]; simp
            clear hins htr h1 h2 hA1 hA2 aP aQ hF
            go_wp2_with fail
            go_quiet ((fail))
            go_wp2_with fail
            exact ⟨⟨m + 1, by omega, by go_num, hins2, hid (BXD.out.kept ((Kp.refl _ _).drewN _)), hid (BPD.out.kept ((Kp.refl _ _).drewN _)), KM.out.drewN _⟩, by simp [intOf]; omega⟩
          have d2 : (q.tb == t) = true := by simpa using h2
          have hcv : Hid (cvP t A p q = ((cbt p.cl ||| cbt q.cl) == A)) := by show _ = _; unfold cvP; rw [d1, d2]; rfl
          rw [hcv.out] at hins htr
          have e1 := u64_or_nat (cbt p.cl) (cbt q.cl) (by have := hA1.out; omega) (by have := hA2.out; omega)
          generalize cbt p.cl = A1 at *
          generalize cbt q.cl = A2 at *
          obtain ⟨A3, hA3⟩ : ∃ A3, A1 ||| A2 = A3 := ⟨_, rfl⟩
          rw [hA3] at e1 hins htr
          clear h1 h2 hA1 hA2 hA3 hcv
          go_wp2_with fail
          refine wp_region_held_drew (S := fun W' => W'.cell? ⟨qp, 0, none⟩ = some (.string p.nm) ∧ W'.cell? ⟨qp, 1, none⟩ = some (.int .i64 p.tb) ∧ W'.cell? ⟨qp, 2, none⟩ = some (.slice p.ca p.cl.length p.cc) ∧ W'.cell? ⟨qp, 3, none⟩ = some (.slice p.sa p.sl.length p.sc) ∧ W'.cell? ⟨qp, 4, none⟩ = some (.int .i64 p.by_) ∧ W'.cell? ⟨qp, 5, none⟩ = some (.int .i64 p.sh) ∧ W'.cell? ⟨wr.heap.size, 0, none⟩ = some (.string q.nm) ∧ W'.cell? ⟨wr.heap.size, 1, none⟩ = some (.int .i64 q.tb) ∧ W'.cell? ⟨wr.heap.size, 2, none⟩ = some (.slice q.ca q.cl.length q.cc) ∧ W'.cell? ⟨wr.heap.size, 3, none⟩ = some (.slice q.sa q.sl.length q.sc) ∧ W'.cell? ⟨wr.heap.size, 4, none⟩ = some (.int .i64 q.by_) ∧ W'.cell? ⟨wr.heap.size, 5, none⟩ = some (.int .i64 q.sh)) (by kernel_rfl) ?_ (fun hHeld => ?_)
          · exact hF.out _ (Kp.refl _ _).drew
          have KD : Hid (Kp [] WD WD.drew) := hid (Kp.refl _ _).drew
          generalize WD.drew = Wd at *
          refine wpAnyH_take (i := 0) (v := ?_) rfl (by kernel_rfl) (by kernel_rfl) (by kernel_rfl) (fun _ _ _ h => h) (Or.inl ⟨by rfl, ?_⟩) (by assumption) ?_
          rotate_left
          · intro w hSw; (try dsimp only at hSw); go_simp <;> with_reducible rfl
          try simp only [Act.put, List.getElem_toArray, List.getElem_cons_zero, List.getElem_cons_succ, List.setIfInBounds_toArray, List.set_cons_zero, List.set_cons_succ]
          refine wpAnyH_take (i := 1) (v := ?_) rfl (by kernel_rfl) (by kernel_rfl) (by kernel_rfl) (fun _ _ _ h => h) (Or.inl ⟨by rfl, ?_⟩) (by assumption) ?_
          rotate_left
          · intro w hSw; (try dsimp only at hSw); go_simp <;> with_reducible rfl
          try simp only [Act.put, List.getElem_toArray, List.getElem_cons_zero, List.getElem_cons_succ, List.setIfInBounds_toArray, List.set_cons_zero, List.set_cons_succ]
          refine wpAnyH_take (i := 2) (v := ?_) rfl (by kernel_rfl) (by kernel_rfl) (by kernel_rfl) (fun _ _ _ h => h) (Or.inl ⟨by rfl, ?_⟩) (by assumption) ?_
          rotate_left
          · intro w hSw; (try dsimp only at hSw); go_simp <;> with_reducible rfl
          try simp only [Act.put, List.getElem_toArray, List.getElem_cons_zero, List.getElem_cons_succ, List.setIfInBounds_toArray, List.set_cons_zero, List.set_cons_succ]
          refine wpAnyH_take (i := 3) (v := ?_) rfl (by kernel_rfl) (by kernel_rfl) (by kernel_rfl) (fun _ _ _ h => h) (Or.inl ⟨by rfl, ?_⟩) (by assumption) ?_
          rotate_left
          · intro w hSw; (try dsimp only at hSw); go_simp <;> with_reducible rfl
          try simp only [Act.put, List.getElem_toArray, List.getElem_cons_zero, List.getElem_cons_succ, List.setIfInBounds_toArray, List.set_cons_zero, List.set_cons_succ]
          try simp only [d1]
          refine wpAnyH_take (i := 4) (v := ?_) rfl (by kernel_rfl) (by kernel_rfl) (by kernel_rfl) (fun _ _ _ h => h) (Or.inl ⟨by rfl, ?_⟩) (by assumption) ?_
          rotate_left
          · intro w hSw; (try dsimp only at hSw); go_simp <;> with_reducible rfl
          try simp only [Act.put, List.getElem_toArray, List.getElem_cons_zero, List.getElem_cons_succ, List.setIfInBounds_toArray, List.set_cons_zero, List.set_cons_succ]
          refine wpAnyH_take (i := 5) (v := ?_) rfl (by kernel_rfl) (by kernel_rfl) (by kernel_rfl) (fun _ _ _ h => h) (Or.inl ⟨by rfl, ?_⟩) (by assumption) ?_
          rotate_left
          · intro w hSw; (try dsimp only at hSw); go_simp <;> with_reducible rfl
          try simp only [Act.put, List.getElem_toArray, List.getElem_cons_zero, List.getElem_cons_succ, List.setIfInBounds_toArray, List.set_cons_zero, List.set_cons_succ]
          refine wpAnyH_take (i := 6) (v := ?_) rfl (by kernel_rfl) (by kernel_rfl) (by kernel_rfl) (fun _ _ _ h => h) (Or.inl ⟨by rfl, ?_⟩) (by assumption) ?_
          rotate_left
          · intro w hSw; (try dsimp only at hSw); go_simp <;> with_reducible rfl
          try simp only [Act.put, List.getElem_toArray, List.getElem_cons_zero, List.getElem_cons_succ, List.setIfInBounds_toArray, List.set_cons_zero, List.set_cons_succ]
          refine wpAnyH_take (i := 7) (v := ?_) rfl (by kernel_rfl) (by kernel_rfl) (by kernel_rfl) (fun _ _ _ h => h) (Or.inl ⟨by rfl, ?_⟩) (by assumption) ?_
          rotate_left
          · intro w hSw; (try dsimp only at hSw); go_simp <;> with_reducible rfl
          try simp only [Act.put, List.getElem_toArray, List.getElem_cons_zero, List.getElem_cons_succ, List.setIfInBounds_toArray, List.set_cons_zero, List.set_cons_succ]
          refine wpAnyH_take (i := 8) (v := ?_) rfl (by kernel_rfl) (by kernel_rfl) (by kernel_rfl) (fun _ _ _ h => h) (Or.inl ⟨by rfl, ?_⟩) (by assumption) ?_
          rotate_left
          · intro w hSw; (try dsimp only at hSw); go_simp <;> with_reducible rfl
          try simp only [Act.put, List.getElem_toArray, List.getElem_cons_zero, List.getElem_cons_succ, List.setIfInBounds_toArray, List.set_cons_zero, List.set_cons_succ]
          try simp only [d2]
          refine wpAnyH_take (i := 9) (v := ?_) rfl (by kernel_rfl) (by kernel_rfl) (by kernel_rfl) (fun _ _ _ h => h) (Or.inl ⟨by rfl, ?_⟩) (by assumption) ?_
          rotate_left
          · intro w hSw; (try dsimp only at hSw); go_simp <;> with_reducible rfl
          try simp only [Act.put, List.getElem_toArray, List.getElem_cons_zero, List.getElem_cons_succ, List.setIfInBounds_toArray, List.set_cons_zero, List.set_cons_succ]
          refine wpAnyH_take (i := 10) (v := ?_) rfl (by kernel_rfl) (by kernel_rfl) (by kernel_rfl) (fun _ _ _ h => h) (Or.inl ⟨by rfl, ?_⟩) (by assumption) ?_
          rotate_left
          · intro w hSw; (try dsimp only at hSw); go_simp <;> with_reducible rfl
          try simp only [Act.put, List.getElem_toArray, List.getElem_cons_zero, List.getElem_cons_succ, List.setIfInBounds_toArray, List.set_cons_zero, List.set_cons_succ]
          refine wpAnyH_take (i := 11) (v := ?_) rfl (by kernel_rfl) (by kernel_rfl) (by kernel_rfl) (fun _ _ _ h => h) (Or.inl ⟨by rfl, ?_⟩) (by assumption) ?_
          rotate_left
          · intro w hSw; (try dsimp only at hSw); go_simp <;> with_reducible rfl
          try simp only [Act.put, List.getElem_toArray, List.getElem_cons_zero, List.getElem_cons_succ, List.setIfInBounds_toArray, List.set_cons_zero, List.set_cons_succ]
          refine wpAnyH_take (i := 13) (v := ?_) rfl (by kernel_rfl) (by kernel_rfl) (by kernel_rfl) (fun _ _ _ h => h) (Or.inl ⟨by rfl, ?_⟩) (by assumption) ?_
          rotate_left
          · intro w hSw; (try dsimp only at hSw); go_simp <;> with_reducible rfl
          try simp only [Act.put, List.getElem_toArray, List.getElem_cons_zero, List.getElem_cons_succ, List.setIfInBounds_toArray, List.set_cons_zero, List.set_cons_succ]
          refine wpAnyH_take (i := 16) (v := ?_) rfl (by kernel_rfl) (by kernel_rfl) (by kernel_rfl) (fun _ _ _ h => h) (Or.inl ⟨by rfl, ?_⟩) (by assumption) ?_
          rotate_left
          · intro w hSw; (try dsimp only at hSw); go_simp <;> with_reducible rfl
          try simp only [Act.put, List.getElem_toArray, List.getElem_cons_zero, List.getElem_cons_succ, List.setIfInBounds_toArray, List.set_cons_zero, List.set_cons_succ]
          refine wpAnyH_ready (rs := [12]) (by kernel_rfl) (by simp) ?_
          refine AllReadyH.cons rfl (fun K hK => ?_) AllReadyH.nil
          go_simp
          refine (aP.out _ KD.out).mono ?_
          rintro e wp ⟨rfl, kp⟩
          (try go_wp2_with fail)
          refine hK.out _ _ ?_ (fun hHeld => ?_)
          · exact hF.out _ (KD.out.trans kp (by simp))
          clear hK K
          try simp only [Act.put, List.getElem_toArray, List.getElem_cons_zero, List.getElem_cons_succ, List.setIfInBounds_toArray, List.set_cons_zero, List.set_cons_succ]
          have KP := hid (KD.out.trans kp (by simp))
          clear kp
          refine wpAnyH_ready (rs := [14]) (by kernel_rfl) (by simp) ?_
          refine AllReadyH.cons rfl (fun K hK => ?_) AllReadyH.nil
          go_simp
          refine (aQ.out _ KP.out).mono ?_
          rintro e wq ⟨rfl, kq⟩
          (try go_wp2_with fail)
          refine hK.out _ _ ?_ (fun hHeld => ?_)
          · exact hF.out _ (KP.out.trans kq (by simp))
          clear hK K
          try simp only [Act.put, List.getElem_toArray, List.getElem_cons_zero, List.getElem_cons_succ, List.setIfInBounds_toArray, List.set_cons_zero, List.set_cons_succ]
          have KQ := hid (KP.out.trans kq (by simp))
          clear kq
          by_cases hE : A3 = A
          · have d3 : ((A3 : Int) == (A : Int)) = true := by simp [hE]
            have hR : Hid (r = true) := by show _ = _; rw [← hr.out]; exact htr.out (by simpa using hE)
            clear hE htr hins
            refine wpAnyH_take (i := 15) (v := ?_) rfl (by kernel_rfl) (by kernel_rfl) (by kernel_rfl) (fun _ _ _ h => h) (Or.inl ⟨by rfl, ?_⟩) (by assumption) ?_
            rotate_left
            · intro w hSw; (try dsimp only at hSw); go_simp <;> with_reducible rfl
            try simp only [Act.put, List.getElem_toArray, List.getElem_cons_zero, List.getElem_cons_succ, List.setIfInBounds_toArray, List.set_cons_zero, List.set_cons_succ]
            try simp only [e1]
            refine wpAnyH_take (i := 17) (v := ?_) rfl (by kernel_rfl) (by kernel_rfl) (by kernel_rfl) (fun _ _ _ h => h) (Or.inl ⟨by rfl, ?_⟩) (by assumption) ?_
            rotate_left
            · intro w hSw; (try dsimp only at hSw); go_simp <;> with_reducible rfl
            try simp only [Act.put, List.getElem_toArray, List.getElem_cons_zero, List.getElem_cons_succ, List.setIfInBounds_toArray, List.set_cons_zero, List.set_cons_succ]
            try simp only [d3]
            refine wpAnyH_take (i := 18) (v := ?_) rfl (by kernel_rfl) (by kernel_rfl) (by kernel_rfl) (fun _ _ _ h => h) (Or.inl ⟨by rfl, ?_⟩) (by assumption) ?_
            rotate_left
            · intro w hSw; (try dsimp only at hSw); go_simp <;> with_reducible rfl
            try simp only [Act.put, List.getElem_toArray, List.getElem_cons_zero, List.getElem_cons_succ, List.setIfInBounds_toArray, List.set_cons_zero, List.set_cons_succ]
            refine wpAnyH_done (by kernel_rfl) ?_ _
            go_wp2_with fail
            go_ret
            exact ⟨by rw [hR.out]; rfl, KM.out.trans KQ.out (by simp)⟩
          · have d3 : ((A3 : Int) == (A : Int)) = false := by simp; exact fun h => hE (by exact_mod_cast h)
            have hins2 : Hid (cvIn c.pl t A j (m + 1) = false) := by show _ = _; rw [hins.out]; simpa using hE
            clear hE htr hins
            refine wpAnyH_take (i := 15) (v := ?_) rfl (by kernel_rfl) (by kernel_rfl) (by kernel_rfl) (fun _ _ _ h => h) (Or.inl ⟨by rfl, ?_⟩) (by assumption) ?_
            rotate_left
            · intro w hSw; (try dsimp only at hSw); go_simp <;> with_reducible rfl
            try simp only [Act.put, List.getElem_toArray, List.getElem_cons_zero, List.getElem_cons_succ, List.setIfInBounds_toArray, List.set_cons_zero, List.set_cons_succ]
            try simp only [e1]
            refine wpAnyH_take (i := 17) (v := ?_) rfl (by kernel_rfl) (by kernel_rfl) (by kernel_rfl) (fun _ _ _ h => h) (Or.inl ⟨by rfl, ?_⟩) (by assumption) ?_
            rotate_left
            · intro w hSw; (try dsimp only at hSw); go_simp <;> with_reducible rfl
            try simp only [Act.put, List.getElem_toArray, List.getElem_cons_zero, List.getElem_cons_succ, List.setIfInBounds_toArray, List.set_cons_zero, List.set_cons_succ]
            try simp only [d3]
            refine wpAnyH_take (i := 18) (v := ?_) rfl (by kernel_rfl) (by kernel_rfl) (by kernel_rfl) (fun _ _ _ h => h) (Or.inl ⟨by rfl, ?_⟩) (by assumption) ?_
            rotate_left
            · intro w hSw; (try dsimp only at hSw); go_simp <;> with_reducible rfl
            try simp only [Act.put, List.getElem_toArray, List.getElem_cons_zero, List.getElem_cons_succ, List.setIfInBounds_toArray, List.set_cons_zero, List.set_cons_succ]
            refine wpAnyH_done (by kernel_rfl) ?_ _
            go_wp2_with fail
            exact ⟨⟨m + 1, by omega, by go_num, hins2, hid (BXD.out.kept KQ.out), hid (BPD.out.kept KQ.out), KM.out.trans KQ.out (by simp)⟩, by simp [intOf]; omega⟩
        · have e : m = N := by omega
          subst e
          have hsu2 : Hid (cvTo c.pl t A (j + 1) = false) := by show _ = _; rw [hsu.out, hst.out, hN.out, hin.out]; rfl
          go_wp2_with fail
          exact ⟨⟨j + 1, by omega, by go_num, hsu2, bx, km⟩, by simp [intOf]; omega⟩
    · have e : j = c.pl.length := by omega
      have hR : Hid (r = false) := by show _ = _; rw [← hr.out, ← e]; exact hst.out
      subst e
      go_wp2_with fail
      go_ret
      exact ⟨by rw [hR.out]; rfl, kr⟩
end Go.Proofs.Ytckicbaidbgonaa
end

/- PlanChecks (second form): which queries may be asked is what the document says, where what is given is of bulk at most 1048576. -/
import Derived.Test.YtcgkkofmnajedaaGreatDoorKch1
import Derived.Deep.RegionHeld3
import Derived.Test.YtcgkkofmnajedaaGreatDoorB8
import Derived.Test.YtcgkkofmnajedaaGreatDoorB2
import Derived.Test.YtcgkkofmnajedaaGreatDoorB1
import Derived.Test.YtcgkkofmnajedaaGreatDoorB6
import Derived.Test.YtcgkkofmnajedaaGreatDoorB4
import Derived.SizedLaws
import Derived.JoinedCond
import Derived.Deep.CondSized
set_option maxHeartbeats 64000000
set_option maxRecDepth 100000
set_option linter.unusedVariables false
set_option linter.unusedSimpArgs false
section
namespace Go.Proofs.YtcgkkofmnajedaaGreatDoor
open Go.RowKit Go.Hay
theorem hasT_succ (l : List Tb) (k : Nat) (nm : ByteArray) (h : k < l.length) : hasT (l.take (k + 1)) nm = (hasT (l.take k) nm || (l[k].nm.toList == nm.toList)) := by
 unfold hasT
 have e : l.take (k + 1) = l.take k ++ [l[k]] := by rw [List.take_succ_eq_append_getElem h]
 rw [e, List.any_append, List.any_cons, List.any_nil, Bool.or_false]
theorem hasP_succ (l : List Pj) (k : Nat) (nm : ByteArray) (h : k < l.length) : hasP (l.take (k + 1)) nm = (hasP (l.take k) nm || (l[k].nm.toList == nm.toList)) := by
 unfold hasP
 have e : l.take (k + 1) = l.take k ++ [l[k]] := by rw [List.take_succ_eq_append_getElem h]
 rw [e, List.any_append, List.any_cons, List.any_nil, Bool.or_false]
theorem hasT_more (l : List Tb) (k j : Nat) (nm : ByteArray) (h : k ≤ j) (ht : hasT (l.take k) nm = true) : hasT (l.take j) nm = true := by
 unfold hasT at ht ⊢
 rw [List.any_eq_true] at ht ⊢;obtain ⟨x, hx, hx2⟩ := ht;exact ⟨x, by rw [show k = min k j by omega, ← List.take_take] at hx; exact List.mem_of_mem_take hx, hx2⟩
theorem hasP_more (l : List Pj) (k j : Nat) (nm : ByteArray) (h : k ≤ j) (ht : hasP (l.take k) nm = true) : hasP (l.take j) nm = true := by
 unfold hasP at ht ⊢
 rw [List.any_eq_true] at ht ⊢;obtain ⟨x, hx, hx2⟩ := ht;exact ⟨x, by rw [show k = min k j by omega, ← List.take_take] at hx; exact List.mem_of_mem_take hx, hx2⟩
theorem rCheck (c : Cg) (w : World) (hc : c.ok w) : Calls Tryz.prog 9 #[c.v] w fun e w' => e = .returned (.int .i64 (chkC c)) ∧ Kp [] w w' := by
 obtain ⟨W, eW, kW, zW, bC⟩ := boxC c w;obtain ⟨r, hr⟩ : ∃ r, Hid (chkC c = r) := ⟨_, hid rfl⟩
 rw [hr.out];unfold chkC at hr
 have HC := hid hc
 have htm : c.tl.length ≤ 9223372036854775807 := by have := hc.tcap; have := hc.tmax; omega
 have hpm : c.pl.length ≤ 9223372036854775807 := by have := hc.pcap; have := hc.pmax; omega
 have KW := hid kW
 simp only [Cg.v];obtain ⟨ta, hta⟩ : ∃ ta, Hid (c.ta = ta) := ⟨_, hid rfl⟩
 obtain ⟨pa, hpa⟩ : ∃ pa, Hid (c.pa = pa) := ⟨_, hid rfl⟩
 rw [hta.out, hpa.out] at eW bC;rw [hta.out, hpa.out];have BC := hid bC
 have zW' : w.heap.size < W.heap.size := by omega
 have c0 := bC.get 0 _ rfl; have c1 := bC.get 1 _ rfl; have c2 := bC.get 2 _ rfl; have c3 := bC.get 3 _ rfl; have c4 := bC.get 4 _ rfl
 have hF : Hid (∀ w', Kp [] W w' → (w'.cell? ⟨w.heap.size, 0, none⟩ = some (.int .i64 c.n) ∧ w'.cell? ⟨w.heap.size, 1, none⟩ = some (.int .i64 c.s) ∧ w'.cell? ⟨w.heap.size, 2, none⟩ = some (.int .i64 c.k) ∧ w'.cell? ⟨w.heap.size, 3, none⟩ = some (.slice ta c.tl.length c.tc) ∧ w'.cell? ⟨w.heap.size, 4, none⟩ = some (.slice pa c.pl.length c.pc))) := fun w' k => by
  have h1 := BC.out.kept k
  exact ⟨h1.get 0 _ rfl, h1.get 1 _ rfl, h1.get 2 _ rfl, h1.get 3 _ rfl, h1.get 4 _ rfl⟩
 clear hc kW bC zW
 by_cases n1 : c.n < 1
 ·have d1 : decide (c.n < 1) = true := by simpa using n1
  have hC : cntd c = false := by cases hq : cntd c with
   | false => rfl
   | true => have := (cntd_iff c).1 hq; omega
  have hR : Hid (r = 133) := by have := hr.out; rw [if_pos hC] at this; exact hid this.symm
  clear hC;go_enter Tryz.func9, Tryz.ntmps9
  go_wp2_with fail;go_returns;exact ⟨by rw [hR.out]; rfl, KW.out⟩
 have d1 : decide (c.n < 1) = false := by simpa using n1
 by_cases n2 : 8 < c.n
 ·have d2 : decide (8 < c.n) = true := by simpa using n2
  have hC : cntd c = false := by cases hq : cntd c with
   | false => rfl
   | true => have := (cntd_iff c).1 hq; omega
  have hR : Hid (r = 133) := by have := hr.out; rw [if_pos hC] at this; exact hid this.symm
  clear hC;go_enter Tryz.func9, Tryz.ntmps9
  go_wp2_with fail;go_returns;exact ⟨by rw [hR.out]; rfl, KW.out⟩
 have d2 : decide (8 < c.n) = false := by simpa using n2
 by_cases n3 : c.k < 0
 ·have d3 : decide (c.k < 0) = true := by simpa using n3
  have hC : cntd c = false := by cases hq : cntd c with
   | false => rfl
   | true => have := (cntd_iff c).1 hq; omega
  have hR : Hid (r = 133) := by have := hr.out; rw [if_pos hC] at this; exact hid this.symm
  clear hC;go_enter Tryz.func9, Tryz.ntmps9
  go_wp2_with fail;go_returns;exact ⟨by rw [hR.out]; rfl, KW.out⟩
 have d3 : decide (c.k < 0) = false := by simpa using n3
 by_cases n4 : c.n ≤ c.k
 ·have d4 : decide (c.n ≤ c.k) = true := by simpa using n4
  have hC : cntd c = false := by cases hq : cntd c with
   | false => rfl
   | true => have := (cntd_iff c).1 hq; omega
  have hR : Hid (r = 133) := by have := hr.out; rw [if_pos hC] at this; exact hid this.symm
  clear hC;go_enter Tryz.func9, Tryz.ntmps9
  go_wp2_with fail;go_returns;exact ⟨by rw [hR.out]; rfl, KW.out⟩
 have d4 : decide (c.n ≤ c.k) = false := by simpa using n4
 by_cases n5 : c.s < 1
 ·have d5 : decide (c.s < 1) = true := by simpa using n5
  have hC : cntd c = false := by cases hq : cntd c with
   | false => rfl
   | true => have := (cntd_iff c).1 hq; omega
  have hR : Hid (r = 133) := by have := hr.out; rw [if_pos hC] at this; exact hid this.symm
  clear hC;go_enter Tryz.func9, Tryz.ntmps9
  go_wp2_with fail;go_returns;exact ⟨by rw [hR.out]; rfl, KW.out⟩
 have d5 : decide (c.s < 1) = false := by simpa using n5
 by_cases n6 : 8 < c.s
 ·have d6 : decide (8 < c.s) = true := by simpa using n6
  have hC : cntd c = false := by cases hq : cntd c with
   | false => rfl
   | true => have := (cntd_iff c).1 hq; omega
  have hR : Hid (r = 133) := by have := hr.out; rw [if_pos hC] at this; exact hid this.symm
  clear hC;go_enter Tryz.func9, Tryz.ntmps9
  go_wp2_with fail;go_returns;exact ⟨by rw [hR.out]; rfl, KW.out⟩
 have d6 : decide (8 < c.s) = false := by simpa using n6
 have hC : cntd c = true := (cntd_iff c).2 (by omega)
 have HN := hid hC
 rw [hC] at hr;clear hC;have hr1 : Hid ((if tabsM c.tl = false then (130 : Int) else if pjsM c = false then 131 else if acM c = false then 132 else if auTo c c.s.toNat c.n.toNat = false then 133 else 0) = r) := by have := hr.out; exact hid (by simpa using this)
 clear hr
 by_cases h0 : c.tl.length = 0
 ·have e0 : ((c.tl.length : Int) == 0) = true := by simp [h0]
  have hT : tabsM c.tl = false := by unfold tabsM; simp [h0]
  have hR : Hid (r = 130) := by have := hr1.out; rw [if_pos hT] at this; exact hid this.symm
  clear hT h0 hr1;go_enter Tryz.func9, Tryz.ntmps9
  go_wp2_with fail;go_returns;exact ⟨by rw [hR.out]; rfl, KW.out⟩
 have e0 : ((c.tl.length : Int) == 0) = false := by simpa using h0
 by_cases h4 : 4 < c.tl.length
 ·have e4 : decide ((4 : Int) < (c.tl.length : Int)) = true := by simp; omega
  have hT : tabsM c.tl = false := by unfold tabsM; simp [show ¬ c.tl.length ≤ 4 by omega]
  have hR : Hid (r = 130) := by have := hr1.out; rw [if_pos hT] at this; exact hid this.symm
  clear hT hr1;go_enter Tryz.func9, Tryz.ntmps9
  go_wp2_with fail;go_returns;exact ⟨by rw [hR.out]; rfl, KW.out⟩
 have e4 : decide ((4 : Int) < (c.tl.length : Int)) = false := by simp; omega
 have hTT : Hid (tabsM c.tl = tabTo c.tl c.tl.length) := by show _ = _; unfold tabsM; simp [h0, show c.tl.length ≤ 4 by omega]
 clear h0;go_enter Tryz.func9, Tryz.ntmps9
 go_wp2_with fail;clear c0 c1 c2 c3 c4 eW;go_loopw [3, 4] (fun iv _ wr => ∃ j : Nat, j ≤ c.tl.length ∧ iv = .int .i64 j ∧ Hid (tabTo c.tl j = true) ∧ Hid (Kp [] W wr)) (fun iv _ _ => c.tl.length - (intOf iv).toNat)
 case atStart => exact ⟨0, Nat.zero_le _, rfl, hid rfl, hid (Kp.refl _ _)⟩
 case round =>
  obtain ⟨j, hj, rfl, hst, kr⟩ := hrel;obtain ⟨c0, c1, c2, c3, c4⟩ := hF.out _ kr.out;have KR := hid (KW.out.trans kr.out (by simp))
  by_cases hjl : j < c.tl.length
  ·obtain ⟨g, o, eg, _⟩ := tbAt (HC.out.ts.keptNew KR.out) (j := j) (t := c.tl[j]) (by simp [hjl])
   rw [hta.out] at eg;subst eg
   have htx : Hid (∀ (k : Nat) (h : k < c.tl.length) w', Kp [] w w' → w'.cell? ⟨g, o + k * 2, none⟩ = some (.string c.tl[k].nm) ∧ w'.cell? ⟨g, o + k * 2 + 1, none⟩ = some (.slice c.tl[k].a c.tl[k].l.length c.tl[k].c)) := fun k h w' hk => by
    obtain ⟨g2, o2, e2, h1⟩ := tbAt (HC.out.ts.keptNew hk) (j := k) (t := c.tl[k]) (by simp [h])
    rw [hta.out] at e2;injection e2 with e2
    injection e2 with e3 e4
    subst e3 e4;exact h1
   have hsu := hid (tabTo_succ c.tl j hjl)
   have hmo := hid (tabTo_mono c.tl (j + 1) c.tl.length (by omega))
   have hto := hid (HC.out.tok _ (List.getElem_mem hjl))
   have hme := hid (fun k (h : k ≤ j) => hasT_more c.tl k j c.tl[j].nm h)
   have hss := hid (fun k (h : k < c.tl.length) => hasT_succ c.tl k c.tl[j].nm h)
   have htj := hid (htx.out j hjl)
   have i1 : (0 : Int) ≤ (j : Int) := by omega
   have i2 : (j : Int) < (c.tl.length : Int) := by omega
   have i3 : (j : Int) + 1 ≤ 9223372036854775807 := by omega
   rw [hst.out] at hsu;generalize c.tl[j] = t at *
   obtain ⟨x0, x1⟩ := htj.out _ KR.out;have aT := hid (cRefTable t.nm t.a t.c t.l wr (hto.out.kept KR.out).cols hto.out.cap hto.out.max)
   obtain ⟨V, hV⟩ : ∃ V, Hid (tableV t.nm t.l = V) := ⟨_, hid rfl⟩
   rw [hV.out] at aT hsu
   have hRf : Hid (tabTo c.tl (j + 1) = false → r = 130) := fun h => by
    have := hr1.out
    rw [if_pos (by rw [hTT.out]; exact hmo.out h)] at this
    exact this.symm
   go_wp2_with fail;refine aT.out.mono ?_;rintro e w2 ⟨rfl, k2⟩;have K2 := hid (kr.out.trans k2 (by simp))
   clear k2 aT x0 x1 c0 c1 c2 c3 c4
   by_cases hv : V = 0
   rotate_left
   ·have dv : (V != 0) = true := by simpa using hv
    have hR := hid (hRf.out (by rw [hsu.out]; simp [hv]))
    clear hsu hv hRf;go_wp2_with fail;go_ret;exact ⟨by rw [hR.out]; rfl, KW.out.trans K2.out (by simp)⟩
   have dv : (V != 0) = false := by simpa using hv
   have hsu2 : Hid (tabTo c.tl (j + 1) = !hasT (c.tl.take j) t.nm) := by show _ = _; rw [hsu.out, hv]; simp
   clear hsu hv;go_wp2_with fail;go_loopw [4] (fun kv wn => ∃ k : Nat, k ≤ j ∧ kv = .int .i64 k ∧ Hid (hasT (c.tl.take k) t.nm = false) ∧ Hid (Kp [] W wn)) (fun kv _ => j - (intOf kv).toNat)
   case atStart => exact ⟨0, Nat.zero_le _, rfl, hid rfl, K2⟩
   case round =>
    obtain ⟨k, hk, rfl, hin, kn⟩ := hrel;obtain ⟨c0, c1, c2, c3, c4⟩ := hF.out _ kn.out;have KN := hid (KW.out.trans kn.out (by simp))
    by_cases hkl : k < j
    ·have hkt : k < c.tl.length := by omega
     obtain ⟨y0, y1⟩ := htx.out k hkt _ KN.out;obtain ⟨x0, x1⟩ := htj.out _ KN.out;have hs3 := hid (hss.out k hkt)
     have hm3 := hid (hme.out (k + 1) (by omega))
     have k1 : (0 : Int) ≤ (k : Int) := by omega
     have k2 : (k : Int) < (c.tl.length : Int) := by omega
     have k3 : (k : Int) < (j : Int) := by omega
     have k4 : (k : Int) + 1 ≤ 9223372036854775807 := by omega
     generalize c.tl[k] = u at *
     obtain ⟨B, hB⟩ : ∃ B, (u.nm.toList == t.nm.toList) = B := ⟨_, rfl⟩
     rw [hin.out, hB] at hs3
     cases B with
     | true =>
      have hR := hid (hRf.out (by rw [hsu2.out, hm3.out (by rw [hs3.out]; rfl)]; rfl))
      go_wp2_with fail;go_quiet ((fail))
      go_wp2_with fail;go_ret;exact ⟨by rw [hR.out]; rfl, KN.out.drewN _⟩
     | false =>
      have hin2 : Hid (hasT (c.tl.take (k + 1)) t.nm = false) := by show _ = _; rw [hs3.out]; rfl
      go_wp2_with fail;go_quiet ((fail))
      go_wp2_with fail;exact ⟨⟨k + 1, by omega, by go_num, hin2, hid (kn.out.drewN _)⟩, by simp [intOf]; omega⟩
    ·have e : k = j := by omega
     have e2 : decide ((k : Int) < (j : Int)) = false := by simp; omega
     have hsu3 : Hid (tabTo c.tl (j + 1) = true) := by show _ = _; rw [hsu2.out, ← e, hin.out]; rfl
     go_wp2_with fail;exact ⟨⟨j + 1, by omega, by go_num, hsu3, kn⟩, by simp [intOf]; omega⟩
  ·have e : j = c.tl.length := by omega
   have hTA : tabsM c.tl = true := by rw [hTT.out, ← e]; exact hst.out
   subst e;have hr2 : Hid ((if pjsM c = false then (131 : Int) else if acM c = false then 132 else if auTo c c.s.toNat c.n.toNat = false then 133 else 0) = r) := by have := hr1.out; rw [hTA] at this; exact hid (by simpa using this)
   have HTA := hid hTA
   clear hTA hr1 hst
   by_cases h8 : 8 < c.pl.length
   ·have e8 : decide ((8 : Int) < (c.pl.length : Int)) = true := by simp; omega
    have hP : pjsM c = false := by unfold pjsM; simp [show ¬ c.pl.length ≤ 8 by omega]
    have hR : Hid (r = 131) := by have := hr2.out; rw [if_pos hP] at this; exact hid this.symm
    clear hP hr2;go_wp2_with fail;go_ret;exact ⟨by rw [hR.out]; rfl, KR.out⟩
   have e8 : decide ((8 : Int) < (c.pl.length : Int)) = false := by simp; omega
   have hPP : Hid (pjsM c = pjsTo c c.pl.length) := by show _ = _; unfold pjsM; simp [show c.pl.length ≤ 8 by omega]
   have kr0 := kr
   clear kr;go_wp2_with fail;clear c0 c1 c2 c3 c4;go_loopw [5, 6, 7] (fun iv _ _ wr => ∃ j : Nat, j ≤ c.pl.length ∧ iv = .int .i64 j ∧ Hid (pjsTo c j = true) ∧ Hid (Kp [] W wr)) (fun iv _ _ _ => c.pl.length - (intOf iv).toNat)
   case atStart => exact ⟨0, Nat.zero_le _, rfl, hid rfl, kr0⟩
   case round =>
    obtain ⟨j, hj, rfl, hst, kr⟩ := hrel;clear kr0 KR;obtain ⟨c0, c1, c2, c3, c4⟩ := hF.out _ kr.out;have KR := hid (KW.out.trans kr.out (by simp))
    by_cases hjl : j < c.pl.length
    ·obtain ⟨g, o, eg, _⟩ := pjAt (HC.out.ps.keptNew KR.out) (j := j) (p := c.pl[j]) (by simp [hjl])
     rw [hpa.out] at eg;subst eg
     have hpx : Hid (∀ (k : Nat) (h : k < c.pl.length) w', Kp [] w w' → (w'.cell? ⟨g, o + k * 6, none⟩ = some (.string c.pl[k].nm) ∧ w'.cell? ⟨g, o + k * 6 + 1, none⟩ = some (.int .i64 c.pl[k].tb) ∧ w'.cell? ⟨g, o + k * 6 + 2, none⟩ = some (.slice c.pl[k].ca c.pl[k].cl.length c.pl[k].cc) ∧ w'.cell? ⟨g, o + k * 6 + 3, none⟩ = some (.slice c.pl[k].sa c.pl[k].sl.length c.pl[k].sc) ∧ w'.cell? ⟨g, o + k * 6 + 4, none⟩ = some (.int .i64 c.pl[k].by_) ∧ w'.cell? ⟨g, o + k * 6 + 5, none⟩ = some (.int .i64 c.pl[k].sh))) := fun k h w' hk => by
      obtain ⟨g2, o2, e2, h1⟩ := pjAt (HC.out.ps.keptNew hk) (j := k) (p := c.pl[k]) (by simp [h])
      rw [hpa.out] at e2;injection e2 with e2
      injection e2 with e3 e4
      subst e3 e4;exact h1
     have hsu := hid (pjsTo_succ c j hjl)
     have hmo := hid (pjsTo_mono c (j + 1) c.pl.length (by omega))
     have hpo := hid (HC.out.pok _ (List.getElem_mem hjl))
     have hme := hid (fun k (h : k ≤ j) => hasP_more c.pl k j c.pl[j].nm h)
     have hss := hid (fun k (h : k < c.pl.length) => hasP_succ c.pl k c.pl[j].nm h)
     have hpj := hid (hpx.out j hjl)
     have i1 : (0 : Int) ≤ (j : Int) := by omega
     have i2 : (j : Int) < (c.pl.length : Int) := by omega
     have i3 : (j : Int) + 1 ≤ 9223372036854775807 := by omega
     rw [hst.out] at hsu;generalize c.pl[j] = p at *
     have hF2 : Hid (∀ W', Kp [] W W' → (W'.cell? ⟨w.heap.size, 0, none⟩ = some (.int .i64 c.n) ∧ W'.cell? ⟨w.heap.size, 1, none⟩ = some (.int .i64 c.s) ∧ W'.cell? ⟨w.heap.size, 2, none⟩ = some (.int .i64 c.k) ∧ W'.cell? ⟨w.heap.size, 3, none⟩ = some (.slice ta c.tl.length c.tc) ∧ W'.cell? ⟨w.heap.size, 4, none⟩ = some (.slice (some ⟨g, o, none⟩) c.pl.length c.pc) ∧ W'.cell? ⟨g, o + j * 6, none⟩ = some (.string p.nm) ∧ W'.cell? ⟨g, o + j * 6 + 1, none⟩ = some (.int .i64 p.tb) ∧ W'.cell? ⟨g, o + j * 6 + 2, none⟩ = some (.slice p.ca p.cl.length p.cc) ∧ W'.cell? ⟨g, o + j * 6 + 3, none⟩ = some (.slice p.sa p.sl.length p.sc) ∧ W'.cell? ⟨g, o + j * 6 + 4, none⟩ = some (.int .i64 p.by_) ∧ W'.cell? ⟨g, o + j * 6 + 5, none⟩ = some (.int .i64 p.sh))) := fun W' k => by
      obtain ⟨b0, b1, b2, b3, b4⟩ := hF.out _ k;obtain ⟨x0, x1, x2, x3, x4, x5⟩ := hpj.out _ (KW.out.trans k (by simp))
      exact ⟨b0, b1, b2, b3, b4, x0, x1, x2, x3, x4, x5⟩
     have aT := hid (fun w' (k : Kp [] w w') => rProj c p w' (HC.out.kept k) (hpo.out.kept k))
     obtain ⟨V, hV⟩ : ∃ V, Hid (pjM c p = V) := ⟨_, hid rfl⟩
     rw [hV.out] at aT hsu;simp only [Cg.v, Pj.v] at aT;rw [hta.out, hpa.out] at aT
     have hRf : Hid (pjsTo c (j + 1) = false → r = 131) := fun h => by
      have := hr2.out
      rw [if_pos (by rw [hPP.out]; exact hmo.out h)] at this
      exact this.symm
     clear hV;go_wp2_with fail;refine wp_region_held_drew (S := fun W' => W'.cell? ⟨w.heap.size, 0, none⟩ = some (.int .i64 c.n) ∧ W'.cell? ⟨w.heap.size, 1, none⟩ = some (.int .i64 c.s) ∧ W'.cell? ⟨w.heap.size, 2, none⟩ = some (.int .i64 c.k) ∧ W'.cell? ⟨w.heap.size, 3, none⟩ = some (.slice ta c.tl.length c.tc) ∧ W'.cell? ⟨w.heap.size, 4, none⟩ = some (.slice (some ⟨g, o, none⟩) c.pl.length c.pc) ∧ W'.cell? ⟨g, o + j * 6, none⟩ = some (.string p.nm) ∧ W'.cell? ⟨g, o + j * 6 + 1, none⟩ = some (.int .i64 p.tb) ∧ W'.cell? ⟨g, o + j * 6 + 2, none⟩ = some (.slice p.ca p.cl.length p.cc) ∧ W'.cell? ⟨g, o + j * 6 + 3, none⟩ = some (.slice p.sa p.sl.length p.sc) ∧ W'.cell? ⟨g, o + j * 6 + 4, none⟩ = some (.int .i64 p.by_) ∧ W'.cell? ⟨g, o + j * 6 + 5, none⟩ = some (.int .i64 p.sh)) (by kernel_rfl) ?_ (fun hHeld => ?_)
     ·exact hF2.out _ (kr.out.trans (Kp.refl [] wr).drew (by simp))
     have KD : Hid (Kp [] W wr.drew) := hid (kr.out.trans (Kp.refl [] wr).drew (by simp))
     generalize wr.drew = Wd at *
     clear c0 c1 c2 c3 c4;refine tkH ?_ 0 rfl (by kernel_rfl) (fun _ _ _ h => h) (by rfl) ?_ ‹_› ?_;rotate_left
     ·intro w h; (try dsimp only at h); go_simp <;> with_reducible rfl
     (try simp only [Act.put, lz]);refine tkH ?_ 1 rfl (by kernel_rfl) (fun _ _ _ h => h) (by rfl) ?_ ‹_› ?_;rotate_left
     ·intro w h; (try dsimp only at h); go_simp <;> with_reducible rfl
     (try simp only [Act.put, lz]);refine tkH ?_ 2 rfl (by kernel_rfl) (fun _ _ _ h => h) (by rfl) ?_ ‹_› ?_;rotate_left
     ·intro w h; (try dsimp only at h); go_simp <;> with_reducible rfl
     (try simp only [Act.put, lz]);refine tkH ?_ 3 rfl (by kernel_rfl) (fun _ _ _ h => h) (by rfl) ?_ ‹_› ?_;rotate_left
     ·intro w h; (try dsimp only at h); go_simp <;> with_reducible rfl
     (try simp only [Act.put, lz]);refine tkH ?_ 4 rfl (by kernel_rfl) (fun _ _ _ h => h) (by rfl) ?_ ‹_› ?_;rotate_left
     ·intro w h; (try dsimp only at h); go_simp <;> with_reducible rfl
     (try simp only [Act.put, lz]);refine tkH ?_ 5 rfl (by kernel_rfl) (fun _ _ _ h => h) (by rfl) ?_ ‹_› ?_;rotate_left
     ·intro w h; (try dsimp only at h); go_simp <;> with_reducible rfl
     (try simp only [Act.put, lz]);refine rdH 6 (by kernel_rfl) rfl fun K hK => ?_
     go_simp;refine (aT.out Wd (KW.out.trans KD.out (by simp))).mono ?_
     rintro e w2 ⟨rfl, k2⟩;(try go_wp2_with fail);refine hK.out _ _ ?_ (fun hHeld => ?_)
     ·exact hF2.out _ (KD.out.trans k2 (by simp))
     clear hK K;(try simp only [Act.put, lz]);have K2 := hid (KD.out.trans k2 (by simp))
     clear k2 aT;refine tkH ?_ 7 rfl (by kernel_rfl) (fun _ _ _ h => h) (by rfl) ?_ ‹_› ?_;rotate_left
     ·intro w h; (try dsimp only at h); go_simp <;> with_reducible rfl
     (try simp only [Act.put, lz]);refine wpAnyH_done (by kernel_rfl) ?_ _
     clear hHeld
     cases V with
     | false =>
      have hR := hid (hRf.out (by rw [hsu.out]; simp))
      clear hsu hRf;go_wp2_with fail;go_ret;exact ⟨by rw [hR.out]; rfl, KW.out.trans K2.out (by simp)⟩
     | true =>
     have hsu2 : Hid (pjsTo c (j + 1) = !hasP (c.pl.take j) p.nm) := by show _ = _; rw [hsu.out]; simp
     clear hsu;go_wp2_with fail;go_loopw [7] (fun kv wn => ∃ k : Nat, k ≤ j ∧ kv = .int .i64 k ∧ Hid (hasP (c.pl.take k) p.nm = false) ∧ Hid (Kp [] W wn)) (fun kv _ => j - (intOf kv).toNat)
     case atStart => exact ⟨0, Nat.zero_le _, rfl, hid rfl, K2⟩
     case round =>
      obtain ⟨k, hk, rfl, hin, kn⟩ := hrel;obtain ⟨c0, c1, c2, c3, c4⟩ := hF.out _ kn.out;have KN := hid (KW.out.trans kn.out (by simp))
      by_cases hkl : k < j
      ·have hkt : k < c.pl.length := by omega
       obtain ⟨y0, _⟩ := hpx.out k hkt _ KN.out;obtain ⟨x0, _⟩ := hpj.out _ KN.out;have hs3 := hid (hss.out k hkt)
       have hm3 := hid (hme.out (k + 1) (by omega))
       have k1 : (0 : Int) ≤ (k : Int) := by omega
       have k2 : (k : Int) < (c.pl.length : Int) := by omega
       have k3 : (k : Int) < (j : Int) := by omega
       have k4 : (k : Int) + 1 ≤ 9223372036854775807 := by omega
       generalize c.pl[k] = u at *
       obtain ⟨B, hB⟩ : ∃ B, (u.nm.toList == p.nm.toList) = B := ⟨_, rfl⟩
       rw [hin.out, hB] at hs3
       cases B with
       | true =>
        have hR := hid (hRf.out (by rw [hsu2.out, hm3.out (by rw [hs3.out]; rfl)]; rfl))
        go_wp2_with fail;go_quiet ((fail))
        go_wp2_with fail;go_ret;exact ⟨by rw [hR.out]; rfl, KN.out.drewN _⟩
       | false =>
        have hin2 : Hid (hasP (c.pl.take (k + 1)) p.nm = false) := by show _ = _; rw [hs3.out]; rfl
        go_wp2_with fail;go_quiet ((fail))
        go_wp2_with fail;exact ⟨⟨k + 1, by omega, by go_num, hin2, hid (kn.out.drewN _)⟩, by simp [intOf]; omega⟩
      ·have e : k = j := by omega
       have e2 : decide ((k : Int) < (j : Int)) = false := by simp; omega
       have hsu3 : Hid (pjsTo c (j + 1) = true) := by show _ = _; rw [hsu2.out, ← e, hin.out]; rfl
       go_wp2_with fail;exact ⟨⟨j + 1, by omega, by go_num, hsu3, kn⟩, by simp [intOf]; omega⟩
    ·have e : j = c.pl.length := by omega
     have hPA : pjsM c = true := by rw [hPP.out, ← e]; exact hst.out
     subst e;have hr3 : Hid ((if acM c = false then (132 : Int) else if auTo c c.s.toNat c.n.toNat = false then 133 else 0) = r) := by have := hr2.out; rw [hPA] at this; exact hid (by simpa using this)
     have HPA := hid hPA
     clear hPA hr2 hst;have kr0 := kr
     clear kr;go_wp2_with fail;clear c0 c1 c2 c3 c4;go_loopw [8, 9] (fun iv _ wr => ∃ j : Nat, j ≤ c.tl.length ∧ iv = .int .i64 j ∧ Hid (acTo c j = true) ∧ Hid (Kp [] W wr)) (fun iv _ _ => c.tl.length - (intOf iv).toNat)
     case atStart => exact ⟨0, Nat.zero_le _, rfl, hid rfl, kr0⟩
     case round =>
      obtain ⟨j, hj, rfl, hst, kr⟩ := hrel;clear kr0 KR;obtain ⟨c0, c1, c2, c3, c4⟩ := hF.out _ kr.out;have KR := hid (KW.out.trans kr.out (by simp))
      by_cases hjl : j < c.tl.length
      ·have hsu := hid (acTo_succ c j hjl)
       have hmo := hid (acTo_mono c (j + 1) c.tl.length (by omega))
       have i1 : (0 : Int) ≤ (j : Int) := by omega
       have i2 : (j : Int) < (c.tl.length : Int) := by omega
       have i3 : (j : Int) + 1 ≤ 9223372036854775807 := by omega
       have aV := hid (rCovered c j wr (HC.out.kept KR.out) hjl (tabsM_all HTA.out _ (List.getElem_mem hjl)) (fun p hp htb y hy => by
        have h3 := (pjsM_all HPA.out).2 p hp
        have h4 := plM_mem (pjM_parts h3).2.2 y hy
        have h5 : manyC c p = (c.tl[j].l.length : Int) := by unfold manyC; rw [htb]; simp [hjl]
        omega))
       rw [hst.out] at hsu;obtain ⟨V, hV⟩ : ∃ V, Hid (cvTo c.pl j (allB c.tl[j]) c.pl.length = V) := ⟨_, hid rfl⟩
       rw [hV.out] at aV hsu;simp only [Cg.v] at aV;rw [hta.out, hpa.out] at aV;clear hV;go_wp2_with fail;refine aV.out.mono ?_;rintro e w2 ⟨rfl, k2⟩;have K2 := hid (kr.out.trans k2 (by simp))
       clear k2 aV c0 c1 c2 c3 c4
       cases V with
       | true =>
        have hsu2 : Hid (acTo c (j + 1) = true) := by show _ = _; rw [hsu.out]; rfl
        go_wp2_with fail;exact ⟨⟨j + 1, by omega, by go_num, hsu2, K2⟩, by simp [intOf]; omega⟩
       | false =>
        have hR : Hid (r = 132) := by
         have := hr3.out
         rw [if_pos (by unfold acM; exact hmo.out (by rw [hsu.out]; rfl))] at this
         exact hid this.symm
        go_wp2_with fail;go_ret;exact ⟨by rw [hR.out]; rfl, KW.out.trans K2.out (by simp)⟩
      ·have e : j = c.tl.length := by omega
       have hAA : acM c = true := by unfold acM; rw [← e]; exact hst.out
       subst e;have hr4 : Hid ((if auTo c c.s.toNat c.n.toNat = false then (133 : Int) else 0) = r) := by have := hr3.out; rw [hAA] at this; exact hid (by simpa using this)
       clear hAA hr3 hst;obtain ⟨N, hN⟩ : ∃ N, Hid (c.n.toNat = N) := ⟨_, hid rfl⟩
       have hNe : c.n = (N : Int) := by have := hN.out; omega
       rw [hN.out] at hr4;have HNe := hid hNe
       have hN8 : N ≤ 8 := by omega
       have kr0 := kr
       have hF3 : Hid (∀ w', Kp [] W w' → w'.cell? ⟨w.heap.size, 0, none⟩ = some (.int .i64 (N : Int))) := fun w' k => by have := (hF.out _ k).1; rw [hNe] at this; exact this
       clear kr hNe;go_wp2_with fail;clear c0 c1 c2 c3 c4;go_loopw [10] (fun iv wr => ∃ j : Nat, j ≤ N ∧ iv = .int .i64 j ∧ Hid (auTo c c.s.toNat j = true) ∧ Hid (Kp [] W wr)) (fun iv _ => N - (intOf iv).toNat)
       case atStart => exact ⟨0, Nat.zero_le _, rfl, hid rfl, kr0⟩
       case round =>
        obtain ⟨j, hj, rfl, hst, kr⟩ := hrel;clear kr0 KR;obtain ⟨c0, c1, c2, c3, c4⟩ := hF.out _ kr.out;have KR := hid (KW.out.trans kr.out (by simp))
        have n0 := hF3.out _ kr.out
        by_cases hjl : j < N
        ·have i1 : (0 : Int) ≤ (j : Int) := by omega
         have i2 : (j : Int) < c.n := by have := HNe.out; omega
         have i3 : (j : Int) + 1 ≤ 9223372036854775807 := by omega
         have hsu := hid (auTo_succ c c.s.toNat j)
         have hmo := hid (auTo_mono c c.s.toNat (j + 1) N (by omega))
         have aO := hid (rOf c (j : Int) c.s.toNat wr (by omega) (HC.out.kept KR.out) HN.out (fun p hp => (pjM_parts ((pjsM_all HPA.out).2 p hp)).2.1) (pjsM_all HPA.out).1)
         simp only [Cg.v] at aO;rw [hta.out, hpa.out] at aO;rw [hst.out] at hsu;clear n0;go_wp2_with fail;refine aO.out.mono ?_;rintro e w2 ⟨oa, ocp, rfl, hs, hl, k2⟩;have K2 := hid (kr.out.trans k2 (by simp))
         clear aO k2 c0 c1 c2 c3 c4;obtain ⟨L0, hL⟩ : ∃ L, Hid (ofC c c.s.toNat (j : Int) = L) := ⟨_, hid rfl⟩
         rw [hL.out] at hsu ⊢
         cases L0 with
         | nil =>
          have hR : Hid (r = 133) := by
           have := hr4.out
           rw [if_pos (hmo.out (by rw [hsu.out]; rfl))] at this
           exact hid this.symm
          simp only [List.length_nil];go_wp2_with fail;go_ret;exact ⟨by rw [hR.out]; rfl, KW.out.trans K2.out (by simp)⟩
         | cons x L0 =>
          have hsu2 : Hid (auTo c c.s.toNat (j + 1) = true) := by show _ = _; rw [hsu.out]; rfl
          have dd : (((x :: L0).length : Int) == 0) = false := by simp; omega
          generalize (x :: L0).length = n at *
          clear hs hl hL hsu;go_wp2_with fail;exact ⟨⟨j + 1, by omega, by go_num, hsu2, K2⟩, by simp [intOf]; omega⟩
        ·have e : j = N := by omega
         have e2 : decide ((j : Int) < c.n) = false := by have := HNe.out; simp; omega
         have e3 : ((j : Int) < c.n) = False := by have := HNe.out; simp; omega
         have e5 : c.n ≤ (j : Int) := by have := HNe.out; omega
         have hR : Hid (r = 0) := by
          have := hr4.out
          rw [← e, hst.out] at this;exact hid (by simpa using this.symm)
         clear n0;go_wp2_with fail;go_ret;exact ⟨by rw [hR.out]; rfl, KR.out⟩
theorem chk_ok {c : Cg} (h : chkC c = 0) : cntd c = true ∧ tabsM c.tl = true ∧ pjsM c = true ∧ c.pl.length ≤ 8 ∧ (∀ p ∈ c.pl, wi p.sh c.n = true) ∧ auTo c c.s.toNat c.n.toNat = true := by
 unfold chkC at h
 cases h1 : cntd c with
 | false => rw [h1] at h; simp at h
 | true =>
 cases h2 : tabsM c.tl with
 | false => rw [h1, h2] at h; simp at h
 | true =>
 cases h3 : pjsM c with
 | false => rw [h1, h2, h3] at h; simp at h
 | true =>
 cases h4 : acM c with
 | false => rw [h1, h2, h3, h4] at h; simp at h
 | true =>
 cases h5 : auTo c c.s.toNat c.n.toNat with
 | false => rw [h1, h2, h3, h4, h5] at h; simp at h
 | true => exact ⟨rfl, rfl, rfl, (pjsM_all h3).1, fun p hp => (pjM_parts ((pjsM_all h3).2 p hp)).2.1, rfl⟩
end Go.Proofs.YtcgkkofmnajedaaGreatDoor
end

section
namespace Go.Proofs.YtcgkkofmnajedaaGreatDoor
open Go.ChangeShapes Go.WideShapes Go.ChangeAt Go.RowKit Go.Hay
theorem cellsYI : Tryz.prog.cellsOf 3 = 1 := by kernel_rfl
theorem bytesYI : Tryz.prog.bytesOf 3 = 8 := by kernel_rfl
section
variable {H : Type} {enc : TypeId × Value → H} {W : World} {a : Option Addr} {len cap : Nat} {d : DataW H} {ps : List MemPlace}
theorem openInts (h : DataW.Trod enc Tryz.prog W 0 (fun _ => true) true 27 (.slice a len cap) d ps) :
  ∃ l : List Int, len = l.length ∧ IntE.See W a l ∧ (∀ y ∈ l, True) ∧ l.length ≤ cap ∧ cap ≤ maxLen ∧ (a = none → cap = 0) ∧ (Fit 27 d → cap * 8 ≤ 140737488351232 ∧ ∀ y ∈ l, True) ∧ (l.map fun _ => 0).sum ≤ Rows.uptoBulk d ∧ cap + 1 ≤ Rows.uptoBulk d :=
 openEls IntE Tryz.underlying27 cellsYI 8 bytesYI (fun _ => True) (fun _ => True) (fun _ => 0) (fun fuel cs x hx hcs => by
  obtain ⟨v, rfl⟩ : ∃ v, cs = [v] := by
   match cs, hcs with
   | [v], _ => exact ⟨v, rfl⟩
  obtain ⟨n, e, _, _⟩ := DataW.trod_int Tryz.underlying3 hx;simp at e
  subst e;exact ⟨n, trivial, rfl, fun _ => trivial, Nat.zero_le _⟩) h
end
theorem cellsU1 : Tryz.prog.cellsOf 3 = 1 := by kernel_rfl
theorem cellsU2 : Tryz.prog.cellsOf 4 = 1 := by kernel_rfl
theorem cellsU3 : Tryz.prog.cellsOf 106 = 2 := by kernel_rfl
theorem bytesU3 : Tryz.prog.bytesOf 106 = 16 := by kernel_rfl
theorem cellsU4 : Tryz.prog.cellsOf 102 = 2 := by kernel_rfl
theorem bytesU4 : Tryz.prog.bytesOf 102 = 16 := by kernel_rfl
section
variable {H : Type} {enc : TypeId × Value → H} {W : World} {a : Option Addr} {len cap : Nat} {d : DataW H} {ps : List MemPlace}
theorem openOrders (h : DataW.Trod enc Tryz.prog W 0 (fun _ => true) true 29 (.slice a len cap) d ps) :
  ∃ l : List (Int × Bool), len = l.length ∧ OrE.See W a l ∧ (∀ y ∈ l, True) ∧ l.length ≤ cap ∧ cap ≤ maxLen ∧ (a = none → cap = 0) ∧ (Fit 29 d → cap * 16 ≤ 140737488351232 ∧ ∀ y ∈ l, True) ∧ (l.map fun _ => 0).sum ≤ Rows.uptoBulk d ∧ cap + 1 ≤ Rows.uptoBulk d :=
 openEls OrE Tryz.underlying29 cellsU3 16 bytesU3 (fun _ => True) (fun _ => True) (fun _ => 0) (fun fuel cs x hx hcs => by
  match cs, hcs with
  | [c0, c1], _ =>
   obtain ⟨xs, n, _, rfl, _, hlen, hf⟩ := DataW.trod_struct Tryz.underlying106 hx
   match xs, hlen with
   | [y0, y1], _ =>
    have h0 := hf 0 _ rfl
    have h1 := hf 1 _ rfl
    simp [cellsU1, cellsU2] at h0 h1
    obtain ⟨k, e0, _, w0⟩ := DataW.trod_int Tryz.underlying3 h0;obtain ⟨b, e1, _⟩ := DataW.trod_bool Tryz.underlying4 h1;simp at e0 e1
    subst e0 e1;exact ⟨(k, b), trivial, rfl, fun _ => trivial, Nat.zero_le _⟩) h
theorem openAggs (h : DataW.Trod enc Tryz.prog W 0 (fun _ => true) true 28 (.slice a len cap) d ps) :
  ∃ l : List (Int × Int), len = l.length ∧ AgE.See W a l ∧ (∀ y ∈ l, True) ∧ l.length ≤ cap ∧ cap ≤ maxLen ∧ (a = none → cap = 0) ∧ (Fit 28 d → cap * 16 ≤ 140737488351232 ∧ ∀ y ∈ l, True) ∧ (l.map fun _ => 0).sum ≤ Rows.uptoBulk d ∧ cap + 1 ≤ Rows.uptoBulk d :=
 openEls AgE Tryz.underlying28 cellsU4 16 bytesU4 (fun _ => True) (fun _ => True) (fun _ => 0) (fun fuel cs x hx hcs => by
  match cs, hcs with
  | [c0, c1], _ =>
   obtain ⟨xs, n, _, rfl, _, hlen, hf⟩ := DataW.trod_struct Tryz.underlying102 hx
   match xs, hlen with
   | [y0, y1], _ =>
    have h0 := hf 0 _ rfl
    have h1 := hf 1 _ rfl
    simp [cellsU1, cellsU2] at h0 h1
    obtain ⟨k, e0, _, w0⟩ := DataW.trod_int Tryz.underlying3 h0;obtain ⟨b, e1, _, w1⟩ := DataW.trod_int Tryz.underlying3 h1;simp at e0 e1
    subst e0 e1;exact ⟨(k, b), trivial, rfl, fun _ => trivial, Nat.zero_le _⟩) h
end
theorem cellsQ0 : Tryz.prog.cellsOf 31 = 12 := by kernel_rfl
theorem cellsQ1 : Tryz.prog.cellsOf 26 = 1 := by kernel_rfl
theorem cellsQ2 : Tryz.prog.cellsOf 27 = 1 := by kernel_rfl
theorem cellsQ3 : Tryz.prog.cellsOf 28 = 1 := by kernel_rfl
theorem cellsQ4 : Tryz.prog.cellsOf 29 = 1 := by kernel_rfl
section
variable {H : Type} {enc : TypeId × Value → H} {W : World} {a : Option Addr} {len cap : Nat} {d : DataW H} {ps : List MemPlace}
theorem openIntQ {fuel : Nat} {v : Value} {x : DataW H × List MemPlace} (h : DataW.trod enc Tryz.prog W 0 (fun _ => true) true fuel 3 [v] = some x) : ∃ n : Int, v = .int .i64 n ∧ -9223372036854775808 ≤ n ∧ n ≤ 9223372036854775807 := by
 obtain ⟨n, e0, _, w0⟩ := DataW.trod_int Tryz.underlying3 h;have hb := bounds_i64 w0
 exact ⟨n, by simpa using e0, hb.1, hb.2⟩
theorem openBoolQ {fuel : Nat} {v : Value} {x : DataW H × List MemPlace} (h : DataW.trod enc Tryz.prog W 0 (fun _ => true) true fuel 4 [v] = some x) : ∃ n : Bool, v = .bool n := by
 obtain ⟨n, e0, _⟩ := DataW.trod_bool Tryz.underlying4 h;exact ⟨n, by simpa using e0⟩
theorem slQ {t : TypeId} {e : TypeId} (ht : Tryz.prog.underlying t = some (.slice e)) {fuel : Nat} {v : Value} {x : DataW H × List MemPlace} (h : DataW.trod enc Tryz.prog W 0 (fun _ => true) true fuel t [v] = some x) : ∃ a len cap, v = .slice a len cap := by
 rcases Go.Deep.open_slice ht h with ⟨hcs, _⟩ | ⟨a, len, cap, _, _, _, _, hcs, _⟩
 ·exact ⟨none, 0, 0, by simpa using hcs⟩
 ·exact ⟨_, _, _, by simpa using hcs⟩
structure Qy.lies (W : World) (q : Qy) (n : Nat) : Prop where
 wh : TmE.See W q.wh.a q.wh.l
 cl : IntE.See W q.cl.a q.cl.l
 by_ : IntE.See W q.by_.a q.by_.l
 ag : AgE.See W q.ag.a q.ag.l
 od : OrE.See W q.od.a q.od.l
 nil : (q.wh.a = none → q.wh.c = 0) ∧ (q.cl.a = none → q.cl.c = 0) ∧ (q.by_.a = none → q.by_.c = 0) ∧ (q.ag.a = none → q.ag.c = 0) ∧ (q.od.a = none → q.od.c = 0)
 few : q.wh.l.length ≤ n ∧ q.cl.l.length ≤ n ∧ q.by_.l.length ≤ n ∧ q.ag.l.length ≤ n ∧ q.od.l.length ≤ n
 lim : -9223372036854775808 ≤ q.lim ∧ q.lim ≤ 9223372036854775807
theorem Qy.lies.ok {q : Qy} {n : Nat} (h : q.lies W n) (hn : n ≤ 1048576) : q.ok W := by
 obtain ⟨f1, f2, f3, f4, f5⟩ := h.few;obtain ⟨n1, n2, n3, n4, n5⟩ := h.nil;exact ⟨⟨h.wh, n1, by omega⟩, ⟨h.cl, n2, by omega⟩, ⟨h.by_, n3, by omega⟩, ⟨h.ag, n4, by omega⟩, ⟨h.od, n5, by omega⟩, h.lim.2⟩
theorem openQuery {base : Nat} {v : Value} (hv : Value.okWide Tryz.prog W .any base 31 v) (h : DataW.Trod enc Tryz.prog W 0 (fun _ => true) true 31 v d ps) : ∃ q : Qy, v = .agg q.cs.toArray ∧ q.lies W (Rows.uptoBulk d) := by
 obtain ⟨cs, rfl, hsz⟩ := okWide_struct Tryz.underlying31 hv;rw [cellsQ0] at hsz;obtain ⟨fuel, hf⟩ := h;obtain ⟨l⟩ := cs
 match l, hsz, hf with
 | [c0, c1, c2, c3, c4, c5, c6, c7, c8, c9, c10, c11], _, hf =>
  have hf' : DataW.trod enc Tryz.prog W 0 (fun _ => true) true fuel 31 [c0, c1, c2, c3, c4, c5, c6, c7, c8, c9, c10, c11] = some (d, ps) := hf
  obtain ⟨xs, n, _, ed, _, hlen, hff⟩ := DataW.trod_struct Tryz.underlying31 hf'
  match xs, hlen with
  | [y0, y1, y2, y3, y4, y5, y6, y7, y8, y9, y10, y11], _ =>
   have h0 := hff 0 _ rfl
   have h1 := hff 1 _ rfl
   have h2 := hff 2 _ rfl
   have h3 := hff 3 _ rfl
   have h4 := hff 4 _ rfl
   have h5 := hff 5 _ rfl
   have h6 := hff 6 _ rfl
   have h7 := hff 7 _ rfl
   have h8 := hff 8 _ rfl
   have h9 := hff 9 _ rfl
   have h10 := hff 10 _ rfl
   have h11 := hff 11 _ rfl
   simp [cellsU1, cellsU2, cellsQ1, cellsQ2, cellsQ3, cellsQ4] at h0 h1 h2 h3 h4 h5 h6 h7 h8 h9 h10 h11
   obtain ⟨tb, e0, _⟩ := openIntQ h0;obtain ⟨jn, e1⟩ := openBoolQ h1;obtain ⟨rt, e2, _⟩ := openIntQ h2;obtain ⟨lo, e3, _⟩ := openIntQ h3;obtain ⟨ro, e4, _⟩ := openIntQ h4;obtain ⟨wa, wn, wc, rfl⟩ := slQ Tryz.underlying26 h5;obtain ⟨ca, cn, cc, rfl⟩ := slQ Tryz.underlying27 h6;obtain ⟨gr, e7⟩ := openBoolQ h7;obtain ⟨ya, yn, yc, rfl⟩ := slQ Tryz.underlying27 h8;obtain ⟨ga, gn, gc, rfl⟩ := slQ Tryz.underlying28 h9;obtain ⟨oa, on, oc, rfl⟩ := slQ Tryz.underlying29 h10;obtain ⟨lim, e11, hb⟩ := openIntQ h11;obtain ⟨wl, rfl, ws, _, wl1, wl2, wl3, _, _, wl4⟩ := openTerms ⟨_, h5⟩;obtain ⟨cl, rfl, cs', _, cl1, cl2, cl3, _, _, cl4⟩ := openInts ⟨_, h6⟩;obtain ⟨yl, rfl, ys, _, yl1, yl2, yl3, _, _, yl4⟩ := openInts ⟨_, h8⟩;obtain ⟨gl, rfl, gs, _, gl1, gl2, gl3, _, _, gl4⟩ := openAggs ⟨_, h9⟩;obtain ⟨ol, rfl, os, _, ol1, ol2, ol3, _, _, ol4⟩ := openOrders ⟨_, h10⟩;subst e0 e1 e2 e3 e4 e7 e11
   have hd : Rows.uptoBulk y5.1 ≤ Rows.uptoBulk d ∧ Rows.uptoBulk y6.1 ≤ Rows.uptoBulk d ∧ Rows.uptoBulk y8.1 ≤ Rows.uptoBulk d ∧ Rows.uptoBulk y9.1 ≤ Rows.uptoBulk d ∧ Rows.uptoBulk y10.1 ≤ Rows.uptoBulk d := by
    have e := (Prod.mk.inj ed).1
    rw [e];simp only [Rows.uptoBulk, List.map_cons, List.map_nil, Rows.uptoBulkAll];omega
   refine ⟨⟨tb, jn, rt, lo, ro, ⟨wa, wc, wl⟩, ⟨ca, cc, cl⟩, gr, ⟨ya, yc, yl⟩, ⟨ga, gc, gl⟩, ⟨oa, oc, ol⟩, lim⟩, rfl, ⟨ws, cs', ys, gs, os, ⟨wl3, cl3, yl3, gl3, ol3⟩, ?_, hb⟩⟩;dsimp only;omega
end
theorem cellsCo : Tryz.prog.cellsOf 104 = 3 := by kernel_rfl
theorem cellsTa : Tryz.prog.cellsOf 77 = 2 := by kernel_rfl
theorem cellsPr : Tryz.prog.cellsOf 92 = 6 := by kernel_rfl
theorem cellsCg : Tryz.prog.cellsOf 25 = 5 := by kernel_rfl
theorem cellsSCo : Tryz.prog.cellsOf 75 = 1 := by kernel_rfl
theorem cellsSTa : Tryz.prog.cellsOf 22 = 1 := by kernel_rfl
theorem cellsSPr : Tryz.prog.cellsOf 23 = 1 := by kernel_rfl
theorem cellsSIn : Tryz.prog.cellsOf 27 = 1 := by kernel_rfl
theorem cellsIn1 : Tryz.prog.cellsOf 3 = 1 := by kernel_rfl
theorem cellsBo1 : Tryz.prog.cellsOf 4 = 1 := by kernel_rfl
theorem cellsSt1 : Tryz.prog.cellsOf 9 = 1 := by kernel_rfl
theorem bytesIn1 : Tryz.prog.bytesOf 3 = 8 := by kernel_rfl
theorem bytesTa : Tryz.prog.bytesOf 77 = 40 := by kernel_rfl
theorem bytesPr : Tryz.prog.bytesOf 92 = 88 := by kernel_rfl
section
variable {H : Type} {enc : TypeId × Value → H} {W : World} {a : Option Addr} {len cap : Nat} {d : DataW H} {ps : List MemPlace}
theorem openColC {fuel : Nat} {c0 c1 c2 : Value} {x : DataW H × List MemPlace} (h : DataW.trod enc Tryz.prog W 0 (fun _ => true) true fuel 104 [c0, c1, c2] = some x) :
  ∃ c : Col, c0 = .string c.nm ∧ c1 = .int .i64 c.k ∧ c2 = .bool c.z := by
 obtain ⟨xs, n, _, rfl, _, hlen, hf⟩ := DataW.trod_struct Tryz.underlying104 h
 match xs, hlen with
 | [y0, y1, y2], _ =>
  have h0 := hf 0 _ rfl
  have h1 := hf 1 _ rfl
  have h2 := hf 2 _ rfl
  simp [cellsIn1, cellsBo1, cellsSt1] at h0 h1 h2
  obtain ⟨s, e0, _, w0⟩ := DataW.trod_string Tryz.underlying9 h0;obtain ⟨k, e1, _, w1⟩ := DataW.trod_int Tryz.underlying3 h1;obtain ⟨b, e2, _⟩ := DataW.trod_bool Tryz.underlying4 h2;simp at e0 e1 e2
  exact ⟨⟨s, k, b⟩, e0, e1, e2⟩
theorem openColsC {fuel : Nat} {v : Value} {x : DataW H × List MemPlace} (hf : DataW.trod enc Tryz.prog W 0 (fun _ => true) true fuel 75 [v] = some x) :
  ∃ (a : Option Addr) (cap : Nat) (l : List Col), v = .slice a l.length cap ∧ Cols W a l ∧ l.length ≤ cap ∧ cap ≤ maxLen := by
 rcases Go.Deep.open_slice Tryz.underlying75 hf with ⟨hcs, hx⟩ | ⟨x, len, cap, m, n, D, Pl, hcs, _, hl, hmx, hm, hx, hcell⟩
 ·simp at hcs
  subst hcs;exact ⟨none, 0, [], rfl, .inl rfl, Nat.le_refl _, Nat.zero_le _⟩
 ·simp at hcs
  subst hcs;have hm' : m = cap := by simpa using hm
  subst hm';rw [cellsCo] at hcell;have : Inhabited Col := ⟨⟨⟨#[]⟩, 0, false⟩⟩
  obtain ⟨B, hB⟩ := Go.Deep.choose_lt (α := Col) (n := len) (p := fun i t => W.cell? (x.add (i * 3)) = some (.string t.nm) ∧ W.cell? ((x.add (i * 3)).add 1) = some (.int .i64 t.k) ∧ W.cell? ((x.add (i * 3)).add 2) = some (.bool t.z)) (fun i hi => by
   obtain ⟨cs', h1, h2⟩ := hcell i (by omega)
   obtain ⟨_, hlen, hc⟩ := World.cells?_some h1
   match cs', hlen with
   | [c0, c1, c2], _ =>
    obtain ⟨t, e0, e1, e2⟩ := openColC h2;have q0 := hc 0 (by omega)
    have q1 := hc 1 (by omega)
    have q2 := hc 2 (by omega)
    simp at q0 q1 q2
    subst e0 e1 e2;exact ⟨t, by simpa [Addr.add] using q0, q1, q2⟩)
  refine ⟨some x, m, (List.range len).map B, by simp, ?_, by simpa using hl, hmx⟩
  cases hlen : len with
  | zero => exact .inl rfl
  | succ k =>
   obtain ⟨b, off, spot⟩ := x;have hc0 := (hB 0 (by omega)).1
   have hspot : spot = none := by simpa [Addr.add] using World.cell?_spot hc0
   subst hspot;refine .inr ⟨b, off, rfl, fun j y hy => ?_⟩
   rw [← hlen] at hy;have hj : j < len := by have := (List.getElem?_eq_some_iff.1 hy).1; simpa using this
   rw [List.getElem?_map, List.getElem?_range hj] at hy
   cases hy
   obtain ⟨q0, q1, q2⟩ := hB j hj;rw [Addr.add_lit] at q0;rw [Addr.add_lit, Addr.add_lit] at q1 q2;exact ⟨q0, q1, q2⟩
theorem openIntC {fuel : Nat} {v : Value} {x : DataW H × List MemPlace} (h : DataW.trod enc Tryz.prog W 0 (fun _ => true) true fuel 3 [v] = some x) : ∃ n : Int, v = .int .i64 n := by
 obtain ⟨n, e, _, hw⟩ := DataW.trod_int Tryz.underlying3 h;simp at e
 exact ⟨n, e⟩
theorem openTbC {fuel : Nat} {cs : List Value} {x : DataW H × List MemPlace} (h : DataW.trod enc Tryz.prog W 0 (fun _ => true) true fuel 77 cs = some x) (hcs : cs.length = 2) : ∃ y : Tb, y.ok W ∧ cs = TbE.c y := by
 obtain ⟨c0, c1, rfl⟩ : ∃ c0 c1, cs = [c0, c1] := by
  match cs, hcs with
  | [c0, c1], _ => exact ⟨c0, c1, rfl⟩
 obtain ⟨xs, n, _, rfl, _, hlen, hf⟩ := DataW.trod_struct Tryz.underlying77 h
 match xs, hlen with
 | [y0, y1], _ =>
  have h0 := hf 0 _ rfl
  have h1 := hf 1 _ rfl
  simp [cellsSt1, cellsSCo] at h0 h1
  obtain ⟨s, e0, _, w0⟩ := DataW.trod_string Tryz.underlying9 h0;simp at e0
  obtain ⟨a, cap, cl, e1, hc, hl, hm⟩ := openColsC h1;subst e0 e1;have hmx : maxLen ≤ 9223372036854775807 := by unfold maxLen; omega
  exact ⟨⟨s, a, cap, cl⟩, ⟨hc, hl, (show cap ≤ 9223372036854775807 by omega)⟩, rfl⟩
end
theorem le_sum_map {α : Type} (f : α → Nat) : ∀ (l : List α) (x : α), x ∈ l → f x ≤ (l.map f).sum
 | [], _, h => by cases h
 | y :: l, x, h => by
  rw [List.map_cons, List.sum_cons]
  rcases List.mem_cons.1 h with rfl | h
  ·omega
  ·have := le_sum_map f l x h
   omega
section
variable {H : Type} {enc : TypeId × Value → H} {W : World} {a : Option Addr} {len cap : Nat} {d : DataW H} {ps : List MemPlace}
theorem openIntsB {fuel : Nat} {v : Value} {x : DataW H × List MemPlace} (h : DataW.trod enc Tryz.prog W 0 (fun _ => true) true fuel 27 [v] = some x) :
  ∃ (a : Option Addr) (cap : Nat) (l : List Int), v = .slice a l.length cap ∧ IntE.See W a l ∧ l.length ≤ cap ∧ cap ≤ maxLen ∧ l.length ≤ Rows.uptoBulk x.1 := by
 have hv : ∃ a len cap, v = .slice a len cap := by
  rcases Go.Deep.open_slice Tryz.underlying27 h with ⟨hcs, _⟩ | ⟨a, len, cap, _, _, _, _, hcs, _⟩
  ·exact ⟨none, 0, 0, by simpa using hcs⟩
  ·exact ⟨_, _, _, by simpa using hcs⟩
 obtain ⟨a, len, cap, rfl⟩ := hv
 obtain ⟨l, rfl, hs, _, hl, hm, _, _, _, hb⟩ := openEls IntE (W := W) (a := a) (len := len) (cap := cap) (d := x.1) (ps := x.2) Tryz.underlying27 cellsIn1 8 bytesIn1 (fun _ => True) (fun _ => True) (fun _ => 0) (fun fuel cs x hx hcs => by
  obtain ⟨v, rfl⟩ : ∃ v, cs = [v] := by
   match cs, hcs with
   | [v], _ => exact ⟨v, rfl⟩
  obtain ⟨n, rfl⟩ := openIntC hx;exact ⟨n, trivial, rfl, fun _ => trivial, Nat.zero_le _⟩) ⟨fuel, h⟩
 exact ⟨a, cap, l, rfl, hs, hl, hm, by omega⟩
theorem openPjB {fuel : Nat} {cs : List Value} {x : DataW H × List MemPlace} (h : DataW.trod enc Tryz.prog W 0 (fun _ => true) true fuel 92 cs = some x) (hcs : cs.length = 6) : ∃ y : Pj, y.ok W ∧ cs = PjE.c y ∧ y.cl.length + y.sl.length ≤ Rows.uptoBulk x.1 := by
 obtain ⟨c0, c1, c2, c3, c4, c5, rfl⟩ : ∃ c0 c1 c2 c3 c4 c5, cs = [c0, c1, c2, c3, c4, c5] := by
  match cs, hcs with
  | [c0, c1, c2, c3, c4, c5], _ => exact ⟨c0, c1, c2, c3, c4, c5, rfl⟩
 obtain ⟨xs, n, _, rfl, _, hlen, hf⟩ := DataW.trod_struct Tryz.underlying92 h
 match xs, hlen with
 | [y0, y1, y2, y3, y4, y5], _ =>
  have h0 := hf 0 _ rfl
  have h1 := hf 1 _ rfl
  have h2 := hf 2 _ rfl
  have h3 := hf 3 _ rfl
  have h4 := hf 4 _ rfl
  have h5 := hf 5 _ rfl
  simp [cellsSt1, cellsSIn, cellsIn1] at h0 h1 h2 h3 h4 h5
  obtain ⟨s, e0, _, w0⟩ := DataW.trod_string Tryz.underlying9 h0;simp at e0
  obtain ⟨tb, e1⟩ := openIntC h1;obtain ⟨ca, cc, cl, e2, hc2, hl2, hm2, hb2⟩ := openIntsB h2;obtain ⟨sa, sc, sl, e3, hc3, hl3, hm3, hb3⟩ := openIntsB h3;obtain ⟨by_, e4⟩ := openIntC h4;obtain ⟨sh, e5⟩ := openIntC h5;subst e0 e1 e2 e3 e4 e5;have hmx : maxLen ≤ 9223372036854775807 := by unfold maxLen; omega
  refine ⟨⟨s, tb, ca, cc, cl, sa, sc, sl, by_, sh⟩, ⟨hc2, hc3, hl2, hl3, (show cc ≤ 9223372036854775807 by omega), (show sc ≤ 9223372036854775807 by omega)⟩, rfl, ?_⟩
  simp only [Rows.uptoBulk, List.map_cons, List.map_nil, Rows.uptoBulkAll];omega
theorem openCatB {base : Nat} {v : Value} (hv : Value.okWide Tryz.prog W .any base 25 v) (h : DataW.Trod enc Tryz.prog W 0 (fun _ => true) true 25 v d ps) : ∃ c : Cg, v = c.v ∧ c.ok W ∧ c.pl.length ≤ Rows.uptoBulk d ∧ ∀ p ∈ c.pl, p.cl.length + p.sl.length ≤ Rows.uptoBulk d := by
 obtain ⟨cs, rfl, hsz⟩ := okWide_struct Tryz.underlying25 hv;rw [cellsCg] at hsz;obtain ⟨fuel, hf⟩ := h;obtain ⟨l⟩ := cs
 match l, hsz, hf with
 | [c0, c1, c2, c3, c4], _, hf =>
  have hf' : DataW.trod enc Tryz.prog W 0 (fun _ => true) true fuel 25 [c0, c1, c2, c3, c4] = some (d, ps) := hf
  obtain ⟨xs, n, _, ed, _, hlen, hff⟩ := DataW.trod_struct Tryz.underlying25 hf'
  match xs, hlen with
  | [y0, y1, y2, y3, y4], _ =>
   have h0 := hff 0 _ rfl
   have h1 := hff 1 _ rfl
   have h2 := hff 2 _ rfl
   have h3 := hff 3 _ rfl
   have h4 := hff 4 _ rfl
   simp [cellsIn1, cellsSTa, cellsSPr] at h0 h1 h2 h3 h4
   obtain ⟨n0, e0⟩ := openIntC h0;obtain ⟨n1, e1⟩ := openIntC h1;obtain ⟨n2, e2⟩ := openIntC h2
   have hv3 : ∃ a len cap, c3 = .slice a len cap := by
    rcases Go.Deep.open_slice Tryz.underlying22 h3 with ⟨hcs, _⟩ | ⟨a, len, cap, _, _, _, _, hcs, _⟩
    ·exact ⟨none, 0, 0, by simpa using hcs⟩
    ·exact ⟨_, _, _, by simpa using hcs⟩
   have hv4 : ∃ a len cap, c4 = .slice a len cap := by
    rcases Go.Deep.open_slice Tryz.underlying23 h4 with ⟨hcs, _⟩ | ⟨a, len, cap, _, _, _, _, hcs, _⟩
    ·exact ⟨none, 0, 0, by simpa using hcs⟩
    ·exact ⟨_, _, _, by simpa using hcs⟩
   obtain ⟨ta, tn, tc, rfl⟩ := hv3;obtain ⟨pa, pn, pc, rfl⟩ := hv4
   obtain ⟨tl, rfl, ts, tok, tcl, tm, _⟩ := openEls TbE (W := W) (a := ta) (len := tn) (cap := tc) (d := y3.1) (ps := y3.2) Tryz.underlying22 cellsTa 40 bytesTa (fun y => y.ok W) (fun _ => True) (fun _ => 0) (fun fuel cs x hx hcs => by
    obtain ⟨y, h1, h2⟩ := openTbC hx hcs;exact ⟨y, h1, h2, fun _ => trivial, Nat.zero_le _⟩) ⟨_, h3⟩
   obtain ⟨pl, rfl, ps', pok, pcl, pm, _, _, psum, pcap⟩ := openEls PjE (W := W) (a := pa) (len := pn) (cap := pc) (d := y4.1) (ps := y4.2) Tryz.underlying23 cellsPr 88 bytesPr (fun y => y.ok W) (fun _ => True) (fun y => y.cl.length + y.sl.length) (fun fuel cs x hx hcs => by
    obtain ⟨y, h1, h2, h3⟩ := openPjB hx hcs;exact ⟨y, h1, h2, fun _ => trivial, h3⟩) ⟨_, h4⟩
   subst e0 e1 e2;have hmx : maxLen ≤ 9223372036854775807 := by unfold maxLen; omega
   have hd : Rows.uptoBulk y4.1 ≤ Rows.uptoBulk d := by
    have e := (Prod.mk.inj ed).1
    rw [e];simp only [Rows.uptoBulk, List.map_cons, List.map_nil, Rows.uptoBulkAll];omega
   refine ⟨⟨n0, n1, n2, ta, tc, tl, pa, pc, pl⟩, rfl, ⟨ts, tok, tcl, (show tc ≤ 9223372036854775807 by omega), ps', pok, pcl, (show pc ≤ 9223372036854775807 by omega)⟩, (show pl.length ≤ _ by omega), fun p hp => ?_⟩
   have h1 := le_sum_map (fun y : Pj => y.cl.length + y.sl.length) pl p hp
   omega
end
end Go.Proofs.YtcgkkofmnajedaaGreatDoor
end

section
namespace Go.Proofs.YtcgkkofmnajedaaGreatDoor
open Go.RowKit Go.Hay
attribute [local go_sem] Oper.semAt_some
theorem tabsM_few {c : Cg} (h : chkC c = 0) : ∀ t ∈ c.tl, t.l.length ≤ 1000000 := fun t ht => by
 have h1 := (chk_ok h).2.1
 unfold tabsM at h1
 rw [Bool.and_eq_true, Bool.and_eq_true] at h1;have h2 := h1.2.2
 obtain ⟨j, hj, e⟩ := List.mem_iff_getElem.1 ht;unfold tabTo at h2
 have h3 := List.all_eq_true.1 h2 j (by simpa using hj)
 unfold tabAt at h3
 rw [List.getElem?_eq_getElem hj, e] at h3;dsimp only at h3;rw [Bool.and_eq_true] at h3;have h4 := h3.1
 unfold tableV at h4
 by_cases h5 : (namedV t.nm && (decide (t.l.length ≠ 0) && (decide (t.l.length ≤ 8) && colsV t.l))) = true
 ·rw [Bool.and_eq_true, Bool.and_eq_true, Bool.and_eq_true] at h5
  have := of_decide_eq_true h5.2.2.1
  omega
 ·rw [if_neg h5] at h4
  simp at h4
theorem planChecksWalk (c : Cg) (q : Qy) (w : World) (hA : Asks w) (hc : c.ok w) (hq : q.ok w) : Calls Tryz.prog 3 #[c.v, .agg q.cs.toArray] w fun e w' => e = .returned (.bool true) ∧ Below w.heap.size w w' := by
 obtain ⟨wb, hwb, kc, zc, bc⟩ := boxC c w;obtain ⟨qc, hqc⟩ : ∃ x, w.heap.size = x := ⟨_, rfl⟩
 rw [hqc] at bc zc;obtain ⟨w1, hw1, k1, b1⟩ : ∃ x, wb.alloc (.cells q.cs.toArray 31) = x ∧ Kp [] wb x ∧ Bn x wb.heap.size q.cs := ⟨_, rfl, (Kp.refl _ _).alloc _, Bn.new wb _ _⟩
 obtain ⟨q2, hq2⟩ : ∃ x, wb.heap.size = x := ⟨_, rfl⟩
 rw [hq2] at b1 zc;have kw := kc.trans k1 (by simp)
 have KW := hid kw
 have bc1 := hid (bc.kept k1)
 have HB := hid b1
 have aL := hid (fun W (k : Kp [] w1 W) => cAlive16 W (hA.kept (kw.trans k (by simp)) (by simp)))
 have aR := hid (fun W (k : Kp [] w1 W) => rCheck c W (hc.kept (kw.trans k (by simp))))
 have HP : Hid (chkC c = 0 → ∀ W, Kp [] w1 W → Calls Tryz.prog 10 #[c.v, .agg q.cs.toArray] W (fun e w' => e = .returned (.int .i64 (chkQ c q)) ∧ Kp [] W w') ∧ Calls Tryz.prog 11 #[c.v, .agg q.cs.toArray] W (fun e w' => e = .returned (.int .i64 (chkQ c q)) ∧ Kp [] W w')) := hid fun h W k => ⟨cCheckP c q W (hc.kept (kw.trans k (by simp))) (tabsM_few h) (hq.kept (kw.trans k (by simp))), rCheckP c q W (hc.kept (kw.trans k (by simp))) (tabsM_few h) (hq.kept (kw.trans k (by simp)))⟩
 obtain ⟨V, hV⟩ : ∃ V, Hid (chkC c = V) := ⟨_, hid rfl⟩
 obtain ⟨Z, hZ⟩ : ∃ Z, Hid (chkQ c q = Z) := ⟨_, hid rfl⟩
 rw [hV.out] at aR HP;rw [hZ.out] at HP;have dZ : (Z == Z) = true := by simp
 obtain ⟨tb, jn, rt, lo, ro, ⟨wa, wc, wl⟩, ⟨ca, cc, cl⟩, gr, ⟨ya, yc, yl⟩, ⟨ga, gc, gl⟩, ⟨oa, oc, ol⟩, lim⟩ := q;simp only [Qy.cs, Sl.v, Cg.v] at hw1 HB aR HP ⊢
 have hF : Hid (∀ W', Kp [] w1 W' → (fun W' => W'.cell? ⟨qc, 0, none⟩ = some (.int .i64 c.n) ∧ W'.cell? ⟨qc, 1, none⟩ = some (.int .i64 c.s) ∧ W'.cell? ⟨qc, 2, none⟩ = some (.int .i64 c.k) ∧ W'.cell? ⟨qc, 3, none⟩ = some (.slice c.ta c.tl.length c.tc) ∧ W'.cell? ⟨qc, 4, none⟩ = some (.slice c.pa c.pl.length c.pc) ∧ W'.cell? ⟨q2, 0, none⟩ = some (.int .i64 tb) ∧ W'.cell? ⟨q2, 1, none⟩ = some (.bool jn) ∧ W'.cell? ⟨q2, 2, none⟩ = some (.int .i64 rt) ∧ W'.cell? ⟨q2, 3, none⟩ = some (.int .i64 lo) ∧ W'.cell? ⟨q2, 4, none⟩ = some (.int .i64 ro) ∧ W'.cell? ⟨q2, 5, none⟩ = some (.slice wa wl.length wc) ∧ W'.cell? ⟨q2, 6, none⟩ = some (.slice ca cl.length cc) ∧ W'.cell? ⟨q2, 7, none⟩ = some (.bool gr) ∧ W'.cell? ⟨q2, 8, none⟩ = some (.slice ya yl.length yc) ∧ W'.cell? ⟨q2, 9, none⟩ = some (.slice ga gl.length gc) ∧ W'.cell? ⟨q2, 10, none⟩ = some (.slice oa ol.length oc) ∧ W'.cell? ⟨q2, 11, none⟩ = some (.int .i64 lim)) W') := hid fun W' k => by
  have h1 := bc1.out.kept k
  have h2 := HB.out.kept k
  exact ⟨h1.get 0 _ rfl, h1.get 1 _ rfl, h1.get 2 _ rfl, h1.get 3 _ rfl, h1.get 4 _ rfl, h2.get 0 _ rfl, h2.get 1 _ rfl, h2.get 2 _ rfl, h2.get 3 _ rfl, h2.get 4 _ rfl, h2.get 5 _ rfl, h2.get 6 _ rfl, h2.get 7 _ rfl, h2.get 8 _ rfl, h2.get 9 _ rfl, h2.get 10 _ rfl, h2.get 11 _ rfl⟩
 clear hA hc hq kc k1 bc b1 zc kw
 by_cases v0 : V = 0
 ·subst v0
  have aP := hid (fun W k => (HP.out rfl W k).1)
  have aQ := hid (fun W k => (HP.out rfl W k).2)
  clear HP;go_enter Tryz.func3, Tryz.ntmps3
  go_wp2_with fail;refine wp_region_held_drew (S := fun W' => W'.cell? ⟨qc, 0, none⟩ = some (.int .i64 c.n) ∧ W'.cell? ⟨qc, 1, none⟩ = some (.int .i64 c.s) ∧ W'.cell? ⟨qc, 2, none⟩ = some (.int .i64 c.k) ∧ W'.cell? ⟨qc, 3, none⟩ = some (.slice c.ta c.tl.length c.tc) ∧ W'.cell? ⟨qc, 4, none⟩ = some (.slice c.pa c.pl.length c.pc) ∧ W'.cell? ⟨q2, 0, none⟩ = some (.int .i64 tb) ∧ W'.cell? ⟨q2, 1, none⟩ = some (.bool jn) ∧ W'.cell? ⟨q2, 2, none⟩ = some (.int .i64 rt) ∧ W'.cell? ⟨q2, 3, none⟩ = some (.int .i64 lo) ∧ W'.cell? ⟨q2, 4, none⟩ = some (.int .i64 ro) ∧ W'.cell? ⟨q2, 5, none⟩ = some (.slice wa wl.length wc) ∧ W'.cell? ⟨q2, 6, none⟩ = some (.slice ca cl.length cc) ∧ W'.cell? ⟨q2, 7, none⟩ = some (.bool gr) ∧ W'.cell? ⟨q2, 8, none⟩ = some (.slice ya yl.length yc) ∧ W'.cell? ⟨q2, 9, none⟩ = some (.slice ga gl.length gc) ∧ W'.cell? ⟨q2, 10, none⟩ = some (.slice oa ol.length oc) ∧ W'.cell? ⟨q2, 11, none⟩ = some (.int .i64 lim)) (by kernel_rfl) ?_ (fun hHeld => ?_)
  ·exact hF.out _ (Kp.refl _ _).drew
  have KD : Hid (Kp [] w1 w1.drew) := hid (Kp.refl _ _).drew
  generalize w1.drew = wd at *
  refine rdH 0 (by kernel_rfl) rfl fun K hK => ?_
  go_simp;refine (aL.out _ KD.out).mono ?_;rintro e w2 ⟨rfl, kk⟩;have K2 := hid (KD.out.trans kk (by simp))
  clear kk;(try go_wp2_with fail);refine hK.out _ _ (hF.out w2 K2.out) (fun hHeld => ?_)
  clear hK K;(try simp only [Act.put, lz]);refine tkH ?_ 1 rfl (by kernel_rfl) (fun _ _ _ h => h) (by rfl) ?_ ‹_› ?_;rotate_left
  ·intro w h; (try dsimp only at h); go_simp <;> with_reducible rfl
  (try simp only [Act.put, lz]);refine tkH ?_ 2 rfl (by kernel_rfl) (fun _ _ _ h => h) (by rfl) ?_ ‹_› ?_;rotate_left
  ·intro w h; (try dsimp only at h); go_simp <;> with_reducible rfl
  (try simp only [Act.put, lz]);refine rdH 3 (by kernel_rfl) rfl fun K hK => ?_
  go_simp;refine (aR.out _ K2.out).mono ?_;rintro e w3 ⟨rfl, kk⟩;have K3 := hid (K2.out.trans kk (by simp))
  clear kk;(try go_wp2_with fail);refine hK.out _ _ (hF.out w3 K3.out) (fun hHeld => ?_)
  clear hK K;(try simp only [Act.put, lz]);refine tkH ?_ 4 rfl (by kernel_rfl) (fun _ _ _ h => h) (by rfl) ?_ ‹_› ?_;rotate_left
  ·intro w h; (try dsimp only at h); go_simp <;> with_reducible rfl
  (try simp only [Act.put, lz]);refine tkH ?_ 5 rfl (by kernel_rfl) (fun _ _ _ h => h) (by rfl) ?_ ‹_› ?_;rotate_left
  ·intro w h; (try dsimp only at h); go_simp <;> with_reducible rfl
  (try simp only [Act.put, lz]);refine tkH ?_ 6 rfl (by kernel_rfl) (fun _ _ _ h => h) (by rfl) ?_ ‹_› ?_;rotate_left
  ·intro w h; (try dsimp only at h); go_simp <;> with_reducible rfl
  (try simp only [Act.put, lz]);refine tkH ?_ 7 rfl (by kernel_rfl) (fun _ _ _ h => h) (by rfl) ?_ ‹_› ?_;rotate_left
  ·intro w h; (try dsimp only at h); go_simp <;> with_reducible rfl
  (try simp only [Act.put, lz]);refine tkH ?_ 9 rfl (by kernel_rfl) (fun _ _ _ h => h) (by rfl) ?_ ‹_› ?_;rotate_left
  ·intro w h; (try dsimp only at h); go_simp <;> with_reducible rfl
  (try simp only [Act.put, lz]);refine tkH ?_ 10 rfl (by kernel_rfl) (fun _ _ _ h => h) (by rfl) ?_ ‹_› ?_;rotate_left
  ·intro w h; (try dsimp only at h); go_simp <;> with_reducible rfl
  (try simp only [Act.put, lz]);refine rdH 8 (by kernel_rfl) rfl fun K hK => ?_
  go_simp;refine (aP.out _ K3.out).mono ?_;rintro e w4 ⟨rfl, kk⟩;have K4 := hid (K3.out.trans kk (by simp))
  clear kk;(try go_wp2_with fail);refine hK.out _ _ (hF.out w4 K4.out) (fun hHeld => ?_)
  clear hK K;(try simp only [Act.put, lz]);refine rdH 11 (by kernel_rfl) rfl fun K hK => ?_
  go_simp;refine (aQ.out _ K4.out).mono ?_;rintro e w5 ⟨rfl, kk⟩;have K5 := hid (K4.out.trans kk (by simp))
  clear kk;(try go_wp2_with fail);refine hK.out _ _ (hF.out w5 K5.out) (fun hHeld => ?_)
  clear hK K;(try simp only [Act.put, lz]);refine tkH ?_ 12 rfl (by kernel_rfl) (fun _ _ _ h => h) (by rfl) ?_ ‹_› ?_;rotate_left
  ·intro w h; (try dsimp only at h); go_simp <;> with_reducible rfl
  (try simp only [Act.put, lz]);refine tkH ?_ 13 rfl (by kernel_rfl) (fun _ _ _ h => h) (by rfl) ?_ ‹_› ?_;rotate_left
  ·intro w h; (try dsimp only at h); go_simp <;> with_reducible rfl
  (try simp only [Act.put, lz]);refine tkH ?_ 14 rfl (by kernel_rfl) (fun _ _ _ h => h) (by rfl) ?_ ‹_› ?_;rotate_left
  ·intro w h; (try dsimp only at h); go_simp <;> with_reducible rfl
  (try simp only [Act.put, lz]);refine tkH ?_ 15 rfl (by kernel_rfl) (fun _ _ _ h => h) (by rfl) ?_ ‹_› ?_;rotate_left
  ·intro w h; (try dsimp only at h); go_simp <;> with_reducible rfl
  (try simp only [Act.put, lz]);refine wpAnyH_done (by kernel_rfl) ?_ _
  clear hHeld;go_wp2_with fail;go_ret;exact ⟨by simp, (KW.out.trans K5.out (by simp)).below⟩
 ·have e0 : (V != 0) = true := by simpa using v0
  clear HP v0;go_enter Tryz.func3, Tryz.ntmps3
  go_wp2_with fail;refine wp_region_held_drew (S := fun W' => W'.cell? ⟨qc, 0, none⟩ = some (.int .i64 c.n) ∧ W'.cell? ⟨qc, 1, none⟩ = some (.int .i64 c.s) ∧ W'.cell? ⟨qc, 2, none⟩ = some (.int .i64 c.k) ∧ W'.cell? ⟨qc, 3, none⟩ = some (.slice c.ta c.tl.length c.tc) ∧ W'.cell? ⟨qc, 4, none⟩ = some (.slice c.pa c.pl.length c.pc) ∧ W'.cell? ⟨q2, 0, none⟩ = some (.int .i64 tb) ∧ W'.cell? ⟨q2, 1, none⟩ = some (.bool jn) ∧ W'.cell? ⟨q2, 2, none⟩ = some (.int .i64 rt) ∧ W'.cell? ⟨q2, 3, none⟩ = some (.int .i64 lo) ∧ W'.cell? ⟨q2, 4, none⟩ = some (.int .i64 ro) ∧ W'.cell? ⟨q2, 5, none⟩ = some (.slice wa wl.length wc) ∧ W'.cell? ⟨q2, 6, none⟩ = some (.slice ca cl.length cc) ∧ W'.cell? ⟨q2, 7, none⟩ = some (.bool gr) ∧ W'.cell? ⟨q2, 8, none⟩ = some (.slice ya yl.length yc) ∧ W'.cell? ⟨q2, 9, none⟩ = some (.slice ga gl.length gc) ∧ W'.cell? ⟨q2, 10, none⟩ = some (.slice oa ol.length oc) ∧ W'.cell? ⟨q2, 11, none⟩ = some (.int .i64 lim)) (by kernel_rfl) ?_ (fun hHeld => ?_)
  ·exact hF.out _ (Kp.refl _ _).drew
  have KD : Hid (Kp [] w1 w1.drew) := hid (Kp.refl _ _).drew
  generalize w1.drew = wd at *
  refine rdH 0 (by kernel_rfl) rfl fun K hK => ?_
  go_simp;refine (aL.out _ KD.out).mono ?_;rintro e w2 ⟨rfl, kk⟩;have K2 := hid (KD.out.trans kk (by simp))
  clear kk;(try go_wp2_with fail);refine hK.out _ _ (hF.out w2 K2.out) (fun hHeld => ?_)
  clear hK K;(try simp only [Act.put, lz]);refine tkH ?_ 1 rfl (by kernel_rfl) (fun _ _ _ h => h) (by rfl) ?_ ‹_› ?_;rotate_left
  ·intro w h; (try dsimp only at h); go_simp <;> with_reducible rfl
  (try simp only [Act.put, lz]);refine tkH ?_ 2 rfl (by kernel_rfl) (fun _ _ _ h => h) (by rfl) ?_ ‹_› ?_;rotate_left
  ·intro w h; (try dsimp only at h); go_simp <;> with_reducible rfl
  (try simp only [Act.put, lz]);refine rdH 3 (by kernel_rfl) rfl fun K hK => ?_
  go_simp;refine (aR.out _ K2.out).mono ?_;rintro e w3 ⟨rfl, kk⟩;have K3 := hid (K2.out.trans kk (by simp))
  clear kk;(try go_wp2_with fail);refine hK.out _ _ (hF.out w3 K3.out) (fun hHeld => ?_)
  clear hK K;(try simp only [Act.put, lz]);refine tkH ?_ 4 rfl (by kernel_rfl) (fun _ _ _ h => h) (by rfl) ?_ ‹_› ?_;rotate_left
  ·intro w h; (try dsimp only at h); go_simp <;> with_reducible rfl
  (try simp only [Act.put, lz]);refine tkH ?_ 5 rfl (by kernel_rfl) (fun _ _ _ h => h) (by rfl) ?_ ‹_› ?_;rotate_left
  ·intro w h; (try dsimp only at h); go_simp <;> with_reducible rfl
  (try simp only [Act.put, lz]);refine tkU 6 rfl (by kernel_rfl) (fun _ _ _ h => h) (by rfl) ‹_› ?_
  (try simp only [Act.put, lz]);refine tkU 7 rfl (by kernel_rfl) (fun _ _ _ h => h) (by rfl) ‹_› ?_
  (try simp only [Act.put, lz]);refine tkU 8 rfl (by kernel_rfl) (fun _ _ _ h => h) (by rfl) ‹_› ?_
  (try simp only [Act.put, lz]);refine tkU 9 rfl (by kernel_rfl) (fun _ _ _ h => h) (by rfl) ‹_› ?_
  (try simp only [Act.put, lz]);refine tkU 10 rfl (by kernel_rfl) (fun _ _ _ h => h) (by rfl) ‹_› ?_
  (try simp only [Act.put, lz]);refine tkU 11 rfl (by kernel_rfl) (fun _ _ _ h => h) (by rfl) ‹_› ?_
  (try simp only [Act.put, lz]);refine tkU 12 rfl (by kernel_rfl) (fun _ _ _ h => h) (by rfl) ‹_› ?_
  (try simp only [Act.put, lz]);refine tkH ?_ 13 rfl (by kernel_rfl) (fun _ _ _ h => h) (by rfl) ?_ ‹_› ?_;rotate_left
  ·intro w h; (try dsimp only at h); go_simp <;> with_reducible rfl
  (try simp only [Act.put, lz]);refine tkH ?_ 14 rfl (by kernel_rfl) (fun _ _ _ h => h) (by rfl) ?_ ‹_› ?_;rotate_left
  ·intro w h; (try dsimp only at h); go_simp <;> with_reducible rfl
  (try simp only [Act.put, lz]);refine tkH ?_ 15 rfl (by kernel_rfl) (fun _ _ _ h => h) (by rfl) ?_ ‹_› ?_;rotate_left
  ·intro w h; (try dsimp only at h); go_simp <;> with_reducible rfl
  (try simp only [Act.put, lz]);refine wpAnyH_done (by kernel_rfl) ?_ _
  clear hHeld;go_wp2_with fail;go_ret;exact ⟨by simp, (KW.out.trans K3.out (by simp)).below⟩
end Go.Proofs.YtcgkkofmnajedaaGreatDoor
end

section
namespace Go.Proofs.YtcgkkofmnajedaaGreatDoor
open Go.ChangeShapes Go.WideShapes Go.ChangeAt Go.RowKit Go.Hay
theorem planChecksContract (H : Type) (enc : TypeId × Value → H) (W : World) (base : Nat) (args : Array Value) (ds gs : List (DataW H)) (before : List MemPlace)
  (hval : ∀ (j : Nat) t v, Tryz.f3.params[j]? = some t → args[j]? = some v → Value.okWide Tryz.prog W .any base t v)
  (hW : DataW.Whole enc Tryz.prog Tryz.f3.params.toList Rows.planChecksSpec.vars false W args.toList ds gs before)
  (hsz : (DataW.weightsEach Tryz.prog (Tryz.f3.params.toList ++ (Rows.OpenSpec.upto Rows.planChecksSpec).bare.plain.varTypes Tryz.prog) (ds ++ gs)).all (· ≤ reachBytes) = true)
  (hk : Rows.uptoSmall H (ds ++ gs) = true)
  (hL : laidMetH Tryz.prog Rows.planChecksUptoRow.laid W) :
  Calls Tryz.prog 3 args W fun e W' => ∃ v, e = .returned v ∧ Rows.planChecksSpec.post enc Tryz.prog Tryz.f3 false true false false W args v W' := by
 have hW' := hW
 obtain ⟨p, q, hA0, hV, rfl, hfz, hnd⟩ := hW;have hA : DataW.TrodAll enc Tryz.prog W 0 (fun _ => true) true Tryz.f3.params.toList args.toList ds p := hA0
 rw [Tryz.params3] at hA hval hsz;obtain ⟨v0, vs0, d0, ds0, p0, q0, hargs, rfl, rfl, h0, r0⟩ := trodAll_cons hA;obtain ⟨v1, vs1, d1, ds1, p1, q1, rfl, rfl, rfl, h1, r1⟩ := trodAll_cons r0;obtain ⟨rfl, rfl, rfl⟩ := trodAll_nil r1;obtain rfl : args = #[v0, v1] := by cases args; simp_all
 obtain ⟨rfl, rfl⟩ := trodVars_none hV;have k0 := h0
 have lt0 : ∀ x ∈ p0, x.block < W.heap.size := by obtain ⟨m, hm⟩ := k0; exact DataW.trod_lt m _ _ _ hm
 obtain ⟨c0, rfl, ok0, hpb0, hpp0⟩ := openCatB (hval 0 25 v0 rfl rfl) h0;have k1 := h1
 have lt1 : ∀ x ∈ p1, x.block < W.heap.size := by obtain ⟨m, hm⟩ := k1; exact DataW.trod_lt m _ _ _ hm
 obtain ⟨x1, rfl, ok1⟩ := openQuery (hval 1 31 v1 rfl rfl) h1;have hbk := of_decide_eq_true hk
 simp only [List.append_nil, Rows.uptoBulkAll] at hbk;clear hA0;refine (planChecksWalk c0 x1 W (table hL) ok0 (ok1.ok (by omega))).mono fun e W' ⟨he, bel⟩ => ?_
 subst he;exact ⟨_, rfl, _, _, _, [], _, [], hW', trodAll_mk1 (shut_bool Tryz.underlying4 _), (trodAll_cons_mk (Below.trod Tryz.laidOut (by kernel_rfl) (of_decide_eq_true (by kernel_rfl)) k0 bel lt0) (trodAll_cons_mk (Below.trod Tryz.laidOut (by kernel_rfl) (of_decide_eq_true (by kernel_rfl)) k1 bel lt1) trodAll_mk0)), rfl, bel.frame _, fun h => by cases h⟩
theorem planChecksLifted (os : Os) (started : os.Started) (H : Type) (enc : TypeId × Value → H) (F : Stop.Interp) :
  ReturnsInHanded {} Tryz.checked os 3 .any ((Rows.OpenSpec.upto Rows.planChecksSpec).preRow enc Tryz.prog Tryz.f3 Rows.planChecksUptoRow.domain false Rows.planChecksUptoRow.laid) (((Rows.OpenSpec.upto Rows.planChecksSpec).at F).post enc Tryz.prog Tryz.f3 false true false false) := by
 refine returnsInHanded_of_row (C := Tryz.checked) (s := Rows.OpenSpec.upto Rows.planChecksSpec) Tryz.own started (by kernel_rfl) Tryz.func3
  (witness_row_at (enc := enc) (C := Tryz.checked) false ({ World.holding Tryz.prog os ⟨#[], #[], []⟩ with heap := (World.holding Tryz.prog os ⟨#[], #[], []⟩).heap.modify 0 fun
   | .cells _ t frozen => .cells tabCells t frozen
   | o => o }) #[.agg #[.int .i64 0, .int .i64 0, .int .i64 0, .slice none 0 0, .slice none 0 0], .agg #[.int .i64 0, .bool false, .int .i64 0, .int .i64 0, .int .i64 0, .slice none 0 0, .slice none 0 0, .bool false, .slice none 0 0, .slice none 0 0, .slice none 0 0, .int .i64 0]] rfl (by kernel_rfl) (by kernel_rfl) (by kernel_rfl)
   (OpenSpec.preRow_of_cond (x := ([.agg [.lit (.int .i64 0), .lit (.int .i64 0), .lit (.int .i64 0), .nil, .nil], .agg [.lit (.int .i64 0), .lit (.bool false), .lit (.int .i64 0), .lit (.int .i64 0), .lit (.int .i64 0), .nil, .nil, .lit (.bool false), .nil, .nil, .nil, .lit (.int .i64 0)]], [], [])) 8 (by kernel_rfl) (by kernel_rfl) (fun k hk => by cases hk; kernel_rfl) (by kernel_rfl) (laidMet_of_run' 8 (by kernel_rfl) (by kernel_rfl)))) ?_
 intro W base args ds gs before hval hW _ hcond hsz hL _ _
 exact planChecksContract H enc W base args ds gs before hval hW hsz (hcond _ rfl) hL
theorem planChecksSaid : Rows.PlanChecksUptoSaid :=
 OpenClaim.holds_of_cond 3 Tryz.f3 rfl rfl rfl rfl rfl rfl rfl ⟨rfl, rfl, rfl, rfl, rfl⟩ rfl rfl rfl rfl rfl (by kernel_rfl) Tryz.func3 (by kernel_rfl)
  (of_decide_eq_true (by kernel_rfl)) (by unfold Func.isWrapper; first | (rw [if_pos (by decide +kernel)]; kernel_rfl) | (rw [if_neg (by decide +kernel)]; exact ⟨rfl, rfl⟩))
  (fun os started H enc _ F => by rw [OpenClaim.pre_eq_preRow]; exact planChecksLifted os started H enc F)
theorem planChecksPlain (f : FuncId) (fn : Func) (hf : Tryz.pinned.checked.prog.funcNamed "hayloft/hayloftlaw16.PlanChecks" = some f) (hfn : Tryz.pinned.checked.prog.funcs[f]? = some fn) :
  false = Tryz.pinned.checked.prog.looks [] ∧ ∀ (j : Nat) t, fn.params[j]? = some t → Tryz.pinned.checked.prog.wantsStandIn t = false := by
 obtain rfl : f = 3 := Option.some.inj ((show Tryz.prog.funcNamed "hayloft/hayloftlaw16.PlanChecks" = some 3 by kernel_rfl).symm.trans hf) |>.symm
 obtain rfl : fn = Tryz.f3 := (Option.some.inj (Tryz.func3.symm.trans hfn)).symm
 refine ⟨by kernel_rfl, fun j t ht => ?_⟩
 rw [Tryz.params3] at ht;have hm := Array.mem_of_getElem? ht
 have h2 : t = 25 ∨ t = 31 := by first | (simpa using hm) | (rcases (show t = 25 ∨ t = 31 from by simpa using hm) with h | h <;> simp [h])
 rcases h2 with rfl | rfl
 ·exact (show Tryz.prog.wantsStandIn 25 = false by kernel_rfl)
 ·exact (show Tryz.prog.wantsStandIn 31 = false by kernel_rfl)
theorem PlanChecks_holds : Rows.PlanChecksUptoCardSaid :=
 Claim7.holds_tied_plain_at .later [] _ _ _ _ planChecksSaid (fun _ h => by cases h) (by kernel_rfl) (fun _ h => by cases h) planChecksUpto_row_tie rfl ⟨rfl, rfl⟩ (by kernel_rfl) rfl planChecksPlain (by kernel_rfl)
#print axioms PlanChecks_holds
end Go.Proofs.YtcgkkofmnajedaaGreatDoor
end

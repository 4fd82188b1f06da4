/- Where the segments of a catalog lie, and whether some nodes have all, is what the document says, for every catalog, segment and list of live nodes. -/
import Derived.Test.YtchkckjlcmgbmaaB6
import Derived.Test.YtchkckjlcmgbmaaB7
import Derived.Test.YtchkckjlcmgbmaaB9
import Derived.Deep.RegionHeld3
import Derived.SizedLaws
import Derived.JoinedCond
import Derived.Deep.CondSized
section
namespace Go.Proofs.Ytchkckjlcmgbmaa
open Go.RowKit Go.Hay
attribute [local go_sem] Oper.semAt_some
set_option linter.unusedVariables false
set_option linter.unusedSimpArgs false

theorem eqlFuncNil {P : Program} {t : TypeId} {ps rs : Array TypeId} {v : Bool} (h : P.underlying t = some (.func ps rs v)) (f : Fn) (fi ca : Array Value) (w : World) : (binOp .eql t (.func f fi ca) .nilFunc).run P w = .ok (.bool false) w := by
  have e0 : ∀ d : Nat, (Op.equalIn (d + 1) t (.func f fi ca) .nilFunc).run P w = .ok false w := fun d => by simp [Op.equalIn, run_underlying h]
  have e : (Op.equal t (.func f fi ca) .nilFunc).run P w = .ok false w := e0 9999
  simp only [binOp]
  simp [e]
/-- How the memory stands between two rounds. -/
structure SgI (w : World) (qL B M s : Nat) (W : World) (a : Option Addr) (cp : Nat) (l : List (Nat × Nat)) : Prop where
  kp : Kp [] w W
  bL : Bn W qL [.slice a l.length cp]
  row : SgE.Row W (.slice a l.length cp) l
  nw : ∀ k ∈ blk a, B + 2 ≤ k
  eq : l = sgTo M s
def SgJ (w : World) (qL B M s : Nat) (W : World) : Prop := ∃ a cp l, SgI w qL B M s W a cp l
theorem SgI.keepS {w : World} {qL B M s : Nat} {W W' : World} {a : Option Addr} {cp : Nat} {l : List (Nat × Nat)} (h : SgI w qL B M s W a cp l) {S : List Nat} (k : Kp S W W') (hS : ∀ j ∈ S, B ≤ j ∧ j < B + 2) (hB : w.heap.size ≤ B ∧ qL < B) : SgI w qL B M s W' a cp l := by
  refine ⟨h.kp.trans k (fun j hj => .inr (by have := hS j hj; omega)), h.bL.keptS k (fun hm => by have := hS _ hm; omega) (h.bL.lt (by simp)), h.row.kept k (fun j hj hm => ?_), h.nw, h.eq⟩
  have h1 := hS j hm
  have h2 : j ∈ blk a := by rw [ownSl] at hj; exact hj
  have := h.nw j h2
  omega
/-- What segments hands back. -/
def SegP (l : List (Nat × Nat)) (w : World) (e : Ending) (w' : World) : Prop := ∃ (a : Option Addr) (cp : Nat), e = .returned (.tuple #[.slice a l.length cp, .bool true]) ∧ SgE.See w' a l ∧ l.length ≤ cp ∧ Kp [] w w'
set_option maxHeartbeats 16000000 in
set_option maxRecDepth 100000 in
theorem cSegs (c : Cg) (M : Nat) (w : World) (hM : c.s = (M : Int)) (hn : cntd c = true) (hp8 : c.pl.length ≤ 8) : Calls Try.prog 12 #[c.v] w (SegP (sgTo M (c.pl.length * M)) w) := by
  obtain ⟨W, eW, kW, zW, bC⟩ := boxC c w
  have hMl : M ≤ 8 := by have := (cntd_iff c).1 hn; omega
  have aSg := hid (cSegments c W M hM hn)
  have KW := hid kW
  have c0 := bC.get 0 _ rfl; have c1 := bC.get 1 _ rfl; have c2 := bC.get 2 _ rfl; have c3 := bC.get 3 _ rfl; have c4 := bC.get 4 _ rfl
  have zW' : w.heap.size < W.heap.size := by omega
  clear kW bC hn hM zW
  simp only [Cg.v] at *
  refine (callsIn_wide (n := 6)).1 ?_
  refine callsIn_of_wp_marks Try.func12 rfl trivial ?_ rfl
  simp only [Try.ntmps12, List.size_toArray, List.length_cons, List.length_nil, Nat.reduceAdd, Nat.reduceSub, Array.replicate_succ, Array.replicate_zero, List.push_toArray, List.append_toArray, List.nil_append, List.cons_append]
  refine wpIn_wide.2 ?_
  go_wp2_with fail
  refine aSg.out.mono ?_
  rintro e w1 ⟨q1, q2, rfl, hq1, hq2, l1, l2, k1⟩
  have K1 := hid (And.intro k1 (And.intro hq1 hq2))
  have aA := hid (cAlive w1)
  have hnf : ∀ W : World, (binOp .eql 82 (.func (.func 64) #[] #[.pointer (some ⟨q1, 0, none⟩), .pointer (some ⟨q2, 0, none⟩)]) .nilFunc).run Try.prog W = .ok (.bool false) W := fun W => eqlFuncNil Try.underlying82 _ _ _ W
  clear aSg c0 c1 c2 c3 c4 eW hq1 hq2 l1 l2 k1
  go_wp2_with fail
  refine aA.out.mono ?_
  rintro e w2 ⟨rfl, k2⟩
  obtain ⟨w3, e3⟩ : ∃ Y, w2.alloc (.cells #[.slice none 0 0] 33) = Y := ⟨_, rfl⟩
  have k3 : Kp [] w2 w3 := by rw [← e3]; exact (Kp.refl _ _).alloc _
  have z3 : w3.heap.size = w2.heap.size + 1 := by rw [← e3]; simp
  have b3 : Bn w3 w2.heap.size [.slice none 0 0] := by rw [← e3]; exact Bn.new w2 [.slice none 0 0] _
  have k13 : Kp [] w1 w3 := k2.trans k3 (by simp)
  have hq1 := kpAt k13 K1.out.2.1
  have hq2 := kpAt k13 K1.out.2.2
  have kw3 : Kp [] w w3 := (KW.out.trans K1.out.1 (by simp)).trans k13 (by simp)
  have hlt1 : q1 < w2.heap.size := Nat.lt_of_lt_of_le (World.block_lt_of_cell? _ _ K1.out.2.1) k2.size
  have hlt2 : q2 < w2.heap.size := Nat.lt_of_lt_of_le (World.block_lt_of_cell? _ _ K1.out.2.2) k2.size
  have hI0 : SgI w w2.heap.size w3.heap.size M 0 w3 none 0 [] := ⟨kw3, b3, .inl ⟨rfl, rfl⟩, by simp [blk], by simp [sgTo]⟩
  have hsq := segSeq (6 - 1) (by omega) q1 q2 c.pl.length M w3 hq1 hq2 (by omega) (by omega)
  have hzw := kw3.size
  have hzw2 := ((KW.out.trans K1.out.1 (by simp)).trans k2 (by simp)).size
  have hB3 : w.heap.size ≤ w3.heap.size ∧ w2.heap.size < w3.heap.size := by omega
  have HL := hid (And.intro hlt1 (And.intro hlt2 (And.intro z3 hzw2)))
  have HI0 := hid hI0
  have HSQ := hid hsq
  clear hnf aA hI0 hsq k2 k3 b3 k13 hq1 hq2 kw3 hlt1 hlt2 z3 hzw hzw2
  go_wp2_with fail
  refine (wpIn_wide (n := 6)).1 ?_
  refine wpRangeW rfl (by omega) (gf := 64) (lb := #[.pointer (some ⟨q1, 0, none⟩), .pointer (some ⟨q2, 0, none⟩)]) rfl trivial (enters_of Try.func64 (by kernel_rfl) rfl)
    HSQ.out (fun _ => rfl) KeepC.trans (fun s W o => KeepC.alloc _ W o) (fun s W k o o' _ ho hc _ => KeepC.putObj _ W k o o' ho hc) (KeepC.refl _ _) (fun s s' A B ht k o _ ho _ _ => by rw [← ht.2]; exact ho)
    (SgJ w w2.heap.size w3.heap.size M) (fun _ _ _ => False) ?hI (fun _ _ _ _ h _ => h) (fun s s' A B h ht => by rw [← ht.1, ← ht.2]; exact h) ?h0 ?hIa
    (fun x => .cells #[.int .i64 (x.1 : Int), .int .i64 (x.2 : Int)] 31)
    (fun x q3 => { tmps := #[.agg #[.int .i64 c.n, .int .i64 c.s, .int .i64 c.k, .slice c.ta c.tl.length c.tc, .slice c.pa c.pl.length c.pc], .pointer (some ⟨w.heap.size, 0, none⟩), .slice none 0 0, .bool false, .func (.func 64) #[] #[.pointer (some ⟨q1, 0, none⟩), .pointer (some ⟨q2, 0, none⟩)], .pointer (some ⟨w2.heap.size, 0, none⟩), .pointer (some ⟨q3, 0, none⟩), .agg #[.int .i64 c.n, .int .i64 c.s, .int .i64 c.k, .slice c.ta c.tl.length c.tc, .slice c.pa c.pl.length c.pc], .func (.func 64) #[] #[.pointer (some ⟨q1, 0, none⟩), .pointer (some ⟨q2, 0, none⟩)], .func (.func 64) #[] #[.pointer (some ⟨q1, 0, none⟩), .pointer (some ⟨q2, 0, none⟩)], .bool false, .bool false, .bool true, .bool false, .bool false, .func (.func 64) #[] #[.pointer (some ⟨q1, 0, none⟩), .pointer (some ⟨q2, 0, none⟩)], .agg #[.int .i64 (x.1 : Int), .int .i64 (x.2 : Int)], undef, undef, undef, undef, undef], defers := [] }) ?assign ?body ?done ?stop
  case hI =>
    rintro s X o' ⟨a, cp, l, h⟩ hz
    have kp : Kp [w3.heap.size + 1] X (X.putObj (w3.heap.size + 1) o') := ⟨rfl, rfl, rfl, by simp, fun k hk hn => World.putObj_heap_other (by simpa using hn)⟩
    exact ⟨a, cp, l, h.keepS kp (fun j hj => by simp at hj; omega) hB3⟩
  case h0 =>
    intro o1 o2
    exact ⟨none, 0, [], HI0.out.keepS (S := []) (((Kp.refl _ _).alloc _).alloc _) (by simp) hB3⟩
  case hIa =>
    rintro s X o ⟨a, cp, l, h⟩
    exact ⟨a, cp, l, h.keepS (S := []) ((Kp.refl _ _).alloc _) (by simp) hB3⟩
  case assign =>
    intro l x W C hC
    gi_wp2_with fail
    exact hC
  case body =>
    rintro lr s x A q3 ⟨a, cp, l, h⟩ ⟨hslt, hxs, hx2, hx1⟩ hob hq3
    have hbx : ∀ z : Nat, A.cell? ⟨q3, z, none⟩ = (#[.int .i64 (x.1 : Int), .int .i64 (x.2 : Int)] : Array Value)[z]? := fun z => by
      unfold World.cell?
      simp [hob]
    have g0 := hbx 0; have g1 := hbx 1
    have hqa := (Array.getElem?_eq_some_iff.1 hob).1
    have hs64 : s < 64 := by have : c.pl.length * M ≤ 8 * 8 := Nat.mul_le_mul hp8 hMl; omega
    have hll : l.length ≤ 1000000 := by rw [h.eq, sgTo_len]; omega
    have e9 : sgTo M (s + 1) = l ++ [x] := by
      have := sgTo_succ M x.1 x.2 hx2
      rw [hxs] at this
      rw [this, ← h.eq]
    have hnw := h.nw
    have hlb := HL.out
    obtain ⟨a', cp', A2, hrun, hrow2, hna', k2⟩ := appSg A a cp l x (w3.heap.size + 2) h.row hnw (by omega) hll
    have z2 := k2.size
    have hblt := h.bL.lt (by simp)
    have hnq : w2.heap.size ∉ blk a := fun hm' => by have := hnw _ hm'; omega
    have bx2 := h.bL.keptS k2 hnq hblt
    have b0 := bx2.get 0 _ rfl
    have f0 := bx2.free 0
    obtain ⟨A3, hA3⟩ : ∃ A3, A2.setCell ⟨w2.heap.size, 0, none⟩ (.slice a' (l ++ [x]).length cp') = A3 := ⟨_, rfl⟩
    have bx3 : Bn A3 (w2.heap.size) [.slice a' (l ++ [x]).length cp'] := by rw [← hA3]; exact bx2.set 0 (by simp) _
    have k3 : Kp [w2.heap.size] A2 A3 := by rw [← hA3]; exact (Kp.refl _ _).setCell (by simp) _
    have kA3 : Kp ((w2.heap.size) :: blk a) A A3 := (k2.mono (T := (w2.heap.size) :: blk a) (fun j hj => .inl (by simp [hj]))).trans k3 (fun j hj => .inl (by simp at hj; simp [hj]))
    have hmem : ∀ j ∈ (w2.heap.size) :: blk a, j = w2.heap.size ∨ w3.heap.size + 2 ≤ j := fun j hj => by
      rcases List.mem_cons.1 hj with e | e
      · exact .inl e
      · exact .inr (hnw j e)
    have hR2 : Recs w3.heap.size A A3 := ⟨kA3.block _ (by omega) (fun hm' => by rcases hmem _ hm' with e | e <;> omega), kA3.block _ (by omega) (fun hm' => by rcases hmem _ hm' with e | e <;> omega)⟩
    have hK2 : KeepC (Gsg q1 q2) A A3 := KeepC.ofKp kA3 (fun y hy hm' => by
      rcases hmem _ hm' with e | e <;> rcases hy with e2 | e2 <;> omega)
    have hJ : SgJ w w2.heap.size w3.heap.size M (s + 1) A3 := by
      refine ⟨a', cp', l ++ [x], ⟨h.kp.trans kA3 (fun j hj => .inr (by rcases hmem _ hj with e | e <;> omega)), bx3, hrow2.kept k3 (fun j hj hm' => ?_), hna', e9.symm⟩⟩
      rw [ownSl] at hj
      simp at hm'
      have := hna' j hj
      omega
    have HF := hid (And.intro hR2 (And.intro hK2 hJ))
    obtain ⟨NL, hNL⟩ : ∃ n, Hid ((l ++ [x]).length = n) := ⟨_, hid rfl⟩
    rw [hNL.out] at hA3 hrun
    have bL0 := h.bL.get 0 _ rfl
    clear h e9 hR2 hK2 hJ hna' kA3 k3 bx3 bx2 hrow2 k2 hmem hnw hnq hbx hob
    gi_wp2_with (first | (refine wpAppRunIn rfl _ _ 33 33 rfl _ _ _ rfl rfl hrun ?_) | fail)
    exact HF.out
  case done =>
    rintro D s X hD hs ⟨a, cp, l, h⟩ hK
    have bq := h.bL.get 0 _ rfl
    have kp : Kp [D] X (X.putObj D (.deferred none)) := ⟨rfl, rfl, rfl, by simp, fun k hk hn => World.putObj_heap_other (by simpa using hn)⟩
    obtain ⟨_, _, e, hsee, _, hcp, _, eo⟩ := h.row.see
    cases e
    have hsee2 : SgE.See (X.putObj D (.deferred none)) a l := by
      rcases hsee with e | ⟨g, o, e, hc⟩
      · exact .inl e
      · refine .inr ⟨g, o, e, fun j u hu => ?_⟩
        have h1 := hc j u hu
        have hne : g ≠ D := fun e2 => by
          subst e2
          unfold World.cell? at h1
          simp [hK] at h1
        exact (kp.cell (p := ⟨g, o + j, none⟩) (World.block_lt_of_cell? _ _ h1) (by simpa using hne)).trans h1
    have hfin : SegP (sgTo M (c.pl.length * M)) w (.returned (.tuple #[.slice a l.length cp, .bool true])) (X.putObj D (.deferred none)) := by
      have e1 : sgTo M (c.pl.length * M) = l := by rw [h.eq, hs]
      rw [e1]
      exact ⟨a, cp, rfl, hsee2, hcp, h.kp.trans kp (fun k hk => .inr (by simp at hk; omega))⟩
    have hH := hid hfin
    clear hfin kp hsee hsee2 h
    go_wp2_with fail
    refine ⟨by simp, .inl ⟨_, _, rfl, run_takeDeferred hK, ?_⟩⟩
    exact ⟨.tuple #[.slice a l.length cp, .bool true], by simp [results, Try.results12, go_sem], hH.out⟩
  case stop =>
    rintro D c s X hD _ h
    exact h.elim
end Go.Proofs.Ytchkckjlcmgbmaa
end

section
namespace Go.Proofs.Ytchkckjlcmgbmaa
open Go.RowKit Go.Hay
set_option linter.unusedVariables false
set_option linter.unusedSimpArgs false

/-- What a catalog is that may be. -/
theorem chk_ok {c : Cg} (h : chkC c = 0) : cntd c = true ∧ tabsM c.tl = true ∧ pjsM c = true ∧ c.pl.length ≤ 8 ∧ (∀ p ∈ c.pl, wi p.sh c.n = true) ∧ auTo c c.s.toNat c.n.toNat = true := by
  unfold chkC at h
  cases h1 : cntd c with
  | false => rw [h1] at h; simp at h
  | true =>
  cases h2 : tabsM c.tl with
  | false => rw [h1, h2] at h; simp at h
  | true =>
  cases h3 : pjsM c with
  | false => rw [h1, h2, h3] at h; simp at h
  | true =>
  cases h4 : acM c with
  | false => rw [h1, h2, h3, h4] at h; simp at h
  | true =>
  cases h5 : auTo c c.s.toNat c.n.toNat with
  | false => rw [h1, h2, h3, h4, h5] at h; simp at h
  | true => exact ⟨rfl, rfl, rfl, (pjsM_all h3).1, fun p hp => (pjM_parts ((pjsM_all h3).2 p hp)).2.1, rfl⟩
set_option maxHeartbeats 4000000 in
set_option maxRecDepth 100000 in
theorem rSameI (a b : Option Addr) (ca cb : Nat) (l : List Int) (w : World) (ha : IntE.See w a l) (hb : IntE.See w b l) (hl : l.length ≤ 9223372036854775806) :
    Calls Try.prog 17 #[.slice a l.length ca, .slice b l.length cb] w fun e w' => e = .returned (.bool true) ∧ Kp [] w w' := by
  have ha' := hid ha
  have hb' := hid hb
  have d0 : ((l.length : Int) != (l.length : Int)) = false := by simp
  clear ha hb
  go_enter Try.func17, Try.ntmps17
  go_wp2_with fail
  go_loopw [5] (fun i wr => ∃ j : Nat, j ≤ l.length ∧ i = .int .i64 j ∧ Kp [] w wr) (fun i _ => l.length - (intOf i).toNat)
  case atStart => exact ⟨0, Nat.zero_le _, rfl, Kp.refl _ _⟩
  case round =>
    obtain ⟨j, hj, rfl, kr⟩ := hrel
    by_cases hjl : j < l.length
    · obtain ⟨g, o, rfl, x0⟩ := intAt (ha'.out.keptNew kr) j hjl
      obtain ⟨g2, o2, rfl, y0⟩ := intAt (hb'.out.keptNew kr) j hjl
      have i1 : (0 : Int) ≤ (j : Int) := by omega
      have i2 : (j : Int) < (l.length : Int) := by omega
      have i3 : (j : Int) + 1 ≤ 9223372036854775807 := by omega
      generalize l[j] = y at *
      have d1 : (y != y) = false := by simp
      go_wp2_with fail
      go_quiet ((fail))
      go_wp2_with fail
      exact ⟨⟨j + 1, by omega, by go_num, kr.drewN _⟩, by simp [intOf]; omega⟩
    · have e : j = l.length := by omega
      subst e
      go_wp2_with fail
      go_ret
      exact ⟨rfl, kr⟩
set_option maxHeartbeats 4000000 in
set_option maxRecDepth 100000 in
theorem rSameS (a b : Option Addr) (ca cb : Nat) (l : List (Nat × Nat)) (w : World) (ha : SgE.See w a l) (hb : SgE.See w b l) (hl : l.length ≤ 9223372036854775806) :
    Calls Try.prog 13 #[.slice a l.length ca, .slice b l.length cb] w fun e w' => e = .returned (.bool true) ∧ Kp [] w w' := by
  have ha' := hid ha
  have hb' := hid hb
  have d0 : ((l.length : Int) != (l.length : Int)) = false := by simp
  clear ha hb
  go_enter Try.func13, Try.ntmps13
  go_wp2_with fail
  go_loopw [5] (fun i wr => ∃ j : Nat, j ≤ l.length ∧ i = .int .i64 j ∧ Kp [] w wr) (fun i _ => l.length - (intOf i).toNat)
  case atStart => exact ⟨0, Nat.zero_le _, rfl, Kp.refl _ _⟩
  case round =>
    obtain ⟨j, hj, rfl, kr⟩ := hrel
    by_cases hjl : j < l.length
    · obtain ⟨g, o, rfl, x0, x1⟩ := sgAt2 (ha'.out.keptNew kr) (j := j) (x := l[j]) (by simp [hjl])
      obtain ⟨g2, o2, rfl, y0, y1⟩ := sgAt2 (hb'.out.keptNew kr) (j := j) (x := l[j]) (by simp [hjl])
      have i1 : (0 : Int) ≤ (j : Int) := by omega
      have i2 : (j : Int) < (l.length : Int) := by omega
      have i3 : (j : Int) + 1 ≤ 9223372036854775807 := by omega
      generalize l[j] = y at *
      have d1 : ((y.1 : Int) != (y.1 : Int)) = false := by simp
      go_wp2_with fail
      go_quiet ((fail))
      go_wp2_with fail
      exact ⟨⟨j + 1, by omega, by go_num, kr.drewN _⟩, by simp [intOf]; omega⟩
    · have e : j = l.length := by omega
      subst e
      go_wp2_with fail
      go_ret
      exact ⟨rfl, kr⟩
end Go.Proofs.Ytchkckjlcmgbmaa
end

section
namespace Go.Proofs.Ytchkckjlcmgbmaa
open Go.RowKit Go.Hay
set_option linter.unusedVariables false
set_option linter.unusedSimpArgs false

set_option maxHeartbeats 8000000 in
set_option maxRecDepth 100000 in
theorem rCoveredR (c : Cg) (va : Option Addr) (vc : Nat) (V : List Bool) (M : Nat) (w : World) (hM : c.s = (M : Int)) (hc : c.ok w) (hv : BoE.See w va V) (hn : cntd c = true) (hsh : ∀ p ∈ c.pl, wi p.sh c.n = true) (hp8 : c.pl.length ≤ 8) : Calls Try.prog 21 #[c.v, .slice va V.length vc] w fun e w' => e = .returned (.bool (cvdTo c M V (c.pl.length * M))) ∧ Kp [] w w' := by
  obtain ⟨W, eW, kW, zW, bC⟩ := boxC c w
  have hMl : M ≤ 8 ∧ 1 ≤ M := by have := (cntd_iff c).1 hn; omega
  have aSg := hid (rSegments c M c.pl.length W hM rfl hMl.1 hp8)
  have HC := hid hc
  have HV := hid hv
  have HN := hid (And.intro hn hsh)
  have BC := hid bC
  have KW := hid kW
  have c0 := bC.get 0 _ rfl; have c1 := bC.get 1 _ rfl; have c2 := bC.get 2 _ rfl; have c3 := bC.get 3 _ rfl; have c4 := bC.get 4 _ rfl
  have zW' : w.heap.size < W.heap.size := by omega
  obtain ⟨N, hN⟩ : ∃ N, Hid (c.pl.length * M = N) := ⟨_, hid rfl⟩
  have hN64 : N ≤ 64 := by have h1 : c.pl.length * M ≤ 8 * 8 := Nat.mul_le_mul hp8 hMl.1; have := hN.out; omega
  rw [hN.out] at aSg
  rw [hN.out]
  obtain ⟨r, hr⟩ : ∃ r, Hid (cvdTo c M V N = r) := ⟨_, hid rfl⟩
  rw [hr.out]
  clear kW bC hc hn hsh hM zW hv
  simp only [Cg.v] at *
  go_enter Try.func21, Try.ntmps21
  go_wp2_with fail
  refine aSg.out.mono ?_
  rintro e w1 ⟨sa, sc, rfl, hss, hsc, k1⟩
  have K1 := hid k1
  have HSS := hid hss
  rw [sgTo_len]
  clear aSg hss hsc k1 c0 c1 c2 c3 c4
  go_wp2_with fail
  go_loopw [6, 7, 8, 9] (fun iv _ _ _ wr => ∃ s : Nat, s ≤ N ∧ iv = .int .i64 s ∧ Hid (cvdTo c M V s = true) ∧ Hid (Kp [] w1 wr)) (fun iv _ _ _ _ => N - (intOf iv).toNat)
  case atStart => exact ⟨0, Nat.zero_le _, rfl, hid rfl, hid (Kp.refl _ _)⟩
  case round =>
    obtain ⟨s, hs, rfl, hst, kr⟩ := hrel
    by_cases hsl : s < N
    · have hxg : (sgTo M N)[s]? = some (s / M, s % M) := by simp [sgTo, hsl]
      obtain ⟨x, hx⟩ : ∃ x : Nat × Nat, (s / M, s % M) = x := ⟨_, rfl⟩
      have hxs : x.1 * M + x.2 = s := by rw [← hx, Nat.mul_comm]; exact Nat.div_add_mod s M
      have hx2 : x.2 < M := by rw [← hx]; exact Nat.mod_lt _ (by omega)
      rw [hx] at hxg
      obtain ⟨g, o, eg, _⟩ := sgAt2 (HSS.out.keptNew kr.out) hxg
      subst eg
      have hF : Hid (∀ W', Kp [] w1 W' → (W'.cell? ⟨w.heap.size, 0, none⟩ = some (.int .i64 c.n) ∧ W'.cell? ⟨w.heap.size, 1, none⟩ = some (.int .i64 c.s) ∧ W'.cell? ⟨w.heap.size, 2, none⟩ = some (.int .i64 c.k) ∧ W'.cell? ⟨w.heap.size, 3, none⟩ = some (.slice c.ta c.tl.length c.tc) ∧ W'.cell? ⟨w.heap.size, 4, none⟩ = some (.slice c.pa c.pl.length c.pc) ∧ W'.cell? ⟨g, o + s * 2, none⟩ = some (.int .i64 (x.1 : Int)) ∧ W'.cell? ⟨g, o + s * 2 + 1, none⟩ = some (.int .i64 (x.2 : Int)))) := fun W' k => by
        have h1 := BC.out.kept (K1.out.trans k (by simp))
        obtain ⟨g2, o2, e2, y0, y1⟩ := sgAt2 (HSS.out.keptNew k) hxg
        injection e2 with e2
        injection e2 with e3 e4
        subst e3 e4
        exact ⟨h1.get 0 _ rfl, h1.get 1 _ rfl, h1.get 2 _ rfl, h1.get 3 _ rfl, h1.get 4 _ rfl, y0, y1⟩
      have i1 : (0 : Int) ≤ (s : Int) := by omega
      have i2 : (s : Int) < (N : Int) := by omega
      have i3 : (s : Int) + 1 ≤ 9223372036854775807 := by omega
      have hou := hid (cvdTo_succ c M V s x hxs hx2)
      have hmo := hid (cvdTo_mono c M V (s + 1) N (by omega))
      rw [hst.out] at hou
      have aN := hid (fun W' (k : Kp [] w1 W') => rNodes c (x.1 : Int) (x.2 : Int) W' (HC.out.kept ((KW.out.trans K1.out (by simp)).trans k (by simp))) HN.out.1 HN.out.2)
      simp only [Cg.v] at aN
      have hnl := hid (ndsC_len c (x.1 : Int) (x.2 : Int))
      have hk8 : Hid (c.k.toNat ≤ 8) := by have := (cntd_iff c).1 HN.out.1; exact hid (by omega)
      have hps := hid (fun y hy => (nds_pos (c := c) (P := (x.1 : Int)) (S := (x.2 : Int)) HN.out.1 y hy).1)
      clear hx hxg hxs hx2
      go_wp2_with fail
      refine wp_region_held_drew (S := fun W' => W'.cell? ⟨w.heap.size, 0, none⟩ = some (.int .i64 c.n) ∧ W'.cell? ⟨w.heap.size, 1, none⟩ = some (.int .i64 c.s) ∧ W'.cell? ⟨w.heap.size, 2, none⟩ = some (.int .i64 c.k) ∧ W'.cell? ⟨w.heap.size, 3, none⟩ = some (.slice c.ta c.tl.length c.tc) ∧ W'.cell? ⟨w.heap.size, 4, none⟩ = some (.slice c.pa c.pl.length c.pc) ∧ W'.cell? ⟨g, o + s * 2, none⟩ = some (.int .i64 (x.1 : Int)) ∧ W'.cell? ⟨g, o + s * 2 + 1, none⟩ = some (.int .i64 (x.2 : Int))) (by kernel_rfl) ?_ (fun hHeld => ?_)
      · exact hF.out _ (kr.out.trans (Kp.refl [] wr).drew (by simp))
      have KD : Hid (Kp [] w1 wr.drew) := hid (kr.out.trans (Kp.refl [] wr).drew (by simp))
      generalize wr.drew = Wd at *
      refine wpAnyH_take (i := 0) (v := ?_) rfl (by kernel_rfl) (by kernel_rfl) (by kernel_rfl) (fun _ _ _ h => h) (Or.inl ⟨by rfl, ?_⟩) (by assumption) ?_
      rotate_left
      · intro w hSw; (try dsimp only at hSw); go_simp <;> with_reducible rfl
      try simp only [Act.put, List.getElem_toArray, List.getElem_cons_zero, List.getElem_cons_succ, List.setIfInBounds_toArray, List.set_cons_zero, List.set_cons_succ]
      refine wpAnyH_take (i := 1) (v := ?_) rfl (by kernel_rfl) (by kernel_rfl) (by kernel_rfl) (fun _ _ _ h => h) (Or.inl ⟨by rfl, ?_⟩) (by assumption) ?_
      rotate_left
      · intro w hSw; (try dsimp only at hSw); go_simp <;> with_reducible rfl
      try simp only [Act.put, List.getElem_toArray, List.getElem_cons_zero, List.getElem_cons_succ, List.setIfInBounds_toArray, List.set_cons_zero, List.set_cons_succ]
      refine wpAnyH_take (i := 2) (v := ?_) rfl (by kernel_rfl) (by kernel_rfl) (by kernel_rfl) (fun _ _ _ h => h) (Or.inl ⟨by rfl, ?_⟩) (by assumption) ?_
      rotate_left
      · intro w hSw; (try dsimp only at hSw); go_simp <;> with_reducible rfl
      try simp only [Act.put, List.getElem_toArray, List.getElem_cons_zero, List.getElem_cons_succ, List.setIfInBounds_toArray, List.set_cons_zero, List.set_cons_succ]
      refine wpAnyH_take (i := 3) (v := ?_) rfl (by kernel_rfl) (by kernel_rfl) (by kernel_rfl) (fun _ _ _ h => h) (Or.inl ⟨by rfl, ?_⟩) (by assumption) ?_
      rotate_left
      · intro w hSw; (try dsimp only at hSw); go_simp <;> with_reducible rfl
      try simp only [Act.put, List.getElem_toArray, List.getElem_cons_zero, List.getElem_cons_succ, List.setIfInBounds_toArray, List.set_cons_zero, List.set_cons_succ]
      refine wpAnyH_take (i := 4) (v := ?_) rfl (by kernel_rfl) (by kernel_rfl) (by kernel_rfl) (fun _ _ _ h => h) (Or.inl ⟨by rfl, ?_⟩) (by assumption) ?_
      rotate_left
      · intro w hSw; (try dsimp only at hSw); go_simp <;> with_reducible rfl
      try simp only [Act.put, List.getElem_toArray, List.getElem_cons_zero, List.getElem_cons_succ, List.setIfInBounds_toArray, List.set_cons_zero, List.set_cons_succ]
      refine wpAnyH_ready (rs := [5]) (by kernel_rfl) (by simp) ?_
      refine AllReadyH.cons rfl (fun K hK => ?_) AllReadyH.nil
      go_simp
      refine (aN.out Wd KD.out).mono ?_
      rintro e wn ⟨na, nc, rfl, hns, hnc, hn8, kn⟩
      (try go_wp2_with fail)
      refine hK.out _ _ ?_ (fun hHeld => ?_)
      · exact hF.out _ (KD.out.trans kn (by simp))
      clear hK K
      try simp only [Act.put, List.getElem_toArray, List.getElem_cons_zero, List.getElem_cons_succ, List.setIfInBounds_toArray, List.set_cons_zero, List.set_cons_succ]
      have KN := hid (KD.out.trans kn (by simp))
      have HNS := hid hns
      clear kn hns hnc hn8
      refine wpAnyH_take (i := 6) (v := ?_) rfl (by kernel_rfl) (by kernel_rfl) (by kernel_rfl) (fun _ _ _ h => h) (Or.inl ⟨by rfl, ?_⟩) (by assumption) ?_
      rotate_left
      · intro w hSw; (try dsimp only at hSw); go_simp <;> with_reducible rfl
      try simp only [Act.put, List.getElem_toArray, List.getElem_cons_zero, List.getElem_cons_succ, List.setIfInBounds_toArray, List.set_cons_zero, List.set_cons_succ]
      refine wpAnyH_done (by kernel_rfl) ?_ _
      clear hHeld hF aN
      obtain ⟨l, hl⟩ : ∃ l, Hid (ndsC c (x.1 : Int) (x.2 : Int) = l) := ⟨_, hid rfl⟩
      rw [hl.out] at hou hnl hps HNS
      rw [hl.out]
      have hl17 : l.length ≤ 17 := by have := hnl.out; have := hk8.out; omega
      clear hnl
      go_wp2_with fail
      go_loopw [7, 9] (fun sv kv wm => ∃ k : Nat, k ≤ l.length ∧ kv = .int .i64 k ∧ (∃ B, sv = .bool B ∧ Hid ((l.take k).any (lvAt V) = B)) ∧ Hid (Kp [] wn wm)) (fun _ kv _ => l.length - (intOf kv).toNat)
      case atStart => exact ⟨0, Nat.zero_le _, rfl, ⟨false, rfl, hid rfl⟩, hid (Kp.refl _ _)⟩
      case round =>
        obtain ⟨k, hk, rfl, ⟨B, rfl, hB⟩, km⟩ := hrel
        by_cases hkl : k < l.length
        · obtain ⟨gn, on, rfl, y0⟩ := intAt (HNS.out.keptNew km.out) k hkl
          have hmy : Hid (0 ≤ l[k]) := hid (hps.out _ (List.getElem_mem hkl))
          have htk : Hid ((l.take (k + 1)).any (lvAt V) = (B || lvAt V l[k])) := by
            show _ = _
            have e : l.take (k + 1) = l.take k ++ [l[k]] := by rw [List.take_succ_eq_append_getElem hkl]
            rw [e, List.any_append, hB.out]
            simp
          have k1 : (0 : Int) ≤ (k : Int) := by omega
          have k2 : (k : Int) < (l.length : Int) := by omega
          have k3 : (k : Int) + 1 ≤ 9223372036854775807 := by omega
          generalize l[k] = y at *
          cases B with
          | true =>
            have h2 : Hid ((l.take (k + 1)).any (lvAt V) = true) := by show _ = _; rw [htk.out]; rfl
            go_wp2_with fail
            exact ⟨⟨k + 1, by omega, by go_num, ⟨true, rfl, h2⟩, km⟩, by simp [intOf]; omega⟩
          | false =>
            obtain ⟨n, rfl⟩ := Int.eq_ofNat_of_zero_le hmy.out
            by_cases hnv : n < V.length
            · have kwm : Kp [] w wr := ((KW.out.trans K1.out (by simp)).trans KN.out (by simp)).trans km.out (by simp)
              obtain ⟨gv, ov, ev, z0⟩ := boAt (HV.out.keptNew kwm) n hnv
              subst ev
              have d1 : decide ((n : Int) < (V.length : Int)) = true := by simp; exact hnv
              have d2 : (n : Int) < (V.length : Int) := by omega
              have d3 : (0 : Int) ≤ (n : Int) := by omega
              have e1 : V.getD (n : Int).toNat false = V[n] := by simp [hnv]
              have h2 : Hid ((l.take (k + 1)).any (lvAt V) = V[n]) := by
                show _ = _
                have lvy : lvAt V (n : Int) = V[n] := by unfold lvAt; rw [d1, e1]; simp
                rw [htk.out, lvy]
                rfl
              generalize V[n] = b at *
              clear htk kwm e1
              go_wp2_with fail
              exact ⟨⟨k + 1, by omega, by go_num, ⟨b, by simp, h2⟩, km⟩, by simp [intOf]; omega⟩
            · have d1 : decide ((n : Int) < (V.length : Int)) = false := by simp; omega
              have d2 : decide (n < V.length) = false := by simp; omega
              have h2 : Hid ((l.take (k + 1)).any (lvAt V) = false) := by
                show _ = _
                have lvy : lvAt V (n : Int) = false := by unfold lvAt; rw [d1]; rfl
                rw [htk.out, lvy]
                rfl
              clear htk
              go_wp2_with fail
              exact ⟨⟨k + 1, by omega, by go_num, ⟨false, by simp, h2⟩, km⟩, by simp [intOf]; omega⟩
        · have e : k = l.length := by omega
          subst e
          have hB2 : Hid (l.any (lvAt V) = B) := by have := hB.out; rw [List.take_length] at this; exact hid this
          rw [hB2.out] at hou
          have kf := hid (KN.out.trans km.out (by simp))
          cases B with
          | true =>
            have h2 : Hid (cvdTo c M V (s + 1) = true) := by show _ = _; rw [hou.out]; rfl
            clear hou hB hB2
            go_wp2_with fail
            exact ⟨⟨s + 1, by omega, by go_num, h2, kf⟩, by simp [intOf]; omega⟩
          | false =>
            have hR : Hid (r = false) := by show _ = _; rw [← hr.out]; exact hmo.out (by rw [hou.out]; rfl)
            clear hou hB hB2
            go_wp2_with fail
            go_ret
            exact ⟨by rw [hR.out]; rfl, (KW.out.trans K1.out (by simp)).trans kf.out (by simp)⟩
    · have e : s = N := by omega
      subst e
      have hR : Hid (r = true) := by show _ = _; rw [← hr.out]; exact hst.out
      go_wp2_with fail
      go_ret
      exact ⟨by rw [hR.out]; rfl, (KW.out.trans K1.out (by simp)).trans kr.out (by simp)⟩
end Go.Proofs.Ytchkckjlcmgbmaa
end

section
namespace Go.Proofs.Ytchkckjlcmgbmaa
open Go.RowKit Go.Hay
set_option linter.unusedVariables false
set_option linter.unusedSimpArgs false

set_option maxHeartbeats 8000000 in
set_option maxRecDepth 100000 in
theorem liesWalk (c : Cg) (P S : Int) (va : Option Addr) (vc : Nat) (V : List Bool) (w : World) (hc : c.ok w) (hv : BoE.See w va V) : Calls Try.prog 4 #[c.v, .agg #[.int .i64 P, .int .i64 S], .slice va V.length vc] w fun e w' => e = .returned (.bool true) ∧ Below w.heap.size w w' := by
  obtain ⟨W, eW, kW, zW, bC, bA⟩ := boxCA c P S w
  have BB := hid (And.intro bC bA)
  have KW := hid kW
  have HC := hid (hc.kept kW)
  have HV := hid (hv.keptNew kW)
  have zW' : w.heap.size + 1 < W.heap.size := by omega
  have hF : Hid (∀ W', Kp [] W W' → (W'.cell? ⟨w.heap.size, 0, none⟩ = some (.int .i64 c.n) ∧ W'.cell? ⟨w.heap.size, 1, none⟩ = some (.int .i64 c.s) ∧ W'.cell? ⟨w.heap.size, 2, none⟩ = some (.int .i64 c.k) ∧ W'.cell? ⟨w.heap.size, 3, none⟩ = some (.slice c.ta c.tl.length c.tc) ∧ W'.cell? ⟨w.heap.size, 4, none⟩ = some (.slice c.pa c.pl.length c.pc) ∧ W'.cell? ⟨w.heap.size + 1, 0, none⟩ = some (.int .i64 P) ∧ W'.cell? ⟨w.heap.size + 1, 1, none⟩ = some (.int .i64 S))) := fun W' k => by
    have h1 := BB.out.1.kept k
    have h2 := BB.out.2.kept k
    exact ⟨h1.get 0 _ rfl, h1.get 1 _ rfl, h1.get 2 _ rfl, h1.get 3 _ rfl, h1.get 4 _ rfl, h2.get 0 _ rfl, h2.get 1 _ rfl⟩
  have aK := hid (rCheck c W HC.out)
  have aA := hid (fun w' => cAlive w')
  obtain ⟨E, hE⟩ : ∃ E, Hid (chkC c = E) := ⟨_, hid rfl⟩
  rw [hE.out] at aK
  clear hc hv kW bC bA zW
  simp only [Cg.v] at *
  obtain ⟨c0, c1, c2, c3, c4, a0, a1⟩ := hF.out _ (Kp.refl _ _)
  go_enter Try.func4, Try.ntmps4
  go_wp2_with fail
  refine aK.out.mono ?_
  rintro e w1 ⟨rfl, k1⟩
  have K1 := hid k1
  clear k1 aK c0 c1 c2 c3 c4 a0 a1 eW
  obtain ⟨c0, c1, c2, c3, c4, a0, a1⟩ := hF.out _ K1.out
  by_cases h0 : E = 0
  rotate_left
  · have d0 : (E != 0) = true := by simpa using h0
    go_wp2_with fail
    refine (aA.out _).mono ?_
    rintro e w3 ⟨rfl, k3⟩
    have KF := hid ((KW.out.trans K1.out (by simp)).trans k3 (by simp)).below
    clear k3
    go_wp2_with fail
    go_ret
    exact ⟨rfl, KF.out⟩
  have d0 : (E != 0) = false := by simpa using h0
  obtain ⟨hn, _, _, hp8, hsh, _⟩ := chk_ok (hE.out.trans h0)
  have hN := (cntd_iff c).1 hn
  obtain ⟨M, hM⟩ : ∃ M : Nat, c.s = (M : Int) := ⟨c.s.toNat, by omega⟩
  have aS := hid (fun w' => cSegs c M w' hM hn hp8)
  have aO := hid (fun (x : Int) w' (k : Kp [] W w') => cOf c x M w' hM (HC.out.kept k) hn hsh hp8)
  have rO := hid (fun (x : Int) w' (k : Kp [] W w') => rOf c x M w' hM (HC.out.kept k) hn hsh hp8)
  have rS := hid (fun w' => rSegments c M c.pl.length w' hM rfl (by omega) hp8)
  have aN := hid (fun w' (k : Kp [] W w') => cNodes c P S w' (HC.out.kept k) hn hsh)
  have rN := hid (fun w' (k : Kp [] W w') => rNodes c P S w' (HC.out.kept k) hn hsh)
  have aV := hid (fun w' (k : Kp [] W w') => cCoveredC c va vc V M w' hM (HC.out.kept k) (HV.out.keptNew k) hn hsh)
  have rV := hid (fun w' (k : Kp [] W w') => rCoveredR c va vc V M w' hM (HC.out.kept k) (HV.out.keptNew k) hn hsh hp8)
  simp only [Cg.v] at aS aO rO rS aN rN aV rV
  have hnl := hid (ndsC_len c P S)
  have hk8 : Hid (c.k.toNat ≤ 8) := hid (by omega)
  have hsg := hid (sgTo_len M (c.pl.length * M))
  have hsm : Hid (c.pl.length * M ≤ 64) := by have h1 : c.pl.length * M ≤ 8 * 8 := Nat.mul_le_mul hp8 (by omega); exact hid (by omega)
  have hol := hid (fun x => ofTo_len c M x (c.pl.length * M))
  obtain ⟨N, hNn⟩ : ∃ N : Nat, c.n = (N : Int) := ⟨c.n.toNat, by omega⟩
  have hN8 : N ≤ 8 := by omega
  obtain ⟨X, hX⟩ : ∃ X, Hid (cvdTo c M V (c.pl.length * M) = X) := ⟨_, hid rfl⟩
  rw [hX.out] at aV rV
  have HNn := hid hNn
  clear hn hsh hN hM h0 hE hNn hX
  go_wp2_with fail
  refine (aS.out _).mono ?_
  rintro e w2 ⟨sa, sc, rfl, hss, hsc, k2⟩
  have K2 := hid (K1.out.trans k2 (by simp))
  have HSS := hid hss
  clear k2 hss hsc aS c0 c1 c2 c3 c4 a0 a1
  obtain ⟨SL, hSL⟩ : ∃ l, Hid (sgTo M (c.pl.length * M) = l) := ⟨_, hid rfl⟩
  rw [hSL.out] at HSS rS hsg
  rw [hSL.out]
  clear hSL
  go_wp2_with fail
  go_loopw [9] (fun nv wr => ∃ j : Nat, j ≤ N + 2 ∧ nv = .int .i64 ((j : Int) - 1) ∧ Hid (Kp [] W wr ∧ SgE.See wr sa SL)) (fun nv _ => N + 2 - (intOf nv + 1).toNat)
  case atStart => exact ⟨0, Nat.zero_le _, rfl, hid ⟨K2.out, HSS.out⟩⟩
  case round =>
    obtain ⟨j, hj, rfl, kr⟩ := hrel
    clear K2 HSS
    obtain ⟨c0, c1, c2, c3, c4, a0, a1⟩ := hF.out _ kr.out.1
    by_cases hjl : j ≤ N + 1
    · have i1 : (j : Int) - 1 ≤ c.n := by have := HNn.out; omega
      have i2 : decide ((j : Int) - 1 ≤ c.n) = true := by simpa using i1
      have i3 : (-9223372036854775808 : Int) ≤ (j : Int) - 1 + 1 := by omega
      have i4 : (j : Int) - 1 + 1 ≤ 9223372036854775807 := by omega
      obtain ⟨y, hy⟩ : ∃ y, (j : Int) - 1 = y := ⟨_, rfl⟩
      have hyj := hid hy
      rw [hy] at i1 i2 i3 i4
      rw [hy]
      clear hy
      go_wp2_with fail
      refine wp_region_held_drew (S := fun W' => W'.cell? ⟨w.heap.size, 0, none⟩ = some (.int .i64 c.n) ∧ W'.cell? ⟨w.heap.size, 1, none⟩ = some (.int .i64 c.s) ∧ W'.cell? ⟨w.heap.size, 2, none⟩ = some (.int .i64 c.k) ∧ W'.cell? ⟨w.heap.size, 3, none⟩ = some (.slice c.ta c.tl.length c.tc) ∧ W'.cell? ⟨w.heap.size, 4, none⟩ = some (.slice c.pa c.pl.length c.pc) ∧ W'.cell? ⟨w.heap.size + 1, 0, none⟩ = some (.int .i64 P) ∧ W'.cell? ⟨w.heap.size + 1, 1, none⟩ = some (.int .i64 S)) (by kernel_rfl) ?_ (fun hHeld => ?_)
      · exact hF.out _ (kr.out.1.trans (Kp.refl [] wr).drew (by simp))
      have KD : Hid (Kp [] wr wr.drew) := hid (Kp.refl [] wr).drew
      generalize wr.drew = Wd at *
      clear c0 c1 c2 c3 c4 a0 a1
      refine wpAnyH_take (i := 0) (v := ?_) rfl (by kernel_rfl) (by kernel_rfl) (by kernel_rfl) (fun _ _ _ h => h) (Or.inl ⟨by rfl, ?_⟩) (by assumption) ?_
      rotate_left
      · intro w hSw; (try dsimp only at hSw); go_simp <;> with_reducible rfl
      try simp only [Act.put, List.getElem_toArray, List.getElem_cons_zero, List.getElem_cons_succ, List.setIfInBounds_toArray, List.set_cons_zero, List.set_cons_succ]
      refine wpAnyH_take (i := 1) (v := ?_) rfl (by kernel_rfl) (by kernel_rfl) (by kernel_rfl) (fun _ _ _ h => h) (Or.inl ⟨by rfl, ?_⟩) (by assumption) ?_
      rotate_left
      · intro w hSw; (try dsimp only at hSw); go_simp <;> with_reducible rfl
      try simp only [Act.put, List.getElem_toArray, List.getElem_cons_zero, List.getElem_cons_succ, List.setIfInBounds_toArray, List.set_cons_zero, List.set_cons_succ]
      refine wpAnyH_take (i := 3) (v := ?_) rfl (by kernel_rfl) (by kernel_rfl) (by kernel_rfl) (fun _ _ _ h => h) (Or.inl ⟨by rfl, ?_⟩) (by assumption) ?_
      rotate_left
      · intro w hSw; (try dsimp only at hSw); go_simp <;> with_reducible rfl
      try simp only [Act.put, List.getElem_toArray, List.getElem_cons_zero, List.getElem_cons_succ, List.setIfInBounds_toArray, List.set_cons_zero, List.set_cons_succ]
      refine wpAnyH_take (i := 4) (v := ?_) rfl (by kernel_rfl) (by kernel_rfl) (by kernel_rfl) (fun _ _ _ h => h) (Or.inl ⟨by rfl, ?_⟩) (by assumption) ?_
      rotate_left
      · intro w hSw; (try dsimp only at hSw); go_simp <;> with_reducible rfl
      try simp only [Act.put, List.getElem_toArray, List.getElem_cons_zero, List.getElem_cons_succ, List.setIfInBounds_toArray, List.set_cons_zero, List.set_cons_succ]
      refine wpAnyH_ready (rs := [2]) (by kernel_rfl) (by simp) ?_
      refine AllReadyH.cons rfl (fun K hK => ?_) AllReadyH.nil
      go_simp
      refine (aO.out y Wd (kr.out.1.trans KD.out (by simp))).mono ?_
      rintro e u1 ⟨oa, ocp, rfl, hos, hoc, l1⟩
      (try go_wp2_with fail)
      refine hK.out _ _ ?_ (fun hHeld => ?_)
      · exact hF.out _ ((kr.out.1.trans KD.out (by simp)).trans l1 (by simp))
      clear hK K
      try simp only [Act.put, List.getElem_toArray, List.getElem_cons_zero, List.getElem_cons_succ, List.setIfInBounds_toArray, List.set_cons_zero, List.set_cons_succ]
      have L1 := hid (KD.out.trans l1 (by simp))
      have HOS := hid hos
      clear l1 hos hoc
      refine wpAnyH_ready (rs := [5]) (by kernel_rfl) (by simp) ?_
      refine AllReadyH.cons rfl (fun K hK => ?_) AllReadyH.nil
      go_simp
      refine (rO.out y _ (kr.out.1.trans L1.out (by simp))).mono ?_
      rintro e u2 ⟨ob, obp, rfl, hos2, hoc2, l2⟩
      (try go_wp2_with fail)
      refine hK.out _ _ ?_ (fun hHeld => ?_)
      · exact hF.out _ ((kr.out.1.trans L1.out (by simp)).trans l2 (by simp))
      clear hK K
      try simp only [Act.put, List.getElem_toArray, List.getElem_cons_zero, List.getElem_cons_succ, List.setIfInBounds_toArray, List.set_cons_zero, List.set_cons_succ]
      have L2 := hid (L1.out.trans l2 (by simp))
      have aQ := hid (rSameS oa ob ocp obp (ofC c M y) u2 (HOS.out.keptNew l2) hos2 (by have := hol.out y; have := hsm.out; unfold ofC; omega))
      clear l2 hos2 hoc2
      refine wpAnyH_ready (rs := [6]) (by kernel_rfl) (by simp) ?_
      refine AllReadyH.cons rfl (fun K hK => ?_) AllReadyH.nil
      go_simp
      refine aQ.out.mono ?_
      rintro e u3 ⟨rfl, l3⟩
      (try go_wp2_with fail)
      refine hK.out _ _ ?_ (fun hHeld => ?_)
      · exact hF.out _ ((kr.out.1.trans L2.out (by simp)).trans l3 (by simp))
      clear hK K
      try simp only [Act.put, List.getElem_toArray, List.getElem_cons_zero, List.getElem_cons_succ, List.setIfInBounds_toArray, List.set_cons_zero, List.set_cons_succ]
      have L3 := hid (L2.out.trans l3 (by simp))
      clear l3 aQ
      refine wpAnyH_take (i := 7) (v := ?_) rfl (by kernel_rfl) (by kernel_rfl) (by kernel_rfl) (fun _ _ _ h => h) (Or.inl ⟨by rfl, ?_⟩) (by assumption) ?_
      rotate_left
      · intro w hSw; (try dsimp only at hSw); go_simp <;> with_reducible rfl
      try simp only [Act.put, List.getElem_toArray, List.getElem_cons_zero, List.getElem_cons_succ, List.setIfInBounds_toArray, List.set_cons_zero, List.set_cons_succ]
      try simp only [Bool.not_true, Bool.not_false]
      refine wpAnyH_done (by kernel_rfl) ?_ _
      have H3 := hid (And.intro (kr.out.1.trans L3.out (by simp)) (kr.out.2.keptNew L3.out))
      clear hHeld HOS
      go_wp2_with fail
      exact ⟨⟨j + 1, by omega, by have := hyj.out; simp; omega, H3⟩, by have := hyj.out; simp [intOf]; omega⟩
    · have i2 : decide ((j : Int) - 1 ≤ c.n) = false := by have := HNn.out; simp; omega
      have i5 : c.n < (j : Int) - 1 := by have := HNn.out; omega
      obtain ⟨y, hy⟩ : ∃ y, (j : Int) - 1 = y := ⟨_, rfl⟩
      rw [hy] at i2 i5
      rw [hy]
      clear hy
      go_wp2_with fail
      refine wp_region_held_drew (S := fun W' => W'.cell? ⟨w.heap.size, 0, none⟩ = some (.int .i64 c.n) ∧ W'.cell? ⟨w.heap.size, 1, none⟩ = some (.int .i64 c.s) ∧ W'.cell? ⟨w.heap.size, 2, none⟩ = some (.int .i64 c.k) ∧ W'.cell? ⟨w.heap.size, 3, none⟩ = some (.slice c.ta c.tl.length c.tc) ∧ W'.cell? ⟨w.heap.size, 4, none⟩ = some (.slice c.pa c.pl.length c.pc) ∧ W'.cell? ⟨w.heap.size + 1, 0, none⟩ = some (.int .i64 P) ∧ W'.cell? ⟨w.heap.size + 1, 1, none⟩ = some (.int .i64 S)) (by kernel_rfl) ?_ (fun hHeld => ?_)
      · exact hF.out _ (kr.out.1.trans (Kp.refl [] wr).drew (by simp))
      have KD : Hid (Kp [] wr wr.drew) := hid (Kp.refl [] wr).drew
      generalize wr.drew = Wd at *
      clear c0 c1 c2 c3 c4 a0 a1
      refine wpAnyH_ready (rs := [0]) (by kernel_rfl) (by simp) ?_
      refine AllReadyH.cons rfl (fun K hK => ?_) AllReadyH.nil
      go_simp
      refine (aA.out Wd).mono ?_
      rintro e u1 ⟨rfl, l1⟩
      (try go_wp2_with fail)
      refine hK.out _ _ ?_ (fun hHeld => ?_)
      · exact hF.out _ ((kr.out.1.trans KD.out (by simp)).trans l1 (by simp))
      clear hK K
      try simp only [Act.put, List.getElem_toArray, List.getElem_cons_zero, List.getElem_cons_succ, List.setIfInBounds_toArray, List.set_cons_zero, List.set_cons_succ]
      have L1 := hid (KD.out.trans l1 (by simp))
      clear l1
      refine wpAnyH_take (i := 1) (v := ?_) rfl (by kernel_rfl) (by kernel_rfl) (by kernel_rfl) (fun _ _ _ h => h) (Or.inl ⟨by rfl, ?_⟩) (by assumption) ?_
      rotate_left
      · intro w hSw; (try dsimp only at hSw); go_simp <;> with_reducible rfl
      try simp only [Act.put, List.getElem_toArray, List.getElem_cons_zero, List.getElem_cons_succ, List.setIfInBounds_toArray, List.set_cons_zero, List.set_cons_succ]
      refine wpAnyH_take (i := 2) (v := ?_) rfl (by kernel_rfl) (by kernel_rfl) (by kernel_rfl) (fun _ _ _ h => h) (Or.inl ⟨by rfl, ?_⟩) (by assumption) ?_
      rotate_left
      · intro w hSw; (try dsimp only at hSw); go_simp <;> with_reducible rfl
      try simp only [Act.put, List.getElem_toArray, List.getElem_cons_zero, List.getElem_cons_succ, List.setIfInBounds_toArray, List.set_cons_zero, List.set_cons_succ]
      refine wpAnyH_take (i := 3) (v := ?_) rfl (by kernel_rfl) (by kernel_rfl) (by kernel_rfl) (fun _ _ _ h => h) (Or.inl ⟨by rfl, ?_⟩) (by assumption) ?_
      rotate_left
      · intro w hSw; (try dsimp only at hSw); go_simp <;> with_reducible rfl
      try simp only [Act.put, List.getElem_toArray, List.getElem_cons_zero, List.getElem_cons_succ, List.setIfInBounds_toArray, List.set_cons_zero, List.set_cons_succ]
      refine wpAnyH_ready (rs := [4]) (by kernel_rfl) (by simp) ?_
      refine AllReadyH.cons rfl (fun K hK => ?_) AllReadyH.nil
      go_simp
      refine (rS.out _).mono ?_
      rintro e u2 ⟨ta, tcp, rfl, hts, htc, l2⟩
      (try go_wp2_with fail)
      refine hK.out _ _ ?_ (fun hHeld => ?_)
      · exact hF.out _ ((kr.out.1.trans L1.out (by simp)).trans l2 (by simp))
      clear hK K
      try simp only [Act.put, List.getElem_toArray, List.getElem_cons_zero, List.getElem_cons_succ, List.setIfInBounds_toArray, List.set_cons_zero, List.set_cons_succ]
      have L2 := hid (L1.out.trans l2 (by simp))
      have aQ := hid (rSameS sa ta sc tcp SL u2 (kr.out.2.keptNew L2.out) hts (by have := hsg.out; have := hsm.out; omega))
      clear l2 hts htc
      refine wpAnyH_ready (rs := [5]) (by kernel_rfl) (by simp) ?_
      refine AllReadyH.cons rfl (fun K hK => ?_) AllReadyH.nil
      go_simp
      refine aQ.out.mono ?_
      rintro e u3 ⟨rfl, l3⟩
      (try go_wp2_with fail)
      refine hK.out _ _ ?_ (fun hHeld => ?_)
      · exact hF.out _ ((kr.out.1.trans L2.out (by simp)).trans l3 (by simp))
      clear hK K
      try simp only [Act.put, List.getElem_toArray, List.getElem_cons_zero, List.getElem_cons_succ, List.setIfInBounds_toArray, List.set_cons_zero, List.set_cons_succ]
      have L3 := hid (L2.out.trans l3 (by simp))
      clear l3 aQ
      refine wpAnyH_take (i := 6) (v := ?_) rfl (by kernel_rfl) (by kernel_rfl) (by kernel_rfl) (fun _ _ _ h => h) (Or.inl ⟨by rfl, ?_⟩) (by assumption) ?_
      rotate_left
      · intro w hSw; (try dsimp only at hSw); go_simp <;> with_reducible rfl
      try simp only [Act.put, List.getElem_toArray, List.getElem_cons_zero, List.getElem_cons_succ, List.setIfInBounds_toArray, List.set_cons_zero, List.set_cons_succ]
      refine wpAnyH_take (i := 7) (v := ?_) rfl (by kernel_rfl) (by kernel_rfl) (by kernel_rfl) (fun _ _ _ h => h) (Or.inl ⟨by rfl, ?_⟩) (by assumption) ?_
      rotate_left
      · intro w hSw; (try dsimp only at hSw); go_simp <;> with_reducible rfl
      try simp only [Act.put, List.getElem_toArray, List.getElem_cons_zero, List.getElem_cons_succ, List.setIfInBounds_toArray, List.set_cons_zero, List.set_cons_succ]
      refine wpAnyH_take (i := 8) (v := ?_) rfl (by kernel_rfl) (by kernel_rfl) (by kernel_rfl) (fun _ _ _ h => h) (Or.inl ⟨by rfl, ?_⟩) (by assumption) ?_
      rotate_left
      · intro w hSw; (try dsimp only at hSw); go_simp <;> with_reducible rfl
      try simp only [Act.put, List.getElem_toArray, List.getElem_cons_zero, List.getElem_cons_succ, List.setIfInBounds_toArray, List.set_cons_zero, List.set_cons_succ]
      refine wpAnyH_take (i := 9) (v := ?_) rfl (by kernel_rfl) (by kernel_rfl) (by kernel_rfl) (fun _ _ _ h => h) (Or.inl ⟨by rfl, ?_⟩) (by assumption) ?_
      rotate_left
      · intro w hSw; (try dsimp only at hSw); go_simp <;> with_reducible rfl
      try simp only [Act.put, List.getElem_toArray, List.getElem_cons_zero, List.getElem_cons_succ, List.setIfInBounds_toArray, List.set_cons_zero, List.set_cons_succ]
      refine wpAnyH_take (i := 11) (v := ?_) rfl (by kernel_rfl) (by kernel_rfl) (by kernel_rfl) (fun _ _ _ h => h) (Or.inl ⟨by rfl, ?_⟩) (by assumption) ?_
      rotate_left
      · intro w hSw; (try dsimp only at hSw); go_simp <;> with_reducible rfl
      try simp only [Act.put, List.getElem_toArray, List.getElem_cons_zero, List.getElem_cons_succ, List.setIfInBounds_toArray, List.set_cons_zero, List.set_cons_succ]
      refine wpAnyH_take (i := 12) (v := ?_) rfl (by kernel_rfl) (by kernel_rfl) (by kernel_rfl) (fun _ _ _ h => h) (Or.inl ⟨by rfl, ?_⟩) (by assumption) ?_
      rotate_left
      · intro w hSw; (try dsimp only at hSw); go_simp <;> with_reducible rfl
      try simp only [Act.put, List.getElem_toArray, List.getElem_cons_zero, List.getElem_cons_succ, List.setIfInBounds_toArray, List.set_cons_zero, List.set_cons_succ]
      refine wpAnyH_ready (rs := [10]) (by kernel_rfl) (by simp) ?_
      refine AllReadyH.cons rfl (fun K hK => ?_) AllReadyH.nil
      go_simp
      refine (aN.out _ (kr.out.1.trans L3.out (by simp))).mono ?_
      rintro e u4 ⟨na, nc, rfl, hns, hnc, hn8, l4⟩
      (try go_wp2_with fail)
      refine hK.out _ _ ?_ (fun hHeld => ?_)
      · exact hF.out _ ((kr.out.1.trans L3.out (by simp)).trans l4 (by simp))
      clear hK K
      try simp only [Act.put, List.getElem_toArray, List.getElem_cons_zero, List.getElem_cons_succ, List.setIfInBounds_toArray, List.set_cons_zero, List.set_cons_succ]
      have L4 := hid (L3.out.trans l4 (by simp))
      have HNS := hid hns
      clear l4 hns hnc hn8
      refine wpAnyH_ready (rs := [13]) (by kernel_rfl) (by simp) ?_
      refine AllReadyH.cons rfl (fun K hK => ?_) AllReadyH.nil
      go_simp
      refine (rN.out _ (kr.out.1.trans L4.out (by simp))).mono ?_
      rintro e u5 ⟨nb, nd, rfl, hns2, hnc2, hn82, l5⟩
      (try go_wp2_with fail)
      refine hK.out _ _ ?_ (fun hHeld => ?_)
      · exact hF.out _ ((kr.out.1.trans L4.out (by simp)).trans l5 (by simp))
      clear hK K
      try simp only [Act.put, List.getElem_toArray, List.getElem_cons_zero, List.getElem_cons_succ, List.setIfInBounds_toArray, List.set_cons_zero, List.set_cons_succ]
      have L5 := hid (L4.out.trans l5 (by simp))
      have aQ := hid (rSameI na nb nc nd (ndsC c P S) u5 (HNS.out.keptNew l5) hns2 (by have := hnl.out; have := hk8.out; omega))
      clear l5 hns2 hnc2 hn82
      refine wpAnyH_ready (rs := [14]) (by kernel_rfl) (by simp) ?_
      refine AllReadyH.cons rfl (fun K hK => ?_) AllReadyH.nil
      go_simp
      refine aQ.out.mono ?_
      rintro e u6 ⟨rfl, l6⟩
      (try go_wp2_with fail)
      refine hK.out _ _ ?_ (fun hHeld => ?_)
      · exact hF.out _ ((kr.out.1.trans L5.out (by simp)).trans l6 (by simp))
      clear hK K
      try simp only [Act.put, List.getElem_toArray, List.getElem_cons_zero, List.getElem_cons_succ, List.setIfInBounds_toArray, List.set_cons_zero, List.set_cons_succ]
      have L6 := hid (L5.out.trans l6 (by simp))
      clear l6 aQ
      refine wpAnyH_take (i := 15) (v := ?_) rfl (by kernel_rfl) (by kernel_rfl) (by kernel_rfl) (fun _ _ _ h => h) (Or.inl ⟨by rfl, ?_⟩) (by assumption) ?_
      rotate_left
      · intro w hSw; (try dsimp only at hSw); go_simp <;> with_reducible rfl
      try simp only [Act.put, List.getElem_toArray, List.getElem_cons_zero, List.getElem_cons_succ, List.setIfInBounds_toArray, List.set_cons_zero, List.set_cons_succ]
      refine wpAnyH_take (i := 16) (v := ?_) rfl (by kernel_rfl) (by kernel_rfl) (by kernel_rfl) (fun _ _ _ h => h) (Or.inl ⟨by rfl, ?_⟩) (by assumption) ?_
      rotate_left
      · intro w hSw; (try dsimp only at hSw); go_simp <;> with_reducible rfl
      try simp only [Act.put, List.getElem_toArray, List.getElem_cons_zero, List.getElem_cons_succ, List.setIfInBounds_toArray, List.set_cons_zero, List.set_cons_succ]
      refine wpAnyH_take (i := 17) (v := ?_) rfl (by kernel_rfl) (by kernel_rfl) (by kernel_rfl) (fun _ _ _ h => h) (Or.inl ⟨by rfl, ?_⟩) (by assumption) ?_
      rotate_left
      · intro w hSw; (try dsimp only at hSw); go_simp <;> with_reducible rfl
      try simp only [Act.put, List.getElem_toArray, List.getElem_cons_zero, List.getElem_cons_succ, List.setIfInBounds_toArray, List.set_cons_zero, List.set_cons_succ]
      refine wpAnyH_take (i := 18) (v := ?_) rfl (by kernel_rfl) (by kernel_rfl) (by kernel_rfl) (fun _ _ _ h => h) (Or.inl ⟨by rfl, ?_⟩) (by assumption) ?_
      rotate_left
      · intro w hSw; (try dsimp only at hSw); go_simp <;> with_reducible rfl
      try simp only [Act.put, List.getElem_toArray, List.getElem_cons_zero, List.getElem_cons_succ, List.setIfInBounds_toArray, List.set_cons_zero, List.set_cons_succ]
      refine wpAnyH_take (i := 20) (v := ?_) rfl (by kernel_rfl) (by kernel_rfl) (by kernel_rfl) (fun _ _ _ h => h) (Or.inl ⟨by rfl, ?_⟩) (by assumption) ?_
      rotate_left
      · intro w hSw; (try dsimp only at hSw); go_simp <;> with_reducible rfl
      try simp only [Act.put, List.getElem_toArray, List.getElem_cons_zero, List.getElem_cons_succ, List.setIfInBounds_toArray, List.set_cons_zero, List.set_cons_succ]
      refine wpAnyH_take (i := 21) (v := ?_) rfl (by kernel_rfl) (by kernel_rfl) (by kernel_rfl) (fun _ _ _ h => h) (Or.inl ⟨by rfl, ?_⟩) (by assumption) ?_
      rotate_left
      · intro w hSw; (try dsimp only at hSw); go_simp <;> with_reducible rfl
      try simp only [Act.put, List.getElem_toArray, List.getElem_cons_zero, List.getElem_cons_succ, List.setIfInBounds_toArray, List.set_cons_zero, List.set_cons_succ]
      refine wpAnyH_ready (rs := [19]) (by kernel_rfl) (by simp) ?_
      refine AllReadyH.cons rfl (fun K hK => ?_) AllReadyH.nil
      go_simp
      refine (aV.out _ (kr.out.1.trans L6.out (by simp))).mono ?_
      rintro e u7 ⟨rfl, l7⟩
      (try go_wp2_with fail)
      refine hK.out _ _ ?_ (fun hHeld => ?_)
      · exact hF.out _ ((kr.out.1.trans L6.out (by simp)).trans l7 (by simp))
      clear hK K
      try simp only [Act.put, List.getElem_toArray, List.getElem_cons_zero, List.getElem_cons_succ, List.setIfInBounds_toArray, List.set_cons_zero, List.set_cons_succ]
      have L7 := hid (L6.out.trans l7 (by simp))
      clear l7
      refine wpAnyH_ready (rs := [22]) (by kernel_rfl) (by simp) ?_
      refine AllReadyH.cons rfl (fun K hK => ?_) AllReadyH.nil
      go_simp
      refine (rV.out _ (kr.out.1.trans L7.out (by simp))).mono ?_
      rintro e u8 ⟨rfl, l8⟩
      (try go_wp2_with fail)
      refine hK.out _ _ ?_ (fun hHeld => ?_)
      · exact hF.out _ ((kr.out.1.trans L7.out (by simp)).trans l8 (by simp))
      clear hK K
      try simp only [Act.put, List.getElem_toArray, List.getElem_cons_zero, List.getElem_cons_succ, List.setIfInBounds_toArray, List.set_cons_zero, List.set_cons_succ]
      have L8 := hid (L7.out.trans l8 (by simp))
      clear l8
      have dX : (X == X) = true := by simp
      refine wpAnyH_take (i := 23) (v := ?_) rfl (by kernel_rfl) (by kernel_rfl) (by kernel_rfl) (fun _ _ _ h => h) (Or.inl ⟨by rfl, ?_⟩) (by assumption) ?_
      rotate_left
      · intro w hSw; (try dsimp only at hSw); go_simp <;> with_reducible rfl
      try simp only [Act.put, List.getElem_toArray, List.getElem_cons_zero, List.getElem_cons_succ, List.setIfInBounds_toArray, List.set_cons_zero, List.set_cons_succ]
      try simp only [dX]
      refine wpAnyH_take (i := 24) (v := ?_) rfl (by kernel_rfl) (by kernel_rfl) (by kernel_rfl) (fun _ _ _ h => h) (Or.inl ⟨by rfl, ?_⟩) (by assumption) ?_
      rotate_left
      · intro w hSw; (try dsimp only at hSw); go_simp <;> with_reducible rfl
      try simp only [Act.put, List.getElem_toArray, List.getElem_cons_zero, List.getElem_cons_succ, List.setIfInBounds_toArray, List.set_cons_zero, List.set_cons_succ]
      refine wpAnyH_take (i := 25) (v := ?_) rfl (by kernel_rfl) (by kernel_rfl) (by kernel_rfl) (fun _ _ _ h => h) (Or.inl ⟨by rfl, ?_⟩) (by assumption) ?_
      rotate_left
      · intro w hSw; (try dsimp only at hSw); go_simp <;> with_reducible rfl
      try simp only [Act.put, List.getElem_toArray, List.getElem_cons_zero, List.getElem_cons_succ, List.setIfInBounds_toArray, List.set_cons_zero, List.set_cons_succ]
      refine wpAnyH_done (by kernel_rfl) ?_ _
      have KF := hid ((KW.out.trans kr.out.1 (by simp)).trans L8.out (by simp)).below
      clear hHeld
      go_wp2_with fail
      go_ret
      exact ⟨by simp, KF.out⟩
end Go.Proofs.Ytchkckjlcmgbmaa
end

section
namespace Go.Proofs.Ytchkckjlcmgbmaa
open Go.ChangeShapes Go.WideShapes Go.ChangeAt Go.RowKit Go.Hay
set_option linter.unusedVariables false
set_option linter.unusedSimpArgs false

theorem cellsSg2 : Try.prog.cellsOf 31 = 2 := by kernel_rfl
theorem bytesBo1 : Try.prog.bytesOf 4 = 1 := by kernel_rfl
section
variable {H : Type} {enc : TypeId × Value → H} {W : World} {a : Option Addr} {len cap : Nat} {d : DataW H} {ps : List MemPlace}
set_option maxRecDepth 100000 in
theorem openSegC {base : Nat} {v : Value} (hv : Value.okWide Try.prog W .any base 31 v) (h : DataW.Trod enc Try.prog W 0 (fun _ => true) true 31 v d ps) : ∃ P S : Int, v = .agg #[.int .i64 P, .int .i64 S] := by
  obtain ⟨cs, rfl, hsz⟩ := okWide_struct Try.underlying31 hv
  rw [cellsSg2] at hsz
  obtain ⟨fuel, hf⟩ := h
  obtain ⟨l⟩ := cs
  match l, hsz, hf with
  | [c0, c1], _, hf =>
    have hf' : DataW.trod enc Try.prog W 0 (fun _ => true) true fuel 31 [c0, c1] = some (d, ps) := hf
    obtain ⟨xs, n, _, _, _, hlen, hff⟩ := DataW.trod_struct Try.underlying31 hf'
    match xs, hlen with
    | [y0, y1], _ =>
      have h0 := hff 0 _ rfl
      have h1 := hff 1 _ rfl
      simp [cellsIn1] at h0 h1
      obtain ⟨n0, e0⟩ := openIntC h0
      obtain ⟨n1, e1⟩ := openIntC h1
      subst e0 e1
      exact ⟨n0, n1, rfl⟩
theorem openBools (h : DataW.Trod enc Try.prog W 0 (fun _ => true) true 32 (.slice a len cap) d ps) :
    ∃ l : List Bool, len = l.length ∧ BoE.See W a l ∧ (∀ y ∈ l, True) ∧ l.length ≤ cap ∧ cap ≤ maxLen ∧ (a = none → cap = 0) ∧ (Fit 32 d → cap * 1 ≤ 140737488351232 ∧ ∀ y ∈ l, True) ∧ (l.map fun _ => 0).sum ≤ Rows.uptoBulk d ∧ cap + 1 ≤ Rows.uptoBulk d :=
  openEls BoE Try.underlying32 cellsBo1 1 bytesBo1 (fun _ => True) (fun _ => True) (fun _ => 0) (fun fuel cs x hx hcs => by
    obtain ⟨v, rfl⟩ : ∃ v, cs = [v] := by
      match cs, hcs with
      | [v], _ => exact ⟨v, rfl⟩
    obtain ⟨b, e, _⟩ := DataW.trod_bool Try.underlying4 hx
    simp at e
    subst e
    exact ⟨b, trivial, rfl, fun _ => trivial, Nat.zero_le _⟩) h
end
end Go.Proofs.Ytchkckjlcmgbmaa
end

section
namespace Go.Proofs.Ytchkckjlcmgbmaa
open Go.ChangeShapes Go.WideShapes Go.ChangeAt Go.RowKit Go.Hay
set_option linter.unusedVariables false

set_option maxRecDepth 100000 in
theorem catalogLiesContract (H : Type) (enc : TypeId × Value → H) (W : World) (base : Nat) (args : Array Value) (ds gs : List (DataW H)) (before : List MemPlace)
    (hval : ∀ (j : Nat) t v, Try.f4.params[j]? = some t → args[j]? = some v → Value.okWide Try.prog W .any base t v)
    (hW : DataW.Whole enc Try.prog Try.f4.params.toList Rows.catalogLiesSpec.vars false W args.toList ds gs before)
    (hsz : (DataW.weightsEach Try.prog (Try.f4.params.toList ++ (OpenSpec.ofChange Rows.catalogLiesSpec).bare.plain.varTypes Try.prog) (ds ++ gs)).all (· ≤ reachBytes) = true) :
    Calls Try.prog 4 args W fun e W' => ∃ v, e = .returned v ∧ Rows.catalogLiesSpec.post enc Try.prog Try.f4 false true false false W args v W' := by
  have hW' := hW
  obtain ⟨p, q, hA0, hV, rfl, hfz, hnd⟩ := hW
  have hA : DataW.TrodAll enc Try.prog W 0 (fun _ => true) true Try.f4.params.toList args.toList ds p := hA0
  rw [Try.params4] at hA hval hsz
  obtain ⟨v0, vs0, d0, ds0, p0, q0, hargs, rfl, rfl, h0, r0⟩ := trodAll_cons hA
  obtain ⟨v1, vs1, d1, ds1, p1, q1, rfl, rfl, rfl, h1, r1⟩ := trodAll_cons r0
  obtain ⟨v2, vs2, d2, ds2, p2, q2, rfl, rfl, rfl, h2, r2⟩ := trodAll_cons r1
  obtain ⟨rfl, rfl, rfl⟩ := trodAll_nil r2
  obtain rfl : args = #[v0, v1, v2] := by cases args; simp_all
  obtain ⟨rfl, rfl⟩ := trodVars_none hV
  have k0 := h0
  have lt0 : ∀ x ∈ p0, x.block < W.heap.size := by obtain ⟨m, hm⟩ := k0; exact DataW.trod_lt m _ _ _ hm
  obtain ⟨c0, rfl, ok0⟩ := openCat (hval 0 25 v0 rfl rfl) h0
  have k1 := h1
  have lt1 : ∀ x ∈ p1, x.block < W.heap.size := by obtain ⟨m, hm⟩ := k1; exact DataW.trod_lt m _ _ _ hm
  obtain ⟨sp1, ss1, rfl⟩ := openSegC (hval 1 31 v1 rfl rfl) h1
  obtain ⟨a2, len2, cap2, rfl⟩ := okWide_slice Try.underlying32 (hval 2 32 v2 rfl rfl)
  have k2 := h2
  have lt2 : ∀ x ∈ p2, x.block < W.heap.size := by obtain ⟨m, hm⟩ := k2; exact DataW.trod_lt m _ _ _ hm
  obtain ⟨l2, rfl, hs2, hok2, hl2, hm2, hn2, hfit2, hbk2, hcp2⟩ := openBools h2
  obtain ⟨hc2, hq2⟩ := hfit2 (List.all_eq_true.2 fun x hx => List.all_eq_true.1 hsz x (by simp [DataW.weightsEach]; first | exact .inl hx | exact .inr hx | exact .inr (.inl hx) | exact .inr (.inr hx) | exact hx))
  clear hA0
  refine (liesWalk c0 sp1 ss1 a2 cap2 l2 W ok0 hs2).mono fun e W' ⟨he, bel⟩ => ?_
  subst he
  exact ⟨_, rfl, _, _, _, [], _, [], hW', trodAll_mk1 (shut_bool Try.underlying4 _), (trodAll_cons_mk (Below.trod Try.laidOut (by kernel_rfl) (of_decide_eq_true (by kernel_rfl)) k0 bel lt0) (trodAll_cons_mk (Below.trod Try.laidOut (by kernel_rfl) (of_decide_eq_true (by kernel_rfl)) k1 bel lt1) (trodAll_cons_mk (Below.trod Try.laidOut (by kernel_rfl) (of_decide_eq_true (by kernel_rfl)) k2 bel lt2) trodAll_mk0))), rfl, bel.frame _, fun h => by cases h⟩

set_option maxRecDepth 100000 in
theorem catalogLiesLifted (os : Os) (started : os.Started) (H : Type) (enc : TypeId × Value → H) :
    ReturnsInHanded {} Try.checked os 4 .any (Rows.catalogLiesSpec.pre6 enc Try.prog Try.f4 Rows.catalogLiesRow.domain false) (Rows.catalogLiesSpec.post enc Try.prog Try.f4 false true false false) := by
  refine returnsInHanded_of_change_sized (C := Try.checked) Try.own started (by kernel_rfl) Try.func4
    (ChangeSpec.witness6 (enc := enc) (C := Try.checked) false ⟨#[], #[.agg #[.int .i64 0, .int .i64 0, .int .i64 0, .slice none 0 0, .slice none 0 0], .agg #[.int .i64 0, .int .i64 0], .slice none 0 0], []⟩ 8 (by kernel_rfl) (by kernel_rfl) (by kernel_rfl) (by kernel_rfl)) ?_
  intro W base args ds gs before hval hW _ hsz _
  exact catalogLiesContract H enc W base args ds gs before hval hW hsz

theorem CatalogLies_holds : Rows.CatalogLiesSaid :=
  OpenClaim.holds_of_wide 4 Try.f4 rfl rfl rfl rfl rfl rfl rfl ⟨rfl, rfl, rfl, rfl, rfl⟩ rfl rfl rfl rfl rfl (by kernel_rfl) Try.func4 (by kernel_rfl)
    (of_decide_eq_true (by kernel_rfl)) (by unfold Func.isWrapper; first | (rw [if_pos (by decide +kernel)]; kernel_rfl) | (rw [if_neg (by decide +kernel)]; exact ⟨rfl, rfl⟩))
    (fun os started H enc _ => catalogLiesLifted os started H enc)

#print axioms CatalogLies_holds
end Go.Proofs.Ytchkckjlcmgbmaa
end

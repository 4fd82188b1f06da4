/- A node has a copy of a segment just if that is among its own, and all segments together have the nodes' copies, K + 1 of each, for every catalog. -/
import Derived.Test.YtckicbaidbgonaaB9
import Derived.Test.YtckicbaidbgonaaB6
import Derived.Test.YtckicbaidbgonaaB7
import Derived.Deep.RegionHeld3
import Derived.SizedLaws
import Derived.JoinedCond
import Derived.Deep.CondSized
section
namespace Go.Proofs.Ytckicbaidbgonaa
open Go.RowKit Go.Hay
set_option linter.unusedVariables false
set_option linter.unusedSimpArgs false

/-- What a catalog is that may be. -/
theorem chk_ok {c : Cg} (h : chkC c = 0) : cntd c = true ∧ tabsM c.tl = true ∧ pjsM c = true ∧ c.pl.length ≤ 8 ∧ (∀ p ∈ c.pl, wi p.sh c.n = true) ∧ auTo c c.s.toNat c.n.toNat = true := by
  unfold chkC at h
  cases h1 : cntd c with
  | false => rw [h1] at h; simp at h
  | true =>
  cases h2 : tabsM c.tl with
  | false => rw [h1, h2] at h; simp at h
  | true =>
  cases h3 : pjsM c with
  | false => rw [h1, h2, h3] at h; simp at h
  | true =>
  cases h4 : acM c with
  | false => rw [h1, h2, h3, h4] at h; simp at h
  | true =>
  cases h5 : auTo c c.s.toNat c.n.toNat with
  | false => rw [h1, h2, h3, h4, h5] at h; simp at h
  | true => exact ⟨rfl, rfl, rfl, (pjsM_all h3).1, fun p hp => (pjM_parts ((pjsM_all h3).2 p hp)).2.1, rfl⟩
set_option maxHeartbeats 4000000 in
set_option maxRecDepth 100000 in
theorem rSameI (a b : Option Addr) (ca cb : Nat) (l : List Int) (w : World) (ha : IntE.See w a l) (hb : IntE.See w b l) (hl : l.length ≤ 9223372036854775806) :
    Calls Try.prog 17 #[.slice a l.length ca, .slice b l.length cb] w fun e w' => e = .returned (.bool true) ∧ Kp [] w w' := by
  have ha' := hid ha
  have hb' := hid hb
  have d0 : ((l.length : Int) != (l.length : Int)) = false := by simp
  clear ha hb
  go_enter Try.func17, Try.ntmps17
  go_wp2_with fail
  go_loopw [5] (fun i wr => ∃ j : Nat, j ≤ l.length ∧ i = .int .i64 j ∧ Kp [] w wr) (fun i _ => l.length - (intOf i).toNat)
  case atStart => exact ⟨0, Nat.zero_le _, rfl, Kp.refl _ _⟩
  case round =>
    obtain ⟨j, hj, rfl, kr⟩ := hrel
    by_cases hjl : j < l.length
    · obtain ⟨g, o, rfl, x0⟩ := intAt (ha'.out.keptNew kr) j hjl
      obtain ⟨g2, o2, rfl, y0⟩ := intAt (hb'.out.keptNew kr) j hjl
      have i1 : (0 : Int) ≤ (j : Int) := by omega
      have i2 : (j : Int) < (l.length : Int) := by omega
      have i3 : (j : Int) + 1 ≤ 9223372036854775807 := by omega
      generalize l[j] = y at *
      have d1 : (y != y) = false := by simp
      go_wp2_with fail
      go_quiet ((fail))
      go_wp2_with fail
      exact ⟨⟨j + 1, by omega, by go_num, kr.drewN _⟩, by simp [intOf]; omega⟩
    · have e : j = l.length := by omega
      subst e
      go_wp2_with fail
      go_ret
      exact ⟨rfl, kr⟩
set_option maxHeartbeats 4000000 in
set_option maxRecDepth 100000 in
theorem rSameS (a b : Option Addr) (ca cb : Nat) (l : List (Nat × Nat)) (w : World) (ha : SgE.See w a l) (hb : SgE.See w b l) (hl : l.length ≤ 9223372036854775806) :
    Calls Try.prog 13 #[.slice a l.length ca, .slice b l.length cb] w fun e w' => e = .returned (.bool true) ∧ Kp [] w w' := by
  have ha' := hid ha
  have hb' := hid hb
  have d0 : ((l.length : Int) != (l.length : Int)) = false := by simp
  clear ha hb
  go_enter Try.func13, Try.ntmps13
  go_wp2_with fail
  go_loopw [5] (fun i wr => ∃ j : Nat, j ≤ l.length ∧ i = .int .i64 j ∧ Kp [] w wr) (fun i _ => l.length - (intOf i).toNat)
  case atStart => exact ⟨0, Nat.zero_le _, rfl, Kp.refl _ _⟩
  case round =>
    obtain ⟨j, hj, rfl, kr⟩ := hrel
    by_cases hjl : j < l.length
    · obtain ⟨g, o, rfl, x0, x1⟩ := sgAt2 (ha'.out.keptNew kr) (j := j) (x := l[j]) (by simp [hjl])
      obtain ⟨g2, o2, rfl, y0, y1⟩ := sgAt2 (hb'.out.keptNew kr) (j := j) (x := l[j]) (by simp [hjl])
      have i1 : (0 : Int) ≤ (j : Int) := by omega
      have i2 : (j : Int) < (l.length : Int) := by omega
      have i3 : (j : Int) + 1 ≤ 9223372036854775807 := by omega
      generalize l[j] = y at *
      have d1 : ((y.1 : Int) != (y.1 : Int)) = false := by simp
      go_wp2_with fail
      go_quiet ((fail))
      go_wp2_with fail
      exact ⟨⟨j + 1, by omega, by go_num, kr.drewN _⟩, by simp [intOf]; omega⟩
    · have e : j = l.length := by omega
      subst e
      go_wp2_with fail
      go_ret
      exact ⟨rfl, kr⟩
end Go.Proofs.Ytckicbaidbgonaa
end

section
namespace Go.Proofs.Ytckicbaidbgonaa
open Go.RowKit Go.Hay
set_option linter.unusedVariables false
set_option linter.unusedSimpArgs false

theorem ring_ne (F n : Int) (i j : Nat) (hij : i < j) (hj : (j : Int) - (i : Int) < n) : (F + i) % n ≠ (F + j) % n := fun h => by
  have h1 := (Int.emod_eq_emod_iff_emod_sub_eq_zero).1 h.symm
  rw [show F + (j : Int) - (F + (i : Int)) = (j : Int) - (i : Int) by omega, Int.emod_eq_of_lt (by omega) hj] at h1
  omega
/-- The nodes of a ring are unlike. -/
theorem ring_nodup (F n : Int) (m : Nat) (hm : (m : Int) ≤ n) : (ring F n m).Nodup := by
  unfold ring List.Nodup
  rw [List.pairwise_map]
  refine List.Pairwise.imp_of_mem (R := fun a b => a < b) (fun {a b} ha hb hab => ?_) List.pairwise_lt_range
  have h1 := List.mem_range.1 ha
  have h2 := List.mem_range.1 hb
  exact ring_ne F n a b hab (by omega)
/-- Unlike ones, all among others, are no more than these. -/
theorem nodup_le {α : Type} [DecidableEq α] : ∀ (L G : List α), L.Nodup → (∀ y ∈ L, y ∈ G) → L.length ≤ G.length
  | [], G, _, _ => by simp
  | x :: L, G, hn, hs => by
    have hx := hs x (by simp)
    have hn2 := List.nodup_cons.1 hn
    have ih := nodup_le L (G.erase x) hn2.2 (fun y hy => by
      have hne : y ≠ x := fun e => hn2.1 (e ▸ hy)
      exact (List.mem_erase_of_ne hne).2 (hs y (by simp [hy])))
    rw [List.length_erase_of_mem hx] at ih
    have : 0 < G.length := List.length_pos_of_mem hx
    simp only [List.length_cons]
    omega
/-- So many nodes of the first ones are gone. -/
def awayTo (G : List Int) (j : Nat) : Nat := ((List.range j).filter fun (i : Nat) => decide ((i : Int) ∈ G)).length
theorem awayTo_succ (G : List Int) (j : Nat) : awayTo G (j + 1) = awayTo G j + (if (j : Int) ∈ G then 1 else 0) := by
  unfold awayTo
  rw [List.range_succ, List.filter_append, List.length_append]
  by_cases h : (j : Int) ∈ G
  · simp [h]
  · simp [h]
theorem awayTo_le (G : List Int) (j : Nat) : awayTo G j ≤ j := by
  unfold awayTo
  refine Nat.le_trans (List.length_filter_le _ _) ?_
  simp
/-- More unlike nodes than are gone: one of them lives. -/
theorem one_lives (G L : List Int) (N : Nat) (hn : L.Nodup) (hb : ∀ y ∈ L, 0 ≤ y ∧ y < (N : Int)) (ha : awayTo G N < L.length) : ∃ y ∈ L, y ∉ G := by
  apply Classical.byContradiction
  intro hno
  have hall : ∀ y ∈ L, y ∈ G := fun y hy => Classical.byContradiction fun h => hno ⟨y, hy, h⟩
  have hn2 : (L.map Int.toNat).Nodup := by
    unfold List.Nodup
    rw [List.pairwise_map]
    refine List.Pairwise.imp_of_mem (R := fun a b => a ≠ b) (fun {a b} h1 h2 hab e => hab ?_) hn
    have := hb a h1
    have := hb b h2
    omega
  have h := nodup_le (L.map Int.toNat) ((List.range N).filter fun (i : Nat) => decide ((i : Int) ∈ G)) hn2 (fun y hy => by
    obtain ⟨z, hz, rfl⟩ := List.mem_map.1 hy
    have h1 := hb z hz
    have h2 := hall z hz
    rw [List.mem_filter, List.mem_range]
    refine ⟨by omega, ?_⟩
    rw [show ((z.toNat : Nat) : Int) = z by omega]
    simpa using h2)
  rw [List.length_map] at h
  unfold awayTo at ha
  omega
/-- Who lives, as the law lays it. -/
def liveL (G : List Int) (N : Nat) : List Bool := (List.range N).map fun (i : Nat) => !decide ((i : Int) ∈ G)
theorem lv_live (G : List Int) (N : Nat) (y : Int) (h0 : 0 ≤ y) (h1 : y < (N : Int)) (hy : y ∉ G) : lvAt (liveL G N) y = true := by
  obtain ⟨n, rfl⟩ := Int.eq_ofNat_of_zero_le h0
  have hn : n < N := by omega
  unfold lvAt liveL
  simp [hn, hy]
/-- As long as at most K nodes are gone the others have all. -/
theorem cvd_safe (c : Cg) (G : List Int) (M N : Nat) (hM : c.s = (M : Int)) (hN : c.n = (N : Int)) (hn : cntd c = true) (ha : (awayTo G N : Int) ≤ c.k) : cvdTo c M (liveL G N) (c.pl.length * M) = true := by
  have hq := (cntd_iff c).1 hn
  unfold cvdTo
  rw [List.all_eq_true]
  intro s hs
  rw [List.mem_range] at hs
  have hM0 : 0 < M := by omega
  have h1 : s / M < c.pl.length := (Nat.div_lt_iff_lt_mul hM0).2 hs
  have h2 : s % M < M := Nat.mod_lt _ hM0
  generalize s / M = A at *
  generalize s % M = B at *
  have hl : liesC c (A : Int) (B : Int) = true := by
    unfold liesC wi
    simp only [Bool.and_eq_true, decide_eq_true_eq]
    omega
  have hr : ndsC c (A : Int) (B : Int) = ring ((B : Int) + (c.pl.getD (A : Int).toNat default).sh) c.n (c.k.toNat + 1) := by unfold ndsC; rw [if_pos hl]
  rw [hr, List.any_eq_true]
  obtain ⟨y, hy, hg⟩ := one_lives G (ring ((B : Int) + (c.pl.getD (A : Int).toNat default).sh) c.n (c.k.toNat + 1)) N (ring_nodup _ _ _ (by omega)) (fun y hy => by have := ring_pos (by omega) y hy; omega) (by rw [ring_length]; omega)
  have hb := ring_pos (by omega) y hy
  exact ⟨y, hy, lv_live G N y hb.1 (by omega) hg⟩
end Go.Proofs.Ytckicbaidbgonaa
end

section
namespace Go.Proofs.Ytckicbaidbgonaa
open Go.RowKit Go.Hay
attribute [local go_sem] Oper.semAt_some
set_option linter.unusedVariables false
set_option linter.unusedSimpArgs false

theorem eqlFuncNil {P : Program} {t : TypeId} {ps rs : Array TypeId} {v : Bool} (h : P.underlying t = some (.func ps rs v)) (f : Fn) (fi ca : Array Value) (w : World) : (binOp .eql t (.func f fi ca) .nilFunc).run P w = .ok (.bool false) w := by
  have e0 : ∀ d : Nat, (Op.equalIn (d + 1) t (.func f fi ca) .nilFunc).run P w = .ok false w := fun d => by simp [Op.equalIn, run_underlying h]
  have e : (Op.equal t (.func f fi ca) .nilFunc).run P w = .ok false w := e0 9999
  simp only [binOp]
  simp [e]
/-- How the memory stands between two rounds. -/
structure SgI (w : World) (qL B M s : Nat) (W : World) (a : Option Addr) (cp : Nat) (l : List (Nat × Nat)) : Prop where
  kp : Kp [] w W
  bL : Bn W qL [.slice a l.length cp]
  row : SgE.Row W (.slice a l.length cp) l
  nw : ∀ k ∈ blk a, B + 2 ≤ k
  eq : l = sgTo M s
def SgJ (w : World) (qL B M s : Nat) (W : World) : Prop := ∃ a cp l, SgI w qL B M s W a cp l
theorem SgI.keepS {w : World} {qL B M s : Nat} {W W' : World} {a : Option Addr} {cp : Nat} {l : List (Nat × Nat)} (h : SgI w qL B M s W a cp l) {S : List Nat} (k : Kp S W W') (hS : ∀ j ∈ S, B ≤ j ∧ j < B + 2) (hB : w.heap.size ≤ B ∧ qL < B) : SgI w qL B M s W' a cp l := by
  refine ⟨h.kp.trans k (fun j hj => .inr (by have := hS j hj; omega)), h.bL.keptS k (fun hm => by have := hS _ hm; omega) (h.bL.lt (by simp)), h.row.kept k (fun j hj hm => ?_), h.nw, h.eq⟩
  have h1 := hS j hm
  have h2 : j ∈ blk a := by rw [ownSl] at hj; exact hj
  have := h.nw j h2
  omega
/-- What segments hands back. -/
def SegP (l : List (Nat × Nat)) (w : World) (e : Ending) (w' : World) : Prop := ∃ (a : Option Addr) (cp : Nat), e = .returned (.tuple #[.slice a l.length cp, .bool true]) ∧ SgE.See w' a l ∧ l.length ≤ cp ∧ Kp [] w w'
set_option maxHeartbeats 16000000 in
set_option maxRecDepth 100000 in
theorem cSegs (c : Cg) (M : Nat) (w : World) (hM : c.s = (M : Int)) (hn : cntd c = true) (hp8 : c.pl.length ≤ 8) : Calls Try.prog 12 #[c.v] w (SegP (sgTo M (c.pl.length * M)) w) := by
  obtain ⟨W, eW, kW, zW, bC⟩ := boxC c w
  have hMl : M ≤ 8 := by have := (cntd_iff c).1 hn; omega
  have aSg := hid (cSegments c W M hM hn)
  have KW := hid kW
  have c0 := bC.get 0 _ rfl; have c1 := bC.get 1 _ rfl; have c2 := bC.get 2 _ rfl; have c3 := bC.get 3 _ rfl; have c4 := bC.get 4 _ rfl
  have zW' : w.heap.size < W.heap.size := by omega
  clear kW bC hn hM zW
  simp only [Cg.v] at *
  refine (callsIn_wide (n := 6)).1 ?_
  refine callsIn_of_wp_marks Try.func12 rfl trivial ?_ rfl
  simp only [Try.ntmps12, List.size_toArray, List.length_cons, List.length_nil, Nat.reduceAdd, Nat.reduceSub, Array.replicate_succ, Array.replicate_zero, List.push_toArray, List.append_toArray, List.nil_append, List.cons_append]
  refine wpIn_wide.2 ?_
  go_wp2_with fail
  refine aSg.out.mono ?_
  rintro e w1 ⟨q1, q2, rfl, hq1, hq2, l1, l2, k1⟩
  have K1 := hid (And.intro k1 (And.intro hq1 hq2))
  have aA := hid (cAlive w1)
  have hnf : ∀ W : World, (binOp .eql 82 (.func (.func 64) #[] #[.pointer (some ⟨q1, 0, none⟩), .pointer (some ⟨q2, 0, none⟩)]) .nilFunc).run Try.prog W = .ok (.bool false) W := fun W => eqlFuncNil Try.underlying82 _ _ _ W
  clear aSg c0 c1 c2 c3 c4 eW hq1 hq2 l1 l2 k1
  go_wp2_with fail
  refine aA.out.mono ?_
  rintro e w2 ⟨rfl, k2⟩
  obtain ⟨w3, e3⟩ : ∃ Y, w2.alloc (.cells #[.slice none 0 0] 33) = Y := ⟨_, rfl⟩
  have k3 : Kp [] w2 w3 := by rw [← e3]; exact (Kp.refl _ _).alloc _
  have z3 : w3.heap.size = w2.heap.size + 1 := by rw [← e3]; simp
  have b3 : Bn w3 w2.heap.size [.slice none 0 0] := by rw [← e3]; exact Bn.new w2 [.slice none 0 0] _
  have k13 : Kp [] w1 w3 := k2.trans k3 (by simp)
  have hq1 := kpAt k13 K1.out.2.1
  have hq2 := kpAt k13 K1.out.2.2
  have kw3 : Kp [] w w3 := (KW.out.trans K1.out.1 (by simp)).trans k13 (by simp)
  have hlt1 : q1 < w2.heap.size := Nat.lt_of_lt_of_le (World.block_lt_of_cell? _ _ K1.out.2.1) k2.size
  have hlt2 : q2 < w2.heap.size := Nat.lt_of_lt_of_le (World.block_lt_of_cell? _ _ K1.out.2.2) k2.size
  have hI0 : SgI w w2.heap.size w3.heap.size M 0 w3 none 0 [] := ⟨kw3, b3, .inl ⟨rfl, rfl⟩, by simp [blk], by simp [sgTo]⟩
  have hsq := segSeq (6 - 1) (by omega) q1 q2 c.pl.length M w3 hq1 hq2 (by omega) (by omega)
  have hzw := kw3.size
  have hzw2 := ((KW.out.trans K1.out.1 (by simp)).trans k2 (by simp)).size
  have hB3 : w.heap.size ≤ w3.heap.size ∧ w2.heap.size < w3.heap.size := by omega
  have HL := hid (And.intro hlt1 (And.intro hlt2 (And.intro z3 hzw2)))
  have HI0 := hid hI0
  have HSQ := hid hsq
  clear hnf aA hI0 hsq k2 k3 b3 k13 hq1 hq2 kw3 hlt1 hlt2 z3 hzw hzw2
  go_wp2_with fail
  refine (wpIn_wide (n := 6)).1 ?_
  refine wpRangeW rfl (by omega) (gf := 64) (lb := #[.pointer (some ⟨q1, 0, none⟩), .pointer (some ⟨q2, 0, none⟩)]) rfl trivial (enters_of Try.func64 (by kernel_rfl) rfl)
    HSQ.out (fun _ => rfl) KeepC.trans (fun s W o => KeepC.alloc _ W o) (fun s W k o o' _ ho hc _ => KeepC.putObj _ W k o o' ho hc) (KeepC.refl _ _) (fun s s' A B ht k o _ ho _ _ => by rw [← ht.2]; exact ho)
    (SgJ w w2.heap.size w3.heap.size M) (fun _ _ _ => False) ?hI (fun _ _ _ _ h _ => h) (fun s s' A B h ht => by rw [← ht.1, ← ht.2]; exact h) ?h0 ?hIa
    (fun x => .cells #[.int .i64 (x.1 : Int), .int .i64 (x.2 : Int)] 31)
    (fun x q3 => { tmps := #[.agg #[.int .i64 c.n, .int .i64 c.s, .int .i64 c.k, .slice c.ta c.tl.length c.tc, .slice c.pa c.pl.length c.pc], .pointer (some ⟨w.heap.size, 0, none⟩), .slice none 0 0, .bool false, .func (.func 64) #[] #[.pointer (some ⟨q1, 0, none⟩), .pointer (some ⟨q2, 0, none⟩)], .pointer (some ⟨w2.heap.size, 0, none⟩), .pointer (some ⟨q3, 0, none⟩), .agg #[.int .i64 c.n, .int .i64 c.s, .int .i64 c.k, .slice c.ta c.tl.length c.tc, .slice c.pa c.pl.length c.pc], .func (.func 64) #[] #[.pointer (some ⟨q1, 0, none⟩), .pointer (some ⟨q2, 0, none⟩)], .func (.func 64) #[] #[.pointer (some ⟨q1, 0, none⟩), .pointer (some ⟨q2, 0, none⟩)], .bool false, .bool false, .bool true, .bool false, .bool false, .func (.func 64) #[] #[.pointer (some ⟨q1, 0, none⟩), .pointer (some ⟨q2, 0, none⟩)], .agg #[.int .i64 (x.1 : Int), .int .i64 (x.2 : Int)], undef, undef, undef, undef, undef], defers := [] }) ?assign ?body ?done ?stop
  case hI =>
    rintro s X o' ⟨a, cp, l, h⟩ hz
    have kp : Kp [w3.heap.size + 1] X (X.putObj (w3.heap.size + 1) o') := ⟨rfl, rfl, rfl, by simp, fun k hk hn => World.putObj_heap_other (by simpa using hn)⟩
    exact ⟨a, cp, l, h.keepS kp (fun j hj => by simp at hj; omega) hB3⟩
  case h0 =>
    intro o1 o2
    exact ⟨none, 0, [], HI0.out.keepS (S := []) (((Kp.refl _ _).alloc _).alloc _) (by simp) hB3⟩
  case hIa =>
    rintro s X o ⟨a, cp, l, h⟩
    exact ⟨a, cp, l, h.keepS (S := []) ((Kp.refl _ _).alloc _) (by simp) hB3⟩
  case assign =>
    intro l x W C hC
    gi_wp2_with fail
    exact hC
  case body =>
    rintro lr s x A q3 ⟨a, cp, l, h⟩ ⟨hslt, hxs, hx2, hx1⟩ hob hq3
    have hbx : ∀ z : Nat, A.cell? ⟨q3, z, none⟩ = (#[.int .i64 (x.1 : Int), .int .i64 (x.2 : Int)] : Array Value)[z]? := fun z => by
      unfold World.cell?
      simp [hob]
    have g0 := hbx 0; have g1 := hbx 1
    have hqa := (Array.getElem?_eq_some_iff.1 hob).1
    have hs64 : s < 64 := by have : c.pl.length * M ≤ 8 * 8 := Nat.mul_le_mul hp8 hMl; omega
    have hll : l.length ≤ 1000000 := by rw [h.eq, sgTo_len]; omega
    have e9 : sgTo M (s + 1) = l ++ [x] := by
      have := sgTo_succ M x.1 x.2 hx2
      rw [hxs] at this
      rw [this, ← h.eq]
    have hnw := h.nw
    have hlb := HL.out
    obtain ⟨a', cp', A2, hrun, hrow2, hna', k2⟩ := appSg A a cp l x (w3.heap.size + 2) h.row hnw (by omega) hll
    have z2 := k2.size
    have hblt := h.bL.lt (by simp)
    have hnq : w2.heap.size ∉ blk a := fun hm' => by have := hnw _ hm'; omega
    have bx2 := h.bL.keptS k2 hnq hblt
    have b0 := bx2.get 0 _ rfl
    have f0 := bx2.free 0
    obtain ⟨A3, hA3⟩ : ∃ A3, A2.setCell ⟨w2.heap.size, 0, none⟩ (.slice a' (l ++ [x]).length cp') = A3 := ⟨_, rfl⟩
    have bx3 : Bn A3 (w2.heap.size) [.slice a' (l ++ [x]).length cp'] := by rw [← hA3]; exact bx2.set 0 (by simp) _
    have k3 : Kp [w2.heap.size] A2 A3 := by rw [← hA3]; exact (Kp.refl _ _).setCell (by simp) _
    have kA3 : Kp ((w2.heap.size) :: blk a) A A3 := (k2.mono (T := (w2.heap.size) :: blk a) (fun j hj => .inl (by simp [hj]))).trans k3 (fun j hj => .inl (by simp at hj; simp [hj]))
    have hmem : ∀ j ∈ (w2.heap.size) :: blk a, j = w2.heap.size ∨ w3.heap.size + 2 ≤ j := fun j hj => by
      rcases List.mem_cons.1 hj with e | e
      · exact .inl e
      · exact .inr (hnw j e)
    have hR2 : Recs w3.heap.size A A3 := ⟨kA3.block _ (by omega) (fun hm' => by rcases hmem _ hm' with e | e <;> omega), kA3.block _ (by omega) (fun hm' => by rcases hmem _ hm' with e | e <;> omega)⟩
    have hK2 : KeepC (Gsg q1 q2) A A3 := KeepC.ofKp kA3 (fun y hy hm' => by
      rcases hmem _ hm' with e | e <;> rcases hy with e2 | e2 <;> omega)
    have hJ : SgJ w w2.heap.size w3.heap.size M (s + 1) A3 := by
      refine ⟨a', cp', l ++ [x], ⟨h.kp.trans kA3 (fun j hj => .inr (by rcases hmem _ hj with e | e <;> omega)), bx3, hrow2.kept k3 (fun j hj hm' => ?_), hna', e9.symm⟩⟩
      rw [ownSl] at hj
      simp at hm'
      have := hna' j hj
      omega
    have HF := hid (And.intro hR2 (And.intro hK2 hJ))
    obtain ⟨NL, hNL⟩ : ∃ n, Hid ((l ++ [x]).length = n) := ⟨_, hid rfl⟩
    rw [hNL.out] at hA3 hrun
    have bL0 := h.bL.get 0 _ rfl
    clear h e9 hR2 hK2 hJ hna' kA3 k3 bx3 bx2 hrow2 k2 hmem hnw hnq hbx hob
    gi_wp2_with (first | (refine wpAppRunIn rfl _ _ 33 33 rfl _ _ _ rfl rfl hrun ?_) | fail)
    exact HF.out
  case done =>
    rintro D s X hD hs ⟨a, cp, l, h⟩ hK
    have bq := h.bL.get 0 _ rfl
    have kp : Kp [D] X (X.putObj D (.deferred none)) := ⟨rfl, rfl, rfl, by simp, fun k hk hn => World.putObj_heap_other (by simpa using hn)⟩
    obtain ⟨_, _, e, hsee, _, hcp, _, eo⟩ := h.row.see
    cases e
    have hsee2 : SgE.See (X.putObj D (.deferred none)) a l := by
      rcases hsee with e | ⟨g, o, e, hc⟩
      · exact .inl e
      · refine .inr ⟨g, o, e, fun j u hu => ?_⟩
        have h1 := hc j u hu
        have hne : g ≠ D := fun e2 => by
          subst e2
          unfold World.cell? at h1
          simp [hK] at h1
        exact (kp.cell (p := ⟨g, o + j, none⟩) (World.block_lt_of_cell? _ _ h1) (by simpa using hne)).trans h1
    have hfin : SegP (sgTo M (c.pl.length * M)) w (.returned (.tuple #[.slice a l.length cp, .bool true])) (X.putObj D (.deferred none)) := by
      have e1 : sgTo M (c.pl.length * M) = l := by rw [h.eq, hs]
      rw [e1]
      exact ⟨a, cp, rfl, hsee2, hcp, h.kp.trans kp (fun k hk => .inr (by simp at hk; omega))⟩
    have hH := hid hfin
    clear hfin kp hsee hsee2 h
    go_wp2_with fail
    refine ⟨by simp, .inl ⟨_, _, rfl, run_takeDeferred hK, ?_⟩⟩
    exact ⟨.tuple #[.slice a l.length cp, .bool true], by simp [results, Try.results12, go_sem], hH.out⟩
  case stop =>
    rintro D c s X hD _ h
    exact h.elim
end Go.Proofs.Ytckicbaidbgonaa
end

section
namespace Go.Proofs.Ytckicbaidbgonaa
open Go.RowKit Go.Hay
set_option linter.unusedVariables false
set_option linter.unusedSimpArgs false

theorem nds_ring (c : Cg) (M : Nat) (A B : Nat) (hM : c.s = (M : Int)) (hn : cntd c = true) (h1 : A < c.pl.length) (h2 : B < M) : (ndsC c (A : Int) (B : Int)).Nodup ∧ ((ndsC c (A : Int) (B : Int)).length : Int) = c.k + 1 := by
  have hq := (cntd_iff c).1 hn
  have hl : liesC c (A : Int) (B : Int) = true := by
    unfold liesC wi
    simp only [Bool.and_eq_true, decide_eq_true_eq]
    omega
  have hr : ndsC c (A : Int) (B : Int) = ring ((B : Int) + (c.pl.getD (A : Int).toNat default).sh) c.n (c.k.toNat + 1) := by unfold ndsC; rw [if_pos hl]
  rw [hr, ring_length]
  exact ⟨ring_nodup _ _ _ (by omega), by omega⟩
theorem sgTo_at (M n j : Nat) (x : Nat × Nat) (h : (sgTo M n)[j]? = some x) : x = (j / M, j % M) := by
  unfold sgTo at h
  rw [List.getElem?_map] at h
  obtain ⟨y, h1, h2⟩ := Option.map_eq_some_iff.1 h
  have := List.getElem?_eq_some_iff.1 h1
  obtain ⟨h3, h4⟩ := this
  simp at h4
  subst h4
  exact h2.symm
theorem nodup_take {l : List Int} (h : l.Nodup) (i : Nat) (hi : i < l.length) : l[i] ∉ l.take i := by
  intro hm
  obtain ⟨k, hk, e⟩ := List.mem_iff_getElem.1 hm
  rw [List.length_take] at hk
  rw [List.getElem_take] at e
  have h2 := (List.pairwise_iff_getElem.1 h) k i (by omega) hi (by omega)
  exact h2 e
def liveTo (G : List Int) (N j : Nat) : List Bool := liveL G j ++ List.replicate (N - j) false
theorem liveL_len (G : List Int) (N : Nat) : (liveL G N).length = N := by simp [liveL]
theorem liveTo_len (G : List Int) (N j : Nat) (h : j ≤ N) : (liveTo G N j).length = N := by simp [liveTo, liveL_len]; omega
theorem liveTo_succ (G : List Int) (N j : Nat) (h : j < N) : liveTo G N (j + 1) = (liveTo G N j).set j (!decide ((j : Int) ∈ G)) := by
  have e1 : N - j = (N - (j + 1)) + 1 := by omega
  have e2 : liveL G (j + 1) = liveL G j ++ [!decide ((j : Int) ∈ G)] := by unfold liveL; rw [List.range_succ, List.map_append]; rfl
  unfold liveTo
  rw [e2, List.set_append, if_neg (by rw [liveL_len]; omega), liveL_len, Nat.sub_self, e1, List.replicate_succ, List.set_cons_zero, List.append_assoc]
  rfl
theorem liveTo_all (G : List Int) (N : Nat) : liveTo G N N = liveL G N := by simp [liveTo]
theorem infoBo : ∃ i : TypeInfo, Try.prog.info? 4 = some i ∧ i.zero = some (.bool false) ∧ i.size = 1 ∧ i.bytes = 1 := infI (by kernel_rfl)
set_option maxHeartbeats 16000000 in
set_option maxRecDepth 100000 in
theorem safeWalk (c : Cg) (ga : Option Addr) (gc : Nat) (G : List Int) (w : World) (hc : c.ok w) (hg : IntE.See w ga G) (hgl : G.length ≤ 9223372036854775807) : Calls Try.prog 5 #[c.v, .slice ga G.length gc] w fun e w' => e = .returned (.bool true) ∧ Below w.heap.size w w' := by
  obtain ⟨W, eW, kW, zW, bC⟩ := boxC c w
  have BB := hid bC
  have KW := hid kW
  have HC := hid (hc.kept kW)
  have zW' : w.heap.size < W.heap.size := by omega
  have hF : Hid (∀ W', Kp [] W W' → (W'.cell? ⟨w.heap.size, 0, none⟩ = some (.int .i64 c.n) ∧ W'.cell? ⟨w.heap.size, 1, none⟩ = some (.int .i64 c.s) ∧ W'.cell? ⟨w.heap.size, 2, none⟩ = some (.int .i64 c.k) ∧ W'.cell? ⟨w.heap.size, 3, none⟩ = some (.slice c.ta c.tl.length c.tc) ∧ W'.cell? ⟨w.heap.size, 4, none⟩ = some (.slice c.pa c.pl.length c.pc))) := fun W' k => by
    have h1 := BB.out.kept k
    exact ⟨h1.get 0 _ rfl, h1.get 1 _ rfl, h1.get 2 _ rfl, h1.get 3 _ rfl, h1.get 4 _ rfl⟩
  have aK := hid (rCheck c W HC.out)
  have aA := hid (fun w' => cAlive w')
  obtain ⟨E, hE⟩ : ∃ E, Hid (chkC c = E) := ⟨_, hid rfl⟩
  rw [hE.out] at aK
  have HG := hid (hg.keptNew kW)
  clear hc hg kW bC zW BB
  simp only [Cg.v] at *
  obtain ⟨c0, c1, c2, c3, c4⟩ := hF.out _ (Kp.refl _ _)
  go_enter Try.func5, Try.ntmps5
  go_wp2_with fail
  refine aK.out.mono ?_
  rintro e w1 ⟨rfl, k1⟩
  have K1 := hid k1
  clear k1 aK c0 c1 c2 c3 c4 eW
  obtain ⟨c0, c1, c2, c3, c4⟩ := hF.out _ K1.out
  by_cases h0 : E = 0
  rotate_left
  · have d0 : (E != 0) = true := by simpa using h0
    go_wp2_with fail
    refine (aA.out _).mono ?_
    rintro e w3 ⟨rfl, k3⟩
    have KF := hid ((KW.out.trans K1.out (by simp)).trans k3 (by simp)).below
    clear k3
    go_wp2_with fail
    go_ret
    exact ⟨rfl, KF.out⟩
  have d0 : (E != 0) = false := by simpa using h0
  have hok := chk_ok (hE.out.trans h0)
  obtain ⟨hn, _, _, hp8, hsh, _⟩ := hok
  have hN := (cntd_iff c).1 hn
  obtain ⟨M, hM⟩ : ∃ M : Nat, c.s = (M : Int) := ⟨c.s.toNat, by omega⟩
  have aS := hid (fun w' => cSegs c M w' hM hn hp8)
  have aN := hid (fun (A B : Int) w' (k : Kp [] W w') => cNodes c A B w' (HC.out.kept k) hn hsh)
  have aI := hid (fun (x : Int) w' (k : Kp [] W w') => rIn ga gc G x w' (HG.out.keptNew k) hgl)
  have aV := hid (fun va vc V w' (k : Kp [] W w') (h : BoE.See w' va V) => cCoveredC c va vc V M w' hM (HC.out.kept k) h hn hsh)
  simp only [Cg.v] at aS aN aV
  have hsm : Hid (c.pl.length * M ≤ 64) := by have h1 : c.pl.length * M ≤ 8 * 8 := Nat.mul_le_mul hp8 (by omega); exact hid (by omega)
  have hsg := hid (sgTo_len M (c.pl.length * M))
  have hM0 : 0 < M := by omega
  have hnr := hid (fun A B h1 h2 => nds_ring c M A B hM hn h1 h2)
  have hnp := hid (fun A B => nds_pos (P := A) (S := B) hn)
  obtain ⟨N, hNn⟩ : ∃ N : Nat, c.n = (N : Int) := ⟨c.n.toNat, by omega⟩
  have hcs := hid (fun ha => cvd_safe c G M N hM hNn hn ha)
  have hN8 : N ≤ 8 := by omega
  have hN1 : 1 ≤ N := by omega
  have hk0 : 0 ≤ c.k := by omega
  have hk8 : c.k ≤ 8 := by omega
  have HNn := hid hNn
  have hsa := hid (fun j x h => sgTo_at M (c.pl.length * M) j x h)
  clear hn hsh hN hM h0 hE hNn
  go_wp2_with fail
  refine (aS.out _).mono ?_
  rintro e w2 ⟨sa, sc, rfl, hss, hsc, k2⟩
  have K2 := hid (K1.out.trans k2 (by simp))
  have HSS := hid hss
  clear k2 hss hsc aS c0 c1 c2 c3 c4 K1
  obtain ⟨SL, hSL⟩ : ∃ l, sgTo M (c.pl.length * M) = l := ⟨_, rfl⟩
  rw [hSL] at HSS hsg
  simp only [hSL] at hsa
  rw [hSL]
  clear hSL
  go_wp2_with fail
  go_loopw [27] (fun nv wr => ∃ j : Nat, j ≤ SL.length ∧ nv = .int .i64 (j : Int) ∧ Hid (Kp [] W wr ∧ SgE.See wr sa SL)) (fun nv _ => SL.length - (intOf nv).toNat)
  case atStart => exact ⟨0, Nat.zero_le _, rfl, hid ⟨K2.out, HSS.out⟩⟩
  case round =>
    obtain ⟨j, hj, rfl, kr⟩ := hrel
    clear K2 HSS
    obtain ⟨c0, c1, c2, c3, c4⟩ := hF.out _ kr.out.1
    by_cases hjl : j < SL.length
    · have hx : SL[j]? = some SL[j] := by simp [hjl]
      obtain ⟨g, o, eg, x0, x1⟩ := sgAt2 kr.out.2 hx
      have i1 : (0 : Int) ≤ (j : Int) := by omega
      have i2 : (j : Int) < (SL.length : Int) := by omega
      have i3 : (j : Int) + 1 ≤ 9223372036854775807 := by have := hsg.out; have := hsm.out; omega
      have hxe := hsa.out j _ hx
      have hA : SL[j].1 < c.pl.length := by
        rw [hxe]
        have h1 := hsg.out
        exact (Nat.div_lt_iff_lt_mul hM0).2 (by omega)
      have hB : SL[j].2 < M := by rw [hxe]; exact Nat.mod_lt _ hM0
      clear hx hxe
      generalize SL[j] = x at *
      obtain ⟨WA, eWA⟩ : ∃ Y, wr.alloc (.cells #[.int .i64 0, .int .i64 0] 31) = Y := ⟨_, rfl⟩
      have kWA : Kp [] wr WA := by rw [← eWA]; exact (Kp.refl _ _).alloc _
      have zWA : WA.heap.size = wr.heap.size + 1 := by rw [← eWA]; simp
      have xWA : Bn WA (wr.heap.size) [.int .i64 0, .int .i64 0] := by rw [← eWA]; exact Bn.new wr [.int .i64 0, .int .i64 0] 31
      obtain ⟨WB, eWB⟩ : ∃ Y, ((WA.setCell ⟨wr.heap.size, 0, none⟩ (.int .i64 (x.1 : Int))).setCell ⟨wr.heap.size, 1, none⟩ (.int .i64 (x.2 : Int))) = Y := ⟨_, rfl⟩
      have kWB : Kp [wr.heap.size] WA WB := by rw [← eWB]; exact (((Kp.refl _ _).setCell (by simp) _).setCell (by simp) _)
      have xWB : Bn WB (wr.heap.size) [.int .i64 (x.1 : Int), .int .i64 (x.2 : Int)] := by rw [← eWB]; exact ((xWA.set 0 (by simp) (.int .i64 (x.1 : Int))).set 1 (by simp) (.int .i64 (x.2 : Int)))
      have zWB := kWB.size
      have ma0 := xWA.get 0 _ rfl; have ma1 := xWA.get 1 _ rfl
      have mf0 := xWA.free 0; have mf1 := xWA.free 1
      have pc0 := xWB.get 0 _ rfl; have pc1 := xWB.get 1 _ rfl
      have kB : Kp [] wr WB := kWA.trans kWB (fun x hx => .inr (by simp at hx; omega))
      have KB := hid (kr.out.1.trans kB (by simp))
      have SB := hid (kr.out.2.keptNew kB)
      obtain ⟨b0, b1, b2, b3, b4⟩ := hF.out _ KB.out
      obtain ⟨hnd, hnl⟩ := hnr.out x.1 x.2 hA hB
      have hps := hid (hnp.out (x.1 : Int) (x.2 : Int))
      have aN2 := hid (aN.out (x.1 : Int) (x.2 : Int) WB KB.out)
      obtain ⟨NL, hNL⟩ : ∃ l, ndsC c (x.1 : Int) (x.2 : Int) = l := ⟨_, rfl⟩
      rw [hNL] at hnd hnl hps aN2
      have HND := hid hnd
      have hz1 : wr.heap.size < WB.heap.size := by omega
      have hz2 : w.heap.size < WB.heap.size := by have := KB.out.size; omega
      obtain ⟨X1, X2⟩ := x
      simp only at *
      have hnl2 : Hid ((NL.length : Int) = c.k + 1) := hid hnl
      have hne : ((NL.length : Int) != c.k + 1) = false := by simpa using hnl
      have hw1 : (-9223372036854775808 : Int) ≤ c.k + 1 := by omega
      have hw2 : c.k + 1 ≤ 9223372036854775807 := by omega
      have hNLl : NL.length ≤ 9 := by omega
      subst eg
      clear hNL hnd hnl kWA kWB xWA xWB kB zWA zWB hA hB
      go_wp2_with fail
      refine aN2.out.mono ?_
      rintro e w3 ⟨na, nc, rfl, hns, hnc, hn8, k3⟩
      have K3 := hid (KB.out.trans k3 (by simp))
      have S3 := hid (SB.out.keptNew k3)
      have HNS := hid hns
      clear k3 hns aN2 b0 b1 b2 b3 b4 c0 c1 c2 c3 c4 x0 x1 eWA eWB ma0 ma1 mf0 mf1 pc0 pc1 KB SB kr
      go_wp2_with fail
      go_loopw [36] (fun iv wn => ∃ i : Nat, i ≤ NL.length ∧ iv = .int .i64 (i : Int) ∧ Kp [] w3 wn) (fun iv _ => NL.length - (intOf iv).toNat)
      case atStart => exact ⟨0, Nat.zero_le _, rfl, Kp.refl _ _⟩
      case round =>
        obtain ⟨i, hi, rfl, kn⟩ := hrel
        by_cases hil : i < NL.length
        · obtain ⟨g, o, eg, y0⟩ := intAt (HNS.out.keptNew kn) i hil
          have hpy := hps.out _ (List.getElem_mem hil)
          have hnt := nodup_take HND.out i hil
          have aIn := hid (fun w' (k : Kp [] wr w') => rIn na nc (NL.take i) NL[i] w' (((HNS.out.keptNew kn).keptNew k).front i) (by rw [List.length_take]; omega))
          rw [decide_eq_false hnt, show (NL.take i).length = i by rw [List.length_take]; omega] at aIn
          have i1 : (0 : Int) ≤ (i : Int) := by omega
          have i2 : (i : Int) < (NL.length : Int) := by omega
          have i3 : (i : Int) + 1 ≤ 9223372036854775807 := by omega
          have i4 : (i : Int) ≤ (nc : Int) := by omega
          have i5 : i ≤ nc := by omega
          clear hnt
          generalize NL[i] = y at *
          have d1 : decide (y < 0) = false := by simpa using hpy.1
          have d2 : decide (c.n ≤ y) = false := by simpa using hpy.2
          have hF2 : Hid (∀ W', Kp [] wr W' → (W'.cell? ⟨g, o + i, none⟩ = some (.int .i64 y) ∧ W'.cell? ⟨w.heap.size, 0, none⟩ = some (.int .i64 c.n))) := fun W' k => ⟨kpAt k y0, (hF.out _ ((K3.out.trans kn (by simp)).trans k (by simp))).1⟩
          have KN := hid kn
          subst eg
          clear hpy y0 kn
          go_wp2_with fail
          refine wp_region_held_drew (S := fun W' => W'.cell? ⟨g, o + i, none⟩ = some (.int .i64 y) ∧ W'.cell? ⟨w.heap.size, 0, none⟩ = some (.int .i64 c.n)) (by kernel_rfl) ?_ (fun hHeld => ?_)
          · exact hF2.out _ (Kp.refl [] wr).drew
          have KD : Hid (Kp [] wr wr.drew) := hid (Kp.refl [] wr).drew
          generalize wr.drew = Wd at *
          refine wpAnyH_take (i := 0) (v := ?_) rfl (by kernel_rfl) (by kernel_rfl) (by kernel_rfl) (fun _ _ _ h => h) (Or.inl ⟨by rfl, ?_⟩) (by assumption) ?_
          rotate_left
          · intro w hSw; (try dsimp only at hSw); go_simp <;> with_reducible rfl
          try simp only [Act.put, List.getElem_toArray, List.getElem_cons_zero, List.getElem_cons_succ, List.setIfInBounds_toArray, List.set_cons_zero, List.set_cons_succ]
          refine wpAnyH_take (i := 1) (v := ?_) rfl (by kernel_rfl) (by kernel_rfl) (by kernel_rfl) (fun _ _ _ h => h) (Or.inl ⟨by rfl, ?_⟩) (by assumption) ?_
          rotate_left
          · intro w hSw; (try dsimp only at hSw); go_simp <;> with_reducible rfl
          try simp only [Act.put, List.getElem_toArray, List.getElem_cons_zero, List.getElem_cons_succ, List.setIfInBounds_toArray, List.set_cons_zero, List.set_cons_succ]
          refine wpAnyH_take (i := 2) (v := ?_) rfl (by kernel_rfl) (by kernel_rfl) (by kernel_rfl) (fun _ _ _ h => h) (Or.inl ⟨by rfl, ?_⟩) (by assumption) ?_
          rotate_left
          · intro w hSw; (try dsimp only at hSw); go_simp <;> with_reducible rfl
          try simp only [Act.put, List.getElem_toArray, List.getElem_cons_zero, List.getElem_cons_succ, List.setIfInBounds_toArray, List.set_cons_zero, List.set_cons_succ]
          refine wpAnyH_take (i := 3) (v := ?_) rfl (by kernel_rfl) (by kernel_rfl) (by kernel_rfl) (fun _ _ _ h => h) (Or.inl ⟨by rfl, ?_⟩) (by assumption) ?_
          rotate_left
          · intro w hSw; (try dsimp only at hSw); go_simp <;> with_reducible rfl
          try simp only [Act.put, List.getElem_toArray, List.getElem_cons_zero, List.getElem_cons_succ, List.setIfInBounds_toArray, List.set_cons_zero, List.set_cons_succ]
          refine wpAnyH_take (i := 4) (v := ?_) rfl (by kernel_rfl) (by kernel_rfl) (by kernel_rfl) (fun _ _ _ h => h) (Or.inl ⟨by rfl, ?_⟩) (by assumption) ?_
          rotate_left
          · intro w hSw; (try dsimp only at hSw); go_simp <;> with_reducible rfl
          try simp only [Act.put, List.getElem_toArray, List.getElem_cons_zero, List.getElem_cons_succ, List.setIfInBounds_toArray, List.set_cons_zero, List.set_cons_succ]
          refine wpAnyH_take (i := 5) (v := ?_) rfl (by kernel_rfl) (by kernel_rfl) (by kernel_rfl) (fun _ _ _ h => h) (Or.inl ⟨by rfl, ?_⟩) (by assumption) ?_
          rotate_left
          · intro w hSw; (try dsimp only at hSw); go_simp <;> with_reducible rfl
          try simp only [Act.put, List.getElem_toArray, List.getElem_cons_zero, List.getElem_cons_succ, List.setIfInBounds_toArray, List.set_cons_zero, List.set_cons_succ]
          refine wpAnyH_take (i := 6) (v := ?_) rfl (by kernel_rfl) (by kernel_rfl) (by kernel_rfl) (fun _ _ _ h => h) (Or.inl ⟨by rfl, ?_⟩) (by assumption) ?_
          rotate_left
          · intro w hSw; (try dsimp only at hSw); go_simp <;> with_reducible rfl
          try simp only [Act.put, List.getElem_toArray, List.getElem_cons_zero, List.getElem_cons_succ, List.setIfInBounds_toArray, List.set_cons_zero, List.set_cons_succ]
          refine wpAnyH_take (i := 7) (v := ?_) rfl (by kernel_rfl) (by kernel_rfl) (by kernel_rfl) (fun _ _ _ h => h) (Or.inl ⟨by rfl, ?_⟩) (by assumption) ?_
          rotate_left
          · intro w hSw; (try dsimp only at hSw); go_simp <;> with_reducible rfl
          try simp only [Act.put, List.getElem_toArray, List.getElem_cons_zero, List.getElem_cons_succ, List.setIfInBounds_toArray, List.set_cons_zero, List.set_cons_succ]
          refine wpAnyH_take (i := 8) (v := ?_) rfl (by kernel_rfl) (by kernel_rfl) (by kernel_rfl) (fun _ _ _ h => h) (Or.inl ⟨by rfl, ?_⟩) (by assumption) ?_
          rotate_left
          · intro w hSw; (try dsimp only at hSw); go_simp <;> with_reducible rfl
          try simp only [Act.put, List.getElem_toArray, List.getElem_cons_zero, List.getElem_cons_succ, List.setIfInBounds_toArray, List.set_cons_zero, List.set_cons_succ]
          refine wpAnyH_take (i := 9) (v := ?_) rfl (by kernel_rfl) (by kernel_rfl) (by kernel_rfl) (fun _ _ _ h => h) (Or.inl ⟨by rfl, ?_⟩) (by assumption) ?_
          rotate_left
          · intro w hSw; (try dsimp only at hSw); go_simp <;> with_reducible rfl
          try simp only [Act.put, List.getElem_toArray, List.getElem_cons_zero, List.getElem_cons_succ, List.setIfInBounds_toArray, List.set_cons_zero, List.set_cons_succ]
          refine wpAnyH_take (i := 10) (v := ?_) rfl (by kernel_rfl) (by kernel_rfl) (by kernel_rfl) (fun _ _ _ h => h) (Or.inl ⟨by rfl, ?_⟩) (by assumption) ?_
          rotate_left
          · intro w hSw; (try dsimp only at hSw); go_simp <;> with_reducible rfl
          try simp only [Act.put, List.getElem_toArray, List.getElem_cons_zero, List.getElem_cons_succ, List.setIfInBounds_toArray, List.set_cons_zero, List.set_cons_succ]
          refine wpAnyH_take (i := 11) (v := ?_) rfl (by kernel_rfl) (by kernel_rfl) (by kernel_rfl) (fun _ _ _ h => h) (Or.inl ⟨by rfl, ?_⟩) (by assumption) ?_
          rotate_left
          · intro w hSw; (try dsimp only at hSw); go_simp <;> with_reducible rfl
          try simp only [Act.put, List.getElem_toArray, List.getElem_cons_zero, List.getElem_cons_succ, List.setIfInBounds_toArray, List.set_cons_zero, List.set_cons_succ]
          refine wpAnyH_take (i := 12) (v := ?_) rfl (by kernel_rfl) (by kernel_rfl) (by kernel_rfl) (fun _ _ _ h => h) (Or.inl ⟨by rfl, ?_⟩) (by assumption) ?_
          rotate_left
          · intro w hSw; (try dsimp only at hSw); go_simp <;> with_reducible rfl
          try simp only [Act.put, List.getElem_toArray, List.getElem_cons_zero, List.getElem_cons_succ, List.setIfInBounds_toArray, List.set_cons_zero, List.set_cons_succ]
          refine wpAnyH_take (i := 13) (v := ?_) rfl (by kernel_rfl) (by kernel_rfl) (by kernel_rfl) (fun _ _ _ h => h) (Or.inl ⟨by rfl, ?_⟩) (by assumption) ?_
          rotate_left
          · intro w hSw; (try dsimp only at hSw); go_simp <;> with_reducible rfl
          try simp only [Act.put, List.getElem_toArray, List.getElem_cons_zero, List.getElem_cons_succ, List.setIfInBounds_toArray, List.set_cons_zero, List.set_cons_succ]
          refine wpAnyH_take (i := 14) (v := ?_) rfl (by kernel_rfl) (by kernel_rfl) (by kernel_rfl) (fun _ _ _ h => h) (Or.inl ⟨by rfl, ?_⟩) (by assumption) ?_
          rotate_left
          · intro w hSw; (try dsimp only at hSw); go_simp <;> with_reducible rfl
          try simp only [Act.put, List.getElem_toArray, List.getElem_cons_zero, List.getElem_cons_succ, List.setIfInBounds_toArray, List.set_cons_zero, List.set_cons_succ]
          refine wpAnyH_take (i := 15) (v := ?_) rfl (by kernel_rfl) (by kernel_rfl) (by kernel_rfl) (fun _ _ _ h => h) (Or.inl ⟨by rfl, ?_⟩) (by assumption) ?_
          rotate_left
          · intro w hSw; (try dsimp only at hSw); go_simp <;> with_reducible rfl
          try simp only [Act.put, List.getElem_toArray, List.getElem_cons_zero, List.getElem_cons_succ, List.setIfInBounds_toArray, List.set_cons_zero, List.set_cons_succ]
          refine wpAnyH_take (i := 16) (v := ?_) rfl (by kernel_rfl) (by kernel_rfl) (by kernel_rfl) (fun _ _ _ h => h) (Or.inl ⟨by rfl, ?_⟩) (by assumption) ?_
          rotate_left
          · intro w hSw; (try dsimp only at hSw); go_simp <;> with_reducible rfl
          try simp only [Act.put, List.getElem_toArray, List.getElem_cons_zero, List.getElem_cons_succ, List.setIfInBounds_toArray, List.set_cons_zero, List.set_cons_succ]
          refine wpAnyH_take (i := 17) (v := ?_) rfl (by kernel_rfl) (by kernel_rfl) (by kernel_rfl) (fun _ _ _ h => h) (Or.inl ⟨by rfl, ?_⟩) (by assumption) ?_
          rotate_left
          · intro w hSw; (try dsimp only at hSw); go_simp <;> with_reducible rfl
          try simp only [Act.put, List.getElem_toArray, List.getElem_cons_zero, List.getElem_cons_succ, List.setIfInBounds_toArray, List.set_cons_zero, List.set_cons_succ]
          refine wpAnyH_take (i := 18) (v := ?_) rfl (by kernel_rfl) (by kernel_rfl) (by kernel_rfl) (fun _ _ _ h => h) (Or.inl ⟨by rfl, ?_⟩) (by assumption) ?_
          rotate_left
          · intro w hSw; (try dsimp only at hSw); go_simp <;> with_reducible rfl
          try simp only [Act.put, List.getElem_toArray, List.getElem_cons_zero, List.getElem_cons_succ, List.setIfInBounds_toArray, List.set_cons_zero, List.set_cons_succ]
          refine wpAnyH_take (i := 19) (v := ?_) rfl (by kernel_rfl) (by kernel_rfl) (by kernel_rfl) (fun _ _ _ h => h) (Or.inl ⟨by rfl, ?_⟩) (by assumption) ?_
          rotate_left
          · intro w hSw; (try dsimp only at hSw); go_simp <;> with_reducible rfl
          try simp only [Act.put, List.getElem_toArray, List.getElem_cons_zero, List.getElem_cons_succ, List.setIfInBounds_toArray, List.set_cons_zero, List.set_cons_succ]
          refine wpAnyH_take (i := 20) (v := ?_) rfl (by kernel_rfl) (by kernel_rfl) (by kernel_rfl) (fun _ _ _ h => h) (Or.inl ⟨by rfl, ?_⟩) (by assumption) ?_
          rotate_left
          · intro w hSw; (try dsimp only at hSw); go_simp <;> with_reducible rfl
          try simp only [Act.put, List.getElem_toArray, List.getElem_cons_zero, List.getElem_cons_succ, List.setIfInBounds_toArray, List.set_cons_zero, List.set_cons_succ]
          refine wpAnyH_take (i := 21) (v := ?_) rfl (by kernel_rfl) (by kernel_rfl) (by kernel_rfl) (fun _ _ _ h => h) (Or.inl ⟨by rfl, ?_⟩) (by assumption) ?_
          rotate_left
          · intro w hSw; (try dsimp only at hSw); go_simp <;> with_reducible rfl
          try simp only [Act.put, List.getElem_toArray, List.getElem_cons_zero, List.getElem_cons_succ, List.setIfInBounds_toArray, List.set_cons_zero, List.set_cons_succ]
          refine wpAnyH_ready (rs := [22]) (by kernel_rfl) (by simp) ?_
          refine AllReadyH.cons rfl (fun K hK => ?_) AllReadyH.nil
          go_simp
          refine (aIn.out Wd KD.out).mono ?_
          rintro e u1 ⟨rfl, l1⟩
          (try go_wp2_with fail)
          refine hK.out _ _ ?_ (fun hHeld => ?_)
          · exact hF2.out _ (KD.out.trans l1 (by simp))
          clear hK K
          try simp only [Act.put, List.getElem_toArray, List.getElem_cons_zero, List.getElem_cons_succ, List.setIfInBounds_toArray, List.set_cons_zero, List.set_cons_succ]
          have L1 := hid (KN.out.trans (KD.out.trans l1 (by simp)) (by simp))
          clear l1
          refine wpAnyH_take (i := 23) (v := ?_) rfl (by kernel_rfl) (by kernel_rfl) (by kernel_rfl) (fun _ _ _ h => h) (Or.inl ⟨by rfl, ?_⟩) (by assumption) ?_
          rotate_left
          · intro w hSw; (try dsimp only at hSw); go_simp <;> with_reducible rfl
          try simp only [Act.put, List.getElem_toArray, List.getElem_cons_zero, List.getElem_cons_succ, List.setIfInBounds_toArray, List.set_cons_zero, List.set_cons_succ]
          refine wpAnyH_done (by kernel_rfl) ?_ _
          clear hHeld hF2 aIn KD
          go_wp2_with fail
          exact ⟨⟨i + 1, by omega, by go_num, L1.out⟩, by simp [intOf]; omega⟩
        · have e : i = NL.length := by omega
          subst e
          obtain ⟨c0, c1, c2, c3, c4⟩ := hF.out _ (K3.out.trans kn (by simp))
          have H3 := hid (And.intro (K3.out.trans kn (by simp)) (S3.out.keptNew kn))
          clear kn
          go_wp2_with fail
          exact ⟨⟨j + 1, by omega, by go_num, H3⟩, by simp [intOf]; omega⟩
    · have e : j = SL.length := by omega
      subst e
      rw [HNn.out] at c0
      obtain ⟨i0, hi, hz0, hz1, hz2⟩ := infoBo
      obtain ⟨W3, hmk, hrow3, k3, hs3⟩ := run_makeG (E := BoE) (P := Try.prog) wr 32 4 i0 (.bool false) false 1 Try.underlying32 hi hz0 hz1 hz2 rfl .i64 .i64 N (by omega) (by unfold maxLen; omega)
      have hrw0 : Hid (BoE.Row W3 (.slice (some ⟨wr.heap.size, 0, none⟩) N N) (liveTo G N 0)) := hid (by simpa [liveTo, liveL] using hrow3)
      have K3 := hid (kr.out.1.trans k3 (by simp))
      have hz23 := hid kr.out.1.size
      clear hi hz0 hz1 hz2 hrow3 k3 hs3 aN hnr hnp hsa hsg
      go_wp2_with fail
      clear hmk c0 c1 c2 c3 c4
      obtain ⟨q, hq⟩ : ∃ q, wr.heap.size = q := ⟨_, rfl⟩
      rw [hq] at hrw0 hz23
      rw [hq]
      clear hq kr
      go_loopw [12, 76] (fun av iv wn => ∃ (j A : Nat), j ≤ N ∧ iv = .int .i64 (j : Int) ∧ av = .int .i64 (A : Int) ∧ Hid (A = awayTo G j) ∧ Hid (BoE.Row wn (.slice (some ⟨q, 0, none⟩) N N) (liveTo G N j)) ∧ Hid (Kp [] W wn)) (fun _ iv _ => N - (intOf iv).toNat)
      case atStart => exact ⟨0, 0, Nat.zero_le _, rfl, rfl, hid rfl, hrw0, K3⟩
      case round =>
        obtain ⟨j, A, hj, rfl, rfl, hA, hrow, kn⟩ := hrel
        clear hrw0 K3
        by_cases hlt : j < N
        · have hAl : A ≤ 8 := by rw [hA.out]; have := awayTo_le G j; omega
          have hAs := hid (awayTo_succ G j)
          rw [← hA.out] at hAs
          have aI2 := hid (aI.out (j : Int) wr kn.out)
          have hsu := hid (liveTo_succ G N j hlt)
          have i1 : (0 : Int) ≤ (j : Int) := by omega
          have i2 : (j : Int) < (N : Int) := by omega
          have i3 : (j : Int) + 1 ≤ 9223372036854775807 := by omega
          have i4 : (A : Int) + 1 ≤ 9223372036854775807 := by omega
          go_wp2_with fail
          refine aI2.out.mono ?_
          rintro e u1 ⟨rfl, l1⟩
          have R1 := hid (hrow.out.keptNew l1)
          have K1 := hid (kn.out.trans l1 (by simp))
          have hcf : (∃ u, u1.cell? ⟨q, j, none⟩ = some u) ∧ u1.frozen? ⟨q, j, none⟩ = false := by
            rcases R1.out with ⟨e, _⟩ | ⟨g', o', c', e, r1, r2, r3, r4, r5⟩
            · cases e
            · injection e with e1 e2 e3
              injection e1 with e1
              injection e1 with e4 e5
              subst e3 e4 e5
              have := r5 j (by show j < N * 1; omega)
              rw [Nat.zero_add] at this
              exact ⟨Option.isSome_iff_exists.1 this.1, this.2⟩
          obtain ⟨⟨u, hu⟩, hf⟩ := hcf
          have zq : q < u1.heap.size := World.block_lt_of_cell? _ _ hu
          clear l1 aI2 hrow kn
          by_cases hin : (j : Int) ∈ G
          · have hput := R1.out.setAt j (by rw [liveTo_len _ _ _ hj]; exact hlt) false
            have hsu2 : Hid ((liveTo G N j).set j false = liveTo G N (j + 1)) := hid (by rw [hsu.out]; simp [hin])
            have hA2 : Hid (A + 1 = awayTo G (j + 1)) := hid (by rw [hAs.out, if_pos hin])
            rw [hsu2.out] at hput
            rw [decide_eq_true hin]
            obtain ⟨W5, hW5⟩ : ∃ Y, u1.setCell ⟨q, j, none⟩ (.bool false) = Y := ⟨_, rfl⟩
            have eW : Hid (u1.setCells q (0 + j * BoE.n) (BoE.c false) = u1.setCell ⟨q, j, none⟩ (.bool false)) := by
              show _ = _
              have : BoE.n = 1 := rfl
              rw [this]
              simp [BoE, World.setCells]
            rw [eW.out, hW5] at hput
            have c5 : W5.cell? ⟨q, j, none⟩ = some (.bool false) := by rw [← hW5]; exact World.cell?_setCell_same _ _ _ hu
            have kf : Hid (Kp [] W W5) := hid (by rw [← hW5]; exact K1.out.setCell (p := ⟨q, j, none⟩) (.inr (by simpa using hz23.out)) _)
            have HP := hid hput
            clear hput eW hsu hsu2 hAs R1 K1 hin
            go_wp2_with fail
            exact ⟨⟨j + 1, A + 1, by omega, by go_num, by go_num, hA2, HP, kf⟩, by simp [intOf]; omega⟩
          · have hput := R1.out.setAt j (by rw [liveTo_len _ _ _ hj]; exact hlt) true
            have hsu2 : Hid ((liveTo G N j).set j true = liveTo G N (j + 1)) := hid (by rw [hsu.out]; simp [hin])
            have hA2 : Hid (A = awayTo G (j + 1)) := hid (by rw [hAs.out, if_neg hin]; rfl)
            rw [hsu2.out] at hput
            rw [decide_eq_false hin]
            obtain ⟨W5, hW5⟩ : ∃ Y, u1.setCell ⟨q, j, none⟩ (.bool true) = Y := ⟨_, rfl⟩
            have eW : Hid (u1.setCells q (0 + j * BoE.n) (BoE.c true) = u1.setCell ⟨q, j, none⟩ (.bool true)) := by
              show _ = _
              have : BoE.n = 1 := rfl
              rw [this]
              simp [BoE, World.setCells]
            rw [eW.out, hW5] at hput
            have c5 : W5.cell? ⟨q, j, none⟩ = some (.bool true) := by rw [← hW5]; exact World.cell?_setCell_same _ _ _ hu
            have kf : Hid (Kp [] W W5) := hid (by rw [← hW5]; exact K1.out.setCell (p := ⟨q, j, none⟩) (.inr (by simpa using hz23.out)) _)
            have HP := hid hput
            clear hput eW hsu hsu2 hAs R1 K1 hin
            go_wp2_with fail
            exact ⟨⟨j + 1, A, by omega, by go_num, rfl, hA2, HP, kf⟩, by simp [intOf]; omega⟩
        · have e : j = N := by omega
          subst e
          rw [liveTo_all] at hrow
          have hlen := liveL_len G j
          have hsee : BoE.See wr (some ⟨q, 0, none⟩) (liveL G j) := by
            obtain ⟨_, _, e, h, _⟩ := hrow.out.see
            rw [(Value.slice.inj e).1]
            exact h
          have HSee := hid hsee
          clear hsee hrow
          go_wp2_with fail
          refine (aA.out _).mono ?_
          rintro e u1 ⟨rfl, l1⟩
          have K1 := hid (kn.out.trans l1 (by simp))
          have S1 := hid (HSee.out.keptNew l1)
          clear l1 kn HSee
          obtain ⟨c0, c1, c2, c3, c4⟩ := hF.out _ K1.out
          by_cases hgt : c.k < (A : Int)
          · have d1 : decide (c.k < (A : Int)) = true := by simpa using hgt
            go_wp2_with fail
            go_ret
            exact ⟨rfl, (KW.out.trans K1.out (by simp)).below⟩
          · have d1 : decide (c.k < (A : Int)) = false := by simpa using hgt
            have hq := hcs.out (by rw [← hA.out]; omega)
            have aV2 := hid (aV.out (some ⟨q, 0, none⟩) j (liveL G j) u1 K1.out S1.out)
            rw [hq, hlen] at aV2
            clear hq hlen hgt
            go_wp2_with fail
            refine aV2.out.mono ?_
            rintro e u2 ⟨rfl, l2⟩
            have K2 := hid (K1.out.trans l2 (by simp))
            clear l2
            go_wp2_with fail
            go_ret
            exact ⟨rfl, (KW.out.trans K2.out (by simp)).below⟩
end Go.Proofs.Ytckicbaidbgonaa
end

section
namespace Go.Proofs.Ytckicbaidbgonaa
open Go.RowKit Go.Hay
set_option linter.unusedVariables false
set_option linter.unusedSimpArgs false

theorem sum_add {α : Type} (f g : α → Nat) : ∀ l : List α, (l.map fun x => f x + g x).sum = (l.map f).sum + (l.map g).sum
  | [] => rfl
  | x :: l => by
    have ih := sum_add f g l
    simp only [List.map_cons, List.sum_cons]
    omega
theorem sum_if {α : Type} (p : α → Bool) : ∀ l : List α, (l.map fun x => if p x = true then 1 else 0).sum = (l.filter p).length
  | [] => rfl
  | x :: l => by
    have ih := sum_if p l
    simp only [List.map_cons, List.sum_cons, List.filter_cons]
    cases h : p x with
    | true => simp; omega
    | false => simp; omega
/-- Sums turned round. -/
theorem sum_swap {α : Type} (S : List α) (p : Nat → α → Bool) : ∀ L : List Nat, (L.map fun i => (S.filter (p i)).length).sum = (S.map fun x => (L.filter fun i => p i x).length).sum
  | [] => by
    have : ∀ S : List α, (S.map fun _ => 0).sum = 0 := fun S => by induction S with
      | nil => rfl
      | cons x S ih => simp only [List.map_cons, List.sum_cons, ih]
    simpa using (this S).symm
  | i :: L => by
    have ih := sum_swap S p L
    rw [List.map_cons, List.sum_cons, ih, ← sum_if (p i) S, ← sum_add]
    congr 1
    apply List.map_congr_left
    intro x _
    rw [List.filter_cons]
    cases h : p i x with
    | true => simp; omega
    | false => simp
/-- So many of the first nodes are among unlike ones that are all of them. -/
theorem away_all (L : List Int) (N : Nat) (hn : L.Nodup) (hb : ∀ y ∈ L, 0 ≤ y ∧ y < (N : Int)) : awayTo L N = L.length := by
  apply Nat.le_antisymm
  · unfold awayTo
    have h2 : (((List.range N).filter fun (i : Nat) => decide ((i : Int) ∈ L)).map fun (i : Nat) => (i : Int)).Nodup := by
      unfold List.Nodup
      rw [List.pairwise_map]
      refine List.Pairwise.imp_of_mem (R := fun a b => a ≠ b) (fun {a b} _ _ hab e => hab (by omega)) ?_
      exact List.Pairwise.filter _ List.nodup_range
    have h := nodup_le _ L h2 (fun y hy => by
      obtain ⟨z, hz, rfl⟩ := List.mem_map.1 hy
      simpa using (List.mem_filter.1 hz).2)
    rwa [List.length_map] at h
  · apply Nat.le_of_not_lt
    intro h
    obtain ⟨y, hy, hg⟩ := one_lives L L N hn hb h
    exact hg hy
/-- The copies of the first nodes. -/
def cpTo (c : Cg) (M j : Nat) : Nat := ((List.range j).map fun (i : Nat) => (ofC c M (i : Int)).length).sum
theorem cpTo_succ (c : Cg) (M j : Nat) : cpTo c M (j + 1) = cpTo c M j + (ofC c M (j : Int)).length := by
  unfold cpTo
  rw [List.range_succ, List.map_append, List.sum_append]
  simp
theorem ofC_sg (c : Cg) (M : Nat) (node : Int) : ofC c M node = (sgTo M (c.pl.length * M)).filter fun x => decide (node ∈ ndsC c x.1 x.2) := rfl
theorem cp_all (c : Cg) (M N : Nat) (hM : c.s = (M : Int)) (hN : c.n = (N : Int)) (hn : cntd c = true) : (cpTo c M N : Int) = (c.pl.length : Int) * (M : Int) * (c.k + 1) := by
  have hq := (cntd_iff c).1 hn
  have hM0 : 0 < M := by omega
  obtain ⟨K, hK⟩ := Int.eq_ofNat_of_zero_le (show 0 ≤ c.k + 1 by omega)
  unfold cpTo
  simp only [ofC_sg]
  rw [sum_swap (sgTo M (c.pl.length * M)) (fun i x => decide ((i : Int) ∈ ndsC c x.1 x.2)) (List.range N)]
  have h1 : (sgTo M (c.pl.length * M)).map (fun x => ((List.range N).filter fun (i : Nat) => decide ((i : Int) ∈ ndsC c x.1 x.2)).length) = (sgTo M (c.pl.length * M)).map fun _ => K := by
    apply List.map_congr_left
    intro x hx
    obtain ⟨j, hj⟩ := List.getElem?_of_mem hx
    have e := sgTo_at M _ j x hj
    have hjl := (List.getElem?_eq_some_iff.1 hj).1
    rw [sgTo_len] at hjl
    have hA : x.1 < c.pl.length := by rw [e]; exact (Nat.div_lt_iff_lt_mul hM0).2 hjl
    have hB : x.2 < M := by rw [e]; exact Nat.mod_lt _ hM0
    obtain ⟨hnd, hl⟩ := nds_ring c M x.1 x.2 hM hn hA hB
    have h2 := away_all _ N hnd (fun y hy => by have := nds_pos hn y hy; omega)
    unfold awayTo at h2
    rw [h2]
    omega
  rw [h1, hK]
  have h3 : ∀ S : List (Nat × Nat), (S.map fun _ => K).sum = S.length * K := fun S => by induction S with
    | nil => simp
    | cons x S ih => rw [List.map_cons, List.sum_cons, ih, List.length_cons, Nat.succ_mul]; omega
  rw [h3, sgTo_len]
  simp
theorem ofTo_pre (c : Cg) (M : Nat) (node : Int) (j s : Nat) (h : j ≤ s) : ∃ r, ofTo c M node s = ofTo c M node j ++ r := by
  unfold ofTo
  have e : List.range s = List.range j ++ (List.range (s - j)).map (j + ·) := by rw [← List.range_add]; congr 1; omega
  rw [e, List.map_append, List.filter_append]
  exact ⟨_, rfl⟩
/-- What is found next is the next one. -/
theorem of_next (c : Cg) (M : Nat) (node : Int) (j s : Nat) (hj : j < s) (hM : 0 < M) (h : node ∈ ndsC c ((j / M : Nat) : Int) ((j % M : Nat) : Int)) : (ofTo c M node s)[(ofTo c M node j).length]? = some (j / M, j % M) ∧ (ofTo c M node (j + 1)).length = (ofTo c M node j).length + 1 := by
  have e := ofTo_succ c M node j (j / M, j % M) (by rw [Nat.mul_comm]; exact Nat.div_add_mod j M) (Nat.mod_lt _ hM)
  rw [if_pos h] at e
  obtain ⟨r, hr⟩ := ofTo_pre c M node (j + 1) s hj
  rw [hr, e]
  simp
theorem of_skip (c : Cg) (M : Nat) (node : Int) (j : Nat) (hM : 0 < M) (h : node ∉ ndsC c ((j / M : Nat) : Int) ((j % M : Nat) : Int)) : (ofTo c M node (j + 1)).length = (ofTo c M node j).length := by
  have e := ofTo_succ c M node j (j / M, j % M) (by rw [Nat.mul_comm]; exact Nat.div_add_mod j M) (Nat.mod_lt _ hM)
  rw [if_neg h] at e
  rw [e]
  simp
theorem au_at {c : Cg} {M N : Nat} (h : auTo c M N = true) (i : Nat) (hi : i < N) : (ofC c M (i : Int)).length ≠ 0 := by
  unfold auTo at h
  rw [List.all_eq_true] at h
  have := h i (List.mem_range.2 hi)
  intro e
  have e2 := List.length_eq_zero_iff.1 e
  rw [e2] at this
  simp at this
set_option maxHeartbeats 16000000 in
set_option maxRecDepth 100000 in
theorem homesWalk (c : Cg) (w : World) (hc : c.ok w) : Calls Try.prog 8 #[c.v] w fun e w' => e = .returned (.bool true) ∧ Below w.heap.size w w' := by
  obtain ⟨W, eW, kW, zW, bC⟩ := boxC c w
  have BB := hid bC
  have KW := hid kW
  have HC := hid (hc.kept kW)
  have zW' : w.heap.size < W.heap.size := by omega
  have hF : Hid (∀ W', Kp [] W W' → (W'.cell? ⟨w.heap.size, 0, none⟩ = some (.int .i64 c.n) ∧ W'.cell? ⟨w.heap.size, 1, none⟩ = some (.int .i64 c.s) ∧ W'.cell? ⟨w.heap.size, 2, none⟩ = some (.int .i64 c.k) ∧ W'.cell? ⟨w.heap.size, 3, none⟩ = some (.slice c.ta c.tl.length c.tc) ∧ W'.cell? ⟨w.heap.size, 4, none⟩ = some (.slice c.pa c.pl.length c.pc))) := fun W' k => by
    have h1 := BB.out.kept k
    exact ⟨h1.get 0 _ rfl, h1.get 1 _ rfl, h1.get 2 _ rfl, h1.get 3 _ rfl, h1.get 4 _ rfl⟩
  have aK := hid (rCheck c W HC.out)
  have aA := hid (fun w' => cAlive w')
  obtain ⟨E, hE⟩ : ∃ E, Hid (chkC c = E) := ⟨_, hid rfl⟩
  rw [hE.out] at aK
  clear hc kW bC zW BB
  simp only [Cg.v] at *
  obtain ⟨c0, c1, c2, c3, c4⟩ := hF.out _ (Kp.refl _ _)
  go_enter Try.func8, Try.ntmps8
  go_wp2_with fail
  refine aK.out.mono ?_
  rintro e w1 ⟨rfl, k1⟩
  have K1 := hid k1
  clear k1 aK c0 c1 c2 c3 c4 eW
  obtain ⟨c0, c1, c2, c3, c4⟩ := hF.out _ K1.out
  by_cases h0 : E = 0
  rotate_left
  · have d0 : (E != 0) = true := by simpa using h0
    go_wp2_with fail
    refine (aA.out _).mono ?_
    rintro e w3 ⟨rfl, k3⟩
    have KF := hid ((KW.out.trans K1.out (by simp)).trans k3 (by simp)).below
    clear k3
    go_wp2_with fail
    go_ret
    exact ⟨rfl, KF.out⟩
  have d0 : (E != 0) = false := by simpa using h0
  have hok := chk_ok (hE.out.trans h0)
  obtain ⟨hn, _, _, hp8, hsh, hau⟩ := hok
  have hN := (cntd_iff c).1 hn
  obtain ⟨M, hM⟩ : ∃ M : Nat, c.s = (M : Int) := ⟨c.s.toNat, by omega⟩
  have aS := hid (fun w' => cSegs c M w' hM hn hp8)
  have aN := hid (fun (A B : Int) w' (k : Kp [] W w') => cNodes c A B w' (HC.out.kept k) hn hsh)
  have aO := hid (fun (x : Int) w' (k : Kp [] W w') => cOf c x M w' hM (HC.out.kept k) hn hsh hp8)
  simp only [Cg.v] at aS aN aO
  have hsm : Hid (c.pl.length * M ≤ 64) := by have h1 : c.pl.length * M ≤ 8 * 8 := Nat.mul_le_mul hp8 (by omega); exact hid (by omega)
  have hsg := hid (sgTo_len M (c.pl.length * M))
  have hM0 : 0 < M := by omega
  obtain ⟨N, hNn⟩ : ∃ N : Nat, c.n = (N : Int) := ⟨c.n.toNat, by omega⟩
  rw [hM, hNn, Int.toNat_natCast, Int.toNat_natCast] at hau
  have hau2 := hid (fun i hi => au_at hau i hi)
  have hcp := hid (cp_all c M N hM hNn hn)
  have hN8 : N ≤ 8 := by omega
  have hk0 : 0 ≤ c.k := by omega
  have hk8 : c.k ≤ 8 := by omega
  have HNn := hid hNn
  have HM := hid hM
  have hsa := hid (fun j x h => sgTo_at M (c.pl.length * M) j x h)
  have hol := hid (fun node s => ofTo_len c M node s)
  have hnl := hid (fun A B => ndsC_len c A B)
  clear hn hsh hN hM h0 hE hNn hau
  go_wp2_with fail
  refine (aS.out _).mono ?_
  rintro e w2 ⟨sa, sc, rfl, hss, hsc, k2⟩
  have K2 := hid (K1.out.trans k2 (by simp))
  have HSS := hid hss
  clear k2 hss hsc aS c0 c1 c2 c3 c4 K1
  obtain ⟨SL, hSL⟩ : ∃ l, sgTo M (c.pl.length * M) = l := ⟨_, rfl⟩
  rw [hSL] at HSS hsg
  simp only [hSL] at hsa
  rw [hSL]
  clear hSL
  obtain ⟨c0, c1, c2, c3, c4⟩ := hF.out _ K2.out
  rw [HNn.out] at c0
  go_wp2_with fail
  clear c0 c1 c2 c3 c4
  go_loopw [3, 24] (fun cv nv wr => ∃ j C : Nat, j ≤ N ∧ nv = .int .i64 (j : Int) ∧ cv = .int .i64 (C : Int) ∧ Hid (C = cpTo c M j) ∧ C ≤ j * 64 ∧ Hid (Kp [] W wr ∧ SgE.See wr sa SL)) (fun _ nv _ => N - (intOf nv).toNat)
  case atStart => exact ⟨0, 0, Nat.zero_le _, rfl, rfl, hid (by simp [cpTo]), Nat.le_refl _, hid ⟨K2.out, HSS.out⟩⟩
  case round =>
    obtain ⟨j, C, hj, rfl, rfl, hC, hC64, kr⟩ := hrel
    clear K2 HSS
    obtain ⟨c0, c1, c2, c3, c4⟩ := hF.out _ kr.out.1
    by_cases hjl : j < N
    · have i1 : (0 : Int) ≤ (j : Int) := by omega
      have i2 : (j : Int) < (N : Int) := by omega
      have i3 : (j : Int) + 1 ≤ 9223372036854775807 := by omega
      have aO2 := hid (aO.out (j : Int) wr kr.out.1)
      have hcs := hid (cpTo_succ c M j)
      have hne0 := hau2.out j hjl
      have hln := hol.out (j : Int) (c.pl.length * M)
      have hnx := hid (fun i h1 h2 => of_next c M (j : Int) i (c.pl.length * M) h1 hM0 h2)
      have hsk := hid (fun i h => of_skip c M (j : Int) i hM0 h)
      unfold ofC at aO2 hcs hne0
      obtain ⟨ML, hML⟩ : ∃ l, ofTo c M (j : Int) (c.pl.length * M) = l := ⟨_, rfl⟩
      have HML := hid hML
      simp only [hML] at aO2 hcs hne0 hln hnx
      have hmz : ((ML.length : Int) == 0) = false := by simpa using hne0
      have hml : ML.length ≤ 64 := by have := hsm.out; omega
      rw [← hC.out] at hcs
      have hw1 : (-9223372036854775808 : Int) ≤ (C : Int) + (ML.length : Int) := by omega
      have hw2 : (C : Int) + (ML.length : Int) ≤ 9223372036854775807 := by omega
      clear hne0 hln hML
      go_wp2_with fail
      refine aO2.out.mono ?_
      rintro e w3 ⟨oa, oc, rfl, hos, hoc, k3⟩
      have K3 := hid (kr.out.1.trans k3 (by simp))
      have S3 := hid (kr.out.2.keptNew k3)
      have HOS := hid hos
      clear k3 hos hoc aO2 c0 c1 c2 c3 c4 kr
      go_wp2_with fail
      go_loopw [8, 36] (fun mv iv wn => ∃ i n : Nat, i ≤ SL.length ∧ iv = .int .i64 (i : Int) ∧ mv = .int .i64 (n : Int) ∧ Hid (n = (ofTo c M (j : Int) i).length) ∧ Kp [] w3 wn) (fun _ iv _ => SL.length - (intOf iv).toNat)
      case atStart => exact ⟨0, 0, Nat.zero_le _, rfl, rfl, hid (by simp [ofTo]), Kp.refl _ _⟩
      case round =>
        obtain ⟨i, n, hi, rfl, rfl, hn, kn⟩ := hrel
        by_cases hil : i < SL.length
        · have hx : SL[i]? = some SL[i] := by simp [hil]
          obtain ⟨g, o, eg, x0, x1⟩ := sgAt2 (S3.out.keptNew kn) hx
          have hxe := hsa.out i _ hx
          have i4 : (0 : Int) ≤ (i : Int) := by omega
          have i5 : (i : Int) < (SL.length : Int) := by omega
          have hi64 : SL.length ≤ 64 := by have := hsg.out; have := hsm.out; omega
          have i6 : (i : Int) + 1 ≤ 9223372036854775807 := by omega
          have hn64 : n ≤ 64 := by rw [hn.out]; have := hol.out (j : Int) i; omega
          have i7 : (n : Int) + 1 ≤ 9223372036854775807 := by omega
          have his : i < c.pl.length * M := by have := hsg.out; omega
          clear hx
          generalize SL[i] = x at *
          obtain ⟨WA, eWA⟩ : ∃ Y, wr.alloc (.cells #[.int .i64 0, .int .i64 0] 31) = Y := ⟨_, rfl⟩
          have kWA : Kp [] wr WA := by rw [← eWA]; exact (Kp.refl _ _).alloc _
          have zWA : WA.heap.size = wr.heap.size + 1 := by rw [← eWA]; simp
          have xWA : Bn WA (wr.heap.size) [.int .i64 0, .int .i64 0] := by rw [← eWA]; exact Bn.new wr [.int .i64 0, .int .i64 0] 31
          obtain ⟨WB, eWB⟩ : ∃ Y, ((WA.setCell ⟨wr.heap.size, 0, none⟩ (.int .i64 (x.1 : Int))).setCell ⟨wr.heap.size, 1, none⟩ (.int .i64 (x.2 : Int))) = Y := ⟨_, rfl⟩
          have kWB : Kp [wr.heap.size] WA WB := by rw [← eWB]; exact (((Kp.refl _ _).setCell (by simp) _).setCell (by simp) _)
          have xWB : Bn WB (wr.heap.size) [.int .i64 (x.1 : Int), .int .i64 (x.2 : Int)] := by rw [← eWB]; exact ((xWA.set 0 (by simp) (.int .i64 (x.1 : Int))).set 1 (by simp) (.int .i64 (x.2 : Int)))
          have zWB := kWB.size
          have ma0 := xWA.get 0 _ rfl; have ma1 := xWA.get 1 _ rfl
          have mf0 := xWA.free 0; have mf1 := xWA.free 1
          have pc0 := xWB.get 0 _ rfl; have pc1 := xWB.get 1 _ rfl
          have kB : Kp [] wr WB := kWA.trans kWB (fun x hx => .inr (by simp at hx; omega))
          have KB := hid (kn.trans kB (by simp))
          have KC := hid (K3.out.trans KB.out (by simp))
          obtain ⟨b0, b1, b2, b3, b4⟩ := hF.out _ KC.out
          have aN2 := hid (aN.out (x.1 : Int) (x.2 : Int) WB KC.out)
          have hNl := hnl.out (x.1 : Int) (x.2 : Int)
          have hz1 : wr.heap.size < WB.heap.size := by omega
          have hz2 : w.heap.size < WB.heap.size := by have := KC.out.size; omega
          have XB := hid xWB
          have hx1 : Hid ((x.1 : Nat) = i / M ∧ x.2 = i % M) := hid (by rw [hxe]; exact ⟨rfl, rfl⟩)
          obtain ⟨X1, X2⟩ := x
          simp only at *
          obtain ⟨wr0, hwr0⟩ : ∃ q, Hid (wr.heap.size = q) := ⟨_, hid rfl⟩
          subst eg
          clear kWA kWB xWA xWB kB zWA zWB hxe
          go_wp2_with fail
          refine aN2.out.mono ?_
          rintro e w4 ⟨na, nc, rfl, hns, hnc, hn8, k4⟩
          have aIn := hid (rIn na nc (ndsC c (X1 : Int) (X2 : Int)) (j : Int) w4 hns (by omega))
          have K4 := hid (KB.out.trans k4 (by simp))
          have X4 := hid (XB.out.kept k4)
          clear hns hnc hn8 k4 aN2 b0 b1 b2 b3 b4 x0 x1 eWA eWB ma0 ma1 mf0 mf1 pc0 pc1 KB KC XB hNl
          go_wp2_with fail
          refine aIn.out.mono ?_
          rintro e w5 ⟨rfl, k5⟩
          have K5 := hid (K4.out.trans k5 (by simp))
          have X5 := hid (X4.out.kept k5)
          clear k5 aIn K4 X4
          by_cases hm : (j : Int) ∈ ndsC c (X1 : Int) (X2 : Int)
          · rw [decide_eq_true hm]
            obtain ⟨hg1, hg2⟩ := hnx.out i his (by rw [← hx1.out.1, ← hx1.out.2]; exact hm)
            rw [← hx1.out.1, ← hx1.out.2, ← hn.out] at hg1
            rw [← hn.out] at hg2
            have hnm : n < ML.length := (List.getElem?_eq_some_iff.1 hg1).1
            obtain ⟨g2, o2, eg2, y0, y1⟩ := sgAt2 (HOS.out.keptNew K5.out) hg1
            have n1 : (0 : Int) ≤ (n : Int) := by omega
            have n2 : (n : Int) < (ML.length : Int) := by omega
            have d1 : decide ((ML.length : Int) ≤ (n : Int)) = false := by simp; omega
            have d1n : decide (ML.length ≤ n) = false := by simp; omega
            have HG2 := hid hg2.symm
            have d3 : ((X1 : Int) != (X1 : Int)) = false := by simp
            rw [hwr0.out] at X5
            rw [hwr0.out]
            have hF2 : Hid (∀ W', Kp [] w5 W' → (W'.cell? ⟨g2, o2 + n * 2, none⟩ = some (.int .i64 (X1 : Int)) ∧ W'.cell? ⟨g2, o2 + n * 2 + 1, none⟩ = some (.int .i64 (X2 : Int)) ∧ W'.cell? ⟨wr0, 0, none⟩ = some (.int .i64 (X1 : Int)) ∧ W'.cell? ⟨wr0, 1, none⟩ = some (.int .i64 (X2 : Int)))) := fun W' k => ⟨kpAt k y0, kpAt k y1, (X5.out.kept k).get 0 _ rfl, (X5.out.kept k).get 1 _ rfl⟩
            have zz : wr0 < w5.heap.size := X5.out.lt (by simp)
            subst eg2
            clear hg1 hg2 y0 y1 hm hwr0
            simp only at *
            go_wp2_with fail
            refine wp_region_held_drew (S := fun W' => W'.cell? ⟨g2, o2 + n * 2, none⟩ = some (.int .i64 (X1 : Int)) ∧ W'.cell? ⟨g2, o2 + n * 2 + 1, none⟩ = some (.int .i64 (X2 : Int)) ∧ W'.cell? ⟨wr0, 0, none⟩ = some (.int .i64 (X1 : Int)) ∧ W'.cell? ⟨wr0, 1, none⟩ = some (.int .i64 (X2 : Int))) (by kernel_rfl) ?_ (fun hHeld => ?_)
            · exact hF2.out _ (Kp.refl [] w5).drew
            have KD : Hid (Kp [] w5 w5.drew) := hid (Kp.refl [] w5).drew
            generalize w5.drew = Wd at *
            refine wpAnyH_take (i := 0) (v := ?_) rfl (by kernel_rfl) (by kernel_rfl) (by kernel_rfl) (fun _ _ _ h => h) (Or.inl ⟨by rfl, ?_⟩) (by assumption) ?_
            rotate_left
            · intro w hSw; (try dsimp only at hSw); go_simp <;> with_reducible rfl
            try simp only [Act.put, List.getElem_toArray, List.getElem_cons_zero, List.getElem_cons_succ, List.setIfInBounds_toArray, List.set_cons_zero, List.set_cons_succ]
            refine wpAnyH_take (i := 1) (v := ?_) rfl (by kernel_rfl) (by kernel_rfl) (by kernel_rfl) (fun _ _ _ h => h) (Or.inl ⟨by rfl, ?_⟩) (by assumption) ?_
            rotate_left
            · intro w hSw; (try dsimp only at hSw); go_simp <;> with_reducible rfl
            try simp only [Act.put, List.getElem_toArray, List.getElem_cons_zero, List.getElem_cons_succ, List.setIfInBounds_toArray, List.set_cons_zero, List.set_cons_succ]
            refine wpAnyH_take (i := 2) (v := ?_) rfl (by kernel_rfl) (by kernel_rfl) (by kernel_rfl) (fun _ _ _ h => h) (Or.inl ⟨by rfl, ?_⟩) (by assumption) ?_
            rotate_left
            · intro w hSw; (try dsimp only at hSw); go_simp <;> with_reducible rfl
            try simp only [Act.put, List.getElem_toArray, List.getElem_cons_zero, List.getElem_cons_succ, List.setIfInBounds_toArray, List.set_cons_zero, List.set_cons_succ]
            refine wpAnyH_take (i := 3) (v := ?_) rfl (by kernel_rfl) (by kernel_rfl) (by kernel_rfl) (fun _ _ _ h => h) (Or.inl ⟨by rfl, ?_⟩) (by assumption) ?_
            rotate_left
            · intro w hSw; (try dsimp only at hSw); go_simp <;> with_reducible rfl
            try simp only [Act.put, List.getElem_toArray, List.getElem_cons_zero, List.getElem_cons_succ, List.setIfInBounds_toArray, List.set_cons_zero, List.set_cons_succ]
            refine wpAnyH_take (i := 4) (v := ?_) rfl (by kernel_rfl) (by kernel_rfl) (by kernel_rfl) (fun _ _ _ h => h) (Or.inl ⟨by rfl, ?_⟩) (by assumption) ?_
            rotate_left
            · intro w hSw; (try dsimp only at hSw); go_simp <;> with_reducible rfl
            try simp only [Act.put, List.getElem_toArray, List.getElem_cons_zero, List.getElem_cons_succ, List.setIfInBounds_toArray, List.set_cons_zero, List.set_cons_succ]
            refine wpAnyH_take (i := 5) (v := ?_) rfl (by kernel_rfl) (by kernel_rfl) (by kernel_rfl) (fun _ _ _ h => h) (Or.inl ⟨by rfl, ?_⟩) (by assumption) ?_
            rotate_left
            · intro w hSw; (try dsimp only at hSw); go_simp <;> with_reducible rfl
            try simp only [Act.put, List.getElem_toArray, List.getElem_cons_zero, List.getElem_cons_succ, List.setIfInBounds_toArray, List.set_cons_zero, List.set_cons_succ]
            refine wpAnyH_take (i := 6) (v := ?_) rfl (by kernel_rfl) (by kernel_rfl) (by kernel_rfl) (fun _ _ _ h => h) (Or.inl ⟨by rfl, ?_⟩) (by assumption) ?_
            rotate_left
            · intro w hSw; (try dsimp only at hSw); go_simp <;> with_reducible rfl
            try simp only [Act.put, List.getElem_toArray, List.getElem_cons_zero, List.getElem_cons_succ, List.setIfInBounds_toArray, List.set_cons_zero, List.set_cons_succ]
            refine wpAnyH_take (i := 7) (v := ?_) rfl (by kernel_rfl) (by kernel_rfl) (by kernel_rfl) (fun _ _ _ h => h) (Or.inl ⟨by rfl, ?_⟩) (by assumption) ?_
            rotate_left
            · intro w hSw; (try dsimp only at hSw); go_simp <;> with_reducible rfl
            try simp only [Act.put, List.getElem_toArray, List.getElem_cons_zero, List.getElem_cons_succ, List.setIfInBounds_toArray, List.set_cons_zero, List.set_cons_succ]
            refine wpAnyH_take (i := 8) (v := ?_) rfl (by kernel_rfl) (by kernel_rfl) (by kernel_rfl) (fun _ _ _ h => h) (Or.inl ⟨by rfl, ?_⟩) (by assumption) ?_
            rotate_left
            · intro w hSw; (try dsimp only at hSw); go_simp <;> with_reducible rfl
            try simp only [Act.put, List.getElem_toArray, List.getElem_cons_zero, List.getElem_cons_succ, List.setIfInBounds_toArray, List.set_cons_zero, List.set_cons_succ]
            refine wpAnyH_take (i := 9) (v := ?_) rfl (by kernel_rfl) (by kernel_rfl) (by kernel_rfl) (fun _ _ _ h => h) (Or.inl ⟨by rfl, ?_⟩) (by assumption) ?_
            rotate_left
            · intro w hSw; (try dsimp only at hSw); go_simp <;> with_reducible rfl
            try simp only [Act.put, List.getElem_toArray, List.getElem_cons_zero, List.getElem_cons_succ, List.setIfInBounds_toArray, List.set_cons_zero, List.set_cons_succ]
            refine wpAnyH_take (i := 10) (v := ?_) rfl (by kernel_rfl) (by kernel_rfl) (by kernel_rfl) (fun _ _ _ h => h) (Or.inl ⟨by rfl, ?_⟩) (by assumption) ?_
            rotate_left
            · intro w hSw; (try dsimp only at hSw); go_simp <;> with_reducible rfl
            try simp only [Act.put, List.getElem_toArray, List.getElem_cons_zero, List.getElem_cons_succ, List.setIfInBounds_toArray, List.set_cons_zero, List.set_cons_succ]
            refine wpAnyH_take (i := 11) (v := ?_) rfl (by kernel_rfl) (by kernel_rfl) (by kernel_rfl) (fun _ _ _ h => h) (Or.inl ⟨by rfl, ?_⟩) (by assumption) ?_
            rotate_left
            · intro w hSw; (try dsimp only at hSw); go_simp <;> with_reducible rfl
            try simp only [Act.put, List.getElem_toArray, List.getElem_cons_zero, List.getElem_cons_succ, List.setIfInBounds_toArray, List.set_cons_zero, List.set_cons_succ]
            refine wpAnyH_done (by kernel_rfl) ?_ _
            have K6 := hid (K5.out.trans KD.out (by simp))
            clear hHeld hF2 KD X5 K5
            go_wp2_with fail
            exact ⟨⟨i + 1, n + 1, by omega, by go_num, by go_num, HG2, K6.out⟩, by simp [intOf]; omega⟩
          · rw [decide_eq_false hm]
            have hg2 := hid (hn.out.trans (hsk.out i (by rw [← hx1.out.1, ← hx1.out.2]; exact hm)).symm)
            clear hm hwr0
            go_wp2_with fail
            exact ⟨⟨i + 1, n, by omega, by go_num, rfl, hg2, K5.out⟩, by simp [intOf]; omega⟩
        · have e : i = SL.length := by omega
          subst e
          rw [hsg.out] at hn
          rw [HML.out] at hn
          have hnm := hn.out
          subst hnm
          have hnn : ((ML.length : Int) != (ML.length : Int)) = false := by simp
          have H3 := hid (And.intro (K3.out.trans kn (by simp)) (S3.out.keptNew kn))
          have HC2 := hid hcs.out.symm
          clear kn
          go_wp2_with fail
          exact ⟨⟨j + 1, C + ML.length, by omega, by go_num, by go_num, HC2, by omega, H3⟩, by simp [intOf]; omega⟩
    · have e : j = N := by omega
      subst e
      have hcp2 := hcp.out
      rw [← hC.out] at hcp2
      rw [HM.out] at c1
      obtain ⟨PL, hPL⟩ : ∃ PL : Nat, c.pl.length = PL := ⟨_, rfl⟩
      rw [hPL] at c4 hcp2 hsm
      obtain ⟨Q, hQ⟩ : ∃ Q : Int, (PL : Int) * (M : Int) = Q := ⟨_, rfl⟩
      have hQb : 0 ≤ Q ∧ Q ≤ 64 := by
        rw [← hQ]
        have h1 : ((PL * M : Nat) : Int) = (PL : Int) * (M : Int) := by simp
        have := hsm.out
        omega
      obtain ⟨k1, hk1⟩ : ∃ k1 : Int, c.k + 1 = k1 := ⟨_, rfl⟩
      have hwk1 : (-9223372036854775808 : Int) ≤ c.k + 1 := by omega
      have hwk2 : c.k + 1 ≤ 9223372036854775807 := by omega
      have hwq1 : (-9223372036854775808 : Int) ≤ (PL : Int) * (M : Int) := by omega
      have hwq2 : (PL : Int) * (M : Int) ≤ 9223372036854775807 := by omega
      rw [hQ, hk1] at hcp2
      have hwr1 : (-9223372036854775808 : Int) ≤ Q * k1 := by rw [← hcp2]; omega
      have hwr2 : Q * k1 ≤ 9223372036854775807 := by rw [← hcp2]; omega
      have hfin : ((C : Int) == Q * k1) = true := by simpa using hcp2
      have HCP := hid hcp2
      have aA2 := hid (aA.out wr)
      have HPL := hid hPL
      clear hcp2 hPL
      go_wp2_with fail
      refine aA2.out.mono ?_
      rintro e u1 ⟨rfl, l1⟩
      have K1 := hid (kr.out.1.trans l1 (by simp))
      obtain ⟨p0, p1, p2, p3, p4⟩ := hF.out _ K1.out
      rw [HM.out] at p1
      rw [HPL.out] at p4
      clear l1 c0 c1 c2 c3 c4 aA2
      go_wp2_with fail
      go_ret
      exact ⟨by first | rfl | (rw [hfin]; rfl) | simp [hfin], (KW.out.trans K1.out (by simp)).below⟩
end Go.Proofs.Ytckicbaidbgonaa
end

section
namespace Go.Proofs.Ytckicbaidbgonaa
open Go.ChangeShapes Go.WideShapes Go.ChangeAt Go.RowKit Go.Hay
set_option linter.unusedVariables false

set_option maxRecDepth 100000 in
theorem catalogHomesContract (H : Type) (enc : TypeId × Value → H) (W : World) (base : Nat) (args : Array Value) (ds gs : List (DataW H)) (before : List MemPlace)
    (hval : ∀ (j : Nat) t v, Try.f8.params[j]? = some t → args[j]? = some v → Value.okWide Try.prog W .any base t v)
    (hW : DataW.Whole enc Try.prog Try.f8.params.toList Rows.catalogHomesSpec.vars false W args.toList ds gs before)
    (hsz : (DataW.weightsEach Try.prog (Try.f8.params.toList ++ (OpenSpec.ofChange Rows.catalogHomesSpec).bare.plain.varTypes Try.prog) (ds ++ gs)).all (· ≤ reachBytes) = true) :
    Calls Try.prog 8 args W fun e W' => ∃ v, e = .returned v ∧ Rows.catalogHomesSpec.post enc Try.prog Try.f8 false true false false W args v W' := by
  have hW' := hW
  obtain ⟨p, q, hA0, hV, rfl, hfz, hnd⟩ := hW
  have hA : DataW.TrodAll enc Try.prog W 0 (fun _ => true) true Try.f8.params.toList args.toList ds p := hA0
  rw [Try.params8] at hA hval hsz
  obtain ⟨v0, vs0, d0, ds0, p0, q0, hargs, rfl, rfl, h0, r0⟩ := trodAll_cons hA
  obtain ⟨rfl, rfl, rfl⟩ := trodAll_nil r0
  obtain rfl : args = #[v0] := by cases args; simp_all
  obtain ⟨rfl, rfl⟩ := trodVars_none hV
  have k0 := h0
  have lt0 : ∀ x ∈ p0, x.block < W.heap.size := by obtain ⟨m, hm⟩ := k0; exact DataW.trod_lt m _ _ _ hm
  obtain ⟨c0, rfl, ok0⟩ := openCat (hval 0 25 v0 rfl rfl) h0
  clear hA0
  refine (homesWalk c0 W ok0).mono fun e W' ⟨he, bel⟩ => ?_
  subst he
  exact ⟨_, rfl, _, _, _, [], _, [], hW', trodAll_mk1 (shut_bool Try.underlying4 _), (trodAll_cons_mk (Below.trod Try.laidOut (by kernel_rfl) (of_decide_eq_true (by kernel_rfl)) k0 bel lt0) trodAll_mk0), rfl, bel.frame _, fun h => by cases h⟩

set_option maxRecDepth 100000 in
theorem catalogHomesLifted (os : Os) (started : os.Started) (H : Type) (enc : TypeId × Value → H) :
    ReturnsInHanded {} Try.checked os 8 .any (Rows.catalogHomesSpec.pre6 enc Try.prog Try.f8 Rows.catalogHomesRow.domain false) (Rows.catalogHomesSpec.post enc Try.prog Try.f8 false true false false) := by
  refine returnsInHanded_of_change_sized (C := Try.checked) Try.own started (by kernel_rfl) Try.func8
    (ChangeSpec.witness6 (enc := enc) (C := Try.checked) false ⟨#[], #[.agg #[.int .i64 0, .int .i64 0, .int .i64 0, .slice none 0 0, .slice none 0 0]], []⟩ 8 (by kernel_rfl) (by kernel_rfl) (by kernel_rfl) (by kernel_rfl)) ?_
  intro W base args ds gs before hval hW _ hsz _
  exact catalogHomesContract H enc W base args ds gs before hval hW hsz

theorem CatalogHomes_holds : Rows.CatalogHomesSaid :=
  OpenClaim.holds_of_wide 8 Try.f8 rfl rfl rfl rfl rfl rfl rfl ⟨rfl, rfl, rfl, rfl, rfl⟩ rfl rfl rfl rfl rfl (by kernel_rfl) Try.func8 (by kernel_rfl)
    (of_decide_eq_true (by kernel_rfl)) (by unfold Func.isWrapper; first | (rw [if_pos (by decide +kernel)]; kernel_rfl) | (rw [if_neg (by decide +kernel)]; exact ⟨rfl, rfl⟩))
    (fun os started H enc _ => catalogHomesLifted os started H enc)

#print axioms CatalogHomes_holds
end Go.Proofs.Ytckicbaidbgonaa
end

/- Arguments opened: catalogs, and how much they hold. -/
import Derived.Test.YtckicbaidbgonaaB9
import Derived.Test.YtckicbaidbgonaaB6
import Derived.Test.YtckicbaidbgonaaB7
import Derived.Deep.RegionHeld3
import Derived.Test.YtckicbaidbgonaaB1
import Derived.Deep.DeepAppendWide
import Derived.Laws.AppendOwnNone
import Derived.Test.YtckicbaidbgonaaB2
import Derived.Test.YtckicbaidbgonaaB4
import Derived.Laws.BitsAllLaws
section
namespace Go.Proofs.Ytckicbaidbgonaa
open Go.RowKit Go.Hay
set_option linter.unusedVariables false
set_option linter.unusedSimpArgs false

/-- What a catalog is that may be. -/
theorem chk_ok {c : Cg} (h : chkC c = 0) : cntd c = true ∧ tabsM c.tl = true ∧ pjsM c = true ∧ c.pl.length ≤ 8 ∧ (∀ p ∈ c.pl, wi p.sh c.n = true) ∧ auTo c c.s.toNat c.n.toNat = true := by
  unfold chkC at h
  cases h1 : cntd c with
  | false => rw [h1] at h; simp at h
  | true =>
  cases h2 : tabsM c.tl with
  | false => rw [h1, h2] at h; simp at h
  | true =>
  cases h3 : pjsM c with
  | false => rw [h1, h2, h3] at h; simp at h
  | true =>
  cases h4 : acM c with
  | false => rw [h1, h2, h3, h4] at h; simp at h
  | true =>
  cases h5 : auTo c c.s.toNat c.n.toNat with
  | false => rw [h1, h2, h3, h4, h5] at h; simp at h
  | true => exact ⟨rfl, rfl, rfl, (pjsM_all h3).1, fun p hp => (pjM_parts ((pjsM_all h3).2 p hp)).2.1, rfl⟩
set_option maxHeartbeats 4000000 in
set_option maxRecDepth 100000 in
theorem rSameI (a b : Option Addr) (ca cb : Nat) (l : List Int) (w : World) (ha : IntE.See w a l) (hb : IntE.See w b l) (hl : l.length ≤ 9223372036854775806) :
    Calls Try.prog 17 #[.slice a l.length ca, .slice b l.length cb] w fun e w' => e = .returned (.bool true) ∧ Kp [] w w' := by
  have ha' := hid ha
  have hb' := hid hb
  have d0 : ((l.length : Int) != (l.length : Int)) = false := by simp
  clear ha hb
  go_enter Try.func17, Try.ntmps17
  go_wp2_with fail
  go_loopw [5] (fun i wr => ∃ j : Nat, j ≤ l.length ∧ i = .int .i64 j ∧ Kp [] w wr) (fun i _ => l.length - (intOf i).toNat)
  case atStart => exact ⟨0, Nat.zero_le _, rfl, Kp.refl _ _⟩
  case round =>
    obtain ⟨j, hj, rfl, kr⟩ := hrel
    by_cases hjl : j < l.length
    · obtain ⟨g, o, rfl, x0⟩ := intAt (ha'.out.keptNew kr) j hjl
      obtain ⟨g2, o2, rfl, y0⟩ := intAt (hb'.out.keptNew kr) j hjl
      have i1 : (0 : Int) ≤ (j : Int) := by omega
      have i2 : (j : Int) < (l.length : Int) := by omega
      have i3 : (j : Int) + 1 ≤ 9223372036854775807 := by omega
      generalize l[j] = y at *
      have d1 : (y != y) = false := by simp
      go_wp2_with fail
      go_quiet ((fail))
      go_wp2_with fail
      exact ⟨⟨j + 1, by omega, by go_num, kr.drewN _⟩, by simp [intOf]; omega⟩
    · have e : j = l.length := by omega
      subst e
      go_wp2_with fail
      go_ret
      exact ⟨rfl, kr⟩
set_option maxHeartbeats 4000000 in
set_option maxRecDepth 100000 in
theorem rSameS (a b : Option Addr) (ca cb : Nat) (l : List (Nat × Nat)) (w : World) (ha : SgE.See w a l) (hb : SgE.See w b l) (hl : l.length ≤ 9223372036854775806) :
    Calls Try.prog 13 #[.slice a l.length ca, .slice b l.length cb] w fun e w' => e = .returned (.bool true) ∧ Kp [] w w' := by
  have ha' := hid ha
  have hb' := hid hb
  have d0 : ((l.length : Int) != (l.length : Int)) = false := by simp
  clear ha hb
  go_enter Try.func13, Try.ntmps13
  go_wp2_with fail
  go_loopw [5] (fun i wr => ∃ j : Nat, j ≤ l.length ∧ i = .int .i64 j ∧ Kp [] w wr) (fun i _ => l.length - (intOf i).toNat)
  case atStart => exact ⟨0, Nat.zero_le _, rfl, Kp.refl _ _⟩
  case round =>
    obtain ⟨j, hj, rfl, kr⟩ := hrel
    by_cases hjl : j < l.length
    · obtain ⟨g, o, rfl, x0, x1⟩ := sgAt2 (ha'.out.keptNew kr) (j := j) (x := l[j]) (by simp [hjl])
      obtain ⟨g2, o2, rfl, y0, y1⟩ := sgAt2 (hb'.out.keptNew kr) (j := j) (x := l[j]) (by simp [hjl])
      have i1 : (0 : Int) ≤ (j : Int) := by omega
      have i2 : (j : Int) < (l.length : Int) := by omega
      have i3 : (j : Int) + 1 ≤ 9223372036854775807 := by omega
      generalize l[j] = y at *
      have d1 : ((y.1 : Int) != (y.1 : Int)) = false := by simp
      go_wp2_with fail
      go_quiet ((fail))
      go_wp2_with fail
      exact ⟨⟨j + 1, by omega, by go_num, kr.drewN _⟩, by simp [intOf]; omega⟩
    · have e : j = l.length := by omega
      subst e
      go_wp2_with fail
      go_ret
      exact ⟨rfl, kr⟩
end Go.Proofs.Ytckicbaidbgonaa
end

section
namespace Go.Proofs.Ytckicbaidbgonaa
open Go.RowKit Go.Hay
set_option linter.unusedVariables false
set_option linter.unusedSimpArgs false

theorem ring_ne (F n : Int) (i j : Nat) (hij : i < j) (hj : (j : Int) - (i : Int) < n) : (F + i) % n ≠ (F + j) % n := fun h => by
  have h1 := (Int.emod_eq_emod_iff_emod_sub_eq_zero).1 h.symm
  rw [show F + (j : Int) - (F + (i : Int)) = (j : Int) - (i : Int) by omega, Int.emod_eq_of_lt (by omega) hj] at h1
  omega
/-- The nodes of a ring are unlike. -/
theorem ring_nodup (F n : Int) (m : Nat) (hm : (m : Int) ≤ n) : (ring F n m).Nodup := by
  unfold ring List.Nodup
  rw [List.pairwise_map]
  refine List.Pairwise.imp_of_mem (R := fun a b => a < b) (fun {a b} ha hb hab => ?_) List.pairwise_lt_range
  have h1 := List.mem_range.1 ha
  have h2 := List.mem_range.1 hb
  exact ring_ne F n a b hab (by omega)
/-- Unlike ones, all among others, are no more than these. -/
theorem nodup_le {α : Type} [DecidableEq α] : ∀ (L G : List α), L.Nodup → (∀ y ∈ L, y ∈ G) → L.length ≤ G.length
  | [], G, _, _ => by simp
  | x :: L, G, hn, hs => by
    have hx := hs x (by simp)
    have hn2 := List.nodup_cons.1 hn
    have ih := nodup_le L (G.erase x) hn2.2 (fun y hy => by
      have hne : y ≠ x := fun e => hn2.1 (e ▸ hy)
      exact (List.mem_erase_of_ne hne).2 (hs y (by simp [hy])))
    rw [List.length_erase_of_mem hx] at ih
    have : 0 < G.length := List.length_pos_of_mem hx
    simp only [List.length_cons]
    omega
/-- So many nodes of the first ones are gone. -/
def awayTo (G : List Int) (j : Nat) : Nat := ((List.range j).filter fun (i : Nat) => decide ((i : Int) ∈ G)).length
theorem awayTo_succ (G : List Int) (j : Nat) : awayTo G (j + 1) = awayTo G j + (if (j : Int) ∈ G then 1 else 0) := by
  unfold awayTo
  rw [List.range_succ, List.filter_append, List.length_append]
  by_cases h : (j : Int) ∈ G
  · simp [h]
  · simp [h]
theorem awayTo_le (G : List Int) (j : Nat) : awayTo G j ≤ j := by
  unfold awayTo
  refine Nat.le_trans (List.length_filter_le _ _) ?_
  simp
/-- More unlike nodes than are gone: one of them lives. -/
theorem one_lives (G L : List Int) (N : Nat) (hn : L.Nodup) (hb : ∀ y ∈ L, 0 ≤ y ∧ y < (N : Int)) (ha : awayTo G N < L.length) : ∃ y ∈ L, y ∉ G := by
  apply Classical.byContradiction
  intro hno
  have hall : ∀ y ∈ L, y ∈ G := fun y hy => Classical.byContradiction fun h => hno ⟨y, hy, h⟩
  have hn2 : (L.map Int.toNat).Nodup := by
    unfold List.Nodup
    rw [List.pairwise_map]
    refine List.Pairwise.imp_of_mem (R := fun a b => a ≠ b) (fun {a b} h1 h2 hab e => hab ?_) hn
    have := hb a h1
    have := hb b h2
    omega
  have h := nodup_le (L.map Int.toNat) ((List.range N).filter fun (i : Nat) => decide ((i : Int) ∈ G)) hn2 (fun y hy => by
    obtain ⟨z, hz, rfl⟩ := List.mem_map.1 hy
    have h1 := hb z hz
    have h2 := hall z hz
    rw [List.mem_filter, List.mem_range]
    refine ⟨by omega, ?_⟩
    rw [show ((z.toNat : Nat) : Int) = z by omega]
    simpa using h2)
  rw [List.length_map] at h
  unfold awayTo at ha
  omega
/-- Who lives, as the law lays it. -/
def liveL (G : List Int) (N : Nat) : List Bool := (List.range N).map fun (i : Nat) => !decide ((i : Int) ∈ G)
theorem lv_live (G : List Int) (N : Nat) (y : Int) (h0 : 0 ≤ y) (h1 : y < (N : Int)) (hy : y ∉ G) : lvAt (liveL G N) y = true := by
  obtain ⟨n, rfl⟩ := Int.eq_ofNat_of_zero_le h0
  have hn : n < N := by omega
  unfold lvAt liveL
  simp [hn, hy]
/-- As long as at most K nodes are gone the others have all. -/
theorem cvd_safe (c : Cg) (G : List Int) (M N : Nat) (hM : c.s = (M : Int)) (hN : c.n = (N : Int)) (hn : cntd c = true) (ha : (awayTo G N : Int) ≤ c.k) : cvdTo c M (liveL G N) (c.pl.length * M) = true := by
  have hq := (cntd_iff c).1 hn
  unfold cvdTo
  rw [List.all_eq_true]
  intro s hs
  rw [List.mem_range] at hs
  have hM0 : 0 < M := by omega
  have h1 : s / M < c.pl.length := (Nat.div_lt_iff_lt_mul hM0).2 hs
  have h2 : s % M < M := Nat.mod_lt _ hM0
  generalize s / M = A at *
  generalize s % M = B at *
  have hl : liesC c (A : Int) (B : Int) = true := by
    unfold liesC wi
    simp only [Bool.and_eq_true, decide_eq_true_eq]
    omega
  have hr : ndsC c (A : Int) (B : Int) = ring ((B : Int) + (c.pl.getD (A : Int).toNat default).sh) c.n (c.k.toNat + 1) := by unfold ndsC; rw [if_pos hl]
  rw [hr, List.any_eq_true]
  obtain ⟨y, hy, hg⟩ := one_lives G (ring ((B : Int) + (c.pl.getD (A : Int).toNat default).sh) c.n (c.k.toNat + 1)) N (ring_nodup _ _ _ (by omega)) (fun y hy => by have := ring_pos (by omega) y hy; omega) (by rw [ring_length]; omega)
  have hb := ring_pos (by omega) y hy
  exact ⟨y, hy, lv_live G N y hb.1 (by omega) hg⟩
end Go.Proofs.Ytckicbaidbgonaa
end

section
namespace Go.Proofs.Ytckicbaidbgonaa
open Go.RowKit Go.Hay
attribute [local go_sem] Oper.semAt_some
set_option linter.unusedVariables false
set_option linter.unusedSimpArgs false

theorem eqlFuncNil {P : Program} {t : TypeId} {ps rs : Array TypeId} {v : Bool} (h : P.underlying t = some (.func ps rs v)) (f : Fn) (fi ca : Array Value) (w : World) : (binOp .eql t (.func f fi ca) .nilFunc).run P w = .ok (.bool false) w := by
  have e0 : ∀ d : Nat, (Op.equalIn (d + 1) t (.func f fi ca) .nilFunc).run P w = .ok false w := fun d => by simp [Op.equalIn, run_underlying h]
  have e : (Op.equal t (.func f fi ca) .nilFunc).run P w = .ok false w := e0 9999
  simp only [binOp]
  simp [e]
/-- How the memory stands between two rounds. -/
structure SgI (w : World) (qL B M s : Nat) (W : World) (a : Option Addr) (cp : Nat) (l : List (Nat × Nat)) : Prop where
  kp : Kp [] w W
  bL : Bn W qL [.slice a l.length cp]
  row : SgE.Row W (.slice a l.length cp) l
  nw : ∀ k ∈ blk a, B + 2 ≤ k
  eq : l = sgTo M s
def SgJ (w : World) (qL B M s : Nat) (W : World) : Prop := ∃ a cp l, SgI w qL B M s W a cp l
theorem SgI.keepS {w : World} {qL B M s : Nat} {W W' : World} {a : Option Addr} {cp : Nat} {l : List (Nat × Nat)} (h : SgI w qL B M s W a cp l) {S : List Nat} (k : Kp S W W') (hS : ∀ j ∈ S, B ≤ j ∧ j < B + 2) (hB : w.heap.size ≤ B ∧ qL < B) : SgI w qL B M s W' a cp l := by
  refine ⟨h.kp.trans k (fun j hj => .inr (by have := hS j hj; omega)), h.bL.keptS k (fun hm => by have := hS _ hm; omega) (h.bL.lt (by simp)), h.row.kept k (fun j hj hm => ?_), h.nw, h.eq⟩
  have h1 := hS j hm
  have h2 : j ∈ blk a := by rw [ownSl] at hj; exact hj
  have := h.nw j h2
  omega
/-- What segments hands back. -/
def SegP (l : List (Nat × Nat)) (w : World) (e : Ending) (w' : World) : Prop := ∃ (a : Option Addr) (cp : Nat), e = .returned (.tuple #[.slice a l.length cp, .bool true]) ∧ SgE.See w' a l ∧ l.length ≤ cp ∧ Kp [] w w'
set_option maxHeartbeats 16000000 in
set_option maxRecDepth 100000 in
theorem cSegs (c : Cg) (M : Nat) (w : World) (hM : c.s = (M : Int)) (hn : cntd c = true) (hp8 : c.pl.length ≤ 8) : Calls Try.prog 12 #[c.v] w (SegP (sgTo M (c.pl.length * M)) w) := by
  obtain ⟨W, eW, kW, zW, bC⟩ := boxC c w
  have hMl : M ≤ 8 := by have := (cntd_iff c).1 hn; omega
  have aSg := hid (cSegments c W M hM hn)
  have KW := hid kW
  have c0 := bC.get 0 _ rfl; have c1 := bC.get 1 _ rfl; have c2 := bC.get 2 _ rfl; have c3 := bC.get 3 _ rfl; have c4 := bC.get 4 _ rfl
  have zW' : w.heap.size < W.heap.size := by omega
  clear kW bC hn hM zW
  simp only [Cg.v] at *
  refine (callsIn_wide (n := 6)).1 ?_
  refine callsIn_of_wp_marks Try.func12 rfl trivial ?_ rfl
  simp only [Try.ntmps12, List.size_toArray, List.length_cons, List.length_nil, Nat.reduceAdd, Nat.reduceSub, Array.replicate_succ, Array.replicate_zero, List.push_toArray, List.append_toArray, List.nil_append, List.cons_append]
  refine wpIn_wide.2 ?_
  go_wp2_with fail
  refine aSg.out.mono ?_
  rintro e w1 ⟨q1, q2, rfl, hq1, hq2, l1, l2, k1⟩
  have K1 := hid (And.intro k1 (And.intro hq1 hq2))
  have aA := hid (cAlive w1)
  have hnf : ∀ W : World, (binOp .eql 82 (.func (.func 64) #[] #[.pointer (some ⟨q1, 0, none⟩), .pointer (some ⟨q2, 0, none⟩)]) .nilFunc).run Try.prog W = .ok (.bool false) W := fun W => eqlFuncNil Try.underlying82 _ _ _ W
  clear aSg c0 c1 c2 c3 c4 eW hq1 hq2 l1 l2 k1
  go_wp2_with fail
  refine aA.out.mono ?_
  rintro e w2 ⟨rfl, k2⟩
  obtain ⟨w3, e3⟩ : ∃ Y, w2.alloc (.cells #[.slice none 0 0] 33) = Y := ⟨_, rfl⟩
  have k3 : Kp [] w2 w3 := by rw [← e3]; exact (Kp.refl _ _).alloc _
  have z3 : w3.heap.size = w2.heap.size + 1 := by rw [← e3]; simp
  have b3 : Bn w3 w2.heap.size [.slice none 0 0] := by rw [← e3]; exact Bn.new w2 [.slice none 0 0] _
  have k13 : Kp [] w1 w3 := k2.trans k3 (by simp)
  have hq1 := kpAt k13 K1.out.2.1
  have hq2 := kpAt k13 K1.out.2.2
  have kw3 : Kp [] w w3 := (KW.out.trans K1.out.1 (by simp)).trans k13 (by simp)
  have hlt1 : q1 < w2.heap.size := Nat.lt_of_lt_of_le (World.block_lt_of_cell? _ _ K1.out.2.1) k2.size
  have hlt2 : q2 < w2.heap.size := Nat.lt_of_lt_of_le (World.block_lt_of_cell? _ _ K1.out.2.2) k2.size
  have hI0 : SgI w w2.heap.size w3.heap.size M 0 w3 none 0 [] := ⟨kw3, b3, .inl ⟨rfl, rfl⟩, by simp [blk], by simp [sgTo]⟩
  have hsq := segSeq (6 - 1) (by omega) q1 q2 c.pl.length M w3 hq1 hq2 (by omega) (by omega)
  have hzw := kw3.size
  have hzw2 := ((KW.out.trans K1.out.1 (by simp)).trans k2 (by simp)).size
  have hB3 : w.heap.size ≤ w3.heap.size ∧ w2.heap.size < w3.heap.size := by omega
  have HL := hid (And.intro hlt1 (And.intro hlt2 (And.intro z3 hzw2)))
  have HI0 := hid hI0
  have HSQ := hid hsq
  clear hnf aA hI0 hsq k2 k3 b3 k13 hq1 hq2 kw3 hlt1 hlt2 z3 hzw hzw2
  go_wp2_with fail
  refine (wpIn_wide (n := 6)).1 ?_
  refine wpRangeW rfl (by omega) (gf := 64) (lb := #[.pointer (some ⟨q1, 0, none⟩), .pointer (some ⟨q2, 0, none⟩)]) rfl trivial (enters_of Try.func64 (by kernel_rfl) rfl)
    HSQ.out (fun _ => rfl) KeepC.trans (fun s W o => KeepC.alloc _ W o) (fun s W k o o' _ ho hc _ => KeepC.putObj _ W k o o' ho hc) (KeepC.refl _ _) (fun s s' A B ht k o _ ho _ _ => by rw [← ht.2]; exact ho)
    (SgJ w w2.heap.size w3.heap.size M) (fun _ _ _ => False) ?hI (fun _ _ _ _ h _ => h) (fun s s' A B h ht => by rw [← ht.1, ← ht.2]; exact h) ?h0 ?hIa
    (fun x => .cells #[.int .i64 (x.1 : Int), .int .i64 (x.2 : Int)] 31)
    (fun x q3 => { tmps := #[.agg #[.int .i64 c.n, .int .i64 c.s, .int .i64 c.k, .slice c.ta c.tl.length c.tc, .slice c.pa c.pl.length c.pc], .pointer (some ⟨w.heap.size, 0, none⟩), .slice none 0 0, .bool false, .func (.func 64) #[] #[.pointer (some ⟨q1, 0, none⟩), .pointer (some ⟨q2, 0, none⟩)], .pointer (some ⟨w2.heap.size, 0, none⟩), .pointer (some ⟨q3, 0, none⟩), .agg #[.int .i64 c.n, .int .i64 c.s, .int .i64 c.k, .slice c.ta c.tl.length c.tc, .slice c.pa c.pl.length c.pc], .func (.func 64) #[] #[.pointer (some ⟨q1, 0, none⟩), .pointer (some ⟨q2, 0, none⟩)], .func (.func 64) #[] #[.pointer (some ⟨q1, 0, none⟩), .pointer (some ⟨q2, 0, none⟩)], .bool false, .bool false, .bool true, .bool false, .bool false, .func (.func 64) #[] #[.pointer (some ⟨q1, 0, none⟩), .pointer (some ⟨q2, 0, none⟩)], .agg #[.int .i64 (x.1 : Int), .int .i64 (x.2 : Int)], undef, undef, undef, undef, undef], defers := [] }) ?assign ?body ?done ?stop
  case hI =>
    rintro s X o' ⟨a, cp, l, h⟩ hz
    have kp : Kp [w3.heap.size + 1] X (X.putObj (w3.heap.size + 1) o') := ⟨rfl, rfl, rfl, by simp, fun k hk hn => World.putObj_heap_other (by simpa using hn)⟩
    exact ⟨a, cp, l, h.keepS kp (fun j hj => by simp at hj; omega) hB3⟩
  case h0 =>
    intro o1 o2
    exact ⟨none, 0, [], HI0.out.keepS (S := []) (((Kp.refl _ _).alloc _).alloc _) (by simp) hB3⟩
  case hIa =>
    rintro s X o ⟨a, cp, l, h⟩
    exact ⟨a, cp, l, h.keepS (S := []) ((Kp.refl _ _).alloc _) (by simp) hB3⟩
  case assign =>
    intro l x W C hC
    gi_wp2_with fail
    exact hC
  case body =>
    rintro lr s x A q3 ⟨a, cp, l, h⟩ ⟨hslt, hxs, hx2, hx1⟩ hob hq3
    have hbx : ∀ z : Nat, A.cell? ⟨q3, z, none⟩ = (#[.int .i64 (x.1 : Int), .int .i64 (x.2 : Int)] : Array Value)[z]? := fun z => by
      unfold World.cell?
      simp [hob]
    have g0 := hbx 0; have g1 := hbx 1
    have hqa := (Array.getElem?_eq_some_iff.1 hob).1
    have hs64 : s < 64 := by have : c.pl.length * M ≤ 8 * 8 := Nat.mul_le_mul hp8 hMl; omega
    have hll : l.length ≤ 1000000 := by rw [h.eq, sgTo_len]; omega
    have e9 : sgTo M (s + 1) = l ++ [x] := by
      have := sgTo_succ M x.1 x.2 hx2
      rw [hxs] at this
      rw [this, ← h.eq]
    have hnw := h.nw
    have hlb := HL.out
    obtain ⟨a', cp', A2, hrun, hrow2, hna', k2⟩ := appSg A a cp l x (w3.heap.size + 2) h.row hnw (by omega) hll
    have z2 := k2.size
    have hblt := h.bL.lt (by simp)
    have hnq : w2.heap.size ∉ blk a := fun hm' => by have := hnw _ hm'; omega
    have bx2 := h.bL.keptS k2 hnq hblt
    have b0 := bx2.get 0 _ rfl
    have f0 := bx2.free 0
    obtain ⟨A3, hA3⟩ : ∃ A3, A2.setCell ⟨w2.heap.size, 0, none⟩ (.slice a' (l ++ [x]).length cp') = A3 := ⟨_, rfl⟩
    have bx3 : Bn A3 (w2.heap.size) [.slice a' (l ++ [x]).length cp'] := by rw [← hA3]; exact bx2.set 0 (by simp) _
    have k3 : Kp [w2.heap.size] A2 A3 := by rw [← hA3]; exact (Kp.refl _ _).setCell (by simp) _
    have kA3 : Kp ((w2.heap.size) :: blk a) A A3 := (k2.mono (T := (w2.heap.size) :: blk a) (fun j hj => .inl (by simp [hj]))).trans k3 (fun j hj => .inl (by simp at hj; simp [hj]))
    have hmem : ∀ j ∈ (w2.heap.size) :: blk a, j = w2.heap.size ∨ w3.heap.size + 2 ≤ j := fun j hj => by
      rcases List.mem_cons.1 hj with e | e
      · exact .inl e
      · exact .inr (hnw j e)
    have hR2 : Recs w3.heap.size A A3 := ⟨kA3.block _ (by omega) (fun hm' => by rcases hmem _ hm' with e | e <;> omega), kA3.block _ (by omega) (fun hm' => by rcases hmem _ hm' with e | e <;> omega)⟩
    have hK2 : KeepC (Gsg q1 q2) A A3 := KeepC.ofKp kA3 (fun y hy hm' => by
      rcases hmem _ hm' with e | e <;> rcases hy with e2 | e2 <;> omega)
    have hJ : SgJ w w2.heap.size w3.heap.size M (s + 1) A3 := by
      refine ⟨a', cp', l ++ [x], ⟨h.kp.trans kA3 (fun j hj => .inr (by rcases hmem _ hj with e | e <;> omega)), bx3, hrow2.kept k3 (fun j hj hm' => ?_), hna', e9.symm⟩⟩
      rw [ownSl] at hj
      simp at hm'
      have := hna' j hj
      omega
    have HF := hid (And.intro hR2 (And.intro hK2 hJ))
    obtain ⟨NL, hNL⟩ : ∃ n, Hid ((l ++ [x]).length = n) := ⟨_, hid rfl⟩
    rw [hNL.out] at hA3 hrun
    have bL0 := h.bL.get 0 _ rfl
    clear h e9 hR2 hK2 hJ hna' kA3 k3 bx3 bx2 hrow2 k2 hmem hnw hnq hbx hob
    gi_wp2_with (first | (refine wpAppRunIn rfl _ _ 33 33 rfl _ _ _ rfl rfl hrun ?_) | fail)
    exact HF.out
  case done =>
    rintro D s X hD hs ⟨a, cp, l, h⟩ hK
    have bq := h.bL.get 0 _ rfl
    have kp : Kp [D] X (X.putObj D (.deferred none)) := ⟨rfl, rfl, rfl, by simp, fun k hk hn => World.putObj_heap_other (by simpa using hn)⟩
    obtain ⟨_, _, e, hsee, _, hcp, _, eo⟩ := h.row.see
    cases e
    have hsee2 : SgE.See (X.putObj D (.deferred none)) a l := by
      rcases hsee with e | ⟨g, o, e, hc⟩
      · exact .inl e
      · refine .inr ⟨g, o, e, fun j u hu => ?_⟩
        have h1 := hc j u hu
        have hne : g ≠ D := fun e2 => by
          subst e2
          unfold World.cell? at h1
          simp [hK] at h1
        exact (kp.cell (p := ⟨g, o + j, none⟩) (World.block_lt_of_cell? _ _ h1) (by simpa using hne)).trans h1
    have hfin : SegP (sgTo M (c.pl.length * M)) w (.returned (.tuple #[.slice a l.length cp, .bool true])) (X.putObj D (.deferred none)) := by
      have e1 : sgTo M (c.pl.length * M) = l := by rw [h.eq, hs]
      rw [e1]
      exact ⟨a, cp, rfl, hsee2, hcp, h.kp.trans kp (fun k hk => .inr (by simp at hk; omega))⟩
    have hH := hid hfin
    clear hfin kp hsee hsee2 h
    go_wp2_with fail
    refine ⟨by simp, .inl ⟨_, _, rfl, run_takeDeferred hK, ?_⟩⟩
    exact ⟨.tuple #[.slice a l.length cp, .bool true], by simp [results, Try.results12, go_sem], hH.out⟩
  case stop =>
    rintro D c s X hD _ h
    exact h.elim
end Go.Proofs.Ytckicbaidbgonaa
end

section
namespace Go.Proofs.Ytckicbaidbgonaa
open Go.RowKit Go.Hay
set_option linter.unusedVariables false
set_option linter.unusedSimpArgs false

theorem nds_ring (c : Cg) (M : Nat) (A B : Nat) (hM : c.s = (M : Int)) (hn : cntd c = true) (h1 : A < c.pl.length) (h2 : B < M) : (ndsC c (A : Int) (B : Int)).Nodup ∧ ((ndsC c (A : Int) (B : Int)).length : Int) = c.k + 1 := by
  have hq := (cntd_iff c).1 hn
  have hl : liesC c (A : Int) (B : Int) = true := by
    unfold liesC wi
    simp only [Bool.and_eq_true, decide_eq_true_eq]
    omega
  have hr : ndsC c (A : Int) (B : Int) = ring ((B : Int) + (c.pl.getD (A : Int).toNat default).sh) c.n (c.k.toNat + 1) := by unfold ndsC; rw [if_pos hl]
  rw [hr, ring_length]
  exact ⟨ring_nodup _ _ _ (by omega), by omega⟩
theorem sgTo_at (M n j : Nat) (x : Nat × Nat) (h : (sgTo M n)[j]? = some x) : x = (j / M, j % M) := by
  unfold sgTo at h
  rw [List.getElem?_map] at h
  obtain ⟨y, h1, h2⟩ := Option.map_eq_some_iff.1 h
  have := List.getElem?_eq_some_iff.1 h1
  obtain ⟨h3, h4⟩ := this
  simp at h4
  subst h4
  exact h2.symm
theorem nodup_take {l : List Int} (h : l.Nodup) (i : Nat) (hi : i < l.length) : l[i] ∉ l.take i := by
  intro hm
  obtain ⟨k, hk, e⟩ := List.mem_iff_getElem.1 hm
  rw [List.length_take] at hk
  rw [List.getElem_take] at e
  have h2 := (List.pairwise_iff_getElem.1 h) k i (by omega) hi (by omega)
  exact h2 e
def liveTo (G : List Int) (N j : Nat) : List Bool := liveL G j ++ List.replicate (N - j) false
theorem liveL_len (G : List Int) (N : Nat) : (liveL G N).length = N := by simp [liveL]
theorem liveTo_len (G : List Int) (N j : Nat) (h : j ≤ N) : (liveTo G N j).length = N := by simp [liveTo, liveL_len]; omega
theorem liveTo_succ (G : List Int) (N j : Nat) (h : j < N) : liveTo G N (j + 1) = (liveTo G N j).set j (!decide ((j : Int) ∈ G)) := by
  have e1 : N - j = (N - (j + 1)) + 1 := by omega
  have e2 : liveL G (j + 1) = liveL G j ++ [!decide ((j : Int) ∈ G)] := by unfold liveL; rw [List.range_succ, List.map_append]; rfl
  unfold liveTo
  rw [e2, List.set_append, if_neg (by rw [liveL_len]; omega), liveL_len, Nat.sub_self, e1, List.replicate_succ, List.set_cons_zero, List.append_assoc]
  rfl
theorem liveTo_all (G : List Int) (N : Nat) : liveTo G N N = liveL G N := by simp [liveTo]
theorem infoBo : ∃ i : TypeInfo, Try.prog.info? 4 = some i ∧ i.zero = some (.bool false) ∧ i.size = 1 ∧ i.bytes = 1 := infI (by kernel_rfl)
set_option maxHeartbeats 16000000 in
set_option maxRecDepth 100000 in
theorem safeWalk (c : Cg) (ga : Option Addr) (gc : Nat) (G : List Int) (w : World) (hc : c.ok w) (hg : IntE.See w ga G) (hgl : G.length ≤ 9223372036854775807) : Calls Try.prog 5 #[c.v, .slice ga G.length gc] w fun e w' => e = .returned (.bool true) ∧ Below w.heap.size w w' := by
  obtain ⟨W, eW, kW, zW, bC⟩ := boxC c w
  have BB := hid bC
  have KW := hid kW
  have HC := hid (hc.kept kW)
  have zW' : w.heap.size < W.heap.size := by omega
  have hF : Hid (∀ W', Kp [] W W' → (W'.cell? ⟨w.heap.size, 0, none⟩ = some (.int .i64 c.n) ∧ W'.cell? ⟨w.heap.size, 1, none⟩ = some (.int .i64 c.s) ∧ W'.cell? ⟨w.heap.size, 2, none⟩ = some (.int .i64 c.k) ∧ W'.cell? ⟨w.heap.size, 3, none⟩ = some (.slice c.ta c.tl.length c.tc) ∧ W'.cell? ⟨w.heap.size, 4, none⟩ = some (.slice c.pa c.pl.length c.pc))) := fun W' k => by
    have h1 := BB.out.kept k
    exact ⟨h1.get 0 _ rfl, h1.get 1 _ rfl, h1.get 2 _ rfl, h1.get 3 _ rfl, h1.get 4 _ rfl⟩
  have aK := hid (rCheck c W HC.out)
  have aA := hid (fun w' => cAlive w')
  obtain ⟨E, hE⟩ : ∃ E, Hid (chkC c = E) := ⟨_, hid rfl⟩
  rw [hE.out] at aK
  have HG := hid (hg.keptNew kW)
  clear hc hg kW bC zW BB
  simp only [Cg.v] at *
  obtain ⟨c0, c1, c2, c3, c4⟩ := hF.out _ (Kp.refl _ _)
  go_enter Try.func5, Try.ntmps5
  go_wp2_with fail
  refine aK.out.mono ?_
  rintro e w1 ⟨rfl, k1⟩
  have K1 := hid k1
  clear k1 aK c0 c1 c2 c3 c4 eW
  obtain ⟨c0, c1, c2, c3, c4⟩ := hF.out _ K1.out
  by_cases h0 : E = 0
  rotate_left
  · have d0 : (E != 0) = true := by simpa using h0
    go_wp2_with fail
    refine (aA.out _).mono ?_
    rintro e w3 ⟨rfl, k3⟩
    have KF := hid ((KW.out.trans K1.out (by simp)).trans k3 (by simp)).below
    clear k3
    go_wp2_with fail
    go_ret
    exact ⟨rfl, KF.out⟩
  have d0 : (E != 0) = false := by simpa using h0
  have hok := chk_ok (hE.out.trans h0)
  obtain ⟨hn, _, _, hp8, hsh, _⟩ := hok
  have hN := (cntd_iff c).1 hn
  obtain ⟨M, hM⟩ : ∃ M : Nat, c.s = (M : Int) := ⟨c.s.toNat, by omega⟩
  have aS := hid (fun w' => cSegs c M w' hM hn hp8)
  have aN := hid (fun (A B : Int) w' (k : Kp [] W w') => cNodes c A B w' (HC.out.kept k) hn hsh)
  have aI := hid (fun (x : Int) w' (k : Kp [] W w') => rIn ga gc G x w' (HG.out.keptNew k) hgl)
  have aV := hid (fun va vc V w' (k : Kp [] W w') (h : BoE.See w' va V) => cCoveredC c va vc V M w' hM (HC.out.kept k) h hn hsh)
  simp only [Cg.v] at aS aN aV
  have hsm : Hid (c.pl.length * M ≤ 64) := by have h1 : c.pl.length * M ≤ 8 * 8 := Nat.mul_le_mul hp8 (by omega); exact hid (by omega)
  have hsg := hid (sgTo_len M (c.pl.length * M))
  have hM0 : 0 < M := by omega
  have hnr := hid (fun A B h1 h2 => nds_ring c M A B hM hn h1 h2)
  have hnp := hid (fun A B => nds_pos (P := A) (S := B) hn)
  obtain ⟨N, hNn⟩ : ∃ N : Nat, c.n = (N : Int) := ⟨c.n.toNat, by omega⟩
  have hcs := hid (fun ha => cvd_safe c G M N hM hNn hn ha)
  have hN8 : N ≤ 8 := by omega
  have hN1 : 1 ≤ N := by omega
  have hk0 : 0 ≤ c.k := by omega
  have hk8 : c.k ≤ 8 := by omega
  have HNn := hid hNn
  have hsa := hid (fun j x h => sgTo_at M (c.pl.length * M) j x h)
  clear hn hsh hN hM h0 hE hNn
  go_wp2_with fail
  refine (aS.out _).mono ?_
  rintro e w2 ⟨sa, sc, rfl, hss, hsc, k2⟩
  have K2 := hid (K1.out.trans k2 (by simp))
  have HSS := hid hss
  clear k2 hss hsc aS c0 c1 c2 c3 c4 K1
  obtain ⟨SL, hSL⟩ : ∃ l, sgTo M (c.pl.length * M) = l := ⟨_, rfl⟩
  rw [hSL] at HSS hsg
  simp only [hSL] at hsa
  rw [hSL]
  clear hSL
  go_wp2_with fail
  go_loopw [27] (fun nv wr => ∃ j : Nat, j ≤ SL.length ∧ nv = .int .i64 (j : Int) ∧ Hid (Kp [] W wr ∧ SgE.See wr sa SL)) (fun nv _ => SL.length - (intOf nv).toNat)
  case atStart => exact ⟨0, Nat.zero_le _, rfl, hid ⟨K2.out, HSS.out⟩⟩
  case round =>
    obtain ⟨j, hj, rfl, kr⟩ := hrel
    clear K2 HSS
    obtain ⟨c0, c1, c2, c3, c4⟩ := hF.out _ kr.out.1
    by_cases hjl : j < SL.length
    · have hx : SL[j]? = some SL[j] := by simp [hjl]
      obtain ⟨g, o, eg, x0, x1⟩ := sgAt2 kr.out.2 hx
      have i1 : (0 : Int) ≤ (j : Int) := by omega
      have i2 : (j : Int) < (SL.length : Int) := by omega
      have i3 : (j : Int) + 1 ≤ 9223372036854775807 := by have := hsg.out; have := hsm.out; omega
      have hxe := hsa.out j _ hx
      have hA : SL[j].1 < c.pl.length := by
        rw [hxe]
        have h1 := hsg.out
        exact (Nat.div_lt_iff_lt_mul hM0).2 (by omega)
      have hB : SL[j].2 < M := by rw [hxe]; exact Nat.mod_lt _ hM0
      clear hx hxe
      generalize SL[j] = x at *
      obtain ⟨WA, eWA⟩ : ∃ Y, wr.alloc (.cells #[.int .i64 0, .int .i64 0] 31) = Y := ⟨_, rfl⟩
      have kWA : Kp [] wr WA := by rw [← eWA]; exact (Kp.refl _ _).alloc _
      have zWA : WA.heap.size = wr.heap.size + 1 := by rw [← eWA]; simp
      have xWA : Bn WA (wr.heap.size) [.int .i64 0, .int .i64 0] := by rw [← eWA]; exact Bn.new wr [.int .i64 0, .int .i64 0] 31
      obtain ⟨WB, eWB⟩ : ∃ Y, ((WA.setCell ⟨wr.heap.size, 0, none⟩ (.int .i64 (x.1 : Int))).setCell ⟨wr.heap.size, 1, none⟩ (.int .i64 (x.2 : Int))) = Y := ⟨_, rfl⟩
      have kWB : Kp [wr.heap.size] WA WB := by rw [← eWB]; exact (((Kp.refl _ _).setCell (by simp) _).setCell (by simp) _)
      have xWB : Bn WB (wr.heap.size) [.int .i64 (x.1 : Int), .int .i64 (x.2 : Int)] := by rw [← eWB]; exact ((xWA.set 0 (by simp) (.int .i64 (x.1 : Int))).set 1 (by simp) (.int .i64 (x.2 : Int)))
      have zWB := kWB.size
      have ma0 := xWA.get 0 _ rfl; have ma1 := xWA.get 1 _ rfl
      have mf0 := xWA.free 0; have mf1 := xWA.free 1
      have pc0 := xWB.get 0 _ rfl; have pc1 := xWB.get 1 _ rfl
      have kB : Kp [] wr WB := kWA.trans kWB (fun x hx => .inr (by simp at hx; omega))
      have KB := hid (kr.out.1.trans kB (by simp))
      have SB := hid (kr.out.2.keptNew kB)
      obtain ⟨b0, b1, b2, b3, b4⟩ := hF.out _ KB.out
      obtain ⟨hnd, hnl⟩ := hnr.out x.1 x.2 hA hB
      have hps := hid (hnp.out (x.1 : Int) (x.2 : Int))
      have aN2 := hid (aN.out (x.1 : Int) (x.2 : Int) WB KB.out)
      obtain ⟨NL, hNL⟩ : ∃ l, ndsC c (x.1 : Int) (x.2 : Int) = l := ⟨_, rfl⟩
      rw [hNL] at hnd hnl hps aN2
      have HND := hid hnd
      have hz1 : wr.heap.size < WB.heap.size := by omega
      have hz2 : w.heap.size < WB.heap.size := by have := KB.out.size; omega
      obtain ⟨X1, X2⟩ := x
      simp only at *
      have hnl2 : Hid ((NL.length : Int) = c.k + 1) := hid hnl
      have hne : ((NL.length : Int) != c.k + 1) = false := by simpa using hnl
      have hw1 : (-9223372036854775808 : Int) ≤ c.k + 1 := by omega
      have hw2 : c.k + 1 ≤ 9223372036854775807 := by omega
      have hNLl : NL.length ≤ 9 := by omega
      subst eg
      clear hNL hnd hnl kWA kWB xWA xWB kB zWA zWB hA hB
      go_wp2_with fail
      refine aN2.out.mono ?_
      rintro e w3 ⟨na, nc, rfl, hns, hnc, hn8, k3⟩
      have K3 := hid (KB.out.trans k3 (by simp))
      have S3 := hid (SB.out.keptNew k3)
      have HNS := hid hns
      clear k3 hns aN2 b0 b1 b2 b3 b4 c0 c1 c2 c3 c4 x0 x1 eWA eWB ma0 ma1 mf0 mf1 pc0 pc1 KB SB kr
      go_wp2_with fail
      go_loopw [36] (fun iv wn => ∃ i : Nat, i ≤ NL.length ∧ iv = .int .i64 (i : Int) ∧ Kp [] w3 wn) (fun iv _ => NL.length - (intOf iv).toNat)
      case atStart => exact ⟨0, Nat.zero_le _, rfl, Kp.refl _ _⟩
      case round =>
        obtain ⟨i, hi, rfl, kn⟩ := hrel
        by_cases hil : i < NL.length
        · obtain ⟨g, o, eg, y0⟩ := intAt (HNS.out.keptNew kn) i hil
          have hpy := hps.out _ (List.getElem_mem hil)
          have hnt := nodup_take HND.out i hil
          have aIn := hid (fun w' (k : Kp [] wr w') => rIn na nc (NL.take i) NL[i] w' (((HNS.out.keptNew kn).keptNew k).front i) (by rw [List.length_take]; omega))
          rw [decide_eq_false hnt, show (NL.take i).length = i by rw [List.length_take]; omega] at aIn
          have i1 : (0 : Int) ≤ (i : Int) := by omega
          have i2 : (i : Int) < (NL.length : Int) := by omega
          have i3 : (i : Int) + 1 ≤ 9223372036854775807 := by omega
          have i4 : (i : Int) ≤ (nc : Int) := by omega
          have i5 : i ≤ nc := by omega
          clear hnt
          generalize NL[i] = y at *
          have d1 : decide (y < 0) = false := by simpa using hpy.1
          have d2 : decide (c.n ≤ y) = false := by simpa using hpy.2
          have hF2 : Hid (∀ W', Kp [] wr W' → (W'.cell? ⟨g, o + i, none⟩ = some (.int .i64 y) ∧ W'.cell? ⟨w.heap.size, 0, none⟩ = some (.int .i64 c.n))) := fun W' k => ⟨kpAt k y0, (hF.out _ ((K3.out.trans kn (by simp)).trans k (by simp))).1⟩
          have KN := hid kn
          subst eg
          clear hpy y0 kn
          go_wp2_with fail
          refine wp_region_held_drew (S := fun W' => W'.cell? ⟨g, o + i, none⟩ = some (.int .i64 y) ∧ W'.cell? ⟨w.heap.size, 0, none⟩ = some (.int .i64 c.n)) (by kernel_rfl) ?_ (fun hHeld => ?_)
          · exact hF2.out _ (Kp.refl [] wr).drew
          have KD : Hid (Kp [] wr wr.drew) := hid (Kp.refl [] wr).drew
          generalize wr.drew = Wd at *
          refine wpAnyH_take (i := 0) (v := ?_) rfl (by kernel_rfl) (by kernel_rfl) (by kernel_rfl) (fun _ _ _ h => h) (Or.inl ⟨by rfl, ?_⟩) (by assumption) ?_
          rotate_left
          · intro w hSw; (try dsimp only at hSw); go_simp <;> with_reducible rfl
          try simp only [Act.put, List.getElem_toArray, List.getElem_cons_zero, List.getElem_cons_succ, List.setIfInBounds_toArray, List.set_cons_zero, List.set_cons_succ]
          refine wpAnyH_take (i := 1) (v := ?_) rfl (by kernel_rfl) (by kernel_rfl) (by kernel_rfl) (fun _ _ _ h => h) (Or.inl ⟨by rfl, ?_⟩) (by assumption) ?_
          rotate_left
          · intro w hSw; (try dsimp only at hSw); go_simp <;> with_reducible rfl
          try simp only [Act.put, List.getElem_toArray, List.getElem_cons_zero, List.getElem_cons_succ, List.setIfInBounds_toArray, List.set_cons_zero, List.set_cons_succ]
          refine wpAnyH_take (i := 2) (v := ?_) rfl (by kernel_rfl) (by kernel_rfl) (by kernel_rfl) (fun _ _ _ h => h) (Or.inl ⟨by rfl, ?_⟩) (by assumption) ?_
          rotate_left
          · intro w hSw; (try dsimp only at hSw); go_simp <;> with_reducible rfl
          try simp only [Act.put, List.getElem_toArray, List.getElem_cons_zero, List.getElem_cons_succ, List.setIfInBounds_toArray, List.set_cons_zero, List.set_cons_succ]
          refine wpAnyH_take (i := 3) (v := ?_) rfl (by kernel_rfl) (by kernel_rfl) (by kernel_rfl) (fun _ _ _ h => h) (Or.inl ⟨by rfl, ?_⟩) (by assumption) ?_
          rotate_left
          · intro w hSw; (try dsimp only at hSw); go_simp <;> with_reducible rfl
          try simp only [Act.put, List.getElem_toArray, List.getElem_cons_zero, List.getElem_cons_succ, List.setIfInBounds_toArray, List.set_cons_zero, List.set_cons_succ]
          refine wpAnyH_take (i := 4) (v := ?_) rfl (by kernel_rfl) (by kernel_rfl) (by kernel_rfl) (fun _ _ _ h => h) (Or.inl ⟨by rfl, ?_⟩) (by assumption) ?_
          rotate_left
          · intro w hSw; (try dsimp only at hSw); go_simp <;> with_reducible rfl
          try simp only [Act.put, List.getElem_toArray, List.getElem_cons_zero, List.getElem_cons_succ, List.setIfInBounds_toArray, List.set_cons_zero, List.set_cons_succ]
          refine wpAnyH_take (i := 5) (v := ?_) rfl (by kernel_rfl) (by kernel_rfl) (by kernel_rfl) (fun _ _ _ h => h) (Or.inl ⟨by rfl, ?_⟩) (by assumption) ?_
          rotate_left
          · intro w hSw; (try dsimp only at hSw); go_simp <;> with_reducible rfl
          try simp only [Act.put, List.getElem_toArray, List.getElem_cons_zero, List.getElem_cons_succ, List.setIfInBounds_toArray, List.set_cons_zero, List.set_cons_succ]
          refine wpAnyH_take (i := 6) (v := ?_) rfl (by kernel_rfl) (by kernel_rfl) (by kernel_rfl) (fun _ _ _ h => h) (Or.inl ⟨by rfl, ?_⟩) (by assumption) ?_
          rotate_left
          · intro w hSw; (try dsimp only at hSw); go_simp <;> with_reducible rfl
          try simp only [Act.put, List.getElem_toArray, List.getElem_cons_zero, List.getElem_cons_succ, List.setIfInBounds_toArray, List.set_cons_zero, List.set_cons_succ]
          refine wpAnyH_take (i := 7) (v := ?_) rfl (by kernel_rfl) (by kernel_rfl) (by kernel_rfl) (fun _ _ _ h => h) (Or.inl ⟨by rfl, ?_⟩) (by assumption) ?_
          rotate_left
          · intro w hSw; (try dsimp only at hSw); go_simp <;> with_reducible rfl
          try simp only [Act.put, List.getElem_toArray, List.getElem_cons_zero, List.getElem_cons_succ, List.setIfInBounds_toArray, List.set_cons_zero, List.set_cons_succ]
          refine wpAnyH_take (i := 8) (v := ?_) rfl (by kernel_rfl) (by kernel_rfl) (by kernel_rfl) (fun _ _ _ h => h) (Or.inl ⟨by rfl, ?_⟩) (by assumption) ?_
          rotate_left
          · intro w hSw; (try dsimp only at hSw); go_simp <;> with_reducible rfl
          try simp only [Act.put, List.getElem_toArray, List.getElem_cons_zero, List.getElem_cons_succ, List.setIfInBounds_toArray, List.set_cons_zero, List.set_cons_succ]
          refine wpAnyH_take (i := 9) (v := ?_) rfl (by kernel_rfl) (by kernel_rfl) (by kernel_rfl) (fun _ _ _ h => h) (Or.inl ⟨by rfl, ?_⟩) (by assumption) ?_
          rotate_left
          · intro w hSw; (try dsimp only at hSw); go_simp <;> with_reducible rfl
          try simp only [Act.put, List.getElem_toArray, List.getElem_cons_zero, List.getElem_cons_succ, List.setIfInBounds_toArray, List.set_cons_zero, List.set_cons_succ]
          refine wpAnyH_take (i := 10) (v := ?_) rfl (by kernel_rfl) (by kernel_rfl) (by kernel_rfl) (fun _ _ _ h => h) (Or.inl ⟨by rfl, ?_⟩) (by assumption) ?_
          rotate_left
          · intro w hSw; (try dsimp only at hSw); go_simp <;> with_reducible rfl
          try simp only [Act.put, List.getElem_toArray, List.getElem_cons_zero, List.getElem_cons_succ, List.setIfInBounds_toArray, List.set_cons_zero, List.set_cons_succ]
          refine wpAnyH_take (i := 11) (v := ?_) rfl (by kernel_rfl) (by kernel_rfl) (by kernel_rfl) (fun _ _ _ h => h) (Or.inl ⟨by rfl, ?_⟩) (by assumption) ?_
          rotate_left
          · intro w hSw; (try dsimp only at hSw); go_simp <;> with_reducible rfl
          try simp only [Act.put, List.getElem_toArray, List.getElem_cons_zero, List.getElem_cons_succ, List.setIfInBounds_toArray, List.set_cons_zero, List.set_cons_succ]
          refine wpAnyH_take (i := 12) (v := ?_) rfl (by kernel_rfl) (by kernel_rfl) (by kernel_rfl) (fun _ _ _ h => h) (Or.inl ⟨by rfl, ?_⟩) (by assumption) ?_
          rotate_left
          · intro w hSw; (try dsimp only at hSw); go_simp <;> with_reducible rfl
          try simp only [Act.put, List.getElem_toArray, List.getElem_cons_zero, List.getElem_cons_succ, List.setIfInBounds_toArray, List.set_cons_zero, List.set_cons_succ]
          refine wpAnyH_take (i := 13) (v := ?_) rfl (by kernel_rfl) (by kernel_rfl) (by kernel_rfl) (fun _ _ _ h => h) (Or.inl ⟨by rfl, ?_⟩) (by assumption) ?_
          rotate_left
          · intro w hSw; (try dsimp only at hSw); go_simp <;> with_reducible rfl
          try simp only [Act.put, List.getElem_toArray, List.getElem_cons_zero, List.getElem_cons_succ, List.setIfInBounds_toArray, List.set_cons_zero, List.set_cons_succ]
          refine wpAnyH_take (i := 14) (v := ?_) rfl (by kernel_rfl) (by kernel_rfl) (by kernel_rfl) (fun _ _ _ h => h) (Or.inl ⟨by rfl, ?_⟩) (by assumption) ?_
          rotate_left
          · intro w hSw; (try dsimp only at hSw); go_simp <;> with_reducible rfl
          try simp only [Act.put, List.getElem_toArray, List.getElem_cons_zero, List.getElem_cons_succ, List.setIfInBounds_toArray, List.set_cons_zero, List.set_cons_succ]
          refine wpAnyH_take (i := 15) (v := ?_) rfl (by kernel_rfl) (by kernel_rfl) (by kernel_rfl) (fun _ _ _ h => h) (Or.inl ⟨by rfl, ?_⟩) (by assumption) ?_
          rotate_left
          · intro w hSw; (try dsimp only at hSw); go_simp <;> with_reducible rfl
          try simp only [Act.put, List.getElem_toArray, List.getElem_cons_zero, List.getElem_cons_succ, List.setIfInBounds_toArray, List.set_cons_zero, List.set_cons_succ]
          refine wpAnyH_take (i := 16) (v := ?_) rfl (by kernel_rfl) (by kernel_rfl) (by kernel_rfl) (fun _ _ _ h => h) (Or.inl ⟨by rfl, ?_⟩) (by assumption) ?_
          rotate_left
          · intro w hSw; (try dsimp only at hSw); go_simp <;> with_reducible rfl
          try simp only [Act.put, List.getElem_toArray, List.getElem_cons_zero, List.getElem_cons_succ, List.setIfInBounds_toArray, List.set_cons_zero, List.set_cons_succ]
          refine wpAnyH_take (i := 17) (v := ?_) rfl (by kernel_rfl) (by kernel_rfl) (by kernel_rfl) (fun _ _ _ h => h) (Or.inl ⟨by rfl, ?_⟩) (by assumption) ?_
          rotate_left
          · intro w hSw; (try dsimp only at hSw); go_simp <;> with_reducible rfl
          try simp only [Act.put, List.getElem_toArray, List.getElem_cons_zero, List.getElem_cons_succ, List.setIfInBounds_toArray, List.set_cons_zero, List.set_cons_succ]
          refine wpAnyH_take (i := 18) (v := ?_) rfl (by kernel_rfl) (by kernel_rfl) (by kernel_rfl) (fun _ _ _ h => h) (Or.inl ⟨by rfl, ?_⟩) (by assumption) ?_
          rotate_left
          · intro w hSw; (try dsimp only at hSw); go_simp <;> with_reducible rfl
          try simp only [Act.put, List.getElem_toArray, List.getElem_cons_zero, List.getElem_cons_succ, List.setIfInBounds_toArray, List.set_cons_zero, List.set_cons_succ]
          refine wpAnyH_take (i := 19) (v := ?_) rfl (by kernel_rfl) (by kernel_rfl) (by kernel_rfl) (fun _ _ _ h => h) (Or.inl ⟨by rfl, ?_⟩) (by assumption) ?_
          rotate_left
          · intro w hSw; (try dsimp only at hSw); go_simp <;> with_reducible rfl
          try simp only [Act.put, List.getElem_toArray, List.getElem_cons_zero, List.getElem_cons_succ, List.setIfInBounds_toArray, List.set_cons_zero, List.set_cons_succ]
          refine wpAnyH_take (i := 20) (v := ?_) rfl (by kernel_rfl) (by kernel_rfl) (by kernel_rfl) (fun _ _ _ h => h) (Or.inl ⟨by rfl, ?_⟩) (by assumption) ?_
          rotate_left
          · intro w hSw; (try dsimp only at hSw); go_simp <;> with_reducible rfl
          try simp only [Act.put, List.getElem_toArray, List.getElem_cons_zero, List.getElem_cons_succ, List.setIfInBounds_toArray, List.set_cons_zero, List.set_cons_succ]
          refine wpAnyH_take (i := 21) (v := ?_) rfl (by kernel_rfl) (by kernel_rfl) (by kernel_rfl) (fun _ _ _ h => h) (Or.inl ⟨by rfl, ?_⟩) (by assumption) ?_
          rotate_left
          · intro w hSw; (try dsimp only at hSw); go_simp <;> with_reducible rfl
          try simp only [Act.put, List.getElem_toArray, List.getElem_cons_zero, List.getElem_cons_succ, List.setIfInBounds_toArray, List.set_cons_zero, List.set_cons_succ]
          refine wpAnyH_ready (rs := [22]) (by kernel_rfl) (by simp) ?_
          refine AllReadyH.cons rfl (fun K hK => ?_) AllReadyH.nil
          go_simp
          refine (aIn.out Wd KD.out).mono ?_
          rintro e u1 ⟨rfl, l1⟩
          (try go_wp2_with fail)
          refine hK.out _ _ ?_ (fun hHeld => ?_)
          · exact hF2.out _ (KD.out.trans l1 (by simp))
          clear hK K
          try simp only [Act.put, List.getElem_toArray, List.getElem_cons_zero, List.getElem_cons_succ, List.setIfInBounds_toArray, List.set_cons_zero, List.set_cons_succ]
          have L1 := hid (KN.out.trans (KD.out.trans l1 (by simp)) (by simp))
          clear l1
          refine wpAnyH_take (i := 23) (v := ?_) rfl (by kernel_rfl) (by kernel_rfl) (by kernel_rfl) (fun _ _ _ h => h) (Or.inl ⟨by rfl, ?_⟩) (by assumption) ?_
          rotate_left
          · intro w hSw; (try dsimp only at hSw); go_simp <;> with_reducible rfl
          try simp only [Act.put, List.getElem_toArray, List.getElem_cons_zero, List.getElem_cons_succ, List.setIfInBounds_toArray, List.set_cons_zero, List.set_cons_succ]
          refine wpAnyH_done (by kernel_rfl) ?_ _
          clear hHeld hF2 aIn KD
          go_wp2_with fail
          exact ⟨⟨i + 1, by omega, by go_num, L1.out⟩, by simp [intOf]; omega⟩
        · have e : i = NL.length := by omega
          subst e
          obtain ⟨c0, c1, c2, c3, c4⟩ := hF.out _ (K3.out.trans kn (by simp))
          have H3 := hid (And.intro (K3.out.trans kn (by simp)) (S3.out.keptNew kn))
          clear kn
          go_wp2_with fail
          exact ⟨⟨j + 1, by omega, by go_num, H3⟩, by simp [intOf]; omega⟩
    · have e : j = SL.length := by omega
      subst e
      rw [HNn.out] at c0
      obtain ⟨i0, hi, hz0, hz1, hz2⟩ := infoBo
      obtain ⟨W3, hmk, hrow3, k3, hs3⟩ := run_makeG (E := BoE) (P := Try.prog) wr 32 4 i0 (.bool false) false 1 Try.underlying32 hi hz0 hz1 hz2 rfl .i64 .i64 N (by omega) (by unfold maxLen; omega)
      have hrw0 : Hid (BoE.Row W3 (.slice (some ⟨wr.heap.size, 0, none⟩) N N) (liveTo G N 0)) := hid (by simpa [liveTo, liveL] using hrow3)
      have K3 := hid (kr.out.1.trans k3 (by simp))
      have hz23 := hid kr.out.1.size
      clear hi hz0 hz1 hz2 hrow3 k3 hs3 aN hnr hnp hsa hsg
      go_wp2_with fail
      clear hmk c0 c1 c2 c3 c4
      obtain ⟨q, hq⟩ : ∃ q, wr.heap.size = q := ⟨_, rfl⟩
      rw [hq] at hrw0 hz23
      rw [hq]
      clear hq kr
      go_loopw [12, 76] (fun av iv wn => ∃ (j A : Nat), j ≤ N ∧ iv = .int .i64 (j : Int) ∧ av = .int .i64 (A : Int) ∧ Hid (A = awayTo G j) ∧ Hid (BoE.Row wn (.slice (some ⟨q, 0, none⟩) N N) (liveTo G N j)) ∧ Hid (Kp [] W wn)) (fun _ iv _ => N - (intOf iv).toNat)
      case atStart => exact ⟨0, 0, Nat.zero_le _, rfl, rfl, hid rfl, hrw0, K3⟩
      case round =>
        obtain ⟨j, A, hj, rfl, rfl, hA, hrow, kn⟩ := hrel
        clear hrw0 K3
        by_cases hlt : j < N
        · have hAl : A ≤ 8 := by rw [hA.out]; have := awayTo_le G j; omega
          have hAs := hid (awayTo_succ G j)
          rw [← hA.out] at hAs
          have aI2 := hid (aI.out (j : Int) wr kn.out)
          have hsu := hid (liveTo_succ G N j hlt)
          have i1 : (0 : Int) ≤ (j : Int) := by omega
          have i2 : (j : Int) < (N : Int) := by omega
          have i3 : (j : Int) + 1 ≤ 9223372036854775807 := by omega
          have i4 : (A : Int) + 1 ≤ 9223372036854775807 := by omega
          go_wp2_with fail
          refine aI2.out.mono ?_
          rintro e u1 ⟨rfl, l1⟩
          have R1 := hid (hrow.out.keptNew l1)
          have K1 := hid (kn.out.trans l1 (by simp))
          have hcf : (∃ u, u1.cell? ⟨q, j, none⟩ = some u) ∧ u1.frozen? ⟨q, j, none⟩ = false := by
            rcases R1.out with ⟨e, _⟩ | ⟨g', o', c', e, r1, r2, r3, r4, r5⟩
            · cases e
            · injection e with e1 e2 e3
              injection e1 with e1
              injection e1 with e4 e5
              subst e3 e4 e5
              have := r5 j (by show j < N * 1; omega)
              rw [Nat.zero_add] at this
              exact ⟨Option.isSome_iff_exists.1 this.1, this.2⟩
          obtain ⟨⟨u, hu⟩, hf⟩ := hcf
          have zq : q < u1.heap.size := World.block_lt_of_cell? _ _ hu
          clear l1 aI2 hrow kn
          by_cases hin : (j : Int) ∈ G
          · have hput := R1.out.setAt j (by rw [liveTo_len _ _ _ hj]; exact hlt) false
            have hsu2 : Hid ((liveTo G N j).set j false = liveTo G N (j + 1)) := hid (by rw [hsu.out]; simp [hin])
            have hA2 : Hid (A + 1 = awayTo G (j + 1)) := hid (by rw [hAs.out, if_pos hin])
            rw [hsu2.out] at hput
            rw [decide_eq_true hin]
            obtain ⟨W5, hW5⟩ : ∃ Y, u1.setCell ⟨q, j, none⟩ (.bool false) = Y := ⟨_, rfl⟩
            have eW : Hid (u1.setCells q (0 + j * BoE.n) (BoE.c false) = u1.setCell ⟨q, j, none⟩ (.bool false)) := by
              show _ = _
              have : BoE.n = 1 := rfl
              rw [this]
              simp [BoE, World.setCells]
            rw [eW.out, hW5] at hput
            have c5 : W5.cell? ⟨q, j, none⟩ = some (.bool false) := by rw [← hW5]; exact World.cell?_setCell_same _ _ _ hu
            have kf : Hid (Kp [] W W5) := hid (by rw [← hW5]; exact K1.out.setCell (p := ⟨q, j, none⟩) (.inr (by simpa using hz23.out)) _)
            have HP := hid hput
            clear hput eW hsu hsu2 hAs R1 K1 hin
            go_wp2_with fail
            exact ⟨⟨j + 1, A + 1, by omega, by go_num, by go_num, hA2, HP, kf⟩, by simp [intOf]; omega⟩
          · have hput := R1.out.setAt j (by rw [liveTo_len _ _ _ hj]; exact hlt) true
            have hsu2 : Hid ((liveTo G N j).set j true = liveTo G N (j + 1)) := hid (by rw [hsu.out]; simp [hin])
            have hA2 : Hid (A = awayTo G (j + 1)) := hid (by rw [hAs.out, if_neg hin]; rfl)
            rw [hsu2.out] at hput
            rw [decide_eq_false hin]
            obtain ⟨W5, hW5⟩ : ∃ Y, u1.setCell ⟨q, j, none⟩ (.bool true) = Y := ⟨_, rfl⟩
            have eW : Hid (u1.setCells q (0 + j * BoE.n) (BoE.c true) = u1.setCell ⟨q, j, none⟩ (.bool true)) := by
              show _ = _
              have : BoE.n = 1 := rfl
              rw [this]
              simp [BoE, World.setCells]
            rw [eW.out, hW5] at hput
            have c5 : W5.cell? ⟨q, j, none⟩ = some (.bool true) := by rw [← hW5]; exact World.cell?_setCell_same _ _ _ hu
            have kf : Hid (Kp [] W W5) := hid (by rw [← hW5]; exact K1.out.setCell (p := ⟨q, j, none⟩) (.inr (by simpa using hz23.out)) _)
            have HP := hid hput
            clear hput eW hsu hsu2 hAs R1 K1 hin
            go_wp2_with fail
            exact ⟨⟨j + 1, A, by omega, by go_num, rfl, hA2, HP, kf⟩, by simp [intOf]; omega⟩
        · have e : j = N := by omega
          subst e
          rw [liveTo_all] at hrow
          have hlen := liveL_len G j
          have hsee : BoE.See wr (some ⟨q, 0, none⟩) (liveL G j) := by
            obtain ⟨_, _, e, h, _⟩ := hrow.out.see
            rw [(Value.slice.inj e).1]
            exact h
          have HSee := hid hsee
          clear hsee hrow
          go_wp2_with fail
          refine (aA.out _).mono ?_
          rintro e u1 ⟨rfl, l1⟩
          have K1 := hid (kn.out.trans l1 (by simp))
          have S1 := hid (HSee.out.keptNew l1)
          clear l1 kn HSee
          obtain ⟨c0, c1, c2, c3, c4⟩ := hF.out _ K1.out
          by_cases hgt : c.k < (A : Int)
          · have d1 : decide (c.k < (A : Int)) = true := by simpa using hgt
            go_wp2_with fail
            go_ret
            exact ⟨rfl, (KW.out.trans K1.out (by simp)).below⟩
          · have d1 : decide (c.k < (A : Int)) = false := by simpa using hgt
            have hq := hcs.out (by rw [← hA.out]; omega)
            have aV2 := hid (aV.out (some ⟨q, 0, none⟩) j (liveL G j) u1 K1.out S1.out)
            rw [hq, hlen] at aV2
            clear hq hlen hgt
            go_wp2_with fail
            refine aV2.out.mono ?_
            rintro e u2 ⟨rfl, l2⟩
            have K2 := hid (K1.out.trans l2 (by simp))
            clear l2
            go_wp2_with fail
            go_ret
            exact ⟨rfl, (KW.out.trans K2.out (by simp)).below⟩
end Go.Proofs.Ytckicbaidbgonaa
end

section
namespace Go.Proofs.Ytckicbaidbgonaa
open Go.RowKit Go.Hay
set_option linter.unusedVariables false
set_option linter.unusedSimpArgs false

/-- Values' cells. -/
def vcells (l : List Val) : List Value := l.flatMap fun x => [.int .i64 x.k, .bool x.b, .int .i64 x.n, .string x.t]
theorem vcells_length (l : List Val) : (vcells l).length = l.length * 4 := by
  induction l with
  | nil => rfl
  | cons x l ih => simp only [vcells, List.flatMap_cons, List.length_append, List.length_cons, List.length_nil] at ih ⊢; omega
theorem vcells_append (a b : List Val) : vcells (a ++ b) = vcells a ++ vcells b := by simp [vcells]
theorem vcells_one (l : List Val) : ∀ u ∈ vcells l, u.oneCell' = true := by
  intro u hu
  obtain ⟨x, _, hx⟩ := List.mem_flatMap.1 hu
  simp at hx
  rcases hx with rfl | rfl | rfl | rfl <;> rfl
theorem vcells_cons (x : Val) (l : List Val) : vcells (x :: l) = [.int .i64 x.k, .bool x.b, .int .i64 x.n, .string x.t] ++ vcells l := rfl
theorem vcells_at (l : List Val) : ∀ (j : Nat) (x : Val), l[j]? = some x → (vcells l)[j * 4]? = some (.int .i64 x.k) ∧ (vcells l)[j * 4 + 1]? = some (.bool x.b) ∧ (vcells l)[j * 4 + 2]? = some (.int .i64 x.n) ∧ (vcells l)[j * 4 + 3]? = some (.string x.t) := by
  induction l with
  | nil => intro j x h; simp at h
  | cons y l ih =>
    intro j x h
    cases j with
    | zero => cases h; exact ⟨rfl, rfl, rfl, rfl⟩
    | succ j =>
      have := ih j x (by simpa using h)
      rw [vcells_cons, show (j + 1) * 4 = j * 4 + 4 by omega]
      simpa using this
theorem vcells_src (l : List Val) (w : World) (g o : Nat) (hc : ∀ j x, l[j]? = some x → w.cell? ⟨g, o + j * 4, none⟩ = some (.int .i64 x.k) ∧ w.cell? ⟨g, o + j * 4 + 1, none⟩ = some (.bool x.b) ∧ w.cell? ⟨g, o + j * 4 + 2, none⟩ = some (.int .i64 x.n) ∧ w.cell? ⟨g, o + j * 4 + 3, none⟩ = some (.string x.t)) (j : Nat) (u : Value) (h : (vcells l)[j]? = some u) : w.cell? ⟨g, o + j, none⟩ = some u := by
  have hj : j < (vcells l).length := (List.getElem?_eq_some_iff.1 h).1
  rw [vcells_length] at hj
  have hq : j / 4 < l.length := by omega
  obtain ⟨e0, e1, e2, e3⟩ := vcells_at l (j / 4) l[j / 4] (by simp)
  obtain ⟨c0, c1, c2, c3⟩ := hc (j / 4) l[j / 4] (by simp)
  rcases (by omega : j % 4 = 0 ∨ j % 4 = 1 ∨ j % 4 = 2 ∨ j % 4 = 3) with h4 | h4 | h4 | h4
  · rw [show j = j / 4 * 4 by omega] at h ⊢; rw [e0] at h; cases h; exact c0
  · rw [show j = j / 4 * 4 + 1 by omega] at h ⊢; rw [e1] at h; cases h; exact c1
  · rw [show j = j / 4 * 4 + 2 by omega] at h ⊢; rw [e2] at h; cases h; exact c2
  · rw [show j = j / 4 * 4 + 3 by omega] at h ⊢; rw [e3] at h; cases h; exact c3

/-- A row of values of the call's own. -/
def RowV (w0 w : World) (v : Value) (l : List Val) : Prop := w.ownsRow w0.heap.size 88 4 v l.length (vcells l)
theorem RowV.vals {w0 w : World} {v : Value} {l : List Val} (h : RowV w0 w v l) : ∃ a c, v = .slice a l.length c ∧ Vals w a l ∧ l.length ≤ c ∧ c ≤ maxLen := by
  obtain ⟨_, ⟨rfl, h0⟩ | ⟨g, cap, cur, rfl, _, hg, hl, hm, hsz, ht⟩⟩ := h
  · obtain rfl : l = [] := List.length_eq_zero_iff.1 h0
    exact ⟨none, 0, rfl, .inl rfl, Nat.le_refl _, Nat.zero_le _⟩
  · refine ⟨some ⟨g, 0, none⟩, cap, rfl, .inr ⟨g, 0, rfl, fun j x hx => ?_⟩, hl, hm⟩
    have cell : ∀ i u, (vcells l)[i]? = some u → w.cell? ⟨g, 0 + i, none⟩ = some u := fun i u hu => by
      rw [← ht, List.getElem?_take] at hu
      split at hu
      · rw [Nat.zero_add, World.cell?, hg]; simpa using hu
      · cases hu
    obtain ⟨e0, e1, e2, e3⟩ := vcells_at l j x hx
    exact ⟨cell _ _ e0, by rw [Nat.add_assoc]; exact cell _ _ e1, by rw [Nat.add_assoc]; exact cell _ _ e2, by rw [Nat.add_assoc]; exact cell _ _ e3⟩
theorem RowV.fresh {w0 w : World} (h : w0.heap.size ≤ w.heap.size) : RowV w0 (w.alloc (.cells #[] 88)) (.slice (some ⟨w.heap.size, 0, none⟩) 0 0) [] :=
  ⟨rfl, .inr ⟨w.heap.size, 0, #[], rfl, h, by show (w.heap.push _)[w.heap.size]? = _; exact Array.getElem?_push_size, Nat.le_refl _, Nat.zero_le _, rfl, rfl⟩⟩
theorem RowV.own {w0 w : World} {v : Value} {l : List Val} (h : RowV w0 w v l) : ∀ k, v.ownBlock = some k → w0.heap.size ≤ k := by
  obtain ⟨_, ⟨rfl, _⟩ | ⟨g, cap, cur, rfl, hb, _⟩⟩ := h
  · intro k hk; cases hk
  · intro k hk; cases hk; exact hb
theorem kpGrown {w0 w w' : World} {row : Option Nat} (h : Kp [] w0 w) (hg : w.grownBy w' row) (hr : ∀ k, row = some k → w0.heap.size ≤ k) : Kp [] w0 w' :=
  ⟨hg.os.trans h.os, hg.tape.trans h.tape, hg.output.trans h.output, Nat.le_trans h.size hg.size, fun k hk hS => (hg.block k (Nat.lt_of_lt_of_le hk h.size) (fun e => by have := hr k e.symm; omega)).trans (h.block k hk hS)⟩

theorem Vals.single (w : World) (x : Val) (t : TypeId) : Vals (w.alloc (.cells #[.int .i64 x.k, .bool x.b, .int .i64 x.n, .string x.t] t)) (some ⟨w.heap.size, 0, none⟩) [x] := by
  refine .inr ⟨_, _, rfl, fun j z hz => ?_⟩
  match j, hz with
  | 0, hz => cases hz; exact ⟨World.cell?_alloc_new w _ _ 0, World.cell?_alloc_new w _ _ 1, World.cell?_alloc_new w _ _ 2, World.cell?_alloc_new w _ _ 3⟩
  | j + 1, hz => simp at hz
theorem RowV.kept {w0 w w' : World} {v : Value} {l : List Val} (h : RowV w0 w v l) (hk : Kp [] w w') : RowV w0 w' v l := by
  obtain ⟨h1, h2 | ⟨g, cap, cur, h3, hb, hg, h4⟩⟩ := h
  · exact ⟨h1, .inl h2⟩
  · refine ⟨h1, .inr ⟨g, cap, cur, h3, hb, ?_, h4⟩⟩
    have hlt : g < w.heap.size := by
      rcases Nat.lt_or_ge g w.heap.size with h' | h'
      · exact h'
      · rw [Array.getElem?_eq_none h'] at hg; cases hg
    rw [hk.block g hlt (by simp)]
    exact hg
theorem info4 {P : Program} {t : TypeId} {z : Value} {a b : Nat} (h : (P.info? t).map (fun i => (i.zero, i.size, i.bytes)) = some (some z, a, b)) : ∃ i, P.info? t = some i ∧ i.zero = some z ∧ i.size = a ∧ i.bytes = b := by
  cases hp : P.info? t with
  | none => rw [hp] at h; cases h
  | some i =>
    rw [hp] at h
    simp at h
    exact ⟨i, rfl, h.1, h.2.1, h.2.2⟩
theorem infoV : ∃ i : TypeInfo, Try.prog.info? 88 = some i ∧ i.zero = some (.agg #[.int .i64 0, .bool false, .int .i64 0, .string ⟨#[]⟩]) ∧ i.size = 4 ∧ i.bytes = 40 := info4 (by kernel_rfl)

/-- An append of values onto a row of the call's own, for the walk. -/
theorem wpAppendV {w : World} {ops : Array Oper} {rest : List Oper} {o : Oper} {a : Act} {Q : Exit → Act → World → Prop} (hgd : o.guard = none) (s x : Operand)
    (ho : o.op = .call { callee := .builtin .append, args := #[s, x], argTypes := #[46, 46] })
    (w0 : World) (v : Value) (l : List Val) (hs : a.eval s = v) (hown : RowV w0 w v l) (src : Option Addr) (m c : Nat) (r : List Val) (hx : a.eval x = .slice src m c) (hmr : m = r.length) (hr : Vals w src r) (hc : src = none → c = 0)
    (hb : l.length + r.length ≤ 4000000000000) (hk : Kp [] w0 w)
    (h : ∀ v' w', RowV w0 w' v' (l ++ r) → Kp [] w0 w' → wpList Try.prog ops Q rest (a.put o.dst v') w') : wpList Try.prog ops Q (o :: rest) a w := by
  obtain ⟨i, hi, hz, hz1, hz2⟩ := infoV
  subst hmr
  cases src with
  | none =>
    obtain rfl : r = [] := by rcases hr with h | ⟨g, o, h, _⟩; exact h; cases h
    rw [hc rfl] at hx
    exact wpList_append_own_none hgd s x 46 ho w0.heap.size 88 i 4 Try.underlying46 hi v l.length (vcells l) hs hown hx (h v w (by simpa using hown) hk)
  | some ad =>
    refine wpList_append_own_wide w hgd s x 46 ho w0.heap.size 88 i _ 4 40 Try.underlying46 hi hz hz1 hz2 rfl (by omega) v l.length (vcells l) hs hown ad r.length c (vcells r) hx (vcells_length r) ?_ (vcells_one r) (by unfold maxLen; omega) (by omega) hk.size ?_
    · intro j u hu
      rcases hr with rfl | ⟨g, o', hg, hcell⟩
      · simp [vcells] at hu
      · cases hg
        rw [Addr.add_lit]
        exact vcells_src r w g o' hcell j u hu
    · intro v' w' h2 h3 _
      exact h v' w' (by unfold RowV; rw [List.length_append, vcells_append]; exact h2) (kpGrown hk h3 hown.own)
end Go.Proofs.Ytckicbaidbgonaa
end

section
namespace Go.Proofs.Ytckicbaidbgonaa
open Go.RowKit Go.Hay
set_option linter.unusedVariables false
set_option linter.unusedSimpArgs false

def nulV : Val := ⟨0, false, 0, ⟨#[]⟩⟩
def VE : El Val where
  n := 4
  c x := [.int .i64 x.k, .bool x.b, .int .i64 x.n, .string x.t]
  len _ := rfl
  one _ u hu := by simp at hu; rcases hu with rfl | rfl | rfl | rfl <;> rfl
  pos := by decide
theorem seeV {w : World} {a : Option Addr} {l : List Val} : VE.See w a l ↔ Vals w a l := by
  constructor
  · intro h
    by_cases hl : l = []
    · exact .inl hl
    · rcases h with h | ⟨g, o, rfl, hc⟩
      · exact absurd h hl
      · refine .inr ⟨g, o, rfl, fun j x hx => ?_⟩
        have e : ∀ k u, k < 4 → (VE.c x)[k]? = some u → w.cell? ⟨g, o + j * 4 + k, none⟩ = some u := fun k u hk hu => by
          have := hc (j * 4 + k) u ((El.cs_get VE hx hk).trans hu)
          rwa [← Nat.add_assoc] at this
        exact ⟨e 0 _ (by omega) rfl, e 1 _ (by omega) rfl, e 2 _ (by omega) rfl, e 3 _ (by omega) rfl⟩
  · rintro (h | ⟨g, o, rfl, hc⟩)
    · exact .inl h
    · refine .inr ⟨g, o, rfl, fun j u hu => ?_⟩
      have hj : j < l.length * 4 := by have := (List.getElem?_eq_some_iff.1 hu).1; rwa [El.cs_length] at this
      have hq : j / 4 < l.length := by omega
      have hx : l[j / 4]? = some l[j / 4] := by simp [hq]
      have hg := El.cs_get VE hx (k := j % 4) (Nat.mod_lt _ (by decide))
      have e4 : VE.n = 4 := rfl
      rw [e4, show j / 4 * 4 + j % 4 = j by omega, hu] at hg
      obtain ⟨c0, c1, c2, c3⟩ := hc (j / 4) _ hx
      have hm : j % 4 = 0 ∨ j % 4 = 1 ∨ j % 4 = 2 ∨ j % 4 = 3 := by omega
      have ho : o + j = o + j / 4 * 4 + j % 4 := by omega
      rw [ho]
      rcases hm with h | h | h | h <;> rw [h] at hg ⊢ <;> cases hg <;> assumption
/-- New bytes. -/
def NB (bs : List UInt8) (w : World) (e : Ending) (w' : World) : Prop := ∃ a c, e = .returned (.slice a bs.length c) ∧ Row w' (.slice a bs.length c) bs ∧ Kp [] w w' ∧ ∀ k ∈ blk a, w.heap.size ≤ k
end Go.Proofs.Ytckicbaidbgonaa
end

section
namespace Go.Proofs.Ytckicbaidbgonaa
open Go.RowKit Go.Hay
set_option linter.unusedVariables false
set_option linter.unusedSimpArgs false

/-- A row's value at a place. -/
def vAt (l : List Val) (n : Int) : Val := if 0 ≤ n ∧ n < (l.length : Int) then l.getD n.toNat nulV else nulV
theorem vAt_in (l : List Val) (i : Nat) (h : i < l.length) : vAt l (i : Int) = l[i] := by
  unfold vAt
  rw [if_pos (by omega)]
  simp [h]
theorem vAt_out (l : List Val) (n : Int) (h : ¬ (0 ≤ n ∧ n < (l.length : Int))) : vAt l n = nulV := by unfold vAt; rw [if_neg h]
set_option maxHeartbeats 4000000 in
set_option maxRecDepth 100000 in
theorem cValAt (a : Option Addr) (cap : Nat) (l : List Val) (n : Int) (w : World) (hs : VE.See w a l) (hl : l.length ≤ 9223372036854775807) : Calls Try.prog 46 #[.slice a l.length cap, .int .i64 n] w fun e w' => e = .returned (vAt l n).v ∧ Kp [] w w' := by
  by_cases h : 0 ≤ n ∧ n < (l.length : Int)
  · obtain ⟨i, rfl⟩ := Int.eq_ofNat_of_zero_le h.1
    have hil : i < l.length := by omega
    rw [vAt_in l i hil]
    have hx : l[i]? = some l[i] := by simp [hil]
    obtain ⟨W0, eW0⟩ : ∃ Y, w.alloc (.cells #[.int .i64 0, .bool false, .int .i64 0, .string ⟨#[]⟩] 88) = Y := ⟨_, rfl⟩
    have k0 : Kp [] w W0 := by rw [← eW0]; exact (Kp.refl _ _).alloc _
    obtain ⟨g, o, rfl, hc⟩ := (hs.keptNew k0).at hx
    have v0 := hc 0 _ rfl; have v1 := hc 1 _ rfl; have v2 := hc 2 _ rfl; have v3 := hc 3 _ rfl
    simp only [show VE.n = 4 from rfl, Nat.add_zero] at v0 v1 v2 v3
    have i1 : (0 : Int) ≤ (i : Int) := by omega
    have i2 : (i : Int) < (l.length : Int) := by omega
    have d1 : decide ((i : Int) < 0) = false := by simp
    have d2 : decide ((l.length : Int) ≤ (i : Int)) = false := by simp; omega
    have d2n : decide (l.length ≤ i) = false := by simp; omega
    have hw : wi (i : Int) (l.length : Int) = true := by unfold wi; simp; omega
    have aW := hid (cWithin (i : Int) (l.length : Int))
    rw [hw] at aW
    clear hc hx hw
    generalize l[i] = v at *
    subst eW0
    obtain ⟨vk, vb, vn, vt⟩ := v
    simp only at *
    obtain ⟨WA, eWA⟩ : ∃ Y, w.alloc (.cells #[.int .i64 0, .bool false, .int .i64 0, .string ⟨#[]⟩] 88) = Y := ⟨_, rfl⟩
    have kWA : Kp [] w WA := by rw [← eWA]; exact (Kp.refl _ _).alloc _
    have zWA : WA.heap.size = w.heap.size + 1 := by rw [← eWA]; simp
    have xWA : Bn WA (w.heap.size) [.int .i64 0, .bool false, .int .i64 0, .string ⟨#[]⟩] := by rw [← eWA]; exact Bn.new w [.int .i64 0, .bool false, .int .i64 0, .string ⟨#[]⟩] 88
    obtain ⟨WB, eWB⟩ : ∃ Y, ((((WA.setCell ⟨w.heap.size, 0, none⟩ (.int .i64 vk)).setCell ⟨w.heap.size, 1, none⟩ (.bool vb)).setCell ⟨w.heap.size, 2, none⟩ (.int .i64 vn)).setCell ⟨w.heap.size, 3, none⟩ (.string vt)) = Y := ⟨_, rfl⟩
    have kWB : Kp [w.heap.size] WA WB := by rw [← eWB]; exact (((((Kp.refl _ _).setCell (by simp) _).setCell (by simp) _).setCell (by simp) _).setCell (by simp) _)
    have xWB : Bn WB (w.heap.size) [.int .i64 vk, .bool vb, .int .i64 vn, .string vt] := by rw [← eWB]; exact ((((xWA.set 0 (by simp) (.int .i64 vk)).set 1 (by simp) (.bool vb)).set 2 (by simp) (.int .i64 vn)).set 3 (by simp) (.string vt))
    have zWB := kWB.size
    have ma0 := xWA.get 0 _ rfl; have ma1 := xWA.get 1 _ rfl; have ma2 := xWA.get 2 _ rfl; have ma3 := xWA.get 3 _ rfl
    have mf0 := xWA.free 0; have mf1 := xWA.free 1; have mf2 := xWA.free 2; have mf3 := xWA.free 3
    have pc0 := xWB.get 0 _ rfl; have pc1 := xWB.get 1 _ rfl; have pc2 := xWB.get 2 _ rfl; have pc3 := xWB.get 3 _ rfl
    have kB : Kp [] w WB := kWA.trans kWB (fun x hx => .inr (by simp at hx; omega))
    rw [eWA] at v0 v1 v2 v3
    have KB := hid kB
    clear kWA kWB xWA xWB kB k0
    unfold Val.v
    go_enter Try.func46, Try.ntmps46
    go_wp2_with fail
    refine (aW.out _).mono ?_
    rintro e w1 ⟨rfl, rfl⟩
    go_wp2_with fail
    exact bodyPost_ret (v := .agg #[.int .i64 vk, .bool vb, .int .i64 vn, .string vt]) (by simp [results, Try.results46, go_sem, pc0, pc1, pc2, pc3]) rfl ⟨rfl, KB.out⟩
  · rw [vAt_out l n h]
    obtain ⟨WA, eWA⟩ : ∃ Y, w.alloc (.cells #[.int .i64 0, .bool false, .int .i64 0, .string ⟨#[]⟩] 88) = Y := ⟨_, rfl⟩
    have kWA : Kp [] w WA := by rw [← eWA]; exact (Kp.refl _ _).alloc _
    have zWA : WA.heap.size = w.heap.size + 1 := by rw [← eWA]; simp
    have xWA : Bn WA (w.heap.size) [.int .i64 0, .bool false, .int .i64 0, .string ⟨#[]⟩] := by rw [← eWA]; exact Bn.new w [.int .i64 0, .bool false, .int .i64 0, .string ⟨#[]⟩] 88
    obtain ⟨WB, eWB⟩ : ∃ Y, ((((WA.setCell ⟨w.heap.size, 0, none⟩ (.int .i64 0)).setCell ⟨w.heap.size, 1, none⟩ (.bool false)).setCell ⟨w.heap.size, 2, none⟩ (.int .i64 0)).setCell ⟨w.heap.size, 3, none⟩ (.string ⟨#[]⟩)) = Y := ⟨_, rfl⟩
    have kWB : Kp [w.heap.size] WA WB := by rw [← eWB]; exact (((((Kp.refl _ _).setCell (by simp) _).setCell (by simp) _).setCell (by simp) _).setCell (by simp) _)
    have xWB : Bn WB (w.heap.size) [.int .i64 0, .bool false, .int .i64 0, .string ⟨#[]⟩] := by rw [← eWB]; exact ((((xWA.set 0 (by simp) (.int .i64 0)).set 1 (by simp) (.bool false)).set 2 (by simp) (.int .i64 0)).set 3 (by simp) (.string ⟨#[]⟩))
    have zWB := kWB.size
    have ma0 := xWA.get 0 _ rfl; have ma1 := xWA.get 1 _ rfl; have ma2 := xWA.get 2 _ rfl; have ma3 := xWA.get 3 _ rfl
    have mf0 := xWA.free 0; have mf1 := xWA.free 1; have mf2 := xWA.free 2; have mf3 := xWA.free 3
    have pc0 := xWB.get 0 _ rfl; have pc1 := xWB.get 1 _ rfl; have pc2 := xWB.get 2 _ rfl; have pc3 := xWB.get 3 _ rfl
    have kB : Kp [] w WB := kWA.trans kWB (fun x hx => .inr (by simp at hx; omega))
    have hw : wi n (l.length : Int) = false := by unfold wi; simp; omega
    have aW := hid (cWithin n (l.length : Int))
    rw [hw] at aW
    have KB := hid kB
    have XA := hid xWA
    have KA := hid kWA
    have zWA' : w.heap.size < WA.heap.size := by omega
    clear kWB kB hw xWA
    rw [show nulV.v = .agg #[.int .i64 0, .bool false, .int .i64 0, .string ⟨#[]⟩] from rfl]
    clear kWA xWB zWA zWB eWB pc0 pc1 pc2 pc3 KB
    go_enter Try.func46, Try.ntmps46
    go_wp2_with fail
    refine (aW.out _).mono ?_
    rintro e w1 ⟨rfl, rfl⟩
    go_wp2_with fail
    refine (cNull _).mono ?_
    rintro e w2 ⟨rfl, k2⟩
    have x2 := XA.out.kept k2
    obtain ⟨W5, e5⟩ : ∃ Y, ((((w2.setCell ⟨w.heap.size, 0, none⟩ (.int .i64 0)).setCell ⟨w.heap.size, 1, none⟩ (.bool false)).setCell ⟨w.heap.size, 2, none⟩ (.int .i64 0)).setCell ⟨w.heap.size, 3, none⟩ (.string ⟨#[]⟩)) = Y := ⟨_, rfl⟩
    have k5 : Kp [w.heap.size] w2 W5 := by rw [← e5]; exact (((((Kp.refl _ _).setCell (by simp) _).setCell (by simp) _).setCell (by simp) _).setCell (by simp) _)
    have x5 : Bn W5 w.heap.size [.int .i64 0, .bool false, .int .i64 0, .string ⟨#[]⟩] := by rw [← e5]; exact ((((x2.set 0 (by simp) (.int .i64 0)).set 1 (by simp) (.bool false)).set 2 (by simp) (.int .i64 0)).set 3 (by simp) (.string ⟨#[]⟩))
    have qa0 := x2.get 0 _ rfl; have qa1 := x2.get 1 _ rfl; have qa2 := x2.get 2 _ rfl; have qa3 := x2.get 3 _ rfl
    have qf0 := x2.free 0; have qf1 := x2.free 1; have qf2 := x2.free 2; have qf3 := x2.free 3
    have qd0 := x5.get 0 _ rfl; have qd1 := x5.get 1 _ rfl; have qd2 := x5.get 2 _ rfl; have qd3 := x5.get 3 _ rfl
    have K5 := hid ((KA.out.trans k2 (by simp)).trans k5 (fun x hx => .inr (by simp at hx; omega)))
    clear k2 k5 x2 x5 ma0 ma1 ma2 ma3 mf0 mf1 mf2 mf3 eWA
    go_wp2_with fail
    exact bodyPost_ret (v := .agg #[.int .i64 0, .bool false, .int .i64 0, .string ⟨#[]⟩]) (by simp [results, Try.results46, go_sem, qd0, qd1, qd2, qd3]) rfl ⟨rfl, K5.out⟩
set_option maxHeartbeats 4000000 in
set_option maxRecDepth 100000 in
theorem rAt (a : Option Addr) (cap : Nat) (l : List Val) (n : Int) (w : World) (hs : VE.See w a l) (hl : l.length ≤ 9223372036854775807) : Calls Try.prog 47 #[.slice a l.length cap, .int .i64 n] w fun e w' => e = .returned (vAt l n).v ∧ Kp [] w w' := by
  by_cases h : 0 ≤ n ∧ n < (l.length : Int)
  · obtain ⟨i, rfl⟩ := Int.eq_ofNat_of_zero_le h.1
    have hil : i < l.length := by omega
    rw [vAt_in l i hil]
    have hx : l[i]? = some l[i] := by simp [hil]
    obtain ⟨W0, eW0⟩ : ∃ Y, w.alloc (.cells #[.int .i64 0, .bool false, .int .i64 0, .string ⟨#[]⟩] 88) = Y := ⟨_, rfl⟩
    have k0 : Kp [] w W0 := by rw [← eW0]; exact (Kp.refl _ _).alloc _
    obtain ⟨g, o, rfl, hc⟩ := (hs.keptNew k0).at hx
    have v0 := hc 0 _ rfl; have v1 := hc 1 _ rfl; have v2 := hc 2 _ rfl; have v3 := hc 3 _ rfl
    simp only [show VE.n = 4 from rfl, Nat.add_zero] at v0 v1 v2 v3
    have i1 : (0 : Int) ≤ (i : Int) := by omega
    have i2 : (i : Int) < (l.length : Int) := by omega
    have d1 : decide ((i : Int) < 0) = false := by simp
    have d2 : decide ((l.length : Int) ≤ (i : Int)) = false := by simp; omega
    have d2n : decide (l.length ≤ i) = false := by simp; omega
    have hw : wi (i : Int) (l.length : Int) = true := by unfold wi; simp; omega
    have aW := hid (cWithin (i : Int) (l.length : Int))
    rw [hw] at aW
    clear hc hx hw
    generalize l[i] = v at *
    subst eW0
    obtain ⟨vk, vb, vn, vt⟩ := v
    simp only at *
    obtain ⟨WA, eWA⟩ : ∃ Y, w.alloc (.cells #[.int .i64 0, .bool false, .int .i64 0, .string ⟨#[]⟩] 88) = Y := ⟨_, rfl⟩
    have kWA : Kp [] w WA := by rw [← eWA]; exact (Kp.refl _ _).alloc _
    have zWA : WA.heap.size = w.heap.size + 1 := by rw [← eWA]; simp
    have xWA : Bn WA (w.heap.size) [.int .i64 0, .bool false, .int .i64 0, .string ⟨#[]⟩] := by rw [← eWA]; exact Bn.new w [.int .i64 0, .bool false, .int .i64 0, .string ⟨#[]⟩] 88
    obtain ⟨WB, eWB⟩ : ∃ Y, ((((WA.setCell ⟨w.heap.size, 0, none⟩ (.int .i64 vk)).setCell ⟨w.heap.size, 1, none⟩ (.bool vb)).setCell ⟨w.heap.size, 2, none⟩ (.int .i64 vn)).setCell ⟨w.heap.size, 3, none⟩ (.string vt)) = Y := ⟨_, rfl⟩
    have kWB : Kp [w.heap.size] WA WB := by rw [← eWB]; exact (((((Kp.refl _ _).setCell (by simp) _).setCell (by simp) _).setCell (by simp) _).setCell (by simp) _)
    have xWB : Bn WB (w.heap.size) [.int .i64 vk, .bool vb, .int .i64 vn, .string vt] := by rw [← eWB]; exact ((((xWA.set 0 (by simp) (.int .i64 vk)).set 1 (by simp) (.bool vb)).set 2 (by simp) (.int .i64 vn)).set 3 (by simp) (.string vt))
    have zWB := kWB.size
    have ma0 := xWA.get 0 _ rfl; have ma1 := xWA.get 1 _ rfl; have ma2 := xWA.get 2 _ rfl; have ma3 := xWA.get 3 _ rfl
    have mf0 := xWA.free 0; have mf1 := xWA.free 1; have mf2 := xWA.free 2; have mf3 := xWA.free 3
    have pc0 := xWB.get 0 _ rfl; have pc1 := xWB.get 1 _ rfl; have pc2 := xWB.get 2 _ rfl; have pc3 := xWB.get 3 _ rfl
    have kB : Kp [] w WB := kWA.trans kWB (fun x hx => .inr (by simp at hx; omega))
    rw [eWA] at v0 v1 v2 v3
    have KB := hid kB
    clear kWA kWB xWA xWB kB k0
    unfold Val.v
    go_enter Try.func47, Try.ntmps47
    go_wp2_with fail
    exact bodyPost_ret (v := .agg #[.int .i64 vk, .bool vb, .int .i64 vn, .string vt]) (by simp [results, Try.results47, go_sem, pc0, pc1, pc2, pc3]) rfl ⟨rfl, KB.out⟩
  · rw [vAt_out l n h]
    obtain ⟨WA, eWA⟩ : ∃ Y, w.alloc (.cells #[.int .i64 0, .bool false, .int .i64 0, .string ⟨#[]⟩] 88) = Y := ⟨_, rfl⟩
    have kWA : Kp [] w WA := by rw [← eWA]; exact (Kp.refl _ _).alloc _
    have zWA : WA.heap.size = w.heap.size + 1 := by rw [← eWA]; simp
    have xWA : Bn WA (w.heap.size) [.int .i64 0, .bool false, .int .i64 0, .string ⟨#[]⟩] := by rw [← eWA]; exact Bn.new w [.int .i64 0, .bool false, .int .i64 0, .string ⟨#[]⟩] 88
    obtain ⟨WB, eWB⟩ : ∃ Y, ((((WA.setCell ⟨w.heap.size, 0, none⟩ (.int .i64 0)).setCell ⟨w.heap.size, 1, none⟩ (.bool false)).setCell ⟨w.heap.size, 2, none⟩ (.int .i64 0)).setCell ⟨w.heap.size, 3, none⟩ (.string ⟨#[]⟩)) = Y := ⟨_, rfl⟩
    have kWB : Kp [w.heap.size] WA WB := by rw [← eWB]; exact (((((Kp.refl _ _).setCell (by simp) _).setCell (by simp) _).setCell (by simp) _).setCell (by simp) _)
    have xWB : Bn WB (w.heap.size) [.int .i64 0, .bool false, .int .i64 0, .string ⟨#[]⟩] := by rw [← eWB]; exact ((((xWA.set 0 (by simp) (.int .i64 0)).set 1 (by simp) (.bool false)).set 2 (by simp) (.int .i64 0)).set 3 (by simp) (.string ⟨#[]⟩))
    have zWB := kWB.size
    have ma0 := xWA.get 0 _ rfl; have ma1 := xWA.get 1 _ rfl; have ma2 := xWA.get 2 _ rfl; have ma3 := xWA.get 3 _ rfl
    have mf0 := xWA.free 0; have mf1 := xWA.free 1; have mf2 := xWA.free 2; have mf3 := xWA.free 3
    have pc0 := xWB.get 0 _ rfl; have pc1 := xWB.get 1 _ rfl; have pc2 := xWB.get 2 _ rfl; have pc3 := xWB.get 3 _ rfl
    have kB : Kp [] w WB := kWA.trans kWB (fun x hx => .inr (by simp at hx; omega))
    have hw : wi n (l.length : Int) = false := by unfold wi; simp; omega
    have aW := hid (cWithin n (l.length : Int))
    rw [hw] at aW
    have KB := hid kB
    have XA := hid xWA
    have KA := hid kWA
    have zWA' : w.heap.size < WA.heap.size := by omega
    clear kWB kB hw xWA
    rw [show nulV.v = .agg #[.int .i64 0, .bool false, .int .i64 0, .string ⟨#[]⟩] from rfl]
    by_cases h0 : n < 0
    · have d1 : decide (n < 0) = true := by simpa using h0
      clear h
      go_enter Try.func47, Try.ntmps47
      go_wp2_with fail
      exact bodyPost_ret (v := .agg #[.int .i64 0, .bool false, .int .i64 0, .string ⟨#[]⟩]) (by simp [results, Try.results47, go_sem, pc0, pc1, pc2, pc3]) rfl ⟨rfl, KB.out⟩
    · have d1 : decide (n < 0) = false := by simpa using h0
      have d2 : decide ((l.length : Int) ≤ n) = true := by simp; omega
      clear h
      go_enter Try.func47, Try.ntmps47
      go_wp2_with fail
      exact bodyPost_ret (v := .agg #[.int .i64 0, .bool false, .int .i64 0, .string ⟨#[]⟩]) (by simp [results, Try.results47, go_sem, pc0, pc1, pc2, pc3]) rfl ⟨rfl, KB.out⟩
end Go.Proofs.Ytckicbaidbgonaa
end

section
namespace Go.Proofs.Ytckicbaidbgonaa
open Go.RowKit Go.Hay
set_option linter.unusedVariables false
set_option linter.unusedSimpArgs false

theorem rowSetV {w : World} {B n c : Nat} {l : List Val} (h : VE.Row w (.slice (some ⟨B, 0, none⟩) n c) l) (i : Nat) (hi : i < l.length) (x : Val) : VE.Row ((((w.setCell ⟨B, i * 4, none⟩ (.int .i64 x.k)).setCell ⟨B, i * 4 + 1, none⟩ (.bool x.b)).setCell ⟨B, i * 4 + 2, none⟩ (.int .i64 x.n)).setCell ⟨B, i * 4 + 3, none⟩ (.string x.t)) (.slice (some ⟨B, 0, none⟩) n c) (l.set i x) := by
  have := h.setAt i hi x
  have e : VE.n = 4 := rfl
  rw [e, Nat.zero_add] at this
  exact this
theorem rowCellsV {w : World} {B n c : Nat} {l : List Val} (h : VE.Row w (.slice (some ⟨B, 0, none⟩) n c) l) (i : Nat) (hi : i < l.length) : ∀ j, j < 4 → (∃ u, w.cell? ⟨B, i * 4 + j, none⟩ = some u) ∧ w.frozen? ⟨B, i * 4 + j, none⟩ = false := by
  intro j hj
  rcases h with ⟨e, _⟩ | ⟨g, o, cc, e, hl, hx, hg, hc, ht⟩
  · cases e
  · cases e
    have e : VE.n = 4 := rfl
    have := ht (i * 4 + j) (by rw [e]; omega)
    rw [Nat.zero_add] at this
    exact ⟨Option.isSome_iff_exists.1 this.1, this.2⟩
theorem kpSet4 {w0 w : World} {B i : Nat} (k : Kp [] w0 w) (hB : w0.heap.size ≤ B) (a b c d : Value) : Kp [] w0 ((((w.setCell ⟨B, i * 4, none⟩ a).setCell ⟨B, i * 4 + 1, none⟩ b).setCell ⟨B, i * 4 + 2, none⟩ c).setCell ⟨B, i * 4 + 3, none⟩ d) :=
  (((k.setCell (p := ⟨B, i * 4, none⟩) (.inr hB) _).setCell (p := ⟨B, i * 4 + 1, none⟩) (.inr hB) _).setCell (p := ⟨B, i * 4 + 2, none⟩) (.inr hB) _).setCell (p := ⟨B, i * 4 + 3, none⟩) (.inr hB) _
end Go.Proofs.Ytckicbaidbgonaa
end

section
namespace Go.Proofs.Ytckicbaidbgonaa
open Go.RowKit Go.Hay
set_option linter.unusedVariables false
set_option linter.unusedSimpArgs false

/-- A row as a projection has it. -/
def rwV (cl : List Int) (l : List Val) : List Val := cl.map (vAt l)
def rwTo (cl : List Int) (l : List Val) (j : Nat) : List Val := rwV (cl.take j) l ++ List.replicate (cl.length - j) nulV
theorem rwTo_len (cl : List Int) (l : List Val) (j : Nat) (h : j ≤ cl.length) : (rwTo cl l j).length = cl.length := by simp [rwTo, rwV]; omega
theorem rwV_succ (cl : List Int) (l : List Val) (j : Nat) (h : j < cl.length) : rwV (cl.take (j + 1)) l = rwV (cl.take j) l ++ [vAt l cl[j]] := by
  unfold rwV
  rw [List.take_succ_eq_append_getElem h, List.map_append]
  rfl
theorem rwTo_succ (cl : List Int) (l : List Val) (j : Nat) (h : j < cl.length) : rwTo cl l (j + 1) = (rwTo cl l j).set j (vAt l cl[j]) := by
  have e1 : cl.length - j = (cl.length - (j + 1)) + 1 := by omega
  have e2 : (rwV (cl.take j) l).length = j := by simp [rwV]; omega
  unfold rwTo
  rw [rwV_succ cl l j h, List.set_append, if_neg (by rw [e2]; omega), e2, Nat.sub_self, e1, List.replicate_succ, List.set_cons_zero, List.append_assoc]
  rfl
theorem rwTo_all (cl : List Int) (l : List Val) : rwTo cl l cl.length = rwV cl l := by simp [rwTo]
/-- What Row hands back. -/
def RwP (L : List Val) (w : World) (e : Ending) (w' : World) : Prop := ∃ (a : Option Addr) (c : Nat), e = .returned (.slice a L.length c) ∧ VE.See w' a L ∧ L.length ≤ c ∧ (∀ k ∈ blk a, w.heap.size ≤ k) ∧ Kp [] w w'
set_option maxHeartbeats 8000000 in
set_option maxRecDepth 100000 in
theorem cRow (p : Pj) (a : Option Addr) (cap : Nat) (l : List Val) (w : World) (hp : p.ok w) (hs : VE.See w a l) (hl : l.length ≤ 9223372036854775807) (hcl : p.cl.length ≤ 1048576) : Calls Try.prog 24 #[p.v, .slice a l.length cap] w (RwP (rwV p.cl l) w) := by
  obtain ⟨W, eW⟩ : ∃ Y, w.alloc (.cells #[.string p.nm, .int .i64 p.tb, .slice p.ca p.cl.length p.cc, .slice p.sa p.sl.length p.sc, .int .i64 p.by_, .int .i64 p.sh] 48) = Y := ⟨_, rfl⟩
  have kW : Kp [] w W := by rw [← eW]; exact (Kp.refl _ _).alloc _
  have zW : W.heap.size = w.heap.size + 1 := by rw [← eW]; simp
  have bW : Bn W w.heap.size [.string p.nm, .int .i64 p.tb, .slice p.ca p.cl.length p.cc, .slice p.sa p.sl.length p.sc, .int .i64 p.by_, .int .i64 p.sh] := by rw [← eW]; exact Bn.new w [.string p.nm, .int .i64 p.tb, .slice p.ca p.cl.length p.cc, .slice p.sa p.sl.length p.sc, .int .i64 p.by_, .int .i64 p.sh] 48
  have hp2 := hp.kept kW
  have BB := hid bW
  have KW := hid kW
  have zW' : w.heap.size < W.heap.size := by omega
  have hF : Hid (∀ W', Kp [] W W' → (W'.cell? ⟨w.heap.size, 0, none⟩ = some (.string p.nm) ∧ W'.cell? ⟨w.heap.size, 1, none⟩ = some (.int .i64 p.tb) ∧ W'.cell? ⟨w.heap.size, 2, none⟩ = some (.slice p.ca p.cl.length p.cc) ∧ W'.cell? ⟨w.heap.size, 3, none⟩ = some (.slice p.sa p.sl.length p.sc) ∧ W'.cell? ⟨w.heap.size, 4, none⟩ = some (.int .i64 p.by_) ∧ W'.cell? ⟨w.heap.size, 5, none⟩ = some (.int .i64 p.sh))) := fun W' k => by
    have h1 := BB.out.kept k
    exact ⟨h1.get 0 _ rfl, h1.get 1 _ rfl, h1.get 2 _ rfl, h1.get 3 _ rfl, h1.get 4 _ rfl, h1.get 5 _ rfl⟩
  have ta0 := bW.get 0 _ rfl; have ta1 := bW.get 1 _ rfl; have ta2 := bW.get 2 _ rfl; have ta3 := bW.get 3 _ rfl; have ta4 := bW.get 4 _ rfl; have ta5 := bW.get 5 _ rfl
  have HC := hid hp2.cols
  have HS := hid (hs.keptNew kW)
  obtain ⟨i0, hi, hz0, hz1, hz2⟩ := infoV
  obtain ⟨W3, hmk, hrow3, k3, hs3⟩ := run_makeG (E := VE) (P := Try.prog) W 46 88 i0 _ nulV 40 Try.underlying46 hi hz0 hz1 hz2 rfl .i64 .i64 p.cl.length (by omega) (by unfold maxLen; omega)
  have hrw0 : Hid (VE.Row W3 (.slice (some ⟨W.heap.size, 0, none⟩) p.cl.length p.cl.length) (rwTo p.cl l 0)) := hid (by simpa [rwTo, rwV] using hrow3)
  have K3 := hid k3
  obtain ⟨b0, b1, b2, b3, b4, b5⟩ := hF.out _ K3.out
  have zW3 : w.heap.size < W3.heap.size := by omega
  unfold Pj.v
  clear hi hz0 hz1 hz2 hrow3 k3 hs3 kW bW zW hp hp2 hs
  go_enter Try.func24, Try.ntmps24
  go_wp2_with fail
  obtain ⟨q, hq⟩ : ∃ q, W.heap.size = q := ⟨_, rfl⟩
  have hqW : Hid (W.heap.size = q) := hid hq
  rw [hq] at hrw0
  rw [hq]
  clear hq hmk b0 b1 b2 b3 b4 b5 ta0 ta1 ta2 ta3 ta4 ta5 eW
  go_loopw [15] (fun iv wr => ∃ j : Nat, j ≤ p.cl.length ∧ iv = .int .i64 (j : Int) ∧ Hid (VE.Row wr (.slice (some ⟨q, 0, none⟩) p.cl.length p.cl.length) (rwTo p.cl l j)) ∧ Hid (Kp [] W wr)) (fun iv _ => p.cl.length - (intOf iv).toNat)
  case atStart => exact ⟨0, Nat.zero_le _, rfl, hrw0, K3⟩
  case round =>
    obtain ⟨j, hj, rfl, hrow, kn⟩ := hrel
    clear hrw0 K3 zW3
    by_cases hlt : j < p.cl.length
    · obtain ⟨g, o, eg, y0⟩ := intAt (HC.out.keptNew kn.out) j hlt
      have aV := hid (cValAt a cap l p.cl[j] wr (HS.out.keptNew kn.out) hl)
      have hsu := hid (rwTo_succ p.cl l j hlt)
      have i1 : (0 : Int) ≤ (j : Int) := by omega
      have i2 : (j : Int) < (p.cl.length : Int) := by omega
      have i3 : (j : Int) + 1 ≤ 9223372036854775807 := by omega
      generalize p.cl[j] = y at *
      generalize vAt l y = v at *
      obtain ⟨vk, vb, vn, vt⟩ := v
      simp only [Val.v] at aV
      rw [eg]
      go_wp2_with fail
      refine aV.out.mono ?_
      rintro e w1 ⟨rfl, k1⟩
      have R1 := hrow.out.keptNew k1
      have hcell := rowCellsV R1 j (by rw [rwTo_len _ _ _ hj]; exact hlt)
      obtain ⟨⟨u0, hu0⟩, f0⟩ := hcell 0 (by omega)
      obtain ⟨⟨u1, hu1⟩, f1⟩ := hcell 1 (by omega)
      obtain ⟨⟨u2, hu2⟩, f2⟩ := hcell 2 (by omega)
      obtain ⟨⟨u3, hu3⟩, f3⟩ := hcell 3 (by omega)
      simp only [Nat.add_zero] at hu0 f0
      have hput := rowSetV R1 j (by rw [rwTo_len _ _ _ hj]; exact hlt) ⟨vk, vb, vn, vt⟩
      rw [← hsu.out] at hput
      obtain ⟨W5, hW5⟩ : ∃ Y, ((((w1.setCell ⟨q, j * 4, none⟩ (.int .i64 vk)).setCell ⟨q, j * 4 + 1, none⟩ (.bool vb)).setCell ⟨q, j * 4 + 2, none⟩ (.int .i64 vn)).setCell ⟨q, j * 4 + 3, none⟩ (.string vt)) = Y := ⟨_, rfl⟩
      have k5 : Hid (Kp [] W W5) := hid (by rw [← hW5]; exact kpSet4 (kn.out.trans k1 (by simp)) (Nat.le_of_eq hqW.out) _ _ _ _)
      simp only [hW5] at hput
      have HP := hid hput
      have zq : q < w1.heap.size := World.block_lt_of_cell? _ _ hu0
      clear hput R1 hcell k1 hrow kn hsu y0 aV
      go_wp2_with fail
      exact ⟨⟨j + 1, by omega, by go_num, HP, k5⟩, by simp [intOf]; omega⟩
    · have e : j = p.cl.length := by omega
      rw [e, rwTo_all] at hrow
      have hlen : (rwV p.cl l).length = p.cl.length := by simp [rwV]
      have e2 : decide ((j : Int) < (p.cl.length : Int)) = false := by simp; omega
      go_wp2_with fail
      go_ret
      obtain ⟨_, _, e3, hsee, _⟩ := hrow.out.see
      have e4 := Value.slice.inj e3
      exact ⟨some ⟨q, 0, none⟩, p.cl.length, by rw [hlen]; rfl, by rw [e4.1]; exact hsee, by omega, fun k hk => by simp [blk] at hk; have := hqW.out; omega, KW.out.trans kn.out (by simp)⟩
theorem appV (w : World) (a : Option Addr) (cp : Nat) (l : List Val) (v : Val) (hrow : VE.Row w (.slice a l.length cp) l) (hl : l.length ≤ 1048576) :
    ∃ a' cp' W', (Builtin.append_ #[46, 46] 46 #[.slice a l.length cp, .slice (some ⟨w.heap.size, 0, none⟩) 1 1]).run Try.prog (w.alloc (.cells #[.int .i64 v.k, .bool v.b, .int .i64 v.n, .string v.t] 88)) = .ok (.slice a' (l ++ [v]).length cp') W' ∧ VE.Row W' (.slice a' (l ++ [v]).length cp') (l ++ [v]) ∧ (∀ k ∈ blk a', k ∈ blk a ∨ w.heap.size ≤ k) ∧ Kp (blk a) w W' := by
  obtain ⟨A1, hA1⟩ : ∃ A1, w.alloc (.cells #[.int .i64 v.k, .bool v.b, .int .i64 v.n, .string v.t] 88) = A1 := ⟨_, rfl⟩
  have kA1 : Kp [] w A1 := by rw [← hA1]; exact (Kp.refl _ _).alloc _
  have bx1 : Bn A1 w.heap.size (VE.c v) := by rw [← hA1]; exact Bn.new w (VE.c v) _
  have hs1 : VE.See A1 (some ⟨w.heap.size, 0, none⟩) [v] := .inr ⟨w.heap.size, 0, rfl, fun j u hu => by rw [Nat.zero_add]; exact bx1.get j u (by simpa [El.cs] using hu)⟩
  obtain ⟨i0, hi, hz0', hz1', hz2'⟩ := infoV
  have hsr := hs1.src (P := Try.prog) Try.underlying46 1
  obtain ⟨v', A2, hrun, hrow2, k2, hn2⟩ := run_appendG (E := VE) (P := Try.prog) A1 46 46 46 88 i0 _ 40 Try.underlying46 hi hz0' hz1' hz2' rfl (.slice a l.length cp) l (hrow.keptNew kA1) _ [v] hsr (by simp only [List.length_cons, List.length_nil]; omega) (by simp only [List.length_cons, List.length_nil]; omega)
  obtain ⟨a', c', rfl, _⟩ := hrow2.see
  simp only [ownSl] at k2 hn2
  rw [hA1]
  have z1 := kA1.size
  exact ⟨a', c', A2, hrun, hrow2, fun k hk => by
    rcases hn2 k hk with e | e
    · exact .inl e
    · exact .inr (by omega), (kA1.mono (by simp)).trans k2 (fun j hj => .inl hj)⟩
set_option maxHeartbeats 8000000 in
set_option maxRecDepth 100000 in
theorem rRow (p : Pj) (a : Option Addr) (cap : Nat) (l : List Val) (w : World) (hp : p.ok w) (hs : VE.See w a l) (hl : l.length ≤ 9223372036854775807) (hcl : p.cl.length ≤ 1048576) : Calls Try.prog 25 #[p.v, .slice a l.length cap] w (RwP (rwV p.cl l) w) := by
  obtain ⟨W, eW⟩ : ∃ Y, w.alloc (.cells #[.string p.nm, .int .i64 p.tb, .slice p.ca p.cl.length p.cc, .slice p.sa p.sl.length p.sc, .int .i64 p.by_, .int .i64 p.sh] 48) = Y := ⟨_, rfl⟩
  have kW : Kp [] w W := by rw [← eW]; exact (Kp.refl _ _).alloc _
  have zW : W.heap.size = w.heap.size + 1 := by rw [← eW]; simp
  have bW : Bn W w.heap.size [.string p.nm, .int .i64 p.tb, .slice p.ca p.cl.length p.cc, .slice p.sa p.sl.length p.sc, .int .i64 p.by_, .int .i64 p.sh] := by rw [← eW]; exact Bn.new w [.string p.nm, .int .i64 p.tb, .slice p.ca p.cl.length p.cc, .slice p.sa p.sl.length p.sc, .int .i64 p.by_, .int .i64 p.sh] 48
  have hp2 := hp.kept kW
  have BB := hid bW
  have KW := hid kW
  have zW' : w.heap.size < W.heap.size := by omega
  have hF : Hid (∀ W', Kp [] W W' → (W'.cell? ⟨w.heap.size, 0, none⟩ = some (.string p.nm) ∧ W'.cell? ⟨w.heap.size, 1, none⟩ = some (.int .i64 p.tb) ∧ W'.cell? ⟨w.heap.size, 2, none⟩ = some (.slice p.ca p.cl.length p.cc) ∧ W'.cell? ⟨w.heap.size, 3, none⟩ = some (.slice p.sa p.sl.length p.sc) ∧ W'.cell? ⟨w.heap.size, 4, none⟩ = some (.int .i64 p.by_) ∧ W'.cell? ⟨w.heap.size, 5, none⟩ = some (.int .i64 p.sh))) := fun W' k => by
    have h1 := BB.out.kept k
    exact ⟨h1.get 0 _ rfl, h1.get 1 _ rfl, h1.get 2 _ rfl, h1.get 3 _ rfl, h1.get 4 _ rfl, h1.get 5 _ rfl⟩
  have ta0 := bW.get 0 _ rfl; have ta1 := bW.get 1 _ rfl; have ta2 := bW.get 2 _ rfl; have ta3 := bW.get 3 _ rfl; have ta4 := bW.get 4 _ rfl; have ta5 := bW.get 5 _ rfl
  have HC := hid hp2.cols
  have HS := hid (hs.keptNew kW)
  unfold Pj.v
  clear kW bW zW hp hp2 hs
  go_enter Try.func25, Try.ntmps25
  go_wp2_with fail
  clear ta0 ta1 ta2 ta3 ta4 ta5 eW
  go_loopw [5, 6] (fun lv iv wr => ∃ (j : Nat) (b : Option Addr) (cb : Nat) (L : List Val), j ≤ p.cl.length ∧ iv = .int .i64 (j : Int) ∧ lv = .slice b L.length cb ∧ Hid (L = rwV (p.cl.take j) l) ∧ Hid (VE.Row wr (.slice b L.length cb) L ∧ (∀ k ∈ blk b, W.heap.size ≤ k) ∧ Kp [] W wr)) (fun _ iv _ => p.cl.length - (intOf iv).toNat)
  case atStart => exact ⟨0, none, 0, [], Nat.zero_le _, rfl, rfl, hid (by simp [rwV]), hid ⟨.inl ⟨rfl, rfl⟩, by simp [blk], Kp.refl _ _⟩⟩
  case round =>
    obtain ⟨j, b, cb, L, hj, rfl, rfl, hL, hw⟩ := hrel
    obtain ⟨b0, b1, b2, b3, b4, b5⟩ := hF.out _ hw.out.2.2
    by_cases hlt : j < p.cl.length
    · obtain ⟨g, o, eg, y0⟩ := intAt (HC.out.keptNew hw.out.2.2) j hlt
      have aV := hid (rAt a cap l p.cl[j] wr (HS.out.keptNew hw.out.2.2) hl)
      have hsu := hid (rwV_succ p.cl l j hlt)
      have hLl : L.length ≤ 1048576 := by rw [hL.out]; simp [rwV]; omega
      have i1 : (0 : Int) ≤ (j : Int) := by omega
      have i2 : (j : Int) < (p.cl.length : Int) := by omega
      have i3 : (j : Int) + 1 ≤ 9223372036854775807 := by omega
      rw [← hL.out] at hsu
      generalize p.cl[j] = y at *
      generalize vAt l y = v at *
      simp only [eg] at b2
      clear eg
      have zr : w.heap.size < wr.heap.size := by have := hw.out.2.2.size; omega
      obtain ⟨vk, vb, vn, vt⟩ := v
      simp only [Val.v] at aV
      go_wp2_with fail
      refine aV.out.mono ?_
      rintro e w1 ⟨rfl, k1⟩
      obtain ⟨V, hV⟩ : ∃ V : Val, Hid (V = ⟨vk, vb, vn, vt⟩) := ⟨_, hid rfl⟩
      obtain ⟨b', cb', W', hrun, hrow', hn', k'⟩ := appV w1 b cb L V (hw.out.1.keptNew k1) hLl
      have zr1 := k1.size
      have zr2 := hw.out.2.2.size
      have hw2 : Hid (VE.Row W' (.slice b' (L ++ [V]).length cb') (L ++ [V]) ∧ (∀ k ∈ blk b', W.heap.size ≤ k) ∧ Kp [] W W') := hid ⟨hrow', fun k hk => by
        rcases hn' k hk with h | h
        · exact hw.out.2.1 k h
        · omega, (hw.out.2.2.trans k1 (by simp)).trans k' (fun z hz => .inr (hw.out.2.1 z hz))⟩
      rw [← hV.out] at hsu
      rw [show V.k = vk by rw [hV.out], show V.b = vb by rw [hV.out], show V.n = vn by rw [hV.out], show V.t = vt by rw [hV.out]] at hrun
      obtain ⟨L2, hL2⟩ : ∃ L2, Hid (L ++ [V] = L2) := ⟨_, hid rfl⟩
      rw [hL2.out] at hrun hw2 hsu
      have HSU := hid hsu.out.symm
      clear hrow' hn' k' hLl hL hw k1 aV y0 b0 b1 b2 b3 b4 b5
      go_wp2_with (first | (refine wpAppRun rfl _ _ 46 46 rfl _ _ _ rfl rfl hrun ?_) | fail)
      exact ⟨⟨j + 1, b', cb', L2, by omega, by go_num, rfl, HSU, hw2⟩, by simp [intOf]; omega⟩
    · have e : j = p.cl.length := by omega
      subst e
      rw [List.take_length] at hL
      go_wp2_with fail
      go_ret
      obtain ⟨_, _, e3, hsee, _, hcp, _⟩ := hw.out.1.see
      cases e3
      have zr2 := KW.out.size
      exact ⟨b, cb, by rw [← hL.out]; rfl, by rw [← hL.out]; exact hsee, by rw [← hL.out]; exact hcp, fun k hk => by have := hw.out.2.1 k hk; omega, KW.out.trans hw.out.2.2 (by simp)⟩
end Go.Proofs.Ytckicbaidbgonaa
end

section
namespace Go.Proofs.Ytckicbaidbgonaa
open Go.RowKit Go.Hay
set_option linter.unusedVariables false
set_option linter.unusedSimpArgs false

/-- Where a number is first among some; 0, if it is not. -/
def fS : List Int → Nat → Int → Int
  | [], _, _ => 0
  | y :: l, o, x => if y = x then (o : Int) else fS l (o + 1) x
theorem fS_eq : ∀ (l : List Int) (o : Nat) (x : Int), fS l o x = if x ∈ l then ((o + l.idxOf x : Nat) : Int) else 0
  | [], _, _ => by simp [fS]
  | y :: l, o, x => by
    rw [fS, fS_eq l (o + 1) x]
    by_cases h : y = x
    · subst h; simp [List.idxOf_cons]
    · have h2 : ¬ x = y := fun e => h e.symm
      have h3 : (y == x) = false := by simpa using h
      rw [if_neg h, List.idxOf_cons, h3]
      by_cases hm : x ∈ l
      · simp [hm]; omega
      · simp [hm, h2]
theorem fS_ix (l : List Int) (x : Int) : (0 ≤ ixI l x ∧ fS l 0 x = ixI l x) ∨ (ixI l x = -1 ∧ fS l 0 x = 0) := by
  rw [fS_eq]
  unfold ixI
  by_cases h : x ∈ l
  · left; simp [h]
  · right; simp [h]
def srV (cl sl : List Int) : List Int := sl.map (fS cl 0)
def srTo (cl sl : List Int) (j : Nat) : List Int := srV cl (sl.take j) ++ List.replicate (sl.length - j) 0
theorem srTo_len (cl sl : List Int) (j : Nat) (h : j ≤ sl.length) : (srTo cl sl j).length = sl.length := by simp [srTo, srV]; omega
theorem srV_succ (cl sl : List Int) (j : Nat) (h : j < sl.length) : srV cl (sl.take (j + 1)) = srV cl (sl.take j) ++ [fS cl 0 sl[j]] := by
  unfold srV
  rw [List.take_succ_eq_append_getElem h, List.map_append]
  rfl
theorem srTo_succ (cl sl : List Int) (j : Nat) (h : j < sl.length) : srTo cl sl (j + 1) = (srTo cl sl j).set j (fS cl 0 sl[j]) := by
  have e1 : sl.length - j = (sl.length - (j + 1)) + 1 := by omega
  have e2 : (srV cl (sl.take j)).length = j := by simp [srV]; omega
  unfold srTo
  rw [srV_succ cl sl j h, List.set_append, if_neg (by rw [e2]; omega), e2, Nat.sub_self, e1, List.replicate_succ, List.set_cons_zero, List.append_assoc]
  rfl
theorem srTo_all (cl sl : List Int) : srTo cl sl sl.length = srV cl sl := by simp [srTo]
/-- What Sort hands back. -/
def StP (L : List Int) (w : World) (e : Ending) (w' : World) : Prop := ∃ (a : Option Addr) (c : Nat), e = .returned (.slice a L.length c) ∧ IntE.See w' a L ∧ Kp [] w w'
set_option maxHeartbeats 8000000 in
set_option maxRecDepth 100000 in
theorem cSort (p : Pj) (w : World) (hp : p.ok w) (hcl : p.cl.length ≤ 1048576) (hsl : p.sl.length ≤ 1048576) : Calls Try.prog 26 #[p.v] w (StP (srV p.cl p.sl) w) := by
  obtain ⟨W, eW⟩ : ∃ Y, w.alloc (.cells #[.string p.nm, .int .i64 p.tb, .slice p.ca p.cl.length p.cc, .slice p.sa p.sl.length p.sc, .int .i64 p.by_, .int .i64 p.sh] 48) = Y := ⟨_, rfl⟩
  have kW : Kp [] w W := by rw [← eW]; exact (Kp.refl _ _).alloc _
  have zW : W.heap.size = w.heap.size + 1 := by rw [← eW]; simp
  have bW : Bn W w.heap.size [.string p.nm, .int .i64 p.tb, .slice p.ca p.cl.length p.cc, .slice p.sa p.sl.length p.sc, .int .i64 p.by_, .int .i64 p.sh] := by rw [← eW]; exact Bn.new w [.string p.nm, .int .i64 p.tb, .slice p.ca p.cl.length p.cc, .slice p.sa p.sl.length p.sc, .int .i64 p.by_, .int .i64 p.sh] 48
  have hp2 := hp.kept kW
  have BB := hid bW
  have KW := hid kW
  have zW' : w.heap.size < W.heap.size := by omega
  have hF : Hid (∀ W', Kp [] W W' → (W'.cell? ⟨w.heap.size, 0, none⟩ = some (.string p.nm) ∧ W'.cell? ⟨w.heap.size, 1, none⟩ = some (.int .i64 p.tb) ∧ W'.cell? ⟨w.heap.size, 2, none⟩ = some (.slice p.ca p.cl.length p.cc) ∧ W'.cell? ⟨w.heap.size, 3, none⟩ = some (.slice p.sa p.sl.length p.sc) ∧ W'.cell? ⟨w.heap.size, 4, none⟩ = some (.int .i64 p.by_) ∧ W'.cell? ⟨w.heap.size, 5, none⟩ = some (.int .i64 p.sh))) := fun W' k => by
    have h1 := BB.out.kept k
    exact ⟨h1.get 0 _ rfl, h1.get 1 _ rfl, h1.get 2 _ rfl, h1.get 3 _ rfl, h1.get 4 _ rfl, h1.get 5 _ rfl⟩
  have ta0 := bW.get 0 _ rfl; have ta1 := bW.get 1 _ rfl; have ta2 := bW.get 2 _ rfl; have ta3 := bW.get 3 _ rfl; have ta4 := bW.get 4 _ rfl; have ta5 := bW.get 5 _ rfl
  have HC := hid hp2.cols
  have HS := hid hp2.sort
  obtain ⟨i0, hi, hz0, hz1, hz2⟩ := infoI
  obtain ⟨W3, hmk, hrow3, k3, hs3⟩ := run_makeG (E := IntE) (P := Try.prog) W 40 3 i0 _ 0 8 Try.underlying40 hi hz0 hz1 hz2 rfl .i64 .i64 p.sl.length (by omega) (by unfold maxLen; omega)
  have hrw0 : Hid (IntE.Row W3 (.slice (some ⟨W.heap.size, 0, none⟩) p.sl.length p.sl.length) (srTo p.cl p.sl 0)) := hid (by simpa [srTo, srV] using hrow3)
  have K3 := hid k3
  obtain ⟨b0, b1, b2, b3, b4, b5⟩ := hF.out _ K3.out
  have zW3 : w.heap.size < W3.heap.size := by omega
  unfold Pj.v
  clear hi hz0 hz1 hz2 hrow3 k3 hs3 kW bW zW hp hp2
  go_enter Try.func26, Try.ntmps26
  go_wp2_with fail
  obtain ⟨q, hq⟩ : ∃ q, W.heap.size = q := ⟨_, rfl⟩
  have hqW : Hid (W.heap.size = q) := hid hq
  rw [hq] at hrw0
  rw [hq]
  clear hq hmk b0 b1 b2 b3 b4 b5 ta0 ta1 ta2 ta3 ta4 ta5 eW
  go_loopw [13] (fun iv wr => ∃ j : Nat, j ≤ p.sl.length ∧ iv = .int .i64 (j : Int) ∧ Hid (IntE.Row wr (.slice (some ⟨q, 0, none⟩) p.sl.length p.sl.length) (srTo p.cl p.sl j)) ∧ Hid (Kp [] W wr)) (fun iv _ => p.sl.length - (intOf iv).toNat)
  case atStart => exact ⟨0, Nat.zero_le _, rfl, hrw0, K3⟩
  case round =>
    obtain ⟨j, hj, rfl, hrow, kn⟩ := hrel
    clear hrw0 K3 zW3
    by_cases hlt : j < p.sl.length
    · obtain ⟨g, o, eg, y0⟩ := intAt (HS.out.keptNew kn.out) j hlt
      have aI := hid (cIndexI p.ca p.cc p.cl p.sl[j] wr (HC.out.keptNew kn.out) (by omega))
      have hsu := hid (srTo_succ p.cl p.sl j hlt)
      have hfx := fS_ix p.cl p.sl[j]
      obtain ⟨b0, b1, b2, b3, b4, b5⟩ := hF.out _ kn.out
      have zr : w.heap.size < wr.heap.size := by have := kn.out.size; omega
      have i1 : (0 : Int) ≤ (j : Int) := by omega
      have i2 : (j : Int) < (p.sl.length : Int) := by omega
      have i3 : (j : Int) + 1 ≤ 9223372036854775807 := by omega
      generalize p.sl[j] = y at *
      generalize fS p.cl 0 y = V at *
      generalize ixI p.cl y = R at *
      rw [eg]
      go_wp2_with fail
      refine aI.out.mono ?_
      rintro e w1 ⟨rfl, k1⟩
      have R1 := hrow.out.keptNew k1
      have hcf : (∃ u, w1.cell? ⟨q, j, none⟩ = some u) ∧ w1.frozen? ⟨q, j, none⟩ = false := by
        rcases R1 with ⟨e, _⟩ | ⟨g', o', c', e, r1, r2, r3, r4, r5⟩
        · cases e
        · have e1 := Value.slice.inj e
          obtain ⟨e2, _, e3⟩ := e1
          injection e2 with e2
          injection e2 with e4 e5
          subst e3 e4 e5
          have := r5 j (by show j < p.sl.length * 1; omega)
          rw [Nat.zero_add] at this
          exact ⟨Option.isSome_iff_exists.1 this.1, this.2⟩
      obtain ⟨⟨u, hu⟩, hf⟩ := hcf
      have hput := R1.setAt j (by rw [srTo_len _ _ _ hj]; exact hlt) V
      rw [← hsu.out] at hput
      have eW : Hid (w1.setCells q (0 + j * IntE.n) (IntE.c V) = w1.setCell ⟨q, j, none⟩ (.int .i64 V)) := by
        show _ = _
        have : IntE.n = 1 := rfl
        rw [this]
        simp [IntE, World.setCells]
      rw [eW.out] at hput
      obtain ⟨W5, hW5⟩ : ∃ Y, w1.setCell ⟨q, j, none⟩ (.int .i64 V) = Y := ⟨_, rfl⟩
      have k5 : Hid (Kp [] W W5) := hid (by rw [← hW5]; exact (kn.out.trans k1 (by simp)).setCell (p := ⟨q, j, none⟩) (.inr (by simpa using Nat.le_of_eq hqW.out)) _)
      rw [hW5] at hput
      have HP := hid hput
      have zq : q < w1.heap.size := World.block_lt_of_cell? _ _ hu
      clear hput R1 k1 hrow kn hsu y0 aI eW b0 b1 b2 b3 b4 b5
      rcases hfx with ⟨h1, h2⟩ | ⟨h1, h2⟩
      · subst h2
        have hmx : (if (0 : Int) < V then V else 0) = V := by split <;> omega
        go_wp2_with fail
        all_goals first | exact ⟨⟨j + 1, by omega, by go_num, HP, k5⟩, by simp [intOf]; omega⟩ | omega
      · subst h1 h2
        go_wp2_with fail
        all_goals first | exact ⟨⟨j + 1, by omega, by go_num, HP, k5⟩, by simp [intOf]; omega⟩ | omega
    · have e : j = p.sl.length := by omega
      rw [e, srTo_all] at hrow
      have hlen : (srV p.cl p.sl).length = p.sl.length := by simp [srV]
      have e2 : decide ((j : Int) < (p.sl.length : Int)) = false := by simp; omega
      go_wp2_with fail
      go_ret
      obtain ⟨_, _, e3, hsee, _⟩ := hrow.out.see
      have e4 := Value.slice.inj e3
      exact ⟨some ⟨q, 0, none⟩, p.sl.length, by rw [hlen]; rfl, by rw [e4.1]; exact hsee, KW.out.trans kn.out (by simp)⟩
theorem appI2 (w : World) (a : Option Addr) (cp : Nat) (l : List Int) (x : Int) (N : Nat) (hrow : IntE.Row w (.slice a l.length cp) l) (hnw : ∀ k ∈ blk a, N ≤ k) (hN : N ≤ w.heap.size) (hl : l.length ≤ 1048576) :
    ∃ a' cp' W', (Builtin.append_ #[40, 40] 40 #[.slice a l.length cp, .slice (some ⟨w.heap.size, 0, none⟩) 1 1]).run Try.prog (w.alloc (.cells #[.int .i64 x] 3)) = .ok (.slice a' (l ++ [x]).length cp') W' ∧ IntE.Row W' (.slice a' (l ++ [x]).length cp') (l ++ [x]) ∧ (∀ k ∈ blk a', N ≤ k) ∧ Kp (blk a) w W' := by
  obtain ⟨A1, hA1⟩ : ∃ A1, w.alloc (.cells #[.int .i64 x] 3) = A1 := ⟨_, rfl⟩
  have kA1 : Kp [] w A1 := by rw [← hA1]; exact (Kp.refl _ _).alloc _
  have bx1 : Bn A1 w.heap.size (IntE.c x) := by rw [← hA1]; exact Bn.new w (IntE.c x) _
  have hs1 : IntE.See A1 (some ⟨w.heap.size, 0, none⟩) [x] := .inr ⟨w.heap.size, 0, rfl, fun j u hu => by rw [Nat.zero_add]; exact bx1.get j u (by simpa [El.cs] using hu)⟩
  obtain ⟨i0, hi, hz0', hz1', hz2'⟩ := infoI
  have hsr := hs1.src (P := Try.prog) Try.underlying40 1
  obtain ⟨v', A2, hrun, hrow2, k2, hn2⟩ := run_appendG (E := IntE) (P := Try.prog) A1 40 40 40 3 i0 _ 8 Try.underlying40 hi hz0' hz1' hz2' rfl (.slice a l.length cp) l (hrow.keptNew kA1) _ [x] hsr (by simp only [List.length_cons, List.length_nil]; omega) (by simp only [List.length_cons, List.length_nil]; omega)
  obtain ⟨a', c', rfl, _⟩ := hrow2.see
  simp only [ownSl] at k2 hn2
  rw [hA1]
  have z1 := kA1.size
  exact ⟨a', c', A2, hrun, hrow2, fun k hk => by
    rcases hn2 k hk with e | e
    · exact hnw k e
    · omega, (kA1.mono (by simp)).trans k2 (fun j hj => .inl hj)⟩
theorem fS_drop (l : List Int) (k : Nat) (x : Int) (h : k < l.length) : fS (l.drop k) k x = if l[k] = x then (k : Int) else fS (l.drop (k + 1)) (k + 1) x := by
  rw [List.drop_eq_getElem_cons h, fS]
set_option maxHeartbeats 8000000 in
set_option maxRecDepth 100000 in
theorem rSort (p : Pj) (w : World) (hp : p.ok w) (hcl : p.cl.length ≤ 1048576) (hsl : p.sl.length ≤ 1048576) : Calls Try.prog 27 #[p.v] w (StP (srV p.cl p.sl) w) := by
  obtain ⟨W, eW⟩ : ∃ Y, w.alloc (.cells #[.string p.nm, .int .i64 p.tb, .slice p.ca p.cl.length p.cc, .slice p.sa p.sl.length p.sc, .int .i64 p.by_, .int .i64 p.sh] 48) = Y := ⟨_, rfl⟩
  have kW : Kp [] w W := by rw [← eW]; exact (Kp.refl _ _).alloc _
  have zW : W.heap.size = w.heap.size + 1 := by rw [← eW]; simp
  have bW : Bn W w.heap.size [.string p.nm, .int .i64 p.tb, .slice p.ca p.cl.length p.cc, .slice p.sa p.sl.length p.sc, .int .i64 p.by_, .int .i64 p.sh] := by rw [← eW]; exact Bn.new w [.string p.nm, .int .i64 p.tb, .slice p.ca p.cl.length p.cc, .slice p.sa p.sl.length p.sc, .int .i64 p.by_, .int .i64 p.sh] 48
  have hp2 := hp.kept kW
  have BB := hid bW
  have KW := hid kW
  have zW' : w.heap.size < W.heap.size := by omega
  have hF : Hid (∀ W', Kp [] W W' → (W'.cell? ⟨w.heap.size, 0, none⟩ = some (.string p.nm) ∧ W'.cell? ⟨w.heap.size, 1, none⟩ = some (.int .i64 p.tb) ∧ W'.cell? ⟨w.heap.size, 2, none⟩ = some (.slice p.ca p.cl.length p.cc) ∧ W'.cell? ⟨w.heap.size, 3, none⟩ = some (.slice p.sa p.sl.length p.sc) ∧ W'.cell? ⟨w.heap.size, 4, none⟩ = some (.int .i64 p.by_) ∧ W'.cell? ⟨w.heap.size, 5, none⟩ = some (.int .i64 p.sh))) := fun W' k => by
    have h1 := BB.out.kept k
    exact ⟨h1.get 0 _ rfl, h1.get 1 _ rfl, h1.get 2 _ rfl, h1.get 3 _ rfl, h1.get 4 _ rfl, h1.get 5 _ rfl⟩
  have ta0 := bW.get 0 _ rfl; have ta1 := bW.get 1 _ rfl; have ta2 := bW.get 2 _ rfl; have ta3 := bW.get 3 _ rfl; have ta4 := bW.get 4 _ rfl; have ta5 := bW.get 5 _ rfl
  have HC := hid hp2.cols
  have HS := hid hp2.sort
  unfold Pj.v
  clear kW bW zW hp hp2
  go_enter Try.func27, Try.ntmps27
  go_wp2_with fail
  clear ta0 ta1 ta2 ta3 ta4 ta5 eW
  go_loopw [3, 4, 5, 6] (fun lv iv _ _ wr => ∃ (j : Nat) (b : Option Addr) (cb : Nat) (L : List Int), j ≤ p.sl.length ∧ iv = .int .i64 (j : Int) ∧ lv = .slice b L.length cb ∧ Hid (L = srV p.cl (p.sl.take j)) ∧ Hid (IntE.Row wr (.slice b L.length cb) L ∧ (∀ k ∈ blk b, W.heap.size ≤ k) ∧ Kp [] W wr)) (fun _ iv _ _ _ => p.sl.length - (intOf iv).toNat)
  case atStart => exact ⟨0, none, 0, [], Nat.zero_le _, rfl, rfl, hid (by simp [srV]), hid ⟨.inl ⟨rfl, rfl⟩, by simp [blk], Kp.refl _ _⟩⟩
  case round =>
    obtain ⟨j, b, cb, L, hj, rfl, rfl, hL, hw⟩ := hrel
    obtain ⟨b0, b1, b2, b3, b4, b5⟩ := hF.out _ hw.out.2.2
    by_cases hlt : j < p.sl.length
    · have hsu := hid (srV_succ p.cl p.sl j hlt)
      have hLl : L.length ≤ 1048576 := by rw [hL.out]; simp [srV]; omega
      have i1 : (0 : Int) ≤ (j : Int) := by omega
      have i2 : (j : Int) < (p.sl.length : Int) := by omega
      have i3 : (j : Int) + 1 ≤ 9223372036854775807 := by omega
      have i4 : (-9223372036854775808 : Int) ≤ (p.cl.length : Int) - 1 := by omega
      have i5 : (p.cl.length : Int) - 1 ≤ 9223372036854775807 := by omega
      rw [← hL.out] at hsu
      obtain ⟨y, hy⟩ : ∃ y, Hid (p.sl[j] = y) := ⟨_, hid rfl⟩
      rw [hy.out] at hsu
      have zr : w.heap.size < wr.heap.size := by have := hw.out.2.2.size; omega
      go_wp2_with fail
      clear b0 b1 b2 b3 b4 b5 zr
      go_loopw [5, 6] (fun nv kv wn => ∃ (k : Nat) (n : Int), k ≤ p.cl.length ∧ kv = .int .i64 ((k : Int) - 1) ∧ nv = .int .i64 n ∧ Hid (n = fS (p.cl.drop k) k y) ∧ Hid (Kp [] wr wn)) (fun _ kv _ => (intOf kv + 1).toNat)
      case atStart => exact ⟨p.cl.length, 0, Nat.le_refl _, rfl, rfl, hid (by rw [List.drop_length]; rfl), hid (Kp.refl _ _)⟩
      case round =>
        obtain ⟨k1, n, hk1, rfl, rfl, hn, kn⟩ := hrel
        have KX := hid (hw.out.2.2.trans kn.out (by simp))
        obtain ⟨b0, b1, b2, b3, b4, b5⟩ := hF.out _ KX.out
        cases k1 with
        | zero =>
          have e1 : decide ((0 : Int) ≤ ((0 : Nat) : Int) - 1) = false := by simp
          rw [List.drop_zero] at hn
          have zr2 := hw.out.2.2.size
          have zr3 := kn.out.size
          obtain ⟨b', cb', W', hrun, hrow', hn', k'⟩ := appI2 wr b cb L n W.heap.size (hw.out.1.keptNew kn.out) hw.out.2.1 (by omega) hLl
          have hw2 : Hid (IntE.Row W' (.slice b' (L ++ [n]).length cb') (L ++ [n]) ∧ (∀ k ∈ blk b', W.heap.size ≤ k) ∧ Kp [] W W') := hid ⟨hrow', hn', KX.out.trans k' (fun z hz => .inr (hw.out.2.1 z hz))⟩
          rw [← hn.out] at hsu
          obtain ⟨L2, hL2⟩ : ∃ L2, Hid (L ++ [n] = L2) := ⟨_, hid rfl⟩
          rw [hL2.out] at hrun hw2 hsu
          have HSU := hid hsu.out.symm
          clear hrow' hn' k' hLl hL hw kn KX b0 b1 b2 b3 b4 b5 zr2 zr3 hn
          go_wp2_with (first | (refine wpAppRun rfl _ _ 40 40 rfl _ _ _ rfl rfl hrun ?_) | fail)
          exact ⟨⟨j + 1, b', cb', L2, by omega, by go_num, rfl, HSU, hw2⟩, by simp [intOf]; omega⟩
        | succ k =>
          have hkl : k < p.cl.length := by omega
          obtain ⟨g, o, eg, z0⟩ := intAt (HC.out.keptNew KX.out) k hkl
          obtain ⟨g2, o2, eg2, y0⟩ := intAt (HS.out.keptNew KX.out) j hlt
          rw [hy.out] at y0
          have hfd := hid (fS_drop p.cl k y hkl)
          rw [← hn.out] at hfd
          have e0 : ((k + 1 : Nat) : Int) - 1 = (k : Int) := by omega
          rw [e0]
          have k0 : (0 : Int) ≤ (k : Int) := by omega
          have k2 : (k : Int) < (p.cl.length : Int) := by omega
          have k3 : (-9223372036854775808 : Int) ≤ (k : Int) - 1 := by omega
          have k4 : (k : Int) - 1 ≤ 9223372036854775807 := by omega
          generalize p.cl[k] = z at *
          simp only [eg] at b2
          simp only [eg2] at b3
          have hF2 : Hid (∀ W', Kp [] wr W' → (W'.cell? ⟨w.heap.size, 2, none⟩ = some (.slice (some ⟨g, o, none⟩) p.cl.length p.cc) ∧ W'.cell? ⟨w.heap.size, 3, none⟩ = some (.slice (some ⟨g2, o2, none⟩) p.sl.length p.sc) ∧ W'.cell? ⟨g, o + k, none⟩ = some (.int .i64 z) ∧ W'.cell? ⟨g2, o2 + j, none⟩ = some (.int .i64 y))) := fun W' k => ⟨kpAt k b2, kpAt k b3, kpAt k z0, kpAt k y0⟩
          have zr : w.heap.size < wr.heap.size := by have := KX.out.size; omega
          clear eg eg2 z0 y0 b0 b1 b2 b3 b4 b5 e0
          go_wp2_with fail
          refine wp_region_held_drew (S := fun W' => W'.cell? ⟨w.heap.size, 2, none⟩ = some (.slice (some ⟨g, o, none⟩) p.cl.length p.cc) ∧ W'.cell? ⟨w.heap.size, 3, none⟩ = some (.slice (some ⟨g2, o2, none⟩) p.sl.length p.sc) ∧ W'.cell? ⟨g, o + k, none⟩ = some (.int .i64 z) ∧ W'.cell? ⟨g2, o2 + j, none⟩ = some (.int .i64 y)) (by kernel_rfl) ?_ (fun hHeld => ?_)
          · exact hF2.out _ (Kp.refl [] wr).drew
          have KD : Hid (Kp [] wr wr.drew) := hid (Kp.refl [] wr).drew
          generalize wr.drew = Wd at *
          refine wpAnyH_take (i := 0) (v := ?_) rfl (by kernel_rfl) (by kernel_rfl) (by kernel_rfl) (fun _ _ _ h => h) (Or.inl ⟨by rfl, ?_⟩) (by assumption) ?_
          rotate_left
          · intro w hSw; (try dsimp only at hSw); go_simp <;> with_reducible rfl
          try simp only [Act.put, List.getElem_toArray, List.getElem_cons_zero, List.getElem_cons_succ, List.setIfInBounds_toArray, List.set_cons_zero, List.set_cons_succ]
          refine wpAnyH_take (i := 1) (v := ?_) rfl (by kernel_rfl) (by kernel_rfl) (by kernel_rfl) (fun _ _ _ h => h) (Or.inl ⟨by rfl, ?_⟩) (by assumption) ?_
          rotate_left
          · intro w hSw; (try dsimp only at hSw); go_simp <;> with_reducible rfl
          try simp only [Act.put, List.getElem_toArray, List.getElem_cons_zero, List.getElem_cons_succ, List.setIfInBounds_toArray, List.set_cons_zero, List.set_cons_succ]
          refine wpAnyH_take (i := 2) (v := ?_) rfl (by kernel_rfl) (by kernel_rfl) (by kernel_rfl) (fun _ _ _ h => h) (Or.inl ⟨by rfl, ?_⟩) (by assumption) ?_
          rotate_left
          · intro w hSw; (try dsimp only at hSw); go_simp <;> with_reducible rfl
          try simp only [Act.put, List.getElem_toArray, List.getElem_cons_zero, List.getElem_cons_succ, List.setIfInBounds_toArray, List.set_cons_zero, List.set_cons_succ]
          refine wpAnyH_take (i := 3) (v := ?_) rfl (by kernel_rfl) (by kernel_rfl) (by kernel_rfl) (fun _ _ _ h => h) (Or.inl ⟨by rfl, ?_⟩) (by assumption) ?_
          rotate_left
          · intro w hSw; (try dsimp only at hSw); go_simp <;> with_reducible rfl
          try simp only [Act.put, List.getElem_toArray, List.getElem_cons_zero, List.getElem_cons_succ, List.setIfInBounds_toArray, List.set_cons_zero, List.set_cons_succ]
          refine wpAnyH_take (i := 4) (v := ?_) rfl (by kernel_rfl) (by kernel_rfl) (by kernel_rfl) (fun _ _ _ h => h) (Or.inl ⟨by rfl, ?_⟩) (by assumption) ?_
          rotate_left
          · intro w hSw; (try dsimp only at hSw); go_simp <;> with_reducible rfl
          try simp only [Act.put, List.getElem_toArray, List.getElem_cons_zero, List.getElem_cons_succ, List.setIfInBounds_toArray, List.set_cons_zero, List.set_cons_succ]
          refine wpAnyH_take (i := 5) (v := ?_) rfl (by kernel_rfl) (by kernel_rfl) (by kernel_rfl) (fun _ _ _ h => h) (Or.inl ⟨by rfl, ?_⟩) (by assumption) ?_
          rotate_left
          · intro w hSw; (try dsimp only at hSw); go_simp <;> with_reducible rfl
          try simp only [Act.put, List.getElem_toArray, List.getElem_cons_zero, List.getElem_cons_succ, List.setIfInBounds_toArray, List.set_cons_zero, List.set_cons_succ]
          refine wpAnyH_take (i := 6) (v := ?_) rfl (by kernel_rfl) (by kernel_rfl) (by kernel_rfl) (fun _ _ _ h => h) (Or.inl ⟨by rfl, ?_⟩) (by assumption) ?_
          rotate_left
          · intro w hSw; (try dsimp only at hSw); go_simp <;> with_reducible rfl
          try simp only [Act.put, List.getElem_toArray, List.getElem_cons_zero, List.getElem_cons_succ, List.setIfInBounds_toArray, List.set_cons_zero, List.set_cons_succ]
          refine wpAnyH_take (i := 7) (v := ?_) rfl (by kernel_rfl) (by kernel_rfl) (by kernel_rfl) (fun _ _ _ h => h) (Or.inl ⟨by rfl, ?_⟩) (by assumption) ?_
          rotate_left
          · intro w hSw; (try dsimp only at hSw); go_simp <;> with_reducible rfl
          try simp only [Act.put, List.getElem_toArray, List.getElem_cons_zero, List.getElem_cons_succ, List.setIfInBounds_toArray, List.set_cons_zero, List.set_cons_succ]
          refine wpAnyH_take (i := 8) (v := ?_) rfl (by kernel_rfl) (by kernel_rfl) (by kernel_rfl) (fun _ _ _ h => h) (Or.inl ⟨by rfl, ?_⟩) (by assumption) ?_
          rotate_left
          · intro w hSw; (try dsimp only at hSw); go_simp <;> with_reducible rfl
          try simp only [Act.put, List.getElem_toArray, List.getElem_cons_zero, List.getElem_cons_succ, List.setIfInBounds_toArray, List.set_cons_zero, List.set_cons_succ]
          refine wpAnyH_take (i := 9) (v := ?_) rfl (by kernel_rfl) (by kernel_rfl) (by kernel_rfl) (fun _ _ _ h => h) (Or.inl ⟨by rfl, ?_⟩) (by assumption) ?_
          rotate_left
          · intro w hSw; (try dsimp only at hSw); go_simp <;> with_reducible rfl
          try simp only [Act.put, List.getElem_toArray, List.getElem_cons_zero, List.getElem_cons_succ, List.setIfInBounds_toArray, List.set_cons_zero, List.set_cons_succ]
          refine wpAnyH_take (i := 10) (v := ?_) rfl (by kernel_rfl) (by kernel_rfl) (by kernel_rfl) (fun _ _ _ h => h) (Or.inl ⟨by rfl, ?_⟩) (by assumption) ?_
          rotate_left
          · intro w hSw; (try dsimp only at hSw); go_simp <;> with_reducible rfl
          try simp only [Act.put, List.getElem_toArray, List.getElem_cons_zero, List.getElem_cons_succ, List.setIfInBounds_toArray, List.set_cons_zero, List.set_cons_succ]
          refine wpAnyH_done (by kernel_rfl) ?_ _
          have K6 := hid (kn.out.trans KD.out (by simp))
          clear hHeld hF2 KD
          by_cases hzy : z = y
          · have hn2 : Hid ((k : Int) = fS (p.cl.drop k) k y) := hid (by rw [hfd.out, if_pos hzy])
            have dz : (z == y) = true := by simpa using hzy
            clear hfd hzy
            generalize (z == y) = B at *
            subst dz
            go_wp2_with fail
            exact ⟨⟨k, k, by omega, by go_num, rfl, hn2, K6⟩, by first | (simp [intOf]; done) | (simp [intOf]; omega)⟩
          · have hn2 : Hid (n = fS (p.cl.drop k) k y) := hid (by rw [hfd.out, if_neg hzy])
            have dz : (z == y) = false := by simpa using hzy
            clear hfd hzy
            generalize (z == y) = B at *
            subst dz
            go_wp2_with fail
            exact ⟨⟨k, n, by omega, by go_num, rfl, hn2, K6⟩, by first | (simp [intOf]; done) | (simp [intOf]; omega)⟩
    · have e : j = p.sl.length := by omega
      subst e
      rw [List.take_length] at hL
      go_wp2_with fail
      go_ret
      obtain ⟨_, _, e3, hsee, _, hcp, _⟩ := hw.out.1.see
      cases e3
      exact ⟨b, cb, by rw [← hL.out]; rfl, by rw [← hL.out]; exact hsee, KW.out.trans hw.out.2.2 (by simp)⟩
end Go.Proofs.Ytckicbaidbgonaa
end

section
namespace Go.Hay
open Go.RowKit
set_option linter.unusedVariables false

theorem octet_shift (n : Int) (j : Nat) (h0 : 0 ≤ n) : octet (n / 2 ^ (8 * j) % 256) = UInt8.ofNat (n.toNat / 256 ^ j % 256) := by
  obtain ⟨m, rfl⟩ := Int.eq_ofNat_of_zero_le h0
  unfold octet
  have e : ((m : Int) / 2 ^ (8 * j) % 256) = ((m / 256 ^ j % 256 : Nat) : Int) := by
    rw [Int.pow_mul]
    simp
  rw [e, Int.toNat_natCast, Int.toNat_natCast]
theorem shift_bd (n : Int) (j : Nat) : 0 ≤ n / 2 ^ (8 * j) % 256 ∧ n / 2 ^ (8 * j) % 256 ≤ 255 := by omega
/-- The low bytes of n, noughts ahead: what stands in eight bytes when j of them are laid. -/
def low8 (n j : Nat) : List UInt8 := List.replicate (8 - j) 0 ++ be n j
theorem low8_length (n j : Nat) (h : j ≤ 8) : (low8 n j).length = 8 := by simp [low8, be_length]; omega
theorem low8_succ (n j : Nat) (h : j < 8) : low8 n (j + 1) = (low8 n j).set (7 - j) (UInt8.ofNat (n / 256 ^ j % 256)) := by
  unfold low8
  rw [be, show 8 - j = (7 - j) + 1 by omega, List.replicate_succ', List.append_assoc, List.set_append_right _ _ (by simp)]
  simp [show 8 - (j + 1) = 7 - j by omega]
theorem low8_all (n : Nat) : low8 n 8 = be n 8 := by simp [low8]
theorem or_byte (m x : Nat) (hm : m < 72057594037927936) (hx : x < 256) : bits BinOp.or IntKind.u64 (IntKind.u64.wrap ((m : Int) * 256)) (x : Int) = ((m * 256 + x : Nat) : Int) := by
  have e : IntKind.u64.wrap ((m : Int) * 256) = ((m * 256 : Nat) : Int) := by rw [IntKind.wrap_u64]; omega
  rw [e, bits_or_u64_nat _ _ (by omega) (by omega)]
  have := Nat.two_pow_add_eq_or_of_lt (i := 8) (b := x) (by omega) m
  rw [Nat.mul_comm m 256]
  congr 1
  exact this.symm
theorem num_take_succ (xs : List UInt8) (k : Nat) (h : k < xs.length) : num (xs.take (k + 1)) = num (xs.take k) * 256 + xs[k].toNat := by
  rw [List.take_succ_eq_append_getElem h, num_snoc]
theorem num_take_lt (xs : List UInt8) (k : Nat) (h : k ≤ 7) : num (xs.take k) < 72057594037927936 := by
  have h1 := num_lt (xs.take k)
  have h2 : (xs.take k).length ≤ 7 := by simp; omega
  have h3 : 256 ^ (xs.take k).length ≤ 256 ^ 7 := Nat.pow_le_pow_right (by omega) h2
  omega
theorem num_lt64 (xs : List UInt8) (h : xs.length ≤ 8) : num xs < 18446744073709551616 := by
  have h1 := num_lt xs
  have h3 : 256 ^ xs.length ≤ 256 ^ 8 := Nat.pow_le_pow_right (by omega) h
  omega
end Go.Hay
end

section
namespace Go.Proofs.Ytckicbaidbgonaa
open Go.RowKit Go.Hay
set_option linter.unusedVariables false
set_option linter.unusedSimpArgs false

/-- What a call that appends onto v may turn: v's own block; the row behind it is that one, or new. -/
structure Grew (v : Value) (w : World) (v' : Value) (w' : World) : Prop where
  kp : Kp (own v) w w'
  new : ∀ k ∈ own v', k ∈ own v ∨ w.heap.size ≤ k
theorem Grew.refl (v : Value) (w : World) : Grew v w v w := ⟨Kp.refl _ _, fun _ h => .inl h⟩
theorem Grew.trans {v v1 v2 : Value} {w w1 w2 : World} (h : Grew v w v1 w1) (k : Grew v1 w1 v2 w2) : Grew v w v2 w2 :=
  ⟨h.kp.trans k.kp (fun x hx => h.new x hx), fun x hx => by
      rcases k.new x hx with h1 | h1
      · exact h.new x h1
      · exact .inr (Nat.le_trans h.kp.size h1)⟩
theorem Grew.pre {v v1 : Value} {w w0 w1 : World} (h : Kp [] w w0) (k : Grew v w0 v1 w1) : Grew v w v1 w1 :=
  ⟨(h.mono (T := own v) (by simp)).trans k.kp (fun _ hx => .inl hx), fun x hx => (k.new x hx).imp id (Nat.le_trans h.size)⟩
theorem Grew.post {v v1 : Value} {w w1 w2 : World} (h : Grew v w v1 w1) (k : Kp [] w1 w2) : Grew v w v1 w2 := ⟨h.kp.trans k (by simp), h.new⟩
/-- Where v is no older than the call. -/
theorem Grew.fresh {v v' : Value} {w wn wm : World} (h : Grew v wn v' wm) (kw : Kp [] w wn) (ho : ∀ k ∈ own v, w.heap.size ≤ k) : Kp [] w wm ∧ ∀ k ∈ own v', w.heap.size ≤ k := stepA kw ho h.kp h.new

theorem kpNew (w : World) (o : Obj) : Kp [] w (w.alloc o) := (Kp.refl _ _).alloc _
theorem rowKeep {w w' : World} {v : Value} {bs : List UInt8} (h : Row w v bs) (hk : Kp [] w w') : Row w' v bs := h.kept hk (by simp)
theorem seesKeep {w w' : World} {a : Option Addr} {bs : List UInt8} (h : Sees w a bs) (hk : Kp [] w w') : Sees w' a bs := h.kept hk (by simp)
theorem boxKeep {w w' : World} {q : Nat} {a b c d : Value} (h : Box4 w q a b c d) (hk : Kp [] w w') : Box4 w' q a b c d := h.kept hk (by simp)
/-- A box that is no row's. -/
theorem boxGrew {w w' : World} {q : Nat} {a b c d v v' : Value} (h : Box4 w q a b c d) (hg : Grew v w v' w') (hq : q ∉ own v) : Box4 w' q a b c d := h.kept hg.kp hq
theorem info3 {P : Program} {t : TypeId} {z : Value} {a b : Nat} (h : (P.info? t).map (fun i => (i.zero, i.size, i.bytes)) = some (some z, a, b)) : ∃ i, P.info? t = some i ∧ i.zero = some z ∧ i.size = a ∧ i.bytes = b := by
  cases hp : P.info? t with
  | none => rw [hp] at h; cases h
  | some i =>
    rw [hp] at h
    simp at h
    exact ⟨i, rfl, h.1, h.2.1, h.2.2⟩
theorem infoU : ∃ i : TypeInfo, Try.prog.info? 5 = some i ∧ i.zero = some (.int .u8 0) ∧ i.size = 1 ∧ i.bytes = 1 := info3 (by kernel_rfl)

/-- An append of what a slice sees. -/
theorem wpAppR {w : World} {ops : Array Oper} {rest : List Oper} {o : Oper} {a : Act} {Q : Exit → Act → World → Prop} (hgd : o.guard = none) (s x : Operand)
    (ho : o.op = .call { callee := .builtin .append, args := #[s, x], argTypes := #[122, 122] })
    (v : Value) (xs : List UInt8) (hv : a.eval s = v) (hown : Row w v xs) (sa : Option Addr) (m c : Nat) (bs : List UInt8) (hx : a.eval x = .slice sa m c) (hm : m = bs.length) (hs : Sees w sa bs) (hb : xs.length + bs.length ≤ 200000000000000)
    (hK : ∀ ys a' c' w', Hid (ys = xs ++ bs) → ys.length ≤ xs.length + bs.length → Row w' (.slice a' ys.length c') ys → Grew v w (.slice a' ys.length c') w' → wpList Try.prog ops Q rest (a.put o.dst (.slice a' ys.length c')) w') : wpList Try.prog ops Q (o :: rest) a w := by
  obtain ⟨i0, hi, hz0, hz1, hz2⟩ := infoU
  subst hm
  exact wpList_append_src _ hgd s x 122 122 ho i0 Try.underlying122 hi hz0 hz1 hz2 v xs hv hown _ bs hx (hs.src Try.underlying122 c) hb (fun v' w' h1 h2 h3 => by obtain ⟨a', c', rfl, _⟩ := h1.shape; exact hK _ a' c' w' rfl (by simp) h1 ⟨h2, h3⟩)
theorem bcells_byteCells (s : ByteArray) : byteCells s = bcells s.data.toList := by
  simp [byteCells, bcells]
/-- An append of a string's bytes. -/
theorem wpAppS {w : World} {ops : Array Oper} {rest : List Oper} {o : Oper} {a : Act} {Q : Exit → Act → World → Prop} (hgd : o.guard = none) (s x : Operand)
    (ho : o.op = .call { callee := .builtin .append, args := #[s, x], argTypes := #[122, 9] })
    (v : Value) (xs : List UInt8) (hv : a.eval s = v) (hown : Row w v xs) (t : ByteArray) (hx : a.eval x = .string t) (hb : xs.length + t.size ≤ 200000000000000)
    (hK : ∀ ys a' c' w', Hid (ys = xs ++ t.data.toList) → ys.length ≤ xs.length + t.size → Row w' (.slice a' ys.length c') ys → Grew v w (.slice a' ys.length c') w' → wpList Try.prog ops Q rest (a.put o.dst (.slice a' ys.length c')) w') : wpList Try.prog ops Q (o :: rest) a w := by
  obtain ⟨i0, hi, hz0, hz1, hz2⟩ := infoU
  have hlen : t.data.toList.length = t.size := by simp
  have hs := Src.ofString (P := Try.prog) w (tx := 9) Try.underlying9 t
  rw [← hlen, bcells_byteCells] at hs
  exact wpList_append_src _ hgd s x 122 9 ho i0 Try.underlying122 hi hz0 hz1 hz2 v xs hv hown _ t.data.toList hx hs (by rw [hlen]; exact hb) (fun v' w' h1 h2 h3 => by obtain ⟨a', c', rfl, _⟩ := h1.shape; exact hK _ a' c' w' rfl (by simp) h1 ⟨h2, h3⟩)
/-- One byte, two bytes in a new block. -/
theorem seesOne (w : World) {q : Nat} (hq : w.heap.size = q) (x : Int) (h0 : 0 ≤ x) (h1 : x ≤ 255) (t : TypeId) : Sees (w.alloc (.cells #[.int .u8 x] t)) (some ⟨q, 0, none⟩) [octet x] := by
  subst hq
  exact Sees.new w _ t _ _ (by simp [bcells, octet_toNat x h0 h1])
theorem seesTwo (w : World) {q : Nat} (hq : w.heap.size = q) (x y : Int) (h0 : 0 ≤ x) (h1 : x ≤ 255) (g0 : 0 ≤ y) (g1 : y ≤ 255) (t : TypeId) : Sees (w.alloc (.cells #[.int .u8 x, .int .u8 y] t)) (some ⟨q, 0, none⟩) [octet x, octet y] := by
  subst hq
  exact Sees.new w _ t _ _ (by simp [bcells, octet_toNat x h0 h1, octet_toNat y g0 g1])
theorem rowNew (w : World) {q : Nat} (hq : w.heap.size = q) (x : Int) (h0 : 0 ≤ x) (h1 : x ≤ 255) (t : TypeId) : Row (w.alloc (.cells #[.int .u8 x] t)) (.slice (some ⟨q, 0, none⟩) 1 1) [octet x] := by
  subst hq
  refine .inr ⟨w.heap.size, 0, 1, rfl, Nat.le_refl _, by unfold maxLen; omega, by simp, ?_, ?_⟩
  · intro j u hu
    match j, hu with
    | 0, hu => cases hu; rw [octet_toNat x h0 h1]; exact World.cell?_alloc_new w _ _ 0
    | j + 1, hu => simp at hu
  · intro j hj
    obtain rfl : j = 0 := by omega
    exact ⟨by rw [show (w.alloc (.cells #[.int .u8 x] t)).cell? ⟨w.heap.size, 0 + 0, none⟩ = _ from World.cell?_alloc_new w _ _ 0]; rfl, World.frozen?_alloc_new w _ _ 0⟩
end Go.Proofs.Ytckicbaidbgonaa
end

section
namespace Go.Proofs.Ytckicbaidbgonaa
open Go.RowKit Go.Hay
set_option linter.unusedVariables false
set_option linter.unusedSimpArgs false

/-- A block of eight cells: bytes. -/
structure Box8 (w : World) (q : Nat) (l : List UInt8) : Prop where
  len : l.length = 8
  cell : ∀ j u, l[j]? = some u → w.cell? ⟨q, j, none⟩ = some (.int .u8 u.toNat)
  free : ∀ j, w.frozen? ⟨q, j, none⟩ = false
theorem Box8.at {w : World} {q : Nat} {l : List UInt8} (h : Box8 w q l) (j : Nat) (hj : j < 8) : w.cell? ⟨q, j, none⟩ = some (.int .u8 (l.getD j 0).toNat) := by
  have hl := h.len
  have : l[j]? = some (l.getD j 0) := by rw [List.getElem?_eq_getElem (by omega)]; simp [List.getD_eq_getElem?_getD, List.getElem?_eq_getElem (by omega : j < l.length)]
  exact h.cell j _ this
theorem Box8.set {w : World} {q : Nat} {l : List UInt8} (h : Box8 w q l) (i : Nat) (x : UInt8) (hi : i < 8) : Box8 (w.setCell ⟨q, i, none⟩ (.int .u8 x.toNat)) q (l.set i x) := by
  have hl := h.len
  refine ⟨by simpa using hl, fun j u hu => ?_, fun j => by rw [World.frozen?_setCell]; exact h.free j⟩
  by_cases hj : j = i
  · subst hj
    rw [List.getElem?_set_self (by omega)] at hu
    cases hu
    exact World.cell?_setCell_same _ _ _ (h.at j hi)
  · rw [List.getElem?_set_ne (fun e => hj e.symm)] at hu
    rw [World.cell?_setCell_other _ _ _ _ (by intro e; simp only [Addr.mk.injEq] at e; omega)]
    exact h.cell j u hu
theorem Box8.lt {w : World} {q : Nat} {l : List UInt8} (h : Box8 w q l) : q < w.heap.size := World.block_lt_of_cell? _ _ (h.at 0 (by omega))
theorem Box8.kept {w w' : World} {q : Nat} {l : List UInt8} {S : List Nat} (h : Box8 w q l) (hk : Kp S w w') (hq : q ∉ S) : Box8 w' q l :=
  ⟨h.len, fun j u hu => (hk.cell (p := ⟨q, j, none⟩) h.lt hq).trans (h.cell j u hu), fun j => (hk.frozen (p := ⟨q, j, none⟩) h.lt hq).trans (h.free j)⟩

/-- Eight bytes, as a value. -/
def long8 (l : List UInt8) : Value := .agg #[.int .u8 (l.getD 0 0).toNat, .int .u8 (l.getD 1 0).toNat, .int .u8 (l.getD 2 0).toNat, .int .u8 (l.getD 3 0).toNat, .int .u8 (l.getD 4 0).toNat, .int .u8 (l.getD 5 0).toNat, .int .u8 (l.getD 6 0).toNat, .int .u8 (l.getD 7 0).toNat]

theorem Box8.zero {w : World} (q : Nat) (hq : w.heap.size = q) (t : TypeId) : Box8 (w.alloc (.cells #[.int .u8 0, .int .u8 0, .int .u8 0, .int .u8 0, .int .u8 0, .int .u8 0, .int .u8 0, .int .u8 0] t)) q (low8 0 0) := by
  subst hq
  refine ⟨rfl, fun j u hu => ?_, fun j => World.frozen?_alloc_new w _ _ j⟩
  have e := World.cell?_alloc_new w #[.int .u8 0, .int .u8 0, .int .u8 0, .int .u8 0, .int .u8 0, .int .u8 0, .int .u8 0, .int .u8 0] t j
  rw [e]
  match j, hu with
  | 0, hu | 1, hu | 2, hu | 3, hu | 4, hu | 5, hu | 6, hu | 7, hu => cases hu; rfl
  | j + 8, hu => simp [low8, be] at hu
/-- Eight bytes, laid one by one. -/
def put8 (w : World) (q : Nat) (x0 x1 x2 x3 x4 x5 x6 x7 : UInt8) : World :=
  (((((((w.setCell ⟨q, 0, none⟩ (.int .u8 x0.toNat)).setCell ⟨q, 1, none⟩ (.int .u8 x1.toNat)).setCell ⟨q, 2, none⟩ (.int .u8 x2.toNat)).setCell ⟨q, 3, none⟩ (.int .u8 x3.toNat)).setCell ⟨q, 4, none⟩ (.int .u8 x4.toNat)).setCell ⟨q, 5, none⟩ (.int .u8 x5.toNat)).setCell ⟨q, 6, none⟩ (.int .u8 x6.toNat)).setCell ⟨q, 7, none⟩ (.int .u8 x7.toNat)
theorem Box8.put {w : World} {q : Nat} {l : List UInt8} (h : Box8 w q l) (x0 x1 x2 x3 x4 x5 x6 x7 : UInt8) : Box8 (put8 w q x0 x1 x2 x3 x4 x5 x6 x7) q [x0, x1, x2, x3, x4, x5, x6, x7] := by
  have hh := (((((((h.set 0 x0 (by omega)).set 1 x1 (by omega)).set 2 x2 (by omega)).set 3 x3 (by omega)).set 4 x4 (by omega)).set 5 x5 (by omega)).set 6 x6 (by omega)).set 7 x7 (by omega)
  have hl := h.len
  match l, hl with
  | [_, _, _, _, _, _, _, _], _ => exact hh
theorem gen8 {w0 w : World} {q : Nat} {l : List UInt8} {R : World → Prop} (h : Box8 w q l) (hk : Kp [] w0 w) (hq : w0.heap.size ≤ q) (x0 x1 x2 x3 x4 x5 x6 x7 : UInt8)
    (H : ∀ W, Box8 W q [x0, x1, x2, x3, x4, x5, x6, x7] → Kp [] w0 W → R W) :
    R ((((((((w.setCell ⟨q, 0, none⟩ (.int .u8 x0.toNat)).setCell ⟨q, 1, none⟩ (.int .u8 x1.toNat)).setCell ⟨q, 2, none⟩ (.int .u8 x2.toNat)).setCell ⟨q, 3, none⟩ (.int .u8 x3.toNat)).setCell ⟨q, 4, none⟩ (.int .u8 x4.toNat)).setCell ⟨q, 5, none⟩ (.int .u8 x5.toNat)).setCell ⟨q, 6, none⟩ (.int .u8 x6.toNat)).setCell ⟨q, 7, none⟩ (.int .u8 x7.toNat)) :=
  H _ (h.put x0 x1 x2 x3 x4 x5 x6 x7) ((((((((hk.setCell (.inr hq) _).setCell (.inr hq) _).setCell (.inr hq) _).setCell (.inr hq) _).setCell (.inr hq) _).setCell (.inr hq) _).setCell (.inr hq) _).setCell (.inr hq) _)
theorem Box8.box (w : World) (l : List UInt8) (hl : l.length = 8) (t : TypeId) : Box8 (w.alloc (.cells #[.int .u8 (l.getD 0 0).toNat, .int .u8 (l.getD 1 0).toNat, .int .u8 (l.getD 2 0).toNat, .int .u8 (l.getD 3 0).toNat, .int .u8 (l.getD 4 0).toNat, .int .u8 (l.getD 5 0).toNat, .int .u8 (l.getD 6 0).toNat, .int .u8 (l.getD 7 0).toNat] t)) w.heap.size l := by
  match l, hl with
  | [x0, x1, x2, x3, x4, x5, x6, x7], _ =>
  refine ⟨rfl, fun j u hu => ?_, fun j => World.frozen?_alloc_new w _ _ j⟩
  rw [World.cell?_alloc_new w _ _ j]
  match j, hu with
  | 0, hu | 1, hu | 2, hu | 3, hu | 4, hu | 5, hu | 6, hu | 7, hu => cases hu; rfl
  | j + 8, hu => simp at hu
theorem low8_zero (n : Nat) : low8 n 0 = low8 0 0 := rfl
theorem kpOther {w : World} {q i : Nat} {v : Value} {S : List Nat} (hq : q ∈ S) : Kp S w (w.setCell ⟨q, i, none⟩ v) := (Kp.refl S w).setCell (p := ⟨q, i, none⟩) (.inl hq) v

set_option maxHeartbeats 2000000 in
set_option maxRecDepth 100000 in
theorem cLongOf (n : Int) (w : World) (h0 : 0 ≤ n) (h1 : n < 18446744073709551616) :
    Calls Try.prog 88 #[.int .u64 n] w fun e w' => e = .returned (long8 (be n.toNat 8)) ∧ Kp [] w w' := by
  go_enter Try.func88, Try.ntmps88
  go_wp2_with fail
  go_loopw [5] (fun i wn => ∃ j : Nat, j ≤ 8 ∧ i = .int .i64 j ∧ Box8 wn w.heap.size (low8 0 0) ∧ Box8 wn (w.heap.size + 1) (low8 n.toNat j) ∧ wn.heap.size = w.heap.size + 2 ∧ Kp [] w wn) (fun i _ => 8 - (intOf i).toNat)
  case atStart =>
    refine ⟨0, Nat.zero_le _, rfl, (Box8.zero (w := w) _ rfl _).kept (S := []) ((Kp.refl _ _).alloc _) (by simp), Box8.zero _ (by simp) _, by simp, ((Kp.refl _ _).alloc _).alloc _⟩
  case round =>
    obtain ⟨j, hj, rfl, hb0, hbx, hsz, hk⟩ := hrel
    by_cases hlt : j < 8
    · have hc := hbx.at (7 - j) (by omega)
      have hf := hbx.free (7 - j)
      go_wp2_with fail
      have hbd := shift_bd n j
      rw [← octet_toNat _ hbd.1 hbd.2, octet_shift n j h0]
      refine ⟨⟨j + 1, by omega, by go_num, ?_, ?_, ?_, ?_⟩, by simp [intOf]; omega⟩
      · exact hb0.kept (S := [w.heap.size + 1]) (kpOther (by simp)) (by simp)
      · rw [low8_succ _ _ hlt]; exact hbx.set (7 - j) _ (by omega)
      · simpa [World.setCell] using hsz
      · exact hk.setCell (p := ⟨w.heap.size + 1, 7 - j, none⟩) (.inr (by simp)) _
    · obtain rfl : j = 8 := by omega
      rw [low8_all] at hbx
      obtain ⟨x0, x1, x2, x3, x4, x5, x6, x7, hbe⟩ : ∃ x0 x1 x2 x3 x4 x5 x6 x7 : UInt8, Hid (be n.toNat 8 = [x0, x1, x2, x3, x4, x5, x6, x7]) := ⟨_, _, _, _, _, _, _, _, rfl⟩
      rw [hbe.out] at hbx
      have c0 := hbx.cell 0 _ rfl; have c1 := hbx.cell 1 _ rfl; have c2 := hbx.cell 2 _ rfl; have c3 := hbx.cell 3 _ rfl
      have c4 := hbx.cell 4 _ rfl; have c5 := hbx.cell 5 _ rfl; have c6 := hbx.cell 6 _ rfl; have c7 := hbx.cell 7 _ rfl
      have z0 := hb0.cell 0 0 rfl; have z1 := hb0.cell 1 0 rfl; have z2 := hb0.cell 2 0 rfl; have z3 := hb0.cell 3 0 rfl
      have z4 := hb0.cell 4 0 rfl; have z5 := hb0.cell 5 0 rfl; have z6 := hb0.cell 6 0 rfl; have z7 := hb0.cell 7 0 rfl
      have f0 := hb0.free 0; have f1 := hb0.free 1; have f2 := hb0.free 2; have f3 := hb0.free 3
      have f4 := hb0.free 4; have f5 := hb0.free 5; have f6 := hb0.free 6; have f7 := hb0.free 7
      clear hbx
      go_wp2_with fail
      refine gen8 (R := fun W => bodyPost _ _ _ _ _ W) hb0 hk (Nat.le_refl _) x0 x1 x2 x3 x4 x5 x6 x7 ?_
      intro W hb8 hk8
      clear c0 c1 c2 c3 c4 c5 c6 c7
      have c0 := hb8.cell 0 _ rfl; have c1 := hb8.cell 1 _ rfl; have c2 := hb8.cell 2 _ rfl; have c3 := hb8.cell 3 _ rfl
      have c4 := hb8.cell 4 _ rfl; have c5 := hb8.cell 5 _ rfl; have c6 := hb8.cell 6 _ rfl; have c7 := hb8.cell 7 _ rfl
      refine bodyPost_ret (v := long8 [x0, x1, x2, x3, x4, x5, x6, x7]) (by simp [results, Try.results88, go_sem, c0, c1, c2, c3, c4, c5, c6, c7]; rfl) rfl ⟨by rw [hbe.out], hk8⟩

set_option maxHeartbeats 2000000 in
set_option maxRecDepth 100000 in
theorem cRefNumber (n : Int) (w : World) (h0 : 0 ≤ n) (h1 : n < 18446744073709551616) :
    Calls Try.prog 86 #[.int .u64 n] w fun e w' => ∃ v, e = .returned v ∧ Row w' v (be n.toNat 8) ∧ (∀ k ∈ own v, w.heap.size ≤ k) ∧ Kp [] w w' := by
  go_enter Try.func86, Try.ntmps86
  go_wp2_with fail
  go_loopw [3, 4] (fun b s wn => ∃ (j : Nat) (cur : List UInt8) (a : Option Addr) (c : Nat), s = .int .i64 (8 * ((j : Int) - 1)) ∧ j ≤ 8 ∧ b = .slice a cur.length c ∧ Row wn (.slice a cur.length c) cur ∧ Hid (cur ++ be n.toNat j = be n.toNat 8) ∧ (∀ k ∈ own (.slice a cur.length c), w.heap.size ≤ k) ∧ Kp [] w wn) (fun _ s _ => (intOf s + 8).toNat)
  case atStart => exact ⟨8, [], none, 0, rfl, Nat.le_refl _, rfl, Row.nil _, rfl, by simp [own, Value.ownBlock], Kp.refl _ _⟩
  case round =>
    obtain ⟨j, cur, a, c, rfl, hj, rfl, hrow, hcur, hown, hk⟩ := hrel
    have hlen : cur.length + j = 8 := by have := congrArg List.length hcur.out; simpa [be_length] using this
    cases j with
    | zero =>
      go_wp2_with fail
      go_ret
      have e : cur = be n.toNat 8 := by have := hcur.out; simpa [be] using this
      subst e
      exact ⟨_, rfl, hrow, hown, hk⟩
    | succ j =>
      have H : Hid (cur ++ [octet (n / 2 ^ (8 * j) % 256)] ++ be n.toNat j = be n.toNat 8) := by
        have := hcur.out
        show _ = _
        rw [octet_shift n j h0]
        simpa [be] using this
      have hbd := shift_bd n j
      have k0 : Kp [] wr (wr.alloc (.cells #[.int .u8 (n / 2 ^ (8 * j) % 256)] 5)) := (Kp.refl _ _).alloc _
      go_wp2_with (at_builtin; refine wpAppR rfl _ _ rfl _ cur rfl (hrow.kept k0 (by simp)) _ _ _ [octet (n / 2 ^ (8 * j) % 256)] rfl rfl (seesOne wr rfl _ hbd.1 hbd.2 _) (by simp; omega) ?_)
      intro ys a' c' w1 hys _ hr hg
      obtain ⟨hkn, hon⟩ := (hg.pre k0).fresh hk hown
      have H' : Hid (ys ++ be n.toNat j = be n.toNat 8) := by show _ = _; rw [hys.out]; exact H.out
      go_wp2_with fail
      go_roundw
      case rel => exact ⟨j, _, a', c', by go_num, by omega, rfl, hr, H', hon, hkn⟩
      case measure => simp [intOf]; omega
end Go.Proofs.Ytckicbaidbgonaa
end

section
namespace Go.Proofs.Ytckicbaidbgonaa
open Go.RowKit Go.Hay
set_option linter.unusedVariables false
set_option linter.unusedSimpArgs false

/-- An int, as an unsigned number. -/
def u64 (n : Int) : Nat := (n % 18446744073709551616).toNat
/-- What rows and keys have of a null, a bool, an int. -/
def fixB (x : Val) (add : Int) : List UInt8 := if x.k = 0 then [0] else if x.k = 1 then [1, if x.b then 1 else 0] else 2 :: be (u64 (x.n + add)) 8
/-- A value's bytes in a row. -/
def rowB (x : Val) : List UInt8 := if x.k = 3 then 3 :: octet x.t.size :: x.t.data.toList else fixB x 0
/-- A text's bytes in a key. -/
def escK (l : List UInt8) : List UInt8 := l.flatMap fun c => if c = 0 then [0, 255] else [c]
/-- A value's bytes in a key. -/
def keyB (x : Val) : List UInt8 := if x.k = 3 then 3 :: (escK x.t.data.toList ++ [0, 0]) else fixB x 9223372036854775808

theorem right_kind {x : Val} (h : x.right = true) : x.k = 0 ∨ x.k = 1 ∨ x.k = 2 ∨ x.k = 3 := by
  unfold Val.right at h
  split at h
  · omega
  split at h
  · omega
  split at h
  · omega
  split at h
  · omega
  · cases h
theorem right_text {x : Val} (h : x.right = true) (hk : x.k = 3) : x.t.size ≤ 64 := by
  unfold Val.right at h
  rw [hk] at h
  simp at h
  omega
theorem cTruth (b : Bool) (w : World) : Calls Try.prog 87 #[.bool b] w fun e w' => e = .returned (.int .u8 (if b then 1 else 0)) ∧ w' = w := by
  cases b
  all_goals (go_enter Try.func87, Try.ntmps87; go_wp2_with fail; go_ret; exact ⟨rfl, rfl⟩)

set_option maxHeartbeats 2000000 in
set_option maxRecDepth 100000 in
theorem cPutFixed (x : Val) (hkind : x.k = 0 ∨ x.k = 1 ∨ x.k = 2) (add : Int) (a : Option Addr) (c : Nat) (bs : List UInt8) (w : World) (hr : Row w (.slice a bs.length c) bs) (hb : bs.length ≤ 100000000000000) :
    Calls Try.prog 85 #[.slice a bs.length c, x.v, .int .u64 add] w fun e w' => ∃ v', e = .returned v' ∧ Row w' v' (bs ++ fixB x add) ∧ Grew (.slice a bs.length c) w v' w' := by
  obtain ⟨k, b, n, t⟩ := x
  unfold Val.v
  dsimp only at hkind ⊢
  have bA := Box4.new w (.int .i64 k) (.bool b) (.int .i64 n) (.string t) 88
  have kW : Kp [] w (w.alloc (.cells #[.int .i64 k, .bool b, .int .i64 n, .string t] 88)) := (Kp.refl _ _).alloc _
  have hrW := rowKeep hr kW
  have hqn : w.heap.size ∉ own (.slice a bs.length c) := fun h => by have := hr.lt _ h; omega
  rcases hkind with rfl | rfl | rfl
  · go_enter Try.func85, Try.ntmps85
    go_wp2_with (at_builtin; refine wpAppR rfl _ _ rfl (.slice a bs.length c) bs rfl (rowKeep hrW (kpNew _ _)) _ _ _ [octet 0] rfl rfl (seesOne _ (by simp) 0 (by omega) (by omega) _) (by simp; omega) ?_)
    intro b1 a1 c1 w1 hb1 hl1 hr1 hg1
    have hg := hg1.pre (kW.trans (kpNew _ _) (by simp))
    have bA1 := boxGrew (boxKeep bA (kpNew _ _)) hg1 hqn
    have q0 := bA1.c0; have q1 := bA1.c1; have q2 := bA1.c2; have q3 := bA1.c3
    clear hrW
    go_wp2_with fail
    go_ret
    exact ⟨_, rfl, by rw [show bs ++ fixB ⟨0, b, n, t⟩ add = b1 by rw [hb1.out]; rfl]; exact hr1, hg⟩
  · go_enter Try.func85, Try.ntmps85
    go_wp2_with (at_builtin; refine wpAppR rfl _ _ rfl (.slice a bs.length c) bs rfl (rowKeep hrW (kpNew _ _)) _ _ _ [octet 1] rfl rfl (seesOne _ (by simp) 1 (by omega) (by omega) _) (by simp; omega) ?_)
    intro b1 a1 c1 w1 hb1 hl1 hr1 hg1
    have hg := hg1.pre (kW.trans (kpNew _ _) (by simp))
    have bA1 := boxGrew (boxKeep bA (kpNew _ _)) hg1 hqn
    have q0 := bA1.c0; have q1 := bA1.c1; have q2 := bA1.c2; have q3 := bA1.c3
    clear hrW
    have hl1' : b1.length ≤ 100000000000001 := by have : b1.length ≤ bs.length + 1 := hl1; omega
    clear hl1
    have hT := cTruth b
    obtain ⟨y, hy0, hy1, HY⟩ : ∃ y : Int, 0 ≤ y ∧ y ≤ 255 ∧ Hid ((if b = true then (1 : Int) else 0) = y) := ⟨_, by split <;> omega, by split <;> omega, rfl⟩
    rw [HY.out] at hT
    go_wp2_with fail
    refine (hT _).mono ?_
    rintro e w2 ⟨rfl, rfl⟩
    go_wp2_with (at_builtin; refine wpAppR rfl _ _ rfl _ b1 rfl (rowKeep hr1 (kpNew _ _)) _ _ _ [octet y] rfl rfl (seesOne _ (by simp) y hy0 hy1 _) (by simp; omega) ?_)
    intro b2 a2 c2 w2 hb2 _ hr2 hg2
    have hgg := hg.trans (hg2.pre (kpNew _ _))
    go_wp2_with fail
    go_ret
    refine ⟨_, rfl, ?_, hgg⟩
    have e : fixB ⟨1, b, n, t⟩ add = [octet 1, octet y] := by rw [← HY.out]; cases b <;> rfl
    rw [show bs ++ fixB ⟨1, b, n, t⟩ add = b2 by rw [hb2.out, hb1.out, e]; simp]
    exact hr2
  · go_enter Try.func85, Try.ntmps85
    go_wp2_with (at_builtin; refine wpAppR rfl _ _ rfl (.slice a bs.length c) bs rfl (rowKeep hrW (kpNew _ _)) _ _ _ [octet 2] rfl rfl (seesOne _ (by simp) 2 (by omega) (by omega) _) (by simp; omega) ?_)
    intro b1 a1 c1 w1 hb1 hl1 hr1 hg1
    have hg := hg1.pre (kW.trans (kpNew _ _) (by simp))
    have bA1 := boxGrew (boxKeep bA (kpNew _ _)) hg1 hqn
    have q0 := bA1.c0; have q1 := bA1.c1; have q2 := bA1.c2; have q3 := bA1.c3
    clear hrW
    have hl1' : b1.length ≤ 100000000000001 := by have : b1.length ≤ bs.length + 1 := hl1; omega
    clear hl1
    have hu : Hid (IntKind.u64.wrap (IntKind.u64.wrap n + add) = (u64 (n + add) : Int)) := by
      show _ = _
      rw [IntKind.wrap_u64, IntKind.wrap_u64]; unfold u64; omega
    have hu2 : u64 (n + add) < 18446744073709551616 := by unfold u64; omega
    have hL := cLongOf (u64 (n + add))
    rw [Int.toNat_natCast] at hL
    obtain ⟨x0, x1, x2, x3, x4, x5, x6, x7, hbe⟩ : ∃ x0 x1 x2 x3 x4 x5 x6 x7 : UInt8, Hid (be (u64 (n + add)) 8 = [x0, x1, x2, x3, x4, x5, x6, x7]) := ⟨_, _, _, _, _, _, _, _, rfl⟩
    have hL2 := fun w => hL w (by omega) (by omega)
    rw [hbe.out] at hL2
    rw [show long8 [x0, x1, x2, x3, x4, x5, x6, x7] = .agg #[.int .u8 x0.toNat, .int .u8 x1.toNat, .int .u8 x2.toNat, .int .u8 x3.toNat, .int .u8 x4.toNat, .int .u8 x5.toNat, .int .u8 x6.toNat, .int .u8 x7.toNat] from rfl] at hL2
    clear hL
    go_wp2_with fail
    rw [hu.out]
    refine (hL2 _).mono ?_
    rintro e w2 ⟨rfl, k2⟩
    go_wp2_with (at_builtin; refine wpAppR rfl _ _ rfl _ b1 rfl (rowKeep (rowKeep hr1 k2) (kpNew _ _)) _ _ _ [x0, x1, x2, x3, x4, x5, x6, x7] rfl rfl (Sees.new w2 _ _ _ _ rfl) (by simp; omega) ?_)
    intro b2 a2 c2 w3 hb2 _ hr2 hg2
    have hgg := (hg.post k2).trans (hg2.pre (kpNew _ _))
    go_wp2_with fail
    go_ret
    refine ⟨_, rfl, ?_, hgg⟩
    have e : fixB ⟨2, b, n, t⟩ add = 2 :: [x0, x1, x2, x3, x4, x5, x6, x7] := by rw [← hbe.out]; rfl
    rw [show bs ++ fixB ⟨2, b, n, t⟩ add = b2 by rw [hb2.out, hb1.out, e]; simp [octet]]
    exact hr2

set_option maxHeartbeats 2000000 in
set_option maxRecDepth 100000 in
theorem cPutValue (x : Val) (hx : x.right = true) (a : Option Addr) (c : Nat) (bs : List UInt8) (w : World) (hr : Row w (.slice a bs.length c) bs) (hb : bs.length ≤ 100000000000) :
    Calls Try.prog 79 #[.slice a bs.length c, x.v] w fun e w' => ∃ v', e = .returned v' ∧ Row w' v' (bs ++ rowB x) ∧ Grew (.slice a bs.length c) w v' w' := by
  by_cases h3 : x.k = 3
  · have h64 := right_text hx h3
    have e : rowB x = 3 :: octet x.t.size :: x.t.data.toList := by unfold rowB; rw [if_pos h3]
    have HE := hid e
    obtain ⟨k, b, n, t⟩ := x
    unfold Val.v
    dsimp only at h3 h64 HE ⊢
    subst h3
    clear hx e
    have bA := Box4.new w (.int .i64 3) (.bool b) (.int .i64 n) (.string t) 88
    have kW : Kp [] w (w.alloc (.cells #[.int .i64 3, .bool b, .int .i64 n, .string t] 88)) := (Kp.refl _ _).alloc _
    have hrW := rowKeep hr kW
    have hqn : w.heap.size ∉ own (.slice a bs.length c) := fun h => by have := hr.lt _ h; omega
    have hwr : IntKind.u8.wrap (t.size : Int) = (t.size : Int) := by rw [IntKind.wrap_u8]; omega
    go_enter Try.func79, Try.ntmps79
    go_wp2_with (at_builtin; refine wpAppR rfl _ _ rfl (.slice a bs.length c) bs rfl (rowKeep hrW (kpNew _ _)) _ _ _ [octet 3, octet t.size] rfl rfl (seesTwo _ (by simp) 3 t.size (by omega) (by omega) (by omega) (by omega) _) (by simp; omega) ?_)
    intro b1 a1 c1 w1 hb1 hl1 hr1 hg1
    have hl1' : b1.length ≤ 100000000002 := by have : b1.length ≤ bs.length + 2 := hl1; omega
    clear hl1
    have hg := hg1.pre (kW.trans (kpNew _ _) (by simp))
    have bA1 := boxGrew (boxKeep bA (kpNew _ _)) hg1 hqn
    have q0 := bA1.c0; have q1 := bA1.c1; have q2 := bA1.c2; have q3 := bA1.c3
    clear hrW
    go_wp2_with (at_builtin; refine wpAppS rfl _ _ rfl _ b1 rfl hr1 t rfl (by omega) ?_)
    intro b2 a2 c2 w2 hb2 _ hr2 hg2
    have hgg := hg.trans hg2
    go_wp2_with fail
    go_ret
    refine ⟨_, rfl, ?_, hgg⟩
    rw [show bs ++ rowB ⟨3, b, n, t⟩ = b2 by rw [hb2.out, hb1.out, HE.out]; simp [octet]]
    exact hr2
  · have hk : x.k = 0 ∨ x.k = 1 ∨ x.k = 2 := by have := right_kind hx; omega
    have e : rowB x = fixB x 0 := by unfold rowB; rw [if_neg h3]
    have HE := hid e
    have hP := fun w' (h : Row w' (.slice a bs.length c) bs) => cPutFixed x hk 0 a c bs w' h (by omega)
    rw [← HE.out] at hP
    have hk3 : (x.k == 3) = false := by simpa using h3
    generalize rowB x = rb at *
    obtain ⟨k, b, n, t⟩ := x
    unfold Val.v at *
    dsimp only at hP hk3 ⊢
    clear hx e HE hk h3
    have bA := Box4.new w (.int .i64 k) (.bool b) (.int .i64 n) (.string t) 88
    have kW : Kp [] w (w.alloc (.cells #[.int .i64 k, .bool b, .int .i64 n, .string t] 88)) := (Kp.refl _ _).alloc _
    have hrW := rowKeep hr kW
    have q0 := bA.c0; have q1 := bA.c1; have q2 := bA.c2; have q3 := bA.c3
    go_enter Try.func79, Try.ntmps79
    go_wp2_with fail
    refine (hP _ hrW).mono ?_
    rintro e w1 ⟨v1, rfl, hr1, hg1⟩
    go_wp2_with fail
    go_ret
    exact ⟨_, rfl, hr1, hg1.pre kW⟩
end Go.Proofs.Ytckicbaidbgonaa
end

section
namespace Go.Proofs.Ytckicbaidbgonaa
open Go.RowKit Go.Hay
set_option linter.unusedVariables false
set_option linter.unusedSimpArgs false

theorem escK_take (l : List UInt8) (j : Nat) (h : j < l.length) : escK (l.take (j + 1)) = escK (l.take j) ++ (if l[j] = 0 then [0, 255] else [l[j]]) := by
  unfold escK
  rw [List.take_succ_eq_append_getElem h, List.flatMap_append]
  simp
theorem escK_length (l : List UInt8) : (escK l).length ≤ 2 * l.length := by
  induction l with
  | nil => simp [escK]
  | cons x l ih =>
    have e : escK (x :: l) = (if x = 0 then [0, 255] else [x]) ++ escK l := by simp [escK]
    rw [e, List.length_append, List.length_cons]
    split <;> simp <;> omega
theorem notOwn {a : Option Addr} {n c : Nat} {bs : List UInt8} {w : World} {o : Obj} {v' : Value} {w' : World} (hr : Row w (.slice a n c) bs) (hg : Grew (.slice a n c) (w.alloc o) v' w') : w.heap.size ∉ own v' := fun h => by
  rcases hg.new _ h with h1 | h1
  · have := hr.lt _ h1; omega
  · simp at h1; omega

/-- A row that grew, all new. -/
structure New (w : World) (v : Value) (w' : World) : Prop where
  kp : Kp [] w w'
  own : ∀ k ∈ Go.Hay.own v, w.heap.size ≤ k
theorem New.grew {w w1 w2 : World} {v v' : Value} (h : New w v w1) (g : Grew v w1 v' w2) : New w v' w2 := by
  obtain ⟨a, b⟩ := g.fresh h.kp h.own
  exact ⟨a, b⟩
theorem New.post {w w1 w2 : World} {v : Value} (h : New w v w1) (k : Kp [] w1 w2) : New w v w2 := ⟨h.kp.trans k (by simp), h.own⟩
theorem New.nil {w w' : World} (k : Kp [] w w') (c : Nat) : New w (.slice none 0 c) w' := ⟨k, by simp [Go.Hay.own, Value.ownBlock]⟩
theorem New.pre {w w0 w1 : World} {v : Value} (k : Kp [] w w0) (h : New w0 v w1) : New w v w1 := ⟨k.trans h.kp (by simp), fun x hx => Nat.le_trans k.size (h.own x hx)⟩

set_option maxHeartbeats 4000000 in
set_option maxRecDepth 100000 in
theorem cOne (x : Val) (hx : x.right = true) (w : World) :
    Calls Try.prog 81 #[x.v] w fun e w' => ∃ v, e = .returned v ∧ Row w' v (rowB x) ∧ New w v w' := by
  have hkind := right_kind hx
  have htext := fun h => right_text hx h
  obtain ⟨rb, Hrb⟩ : ∃ rb : List UInt8, Hid (rowB x = rb) := ⟨_, rfl⟩
  rw [Hrb.out]
  obtain ⟨k, b, n, t⟩ := x
  unfold Val.v
  dsimp only at hkind htext ⊢
  clear hx
  have bA := Box4.new w (.int .i64 k) (.bool b) (.int .i64 n) (.string t) 88
  have kW : Kp [] w (w.alloc (.cells #[.int .i64 k, .bool b, .int .i64 n, .string t] 88)) := (Kp.refl _ _).alloc _
  have hown : ∀ k' ∈ own (.slice (some ⟨w.heap.size + 1, 0, none⟩) 1 1), w.heap.size ≤ k' := by intro k' hk'; simp [own, Value.ownBlock] at hk'; omega
  rcases hkind with rfl | rfl | rfl | rfl
  · have hrw := rowNew (w.alloc (.cells #[.int .i64 0, .bool b, .int .i64 n, .string t] 88)) (q := w.heap.size + 1) (by simp) 0 (by omega) (by omega) 5
    have h1 : Hid (rb = [octet 0]) := by show _ = _; rw [← Hrb.out]; rfl
    clear Hrb htext
    go_enter Try.func81, Try.ntmps81
    go_wp2_with fail
    go_ret
    exact ⟨_, rfl, by rw [h1.out]; exact hrw, kW.trans (kpNew _ _) (by simp), hown⟩
  · have hrw := rowNew (w.alloc (.cells #[.int .i64 1, .bool b, .int .i64 n, .string t] 88)) (q := w.heap.size + 1) (by simp) 1 (by omega) (by omega) 5
    have kV := kW.alloc (.cells #[.int .u8 1] 5)
    clear htext
    cases b
    · have h1 : Hid (rb = [octet 1] ++ [octet 0]) := by show _ = _; rw [← Hrb.out]; rfl
      go_enter Try.func81, Try.ntmps81
      go_wp2_with (at_builtin; refine wpAppR rfl _ _ rfl _ [octet 1] rfl (rowKeep hrw (kpNew _ _)) _ _ _ [octet 0] rfl rfl (seesOne _ (by simp) 0 (by omega) (by omega) _) (by simp) ?_)
      intro b2 a2 c2 w2 hb2 _ hr2 hg2
      have hN := New.grew ⟨kV, hown⟩ (hg2.pre (kpNew _ _))
      go_wp2_with fail
      go_ret
      exact ⟨_, rfl, by rw [show rb = b2 from h1.out.trans (Eq.trans (by simp) hb2.out.symm)]; exact hr2, hN⟩
    · have h1 : Hid (rb = [octet 1] ++ [octet 1]) := by show _ = _; rw [← Hrb.out]; rfl
      go_enter Try.func81, Try.ntmps81
      go_wp2_with (at_builtin; refine wpAppR rfl _ _ rfl _ [octet 1] rfl (rowKeep hrw (kpNew _ _)) _ _ _ [octet 1] rfl rfl (seesOne _ (by simp) 1 (by omega) (by omega) _) (by simp) ?_)
      intro b2 a2 c2 w2 hb2 _ hr2 hg2
      have hN := New.grew ⟨kV, hown⟩ (hg2.pre (kpNew _ _))
      go_wp2_with fail
      go_ret
      exact ⟨_, rfl, by rw [show rb = b2 from h1.out.trans (Eq.trans (by simp) hb2.out.symm)]; exact hr2, hN⟩
  · have hrw := rowNew (w.alloc (.cells #[.int .i64 2, .bool b, .int .i64 n, .string t] 88)) (q := w.heap.size + 1) (by simp) 2 (by omega) (by omega) 5
    have kV := kW.alloc (.cells #[.int .u8 2] 5)
    have bB := boxKeep bA (kpNew _ (.cells #[.int .u8 2] 5))
    clear htext
    have h1 : Hid (rb = [octet 2] ++ be (u64 n) 8) := by show _ = _; rw [← Hrb.out]; simp [rowB, fixB, octet]
    have hu : Hid (IntKind.u64.wrap n = (u64 n : Int)) := by
      show _ = _
      rw [IntKind.wrap_u64]; unfold u64; omega
    have hu2 : u64 n < 18446744073709551616 := by unfold u64; omega
    have hL := fun w => cRefNumber (u64 n) w (by omega) (by omega)
    rw [Int.toNat_natCast] at hL
    go_enter Try.func81, Try.ntmps81
    go_wp2_with fail
    rw [hu.out]
    refine (hL _).mono ?_
    rintro e w2 ⟨v2, rfl, hr2, ho2, k2⟩
    obtain ⟨a2, c2, rfl, hs2, _⟩ := hr2.sees
    have hbl := be_length (u64 n) 8
    go_wp2_with (at_builtin; refine wpAppR rfl _ _ rfl _ [octet 2] rfl (rowKeep hrw k2) _ _ _ (be (u64 n) 8) rfl rfl hs2 (by simp [be_length]) ?_)
    intro b3 a3 c3 w3 hb3 _ hr3 hg3
    have hN := New.grew ⟨kV, hown⟩ (hg3.pre k2)
    go_wp2_with fail
    go_ret
    exact ⟨_, rfl, by rw [show rb = b3 from h1.out.trans (Eq.trans (by simp) hb3.out.symm)]; exact hr3, hN⟩
  · have hrw := rowNew (w.alloc (.cells #[.int .i64 3, .bool b, .int .i64 n, .string t] 88)) (q := w.heap.size + 1) (by simp) 3 (by omega) (by omega) 5
    have kV := kW.alloc (.cells #[.int .u8 3] 5)
    have bB := boxKeep bA (kpNew _ (.cells #[.int .u8 3] 5))
    have h64 := htext rfl
    have h1 : Hid (rb = [octet 3] ++ [octet t.size] ++ t.data.toList) := by show _ = _; rw [← Hrb.out]; simp [rowB, octet]
    have hwr : IntKind.u8.wrap (t.size : Int) = (t.size : Int) := by rw [IntKind.wrap_u8]; omega
    clear htext
    go_enter Try.func81, Try.ntmps81
    go_wp2_with (at_builtin; refine wpAppR rfl _ _ rfl _ [octet 3] rfl (rowKeep hrw (kpNew _ _)) _ _ _ [octet t.size] rfl rfl (seesOne _ (by simp) t.size (by omega) (by omega) _) (by simp) ?_)
    intro b3 a3 c3 w3 hb3 hl3 hr3 hg3
    have hl3' : b3.length ≤ 2 := hl3
    have hN := New.grew ⟨kV, hown⟩ (hg3.pre (kpNew _ _))
    have bC := boxGrew (boxKeep bB (kpNew _ _)) hg3 (by simp [own, Value.ownBlock])
    have q0 := bC.c0; have q1 := bC.c1; have q2 := bC.c2; have q3 := bC.c3
    clear hl3
    go_wp2_with (at_builtin; refine wpAppS rfl _ _ rfl _ b3 rfl hr3 t rfl (by omega) ?_)
    intro b4 a4 c4 w4 hb4 _ hr4 hg4
    go_wp2_with fail
    go_ret
    exact ⟨_, rfl, by rw [show rb = b4 from h1.out.trans (Eq.trans (by rw [hb3.out]; simp) hb4.out.symm)]; exact hr4, hN.grew hg4⟩
end Go.Proofs.Ytckicbaidbgonaa
end

section
namespace Go.Proofs.Ytckicbaidbgonaa
open Go.RowKit Go.Hay
set_option linter.unusedVariables false
set_option linter.unusedSimpArgs false

/-- Are all values right? -/
def allR (l : List Val) : Bool := l.all Val.right
/-- Which rows can be written. -/
def okR (l : List Val) : Bool := decide (l.length ≤ 16) && allR l
theorem allR_drop (l : List Val) (j : Nat) (h : j < l.length) : allR (l.drop j) = (l[j].right && allR (l.drop (j + 1))) := by
  unfold allR
  rw [List.drop_eq_getElem_cons h, List.all_cons]
theorem allR_at {l : List Val} (h : allR l = true) (j : Nat) (hj : j < l.length) : l[j].right = true := (List.all_eq_true.1 h) _ (List.getElem_mem hj)
theorem okR_len {l : List Val} (h : okR l = true) : l.length ≤ 16 := by unfold okR at h; simp at h; exact h.1
theorem okR_all {l : List Val} (h : okR l = true) : allR l = true := by unfold okR at h; simp at h; exact h.2
/-- A row's bytes, and a key's. -/
def encB (l : List Val) : List UInt8 := octet l.length :: l.flatMap rowB
def keysB (l : List Val) : List UInt8 := l.flatMap keyB
theorem rowB_length {x : Val} (h : x.right = true) : (rowB x).length ≤ 66 := by
  unfold rowB fixB
  split
  · have := right_text h (by assumption)
    simp
    omega
  · repeat (first | split | simp [be_length])
theorem keyB_length {x : Val} (h : x.right = true) : (keyB x).length ≤ 131 := by
  unfold keyB fixB
  split
  · have := right_text h (by assumption)
    have := escK_length x.t.data.toList
    simp at this ⊢
    omega
  · repeat (first | split | simp [be_length])
theorem flat_length {f : Val → List UInt8} {m : Nat} (hf : ∀ x : Val, x.right = true → (f x).length ≤ m) : ∀ l : List Val, allR l = true → (l.flatMap f).length ≤ m * l.length
  | [], _ => by simp
  | x :: l, h => by
    unfold allR at h
    rw [List.all_cons, Bool.and_eq_true] at h
    have h1 := hf x h.1
    have h2 := flat_length hf l h.2
    rw [List.flatMap_cons, List.length_append, List.length_cons, Nat.mul_add]
    omega
theorem flat_take (f : Val → List UInt8) (l : List Val) (j : Nat) (h : j < l.length) : (l.take (j + 1)).flatMap f = (l.take j).flatMap f ++ f l[j] := by
  rw [List.take_succ_eq_append_getElem h, List.flatMap_append]
  simp
theorem allR_take {l : List Val} (h : allR l = true) (j : Nat) : allR (l.take j) = true := by
  unfold allR at *
  rw [List.all_eq_true] at *
  exact fun x hx => h x (List.mem_of_mem_take hx)
/-- What is written, or that it can't be. -/
def encS (l : List Val) : List UInt8 × Int := if okR l = true then (encB l, 0) else ([], 30)
def keyS (l : List Val) : List UInt8 × Int := if okR l = true then (keysB l, 0) else ([], 30)

/-- What an Encode hands back: a new row. -/
def Wrt (w : World) (r : List UInt8 × Int) (e : Ending) (w' : World) : Prop :=
  ∃ a c bs E, Hid (r = (bs, E)) ∧ e = .returned (.tuple #[.slice a bs.length c, .int .i64 E]) ∧ Row w' (.slice a bs.length c) bs ∧ New w (.slice a bs.length c) w' ∧ bs.length ≤ 10000

end Go.Proofs.Ytckicbaidbgonaa
end

section
namespace Go.Proofs.Ytckicbaidbgonaa
open Go.RowKit Go.Hay
set_option linter.unusedVariables false
set_option linter.unusedSimpArgs false

/-- One byte more. -/
def hashStep (h : Int) (y : UInt8) : Int := IntKind.u64.wrap (bits BinOp.xor IntKind.u64 h (IntKind.u64.wrap y.toNat) * 1099511628211)
/-- The hash of bytes. -/
def hashB (l : List UInt8) : Int := l.foldl hashStep 14695981039346656037
theorem hashB_take (l : List UInt8) (j : Nat) (h : j < l.length) : hashB (l.take (j + 1)) = hashStep (hashB (l.take j)) l[j] := by
  unfold hashB
  rw [List.take_succ_eq_append_getElem h, List.foldl_append]
  rfl
/-- A value's hash. -/
def hashV (x : Val) : Int := if x.right = true then hashB (rowB x) else 0
theorem hashB_bd (l : List UInt8) : 0 ≤ hashB l ∧ hashB l < 18446744073709551616 := by
  suffices ∀ (l : List UInt8) (h : Int), (0 ≤ h ∧ h < 18446744073709551616) → 0 ≤ l.foldl hashStep h ∧ l.foldl hashStep h < 18446744073709551616 from this l _ (by omega)
  intro l
  induction l with
  | nil => intro h hh; exact hh
  | cons y l ih =>
    intro h hh
    refine ih _ ?_
    unfold hashStep
    rw [IntKind.wrap_u64]
    omega
theorem hashV_bd (x : Val) : 0 ≤ hashV x ∧ hashV x < 18446744073709551616 := by
  unfold hashV
  split
  · exact hashB_bd _
  · omega
/-- A value's segment. -/
def segV (x : Val) (m : Int) : Int := if m < 1 then 0 else hashV x % m

set_option maxHeartbeats 4000000 in
set_option maxRecDepth 100000 in
theorem cHash (x : Val) (w : World) : Calls Try.prog 67 #[x.v] w fun e w' => e = .returned (.int .u64 (hashV x)) ∧ Kp [] w w' := by
  have hR := cRight x
  obtain ⟨R, HR⟩ : ∃ R : Bool, Hid (x.right = R) := ⟨_, rfl⟩
  rw [HR.out] at hR
  have HS : Hid (hashV x = if R = true then hashB (rowB x) else 0) := by show _ = _; unfold hashV; rw [HR.out]
  have hput := fun (h : R = true) w' => cPutValue x (HR.out.trans h) none 0 [] w' (Row.nil _) (by simp)
  have hlen := fun (h : R = true) => rowB_length (HR.out.trans h)
  clear HR
  obtain ⟨rb, Hrb⟩ : ∃ rb : List UInt8, Hid (rowB x = rb) := ⟨_, rfl⟩
  rw [Hrb.out] at HS hput hlen
  clear Hrb
  generalize hashV x = H at *
  obtain ⟨k, b, n, t⟩ := x
  unfold Val.v at *
  dsimp only at hR hput
  have bA := Box4.new w (.int .i64 k) (.bool b) (.int .i64 n) (.string t) 88
  have kW : Kp [] w (w.alloc (.cells #[.int .i64 k, .bool b, .int .i64 n, .string t] 88)) := (Kp.refl _ _).alloc _
  cases R
  · have HS2 : Hid (H = 0) := HS
    clear HS hput hlen
    go_enter Try.func67, Try.ntmps67
    go_wp2_with fail
    refine (hR _).mono ?_
    rintro e w1 ⟨rfl, k1⟩
    go_wp2_with fail
    go_ret
    exact ⟨by rw [HS2.out]; rfl, kW.trans k1 (by simp)⟩
  · have HS2 : Hid (H = hashB rb) := HS
    have hput2 := hput rfl
    have hlen2 := hlen rfl
    clear HS hput hlen
    go_enter Try.func67, Try.ntmps67
    go_wp2_with fail
    refine (hR _).mono ?_
    rintro e w1 ⟨rfl, k1⟩
    have b1 := boxKeep bA k1
    have q0 := b1.c0; have q1 := b1.c1; have q2 := b1.c2; have q3 := b1.c3
    have kw1 := kW.trans k1 (by simp)
    clear kW k1 bA
    go_wp2_with fail
    refine (hput2 _).mono ?_
    rintro e w2 ⟨v2, rfl, hr2, hg2⟩
    have hk2 := (hg2.fresh kw1 (by simp [own, Value.ownBlock])).1
    rw [List.nil_append] at hr2
    obtain ⟨a2, c2, rfl, hs2, _⟩ := hr2.sees
    clear hput2 q0 q1 q2 q3 hg2 hr2 b1 kw1
    go_wp2_with fail
    go_loopw [3, 13] (fun s i wn => ∃ j : Nat, j ≤ rb.length ∧ i = .int .i64 j ∧ s = .int .u64 (hashB (rb.take j)) ∧ Hid (wn = w2)) (fun _ i _ => rb.length - (intOf i).toNat)
    case atStart => exact ⟨0, Nat.zero_le _, rfl, rfl, rfl⟩
    case round =>
      obtain ⟨j, hj, rfl, rfl, hwn⟩ := hrel
      obtain rfl := hwn.out
      by_cases hjm : j < rb.length
      · rcases hs2 with h | ⟨g, o, rfl, hc⟩
        · subst h; simp at hjm
        have hck := hc j rb[j] (by simp)
        have HT := hid (hashB_take rb j hjm)
        clear hc
        go_wp2_with fail
        refine ⟨⟨j + 1, by omega, by go_num, ?_, trivial⟩, by simp [intOf]; omega⟩
        rw [HT.out]
        unfold hashStep
        rfl
      · obtain rfl : j = rb.length := by omega
        rw [List.take_length]
        go_wp2_with fail
        go_ret
        exact ⟨by rw [HS2.out]; rfl, hk2⟩

set_option maxHeartbeats 4000000 in
set_option maxRecDepth 100000 in
theorem cSegment (x : Val) (m : Int) (w : World) (hm : m ≤ 9223372036854775807) : Calls Try.prog 50 #[x.v, .int .i64 m] w fun e w' => e = .returned (.int .i64 (segV x m)) ∧ Kp [] w w' := by
  have hH := cHash x
  have hbd := hashV_bd x
  have HS : Hid (segV x m = if m < 1 then 0 else hashV x % m) := rfl
  generalize segV x m = S at *
  generalize hashV x = H at *
  obtain ⟨k, b, n, t⟩ := x
  unfold Val.v at *
  dsimp only at hH
  have bA := Box4.new w (.int .i64 k) (.bool b) (.int .i64 n) (.string t) 88
  have kW : Kp [] w (w.alloc (.cells #[.int .i64 k, .bool b, .int .i64 n, .string t] 88)) := (Kp.refl _ _).alloc _
  have q0 := bA.c0; have q1 := bA.c1; have q2 := bA.c2; have q3 := bA.c3
  by_cases h1 : m < 1
  · have HS2 : Hid (S = 0) := by show _ = _; rw [HS.out, if_pos h1]
    clear HS
    go_enter Try.func50, Try.ntmps50
    go_wp2_with fail
    go_ret
    exact ⟨by rw [HS2.out]; rfl, kW⟩
  · have HS2 : Hid (S = H % m) := by show _ = _; rw [HS.out, if_neg h1]
    clear HS
    go_enter Try.func50, Try.ntmps50
    go_wp2_with fail
    refine (hH _).mono ?_
    rintro e w1 ⟨rfl, k1⟩
    have hw1 : IntKind.u64.wrap m = m := by rw [IntKind.wrap_u64]; omega
    have hq0 := Int.emod_nonneg H (by omega : m ≠ 0)
    have hq1 := Int.emod_lt_of_pos H (by omega : 0 < m)
    have hw3 : ∀ q : Int, 0 ≤ q → q < m → wrap64 q = q := by intro q h1 h2; unfold wrap64; omega
    have hw2 : wrap64 (H % m) = H % m := hw3 _ hq0 hq1
    clear hw3
    go_wp2_with fail
    go_ret
    exact ⟨by rw [HS2.out]; rfl, kW.trans k1 (by simp)⟩

set_option maxHeartbeats 4000000 in
set_option maxRecDepth 100000 in
theorem cRefHash (x : Val) (w : World) : Calls Try.prog 68 #[x.v] w fun e w' => e = .returned (.int .u64 (hashV x)) ∧ Kp [] w w' := by
  have hR := cRefRight x
  obtain ⟨R, HR⟩ : ∃ R : Bool, Hid (x.right = R) := ⟨_, rfl⟩
  rw [HR.out] at hR
  have HS : Hid (hashV x = if R = true then hashB (rowB x) else 0) := by show _ = _; unfold hashV; rw [HR.out]
  have hput := fun (h : R = true) w' => cOne x (HR.out.trans h) w'
  have hlen := fun (h : R = true) => rowB_length (HR.out.trans h)
  clear HR
  obtain ⟨rb, Hrb⟩ : ∃ rb : List UInt8, Hid (rowB x = rb) := ⟨_, rfl⟩
  rw [Hrb.out] at HS hput hlen
  clear Hrb
  generalize hashV x = H at *
  obtain ⟨k, b, n, t⟩ := x
  unfold Val.v at *
  dsimp only at hR hput
  have bA := Box4.new w (.int .i64 k) (.bool b) (.int .i64 n) (.string t) 88
  have kW : Kp [] w (w.alloc (.cells #[.int .i64 k, .bool b, .int .i64 n, .string t] 88)) := (Kp.refl _ _).alloc _
  cases R
  · have HS2 : Hid (H = 0) := HS
    clear HS hput hlen
    go_enter Try.func68, Try.ntmps68
    go_wp2_with fail
    refine (hR _).mono ?_
    rintro e w1 ⟨rfl, k1⟩
    go_wp2_with fail
    go_ret
    exact ⟨by rw [HS2.out]; rfl, kW.trans k1 (by simp)⟩
  · have HS2 : Hid (H = hashB rb) := HS
    have hput2 := hput rfl
    have hlen2 := hlen rfl
    clear HS hput hlen
    go_enter Try.func68, Try.ntmps68
    go_wp2_with fail
    refine (hR _).mono ?_
    rintro e w1 ⟨rfl, k1⟩
    have b1 := boxKeep bA k1
    have q0 := b1.c0; have q1 := b1.c1; have q2 := b1.c2; have q3 := b1.c3
    have kw1 := kW.trans k1 (by simp)
    clear kW k1 bA
    go_wp2_with fail
    refine (hput2 _).mono ?_
    rintro e w2 ⟨v2, rfl, hr2, hg2⟩
    have hk2 := kw1.trans hg2.kp (by simp)
    obtain ⟨a2, c2, rfl, hs2, _⟩ := hr2.sees
    clear hput2 q0 q1 q2 q3 hg2 hr2 b1 kw1
    go_wp2_with fail
    go_loopw [4, 6] (fun s i wn => ∃ j : Nat, j ≤ rb.length ∧ i = .int .i64 j ∧ s = .int .u64 (hashB (rb.take j)) ∧ Hid (wn = w2)) (fun _ i _ => rb.length - (intOf i).toNat)
    case atStart => exact ⟨0, Nat.zero_le _, rfl, rfl, rfl⟩
    case round =>
      obtain ⟨j, hj, rfl, rfl, hwn⟩ := hrel
      obtain rfl := hwn.out
      by_cases hjm : j < rb.length
      · rcases hs2 with h | ⟨g, o, rfl, hc⟩
        · subst h; simp at hjm
        have hck := hc j rb[j] (by simp)
        have HT := hid (hashB_take rb j hjm)
        clear hc
        go_wp2_with fail
        refine ⟨⟨j + 1, by omega, by go_num, ?_, trivial⟩, by simp [intOf]; omega⟩
        rw [HT.out]
        unfold hashStep
        rfl
      · obtain rfl : j = rb.length := by omega
        rw [List.take_length]
        go_wp2_with fail
        go_ret
        exact ⟨by rw [HS2.out]; rfl, hk2⟩

set_option maxHeartbeats 4000000 in
set_option maxRecDepth 100000 in
theorem cRefSegment (x : Val) (m : Int) (w : World) (hm : m ≤ 9223372036854775807) : Calls Try.prog 51 #[x.v, .int .i64 m] w fun e w' => e = .returned (.int .i64 (segV x m)) ∧ Kp [] w w' := by
  have hH := cRefHash x
  have hbd := hashV_bd x
  have HS : Hid (segV x m = if m < 1 then 0 else hashV x % m) := rfl
  generalize segV x m = S at *
  generalize hashV x = H at *
  obtain ⟨k, b, n, t⟩ := x
  unfold Val.v at *
  dsimp only at hH
  have bA := Box4.new w (.int .i64 k) (.bool b) (.int .i64 n) (.string t) 88
  have kW : Kp [] w (w.alloc (.cells #[.int .i64 k, .bool b, .int .i64 n, .string t] 88)) := (Kp.refl _ _).alloc _
  have q0 := bA.c0; have q1 := bA.c1; have q2 := bA.c2; have q3 := bA.c3
  by_cases h1 : m < 1
  · have HS2 : Hid (S = 0) := by show _ = _; rw [HS.out, if_pos h1]
    clear HS
    go_enter Try.func51, Try.ntmps51
    go_wp2_with fail
    go_ret
    exact ⟨by rw [HS2.out]; rfl, kW⟩
  · have HS2 : Hid (S = H % m) := by show _ = _; rw [HS.out, if_neg h1]
    clear HS
    go_enter Try.func51, Try.ntmps51
    go_wp2_with fail
    refine (hH _).mono ?_
    rintro e w1 ⟨rfl, k1⟩
    have hw1 : IntKind.u64.wrap m = m := by rw [IntKind.wrap_u64]; omega
    have hq0 := Int.emod_nonneg H (by omega : m ≠ 0)
    have hq1 := Int.emod_lt_of_pos H (by omega : 0 < m)
    have hw3 : ∀ q : Int, 0 ≤ q → q < m → wrap64 q = q := by intro q h1 h2; unfold wrap64; omega
    have hw2 : wrap64 (H % m) = H % m := hw3 _ hq0 hq1
    clear hw3
    go_wp2_with fail
    go_ret
    exact ⟨by rw [HS2.out]; rfl, kW.trans k1 (by simp)⟩
end Go.Proofs.Ytckicbaidbgonaa
end

section
namespace Go.Proofs.Ytckicbaidbgonaa
open Go.RowKit Go.Hay
set_option linter.unusedVariables false
set_option linter.unusedSimpArgs false

/-- The segment to which a row belongs. -/
def whC (c : Cg) (P : Int) (l : List Val) : Int × Int := if wi P (c.pl.length : Int) = true then (P, segV (vAt l (c.pl.getD P.toNat default).by_) c.s) else (0, 0)
set_option maxHeartbeats 8000000 in
set_option maxRecDepth 100000 in
theorem cWhere (c : Cg) (P : Int) (a : Option Addr) (cap : Nat) (l : List Val) (w : World) (hc : c.ok w) (hs : VE.See w a l) (hl : l.length ≤ 9223372036854775807) (hs8 : c.s ≤ 9223372036854775807) : Calls Try.prog 28 #[c.v, .int .i64 P, .slice a l.length cap] w fun e w' => e = .returned (.agg #[.int .i64 (whC c P l).1, .int .i64 (whC c P l).2]) ∧ Kp [] w w' := by
  obtain ⟨W, eW⟩ : ∃ Y, w.alloc (.cells #[.int .i64 c.n, .int .i64 c.s, .int .i64 c.k, .slice c.ta c.tl.length c.tc, .slice c.pa c.pl.length c.pc] 25) = Y := ⟨_, rfl⟩
  have kW : Kp [] w W := by rw [← eW]; exact (Kp.refl _ _).alloc _
  have zW : W.heap.size = w.heap.size + 1 := by rw [← eW]; simp
  have bW : Bn W w.heap.size [.int .i64 c.n, .int .i64 c.s, .int .i64 c.k, .slice c.ta c.tl.length c.tc, .slice c.pa c.pl.length c.pc] := by rw [← eW]; exact Bn.new w [.int .i64 c.n, .int .i64 c.s, .int .i64 c.k, .slice c.ta c.tl.length c.tc, .slice c.pa c.pl.length c.pc] 25
  obtain ⟨R, eR⟩ : ∃ Y, W.alloc (.cells #[.int .i64 0, .int .i64 0] 31) = Y := ⟨_, rfl⟩
  have kR : Kp [] W R := by rw [← eR]; exact (Kp.refl _ _).alloc _
  have zR : R.heap.size = W.heap.size + 1 := by rw [← eR]; simp
  have bR : Bn R W.heap.size [.int .i64 0, .int .i64 0] := by rw [← eR]; exact Bn.new W [.int .i64 0, .int .i64 0] 31
  have HC := hid ((hc.kept kW).kept kR)
  have HCw := hid hc
  have HS := hid ((hs.keptNew kW).keptNew kR)
  have BB := hid (And.intro (bW.kept kR) bR)
  have KW := hid (kW.trans kR (by simp))
  have zq1 : w.heap.size < R.heap.size := by omega
  have zq2 : W.heap.size < R.heap.size := by omega
  have zq3 : w.heap.size < W.heap.size := by omega
  have zq4 : Hid (w.heap.size ≤ W.heap.size) := hid (by omega)
  have bW2 := bW.kept kR
  have cc0 := bW2.get 0 _ rfl; have cc1 := bW2.get 1 _ rfl; have cc2 := bW2.get 2 _ rfl; have cc3 := bW2.get 3 _ rfl; have cc4 := bW2.get 4 _ rfl
  have aW := hid (cWithin P (c.pl.length : Int))
  unfold Cg.v
  clear kW kR zW zR bW bW2 hc hs
  obtain ⟨X, hwi⟩ : ∃ X, wi P (c.pl.length : Int) = X := ⟨_, rfl⟩
  rw [hwi] at aW
  cases X with
  | false =>
    have h1 : whC c P l = (0, 0) := by unfold whC; rw [if_neg (by rw [hwi]; simp)]
    rw [h1]
    clear hwi h1
    obtain ⟨Z, eZ⟩ : ∃ Y, ((R.setCell ⟨W.heap.size, 0, none⟩ (.int .i64 0)).setCell ⟨W.heap.size, 1, none⟩ (.int .i64 0)) = Y := ⟨_, rfl⟩
    have kZ : Kp [W.heap.size] R Z := by rw [← eZ]; exact (((Kp.refl _ _).setCell (by simp) _).setCell (by simp) _)
    have xZ : Bn Z (W.heap.size) [.int .i64 0, .int .i64 0] := by rw [← eZ]; exact (bR.set 0 (by simp) (.int .i64 0)).set 1 (by simp) (.int .i64 0)
    have pa0 := bR.get 0 _ rfl; have pa1 := bR.get 1 _ rfl
    have pf0 := bR.free 0; have pf1 := bR.free 1
    have pd0 := xZ.get 0 _ rfl; have pd1 := xZ.get 1 _ rfl
    have KZ := hid (KW.out.trans kZ (fun x hx => by simp at hx; exact .inr (by omega)))
    clear kZ xZ bR
    go_enter Try.func28, Try.ntmps28
    go_wp2_with fail
    refine (aW.out _).mono ?_
    rintro e w1 ⟨rfl, rfl⟩
    go_wp2_with fail
    exact bodyPost_ret (v := .agg #[.int .i64 0, .int .i64 0]) (by simp [results, Try.results28, go_sem, pd0, pd1]) rfl ⟨rfl, KZ.out⟩
  | true =>
    have hwi2 := hwi
    unfold wi at hwi2
    simp only [Bool.and_eq_true, decide_eq_true_eq] at hwi2
    obtain ⟨i, rfl⟩ := Int.eq_ofNat_of_zero_le hwi2.1
    have hil : i < c.pl.length := by omega
    have h1 : whC c (i : Int) l = ((i : Int), segV (vAt l c.pl[i].by_) c.s) := by unfold whC; rw [if_pos hwi]; simp [hil]
    rw [h1]
    obtain ⟨g, o, eg, _, _, _, _, x4, _⟩ := pjAt HC.out.ps (j := i) (p := c.pl[i]) (by simp [hil])
    generalize c.pl[i].by_ = y at *
    have i1 : (0 : Int) ≤ (i : Int) := by omega
    have i2 : (i : Int) < (c.pl.length : Int) := by omega
    have aV := hid (cValAt a cap l y R HS.out hl)
    have aS := hid (fun W' => cSegment (vAt l y) c.s W' hs8)
    generalize vAt l y = v at *
    generalize segV v c.s = sv at *
    obtain ⟨vk, vb, vn, vt⟩ := v
    simp only [Val.v] at aV aS
    rw [eg] at eW cc4 BB
    rw [eg]
    clear hwi hwi2 h1 eg bR
    go_enter Try.func28, Try.ntmps28
    go_wp2_with fail
    refine (aW.out _).mono ?_
    rintro e w1 ⟨rfl, rfl⟩
    go_wp2_with fail
    refine aV.out.mono ?_
    rintro e w2 ⟨rfl, k2⟩
    obtain ⟨WA, eWA⟩ : ∃ Y, w2.alloc (.cells #[.int .i64 0, .bool false, .int .i64 0, .string ⟨#[]⟩] 88) = Y := ⟨_, rfl⟩
    have kWA : Kp [] w2 WA := by rw [← eWA]; exact (Kp.refl _ _).alloc _
    have zWA : WA.heap.size = w2.heap.size + 1 := by rw [← eWA]; simp
    have xWA : Bn WA (w2.heap.size) [.int .i64 0, .bool false, .int .i64 0, .string ⟨#[]⟩] := by rw [← eWA]; exact Bn.new w2 [.int .i64 0, .bool false, .int .i64 0, .string ⟨#[]⟩] 88
    obtain ⟨WB, eWB⟩ : ∃ Y, ((((WA.setCell ⟨w2.heap.size, 0, none⟩ (.int .i64 vk)).setCell ⟨w2.heap.size, 1, none⟩ (.bool vb)).setCell ⟨w2.heap.size, 2, none⟩ (.int .i64 vn)).setCell ⟨w2.heap.size, 3, none⟩ (.string vt)) = Y := ⟨_, rfl⟩
    have kWB : Kp [w2.heap.size] WA WB := by rw [← eWB]; exact (((((Kp.refl _ _).setCell (by simp) _).setCell (by simp) _).setCell (by simp) _).setCell (by simp) _)
    have xWB : Bn WB (w2.heap.size) [.int .i64 vk, .bool vb, .int .i64 vn, .string vt] := by rw [← eWB]; exact ((((xWA.set 0 (by simp) (.int .i64 vk)).set 1 (by simp) (.bool vb)).set 2 (by simp) (.int .i64 vn)).set 3 (by simp) (.string vt))
    have zWB := kWB.size
    have ma0 := xWA.get 0 _ rfl; have ma1 := xWA.get 1 _ rfl; have ma2 := xWA.get 2 _ rfl; have ma3 := xWA.get 3 _ rfl
    have mf0 := xWA.free 0; have mf1 := xWA.free 1; have mf2 := xWA.free 2; have mf3 := xWA.free 3
    have va0 := xWB.get 0 _ rfl; have va1 := xWB.get 1 _ rfl; have va2 := xWB.get 2 _ rfl; have va3 := xWB.get 3 _ rfl
    have kB : Kp [] w2 WB := kWA.trans kWB (fun x hx => .inr (by simp at hx; omega))
    have KB := hid (k2.trans kB (by simp))
    have c5 := BB.out.1.kept KB.out
    have cd0 := c5.get 0 _ rfl; have cd1 := c5.get 1 _ rfl; have cd2 := c5.get 2 _ rfl; have cd3 := c5.get 3 _ rfl; have cd4 := c5.get 4 _ rfl
    have zz1 : w.heap.size < WB.heap.size := c5.lt (by simp)
    have zz2 : w2.heap.size < WB.heap.size := by omega
    clear kB kWA kWB xWA xWB c5 k2 aV aW
    go_wp2_with fail
    refine (aS.out _).mono ?_
    rintro e w3 ⟨rfl, k3⟩
    have K3 := hid (KB.out.trans k3 (by simp))
    have r3 := BB.out.2.kept K3.out
    obtain ⟨Z, eZ⟩ : ∃ Y, ((w3.setCell ⟨W.heap.size, 0, none⟩ (.int .i64 (i : Int))).setCell ⟨W.heap.size, 1, none⟩ (.int .i64 sv)) = Y := ⟨_, rfl⟩
    have kZ : Kp [W.heap.size] w3 Z := by rw [← eZ]; exact (((Kp.refl _ _).setCell (by simp) _).setCell (by simp) _)
    have xZ : Bn Z (W.heap.size) [.int .i64 (i : Int), .int .i64 sv] := by rw [← eZ]; exact (r3.set 0 (by simp) (.int .i64 (i : Int))).set 1 (by simp) (.int .i64 sv)
    have pa0 := r3.get 0 _ rfl; have pa1 := r3.get 1 _ rfl
    have pf0 := r3.free 0; have pf1 := r3.free 1
    have pd0 := xZ.get 0 _ rfl; have pd1 := xZ.get 1 _ rfl
    have zz3 : W.heap.size < w3.heap.size := r3.lt (by simp)
    have KZ := hid ((KW.out.trans K3.out (by simp)).trans kZ (fun x hx => by simp at hx; subst hx; exact .inr zq4.out))
    clear kZ xZ r3 k3 aS
    go_wp2_with fail
    exact bodyPost_ret (v := .agg #[.int .i64 (i : Int), .int .i64 sv]) (by simp [results, Try.results28, go_sem, pd0, pd1]) rfl ⟨rfl, KZ.out⟩
set_option maxHeartbeats 8000000 in
set_option maxRecDepth 100000 in
theorem rWhere (c : Cg) (P : Int) (a : Option Addr) (cap : Nat) (l : List Val) (w : World) (hc : c.ok w) (hs : VE.See w a l) (hl : l.length ≤ 9223372036854775807) (hs8 : c.s ≤ 9223372036854775807) : Calls Try.prog 29 #[c.v, .int .i64 P, .slice a l.length cap] w fun e w' => e = .returned (.agg #[.int .i64 (whC c P l).1, .int .i64 (whC c P l).2]) ∧ Kp [] w w' := by
  obtain ⟨W, eW⟩ : ∃ Y, w.alloc (.cells #[.int .i64 c.n, .int .i64 c.s, .int .i64 c.k, .slice c.ta c.tl.length c.tc, .slice c.pa c.pl.length c.pc] 25) = Y := ⟨_, rfl⟩
  have kW : Kp [] w W := by rw [← eW]; exact (Kp.refl _ _).alloc _
  have zW : W.heap.size = w.heap.size + 1 := by rw [← eW]; simp
  have bW : Bn W w.heap.size [.int .i64 c.n, .int .i64 c.s, .int .i64 c.k, .slice c.ta c.tl.length c.tc, .slice c.pa c.pl.length c.pc] := by rw [← eW]; exact Bn.new w [.int .i64 c.n, .int .i64 c.s, .int .i64 c.k, .slice c.ta c.tl.length c.tc, .slice c.pa c.pl.length c.pc] 25
  obtain ⟨R, eR⟩ : ∃ Y, W.alloc (.cells #[.int .i64 0, .int .i64 0] 31) = Y := ⟨_, rfl⟩
  have kR : Kp [] W R := by rw [← eR]; exact (Kp.refl _ _).alloc _
  have zR : R.heap.size = W.heap.size + 1 := by rw [← eR]; simp
  have bR : Bn R W.heap.size [.int .i64 0, .int .i64 0] := by rw [← eR]; exact Bn.new W [.int .i64 0, .int .i64 0] 31
  have HC := hid ((hc.kept kW).kept kR)
  have HCw := hid hc
  have HS := hid ((hs.keptNew kW).keptNew kR)
  have BB := hid (And.intro (bW.kept kR) bR)
  have KW := hid (kW.trans kR (by simp))
  have zq1 : w.heap.size < R.heap.size := by omega
  have zq2 : W.heap.size < R.heap.size := by omega
  have zq3 : w.heap.size < W.heap.size := by omega
  have zq4 : Hid (w.heap.size ≤ W.heap.size) := hid (by omega)
  have bW2 := bW.kept kR
  have cc0 := bW2.get 0 _ rfl; have cc1 := bW2.get 1 _ rfl; have cc2 := bW2.get 2 _ rfl; have cc3 := bW2.get 3 _ rfl; have cc4 := bW2.get 4 _ rfl
  have aW := hid (cWithin P (c.pl.length : Int))
  unfold Cg.v
  clear kW kR zW zR bW bW2 hc hs aW
  by_cases hwi : wi P (c.pl.length : Int) = true
  rotate_left
  · have h1 : whC c P l = (0, 0) := by unfold whC; rw [if_neg hwi]
    rw [h1]
    unfold wi at hwi
    simp only [Bool.and_eq_true, decide_eq_true_eq] at hwi
    obtain ⟨Z, eZ⟩ : ∃ Y, ((R.setCell ⟨W.heap.size, 0, none⟩ (.int .i64 0)).setCell ⟨W.heap.size, 1, none⟩ (.int .i64 0)) = Y := ⟨_, rfl⟩
    have kZ : Kp [W.heap.size] R Z := by rw [← eZ]; exact (((Kp.refl _ _).setCell (by simp) _).setCell (by simp) _)
    have xZ : Bn Z (W.heap.size) [.int .i64 0, .int .i64 0] := by rw [← eZ]; exact (bR.set 0 (by simp) (.int .i64 0)).set 1 (by simp) (.int .i64 0)
    have pa0 := bR.get 0 _ rfl; have pa1 := bR.get 1 _ rfl
    have pf0 := bR.free 0; have pf1 := bR.free 1
    have pd0 := xZ.get 0 _ rfl; have pd1 := xZ.get 1 _ rfl
    have KZ := hid (KW.out.trans kZ (fun x hx => by simp at hx; exact .inr (by omega)))
    clear kZ xZ bR h1
    by_cases h0 : P < 0
    · have d1 : decide (P < 0) = true := by simpa using h0
      clear hwi
      go_enter Try.func29, Try.ntmps29
      go_wp2_with fail
      exact bodyPost_ret (v := .agg #[.int .i64 0, .int .i64 0]) (by simp [results, Try.results29, go_sem, pd0, pd1]) rfl ⟨rfl, KZ.out⟩
    · have d1 : decide (P < 0) = false := by simpa using h0
      have d2 : decide ((c.pl.length : Int) ≤ P) = true := by simp; omega
      clear hwi
      go_enter Try.func29, Try.ntmps29
      go_wp2_with fail
      exact bodyPost_ret (v := .agg #[.int .i64 0, .int .i64 0]) (by simp [results, Try.results29, go_sem, pd0, pd1]) rfl ⟨rfl, KZ.out⟩
  have hwi2 := hwi
  unfold wi at hwi2
  simp only [Bool.and_eq_true, decide_eq_true_eq] at hwi2
  obtain ⟨i, rfl⟩ := Int.eq_ofNat_of_zero_le hwi2.1
  have hil : i < c.pl.length := by omega
  have h1 : whC c (i : Int) l = ((i : Int), segV (vAt l c.pl[i].by_) c.s) := by unfold whC; rw [if_pos hwi]; simp [hil]
  rw [h1]
  obtain ⟨g, o, eg, _, _, _, _, x4, _⟩ := pjAt HC.out.ps (j := i) (p := c.pl[i]) (by simp [hil])
  have hgw : g < w.heap.size := by
    obtain ⟨g', o', e', _, _, _, _, x4', _⟩ := pjAt HCw.out.ps (j := i) (p := c.pl[i]) (by simp [hil])
    rw [eg] at e'
    cases e'
    exact World.block_lt_of_cell? _ _ x4'
  generalize c.pl[i].by_ = y at *
  have i1 : (0 : Int) ≤ (i : Int) := by omega
  have i2 : (i : Int) < (c.pl.length : Int) := by omega
  have d1 : decide ((i : Int) < 0) = false := by simp
  have d2 : decide ((c.pl.length : Int) ≤ (i : Int)) = false := by simp; omega
  have d2n : decide (c.pl.length ≤ i) = false := by simp; omega
  have aV := hid (fun W' (k : Kp [] R W') => rAt a cap l y W' (HS.out.keptNew k) hl)
  have aS := hid (fun W' => cRefSegment (vAt l y) c.s W' hs8)
  generalize vAt l y = v at *
  generalize segV v c.s = sv at *
  obtain ⟨vk, vb, vn, vt⟩ := v
  simp only [Val.v] at aV aS
  rw [eg] at eW cc4 BB
  rw [eg]
  have hF : Hid (∀ W', Kp [] R W' → (W'.cell? ⟨w.heap.size, 0, none⟩ = some (.int .i64 c.n) ∧ W'.cell? ⟨w.heap.size, 1, none⟩ = some (.int .i64 c.s) ∧ W'.cell? ⟨w.heap.size, 2, none⟩ = some (.int .i64 c.k) ∧ W'.cell? ⟨w.heap.size, 3, none⟩ = some (.slice c.ta c.tl.length c.tc) ∧ W'.cell? ⟨w.heap.size, 4, none⟩ = some (.slice (some ⟨g, o, none⟩) c.pl.length c.pc) ∧ W'.cell? ⟨g, o + i * 6 + 4, none⟩ = some (.int .i64 y))) := fun W' k => by
    have h1 := BB.out.1.kept k
    exact ⟨h1.get 0 _ rfl, h1.get 1 _ rfl, h1.get 2 _ rfl, h1.get 3 _ rfl, h1.get 4 _ rfl, kpAt k x4⟩
  clear hwi hwi2 h1 eg bR
  go_enter Try.func29, Try.ntmps29
  go_wp2_with fail
  refine wp_region_held_drew (S := fun W' => W'.cell? ⟨w.heap.size, 0, none⟩ = some (.int .i64 c.n) ∧ W'.cell? ⟨w.heap.size, 1, none⟩ = some (.int .i64 c.s) ∧ W'.cell? ⟨w.heap.size, 2, none⟩ = some (.int .i64 c.k) ∧ W'.cell? ⟨w.heap.size, 3, none⟩ = some (.slice c.ta c.tl.length c.tc) ∧ W'.cell? ⟨w.heap.size, 4, none⟩ = some (.slice (some ⟨g, o, none⟩) c.pl.length c.pc) ∧ W'.cell? ⟨g, o + i * 6 + 4, none⟩ = some (.int .i64 y)) (by kernel_rfl) ?_ (fun hHeld => ?_)
  · exact hF.out _ (Kp.refl [] R).drew
  have KD : Hid (Kp [] R R.drew) := hid (Kp.refl [] R).drew
  generalize R.drew = Wd at *
  refine wpAnyH_take (i := 0) (v := ?_) rfl (by kernel_rfl) (by kernel_rfl) (by kernel_rfl) (fun _ _ _ h => h) (Or.inl ⟨by rfl, ?_⟩) (by assumption) ?_
  rotate_left
  · intro w hSw; (try dsimp only at hSw); go_simp <;> with_reducible rfl
  try simp only [Act.put, List.getElem_toArray, List.getElem_cons_zero, List.getElem_cons_succ, List.setIfInBounds_toArray, List.set_cons_zero, List.set_cons_succ]
  refine wpAnyH_take (i := 1) (v := ?_) rfl (by kernel_rfl) (by kernel_rfl) (by kernel_rfl) (fun _ _ _ h => h) (Or.inl ⟨by rfl, ?_⟩) (by assumption) ?_
  rotate_left
  · intro w hSw; (try dsimp only at hSw); go_simp <;> with_reducible rfl
  try simp only [Act.put, List.getElem_toArray, List.getElem_cons_zero, List.getElem_cons_succ, List.setIfInBounds_toArray, List.set_cons_zero, List.set_cons_succ]
  refine wpAnyH_take (i := 2) (v := ?_) rfl (by kernel_rfl) (by kernel_rfl) (by kernel_rfl) (fun _ _ _ h => h) (Or.inl ⟨by rfl, ?_⟩) (by assumption) ?_
  rotate_left
  · intro w hSw; (try dsimp only at hSw); go_simp <;> with_reducible rfl
  try simp only [Act.put, List.getElem_toArray, List.getElem_cons_zero, List.getElem_cons_succ, List.setIfInBounds_toArray, List.set_cons_zero, List.set_cons_succ]
  refine wpAnyH_take (i := 3) (v := ?_) rfl (by kernel_rfl) (by kernel_rfl) (by kernel_rfl) (fun _ _ _ h => h) (Or.inl ⟨by rfl, ?_⟩) (by assumption) ?_
  rotate_left
  · intro w hSw; (try dsimp only at hSw); go_simp <;> with_reducible rfl
  try simp only [Act.put, List.getElem_toArray, List.getElem_cons_zero, List.getElem_cons_succ, List.setIfInBounds_toArray, List.set_cons_zero, List.set_cons_succ]
  refine wpAnyH_take (i := 4) (v := ?_) rfl (by kernel_rfl) (by kernel_rfl) (by kernel_rfl) (fun _ _ _ h => h) (Or.inl ⟨by rfl, ?_⟩) (by assumption) ?_
  rotate_left
  · intro w hSw; (try dsimp only at hSw); go_simp <;> with_reducible rfl
  try simp only [Act.put, List.getElem_toArray, List.getElem_cons_zero, List.getElem_cons_succ, List.setIfInBounds_toArray, List.set_cons_zero, List.set_cons_succ]
  refine wpAnyH_take (i := 5) (v := ?_) rfl (by kernel_rfl) (by kernel_rfl) (by kernel_rfl) (fun _ _ _ h => h) (Or.inl ⟨by rfl, ?_⟩) (by assumption) ?_
  rotate_left
  · intro w hSw; (try dsimp only at hSw); go_simp <;> with_reducible rfl
  try simp only [Act.put, List.getElem_toArray, List.getElem_cons_zero, List.getElem_cons_succ, List.setIfInBounds_toArray, List.set_cons_zero, List.set_cons_succ]
  refine wpAnyH_take (i := 6) (v := ?_) rfl (by kernel_rfl) (by kernel_rfl) (by kernel_rfl) (fun _ _ _ h => h) (Or.inl ⟨by rfl, ?_⟩) (by assumption) ?_
  rotate_left
  · intro w hSw; (try dsimp only at hSw); go_simp <;> with_reducible rfl
  try simp only [Act.put, List.getElem_toArray, List.getElem_cons_zero, List.getElem_cons_succ, List.setIfInBounds_toArray, List.set_cons_zero, List.set_cons_succ]
  refine wpAnyH_take (i := 7) (v := ?_) rfl (by kernel_rfl) (by kernel_rfl) (by kernel_rfl) (fun _ _ _ h => h) (Or.inl ⟨by rfl, ?_⟩) (by assumption) ?_
  rotate_left
  · intro w hSw; (try dsimp only at hSw); go_simp <;> with_reducible rfl
  try simp only [Act.put, List.getElem_toArray, List.getElem_cons_zero, List.getElem_cons_succ, List.setIfInBounds_toArray, List.set_cons_zero, List.set_cons_succ]
  refine wpAnyH_take (i := 9) (v := ?_) rfl (by kernel_rfl) (by kernel_rfl) (by kernel_rfl) (fun _ _ _ h => h) (Or.inl ⟨by rfl, ?_⟩) (by assumption) ?_
  rotate_left
  · intro w hSw; (try dsimp only at hSw); go_simp <;> with_reducible rfl
  try simp only [Act.put, List.getElem_toArray, List.getElem_cons_zero, List.getElem_cons_succ, List.setIfInBounds_toArray, List.set_cons_zero, List.set_cons_succ]
  refine wpAnyH_take (i := 10) (v := ?_) rfl (by kernel_rfl) (by kernel_rfl) (by kernel_rfl) (fun _ _ _ h => h) (Or.inl ⟨by rfl, ?_⟩) (by assumption) ?_
  rotate_left
  · intro w hSw; (try dsimp only at hSw); go_simp <;> with_reducible rfl
  try simp only [Act.put, List.getElem_toArray, List.getElem_cons_zero, List.getElem_cons_succ, List.setIfInBounds_toArray, List.set_cons_zero, List.set_cons_succ]
  refine wpAnyH_ready (rs := [8]) (by kernel_rfl) (by simp) ?_
  refine AllReadyH.cons rfl (fun K hK => ?_) AllReadyH.nil
  go_simp
  refine (aV.out Wd KD.out).mono ?_
  rintro e u1 ⟨rfl, l1⟩
  (try go_wp2_with fail)
  refine hK.out _ _ ?_ (fun hHeld => ?_)
  · exact hF.out _ (KD.out.trans l1 (by simp))
  clear hK K
  try simp only [Act.put, List.getElem_toArray, List.getElem_cons_zero, List.getElem_cons_succ, List.setIfInBounds_toArray, List.set_cons_zero, List.set_cons_succ]
  have L1 := hid (KD.out.trans l1 (by simp))
  clear l1
  refine wpAnyH_ready (rs := [11]) (by kernel_rfl) (by simp) ?_
  refine AllReadyH.cons rfl (fun K hK => ?_) AllReadyH.nil
  go_simp
  refine (aS.out u1).mono ?_
  rintro e u2 ⟨rfl, l2⟩
  (try go_wp2_with fail)
  refine hK.out _ _ ?_ (fun hHeld => ?_)
  · exact hF.out _ (L1.out.trans l2 (by simp))
  clear hK K
  try simp only [Act.put, List.getElem_toArray, List.getElem_cons_zero, List.getElem_cons_succ, List.setIfInBounds_toArray, List.set_cons_zero, List.set_cons_succ]
  have L2 := hid (L1.out.trans l2 (by simp))
  clear l2
  refine wpAnyH_take (i := 12) (v := ?_) rfl (by kernel_rfl) (by kernel_rfl) (by kernel_rfl) (fun _ _ _ h => h) (Or.inl ⟨by rfl, ?_⟩) (by assumption) ?_
  rotate_left
  · intro w hSw; (try dsimp only at hSw); go_simp <;> with_reducible rfl
  try simp only [Act.put, List.getElem_toArray, List.getElem_cons_zero, List.getElem_cons_succ, List.setIfInBounds_toArray, List.set_cons_zero, List.set_cons_succ]
  have r3 := BB.out.2.kept L2.out
  obtain ⟨Z, eZ⟩ : ∃ Y, ((u2.setCell ⟨W.heap.size, 0, none⟩ (.int .i64 (i : Int))).setCell ⟨W.heap.size, 1, none⟩ (.int .i64 sv)) = Y := ⟨_, rfl⟩
  have kZ : Kp [W.heap.size] u2 Z := by rw [← eZ]; exact (((Kp.refl _ _).setCell (by simp) _).setCell (by simp) _)
  have xZ : Bn Z (W.heap.size) [.int .i64 (i : Int), .int .i64 sv] := by rw [← eZ]; exact (r3.set 0 (by simp) (.int .i64 (i : Int))).set 1 (by simp) (.int .i64 sv)
  have pa0 := r3.get 0 _ rfl; have pa1 := r3.get 1 _ rfl
  have pf0 := r3.free 0; have pf1 := r3.free 1
  have pd0 := xZ.get 0 _ rfl; have pd1 := xZ.get 1 _ rfl
  have zz3 : W.heap.size < u2.heap.size := r3.lt (by simp)
  have kZ2 : Kp [] u2 Z ∨ True := .inr trivial
  have KZ := hid ((KW.out.trans L2.out (by simp)).trans kZ (fun x hx => by simp at hx; subst hx; exact .inr zq4.out))
  have hFZ : Z.cell? ⟨w.heap.size, 0, none⟩ = some (.int .i64 c.n) ∧ Z.cell? ⟨w.heap.size, 1, none⟩ = some (.int .i64 c.s) ∧ Z.cell? ⟨w.heap.size, 2, none⟩ = some (.int .i64 c.k) ∧ Z.cell? ⟨w.heap.size, 3, none⟩ = some (.slice c.ta c.tl.length c.tc) ∧ Z.cell? ⟨w.heap.size, 4, none⟩ = some (.slice (some ⟨g, o, none⟩) c.pl.length c.pc) ∧ Z.cell? ⟨g, o + i * 6 + 4, none⟩ = some (.int .i64 y) := by
    have h1 := (BB.out.1.kept L2.out).keptS kZ (by simp; omega) ((BB.out.1.kept L2.out).lt (by simp))
    have hx : u2.cell? ⟨g, o + i * 6 + 4, none⟩ = some (.int .i64 y) := kpAt L2.out x4
    refine ⟨h1.get 0 _ rfl, h1.get 1 _ rfl, h1.get 2 _ rfl, h1.get 3 _ rfl, h1.get 4 _ rfl, ?_⟩
    refine (kZ.cell (World.block_lt_of_cell? _ _ hx) ?_).trans hx
    simp
    omega
  have HFZ := hid hFZ
  clear kZ kZ2 xZ r3 hFZ
  refine wpAnyH_ready (rs := [13]) (by kernel_rfl) (by simp) ?_
  refine AllReadyH.cons rfl (fun K hK => ?_) AllReadyH.nil
  go_simp
  (try go_wp2_with fail)
  refine hK.out _ _ ?_ (fun hHeld => ?_)
  · exact HFZ.out
  clear hK K
  try simp only [Act.put, List.getElem_toArray, List.getElem_cons_zero, List.getElem_cons_succ, List.setIfInBounds_toArray, List.set_cons_zero, List.set_cons_succ]
  refine wpAnyH_done (by kernel_rfl) ?_ _
  clear hHeld hF
  go_wp2_with fail
  exact bodyPost_ret (v := .agg #[.int .i64 (i : Int), .int .i64 sv]) (by simp [results, Try.results29, go_sem, pd0, pd1]) rfl ⟨rfl, KZ.out⟩
end Go.Proofs.Ytckicbaidbgonaa
end

section
namespace Go.Proofs.Ytckicbaidbgonaa
open Go.Hay
set_option linter.unusedVariables false
set_option linter.unusedSimpArgs false

theorem less_ntrans : ∀ a b c : List UInt8, Op.bytesLess b a = false → Op.bytesLess c b = false → Op.bytesLess c a = false
  | [], _, c, _, _ => by cases c <;> rfl
  | x :: a, [], c, h, _ => by simp [Op.bytesLess] at h
  | x :: a, y :: b, [], _, h => by simp [Op.bytesLess] at h
  | x :: a, y :: b, z :: c, h1, h2 => by
    have ih := less_ntrans a b c
    simp only [Op.bytesLess, Bool.or_eq_false_iff, decide_eq_false_iff_not, Bool.and_eq_false_iff, beq_eq_false_iff_ne, ne_eq] at h1 h2 ⊢
    rw [UInt8.lt_iff_toNat_lt, ← UInt8.toNat_inj] at h1 h2 ⊢
    refine ⟨by omega, ?_⟩
    by_cases hz : z.toNat = x.toNat
    · have h3 : Op.bytesLess b a = false := h1.2.resolve_left (by omega)
      have h4 : Op.bytesLess c b = false := h2.2.resolve_left (by omega)
      exact .inr (ih h3 h4)
    · exact .inl hz
theorem bl_irr (s : ByteArray) : bl s s = false := less_irr _
theorem bl_ntrans {a b c : ByteArray} (h : bl b a = false) (k : bl c b = false) : bl c a = false := less_ntrans _ _ _ h k
theorem bl_asymm {a b : ByteArray} (h : bl a b = true) : bl b a = false := by
  unfold bl at *
  rw [← less_total a.toList b.toList, h]
  rfl
theorem bl_same {a b : ByteArray} (h : bl a b = false) (k : bl b a = false) : a.toList = b.toList := by
  unfold bl at *
  rw [← less_total a.toList b.toList, h] at k
  simpa using k

theorem Val.lt_irr (a : Val) : a.lt a = false := by
  unfold Val.lt
  rw [if_neg (by simp)]
  split
  · simp
  split
  · simp
  split
  · exact bl_irr _
  · rfl
theorem Val.lt_asymm (a b : Val) (h : a.lt b = true) : b.lt a = false := by
  unfold Val.lt at *
  by_cases hk : a.k = b.k
  · rw [if_neg (by simpa using hk)] at h
    rw [if_neg (by simpa using hk.symm), ← hk]
    by_cases h1 : a.k = 1
    · rw [if_pos h1] at h ⊢; cases ha : a.b <;> cases hb : b.b <;> simp_all
    rw [if_neg h1] at h ⊢
    by_cases h2 : a.k = 2
    · rw [if_pos h2] at h ⊢; simp at h ⊢; omega
    rw [if_neg h2] at h ⊢
    by_cases h3 : a.k = 3
    · rw [if_pos h3] at h ⊢; exact bl_asymm h
    rw [if_neg h3] at h ⊢
  · rw [if_pos hk] at h
    rw [if_pos (fun e => hk e.symm)]
    simp at h ⊢; omega
theorem Val.lt_ntrans (a b c : Val) (h : b.lt a = false) (k : c.lt b = false) : c.lt a = false := by
  unfold Val.lt at *
  by_cases hba : b.k = a.k
  · rw [if_neg (by simpa using hba)] at h
    by_cases hcb : c.k = b.k
    · rw [if_neg (by simpa using hcb)] at k
      rw [if_neg (by simpa using hcb.trans hba)]
      by_cases h1 : a.k = 1
      · rw [if_pos (by omega)] at h k ⊢; cases ha : a.b <;> cases hb : b.b <;> cases hc : c.b <;> simp_all
      rw [if_neg (by omega)] at h k ⊢
      by_cases h2 : a.k = 2
      · rw [if_pos (by omega)] at h k ⊢; simp at h k ⊢; omega
      rw [if_neg (by omega)] at h k ⊢
      by_cases h3 : a.k = 3
      · rw [if_pos (by omega)] at h k ⊢; exact bl_ntrans h k
      rw [if_neg (by omega)]
    · rw [if_pos (by simpa using hcb)] at k
      rw [if_pos (by rw [← hba]; simpa using hcb)]
      simp at k ⊢; omega
  · rw [if_pos (by simpa using hba)] at h
    by_cases hcb : c.k = b.k
    · rw [if_pos (by rw [hcb]; simpa using hba)]
      simp at h ⊢; omega
    · rw [if_pos (by simpa using hcb)] at k
      simp at h k
      rw [if_pos (by omega)]
      simp; omega
theorem cmp_neg (a b : Val) : cmpV b a = -cmpV a b := by
  unfold cmpV
  cases h1 : a.lt b
  · cases h2 : b.lt a <;> simp
  · rw [Val.lt_asymm a b h1]; simp
theorem cmp_self (a : Val) : cmpV a a = 0 := by unfold cmpV; rw [Val.lt_irr]; rfl
theorem cmp_le (a b : Val) : cmpV a b ≤ 0 ↔ b.lt a = false := by
  unfold cmpV
  cases h1 : a.lt b
  · cases h2 : b.lt a <;> simp
  · rw [Val.lt_asymm a b h1]; simp
theorem cmp_trans (a b c : Val) (h : cmpV a b ≤ 0) (k : cmpV b c ≤ 0) : cmpV a c ≤ 0 := (cmp_le a c).2 (Val.lt_ntrans a b c ((cmp_le a b).1 h) ((cmp_le b c).1 k))
theorem cmp_zero (a b : Val) : cmpV a b = 0 ↔ a.lt b = false ∧ b.lt a = false := by
  unfold cmpV
  cases h1 : a.lt b
  · cases h2 : b.lt a <;> simp
  · simp
theorem cmp_range (a b : Val) : cmpV a b = -1 ∨ cmpV a b = 0 ∨ cmpV a b = 1 := by
  unfold cmpV
  split
  · exact .inl rfl
  split
  · exact .inr (.inr rfl)
  · exact .inr (.inl rfl)
theorem eqv_self (a : Val) : a.eqv a = true := by simp [Val.eqv]
/-- What is alike, of right values, is the same. -/
theorem cmp_eqv (a b : Val) (ha : a.right = true) (hb : b.right = true) : (cmpV a b == 0) = a.eqv b := by
  by_cases he : a.eqv b = true
  · rw [he]
    simp [Val.eqv] at he
    obtain ⟨h1, h2, h3, h4⟩ := he
    have : cmpV a b = 0 := by
      rw [cmp_zero]
      unfold Val.lt
      simp only [h1, h2, h3]
      constructor
      · rw [if_neg (by simp)]
        split; · simp
        split; · simp
        split; · unfold bl; rw [h4]; exact less_irr _
        rfl
      · rw [if_neg (by simp)]
        split; · simp
        split; · simp
        split; · unfold bl; rw [h4]; exact less_irr _
        rfl
    rw [this]; rfl
  · have he' : a.eqv b = false := by simpa using he
    rw [he']
    rw [beq_eq_false_iff_ne]
    intro hz
    rw [cmp_zero] at hz
    obtain ⟨z1, z2⟩ := hz
    apply he
    unfold Val.lt at z1 z2
    by_cases hk : a.k = b.k
    · rw [if_neg (by simpa using hk)] at z1
      rw [if_neg (by simpa using hk.symm)] at z2
      unfold Val.right at ha hb
      rw [← hk] at hb z2
      by_cases h0 : a.k = 0
      · rw [if_pos h0] at ha hb
        simp at ha hb
        simp [Val.eqv, hk.symm, h0, ha, hb]
      rw [if_neg h0] at ha hb
      by_cases h1 : a.k = 1
      · rw [if_pos h1] at ha hb z1 z2
        simp at ha hb
        have : a.b = b.b := by cases hA : a.b <;> cases hB : b.b <;> simp_all
        simp [Val.eqv, hk, ha, hb, this]
      rw [if_neg h1] at ha hb z1 z2
      by_cases h2 : a.k = 2
      · rw [if_pos h2] at ha hb z1 z2
        simp at ha hb z1 z2
        have : a.n = b.n := by omega
        simp [Val.eqv, hk, ha, hb, this]
      rw [if_neg h2] at ha hb z1 z2
      by_cases h3 : a.k = 3
      · rw [if_pos h3] at ha hb z1 z2
        simp at ha hb
        have := bl_same z1 z2
        simp [Val.eqv, hk, ha, hb, this]
      · rw [if_neg h3] at ha; cases ha
    · rw [if_pos hk] at z1
      rw [if_pos (fun e => hk e.symm)] at z2
      simp at z1 z2
      omega

theorem rows_two (a b c : Val) : rowsV [a, b] [a, c] = cmpV b c := by
  simp only [rowsV, cmp_self, if_true]
  by_cases h : cmpV b c = 0
  · rw [if_pos h, h]
  · rw [if_neg h]
theorem rows_one (a c : Val) : rowsV [a] [a, c] = -1 := by
  simp only [rowsV, cmp_self, if_true]
end Go.Proofs.Ytckicbaidbgonaa
end

section
namespace Go.Proofs.Ytckicbaidbgonaa
open Go.Hay
set_option linter.unusedVariables false
set_option linter.unusedSimpArgs false

theorem cmp_strict (a b c : Val) (h : cmpV a b < 0) (k : cmpV b c ≤ 0) : cmpV a c < 0 := by
  have h1 := cmp_trans a b c (by omega) k
  by_cases h2 : cmpV a c = 0
  · have h3 := cmp_neg a c
    have h4 := cmp_trans b c a k (by omega)
    have h5 := cmp_neg a b
    omega
  · omega
theorem cmp_strict' (a b c : Val) (h : cmpV a b ≤ 0) (k : cmpV b c < 0) : cmpV a c < 0 := by
  have h1 := cmp_trans a b c h (by omega)
  by_cases h2 : cmpV a c = 0
  · have h3 := cmp_neg a c
    have h4 := cmp_trans c a b (by omega) h
    have h5 := cmp_neg b c
    omega
  · omega
theorem rows_neg : ∀ a b : List Val, rowsV b a = -rowsV a b
  | [], [] => rfl
  | [], _ :: _ => rfl
  | _ :: _, [] => rfl
  | x :: a, y :: b => by
    have h := cmp_neg x y
    simp only [rowsV]
    by_cases h0 : cmpV x y = 0
    · rw [if_pos h0, if_pos (by omega), rows_neg a b]
    · rw [if_neg h0, if_neg (by omega), h]
theorem rows_self : ∀ a : List Val, rowsV a a = 0
  | [] => rfl
  | x :: a => by simp only [rowsV, cmp_self, if_true, rows_self a]
theorem rows_range : ∀ a b : List Val, rowsV a b = -1 ∨ rowsV a b = 0 ∨ rowsV a b = 1
  | [], [] => .inr (.inl rfl)
  | [], _ :: _ => .inl rfl
  | _ :: _, [] => .inr (.inr rfl)
  | x :: a, y :: b => by
    simp only [rowsV]
    split
    · exact rows_range a b
    · exact cmp_range x y
theorem rows_trans : ∀ a b c : List Val, rowsV a b ≤ 0 → rowsV b c ≤ 0 → rowsV a c ≤ 0
  | [], _, [], _, _ => by simp [rowsV]
  | [], _, _ :: _, _, _ => by simp [rowsV]
  | _ :: _, [], _, h, _ => by simp [rowsV] at h
  | _ :: _, _ :: _, [], _, h => by simp [rowsV] at h
  | x :: a, y :: b, z :: c, h1, h2 => by
    simp only [rowsV] at h1 h2 ⊢
    have ih := rows_trans a b c
    by_cases e1 : cmpV x y = 0
    · rw [if_pos e1] at h1
      by_cases e2 : cmpV y z = 0
      · rw [if_pos e2] at h2
        have h3 := cmp_trans x y z (by omega) (by omega)
        have h4 := cmp_neg x y
        have h5 := cmp_neg y z
        have h6 := cmp_neg x z
        have h7 := cmp_trans z y x (by omega) (by omega)
        rw [if_pos (by omega)]
        exact ih h1 h2
      · rw [if_neg e2] at h2
        have := cmp_strict' x y z (by omega) (by omega)
        rw [if_neg (by omega)]
        omega
    · rw [if_neg e1] at h1
      have : cmpV y z ≤ 0 := by
        by_cases e2 : cmpV y z = 0
        · omega
        · rw [if_neg e2] at h2; omega
      have := cmp_strict x y z (by omega) this
      rw [if_neg (by omega)]
      omega
theorem rows_less : ∀ a : List Val, a ≠ [] → rowsV (a.take (a.length - 1)) a = -1
  | [], h => absurd rfl h
  | [x], _ => rfl
  | x :: y :: a, _ => by
    have ih := rows_less (y :: a) (by simp)
    simp only [List.length_cons, Nat.add_sub_cancel] at ih ⊢
    rw [List.take_succ_cons]
    simp only [rowsV, cmp_self, if_true]
    exact ih

/-- Are two rows the same? -/
def sameV : List Val → List Val → Bool
  | [], [] => true
  | x :: a, y :: b => x.eqv y && sameV a b
  | _, _ => false
theorem same_step (a b : List Val) (j : Nat) (ha : j < a.length) (hb : j < b.length) : sameV (a.drop j) (b.drop j) = (a[j].eqv b[j] && sameV (a.drop (j + 1)) (b.drop (j + 1))) := by
  rw [List.drop_eq_getElem_cons ha, List.drop_eq_getElem_cons hb, sameV]
theorem same_length : ∀ a b : List Val, a.length ≠ b.length → sameV a b = false
  | [], [], h => absurd rfl h
  | [], _ :: _, _ => rfl
  | _ :: _, [], _ => rfl
  | x :: a, y :: b, h => by
    rw [sameV, same_length a b (by simpa using h)]
    simp
theorem rows_same : ∀ a b : List Val, (∀ x ∈ a, x.right = true) → (∀ x ∈ b, x.right = true) → (rowsV a b == 0) = sameV a b
  | [], [], _, _ => rfl
  | [], _ :: _, _, _ => rfl
  | _ :: _, [], _, _ => rfl
  | x :: a, y :: b, ha, hb => by
    have h1 := cmp_eqv x y (ha x (by simp)) (hb y (by simp))
    have ih := rows_same a b (fun z hz => ha z (by simp [hz])) (fun z hz => hb z (by simp [hz]))
    simp only [rowsV, sameV]
    rw [← h1, ← ih]
    by_cases e : cmpV x y = 0
    · rw [if_pos e, e]; rfl
    · rw [if_neg e]
      have e2 : (cmpV x y == 0) = false := by simpa using e
      rw [e2]; rfl
end Go.Proofs.Ytckicbaidbgonaa
end

section
namespace Go.Proofs.Ytckicbaidbgonaa
open Go.RowKit Go.Hay
set_option linter.unusedVariables false
set_option linter.unusedSimpArgs false

theorem neV (x y : Val) : ∃ X : Bool, Hid (X = x.eqv y) ∧ ∀ w : World, (binOp .neq 88 (.agg #[.int .i64 x.k, .bool x.b, .int .i64 x.n, .string x.t]) (.agg #[.int .i64 y.k, .bool y.b, .int .i64 y.n, .string y.t])).run Try.prog w = .ok (.bool (!X)) w := by
  obtain ⟨X, HX, hX⟩ := eqV x y
  refine ⟨X, HX, fun w => ?_⟩
  have h := hX w
  rw [run_eql_struct] at h
  rw [run_neq_struct]
  cases hr : (Op.equalIn 10000 88 (.agg #[.int .i64 x.k, .bool x.b, .int .i64 x.n, .string x.t]) (.agg #[.int .i64 y.k, .bool y.b, .int .i64 y.n, .string y.t])).run Try.prog w with
  | ok b w' => rw [hr] at h; simp [Result.andThen] at h; obtain ⟨rfl, rfl⟩ := h; rfl
  | halt p w' => rw [hr] at h; cases h

set_option maxHeartbeats 2000000 in
set_option maxRecDepth 100000 in
theorem cSame (a b : Option Addr) (ca cb : Nat) (la lb : List Val) (w : World) (ha : Vals w a la) (hb : Vals w b lb) (hla : la.length ≤ 9223372036854775807) (hlb : lb.length ≤ 9223372036854775807) :
    Calls Try.prog 23 #[.slice a la.length ca, .slice b lb.length cb] w fun e w' => e = .returned (.bool (sameV la lb)) ∧ Kp [] w w' := by
  by_cases hE : la.length = lb.length
  · have hE' := hid hE
    go_enter Try.func23, Try.ntmps23
    go_wp2_with fail
    go_loopw [5] (fun i wn => ∃ j : Nat, j ≤ la.length ∧ i = .int .i64 j ∧ Hid (sameV (la.drop j) (lb.drop j) = sameV la lb) ∧ Kp [] w wn) (fun i _ => la.length - (intOf i).toNat)
    case atStart => exact ⟨0, Nat.zero_le _, rfl, rfl, Kp.refl _ _⟩
    case round =>
      obtain ⟨j, hj, rfl, hr, hk⟩ := hrel
      by_cases hja : j < la.length
      · have hjb : j < lb.length := by rw [← hE'.out]; exact hja
        obtain ⟨g, o, rfl, a0, a1, a2, a3⟩ := (ha.kept hk).at j hja
        obtain ⟨g', o', rfl, b0, b1, b2, b3⟩ := (hb.kept hk).at j hjb
        have hst := hid (same_step la lb j hja hjb)
        generalize la[j] = x at *
        generalize lb[j] = y at *
        obtain ⟨X, HX, hX⟩ := neV x y
        have hst2 : Hid (sameV (la.drop j) (lb.drop j) = (X && sameV (la.drop (j + 1)) (lb.drop (j + 1)))) := by show _ = _; rw [hst.out, HX.out]
        clear hst HX
        obtain ⟨xk, xb, xn, xt⟩ := x
        obtain ⟨yk, yb, yn, yt⟩ := y
        dsimp only at a0 a1 a2 a3 b0 b1 b2 b3 hX
        cases X
        · have hn : Hid (sameV la lb = false) := by show _ = _; rw [← hr.out, hst2.out]; rfl
          clear hr hst2
          go_wp2_with fail
          go_quiet ((fail))
          go_wp2_with fail
          go_ret
          exact ⟨by rw [hn.out]; rfl, hk.drewN _⟩
        · have hn : Hid (sameV (la.drop (j + 1)) (lb.drop (j + 1)) = sameV la lb) := by show _ = _; rw [← hr.out, hst2.out]; rfl
          clear hr hst2
          go_wp2_with fail
          go_quiet ((fail))
          go_wp2_with fail
          exact ⟨⟨j + 1, by omega, by go_num, hn, hk.drewN _⟩, by simp [intOf]; omega⟩
      · have hjl : j = la.length := by omega
        subst hjl
        have hn : Hid (sameV la lb = true) := by show _ = _; rw [← hr.out, List.drop_length, hE'.out, List.drop_length]; rfl
        clear hr
        go_wp2_with fail
        go_ret
        exact ⟨by rw [hn.out]; rfl, hk⟩
  · have hn : Hid (sameV la lb = false) := same_length la lb hE
    have hee : ((la.length : Int) == (lb.length : Int)) = false := by simp; omega
    clear hE
    go_enter Try.func23, Try.ntmps23
    go_wp2_with fail
    go_ret
    exact ⟨by rw [hn.out]; rfl, Kp.refl _ _⟩
end Go.Proofs.Ytckicbaidbgonaa
end

section
namespace Go.Proofs.Ytckicbaidbgonaa
open Go.RowKit Go.Hay
set_option linter.unusedVariables false
set_option linter.unusedSimpArgs false

theorem same_self : ∀ l : List Val, sameV l l = true
  | [] => rfl
  | x :: l => by simp [sameV, same_self l, Val.eqv]
theorem eqSg (x y : Int) (w : World) : (binOp .eql 31 (.agg #[.int .i64 x, .int .i64 y]) (.agg #[.int .i64 x, .int .i64 y])).run Try.prog w = .ok (.bool true) w := by
  rw [run_eql_struct, run_equalIn_agg (ht := by kernel_rfl) (hp := by kernel_rfl)]
  simp [go_sem]
set_option maxHeartbeats 16000000 in
set_option maxRecDepth 100000 in
theorem rowsWalk (c : Cg) (P : Int) (a : Option Addr) (cap : Nat) (l : List Val) (w : World) (hc : c.ok w) (hs : VE.See w a l) (hl : l.length ≤ 1048576) (hpl : c.pl.length ≤ 1048576) (hb : ∀ p ∈ c.pl, p.cl.length ≤ 1048576 ∧ p.sl.length ≤ 1048576) : Calls Try.prog 6 #[c.v, .int .i64 P, .slice a l.length cap] w fun e w' => e = .returned (.bool true) ∧ Below w.heap.size w w' := by
  obtain ⟨W, eW⟩ : ∃ Y, w.alloc (.cells #[.int .i64 c.n, .int .i64 c.s, .int .i64 c.k, .slice c.ta c.tl.length c.tc, .slice c.pa c.pl.length c.pc] 25) = Y := ⟨_, rfl⟩
  have kW : Kp [] w W := by rw [← eW]; exact (Kp.refl _ _).alloc _
  have zW : W.heap.size = w.heap.size + 1 := by rw [← eW]; simp
  have bW : Bn W w.heap.size [.int .i64 c.n, .int .i64 c.s, .int .i64 c.k, .slice c.ta c.tl.length c.tc, .slice c.pa c.pl.length c.pc] := by rw [← eW]; exact Bn.new w [.int .i64 c.n, .int .i64 c.s, .int .i64 c.k, .slice c.ta c.tl.length c.tc, .slice c.pa c.pl.length c.pc] 25
  have BB := hid bW
  have KW := hid kW
  have HC := hid (hc.kept kW)
  have HS := hid (hs.keptNew kW)
  have HB := hid hb
  have zW' : w.heap.size < W.heap.size := by omega
  have hF : Hid (∀ W', Kp [] W W' → (W'.cell? ⟨w.heap.size, 0, none⟩ = some (.int .i64 c.n) ∧ W'.cell? ⟨w.heap.size, 1, none⟩ = some (.int .i64 c.s) ∧ W'.cell? ⟨w.heap.size, 2, none⟩ = some (.int .i64 c.k) ∧ W'.cell? ⟨w.heap.size, 3, none⟩ = some (.slice c.ta c.tl.length c.tc) ∧ W'.cell? ⟨w.heap.size, 4, none⟩ = some (.slice c.pa c.pl.length c.pc))) := fun W' k => by
    have h1 := BB.out.kept k
    exact ⟨h1.get 0 _ rfl, h1.get 1 _ rfl, h1.get 2 _ rfl, h1.get 3 _ rfl, h1.get 4 _ rfl⟩
  have aK := hid (fun w' (k : Kp [] W w') => rCheck c w' (HC.out.kept k))
  have aA := hid (fun w' => cAlive w')
  obtain ⟨E, hE⟩ : ∃ E, Hid (chkC c = E) := ⟨_, hid rfl⟩
  rw [hE.out] at aK
  clear hc hs hb kW bW zW BB
  simp only [Cg.v] at *
  obtain ⟨c0, c1, c2, c3, c4⟩ := hF.out _ (Kp.refl _ _)
  go_enter Try.func6, Try.ntmps6
  go_wp2_with fail
  clear c0 c1 c2 c3 c4 eW
  go_loopw [12] (fun iv wr => ∃ j : Nat, j ≤ c.pl.length ∧ iv = .int .i64 (j : Int) ∧ Kp [] W wr) (fun iv _ => c.pl.length - (intOf iv).toNat)
  case atStart => exact ⟨0, Nat.zero_le _, rfl, Kp.refl _ _⟩
  case round =>
    obtain ⟨j, hj, rfl, kr⟩ := hrel
    by_cases hjl : j < c.pl.length
    · obtain ⟨g, o, eg, x0, x1, x2, x3, x4, x5⟩ := pjAt (HC.out.kept kr).ps (j := j) (p := c.pl[j]) (by simp [hjl])
      have hpok := hid (HC.out.pok _ (List.getElem_mem hjl))
      obtain ⟨hcl, hsl⟩ := HB.out _ (List.getElem_mem hjl)
      have i1 : (0 : Int) ≤ (j : Int) := by omega
      have i2 : (j : Int) < (c.pl.length : Int) := by omega
      have i3 : (j : Int) + 1 ≤ 9223372036854775807 := by omega
      generalize c.pl[j] = p at *
      obtain ⟨WA, eWA⟩ : ∃ Y, wr.alloc (.cells #[.string ⟨#[]⟩, .int .i64 0, .slice none 0 0, .slice none 0 0, .int .i64 0, .int .i64 0] 48) = Y := ⟨_, rfl⟩
      have kWA : Kp [] wr WA := by rw [← eWA]; exact (Kp.refl _ _).alloc _
      have zWA : WA.heap.size = wr.heap.size + 1 := by rw [← eWA]; simp
      have xWA : Bn WA (wr.heap.size) [.string ⟨#[]⟩, .int .i64 0, .slice none 0 0, .slice none 0 0, .int .i64 0, .int .i64 0] := by rw [← eWA]; exact Bn.new wr [.string ⟨#[]⟩, .int .i64 0, .slice none 0 0, .slice none 0 0, .int .i64 0, .int .i64 0] 48
      obtain ⟨WB, eWB⟩ : ∃ Y, ((((((WA.setCell ⟨wr.heap.size, 0, none⟩ (.string p.nm)).setCell ⟨wr.heap.size, 1, none⟩ (.int .i64 p.tb)).setCell ⟨wr.heap.size, 2, none⟩ (.slice p.ca p.cl.length p.cc)).setCell ⟨wr.heap.size, 3, none⟩ (.slice p.sa p.sl.length p.sc)).setCell ⟨wr.heap.size, 4, none⟩ (.int .i64 p.by_)).setCell ⟨wr.heap.size, 5, none⟩ (.int .i64 p.sh)) = Y := ⟨_, rfl⟩
      have kWB : Kp [wr.heap.size] WA WB := by rw [← eWB]; exact (((((((Kp.refl _ _).setCell (by simp) _).setCell (by simp) _).setCell (by simp) _).setCell (by simp) _).setCell (by simp) _).setCell (by simp) _)
      have xWB : Bn WB (wr.heap.size) [.string p.nm, .int .i64 p.tb, .slice p.ca p.cl.length p.cc, .slice p.sa p.sl.length p.sc, .int .i64 p.by_, .int .i64 p.sh] := by rw [← eWB]; exact ((((((xWA.set 0 (by simp) (.string p.nm)).set 1 (by simp) (.int .i64 p.tb)).set 2 (by simp) (.slice p.ca p.cl.length p.cc)).set 3 (by simp) (.slice p.sa p.sl.length p.sc)).set 4 (by simp) (.int .i64 p.by_)).set 5 (by simp) (.int .i64 p.sh))
      have zWB := kWB.size
      have ma0 := xWA.get 0 _ rfl; have ma1 := xWA.get 1 _ rfl; have ma2 := xWA.get 2 _ rfl; have ma3 := xWA.get 3 _ rfl; have ma4 := xWA.get 4 _ rfl; have ma5 := xWA.get 5 _ rfl
      have mf0 := xWA.free 0; have mf1 := xWA.free 1; have mf2 := xWA.free 2; have mf3 := xWA.free 3; have mf4 := xWA.free 4; have mf5 := xWA.free 5
      have pc0 := xWB.get 0 _ rfl; have pc1 := xWB.get 1 _ rfl; have pc2 := xWB.get 2 _ rfl; have pc3 := xWB.get 3 _ rfl; have pc4 := xWB.get 4 _ rfl; have pc5 := xWB.get 5 _ rfl
      have kB : Kp [] wr WB := kWA.trans kWB (fun x hx => .inr (by simp at hx; omega))
      have KB := hid (kr.trans kB (by simp))
      have XB := hid xWB
      have aR := hid (fun w' (k : Kp [] W w') => cRow p a cap l w' (hpok.out.kept k) (HS.out.keptNew k) (by omega) hcl)
      have rR := hid (fun w' (k : Kp [] W w') => rRow p a cap l w' (hpok.out.kept k) (HS.out.keptNew k) (by omega) hcl)
      have aS := hid (fun w' (k : Kp [] W w') => cSort p w' (hpok.out.kept k) hcl hsl)
      have rS := hid (fun w' (k : Kp [] W w') => rSort p w' (hpok.out.kept k) hcl hsl)
      have hlR : (rwV p.cl l).length ≤ 1048576 := by simpa [rwV] using hcl
      have hlS : (srV p.cl p.sl).length ≤ 1048576 := by simpa [srV] using hsl
      generalize hRL : rwV p.cl l = RL at *
      generalize hST : srV p.cl p.sl = ST at *
      obtain ⟨wr0, hwr0⟩ : ∃ q, Hid (wr.heap.size = q) := ⟨_, hid rfl⟩
      have zr0 : wr.heap.size < WB.heap.size := by omega
      unfold Pj.v at aR rR aS rS
      clear hRL hST kWA kWB xWA xWB kB zWA zWB kr
      rw [eg]
      clear eg
      go_wp2_with fail
      rw [hwr0.out] at XB
      rw [hwr0.out]
      have hF2 : Hid (∀ W', Kp [] WB W' → (W'.cell? ⟨wr0, 0, none⟩ = some (.string p.nm) ∧ W'.cell? ⟨wr0, 1, none⟩ = some (.int .i64 p.tb) ∧ W'.cell? ⟨wr0, 2, none⟩ = some (.slice p.ca p.cl.length p.cc) ∧ W'.cell? ⟨wr0, 3, none⟩ = some (.slice p.sa p.sl.length p.sc) ∧ W'.cell? ⟨wr0, 4, none⟩ = some (.int .i64 p.by_) ∧ W'.cell? ⟨wr0, 5, none⟩ = some (.int .i64 p.sh))) := fun W' k => by
        have h1 := XB.out.kept k
        exact ⟨h1.get 0 _ rfl, h1.get 1 _ rfl, h1.get 2 _ rfl, h1.get 3 _ rfl, h1.get 4 _ rfl, h1.get 5 _ rfl⟩
      refine wp_region_held_drew (S := fun W' => W'.cell? ⟨wr0, 0, none⟩ = some (.string p.nm) ∧ W'.cell? ⟨wr0, 1, none⟩ = some (.int .i64 p.tb) ∧ W'.cell? ⟨wr0, 2, none⟩ = some (.slice p.ca p.cl.length p.cc) ∧ W'.cell? ⟨wr0, 3, none⟩ = some (.slice p.sa p.sl.length p.sc) ∧ W'.cell? ⟨wr0, 4, none⟩ = some (.int .i64 p.by_) ∧ W'.cell? ⟨wr0, 5, none⟩ = some (.int .i64 p.sh)) (by kernel_rfl) ?_ (fun hHeld => ?_)
      · exact hF2.out _ (Kp.refl [] WB).drew
      have KD : Hid (Kp [] WB WB.drew) := hid (Kp.refl [] WB).drew
      generalize WB.drew = Wd at *
      clear x0 x1 x2 x3 x4 x5 eWA eWB ma0 ma1 ma2 ma3 ma4 ma5 mf0 mf1 mf2 mf3 mf4 mf5 pc0 pc1 pc2 pc3 pc4 pc5
      refine wpAnyH_take (i := 0) (v := ?_) rfl (by kernel_rfl) (by kernel_rfl) (by kernel_rfl) (fun _ _ _ h => h) (Or.inl ⟨by rfl, ?_⟩) (by assumption) ?_
      rotate_left
      · intro w hSw; (try dsimp only at hSw); go_simp <;> with_reducible rfl
      try simp only [Act.put, List.getElem_toArray, List.getElem_cons_zero, List.getElem_cons_succ, List.setIfInBounds_toArray, List.set_cons_zero, List.set_cons_succ]
      refine wpAnyH_take (i := 1) (v := ?_) rfl (by kernel_rfl) (by kernel_rfl) (by kernel_rfl) (fun _ _ _ h => h) (Or.inl ⟨by rfl, ?_⟩) (by assumption) ?_
      rotate_left
      · intro w hSw; (try dsimp only at hSw); go_simp <;> with_reducible rfl
      try simp only [Act.put, List.getElem_toArray, List.getElem_cons_zero, List.getElem_cons_succ, List.setIfInBounds_toArray, List.set_cons_zero, List.set_cons_succ]
      refine wpAnyH_take (i := 3) (v := ?_) rfl (by kernel_rfl) (by kernel_rfl) (by kernel_rfl) (fun _ _ _ h => h) (Or.inl ⟨by rfl, ?_⟩) (by assumption) ?_
      rotate_left
      · intro w hSw; (try dsimp only at hSw); go_simp <;> with_reducible rfl
      try simp only [Act.put, List.getElem_toArray, List.getElem_cons_zero, List.getElem_cons_succ, List.setIfInBounds_toArray, List.set_cons_zero, List.set_cons_succ]
      refine wpAnyH_take (i := 4) (v := ?_) rfl (by kernel_rfl) (by kernel_rfl) (by kernel_rfl) (fun _ _ _ h => h) (Or.inl ⟨by rfl, ?_⟩) (by assumption) ?_
      rotate_left
      · intro w hSw; (try dsimp only at hSw); go_simp <;> with_reducible rfl
      try simp only [Act.put, List.getElem_toArray, List.getElem_cons_zero, List.getElem_cons_succ, List.setIfInBounds_toArray, List.set_cons_zero, List.set_cons_succ]
      refine wpAnyH_ready (rs := [2]) (by kernel_rfl) (by simp) ?_
      refine AllReadyH.cons rfl (fun K hK => ?_) AllReadyH.nil
      go_simp
      refine (aR.out Wd (KB.out.trans KD.out (by simp))).mono ?_
      rintro e u1 ⟨ra, rc, rfl, rs1, _, _, l1⟩
      (try go_wp2_with fail)
      refine hK.out _ _ ?_ (fun hHeld => ?_)
      · exact hF2.out _ (KD.out.trans l1 (by simp))
      clear hK K
      try simp only [Act.put, List.getElem_toArray, List.getElem_cons_zero, List.getElem_cons_succ, List.setIfInBounds_toArray, List.set_cons_zero, List.set_cons_succ]
      have L1 := hid (KD.out.trans l1 (by simp))
      have RS1 := hid rs1
      clear l1 rs1
      refine wpAnyH_ready (rs := [5]) (by kernel_rfl) (by simp) ?_
      refine AllReadyH.cons rfl (fun K hK => ?_) AllReadyH.nil
      go_simp
      refine (rR.out _ (KB.out.trans L1.out (by simp))).mono ?_
      rintro e u2 ⟨rb, rd, rfl, rs2, _, _, l2⟩
      (try go_wp2_with fail)
      refine hK.out _ _ ?_ (fun hHeld => ?_)
      · exact hF2.out _ (L1.out.trans l2 (by simp))
      clear hK K
      try simp only [Act.put, List.getElem_toArray, List.getElem_cons_zero, List.getElem_cons_succ, List.setIfInBounds_toArray, List.set_cons_zero, List.set_cons_succ]
      have L2 := hid (L1.out.trans l2 (by simp))
      have aQ := hid (cSame ra rb rc rd RL RL u2 (seeV.1 (RS1.out.keptNew l2)) (seeV.1 rs2) (by omega) (by omega))
      rw [same_self] at aQ
      clear l2 rs2
      refine wpAnyH_ready (rs := [6]) (by kernel_rfl) (by simp) ?_
      refine AllReadyH.cons rfl (fun K hK => ?_) AllReadyH.nil
      go_simp
      refine aQ.out.mono ?_
      rintro e u3 ⟨rfl, l3⟩
      (try go_wp2_with fail)
      refine hK.out _ _ ?_ (fun hHeld => ?_)
      · exact hF2.out _ (L2.out.trans l3 (by simp))
      clear hK K
      try simp only [Act.put, List.getElem_toArray, List.getElem_cons_zero, List.getElem_cons_succ, List.setIfInBounds_toArray, List.set_cons_zero, List.set_cons_succ]
      have L3 := hid (L2.out.trans l3 (by simp))
      clear l3 aQ
      refine wpAnyH_take (i := 7) (v := ?_) rfl (by kernel_rfl) (by kernel_rfl) (by kernel_rfl) (fun _ _ _ h => h) (Or.inl ⟨by rfl, ?_⟩) (by assumption) ?_
      rotate_left
      · intro w hSw; (try dsimp only at hSw); go_simp <;> with_reducible rfl
      try simp only [Act.put, List.getElem_toArray, List.getElem_cons_zero, List.getElem_cons_succ, List.setIfInBounds_toArray, List.set_cons_zero, List.set_cons_succ]
      try simp only [Bool.not_true, Bool.not_false]
      refine wpAnyH_take (i := 8) (v := ?_) rfl (by kernel_rfl) (by kernel_rfl) (by kernel_rfl) (fun _ _ _ h => h) (Or.inl ⟨by rfl, ?_⟩) (by assumption) ?_
      rotate_left
      · intro w hSw; (try dsimp only at hSw); go_simp <;> with_reducible rfl
      try simp only [Act.put, List.getElem_toArray, List.getElem_cons_zero, List.getElem_cons_succ, List.setIfInBounds_toArray, List.set_cons_zero, List.set_cons_succ]
      refine wpAnyH_take (i := 9) (v := ?_) rfl (by kernel_rfl) (by kernel_rfl) (by kernel_rfl) (fun _ _ _ h => h) (Or.inl ⟨by rfl, ?_⟩) (by assumption) ?_
      rotate_left
      · intro w hSw; (try dsimp only at hSw); go_simp <;> with_reducible rfl
      try simp only [Act.put, List.getElem_toArray, List.getElem_cons_zero, List.getElem_cons_succ, List.setIfInBounds_toArray, List.set_cons_zero, List.set_cons_succ]
      refine wpAnyH_take (i := 11) (v := ?_) rfl (by kernel_rfl) (by kernel_rfl) (by kernel_rfl) (fun _ _ _ h => h) (Or.inl ⟨by rfl, ?_⟩) (by assumption) ?_
      rotate_left
      · intro w hSw; (try dsimp only at hSw); go_simp <;> with_reducible rfl
      try simp only [Act.put, List.getElem_toArray, List.getElem_cons_zero, List.getElem_cons_succ, List.setIfInBounds_toArray, List.set_cons_zero, List.set_cons_succ]
      refine wpAnyH_ready (rs := [10]) (by kernel_rfl) (by simp) ?_
      refine AllReadyH.cons rfl (fun K hK => ?_) AllReadyH.nil
      go_simp
      refine (aS.out _ (KB.out.trans L3.out (by simp))).mono ?_
      rintro e u4 ⟨sa, sc, rfl, ss1, l4⟩
      (try go_wp2_with fail)
      refine hK.out _ _ ?_ (fun hHeld => ?_)
      · exact hF2.out _ (L3.out.trans l4 (by simp))
      clear hK K
      try simp only [Act.put, List.getElem_toArray, List.getElem_cons_zero, List.getElem_cons_succ, List.setIfInBounds_toArray, List.set_cons_zero, List.set_cons_succ]
      have L4 := hid (L3.out.trans l4 (by simp))
      have SS1 := hid ss1
      clear l4 ss1
      refine wpAnyH_ready (rs := [12]) (by kernel_rfl) (by simp) ?_
      refine AllReadyH.cons rfl (fun K hK => ?_) AllReadyH.nil
      go_simp
      refine (rS.out _ (KB.out.trans L4.out (by simp))).mono ?_
      rintro e u5 ⟨sb, sd, rfl, ss2, l5⟩
      (try go_wp2_with fail)
      refine hK.out _ _ ?_ (fun hHeld => ?_)
      · exact hF2.out _ (L4.out.trans l5 (by simp))
      clear hK K
      try simp only [Act.put, List.getElem_toArray, List.getElem_cons_zero, List.getElem_cons_succ, List.setIfInBounds_toArray, List.set_cons_zero, List.set_cons_succ]
      have L5 := hid (L4.out.trans l5 (by simp))
      have aQ := hid (rSameI sa sb sc sd ST u5 (SS1.out.keptNew l5) ss2 (by omega))
      clear l5 ss2
      refine wpAnyH_ready (rs := [13]) (by kernel_rfl) (by simp) ?_
      refine AllReadyH.cons rfl (fun K hK => ?_) AllReadyH.nil
      go_simp
      refine aQ.out.mono ?_
      rintro e u6 ⟨rfl, l6⟩
      (try go_wp2_with fail)
      refine hK.out _ _ ?_ (fun hHeld => ?_)
      · exact hF2.out _ (L5.out.trans l6 (by simp))
      clear hK K
      try simp only [Act.put, List.getElem_toArray, List.getElem_cons_zero, List.getElem_cons_succ, List.setIfInBounds_toArray, List.set_cons_zero, List.set_cons_succ]
      have L6 := hid (KB.out.trans (L5.out.trans l6 (by simp)) (by simp))
      clear l6 aQ
      refine wpAnyH_take (i := 14) (v := ?_) rfl (by kernel_rfl) (by kernel_rfl) (by kernel_rfl) (fun _ _ _ h => h) (Or.inl ⟨by rfl, ?_⟩) (by assumption) ?_
      rotate_left
      · intro w hSw; (try dsimp only at hSw); go_simp <;> with_reducible rfl
      try simp only [Act.put, List.getElem_toArray, List.getElem_cons_zero, List.getElem_cons_succ, List.setIfInBounds_toArray, List.set_cons_zero, List.set_cons_succ]
      try simp only [Bool.not_true, Bool.not_false]
      refine wpAnyH_take (i := 15) (v := ?_) rfl (by kernel_rfl) (by kernel_rfl) (by kernel_rfl) (fun _ _ _ h => h) (Or.inl ⟨by rfl, ?_⟩) (by assumption) ?_
      rotate_left
      · intro w hSw; (try dsimp only at hSw); go_simp <;> with_reducible rfl
      try simp only [Act.put, List.getElem_toArray, List.getElem_cons_zero, List.getElem_cons_succ, List.setIfInBounds_toArray, List.set_cons_zero, List.set_cons_succ]
      refine wpAnyH_done (by kernel_rfl) ?_ _
      clear hHeld hF2
      go_wp2_with fail
      exact ⟨⟨j + 1, by omega, by go_num, L6.out⟩, by simp [intOf]; omega⟩
    · have e : j = c.pl.length := by omega
      have e2 : decide ((j : Int) < (c.pl.length : Int)) = false := by simp; omega
      have KR := hid kr
      have e3 : ¬ (j : Int) < (c.pl.length : Int) := by omega
      clear kr e hjl hj
      have aX := hid (eqSg (whC c P l).1 (whC c P l).2)
      have hx := aX.out
      by_cases h0 : E = 0
      rotate_left
      · have d0 : (E != 0) = true := by simpa using h0
        clear hx aX
        go_wp2_with fail
        refine wp_region_held_drew (S := fun W' => W'.cell? ⟨w.heap.size, 0, none⟩ = some (.int .i64 c.n) ∧ W'.cell? ⟨w.heap.size, 1, none⟩ = some (.int .i64 c.s) ∧ W'.cell? ⟨w.heap.size, 2, none⟩ = some (.int .i64 c.k) ∧ W'.cell? ⟨w.heap.size, 3, none⟩ = some (.slice c.ta c.tl.length c.tc) ∧ W'.cell? ⟨w.heap.size, 4, none⟩ = some (.slice c.pa c.pl.length c.pc)) (by kernel_rfl) ?_ (fun hHeld => ?_)
        · exact hF.out _ (KR.out.trans (Kp.refl [] wr).drew (by simp))
        have KD : Hid (Kp [] wr wr.drew) := hid (Kp.refl [] wr).drew
        generalize wr.drew = Wd at *
        refine wpAnyH_ready (rs := [0]) (by kernel_rfl) (by simp) ?_
        refine AllReadyH.cons rfl (fun K hK => ?_) AllReadyH.nil
        go_simp
        refine (aA.out Wd).mono ?_
        rintro e u1 ⟨rfl, l1⟩
        (try go_wp2_with fail)
        refine hK.out _ _ ?_ (fun hHeld => ?_)
        · exact hF.out _ (KR.out.trans (KD.out.trans l1 (by simp)) (by simp))
        clear hK K
        try simp only [Act.put, List.getElem_toArray, List.getElem_cons_zero, List.getElem_cons_succ, List.setIfInBounds_toArray, List.set_cons_zero, List.set_cons_succ]
        have L1 := hid (KR.out.trans (KD.out.trans l1 (by simp)) (by simp))
        clear l1
        refine wpAnyH_take (i := 1) (v := ?_) rfl (by kernel_rfl) (by kernel_rfl) (by kernel_rfl) (fun _ _ _ h => h) (Or.inl ⟨by rfl, ?_⟩) (by assumption) ?_
        rotate_left
        · intro w hSw; (try dsimp only at hSw); go_simp <;> with_reducible rfl
        try simp only [Act.put, List.getElem_toArray, List.getElem_cons_zero, List.getElem_cons_succ, List.setIfInBounds_toArray, List.set_cons_zero, List.set_cons_succ]
        refine wpAnyH_take (i := 2) (v := ?_) rfl (by kernel_rfl) (by kernel_rfl) (by kernel_rfl) (fun _ _ _ h => h) (Or.inl ⟨by rfl, ?_⟩) (by assumption) ?_
        rotate_left
        · intro w hSw; (try dsimp only at hSw); go_simp <;> with_reducible rfl
        try simp only [Act.put, List.getElem_toArray, List.getElem_cons_zero, List.getElem_cons_succ, List.setIfInBounds_toArray, List.set_cons_zero, List.set_cons_succ]
        refine wpAnyH_ready (rs := [3]) (by kernel_rfl) (by simp) ?_
        refine AllReadyH.cons rfl (fun K hK => ?_) AllReadyH.nil
        go_simp
        refine (aK.out _ L1.out).mono ?_
        rintro e u2 ⟨rfl, l2⟩
        (try go_wp2_with fail)
        refine hK.out _ _ ?_ (fun hHeld => ?_)
        · exact hF.out _ (L1.out.trans l2 (by simp))
        clear hK K
        try simp only [Act.put, List.getElem_toArray, List.getElem_cons_zero, List.getElem_cons_succ, List.setIfInBounds_toArray, List.set_cons_zero, List.set_cons_succ]
        have L2 := hid (L1.out.trans l2 (by simp))
        clear l2
        refine wpAnyH_take (i := 4) (v := ?_) rfl (by kernel_rfl) (by kernel_rfl) (by kernel_rfl) (fun _ _ _ h => h) (Or.inl ⟨by rfl, ?_⟩) (by assumption) ?_
        rotate_left
        · intro w hSw; (try dsimp only at hSw); go_simp <;> with_reducible rfl
        try simp only [Act.put, List.getElem_toArray, List.getElem_cons_zero, List.getElem_cons_succ, List.setIfInBounds_toArray, List.set_cons_zero, List.set_cons_succ]
        try simp only [d0]
        refine wpAnyH_take (i := 5) (v := ?_) rfl (by kernel_rfl) (by kernel_rfl) (by kernel_rfl) (fun _ _ _ h => h) (Or.inl ⟨by rfl, ?_⟩) (by assumption) ?_
        rotate_left
        · intro w hSw; (try dsimp only at hSw); go_simp <;> with_reducible rfl
        try simp only [Act.put, List.getElem_toArray, List.getElem_cons_zero, List.getElem_cons_succ, List.setIfInBounds_toArray, List.set_cons_zero, List.set_cons_succ]
        refine wpAnyH_take (i := 6) (v := undef) rfl (by kernel_rfl) (by kernel_rfl) (by kernel_rfl) (fun _ _ _ h => h) (Or.inr ⟨by rfl, rfl⟩) (by assumption) ?_
        try simp only [Act.put, List.getElem_toArray, List.getElem_cons_zero, List.getElem_cons_succ, List.setIfInBounds_toArray, List.set_cons_zero, List.set_cons_succ]
        refine wpAnyH_take (i := 7) (v := undef) rfl (by kernel_rfl) (by kernel_rfl) (by kernel_rfl) (fun _ _ _ h => h) (Or.inr ⟨by rfl, rfl⟩) (by assumption) ?_
        try simp only [Act.put, List.getElem_toArray, List.getElem_cons_zero, List.getElem_cons_succ, List.setIfInBounds_toArray, List.set_cons_zero, List.set_cons_succ]
        refine wpAnyH_take (i := 8) (v := undef) rfl (by kernel_rfl) (by kernel_rfl) (by kernel_rfl) (fun _ _ _ h => h) (Or.inr ⟨by rfl, rfl⟩) (by assumption) ?_
        try simp only [Act.put, List.getElem_toArray, List.getElem_cons_zero, List.getElem_cons_succ, List.setIfInBounds_toArray, List.set_cons_zero, List.set_cons_succ]
        refine wpAnyH_take (i := 9) (v := undef) rfl (by kernel_rfl) (by kernel_rfl) (by kernel_rfl) (fun _ _ _ h => h) (Or.inr ⟨by rfl, rfl⟩) (by assumption) ?_
        try simp only [Act.put, List.getElem_toArray, List.getElem_cons_zero, List.getElem_cons_succ, List.setIfInBounds_toArray, List.set_cons_zero, List.set_cons_succ]
        refine wpAnyH_take (i := 10) (v := undef) rfl (by kernel_rfl) (by kernel_rfl) (by kernel_rfl) (fun _ _ _ h => h) (Or.inr ⟨by rfl, rfl⟩) (by assumption) ?_
        try simp only [Act.put, List.getElem_toArray, List.getElem_cons_zero, List.getElem_cons_succ, List.setIfInBounds_toArray, List.set_cons_zero, List.set_cons_succ]
        refine wpAnyH_take (i := 11) (v := undef) rfl (by kernel_rfl) (by kernel_rfl) (by kernel_rfl) (fun _ _ _ h => h) (Or.inr ⟨by rfl, rfl⟩) (by assumption) ?_
        try simp only [Act.put, List.getElem_toArray, List.getElem_cons_zero, List.getElem_cons_succ, List.setIfInBounds_toArray, List.set_cons_zero, List.set_cons_succ]
        refine wpAnyH_take (i := 12) (v := undef) rfl (by kernel_rfl) (by kernel_rfl) (by kernel_rfl) (fun _ _ _ h => h) (Or.inr ⟨by rfl, rfl⟩) (by assumption) ?_
        try simp only [Act.put, List.getElem_toArray, List.getElem_cons_zero, List.getElem_cons_succ, List.setIfInBounds_toArray, List.set_cons_zero, List.set_cons_succ]
        refine wpAnyH_take (i := 13) (v := undef) rfl (by kernel_rfl) (by kernel_rfl) (by kernel_rfl) (fun _ _ _ h => h) (Or.inr ⟨by rfl, rfl⟩) (by assumption) ?_
        try simp only [Act.put, List.getElem_toArray, List.getElem_cons_zero, List.getElem_cons_succ, List.setIfInBounds_toArray, List.set_cons_zero, List.set_cons_succ]
        refine wpAnyH_take (i := 14) (v := undef) rfl (by kernel_rfl) (by kernel_rfl) (by kernel_rfl) (fun _ _ _ h => h) (Or.inr ⟨by rfl, rfl⟩) (by assumption) ?_
        try simp only [Act.put, List.getElem_toArray, List.getElem_cons_zero, List.getElem_cons_succ, List.setIfInBounds_toArray, List.set_cons_zero, List.set_cons_succ]
        refine wpAnyH_take (i := 15) (v := ?_) rfl (by kernel_rfl) (by kernel_rfl) (by kernel_rfl) (fun _ _ _ h => h) (Or.inl ⟨by rfl, ?_⟩) (by assumption) ?_
        rotate_left
        · intro w hSw; (try dsimp only at hSw); go_simp <;> with_reducible rfl
        try simp only [Act.put, List.getElem_toArray, List.getElem_cons_zero, List.getElem_cons_succ, List.setIfInBounds_toArray, List.set_cons_zero, List.set_cons_succ]
        refine wpAnyH_take (i := 16) (v := ?_) rfl (by kernel_rfl) (by kernel_rfl) (by kernel_rfl) (fun _ _ _ h => h) (Or.inl ⟨by rfl, ?_⟩) (by assumption) ?_
        rotate_left
        · intro w hSw; (try dsimp only at hSw); go_simp <;> with_reducible rfl
        try simp only [Act.put, List.getElem_toArray, List.getElem_cons_zero, List.getElem_cons_succ, List.setIfInBounds_toArray, List.set_cons_zero, List.set_cons_succ]
        refine wpAnyH_take (i := 17) (v := ?_) rfl (by kernel_rfl) (by kernel_rfl) (by kernel_rfl) (fun _ _ _ h => h) (Or.inl ⟨by rfl, ?_⟩) (by assumption) ?_
        rotate_left
        · intro w hSw; (try dsimp only at hSw); go_simp <;> with_reducible rfl
        try simp only [Act.put, List.getElem_toArray, List.getElem_cons_zero, List.getElem_cons_succ, List.setIfInBounds_toArray, List.set_cons_zero, List.set_cons_succ]
        refine wpAnyH_done (by kernel_rfl) ?_ _
        clear hHeld
        go_wp2_with fail
        go_ret
        exact ⟨by rfl, (KW.out.trans L2.out (by simp)).below⟩
      · have d0 : (E != 0) = false := by simpa using h0
        obtain ⟨hn, _⟩ := chk_ok (hE.out.trans h0)
        have hN := (cntd_iff c).1 hn
        have hs8 : c.s ≤ 9223372036854775807 := by omega
        have aW := hid (fun w' (k : Kp [] W w') => cWhere c P a cap l w' (HC.out.kept k) (HS.out.keptNew k) (by omega) hs8)
        have rW := hid (fun w' (k : Kp [] W w') => rWhere c P a cap l w' (HC.out.kept k) (HS.out.keptNew k) (by omega) hs8)
        simp only [Cg.v] at aW rW
        generalize (whC c P l).1 = X1 at *
        generalize (whC c P l).2 = X2 at *
        clear hn hN aX h0
        go_wp2_with fail
        refine wp_region_held_drew (S := fun W' => W'.cell? ⟨w.heap.size, 0, none⟩ = some (.int .i64 c.n) ∧ W'.cell? ⟨w.heap.size, 1, none⟩ = some (.int .i64 c.s) ∧ W'.cell? ⟨w.heap.size, 2, none⟩ = some (.int .i64 c.k) ∧ W'.cell? ⟨w.heap.size, 3, none⟩ = some (.slice c.ta c.tl.length c.tc) ∧ W'.cell? ⟨w.heap.size, 4, none⟩ = some (.slice c.pa c.pl.length c.pc)) (by kernel_rfl) ?_ (fun hHeld => ?_)
        · exact hF.out _ (KR.out.trans (Kp.refl [] wr).drew (by simp))
        have KD : Hid (Kp [] wr wr.drew) := hid (Kp.refl [] wr).drew
        generalize wr.drew = Wd at *
        refine wpAnyH_ready (rs := [0]) (by kernel_rfl) (by simp) ?_
        refine AllReadyH.cons rfl (fun K hK => ?_) AllReadyH.nil
        go_simp
        refine (aA.out Wd).mono ?_
        rintro e u1 ⟨rfl, l1⟩
        (try go_wp2_with fail)
        refine hK.out _ _ ?_ (fun hHeld => ?_)
        · exact hF.out _ (KR.out.trans (KD.out.trans l1 (by simp)) (by simp))
        clear hK K
        try simp only [Act.put, List.getElem_toArray, List.getElem_cons_zero, List.getElem_cons_succ, List.setIfInBounds_toArray, List.set_cons_zero, List.set_cons_succ]
        have L1 := hid (KR.out.trans (KD.out.trans l1 (by simp)) (by simp))
        clear l1
        refine wpAnyH_take (i := 1) (v := ?_) rfl (by kernel_rfl) (by kernel_rfl) (by kernel_rfl) (fun _ _ _ h => h) (Or.inl ⟨by rfl, ?_⟩) (by assumption) ?_
        rotate_left
        · intro w hSw; (try dsimp only at hSw); go_simp <;> with_reducible rfl
        try simp only [Act.put, List.getElem_toArray, List.getElem_cons_zero, List.getElem_cons_succ, List.setIfInBounds_toArray, List.set_cons_zero, List.set_cons_succ]
        refine wpAnyH_take (i := 2) (v := ?_) rfl (by kernel_rfl) (by kernel_rfl) (by kernel_rfl) (fun _ _ _ h => h) (Or.inl ⟨by rfl, ?_⟩) (by assumption) ?_
        rotate_left
        · intro w hSw; (try dsimp only at hSw); go_simp <;> with_reducible rfl
        try simp only [Act.put, List.getElem_toArray, List.getElem_cons_zero, List.getElem_cons_succ, List.setIfInBounds_toArray, List.set_cons_zero, List.set_cons_succ]
        refine wpAnyH_ready (rs := [3]) (by kernel_rfl) (by simp) ?_
        refine AllReadyH.cons rfl (fun K hK => ?_) AllReadyH.nil
        go_simp
        refine (aK.out _ L1.out).mono ?_
        rintro e u2 ⟨rfl, l2⟩
        (try go_wp2_with fail)
        refine hK.out _ _ ?_ (fun hHeld => ?_)
        · exact hF.out _ (L1.out.trans l2 (by simp))
        clear hK K
        try simp only [Act.put, List.getElem_toArray, List.getElem_cons_zero, List.getElem_cons_succ, List.setIfInBounds_toArray, List.set_cons_zero, List.set_cons_succ]
        have L2 := hid (L1.out.trans l2 (by simp))
        clear l2
        refine wpAnyH_take (i := 4) (v := ?_) rfl (by kernel_rfl) (by kernel_rfl) (by kernel_rfl) (fun _ _ _ h => h) (Or.inl ⟨by rfl, ?_⟩) (by assumption) ?_
        rotate_left
        · intro w hSw; (try dsimp only at hSw); go_simp <;> with_reducible rfl
        try simp only [Act.put, List.getElem_toArray, List.getElem_cons_zero, List.getElem_cons_succ, List.setIfInBounds_toArray, List.set_cons_zero, List.set_cons_succ]
        try simp only [d0]
        refine wpAnyH_take (i := 5) (v := ?_) rfl (by kernel_rfl) (by kernel_rfl) (by kernel_rfl) (fun _ _ _ h => h) (Or.inl ⟨by rfl, ?_⟩) (by assumption) ?_
        rotate_left
        · intro w hSw; (try dsimp only at hSw); go_simp <;> with_reducible rfl
        try simp only [Act.put, List.getElem_toArray, List.getElem_cons_zero, List.getElem_cons_succ, List.setIfInBounds_toArray, List.set_cons_zero, List.set_cons_succ]
        refine wpAnyH_take (i := 6) (v := ?_) rfl (by kernel_rfl) (by kernel_rfl) (by kernel_rfl) (fun _ _ _ h => h) (Or.inl ⟨by rfl, ?_⟩) (by assumption) ?_
        rotate_left
        · intro w hSw; (try dsimp only at hSw); go_simp <;> with_reducible rfl
        try simp only [Act.put, List.getElem_toArray, List.getElem_cons_zero, List.getElem_cons_succ, List.setIfInBounds_toArray, List.set_cons_zero, List.set_cons_succ]
        refine wpAnyH_take (i := 7) (v := ?_) rfl (by kernel_rfl) (by kernel_rfl) (by kernel_rfl) (fun _ _ _ h => h) (Or.inl ⟨by rfl, ?_⟩) (by assumption) ?_
        rotate_left
        · intro w hSw; (try dsimp only at hSw); go_simp <;> with_reducible rfl
        try simp only [Act.put, List.getElem_toArray, List.getElem_cons_zero, List.getElem_cons_succ, List.setIfInBounds_toArray, List.set_cons_zero, List.set_cons_succ]
        refine wpAnyH_take (i := 8) (v := ?_) rfl (by kernel_rfl) (by kernel_rfl) (by kernel_rfl) (fun _ _ _ h => h) (Or.inl ⟨by rfl, ?_⟩) (by assumption) ?_
        rotate_left
        · intro w hSw; (try dsimp only at hSw); go_simp <;> with_reducible rfl
        try simp only [Act.put, List.getElem_toArray, List.getElem_cons_zero, List.getElem_cons_succ, List.setIfInBounds_toArray, List.set_cons_zero, List.set_cons_succ]
        refine wpAnyH_take (i := 10) (v := ?_) rfl (by kernel_rfl) (by kernel_rfl) (by kernel_rfl) (fun _ _ _ h => h) (Or.inl ⟨by rfl, ?_⟩) (by assumption) ?_
        rotate_left
        · intro w hSw; (try dsimp only at hSw); go_simp <;> with_reducible rfl
        try simp only [Act.put, List.getElem_toArray, List.getElem_cons_zero, List.getElem_cons_succ, List.setIfInBounds_toArray, List.set_cons_zero, List.set_cons_succ]
        refine wpAnyH_take (i := 11) (v := ?_) rfl (by kernel_rfl) (by kernel_rfl) (by kernel_rfl) (fun _ _ _ h => h) (Or.inl ⟨by rfl, ?_⟩) (by assumption) ?_
        rotate_left
        · intro w hSw; (try dsimp only at hSw); go_simp <;> with_reducible rfl
        try simp only [Act.put, List.getElem_toArray, List.getElem_cons_zero, List.getElem_cons_succ, List.setIfInBounds_toArray, List.set_cons_zero, List.set_cons_succ]
        refine wpAnyH_take (i := 12) (v := ?_) rfl (by kernel_rfl) (by kernel_rfl) (by kernel_rfl) (fun _ _ _ h => h) (Or.inl ⟨by rfl, ?_⟩) (by assumption) ?_
        rotate_left
        · intro w hSw; (try dsimp only at hSw); go_simp <;> with_reducible rfl
        try simp only [Act.put, List.getElem_toArray, List.getElem_cons_zero, List.getElem_cons_succ, List.setIfInBounds_toArray, List.set_cons_zero, List.set_cons_succ]
        refine wpAnyH_ready (rs := [9]) (by kernel_rfl) (by simp) ?_
        refine AllReadyH.cons rfl (fun K hK => ?_) AllReadyH.nil
        go_simp
        refine (aW.out _ L2.out).mono ?_
        rintro e u3 ⟨rfl, l3⟩
        (try go_wp2_with fail)
        refine hK.out _ _ ?_ (fun hHeld => ?_)
        · exact hF.out _ (L2.out.trans l3 (by simp))
        clear hK K
        try simp only [Act.put, List.getElem_toArray, List.getElem_cons_zero, List.getElem_cons_succ, List.setIfInBounds_toArray, List.set_cons_zero, List.set_cons_succ]
        have L3 := hid (L2.out.trans l3 (by simp))
        clear l3
        refine wpAnyH_ready (rs := [13]) (by kernel_rfl) (by simp) ?_
        refine AllReadyH.cons rfl (fun K hK => ?_) AllReadyH.nil
        go_simp
        refine (rW.out _ L3.out).mono ?_
        rintro e u4 ⟨rfl, l4⟩
        (try go_wp2_with fail)
        refine hK.out _ _ ?_ (fun hHeld => ?_)
        · exact hF.out _ (L3.out.trans l4 (by simp))
        clear hK K
        try simp only [Act.put, List.getElem_toArray, List.getElem_cons_zero, List.getElem_cons_succ, List.setIfInBounds_toArray, List.set_cons_zero, List.set_cons_succ]
        have L4 := hid (L3.out.trans l4 (by simp))
        clear l4
        refine wpAnyH_take (i := 14) (v := ?_) rfl (by kernel_rfl) (by kernel_rfl) (by kernel_rfl) (fun _ _ _ h => h) (Or.inl ⟨by rfl, ?_⟩) (by assumption) ?_
        rotate_left
        · intro w hSw; (try dsimp only at hSw); go_simp <;> with_reducible rfl
        try simp only [Act.put, List.getElem_toArray, List.getElem_cons_zero, List.getElem_cons_succ, List.setIfInBounds_toArray, List.set_cons_zero, List.set_cons_succ]
        refine wpAnyH_take (i := 15) (v := ?_) rfl (by kernel_rfl) (by kernel_rfl) (by kernel_rfl) (fun _ _ _ h => h) (Or.inl ⟨by rfl, ?_⟩) (by assumption) ?_
        rotate_left
        · intro w hSw; (try dsimp only at hSw); go_simp <;> with_reducible rfl
        try simp only [Act.put, List.getElem_toArray, List.getElem_cons_zero, List.getElem_cons_succ, List.setIfInBounds_toArray, List.set_cons_zero, List.set_cons_succ]
        refine wpAnyH_take (i := 16) (v := ?_) rfl (by kernel_rfl) (by kernel_rfl) (by kernel_rfl) (fun _ _ _ h => h) (Or.inl ⟨by rfl, ?_⟩) (by assumption) ?_
        rotate_left
        · intro w hSw; (try dsimp only at hSw); go_simp <;> with_reducible rfl
        try simp only [Act.put, List.getElem_toArray, List.getElem_cons_zero, List.getElem_cons_succ, List.setIfInBounds_toArray, List.set_cons_zero, List.set_cons_succ]
        refine wpAnyH_take (i := 17) (v := ?_) rfl (by kernel_rfl) (by kernel_rfl) (by kernel_rfl) (fun _ _ _ h => h) (Or.inl ⟨by rfl, ?_⟩) (by assumption) ?_
        rotate_left
        · intro w hSw; (try dsimp only at hSw); go_simp <;> with_reducible rfl
        try simp only [Act.put, List.getElem_toArray, List.getElem_cons_zero, List.getElem_cons_succ, List.setIfInBounds_toArray, List.set_cons_zero, List.set_cons_succ]
        refine wpAnyH_done (by kernel_rfl) ?_ _
        clear hHeld
        go_wp2_with fail
        go_ret
        exact ⟨by rfl, (KW.out.trans L4.out (by simp)).below⟩
end Go.Proofs.Ytckicbaidbgonaa
end

section
namespace Go.Proofs.Ytckicbaidbgonaa
open Go.ChangeShapes Go.WideShapes Go.ChangeAt Go.RowKit Go.Hay
set_option linter.unusedVariables false
set_option linter.unusedSimpArgs false

theorem cellsX1 : Try.prog.cellsOf 3 = 1 := by kernel_rfl
theorem cellsX2 : Try.prog.cellsOf 4 = 1 := by kernel_rfl
theorem cellsX3 : Try.prog.cellsOf 2 = 1 := by kernel_rfl
theorem cellsX4 : Try.prog.cellsOf 9 = 1 := by kernel_rfl
theorem cellsX5 : Try.prog.cellsOf 88 = 4 := by kernel_rfl
theorem bytesX5 : Try.prog.bytesOf 88 = 40 := by kernel_rfl
instance : Inhabited Val := ⟨⟨0, false, 0, ⟨#[]⟩⟩⟩
section
variable {H : Type} {enc : TypeId × Value → H} {W : World} {a : Option Addr} {len cap : Nat} {d : DataW H} {ps : List MemPlace}
theorem openV4 {fuel : Nat} {c0 c1 c2 c3 : Value} {x : DataW H × List MemPlace} (h : DataW.trod enc Try.prog W 0 (fun _ => true) true fuel 88 [c0, c1, c2, c3] = some x) :
    ∃ t : Val, c0 = .int .i64 t.k ∧ c1 = .bool t.b ∧ c2 = .int .i64 t.n ∧ c3 = .string t.t := by
  obtain ⟨xs, n, _, rfl, _, hlen, hf⟩ := DataW.trod_struct Try.underlying88 h
  match xs, hlen with
  | [y0, y1, y2, y3], _ =>
    have h0 := hf 0 _ rfl
    have h1 := hf 1 _ rfl
    have h2 := hf 2 _ rfl
    have h3 := hf 3 _ rfl
    simp [cellsX1, cellsX2, cellsX3, cellsX4] at h0 h1 h2 h3
    obtain ⟨k, e0, _, w0⟩ := DataW.trod_int Try.underlying3 h0
    obtain ⟨b, e1, _⟩ := DataW.trod_bool Try.underlying4 h1
    obtain ⟨n2, e2, _, w2⟩ := DataW.trod_int Try.underlying2 h2
    obtain ⟨s, e3, _, w3⟩ := DataW.trod_string Try.underlying9 h3
    simp at e0 e1 e2 e3
    exact ⟨⟨k, b, n2, s⟩, e0, e1, e2, e3⟩
theorem openXv (h : DataW.Trod enc Try.prog W 0 (fun _ => true) true 46 (.slice a len cap) d ps) :
    ∃ l : List Val, len = l.length ∧ VE.See W a l ∧ (∀ y ∈ l, True) ∧ l.length ≤ cap ∧ cap ≤ maxLen ∧ (a = none → cap = 0) ∧ (Fit 46 d → cap * 40 ≤ 140737488351232 ∧ ∀ y ∈ l, True) ∧ (l.map fun _ => 0).sum ≤ Rows.uptoBulk d ∧ cap + 1 ≤ Rows.uptoBulk d :=
  openEls VE Try.underlying46 cellsX5 40 bytesX5 (fun _ => True) (fun _ => True) (fun _ => 0) (fun fuel cs x hx hcs => by
    match cs, hcs with
    | [c0, c1, c2, c3], _ =>
      obtain ⟨t, e0, e1, e2, e3⟩ := openV4 hx
      subst e0 e1 e2 e3
      exact ⟨t, trivial, rfl, fun _ => trivial, Nat.zero_le _⟩) h
end
end Go.Proofs.Ytckicbaidbgonaa
end

section
namespace Go.Proofs.Ytckicbaidbgonaa
open Go.ChangeShapes Go.WideShapes Go.ChangeAt Go.RowKit Go.Hay
set_option linter.unusedVariables false
set_option linter.unusedSimpArgs false

theorem le_sum_map {α : Type} (f : α → Nat) : ∀ (l : List α) (x : α), x ∈ l → f x ≤ (l.map f).sum
  | [], _, h => by cases h
  | y :: l, x, h => by
    rw [List.map_cons, List.sum_cons]
    rcases List.mem_cons.1 h with rfl | h
    · omega
    · have := le_sum_map f l x h
      omega
section
variable {H : Type} {enc : TypeId × Value → H} {W : World} {a : Option Addr} {len cap : Nat} {d : DataW H} {ps : List MemPlace}
theorem openIntsB {fuel : Nat} {v : Value} {x : DataW H × List MemPlace} (h : DataW.trod enc Try.prog W 0 (fun _ => true) true fuel 40 [v] = some x) :
    ∃ (a : Option Addr) (cap : Nat) (l : List Int), v = .slice a l.length cap ∧ IntE.See W a l ∧ l.length ≤ cap ∧ cap ≤ maxLen ∧ l.length ≤ Rows.uptoBulk x.1 := by
  have hv : ∃ a len cap, v = .slice a len cap := by
    rcases Go.Deep.open_slice Try.underlying40 h with ⟨hcs, _⟩ | ⟨a, len, cap, _, _, _, _, hcs, _⟩
    · exact ⟨none, 0, 0, by simpa using hcs⟩
    · exact ⟨_, _, _, by simpa using hcs⟩
  obtain ⟨a, len, cap, rfl⟩ := hv
  obtain ⟨l, rfl, hs, _, hl, hm, _, _, _, hb⟩ := openEls IntE (W := W) (a := a) (len := len) (cap := cap) (d := x.1) (ps := x.2) Try.underlying40 cellsIn1 8 bytesIn1 (fun _ => True) (fun _ => True) (fun _ => 0) (fun fuel cs x hx hcs => by
    obtain ⟨v, rfl⟩ : ∃ v, cs = [v] := by
      match cs, hcs with
      | [v], _ => exact ⟨v, rfl⟩
    obtain ⟨n, rfl⟩ := openIntC hx
    exact ⟨n, trivial, rfl, fun _ => trivial, Nat.zero_le _⟩) ⟨fuel, h⟩
  exact ⟨a, cap, l, rfl, hs, hl, hm, by omega⟩
theorem openPjB {fuel : Nat} {cs : List Value} {x : DataW H × List MemPlace} (h : DataW.trod enc Try.prog W 0 (fun _ => true) true fuel 48 cs = some x) (hcs : cs.length = 6) : ∃ y : Pj, y.ok W ∧ cs = PjE.c y ∧ y.cl.length + y.sl.length ≤ Rows.uptoBulk x.1 := by
  obtain ⟨c0, c1, c2, c3, c4, c5, rfl⟩ : ∃ c0 c1 c2 c3 c4 c5, cs = [c0, c1, c2, c3, c4, c5] := by
    match cs, hcs with
    | [c0, c1, c2, c3, c4, c5], _ => exact ⟨c0, c1, c2, c3, c4, c5, rfl⟩
  obtain ⟨xs, n, _, rfl, _, hlen, hf⟩ := DataW.trod_struct Try.underlying48 h
  match xs, hlen with
  | [y0, y1, y2, y3, y4, y5], _ =>
    have h0 := hf 0 _ rfl
    have h1 := hf 1 _ rfl
    have h2 := hf 2 _ rfl
    have h3 := hf 3 _ rfl
    have h4 := hf 4 _ rfl
    have h5 := hf 5 _ rfl
    simp [cellsSt1, cellsSIn, cellsIn1] at h0 h1 h2 h3 h4 h5
    obtain ⟨s, e0, _, w0⟩ := DataW.trod_string Try.underlying9 h0
    simp at e0
    obtain ⟨tb, e1⟩ := openIntC h1
    obtain ⟨ca, cc, cl, e2, hc2, hl2, hm2, hb2⟩ := openIntsB h2
    obtain ⟨sa, sc, sl, e3, hc3, hl3, hm3, hb3⟩ := openIntsB h3
    obtain ⟨by_, e4⟩ := openIntC h4
    obtain ⟨sh, e5⟩ := openIntC h5
    subst e0 e1 e2 e3 e4 e5
    have hmx : maxLen ≤ 9223372036854775807 := by unfold maxLen; omega
    refine ⟨⟨s, tb, ca, cc, cl, sa, sc, sl, by_, sh⟩, ⟨hc2, hc3, hl2, hl3, (show cc ≤ 9223372036854775807 by omega), (show sc ≤ 9223372036854775807 by omega)⟩, rfl, ?_⟩
    simp only [Rows.uptoBulk, List.map_cons, List.map_nil, Rows.uptoBulkAll]
    omega
set_option maxRecDepth 100000 in
theorem openCatB {base : Nat} {v : Value} (hv : Value.okWide Try.prog W .any base 25 v) (h : DataW.Trod enc Try.prog W 0 (fun _ => true) true 25 v d ps) : ∃ c : Cg, v = c.v ∧ c.ok W ∧ c.pl.length ≤ Rows.uptoBulk d ∧ ∀ p ∈ c.pl, p.cl.length + p.sl.length ≤ Rows.uptoBulk d := by
  obtain ⟨cs, rfl, hsz⟩ := okWide_struct Try.underlying25 hv
  rw [cellsCg] at hsz
  obtain ⟨fuel, hf⟩ := h
  obtain ⟨l⟩ := cs
  match l, hsz, hf with
  | [c0, c1, c2, c3, c4], _, hf =>
    have hf' : DataW.trod enc Try.prog W 0 (fun _ => true) true fuel 25 [c0, c1, c2, c3, c4] = some (d, ps) := hf
    obtain ⟨xs, n, _, ed, _, hlen, hff⟩ := DataW.trod_struct Try.underlying25 hf'
    match xs, hlen with
    | [y0, y1, y2, y3, y4], _ =>
      have h0 := hff 0 _ rfl
      have h1 := hff 1 _ rfl
      have h2 := hff 2 _ rfl
      have h3 := hff 3 _ rfl
      have h4 := hff 4 _ rfl
      simp [cellsIn1, cellsSTa, cellsSPr] at h0 h1 h2 h3 h4
      obtain ⟨n0, e0⟩ := openIntC h0
      obtain ⟨n1, e1⟩ := openIntC h1
      obtain ⟨n2, e2⟩ := openIntC h2
      have hv3 : ∃ a len cap, c3 = .slice a len cap := by
        rcases Go.Deep.open_slice Try.underlying22 h3 with ⟨hcs, _⟩ | ⟨a, len, cap, _, _, _, _, hcs, _⟩
        · exact ⟨none, 0, 0, by simpa using hcs⟩
        · exact ⟨_, _, _, by simpa using hcs⟩
      have hv4 : ∃ a len cap, c4 = .slice a len cap := by
        rcases Go.Deep.open_slice Try.underlying23 h4 with ⟨hcs, _⟩ | ⟨a, len, cap, _, _, _, _, hcs, _⟩
        · exact ⟨none, 0, 0, by simpa using hcs⟩
        · exact ⟨_, _, _, by simpa using hcs⟩
      obtain ⟨ta, tn, tc, rfl⟩ := hv3
      obtain ⟨pa, pn, pc, rfl⟩ := hv4
      obtain ⟨tl, rfl, ts, tok, tcl, tm, _⟩ := openEls TbE (W := W) (a := ta) (len := tn) (cap := tc) (d := y3.1) (ps := y3.2) Try.underlying22 cellsTa 40 bytesTa (fun y => y.ok W) (fun _ => True) (fun _ => 0) (fun fuel cs x hx hcs => by
        obtain ⟨y, h1, h2⟩ := openTbC hx hcs
        exact ⟨y, h1, h2, fun _ => trivial, Nat.zero_le _⟩) ⟨_, h3⟩
      obtain ⟨pl, rfl, ps', pok, pcl, pm, _, _, psum, pcap⟩ := openEls PjE (W := W) (a := pa) (len := pn) (cap := pc) (d := y4.1) (ps := y4.2) Try.underlying23 cellsPr 88 bytesPr (fun y => y.ok W) (fun _ => True) (fun y => y.cl.length + y.sl.length) (fun fuel cs x hx hcs => by
        obtain ⟨y, h1, h2, h3⟩ := openPjB hx hcs
        exact ⟨y, h1, h2, fun _ => trivial, h3⟩) ⟨_, h4⟩
      subst e0 e1 e2
      have hmx : maxLen ≤ 9223372036854775807 := by unfold maxLen; omega
      have hd : Rows.uptoBulk y4.1 ≤ Rows.uptoBulk d := by
        have e := (Prod.mk.inj ed).1
        rw [e]
        simp only [Rows.uptoBulk, List.map_cons, List.map_nil, Rows.uptoBulkAll]
        omega
      refine ⟨⟨n0, n1, n2, ta, tc, tl, pa, pc, pl⟩, rfl, ⟨ts, tok, tcl, (show tc ≤ 9223372036854775807 by omega), ps', pok, pcl, (show pc ≤ 9223372036854775807 by omega)⟩, (show pl.length ≤ _ by omega), fun p hp => ?_⟩
      have h1 := le_sum_map (fun y : Pj => y.cl.length + y.sl.length) pl p hp
      omega
end
end Go.Proofs.Ytckicbaidbgonaa
end

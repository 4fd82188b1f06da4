/- The law: a list that is gone through one by one. -/
import Derived.Test.YtcmfhejjndlnnaaLick
namespace Go.Proofs.Ytcmfhejjndlnnaa
open Go.RowKit Go.Hay Go.Shelf
attribute [local go_sem] Oper.semAt_some
set_option linter.unusedVariables false
set_option linter.unusedSimpArgs false

theorem rdOf {A B C D E F : Prop} {W : World} {p : Nat} {Dl : List Nat} {bs : List UInt8} {e : Int} (h : A ∧ B ∧ C ∧ D ∧ E ∧ F ∧ Rd W p Dl bs e) : Rd W p Dl bs e := h.2.2.2.2.2.2
/-- What a call hands back whose one result lies in a box. -/
theorem results_cell_one {fn : Func} {t : Tmp} {tmps : Array Value} {w : World} {g : Nat} {v : Value} (h : fn.results = #[.cell t 4]) (hp : tmps.getD t undef = .pointer (some ⟨g, 0, none⟩)) (hc : w.cell? ⟨g, 0, none⟩ = some v) :
    (results fn tmps).run Try.prog w = .ok v w := by
  have hp' : tmps[t]?.getD undef = .pointer (some ⟨g, 0, none⟩) := by simpa using hp
  simp [results, h, hp', asAddr, loadVar, hc, go_sem]

set_option maxHeartbeats 8000000 in
set_option maxRecDepth 100000 in
theorem itemsWalk (b : Option Addr) (nb cb : Nat) (full : List UInt8) (most stop : Int) (w : World) (hs : Sees w b full) (hnb : nb = full.length) (hl : full.length ≤ cb) (hm : cb ≤ maxLen) (hb : full.length ≤ 1048576) (hm0 : -9223372036854775808 ≤ most) (hm1 : most ≤ 9223372036854775807) :
    Calls Try.prog 4 #[.slice b nb cb, .int .i64 most, .int .i64 stop] w fun e w' => e = .returned (.bool true) ∧ Below w.heap.size w w' := by
  subst hnb
  refine (callsIn_wide (n := 4)).1 ?_
  refine callsIn_of_wp_marks Try.func4 rfl trivial ?_ rfl
  simp only [Try.ntmps4, List.size_toArray, List.length_cons, List.length_nil, Nat.reduceAdd, Nat.reduceSub, Array.replicate_succ, Array.replicate_zero, List.push_toArray, List.append_toArray, List.nil_append, List.cons_append]
  gi_wp2_with fail
  have kW : Kp [] w ((w.alloc (.cells #[.int .i64 stop] 3)).alloc (.cells #[.bool false] 4)) := ((Kp.refl _ _).alloc _).alloc _
  refine ⟨trivial, (callsIn_wide.2 (rRead b full.length cb full _ (hs.kept kW (by simp)) rfl (by omega))).mono ?_⟩
  rintro e w1 ⟨p, D, rfl, hrd, k1, hp, hD⟩
  have kw1 := kW.trans k1 (by simp)
  gi_wp2_with fail
  refine ⟨trivial, (callsIn_wide.2 (cAlive _)).mono ?_⟩
  rintro e w2 ⟨rfl, j2⟩
  have kA : Kp [] w1 (w1.alloc (.cells #[.pointer (some ⟨p, 0, none⟩)] 23)) := (Kp.refl _ _).alloc _
  have kw2 : Kp [] w w2 := (kw1.trans kA (by simp)).trans j2 (by simp)
  have hsz0 : ((w.alloc (.cells #[.int .i64 stop] 3)).alloc (.cells #[.bool false] 4)).heap.size = w.heap.size + 2 := by simp
  rw [hsz0] at hp hD
  have hw1 : w.heap.size + 2 ≤ w1.heap.size := by have := k1.size; omega
  have c5 : w2.cell? ⟨w.heap.size, 0, none⟩ = some (.int .i64 stop) := (j2.cell (p := ⟨w.heap.size, 0, none⟩) (by simp; omega) (by simp)).trans (oldCell ((k1.cell (p := ⟨w.heap.size, 0, none⟩) (by simp; omega) (by simp)).trans (oldCell (newCell _ _ _ rfl) _)) _)
  have c6 : w2.cell? ⟨w.heap.size + 1, 0, none⟩ = some (.bool false) := (j2.cell (p := ⟨w.heap.size + 1, 0, none⟩) (by simp; omega) (by simp)).trans (oldCell ((k1.cell (p := ⟨w.heap.size + 1, 0, none⟩) (by simp) (by simp)).trans (newCell _ _ _ (by simp))) _)
  have f6 : w2.frozen? ⟨w.heap.size + 1, 0, none⟩ = false := (j2.frozen (p := ⟨w.heap.size + 1, 0, none⟩) (by simp; omega) (by simp)).trans (((kA.frozen (p := ⟨w.heap.size + 1, 0, none⟩) (by simp; omega) (by simp)).trans (k1.frozen (p := ⟨w.heap.size + 1, 0, none⟩) (by simp) (by simp))).trans (by simp))
  have c7 : w2.cell? ⟨w1.heap.size, 0, none⟩ = some (.pointer (some ⟨p, 0, none⟩)) := (j2.cell (p := ⟨w1.heap.size, 0, none⟩) (by simp) (by simp)).trans (newCell _ _ _ rfl)
  have rd2 : Rd w2 p D full 0 := (hrd.kept kA (by simp) (by simp)).kept j2 (by simp) (by simp)
  have hp2 := hrd.lt
  have hq2 : w1.heap.size < w2.heap.size := by have := j2.size; simp at this; omega
  clear hrd k1 j2 kw1 kA kW hsz0
  have hLd := cListed b cb full most w2 (hs.kept kw2 (by simp)) hl hm (by omega) hm0 hm1
  generalize w1.heap.size = q7 at *
  gi_wp2_with fail
  refine ⟨trivial, (callsIn_wide.2 hLd).mono ?_⟩
  rintro e w4 ⟨N, bs1, e1, ML, at2, e2, mv, hc, hlm, hat, rfl, hrow, j4⟩
  obtain ⟨av, cv, rfl⟩ := rowLshape hrow
  have kw4 : Kp [] w w4 := kw2.trans j4 (by simp)
  have d5 : w4.cell? ⟨w.heap.size, 0, none⟩ = _ := (j4.cell (p := ⟨w.heap.size, 0, none⟩) (World.block_lt_of_cell? _ _ c5) (by simp)).trans c5
  have d6 : w4.cell? ⟨w.heap.size + 1, 0, none⟩ = _ := (j4.cell (p := ⟨w.heap.size + 1, 0, none⟩) (World.block_lt_of_cell? _ _ c6) (by simp)).trans c6
  have g6 : w4.frozen? ⟨w.heap.size + 1, 0, none⟩ = _ := (j4.frozen (p := ⟨w.heap.size + 1, 0, none⟩) (World.block_lt_of_cell? _ _ c6) (by simp)).trans f6
  have d7 : w4.cell? ⟨q7, 0, none⟩ = _ := (j4.cell (p := ⟨q7, 0, none⟩) (World.block_lt_of_cell? _ _ c7) (by simp)).trans c7
  have rd4 : Rd w4 p D full 0 := rd2.kept j4 (by simp) (by simp)
  have hw4 := j4.size
  clear c5 c6 f6 c7 rd2 hLd kw2 j4
  have x7 : (((w4.alloc (.cells #[.slice av ML.length cv] 26)).alloc (.cells #[.slice b full.length cb, .int .i64 at2, .int .i64 e2] 31)).alloc (.cells #[.int .i64 0] 3)).cell? ⟨q7, 0, none⟩ = some (.pointer (some ⟨p, 0, none⟩)) := oldCell (oldCell (oldCell d7 _) _) _
  gi_wp2_with fail
  refine ⟨trivial, (callsIn_wide.2 (cItems p most _)).mono ?_⟩
  rintro e w5 ⟨rfl, k5, hsz, z1, z2, z3⟩
  have hsx : (((w4.alloc (.cells #[.slice av ML.length cv] 26)).alloc (.cells #[.slice b full.length cb, .int .i64 at2, .int .i64 e2] 31)).alloc (.cells #[.int .i64 0] 3)).heap.size = w4.heap.size + 1 + 1 + 1 := by simp
  rw [hsx] at hsz z1 z2 z3
  have kX : Kp [] w4 (((w4.alloc (.cells #[.slice av ML.length cv] 26)).alloc (.cells #[.slice b full.length cb, .int .i64 at2, .int .i64 e2] 31)).alloc (.cells #[.int .i64 0] 3)) := (((Kp.refl _ _).alloc _).alloc _).alloc _
  have k45 : Kp [] w4 w5 := kX.trans k5 (by simp)
  have kw5 : Kp [] w w5 := kw4.trans k45 (by simp)
  have e5 : w5.cell? ⟨w.heap.size, 0, none⟩ = _ := (k45.cell (p := ⟨w.heap.size, 0, none⟩) (World.block_lt_of_cell? _ _ d5) (by simp)).trans d5
  have e6 : w5.cell? ⟨w.heap.size + 1, 0, none⟩ = _ := (k45.cell (p := ⟨w.heap.size + 1, 0, none⟩) (World.block_lt_of_cell? _ _ d6) (by simp)).trans d6
  have g6' : w5.frozen? ⟨w.heap.size + 1, 0, none⟩ = _ := (k45.frozen (p := ⟨w.heap.size + 1, 0, none⟩) (World.block_lt_of_cell? _ _ d6) (by simp)).trans g6
  have e7 : w5.cell? ⟨q7, 0, none⟩ = _ := (k45.cell (p := ⟨q7, 0, none⟩) (World.block_lt_of_cell? _ _ d7) (by simp)).trans d7
  have e8 : w5.cell? ⟨w4.heap.size, 0, none⟩ = some (.slice av ML.length cv) := (k5.cell (p := ⟨w4.heap.size, 0, none⟩) (by simp; omega) (by simp)).trans (oldCell (oldCell (newCell _ _ _ rfl) _) _)
  have b9 : Box3 w5 (w4.heap.size + 1) (.slice b full.length cb) (.int .i64 at2) (.int .i64 e2) := by
    have h := Box3.new (w4.alloc (.cells #[.slice av ML.length cv] 26)) (.slice b full.length cb) (.int .i64 at2) (.int .i64 e2) 31
    rw [World.size_alloc] at h
    exact (h.kept (kpNewC _ _) (by simp)).kept k5 (by simp)
  have e10 : w5.cell? ⟨w4.heap.size + 1 + 1, 0, none⟩ = some (.int .i64 0) := (k5.cell (p := ⟨w4.heap.size + 1 + 1, 0, none⟩) (by simp) (by simp)).trans (newCell _ _ _ (by simp))
  have f10 : w5.frozen? ⟨w4.heap.size + 1 + 1, 0, none⟩ = false := (k5.frozen (p := ⟨w4.heap.size + 1 + 1, 0, none⟩) (by simp) (by simp)).trans (by have := World.frozen?_alloc_new ((w4.alloc (.cells #[.slice av ML.length cv] 26)).alloc (.cells #[.slice b full.length cb, .int .i64 at2, .int .i64 e2] 31)) #[.int .i64 0] 3 0; simpa using this)
  have rd5 : Rd w5 p D full 0 := rd4.kept k45 (by simp) (by simp)
  have hdl := rd4.dlt
  have hpl := rd4.lt
  have h7l := World.block_lt_of_cell? _ _ d7
  have h6l := World.block_lt_of_cell? _ _ d6
  dsimp only at h7l h6l
  clear d5 d6 g6 d7 rd4 x7 kX k5 hsx
  have hJs : ∀ j ∈ p :: (w4.heap.size + 1 + 1 + 1) :: (w4.heap.size + 1 + 1 + 1 + 1) :: (w4.heap.size + 1 + 1 + 1 + 2) :: D, j < w5.heap.size ∧ j ≠ w4.heap.size + 1 + 1 := by
    intro j hj
    rcases List.mem_cons.1 hj with rfl | hj
    · omega
    rcases List.mem_cons.1 hj with rfl | hj
    · omega
    rcases List.mem_cons.1 hj with rfl | hj
    · omega
    rcases List.mem_cons.1 hj with rfl | hj
    · omega
    · have := hdl j hj; omega
  have hI0 : ItemI p (w4.heap.size + 1 + 1) D full most w w5 ⟨0, 0, full, 0, false, none⟩ w5 := ⟨[], .inl ⟨rfl, rfl⟩, e10, f10, CK.refl _ _, rd5, kw5, Nat.le_refl _, fun x out h => by cases h⟩
  have hseq := itemsSeq (4 - 1) (by omega) p (w4.heap.size + 1 + 1 + 1) (w4.heap.size + 1 + 1 + 1 + 1) (w4.heap.size + 1 + 1 + 1 + 2) D most hm0 hm1 full 0 w5 z1 z2 z3 rd5 ⟨by omega, by omega, by omega⟩ (fun N bs1 e1 h => by have := countS_le h; omega)
  clear z1 z2 z3 rd5 e10 f10
  gi_wp2_with fail
  refine wpRangeT rfl (by omega) (gf := 26) (lb := #[.pointer (some ⟨w4.heap.size + 1 + 1 + 1, 0, none⟩), .pointer (some ⟨w4.heap.size + 1 + 1 + 1 + 1, 0, none⟩), .pointer (some ⟨w4.heap.size + 1 + 1 + 1 + 2, 0, none⟩)]) rfl trivial (enters_of Try.func26 (by kernel_rfl) rfl)
    hseq (fun _ => rfl) Away.trans (Away.alloc _) (fun W l o o' hl _ _ => Away.putObj (fun j hj => (hJs j hj).1) W l o' hl) ⟨[], Kp.refl _ _, by simp⟩ (fun s s' A B ht => keepsTurn ht _ (by omega))
    (ItemI p (w4.heap.size + 1 + 1) D full most w w5) (ItemX (w.heap.size + 1) w) (itemOwn p _ D full most w w5 _ kw5.size) (fun c => itemOwnX _ w c _ kw5.size) (itemTurn p _ D full most w w5 (by omega) (by omega)) hI0
    (fun x => { tmps := #[.slice b full.length cb, .int .i64 most, .int .i64 stop, undef, undef, .pointer (some ⟨w.heap.size, 0, none⟩), .pointer (some ⟨w.heap.size + 1, 0, none⟩), .pointer (some ⟨q7, 0, none⟩), .pointer (some ⟨w4.heap.size, 0, none⟩), .pointer (some ⟨w4.heap.size + 1, 0, none⟩), .pointer (some ⟨w4.heap.size + 1 + 1, 0, none⟩), .int .i64 x.1, x.2.1, .slice b full.length cb, .pointer (some ⟨p, 0, none⟩), .pointer (some ⟨p, 0, none⟩), .bool false, .bool false, .bool true, .bool false, .bool false, .tuple #[.slice av ML.length cv, .agg #[.slice b full.length cb, .int .i64 at2, .int .i64 e2]], .slice b full.length cb, .int .i64 most, .tuple #[.slice av ML.length cv, .agg #[.slice b full.length cb, .int .i64 at2, .int .i64 e2]], .slice av ML.length cv, .agg #[.slice b full.length cb, .int .i64 at2, .int .i64 e2], .pointer (some ⟨p, 0, none⟩), .int .i64 most, .func (.func 26) #[] #[.pointer (some ⟨w4.heap.size + 1 + 1 + 1, 0, none⟩), .pointer (some ⟨w4.heap.size + 1 + 1 + 1 + 1, 0, none⟩), .pointer (some ⟨w4.heap.size + 1 + 1 + 1 + 2, 0, none⟩)], .int .i64 x.1, x.2.1, undef, undef, undef, undef, undef, undef, undef, undef, undef, undef, undef, undef, undef, undef, undef, undef, undef, undef, undef, undef, undef, undef, undef, undef, undef, undef, undef, undef, undef, undef, undef, undef, undef, undef, undef, undef, undef, undef, undef, undef, undef, undef, undef, undef, undef, undef, undef, undef], defers := [] }) ?assign ?body ?done ?stop
  case assign =>
    intro l x W C hC
    gi_wp2_with fail
    exact hC
  case body =>
    rintro l s ⟨i, xv, out⟩ W ⟨L, h1, h2, h3, h4, h5, h6, h7, h8⟩ ⟨he, hpe, hxk⟩
    dsimp only at hpe hxk
    subst hxk
    have hrx := h8 _ _ hpe
    obtain ⟨hrun, hlen⟩ := run_next (x := (s.k, xv, out)) h1 he hpe
    obtain ⟨hkl, hko⟩ := run_at h1 he hpe hc hlm
    have hXq : ∀ x ∈ [p, w4.heap.size + 1 + 1], x < w2.heap.size ∨ w4.heap.size ≤ x := by
      intro x hx
      simp at hx
      omega
    obtain ⟨g, o, c, ax, cx, hvv, hcc, hse⟩ := rowLat2 hrow (CK.pre k45 h4) hXq s.k hkl
    simp only [Value.slice.injEq, true_and] at hvv
    obtain ⟨rfl, rfl⟩ := hvv
    rw [hko] at hcc hse
    obtain ⟨ay, cy, rfl, hsy, _⟩ := hrx.sees
    have y5 := h4.cell _ _ e5 (by simp; omega)
    have y6 := h4.cell _ _ e6 (by simp; omega)
    have y6f := (h4.frozen _ _ e6 (by simp; omega)).trans g6'
    have y7 := h4.cell _ _ e7 (by simp; omega)
    have y8 := h4.cell _ _ e8 (by simp; omega)
    have hSm := cSame ay ax out.length out.length cy cx out out W hsy hse rfl rfl
    rw [show (out == out) = true by simp] at hSm
    have hLl := rowLlen hrow
    have hwr : IntKind.i64.wrap ((s.k : Int) + 1) = (s.k : Int) + 1 := by rw [IntKind.wrap_i64]; omega
    have hlt := World.block_lt_of_cell? _ _ h2
    have kS : Kp [w4.heap.size + 1 + 1] W (W.setCell ⟨w4.heap.size + 1 + 1, 0, none⟩ (.int .i64 ((s.k : Int) + 1))) := (Kp.refl _ _).setCell (by simp) _
    have hbx : ∃ o : Obj, W.heap[w4.heap.size + 1 + 1]? = some o ∧ o.isCells = true := cellsOf (a := ⟨w4.heap.size + 1 + 1, 0, none⟩) (by rw [h2]; rfl)
    have hbx6 : ∃ o : Obj, W.heap[w.heap.size + 1]? = some o ∧ o.isCells = true := cellsOf (a := ⟨w.heap.size + 1, 0, none⟩) (by rw [y6]; rfl)
    have v10 : (W.setCell ⟨w4.heap.size + 1 + 1, 0, none⟩ (.int .i64 ((s.k : Int) + 1))).cell? ⟨w4.heap.size + 1 + 1, 0, none⟩ = some (.int .i64 ((s.k : Int) + 1)) := World.cell?_setCell_same _ _ _ h2
    have v5 := (kS.cell (World.block_lt_of_cell? _ _ y5) (by simp; omega)).trans y5
    have v6 := (kS.cell (World.block_lt_of_cell? _ _ y6) (by simp; omega)).trans y6
    have v6f := (kS.frozen (World.block_lt_of_cell? _ _ y6) (by simp; omega)).trans y6f
    have v7 := (kS.cell (World.block_lt_of_cell? _ _ y7) (by simp; omega)).trans y7
    have vrd := h5.kept kS (by simp; omega) (fun k hk => by have := hdl k hk; simp; omega)
    have vEr := rErr p D s.bs s.e _ vrd
    rw [he] at vEr
    have hdec : decide (ML.length ≤ s.k) = false := by simp; omega
    have hnotq : Away (p :: (w4.heap.size + 1 + 1 + 1) :: (w4.heap.size + 1 + 1 + 1 + 1) :: (w4.heap.size + 1 + 1 + 1 + 2) :: D) W (W.setCell ⟨w4.heap.size + 1 + 1, 0, none⟩ (.int .i64 ((s.k : Int) + 1))) := ⟨_, kS, fun j hj hm => (hJs j hj).2 (by simpa using hm)⟩
    have hIn : ItemI p (w4.heap.size + 1 + 1) D full most w w5 (s.nx (s.k, .slice ay out.length cy, out)) (W.setCell ⟨w4.heap.size + 1 + 1, 0, none⟩ (.int .i64 ((s.k : Int) + 1))) :=
      ⟨L ++ [out], hrun, by rw [v10]; simp [St.nx], (World.frozen?_setCell _ _ _ _).trans h3, h4.kp kS (by simp), vrd, h6.trans kS (fun x hx => .inr (by simp at hx; omega)), Nat.le_trans h7 kS.size, fun x out h => by cases h⟩
    have hkf := fun B => keepsCel kS (fun k hk => by obtain rfl : k = _ := by simpa using hk
                                                     exact hbx) B
    clear hse hsy hrx h8 hrun h1 h4 h5 h7 hlen
    gi_wp2_with fail
    refine ⟨trivial, (CallsIn.inRound l (callsIn_wide.2 hSm)).mono ?_⟩
    rintro e w6 ⟨rfl, rfl⟩
    by_cases hst : (s.k : Int) + 1 = stop
    · subst hst
      gi_wp2_with fail
      refine ⟨trivial, (CallsIn.inRound l (callsIn_wide.2 vEr)).mono ?_⟩
      rintro e w7 ⟨rfl, rfl⟩
      have kT : Kp [w.heap.size + 1] (w6.setCell ⟨w4.heap.size + 1 + 1, 0, none⟩ (.int .i64 ((s.k : Int) + 1))) ((w6.setCell ⟨w4.heap.size + 1 + 1, 0, none⟩ (.int .i64 ((s.k : Int) + 1))).setCell ⟨w.heap.size + 1, 0, none⟩ (.bool true)) := (Kp.refl _ _).setCell (by simp) _
      have kAll : Kp [w4.heap.size + 1 + 1, w.heap.size + 1] w6 ((w6.setCell ⟨w4.heap.size + 1 + 1, 0, none⟩ (.int .i64 ((s.k : Int) + 1))).setCell ⟨w.heap.size + 1, 0, none⟩ (.bool true)) := (kS.mono (T := [w4.heap.size + 1 + 1, w.heap.size + 1]) (fun x hx => .inl (by simp at hx; simp [hx]))).trans kT (fun x hx => .inl (by simp at hx; simp [hx]))
      have u6 := World.cell?_setCell_same _ _ (.bool true) v6
      gi_wp2_with fail
      refine ⟨keepsCel kAll (fun k hk => ?_) _, rfl, u6, h6.trans kAll (fun x hx => .inr (by simp at hx; omega))⟩
      rcases List.mem_cons.1 hk with rfl | hk
      · exact hbx
      · obtain rfl : k = _ := by simpa using hk
        exact hbx6
    · have hst' : (((s.k : Int) + 1) == stop) = false := by simpa using hst
      gi_wp2_with fail
      exact ⟨hkf _, hnotq, hIn⟩
  case done =>
    rintro D' s W hD' ⟨hgo, hS⟩ ⟨L, h1, h2, h3, h4, h5, h6, h7, h8⟩ hK
    obtain ⟨N', bs1', e1', hc', hl'⟩ := run_done h1 hgo hS
    have hkL : L.length = s.k := by
      rcases h1 with ⟨rfl, _⟩ | ⟨_, hk, _⟩
      · cases hgo
      · exact hk
    rw [hc] at hc'
    simp only [Prod.mk.injEq] at hc'
    obtain ⟨rfl, rfl, rfl⟩ := hc'
    rw [hlm] at hl'
    simp only [Prod.mk.injEq] at hl'
    obtain ⟨rfl, hbs, hes⟩ := hl'
    rw [← hbs, ← hes] at h5
    rw [← hkL] at h2
    have y6 := h4.cell _ _ e6 (by simp; omega)
    have y6f := (h4.frozen _ _ e6 (by simp; omega)).trans g6'
    have y7 := h4.cell _ _ e7 (by simp; omega)
    have y8 := h4.cell _ _ e8 (by simp; omega)
    have z0 := h4.cell _ _ b9.c0 (by simp; omega)
    have z1 := h4.cell _ _ b9.c1 (by simp; omega)
    have z2 := h4.cell _ _ b9.c2 (by simp; omega)
    have hdd : ((full.drop at2).length : Int) = (full.length : Int) - at2 := by simp; omega
    have hwr : IntKind.i64.wrap ((full.length : Int) - at2) = (full.length : Int) - at2 := by rw [IntKind.wrap_i64]; omega
    have kd : Kp [] W W.drew := (Kp.refl _ _).drew
    have kT : Kp [w.heap.size + 1] W (W.drew.setCell ⟨w.heap.size + 1, 0, none⟩ (.bool true)) := (kd.mono (T := [w.heap.size + 1]) (by simp)).trans ((Kp.refl _ _).setCell (by simp) _) (fun x hx => .inl hx)
    have hS1 : W.drew.cell? ⟨w4.heap.size + 1 + 1, 0, none⟩ = some (.int .i64 ML.length) ∧ W.drew.cell? ⟨w4.heap.size, 0, none⟩ = some (.slice av ML.length cv) ∧ W.drew.cell? ⟨q7, 0, none⟩ = some (.pointer (some ⟨p, 0, none⟩)) ∧ W.drew.cell? ⟨w4.heap.size + 1, 0, none⟩ = some (.slice b full.length cb) ∧ W.drew.cell? ⟨w4.heap.size + 1, 1, none⟩ = some (.int .i64 at2) ∧ W.drew.cell? ⟨w4.heap.size + 1, 2, none⟩ = some (.int .i64 e2) ∧ Rd W.drew p D (full.drop at2) e2 := ⟨h2, y8, y7, z0, z1, z2, h5.kept kd (by simp) (by simp)⟩
    have hS2 : (W.drew.setCell ⟨w.heap.size + 1, 0, none⟩ (.bool true)).cell? ⟨w4.heap.size + 1 + 1, 0, none⟩ = some (.int .i64 ML.length) ∧ (W.drew.setCell ⟨w.heap.size + 1, 0, none⟩ (.bool true)).cell? ⟨w4.heap.size, 0, none⟩ = some (.slice av ML.length cv) ∧ (W.drew.setCell ⟨w.heap.size + 1, 0, none⟩ (.bool true)).cell? ⟨q7, 0, none⟩ = some (.pointer (some ⟨p, 0, none⟩)) ∧ (W.drew.setCell ⟨w.heap.size + 1, 0, none⟩ (.bool true)).cell? ⟨w4.heap.size + 1, 0, none⟩ = some (.slice b full.length cb) ∧ (W.drew.setCell ⟨w.heap.size + 1, 0, none⟩ (.bool true)).cell? ⟨w4.heap.size + 1, 1, none⟩ = some (.int .i64 at2) ∧ (W.drew.setCell ⟨w.heap.size + 1, 0, none⟩ (.bool true)).cell? ⟨w4.heap.size + 1, 2, none⟩ = some (.int .i64 e2) ∧ Rd (W.drew.setCell ⟨w.heap.size + 1, 0, none⟩ (.bool true)) p D (full.drop at2) e2 :=
      ⟨(kT.cell (World.block_lt_of_cell? _ _ h2) (by simp; omega)).trans h2, (kT.cell (World.block_lt_of_cell? _ _ y8) (by simp; omega)).trans y8, (kT.cell (World.block_lt_of_cell? _ _ y7) (by simp; omega)).trans y7, (kT.cell (World.block_lt_of_cell? _ _ z0) (by simp; omega)).trans z0, (kT.cell (World.block_lt_of_cell? _ _ z1) (by simp; omega)).trans z1, (kT.cell (World.block_lt_of_cell? _ _ z2) (by simp; omega)).trans z2, h5.kept kT (by simp; omega) (fun k hk hm => by have := hD k hk; simp at hm; omega)⟩
    have HS1 := hid hS1
    have HS2 := hid hS2
    have HEr : Hid (∀ w', Rd w' p D (full.drop at2) e2 → Calls Try.prog 10 #[.pointer (some ⟨p, 0, none⟩)] w' fun e w'' => e = .returned (.int .i64 e2) ∧ w'' = w') := fun w' h => rErr p D _ e2 w' h
    have HLf : Hid (∀ w', Rd w' p D (full.drop at2) e2 → Calls Try.prog 11 #[.pointer (some ⟨p, 0, none⟩)] w' fun e w'' => e = .returned (.int .i64 ((full.length : Int) - at2)) ∧ w'' = w') := fun w' h => by have := rLeft p D _ e2 w' h; rw [hdd] at this; exact this
    have hu6 : (W.drew.setCell ⟨w.heap.size + 1, 0, none⟩ (.bool true)).cell? ⟨w.heap.size + 1, 0, none⟩ = some (.bool true) := World.cell?_setCell_same _ _ _ (show W.drew.cell? _ = _ from y6)
    clear h1 h8 hS e5 e6 e7 e8 b9 hbs hes hkL hI0 hseq hlm hc hrow g6' hS1 hS2 hdd
    gi_wp2_with fail
    refine wpIn_wide.2 ?_
    go_region_held3 (fun w' => w'.cell? ⟨w4.heap.size + 1 + 1, 0, none⟩ = some (.int .i64 ML.length) ∧ w'.cell? ⟨w4.heap.size, 0, none⟩ = some (.slice av ML.length cv) ∧ w'.cell? ⟨q7, 0, none⟩ = some (.pointer (some ⟨p, 0, none⟩)) ∧ w'.cell? ⟨w4.heap.size + 1, 0, none⟩ = some (.slice b full.length cb) ∧ w'.cell? ⟨w4.heap.size + 1, 1, none⟩ = some (.int .i64 at2) ∧ w'.cell? ⟨w4.heap.size + 1, 2, none⟩ = some (.int .i64 e2) ∧ Rd w' p D (full.drop at2) e2)
      (first | assumption | exact HS1.out | exact HS2.out)
      (first | (go_at_call 10; refine (HEr.out _ (rdOf (by assumption))).mono ?_; rintro e w6 ⟨rfl, rfl⟩) | (go_at_call 11; refine (HLf.out _ (rdOf (by assumption))).mono ?_; rintro e w6 ⟨rfl, rfl⟩))
    have hK2 : (W.drew.setCell ⟨w.heap.size + 1, 0, none⟩ (.bool true)).heap[D']? = some (.deferred (some [])) := (kT.block D' (Array.getElem?_eq_some_iff.1 hK).1 (by simp; omega)).trans hK
    have hkD : Kp [D'] (W.drew.setCell ⟨w.heap.size + 1, 0, none⟩ (.bool true)) ((W.drew.setCell ⟨w.heap.size + 1, 0, none⟩ (.bool true)).putObj D' (.deferred none)) := ⟨rfl, rfl, rfl, by simp, fun k hk hn => World.putObj_heap_other (by simpa using hn)⟩
    have hnD : NoC [D'] (W.drew.setCell ⟨w.heap.size + 1, 0, none⟩ (.bool true)) := by
      intro r hr'
      obtain rfl : r = D' := by simpa using hr'
      exact ⟨_, hK2, rfl⟩
    gi_wp2_with fail
    refine ⟨by simp, .inl ⟨_, _, rfl, run_takeDeferred hK2, ?_⟩⟩
    exact ⟨_, results_cell_one rfl rfl (cellN hkD hnD hu6), rfl, ((h6.trans kT (fun x hx => .inr (by simp at hx; omega))).trans hkD (fun x hx => .inr (by have := kw5.size; simp at hx; omega))).below⟩
  case stop =>
    rintro D' c s W hD' _ ⟨rfl, h2, h3⟩ hK
    have hkD : Kp [D'] W (W.putObj D' (.deferred none)) := ⟨rfl, rfl, rfl, by simp, fun k hk hn => World.putObj_heap_other (by simpa using hn)⟩
    have hnD : NoC [D'] W := fun r hr' => by obtain rfl : r = D' := by simpa using hr'
                                             exact ⟨_, hK, rfl⟩
    gi_wp2_with fail
    refine ⟨by simp, .inl ⟨_, _, rfl, run_takeDeferred hK, ?_⟩⟩
    exact ⟨_, results_cell_one rfl rfl (cellN hkD hnD h2), rfl, (h3.trans hkD (fun x hx => .inr (by have := kw5.size; simp at hx; omega))).below⟩
end Go.Proofs.Ytcmfhejjndlnnaa

/- A range over records tells what there was when it began, whatever is appended while it goes on; it may be left, and gone over again; what is told may be written over; where what is given is of bulk at most 1048576. -/
import Derived.Test.YtfpmolajpmljmaaDoorKrg1
import Derived.Test.YtfpmolajpmljmaaDoorB9
import Derived.OrdersIn
import Derived.Test.YtfpmolajpmljmaaDoorB12
import Derived.SizedLaws
import Derived.JoinedCond
import Derived.Deep.CondSized
section
namespace Go.Proofs.YtfpmolajpmljmaaDoor
open Go.RowKit Go.Hay
attribute [local go_sem] Oper.semAt_some
set_option linter.unusedVariables false
set_option linter.unusedSimpArgs false

theorem shareD {C G : Nat → World → Prop} {Goal : Prop} (xone : (∀ D W, C D W → G D W) → Goal) (xtwo : ∀ D W, C D W → G D W) : Goal := xone xtwo
theorem repl_flat : ∀ n : Nat, (List.replicate n [[(1 : UInt8)]]).flatten.length = n
  | 0 => rfl
  | n + 1 => by rw [List.replicate_succ, List.flatten_cons, List.length_append, repl_flat n]; simp; omega
theorem repl_len : ∀ n : Nat, (allB (List.replicate n [[(1 : UInt8)]])).length ≤ 20 * (List.replicate n [[(1 : UInt8)]]).flatten.length
  | 0 => by simp [allB]
  | n + 1 => by
    have ih := repl_len n
    have e : allB (List.replicate (n + 1) [[(1 : UInt8)]]) = frB [[1]] ++ allB (List.replicate n [[1]]) := by rw [List.replicate_succ]; simp [allB]
    have hf : (frB [[(1 : UInt8)]]).length ≤ 20 := by unfold frB; rw [frameB_length]; decide
    rw [repl_flat] at ih ⊢
    rw [e, List.length_append]
    omega
set_option maxHeartbeats 16000000 in
set_option maxRecDepth 100000 in
theorem rangeWalk9 (a : Option Addr) (c : Nat) (L : List Ls) (w : World) (ht : Tab w) (hs : LsE.See w a L) (hok : ∀ x ∈ L, x.ok w) (hL : L.length ≤ 1048576) (hbk : (L.map bulkL).sum ≤ 1048576) :
    Calls Tryd.prog 7 #[.slice a L.length c] w fun e w' => e = .returned (.bool true) ∧ Below w.heap.size w w' := by
  have ht' := hid ht
  obtain ⟨wA, hwA⟩ : ∃ y, w.alloc (.cells #[.bool false] 4) = y := ⟨_, rfl⟩
  have kA : Kp [] w wA := by rw [← hwA]; exact (Kp.refl _ _).alloc _
  have zA : wA.heap.size = w.heap.size + 1 := by rw [← hwA]; simp
  obtain ⟨q2, hq2⟩ : ∃ q, w.heap.size = q := ⟨_, rfl⟩
  have hbx : Hid (∀ W S, Kp S wA W → q2 ∉ S → W.cell? ⟨q2, 0, none⟩ = some (.bool false) ∧ W.frozen? ⟨q2, 0, none⟩ = false) := fun W S k n => by
    subst hq2
    have e1 : wA.cell? ⟨w.heap.size, 0, none⟩ = some (.bool false) := by rw [← hwA]; exact World.cell?_alloc_new w _ _ 0
    have e2 : wA.frozen? ⟨w.heap.size, 0, none⟩ = false := by rw [← hwA]; exact World.frozen?_alloc_new w _ _ 0
    exact ⟨(k.cell (p := ⟨w.heap.size, 0, none⟩) (World.block_lt_of_cell? _ _ e1) n).trans e1, (k.frozen (p := ⟨w.heap.size, 0, none⟩) (World.block_lt_of_cell? _ _ e1) n).trans e2⟩
  have aN := hid (cNew 1125899906842624 wA (by omega))
  have hcl : Hid (∀ (j : Nat) (h : j < L.length) (W : World), Kp [] w W → (∃ g o, a = some ⟨g, o, none⟩ ∧ W.cell? ⟨g, o + j, none⟩ = some (.slice L[j].a L[j].l.length L[j].c)) ∧ (∀ X : Nat → Prop, (∀ k, X k → w.heap.size ≤ k) → ArgQ W L[j].a L[j].l X) ∧ L[j].l.length ≤ 1048576) := fun j h W k => by
    obtain ⟨g, o, e, hc⟩ := lsAt hs (k := j) (x := L[j]) (by simp [h])
    have ho := hok L[j] (List.getElem_mem h)
    have hb := bulk_mem (List.getElem_mem h)
    have hsb := sumB_bulk L[j].l
    have hk' : bulkL L[j] = (L[j].l.map fun y => y.bs.length + 1).sum := rfl
    refine ⟨⟨g, o, e, (k.cell (p := ⟨g, o + j, none⟩) (World.block_lt_of_cell? _ _ hc) (by simp)).trans hc⟩, fun X hX => ⟨(ho.keptNew k).see, (ho.keptNew k).ok, fun hne q hq hx => ?_, fun y hy hne q hq hx => ?_, by omega, fun y hy => ?_⟩, by omega⟩
    · have h1 := hX q hx
      rcases ho.see with e' | ⟨g', o', e', hc'⟩
      · exact hne e'
      · rw [e'] at hq
        simp [blk] at hq
        subst hq
        have h0 : 0 < (BsE.cs L[j].l).length := by rw [El.cs_length]; have : 0 < L[j].l.length := List.length_pos_iff.2 hne; simp [BsE]; omega
        have := World.block_lt_of_cell? _ _ (hc' 0 _ (List.getElem?_eq_getElem h0))
        simp at this
        omega
    · have h1 := hX q hx
      have := (ho.ok y hy).see.lt hne q hq
      omega
    · have h2 : y.bs.length + 1 ≤ (L[j].l.map fun y => y.bs.length + 1).sum := by
        have : y.bs.length + 1 ∈ L[j].l.map fun y => y.bs.length + 1 := List.mem_map.2 ⟨y, hy, rfl⟩
        generalize (L[j].l.map fun y => y.bs.length + 1) = q at this
        induction q with
        | nil => cases this
        | cons z q ih =>
          rw [List.sum_cons]
          rcases List.mem_cons.1 this with e | h
          · omega
          · have := ih h; omega
      omega
  have hTA : Hid (Tab wA) := ht.kept kA (by simp)
  clear ht hs hok
  refine (callsIn_wide (n := 8)).1 ?_
  refine callsIn_of_wp_marks Tryd.func7 rfl trivial ?_ rfl
  simp only [Tryd.ntmps7, List.size_toArray, List.length_cons, List.length_nil, Nat.reduceAdd, Nat.reduceSub, Array.replicate_succ, Array.replicate_zero, List.push_toArray, List.append_toArray, List.nil_append, List.cons_append]
  refine wpIn_wide.2 ?_
  go_wp2_with fail
  refine aN.out.mono ?_
  rintro e w1 ⟨dp, mb, rfl, hD1, k1b, hdp, hmb⟩
  have hf1 : ∀ k ∈ foot dp mb [], q2 + 1 ≤ k := fun k hk => by simp [foot] at hk; rcases hk with rfl | rfl <;> omega
  have k1 := kA.trans k1b (by simp)
  have aV := hid (cAliveQ w1 (ht'.out.kept k1 (by simp)))
  have H1 := hid (And.intro hD1 (And.intro k1 (And.intro hf1 k1b)))
  have kA' := hid kA
  clear aN hD1 k1 hf1 k1b kA hwA
  go_wp2_with fail
  refine aV.out.mono ?_
  rintro e w2 ⟨rfl, k2⟩
  have kb2 := hid (H1.out.2.2.2.trans k2 (by simp))
  have aC := hid (cCreate (H1.out.1.keptNew k2) (by simp [newD]) (by simp [newD]) (by intro f hf; simp [newD] at hf) nmL (by unfold maxLen; simp [nmL]))
  have ec : createD (newD 1125899906842624) nmL = (oneD 1125899906842624 2 nmL [] 0, 0) := create_new 1125899906842624 nmL rnL
  rw [ec] at aC
  have H2 := hid (And.intro H1.out.2.2.1 kb2.out)
  clear aV k2 H1 ec kb2
  go_wp2_with fail
  refine aC.out.mono ?_
  intro e w3 hO
  obtain ⟨p, v, B, xs, rfl, hLD, _, _⟩ := LD.ofOpn (w0 := wA) hO rfl H2.out.2 (fun k hk => by have := H2.out.1 k hk; omega)
  dsimp only at hLD ⊢
  have HL3 := hid hLD
  clear aC hO hLD H2
  obtain ⟨wb, hwb⟩ : ∃ y, w3.alloc (.cells #[.pointer none] 39) = y := ⟨_, rfl⟩
  obtain ⟨q4, hq4⟩ : ∃ q, w3.heap.size = q := ⟨_, rfl⟩
  have kb : Kp [] w3 wb := by rw [← hwb]; exact (Kp.refl _ _).alloc _
  have zb : q4 + 1 ≤ wb.heap.size ∧ wb.heap.size ≤ q4 + 1 := by rw [← hwb, ← hq4]; simp
  have cb : wb.cell? ⟨q4, 0, none⟩ = some (.pointer none) := by rw [← hwb, ← hq4]; exact World.cell?_alloc_new w3 _ _ 0
  have fb : wb.frozen? ⟨q4, 0, none⟩ = false := by rw [← hwb, ← hq4]; exact World.frozen?_alloc_new w3 _ _ 0
  obtain ⟨wc, hwc⟩ : ∃ y, wb.setCell ⟨q4, 0, none⟩ (.pointer (some ⟨p, 0, none⟩)) = y := ⟨_, rfl⟩
  have kc : Kp [q4] wb wc := by rw [← hwc]; exact (Kp.refl _ _).setCell (by simp) _
  have cc : wc.cell? ⟨q4, 0, none⟩ = some (.pointer (some ⟨p, 0, none⟩)) := by rw [← hwc]; exact World.cell?_setCell_same _ _ _ cb
  obtain ⟨wd, hwd⟩ : ∃ y, wc.alloc (.cells #[.slice none 0 0] 23) = y := ⟨_, rfl⟩
  have zc : wc.heap.size ≤ wb.heap.size ∧ wb.heap.size ≤ wc.heap.size := by rw [← hwc]; simp [World.setCell]
  obtain ⟨q6, hq6⟩ : ∃ q, wc.heap.size = q := ⟨_, rfl⟩
  have kd : Kp [] wc wd := by rw [← hwd]; exact (Kp.refl _ _).alloc _
  have cd : wd.cell? ⟨q6, 0, none⟩ = some (.slice none 0 0) := by rw [← hwd, ← hq6]; exact World.cell?_alloc_new wc _ _ 0
  have fd : wd.frozen? ⟨q6, 0, none⟩ = false := by rw [← hwd, ← hq6]; exact World.frozen?_alloc_new wc _ _ 0
  have kbd : Kp [] w3 wd := by
    refine (kb.trans kc (fun k hk => .inr (by simp at hk; omega))).trans kd (by simp)
  have c4d : wd.cell? ⟨q4, 0, none⟩ = some (.pointer (some ⟨p, 0, none⟩)) := (kd.cell (p := ⟨q4, 0, none⟩) (World.block_lt_of_cell? _ _ cc) (by simp)).trans cc
  have HJ0 : Hid (RgJ wA p dp mb q4 q6 2 (fl ((RsL L).take 0)) none 0 [] wd) := by
    have h := HL3.out.keep kbd
    have hz3 := HL3.out.kp.size
    have h6 : q6 < wd.heap.size := World.block_lt_of_cell? _ _ cd
    refine ⟨⟨xs, 2, 0, B, v, Nat.le_refl _, by simpa [fl, allB] using h, fun k hk => ⟨fun hi => ?_, ?_⟩⟩, c4d, cd, fd, .inl ⟨rfl, rfl⟩, by omega, by simp [blk], by simp [blk], ⟨by omega, by omega, by simp [blk]⟩, by simp⟩
    · have := (HL3.out.inLt hi).1
      simp [blk] at hk
      omega
    · simp [blk] at hk
      omega
  clear HL3 kbd kd kc c4d cd fd kb
  go_wp2_with fail
  clear cc hwb hwc hwd cb fb
  go_loopw [8, 33] (fun _ i wn => ∃ (j : Nat) (va : Option Addr) (vc : Nat) (vl : List Bs), j ≤ L.length ∧ i = .int .i64 j ∧ Hid (RgJ wA p dp mb q4 q6 (2 + 2 * j) (fl ((RsL L).take j)) va vc vl wn) ∧ Hid (bsl vl = (fl ((RsL L).take j)).flatten)) (fun _ i _ => L.length - (intOf i).toNat)
  case atStart => exact ⟨0, none, 0, [], Nat.zero_le _, rfl, HJ0, by show bsl [] = _; simp [fl, bsl]⟩
  case round =>
    obtain ⟨j, va, vc, vl, hj, rfl, HJ, HB⟩ := hrel
    clear HJ0
    have b4 := HJ.out.b4
    have b6 := HJ.out.b6
    have f6 := HJ.out.f6
    have hll : CrL L j (fl ((RsL L).take j)) [] false [] := ⟨⟨j, Nat.le_refl _, rfl, fun _ => rfl⟩, fun _ => rfl, fun h => by cases h⟩
    obtain ⟨b1, b2, b3, b4', _, _⟩ := hll.bounds hL hbk
    have hvl : vl.length ≤ 1048576 := by rw [← bsl_len, HB.out]; exact b2
    by_cases hlt : j < L.length
    · have dj1 : (j : Int) < (L.length : Int) := by omega
      have dj0 : (0 : Int) ≤ (j : Int) := by omega
      have dj7 : (-9223372036854775808 : Int) ≤ (j : Int) + 1 := by omega
      have dj8 : (j : Int) + 1 ≤ 9223372036854775807 := by omega
      obtain ⟨⟨g, o, ea, cL⟩, hAq, hyl⟩ := hcl.out j hlt _ (kA'.out.trans HJ.out.x.kp (by simp))
      subst ea
      have hAqW := hid (fun W k => (hcl.out j hlt W k).2.1)
      have hfr := frB_len L[j]
      have hbm := bulk_mem (List.getElem_mem hlt)
      have hsn := RsL_take hlt
      obtain ⟨Y, hY⟩ : ∃ Y, L[j] = Y := ⟨_, rfl⟩
      rw [hY] at cL hAq hyl hAqW hfr hbm hsn
      obtain ⟨ya, yc, yl⟩ := Y
      dsimp only at cL hAq hyl hAqW hfr hsn
      have hfs := fl_snoc ((RsL L).take j) (bsl yl)
      rw [← hsn] at hfs
      have hfs' := hid hfs
      have hyo := hid (hAqW.out wA kA'.out (fun _ => False) (fun _ h => h.elim)).ok
      have aA := hid (HJ.out.app (by omega) (by omega) (by omega) ya yc yl (fun Y' hY' => hAq Y' (fun k hk => by have := hY' k hk; omega)) (by omega) hTA.out)
      clear hY hAq hfr hbm hcl hsn hfs hll b1 b2 b3 b4'
      go_wp2_with fail
      refine aA.out.mono ?_
      rintro e w9 ⟨z, rfl, hz⟩
      clear aA cL b4 b6 f6
      rcases hz with ⟨rfl, hzR, hJ9⟩ | ⟨hz0, hzR, hJ9⟩
      · have b6 := hJ9.b6
        obtain ⟨a9, c9, w10, hrun, c6, f6, hJ10⟩ := hJ9.push ya yc yl (hAqW.out w9 (kA'.out.trans hJ9.x.kp (by simp)) (fun _ => False) (fun _ h => h.elim)).see hyo.out (by omega)
        have hb10 : bsl (vl ++ yl) = (fl ((RsL L).take (j + 1))).flatten := by
          rw [hfs'.out]
          have e1 : bsl (vl ++ yl) = (fl ((RsL L).take j)).flatten ++ bsl yl := by rw [← HB.out]; simp [bsl]
          rw [e1]
          split
          · simp
          · rename_i hno
            rcases hzR with h | h
            · rw [h]; simp
            · exact absurd h hno
        rw [← hfs'.out] at hJ10
        obtain ⟨VL, hVL⟩ : ∃ VL, Hid (vl ++ yl = VL) := ⟨_, rfl⟩
        rw [hVL.out] at hrun hJ10 hb10
        have HJ10 := hid hJ10
        have HB10 := hid hb10
        clear hJ9 hJ10 hb10 HJ HB hzR hfs' hyo hAqW
        go_wp2_with (first | (refine wpAppRunQ rfl _ _ 23 23 rfl _ _ _ rfl rfl hrun ?_) | fail)
        go_roundw
        case rel => exact ⟨j + 1, a9, c9, VL, by omega, by simp, HJ10, HB10⟩
        case measure => simp [intOf]; omega
      · have d1 : (z == 0) = false := by simpa using hz0
        have d2 : (z != 0) = true := by simpa using hz0
        rw [if_neg (by simp [hzR])] at hfs'
        rw [← hfs'.out] at hJ9
        have HJ9 := hid hJ9
        have HB9 : Hid (bsl vl = (fl ((RsL L).take (j + 1))).flatten) := by show _ = _; rw [hfs'.out]; exact HB.out
        clear hJ9 HJ HB hfs' hyo hAqW hzR
        go_wp2_with fail
        go_roundw
        case rel => exact ⟨j + 1, va, vc, vl, by omega, by simp, HJ9, HB9⟩
        case measure => simp [intOf]; omega
    · have dj2 : decide ((j : Int) < (L.length : Int)) = false := by simp; omega
      have hjl : (RsL L).take j = RsL L := List.take_of_length_le (by rw [RsL_len]; omega)
      rw [hjl] at HJ HB b1 b2 b3 b4'
      obtain ⟨l, hl⟩ : ∃ l, fl (RsL L) = l := ⟨_, rfl⟩
      rw [hl] at HJ HB b1 b2 b3 b4'
      have hx9 : Hid (∀ x ∈ l.flatten, x.length ≤ 100000000) := fun x hx => by have := b4' x hx; omega
      have aQ := hid (cAllQ p wr)
      clear hcl hll hl hjl b3 b4'
      go_wp2_with fail
      refine aQ.out.mono ?_
      rintro e w5 ⟨rfl, hw5⟩
      have k5 : Kp [] wr w5 := by rw [hw5]; exact (Kp.refl _ _).alloc _
      obtain ⟨q8, hq8⟩ : ∃ q, wr.heap.size = q := ⟨_, rfl⟩
      have c8 : w5.cell? ⟨q8, 0, none⟩ = some (.pointer (some ⟨p, 0, none⟩)) := by rw [hw5, ← hq8]; exact World.cell?_alloc_new wr _ _ 0
      have HJ5 := hid (HJ.out.keep k5)
      clear aQ hw5 HJ b4 b6 f6
      go_wp2_with fail
      refine (wpIn_wide (n := 8)).1 ?_
      obtain ⟨a0, c0, l0, hc2, hs0, hok0, hb0⟩ := HJ5.out.x.recs hx9.out
      have hl0 : l0.length ≤ 1048576 := by rw [← bsl_len, hb0]; exact b2
      have hseq := allSeqQ (8 - 1) (by omega) q8 p a0 c0 l0 w5 c8 hc2 hs0 hok0 (by omega)
      clear hc2 hs0 hok0 hb0 c8
      apply shareD (C := fun D W => Kp [] w5 W ∧ w5.heap.size ≤ D ∧ W.heap[D]? = some (.deferred (some [])))
      · intro HK
        refine wpRangeS rfl (by omega) (gf := 51) (lb := #[.pointer (some ⟨q8, 0, none⟩)]) rfl trivial (enters_of Tryd.func51 (by kernel_rfl) rfl)
          hseq (fun _ => rfl) KeepC.trans (fun s W o => KeepC.alloc _ W o) (fun s W k o o' _ ho hc _ => KeepC.putObj _ W k o o' ho hc) (KeepC.refl _ _) (fun s s' A B ht k o hk ho _ _ => (ht.kp.block k (Array.getElem?_eq_some_iff.1 ho).1 (by simp)).trans ho)
          (fun _ W => Kp [] w5 W) (fun c _ W => c = .exit 2 ∧ Kp [] w5 W) (fun s W W' row h hg hr => h.trans (kpOfGrown hg) (fun x hx => .inr ((hr x (by simpa [Option.mem_toList] using hx)).1))) (fun c s W W' row h hg hr => ⟨h.1, h.2.trans (kpOfGrown hg) (fun x hx => .inr ((hr x (by simpa [Option.mem_toList] using hx)).1))⟩) (fun s s' A B h ht => h.trans ht.kp (by simp)) (Kp.refl _ _)
          (fun x => { tmps := #[.slice a L.length c, undef, .pointer (some ⟨q2, 0, none⟩), .pointer (some ⟨dp, 0, none⟩), .pointer (some ⟨q4, 0, none⟩), .int .i64 0, .pointer (some ⟨q6, 0, none⟩), undef, u8, undef, undef, undef, undef, .pointer (some ⟨dp, 0, none⟩), .pointer (some ⟨dp, 0, none⟩), .bool false, .bool false, .bool true, .bool false, .bool false, .tuple #[.pointer (some ⟨p, 0, none⟩), .int .i64 0], .pointer (some ⟨dp, 0, none⟩), .tuple #[.pointer (some ⟨p, 0, none⟩), .int .i64 0], .pointer (some ⟨p, 0, none⟩), .int .i64 0, .int .i64 0, .bool false, .bool false, .pointer (some ⟨p, 0, none⟩), .bool false, .bool false, .slice a L.length c, .int .i64 L.length, .int .i64 j, .bool false, u35, u36, u37, u38, u39, u40, u41, u42, u43, u44, .pointer (some ⟨p, 0, none⟩), .func (.func 51) #[] #[.pointer (some ⟨q8, 0, none⟩)], .int .i64 x.1, x.2.1, undef, undef, undef, undef, undef, undef, undef, undef, undef, undef, undef, undef, undef, undef, undef, undef, undef, undef, undef, undef, undef, undef, undef, undef, undef, undef, undef, undef, undef, undef, undef, undef, undef, undef, undef, undef, undef, undef, undef, undef, undef, undef, undef, undef, undef, undef, undef, undef, undef, undef, undef, undef, undef, undef, undef, undef, undef, undef, undef, undef, undef, undef], defers := [] }) ?assign ?body ?done ?stop
        case assign =>
          intro l x W C hC
          gi_wp2_with fail
          exact hC
        case body =>
          rintro lr s x A h hok
          have hh := hid h
          clear h
          gi_wp2_with fail
          exact ⟨⟨Nat.le_refl _, fun k o _ h _ => h⟩, rfl, hh.out⟩
        case done =>
          rintro D s X hD _ h hK
          exact HK D X ⟨h, hD, hK⟩
        case stop =>
          rintro D c s X hD _ ⟨rfl, h⟩ hK
          refine wpIn_exit ?_
          exact HK D X ⟨h, hD, hK⟩
      · rintro D1 w6 ⟨k6, hD1, hK1⟩
        have HJ6 := hid (HJ5.out.keep k6)
        obtain ⟨wz, hwz⟩ : ∃ y, w6.alloc (.cells #[.int .i64 0] 3) = y := ⟨_, rfl⟩
        obtain ⟨q9, hq9⟩ : ∃ q, w6.heap.size = q := ⟨_, rfl⟩
        have kz : Kp [] w6 wz := by rw [← hwz]; exact (Kp.refl _ _).alloc _
        have zz : q9 + 1 ≤ wz.heap.size ∧ wz.heap.size ≤ q9 + 1 := by rw [← hwz, ← hq9]; simp
        have cz : wz.cell? ⟨q9, 0, none⟩ = some (.int .i64 0) := by rw [← hwz, ← hq9]; exact World.cell?_alloc_new w6 _ _ 0
        have fz : wz.frozen? ⟨q9, 0, none⟩ = false := by rw [← hwz, ← hq9]; exact World.frozen?_alloc_new w6 _ _ 0
        obtain ⟨w8, hw8⟩ : ∃ y, wz.setCell ⟨q9, 0, none⟩ (.int .i64 0) = y := ⟨_, rfl⟩
        have k8 : Kp [q9] wz w8 := by rw [← hw8]; exact (Kp.refl _ _).setCell (by simp) _
        have c98 : w8.cell? ⟨q9, 0, none⟩ = some (.int .i64 0) := by rw [← hw8]; exact World.cell?_setCell_same _ _ _ cz
        have f98 : w8.frozen? ⟨q9, 0, none⟩ = false := by rw [← hw8]; exact (World.frozen?_setCell _ _ _ _).trans fz
        have k68 : Kp [] w6 w8 := kz.trans k8 (fun k hk => .inr (by simp at hk; omega))
        have HJ8 := hid (HJ6.out.keep k68)
        have b4 := HJ8.out.b4
        have aQ2 := hid (cAllQ p w8)
        have K8 := hid k68
        clear kz k8 hseq
        have k6' := hid k6
        have k68' := hid k68
        clear k68
        go_wp2_with fail
        refine aQ2.out.mono ?_
        rintro e w9 ⟨rfl, hw9⟩
        have k9 : Kp [] w8 w9 := by rw [hw9]; exact (Kp.refl _ _).alloc _
        obtain ⟨q1, hq1⟩ : ∃ q, w8.heap.size = q := ⟨_, rfl⟩
        have z9 : w9.heap.size ≤ q1 + 1 ∧ q1 + 1 ≤ w9.heap.size := by rw [hw9, ← hq1]; simp
        have c19 : w9.cell? ⟨q1, 0, none⟩ = some (.pointer (some ⟨p, 0, none⟩)) := by rw [hw9, ← hq1]; exact World.cell?_alloc_new w8 _ _ 0
        have HJ9 := hid (HJ8.out.keep k9)
        have hz6 : w6.heap.size ≤ q9 ∧ q9 ≤ w6.heap.size := by omega
        have hX9 : RgS wA p dp mb l (2 + 2 * j) (q4 :: q6 :: q9 :: D1 :: blk va) w9 := by
          have k69 := k68'.out.trans k9 (by simp)
          have k59 := k6'.out.trans k69 (by simp)
          have hz := k69.size
          have hz5 := k6'.out.size
          have hz8 := k68'.out.size
          have h8 := World.block_lt_of_cell? _ _ c98
          have hd6 := (Array.getElem?_eq_some_iff.1 hK1).1
          refine HJ5.out.x.keep k59 (by simp) (fun i hi => ?_)
          simp only [List.mem_cons] at hi
          rcases hi with rfl | rfl | rfl | rfl | hi
          · exact ⟨.inl (by simp), by have := HJ5.out.x.lt i (by simp); omega⟩
          · exact ⟨.inl (by simp), by have := HJ5.out.x.lt i (by simp); omega⟩
          · exact ⟨.inr (by omega), by have := k9.size; simp at h8; omega⟩
          · exact ⟨.inr (by omega), by omega⟩
          · exact ⟨.inl (by simp [hi]), by have := HJ5.out.x.lt i (by simp [hi]); omega⟩
        have hQs : Qs wA q4 q6 q9 D1 w9.heap.size va := by
          have hlt6 := HJ6.out.x.lt
          have hlt9 := hX9.lt
          have hlo := HJ6.out.lo
          have e4 := hlt6 q4 (by simp)
          have e6 := hlt6 q6 (by simp)
          have hzA := HJ6.out.x.kp.size
          have hzA5 := HJ5.out.x.kp.size
          have hd6 := (Array.getElem?_eq_some_iff.1 hK1).1
          exact ⟨⟨hlt9 q4 (by simp), hlo.1⟩, ⟨hlt9 q6 (by simp), hlo.2.1⟩, ⟨hlt9 q9 (by simp), by omega⟩, ⟨by omega, by omega, fun hm => by have := hlt6 q9 (by simp [hm]); omega⟩, ⟨hlt9 D1 (by simp), by omega, by omega⟩, fun k hk => ⟨hlt9 k (by simp [hk]), hlo.2.2 k hk⟩⟩
        obtain ⟨_, _, ev, hsv, _⟩ := HJ9.out.v.see
        cases ev
        have hXs : Bxs p q4 q6 q9 D1 va vc vl 0 w9 := ⟨HJ9.out.b4, HJ9.out.b6, (k9.cell (p := ⟨q9, 0, none⟩) (World.block_lt_of_cell? _ _ c98) (by simp)).trans c98, (k9.frozen (p := ⟨q9, 0, none⟩) (World.block_lt_of_cell? _ _ c98) (by simp)).trans f98, hsv, ((k68'.out.trans k9 (by simp)).block D1 (Array.getElem?_eq_some_iff.1 hK1).1 (by simp)).trans hK1⟩
        obtain ⟨a0, c0, l0, hc2, hs0, hok0, hb0, hD⟩ := hX9.rgd hx9.out
        have hl0 : l0.length ≤ 1048576 := by rw [← bsl_len, hb0]; exact b2
        have hll : l0.length = vl.length := by rw [← bsl_len l0, hb0, ← HB.out, bsl_len]
        have hseq := allSeqQ (8 - 1) (by omega) q1 p a0 c0 l0 w9 c19 hc2 hs0 hok0 (by omega)
        have HD := hid (And.intro hD hXs)
        have HQ := hid hQs
        have hvo := hid HJ9.out.ok
        have hbb := hid (hb0.trans HB.out.symm)
        have hll' := hid hll
        have K9 := hid k9
        clear aQ2 hw9 hc2 hs0 hok0 hX9 hQs hXs hsv HJ5 HJ6 HJ8 HJ9 hD b4 c98 f98 c19 cz fz hwz hw8 hll hb0 k6 k5 k9
        go_wp2_with fail
        refine (wpIn_wide (n := 8)).1 ?_
        refine wpRangeZ rfl (by omega) (gf := 51) (lb := #[.pointer (some ⟨q1, 0, none⟩)]) rfl trivial (enters_of Tryd.func51 (by kernel_rfl) rfl)
          hseq (fun _ => rfl) KeepC.trans (fun s W o => KeepC.alloc _ W o) (fun s W k o o' _ ho hc _ => KeepC.putObj _ W k o o' ho hc) (KeepC.refl _ _) (fun s s' A B ht k o hk ho _ _ => (ht.kp.block k (Array.getElem?_eq_some_iff.1 ho).1 (by simp)).trans ho)
          (RkI wA w9 p dp mb q4 q6 q9 D1 (.slice a0 l0.length c0) l0 l (2 + 2 * j) va vc vl) (fun _ _ _ => False) (fun s W o' h _ => h.put HQ.out o') (fun _ _ _ _ h _ => h) (fun s s' A B h ht => h.step HQ.out ht) (fun o1 o2 => RkI.start HD.out.1 HD.out.2 o1 o2)
          (fun x => { tmps := #[.slice a L.length c, undef, .pointer (some ⟨q2, 0, none⟩), .pointer (some ⟨dp, 0, none⟩), .pointer (some ⟨q4, 0, none⟩), .int .i64 0, .pointer (some ⟨q6, 0, none⟩), undef, u8, .pointer (some ⟨q9, 0, none⟩), .int .i64 x.1, x.2.1, undef, .pointer (some ⟨dp, 0, none⟩), .pointer (some ⟨dp, 0, none⟩), .bool false, .bool false, .bool true, .bool false, .bool false, .tuple #[.pointer (some ⟨p, 0, none⟩), .int .i64 0], .pointer (some ⟨dp, 0, none⟩), .tuple #[.pointer (some ⟨p, 0, none⟩), .int .i64 0], .pointer (some ⟨p, 0, none⟩), .int .i64 0, .int .i64 0, .bool false, .bool false, .pointer (some ⟨p, 0, none⟩), .bool false, .bool false, .slice a L.length c, .int .i64 L.length, .int .i64 j, .bool false, u35, u36, u37, u38, u39, u40, u41, u42, u43, u44, .pointer (some ⟨p, 0, none⟩), .func (.func 51) #[] #[.pointer (some ⟨q8, 0, none⟩)], undef, undef, .pointer (some ⟨p, 0, none⟩), .func (.func 51) #[] #[.pointer (some ⟨q1, 0, none⟩)], .int .i64 x.1, x.2.1, undef, undef, undef, undef, undef, undef, undef, undef, undef, undef, undef, undef, undef, undef, undef, undef, undef, undef, undef, undef, undef, undef, undef, undef, undef, undef, undef, undef, undef, undef, undef, undef, undef, undef, undef, undef, undef, undef, undef, undef, undef, undef, undef, undef, undef, undef, undef, undef, undef, undef, undef, undef, undef, undef, undef, undef, undef, undef], defers := [] }) ?assign ?body ?done ?stop
        case assign =>
          intro l x W C hC
          gi_wp2_with fail
          exact hC
        case body =>
          rintro lr s ⟨xi, xv, out⟩ A h ⟨hpe, hxi⟩
          dsimp only at hpe hxi ⊢
          subst hxi
          have hR := h.round hpe
          obtain ⟨hgo, ⟨y, hy, hyo⟩, hrx, _⟩ := h.pe xv out hpe
          have hil : s.i < l0.length := (List.getElem?_eq_some_iff.1 hy).1
          have hHR := hid hR
          obtain ⟨ax, cx, rfl, hlx⟩ := hrx.shape
          obtain ⟨ax', cx', ex, hsx, _⟩ := hrx.sees
          cases ex
          have hzo : ∃ Z : Bs, vl[s.i]? = some Z ∧ Z.bs = out := by
            have hl1 : s.i < vl.length := by have := hll'.out; omega
            refine ⟨vl[s.i], by simp [hl1], ?_⟩
            have e1 : (bsl l0)[s.i]? = some out := by unfold bsl; rw [List.getElem?_map, hy]; simp [hyo]
            rw [hbb.out] at e1
            unfold bsl at e1
            rw [List.getElem?_map, List.getElem?_eq_getElem hl1] at e1
            simpa using e1
          obtain ⟨⟨za, zc, zb⟩, hz, hzb⟩ := hzo
          dsimp only at hzb
          subst hzb
          obtain ⟨n, hn⟩ : ∃ n, s.i = n := ⟨_, rfl⟩
          have hzok := (hvo.out _ (List.mem_of_getElem? hz)).keptNew hR.d.kp
          obtain ⟨gv, ov, eva, cZ⟩ := bsAt hR.x.wt hz
          subst eva
          rw [hn] at hR cZ hil hz hy
          have hzl : zb.length ≤ 100000000 := hx9.out zb (by rw [← HB.out]; exact List.mem_map.2 ⟨_, List.mem_of_getElem? hz, rfl⟩)
          have hbl := repl_len n
          have hfl1 : (allB (l ++ List.replicate n [[1]])).length ≤ 90000000 ∧ (l ++ List.replicate n [[1]]).flatten.length ≤ 100000000 := by
            rw [allB_app, List.length_append, List.flatten_append, List.length_append, repl_flat]
            rw [repl_flat] at hbl
            omega
          obtain ⟨l', hl'⟩ : ∃ l', Hid (l ++ List.replicate n [[1]] = l') := ⟨_, hid rfl⟩
          rw [hl'.out] at hR hfl1
          have hnx : Hid (∀ W act, RgD wA w9 p dp mb (.slice a0 l0.length c0) l0 (l' ++ [[[1]]]) (2 + 2 * j + 2 * n + 2) (Yk q4 q6 q9 D1 w9.heap.size (some ⟨gv, ov, none⟩)) W → Bxs p q4 q6 q9 D1 (some ⟨gv, ov, none⟩) vc vl (n + 1) W → Lft w9 a0 l0 A W → leftZ w9.heap.size (fun s => KeepC (Gl q1 p a0 l0 s)) (RkI wA w9 p dp mb q4 q6 q9 D1 (.slice a0 l0.length c0) l0 l (2 + 2 * j) (some ⟨gv, ov, none⟩) vc vl) (fun _ _ _ => False) s (s.nx (s.i, .slice ax zb.length cx, zb)) A .normal act W) := fun W act h1 h2 h3 => by
            rw [← hl'.out, ← hn] at h1
            rw [← hn] at h2
            exact ⟨h3.1, h3.2.sub (fun x hx => hx.resolve_left (fun e => by rw [hgo] at e; cases e.1)), RkI.next h1 h2 (by rw [hn]; exact hil) _⟩
          obtain ⟨hRd, hLd⟩ := hR.keep (Kp.refl [] A).drew
          have hzok' := hzok.keptNew (Kp.refl [] A).drew
          have hsx' := hsx.kept (Kp.refl [] A).drew (by simp)
          have hS0 : A.drew.cell? ⟨q9, 0, none⟩ = some (.int .i64 (n : Int)) ∧ A.drew.cell? ⟨q6, 0, none⟩ = some (.slice (some ⟨gv, ov, none⟩) vl.length vc) ∧ A.drew.cell? ⟨gv, ov + n, none⟩ = some (.slice za zb.length zc) ∧ (convert 22 9 (.slice ax zb.length cx)).run Tryd.prog A.drew = .ok (.string ⟨zb.toArray⟩) A.drew ∧ (convert 22 9 (.slice za zb.length zc)).run Tryd.prog A.drew = .ok (.string ⟨zb.toArray⟩) A.drew :=
            ⟨hRd.x.b9, hRd.x.b6, ((Kp.refl [] A).drew.cell (p := ⟨gv, ov + n, none⟩) (World.block_lt_of_cell? _ _ cZ) (by simp)).trans cZ, convSees hsx' cx, convSees hzok'.see zc⟩
          have hR0 := hid (And.intro hRd hLd)
          have di1 : ((n : Int) != (n : Int)) = false := by simp
          have hnv : n < vl.length := by have := hll'.out; omega
          have di2 : decide ((vl.length : Int) ≤ (n : Int)) = false := by simp; omega
          have di3 : decide (vl.length ≤ n) = false := by simp; omega
          have di4 : (n : Int) < (vl.length : Int) := by omega
          have di5 : (0 : Int) ≤ (n : Int) := by omega
          clear hz hpe h hzok hzok' hsx hsx' hy hrx hR cZ hHR hRd hLd hbl hgo
          gi_wp2_with fail
          refine region_round (fun A => A.cell? ⟨q9, 0, none⟩ = some (.int .i64 (n : Int)) ∧ A.cell? ⟨q6, 0, none⟩ = some (.slice (some ⟨gv, ov, none⟩) vl.length vc) ∧ A.cell? ⟨gv, ov + n, none⟩ = some (.slice za zb.length zc) ∧ (convert 22 9 (.slice ax zb.length cx)).run Tryd.prog A = .ok (.string ⟨zb.toArray⟩) A ∧ (convert 22 9 (.slice za zb.length zc)).run Tryd.prog A = .ok (.string ⟨zb.toArray⟩) A) (by kernel_rfl) (by kernel_rfl) (by rintro ⟨_, _, hlo⟩; exact hlo) ?_ (fun hHeld => ?_)
          · exact hS0
          generalize A.drew = wd at *
          refine wpAnyH_take (i := 0) (v := ?_) rfl (by kernel_rfl) (by kernel_rfl) (by kernel_rfl) (fun _ _ _ h => h) (Or.inl ⟨by rfl, ?_⟩) (by assumption) ?_
          rotate_left
          · intro w hSw; (try dsimp only at hSw); go_simp <;> with_reducible rfl
          try simp only [Act.put, List.getElem_toArray, List.getElem_cons_zero, List.getElem_cons_succ, List.setIfInBounds_toArray, List.set_cons_zero, List.set_cons_succ]
          refine wpAnyH_take (i := 1) (v := ?_) rfl (by kernel_rfl) (by kernel_rfl) (by kernel_rfl) (fun _ _ _ h => h) (Or.inl ⟨by rfl, ?_⟩) (by assumption) ?_
          rotate_left
          · intro w hSw; (try dsimp only at hSw); go_simp <;> with_reducible rfl
          try simp only [Act.put, List.getElem_toArray, List.getElem_cons_zero, List.getElem_cons_succ, List.setIfInBounds_toArray, List.set_cons_zero, List.set_cons_succ]
          refine wpAnyH_take (i := 2) (v := ?_) rfl (by kernel_rfl) (by kernel_rfl) (by kernel_rfl) (fun _ _ _ h => h) (Or.inl ⟨by rfl, ?_⟩) (by assumption) ?_
          rotate_left
          · intro w hSw; (try dsimp only at hSw); go_simp <;> with_reducible rfl
          try simp only [Act.put, List.getElem_toArray, List.getElem_cons_zero, List.getElem_cons_succ, List.setIfInBounds_toArray, List.set_cons_zero, List.set_cons_succ]
          try simp only [di1, di2, di3]
          refine wpAnyH_take (i := 3) (v := ?_) rfl (by kernel_rfl) (by kernel_rfl) (by kernel_rfl) (fun _ _ _ h => h) (Or.inl ⟨by rfl, ?_⟩) (by assumption) ?_
          rotate_left
          · intro w hSw; (try dsimp only at hSw); go_simp <;> with_reducible rfl
          try simp only [Act.put, List.getElem_toArray, List.getElem_cons_zero, List.getElem_cons_succ, List.setIfInBounds_toArray, List.set_cons_zero, List.set_cons_succ]
          try simp only [di1, di2, di3]
          refine wpAnyH_take (i := 4) (v := ?_) rfl (by kernel_rfl) (by kernel_rfl) (by kernel_rfl) (fun _ _ _ h => h) (Or.inl ⟨by rfl, ?_⟩) (by assumption) ?_
          rotate_left
          · intro w hSw; (try dsimp only at hSw); go_simp <;> with_reducible rfl
          try simp only [Act.put, List.getElem_toArray, List.getElem_cons_zero, List.getElem_cons_succ, List.setIfInBounds_toArray, List.set_cons_zero, List.set_cons_succ]
          refine wpAnyH_take (i := 5) (v := ?_) rfl (by kernel_rfl) (by kernel_rfl) (by kernel_rfl) (fun _ _ _ h => h) (Or.inl ⟨by rfl, ?_⟩) (by assumption) ?_
          rotate_left
          · intro w hSw; (try dsimp only at hSw); go_simp <;> with_reducible rfl
          try simp only [Act.put, List.getElem_toArray, List.getElem_cons_zero, List.getElem_cons_succ, List.setIfInBounds_toArray, List.set_cons_zero, List.set_cons_succ]
          refine wpAnyH_take (i := 6) (v := ?_) rfl (by kernel_rfl) (by kernel_rfl) (by kernel_rfl) (fun _ _ _ h => h) (Or.inl ⟨by rfl, ?_⟩) (by assumption) ?_
          rotate_left
          · intro w hSw; (try dsimp only at hSw); go_simp <;> with_reducible rfl
          try simp only [Act.put, List.getElem_toArray, List.getElem_cons_zero, List.getElem_cons_succ, List.setIfInBounds_toArray, List.set_cons_zero, List.set_cons_succ]
          refine wpAnyH_take (i := 7) (v := ?_) rfl (by kernel_rfl) (by kernel_rfl) (by kernel_rfl) (fun _ _ _ h => h) (Or.inl ⟨by rfl, ?_⟩) (by assumption) ?_
          rotate_left
          · intro w hSw; (try dsimp only at hSw); go_simp <;> with_reducible rfl
          try simp only [Act.put, List.getElem_toArray, List.getElem_cons_zero, List.getElem_cons_succ, List.setIfInBounds_toArray, List.set_cons_zero, List.set_cons_succ]
          try simp only [di1, di2, di3]
          refine wpAnyH_take (i := 8) (v := ?_) rfl (by kernel_rfl) (by kernel_rfl) (by kernel_rfl) (fun _ _ _ h => h) (Or.inl ⟨by rfl, ?_⟩) (by assumption) ?_
          rotate_left
          · intro w hSw; (try dsimp only at hSw); go_simp <;> with_reducible rfl
          try simp only [Act.put, List.getElem_toArray, List.getElem_cons_zero, List.getElem_cons_succ, List.setIfInBounds_toArray, List.set_cons_zero, List.set_cons_succ]
          try simp only [di1, di2, di3]
          refine wpAnyH_take (i := 9) (v := ?_) rfl (by kernel_rfl) (by kernel_rfl) (by kernel_rfl) (fun _ _ _ h => h) (Or.inl ⟨by rfl, ?_⟩) (by assumption) ?_
          rotate_left
          · intro w hSw; (try dsimp only at hSw); go_simp <;> with_reducible rfl
          try simp only [Act.put, List.getElem_toArray, List.getElem_cons_zero, List.getElem_cons_succ, List.setIfInBounds_toArray, List.set_cons_zero, List.set_cons_succ]
          try simp only [di1, di2, di3]
          refine wpAnyH_take (i := 10) (v := ?_) rfl (by kernel_rfl) (by kernel_rfl) (by kernel_rfl) (fun _ _ _ h => h) (Or.inl ⟨by rfl, ?_⟩) (by assumption) ?_
          rotate_left
          · intro w hSw; (try dsimp only at hSw); go_simp <;> with_reducible rfl
          try simp only [Act.put, List.getElem_toArray, List.getElem_cons_zero, List.getElem_cons_succ, List.setIfInBounds_toArray, List.set_cons_zero, List.set_cons_succ]
          refine wpAnyH_take (i := 11) (v := ?_) rfl (by kernel_rfl) (by kernel_rfl) (by kernel_rfl) (fun _ _ _ h => h) (Or.inl ⟨by rfl, ?_⟩) (by assumption) ?_
          rotate_left
          · intro w hSw; (try dsimp only at hSw); go_simp <;> with_reducible rfl
          try simp only [Act.put, List.getElem_toArray, List.getElem_cons_zero, List.getElem_cons_succ, List.setIfInBounds_toArray, List.set_cons_zero, List.set_cons_succ]
          refine wpAnyH_take (i := 12) (v := ?_) rfl (by kernel_rfl) (by kernel_rfl) (by kernel_rfl) (fun _ _ _ h => h) (Or.inl ⟨by rfl, ?_⟩) (by assumption) ?_
          rotate_left
          · intro w hSw; (try dsimp only at hSw); go_simp <;> with_reducible rfl
          try simp only [Act.put, List.getElem_toArray, List.getElem_cons_zero, List.getElem_cons_succ, List.setIfInBounds_toArray, List.set_cons_zero, List.set_cons_succ]
          refine wpAnyH_take (i := 13) (v := ?_) rfl (by kernel_rfl) (by kernel_rfl) (by kernel_rfl) (fun _ _ _ h => h) (Or.inl ⟨by rfl, ?_⟩) (by assumption) ?_
          rotate_left
          · intro w hSw; (try dsimp only at hSw); go_simp <;> with_reducible rfl
          try simp only [Act.put, List.getElem_toArray, List.getElem_cons_zero, List.getElem_cons_succ, List.setIfInBounds_toArray, List.set_cons_zero, List.set_cons_succ]
          refine wpAnyH_take (i := 14) (v := ?_) rfl (by kernel_rfl) (by kernel_rfl) (by kernel_rfl) (fun _ _ _ h => h) (Or.inl ⟨by rfl, ?_⟩) (by assumption) ?_
          rotate_left
          · intro w hSw; (try dsimp only at hSw); go_simp <;> with_reducible rfl
          try simp only [Act.put, List.getElem_toArray, List.getElem_cons_zero, List.getElem_cons_succ, List.setIfInBounds_toArray, List.set_cons_zero, List.set_cons_succ]
          refine wpAnyH_take (i := 15) (v := ?_) rfl (by kernel_rfl) (by kernel_rfl) (by kernel_rfl) (fun _ _ _ h => h) (Or.inl ⟨by rfl, ?_⟩) (by assumption) ?_
          rotate_left
          · intro w hSw; (try dsimp only at hSw); go_simp <;> with_reducible rfl
          try simp only [Act.put, List.getElem_toArray, List.getElem_cons_zero, List.getElem_cons_succ, List.setIfInBounds_toArray, List.set_cons_zero, List.set_cons_succ]
          refine wpAnyH_take (i := 16) (v := ?_) rfl (by kernel_rfl) (by kernel_rfl) (by kernel_rfl) (fun _ _ _ h => h) (Or.inl ⟨by rfl, ?_⟩) (by assumption) ?_
          rotate_left
          · intro w hSw; (try dsimp only at hSw); go_simp <;> with_reducible rfl
          try simp only [Act.put, List.getElem_toArray, List.getElem_cons_zero, List.getElem_cons_succ, List.setIfInBounds_toArray, List.set_cons_zero, List.set_cons_succ]
          refine wpAnyH_take (i := 17) (v := ?_) rfl (by kernel_rfl) (by kernel_rfl) (by kernel_rfl) (fun _ _ _ h => h) (Or.inl ⟨by rfl, ?_⟩) (by assumption) ?_
          rotate_left
          · intro w hSw; (try dsimp only at hSw); go_simp <;> with_reducible rfl
          try simp only [Act.put, List.getElem_toArray, List.getElem_cons_zero, List.getElem_cons_succ, List.setIfInBounds_toArray, List.set_cons_zero, List.set_cons_succ]
          try simp only [di1, di2, di3]
          refine wpAnyH_take (i := 18) (v := ?_) rfl (by kernel_rfl) (by kernel_rfl) (by kernel_rfl) (fun _ _ _ h => h) (Or.inl ⟨by rfl, ?_⟩) (by assumption) ?_
          rotate_left
          · intro w hSw; (try dsimp only at hSw); go_simp <;> with_reducible rfl
          try simp only [Act.put, List.getElem_toArray, List.getElem_cons_zero, List.getElem_cons_succ, List.setIfInBounds_toArray, List.set_cons_zero, List.set_cons_succ]
          try simp only [di1, di2, di3]
          refine wpAnyH_done (by kernel_rfl) ?_ _
          clear hS0 hHeld
          have HI0 : Hid (RkB wA w9 p dp mb q4 q6 q9 D1 (.slice a0 l0.length c0) l0 l' (2 + 2 * j + 2 * n) (some ⟨gv, ov, none⟩) vc vl n (.slice ax zb.length cx) zb wd ∧ Lft w9 a0 l0 A wd) := hR0
          obtain ⟨N, hN⟩ : ∃ N, Hid (zb.length = N) := ⟨_, hid rfl⟩
          have hNb : N ≤ 100000000 := by rw [← hN.out]; exact hzl
          rw [hN.out] at HI0 hnx ⊢
          clear hR0 di1 di2 di3 di4 hlx
          gi_wp2_with fail
          gi_loopw [12, 74] (fun _ i wn => ∃ (m : Nat) (bs : List UInt8), m ≤ N ∧ i = .int .i64 m ∧ Hid (bs.length = N) ∧ Hid (RkB wA w9 p dp mb q4 q6 q9 D1 (.slice a0 l0.length c0) l0 l' (2 + 2 * j + 2 * n) (some ⟨gv, ov, none⟩) vc vl n (.slice ax N cx) bs wn ∧ Lft w9 a0 l0 A wn)) (fun _ i _ => N - (intOf i).toNat)
          case atStart => exact ⟨0, zb, Nat.zero_le _, rfl, hN, HI0⟩
          case round =>
            obtain ⟨m, bs, hm, rfl, hbs, HI⟩ := hrel
            clear HI0
            by_cases hmn : m < N
            · have hmb : m < bs.length := by have := hbs.out; omega
              rcases HI.out.1.r with ⟨h1, h2⟩ | ⟨gx, ox, cap, h1, h2, h3, h4, h5, h6⟩
              · rw [h2] at hmb; simp at hmb
              obtain ⟨rfl, h7, h8⟩ := Value.slice.inj h1
              have cM := h5 m bs[m] (by simp [hmb])
              have fM := (h6 m (by omega)).2
              have hS := HI.out.1.setB m hmb (bs[m] + 1)
              obtain ⟨xb, hxb⟩ : ∃ xb, bs[m] = xb := ⟨_, rfl⟩
              rw [hxb] at cM hS
              have HS := hid (And.intro hS.1 (HI.out.2.trans hS.2))
              have hwr : Hid (((xb + 1).toNat : Int) = ((xb.toNat : Int) + 1) % 256) := by show _ = _; rw [UInt8.toNat_add]; simp
              have hbs2 : Hid ((bs.set m (xb + 1)).length = N) := by show _ = _; rw [List.length_set]; exact hbs.out
              rw [hwr.out] at HS
              have dm1 : (m : Int) < (N : Int) := by omega
              have dm0 : (0 : Int) ≤ (m : Int) := by omega
              have dm7 : (-9223372036854775808 : Int) ≤ (m : Int) + 1 := by omega
              have dm8 : (m : Int) + 1 ≤ 9223372036854775807 := by omega
              clear hS HI h1 h2 h3 h4 h5 h6 h7 h8 hbs hxb hwr hmb
              gi_wp2_with fail
              exact ⟨⟨m + 1, bs.set m (xb + 1), by omega, by simp, hbs2, HS⟩, by simp [intOf]; omega⟩
            · have dm2 : decide ((m : Int) < (N : Int)) = false := by simp; omega
              have b9 := HI.out.1.x.b9
              have f9 := HI.out.1.x.f9
              have hK := HI.out.1.setK HQ.out
              rw [show ((n + 1 : Nat) : Int) = (n : Int) + 1 by omega] at hK
              obtain ⟨Z1, hZ1⟩ : ∃ Z1, wr.setCell ⟨q9, 0, none⟩ (.int .i64 ((n : Int) + 1)) = Z1 := ⟨_, rfl⟩
              rw [hZ1] at hK
              have b4 := hK.1.x.b4
              obtain ⟨qz, hqz⟩ : ∃ q, Z1.heap.size = q := ⟨_, rfl⟩
              obtain ⟨y1, hy1⟩ : ∃ y1, Z1.alloc (.cells #[.int .u8 1] 5) = y1 := ⟨_, rfl⟩
              have zy1 : y1.heap.size = qz + 1 := by rw [← hy1, ← hqz]; simp
              obtain ⟨y2, hy2⟩ : ∃ y2, y1.alloc (.cells #[.slice (some ⟨qz, 0, none⟩) 1 1] 22) = y2 := ⟨_, rfl⟩
              have aA := hid (RkB.app (y2 := y2) HQ.out hK.1 (by omega) hfl1.1 hfl1.2 hTA.out hqz (by rw [hy1, hy2]))
              have HL := hid (HI.out.2.trans hK.2)
              have dn7 : (-9223372036854775808 : Int) ≤ (n : Int) + 1 := by omega
              have dn8 : (n : Int) + 1 ≤ 9223372036854775807 := by omega
              clear hK HI hbs
              gi_wp2_with fail
              refine ⟨trivial, (CallsIn.inRound lr (callsIn_wide.2 aA.out)).mono ?_⟩
              rintro e W9 ⟨rfl, hd9, hx9', hl9⟩
              have hend := fun act => hnx.out W9 act hd9 hx9' (HL.out.trans hl9)
              clear aA hd9 hx9' hl9 b9 f9 b4
              gi_wp2_with fail
              exact hend _
        case done =>
          rintro D s X hDw ⟨hgo, hsi, hsp⟩ h hK
          have hd := h.d
          have hx := h.x
          rw [hsi, hll'.out] at hd hx
          have hvl0 : vl.length ≤ 1048576 := by have := hll'.out; omega
          have hbl := repl_len vl.length
          have hfl1 : (l ++ List.replicate vl.length [[1]]).flatten.length ≤ 100000000 := by
            rw [List.flatten_append, List.length_append, repl_flat]
            omega
          have hM : (l ++ List.replicate vl.length [[1]]).flatten.take vl.length = bsl vl ∧ vl.length ≤ (l ++ List.replicate vl.length [[1]]).flatten.length ∧ ∀ x ∈ (l ++ List.replicate vl.length [[1]]).flatten, x.length ≤ 100000000 := by
            have e1 : l.flatten.length = vl.length := by rw [← HB.out, bsl_len]
            refine ⟨?_, ?_, fun x hx => ?_⟩
            · rw [List.flatten_append, ← e1, List.take_left' rfl, HB.out]
            · rw [List.flatten_append, List.length_append]; omega
            · rw [List.flatten_append] at hx
              rcases List.mem_append.1 hx with h1 | h1
              · exact hx9.out x h1
              · obtain ⟨S, h2, h3⟩ := List.mem_flatten.1 h1
                rw [(List.mem_replicate.1 h2).2] at h3
                simp at h3
                subst h3
                simp
          obtain ⟨M, hMe⟩ : ∃ M, Hid ((l ++ List.replicate vl.length [[1]]).flatten = M) := ⟨_, hid rfl⟩
          have hG := hid (hd.gone hfl1 hM.2.2)
          rw [hMe.out] at hG hM hfl1
          have hkX : Kp [] wA X := hd.kp
          have hSm : Hid (∀ W a' c' (gl : List Bs), Kp [] X W → BsE.See W a' gl → (∀ y ∈ gl, y.ok W) → bsl gl = M → Calls Tryd.prog 13 #[.slice a' vl.length c', .slice va vl.length vc] W fun e w' => e = .returned (.bool true) ∧ Kp [] W w') := fun W a' c' gl k hs ho hb => by
            have hgl : gl.length = M.length := by rw [← hb, bsl_len]
            have hlt : (gl.take vl.length).length = vl.length := by rw [List.length_take]; omega
            have h1 := cSameQ a' va c' vc (gl.take vl.length) vl W (hs.front _) (hx.wt.keptNew k) (fun y hy => ho y (List.mem_of_mem_take hy)) (fun y hy => (hvo.out y hy).keptNew (hkX.trans k (by simp))) (by omega) (by omega)
            have h2 : bsl (gl.take vl.length) = bsl vl := by rw [← hM.1, ← hb]; simp [bsl]
            rw [h2, show decide (bsl vl = bsl vl) = true by simp, hlt] at h1
            exact h1
          have hML : Hid (∀ gl : List Bs, bsl gl = M → vl.length ≤ gl.length ∧ gl.length ≤ 100000000) := fun gl hb => by rw [← bsl_len gl, hb]; exact ⟨hM.2.1, hfl1⟩
          have hSk : Hid (∀ A, Kp [] X A → A.cell? ⟨q9, 0, none⟩ = some (.int .i64 (vl.length : Int)) ∧ A.cell? ⟨q6, 0, none⟩ = some (.slice va vl.length vc) ∧ A.cell? ⟨q4, 0, none⟩ = some (.pointer (some ⟨p, 0, none⟩))) := fun A k =>
            have h2 := hx.kept k (by simp) (by simp) (by simp) (by simp) (by simp)
            ⟨h2.b9, h2.b6, h2.b4⟩
          have hq2f := hid (fun (W : World) (k : Kp [] X W) => hbx.out W [] (hkX.trans k (by simp)) (by simp))
          have hKK := hid (And.intro hkX (And.intro hK (And.intro hx.d1 (And.intro hDw (And.intro HQ.out.l1 HQ.out)))))
          have k0 : Kp [] X X.drew := (Kp.refl _ _).drew
          have hS0 := hSk.out _ k0
          have e1 : ((vl.length : Int) == (vl.length : Int)) = true := by simp
          clear h hd hx hbl hfl1 hM hkX hK hsp hgo hMe
          go_wp2_with fail
          refine wp_noPanic ?_
          refine wp_region_held_drew (S := fun A => A.cell? ⟨q9, 0, none⟩ = some (.int .i64 (vl.length : Int)) ∧ A.cell? ⟨q6, 0, none⟩ = some (.slice va vl.length vc) ∧ A.cell? ⟨q4, 0, none⟩ = some (.pointer (some ⟨p, 0, none⟩))) (by kernel_rfl) ?_ (fun hHeld => ?_)
          · exact hS0
          generalize X.drew = wd at *
          refine wpAnyH_take (i := 0) (v := ?_) rfl (by kernel_rfl) (by kernel_rfl) (by kernel_rfl) (fun _ _ _ h => by cases h.1) (Or.inl ⟨by rfl, ?_⟩) (by assumption) ?_
          rotate_left
          · intro w hSw; (try dsimp only at hSw); go_simp <;> with_reducible rfl
          try simp only [Act.put, List.getElem_toArray, List.getElem_cons_zero, List.getElem_cons_succ, List.setIfInBounds_toArray, List.set_cons_zero, List.set_cons_succ]
          refine wpAnyH_take (i := 1) (v := ?_) rfl (by kernel_rfl) (by kernel_rfl) (by kernel_rfl) (fun _ _ _ h => by cases h.1) (Or.inl ⟨by rfl, ?_⟩) (by assumption) ?_
          rotate_left
          · intro w hSw; (try dsimp only at hSw); go_simp <;> with_reducible rfl
          try simp only [Act.put, List.getElem_toArray, List.getElem_cons_zero, List.getElem_cons_succ, List.setIfInBounds_toArray, List.set_cons_zero, List.set_cons_succ]
          refine wpAnyH_take (i := 2) (v := ?_) rfl (by kernel_rfl) (by kernel_rfl) (by kernel_rfl) (fun _ _ _ h => by cases h.1) (Or.inl ⟨by rfl, ?_⟩) (by assumption) ?_
          rotate_left
          · intro w hSw; (try dsimp only at hSw); go_simp <;> with_reducible rfl
          try simp only [Act.put, List.getElem_toArray, List.getElem_cons_zero, List.getElem_cons_succ, List.setIfInBounds_toArray, List.set_cons_zero, List.set_cons_succ]
          refine wpAnyH_take (i := 3) (v := ?_) rfl (by kernel_rfl) (by kernel_rfl) (by kernel_rfl) (fun _ _ _ h => by cases h.1) (Or.inl ⟨by rfl, ?_⟩) (by assumption) ?_
          rotate_left
          · intro w hSw; (try dsimp only at hSw); go_simp <;> with_reducible rfl
          try simp only [Act.put, List.getElem_toArray, List.getElem_cons_zero, List.getElem_cons_succ, List.setIfInBounds_toArray, List.set_cons_zero, List.set_cons_succ]
          try simp only [e1]
          refine wpAnyH_take (i := 4) (v := ?_) rfl (by kernel_rfl) (by kernel_rfl) (by kernel_rfl) (fun _ _ _ h => by cases h.1) (Or.inl ⟨by rfl, ?_⟩) (by assumption) ?_
          rotate_left
          · intro w hSw; (try dsimp only at hSw); go_simp <;> with_reducible rfl
          try simp only [Act.put, List.getElem_toArray, List.getElem_cons_zero, List.getElem_cons_succ, List.setIfInBounds_toArray, List.set_cons_zero, List.set_cons_succ]
          try simp only [e1]
          refine wpAnyH_take (i := 5) (v := ?_) rfl (by kernel_rfl) (by kernel_rfl) (by kernel_rfl) (fun _ _ _ h => by cases h.1) (Or.inl ⟨by rfl, ?_⟩) (by assumption) ?_
          rotate_left
          · intro w hSw; (try dsimp only at hSw); go_simp <;> with_reducible rfl
          try simp only [Act.put, List.getElem_toArray, List.getElem_cons_zero, List.getElem_cons_succ, List.setIfInBounds_toArray, List.set_cons_zero, List.set_cons_succ]
          refine wpAnyH_take (i := 8) (v := ?_) rfl (by kernel_rfl) (by kernel_rfl) (by kernel_rfl) (fun _ _ _ h => by cases h.1) (Or.inl ⟨by rfl, ?_⟩) (by assumption) ?_
          rotate_left
          · intro w hSw; (try dsimp only at hSw); go_simp <;> with_reducible rfl
          try simp only [Act.put, List.getElem_toArray, List.getElem_cons_zero, List.getElem_cons_succ, List.setIfInBounds_toArray, List.set_cons_zero, List.set_cons_succ]
          refine wpAnyH_take (i := 9) (v := ?_) rfl (by kernel_rfl) (by kernel_rfl) (by kernel_rfl) (fun _ _ _ h => by cases h.1) (Or.inl ⟨by rfl, ?_⟩) (by assumption) ?_
          rotate_left
          · intro w hSw; (try dsimp only at hSw); go_simp <;> with_reducible rfl
          try simp only [Act.put, List.getElem_toArray, List.getElem_cons_zero, List.getElem_cons_succ, List.setIfInBounds_toArray, List.set_cons_zero, List.set_cons_succ]
          refine wpAnyH_ready (rs := [6]) (by kernel_rfl) (by simp) ?_
          refine AllReadyH.cons rfl (fun K hK => ?_) AllReadyH.nil
          go_simp
          refine (hG.out wd k0).mono ?_
          rintro e y1 ⟨ga, gc, gl, rfl, hs1, ho1, hb1, hc1, hm1, kk1⟩
          (try go_wp2_with fail)
          refine hK.out _ _ ?_ (fun hHeld => ?_)
          · exact hSk.out _ (k0.trans kk1 (by simp))
          clear hK K
          try simp only [Act.put, List.getElem_toArray, List.getElem_cons_zero, List.getElem_cons_succ, List.setIfInBounds_toArray, List.set_cons_zero, List.set_cons_succ]
          have ky1 := k0.trans kk1 (by simp)
          have hl1 := hML.out gl hb1
          have g1 : decide ((vl.length : Int) ≤ (gl.length : Int)) = true := by simp; omega
          have g2 : decide (vl.length ≤ gl.length) = true := by simp; omega
          clear hs1 ho1 hb1 kk1
          refine wpAnyH_take (i := 7) (v := ?_) rfl (by kernel_rfl) (by kernel_rfl) (by kernel_rfl) (fun _ _ _ h => by cases h.1) (Or.inl ⟨by rfl, ?_⟩) (by assumption) ?_
          rotate_left
          · intro w hSw; (try dsimp only at hSw); go_simp <;> with_reducible rfl
          try simp only [Act.put, List.getElem_toArray, List.getElem_cons_zero, List.getElem_cons_succ, List.setIfInBounds_toArray, List.set_cons_zero, List.set_cons_succ]
          refine wpAnyH_take (i := 10) (v := ?_) rfl (by kernel_rfl) (by kernel_rfl) (by kernel_rfl) (fun _ _ _ h => by cases h.1) (Or.inl ⟨by rfl, ?_⟩) (by assumption) ?_
          rotate_left
          · intro w hSw; (try dsimp only at hSw); go_simp <;> with_reducible rfl
          try simp only [Act.put, List.getElem_toArray, List.getElem_cons_zero, List.getElem_cons_succ, List.setIfInBounds_toArray, List.set_cons_zero, List.set_cons_succ]
          try simp only [g1, g2]
          refine wpAnyH_take (i := 11) (v := ?_) rfl (by kernel_rfl) (by kernel_rfl) (by kernel_rfl) (fun _ _ _ h => by cases h.1) (Or.inl ⟨by rfl, ?_⟩) (by assumption) ?_
          rotate_left
          · intro w hSw; (try dsimp only at hSw); go_simp <;> with_reducible rfl
          try simp only [Act.put, List.getElem_toArray, List.getElem_cons_zero, List.getElem_cons_succ, List.setIfInBounds_toArray, List.set_cons_zero, List.set_cons_succ]
          try simp only [e1]
          try simp only [g1, g2]
          refine wpAnyH_take (i := 12) (v := ?_) rfl (by kernel_rfl) (by kernel_rfl) (by kernel_rfl) (fun _ _ _ h => by cases h.1) (Or.inl ⟨by rfl, ?_⟩) (by assumption) ?_
          rotate_left
          · intro w hSw; (try dsimp only at hSw); go_simp <;> with_reducible rfl
          try simp only [Act.put, List.getElem_toArray, List.getElem_cons_zero, List.getElem_cons_succ, List.setIfInBounds_toArray, List.set_cons_zero, List.set_cons_succ]
          try simp only [e1]
          try simp only [g1, g2]
          refine wpAnyH_take (i := 13) (v := ?_) rfl (by kernel_rfl) (by kernel_rfl) (by kernel_rfl) (fun _ _ _ h => by cases h.1) (Or.inl ⟨by rfl, ?_⟩) (by assumption) ?_
          rotate_left
          · intro w hSw; (try dsimp only at hSw); go_simp <;> with_reducible rfl
          try simp only [Act.put, List.getElem_toArray, List.getElem_cons_zero, List.getElem_cons_succ, List.setIfInBounds_toArray, List.set_cons_zero, List.set_cons_succ]
          refine wpAnyH_take (i := 15) (v := ?_) rfl (by kernel_rfl) (by kernel_rfl) (by kernel_rfl) (fun _ _ _ h => by cases h.1) (Or.inl ⟨by rfl, ?_⟩) (by assumption) ?_
          rotate_left
          · intro w hSw; (try dsimp only at hSw); go_simp <;> with_reducible rfl
          try simp only [Act.put, List.getElem_toArray, List.getElem_cons_zero, List.getElem_cons_succ, List.setIfInBounds_toArray, List.set_cons_zero, List.set_cons_succ]
          refine wpAnyH_take (i := 16) (v := ?_) rfl (by kernel_rfl) (by kernel_rfl) (by kernel_rfl) (fun _ _ _ h => by cases h.1) (Or.inl ⟨by rfl, ?_⟩) (by assumption) ?_
          rotate_left
          · intro w hSw; (try dsimp only at hSw); go_simp <;> with_reducible rfl
          try simp only [Act.put, List.getElem_toArray, List.getElem_cons_zero, List.getElem_cons_succ, List.setIfInBounds_toArray, List.set_cons_zero, List.set_cons_succ]
          refine wpAnyH_take (i := 18) (v := ?_) rfl (by kernel_rfl) (by kernel_rfl) (by kernel_rfl) (fun _ _ _ h => by cases h.1) (Or.inl ⟨by rfl, ?_⟩) (by assumption) ?_
          rotate_left
          · intro w hSw; (try dsimp only at hSw); go_simp <;> with_reducible rfl
          try simp only [Act.put, List.getElem_toArray, List.getElem_cons_zero, List.getElem_cons_succ, List.setIfInBounds_toArray, List.set_cons_zero, List.set_cons_succ]
          refine wpAnyH_ready (rs := [14]) (by kernel_rfl) (by simp) ?_
          refine AllReadyH.cons rfl (fun K hK => ?_) AllReadyH.nil
          go_simp
          refine (hG.out y1 ky1).mono ?_
          rintro e y2 ⟨gb, gd, gm, rfl, hs2, ho2, hb2, hc2, hm2, kk2⟩
          (try go_wp2_with fail)
          refine hK.out _ _ ?_ (fun hHeld => ?_)
          · exact hSk.out _ (ky1.trans kk2 (by simp))
          clear hK K
          try simp only [Act.put, List.getElem_toArray, List.getElem_cons_zero, List.getElem_cons_succ, List.setIfInBounds_toArray, List.set_cons_zero, List.set_cons_succ]
          have ky2 := ky1.trans kk2 (by simp)
          have hl2 := hML.out gm hb2
          have aS := hid (hSm.out y2 gb gd gm ky2 hs2 ho2 hb2)
          have i1 : (0 : Int) ≤ (vl.length : Int) := by omega
          have i2 : (vl.length : Int) ≤ (gd : Int) := by omega
          have i3 : vl.length ≤ gd := by omega
          clear hs2 ho2 hb2 kk2
          refine wpAnyH_take (i := 17) (v := ?_) rfl (by kernel_rfl) (by kernel_rfl) (by kernel_rfl) (fun _ _ _ h => by cases h.1) (Or.inl ⟨by rfl, ?_⟩) (by assumption) ?_
          rotate_left
          · intro w hSw; (try dsimp only at hSw); go_simp <;> with_reducible rfl
          try simp only [Act.put, List.getElem_toArray, List.getElem_cons_zero, List.getElem_cons_succ, List.setIfInBounds_toArray, List.set_cons_zero, List.set_cons_succ]
          refine wpAnyH_ready (rs := [19]) (by kernel_rfl) (by simp) ?_
          refine AllReadyH.cons rfl (fun K hK => ?_) AllReadyH.nil
          go_simp
          refine aS.out.mono ?_
          rintro e y3 ⟨rfl, kk3⟩
          (try go_wp2_with fail)
          refine hK.out _ _ ?_ (fun hHeld => ?_)
          · exact hSk.out _ (ky2.trans kk3 (by simp))
          clear hK K
          try simp only [Act.put, List.getElem_toArray, List.getElem_cons_zero, List.getElem_cons_succ, List.setIfInBounds_toArray, List.set_cons_zero, List.set_cons_succ]
          have ky3 := ky2.trans kk3 (by simp)
          obtain ⟨s2, f2⟩ := hq2f.out y3 ky3
          clear kk3 aS
          refine wpAnyH_take (i := 20) (v := ?_) rfl (by kernel_rfl) (by kernel_rfl) (by kernel_rfl) (fun _ _ _ h => by cases h.1) (Or.inl ⟨by rfl, ?_⟩) (by assumption) ?_
          rotate_left
          · intro w hSw; (try dsimp only at hSw); go_simp <;> with_reducible rfl
          try simp only [Act.put, List.getElem_toArray, List.getElem_cons_zero, List.getElem_cons_succ, List.setIfInBounds_toArray, List.set_cons_zero, List.set_cons_succ]
          try simp only [e1]
          try simp only [g1, g2]
          have k4 : Kp [q2] y3 (y3.setCell ⟨q2, 0, none⟩ (.bool true)) := (Kp.refl _ _).setCell (by simp) _
          have hqq : q4 ≠ q2 ∧ q6 ≠ q2 ∧ q9 ≠ q2 ∧ D ≠ q2 ∧ D1 ≠ q2 ∧ D1 ≠ D := by
            have h4 := hKK.out.2.2.2.2.2.l4
            have h6 := hKK.out.2.2.2.2.2.l6
            have h9 := hKK.out.2.2.2.2.2.l9
            have h1 := hKK.out.2.2.2.2.2.l1
            have hd := hKK.out.2.2.2.1
            omega
          have hS4 : Hid ((y3.setCell ⟨q2, 0, none⟩ (.bool true)).cell? ⟨q9, 0, none⟩ = some (.int .i64 (vl.length : Int)) ∧ (y3.setCell ⟨q2, 0, none⟩ (.bool true)).cell? ⟨q6, 0, none⟩ = some (.slice va vl.length vc) ∧ (y3.setCell ⟨q2, 0, none⟩ (.bool true)).cell? ⟨q4, 0, none⟩ = some (.pointer (some ⟨p, 0, none⟩))) := by
            obtain ⟨h1, h2, h3⟩ := hSk.out _ ky3
            exact ⟨(k4.cell (p := ⟨q9, 0, none⟩) (World.block_lt_of_cell? _ _ h1) (by simpa using hqq.2.2.1)).trans h1, (k4.cell (p := ⟨q6, 0, none⟩) (World.block_lt_of_cell? _ _ h2) (by simpa using hqq.2.1)).trans h2, (k4.cell (p := ⟨q4, 0, none⟩) (World.block_lt_of_cell? _ _ h3) (by simpa using hqq.1)).trans h3⟩
          have hcF : Hid ((y3.setCell ⟨q2, 0, none⟩ (.bool true)).cell? ⟨q2, 0, none⟩ = some (.bool true)) := World.cell?_setCell_same _ _ _ s2
          have hk4 := hid k4
          clear k4
          refine wpAnyH_ready (rs := [21]) (by kernel_rfl) (by simp) ?_
          refine AllReadyH.cons rfl (fun K hK => ?_) AllReadyH.nil
          go_simp
          (try go_wp2_with fail)
          refine hK.out _ _ ?_ (fun hHeld => ?_)
          · exact hS4.out
          clear hK K
          try simp only [Act.put, List.getElem_toArray, List.getElem_cons_zero, List.getElem_cons_succ, List.setIfInBounds_toArray, List.set_cons_zero, List.set_cons_succ]
          refine wpAnyH_done (by kernel_rfl) ⟨rfl, ?_⟩ _
          obtain ⟨X2, hX2⟩ : ∃ X2, y3.setCell ⟨q2, 0, none⟩ (.bool true) = X2 := ⟨_, rfl⟩
          rw [hX2] at hk4 hcF ⊢
          have kX2 : Kp [q2] X X2 := (ky3.mono (by simp)).trans hk4.out (fun k hk => .inl hk)
          have hDX : Hid (X2.heap[D]? = some (.deferred (some []))) := (kX2.block D (Array.getElem?_eq_some_iff.1 hKK.out.2.1).1 (by simpa using hqq.2.2.2.1)).trans hKK.out.2.1
          have hD1X : X2.heap[D1]? = some (.deferred (some [])) := (kX2.block D1 (Array.getElem?_eq_some_iff.1 hKK.out.2.2.1).1 (by simpa using hqq.2.2.2.2.1)).trans hKK.out.2.2.1
          have hne : D1 ≠ D := hqq.2.2.2.2.2
          have g2 : Hid ((X2.putObj D (.deferred none)).heap[D1]? = some (.deferred (some []))) := (World.putObj_heap_other hne).trans hD1X
          have kD : Kp [D, D1] X2 ((X2.putObj D (.deferred none)).putObj D1 (.deferred none)) := ⟨rfl, rfl, rfl, by simp, fun k hk hn => (World.putObj_heap_other (by simp at hn; exact hn.2)).trans (World.putObj_heap_other (by simp at hn; exact hn.1))⟩
          have cF : Hid (((X2.putObj D (.deferred none)).putObj D1 (.deferred none)).cell? ⟨q2, 0, none⟩ = some (.bool true)) := (kD.cell (p := ⟨q2, 0, none⟩) (World.block_lt_of_cell? _ _ hcF.out) (by simp; omega)).trans hcF.out
          have hF : Hid (Below w.heap.size w ((X2.putObj D (.deferred none)).putObj D1 (.deferred none))) := by
            have h1 := hKK.out.2.2.2.2.2.l1
            have hd := hKK.out.2.2.2.1
            exact (((kA'.out.trans hKK.out.1 (by simp)).trans kX2 (fun k hk => .inr (by simp at hk; omega))).trans kD (fun k hk => .inr (by simp at hk; omega))).below
          clear kD kX2 hD1X hKK hqq hk4 hcF s2 f2 hX2 hS4 hHeld
          go_wp2_with fail
          have cF := cF.out
          refine ⟨by simp, .inl ⟨_, _, rfl, run_takeDeferred hDX.out, ?_⟩⟩
          refine ⟨by simp, .inl ⟨_, _, rfl, run_takeDeferred g2.out, ?_⟩⟩
          exact ⟨.bool true, by simp [results, Tryd.results7, go_sem, cF], rfl, hF.out⟩
        case stop =>
          rintro D c s X hD _ h hK
          exact h.elim
end Go.Proofs.YtfpmolajpmljmaaDoor
end

section
namespace Go.Proofs.YtfpmolajpmljmaaDoor
open Go.ChangeShapes Go.WideShapes Go.ChangeAt Go.RowKit Go.Hay
set_option linter.unusedVariables false

set_option maxRecDepth 100000 in
theorem redoRangeContract (H : Type) (enc : TypeId × Value → H) (W : World) (base : Nat) (args : Array Value) (ds gs : List (DataW H)) (before : List MemPlace)
    (hval : ∀ (j : Nat) t v, Tryd.f7.params[j]? = some t → args[j]? = some v → Value.okWide Tryd.prog W .any base t v)
    (hW : DataW.Whole enc Tryd.prog Tryd.f7.params.toList Rows.redoRangeSpec.vars false W args.toList ds gs before)
    (hsz : (DataW.weightsEach Tryd.prog (Tryd.f7.params.toList ++ (Rows.OpenSpec.upto Rows.redoRangeSpec).bare.plain.varTypes Tryd.prog) (ds ++ gs)).all (· ≤ reachBytes) = true)
    (hk : Rows.uptoSmall H (ds ++ gs) = true)
    (hL : laidMetH Tryd.prog Rows.redoRangeUptoRow.laid W) :
    Calls Tryd.prog 7 args W fun e W' => ∃ v, e = .returned v ∧ Rows.redoRangeSpec.post enc Tryd.prog Tryd.f7 false true false false W args v W' := by
  have hW' := hW
  obtain ⟨p, q, hA0, hV, rfl, hfz, hnd⟩ := hW
  have hA : DataW.TrodAll enc Tryd.prog W 0 (fun _ => true) true Tryd.f7.params.toList args.toList ds p := hA0
  rw [Tryd.params7] at hA hval hsz
  obtain ⟨v0, vs0, d0, ds0, p0, q0, hargs, rfl, rfl, h0, r0⟩ := trodAll_cons hA
  obtain ⟨rfl, rfl, rfl⟩ := trodAll_nil r0
  obtain rfl : args = #[v0] := by cases args; simp_all
  obtain ⟨rfl, rfl⟩ := trodVars_none hV
  obtain ⟨a0, len0, cap0, rfl⟩ := okWide_slice Tryd.underlying32 (hval 0 32 v0 rfl rfl)
  have k0 := h0
  have lt0 : ∀ x ∈ p0, x.block < W.heap.size := by obtain ⟨m, hm⟩ := k0; exact DataW.trod_lt m _ _ _ hm
  obtain ⟨l0, rfl, hs0, hok0, hl0, hm0, hn0, hfit0, hbk0, hcp0⟩ := openBlls h0
  obtain ⟨hc0, hq0⟩ := hfit0 (List.all_eq_true.2 fun x hx => List.all_eq_true.1 hsz x (by simp [DataW.weightsEach]; first | exact .inl hx | exact .inr hx | exact .inr (.inl hx) | exact .inr (.inr hx) | exact hx))
  have hbk := of_decide_eq_true hk
  simp only [List.append_nil, Rows.uptoBulkAll] at hbk
  clear hA0
  refine (rangeWalk9 a0 cap0 l0 W (table hL) hs0 hok0 (by omega) (by omega)).mono fun e W' ⟨he, bel⟩ => ?_
  subst he
  exact ⟨_, rfl, _, _, _, [], _, [], hW', trodAll_mk1 (shut_bool Tryd.underlying4 _), (trodAll_cons_mk (Below.trod Tryd.laidOut (by kernel_rfl) (of_decide_eq_true (by kernel_rfl)) k0 bel lt0) trodAll_mk0), rfl, bel.frame _, fun h => by cases h⟩

set_option maxRecDepth 100000 in
theorem redoRangeLifted (os : Os) (started : os.Started) (H : Type) (enc : TypeId × Value → H) (F : Stop.Interp) :
    ReturnsInHanded {} Tryd.checked os 7 .any ((Rows.OpenSpec.upto Rows.redoRangeSpec).preRow enc Tryd.prog Tryd.f7 Rows.redoRangeUptoRow.domain false Rows.redoRangeUptoRow.laid) (((Rows.OpenSpec.upto Rows.redoRangeSpec).at F).post enc Tryd.prog Tryd.f7 false true false false) := by
  refine returnsInHanded_of_row (C := Tryd.checked) (s := Rows.OpenSpec.upto Rows.redoRangeSpec) Tryd.own started (by kernel_rfl) Tryd.func7
    (witness_row_at (enc := enc) (C := Tryd.checked) false ({ World.holding Tryd.prog os ⟨#[], #[], []⟩ with heap := (World.holding Tryd.prog os ⟨#[], #[], []⟩).heap.modify 0 fun
      | .cells _ t frozen => .cells tabCells t frozen
      | o => o }) #[.slice none 0 0] rfl (by kernel_rfl) (by kernel_rfl) (by kernel_rfl)
      (OpenSpec.preRow_of_cond (x := ([.nil], [], [])) 8 (by kernel_rfl) (by kernel_rfl) (fun k hk => by cases hk; kernel_rfl) (by kernel_rfl) (laidMet_of_run' 8 (by kernel_rfl) (by kernel_rfl)))) ?_
  intro W base args ds gs before hval hW _ hcond hsz hL _ _
  exact redoRangeContract H enc W base args ds gs before hval hW hsz (hcond _ rfl) hL

theorem redoRangeSaid : Rows.RedoRangeUptoSaid :=
  OpenClaim.holds_of_cond 7 Tryd.f7 rfl rfl rfl rfl rfl rfl rfl ⟨rfl, rfl, rfl, rfl, rfl⟩ rfl rfl rfl rfl rfl (by kernel_rfl) Tryd.func7 (by kernel_rfl)
    (of_decide_eq_true (by kernel_rfl)) (by unfold Func.isWrapper; first | (rw [if_pos (by decide +kernel)]; kernel_rfl) | (rw [if_neg (by decide +kernel)]; exact ⟨rfl, rfl⟩))
    (fun os started H enc _ F => by rw [OpenClaim.pre_eq_preRow]; exact redoRangeLifted os started H enc F)

theorem redoRangePlain (f : FuncId) (fn : Func) (hf : Tryd.pinned.checked.prog.funcNamed "hayloft/hayloftlaw09.RedoRange" = some f) (hfn : Tryd.pinned.checked.prog.funcs[f]? = some fn) :
    false = Tryd.pinned.checked.prog.looks [] ∧ ∀ (j : Nat) t, fn.params[j]? = some t → Tryd.pinned.checked.prog.wantsStandIn t = false := by
  obtain rfl : f = 7 := Option.some.inj ((show Tryd.prog.funcNamed "hayloft/hayloftlaw09.RedoRange" = some 7 by kernel_rfl).symm.trans hf) |>.symm
  obtain rfl : fn = Tryd.f7 := (Option.some.inj (Tryd.func7.symm.trans hfn)).symm
  refine ⟨by kernel_rfl, fun j t ht => ?_⟩
  rw [Tryd.params7] at ht
  have hm := Array.mem_of_getElem? ht
  have h2 : t = 32 := by first | (simpa using hm) | (rcases (show t = 32 from by simpa using hm) with h <;> simp [h])
  subst h2
  exact (show Tryd.prog.wantsStandIn 32 = false by kernel_rfl)

theorem RedoRange_holds : Rows.RedoRangeUptoCardSaid :=
  Claim7.holds_tied_plain_at .later [] _ _ _ _ redoRangeSaid (fun _ h => by cases h) (by kernel_rfl) (fun _ h => by cases h) redoRangeUpto_row_tie rfl ⟨rfl, rfl⟩ (by kernel_rfl) rfl redoRangePlain (by kernel_rfl)
#print axioms RedoRange_holds
end Go.Proofs.YtfpmolajpmljmaaDoor
end

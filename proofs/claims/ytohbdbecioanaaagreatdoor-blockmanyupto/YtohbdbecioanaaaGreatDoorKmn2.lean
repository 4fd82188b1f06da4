/- Blocks of many lists, written one behind the other, give all values that were written; where what is given is of bulk at most 1048576. -/
import Derived.Test.YtohbdbecioanaaaGreatDoorKmn1
import Derived.Test.YtohbdbecioanaaaGreatDoorB3
import Derived.SizedLaws
import Derived.JoinedCond
import Derived.Deep.CondSized
section
namespace Go.Proofs.YtohbdbecioanaaaGreatDoor
open Go.RowKit Go.Hay
attribute [local go_sem] Oper.semAt_some
set_option linter.unusedVariables false
set_option linter.unusedSimpArgs false

theorem neVV (v : Val) (w : World) : (binOp .neq 30 (.agg #[.int .i64 v.k, .bool v.b, .int .i64 v.n, .string v.t]) (.agg #[.int .i64 v.k, .bool v.b, .int .i64 v.n, .string v.t])).run Tryz.prog w = .ok (.bool false) w := by
  rw [run_neq_struct, run_equalIn_agg (ht := by kernel_rfl) (hp := by kernel_rfl)]
  simp [go_sem]
theorem results_cell_oneB {fn : Func} {t : Tmp} {tmps : Array Value} {w : World} {g : Nat} {v : Value} (h : fn.results = #[.cell t 4]) (hp : tmps.getD t undef = .pointer (some ⟨g, 0, none⟩)) (hc : w.cell? ⟨g, 0, none⟩ = some v) :
    (results fn tmps).run Tryz.prog w = .ok v w := by
  have hp' : tmps[t]?.getD undef = .pointer (some ⟨g, 0, none⟩) := by simpa using hp
  simp [results, h, hp', asAddr, loadVar, hc, go_sem]
theorem eqlFuncNil {P : Program} {t : TypeId} {ps rs : Array TypeId} {v : Bool} (h : P.underlying t = some (.func ps rs v)) (f : Fn) (fi ca : Array Value) (w : World) : (binOp .eql t (.func f fi ca) .nilFunc).run P w = .ok (.bool false) w := by
  have e0 : ∀ d : Nat, (Op.equalIn (d + 1) t (.func f fi ca) .nilFunc).run P w = .ok false w := fun d => by simp [Op.equalIn, run_underlying h]
  have e : (Op.equal t (.func f fi ca) .nilFunc).run P w = .ok false w := e0 9999
  simp only [binOp]
  simp [e]
theorem wp_noPanic {P : Program} {c : Code} {Q : Exit → Act → World → Prop} {a : Act} {w : World} (h : c.wp P (fun e a w => e = .normal ∧ Q e a w) a w) : c.wp P Q a w := wp_mono h (fun _ _ _ h => h.2)
theorem vsAt {w : World} {a : Option Addr} {l : List Vs} (h : VsE.See w a l) {k : Nat} {x : Vs} (hx : l[k]? = some x) : ∃ g o, a = some ⟨g, o, none⟩ ∧ w.cell? ⟨g, o + k, none⟩ = some (.slice x.a x.l.length x.c) := by
  obtain ⟨g, o, e, hc⟩ := h.at hx
  refine ⟨g, o, e, ?_⟩
  have := hc 0 _ rfl
  simpa [VsE] using this
theorem intAt {w : World} {a : Option Addr} {l : List Int} (h : IntE.See w a l) {k : Nat} {x : Int} (hx : l[k]? = some x) : ∃ g o, a = some ⟨g, o, none⟩ ∧ w.cell? ⟨g, o + k, none⟩ = some (.int .i64 x) := by
  obtain ⟨g, o, e, hc⟩ := h.at hx
  refine ⟨g, o, e, ?_⟩
  have := hc 0 _ rfl
  simpa [IntE] using this
theorem kAt_in {K : List Int} {j : Nat} (h : j < K.length) : kAt K j = K[j] := by unfold kAt; rw [dif_pos h]
theorem kAt_out {K : List Int} {j : Nat} (h : ¬ j < K.length) : kAt K j = -1 := by unfold kAt; rw [dif_neg h]
theorem le_sumN : ∀ {l : List Nat} {x : Nat}, x ∈ l → x ≤ l.sum
  | y :: r, x, h => by
    rw [List.sum_cons]
    rcases List.mem_cons.1 h with rfl | h
    · omega
    · have := le_sumN h; omega
def LL (L : List Vs) : List (List Val) := L.map (·.l)
theorem LL_drop {L : List Vs} {j : Nat} (h : j < L.length) : (LL L).drop j = L[j].l :: (LL L).drop (j + 1) := by
  unfold LL
  rw [List.drop_eq_getElem_cons (by simpa using h)]
  simp
theorem LL_end {L : List Vs} {j : Nat} (h : ¬ j < L.length) : (LL L).drop j = [] := List.drop_eq_nil_of_le (by unfold LL; simp; omega)
/-- How the loop stands. -/
structure BmI (w2 : World) (q6 : Nat) (K : List Int) (L : List Vs) (BS : List UInt8) (VS : List Val) (j : Nat) (bs : List UInt8) (vs : List Val) : Prop where
  b : bs ++ mB K j ((LL L).drop j) = BS
  v : vs ++ mV K j ((LL L).drop j) = VS
theorem BmI.some {w2 : World} {q6 : Nat} {K : List Int} {L : List Vs} {BS : List UInt8} {VS : List Val} {j : Nat} {bs : List UInt8} {vs : List Val} (h : BmI w2 q6 K L BS VS j bs vs) (hj : j < L.length) (he : (wrB (kAt K j) L[j].l).2 = 0) :
    BmI w2 q6 K L BS VS (j + 1) (bs ++ (wrB (kAt K j) L[j].l).1) (vs ++ L[j].l) := by
  have hb := h.b
  have hv := h.v
  rw [LL_drop hj, mB] at hb
  rw [LL_drop hj, mV, if_pos he] at hv
  exact ⟨by rw [List.append_assoc]; exact hb, by rw [List.append_assoc]; exact hv⟩
theorem BmI.none {w2 : World} {q6 : Nat} {K : List Int} {L : List Vs} {BS : List UInt8} {VS : List Val} {j : Nat} {bs : List UInt8} {vs : List Val} (h : BmI w2 q6 K L BS VS j bs vs) (hj : j < L.length) (he : (wrB (kAt K j) L[j].l).2 ≠ 0) :
    BmI w2 q6 K L BS VS (j + 1) bs vs := by
  have hb := h.b
  have hv := h.v
  rw [LL_drop hj, mB, wrB_not he, List.nil_append] at hb
  rw [LL_drop hj, mV, if_neg he, List.nil_append] at hv
  exact ⟨hb, hv⟩
theorem BmI.done {w2 : World} {q6 : Nat} {K : List Int} {L : List Vs} {BS : List UInt8} {VS : List Val} {j : Nat} {bs : List UInt8} {vs : List Val} (h : BmI w2 q6 K L BS VS j bs vs) (hj : ¬ j < L.length) : bs = BS ∧ vs = VS := by
  have hb := h.b
  have hv := h.v
  rw [LL_end hj, mB, List.append_nil] at hb
  rw [LL_end hj, mV, List.append_nil] at hv
  exact ⟨hb, hv⟩
theorem BmI.le {w2 : World} {q6 : Nat} {K : List Int} {L : List Vs} {BS : List UInt8} {VS : List Val} {j : Nat} {bs : List UInt8} {vs : List Val} (h : BmI w2 q6 K L BS VS j bs vs) : bs.length ≤ BS.length ∧ vs.length ≤ VS.length := by
  have hb := congrArg List.length h.b
  have hv := congrArg List.length h.v
  rw [List.length_append] at hb hv
  omega
set_option maxHeartbeats 64000000 in
set_option maxRecDepth 100000 in
theorem walkBM (la : Option Addr) (lc : Nat) (L : List Vs) (ka : Option Addr) (kc : Nat) (K : List Int) (w : World) (ht0 : Tab w) (hsL : VsE.See w la L) (hoL : ∀ y ∈ L, y.ok w) (hLc : L.length ≤ lc) (hLm : lc ≤ maxLen) (hsK : IntE.See w ka K) (hKc : K.length ≤ kc) (hKm : kc ≤ maxLen) (hL : L.length ≤ 1048576) (hV : (L.map fun y => y.l.length).sum ≤ 1048576) :
    CallsIn Fence.wide 9 Tryz.prog 4 #[.slice la L.length lc, .slice ka K.length kc] w fun e w' => e = .returned (.bool true) ∧ Kp [] w w' := by
  obtain ⟨w1, hw1, k1, b1⟩ : ∃ w1, w.alloc (.cells #[.bool false] 4) = w1 ∧ Kp [] w w1 ∧ Bx w1 w.heap.size [.bool false] := ⟨_, rfl, (Kp.refl _ _).alloc _, Bx.new w _ _⟩
  obtain ⟨w2, hw2, k2, b2⟩ : ∃ w2, w1.alloc (.cells #[.slice none 0 0] 23) = w2 ∧ Kp [] w1 w2 ∧ Bx w2 w1.heap.size [.slice none 0 0] := ⟨_, rfl, (Kp.refl _ _).alloc _, Bx.new w1 _ _⟩
  obtain ⟨q4, hq4⟩ : ∃ q, Hid (w.heap.size = q) := ⟨_, rfl⟩
  obtain ⟨q6, hq6⟩ : ∃ q, Hid (w1.heap.size = q) := ⟨_, rfl⟩
  rw [hq4.out] at b1
  rw [hq6.out] at b2
  have b12 := b1.kept k2 (by simp) (b1.lt (by simp))
  have kw2 := k1.trans k2 (by simp)
  have hq46 : q4 < q6 := by rw [← hq6.out]; exact b1.lt (by simp)
  have hq4w : w.heap.size ≤ q4 := by rw [hq4.out]; omega
  have hq62 : q6 < w2.heap.size := b2.lt (by simp)
  have hi64 : ∀ x ∈ LL L, ∀ y ∈ x, y.in64 := fun x hx y hy => by
    obtain ⟨z, hz, rfl⟩ := List.mem_map.1 hx
    have := (hoL z hz).val y hy
    exact this.2.1
  have hBS := mB_len K (LL L) 0
  have hVS := mV_len K (LL L) 0
  have hAV := allV_many K (LL L) 0 hi64
  have eLL : (LL L).map List.length = L.map fun y => y.l.length := by unfold LL; rw [List.map_map]; rfl
  have eLn : (LL L).length = L.length := by unfold LL; simp
  rw [eLn] at hBS
  rw [eLL] at hVS
  have hI0 : BmI w2 q6 K L (mB K 0 (LL L)) (mV K 0 (LL L)) 0 [] [] := ⟨rfl, rfl⟩
  obtain ⟨BS, hBSe⟩ : ∃ B, Hid (mB K 0 (LL L) = B) := ⟨_, rfl⟩
  obtain ⟨VS, hVSe⟩ : ∃ B, Hid (mV K 0 (LL L) = B) := ⟨_, rfl⟩
  rw [hBSe.out, hVSe.out] at hI0 hAV
  rw [hBSe.out] at hBS
  rw [hVSe.out] at hVS
  have hBSb : BS.length ≤ 20000000000 := by omega
  have hVSb : VS.length ≤ 1048576 := by omega
  have HI0 := hid hI0
  have HAV := hid hAV
  have hM0 : Hid (MI w2 q6 w2 none 0 [] none 0 []) := ⟨.inl ⟨rfl, rfl⟩, .inl ⟨rfl, rfl⟩, by simp [blk], by simp [blk], by simp [blk], b2, Kp.refl _ _⟩
  have hal : Hid (∀ W, Kp [] w W → Calls Tryz.prog 7 #[] W fun e w' => e = .returned (.bool true) ∧ Kp [] W w') := fun W k => bAlive W (ht0.kept k (by simp))
  have hcA : Hid (∀ a c bs W, Kp [] w W → Sees W a bs → bs.length ≤ 200000000000000 → Calls Tryz.prog 6 #[.slice a bs.length c] W (AllP bs W)) := fun a c bs W kW hs hb => cAll a c bs W (ht0.kept kW (by simp)) hs hb
  have hWr : Hid (∀ (j : Nat) (hj : j < L.length) k W, Kp [] w W → Calls Tryz.prog 8 #[.int .i64 k, .slice L[j].a L[j].l.length L[j].c] W (BsP (wrB k L[j].l) W)) := fun j hj k W kW => by
    have ho := hoL L[j] (List.getElem_mem hj)
    exact cWriteB k _ _ _ W (ht0.kept kW (by simp)) (ho.see.kept kW) ho.cap ho.most
  have hVl : Hid (∀ (j : Nat) (hj : j < L.length) W, Kp [] w W → Vals W L[j].a L[j].l ∧ L[j].l.length ≤ 1048576) := fun j hj W kW => by
    have ho := hoL L[j] (List.getElem_mem hj)
    refine ⟨ho.see.kept kW, ?_⟩
    have : L[j].l.length ∈ L.map fun y => y.l.length := List.mem_map.2 ⟨L[j], List.getElem_mem hj, rfl⟩
    have := le_sumN this
    omega
  have hcL : Hid (∀ (j : Nat) (hj : j < L.length), ∃ g o, la = some ⟨g, o, none⟩ ∧ w.cell? ⟨g, o + j, none⟩ = some (.slice L[j].a L[j].l.length L[j].c)) := fun j hj => vsAt hsL (by simp [hj])
  have hcK : Hid (∀ (j : Nat) (hj : j < K.length), ∃ g o, ka = some ⟨g, o, none⟩ ∧ w.cell? ⟨g, o + j, none⟩ = some (.int .i64 K[j])) := fun j hj => intAt hsK (by simp [hj])
  have hgo : Hid (∀ W, Kp [q6] w2 W → Kp [] w W) := fun W k => kw2.trans k (fun x hx => .inr (by simp at hx; omega))
  have H2 := hid (And.intro b12 (And.intro b2 kw2))
  clear hsL hsK hoL ht0 k1 k2 b1 b2 b12 kw2 hi64 hI0 hAV hBSe hVSe hBS hVS eLL eLn hV
  refine callsIn_of_wp_marks Tryz.func4 rfl trivial ?_ rfl
  simp only [Tryz.ntmps4, List.size_toArray, List.length_cons, List.length_nil, Nat.reduceAdd, Nat.reduceSub, Array.replicate_succ, Array.replicate_zero, List.push_toArray, List.append_toArray, List.nil_append, List.cons_append]
  refine wpIn_wide.2 ?_
  have hq4' := hq4.out
  have hq6' := hq6.out
  go_wp2_with fail
  go_loopw [5, 17] (fun v5 i wn => ∃ (j : Nat) (ba : Option Addr) (bc : Nat) (bs : List UInt8) (va : Option Addr) (vc : Nat) (vs : List Val), j ≤ L.length ∧ i = .int .i64 j ∧ v5 = .slice ba bs.length bc ∧ Hid (MI w2 q6 wn ba bc bs va vc vs) ∧ Hid (BmI w2 q6 K L BS VS j bs vs)) (fun _ i _ => L.length - (intOf i).toNat)
  case atStart => exact ⟨0, none, 0, [], none, 0, [], Nat.zero_le _, rfl, rfl, hM0, HI0⟩
  case round =>
    obtain ⟨j, ba, bc, bs, va, vc, vs, hj, rfl, rfl, HM, hI⟩ := hrel
    clear HI0 hM0
    by_cases hlt : j < L.length
    · have kW := hgo.out _ HM.out.kp
      obtain ⟨g, o, ea, c00⟩ := hcL.out j hlt
      have c0 := hid c00
      have cL := (kW.cell (p := ⟨g, o + j, none⟩) (World.block_lt_of_cell? _ _ c00) (by simp)).trans c00
      have dj1 : (j : Int) < (L.length : Int) := by omega
      have dj0 : (0 : Int) ≤ (j : Int) := by omega
      have cW' := fun kk => hWr.out j hlt kk _ kW
      have hst' := fun he => hI.out.some hlt he
      have hno' := fun he => hI.out.none hlt he
      have hVl' := hVl.out j hlt
      obtain ⟨Y, hY⟩ : ∃ Y, L[j] = Y := ⟨_, rfl⟩
      rw [hY] at cL c0 c00 hVl'
      simp only [hY] at cW' hst' hno' hVl'
      obtain ⟨ya, yc, yl⟩ := Y
      dsimp only at cL c0 cW' hst' hno' hVl'
      have hVlj := hid hVl'
      clear c00 hY hVl'
      subst ea
      by_cases hk : j < K.length
      · obtain ⟨g2, o2, ea2, c20⟩ := hcK.out j hk
        have cK := (kW.cell (p := ⟨g2, o2 + j, none⟩) (World.block_lt_of_cell? _ _ c20) (by simp)).trans c20
        have dk1 : (j : Int) < (K.length : Int) := by omega
        have hst := hst'
        have hno := hno'
        rw [kAt_in hk] at hst hno
        obtain ⟨kk, hkk⟩ : ∃ kk, K[j] = kk := ⟨_, rfl⟩
        rw [hkk] at cK hst hno
        have cW := cW' kk
        subst ea2
        clear c20 hkk cW' hst' hno' kW
        have hRle := wrB_len kk yl
        obtain ⟨⟨R1, R2⟩, hR⟩ : ∃ R, Hid (wrB kk yl = R) := ⟨_, rfl⟩
        rw [hR.out] at cW hRle hst hno
        unfold BsP at cW
        dsimp only at cW hRle hst hno
        have HW := hid cW
        clear cW
        go_wp2_with fail
        refine HW.out.mono ?_
        rintro e w3 ⟨rb, rc, rfl, hrow3, k3, hn3⟩
        obtain ⟨rb', rc', erb, hs3, _⟩ := hrow3.sees
        cases erb
        have HM3 := hid (HM.out.keep k3)
        have kW3 := hgo.out w3 HM3.out.kp
        clear hrow3 hn3 k3 HW HM
        by_cases hE : R2 = 0
        · subst hE
          obtain ⟨ba4, bc4, w4, hrun4, hrow4, k4, hn4⟩ := appB HM3.out.b rb rc R1 hs3 (by have := hI.out.le; omega) (by omega)
          obtain ⟨B4, hB4⟩ : ∃ B, Hid (bs ++ R1 = B) := ⟨_, rfl⟩
          rw [hB4.out] at hrun4 hrow4
          have HM4 := hid (HM3.out.addB hq62 hrow4 k4 hn4)
          have kW4 := hgo.out w4 HM4.out.kp
          have hI2 := hst rfl
          rw [hB4.out] at hI2
          clear hs3 kW3 hrow4 k4 hn4 hst hno HM3
          go_wp2_with (first | (refine wpAppRun rfl _ _ 22 22 rfl _ _ _ rfl rfl hrun4 ?_) | fail)
          obtain ⟨va5, vc5, w5, hrun5, hrow5, k5, hn5⟩ := appV (HM4.out.v.keptNew ((Kp.refl [] w4).drew)) ya yc yl ((hVlj.out w4.drew kW4.drew).1) (by have := hI.out.le; omega) (by have := (hVlj.out w4 kW4).2; omega)
          obtain ⟨V5, hV5⟩ : ∃ B, Hid (vs ++ yl = B) := ⟨_, rfl⟩
          rw [hV5.out] at hrun5 hrow5 hI2
          have hM45 := HM4.out.keep ((Kp.refl [] w4).drew)
          have H5 := hM45.addV hq62 hrow5 k5 hn5
          have s6 := HM4.out.bx.get 0 _ rfl
          have s6b := H5.1.get 0 _ rfl
          have f6b := H5.1.free 0
          have H5' := hid H5.2
          have hI2' := hid hI2
          have cL4 := (kW4.cell (p := ⟨g, o + j, none⟩) (World.block_lt_of_cell? _ _ c0.out) (by simp)).trans c0.out
          have hgw : g < w.heap.size := World.block_lt_of_cell? _ _ c0.out
          have hw2w := (hgo.out w2 (Kp.refl _ _)).size
          have hgv : g ∉ blk va := fun hm => by have := HM4.out.vn g hm; omega
          have cL5 : w5.cell? ⟨g, o + j, none⟩ = some (.slice ya yl.length yc) := (k5.cell (p := ⟨g, o + j, none⟩) (World.block_lt_of_cell? _ _ cL4) hgv).trans cL4
          have hg6 : q6 ≠ g := by omega
          have cL6 : (w5.setCell ⟨q6, 0, none⟩ (.slice va5 V5.length vc5)).cell? ⟨g, o + j, none⟩ = some (.slice ya yl.length yc) := (World.cell?_setCell_other _ _ _ _ (fun e => hg6 (by injection e))).trans cL5
          have HC := hid (And.intro cL5 cL6)
          have s6' : w4.drew.cell? ⟨q6, 0, none⟩ = some (.slice va vs.length vc) := s6
          have cL4' : w4.drew.cell? ⟨g, o + j, none⟩ = some (.slice ya yl.length yc) := cL4
          clear hrun4 HM4 hM45 H5 hrow5 k5 hn5 kW4 hI2 hI s6 cL4 cL5 cL6 hgv hg6 cL hgw hw2w
          go_wp2_with fail
          refine wp_noPanic ?_
          refine wp_region_held_drew (S := fun A => A.cell? ⟨g, o + j, none⟩ = some (.slice ya yl.length yc)) (by kernel_rfl) ?_ (fun hHeld => ?_)
          · exact cL4'
          generalize w4.drew = wd at *
          refine wpAnyH_take (i := 1) (v := ?_) rfl (by kernel_rfl) (by kernel_rfl) (by kernel_rfl) (fun _ _ _ h => by cases h.1) (Or.inl ⟨by rfl, ?_⟩) (by assumption) ?_
          rotate_left
          · intro w hSw; (try dsimp only at hSw); go_simp <;> with_reducible rfl
          try simp only [Act.put, List.getElem_toArray, List.getElem_cons_zero, List.getElem_cons_succ, List.setIfInBounds_toArray, List.set_cons_zero, List.set_cons_succ]
          refine wpAnyH_take (i := 2) (v := ?_) rfl (by kernel_rfl) (by kernel_rfl) (by kernel_rfl) (fun _ _ _ h => by cases h.1) (Or.inl ⟨by rfl, ?_⟩) (by assumption) ?_
          rotate_left
          · intro w hSw; (try dsimp only at hSw); go_simp <;> with_reducible rfl
          try simp only [Act.put, List.getElem_toArray, List.getElem_cons_zero, List.getElem_cons_succ, List.setIfInBounds_toArray, List.set_cons_zero, List.set_cons_succ]
          refine wpAnyH_take (i := 3) (v := ?_) rfl (by kernel_rfl) (by kernel_rfl) (by kernel_rfl) (fun _ _ _ h => by cases h.1) (Or.inl ⟨by rfl, ?_⟩) (by assumption) ?_
          rotate_left
          · intro w hSw; (try dsimp only at hSw); go_simp <;> with_reducible rfl
          try simp only [Act.put, List.getElem_toArray, List.getElem_cons_zero, List.getElem_cons_succ, List.setIfInBounds_toArray, List.set_cons_zero, List.set_cons_succ]
          refine wpAnyH_take (i := 4) (v := ?_) rfl (by kernel_rfl) (by kernel_rfl) (by kernel_rfl) (fun _ _ _ h => by cases h.1) (Or.inl ⟨by rfl, ?_⟩) (by assumption) ?_
          rotate_left
          · intro w hSw; (try dsimp only at hSw); go_simp <;> with_reducible rfl
          try simp only [Act.put, List.getElem_toArray, List.getElem_cons_zero, List.getElem_cons_succ, List.setIfInBounds_toArray, List.set_cons_zero, List.set_cons_succ]
          refine wpAnyH_ready (rs := [0]) (by kernel_rfl) (by simp) ?_
          refine AllReadyH.cons rfl (fun K hK => ?_) AllReadyH.nil
          go_simp
          (try go_wp2_with fail)
          refine hK.out _ _ ?_ (fun hHeld => ?_)
          · exact cL4'
          clear hK K
          try simp only [Act.put, List.getElem_toArray, List.getElem_cons_zero, List.getElem_cons_succ, List.setIfInBounds_toArray, List.set_cons_zero, List.set_cons_succ]
          refine wpAnyH_ready (rs := [5]) (by kernel_rfl) (by simp) ?_
          refine AllReadyH.cons rfl (fun K hK => ?_) AllReadyH.nil
          refine stepAppRun rfl _ _ 23 23 rfl _ _ _ rfl rfl hrun5 ?_
          refine hK.out _ _ ?_ (fun hHeld => ?_)
          · exact HC.out.1
          clear hK K
          try simp only [Act.put, List.getElem_toArray, List.getElem_cons_zero, List.getElem_cons_succ, List.setIfInBounds_toArray, List.set_cons_zero, List.set_cons_succ]
          refine wpAnyH_ready (rs := [6]) (by kernel_rfl) (by simp) ?_
          refine AllReadyH.cons rfl (fun K hK => ?_) AllReadyH.nil
          go_simp
          (try go_wp2_with fail)
          refine hK.out _ _ ?_ (fun hHeld => ?_)
          · exact HC.out.2
          clear hK K
          try simp only [Act.put, List.getElem_toArray, List.getElem_cons_zero, List.getElem_cons_succ, List.setIfInBounds_toArray, List.set_cons_zero, List.set_cons_succ]
          refine wpAnyH_done (by kernel_rfl) ⟨rfl, ?_⟩ _
          go_wp2_with fail
          go_roundw
          case rel => exact ⟨j + 1, ba4, bc4, B4, va5, vc5, V5, by omega, by simp, rfl, H5', hI2'⟩
          case measure => simp [intOf]; omega
        · have d1 : (R2 != 0) = true := by simpa using hE
          have hI2 := hid (hno hE)
          clear hst hno hs3 kW3
          go_wp2_with fail
          go_roundw
          case rel => exact ⟨j + 1, ba, bc, bs, va, vc, vs, by omega, by simp, rfl, HM3, hI2⟩
          case measure => simp [intOf]; omega
      · have dk1 : decide ((j : Int) < (K.length : Int)) = false := by simp; omega
        have hst := hst'
        have hno := hno'
        rw [kAt_out hk] at hst hno
        have cW := cW' (-1)
        clear cW' hst' hno' kW
        have hRle := wrB_len (-1) yl
        obtain ⟨⟨R1, R2⟩, hR⟩ : ∃ R, Hid (wrB (-1) yl = R) := ⟨_, rfl⟩
        rw [hR.out] at cW hRle hst hno
        unfold BsP at cW
        dsimp only at cW hRle hst hno
        have HW := hid cW
        clear cW
        go_wp2_with fail
        refine HW.out.mono ?_
        rintro e w3 ⟨rb, rc, rfl, hrow3, k3, hn3⟩
        obtain ⟨rb', rc', erb, hs3, _⟩ := hrow3.sees
        cases erb
        have HM3 := hid (HM.out.keep k3)
        have kW3 := hgo.out w3 HM3.out.kp
        clear hrow3 hn3 k3 HW HM
        by_cases hE : R2 = 0
        · subst hE
          obtain ⟨ba4, bc4, w4, hrun4, hrow4, k4, hn4⟩ := appB HM3.out.b rb rc R1 hs3 (by have := hI.out.le; omega) (by omega)
          obtain ⟨B4, hB4⟩ : ∃ B, Hid (bs ++ R1 = B) := ⟨_, rfl⟩
          rw [hB4.out] at hrun4 hrow4
          have HM4 := hid (HM3.out.addB hq62 hrow4 k4 hn4)
          have kW4 := hgo.out w4 HM4.out.kp
          have hI2 := hst rfl
          rw [hB4.out] at hI2
          clear hs3 kW3 hrow4 k4 hn4 hst hno HM3
          go_wp2_with (first | (refine wpAppRun rfl _ _ 22 22 rfl _ _ _ rfl rfl hrun4 ?_) | fail)
          obtain ⟨va5, vc5, w5, hrun5, hrow5, k5, hn5⟩ := appV (HM4.out.v.keptNew ((Kp.refl [] w4).drew)) ya yc yl ((hVlj.out w4.drew kW4.drew).1) (by have := hI.out.le; omega) (by have := (hVlj.out w4 kW4).2; omega)
          obtain ⟨V5, hV5⟩ : ∃ B, Hid (vs ++ yl = B) := ⟨_, rfl⟩
          rw [hV5.out] at hrun5 hrow5 hI2
          have hM45 := HM4.out.keep ((Kp.refl [] w4).drew)
          have H5 := hM45.addV hq62 hrow5 k5 hn5
          have s6 := HM4.out.bx.get 0 _ rfl
          have s6b := H5.1.get 0 _ rfl
          have f6b := H5.1.free 0
          have H5' := hid H5.2
          have hI2' := hid hI2
          have cL4 := (kW4.cell (p := ⟨g, o + j, none⟩) (World.block_lt_of_cell? _ _ c0.out) (by simp)).trans c0.out
          have hgw : g < w.heap.size := World.block_lt_of_cell? _ _ c0.out
          have hw2w := (hgo.out w2 (Kp.refl _ _)).size
          have hgv : g ∉ blk va := fun hm => by have := HM4.out.vn g hm; omega
          have cL5 : w5.cell? ⟨g, o + j, none⟩ = some (.slice ya yl.length yc) := (k5.cell (p := ⟨g, o + j, none⟩) (World.block_lt_of_cell? _ _ cL4) hgv).trans cL4
          have hg6 : q6 ≠ g := by omega
          have cL6 : (w5.setCell ⟨q6, 0, none⟩ (.slice va5 V5.length vc5)).cell? ⟨g, o + j, none⟩ = some (.slice ya yl.length yc) := (World.cell?_setCell_other _ _ _ _ (fun e => hg6 (by injection e))).trans cL5
          have HC := hid (And.intro cL5 cL6)
          have s6' : w4.drew.cell? ⟨q6, 0, none⟩ = some (.slice va vs.length vc) := s6
          have cL4' : w4.drew.cell? ⟨g, o + j, none⟩ = some (.slice ya yl.length yc) := cL4
          clear hrun4 HM4 hM45 H5 hrow5 k5 hn5 kW4 hI2 hI s6 cL4 cL5 cL6 hgv hg6 cL hgw hw2w
          go_wp2_with fail
          refine wp_noPanic ?_
          refine wp_region_held_drew (S := fun A => A.cell? ⟨g, o + j, none⟩ = some (.slice ya yl.length yc)) (by kernel_rfl) ?_ (fun hHeld => ?_)
          · exact cL4'
          generalize w4.drew = wd at *
          refine wpAnyH_take (i := 1) (v := ?_) rfl (by kernel_rfl) (by kernel_rfl) (by kernel_rfl) (fun _ _ _ h => by cases h.1) (Or.inl ⟨by rfl, ?_⟩) (by assumption) ?_
          rotate_left
          · intro w hSw; (try dsimp only at hSw); go_simp <;> with_reducible rfl
          try simp only [Act.put, List.getElem_toArray, List.getElem_cons_zero, List.getElem_cons_succ, List.setIfInBounds_toArray, List.set_cons_zero, List.set_cons_succ]
          refine wpAnyH_take (i := 2) (v := ?_) rfl (by kernel_rfl) (by kernel_rfl) (by kernel_rfl) (fun _ _ _ h => by cases h.1) (Or.inl ⟨by rfl, ?_⟩) (by assumption) ?_
          rotate_left
          · intro w hSw; (try dsimp only at hSw); go_simp <;> with_reducible rfl
          try simp only [Act.put, List.getElem_toArray, List.getElem_cons_zero, List.getElem_cons_succ, List.setIfInBounds_toArray, List.set_cons_zero, List.set_cons_succ]
          refine wpAnyH_take (i := 3) (v := ?_) rfl (by kernel_rfl) (by kernel_rfl) (by kernel_rfl) (fun _ _ _ h => by cases h.1) (Or.inl ⟨by rfl, ?_⟩) (by assumption) ?_
          rotate_left
          · intro w hSw; (try dsimp only at hSw); go_simp <;> with_reducible rfl
          try simp only [Act.put, List.getElem_toArray, List.getElem_cons_zero, List.getElem_cons_succ, List.setIfInBounds_toArray, List.set_cons_zero, List.set_cons_succ]
          refine wpAnyH_take (i := 4) (v := ?_) rfl (by kernel_rfl) (by kernel_rfl) (by kernel_rfl) (fun _ _ _ h => by cases h.1) (Or.inl ⟨by rfl, ?_⟩) (by assumption) ?_
          rotate_left
          · intro w hSw; (try dsimp only at hSw); go_simp <;> with_reducible rfl
          try simp only [Act.put, List.getElem_toArray, List.getElem_cons_zero, List.getElem_cons_succ, List.setIfInBounds_toArray, List.set_cons_zero, List.set_cons_succ]
          refine wpAnyH_ready (rs := [0]) (by kernel_rfl) (by simp) ?_
          refine AllReadyH.cons rfl (fun K hK => ?_) AllReadyH.nil
          go_simp
          (try go_wp2_with fail)
          refine hK.out _ _ ?_ (fun hHeld => ?_)
          · exact cL4'
          clear hK K
          try simp only [Act.put, List.getElem_toArray, List.getElem_cons_zero, List.getElem_cons_succ, List.setIfInBounds_toArray, List.set_cons_zero, List.set_cons_succ]
          refine wpAnyH_ready (rs := [5]) (by kernel_rfl) (by simp) ?_
          refine AllReadyH.cons rfl (fun K hK => ?_) AllReadyH.nil
          refine stepAppRun rfl _ _ 23 23 rfl _ _ _ rfl rfl hrun5 ?_
          refine hK.out _ _ ?_ (fun hHeld => ?_)
          · exact HC.out.1
          clear hK K
          try simp only [Act.put, List.getElem_toArray, List.getElem_cons_zero, List.getElem_cons_succ, List.setIfInBounds_toArray, List.set_cons_zero, List.set_cons_succ]
          refine wpAnyH_ready (rs := [6]) (by kernel_rfl) (by simp) ?_
          refine AllReadyH.cons rfl (fun K hK => ?_) AllReadyH.nil
          go_simp
          (try go_wp2_with fail)
          refine hK.out _ _ ?_ (fun hHeld => ?_)
          · exact HC.out.2
          clear hK K
          try simp only [Act.put, List.getElem_toArray, List.getElem_cons_zero, List.getElem_cons_succ, List.setIfInBounds_toArray, List.set_cons_zero, List.set_cons_succ]
          refine wpAnyH_done (by kernel_rfl) ⟨rfl, ?_⟩ _
          go_wp2_with fail
          go_roundw
          case rel => exact ⟨j + 1, ba4, bc4, B4, va5, vc5, V5, by omega, by simp, rfl, H5', hI2'⟩
          case measure => simp [intOf]; omega
        · have d1 : (R2 != 0) = true := by simpa using hE
          have hI2 := hid (hno hE)
          clear hst hno hs3 kW3
          go_wp2_with fail
          go_roundw
          case rel => exact ⟨j + 1, ba, bc, bs, va, vc, vs, by omega, by simp, rfl, HM3, hI2⟩
          case measure => simp [intOf]; omega
    · obtain ⟨eb, ev⟩ := hI.out.done hlt
      subst eb ev
      have dj1 : ¬ (j : Int) < (L.length : Int) := by omega
      have dj2 : decide ((j : Int) < (L.length : Int)) = false := by simp; omega
      have kW := hid (hgo.out _ HM.out.kp)
      clear hI
      obtain ⟨ra, rc, era, hsW, -⟩ := (rowByt.1 HM.out.b).sees
      cases era
      have cB := hid (hcA.out ba bc bs _ kW.out hsW (by omega))
      have hsq := hid (fun q a' c' X (h1 : bs.length ≤ c') (h2 : c' ≤ maxLen) hA => allSeq 8 (by omega) q a' c' bs h1 h2 (by omega) X hA)
      simp only [HAV.out] at hsq
      have hb4 := (H2.out.1.kept HM.out.kp (by simp; omega) (H2.out.1.lt (by simp)))
      clear hsW hWr hVl hcL hcK HAV
      go_wp2_with fail
      refine cB.out.mono ?_
      rintro e w6 ⟨qb, ab, cb, rfl, hAt, hlb, hmb, k6, hqb, hbk⟩
      have hz6 := k6.size
      have hb6 := hb4.kept k6 (by simp) (hb4.lt (by simp))
      have hq6b : q6 < qb := by have := HM.out.bx.lt (by simp); omega
      have H6 := hid (And.intro hb6 (And.intro (HM.out.keep k6) (kW.out.trans k6 (by simp))))
      have hnf : ∀ W : World, (binOp .eql 26 (.func (.func 11) #[] #[.pointer (some ⟨qb, 0, none⟩)]) .nilFunc).run Tryz.prog W = .ok (.bool false) W := fun W => eqlFuncNil Tryz.underlying26 _ _ _ W
      have hAt' := hid hAt
      clear cB hAt k6 HM kW hb4 hb6 hw1 hw2 hq4' hq6'
      go_wp2_with fail
      refine (hal.out w6 H6.out.2.2).mono ?_
      rintro e w7 ⟨rfl, k7⟩
      have H7 := hid (And.intro (H6.out.1.kept k7 (by simp) (H6.out.1.lt (by simp))) (And.intro (H6.out.2.1.keep k7) (H6.out.2.2.trans k7 (by simp))))
      have hA7 := hid (hAt'.out.kept (KeepB.ofKp k7 (by simp)))
      obtain ⟨w8z, hw8z⟩ : ∃ w8, w7.alloc (.cells #[.int .i64 0] 3) = w8 := ⟨_, rfl⟩
      obtain ⟨q12, hq12⟩ : ∃ q, Hid (w7.heap.size = q) := ⟨_, rfl⟩
      have bz7 : Bx w8z q12 [.int .i64 0] := by rw [← hw8z, ← hq12.out]; exact Bx.new w7 [.int .i64 0] _
      have c7z := bz7.get 0 _ rfl
      have f7z := bz7.free 0
      obtain ⟨w8, hw8⟩ : ∃ w8, w8z.setCell ⟨q12, 0, none⟩ (.int .i64 0) = w8 := ⟨_, rfl⟩
      have b7 : Bx w8 q12 [.int .i64 0] := by rw [← hw8]; exact bz7.set 0 (by simp) _
      have k8 : Kp [] w7 w8 := by
        have kz : Kp [] w7 w8z := by rw [← hw8z]; exact (Kp.refl _ _).alloc _
        rw [← hw8]
        exact kz.setCell (.inr (by show w7.heap.size ≤ q12; rw [hq12.out]; omega)) _
      have hv7 := hid (rowVals H7.out.2.1.v).1
      have H8 := hid (And.intro (H7.out.1.kept k8 (by simp) (H7.out.1.lt (by simp))) (And.intro (H7.out.2.1.keep k8) (And.intro (H7.out.2.2.trans k8 (by simp)) b7)))
      have hbk7 : Hid (∀ j ∈ bk ab bs, j < w7.heap.size) := fun j hj => by
        unfold bk at hj
        split at hj
        · simp at hj
        · rename_i hne; exact hA7.out.sees.lt hne j hj
      have hA8 := hid (hA7.out.kept (KeepB.ofKp k8 (by simp)))
      have hqb7 : qb < q12 := by rw [← hq12.out]; exact World.block_lt_of_cell? _ _ hA7.out.box
      have kk8 := hid k8
      have hq12' := hq12.out
      have hq612 : q6 < q12 := by omega
      clear k7 H6 hAt' k8 b7 bz7 H7 hA7
      go_wp2_with fail
      refine (wpIn_wide (n := 9)).1 ?_
      have hseq := hsq.out qb ab cb w8 hlb hmb hA8.out
      have hz78 : q12 < w8.heap.size := H8.out.2.2.2.lt (by simp)
      have hjs0 : ∀ j ∈ 0 :: qb :: bk ab bs, j ≠ q12 ∧ j ≠ w8.heap.size ∧ j ≠ w8.heap.size + 1 := fun j hj => by
        have hlt : j < q12 := by
          simp only [List.mem_cons] at hj
          rcases hj with rfl | rfl | hj
          · omega
          · exact hqb7
          · rw [← hq12.out]; exact hbk7.out j hj
        omega
      refine wpRangeY rfl (by omega) (gf := 11) (lb := #[.pointer (some ⟨qb, 0, none⟩)]) rfl trivial (enters_of Tryz.func11 (by kernel_rfl) rfl)
        hseq (fun _ => rfl) KeepA.trans (fun s W o => KeepA.alloc s W o) (KeepA.refl _ _)
        (CoI w8 q12) (fun _ _ _ => False) (CoI.own hz78) (fun _ _ _ _ _ h _ _ => h) ⟨⟨rfl, rfl, rfl, Nat.le_refl _, fun _ _ _ => rfl, fun h => (by cases h), hjs0⟩, H8.out.2.2.2.get 0 _ rfl, H8.out.2.2.2.free 0⟩
        (fun s s' A B h ht k o hk ho => h.co.keeps ht k o hk ho) (fun _ _ _ _ h => h.elim) (fun s s' A B hz h ht => h.step hz78 hz ht) (fun _ _ _ _ h => h.elim)
        (fun s W o' h => h.co.recs o') (fun s x W o' h => CoX.recs (s := s) ⟨h.co.os, h.co.tape, h.co.output, h.co.size, h.co.low, h.co.mde, h.co.js⟩ o') (fun _ _ _ _ _ h => h.elim)
        (fun x => .cells #[.int .i64 x.v.k, .bool x.v.b, .int .i64 x.v.n, .string x.v.t] 30)
        (fun x q => { tmps := #[.slice la L.length lc, .slice ka K.length kc, undef, undef, .pointer (some ⟨q4, 0, none⟩), .slice ba bs.length bc, .pointer (some ⟨q6, 0, none⟩), u7, u8, u9, u10, .func (.func 11) #[] #[.pointer (some ⟨qb, 0, none⟩)], .pointer (some ⟨q12, 0, none⟩), .int .i64 (x.i : Int), .pointer (some ⟨q, 0, none⟩), .slice la L.length lc, .int .i64 (L.length : Int), .int .i64 (j : Int), .bool false, u19, u20, u21, u22, u23, u24, u25, u26, u27, u28, u29, u30, u31, u32, u33, u34, u35, u36, u37, u38, u39, u40, u41, u42, u43, u44, u45, u46, u47, u48, .slice ba bs.length bc, .func (.func 11) #[] #[.pointer (some ⟨qb, 0, none⟩)], .func (.func 11) #[] #[.pointer (some ⟨qb, 0, none⟩)], .bool false, .bool false, .bool true, .bool false, .bool false, .func (.func 11) #[] #[.pointer (some ⟨qb, 0, none⟩)], .int .i64 (x.i : Int), .agg #[.int .i64 x.v.k, .bool x.v.b, .int .i64 x.v.n, .string x.v.t], undef, undef, undef, undef, undef, undef, undef, undef, undef, undef, undef, undef, undef, undef, undef, undef, undef, undef, undef, undef, undef, undef, undef, undef, undef, undef], defers := [] }) ?assign ?body ?done ?stop
      case assign =>
        intro l x W C hC
        gi_wp2_with fail
        exact hC
      case body =>
        rintro l s ⟨ix, ⟨vk, vb, vn, vt⟩⟩ W q hI ⟨hxi, hxv⟩ hob hq2
        simp only at hxi hxv hob ⊢
        obtain ⟨i, hi⟩ : ∃ i : Nat, Hid (s.i = i) := ⟨_, rfl⟩
        rw [hxi, hi.out]
        rw [hi.out] at hxv
        have hcnt := hI.cnt
        rw [hi.out] at hcnt
        have hiV : i < vs.length := (List.getElem?_eq_some_iff.1 hxv).1
        have kW := hI.co.kp
        have b5 := H8.out.2.1.bx.kept kW (by simp; omega) (H8.out.2.1.bx.lt (by simp))
        obtain ⟨g, o, ea, c0, c1, c2, c3⟩ := hv7.out.at i hiV
        have eV : vs[i] = ⟨vk, vb, vn, vt⟩ := by have := List.getElem?_eq_some_iff.1 hxv; exact this.2
        rw [eV] at c0 c1 c2 c3
        dsimp only at c0 c1 c2 c3
        have hg3 : g < w7.heap.size := World.block_lt_of_cell? _ _ c0
        have hgq : g ≠ q12 := by omega
        have hmv : ∀ z v, w7.cell? ⟨g, z, none⟩ = some v → W.cell? ⟨g, z, none⟩ = some v := fun z v hv => by
          have h1 := kpAt kk8.out hv
          exact (kW.cell (p := ⟨g, z, none⟩) (World.block_lt_of_cell? _ _ h1) (by simpa using hgq)).trans h1
        have y0 := hmv _ _ c0; have y1 := hmv _ _ c1; have y2 := hmv _ _ c2; have y3 := hmv _ _ c3
        subst ea
        have hbx : ∀ z : Nat, W.cell? ⟨q, z, none⟩ = (#[.int .i64 vk, .bool vb, .int .i64 vn, .string vt] : Array Value)[z]? := fun z => by
          unfold World.cell?
          simp [hob]
        have s5 := b5.get 0 _ rfl
        have hS0 : (fun A : World => (A.cell? ⟨q12, 0, none⟩ = some (.int .i64 (i : Int)) ∧ A.cell? ⟨q6, 0, none⟩ = some (.slice (some ⟨g, o, none⟩) vs.length vc)) ∧ (A.cell? ⟨q, 0, none⟩ = some (.int .i64 vk) ∧ A.cell? ⟨q, 1, none⟩ = some (.bool vb) ∧ A.cell? ⟨q, 2, none⟩ = some (.int .i64 vn) ∧ A.cell? ⟨q, 3, none⟩ = some (.string vt)) ∧ (A.cell? ⟨g, o + i * 4, none⟩ = some (.int .i64 vk) ∧ A.cell? ⟨g, o + i * 4 + 1, none⟩ = some (.bool vb) ∧ A.cell? ⟨g, o + i * 4 + 2, none⟩ = some (.int .i64 vn) ∧ A.cell? ⟨g, o + i * 4 + 3, none⟩ = some (.string vt))) W.drew := ⟨⟨hcnt, s5⟩, ⟨hbx 0, hbx 1, hbx 2, hbx 3⟩, y0, y1, y2, y3⟩
        have nV := neVV ⟨vk, vb, vn, vt⟩
        dsimp only at nV
        have hq7q : q12 ≠ q := by omega
        have di1 : ((i : Int) != (i : Int)) = false := by simp
        have di2 : ¬ (vs.length : Int) ≤ (i : Int) := by omega
        have di3 : decide ((vs.length : Int) ≤ (i : Int)) = false := by simp; omega
        have di6 : decide (vs.length ≤ i) = false := by simp; omega
        have di4 : (i : Int) < (vs.length : Int) := by omega
        have di5 : (0 : Int) ≤ (i : Int) := by omega
        have hfree : W.drew.frozen? ⟨q12, 0, none⟩ = false := hI.free
        have di7 : (-9223372036854775808 : Int) ≤ (i : Int) + 1 := by omega
        have di8 : (i : Int) + 1 ≤ 9223372036854775807 := by omega
        have hIo := hid hI
        have hcl : Hid (W.heap[q12]?.map Obj.isCells = some true) := by
          show _ = _
          have := hcnt
          unfold World.cell? at this
          cases e : W.heap[q12]? with
          | none => rw [e] at this; cases this
          | some ob => rw [e] at this; cases ob <;> simp_all [Obj.isCells]
        have kd : Kp [] W W.drew := (Kp.refl _ _).drew
        have hkd := hid kd
        clear hI hmv hbx b5 s5 y0 y1 y2 y3 c0 c1 c2 c3 eV hxv hob hcnt kd kW
        gi_wp2_with fail
        refine region_round (fun A => (A.cell? ⟨q12, 0, none⟩ = some (.int .i64 (i : Int)) ∧ A.cell? ⟨q6, 0, none⟩ = some (.slice (some ⟨g, o, none⟩) vs.length vc)) ∧ (A.cell? ⟨q, 0, none⟩ = some (.int .i64 vk) ∧ A.cell? ⟨q, 1, none⟩ = some (.bool vb) ∧ A.cell? ⟨q, 2, none⟩ = some (.int .i64 vn) ∧ A.cell? ⟨q, 3, none⟩ = some (.string vt)) ∧ (A.cell? ⟨g, o + i * 4, none⟩ = some (.int .i64 vk) ∧ A.cell? ⟨g, o + i * 4 + 1, none⟩ = some (.bool vb) ∧ A.cell? ⟨g, o + i * 4 + 2, none⟩ = some (.int .i64 vn) ∧ A.cell? ⟨g, o + i * 4 + 3, none⟩ = some (.string vt))) (by kernel_rfl) (by kernel_rfl) (by rintro ⟨_, _, hlo⟩; exact hlo) ?_ (fun hHeld => ?_)
        · exact hS0
        clear hHeld
        have hHeld : (fun A : World => (A.cell? ⟨q12, 0, none⟩ = some (.int .i64 (i : Int)) ∧ A.cell? ⟨q6, 0, none⟩ = some (.slice (some ⟨g, o, none⟩) vs.length vc)) ∧ (A.cell? ⟨q, 0, none⟩ = some (.int .i64 vk) ∧ A.cell? ⟨q, 1, none⟩ = some (.bool vb) ∧ A.cell? ⟨q, 2, none⟩ = some (.int .i64 vn) ∧ A.cell? ⟨q, 3, none⟩ = some (.string vt)) ∧ (A.cell? ⟨g, o + i * 4, none⟩ = some (.int .i64 vk) ∧ A.cell? ⟨g, o + i * 4 + 1, none⟩ = some (.bool vb) ∧ A.cell? ⟨g, o + i * 4 + 2, none⟩ = some (.int .i64 vn) ∧ A.cell? ⟨g, o + i * 4 + 3, none⟩ = some (.string vt))) W.drew := hS0
        dsimp only at hHeld
        clear hS0
        generalize W.drew = wd at *
        refine wpAnyH_take (i := 0) (v := ?_) rfl (by kernel_rfl) (by kernel_rfl) (by kernel_rfl) (fun _ _ _ h => h) (Or.inl ⟨by rfl, ?_⟩) (by assumption) ?_
        rotate_left
        · intro w hSw; (try dsimp only at hSw); go_simp <;> with_reducible rfl
        try simp only [Act.put, List.getElem_toArray, List.getElem_cons_zero, List.getElem_cons_succ, List.setIfInBounds_toArray, List.set_cons_zero, List.set_cons_succ]
        refine wpAnyH_take (i := 1) (v := ?_) rfl (by kernel_rfl) (by kernel_rfl) (by kernel_rfl) (fun _ _ _ h => h) (Or.inl ⟨by rfl, ?_⟩) (by assumption) ?_
        rotate_left
        · intro w hSw; (try dsimp only at hSw); go_simp <;> with_reducible rfl
        try simp only [Act.put, List.getElem_toArray, List.getElem_cons_zero, List.getElem_cons_succ, List.setIfInBounds_toArray, List.set_cons_zero, List.set_cons_succ]
        try simp only [di1]
        refine wpAnyH_take (i := 2) (v := ?_) rfl (by kernel_rfl) (by kernel_rfl) (by kernel_rfl) (fun _ _ _ h => h) (Or.inl ⟨by rfl, ?_⟩) (by assumption) ?_
        rotate_left
        · intro w hSw; (try dsimp only at hSw); go_simp <;> with_reducible rfl
        try simp only [Act.put, List.getElem_toArray, List.getElem_cons_zero, List.getElem_cons_succ, List.setIfInBounds_toArray, List.set_cons_zero, List.set_cons_succ]
        try simp only [di1]
        refine wpAnyH_take (i := 3) (v := ?_) rfl (by kernel_rfl) (by kernel_rfl) (by kernel_rfl) (fun _ _ _ h => h) (Or.inl ⟨by rfl, ?_⟩) (by assumption) ?_
        rotate_left
        · intro w hSw; (try dsimp only at hSw); go_simp <;> with_reducible rfl
        try simp only [Act.put, List.getElem_toArray, List.getElem_cons_zero, List.getElem_cons_succ, List.setIfInBounds_toArray, List.set_cons_zero, List.set_cons_succ]
        try simp only [di1]
        refine wpAnyH_take (i := 4) (v := ?_) rfl (by kernel_rfl) (by kernel_rfl) (by kernel_rfl) (fun _ _ _ h => h) (Or.inl ⟨by rfl, ?_⟩) (by assumption) ?_
        rotate_left
        · intro w hSw; (try dsimp only at hSw); go_simp <;> with_reducible rfl
        try simp only [Act.put, List.getElem_toArray, List.getElem_cons_zero, List.getElem_cons_succ, List.setIfInBounds_toArray, List.set_cons_zero, List.set_cons_succ]
        refine wpAnyH_take (i := 5) (v := ?_) rfl (by kernel_rfl) (by kernel_rfl) (by kernel_rfl) (fun _ _ _ h => h) (Or.inl ⟨by rfl, ?_⟩) (by assumption) ?_
        rotate_left
        · intro w hSw; (try dsimp only at hSw); go_simp <;> with_reducible rfl
        try simp only [Act.put, List.getElem_toArray, List.getElem_cons_zero, List.getElem_cons_succ, List.setIfInBounds_toArray, List.set_cons_zero, List.set_cons_succ]
        refine wpAnyH_take (i := 6) (v := ?_) rfl (by kernel_rfl) (by kernel_rfl) (by kernel_rfl) (fun _ _ _ h => h) (Or.inl ⟨by rfl, ?_⟩) (by assumption) ?_
        rotate_left
        · intro w hSw; (try dsimp only at hSw); go_simp <;> with_reducible rfl
        try simp only [Act.put, List.getElem_toArray, List.getElem_cons_zero, List.getElem_cons_succ, List.setIfInBounds_toArray, List.set_cons_zero, List.set_cons_succ]
        refine wpAnyH_take (i := 7) (v := ?_) rfl (by kernel_rfl) (by kernel_rfl) (by kernel_rfl) (fun _ _ _ h => h) (Or.inl ⟨by rfl, ?_⟩) (by assumption) ?_
        rotate_left
        · intro w hSw; (try dsimp only at hSw); go_simp <;> with_reducible rfl
        try simp only [Act.put, List.getElem_toArray, List.getElem_cons_zero, List.getElem_cons_succ, List.setIfInBounds_toArray, List.set_cons_zero, List.set_cons_succ]
        try simp only [di3, di6, di2]
        refine wpAnyH_take (i := 8) (v := ?_) rfl (by kernel_rfl) (by kernel_rfl) (by kernel_rfl) (fun _ _ _ h => h) (Or.inl ⟨by rfl, ?_⟩) (by assumption) ?_
        rotate_left
        · intro w hSw; (try dsimp only at hSw); go_simp <;> with_reducible rfl
        try simp only [Act.put, List.getElem_toArray, List.getElem_cons_zero, List.getElem_cons_succ, List.setIfInBounds_toArray, List.set_cons_zero, List.set_cons_succ]
        try simp only [di3, di6, di2]
        refine wpAnyH_take (i := 9) (v := ?_) rfl (by kernel_rfl) (by kernel_rfl) (by kernel_rfl) (fun _ _ _ h => h) (Or.inl ⟨by rfl, ?_⟩) (by assumption) ?_
        rotate_left
        · intro w hSw; (try dsimp only at hSw); go_simp <;> with_reducible rfl
        try simp only [Act.put, List.getElem_toArray, List.getElem_cons_zero, List.getElem_cons_succ, List.setIfInBounds_toArray, List.set_cons_zero, List.set_cons_succ]
        try simp only [di3, di6, di2]
        refine wpAnyH_take (i := 10) (v := ?_) rfl (by kernel_rfl) (by kernel_rfl) (by kernel_rfl) (fun _ _ _ h => h) (Or.inl ⟨by rfl, ?_⟩) (by assumption) ?_
        rotate_left
        · intro w hSw; (try dsimp only at hSw); go_simp <;> with_reducible rfl
        try simp only [Act.put, List.getElem_toArray, List.getElem_cons_zero, List.getElem_cons_succ, List.setIfInBounds_toArray, List.set_cons_zero, List.set_cons_succ]
        refine wpAnyH_take (i := 11) (v := ?_) rfl (by kernel_rfl) (by kernel_rfl) (by kernel_rfl) (fun _ _ _ h => h) (Or.inl ⟨by rfl, ?_⟩) (by assumption) ?_
        rotate_left
        · intro w hSw; (try dsimp only at hSw); go_simp <;> with_reducible rfl
        try simp only [Act.put, List.getElem_toArray, List.getElem_cons_zero, List.getElem_cons_succ, List.setIfInBounds_toArray, List.set_cons_zero, List.set_cons_succ]
        refine wpAnyH_take (i := 12) (v := ?_) rfl (by kernel_rfl) (by kernel_rfl) (by kernel_rfl) (fun _ _ _ h => h) (Or.inl ⟨by rfl, ?_⟩) (by assumption) ?_
        rotate_left
        · intro w hSw; (try dsimp only at hSw); go_simp <;> with_reducible rfl
        try simp only [Act.put, List.getElem_toArray, List.getElem_cons_zero, List.getElem_cons_succ, List.setIfInBounds_toArray, List.set_cons_zero, List.set_cons_succ]
        refine wpAnyH_take (i := 13) (v := ?_) rfl (by kernel_rfl) (by kernel_rfl) (by kernel_rfl) (fun _ _ _ h => h) (Or.inl ⟨by rfl, ?_⟩) (by assumption) ?_
        rotate_left
        · intro w hSw; (try dsimp only at hSw); go_simp <;> with_reducible rfl
        try simp only [Act.put, List.getElem_toArray, List.getElem_cons_zero, List.getElem_cons_succ, List.setIfInBounds_toArray, List.set_cons_zero, List.set_cons_succ]
        refine wpAnyH_take (i := 14) (v := ?_) rfl (by kernel_rfl) (by kernel_rfl) (by kernel_rfl) (fun _ _ _ h => h) (Or.inl ⟨by rfl, ?_⟩) (by assumption) ?_
        rotate_left
        · intro w hSw; (try dsimp only at hSw); go_simp <;> with_reducible rfl
        try simp only [Act.put, List.getElem_toArray, List.getElem_cons_zero, List.getElem_cons_succ, List.setIfInBounds_toArray, List.set_cons_zero, List.set_cons_succ]
        refine wpAnyH_take (i := 15) (v := ?_) rfl (by kernel_rfl) (by kernel_rfl) (by kernel_rfl) (fun _ _ _ h => h) (Or.inl ⟨by rfl, ?_⟩) (by assumption) ?_
        rotate_left
        · intro w hSw; (try dsimp only at hSw); go_simp <;> with_reducible rfl
        try simp only [Act.put, List.getElem_toArray, List.getElem_cons_zero, List.getElem_cons_succ, List.setIfInBounds_toArray, List.set_cons_zero, List.set_cons_succ]
        refine wpAnyH_take (i := 16) (v := ?_) rfl (by kernel_rfl) (by kernel_rfl) (by kernel_rfl) (fun _ _ _ h => h) (Or.inl ⟨by rfl, ?_⟩) (by assumption) ?_
        rotate_left
        · intro w hSw; (try dsimp only at hSw); go_simp <;> with_reducible rfl
        try simp only [Act.put, List.getElem_toArray, List.getElem_cons_zero, List.getElem_cons_succ, List.setIfInBounds_toArray, List.set_cons_zero, List.set_cons_succ]
        refine wpAnyH_done (by kernel_rfl) ?_ _
        have hc7 := hHeld.1.1
        gi_wp2_with fail
        have kY : Kp [q12] W (wd.setCell ⟨q12, 0, none⟩ (.int .i64 ((i : Int) + 1))) := (hkd.out.mono (by simp)).setCell (.inl (by simp)) _
        obtain ⟨r1, r2, r3⟩ := hIo.out.co.round (x := ⟨i, ⟨vk, vb, vn, vt⟩⟩) kY hcl.out
        refine ⟨r1, r2, r3, ?_, (World.frozen?_setCell _ _ _ _).trans hfree⟩
        rw [World.cell?_setCell_same _ _ _ hc7]
        simp [Sa.nx, hi.out]
      case done =>
        rintro D s X hD ⟨hmd, hsi⟩ hI hrec
        have hcX := hI.cnt
        rw [hsi] at hcX
        have kX := hI.co.kp
        have s6 := (H8.out.2.1.bx.kept kX (by simp; omega) (H8.out.2.1.bx.lt (by simp))).get 0 _ rfl
        have b4 := H8.out.1.kept kX (by simp; omega) (H8.out.1.lt (by simp))
        have kwX := H8.out.2.2.1.trans kX (fun x hx => .inr (by simp at hx; have := H8.out.2.2.1.size; omega))
        have HX := hid (And.intro b4 (And.intro kwX hrec))
        have hal2 := hid (hal.out X kwX)
        clear hI kX b4 kwX hrec hmd hsi
        go_wp2_with fail
        refine hal2.out.mono ?_
        rintro e X5 ⟨rfl, kf⟩
        have z6 := kpAt kf s6
        have z12 := kpAt kf hcX
        have b5 := HX.out.1.kept kf (by simp) (HX.out.1.lt (by simp))
        have z4 := b5.get 0 _ rfl
        have y4 := b5.free 0
        have kF := hid (HX.out.2.1.trans kf (by simp))
        have hDg := hid ((kf.block D (Array.getElem?_eq_some_iff.1 HX.out.2.2).1 (by simp)).trans HX.out.2.2)
        have ee1 : ((vs.length : Int) == (vs.length : Int)) = true := by simp
        have hD4 : q4 < D := by omega
        clear s6 hcX b5 kf HX hal2
        go_wp2_with fail
        have kY0 : Kp [q4] X5 (X5.setCell ⟨q4, 0, none⟩ (.bool true)) := (Kp.refl _ _).setCell (.inl (by simp)) _
        have hp : ∀ (A : World) (d : Nat), Kp [d] A (A.putObj d (.deferred none)) := fun A d => ⟨rfl, rfl, rfl, by simp, fun k hk hn => World.putObj_heap_other (by simpa using hn)⟩
        have g1 := (kY0.block D (Array.getElem?_eq_some_iff.1 hDg.out).1 (by simp; omega)).trans hDg.out
        have c4 : (X5.setCell ⟨q4, 0, none⟩ (.bool true)).cell? ⟨q4, 0, none⟩ = some (.bool true) := World.cell?_setCell_same _ _ _ z4
        have kY := kF.out.setCell (p := ⟨q4, 0, none⟩) (.inr (by show w.heap.size ≤ q4; omega)) (.bool true)
        generalize X5.setCell ⟨q4, 0, none⟩ (.bool true) = Y0 at *
        have c4' : (Y0.putObj D (.deferred none)).cell? ⟨q4, 0, none⟩ = some (.bool true) := (World.cell?_of_block (a := ⟨q4, 0, none⟩) (World.putObj_heap_other (by show _ ≠ _; simp; omega))).trans c4
        have kE := kY.trans (hp _ D) (fun x hx => .inr (by simp at hx; have := H8.out.2.2.1.size; omega))
        refine ⟨by simp, .inl ⟨_, _, rfl, run_takeDeferred g1, ?_⟩⟩
        exact ⟨_, results_cell_oneB rfl rfl c4', rfl, kE⟩
      case stop =>
        rintro D c s X hD _ h
        exact h.elim
end Go.Proofs.YtohbdbecioanaaaGreatDoor
end

section
namespace Go.Proofs.YtohbdbecioanaaaGreatDoor
open Go.RowKit Go.Hay
set_option linter.unusedVariables false
theorem manyWalk7 (la : Option Addr) (lc : Nat) (L : List Vs) (ka : Option Addr) (kc : Nat) (K : List Int) (w : World) (ht0 : Tab w) (hsL : VsE.See w la L) (hoL : ∀ y ∈ L, y.ok w) (hLc : L.length ≤ lc) (hLm : lc ≤ maxLen) (hsK : IntE.See w ka K) (hKc : K.length ≤ kc) (hKm : kc ≤ maxLen) (hL : L.length ≤ 1048576) (hV : (L.map fun y => y.l.length).sum ≤ 1048576) :
    Calls Tryz.prog 4 #[.slice la L.length lc, .slice ka K.length kc] w fun e w' => e = .returned (.bool true) ∧ Below w.heap.size w w' :=
  (callsIn_wide.1 (walkBM la lc L ka kc K w ht0 hsL hoL hLc hLm hsK hKc hKm hL hV)).mono fun e w' h => ⟨h.1, h.2.below⟩
end Go.Proofs.YtohbdbecioanaaaGreatDoor
end

section
namespace Go.Proofs.YtohbdbecioanaaaGreatDoor
open Go.ChangeShapes Go.WideShapes Go.ChangeAt Go.RowKit Go.Hay
set_option linter.unusedVariables false

set_option maxRecDepth 100000 in
theorem blockManyContract (H : Type) (enc : TypeId × Value → H) (W : World) (base : Nat) (args : Array Value) (ds gs : List (DataW H)) (before : List MemPlace)
    (hval : ∀ (j : Nat) t v, Tryz.f4.params[j]? = some t → args[j]? = some v → Value.okWide Tryz.prog W .any base t v)
    (hW : DataW.Whole enc Tryz.prog Tryz.f4.params.toList Rows.blockManySpec.vars false W args.toList ds gs before)
    (hsz : (DataW.weightsEach Tryz.prog (Tryz.f4.params.toList ++ (Rows.OpenSpec.upto Rows.blockManySpec).bare.plain.varTypes Tryz.prog) (ds ++ gs)).all (· ≤ reachBytes) = true)
    (hk : Rows.uptoSmall H (ds ++ gs) = true)
    (hL : laidMetH Tryz.prog Rows.blockManyUptoRow.laid W) :
    Calls Tryz.prog 4 args W fun e W' => ∃ v, e = .returned v ∧ Rows.blockManySpec.post enc Tryz.prog Tryz.f4 false true false false W args v W' := by
  have hW' := hW
  obtain ⟨p, q, hA0, hV, rfl, hfz, hnd⟩ := hW
  have hA : DataW.TrodAll enc Tryz.prog W 0 (fun _ => true) true Tryz.f4.params.toList args.toList ds p := hA0
  rw [Tryz.params4] at hA hval hsz
  obtain ⟨v0, vs0, d0, ds0, p0, q0, hargs, rfl, rfl, h0, r0⟩ := trodAll_cons hA
  obtain ⟨v1, vs1, d1, ds1, p1, q1, rfl, rfl, rfl, h1, r1⟩ := trodAll_cons r0
  obtain ⟨rfl, rfl, rfl⟩ := trodAll_nil r1
  obtain rfl : args = #[v0, v1] := by cases args; simp_all
  obtain ⟨rfl, rfl⟩ := trodVars_none hV
  obtain ⟨a0, len0, cap0, rfl⟩ := okWide_slice Tryz.underlying32 (hval 0 32 v0 rfl rfl)
  have k0 := h0
  have lt0 : ∀ x ∈ p0, x.block < W.heap.size := by obtain ⟨m, hm⟩ := k0; exact DataW.trod_lt m _ _ _ hm
  obtain ⟨l0, rfl, hs0, hok0, hl0, hm0, hn0, hfit0, hbk0, hcp0⟩ := openVlists h0
  obtain ⟨hc0, hq0⟩ := hfit0 (List.all_eq_true.2 fun x hx => List.all_eq_true.1 hsz x (by simp [DataW.weightsEach]; first | exact .inl hx | exact .inr hx | exact .inr (.inl hx) | exact .inr (.inr hx) | exact hx))
  obtain ⟨a1, len1, cap1, rfl⟩ := okWide_slice Tryz.underlying33 (hval 1 33 v1 rfl rfl)
  have k1 := h1
  have lt1 : ∀ x ∈ p1, x.block < W.heap.size := by obtain ⟨m, hm⟩ := k1; exact DataW.trod_lt m _ _ _ hm
  obtain ⟨l1, rfl, hs1, hok1, hl1, hm1, hn1, hfit1, hbk1, hcp1⟩ := openInts h1
  obtain ⟨hc1, hq1⟩ := hfit1 (List.all_eq_true.2 fun x hx => List.all_eq_true.1 hsz x (by simp [DataW.weightsEach]; first | exact .inl hx | exact .inr hx | exact .inr (.inl hx) | exact .inr (.inr hx) | exact hx))
  have hbk := of_decide_eq_true hk
  simp only [List.append_nil, Rows.uptoBulkAll] at hbk
  clear hA0
  refine (manyWalk7 a0 cap0 l0 a1 cap1 l1 W (table hL) hs0 hok0 hl0 hm0 hs1 hl1 hm1 (by omega) (by omega)).mono fun e W' ⟨he, bel⟩ => ?_
  subst he
  exact ⟨_, rfl, _, _, _, [], _, [], hW', trodAll_mk1 (shut_bool Tryz.underlying4 _), (trodAll_cons_mk (Below.trod Tryz.laidOut (by kernel_rfl) (of_decide_eq_true (by kernel_rfl)) k0 bel lt0) (trodAll_cons_mk (Below.trod Tryz.laidOut (by kernel_rfl) (of_decide_eq_true (by kernel_rfl)) k1 bel lt1) trodAll_mk0)), rfl, bel.frame _, fun h => by cases h⟩

set_option maxRecDepth 100000 in
theorem blockManyLifted (os : Os) (started : os.Started) (H : Type) (enc : TypeId × Value → H) (F : Stop.Interp) :
    ReturnsInHanded {} Tryz.checked os 4 .any ((Rows.OpenSpec.upto Rows.blockManySpec).preRow enc Tryz.prog Tryz.f4 Rows.blockManyUptoRow.domain false Rows.blockManyUptoRow.laid) (((Rows.OpenSpec.upto Rows.blockManySpec).at F).post enc Tryz.prog Tryz.f4 false true false false) := by
  refine returnsInHanded_of_row (C := Tryz.checked) (s := Rows.OpenSpec.upto Rows.blockManySpec) Tryz.own started (by kernel_rfl) Tryz.func4
    (witness_row_at (enc := enc) (C := Tryz.checked) false ({ World.holding Tryz.prog os ⟨#[], #[], []⟩ with heap := (World.holding Tryz.prog os ⟨#[], #[], []⟩).heap.modify 0 fun
      | .cells _ t frozen => .cells tabCells t frozen
      | o => o }) #[.slice none 0 0, .slice none 0 0] rfl (by kernel_rfl) (by kernel_rfl) (by kernel_rfl)
      (OpenSpec.preRow_of_cond (x := ([.nil, .nil], [], [])) 8 (by kernel_rfl) (by kernel_rfl) (fun k hk => by cases hk; kernel_rfl) (by kernel_rfl) (laidMet_of_run' 8 (by kernel_rfl) (by kernel_rfl)))) ?_
  intro W base args ds gs before hval hW _ hcond hsz hL _ _
  exact blockManyContract H enc W base args ds gs before hval hW hsz (hcond _ rfl) hL

theorem blockManySaid : Rows.BlockManyUptoSaid :=
  OpenClaim.holds_of_cond 4 Tryz.f4 rfl rfl rfl rfl rfl rfl rfl ⟨rfl, rfl, rfl, rfl, rfl⟩ rfl rfl rfl rfl rfl (by kernel_rfl) Tryz.func4 (by kernel_rfl)
    (of_decide_eq_true (by kernel_rfl)) (by unfold Func.isWrapper; first | (rw [if_pos (by decide +kernel)]; kernel_rfl) | (rw [if_neg (by decide +kernel)]; exact ⟨rfl, rfl⟩))
    (fun os started H enc _ F => by rw [OpenClaim.pre_eq_preRow]; exact blockManyLifted os started H enc F)

theorem blockManyPlain (f : FuncId) (fn : Func) (hf : Tryz.pinned.checked.prog.funcNamed "hayloft/hayloftlaw07.BlockMany" = some f) (hfn : Tryz.pinned.checked.prog.funcs[f]? = some fn) :
    false = Tryz.pinned.checked.prog.looks [] ∧ ∀ (j : Nat) t, fn.params[j]? = some t → Tryz.pinned.checked.prog.wantsStandIn t = false := by
  obtain rfl : f = 4 := Option.some.inj ((show Tryz.prog.funcNamed "hayloft/hayloftlaw07.BlockMany" = some 4 by kernel_rfl).symm.trans hf) |>.symm
  obtain rfl : fn = Tryz.f4 := (Option.some.inj (Tryz.func4.symm.trans hfn)).symm
  refine ⟨by kernel_rfl, fun j t ht => ?_⟩
  rw [Tryz.params4] at ht
  have hm := Array.mem_of_getElem? ht
  have h2 : t = 32 ∨ t = 33 := by first | (simpa using hm) | (rcases (show t = 32 ∨ t = 33 from by simpa using hm) with h | h <;> simp [h])
  rcases h2 with rfl | rfl
  · exact (show Tryz.prog.wantsStandIn 32 = false by kernel_rfl)
  · exact (show Tryz.prog.wantsStandIn 33 = false by kernel_rfl)

theorem BlockMany_holds : Rows.BlockManyUptoCardSaid :=
  Claim7.holds_tied_plain_at .later [] _ _ _ _ blockManySaid (fun _ h => by cases h) (by kernel_rfl) (fun _ h => by cases h) blockManyUpto_row_tie rfl ⟨rfl, rfl⟩ (by kernel_rfl) rfl blockManyPlain (by kernel_rfl)
#print axioms BlockMany_holds
end Go.Proofs.YtohbdbecioanaaaGreatDoor
end

/- RecoverCatches: who had everything up to an epoch, and gets the changes since, has everything up to the later one; by two steps as by one; for every input that holds together at most 1048576 values. -/
import Derived.Test.YtebkkdoggagcdaaB13
import Derived.SizedLaws
import Derived.JoinedCond
import Derived.Deep.CondSized
section
namespace Go.Proofs.Ytebkkdoggagcdaa
open Go.RowKit Go.Hay
attribute [local go_sem] Oper.semAt_some
set_option linter.unusedVariables false
set_option linter.unusedSimpArgs false

theorem nilI (W : World) : InV none 0 [] W := ⟨.inl rfl, fun _ => rfl, by simp, by simp, by simp⟩
theorem nilLike : Like ([] : List Vn) [] := rfl
/-- Is one of them of epoch 0? -/
def ep0 (l : List Vn) : Bool := l.any fun x => x.ep == 0
set_option maxHeartbeats 64000000 in
set_option maxRecDepth 100000 in
theorem catchesWalk (a : Option Addr) (c : Nat) (l : List Vn) (X Y Z : Int) (w : World) (hi : InV a c l w) (hlz : l.length ≤ 100000000000) :
    Calls Try.prog 5 #[.slice a l.length c, .agg #[.int .u64 X, .int .u64 Y, .int .u64 Z]] w fun e w' => e = .returned (.bool true) ∧ Below w.heap.size w w' := by
  have HI := hid hi
  have HLZ := hid hlz
  obtain ⟨wS, hwS, kS, bS⟩ : ∃ x, w.alloc (.cells #[.int .u64 X, .int .u64 Y, .int .u64 Z] 39) = x ∧ Kp [] w x ∧ Bn x w.heap.size [.int .u64 X, .int .u64 Y, .int .u64 Z] := ⟨_, rfl, (Kp.refl _ _).alloc _, Bn.new w _ _⟩
  obtain ⟨q3, hq3⟩ : ∃ q, w.heap.size = q := ⟨_, rfl⟩
  rw [hq3] at bS
  have s0 := bS.get 0 _ rfl; have s1 := bS.get 1 _ rfl; have s2 := bS.get 2 _ rfl
  have KS0 := hid kS
  have hfew := hi.few
  clear hi kS bS hlz
  go_enter Try.func5, Try.ntmps5
  go_wp2_with fail
  go_quiet (fail)
  have KS : Hid (Kp [] w (wS.drewN nq)) := hid (KS0.out.drewN _)
  generalize wS.drewN nq = wS at *
  clear s0 s1 s2 hfew
  have cA := hid (cAliveR wS)
  by_cases h1 : X > Y
  · have d1 : decide (X > Y) = true := decide_eq_true h1
    have d2 : decide (Y < X) = true := decide_eq_true h1
    clear h1
    go_wp2_with fail
    refine cA.out.mono ?_
    rintro e wz ⟨rfl, kz⟩
    have KZ := hid (KS.out.trans kz (by simp))
    clear cA kz
    go_wp2_with fail
    go_ret
    exact ⟨rfl, KZ.out.below⟩
  by_cases h2 : Y > Z
  · have d1 : decide (X > Y) = false := decide_eq_false h1
    have d2 : decide (Y < X) = false := decide_eq_false h1
    have d3 : decide (Y > Z) = true := decide_eq_true h2
    have d4 : decide (Z < Y) = true := decide_eq_true h2
    clear h1 h2
    go_wp2_with fail
    refine cA.out.mono ?_
    rintro e wz ⟨rfl, kz⟩
    have KZ := hid (KS.out.trans kz (by simp))
    clear cA kz
    go_wp2_with fail
    go_ret
    exact ⟨rfl, KZ.out.below⟩
  · have d1 : decide (X > Y) = false := decide_eq_false h1
    have d2 : decide (Y < X) = false := decide_eq_false h1
    have d3 : decide (Y > Z) = false := decide_eq_false h2
    have d4 : decide (Z < Y) = false := decide_eq_false h2
    have hXY : Hid (X ≤ Y ∧ Y ≤ Z) := hid (by omega)
    have cR := hid (rRight a c l wS (HI.out.kp KS.out).see (by have := HI.out.few; omega))
    obtain ⟨RB, hRB⟩ : ∃ b, Hid (rightV l = b) := ⟨_, hid rfl⟩
    rw [hRB.out] at cR
    clear h1 h2 cA
    go_wp2_with fail
    refine cR.out.mono ?_
    rintro e w0 ⟨rfl, k0⟩
    have Kw0 := hid (KS.out.trans k0 (by simp))
    clear cR k0
    cases RB with
    | false =>
      have cA := hid (cAliveR w0)
      go_wp2_with fail
      refine cA.out.mono ?_
      rintro e wz ⟨rfl, kz⟩
      have KZ := hid (Kw0.out.trans kz (by simp))
      clear cA kz
      go_wp2_with fail
      go_ret
      exact ⟨rfl, KZ.out.below⟩
    | true =>
      have HSZ : Hid ((uptoV l X).length ≤ 100000000000 ∧ (chgV l X Z).length ≤ 100000000000 ∧ (chgV l X Y).length ≤ 100000000000 ∧ (mrgV (uptoV l X) (chgV l X Y)).length ≤ 200000000000 ∧ (chgV l Y Z).length ≤ 100000000000 ∧ (chgV l 0 Z).length ≤ 100000000000) := hid (by
        have h0 := HLZ.out
        have hu : ∀ e, (uptoV l e).length ≤ 100000000000 := fun e => Nat.le_trans (upto_len l e) h0
        have hc : ∀ s e, (chgV l s e).length ≤ 100000000000 := fun s e => Nat.le_trans (chgF_len _ _) (hu e)
        have hm := mrg_len (uptoV l X) (chgV l X Y)
        have h1 := hu X
        have h2 := hc X Y
        exact ⟨h1, hc X Z, h2, by omega, hc Y Z, hc 0 Z⟩)
      have cX := hid (tUpto (HI.out.kp Kw0.out) Z)
      go_wp2_with fail
      refine cX.out.mono ?_
      rintro e w1 ⟨aA, cA, LA, rfl, tA, kk⟩
      clear cX
      have Kw1 := hid (Kw0.out.trans kk (by simp))
      have TA := hid tA
      clear tA kk
      have cX := hid (tUpto (HI.out.kp Kw1.out) X)
      go_wp2_with fail
      refine cX.out.mono ?_
      rintro e w2 ⟨aB, cB, LB, rfl, tB, kk⟩
      clear cX
      have Kw2 := hid (Kw1.out.trans kk (by simp))
      have TB := hid tB
      replace TA := hid (TA.out.kp kk)
      clear tB kk
      have cX := hid (tChg (HI.out.kp Kw2.out) X Z)
      go_wp2_with fail
      refine cX.out.mono ?_
      rintro e w3 ⟨aC, cC, LC, rfl, tC, kk⟩
      clear cX
      have Kw3 := hid (Kw2.out.trans kk (by simp))
      have TC := hid tC
      replace TA := hid (TA.out.kp kk)
      replace TB := hid (TB.out.kp kk)
      clear tC kk
      have cX := hid (tMrg TB.out.i TC.out.i TB.out.like TC.out.like (by have := HSZ.out; omega))
      go_wp2_with fail
      refine cX.out.mono ?_
      rintro e w4 ⟨aD, cD, LD, rfl, tD, kk⟩
      clear cX
      have Kw4 := hid (Kw3.out.trans kk (by simp))
      have TD := hid tD
      replace TA := hid (TA.out.kp kk)
      clear tD kk
      have cX := hid (tUpto (HI.out.kp Kw4.out) X)
      go_wp2_with fail
      refine cX.out.mono ?_
      rintro e w5 ⟨aE, cE, LE, rfl, tE, kk⟩
      clear cX
      have Kw5 := hid (Kw4.out.trans kk (by simp))
      have TE := hid tE
      replace TA := hid (TA.out.kp kk)
      replace TD := hid (TD.out.kp kk)
      clear tE kk
      have cX := hid (tChg (HI.out.kp Kw5.out) X Y)
      go_wp2_with fail
      refine cX.out.mono ?_
      rintro e w6 ⟨aF, cF, LF, rfl, tF, kk⟩
      clear cX
      have Kw6 := hid (Kw5.out.trans kk (by simp))
      have TF := hid tF
      replace TA := hid (TA.out.kp kk)
      replace TD := hid (TD.out.kp kk)
      replace TE := hid (TE.out.kp kk)
      clear tF kk
      have cX := hid (tMrg TE.out.i TF.out.i TE.out.like TF.out.like (by have := HSZ.out; omega))
      go_wp2_with fail
      refine cX.out.mono ?_
      rintro e w7 ⟨aG, cG, LG, rfl, tG, kk⟩
      clear cX
      have Kw7 := hid (Kw6.out.trans kk (by simp))
      have TG := hid tG
      replace TA := hid (TA.out.kp kk)
      replace TD := hid (TD.out.kp kk)
      clear tG kk
      have cX := hid (tChg (HI.out.kp Kw7.out) Y Z)
      go_wp2_with fail
      refine cX.out.mono ?_
      rintro e w8 ⟨aH, cH, LH, rfl, tH, kk⟩
      clear cX
      have Kw8 := hid (Kw7.out.trans kk (by simp))
      have TH := hid tH
      replace TA := hid (TA.out.kp kk)
      replace TD := hid (TD.out.kp kk)
      replace TG := hid (TG.out.kp kk)
      clear tH kk
      have cX := hid (tMrg TG.out.i TH.out.i TG.out.like TH.out.like (by have := HSZ.out; omega))
      go_wp2_with fail
      refine cX.out.mono ?_
      rintro e w9 ⟨aI, cI, LI, rfl, tI, kk⟩
      clear cX
      have Kw9 := hid (Kw8.out.trans kk (by simp))
      have TI := hid tI
      replace TA := hid (TA.out.kp kk)
      replace TD := hid (TD.out.kp kk)
      clear tI kk
      have cX := hid (tChg (HI.out.kp Kw9.out) 0 Z)
      go_wp2_with fail
      refine cX.out.mono ?_
      rintro e w10 ⟨aJ, cJ, LJ, rfl, tJ, kk⟩
      clear cX
      have Kw10 := hid (Kw9.out.trans kk (by simp))
      have TJ := hid tJ
      replace TA := hid (TA.out.kp kk)
      replace TD := hid (TD.out.kp kk)
      replace TI := hid (TI.out.kp kk)
      clear tJ kk
      have cX := hid (tMrg (nilI _) TJ.out.i (Eq.refl ([] : List Vn) ▸ nilLike) TJ.out.like (by have := HSZ.out; simp; omega))
      go_wp2_with fail
      refine cX.out.mono ?_
      rintro e w11 ⟨aK, cK, LK, rfl, tK, kk⟩
      clear cX
      have Kw11 := hid (Kw10.out.trans kk (by simp))
      have TK := hid tK
      replace TA := hid (TA.out.kp kk)
      replace TD := hid (TD.out.kp kk)
      replace TI := hid (TI.out.kp kk)
      clear tK kk
      have eD : Hid (Like LD LA) := hid (TD.out.like.trans (by rw [catch_one l (by have := hXY.out; omega)]; exact TA.out.like.symm))
      have eI : Hid (Like LI LA) := hid (TI.out.like.trans (by rw [catch_one l hXY.out.1, catch_one l hXY.out.2]; exact TA.out.like.symm))
      have eK : Hid (ep0 LA = false → Like LK LA) := hid fun he => TK.out.like.trans (by
        rw [catch_whole l Z (fun x hx => (HI.out.rg x hx).e.1) (fun x hx => ?_)]
        · exact TA.out.like.symm
        · intro h0
          obtain ⟨i, hi⟩ := List.mem_iff_getElem?.1 hx
          obtain ⟨y, hy, e⟩ := TA.out.like.symm.at hi
          have hm := List.mem_of_getElem? hy
          have : ep0 LA = true := List.any_eq_true.2 ⟨y, hm, by rw [← p_ep e, h0]; rfl⟩
          rw [he] at this
          cases this)
      have hAl : Hid (LA.length ≤ 1000000000000) := hid TA.out.i.few
      have hAb := hAl.out
      clear KS0
      go_wp2_with fail
      go_loopw [12, 65] (fun v12 i wr => ∃ j : Nat, j ≤ LA.length ∧ i = .int .i64 (j : Int) ∧ v12 = .bool (ep0 (LA.take j)) ∧ Hid (Kp [] w11 wr)) (fun _ i _ => LA.length - (intOf i).toNat)
      case atStart => exact ⟨0, Nat.zero_le _, rfl, rfl, hid (Kp.refl _ _)⟩
      case round =>
        obtain ⟨j, hj, rfl, rfl, kr⟩ := hrel
        by_cases hlt : j < LA.length
        · have htk : Hid (ep0 (LA.take (j + 1)) = (ep0 (LA.take j) || (LA[j].ep == 0))) := hid (by
            rw [List.take_succ_eq_append_getElem hlt]
            unfold ep0
            rw [List.any_append]
            simp)
          obtain ⟨g, o, ea, x0, x1, x2, x3⟩ := idAt ((TA.out.kp kr.out).i.see) (i := j) (x := LA[j]) (by simp [hlt])
          obtain ⟨x, hx⟩ : ∃ x, Hid (LA[j] = x) := ⟨LA[j], hid rfl⟩
          rw [hx.out] at x0 x1 x2 x3 htk
          obtain ⟨xe, xn, xa, xc, xr, xd⟩ := x
          dsimp only at x0 x1 x2 x3 htk
          obtain ⟨q7, W1, W2, eq7, eW1, b1, eW2, b2, kW2⟩ := boxVn wr xe xn xa xr.length xc xd
          have m0 := b1.get 0 _ rfl; have m1 := b1.get 1 _ rfl; have m2 := b1.get 2 _ rfl; have m3 := b1.get 3 _ rfl
          have f0 := b1.free 0; have f1 := b1.free 1; have f2 := b1.free 2; have f3 := b1.free 3
          have v0 := b2.get 0 _ rfl
          have kA1 : Kp [] wr W1 := by rw [← eW1]; exact (Kp.refl [] wr).alloc _
          have g0 := kpAt kA1 x0; have g1 := kpAt kA1 x1; have g2 := kpAt kA1 x2; have g3 := kpAt kA1 x3
          have KW2 := hid (kr.out.trans kW2 (by simp))
          have i1 : (0 : Int) ≤ (j : Int) := by omega
          have i2 : (j : Int) < (LA.length : Int) := by omega
          have i3 : (j : Int) + 1 ≤ 9223372036854775807 := by omega
          obtain ⟨B, hB⟩ : ∃ B, Hid (ep0 (LA.take j) = B) := ⟨_, hid rfl⟩
          obtain ⟨C, hC⟩ : ∃ C, (xe == 0) = C := ⟨_, rfl⟩
          rw [hB.out, hC] at htk
          rw [hB.out]
          subst ea
          clear b1 b2 kW2 kA1
          cases B with
          | true =>
            have hn : Hid (Value.bool true = .bool (ep0 (LA.take (j + 1)))) := hid (by rw [htk.out]; rfl)
            clear htk hB
            go_wp2_with fail
            go_roundw
            case rel => exact ⟨j + 1, by omega, by go_num, hn.out, KW2⟩
            case measure => simp [intOf]; omega
          | false =>
            have hn : Hid (Value.bool C = .bool (ep0 (LA.take (j + 1)))) := hid (by rw [htk.out]; rfl)
            clear htk hB
            go_wp2_with fail
            go_roundw
            case rel => exact ⟨j + 1, by omega, by go_num, hn.out, KW2⟩
            case measure => simp [intOf]; omega
        · obtain ⟨w12, hw12⟩ : ∃ x, x = wr := ⟨_, rfl⟩
          subst hw12
          obtain rfl : j = LA.length := by omega
          rw [List.take_length]
          obtain ⟨NB, hNB⟩ : ∃ b, Hid (ep0 LA = b) := ⟨_, hid rfl⟩
          rw [hNB.out]
          have Kw12 := hid (Kw11.out.trans kr.out (by simp))
          replace TA := hid (TA.out.kp kr.out)
          replace TD := hid (TD.out.kp kr.out)
          replace TI := hid (TI.out.kp kr.out)
          replace TK := hid (TK.out.kp kr.out)
          have cA := hid (cAliveR w12)
          go_wp2_with fail
          refine cA.out.mono ?_
          rintro e w13 ⟨rfl, k13⟩
          have Kw13 := hid (Kw12.out.trans k13 (by simp))
          replace TA := hid (TA.out.kp k13)
          replace TD := hid (TD.out.kp k13)
          replace TI := hid (TI.out.kp k13)
          replace TK := hid (TK.out.kp k13)
          have cS := hid (tSame TD.out.i TA.out.i eD.out)
          clear cA k13
          go_wp2_with fail
          refine cS.out.mono ?_
          rintro e w14 ⟨rfl, k14⟩
          have Kw14 := hid (Kw13.out.trans k14 (by simp))
          replace TA := hid (TA.out.kp k14)
          replace TI := hid (TI.out.kp k14)
          replace TK := hid (TK.out.kp k14)
          have cS2 := hid (tSame TI.out.i TA.out.i eI.out)
          clear cS k14
          go_wp2_with fail
          refine cS2.out.mono ?_
          rintro e w15 ⟨rfl, k15⟩
          have Kw15 := hid (Kw14.out.trans k15 (by simp))
          replace TA := hid (TA.out.kp k15)
          replace TK := hid (TK.out.kp k15)
          clear cS2 k15
          cases NB with
          | true =>
            go_wp2_with fail
            go_ret
            exact ⟨rfl, Kw15.out.below⟩
          | false =>
            have cS3 := hid (tSame TK.out.i TA.out.i (eK.out hNB.out))
            go_wp2_with fail
            refine cS3.out.mono ?_
            rintro e w16 ⟨rfl, k16⟩
            have Kw16 := hid (Kw15.out.trans k16 (by simp))
            clear cS3 k16
            go_wp2_with fail
            go_ret
            exact ⟨rfl, Kw16.out.below⟩
end Go.Proofs.Ytebkkdoggagcdaa
end

section
namespace Go.Proofs.Ytebkkdoggagcdaa
open Go.ChangeShapes Go.WideShapes Go.ChangeAt Go.RowKit Go.Hay
set_option linter.unusedVariables false

set_option maxRecDepth 100000 in
theorem recoverCatchesContract (H : Type) (enc : TypeId × Value → H) (W : World) (base : Nat) (args : Array Value) (ds gs : List (DataW H)) (before : List MemPlace)
    (hval : ∀ (j : Nat) t v, Try.f5.params[j]? = some t → args[j]? = some v → Value.okWide Try.prog W .any base t v)
    (hW : DataW.Whole enc Try.prog Try.f5.params.toList Rows.recoverCatchesSpec.vars false W args.toList ds gs before)
    (hsz : (DataW.weightsEach Try.prog (Try.f5.params.toList ++ (Rows.OpenSpec.upto Rows.recoverCatchesSpec).bare.plain.varTypes Try.prog) (ds ++ gs)).all (· ≤ reachBytes) = true)
    (hk : Rows.uptoSmall H (ds ++ gs) = true) :
    Calls Try.prog 5 args W fun e W' => ∃ v, e = .returned v ∧ Rows.recoverCatchesSpec.post enc Try.prog Try.f5 false true false false W args v W' := by
  have hW' := hW
  obtain ⟨p, q, hA0, hV, rfl, hfz, hnd⟩ := hW
  have hA : DataW.TrodAll enc Try.prog W 0 (fun _ => true) true Try.f5.params.toList args.toList ds p := hA0
  rw [Try.params5] at hA hval hsz
  obtain ⟨v0, vs0, d0, ds0, p0, q0, hargs, rfl, rfl, h0, r0⟩ := trodAll_cons hA
  obtain ⟨v1, vs1, d1, ds1, p1, q1, rfl, rfl, rfl, h1, r1⟩ := trodAll_cons r0
  obtain ⟨rfl, rfl, rfl⟩ := trodAll_nil r1
  obtain rfl : args = #[v0, v1] := by cases args; simp_all
  obtain ⟨rfl, rfl⟩ := trodVars_none hV
  obtain ⟨a0, len0, cap0, rfl⟩ := okWide_slice Try.underlying22 (hval 0 22 v0 rfl rfl)
  have k0 := h0
  have lt0 : ∀ x ∈ p0, x.block < W.heap.size := by obtain ⟨m, hm⟩ := k0; exact DataW.trod_lt m _ _ _ hm
  obtain ⟨l0, rfl, hs0, hok0, hl0, hm0, hn0, hfit0, hbk0, hcp0⟩ := openVers h0
  obtain ⟨hc0, hq0⟩ := hfit0 (List.all_eq_true.2 fun x hx => List.all_eq_true.1 hsz x (by simp [DataW.weightsEach]; first | exact .inl hx | exact .inr hx | exact .inr (.inl hx) | exact .inr (.inr hx) | exact hx))
  have k1 := h1
  have lt1 : ∀ x ∈ p1, x.block < W.heap.size := by obtain ⟨m, hm⟩ := k1; exact DataW.trod_lt m _ _ _ hm
  obtain ⟨x1, y1, z1, rfl, hx1, hy1, hz1⟩ := openEp3 (hval 1 39 v1 rfl rfl) h1
  have hbk := of_decide_eq_true hk
  simp only [List.append_nil, Rows.uptoBulkAll] at hbk
  clear hA0
  refine (catchesWalk a0 cap0 l0 x1 y1 z1 W ⟨hs0, hn0, by omega, fun y hy => (hok0 y hy).ok (hq0 y hy), fun y hy => (hok0 y hy).rg⟩ (by omega)).mono fun e W' ⟨he, bel⟩ => ?_
  subst he
  exact ⟨_, rfl, _, _, _, [], _, [], hW', trodAll_mk1 (shut_bool Try.underlying4 _), (trodAll_cons_mk (Below.trod Try.laidOut (by kernel_rfl) (of_decide_eq_true (by kernel_rfl)) k0 bel lt0) (trodAll_cons_mk (Below.trod Try.laidOut (by kernel_rfl) (of_decide_eq_true (by kernel_rfl)) k1 bel lt1) trodAll_mk0)), rfl, bel.frame _, fun h => by cases h⟩

set_option maxRecDepth 100000 in
theorem recoverCatchesLifted (os : Os) (started : os.Started) (H : Type) (enc : TypeId × Value → H) (F : Stop.Interp) :
    ReturnsInHanded {} Try.checked os 5 .any ((Rows.OpenSpec.upto Rows.recoverCatchesSpec).pre6 enc Try.prog Try.f5 Rows.recoverCatchesUptoRow.domain false) (((Rows.OpenSpec.upto Rows.recoverCatchesSpec).at F).post enc Try.prog Try.f5 false true false false) := by
  refine returnsInHanded_of_cond_sized (C := Try.checked) (s := Rows.OpenSpec.upto Rows.recoverCatchesSpec) (k := Rows.uptoSmall) rfl Try.own started (by kernel_rfl) Try.func5
    (OpenSpec.witness (enc := enc) (C := Try.checked) (s := Rows.OpenSpec.upto Rows.recoverCatchesSpec) (k := Rows.uptoSmall) rfl false ⟨#[], #[.slice none 0 0, .agg #[.int .u64 0, .int .u64 0, .int .u64 0]], []⟩ 8 (by kernel_rfl) (by kernel_rfl) (by kernel_rfl)
      (x := ([.nil, .agg [.lit (.int .u64 0), .lit (.int .u64 0), .lit (.int .u64 0)]], [], [])) (by kernel_rfl) rfl (by kernel_rfl)) ?_
  intro W base args ds gs before hval hW _ hk hsz _
  exact recoverCatchesContract H enc W base args ds gs before hval hW hsz hk

theorem RecoverCatches_holds : Rows.RecoverCatchesUptoSaid :=
  OpenClaim.holds_of_cond 5 Try.f5 rfl rfl rfl rfl rfl rfl rfl ⟨rfl, rfl, rfl, rfl, rfl⟩ rfl rfl rfl rfl rfl (by kernel_rfl) Try.func5 (by kernel_rfl)
    (of_decide_eq_true (by kernel_rfl)) (by unfold Func.isWrapper; first | (rw [if_pos (by decide +kernel)]; kernel_rfl) | (rw [if_neg (by decide +kernel)]; exact ⟨rfl, rfl⟩))
    (fun os started H enc _ F => recoverCatchesLifted os started H enc F)

#print axioms RecoverCatches_holds
end Go.Proofs.Ytebkkdoggagcdaa
end

/- RecoverOrder: in which order versions of unlike names are handed in is not seen; for every input that holds together at most 1048576 values. -/
import Derived.Test.YtebkkdoggagcdabB11
import Derived.SizedLaws
import Derived.JoinedCond
import Derived.Deep.CondSized
section
namespace Go.Proofs.Ytebkkdoggagcdab
open Go.RowKit Go.Hay
attribute [local go_sem] Oper.semAt_some
set_option linter.unusedVariables false
set_option linter.unusedSimpArgs false

theorem has_bool2 {o : List Vn} {i : Int × Int} {r : Int} (h : PlcP o i r) : decide (r < 0) = !hasV o i := by
  rcases h with ⟨rfl, h⟩ | ⟨j, x, rfl, hx, e, _⟩
  · rw [has_lk, lk_none.2 h]; rfl
  · have : hasV o i = true := List.any_eq_true.2 ⟨x, List.mem_of_getElem? hx, by simpa using e⟩
    rw [this]; simp
theorem rev_get (O : List Vn) {j : Nat} (h : j < O.length) : O.reverse.take (j + 1) = O.reverse.take j ++ [O[O.length - 1 - j]] := by
  rw [List.take_succ_eq_append_getElem (by simpa using h), List.getElem_reverse]
set_option maxHeartbeats 32000000 in
set_option maxRecDepth 100000 in
theorem orderWalk (a : Option Addr) (c : Nat) (l : List Vn) (X Y : Int) (w : World) (hi : InV a c l w) (hlz : l.length ≤ 100000000000) :
    Calls Try.prog 3 #[.slice a l.length c, .int .u64 X, .int .u64 Y] w fun e w' => e = .returned (.bool true) ∧ Below w.heap.size w w' := by
  have HI := hid hi
  have HLZ := hid hlz
  have hfew := hi.few
  have KS : Hid (Kp [] w w) := hid (Kp.refl _ _)
  clear hi hlz
  go_enter Try.func3, Try.ntmps3
  go_wp2_with fail
  go_loopw [7, 14] (fun v8 i wr => ∃ (j : Nat) (ra : Option Addr) (rc : Nat) (O : List Vn), j ≤ l.length ∧ i = .int .i64 (j : Int) ∧ v8 = .slice ra O.length rc ∧ Hid (firstV (l.take j) = O) ∧ Hid (GR w ra rc O wr)) (fun _ i _ => l.length - (intOf i).toNat)
  case atStart => exact ⟨0, none, 0, [], Nat.zero_le _, rfl, rfl, hid rfl, hid ⟨.inl ⟨rfl, rfl⟩, Kp.refl _ _, by simp [blk]⟩⟩
  case round =>
    obtain ⟨j, ra, rc, O, hj, rfl, rfl, hO, H⟩ := hrel
    have hOl : O.length ≤ j := by
      have := first_len (l.take j)
      rw [hO.out, List.length_take] at this
      omega
    by_cases hlt : j < l.length
    · have hsn : Hid (firstV (l.take (j + 1)) = stF O l[j]) := hid (by rw [List.take_succ_eq_append_getElem hlt, firstV_snoc, hO.out])
      obtain ⟨g, o, ea, x0, x1, x2, x3⟩ := idAt ((HI.out.kp (KS.out.trans H.out.2.1 (by simp))).see) (i := j) (x := l[j]) (by simp [hlt])
      obtain ⟨x, hx⟩ : ∃ x, Hid (l[j] = x) := ⟨l[j], hid rfl⟩
      rw [hx.out] at x0 x1 x2 x3 hsn
      have cP := hid (fun W (k : Kp [] wr W) => rPlace ra rc O x.ep x.num W (See.ofRow (H.out.1.keptNew k)) (by have := HI.out.few; omega))
      have hyes := hid (fun e : hasV O x.id = true => (by rw [hsn.out]; unfold stF; rw [if_pos e] : firstV (l.take (j + 1)) = O))
      have hno := hid (fun e : hasV O x.id = false => (by rw [hsn.out]; unfold stF; rw [e]; rfl : firstV (l.take (j + 1)) = O ++ [x]))
      have hbb := hid (fun r (h : PlcP O x.id r) => has_bool2 h)
      have happ := hid (fun W (k : Kp [] wr W) => (H.out.kp k).app x W.heap.size rfl (by have := HI.out.few; omega))
      obtain ⟨xe, xn, xa, xc, xr, xd⟩ := x
      dsimp only at x0 x1 x2 x3 cP happ
      obtain ⟨q7, W1, W2, eq7, eW1, b1, eW2, b2, kW2⟩ := boxVn wr xe xn xa xr.length xc xd
      have m0 := b1.get 0 _ rfl; have m1 := b1.get 1 _ rfl; have m2 := b1.get 2 _ rfl; have m3 := b1.get 3 _ rfl
      have f0 := b1.free 0; have f1 := b1.free 1; have f2 := b1.free 2; have f3 := b1.free 3
      have v0 := b2.get 0 _ rfl; have v1 := b2.get 1 _ rfl; have v2 := b2.get 2 _ rfl; have v3 := b2.get 3 _ rfl
      have kA1 : Kp [] wr W1 := by rw [← eW1]; exact (Kp.refl [] wr).alloc _
      have g0 := kpAt kA1 x0; have g1 := kpAt kA1 x1; have g2 := kpAt kA1 x2; have g3 := kpAt kA1 x3
      have cP2 := hid (cP.out W2 kW2)
      have KW2 := hid kW2
      have B2 := hid b2
      have i1 : (0 : Int) ≤ (j : Int) := by omega
      have i2 : (j : Int) < (l.length : Int) := by omega
      have i3 : (j : Int) + 1 ≤ 9223372036854775807 := by omega
      subst ea
      clear b1 b2 kW2 kA1 hsn cP
      go_wp2_with fail
      refine cP2.out.mono ?_
      rintro e w3 ⟨r, rfl, hP, k3⟩
      have hb1 := hbb.out r hP
      have K3 := hid (KW2.out.trans k3 (by simp))
      have b3 := B2.out.kept k3
      have p0 := b3.get 0 _ rfl; have p1 := b3.get 1 _ rfl; have p2 := b3.get 2 _ rfl; have p3 := b3.get 3 _ rfl
      cases hh : hasV O (⟨xe, xn, xa, xc, xr, xd⟩ : Vn).id with
      | true =>
        rw [hh, Bool.not_true] at hb1
        have hn := hid (hyes.out hh)
        have HF := hid (H.out.kp K3.out)
        clear hh hP k3 b3 cP2 hbb hyes hno happ
        go_wp2_with fail
        go_roundw
        case rel => exact ⟨j + 1, ra, rc, O, by omega, by go_num, rfl, hn, HF⟩
        case measure => simp [intOf]; omega
      | false =>
        rw [hh, Bool.not_false] at hb1
        have hn := hid (hno.out hh)
        obtain ⟨a4, c4, W4, hrun, hg4⟩ := happ.out w3 K3.out
        obtain ⟨O4, hO4⟩ : ∃ O4, Hid (O ++ [(⟨xe, xn, xa, xc, xr, xd⟩ : Vn)] = O4) := ⟨_, hid rfl⟩
        rw [hO4.out] at hrun hg4 hn
        have HF := hid hg4
        clear hh hP k3 b3 cP2 hbb hyes hno happ hg4
        go_wp2_with (first | (refine wpAppRun rfl _ _ 22 22 rfl _ _ _ rfl rfl hrun ?_) | fail)
        go_roundw
        case rel => exact ⟨j + 1, a4, c4, O4, by omega, by go_num, rfl, hn, HF⟩
        case measure => simp [intOf]; omega
    · obtain ⟨w9, hw9⟩ : ∃ x, x = wr := ⟨_, rfl⟩
      subst hw9
      obtain rfl : j = l.length := by omega
      have hF : Hid (firstV l = O) := hid (by have := hO.out; rwa [List.take_length] at this)
      have K9 := hid (KS.out.trans H.out.2.1 (by simp))
      have HO : Hid (InV ra rc O w9) := hid ⟨See.ofRow H.out.1, (by
        obtain ⟨_, _, e2, _, h3, _⟩ := H.out.1.see
        cases e2
        exact fun e => (h3 e).2), by have := HI.out.few; omega, fun x hx => (HI.out.kp K9.out).ok x (first_mem (by rw [hF.out]; exact hx)), fun x hx => HI.out.rg x (first_mem (by rw [hF.out]; exact hx))⟩
      clear H hO hOl
      have hOl2 : O.length ≤ 1000000000000 := HO.out.few
      go_wp2_with fail
      go_loopw [8, 30] (fun v8 i wr => ∃ (k : Nat) (rb : Option Addr) (rd : Nat) (M : List Vn), k ≤ O.length ∧ i = .int .i64 (k : Int) ∧ v8 = .slice rb M.length rd ∧ Hid (M = O.reverse.take k) ∧ Hid (GR w9 rb rd M wr)) (fun _ i _ => O.length - (intOf i).toNat)
      case atStart => exact ⟨0, none, 0, [], Nat.zero_le _, rfl, rfl, hid rfl, hid ⟨.inl ⟨rfl, rfl⟩, Kp.refl _ _, by simp [blk]⟩⟩
      case round =>
        obtain ⟨k, rb, rd, M, hk, rfl, rfl, hM, H⟩ := hrel
        have hMl : Hid (M.length ≤ k) := hid (by rw [hM.out, List.length_take]; omega)
        by_cases hlt : k < O.length
        · obtain ⟨m, hm⟩ : ∃ m, m = O.length - 1 - k := ⟨_, rfl⟩
          have hmO : m < O.length := by omega
          have hsn : Hid (M ++ [O[m]] = O.reverse.take (k + 1)) := hid (by rw [rev_get O hlt, ← hM.out]; subst hm; rfl)
          obtain ⟨g, o, ea, x0, x1, x2, x3⟩ := idAt ((HO.out.kp H.out.2.1).see) (i := m) (x := O[m]) (by simp [hmO])
          obtain ⟨x, hx⟩ : ∃ x, Hid (O[m] = x) := ⟨O[m], hid rfl⟩
          rw [hx.out] at x0 x1 x2 x3 hsn
          obtain ⟨q8, hq8⟩ : ∃ q, wr.heap.size = q := ⟨_, rfl⟩
          obtain ⟨a4, c4, W4, hrun, hg4⟩ := H.out.app x q8 hq8 (by have := hMl.out; omega)
          obtain ⟨M4, hM4⟩ : ∃ M4, Hid (M ++ [x] = M4) := ⟨_, hid rfl⟩
          rw [hM4.out] at hrun hg4 hsn
          have HF := hid hg4
          obtain ⟨xe, xn, xa, xc, xr, xd⟩ := x
          dsimp only at x0 x1 x2 x3 hrun
          have i1 : (0 : Int) ≤ (k : Int) := by omega
          have i2 : (k : Int) < (O.length : Int) := by omega
          have i3 : (k : Int) + 1 ≤ 9223372036854775807 := by omega
          have em : (O.length : Int) - 1 - (k : Int) = (m : Int) := by omega
          have em1 : (-9223372036854775808 : Int) ≤ (O.length : Int) - 1 - (k : Int) := by omega
          have em2 : (O.length : Int) - 1 - (k : Int) ≤ 9223372036854775807 := by omega
          have j1 : (0 : Int) ≤ (m : Int) := by omega
          have j2 : (m : Int) < (O.length : Int) := by omega
          have HM := hid hm
          subst ea
          clear hg4 hm
          go_wp2_with (first | (refine wpAppRun rfl _ _ 22 22 rfl _ _ _ rfl rfl hrun ?_) | fail)
          go_roundw
          case rel => exact ⟨k + 1, a4, c4, M4, by omega, by go_num, rfl, hsn, HF⟩
          case measure => simp [intOf]; omega
        · obtain ⟨wb, hwb⟩ : ∃ x, x = wr := ⟨_, rfl⟩
          subst hwb
          obtain rfl : k = O.length := by omega
          have hMr : Hid (M = O.reverse) := hid (by rw [hM.out, ← List.length_reverse, List.take_length])
          have hUq : Hid (Uq O) := hid (by rw [← hF.out]; exact first_uq l)
          have Kw0 := hid (K9.out.trans H.out.2.1 (by simp))
          have TO := hid (HO.out.kp H.out.2.1)
          have TM : Hid (InV rb rd M wb) := hid ⟨See.ofRow H.out.1, (by
            obtain ⟨_, _, e2, _, h3, _⟩ := H.out.1.see
            cases e2
            exact fun e => (h3 e).2), by rw [hMr.out, List.length_reverse]; exact HO.out.few, fun x hx => TO.out.ok x (by rw [hMr.out] at hx; simpa using hx), fun x hx => TO.out.rg x (by rw [hMr.out] at hx; simpa using hx)⟩
          have hlk : Hid (∀ i, lk M i = lk O i) := hid fun i => by rw [hMr.out]; exact uq_rev hUq.out i
          have eU : Hid (uptoV M Y = uptoV O Y) := hid (upto_of_lk hlk.out Y)
          have eC : Hid (chgV M X Y = chgV O X Y) := hid (chg_of_lk hlk.out X Y)
          have eM : Hid (mrgV O l = mrgV M O) := hid (mrg_of_lk (fun i => (hlk.out i).symm) (fun i => by rw [← hF.out, first_lk]))
          have hOz : Hid (O.length ≤ 100000000000 ∧ M.length ≤ 100000000000) := hid (by
            have h1 := first_len l
            rw [hF.out] at h1
            have h2 := HLZ.out
            have h3 : M.length = O.length := by rw [hMr.out, List.length_reverse]
            omega)
          have cA := hid (cAliveR wb)
          clear H hMl hM
          go_wp2_with fail
          refine cA.out.mono ?_
          rintro e w0 ⟨rfl, k0⟩
          replace Kw0 := hid (Kw0.out.trans k0 (by simp))
          replace TO := hid (TO.out.kp k0)
          replace TM := hid (TM.out.kp k0)
          clear cA k0
          have cX := hid (tUpto TO.out Y)
          go_wp2_with fail
          refine cX.out.mono ?_
          rintro e w1 ⟨aA, cA, LA, rfl, tA, kk⟩
          have Kw1 := hid (Kw0.out.trans kk (by simp))
          have TA := hid tA
          replace TO := hid (TO.out.kp kk)
          replace TM := hid (TM.out.kp kk)
          clear cX tA kk
          have cX := hid (tUpto TM.out Y)
          go_wp2_with fail
          refine cX.out.mono ?_
          rintro e w2 ⟨aB, cB, LB, rfl, tB, kk⟩
          have Kw2 := hid (Kw1.out.trans kk (by simp))
          have TB := hid tB
          replace TO := hid (TO.out.kp kk)
          replace TM := hid (TM.out.kp kk)
          replace TA := hid (TA.out.kp kk)
          clear cX tB kk
          have cX := hid (tSame TA.out.i TB.out.i (TA.out.like.trans (by rw [← eU.out]; exact TB.out.like.symm)))
          go_wp2_with fail
          refine cX.out.mono ?_
          rintro e w3 ⟨rfl, kk⟩
          have Kw3 := hid (Kw2.out.trans kk (by simp))
          replace TO := hid (TO.out.kp kk)
          replace TM := hid (TM.out.kp kk)
          clear cX kk
          have cX := hid (tChg TO.out X Y)
          go_wp2_with fail
          refine cX.out.mono ?_
          rintro e w4 ⟨aC, cC, LC, rfl, tC, kk⟩
          have Kw4 := hid (Kw3.out.trans kk (by simp))
          have TC := hid tC
          replace TO := hid (TO.out.kp kk)
          replace TM := hid (TM.out.kp kk)
          clear cX tC kk
          have cX := hid (tChg TM.out X Y)
          go_wp2_with fail
          refine cX.out.mono ?_
          rintro e w5 ⟨aD, cD, LD, rfl, tD, kk⟩
          have Kw5 := hid (Kw4.out.trans kk (by simp))
          have TD := hid tD
          replace TO := hid (TO.out.kp kk)
          replace TM := hid (TM.out.kp kk)
          replace TC := hid (TC.out.kp kk)
          clear cX tD kk
          have cX := hid (tSame TC.out.i TD.out.i (TC.out.like.trans (by rw [← eC.out]; exact TD.out.like.symm)))
          go_wp2_with fail
          refine cX.out.mono ?_
          rintro e w6 ⟨rfl, kk⟩
          have Kw6 := hid (Kw5.out.trans kk (by simp))
          replace TO := hid (TO.out.kp kk)
          replace TM := hid (TM.out.kp kk)
          clear cX kk
          have cX := hid (tMrg TO.out (HI.out.kp Kw6.out) (Eq.refl (O.map Vn.p)) (Eq.refl (l.map Vn.p)) (by have h1 := hOz.out; have h2 := HLZ.out; omega))
          go_wp2_with fail
          refine cX.out.mono ?_
          rintro e w7 ⟨aE, cE, LE, rfl, tE, kk⟩
          have Kw7 := hid (Kw6.out.trans kk (by simp))
          have TE := hid tE
          replace TO := hid (TO.out.kp kk)
          replace TM := hid (TM.out.kp kk)
          clear cX tE kk
          have cX := hid (tMrg TM.out TO.out (Eq.refl (M.map Vn.p)) (Eq.refl (O.map Vn.p)) (by have h1 := hOz.out; omega))
          go_wp2_with fail
          refine cX.out.mono ?_
          rintro e w8 ⟨aF, cF, LF, rfl, tF, kk⟩
          have Kw8 := hid (Kw7.out.trans kk (by simp))
          have TF := hid tF
          replace TE := hid (TE.out.kp kk)
          clear cX tF kk
          have cX := hid (tSame TE.out.i TF.out.i (TE.out.like.trans (by rw [eM.out]; exact TF.out.like.symm)))
          go_wp2_with fail
          refine cX.out.mono ?_
          rintro e wZ ⟨rfl, kk⟩
          have KwZ := hid (Kw8.out.trans kk (by simp))
          clear cX kk
          go_wp2_with fail
          go_ret
          exact ⟨rfl, KwZ.out.below⟩
end Go.Proofs.Ytebkkdoggagcdab
end

section
namespace Go.Proofs.Ytebkkdoggagcdab
open Go.ChangeShapes Go.WideShapes Go.ChangeAt Go.RowKit Go.Hay
set_option linter.unusedVariables false

set_option maxRecDepth 100000 in
theorem recoverOrderContract (H : Type) (enc : TypeId × Value → H) (W : World) (base : Nat) (args : Array Value) (ds gs : List (DataW H)) (before : List MemPlace)
    (hval : ∀ (j : Nat) t v, Try.f3.params[j]? = some t → args[j]? = some v → Value.okWide Try.prog W .any base t v)
    (hW : DataW.Whole enc Try.prog Try.f3.params.toList Rows.recoverOrderSpec.vars false W args.toList ds gs before)
    (hsz : (DataW.weightsEach Try.prog (Try.f3.params.toList ++ (Rows.OpenSpec.upto Rows.recoverOrderSpec).bare.plain.varTypes Try.prog) (ds ++ gs)).all (· ≤ reachBytes) = true)
    (hk : Rows.uptoSmall H (ds ++ gs) = true) :
    Calls Try.prog 3 args W fun e W' => ∃ v, e = .returned v ∧ Rows.recoverOrderSpec.post enc Try.prog Try.f3 false true false false W args v W' := by
  have hW' := hW
  obtain ⟨p, q, hA0, hV, rfl, hfz, hnd⟩ := hW
  have hA : DataW.TrodAll enc Try.prog W 0 (fun _ => true) true Try.f3.params.toList args.toList ds p := hA0
  rw [Try.params3] at hA hval hsz
  obtain ⟨v0, vs0, d0, ds0, p0, q0, hargs, rfl, rfl, h0, r0⟩ := trodAll_cons hA
  obtain ⟨v1, vs1, d1, ds1, p1, q1, rfl, rfl, rfl, h1, r1⟩ := trodAll_cons r0
  obtain ⟨v2, vs2, d2, ds2, p2, q2, rfl, rfl, rfl, h2, r2⟩ := trodAll_cons r1
  obtain ⟨rfl, rfl, rfl⟩ := trodAll_nil r2
  obtain rfl : args = #[v0, v1, v2] := by cases args; simp_all
  obtain ⟨rfl, rfl⟩ := trodVars_none hV
  obtain ⟨a0, len0, cap0, rfl⟩ := okWide_slice Try.underlying22 (hval 0 22 v0 rfl rfl)
  have k0 := h0
  have lt0 : ∀ x ∈ p0, x.block < W.heap.size := by obtain ⟨m, hm⟩ := k0; exact DataW.trod_lt m _ _ _ hm
  obtain ⟨l0, rfl, hs0, hok0, hl0, hm0, hn0, hfit0, hbk0, hcp0⟩ := openVers h0
  obtain ⟨hc0, hq0⟩ := hfit0 (List.all_eq_true.2 fun x hx => List.all_eq_true.1 hsz x (by simp [DataW.weightsEach]; first | exact .inl hx | exact .inr hx | exact .inr (.inl hx) | exact .inr (.inr hx) | exact hx))
  obtain ⟨a1, rfl, rfl, rfl, w1⟩ := open_int Try.underlying23 (hval 1 23 v1 rfl rfl) h1
  have hb1 := bounds_u64 w1
  obtain ⟨a2, rfl, rfl, rfl, w2⟩ := open_int Try.underlying23 (hval 2 23 v2 rfl rfl) h2
  have hb2 := bounds_u64 w2
  have hbk := of_decide_eq_true hk
  simp only [List.append_nil, Rows.uptoBulkAll] at hbk
  clear hA0
  refine (orderWalk a0 cap0 l0 a1 a2 W ⟨hs0, hn0, by omega, fun y hy => (hok0 y hy).ok (hq0 y hy), fun y hy => (hok0 y hy).rg⟩ (by omega)).mono fun e W' ⟨he, bel⟩ => ?_
  subst he
  exact ⟨_, rfl, _, _, _, [], _, [], hW', trodAll_mk1 (shut_bool Try.underlying4 _), (trodAll_cons_mk (Below.trod Try.laidOut (by kernel_rfl) (of_decide_eq_true (by kernel_rfl)) k0 bel lt0) (trodAll_cons_mk (shut_int Try.underlying23 w1) (trodAll_cons_mk (shut_int Try.underlying23 w2) trodAll_mk0))), rfl, bel.frame _, fun h => by cases h⟩

set_option maxRecDepth 100000 in
theorem recoverOrderLifted (os : Os) (started : os.Started) (H : Type) (enc : TypeId × Value → H) (F : Stop.Interp) :
    ReturnsInHanded {} Try.checked os 3 .any ((Rows.OpenSpec.upto Rows.recoverOrderSpec).pre6 enc Try.prog Try.f3 Rows.recoverOrderUptoRow.domain false) (((Rows.OpenSpec.upto Rows.recoverOrderSpec).at F).post enc Try.prog Try.f3 false true false false) := by
  refine returnsInHanded_of_cond_sized (C := Try.checked) (s := Rows.OpenSpec.upto Rows.recoverOrderSpec) (k := Rows.uptoSmall) rfl Try.own started (by kernel_rfl) Try.func3
    (OpenSpec.witness (enc := enc) (C := Try.checked) (s := Rows.OpenSpec.upto Rows.recoverOrderSpec) (k := Rows.uptoSmall) rfl false ⟨#[], #[.slice none 0 0, .int .u64 0, .int .u64 0], []⟩ 8 (by kernel_rfl) (by kernel_rfl) (by kernel_rfl)
      (x := ([.nil, .lit (.int .u64 0), .lit (.int .u64 0)], [], [])) (by kernel_rfl) rfl (by kernel_rfl)) ?_
  intro W base args ds gs before hval hW _ hk hsz _
  exact recoverOrderContract H enc W base args ds gs before hval hW hsz hk

theorem RecoverOrder_holds : Rows.RecoverOrderUptoSaid :=
  OpenClaim.holds_of_cond 3 Try.f3 rfl rfl rfl rfl rfl rfl rfl ⟨rfl, rfl, rfl, rfl, rfl⟩ rfl rfl rfl rfl rfl (by kernel_rfl) Try.func3 (by kernel_rfl)
    (of_decide_eq_true (by kernel_rfl)) (by unfold Func.isWrapper; first | (rw [if_pos (by decide +kernel)]; kernel_rfl) | (rw [if_neg (by decide +kernel)]; exact ⟨rfl, rfl⟩))
    (fun os started H enc _ F => recoverOrderLifted os started H enc F)

#print axioms RecoverOrder_holds
end Go.Proofs.Ytebkkdoggagcdab
end

/- RecoverPurged: what was deleted at or before an epoch, and is left out by the giver, is not missed in the changes since that epoch, or a later one; for every input that holds together at most 1048576 values. -/
import Derived.Test.YtebkkdoggagcdaaB13
import Derived.SizedLaws
import Derived.JoinedCond
import Derived.Deep.CondSized
section
namespace Go.Proofs.Ytebkkdoggagcdaa
open Go.RowKit Go.Hay
attribute [local go_sem] Oper.semAt_some
set_option linter.unusedVariables false
set_option linter.unusedSimpArgs false

theorem has_bool2 {o : List Vn} {i : Int × Int} {r : Int} (h : PlcP o i r) : decide (r < 0) = !hasV o i := by
  rcases h with ⟨rfl, h⟩ | ⟨j, x, rfl, hx, e, _⟩
  · rw [has_lk, lk_none.2 h]; rfl
  · have : hasV o i = true := List.any_eq_true.2 ⟨x, List.mem_of_getElem? hx, by simpa using e⟩
    rw [this]; simp
set_option maxHeartbeats 32000000 in
set_option maxRecDepth 100000 in
theorem purgedWalk (a : Option Addr) (c : Nat) (l : List Vn) (X Y Z : Int) (w : World) (hi : InV a c l w) (hY : 0 ≤ Y) :
    Calls Try.prog 6 #[.slice a l.length c, .agg #[.int .u64 X, .int .u64 Y, .int .u64 Z]] w fun e w' => e = .returned (.bool true) ∧ Below w.heap.size w w' := by
  have HI := hid hi
  obtain ⟨wS, hwS, kS, bS⟩ : ∃ x, w.alloc (.cells #[.int .u64 X, .int .u64 Y, .int .u64 Z] 39) = x ∧ Kp [] w x ∧ Bn x w.heap.size [.int .u64 X, .int .u64 Y, .int .u64 Z] := ⟨_, rfl, (Kp.refl _ _).alloc _, Bn.new w _ _⟩
  obtain ⟨q3, hq3⟩ : ∃ q, w.heap.size = q := ⟨_, rfl⟩
  rw [hq3] at bS
  have s0 := bS.get 0 _ rfl; have s1 := bS.get 1 _ rfl; have s2 := bS.get 2 _ rfl
  have hz1 : wS.heap.size = w.heap.size + 1 := by rw [← hwS]; simp
  clear hz1
  have KS0 := hid kS
  have hfew := hi.few
  clear hi kS bS
  go_enter Try.func6, Try.ntmps6
  go_wp2_with fail
  go_quiet (fail)
  have KS : Hid (Kp [] w (wS.drewN nq)) := hid (KS0.out.drewN _)
  generalize wS.drewN nq = wS at *
  clear s0 s1 s2
  by_cases h1 : X > Y
  · have d1 : decide (X > Y) = true := decide_eq_true h1
    have d2 : decide (Y < X) = true := decide_eq_true h1
    have cA := hid (cAliveR wS)
    clear h1
    go_wp2_with fail
    refine cA.out.mono ?_
    rintro e wz ⟨rfl, kz⟩
    have KZ := hid (KS.out.trans kz (by simp))
    clear cA kz
    go_wp2_with fail
    go_ret
    exact ⟨rfl, KZ.out.below⟩
  · have d1 : decide (X > Y) = false := decide_eq_false h1
    have d2 : decide (Y < X) = false := decide_eq_false h1
    have hXY : Hid (X ≤ Y) := hid (by omega)
    clear h1
    go_wp2_with fail
    go_loopw [8, 23] (fun v8 i wr => ∃ (j : Nat) (ra : Option Addr) (rc : Nat) (O : List Vn), j ≤ l.length ∧ i = .int .i64 (j : Int) ∧ v8 = .slice ra O.length rc ∧ Hid (firstV (l.take j) = O) ∧ Hid (GR wS ra rc O wr)) (fun _ i _ => l.length - (intOf i).toNat)
    case atStart => exact ⟨0, none, 0, [], Nat.zero_le _, rfl, rfl, hid rfl, hid ⟨.inl ⟨rfl, rfl⟩, Kp.refl _ _, by simp [blk]⟩⟩
    case round =>
      obtain ⟨j, ra, rc, O, hj, rfl, rfl, hO, H⟩ := hrel
      have hOl : O.length ≤ j := by
        have := first_len (l.take j)
        rw [hO.out, List.length_take] at this
        omega
      by_cases hlt : j < l.length
      · have hsn : Hid (firstV (l.take (j + 1)) = stF O l[j]) := hid (by rw [List.take_succ_eq_append_getElem hlt, firstV_snoc, hO.out])
        obtain ⟨g, o, ea, x0, x1, x2, x3⟩ := idAt ((HI.out.kp (KS.out.trans H.out.2.1 (by simp))).see) (i := j) (x := l[j]) (by simp [hlt])
        obtain ⟨x, hx⟩ : ∃ x, Hid (l[j] = x) := ⟨l[j], hid rfl⟩
        rw [hx.out] at x0 x1 x2 x3 hsn
        have cP := hid (fun W (k : Kp [] wr W) => rPlace ra rc O x.ep x.num W (See.ofRow (H.out.1.keptNew k)) (by have := HI.out.few; omega))
        have hyes := hid (fun e : hasV O x.id = true => (by rw [hsn.out]; unfold stF; rw [if_pos e] : firstV (l.take (j + 1)) = O))
        have hno := hid (fun e : hasV O x.id = false => (by rw [hsn.out]; unfold stF; rw [e]; rfl : firstV (l.take (j + 1)) = O ++ [x]))
        have hbb := hid (fun r (h : PlcP O x.id r) => has_bool2 h)
        have happ := hid (fun W (k : Kp [] wr W) => (H.out.kp k).app x W.heap.size rfl (by have := HI.out.few; omega))
        obtain ⟨xe, xn, xa, xc, xr, xd⟩ := x
        dsimp only at x0 x1 x2 x3 cP happ
        obtain ⟨q7, W1, W2, eq7, eW1, b1, eW2, b2, kW2⟩ := boxVn wr xe xn xa xr.length xc xd
        have m0 := b1.get 0 _ rfl; have m1 := b1.get 1 _ rfl; have m2 := b1.get 2 _ rfl; have m3 := b1.get 3 _ rfl
        have f0 := b1.free 0; have f1 := b1.free 1; have f2 := b1.free 2; have f3 := b1.free 3
        have v0 := b2.get 0 _ rfl; have v1 := b2.get 1 _ rfl; have v2 := b2.get 2 _ rfl; have v3 := b2.get 3 _ rfl
        have kA1 : Kp [] wr W1 := by rw [← eW1]; exact (Kp.refl [] wr).alloc _
        have g0 := kpAt kA1 x0; have g1 := kpAt kA1 x1; have g2 := kpAt kA1 x2; have g3 := kpAt kA1 x3
        have cP2 := hid (cP.out W2 kW2)
        have KW2 := hid kW2
        have B2 := hid b2
        have i1 : (0 : Int) ≤ (j : Int) := by omega
        have i2 : (j : Int) < (l.length : Int) := by omega
        have i3 : (j : Int) + 1 ≤ 9223372036854775807 := by omega
        subst ea
        clear b1 b2 kW2 kA1 hsn cP
        go_wp2_with fail
        refine cP2.out.mono ?_
        rintro e w3 ⟨r, rfl, hP, k3⟩
        have hb1 := hbb.out r hP
        have K3 := hid (KW2.out.trans k3 (by simp))
        have b3 := B2.out.kept k3
        have p0 := b3.get 0 _ rfl; have p1 := b3.get 1 _ rfl; have p2 := b3.get 2 _ rfl; have p3 := b3.get 3 _ rfl
        cases hh : hasV O (⟨xe, xn, xa, xc, xr, xd⟩ : Vn).id with
        | true =>
          rw [hh, Bool.not_true] at hb1
          have hn := hid (hyes.out hh)
          have HF := hid (H.out.kp K3.out)
          clear hh hP k3 b3 cP2 hbb hyes hno happ
          go_wp2_with fail
          go_roundw
          case rel => exact ⟨j + 1, ra, rc, O, by omega, by go_num, rfl, hn, HF⟩
          case measure => simp [intOf]; omega
        | false =>
          rw [hh, Bool.not_false] at hb1
          have hn := hid (hno.out hh)
          obtain ⟨a4, c4, W4, hrun, hg4⟩ := happ.out w3 K3.out
          obtain ⟨O4, hO4⟩ : ∃ O4, Hid (O ++ [(⟨xe, xn, xa, xc, xr, xd⟩ : Vn)] = O4) := ⟨_, hid rfl⟩
          rw [hO4.out] at hrun hg4 hn
          have HF := hid hg4
          clear hh hP k3 b3 cP2 hbb hyes hno happ hg4
          go_wp2_with (first | (refine wpAppRun rfl _ _ 22 22 rfl _ _ _ rfl rfl hrun ?_) | fail)
          go_roundw
          case rel => exact ⟨j + 1, a4, c4, O4, by omega, by go_num, rfl, hn, HF⟩
          case measure => simp [intOf]; omega
      · obtain ⟨w9, hw9⟩ : ∃ x, x = wr := ⟨_, rfl⟩
        subst hw9
        obtain rfl : j = l.length := by omega
        have hF : Hid (firstV l = O) := hid (by have := hO.out; rwa [List.take_length] at this)
        have K9 := hid (KS.out.trans H.out.2.1 (by simp))
        have HO : Hid (InV ra rc O w9) := hid ⟨See.ofRow H.out.1, (by
          obtain ⟨_, _, e2, _, h3, _⟩ := H.out.1.see
          cases e2
          exact fun e => (h3 e).2), by have := HI.out.few; omega, fun x hx => (HI.out.kp K9.out).ok x (first_mem (by rw [hF.out]; exact hx)), fun x hx => HI.out.rg x (first_mem (by rw [hF.out]; exact hx))⟩
        clear H hO hOl
        have cR := hid (rRight ra rc O w9 HO.out.see (by have := HO.out.few; omega))
        obtain ⟨RB, hRB⟩ : ∃ b, Hid (rightV O = b) := ⟨_, hid rfl⟩
        rw [hRB.out] at cR
        go_wp2_with fail
        refine cR.out.mono ?_
        rintro e w10 ⟨rfl, k10⟩
        have K10 := hid (K9.out.trans k10 (by simp))
        have HO10 := hid (HO.out.kp k10)
        have cA := hid (cAliveR w10)
        clear cR k10
        cases RB with
        | false =>
          go_wp2_with fail
          refine cA.out.mono ?_
          rintro e wz ⟨rfl, kz⟩
          have KZ := hid (K10.out.trans kz (by simp))
          clear cA kz
          go_wp2_with fail
          go_ret
          exact ⟨rfl, KZ.out.below⟩
        | true =>
          have hUq : Hid (Uq O) := hid (by rw [← hF.out]; exact first_uq l)
          go_wp2_with fail
          refine cA.out.mono ?_
          rintro e w11 ⟨rfl, k11⟩
          have K11 := hid (K10.out.trans k11 (by simp))
          have HO11 := hid (HO10.out.kp k11)
          have cP := hid (rPurge ra rc O X w11 HO11.out.see (by have := HO.out.few; omega))
          obtain ⟨U, hU⟩ : ∃ U, Hid (purV X O = U) := ⟨_, hid rfl⟩
          rw [hU.out] at cP
          clear cA k11
          go_wp2_with fail
          refine cP.out.mono ?_
          rintro e w12 ⟨a12, c12, rfl, hr12, k12, _⟩
          have K12 := hid (K11.out.trans k12 (by simp))
          have HO12 := hid (HO11.out.kp k12)
          have HU12 : Hid (InV a12 c12 U w12) := hid ⟨See.ofRow hr12, (by
            obtain ⟨_, _, e2, _, h3, _⟩ := hr12.see
            cases e2
            exact fun e => (h3 e).2), by
              have h2 : (purV X O).length ≤ O.length := List.length_filter_le _ _
              rw [hU.out] at h2
              have := HO.out.few
              omega, fun x hx => HO12.out.ok x (by rw [← hU.out] at hx; exact (List.mem_filter.1 hx).1), fun x hx => HO12.out.rg x (by rw [← hU.out] at hx; exact (List.mem_filter.1 hx).1)⟩
          have cC := hid (tChg HU12.out Y Z)
          obtain ⟨R, hR⟩ : ∃ R, Hid (chgV O Y Z = R) := ⟨_, hid rfl⟩
          have hR2 : Hid (chgV U Y Z = R) := hid (by rw [← hR.out, ← hU.out]; exact purge_chg hUq.out hRB.out Z hXY.out hY)
          rw [hR2.out] at cC
          clear cP hr12 k12
          go_wp2_with fail
          refine cC.out.mono ?_
          rintro e w13 ⟨a13, c13, L13, rfl, t13, k13⟩
          have K13 := hid (K12.out.trans k13 (by simp))
          have HO13 := hid (HO12.out.kp k13)
          have T13 := hid t13
          have cC2 := hid (tChg HO13.out Y Z)
          rw [hR.out] at cC2
          clear cC t13 k13
          go_wp2_with fail
          refine cC2.out.mono ?_
          rintro e w14 ⟨a14, c14, L14, rfl, t14, k14⟩
          have K14 := hid (K13.out.trans k14 (by simp))
          have cS := hid (tSame (T13.out.kp k14).i t14.i (T13.out.like.trans t14.like.symm))
          clear cC2 t14 k14
          go_wp2_with fail
          refine cS.out.mono ?_
          rintro e w15 ⟨rfl, k15⟩
          have K15 := hid (K14.out.trans k15 (by simp))
          clear cS k15
          go_wp2_with fail
          go_ret
          exact ⟨rfl, K15.out.below⟩
end Go.Proofs.Ytebkkdoggagcdaa
end

section
namespace Go.Proofs.Ytebkkdoggagcdaa
open Go.ChangeShapes Go.WideShapes Go.ChangeAt Go.RowKit Go.Hay
set_option linter.unusedVariables false

set_option maxRecDepth 100000 in
theorem recoverPurgedContract (H : Type) (enc : TypeId × Value → H) (W : World) (base : Nat) (args : Array Value) (ds gs : List (DataW H)) (before : List MemPlace)
    (hval : ∀ (j : Nat) t v, Try.f6.params[j]? = some t → args[j]? = some v → Value.okWide Try.prog W .any base t v)
    (hW : DataW.Whole enc Try.prog Try.f6.params.toList Rows.recoverPurgedSpec.vars false W args.toList ds gs before)
    (hsz : (DataW.weightsEach Try.prog (Try.f6.params.toList ++ (Rows.OpenSpec.upto Rows.recoverPurgedSpec).bare.plain.varTypes Try.prog) (ds ++ gs)).all (· ≤ reachBytes) = true)
    (hk : Rows.uptoSmall H (ds ++ gs) = true) :
    Calls Try.prog 6 args W fun e W' => ∃ v, e = .returned v ∧ Rows.recoverPurgedSpec.post enc Try.prog Try.f6 false true false false W args v W' := by
  have hW' := hW
  obtain ⟨p, q, hA0, hV, rfl, hfz, hnd⟩ := hW
  have hA : DataW.TrodAll enc Try.prog W 0 (fun _ => true) true Try.f6.params.toList args.toList ds p := hA0
  rw [Try.params6] at hA hval hsz
  obtain ⟨v0, vs0, d0, ds0, p0, q0, hargs, rfl, rfl, h0, r0⟩ := trodAll_cons hA
  obtain ⟨v1, vs1, d1, ds1, p1, q1, rfl, rfl, rfl, h1, r1⟩ := trodAll_cons r0
  obtain ⟨rfl, rfl, rfl⟩ := trodAll_nil r1
  obtain rfl : args = #[v0, v1] := by cases args; simp_all
  obtain ⟨rfl, rfl⟩ := trodVars_none hV
  obtain ⟨a0, len0, cap0, rfl⟩ := okWide_slice Try.underlying22 (hval 0 22 v0 rfl rfl)
  have k0 := h0
  have lt0 : ∀ x ∈ p0, x.block < W.heap.size := by obtain ⟨m, hm⟩ := k0; exact DataW.trod_lt m _ _ _ hm
  obtain ⟨l0, rfl, hs0, hok0, hl0, hm0, hn0, hfit0, hbk0, hcp0⟩ := openVers h0
  obtain ⟨hc0, hq0⟩ := hfit0 (List.all_eq_true.2 fun x hx => List.all_eq_true.1 hsz x (by simp [DataW.weightsEach]; first | exact .inl hx | exact .inr hx | exact .inr (.inl hx) | exact .inr (.inr hx) | exact hx))
  have k1 := h1
  have lt1 : ∀ x ∈ p1, x.block < W.heap.size := by obtain ⟨m, hm⟩ := k1; exact DataW.trod_lt m _ _ _ hm
  obtain ⟨x1, y1, z1, rfl, hx1, hy1, hz1⟩ := openEp3 (hval 1 39 v1 rfl rfl) h1
  have hbk := of_decide_eq_true hk
  simp only [List.append_nil, Rows.uptoBulkAll] at hbk
  clear hA0
  refine (purgedWalk a0 cap0 l0 x1 y1 z1 W ⟨hs0, hn0, by omega, fun y hy => (hok0 y hy).ok (hq0 y hy), fun y hy => (hok0 y hy).rg⟩ hy1).mono fun e W' ⟨he, bel⟩ => ?_
  subst he
  exact ⟨_, rfl, _, _, _, [], _, [], hW', trodAll_mk1 (shut_bool Try.underlying4 _), (trodAll_cons_mk (Below.trod Try.laidOut (by kernel_rfl) (of_decide_eq_true (by kernel_rfl)) k0 bel lt0) (trodAll_cons_mk (Below.trod Try.laidOut (by kernel_rfl) (of_decide_eq_true (by kernel_rfl)) k1 bel lt1) trodAll_mk0)), rfl, bel.frame _, fun h => by cases h⟩

set_option maxRecDepth 100000 in
theorem recoverPurgedLifted (os : Os) (started : os.Started) (H : Type) (enc : TypeId × Value → H) (F : Stop.Interp) :
    ReturnsInHanded {} Try.checked os 6 .any ((Rows.OpenSpec.upto Rows.recoverPurgedSpec).pre6 enc Try.prog Try.f6 Rows.recoverPurgedUptoRow.domain false) (((Rows.OpenSpec.upto Rows.recoverPurgedSpec).at F).post enc Try.prog Try.f6 false true false false) := by
  refine returnsInHanded_of_cond_sized (C := Try.checked) (s := Rows.OpenSpec.upto Rows.recoverPurgedSpec) (k := Rows.uptoSmall) rfl Try.own started (by kernel_rfl) Try.func6
    (OpenSpec.witness (enc := enc) (C := Try.checked) (s := Rows.OpenSpec.upto Rows.recoverPurgedSpec) (k := Rows.uptoSmall) rfl false ⟨#[], #[.slice none 0 0, .agg #[.int .u64 0, .int .u64 0, .int .u64 0]], []⟩ 8 (by kernel_rfl) (by kernel_rfl) (by kernel_rfl)
      (x := ([.nil, .agg [.lit (.int .u64 0), .lit (.int .u64 0), .lit (.int .u64 0)]], [], [])) (by kernel_rfl) rfl (by kernel_rfl)) ?_
  intro W base args ds gs before hval hW _ hk hsz _
  exact recoverPurgedContract H enc W base args ds gs before hval hW hsz hk

theorem RecoverPurged_holds : Rows.RecoverPurgedUptoSaid :=
  OpenClaim.holds_of_cond 6 Try.f6 rfl rfl rfl rfl rfl rfl rfl ⟨rfl, rfl, rfl, rfl, rfl⟩ rfl rfl rfl rfl rfl (by kernel_rfl) Try.func6 (by kernel_rfl)
    (of_decide_eq_true (by kernel_rfl)) (by unfold Func.isWrapper; first | (rw [if_pos (by decide +kernel)]; kernel_rfl) | (rw [if_neg (by decide +kernel)]; exact ⟨rfl, rfl⟩))
    (fun os started H enc _ F => recoverPurgedLifted os started H enc F)

#print axioms RecoverPurged_holds
end Go.Proofs.Ytebkkdoggagcdaa
end

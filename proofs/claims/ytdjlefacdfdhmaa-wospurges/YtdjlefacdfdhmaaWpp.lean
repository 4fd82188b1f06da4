/- WosPurges: the card. -/
import Derived.Test.YtdjlefacdfdhmaaB11
import Derived.SizedLaws
import Derived.JoinedCond
import Derived.Deep.CondSized
section
namespace Go.Proofs.Ytdjlefacdfdhmaa
open Go.RowKit Go.Hay
set_option linter.unusedVariables false
set_option linter.unusedSimpArgs false

set_option maxHeartbeats 8000000 in
set_option maxRecDepth 100000 in
theorem walkPurges (a : Option Addr) (c : Nat) (L : List OpV) (m d : Int) (w : World) (hs : OpE.See w a L) (ho : ∀ o ∈ L, VnOk w o.v) (hb : L.length ≤ 2000000000000) (hm : 0 ≤ m ∧ m ≤ 18446744073709551615) (hd : 0 ≤ d ∧ d ≤ 18446744073709551615) :
    Calls Try.prog 4 #[.slice a L.length c, .int .u64 m, .int .u64 d] w fun e w' => e = .returned (.bool true) ∧ Below w.heap.size w w' := by
  have cB := cBegun w
  have hR := hid (fun w1 p (P : PW w w1 p (.slice none 0 0) [] none []) => cRun P a c L hs ho hb)
  clear hs ho
  go_enter Try.func4, Try.ntmps4
  go_wp2_with fail
  refine cB.mono ?_
  rintro e w1 ⟨p, rfl, hD, k1, hp⟩
  have cR := hR.out w1 p (BegP.pw hD k1 hp)
  clear cB hD hR
  go_wp2_with fail
  refine cR.mono ?_
  rintro e1 w2 ⟨p', v', l', ra', rc', r', rfl, P, _⟩
  clear cR
  by_cases hov : m + d ≤ 18446744073709551615
  · have t1 : ¬ m + d < m := by omega
    obtain ⟨E, hE⟩ : ∃ E, m + d = E := ⟨_, rfl⟩
    obtain ⟨w3, k3, cA, cG⟩ := atPair P.D E
    have P3 := P.keep k3
    have hP := hid P
    have hP3 := hid P3
    clear P P3
    go_wp2_with fail
    refine cA.mono ?_
    rintro e0 w3' ⟨rfl, hw3'⟩
    rw [hw3']
    clear hw3' w3' cA
    go_wp2_with fail
    refine cG.mono ?_
    rintro e2 w4 ⟨L1, a1, c1, rfl, hL1, hrow1, k4, hn1, hown1⟩
    have G1 : Got w3.heap.size (atV E l') w4 a1 c1 L1 := ⟨hL1, hrow1, hn1, hown1⟩
    have P4 := hP3.out.keep k4
    have cP := cPurge P4.D m
    have hlt4 : Hid (∀ k ∈ p' :: own v', k < w3.heap.size) := hP3.out.D.ltAll
    have hlen := P4.L.len
    have hfl := P4.D.few
    have hple : (purV m l').length ≤ l'.length := List.length_filter_le _ _
    have hG1 := hid G1
    have hP4 := hid P4
    obtain ⟨N, hN⟩ : ∃ N, r'.length = N := ⟨_, rfl⟩
    rw [hN] at hlen
    rw [hlen] at cP hfl hple
    have hatp := hid (at_pur E m (by omega) l')
    obtain ⟨l2, hl2⟩ : ∃ l2, purV m l' = l2 := ⟨_, rfl⟩
    rw [hl2] at cP hple hatp
    obtain ⟨M, hM⟩ : ∃ M, l2.length = M := ⟨_, rfl⟩
    rw [hM] at cP hple
    have hN' := hid hN
    have hM' := hid hM
    have hlen' := hid hlen
    rw [hN]
    clear cG hL1 hrow1 hn1 hown1 G1 P4 hl2 hM hlen hN
    go_wp2_with fail
    refine cP.mono ?_
    rintro e3 w5 ⟨v5, rfl, hD5, hWr, hrw⟩
    have k45 := hWr.kp
    have G5 := hG1.out.kept k45 hlt4.out
    obtain ⟨hS5, hO5⟩ := hP4.out.ref k45 (fun k hk => .inl hk)
    obtain ⟨w6, k6, cA2, cG2⟩ := atPair hD5 E
    rw [hatp.out] at cG2
    have hD6 := hid (hD5.keptNew k6)
    have hz5 : w3.heap.size ≤ w5.heap.size := by have := k4.size; have := k45.size; omega
    have G6 := hid (G5.kept k6 (by simp))
    have S6 := hid (And.intro (hS5.keptNew k6) (fun y hy => (hO5 y hy).kept k6))
    have K5 := hid (hP4.out.kp.trans k45 (fun k hk => .inr (hP4.out.nw k hk)))
    clear cP hWr hrw G5 hS5 hO5 hD5
    go_wp2_with fail
    refine cA2.mono ?_
    rintro e4 w6' ⟨rfl, hw6'⟩
    rw [hw6']
    clear hw6' w6' cA2
    go_wp2_with fail
    refine cG2.mono ?_
    rintro e5 w7 ⟨L2, a2, c2, rfl, hL2, hrow2, k7, hn2, hown2⟩
    have G7 := hid (G6.out.kept k7 (by simp))
    have hL1l : Hid (L1.length ≤ 4000000000000) := by show _ ≤ _; have h1 := G7.out.like.len; have h2 := len_at E l'; rw [hlen'.out] at h2; omega
    have cS := rSameAll a2 a1 c2 c1 L2 L1 w7 (See.ofRow hrow2) G7.out.see (fun y hy => (hown2 y hy).1.ok) G7.out.ok (hL2.trans G7.out.like.symm) (by have := (hL2.trans G7.out.like.symm).len; have := hL1l.out; omega)
    have hD7 := hid (hD6.out.keptNew k7)
    have S7 := hid (And.intro (S6.out.1.keptNew k7) (fun y hy => (S6.out.2 y hy).kept k7))
    clear cG2 hL2 hrow2 hn2 hown2
    go_wp2_with fail
    refine cS.mono ?_
    rintro e6 w8 ⟨rfl, k8⟩
    have cL := cLen (hD7.out.keptNew k8)
    rw [hM'.out] at cL
    clear cS
    go_wp2_with fail
    refine cL.mono ?_
    rintro e7 w9 ⟨rfl, rfl⟩
    have S8 := And.intro (S7.out.1.keptNew k8) (fun y hy => (S7.out.2 y hy).kept k8)
    have cT := rAt ra' rc' r' E w9 S8.1 (by rw [hN'.out]; omega)
    rw [hN'.out] at cT
    have S8' := hid S8
    have tt : ((N : Int) - (M : Int) == (N : Int) - (M : Int)) = true := by simp
    clear cL S8
    go_wp2_with fail
    refine cT.mono ?_
    rintro e8 w10 ⟨a4, c4, rfl, hr4, k10, hn4⟩
    have k710 := k8.trans k10 (by simp)
    have cS2 := rSameAll a1 a4 c1 c4 L1 (atV E r') w10 (G7.out.kept k710 (by simp)).see (See.ofRow hr4) (G7.out.kept k710 (by simp)).ok (ok_at fun y hy => (S8'.out.2 y hy).kept k10) (G7.out.like.trans (hP4.out.L.atV E)) (by have := hL1l.out; omega)
    clear cT hr4 hn4
    go_wp2_with fail
    refine cS2.mono ?_
    rintro e9 w11 ⟨rfl, k11⟩
    have hB : Hid (Below w.heap.size w w11) := ((((K5.out.trans k6 (by simp)).trans k7 (by simp)).trans k710 (by simp)).trans k11 (by simp)).below
    clear cS2
    go_wp2_with fail
    go_returns
    exact ⟨rfl, hB.out⟩
  · have hwr : IntKind.u64.wrap (m + d) = m + d - 18446744073709551616 := by
      rw [IntKind.wrap_u64]; omega
    have t2 : IntKind.u64.wrap (m + d) < m := by omega
    have hB : Hid (Below w.heap.size w w2) := P.kp.below
    clear P
    go_wp2_with fail
    go_returns
    exact ⟨rfl, hB.out⟩
end Go.Proofs.Ytdjlefacdfdhmaa
end

section
namespace Go.Proofs.Ytdjlefacdfdhmaa
open Go.ChangeShapes Go.WideShapes Go.ChangeAt Go.RowKit Go.Hay
set_option linter.unusedVariables false

set_option maxRecDepth 100000 in
theorem wosPurgesContract (H : Type) (enc : TypeId × Value → H) (W : World) (base : Nat) (args : Array Value) (ds gs : List (DataW H)) (before : List MemPlace)
    (hval : ∀ (j : Nat) t v, Try.f4.params[j]? = some t → args[j]? = some v → Value.okWide Try.prog W .any base t v)
    (hW : DataW.Whole enc Try.prog Try.f4.params.toList Rows.wosPurgesSpec.vars false W args.toList ds gs before)
    (hsz : (DataW.weightsEach Try.prog (Try.f4.params.toList ++ (OpenSpec.ofChange Rows.wosPurgesSpec).bare.plain.varTypes Try.prog) (ds ++ gs)).all (· ≤ reachBytes) = true) :
    Calls Try.prog 4 args W fun e W' => ∃ v, e = .returned v ∧ Rows.wosPurgesSpec.post enc Try.prog Try.f4 false true false false W args v W' := by
  have hW' := hW
  obtain ⟨p, q, hA0, hV, rfl, hfz, hnd⟩ := hW
  have hA : DataW.TrodAll enc Try.prog W 0 (fun _ => true) true Try.f4.params.toList args.toList ds p := hA0
  rw [Try.params4] at hA hval hsz
  obtain ⟨v0, vs0, d0, ds0, p0, q0, hargs, rfl, rfl, h0, r0⟩ := trodAll_cons hA
  obtain ⟨v1, vs1, d1, ds1, p1, q1, rfl, rfl, rfl, h1, r1⟩ := trodAll_cons r0
  obtain ⟨v2, vs2, d2, ds2, p2, q2, rfl, rfl, rfl, h2, r2⟩ := trodAll_cons r1
  obtain ⟨rfl, rfl, rfl⟩ := trodAll_nil r2
  obtain rfl : args = #[v0, v1, v2] := by cases args; simp_all
  obtain ⟨rfl, rfl⟩ := trodVars_none hV
  obtain ⟨a0, len0, cap0, rfl⟩ := okWide_slice Try.underlying22 (hval 0 22 v0 rfl rfl)
  have k0 := h0
  have lt0 : ∀ x ∈ p0, x.block < W.heap.size := by obtain ⟨m, hm⟩ := k0; exact DataW.trod_lt m _ _ _ hm
  obtain ⟨l0, rfl, hs0, hok0, hl0, hm0, hn0, hfit0, hbk0, hcp0⟩ := openWops h0
  obtain ⟨hc0, hq0⟩ := hfit0 (List.all_eq_true.2 fun x hx => List.all_eq_true.1 hsz x (by simp [DataW.weightsEach]; first | exact .inl hx | exact .inr hx | exact .inr (.inl hx) | exact .inr (.inr hx) | exact hx))
  obtain ⟨a1, rfl, rfl, rfl, w1⟩ := open_int Try.underlying30 (hval 1 30 v1 rfl rfl) h1
  have hb1 := bounds_u64 w1
  obtain ⟨a2, rfl, rfl, rfl, w2⟩ := open_int Try.underlying30 (hval 2 30 v2 rfl rfl) h2
  have hb2 := bounds_u64 w2
  clear hA0
  refine (walkPurges a0 cap0 l0 a1 a2 W hs0 (fun y hy => (hok0 y hy).ok (hq0 y hy)) (by omega) hb1 hb2).mono fun e W' ⟨he, bel⟩ => ?_
  subst he
  exact ⟨_, rfl, _, _, _, [], _, [], hW', trodAll_mk1 (shut_bool Try.underlying4 _), (trodAll_cons_mk (Below.trod Try.laidOut (by kernel_rfl) (of_decide_eq_true (by kernel_rfl)) k0 bel lt0) (trodAll_cons_mk (shut_int Try.underlying30 w1) (trodAll_cons_mk (shut_int Try.underlying30 w2) trodAll_mk0))), rfl, bel.frame _, fun h => by cases h⟩

set_option maxRecDepth 100000 in
theorem wosPurgesLifted (os : Os) (started : os.Started) (H : Type) (enc : TypeId × Value → H) :
    ReturnsInHanded {} Try.checked os 4 .any (Rows.wosPurgesSpec.pre6 enc Try.prog Try.f4 Rows.wosPurgesRow.domain false) (Rows.wosPurgesSpec.post enc Try.prog Try.f4 false true false false) := by
  refine returnsInHanded_of_change_sized (C := Try.checked) Try.own started (by kernel_rfl) Try.func4
    (ChangeSpec.witness6 (enc := enc) (C := Try.checked) false ⟨#[], #[.slice none 0 0, .int .u64 0, .int .u64 0], []⟩ 8 (by kernel_rfl) (by kernel_rfl) (by kernel_rfl) (by kernel_rfl)) ?_
  intro W base args ds gs before hval hW _ hsz _
  exact wosPurgesContract H enc W base args ds gs before hval hW hsz

theorem WosPurges_holds : Rows.WosPurgesSaid :=
  OpenClaim.holds_of_wide 4 Try.f4 rfl rfl rfl rfl rfl rfl rfl ⟨rfl, rfl, rfl, rfl, rfl⟩ rfl rfl rfl rfl rfl (by kernel_rfl) Try.func4 (by kernel_rfl)
    (of_decide_eq_true (by kernel_rfl)) (by unfold Func.isWrapper; first | (rw [if_pos (by decide +kernel)]; kernel_rfl) | (rw [if_neg (by decide +kernel)]; exact ⟨rfl, rfl⟩))
    (fun os started H enc _ => wosPurgesLifted os started H enc)

#print axioms WosPurges_holds
end Go.Proofs.Ytdjlefacdfdhmaa
end

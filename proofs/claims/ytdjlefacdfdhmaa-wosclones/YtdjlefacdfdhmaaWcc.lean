/- WosClones: the card. -/
import Derived.Test.YtdjlefacdfdhmaaB10
import Derived.Test.YtdjlefacdfdhmaaB11
import Derived.SizedLaws
import Derived.JoinedCond
import Derived.Deep.CondSized
section
namespace Go.Proofs.Ytdjlefacdfdhmaa
open Go.RowKit Go.Hay
set_option linter.unusedVariables false
set_option linter.unusedSimpArgs false

structure Two (W w : World) (p : Nat) (v : Value) (l : List Vn) (ra : Option Addr) (r : List Vn) (c : Nat) (vc : Value) (m : List Vn) (sa : Option Addr) (s : List Vn) : Prop where
  one : PW W w p v l ra r
  two : PW W w c vc m sa s
  ap : ∀ k ∈ p :: own v, k ∉ c :: own vc
  r1 : ∀ x ∈ l, ∀ k ∈ bkV x, k ∉ c :: own vc
  r2 : ∀ x ∈ m, ∀ k ∈ bkV x, k ∉ p :: own v
  s1 : r ≠ [] → ∀ k ∈ blk ra, k ∉ c :: own vc
  s2 : s ≠ [] → ∀ k ∈ blk sa, k ∉ p :: own v
section
variable {W w w' : World} {p c : Nat} {v vc : Value} {l m : List Vn} {ra sa : Option Addr} {r s : List Vn}
theorem Two.swap (T : Two W w p v l ra r c vc m sa s) : Two W w c vc m sa s p v l ra r := ⟨T.two, T.one, fun k h1 h2 => T.ap k h2 h1, T.r2, T.r1, T.s2, T.s1⟩
def TwoP (W : World) (c : Nat) (vc : Value) (m : List Vn) (sa : Option Addr) (s : List Vn) (n : Nat) (e : Ending) (w' : World) : Prop :=
  ∃ (p' : Nat) (v' : Value) (l' : List Vn) (ra' : Option Addr) (rc' : Nat) (r' : List Vn), e = .returned (.tuple #[.pointer (some ⟨p', 0, none⟩), .slice ra' r'.length rc', .bool true]) ∧ Two W w' p' v' l' ra' r' c vc m sa s ∧ l'.length ≤ n + 1
theorem Two.after (T : Two W w p v l ra r c vc m sa s) {e : Ending} (h : StpP W p v l ra r w e w') : TwoP W c vc m sa s l.length e w' := by
  obtain ⟨p', v', l', ra', rc', r', he, P', hk, hf, hl, hr, hb⟩ := h
  have hc := T.two.D.ltAll
  refine ⟨p', v', l', ra', rc', r', he, ⟨P', T.two.keepS (w0 := w) hk T.ap T.r2 T.s2 T.one.nw, fun k h1 h2 => ?_, fun x hx k h1 h2 => ?_, fun x hx k h1 h2 => ?_, fun hne k h1 h2 => ?_, fun hne k h1 h2 => ?_⟩, hl⟩
  · rcases hf k h1 with e | e
    · exact T.ap k e h2
    · have := hc k h2; omega
  · rcases hb x hx k h1 with ⟨z, hz, e⟩ | e
    · exact T.r1 z hz k e h2
    · have := hc k h2; omega
  · rcases hf k h2 with e | e
    · exact T.r2 x hx k h1 e
    · have := (T.two.D.ok x hx).lt k h1; omega
  · rcases hr hne k h1 with ⟨e, hne'⟩ | e
    · exact T.s1 hne' k e h2
    · have := hc k h2; omega
  · rcases hf k h2 with e | e
    · exact T.s2 hne k h1 e
    · have := T.two.S.lt hne k h1; omega
theorem Two.keep (T : Two W w p v l ra r c vc m sa s) (hk : Kp [] w w') : Two W w' p v l ra r c vc m sa s := ⟨T.one.keep hk, T.two.keep hk, T.ap, T.r1, T.r2, T.s1, T.s2⟩
theorem Two.step (T : Two W w p v l ra r c vc m sa s) (rc : Nat) (o : OpV) (hx : VnOk W o.v) (hl1 : l.length + 1 ≤ 4000000000000) :
    Calls Try.prog 24 #[.pointer (some ⟨p, 0, none⟩), .slice ra r.length rc, .agg #[.int .i64 o.kind, .int .u64 o.v.ep, .int .u32 o.v.num, .slice o.v.a o.v.row.length o.v.c, .int .u64 o.v.del, .int .u64 o.ie, .int .u32 o.num, .int .u64 o.e]] w (TwoP W c vc m sa s l.length) :=
  (cStepW T.one rc o hx hl1).mono fun _ _ h => T.after h
theorem Two.last (T : Two W w p v l ra r c vc m sa s) (rc : Nat) :
    Calls Try.prog 24 #[.pointer (some ⟨p, 0, none⟩), .slice ra r.length rc, .agg #[.int .i64 6, .int .u64 0, .int .u32 0, .slice none 0 0, .int .u64 0, .int .u64 0, .int .u32 0, .int .u64 0]] w (TwoP W c vc m sa s l.length) := by
  have cS := cStpE T.one rc 6 default 0 0 0 (by decide) (by decide) (by decide) (by decide) (by decide) (by decide) (by decide)
  have ed : (default : Vn) = ⟨0, 0, none, 0, [], 0⟩ := rfl
  rw [ed] at cS
  dsimp only at cS
  simp only [List.length_nil] at cS
  exact cS.mono fun _ _ h => T.after h
/-- At the clone. -/
theorem Two.begin (P : PW W w p v l ra r) (hD : Wos w' c vc l) (hk : Kp [] w w') (hn : ∀ k ∈ c :: own vc, w.heap.size ≤ k) : Two W w' p v l ra r c vc l ra r := by
  have P' := P.keep hk
  have hlt := P.D.ltAll
  have hz := P.kp.size
  refine ⟨P', ⟨hD, P'.S, P'.O, P'.L, P'.kp, fun k hk' => by have := hn k hk'; omega, P'.rb, fun hne k h1 h2 => ?_, P'.gd⟩, fun k h1 h2 => ?_, fun x hx k h1 h2 => ?_, fun x hx k h1 h2 => P.D.off x hx k h1 h2, fun hne k h1 h2 => ?_, P.ap⟩
  · have := hn k h2; have := P.S.lt hne k h1; omega
  · have := hn k h2; have := hlt k h1; omega
  · have := hn k h2; have := (P.D.ok x hx).lt k h1; omega
  · have := hn k h2; have := P.S.lt hne k h1; omega
end
end Go.Proofs.Ytdjlefacdfdhmaa
end

section
namespace Go.Proofs.Ytdjlefacdfdhmaa
open Go.RowKit Go.Hay
set_option linter.unusedVariables false
set_option linter.unusedSimpArgs false

set_option maxHeartbeats 16000000 in
set_option maxRecDepth 100000 in
theorem walkClones (a0 a1 a2 : Option Addr) (c0 c1 c2 : Nat) (L0 L1 L2 : List OpV) (w : World) (hs0 : OpE.See w a0 L0) (ho0 : ∀ o ∈ L0, VnOk w o.v) (hb0 : L0.length ≤ 1900000000000) (hs1 : OpE.See w a1 L1) (ho1 : ∀ o ∈ L1, VnOk w o.v) (hb1 : L1.length ≤ 1900000000000) (hs2 : OpE.See w a2 L2) (ho2 : ∀ o ∈ L2, VnOk w o.v) (hb2 : L2.length ≤ 1900000000000) :
    Calls Try.prog 8 #[.agg #[.slice a0 L0.length c0, .slice a1 L1.length c1, .slice a2 L2.length c2]] w fun e w' => e = .returned (.bool true) ∧ Below w.heap.size w w' := by
  obtain ⟨wx, hwx⟩ : ∃ wx, w.alloc (.cells #[.slice a0 L0.length c0, .slice a1 L1.length c1, .slice a2 L2.length c2] 57) = wx := ⟨_, rfl⟩
  have kx : Kp [] w wx := by rw [← hwx]; exact (Kp.refl _ _).alloc _
  have bx : Bx wx w.heap.size [.slice a0 L0.length c0, .slice a1 L1.length c1, .slice a2 L2.length c2] := by rw [← hwx]; exact Bx.new w [.slice a0 L0.length c0, .slice a1 L1.length c1, .slice a2 L2.length c2] _
  have hzx : w.heap.size < wx.heap.size := by rw [← hwx]; simp
  have cB := cBegun wx
  have hR := hid (fun w1 p (P : PW wx w1 p (.slice none 0 0) [] none []) => cRun P a0 c0 L0 (hs0.keptNew kx) (fun o h => (ho0 o h).kept kx) (by omega))
  have hA1 := hid (And.intro (hs1.keptNew kx) (fun o h => (ho1 o h).kept kx))
  have hA2 := hid (And.intro (hs2.keptNew kx) (fun o h => (ho2 o h).kept kx))
  have hB := hid bx
  clear hs0 ho0 hs1 ho1 hs2 ho2 bx
  go_enter Try.func8, Try.ntmps8
  go_wp2_with fail
  refine cB.mono ?_
  rintro e w1 ⟨p, rfl, hD, k1, hp⟩
  have cR := hR.out w1 p (BegP.pw hD k1 hp)
  have b1 := hB.out.kept k1 hzx
  have q0 := b1.get 0 _ rfl
  clear cB hD hR b1
  go_wp2_with fail
  refine cR.mono ?_
  rintro e1 w2 ⟨p0, v0, l0, ra0, rc0, r0, rfl, P, hl0⟩
  have cC := cClone P.D
  have hP := hid P
  clear cR q0 P
  go_wp2_with fail
  refine cC.mono ?_
  rintro e2 w3 ⟨cl, vc, rfl, hD3, k3, hn3⟩
  have T3 := hid (Two.begin hP.out hD3 k3 hn3)
  clear cC hD3 k3 hn3 hP
  go_wp2_with fail
  go_loopw [3, 4, 5, 6, 7, 8] (fun s3 s4 s5 s6 s7 s8 wr => ∃ (i p : Nat) (v : Value) (l : List Vn) (ra : Option Addr) (rc : Nat) (r : List Vn) (c : Nat) (vc : Value) (m : List Vn) (sa : Option Addr) (sc : Nat) (s : List Vn), s3 = .pointer (some ⟨p, 0, none⟩) ∧ s5 = .slice ra r.length rc ∧ s6 = .pointer (some ⟨c, 0, none⟩) ∧ s7 = .slice sa s.length sc ∧ s8 = .int .i64 i ∧ (i ≤ L1.length ∨ i ≤ L2.length) ∧ Two wx wr p v l ra r c vc m sa s ∧ l.length ≤ L0.length + 1 + i ∧ m.length ≤ L0.length + 1 + i) (fun _ _ _ _ _ i _ => L1.length + L2.length - (intOf i).toNat)
  case atStart => exact ⟨0, p0, _, l0, ra0, rc0, r0, cl, vc, l0, ra0, rc0, r0, rfl, rfl, rfl, rfl, rfl, .inl (Nat.zero_le _), T3.out, by omega, by omega⟩
  case round =>
    clear T3
    obtain ⟨i, p, v, l, ra, rc, r, c, vc, m, sa, sc, s, rfl, rfl, rfl, rfl, rfl, hi, T, hl, hm⟩ := hrel
    have j0 : (0 : Int) ≤ (i : Int) := by omega
    by_cases hi1 : i < L1.length
    · by_cases hi2 : i < L2.length
      · have bbA := hB.out.kept T.one.kp hzx
        have z1A := bbA.get 1 _ rfl; have z2A := bbA.get 2 _ rfl
        clear bbA
        have hxA : L1[i]? = some L1[i] := by simp [hi1]
        obtain ⟨gA, oA, eaA, d0A, d1A, d2A, d3A, d4A, d5A, d6A, d7A⟩ := opAt (hA1.out.1.keptNew T.one.kp) hxA
        have hoA := hA1.out.2 L1[i] (List.getElem_mem _)
        clear hxA
        generalize L1[i] = xA at *
        have cS := T.step rc xA hoA (by omega)
        have i1 : (i : Int) < (L1.length : Int) := by omega
        subst eaA
        obtain ⟨xk, ⟨xe, xn, xa, xc, xr, xd⟩, xi, xm, xp⟩ := xA
        dsimp only at *
        clear T hoA
        go_wp2_with fail
        refine cS.mono ?_
        rintro e0 w4 ⟨p4, v4, l4, ra4, rc4, r4, rfl, T4, hl4⟩
        clear cS d0A d1A d2A d3A d4A d5A d6A d7A z1A z2A
        have bbB := hB.out.kept T4.one.kp hzx
        have z1B := bbB.get 1 _ rfl; have z2B := bbB.get 2 _ rfl
        clear bbB
        have hxB : L2[i]? = some L2[i] := by simp [hi2]
        obtain ⟨gB, oB, eaB, d0B, d1B, d2B, d3B, d4B, d5B, d6B, d7B⟩ := opAt (hA2.out.1.keptNew T4.one.kp) hxB
        have hoB := hA2.out.2 L2[i] (List.getElem_mem _)
        clear hxB
        generalize L2[i] = xB at *
        have cS2 := T4.swap.step sc xB hoB (by omega)
        have i2 : (i : Int) < (L2.length : Int) := by omega
        subst eaB
        obtain ⟨yk, ⟨ye, yn, ya, yc, yr, yd⟩, yi, ym, yp⟩ := xB
        dsimp only at *
        clear T4 hoB
        go_wp2_with fail
        refine cS2.mono ?_
        rintro e5 w5 ⟨c5, vc5, m5, sa5, sc5, s5, rfl, T5, hm5⟩
        clear cS2 d0B d1B d2B d3B d4B d5B d6B d7B z1B z2B
        go_wp2_with fail
        exact ⟨⟨i + 1, p4, v4, l4, ra4, rc4, r4, c5, vc5, m5, sa5, sc5, s5, rfl, rfl, rfl, rfl, by go_num, .inl (by omega), T5.swap, by omega, by omega⟩, by simp [intOf]; omega⟩
      · have i2 : ¬ (i : Int) < (L2.length : Int) := by omega
        have bbA := hB.out.kept T.one.kp hzx
        have z1A := bbA.get 1 _ rfl; have z2A := bbA.get 2 _ rfl
        clear bbA
        have hxA : L1[i]? = some L1[i] := by simp [hi1]
        obtain ⟨gA, oA, eaA, d0A, d1A, d2A, d3A, d4A, d5A, d6A, d7A⟩ := opAt (hA1.out.1.keptNew T.one.kp) hxA
        have hoA := hA1.out.2 L1[i] (List.getElem_mem _)
        clear hxA
        generalize L1[i] = xA at *
        have cS := T.step rc xA hoA (by omega)
        have i1 : (i : Int) < (L1.length : Int) := by omega
        subst eaA
        obtain ⟨xk, ⟨xe, xn, xa, xc, xr, xd⟩, xi, xm, xp⟩ := xA
        dsimp only at *
        clear T hoA
        go_wp2_with fail
        refine cS.mono ?_
        rintro e0 w4 ⟨p4, v4, l4, ra4, rc4, r4, rfl, T4, hl4⟩
        clear cS d0A d1A d2A d3A d4A d5A d6A d7A z1A z2A
        have bbB := hB.out.kept T4.one.kp hzx
        have z1B := bbB.get 1 _ rfl; have z2B := bbB.get 2 _ rfl
        clear bbB
        have T4h := hid T4
        clear T4
        go_wp2_with fail
        exact ⟨⟨i + 1, p4, v4, l4, ra4, rc4, r4, c, vc, m, sa, sc, s, rfl, rfl, rfl, rfl, by go_num, .inl (by omega), T4h.out, by omega, by omega⟩, by simp [intOf]; omega⟩
    · have i1 : ¬ (i : Int) < (L1.length : Int) := by omega
      by_cases hi2 : i < L2.length
      · have bbB := hB.out.kept T.one.kp hzx
        have z1B := bbB.get 1 _ rfl; have z2B := bbB.get 2 _ rfl
        clear bbB
        have hxB : L2[i]? = some L2[i] := by simp [hi2]
        obtain ⟨gB, oB, eaB, d0B, d1B, d2B, d3B, d4B, d5B, d6B, d7B⟩ := opAt (hA2.out.1.keptNew T.one.kp) hxB
        have hoB := hA2.out.2 L2[i] (List.getElem_mem _)
        clear hxB
        generalize L2[i] = xB at *
        have cS2 := T.swap.step sc xB hoB (by omega)
        have i2 : (i : Int) < (L2.length : Int) := by omega
        subst eaB
        obtain ⟨yk, ⟨ye, yn, ya, yc, yr, yd⟩, yi, ym, yp⟩ := xB
        dsimp only at *
        clear T hoB
        go_wp2_with fail
        refine cS2.mono ?_
        rintro e5 w5 ⟨c5, vc5, m5, sa5, sc5, s5, rfl, T5, hm5⟩
        clear cS2 d0B d1B d2B d3B d4B d5B d6B d7B z1B z2B
        have T5h := hid T5
        clear T5
        go_wp2_with fail
        exact ⟨⟨i + 1, p, v, l, ra, rc, r, c5, vc5, m5, sa5, sc5, s5, rfl, rfl, rfl, rfl, by go_num, .inr (by omega), T5h.out.swap, by omega, by omega⟩, by simp [intOf]; omega⟩
      · have i2 : ¬ (i : Int) < (L2.length : Int) := by omega
        have bbB := hB.out.kept T.one.kp hzx
        have z1B := bbB.get 1 _ rfl; have z2B := bbB.get 2 _ rfl
        clear bbB
        have cS := T.last rc
        clear T
        go_wp2_with fail
        refine cS.mono ?_
        rintro e0 w4 ⟨p4, v4, l4, ra4, rc4, r4, rfl, T4, hl4⟩
        have cS2 := T4.swap.last sc
        clear cS T4 z1B z2B
        go_wp2_with fail
        refine cS2.mono ?_
        rintro e5 w5 ⟨c5, vc5, m5, sa5, sc5, s5, rfl, T5, hm5⟩
        have hBel : Hid (Below w.heap.size w w5) := (kx.trans T5.one.kp (by simp)).below
        clear cS2 T5
        go_wp2_with fail
        go_returns
        exact ⟨rfl, hBel.out⟩
end Go.Proofs.Ytdjlefacdfdhmaa
end

section
namespace Go.Proofs.Ytdjlefacdfdhmaa
open Go.ChangeShapes Go.WideShapes Go.ChangeAt Go.RowKit Go.Hay
set_option linter.unusedVariables false

set_option maxRecDepth 100000 in
theorem wosClonesContract (H : Type) (enc : TypeId × Value → H) (W : World) (base : Nat) (args : Array Value) (ds gs : List (DataW H)) (before : List MemPlace)
    (hval : ∀ (j : Nat) t v, Try.f8.params[j]? = some t → args[j]? = some v → Value.okWide Try.prog W .any base t v)
    (hW : DataW.Whole enc Try.prog Try.f8.params.toList Rows.wosClonesSpec.vars false W args.toList ds gs before)
    (hsz : (DataW.weightsEach Try.prog (Try.f8.params.toList ++ (OpenSpec.ofChange Rows.wosClonesSpec).bare.plain.varTypes Try.prog) (ds ++ gs)).all (· ≤ reachBytes) = true) :
    Calls Try.prog 8 args W fun e W' => ∃ v, e = .returned v ∧ Rows.wosClonesSpec.post enc Try.prog Try.f8 false true false false W args v W' := by
  have hW' := hW
  obtain ⟨p, q, hA0, hV, rfl, hfz, hnd⟩ := hW
  have hA : DataW.TrodAll enc Try.prog W 0 (fun _ => true) true Try.f8.params.toList args.toList ds p := hA0
  rw [Try.params8] at hA hval hsz
  obtain ⟨v0, vs0, d0, ds0, p0, q0, hargs, rfl, rfl, h0, r0⟩ := trodAll_cons hA
  obtain ⟨rfl, rfl, rfl⟩ := trodAll_nil r0
  obtain rfl : args = #[v0] := by cases args; simp_all
  obtain ⟨rfl, rfl⟩ := trodVars_none hV
  have k0 := h0
  have lt0 : ∀ x ∈ p0, x.block < W.heap.size := by obtain ⟨m, hm⟩ := k0; exact DataW.trod_lt m _ _ _ hm
  obtain ⟨aa0, ca0, la0, ab0, cb0, lb0, ac0, cc0, lc0, rfl, ⟨sa0, oa0⟩, ⟨sb0, ob0⟩, ⟨sc0, oc0⟩, hfit0⟩ := openWWays (hval 0 57 v0 rfl rfl) h0
  obtain ⟨⟨na0, fa0⟩, ⟨nb0, fb0⟩, ⟨nc0, fc0⟩⟩ := hfit0 (List.all_eq_true.2 fun x hx => List.all_eq_true.1 hsz x (by simp [DataW.weightsEach]; first | exact .inl hx | exact .inr hx | exact .inr (.inl hx) | exact .inr (.inr hx) | exact hx))
  clear hA0
  refine (walkClones aa0 ab0 ac0 ca0 cb0 cc0 la0 lb0 lc0 W sa0 (fun y hy => (oa0 y hy).ok (fa0 y hy)) na0 sb0 (fun y hy => (ob0 y hy).ok (fb0 y hy)) nb0 sc0 (fun y hy => (oc0 y hy).ok (fc0 y hy)) nc0).mono fun e W' ⟨he, bel⟩ => ?_
  subst he
  exact ⟨_, rfl, _, _, _, [], _, [], hW', trodAll_mk1 (shut_bool Try.underlying4 _), (trodAll_cons_mk (Below.trod Try.laidOut (by kernel_rfl) (of_decide_eq_true (by kernel_rfl)) k0 bel lt0) trodAll_mk0), rfl, bel.frame _, fun h => by cases h⟩

set_option maxRecDepth 100000 in
theorem wosClonesLifted (os : Os) (started : os.Started) (H : Type) (enc : TypeId × Value → H) :
    ReturnsInHanded {} Try.checked os 8 .any (Rows.wosClonesSpec.pre6 enc Try.prog Try.f8 Rows.wosClonesRow.domain false) (Rows.wosClonesSpec.post enc Try.prog Try.f8 false true false false) := by
  refine returnsInHanded_of_change_sized (C := Try.checked) Try.own started (by kernel_rfl) Try.func8
    (ChangeSpec.witness6 (enc := enc) (C := Try.checked) false ⟨#[], #[.agg #[.slice none 0 0, .slice none 0 0, .slice none 0 0]], []⟩ 8 (by kernel_rfl) (by kernel_rfl) (by kernel_rfl) (by kernel_rfl)) ?_
  intro W base args ds gs before hval hW _ hsz _
  exact wosClonesContract H enc W base args ds gs before hval hW hsz

theorem WosClones_holds : Rows.WosClonesSaid :=
  OpenClaim.holds_of_wide 8 Try.f8 rfl rfl rfl rfl rfl rfl rfl ⟨rfl, rfl, rfl, rfl, rfl⟩ rfl rfl rfl rfl rfl (by kernel_rfl) Try.func8 (by kernel_rfl)
    (of_decide_eq_true (by kernel_rfl)) (by unfold Func.isWrapper; first | (rw [if_pos (by decide +kernel)]; kernel_rfl) | (rw [if_neg (by decide +kernel)]; exact ⟨rfl, rfl⟩))
    (fun os started H enc _ => wosClonesLifted os started H enc)

#print axioms WosClones_holds
end Go.Proofs.Ytdjlefacdfdhmaa
end

/- WosTakes: the card. -/
import Derived.Test.YtdjlefacdfdhmabB11
import Derived.SizedLaws
import Derived.JoinedCond
import Derived.Deep.CondSized
section
namespace Go.Hay
open Go.RowKit
theorem srt_take {L : List Vn} (hs : Srt L) {j : Nat} {x : Vn} (hx : L[j]? = some x) : ∀ y ∈ L.take j, ltI y.id x.id = true := fun y hy => by
  have hp := List.pairwise_append.1 (by rw [List.take_append_drop]; exact hs : (L.take j ++ L.drop j).Pairwise fun x y => ltI x.id y.id = true)
  exact hp.2.2 y hy x (List.mem_of_getElem? (i := 0) (by rw [List.getElem?_drop]; simpa using hx))
/-- Added behind all others. -/
theorem add_end {l L : List Vn} {j : Nat} {x : Vn} (hl : Like l (L.take j)) (hs : Srt L) (hx : L[j]? = some x) (hg : x.del = 0 ∨ x.ep < x.del) (a : Option Addr) (c : Nat) :
    addV l { x with a := a, c := c } = (l ++ [{ x with a := a, c := c }], 0) := by
  have hid : ({ x with a := a, c := c } : Vn).id = x.id := rfl
  have h1 : hasV l x.id = false := by
    rw [hl.has]
    unfold hasV
    rw [List.any_eq_false]
    intro y hy
    have := ltI_ne (srt_take hs hx y hy)
    simpa using this
  have h2 : kOf l x.id = l.length := by
    rw [hl.kOf, hl.len]
    unfold kOf
    rw [List.countP_eq_length]
    exact srt_take hs hx
  unfold addV
  rw [hid, h1]
  have h3 : ¬ (({ x with a := a, c := c } : Vn).del ≠ 0 ∧ ({ x with a := a, c := c } : Vn).del ≤ ({ x with a := a, c := c } : Vn).ep) := fun ⟨e1, e2⟩ => by
    rcases hg with e | e
    · exact e1 e
    · exact absurd e2 (by show ¬ x.del ≤ x.ep; omega)
  rw [if_neg (by simp), if_neg h3]
  unfold insV
  rw [hid, h2]
  simp
theorem add_twice (l : List Vn) (y z : Vn) (h : z.id = y.id) : addV (l ++ [y]) z = (l ++ [y], 100) := by
  unfold addV
  rw [if_pos]
  unfold hasV
  simp [h]
end Go.Hay
namespace Go.Proofs.Ytdjlefacdfdhmab
open Go.RowKit Go.Hay
set_option linter.unusedVariables false
set_option linter.unusedSimpArgs false

theorem Gd.like {l r : List Vn} (h : Like l r) (hg : Gd l) : Gd r := fun y hy => by
  obtain ⟨j, hj⟩ := List.mem_iff_getElem?.1 hy
  obtain ⟨x, hx, e⟩ := h.symm.at hj
  have := hg x (List.mem_of_getElem? hx)
  rw [p_del e, p_ep e]
  exact this
/-- Rows in memory that are filled again, since X. -/
structure Refl (X w : World) (p : Nat) (v : Value) (l : List Vn) : Prop where
  D : Wos w p v l
  kp : Kp [p] X w
  new : ∀ k ∈ own v, X.heap.size ≤ k
theorem Refl.after {X w w' : World} {p : Nat} {v v' : Value} {l l' : List Vn} (R : Refl X w p v l) (hD : Wos w' p v' l') (hW : Wrote p v w v' w') : Refl X w' p v' l' :=
  ⟨hD, R.kp.trans hW.kp (fun k hk => by
    rcases List.mem_cons.1 hk with e | e
    · exact .inl (by simp [e])
    · exact .inr (R.new k e)), fun k hk => by
    rcases hW.new k hk with e | e
    · exact R.new k e
    · have := R.kp.size; omega⟩
theorem Refl.keep {X w w' : World} {p : Nat} {v : Value} {l : List Vn} (R : Refl X w p v l) (hk : Kp [] w w') : Refl X w' p v l := ⟨R.D.keptNew hk, R.kp.trans hk (by simp), R.new⟩
set_option maxHeartbeats 16000000 in
set_option maxRecDepth 100000 in
theorem walkTakes (a : Option Addr) (c : Nat) (S : List OpV) (E : Int) (w : World) (hs : OpE.See w a S) (ho : ∀ o ∈ S, VnOk w o.v) (hb : S.length ≤ 2000000000000) :
    Calls Try.prog 4 #[.slice a S.length c, .int .u64 E] w fun e w' => e = .returned (.bool true) ∧ Below w.heap.size w w' := by
  have cB := cBegun w
  have hR := hid (fun w1 p (P : PW w w1 p (.slice none 0 0) [] none []) => cRun P a c S hs ho hb)
  clear hs ho
  go_enter Try.func4, Try.ntmps4
  go_wp2_with fail
  refine cB.mono ?_
  rintro e w1 ⟨p, rfl, hD, k1, hp⟩
  have cR := hR.out w1 p (BegP.pw hD k1 hp)
  clear cB hD hR
  go_wp2_with fail
  refine cR.mono ?_
  rintro e1 w2 ⟨p', v', l', ra', rc', r', rfl, P, hlS⟩
  clear cR
  have cT := cTake P.D
  have hP := hid P
  have hlen := hid P.L.len
  clear P
  go_wp2_with fail
  refine cT.mono ?_
  rintro e2 w3 ⟨L, a2, c2, rfl, hL, hrow, k3, hn2, hown, hD3⟩
  have hpl : p' < w2.heap.size := hP.out.D.lt
  have hgp := hid (hP.out.nw p' (by simp))
  have kw3 : Kp (p' :: own v') w2 w3 := k3.mono (fun k hk => .inl (by simp at hk; simp [hk]))
  obtain ⟨hS3, hO3⟩ := hP.out.ref kw3 (fun k hk => .inl hk)
  have H := hid (And.intro hL (And.intro hrow (And.intro hn2 (And.intro hown (And.intro hS3 hO3)))))
  have R0 := hid (show Refl w3 w3 p' (.slice none 0 0) [] from ⟨hD3, Kp.refl _ _, by simp [own, Value.ownBlock]⟩)
  have hLr : L.length = r'.length := hL.len.trans hlen.out
  have hsrt := hid (hL.symm.srt hP.out.D.srt)
  have hgd := hid (hP.out.gd.like hL.symm)
  have hLf : L.length ≤ 2000000000001 := by rw [hLr, ← hlen.out]; omega
  have hSee := hid (fun w' (k : Kp [p'] w3 w') => show VnE.See w' a2 L from hrow.see.elim (fun _ h => h.elim (fun _ h => by
    exact (See.ofRow hrow).kept k (fun _ k hk => by have := hn2 k hk; simp; omega))))
  have hOks := hid (fun w' (k : Kp [p'] w3 w') y (hy : y ∈ L) => show VnOk w' y from (hown y hy).1.ok.keptS k (fun k hk => by have := (hown y hy).1.new k (blk_bkV hk); simp; omega))
  have hRef := hid (fun w' (k : Kp [p'] w3 w') => show VnE.See w' ra' r' ∧ ∀ x ∈ r', VnOk w' x from ⟨hS3.kept k (fun hne j hj => by have := hP.out.ap hne j hj; simp at this ⊢; exact this.1), fun y hy => (hO3 y hy).keptS k (fun j hj => by have := hP.out.rb y hy j hj; have := hgp.out; simp; omega)⟩)
  have hK0 := hid (hP.out.kp.trans k3 (fun k hk => .inr (by simp at hk; subst hk; exact hgp.out)))
  clear cT hL hrow hn2 hown hS3 hO3 hD3 kw3 k3
  obtain ⟨N, hN⟩ : ∃ N, r'.length = N := ⟨_, rfl⟩
  rw [hN] at hLr
  rw [hN]
  go_wp2_with fail
  go_loopw [9, 28] (fun s9 s28 wr => ∃ (j : Nat) (v : Value) (l : List Vn), j ≤ L.length ∧ s28 = .int .i64 j ∧ Refl w3 wr p' v l ∧ Like l (L.take j)) (fun _ s28 _ => L.length - (intOf s28).toNat)
  case atStart => exact ⟨0, _, [], Nat.zero_le _, rfl, R0.out, by simp [Like]⟩
  case round =>
    clear R0
    obtain ⟨j, v, l, hj, rfl, R, hl⟩ := hrel
    have hlj : l.length = j := by rw [hl.len, List.length_take]; omega
    by_cases hjl : j < L.length
    · have hx : L[j]? = some L[j] := by simp [hjl]
      have hx' := hid hx
      obtain ⟨g, o, ea, d0, d1, d2, d3⟩ := idAt (hSee.out wr R.kp) hx
      subst ea
      have hxm := hid (List.getElem_mem hjl)
      clear hx
      generalize L[j] = x at *
      have i0 : (0 : Int) ≤ (j : Int) := by omega
      have i1 : (j : Int) < (L.length : Int) := by omega
      have i2 : ¬ (N : Int) < (j : Int) := by omega
      obtain ⟨w4, hw4⟩ : ∃ w4, wr.alloc (.cells (VnE.c x).toArray 29) = w4 := ⟨_, rfl⟩
      have k4 : Kp [] wr w4 := by rw [← hw4]; exact (Kp.refl _ _).alloc _
      have b4 : Bx w4 wr.heap.size (VnE.c x) := by rw [← hw4]; exact Bx.new wr (VnE.c x) _
      have hz4 : wr.heap.size < w4.heap.size := by rw [← hw4]; simp
      have R4 := R.keep k4
      have cL := cLen R4.D
      rw [hlj] at cL
      have cA := cAddW R4.D x (hOks.out w4 R4.kp x hxm.out) (by omega)
      have hadd := hid (fun a c => add_end hl hsrt.out hx'.out (hgd.out x hxm.out) a c)
      have q0 := b4.get 0 _ rfl; have q1 := b4.get 1 _ rfl; have q2 := b4.get 2 _ rfl; have q3 := b4.get 3 _ rfl
      have hRr := hid R
      have hR4 := hid R4
      have hB4 := hid b4
      have hl' := hid hl
      have hoks := hid (fun w' k => hOks.out w' k x hxm.out)
      have hlt := hid R.D.ltAll
      obtain ⟨xe, xn, xa, xc, xr, xd⟩ := x
      simp only [VnE, Vn.v] at *
      clear R R4 b4 hl
      go_wp2_with fail
      refine cL.mono ?_
      rintro e3 w4' ⟨rfl, rfl⟩
      clear cL
      go_wp2_with fail
      refine cA.mono ?_
      rintro e4 w5 ⟨na, nc, hC⟩
      rw [hadd.out na nc] at hC
      obtain ⟨v5, rfl, hD5, hW5, _⟩ := hC
      have R5 := hR4.out.after hD5 hW5
      have b5 := hB4.out.keptS hW5.kp (fun hm => by have := hlt.out _ hm; omega) hz4
      have s0 := b5.get 0 _ rfl; have s1 := b5.get 1 _ rfl; have s2 := b5.get 2 _ rfl; have s3 := b5.get 3 _ rfl
      have cA2 := cAddW R5.D ⟨xe, xn, xa, xc, xr, xd⟩ (hoks.out _ R5.kp) (by simp; omega)
      have hR5 := hid R5
      simp only [Vn.v] at cA2
      clear cA R5 b5 hD5 hW5 q0 q1 q2 q3 hadd
      go_wp2_with fail
      refine cA2.mono ?_
      rintro e5 w6 ⟨nb, nd, hC⟩
      dsimp only at hC
      rw [add_twice l ⟨xe, xn, na, nc, xr, xd⟩ ⟨xe, xn, nb, nd, xr, xd⟩ rfl] at hC
      obtain ⟨v6, rfl, hD6, hW6, _⟩ := hC
      have hR6 := hid (hR5.out.after hD6 hW6)
      have hLk : Hid (Like (l ++ [⟨xe, xn, na, nc, xr, xd⟩]) (L.take (j + 1))) := by
        show Like _ _
        have hjL := hx'.out
        rw [List.take_add_one, hjL]
        exact hl'.out.append rfl
      clear cA2 hD6 hW6 s0 s1 s2 s3
      go_wp2_with fail
      exact ⟨⟨j + 1, v6, _, by omega, by go_num, hR6.out, hLk.out⟩, by simp [intOf]; omega⟩
    · have ej : j = L.length := by omega
      subst ej
      rw [List.take_length] at hl
      have hll : Hid (Like l r') := (hl.trans H.out.1).trans hP.out.L
      have hRr := hid R
      obtain ⟨w4, k4, cA, cG⟩ := allPair R.D
      have R4 := hid (R.keep k4)
      have i1 : ¬ (L.length : Int) < (L.length : Int) := by omega
      clear R hl
      go_wp2_with fail
      refine cA.mono ?_
      rintro e3 w4' ⟨rfl, hw4'⟩
      rw [hw4']
      clear hw4' w4' cA
      go_wp2_with fail
      refine cG.mono ?_
      rintro e4 w5 ⟨L1, a1, c1, rfl, hL1, hrow1, k5, hn1, hown1⟩
      have R5 := hid (R4.out.keep k5)
      obtain ⟨hS5, hO5⟩ := hRef.out w5 R5.out.kp
      have hL1f : L1.length ≤ 4000000000000 := by have := hL1.len; omega
      have cS := rSameAll a1 ra' c1 rc' L1 r' w5 (See.ofRow hrow1) hS5 (fun y hy => (hown1 y hy).1.ok) hO5 (hL1.trans hll.out) (by omega)
      rw [hN] at cS
      clear cG hL1 hrow1 hn1 hown1 hS5 hO5
      go_wp2_with fail
      refine cS.mono ?_
      rintro e5 w6 ⟨rfl, k6⟩
      have R6 := hid (R5.out.keep k6)
      obtain ⟨w7, k7, cA2, cG2⟩ := atPair R6.out.D E
      have R7 := hid (R6.out.keep k7)
      clear cS
      go_wp2_with fail
      refine cA2.mono ?_
      rintro e6 w7' ⟨rfl, hw7'⟩
      rw [hw7']
      clear hw7' w7' cA2
      go_wp2_with fail
      refine cG2.mono ?_
      rintro e7 w8 ⟨L2, a3, c3, rfl, hL2, hrow2, k8, hn3, hown2⟩
      have R8 := hid (R7.out.keep k8)
      obtain ⟨hS8, hO8⟩ := hRef.out w8 R8.out.kp
      have cT := rAt ra' rc' r' E w8 hS8 (by rw [hN]; omega)
      rw [hN] at cT
      have H8 := hid (And.intro hL2 (And.intro hrow2 (And.intro hown2 hO8)))
      have hL2f : L2.length ≤ 4000000000000 := by have := hL2.len; have := len_at E l; omega
      clear cG2 hL2 hrow2 hn3 hown2 hS8 hO8
      go_wp2_with fail
      refine cT.mono ?_
      rintro e8 w9 ⟨a4, c4, rfl, hr4, k9, hn4⟩
      have cS2 := rSameAll a3 a4 c3 c4 L2 (atV E r') w9 ((See.ofRow H8.out.2.1).keptNew k9) (See.ofRow hr4) (fun y hy => (H8.out.2.2.1 y hy).1.ok.kept k9) (ok_at fun y hy => (H8.out.2.2.2 y hy).kept k9) (H8.out.1.trans (hll.out.atV E)) (by omega)
      clear cT hr4 hn4
      go_wp2_with fail
      refine cS2.mono ?_
      rintro e9 w10 ⟨rfl, k10⟩
      have hB : Hid (Below w.heap.size w w10) := (((hK0.out.trans R8.out.kp (fun k hk => .inr (by simp at hk; subst hk; exact hgp.out))).trans k9 (by simp)).trans k10 (by simp)).below
      clear cS2
      go_wp2_with fail
      go_returns
      exact ⟨rfl, hB.out⟩
end Go.Proofs.Ytdjlefacdfdhmab
end

section
namespace Go.Proofs.Ytdjlefacdfdhmab
open Go.ChangeShapes Go.WideShapes Go.ChangeAt Go.RowKit Go.Hay
set_option linter.unusedVariables false

set_option maxRecDepth 100000 in
theorem wosTakesContract (H : Type) (enc : TypeId × Value → H) (W : World) (base : Nat) (args : Array Value) (ds gs : List (DataW H)) (before : List MemPlace)
    (hval : ∀ (j : Nat) t v, Try.f4.params[j]? = some t → args[j]? = some v → Value.okWide Try.prog W .any base t v)
    (hW : DataW.Whole enc Try.prog Try.f4.params.toList Rows.wosTakesSpec.vars false W args.toList ds gs before)
    (hsz : (DataW.weightsEach Try.prog (Try.f4.params.toList ++ (OpenSpec.ofChange Rows.wosTakesSpec).bare.plain.varTypes Try.prog) (ds ++ gs)).all (· ≤ reachBytes) = true) :
    Calls Try.prog 4 args W fun e W' => ∃ v, e = .returned v ∧ Rows.wosTakesSpec.post enc Try.prog Try.f4 false true false false W args v W' := by
  have hW' := hW
  obtain ⟨p, q, hA0, hV, rfl, hfz, hnd⟩ := hW
  have hA : DataW.TrodAll enc Try.prog W 0 (fun _ => true) true Try.f4.params.toList args.toList ds p := hA0
  rw [Try.params4] at hA hval hsz
  obtain ⟨v0, vs0, d0, ds0, p0, q0, hargs, rfl, rfl, h0, r0⟩ := trodAll_cons hA
  obtain ⟨v1, vs1, d1, ds1, p1, q1, rfl, rfl, rfl, h1, r1⟩ := trodAll_cons r0
  obtain ⟨rfl, rfl, rfl⟩ := trodAll_nil r1
  obtain rfl : args = #[v0, v1] := by cases args; simp_all
  obtain ⟨rfl, rfl⟩ := trodVars_none hV
  obtain ⟨a0, len0, cap0, rfl⟩ := okWide_slice Try.underlying38 (hval 0 38 v0 rfl rfl)
  have k0 := h0
  have lt0 : ∀ x ∈ p0, x.block < W.heap.size := by obtain ⟨m, hm⟩ := k0; exact DataW.trod_lt m _ _ _ hm
  obtain ⟨l0, rfl, hs0, hok0, hl0, hm0, hn0, hfit0, hbk0, hcp0⟩ := openWops h0
  obtain ⟨hc0, hq0⟩ := hfit0 (List.all_eq_true.2 fun x hx => List.all_eq_true.1 hsz x (by simp [DataW.weightsEach]; first | exact .inl hx | exact .inr hx | exact .inr (.inl hx) | exact .inr (.inr hx) | exact hx))
  obtain ⟨a1, rfl, rfl, rfl, w1⟩ := open_int Try.underlying22 (hval 1 22 v1 rfl rfl) h1
  have hb1 := bounds_u64 w1
  clear hA0
  refine (walkTakes a0 cap0 l0 a1 W hs0 (fun y hy => (hok0 y hy).ok (hq0 y hy)) (by omega)).mono fun e W' ⟨he, bel⟩ => ?_
  subst he
  exact ⟨_, rfl, _, _, _, [], _, [], hW', trodAll_mk1 (shut_bool Try.underlying4 _), (trodAll_cons_mk (Below.trod Try.laidOut (by kernel_rfl) (of_decide_eq_true (by kernel_rfl)) k0 bel lt0) (trodAll_cons_mk (shut_int Try.underlying22 w1) trodAll_mk0)), rfl, bel.frame _, fun h => by cases h⟩

set_option maxRecDepth 100000 in
theorem wosTakesLifted (os : Os) (started : os.Started) (H : Type) (enc : TypeId × Value → H) :
    ReturnsInHanded {} Try.checked os 4 .any (Rows.wosTakesSpec.pre6 enc Try.prog Try.f4 Rows.wosTakesRow.domain false) (Rows.wosTakesSpec.post enc Try.prog Try.f4 false true false false) := by
  refine returnsInHanded_of_change_sized (C := Try.checked) Try.own started (by kernel_rfl) Try.func4
    (ChangeSpec.witness6 (enc := enc) (C := Try.checked) false ⟨#[], #[.slice none 0 0, .int .u64 0], []⟩ 8 (by kernel_rfl) (by kernel_rfl) (by kernel_rfl) (by kernel_rfl)) ?_
  intro W base args ds gs before hval hW _ hsz _
  exact wosTakesContract H enc W base args ds gs before hval hW hsz

theorem WosTakes_holds : Rows.WosTakesSaid :=
  OpenClaim.holds_of_wide 4 Try.f4 rfl rfl rfl rfl rfl rfl rfl ⟨rfl, rfl, rfl, rfl, rfl⟩ rfl rfl rfl rfl rfl (by kernel_rfl) Try.func4 (by kernel_rfl)
    (of_decide_eq_true (by kernel_rfl)) (by unfold Func.isWrapper; first | (rw [if_pos (by decide +kernel)]; kernel_rfl) | (rw [if_neg (by decide +kernel)]; exact ⟨rfl, rfl⟩))
    (fun os started H enc _ => wosTakesLifted os started H enc)

#print axioms WosTakes_holds
end Go.Proofs.Ytdjlefacdfdhmab
end

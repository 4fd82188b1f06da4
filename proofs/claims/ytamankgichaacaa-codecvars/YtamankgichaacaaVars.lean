/- For every slice of bytes and every bound: what the reader reads as a number (at most that bound) is written by the writer as the very bytes that were read; where it fails it tells 0, and nothing is read. No condition but the form's own reach. -/
import Derived.Test.YtamankgichaacaaOpn
import Derived.SizedLaws
namespace Go.Proofs.Ytamankgichaacaa
open Go.ChangeShapes Go.WideShapes Go.ChangeAt Go.RowKit Go.Hay
set_option linter.unusedVariables false

set_option maxHeartbeats 1000000 in
set_option maxRecDepth 100000 in
theorem varsWalk (a : Option Addr) (n c : Nat) (bs : List UInt8) (most : Int) (w : World) (hs : Sees w a bs) (hn : n = bs.length) (hl : bs.length ≤ c) (hm : c ≤ maxLen) (hb : bs.length ≤ 140737488351232) (h0 : 0 ≤ most) (h1 : most < 18446744073709551616) :
    Calls Try.prog 6 #[.slice a n c, .int .u64 most] w fun e w' => e = .returned (.bool true) ∧ Below w.heap.size w w' := by
  subst hn
  unfold maxLen at hm
  go_enter Try.func6, Try.ntmps6
  go_wp2_with fail
  refine (rRead a _ c bs _ hs rfl (by omega)).mono ?_
  rintro e w1 ⟨q, D, rfl, hq, k1, hqge, hD⟩
  go_wp2_with fail
  refine (wNew _).mono ?_
  rintro e w2 ⟨p, rfl, hp, hw2, k2⟩
  have hpge : w.heap.size ≤ p := by have := k1.size; omega
  have hpq : p ≠ q := by have := hq.lt; omega
  have hpD : p ∉ D := fun h => by have := hq.dlt p h; omega
  have hq2 := hq.kept k2 (by simp) (by simp)
  have k3 := k1.trans k2 (by simp)
  clear hp hq k1 k2
  go_wp2_with fail
  refine (cAlive _).mono ?_
  rintro e w3 ⟨rfl, k4⟩
  have hq3 := hq2.kept k4 (by simp) (by simp)
  have hw3 := hw2.keptNew k4
  have k5 := k3.trans k4 (by simp)
  clear k3 k4 hq2 hw2
  go_wp2_with fail
  refine (rVar q D bs 0 most _ hq3 h0 h1).mono ?_
  rintro e w4 ⟨m, bs', e', ht, rfl, hq4, kr⟩
  have hw4 := hw3.kept kr (by simp [own, Value.ownBlock]; exact hpq)
  have k6 := stepR k5 hqge kr
  obtain ⟨hm0, hm1, hlen, hbad, hgood⟩ := varS_cases most bs h0 ht
  clear ht k5 kr hw3 hq3
  go_wp2_with fail
  refine (rErr q D _ e' _ hq4).mono ?_
  rintro e w5 ⟨rfl, rfl⟩
  by_cases he : e' = 0
  · subst he
    obtain ⟨hmm, hvar⟩ := hgood rfl
    have HV := hid hvar
    clear hbad hgood hvar
    go_wp2_with fail
    refine (wVar p _ [] m _ hw4 (by simp) hm0 hm1).mono ?_
    rintro e w6 ⟨rfl, v6, hw6, hr6⟩
    have hq6 := hq4.kept hr6.kp (by simp [own, Value.ownBlock]; exact fun h => hpq h.symm) (fun k hk h => by simp [own, Value.ownBlock] at h; subst h; exact hpD hk)
    obtain ⟨k7, o6⟩ := stepW k6 hpge (by simp [own, Value.ownBlock]) hr6
    rw [List.nil_append] at hw6
    have hvl := varB_length m
    clear hr6 hq4 k6 hw4
    go_wp2_with fail
    refine (wBytes p v6 _ _ hw6 (by omega)).mono ?_
    rintro e w7 ⟨vb, rfl, hvb, kb, ob⟩
    obtain ⟨ab, cb, rfl, hsb, _⟩ := hvb.sees
    have hq7 := hq6.kept kb (by simp) (by simp)
    have k8 := k7.trans kb (by simp)
    clear k7 kb hq6 hw6 hvb ob
    go_wp2_with fail
    refine (rLeft q D _ 0 _ hq7).mono ?_
    rintro e w8 ⟨rfl, rfl⟩
    go_wp2_with fail
    refine (cSame ab a _ _ cb c (varB m) (bs.take (bs.length - bs'.length)) _ hsb ((hs.front _).kept k8 (by simp)) rfl (by simp)).mono ?_
    rintro e w9 ⟨rfl, rfl⟩
    rw [← HV.out, beq_self_eq_true]
    go_wp2_with fail
    go_ret
    exact ⟨rfl, k8.below⟩
  · obtain ⟨rfl, rfl⟩ := hbad he
    have he' : (e' != 0) = true := by simpa using he
    clear hbad hgood
    go_wp2_with fail
    refine (rLeft q D _ e' _ hq4).mono ?_
    rintro e w6 ⟨rfl, rfl⟩
    go_wp2_with fail
    go_ret
    exact ⟨rfl, k6.below⟩

set_option maxRecDepth 100000 in
theorem varsLifted (os : Os) (started : os.Started) (H : Type) (enc : TypeId × Value → H) :
    ReturnsInHanded {} Try.checked os 6 .any (Rows.codecVarsSpec.pre6 enc Try.prog Try.f6 Rows.codecVarsRow.domain false) (Rows.codecVarsSpec.post enc Try.prog Try.f6 false true false false) := by
  refine returnsInHanded_of_change_sized (C := Try.checked) Try.own started (by kernel_rfl) Try.func6
    (ChangeSpec.witness6 (enc := enc) (C := Try.checked) false ⟨#[], #[.slice none 0 0, .int .u64 0], []⟩ 8 (by kernel_rfl) (by kernel_rfl) (by kernel_rfl) (by kernel_rfl)) ?_
  intro W base args ds gs before hval0 hW hcnd hsz0 _
  have hsz : (DataW.weightsEach Try.prog (Try.f6.params.toList ++ Rows.codecVarsSpec.plain.varTypes Try.prog) (ds ++ gs)).all (· ≤ reachBytes) = true := hsz0
  have hval : ∀ (j : Nat) t v, Try.f6.params[j]? = some t → args[j]? = some v → Value.okWide Try.prog W .any base t v := hval0
  have hW' := hW
  obtain ⟨p, q, hA0, hV, rfl, hfz, hnd⟩ := hW
  have hA : DataW.TrodAll enc Try.prog W 0 (fun _ => true) true Try.f6.params.toList args.toList ds p := hA0
  rw [Try.params6] at hA hval hsz
  obtain ⟨v0, vs0, d0, ds0, p0, q0, hargs, rfl, rfl, h0, r0⟩ := trodAll_cons hA
  obtain ⟨v1, vs1, d1, ds1, p1, q1, rfl, rfl, rfl, h1, r1⟩ := trodAll_cons r0
  obtain ⟨rfl, rfl, rfl⟩ := trodAll_nil r1
  obtain rfl : args = #[v0, v1] := by cases args; simp_all
  obtain ⟨rfl, rfl⟩ := trodVars_none hV
  obtain ⟨a0, len0, cap0, rfl⟩ := okWide_slice Try.underlying26 (hval 0 26 v0 rfl rfl)
  have k0 := h0
  have lt0 : ∀ x ∈ p0, x.block < W.heap.size := by obtain ⟨m, hm⟩ := k0; exact DataW.trod_lt m _ _ _ hm
  obtain ⟨bs, hlen, hs, hl, hm, hcap⟩ := openBytes h0
  have hr := reachBytesOf (d := d0) (List.all_eq_true.2 fun x hx => List.all_eq_true.1 hsz x (by simp [DataW.weightsEach]; exact .inl hx))
  obtain ⟨a1, rfl, rfl, rfl, w1⟩ := open_int Try.underlying27 (hval 1 27 v1 rfl rfl) h1
  have hb1 := bounds_u64 w1
  clear hA0 hval0 hsz0
  refine (varsWalk a0 len0 cap0 bs a1 W hs hlen hl hm (by omega) hb1.1 (by omega)).mono fun e W' ⟨he, bel⟩ => ?_
  subst he
  exact ⟨_, rfl, _, _, _, [], _, [], hW', trodAll_mk1 (shut_bool Try.underlying4 _), (trodAll_cons_mk (Below.trod Try.laidOut (by kernel_rfl) (of_decide_eq_true (by kernel_rfl)) k0 bel lt0) (trodAll_cons_mk (shut_int Try.underlying27 w1) trodAll_mk0)), rfl, bel.frame _, fun h => by cases h⟩

theorem CodecVars_holds : Rows.CodecVarsSaid :=
  OpenClaim.holds_of_wide 6 Try.f6 rfl rfl rfl rfl rfl rfl rfl ⟨rfl, rfl, rfl, rfl, rfl⟩ rfl rfl rfl rfl rfl (by kernel_rfl) Try.func6 (by kernel_rfl)
    (of_decide_eq_true (by kernel_rfl)) (by unfold Func.isWrapper; first | (rw [if_pos (by decide +kernel)]; kernel_rfl) | (rw [if_neg (by decide +kernel)]; exact ⟨rfl, rfl⟩))
    (fun os started H enc _ => varsLifted os started H enc)
#print axioms CodecVars_holds
end Go.Proofs.Ytamankgichaacaa

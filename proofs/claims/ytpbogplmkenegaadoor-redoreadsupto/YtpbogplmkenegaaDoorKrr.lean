/- Of all bytes the records that they have, how many bytes these take, or that they are spoilt; of all records the frame: as the reference has it; where what is given is of bulk at most 1048576. -/
import Derived.Test.YtpbogplmkenegaaDoorB12
import Derived.SizedLaws
import Derived.JoinedCond
import Derived.Deep.CondSized
section
namespace Go.Proofs.YtpbogplmkenegaaDoor
open Go.RowKit Go.Hay
set_option linter.unusedVariables false
set_option linter.unusedSimpArgs false

theorem strSame (a : List UInt8) : ((⟨a.toArray⟩ : ByteArray).toList == (⟨a.toArray⟩ : ByteArray).toList) = true := by rw [strEq]; simp
set_option maxHeartbeats 16000000 in
set_option maxRecDepth 100000 in
theorem readsWalk9 (a : Option Addr) (len c : Nat) (bs : List UInt8) (ra : Option Addr) (rc : Nat) (R : List Bs) (w : World) (ht : Tab w) (hs : Sees w a bs) (hlen : len = bs.length) (hl : bs.length ≤ c) (hm : c ≤ maxLen) (hsR : BsE.See w ra R) (hoR : ∀ y ∈ R, y.ok w) (hb : bs.length ≤ 1000000000000) (hR : R.length ≤ 1000000000000) (hRy : ∀ y ∈ R, y.bs.length ≤ 140737488351232) :
    Calls Tryd.prog 3 #[.slice a len c, .slice ra R.length rc] w fun e w' => e = .returned (.bool true) ∧ Below w.heap.size w w' := by
  subst hlen
  have HW : Hid (∀ W, Kp [] w W → Tab W ∧ Sees W a bs ∧ BsE.See W ra R ∧ ∀ y ∈ R, y.ok W) := fun W k => ⟨ht.kept k (by simp), hs.kept k (by simp), hsR.keptNew k, fun y hy => (hoR y hy).keptNew k⟩
  have a1 := hid (cReadQ a c bs w ht hs hl hm (by omega))
  have hnl := rdQ_len bs
  obtain ⟨⟨L, n, qe⟩, hq⟩ : ∃ q, Hid (rdQ bs = q) := ⟨_, rfl⟩
  obtain ⟨⟨f1, f2⟩, hf⟩ : ∃ f, Hid (frmR (bsl R) = f) := ⟨_, rfl⟩
  rw [hq.out] at a1 hnl
  dsimp only at hnl
  clear ht hs hsR hoR
  go_enter Tryd.func3, Tryd.ntmps3
  go_wp2_with fail
  refine a1.out.mono ?_
  rintro e w1 ⟨v1, rfl, hr1, k1⟩
  dsimp only at hr1
  obtain ⟨b1, c1, l1, rfl, hs1, ho1, hb1⟩ := hr1.bs
  have hl1 : l1.length = L.length := by rw [← hb1, bsl_len]
  have H1 := hid (And.intro hs1 (And.intro ho1 (And.intro hb1 k1)))
  have a2 := hid (cRefReadQ a c bs w1 (HW.out w1 k1).2.1 hl hm (by omega))
  rw [hq.out] at a2
  clear a1 hr1 hs1 ho1 hb1 k1
  go_wp2_with fail
  refine a2.out.mono ?_
  rintro e w2 ⟨v2, rfl, hr2, k2⟩
  dsimp only at hr2
  obtain ⟨b2, c2, l2, rfl, hs2, ho2, hb2⟩ := hr2.bs
  have hl2 : l2.length = L.length := by rw [← hb2, bsl_len]
  have kw2 := H1.out.2.2.2.trans k2 (by simp)
  have H2 := hid (And.intro hs2 (And.intro ho2 (And.intro hb2 (And.intro k2 kw2))))
  have a3 := hid (cFrames ra rc R w2 (HW.out w2 kw2).1 (HW.out w2 kw2).2.2.1 (HW.out w2 kw2).2.2.2 (by omega))
  rw [hf.out] at a3
  clear a2 hr2 hs2 ho2 hb2 k2 kw2
  go_wp2_with fail
  refine a3.out.mono ?_
  rintro e w3 ⟨b3, c3, rfl, hr3, k3, _⟩
  dsimp only at hr3
  obtain ⟨b3', c3', e3, hs3, -⟩ := hr3.sees
  cases e3
  have kw3 := H2.out.2.2.2.2.trans k3 (by simp)
  have H3 := hid (And.intro hs3 (And.intro k3 kw3))
  have a4 := hid (cRefFrames ra rc R w3 (HW.out w3 kw3).2.2.1 (HW.out w3 kw3).2.2.2 (by omega) hRy)
  rw [hf.out] at a4
  clear a3 hr3 hs3 k3 kw3
  go_wp2_with fail
  refine a4.out.mono ?_
  rintro e w4 ⟨b4, c4, rfl, hr4, k4, _⟩
  dsimp only at hr4
  obtain ⟨b4', c4', e4, hs4, -⟩ := hr4.sees
  cases e4
  have kw4 := H3.out.2.2.trans k4 (by simp)
  have a5 := hid (cAliveQ w4 (HW.out w4 kw4).1)
  have H4 := hid (And.intro hs4 (And.intro k4 kw4))
  clear a4 hr4 hs4 k4 kw4
  go_wp2_with fail
  refine a5.out.mono ?_
  rintro e w5 ⟨rfl, k5⟩
  have k35 := H4.out.2.1.trans k5 (by simp)
  have k25 := H3.out.2.1.trans k35 (by simp)
  have k15 := H2.out.2.2.2.1.trans k25 (by simp)
  have a6 := cSameQ b1 b2 c1 c2 l1 l2 w5 (H1.out.1.keptNew k15) (H2.out.1.keptNew k25) (fun y hy => (H1.out.2.1 y hy).1.keptNew k15) (fun y hy => (H2.out.2.1 y hy).1.keptNew k25) (by omega) (by omega)
  rw [H1.out.2.2.1, H2.out.2.2.1, show decide (L = L) = true by simp, hl1, hl2] at a6
  have H6 := hid a6
  have H5 := hid (And.intro (H3.out.1.kept k35 (by simp)) (And.intro (H4.out.1.kept k5 (by simp)) (H4.out.2.2.trans k5 (by simp))))
  clear a5 a6 k5 k35 k25 k15 H1 H2 H3 H4
  go_wp2_with fail
  refine H6.out.mono ?_
  rintro e w6 ⟨rfl, k6⟩
  have cv1 := convSees (H5.out.1.kept k6 (by simp)) c3
  have cv2 := convSees (H5.out.2.1.kept k6 (by simp)) c4
  have hse := strSame f1
  have HF := hid (H5.out.2.2.trans k6 (by simp))
  have i1 : ((n : Int) == (n : Int)) = true := by simp
  have i2 : (qe == qe) = true := by simp
  have i3 : (f2 == f2) = true := by simp
  clear H5 H6 k6
  go_wp2_with fail
  go_ret
  exact ⟨rfl, HF.out.below⟩
end Go.Proofs.YtpbogplmkenegaaDoor
end

section
namespace Go.Proofs.YtpbogplmkenegaaDoor
open Go.ChangeShapes Go.WideShapes Go.ChangeAt Go.RowKit Go.Hay
set_option linter.unusedVariables false

set_option maxRecDepth 100000 in
theorem redoReadsContract (H : Type) (enc : TypeId × Value → H) (W : World) (base : Nat) (args : Array Value) (ds gs : List (DataW H)) (before : List MemPlace)
    (hval : ∀ (j : Nat) t v, Tryd.f3.params[j]? = some t → args[j]? = some v → Value.okWide Tryd.prog W .any base t v)
    (hW : DataW.Whole enc Tryd.prog Tryd.f3.params.toList Rows.redoReadsSpec.vars false W args.toList ds gs before)
    (hsz : (DataW.weightsEach Tryd.prog (Tryd.f3.params.toList ++ (Rows.OpenSpec.upto Rows.redoReadsSpec).bare.plain.varTypes Tryd.prog) (ds ++ gs)).all (· ≤ reachBytes) = true)
    (hk : Rows.uptoSmall H (ds ++ gs) = true)
    (hL : laidMetH Tryd.prog Rows.redoReadsUptoRow.laid W) :
    Calls Tryd.prog 3 args W fun e W' => ∃ v, e = .returned v ∧ Rows.redoReadsSpec.post enc Tryd.prog Tryd.f3 false true false false W args v W' := by
  have hW' := hW
  obtain ⟨p, q, hA0, hV, rfl, hfz, hnd⟩ := hW
  have hA : DataW.TrodAll enc Tryd.prog W 0 (fun _ => true) true Tryd.f3.params.toList args.toList ds p := hA0
  rw [Tryd.params3] at hA hval hsz
  obtain ⟨v0, vs0, d0, ds0, p0, q0, hargs, rfl, rfl, h0, r0⟩ := trodAll_cons hA
  obtain ⟨v1, vs1, d1, ds1, p1, q1, rfl, rfl, rfl, h1, r1⟩ := trodAll_cons r0
  obtain ⟨rfl, rfl, rfl⟩ := trodAll_nil r1
  obtain rfl : args = #[v0, v1] := by cases args; simp_all
  obtain ⟨rfl, rfl⟩ := trodVars_none hV
  obtain ⟨a0, len0, cap0, rfl⟩ := okWide_slice Tryd.underlying22 (hval 0 22 v0 rfl rfl)
  have k0 := h0
  have lt0 : ∀ x ∈ p0, x.block < W.heap.size := by obtain ⟨m, hm⟩ := k0; exact DataW.trod_lt m _ _ _ hm
  obtain ⟨bs0, hlen0, hs0, hl0, hm0, hcap0⟩ := openBytes h0
  have hr0 := reachBytesOf (d := d0) (List.all_eq_true.2 fun x hx => List.all_eq_true.1 hsz x (by simp [DataW.weightsEach]; first | exact .inl hx | exact .inr hx | exact .inr (.inl hx) | exact .inr (.inr hx) | exact hx))
  obtain ⟨a1, len1, cap1, rfl⟩ := okWide_slice Tryd.underlying23 (hval 1 23 v1 rfl rfl)
  have k1 := h1
  have lt1 : ∀ x ∈ p1, x.block < W.heap.size := by obtain ⟨m, hm⟩ := k1; exact DataW.trod_lt m _ _ _ hm
  obtain ⟨l1, rfl, hs1, hok1, hl1, hm1, hn1, hfit1, hbk1, hcp1⟩ := openBlists h1
  obtain ⟨hc1, hq1⟩ := hfit1 (List.all_eq_true.2 fun x hx => List.all_eq_true.1 hsz x (by simp [DataW.weightsEach]; first | exact .inl hx | exact .inr hx | exact .inr (.inl hx) | exact .inr (.inr hx) | exact hx))
  have hbk := of_decide_eq_true hk
  simp only [List.append_nil, Rows.uptoBulkAll] at hbk
  have hc0 := bulk_cap d0
  clear hA0
  refine (readsWalk9 a0 len0 cap0 bs0 a1 cap1 l1 W (table hL) hs0 hlen0 hl0 hm0 hs1 hok1 (by omega) (by omega) (fun y hy => hq1 y hy)).mono fun e W' ⟨he, bel⟩ => ?_
  subst he
  exact ⟨_, rfl, _, _, _, [], _, [], hW', trodAll_mk1 (shut_bool Tryd.underlying4 _), (trodAll_cons_mk (Below.trod Tryd.laidOut (by kernel_rfl) (of_decide_eq_true (by kernel_rfl)) k0 bel lt0) (trodAll_cons_mk (Below.trod Tryd.laidOut (by kernel_rfl) (of_decide_eq_true (by kernel_rfl)) k1 bel lt1) trodAll_mk0)), rfl, bel.frame _, fun h => by cases h⟩

set_option maxRecDepth 100000 in
theorem redoReadsLifted (os : Os) (started : os.Started) (H : Type) (enc : TypeId × Value → H) (F : Stop.Interp) :
    ReturnsInHanded {} Tryd.checked os 3 .any ((Rows.OpenSpec.upto Rows.redoReadsSpec).preRow enc Tryd.prog Tryd.f3 Rows.redoReadsUptoRow.domain false Rows.redoReadsUptoRow.laid) (((Rows.OpenSpec.upto Rows.redoReadsSpec).at F).post enc Tryd.prog Tryd.f3 false true false false) := by
  refine returnsInHanded_of_row (C := Tryd.checked) (s := Rows.OpenSpec.upto Rows.redoReadsSpec) Tryd.own started (by kernel_rfl) Tryd.func3
    (witness_row_at (enc := enc) (C := Tryd.checked) false ({ World.holding Tryd.prog os ⟨#[], #[], []⟩ with heap := (World.holding Tryd.prog os ⟨#[], #[], []⟩).heap.modify 0 fun
      | .cells _ t frozen => .cells tabCells t frozen
      | o => o }) #[.slice none 0 0, .slice none 0 0] rfl (by kernel_rfl) (by kernel_rfl) (by kernel_rfl)
      (OpenSpec.preRow_of_cond (x := ([.nil, .nil], [], [])) 8 (by kernel_rfl) (by kernel_rfl) (fun k hk => by cases hk; kernel_rfl) (by kernel_rfl) (laidMet_of_run' 8 (by kernel_rfl) (by kernel_rfl)))) ?_
  intro W base args ds gs before hval hW _ hcond hsz hL _ _
  exact redoReadsContract H enc W base args ds gs before hval hW hsz (hcond _ rfl) hL

theorem redoReadsSaid : Rows.RedoReadsUptoSaid :=
  OpenClaim.holds_of_cond 3 Tryd.f3 rfl rfl rfl rfl rfl rfl rfl ⟨rfl, rfl, rfl, rfl, rfl⟩ rfl rfl rfl rfl rfl (by kernel_rfl) Tryd.func3 (by kernel_rfl)
    (of_decide_eq_true (by kernel_rfl)) (by unfold Func.isWrapper; first | (rw [if_pos (by decide +kernel)]; kernel_rfl) | (rw [if_neg (by decide +kernel)]; exact ⟨rfl, rfl⟩))
    (fun os started H enc _ F => by rw [OpenClaim.pre_eq_preRow]; exact redoReadsLifted os started H enc F)

theorem redoReadsPlain (f : FuncId) (fn : Func) (hf : Tryd.pinned.checked.prog.funcNamed "hayloft/hayloftlaw09.RedoReads" = some f) (hfn : Tryd.pinned.checked.prog.funcs[f]? = some fn) :
    false = Tryd.pinned.checked.prog.looks [] ∧ ∀ (j : Nat) t, fn.params[j]? = some t → Tryd.pinned.checked.prog.wantsStandIn t = false := by
  obtain rfl : f = 3 := Option.some.inj ((show Tryd.prog.funcNamed "hayloft/hayloftlaw09.RedoReads" = some 3 by kernel_rfl).symm.trans hf) |>.symm
  obtain rfl : fn = Tryd.f3 := (Option.some.inj (Tryd.func3.symm.trans hfn)).symm
  refine ⟨by kernel_rfl, fun j t ht => ?_⟩
  rw [Tryd.params3] at ht
  have hm := Array.mem_of_getElem? ht
  have h2 : t = 22 ∨ t = 23 := by first | (simpa using hm) | (rcases (show t = 22 ∨ t = 23 from by simpa using hm) with h | h <;> simp [h])
  rcases h2 with rfl | rfl
  · exact (show Tryd.prog.wantsStandIn 22 = false by kernel_rfl)
  · exact (show Tryd.prog.wantsStandIn 23 = false by kernel_rfl)

theorem RedoReads_holds : Rows.RedoReadsUptoCardSaid :=
  Claim7.holds_tied_plain_at .later [] _ _ _ _ redoReadsSaid (fun _ h => by cases h) (by kernel_rfl) (fun _ h => by cases h) redoReadsUpto_row_tie rfl ⟨rfl, rfl⟩ (by kernel_rfl) rfl redoReadsPlain (by kernel_rfl)
#print axioms RedoReads_holds
end Go.Proofs.YtpbogplmkenegaaDoor
end
